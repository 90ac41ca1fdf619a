/- Several texts in one. -/
import Derived.Test.YtjnbapddfhpcnaaZGAK
import Derived.Test.YtjnbapddfhpcnaaZGAJ
import Derived.Test.YtjnbapddfhpcnaaZGAJ
import Derived.Test.YtjnbapddfhpcnaaZGAC
import Derived.Test.YtjnbapddfhpcnaaZGAF
import Derived.Test.YtjnbapddfhpcnaaZGAF

/- AddCuts: the specification, where something is not right. -/
namespace Go.Proofs.Ytjnbapddfhpcnaa
set_option linter.unusedVariables false
set_option linter.unusedSimpArgs false
open Go.RowKit

set_option maxHeartbeats 1000000 in
set_option maxRecDepth 100000 in
theorem specAdd_no (a b e : Option Addr) (c1 c2 c3 : Nat) (ds : List Dc) (xs ys : List Iw) (n m : Nat) (hn : xs.length = n) (hm : ys.length = m) (w : World) (hd : RdD w a ds) (hx : RdII w b xs) (hy : RdII w e ys)
    (hno : cutR ds (xs.map Iw.ks) = false ∨ (cutR ds (xs.map Iw.ks) = true ∧ cutR ds (ys.map Iw.ks) = false)) :
    Calls Try.prog 6 #[.slice a ds.length c1, .agg #[.slice b n c2], .agg #[.slice e m c3]] w fun en w' => en = .returned (.tuple #[.agg #[.slice none 0 0], .bool false]) ∧ Below w.heap.size w w' := by
  have HC1 := kide (fun (u : World) (hu : Below w.heap.size w u) => specCuts_any a b c1 c2 n ds xs u (hd.later hu) (hx.later hu) hn)
  have HC2 := kide (fun (u : World) (hu : Below w.heap.size w u) => specCuts_any a e c1 c3 m ds ys u (hd.later hu) (hy.later hu) hm)
  have b1 : Below w.heap.size w (((w.alloc (Obj.cells #[.slice b n c2] 28)).alloc (Obj.cells #[.slice e m c3] 28)).alloc (Obj.cells #[.slice none 0 0] 28)) := (((Below.refl _ _).alloc (Nat.le_refl _) _).alloc (by simp) _).alloc (by simp; omega) _
  have b3 : Below ((w.alloc (Obj.cells #[.slice b n c2] 28)).alloc (Obj.cells #[.slice e m c3] 28)).heap.size ((w.alloc (Obj.cells #[.slice b n c2] 28)).alloc (Obj.cells #[.slice e m c3] 28)) (((w.alloc (Obj.cells #[.slice b n c2] 28)).alloc (Obj.cells #[.slice e m c3] 28)).alloc (Obj.cells #[.slice none 0 0] 28)) := (Below.refl _ _).alloc (Nat.le_refl _) _
  have x5 := (Bz.new (w.alloc (Obj.cells #[.slice b n c2] 28)) #[.slice e m c3] 28).later b3
  have x6 := Bz.new ((w.alloc (Obj.cells #[.slice b n c2] 28)).alloc (Obj.cells #[.slice e m c3] 28)) #[.slice none 0 0] 28
  simp only [World.size_alloc] at x5 x6
  have B1 := kide b1
  have X5 := kide x5
  have X6 := kide x6
  clear b1 b3 x5 x6 hx hy hd hn hm
  rcases hno with h1 | ⟨h1, h2⟩
  · rw [h1] at HC1
    clear HC2 h1
    go_enter Try.func6, Try.ntmps6
    go_wp2_with fail
    generalize ((w.alloc (Obj.cells #[.slice b n c2] 28)).alloc (Obj.cells #[.slice e m c3] 28)).alloc (Obj.cells #[.slice none 0 0] 28) = w0 at *
    refine Calls.mono (HC1.out w0 B1.out) ?_
    rintro en w1 ⟨rfl, hb1⟩
    have B11 := kide (B1.out.trans (hb1.mono B1.out.size))
    have X61 := kide (X6.out.later hb1)
    have r0 := X61.out.cell 0
    have f0 := X61.out.froz 0
    simp at r0
    clear hb1 B1 X5 X6
    go_wp2_with fail
    have XR := X61.out.set 0 (.slice none 0 0)
    have r1 := XR.cell 0
    simp at r1
    refine bodyPost_ret (v := .tuple #[.agg #[.slice none 0 0], .bool false]) (by simp [results, Try.results6, go_sem, r1]) rfl ?_
    exact ⟨rfl, B11.out.setCell (by show w.heap.size ≤ w.heap.size + 1 + 1; omega) _⟩
  · rw [h1] at HC1
    rw [h2] at HC2
    clear h1 h2
    go_enter Try.func6, Try.ntmps6
    go_wp2_with fail
    generalize ((w.alloc (Obj.cells #[.slice b n c2] 28)).alloc (Obj.cells #[.slice e m c3] 28)).alloc (Obj.cells #[.slice none 0 0] 28) = w0 at *
    refine Calls.mono (HC1.out w0 B1.out) ?_
    rintro en w1 ⟨rfl, hb1⟩
    have B11 := kide (B1.out.trans (hb1.mono B1.out.size))
    have X51 := kide (X5.out.later hb1)
    have X61 := kide (X6.out.later hb1)
    have k5 := X51.out.cell 0
    have l5 := X51.out.lt
    simp at k5
    clear hb1 B1 X5 X6
    go_wp2_with fail
    refine Calls.mono (HC2.out w1 B11.out) ?_
    rintro en w2 ⟨rfl, hb2⟩
    have B21 := kide (B11.out.trans (hb2.mono B11.out.size))
    have X62 := kide (X61.out.later hb2)
    have r0 := X62.out.cell 0
    have f0 := X62.out.froz 0
    simp at r0
    clear hb2 B11 X51 X61 k5 l5
    go_wp2_with fail
    have XR := X62.out.set 0 (.slice none 0 0)
    have r1 := XR.cell 0
    simp at r1
    refine bodyPost_ret (v := .tuple #[.agg #[.slice none 0 0], .bool false]) (by simp [results, Try.results6, go_sem, r1]) rfl ?_
    exact ⟨rfl, B21.out.setCell (by show w.heap.size ≤ w.heap.size + 1 + 1; omega) _⟩

end Go.Proofs.Ytjnbapddfhpcnaa

/- AddCuts: the specification, where all is right. -/
namespace Go.Proofs.Ytjnbapddfhpcnaa
set_option linter.unusedVariables false
set_option linter.unusedSimpArgs false
open Go.RowKit

theorem cell_far {u : World} {G Y b o : Nat} {x v : Value} (hl : u.cell? ⟨b, o, none⟩ = some v) (h : ¬ b = G) : (u.setCell ⟨G, Y, none⟩ x).drew.cell? ⟨b, o, none⟩ = some v :=
  (World.cell?_of_block (w := u) (w' := (u.setCell ⟨G, Y, none⟩ x).drew) (a := ⟨b, o, none⟩) ((gsc u ⟨G, Y, none⟩ x).block b (block_lt_of_cell hl) (fun e => h (Option.some.inj e)))).trans hl

/-- The marks of both, the second's as far as they have been made. -/
def mkB (xs ys : List (List Int)) (v : Nat) (t : List Int) (a p : Nat) : Bool := mkA xs a p || (decide (a < v) && mkA ys a p) || (decide (a = v) && decide ((p : Int) ∈ t))
theorem mkB_zero (xs ys : List (List Int)) : mkB xs ys 0 [] = mkA xs := by
  funext a p
  simp [mkB]
theorem mkB_snoc (xs ys : List (List Int)) (v : Nat) (t : List Int) (Y : Nat) : mkB xs ys v (t ++ [(Y : Int)]) = fun a q => if a = v ∧ q = Y then true else mkB xs ys v t a q := by
  funext a q
  unfold mkB
  by_cases e1 : a = v
  · by_cases e2 : q = Y
    · simp [e1, e2]
    · have e3 : ¬ (q : Int) = (Y : Int) := by omega
      simp [e1, e2, e3]
  · simp [e1]
theorem mkB_next (xs ys : List (List Int)) (v : Nat) : mkB xs ys v (ys.getD v []) = mkB xs ys (v + 1) [] := by
  funext a q
  unfold mkB mkA
  by_cases e1 : a = v
  · subst e1; simp
  · by_cases e2 : a < v
    · have : a < v + 1 := by omega
      simp [e1, e2, this]
    · have : ¬ a < v + 1 := by omega
      simp [e1, e2, this]

set_option maxHeartbeats 1000000 in
set_option maxRecDepth 100000 in
theorem specAdd_yes (a b e : Option Addr) (c1 c2 c3 : Nat) (ds : List Dc) (xs ys : List Iw) (n : Nat) (hn : xs.length = n) (hm : ys.length = n) (w : World) (hd : RdD w a ds) (hx : RdII w b xs) (hy : RdII w e ys)
    (hcx : cutR ds (xs.map Iw.ks) = true) (hcy : cutR ds (ys.map Iw.ks) = true) :
    Calls Try.prog 6 #[.slice a ds.length c1, .agg #[.slice b n c2], .agg #[.slice e n c3]] w fun en w' => ∃ rv vs B, en = .returned (.tuple #[.agg #[rv], .bool true]) ∧ w.heap.size ≤ B ∧ w'.ownsRow B 46 1 rv ds.length vs ∧ Rws w' B vs (rowsT (mkB (xs.map Iw.ks) (ys.map Iw.ks) n []) (wdA ds) ds.length) ∧ Below w.heap.size w w' := by
  have HC1 := kide (fun (u : World) (hu : Below w.heap.size w u) => specCuts_any a b c1 c2 n ds xs u (hd.later hu) (hx.later hu) hn)
  have HC2 := kide (fun (u : World) (hu : Below w.heap.size w u) => specCuts_any a e c1 c3 n ds ys u (hd.later hu) (hy.later hu) hm)
  have HMK := kide (fun (u : World) (hu : Below w.heap.size w u) => l6Marks_any a b c1 c2 n ds xs u (hd.later hu) (hx.later hu) hn hcx)
  rw [hcx] at HC1
  rw [hcy] at HC2
  have b1 : Below w.heap.size w (((w.alloc (Obj.cells #[.slice b n c2] 28)).alloc (Obj.cells #[.slice e n c3] 28)).alloc (Obj.cells #[.slice none 0 0] 28)) := (((Below.refl _ _).alloc (Nat.le_refl _) _).alloc (by simp) _).alloc (by simp; omega) _
  have b2 : Below (w.alloc (Obj.cells #[.slice b n c2] 28)).heap.size (w.alloc (Obj.cells #[.slice b n c2] 28)) (((w.alloc (Obj.cells #[.slice b n c2] 28)).alloc (Obj.cells #[.slice e n c3] 28)).alloc (Obj.cells #[.slice none 0 0] 28)) := ((Below.refl _ _).alloc (Nat.le_refl _) _).alloc (by simp) _
  have b3 : Below ((w.alloc (Obj.cells #[.slice b n c2] 28)).alloc (Obj.cells #[.slice e n c3] 28)).heap.size ((w.alloc (Obj.cells #[.slice b n c2] 28)).alloc (Obj.cells #[.slice e n c3] 28)) (((w.alloc (Obj.cells #[.slice b n c2] 28)).alloc (Obj.cells #[.slice e n c3] 28)).alloc (Obj.cells #[.slice none 0 0] 28)) := (Below.refl _ _).alloc (Nat.le_refl _) _
  have x4 := (Bz.new w #[.slice b n c2] 28).later b2
  have x5 := (Bz.new (w.alloc (Obj.cells #[.slice b n c2] 28)) #[.slice e n c3] 28).later b3
  have x6 := Bz.new ((w.alloc (Obj.cells #[.slice b n c2] 28)).alloc (Obj.cells #[.slice e n c3] 28)) #[.slice none 0 0] 28
  simp only [World.size_alloc] at x5 x6
  have B1 := kide b1
  have X4 := kide x4
  have X5 := kide x5
  have X6 := kide x6
  have HX := kide hx
  have HY := kide hy
  have HN := kide (And.intro hn hm)
  have hcx2 := hcx
  simp only [cutR, Bool.and_eq_true, decide_eq_true_eq] at hcx2
  have hcy2 := hcy
  simp only [cutR, Bool.and_eq_true, decide_eq_true_eq] at hcy2
  have hdo := dclR_iff.1 hcx2.1.1
  have h60 : ds.length ≤ 60 := hdo.1
  have HWD : Hid (∀ i, i < ds.length → 2 ≤ wdA ds i ∧ wdA ds i ≤ 5000) := fun i hi => by
    have h9 := hdo.2.1 (ds[i]) (List.getElem_mem _)
    simp only [dcOk, Bool.and_eq_true, wOk, decide_eq_true_eq] at h9
    have h8 : wdA ds i = (ds[i]).2.toNat + 1 := by simp [wdA, List.getD, List.getElem?_eq_getElem hi]
    rw [h8]
    omega
  have HND : Hid (n = ds.length) := by
    have h9 := hcx2.1.2
    show n = ds.length
    rw [← hn]
    simpa using h9
  have hn60 : n ≤ 60 := by rw [HND.out]; exact h60
  have HCL := kide hcy2.2
  clear b1 b2 b3 x4 x5 x6 hx hy hd hn hm hcx hcy hcx2 hcy2 hdo
  go_enter Try.func6, Try.ntmps6
  go_wp2_with fail
  generalize ((w.alloc (Obj.cells #[.slice b n c2] 28)).alloc (Obj.cells #[.slice e n c3] 28)).alloc (Obj.cells #[.slice none 0 0] 28) = w0 at *
  refine Calls.mono (HC1.out w0 B1.out) ?_
  rintro en w1 ⟨rfl, hb1⟩
  have B11 := kide (B1.out.trans (hb1.mono B1.out.size))
  have X41 := kide (X4.out.later hb1)
  have X51 := kide (X5.out.later hb1)
  have X61 := kide (X6.out.later hb1)
  have k5 := X51.out.cell 0
  have l5 := X51.out.lt
  simp at k5
  clear hb1 B1 X4 X5 X6
  go_wp2_with fail
  refine Calls.mono (HC2.out w1 B11.out) ?_
  rintro en w2 ⟨rfl, hb2⟩
  have B21 := kide (B11.out.trans (hb2.mono B11.out.size))
  have X42 := kide (X41.out.later hb2)
  have X52 := kide (X51.out.later hb2)
  have X62 := kide (X61.out.later hb2)
  have k4 := X42.out.cell 0
  have l4 := X42.out.lt
  simp at k4
  clear hb2 B11 X41 X51 X61 k5 l5
  go_wp2_with fail
  refine Calls.mono (HMK.out w2 B21.out) ?_
  rintro en w3 ⟨mv, g, rfl, hmb, hb3⟩
  have B31 := kide (B21.out.trans (hb3.mono B21.out.size))
  have B21S := kide B21.out.size
  have X53 := kide (X52.out.later hb3)
  have X63 := kide (X62.out.later hb3)
  have MB0 := kide hmb
  obtain ⟨ma, mc, rfl⟩ := own_form hmb.row
  clear hb3 hmb B21 X42 X52 X62 k4 l4 HC1 HC2 HMK
  have hz2 : w.heap.size ≤ w2.heap.size := B21S.out
  go_wp2_with fail
  go_loopw [9] (fun iv wr => ∃ v : Nat, v ≤ n ∧ iv = .int .i64 (v : Int) ∧ Mb wr w2.heap.size (.slice ma ds.length mc) ds.length g (wdA ds) (mkB (xs.map Iw.ks) (ys.map Iw.ks) v []) ∧ Bz wr (w.heap.size + 1) #[.slice e n c3] 28 ∧ Bz wr (w.heap.size + 1 + 1) #[.slice none 0 0] 28 ∧ Below w.heap.size w wr) (fun iv _ => n - (intOf iv).toNat)
  case atStart => exact ⟨0, Nat.zero_le _, rfl, by rw [mkB_zero]; exact MB0.out, X53.out, X63.out, B31.out⟩
  case round =>
    obtain ⟨v, hv, rfl, hmb, hx5, hx6, hbel⟩ := hrel
    have b0 := hx5.cell 0
    have lb := hx5.lt
    simp at b0
    by_cases hlt : v < n
    · have i0 : (v : Int) < (n : Int) := by omega
      have i1 : (v : Int) ≥ 0 := by omega
      have hyl : v < ys.length := by rw [HN.out.2]; exact hlt
      obtain ⟨y, hyk⟩ : ∃ y, ys[v]? = some y := ⟨ys[v], List.getElem?_eq_getElem hyl⟩
      obtain ⟨ya, yc, yk⟩ := y
      have HLT := kide hlt
      have HYK := kide hyk
      have HM1 := kide hmb
      have H51 := kide hx5
      have H61 := kide hx6
      have HB1 := kide hbel
      clear hmb hx5 hx6 hbel hlt hyl hyk hv B31 X53 X63 MB0
      go_wp2_with fail
      go_loopw [10] (fun jv wr2 => ∃ j : Nat, j ≤ yk.length ∧ jv = .int .i64 (j : Int) ∧ Mb wr2 w2.heap.size (.slice ma ds.length mc) ds.length g (wdA ds) (mkB (xs.map Iw.ks) (ys.map Iw.ks) v (yk.take j)) ∧ Bz wr2 (w.heap.size + 1) #[.slice e n c3] 28 ∧ Bz wr2 (w.heap.size + 1 + 1) #[.slice none 0 0] 28 ∧ Below w.heap.size w wr2) (fun jv _ => yk.length - (intOf jv).toNat)
      case atStart => exact ⟨0, Nat.zero_le _, rfl, HM1.out, H51.out, H61.out, HB1.out⟩
      case round =>
        obtain ⟨j, hj, rfl, hmb2, hx52, hx62, hb2⟩ := hrel
        obtain ⟨-, h9 | ⟨eb, eo, rfl, hec⟩⟩ := HY.out
        · have := HN.out.2; have := HLT.out; rw [h9] at *; simp at *; omega
        have hyw := hec v _ HYK.out
        have le0 : eb < w.heap.size := block_lt_of_cell hyw.1
        obtain ⟨f0, f1, f2⟩ := hyw.later hb2
        simp only [] at f0 f1 f2 hj
        have b1 := hx52.cell 0
        have lb1 := hx52.lt
        simp at b1
        by_cases hjl : j < yk.length
        · have j0 : (j : Int) < (yk.length : Int) := by omega
          have j1 : (j : Int) ≥ 0 := by omega
          obtain ⟨-, -, h9 | ⟨yb, yo, hya, hyc⟩⟩ := hyw.2
          · simp only [] at h9; rw [h9] at hjl; simp at hjl
          simp only [] at hya hyc
          have ly0 : yb < w.heap.size := block_lt_of_cell (hyc j hjl)
          have y0 := (kcell hb2 _ _ ly0).trans (hyc j hjl)
          rw [hya] at f0
          have hyin : 0 < yk.getD j 0 ∧ yk.getD j 0 < (wdA ds v : Int) := by
            obtain ⟨d, hdk⟩ : ∃ d, ds[v]? = some d := ⟨_, List.getElem?_eq_getElem (show v < ds.length by rw [← HND.out]; exact HLT.out)⟩
            have h8 := (risR_all (cutL_at (c := yk) HCL.out hdk (by rw [List.getElem?_map, HYK.out]; rfl))).1 (yk.getD j 0) (by rw [List.getD, List.getElem?_eq_getElem hjl]; exact List.getElem_mem _)
            have h7 : wdA ds v = d.2.toNat + 1 := by simp [wdA, List.getD, hdk]
            rw [h7]
            omega
          have HTK : Hid (yk.take (j + 1) = yk.take j ++ [yk.getD j 0]) := by
            show _ = _
            rw [List.take_add_one, List.getElem?_eq_getElem hjl, Option.toList_some, List.getD, List.getElem?_eq_getElem hjl]
            rfl
          generalize yk.getD j 0 = y at *
          obtain ⟨Y, hY⟩ : ∃ Y : Nat, y = (Y : Int) := ⟨y.toNat, by omega⟩
          subst hY
          have hvd : v < ds.length := by rw [← HND.out]; exact HLT.out
          have hvd2 : (v : Int) < (ds.length : Int) := by omega
          have hYW : Y < wdA ds v := by omega
          have y1 : (Y : Int) ≥ 0 := by omega
          have y2 : (Y : Int) < (wdA ds v : Int) := by omega
          obtain ⟨gm, rfl⟩ : ∃ gm, ma = some ⟨gm, 0, none⟩ := by
            rcases hmb2.row.2 with ⟨e, h0⟩ | ⟨gm, cap, cur, e, -⟩
            · omega
            · cases e; exact ⟨gm, rfl⟩
          have m0 : wr.cell? ⟨gm, v, none⟩ = some (.slice (some ⟨g v, 0, none⟩) (wdA ds v) (wdA ds v)) := by
            have h9 := World.ownsRow.cells hmb2.row (g := gm) rfl v (.slice (some ⟨g v, 0, none⟩) (wdA ds v) (wdA ds v)) (by simp [rws, hvd])
            rw [Addr.add_lit] at h9
            simpa using h9
          have hr2 := (hmb2.each v hvd).2
          have p0 := hr2.cell hYW
          have p1 := hr2.frozen Y
          have hge := (hmb2.each v hvd).1
          have n1 : ¬ gm = g v := fun e => by
            obtain ⟨cc, hh, -⟩ := hr2
            exact own_typed hmb2.row hh (by decide) (by rw [← e]; rfl)
          have n2 : ¬ w.heap.size + 1 = g v := fun e => by
            obtain ⟨cc, hh, -⟩ := hr2
            rw [← e] at hh
            have h8 := (show wr.heap[w.heap.size + 1]? = _ from hx52).symm.trans hh
            simp at h8
          have n2' : ¬ w.heap.size + 1 + 1 = g v := fun e => by
            obtain ⟨cc, hh, -⟩ := hr2
            rw [← e] at hh
            have h8 := (show wr.heap[w.heap.size + 1 + 1]? = _ from hx62).symm.trans hh
            simp at h8
          have n3 : ¬ eb = g v := by omega
          have n4 : ¬ yb = g v := by omega
          have HM2 := kide (hmb2.mark (p := Y) hvd)
          have H52 := kide (hx52.grown (gsc wr ⟨g v, Y, none⟩ (.bool true)) (by simpa using n2))
          have H62 := kide (hx62.grown (gsc wr ⟨g v, Y, none⟩ (.bool true)) (by simpa using n2'))
          have HB2 := kide (show Below w.heap.size w (wr.setCell ⟨g v, Y, none⟩ (.bool true)) from hb2.setCell (by show w.heap.size ≤ g v; omega) _)
          have HJL := kide hjl
          have q0 := cell_far (Y := Y) (x := .bool true) b1 n2
          have q1 := cell_far (Y := Y) (x := .bool true) m0 n1
          have q2 := cell_far (Y := Y) (x := .bool true) f0 n3
          have q3 := cell_far (Y := Y) (x := .bool true) y0 n4
          clear hr2 hmb2 hx52 hx62 hb2 hjl hyin hec hyw hyc hge hya f2 n2'
          go_wp2_with fail
          go_region_held3 (fun u => u.cell? ⟨w.heap.size + 1, 0, none⟩ = some (Value.slice (some ⟨eb, eo, none⟩) n c3) ∧ u.cell? ⟨gm, v, none⟩ = some (.slice (some ⟨g v, 0, none⟩) (wdA ds v) (wdA ds v)) ∧ u.cell? ⟨eb, eo + v, none⟩ = some (.slice (some ⟨yb, yo, none⟩) yk.length yc) ∧ u.cell? ⟨yb, yo + j, none⟩ = some (.int .i64 (Y : Int))) (simp [*]) (fail)
          go_wp2_with fail
          go_roundw
          case rel =>
            refine ⟨j + 1, HJL.out, by go_num, ?_⟩
            rw [HTK.out, mkB_snoc]
            have hbd : Below (wr.setCell ⟨g v, Y, none⟩ (.bool true)).heap.size (wr.setCell ⟨g v, Y, none⟩ (.bool true)) (wr.setCell ⟨g v, Y, none⟩ (.bool true)).drew := (Below.refl _ _).drew
            exact ⟨HM2.out.later hbd, H52.out.later hbd, H62.out.later hbd, HB2.out.drew⟩
          case measure => have := HJL.out; simp only [intOf]; omega
        · have e9 : j = yk.length := by omega
          subst e9
          rw [List.take_of_length_le (Nat.le_refl _)] at hmb2
          have h7 : (ys.map Iw.ks).getD v [] = yk := by simp [List.getD, HYK.out]
          have h6 := mkB_next (xs.map Iw.ks) (ys.map Iw.ks) v
          rw [h7] at h6
          rw [h6] at hmb2
          have HM2 := kide hmb2
          have H52 := kide hx52
          have H62 := kide hx62
          have HB2 := kide hb2
          clear hmb2 hx52 hx62 hb2 hec hyw f2 h6 h7
          go_wp2_with fail
          go_roundw
          case rel => exact ⟨v + 1, HLT.out, by go_num, HM2.out, H52.out, H62.out, HB2.out⟩
          case measure => have := HLT.out; simp only [intOf]; omega
    · have e9 : v = n := by omega
      subst e9
      have HLC := kide (l6Cuts_any ma ds.length mc h60 w2.heap.size g (wdA ds) HWD.out _ wr hmb)
      have H62 := kide hx6
      have HB2 := kide hbel
      clear hmb hx5 hx6 hbel B31 X53 X63 MB0
      go_wp2_with fail
      refine Calls.mono HLC.out ?_
      rintro en w4 ⟨rv, vs, rfl, ho4, hs4, hb4⟩
      obtain ⟨ra, rc, rfl⟩ := own_form ho4
      have H63 := kide (H62.out.later hb4)
      have r0 := H63.out.cell 0
      have f0 := H63.out.froz 0
      simp at r0
      have HO4 := kide ho4
      have HS4 := kide hs4
      have hwz : w.heap.size ≤ wr.heap.size := HB2.out.size
      have HB4 := kide (HB2.out.trans (hb4.mono hwz))
      clear ho4 hs4 hb4 H62 HB2
      go_wp2_with fail
      have XR := H63.out.set 0 (.slice ra ds.length rc)
      have r1 := XR.cell 0
      simp at r1
      refine bodyPost_ret (v := .tuple #[.agg #[.slice ra ds.length rc], .bool true]) (by simp [results, Try.results6, go_sem, r1]) rfl ?_
      exact ⟨_, vs, _, rfl, hwz, own_set HO4.out H63.out (by decide) _, HS4.out.set H63.out (by decide) _, HB4.out.setCell (by show w.heap.size ≤ w.heap.size + 1 + 1; omega) _⟩

end Go.Proofs.Ytjnbapddfhpcnaa

/- AddCuts: both answer the rows of addZ, each row its own. -/
namespace Go.Proofs.Ytjnbapddfhpcnaa
set_option linter.unusedVariables false
set_option linter.unusedSimpArgs false
open Go.RowKit

theorem cutR_at {ds : List Dc} {cs : List (List Int)} (h : cutR ds cs = true) {i : Nat} (hi : i < ds.length) : ∃ d c, ds[i]? = some d ∧ cs[i]? = some c ∧ (∀ x ∈ c, 0 < x ∧ x < d.2) ∧ c.Pairwise (· < ·) ∧ 1 ≤ d.2 ∧ d.2 ≤ 4096 := by
  simp only [cutR, Bool.and_eq_true, decide_eq_true_eq] at h
  have hd := dclR_iff.1 h.1.1
  have h9 := hd.2.1 (ds[i]) (List.getElem_mem _)
  simp only [dcOk, Bool.and_eq_true, wOk, decide_eq_true_eq] at h9
  have hc : i < cs.length := by rw [h.1.2]; exact hi
  have hr := risR_all (cutL_at h.2 (List.getElem?_eq_getElem hi) (List.getElem?_eq_getElem hc))
  exact ⟨ds[i], cs[i], List.getElem?_eq_getElem hi, List.getElem?_eq_getElem hc, hr.1, hr.2, h9.2⟩
theorem cutR_len {ds : List Dc} {cs : List (List Int)} (h : cutR ds cs = true) : ds.length ≤ 60 ∧ cs.length = ds.length := by
  simp only [cutR, Bool.and_eq_true, decide_eq_true_eq] at h
  exact ⟨(dclR_iff.1 h.1.1).1, h.1.2⟩

theorem rowT_mem {M : Nat → Bool} {q : Nat} {a : Int} : a ∈ rowT M q ↔ ∃ p : Nat, p < q ∧ 1 ≤ p ∧ M p = true ∧ (p : Int) = a := by
  unfold rowT
  simp only [List.mem_map, List.mem_filter, List.mem_range, Bool.and_eq_true, decide_eq_true_eq]
  constructor
  · rintro ⟨p, ⟨h1, h2, h3⟩, h4⟩; exact ⟨p, h1, h2, h3, h4⟩
  · rintro ⟨p, h1, h2, h3, h4⟩; exact ⟨p, ⟨h1, h2, h3⟩, h4⟩
theorem rowT_rising (M : Nat → Bool) (q : Nat) : (rowT M q).Pairwise (· < ·) := by
  unfold rowT
  rw [List.pairwise_map]
  exact (List.pairwise_lt_range.filter _).imp fun h => by omega

theorem rowT_add {W : Int} {c e : List Int} {M : Nat → Bool} (hM : ∀ p, M p = (decide ((p : Int) ∈ c) || decide ((p : Int) ∈ e))) (h1 : ∀ x ∈ c, 0 < x ∧ x < W) (h2 : ∀ x ∈ e, 0 < x ∧ x < W) : rowT M W.toNat = addV W c e := by
  refine rising_eq (rowT_rising _ _) (addV_rising _ _ _) fun a => ?_
  rw [rowT_mem, addV_mem h1 h2]
  constructor
  · rintro ⟨p, p1, p2, p3, rfl⟩
    rw [hM] at p3
    simpa using p3
  · intro h
    have h3 : 0 < a ∧ a < W := by
      rcases h with h | h
      · exact h1 a h
      · exact h2 a h
    refine ⟨a.toNat, by omega, by omega, ?_, by omega⟩
    rw [hM, show ((a.toNat : Nat) : Int) = a by omega]
    simpa using h

theorem rowsT_addL {ds : List Dc} {cs es : List (List Int)} (hc : cutR ds cs = true) (he : cutR ds es = true) {n : Nat} (hn : n = ds.length) : rowsT (mkB cs es n []) (wdA ds) ds.length = addL ds cs es := by
  refine List.ext_getElem? fun i => ?_
  by_cases hi : i < ds.length
  · obtain ⟨d, c, g1, g2, g3, g4, g5⟩ := cutR_at hc hi
    obtain ⟨d', e, k1, k2, k3, k4, -⟩ := cutR_at he hi
    rw [g1] at k1
    cases k1
    rw [addL_at g1 g2 k2]
    have h0 : (rowsT (mkB cs es n []) (wdA ds) ds.length)[i]? = some (rowT (mkB cs es n [] i) (wdA ds i - 1)) := by simp [rowsT, hi]
    rw [h0]
    have hw : wdA ds i - 1 = d.2.toNat := by simp [wdA, List.getD, g1]
    rw [hw]
    congr 1
    refine rowT_add (fun p => ?_) g3 k3
    have hin : i < n := by omega
    simp [mkB, mkA, List.getD, g2, k2, hin]
  · rw [List.getElem?_eq_none (by simp [rowsT]; omega), List.getElem?_eq_none (by rw [addL_len (cutR_len hc).2 (cutR_len he).2]; omega)]

theorem addV_self {W : Int} {c : List Int} (h : ∀ x ∈ c, 0 < x ∧ x < W) (hr : c.Pairwise (· < ·)) : c = addV W c c :=
  rising_eq hr (addV_rising _ _ _) fun a => by rw [addV_mem h h]; simp
theorem cutR_row {ds : List Dc} {cs : List (List Int)} (h : cutR ds cs = true) (v : Nat) : (cs.getD v []).length ≤ 4096 := by
  by_cases hv : v < ds.length
  · obtain ⟨d, c, g1, g2, g3, g4, g5⟩ := cutR_at h hv
    have h1 : cs.getD v [] = c := by simp [List.getD, g2]
    rw [h1, addV_self g3 g4]
    refine Nat.le_trans (addV_len _ _ _) (by omega)
  · have : cs.getD v [] = [] := by
      rw [List.getD, List.getElem?_eq_none (by rw [(cutR_len h).2]; omega)]
      rfl
    rw [this]
    simp
theorem plT_len {ds : List Dc} {cs : List (List Int)} (h : cutR ds cs = true) : ∀ v, (plT cs v).length ≤ v * 4096
  | 0 => by simp [plT]
  | v + 1 => by
    have h1 := plT_len h v
    have h2 := cutR_row h v
    rw [plT_succ, List.length_append, List.length_map]
    omega

theorem addL_in {ds : List Dc} {cs es : List (List Int)} : ∀ xs ∈ addL ds cs es, ∃ d c e, d ∈ ds ∧ xs = addV d.2 c e := by
  induction ds generalizing cs es with
  | nil => simp [addL]
  | cons d ds ih =>
    match cs, es with
    | [], _ => simp [addL]
    | c :: cs, [] => simp [addL]
    | c :: cs, e :: es =>
      simp only [addL, List.mem_cons]
      rintro xs (rfl | h)
      · exact ⟨d, c, e, .inl rfl, rfl⟩
      · obtain ⟨d', c', e', h1, h2⟩ := ih xs h
        exact ⟨d', c', e', .inr h1, h2⟩
theorem addL_row {ds : List Dc} {cs es : List (List Int)} (hc : cutR ds cs = true) : ∀ xs ∈ addL ds cs es, xs.length ≤ 4096 ∧ ∀ x ∈ xs, 0 ≤ x ∧ x ≤ 4096 := fun xs hx => by
  obtain ⟨d, c, e, h1, rfl⟩ := addL_in xs hx
  simp only [cutR, Bool.and_eq_true, decide_eq_true_eq] at hc
  have h9 := (dclR_iff.1 hc.1.1).2.1 d h1
  simp only [dcOk, Bool.and_eq_true, wOk, decide_eq_true_eq] at h9
  refine ⟨Nat.le_trans (addV_len _ _ _) (by omega), fun x hx => ?_⟩
  unfold addV at hx
  simp only [List.mem_filter, List.mem_map, List.mem_range] at hx
  obtain ⟨⟨i, h1, h2⟩, -⟩ := hx
  omega
theorem addZ_row {ds : List Dc} {cs es : List (List Int)} : ∀ xs ∈ addZ ds cs es, xs.length ≤ 4096 ∧ ∀ x ∈ xs, 0 ≤ x ∧ x ≤ 4096 := by
  unfold addZ
  split
  · rename_i h; exact addL_row h.1
  · simp
theorem addZ_len {ds : List Dc} {cs es : List (List Int)} : (addZ ds cs es).length ≤ 60 := by
  unfold addZ
  split
  · rename_i h; rw [addL_len (cutR_len h.1).2 (cutR_len h.2).2]; exact (cutR_len h.1).1
  · simp

theorem HoldR.lower {w : World} {lo lo' hi : Nat} {a : Option Addr} {vs : List Value} {xss : List (List Int)} (h : HoldR w lo hi a vs xss) (hl : lo' ≤ lo) : HoldR w lo' hi a vs xss where
  n1 := h.n1
  n2 := h.n2
  n3 := h.n3
  row := by
    rcases h.row with h1 | ⟨g, N, f, e, h1, h2, h3, h4, h5⟩
    · exact .inl h1
    · exact .inr ⟨g, N, f, e, by omega, h2, h3, h4, h5⟩
  each := fun i v xs h1 h2 => by
    rcases h.each i v xs h1 h2 with h | ⟨g, c, N, f, e, k1, k2, k3, k4, k5⟩
    · exact .inl h
    · exact .inr ⟨g, c, N, f, e, by omega, k2, k3, k4, k5⟩
  dj := h.dj

/-- What both answer. -/
def RetAC (w : World) (R : List (List Int)) (n : Nat) (ok : Bool) (e : Ending) (w' : World) : Prop :=
  ∃ a c vs, e = .returned (.tuple #[.agg #[.slice a n c], .bool ok]) ∧ HoldR w' w.heap.size w'.heap.size a vs R ∧ Below w.heap.size w w'

def okA (ds : List Dc) (cs es : List (List Int)) : Bool := cutR ds cs && cutR ds es
theorem addZ_no {ds : List Dc} {cs es : List (List Int)} (h : okA ds cs es = false) : addZ ds cs es = [] ∧ (cutR ds cs = false ∨ (cutR ds cs = true ∧ cutR ds es = false)) := by
  unfold okA at h
  unfold addZ
  cases h1 : cutR ds cs <;> cases h2 : cutR ds es <;> simp_all
theorem addZ_yes {ds : List Dc} {cs es : List (List Int)} (h : okA ds cs es = true) : addZ ds cs es = addL ds cs es ∧ cutR ds cs = true ∧ cutR ds es = true := by
  unfold okA at h
  unfold addZ
  cases h1 : cutR ds cs <;> cases h2 : cutR ds es <;> simp_all
theorem hold_nil (w : World) (lo hi : Nat) (a : Option Addr) : HoldR w lo hi a [] [] :=
  ⟨rfl, by simp, by simp, .inl rfl, fun i v xs h => by simp at h, fun i j v v' h => by simp at h⟩

theorem specAdd_any (a b e : Option Addr) (c1 c2 c3 : Nat) (ds : List Dc) (xs ys : List Iw) (n m : Nat) (hn : xs.length = n) (hm : ys.length = m) (w : World) (hd : RdD w a ds) (hx : RdII w b xs) (hy : RdII w e ys) :
    Calls Try.prog 6 #[.slice a ds.length c1, .agg #[.slice b n c2], .agg #[.slice e m c3]] w (RetAC w (addZ ds (xs.map Iw.ks) (ys.map Iw.ks)) (addZ ds (xs.map Iw.ks) (ys.map Iw.ks)).length (okA ds (xs.map Iw.ks) (ys.map Iw.ks))) := by
  cases hok : okA ds (xs.map Iw.ks) (ys.map Iw.ks) with
  | false =>
    obtain ⟨h1, h2⟩ := addZ_no hok
    rw [h1]
    refine (specAdd_no a b e c1 c2 c3 ds xs ys n m hn hm w hd hx hy h2).mono ?_
    rintro en w' ⟨rfl, hb⟩
    exact ⟨_, _, [], rfl, hold_nil _ _ _ _, hb⟩
  | true =>
    obtain ⟨h1, h2, h3⟩ := addZ_yes hok
    rw [h1]
    have l1 := (cutR_len h2).2
    have l2 := (cutR_len h3).2
    simp only [List.length_map] at l1 l2
    obtain rfl : n = m := by omega
    have hrw := rowsT_addL h2 h3 (n := n) (by omega)
    have hL : (addL ds (xs.map Iw.ks) (ys.map Iw.ks)).length = ds.length := addL_len (cutR_len h2).2 (cutR_len h3).2
    rw [hL]
    have h60 := (cutR_len h2).1
    refine (specAdd_yes a b e c1 c2 c3 ds xs ys n hn hm w hd hx hy h2 h3).mono ?_
    rintro en w' ⟨rv, vs, B, rfl, hB, ho, hs, hb⟩
    rw [hrw] at hs
    obtain ⟨ra, rc, rfl⟩ := own_form ho
    refine ⟨_, _, vs, rfl, ?_, hb⟩
    refine HoldR.lower (lo := B) ⟨hs.len, by omega, fun xs hx => Nat.le_trans (addL_row h2 xs hx).1 (by omega), ?_, fun i v xs hv hx => OW.atE (hs.own i v xs hv hx), hs.dj⟩ hB
    have hcells := fun g hg => World.ownsRow.cells ho (g := g) hg
    rcases ho.2 with ⟨-, hn⟩ | ⟨g, cap, cur, e, hB, hh, hcap, -, hsz, -⟩
    · exact .inl (List.eq_nil_of_length_eq_zero (by omega))
    · cases e
      have hlt : g < w'.heap.size := lt_of_block hh
      have hrow : w'.rowIs g 46 rc (fun i => cur.getD i (.int .i64 0)) := ⟨cur, hh, by simpa using hsz, fun i hi => by
        have hi' : i < cur.size := by omega
        rw [Array.getElem?_eq_getElem hi']
        simp [Array.getD, hi']⟩
      refine .inr ⟨g, rc, _, rfl, hB, hlt, by omega, hrow, fun i v hv => ?_⟩
      have hil := (List.getElem?_eq_some_iff.1 hv).1
      have hvl := hs.len
      have c0 := hcells g rfl i v hv
      rw [Addr.add_lit] at c0
      simp only [Nat.zero_add] at c0
      rw [hrow.cell (by omega)] at c0
      exact Option.some.inj c0

theorem implAdd_any (a b e : Option Addr) (c1 c2 c3 : Nat) (ds : List Dc) (xs ys : List Iw) (n m : Nat) (hn : xs.length = n) (hm : ys.length = m) (w : World) (hd : RdD w a ds) (hx : RdII w b xs) (hy : RdII w e ys) :
    Calls Try.prog 9 #[.slice a ds.length c1, .agg #[.slice b n c2], .agg #[.slice e m c3]] w (RetAC w (addZ ds (xs.map Iw.ks) (ys.map Iw.ks)) (addZ ds (xs.map Iw.ks) (ys.map Iw.ks)).length (okA ds (xs.map Iw.ks) (ys.map Iw.ks))) := by
  cases hok : okA ds (xs.map Iw.ks) (ys.map Iw.ks) with
  | false =>
    obtain ⟨h1, h2⟩ := addZ_no hok
    rw [h1]
    refine (implAdd_no a b e c1 c2 c3 ds xs ys n m hn hm w hd hx hy h2).mono ?_
    rintro en w' ⟨rfl, hb⟩
    exact ⟨_, _, [], rfl, hold_nil _ _ _ _, hb⟩
  | true =>
    obtain ⟨h1, h2, h3⟩ := addZ_yes hok
    rw [h1]
    have l1 := (cutR_len h2).2
    have l2 := (cutR_len h3).2
    simp only [List.length_map] at l1 l2
    obtain rfl : n = m := by omega
    have hL : (addL ds (xs.map Iw.ks) (ys.map Iw.ks)).length = ds.length := addL_len (cutR_len h2).2 (cutR_len h3).2
    rw [hL]
    have h60 := (cutR_len h2).1
    have hnd : n = ds.length := by omega
    have hp1 := plT_len h2 n
    have hp2 := plT_len h3 n
    refine (implAdd_yes a b e c1 c2 c3 ds xs ys n hn hm w hd hx hy h2 h3 hnd (by omega) (by omega) (by omega) (fun p hp => ?_)).mono ?_
    · unfold addR at hp
      rcases List.mem_append.1 hp with hp | hp
      · obtain ⟨i, i1, i2, -⟩ := plT_mem.1 hp
        omega
      · obtain ⟨i, i1, i2, -⟩ := plT_mem.1 hp
        omega
    rintro en w' hr
    unfold RetAd at hr
    rw [if_pos rfl] at hr
    obtain ⟨T, A, f, rfl, hT, hTm, hs, hb⟩ := hr
    have hAl := hs.row.lt
    subst hnd
    refine ⟨_, _, (List.range ds.length).map f, rfl, ⟨by simp [hL], by omega, fun xs hx => Nat.le_trans (addL_row h2 xs hx).1 (by omega), .inr ⟨A, ds.length, f, rfl, hs.lo, hAl, by omega, hs.row, fun i v hv => ?_⟩, fun i v xs hv hx => ?_, fun i j v v' hv hv' hne => ?_⟩, hb⟩
    · have hil := (List.getElem?_eq_some_iff.1 hv).1
      simp at hil hv
      simp [hil] at hv
      exact hv
    · have hil := (List.getElem?_eq_some_iff.1 hv).1
      simp at hil
      simp [hil] at hv
      subst hv
      have h9 := OW.atE (hs.own i hil)
      obtain ⟨d, c, g1, g2, -⟩ := cutR_at h2 hil
      obtain ⟨d', e', k1, k2, -⟩ := cutR_at h3 hil
      have hat := atV_add h2 h3 hT (fun p => by rw [hTm]; rfl) g1 g2 k2
      rw [addL_at g1 g2 k2] at hx
      cases hx
      rw [hat] at h9
      exact h9
    · have hil := (List.getElem?_eq_some_iff.1 hv).1
      have hjl := (List.getElem?_eq_some_iff.1 hv').1
      simp at hil hjl
      simp [hil] at hv
      simp [hjl] at hv'
      subst hv
      subst hv'
      exact hs.dj i j hil hjl hne

/-- Rows that are held can be read. -/
def iwOf (v : Value) (xs : List Int) : Iw := match v with
  | .slice a _ c => ⟨a, c, xs⟩
  | _ => ⟨none, 0, xs⟩
theorem iwOf_ks (v : Value) (xs : List Int) : (iwOf v xs).ks = xs := by
  unfold iwOf
  split <;> rfl
theorem HoldR.rd {w : World} {lo hi : Nat} {a : Option Addr} {vs : List Value} {xss : List (List Int)} (h : HoldR w lo hi a vs xss) (h64 : ∀ xs ∈ xss, xs.length ≤ 4096 ∧ ∀ x ∈ xs, 0 ≤ x ∧ x ≤ 4096) : ∃ zs : List Iw, zs.map Iw.ks = xss ∧ zs.length = xss.length ∧ RdII w a zs := by
  have hn1 := h.n1
  have hn2 := h.n2
  have hl : (List.zipWith iwOf vs xss).length = xss.length := by simp; omega
  refine ⟨List.zipWith iwOf vs xss, ?_, hl, by omega, ?_⟩
  · refine List.ext_getElem (by simp; omega) fun i h1 h2 => ?_
    simp [iwOf_ks]
  · rcases h.row with h0 | ⟨g, N, f, rfl, k1, k2, k3, k4, k5⟩
    · left; subst h0; simp
    · refine .inr ⟨g, 0, rfl, fun i x hx => ?_⟩
      have hil := (List.getElem?_eq_some_iff.1 hx).1
      rw [hl] at hil
      have gv : vs[i]? = some (vs[i]'(by omega)) := List.getElem?_eq_getElem _
      have gx : xss[i]? = some (xss[i]) := List.getElem?_eq_getElem _
      have hxe : x = iwOf (vs[i]'(by omega)) (xss[i]) := by
        have := (List.getElem?_eq_some_iff.1 hx).2
        rw [List.getElem_zipWith] at this
        exact this.symm
      obtain ⟨m1, m2⟩ := h64 _ (List.getElem_mem (l := xss) hil)
      obtain ⟨ra, rc, hv, hrd⟩ := (h.each i _ _ gv gx).rd (by omega) (fun y hy => by have := m2 y hy; unfold in64; omega)
      rw [hv] at hxe
      have hxe' : x = ⟨ra, rc, xss[i]⟩ := hxe
      subst hxe'
      refine ⟨?_, hrd⟩
      rw [Nat.zero_add, k4.cell (by omega), k5 i _ gv, hv]

theorem eqCuts_hold (a b : Option Addr) (c d n lo hi lo' hi' : Nat) (vs vs' : List Value) (xss : List (List Int)) (h64 : ∀ xs ∈ xss, xs.length ≤ 4096 ∧ ∀ x ∈ xs, 0 ≤ x ∧ x ≤ 4096) (w : World) (hr : HoldR w lo hi a vs xss) (hs : HoldR w lo' hi' b vs' xss) (hn : xss.length = n) :
    Calls Try.prog 10 #[.agg #[.slice a n c], .agg #[.slice b n d]] w fun e w' => e = .returned (.bool true) ∧ Below w.heap.size w w' := by
  obtain ⟨z1, e1, l1, r1⟩ := hr.rd h64
  obtain ⟨z2, e2, l2, r2⟩ := hs.rd h64
  exact eqCuts_same a b c d z1 z2 w r1 r2 (e1.trans e2.symm) n (l1.trans hn) (l2.trans hn)

theorem markCuts_hold (a : Option Addr) (c n lo hi : Nat) (vs : List Value) (xss : List (List Int)) (w : World) (hr : HoldR w lo hi a vs xss) (hn : xss.length = n) :
    Calls Try.prog 13 #[.agg #[.slice a n c], .int .i64 1] w fun e w' => e = .returned (.int .i64 ((1 + tot xss : Nat) : Int)) ∧ MkR w' 1 a vs xss ∧ Out lo hi w w' := by
  have hb0 : Below w.heap.size w (w.alloc (Obj.cells #[Value.slice a n c] 28)) := (Below.refl _ _).alloc (Nat.le_refl _) _
  have HC := kide (markRows_any a c n lo hi vs xss _ (hr.later hb0) hn)
  have B0 := kide hb0
  clear hr hn hb0
  go_enter Try.func13, Try.ntmps13
  go_wp2_with fail
  refine Calls.mono HC.out ?_
  rintro e w1 ⟨rfl, hm, ho⟩
  have HO := kide ((Out.below B0.out).trans ho)
  have HM := kide hm
  clear ho hm
  go_wp2_with fail
  go_ret
  exact ⟨rfl, HM.out, HO.out⟩

theorem heldCuts_hold (a : Option Addr) (c n : Nat) (vs : List Value) (xss : List (List Int)) (w : World) (hr : MkR w 1 a vs xss) (hn : xss.length = n) :
    Calls Try.prog 14 #[.agg #[.slice a n c], .int .i64 1] w fun e w' => e = .returned (.int .i64 ((1 + tot xss : Nat) : Int)) ∧ Below w.heap.size w w' := by
  have hb0 : Below w.heap.size w (w.alloc (Obj.cells #[Value.slice a n c] 28)) := (Below.refl _ _).alloc (Nat.le_refl _) _
  have HC := kide (heldRows_any a c n vs xss _ (hr.later hb0) hn)
  have B0 := kide hb0
  clear hr hn hb0
  generalize 1 + tot xss = S at *
  have hp : ¬ (S : Int) < 0 := by omega
  go_enter Try.func14, Try.ntmps14
  go_wp2_with fail
  refine Calls.mono HC.out ?_
  rintro e w1 ⟨rfl, rfl⟩
  go_wp2_with fail
  go_ret
  exact ⟨rfl, B0.out⟩

end Go.Proofs.Ytjnbapddfhpcnaa

/- What the law on AddCuts is made of besides: boxes, rows, sizes. -/
namespace Go.Proofs.Ytjnbapddfhpcnaa
set_option linter.unusedVariables false
set_option linter.unusedSimpArgs false
open Go.RowKit

theorem WrI.out {w w' : World} {B1 B2 C1 C2 : Nat} {x : Iw} (h : WrI w B1 B2 x) (ho : Out C1 C2 w w') (hd : C2 ≤ B1 ∨ B2 ≤ C1) : WrI w' B1 B2 x := by
  rcases h with h | ⟨g2, ys, h1, h2, h3, h4, h5⟩
  · exact .inl h
  · refine .inr ⟨g2, ys, h1, h2, h3, ?_, h5⟩
    unfold OwnI
    rw [ho.2.2.2.2 g2 h4.lt (by omega)]
    exact h4

theorem markDeclS_one (g c n : Nat) (f : Nat → Value) (w : World) (hr : w.rowIs g 49 (n * 2) f) (hn : n ≤ 1048576) :
    Calls Try.prog 12 #[.slice (some ⟨g, 0, none⟩) n c, .int .i64 1] w fun e w' => e = .returned (.int .i64 ((1 + n * 2 : Nat) : Int)) ∧ Out g (g + 1) w w' := by
  refine Calls.mono (markDeclS_any g c n 1 f w hr hn (by omega)) ?_
  rintro e w' ⟨rfl, hg⟩
  exact ⟨rfl, Out.grown hg (Nat.le_refl _) (Nat.lt_succ_self _)⟩

theorem Bz.out {u u' : World} {b B1 B2 : Nat} {cs : Array Value} {t : TypeId} (h : Bz u b cs t) (ho : Out B1 B2 u u') (hd : b < B1 ∨ B2 ≤ b) : Bz u' b cs t := by
  unfold Bz; rw [ho.2.2.2.2 b h.lt hd]; exact h
theorem rowIs_later {w w' : World} {g N : Nat} {t : TypeId} {f : Nat → Value} (h : w.rowIs g t N f) (hb : Below w.heap.size w w') : w'.rowIs g t N f := by
  obtain ⟨cc, hh, r⟩ := h
  exact World.rowIs.of_block ⟨cc, hh, r⟩ (hb.block g (lt_of_block hh))
theorem rowIs_out {w w' : World} {g N B1 B2 : Nat} {t : TypeId} {f : Nat → Value} (h : w.rowIs g t N f) (ho : Out B1 B2 w w') (hd : g < B1 ∨ B2 ≤ g) : w'.rowIs g t N f := by
  obtain ⟨cc, hh, r⟩ := h
  exact World.rowIs.of_block ⟨cc, hh, r⟩ (ho.2.2.2.2 g (lt_of_block hh) hd)
theorem rowIs_lt {w : World} {g N : Nat} {t : TypeId} {f : Nat → Value} (h : w.rowIs g t N f) : g < w.heap.size := by
  obtain ⟨cc, hh, -⟩ := h
  exact lt_of_block hh
theorem Out.bel {w v v' : World} {B1 B2 : Nat} (h : Below w.heap.size w v) (ho : Out B1 B2 v v') (h1 : w.heap.size ≤ B1) : Below w.heap.size w v' :=
  ⟨ho.1.trans h.os, ho.2.1.trans h.tape, ho.2.2.1.trans h.output, Nat.le_trans h.size ho.2.2.2.1, fun k hk => (ho.2.2.2.2 k (Nat.lt_of_lt_of_le hk h.size) (.inl (by omega))).trans (h.block k hk)⟩

theorem Out.of {B1 B2 : Nat} {w w' : World} (h : Below w.heap.size w w') : Out B1 B2 w w' := ⟨h.os, h.tape, h.output, h.size, fun k hk _ => h.block k hk⟩
theorem Out.wide {B1 B2 C1 C2 : Nat} {w w' : World} (h : Out B1 B2 w w') (h1 : C1 ≤ B1) (h2 : B2 ≤ C2) : Out C1 C2 w w' := ⟨h.1, h.2.1, h.2.2.1, h.2.2.2.1, fun k hk hc => h.2.2.2.2 k hk (by omega)⟩
theorem Bz.other {u : World} {b c : Nat} {cs : Array Value} {t : TypeId} (h : Bz u b cs t) (hn : b ≠ c) (o : Nat) (x : Value) : Bz (u.setCell ⟨c, o, none⟩ x) b cs t :=
  h.grown (gsc u ⟨c, o, none⟩ x) (fun e => hn (Option.some.inj e))

/-- Rows that are held up to where the memory ends. -/
def HoldX (w : World) (lo : Nat) (a : Option Addr) (vs : List Value) (xss : List (List Int)) : Prop := HoldR w lo w.heap.size a vs xss
theorem HoldR.raise {w : World} {lo hi hi' : Nat} {a : Option Addr} {vs : List Value} {xss : List (List Int)} (h : HoldR w lo hi a vs xss) (hl : hi ≤ hi') : HoldR w lo hi' a vs xss where
  n1 := h.n1
  n2 := h.n2
  n3 := h.n3
  row := by
    rcases h.row with h1 | ⟨g, N, f, e, h1, h2, h3, h4, h5⟩
    · exact .inl h1
    · exact .inr ⟨g, N, f, e, h1, by omega, h3, h4, h5⟩
  each := fun i v xs h1 h2 => by
    rcases h.each i v xs h1 h2 with h | ⟨g, c, N, f, e, k1, k2, k3, k4, k5⟩
    · exact .inl h
    · exact .inr ⟨g, c, N, f, e, k1, by omega, k3, k4, k5⟩
  dj := h.dj
theorem HoldX.later {w w' : World} {lo : Nat} {a : Option Addr} {vs : List Value} {xss : List (List Int)} (h : HoldX w lo a vs xss) (hb : Below w.heap.size w w') : HoldX w' lo a vs xss := (HoldR.later h hb).raise hb.size
/-- A box that is no row is filled. -/
theorem HoldX.set {w : World} {lo b o : Nat} {a : Option Addr} {vs : List Value} {xss : List (List Int)} {cs : Array Value} {t : TypeId} (h : HoldX w lo a vs xss) (hb : Bz w b cs t) (h1 : t ≠ 2) (h2 : t ≠ 46) (x : Value) : HoldX (w.setCell ⟨b, o, none⟩ x) lo a vs xss := by
  have key : ∀ {g N : Nat} {e : TypeId} {f : Nat → Value}, t ≠ e → w.rowIs g e N f → (w.setCell ⟨b, o, none⟩ x).rowIs g e N f := fun {g N e f} ht hr => by
    refine World.rowIs.of_block hr (heap_setCell_other _ _ _ _ fun e9 => ?_)
    obtain ⟨cc, hh, -⟩ := hr
    have e8 : b = g := by simpa using e9.symm
    subst e8
    have h9 := (show w.heap[b]? = _ from hb).symm.trans hh
    simp at h9
    exact ht h9.2
  have hs : (w.setCell ⟨b, o, none⟩ x).heap.size = w.heap.size := by simp
  unfold HoldX at h ⊢
  rw [hs]
  refine ⟨h.n1, h.n2, h.n3, ?_, fun i v xs g1 g2 => ?_, h.dj⟩
  · rcases h.row with h1 | ⟨g, N, f, e, k1, k2, k3, k4, k5⟩
    · exact .inl h1
    · exact .inr ⟨g, N, f, e, k1, k2, k3, key h2 k4, k5⟩
  · rcases h.each i v xs g1 g2 with h | ⟨g, c, N, f, e, k1, k2, k3, k4, k5⟩
    · exact .inl h
    · exact .inr ⟨g, c, N, f, e, k1, k2, k3, key h1 k4, k5⟩

theorem size_dec (a : Option Addr) (n c : Nat) (w : World) (hn : n ≤ 9223372036854775807) (hx : n ≤ 1048576 → ∃ ds : List Dc, ds.length = n ∧ RdD w a ds) :
    ∃ Z : Int, (∀ u, Below w.heap.size w u → Calls Try.prog 4 #[.slice a n c, .int .i64 1048576] u fun e w' => e = .returned (.int .i64 Z) ∧ Below u.heap.size u w') ∧ Z ≤ 1048576 ∧ (0 ≤ Z → ∃ ds : List Dc, ds.length = n ∧ RdD w a ds) := by
  by_cases h : n ≤ 1048576
  · obtain ⟨ds, rfl, hr⟩ := hx h
    have hZ := szD_range ds (1048576 - ds.length) (by omega)
    refine ⟨szD ds (1048576 - ds.length), fun u hu => szDeclS_in a c ds 1048576 u (hr.later hu) (by omega) (by omega) (by omega), by omega, fun _ => ⟨ds, rfl, hr⟩⟩
  · exact ⟨-1, fun u hu => (szDeclS_out a n c 1048576 u (by omega) (by omega) hn (by omega)).mono (fun e w' hh => ⟨hh.1, by rw [hh.2]; exact Below.refl _ _⟩), by omega, fun h' => by omega⟩

theorem size_cut (b : Option Addr) (n2 c2 : Nat) (Z : Int) (w : World) (hz0 : 0 ≤ Z) (hz1 : Z ≤ 1048576) (hn2 : n2 ≤ 9223372036854775807) (hy : n2 ≤ 1048576 → ∃ hs : List Ih, hs.length = n2 ∧ RdIh w b hs ∧ ∀ h ∈ hs, NumsOf w h) :
    ∃ Z2 : Int, (∀ u, Below w.heap.size w u → Calls Try.prog 5 #[.agg #[.slice b n2 c2], .int .i64 Z] u fun e w' => e = .returned (.int .i64 Z2) ∧ Below u.heap.size u w') ∧ Z2 ≤ 1048576 ∧ (0 ≤ Z2 → ∃ xs : List Iw, xs.length = n2 ∧ RdII w b xs) := by
  by_cases h2 : (n2 : Int) ≤ Z
  · obtain ⟨hs, rfl, hh, hk⟩ := hy (by omega)
    have hZ2 := szIl_range hs (Z - hs.length) (by omega)
    exact ⟨szIl hs (Z - hs.length), fun u hu => szCuts_any b _ c2 Z _ u (by omega) (fun u' hu' => szInt64SS_in b c2 hs Z u' (hh.later (hu.trans (hu'.mono hu.size))) hz0 hz1 h2), by omega, fun hz2 => RdII_of hh hk (L := Z - hs.length) (by omega) (by omega) hz2⟩
  · exact ⟨-1, fun u hu => szCuts_any b _ c2 Z _ u (.inl rfl) (fun u' hu' => (szInt64SS_out b n2 c2 Z u' hz0 hz1 hn2 h2).mono (fun e w' hh => ⟨hh.1, by rw [hh.2]; exact Below.refl _ _⟩)), by omega, fun h' => by omega⟩

end Go.Proofs.Ytjnbapddfhpcnaa
