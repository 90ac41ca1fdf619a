/- The program's WriteTerm. -/
import Derived.Test.YteenmffhbgpahaaDoorWTK
import Derived.Test.YteenmffhbgpahaaDoorZWN
import Derived.Test.YteenmffhbgpahaaDoorSBG
import Derived.Lib.SliceRun
namespace Go.Proofs.YteenmffhbgpahaaDoor
set_option linter.unusedVariables false
set_option linter.unusedSimpArgs false
open Go.RowKit

def strs (l : List (List Nat)) : Array Value := (l.map fun s => Value.string (txt s)).toArray
def OwnS (w : World) (g : Nat) (l : List (List Nat)) : Prop := w.heap[g]? = some (.cells (strs l) 9 (0, 0))
theorem OwnS.cell {w : World} {g : Nat} {l : List (List Nat)} (h : OwnS w g l) {i : Nat} {s : List Nat} (hi : l[i]? = some s) : w.cell? ⟨g, i, none⟩ = some (.string (txt s)) := by
  rw [cell_of_row w g i _ _ _ h]
  simp [strs, hi]
theorem OwnS.free {w : World} {g : Nat} {l : List (List Nat)} (h : OwnS w g l) (i : Nat) : w.frozen? ⟨g, i, none⟩ = false := frozen_of_row w g i _ _ h
theorem OwnS.lt {w : World} {g : Nat} {l : List (List Nat)} (h : OwnS w g l) : g < w.heap.size := lt_of_block h
theorem OwnS.put {w : World} {g : Nat} {l : List (List Nat)} (h : OwnS w g l) (i : Nat) (s : List Nat) : OwnS (w.setCell ⟨g, i, none⟩ (.string (txt s))) g (l.set i s) := by
  unfold OwnS
  rw [heap_setCell_same w g i _ _ _ h]
  congr 2
  apply Array.ext'
  simp [strs, List.map_set]
theorem OwnS.later {w w' : World} {g B : Nat} {l : List (List Nat)} (h : OwnS w g l) (hb : Below B w w') (hg : g < B) : OwnS w' g l := by
  unfold OwnS
  rw [hb.block g hg]; exact h
theorem strs_made (n : Nat) : madeCells #[Value.string ⟨#[]⟩] n = strs (List.replicate n []) := by
  apply Array.toList_inj.1
  rw [toList_madeCells_one]
  simp only [strs, List.map_replicate]
  rfl
theorem set_nextS (l : List (List Nat)) (n : Nat) (v : List Nat) (h : l.length < n) : (l ++ List.replicate (n - l.length) []).set l.length v = (l ++ [v]) ++ List.replicate (n - (l ++ [v]).length) [] := by
  obtain ⟨m, hm⟩ : ∃ m, n - l.length = m + 1 := ⟨n - l.length - 1, by omega⟩
  rw [hm, List.replicate_succ, List.set_append_right _ _ (Nat.le_refl _)]
  simp [show n - (l.length + 1) = m by omega]
theorem Tryd.infoStr : (Tryd.prog.info? 9).map (fun i => (i.zero, i.size, i.bytes)) = some (some (.string ⟨#[]⟩), 1, 16) := by kernel_rfl
theorem OwnS.rd {w : World} {g : Nat} {l : List (List Nat)} (h : OwnS w g l) : RdSt w g l := fun _ _ hi => h.cell hi

theorem Bu.cells_of (l : List Nat) (h : ∀ x ∈ l, x < 256) : Lib.byteCells (l.map UInt8.ofNat) = Bu.u8s l := by
  unfold Lib.byteCells Bu.u8s
  rw [List.map_map]
  refine List.map_congr_left fun x hx => ?_
  have := h x hx
  simp [Nat.mod_eq_of_lt this]
theorem Bu.Bd.is {B b : Nat} {l : List Nat} {w : World} (h : Bu.Bd B b l w) (hl : ∀ x ∈ l, x < 256) : Lib.IsBuilder 63 5 B b (Lib.byteCells (l.map UInt8.ofNat)) w := by
  rw [Bu.cells_of l hl]
  obtain ⟨h1, h2, q, v, hq, hbk, ho⟩ := h
  have hne : v.ownBlock ≠ some b := fun e => ho.ne hbk e.symm
  have ho' : w.ownsRow B 5 1 v (Bu.u8s l).length (Bu.u8s l) := by rw [Bu.u8s_len]; exact ho
  rcases hq with rfl | rfl
  · exact .inl ⟨h1, v, hbk, ho', hne⟩
  · exact .inr ⟨h1, v, hbk, ho', hne⟩
theorem Bu.bString (B b : Nat) (l : List Nat) (w : World) (h : Bu.Bd B b l w) (hl : ∀ x ∈ l, x < 256) :
    Calls Tryd.prog 24 #[.pointer (some ⟨b, 0, none⟩)] w fun e w' => e = .returned (.string (txt l)) ∧ Below B w w' :=
  Tryd.Builder_String_any B b (l.map UInt8.ofNat) w (h.is hl) h.2.1

theorem tx_lt {ds : List Dc} (ns : List Tc) : ∀ l ∈ txR ds ns, ∀ y ∈ l, y < 256 := by
  have hk : ∀ (all : List (List Nat)) (ks : List Int), (∀ l ∈ all, ∀ y ∈ l, y < 256) → ∀ y ∈ kdT all ks, y < 256 := by
    intro all ks ha y hy
    unfold kdT at hy
    obtain ⟨k, -, hy⟩ := List.mem_flatMap.1 hy
    rcases List.mem_cons.1 hy with rfl | hy
    · omega
    · by_cases h : k.toNat < all.length
      · rw [List.getD_eq_getElem?_getD, List.getElem?_eq_getElem h] at hy
        exact ha _ (List.getElem_mem h) y hy
      · rw [List.getD_eq_getElem?_getD, List.getElem?_eq_none (by omega)] at hy
        cases hy
  have : ∀ (ns : List Tc) (all : List (List Nat)), (∀ l ∈ all, ∀ y ∈ l, y < 256) → ∀ l ∈ ns.foldl (fun all n => all ++ [ndT ds all n]) all, ∀ y ∈ l, y < 256 := by
    intro ns
    induction ns with
    | nil => intro all h; exact h
    | cons n t ih =>
      intro all h
      rw [List.foldl_cons]
      refine ih _ fun l hl => ?_
      rcases List.mem_append.1 hl with hl | hl
      · exact h l hl
      · simp at hl
        subst hl
        intro y hy
        unfold ndT at hy
        rcases List.mem_append.1 hy with hy | hy
        · exact hdT_lt y hy
        · rcases List.mem_append.1 hy with hy | hy
          · exact hk _ _ h y hy
          · split at hy
            · cases hy
            · simp at hy; omega
  exact this ns [] (by simp)
theorem txD_lt {ds : List Dc} {ns : List Tc} {p : Nat} : ∀ y ∈ (txR ds ns).getD p [], y < 256 := by
  intro y hy
  by_cases h : p < (txR ds ns).length
  · rw [List.getD_eq_getElem?_getD, List.getElem?_eq_getElem h] at hy
    exact tx_lt ns _ (List.getElem_mem h) y hy
  · rw [List.getD_eq_getElem?_getD, List.getElem?_eq_none (by omega)] at hy
    cases hy

set_option maxHeartbeats 2000000 in
set_option maxRecDepth 100000 in
theorem implWriteT_any (a b : Option Addr) (c c2 n : Nat) (ds : List Dc) (xs : List Tg) (w : World) (hr : RdD w a ds) (hs : RdT w b xs) (hn : xs.length = n) (hG : GF w) (hW : GW w) (hP : GP w) :
    Calls Tryd.prog 9 #[.slice a ds.length c, .agg #[.slice b n c2]] w fun e w' => e = .returned (.string (txt (wtR ds (xs.map Tg.ct)))) ∧ Below w.heap.size w w' := by
  have s0 := St.start w (.cells #[.slice b n c2] 33)
  have HW := kide (rightWidths_any a b c c2 n ds xs _ (hr.later s0.below) (hs.later s0.below) hn (hG.later s0.below))
  have hn2 : n ≤ 1048576 := by rw [← hn]; exact hs.1
  have HS := kide hs
  have HN := kide hn
  have HR := kide hr
  have HGW := kide hW
  have HGP := kide hP
  obtain ⟨-, hbd⟩ := widthsR_bounds ds (xs.map Tg.ct)
  by_cases h0 : (widthsR ds (xs.map Tg.ct)).length = 0
  · have hw : widR ds (xs.map Tg.ct) = -1 := by unfold widR; rw [if_pos h0]
    have hv : wtR ds (xs.map Tg.ct) = [] := by unfold wtR; rw [if_pos (Or.inl (by omega))]
    have hR : widthsR ds (xs.map Tg.ct) = [] := List.eq_nil_of_length_eq_zero h0
    rw [hv]
    rw [hR] at HW
    clear hr hs hn hv h0 hR hG hW hP hbd hw
    go_enter Tryd.func9, Tryd.ntmps9
    go_wp2_with fail
    refine Calls.mono HW.out ?_
    rintro e w2 ⟨a2, c3, rfl, hr2, hnl, hb2⟩
    have hn0 := hnl rfl
    subst hn0
    have s2 := s0.next hb2
    clear hb2 HW hnl hr2
    have heq : ∀ u, (binOp .eql 43 (.slice none (([] : List Int).length) c3) (.slice none 0 0)).run Tryd.prog u = .ok (.bool true) u := fun u => by rw [Lib.run_eql_slice_nil u 43 2 none _ c3 0 0 Tryd.underlying43]; rfl
    simp only [List.length_nil] at heq ⊢
    go_wp2_with fail
    go_ret
    exact ⟨rfl, s2.below⟩
  · have hw : 1 ≤ widR ds (xs.map Tg.ct) := by
      unfold widR
      rw [if_neg h0]
      refine (hbd _ ?_).1
      rw [List.getD, List.getElem?_eq_getElem (by omega)]
      simp
    obtain ⟨hl1, hl2, -, hkid⟩ := right_kids h0
    rw [List.length_map, hn] at hl1 hl2
    have HK := kide hkid
    have HT := kide (rightT_node h0)
    have hv : wtR ds (xs.map Tg.ct) = if 20000 < (szR ds (xs.map Tg.ct)).getD (n - 1) 0 then [] else (txR ds (xs.map Tg.ct)).getD (n - 1) [] := by
      unfold wtR
      rw [List.length_map, hn]
      by_cases h : 20000 < (szR ds (xs.map Tg.ct)).getD (n - 1) 0
      · rw [if_pos (Or.inr h), if_pos h]
      · rw [if_neg (by omega), if_neg h]
    rw [hv]
    have HTL := kide (fun (hb' hc : Nat) (u : World) (hu : Below w.heap.size w u) (hh : RdSt u hb' ((xs.map Tg.ct).map (hdT ds))) => termLength_any b c2 n hb' hc ds xs u (hs.later hu) hn h0 hh)
    have HWN := kide (fun (hb' hc B b0 : Nat) (u0 : World) (hu : Below w.heap.size w u0) (hh : RdSt u0 hb' ((xs.map Tg.ct).map (hdT ds))) (hB : u0.heap.size ≤ B) (hBb : B ≤ b0) => writeTermNode_any b c2 n hb' hc ds xs u0 B b0 (hs.later hu) hn h0 hh hB hBb)
    generalize widthsR ds (xs.map Tg.ct) = R at HW h0
    obtain ⟨ns, hns⟩ : ∃ ns, xs.map Tg.ct = ns := ⟨_, rfl⟩
    rw [hns] at HK HT HTL HWN ⊢
    have HNS := kide hns
    have hln : Hid (ns.length = n) := by show _ = _; rw [← HNS.out]; simpa using HN.out
    have HSX : Hid ((szR ds ns).getD (n - 1) 0 = min ((txR ds ns).getD (n - 1) []).length 20001) := by
      show _ = _
      have h := sz_tx (ds := ds) HK.out ns.length (Nat.le_refl _) (n - 1) (by rw [hln.out]; omega)
      rw [List.take_length] at h
      exact h
    obtain ⟨Z, hZ⟩ : ∃ Z, (szR ds ns).getD (n - 1) 0 = Z := ⟨_, rfl⟩
    rw [hZ] at HSX HTL ⊢
    have HTLT := kide (txD_lt (ds := ds) (ns := ns) (p := n - 1))
    have HWN2 := kide (fun (hb' hc B b0 : Nat) (u0 : World) (hu : Below w.heap.size w u0) (hh : RdSt u0 hb' (ns.map (hdT ds))) (hB : u0.heap.size ≤ B) (hBb : B ≤ b0) => HWN.out hb' hc B b0 u0 hu hh hB hBb (n - 1) (by omega))
    generalize (txR ds ns).getD (n - 1) [] = tot at *
    have hmk := fun kl kc w => run_make_row' (P := Tryd.prog) 49 9 (.string ⟨#[]⟩) 16 Tryd.underlying49 Tryd.infoStr rfl kl kc n (by omega) (by omega) w
    obtain ⟨res, hres⟩ : ∃ l, (if 20000 < Z then [] else tot) = l := ⟨_, rfl⟩
    rw [hres]
    have HRES := kide hres
    clear hr hs hn hv hns hkid hG hW hP hbd hw hZ HWN hres
    go_enter Tryd.func9, Tryd.ntmps9
    go_wp2_with fail
    refine Calls.mono HW.out ?_
    rintro e w2 ⟨a2, c3, rfl, hr2, hnl, hb2⟩
    obtain ⟨b2, o2, rfl⟩ : ∃ b2 o2, a2 = some ⟨b2, o2, none⟩ := by
      obtain ⟨-, -, h | ⟨b2, o2, h, -⟩⟩ := hr2
      · subst h; simp at h0
      · exact ⟨b2, o2, h⟩
    have s2 := s0.next hb2
    have g0 := s2.cell 0
    simp at g0
    have hz := s2.size
    obtain ⟨g, hg⟩ : ∃ g, w2.heap.size = g := ⟨_, rfl⟩
    have hgs : w.heap.size < g := by omega
    have S2 := kide (s2.next ((Below.refl _ _).alloc (Nat.le_refl _) (Obj.cells (madeCells #[Value.string ⟨#[]⟩] n) 9)))
    have O2 : Hid (OwnS (w2.alloc (Obj.cells (madeCells #[Value.string ⟨#[]⟩] n) 9)) g ((ns.take 0).map (hdT ds) ++ List.replicate (n - ((ns.take 0).map (hdT ds)).length) [])) := by
      have e := heap_alloc_new w2 (.cells (madeCells #[Value.string ⟨#[]⟩] n) 9)
      rw [hg, strs_made] at e
      show OwnS _ _ _
      simpa [OwnS, strs_made] using e
    have HN1 : Hid (((n - 1 : Nat) : Int) = (n : Int) - 1) := by show _ = _; omega
    clear hb2 HW hnl hr2 h0 s0 s2
    generalize R.length = rl at *
    have heq : ∀ u, (binOp .eql 43 (.slice (some ⟨b2, o2, none⟩) rl c3) (.slice none 0 0)).run Tryd.prog u = .ok (.bool false) u := fun u => by rw [Lib.run_eql_slice_nil u 43 2 (some ⟨b2, o2, none⟩) rl c3 0 0 Tryd.underlying43]; rfl
    go_wp2_with fail
    try rw [hg]
    generalize w2.alloc (Obj.cells (madeCells #[Value.string ⟨#[]⟩] n) 9) = w3 at *
    go_loopw [20] (fun q wr => ∃ k : Nat, k ≤ n ∧ q = .int .i64 (k : Int) ∧ OwnS wr g ((ns.take k).map (hdT ds) ++ List.replicate (n - ((ns.take k).map (hdT ds)).length) []) ∧ St w (.cells #[.slice b n c2] 33) wr) (fun q _ => n - (intOf q).toNat)
    case atStart => exact ⟨0, Nat.zero_le _, rfl, O2.out, S2.out⟩
    case round =>
      obtain ⟨k, hk, rfl, hown, hst⟩ := hrel
      have HO := kide hown
      have HST := kide hst
      clear hown hst S2 O2 g0 heq hmk hg
      by_cases hlt : k < n
      · have i0 : (k : Int) < (n : Int) := by omega
        obtain ⟨⟨s1, wa, wc, ka, kc⟩, gx⟩ : ∃ x, xs[k]? = some x := ⟨xs[k]'(by rw [HN.out]; exact hlt), List.getElem?_eq_getElem _⟩
        have gn : ns[k]? = some s1 := by rw [← HNS.out, List.getElem?_map, gx]; rfl
        obtain ⟨-, h | ⟨b3, o3, rfl, hc'⟩⟩ := HS.out.later HST.out.below
        · rw [h] at gx; simp at gx
        obtain ⟨⟨p0, p1, p2, p3, p4, p5, p6⟩, pr, pk, -⟩ := hc' k _ gx
        simp only [Tg.hd] at p0 p1 p2 p3 p4 p5 p6 pr pk
        obtain ⟨v, hop, hhd⟩ := opHead a c ds s1 wa ka wc kc wr (HR.out.later HST.out.below) pr (HT.out s1 (List.mem_of_getElem? gn)) (HGW.out.later HST.out.below) (HGP.out.later HST.out.below)
        have HOP := kide hop
        have HHD := kide hhd
        have hlen : Hid (((ns.take k).map (hdT ds)).length = k) := by show _ = _; rw [List.length_map, List.length_take, hln.out]; omega
        have HX : Hid ((ns.take (k + 1)).map (hdT ds) = (ns.take k).map (hdT ds) ++ [hdT ds s1]) := by show _ = _; rw [List.take_add_one, gn, List.map_append]; rfl
        generalize hdT ds s1 = hd at *
        obtain ⟨op, vr, aa, bb, bw, ws, ks⟩ := s1
        simp only [] at p0 p1 p2 p3 p4 p5 p6 HOP
        generalize ws.length = wl at *
        generalize ks.length = kl at *
        generalize (ns.take k).map (hdT ds) = hds at *
        have hbn : Below wr.heap.size wr (wr.alloc (Obj.cells #[Value.int .i64 op, Value.int .i64 vr, Value.int .i64 aa, Value.int .i64 bb, Value.int .i64 bw, Value.slice wa wl wc, Value.slice ka kl kc] 54)) := (Below.refl _ _).alloc (Nat.le_refl _) _
        have HBN := kide hbn
        clear hc' gx gn pr pk hbn hop hhd
        go_wp2_with fail
        refine Calls.mono (HOP.out _ HBN.out) ?_
        rintro e w5 ⟨rfl, hb5⟩
        have HB5 := kide (HBN.out.trans (hb5.mono HBN.out.size))
        clear hb5
        go_wp2_with fail
        refine Calls.mono (HHD.out _ HB5.out) ?_
        rintro e w6 ⟨rfl, hb6⟩
        have HB6 := kide (HB5.out.trans (hb6.mono HB5.out.size))
        clear hb6
        have HS6 := kide (HST.out.next HB6.out)
        have HO6 := kide (HO.out.later HB6.out HO.out.lt)
        have q2 := HO6.out.cell (i := k) (s := []) (by rw [List.getElem?_append_right (by rw [hlen.out]; exact Nat.le_refl _), hlen.out, List.getElem?_replicate]; simp; omega)
        have q3 := HO6.out.free k
        have HO7 := kide (HO6.out.put k hd)
        have SN := kide (Below.setCell HS6.out (p := ⟨g, k, none⟩) hgs (.string (txt hd)))
        have hset : Hid ((hds ++ List.replicate (n - hds.length) []).set k hd = (hds ++ [hd]) ++ List.replicate (n - (hds ++ [hd]).length) []) := by
          show _ = _
          exact (show (hds ++ List.replicate (n - hds.length) []).set k hd = (hds ++ List.replicate (n - hds.length) []).set hds.length hd by rw [hlen.out]).trans (set_nextS hds n hd (by rw [hlen.out]; exact hlt))
        rw [hset.out] at HO7
        clear hset
        go_wp2_with fail
        go_roundw
        case rel => exact ⟨k + 1, by omega, by go_num, by rw [HX.out]; exact HO7.out, SN.out⟩
        case measure => simp [intOf]; omega
      · have e : k = n := by omega
        subst e
        have hfin : Hid ((ns.take k).map (hdT ds) ++ List.replicate (k - ((ns.take k).map (hdT ds)).length) [] = ns.map (hdT ds)) := by
          show _ = _
          rw [List.take_of_length_le (by rw [hln.out]; omega), List.length_map, hln.out]
          simp
        rw [hfin.out] at HO
        clear hfin
        have g1 := HST.out.cell 0
        simp at g1
        go_wp2_with fail
        refine Calls.mono (HTL.out g k wr HST.out.below HO.out.rd) ?_
        rintro e w5 ⟨rfl, hb5⟩
        have HS5 := kide (HST.out.next hb5)
        have HR5 := kide (HO.out.rd.later hb5)
        have g5 := HS5.out.cell 0
        simp at g5
        clear hb5 g1
        by_cases hz : 20000 < Z
        · have hz1 : (20000 : Int) < (Z : Int) := by omega
          have hre : res = [] := by have h := HRES.out; rw [if_pos hz] at h; exact h.symm
          subst hre
          clear hz
          go_wp2_with fail
          go_ret
          exact ⟨rfl, HS5.out.below⟩
        · have hz1 : ¬ (20000 : Int) < (Z : Int) := by omega
          have hre : res = tot := by have h := HRES.out; rw [if_neg hz] at h; exact h.symm
          subst hre
          have hml : res.length ≤ 20000 := by have := HSX.out; omega
          have z5 := HS5.out.size
          have S6 := kide (HS5.out.next ((Below.refl _ _).alloc (Nat.le_refl _) (Obj.cells #[Value.pointer none, Value.slice none 0 0] 63)))
          have HCW := kide (HWN2.out g k w5.heap.size w5.heap.size w5 HS5.out.below HR5.out (Nat.le_refl _) (Nat.le_refl _) hml (w5.alloc (Obj.cells #[Value.pointer none, Value.slice none 0 0] 63)) [] ((Below.refl _ _).alloc (Nat.le_refl _) _) ⟨Nat.le_refl _, by simp, none, .slice none 0 0, .inl rfl, heap_alloc_new _ _, World.ownsRow_nil _ _ _ _⟩ (by simp; omega))
          rw [HN1.out] at HCW
          clear hz hml
          go_wp2_with fail
          refine Calls.mono HCW.out ?_
          rintro e w7 ⟨rfl, hb7, hk7⟩
          rw [List.nil_append] at hb7
          have HB7 := kide (hk7.below S6.out.below (by omega) (fun k hk => by omega))
          have HSt := kide (Bu.bString _ _ _ _ hb7 HTLT.out)
          clear hb7 hk7
          go_wp2_with fail
          refine Calls.mono HSt.out ?_
          rintro e w8 ⟨rfl, hb8⟩
          have HB8 := kide (HB7.out.trans (hb8.mono (by omega)))
          clear hb8
          go_wp2_with fail
          go_ret
          exact ⟨rfl, HB8.out⟩

end Go.Proofs.YteenmffhbgpahaaDoor
