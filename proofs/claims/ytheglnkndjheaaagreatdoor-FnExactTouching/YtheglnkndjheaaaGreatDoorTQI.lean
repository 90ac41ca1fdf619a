/- Touching: what the given l17Some answers. -/
import Derived.Test.YtheglnkndjheaaaGreatDoorTQH
namespace Go.Proofs.YtheglnkndjheaaaGreatDoor
set_option linter.unusedVariables false
set_option linter.unusedSimpArgs false
open Go.RowKit

theorem OL4.empty (w : World) (B : Nat) (h : B ≤ w.heap.size) : OL4 (w.alloc (.cells #[] 62)) B (.slice (some ⟨w.heap.size, 0, Option.none⟩) 0 0) [] := World.ownsRow_made w #[] 0 h (Nat.zero_le _) (by simp)

def pkL (xs : List Lg) (z : Int) : List Lg := xs.filter fun x => decide (x.id = z)
def smL (xs : List Lg) (ks : List Int) : List Lg := ks.flatMap (pkL xs)

theorem pkL_ct (xs : List Lg) (z : Int) : (pkL xs z).map Lg.ct = pkC (xs.map Lg.ct) z := by
  unfold pkL pkC
  rw [List.filter_map]
  rfl

theorem smL_ct (xs : List Lg) (ks : List Int) : (smL xs ks).map Lg.ct = smO (xs.map Lg.ct) ks := by
  unfold smL smO
  rw [List.map_flatMap]
  congr 1
  funext z
  exact pkL_ct xs z

theorem smL_len (xs : List Lg) (ks : List Int) : (smL xs ks).length = (smO (xs.map Lg.ct) ks).length := by rw [← smL_ct, List.length_map]

theorem smL_take {xs : List Lg} {ks : List Int} {k : Nat} {z : Int} (h : ks[k]? = some z) : smL xs (ks.take (k + 1)) = smL xs (ks.take k) ++ pkL xs z := by
  unfold smL
  rw [List.take_add_one, h]
  simp

/-- One number's turn is right. -/
def smK (xs : List Lg) (ks : List Int) (i : Nat) : Prop := (i = 0 ∨ ks.getD (i - 1) 0 < ks.getD i 0) ∧ (smL xs (ks.take (i + 1))).length = i + 1

theorem smB_iff (xs : List Lg) (ks : List Int) : smB (xs.map Lg.ct) ks = true ↔ ∀ i, i < ks.length → smK xs ks i := by
  unfold smB smK
  rw [decide_eq_true_iff]
  simp only [smL_len]

theorem smB_no {xs : List Lg} {ks : List Int} {i : Nat} (hi : i < ks.length) (h : ¬ smK xs ks i) : smB (xs.map Lg.ct) ks = false := by
  cases hb : smB (xs.map Lg.ct) ks with
  | false => rfl
  | true => exact absurd ((smB_iff xs ks).1 hb i hi) h

theorem pkL_take {xs : List Lg} {k : Nat} {x : Lg} {z : Int} (h : xs[k]? = some x) : pkL (xs.take (k + 1)) z = pkL (xs.take k) z ++ (if x.id = z then [x] else []) := by
  unfold pkL
  rw [List.take_add_one, h, List.filter_append]
  by_cases e : x.id = z <;> simp [e]

theorem RdI.atg {w : World} {a : Option Addr} {ks : List Int} (h : RdI w a ks) {i : Nat} (hi : i < ks.length) : ∃ b o, a = some ⟨b, o, none⟩ ∧ ∀ j, j < ks.length → w.cell? ⟨b, o + j, none⟩ = some (.int .i64 (ks.getD j 0)) := by
  obtain ⟨-, -, h | ⟨b, o, e, hc⟩⟩ := h
  · rw [h] at hi; simp at hi
  · exact ⟨b, o, e, hc⟩

set_option maxHeartbeats 2000000 in
set_option maxRecDepth 100000 in
theorem l17Some_any (b ka : Option Addr) (c2 n kc kn : Nat) (xs : List Lg) (ks : List Int) (w : World) (hs : RdL w b xs) (hn : xs.length = n) (hn6 : n ≤ 60) (hk : RdI w ka ks) (hkn : ks.length = kn) :
    Calls Tryz.prog 39 #[.slice b n c2, .slice ka kn kc] w fun e w' => ∃ v, e = .returned (.tuple #[v, .bool (smB (xs.map Lg.ct) ks)]) ∧ (smB (xs.map Lg.ct) ks = true → OL4 w' w.heap.size v (smL xs ks)) ∧ Below w.heap.size w w' := by
  obtain ⟨R, HR⟩ : ∃ R, Hid (smB (xs.map Lg.ct) ks = R) := ⟨_, kide rfl⟩
  rw [HR.out]
  have HS := kide hs
  have HN := kide hn
  have HK := kide hk
  have HKN := kide hkn
  have hkl : kn ≤ 1048576 := by rw [← hkn]; exact hk.1
  have HB6 := kide (And.intro hn6 hkl)
  have E0 := kide (OL4.empty w w.heap.size (Nat.le_refl _))
  have X0 := kide ((Below.refl w.heap.size w).alloc (Nat.le_refl _) (.cells #[] 62))
  clear hs hn hk hkn hn6 hkl
  go_enter Tryz.func39, Tryz.ntmps39
  go_wp2_with fail
  go_loopw [6, 7] (fun o q wr => ∃ i : Nat, i ≤ kn ∧ q = .int .i64 (i : Int) ∧ OL4 wr w.heap.size o (smL xs (ks.take i)) ∧ Below w.heap.size w wr ∧ (∀ j, j < i → smK xs ks j)) (fun _ q _ => kn - (intOf q).toNat)
  case atStart => exact ⟨0, Nat.zero_le _, rfl, E0.out, X0.out, by simp⟩
  case round =>
    obtain ⟨i, hi, rfl, how, hb, hok⟩ := hrel
    have HO := kide how
    have HB := kide hb
    have HOK := kide hok
    clear how hok E0 X0
    by_cases hlt : i < kn
    · have i0 : (i : Int) < (kn : Int) := by omega
      obtain ⟨kb, ko, rfl, hkc⟩ := (HK.out.later hb).atg (i := i) (by rw [HKN.out]; exact hlt)
      have p0 := hkc i (by rw [HKN.out]; exact hlt)
      have HKC := kide hkc
      clear hkc
      by_cases hbad : 0 < i ∧ ks.getD i 0 ≤ ks.getD (i - 1) 0
      · have p1 := HKC.out (i - 1) (by rw [HKN.out]; omega)
        have hR : R = false := by
          rw [← HR.out]
          refine smB_no (i := i) (by rw [HKN.out]; exact hlt) fun h => ?_
          rcases h.1 with h | h <;> omega
        subst hR
        have q0 : (i : Int) > 0 := by omega
        have q3 : 0 < i := hbad.1
        obtain ⟨i', hi'⟩ : ∃ i', i - 1 = i' := ⟨_, rfl⟩
        have hb6 := HB6.out
        have t1 : wrap64 ((i : Int) - 1) = (i' : Int) := by unfold wrap64; omega
        have q1 : (i' : Int) < (kn : Int) := by omega
        have q2 : ks.getD i 0 ≤ ks.getD (i - 1) 0 := hbad.2
        rw [hi'] at p1 q2
        generalize ks.getD i 0 = z at *
        generalize ks.getD i' 0 = y at *
        clear hbad hb6 hi' hb HOK HKC HO HS HR
        go_wp2_with fail
        go_quiet (fail)
        go_wp2_with fail
        go_returns
        exact ⟨_, rfl, fun h => by simp at h, below_drewN HB.out _⟩
      · have hfirst : Hid (i = 0 ∨ ks.getD (i - 1) 0 < ks.getD i 0) := by
          show _ ∨ _
          by_cases h0 : i = 0
          · exact .inl h0
          · exact .inr (by have := fun h => hbad ⟨by omega, h⟩; omega)
        obtain ⟨z, hz⟩ : ∃ z, ks[i]? = some z := ⟨ks[i]'(by rw [HKN.out]; exact hlt), List.getElem?_eq_getElem _⟩
        have HST := kide (smL_take (xs := xs) hz)
        have hzg : ks.getD i 0 = z := by rw [List.getD_eq_getElem?_getD, hz]; rfl
        have HZG := kide hzg
        rw [hzg] at p0
        by_cases h0 : i = 0
        · have q3 : ¬ 0 < i := by omega
          clear hbad hb h0 hz hzg
          go_wp2_with fail
          go_quiet (fail)
          go_wp2_with fail
          have BQ := kide (below_drewN HB.out nq)
          have OQ := kide (HO.out.later (below_drewN (Below.refl _ _) nq))
          generalize wr.drewN nq = wq at *
          clear HO HB HKC
          skip
          have HAL : Hid ((smL xs (ks.take i)).length = i) := by
            show _ = _
            by_cases h0 : i = 0
            · subst h0; rfl
            · have := (HOK.out (i - 1) (by omega)).2
              rw [show i - 1 + 1 = i by omega] at this
              exact this
          obtain ⟨A, hA⟩ : ∃ A, smL xs (ks.take i) = A := ⟨_, rfl⟩
          rw [hA] at OQ HAL HST
          clear hA
          go_loopw [6, 8] (fun o q wr => ∃ j : Nat, j ≤ n ∧ q = .int .i64 (j : Int) ∧ OL4 wr w.heap.size o (A ++ pkL (xs.take j) z) ∧ Below w.heap.size w wr) (fun _ q _ => n - (intOf q).toNat)
          case atStart => exact ⟨0, Nat.zero_le _, rfl, by simpa [pkL] using OQ.out, BQ.out⟩
          case round =>
            obtain ⟨j, hj, rfl, how, hbi⟩ := hrel
            have HO := kide how
            have HB := kide hbi
            clear how OQ BQ
            by_cases hjn : j < n
            · have j0 : (j : Int) < (n : Int) := by omega
              obtain ⟨x, gx⟩ : ∃ x, xs[j]? = some x := ⟨xs[j]'(by rw [HN.out]; exact hjn), List.getElem?_eq_getElem _⟩
              obtain ⟨b3, o3, rfl, ⟨p2, p3, p4, p5⟩, -⟩ := (HS.out.later hbi).at gx
              obtain ⟨kb2, ko2, ek, hkc2⟩ := (HK.out.later hbi).atg (i := i) (by rw [HKN.out]; exact hlt)
              cases ek
              have p6 := hkc2 i (by rw [HKN.out]; exact hlt)
              rw [HZG.out] at p6
              have HX : Hid (A ++ pkL (xs.take (j + 1)) z = (A ++ pkL (xs.take j) z) ++ (if x.id = z then [x] else [])) := by show _ = _; rw [pkL_take gx, List.append_assoc]
              have hul : (A ++ pkL (xs.take j) z).length ≤ 1073741824 := by
                have h1 := List.length_filter_le (fun x : Lg => decide (x.id = z)) (xs.take j)
                have h2 := List.length_take_le j xs
                have := HAL.out
                have := HB6.out
                rw [List.length_append]
                unfold pkL
                omega
              have HUL := kide hul
              have GX := kide gx
              generalize A ++ pkL (xs.take j) z = rs at *
              clear hkc2 hul gx p0 hbi
              by_cases hxz : x.id = z
              · rw [if_pos hxz] at HX
                obtain ⟨id, q, ss, sa, sc, ts, ta, tc⟩ := x
                simp only [] at p2 p3 p4 p5 hxz HX
                subst hxz
                obtain ⟨sn, hsn⟩ : ∃ sn, ss.length = sn := ⟨_, rfl⟩
                obtain ⟨tn, htn⟩ : ∃ tn, ts.length = tn := ⟨_, rfl⟩
                rw [hsn] at p4
                rw [htn] at p5
                have SN := kide hsn
                have TN := kide htn
                clear hsn htn
                go_wp2_with fail
                go_quiet (fail)
                have p2' : (wr.drewN nq).cell? ⟨b3, o3 + j * 4, none⟩ = some (.int .i64 id) := (kcell (below_drewN (Below.refl _ _) nq) _ _ (block_lt_of_cell p2)).trans p2
                have p3' : (wr.drewN nq).cell? ⟨b3, o3 + j * 4 + 1, none⟩ = some (.bool q) := (kcell (below_drewN (Below.refl _ _) nq) _ _ (block_lt_of_cell p3)).trans p3
                have p4' : (wr.drewN nq).cell? ⟨b3, o3 + j * 4 + 2, none⟩ = some (.slice sa sn sc) := (kcell (below_drewN (Below.refl _ _) nq) _ _ (block_lt_of_cell p4)).trans p4
                have p5' : (wr.drewN nq).cell? ⟨b3, o3 + j * 4 + 3, none⟩ = some (.slice ta tn tc) := (kcell (below_drewN (Below.refl _ _) nq) _ _ (block_lt_of_cell p5)).trans p5
                have B9 := kide (below_drewN HB.out nq)
                have O9 := kide (HO.out.later (below_drewN (Below.refl _ _) nq))
                generalize wr.drewN nq = wq at *
                clear p2 p3 p4 p5 p6 HO HB
                have hsz := B9.out.size
                go_wp2_with (at_builtin; refine wpList_appL4 rfl _ _ rfl w.heap.size _ rs ⟨id, q, ss, sa, sc, ts, ta, tc⟩ rfl (World.ownsRow.alloc O9.out _) _ rfl (by simp) (by simp) (by rw [SN.out]; simp) (by rw [TN.out]; simp) HUL.out (by simp; omega) ?_)
                intro v7 w7 hos hg
                have B7 := kide (Below.grown (B9.out.alloc hsz (Obj.cells #[Value.int .i64 id, Value.bool q, Value.slice sa sn sc, Value.slice ta tn tc] 62)) hg (by simp; omega) (fun j hj => (O9.out.lt hj).1))
                have O7 := kide hos
                clear hos hg p2' p3' p4' p5' O9 B9
                go_wp2_with fail
                have hb6 := HB6.out
                have e1 : wrap64 ((j : Int) + 1) = ((j + 1 : Nat) : Int) := by unfold wrap64; omega
                rw [e1]
                go_roundw
                case rel => exact ⟨j + 1, by omega, rfl, by rw [HX.out]; exact O7.out, B7.out⟩
                case measure => simp only [intOf, Int.toNat_natCast]; omega
              · rw [if_neg hxz, List.append_nil] at HX
                have q9 : (x.id == z) = false := by simpa using hxz
                generalize x.id = xi at *
                clear hxz
                go_wp2_with fail
                go_quiet (fail)
                go_wp2_with fail
                have B9 := kide (below_drewN HB.out nq)
                have O9 := kide (HO.out.later (below_drewN (Below.refl _ _) nq))
                have hb6 := HB6.out
                have e1 : wrap64 ((j : Int) + 1) = ((j + 1 : Nat) : Int) := by unfold wrap64; omega
                rw [e1]
                go_roundw
                case rel => exact ⟨j + 1, by omega, rfl, by rw [HX.out]; exact O9.out, B9.out⟩
                case measure => simp only [intOf, Int.toNat_natCast]; omega
            · have hfin : Hid (xs.take j = xs) := List.take_of_length_le (by rw [HN.out]; omega)
              rw [hfin.out, ← HST.out] at HO
              obtain ⟨a9, c9, rfl⟩ : ∃ a9 c9, u6 = .slice a9 (smL xs (ks.take (i + 1))).length c9 := by
                rcases HO.out.2 with ⟨e, h0⟩ | ⟨g, cap, cur, e, -⟩
                · exact ⟨none, 0, by rw [e, h0]⟩
                · exact ⟨_, cap, e⟩
              have hb6 := HB6.out
              have e1 : wrap64 ((i : Int) + 1) = ((i + 1 : Nat) : Int) := by unfold wrap64; omega
              clear hb6 hbi
              by_cases hgo : (smL xs (ks.take (i + 1))).length = i + 1
              · have HG := kide hgo
                have HO2 := HO
                rw [hgo] at HO2
                rw [hgo]
                go_wp2_with fail
                try rw [e1]
                go_roundw
                case rel =>
                  refine ⟨i + 1, by omega, by first | rfl | (congr 1), HO2.out, HB.out, fun j9 hj9 => ?_⟩
                  by_cases ej : j9 = i
                  · subst ej; exact ⟨hfirst.out, HG.out⟩
                  · exact HOK.out j9 (by omega)
                case measure => simp only [intOf]; omega
              · have hR : R = false := by
                  rw [← HR.out]
                  exact smB_no (i := i) (by rw [HKN.out]; exact hlt) fun h => hgo h.2
                subst hR
                generalize (smL xs (ks.take (i + 1))).length = L at *
                have q7 : ((L : Int) != ((i + 1 : Nat) : Int)) = true := by simp; omega
                go_wp2_with fail
                go_returns
                exact ⟨_, rfl, fun h => by simp at h, HB.out⟩
        · have p1 := HKC.out (i - 1) (by rw [HKN.out]; omega)
          have q3 : 0 < i := by omega
          have q0 : (i : Int) > 0 := by omega
          have q2 : ¬ z ≤ ks.getD (i - 1) 0 := fun h => hbad ⟨q3, by rw [hzg]; exact h⟩
          obtain ⟨i', hi'⟩ : ∃ i', i - 1 = i' := ⟨_, rfl⟩
          have hb6 := HB6.out
          have t1 : wrap64 ((i : Int) - 1) = (i' : Int) := by unfold wrap64; omega
          have q1 : (i' : Int) < (kn : Int) := by omega
          rw [hi'] at p1 q2
          generalize ks.getD i' 0 = y at *
          clear hbad hb6 hi' hb h0 hz hzg
          go_wp2_with fail
          go_quiet (fail)
          go_wp2_with fail
          have BQ := kide (below_drewN HB.out nq)
          have OQ := kide (HO.out.later (below_drewN (Below.refl _ _) nq))
          generalize wr.drewN nq = wq at *
          clear HO HB HKC
          clear q2 p1 q1 t1 q0
          have HAL : Hid ((smL xs (ks.take i)).length = i) := by
            show _ = _
            by_cases h0 : i = 0
            · subst h0; rfl
            · have := (HOK.out (i - 1) (by omega)).2
              rw [show i - 1 + 1 = i by omega] at this
              exact this
          obtain ⟨A, hA⟩ : ∃ A, smL xs (ks.take i) = A := ⟨_, rfl⟩
          rw [hA] at OQ HAL HST
          clear hA
          go_loopw [6, 8] (fun o q wr => ∃ j : Nat, j ≤ n ∧ q = .int .i64 (j : Int) ∧ OL4 wr w.heap.size o (A ++ pkL (xs.take j) z) ∧ Below w.heap.size w wr) (fun _ q _ => n - (intOf q).toNat)
          case atStart => exact ⟨0, Nat.zero_le _, rfl, by simpa [pkL] using OQ.out, BQ.out⟩
          case round =>
            obtain ⟨j, hj, rfl, how, hbi⟩ := hrel
            have HO := kide how
            have HB := kide hbi
            clear how OQ BQ
            by_cases hjn : j < n
            · have j0 : (j : Int) < (n : Int) := by omega
              obtain ⟨x, gx⟩ : ∃ x, xs[j]? = some x := ⟨xs[j]'(by rw [HN.out]; exact hjn), List.getElem?_eq_getElem _⟩
              obtain ⟨b3, o3, rfl, ⟨p2, p3, p4, p5⟩, -⟩ := (HS.out.later hbi).at gx
              obtain ⟨kb2, ko2, ek, hkc2⟩ := (HK.out.later hbi).atg (i := i) (by rw [HKN.out]; exact hlt)
              cases ek
              have p6 := hkc2 i (by rw [HKN.out]; exact hlt)
              rw [HZG.out] at p6
              have HX : Hid (A ++ pkL (xs.take (j + 1)) z = (A ++ pkL (xs.take j) z) ++ (if x.id = z then [x] else [])) := by show _ = _; rw [pkL_take gx, List.append_assoc]
              have hul : (A ++ pkL (xs.take j) z).length ≤ 1073741824 := by
                have h1 := List.length_filter_le (fun x : Lg => decide (x.id = z)) (xs.take j)
                have h2 := List.length_take_le j xs
                have := HAL.out
                have := HB6.out
                rw [List.length_append]
                unfold pkL
                omega
              have HUL := kide hul
              have GX := kide gx
              generalize A ++ pkL (xs.take j) z = rs at *
              clear hkc2 hul gx p0 hbi
              by_cases hxz : x.id = z
              · rw [if_pos hxz] at HX
                obtain ⟨id, q, ss, sa, sc, ts, ta, tc⟩ := x
                simp only [] at p2 p3 p4 p5 hxz HX
                subst hxz
                obtain ⟨sn, hsn⟩ : ∃ sn, ss.length = sn := ⟨_, rfl⟩
                obtain ⟨tn, htn⟩ : ∃ tn, ts.length = tn := ⟨_, rfl⟩
                rw [hsn] at p4
                rw [htn] at p5
                have SN := kide hsn
                have TN := kide htn
                clear hsn htn
                go_wp2_with fail
                go_quiet (fail)
                have p2' : (wr.drewN nq).cell? ⟨b3, o3 + j * 4, none⟩ = some (.int .i64 id) := (kcell (below_drewN (Below.refl _ _) nq) _ _ (block_lt_of_cell p2)).trans p2
                have p3' : (wr.drewN nq).cell? ⟨b3, o3 + j * 4 + 1, none⟩ = some (.bool q) := (kcell (below_drewN (Below.refl _ _) nq) _ _ (block_lt_of_cell p3)).trans p3
                have p4' : (wr.drewN nq).cell? ⟨b3, o3 + j * 4 + 2, none⟩ = some (.slice sa sn sc) := (kcell (below_drewN (Below.refl _ _) nq) _ _ (block_lt_of_cell p4)).trans p4
                have p5' : (wr.drewN nq).cell? ⟨b3, o3 + j * 4 + 3, none⟩ = some (.slice ta tn tc) := (kcell (below_drewN (Below.refl _ _) nq) _ _ (block_lt_of_cell p5)).trans p5
                have B9 := kide (below_drewN HB.out nq)
                have O9 := kide (HO.out.later (below_drewN (Below.refl _ _) nq))
                generalize wr.drewN nq = wq at *
                clear p2 p3 p4 p5 p6 HO HB
                have hsz := B9.out.size
                go_wp2_with (at_builtin; refine wpList_appL4 rfl _ _ rfl w.heap.size _ rs ⟨id, q, ss, sa, sc, ts, ta, tc⟩ rfl (World.ownsRow.alloc O9.out _) _ rfl (by simp) (by simp) (by rw [SN.out]; simp) (by rw [TN.out]; simp) HUL.out (by simp; omega) ?_)
                intro v7 w7 hos hg
                have B7 := kide (Below.grown (B9.out.alloc hsz (Obj.cells #[Value.int .i64 id, Value.bool q, Value.slice sa sn sc, Value.slice ta tn tc] 62)) hg (by simp; omega) (fun j hj => (O9.out.lt hj).1))
                have O7 := kide hos
                clear hos hg p2' p3' p4' p5' O9 B9
                go_wp2_with fail
                have hb6 := HB6.out
                have e1 : wrap64 ((j : Int) + 1) = ((j + 1 : Nat) : Int) := by unfold wrap64; omega
                rw [e1]
                go_roundw
                case rel => exact ⟨j + 1, by omega, rfl, by rw [HX.out]; exact O7.out, B7.out⟩
                case measure => simp only [intOf, Int.toNat_natCast]; omega
              · rw [if_neg hxz, List.append_nil] at HX
                have q9 : (x.id == z) = false := by simpa using hxz
                generalize x.id = xi at *
                clear hxz
                go_wp2_with fail
                go_quiet (fail)
                go_wp2_with fail
                have B9 := kide (below_drewN HB.out nq)
                have O9 := kide (HO.out.later (below_drewN (Below.refl _ _) nq))
                have hb6 := HB6.out
                have e1 : wrap64 ((j : Int) + 1) = ((j + 1 : Nat) : Int) := by unfold wrap64; omega
                rw [e1]
                go_roundw
                case rel => exact ⟨j + 1, by omega, rfl, by rw [HX.out]; exact O9.out, B9.out⟩
                case measure => simp only [intOf, Int.toNat_natCast]; omega
            · have hfin : Hid (xs.take j = xs) := List.take_of_length_le (by rw [HN.out]; omega)
              rw [hfin.out, ← HST.out] at HO
              obtain ⟨a9, c9, rfl⟩ : ∃ a9 c9, u6 = .slice a9 (smL xs (ks.take (i + 1))).length c9 := by
                rcases HO.out.2 with ⟨e, h0⟩ | ⟨g, cap, cur, e, -⟩
                · exact ⟨none, 0, by rw [e, h0]⟩
                · exact ⟨_, cap, e⟩
              have hb6 := HB6.out
              have e1 : wrap64 ((i : Int) + 1) = ((i + 1 : Nat) : Int) := by unfold wrap64; omega
              clear hb6 hbi
              by_cases hgo : (smL xs (ks.take (i + 1))).length = i + 1
              · have HG := kide hgo
                have HO2 := HO
                rw [hgo] at HO2
                rw [hgo]
                go_wp2_with fail
                try rw [e1]
                go_roundw
                case rel =>
                  refine ⟨i + 1, by omega, by first | rfl | (congr 1), HO2.out, HB.out, fun j9 hj9 => ?_⟩
                  by_cases ej : j9 = i
                  · subst ej; exact ⟨hfirst.out, HG.out⟩
                  · exact HOK.out j9 (by omega)
                case measure => simp only [intOf]; omega
              · have hR : R = false := by
                  rw [← HR.out]
                  exact smB_no (i := i) (by rw [HKN.out]; exact hlt) fun h => hgo h.2
                subst hR
                generalize (smL xs (ks.take (i + 1))).length = L at *
                have q7 : ((L : Int) != ((i + 1 : Nat) : Int)) = true := by simp; omega
                go_wp2_with fail
                go_returns
                exact ⟨_, rfl, fun h => by simp at h, HB.out⟩
    · have hfin : ks.take i = ks := List.take_of_length_le (by rw [HKN.out]; omega)
      rw [hfin] at HO
      have hR : R = true := by
        rw [← HR.out]
        refine (smB_iff xs ks).2 fun j hj => HOK.out j ?_
        rw [HKN.out] at hj
        omega
      subst hR
      clear hb hfin
      go_wp2_with fail
      go_returns
      first | exact ⟨_, rfl, HO.out, HB.out⟩ | exact ⟨_, rfl, fun _ => HO.out, HB.out⟩

end Go.Proofs.YtheglnkndjheaaaGreatDoor
