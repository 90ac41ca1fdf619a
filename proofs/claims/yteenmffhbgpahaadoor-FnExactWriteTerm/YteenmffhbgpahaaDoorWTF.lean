/- The specification's WriteTerm. -/
import Derived.Test.YteenmffhbgpahaaDoorWTE
namespace Go.Proofs.YteenmffhbgpahaaDoor
set_option linter.unusedVariables false
set_option linter.unusedSimpArgs false
open Go.RowKit

set_option maxHeartbeats 1000000 in
set_option maxRecDepth 100000 in
theorem specWriteT_any (a b : Option Addr) (c c2 n : Nat) (ds : List Dc) (xs : List Tg) (w : World) (hr : RdD w a ds) (hs : RdT w b xs) (hn : xs.length = n) :
    Calls Tryd.prog 6 #[.slice a ds.length c, .agg #[.slice b n c2]] w fun e w' => e = .returned (.string (txt (wtR ds (xs.map Tg.ct)))) ∧ Below w.heap.size w w' := by
  have s0 := St.start w (.cells #[.slice b n c2] 33)
  obtain ⟨W, hWW⟩ : ∃ W, w.alloc (Obj.cells #[.slice b n c2] 33) = W := ⟨_, rfl⟩
  rw [hWW] at s0
  have S0 := kide s0
  have HW := kide (fun u (hu : Below W.heap.size W u) => specWidth_any a b c c2 n ds xs u (hr.later (S0.out.next hu).below) (hs.later (S0.out.next hu).below) hn)
  have hn2 : n ≤ 1048576 := by rw [← hn]; exact hs.1
  have HS := kide hs
  have HR := kide hr
  have HN := kide hn
  have g0 := s0.cell 0
  simp at g0
  have lo1 := block_lt_of_cell g0
  simp only [] at lo1
  obtain ⟨-, hbd⟩ := widthsR_bounds ds (xs.map Tg.ct)
  by_cases h0 : (widthsR ds (xs.map Tg.ct)).length = 0
  · have hw : widR ds (xs.map Tg.ct) = -1 := by unfold widR; rw [if_pos h0]
    have hv : wtR ds (xs.map Tg.ct) = [] := by unfold wtR; rw [if_pos (Or.inl (by omega))]
    rw [hv]
    rw [hw] at HW
    clear hr hs hn hw hv h0 hbd s0
    go_enter Tryd.func6, Tryd.ntmps6
    go_wp2_with fail
    refine wp_region_x (SA := fun _ => False) (SB := fun uu => Below W.heap.size W uu) (k := 999) (by kernel_rfl) ?_
    have hm0 : Hid (Below W.heap.size W W.drew) := (Below.refl _ _).drew
    generalize W.drew = m0 at *
    try go_simp
    refine wpAnyX_both (T := fun uu => Below W.heap.size W uu) (i := 0) (v := Value.slice a ds.length c) rfl (by kernel_rfl) (by kernel_rfl) (by kernel_rfl) (fun _ _ _ h => by first | exact h | exact h.elim) (by decide) (fun _ h => h.elim) (fun _ h => h) (Sx.behind (by kernel_rfl) hm0.out) (Or.inl ⟨by rfl, fun uu hu => by go_simp⟩) ?_
    try go_simp
    refine wpAnyX_both (T := fun uu => Below W.heap.size W uu) (i := 1) (v := Value.agg #[Value.slice b n c2]) rfl (by kernel_rfl) (by kernel_rfl) (by kernel_rfl) (fun _ _ _ h => by first | exact h | exact h.elim) (by decide) (fun _ h => h.elim) (fun _ h => h) (Sx.behind (by kernel_rfl) hm0.out) (Or.inl ⟨by rfl, fun uu hu => by have e0 := (kcell hu (w.heap.size) 0 lo1).trans g0; go_simp⟩) ?_
    try go_simp
    refine wpAnyX_ready (rs := [2]) (by kernel_rfl) (by simp) (AllX.cons rfl (fun K hK => ?_) AllX.nil)
    go_simp
    refine Calls.mono (HW.out _ (hm0.out)) ?_
    rintro e m1 ⟨rfl, hb⟩
    have hm1 : Hid (Below W.heap.size W m1) := hm0.out.trans (hb.mono hm0.out.size)
    refine hK _ _ (Sx.behind (by kernel_rfl) hm1.out) ?_
    clear hK K hb
    try go_simp
    refine wpAnyX_both (T := fun uu => Below W.heap.size W uu) (i := 3) (v := Value.bool true) rfl (by kernel_rfl) (by kernel_rfl) (by kernel_rfl) (fun _ _ _ h => by first | exact h | exact h.elim) (by decide) (fun _ h => h.elim) (fun _ h => h) (Sx.behind (by kernel_rfl) hm1.out) (Or.inl ⟨by rfl, fun uu hu => by go_simp⟩) ?_
    try go_simp
    refine wpAnyX_both (T := fun uu => Below W.heap.size W uu) (i := 4) (v := Value.bool true) rfl (by kernel_rfl) (by kernel_rfl) (by kernel_rfl) (fun _ _ _ h => by first | exact h | exact h.elim) (by decide) (fun _ h => h.elim) (fun _ h => h) (Sx.behind (by kernel_rfl) hm1.out) (Or.inl ⟨by rfl, fun uu hu => by go_simp⟩) ?_
    try go_simp
    refine wpAnyX_both (T := fun uu => Below W.heap.size W uu) (i := 5) (v := undef) rfl (by kernel_rfl) (by kernel_rfl) (by kernel_rfl) (fun _ _ _ h => by first | exact h | exact h.elim) (by decide) (fun _ h => h.elim) (fun _ h => h) (Sx.behind (by kernel_rfl) hm1.out) (Or.inr ⟨by rfl, rfl⟩) ?_
    try go_simp
    refine wpAnyX_both (T := fun uu => Below W.heap.size W uu) (i := 6) (v := undef) rfl (by kernel_rfl) (by kernel_rfl) (by kernel_rfl) (fun _ _ _ h => by first | exact h | exact h.elim) (by decide) (fun _ h => h.elim) (fun _ h => h) (Sx.behind (by kernel_rfl) hm1.out) (Or.inr ⟨by rfl, rfl⟩) ?_
    try go_simp
    refine wpAnyX_both (T := fun uu => Below W.heap.size W uu) (i := 7) (v := undef) rfl (by kernel_rfl) (by kernel_rfl) (by kernel_rfl) (fun _ _ _ h => by first | exact h | exact h.elim) (by decide) (fun _ h => h.elim) (fun _ h => h) (Sx.behind (by kernel_rfl) hm1.out) (Or.inr ⟨by rfl, rfl⟩) ?_
    try go_simp
    refine wpAnyX_both (T := fun uu => Below W.heap.size W uu) (i := 8) (v := undef) rfl (by kernel_rfl) (by kernel_rfl) (by kernel_rfl) (fun _ _ _ h => by first | exact h | exact h.elim) (by decide) (fun _ h => h.elim) (fun _ h => h) (Sx.behind (by kernel_rfl) hm1.out) (Or.inr ⟨by rfl, rfl⟩) ?_
    try go_simp
    refine wpAnyX_both (T := fun uu => Below W.heap.size W uu) (i := 9) (v := undef) rfl (by kernel_rfl) (by kernel_rfl) (by kernel_rfl) (fun _ _ _ h => by first | exact h | exact h.elim) (by decide) (fun _ h => h.elim) (fun _ h => h) (Sx.behind (by kernel_rfl) hm1.out) (Or.inr ⟨by rfl, rfl⟩) ?_
    try go_simp
    refine wpAnyX_both (T := fun uu => Below W.heap.size W uu) (i := 10) (v := undef) rfl (by kernel_rfl) (by kernel_rfl) (by kernel_rfl) (fun _ _ _ h => by first | exact h | exact h.elim) (by decide) (fun _ h => h.elim) (fun _ h => h) (Sx.behind (by kernel_rfl) hm1.out) (Or.inr ⟨by rfl, rfl⟩) ?_
    try go_simp
    refine wpAnyX_both (T := fun uu => Below W.heap.size W uu) (i := 11) (v := undef) rfl (by kernel_rfl) (by kernel_rfl) (by kernel_rfl) (fun _ _ _ h => by first | exact h | exact h.elim) (by decide) (fun _ h => h.elim) (fun _ h => h) (Sx.behind (by kernel_rfl) hm1.out) (Or.inr ⟨by rfl, rfl⟩) ?_
    try go_simp
    refine wpAnyX_both (T := fun uu => Below W.heap.size W uu) (i := 12) (v := undef) rfl (by kernel_rfl) (by kernel_rfl) (by kernel_rfl) (fun _ _ _ h => by first | exact h | exact h.elim) (by decide) (fun _ h => h.elim) (fun _ h => h) (Sx.behind (by kernel_rfl) hm1.out) (Or.inr ⟨by rfl, rfl⟩) ?_
    try go_simp
    refine wpAnyX_both (T := fun uu => Below W.heap.size W uu) (i := 13) (v := undef) rfl (by kernel_rfl) (by kernel_rfl) (by kernel_rfl) (fun _ _ _ h => by first | exact h | exact h.elim) (by decide) (fun _ h => h.elim) (fun _ h => h) (Sx.behind (by kernel_rfl) hm1.out) (Or.inr ⟨by rfl, rfl⟩) ?_
    try go_simp
    refine wpAnyX_both (T := fun uu => Below W.heap.size W uu) (i := 14) (v := undef) rfl (by kernel_rfl) (by kernel_rfl) (by kernel_rfl) (fun _ _ _ h => by first | exact h | exact h.elim) (by decide) (fun _ h => h.elim) (fun _ h => h) (Sx.behind (by kernel_rfl) hm1.out) (Or.inr ⟨by rfl, rfl⟩) ?_
    try go_simp
    refine wpAnyX_both (T := fun uu => Below W.heap.size W uu) (i := 15) (v := Value.bool true) rfl (by kernel_rfl) (by kernel_rfl) (by kernel_rfl) (fun _ _ _ h => by first | exact h | exact h.elim) (by decide) (fun _ h => h.elim) (fun _ h => h) (Sx.behind (by kernel_rfl) hm1.out) (Or.inl ⟨by rfl, fun uu hu => by go_simp⟩) ?_
    try go_simp
    refine wpAnyX_done (by kernel_rfl) ?_ _
    skip
    have S1 := kide (S0.out.next hm1.out)
    clear hm0 hm1
    go_wp2_with fail
    go_ret
    exact ⟨rfl, S1.out.below⟩
  · have hw : 1 ≤ widR ds (xs.map Tg.ct) := by
      unfold widR
      rw [if_neg h0]
      refine (hbd _ ?_).1
      rw [List.getD, List.getElem?_eq_getElem (by omega)]
      simp
    have HZ := kide (fun u (hu : Below W.heap.size W u) => l3Sizes_any a b c c2 n ds xs u (hr.later (S0.out.next hu).below) (hs.later (S0.out.next hu).below) hn h0)
    have HT := kide (fun (p : Nat) (hp : p < n) (hl : ((txR ds (xs.map Tg.ct)).getD p []).length ≤ 20000) u (hu : Below W.heap.size W u) => l3Text_any a b c c2 n ds xs hn h0 p hp hl u (hr.later (S0.out.next hu).below) (hs.later (S0.out.next hu).below))
    obtain ⟨hl1, hl2, -, hkid⟩ := right_kids h0
    rw [List.length_map, hn] at hl1 hl2
    have HK := kide hkid
    have hv : wtR ds (xs.map Tg.ct) = if 20000 < (szR ds (xs.map Tg.ct)).getD (n - 1) 0 then [] else (txR ds (xs.map Tg.ct)).getD (n - 1) [] := by
      unfold wtR
      rw [List.length_map, hn]
      by_cases h : 20000 < (szR ds (xs.map Tg.ct)).getD (n - 1) 0
      · rw [if_pos (Or.inr h), if_pos h]
      · rw [if_neg (by omega), if_neg h]
    rw [hv]
    generalize widR ds (xs.map Tg.ct) = wd at HW hw
    obtain ⟨ns, hns⟩ : ∃ ns, xs.map Tg.ct = ns := ⟨_, rfl⟩
    have hln : Hid (ns.length = n) := by show _ = _; rw [← hns]; simpa using HN.out
    rw [hns] at HK HT HZ ⊢
    have HSL : Hid ((szR ds ns).length = n) := by
      show _ = _
      have h := sz_len ds ns ns.length (Nat.le_refl _)
      rw [List.take_length, hln.out] at h
      exact h
    have HRG := kide (sz_range ds ns)
    have HSX : Hid ((szR ds ns).getD (n - 1) 0 = min ((txR ds ns).getD (n - 1) []).length 20001) := by
      show _ = _
      have h := sz_tx (ds := ds) HK.out ns.length (Nat.le_refl _) (n - 1) (by rw [hln.out]; omega)
      rw [List.take_length] at h
      exact h
    obtain ⟨Z, hZ⟩ : ∃ Z, (szR ds ns).getD (n - 1) 0 = Z := ⟨_, rfl⟩
    rw [hZ] at HSX ⊢
    have HZV := kide hZ
    have hwd : ¬ wd < 0 := by omega
    have HN1 : Hid (((n - 1 : Nat) : Int) = (n : Int) - 1) := by show _ = _; omega
    have HWR : Hid (IntKind.i64.wrap ((n : Int) - 1) = ((n - 1 : Nat) : Int)) := by show _ = _; rw [IntKind.wrap]; simp [IntKind.signed, IntKind.bits]; omega
    have hn1 : (((n - 1 : Nat) : Int)) < (n : Int) := by omega
    clear hr hs hn hw hv h0 hbd s0 hns hkid hZ
    by_cases hz : 20000 < Z
    · rw [if_pos hz]
      have hZ1 : (20000 : Int) < (Z : Int) := by omega
      clear hz
      go_enter Tryd.func6, Tryd.ntmps6
      go_wp2_with fail
      refine wp_region_x (SA := fun _ => False) (SB := fun uu => Below W.heap.size W uu) (k := 999) (by kernel_rfl) ?_
      have hm0 : Hid (Below W.heap.size W W.drew) := (Below.refl _ _).drew
      generalize W.drew = m0 at *
      try go_simp
      refine wpAnyX_both (T := fun uu => Below W.heap.size W uu) (i := 0) (v := Value.slice a ds.length c) rfl (by kernel_rfl) (by kernel_rfl) (by kernel_rfl) (fun _ _ _ h => by first | exact h | exact h.elim) (by decide) (fun _ h => h.elim) (fun _ h => h) (Sx.behind (by kernel_rfl) hm0.out) (Or.inl ⟨by rfl, fun uu hu => by go_simp⟩) ?_
      try go_simp
      refine wpAnyX_both (T := fun uu => Below W.heap.size W uu) (i := 1) (v := Value.agg #[Value.slice b n c2]) rfl (by kernel_rfl) (by kernel_rfl) (by kernel_rfl) (fun _ _ _ h => by first | exact h | exact h.elim) (by decide) (fun _ h => h.elim) (fun _ h => h) (Sx.behind (by kernel_rfl) hm0.out) (Or.inl ⟨by rfl, fun uu hu => by have e0 := (kcell hu (w.heap.size) 0 lo1).trans g0; go_simp⟩) ?_
      try go_simp
      refine wpAnyX_ready (rs := [2]) (by kernel_rfl) (by simp) (AllX.cons rfl (fun K hK => ?_) AllX.nil)
      go_simp
      refine Calls.mono (HW.out _ (hm0.out)) ?_
      rintro e m1 ⟨rfl, hb⟩
      have hm1 : Hid (Below W.heap.size W m1) := hm0.out.trans (hb.mono hm0.out.size)
      refine hK _ _ (Sx.behind (by kernel_rfl) hm1.out) ?_
      clear hK K hb
      try go_simp
      refine wpAnyX_both (T := fun uu => Below W.heap.size W uu) (i := 3) (v := Value.bool false) rfl (by kernel_rfl) (by kernel_rfl) (by kernel_rfl) (fun _ _ _ h => by first | exact h | exact h.elim) (by decide) (fun _ h => h.elim) (fun _ h => h) (Sx.behind (by kernel_rfl) hm1.out) (Or.inl ⟨by rfl, fun uu hu => by go_simp⟩) ?_
      try go_simp
      refine wpAnyX_both (T := fun uu => Below W.heap.size W uu) (i := 4) (v := Value.bool false) rfl (by kernel_rfl) (by kernel_rfl) (by kernel_rfl) (fun _ _ _ h => by first | exact h | exact h.elim) (by decide) (fun _ h => h.elim) (fun _ h => h) (Sx.behind (by kernel_rfl) hm1.out) (Or.inl ⟨by rfl, fun uu hu => by go_simp⟩) ?_
      try go_simp
      refine wpAnyX_both (T := fun uu => Below W.heap.size W uu) (i := 5) (v := Value.slice a ds.length c) rfl (by kernel_rfl) (by kernel_rfl) (by kernel_rfl) (fun _ _ _ h => by first | exact h | exact h.elim) (by decide) (fun _ h => h.elim) (fun _ h => h) (Sx.behind (by kernel_rfl) hm1.out) (Or.inl ⟨by rfl, fun uu hu => by go_simp⟩) ?_
      try go_simp
      refine wpAnyX_both (T := fun uu => Below W.heap.size W uu) (i := 6) (v := Value.agg #[Value.slice b n c2]) rfl (by kernel_rfl) (by kernel_rfl) (by kernel_rfl) (fun _ _ _ h => by first | exact h | exact h.elim) (by decide) (fun _ h => h.elim) (fun _ h => h) (Sx.behind (by kernel_rfl) hm1.out) (Or.inl ⟨by rfl, fun uu hu => by have e0 := (kcell hu (w.heap.size) 0 lo1).trans g0; go_simp⟩) ?_
      try go_simp
      refine wpAnyX_both (T := fun uu => Below W.heap.size W uu) (i := 8) (v := Value.pointer (some ⟨w.heap.size, 0, none⟩)) rfl (by kernel_rfl) (by kernel_rfl) (by kernel_rfl) (fun _ _ _ h => by first | exact h | exact h.elim) (by decide) (fun _ h => h.elim) (fun _ h => h) (Sx.behind (by kernel_rfl) hm1.out) (Or.inl ⟨by rfl, fun uu hu => by go_simp⟩) ?_
      try go_simp
      refine wpAnyX_both (T := fun uu => Below W.heap.size W uu) (i := 9) (v := Value.slice b n c2) rfl (by kernel_rfl) (by kernel_rfl) (by kernel_rfl) (fun _ _ _ h => by first | exact h | exact h.elim) (by decide) (fun _ h => h.elim) (fun _ h => h) (Sx.behind (by kernel_rfl) hm1.out) (Or.inl ⟨by rfl, fun uu hu => by have e0 := (kcell hu (w.heap.size) 0 lo1).trans g0; go_simp⟩) ?_
      try go_simp
      refine wpAnyX_both (T := fun uu => Below W.heap.size W uu) (i := 10) (v := Value.int .i64 (n : Int)) rfl (by kernel_rfl) (by kernel_rfl) (by kernel_rfl) (fun _ _ _ h => by first | exact h | exact h.elim) (by decide) (fun _ h => h.elim) (fun _ h => h) (Sx.behind (by kernel_rfl) hm1.out) (Or.inl ⟨by rfl, fun uu hu => by go_simp⟩) ?_
      try go_simp
      refine wpAnyX_both (T := fun uu => Below W.heap.size W uu) (i := 11) (v := Value.int .i64 (((n - 1 : Nat)) : Int)) rfl (by kernel_rfl) (by kernel_rfl) (by kernel_rfl) (fun _ _ _ h => by first | exact h | exact h.elim) (by decide) (fun _ h => h.elim) (fun _ h => h) (Sx.behind (by kernel_rfl) hm1.out) (Or.inl ⟨by rfl, fun uu hu => by have e0 := HWR.out; go_simp⟩) ?_
      try go_simp
      refine wpAnyX_ready (rs := [7]) (by kernel_rfl) (by simp) (AllX.cons rfl (fun K hK => ?_) AllX.nil)
      go_simp
      refine Calls.mono (HZ.out _ (hm1.out)) ?_
      rintro e m2 ⟨vz, rfl, hoz, hb⟩
      have hm2 : Hid (Below W.heap.size W m2) := hm1.out.trans (hb.mono hm1.out.size)
      obtain ⟨za, zc, hvz, hrz⟩ := hoz.rd (by rw [zi_len, HSL.out]; omega) (zi_in64 HRG.out)
      rw [zi_len, HSL.out] at hvz
      subst hvz
      obtain ⟨-, -, h | ⟨zb, zo, rfl, hzc⟩⟩ := hrz
      · have h2 := zi_len (szR ds ns); rw [h, HSL.out] at h2; simp at h2; omega
      have qz := hzc (n - 1) (by rw [zi_len, HSL.out]; omega)
      rw [zi_at, HZV.out] at qz
      have lo2 := block_lt_of_cell qz
      simp only [] at lo2
      have hself : Below m2.heap.size m2 m2 := Below.refl _ _
      have QZ := kide qz
      have WZ := kide lo2
      clear hoz hzc
      refine hK _ _ (Sx.behind (by kernel_rfl) hm2.out) ?_
      clear hK K hb
      try go_simp
      refine wpAnyX_both (T := fun uu => Below W.heap.size W uu) (i := 12) (v := Value.pointer (some ⟨zb, zo + (n - 1), none⟩)) rfl (by kernel_rfl) (by kernel_rfl) (by kernel_rfl) (fun _ _ _ h => by first | exact h | exact h.elim) (by decide) (fun _ h => h.elim) (fun _ h => h) (Sx.behind (by kernel_rfl) hm2.out) (Or.inl ⟨by rfl, fun uu hu => by have e0 := hn1; go_simp⟩) ?_
      try go_simp
      refine wpAnyX_ready (rs := [13]) (by kernel_rfl) (by simp) (AllX.cons rfl (fun K hK => ?_) AllX.nil)
      have e0 := QZ.out
      go_simp
      refine hK _ _ (Sx.behind (by kernel_rfl) hm2.out) ?_
      clear hK K e0
      try go_simp
      refine wpAnyX_both (T := fun uu => Below W.heap.size W uu) (i := 14) (v := Value.bool true) rfl (by kernel_rfl) (by kernel_rfl) (by kernel_rfl) (fun _ _ _ h => by first | exact h | exact h.elim) (by decide) (fun _ h => h.elim) (fun _ h => h) (Sx.behind (by kernel_rfl) hm2.out) (Or.inl ⟨by rfl, fun uu hu => by have e0 := hZ1; go_simp⟩) ?_
      try go_simp
      refine wpAnyX_both (T := fun uu => Below W.heap.size W uu) (i := 15) (v := Value.bool true) rfl (by kernel_rfl) (by kernel_rfl) (by kernel_rfl) (fun _ _ _ h => by first | exact h | exact h.elim) (by decide) (fun _ h => h.elim) (fun _ h => h) (Sx.behind (by kernel_rfl) hm2.out) (Or.inl ⟨by rfl, fun uu hu => by go_simp⟩) ?_
      try go_simp
      refine wpAnyX_done (by kernel_rfl) ?_ _
      skip
      have S1 := kide (S0.out.next hm2.out)
      clear hm0 hm1 hm2
      go_wp2_with fail
      go_ret
      exact ⟨rfl, S1.out.below⟩
    · rw [if_neg hz]
      have hZ1 : ¬ (20000 : Int) < (Z : Int) := by omega
      have HT2 := kide (HT.out (n - 1) (by omega) (by have := HSX.out; omega))
      clear hz
      generalize txt ((txR ds ns).getD (n - 1) []) = sT at *
      go_enter Tryd.func6, Tryd.ntmps6
      go_wp2_with fail
      refine wp_region_x (SA := fun _ => False) (SB := fun uu => Below W.heap.size W uu) (k := 999) (by kernel_rfl) ?_
      have hm0 : Hid (Below W.heap.size W W.drew) := (Below.refl _ _).drew
      generalize W.drew = m0 at *
      try go_simp
      refine wpAnyX_both (T := fun uu => Below W.heap.size W uu) (i := 0) (v := Value.slice a ds.length c) rfl (by kernel_rfl) (by kernel_rfl) (by kernel_rfl) (fun _ _ _ h => by first | exact h | exact h.elim) (by decide) (fun _ h => h.elim) (fun _ h => h) (Sx.behind (by kernel_rfl) hm0.out) (Or.inl ⟨by rfl, fun uu hu => by go_simp⟩) ?_
      try go_simp
      refine wpAnyX_both (T := fun uu => Below W.heap.size W uu) (i := 1) (v := Value.agg #[Value.slice b n c2]) rfl (by kernel_rfl) (by kernel_rfl) (by kernel_rfl) (fun _ _ _ h => by first | exact h | exact h.elim) (by decide) (fun _ h => h.elim) (fun _ h => h) (Sx.behind (by kernel_rfl) hm0.out) (Or.inl ⟨by rfl, fun uu hu => by have e0 := (kcell hu (w.heap.size) 0 lo1).trans g0; go_simp⟩) ?_
      try go_simp
      refine wpAnyX_ready (rs := [2]) (by kernel_rfl) (by simp) (AllX.cons rfl (fun K hK => ?_) AllX.nil)
      go_simp
      refine Calls.mono (HW.out _ (hm0.out)) ?_
      rintro e m1 ⟨rfl, hb⟩
      have hm1 : Hid (Below W.heap.size W m1) := hm0.out.trans (hb.mono hm0.out.size)
      refine hK _ _ (Sx.behind (by kernel_rfl) hm1.out) ?_
      clear hK K hb
      try go_simp
      refine wpAnyX_both (T := fun uu => Below W.heap.size W uu) (i := 3) (v := Value.bool false) rfl (by kernel_rfl) (by kernel_rfl) (by kernel_rfl) (fun _ _ _ h => by first | exact h | exact h.elim) (by decide) (fun _ h => h.elim) (fun _ h => h) (Sx.behind (by kernel_rfl) hm1.out) (Or.inl ⟨by rfl, fun uu hu => by go_simp⟩) ?_
      try go_simp
      refine wpAnyX_both (T := fun uu => Below W.heap.size W uu) (i := 4) (v := Value.bool false) rfl (by kernel_rfl) (by kernel_rfl) (by kernel_rfl) (fun _ _ _ h => by first | exact h | exact h.elim) (by decide) (fun _ h => h.elim) (fun _ h => h) (Sx.behind (by kernel_rfl) hm1.out) (Or.inl ⟨by rfl, fun uu hu => by go_simp⟩) ?_
      try go_simp
      refine wpAnyX_both (T := fun uu => Below W.heap.size W uu) (i := 5) (v := Value.slice a ds.length c) rfl (by kernel_rfl) (by kernel_rfl) (by kernel_rfl) (fun _ _ _ h => by first | exact h | exact h.elim) (by decide) (fun _ h => h.elim) (fun _ h => h) (Sx.behind (by kernel_rfl) hm1.out) (Or.inl ⟨by rfl, fun uu hu => by go_simp⟩) ?_
      try go_simp
      refine wpAnyX_both (T := fun uu => Below W.heap.size W uu) (i := 6) (v := Value.agg #[Value.slice b n c2]) rfl (by kernel_rfl) (by kernel_rfl) (by kernel_rfl) (fun _ _ _ h => by first | exact h | exact h.elim) (by decide) (fun _ h => h.elim) (fun _ h => h) (Sx.behind (by kernel_rfl) hm1.out) (Or.inl ⟨by rfl, fun uu hu => by have e0 := (kcell hu (w.heap.size) 0 lo1).trans g0; go_simp⟩) ?_
      try go_simp
      refine wpAnyX_both (T := fun uu => Below W.heap.size W uu) (i := 8) (v := Value.pointer (some ⟨w.heap.size, 0, none⟩)) rfl (by kernel_rfl) (by kernel_rfl) (by kernel_rfl) (fun _ _ _ h => by first | exact h | exact h.elim) (by decide) (fun _ h => h.elim) (fun _ h => h) (Sx.behind (by kernel_rfl) hm1.out) (Or.inl ⟨by rfl, fun uu hu => by go_simp⟩) ?_
      try go_simp
      refine wpAnyX_both (T := fun uu => Below W.heap.size W uu) (i := 9) (v := Value.slice b n c2) rfl (by kernel_rfl) (by kernel_rfl) (by kernel_rfl) (fun _ _ _ h => by first | exact h | exact h.elim) (by decide) (fun _ h => h.elim) (fun _ h => h) (Sx.behind (by kernel_rfl) hm1.out) (Or.inl ⟨by rfl, fun uu hu => by have e0 := (kcell hu (w.heap.size) 0 lo1).trans g0; go_simp⟩) ?_
      try go_simp
      refine wpAnyX_both (T := fun uu => Below W.heap.size W uu) (i := 10) (v := Value.int .i64 (n : Int)) rfl (by kernel_rfl) (by kernel_rfl) (by kernel_rfl) (fun _ _ _ h => by first | exact h | exact h.elim) (by decide) (fun _ h => h.elim) (fun _ h => h) (Sx.behind (by kernel_rfl) hm1.out) (Or.inl ⟨by rfl, fun uu hu => by go_simp⟩) ?_
      try go_simp
      refine wpAnyX_both (T := fun uu => Below W.heap.size W uu) (i := 11) (v := Value.int .i64 (((n - 1 : Nat)) : Int)) rfl (by kernel_rfl) (by kernel_rfl) (by kernel_rfl) (fun _ _ _ h => by first | exact h | exact h.elim) (by decide) (fun _ h => h.elim) (fun _ h => h) (Sx.behind (by kernel_rfl) hm1.out) (Or.inl ⟨by rfl, fun uu hu => by have e0 := HWR.out; go_simp⟩) ?_
      try go_simp
      refine wpAnyX_ready (rs := [7]) (by kernel_rfl) (by simp) (AllX.cons rfl (fun K hK => ?_) AllX.nil)
      go_simp
      refine Calls.mono (HZ.out _ (hm1.out)) ?_
      rintro e m2 ⟨vz, rfl, hoz, hb⟩
      have hm2 : Hid (Below W.heap.size W m2) := hm1.out.trans (hb.mono hm1.out.size)
      obtain ⟨za, zc, hvz, hrz⟩ := hoz.rd (by rw [zi_len, HSL.out]; omega) (zi_in64 HRG.out)
      rw [zi_len, HSL.out] at hvz
      subst hvz
      obtain ⟨-, -, h | ⟨zb, zo, rfl, hzc⟩⟩ := hrz
      · have h2 := zi_len (szR ds ns); rw [h, HSL.out] at h2; simp at h2; omega
      have qz := hzc (n - 1) (by rw [zi_len, HSL.out]; omega)
      rw [zi_at, HZV.out] at qz
      have lo2 := block_lt_of_cell qz
      simp only [] at lo2
      have hself : Below m2.heap.size m2 m2 := Below.refl _ _
      have QZ := kide qz
      have WZ := kide lo2
      clear hoz hzc
      refine hK _ _ (Sx.behind (by kernel_rfl) hm2.out) ?_
      clear hK K hb
      try go_simp
      refine wpAnyX_both (T := fun uu => Below W.heap.size W uu) (i := 12) (v := Value.pointer (some ⟨zb, zo + (n - 1), none⟩)) rfl (by kernel_rfl) (by kernel_rfl) (by kernel_rfl) (fun _ _ _ h => by first | exact h | exact h.elim) (by decide) (fun _ h => h.elim) (fun _ h => h) (Sx.behind (by kernel_rfl) hm2.out) (Or.inl ⟨by rfl, fun uu hu => by have e0 := hn1; go_simp⟩) ?_
      try go_simp
      refine wpAnyX_ready (rs := [13]) (by kernel_rfl) (by simp) (AllX.cons rfl (fun K hK => ?_) AllX.nil)
      have e0 := QZ.out
      go_simp
      refine hK _ _ (Sx.behind (by kernel_rfl) hm2.out) ?_
      clear hK K e0
      try go_simp
      refine wpAnyX_both (T := fun uu => Below W.heap.size W uu) (i := 14) (v := Value.bool false) rfl (by kernel_rfl) (by kernel_rfl) (by kernel_rfl) (fun _ _ _ h => by first | exact h | exact h.elim) (by decide) (fun _ h => h.elim) (fun _ h => h) (Sx.behind (by kernel_rfl) hm2.out) (Or.inl ⟨by rfl, fun uu hu => by have e0 := hZ1; go_simp⟩) ?_
      try go_simp
      refine wpAnyX_both (T := fun uu => Below W.heap.size W uu) (i := 15) (v := Value.bool false) rfl (by kernel_rfl) (by kernel_rfl) (by kernel_rfl) (fun _ _ _ h => by first | exact h | exact h.elim) (by decide) (fun _ h => h.elim) (fun _ h => h) (Sx.behind (by kernel_rfl) hm2.out) (Or.inl ⟨by rfl, fun uu hu => by go_simp⟩) ?_
      try go_simp
      refine wpAnyX_done (by kernel_rfl) ?_ _
      skip
      have S1 := kide (S0.out.next hm2.out)
      have g1 := S1.out.cell 0
      simp at g1
      have HT3 := kide (HT2.out m2 hm2.out)
      rw [HN1.out] at HT3
      clear hm0 hm1 hm2 hn1
      go_wp2_with fail
      refine Calls.mono HT3.out ?_
      rintro e w5 ⟨rfl, hb5⟩
      have S5 := kide (S1.out.next hb5)
      clear hb5
      go_wp2_with fail
      go_ret
      exact ⟨rfl, S5.out.below⟩

end Go.Proofs.YteenmffhbgpahaaDoor
