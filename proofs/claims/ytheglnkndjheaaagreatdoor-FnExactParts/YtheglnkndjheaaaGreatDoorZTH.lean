/- Several texts in one. -/
import Derived.Test.YtheglnkndjheaaaGreatDoorZTQ
import Derived.Test.YtheglnkndjheaaaGreatDoorEJ
import Derived.Test.YtheglnkndjheaaaGreatDoorAPX
import Derived.Test.YtheglnkndjheaaaGreatDoorRX

/- Touching: what the given l17Vars answers. -/
namespace Go.Proofs.YtheglnkndjheaaaGreatDoor
set_option linter.unusedVariables false
set_option linter.unusedSimpArgs false
open Go.RowKit

theorem OW.rd0 {w : World} {B : Nat} {v : Value} {xs : List Int} (h : OW w B v xs) (hl : xs.length ≤ 1048576) (hi : ∀ x ∈ xs, in64 x) : ∃ a c, v = .slice a xs.length c ∧ RdI w a xs ∧ (a = none → c = 0) := by
  obtain ⟨a, c, e, hr⟩ := h.rd hl hi
  refine ⟨a, c, e, hr, fun ha => ?_⟩
  subst ha
  rcases h.2 with ⟨e2, h0⟩ | ⟨g, cap, cur, e2, -⟩
  · rw [e2] at e
    simp only [Value.slice.injEq] at e
    exact e.2.2.symm
  · rw [e2] at e
    simp only [Value.slice.injEq] at e
    exact absurd e.1 (by simp)

theorem varsR_len (ds : List Dc) (ns : List Tc) : (varsR ds ns).length ≤ 60 ∧ ∀ x ∈ varsR ds ns, in64 x := by
  unfold varsR
  by_cases h : (widthsR ds ns).length = 0
  · rw [if_pos h]; simp
  · rw [if_neg h]
    have hd : ds.length ≤ 60 := by
      unfold widthsR at h
      by_cases h1 : (dclR ds && decide (1 ≤ ns.length) && decide (ns.length ≤ 400)) = true
      · simp only [Bool.and_eq_true] at h1
        exact (dclR_iff.1 h1.1.1).1
      · rw [if_neg h1] at h; simp at h
    refine ⟨Nat.le_trans (upV_len _ _) hd, fun x hx => ?_⟩
    obtain ⟨v, hv, -, rfl⟩ := (upV_mem _ _ _).1 hx
    unfold in64
    omega

set_option maxHeartbeats 2000000 in
set_option maxRecDepth 100000 in
theorem l17Vars_any (a : Option Addr) (c dn : Nat) (ds : List Dc) (id : Int) (q : Bool) (sa ta : Option Addr) (sn sc tn tc : Nat) (ss ts : List Tg) (w : World) (hr : RdD w a ds) (hdn : ds.length = dn) (h1 : RdT w sa ss) (h2 : RdT w ta ts) (l1 : ss.length = sn) (l2 : ts.length = tn) :
    Calls Tryz.prog 27 #[.slice a dn c, .agg #[.int .i64 id, .bool q, .slice sa sn sc, .slice ta tn tc]] w fun e w' => ∃ v, e = .returned v ∧ OW w' w.heap.size v (risI [] (varsR ds (ss.map Tg.ct) ++ varsR ds (ts.map Tg.ct))) ∧ Below w.heap.size w w' := by
  have HV1 : Hid (∀ u, Below w.heap.size w u → Calls Tryz.prog 50 #[.slice a dn c, .agg #[.slice sa sn sc]] u fun e w' => ∃ v, e = .returned v ∧ OW w' (u.heap.size + 1) v (varsR ds (ss.map Tg.ct)) ∧ Below u.heap.size u w') := fun u hu => by rw [← hdn]; exact specVars_any a sa c sc sn ds ss u (hr.later hu) (h1.later hu) l1
  have HV2 : Hid (∀ u, Below w.heap.size w u → Calls Tryz.prog 50 #[.slice a dn c, .agg #[.slice ta tn tc]] u fun e w' => ∃ v, e = .returned v ∧ OW w' (u.heap.size + 1) v (varsR ds (ts.map Tg.ct)) ∧ Below u.heap.size u w') := fun u hu => by rw [← hdn]; exact specVars_any a ta c tc tn ds ts u (hr.later hu) (h2.later hu) l2
  have HL1 := kide (varsR_len ds (ss.map Tg.ct)).1
  have HI1 := kide (varsR_len ds (ss.map Tg.ct)).2
  have HL2 := kide (varsR_len ds (ts.map Tg.ct)).1
  have HI2 := kide (varsR_len ds (ts.map Tg.ct)).2
  generalize varsR ds (ss.map Tg.ct) = V1 at *
  generalize varsR ds (ts.map Tg.ct) = V2 at *
  have HL3 : Hid ((V1 ++ V2).length ≤ 1048576) := by show _ ≤ _; have := HL1.out; have := HL2.out; rw [List.length_append]; omega
  have HI3 : Hid (∀ x ∈ V1 ++ V2, in64 x) := fun x hx => by
    rcases List.mem_append.1 hx with h | h
    · exact HI1.out x h
    · exact HI2.out x h
  have XQ := kide (St.start w (Obj.cells #[Value.int .i64 id, Value.bool q, Value.slice sa sn sc, Value.slice ta tn tc] 62))
  obtain ⟨b0, hb0⟩ : ∃ b0, w.heap.size = b0 := ⟨_, rfl⟩
  have HB0 := kide hb0
  clear hr h1 h2 l1 l2 hdn
  go_enter Tryz.func27, Tryz.ntmps27
  go_wp2_with fail
  try simp only [hb0]
  clear hb0
  generalize w.alloc (Obj.cells #[Value.int .i64 id, Value.bool q, Value.slice sa sn sc, Value.slice ta tn tc] 62) = W at *
  refine wp_region_x (SA := fun _ => False) (SB := fun uu => uu.cell? ⟨b0, 2, none⟩ = some (Value.slice sa sn sc) ∧ uu.cell? ⟨b0, 3, none⟩ = some (Value.slice ta tn tc)) (k := 999) (by kernel_rfl) ?_
  have hbd : Below W.heap.size W W.drew := (Below.refl _ _).drew
  have XX0 := kide (XQ.out.next hbd)
  clear hbd
  generalize W.drew = m0 at *
  have c0_0 : m0.cell? ⟨b0, 2, none⟩ = some (Value.slice sa sn sc) := (by rw [← HB0.out]; exact (XX0.out.cell 2))
  have c1_0 : m0.cell? ⟨b0, 3, none⟩ = some (Value.slice ta tn tc) := (by rw [← HB0.out]; exact (XX0.out.cell 3))
  have hs0 : Hid ((fun uu => uu.cell? ⟨b0, 2, none⟩ = some (Value.slice sa sn sc) ∧ uu.cell? ⟨b0, 3, none⟩ = some (Value.slice ta tn tc)) m0) := ⟨c0_0, c1_0⟩
  try go_simp
  refine wpAnyX_both (T := (fun _ => True)) (i := 0) (v := Value.slice a dn c) rfl (by kernel_rfl) (by kernel_rfl) (by kernel_rfl) (fun _ _ _ h => by first | exact h | exact h.elim) (by decide) (fun _ _ => trivial) (fun _ _ => trivial) (Sx.behind (by kernel_rfl) hs0.out) (Or.inl ⟨by rfl, fun uu hu => by go_simp⟩) ?_
  try go_simp
  refine wpAnyX_both (T := (fun _ => True)) (i := 1) (v := Value.pointer (some ⟨b0, 2, none⟩)) rfl (by kernel_rfl) (by kernel_rfl) (by kernel_rfl) (fun _ _ _ h => by first | exact h | exact h.elim) (by decide) (fun _ _ => trivial) (fun _ _ => trivial) (Sx.behind (by kernel_rfl) hs0.out) (Or.inl ⟨by rfl, fun uu hu => by go_simp⟩) ?_
  try go_simp
  refine wpAnyX_both (T := (fun uu => uu.cell? ⟨b0, 2, none⟩ = some (Value.slice sa sn sc) ∧ uu.cell? ⟨b0, 3, none⟩ = some (Value.slice ta tn tc))) (i := 2) (v := Value.agg #[Value.slice sa sn sc]) rfl (by kernel_rfl) (by kernel_rfl) (by kernel_rfl) (fun _ _ _ h => by first | exact h | exact h.elim) (by decide) (fun _ h => h.elim) (fun _ h => h) (Sx.behind (by kernel_rfl) hs0.out) (Or.inl ⟨by rfl, fun uu hu => by obtain ⟨e0, e1⟩ := hu; go_simp⟩) ?_
  try go_simp
  refine wpAnyX_both (T := (fun _ => True)) (i := 4) (v := Value.slice a dn c) rfl (by kernel_rfl) (by kernel_rfl) (by kernel_rfl) (fun _ _ _ h => by first | exact h | exact h.elim) (by decide) (fun _ _ => trivial) (fun _ _ => trivial) (Sx.behind (by kernel_rfl) hs0.out) (Or.inl ⟨by rfl, fun uu hu => by go_simp⟩) ?_
  try go_simp
  refine wpAnyX_both (T := (fun _ => True)) (i := 5) (v := Value.pointer (some ⟨b0, 3, none⟩)) rfl (by kernel_rfl) (by kernel_rfl) (by kernel_rfl) (fun _ _ _ h => by first | exact h | exact h.elim) (by decide) (fun _ _ => trivial) (fun _ _ => trivial) (Sx.behind (by kernel_rfl) hs0.out) (Or.inl ⟨by rfl, fun uu hu => by go_simp⟩) ?_
  try go_simp
  refine wpAnyX_both (T := (fun uu => uu.cell? ⟨b0, 2, none⟩ = some (Value.slice sa sn sc) ∧ uu.cell? ⟨b0, 3, none⟩ = some (Value.slice ta tn tc))) (i := 6) (v := Value.agg #[Value.slice ta tn tc]) rfl (by kernel_rfl) (by kernel_rfl) (by kernel_rfl) (fun _ _ _ h => by first | exact h | exact h.elim) (by decide) (fun _ h => h.elim) (fun _ h => h) (Sx.behind (by kernel_rfl) hs0.out) (Or.inl ⟨by rfl, fun uu hu => by obtain ⟨e0, e1⟩ := hu; go_simp⟩) ?_
  try go_simp
  refine wpAnyX_ready (rs := [3]) (by kernel_rfl) (by simp) (AllX.cons rfl (fun K hK => ?_) AllX.nil)
  go_simp
  refine Calls.mono (HV1.out m0 XX0.out.below) ?_
  rintro e m1 ⟨v1, rfl, ho, hb⟩
  have OA1 := kide (OW.mono ho (Nat.succ_le_succ XX0.out.below.size))
  have XX1 := kide (XX0.out.next hb)
  clear ho hb
  have c0_1 : m1.cell? ⟨b0, 2, none⟩ = some (Value.slice sa sn sc) := (by rw [← HB0.out]; exact (XX1.out.cell 2))
  have c1_1 : m1.cell? ⟨b0, 3, none⟩ = some (Value.slice ta tn tc) := (by rw [← HB0.out]; exact (XX1.out.cell 3))
  have hs1 : Hid ((fun uu => uu.cell? ⟨b0, 2, none⟩ = some (Value.slice sa sn sc) ∧ uu.cell? ⟨b0, 3, none⟩ = some (Value.slice ta tn tc)) m1) := ⟨c0_1, c1_1⟩
  refine hK _ _ (Sx.behind (by kernel_rfl) hs1.out) ?_
  clear hK K
  try go_simp
  refine wpAnyX_ready (rs := [7]) (by kernel_rfl) (by simp) (AllX.cons rfl (fun K hK => ?_) AllX.nil)
  go_simp
  refine Calls.mono (HV2.out m1 XX1.out.below) ?_
  rintro e m2 ⟨v2, rfl, ho, hb⟩
  have OA2 := kide (OA1.out.later hb)
  have XX2 := kide (XX1.out.next hb)
  obtain ⟨a2, c2, rfl, hr2, hz2⟩ := ho.rd0 (Nat.le_trans HL2.out (by decide)) HI2.out
  have RB2 := kide hr2
  have HZ2 := kide hz2
  clear ho hb hr2 hz2
  have c0_2 : m2.cell? ⟨b0, 2, none⟩ = some (Value.slice sa sn sc) := (by rw [← HB0.out]; exact (XX2.out.cell 2))
  have c1_2 : m2.cell? ⟨b0, 3, none⟩ = some (Value.slice ta tn tc) := (by rw [← HB0.out]; exact (XX2.out.cell 3))
  have hs2 : Hid ((fun uu => uu.cell? ⟨b0, 2, none⟩ = some (Value.slice sa sn sc) ∧ uu.cell? ⟨b0, 3, none⟩ = some (Value.slice ta tn tc)) m2) := ⟨c0_2, c1_2⟩
  refine hK _ _ (Sx.behind (by kernel_rfl) hs2.out) ?_
  clear hK K
  try go_simp
  refine wpAnyX_ready (rs := [8]) (by kernel_rfl) (by simp) (AllX.cons rfl (fun K hK => ?_) AllX.nil)
  refine step_appIr _ rfl _ _ rfl (w.heap.size + 1) v1 V1 V2 (by first | rfl | simp [Act.eval]) OA2.out a2 c2 (by first | rfl | simp [Act.eval]) HZ2.out RB2.out (by have := HL1.out; have := HL2.out; omega) XX2.out.size ?_
  intro v3 m3 ho hg
  have XX3 := kide (XX2.out.grown OA2.out hg)
  obtain ⟨a3, c3, rfl, hr3⟩ := OW.rd (B := w.heap.size + 1) ho HL3.out HI3.out
  have RC3 := kide hr3
  clear ho hg hr3
  have c0_3 : m3.cell? ⟨b0, 2, none⟩ = some (Value.slice sa sn sc) := (by rw [← HB0.out]; exact (XX3.out.cell 2))
  have c1_3 : m3.cell? ⟨b0, 3, none⟩ = some (Value.slice ta tn tc) := (by rw [← HB0.out]; exact (XX3.out.cell 3))
  have hs3 : Hid ((fun uu => uu.cell? ⟨b0, 2, none⟩ = some (Value.slice sa sn sc) ∧ uu.cell? ⟨b0, 3, none⟩ = some (Value.slice ta tn tc)) m3) := ⟨c0_3, c1_3⟩
  refine hK _ _ (Sx.behind (by kernel_rfl) hs3.out) ?_
  clear hK K
  try go_simp
  refine wpAnyX_ready (rs := [9]) (by kernel_rfl) (by simp) (AllX.cons rfl (fun K hK => ?_) AllX.nil)
  go_simp
  refine Calls.mono (l7Rising_any a3 c3 _ (V1 ++ V2) m3 RC3.out (by simp)) ?_
  rintro e m4 ⟨v5, rfl, ho, hb⟩
  have OF4 : Hid (OW m4 w.heap.size v5 (risI [] (V1 ++ V2))) := OW.mono ho XX3.out.below.size
  have XX4 := kide (XX3.out.next hb)
  clear ho hb
  have c0_4 : m4.cell? ⟨b0, 2, none⟩ = some (Value.slice sa sn sc) := (by rw [← HB0.out]; exact (XX4.out.cell 2))
  have c1_4 : m4.cell? ⟨b0, 3, none⟩ = some (Value.slice ta tn tc) := (by rw [← HB0.out]; exact (XX4.out.cell 3))
  have hs4 : Hid ((fun uu => uu.cell? ⟨b0, 2, none⟩ = some (Value.slice sa sn sc) ∧ uu.cell? ⟨b0, 3, none⟩ = some (Value.slice ta tn tc)) m4) := ⟨c0_4, c1_4⟩
  refine hK _ _ (Sx.behind (by kernel_rfl) hs4.out) ?_
  clear hK K
  try go_simp
  refine wpAnyX_both (T := (fun _ => True)) (i := 10) (v := v5) rfl (by kernel_rfl) (by kernel_rfl) (by kernel_rfl) (fun _ _ _ h => by first | exact h | exact h.elim) (by decide) (fun _ _ => trivial) (fun _ _ => trivial) (Sx.behind (by kernel_rfl) hs4.out) (Or.inl ⟨by rfl, fun uu hu => by go_simp⟩) ?_
  try go_simp
  refine wpAnyX_done (by kernel_rfl) ?_ _
  go_wp2_with fail
  go_ret
  exact ⟨_, rfl, OF4.out, XX4.out.below⟩

end Go.Proofs.YtheglnkndjheaaaGreatDoor

/- How many variables a literal has. -/
namespace Go.Proofs.YtheglnkndjheaaaGreatDoor
set_option linter.unusedVariables false
set_option linter.unusedSimpArgs false
open Go.RowKit

theorem lvR_len (ds : List Dc) (l : Lc) : (lvR ds l).length ≤ 120 ∧ ∀ x ∈ lvR ds l, in64 x := by
  unfold lvR
  have h1 := varsR_len ds l.ss
  have h2 := varsR_len ds l.ts
  have h3 := risI_len (varsR ds l.ss ++ varsR ds l.ts) []
  rw [List.length_append] at h3
  refine ⟨by have := h1.1; have := h2.1; simp only [List.length_nil] at h3; omega, fun x hx => ?_⟩
  rw [risI_mem, List.mem_append] at hx
  rcases hx with hx | hx | hx
  · simp at hx
  · exact h1.2 x hx
  · exact h2.2 x hx

end Go.Proofs.YtheglnkndjheaaaGreatDoor
