/- Links taken back: the specification. -/
import Derived.Test.YtelndjdbfapahaaGS
import Derived.Test.YtelndjdbfapahaaHK
namespace Go.Proofs.Ytelndjdbfapahaa
set_option linter.unusedVariables false
set_option linter.unusedSimpArgs false
open Go.RowKit

theorem RdK.take {w : World} {g : Nat} {ls : List Lk} (h : RdK w (some ⟨g, 0, none⟩) ls) (k : Nat) : RdK w (some ⟨g, 0, none⟩) (ls.take k) := by
  obtain ⟨h1, h2, h3⟩ := h
  refine ⟨by simp; omega, fun l hl => h2 l (List.mem_of_mem_take hl), ?_⟩
  rcases h3 with h3 | ⟨b, o, e, hc⟩
  · exact .inl (by rw [h3]; simp)
  · refine .inr ⟨b, o, e, fun i l hi => hc i l ?_⟩
    have := (List.getElem?_eq_some_iff.1 hi).1
    simp at this
    rw [List.getElem?_take] at hi
    split at hi
    · exact hi
    · cases hi

set_option maxHeartbeats 1000000 in
set_option maxRecDepth 100000 in
theorem specUndo_any (z : Int) (g n c : Nat) (ls : List Lk) (x : Int) (w : World) (hr : RdK w (some ⟨g, 0, none⟩) ls) (hn : ls.length = n) (hnc : n ≤ c) :
    Calls Try.prog 27 #[.agg #[.int .i64 z, .slice (some ⟨g, 0, none⟩) n c], .int .i64 x] w (RetU w (undoR z ls x)) := by
  obtain ⟨R, hR⟩ : ∃ R, undoR z ls x = R := ⟨_, rfl⟩
  rw [hR]
  have HR := kide hR
  have h2 : Below w.heap.size w ((w.alloc (Obj.cells #[.int .i64 z, .slice (some ⟨g, 0, none⟩) n c] 29)).alloc (Obj.cells #[.int .i64 0, .slice none 0 0] 29)) := ((Below.refl _ _).alloc (Nat.le_refl _) _).alloc (by simp) _
  have XF : Hid (Bx ((w.alloc (Obj.cells #[.int .i64 z, .slice (some ⟨g, 0, none⟩) n c] 29)).alloc (Obj.cells #[.int .i64 0, .slice none 0 0] 29)) w.heap.size #[.int .i64 z, .slice (some ⟨g, 0, none⟩) n c] 29) := (Bx.new w #[.int .i64 z, .slice (some ⟨g, 0, none⟩) n c] 29).alloc _
  have XR : Hid (Bx ((w.alloc (Obj.cells #[.int .i64 z, .slice (some ⟨g, 0, none⟩) n c] 29)).alloc (Obj.cells #[.int .i64 0, .slice none 0 0] 29)) (w.heap.size + 1) #[.int .i64 0, .slice none 0 0] 29) := by
    have := Bx.new (w.alloc (Obj.cells #[.int .i64 z, .slice (some ⟨g, 0, none⟩) n c] 29)) #[.int .i64 0, .slice none 0 0] 29
    rwa [World.size_alloc] at this
  have HC := kide (specForest_any z (some ⟨g, 0, none⟩) n c ls _ (hr.later h2) hn)
  have HNQ := kide (fun u => l1In_any x 0 (n : Int) u)
  have HCP := kide (fun u (k : Nat) (hu : Below w.heap.size w u) (hk : k ≤ n) => l7Copy_any z g k c (ls.take k) u ((hr.later hu).take k) (by simp; omega))
  have H2 := kide h2
  have hn2 : n ≤ 1048576 := by rw [← hn]; exact hr.1
  have HN := kide hn
  clear hr hn hR h2
  cases hf : forR z ls with
  | none =>
    have hres : R = (0, []) := by rw [← HR.out, undoR, hf]
    subst hres
    rw [hf] at HC
    simp only [Option.isSome_none] at HC
    clear HR HNQ HCP
    go_enter Try.func27, Try.ntmps27
    go_wp2_with fail
    generalize (w.alloc (Obj.cells #[.int .i64 z, .slice (some ⟨g, 0, none⟩) n c] 29)).alloc (Obj.cells #[.int .i64 0, .slice none 0 0] 29) = w0 at *
    refine Calls.mono HC.out ?_
    rintro e w1 ⟨rfl, hb1⟩
    have XR1 := kide (XR.out.later hb1)
    have B1 := kide (H2.out.trans (hb1.mono H2.out.size))
    have r0 := XR1.out.cell 0
    have r1 := XR1.out.cell 1
    have f0 := XR1.out.froz 0
    have f1 := XR1.out.froz 1
    simp at r0 r1
    clear hb1
    go_wp2_with fail
    exact bodyPost_ret (v := .agg #[.int .i64 0, .slice none 0 0]) (by simp [results, Try.results27, go_sem, r0, r1]) rfl (RetU.no ((B1.out.setCell (by simp) _).setCell (by simp) _))
  | some L =>
    rw [hf] at HC
    simp only [Option.isSome_some] at HC
    go_enter Try.func27, Try.ntmps27
    go_wp2_with fail
    generalize (w.alloc (Obj.cells #[.int .i64 z, .slice (some ⟨g, 0, none⟩) n c] 29)).alloc (Obj.cells #[.int .i64 0, .slice none 0 0] 29) = w0 at *
    refine Calls.mono HC.out ?_
    rintro e w1 ⟨rfl, hb1⟩
    have XR1 := kide (XR.out.later hb1)
    have XF1 := kide (XF.out.later hb1)
    have B1 := kide (H2.out.trans (hb1.mono H2.out.size))
    have p0 := XF1.out.cell 0
    have p1 := XF1.out.cell 1
    have r0 := XR1.out.cell 0
    have r1 := XR1.out.cell 1
    have f0 := XR1.out.froz 0
    have f1 := XR1.out.froz 1
    simp at p0 p1 r0 r1
    clear hb1 XR XF H2 HC
    by_cases hx : 0 ≤ x ∧ x ≤ (n : Int)
    case neg =>
      simp only [decide_eq_false hx] at HNQ
      have hres : R = (0, []) := by
        rw [← HR.out, undoR, hf]
        simp only []
        rw [if_neg (by rw [HN.out]; exact hx)]
      subst hres
      clear HR hf HCP
      go_wp2_with fail
      refine Calls.mono (HNQ.out w1) ?_
      rintro e w2 ⟨rfl, hw2⟩
      obtain rfl := hw2.symm
      go_wp2_with fail
      exact bodyPost_ret (v := .agg #[.int .i64 0, .slice none 0 0]) (by simp [results, Try.results27, go_sem, r0, r1]) rfl (RetU.no ((B1.out.setCell (by simp) _).setCell (by simp) _))
    simp only [decide_eq_true hx] at HNQ
    obtain ⟨k, rfl⟩ : ∃ k : Nat, x = (k : Int) := ⟨x.toNat, by omega⟩
    have hkn : k ≤ n := by omega
    have hres : R = (z, ls.take k) := by
      rw [← HR.out, undoR, hf]
      simp only []
      rw [if_pos (by rw [HN.out]; exact hx)]
      simp
    subst hres
    have HCK := kide (fun u (hu : Below w.heap.size w u) => HCP.out u k hu hkn)
    have hkc : k ≤ c := by omega
    have ik : (k : Int) ≤ (c : Int) := by omega
    generalize hLE : ls.take k = LE at *
    clear HR hf hx HCP hLE
    go_wp2_with fail
    refine Calls.mono (HNQ.out w1) ?_
    rintro e w2 ⟨rfl, hw2⟩
    obtain rfl := hw2.symm
    go_wp2_with fail
    refine wp_region_x (SA := fun u => u.cell? ⟨w.heap.size, 0, none⟩ = some (Value.int .i64 z) ∧ u.cell? ⟨w.heap.size, 1, none⟩ = some (Value.slice (some ⟨g, 0, none⟩) n c)) (SB := fun _ => True) (k := 8) (by kernel_rfl) ?_
    have hbd : Below w1.heap.size w1 w1.drew := (Below.refl _ _).drew
    have XF0 := kide (XF1.out.later hbd)
    have XR0 := kide (XR1.out.later hbd)
    have B0 := kide B1.out.drew
    clear hbd XF1 XR1 B1 p0 p1 r0 r1 f0 f1
    generalize w1.drew = u0 at *
    have hs0 : Hid ((fun u => u.cell? ⟨w.heap.size, 0, none⟩ = some (Value.int .i64 z) ∧ u.cell? ⟨w.heap.size, 1, none⟩ = some (Value.slice (some ⟨g, 0, none⟩) n c)) u0) := ⟨XF0.out.cell 0, XF0.out.cell 1⟩
    try go_simp
    refine wpAnyX_both (T := fun _ => True) (i := 0) (v := Value.pointer (some ⟨w.heap.size, 0, none⟩)) rfl (by kernel_rfl) (by kernel_rfl) (by kernel_rfl) (fun _ _ _ h => h) (by decide) (fun _ _ => trivial) (fun _ _ => trivial) (Sx.before (by kernel_rfl) hs0.out) (Or.inl ⟨by rfl, fun u hu => by go_simp⟩) ?_
    try go_simp
    refine wpAnyX_take (i := 1) (v := Value.int .i64 z) rfl (by kernel_rfl) (by kernel_rfl) (by kernel_rfl) (fun _ _ _ h => h) (by decide) (by kernel_rfl) (by kernel_rfl) hs0.out (Or.inl ⟨by rfl, fun u hu => by obtain ⟨e1, e2⟩ := hu; go_simp⟩) ?_
    try go_simp
    refine wpAnyX_both (T := fun _ => True) (i := 2) (v := Value.pointer (some ⟨w.heap.size, 1, none⟩)) rfl (by kernel_rfl) (by kernel_rfl) (by kernel_rfl) (fun _ _ _ h => h) (by decide) (fun _ _ => trivial) (fun _ _ => trivial) (Sx.before (by kernel_rfl) hs0.out) (Or.inl ⟨by rfl, fun u hu => by go_simp⟩) ?_
    try go_simp
    refine wpAnyX_take (i := 3) (v := Value.slice (some ⟨g, 0, none⟩) n c) rfl (by kernel_rfl) (by kernel_rfl) (by kernel_rfl) (fun _ _ _ h => h) (by decide) (by kernel_rfl) (by kernel_rfl) hs0.out (Or.inl ⟨by rfl, fun u hu => by obtain ⟨e1, e2⟩ := hu; go_simp⟩) ?_
    try go_simp
    refine wpAnyX_both (T := fun _ => True) (i := 4) (v := Value.int .i64 (k : Int)) rfl (by kernel_rfl) (by kernel_rfl) (by kernel_rfl) (fun _ _ _ h => h) (by decide) (fun _ _ => trivial) (fun _ _ => trivial) (Sx.before (by kernel_rfl) hs0.out) (Or.inl ⟨by rfl, fun u hu => by go_simp⟩) ?_
    try go_simp
    refine wpAnyX_both (T := fun _ => True) (i := 5) (v := Value.slice (some ⟨g, 0, none⟩) k c) rfl (by kernel_rfl) (by kernel_rfl) (by kernel_rfl) (fun _ _ _ h => h) (by decide) (fun _ _ => trivial) (fun _ _ => trivial) (Sx.before (by kernel_rfl) hs0.out) (Or.inl ⟨by rfl, fun u hu => by go_simp⟩) ?_
    try go_simp
    refine wpAnyX_both (T := fun _ => True) (i := 6) (v := Value.agg #[Value.int .i64 z, Value.slice (some ⟨g, 0, none⟩) k c]) rfl (by kernel_rfl) (by kernel_rfl) (by kernel_rfl) (fun _ _ _ h => h) (by decide) (fun _ _ => trivial) (fun _ _ => trivial) (Sx.before (by kernel_rfl) hs0.out) (Or.inl ⟨by rfl, fun u hu => by go_simp⟩) ?_
    try go_simp
    refine wpAnyX_ready (rs := [7]) (by kernel_rfl) (by simp) (AllX.cons rfl (fun K hK => ?_) AllX.nil)
    go_simp
    refine Calls.mono (HCK.out u0 B0.out) ?_
    rintro e u1 ⟨v1, rfl, o1, hb1⟩
    obtain ⟨a2, c2, rfl⟩ := ok3_form o1
    have XF1 := kide (XF0.out.later hb1)
    have XR1 := kide (XR0.out.later hb1)
    have OR1 := kide (ok3_base o1 B0.out.size)
    have B1' := kide (B0.out.trans (hb1.mono B0.out.size))
    clear o1 hb1
    have hs1 : Hid ((fun u => u.cell? ⟨w.heap.size, 0, none⟩ = some (Value.int .i64 z) ∧ u.cell? ⟨w.heap.size, 1, none⟩ = some (Value.slice (some ⟨g, 0, none⟩) n c)) u1) := ⟨XF1.out.cell 0, XF1.out.cell 1⟩
    refine hK _ _ (Sx.before (by kernel_rfl) hs1.out) ?_
    clear hK K
    try go_simp
    refine wpAnyX_ready (rs := [8]) (by kernel_rfl) (by simp) (AllX.cons rfl (fun K hK => ?_) AllX.nil)
    have e8 := XR1.out.cell 0
    have e9 := XR1.out.cell 1
    have f8 := XR1.out.froz 0
    have f9 := XR1.out.froz 1
    simp at e8 e9
    go_simp
    have XR2 : Hid (Bx ((u1.setCell ⟨(w.heap.size + 1), 0, none⟩ (Value.int .i64 z)).setCell ⟨(w.heap.size + 1), 1, none⟩ (Value.slice a2 LE.length c2)) (w.heap.size + 1) #[Value.int .i64 z, Value.slice a2 LE.length c2] 29) := (XR1.out.set 0 _).set 1 _
    have OR2 : Hid (OK3 ((u1.setCell ⟨(w.heap.size + 1), 0, none⟩ (Value.int .i64 z)).setCell ⟨(w.heap.size + 1), 1, none⟩ (Value.slice a2 LE.length c2)) w.heap.size (Value.slice a2 LE.length c2) LE) := own3_set (own3_set OR1.out XR1.out (by decide) _) (XR1.out.set 0 (Value.int .i64 z)) (by decide) _
    have B2 : Hid (Below w.heap.size w ((u1.setCell ⟨(w.heap.size + 1), 0, none⟩ (Value.int .i64 z)).setCell ⟨(w.heap.size + 1), 1, none⟩ (Value.slice a2 LE.length c2))) := (B1'.out.setCell (by simp) _).setCell (by simp) _
    generalize (u1.setCell ⟨(w.heap.size + 1), 0, none⟩ (Value.int .i64 z)).setCell ⟨(w.heap.size + 1), 1, none⟩ (Value.slice a2 LE.length c2) = u2 at *
    refine hK _ _ (Sx.behind (by kernel_rfl) trivial) ?_
    clear hK K
    clear e8 e9 f8 f9
    try go_simp
    refine wpAnyX_done (by kernel_rfl) ?_ _
    skip
    go_wp2_with fail
    have z0 := XR2.out.cell 0
    have z1 := XR2.out.cell 1
    simp at z0 z1
    exact bodyPost_ret (v := .agg #[.int .i64 z, .slice a2 LE.length c2]) (by simp [results, Try.results27, go_sem, z0, z1]) rfl ⟨_, rfl, OR2.out, B2.out⟩

end Go.Proofs.Ytelndjdbfapahaa
