/- The search is right: maths. -/
import Derived.Test.YtmfamdonbgmjbaaDoorSVK
import Derived.Test.YtmfamdonbgmjbaaDoorZHAB
namespace Go.Proofs.YtmfamdonbgmjbaaDoor
set_option linter.unusedVariables false
set_option linter.unusedSimpArgs false
open Go.RowKit
theorem svF_one {S : Nat} {cs : List (List Int)} {most : Nat} (hb : ∀ cl ∈ cs, ∀ x ∈ cl, x ≠ 0 ∧ -(S : Int) ≤ x ∧ x ≤ (S : Int)) : ∀ (f v : Nat) (T : List Int), Tk S T → (svF S cs most f v T).1 = 1 → cs.find? (dueB (svF S cs most f v T).2.1) = none ∧ fstN S (svF S cs most f v T).2.1 = none
  | 0, v, T, hT, h => by cases h
  | f + 1, v, T, hT, h => by
    rw [svF] at h ⊢
    by_cases h1 : v = most
    · rw [if_pos h1] at h; cases h
    · rw [if_neg h1] at h ⊢
      by_cases h2 : (unF (S + 1) cs T).2 = false
      · rw [if_pos h2] at h; cases h
      · rw [if_neg h2] at h ⊢
        obtain ⟨hR, hD⟩ := unF_end hb (S + 1) T hT (by omega) (by simpa using h2)
        cases hi : fstN S (unF (S + 1) cs T).1 with
        | none => exact ⟨hD, hi⟩
        | some i =>
          rw [hi] at h
          simp only [] at h ⊢
          obtain ⟨f1, f2, f3, -⟩ := fstN_some hi
          by_cases h3 : (svF S cs most f (v + 1) ((unF (S + 1) cs T).1 ++ [-((i : Int) + 1)])).1 = 2
          · rw [if_pos h3] at h ⊢
            exact svF_one hb f _ _ (hR.snoc ⟨by omega, by omega, by omega⟩ f2 f3) h
          · rw [if_neg h3] at h ⊢
            exact svF_one hb f _ _ (hR.snoc ⟨by omega, by omega, by omega⟩ f3 (by rw [Int.neg_neg]; exact f2)) h
theorem svF_not2 {S : Nat} {cs : List (List Int)} {most : Nat} {on : List Bool} (hb : ∀ cl ∈ cs, ∀ x ∈ cl, x ≠ 0 ∧ -(S : Int) ≤ x ∧ x ≤ (S : Int)) (hc : ∀ cl ∈ cs, cl.any (soR on) = true) : ∀ (f v : Nat) (T : List Int), Tk S T → sdR on T = true → S < f + T.length → (svF S cs most f v T).1 ≠ 2
  | 0, v, T, hT, _, hf => by have := hT.len; omega
  | f + 1, v, T, hT, hs, hf => by
    rw [svF]
    by_cases h1 : v = most
    · rw [if_pos h1]; simp
    · rw [if_neg h1]
      obtain ⟨h2, h2s⟩ := unF_sound hc (fun cl hcl x hx => (hb cl hcl x hx).1) (S + 1) T hT (by omega) hb hs
      obtain ⟨hR, hD⟩ := unF_end hb (S + 1) T hT (by omega) h2
      rw [if_neg (by rw [h2]; simp)]
      obtain ⟨T', hT'⟩ := unF_pre (cs := cs) (S + 1) T
      have hge : T.length ≤ (unF (S + 1) cs T).1.length := by rw [hT']; simp
      cases hi : fstN S (unF (S + 1) cs T).1 with
      | none => simp
      | some i =>
        simp only []
        obtain ⟨f1, f2, f3, -⟩ := fstN_some hi
        have hso : soR on ((i : Int) + 1) = true ∨ soR on (-((i : Int) + 1)) = true := by
          unfold soR
          rw [absI_neg, decide_eq_true (show (0 : Int) < (i : Int) + 1 by omega), decide_eq_false (show ¬ (0 : Int) < -((i : Int) + 1) by omega)]
          cases on.getD (absI ((i : Int) + 1) - 1).toNat false
          · exact .inr rfl
          · exact .inl rfl
        by_cases h3 : (svF S cs most f (v + 1) ((unF (S + 1) cs T).1 ++ [-((i : Int) + 1)])).1 = 2
        · rw [if_pos h3]
          rcases hso with ho | ho
          · exact svF_not2 hb hc f _ _ (hR.snoc ⟨by omega, by omega, by omega⟩ f2 f3) (by rw [sdR_snoc, h2s, ho]; rfl) (by rw [List.length_append, List.length_singleton]; omega)
          · exact absurd h3 (svF_not2 hb hc f _ _ (hR.snoc ⟨by omega, by omega, by omega⟩ f3 (by rw [Int.neg_neg]; exact f2)) (by rw [sdR_snoc, h2s, ho]; rfl) (by rw [List.length_append, List.length_singleton]; omega))
        · rw [if_neg h3]
          exact h3
theorem flV_so {S : Nat} {R : List Int} (hR : Tk S R) {k : Int} (hk : k ∈ R) : soR (flV S R) k = true := by
  obtain ⟨h0, h1, h2⟩ := hR.num k hk
  obtain ⟨j, hj, hjS, hj2⟩ := soR_place (S := (S : Int)) ⟨h0, h1, h2⟩
  unfold soR
  rw [hj2, List.getD_eq_getElem?_getD]
  unfold flV
  rw [List.getElem?_map, List.getElem?_range (by omega)]
  simp only [Option.map_some, Option.getD_some, beq_iff_eq, decide_eq_decide]
  rw [absI_def] at hj
  split at hj
  · exact ⟨fun _ => by omega, fun _ => by rw [← hj]; exact hk⟩
  · exact ⟨fun h => absurd (by rw [hj]; exact h) (hR.opp hk), fun h => by omega⟩
/-- What is found meets the clauses. -/
theorem setl_meets {S : Int} {cs : List (List Int)} {most : Int} (h : (setlR S cs most).2.2 = 1) : meetR S cs (setlR S cs most).1 = true ∧ (setlR S cs most).2.1 ≤ most := by
  unfold setlR at h ⊢
  split at h
  · rename_i hg
    rw [if_pos hg]
    obtain ⟨h1, h2, h3, h4⟩ := cnfR_parts hg.1
    obtain ⟨S, rfl⟩ : ∃ S' : Nat, S = (S' : Int) := ⟨S.toNat, by omega⟩
    have hb := cnfR_parts9 hg.1
    split at h
    · rename_i h5
      rw [if_pos h5]
      simp only [Int.toNat_natCast] at h5 ⊢
      have hk := svF_tk hb _ _ _ (Tk.nil S) h5
      obtain ⟨hd, hf⟩ := svF_one hb _ _ _ (Tk.nil S) h5
      have hv := svF_vis (S := S) (cs := cs) (most := most.toNat) (S + 1) 0 [] (Nat.zero_le _)
      generalize svF S cs most.toNat (S + 1) 0 [] = F at *
      refine ⟨?_, by omega⟩
      unfold meetR
      rw [hg.1, flV_len, decide_eq_true rfl, Bool.and_self, Bool.true_and, List.all_eq_true]
      intro cl hcl
      have hdue := List.find?_eq_none.1 hd cl hcl
      have hop : opn F.2.1 cl = [] := List.eq_nil_iff_forall_not_mem.2 fun x hx => by
        obtain ⟨x1, x2, x3⟩ := opn_mem.1 hx
        obtain ⟨j, hj, hjS, -⟩ := soR_place (S := (S : Int)) (hb cl hcl x x1)
        rw [absI_def] at hj
        split at hj
        · rcases fstN_none hf j (by omega) with h | h
          · exact x2 (by rw [hj]; exact h)
          · exact x3 (by rw [hj]; exact h)
        · rcases fstN_none hf j (by omega) with h | h
          · exact x3 (by rw [hj]; exact h)
          · exact x2 (by rw [show x = -((j : Int) + 1) by omega]; exact h)
      have hmet : metB F.2.1 cl = true := by
        unfold dueB at hdue
        rw [hop] at hdue
        simpa using hdue
      obtain ⟨k, k1, k2⟩ := metB_iff.1 hmet
      exact List.any_eq_true.2 ⟨k, k1, flV_so hk k2⟩
    · rename_i h5
      exfalso
      simp only [] at h
      exact h5 (by omega)
  · cases h
/-- Where none is found, none meets them. -/
theorem setl_none {S : Int} {cs : List (List Int)} {most : Int} (h : (setlR S cs most).2.2 = 2) (on : List Bool) : meetR S cs on = false := by
  cases hm : meetR S cs on with
  | false => rfl
  | true =>
    exfalso
    unfold setlR at h
    split at h
    · rename_i hg
      obtain ⟨h1, h2, h3, h4⟩ := cnfR_parts hg.1
      obtain ⟨S, rfl⟩ : ∃ S' : Nat, S = (S' : Int) := ⟨S.toNat, by omega⟩
      unfold meetR at hm
      rw [Bool.and_eq_true, List.all_eq_true] at hm
      have h9 := svF_not2 (most := most.toNat) (cnfR_parts9 hg.1) hm.2 (S + 1) 0 [] (Tk.nil S) rfl (by simp)
      simp only [Int.toNat_natCast] at h
      split at h
      · cases h
      · simp only [] at h
        exact h9 (by omega)
    · cases h
theorem setl_nil {S : Int} {cs : List (List Int)} {most : Int} (h : (setlR S cs most).2.2 ≠ 1) : (setlR S cs most).1 = [] := by
  unfold setlR at h ⊢
  split
  · rename_i hg
    rw [if_pos hg] at h
    split
    · rename_i h5; rw [if_pos h5] at h; exact absurd rfl h
    · rfl
  · rfl
end Go.Proofs.YtmfamdonbgmjbaaDoor
