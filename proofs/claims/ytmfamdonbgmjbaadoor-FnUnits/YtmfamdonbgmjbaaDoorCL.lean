/- Clauses as plain lists: when they are right. What both CnfOk answer. -/
import Derived.Test.YtmfamdonbgmjbaaDoorCJ
namespace Go.Proofs.YtmfamdonbgmjbaaDoor
set_option linter.unusedVariables false
set_option linter.unusedSimpArgs false
open Go.RowKit

/-- A number without its sign. -/
def absI (n : Int) : Int := max n (-n)
theorem absI_def (n : Int) : absI n = if 0 ≤ n then n else -n := by unfold absI; omega
def numR (S n : Int) : Bool := decide (n ≠ 0) && decide (-S ≤ n ∧ n ≤ S)
/-- Do the numbers of a clause rise without their signs, from behind last on? -/
def clR (S : Int) : Int → List Int → Bool
  | _, [] => true
  | l, n :: t => numR S n && decide (l < absI n) && clR S (absI n) t
def claR (S : Int) (c : List Int) : Bool := decide (c.length ≤ 400) && clR S 0 c
def cnfR (S : Int) (cs : List (List Int)) : Bool := decide (0 ≤ S ∧ S ≤ 400) && decide (cs.length ≤ 4000) && cs.all (claR S)

theorem clR_step {S last : Int} {ks : List Int} {j : Nat} (h : j < ks.length) : clR S last (ks.drop j) = (numR S (ks.getD j 0) && decide (last < absI (ks.getD j 0)) && clR S (absI (ks.getD j 0)) (ks.drop (j + 1))) := by
  rw [List.drop_eq_getElem_cons h, clR]
  simp [List.getD, h]
theorem all_step {α : Type} {p : α → Bool} {xs : List α} {k : Nat} {x : α} (h : xs[k]? = some x) : (xs.drop k).all p = (p x && (xs.drop (k + 1)).all p) := by
  have hk : k < xs.length := (List.getElem?_eq_some_iff.1 h).1
  have hx : xs[k] = x := (List.getElem?_eq_some_iff.1 h).2
  rw [List.drop_eq_getElem_cons hk, hx, List.all_cons]

theorem clR_in {S : Int} {l : Int} {ks : List Int} (h : clR S l ks = true) : ∀ n ∈ ks, numR S n = true := by
  induction ks generalizing l with
  | nil => simp
  | cons k t ih =>
    rw [clR] at h
    simp only [Bool.and_eq_true] at h
    intro n hn
    rcases List.mem_cons.1 hn with rfl | hn
    · exact h.1.1
    · exact ih h.2 n hn
theorem cnfR_in {S : Int} {cs : List (List Int)} (h : cnfR S cs = true) : (0 ≤ S ∧ S ≤ 400) ∧ cs.length ≤ 4000 ∧ ∀ c ∈ cs, c.length ≤ 400 ∧ ∀ n ∈ c, n ≠ 0 ∧ -S ≤ n ∧ n ≤ S := by
  unfold cnfR at h
  simp only [Bool.and_eq_true, decide_eq_true_eq, List.all_eq_true] at h
  refine ⟨h.1.1, h.1.2, fun c hc => ?_⟩
  have h2 := h.2 c hc
  unfold claR at h2
  simp only [Bool.and_eq_true, decide_eq_true_eq] at h2
  refine ⟨h2.1, fun n hn => ?_⟩
  have h3 := clR_in h2.2 n hn
  simp [numR] at h3
  exact ⟨h3.1, h3.2.1, h3.2.2⟩

theorem l18Abs_any (n : Int) (hn : -400 ≤ n ∧ n ≤ 400) (w : World) :
    Calls Tryd.prog 49 #[.int .i64 n] w fun e w' => e = .returned (.int .i64 (absI n)) ∧ w' = w := by
  obtain ⟨h1, h2⟩ := hn
  rw [absI_def]
  by_cases h : 0 ≤ n
  · rw [if_pos h]
    go_enter Tryd.func49, Tryd.ntmps49
    go_wp2
    go_ret
    exact ⟨ret_int (by omega), rfl⟩
  · rw [if_neg h]
    go_enter Tryd.func49, Tryd.ntmps49
    go_wp2
    go_ret
    exact ⟨ret_int (by omega), rfl⟩

theorem switchOf_any (n : Int) (hn : -400 ≤ n ∧ n ≤ 400) (w : World) :
    Calls Tryd.prog 51 #[.int .i64 n] w fun e w' => e = .returned (.int .i64 (absI n)) ∧ w' = w := by
  obtain ⟨h1, h2⟩ := hn
  rw [absI_def]
  by_cases h : 0 ≤ n
  · rw [if_pos h]
    go_enter Tryd.func51, Tryd.ntmps51
    go_wp2
    go_ret
    exact ⟨ret_int (by omega), rfl⟩
  · rw [if_neg h]
    go_enter Tryd.func51, Tryd.ntmps51
    go_wp2
    go_ret
    exact ⟨ret_int (by omega), rfl⟩

theorem numberOk_any (S : Int) (hS : 0 ≤ S ∧ S ≤ 400) (v1 : Value) (n : Int) (w : World) :
    Calls Tryd.prog 59 #[.agg #[.int .i64 S, v1], .int .i64 n] w fun e w' => e = .returned (.bool (numR S n)) ∧ Below w.heap.size w w' := by
  obtain ⟨h1, h2⟩ := hS
  have B0 := kide ((Below.refl w.heap.size w).alloc (Nat.le_refl _) (Obj.cells #[.int .i64 S, v1] 29))
  by_cases h0 : n = 0
  · have hz : (n != 0) = false := by simp [h0]
    have HR : Hid (numR S n = false) := by show _ = _; simp [numR, h0]
    clear h0
    go_enter Tryd.func59, Tryd.ntmps59
    go_wp2
    go_ret
    exact ⟨ret_bool HR.out.symm, B0.out⟩
  have hz : (n != 0) = true := by simp [h0]
  by_cases ha : -S ≤ n
  · by_cases hb : n ≤ S
    · have HR : Hid (numR S n = true) := by show _ = _; simp [numR, h0, ha, hb]
      clear h0
      go_enter Tryd.func59, Tryd.ntmps59
      go_wp2
      go_ret
      exact ⟨ret_bool HR.out.symm, B0.out⟩
    · have HR : Hid (numR S n = false) := by show _ = _; simp [numR, h0, ha, hb]
      clear h0
      go_enter Tryd.func59, Tryd.ntmps59
      go_wp2
      go_ret
      exact ⟨ret_bool HR.out.symm, B0.out⟩
  · have HR : Hid (numR S n = false) := by show _ = _; simp [numR, h0, ha]
    clear h0
    go_enter Tryd.func59, Tryd.ntmps59
    go_wp2
    go_ret
    exact ⟨ret_bool HR.out.symm, B0.out⟩

end Go.Proofs.YtmfamdonbgmjbaaDoor
