/- How many leaves the tree of a term has: plain facts. No program in sight. -/
import Derived.Test.YteenmffhbgpahaaDoorQK
namespace Go.Proofs.YteenmffhbgpahaaDoor
set_option linter.unusedVariables false
set_option linter.unusedSimpArgs false
open Go.RowKit

theorem getD_left {α : Type} (l m : List α) (i : Nat) (d : α) (h : i < l.length) : (l ++ m).getD i d = l.getD i d := by simp [List.getD, List.getElem?_append, h]
theorem getD_right {α : Type} (l m : List α) (i : Nat) (d : α) (h : l.length ≤ i) : (l ++ m).getD i d = m.getD (i - l.length) d := by simp [List.getD, List.getElem?_append, Nat.not_lt.2 h]

/-- What Kids have together. -/
def sK (ls : List Int) (ks : List Int) : Int := (ks.map fun k => ls.getD k.toNat 0).sum

/-- The leaves of a node by those of the nodes ahead of it. -/
def lvN (ls : List Int) (ks : List Int) : Int := min 1000000 ((if ks.length = 0 then 1 else 0) + sK ls ks)

def lvsR (ns : List Tc) : List Int := ns.foldl (fun ls n => ls ++ [lvN ls n.ks]) []

def leavesR (ds : List Dc) (ns : List Tc) : Int := if (widthsR ds ns).length = 0 then -1 else (lvsR ns).getD (ns.length - 1) 0

theorem lvs_take {ns : List Tc} {k : Nat} {n : Tc} (h : ns[k]? = some n) : lvsR (ns.take (k + 1)) = lvsR (ns.take k) ++ [lvN (lvsR (ns.take k)) n.ks] := by
  unfold lvsR
  rw [List.take_add_one, h, List.foldl_append]
  simp

theorem fold_len (ns : List Tc) : ∀ ls : List Int, (ns.foldl (fun ls n => ls ++ [lvN ls n.ks]) ls).length = ls.length + ns.length := by
  induction ns with
  | nil => simp
  | cons n t ih => intro ls; rw [List.foldl_cons, ih]; simp; omega

theorem lvs_len (ns : List Tc) : (lvsR ns).length = ns.length := by
  have := fold_len ns []
  simpa [lvsR] using this

theorem getD_range {ls : List Int} (h : ∀ x ∈ ls, 0 ≤ x ∧ x ≤ 1000000) (i : Nat) : 0 ≤ ls.getD i 0 ∧ ls.getD i 0 ≤ 1000000 := by
  by_cases hi : i < ls.length
  · have e : ls.getD i 0 = ls[i] := by simp [List.getD, hi]
    rw [e]; exact h _ (List.getElem_mem hi)
  · have e : ls.getD i 0 = 0 := by simp [List.getD, hi]
    omega

theorem sK_range {ls : List Int} (h : ∀ x ∈ ls, 0 ≤ x ∧ x ≤ 1000000) (ks : List Int) : 0 ≤ sK ls ks ∧ sK ls ks ≤ 1000000 * (ks.length : Int) := by
  induction ks with
  | nil => simp [sK]
  | cons k t ih =>
    have := getD_range h k.toNat
    simp only [sK, List.map_cons, List.sum_cons, List.length_cons] at ih ⊢
    omega

theorem lvN_range {ls : List Int} (h : ∀ x ∈ ls, 0 ≤ x ∧ x ≤ 1000000) (ks : List Int) : 0 ≤ lvN ls ks ∧ lvN ls ks ≤ 1000000 := by
  have := sK_range h ks
  unfold lvN
  split <;> omega

theorem fold_range (ns : List Tc) : ∀ ls : List Int, (∀ x ∈ ls, 0 ≤ x ∧ x ≤ 1000000) → ∀ x ∈ ns.foldl (fun ls n => ls ++ [lvN ls n.ks]) ls, 0 ≤ x ∧ x ≤ 1000000 := by
  induction ns with
  | nil => intro ls h; simpa using h
  | cons n t ih =>
    intro ls h
    rw [List.foldl_cons]
    refine ih _ (fun x hx => ?_)
    rcases List.mem_append.1 hx with hx | hx
    · exact h x hx
    · rw [List.mem_singleton.1 hx]; exact lvN_range h _

theorem lvs_range (ns : List Tc) : ∀ x ∈ lvsR ns, 0 ≤ x ∧ x ≤ 1000000 := fold_range ns [] (by simp)

theorem sK_take {ls ks : List Int} {i : Nat} {k : Int} (h : ks[i]? = some k) : sK ls (ks.take (i + 1)) = sK ls (ks.take i) + ls.getD k.toNat 0 := by
  unfold sK
  rw [List.take_add_one, h]
  simp

theorem goR_kids {ds : List Dc} : ∀ (ns : List Tc) (wide r : List Int), goR ds wide ns = some r → ∀ (k : Nat) (n : Tc), ns[k]? = some n → kidsR (wide.length + k) n.ks = true
  | [], _, _, _ => by simp
  | m :: t, wide, r, h => by
    rw [goR] at h
    cases hst : stepR ds wide m with
    | none => rw [hst] at h; cases h
    | some v =>
      rw [hst] at h
      intro k n hk
      cases k with
      | zero =>
        simp at hk
        subst hk
        have := stepR_kids hst
        simp only [Bool.and_eq_true] at this
        exact this.1.1
      | succ k =>
        have := goR_kids t _ r h k n (by simpa using hk)
        rw [show wide.length + (k + 1) = (wide ++ [v]).length + k by simp; omega]
        exact this

/-- In a right term Kids are ahead. -/
theorem right_kids {ds : List Dc} {ns : List Tc} (h : ¬ (widthsR ds ns).length = 0) : 1 ≤ ns.length ∧ ns.length ≤ 400 ∧ (widthsR ds ns).length = ns.length ∧ ∀ (k : Nat) (n : Tc), ns[k]? = some n → ∀ j ∈ n.ks, 0 ≤ j ∧ j < (k : Int) := by
  unfold widthsR at h ⊢
  split at h
  · rename_i hc
    simp only [Bool.and_eq_true, decide_eq_true_eq] at hc
    rw [if_pos (by simp [hc])]
    cases hg : goR ds [] ns with
    | none => rw [hg] at h; simp at h
    | some wide =>
      rw [hg] at h
      simp only [] at h ⊢
      split at h
      · rename_i hu
        rw [if_pos hu]
        refine ⟨hc.1.2, hc.2, by simpa using (goR_len hg).1, fun k n hk j hj => ?_⟩
        have := goR_kids ns [] wide hg k n hk
        simp only [List.length_nil, Nat.zero_add] at this
        unfold kidsR at this
        rw [List.all_eq_true] at this
        have := this j hj
        simp only [decide_eq_true_eq] at this
        omega
      · simp at h
  · simp at h

end Go.Proofs.YteenmffhbgpahaaDoor
