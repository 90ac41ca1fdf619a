/- What a join of a right forest makes of roots, links and groups. -/
import Derived.Test.YtelndjdbfapahaaHE
import Derived.Test.YtelndjdbfapahaaHK
namespace Go.Proofs.Ytelndjdbfapahaa
set_option linter.unusedVariables false
set_option linter.unusedSimpArgs false
open Go.RowKit

theorem mem_setR {L : Nat → Nat} {k : Nat} : ∀ {j i : Nat}, i < j → L i = k → (i : Int) ∈ setR L k j
  | 0, i, h, _ => by omega
  | j + 1, i, h, e => by
    unfold setR
    by_cases hij : i = j
    · subst hij
      rw [if_pos e]
      simp
    · exact List.mem_append.2 (.inl (mem_setR (by omega) e))

theorem two_mem {xs : List Int} {x y : Int} (hx : x ∈ xs) (hy : y ∈ xs) (hne : x ≠ y) : 1 < xs.length := by
  match xs, hx, hy with
  | [], hx, _ => simp at hx
  | [a], hx, hy => simp at hx hy; omega
  | a :: b :: t, _, _ => simp

theorem grpR_mem {L : Nat → Nat} {n k : Nat} (h : 1 < (setR L k n).length) : ∀ {m}, k < m → setR L k n ∈ grpR L n m
  | 0, hm => by omega
  | m + 1, hm => by
    unfold grpR
    by_cases e : k = m
    · subst e
      rw [if_pos h]
      simp
    · exact List.mem_append.2 (.inl (grpR_mem h (by omega)))

theorem forR_append {z : Int} {ls : List Lk} {L : Nat → Nat} {l : Lk} (h : forR z ls = some L) (hk : lkOk z.toNat L l = true) : forR z (ls ++ [l]) = some (mrg L l.1.toNat l.2.1.toNat) := by
  unfold forR at h ⊢
  split at h
  · rename_i hz
    rw [if_pos hz, goF_append, h]
    simp [goF, hk]
  · cases h

/-- What the law asks of a join that is told to be one. -/
structure Jn (z x y : Int) (ls ls' : List Lk) (isNew : Bool) (rx ry : Int) : Prop where
  r1 : rootR z ls x = rx
  r2 : rootR z ls y = ry
  r3 : rootR z ls' x = min rx ry
  r4 : rootR z ls' y = min rx ry
  ok : (forR z ls').isSome = true
  nw : (rx == ry) = !isNew
  un : undoR z ls' (ls.length : Int) = (z, ls)
  gr : x = y ∨ ∃ xs ∈ grpZ z ls', x ∈ xs ∧ y ∈ xs
  pre : ∃ t, ls' = ls ++ t

theorem joinR_true {z : Int} {ls : List Lk} {x y q : Int} {R : Int × List Lk × Bool × Bool} (hR : joinR z ls x y q = R) (h : R.2.2.2 = true) : R.1 = z ∧ ∃ rx ry, Jn z x y ls R.2.1 R.2.2.1 rx ry := by
  unfold joinR at hR
  cases hf : forR z ls with
  | none => rw [hf] at hR; subst hR; simp at h
  | some L =>
    rw [hf] at hR
    simp only [] at hR
    by_cases hc : (0 ≤ x ∧ x < z) ∧ (0 ≤ y ∧ y < z) ∧ (0 ≤ q ∧ q ≤ 1000000)
    · rw [if_pos hc] at hR
      obtain ⟨hx, hy, hq⟩ := hc
      have hz := (forR_len hf).1
      have hnm := (forR_nm hf).1
      have gen : ∀ (ls' : List Lk) (L' : Nat → Nat), forR z ls' = some L' → L' x.toNat = L' y.toNat → x = y ∨ ∃ xs ∈ grpZ z ls', x ∈ xs ∧ y ∈ xs := fun ls' L' hf' he => by
        by_cases hxy : x = y
        · exact .inl hxy
        · right
          have hxn : x.toNat < z.toNat := by omega
          have hyn : y.toNat < z.toNat := by omega
          have m1 : x ∈ setR L' (L' x.toNat) z.toNat := by have := mem_setR (L := L') (k := L' x.toNat) hxn rfl; rwa [show ((x.toNat : Nat) : Int) = x by omega] at this
          have m2 : y ∈ setR L' (L' x.toNat) z.toNat := by have := mem_setR (L := L') (k := L' x.toNat) hyn he.symm; rwa [show ((y.toNat : Nat) : Int) = y by omega] at this
          refine ⟨_, ?_, m1, m2⟩
          unfold grpZ
          rw [hf']
          exact grpR_mem (two_mem m1 m2 hxy) ((forR_nm hf').1.lt _ hxn)
      have rt : ∀ (ls' : List Lk) (L' : Nat → Nat) (u : Int), forR z ls' = some L' → 0 ≤ u ∧ u < z → rootR z ls' u = (L' u.toNat : Int) := fun ls' L' u hf' hu => by
        unfold rootR
        rw [hf']
        simp only []
        rw [if_pos hu]
      by_cases he : L x.toNat = L y.toNat
      · rw [if_pos he] at hR
        subst hR
        refine ⟨rfl, L x.toNat, L y.toNat, rt _ _ _ hf hx, rt _ _ _ hf hy, ?_, ?_, by rw [hf]; rfl, by simp [he], ?_, gen ls L hf he, [], by simp⟩
        · rw [rt _ _ _ hf hx, he]; simp
        · rw [rt _ _ _ hf hy, he]; simp
        · unfold undoR
          rw [hf]
          simp
      · rw [if_neg he] at hR
        subst hR
        have hk : lkOk z.toNat L (x, y, q) = true := lkOk_iff.2 ⟨⟨hx.1, by simp only []; omega⟩, ⟨hy.1, by simp only []; omega⟩, hq, he⟩
        have hf' := forR_append hf hk
        simp only [] at hf'
        have e1 : mrg L x.toNat y.toNat x.toNat = min (L x.toNat) (L y.toNat) := (mrg_min _).2 (.inl rfl)
        have e2 : mrg L x.toNat y.toNat y.toNat = min (L x.toNat) (L y.toNat) := (mrg_min _).2 (.inr rfl)
        refine ⟨rfl, L x.toNat, L y.toNat, rt _ _ _ hf hx, rt _ _ _ hf hy, ?_, ?_, by rw [hf']; rfl, by simp; omega, ?_, gen _ _ hf' (by rw [e1, e2]), [(x, y, q)], rfl⟩
        · rw [rt _ _ _ hf' hx, e1]; omega
        · rw [rt _ _ _ hf' hy, e2]; omega
        · unfold undoR
          rw [hf']
          simp only []
          rw [if_pos ⟨by omega, by simp; omega⟩]
          simp
    · rw [if_neg hc] at hR
      subst hR
      simp at h

end Go.Proofs.Ytelndjdbfapahaa
