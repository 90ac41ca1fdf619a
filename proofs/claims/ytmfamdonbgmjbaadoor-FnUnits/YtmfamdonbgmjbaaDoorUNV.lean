/- A new watcher: what holds while the clauses are gone through. No program in sight. -/
import Derived.Test.YtmfamdonbgmjbaaDoorUNB
namespace Go.Proofs.YtmfamdonbgmjbaaDoor
set_option linter.unusedVariables false
set_option linter.unusedSimpArgs false
open Go.RowKit

/-- The clauses ahead of t are watched, of the one at t s numbers watch it. -/
structure Wn (cs : List (List Int)) (t s : Nat) (ey : Nat → Nat × Nat) (wt : Int → List Nat) (du : Nat → Bool) : Prop where
  a : ∀ (p : Nat) cl, cs[p]? = some cl → 2 ≤ cl.length → p < t → ey p = (0, 1)
  b : ∀ n p, p ∈ wt n ↔ ∃ cl i, cs[p]? = some cl ∧ 2 ≤ cl.length ∧ i < 2 ∧ cl[i]? = some n ∧ (p < t ∨ p = t ∧ i < s)
  nd : ∀ n, (wt n).Nodup
  d : ∀ p, du p = true ↔ p < t ∧ ∃ cl, cs[p]? = some cl ∧ cl.length < 2
theorem Wn.begin (cs : List (List Int)) {ey : Nat → Nat × Nat} {wt : Int → List Nat} {du : Nat → Bool} (hw : ∀ n, wt n = []) (hd : ∀ p, du p = false) : Wn cs 0 0 ey wt du := by
  refine ⟨fun p cl _ _ h => absurd h (by omega), fun n p => ?_, fun n => by rw [hw n]; exact List.nodup_nil, fun p => ?_⟩
  · rw [hw n]
    constructor
    · intro h; cases h
    · rintro ⟨cl, i, -, -, -, -, h | h⟩ <;> omega
  · rw [hd p]
    constructor
    · intro h; cases h
    · rintro ⟨h, -⟩; omega
/-- A narrow clause is due. -/
theorem Wn.narrow {cs : List (List Int)} {t : Nat} {ey : Nat → Nat × Nat} {wt : Int → List Nat} {du du' : Nat → Bool} {cl : List Int} (h : Wn cs t 0 ey wt du) (hc : cs[t]? = some cl) (hl : cl.length < 2) (hd : ∀ q, du' q = (du q || decide (q = t))) : Wn cs (t + 1) 0 ey wt du' := by
  refine ⟨fun p c hp h2 hlt => ?_, fun n p => ?_, h.nd, fun p => ?_⟩
  · by_cases e : p = t
    · subst e; rw [hc] at hp; cases hp; omega
    · exact h.a p c hp h2 (by omega)
  · rw [h.b n p]
    constructor
    · rintro ⟨c, i, h1, h2, h3, h4, h5 | h5⟩
      · exact ⟨c, i, h1, h2, h3, h4, .inl (by omega)⟩
      · omega
    · rintro ⟨c, i, h1, h2, h3, h4, h5 | h5⟩
      · by_cases e : p = t
        · subst e; rw [hc] at h1; cases h1; omega
        · exact ⟨c, i, h1, h2, h3, h4, .inl (by omega)⟩
      · omega
  · rw [hd p, Bool.or_eq_true, h.d p, decide_eq_true_eq]
    constructor
    · rintro (⟨h1, h2⟩ | h1)
      · exact ⟨by omega, h2⟩
      · subst h1; exact ⟨by omega, cl, hc, hl⟩
    · rintro ⟨h1, h2⟩
      by_cases e : p = t
      · exact .inr e
      · exact .inl ⟨by omega, h2⟩
/-- One more number watches. -/
theorem Wn.watch {cs : List (List Int)} {t s : Nat} {ey : Nat → Nat × Nat} {wt wt' : Int → List Nat} {du : Nat → Bool} {cl : List Int} {k : Int} (h : Wn cs t s ey wt du) (hc : cs[t]? = some cl) (hcd : Cd cl) (hl : 2 ≤ cl.length) (hs : s < 2) (hk : cl[s]? = some k) (hw1 : wt' k = wt k ++ [t]) (hw2 : ∀ n, n ≠ k → wt' n = wt n) : Wn cs t (s + 1) ey wt' du := by
  refine ⟨h.a, fun n p => ?_, fun n => ?_, h.d⟩
  · have hn : p ∈ wt' n ↔ p ∈ wt n ∨ (n = k ∧ p = t) := by
      by_cases e : n = k
      · subst e; rw [hw1, List.mem_append, List.mem_singleton]; simp
      · rw [hw2 n e]; simp [e]
    rw [hn, h.b n p]
    constructor
    · rintro (⟨c, i, h1, h2, h3, h4, h5⟩ | ⟨rfl, rfl⟩)
      · exact ⟨c, i, h1, h2, h3, h4, by omega⟩
      · exact ⟨cl, s, hc, hl, hs, hk, .inr ⟨rfl, by omega⟩⟩
    · rintro ⟨c, i, h1, h2, h3, h4, h5 | ⟨h5, h6⟩⟩
      · exact .inl ⟨c, i, h1, h2, h3, h4, .inl h5⟩
      · by_cases e : i = s
        · subst e h5
          rw [hc] at h1
          cases h1
          rw [hk] at h4
          exact .inr ⟨(Option.some.inj h4).symm, rfl⟩
        · exact .inl ⟨c, i, h1, h2, h3, h4, .inr ⟨h5, by omega⟩⟩
  · by_cases e : n = k
    · subst e
      rw [hw1, List.nodup_append]
      refine ⟨h.nd n, by simp, fun a ha b hb e => ?_⟩
      rw [List.mem_singleton] at hb
      subst e hb
      obtain ⟨c, i, h1, h2, h3, h4, h5⟩ := (h.b n a).1 ha
      rcases h5 with h5 | ⟨-, h5⟩
      · omega
      · rw [hc] at h1
        cases h1
        have := hcd.inj h4 hk (.inl rfl)
        omega
    · rw [hw2 n e]; exact h.nd n
/-- The eyes of a clause are laid. -/
theorem Wn.eyes {cs : List (List Int)} {t s : Nat} {ey ey' : Nat → Nat × Nat} {wt : Int → List Nat} {du : Nat → Bool} (h : Wn cs t s ey wt du) (he : ∀ q, q ≠ t → ey' q = ey q) : Wn cs t s ey' wt du :=
  ⟨fun p cl h1 h2 h3 => by rw [he p (by omega)]; exact h.a p cl h1 h2 h3, h.b, h.nd, h.d⟩
theorem Wn.next {cs : List (List Int)} {t : Nat} {ey : Nat → Nat × Nat} {wt : Int → List Nat} {du : Nat → Bool} {cl : List Int} (h : Wn cs t 2 ey wt du) (hc : cs[t]? = some cl) (hl : 2 ≤ cl.length) (he : ey t = (0, 1)) : Wn cs (t + 1) 0 ey wt du := by
  refine ⟨fun p c hp h2 hlt => ?_, fun n p => ?_, h.nd, fun p => ?_⟩
  · by_cases e : p = t
    · subst e; exact he
    · exact h.a p c hp h2 (by omega)
  · rw [h.b n p]
    constructor
    · rintro ⟨c, i, h1, h2, h3, h4, h5⟩
      exact ⟨c, i, h1, h2, h3, h4, .inl (by omega)⟩
    · rintro ⟨c, i, h1, h2, h3, h4, h5⟩
      exact ⟨c, i, h1, h2, h3, h4, by omega⟩
  · rw [h.d p]
    constructor
    · rintro ⟨h1, h2⟩; exact ⟨by omega, h2⟩
    · rintro ⟨h1, c, h2, h3⟩
      by_cases e : p = t
      · subst e; rw [hc] at h2; cases h2; omega
      · exact ⟨by omega, c, h2, h3⟩
theorem Wn.end {cs : List (List Int)} {t : Nat} {ey : Nat → Nat × Nat} {wt : Int → List Nat} {du : Nat → Bool} (h : Wn cs t 0 ey wt du) (ht : cs.length ≤ t) : Wi cs [] ey wt du := by
  have hlt : ∀ (p : Nat) cl, cs[p]? = some cl → p < t := fun p cl hp => Nat.lt_of_lt_of_le (List.getElem?_eq_some_iff.1 hp).1 ht
  refine ⟨fun p cl hp h2 => ?_, fun n p => ?_, h.nd, fun p cl hp => ?_, fun p cl hp hd => ?_, fun p hd => ?_, fun p cl hp h2 k T1 T2 he hT => ?_⟩
  · rw [h.a p cl hp h2 (hlt p cl hp)]
    exact ⟨by show 0 < _; omega, by show 1 < _; omega, by decide⟩
  · rw [h.b n p]
    constructor
    · rintro ⟨cl, i, h1, h2, h3, h4, h5⟩
      refine ⟨cl, h1, h2, ?_⟩
      unfold eyeN
      rw [h.a p cl h1 h2 (hlt p cl h1)]
      obtain rfl | rfl : i = 0 ∨ i = 1 := by omega
      · exact .inl h4
      · exact .inr h4
    · rintro ⟨cl, h1, h2, h3⟩
      unfold eyeN at h3
      rw [h.a p cl h1 h2 (hlt p cl h1)] at h3
      rcases h3 with h3 | h3
      · exact ⟨cl, 0, h1, h2, by omega, h3, .inl (hlt p cl h1)⟩
      · exact ⟨cl, 1, h1, h2, by omega, h3, .inl (hlt p cl h1)⟩
  · by_cases h2 : 2 ≤ cl.length
    · exact .inr (.inr ⟨h2, fun n _ => by simp⟩)
    · exact .inl ((h.d p).2 ⟨hlt p cl hp, cl, hp, by omega⟩)
  · obtain ⟨-, c, h1, h2⟩ := (h.d p).1 hd
    rw [hp] at h1
    cases h1
    have h6 : (opn [] cl).length ≤ cl.length := List.length_filter_le _ _
    exact .inr (by omega)
  · obtain ⟨-, c, h1, h2⟩ := (h.d p).1 hd
    exact (List.getElem?_eq_some_iff.1 h1).1
  · cases T1 <;> cases hT
end Go.Proofs.YtmfamdonbgmjbaaDoor
