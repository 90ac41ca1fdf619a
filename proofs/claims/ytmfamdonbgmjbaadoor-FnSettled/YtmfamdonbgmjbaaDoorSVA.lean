/- The search, on plain lists; jumps to more than one label. No program in sight. -/
import Derived.Test.YtmfamdonbgmjbaaDoorZGAF
import Derived.ScopeJumps
namespace Go.Proofs.YtmfamdonbgmjbaaDoor
set_option linter.unusedVariables false
set_option linter.unusedSimpArgs false
open Go.RowKit

/-- As Q; by a goto: J of its label. -/
def exJ (J : Nat → Act → World → Prop) (Q : Exit → Act → World → Prop) : Exit → Act → World → Prop
  | .goto l, a, w => J l a w
  | e, a, w => Q e a w
theorem wp_scope_ghost {P : Program} {a : Act} {w : World} {Q : Exit → Act → World → Prop} {c : Code} (J : Nat → Nat → Act → World → Prop)
    (first : c.wp P (exJ (fun l a w => ∃ g, J l g a w) Q) a w)
    (pass : ∀ l g a w, J l g a w → ∃ rest, findLabel c l = some rest ∧ rest.wp P (exJ (fun l' a' w' => ∃ g', g' < g ∧ J l' g' a' w') Q) a w) : (Code.scope c).wp P Q a w := by
  intro b k cs
  have key : ∀ n l a w, J l n a w → ∃ rest, findLabel c l = some rest ∧ ∃ e a' w', Q e a' w' ∧ Arrives P (lone (b.at a (.code rest :: .inScope c :: k)) cs w) b k cs e a' w' := by
    intro n
    induction n using Nat.strongRecOn with
    | _ n ih =>
      intro l a w hJ
      obtain ⟨rest, hf, hp⟩ := pass l n a w hJ
      refine ⟨rest, hf, ?_⟩
      obtain ⟨e, a₁, w₁, hq, harr⟩ := hp b (.inScope c :: k) cs
      cases e with
      | normal => exact ⟨.normal, a₁, w₁, hq, Steps.trans harr (.one step_inScope)⟩
      | exit id => exact ⟨.exit id, a₁, w₁, hq, fun k' hk => harr k' (by simp [exitTo, hk])⟩
      | goto l' =>
        obtain ⟨g', hlt, hJ'⟩ := hq
        obtain ⟨rest2, hf2, e₂, a₂, w₂, hq₂, harr₂⟩ := ih g' hlt l' a₁ w₁ hJ'
        have hg : gotoIn l' (.inScope c :: k) = some (.code rest2 :: .inScope c :: k) := by simp [gotoIn, hf2]
        exact ⟨e₂, a₂, w₂, hq₂, .of_steps (harr _ hg) harr₂⟩
      | ret => exact ⟨_, a₁, w₁, hq, harr⟩
      | panic ch => exact ⟨_, a₁, w₁, hq, harr⟩
      | outgrown => exact ⟨_, a₁, w₁, hq, harr⟩
  obtain ⟨e, a₁, w₁, hq, harr⟩ := first b (.inScope c :: k) cs
  cases e with
  | normal => exact ⟨.normal, a₁, w₁, hq, .head step_scope (Steps.trans harr (.one step_inScope))⟩
  | exit id => exact ⟨.exit id, a₁, w₁, hq, fun k' hk => .head step_scope (harr k' (by simp [exitTo, hk]))⟩
  | goto l' =>
    obtain ⟨g, hJ'⟩ := hq
    obtain ⟨rest2, hf2, e₂, a₂, w₂, hq₂, harr₂⟩ := key g l' a₁ w₁ hJ'
    have hg : gotoIn l' (.inScope c :: k) = some (.code rest2 :: .inScope c :: k) := by simp [gotoIn, hf2]
    exact ⟨e₂, a₂, w₂, hq₂, .of_steps (.head step_scope (harr _ hg)) harr₂⟩
  | ret => exact ⟨_, a₁, w₁, hq, .of_steps (.one step_scope) harr⟩
  | panic ch => exact ⟨_, a₁, w₁, hq, .of_steps (.one step_scope) harr⟩
  | outgrown => exact ⟨_, a₁, w₁, hq, .of_steps (.one step_scope) harr⟩

/-- What is told: the code, what stands, how many visits. -/
abbrev Sr := Nat × List Int × Nat
/-- The first switch that does not stand (one less). -/
def fstN (S : Nat) (R : List Int) : Option Nat := (List.range S).find? fun i => decide (((i : Int) + 1) ∉ R) && decide (-((i : Int) + 1) ∉ R)
def svF (S : Nat) (cs : List (List Int)) (most : Nat) : Nat → Nat → List Int → Sr
  | 0, v, _ => (3, [], v)
  | f + 1, v, T => if v = most then (3, [], v) else
      if (unF (S + 1) cs T).2 = false then (2, [], v + 1) else
        match fstN S (unF (S + 1) cs T).1 with
        | none => (1, (unF (S + 1) cs T).1, v + 1)
        | some i => if (svF S cs most f (v + 1) ((unF (S + 1) cs T).1 ++ [-((i : Int) + 1)])).1 = 2
            then svF S cs most f (svF S cs most f (v + 1) ((unF (S + 1) cs T).1 ++ [-((i : Int) + 1)])).2.2 ((unF (S + 1) cs T).1 ++ [(i : Int) + 1])
            else svF S cs most f (v + 1) ((unF (S + 1) cs T).1 ++ [-((i : Int) + 1)])
/-- There is an end in sight. -/
def Sq (S : Nat) (cs : List (List Int)) (most v : Nat) (T : List Int) (r : Sr) : Prop := ∃ f, S < f + T.length ∧ svF S cs most f v T = r
theorem unF_pre {cs : List (List Int)} : ∀ (f : Nat) (T : List Int), ∃ T', (unF f cs T).1 = T ++ T'
  | 0, T => ⟨[], by simp [unF]⟩
  | f + 1, T => by
    rw [unF]
    cases cs.find? (dueB T) with
    | none => exact ⟨[], by simp⟩
    | some cl =>
      simp only []
      cases opn T cl with
      | nil => exact ⟨[], by simp⟩
      | cons x t =>
        obtain ⟨T', h⟩ := unF_pre (cs := cs) f (T ++ [x])
        exact ⟨x :: T', by rw [h]; simp⟩
theorem Sq.start (S : Nat) (cs : List (List Int)) (most v : Nat) (T : List Int) : Sq S cs most v T (svF S cs most (S + 1) v T) := ⟨S + 1, by omega, rfl⟩
theorem Sq.many {S : Nat} {cs : List (List Int)} {most : Nat} {T : List Int} {r : Sr} (h : Sq S cs most most T r) (hl : T.length ≤ S) : r = (3, [], most) := by
  obtain ⟨f, h1, h2⟩ := h
  obtain ⟨g, rfl⟩ : ∃ g, f = g + 1 := ⟨f - 1, by omega⟩
  rw [svF, if_pos rfl] at h2
  exact h2.symm
theorem Sq.no {S : Nat} {cs : List (List Int)} {most v : Nat} {T : List Int} {r : Sr} (h : Sq S cs most v T r) (hl : T.length ≤ S) (hv : v ≠ most) (hu : (unF (S + 1) cs T).2 = false) : r = (2, [], v + 1) := by
  obtain ⟨f, h1, h2⟩ := h
  obtain ⟨g, rfl⟩ : ∃ g, f = g + 1 := ⟨f - 1, by omega⟩
  rw [svF, if_neg hv, if_pos hu] at h2
  exact h2.symm
theorem Sq.yes {S : Nat} {cs : List (List Int)} {most v : Nat} {T : List Int} {r : Sr} (h : Sq S cs most v T r) (hl : T.length ≤ S) (hv : v ≠ most) (hu : (unF (S + 1) cs T).2 = true) (hn : fstN S (unF (S + 1) cs T).1 = none) : r = (1, (unF (S + 1) cs T).1, v + 1) := by
  obtain ⟨f, h1, h2⟩ := h
  obtain ⟨g, rfl⟩ : ∃ g, f = g + 1 := ⟨f - 1, by omega⟩
  rw [svF, if_neg hv, if_neg (by rw [hu]; decide)] at h2
  simp only [hn] at h2
  exact h2.symm
theorem Sq.step {S : Nat} {cs : List (List Int)} {most v i : Nat} {T : List Int} {r : Sr} (h : Sq S cs most v T r) (hl : T.length ≤ S) (hv : v ≠ most) (hu : (unF (S + 1) cs T).2 = true) (hn : fstN S (unF (S + 1) cs T).1 = some i) :
    ∃ r1, Sq S cs most (v + 1) ((unF (S + 1) cs T).1 ++ [-((i : Int) + 1)]) r1 ∧ (r1.1 = 2 → Sq S cs most r1.2.2 ((unF (S + 1) cs T).1 ++ [(i : Int) + 1]) r) ∧ (r1.1 ≠ 2 → r = r1) := by
  obtain ⟨f, h1, h2⟩ := h
  obtain ⟨g, rfl⟩ : ∃ g, f = g + 1 := ⟨f - 1, by omega⟩
  rw [svF, if_neg hv, if_neg (by rw [hu]; decide)] at h2
  simp only [hn] at h2
  obtain ⟨T', hT'⟩ := unF_pre (cs := cs) (S + 1) T
  have hlen : ∀ x : Int, S < g + ((unF (S + 1) cs T).1 ++ [x]).length := fun x => by rw [hT']; simp; omega
  refine ⟨_, ⟨g, hlen _, rfl⟩, fun h3 => ?_, fun h3 => ?_⟩
  · rw [if_pos h3] at h2
    exact ⟨g, hlen _, h2⟩
  · rw [if_neg h3] at h2
    exact h2.symm
/-- A switch that was tried: its number (one less), what stood then, whether it was on too. -/
structure Fr where
  i : Nat
  T : List Int
  on : Bool
/-- What comes behind an answer. -/
def Kq (S : Nat) (cs : List (List Int)) (most : Nat) : List Fr → Sr → Sr → Prop
  | [], r, F => r = F
  | fr :: K, r, F => if r.1 = 2 then (if fr.on = true then Kq S cs most K r F else ∃ r2, Sq S cs most r.2.2 (fr.T ++ [(fr.i : Int) + 1]) r2 ∧ Kq S cs most K r2 F) else r = F
theorem Kq.out {S : Nat} {cs : List (List Int)} {most : Nat} {K : List Fr} {r F : Sr} (h : Kq S cs most K r F) (hr : r.1 ≠ 2) : r = F := by
  cases K with
  | nil => exact h
  | cons fr K => rw [Kq, if_neg hr] at h; exact h
theorem Kq.on {S : Nat} {cs : List (List Int)} {most i : Nat} {T : List Int} {K : List Fr} {r F : Sr} (h : Kq S cs most K r F) : Kq S cs most (⟨i, T, true⟩ :: K) r F := by
  rw [Kq]
  by_cases hr : r.1 = 2
  · rw [if_pos hr, if_pos rfl]; exact h
  · rw [if_neg hr]; exact h.out hr
theorem Kq.off {S : Nat} {cs : List (List Int)} {most i : Nat} {T : List Int} {K : List Fr} {r r1 F : Sr} (h : Kq S cs most K r F) (h1 : r1.1 = 2 → Sq S cs most r1.2.2 (T ++ [(i : Int) + 1]) r) (h2 : r1.1 ≠ 2 → r = r1) : Kq S cs most (⟨i, T, false⟩ :: K) r1 F := by
  rw [Kq]
  by_cases hr : r1.1 = 2
  · rw [if_pos hr, if_neg (by simp)]; exact ⟨r, h1 hr, h⟩
  · rw [if_neg hr]
    have e := h2 hr
    subst e
    exact h.out hr
/-- What stands on the stack is right. -/
def KOk (S : Nat) (cs : List (List Int)) : List Int → List Fr → Prop
  | _, [] => True
  | T, fr :: K => (∃ T', T' ≠ [] ∧ T = fr.T ++ T') ∧ cs.find? (dueB fr.T) = none ∧ fr.i < S ∧ Tk S fr.T ∧ ((fr.i : Int) + 1) ∉ fr.T ∧ -((fr.i : Int) + 1) ∉ fr.T ∧ KOk S cs fr.T K
theorem KOk.more {S : Nat} {cs : List (List Int)} {T : List Int} {K : List Fr} (h : KOk S cs T K) (T' : List Int) : KOk S cs (T ++ T') K := by
  cases K with
  | nil => trivial
  | cons fr K =>
    obtain ⟨⟨T1, h0, h1⟩, h2⟩ := h
    exact ⟨⟨T1 ++ T', by simp [h0], by rw [h1]; simp⟩, h2⟩
theorem KOk.len {S : Nat} {cs : List (List Int)} : ∀ {K : List Fr} {T : List Int}, KOk S cs T K → K.length ≤ T.length
  | [], T, _ => by simp
  | fr :: K, T, h => by
    obtain ⟨⟨T1, h0, h1⟩, -, -, -, -, -, h7⟩ := h
    have h8 := KOk.len h7
    have h9 : 0 < T1.length := List.length_pos_iff.2 h0
    rw [h1, List.length_append, List.length_cons]
    omega
theorem fstN_some {S i : Nat} {R : List Int} (h : fstN S R = some i) : i < S ∧ ((i : Int) + 1) ∉ R ∧ -((i : Int) + 1) ∉ R ∧ ∀ j, j < i → ((j : Int) + 1) ∈ R ∨ -((j : Int) + 1) ∈ R := by
  unfold fstN at h
  rw [List.find?_range_eq_some] at h
  obtain ⟨h1, h2, h3⟩ := h
  rw [Bool.and_eq_true, decide_eq_true_eq, decide_eq_true_eq] at h1
  refine ⟨by simpa using h2, h1.1, h1.2, fun j hj => ?_⟩
  have := h3 j hj
  simp at this
  exact this
theorem fstN_none {S : Nat} {R : List Int} (h : fstN S R = none) : ∀ j, j < S → ((j : Int) + 1) ∈ R ∨ -((j : Int) + 1) ∈ R := fun j hj => by
  unfold fstN at h
  rw [List.find?_eq_none] at h
  have := h j (List.mem_range.2 hj)
  by_cases h9 : ((j : Int) + 1) ∈ R
  · exact .inl h9
  · refine .inr ?_
    simp [h9] at this
    exact this
theorem sub_len : ∀ (L A : List Int), L.Nodup → (∀ x ∈ L, x ∈ A) → L.length ≤ A.length
  | [], A, _, _ => by simp
  | x :: t, A, hn, h => by
    have hx := h x (by simp)
    rw [List.nodup_cons] at hn
    have h1 := sub_len t (A.erase x) hn.2 (fun y hy => by
      have hne : y ≠ x := fun e => hn.1 (e ▸ hy)
      exact (List.mem_erase_of_ne hne).2 (h y (List.mem_cons_of_mem _ hy)))
    rw [List.length_erase_of_mem hx] at h1
    have := List.length_pos_of_mem hx
    rw [List.length_cons]
    omega
/-- All switches stand just when as many numbers do. -/
theorem fstN_len {S : Nat} {R : List Int} (h : Tk S R) : fstN S R = none ↔ R.length = S := by
  constructor
  · intro hn
    have h1 := fstN_none hn
    have h2 := sub_len ((List.range S).map fun (i : Nat) => (i : Int) + 1) (R.map absI) (by
      rw [List.nodup_iff_pairwise_ne, List.pairwise_map]
      exact (List.nodup_iff_pairwise_ne.1 List.nodup_range).imp fun hne e => hne (by omega)) (fun x hx => by
      obtain ⟨i, hi, rfl⟩ := List.mem_map.1 hx
      rcases h1 i (List.mem_range.1 hi) with h3 | h3
      · exact List.mem_map.2 ⟨_, h3, by rw [absI_def, if_pos (by omega)]⟩
      · exact List.mem_map.2 ⟨_, h3, by rw [absI_neg, absI_def, if_pos (by omega)]⟩)
    simp at h2
    have := h.len
    omega
  · intro hl
    cases hf : fstN S R with
    | none => rfl
    | some i =>
      exfalso
      obtain ⟨h1, h2, h3, -⟩ := fstN_some hf
      have h4 := (h.snoc (x := (i : Int) + 1) ⟨by omega, by omega, by omega⟩ h2 h3).len
      rw [List.length_append, List.length_singleton] at h4
      omega
end Go.Proofs.YtmfamdonbgmjbaaDoor
