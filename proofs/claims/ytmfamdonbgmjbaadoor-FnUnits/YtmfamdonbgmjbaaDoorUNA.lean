/- What follows from numbers, clause by clause, on plain lists. No program in sight. -/
import Derived.Test.YtmfamdonbgmjbaaDoorCL
namespace Go.Proofs.YtmfamdonbgmjbaaDoor
set_option linter.unusedVariables false
set_option linter.unusedSimpArgs false
open Go.RowKit

theorem numR_iff {S n : Int} : numR S n = true ↔ n ≠ 0 ∧ -S ≤ n ∧ n ≤ S := by
  unfold numR
  simp
/-- Numbers that stand: each in bounds, none twice, none and its opposite. -/
structure Tk (S : Nat) (T : List Int) : Prop where
  num : ∀ n ∈ T, n ≠ 0 ∧ -(S : Int) ≤ n ∧ n ≤ (S : Int)
  nd : (T.map absI).Nodup
theorem absI_eq {a b : Int} (h : absI a = absI b) : a = b ∨ a = -b := by
  rw [absI_def, absI_def] at h
  split at h <;> split at h <;> omega
theorem absI_neg (a : Int) : absI (-a) = absI a := by
  rw [absI_def, absI_def]
  split <;> split <;> omega
theorem Tk.nil (S : Nat) : Tk S [] := ⟨by simp, by simp⟩
theorem Tk.snoc {S : Nat} {T : List Int} {x : Int} (h : Tk S T) (h1 : x ≠ 0 ∧ -(S : Int) ≤ x ∧ x ≤ (S : Int)) (h2 : x ∉ T) (h3 : -x ∉ T) : Tk S (T ++ [x]) := by
  refine ⟨fun n hn => ?_, ?_⟩
  · rcases List.mem_append.1 hn with hn | hn
    · exact h.num n hn
    · rw [List.mem_singleton.1 hn]; exact h1
  · rw [List.map_append, List.map_cons, List.map_nil, List.nodup_append]
    refine ⟨h.nd, by simp, fun a ha b hb e => ?_⟩
    obtain ⟨n, hn, rfl⟩ := List.mem_map.1 ha
    rw [List.mem_singleton.1 hb] at e
    rcases absI_eq e with e | e
    · subst e; exact h2 hn
    · subst e; exact h3 hn
theorem nodup_le : ∀ (S : Nat) (l : List Nat), l.Nodup → (∀ x ∈ l, x < S) → l.length ≤ S
  | 0, l, _, h => by
    cases l with
    | nil => simp
    | cons x t => have := h x (by simp); omega
  | S + 1, l, hn, h => by
    by_cases hm : S ∈ l
    · have h1 := nodup_le S (l.erase S) (hn.erase S) (fun x hx => by
        have h2 := (hn.mem_erase_iff).1 hx
        have h3 := h x h2.2
        have := h2.1
        omega)
      rw [List.length_erase_of_mem hm] at h1
      omega
    · have h1 := nodup_le S l hn (fun x hx => by
        have h3 := h x hx
        have : x ≠ S := fun e => hm (e ▸ hx)
        omega)
      omega
theorem Tk.len {S : Nat} {T : List Int} (h : Tk S T) : T.length ≤ S := by
  have h1 := nodup_le S (T.map fun n => (absI n - 1).toNat) (by
    have h9 := h.nd
    rw [List.nodup_iff_pairwise_ne, List.pairwise_map] at h9 ⊢
    refine h9.imp_of_mem fun {a b} ha hb hne e => hne ?_
    have h1 := h.num a ha
    have h2 := h.num b hb
    rw [absI_def, absI_def] at e ⊢
    split at e <;> split at e <;> omega) (fun x hx => by
    obtain ⟨n, hn, rfl⟩ := List.mem_map.1 hx
    have h1 := h.num n hn
    rw [absI_def]
    split <;> omega)
  rwa [List.length_map] at h1
theorem Tk.opp {S : Nat} {T : List Int} (h : Tk S T) {n : Int} (hn : n ∈ T) : -n ∉ T := fun hm => by
  have h0 := (h.num n hn).1
  have h9 := h.nd
  rw [List.nodup_iff_pairwise_ne, List.pairwise_map] at h9
  obtain ⟨i, hi⟩ := List.getElem?_of_mem hn
  obtain ⟨j, hj⟩ := List.getElem?_of_mem hm
  obtain ⟨hil, rfl⟩ := List.getElem?_eq_some_iff.1 hi
  obtain ⟨hjl, hj2⟩ := List.getElem?_eq_some_iff.1 hj
  rcases Nat.lt_trichotomy i j with e | e | e
  · have := List.pairwise_iff_getElem.1 h9 i j hil hjl e
    rw [hj2, absI_neg] at this
    exact this rfl
  · subst e
    omega
  · have := List.pairwise_iff_getElem.1 h9 j i hjl hil e
    rw [hj2, absI_neg] at this
    exact this rfl

/-- The numbers of a clause of which neither they nor their opposites stand. -/
def opn (T cl : List Int) : List Int := cl.filter fun n => decide (n ∉ T) && decide (-n ∉ T)
def metB (T cl : List Int) : Bool := cl.any fun n => decide (n ∈ T)
/-- A clause that has to be looked at: none of it stands, at most one can. -/
def dueB (T cl : List Int) : Bool := !metB T cl && decide ((opn T cl).length ≤ 1)
def unF : Nat → List (List Int) → List Int → List Int × Bool
  | 0, _, T => (T, true)
  | f + 1, cs, T => match cs.find? (dueB T) with
    | none => (T, true)
    | some cl => match opn T cl with
      | [] => (T, false)
      | x :: _ => unF f cs (T ++ [x])
/-- There is an end in sight: every step takes one more switch. -/
def Uq (S : Nat) (cs : List (List Int)) (T : List Int) (R : List Int × Bool) : Prop := ∃ f, S < f + T.length ∧ unF f cs T = R
theorem Uq.start (S : Nat) (cs : List (List Int)) (T : List Int) : Uq S cs T (unF (S + 1) cs T) := ⟨S + 1, by omega, rfl⟩
theorem Uq.none {S : Nat} {cs : List (List Int)} {T : List Int} {R : List Int × Bool} (h : Uq S cs T R) (hl : T.length ≤ S) (hf : cs.find? (dueB T) = none) : R = (T, true) := by
  obtain ⟨f, h1, h2⟩ := h
  obtain ⟨g, rfl⟩ : ∃ g, f = g + 1 := ⟨f - 1, by omega⟩
  rw [unF, hf] at h2
  exact h2.symm
theorem Uq.bad {S : Nat} {cs : List (List Int)} {T cl : List Int} {R : List Int × Bool} (h : Uq S cs T R) (hl : T.length ≤ S) (hf : cs.find? (dueB T) = some cl) (ho : opn T cl = []) : R = (T, false) := by
  obtain ⟨f, h1, h2⟩ := h
  obtain ⟨g, rfl⟩ : ∃ g, f = g + 1 := ⟨f - 1, by omega⟩
  rw [unF, hf] at h2
  simp only [ho] at h2
  exact h2.symm
theorem Uq.step {S : Nat} {cs : List (List Int)} {T cl : List Int} {x : Int} {t : List Int} {R : List Int × Bool} (h : Uq S cs T R) (hl : T.length ≤ S) (hf : cs.find? (dueB T) = some cl) (ho : opn T cl = x :: t) : Uq S cs (T ++ [x]) R := by
  obtain ⟨f, h1, h2⟩ := h
  obtain ⟨g, rfl⟩ : ∃ g, f = g + 1 := ⟨f - 1, by omega⟩
  rw [unF, hf] at h2
  simp only [ho] at h2
  exact ⟨g, by simp; omega, h2⟩
theorem find_first {cs : List (List Int)} {p : List Int → Bool} {i : Nat} {cl : List Int} (hi : cs[i]? = some cl) (hp : p cl = true) (ha : ∀ j c, j < i → cs[j]? = some c → p c = false) : cs.find? p = some cl := by
  induction cs generalizing i with
  | nil => simp at hi
  | cons c t ih =>
    cases i with
    | zero =>
      have : c = cl := by simpa using hi
      subst this
      rw [List.find?_cons, hp]
    | succ i =>
      rw [List.find?_cons, ha 0 c (by omega) (by simp)]
      exact ih (i := i) (by simpa using hi) (fun j d hj hd => ha (j + 1) d (by omega) (by simpa using hd))
theorem find_no {cs : List (List Int)} {p : List Int → Bool} (ha : ∀ (j : Nat) c, cs[j]? = some c → p c = false) : cs.find? p = none := by
  rw [List.find?_eq_none]
  intro c hc
  obtain ⟨j, hj⟩ := List.getElem?_of_mem hc
  rw [ha j c hj]
  simp

theorem opn_mem {T cl : List Int} {n : Int} : n ∈ opn T cl ↔ n ∈ cl ∧ n ∉ T ∧ -n ∉ T := by
  unfold opn
  rw [List.mem_filter]
  simp
theorem metB_iff {T cl : List Int} : metB T cl = true ↔ ∃ n ∈ cl, n ∈ T := by
  unfold metB
  rw [List.any_eq_true]
  simp
theorem metB_mono {T cl : List Int} {x : Int} (h : metB T cl = true) : metB (T ++ [x]) cl = true := by
  obtain ⟨n, h1, h2⟩ := metB_iff.1 h
  exact metB_iff.2 ⟨n, h1, List.mem_append.2 (.inl h2)⟩
theorem opn_snoc {T cl : List Int} {x : Int} : opn (T ++ [x]) cl = (opn T cl).filter fun n => decide (n ≠ x) && decide (-n ≠ x) := by
  unfold opn
  rw [List.filter_filter]
  refine List.filter_congr fun n _ => ?_
  rw [Bool.eq_iff_iff]
  simp only [Bool.and_eq_true, decide_eq_true_eq, List.mem_append, List.mem_singleton, not_or]
  constructor
  · rintro ⟨⟨a, b⟩, c, d⟩; exact ⟨⟨b, d⟩, a, c⟩
  · rintro ⟨⟨b, d⟩, a, c⟩; exact ⟨⟨a, b⟩, c, d⟩
theorem opn_le {T cl : List Int} {x : Int} : (opn (T ++ [x]) cl).length ≤ (opn T cl).length := by rw [opn_snoc]; exact List.length_filter_le _ _
/-- The numbers of a right clause are of different switches. -/
def Cd (cl : List Int) : Prop := ∀ (i j : Nat) (a b : Int), i < j → cl[i]? = some a → cl[j]? = some b → absI a ≠ absI b
theorem clR_lt {S : Int} : ∀ {l : Int} {ks : List Int}, clR S l ks = true → ∀ n ∈ ks, l < absI n
  | l, [], _, n, h => by cases h
  | l, k :: t, hc, n, h => by
    rw [clR] at hc
    simp only [Bool.and_eq_true, decide_eq_true_eq] at hc
    rcases List.mem_cons.1 h with rfl | h
    · exact hc.1.2
    · have := clR_lt hc.2 n h
      omega
theorem clR_cd {S : Int} : ∀ {l : Int} {ks : List Int}, clR S l ks = true → Cd ks
  | l, [], _, i, j, a, b, _, h, _ => by simp at h
  | l, k :: t, hc, i, j, a, b, hij, hi, hj => by
    rw [clR] at hc
    simp only [Bool.and_eq_true, decide_eq_true_eq] at hc
    obtain ⟨j', rfl⟩ : ∃ j', j = j' + 1 := ⟨j - 1, by omega⟩
    have hj' : t[j']? = some b := by simpa using hj
    cases i with
    | zero =>
      have : k = a := by simpa using hi
      subst this
      have := clR_lt hc.2 b (List.mem_of_getElem? hj')
      omega
    | succ i => exact clR_cd hc.2 i j' a b (by omega) (by simpa using hi) hj'
theorem Cd.inj {cl : List Int} (h : Cd cl) {i j : Nat} {a b : Int} (hi : cl[i]? = some a) (hj : cl[j]? = some b) (e : a = b ∨ a = -b) : i = j := by
  have e2 : absI a = absI b := by
    rcases e with rfl | rfl
    · rfl
    · exact absI_neg b
  rcases Nat.lt_trichotomy i j with h1 | h1 | h1
  · exact absurd e2 (h i j a b h1 hi hj)
  · exact h1
  · exact absurd e2.symm (h j i b a h1 hj hi)
/-- Two different places that are open. -/
theorem opn_two {T cl : List Int} (hc : Cd cl) {i j : Nat} {a b : Int} (hij : i ≠ j) (hi : cl[i]? = some a) (hj : cl[j]? = some b) (ha : a ∉ T ∧ -a ∉ T) (hb : b ∉ T ∧ -b ∉ T) : 2 ≤ (opn T cl).length := by
  have hab : a ≠ b := fun e => hij (hc.inj hi hj (.inl e))
  have h1 : a ∈ opn T cl := opn_mem.2 ⟨List.mem_of_getElem? hi, ha⟩
  have h2 : b ∈ opn T cl := opn_mem.2 ⟨List.mem_of_getElem? hj, hb⟩
  generalize opn T cl = l at h1 h2
  match l, h1, h2 with
  | [], h1, _ => cases h1
  | [x], h1, h2 =>
    rw [List.mem_singleton] at h1 h2
    exact absurd (h1.trans h2.symm) hab
  | _ :: _ :: _, _, _ => simp
end Go.Proofs.YtmfamdonbgmjbaaDoor
