/- Joined nodes: what the links of a forest make of them. Nothing of any program. -/
import Derived.WalkKit
namespace Go.Proofs.Ytakicdlfolhhcaa
set_option linter.unusedVariables false
set_option linter.unusedSimpArgs false
open Go.RowKit

/-- A link: its two nodes, and why. -/
abbrev Lk := Int × Int × Int

/-- Two sets get the lesser name. -/
def mrg (L : Nat → Nat) (a b : Nat) : Nat → Nat := fun i => if L i = max (L a) (L b) then min (L a) (L b) else L i

def lkOk (n : Nat) (L : Nat → Nat) (l : Lk) : Bool := decide (0 ≤ l.1 ∧ l.1 < (n : Int)) && decide (0 ≤ l.2.1 ∧ l.2.1 < (n : Int)) && decide (0 ≤ l.2.2 ∧ l.2.2 ≤ 1000000) && decide (L l.1.toNat ≠ L l.2.1.toNat)

/-- The least node of each node's set behind links; none: a link is not right. -/
def goF (n : Nat) : (Nat → Nat) → List Lk → Option (Nat → Nat)
  | L, [] => some L
  | L, l :: t => if lkOk n L l = true then goF n (mrg L l.1.toNat l.2.1.toNat) t else none

def forR (size : Int) (ls : List Lk) : Option (Nat → Nat) := if 0 ≤ size ∧ size ≤ 1000 then goF size.toNat id ls else none

theorem goF_append (n : Nat) : ∀ (L : Nat → Nat) (xs ys : List Lk), goF n L (xs ++ ys) = (goF n L xs).bind (fun L' => goF n L' ys)
  | L, [], ys => rfl
  | L, x :: t, ys => by
    simp only [List.cons_append, goF]
    split
    · exact goF_append n _ t ys
    · rfl

theorem goF_take {n : Nat} {L L' : Nat → Nat} {ls : List Lk} {k : Nat} {l : Lk} (h : goF n L (ls.take k) = some L') (hl : ls[k]? = some l) : goF n L (ls.take (k + 1)) = if lkOk n L' l = true then some (mrg L' l.1.toNat l.2.1.toNat) else none := by
  rw [List.take_add_one, hl, goF_append, h]
  simp only [Option.toList, Option.bind_some, goF]

theorem goF_none {n : Nat} {L : Nat → Nat} {ls : List Lk} {k : Nat} (h : goF n L (ls.take k) = none) : goF n L ls = none := by
  rw [← List.take_append_drop k ls, goF_append, h]
  rfl

/-- How many nodes of the first m are the least of their sets. -/
def cnt (L : Nat → Nat) : Nat → Nat
  | 0 => 0
  | m + 1 => cnt L m + if L m = m then 1 else 0

theorem cnt_le (L : Nat → Nat) : ∀ m, cnt L m ≤ m
  | 0 => Nat.le_refl _
  | m + 1 => by have := cnt_le L m; unfold cnt; split <;> omega

/-- Names are names of themselves. -/
structure Nm (n : Nat) (L : Nat → Nat) : Prop where
  lt : ∀ i, i < n → L i < n
  same : ∀ i, i < n → L (L i) = L i

theorem Nm.start (n : Nat) : Nm n id := ⟨fun _ h => h, fun _ _ => rfl⟩

theorem Nm.mrg {n : Nat} {L : Nat → Nat} (h : Nm n L) {a b : Nat} (ha : a < n) (hb : b < n) : Nm n (mrg L a b) := by
  have h1 := h.lt a ha
  have h2 := h.lt b hb
  have h3 := h.same a ha
  have h4 := h.same b hb
  refine ⟨fun i hi => ?_, fun i hi => ?_⟩
  · have := h.lt i hi
    unfold Go.Proofs.Ytakicdlfolhhcaa.mrg
    split
    · omega
    · omega
  · have hi' := h.same i hi
    unfold Go.Proofs.Ytakicdlfolhhcaa.mrg
    by_cases c : L i = max (L a) (L b)
    · rw [if_pos c]
      have e : L (min (L a) (L b)) = min (L a) (L b) := by
        rcases Nat.le_total (L a) (L b) with q | q
        · rw [Nat.min_eq_left q]; exact h3
        · rw [Nat.min_eq_right q]; exact h4
      rw [e]
      split <;> rfl
    · rw [if_neg c, hi', if_neg c]

theorem cnt_mrg {n : Nat} {L : Nat → Nat} (h : Nm n L) {a b : Nat} (ha : a < n) (hb : b < n) (hne : L a ≠ L b) : ∀ m, cnt (mrg L a b) m + (if max (L a) (L b) < m then 1 else 0) = cnt L m
  | 0 => by simp [cnt]
  | m + 1 => by
    have ih := cnt_mrg h ha hb hne m
    have e1 : L (max (L a) (L b)) = max (L a) (L b) := by
      rcases Nat.le_total (L a) (L b) with q | q
      · rw [Nat.max_eq_right q]; exact h.same b hb
      · rw [Nat.max_eq_left q]; exact h.same a ha
    have e2 : L (min (L a) (L b)) = min (L a) (L b) := by
      rcases Nat.le_total (L a) (L b) with q | q
      · rw [Nat.min_eq_left q]; exact h.same a ha
      · rw [Nat.min_eq_right q]; exact h.same b hb
    unfold cnt
    have hmm : min (L a) (L b) < max (L a) (L b) := by omega
    by_cases c : m = max (L a) (L b)
    · have : mrg L a b m ≠ m := by
        unfold mrg
        rw [c, e1, if_pos rfl]
        omega
      rw [if_neg this, if_pos (by omega), ← ih, if_neg (by omega), c, e1]
      simp
    · have : (mrg L a b m = m) ↔ (L m = m) := by
        unfold mrg
        by_cases d : L m = max (L a) (L b)
        · rw [if_pos d]
          constructor
          · intro e
            rw [← e] at d
            rw [e2] at d
            omega
          · intro e
            omega
        · rw [if_neg d]
      by_cases q : max (L a) (L b) < m
      · rw [if_pos (by omega : max (L a) (L b) < m + 1)]
        rw [if_pos q] at ih
        by_cases r : L m = m
        · rw [if_pos r, if_pos (this.2 r)]; omega
        · rw [if_neg r, if_neg (fun e => r (this.1 e))]; omega
      · rw [if_neg (by omega : ¬ max (L a) (L b) < m + 1)]
        rw [if_neg q] at ih
        by_cases r : L m = m
        · rw [if_pos r, if_pos (this.2 r)]; omega
        · rw [if_neg r, if_neg (fun e => r (this.1 e))]; omega

theorem lkOk_iff {n : Nat} {L : Nat → Nat} {l : Lk} : lkOk n L l = true ↔ (0 ≤ l.1 ∧ l.1 < (n : Int)) ∧ (0 ≤ l.2.1 ∧ l.2.1 < (n : Int)) ∧ (0 ≤ l.2.2 ∧ l.2.2 ≤ 1000000) ∧ L l.1.toNat ≠ L l.2.1.toNat := by
  unfold lkOk
  simp only [Bool.and_eq_true, decide_eq_true_eq]
  constructor
  · rintro ⟨⟨⟨h1, h2⟩, h3⟩, h4⟩; exact ⟨h1, h2, h3, h4⟩
  · rintro ⟨h1, h2, h3, h4⟩; exact ⟨⟨⟨h1, h2⟩, h3⟩, h4⟩

theorem goF_names {n : Nat} : ∀ {L L' : Nat → Nat} {ls : List Lk}, Nm n L → goF n L ls = some L' → Nm n L' ∧ cnt L' n + ls.length = cnt L n
  | L, L', [], h, e => by simp only [goF, Option.some.injEq] at e; subst e; exact ⟨h, rfl⟩
  | L, L', l :: t, h, e => by
    rw [goF] at e
    split at e
    · rename_i hk
      obtain ⟨h1, h2, -, h4⟩ := lkOk_iff.1 hk
      have ha : l.1.toNat < n := by omega
      have hb : l.2.1.toNat < n := by omega
      obtain ⟨r1, r2⟩ := goF_names (h.mrg ha hb) e
      have c := cnt_mrg h ha hb h4 n
      have q1 := h.lt _ ha
      have q2 := h.lt _ hb
      rw [if_pos (by omega)] at c
      exact ⟨r1, by simp only [List.length_cons]; omega⟩
    · cases e

/-- A right forest has no more links than nodes. -/
theorem goF_len {n : Nat} {L : Nat → Nat} {ls : List Lk} (h : goF n id ls = some L) : ls.length ≤ n := by
  have := (goF_names (Nm.start n) h).2
  have := cnt_le id n
  omega

/-- The sets as the program has them: ways up to a head, which bears the least node. -/
structure Uf (n : Nat) (L : Nat → Nat) (up : Nat → Option Nat) (le : Nat → Int) (rt dp : Nat → Nat) : Prop where
  root : ∀ i, i < n → up i = none → rt i = i
  step : ∀ i, i < n → ∀ j, up i = some j → j < n ∧ rt j = rt i ∧ dp j < dp i
  rlt : ∀ i, i < n → rt i < n ∧ up (rt i) = none
  lst : ∀ i, i < n → le (rt i) = (L i : Int)
  eqv : ∀ i, i < n → ∀ j, j < n → (rt i = rt j ↔ L i = L j)

theorem Uf.start (n : Nat) : Uf n id (fun _ => none) (fun i => (i : Int)) id (fun _ => 0) where
  root := fun i _ _ => rfl
  step := fun i _ j h => by cases h
  rlt := fun i h => ⟨h, rfl⟩
  lst := fun i _ => rfl
  eqv := fun i _ j _ => Iff.rfl

theorem Uf.rr {n : Nat} {L : Nat → Nat} {up : Nat → Option Nat} {le : Nat → Int} {rt dp : Nat → Nat} (h : Uf n L up le rt dp) {i : Nat} (hi : i < n) : rt (rt i) = rt i := h.root _ (h.rlt i hi).1 (h.rlt i hi).2

theorem mrg_min {L : Nat → Nat} {a b : Nat} (i : Nat) : mrg L a b i = min (L a) (L b) ↔ (L i = L a ∨ L i = L b) := by
  unfold mrg; split <;> omega
theorem mrg_other {L : Nat → Nat} {a b i : Nat} (h : ¬ (L i = L a ∨ L i = L b)) : mrg L a b i = L i := by
  unfold mrg; rw [if_neg (by omega)]
theorem min_or {x y z : Nat} (h : x = min y z) : x = y ∨ x = z := by omega

theorem Uf.join {n : Nat} {L : Nat → Nat} {up : Nat → Option Nat} {le : Nat → Int} {rt dp : Nat → Nat} (h : Uf n L up le rt dp) {a b o u : Nat} (ha : a < n) (hb : b < n) (hne : rt a ≠ rt b) (hou : o = rt a ∧ u = rt b ∨ o = rt b ∧ u = rt a) :
    Uf n (mrg L a b) (fun i => if i = u then some o else up i) (fun i => if i = o then min (le o) (le u) else le i) (fun i => if rt i = u then o else rt i) (fun i => if rt i = u then dp i + dp o + 1 else dp i) := by
  have hon : o < n := by rcases hou with ⟨rfl, -⟩ | ⟨rfl, -⟩ <;> exact (h.rlt _ (by assumption)).1
  have hun : u < n := by rcases hou with ⟨-, rfl⟩ | ⟨-, rfl⟩ <;> exact (h.rlt _ (by assumption)).1
  have hoo : rt o = o := by rcases hou with ⟨rfl, -⟩ | ⟨rfl, -⟩ <;> exact h.rr (by assumption)
  have huu : rt u = u := by rcases hou with ⟨-, rfl⟩ | ⟨-, rfl⟩ <;> exact h.rr (by assumption)
  have hup : up o = none := by rcases hou with ⟨rfl, -⟩ | ⟨rfl, -⟩ <;> exact (h.rlt _ (by assumption)).2
  have hdf : o ≠ u := by rcases hou with ⟨rfl, rfl⟩ | ⟨rfl, rfl⟩ <;> omega
  have hmn : min (le o) (le u) = ((min (L a) (L b) : Nat) : Int) := by
    have e1 := h.lst a ha
    have e2 := h.lst b hb
    rcases hou with ⟨rfl, rfl⟩ | ⟨rfl, rfl⟩
    · rw [e1, e2]; omega
    · rw [e1, e2]; omega
  have hab : L a ≠ L b := fun e => hne ((h.eqv a ha b hb).2 e)
  have key : ∀ i, i < n → ((rt i = o ∨ rt i = u) ↔ (L i = L a ∨ L i = L b)) := by
    intro i hi
    have e1 := h.eqv i hi a ha
    have e2 := h.eqv i hi b hb
    rcases hou with ⟨rfl, rfl⟩ | ⟨rfl, rfl⟩
    · rw [e1, e2]
    · rw [e1, e2]; exact Or.comm
  refine ⟨fun i hi hu => ?_, fun i hi j hj => ?_, fun i hi => ?_, fun i hi => ?_, fun i hi j hj => ?_⟩
  · split at hu
    · cases hu
    · rename_i hiu
      have := h.root i hi hu
      show (if rt i = u then o else rt i) = i
      rw [this, if_neg hiu]
  · show j < n ∧ (if rt j = u then o else rt j) = (if rt i = u then o else rt i) ∧ (if rt j = u then dp j + dp o + 1 else dp j) < (if rt i = u then dp i + dp o + 1 else dp i)
    split at hj
    · rename_i hiu
      cases hj
      subst hiu
      rw [hoo, if_neg hdf, huu, if_pos rfl, if_neg hdf, if_pos rfl]
      exact ⟨hon, rfl, by omega⟩
    · obtain ⟨h1, h2, h3⟩ := h.step i hi j hj
      rw [h2]
      refine ⟨h1, rfl, ?_⟩
      split <;> omega
  · show (if rt i = u then o else rt i) < n ∧ (if (if rt i = u then o else rt i) = u then some o else up (if rt i = u then o else rt i)) = none
    by_cases c : rt i = u
    · rw [if_pos c, if_neg hdf]; exact ⟨hon, hup⟩
    · rw [if_neg c, if_neg c]; exact h.rlt i hi
  · show (if (if rt i = u then o else rt i) = o then min (le o) (le u) else le (if rt i = u then o else rt i)) = ((mrg L a b i : Nat) : Int)
    have k := key i hi
    unfold mrg
    by_cases c : rt i = o ∨ rt i = u
    · have hk := k.1 c
      have e : (if rt i = u then o else rt i) = o := by
        rcases c with c | c
        · rw [c, if_neg hdf]
        · rw [if_pos c]
      rw [e, if_pos rfl, hmn]
      have := (mrg_min (L := L) (a := a) (b := b) i).2 hk
      unfold mrg at this
      rw [this]
    · have hk : ¬ (L i = L a ∨ L i = L b) := fun q => c (k.2 q)
      have e2 := mrg_other hk
      unfold mrg at e2
      rw [if_neg (fun q => c (.inr q)), if_neg (fun q => c (.inl q)), e2]
      exact h.lst i hi
  · show ((if rt i = u then o else rt i) = (if rt j = u then o else rt j)) ↔ mrg L a b i = mrg L a b j
    have ki := key i hi
    have kj := key j hj
    have kij := h.eqv i hi j hj
    have ri : (if rt i = u then o else rt i) = o ↔ (rt i = o ∨ rt i = u) := by
      by_cases c : rt i = u
      · simp [c]
      · rw [if_neg c]; exact ⟨fun q => .inl q, fun q => q.resolve_right c⟩
    have rj : (if rt j = u then o else rt j) = o ↔ (rt j = o ∨ rt j = u) := by
      by_cases c : rt j = u
      · simp [c]
      · rw [if_neg c]; exact ⟨fun q => .inl q, fun q => q.resolve_right c⟩
    have mi := mrg_min (L := L) (a := a) (b := b) i
    have mj := mrg_min (L := L) (a := a) (b := b) j
    by_cases ci : rt i = o ∨ rt i = u
    · rw [ri.2 ci, mi.2 (ki.1 ci)]
      constructor
      · intro e
        exact (mj.2 (kj.1 (rj.1 e.symm))).symm
      · intro e
        exact (rj.2 (kj.2 (mj.1 e.symm))).symm
    · have e1 : (if rt i = u then o else rt i) = rt i := if_neg (fun q => ci (.inr q))
      have ni : ¬ (L i = L a ∨ L i = L b) := fun q => ci (ki.2 q)
      have e2 : mrg L a b i = L i := mrg_other ni
      rw [e1, e2]
      by_cases cj : rt j = o ∨ rt j = u
      · rw [rj.2 cj, mj.2 (kj.1 cj)]
        constructor
        · intro e; exact absurd (.inl e) ci
        · intro e; exact absurd (min_or e) ni
      · have e3 : (if rt j = u then o else rt j) = rt j := if_neg (fun q => cj (.inr q))
        have nj : ¬ (L j = L a ∨ L j = L b) := fun q => cj (kj.2 q)
        have e4 : mrg L a b j = L j := mrg_other nj
        rw [e3, e4]
        exact kij

end Go.Proofs.Ytakicdlfolhhcaa
