/- Several texts in one. -/
import Derived.WalkKit
import Derived.Lib.BitFns
import Derived.Maps.OwnSet
import Derived.Test.YthoiajpbpoglfaaTM

/- Plain facts on words of 64 bits as numbers: the bit at a place, what a right row is. No program in sight. -/
namespace Go.Proofs.Ythoiajpbpoglfaa
set_option linter.unusedVariables false
set_option linter.unusedSimpArgs false
open Go.RowKit

def wOk (W : Int) : Bool := decide (1 ≤ W ∧ W ≤ 4096)

/-- The bit i of a row of words of 64 bits. -/
def tb (xs : List Nat) (i : Nat) : Bool := (xs.getD (i / 64) 0).testBit (i % 64)

theorem tb_div (xs : List Nat) (i : Nat) : xs.getD (i / 64) 0 / 2 ^ (i % 64) % 2 = (tb xs i).toNat := by
  unfold tb
  rw [Nat.testBit_eq_decide_div_mod_eq]
  have := Nat.mod_two_eq_zero_or_one (xs.getD (i / 64) 0 / 2 ^ (i % 64))
  rcases this with h | h <;> rw [h] <;> rfl

/-- Nothing stands from the bit W on. -/
def clear (W : Int) (xs : List Nat) : Bool := (List.range (64 * xs.length)).all fun i => decide ((i : Int) < W) || !tb xs i

theorem clear_iff (W : Int) (xs : List Nat) : clear W xs = true ↔ ∀ i : Nat, W ≤ (i : Int) → i < 64 * xs.length → tb xs i = false := by
  unfold clear
  rw [List.all_eq_true]
  constructor
  · intro h i h1 h2
    have := h i (List.mem_range.2 h2)
    simp at this
    rcases this with h' | h'
    · omega
    · exact h'
  · intro h i hi
    have hi' := List.mem_range.1 hi
    by_cases h1 : (i : Int) < W
    · simp [h1]
    · simp [h i (by omega) hi']

def rightB (W : Int) (xs : List Nat) : Bool := wOk W && decide ((xs.length : Int) = (W + 63) / 64) && clear W xs

theorem rightB_no1 {W : Int} {xs : List Nat} (h : wOk W = false) : rightB W xs = false := by simp [rightB, h]
theorem rightB_no2 {W : Int} {xs : List Nat} (h : ¬ (xs.length : Int) = (W + 63) / 64) : rightB W xs = false := by simp [rightB, h]
theorem rightB_clear {W : Int} {xs : List Nat} (h : wOk W = true) (h2 : (xs.length : Int) = (W + 63) / 64) : rightB W xs = clear W xs := by simp [rightB, h, h2]

/-- The last word alone tells whether a row of just enough words is clear from W on. -/
theorem clear_last {W : Int} {xs : List Nat} (hx : ∀ x ∈ xs, x < 18446744073709551616) (hw : wOk W = true) (hl : (xs.length : Int) = (W + 63) / 64) :
    clear W xs = decide (64 * ((xs.length : Int) - 1) + (Lib.bitLen (xs.getD (xs.length - 1) 0) : Int) ≤ W) := by
  have hW : 1 ≤ W ∧ W ≤ 4096 := by simpa [wOk] using hw
  have hpos : 0 < xs.length := by omega
  have hlast : xs.getD (xs.length - 1) 0 < 18446744073709551616 := by
    have e : xs.getD (xs.length - 1) 0 = xs[xs.length - 1]'(by omega) := by simp [List.getD, show xs.length - 1 < xs.length by omega]
    rw [e]; exact hx _ (List.getElem_mem _)
  obtain ⟨r, hr⟩ : ∃ r : Nat, (r : Int) = W - 64 * ((xs.length : Int) - 1) := ⟨(W - 64 * ((xs.length : Int) - 1)).toNat, by omega⟩
  have hr64 : r ≤ 64 := by omega
  generalize hy : xs.getD (xs.length - 1) 0 = y at hlast ⊢
  have key : Lib.bitLen y ≤ r ↔ clear W xs = true := by
    have hb : Lib.bitLen y ≤ r ↔ y < 2 ^ r := by
      refine ⟨fun h => ?_, Lib.bitLen_le y r hr64⟩
      rcases Nat.lt_or_ge y (2 ^ r) with h' | h'
      · exact h'
      · have s := Lib.bitLen_shift r y h' hlast
        have hp : 0 < y / 2 ^ r := Nat.div_pos h' (Nat.two_pow_pos r)
        have hh := Lib.bitLen_half (y / 2 ^ r) (by omega) (Nat.lt_of_le_of_lt (Nat.div_le_self _ _) hlast)
        omega
    rw [hb, clear_iff]
    constructor
    · intro h i h1 h2
      have e1 : i / 64 = xs.length - 1 := by omega
      unfold tb
      rw [e1, hy]
      refine Nat.testBit_lt_two_pow (Nat.lt_of_lt_of_le h (Nat.pow_le_pow_right (by omega) (by omega)))
    · intro h
      refine Nat.lt_pow_two_of_testBit y fun j hj => ?_
      by_cases h64 : j < 64
      · have := h (64 * (xs.length - 1) + j) (by omega) (by omega)
        unfold tb at this
        rw [show (64 * (xs.length - 1) + j) / 64 = xs.length - 1 by omega, show (64 * (xs.length - 1) + j) % 64 = j by omega, hy] at this
        exact this
      · exact Nat.testBit_lt_two_pow (Nat.lt_of_lt_of_le hlast (show 2 ^ 64 ≤ 2 ^ j from Nat.pow_le_pow_right (by omega) (by omega)))
  by_cases h : Lib.bitLen y ≤ r
  · rw [key.1 h]; symm; simp; omega
  · have : clear W xs = false := by
      cases hc : clear W xs with
      | false => rfl
      | true => exact absurd (key.2 hc) h
    rw [this]; symm; simp; omega

end Go.Proofs.Ythoiajpbpoglfaa

/- Declared variables as a plain list: names, widths, when they are right; and what a map from names to places holds. No program in sight. -/
namespace Go.Proofs.Ythoiajpbpoglfaa
set_option linter.unusedVariables false
set_option linter.unusedSimpArgs false
open Go.RowKit

def in64 (k : Int) : Prop := -9223372036854775808 ≤ k ∧ k ≤ 9223372036854775807

/-- A variable: its name, its width. -/
abbrev Dc := ByteArray × Int

def letB (c : Nat) : Bool := decide (97 ≤ c) && decide (c ≤ 122)
def digB (c : Nat) : Bool := decide (48 ≤ c) && decide (c ≤ 57)
def nmB (c : Nat) : Bool := letB c || digB c

def allNm (s : ByteArray) : Bool := (List.range s.size).all fun i => nmB (bn s i)
theorem allNm_iff (s : ByteArray) : allNm s = true ↔ ∀ i, i < s.size → nmB (bn s i) = true := by
  unfold allNm
  rw [List.all_eq_true]
  exact ⟨fun h i hi => h i (List.mem_range.2 hi), fun h i hi => h i (List.mem_range.1 hi)⟩

def nmOk (s : ByteArray) : Bool := decide (1 ≤ s.size) && decide (s.size ≤ 12) && letB (bn s 0) && allNm s
def dcOk (d : Dc) : Bool := nmOk d.1 && wOk d.2

def sumW : List Dc → Int
  | [] => 0
  | d :: ds => d.2 + sumW ds

theorem sumW_append (xs ys : List Dc) : sumW (xs ++ ys) = sumW xs + sumW ys := by
  induction xs with
  | nil => simp [sumW]
  | cons x xs ih => simp [sumW, ih]; omega

theorem sumW_take {ds : List Dc} {k : Nat} {d : Dc} (h : ds[k]? = some d) : sumW (ds.take (k + 1)) = sumW (ds.take k) + d.2 := by
  rw [List.take_add_one, h, sumW_append]
  simp [sumW]

theorem dcOk_iff {d : Dc} : dcOk d = true ↔ nmOk d.1 = true ∧ 1 ≤ d.2 ∧ d.2 ≤ 4096 := by simp [dcOk, wOk]

theorem sumW_le {ds : List Dc} (h : ∀ d ∈ ds, dcOk d = true) : 0 ≤ sumW ds ∧ sumW ds ≤ 4096 * ds.length := by
  induction ds with
  | nil => simp [sumW]
  | cons d ds ih =>
    have h1 := (dcOk_iff.1 (h d (by simp))).2
    have h2 := ih fun x hx => h x (List.mem_cons_of_mem _ hx)
    simp [sumW]
    omega

/-- Are the variables right? -/
def dclR (ds : List Dc) : Bool := decide (ds.length ≤ 60) && ds.all dcOk && decide (sumW ds ≤ 20000) && decide ((ds.map Prod.fst).Nodup)

theorem dclR_iff {ds : List Dc} : dclR ds = true ↔ ds.length ≤ 60 ∧ (∀ d ∈ ds, dcOk d = true) ∧ sumW ds ≤ 20000 ∧ (ds.map Prod.fst).Nodup := by
  simp only [dclR, Bool.and_eq_true, decide_eq_true_eq, List.all_eq_true]
  constructor
  · rintro ⟨⟨⟨h1, h2⟩, h3⟩, h4⟩; exact ⟨h1, h2, h3, h4⟩
  · rintro ⟨h1, h2, h3, h4⟩; exact ⟨⟨⟨h1, h2⟩, h3⟩, h4⟩

theorem dclR_long {ds : List Dc} (h : 60 < ds.length) : dclR ds = false := by
  rw [Bool.eq_false_iff]; intro h'; have := (dclR_iff.1 h').1; omega
theorem dclR_bad {ds : List Dc} {k : Nat} {d : Dc} (h : ds[k]? = some d) (hd : dcOk d = false) : dclR ds = false := by
  rw [Bool.eq_false_iff]; intro h'
  have := (dclR_iff.1 h').2.1 d (List.mem_of_getElem? h)
  rw [hd] at this; cases this

/-- A text as the key of a map. -/
def kyOf (s : ByteArray) : Lit := .string s.data.toList
theorem kyOf_inj {s t : ByteArray} (h : kyOf s = kyOf t) : s = t := by
  unfold kyOf at h
  injection h with h
  exact ByteArray.ext (Array.toList_inj.1 h)
theorem kyOf_ne {s t : ByteArray} (h : s ≠ t) : kyOf s ≠ kyOf t := fun h' => h (kyOf_inj h')

/-- What a map tells of the names l, each put with its place: each once. -/
structure Pl (D : DataW Unit) (l : List ByteArray) : Prop where
  tidy : Maps.Tidy D
  has : ∀ s, Maps.has D (kyOf s) = true ↔ s ∈ l
  le : Maps.size D ≤ l.length
  nodup : Maps.size D = l.length ↔ l.Nodup
  at_ : l.Nodup → ∀ (i : Nat) s, l[i]? = some s → ∀ z, D.atKey (kyOf s) z = .lit (.int .i64 (i : Int))

theorem Pl.start : Pl (.map [] : DataW Unit) [] where
  tidy := Maps.tidy_empty
  has := fun s => by simp [Maps.has_eq]
  le := by simp [Maps.size_eq]
  nodup := by simp [Maps.size_eq]
  at_ := by simp

theorem Pl.step {D : DataW Unit} {l : List ByteArray} (h : Pl D l) (s : ByteArray) (hk : WideAt.IsKeyLit (kyOf s)) : Pl (D.put (kyOf s) (.lit (.int .i64 (l.length : Int)))) (l ++ [s]) where
  tidy := h.tidy.put hk _
  has := fun t => by
    by_cases e : t = s
    · subst e
      rw [Maps.has_put_same h.tidy.isMap hk]; simp
    · rw [Maps.has_put_other (kyOf_ne e), h.has]; simp [e]
  le := by
    rw [Maps.size_put h.tidy, List.length_append]
    have := h.le
    split <;> simp <;> omega
  nodup := by
    rw [Maps.size_put h.tidy, List.length_append, List.nodup_append]
    have hle := h.le
    have hn := h.nodup
    by_cases e : s ∈ l
    · rw [if_pos ((h.has s).2 e)]
      constructor
      · intro h'; simp at h'; omega
      · rintro ⟨-, -, h'⟩; exact absurd rfl (h' s e s (by simp))
    · rw [if_neg (fun h' => e ((h.has s).1 h'))]
      constructor
      · intro h'
        simp at h'
        refine ⟨hn.1 h', by simp, fun a ha b hb => ?_⟩
        simp at hb; subst hb
        intro e'; subst e'; exact e ha
      · rintro ⟨h1, -, -⟩
        have := hn.2 h1
        simp; exact this
  at_ := fun hnd i t ht z => by
    have hnd' := List.nodup_append.1 hnd
    rw [List.getElem?_append] at ht
    split at ht
    · rename_i hi
      have e : t ≠ s := hnd'.2.2 t (List.mem_of_getElem? ht) s (by simp)
      rw [Maps.atKey_put_other (kyOf_ne e), h.at_ hnd'.1 i t ht]
    · have hj := (List.getElem?_eq_some_iff.1 ht).1
      simp at hj
      have hil : i = l.length := by omega
      subst hil
      simp at ht
      subst ht
      rw [Maps.atKey_put_same h.tidy.isMap hk]

end Go.Proofs.Ythoiajpbpoglfaa
