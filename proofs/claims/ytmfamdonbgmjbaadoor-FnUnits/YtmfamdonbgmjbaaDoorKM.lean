/- Declared variables as a plain list: names, widths, when they are right; and what a map from names to places holds. No program in sight. -/
import Derived.WalkKit
import Derived.Maps.OwnSet
import Derived.Test.YtmfamdonbgmjbaaDoorTM
import Derived.Test.YtmfamdonbgmjbaaDoorM
namespace Go.Proofs.YtmfamdonbgmjbaaDoor
set_option linter.unusedVariables false
set_option linter.unusedSimpArgs false
open Go.RowKit

def in64 (k : Int) : Prop := -9223372036854775808 ≤ k ∧ k ≤ 9223372036854775807

/-- A variable: its name, its width. -/
abbrev Dc := ByteArray × Int

def letB (c : Nat) : Bool := decide (97 ≤ c) && decide (c ≤ 122)
def digB (c : Nat) : Bool := decide (48 ≤ c) && decide (c ≤ 57)
def nmB (c : Nat) : Bool := letB c || digB c

def allNm (s : ByteArray) : Bool := (List.range s.size).all fun i => nmB (bn s i)
theorem allNm_iff (s : ByteArray) : allNm s = true ↔ ∀ i, i < s.size → nmB (bn s i) = true := by
  unfold allNm
  rw [List.all_eq_true]
  exact ⟨fun h i hi => h i (List.mem_range.2 hi), fun h i hi => h i (List.mem_range.1 hi)⟩

def nmOk (s : ByteArray) : Bool := decide (1 ≤ s.size) && decide (s.size ≤ 12) && letB (bn s 0) && allNm s
def dcOk (d : Dc) : Bool := nmOk d.1 && wOk d.2

def sumW : List Dc → Int
  | [] => 0
  | d :: ds => d.2 + sumW ds

theorem sumW_append (xs ys : List Dc) : sumW (xs ++ ys) = sumW xs + sumW ys := by
  induction xs with
  | nil => simp [sumW]
  | cons x xs ih => simp [sumW, ih]; omega

theorem sumW_take {ds : List Dc} {k : Nat} {d : Dc} (h : ds[k]? = some d) : sumW (ds.take (k + 1)) = sumW (ds.take k) + d.2 := by
  rw [List.take_add_one, h, sumW_append]
  simp [sumW]

theorem dcOk_iff {d : Dc} : dcOk d = true ↔ nmOk d.1 = true ∧ 1 ≤ d.2 ∧ d.2 ≤ 4096 := by simp [dcOk, wOk]

theorem sumW_le {ds : List Dc} (h : ∀ d ∈ ds, dcOk d = true) : 0 ≤ sumW ds ∧ sumW ds ≤ 4096 * ds.length := by
  induction ds with
  | nil => simp [sumW]
  | cons d ds ih =>
    have h1 := (dcOk_iff.1 (h d (by simp))).2
    have h2 := ih fun x hx => h x (List.mem_cons_of_mem _ hx)
    simp [sumW]
    omega

/-- Are the variables right? -/
def dclR (ds : List Dc) : Bool := decide (ds.length ≤ 60) && ds.all dcOk && decide (sumW ds ≤ 20000) && decide ((ds.map Prod.fst).Nodup)

theorem dclR_iff {ds : List Dc} : dclR ds = true ↔ ds.length ≤ 60 ∧ (∀ d ∈ ds, dcOk d = true) ∧ sumW ds ≤ 20000 ∧ (ds.map Prod.fst).Nodup := by
  simp only [dclR, Bool.and_eq_true, decide_eq_true_eq, List.all_eq_true]
  constructor
  · rintro ⟨⟨⟨h1, h2⟩, h3⟩, h4⟩; exact ⟨h1, h2, h3, h4⟩
  · rintro ⟨h1, h2, h3, h4⟩; exact ⟨⟨⟨h1, h2⟩, h3⟩, h4⟩

theorem dclR_long {ds : List Dc} (h : 60 < ds.length) : dclR ds = false := by
  rw [Bool.eq_false_iff]; intro h'; have := (dclR_iff.1 h').1; omega
theorem dclR_bad {ds : List Dc} {k : Nat} {d : Dc} (h : ds[k]? = some d) (hd : dcOk d = false) : dclR ds = false := by
  rw [Bool.eq_false_iff]; intro h'
  have := (dclR_iff.1 h').2.1 d (List.mem_of_getElem? h)
  rw [hd] at this; cases this

/-- A text as the key of a map. -/
def kyOf (s : ByteArray) : Lit := .string s.data.toList
theorem kyOf_inj {s t : ByteArray} (h : kyOf s = kyOf t) : s = t := by
  unfold kyOf at h
  injection h with h
  exact ByteArray.ext (Array.toList_inj.1 h)
theorem kyOf_ne {s t : ByteArray} (h : s ≠ t) : kyOf s ≠ kyOf t := fun h' => h (kyOf_inj h')

/-- What a map tells of the names l, each put with its place: each once. -/
structure Pl (D : DataW Unit) (l : List ByteArray) : Prop where
  tidy : Maps.Tidy D
  has : ∀ s, Maps.has D (kyOf s) = true ↔ s ∈ l
  le : Maps.size D ≤ l.length
  nodup : Maps.size D = l.length ↔ l.Nodup
  at_ : l.Nodup → ∀ (i : Nat) s, l[i]? = some s → ∀ z, D.atKey (kyOf s) z = .lit (.int .i64 (i : Int))

theorem Pl.start : Pl (.map [] : DataW Unit) [] where
  tidy := Maps.tidy_empty
  has := fun s => by simp [Maps.has_eq]
  le := by simp [Maps.size_eq]
  nodup := by simp [Maps.size_eq]
  at_ := by simp

theorem Pl.step {D : DataW Unit} {l : List ByteArray} (h : Pl D l) (s : ByteArray) (hk : WideAt.IsKeyLit (kyOf s)) : Pl (D.put (kyOf s) (.lit (.int .i64 (l.length : Int)))) (l ++ [s]) where
  tidy := h.tidy.put hk _
  has := fun t => by
    by_cases e : t = s
    · subst e
      rw [Maps.has_put_same h.tidy.isMap hk]; simp
    · rw [Maps.has_put_other (kyOf_ne e), h.has]; simp [e]
  le := by
    rw [Maps.size_put h.tidy, List.length_append]
    have := h.le
    split <;> simp <;> omega
  nodup := by
    rw [Maps.size_put h.tidy, List.length_append, List.nodup_append]
    have hle := h.le
    have hn := h.nodup
    by_cases e : s ∈ l
    · rw [if_pos ((h.has s).2 e)]
      constructor
      · intro h'; simp at h'; omega
      · rintro ⟨-, -, h'⟩; exact absurd rfl (h' s e s (by simp))
    · rw [if_neg (fun h' => e ((h.has s).1 h'))]
      constructor
      · intro h'
        simp at h'
        refine ⟨hn.1 h', by simp, fun a ha b hb => ?_⟩
        simp at hb; subst hb
        intro e'; subst e'; exact e ha
      · rintro ⟨h1, -, -⟩
        have := hn.2 h1
        simp; exact this
  at_ := fun hnd i t ht z => by
    have hnd' := List.nodup_append.1 hnd
    rw [List.getElem?_append] at ht
    split at ht
    · rename_i hi
      have e : t ≠ s := hnd'.2.2 t (List.mem_of_getElem? ht) s (by simp)
      rw [Maps.atKey_put_other (kyOf_ne e), h.at_ hnd'.1 i t ht]
    · have hj := (List.getElem?_eq_some_iff.1 ht).1
      simp at hj
      have hil : i = l.length := by omega
      subst hil
      simp at ht
      subst ht
      rw [Maps.atKey_put_same h.tidy.isMap hk]

end Go.Proofs.YtmfamdonbgmjbaaDoor
