/- What l1From answers: the word of a list of bits. -/
import Derived.Test.YteenmffhbgpahaaDoorKE
import Derived.BigRegion
namespace Go.Proofs.YteenmffhbgpahaaDoor
set_option linter.unusedVariables false
set_option linter.unusedSimpArgs false
open Go.RowKit

/-- A slice of bytes that holds bs, wherever it lies. -/
def RdB (w : World) (a : Option Addr) (bs : List Nat) : Prop :=
  bs.length ≤ 4194304 ∧ (∀ x ∈ bs, x < 256) ∧ (bs = [] ∨ ∃ b o, a = some ⟨b, o, none⟩ ∧ ∀ i, i < bs.length → w.cell? ⟨b, o + i, none⟩ = some (.int .u8 ((bs.getD i 0 : Nat) : Int)))

theorem RdB.later {w w' : World} {a : Option Addr} {xs : List Nat} (h : RdB w a xs) (hb : Below w.heap.size w w') : RdB w' a xs := by
  obtain ⟨h1, h2, h3⟩ := h
  refine ⟨h1, h2, ?_⟩
  rcases h3 with h3 | ⟨b, o, rfl, hc⟩
  · exact .inl h3
  · refine .inr ⟨b, o, rfl, fun i hi => ?_⟩
    have := hc i hi
    rw [hb.cell (p := ⟨b, o + i, none⟩) (by exact block_lt_of_cell this)]
    exact this

/-- Words in new memory: none at all, or a block of their own. -/
def Fresh (w : World) (lo : Nat) (a : Option Addr) (ys : List Nat) : Prop := (ys = [] ∧ a = none) ∨ ∃ g, a = some ⟨g, 0, none⟩ ∧ lo ≤ g ∧ Own w g ys

/-- What a function answers that gives back a row of words and a flag. -/
def RetB (w : World) (r : Int × List Nat × Bool) (e : Ending) (w' : World) : Prop :=
  ∃ a c, e = .returned (.tuple #[.agg #[.int .i64 r.1, .slice a r.2.1.length c], .bool r.2.2]) ∧ Fresh w' w.heap.size a r.2.1 ∧ Below w.heap.size w w'

def packTo (bs : List Nat) : Nat → List Nat
  | 0 => List.replicate ((bs.length + 63) / 64) 0
  | k + 1 => (packTo bs k).set (k / 64) ((packTo bs k).getD (k / 64) 0 ||| (bs.getD k 0) * 2 ^ (k % 64) % 18446744073709551616)

def pack (bs : List Nat) : List Nat := packTo bs bs.length

theorem packTo_len (bs : List Nat) (k : Nat) : (packTo bs k).length = (bs.length + 63) / 64 := by
  induction k with
  | zero => simp [packTo]
  | succ k ih => simp [packTo, ih]

theorem packTo_lt (bs : List Nat) (k : Nat) : ∀ x ∈ packTo bs k, x < 18446744073709551616 := by
  induction k with
  | zero => intro x hx; simp [packTo] at hx; omega
  | succ k ih =>
    intro x hx
    simp only [packTo] at hx
    rcases List.mem_or_eq_of_mem_set hx with h | h
    · exact ih x h
    · rw [h]
      refine Nat.or_lt_two_pow (n := 64) ?_ (Nat.mod_lt _ (by decide))
      simp only [List.getD]
      cases hg : (packTo bs k)[k / 64]? with
      | none => simp
      | some v => exact ih v (List.mem_of_getElem? hg)

theorem orShift (z y s : Nat) (hz : z < 18446744073709551616) : bits BinOp.or IntKind.u64 (z : Int) (IntKind.u64.wrap ((y : Int) * 2 ^ s)) = ((z ||| y * 2 ^ s % 18446744073709551616 : Nat) : Int) := by
  have e : IntKind.u64.wrap ((y : Int) * 2 ^ s) = ((y * 2 ^ s % 18446744073709551616 : Nat) : Int) := by
    rw [IntKind.wrap_u64]; simp
  rw [e, bits_or_u64_nat _ _ hz (Nat.mod_lt _ (by decide))]

def fromR (bs : List Nat) : Int × List Nat × Bool := if 1 ≤ bs.length ∧ bs.length ≤ 4096 then ((bs.length : Int), pack bs, true) else (0, [], false)


end Go.Proofs.YteenmffhbgpahaaDoor
