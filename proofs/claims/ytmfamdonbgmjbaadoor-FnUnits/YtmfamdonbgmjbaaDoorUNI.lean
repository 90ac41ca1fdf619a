/- Places as bits of words: add, takeLeast. -/
import Derived.Test.YtmfamdonbgmjbaaDoorOIN
import Derived.Test.YtmfamdonbgmjbaaDoorCL
import Derived.Lib.TrailingZeros
import Derived.Shelf.Spec.TrailingZeros
namespace Go.Proofs.YtmfamdonbgmjbaaDoor
set_option linter.unusedVariables false
set_option linter.unusedSimpArgs false
open Go.RowKit

/-- Whether a place is among those that words tell. -/
def plB (ws : List Nat) (p : Nat) : Bool := (ws.getD (p / 64) 0).testBit (p % 64)
/-- A word without its lowest bit. -/
theorem low_off {x : Nat} (h0 : x ≠ 0) (hx : x < 2 ^ 64) (q : Nat) : (x &&& (x - 1)).testBit q = (x.testBit q && decide (q ≠ Lib.ctz 64 x)) := by
  obtain ⟨m, hm, hk⟩ := Lib.ctzFrom_spec 64 x (by omega) hx
  have hc : Lib.ctz 64 x = Lib.ctzFrom 64 x := by unfold Lib.ctz; rw [if_neg h0]
  rw [hc]
  generalize Lib.ctzFrom 64 x = k at *
  have hp : 0 < 2 ^ k := Nat.two_pow_pos k
  have e1 : x = 2 ^ k * (2 * m + 1) + 0 := by omega
  have e2 : x - 1 = 2 ^ k * (2 * m) + (2 ^ k - 1) := by rw [hm, Nat.mul_add, Nat.mul_one]; omega
  rw [Nat.testBit_and]
  have t1 : x.testBit q = if q < k then false else (2 * m + 1).testBit (q - k) := by
    rw [e1, Nat.testBit_two_pow_mul_add _ hp]
    simp
  have t2 : (x - 1).testBit q = if q < k then true else (2 * m).testBit (q - k) := by
    rw [e2, Nat.testBit_two_pow_mul_add _ (by omega), Nat.testBit_two_pow_sub_one]
    split <;> simp_all
  rw [t1, t2]
  by_cases hq : q < k
  · simp [hq]
  · rw [if_neg hq, if_neg hq]
    by_cases e : q = k
    · subst e; simp
    · obtain ⟨r, hr⟩ : ∃ r, q - k = r + 1 := ⟨q - k - 1, by omega⟩
      rw [hr, Nat.testBit_succ, Nat.testBit_succ]
      have a1 : (2 * m + 1) / 2 = m := by omega
      have a2 : 2 * m / 2 = m := by omega
      rw [a1, a2]
      simp [e]
theorem low_on {x : Nat} (h0 : x ≠ 0) (hx : x < 2 ^ 64) : x.testBit (Lib.ctz 64 x) = true ∧ ∀ q, q < Lib.ctz 64 x → x.testBit q = false := by
  obtain ⟨m, hm, hk⟩ := Lib.ctzFrom_spec 64 x (by omega) hx
  have hc : Lib.ctz 64 x = Lib.ctzFrom 64 x := by unfold Lib.ctz; rw [if_neg h0]
  rw [hc]
  generalize Lib.ctzFrom 64 x = k at *
  have hp : 0 < 2 ^ k := Nat.two_pow_pos k
  have e1 : x = 2 ^ k * (2 * m + 1) + 0 := by omega
  have t1 : ∀ q, x.testBit q = if q < k then false else (2 * m + 1).testBit (q - k) := fun q => by
    rw [e1, Nat.testBit_two_pow_mul_add _ hp]
    simp
  refine ⟨?_, fun q hq => ?_⟩
  · rw [t1, if_neg (by omega), Nat.sub_self]; simp
  · rw [t1, if_pos hq]
theorem low_lt {x : Nat} (h0 : x ≠ 0) (hx : x < 2 ^ 64) : Lib.ctz 64 x < 64 := (Lib.lowest_bit 64 x h0 hx).2
/-- A place more. -/
theorem plB_add {ws : List Nat} {p q : Nat} (hp : p / 64 < ws.length) : plB (ws.set (p / 64) (ws.getD (p / 64) 0 ||| 1 <<< (p % 64))) q = (plB ws q || decide (q = p)) := by
  unfold plB
  by_cases e : p / 64 = q / 64
  · rw [← e, List.getD_eq_getElem?_getD, List.getElem?_set_self hp, Option.getD_some, Nat.testBit_or, Nat.shiftLeft_eq, Nat.one_mul, Nat.testBit_two_pow]
    congr 1
    apply decide_eq_decide.2
    constructor <;> intro h <;> omega
  · rw [List.getD_eq_getElem?_getD, List.getElem?_set_ne e, ← List.getD_eq_getElem?_getD]
    rw [show decide (q = p) = false by apply decide_eq_false; intro h; subst h; exact e rfl, Bool.or_false]
/-- The least place. -/
theorem plB_least {ws : List Nat} {i : Nat} (hi : i < ws.length) (h0 : ∀ j, j < i → ws.getD j 0 = 0) (hn : ws.getD i 0 ≠ 0) (hx : ws.getD i 0 < 2 ^ 64) :
    plB ws (i * 64 + Lib.ctz 64 (ws.getD i 0)) = true ∧ (∀ q, q < i * 64 + Lib.ctz 64 (ws.getD i 0) → plB ws q = false) ∧
    ∀ q, plB (ws.set i (ws.getD i 0 &&& (ws.getD i 0 - 1))) q = (plB ws q && decide (q ≠ i * 64 + Lib.ctz 64 (ws.getD i 0))) := by
  have hl := low_lt hn hx
  obtain ⟨h1, h2⟩ := low_on hn hx
  have h3 := low_off hn hx
  generalize Lib.ctz 64 (ws.getD i 0) = k at *
  have d1 : (i * 64 + k) / 64 = i := by omega
  have d2 : (i * 64 + k) % 64 = k := by omega
  refine ⟨by unfold plB; rw [d1, d2]; exact h1, fun q hq => ?_, fun q => ?_⟩
  · unfold plB
    by_cases e : q / 64 = i
    · rw [e]; exact h2 _ (by omega)
    · rw [h0 _ (by omega)]; exact Nat.zero_testBit _
  · unfold plB
    by_cases e : i = q / 64
    · rw [← e, List.getD_eq_getElem?_getD, List.getElem?_set_self hi, Option.getD_some, h3]
      congr 1
      apply decide_eq_decide.2
      constructor <;> intro h <;> omega
    · rw [List.getD_eq_getElem?_getD, List.getElem?_set_ne e, ← List.getD_eq_getElem?_getD]
      rw [show decide (q ≠ i * 64 + k) = true by apply decide_eq_true; intro h; omega, Bool.and_true]
theorem plB_none {ws : List Nat} (h0 : ∀ j, j < ws.length → ws.getD j 0 = 0) (q : Nat) : plB ws q = false := by
  unfold plB
  by_cases e : q / 64 < ws.length
  · rw [h0 _ e]; exact Nat.zero_testBit _
  · rw [List.getD_eq_getElem?_getD, List.getElem?_eq_none (by omega)]; exact Nat.zero_testBit _

set_option maxHeartbeats 1000000 in
theorem tz_core (x k idx : Nat) (w : World) (h0 : ((x : Int) == 0) = false)
    (key : IntKind.u64.wrap (bits BinOp.and IntKind.u64 (x : Int) (IntKind.u64.wrap (-(x : Int))) * 285870213051353865) / 288230376151711744 = (idx : Int))
    (hi : idx < 64) (hk : k < 64) (hcell : w.cell? ⟨0, idx, none⟩ = some (.int .u8 k)) :
    Calls Tryd.prog 75 #[.int .u64 x] w fun e w' => e = .returned (.int .i64 k) ∧ w' = w := by
  go_enter Tryd.func75, Tryd.ntmps75
  go_wp2_with (simp only [key])
  go_ret
  exact ⟨rfl, rfl⟩
theorem tz_any (x : Nat) (hx0 : x ≠ 0) (hx : x < 18446744073709551616) (w : World) (hT : TabAt 0 Lib.deBruijn64tab w) :
    Calls Tryd.prog 75 #[.int .u64 x] w fun e w' => e = .returned (.int .i64 (Lib.ctz 64 x)) ∧ w' = w := by
  obtain ⟨hlow, hk⟩ := Lib.lowest_bit 64 x hx0 hx
  obtain ⟨hi, htab⟩ := Lib.deBruijn64_at _ hk
  have hcell := hT _ hi
  rw [htab] at hcell
  exact tz_core x _ _ w (by simp; omega) (tz64_key x _ hx hx0 hlow) hi hk hcell
end Go.Proofs.YtmfamdonbgmjbaaDoor
