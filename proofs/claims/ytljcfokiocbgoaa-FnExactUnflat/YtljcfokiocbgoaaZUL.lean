/- Several texts in one. -/
import Derived.Test.YtljcfokiocbgoaaZUA
import Derived.BigRegion

/- What l1From answers: the word of a list of bits. -/
namespace Go.Proofs.Ytljcfokiocbgoaa
set_option linter.unusedVariables false
set_option linter.unusedSimpArgs false
open Go.RowKit

/-- A slice of bytes that holds bs, wherever it lies. -/
def RdB (w : World) (a : Option Addr) (bs : List Nat) : Prop :=
  bs.length ≤ 4194304 ∧ (∀ x ∈ bs, x < 256) ∧ (bs = [] ∨ ∃ b o, a = some ⟨b, o, none⟩ ∧ ∀ i, i < bs.length → w.cell? ⟨b, o + i, none⟩ = some (.int .u8 ((bs.getD i 0 : Nat) : Int)))

theorem RdB.later {w w' : World} {a : Option Addr} {xs : List Nat} (h : RdB w a xs) (hb : Below w.heap.size w w') : RdB w' a xs := by
  obtain ⟨h1, h2, h3⟩ := h
  refine ⟨h1, h2, ?_⟩
  rcases h3 with h3 | ⟨b, o, rfl, hc⟩
  · exact .inl h3
  · refine .inr ⟨b, o, rfl, fun i hi => ?_⟩
    have := hc i hi
    rw [hb.cell (p := ⟨b, o + i, none⟩) (by exact block_lt_of_cell this)]
    exact this

/-- Words in new memory: none at all, or a block of their own. -/
def Fresh (w : World) (lo : Nat) (a : Option Addr) (ys : List Nat) : Prop := (ys = [] ∧ a = none) ∨ ∃ g, a = some ⟨g, 0, none⟩ ∧ lo ≤ g ∧ Own w g ys

/-- What a function answers that gives back a row of words and a flag. -/
def RetB (w : World) (r : Int × List Nat × Bool) (e : Ending) (w' : World) : Prop :=
  ∃ a c, e = .returned (.tuple #[.agg #[.int .i64 r.1, .slice a r.2.1.length c], .bool r.2.2]) ∧ Fresh w' w.heap.size a r.2.1 ∧ Below w.heap.size w w'

def packTo (bs : List Nat) : Nat → List Nat
  | 0 => List.replicate ((bs.length + 63) / 64) 0
  | k + 1 => (packTo bs k).set (k / 64) ((packTo bs k).getD (k / 64) 0 ||| (bs.getD k 0) * 2 ^ (k % 64) % 18446744073709551616)

def pack (bs : List Nat) : List Nat := packTo bs bs.length

theorem packTo_len (bs : List Nat) (k : Nat) : (packTo bs k).length = (bs.length + 63) / 64 := by
  induction k with
  | zero => simp [packTo]
  | succ k ih => simp [packTo, ih]

theorem packTo_lt (bs : List Nat) (k : Nat) : ∀ x ∈ packTo bs k, x < 18446744073709551616 := by
  induction k with
  | zero => intro x hx; simp [packTo] at hx; omega
  | succ k ih =>
    intro x hx
    simp only [packTo] at hx
    rcases List.mem_or_eq_of_mem_set hx with h | h
    · exact ih x h
    · rw [h]
      refine Nat.or_lt_two_pow (n := 64) ?_ (Nat.mod_lt _ (by decide))
      simp only [List.getD]
      cases hg : (packTo bs k)[k / 64]? with
      | none => simp
      | some v => exact ih v (List.mem_of_getElem? hg)

theorem orShift (z y s : Nat) (hz : z < 18446744073709551616) : bits BinOp.or IntKind.u64 (z : Int) (IntKind.u64.wrap ((y : Int) * 2 ^ s)) = ((z ||| y * 2 ^ s % 18446744073709551616 : Nat) : Int) := by
  have e : IntKind.u64.wrap ((y : Int) * 2 ^ s) = ((y * 2 ^ s % 18446744073709551616 : Nat) : Int) := by
    rw [IntKind.wrap_u64]; simp
  rw [e, bits_or_u64_nat _ _ hz (Nat.mod_lt _ (by decide))]

def fromR (bs : List Nat) : Int × List Nat × Bool := if 1 ≤ bs.length ∧ bs.length ≤ 4096 then ((bs.length : Int), pack bs, true) else (0, [], false)


end Go.Proofs.Ytljcfokiocbgoaa

/- Plain facts: the word of a list of bits, told by its bits. No program in sight. -/
namespace Go.Proofs.Ytljcfokiocbgoaa
set_option linter.unusedVariables false
set_option linter.unusedSimpArgs false
open Go.RowKit

theorem getD_lt {xs : List Nat} (h : ∀ x ∈ xs, x < 18446744073709551616) (i : Nat) : xs.getD i 0 < 18446744073709551616 := by
  simp only [List.getD]
  cases hg : xs[i]? with
  | none => simp
  | some v => exact h v (List.mem_of_getElem? hg)

theorem tb_set (xs : List Nat) (k y i : Nat) (hk : k < xs.length) : tb (xs.set k y) i = if i / 64 = k then y.testBit (i % 64) else tb xs i := by
  unfold tb
  simp only [List.getD, List.getElem?_set]
  by_cases h : i / 64 = k
  · simp [h, hk]
  · rw [if_neg (fun e => h e.symm), if_neg h]

theorem tb_packTo (bs : List Nat) (hb : ∀ x ∈ bs, x ≤ 1) (k i : Nat) (hk : k ≤ bs.length) : tb (packTo bs k) i = (decide (i < k) && decide (bs.getD i 0 = 1)) := by
  induction k with
  | zero => simp [packTo, tb, List.getD, List.getElem?_replicate]; split <;> simp
  | succ k ih =>
    have hlen := packTo_len bs k
    rw [packTo, tb_set _ _ _ _ (by omega)]
    have hbk : bs.getD k 0 ≤ 1 := by
      have e : bs.getD k 0 = bs[k] := by simp [List.getD, show k < bs.length by omega]
      rw [e]; exact hb _ (List.getElem_mem _)
    have hlt : bs.getD k 0 * 2 ^ (k % 64) < 18446744073709551616 := by
      have h1 : 2 ^ (k % 64) ≤ 2 ^ 63 := Nat.pow_le_pow_right (by omega) (by omega)
      have h2 : bs.getD k 0 * 2 ^ (k % 64) ≤ 1 * 2 ^ (k % 64) := Nat.mul_le_mul_right _ hbk
      omega
    by_cases h : i / 64 = k / 64
    · rw [if_pos h, Nat.testBit_or, Nat.mod_eq_of_lt hlt]
      have ih' := ih (by omega)
      unfold tb at ih'
      rw [h] at ih'
      rw [ih']
      by_cases h2 : i = k
      · subst h2
        have h3 : bs.getD i 0 = 0 ∨ bs.getD i 0 = 1 := by omega
        rcases h3 with h3 | h3
        · rw [h3]; simp
        · rw [h3, Nat.one_mul, Nat.testBit_two_pow_self]; simp
      · have h4 : (bs.getD k 0 * 2 ^ (k % 64)).testBit (i % 64) = false := by
          have h3 : bs.getD k 0 = 0 ∨ bs.getD k 0 = 1 := by omega
          rcases h3 with h3 | h3
          · rw [h3]; simp
          · rw [h3, Nat.one_mul]; exact Nat.testBit_two_pow_of_ne (by omega)
        rw [h4, Bool.or_false]
        by_cases h5 : i < k
        · simp [h5, show i < k + 1 by omega]
        · simp [h5, show ¬ i < k + 1 by omega]
    · rw [if_neg h, ih (by omega)]
      by_cases h5 : i < k
      · simp [h5, show i < k + 1 by omega]
      · simp [h5, show ¬ i < k + 1 by omega]

theorem tb_pack (bs : List Nat) (hb : ∀ x ∈ bs, x ≤ 1) (i : Nat) : tb (pack bs) i = decide (bs.getD i 0 = 1) := by
  rw [pack, tb_packTo bs hb _ _ (Nat.le_refl _)]
  by_cases h : i < bs.length
  · simp [h]
  · simp [h, List.getD]

theorem pack_len (bs : List Nat) : (pack bs).length = (bs.length + 63) / 64 := packTo_len bs _
theorem pack_lt (bs : List Nat) : ∀ x ∈ pack bs, x < 18446744073709551616 := packTo_lt bs _

/-- Two rows of as many words that have the same bits are the same. -/
theorem tb_ext {xs ys : List Nat} (hl : xs.length = ys.length) (hx : ∀ x ∈ xs, x < 18446744073709551616) (hy : ∀ x ∈ ys, x < 18446744073709551616)
    (h : ∀ i, i < 64 * xs.length → tb xs i = tb ys i) : xs = ys := by
  refine List.ext_getElem hl fun k h1 h2 => ?_
  have e1 : xs.getD k 0 = xs[k] := by simp [List.getD, h1]
  have e2 : ys.getD k 0 = ys[k] := by simp [List.getD, h2]
  rw [← e1, ← e2]
  refine Nat.eq_of_testBit_eq fun j => ?_
  by_cases hj : j < 64
  · have := h (64 * k + j) (by omega)
    unfold tb at this
    rw [show (64 * k + j) / 64 = k by omega, show (64 * k + j) % 64 = j by omega] at this
    exact this
  · have p : 2 ^ 64 ≤ 2 ^ j := Nat.pow_le_pow_right (by omega) (by omega)
    rw [Nat.testBit_lt_two_pow (Nat.lt_of_lt_of_le (getD_lt hx k) p), Nat.testBit_lt_two_pow (Nat.lt_of_lt_of_le (getD_lt hy k) p)]

/-- A row of words is the word of a list of bits where it has its bits. -/
theorem eq_pack {ys bs : List Nat} (hb : ∀ x ∈ bs, x ≤ 1) (hl : ys.length = (bs.length + 63) / 64) (hy : ∀ x ∈ ys, x < 18446744073709551616)
    (h : ∀ i, i < 64 * ys.length → tb ys i = decide (bs.getD i 0 = 1)) : ys = pack bs :=
  tb_ext (by rw [hl, pack_len]) hy (pack_lt bs) fun i hi => by rw [h i hi, tb_pack bs hb]

/-- Bits from the width on are 0 in a right row; behind its words there are none. -/
theorem tb_out {W : Int} {xs : List Nat} (h : rightB W xs = true) (i : Nat) (hi : W ≤ (i : Int)) : tb xs i = false := by
  simp only [rightB, Bool.and_eq_true] at h
  by_cases hl : i < 64 * xs.length
  · exact (clear_iff W xs).1 h.2 i hi hl
  · unfold tb
    have : xs.getD (i / 64) 0 = 0 := by simp only [List.getD]; rw [List.getElem?_eq_none (by omega)]; rfl
    rw [this]; simp

theorem right_W {W : Int} {xs : List Nat} (h : rightB W xs = true) : 1 ≤ W ∧ W ≤ 4096 ∧ (xs.length : Int) = (W + 63) / 64 := by
  simp [rightB, wOk] at h
  omega

theorem pack_right (bs : List Nat) (hb : ∀ x ∈ bs, x ≤ 1) (h1 : 1 ≤ bs.length) (h2 : bs.length ≤ 4096) : rightB bs.length (pack bs) = true := by
  rw [rightB_clear (by simp [wOk]; omega) (by rw [pack_len]; omega), clear_iff]
  intro i hi _
  rw [tb_pack bs hb]
  simp [List.getD, List.getElem?_eq_none (show bs.length ≤ i by omega)]

end Go.Proofs.Ytljcfokiocbgoaa

/- Plain facts on the text of a word. No program in sight. -/
namespace Go.Proofs.Ytljcfokiocbgoaa
set_option linter.unusedVariables false
set_option linter.unusedSimpArgs false
open Go.RowKit

/-- The sign of a digit. -/
def sig (n : Nat) : Nat := ([48, 49, 50, 51, 52, 53, 54, 55, 56, 57, 97, 98, 99, 100, 101, 102] : List Nat).getD n 0

/-- The bit at a place as a number. -/
def bit (xs : List Nat) (i : Nat) : Nat := (tb xs i).toNat

/-- The digit of per bits at a place. -/
def dig (x : Bool) (xs : List Nat) (at_ : Nat) : Nat := if x then 8 * bit xs (at_ + 3) + 4 * bit xs (at_ + 2) + 2 * bit xs (at_ + 1) + bit xs at_ else bit xs at_

/-- The signs of the highest k of c digits, the highest first. -/
def wTo (x : Bool) (xs : List Nat) (c : Nat) : Nat → List Nat
  | 0 => []
  | k + 1 => wTo x xs c k ++ [sig (dig x xs ((c - 1 - k) * (if x then 4 else 1)))]

theorem wTo_len (x : Bool) (xs : List Nat) (c k : Nat) : (wTo x xs c k).length = k := by
  induction k with
  | zero => rfl
  | succ k ih => rw [wTo, List.length_append, ih]; rfl

def writeL (V : Nat) (xs : List Nat) : List Nat := if V % 4 = 0 then [35, 120] ++ wTo true xs (V / 4) (V / 4) else [35, 98] ++ wTo false xs V V

/-- The text of a word. -/
def writeR (W : Int) (xs : List Nat) : List Nat := if rightB W xs = true then writeL W.toNat xs else []

theorem bit_word (xs : List Nat) (T i : Nat) (h : T % 64 + i < 64) : bit xs (T + i) = xs.getD (T / 64) 0 / 2 ^ (T % 64) / 2 ^ i % 2 := by
  unfold bit
  rw [← tb_div xs (T + i), show (T + i) / 64 = T / 64 by omega, show (T + i) % 64 = T % 64 + i by omega, Nat.pow_add, Nat.div_div_eq_div_mul]

theorem dig_word (x : Bool) (xs : List Nat) (m : Nat) (T : Nat) (hT : T = m * (if x then 4 else 1)) : dig x xs T = xs.getD (T / 64) 0 / 2 ^ (T % 64) % (if x then 16 else 2) := by
  cases x with
  | true =>
    simp only [if_true] at hT ⊢
    have b0 := bit_word xs T 0 (by omega)
    have b1 := bit_word xs T 1 (by omega)
    have b2 := bit_word xs T 2 (by omega)
    have b3 := bit_word xs T 3 (by omega)
    simp only [dig, if_true]
    simp only [Nat.add_zero, Nat.pow_zero, Nat.div_one] at b0
    rw [b0, b1, b2, b3]
    generalize xs.getD (T / 64) 0 / 2 ^ (T % 64) = z
    omega
  | false =>
    have b0 := bit_word xs T 0 (by omega)
    simp only [Nat.add_zero, Nat.pow_zero, Nat.div_one] at b0
    simp [dig]
    exact b0

theorem dig_lt (x : Bool) (xs : List Nat) (m : Nat) (T : Nat) (hT : T = m * (if x then 4 else 1)) : dig x xs T < 16 := by
  rw [dig_word x xs m T hT]
  have : ∀ z : Nat, z % (if x then 16 else 2) < 16 := fun z => by
    cases x
    · have := Nat.mod_lt z (show 0 < 2 by omega); simp; omega
    · exact Nat.mod_lt z (by decide)
  exact this _

theorem sig_lt (n : Nat) : sig n < 256 := by
  by_cases h : n < 16
  · have : ∀ n, n < 16 → sig n < 256 := by decide
    exact this n h
  · unfold sig
    simp only [List.getD]
    rw [List.getElem?_eq_none (by simp; omega)]; decide

theorem wTo_lt (x : Bool) (xs : List Nat) (c k : Nat) : ∀ y ∈ wTo x xs c k, y < 256 := by
  induction k with
  | zero => intro y hy; simp [wTo] at hy
  | succ k ih =>
    intro y hy
    rw [wTo] at hy
    rcases List.mem_append.1 hy with h | h
    · exact ih y h
    · simp at h; rw [h]; exact sig_lt _

def txt (l : List Nat) : ByteArray := ⟨(l.map UInt8.ofNat).toArray⟩

end Go.Proofs.Ytljcfokiocbgoaa

/- No two words have one text. -/
namespace Go.Proofs.Ytljcfokiocbgoaa
set_option linter.unusedVariables false
set_option linter.unusedSimpArgs false
open Go.RowKit

theorem sig_inj : ∀ m, m < 16 → ∀ n, n < 16 → sig m = sig n → m = n := by decide
theorem wTo_at (x : Bool) (xs : List Nat) (c m k : Nat) (hk : k < m) : (wTo x xs c m).getD k 0 = sig (dig x xs ((c - 1 - k) * (if x then 4 else 1))) := by
  induction m with
  | zero => omega
  | succ m ih =>
    have hl := wTo_len x xs c m
    unfold wTo
    by_cases h : k < m
    · rw [← ih h]
      simp only [List.getD_eq_getElem?_getD]
      rw [List.getElem?_append_left (by omega)]
    · have e : k = m := by omega
      subst e
      simp only [List.getD_eq_getElem?_getD]
      rw [List.getElem?_append_right (by omega), hl]
      simp
theorem bit_01 (xs : List Nat) (i : Nat) : bit xs i ≤ 1 := by unfold bit; cases tb xs i <;> decide
theorem bit_tb {xs ys : List Nat} {i : Nat} (h : bit xs i = bit ys i) : tb xs i = tb ys i := by
  unfold bit at h
  cases hx : tb xs i <;> cases hy : tb ys i <;> simp_all
theorem dig_bits {xs ys : List Nat} {at_ : Nat} (h : dig true xs at_ = dig true ys at_) : ∀ i, i < 4 → bit xs (at_ + i) = bit ys (at_ + i) := by
  simp only [dig, if_true] at h
  have a0 := bit_01 xs at_
  have a1 := bit_01 xs (at_ + 1)
  have a2 := bit_01 xs (at_ + 2)
  have a3 := bit_01 xs (at_ + 3)
  have b0 := bit_01 ys at_
  have b1 := bit_01 ys (at_ + 1)
  have b2 := bit_01 ys (at_ + 2)
  have b3 := bit_01 ys (at_ + 3)
  intro i hi
  rcases (by omega : i = 0 ∨ i = 1 ∨ i = 2 ∨ i = 3) with rfl | rfl | rfl | rfl
  · simp only [Nat.add_zero]; omega
  · omega
  · omega
  · omega
theorem same_bits {V : Nat} {xs ys : List Nat} (hx : rightB V xs = true) (hy : rightB V ys = true) (bx : ∀ x ∈ xs, x < 18446744073709551616) (by_ : ∀ x ∈ ys, x < 18446744073709551616) (h : ∀ i, i < V → tb xs i = tb ys i) : xs = ys := by
  have l1 := (right_W hx).2.2
  have l2 := (right_W hy).2.2
  refine tb_ext (by omega) bx by_ fun i hi => ?_
  by_cases hV : i < V
  · exact h i hV
  · rw [tb_out hx i (by omega), tb_out hy i (by omega)]
theorem writeL_inj {V U : Nat} {xs ys : List Nat} (hx : rightB V xs = true) (hy : rightB U ys = true) (bx : ∀ x ∈ xs, x < 18446744073709551616) (by_ : ∀ x ∈ ys, x < 18446744073709551616) (h : writeL V xs = writeL U ys) : V = U ∧ xs = ys := by
  unfold writeL at h
  by_cases h4 : V % 4 = 0
  · by_cases u4 : U % 4 = 0
    · rw [if_pos h4, if_pos u4] at h
      have h2 := (List.append_right_inj _).1 h
      have hl := congrArg List.length h2
      rw [wTo_len, wTo_len] at hl
      have e : V = U := by omega
      subst e
      refine ⟨rfl, same_bits hx hy bx by_ fun i hi => ?_⟩
      have hk : V / 4 - 1 - i / 4 < V / 4 := by omega
      have e1 := congrArg (fun z => z.getD (V / 4 - 1 - i / 4) 0) h2
      rw [wTo_at _ _ _ _ _ hk, wTo_at _ _ _ _ _ hk] at e1
      simp only [if_true] at e1
      rw [show V / 4 - 1 - (V / 4 - 1 - i / 4) = i / 4 by omega] at e1
      have e2 := sig_inj _ (dig_lt true xs (i / 4) _ (by simp)) _ (dig_lt true ys (i / 4) _ (by simp)) e1
      have e3 := dig_bits e2 (i % 4) (by omega)
      rw [show i / 4 * 4 + i % 4 = i by omega] at e3
      exact bit_tb e3
    · rw [if_pos h4, if_neg u4] at h
      have := congrArg (fun z => z.getD 1 0) h
      simp at this
  · by_cases u4 : U % 4 = 0
    · rw [if_neg h4, if_pos u4] at h
      have := congrArg (fun z => z.getD 1 0) h
      simp at this
    · rw [if_neg h4, if_neg u4] at h
      have h2 := (List.append_right_inj _).1 h
      have hl := congrArg List.length h2
      rw [wTo_len, wTo_len] at hl
      subst hl
      refine ⟨rfl, same_bits hx hy bx by_ fun i hi => ?_⟩
      have hk : V - 1 - i < V := by omega
      have e1 := congrArg (fun z => z.getD (V - 1 - i) 0) h2
      rw [wTo_at _ _ _ _ _ hk, wTo_at _ _ _ _ _ hk] at e1
      rw [show V - 1 - (V - 1 - i) = i by omega] at e1
      simp only [Bool.false_eq_true, if_false, Nat.mul_one] at e1
      have e2 := sig_inj _ (dig_lt false xs i _ (by simp)) _ (dig_lt false ys i _ (by simp)) e1
      simp only [dig, Bool.false_eq_true, if_false] at e2
      exact bit_tb e2
theorem txt_inj {l m : List Nat} (hl : ∀ x ∈ l, x < 256) (hm : ∀ x ∈ m, x < 256) (h : txt l = txt m) : l = m := by
  unfold txt at h
  injection h with h
  have h2 : l.map UInt8.ofNat = m.map UInt8.ofNat := by simpa using h
  have h3 : ∀ (z : List Nat), (∀ x ∈ z, x < 256) → (z.map UInt8.ofNat).map UInt8.toNat = z := fun z hz => by
    rw [List.map_map]
    conv => rhs; rw [← List.map_id z]
    refine List.map_congr_left fun b hb => ?_
    have := hz b hb
    simp [UInt8.toNat_ofNat']
    omega
  rw [← h3 l hl, ← h3 m hm, h2]
theorem writeL_lt (V : Nat) (xs : List Nat) : ∀ x ∈ writeL V xs, x < 256 := by
  intro x hx
  unfold writeL at hx
  split at hx
  · rcases List.mem_append.1 hx with h | h
    · simp at h; omega
    · exact wTo_lt _ _ _ _ x h
  · rcases List.mem_append.1 hx with h | h
    · simp at h; omega
    · exact wTo_lt _ _ _ _ x h
theorem writeR_lt (W : Int) (xs : List Nat) : ∀ x ∈ writeR W xs, x < 256 := by
  intro x hx
  unfold writeR at hx
  split at hx
  · exact writeL_lt _ _ x hx
  · cases hx
theorem writeL_two (V : Nat) (xs : List Nat) : 2 ≤ (writeL V xs).length := by
  unfold writeL
  split <;> simp <;> omega
theorem writeR_size (W : Int) (xs : List Nat) (h : rightB W xs = true ∨ W = 0) : (writeR W xs).length ≤ 5000 := by
  unfold writeR
  split
  · rename_i hr
    have := right_W hr
    unfold writeL
    split <;> simp [wTo_len] <;> omega
  · simp

/-- Right words, or none at all: the text tells which. -/
def okV (W : Int) (xs : List Nat) : Prop := (rightB W xs = true ∨ W = 0 ∧ xs = []) ∧ ∀ x ∈ xs, x < 18446744073709551616
theorem text_inj {W U : Int} {xs ys : List Nat} (hx : okV W xs) (hy : okV U ys) (h : txt (writeR W xs) = txt (writeR U ys)) : W = U ∧ xs = ys := by
  have h2 := txt_inj (writeR_lt _ _) (writeR_lt _ _) h
  have no0 : rightB 0 ([] : List Nat) = false := by decide
  obtain ⟨h1, bx⟩ := hx
  obtain ⟨k1, by_⟩ := hy
  rcases h1 with h1 | ⟨rfl, rfl⟩
  · have w1 := right_W h1
    obtain ⟨V, rfl⟩ := Int.eq_ofNat_of_zero_le (show 0 ≤ W by omega)
    rcases k1 with k1 | ⟨rfl, rfl⟩
    · have w2 := right_W k1
      obtain ⟨Z, rfl⟩ := Int.eq_ofNat_of_zero_le (show 0 ≤ U by omega)
      rw [writeR, if_pos h1, writeR, if_pos k1, Int.toNat_natCast, Int.toNat_natCast] at h2
      obtain ⟨e1, e2⟩ := writeL_inj h1 k1 bx by_ h2
      exact ⟨by rw [e1], e2⟩
    · rw [writeR, if_pos h1, writeR, if_neg (by rw [no0]; decide)] at h2
      have := writeL_two ((V : Int).toNat) xs
      rw [h2] at this
      simp at this
  · rcases k1 with k1 | ⟨rfl, rfl⟩
    · rw [writeR, if_neg (by rw [no0]; decide), writeR, if_pos k1] at h2
      have := writeL_two (U.toNat) ys
      rw [← h2] at this
      simp at this
    · exact ⟨rfl, rfl⟩

end Go.Proofs.Ytljcfokiocbgoaa

/- What l1List answers: the bits of a row, from the lowest on; and the law of an append of one byte. -/
namespace Go.Proofs.Ytljcfokiocbgoaa
set_option linter.unusedVariables false
set_option linter.unusedSimpArgs false
open Go.RowKit

theorem Try.infoU8 : (Try.prog.info? 5).map (fun i => (i.zero, i.size, i.bytes)) = some (some (.int .u8 0), 1, 1) := by kernel_rfl

def u8s (bs : List Nat) : List Value := bs.map fun (b : Nat) => Value.int .u8 (b : Int)

/-- The slice v of bytes holds bs, in a row from block number 'base' on that the call itself has made. -/
def OwB (w : World) (base : Nat) (v : Value) (bs : List Nat) : Prop := w.ownsRow base 5 1 v bs.length (u8s bs)

theorem OwB.shape {w : World} {base : Nat} {v : Value} {bs : List Nat} (h : OwB w base v bs) (hl : bs.length ≤ 4194304) (hx : ∀ x ∈ bs, x < 256) :
    ∃ a c, v = .slice a bs.length c ∧ RdB w a bs ∧ bs.length ≤ c ∧ c ≤ maxLen := by
  obtain ⟨h1, ⟨rfl, h2⟩ | ⟨g, cap, cur, rfl, hg, hh, hc1, hc2, hsz, hcur⟩⟩ := h
  · have e := List.eq_nil_of_length_eq_zero h2
    subst e
    exact ⟨none, 0, rfl, ⟨hl, hx, .inl rfl⟩, Nat.le_refl _, Nat.zero_le _⟩
  · refine ⟨some ⟨g, 0, none⟩, cap, rfl, ⟨hl, hx, .inr ⟨g, 0, rfl, fun i hi => ?_⟩⟩, hc1, hc2⟩
    rw [Nat.zero_add, cell_of_row w g i cur _ _ hh]
    have h3 : (cur.toList.take (bs.length * 1))[i]? = (u8s bs)[i]? := by rw [hcur]
    rw [List.getElem?_take, if_pos (by omega)] at h3
    simp only [Array.getElem?_toList] at h3
    rw [h3]
    simp [u8s, List.getD, hi]

theorem OwB.nil (w : World) (base g : Nat) (hg : g = w.heap.size) (h : base ≤ g) : OwB (w.alloc (.cells #[] 5)) base (.slice (some ⟨g, 0, none⟩) 0 0) [] := by
  subst hg
  exact World.ownsRow_made w #[] 0 h (Nat.zero_le _) (by simp)

theorem OwB.alloc {w : World} {base : Nat} {v : Value} {bs : List Nat} (h : OwB w base v bs) (o : Obj) : OwB (w.alloc o) base v bs := World.ownsRow.alloc h o

theorem OwB.kept {w w' : World} {base : Nat} {v : Value} {bs : List Nat} (h : OwB w base v bs) (hb : Below w.heap.size w w') : OwB w' base v bs := by
  obtain ⟨h1, h2⟩ := h
  refine ⟨h1, ?_⟩
  rcases h2 with h2 | ⟨g, cap, cur, rfl, hg, hh, r⟩
  · exact .inl h2
  · exact .inr ⟨g, cap, cur, rfl, hg, by rw [hb.block g (lt_of_block hh)]; exact hh, r⟩

theorem OwB.own {w : World} {base : Nat} {v : Value} {bs : List Nat} (h : OwB w base v bs) : ∀ k, v.ownBlock = some k → base ≤ k := fun k hk => (World.ownsRow.lt h k hk).1

/-- 'append(out, y)', out the call's own. -/
theorem wpList_appB (w : World) {ops : Array Oper} {rest : List Oper} {o : Oper} {a : Act} {Q : Exit → Act → World → Prop} (hgd : o.guard = none) (s x : Operand)
    (ho : o.op = .call { callee := .builtin .append, args := #[s, x], argTypes := #[93, 93] })
    (base : Nat) (v : Value) (bs : List Nat) (y : Nat) (hs : a.eval s = v) (hown : OwB w base v bs) (g : Nat) (hx : a.eval x = .slice (some ⟨g, 0, none⟩) 1 1)
    (hnew : w.cell? ⟨g, 0, none⟩ = some (.int .u8 (y : Int))) (hl : bs.length ≤ 4194304) (hbase : base ≤ w.heap.size)
    (h : ∀ v' w', OwB w' base v' (bs ++ [y]) → w.grownBy w' v.ownBlock → wpList Try.prog ops Q rest (a.put o.dst v') w') : wpList Try.prog ops Q (o :: rest) a w := by
  obtain ⟨i0, hi, hz0, hz1, hz2⟩ := info_parts Try.infoU8
  refine wpList_append_own w hgd s x 93 ho base 5 i0 (.int .u8 0) 1 1 Try.underlying93 hi hz0 hz1 hz2 rfl (by decide) v bs.length (u8s bs) hs hown ⟨g, 0, none⟩ 1 1 [.int .u8 (y : Int)] hx rfl ?_ ?_ ?_ ?_ hbase ?_
  · intro j u hj
    match j, hj with
    | 0, hj => simp at hj; subst hj; simpa [Addr.add] using hnew
  · intro u hu; simp at hu; subst hu; rfl
  · unfold maxLen; omega
  · omega
  · intro v' w' h1 h2 _
    refine h v' w' ?_ h2
    unfold OwB
    simpa [u8s] using h1

def bitsTo (xs : List Nat) (k : Nat) : List Nat := (List.range k).map fun i => (tb xs i).toNat
theorem bitsTo_len (xs : List Nat) (k : Nat) : (bitsTo xs k).length = k := by simp [bitsTo]
theorem bitsTo_succ (xs : List Nat) (k : Nat) : bitsTo xs (k + 1) = bitsTo xs k ++ [(tb xs k).toNat] := by simp [bitsTo, List.range_succ]
theorem bitsTo_le (xs : List Nat) (k : Nat) : ∀ x ∈ bitsTo xs k, x ≤ 1 := by
  intro x hx
  obtain ⟨i, _, rfl⟩ := List.mem_map.1 hx
  cases tb xs i <;> decide


end Go.Proofs.Ytljcfokiocbgoaa
