/- What math/bits.OnesCount64 answers: how many bits of a word are 1. -/
import Derived.Test.YtobkemdffhhlfaaU
namespace Go.Proofs.Ytobkemdffhhlfaa
set_option linter.unusedVariables false
set_option linter.unusedSimpArgs false
open Go.RowKit

/-- f 0 + .. + f (k - 1). -/
def cnt (f : Nat → Nat) : Nat → Nat
  | 0 => 0
  | k + 1 => cnt f k + f k

theorem cnt_add (f : Nat → Nat) (m k : Nat) : cnt f (m + k) = cnt f m + cnt (fun i => f (m + i)) k := by
  induction k with
  | zero => simp [cnt]
  | succ k ih => rw [← Nat.add_assoc, cnt, ih, cnt]; omega
theorem cnt_congr (f g : Nat → Nat) (k : Nat) (h : ∀ i, i < k → f i = g i) : cnt f k = cnt g k := by
  induction k with
  | zero => rfl
  | succ k ih => rw [cnt, cnt, ih (fun i hi => h i (by omega)), h k (by omega)]
theorem cnt_le (f : Nat → Nat) (k : Nat) (h : ∀ i, f i ≤ 1) : cnt f k ≤ k := by
  induction k with
  | zero => simp [cnt]
  | succ k ih => rw [cnt]; have := h k; omega

/-- How many of the lowest k bits of x are 1. -/
def pcnt (x k : Nat) : Nat := cnt (fun i => (x.testBit i).toNat) k

theorem bit_split (a b i : Nat) (ha : a < 256) : (a + 256 * b).testBit i = if i < 8 then a.testBit i else b.testBit (i - 8) := by
  rw [Nat.add_comm]
  exact Nat.testBit_two_pow_mul_add b (i := 8) ha i

theorem and_split (a b m n : Nat) (ha : a < 256) (hm : m < 256) : (a + 256 * b) &&& (m + 256 * n) = (a &&& m) + 256 * (b &&& n) := by
  refine Nat.eq_of_testBit_eq fun i => ?_
  rw [Nat.testBit_and, bit_split a b i ha, bit_split m n i hm, bit_split _ _ i (Nat.lt_of_le_of_lt Nat.and_le_left ha)]
  split
  · rw [Nat.testBit_and]
  · rw [Nat.testBit_and]

theorem pcnt_split (a b k : Nat) (ha : a < 256) : pcnt (a + 256 * b) (8 + k) = pcnt a 8 + pcnt b k := by
  unfold pcnt
  rw [cnt_add]
  congr 1
  · exact cnt_congr _ _ _ fun i hi => by rw [bit_split a b i ha, if_pos hi]
  · exact cnt_congr _ _ _ fun i _ => by rw [bit_split a b _ ha, if_neg (by omega), show 8 + i - 8 = i by omega]

def val8 : List Nat → Nat
  | [] => 0
  | b :: bs => b + 256 * val8 bs

def s1 (b : Nat) : Nat := (b / 2 &&& 85) + (b &&& 85)
def s2 (b : Nat) : Nat := (b / 4 &&& 51) + (b &&& 51)
def s3 (b : Nat) : Nat := (b + b / 16) &&& 15

theorem s1_low : ∀ (b : Fin 256) (e : Fin 2), (b.val / 2 + 128 * e.val) &&& 85 = b.val / 2 &&& 85 := by decide +kernel
theorem s2_low : ∀ (b : Fin 256) (e : Fin 4), (b.val / 4 + 64 * e.val) &&& 51 = b.val / 4 &&& 51 := by decide +kernel
theorem s3_low : ∀ (b : Fin 69) (e : Fin 5), (b.val + b.val / 16 + 16 * e.val) &&& 15 = (b.val + b.val / 16) &&& 15 := by decide +kernel
theorem s1_lt : ∀ b : Fin 256, s1 b.val < 256 := by decide +kernel
theorem s2_ok : ∀ b : Fin 256, s2 (s1 b.val) < 69 ∧ s2 (s1 b.val) % 16 ≤ 4 := by decide +kernel
theorem s3_ok : ∀ b : Fin 256, s3 (s2 (s1 b.val)) = pcnt b.val 8 ∧ s3 (s2 (s1 b.val)) ≤ 8 := by decide +kernel

theorem step1 (bs : List Nat) (h : ∀ b ∈ bs, b < 256) : (val8 bs / 2 &&& val8 (bs.map fun _ => 85)) + (val8 bs &&& val8 (bs.map fun _ => 85)) = val8 (bs.map s1) := by
  induction bs with
  | nil => rfl
  | cons b bs ih =>
    have hb := h b (by simp)
    have ih' := ih fun x hx => h x (by simp [hx])
    simp only [val8, List.map_cons]
    generalize val8 (bs.map fun _ => 85) = M at *
    generalize val8 bs = B at *
    rw [show (b + 256 * B) / 2 = (b / 2 + 128 * (B % 2)) + 256 * (B / 2) by omega, and_split _ _ _ _ (by omega) (by omega), and_split _ _ _ _ hb (by omega), s1_low ⟨b, hb⟩ ⟨B % 2, by omega⟩, ← ih']
    simp only [s1]
    omega

theorem step2 (bs : List Nat) (h : ∀ b ∈ bs, b < 256) : (val8 bs / 4 &&& val8 (bs.map fun _ => 51)) + (val8 bs &&& val8 (bs.map fun _ => 51)) = val8 (bs.map s2) := by
  induction bs with
  | nil => rfl
  | cons b bs ih =>
    have hb := h b (by simp)
    have ih' := ih fun x hx => h x (by simp [hx])
    simp only [val8, List.map_cons]
    generalize val8 (bs.map fun _ => 51) = M at *
    generalize val8 bs = B at *
    rw [show (b + 256 * B) / 4 = (b / 4 + 64 * (B % 4)) + 256 * (B / 4) by omega, and_split _ _ _ _ (by omega) (by omega), and_split _ _ _ _ hb (by omega), s2_low ⟨b, hb⟩ ⟨B % 4, by omega⟩, ← ih']
    simp only [s2]
    omega

theorem low4 (bs : List Nat) (h : ∀ b ∈ bs, b < 69 ∧ b % 16 ≤ 4) : val8 bs % 16 ≤ 4 := by
  cases bs with
  | nil => simp [val8]
  | cons b bs => have := (h b (by simp)).2; simp only [val8]; omega

theorem step3 (bs : List Nat) (h : ∀ b ∈ bs, b < 69 ∧ b % 16 ≤ 4) : (val8 bs / 16 + val8 bs) &&& val8 (bs.map fun _ => 15) = val8 (bs.map s3) := by
  induction bs with
  | nil => rfl
  | cons b bs ih =>
    have hb := h b (by simp)
    have h' : ∀ b ∈ bs, b < 69 ∧ b % 16 ≤ 4 := fun x hx => h x (by simp [hx])
    have ih' := ih h'
    have hl := low4 bs h'
    simp only [val8, List.map_cons]
    generalize val8 (bs.map fun _ => 15) = M at *
    generalize val8 bs = B at *
    rw [show (b + 256 * B) / 16 + (b + 256 * B) = (b + b / 16 + 16 * (B % 16)) + 256 * (B / 16 + B) by omega, and_split _ _ _ _ (by omega) (by omega), s3_low ⟨b, hb.1⟩ ⟨B % 16, by omega⟩, ih']
    simp only [s3]

def bytesOf (x : Nat) : List Nat := [x % 256, x / 256 % 256, x / 65536 % 256, x / 16777216 % 256, x / 4294967296 % 256, x / 1099511627776 % 256, x / 281474976710656 % 256, x / 72057594037927936]
theorem bytesOf_val (x : Nat) : val8 (bytesOf x) = x := by simp only [bytesOf, val8]; omega
theorem bytesOf_lt (x : Nat) (h : x < 18446744073709551616) : ∀ b ∈ bytesOf x, b < 256 := by
  intro b hb
  simp only [bytesOf, List.mem_cons, List.not_mem_nil, or_false] at hb
  omega

theorem pop_list (bs : List Nat) (h : ∀ b ∈ bs, b < 256) : pcnt (val8 bs) (8 * bs.length) = ((bs.map fun b => s3 (s2 (s1 b)))).sum := by
  induction bs with
  | nil => rfl
  | cons b bs ih =>
    have hb := h b (by simp)
    rw [val8, List.length_cons, show 8 * (bs.length + 1) = 8 + 8 * bs.length by omega, pcnt_split _ _ _ hb, ih fun x hx => h x (by simp [hx])]
    simp only [List.map_cons, List.sum_cons]
    rw [(s3_ok ⟨b, hb⟩).1]

/-- The reckoning of OnesCount64, without a wrap. -/
def popN (x : Nat) : Nat :=
  let y1 := (x / 2 &&& 6148914691236517205) + (x &&& 6148914691236517205)
  let y2 := (y1 / 4 &&& 3689348814741910323) + (y1 &&& 3689348814741910323)
  let y3 := (y2 / 16 + y2) &&& 1085102592571150095
  let y4 := y3 + y3 / 256
  let y5 := y4 + y4 / 65536
  let y6 := y5 + y5 / 4294967296
  y6 % 128

theorem d8 (a b : Nat) (ha : a < 256) : (a + 256 * b) / 256 = b := by omega
theorem d16 (a b c : Nat) (ha : a < 256) (hb : b < 256) : (a + 256 * (b + 256 * c)) / 65536 = c := by omega
theorem d32 (a b c d e : Nat) (ha : a < 256) (hb : b < 256) (hc : c < 256) (hd : d < 256) : (a + 256 * (b + 256 * (c + 256 * (d + 256 * e)))) / 4294967296 = e := by omega

theorem fold8 (t0 t1 t2 t3 t4 t5 t6 t7 Y1 Y2 Y3 Y4 Y5 Y6 Y7 y : Nat) (h0 : t0 ≤ 8) (h1 : t1 ≤ 8) (h2 : t2 ≤ 8) (h3 : t3 ≤ 8) (h4 : t4 ≤ 8) (h5 : t5 ≤ 8) (h6 : t6 ≤ 8) (h7 : t7 ≤ 8)
    (hy : y = t0 + 256 * Y1) (e1 : Y1 = t1 + 256 * Y2) (e2 : Y2 = t2 + 256 * Y3) (e3 : Y3 = t3 + 256 * Y4) (e4 : Y4 = t4 + 256 * Y5) (e5 : Y5 = t5 + 256 * Y6) (e6 : Y6 = t6 + 256 * Y7) (e7 : Y7 = t7 + 256 * 0) :
    (y + y / 256 + (y + y / 256) / 65536 + (y + y / 256 + (y + y / 256) / 65536) / 4294967296) % 128 = t0 + (t1 + (t2 + (t3 + (t4 + (t5 + (t6 + (t7 + 0))))))) := by
  have b1 : t0 < 256 := by omega
  have b2 : t0 + t1 < 256 := by omega
  have b3 : t1 + t2 < 256 := by omega
  have b4 : t0 + t1 + t2 + t3 < 256 := by omega
  have b5 : t1 + t2 + t3 + t4 < 256 := by omega
  have b6 : t2 + t3 + t4 + t5 < 256 := by omega
  have b7 : t3 + t4 + t5 + t6 < 256 := by omega
  have b8 : t0 + (t1 + (t2 + (t3 + (t4 + (t5 + (t6 + (t7 + 0))))))) < 128 := by omega
  have a2 : y + Y1 = (t0 + t1) + 256 * ((t1 + t2) + 256 * (Y2 + Y3)) := by clear h0 h1 h2 h3 h4 h5 h6 h7 b1 b2 b3 b4 b5 b6 b7 b8 e4 e5 e6 e7; omega
  have a4 : y + Y1 + (Y2 + Y3) = (t0 + t1 + t2 + t3) + 256 * ((t1 + t2 + t3 + t4) + 256 * ((t2 + t3 + t4 + t5) + 256 * ((t3 + t4 + t5 + t6) + 256 * (Y4 + Y5 + Y6 + Y7)))) := by
    clear h0 h1 h2 h3 h4 h5 h6 h7 b1 b2 b3 b4 b5 b6 b7 b8 a2 e7
    have g3 : Y2 + Y3 = (t2 + t3) + 256 * (Y3 + Y4) := by omega
    have g4 : Y3 + Y4 = (t3 + t4) + 256 * (Y4 + Y5) := by omega
    have g5 : Y4 + Y5 = (t4 + t5) + 256 * (Y5 + Y6) := by omega
    have g6 : Y5 + Y6 = (t5 + t6) + 256 * (Y6 + Y7) := by omega
    have g1 : y + Y1 = (t0 + t1) + 256 * (Y1 + Y2) := by omega
    have g2 : Y1 + Y2 = (t1 + t2) + 256 * (Y2 + Y3) := by omega
    clear hy e1 e2 e3 e4 e5 e6
    omega
  have a6 : y + Y1 + (Y2 + Y3) + (Y4 + Y5 + Y6 + Y7) = (t0 + (t1 + (t2 + (t3 + (t4 + (t5 + (t6 + (t7 + 0)))))))) + 128 * (2 * (Y1 + Y2 + Y3 + Y4 + Y5 + Y6 + Y7)) := by
    clear h0 h1 h2 h3 h4 h5 h6 h7 b1 b2 b3 b4 b5 b6 b7 b8 a2 a4
    omega
  rw [show y / 256 = Y1 from hy ▸ d8 _ _ b1, show (y + Y1) / 65536 = Y2 + Y3 from a2 ▸ d16 _ _ _ b2 b3, show (y + Y1 + (Y2 + Y3)) / 4294967296 = Y4 + Y5 + Y6 + Y7 from a4 ▸ d32 _ _ _ _ _ b4 b5 b6 b7, a6, Nat.add_mul_mod_self_left, Nat.mod_eq_of_lt b8]

end Go.Proofs.Ytobkemdffhhlfaa
