/- Several texts in one. -/
import Derived.Test.YthoiajpbpoglfaaZKAB
import Derived.Laws.ShiftsVar
import Derived.Laws.ShiftsVarLaws

/- Contracts of the program's own small functions on words: zeroBits, clearAbove. -/
namespace Go.Proofs.Ythoiajpbpoglfaa
set_option linter.unusedVariables false
set_option linter.unusedSimpArgs false
open Go.RowKit

theorem grown_set {w wr : World} {g : Nat} (h : w.grownBy wr (some g)) (i : Nat) (v : Value) : w.grownBy (wr.setCell ⟨g, i, none⟩ v) (some g) :=
  ⟨h.os, h.tape, h.output, by simpa using h.size, fun k hk hne => by rw [heap_setCell_other _ _ _ _ (fun e => hne (by rw [e]))]; exact h.block k hk hne⟩
theorem zeroBits_any (V : Nat) (w : World) (h1 : 1 ≤ V) (h2 : V ≤ 4096) :
    Calls Try.prog 87 #[.int .i64 V] w fun e w' => ∃ g, e = .returned (.agg #[.int .i64 V, .slice (some ⟨g, 0, none⟩) ((V + 63) / 64) ((V + 63) / 64)]) ∧ w.heap.size ≤ g ∧ Own w' g (List.replicate ((V + 63) / 64) 0) ∧ Below w.heap.size w w' := by
  have hmk := fun kl kc w => run_make_row' (P := Try.prog) 46 88 (.int .u64 0) 8 Try.underlying46 Try.infoU64 rfl kl kc ((V + 63) / 64) (by omega) (by omega) w
  have ec : (((V + 63) / 64 : Nat) : Int) = ((V : Int) + 63) / 64 := by omega
  simp only [ec] at hmk
  clear ec
  go_enter Try.func87, Try.ntmps87
  go_wp2_with (go_at_call 78; refine (wordsFor_any _ (by omega) (by omega) _).mono ?_; rintro e w' ⟨rfl, rfl⟩)
  refine bodyPost_ret (v := .agg #[.int .i64 V, .slice (some ⟨w.heap.size + 1, 0, none⟩) ((V + 63) / 64) ((V + 63) / 64)]) (by simp [results, Try.results87, go_sem]) rfl ⟨_, rfl, by omega, ?_, ((Below.refl _ _).alloc (Nat.le_refl _) _).alloc (by simp) _⟩
  unfold Own
  rw [← u64s_made]
  exact heap_alloc2_new _ _ _

theorem Own.alloc {w : World} {g : Nat} {xs : List Nat} (h : Own w g xs) (o : Obj) : Own (w.alloc o) g xs := h.later ((Below.refl _ _).alloc (Nat.le_refl _) _) h.lt

/-- The last word without its bits from the width on. -/
def clr (V : Nat) (ys : List Nat) : List Nat := ys.set (ys.length - 1) (ys.getD (ys.length - 1) 0 &&& 18446744073709551615 / 2 ^ (64 * ys.length - V))

theorem clr_len (V : Nat) (ys : List Nat) : (clr V ys).length = ys.length := by simp [clr]
theorem clr_lt (V : Nat) (ys : List Nat) (h : ∀ x ∈ ys, x < 18446744073709551616) : ∀ x ∈ clr V ys, x < 18446744073709551616 := by
  intro x hx
  rcases List.mem_or_eq_of_mem_set hx with h' | h'
  · exact h x h'
  · rw [h']; exact Nat.lt_of_le_of_lt Nat.and_le_left (getD_lt h _)

theorem tb_clr (V : Nat) (ys : List Nat) (h0 : 64 * (ys.length - 1) < V) (h1 : V ≤ 64 * ys.length) (hp : 0 < ys.length) (i : Nat) (hi : i < 64 * ys.length) : tb (clr V ys) i = (decide (i < V) && tb ys i) := by
  rw [clr, tb_set _ _ _ _ (by omega)]
  by_cases h : i / 64 = ys.length - 1
  · rw [if_pos h, Nat.testBit_and, Nat.testBit_div_two_pow, show (18446744073709551615 : Nat) = 2 ^ 64 - 1 by decide, Nat.testBit_two_pow_sub_one]
    unfold tb
    rw [h, Bool.and_comm]
    congr 1
    simp only [decide_eq_decide]
    omega
  · rw [if_neg h]
    have : i < V := by omega
    simp [this]

theorem andMask (y s : Nat) (hy : y < 18446744073709551616) : bits BinOp.and IntKind.u64 (y : Int) (18446744073709551615 / 2 ^ s) = ((y &&& 18446744073709551615 / 2 ^ s : Nat) : Int) := by
  have e : ((18446744073709551615 : Int) / 2 ^ s) = ((18446744073709551615 / 2 ^ s : Nat) : Int) := by simp
  rw [e, bits_and_u64_nat _ _ hy (Nat.lt_of_le_of_lt (Nat.div_le_self _ _) (by decide))]


end Go.Proofs.Ythoiajpbpoglfaa

/- What the program's PartOf answers: what the given one does. -/
namespace Go.Proofs.Ythoiajpbpoglfaa
set_option linter.unusedVariables false
set_option linter.unusedSimpArgs false
open Go.RowKit

def partWord (xs : List Nat) (f s k : Nat) : Nat := xs.getD (f + k) 0 / 2 ^ s ||| xs.getD (f + k + 1) 0 * 2 ^ (64 - s) % 18446744073709551616
def partTo (xs : List Nat) (f s N k : Nat) : List Nat := (List.range k).map (partWord xs f s) ++ List.replicate (N - k) 0

theorem partTo_len (xs : List Nat) (f s N k : Nat) (h : k ≤ N) : (partTo xs f s N k).length = N := by simp [partTo]; omega
theorem partTo_set (xs : List Nat) (f s N k : Nat) (h : k < N) : (partTo xs f s N k).set k (partWord xs f s k) = partTo xs f s N (k + 1) := by
  unfold partTo
  rw [List.set_append_right _ _ (by simp)]
  simp only [List.length_map, List.length_range, Nat.sub_self]
  obtain ⟨m, hm⟩ : ∃ m, N - k = m + 1 := ⟨N - k - 1, by omega⟩
  rw [hm, List.replicate_succ, List.set_cons_zero, show N - (k + 1) = m by omega]
  simp [List.range_succ]

theorem partWord_lt (xs : List Nat) (hx : ∀ x ∈ xs, x < 18446744073709551616) (f s k : Nat) : partWord xs f s k < 18446744073709551616 :=
  Nat.or_lt_two_pow (n := 64) (Nat.lt_of_le_of_lt (Nat.div_le_self _ _) (getD_lt hx _)) (Nat.mod_lt _ (by decide))

theorem tb_part (xs : List Nat) (hx : ∀ x ∈ xs, x < 18446744073709551616) (f s N i : Nat) (hs : s < 64) (hi : i < 64 * N) : tb (partTo xs f s N N) i = tb xs (64 * f + s + i) := by
  have hk : i / 64 < N := by omega
  have e : (partTo xs f s N N).getD (i / 64) 0 = partWord xs f s (i / 64) := by
    simp [partTo, List.getD, hk]
  have h1 := getD_lt hx (f + i / 64)
  unfold tb
  rw [e, partWord, Nat.testBit_or, Nat.testBit_div_two_pow, show (18446744073709551616 : Nat) = 2 ^ 64 by decide, Nat.testBit_mod_two_pow, Nat.testBit_mul_two_pow]
  by_cases h : i % 64 + s < 64
  · rw [show (64 * f + s + i) / 64 = f + i / 64 by omega, show (64 * f + s + i) % 64 = i % 64 + s by omega]
    simp [show ¬ (64 - s ≤ i % 64) by omega]
  · rw [show (64 * f + s + i) / 64 = f + i / 64 + 1 by omega, show (64 * f + s + i) % 64 = i % 64 - (64 - s) by omega]
    have p : 2 ^ 64 ≤ 2 ^ (i % 64 + s) := Nat.pow_le_pow_right (by omega) (by omega)
    rw [Nat.testBit_lt_two_pow (Nat.lt_of_lt_of_le h1 p)]
    simp [show 64 - s ≤ i % 64 by omega, show i % 64 < 64 by omega]

theorem part_pack (xs : List Nat) (hx : ∀ x ∈ xs, x < 18446744073709551616) (V p q : Nat) (h1 : p ≤ q) (h2 : q < V) (N : Nat) (hN : N = (q - p + 1 + 63) / 64) :
    clr (q - p + 1) (partTo xs (p / 64) (p % 64) N N) = pack (((bitsTo xs V).drop p).take (q - p + 1)) := by
  have hl : (partTo xs (p / 64) (p % 64) N N).length = N := partTo_len _ _ _ _ _ (Nat.le_refl _)
  have hw : ∀ x ∈ partTo xs (p / 64) (p % 64) N N, x < 18446744073709551616 := by
    intro x hm
    simp [partTo] at hm
    obtain ⟨k, _, rfl⟩ := hm
    exact partWord_lt xs hx _ _ _
  refine eq_pack (fun x hm => bitsTo_le xs V x (List.mem_of_mem_drop (List.mem_of_mem_take hm))) ?_ (clr_lt _ _ hw) ?_
  · rw [clr_len, hl]; simp [bitsTo_len]; omega
  · intro i hi
    rw [clr_len, hl] at hi
    rw [tb_clr _ _ (by rw [hl]; omega) (by rw [hl]; omega) (by rw [hl]; omega) i (by rw [hl]; exact hi), tb_part xs hx _ _ _ _ (by omega) hi, show 64 * (p / 64) + p % 64 + i = p + i by omega]
    by_cases h : i < q - p + 1
    · have hv : p + i < V := by omega
      simp [h, List.getD, bitsTo, hv]
    · have e : (List.take (q - p + 1) (List.drop p (bitsTo xs V))).getD i 0 = 0 := by
        simp only [List.getD]
        rw [List.getElem?_eq_none (by simp [bitsTo_len]; omega)]
        rfl
      rw [e]
      simp [h]

theorem acell (w : World) (x : Obj) {b : Nat} (i : Nat) (h : b < w.heap.size) : (w.alloc x).cell? ⟨b, i, none⟩ = w.cell? ⟨b, i, none⟩ := World.cell?_of_block (w := w) (Below.heap_alloc _ _ _ h)
theorem afree (w : World) (x : Obj) {b : Nat} (i : Nat) (h : b < w.heap.size) : (w.alloc x).frozen? ⟨b, i, none⟩ = w.frozen? ⟨b, i, none⟩ := World.frozen?_of_block (w := w) (Below.heap_alloc _ _ _ h)
theorem gcell {W wr : World} {g : Nat} (h : W.grownBy wr (some g)) {b : Nat} (o : Nat) (hb : b < W.heap.size) (hne : b ≠ g) : wr.cell? ⟨b, o, none⟩ = W.cell? ⟨b, o, none⟩ :=
  World.cell?_of_block (w := W) (h.block b hb (by simpa using hne))
theorem gfree {W wr : World} {g : Nat} (h : W.grownBy wr (some g)) {b : Nat} (o : Nat) (hb : b < W.heap.size) (hne : b ≠ g) : wr.frozen? ⟨b, o, none⟩ = W.frozen? ⟨b, o, none⟩ :=
  World.frozen?_of_block (w := W) (h.block b hb (by simpa using hne))

theorem castDiv (x s : Nat) : ((x : Int) / 2 ^ s) = ((x / 2 ^ s : Nat) : Int) := by simp

theorem grown_drew {w wr : World} {r : Option Nat} (h : w.grownBy wr r) : w.grownBy wr.drew r := ⟨h.os, h.tape, h.output, h.size, h.block⟩

/-- A word stored, and stored again with a second one beside it. -/
theorem Own.twice {w : World} {g k X1 X2 s t : Nat} {ys : List Nat} (h : Own w g ys) (h1 : X1 < 18446744073709551616) :
    Own ((w.setCell ⟨g, k, none⟩ (.int .u64 ((X1 : Int) / 2 ^ s))).setCell ⟨g, k, none⟩ (.int .u64 (bits BinOp.or IntKind.u64 ((X1 : Int) / 2 ^ s) (IntKind.u64.wrap ((X2 : Int) * 2 ^ t))))) g (ys.set k (X1 / 2 ^ s ||| X2 * 2 ^ t % 18446744073709551616)) := by
  rw [castDiv, orShift _ _ _ (Nat.lt_of_le_of_lt (Nat.div_le_self _ _) h1)]
  have := (h.put k (X1 / 2 ^ s)).put k (X1 / 2 ^ s ||| X2 * 2 ^ t % 18446744073709551616)
  rwa [List.set_set] at this

theorem Own.once {w : World} {g k X1 s : Nat} {ys : List Nat} (h : Own w g ys) : Own (w.setCell ⟨g, k, none⟩ (.int .u64 ((X1 : Int) / 2 ^ s))) g (ys.set k (X1 / 2 ^ s)) := by
  rw [castDiv]; exact h.put k _

theorem shlOr (z y s : Nat) (hz : z < 18446744073709551616) : bits BinOp.or IntKind.u64 (z : Int) (IntKind.u64.wrap ((y : Int) * 2 ^ s)) = ((z ||| y * 2 ^ s % 18446744073709551616 : Nat) : Int) := orShift z y s hz


end Go.Proofs.Ythoiajpbpoglfaa

/- The word of a list of bits fills its block. -/
namespace Go.Proofs.Ythoiajpbpoglfaa
set_option linter.unusedVariables false
set_option linter.unusedSimpArgs false
open Go.RowKit

theorem l1From_cap (a : Option Addr) (c : Nat) (bs : List Nat) (w : World) (hr : RdB w a bs) (h1 : 1 ≤ bs.length) (h2 : bs.length ≤ 4096) :
    Calls Try.prog 56 #[.slice a bs.length c] w (fun e w' => ∃ a, e = .returned (.tuple #[.agg #[.int .i64 (bs.length : Int), .slice a (pack bs).length (pack bs).length], .bool true]) ∧ Fresh w' w.heap.size a (pack bs) ∧ Below w.heap.size w w') := by
  have hd : ((bs.length + 63) / 64 : Nat) ≤ 64 := by omega
  have hmk := fun kl kc w => run_make_row' (P := Try.prog) 46 88 (.int .u64 0) 8 Try.underlying46 Try.infoU64 rfl kl kc ((bs.length + 63) / 64) (by omega) (by omega) w
  have ec : (((bs.length + 63) / 64 : Nat) : Int) = ((bs.length : Int) + 63) / 64 := by omega
  simp only [ec] at hmk
  clear ec
  go_enter Try.func56, Try.ntmps56
  go_wp2
  clear hmk
  generalize hN : (bs.length + 63) / 64 = N at *
  have HN : Hid ((bs.length + 63) / 64 = N) := hN
  clear hN
  go_loopw [5] (fun i wr => ∃ k : Nat, k ≤ bs.length ∧ i = .int .i64 k ∧ Own wr (w.heap.size + 1) (packTo bs k) ∧
      wr.heap[w.heap.size]? = some (.cells #[Value.int IntKind.i64 0, Value.slice none 0 0] 48 (0, 0)) ∧
      wr.heap[w.heap.size + 1 + 1]? = some (.cells #[Value.int IntKind.i64 bs.length, Value.slice (some { block := w.heap.size + 1, off := 0 }) N N] 48 (0, 0)) ∧ Below w.heap.size w wr) (fun i _ => bs.length - (intOf i).toNat)
  case atStart =>
    refine ⟨0, Nat.zero_le _, rfl, ?_, ?_, ?_, (((Below.refl _ _).alloc (Nat.le_refl _) _).alloc (by simp) _).alloc (by simp; omega) _⟩
    · unfold Own
      rw [heap_alloc_old _ _ (by simp), show w.heap.size + 1 = (w.alloc (Obj.cells #[Value.int IntKind.i64 0, Value.slice none 0 0] 48)).heap.size by simp, heap_alloc_new, u64s_made, packTo, HN.out]
    · rw [heap_alloc_old _ _ (by simp; omega), heap_alloc_old _ _ (by simp), heap_alloc_new]
    · rw [show w.heap.size + 1 + 1 = ((w.alloc (Obj.cells #[Value.int IntKind.i64 0, Value.slice none 0 0] 48)).alloc (Obj.cells (madeCells #[Value.int IntKind.u64 0] N) 88)).heap.size by simp, heap_alloc_new]
  case round =>
    obtain ⟨k, hk, rfl, hown, hres, hbox, hbel⟩ := hrel
    have hplen := packTo_len bs k
    rw [HN.out] at hplen
    have b1 : wr.cell? ⟨w.heap.size + 1 + 1, 1, none⟩ = some (Value.slice (some { block := w.heap.size + 1, off := 0 }) N N) := cell_of_row wr _ 1 _ _ _ hbox
    have b0 : wr.cell? ⟨w.heap.size + 1 + 1, 0, none⟩ = some (Value.int IntKind.i64 bs.length) := cell_of_row wr _ 0 _ _ _ hbox
    by_cases hlt : k < bs.length
    · obtain ⟨-, hby, h | ⟨b, o, rfl, hc⟩⟩ := hr
      · subst h; simp at hlt
      have hcell := hc k hlt
      have hb : b < w.heap.size := block_lt_of_cell hcell
      have hcw : wr.cell? ⟨b, o + k, none⟩ = some (.int .u8 ((bs.getD k 0 : Nat) : Int)) := by rw [hbel.cell (by exact hb)]; exact hcell
      have hkN : k / 64 < N := by have := HN.out; omega
      have hkNi : (k : Int) / 64 < (N : Int) := by omega
      have hki : (k : Int) < (bs.length : Int) := by omega
      have hcg := hown.cell (i := k / 64) (by omega)
      have hfg := hown.free (k / 64)
      have hb8 : bs.getD k 0 < 256 := by
        have e : bs.getD k 0 = bs[k] := by simp [List.getD, hlt]
        rw [e]; exact hby _ (List.getElem_mem _)
      generalize hz : (packTo bs k).getD (k / 64) 0 = z at hcg
      generalize hy : bs.getD k 0 = y at *
      clear hc hcell hby
      have hz64 : z < 18446744073709551616 := by
        rw [← hz]
        simp only [List.getD]
        cases hg : (packTo bs k)[k / 64]? with
        | none => simp
        | some v => exact packTo_lt bs k v (List.mem_of_getElem? hg)
      have HO : Hid (Own (wr.setCell ⟨w.heap.size + 1, k / 64, none⟩ (.int .u64 (bits BinOp.or IntKind.u64 (z : Int) (IntKind.u64.wrap ((y : Int) * 2 ^ (k % 64)))))) (w.heap.size + 1) (packTo bs (k + 1))) := by
        have h := hown.put (k / 64) (z ||| y * 2 ^ (k % 64) % 18446744073709551616)
        rw [← orShift z y _ hz64] at h
        show Own _ _ _
        rw [packTo, hz, hy]
        exact h
      clear hz hy hz64
      go_wp2
      go_region
      go_wp2
      go_roundw
      case rel =>
        refine ⟨k + 1, by omega, by go_num, HO.out, ?_, ?_, ?_⟩
        · show (World.setCell _ _ _).heap[_]? = _
          rw [heap_setCell_other _ _ _ _ (by simp)]; exact hres
        · show (World.setCell _ _ _).heap[_]? = _
          rw [heap_setCell_other _ _ _ _ (by simp)]; exact hbox
        · exact (hbel.setCell (by simp) _).drew
      case measure => simp [intOf]; omega
    · have e : k = bs.length := by omega
      have c0 : wr.cell? ⟨w.heap.size, 0, none⟩ = some (Value.int IntKind.i64 0) := cell_of_row wr _ 0 _ _ _ hres
      have c1 : wr.cell? ⟨w.heap.size, 1, none⟩ = some (Value.slice none 0 0) := cell_of_row wr _ 1 _ _ _ hres
      have f0 : wr.frozen? ⟨w.heap.size, 0, none⟩ = false := frozen_of_row wr _ 0 _ _ hres
      have f1 : wr.frozen? ⟨w.heap.size, 1, none⟩ = false := frozen_of_row wr _ 1 _ _ hres
      have HO : Hid (Own wr (w.heap.size + 1) (pack bs)) := by rw [e] at hown; exact hown
      have HP : Hid ((pack bs).length = N) := by rw [e] at hplen; exact hplen
      clear hown hplen hres hbox e
      go_wp2
      refine bodyPost_ret (v := .tuple #[.agg #[.int .i64 bs.length, .slice (some ⟨w.heap.size + 1, 0, none⟩) N N], .bool true]) (by simp [results, Try.results56, go_sem, c0, c1]) rfl ?_
      refine ⟨some ⟨w.heap.size + 1, 0, none⟩, by rw [HP.out], .inr ⟨_, rfl, Nat.le_succ _, (HO.out.other (by simp) _).other (by simp) _⟩, (hbel.setCell (Nat.le_refl _) _).setCell (Nat.le_refl _) _⟩

end Go.Proofs.Ythoiajpbpoglfaa
