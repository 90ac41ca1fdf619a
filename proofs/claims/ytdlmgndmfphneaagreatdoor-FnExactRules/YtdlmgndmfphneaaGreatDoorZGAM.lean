/- Several texts in one. -/
import Derived.Test.YtdlmgndmfphneaaGreatDoorZGAB
import Derived.Test.YtdlmgndmfphneaaGreatDoorZGAB
import Derived.Laws.ShiftsVar
import Derived.Laws.ShiftsVarLaws

/- What the given functions on words answer: PartOf, BitsOf. -/
namespace Go.Proofs.YtdlmgndmfphneaaGreatDoor
set_option linter.unusedVariables false
set_option linter.unusedSimpArgs false
open Go.RowKit

def noR : Int × List Nat × Bool := (0, [], false)

theorem RetB.no {w w' : World} (hb : Below w.heap.size w w') : RetB w noR (.returned (.tuple #[.agg #[.int .i64 0, .slice none 0 0], .bool false])) w' :=
  ⟨none, 0, rfl, .inl ⟨rfl, rfl⟩, hb⟩

theorem chain {W w1 w2 : World} (h : Below W.heap.size W w1) (k : Below w1.heap.size w1 w2) : Below W.heap.size W w2 := h.trans (k.mono h.size)

theorem Fresh.set2 {w : World} {lo lo' : Nat} {a : Option Addr} {ys : List Nat} (h : Fresh w lo a ys) {g : Nat} (hg : g < lo) (hl : lo' ≤ lo) (i j : Nat) (u v : Value) : Fresh ((w.setCell ⟨g, i, none⟩ u).setCell ⟨g, j, none⟩ v) lo' a ys := by
  rcases h with h | ⟨b, rfl, hb, ho⟩
  · exact .inl h
  · exact .inr ⟨b, rfl, by omega, (ho.other (by simp; omega) _).other (by simp; omega) _⟩

/-- How a function ends that gives back what l1From gave: the answer is stored in its own block, the flag behind it. -/
theorem RetB.close {w w2 w3 : World} {r r' : Int × List Nat × Bool} {a3 : Option Addr} {c3 g : Nat} (hfr : Fresh w3 w2.heap.size a3 r.2.1) (hg : w.heap.size ≤ g) (hg2 : g < w2.heap.size)
    (hb : Below w.heap.size w w3) (he : r = r') (u v : Value) :
    RetB w r' (.returned (.tuple #[.agg #[.int .i64 r.1, .slice a3 r.2.1.length c3], .bool r.2.2])) ((w3.setCell ⟨g, 0, none⟩ u).setCell ⟨g, 1, none⟩ v) := by
  subst he
  exact ⟨a3, c3, rfl, hfr.set2 hg2 (by omega) 0 1 u v, (hb.setCell hg _).setCell hg _⟩

def partR (W : Int) (xs : List Nat) (hi lo : Int) : Int × List Nat × Bool :=
  if rightB W xs = true ∧ 0 ≤ lo ∧ lo ≤ hi ∧ hi < W then (hi - lo + 1, pack (((bitsTo xs W.toNat).drop lo.toNat).take (hi - lo + 1).toNat), true) else noR

theorem specPart_any (W : Int) (a : Option Addr) (c : Nat) (xs : List Nat) (hi lo : Int) (w : World) (hr : Rd w a xs) (h64 : (Lit.int .i64 hi).wf = true) :
    Calls Tryz.prog 111 #[.agg #[.int .i64 W, .slice a xs.length c], .int .i64 hi, .int .i64 lo] w (RetB w (partR W xs hi lo)) := by
  have h2 : Below w.heap.size w ((w.alloc (Obj.cells #[Value.int IntKind.i64 W, Value.slice a xs.length c] 61)).alloc (Obj.cells #[Value.int IntKind.i64 0, Value.slice none 0 0] 61)) := ((Below.refl _ _).alloc (Nat.le_refl _) _).alloc (by simp) _
  have hr' := hr.later h2
  by_cases hc : rightB W xs = true ∧ 0 ≤ lo ∧ lo ≤ hi ∧ hi < W
  · rw [partR, if_pos hc]
    generalize hR : (hi - lo + 1, pack (((bitsTo xs W.toNat).drop lo.toNat).take (hi - lo + 1).toNat), true) = R
    have HR : Hid ((hi - lo + 1, pack (((bitsTo xs W.toNat).drop lo.toNat).take (hi - lo + 1).toNat), true) = R) := hR
    clear hR
    obtain ⟨hok, h0, h1, h3⟩ := hc
    go_enter Tryz.func111, Tryz.ntmps111
    go_wp2_with fail
    refine (specOk_any _ _ _ _ _ hr').mono ?_
    rintro e w1 ⟨rfl, hb1⟩
    have hr1 := hr'.later hb1
    obtain ⟨hcc, hff⟩ := bcell hb1
    have hz : w.heap.size + 1 < w1.heap.size := by have := hb1.size; simp at this; omega
    obtain ⟨hW1, hW2, hWl⟩ := right_W hok
    obtain ⟨V, rfl⟩ := Int.eq_ofNat_of_zero_le (show 0 ≤ W by omega)
    obtain ⟨p, rfl⟩ := Int.eq_ofNat_of_zero_le h0
    obtain ⟨q, rfl⟩ := Int.eq_ofNat_of_zero_le (show 0 ≤ hi by omega)
    have hVl : V ≤ 64 * xs.length := by omega
    have HWl : Hid ((xs.length : Int) = ((V : Int) + 63) / 64) := hWl
    clear hWl
    go_wp2_with fail
    refine (l1List_any _ _ _ _ _ hr1 hVl (by omega)).mono ?_
    rintro e w2 ⟨v, rfl, how, hb2⟩
    have hlen := bitsTo_len xs V
    have hle := bitsTo_le xs V
    obtain ⟨a2, c2, rfl, hrb, hc2, hm2⟩ := how.shape (by rw [bitsTo_len]; omega) (fun x hx => by have := hle x hx; omega)
    have hb3 := chain hb1 hb2
    have HB3 := hb3
    obtain ⟨hcc, hff⟩ := bcell hb3
    have hz : w.heap.size + 1 < w2.heap.size := by have := hb3.size; simp at this; omega
    rw [hlen] at hc2 ⊢
    obtain ⟨-, -, hn | ⟨bb, oo, rfl, hcell⟩⟩ := hrb
    · rw [hn] at hlen; simp at hlen; omega
    unfold maxLen at hm2
    have hca : ¬ c2 = p := by omega
    clear how hb1 hb2 hr hr' hr1 hb3
    go_wp2_with fail
    have hbl : (((bitsTo xs V).drop p).take (q - p + 1)).length = q + 1 - p := by simp [hlen]; omega
    have hrd : RdB w2 (some ⟨bb, oo + p, none⟩) (((bitsTo xs V).drop p).take (q - p + 1)) := by
      refine ⟨by omega, fun x hx => ?_, .inr ⟨bb, oo + p, rfl, fun i hi => ?_⟩⟩
      · have := hle x (List.mem_of_mem_drop (List.mem_of_mem_take hx)); omega
      · have := hcell (p + i) (by omega)
        rw [← Nat.add_assoc] at this
        rw [this]
        have hi' : i < q - p + 1 := by omega
        simp [List.getD, hi']
    have hfrom := l1From_yes _ (c2 - p) _ w2 hrd (by omega) (by omega)
    rw [hbl] at hfrom
    refine hfrom.mono ?_
    have HQ : Hid ((((q + 1 - p : Nat) : Int), pack (((bitsTo xs V).drop p).take (q - p + 1)), true) = R) := by
      show _ = _
      rw [← HR.out, show ((q : Int) - p + 1).toNat = q - p + 1 by omega, Int.toNat_natCast, Int.toNat_natCast, show (((q + 1 - p : Nat) : Int)) = (q : Int) - p + 1 by omega]
    clear HR
    generalize (((bitsTo xs V).drop p).take (q - p + 1)) = bs at *
    clear hfrom hrd hcell
    rintro e w3 ⟨a3, c3, rfl, hfr, hb4⟩
    have HB4 := chain HB3 hb4
    obtain ⟨hcc, hff⟩ := bcell HB4
    have hz3 : w.heap.size + 1 < w3.heap.size := by have := HB4.size; simp at this; omega
    dsimp only at hfr ⊢
    go_wp2
    exact bodyPost_ret (by simp [results, Tryz.results111, go_sem, hcc, hz3]; rfl) rfl (RetB.close (r := (((q + 1 - p : Nat) : Int), pack bs, true)) hfr (by omega) (by omega) (h2.trans (HB4.mono (by simp; omega))) HQ.out _ _)
  · rw [partR, if_neg hc]
    have hcase : rightB W xs = false ∨ (rightB W xs = true ∧ lo < 0) ∨ (rightB W xs = true ∧ 0 ≤ lo ∧ hi < lo) ∨ (rightB W xs = true ∧ 0 ≤ lo ∧ lo ≤ hi ∧ W ≤ hi) := by
      cases hb : rightB W xs with
      | false => exact .inl rfl
      | true => simp [hb] at hc ⊢; omega
    clear hc
    rcases hcase with h | ⟨h, h1⟩ | ⟨h, h1, h3⟩ | ⟨h, h1, h3, h4⟩
    all_goals
      go_enter Tryz.func111, Tryz.ntmps111
      go_wp2_with fail
      refine (specOk_any _ _ _ _ _ hr').mono ?_
      rintro e w1 ⟨rfl, hb1⟩
      obtain ⟨hcc, hff⟩ := bcell hb1
      have hz : w.heap.size + 1 < w1.heap.size := by have := hb1.size; simp at this; omega
      go_wp2
      exact bodyPost_ret (v := .tuple #[.agg #[.int .i64 0, .slice none 0 0], .bool false]) (by simp [results, Tryz.results111, go_sem, hcc]) rfl (RetB.no (((h2.trans (hb1.mono (by simp; omega))).setCell (by simp) _).setCell (by simp) _))

end Go.Proofs.YtdlmgndmfphneaaGreatDoor

/- Contracts of the program's own small functions on words: zeroBits, clearAbove. -/
namespace Go.Proofs.YtdlmgndmfphneaaGreatDoor
set_option linter.unusedVariables false
set_option linter.unusedSimpArgs false
open Go.RowKit

theorem grown_set {w wr : World} {g : Nat} (h : w.grownBy wr (some g)) (i : Nat) (v : Value) : w.grownBy (wr.setCell ⟨g, i, none⟩ v) (some g) :=
  ⟨h.os, h.tape, h.output, by simpa using h.size, fun k hk hne => by rw [heap_setCell_other _ _ _ _ (fun e => hne (by rw [e]))]; exact h.block k hk hne⟩
theorem zeroBits_any (V : Nat) (w : World) (h1 : 1 ≤ V) (h2 : V ≤ 4096) :
    Calls Tryz.prog 93 #[.int .i64 V] w fun e w' => ∃ g, e = .returned (.agg #[.int .i64 V, .slice (some ⟨g, 0, none⟩) ((V + 63) / 64) ((V + 63) / 64)]) ∧ w.heap.size ≤ g ∧ Own w' g (List.replicate ((V + 63) / 64) 0) ∧ Below w.heap.size w w' := by
  have hmk := fun kl kc w => run_make_row' (P := Tryz.prog) 59 136 (.int .u64 0) 8 Tryz.underlying59 Tryz.infoU64 rfl kl kc ((V + 63) / 64) (by omega) (by omega) w
  have ec : (((V + 63) / 64 : Nat) : Int) = ((V : Int) + 63) / 64 := by omega
  simp only [ec] at hmk
  clear ec
  go_enter Tryz.func93, Tryz.ntmps93
  go_wp2_with (go_at_call 124; refine (wordsFor_any _ (by omega) (by omega) _).mono ?_; rintro e w' ⟨rfl, rfl⟩)
  refine bodyPost_ret (v := .agg #[.int .i64 V, .slice (some ⟨w.heap.size + 1, 0, none⟩) ((V + 63) / 64) ((V + 63) / 64)]) (by simp [results, Tryz.results93, go_sem]) rfl ⟨_, rfl, by omega, ?_, ((Below.refl _ _).alloc (Nat.le_refl _) _).alloc (by simp) _⟩
  unfold Own
  rw [← u64s_made]
  exact heap_alloc2_new _ _ _

theorem Own.alloc {w : World} {g : Nat} {xs : List Nat} (h : Own w g xs) (o : Obj) : Own (w.alloc o) g xs := h.later ((Below.refl _ _).alloc (Nat.le_refl _) _) h.lt

/-- The last word without its bits from the width on. -/
def clr (V : Nat) (ys : List Nat) : List Nat := ys.set (ys.length - 1) (ys.getD (ys.length - 1) 0 &&& 18446744073709551615 / 2 ^ (64 * ys.length - V))

theorem clr_len (V : Nat) (ys : List Nat) : (clr V ys).length = ys.length := by simp [clr]
theorem clr_lt (V : Nat) (ys : List Nat) (h : ∀ x ∈ ys, x < 18446744073709551616) : ∀ x ∈ clr V ys, x < 18446744073709551616 := by
  intro x hx
  rcases List.mem_or_eq_of_mem_set hx with h' | h'
  · exact h x h'
  · rw [h']; exact Nat.lt_of_le_of_lt Nat.and_le_left (getD_lt h _)

theorem tb_clr (V : Nat) (ys : List Nat) (h0 : 64 * (ys.length - 1) < V) (h1 : V ≤ 64 * ys.length) (hp : 0 < ys.length) (i : Nat) (hi : i < 64 * ys.length) : tb (clr V ys) i = (decide (i < V) && tb ys i) := by
  rw [clr, tb_set _ _ _ _ (by omega)]
  by_cases h : i / 64 = ys.length - 1
  · rw [if_pos h, Nat.testBit_and, Nat.testBit_div_two_pow, show (18446744073709551615 : Nat) = 2 ^ 64 - 1 by decide, Nat.testBit_two_pow_sub_one]
    unfold tb
    rw [h, Bool.and_comm]
    congr 1
    simp only [decide_eq_decide]
    omega
  · rw [if_neg h]
    have : i < V := by omega
    simp [this]

theorem andMask (y s : Nat) (hy : y < 18446744073709551616) : bits BinOp.and IntKind.u64 (y : Int) (18446744073709551615 / 2 ^ s) = ((y &&& 18446744073709551615 / 2 ^ s : Nat) : Int) := by
  have e : ((18446744073709551615 : Int) / 2 ^ s) = ((18446744073709551615 / 2 ^ s : Nat) : Int) := by simp
  rw [e, bits_and_u64_nat _ _ hy (Nat.lt_of_le_of_lt (Nat.div_le_self _ _) (by decide))]

theorem clearAbove_any (V g c m : Nat) (ys : List Nat) (w : World) (ho : Own w g ys) (hl : ys.length = m + 1) (hm : m < 64) (hx : ∀ x ∈ ys, x < 18446744073709551616) (h0 : 64 * m < V) (h1 : V ≤ 64 * (m + 1)) :
    Calls Tryz.prog 159 #[.agg #[.int .i64 V, .slice (some ⟨g, 0, none⟩) (m + 1) c]] w fun e w' => e = .returned (.tuple #[]) ∧ Own w' g (clr V ys) ∧ w.grownBy w' (some g) := by
  have ho' : Own (w.alloc (Obj.cells #[Value.int IntKind.i64 V, Value.slice (some ⟨g, 0, none⟩) (m + 1) c] 61)) g ys := ho.later ((Below.refl _ _).alloc (Nat.le_refl _) _) ho.lt
  have hcell := ho.cell (i := m) (by omega)
  have hfr := ho.free m
  have hg := ho.lt
  have hy := getD_lt hx m
  have i0 : (0 : Int) ≤ (m : Int) := by omega
  have i1 : (m : Int) < (m : Int) + 1 := by omega
  generalize hyv : ys.getD m 0 = y at hcell hy
  have HY : Hid (ys.getD m 0 = y) := hyv
  clear hyv
  go_enter Tryz.func159, Tryz.ntmps159
  have HO : Hid (Own (w.setCell ⟨g, m, none⟩ (.int .u64 (bits BinOp.and IntKind.u64 (y : Int) (18446744073709551615 / 2 ^ ((m + 1) * 64 - V))))) g (clr V ys)) := by
    have h := ho.put m (y &&& 18446744073709551615 / 2 ^ ((m + 1) * 64 - V))
    rw [← andMask y _ hy] at h
    show Own _ _ _
    rw [clr, hl, show m + 1 - 1 = m by omega, HY.out, Nat.mul_comm 64 (m + 1)]
    exact h
  have HG : Hid (w.grownBy (w.setCell ⟨g, m, none⟩ (.int .u64 (bits BinOp.and IntKind.u64 (y : Int) (18446744073709551615 / 2 ^ ((m + 1) * 64 - V))))) (some g)) := grown_set (World.grownBy.refl _ _) _ _
  clear ho ho' hx
  go_wp2
  go_region
  go_end0
  have hG := HG.out
  refine ⟨rfl, ?_, ⟨hG.os, hG.tape, hG.output, ?_, fun j hj hne => ?_⟩⟩
  · exact HO.out.alloc _
  · show _ ≤ (World.alloc _ _).heap.size
    simp
  · show (World.alloc _ _).heap[j]? = _
    rw [Below.heap_alloc _ _ _ (by simpa using hj)]
    exact hG.block j hj hne

end Go.Proofs.YtdlmgndmfphneaaGreatDoor

/- What the program's PartOf answers: what the given one does. -/
namespace Go.Proofs.YtdlmgndmfphneaaGreatDoor
set_option linter.unusedVariables false
set_option linter.unusedSimpArgs false
open Go.RowKit

def partWord (xs : List Nat) (f s k : Nat) : Nat := xs.getD (f + k) 0 / 2 ^ s ||| xs.getD (f + k + 1) 0 * 2 ^ (64 - s) % 18446744073709551616
def partTo (xs : List Nat) (f s N k : Nat) : List Nat := (List.range k).map (partWord xs f s) ++ List.replicate (N - k) 0

theorem partTo_len (xs : List Nat) (f s N k : Nat) (h : k ≤ N) : (partTo xs f s N k).length = N := by simp [partTo]; omega
theorem partTo_set (xs : List Nat) (f s N k : Nat) (h : k < N) : (partTo xs f s N k).set k (partWord xs f s k) = partTo xs f s N (k + 1) := by
  unfold partTo
  rw [List.set_append_right _ _ (by simp)]
  simp only [List.length_map, List.length_range, Nat.sub_self]
  obtain ⟨m, hm⟩ : ∃ m, N - k = m + 1 := ⟨N - k - 1, by omega⟩
  rw [hm, List.replicate_succ, List.set_cons_zero, show N - (k + 1) = m by omega]
  simp [List.range_succ]

theorem partWord_lt (xs : List Nat) (hx : ∀ x ∈ xs, x < 18446744073709551616) (f s k : Nat) : partWord xs f s k < 18446744073709551616 :=
  Nat.or_lt_two_pow (n := 64) (Nat.lt_of_le_of_lt (Nat.div_le_self _ _) (getD_lt hx _)) (Nat.mod_lt _ (by decide))

theorem tb_part (xs : List Nat) (hx : ∀ x ∈ xs, x < 18446744073709551616) (f s N i : Nat) (hs : s < 64) (hi : i < 64 * N) : tb (partTo xs f s N N) i = tb xs (64 * f + s + i) := by
  have hk : i / 64 < N := by omega
  have e : (partTo xs f s N N).getD (i / 64) 0 = partWord xs f s (i / 64) := by
    simp [partTo, List.getD, hk]
  have h1 := getD_lt hx (f + i / 64)
  unfold tb
  rw [e, partWord, Nat.testBit_or, Nat.testBit_div_two_pow, show (18446744073709551616 : Nat) = 2 ^ 64 by decide, Nat.testBit_mod_two_pow, Nat.testBit_mul_two_pow]
  by_cases h : i % 64 + s < 64
  · rw [show (64 * f + s + i) / 64 = f + i / 64 by omega, show (64 * f + s + i) % 64 = i % 64 + s by omega]
    simp [show ¬ (64 - s ≤ i % 64) by omega]
  · rw [show (64 * f + s + i) / 64 = f + i / 64 + 1 by omega, show (64 * f + s + i) % 64 = i % 64 - (64 - s) by omega]
    have p : 2 ^ 64 ≤ 2 ^ (i % 64 + s) := Nat.pow_le_pow_right (by omega) (by omega)
    rw [Nat.testBit_lt_two_pow (Nat.lt_of_lt_of_le h1 p)]
    simp [show 64 - s ≤ i % 64 by omega, show i % 64 < 64 by omega]

theorem part_pack (xs : List Nat) (hx : ∀ x ∈ xs, x < 18446744073709551616) (V p q : Nat) (h1 : p ≤ q) (h2 : q < V) (N : Nat) (hN : N = (q - p + 1 + 63) / 64) :
    clr (q - p + 1) (partTo xs (p / 64) (p % 64) N N) = pack (((bitsTo xs V).drop p).take (q - p + 1)) := by
  have hl : (partTo xs (p / 64) (p % 64) N N).length = N := partTo_len _ _ _ _ _ (Nat.le_refl _)
  have hw : ∀ x ∈ partTo xs (p / 64) (p % 64) N N, x < 18446744073709551616 := by
    intro x hm
    simp [partTo] at hm
    obtain ⟨k, _, rfl⟩ := hm
    exact partWord_lt xs hx _ _ _
  refine eq_pack (fun x hm => bitsTo_le xs V x (List.mem_of_mem_drop (List.mem_of_mem_take hm))) ?_ (clr_lt _ _ hw) ?_
  · rw [clr_len, hl]; simp [bitsTo_len]; omega
  · intro i hi
    rw [clr_len, hl] at hi
    rw [tb_clr _ _ (by rw [hl]; omega) (by rw [hl]; omega) (by rw [hl]; omega) i (by rw [hl]; exact hi), tb_part xs hx _ _ _ _ (by omega) hi, show 64 * (p / 64) + p % 64 + i = p + i by omega]
    by_cases h : i < q - p + 1
    · have hv : p + i < V := by omega
      simp [h, List.getD, bitsTo, hv]
    · have e : (List.take (q - p + 1) (List.drop p (bitsTo xs V))).getD i 0 = 0 := by
        simp only [List.getD]
        rw [List.getElem?_eq_none (by simp [bitsTo_len]; omega)]
        rfl
      rw [e]
      simp [h]

theorem acell (w : World) (x : Obj) {b : Nat} (i : Nat) (h : b < w.heap.size) : (w.alloc x).cell? ⟨b, i, none⟩ = w.cell? ⟨b, i, none⟩ := World.cell?_of_block (w := w) (Below.heap_alloc _ _ _ h)
theorem afree (w : World) (x : Obj) {b : Nat} (i : Nat) (h : b < w.heap.size) : (w.alloc x).frozen? ⟨b, i, none⟩ = w.frozen? ⟨b, i, none⟩ := World.frozen?_of_block (w := w) (Below.heap_alloc _ _ _ h)
theorem gcell {W wr : World} {g : Nat} (h : W.grownBy wr (some g)) {b : Nat} (o : Nat) (hb : b < W.heap.size) (hne : b ≠ g) : wr.cell? ⟨b, o, none⟩ = W.cell? ⟨b, o, none⟩ :=
  World.cell?_of_block (w := W) (h.block b hb (by simpa using hne))
theorem gfree {W wr : World} {g : Nat} (h : W.grownBy wr (some g)) {b : Nat} (o : Nat) (hb : b < W.heap.size) (hne : b ≠ g) : wr.frozen? ⟨b, o, none⟩ = W.frozen? ⟨b, o, none⟩ :=
  World.frozen?_of_block (w := W) (h.block b hb (by simpa using hne))

theorem castDiv (x s : Nat) : ((x : Int) / 2 ^ s) = ((x / 2 ^ s : Nat) : Int) := by simp

theorem grown_drew {w wr : World} {r : Option Nat} (h : w.grownBy wr r) : w.grownBy wr.drew r := ⟨h.os, h.tape, h.output, h.size, h.block⟩

/-- A word stored, and stored again with a second one beside it. -/
theorem Own.twice {w : World} {g k X1 X2 s t : Nat} {ys : List Nat} (h : Own w g ys) (h1 : X1 < 18446744073709551616) :
    Own ((w.setCell ⟨g, k, none⟩ (.int .u64 ((X1 : Int) / 2 ^ s))).setCell ⟨g, k, none⟩ (.int .u64 (bits BinOp.or IntKind.u64 ((X1 : Int) / 2 ^ s) (IntKind.u64.wrap ((X2 : Int) * 2 ^ t))))) g (ys.set k (X1 / 2 ^ s ||| X2 * 2 ^ t % 18446744073709551616)) := by
  rw [castDiv, orShift _ _ _ (Nat.lt_of_le_of_lt (Nat.div_le_self _ _) h1)]
  have := (h.put k (X1 / 2 ^ s)).put k (X1 / 2 ^ s ||| X2 * 2 ^ t % 18446744073709551616)
  rwa [List.set_set] at this

theorem Own.once {w : World} {g k X1 s : Nat} {ys : List Nat} (h : Own w g ys) : Own (w.setCell ⟨g, k, none⟩ (.int .u64 ((X1 : Int) / 2 ^ s))) g (ys.set k (X1 / 2 ^ s)) := by
  rw [castDiv]; exact h.put k _

theorem shlOr (z y s : Nat) (hz : z < 18446744073709551616) : bits BinOp.or IntKind.u64 (z : Int) (IntKind.u64.wrap ((y : Int) * 2 ^ s)) = ((z ||| y * 2 ^ s % 18446744073709551616 : Nat) : Int) := orShift z y s hz

set_option maxHeartbeats 1000000 in
set_option maxRecDepth 100000 in
theorem implPart_any (W : Int) (a : Option Addr) (c : Nat) (xs : List Nat) (hi lo : Int) (w : World) (hr : Rd w a xs) (h64 : (Lit.int .i64 hi).wf = true) :
    Calls Tryz.prog 152 #[.agg #[.int .i64 W, .slice a xs.length c], .int .i64 hi, .int .i64 lo] w (RetB w (partR W xs hi lo)) := by
  have h2 : Below w.heap.size w ((w.alloc (Obj.cells #[Value.int IntKind.i64 W, Value.slice a xs.length c] 61)).alloc (Obj.cells #[Value.int IntKind.i64 0, Value.slice none 0 0] 61)) := ((Below.refl _ _).alloc (Nat.le_refl _) _).alloc (by simp) _
  have hr' := hr.later h2
  by_cases hc : rightB W xs = true ∧ 0 ≤ lo ∧ lo ≤ hi ∧ hi < W
  · rw [partR, if_pos hc]
    obtain ⟨hok, h0, h1, h3⟩ := hc
    obtain ⟨hW1, hW2, hWl⟩ := right_W hok
    obtain ⟨V, rfl⟩ := Int.eq_ofNat_of_zero_le (show 0 ≤ W by omega)
    obtain ⟨p, rfl⟩ := Int.eq_ofNat_of_zero_le h0
    obtain ⟨q, rfl⟩ := Int.eq_ofNat_of_zero_le (show 0 ≤ hi by omega)
    have hpq : p ≤ q := by omega
    have hqV : q < V := by omega
    have hxx := hr.2.1
    have hlen : xs.length ≤ 64 := by omega
    have HQ : Hid ((((q - p + 1 : Nat) : Int), clr (q - p + 1) (partTo xs (p / 64) (p % 64) ((q - p + 1 + 63) / 64) ((q - p + 1 + 63) / 64)), true) = ((q : Int) - p + 1, pack (((bitsTo xs (V : Int).toNat).drop (p : Int).toNat).take ((q : Int) - p + 1).toNat), true)) := by
      show _ = _
      rw [part_pack xs hxx V p q hpq hqV _ rfl, show ((q : Int) - p + 1).toNat = q - p + 1 by omega, Int.toNat_natCast, Int.toNat_natCast, show (((q - p + 1 : Nat) : Int)) = (q : Int) - p + 1 by omega]
    generalize ((q : Int) - p + 1, pack (((bitsTo xs (V : Int).toNat).drop (p : Int).toNat).take ((q : Int) - p + 1).toNat), true) = R at HQ ⊢
    have hVl : V ≤ 64 * xs.length := by omega
    have HWl : Hid ((xs.length : Int) = ((V : Int) + 63) / 64) := hWl
    clear hWl
    obtain ⟨-, -, hnil | ⟨b, o, rfl, hcell⟩⟩ := hr
    · subst hnil; simp at hVl; omega
    have hbw : b < w.heap.size := block_lt_of_cell (hcell 0 (by omega))
    go_enter Tryz.func152, Tryz.ntmps152
    go_wp2_with fail
    refine (implOk_any _ _ _ _ _ hr').mono ?_
    rintro e w1 ⟨rfl, hb1⟩
    have HB1 := hb1
    obtain ⟨hcc, hff⟩ := bcell hb1
    have hz : w.heap.size + 1 < w1.heap.size := by have := hb1.size; simp at this; omega
    clear hb1
    go_wp2_with fail
    have eq1 : (q : Int) - (p : Int) + 1 = ((q - p + 1 : Nat) : Int) := by omega
    rw [eq1]
    generalize hn : q - p + 1 = n at *
    refine (zeroBits_any n _ (by omega) (by omega)).mono ?_
    rintro e w2 ⟨g, rfl, hg, hown, hb2⟩
    generalize hN : (n + 63) / 64 = N at *
    have HB2 := chain HB1 hb2
    clear hcc hff
    obtain ⟨hcc, hff⟩ := bcell HB2
    have hz2 : w.heap.size + 1 < w2.heap.size := by have := HB2.size; simp at this; omega
    have HN : Hid ((n + 63) / 64 = N) := hN
    have Hn : Hid (q - p + 1 = n) := hn
    clear hN hn eq1 hb2 HB1
    go_wp2_with fail
    have hg2 := hown.lt
    have k0 : (w2.alloc (Obj.cells #[Value.int IntKind.i64 n, Value.slice (some { block := g, off := 0 }) N N] 61)).cell? ⟨w2.heap.size, 0, none⟩ = some (Value.int IntKind.i64 n) := by simp
    have k1 : (w2.alloc (Obj.cells #[Value.int IntKind.i64 n, Value.slice (some { block := g, off := 0 }) N N] 61)).cell? ⟨w2.heap.size, 1, none⟩ = some (Value.slice (some { block := g, off := 0 }) N N) := by simp
    have k2 : (w2.alloc (Obj.cells #[Value.int IntKind.i64 n, Value.slice (some { block := g, off := 0 }) N N] 61)).cell? ⟨w.heap.size, 1, none⟩ = some (Value.slice (some { block := b, off := o }) xs.length c) := by
      rw [acell _ _ _ (by omega), hcc _ _ (by simp; omega), acell _ _ _ (by simp)]; simp
    have k3 : ∀ i, i < xs.length → (w2.alloc (Obj.cells #[Value.int IntKind.i64 n, Value.slice (some { block := g, off := 0 }) N N] 61)).cell? ⟨b, o + i, none⟩ = some (.int .u64 ((xs.getD i 0 : Nat) : Int)) := fun i hi => by
      rw [acell _ _ _ (by omega), hcc _ _ (by simp; omega), acell _ _ _ (by simp; omega), acell _ _ _ hbw]
      exact hcell i hi
    have k4 : (w2.alloc (Obj.cells #[Value.int IntKind.i64 n, Value.slice (some { block := g, off := 0 }) N N] 61)).cell? ⟨w.heap.size + 1, 0, none⟩ = some (Value.int IntKind.i64 0) := by
      rw [acell _ _ _ (by omega), hcc _ _ (by simp)]; simp [World.cell?_alloc_at]
    have k5 : (w2.alloc (Obj.cells #[Value.int IntKind.i64 n, Value.slice (some { block := g, off := 0 }) N N] 61)).cell? ⟨w.heap.size + 1, 1, none⟩ = some (Value.slice none 0 0) := by
      rw [acell _ _ _ (by omega), hcc _ _ (by simp)]; simp [World.cell?_alloc_at]
    have k6 : ∀ j, (w2.alloc (Obj.cells #[Value.int IntKind.i64 n, Value.slice (some { block := g, off := 0 }) N N] 61)).frozen? ⟨w.heap.size + 1, j, none⟩ = false := fun j => by
      rw [afree _ _ _ (by omega), hff _ _ (by simp)]; simp [World.frozen?_alloc_at]
    have hsz3 : (w2.alloc (Obj.cells #[Value.int IntKind.i64 n, Value.slice (some { block := g, off := 0 }) N N] 61)).heap.size = w2.heap.size + 1 := by simp
    have hown3 := hown.alloc (Obj.cells #[Value.int IntKind.i64 n, Value.slice (some { block := g, off := 0 }) N N] 61)
    have HB3 : Below w2.heap.size w2 (w2.alloc (Obj.cells #[Value.int IntKind.i64 n, Value.slice (some { block := g, off := 0 }) N N] 61)) := (Below.refl _ _).alloc (Nat.le_refl _) _
    generalize w2.alloc (Obj.cells #[Value.int IntKind.i64 n, Value.slice (some { block := g, off := 0 }) N N] 61) = w3 at *
    clear hcell hcc hff hr' hown
    go_loopw [43] (fun i wr => ∃ k : Nat, k ≤ N ∧ i = .int .i64 k ∧ Own wr g (partTo xs (p / 64) (p % 64) N k) ∧ w3.grownBy wr (some g)) (fun i _ => N - (intOf i).toNat)
    case atStart => exact ⟨0, Nat.zero_le _, rfl, by simpa [partTo] using hown3, World.grownBy.refl _ _⟩
    case round =>
      obtain ⟨k, hk, rfl, hownk, hgr⟩ := hrel
      have b1 := (gcell hgr 1 (b := w2.heap.size) (by omega) (by omega)).trans k1
      have b0 := (gcell hgr 0 (b := w2.heap.size) (by omega) (by omega)).trans k0
      have b2 := (gcell hgr 1 (b := w.heap.size) (by omega) (by omega)).trans k2
      by_cases hlt : k < N
      · have hfk : p / 64 + k < xs.length := by have := HN.out; have := Hn.out; omega
        have x1 := (gcell hgr _ (b := b) (by omega) (by omega)).trans (k3 (p / 64 + k) hfk)
        have hcg := hownk.cell (i := k) (by rw [partTo_len _ _ _ _ _ hk]; exact hlt)
        have hfg := hownk.free k
        have hX1 := getD_lt hxx (p / 64 + k)
        have HP := partTo_set xs (p / 64) (p % 64) N k hlt
        rw [partWord] at HP
        have hfki : (p : Int) / 64 + (k : Int) < (xs.length : Int) := by omega
        have hki : (k : Int) < (N : Int) := by omega
        have hgb : ¬ b = g := by omega
        have hgb1 : ¬ w2.heap.size = g := by omega
        have hgb2 : ¬ w.heap.size = g := by omega
        generalize (partTo xs (p / 64) (p % 64) N k).getD k 0 = z at hcg
        by_cases hlt2 : p / 64 + k + 1 < xs.length
        · have x2 := (gcell hgr _ (b := b) (by omega) (by omega)).trans (k3 (p / 64 + k + 1) hlt2)
          have hfki2 : (p : Int) / 64 + (k : Int) + 1 < (xs.length : Int) := by omega
          generalize hv1 : xs.getD (p / 64 + k) 0 = X1 at *
          generalize hv2 : xs.getD (p / 64 + k + 1) 0 = X2 at *
          have HO : Hid _ := hownk.twice (k := k) (X1 := X1) (X2 := X2) (s := p % 64) (t := 64 - p % 64) hX1
          have HPP : Hid _ := HP
          clear hv1 hv2 HP hownk
          go_wp2
          go_region
          go_wp2
          go_region
          go_wp2
          go_roundw
          case rel =>
            have h := HO.out
            rw [HPP.out] at h
            exact ⟨k + 1, by omega, by go_num, h, grown_drew (grown_drew (grown_set (grown_set hgr _ _) _ _))⟩
          case measure => simp [intOf]; omega
        · have hv2 : xs.getD (p / 64 + k + 1) 0 = 0 := by simp only [List.getD]; rw [List.getElem?_eq_none (by omega)]; rfl
          have hfki2 : ¬ ((p : Int) / 64 + (k : Int) + 1 < (xs.length : Int)) := by omega
          rw [hv2, Nat.zero_mul, Nat.zero_mod, Nat.or_zero] at HP
          generalize hv1 : xs.getD (p / 64 + k) 0 = X1 at *
          have HO : Hid _ := hownk.once (k := k) (X1 := X1) (s := p % 64)
          have HPP : Hid _ := HP
          clear hv1 hv2 HP hownk
          go_wp2
          go_region
          go_wp2
          go_roundw
          case rel =>
            have h := HO.out
            rw [HPP.out] at h
            exact ⟨k + 1, by omega, by go_num, h, grown_drew (grown_set hgr _ _)⟩
          case measure => simp [intOf]; omega
      · have e : k = N := by omega
        subst e
        go_wp2_with fail
        have hNn := HN.out
        obtain ⟨m, hm⟩ : ∃ m, k = m + 1 := ⟨k - 1, by have := Hn.out; omega⟩
        have hlk : (partTo xs (p / 64) (p % 64) k k).length = m + 1 := by rw [partTo_len _ _ _ _ _ (Nat.le_refl _)]; exact hm
        have hlt64 : ∀ x ∈ partTo xs (p / 64) (p % 64) k k, x < 18446744073709551616 := by
          intro x hmm
          simp [partTo] at hmm
          obtain ⟨k', _, rfl⟩ := hmm
          exact partWord_lt xs hxx _ _ _
        have hcl := clearAbove_any n g k m _ wr hownk hlk (by have := Hn.out; omega) hlt64 (by omega) (by omega)
        rw [← hm] at hcl
        refine hcl.mono ?_
        rintro e w4 ⟨rfl, hown4, hgr4⟩
        have hs4 := hgr4.size
        have hs3 := hgr.size
        have d0 := (gcell hgr4 0 (b := w2.heap.size) (by omega) (by omega)).trans b0
        have d1 := (gcell hgr4 1 (b := w2.heap.size) (by omega) (by omega)).trans b1
        have r0 := (gcell hgr4 0 (b := w.heap.size + 1) (by omega) (by omega)).trans ((gcell hgr 0 (b := w.heap.size + 1) (by omega) (by omega)).trans k4)
        have r1 := (gcell hgr4 1 (b := w.heap.size + 1) (by omega) (by omega)).trans ((gcell hgr 1 (b := w.heap.size + 1) (by omega) (by omega)).trans k5)
        have f0 := (gfree hgr4 0 (b := w.heap.size + 1) (by omega) (by omega)).trans ((gfree hgr 0 (b := w.heap.size + 1) (by omega) (by omega)).trans (k6 0))
        have f1 := (gfree hgr4 1 (b := w.heap.size + 1) (by omega) (by omega)).trans ((gfree hgr 1 (b := w.heap.size + 1) (by omega) (by omega)).trans (k6 1))
        have HB4 : Hid (Below w.heap.size w w4) := (((h2.trans (HB2.mono (by simp; omega))).trans (HB3.mono (by omega))).grown hgr (by omega) (by intro j hj; cases hj; omega)).grown hgr4 (by omega) (by intro j hj; cases hj; omega)
        have HL : Hid ((clr n (partTo xs (p / 64) (p % 64) k k)).length = k) := by show _ = _; rw [clr_len, hlk, hm]
        clear hcl hlt64 hownk hgr hgr4 b0 b1 b2 k0 k1 k2 k3 k4 k5 k6 hown3 HB2 HB3 h2
        generalize clr n (partTo xs (p / 64) (p % 64) k k) = ys at *
        clear hm hlk hNn
        go_wp2
        refine bodyPost_ret (v := .tuple #[.agg #[.int .i64 n, .slice (some ⟨g, 0, none⟩) k k], .bool true]) (by simp [results, Tryz.results152, go_sem, r0, r1]) rfl ?_
        rw [← HQ.out]
        exact ⟨some ⟨g, 0, none⟩, k, by rw [HL.out], .inr ⟨g, rfl, by omega, (hown4.other (by simp; omega) _).other (by simp; omega) _⟩, (HB4.out.setCell (by simp) _).setCell (by simp) _⟩
  · rw [partR, if_neg hc]
    have hcase : rightB W xs = false ∨ (rightB W xs = true ∧ lo < 0) ∨ (rightB W xs = true ∧ 0 ≤ lo ∧ hi < lo) ∨ (rightB W xs = true ∧ 0 ≤ lo ∧ lo ≤ hi ∧ W ≤ hi) := by
      cases hb : rightB W xs with
      | false => exact .inl rfl
      | true => simp [hb] at hc ⊢; omega
    clear hc
    rcases hcase with h | ⟨h, h1⟩ | ⟨h, h1, h3⟩ | ⟨h, h1, h3, h4⟩
    all_goals
      go_enter Tryz.func152, Tryz.ntmps152
      go_wp2_with fail
      refine (implOk_any _ _ _ _ _ hr').mono ?_
      rintro e w1 ⟨rfl, hb1⟩
      obtain ⟨hcc, hff⟩ := bcell hb1
      have hz : w.heap.size + 1 < w1.heap.size := by have := hb1.size; simp at this; omega
      go_wp2
      exact bodyPost_ret (v := .tuple #[.agg #[.int .i64 0, .slice none 0 0], .bool false]) (by simp [results, Tryz.results152, go_sem, hcc]) rfl (RetB.no (((h2.trans (hb1.mono (by simp; omega))).setCell (by simp) _).setCell (by simp) _))

end Go.Proofs.YtdlmgndmfphneaaGreatDoor
