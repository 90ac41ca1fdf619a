/- Several texts in one. -/
import Derived.Test.YtckidgpopbpagaaGreatDoorZGAB
import Derived.Test.YtckidgpopbpagaaGreatDoorZGAA
import Derived.WalkKit
import Derived.WalkSpells
import Derived.Deep.QuietTactic
import Derived.BigQuiet
import Derived.Outline
import Derived.WalkSmall
import Derived.Deep.OwnRows

/- What the program's PartOf answers: what the given one does. -/
namespace Go.Proofs.YtckidgpopbpagaaGreatDoor
set_option linter.unusedVariables false
set_option linter.unusedSimpArgs false
open Go.RowKit

def partWord (xs : List Nat) (f s k : Nat) : Nat := xs.getD (f + k) 0 / 2 ^ s ||| xs.getD (f + k + 1) 0 * 2 ^ (64 - s) % 18446744073709551616
def partTo (xs : List Nat) (f s N k : Nat) : List Nat := (List.range k).map (partWord xs f s) ++ List.replicate (N - k) 0

theorem partTo_len (xs : List Nat) (f s N k : Nat) (h : k ≤ N) : (partTo xs f s N k).length = N := by simp [partTo]; omega
theorem partTo_set (xs : List Nat) (f s N k : Nat) (h : k < N) : (partTo xs f s N k).set k (partWord xs f s k) = partTo xs f s N (k + 1) := by
  unfold partTo
  rw [List.set_append_right _ _ (by simp)]
  simp only [List.length_map, List.length_range, Nat.sub_self]
  obtain ⟨m, hm⟩ : ∃ m, N - k = m + 1 := ⟨N - k - 1, by omega⟩
  rw [hm, List.replicate_succ, List.set_cons_zero, show N - (k + 1) = m by omega]
  simp [List.range_succ]

theorem partWord_lt (xs : List Nat) (hx : ∀ x ∈ xs, x < 18446744073709551616) (f s k : Nat) : partWord xs f s k < 18446744073709551616 :=
  Nat.or_lt_two_pow (n := 64) (Nat.lt_of_le_of_lt (Nat.div_le_self _ _) (getD_lt hx _)) (Nat.mod_lt _ (by decide))

theorem tb_part (xs : List Nat) (hx : ∀ x ∈ xs, x < 18446744073709551616) (f s N i : Nat) (hs : s < 64) (hi : i < 64 * N) : tb (partTo xs f s N N) i = tb xs (64 * f + s + i) := by
  have hk : i / 64 < N := by omega
  have e : (partTo xs f s N N).getD (i / 64) 0 = partWord xs f s (i / 64) := by
    simp [partTo, List.getD, hk]
  have h1 := getD_lt hx (f + i / 64)
  unfold tb
  rw [e, partWord, Nat.testBit_or, Nat.testBit_div_two_pow, show (18446744073709551616 : Nat) = 2 ^ 64 by decide, Nat.testBit_mod_two_pow, Nat.testBit_mul_two_pow]
  by_cases h : i % 64 + s < 64
  · rw [show (64 * f + s + i) / 64 = f + i / 64 by omega, show (64 * f + s + i) % 64 = i % 64 + s by omega]
    simp [show ¬ (64 - s ≤ i % 64) by omega]
  · rw [show (64 * f + s + i) / 64 = f + i / 64 + 1 by omega, show (64 * f + s + i) % 64 = i % 64 - (64 - s) by omega]
    have p : 2 ^ 64 ≤ 2 ^ (i % 64 + s) := Nat.pow_le_pow_right (by omega) (by omega)
    rw [Nat.testBit_lt_two_pow (Nat.lt_of_lt_of_le h1 p)]
    simp [show 64 - s ≤ i % 64 by omega, show i % 64 < 64 by omega]

theorem part_pack (xs : List Nat) (hx : ∀ x ∈ xs, x < 18446744073709551616) (V p q : Nat) (h1 : p ≤ q) (h2 : q < V) (N : Nat) (hN : N = (q - p + 1 + 63) / 64) :
    clr (q - p + 1) (partTo xs (p / 64) (p % 64) N N) = pack (((bitsTo xs V).drop p).take (q - p + 1)) := by
  have hl : (partTo xs (p / 64) (p % 64) N N).length = N := partTo_len _ _ _ _ _ (Nat.le_refl _)
  have hw : ∀ x ∈ partTo xs (p / 64) (p % 64) N N, x < 18446744073709551616 := by
    intro x hm
    simp [partTo] at hm
    obtain ⟨k, _, rfl⟩ := hm
    exact partWord_lt xs hx _ _ _
  refine eq_pack (fun x hm => bitsTo_le xs V x (List.mem_of_mem_drop (List.mem_of_mem_take hm))) ?_ (clr_lt _ _ hw) ?_
  · rw [clr_len, hl]; simp [bitsTo_len]; omega
  · intro i hi
    rw [clr_len, hl] at hi
    rw [tb_clr _ _ (by rw [hl]; omega) (by rw [hl]; omega) (by rw [hl]; omega) i (by rw [hl]; exact hi), tb_part xs hx _ _ _ _ (by omega) hi, show 64 * (p / 64) + p % 64 + i = p + i by omega]
    by_cases h : i < q - p + 1
    · have hv : p + i < V := by omega
      simp [h, List.getD, bitsTo, hv]
    · have e : (List.take (q - p + 1) (List.drop p (bitsTo xs V))).getD i 0 = 0 := by
        simp only [List.getD]
        rw [List.getElem?_eq_none (by simp [bitsTo_len]; omega)]
        rfl
      rw [e]
      simp [h]

theorem acell (w : World) (x : Obj) {b : Nat} (i : Nat) (h : b < w.heap.size) : (w.alloc x).cell? ⟨b, i, none⟩ = w.cell? ⟨b, i, none⟩ := World.cell?_of_block (w := w) (Below.heap_alloc _ _ _ h)
theorem afree (w : World) (x : Obj) {b : Nat} (i : Nat) (h : b < w.heap.size) : (w.alloc x).frozen? ⟨b, i, none⟩ = w.frozen? ⟨b, i, none⟩ := World.frozen?_of_block (w := w) (Below.heap_alloc _ _ _ h)
theorem gcell {W wr : World} {g : Nat} (h : W.grownBy wr (some g)) {b : Nat} (o : Nat) (hb : b < W.heap.size) (hne : b ≠ g) : wr.cell? ⟨b, o, none⟩ = W.cell? ⟨b, o, none⟩ :=
  World.cell?_of_block (w := W) (h.block b hb (by simpa using hne))
theorem gfree {W wr : World} {g : Nat} (h : W.grownBy wr (some g)) {b : Nat} (o : Nat) (hb : b < W.heap.size) (hne : b ≠ g) : wr.frozen? ⟨b, o, none⟩ = W.frozen? ⟨b, o, none⟩ :=
  World.frozen?_of_block (w := W) (h.block b hb (by simpa using hne))

theorem castDiv (x s : Nat) : ((x : Int) / 2 ^ s) = ((x / 2 ^ s : Nat) : Int) := by simp

theorem grown_drew {w wr : World} {r : Option Nat} (h : w.grownBy wr r) : w.grownBy wr.drew r := ⟨h.os, h.tape, h.output, h.size, h.block⟩

/-- A word stored, and stored again with a second one beside it. -/
theorem Own.twice {w : World} {g k X1 X2 s t : Nat} {ys : List Nat} (h : Own w g ys) (h1 : X1 < 18446744073709551616) :
    Own ((w.setCell ⟨g, k, none⟩ (.int .u64 ((X1 : Int) / 2 ^ s))).setCell ⟨g, k, none⟩ (.int .u64 (bits BinOp.or IntKind.u64 ((X1 : Int) / 2 ^ s) (IntKind.u64.wrap ((X2 : Int) * 2 ^ t))))) g (ys.set k (X1 / 2 ^ s ||| X2 * 2 ^ t % 18446744073709551616)) := by
  rw [castDiv, orShift _ _ _ (Nat.lt_of_le_of_lt (Nat.div_le_self _ _) h1)]
  have := (h.put k (X1 / 2 ^ s)).put k (X1 / 2 ^ s ||| X2 * 2 ^ t % 18446744073709551616)
  rwa [List.set_set] at this

theorem Own.once {w : World} {g k X1 s : Nat} {ys : List Nat} (h : Own w g ys) : Own (w.setCell ⟨g, k, none⟩ (.int .u64 ((X1 : Int) / 2 ^ s))) g (ys.set k (X1 / 2 ^ s)) := by
  rw [castDiv]; exact h.put k _

theorem shlOr (z y s : Nat) (hz : z < 18446744073709551616) : bits BinOp.or IntKind.u64 (z : Int) (IntKind.u64.wrap ((y : Int) * 2 ^ s)) = ((z ||| y * 2 ^ s % 18446744073709551616 : Nat) : Int) := orShift z y s hz

set_option maxHeartbeats 1000000 in
set_option maxRecDepth 100000 in
theorem implPart_any (W : Int) (a : Option Addr) (c : Nat) (xs : List Nat) (hi lo : Int) (w : World) (hr : Rd w a xs) (h64 : (Lit.int .i64 hi).wf = true) :
    Calls Tryz.prog 96 #[.agg #[.int .i64 W, .slice a xs.length c], .int .i64 hi, .int .i64 lo] w (RetB w (partR W xs hi lo)) := by
  have h2 : Below w.heap.size w ((w.alloc (Obj.cells #[Value.int IntKind.i64 W, Value.slice a xs.length c] 60)).alloc (Obj.cells #[Value.int IntKind.i64 0, Value.slice none 0 0] 60)) := ((Below.refl _ _).alloc (Nat.le_refl _) _).alloc (by simp) _
  have hr' := hr.later h2
  by_cases hc : rightB W xs = true ∧ 0 ≤ lo ∧ lo ≤ hi ∧ hi < W
  · rw [partR, if_pos hc]
    obtain ⟨hok, h0, h1, h3⟩ := hc
    obtain ⟨hW1, hW2, hWl⟩ := right_W hok
    obtain ⟨V, rfl⟩ := Int.eq_ofNat_of_zero_le (show 0 ≤ W by omega)
    obtain ⟨p, rfl⟩ := Int.eq_ofNat_of_zero_le h0
    obtain ⟨q, rfl⟩ := Int.eq_ofNat_of_zero_le (show 0 ≤ hi by omega)
    have hpq : p ≤ q := by omega
    have hqV : q < V := by omega
    have hxx := hr.2.1
    have hlen : xs.length ≤ 64 := by omega
    have HQ : Hid ((((q - p + 1 : Nat) : Int), clr (q - p + 1) (partTo xs (p / 64) (p % 64) ((q - p + 1 + 63) / 64) ((q - p + 1 + 63) / 64)), true) = ((q : Int) - p + 1, pack (((bitsTo xs (V : Int).toNat).drop (p : Int).toNat).take ((q : Int) - p + 1).toNat), true)) := by
      show _ = _
      rw [part_pack xs hxx V p q hpq hqV _ rfl, show ((q : Int) - p + 1).toNat = q - p + 1 by omega, Int.toNat_natCast, Int.toNat_natCast, show (((q - p + 1 : Nat) : Int)) = (q : Int) - p + 1 by omega]
    generalize ((q : Int) - p + 1, pack (((bitsTo xs (V : Int).toNat).drop (p : Int).toNat).take ((q : Int) - p + 1).toNat), true) = R at HQ ⊢
    have hVl : V ≤ 64 * xs.length := by omega
    have HWl : Hid ((xs.length : Int) = ((V : Int) + 63) / 64) := hWl
    clear hWl
    obtain ⟨-, -, hnil | ⟨b, o, rfl, hcell⟩⟩ := hr
    · subst hnil; simp at hVl; omega
    have hbw : b < w.heap.size := block_lt_of_cell (hcell 0 (by omega))
    go_enter Tryz.func96, Tryz.ntmps96
    go_wp2_with fail
    refine (implOk_any _ _ _ _ _ hr').mono ?_
    rintro e w1 ⟨rfl, hb1⟩
    have HB1 := hb1
    obtain ⟨hcc, hff⟩ := bcell hb1
    have hz : w.heap.size + 1 < w1.heap.size := by have := hb1.size; simp at this; omega
    clear hb1
    go_wp2_with fail
    have eq1 : (q : Int) - (p : Int) + 1 = ((q - p + 1 : Nat) : Int) := by omega
    rw [eq1]
    generalize hn : q - p + 1 = n at *
    refine (zeroBits_any n _ (by omega) (by omega)).mono ?_
    rintro e w2 ⟨g, rfl, hg, hown, hb2⟩
    generalize hN : (n + 63) / 64 = N at *
    have HB2 := chain HB1 hb2
    clear hcc hff
    obtain ⟨hcc, hff⟩ := bcell HB2
    have hz2 : w.heap.size + 1 < w2.heap.size := by have := HB2.size; simp at this; omega
    have HN : Hid ((n + 63) / 64 = N) := hN
    have Hn : Hid (q - p + 1 = n) := hn
    clear hN hn eq1 hb2 HB1
    go_wp2_with fail
    have hg2 := hown.lt
    have k0 : (w2.alloc (Obj.cells #[Value.int IntKind.i64 n, Value.slice (some { block := g, off := 0 }) N N] 60)).cell? ⟨w2.heap.size, 0, none⟩ = some (Value.int IntKind.i64 n) := by simp
    have k1 : (w2.alloc (Obj.cells #[Value.int IntKind.i64 n, Value.slice (some { block := g, off := 0 }) N N] 60)).cell? ⟨w2.heap.size, 1, none⟩ = some (Value.slice (some { block := g, off := 0 }) N N) := by simp
    have k2 : (w2.alloc (Obj.cells #[Value.int IntKind.i64 n, Value.slice (some { block := g, off := 0 }) N N] 60)).cell? ⟨w.heap.size, 1, none⟩ = some (Value.slice (some { block := b, off := o }) xs.length c) := by
      rw [acell _ _ _ (by omega), hcc _ _ (by simp; omega), acell _ _ _ (by simp)]; simp
    have k3 : ∀ i, i < xs.length → (w2.alloc (Obj.cells #[Value.int IntKind.i64 n, Value.slice (some { block := g, off := 0 }) N N] 60)).cell? ⟨b, o + i, none⟩ = some (.int .u64 ((xs.getD i 0 : Nat) : Int)) := fun i hi => by
      rw [acell _ _ _ (by omega), hcc _ _ (by simp; omega), acell _ _ _ (by simp; omega), acell _ _ _ hbw]
      exact hcell i hi
    have k4 : (w2.alloc (Obj.cells #[Value.int IntKind.i64 n, Value.slice (some { block := g, off := 0 }) N N] 60)).cell? ⟨w.heap.size + 1, 0, none⟩ = some (Value.int IntKind.i64 0) := by
      rw [acell _ _ _ (by omega), hcc _ _ (by simp)]; simp [World.cell?_alloc_at]
    have k5 : (w2.alloc (Obj.cells #[Value.int IntKind.i64 n, Value.slice (some { block := g, off := 0 }) N N] 60)).cell? ⟨w.heap.size + 1, 1, none⟩ = some (Value.slice none 0 0) := by
      rw [acell _ _ _ (by omega), hcc _ _ (by simp)]; simp [World.cell?_alloc_at]
    have k6 : ∀ j, (w2.alloc (Obj.cells #[Value.int IntKind.i64 n, Value.slice (some { block := g, off := 0 }) N N] 60)).frozen? ⟨w.heap.size + 1, j, none⟩ = false := fun j => by
      rw [afree _ _ _ (by omega), hff _ _ (by simp)]; simp [World.frozen?_alloc_at]
    have hsz3 : (w2.alloc (Obj.cells #[Value.int IntKind.i64 n, Value.slice (some { block := g, off := 0 }) N N] 60)).heap.size = w2.heap.size + 1 := by simp
    have hown3 := hown.alloc (Obj.cells #[Value.int IntKind.i64 n, Value.slice (some { block := g, off := 0 }) N N] 60)
    have HB3 : Below w2.heap.size w2 (w2.alloc (Obj.cells #[Value.int IntKind.i64 n, Value.slice (some { block := g, off := 0 }) N N] 60)) := (Below.refl _ _).alloc (Nat.le_refl _) _
    generalize w2.alloc (Obj.cells #[Value.int IntKind.i64 n, Value.slice (some { block := g, off := 0 }) N N] 60) = w3 at *
    clear hcell hcc hff hr' hown
    go_loopw [43] (fun i wr => ∃ k : Nat, k ≤ N ∧ i = .int .i64 k ∧ Own wr g (partTo xs (p / 64) (p % 64) N k) ∧ w3.grownBy wr (some g)) (fun i _ => N - (intOf i).toNat)
    case atStart => exact ⟨0, Nat.zero_le _, rfl, by simpa [partTo] using hown3, World.grownBy.refl _ _⟩
    case round =>
      obtain ⟨k, hk, rfl, hownk, hgr⟩ := hrel
      have b1 := (gcell hgr 1 (b := w2.heap.size) (by omega) (by omega)).trans k1
      have b0 := (gcell hgr 0 (b := w2.heap.size) (by omega) (by omega)).trans k0
      have b2 := (gcell hgr 1 (b := w.heap.size) (by omega) (by omega)).trans k2
      by_cases hlt : k < N
      · have hfk : p / 64 + k < xs.length := by have := HN.out; have := Hn.out; omega
        have x1 := (gcell hgr _ (b := b) (by omega) (by omega)).trans (k3 (p / 64 + k) hfk)
        have hcg := hownk.cell (i := k) (by rw [partTo_len _ _ _ _ _ hk]; exact hlt)
        have hfg := hownk.free k
        have hX1 := getD_lt hxx (p / 64 + k)
        have HP := partTo_set xs (p / 64) (p % 64) N k hlt
        rw [partWord] at HP
        have hfki : (p : Int) / 64 + (k : Int) < (xs.length : Int) := by omega
        have hki : (k : Int) < (N : Int) := by omega
        have hgb : ¬ b = g := by omega
        have hgb1 : ¬ w2.heap.size = g := by omega
        have hgb2 : ¬ w.heap.size = g := by omega
        generalize (partTo xs (p / 64) (p % 64) N k).getD k 0 = z at hcg
        by_cases hlt2 : p / 64 + k + 1 < xs.length
        · have x2 := (gcell hgr _ (b := b) (by omega) (by omega)).trans (k3 (p / 64 + k + 1) hlt2)
          have hfki2 : (p : Int) / 64 + (k : Int) + 1 < (xs.length : Int) := by omega
          generalize hv1 : xs.getD (p / 64 + k) 0 = X1 at *
          generalize hv2 : xs.getD (p / 64 + k + 1) 0 = X2 at *
          have HO : Hid _ := hownk.twice (k := k) (X1 := X1) (X2 := X2) (s := p % 64) (t := 64 - p % 64) hX1
          have HPP : Hid _ := HP
          clear hv1 hv2 HP hownk
          go_wp2
          go_region
          go_wp2
          go_region
          go_wp2
          go_roundw
          case rel =>
            have h := HO.out
            rw [HPP.out] at h
            exact ⟨k + 1, by omega, by go_num, h, grown_drew (grown_drew (grown_set (grown_set hgr _ _) _ _))⟩
          case measure => simp [intOf]; omega
        · have hv2 : xs.getD (p / 64 + k + 1) 0 = 0 := by simp only [List.getD]; rw [List.getElem?_eq_none (by omega)]; rfl
          have hfki2 : ¬ ((p : Int) / 64 + (k : Int) + 1 < (xs.length : Int)) := by omega
          rw [hv2, Nat.zero_mul, Nat.zero_mod, Nat.or_zero] at HP
          generalize hv1 : xs.getD (p / 64 + k) 0 = X1 at *
          have HO : Hid _ := hownk.once (k := k) (X1 := X1) (s := p % 64)
          have HPP : Hid _ := HP
          clear hv1 hv2 HP hownk
          go_wp2
          go_region
          go_wp2
          go_roundw
          case rel =>
            have h := HO.out
            rw [HPP.out] at h
            exact ⟨k + 1, by omega, by go_num, h, grown_drew (grown_set hgr _ _)⟩
          case measure => simp [intOf]; omega
      · have e : k = N := by omega
        subst e
        go_wp2_with fail
        have hNn := HN.out
        obtain ⟨m, hm⟩ : ∃ m, k = m + 1 := ⟨k - 1, by have := Hn.out; omega⟩
        have hlk : (partTo xs (p / 64) (p % 64) k k).length = m + 1 := by rw [partTo_len _ _ _ _ _ (Nat.le_refl _)]; exact hm
        have hlt64 : ∀ x ∈ partTo xs (p / 64) (p % 64) k k, x < 18446744073709551616 := by
          intro x hmm
          simp [partTo] at hmm
          obtain ⟨k', _, rfl⟩ := hmm
          exact partWord_lt xs hxx _ _ _
        have hcl := clearAbove_any n g k m _ wr hownk hlk (by have := Hn.out; omega) hlt64 (by omega) (by omega)
        rw [← hm] at hcl
        refine hcl.mono ?_
        rintro e w4 ⟨rfl, hown4, hgr4⟩
        have hs4 := hgr4.size
        have hs3 := hgr.size
        have d0 := (gcell hgr4 0 (b := w2.heap.size) (by omega) (by omega)).trans b0
        have d1 := (gcell hgr4 1 (b := w2.heap.size) (by omega) (by omega)).trans b1
        have r0 := (gcell hgr4 0 (b := w.heap.size + 1) (by omega) (by omega)).trans ((gcell hgr 0 (b := w.heap.size + 1) (by omega) (by omega)).trans k4)
        have r1 := (gcell hgr4 1 (b := w.heap.size + 1) (by omega) (by omega)).trans ((gcell hgr 1 (b := w.heap.size + 1) (by omega) (by omega)).trans k5)
        have f0 := (gfree hgr4 0 (b := w.heap.size + 1) (by omega) (by omega)).trans ((gfree hgr 0 (b := w.heap.size + 1) (by omega) (by omega)).trans (k6 0))
        have f1 := (gfree hgr4 1 (b := w.heap.size + 1) (by omega) (by omega)).trans ((gfree hgr 1 (b := w.heap.size + 1) (by omega) (by omega)).trans (k6 1))
        have HB4 : Hid (Below w.heap.size w w4) := (((h2.trans (HB2.mono (by simp; omega))).trans (HB3.mono (by omega))).grown hgr (by omega) (by intro j hj; cases hj; omega)).grown hgr4 (by omega) (by intro j hj; cases hj; omega)
        have HL : Hid ((clr n (partTo xs (p / 64) (p % 64) k k)).length = k) := by show _ = _; rw [clr_len, hlk, hm]
        clear hcl hlt64 hownk hgr hgr4 b0 b1 b2 k0 k1 k2 k3 k4 k5 k6 hown3 HB2 HB3 h2
        generalize clr n (partTo xs (p / 64) (p % 64) k k) = ys at *
        clear hm hlk hNn
        go_wp2
        refine bodyPost_ret (v := .tuple #[.agg #[.int .i64 n, .slice (some ⟨g, 0, none⟩) k k], .bool true]) (by simp [results, Tryz.results96, go_sem, r0, r1]) rfl ?_
        rw [← HQ.out]
        exact ⟨some ⟨g, 0, none⟩, k, by rw [HL.out], .inr ⟨g, rfl, by omega, (hown4.other (by simp; omega) _).other (by simp; omega) _⟩, (HB4.out.setCell (by simp) _).setCell (by simp) _⟩
  · rw [partR, if_neg hc]
    have hcase : rightB W xs = false ∨ (rightB W xs = true ∧ lo < 0) ∨ (rightB W xs = true ∧ 0 ≤ lo ∧ hi < lo) ∨ (rightB W xs = true ∧ 0 ≤ lo ∧ lo ≤ hi ∧ W ≤ hi) := by
      cases hb : rightB W xs with
      | false => exact .inl rfl
      | true => simp [hb] at hc ⊢; omega
    clear hc
    rcases hcase with h | ⟨h, h1⟩ | ⟨h, h1, h3⟩ | ⟨h, h1, h3, h4⟩
    all_goals
      go_enter Tryz.func96, Tryz.ntmps96
      go_wp2_with fail
      refine (implOk_any _ _ _ _ _ hr').mono ?_
      rintro e w1 ⟨rfl, hb1⟩
      obtain ⟨hcc, hff⟩ := bcell hb1
      have hz : w.heap.size + 1 < w1.heap.size := by have := hb1.size; simp at this; omega
      go_wp2
      exact bodyPost_ret (v := .tuple #[.agg #[.int .i64 0, .slice none 0 0], .bool false]) (by simp [results, Tryz.results96, go_sem, hcc]) rfl (RetB.no (((h2.trans (hb1.mono (by simp; omega))).setCell (by simp) _).setCell (by simp) _))

end Go.Proofs.YtckidgpopbpagaaGreatDoor

/- Contracts of the laws' own small functions on rows of whole numbers: how long, copied, compared. -/
namespace Go.Proofs.YtckidgpopbpagaaGreatDoor
set_option linter.unusedVariables false
set_option linter.unusedSimpArgs false
open Go.RowKit

theorem Tryz.infoI64 : (Tryz.prog.info? 2).map (fun i => (i.zero, i.size, i.bytes)) = some (some (.int .i64 0), 1, 8) := by kernel_rfl


/-- A slice whose numbers are ks, wherever it lies. -/
def RdI (w : World) (a : Option Addr) (ks : List Int) : Prop :=
  ks.length ≤ 1048576 ∧ (∀ k ∈ ks, in64 k) ∧ (ks = [] ∨ ∃ b o, a = some ⟨b, o, none⟩ ∧ ∀ i, i < ks.length → w.cell? ⟨b, o + i, none⟩ = some (.int .i64 (ks.getD i 0)))

theorem RdI.later {w w' : World} {a : Option Addr} {ks : List Int} (h : RdI w a ks) (hb : Below w.heap.size w w') : RdI w' a ks := by
  obtain ⟨h1, h2, h3⟩ := h
  refine ⟨h1, h2, ?_⟩
  rcases h3 with h3 | ⟨b, o, rfl, hc⟩
  · exact .inl h3
  · refine .inr ⟨b, o, rfl, fun i hi => ?_⟩
    have := hc i hi
    rw [hb.cell (p := ⟨b, o + i, none⟩) (by exact block_lt_of_cell this)]
    exact this

def i64s (ks : List Int) : Array Value := (ks.map fun (k : Int) => Value.int .i64 k).toArray

theorem i64s_size (ks : List Int) : (i64s ks).size = ks.length := by simp [i64s]
theorem i64s_get (ks : List Int) (i : Nat) (h : i < ks.length) : (i64s ks)[i]? = some (.int .i64 (ks.getD i 0)) := by simp [i64s, List.getD, h]
theorem i64s_set (ks : List Int) (i : Nat) (k : Int) : (i64s ks).setIfInBounds i (.int .i64 k) = i64s (ks.set i k) := by
  simp [i64s, List.setIfInBounds_toArray, List.map_set]
theorem i64s_made (n : Nat) : madeCells #[Value.int .i64 0] n = i64s (List.replicate n 0) := by
  apply Array.toList_inj.1
  rw [toList_madeCells_one]
  simp [i64s]

/-- The block g holds just the numbers ks, and may be written. -/
def OwnI (w : World) (g : Nat) (ks : List Int) : Prop := w.heap[g]? = some (.cells (i64s ks) 2 (0, 0))

theorem OwnI.cell {w : World} {g : Nat} {ks : List Int} (h : OwnI w g ks) {i : Nat} (hi : i < ks.length) : w.cell? ⟨g, i, none⟩ = some (.int .i64 (ks.getD i 0)) := by
  rw [cell_of_row w g i _ _ _ h, i64s_get _ _ hi]
theorem OwnI.free {w : World} {g : Nat} {ks : List Int} (h : OwnI w g ks) (i : Nat) : w.frozen? ⟨g, i, none⟩ = false := frozen_of_row w g i _ _ h
theorem OwnI.lt {w : World} {g : Nat} {ks : List Int} (h : OwnI w g ks) : g < w.heap.size := lt_of_block h
theorem OwnI.put {w : World} {g : Nat} {ks : List Int} (h : OwnI w g ks) (i : Nat) (k : Int) : OwnI (w.setCell ⟨g, i, none⟩ (.int .i64 k)) g (ks.set i k) := by
  unfold OwnI
  rw [heap_setCell_same w g i _ _ _ h, i64s_set]
theorem OwnI.rd {w : World} {g : Nat} {ks : List Int} (h : OwnI w g ks) (hl : ks.length ≤ 1048576) (hx : ∀ k ∈ ks, in64 k) : RdI w (some ⟨g, 0, none⟩) ks :=
  ⟨hl, hx, .inr ⟨g, 0, rfl, fun i hi => by rw [Nat.zero_add]; exact h.cell hi⟩⟩
theorem OwnI.later {w w' : World} {g B : Nat} {ks : List Int} (h : OwnI w g ks) (hb : Below B w w') (hg : g < B) : OwnI w' g ks := by
  unfold OwnI
  rw [hb.block g hg]; exact h
theorem OwnI.other {w : World} {g : Nat} {ks : List Int} (h : OwnI w g ks) {a : Addr} (ha : g ≠ a.block) (v : Value) : OwnI (w.setCell a v) g ks := by
  unfold OwnI
  rw [heap_setCell_other w a g v ha]; exact h

theorem szInt64S_any (a : Option Addr) (n c : Nat) (L : Int) (w : World) (hL : 0 ≤ L) (hL2 : L ≤ 1048576) (hn : n ≤ 9223372036854775807) :
    Calls Tryz.prog 35 #[.slice a n c, .int .i64 L] w fun e w' => e = .returned (.int .i64 (if (n : Int) ≤ L then L - n else -1)) ∧ w' = w := by
  by_cases h : (n : Int) ≤ L
  · rw [if_pos h]
    go_enter Tryz.func35, Tryz.ntmps35
    go_wp2
    go_ret
    exact ⟨rfl, rfl⟩
  · rw [if_neg h]
    go_enter Tryz.func35, Tryz.ntmps35
    go_wp2
    go_ret
    exact ⟨rfl, rfl⟩

theorem take_setI (xs : List Int) (k : Nat) (h : k < xs.length) :
    (xs.take k ++ List.replicate (xs.length - k) 0).set k (xs.getD k 0) = xs.take (k + 1) ++ List.replicate (xs.length - (k + 1)) 0 := by
  apply List.ext_getElem?
  intro i
  simp only [List.getElem?_set, List.getElem?_append, List.getElem?_take, List.length_take, List.getElem?_replicate, List.length_append, List.length_replicate, List.getD]
  split <;> split <;> split <;> (try split) <;> (try split) <;> (try omega) <;> simp_all <;> (try omega)

theorem toInt64S_any (a : Option Addr) (c : Nat) (xs : List Int) (w : World) (hr : RdI w a xs) :
    Calls Tryz.prog 40 #[.slice a xs.length c] w fun e w' => e = .returned (.slice (some ⟨w.heap.size, 0, none⟩) xs.length xs.length) ∧ OwnI w' w.heap.size xs ∧ Below w.heap.size w w' := by
  have hlen := hr.1
  have hmk := fun kl kc w => run_make_row' (P := Tryz.prog) 55 2 (.int .i64 0) 8 Tryz.underlying55 Tryz.infoI64 rfl kl kc xs.length (by omega) (by omega) w
  go_enter Tryz.func40, Tryz.ntmps40
  go_wp2
  go_loopw [4] (fun i wr => ∃ k : Nat, k ≤ xs.length ∧ i = .int .i64 k ∧ OwnI wr w.heap.size (xs.take k ++ List.replicate (xs.length - k) 0) ∧ Below w.heap.size w wr) (fun i _ => xs.length - (intOf i).toNat)
  case atStart =>
    refine ⟨0, Nat.zero_le _, rfl, ?_, (Below.refl _ _).alloc (Nat.le_refl _) _⟩
    unfold OwnI
    rw [heap_alloc_new, i64s_made]
    rfl
  case round =>
    obtain ⟨k, hk, rfl, hown, hbel⟩ := hrel
    by_cases hlt : k < xs.length
    · obtain ⟨-, -, h | ⟨b, o, rfl, hc⟩⟩ := hr
      · subst h; simp at hlt
      have hcell := hc k hlt
      have hb : b < w.heap.size := block_lt_of_cell hcell
      have hcw : wr.cell? ⟨b, o + k, none⟩ = some (.int .i64 (xs.getD k 0)) := by rw [hbel.cell (by exact hb)]; exact hcell
      have hcg := hown.cell (i := k) (by simp; omega)
      have hfg := hown.free k
      have HO := show Hid _ from hown.put k (xs.getD k 0)
      have HB := show Hid _ from hbel
      generalize (xs.take k ++ List.replicate (xs.length - k) 0).getD k 0 = z at hcg
      have HT := show Hid _ from take_setI xs k hlt
      clear hc hcell hown hbel hmk
      generalize xs.getD k 0 = y at *
      go_wp2
      go_roundw
      case rel =>
        have h := HO.out
        rw [HT.out] at h
        exact ⟨k + 1, by omega, by go_num, h, HB.out.setCell (Nat.le_refl _) _⟩
      case measure => simp [intOf]; omega
    · clear hmk
      go_wp2
      go_ret
      refine ⟨rfl, ?_, hbel⟩
      have e : k = xs.length := by omega
      rw [e] at hown
      simpa using hown

theorem eqInt64S_any (a b : Option Addr) (c d : Nat) (xs ys : List Int) (w : World) (hr : RdI w a xs) (hs : RdI w b ys) :
    Calls Tryz.prog 48 #[.slice a xs.length c, .slice b ys.length d] w fun e w' => e = .returned (.bool (decide (xs = ys))) ∧ Below w.heap.size w w' := by
  have hl1 := hr.1
  have hl2 := hs.1
  by_cases hl : xs.length = ys.length
  · have hne : ((xs.length : Int) != (ys.length : Int)) = false := by simp [hl]
    have HL : Hid (xs.length = ys.length) := hl
    clear hl
    go_enter Tryz.func48, Tryz.ntmps48
    go_wp2
    clear hne
    go_loopw [5] (fun i wr => ∃ k : Nat, k ≤ xs.length ∧ i = .int .i64 k ∧ (∀ j, j < k → xs.getD j 0 = ys.getD j 0) ∧ Below w.heap.size w wr) (fun i _ => xs.length - (intOf i).toNat)
    case atStart => exact ⟨0, Nat.zero_le _, rfl, fun j h => by omega, Below.refl _ _⟩
    case round =>
      obtain ⟨k, hk, rfl, hz, hbel⟩ := hrel
      have HZ := show Hid _ from hz
      have HB := show Hid _ from hbel
      by_cases hlt : k < xs.length
      · obtain ⟨-, -, h | ⟨b1, o1, rfl, hc1⟩⟩ := hr
        · subst h; simp at hlt
        have hlt2 : k < ys.length := by have := HL.out; omega
        obtain ⟨-, -, h | ⟨b2, o2, rfl, hc2⟩⟩ := hs
        · subst h; simp at hlt2
        have e1 := hc1 k hlt
        have e2 := hc2 k hlt2
        have f1 : wr.cell? ⟨b1, o1 + k, none⟩ = some (.int .i64 (xs.getD k 0)) := by rw [hbel.cell (by exact block_lt_of_cell e1)]; exact e1
        have f2 : wr.cell? ⟨b2, o2 + k, none⟩ = some (.int .i64 (ys.getD k 0)) := by rw [hbel.cell (by exact block_lt_of_cell e2)]; exact e2
        have hxe : decide (xs = ys) = false ∨ xs.getD k 0 = ys.getD k 0 := by
          by_cases h : xs = ys
          · exact .inr (by rw [h])
          · exact .inl (by simp [h])
        clear hc1 hc2 hz hbel e1 e2
        have i0 : (k : Int) < (xs.length : Int) := by omega
        have i1 : (k : Int) < (ys.length : Int) := by omega
        generalize hx1 : xs.getD k 0 = x1 at *
        generalize hy1 : ys.getD k 0 = y1 at *
        have HX : Hid (xs.getD k 0 = x1) := hx1
        have HY : Hid (ys.getD k 0 = y1) := hy1
        clear hx1 hy1
        by_cases hxy : x1 = y1
        · have hb : (x1 != y1) = false := by simp [hxy]
          have HE : Hid (x1 = y1) := hxy
          clear hxe hxy
          go_wp2_with fail
          go_quiet (fail)
          go_wp2
          go_roundw
          case rel =>
            refine ⟨k + 1, by omega, by go_num, fun j hj => ?_, below_drewN HB.out _⟩
            by_cases hj' : j = k
            · rw [hj', HX.out, HY.out]; exact HE.out
            · exact HZ.out j (by omega)
          case measure => simp [intOf]; omega
        · have hb : (x1 != y1) = true := by simpa using hxy
          have HE : Hid (decide (xs = ys) = false) := by
            rcases hxe with h | h
            · exact h
            · exact absurd h hxy
          clear hxe hxy
          go_wp2_with fail
          go_quiet (fail)
          go_wp2
          go_ret
          exact ⟨ret_bool HE.out.symm, below_drewN HB.out _⟩
      · clear hz hbel
        go_wp2
        go_ret
        refine ⟨ret_bool ?_, HB.out⟩
        have he : xs = ys := by
          refine List.ext_getElem HL.out fun j h1 h2 => ?_
          have := HZ.out j (by omega)
          simpa [List.getD, h1, h2] using this
        simp [he]
  · have hne : ((xs.length : Int) != (ys.length : Int)) = true := by simp; omega
    have hx : xs ≠ ys := fun h => hl (by rw [h])
    go_enter Tryz.func48, Tryz.ntmps48
    go_wp2
    go_ret
    exact ⟨ret_bool (by simp [hx]), Below.refl _ _⟩

end Go.Proofs.YtckidgpopbpagaaGreatDoor
