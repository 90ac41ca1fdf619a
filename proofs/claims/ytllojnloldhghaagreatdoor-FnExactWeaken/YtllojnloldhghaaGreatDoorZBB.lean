/- Several texts in one. -/
import Derived.Test.YtllojnloldhghaaGreatDoorZBA
import Derived.Deep.RegionHeld3
import Derived.Deep.RegionHeldLaw

/- What the program's PartOf answers: what the given one does. -/
namespace Go.Proofs.YtllojnloldhghaaGreatDoor
set_option linter.unusedVariables false
set_option linter.unusedSimpArgs false
open Go.RowKit

def partWord (xs : List Nat) (f s k : Nat) : Nat := xs.getD (f + k) 0 / 2 ^ s ||| xs.getD (f + k + 1) 0 * 2 ^ (64 - s) % 18446744073709551616
def partTo (xs : List Nat) (f s N k : Nat) : List Nat := (List.range k).map (partWord xs f s) ++ List.replicate (N - k) 0

theorem partTo_len (xs : List Nat) (f s N k : Nat) (h : k ≤ N) : (partTo xs f s N k).length = N := by simp [partTo]; omega
theorem partTo_set (xs : List Nat) (f s N k : Nat) (h : k < N) : (partTo xs f s N k).set k (partWord xs f s k) = partTo xs f s N (k + 1) := by
  unfold partTo
  rw [List.set_append_right _ _ (by simp)]
  simp only [List.length_map, List.length_range, Nat.sub_self]
  obtain ⟨m, hm⟩ : ∃ m, N - k = m + 1 := ⟨N - k - 1, by omega⟩
  rw [hm, List.replicate_succ, List.set_cons_zero, show N - (k + 1) = m by omega]
  simp [List.range_succ]

theorem partWord_lt (xs : List Nat) (hx : ∀ x ∈ xs, x < 18446744073709551616) (f s k : Nat) : partWord xs f s k < 18446744073709551616 :=
  Nat.or_lt_two_pow (n := 64) (Nat.lt_of_le_of_lt (Nat.div_le_self _ _) (getD_lt hx _)) (Nat.mod_lt _ (by decide))

theorem tb_part (xs : List Nat) (hx : ∀ x ∈ xs, x < 18446744073709551616) (f s N i : Nat) (hs : s < 64) (hi : i < 64 * N) : tb (partTo xs f s N N) i = tb xs (64 * f + s + i) := by
  have hk : i / 64 < N := by omega
  have e : (partTo xs f s N N).getD (i / 64) 0 = partWord xs f s (i / 64) := by
    simp [partTo, List.getD, hk]
  have h1 := getD_lt hx (f + i / 64)
  unfold tb
  rw [e, partWord, Nat.testBit_or, Nat.testBit_div_two_pow, show (18446744073709551616 : Nat) = 2 ^ 64 by decide, Nat.testBit_mod_two_pow, Nat.testBit_mul_two_pow]
  by_cases h : i % 64 + s < 64
  · rw [show (64 * f + s + i) / 64 = f + i / 64 by omega, show (64 * f + s + i) % 64 = i % 64 + s by omega]
    simp [show ¬ (64 - s ≤ i % 64) by omega]
  · rw [show (64 * f + s + i) / 64 = f + i / 64 + 1 by omega, show (64 * f + s + i) % 64 = i % 64 - (64 - s) by omega]
    have p : 2 ^ 64 ≤ 2 ^ (i % 64 + s) := Nat.pow_le_pow_right (by omega) (by omega)
    rw [Nat.testBit_lt_two_pow (Nat.lt_of_lt_of_le h1 p)]
    simp [show 64 - s ≤ i % 64 by omega, show i % 64 < 64 by omega]

theorem part_pack (xs : List Nat) (hx : ∀ x ∈ xs, x < 18446744073709551616) (V p q : Nat) (h1 : p ≤ q) (h2 : q < V) (N : Nat) (hN : N = (q - p + 1 + 63) / 64) :
    clr (q - p + 1) (partTo xs (p / 64) (p % 64) N N) = pack (((bitsTo xs V).drop p).take (q - p + 1)) := by
  have hl : (partTo xs (p / 64) (p % 64) N N).length = N := partTo_len _ _ _ _ _ (Nat.le_refl _)
  have hw : ∀ x ∈ partTo xs (p / 64) (p % 64) N N, x < 18446744073709551616 := by
    intro x hm
    simp [partTo] at hm
    obtain ⟨k, _, rfl⟩ := hm
    exact partWord_lt xs hx _ _ _
  refine eq_pack (fun x hm => bitsTo_le xs V x (List.mem_of_mem_drop (List.mem_of_mem_take hm))) ?_ (clr_lt _ _ hw) ?_
  · rw [clr_len, hl]; simp [bitsTo_len]; omega
  · intro i hi
    rw [clr_len, hl] at hi
    rw [tb_clr _ _ (by rw [hl]; omega) (by rw [hl]; omega) (by rw [hl]; omega) i (by rw [hl]; exact hi), tb_part xs hx _ _ _ _ (by omega) hi, show 64 * (p / 64) + p % 64 + i = p + i by omega]
    by_cases h : i < q - p + 1
    · have hv : p + i < V := by omega
      simp [h, List.getD, bitsTo, hv]
    · have e : (List.take (q - p + 1) (List.drop p (bitsTo xs V))).getD i 0 = 0 := by
        simp only [List.getD]
        rw [List.getElem?_eq_none (by simp [bitsTo_len]; omega)]
        rfl
      rw [e]
      simp [h]

theorem acell (w : World) (x : Obj) {b : Nat} (i : Nat) (h : b < w.heap.size) : (w.alloc x).cell? ⟨b, i, none⟩ = w.cell? ⟨b, i, none⟩ := World.cell?_of_block (w := w) (Below.heap_alloc _ _ _ h)
theorem afree (w : World) (x : Obj) {b : Nat} (i : Nat) (h : b < w.heap.size) : (w.alloc x).frozen? ⟨b, i, none⟩ = w.frozen? ⟨b, i, none⟩ := World.frozen?_of_block (w := w) (Below.heap_alloc _ _ _ h)
theorem gcell {W wr : World} {g : Nat} (h : W.grownBy wr (some g)) {b : Nat} (o : Nat) (hb : b < W.heap.size) (hne : b ≠ g) : wr.cell? ⟨b, o, none⟩ = W.cell? ⟨b, o, none⟩ :=
  World.cell?_of_block (w := W) (h.block b hb (by simpa using hne))
theorem gfree {W wr : World} {g : Nat} (h : W.grownBy wr (some g)) {b : Nat} (o : Nat) (hb : b < W.heap.size) (hne : b ≠ g) : wr.frozen? ⟨b, o, none⟩ = W.frozen? ⟨b, o, none⟩ :=
  World.frozen?_of_block (w := W) (h.block b hb (by simpa using hne))

theorem castDiv (x s : Nat) : ((x : Int) / 2 ^ s) = ((x / 2 ^ s : Nat) : Int) := by simp

theorem grown_drew {w wr : World} {r : Option Nat} (h : w.grownBy wr r) : w.grownBy wr.drew r := ⟨h.os, h.tape, h.output, h.size, h.block⟩

/-- A word stored, and stored again with a second one beside it. -/
theorem Own.twice {w : World} {g k X1 X2 s t : Nat} {ys : List Nat} (h : Own w g ys) (h1 : X1 < 18446744073709551616) :
    Own ((w.setCell ⟨g, k, none⟩ (.int .u64 ((X1 : Int) / 2 ^ s))).setCell ⟨g, k, none⟩ (.int .u64 (bits BinOp.or IntKind.u64 ((X1 : Int) / 2 ^ s) (IntKind.u64.wrap ((X2 : Int) * 2 ^ t))))) g (ys.set k (X1 / 2 ^ s ||| X2 * 2 ^ t % 18446744073709551616)) := by
  rw [castDiv, orShift _ _ _ (Nat.lt_of_le_of_lt (Nat.div_le_self _ _) h1)]
  have := (h.put k (X1 / 2 ^ s)).put k (X1 / 2 ^ s ||| X2 * 2 ^ t % 18446744073709551616)
  rwa [List.set_set] at this

theorem Own.once {w : World} {g k X1 s : Nat} {ys : List Nat} (h : Own w g ys) : Own (w.setCell ⟨g, k, none⟩ (.int .u64 ((X1 : Int) / 2 ^ s))) g (ys.set k (X1 / 2 ^ s)) := by
  rw [castDiv]; exact h.put k _

set_option maxHeartbeats 1000000 in
set_option maxRecDepth 100000 in
theorem implPart_any (W : Int) (a : Option Addr) (c : Nat) (xs : List Nat) (hi lo : Int) (w : World) (hr : Rd w a xs) (h64 : (Lit.int .i64 hi).wf = true) :
    Calls Tryz.prog 141 #[.agg #[.int .i64 W, .slice a xs.length c], .int .i64 hi, .int .i64 lo] w (RetB w (partR W xs hi lo)) := by
  have h2 : Below w.heap.size w ((w.alloc (Obj.cells #[Value.int IntKind.i64 W, Value.slice a xs.length c] 82)).alloc (Obj.cells #[Value.int IntKind.i64 0, Value.slice none 0 0] 82)) := ((Below.refl _ _).alloc (Nat.le_refl _) _).alloc (by simp) _
  have hr' := hr.later h2
  by_cases hc : rightB W xs = true ∧ 0 ≤ lo ∧ lo ≤ hi ∧ hi < W
  · rw [partR, if_pos hc]
    obtain ⟨hok, h0, h1, h3⟩ := hc
    obtain ⟨hW1, hW2, hWl⟩ := right_W hok
    obtain ⟨V, rfl⟩ := Int.eq_ofNat_of_zero_le (show 0 ≤ W by omega)
    obtain ⟨p, rfl⟩ := Int.eq_ofNat_of_zero_le h0
    obtain ⟨q, rfl⟩ := Int.eq_ofNat_of_zero_le (show 0 ≤ hi by omega)
    have hpq : p ≤ q := by omega
    have hqV : q < V := by omega
    have hxx := hr.2.1
    have hlen : xs.length ≤ 64 := by omega
    have HQ : Hid ((((q - p + 1 : Nat) : Int), clr (q - p + 1) (partTo xs (p / 64) (p % 64) ((q - p + 1 + 63) / 64) ((q - p + 1 + 63) / 64)), true) = ((q : Int) - p + 1, pack (((bitsTo xs (V : Int).toNat).drop (p : Int).toNat).take ((q : Int) - p + 1).toNat), true)) := by
      show _ = _
      rw [part_pack xs hxx V p q hpq hqV _ rfl, show ((q : Int) - p + 1).toNat = q - p + 1 by omega, Int.toNat_natCast, Int.toNat_natCast, show (((q - p + 1 : Nat) : Int)) = (q : Int) - p + 1 by omega]
    generalize ((q : Int) - p + 1, pack (((bitsTo xs (V : Int).toNat).drop (p : Int).toNat).take ((q : Int) - p + 1).toNat), true) = R at HQ ⊢
    have hVl : V ≤ 64 * xs.length := by omega
    have HWl : Hid ((xs.length : Int) = ((V : Int) + 63) / 64) := hWl
    clear hWl
    obtain ⟨-, -, hnil | ⟨b, o, rfl, hcell⟩⟩ := hr
    · subst hnil; simp at hVl; omega
    have hbw : b < w.heap.size := block_lt_of_cell (hcell 0 (by omega))
    go_enter Tryz.func141, Tryz.ntmps141
    go_wp2_with fail
    refine (implOk_any _ _ _ _ _ hr').mono ?_
    rintro e w1 ⟨rfl, hb1⟩
    have HB1 := hb1
    obtain ⟨hcc, hff⟩ := bcell hb1
    have hz : w.heap.size + 1 < w1.heap.size := by have := hb1.size; simp at this; omega
    clear hb1
    go_wp2_with fail
    have eq1 : (q : Int) - (p : Int) + 1 = ((q - p + 1 : Nat) : Int) := by omega
    rw [eq1]
    generalize hn : q - p + 1 = n at *
    refine (zeroBits_any n _ (by omega) (by omega)).mono ?_
    rintro e w2 ⟨g, rfl, hg, hown, hb2⟩
    generalize hN : (n + 63) / 64 = N at *
    have HB2 := chain HB1 hb2
    clear hcc hff
    obtain ⟨hcc, hff⟩ := bcell HB2
    have hz2 : w.heap.size + 1 < w2.heap.size := by have := HB2.size; simp at this; omega
    have HN : Hid ((n + 63) / 64 = N) := hN
    have Hn : Hid (q - p + 1 = n) := hn
    clear hN hn eq1 hb2 HB1
    go_wp2_with fail
    have hg2 := hown.lt
    have k0 : (w2.alloc (Obj.cells #[Value.int IntKind.i64 n, Value.slice (some { block := g, off := 0 }) N N] 82)).cell? ⟨w2.heap.size, 0, none⟩ = some (Value.int IntKind.i64 n) := by simp
    have k1 : (w2.alloc (Obj.cells #[Value.int IntKind.i64 n, Value.slice (some { block := g, off := 0 }) N N] 82)).cell? ⟨w2.heap.size, 1, none⟩ = some (Value.slice (some { block := g, off := 0 }) N N) := by simp
    have k2 : (w2.alloc (Obj.cells #[Value.int IntKind.i64 n, Value.slice (some { block := g, off := 0 }) N N] 82)).cell? ⟨w.heap.size, 1, none⟩ = some (Value.slice (some { block := b, off := o }) xs.length c) := by
      rw [acell _ _ _ (by omega), hcc _ _ (by simp; omega), acell _ _ _ (by simp)]; simp
    have k3 : ∀ i, i < xs.length → (w2.alloc (Obj.cells #[Value.int IntKind.i64 n, Value.slice (some { block := g, off := 0 }) N N] 82)).cell? ⟨b, o + i, none⟩ = some (.int .u64 ((xs.getD i 0 : Nat) : Int)) := fun i hi => by
      rw [acell _ _ _ (by omega), hcc _ _ (by simp; omega), acell _ _ _ (by simp; omega), acell _ _ _ hbw]
      exact hcell i hi
    have k4 : (w2.alloc (Obj.cells #[Value.int IntKind.i64 n, Value.slice (some { block := g, off := 0 }) N N] 82)).cell? ⟨w.heap.size + 1, 0, none⟩ = some (Value.int IntKind.i64 0) := by
      rw [acell _ _ _ (by omega), hcc _ _ (by simp)]; simp [World.cell?_alloc_at]
    have k5 : (w2.alloc (Obj.cells #[Value.int IntKind.i64 n, Value.slice (some { block := g, off := 0 }) N N] 82)).cell? ⟨w.heap.size + 1, 1, none⟩ = some (Value.slice none 0 0) := by
      rw [acell _ _ _ (by omega), hcc _ _ (by simp)]; simp [World.cell?_alloc_at]
    have k6 : ∀ j, (w2.alloc (Obj.cells #[Value.int IntKind.i64 n, Value.slice (some { block := g, off := 0 }) N N] 82)).frozen? ⟨w.heap.size + 1, j, none⟩ = false := fun j => by
      rw [afree _ _ _ (by omega), hff _ _ (by simp)]; simp [World.frozen?_alloc_at]
    have hsz3 : (w2.alloc (Obj.cells #[Value.int IntKind.i64 n, Value.slice (some { block := g, off := 0 }) N N] 82)).heap.size = w2.heap.size + 1 := by simp
    have hown3 := hown.alloc (Obj.cells #[Value.int IntKind.i64 n, Value.slice (some { block := g, off := 0 }) N N] 82)
    have HB3 : Below w2.heap.size w2 (w2.alloc (Obj.cells #[Value.int IntKind.i64 n, Value.slice (some { block := g, off := 0 }) N N] 82)) := (Below.refl _ _).alloc (Nat.le_refl _) _
    generalize w2.alloc (Obj.cells #[Value.int IntKind.i64 n, Value.slice (some { block := g, off := 0 }) N N] 82) = w3 at *
    clear hcell hcc hff hr' hown
    go_loopw [43] (fun i wr => ∃ k : Nat, k ≤ N ∧ i = .int .i64 k ∧ Own wr g (partTo xs (p / 64) (p % 64) N k) ∧ w3.grownBy wr (some g)) (fun i _ => N - (intOf i).toNat)
    case atStart => exact ⟨0, Nat.zero_le _, rfl, by simpa [partTo] using hown3, World.grownBy.refl _ _⟩
    case round =>
      obtain ⟨k, hk, rfl, hownk, hgr⟩ := hrel
      have b1 := (gcell hgr 1 (b := w2.heap.size) (by omega) (by omega)).trans k1
      have b0 := (gcell hgr 0 (b := w2.heap.size) (by omega) (by omega)).trans k0
      have b2 := (gcell hgr 1 (b := w.heap.size) (by omega) (by omega)).trans k2
      by_cases hlt : k < N
      · have hfk : p / 64 + k < xs.length := by have := HN.out; have := Hn.out; omega
        have x1 := (gcell hgr _ (b := b) (by omega) (by omega)).trans (k3 (p / 64 + k) hfk)
        have hcg := hownk.cell (i := k) (by rw [partTo_len _ _ _ _ _ hk]; exact hlt)
        have hfg := hownk.free k
        have hX1 := getD_lt hxx (p / 64 + k)
        have HP := partTo_set xs (p / 64) (p % 64) N k hlt
        rw [partWord] at HP
        have hfki : (p : Int) / 64 + (k : Int) < (xs.length : Int) := by omega
        have hki : (k : Int) < (N : Int) := by omega
        have hgb : ¬ b = g := by omega
        have hgb1 : ¬ w2.heap.size = g := by omega
        have hgb2 : ¬ w.heap.size = g := by omega
        generalize (partTo xs (p / 64) (p % 64) N k).getD k 0 = z at hcg
        by_cases hlt2 : p / 64 + k + 1 < xs.length
        · have x2 := (gcell hgr _ (b := b) (by omega) (by omega)).trans (k3 (p / 64 + k + 1) hlt2)
          have hfki2 : (p : Int) / 64 + (k : Int) + 1 < (xs.length : Int) := by omega
          generalize hv1 : xs.getD (p / 64 + k) 0 = X1 at *
          generalize hv2 : xs.getD (p / 64 + k + 1) 0 = X2 at *
          have HO : Hid _ := hownk.twice (k := k) (X1 := X1) (X2 := X2) (s := p % 64) (t := 64 - p % 64) hX1
          have HPP : Hid _ := HP
          clear hv1 hv2 HP hownk
          go_wp2
          go_region
          go_wp2
          go_region
          go_wp2
          go_roundw
          case rel =>
            have h := HO.out
            rw [HPP.out] at h
            exact ⟨k + 1, by omega, by go_num, h, grown_drew (grown_drew (grown_set (grown_set hgr _ _) _ _))⟩
          case measure => simp [intOf]; omega
        · have hv2 : xs.getD (p / 64 + k + 1) 0 = 0 := by simp only [List.getD]; rw [List.getElem?_eq_none (by omega)]; rfl
          have hfki2 : ¬ ((p : Int) / 64 + (k : Int) + 1 < (xs.length : Int)) := by omega
          rw [hv2, Nat.zero_mul, Nat.zero_mod, Nat.or_zero] at HP
          generalize hv1 : xs.getD (p / 64 + k) 0 = X1 at *
          have HO : Hid _ := hownk.once (k := k) (X1 := X1) (s := p % 64)
          have HPP : Hid _ := HP
          clear hv1 hv2 HP hownk
          go_wp2
          go_region
          go_wp2
          go_roundw
          case rel =>
            have h := HO.out
            rw [HPP.out] at h
            exact ⟨k + 1, by omega, by go_num, h, grown_drew (grown_set hgr _ _)⟩
          case measure => simp [intOf]; omega
      · have e : k = N := by omega
        subst e
        go_wp2_with fail
        have hNn := HN.out
        obtain ⟨m, hm⟩ : ∃ m, k = m + 1 := ⟨k - 1, by have := Hn.out; omega⟩
        have hlk : (partTo xs (p / 64) (p % 64) k k).length = m + 1 := by rw [partTo_len _ _ _ _ _ (Nat.le_refl _)]; exact hm
        have hlt64 : ∀ x ∈ partTo xs (p / 64) (p % 64) k k, x < 18446744073709551616 := by
          intro x hmm
          simp [partTo] at hmm
          obtain ⟨k', _, rfl⟩ := hmm
          exact partWord_lt xs hxx _ _ _
        have hcl := clearAbove_any n g k m _ wr hownk hlk (by have := Hn.out; omega) hlt64 (by omega) (by omega)
        rw [← hm] at hcl
        refine hcl.mono ?_
        rintro e w4 ⟨rfl, hown4, hgr4⟩
        have hs4 := hgr4.size
        have hs3 := hgr.size
        have d0 := (gcell hgr4 0 (b := w2.heap.size) (by omega) (by omega)).trans b0
        have d1 := (gcell hgr4 1 (b := w2.heap.size) (by omega) (by omega)).trans b1
        have r0 := (gcell hgr4 0 (b := w.heap.size + 1) (by omega) (by omega)).trans ((gcell hgr 0 (b := w.heap.size + 1) (by omega) (by omega)).trans k4)
        have r1 := (gcell hgr4 1 (b := w.heap.size + 1) (by omega) (by omega)).trans ((gcell hgr 1 (b := w.heap.size + 1) (by omega) (by omega)).trans k5)
        have f0 := (gfree hgr4 0 (b := w.heap.size + 1) (by omega) (by omega)).trans ((gfree hgr 0 (b := w.heap.size + 1) (by omega) (by omega)).trans (k6 0))
        have f1 := (gfree hgr4 1 (b := w.heap.size + 1) (by omega) (by omega)).trans ((gfree hgr 1 (b := w.heap.size + 1) (by omega) (by omega)).trans (k6 1))
        have HB4 : Hid (Below w.heap.size w w4) := (((h2.trans (HB2.mono (by simp; omega))).trans (HB3.mono (by omega))).grown hgr (by omega) (by intro j hj; cases hj; omega)).grown hgr4 (by omega) (by intro j hj; cases hj; omega)
        have HL : Hid ((clr n (partTo xs (p / 64) (p % 64) k k)).length = k) := by show _ = _; rw [clr_len, hlk, hm]
        clear hcl hlt64 hownk hgr hgr4 b0 b1 b2 k0 k1 k2 k3 k4 k5 k6 hown3 HB2 HB3 h2
        generalize clr n (partTo xs (p / 64) (p % 64) k k) = ys at *
        clear hm hlk hNn
        go_wp2
        refine bodyPost_ret (v := .tuple #[.agg #[.int .i64 n, .slice (some ⟨g, 0, none⟩) k k], .bool true]) (by simp [results, Tryz.results141, go_sem, r0, r1]) rfl ?_
        rw [← HQ.out]
        exact ⟨some ⟨g, 0, none⟩, k, by rw [HL.out], .inr ⟨g, rfl, by omega, (hown4.other (by simp; omega) _).other (by simp; omega) _⟩, (HB4.out.setCell (by simp) _).setCell (by simp) _⟩
  · rw [partR, if_neg hc]
    have hcase : rightB W xs = false ∨ (rightB W xs = true ∧ lo < 0) ∨ (rightB W xs = true ∧ 0 ≤ lo ∧ hi < lo) ∨ (rightB W xs = true ∧ 0 ≤ lo ∧ lo ≤ hi ∧ W ≤ hi) := by
      cases hb : rightB W xs with
      | false => exact .inl rfl
      | true => simp [hb] at hc ⊢; omega
    clear hc
    rcases hcase with h | ⟨h, h1⟩ | ⟨h, h1, h3⟩ | ⟨h, h1, h3, h4⟩
    all_goals
      go_enter Tryz.func141, Tryz.ntmps141
      go_wp2_with fail
      refine (implOk_any _ _ _ _ _ hr').mono ?_
      rintro e w1 ⟨rfl, hb1⟩
      obtain ⟨hcc, hff⟩ := bcell hb1
      have hz : w.heap.size + 1 < w1.heap.size := by have := hb1.size; simp at this; omega
      go_wp2
      exact bodyPost_ret (v := .tuple #[.agg #[.int .i64 0, .slice none 0 0], .bool false]) (by simp [results, Tryz.results141, go_sem, hcc]) rfl (RetB.no (((h2.trans (hb1.mono (by simp; omega))).setCell (by simp) _).setCell (by simp) _))

end Go.Proofs.YtllojnloldhghaaGreatDoor

/- What a law knows of the memory that it has made: boxes of two cells, rows of words in new blocks; how that lasts behind calls. -/
namespace Go.Proofs.YtllojnloldhghaaGreatDoor
set_option linter.unusedVariables false
set_option linter.unusedSimpArgs false
open Go.RowKit

theorem Ba {w wk : World} (h : Below w.heap.size w wk) (o : Obj) : Below w.heap.size w (wk.alloc o) := h.alloc h.size o

/-- The block β is a box of two cells. -/
def Blk (w : World) (β : Nat) (x y : Value) (t : TypeId) : Prop := w.heap[β]? = some (.cells #[x, y] t (0, 0))

theorem Blk.cells {w : World} {β : Nat} {x y : Value} {t : TypeId} (h : Blk w β x y t) : w.cell? ⟨β, 0, none⟩ = some x ∧ w.cell? ⟨β, 1, none⟩ = some y :=
  ⟨cell_of_row w β 0 _ _ _ h, cell_of_row w β 1 _ _ _ h⟩
theorem Blk.lt {w : World} {β : Nat} {x y : Value} {t : TypeId} (h : Blk w β x y t) : β < w.heap.size := lt_of_block h
theorem Blk.next {w w' : World} {β : Nat} {x y : Value} {t : TypeId} (h : Blk w β x y t) (hb : Below w.heap.size w w') : Blk w' β x y t := by
  unfold Blk
  rw [hb.block β h.lt]; exact h
theorem Blk.new (w : World) (x y : Value) (t : TypeId) : Blk (w.alloc (.cells #[x, y] t)) w.heap.size x y t := heap_alloc_new _ _
theorem Blk.alloc {w : World} {β : Nat} {x y : Value} {t : TypeId} (h : Blk w β x y t) (o : Obj) : Blk (w.alloc o) β x y t := h.next ((Below.refl _ _).alloc (Nat.le_refl _) _)

/-- Words in a block of their own whose number lies in lo .. hi - 1, or none at all. -/
def Fr (w : World) (lo hi : Nat) (a : Option Addr) (ys : List Nat) : Prop := (ys = [] ∧ a = none) ∨ ∃ g, a = some ⟨g, 0, none⟩ ∧ lo ≤ g ∧ g < hi ∧ Own w g ys

theorem Fresh.fr {w : World} {lo : Nat} {a : Option Addr} {ys : List Nat} (h : Fresh w lo a ys) : Fr w lo w.heap.size a ys := by
  rcases h with h | ⟨g, rfl, hg, ho⟩
  · exact .inl h
  · exact .inr ⟨g, rfl, hg, ho.lt, ho⟩
theorem Own.fr {w : World} {lo g : Nat} {ys : List Nat} (h : Own w g ys) (hg : lo ≤ g) : Fr w lo w.heap.size (some ⟨g, 0, none⟩) ys := .inr ⟨g, rfl, hg, h.lt, h⟩
theorem Fr.next {w w' : World} {lo hi : Nat} {a : Option Addr} {ys : List Nat} (h : Fr w lo hi a ys) (hb : Below w.heap.size w w') : Fr w' lo hi a ys := by
  rcases h with h | ⟨g, rfl, h1, h2, ho⟩
  · exact .inl h
  · exact .inr ⟨g, rfl, h1, h2, ho.later hb ho.lt⟩
theorem Fr.alloc {w : World} {lo hi : Nat} {a : Option Addr} {ys : List Nat} (h : Fr w lo hi a ys) (o : Obj) : Fr (w.alloc o) lo hi a ys := h.next ((Below.refl _ _).alloc (Nat.le_refl _) _)
theorem Fr.rd {w : World} {lo hi : Nat} {a : Option Addr} {ys : List Nat} (h : Fr w lo hi a ys) (hl : ys.length ≤ 1048576) (hx : ∀ x ∈ ys, x < 18446744073709551616) : Rd w a ys := by
  rcases h with ⟨rfl, rfl⟩ | ⟨g, rfl, h1, h2, ho⟩
  · exact ⟨hl, hx, .inl rfl⟩
  · exact ho.rd hl hx

/-- What marking the words at a has done to the world. -/
def Marked (w w' : World) (a : Option Addr) : Prop := w.grownBy w' (a.map Addr.block)

theorem Blk.mark {w w' : World} {β lo hi : Nat} {x y : Value} {t : TypeId} {a : Option Addr} {ys : List Nat} (h : Blk w β x y t) (hf : Fr w lo hi a ys) (hm : Marked w w' a) (ht : t ≠ 117) : Blk w' β x y t := by
  unfold Blk
  rw [World.grownBy.block hm β h.lt ?_]
  · exact h
  · rcases hf with ⟨_, rfl⟩ | ⟨g, rfl, _, _, ho⟩
    · simp
    · simp only [Option.map_some, ne_eq, Option.some.injEq]
      rintro rfl
      unfold Blk at h
      unfold Own at ho
      rw [h] at ho
      simp at ho
      exact ht ho.2

theorem Fr.mark {w w' : World} {lo hi lo' hi' : Nat} {a b : Option Addr} {ys zs : List Nat} (h : Fr w lo hi a ys) (hf : Fr w lo' hi' b zs) (hm : Marked w w' b) (hd : hi ≤ lo' ∨ hi' ≤ lo) : Fr w' lo hi a ys := by
  rcases h with h | ⟨g, rfl, h1, h2, ho⟩
  · exact .inl h
  · refine .inr ⟨g, rfl, h1, h2, ?_⟩
    unfold Own
    rw [World.grownBy.block hm g ho.lt ?_]
    · exact ho
    · rcases hf with ⟨_, rfl⟩ | ⟨g', rfl, k1, k2, _⟩
      · simp
      · simp only [Option.map_some, ne_eq, Option.some.injEq]
        omega

theorem Marked.below {w0 w w' : World} {lo hi : Nat} {a : Option Addr} {ys : List Nat} (hm : Marked w w' a) (hf : Fr w lo hi a ys) (hb : Below w0.heap.size w0 w) (hl : w0.heap.size ≤ lo) : Below w0.heap.size w0 w' := by
  refine hb.grown hm hb.size ?_
  intro k hk
  rcases hf with ⟨_, rfl⟩ | ⟨g, rfl, k1, k2, _⟩
  · simp at hk
  · simp at hk; omega
theorem Marked.size {w w' : World} {a : Option Addr} (h : Marked w w' a) : w.heap.size ≤ w'.heap.size := World.grownBy.size h

theorem RetB.fr {w w' : World} {r : Int × List Nat × Bool} {e : Ending} (h : RetB w r e w') : ∃ a c, e = .returned (.tuple #[.agg #[.int .i64 r.1, .slice a r.2.1.length c], .bool r.2.2]) ∧ Fr w' w.heap.size w'.heap.size a r.2.1 ∧ Below w.heap.size w w' := by
  obtain ⟨a, c, he, hf, hb⟩ := h
  exact ⟨a, c, he, hf.fr, hb⟩

end Go.Proofs.YtllojnloldhghaaGreatDoor

/- What putBits does: the words of a row are put into another one from a place on. -/
namespace Go.Proofs.YtllojnloldhghaaGreatDoor
set_option linter.unusedVariables false
set_option linter.unusedSimpArgs false
open Go.RowKit

def putTo (zs ys : List Nat) (f s : Nat) : Nat → List Nat
  | 0 => zs
  | k + 1 =>
    let z1 := (putTo zs ys f s k).set (f + k) ((putTo zs ys f s k).getD (f + k) 0 ||| ys.getD k 0 * 2 ^ s % 18446744073709551616)
    z1.set (f + k + 1) (z1.getD (f + k + 1) 0 ||| ys.getD k 0 / 2 ^ (64 - s))

theorem putTo_len (zs ys : List Nat) (f s k : Nat) : (putTo zs ys f s k).length = zs.length := by
  induction k with
  | zero => rfl
  | succ k ih => simp [putTo, ih]

theorem set_lt {xs : List Nat} (h : ∀ x ∈ xs, x < 18446744073709551616) (i v : Nat) (hv : v < 18446744073709551616) : ∀ x ∈ xs.set i v, x < 18446744073709551616 := by
  intro x hx
  rcases List.mem_or_eq_of_mem_set hx with h' | h'
  · exact h x h'
  · rw [h']; exact hv

theorem putTo_lt (zs ys : List Nat) (f s k : Nat) (hz : ∀ x ∈ zs, x < 18446744073709551616) (hy : ∀ x ∈ ys, x < 18446744073709551616) : ∀ x ∈ putTo zs ys f s k, x < 18446744073709551616 := by
  induction k with
  | zero => exact hz
  | succ k ih =>
    have h1 := set_lt ih (f + k) _ (Nat.or_lt_two_pow (n := 64) (getD_lt ih (f + k)) (Nat.mod_lt (ys.getD k 0 * 2 ^ s) (by decide)))
    exact set_lt h1 _ _ (Nat.or_lt_two_pow (n := 64) (getD_lt h1 _) (Nat.lt_of_le_of_lt (Nat.div_le_self _ _) (getD_lt hy k)))

theorem tb_put (zs ys : List Nat) (f s k : Nat) (hs : s < 64) (hy : ∀ x ∈ ys, x < 18446744073709551616) (hk : ∀ i, i < k → f + i < zs.length ∧ (f + i + 1 < zs.length ∨ ys.getD i 0 / 2 ^ (64 - s) = 0)) (j : Nat) :
    tb (putTo zs ys f s k) j = (tb zs j || (decide (64 * f + s ≤ j) && decide (j < 64 * f + s + 64 * k) && tb ys (j - (64 * f + s)))) := by
  induction k with
  | zero =>
    by_cases h : 64 * f + s ≤ j
    · simp [putTo, show ¬ j < 64 * f + s by omega]
    · simp [putTo, h]
  | succ k ih =>
    have ih' := ih fun i hi => hk i (by omega)
    obtain ⟨h1, h2⟩ := hk k (by omega)
    have hlen := putTo_len zs ys f s k
    have hyk := getD_lt hy k
    have key : tb (putTo zs ys f s (k + 1)) j = (tb (putTo zs ys f s k) j || (decide (j / 64 = f + k) && (ys.getD k 0 * 2 ^ s % 18446744073709551616).testBit (j % 64)) || (decide (j / 64 = f + k + 1) && (ys.getD k 0 / 2 ^ (64 - s)).testBit (j % 64))) := by
      simp only [putTo]
      have e1 : tb ((putTo zs ys f s k).set (f + k) ((putTo zs ys f s k).getD (f + k) 0 ||| ys.getD k 0 * 2 ^ s % 18446744073709551616)) j = (tb (putTo zs ys f s k) j || (decide (j / 64 = f + k) && (ys.getD k 0 * 2 ^ s % 18446744073709551616).testBit (j % 64))) := by
        rw [tb_set _ _ _ _ (by omega)]
        by_cases h : j / 64 = f + k
        · rw [if_pos h, Nat.testBit_or]; unfold tb; rw [h]; simp
        · rw [if_neg h]; simp [h]
      rcases h2 with h2 | h2
      · rw [tb_set _ _ _ _ (by simp; omega)]
        by_cases h : j / 64 = f + k + 1
        · rw [if_pos h, Nat.testBit_or, ← e1]
          have : ((List.set (putTo zs ys f s k) (f + k) ((putTo zs ys f s k).getD (f + k) 0 ||| ys.getD k 0 * 2 ^ s % 18446744073709551616)).getD (f + k + 1) 0).testBit (j % 64) = tb ((putTo zs ys f s k).set (f + k) ((putTo zs ys f s k).getD (f + k) 0 ||| ys.getD k 0 * 2 ^ s % 18446744073709551616)) j := by unfold tb; rw [h]
          rw [this]; simp [h]
        · rw [if_neg h, e1]; simp [h]
      · rw [h2, Nat.or_zero]
        have e2 : ∀ (l : List Nat) (i : Nat), l.set i (l.getD i 0) = l := by
          intro l i
          by_cases hi : i < l.length
          · have : l.getD i 0 = l[i] := by simp [List.getD, hi]
            rw [this, List.set_getElem_self]
          · exact List.set_eq_of_length_le (by omega)
        rw [e2, e1]; simp
    rw [key, ih']
    have hsp : (18446744073709551616 : Nat) = 2 ^ 64 := by decide
    rw [hsp, Nat.testBit_mod_two_pow, Nat.testBit_mul_two_pow, Nat.testBit_div_two_pow]
    have hlt : j % 64 < 64 := by omega
    by_cases ha : 64 * f + s ≤ j ∧ j < 64 * f + s + 64 * k
    · -- an earlier word's place: this one's bits do not reach there
      have n1 : ¬ (j / 64 = f + k ∧ s ≤ j % 64) := by omega
      have n2 : ¬ (j / 64 = f + k + 1) := by omega
      have c1 : decide (j < 64 * f + s + 64 * (k + 1)) = true := by simp; omega
      have c2 : decide (64 * f + s ≤ j) = true := by simp; omega
      have c3 : decide (j < 64 * f + s + 64 * k) = true := by simp; omega
      rw [c1, c2, c3]
      by_cases h5 : j / 64 = f + k
      · have : decide (s ≤ j % 64) = false := by simp; omega
        simp [h5, this]
      · simp [h5, n2]
    · by_cases hb : 64 * f + s + 64 * k ≤ j ∧ j < 64 * f + s + 64 * (k + 1)
      · have c1 : decide (j < 64 * f + s + 64 * (k + 1)) = true := by simp; omega
        have c2 : decide (64 * f + s ≤ j) = true := by simp; omega
        have c3 : decide (j < 64 * f + s + 64 * k) = false := by simp; omega
        rw [c1, c2, c3]
        have e3 : (j - (64 * f + s)) / 64 = k := by omega
        by_cases h5 : j / 64 = f + k
        · have e4 : (j - (64 * f + s)) % 64 = j % 64 - s := by omega
          unfold tb
          rw [e3, e4]
          simp [h5, hlt, show s ≤ j % 64 by omega]
        · have h6 : j / 64 = f + k + 1 := by omega
          have e4 : (j - (64 * f + s)) % 64 = j % 64 + (64 - s) := by omega
          unfold tb
          rw [e3, e4]
          simp [h6]
      · have c1 : (decide (64 * f + s ≤ j) && decide (j < 64 * f + s + 64 * (k + 1))) = false := by simp; omega
        have c2 : (decide (64 * f + s ≤ j) && decide (j < 64 * f + s + 64 * k)) = false := by simp; omega
        rw [c1, c2]
        simp only [Bool.false_and, Bool.or_false]
        by_cases h5 : j / 64 = f + k
        · have : decide (s ≤ j % 64) = false := by simp; omega
          simp [h5, this]
        · by_cases h6 : j / 64 = f + k + 1
          · have : (ys.getD k 0).testBit (j % 64 + (64 - s)) = false := by
              refine Nat.testBit_lt_two_pow (Nat.lt_of_lt_of_le hyk ?_)
              exact (show 2 ^ 64 ≤ 2 ^ (j % 64 + (64 - s)) from Nat.pow_le_pow_right (by omega) (by omega))
            rw [this]
            simp [h5]
          · simp [h5, h6]

set_option maxHeartbeats 1000000 in
set_option maxRecDepth 100000 in
theorem putBits_any (Wi Wb : Int) (g ci cb P : Nat) (ab : Option Addr) (zs ys : List Nat) (w : World) (ho : Own w g zs) (hr : Rd w ab ys) (hz : ∀ x ∈ zs, x < 18446744073709551616) (hP : P ≤ 4096) (hzl : zs.length ≤ 64) (hyl : ys.length ≤ 64)
    (hk : ∀ i, i < ys.length → P / 64 + i < zs.length ∧ (P / 64 + i + 1 < zs.length ∨ ys.getD i 0 / 2 ^ (64 - P % 64) = 0)) (hab : ∀ x, ab = some x → x.block ≠ g) :
    Calls Tryz.prog 140 #[.agg #[.int .i64 Wi, .slice (some ⟨g, 0, none⟩) zs.length ci], .agg #[.int .i64 Wb, .slice ab ys.length cb], .int .i64 P] w fun e w' => e = .returned (.tuple #[]) ∧ Own w' g (putTo zs ys (P / 64) (P % 64) ys.length) ∧ w.grownBy w' (some g) := by
  have hgw := ho.lt
  have hy := hr.2.1
  have hB2 : Below w.heap.size w ((w.alloc (Obj.cells #[Value.int IntKind.i64 Wi, Value.slice (some { block := g, off := 0 }) zs.length ci] 82)).alloc (Obj.cells #[Value.int IntKind.i64 Wb, Value.slice ab ys.length cb] 82)) := Ba (Ba (Below.refl _ _) _) _
  have ho2 := ho.later hB2 hgw
  have hr2 := hr.later hB2
  have k0 : ((w.alloc (Obj.cells #[Value.int IntKind.i64 Wi, Value.slice (some { block := g, off := 0 }) zs.length ci] 82)).alloc (Obj.cells #[Value.int IntKind.i64 Wb, Value.slice ab ys.length cb] 82)).cell? ⟨w.heap.size, 1, none⟩ = some (Value.slice (some { block := g, off := 0 }) zs.length ci) := by
    rw [acell _ _ _ (by simp)]; simp
  have hsz : ((w.alloc (Obj.cells #[Value.int IntKind.i64 Wi, Value.slice (some { block := g, off := 0 }) zs.length ci] 82)).alloc (Obj.cells #[Value.int IntKind.i64 Wb, Value.slice ab ys.length cb] 82)).heap.size = w.heap.size + 2 := by simp
  go_enter Tryz.func140, Tryz.ntmps140
  go_wp2
  generalize ((w.alloc (Obj.cells #[Value.int IntKind.i64 Wi, Value.slice (some { block := g, off := 0 }) zs.length ci] 82)).alloc (Obj.cells #[Value.int IntKind.i64 Wb, Value.slice ab ys.length cb] 82)) = w2 at *
  clear ho hr
  go_loopw [19] (fun i wr => ∃ k : Nat, k ≤ ys.length ∧ i = .int .i64 k ∧ Own wr g (putTo zs ys (P / 64) (P % 64) k) ∧ w2.grownBy wr (some g)) (fun i _ => ys.length - (intOf i).toNat)
  case atStart => exact ⟨0, Nat.zero_le _, rfl, ho2, World.grownBy.refl _ _⟩
  case round =>
    obtain ⟨k, hkl, rfl, hown, hgr⟩ := hrel
    by_cases hlt : k < ys.length
    · obtain ⟨-, -, hn | ⟨b, o, rfl, hcell⟩⟩ := hr2
      · subst hn; simp at hlt
      have hbg : b ≠ g := hab _ rfl
      have hbl : b < w2.heap.size := block_lt_of_cell (hcell k hlt)
      have b1 := (gcell hgr 1 (b := w.heap.size) (by omega) (by omega)).trans k0
      have x1 := (gcell hgr _ hbl hbg).trans (hcell k hlt)
      obtain ⟨hf1, hf2⟩ := hk k hlt
      have hlen := putTo_len zs ys (P / 64) (P % 64) k
      have hcg := hown.cell (i := P / 64 + k) (by omega)
      have hfg := hown.free (P / 64 + k)
      have hfg2 := hown.free (P / 64 + k + 1)
      have hplt := putTo_lt zs ys (P / 64) (P % 64) k hz hy
      have hY := getD_lt hy k
      have hZ1 := getD_lt hplt (P / 64 + k)
      have i1 : (P : Int) / 64 + (k : Int) < (zs.length : Int) := by omega
      have i2 : (k : Int) < (ys.length : Int) := by omega
      have hgs : ¬ w.heap.size = g := by omega
      have hstep : putTo zs ys (P / 64) (P % 64) (k + 1) = ((putTo zs ys (P / 64) (P % 64) k).set (P / 64 + k) ((putTo zs ys (P / 64) (P % 64) k).getD (P / 64 + k) 0 ||| ys.getD k 0 * 2 ^ (P % 64) % 18446744073709551616)).set (P / 64 + k + 1) (((putTo zs ys (P / 64) (P % 64) k).set (P / 64 + k) ((putTo zs ys (P / 64) (P % 64) k).getD (P / 64 + k) 0 ||| ys.getD k 0 * 2 ^ (P % 64) % 18446744073709551616)).getD (P / 64 + k + 1) 0 ||| ys.getD k 0 / 2 ^ (64 - P % 64)) := rfl
      have hgd : ((putTo zs ys (P / 64) (P % 64) k).set (P / 64 + k) ((putTo zs ys (P / 64) (P % 64) k).getD (P / 64 + k) 0 ||| ys.getD k 0 * 2 ^ (P % 64) % 18446744073709551616)).getD (P / 64 + k + 1) 0 = (putTo zs ys (P / 64) (P % 64) k).getD (P / 64 + k + 1) 0 := by
        simp [List.getD, List.getElem?_set]
      rw [hgd] at hstep
      by_cases hrest : ys.getD k 0 / 2 ^ (64 - P % 64) = 0
      · have hstep2 : putTo zs ys (P / 64) (P % 64) (k + 1) = (putTo zs ys (P / 64) (P % 64) k).set (P / 64 + k) ((putTo zs ys (P / 64) (P % 64) k).getD (P / 64 + k) 0 ||| ys.getD k 0 * 2 ^ (P % 64) % 18446744073709551616) := by
          rw [hstep, hrest, Nat.or_zero]
          by_cases hin : P / 64 + k + 1 < (putTo zs ys (P / 64) (P % 64) k).length
          · have e : (putTo zs ys (P / 64) (P % 64) k).getD (P / 64 + k + 1) 0 = ((putTo zs ys (P / 64) (P % 64) k).set (P / 64 + k) ((putTo zs ys (P / 64) (P % 64) k).getD (P / 64 + k) 0 ||| ys.getD k 0 * 2 ^ (P % 64) % 18446744073709551616))[P / 64 + k + 1]'(by simpa using hin) := by
              simp [List.getD, hin]
            rw [e, List.set_getElem_self]
          · exact List.set_eq_of_length_le (by simp; omega)
        have hne : ((ys.getD k 0 : Nat) : Int) / 2 ^ (64 - P % 64) = 0 := by rw [castDiv, hrest]; rfl
        have HO : Hid (Own (wr.setCell ⟨g, P / 64 + k, none⟩ (.int .u64 (bits BinOp.or IntKind.u64 (((putTo zs ys (P / 64) (P % 64) k).getD (P / 64 + k) 0 : Nat) : Int) (IntKind.u64.wrap (((ys.getD k 0 : Nat) : Int) * 2 ^ (P % 64)))))) g (putTo zs ys (P / 64) (P % 64) (k + 1))) := by
          show Own _ _ _
          rw [hstep2, orShift _ _ _ hZ1]
          exact hown.put _ _
        clear hstep hstep2 hgd hown hcell hk hplt hrest hlen
        generalize (putTo zs ys (P / 64) (P % 64) k).getD (P / 64 + k) 0 = z at *
        generalize ys.getD k 0 = y at *
        have hne2 : ((y : Int) / 2 ^ (64 - P % 64) != 0) = false := by simp [hne]
        clear hne
        go_wp2
        go_region
        go_wp2
        go_roundw
        case rel => exact ⟨k + 1, by omega, by go_num, HO.out, grown_drew (grown_set hgr _ _)⟩
        case measure => simp [intOf]; omega
      · have hin : P / 64 + k + 1 < zs.length := by
          rcases hf2 with h | h
          · exact h
          · exact absurd h hrest
        have hcg2 := hown.cell (i := P / 64 + k + 1) (by omega)
        have i3 : (P : Int) / 64 + (k : Int) + 1 < (zs.length : Int) := by omega
        have hZ2 := getD_lt hplt (P / 64 + k + 1)
        have hne2 : (((ys.getD k 0 : Nat) : Int) / 2 ^ (64 - P % 64) != 0) = true := by rw [castDiv]; simp only [bne_iff_ne, ne_eq]; omega
        have HO : Hid (Own ((wr.setCell ⟨g, P / 64 + k, none⟩ (.int .u64 (bits BinOp.or IntKind.u64 (((putTo zs ys (P / 64) (P % 64) k).getD (P / 64 + k) 0 : Nat) : Int) (IntKind.u64.wrap (((ys.getD k 0 : Nat) : Int) * 2 ^ (P % 64)))))).setCell ⟨g, P / 64 + k + 1, none⟩ (.int .u64 (bits BinOp.or IntKind.u64 (((putTo zs ys (P / 64) (P % 64) k).getD (P / 64 + k + 1) 0 : Nat) : Int) (((ys.getD k 0 : Nat) : Int) / 2 ^ (64 - P % 64))))) g (putTo zs ys (P / 64) (P % 64) (k + 1))) := by
          show Own _ _ _
          rw [hstep, orShift _ _ _ hZ1, castDiv, bits_or_u64_nat _ _ hZ2 (Nat.lt_of_le_of_lt (Nat.div_le_self _ _) hY)]
          exact (hown.put _ _).put _ _
        clear hstep hgd hown hcell hk hplt hrest hlen
        generalize (putTo zs ys (P / 64) (P % 64) k).getD (P / 64 + k) 0 = z at *
        generalize (putTo zs ys (P / 64) (P % 64) k).getD (P / 64 + k + 1) 0 = z2 at *
        generalize ys.getD k 0 = y at *
        go_wp2
        go_region
        go_wp2
        go_roundw
        case rel => exact ⟨k + 1, by omega, by go_num, HO.out, grown_set (grown_drew (grown_set hgr _ _)) _ _⟩
        case measure => simp [intOf]; omega
    · have e : k = ys.length := by omega
      subst e
      go_wp2
      go_end0
      exact ⟨rfl, hown, ⟨hgr.os.trans hB2.os, hgr.tape.trans hB2.tape, hgr.output.trans hB2.output, Nat.le_trans hB2.size hgr.size, fun j hj hne => (hgr.block j (by omega) hne).trans (hB2.block j hj)⟩⟩

end Go.Proofs.YtllojnloldhghaaGreatDoor

/- What the given functions on words answer: RepeatBits, WidenBits. -/
namespace Go.Proofs.YtllojnloldhghaaGreatDoor
set_option linter.unusedVariables false
set_option linter.unusedSimpArgs false
open Go.RowKit

/-- 'append(out, list...)', out the call's own, list not empty. -/
theorem wpList_appBs (w : World) {ops : Array Oper} {rest : List Oper} {o : Oper} {a : Act} {Q : Exit → Act → World → Prop} (hgd : o.guard = none) (s x : Operand)
    (ho : o.op = .call { callee := .builtin .append, args := #[s, x], argTypes := #[114, 114] })
    (base : Nat) (v : Value) (bs ys : List Nat) (hs : a.eval s = v) (hown : OwB w base v bs) (b ob c : Nat) (hx : a.eval x = .slice (some ⟨b, ob, none⟩) ys.length c)
    (hc : ∀ i, i < ys.length → w.cell? ⟨b, ob + i, none⟩ = some (.int .u8 ((ys.getD i 0 : Nat) : Int))) (hl : bs.length + ys.length ≤ 4194304) (hbase : base ≤ w.heap.size)
    (h : ∀ v' w', OwB w' base v' (bs ++ ys) → w.grownBy w' v.ownBlock → wpList Tryz.prog ops Q rest (a.put o.dst v') w') : wpList Tryz.prog ops Q (o :: rest) a w := by
  obtain ⟨i0, hi, hz0, hz1, hz2⟩ := info_parts Tryz.infoU8
  refine wpList_append_own w hgd s x 114 ho base 5 i0 (.int .u8 0) 1 1 Tryz.underlying114 hi hz0 hz1 hz2 rfl (by decide) v bs.length (u8s bs) hs hown ⟨b, ob, none⟩ ys.length c (u8s ys) hx (by simp [u8s]) ?_ ?_ ?_ ?_ hbase ?_
  · intro j u hj
    have hj' : j < ys.length := by
      have := (List.getElem?_eq_some_iff.1 hj).1
      simpa [u8s] using this
    rw [Addr.add_lit, hc j hj']
    simp [u8s, hj'] at hj
    rw [← hj]
    simp [List.getD, hj']
  · intro u hu
    obtain ⟨_, _, rfl⟩ := List.mem_map.1 hu
    rfl
  · unfold maxLen; omega
  · omega
  · intro v' w' h1 h2 _
    refine h v' w' ?_ h2
    unfold OwB
    simpa [u8s] using h1

def repList (bs : List Nat) (k : Nat) : List Nat := (List.replicate k bs).flatten
theorem repList_succ (bs : List Nat) (k : Nat) : repList bs (k + 1) = repList bs k ++ bs := by
  unfold repList
  rw [List.replicate_succ', List.flatten_append]; simp
theorem repList_len (bs : List Nat) (k : Nat) : (repList bs k).length = k * bs.length := by
  induction k with
  | zero => simp [repList]
  | succ k ih => rw [repList_succ, List.length_append, ih, Nat.succ_mul]
theorem repList_mem (bs : List Nat) (k x : Nat) (h : x ∈ repList bs k) : x ∈ bs := by
  unfold repList at h
  simp at h
  obtain ⟨l, ⟨_, rfl⟩, hx⟩ := h
  exact hx

def repR (W : Int) (xs : List Nat) (n : Int) : Int × List Nat × Bool :=
  if rightB W xs = true ∧ 1 ≤ n ∧ n ≤ 4096 ∧ W * n ≤ 4096 then (W * n, pack (repList (bitsTo xs W.toNat) n.toNat), true) else noR

set_option maxHeartbeats 1000000 in
set_option maxRecDepth 100000 in
theorem specRep_any (W : Int) (a : Option Addr) (c : Nat) (xs : List Nat) (n : Int) (w : World) (hr : Rd w a xs) :
    Calls Tryz.prog 130 #[.agg #[.int .i64 W, .slice a xs.length c], .int .i64 n] w (RetB w (repR W xs n)) := by
  have h2 : Below w.heap.size w ((w.alloc (Obj.cells #[Value.int IntKind.i64 W, Value.slice a xs.length c] 82)).alloc (Obj.cells #[Value.int IntKind.i64 0, Value.slice none 0 0] 82)) := ((Below.refl _ _).alloc (Nat.le_refl _) _).alloc (by simp) _
  have hr' := hr.later h2
  by_cases hc : rightB W xs = true ∧ 1 ≤ n ∧ n ≤ 4096 ∧ W * n ≤ 4096
  · rw [repR, if_pos hc]
    generalize hR : (W * n, pack (repList (bitsTo xs W.toNat) n.toNat), true) = R
    have HR : Hid ((W * n, pack (repList (bitsTo xs W.toNat) n.toNat), true) = R) := hR
    clear hR
    obtain ⟨hok, hn1, hn2, hWn⟩ := hc
    obtain ⟨hW1, hW2, hWl⟩ := right_W hok
    obtain ⟨V, rfl⟩ := Int.eq_ofNat_of_zero_le (show 0 ≤ W by omega)
    obtain ⟨m, rfl⟩ := Int.eq_ofNat_of_zero_le (show 0 ≤ n by omega)
    have hVl : V ≤ 64 * xs.length := by omega
    have hVm : V * m ≤ 4096 := by exact_mod_cast hWn
    have hd : decide (1 ≤ (m : Int) ∧ (m : Int) ≤ 4096) = true := by simp; omega
    have hm1 : 1 ≤ m := by omega
    have HWl : Hid ((xs.length : Int) = ((V : Int) + 63) / 64) := hWl
    clear hWl
    go_enter Tryz.func130, Tryz.ntmps130
    go_wp2_with fail
    refine (specOk_any _ _ _ _ _ hr').mono ?_
    rintro e w1 ⟨rfl, hb1⟩
    have hr1 := hr'.later hb1
    have HB1 := hb1
    obtain ⟨hcc, hff⟩ := bcell hb1
    have hz : w.heap.size + 1 < w1.heap.size := by have := hb1.size; simp at this; omega
    clear hb1
    go_wp2_with (go_at_call 70; refine (l1In_any _ _ _ _).mono ?_; rintro e w' ⟨rfl, rfl⟩)
    refine (l1List_any _ _ _ _ _ hr1 hVl (by omega)).mono ?_
    rintro e w2 ⟨v, rfl, how, hb2⟩
    have hlen := bitsTo_len xs V
    have hle := bitsTo_le xs V
    obtain ⟨a2, c2, rfl, hrb, hc2, hm2⟩ := how.shape (by rw [bitsTo_len]; omega) (fun x hx => by have := hle x hx; omega)
    have HB2 := chain HB1 hb2
    rw [hlen] at hc2 ⊢
    obtain ⟨-, -, hn | ⟨bb, oo, rfl, hcell⟩⟩ := hrb
    · rw [hn] at hlen; simp at hlen; omega
    have hbb : bb < w2.heap.size := block_lt_of_cell (hcell 0 (by omega))
    clear how hb2 hr hr' hr1 hcc hff hz HB1
    go_wp2_with fail
    have HB3 := Ba HB2 (Obj.cells #[] 5)
    have hB23 : Below w2.heap.size w2 (w2.alloc (Obj.cells #[] 5)) := (Below.refl _ _).alloc (Nat.le_refl _) _
    have hcell3 : ∀ i, i < V → (w2.alloc (Obj.cells #[] 5)).cell? ⟨bb, oo + i, none⟩ = some (.int .u8 (((bitsTo xs V).getD i 0 : Nat) : Int)) := fun i hi => by rw [acell _ _ _ hbb]; exact hcell i (by omega)
    have how3 := OwB.nil w2 w2.heap.size _ rfl (Nat.le_refl _)
    have hs3 : (w2.alloc (Obj.cells #[] 5)).heap.size = w2.heap.size + 1 := by simp
    generalize w2.alloc (Obj.cells #[] 5) = w3 at *
    generalize hbs : bitsTo xs V = bs at *
    have HBS : Hid (bitsTo xs V = bs) := hbs
    clear hbs hcell
    go_loopw [7, 8] (fun v i wr => ∃ k : Nat, k ≤ m ∧ i = .int .i64 k ∧ OwB wr w2.heap.size v (repList bs k) ∧ Below w2.heap.size w3 wr) (fun _ i _ => m - (intOf i).toNat)
    case atStart => exact ⟨0, Nat.zero_le _, rfl, how3, Below.refl _ _⟩
    case round =>
      obtain ⟨k, hk, rfl, hown, hbel⟩ := hrel
      by_cases hlt : k < m
      · have hrl := repList_len bs k
        rw [hlen] at hrl
        have hkV : k * V ≤ 4096 := by
          have : k * V ≤ m * V := Nat.mul_le_mul_right _ (by omega)
          rw [Nat.mul_comm m V] at this; omega
        have hsz := hbel.size
        have hcr : ∀ i, i < bs.length → wr.cell? ⟨bb, oo + i, none⟩ = some (.int .u8 ((bs.getD i 0 : Nat) : Int)) := fun i hi => by
          rw [hbel.cell (p := ⟨bb, oo + i, none⟩) (by exact hbb)]; exact hcell3 i (by omega)
        have HS : Hid (repList bs (k + 1) = repList bs k ++ bs) := repList_succ bs k
        have hll : (repList bs k).length + bs.length ≤ 4194304 := by rw [hrl, hlen]; omega
        clear hcell3 how3
        generalize repList bs k = rk at *
        go_wp2_with (at_builtin; refine wpList_appBs _ rfl _ _ rfl w2.heap.size _ rk bs rfl hown bb oo c2 (by rw [hlen]; rfl) hcr hll (by omega) ?_)
        intro v' w4 hown4 hgr4
        have hb4 : Below w2.heap.size w3 w4 := hbel.grown hgr4 (by omega) hown.own
        clear hgr4 hown hcr hbel
        go_wp2
        go_roundw
        case rel => exact ⟨k + 1, by omega, by go_num, by rw [HS.out]; exact hown4, hb4⟩
        case measure => simp [intOf]; omega
      · have e : k = m := by omega
        subst e
        have hrl := repList_len bs k
        rw [hlen] at hrl
        have hkV : k * V ≤ 4096 := by rw [Nat.mul_comm]; exact hVm
        have hkV1 : 1 ≤ k * V := Nat.mul_pos (by omega) (by omega)
        obtain ⟨a4, c4, rfl, hrb4, hc4, hm4⟩ := hown.shape (by rw [hrl]; omega) (fun x hx => by have := hle x (repList_mem _ _ _ hx); omega)
        have HBr := HB3.trans (hbel.mono HB2.size)
        have HQ : Hid ((((repList bs k).length : Int), pack (repList bs k), true) = R) := by
          show _ = _
          rw [← HR.out, Int.toNat_natCast, Int.toNat_natCast, HBS.out, hrl, Nat.mul_comm k V, Int.natCast_mul]
        have hfrom := l1From_yes a4 c4 (repList bs k) wr hrb4 (by omega) (by omega)
        clear hcell3 how3 hown hrb4 hbel HR HBS
        generalize repList bs k = rk at *
        clear hrl
        go_wp2_with fail
        refine hfrom.mono ?_
        rintro e w5 ⟨a5, c5, rfl, hfr, hb5⟩
        have HB5 := chain HBr hb5
        obtain ⟨hcc, hff⟩ := bcell HB5
        have hz5 : w.heap.size + 1 < w5.heap.size := by have := HB5.size; simp at this; omega
        have hzr : w.heap.size + 1 < wr.heap.size := by have := HBr.size; simp at this; omega
        dsimp only at hfr ⊢
        clear hfrom
        go_wp2
        exact bodyPost_ret (by simp [results, Tryz.results130, go_sem, hcc, hz5]; rfl) rfl (RetB.close (r := ((rk.length : Int), pack rk, true)) hfr (by omega) hzr (h2.trans (HB5.mono (by simp; omega))) HQ.out _ _)
  · rw [repR, if_neg hc]
    have hcase : rightB W xs = false ∨ (rightB W xs = true ∧ decide (1 ≤ n ∧ n ≤ 4096) = false) ∨ (rightB W xs = true ∧ decide (1 ≤ n ∧ n ≤ 4096) = true ∧ 4096 < W * n) := by
      cases hb : rightB W xs with
      | false => exact .inl rfl
      | true =>
        right
        by_cases h : 1 ≤ n ∧ n ≤ 4096
        · right; simp [hb, h] at hc ⊢; omega
        · left; simp only [h, decide_false]; simp
    clear hc
    rcases hcase with h | ⟨h, h1⟩ | ⟨h, h1, h3⟩
    · go_enter Tryz.func130, Tryz.ntmps130
      go_wp2_with fail
      refine (specOk_any _ _ _ _ _ hr').mono ?_
      rintro e w1 ⟨rfl, hb1⟩
      obtain ⟨hcc, hff⟩ := bcell hb1
      have hz : w.heap.size + 1 < w1.heap.size := by have := hb1.size; simp at this; omega
      go_wp2_with (go_at_call 70; refine (l1In_any _ _ _ _).mono ?_; rintro e w' ⟨rfl, rfl⟩)
      exact bodyPost_ret (v := .tuple #[.agg #[.int .i64 0, .slice none 0 0], .bool false]) (by simp [results, Tryz.results130, go_sem, hcc]) rfl (RetB.no (((h2.trans (hb1.mono (by simp; omega))).setCell (by simp) _).setCell (by simp) _))
    · go_enter Tryz.func130, Tryz.ntmps130
      go_wp2_with fail
      refine (specOk_any _ _ _ _ _ hr').mono ?_
      rintro e w1 ⟨rfl, hb1⟩
      obtain ⟨hcc, hff⟩ := bcell hb1
      have hz : w.heap.size + 1 < w1.heap.size := by have := hb1.size; simp at this; omega
      go_wp2_with (go_at_call 70; refine (l1In_any _ _ _ _).mono ?_; rintro e w' ⟨rfl, rfl⟩)
      exact bodyPost_ret (v := .tuple #[.agg #[.int .i64 0, .slice none 0 0], .bool false]) (by simp [results, Tryz.results130, go_sem, hcc]) rfl (RetB.no (((h2.trans (hb1.mono (by simp; omega))).setCell (by simp) _).setCell (by simp) _))
    · have hn := of_decide_eq_true h1
      obtain ⟨hW1, hW2, _⟩ := right_W h
      have hmul : W * n ≤ 4096 * 4096 := Int.mul_le_mul hW2 hn.2 (by omega) (by omega)
      go_enter Tryz.func130, Tryz.ntmps130
      go_wp2_with fail
      refine (specOk_any _ _ _ _ _ hr').mono ?_
      rintro e w1 ⟨rfl, hb1⟩
      obtain ⟨hcc, hff⟩ := bcell hb1
      have hz : w.heap.size + 1 < w1.heap.size := by have := hb1.size; simp at this; omega
      go_wp2_with (go_at_call 70; refine (l1In_any _ _ _ _).mono ?_; rintro e w' ⟨rfl, rfl⟩)
      exact bodyPost_ret (v := .tuple #[.agg #[.int .i64 0, .slice none 0 0], .bool false]) (by simp [results, Tryz.results130, go_sem, hcc]) rfl (RetB.no (((h2.trans (hb1.mono (by simp; omega))).setCell (by simp) _).setCell (by simp) _))

end Go.Proofs.YtllojnloldhghaaGreatDoor

/- What the program's RepeatBits answers: what the given one does. -/
namespace Go.Proofs.YtllojnloldhghaaGreatDoor
set_option linter.unusedVariables false
set_option linter.unusedSimpArgs false
open Go.RowKit

theorem Blk.free {w : World} {β : Nat} {x y : Value} {t : TypeId} (h : Blk w β x y t) (i : Nat) : w.frozen? ⟨β, i, none⟩ = false := frozen_of_row w β i _ _ h
theorem Blk.new1 (w : World) (o : Obj) (x y : Value) (t : TypeId) : Blk ((w.alloc o).alloc (.cells #[x, y] t)) (w.heap.size + 1) x y t := heap_alloc2_new _ _ _
theorem Blk.new2 (w : World) (o p : Obj) (x y : Value) (t : TypeId) : Blk (((w.alloc o).alloc p).alloc (.cells #[x, y] t)) (w.heap.size + 1 + 1) x y t := by
  have := heap_alloc2_new (w.alloc o) p (.cells #[x, y] t)
  rw [World.size_alloc] at this
  exact this

/-- A right row fits where there are as many bits from the place on as it is wide. -/
theorem put_fit {V : Nat} {xs : List Nat} (hok : rightB V xs = true) (hx : ∀ x ∈ xs, x < 18446744073709551616) (P N : Nat) (h : P + V ≤ 64 * N) :
    ∀ i, i < xs.length → P / 64 + i < N ∧ (P / 64 + i + 1 < N ∨ xs.getD i 0 / 2 ^ (64 - P % 64) = 0) := by
  intro i hi
  obtain ⟨h1, h2, h3⟩ := right_W hok
  refine ⟨by omega, ?_⟩
  by_cases hN : P / 64 + i + 1 < N
  · exact .inl hN
  · right
    refine Nat.eq_of_testBit_eq fun j => ?_
    rw [Nat.testBit_div_two_pow, Nat.zero_testBit]
    by_cases hj : j + (64 - P % 64) < 64
    · have := tb_out hok (64 * i + (j + (64 - P % 64))) (by omega)
      unfold tb at this
      rw [show (64 * i + (j + (64 - P % 64))) / 64 = i by omega, show (64 * i + (j + (64 - P % 64))) % 64 = j + (64 - P % 64) by omega] at this
      exact this
    · exact Nat.testBit_lt_two_pow (Nat.lt_of_lt_of_le (getD_lt hx i) (show 2 ^ 64 ≤ 2 ^ (j + (64 - P % 64)) from Nat.pow_le_pow_right (by omega) (by omega)))

theorem tb_put_right {V : Nat} {xs : List Nat} (hok : rightB V xs = true) (hx : ∀ x ∈ xs, x < 18446744073709551616) (zs : List Nat) (P : Nat) (h : P + V ≤ 64 * zs.length) (j : Nat) :
    tb (putTo zs xs (P / 64) (P % 64) xs.length) j = (tb zs j || (decide (P ≤ j) && tb xs (j - P))) := by
  rw [tb_put zs xs _ _ _ (by omega) hx (put_fit hok hx P zs.length h), show 64 * (P / 64) + P % 64 = P by omega]
  by_cases h1 : P ≤ j
  · by_cases h2 : j < P + 64 * xs.length
    · simp [h1, h2]
    · have := right_W hok
      rw [tb_out hok (j - P) (by omega)]; simp
  · simp [h1]

def repTo (V : Nat) (xs : List Nat) (N : Nat) : Nat → List Nat
  | 0 => List.replicate N 0
  | k + 1 => putTo (repTo V xs N k) xs (k * V / 64) (k * V % 64) xs.length

theorem repTo_len (V : Nat) (xs : List Nat) (N k : Nat) : (repTo V xs N k).length = N := by
  induction k with
  | zero => simp [repTo]
  | succ k ih => rw [repTo, putTo_len, ih]
theorem repTo_lt (V : Nat) (xs : List Nat) (N k : Nat) (hx : ∀ x ∈ xs, x < 18446744073709551616) : ∀ x ∈ repTo V xs N k, x < 18446744073709551616 := by
  induction k with
  | zero => intro x h; simp [repTo] at h; omega
  | succ k ih => exact putTo_lt _ _ _ _ _ ih hx

theorem tb_zero (N j : Nat) : tb (List.replicate N 0) j = false := by
  unfold tb
  simp only [List.getD, List.getElem?_replicate]
  split <;> simp

theorem tb_rep {V : Nat} {xs : List Nat} (hok : rightB V xs = true) (hx : ∀ x ∈ xs, x < 18446744073709551616) (N m : Nat) (hN : m * V ≤ 64 * N) (k : Nat) (hk : k ≤ m) (j : Nat) :
    tb (repTo V xs N k) j = (decide (j < k * V) && tb xs (j % V)) := by
  have hV := right_W hok
  induction k with
  | zero => simp [repTo, tb_zero]
  | succ k ih =>
    have hk1 : k * V + V ≤ m * V := by
      have : (k + 1) * V ≤ m * V := Nat.mul_le_mul_right _ hk
      rwa [Nat.succ_mul] at this
    rw [repTo, tb_put_right hok hx _ _ (by rw [repTo_len]; omega), ih (by omega), Nat.succ_mul]
    by_cases h1 : j < k * V
    · simp [h1, show ¬ k * V ≤ j by omega, show j < k * V + V by omega]
    · by_cases h2 : j < k * V + V
      · have e : j % V = j - k * V := by
          have h3 : j = (j - k * V) + V * k := by rw [Nat.mul_comm V k]; omega
          rw [h3, Nat.add_mul_mod_self_left, Nat.mod_eq_of_lt (by omega)]
          rw [Nat.mul_comm V k]; omega
        simp [h1, h2, show k * V ≤ j by omega, e]
      · rw [tb_out hok (j - k * V) (by omega)]
        simp [h1, h2]

theorem repList_get (bs : List Nat) (V : Nat) (hV : bs.length = V) (hp : 0 < V) (k j : Nat) (hj : j < k * V) : (repList bs k).getD j 0 = bs.getD (j % V) 0 := by
  induction k with
  | zero => simp at hj
  | succ k ih =>
    rw [repList_succ]
    have hl := repList_len bs k
    rw [hV] at hl
    simp only [List.getD]
    by_cases h : j < k * V
    · rw [List.getElem?_append_left (by omega)]
      have := ih h
      simpa only [List.getD] using this
    · rw [List.getElem?_append_right (by omega), hl]
      have e : j % V = j - k * V := by
        rw [Nat.succ_mul] at hj
        have h3 : j = (j - k * V) + V * k := by rw [Nat.mul_comm V k]; omega
        rw [h3, Nat.add_mul_mod_self_left, Nat.mod_eq_of_lt (by omega)]
        rw [Nat.mul_comm V k]; omega
      rw [e]

theorem rep_pack {V : Nat} {xs : List Nat} (hok : rightB V xs = true) (hx : ∀ x ∈ xs, x < 18446744073709551616) (m N : Nat) (hN : N = (m * V + 63) / 64) :
    repTo V xs N m = pack (repList (bitsTo xs V) m) := by
  have hV := right_W hok
  have hl := repList_len (bitsTo xs V) m
  rw [bitsTo_len] at hl
  refine eq_pack (fun x h => bitsTo_le xs V x (repList_mem _ _ _ h)) (by rw [repTo_len, hl, hN]) (repTo_lt _ _ _ _ hx) fun i hi => ?_
  rw [tb_rep hok hx N m (by omega) m (Nat.le_refl _)]
  by_cases h : i < m * V
  · rw [repList_get _ V (bitsTo_len _ _) (by omega) m i h]
    have h2 : i % V < V := Nat.mod_lt _ (by omega)
    simp [h, List.getD, bitsTo, h2]
  · have e : (repList (bitsTo xs V) m).getD i 0 = 0 := by
      simp only [List.getD]
      rw [List.getElem?_eq_none (by omega)]; rfl
    rw [e]; simp [h]

theorem Rd.lt {w : World} {a : Option Addr} {xs : List Nat} (h : Rd w a xs) (hp : 0 < xs.length) : ∀ x, a = some x → x.block < w.heap.size := by
  obtain ⟨_, _, h | ⟨b, o, rfl, hc⟩⟩ := h
  · subst h; simp at hp
  · intro x hx
    simp at hx
    subst hx
    exact block_lt_of_cell (hc 0 hp)

/-- How a function ends that gives back a row that it has filled. -/
theorem RetB.made {w w4 : World} {r : Int × List Nat × Bool} {R : Int × List Nat × Bool} {g c β : Nat} (ho : Own w4 g r.2.1) (hg : w.heap.size ≤ g) (hβ : w.heap.size ≤ β) (hne : g ≠ β) (hb : Below w.heap.size w w4) (he : r = R) (u v : Value) :
    RetB w R (.returned (.tuple #[.agg #[.int .i64 r.1, .slice (some ⟨g, 0, none⟩) r.2.1.length c], .bool r.2.2])) ((w4.setCell ⟨β, 0, none⟩ u).setCell ⟨β, 1, none⟩ v) := by
  subst he
  exact ⟨some ⟨g, 0, none⟩, c, rfl, .inr ⟨g, rfl, hg, (ho.other (by simpa using hne) _).other (by simpa using hne) _⟩, (hb.setCell hβ _).setCell hβ _⟩

set_option maxHeartbeats 1000000 in
set_option maxRecDepth 100000 in
theorem implRep_any (W : Int) (a : Option Addr) (c : Nat) (xs : List Nat) (n : Int) (w : World) (hr : Rd w a xs) :
    Calls Tryz.prog 145 #[.agg #[.int .i64 W, .slice a xs.length c], .int .i64 n] w (RetB w (repR W xs n)) := by
  have h2 : Below w.heap.size w ((w.alloc (Obj.cells #[Value.int IntKind.i64 W, Value.slice a xs.length c] 82)).alloc (Obj.cells #[Value.int IntKind.i64 0, Value.slice none 0 0] 82)) := ((Below.refl _ _).alloc (Nat.le_refl _) _).alloc (by simp) _
  have hr' := hr.later h2
  by_cases hc : rightB W xs = true ∧ 1 ≤ n ∧ n ≤ 4096 ∧ W * n ≤ 4096
  · rw [repR, if_pos hc]
    generalize hR : (W * n, pack (repList (bitsTo xs W.toNat) n.toNat), true) = R
    have HR : Hid ((W * n, pack (repList (bitsTo xs W.toNat) n.toNat), true) = R) := hR
    clear hR
    obtain ⟨hok, hn1, hn2, hWn⟩ := hc
    obtain ⟨hW1, hW2, hWl⟩ := right_W hok
    obtain ⟨V, rfl⟩ := Int.eq_ofNat_of_zero_le (show 0 ≤ W by omega)
    obtain ⟨m, rfl⟩ := Int.eq_ofNat_of_zero_le (show 0 ≤ n by omega)
    have hxx := hr.2.1
    have hab := hr.lt (by omega)
    have hVm : V * m ≤ 4096 := by exact_mod_cast hWn
    have hVm1 : 1 ≤ V * m := Nat.mul_pos (by omega) (by omega)
    have hl64 : xs.length ≤ 64 := by omega
    have bA0 := (Blk.new w (Value.int IntKind.i64 V) (Value.slice a xs.length c) 82).alloc (Obj.cells #[Value.int IntKind.i64 0, Value.slice none 0 0] 82)
    have bR0 := Blk.new1 w (Obj.cells #[Value.int IntKind.i64 V, Value.slice a xs.length c] 82) (Value.int IntKind.i64 0) (Value.slice none 0 0) 82
    have HWl : Hid ((xs.length : Int) = ((V : Int) + 63) / 64) := hWl
    clear hWl
    go_enter Tryz.func145, Tryz.ntmps145
    go_wp2_with fail
    refine (implOk_any _ _ _ _ _ hr').mono ?_
    rintro e w1 ⟨rfl, hb1⟩
    have B1 := h2.trans (hb1.mono (by simp; omega))
    have bA1 := bA0.next hb1
    have bR1 := bR0.next hb1
    obtain ⟨c0, c1⟩ := bA1.cells
    clear hb1 bA0 bR0 hr' h2
    go_wp2_with fail
    have eq1 : (V : Int) * (m : Int) = ((V * m : Nat) : Int) := by simp
    rw [eq1]
    generalize hq : V * m = q at *
    refine (zeroBits_any q _ (by omega) (by omega)).mono ?_
    rintro e w2 ⟨g, rfl, hg, hown, hb2⟩
    generalize hN : (q + 63) / 64 = N at *
    have B2 := chain B1 hb2
    have bA2 := bA1.next hb2
    have bR2 := bR1.next hb2
    have HN : Hid ((q + 63) / 64 = N) := hN
    have Hq : Hid (V * m = q) := hq
    have hgr := bR1.lt
    clear hN hq eq1 hb2 B1 bA1 bR1 c0 c1
    go_wp2_with fail
    have bO3 := Blk.new w2 (Value.int IntKind.i64 q) (Value.slice (some ⟨g, 0, none⟩) N N) 82
    have bA3 := bA2.alloc (Obj.cells #[Value.int IntKind.i64 q, Value.slice (some ⟨g, 0, none⟩) N N] 82)
    have bR3 := bR2.alloc (Obj.cells #[Value.int IntKind.i64 q, Value.slice (some ⟨g, 0, none⟩) N N] 82)
    have B3 := Ba B2 (Obj.cells #[Value.int IntKind.i64 q, Value.slice (some ⟨g, 0, none⟩) N N] 82)
    have ho3 := hown.alloc (Obj.cells #[Value.int IntKind.i64 q, Value.slice (some ⟨g, 0, none⟩) N N] 82)
    have hgl := hown.lt
    generalize w2.alloc (Obj.cells #[Value.int IntKind.i64 q, Value.slice (some ⟨g, 0, none⟩) N N] 82) = w3 at *
    go_loopw [33] (fun i wr => ∃ k : Nat, k ≤ m ∧ i = .int .i64 k ∧ Own wr g (repTo V xs N k) ∧ Blk wr w2.heap.size (Value.int IntKind.i64 q) (Value.slice (some ⟨g, 0, none⟩) N N) 82 ∧ Blk wr w.heap.size (Value.int IntKind.i64 V) (Value.slice a xs.length c) 82 ∧ Blk wr (w.heap.size + 1) (Value.int IntKind.i64 0) (Value.slice none 0 0) 82 ∧ Below w.heap.size w wr) (fun i _ => m - (intOf i).toNat)
    case atStart => exact ⟨0, Nat.zero_le _, rfl, ho3, bO3, bA3, bR3, B3⟩
    case round =>
      obtain ⟨k, hk, rfl, hownk, bO, bA, bR, B⟩ := hrel
      obtain ⟨c0, c1⟩ := bA.cells
      obtain ⟨d0, d1⟩ := bO.cells
      by_cases hlt : k < m
      · have hkV : k * V + V ≤ q := by
          rw [← Hq.out, Nat.mul_comm V m]
          have : (k + 1) * V ≤ m * V := Nat.mul_le_mul_right _ hlt
          rwa [Nat.succ_mul] at this
        have hlenk := repTo_len V xs N k
        have hNq := HN.out
        have hput := putBits_any (q : Int) (V : Int) g N c (k * V) a (repTo V xs N k) xs wr hownk (hr.later B) (repTo_lt V xs N k hxx) (by omega) (by rw [hlenk]; omega) hl64 (by rw [hlenk]; exact put_fit hok hxx _ _ (by omega)) (fun x hx => by have := hab x hx; omega)
        rw [hlenk] at hput
        have hmulk : (k : Int) * (V : Int) ≤ 4096 := by
          have : k * V ≤ 4096 := by omega
          exact_mod_cast this
        have hmulk0 : (0 : Int) ≤ (k : Int) * (V : Int) := by
          have : 0 ≤ k * V := Nat.zero_le _
          exact_mod_cast this
        clear hlenk hNq
        go_wp2_with fail
        rw [Int.natCast_mul] at hput
        refine hput.mono ?_
        rintro e w4 ⟨rfl, hown4, hgr4⟩
        have f4 := hownk.fr (Nat.le_refl g)
        have m4 : Marked wr w4 (some ⟨g, 0, none⟩) := hgr4
        have bO4 := bO.mark f4 m4 (by decide)
        have bA4 := bA.mark f4 m4 (by decide)
        have bR4 := bR.mark f4 m4 (by decide)
        have B4 := m4.below f4 B (by omega)
        clear hput hownk bO bA bR B c0 c1 d0 d1 f4 m4 hgr4 bO3 bA3 bR3 B3 ho3
        go_wp2
        go_roundw
        case rel => exact ⟨k + 1, by omega, by go_num, hown4, bO4, bA4, bR4, B4⟩
        case measure => simp [intOf]; omega
      · have e : k = m := by omega
        subst e
        obtain ⟨r0, r1⟩ := bR.cells
        have f0 := bR.free 0
        have f1 := bR.free 1
        have HQ : Hid (((q : Int), repTo V xs N k, true) = R) := by
          show _ = _
          rw [rep_pack hok hxx k N (by rw [Nat.mul_comm k V, Hq.out]; exact HN.out.symm), ← HR.out, Int.toNat_natCast, Int.toNat_natCast, ← Hq.out, Int.natCast_mul]
        have HL : Hid ((repTo V xs N k).length = N) := repTo_len V xs N k
        generalize repTo V xs N k = ys at *
        clear bO bA bR bO3 bA3 bR3 B3 ho3 HR Hq HN
        go_wp2
        have hm := RetB.made (w := w) (r := ((q : Int), ys, true)) (c := N) hownk (by omega) (β := w.heap.size + 1) (by omega) (by omega) B HQ.out (Value.int IntKind.i64 q) (Value.slice (some ⟨g, 0, none⟩) N N)
        dsimp only at hm
        rw [HL.out] at hm
        exact bodyPost_ret (by simp [results, Tryz.results145, go_sem, r0, r1]) rfl hm
  · rw [repR, if_neg hc]
    have hcase : rightB W xs = false ∨ (rightB W xs = true ∧ n < 1) ∨ (rightB W xs = true ∧ 1 ≤ n ∧ 4096 < n) ∨ (rightB W xs = true ∧ 1 ≤ n ∧ n ≤ 4096 ∧ 4096 < W * n) := by
      cases hb : rightB W xs with
      | false => exact .inl rfl
      | true => simp [hb] at hc ⊢; omega
    clear hc
    rcases hcase with h | ⟨h, h1⟩ | ⟨h, h1, h3⟩ | ⟨h, h1, h3, h4⟩
    · go_enter Tryz.func145, Tryz.ntmps145
      go_wp2_with fail
      refine (implOk_any _ _ _ _ _ hr').mono ?_
      rintro e w1 ⟨rfl, hb1⟩
      obtain ⟨hcc, hff⟩ := bcell hb1
      have hz : w.heap.size + 1 < w1.heap.size := by have := hb1.size; simp at this; omega
      go_wp2
      exact bodyPost_ret (v := .tuple #[.agg #[.int .i64 0, .slice none 0 0], .bool false]) (by simp [results, Tryz.results145, go_sem, hcc]) rfl (RetB.no (((h2.trans (hb1.mono (by simp; omega))).setCell (by simp) _).setCell (by simp) _))
    · go_enter Tryz.func145, Tryz.ntmps145
      go_wp2_with fail
      refine (implOk_any _ _ _ _ _ hr').mono ?_
      rintro e w1 ⟨rfl, hb1⟩
      obtain ⟨hcc, hff⟩ := bcell hb1
      have hz : w.heap.size + 1 < w1.heap.size := by have := hb1.size; simp at this; omega
      go_wp2
      exact bodyPost_ret (v := .tuple #[.agg #[.int .i64 0, .slice none 0 0], .bool false]) (by simp [results, Tryz.results145, go_sem, hcc]) rfl (RetB.no (((h2.trans (hb1.mono (by simp; omega))).setCell (by simp) _).setCell (by simp) _))
    · go_enter Tryz.func145, Tryz.ntmps145
      go_wp2_with fail
      refine (implOk_any _ _ _ _ _ hr').mono ?_
      rintro e w1 ⟨rfl, hb1⟩
      obtain ⟨hcc, hff⟩ := bcell hb1
      have hz : w.heap.size + 1 < w1.heap.size := by have := hb1.size; simp at this; omega
      go_wp2
      exact bodyPost_ret (v := .tuple #[.agg #[.int .i64 0, .slice none 0 0], .bool false]) (by simp [results, Tryz.results145, go_sem, hcc]) rfl (RetB.no (((h2.trans (hb1.mono (by simp; omega))).setCell (by simp) _).setCell (by simp) _))
    · obtain ⟨hW1, hW2, _⟩ := right_W h
      have hmul : W * n ≤ 4096 * 4096 := Int.mul_le_mul hW2 h3 (by omega) (by omega)
      go_enter Tryz.func145, Tryz.ntmps145
      go_wp2_with fail
      refine (implOk_any _ _ _ _ _ hr').mono ?_
      rintro e w1 ⟨rfl, hb1⟩
      obtain ⟨hcc, hff⟩ := bcell hb1
      have hz : w.heap.size + 1 < w1.heap.size := by have := hb1.size; simp at this; omega
      go_wp2
      exact bodyPost_ret (v := .tuple #[.agg #[.int .i64 0, .slice none 0 0], .bool false]) (by simp [results, Tryz.results145, go_sem, hcc]) rfl (RetB.no (((h2.trans (hb1.mono (by simp; omega))).setCell (by simp) _).setCell (by simp) _))

end Go.Proofs.YtllojnloldhghaaGreatDoor

/- Rows of words of one's own; a word copied. -/
namespace Go.Proofs.YtllojnloldhghaaGreatDoor
set_option linter.unusedVariables false
set_option linter.unusedSimpArgs false
open Go.RowKit

def OwW (w : World) (base : Nat) (v : Value) (xs : List Nat) : Prop := w.ownsRow base 117 1 v xs.length (u64s xs).toList

theorem OwW.nils (w : World) (base : Nat) : OwW w base (.slice none 0 0) [] := ⟨rfl, .inl ⟨rfl, rfl⟩⟩
theorem OwW.empty (w : World) (base g : Nat) (hg : g = w.heap.size) (h : base ≤ g) : OwW (w.alloc (.cells #[] 117)) base (.slice (some ⟨g, 0, Option.none⟩) 0 0) [] := by
  subst hg
  exact World.ownsRow_made w #[] 0 h (Nat.zero_le _) (by simp)

/-- A word's bits in new memory: a block of words whose first ones they are. -/
def Nw (w : World) (lo : Nat) (a : Option Addr) (xs : List Nat) : Prop :=
  (xs = [] ∧ ∀ x, a = some x → lo ≤ x.block ∧ x.off = 0 ∧ ∃ cur, w.heap[x.block]? = some (.cells cur 117 (0, 0))) ∨ ∃ g cur, a = some ⟨g, 0, none⟩ ∧ lo ≤ g ∧ w.heap[g]? = some (.cells cur 117 (0, 0)) ∧ ∀ i, i < xs.length → cur[i]? = some (.int .u64 ((xs.getD i 0 : Nat) : Int))

theorem OwW.shape {w : World} {base : Nat} {v : Value} {xs : List Nat} (h : OwW w base v xs) : ∃ a c, v = .slice a xs.length c ∧ Nw w base a xs := by
  obtain ⟨h1, ⟨rfl, h2⟩ | ⟨g, cap, cur, rfl, hg, hh, hc1, hc2, hsz, hcur⟩⟩ := h
  · have e := List.eq_nil_of_length_eq_zero h2
    subst e
    exact ⟨none, 0, rfl, .inl ⟨rfl, fun x e => by cases e⟩⟩
  · refine ⟨some ⟨g, 0, none⟩, cap, rfl, .inr ⟨g, cur, rfl, hg, hh, fun i hi => ?_⟩⟩
    have h3 : (cur.toList.take (xs.length * 1))[i]? = (u64s xs).toList[i]? := by rw [hcur]
    rw [List.getElem?_take, if_pos (by omega)] at h3
    simp only [Array.getElem?_toList] at h3
    rw [h3, u64s_get _ _ hi]

theorem Fresh.nw {w : World} {lo : Nat} {a : Option Addr} {xs : List Nat} (h : Fresh w lo a xs) : Nw w lo a xs := by
  rcases h with ⟨h1, h2⟩ | ⟨g, h1, h2, h3⟩
  · exact .inl ⟨h1, fun x e => by rw [h2] at e; cases e⟩
  · exact .inr ⟨g, u64s xs, h1, h2, h3, fun i hi => u64s_get _ _ hi⟩

theorem Own.nw {w : World} {lo g : Nat} {xs : List Nat} (h : Own w g xs) (hg : lo ≤ g) : Nw w lo (some ⟨g, 0, none⟩) xs := .inr ⟨g, u64s xs, rfl, hg, h, fun i hi => u64s_get _ _ hi⟩

theorem Nw.rd {w : World} {lo : Nat} {a : Option Addr} {xs : List Nat} (h : Nw w lo a xs) (hl : xs.length ≤ 1048576) (hx : ∀ x ∈ xs, x < 18446744073709551616) : Rd w a xs := by
  refine ⟨hl, hx, ?_⟩
  rcases h with ⟨h1, -⟩ | ⟨g, cur, h1, -, h3, h4⟩
  · exact .inl h1
  · refine .inr ⟨g, 0, h1, fun i hi => ?_⟩
    rw [Nat.zero_add, cell_of_row w g i cur _ _ h3]
    exact h4 i hi

theorem Nw.mono {w : World} {lo lo' : Nat} {a : Option Addr} {xs : List Nat} (h : Nw w lo a xs) (hl : lo' ≤ lo) : Nw w lo' a xs := by
  rcases h with ⟨h1, h2⟩ | ⟨g, cur, h1, h2, h3, h4⟩
  · exact .inl ⟨h1, fun x e => ⟨Nat.le_trans hl (h2 x e).1, (h2 x e).2⟩⟩
  · exact .inr ⟨g, cur, h1, Nat.le_trans hl h2, h3, h4⟩

theorem Nw.kept {w w' : World} {lo : Nat} {a : Option Addr} {xs : List Nat} (h : Nw w lo a xs) (hk : ∀ (k : Nat) (cur : Array Value), w.heap[k]? = some (Obj.cells cur 117 (0, 0)) → w'.heap[k]? = w.heap[k]?) : Nw w' lo a xs := by
  rcases h with ⟨h1, h2⟩ | ⟨g, cur, h1, h2, h3, h4⟩
  · refine .inl ⟨h1, fun x e => ?_⟩
    obtain ⟨a, b, cur, c⟩ := h2 x e
    exact ⟨a, b, cur, by rw [hk _ _ c]; exact c⟩
  · exact .inr ⟨g, cur, h1, h2, by rw [hk _ _ h3]; exact h3, h4⟩

theorem Nw.later {w w' : World} {lo : Nat} {a : Option Addr} {xs : List Nat} (h : Nw w lo a xs) (hb : Below w.heap.size w w') : Nw w' lo a xs := Nw.kept h fun k cur hc => hb.block k (lt_of_block hc)

theorem Nw.put {w : World} {lo β : Nat} {a : Option Addr} {xs : List Nat} {x y : Value} {t : TypeId} (h : Nw w lo a xs) (hB : Blk w β x y t) (ht : t ≠ 117) (i : Nat) (v : Value) : Nw (w.setCell ⟨β, i, none⟩ v) lo a xs :=
  Nw.kept h fun k cur hc => heap_setCell_other _ _ _ _ (fun e => by
    simp only [] at e
    subst e
    rw [hB] at hc
    cases hc
    exact ht rfl)

/-- 'append(out, list...)' of words at a step of a region that draws its order. -/
theorem step_appWs (w : World) {ops : Array Oper} {o : Oper} {a : Act} {K : Act → World → Prop} {Q : Exit → Act → World → Prop} {E : Prop} (hgd : o.guard = none) (s x : Operand)
    (ho : o.op = .call { callee := .builtin .append, args := #[s, x], argTypes := #[67, 67] })
    (base : Nat) (v : Value) (bs ys : List Nat) (hs : a.eval s = v) (hown : OwW w base v bs) (b ob c : Nat) (hx : a.eval x = .slice (some ⟨b, ob, none⟩) ys.length c)
    (hc : ∀ i, i < ys.length → w.cell? ⟨b, ob + i, none⟩ = some (.int .u64 ((ys.getD i 0 : Nat) : Int))) (hl : bs.length + ys.length ≤ 4194304) (hbase : base ≤ w.heap.size)
    (h : ∀ v' w', OwW w' base v' (bs ++ ys) → w.grownBy w' v.ownBlock → K (a.put o.dst v') w') :
    if Region.wanted o (yielded ops a.tmps) = true then Oper.wp Tryz.prog o a w K Q else E := by
  have hw : Region.wanted o (yielded ops a.tmps) = true := by simp [Region.wanted, hgd]
  rw [if_pos hw]
  obtain ⟨i0, hi, hz0, hz1, hz2⟩ := info_parts Tryz.infoU64
  refine wp_append_own w s x 67 ho base 117 i0 (.int .u64 0) 1 8 Tryz.underlying67 hi hz0 hz1 hz2 rfl (by decide) v bs.length (u64s bs).toList hs hown ⟨b, ob, none⟩ ys.length c (u64s ys).toList hx (by simp [u64s]) ?_ ?_ ?_ ?_ hbase ?_
  · intro j u hj
    have hj' : j < ys.length := by
      have := (List.getElem?_eq_some_iff.1 hj).1
      simpa [u64s] using this
    rw [Addr.add_lit, hc j hj']
    simp [u64s, hj'] at hj
    rw [← hj]
    simp [List.getD, hj']
  · intro u hu
    simp [u64s] at hu
    obtain ⟨_, _, rfl⟩ := hu
    rfl
  · unfold maxLen; omega
  · omega
  · intro v' w' h1 h2 _
    refine h v' w' ?_ h2
    unfold OwW
    simpa [u64s] using h1

/-- An answer that is a word in new memory. -/
def RetV (u : World) (X : Int × List Nat) (e : Ending) (w' : World) : Prop := ∃ a c, e = .returned (.agg #[.int .i64 X.1, .slice a X.2.length c]) ∧ Nw w' u.heap.size a X.2 ∧ Below u.heap.size u w'

theorem Blk.put0' {w : World} {β : Nat} {x y : Value} {t : TypeId} (h : Blk w β x y t) (u : Value) : Blk (w.setCell ⟨β, 0, none⟩ u) β u y t := by
  unfold Blk
  rw [heap_setCell_same w β 0 _ _ _ h]; rfl
theorem Blk.put1' {w : World} {β : Nat} {x y : Value} {t : TypeId} (h : Blk w β x y t) (u : Value) : Blk (w.setCell ⟨β, 1, none⟩ u) β x u t := by
  unfold Blk
  rw [heap_setCell_same w β 1 _ _ _ h]; rfl

theorem set2_far (w : World) (β : Nat) (x y : Value) (a : Addr) (h : a.block ≠ β) : ((w.setCell ⟨β, 0, none⟩ x).setCell ⟨β, 1, none⟩ y).cell? a = w.cell? a := by
  rw [World.cell?_setCell_far _ _ _ _ (fun e => h e.symm), World.cell?_setCell_far _ _ _ _ (fun e => h e.symm)]
theorem drew2_far (w : World) (β : Nat) (x y : Value) (a : Addr) (h : a.block ≠ β) : ((w.setCell ⟨β, 0, none⟩ x).setCell ⟨β, 1, none⟩ y).drew.cell? a = w.cell? a := set2_far w β x y a h
theorem drew_is (w : World) (a : Addr) : w.drew.cell? a = w.cell? a := rfl

/-- A word that is put into the answer's box. -/
theorem RetV.box {u w5 : World} {ρ lo c : Nat} {W : Int} {a : Option Addr} {xs : List Nat} {x y : Value} (hB : Blk w5 ρ x y 82) (hn : Nw w5 lo a xs) (hlo : u.heap.size ≤ lo) (hρ : u.heap.size ≤ ρ) (hb : Below u.heap.size u w5) :
    RetV u (W, xs) (.returned (.agg #[.int .i64 W, .slice a xs.length c])) ((w5.setCell ⟨ρ, 0, none⟩ (.int .i64 W)).setCell ⟨ρ, 1, none⟩ (.slice a xs.length c)) :=
  ⟨a, c, rfl, ((hn.mono hlo).put hB (by decide) 0 _).put (hB.put0' _) (by decide) 1 _, (hb.setCell hρ _).setCell hρ _⟩

set_option maxHeartbeats 1000000 in
theorem copyBits_any (W : Int) (a : Option Addr) (c : Nat) (xs : List Nat) (w : World) (hr : Rd w a xs) (hx : 1 ≤ xs.length) :
    Calls Tryz.prog 138 #[.agg #[.int .i64 W, .slice a xs.length c]] w (RetV w (W, xs)) := by
  have s0 := St.start w (.cells #[.int .i64 W, .slice a xs.length c] 82)
  have hb1 : Below w.heap.size w ((w.alloc (Obj.cells #[Value.int .i64 W, Value.slice a xs.length c] 82)).alloc (Obj.cells #[Value.int .i64 0, Value.slice none 0 0] 82)) := Ba (Ba (Below.refl _ _) _) _
  have hA := (Blk.new w (.int .i64 W) (.slice a xs.length c) 82).alloc (Obj.cells #[Value.int .i64 0, Value.slice none 0 0] 82)
  have hR := Blk.new1 w (Obj.cells #[Value.int .i64 W, Value.slice a xs.length c] 82) (.int .i64 0) (.slice none 0 0) 82
  have hs1 : ((w.alloc (Obj.cells #[Value.int .i64 W, Value.slice a xs.length c] 82)).alloc (Obj.cells #[Value.int .i64 0, Value.slice none 0 0] 82)).heap.size = w.heap.size + 2 := by simp
  obtain ⟨hl, hx2, h | ⟨b, o, rfl, hc⟩⟩ := hr.later hb1
  · rw [h] at hx; simp at hx
  obtain ⟨a0, a1⟩ := hA.cells
  have HC := kide hc
  have HX := kide hx2
  go_enter Tryz.func138, Tryz.ntmps138
  go_wp2_with fail
  generalize ((w.alloc (Obj.cells #[Value.int .i64 W, Value.slice (some ⟨b, o, none⟩) xs.length c] 82)).alloc (Obj.cells #[Value.int .i64 0, Value.slice none 0 0] 82)) = w1 at *
  clear hc hx2 hr s0
  go_region_held_law (fun u => u.cell? ⟨w.heap.size, 0, none⟩ = some (Value.int IntKind.i64 W) ∧ u.cell? ⟨w.heap.size, 1, none⟩ = some (Value.slice (some { block := b, off := o }) xs.length c))
    (first | (refine ⟨?_, ?_⟩ <;> assumption) | (refine ⟨?_, ?_⟩ <;> (rw [World.cell?_setCell_far _ _ _ _ (by simp <;> omega), World.cell?_setCell_far _ _ _ _ (by simp <;> omega)]; assumption)))
    (first
      | (refine step_appWs _ rfl _ _ rfl w1.heap.size (.slice none 0 0) [] xs rfl (OwW.nils _ _) b o c rfl HC.out (by simp; omega) (Nat.le_refl _) ?_; intro v5 w5 how5 hgr5; have hb5 : Below w1.heap.size w1 w5 := kundrew ⟨hgr5.os, hgr5.tape, hgr5.output, hgr5.size, fun k hk => hgr5.block k hk (by simp [Value.ownBlock])⟩; rw [List.nil_append] at how5; obtain ⟨a5, c5, rfl, hn5⟩ := how5.shape; have hA5 := hA.next hb5; have hR5 := hR.next hb5; obtain ⟨a50, a51⟩ := hA5.cells; obtain ⟨r50, r51⟩ := hR5.cells; have f50 := frozen_of_row w5 _ 0 _ _ hR5; have f51 := frozen_of_row w5 _ 1 _ _ hR5))
  go_wp2
  obtain ⟨q0, q1⟩ := ((hR5.put0' (.int .i64 W)).put1' (.slice a5 xs.length c5)).cells
  exact bodyPost_ret (v := .agg #[.int .i64 W, .slice a5 xs.length c5]) (by simp [results, Tryz.results138, go_sem, q0, q1]) rfl (RetV.box hR5 hn5 (by omega) (by omega) (hb1.trans (hb5.mono (by omega))))

end Go.Proofs.YtllojnloldhghaaGreatDoor
