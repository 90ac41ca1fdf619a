/- Several texts in one. -/
import Derived.Test.YtkngpgonmedgpaaGreatDoorGAI
import Derived.Deep.RegionHeldLaw
import Derived.Deep.RegionHeld3
import Derived.Test.YtkngpgonmedgpaaGreatDoorGAE
import Derived.Deep.AppendLies
import Derived.Deep.OwnRows
import Derived.Test.YtkngpgonmedgpaaGreatDoorGAG
import Derived.Deep.RegionWith
namespace Go.Proofs.YtkngpgonmedgpaaGreatDoor
open Go.RowKit
set_option linter.unusedVariables false
set_option linter.unusedSimpArgs false
theorem Blk.free {w : World} {β : Nat} {x y : Value} {t : TypeId} (h : Blk w β x y t) (i : Nat) : w.frozen? ⟨β, i, none⟩ = false := frozen_of_row w β i _ _ h
theorem Blk.new1 (w : World) (o : Obj) (x y : Value) (t : TypeId) : Blk ((w.alloc o).alloc (.cells #[x, y] t)) (w.heap.size + 1) x y t := heap_alloc2_new _ _ _
theorem Blk.new2 (w : World) (o p : Obj) (x y : Value) (t : TypeId) : Blk (((w.alloc o).alloc p).alloc (.cells #[x, y] t)) (w.heap.size + 1 + 1) x y t := by
 have := heap_alloc2_new (w.alloc o) p (.cells #[x, y] t)
 rw [World.size_alloc] at this
 exact this
theorem put_fit {V : Nat} {xs : List Nat} (hok : rightB V xs = true) (hx : ∀ x ∈ xs, x < 18446744073709551616) (P N : Nat) (h : P + V ≤ 64 * N) :
  ∀ i, i < xs.length → P / 64 + i < N ∧ (P / 64 + i + 1 < N ∨ xs.getD i 0 / 2 ^ (64 - P % 64) = 0) := by
 intro i hi
 obtain ⟨h1, h2, h3⟩ := right_W hok
 refine ⟨by omega, ?_⟩
 by_cases hN : P / 64 + i + 1 < N
 ·exact .inl hN
 ·right
  refine Nat.eq_of_testBit_eq fun j => ?_
  rw [Nat.testBit_div_two_pow, Nat.zero_testBit]
  by_cases hj : j + (64 - P % 64) < 64
  ·have := tb_out hok (64 * i + (j + (64 - P % 64))) (by omega)
   unfold tb at this
   rw [show (64 * i + (j + (64 - P % 64))) / 64 = i by omega, show (64 * i + (j + (64 - P % 64))) % 64 = j + (64 - P % 64) by omega] at this
   exact this
  ·exact Nat.testBit_lt_two_pow (Nat.lt_of_lt_of_le (getD_lt hx i) (show 2 ^ 64 ≤ 2 ^ (j + (64 - P % 64)) from Nat.pow_le_pow_right (by omega) (by omega)))
theorem tb_put_right {V : Nat} {xs : List Nat} (hok : rightB V xs = true) (hx : ∀ x ∈ xs, x < 18446744073709551616) (zs : List Nat) (P : Nat) (h : P + V ≤ 64 * zs.length) (j : Nat) :
  tb (putTo zs xs (P / 64) (P % 64) xs.length) j = (tb zs j || (decide (P ≤ j) && tb xs (j - P))) := by
 rw [tb_put zs xs _ _ _ (by omega) hx (put_fit hok hx P zs.length h), show 64 * (P / 64) + P % 64 = P by omega]
 by_cases h1 : P ≤ j
 ·by_cases h2 : j < P + 64 * xs.length
  ·simp [h1, h2]
  ·have := right_W hok
   rw [tb_out hok (j - P) (by omega)]; simp
 ·simp [h1]
def repTo (V : Nat) (xs : List Nat) (N : Nat) : Nat → List Nat
 | 0 => List.replicate N 0
 | k + 1 => putTo (repTo V xs N k) xs (k * V / 64) (k * V % 64) xs.length
theorem repTo_len (V : Nat) (xs : List Nat) (N k : Nat) : (repTo V xs N k).length = N := by
 induction k with
 | zero => simp [repTo]
 | succ k ih => rw [repTo, putTo_len, ih]
theorem repTo_lt (V : Nat) (xs : List Nat) (N k : Nat) (hx : ∀ x ∈ xs, x < 18446744073709551616) : ∀ x ∈ repTo V xs N k, x < 18446744073709551616 := by
 induction k with
 | zero => intro x h; simp [repTo] at h; omega
 | succ k ih => exact putTo_lt _ _ _ _ _ ih hx
theorem tb_zero (N j : Nat) : tb (List.replicate N 0) j = false := by
 unfold tb
 simp only [List.getD, List.getElem?_replicate]
 split <;> simp
theorem tb_rep {V : Nat} {xs : List Nat} (hok : rightB V xs = true) (hx : ∀ x ∈ xs, x < 18446744073709551616) (N m : Nat) (hN : m * V ≤ 64 * N) (k : Nat) (hk : k ≤ m) (j : Nat) :
  tb (repTo V xs N k) j = (decide (j < k * V) && tb xs (j % V)) := by
 have hV := right_W hok
 induction k with
 | zero => simp [repTo, tb_zero]
 | succ k ih =>
  have hk1 : k * V + V ≤ m * V := by
   have : (k + 1) * V ≤ m * V := Nat.mul_le_mul_right _ hk
   rwa [Nat.succ_mul] at this
  rw [repTo, tb_put_right hok hx _ _ (by rw [repTo_len]; omega), ih (by omega), Nat.succ_mul]
  by_cases h1 : j < k * V
  ·simp [h1, show ¬ k * V ≤ j by omega, show j < k * V + V by omega]
  ·by_cases h2 : j < k * V + V
   ·have e : j % V = j - k * V := by
     have h3 : j = (j - k * V) + V * k := by rw [Nat.mul_comm V k]; omega
     rw [h3, Nat.add_mul_mod_self_left, Nat.mod_eq_of_lt (by omega)]
     rw [Nat.mul_comm V k]; omega
    simp [h1, h2, show k * V ≤ j by omega, e]
   ·rw [tb_out hok (j - k * V) (by omega)]
    simp [h1, h2]
theorem repList_get (bs : List Nat) (V : Nat) (hV : bs.length = V) (hp : 0 < V) (k j : Nat) (hj : j < k * V) : (repList bs k).getD j 0 = bs.getD (j % V) 0 := by
 induction k with
 | zero => simp at hj
 | succ k ih =>
  rw [repList_succ]
  have hl := repList_len bs k
  rw [hV] at hl
  simp only [List.getD]
  by_cases h : j < k * V
  ·rw [List.getElem?_append_left (by omega)]
   have := ih h
   simpa only [List.getD] using this
  ·rw [List.getElem?_append_right (by omega), hl]
   have e : j % V = j - k * V := by
    rw [Nat.succ_mul] at hj
    have h3 : j = (j - k * V) + V * k := by rw [Nat.mul_comm V k]; omega
    rw [h3, Nat.add_mul_mod_self_left, Nat.mod_eq_of_lt (by omega)]
    rw [Nat.mul_comm V k]; omega
   rw [e]
theorem rep_pack {V : Nat} {xs : List Nat} (hok : rightB V xs = true) (hx : ∀ x ∈ xs, x < 18446744073709551616) (m N : Nat) (hN : N = (m * V + 63) / 64) :
  repTo V xs N m = pack (repList (bitsTo xs V) m) := by
 have hV := right_W hok
 have hl := repList_len (bitsTo xs V) m
 rw [bitsTo_len] at hl
 refine eq_pack (fun x h => bitsTo_le xs V x (repList_mem _ _ _ h)) (by rw [repTo_len, hl, hN]) (repTo_lt _ _ _ _ hx) fun i hi => ?_
 rw [tb_rep hok hx N m (by omega) m (Nat.le_refl _)]
 by_cases h : i < m * V
 ·rw [repList_get _ V (bitsTo_len _ _) (by omega) m i h]
  have h2 : i % V < V := Nat.mod_lt _ (by omega)
  simp [h, List.getD, bitsTo, h2]
 ·have e : (repList (bitsTo xs V) m).getD i 0 = 0 := by
   simp only [List.getD]
   rw [List.getElem?_eq_none (by omega)]; rfl
  rw [e]; simp [h]
theorem Rd.lt {w : World} {a : Option Addr} {xs : List Nat} (h : Rd w a xs) (hp : 0 < xs.length) : ∀ x, a = some x → x.block < w.heap.size := by
 obtain ⟨_, _, h | ⟨b, o, rfl, hc⟩⟩ := h
 ·subst h; simp at hp
 ·intro x hx
  simp at hx
  subst hx
  exact block_lt_of_cell (hc 0 hp)
theorem RetB.made {w w4 : World} {r : Int × List Nat × Bool} {R : Int × List Nat × Bool} {g c β : Nat} (ho : Own w4 g r.2.1) (hg : w.heap.size ≤ g) (hβ : w.heap.size ≤ β) (hne : g ≠ β) (hb : Below w.heap.size w w4) (he : r = R) (u v : Value) :
  RetB w R (.returned (.tuple #[.agg #[.int .i64 r.1, .slice (some ⟨g, 0, none⟩) r.2.1.length c], .bool r.2.2])) ((w4.setCell ⟨β, 0, none⟩ u).setCell ⟨β, 1, none⟩ v) := by
 subst he
 exact ⟨some ⟨g, 0, none⟩, c, rfl, .inr ⟨g, rfl, hg, (ho.other (by simpa using hne) _).other (by simpa using hne) _⟩, (hb.setCell hβ _).setCell hβ _⟩
set_option maxHeartbeats 1000000 in
set_option maxRecDepth 100000 in
theorem implRep_any (W : Int) (a : Option Addr) (c : Nat) (xs : List Nat) (n : Int) (w : World) (hr : Rd w a xs) :
  Calls Tryz.prog 141 #[.agg #[.int .i64 W, .slice a xs.length c], .int .i64 n] w (RetB w (repR W xs n)) := by
 have h2 : Below w.heap.size w ((w.alloc (Obj.cells #[.int IntKind.i64 W, .slice a xs.length c] 80)).alloc (Obj.cells #[.int IntKind.i64 0, .slice none 0 0] 80)) := ((Below.refl _ _).alloc (Nat.le_refl _) _).alloc (by simp) _
 have hr' := hr.later h2
 by_cases hc : rightB W xs = true ∧ 1 ≤ n ∧ n ≤ 4096 ∧ W * n ≤ 4096
 ·rw [repR, if_pos hc]
  generalize hR : (W * n, pack (repList (bitsTo xs W.toNat) n.toNat), true) = R
  have HR : Hid ((W * n, pack (repList (bitsTo xs W.toNat) n.toNat), true) = R) := hR
  clear hR
  obtain ⟨hok, hn1, hn2, hWn⟩ := hc
  obtain ⟨hW1, hW2, hWl⟩ := right_W hok
  obtain ⟨V, rfl⟩ := Int.eq_ofNat_of_zero_le (show 0 ≤ W by omega)
  obtain ⟨m, rfl⟩ := Int.eq_ofNat_of_zero_le (show 0 ≤ n by omega)
  have hxx := hr.2.1
  have hab := hr.lt (by omega)
  have hVm : V * m ≤ 4096 := by exact_mod_cast hWn
  have hVm1 : 1 ≤ V * m := Nat.mul_pos (by omega) (by omega)
  have hl64 : xs.length ≤ 64 := by omega
  have bA0 := (Blk.new w (Value.int IntKind.i64 V) (Value.slice a xs.length c) 80).alloc (Obj.cells #[.int IntKind.i64 0, .slice none 0 0] 80)
  have bR0 := Blk.new1 w (Obj.cells #[.int IntKind.i64 V, .slice a xs.length c] 80) (Value.int IntKind.i64 0) (Value.slice none 0 0) 80
  have HWl : Hid ((xs.length : Int) = ((V : Int) + 63) / 64) := hWl
  clear hWl
  go_enter Tryz.func141, Tryz.ntmps141
  go_wp2_with fail
  refine (implOk_any _ _ _ _ _ hr').mono ?_
  rintro e w1 ⟨rfl, hb1⟩
  have B1 := h2.trans (hb1.mono (by simp; omega))
  have bA1 := bA0.next hb1
  have bR1 := bR0.next hb1
  obtain ⟨c0, c1⟩ := bA1.cells
  clear hb1 bA0 bR0 hr' h2
  go_wp2_with fail
  have eq1 : (V : Int) * (m : Int) = ((V * m : Nat) : Int) := by simp
  rw [eq1]
  generalize hq : V * m = q at *
  refine (zeroBits_any q _ (by omega) (by omega)).mono ?_
  rintro e w2 ⟨g, rfl, hg, hown, hb2⟩
  generalize hN : (q + 63) / 64 = N at *
  have B2 := chain B1 hb2
  have bA2 := bA1.next hb2
  have bR2 := bR1.next hb2
  have HN : Hid ((q + 63) / 64 = N) := hN
  have Hq : Hid (V * m = q) := hq
  have hgr := bR1.lt
  clear hN hq eq1 hb2 B1 bA1 bR1 c0 c1
  go_wp2_with fail
  have bO3 := Blk.new w2 (Value.int IntKind.i64 q) (Value.slice (some ⟨g, 0, none⟩) N N) 80
  have bA3 := bA2.alloc (Obj.cells #[.int IntKind.i64 q, .slice (some ⟨g, 0, none⟩) N N] 80)
  have bR3 := bR2.alloc (Obj.cells #[.int IntKind.i64 q, .slice (some ⟨g, 0, none⟩) N N] 80)
  have B3 := Ba B2 (Obj.cells #[.int IntKind.i64 q, .slice (some ⟨g, 0, none⟩) N N] 80)
  have ho3 := hown.alloc (Obj.cells #[.int IntKind.i64 q, .slice (some ⟨g, 0, none⟩) N N] 80)
  have hgl := hown.lt
  generalize w2.alloc (Obj.cells #[.int IntKind.i64 q, .slice (some ⟨g, 0, none⟩) N N] 80) = w3 at *
  go_loopw [33] (fun i wr => ∃ k : Nat, k ≤ m ∧ i = .int .i64 k ∧ Own wr g (repTo V xs N k) ∧ Blk wr w2.heap.size (Value.int IntKind.i64 q) (Value.slice (some ⟨g, 0, none⟩) N N) 80 ∧ Blk wr w.heap.size (Value.int IntKind.i64 V) (Value.slice a xs.length c) 80 ∧ Blk wr (w.heap.size + 1) (Value.int IntKind.i64 0) (Value.slice none 0 0) 80 ∧ Below w.heap.size w wr) (fun i _ => m - (intOf i).toNat)
  case atStart => exact ⟨0, Nat.zero_le _, rfl, ho3, bO3, bA3, bR3, B3⟩
  case round =>
   obtain ⟨k, hk, rfl, hownk, bO, bA, bR, B⟩ := hrel
   obtain ⟨c0, c1⟩ := bA.cells
   obtain ⟨d0, d1⟩ := bO.cells
   by_cases hlt : k < m
   ·have hkV : k * V + V ≤ q := by
     rw [← Hq.out, Nat.mul_comm V m]
     have : (k + 1) * V ≤ m * V := Nat.mul_le_mul_right _ hlt
     rwa [Nat.succ_mul] at this
    have hlenk := repTo_len V xs N k
    have hNq := HN.out
    have hput := putBits_any (q : Int) (V : Int) g N c (k * V) a (repTo V xs N k) xs wr hownk (hr.later B) (repTo_lt V xs N k hxx) (by omega) (by rw [hlenk]; omega) hl64 (by rw [hlenk]; exact put_fit hok hxx _ _ (by omega)) (fun x hx => by have := hab x hx; omega)
    rw [hlenk] at hput
    have hmulk : (k : Int) * (V : Int) ≤ 4096 := by
     have : k * V ≤ 4096 := by omega
     exact_mod_cast this
    have hmulk0 : (0 : Int) ≤ (k : Int) * (V : Int) := by
     have : 0 ≤ k * V := Nat.zero_le _
     exact_mod_cast this
    clear hlenk hNq
    go_wp2_with fail
    rw [Int.natCast_mul] at hput
    refine hput.mono ?_
    rintro e w4 ⟨rfl, hown4, hgr4⟩
    have f4 := hownk.fr (Nat.le_refl g)
    have m4 : Marked wr w4 (some ⟨g, 0, none⟩) := hgr4
    have bO4 := bO.mark f4 m4 (by decide)
    have bA4 := bA.mark f4 m4 (by decide)
    have bR4 := bR.mark f4 m4 (by decide)
    have B4 := m4.below f4 B (by omega)
    clear hput hownk bO bA bR B c0 c1 d0 d1 f4 m4 hgr4 bO3 bA3 bR3 B3 ho3
    go_wp2
    go_roundw
    case rel => exact ⟨k + 1, by omega, by go_num, hown4, bO4, bA4, bR4, B4⟩
    case measure => simp [intOf]; omega
   ·have e : k = m := by omega
    subst e
    obtain ⟨r0, r1⟩ := bR.cells
    have f0 := bR.free 0
    have f1 := bR.free 1
    have HQ : Hid (((q : Int), repTo V xs N k, true) = R) := by
     show _ = _
     rw [rep_pack hok hxx k N (by rw [Nat.mul_comm k V, Hq.out]; exact HN.out.symm), ← HR.out, Int.toNat_natCast, Int.toNat_natCast, ← Hq.out, Int.natCast_mul]
    have HL : Hid ((repTo V xs N k).length = N) := repTo_len V xs N k
    generalize repTo V xs N k = ys at *
    clear bO bA bR bO3 bA3 bR3 B3 ho3 HR Hq HN
    go_wp2
    have hm := RetB.made (w := w) (r := ((q : Int), ys, true)) (c := N) hownk (by omega) (β := w.heap.size + 1) (by omega) (by omega) B HQ.out (Value.int IntKind.i64 q) (Value.slice (some ⟨g, 0, none⟩) N N)
    dsimp only at hm
    rw [HL.out] at hm
    exact bodyPost_ret (by simp [results, Tryz.results141, go_sem, r0, r1]) rfl hm
 ·rw [repR, if_neg hc]
  have hcase : rightB W xs = false ∨ (rightB W xs = true ∧ n < 1) ∨ (rightB W xs = true ∧ 1 ≤ n ∧ 4096 < n) ∨ (rightB W xs = true ∧ 1 ≤ n ∧ n ≤ 4096 ∧ 4096 < W * n) := by
   cases hb : rightB W xs with
   | false => exact .inl rfl
   | true => simp [hb] at hc ⊢; omega
  clear hc
  rcases hcase with h | ⟨h, h1⟩ | ⟨h, h1, h3⟩ | ⟨h, h1, h3, h4⟩
  ·go_enter Tryz.func141, Tryz.ntmps141
   go_wp2_with fail
   refine (implOk_any _ _ _ _ _ hr').mono ?_
   rintro e w1 ⟨rfl, hb1⟩
   obtain ⟨hcc, hff⟩ := bcell hb1
   have hz : w.heap.size + 1 < w1.heap.size := by have := hb1.size; simp at this; omega
   go_wp2
   exact bodyPost_ret (v := .tuple #[.agg #[.int .i64 0, .slice none 0 0], .bool false]) (by simp [results, Tryz.results141, go_sem, hcc]) rfl (RetB.no (((h2.trans (hb1.mono (by simp; omega))).setCell (by simp) _).setCell (by simp) _))
  ·go_enter Tryz.func141, Tryz.ntmps141
   go_wp2_with fail
   refine (implOk_any _ _ _ _ _ hr').mono ?_
   rintro e w1 ⟨rfl, hb1⟩
   obtain ⟨hcc, hff⟩ := bcell hb1
   have hz : w.heap.size + 1 < w1.heap.size := by have := hb1.size; simp at this; omega
   go_wp2
   exact bodyPost_ret (v := .tuple #[.agg #[.int .i64 0, .slice none 0 0], .bool false]) (by simp [results, Tryz.results141, go_sem, hcc]) rfl (RetB.no (((h2.trans (hb1.mono (by simp; omega))).setCell (by simp) _).setCell (by simp) _))
  ·go_enter Tryz.func141, Tryz.ntmps141
   go_wp2_with fail
   refine (implOk_any _ _ _ _ _ hr').mono ?_
   rintro e w1 ⟨rfl, hb1⟩
   obtain ⟨hcc, hff⟩ := bcell hb1
   have hz : w.heap.size + 1 < w1.heap.size := by have := hb1.size; simp at this; omega
   go_wp2
   exact bodyPost_ret (v := .tuple #[.agg #[.int .i64 0, .slice none 0 0], .bool false]) (by simp [results, Tryz.results141, go_sem, hcc]) rfl (RetB.no (((h2.trans (hb1.mono (by simp; omega))).setCell (by simp) _).setCell (by simp) _))
  ·obtain ⟨hW1, hW2, _⟩ := right_W h
   have hmul : W * n ≤ 4096 * 4096 := Int.mul_le_mul hW2 h3 (by omega) (by omega)
   go_enter Tryz.func141, Tryz.ntmps141
   go_wp2_with fail
   refine (implOk_any _ _ _ _ _ hr').mono ?_
   rintro e w1 ⟨rfl, hb1⟩
   obtain ⟨hcc, hff⟩ := bcell hb1
   have hz : w.heap.size + 1 < w1.heap.size := by have := hb1.size; simp at this; omega
   go_wp2
   exact bodyPost_ret (v := .tuple #[.agg #[.int .i64 0, .slice none 0 0], .bool false]) (by simp [results, Tryz.results141, go_sem, hcc]) rfl (RetB.no (((h2.trans (hb1.mono (by simp; omega))).setCell (by simp) _).setCell (by simp) _))

theorem l1From_any (a : Option Addr) (c : Nat) (bs : List Nat) (w : World) (hr : RdB w a bs) :
    Calls Tryz.prog 88 #[.slice a bs.length c] w (RetB w (fromR bs)) := by
  by_cases h : 1 ≤ bs.length ∧ bs.length ≤ 4096
  · rw [fromR, if_pos h]; exact l1From_yes a c bs w hr h.1 h.2
  · rw [fromR, if_neg h]
    refine (l1From_no a bs.length c w (by omega) hr.1).mono ?_
    rintro e w' ⟨rfl, hb⟩
    exact RetB.no hb
def joinL (W : Int) (xs : List Nat) (V : Int) (ys : List Nat) : List Nat := bitsTo ys V.toNat ++ bitsTo xs W.toNat
def joinR (W : Int) (xs : List Nat) (V : Int) (ys : List Nat) : Int × List Nat × Bool :=
  if rightB W xs = true ∧ rightB V ys = true then fromR (joinL W xs V ys) else noR
theorem step_appBs (w : World) {ops : Array Oper} {o : Oper} {a : Act} {K : Act → World → Prop} {Q : Exit → Act → World → Prop} {E : Prop} (hgd : o.guard = none) (s x : Operand)
    (ho : o.op = .call { callee := .builtin .append, args := #[s, x], argTypes := #[22, 22] })
    (base : Nat) (v : Value) (bs ys : List Nat) (hs : a.eval s = v) (hown : OwB w base v bs) (b ob c : Nat) (hx : a.eval x = .slice (some ⟨b, ob, none⟩) ys.length c)
    (hc : ∀ i, i < ys.length → w.cell? ⟨b, ob + i, none⟩ = some (.int .u8 ((ys.getD i 0 : Nat) : Int))) (hl : bs.length + ys.length ≤ 4194304) (hbase : base ≤ w.heap.size)
    (h : ∀ v' w', OwB w' base v' (bs ++ ys) → w.grownBy w' v.ownBlock → K (a.put o.dst v') w') :
    if Region.wanted o (yielded ops a.tmps) = true then Oper.wp Tryz.prog o a w K Q else E := by
  have hw : Region.wanted o (yielded ops a.tmps) = true := by simp [Region.wanted, hgd]
  rw [if_pos hw]
  obtain ⟨i0, hi, hz0, hz1, hz2⟩ := info_parts Tryz.infoU8
  refine wp_append_own w s x 22 ho base 5 i0 (.int .u8 0) 1 1 Tryz.underlying22 hi hz0 hz1 hz2 rfl (by decide) v bs.length (u8s bs) hs hown ⟨b, ob, none⟩ ys.length c (u8s ys) hx (by simp [u8s]) ?_ ?_ ?_ ?_ hbase ?_
  · intro j u hj
    have hj' : j < ys.length := by
      have := (List.getElem?_eq_some_iff.1 hj).1
      simpa [u8s] using this
    rw [Addr.add_lit, hc j hj']
    simp [u8s, hj'] at hj
    rw [← hj]
    simp [List.getD, hj']
  · intro u hu
    obtain ⟨_, _, rfl⟩ := List.mem_map.1 hu
    rfl
  · unfold maxLen; omega
  · omega
  · intro v' w' h1 h2 _
    refine h v' w' ?_ h2
    unfold OwB
    simpa [u8s] using h1
theorem undrewG {w w' : World} (h : Below w.drew.heap.size w.drew w') : Below w.heap.size w w' := ⟨h.os, h.tape, h.output, h.size, h.block⟩
theorem OwB.undrew {w w' : World} {v : Value} {bs : List Nat} (h : OwB w' (w.drew.heap.size + 1) v bs) : OwB w' (w.heap.size + 1) v bs := h
set_option maxHeartbeats 2000000 in
set_option maxRecDepth 100000 in
theorem specJoin_any (W : Int) (a : Option Addr) (c : Nat) (xs : List Nat) (V : Int) (b : Option Addr) (d : Nat) (ys : List Nat) (w : World) (hr : Rd w a xs) (hs : Rd w b ys) :
    Calls Tryz.prog 96 #[.agg #[.int .i64 W, .slice a xs.length c], .agg #[.int .i64 V, .slice b ys.length d]] w (RetB w (joinR W xs V ys)) := by
  have h3 : Below w.heap.size w (((w.alloc (Obj.cells #[.int IntKind.i64 W, .slice a xs.length c] 80)).alloc (Obj.cells #[.int IntKind.i64 V, .slice b ys.length d] 80)).alloc (Obj.cells #[.int IntKind.i64 0, .slice none 0 0] 80)) := Ba (Ba (Ba (Below.refl _ _) _) _) _
  have hr' := hr.later h3
  have hs' := hs.later h3
  have bR0 := Blk.new2 w (Obj.cells #[.int IntKind.i64 W, .slice a xs.length c] 80) (Obj.cells #[.int IntKind.i64 V, .slice b ys.length d] 80) (Value.int IntKind.i64 0) (Value.slice none 0 0) 80
  have bB0 := (Blk.new1 w (Obj.cells #[.int IntKind.i64 W, .slice a xs.length c] 80) (Value.int IntKind.i64 V) (Value.slice b ys.length d) 80).alloc (Obj.cells #[.int IntKind.i64 0, .slice none 0 0] 80)
  have bA0 := ((Blk.new w (Value.int IntKind.i64 W) (Value.slice a xs.length c) 80).alloc (Obj.cells #[.int IntKind.i64 V, .slice b ys.length d] 80)).alloc (Obj.cells #[.int IntKind.i64 0, .slice none 0 0] 80)
  have hOk : ∀ (W : Int) (a : Option Addr) (c : Nat) (xs : List Nat) (u : World) (r : Bool), rightB W xs = r → Rd u a xs → Calls Tryz.prog 71 #[.agg #[.int .i64 W, .slice a xs.length c]] u fun e w' => e = .returned (.bool r) ∧ Below u.heap.size u w' := fun W a c xs u r h hu => by
    have := specOk_any W a c xs u hu
    rwa [h] at this
  have HOK : Hid _ := hOk
  clear hOk
  cases hoa : rightB W xs with
  | false =>
    have hc : joinR W xs V ys = noR := by unfold joinR; simp [hoa]
    rw [hc]
    go_enter Tryz.func96, Tryz.ntmps96
    go_wp2_with fail
    refine (HOK.out _ _ _ _ _ _ hoa hr').mono ?_
    rintro e w3 ⟨rfl, hb3⟩
    have B3 := chain h3 hb3
    have bR3 := bR0.next hb3
    obtain ⟨r0, r1⟩ := bR3.cells
    have f0 := bR3.free 0
    have f1 := bR3.free 1
    go_wp2
    exact bodyPost_ret (v := .tuple #[.agg #[.int .i64 0, .slice none 0 0], .bool false]) (by simp [results, Tryz.results96, go_sem, r0, r1]) rfl (RetB.no ((B3.setCell (by simp; omega) _).setCell (by simp; omega) _))
  | true =>
    obtain ⟨c0, c1⟩ := bA0.cells
    obtain ⟨d0, d1⟩ := bB0.cells
    cases hob : rightB V ys with
    | false =>
      have hc : joinR W xs V ys = noR := by unfold joinR; simp [hob]
      rw [hc]
      go_enter Tryz.func96, Tryz.ntmps96
      go_wp2_with fail
      refine (HOK.out _ _ _ _ _ _ hoa hr').mono ?_
      rintro e w3 ⟨rfl, hb3⟩
      have B3 := chain h3 hb3
      have bB3 := bB0.next hb3
      obtain ⟨l0, l1⟩ := bB3.cells
      go_wp2_with fail
      refine (HOK.out _ _ _ _ _ _ hob (hs'.later hb3)).mono ?_
      rintro e w4 ⟨rfl, hb4⟩
      have B4 := chain B3 hb4
      have bR4 := (bR0.next hb3).next hb4
      obtain ⟨r0, r1⟩ := bR4.cells
      have f0 := bR4.free 0
      have f1 := bR4.free 1
      go_wp2
      exact bodyPost_ret (v := .tuple #[.agg #[.int .i64 0, .slice none 0 0], .bool false]) (by simp [results, Tryz.results96, go_sem, r0, r1]) rfl (RetB.no ((B4.setCell (by simp; omega) _).setCell (by simp; omega) _))
    | true =>
      have hc : joinR W xs V ys = fromR (joinL W xs V ys) := by unfold joinR; simp [hoa, hob]
      rw [hc]
      clear hc
      obtain ⟨hW1, hW2, hWl⟩ := right_W hoa
      obtain ⟨hV1, hV2, hVl⟩ := right_W hob
      obtain ⟨P, rfl⟩ := Int.eq_ofNat_of_zero_le (show 0 ≤ W by omega)
      obtain ⟨q, rfl⟩ := Int.eq_ofNat_of_zero_le (show 0 ≤ V by omega)
      have hPl : P ≤ 64 * xs.length := by omega
      have hql : q ≤ 64 * ys.length := by omega
      clear hWl hVl
      have HJ : Hid (joinL (P : Int) xs (q : Int) ys = bitsTo ys q ++ bitsTo xs P) := rfl
      have hlx := bitsTo_len xs P
      have hly := bitsTo_len ys q
      have hbx := bitsTo_le xs P
      have hby := bitsTo_le ys q
      generalize joinL (P : Int) xs (q : Int) ys = J at *
      have hLX : ∀ u : World, Rd u a xs → Calls Tryz.prog 126 #[.agg #[.int .i64 P, .slice a xs.length c]] u fun e w' => ∃ v, e = .returned v ∧ OwB w' (u.heap.size + 1) v (bitsTo xs P) ∧ Below u.heap.size u w' := fun u hu => l1List_any P a c xs u hu hPl (by omega)
      have hLY : ∀ u : World, Rd u b ys → Calls Tryz.prog 126 #[.agg #[.int .i64 q, .slice b ys.length d]] u fun e w' => ∃ v, e = .returned v ∧ OwB w' (u.heap.size + 1) v (bitsTo ys q) ∧ Below u.heap.size u w' := fun u hu => l1List_any q b d ys u hu hql (by omega)
      have HLX : Hid _ := hLX
      have HLY : Hid _ := hLY
      clear hLX hLY
      go_enter Tryz.func96, Tryz.ntmps96
      go_wp2_with fail
      refine (HOK.out _ _ _ _ _ _ hoa hr').mono ?_
      rintro e w3 ⟨rfl, hb3⟩
      have B3 := chain h3 hb3
      have bB3 := bB0.next hb3
      obtain ⟨l0, l1⟩ := bB3.cells
      go_wp2_with fail
      refine (HOK.out _ _ _ _ _ _ hob (hs'.later hb3)).mono ?_
      rintro e w4 ⟨rfl, hb4⟩
      have B4 := chain B3 hb4
      have bA4 := (bA0.next hb3).next hb4
      have bB4 := (bB0.next hb3).next hb4
      have bR4 := (bR0.next hb3).next hb4
      clear hb3 hb4 B3 bB3 l0 l1 c0 c1 d0 d1 bA0 bB0 bR0 h3 hr' hs' HOK
      obtain ⟨k0, k1⟩ := bA4.cells
      obtain ⟨l0, l1⟩ := bB4.cells
      have r4 := hr.later B4
      have s4 := hs.later B4
      generalize bitsTo xs P = bx at *
      generalize bitsTo ys q = by_ at *
      have hxp : 0 < bx.length := by omega
      have hll : by_.length + bx.length ≤ 4194304 := by omega
      have hbb : ∀ x ∈ by_ ++ bx, x < 256 := fun x hx => by rcases List.mem_append.1 hx with h | h; · have := hby x h; omega
                                                            · have := hbx x h; omega
      have hJl : J.length ≤ 4194304 := by rw [HJ.out, List.length_append]; exact hll
      have hJb : ∀ x ∈ J, x < 256 := by rw [HJ.out]; exact hbb
      clear hlx hly hbb
      go_wp2_with fail
      go_region_held_law (fun u => u.cell? ⟨w.heap.size, 0, none⟩ = some (Value.int IntKind.i64 P) ∧ u.cell? ⟨w.heap.size, 1, none⟩ = some (Value.slice a xs.length c) ∧ u.cell? ⟨w.heap.size + 1, 0, none⟩ = some (Value.int IntKind.i64 q) ∧ u.cell? ⟨w.heap.size + 1, 1, none⟩ = some (Value.slice b ys.length d)) (first | (simp [*]; done) | (refine ⟨?_, ?_, ?_, ?_⟩ <;> rw [World.cell?_setCell_far _ _ _ _ (by simp <;> omega), World.cell?_setCell_far _ _ _ _ (by simp <;> omega)] <;> assumption))
        (first
          | (go_at_call_of 126 ys; refine (HLY.out _ ?_).mono ?_; exact s4; rintro e w5 ⟨v5, rfl, how5, hb5⟩; replace hb5 := undrewG hb5; replace how5 := OwB.undrew how5; have bA5 := bA4.next hb5; have bB5 := bB4.next hb5; obtain ⟨m0, m1⟩ := bA5.cells; obtain ⟨n0, n1⟩ := bB5.cells)
          | (go_at_call_of 126 xs; refine (HLX.out _ (r4.later hb5)).mono ?_; rintro e w6 ⟨v6, rfl, how6, hb6⟩; have bA6 := bA5.next hb6; have bB6 := bB5.next hb6; obtain ⟨p0, p1⟩ := bA6.cells; obtain ⟨q0, q1⟩ := bB6.cells; obtain ⟨a6, c6, rfl, hrb6, -, -⟩ := how6.shape (by have := hxp; omega) (fun x hx => by have := hbx x hx; omega); obtain ⟨bb, oo, rfl, hcell⟩ := hrb6.2.2.resolve_left (fun h => by rw [h] at hxp; simp at hxp))
          | (go_at_call 88; refine (l1From_any _ _ _ _ hrb7).mono ?_; rintro e w8 ⟨a8, c8, rfl, hfr8, hb8⟩; have hb9 := chain hb7 hb8; have bR8 := bR4.next hb9; obtain ⟨r0, r1⟩ := bR8.cells; have f0 := bR8.free 0; have f1 := bR8.free 1; have bA8 := bA4.next hb9; have bB8 := bB4.next hb9; obtain ⟨u0, u1⟩ := bA8.cells; obtain ⟨v0, v1⟩ := bB8.cells)
          | (refine step_appBs _ rfl _ _ rfl (w4.heap.size + 1) _ by_ bx rfl (how5.kept hb6) bb oo c6 rfl hcell hll (by have h1 := how6.own bb rfl; have h2 := block_lt_of_cell (hcell 0 hxp); have h3 := hb5.size; simp at h2; omega) ?_; intro v7 w7 how7 hgr7; rw [← HJ.out] at how7; have hb7 : Below w4.heap.size w4 w7 := (chain hb5 hb6).grown hgr7 (chain hb5 hb6).size (fun k hk => by have := how5.own k hk; omega); have bA7 := bA4.next hb7; have bB7 := bB4.next hb7; obtain ⟨s0, s1⟩ := bA7.cells; obtain ⟨t0, t1⟩ := bB7.cells; obtain ⟨a7, c7, rfl, hrb7, -, -⟩ := how7.shape hJl hJb))
      have B8 := chain B4 hb9
      have s4 := bR4.lt
      have s7 := hb7.size
      go_wp2
      exact bodyPost_ret (by simp [results, Tryz.results96, go_sem, r0, r1]; rfl) rfl (RetB.close (r := fromR J) hfr8 (by omega) (by omega) B8 rfl _ _)

theorem Dw.row {β : Nat} {w1 w2 : World} {o : Obj} (h : Dw β (w1.alloc o) w2) (hβ : β < w1.heap.size) : w2.heap[w1.heap.size]? = some o := by
 rw [World.grownBy.block h w1.heap.size (by simp) (by simp; omega), heap_alloc_new]
theorem wrap64_of {x : Int} (h1 : -9223372036854775808 ≤ x) (h2 : x ≤ 9223372036854775807) : wrap64 x = x := by
 unfold wrap64; omega
theorem near_any (l h : Nat) (hlh : l ≤ h) (hh : h ≤ 4194304) (β : Nat) (a : Option Addr) (c : Nat) (bs : List Nat) (w : World) (hr : Rr w β a c bs) :
  Calls Tryz.prog 91 #[.pointer (some ⟨β, 0, none⟩), .int .i64 l, .int .i64 h] w fun e w' => ∃ x : Nat, e = .returned (.int .i64 x) ∧ l ≤ x ∧ x ≤ h ∧ Rr w' β a c bs ∧ Dw β w w' := by
 go_enter Tryz.func91, Tryz.ntmps91
 go_wp2_with fail
 refine (below_any 8 (by omega) β a c bs _ hr).mono ?_
 rintro e w1 ⟨x, rfl, hx, hr1, hd1⟩
 rcases Nat.lt_or_ge 1 x with h1 | h1
 ·have n0 : ¬ x = 0 := by omega
  have n1 : ¬ x = 1 := by omega
  have n0i : ¬ (x : Int) = 0 := by omega
  have n1i : ¬ (x : Int) = 1 := by omega
  have n2i : ¬ (h : Int) < (l : Int) := by omega
  go_wp2_with fail
  refine (word_any β a c bs _ hr1).mono ?_
  rintro e w2 ⟨y, rfl, hy, hr2, hd2⟩
  have hm : y / 2 % (h - l + 1) < h - l + 1 := Nat.mod_lt _ (by omega)
  have e1 : ((y : Int) / 2 % ((h : Int) - (l : Int) + 1)) = ((y / 2 % (h - l + 1) : Nat) : Int) := by
   rw [Int.natCast_emod, Int.natCast_ediv]; congr 1; omega
  generalize hz : y / 2 % (h - l + 1) = z at *
  have E1 : Hid ((y : Int) / 2 % ((h : Int) - (l : Int) + 1) = (z : Int)) := e1
  clear e1 hz
  go_wp2
  go_ret
  refine ⟨l + z, ?_, by omega, by omega, hr2, hd1.trans hd2⟩
  rw [E1.out, wrap64_of (show -9223372036854775808 ≤ (z : Int) by omega) (by omega), wrap64_of (by omega) (by omega)]
  simp
 ·obtain rfl | rfl : x = 0 ∨ x = 1 := by omega
  ·go_wp2
   go_ret
   exact ⟨l, rfl, Nat.le_refl _, hlh, hr1, hd1⟩
  ·go_wp2
   go_ret
   exact ⟨h, rfl, hlh, Nat.le_refl _, hr1, hd1⟩
theorem off_any (l h : Nat) (hlh : l ≤ h) (hh : h ≤ 4194304) (β : Nat) (a : Option Addr) (c : Nat) (bs : List Nat) (w : World) (hr : Rr w β a c bs) :
  Calls Tryz.prog 68 #[.pointer (some ⟨β, 0, none⟩), .int .i64 l, .int .i64 h] w fun e w' => ∃ x : Int, e = .returned (.int .i64 x) ∧ -9223372036854775808 ≤ x ∧ x ≤ 9223372036854775807 ∧ Rr w' β a c bs ∧ Dw β w w' := by
 go_enter Tryz.func68, Tryz.ntmps68
 go_wp2_with fail
 refine (once_any 24 (by omega) (by omega) β a c bs _ hr).mono ?_
 rintro e w1 ⟨x, rfl, hr1, hd1⟩
 cases x with
 | true =>
  have hβ : β < w1.heap.size := by obtain ⟨p, _, hk, _⟩ := hr1; exact hk.lt
  go_wp2_with fail
  refine (below_any 4 (by omega) β a c bs _ (hr1.later ((Below.refl _ _).alloc (Nat.le_refl _) _))).mono ?_
  rintro e w2 ⟨y, rfl, hy, hr2, hd2⟩
  have hrow := hd2.row hβ
  have hy4 : y < 4 := by omega
  obtain ⟨z, hz1, hz2, hcell⟩ : ∃ z : Int, -9223372036854775808 ≤ z ∧ z ≤ 9223372036854775807 ∧ w2.cell? ⟨w1.heap.size, y, none⟩ = some (.int .i64 z) := by
   rw [cell_of_row w2 _ y _ _ _ hrow]
   match y, hy4 with
   | 0, _ => exact ⟨(l : Int) - 1, by omega, by omega, rfl⟩
   | 1, _ => exact ⟨(h : Int) + 1, by omega, by omega, rfl⟩
   | 2, _ => exact ⟨-9223372036854775808, by omega, by omega, rfl⟩
   | 3, _ => exact ⟨9223372036854775807, by omega, by omega, rfl⟩
  have hd := hd1.trans ((Dw.of ((Below.refl _ _).alloc (Nat.le_refl _) _)).trans hd2)
  clear hrow hd2
  go_wp2
  go_ret
  exact ⟨z, rfl, hz1, hz2, hr2, hd⟩
 | false =>
  go_wp2_with fail
  refine (near_any l h hlh hh β a c bs _ hr1).mono ?_
  rintro e w2 ⟨y, rfl, hy1, hy2, hr2, hd2⟩
  go_wp2
  go_ret
  exact ⟨y, rfl, by omega, by omega, hr2, hd1.trans hd2⟩
theorem wide_any (β : Nat) (a : Option Addr) (c : Nat) (bs : List Nat) (w : World) (hr : Rr w β a c bs) :
  Calls Tryz.prog 63 #[.pointer (some ⟨β, 0, none⟩)] w fun e w' => ∃ x : Nat, e = .returned (.int .i64 x) ∧ 1 ≤ x ∧ x ≤ 200 ∧ Rr w' β a c bs ∧ Dw β w w' := by
 go_enter Tryz.func63, Tryz.ntmps63
 go_wp2_with fail
 refine (below_any 10 (by omega) β a c bs _ hr).mono ?_
 rintro e w1 ⟨x, rfl, hx, hr1, hd1⟩
 rcases Nat.lt_or_ge 1 x with h1 | h1
 ·have n0 : ¬ x = 0 := by omega
  have n1 : ¬ x = 1 := by omega
  have n0i : ¬ (x : Int) = 0 := by omega
  have n1i : ¬ (x : Int) = 1 := by omega
  go_wp2_with fail
  refine (below_any 12 (by omega) β a c bs _ hr1).mono ?_
  rintro e w2 ⟨y, rfl, hy, hr2, hd2⟩
  go_wp2
  go_ret
  exact ⟨1 + y, by simp, by omega, by omega, hr2, hd1.trans hd2⟩
 ·obtain rfl | rfl : x = 0 ∨ x = 1 := by omega
  ·have hβ : β < w1.heap.size := by obtain ⟨p, _, hk, _⟩ := hr1; exact hk.lt
   go_wp2_with fail
   refine (below_any 7 (by omega) β a c bs _ (hr1.later ((Below.refl _ _).alloc (Nat.le_refl _) _))).mono ?_
   rintro e w2 ⟨y, rfl, hy, hr2, hd2⟩
   have hrow := hd2.row hβ
   have hy7 : y < 7 := by omega
   obtain ⟨z, hz1, hz2, hcell⟩ : ∃ z : Nat, 1 ≤ z ∧ z ≤ 200 ∧ w2.cell? ⟨w1.heap.size, y, none⟩ = some (.int .i64 z) := by
    rw [cell_of_row w2 _ y _ _ _ hrow]
    match y, hy7 with
    | 0, _ => exact ⟨63, by omega, by omega, rfl⟩
    | 1, _ => exact ⟨64, by omega, by omega, rfl⟩
    | 2, _ => exact ⟨65, by omega, by omega, rfl⟩
    | 3, _ => exact ⟨127, by omega, by omega, rfl⟩
    | 4, _ => exact ⟨128, by omega, by omega, rfl⟩
    | 5, _ => exact ⟨129, by omega, by omega, rfl⟩
    | 6, _ => exact ⟨200, by omega, by omega, rfl⟩
   have hd := hd1.trans ((Dw.of ((Below.refl _ _).alloc (Nat.le_refl _) _)).trans hd2)
   clear hrow hd2
   go_wp2
   go_ret
   exact ⟨z, rfl, hz1, hz2, hr2, hd⟩
  ·go_wp2_with fail
   refine (below_any 40 (by omega) β a c bs _ hr1).mono ?_
   rintro e w2 ⟨y, rfl, hy, hr2, hd2⟩
   go_wp2
   go_ret
   exact ⟨1 + y, by simp, by omega, by omega, hr2, hd1.trans hd2⟩

theorem Blk.put0 {w : World} {β : Nat} {x y : Value} {t : TypeId} (h : Blk w β x y t) (u : Value) : Blk (w.setCell ⟨β, 0, none⟩ u) β u y t := by
  unfold Blk
  rw [heap_setCell_same w β 0 _ _ _ h]; rfl
theorem Rr.lt {w : World} {β : Nat} {a : Option Addr} {c : Nat} {bs : List Nat} (h : Rr w β a c bs) : β < w.heap.size := by
  obtain ⟨p, _, hk, _⟩ := h; exact hk.lt
theorem Rr.far {w0 w w' : World} {β : Nat} {a : Option Addr} {c : Nat} {bs : List Nat} {row : Option Nat} (h0 : Rr w0 β a c bs) (h : Rr w β a c bs) (hg : w.grownBy w' row) (hrow : ∀ k, row = some k → w0.heap.size ≤ k) : Rr w' β a c bs := by
  have hβ := h0.lt
  obtain ⟨_, _, _, ⟨_, _, h3⟩, _⟩ := h0
  obtain ⟨p, hp, hk, hr, hn⟩ := h
  refine ⟨p, hp, ?_, ?_, hn⟩
  · unfold Blk
    rw [hg.block β hk.lt (fun e => by have := hrow β e.symm; omega)]; exact hk
  · rcases h3 with h3 | ⟨b, o, rfl, hc⟩
    · subst h3; exact ⟨by simp, by simp, .inl rfl⟩
    · by_cases he : bs = []
      · subst he; exact ⟨by simp, by simp, .inl rfl⟩
      · have hb : b < w0.heap.size := block_lt_of_cell (hc 0 (List.length_pos_iff.2 he))
        exact hr.kept hg (fun x e _ h => by cases e; have := hrow _ h; simp at this; omega)
theorem Dw.own {β : Nat} {w0 w w' : World} {row : Option Nat} (h : Dw β w0 w) (hg : w.grownBy w' row) (hrow : ∀ k, row = some k → w0.heap.size ≤ k) : Dw β w0 w' :=
  ⟨hg.os.trans h.os, hg.tape.trans h.tape, hg.output.trans h.output, Nat.le_trans h.size hg.size, fun k hk hne => by
    rw [hg.block k (Nat.lt_of_lt_of_le hk h.size) (fun e => by have := hrow k e.symm; omega)]; exact h.block k hk hne⟩
theorem OwB.far {w w' : World} {base : Nat} {v : Value} {bs : List Nat} {β : Nat} (h : OwB w base v bs) (hd : Dw β w w') (hβ : β < base) : OwB w' base v bs := by
  obtain ⟨h1, h2⟩ := h
  refine ⟨h1, ?_⟩
  rcases h2 with h2 | ⟨g, cap, cur, rfl, hg, hh, r⟩
  · exact .inl h2
  · exact .inr ⟨g, cap, cur, rfl, hg, by rw [World.grownBy.block hd g (lt_of_block hh) (by simp; omega)]; exact hh, r⟩
set_option maxHeartbeats 1000000 in
set_option maxRecDepth 100000 in
theorem bits_any (V : Nat) (h1 : 1 ≤ V) (h2 : V ≤ 4096) (β : Nat) (a : Option Addr) (c : Nat) (bs : List Nat) (w : World) (hr : Rr w β a c bs) :
    Calls Tryz.prog 64 #[.pointer (some ⟨β, 0, none⟩), .int .i64 V] w fun e w' => ∃ a' l, l.length = V ∧ (∀ x ∈ l, x ≤ 1) ∧
      e = .returned (.agg #[.int .i64 V, .slice a' (pack l).length (pack l).length]) ∧ Fresh w' w.heap.size a' (pack l) ∧ Rr w' β a c bs ∧ Dw β w w' := by
  go_enter Tryz.func64, Tryz.ntmps64
  go_wp2_with fail
  have hb2 : Below w.heap.size w ((w.alloc (Obj.cells #[.int IntKind.i64 0, .slice none 0 0] 80)).alloc (Obj.cells #[] 5)) := Ba (Ba (Below.refl _ _) _) _
  have hβ := hr.lt
  refine (word_any β a c bs _ (hr.later hb2)).mono ?_
  rintro e w1 ⟨y, rfl, hy, hr1, hd1⟩
  go_wp2_with fail
  refine (below_any 4 (by omega) β a c bs _ hr1).mono ?_
  rintro e w2 ⟨m, rfl, hm, hr2, hd2⟩
  have hd12 := hd1.trans hd2
  have ho2 : OwB w2 (w.heap.size + 1) (.slice (some ⟨w.heap.size + 1, 0, none⟩) 0 0) [] := OwB.far (OwB.nil _ _ _ (by simp) (Nat.le_refl _)) hd12 (by omega)
  have hk2 : Blk w2 w.heap.size (.int .i64 0) (.slice none 0 0) 80 := by
    unfold Blk
    rw [World.grownBy.block hd12 w.heap.size (by simp; omega) (by simp; omega), heap_alloc_old _ _ (by simp), heap_alloc_new]
  have hd : Dw β w w2 := (Dw.of hb2).trans hd12
  clear hb2 hd1 hd2 hd12 hr1
  go_wp2
  go_loopw [5, 8] (fun v i wr => ∃ (k : Nat) (l : List Nat), k ≤ V ∧ i = .int .i64 k ∧ l.length = k ∧ (∀ x ∈ l, x ≤ 1) ∧ OwB wr (w.heap.size + 1) v l ∧ Blk wr w.heap.size (.int .i64 0) (.slice none 0 0) 80 ∧ Rr wr β a c bs ∧ Dw β w wr) (fun _ i _ => V - (intOf i).toNat)
  case atStart => exact ⟨0, [], Nat.zero_le _, rfl, rfl, by simp, ho2, hk2, hr2, hd⟩
  case round =>
    clear ho2 hk2 hr2 hd
    obtain ⟨k, l, hk, rfl, hlk, hl1, hown, hbk, hrr, hdd⟩ := hrel
    by_cases hlt : k < V
    · have hsz : w.heap.size < wr.heap.size := hbk.lt
      have hbl : l.length ≤ 4194304 := by omega
      have HLK : Hid (l.length = k) := hlk
      have HL1 : Hid (∀ x ∈ l, x ≤ 1) := hl1
      clear hlk hl1
      obtain ⟨t, ht, HC⟩ : ∃ t : Nat, t ≤ 1 ∧ Hid (bits BinOp.and IntKind.u64 ((y : Int) / 2 ^ (k * 7 % 64)) 1 % 256 = (t : Int)) := ⟨_, by omega, andOne y _ hy⟩
      by_cases m0 : m = 0
      · have e0 : ((m : Int) == 0) = true := by simp [m0]
        have e1 : ((m : Int) == 1) = false := by simp [m0]
        clear m0
        go_wp2_with (at_builtin; refine wpList_appB _ rfl _ _ rfl (w.heap.size + 1) _ l 0 rfl (hown.alloc _) wr.heap.size rfl (by simp) hbl (by simp; omega) ?_)
        intro v' w3 hown3 hgr
        have hgo : ∀ q, (Value.ownBlock u5) = some q → w.heap.size ≤ q := fun q hq => by have := hown.own q hq; omega
        have hd3 := (hdd.alloc _).own hgr hgo
        have hr3 := hr.far (hrr.later ((Below.refl _ _).alloc (Nat.le_refl _) _)) hgr hgo
        have hk3 : Blk w3 w.heap.size (.int .i64 0) (.slice none 0 0) 80 := by
          unfold Blk
          rw [hgr.block w.heap.size (by simp; omega) (fun e => by have := hown.own _ e.symm; omega)]
          exact hbk.alloc _
        clear hgr hown hdd hrr hbk hgo
        go_wp2
        go_roundw
        case rel => exact ⟨k + 1, l ++ [0], by omega, by go_num, by simp [HLK.out], fun x hx => by
                      rcases List.mem_append.1 hx with h | h
                      · exact HL1.out x h
                      · simp at h; omega, hown3, hk3, hr3, hd3⟩
        case measure => simp [intOf]; omega
      · have m0i : ¬ (m : Int) = 0 := by omega
        by_cases m1 : m = 1
        · have e0 : ((m : Int) == 0) = false := by simp [m1]
          have e1 : ((m : Int) == 1) = true := by simp [m1]
          clear m1 m0 m0i
          go_wp2_with (at_builtin; refine wpList_appB _ rfl _ _ rfl (w.heap.size + 1) _ l 1 rfl (hown.alloc _) wr.heap.size rfl (by simp) hbl (by simp; omega) ?_)
          intro v' w3 hown3 hgr
          have hgo : ∀ q, (Value.ownBlock u5) = some q → w.heap.size ≤ q := fun q hq => by have := hown.own q hq; omega
          have hd3 := (hdd.alloc _).own hgr hgo
          have hr3 := hr.far (hrr.later ((Below.refl _ _).alloc (Nat.le_refl _) _)) hgr hgo
          have hk3 : Blk w3 w.heap.size (.int .i64 0) (.slice none 0 0) 80 := by
            unfold Blk
            rw [hgr.block w.heap.size (by simp; omega) (fun e => by have := hown.own _ e.symm; omega)]
            exact hbk.alloc _
          clear hgr hown hdd hrr hbk hgo
          go_wp2
          go_roundw
          case rel => exact ⟨k + 1, l ++ [1], by omega, by go_num, by simp [HLK.out], fun x hx => by
                        rcases List.mem_append.1 hx with h | h
                        · exact HL1.out x h
                        · simp at h; omega, hown3, hk3, hr3, hd3⟩
          case measure => simp [intOf]; omega
        · have e0 : ((m : Int) == 0) = false := by simp [m0]
          have e1 : ((m : Int) == 1) = false := by simp; omega
          clear m1 m0 m0i
          go_wp2_with (at_builtin; refine wpList_appB _ rfl _ _ rfl (w.heap.size + 1) _ l t rfl (hown.alloc _) wr.heap.size rfl (by simp [HC.out]) hbl (by simp; omega) ?_)
          intro v' w3 hown3 hgr
          have hgo : ∀ q, (Value.ownBlock u5) = some q → w.heap.size ≤ q := fun q hq => by have := hown.own q hq; omega
          have hd3 := (hdd.alloc _).own hgr hgo
          have hr3 := hr.far (hrr.later ((Below.refl _ _).alloc (Nat.le_refl _) _)) hgr hgo
          have hk3 : Blk w3 w.heap.size (.int .i64 0) (.slice none 0 0) 80 := by
            unfold Blk
            rw [hgr.block w.heap.size (by simp; omega) (fun e => by have := hown.own _ e.symm; omega)]
            exact hbk.alloc _
          clear hgr hown hdd hrr hbk hgo
          go_wp2
          go_roundw
          case rel => exact ⟨k + 1, l ++ [t], by omega, by go_num, by simp [HLK.out], fun x hx => by
                        rcases List.mem_append.1 hx with h | h
                        · exact HL1.out x h
                        · simp at h; omega, hown3, hk3, hr3, hd3⟩
          case measure => simp [intOf]; omega
    · have HLK : Hid (l.length = k) := hlk
      have HL1 : Hid (∀ x ∈ l, x ≤ 1) := hl1
      have ek : k = V := by omega
      subst ek
      have hbl : l.length ≤ 4194304 := by omega
      obtain ⟨a', c', rfl, hrd, -, -⟩ := hown.shape hbl (fun x hx => by have := hl1 x hx; omega)
      have g1 : 1 ≤ l.length := by omega
      have g2 : l.length ≤ 4096 := by omega
      clear hl1 hlk
      go_wp2_with fail
      refine (l1From_cap _ _ _ _ hrd g1 g2).mono ?_
      rintro e w4 ⟨a4, rfl, hf, hb4⟩
      have hk4 := hbk.next hb4
      have hr4 := hrr.later hb4
      have hd4 := hdd.trans (Dw.of hb4)
      obtain ⟨c0, c1⟩ := hk4.cells
      have f0 : w4.frozen? ⟨w.heap.size, 0, none⟩ = false := frozen_of_row w4 _ 0 _ _ hk4
      have f1 : w4.frozen? ⟨w.heap.size, 1, none⟩ = false := frozen_of_row w4 _ 1 _ _ hk4
      have HF : Hid _ := hf
      have HB4 : Hid _ := hb4
      have hltr : w.heap.size < wr.heap.size := hbk.lt
      have hlt4 : w.heap.size < w4.heap.size := hk4.lt
      clear hown hbk hrr hdd hrd hb4 hf
      go_wp2
      obtain ⟨d0, d1⟩ := (((hk4.put0 (Value.int IntKind.i64 l.length)).put1 (Value.slice a4 (pack l).length (pack l).length)).alloc (Obj.cells #[.int IntKind.i64 l.length, .slice a4 (pack l).length (pack l).length] 80)).cells
      refine bodyPost_ret (v := .agg #[.int .i64 l.length, .slice a4 (pack l).length (pack l).length]) (by simp [results, Tryz.results64, go_sem, d0, d1]) rfl ?_
      have gw := (gsc w4 ⟨w.heap.size, 0, none⟩ (Value.int IntKind.i64 l.length)).trans (gsc _ ⟨w.heap.size, 1, none⟩ (Value.slice a4 (pack l).length (pack l).length))
      have gh : ∀ q, some w.heap.size = some q → w.heap.size ≤ q := fun q e => by cases e; exact Nat.le_refl _
      refine ⟨a4, l, HLK.out, HL1.out, by rw [HLK.out], ?_, (hr.far hr4 gw gh).later ((Below.refl _ _).alloc (Nat.le_refl _) _), (hd4.own gw gh).alloc _⟩
      rcases HF.out with h | ⟨g, rfl, hg, ho⟩
      · exact .inl h
      · refine .inr ⟨g, rfl, by omega, ?_⟩
        have ho2 := (ho.other (a := ⟨w.heap.size, 0, none⟩) (show g ≠ w.heap.size by omega) (Value.int IntKind.i64 l.length)).other (a := ⟨w.heap.size, 1, none⟩) (show g ≠ w.heap.size by omega) (Value.slice (some ⟨g, 0, none⟩) (pack l).length (pack l).length)
        exact ho2.later ((Below.refl _ _).alloc (Nat.le_refl _) _) ho2.lt

def lgc : List Lg → List Value
 | [] => []
 | x :: t => .int .i64 x.id :: .bool x.eq :: .slice x.sa x.ss.length x.sc :: .slice x.ta x.ts.length x.tc :: lgc t
theorem lgc_len (l : List Lg) : (lgc l).length = l.length * 4 := by
 induction l with
 | nil => rfl
 | cons x t ih => simp [lgc, ih]; omega
theorem lgc_append (xs ys : List Lg) : lgc (xs ++ ys) = lgc xs ++ lgc ys := by
 induction xs with
 | nil => rfl
 | cons x t ih => simp [lgc, ih]
theorem lgc_get : ∀ {l : List Lg} {i : Nat} {x : Lg}, l[i]? = some x → (lgc l)[i * 4]? = some (.int .i64 x.id) ∧ (lgc l)[i * 4 + 1]? = some (.bool x.eq) ∧ (lgc l)[i * 4 + 2]? = some (.slice x.sa x.ss.length x.sc) ∧ (lgc l)[i * 4 + 3]? = some (.slice x.ta x.ts.length x.tc)
 | y :: t, 0, x, h => by simp at h; subst h; simp [lgc]
 | y :: t, i + 1, x, h => by
  have := lgc_get (l := t) (i := i) (x := x) (by simpa using h)
  rw [show (i + 1) * 4 = i * 4 + 1 + 1 + 1 + 1 by omega]
  simpa [lgc] using this
def OL4 (w : World) (B : Nat) (v : Value) (l : List Lg) : Prop := w.ownsRow B 30 4 v l.length (lgc l)
theorem OL4.later {w w' : World} {B : Nat} {v : Value} {l : List Lg} (h : OL4 w B v l) (hb : Below w.heap.size w w') : OL4 w' B v l := World.ownsRow.kept (row := none) h ⟨hb.os, hb.tape, hb.output, hb.size, fun k hk _ => hb.block k hk⟩ (by
 cases h' : v.ownBlock with
 | none => exact .inl rfl
 | some k => exact .inr (by simp))
theorem OL4.lt {w : World} {B : Nat} {v : Value} {l : List Lg} (h : OL4 w B v l) {b : Nat} (hb : v.ownBlock = some b) : B ≤ b ∧ b < w.heap.size := by
 rcases h.2 with ⟨rfl, -⟩ | ⟨g, cap, cur, rfl, hg, hh, -⟩
 ·cases hb
 ·cases hb
  exact ⟨hg, lt_of_block hh⟩
theorem OL4.nil (w : World) (B : Nat) : OL4 w B (.slice none 0 0) [] := ⟨rfl, .inl ⟨rfl, rfl⟩⟩
theorem OL4.rd {w : World} {B : Nat} {v : Value} {l : List Lg} (h : OL4 w B v l) (hl : l.length ≤ 1048576) (hx : ∀ x ∈ l, RdT w x.sa x.ss ∧ RdT w x.ta x.ts ∧ in64 x.id) : ∃ a c, v = .slice a l.length c ∧ RdL w a l := by
 rcases h.2 with ⟨rfl, h0⟩ | ⟨g, cap, cur, rfl, hg, hh, hc1, hc2, hsz, hcur⟩
 ·have e := List.eq_nil_of_length_eq_zero h0
  subst e
  exact ⟨none, 0, rfl, by simp, .inl rfl⟩
 ·refine ⟨some ⟨g, 0, none⟩, cap, rfl, hl, .inr ⟨g, 0, rfl, fun i x hi => ?_⟩⟩
  obtain ⟨e0, e1, e2, e3⟩ := lgc_get hi
  have hil := (List.getElem?_eq_some_iff.1 hi).1
  rw [← hcur] at e0 e1 e2 e3
  rw [List.getElem?_take, if_pos (by omega)] at e0 e1 e2 e3
  simp only [Array.getElem?_toList] at e0 e1 e2 e3
  exact ⟨⟨by rw [Nat.zero_add, cell_of_row w g _ cur _ _ hh]; exact e0, by rw [Nat.zero_add, cell_of_row w g _ cur _ _ hh]; exact e1, by rw [Nat.zero_add, cell_of_row w g _ cur _ _ hh]; exact e2, by rw [Nat.zero_add, cell_of_row w g _ cur _ _ hh]; exact e3⟩, hx x (List.mem_of_getElem? hi)⟩
theorem wpList_appL4 {w : World} {ops : Array Oper} {rest : List Oper} {o : Oper} {a : Act} {Q : Exit → Act → World → Prop} (hgd : o.guard = none) (s x : Operand)
  (ho : o.op = .call { callee := .builtin .append, args := #[s, x], argTypes := #[36, 36] })
  (B : Nat) (v : Value) (l : List Lg) (y : Lg) (hs : a.eval s = v) (hown : OL4 w B v l) (gx : Nat) (hx : a.eval x = .slice (some ⟨gx, 0, none⟩) 1 1)
  (h0 : w.cell? ⟨gx, 0, none⟩ = some (.int .i64 y.id)) (h1 : w.cell? ⟨gx, 1, none⟩ = some (.bool y.eq)) (h2 : w.cell? ⟨gx, 2, none⟩ = some (.slice y.sa y.ss.length y.sc)) (h3 : w.cell? ⟨gx, 3, none⟩ = some (.slice y.ta y.ts.length y.tc)) (hl : l.length ≤ 1073741824) (hB : B ≤ w.heap.size)
  (h : ∀ v' w', OL4 w' B v' (l ++ [y]) → w.grownBy w' v.ownBlock → wpList Tryz.prog ops Q rest (a.put o.dst v') w') : wpList Tryz.prog ops Q (o :: rest) a w := by
 obtain ⟨i0, hi, hz0, hz1, hz2⟩ := info_parts Tryz.infoLit
 refine wpList_append_own_at w hgd s x 36 ho B 30 i0 _ 4 64 Tryz.underlying36 hi hz0 hz1 hz2 rfl (by decide) v l.length (lgc l) hs hown ⟨gx, 0, none⟩ 1 1 (lgc [y]) hx rfl ?_ ?_ (by unfold maxLen; omega) (by omega) hB ?_
 ·intro j u hj
  rw [Addr.add_lit]
  match j, hj with
  | 0, hj => simp [lgc] at hj; subst hj; exact h0
  | 1, hj => simp [lgc] at hj; subst hj; exact h1
  | 2, hj => simp [lgc] at hj; subst hj; exact h2
  | 3, hj => simp [lgc] at hj; subst hj; exact h3
  | j + 4, hj => simp [lgc] at hj
 ·intro u hu
  simp [lgc] at hu
  rcases hu with rfl | rfl | rfl | rfl <;> rfl
 ·intro v' w' h1 h2 _ _
  refine h v' w' ?_ h2
  unfold OL4
  rw [lgc_append, List.length_append]
  exact h1

theorem Fresh.nwE {w : World} {lo : Nat} {a : Option Addr} {xs : List Nat} (h : Fresh w lo a xs) : Nw w lo a xs := by
 rcases h with ⟨h1, h2⟩ | ⟨g, h1, h2, h3⟩
 ·exact .inl ⟨h1, fun x e => by rw [h2] at e; cases e⟩
 ·exact .inr ⟨g, u64s xs, h1, h2, h3, fun i hi => u64s_get _ _ hi⟩
theorem Nw.put {w : World} {lo β : Nat} {a : Option Addr} {xs : List Nat} {x y : Value} {t : TypeId} (h : Nw w lo a xs) (hB : Blk w β x y t) (ht : t ≠ 109) (i : Nat) (v : Value) : Nw (w.setCell ⟨β, i, none⟩ v) lo a xs :=
 Nw.kept h fun k cur hc => heap_setCell_other _ _ _ _ (fun e => by
  simp only [] at e
  subst e
  rw [hB] at hc
  cases hc
  exact ht rfl)
def RetV (u : World) (X : Int × List Nat) (e : Ending) (w' : World) : Prop := ∃ a c, e = .returned (.agg #[.int .i64 X.1, .slice a X.2.length c]) ∧ Nw w' u.heap.size a X.2 ∧ Below u.heap.size u w'
theorem Blk.put0' {w : World} {β : Nat} {x y : Value} {t : TypeId} (h : Blk w β x y t) (u : Value) : Blk (w.setCell ⟨β, 0, none⟩ u) β u y t := by
 unfold Blk
 rw [heap_setCell_same w β 0 _ _ _ h]; rfl
theorem Blk.put1' {w : World} {β : Nat} {x y : Value} {t : TypeId} (h : Blk w β x y t) (u : Value) : Blk (w.setCell ⟨β, 1, none⟩ u) β x u t := by
 unfold Blk
 rw [heap_setCell_same w β 1 _ _ _ h]; rfl
theorem set2_far (w : World) (β : Nat) (x y : Value) (a : Addr) (h : a.block ≠ β) : ((w.setCell ⟨β, 0, none⟩ x).setCell ⟨β, 1, none⟩ y).cell? a = w.cell? a := by
 rw [World.cell?_setCell_far _ _ _ _ (fun e => h e.symm), World.cell?_setCell_far _ _ _ _ (fun e => h e.symm)]
theorem drew2_far (w : World) (β : Nat) (x y : Value) (a : Addr) (h : a.block ≠ β) : ((w.setCell ⟨β, 0, none⟩ x).setCell ⟨β, 1, none⟩ y).drew.cell? a = w.cell? a := set2_far w β x y a h
theorem RetV.box {u w5 : World} {ρ lo c : Nat} {W : Int} {a : Option Addr} {xs : List Nat} {x y : Value} (hB : Blk w5 ρ x y 80) (hn : Nw w5 lo a xs) (hlo : u.heap.size ≤ lo) (hρ : u.heap.size ≤ ρ) (hb : Below u.heap.size u w5) :
  RetV u (W, xs) (.returned (.agg #[.int .i64 W, .slice a xs.length c])) ((w5.setCell ⟨ρ, 0, none⟩ (.int .i64 W)).setCell ⟨ρ, 1, none⟩ (.slice a xs.length c)) :=
 ⟨a, c, rfl, ((hn.mono hlo).put hB (by decide) 0 _).put (hB.put0' _) (by decide) 1 _, (hb.setCell hρ _).setCell hρ _⟩
set_option maxHeartbeats 1000000 in
theorem copyBits_any (W : Int) (a : Option Addr) (c : Nat) (xs : List Nat) (w : World) (hr : Rd w a xs) (hx : 1 ≤ xs.length) :
  Calls Tryz.prog 134 #[.agg #[.int .i64 W, .slice a xs.length c]] w (RetV w (W, xs)) := by
 have s0 := St.start w (.cells #[.int .i64 W, .slice a xs.length c] 80)
 have hb1 : Below w.heap.size w ((w.alloc (Obj.cells #[.int .i64 W, .slice a xs.length c] 80)).alloc (Obj.cells #[.int .i64 0, .slice none 0 0] 80)) := Ba (Ba (Below.refl _ _) _) _
 have hA := (Blk.new w (.int .i64 W) (.slice a xs.length c) 80).alloc (Obj.cells #[.int .i64 0, .slice none 0 0] 80)
 have hR := Blk.new1 w (Obj.cells #[.int .i64 W, .slice a xs.length c] 80) (.int .i64 0) (.slice none 0 0) 80
 have hs1 : ((w.alloc (Obj.cells #[.int .i64 W, .slice a xs.length c] 80)).alloc (Obj.cells #[.int .i64 0, .slice none 0 0] 80)).heap.size = w.heap.size + 2 := by simp
 obtain ⟨hl, hx2, h | ⟨b, o, rfl, hc⟩⟩ := hr.later hb1
 ·rw [h] at hx; simp at hx
 obtain ⟨a0, a1⟩ := hA.cells
 have HC := kide hc
 have HX := kide hx2
 go_enter Tryz.func134, Tryz.ntmps134
 go_wp2_with fail
 generalize ((w.alloc (Obj.cells #[.int .i64 W, .slice (some ⟨b, o, none⟩) xs.length c] 80)).alloc (Obj.cells #[.int .i64 0, .slice none 0 0] 80)) = w1 at *
 clear hc hx2 hr s0
 go_region_held_law (fun u => u.cell? ⟨w.heap.size, 0, none⟩ = some (Value.int IntKind.i64 W) ∧ u.cell? ⟨w.heap.size, 1, none⟩ = some (Value.slice (some { block := b, off := o }) xs.length c))
  (first | (refine ⟨?_, ?_⟩ <;> assumption) | (refine ⟨?_, ?_⟩ <;> (rw [World.cell?_setCell_far _ _ _ _ (by simp <;> omega), World.cell?_setCell_far _ _ _ _ (by simp <;> omega)]; assumption)))
  (first
   | (refine step_appWs _ rfl _ _ rfl w1.heap.size (.slice none 0 0) [] xs rfl (OwW.nils _ _) b o c rfl HC.out (by simp; omega) (Nat.le_refl _) ?_; intro v5 w5 how5 hgr5; have hb5 : Below w1.heap.size w1 w5 := kundrew ⟨hgr5.os, hgr5.tape, hgr5.output, hgr5.size, fun k hk => hgr5.block k hk (by simp [Value.ownBlock])⟩; rw [List.nil_append] at how5; obtain ⟨a5, c5, rfl, hn5⟩ := how5.shape; have hA5 := hA.next hb5; have hR5 := hR.next hb5; obtain ⟨a50, a51⟩ := hA5.cells; obtain ⟨r50, r51⟩ := hR5.cells; have f50 := frozen_of_row w5 _ 0 _ _ hR5; have f51 := frozen_of_row w5 _ 1 _ _ hR5))
 go_wp2
 obtain ⟨q0, q1⟩ := ((hR5.put0' (.int .i64 W)).put1' (.slice a5 xs.length c5)).cells
 exact bodyPost_ret (v := .agg #[.int .i64 W, .slice a5 xs.length c5]) (by simp [results, Tryz.results134, go_sem, q0, q1]) rfl (RetV.box hR5 hn5 (by omega) (by omega) (hb1.trans (hb5.mono (by omega))))

theorem OwB.put {w : World} {base g cap : Nat} {bs : List Nat} (h : OwB w base (.slice (some ⟨g, 0, none⟩) bs.length cap) bs) (j y : Nat) : OwB (w.setCell ⟨g, j, none⟩ (.int .u8 (y : Int))) base (.slice (some ⟨g, 0, none⟩) bs.length cap) (bs.set j y) := by
 have := (World.ownsRow.stored h j (.int .u8 (y : Int))).1
 unfold OwB
 rw [List.length_set]
 have e : (u8s bs).set j (.int .u8 (y : Int)) = u8s (bs.set j y) := by simp [u8s, List.map_set]
 rw [e] at this
 exact this
theorem OwB.cellAt {w : World} {base g cap : Nat} {bs : List Nat} (h : OwB w base (.slice (some ⟨g, 0, none⟩) bs.length cap) bs) (j : Nat) (hj : j < bs.length) : w.cell? ⟨g, j, none⟩ = some (.int .u8 ((bs.getD j 0 : Nat) : Int)) := by
 rw [World.ownsRow.cellAt h j (by omega)]
 simp [u8s, List.getD, hj]
theorem OwB.freeAt {w : World} {base g cap : Nat} {bs : List Nat} (h : OwB w base (.slice (some ⟨g, 0, none⟩) bs.length cap) bs) (j : Nat) : w.frozen? ⟨g, j, none⟩ = false := World.ownsRow.frozenAt h j

end Go.Proofs.YtkngpgonmedgpaaGreatDoor
