/- Several texts in one. -/
import Derived.Test.YtffcklobignlfaaGAE
import Derived.Deep.RegionHeld3
import Derived.Deep.RegionHeldLaw
import Derived.WalkSpells
import Derived.Deep.QuietTactic
import Derived.BigQuiet
import Derived.Outline
import Derived.WalkSmall
import Derived.Deep.OwnRows
import Derived.Test.YtffcklobignlfaaGAB
namespace Go.Proofs.Ytffcklobignlfaa
open Go.RowKit
set_option linter.unusedVariables false
set_option linter.unusedSimpArgs false
theorem Ba {w wk : World} (h : Below w.heap.size w wk) (o : Obj) : Below w.heap.size w (wk.alloc o) := h.alloc h.size o
def Blk (w : World) (β : Nat) (x y : Value) (t : TypeId) : Prop := w.heap[β]? = some (.cells #[x, y] t (0, 0))
theorem Blk.cells {w : World} {β : Nat} {x y : Value} {t : TypeId} (h : Blk w β x y t) : w.cell? ⟨β, 0, none⟩ = some x ∧ w.cell? ⟨β, 1, none⟩ = some y :=
 ⟨cell_of_row w β 0 _ _ _ h, cell_of_row w β 1 _ _ _ h⟩
theorem Blk.lt {w : World} {β : Nat} {x y : Value} {t : TypeId} (h : Blk w β x y t) : β < w.heap.size := lt_of_block h
theorem Blk.next {w w' : World} {β : Nat} {x y : Value} {t : TypeId} (h : Blk w β x y t) (hb : Below w.heap.size w w') : Blk w' β x y t := by
 unfold Blk
 rw [hb.block β h.lt]; exact h
theorem Blk.new (w : World) (x y : Value) (t : TypeId) : Blk (w.alloc (.cells #[x, y] t)) w.heap.size x y t := heap_alloc_new _ _
theorem Blk.alloc {w : World} {β : Nat} {x y : Value} {t : TypeId} (h : Blk w β x y t) (o : Obj) : Blk (w.alloc o) β x y t := h.next ((Below.refl _ _).alloc (Nat.le_refl _) _)

def Rr (w : World) (β : Nat) (a : Option Addr) (c : Nat) (bs : List Nat) : Prop :=
 ∃ p : Nat, p ≤ bs.length ∧ Blk w β (.slice a bs.length c) (.int .i64 p) 57 ∧ RdB w a bs ∧ ∀ x, a = some x → bs ≠ [] → x.block ≠ β
theorem Blk.put1 {w : World} {β : Nat} {x y : Value} {t : TypeId} (h : Blk w β x y t) (u : Value) : Blk (w.setCell ⟨β, 1, none⟩ u) β x u t := by
 unfold Blk
 rw [heap_setCell_same w β 1 _ _ _ h]; rfl
theorem RdB.kept {w w' : World} {a : Option Addr} {bs : List Nat} {row : Option Nat} (h : RdB w a bs) (hg : w.grownBy w' row) (hn : ∀ x, a = some x → bs ≠ [] → row ≠ some x.block) : RdB w' a bs := by
 obtain ⟨h1, h2, h3⟩ := h
 refine ⟨h1, h2, ?_⟩
 rcases h3 with h3 | ⟨b, o, rfl, hc⟩
 ·exact .inl h3
 ·refine .inr ⟨b, o, rfl, fun i hi => ?_⟩
  have h4 := hc i hi
  rw [World.cell?_of_block (hg.block b (block_lt_of_cell h4) (fun e => hn _ rfl (fun h => by subst h; simp at hi) e.symm))]
  exact h4
theorem gsc (w : World) (a : Addr) (u : Value) : w.grownBy (w.setCell a u) (some a.block) :=
 ⟨rfl, rfl, rfl, by simp, fun k _ hk => heap_setCell_other w a k u (fun e => hk (by rw [e]))⟩
def Dw (β : Nat) (w w' : World) : Prop := w.grownBy w' (some β)
theorem Dw.refl (β : Nat) (w : World) : Dw β w w := World.grownBy.refl _ _
theorem Dw.trans {β : Nat} {a b c : World} (h : Dw β a b) (k : Dw β b c) : Dw β a c := World.grownBy.trans h k
theorem Dw.of {β : Nat} {w w' : World} (h : Below w.heap.size w w') : Dw β w w' := ⟨h.os, h.tape, h.output, h.size, fun k hk _ => h.block k hk⟩
theorem Dw.alloc {β : Nat} {w w' : World} (h : Dw β w w') (o : Obj) : Dw β w (w'.alloc o) := h.trans (World.grownBy_alloc _ _ _)
theorem Rr.later {w w' : World} {β : Nat} {a : Option Addr} {c : Nat} {bs : List Nat} (h : Rr w β a c bs) (hb : Below w.heap.size w w') : Rr w' β a c bs := by
 obtain ⟨p, hp, hk, hr, hn⟩ := h
 exact ⟨p, hp, hk.next hb, hr.later hb, hn⟩
theorem Bd (w : World) (n : Nat) : Below w.heap.size w (w.drewN n) := below_drewN (Below.refl _ _) n
theorem Dw.drewN {β : Nat} {w w' : World} (h : Dw β w w') (n : Nat) : Dw β w (w'.drewN n) := h.trans (Dw.of (Bd _ _))
def Rp (w : World) (β : Nat) (a : Option Addr) (c : Nat) (bs : List Nat) (p : Nat) : Prop :=
 p ≤ bs.length ∧ Blk w β (.slice a bs.length c) (.int .i64 p) 57 ∧ RdB w a bs ∧ ∀ x, a = some x → bs ≠ [] → x.block ≠ β
theorem Rp.later {w w' : World} {β : Nat} {a : Option Addr} {c : Nat} {bs : List Nat} {p : Nat} (h : Rp w β a c bs p) (hb : Below w.heap.size w w') : Rp w' β a c bs p := by
 obtain ⟨hp, hk, hr, hn⟩ := h
 exact ⟨hp, hk.next hb, hr.later hb, hn⟩
theorem Rp.bump {w : World} {β : Nat} {a : Option Addr} {c : Nat} {bs : List Nat} {p : Nat} (h : Rp w β a c bs p) (hp : p < bs.length) : Rr (w.setCell ⟨β, 1, none⟩ (.int .i64 ((p : Int) + 1))) β a c bs := by
 obtain ⟨_, hk, hr, hn⟩ := h
 exact ⟨p + 1, by omega, by have := hk.put1 (.int .i64 ((p : Int) + 1)); simpa using this, hr.kept (gsc w ⟨β, 1, none⟩ _) (fun x e hb h => by cases h; exact hn _ e hb rfl), hn⟩
theorem next_any (β : Nat) (a : Option Addr) (c : Nat) (bs : List Nat) (w : World) (h : Rr w β a c bs) :
  Calls Try.prog 47 #[.pointer (some ⟨β, 0, none⟩)] w fun e w' => ∃ x : Nat, e = .returned (.int .i64 x) ∧ x < 256 ∧ Rr w' β a c bs ∧ Dw β w w' := by
 have h' := h
 obtain ⟨p, hp, hk, hr, hn⟩ := h
 have HP : Hid (Rp w β a c bs p) := ⟨hp, hk, hr, hn⟩
 obtain ⟨k0, k1⟩ := hk.cells
 have f1 : w.frozen? ⟨β, 1, none⟩ = false := frozen_of_row w β 1 _ _ hk
 have hl := hr.1
 by_cases hlt : p < bs.length
 ·obtain ⟨-, hby, h | ⟨b, o, rfl, hc⟩⟩ := id hr
  ·subst h; simp at hlt
  have hcell := hc p hlt
  have hbn : b ≠ β := hn _ rfl (fun h => by subst h; simp at hlt)
  have hb8 : bs.getD p 0 < 256 := by
   have e : bs.getD p 0 = bs[p] := by simp [List.getD, hlt]
   rw [e]; exact hby _ (List.getElem_mem _)
  generalize bs.getD p 0 = y at hcell hb8
  clear hc hby hn hr hk h'
  go_enter Try.func47, Try.ntmps47
  go_wp2
  go_quiet (fail)
  go_wp2
  go_quiet (fail)
  go_wp2
  go_ret
  exact ⟨y, rfl, hb8, ((HP.out.later (Bd _ _)).bump hlt).later (Bd _ _), ((Dw.of (Bd _ _)).trans (gsc _ ⟨β, 1, none⟩ _)).drewN _⟩
 ·clear hr hk hn
  go_enter Try.func47, Try.ntmps47
  go_wp2
  go_quiet (fail)
  go_wp2
  go_ret
  exact ⟨0, rfl, by omega, h'.later (Bd _ _), Dw.of (Bd _ _)⟩
theorem below_any (n : Nat) (hn : n ≤ 4194304) (β : Nat) (a : Option Addr) (c : Nat) (bs : List Nat) (w : World) (h : Rr w β a c bs) :
  Calls Try.prog 27 #[.pointer (some ⟨β, 0, none⟩), .int .i64 n] w fun e w' => ∃ x : Nat, e = .returned (.int .i64 x) ∧ (x = 0 ∨ x < n) ∧ Rr w' β a c bs ∧ Dw β w w' := by
 by_cases h1 : n ≤ 1
 ·have h1i : (n : Int) ≤ 1 := by omega
  go_enter Try.func27, Try.ntmps27
  go_wp2
  go_ret
  exact ⟨0, rfl, .inl rfl, h, Dw.refl _ _⟩
 ·have h1i : ¬ (n : Int) ≤ 1 := by omega
  by_cases h2 : n ≤ 256
  ·have h2i : (n : Int) ≤ 256 := by omega
   go_enter Try.func27, Try.ntmps27
   go_wp2_with fail
   refine (next_any β a c bs _ h).mono ?_
   rintro e w1 ⟨x, rfl, hx, hr1, hd1⟩
   have hm : x % n < n := Nat.mod_lt _ (by omega)
   have he : Int.tmod (x : Int) (n : Int) = ((x % n : Nat) : Int) := by rw [Int.tmod_eq_emod_of_nonneg (by omega)]; simp
   go_wp2
   go_ret
   exact ⟨x % n, by first | rfl | simp, .inr hm, hr1, hd1⟩
  ·have h2i : ¬ (n : Int) ≤ 256 := by omega
   go_enter Try.func27, Try.ntmps27
   go_wp2_with fail
   refine (next_any β a c bs _ h).mono ?_
   rintro e w1 ⟨x, rfl, hx, hr1, hd1⟩
   go_wp2_with fail
   refine (next_any β a c bs _ hr1).mono ?_
   rintro e w2 ⟨y, rfl, hy, hr2, hd2⟩
   have hm : (x * 256 + y) % n < n := Nat.mod_lt _ (by omega)
   go_wp2
   go_ret
   exact ⟨(x * 256 + y) % n, by first | rfl | simp, .inr hm, hr2, hd1.trans hd2⟩
theorem once_any (n : Nat) (h0 : 1 ≤ n) (hn : n ≤ 4194304) (β : Nat) (a : Option Addr) (c : Nat) (bs : List Nat) (w : World) (h : Rr w β a c bs) :
  Calls Try.prog 28 #[.pointer (some ⟨β, 0, none⟩), .int .i64 n] w fun e w' => ∃ x : Bool, e = .returned (.bool x) ∧ Rr w' β a c bs ∧ Dw β w w' := by
 go_enter Try.func28, Try.ntmps28
 go_wp2_with fail
 refine (below_any n hn β a c bs _ h).mono ?_
 rintro e w1 ⟨x, rfl, hx, hr1, hd1⟩
 go_wp2
 go_ret
 exact ⟨_, rfl, hr1, hd1⟩
theorem orByte (x y : Nat) (hy : y < 256) : ∃ z : Nat, z < 18446744073709551616 ∧ bits BinOp.or IntKind.u64 (IntKind.u64.wrap ((x : Int) * 2 ^ 8)) (y : Int) = (z : Int) := by
 have e : IntKind.u64.wrap ((x : Int) * 2 ^ 8) = ((x * 2 ^ 8 % 18446744073709551616 : Nat) : Int) := by
  rw [IntKind.wrap_u64]; simp
 have hlt : x * 2 ^ 8 % 18446744073709551616 < 18446744073709551616 := Nat.mod_lt _ (by decide)
 refine ⟨x * 2 ^ 8 % 18446744073709551616 ||| y, Nat.or_lt_two_pow (n := 64) hlt (by omega), ?_⟩
 rw [e, bits_or_u64_nat _ _ hlt (by omega)]
theorem word_any (β : Nat) (a : Option Addr) (c : Nat) (bs : List Nat) (w : World) (h : Rr w β a c bs) :
  Calls Try.prog 53 #[.pointer (some ⟨β, 0, none⟩)] w fun e w' => ∃ x : Nat, e = .returned (.int .u64 x) ∧ x < 18446744073709551616 ∧ Rr w' β a c bs ∧ Dw β w w' := by
 go_enter Try.func53, Try.ntmps53
 go_wp2
 go_loopw [3, 4] (fun v i wr => ∃ k x : Nat, k ≤ 8 ∧ i = .int .i64 k ∧ v = .int .u64 x ∧ x < 18446744073709551616 ∧ Rr wr β a c bs ∧ Dw β w wr) (fun _ i _ => 8 - (intOf i).toNat)
 case atStart => exact ⟨0, 0, by omega, rfl, rfl, by omega, h, Dw.refl _ _⟩
 case round =>
  obtain ⟨k, x, hk, rfl, rfl, hx, hr, hd⟩ := hrel
  by_cases hlt : k < 8
  ·go_wp2_with fail
   refine (next_any β a c bs _ hr).mono ?_
   rintro e w1 ⟨y, rfl, hy, hr1, hd1⟩
   obtain ⟨z, hz, HZ⟩ := orByte x y hy
   go_wp2
   go_roundw
   case rel => exact ⟨k + 1, z, by omega, by go_num, by rw [show (256 : Int) = 2 ^ 8 from rfl, HZ], hz, hr1, hd.trans hd1⟩
   case measure => simp [intOf]; omega
  ·go_wp2
   go_ret
   exact ⟨x, rfl, hx, hr, hd⟩

def putTo (zs ys : List Nat) (f s : Nat) : Nat → List Nat
 | 0 => zs
 | k + 1 =>
  let z1 := (putTo zs ys f s k).set (f + k) ((putTo zs ys f s k).getD (f + k) 0 ||| ys.getD k 0 * 2 ^ s % 18446744073709551616)
  z1.set (f + k + 1) (z1.getD (f + k + 1) 0 ||| ys.getD k 0 / 2 ^ (64 - s))
theorem putTo_len (zs ys : List Nat) (f s k : Nat) : (putTo zs ys f s k).length = zs.length := by
 induction k with
 | zero => rfl
 | succ k ih => simp [putTo, ih]
theorem set_lt {xs : List Nat} (h : ∀ x ∈ xs, x < 18446744073709551616) (i v : Nat) (hv : v < 18446744073709551616) : ∀ x ∈ xs.set i v, x < 18446744073709551616 := by
 intro x hx
 rcases List.mem_or_eq_of_mem_set hx with h' | h'
 ·exact h x h'
 ·rw [h']; exact hv
theorem putTo_lt (zs ys : List Nat) (f s k : Nat) (hz : ∀ x ∈ zs, x < 18446744073709551616) (hy : ∀ x ∈ ys, x < 18446744073709551616) : ∀ x ∈ putTo zs ys f s k, x < 18446744073709551616 := by
 induction k with
 | zero => exact hz
 | succ k ih =>
  have h1 := set_lt ih (f + k) _ (Nat.or_lt_two_pow (n := 64) (getD_lt ih (f + k)) (Nat.mod_lt (ys.getD k 0 * 2 ^ s) (by decide)))
  exact set_lt h1 _ _ (Nat.or_lt_two_pow (n := 64) (getD_lt h1 _) (Nat.lt_of_le_of_lt (Nat.div_le_self _ _) (getD_lt hy k)))
theorem tb_put (zs ys : List Nat) (f s k : Nat) (hs : s < 64) (hy : ∀ x ∈ ys, x < 18446744073709551616) (hk : ∀ i, i < k → f + i < zs.length ∧ (f + i + 1 < zs.length ∨ ys.getD i 0 / 2 ^ (64 - s) = 0)) (j : Nat) :
  tb (putTo zs ys f s k) j = (tb zs j || (decide (64 * f + s ≤ j) && decide (j < 64 * f + s + 64 * k) && tb ys (j - (64 * f + s)))) := by
 induction k with
 | zero =>
  by_cases h : 64 * f + s ≤ j
  ·simp [putTo, show ¬ j < 64 * f + s by omega]
  ·simp [putTo, h]
 | succ k ih =>
  have ih' := ih fun i hi => hk i (by omega)
  obtain ⟨h1, h2⟩ := hk k (by omega)
  have hlen := putTo_len zs ys f s k
  have hyk := getD_lt hy k
  have key : tb (putTo zs ys f s (k + 1)) j = (tb (putTo zs ys f s k) j || (decide (j / 64 = f + k) && (ys.getD k 0 * 2 ^ s % 18446744073709551616).testBit (j % 64)) || (decide (j / 64 = f + k + 1) && (ys.getD k 0 / 2 ^ (64 - s)).testBit (j % 64))) := by
   simp only [putTo]
   have e1 : tb ((putTo zs ys f s k).set (f + k) ((putTo zs ys f s k).getD (f + k) 0 ||| ys.getD k 0 * 2 ^ s % 18446744073709551616)) j = (tb (putTo zs ys f s k) j || (decide (j / 64 = f + k) && (ys.getD k 0 * 2 ^ s % 18446744073709551616).testBit (j % 64))) := by
    rw [tb_set _ _ _ _ (by omega)]
    by_cases h : j / 64 = f + k
    ·rw [if_pos h, Nat.testBit_or]; unfold tb; rw [h]; simp
    ·rw [if_neg h]; simp [h]
   rcases h2 with h2 | h2
   ·rw [tb_set _ _ _ _ (by simp; omega)]
    by_cases h : j / 64 = f + k + 1
    ·rw [if_pos h, Nat.testBit_or, ← e1]
     have : ((List.set (putTo zs ys f s k) (f + k) ((putTo zs ys f s k).getD (f + k) 0 ||| ys.getD k 0 * 2 ^ s % 18446744073709551616)).getD (f + k + 1) 0).testBit (j % 64) = tb ((putTo zs ys f s k).set (f + k) ((putTo zs ys f s k).getD (f + k) 0 ||| ys.getD k 0 * 2 ^ s % 18446744073709551616)) j := by unfold tb; rw [h]
     rw [this]; simp [h]
    ·rw [if_neg h, e1]; simp [h]
   ·rw [h2, Nat.or_zero]
    have e2 : ∀ (l : List Nat) (i : Nat), l.set i (l.getD i 0) = l := by
     intro l i
     by_cases hi : i < l.length
     ·have : l.getD i 0 = l[i] := by simp [List.getD, hi]
      rw [this, List.set_getElem_self]
     ·exact List.set_eq_of_length_le (by omega)
    rw [e2, e1]; simp
  rw [key, ih']
  have hsp : (18446744073709551616 : Nat) = 2 ^ 64 := by decide
  rw [hsp, Nat.testBit_mod_two_pow, Nat.testBit_mul_two_pow, Nat.testBit_div_two_pow]
  have hlt : j % 64 < 64 := by omega
  by_cases ha : 64 * f + s ≤ j ∧ j < 64 * f + s + 64 * k
  ·-- an earlier word's place: this one's bits do not reach there
   have n1 : ¬ (j / 64 = f + k ∧ s ≤ j % 64) := by omega
   have n2 : ¬ (j / 64 = f + k + 1) := by omega
   have c1 : decide (j < 64 * f + s + 64 * (k + 1)) = true := by simp; omega
   have c2 : decide (64 * f + s ≤ j) = true := by simp; omega
   have c3 : decide (j < 64 * f + s + 64 * k) = true := by simp; omega
   rw [c1, c2, c3]
   by_cases h5 : j / 64 = f + k
   ·have : decide (s ≤ j % 64) = false := by simp; omega
    simp [h5, this]
   ·simp [h5, n2]
  ·by_cases hb : 64 * f + s + 64 * k ≤ j ∧ j < 64 * f + s + 64 * (k + 1)
   ·have c1 : decide (j < 64 * f + s + 64 * (k + 1)) = true := by simp; omega
    have c2 : decide (64 * f + s ≤ j) = true := by simp; omega
    have c3 : decide (j < 64 * f + s + 64 * k) = false := by simp; omega
    rw [c1, c2, c3]
    have e3 : (j - (64 * f + s)) / 64 = k := by omega
    by_cases h5 : j / 64 = f + k
    ·have e4 : (j - (64 * f + s)) % 64 = j % 64 - s := by omega
     unfold tb
     rw [e3, e4]
     simp [h5, hlt, show s ≤ j % 64 by omega]
    ·have h6 : j / 64 = f + k + 1 := by omega
     have e4 : (j - (64 * f + s)) % 64 = j % 64 + (64 - s) := by omega
     unfold tb
     rw [e3, e4]
     simp [h6]
   ·have c1 : (decide (64 * f + s ≤ j) && decide (j < 64 * f + s + 64 * (k + 1))) = false := by simp; omega
    have c2 : (decide (64 * f + s ≤ j) && decide (j < 64 * f + s + 64 * k)) = false := by simp; omega
    rw [c1, c2]
    simp only [Bool.false_and, Bool.or_false]
    by_cases h5 : j / 64 = f + k
    ·have : decide (s ≤ j % 64) = false := by simp; omega
     simp [h5, this]
    ·by_cases h6 : j / 64 = f + k + 1
     ·have : (ys.getD k 0).testBit (j % 64 + (64 - s)) = false := by
       refine Nat.testBit_lt_two_pow (Nat.lt_of_lt_of_le hyk ?_)
       exact (show 2 ^ 64 ≤ 2 ^ (j % 64 + (64 - s)) from Nat.pow_le_pow_right (by omega) (by omega))
      rw [this]
      simp [h5]
     ·simp [h5, h6]


theorem Blk.new1 (w : World) (o : Obj) (x y : Value) (t : TypeId) : Blk ((w.alloc o).alloc (.cells #[x, y] t)) (w.heap.size + 1) x y t := heap_alloc2_new _ _ _
theorem put_fit {V : Nat} {xs : List Nat} (hok : rightB V xs = true) (hx : ∀ x ∈ xs, x < 18446744073709551616) (P N : Nat) (h : P + V ≤ 64 * N) :
  ∀ i, i < xs.length → P / 64 + i < N ∧ (P / 64 + i + 1 < N ∨ xs.getD i 0 / 2 ^ (64 - P % 64) = 0) := by
 intro i hi
 obtain ⟨h1, h2, h3⟩ := right_W hok
 refine ⟨by omega, ?_⟩
 by_cases hN : P / 64 + i + 1 < N
 ·exact .inl hN
 ·right
  refine Nat.eq_of_testBit_eq fun j => ?_
  rw [Nat.testBit_div_two_pow, Nat.zero_testBit]
  by_cases hj : j + (64 - P % 64) < 64
  ·have := tb_out hok (64 * i + (j + (64 - P % 64))) (by omega)
   unfold tb at this
   rw [show (64 * i + (j + (64 - P % 64))) / 64 = i by omega, show (64 * i + (j + (64 - P % 64))) % 64 = j + (64 - P % 64) by omega] at this
   exact this
  ·exact Nat.testBit_lt_two_pow (Nat.lt_of_lt_of_le (getD_lt hx i) (show 2 ^ 64 ≤ 2 ^ (j + (64 - P % 64)) from Nat.pow_le_pow_right (by omega) (by omega)))
theorem tb_put_right {V : Nat} {xs : List Nat} (hok : rightB V xs = true) (hx : ∀ x ∈ xs, x < 18446744073709551616) (zs : List Nat) (P : Nat) (h : P + V ≤ 64 * zs.length) (j : Nat) :
  tb (putTo zs xs (P / 64) (P % 64) xs.length) j = (tb zs j || (decide (P ≤ j) && tb xs (j - P))) := by
 rw [tb_put zs xs _ _ _ (by omega) hx (put_fit hok hx P zs.length h), show 64 * (P / 64) + P % 64 = P by omega]
 by_cases h1 : P ≤ j
 ·by_cases h2 : j < P + 64 * xs.length
  ·simp [h1, h2]
  ·have := right_W hok
   rw [tb_out hok (j - P) (by omega)]; simp
 ·simp [h1]


theorem Dw.row {β : Nat} {w1 w2 : World} {o : Obj} (h : Dw β (w1.alloc o) w2) (hβ : β < w1.heap.size) : w2.heap[w1.heap.size]? = some o := by
 rw [World.grownBy.block h w1.heap.size (by simp) (by simp; omega), heap_alloc_new]
theorem wrap64_of {x : Int} (h1 : -9223372036854775808 ≤ x) (h2 : x ≤ 9223372036854775807) : wrap64 x = x := by
 unfold wrap64; omega
theorem near_any (l h : Nat) (hlh : l ≤ h) (hh : h ≤ 4194304) (β : Nat) (a : Option Addr) (c : Nat) (bs : List Nat) (w : World) (hr : Rr w β a c bs) :
  Calls Try.prog 32 #[.pointer (some ⟨β, 0, none⟩), .int .i64 l, .int .i64 h] w fun e w' => ∃ x : Nat, e = .returned (.int .i64 x) ∧ l ≤ x ∧ x ≤ h ∧ Rr w' β a c bs ∧ Dw β w w' := by
 go_enter Try.func32, Try.ntmps32
 go_wp2_with fail
 refine (below_any 8 (by omega) β a c bs _ hr).mono ?_
 rintro e w1 ⟨x, rfl, hx, hr1, hd1⟩
 rcases Nat.lt_or_ge 1 x with h1 | h1
 ·have n0 : ¬ x = 0 := by omega
  have n1 : ¬ x = 1 := by omega
  have n0i : ¬ (x : Int) = 0 := by omega
  have n1i : ¬ (x : Int) = 1 := by omega
  have n2i : ¬ (h : Int) < (l : Int) := by omega
  go_wp2_with fail
  refine (word_any β a c bs _ hr1).mono ?_
  rintro e w2 ⟨y, rfl, hy, hr2, hd2⟩
  have hm : y / 2 % (h - l + 1) < h - l + 1 := Nat.mod_lt _ (by omega)
  have e1 : ((y : Int) / 2 % ((h : Int) - (l : Int) + 1)) = ((y / 2 % (h - l + 1) : Nat) : Int) := by
   rw [Int.natCast_emod, Int.natCast_ediv]; congr 1; omega
  generalize hz : y / 2 % (h - l + 1) = z at *
  have E1 : Hid ((y : Int) / 2 % ((h : Int) - (l : Int) + 1) = (z : Int)) := e1
  clear e1 hz
  go_wp2
  go_ret
  refine ⟨l + z, ?_, by omega, by omega, hr2, hd1.trans hd2⟩
  rw [E1.out, wrap64_of (show -9223372036854775808 ≤ (z : Int) by omega) (by omega), wrap64_of (by omega) (by omega)]
  simp
 ·obtain rfl | rfl : x = 0 ∨ x = 1 := by omega
  ·go_wp2
   go_ret
   exact ⟨l, rfl, Nat.le_refl _, hlh, hr1, hd1⟩
  ·go_wp2
   go_ret
   exact ⟨h, rfl, hlh, Nat.le_refl _, hr1, hd1⟩
theorem off_any (l h : Nat) (hlh : l ≤ h) (hh : h ≤ 4194304) (β : Nat) (a : Option Addr) (c : Nat) (bs : List Nat) (w : World) (hr : Rr w β a c bs) :
  Calls Try.prog 13 #[.pointer (some ⟨β, 0, none⟩), .int .i64 l, .int .i64 h] w fun e w' => ∃ x : Int, e = .returned (.int .i64 x) ∧ -9223372036854775808 ≤ x ∧ x ≤ 9223372036854775807 ∧ Rr w' β a c bs ∧ Dw β w w' := by
 go_enter Try.func13, Try.ntmps13
 go_wp2_with fail
 refine (once_any 24 (by omega) (by omega) β a c bs _ hr).mono ?_
 rintro e w1 ⟨x, rfl, hr1, hd1⟩
 cases x with
 | true =>
  have hβ : β < w1.heap.size := by obtain ⟨p, _, hk, _⟩ := hr1; exact hk.lt
  go_wp2_with fail
  refine (below_any 4 (by omega) β a c bs _ (hr1.later ((Below.refl _ _).alloc (Nat.le_refl _) _))).mono ?_
  rintro e w2 ⟨y, rfl, hy, hr2, hd2⟩
  have hrow := hd2.row hβ
  have hy4 : y < 4 := by omega
  obtain ⟨z, hz1, hz2, hcell⟩ : ∃ z : Int, -9223372036854775808 ≤ z ∧ z ≤ 9223372036854775807 ∧ w2.cell? ⟨w1.heap.size, y, none⟩ = some (.int .i64 z) := by
   rw [cell_of_row w2 _ y _ _ _ hrow]
   match y, hy4 with
   | 0, _ => exact ⟨(l : Int) - 1, by omega, by omega, rfl⟩
   | 1, _ => exact ⟨(h : Int) + 1, by omega, by omega, rfl⟩
   | 2, _ => exact ⟨-9223372036854775808, by omega, by omega, rfl⟩
   | 3, _ => exact ⟨9223372036854775807, by omega, by omega, rfl⟩
  have hd := hd1.trans ((Dw.of ((Below.refl _ _).alloc (Nat.le_refl _) _)).trans hd2)
  clear hrow hd2
  go_wp2
  go_ret
  exact ⟨z, rfl, hz1, hz2, hr2, hd⟩
 | false =>
  go_wp2_with fail
  refine (near_any l h hlh hh β a c bs _ hr1).mono ?_
  rintro e w2 ⟨y, rfl, hy1, hy2, hr2, hd2⟩
  go_wp2
  go_ret
  exact ⟨y, rfl, by omega, by omega, hr2, hd1.trans hd2⟩
theorem wide_any (β : Nat) (a : Option Addr) (c : Nat) (bs : List Nat) (w : World) (hr : Rr w β a c bs) :
  Calls Try.prog 29 #[.pointer (some ⟨β, 0, none⟩)] w fun e w' => ∃ x : Nat, e = .returned (.int .i64 x) ∧ 1 ≤ x ∧ x ≤ 200 ∧ Rr w' β a c bs ∧ Dw β w w' := by
 go_enter Try.func29, Try.ntmps29
 go_wp2_with fail
 refine (below_any 10 (by omega) β a c bs _ hr).mono ?_
 rintro e w1 ⟨x, rfl, hx, hr1, hd1⟩
 rcases Nat.lt_or_ge 1 x with h1 | h1
 ·have n0 : ¬ x = 0 := by omega
  have n1 : ¬ x = 1 := by omega
  have n0i : ¬ (x : Int) = 0 := by omega
  have n1i : ¬ (x : Int) = 1 := by omega
  go_wp2_with fail
  refine (below_any 12 (by omega) β a c bs _ hr1).mono ?_
  rintro e w2 ⟨y, rfl, hy, hr2, hd2⟩
  go_wp2
  go_ret
  exact ⟨1 + y, by simp, by omega, by omega, hr2, hd1.trans hd2⟩
 ·obtain rfl | rfl : x = 0 ∨ x = 1 := by omega
  ·have hβ : β < w1.heap.size := by obtain ⟨p, _, hk, _⟩ := hr1; exact hk.lt
   go_wp2_with fail
   refine (below_any 7 (by omega) β a c bs _ (hr1.later ((Below.refl _ _).alloc (Nat.le_refl _) _))).mono ?_
   rintro e w2 ⟨y, rfl, hy, hr2, hd2⟩
   have hrow := hd2.row hβ
   have hy7 : y < 7 := by omega
   obtain ⟨z, hz1, hz2, hcell⟩ : ∃ z : Nat, 1 ≤ z ∧ z ≤ 200 ∧ w2.cell? ⟨w1.heap.size, y, none⟩ = some (.int .i64 z) := by
    rw [cell_of_row w2 _ y _ _ _ hrow]
    match y, hy7 with
    | 0, _ => exact ⟨63, by omega, by omega, rfl⟩
    | 1, _ => exact ⟨64, by omega, by omega, rfl⟩
    | 2, _ => exact ⟨65, by omega, by omega, rfl⟩
    | 3, _ => exact ⟨127, by omega, by omega, rfl⟩
    | 4, _ => exact ⟨128, by omega, by omega, rfl⟩
    | 5, _ => exact ⟨129, by omega, by omega, rfl⟩
    | 6, _ => exact ⟨200, by omega, by omega, rfl⟩
   have hd := hd1.trans ((Dw.of ((Below.refl _ _).alloc (Nat.le_refl _) _)).trans hd2)
   clear hrow hd2
   go_wp2
   go_ret
   exact ⟨z, rfl, hz1, hz2, hr2, hd⟩
  ·go_wp2_with fail
   refine (below_any 40 (by omega) β a c bs _ hr1).mono ?_
   rintro e w2 ⟨y, rfl, hy, hr2, hd2⟩
   go_wp2
   go_ret
   exact ⟨1 + y, by simp, by omega, by omega, hr2, hd1.trans hd2⟩

theorem Blk.put0 {w : World} {β : Nat} {x y : Value} {t : TypeId} (h : Blk w β x y t) (u : Value) : Blk (w.setCell ⟨β, 0, none⟩ u) β u y t := by
  unfold Blk
  rw [heap_setCell_same w β 0 _ _ _ h]; rfl
theorem Rr.lt {w : World} {β : Nat} {a : Option Addr} {c : Nat} {bs : List Nat} (h : Rr w β a c bs) : β < w.heap.size := by
  obtain ⟨p, _, hk, _⟩ := h; exact hk.lt
theorem Rr.far {w0 w w' : World} {β : Nat} {a : Option Addr} {c : Nat} {bs : List Nat} {row : Option Nat} (h0 : Rr w0 β a c bs) (h : Rr w β a c bs) (hg : w.grownBy w' row) (hrow : ∀ k, row = some k → w0.heap.size ≤ k) : Rr w' β a c bs := by
  have hβ := h0.lt
  obtain ⟨_, _, _, ⟨_, _, h3⟩, _⟩ := h0
  obtain ⟨p, hp, hk, hr, hn⟩ := h
  refine ⟨p, hp, ?_, ?_, hn⟩
  · unfold Blk
    rw [hg.block β hk.lt (fun e => by have := hrow β e.symm; omega)]; exact hk
  · rcases h3 with h3 | ⟨b, o, rfl, hc⟩
    · subst h3; exact ⟨by simp, by simp, .inl rfl⟩
    · by_cases he : bs = []
      · subst he; exact ⟨by simp, by simp, .inl rfl⟩
      · have hb : b < w0.heap.size := block_lt_of_cell (hc 0 (List.length_pos_iff.2 he))
        exact hr.kept hg (fun x e _ h => by cases e; have := hrow _ h; simp at this; omega)
theorem Dw.own {β : Nat} {w0 w w' : World} {row : Option Nat} (h : Dw β w0 w) (hg : w.grownBy w' row) (hrow : ∀ k, row = some k → w0.heap.size ≤ k) : Dw β w0 w' :=
  ⟨hg.os.trans h.os, hg.tape.trans h.tape, hg.output.trans h.output, Nat.le_trans h.size hg.size, fun k hk hne => by
    rw [hg.block k (Nat.lt_of_lt_of_le hk h.size) (fun e => by have := hrow k e.symm; omega)]; exact h.block k hk hne⟩
theorem OwB.far {w w' : World} {base : Nat} {v : Value} {bs : List Nat} {β : Nat} (h : OwB w base v bs) (hd : Dw β w w') (hβ : β < base) : OwB w' base v bs := by
  obtain ⟨h1, h2⟩ := h
  refine ⟨h1, ?_⟩
  rcases h2 with h2 | ⟨g, cap, cur, rfl, hg, hh, r⟩
  · exact .inl h2
  · exact .inr ⟨g, cap, cur, rfl, hg, by rw [World.grownBy.block hd g (lt_of_block hh) (by simp; omega)]; exact hh, r⟩
set_option maxHeartbeats 1000000 in
set_option maxRecDepth 100000 in
theorem bits_any (V : Nat) (h1 : 1 ≤ V) (h2 : V ≤ 4096) (β : Nat) (a : Option Addr) (c : Nat) (bs : List Nat) (w : World) (hr : Rr w β a c bs) :
    Calls Try.prog 50 #[.pointer (some ⟨β, 0, none⟩), .int .i64 V] w fun e w' => ∃ a' l, l.length = V ∧ (∀ x ∈ l, x ≤ 1) ∧
      e = .returned (.agg #[.int .i64 V, .slice a' (pack l).length (pack l).length]) ∧ Fresh w' w.heap.size a' (pack l) ∧ Rr w' β a c bs ∧ Dw β w w' := by
  go_enter Try.func50, Try.ntmps50
  go_wp2_with fail
  have hb2 : Below w.heap.size w ((w.alloc (Obj.cells #[.int IntKind.i64 0, .slice none 0 0] 32)).alloc (Obj.cells #[] 5)) := Ba (Ba (Below.refl _ _) _) _
  have hβ := hr.lt
  refine (word_any β a c bs _ (hr.later hb2)).mono ?_
  rintro e w1 ⟨y, rfl, hy, hr1, hd1⟩
  go_wp2_with fail
  refine (below_any 4 (by omega) β a c bs _ hr1).mono ?_
  rintro e w2 ⟨m, rfl, hm, hr2, hd2⟩
  have hd12 := hd1.trans hd2
  have ho2 : OwB w2 (w.heap.size + 1) (.slice (some ⟨w.heap.size + 1, 0, none⟩) 0 0) [] := OwB.far (OwB.nil _ _ _ (by simp) (Nat.le_refl _)) hd12 (by omega)
  have hk2 : Blk w2 w.heap.size (.int .i64 0) (.slice none 0 0) 32 := by
    unfold Blk
    rw [World.grownBy.block hd12 w.heap.size (by simp; omega) (by simp; omega), heap_alloc_old _ _ (by simp), heap_alloc_new]
  have hd : Dw β w w2 := (Dw.of hb2).trans hd12
  clear hb2 hd1 hd2 hd12 hr1
  go_wp2
  go_loopw [5, 8] (fun v i wr => ∃ (k : Nat) (l : List Nat), k ≤ V ∧ i = .int .i64 k ∧ l.length = k ∧ (∀ x ∈ l, x ≤ 1) ∧ OwB wr (w.heap.size + 1) v l ∧ Blk wr w.heap.size (.int .i64 0) (.slice none 0 0) 32 ∧ Rr wr β a c bs ∧ Dw β w wr) (fun _ i _ => V - (intOf i).toNat)
  case atStart => exact ⟨0, [], Nat.zero_le _, rfl, rfl, by simp, ho2, hk2, hr2, hd⟩
  case round =>
    clear ho2 hk2 hr2 hd
    obtain ⟨k, l, hk, rfl, hlk, hl1, hown, hbk, hrr, hdd⟩ := hrel
    by_cases hlt : k < V
    · have hsz : w.heap.size < wr.heap.size := hbk.lt
      have hbl : l.length ≤ 4194304 := by omega
      have HLK : Hid (l.length = k) := hlk
      have HL1 : Hid (∀ x ∈ l, x ≤ 1) := hl1
      clear hlk hl1
      obtain ⟨t, ht, HC⟩ : ∃ t : Nat, t ≤ 1 ∧ Hid (bits BinOp.and IntKind.u64 ((y : Int) / 2 ^ (k * 7 % 64)) 1 % 256 = (t : Int)) := ⟨_, by omega, andOne y _ hy⟩
      by_cases m0 : m = 0
      · have e0 : ((m : Int) == 0) = true := by simp [m0]
        have e1 : ((m : Int) == 1) = false := by simp [m0]
        clear m0
        go_wp2_with (at_builtin; refine wpList_appB _ rfl _ _ rfl (w.heap.size + 1) _ l 0 rfl (hown.alloc _) wr.heap.size rfl (by simp) hbl (by simp; omega) ?_)
        intro v' w3 hown3 hgr
        have hgo : ∀ q, (Value.ownBlock u5) = some q → w.heap.size ≤ q := fun q hq => by have := hown.own q hq; omega
        have hd3 := (hdd.alloc _).own hgr hgo
        have hr3 := hr.far (hrr.later ((Below.refl _ _).alloc (Nat.le_refl _) _)) hgr hgo
        have hk3 : Blk w3 w.heap.size (.int .i64 0) (.slice none 0 0) 32 := by
          unfold Blk
          rw [hgr.block w.heap.size (by simp; omega) (fun e => by have := hown.own _ e.symm; omega)]
          exact hbk.alloc _
        clear hgr hown hdd hrr hbk hgo
        go_wp2
        go_roundw
        case rel => exact ⟨k + 1, l ++ [0], by omega, by go_num, by simp [HLK.out], fun x hx => by
                      rcases List.mem_append.1 hx with h | h
                      · exact HL1.out x h
                      · simp at h; omega, hown3, hk3, hr3, hd3⟩
        case measure => simp [intOf]; omega
      · have m0i : ¬ (m : Int) = 0 := by omega
        by_cases m1 : m = 1
        · have e0 : ((m : Int) == 0) = false := by simp [m1]
          have e1 : ((m : Int) == 1) = true := by simp [m1]
          clear m1 m0 m0i
          go_wp2_with (at_builtin; refine wpList_appB _ rfl _ _ rfl (w.heap.size + 1) _ l 1 rfl (hown.alloc _) wr.heap.size rfl (by simp) hbl (by simp; omega) ?_)
          intro v' w3 hown3 hgr
          have hgo : ∀ q, (Value.ownBlock u5) = some q → w.heap.size ≤ q := fun q hq => by have := hown.own q hq; omega
          have hd3 := (hdd.alloc _).own hgr hgo
          have hr3 := hr.far (hrr.later ((Below.refl _ _).alloc (Nat.le_refl _) _)) hgr hgo
          have hk3 : Blk w3 w.heap.size (.int .i64 0) (.slice none 0 0) 32 := by
            unfold Blk
            rw [hgr.block w.heap.size (by simp; omega) (fun e => by have := hown.own _ e.symm; omega)]
            exact hbk.alloc _
          clear hgr hown hdd hrr hbk hgo
          go_wp2
          go_roundw
          case rel => exact ⟨k + 1, l ++ [1], by omega, by go_num, by simp [HLK.out], fun x hx => by
                        rcases List.mem_append.1 hx with h | h
                        · exact HL1.out x h
                        · simp at h; omega, hown3, hk3, hr3, hd3⟩
          case measure => simp [intOf]; omega
        · have e0 : ((m : Int) == 0) = false := by simp [m0]
          have e1 : ((m : Int) == 1) = false := by simp; omega
          clear m1 m0 m0i
          go_wp2_with (at_builtin; refine wpList_appB _ rfl _ _ rfl (w.heap.size + 1) _ l t rfl (hown.alloc _) wr.heap.size rfl (by simp [HC.out]) hbl (by simp; omega) ?_)
          intro v' w3 hown3 hgr
          have hgo : ∀ q, (Value.ownBlock u5) = some q → w.heap.size ≤ q := fun q hq => by have := hown.own q hq; omega
          have hd3 := (hdd.alloc _).own hgr hgo
          have hr3 := hr.far (hrr.later ((Below.refl _ _).alloc (Nat.le_refl _) _)) hgr hgo
          have hk3 : Blk w3 w.heap.size (.int .i64 0) (.slice none 0 0) 32 := by
            unfold Blk
            rw [hgr.block w.heap.size (by simp; omega) (fun e => by have := hown.own _ e.symm; omega)]
            exact hbk.alloc _
          clear hgr hown hdd hrr hbk hgo
          go_wp2
          go_roundw
          case rel => exact ⟨k + 1, l ++ [t], by omega, by go_num, by simp [HLK.out], fun x hx => by
                        rcases List.mem_append.1 hx with h | h
                        · exact HL1.out x h
                        · simp at h; omega, hown3, hk3, hr3, hd3⟩
          case measure => simp [intOf]; omega
    · have HLK : Hid (l.length = k) := hlk
      have HL1 : Hid (∀ x ∈ l, x ≤ 1) := hl1
      have ek : k = V := by omega
      subst ek
      have hbl : l.length ≤ 4194304 := by omega
      obtain ⟨a', c', rfl, hrd, -, -⟩ := hown.shape hbl (fun x hx => by have := hl1 x hx; omega)
      have g1 : 1 ≤ l.length := by omega
      have g2 : l.length ≤ 4096 := by omega
      clear hl1 hlk
      go_wp2_with fail
      refine (l1From_cap _ _ _ _ hrd g1 g2).mono ?_
      rintro e w4 ⟨a4, rfl, hf, hb4⟩
      have hk4 := hbk.next hb4
      have hr4 := hrr.later hb4
      have hd4 := hdd.trans (Dw.of hb4)
      obtain ⟨c0, c1⟩ := hk4.cells
      have f0 : w4.frozen? ⟨w.heap.size, 0, none⟩ = false := frozen_of_row w4 _ 0 _ _ hk4
      have f1 : w4.frozen? ⟨w.heap.size, 1, none⟩ = false := frozen_of_row w4 _ 1 _ _ hk4
      have HF : Hid _ := hf
      have HB4 : Hid _ := hb4
      have hltr : w.heap.size < wr.heap.size := hbk.lt
      have hlt4 : w.heap.size < w4.heap.size := hk4.lt
      clear hown hbk hrr hdd hrd hb4 hf
      go_wp2
      obtain ⟨d0, d1⟩ := (((hk4.put0 (Value.int IntKind.i64 l.length)).put1 (Value.slice a4 (pack l).length (pack l).length)).alloc (Obj.cells #[.int IntKind.i64 l.length, .slice a4 (pack l).length (pack l).length] 32)).cells
      refine bodyPost_ret (v := .agg #[.int .i64 l.length, .slice a4 (pack l).length (pack l).length]) (by simp [results, Try.results50, go_sem, d0, d1]) rfl ?_
      have gw := (gsc w4 ⟨w.heap.size, 0, none⟩ (Value.int IntKind.i64 l.length)).trans (gsc _ ⟨w.heap.size, 1, none⟩ (Value.slice a4 (pack l).length (pack l).length))
      have gh : ∀ q, some w.heap.size = some q → w.heap.size ≤ q := fun q e => by cases e; exact Nat.le_refl _
      refine ⟨a4, l, HLK.out, HL1.out, by rw [HLK.out], ?_, (hr.far hr4 gw gh).later ((Below.refl _ _).alloc (Nat.le_refl _) _), (hd4.own gw gh).alloc _⟩
      rcases HF.out with h | ⟨g, rfl, hg, ho⟩
      · exact .inl h
      · refine .inr ⟨g, rfl, by omega, ?_⟩
        have ho2 := (ho.other (a := ⟨w.heap.size, 0, none⟩) (show g ≠ w.heap.size by omega) (Value.int IntKind.i64 l.length)).other (a := ⟨w.heap.size, 1, none⟩) (show g ≠ w.heap.size by omega) (Value.slice (some ⟨g, 0, none⟩) (pack l).length (pack l).length)
        exact ho2.later ((Below.refl _ _).alloc (Nat.le_refl _) _) ho2.lt

theorem kide {p : Prop} (h : p) : Hid p := h
theorem kcell {W w1 : World} (hb : Below W.heap.size W w1) (b o : Nat) (h : b < W.heap.size) : w1.cell? ⟨b, o, none⟩ = W.cell? ⟨b, o, none⟩ := hb.cell (p := ⟨b, o, none⟩) h
theorem kundrew {B : Nat} {w w' : World} (h : Below B w.drew w') : Below B w w' := ⟨h.os, h.tape, h.output, h.size, h.block⟩
theorem kstr_ne {s t : ByteArray} (h : s ≠ t) : (s.toList == t.toList) = false := by
 rw [ByteArray.toList_eq, ByteArray.toList_eq, beq_eq_false_iff_ne]
 intro e
 exact h (ByteArray.ext (Array.toList_inj.1 e))
theorem krow {w : World} {g : Nat} {c : Array Value} {t : TypeId} (h : w.heap[g]? = some (.cells c t (0, 0))) : w.rowIs g t c.size (fun i => (c[i]?).getD undef) :=
 ⟨c, h, rfl, fun i hi => by simp [hi]⟩

theorem wrap64_in (x : Int) : -9223372036854775808 ≤ wrap64 x ∧ wrap64 x ≤ 9223372036854775807 := by unfold wrap64; omega
set_option maxHeartbeats 1000000 in
theorem near0_any (h : Int) (hi : in64 h) (β : Nat) (a : Option Addr) (c : Nat) (bs : List Nat) (w : World) (hr : Rr w β a c bs) :
  Calls Try.prog 32 #[.pointer (some ⟨β, 0, none⟩), .int .i64 0, .int .i64 h] w fun e w' => ∃ x : Int, e = .returned (.int .i64 x) ∧ in64 x ∧ Rr w' β a c bs ∧ Dw β w w' := by
 obtain ⟨hi1, hi2⟩ := hi
 go_enter Try.func32, Try.ntmps32
 go_wp2_with fail
 refine (below_any 8 (by omega) β a c bs _ hr).mono ?_
 rintro e w1 ⟨x, rfl, hx, hr1, hd1⟩
 rcases Nat.lt_or_ge 1 x with h1 | h1
 ·have n0 : ¬ x = 0 := by omega
  have n1 : ¬ x = 1 := by omega
  have n0i : ¬ (x : Int) = 0 := by omega
  have n1i : ¬ (x : Int) = 1 := by omega
  by_cases hneg : h < 0
  ·go_wp2
   go_ret
   exact ⟨0, rfl, ⟨by omega, by omega⟩, hr1, hd1⟩
  ·by_cases htop : h = 9223372036854775807
   ·subst htop
    have hu : ¬ IntKind.u64.wrap (wrap64 9223372036854775808) = 0 := by rw [IntKind.wrap_u64]; unfold wrap64; decide
    go_wp2_with fail
    refine (word_any β a c bs _ hr1).mono ?_
    rintro e w2 ⟨y, rfl, hy, hr2, hd2⟩
    go_wp2
    go_ret
    exact ⟨_, rfl, wrap64_in _, hr2, hd1.trans hd2⟩
   ·have hle : h ≤ 9223372036854775806 := by omega
    have h0 : 0 ≤ h := by omega
    have hz : h + 1 ≠ 0 := by omega
    clear htop hneg
    go_wp2_with fail
    refine (word_any β a c bs _ hr1).mono ?_
    rintro e w2 ⟨y, rfl, hy, hr2, hd2⟩
    go_wp2
    go_ret
    exact ⟨_, rfl, wrap64_in _, hr2, hd1.trans hd2⟩
 ·obtain rfl | rfl : x = 0 ∨ x = 1 := by omega
  ·go_wp2
   go_ret
   exact ⟨0, rfl, ⟨by omega, by omega⟩, hr1, hd1⟩
  ·go_wp2
   go_ret
   exact ⟨h, rfl, ⟨by omega, by omega⟩, hr1, hd1⟩
theorem off0_any (h : Int) (hi : in64 h) (β : Nat) (a : Option Addr) (c : Nat) (bs : List Nat) (w : World) (hr : Rr w β a c bs) :
  Calls Try.prog 13 #[.pointer (some ⟨β, 0, none⟩), .int .i64 0, .int .i64 h] w fun e w' => ∃ x : Int, e = .returned (.int .i64 x) ∧ in64 x ∧ Rr w' β a c bs ∧ Dw β w w' := by
 have HI := kide hi
 clear hi
 go_enter Try.func13, Try.ntmps13
 go_wp2_with fail
 refine (once_any 24 (by omega) (by omega) β a c bs _ hr).mono ?_
 rintro e w1 ⟨x, rfl, hr1, hd1⟩
 cases x with
 | true =>
  have hβ : β < w1.heap.size := by obtain ⟨p, _, hk, _⟩ := hr1; exact hk.lt
  go_wp2_with fail
  refine (below_any 4 (by omega) β a c bs _ (hr1.later ((Below.refl _ _).alloc (Nat.le_refl _) _))).mono ?_
  rintro e w2 ⟨y, rfl, hy, hr2, hd2⟩
  have hrow := hd2.row hβ
  have hy4 : y < 4 := by omega
  obtain ⟨z, hz, hcell⟩ : ∃ z : Int, in64 z ∧ w2.cell? ⟨w1.heap.size, y, none⟩ = some (.int .i64 z) := by
   rw [cell_of_row w2 _ y _ _ _ hrow]
   match y, hy4 with
   | 0, _ => exact ⟨_, ⟨by omega, by omega⟩, rfl⟩
   | 1, _ => exact ⟨_, wrap64_in _, rfl⟩
   | 2, _ => exact ⟨-9223372036854775808, ⟨by omega, by omega⟩, rfl⟩
   | 3, _ => exact ⟨9223372036854775807, ⟨by omega, by omega⟩, rfl⟩
  have HZ := kide hz
  have hd := hd1.trans ((Dw.of ((Below.refl _ _).alloc (Nat.le_refl _) _)).trans hd2)
  clear hrow hd2 hz
  go_wp2
  go_ret
  exact ⟨z, rfl, HZ.out, hr2, hd⟩
 | false =>
  go_wp2_with fail
  refine (near0_any h HI.out β a c bs _ hr1).mono ?_
  rintro e w2 ⟨y, rfl, hy, hr2, hd2⟩
  have HY := kide hy
  clear hy
  go_wp2
  go_ret
  exact ⟨y, rfl, HY.out, hr2, hd1.trans hd2⟩
set_option maxHeartbeats 1000000 in
theorem nearm_any (h : Nat) (hi : h ≤ 1000) (β : Nat) (a : Option Addr) (c : Nat) (bs : List Nat) (w : World) (hr : Rr w β a c bs) :
  Calls Try.prog 32 #[.pointer (some ⟨β, 0, none⟩), .int .i64 (-1), .int .i64 (h : Int)] w fun e w' => ∃ x : Int, e = .returned (.int .i64 x) ∧ in64 x ∧ Rr w' β a c bs ∧ Dw β w w' := by
 go_enter Try.func32, Try.ntmps32
 go_wp2_with fail
 refine (below_any 8 (by omega) β a c bs _ hr).mono ?_
 rintro e w1 ⟨x, rfl, hx, hr1, hd1⟩
 rcases Nat.lt_or_ge 1 x with h1 | h1
 ·have n0 : ¬ x = 0 := by omega
  have n1 : ¬ x = 1 := by omega
  have n0i : ¬ (x : Int) = 0 := by omega
  have n1i : ¬ (x : Int) = 1 := by omega
  have n2i : ¬ (h : Int) < -1 := by omega
  have hz : (h : Int) + 1 + 1 ≠ 0 := by omega
  go_wp2_with fail
  refine (word_any β a c bs _ hr1).mono ?_
  rintro e w2 ⟨y, rfl, hy, hr2, hd2⟩
  go_wp2
  go_ret
  exact ⟨_, rfl, wrap64_in _, hr2, hd1.trans hd2⟩
 ·obtain rfl | rfl : x = 0 ∨ x = 1 := by omega
  ·go_wp2
   go_ret
   exact ⟨-1, rfl, ⟨by omega, by omega⟩, hr1, hd1⟩
  ·go_wp2
   go_ret
   exact ⟨h, rfl, ⟨by omega, by omega⟩, hr1, hd1⟩
theorem offm_any (h : Nat) (hi : h ≤ 1000) (β : Nat) (a : Option Addr) (c : Nat) (bs : List Nat) (w : World) (hr : Rr w β a c bs) :
  Calls Try.prog 13 #[.pointer (some ⟨β, 0, none⟩), .int .i64 (-1), .int .i64 (h : Int)] w fun e w' => ∃ x : Int, e = .returned (.int .i64 x) ∧ in64 x ∧ Rr w' β a c bs ∧ Dw β w w' := by
 have HI := kide hi
 clear hi
 go_enter Try.func13, Try.ntmps13
 go_wp2_with fail
 refine (once_any 24 (by omega) (by omega) β a c bs _ hr).mono ?_
 rintro e w1 ⟨x, rfl, hr1, hd1⟩
 cases x with
 | true =>
  have hβ : β < w1.heap.size := by obtain ⟨p, _, hk, _⟩ := hr1; exact hk.lt
  go_wp2_with fail
  refine (below_any 4 (by omega) β a c bs _ (hr1.later ((Below.refl _ _).alloc (Nat.le_refl _) _))).mono ?_
  rintro e w2 ⟨y, rfl, hy, hr2, hd2⟩
  have hrow := hd2.row hβ
  have hy4 : y < 4 := by omega
  obtain ⟨z, hz, hcell⟩ : ∃ z : Int, in64 z ∧ w2.cell? ⟨w1.heap.size, y, none⟩ = some (.int .i64 z) := by
   rw [cell_of_row w2 _ y _ _ _ hrow]
   match y, hy4 with
   | 0, _ => exact ⟨_, ⟨by omega, by omega⟩, rfl⟩
   | 1, _ => exact ⟨_, wrap64_in _, rfl⟩
   | 2, _ => exact ⟨-9223372036854775808, ⟨by omega, by omega⟩, rfl⟩
   | 3, _ => exact ⟨9223372036854775807, ⟨by omega, by omega⟩, rfl⟩
  have HZ := kide hz
  have hd := hd1.trans ((Dw.of ((Below.refl _ _).alloc (Nat.le_refl _) _)).trans hd2)
  clear hrow hd2 hz
  go_wp2
  go_ret
  exact ⟨z, rfl, HZ.out, hr2, hd⟩
 | false =>
  go_wp2_with fail
  refine (nearm_any h HI.out β a c bs _ hr1).mono ?_
  rintro e w2 ⟨y, rfl, hy, hr2, hd2⟩
  have HY := kide hy
  clear hy
  go_wp2
  go_ret
  exact ⟨y, rfl, HY.out, hr2, hd1.trans hd2⟩

def DcAt (w : World) (b o : Nat) (d : Dc) : Prop := w.cell? ⟨b, o, none⟩ = some (.string d.1) ∧ w.cell? ⟨b, o + 1, none⟩ = some (.int .i64 d.2)
theorem DcAt.later {w w' : World} {b o : Nat} {d : Dc} (h : DcAt w b o d) (hb : Below w.heap.size w w') : DcAt w' b o d :=
 ⟨by rw [kcell hb _ _ (block_lt_of_cell h.1)]; exact h.1, by rw [kcell hb _ _ (block_lt_of_cell h.2)]; exact h.2⟩
def RdD (w : World) (a : Option Addr) (ds : List Dc) : Prop :=
 ds.length ≤ 1048576 ∧ (∀ d ∈ ds, in64 d.2 ∧ d.1.size ≤ 9223372036854775807) ∧ (ds = [] ∨ ∃ b o, a = some ⟨b, o, none⟩ ∧ ∀ i d, ds[i]? = some d → DcAt w b (o + i * 2) d)
theorem RdD.later {w w' : World} {a : Option Addr} {ds : List Dc} (h : RdD w a ds) (hb : Below w.heap.size w w') : RdD w' a ds := by
 refine ⟨h.1, h.2.1, ?_⟩
 rcases h.2.2 with h | ⟨b, o, rfl, hc⟩
 ·exact .inl h
 ·exact .inr ⟨b, o, rfl, fun i n hi => (hc i n hi).later hb⟩
theorem Try.infoDecl : (Try.prog.info? 62).map (fun i => (i.zero, i.size, i.bytes)) = some (some (.agg #[.string .empty, .int .i64 0]), 2, 24) := by kernel_rfl


structure Sh where
 v : Int
 lo : Int
 wd : Int
 bw : Int
 a : Option Addr
 n : Nat
 c : Nat
def ShAt (w : World) (b o : Nat) (h : Sh) : Prop :=
 w.cell? ⟨b, o, none⟩ = some (.int .i64 h.v) ∧ w.cell? ⟨b, o + 1, none⟩ = some (.int .i64 h.lo) ∧ w.cell? ⟨b, o + 2, none⟩ = some (.int .i64 h.wd) ∧ w.cell? ⟨b, o + 3, none⟩ = some (.int .i64 h.bw) ∧ w.cell? ⟨b, o + 4, none⟩ = some (.slice h.a h.n h.c)
theorem ShAt.later {w w' : World} {b o : Nat} {h : Sh} (k : ShAt w b o h) (hb : Below w.heap.size w w') : ShAt w' b o h := by
 obtain ⟨f0, f1, f2, f3, f4⟩ := k
 have l := block_lt_of_cell f0
 exact ⟨by rw [kcell hb _ _ l]; exact f0, by rw [kcell hb _ _ l]; exact f1, by rw [kcell hb _ _ l]; exact f2, by rw [kcell hb _ _ l]; exact f3, by rw [kcell hb _ _ l]; exact f4⟩


structure Sc where
 v : Int
 lo : Int
 wd : Int
 bw : Int
 ws : List Nat

structure Sg where
 ct : Sc
 a : Option Addr
 c : Nat
def Sg.hd (x : Sg) : Sh := ⟨x.ct.v, x.ct.lo, x.ct.wd, x.ct.bw, x.a, x.ct.ws.length, x.c⟩
def SgAt (w : World) (b o : Nat) (x : Sg) : Prop := ShAt w b o x.hd ∧ Rd w x.a x.ct.ws ∧ in64 x.ct.v ∧ in64 x.ct.lo ∧ in64 x.ct.wd ∧ in64 x.ct.bw
theorem SgAt.later {w w' : World} {b o : Nat} {x : Sg} (h : SgAt w b o x) (hb : Below w.heap.size w w') : SgAt w' b o x := ⟨h.1.later hb, h.2.1.later hb, h.2.2⟩
def RdS (w : World) (a : Option Addr) (xs : List Sg) : Prop :=
 xs.length ≤ 1048576 ∧ (xs = [] ∨ ∃ b o, a = some ⟨b, o, none⟩ ∧ ∀ i n, xs[i]? = some n → SgAt w b (o + i * 5) n)
theorem RdS.later {w w' : World} {a : Option Addr} {xs : List Sg} (h : RdS w a xs) (hb : Below w.heap.size w w') : RdS w' a xs := by
 refine ⟨h.1, ?_⟩
 rcases h.2 with h | ⟨b, o, rfl, hc⟩
 ·exact .inl h
 ·exact .inr ⟨b, o, rfl, fun i n hi => (hc i n hi).later hb⟩


theorem letB_cases (c : Nat) : (c < 97 ∧ letB c = false) ∨ (97 ≤ c ∧ 122 < c ∧ letB c = false) ∨ (97 ≤ c ∧ c ≤ 122 ∧ letB c = true) := by
 unfold letB
 by_cases h1 : 97 ≤ c
 ·by_cases h2 : c ≤ 122
  ·exact .inr (.inr ⟨h1, h2, by simp [h1, h2]⟩)
  ·exact .inr (.inl ⟨h1, by omega, by simp [h2]⟩)
 ·exact .inl ⟨by omega, by simp [h1]⟩
theorem digB_cases (c : Nat) : (c < 48 ∧ digB c = false) ∨ (48 ≤ c ∧ 57 < c ∧ digB c = false) ∨ (48 ≤ c ∧ c ≤ 57 ∧ digB c = true) := by
 unfold digB
 by_cases h1 : 48 ≤ c
 ·by_cases h2 : c ≤ 57
  ·exact .inr (.inr ⟨h1, h2, by simp [h1, h2]⟩)
  ·exact .inr (.inl ⟨h1, by omega, by simp [h2]⟩)
 ·exact .inl ⟨by omega, by simp [h1]⟩
theorem letterByte_any (c : Nat) (hc : c < 256) (w : World) :
  Calls Try.prog 69 #[.int .u8 (c : Int)] w fun e w' => e = .returned (.bool (letB c)) ∧ w' = w := by
 rcases letB_cases c with ⟨h1, h⟩ | ⟨h0, h1, h⟩ | ⟨h0, h1, h⟩
 all_goals
  rw [h]
  clear h
  go_enter Try.func69, Try.ntmps69
  go_wp2
  go_ret
  first | exact ⟨rfl, rfl⟩ | exact ⟨ret_bool (by simp; omega), rfl⟩
theorem digitByte_any (c : Nat) (hc : c < 256) (w : World) :
  Calls Try.prog 70 #[.int .u8 (c : Int)] w fun e w' => e = .returned (.bool (digB c)) ∧ w' = w := by
 rcases digB_cases c with ⟨h1, h⟩ | ⟨h0, h1, h⟩ | ⟨h0, h1, h⟩
 all_goals
  rw [h]
  clear h
  go_enter Try.func70, Try.ntmps70
  go_wp2
  go_ret
  first | exact ⟨rfl, rfl⟩ | exact ⟨ret_bool (by simp; omega), rfl⟩
theorem l1Digit_any (c : Nat) (hc : c < 256) (w : World) :
  Calls Try.prog 68 #[.int .u8 (c : Int)] w fun e w' => e = .returned (.bool (digB c)) ∧ w' = w := by
 rcases digB_cases c with ⟨h1, h⟩ | ⟨h0, h1, h⟩ | ⟨h0, h1, h⟩
 all_goals
  rw [h]
  clear h
  go_enter Try.func68, Try.ntmps68
  go_wp2
  go_ret
  first | exact ⟨rfl, rfl⟩ | exact ⟨ret_bool (by simp; omega), rfl⟩
theorem nmOk_size {s : ByteArray} (h : s.size < 1 ∨ 12 < s.size) : nmOk s = false := by
 unfold nmOk
 rcases h with h | h
 ·rw [show decide (1 ≤ s.size) = false from decide_eq_false (by omega)]; rfl
 ·rw [show decide (s.size ≤ 12) = false from decide_eq_false (by omega)]; simp
theorem nmOk_first {s : ByteArray} (h : letB (bn s 0) = false) : nmOk s = false := by simp [nmOk, h]
theorem nmOk_bad {s : ByteArray} {i : Nat} (hi : i < s.size) (h : nmB (bn s i) = false) : nmOk s = false := by
 have : allNm s = false := by
  rw [Bool.eq_false_iff]; intro h'
  have := (allNm_iff s).1 h' i hi
  rw [h] at this; cases this
 simp [nmOk, this]
theorem nmOk_all {s : ByteArray} (h1 : 1 ≤ s.size) (h2 : s.size ≤ 12) (h3 : letB (bn s 0) = true) (h : ∀ i, i < s.size → nmB (bn s i) = true) : nmOk s = true := by
 have := (allNm_iff s).2 h
 simp [nmOk, this, h1, h2, h3]
theorem nameOk_any (s : ByteArray) (hs : s.size ≤ 9223372036854775807) (w : World) :
  Calls Try.prog 57 #[.string s] w fun e w' => e = .returned (.bool (nmOk s)) ∧ w' = w := by
 have HB : Hid _ := get_bn s
 by_cases h1 : s.size < 1
 ·rw [nmOk_size (.inl h1)]
  go_enter Try.func57, Try.ntmps57
  go_wp2_with fail
  go_ret
  exact ⟨rfl, rfl⟩
 by_cases h2 : 12 < s.size
 ·rw [nmOk_size (.inr h2)]
  go_enter Try.func57, Try.ntmps57
  go_wp2_with fail
  go_ret
  exact ⟨rfl, rfl⟩
 have h0 : 0 < s.size := by omega
 have e1 := HB.out 0 h0
 have hL : ∀ u, Calls Try.prog 69 #[.int .u8 ((s[0]'h0).toNat : Int)] u fun e w' => e = .returned (.bool (letB (bn s 0))) ∧ w' = u := fun u => by
  have := letterByte_any (bn s 0) (bn_lt s 0) u
  rwa [← e1] at this ⊢
 have HL := kide hL
 clear hL e1
 by_cases h3 : letB (bn s 0) = true
 ·rw [h3] at HL
  have HO := kide (fun h => nmOk_all (s := s) (by omega) (by omega) h3 h)
  have HN := kide (fun i hi h => nmOk_bad (s := s) (i := i) hi h)
  generalize nmOk s = R at *
  clear h3
  go_enter Try.func57, Try.ntmps57
  go_wp2_with (go_at_call 69; refine Calls.mono (HL.out _) ?_; rintro e w ⟨rfl, rfl⟩)
  clear HL
  go_loop [20] (fun q => ∃ k : Nat, k ≤ s.size ∧ q = .int .i64 (k : Int) ∧ ∀ i, i < k → nmB (bn s i) = true) (fun q => s.size - (intOf q).toNat)
  case atStart => exact ⟨0, Nat.zero_le _, rfl, fun i h => by omega⟩
  case round =>
   obtain ⟨k, hk2, rfl, hr⟩ := hrel
   have HK : Hid _ := hr
   clear hr
   by_cases hlt : k < s.size
   ·have e1 := HB.out k hlt
    have hA : ∀ u, Calls Try.prog 69 #[.int .u8 ((s[k]'hlt).toNat : Int)] u fun e w' => e = .returned (.bool (letB (bn s k))) ∧ w' = u := fun u => by
     have := letterByte_any (bn s k) (bn_lt s k) u
     rwa [← e1] at this ⊢
    have hD : ∀ u, Calls Try.prog 70 #[.int .u8 ((s[k]'hlt).toNat : Int)] u fun e w' => e = .returned (.bool (digB (bn s k))) ∧ w' = u := fun u => by
     have := digitByte_any (bn s k) (bn_lt s k) u
     rwa [← e1] at this ⊢
    have HA := kide hA
    have HD := kide hD
    have H1 : Hid (letB (bn s k) = true → nmB (bn s k) = true) := fun h => by simp [nmB, h]
    have H2 : Hid (digB (bn s k) = true → nmB (bn s k) = true) := fun h => by simp [nmB, h]
    have H3 : Hid (letB (bn s k) = false → digB (bn s k) = false → R = false) := fun h h' => HN.out k hlt (by simp [nmB, h, h'])
    clear hA hD e1
    generalize letB (bn s k) = r at *
    generalize digB (bn s k) = r2 at *
    have hki : (k : Int) < (s.size : Int) := by omega
    cases r with
    | true =>
     go_wp2_with (go_at_call 69; refine Calls.mono (HA.out _) ?_; rintro e w ⟨rfl, rfl⟩)
     go_round
     case rel =>
      refine ⟨k + 1, by omega, by go_num, fun i hi => ?_⟩
      by_cases hik : i = k
      ·rw [hik]; exact H1.out (by simp)
      ·exact HK.out i (by omega)
     case measure => simp [intOf]; omega
    | false =>
     cases r2 with
     | true =>
      go_wp2_with (first | (go_at_call 69; refine Calls.mono (HA.out _) ?_; rintro e w ⟨rfl, rfl⟩) | (go_at_call 70; refine Calls.mono (HD.out _) ?_; rintro e w ⟨rfl, rfl⟩))
      go_round
      case rel =>
       refine ⟨k + 1, by omega, by go_num, fun i hi => ?_⟩
       by_cases hik : i = k
       ·rw [hik]; exact H2.out (by simp)
       ·exact HK.out i (by omega)
      case measure => simp [intOf]; omega
     | false =>
      go_wp2_with (first | (go_at_call 69; refine Calls.mono (HA.out _) ?_; rintro e w ⟨rfl, rfl⟩) | (go_at_call 70; refine Calls.mono (HD.out _) ?_; rintro e w ⟨rfl, rfl⟩))
      go_ret
      exact ⟨ret_bool (H3.out (by simp) (by simp)).symm, rfl⟩
   ·go_wp2_with fail
    go_ret
    exact ⟨ret_bool (HO.out fun i hi => HK.out i (by omega)).symm, rfl⟩
 ·rw [Bool.not_eq_true] at h3
  rw [h3] at HL
  rw [nmOk_first h3]
  clear h3
  go_enter Try.func57, Try.ntmps57
  go_wp2_with (go_at_call 69; refine Calls.mono (HL.out _) ?_; rintro e w1 ⟨rfl, rfl⟩)
  go_ret
  exact ⟨rfl, rfl⟩
theorem l1Name_any (s : ByteArray) (hs : s.size ≤ 9223372036854775807) (w : World) :
  Calls Try.prog 54 #[.string s] w fun e w' => e = .returned (.bool (nmOk s)) ∧ w' = w := by
 have HB : Hid _ := get_bn s
 by_cases h1 : s.size < 1
 ·rw [nmOk_size (.inl h1)]
  go_enter Try.func54, Try.ntmps54
  go_wp2_with fail
  go_ret
  exact ⟨rfl, rfl⟩
 by_cases h2 : 12 < s.size
 ·rw [nmOk_size (.inr h2)]
  go_enter Try.func54, Try.ntmps54
  go_wp2_with fail
  go_ret
  exact ⟨rfl, rfl⟩
 have h0 : 0 < s.size := by omega
 have e1 := HB.out 0 h0
 have hL : ∀ u, Calls Try.prog 68 #[.int .u8 ((s[0]'h0).toNat : Int)] u fun e w' => e = .returned (.bool (digB (bn s 0))) ∧ w' = u := fun u => by
  have := l1Digit_any (bn s 0) (bn_lt s 0) u
  rwa [← e1] at this ⊢
 have HL := kide hL
 clear hL e1
 by_cases h3 : digB (bn s 0) = true
 ·rw [h3] at HL
  have h4 : letB (bn s 0) = false := by
   simp [digB] at h3
   simp [letB]; omega
  rw [nmOk_first h4]
  clear h3 h4
  go_enter Try.func54, Try.ntmps54
  go_wp2_with (go_at_call 68; refine Calls.mono (HL.out _) ?_; rintro e w1 ⟨rfl, rfl⟩)
  go_ret
  exact ⟨rfl, rfl⟩
 ·rw [Bool.not_eq_true] at h3
  rw [h3] at HL
  have HO : Hid ((∀ i, i < s.size → nmB (bn s i) = true) → nmOk s = true) := fun h => nmOk_all (s := s) (by omega) (by omega) (by have := h 0 h0; simpa [nmB, h3] using this) h
  have HN := kide (fun i hi h => nmOk_bad (s := s) (i := i) hi h)
  generalize nmOk s = R at *
  clear h3
  go_enter Try.func54, Try.ntmps54
  go_wp2_with (go_at_call 68; refine Calls.mono (HL.out _) ?_; rintro e w ⟨rfl, rfl⟩)
  clear HL
  go_loop [3] (fun q => ∃ k : Nat, k ≤ s.size ∧ q = .int .i64 (k : Int) ∧ ∀ i, i < k → nmB (bn s i) = true) (fun q => s.size - (intOf q).toNat)
  case atStart => exact ⟨0, Nat.zero_le _, rfl, fun i h => by omega⟩
  case round =>
   obtain ⟨k, hk2, rfl, hr⟩ := hrel
   have HK : Hid _ := hr
   clear hr
   by_cases hlt : k < s.size
   ·have e1 := HB.out k hlt
    have hD : ∀ u, Calls Try.prog 68 #[.int .u8 ((s[k]'hlt).toNat : Int)] u fun e w' => e = .returned (.bool (digB (bn s k))) ∧ w' = u := fun u => by
     have := l1Digit_any (bn s k) (bn_lt s k) u
     rwa [← e1] at this ⊢
    have HD := kide hD
    have hci := letB_cases (bn s k)
    rw [← e1] at hci
    have H1 : Hid (letB (bn s k) = true → nmB (bn s k) = true) := fun h => by simp [nmB, h]
    have H2 : Hid (digB (bn s k) = true → nmB (bn s k) = true) := fun h => by simp [nmB, h]
    have H3 : Hid (letB (bn s k) = false → digB (bn s k) = false → R = false) := fun h h' => HN.out k hlt (by simp [nmB, h, h'])
    have E1 := kide e1
    clear hD e1
    generalize digB (bn s k) = r2 at *
    have hki : (k : Int) < (s.size : Int) := by omega
    cases r2 with
    | true =>
     go_wp2_with (go_at_call 68; refine Calls.mono (HD.out _) ?_; rintro e w ⟨rfl, rfl⟩)
     go_round
     case rel =>
      refine ⟨k + 1, by omega, by go_num, fun i hi => ?_⟩
      by_cases hik : i = k
      ·rw [hik]; exact H2.out (by simp)
      ·exact HK.out i (by omega)
     case measure => simp [intOf]; omega
    | false =>
     rcases hci with ⟨h1, h⟩ | ⟨h0, h1, h⟩ | ⟨h0, h1, h⟩
     ·have H := kide (H3.out (by rw [← E1.out]; exact h) (by simp))
      clear h H1 H3
      go_wp2_with (go_at_call 68; refine Calls.mono (HD.out _) ?_; rintro e w ⟨rfl, rfl⟩)
      go_ret
      exact ⟨ret_bool H.out.symm, rfl⟩
     ·have H := kide (H3.out (by rw [← E1.out]; exact h) (by simp))
      clear h H1 H3
      go_wp2_with (go_at_call 68; refine Calls.mono (HD.out _) ?_; rintro e w ⟨rfl, rfl⟩)
      go_ret
      exact ⟨ret_bool H.out.symm, rfl⟩
     ·have H := kide (H1.out (by rw [← E1.out]; exact h))
      clear h H1 H3
      go_wp2_with (go_at_call 68; refine Calls.mono (HD.out _) ?_; rintro e w ⟨rfl, rfl⟩)
      go_round
      case rel =>
       refine ⟨k + 1, by omega, by go_num, fun i hi => ?_⟩
       by_cases hik : i = k
       ·rw [hik]; exact H.out
       ·exact HK.out i (by omega)
      case measure => simp [intOf]; omega
   ·go_wp2_with fail
    go_ret
    exact ⟨ret_bool (HO.out fun i hi => HK.out i (by omega)).symm, rfl⟩

def Bb (w : World) (o1 o2 : Obj) (wk : World) : Prop := Below (w.heap.size + 2) ((w.alloc o1).alloc o2) wk

end Go.Proofs.Ytffcklobignlfaa
