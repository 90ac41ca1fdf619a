/- Several texts in one. -/
import Derived.Test.YtmfamdonbgmjbaaDoorZGAC
import Derived.OwnWalk
import Derived.Maps.AppendAt
import Derived.BigRegion
import Derived.Lib.BitFns

/- The reader of the draws, on a seat without the words of bits; drawn numbers. -/
namespace Go.Proofs.YtmfamdonbgmjbaaDoor
set_option linter.unusedVariables false
set_option linter.unusedSimpArgs false
open Go.RowKit

theorem Ba {w wk : World} (h : Below w.heap.size w wk) (o : Obj) : Below w.heap.size w (wk.alloc o) := h.alloc h.size o
def RdB (w : World) (a : Option Addr) (bs : List Nat) : Prop :=
  bs.length ≤ 4194304 ∧ (∀ x ∈ bs, x < 256) ∧ (bs = [] ∨ ∃ b o, a = some ⟨b, o, none⟩ ∧ ∀ i, i < bs.length → w.cell? ⟨b, o + i, none⟩ = some (.int .u8 ((bs.getD i 0 : Nat) : Int)))

theorem RdB.later {w w' : World} {a : Option Addr} {xs : List Nat} (h : RdB w a xs) (hb : Below w.heap.size w w') : RdB w' a xs := by
  obtain ⟨h1, h2, h3⟩ := h
  refine ⟨h1, h2, ?_⟩
  rcases h3 with h3 | ⟨b, o, rfl, hc⟩
  · exact .inl h3
  · refine .inr ⟨b, o, rfl, fun i hi => ?_⟩
    have := hc i hi
    rw [hb.cell (p := ⟨b, o + i, none⟩) (by exact block_lt_of_cell this)]
    exact this

/-- The block β is a box of two cells. -/
def Blk (w : World) (β : Nat) (x y : Value) (t : TypeId) : Prop := w.heap[β]? = some (.cells #[x, y] t (0, 0))

theorem Blk.cells {w : World} {β : Nat} {x y : Value} {t : TypeId} (h : Blk w β x y t) : w.cell? ⟨β, 0, none⟩ = some x ∧ w.cell? ⟨β, 1, none⟩ = some y :=
  ⟨cell_of_row w β 0 _ _ _ h, cell_of_row w β 1 _ _ _ h⟩
theorem Blk.lt {w : World} {β : Nat} {x y : Value} {t : TypeId} (h : Blk w β x y t) : β < w.heap.size := lt_of_block h
theorem Blk.next {w w' : World} {β : Nat} {x y : Value} {t : TypeId} (h : Blk w β x y t) (hb : Below w.heap.size w w') : Blk w' β x y t := by
  unfold Blk
  rw [hb.block β h.lt]; exact h
theorem Blk.new (w : World) (x y : Value) (t : TypeId) : Blk (w.alloc (.cells #[x, y] t)) w.heap.size x y t := heap_alloc_new _ _
theorem Blk.alloc {w : World} {β : Nat} {x y : Value} {t : TypeId} (h : Blk w β x y t) (o : Obj) : Blk (w.alloc o) β x y t := h.next ((Below.refl _ _).alloc (Nat.le_refl _) _)

/-- The block β is a reader of the bytes bs that stand at a. -/
def Rr (w : World) (β : Nat) (a : Option Addr) (c : Nat) (bs : List Nat) : Prop :=
  ∃ p : Nat, p ≤ bs.length ∧ Blk w β (.slice a bs.length c) (.int .i64 p) 104 ∧ RdB w a bs ∧ ∀ x, a = some x → bs ≠ [] → x.block ≠ β

theorem Blk.put1 {w : World} {β : Nat} {x y : Value} {t : TypeId} (h : Blk w β x y t) (u : Value) : Blk (w.setCell ⟨β, 1, none⟩ u) β x u t := by
  unfold Blk
  rw [heap_setCell_same w β 1 _ _ _ h]; rfl

theorem RdB.kept {w w' : World} {a : Option Addr} {bs : List Nat} {row : Option Nat} (h : RdB w a bs) (hg : w.grownBy w' row) (hn : ∀ x, a = some x → bs ≠ [] → row ≠ some x.block) : RdB w' a bs := by
  obtain ⟨h1, h2, h3⟩ := h
  refine ⟨h1, h2, ?_⟩
  rcases h3 with h3 | ⟨b, o, rfl, hc⟩
  · exact .inl h3
  · refine .inr ⟨b, o, rfl, fun i hi => ?_⟩
    have h4 := hc i hi
    rw [World.cell?_of_block (hg.block b (block_lt_of_cell h4) (fun e => hn _ rfl (fun h => by subst h; simp at hi) e.symm))]
    exact h4

theorem gsc (w : World) (a : Addr) (u : Value) : w.grownBy (w.setCell a u) (some a.block) :=
  ⟨rfl, rfl, rfl, by simp, fun k _ hk => heap_setCell_other w a k u (fun e => hk (by rw [e]))⟩

/-- What a draw does to the world: it turns the reader alone, and lays new blocks. -/
def Dw (β : Nat) (w w' : World) : Prop := w.grownBy w' (some β)

theorem Dw.refl (β : Nat) (w : World) : Dw β w w := World.grownBy.refl _ _
theorem Dw.trans {β : Nat} {a b c : World} (h : Dw β a b) (k : Dw β b c) : Dw β a c := World.grownBy.trans h k
theorem Dw.below {β : Nat} {w w' : World} (h : Dw β w w') {B : Nat} (hB : B ≤ β) (hs : B ≤ w.heap.size) : Below B w w' :=
  (Below.refl B w).grown h hs (fun k e => by cases e; exact hB)
theorem Dw.of {β : Nat} {w w' : World} (h : Below w.heap.size w w') : Dw β w w' := ⟨h.os, h.tape, h.output, h.size, fun k hk _ => h.block k hk⟩
theorem Dw.drew {β : Nat} {w w' : World} (h : Dw β w w') : Dw β w w'.drew := ⟨h.os, h.tape, h.output, h.size, h.block⟩
theorem Dw.alloc {β : Nat} {w w' : World} (h : Dw β w w') (o : Obj) : Dw β w (w'.alloc o) := h.trans (World.grownBy_alloc _ _ _)

theorem Rr.later {w w' : World} {β : Nat} {a : Option Addr} {c : Nat} {bs : List Nat} (h : Rr w β a c bs) (hb : Below w.heap.size w w') : Rr w' β a c bs := by
  obtain ⟨p, hp, hk, hr, hn⟩ := h
  exact ⟨p, hp, hk.next hb, hr.later hb, hn⟩

theorem bdr (w : World) (n : Nat) : Below w.heap.size w (w.drewN n) := below_drewN (Below.refl _ _) n
theorem Dw.drewN {β : Nat} {w w' : World} (h : Dw β w w') (n : Nat) : Dw β w (w'.drewN n) := h.trans (Dw.of (bdr _ _))

def Rp (w : World) (β : Nat) (a : Option Addr) (c : Nat) (bs : List Nat) (p : Nat) : Prop :=
  p ≤ bs.length ∧ Blk w β (.slice a bs.length c) (.int .i64 p) 104 ∧ RdB w a bs ∧ ∀ x, a = some x → bs ≠ [] → x.block ≠ β
theorem Rp.later {w w' : World} {β : Nat} {a : Option Addr} {c : Nat} {bs : List Nat} {p : Nat} (h : Rp w β a c bs p) (hb : Below w.heap.size w w') : Rp w' β a c bs p := by
  obtain ⟨hp, hk, hr, hn⟩ := h
  exact ⟨hp, hk.next hb, hr.later hb, hn⟩
theorem Rp.bump {w : World} {β : Nat} {a : Option Addr} {c : Nat} {bs : List Nat} {p : Nat} (h : Rp w β a c bs p) (hp : p < bs.length) : Rr (w.setCell ⟨β, 1, none⟩ (.int .i64 ((p : Int) + 1))) β a c bs := by
  obtain ⟨_, hk, hr, hn⟩ := h
  exact ⟨p + 1, by omega, by have := hk.put1 (.int .i64 ((p : Int) + 1)); simpa using this, hr.kept (gsc w ⟨β, 1, none⟩ _) (fun x e hb h => by cases h; exact hn _ e hb rfl), hn⟩

theorem next_any (β : Nat) (a : Option Addr) (c : Nat) (bs : List Nat) (w : World) (h : Rr w β a c bs) :
    Calls Tryd.prog 71 #[.pointer (some ⟨β, 0, none⟩)] w fun e w' => ∃ x : Nat, e = .returned (.int .i64 x) ∧ x < 256 ∧ Rr w' β a c bs ∧ Dw β w w' := by
  have h' := h
  obtain ⟨p, hp, hk, hr, hn⟩ := h
  have HP : Hid (Rp w β a c bs p) := ⟨hp, hk, hr, hn⟩
  obtain ⟨k0, k1⟩ := hk.cells
  have f1 : w.frozen? ⟨β, 1, none⟩ = false := frozen_of_row w β 1 _ _ hk
  have hl := hr.1
  by_cases hlt : p < bs.length
  · obtain ⟨-, hby, h | ⟨b, o, rfl, hc⟩⟩ := id hr
    · subst h; simp at hlt
    have hcell := hc p hlt
    have hbn : b ≠ β := hn _ rfl (fun h => by subst h; simp at hlt)
    have hb8 : bs.getD p 0 < 256 := by
      have e : bs.getD p 0 = bs[p] := by simp [List.getD, hlt]
      rw [e]; exact hby _ (List.getElem_mem _)
    generalize bs.getD p 0 = y at hcell hb8
    clear hc hby hn hr hk h'
    go_enter Tryd.func71, Tryd.ntmps71
    go_wp2
    go_quiet (fail)
    go_wp2
    go_quiet (fail)
    go_wp2
    go_ret
    exact ⟨y, rfl, hb8, ((HP.out.later (bdr _ _)).bump hlt).later (bdr _ _), ((Dw.of (bdr _ _)).trans (gsc _ ⟨β, 1, none⟩ _)).drewN _⟩
  · clear hr hk hn
    go_enter Tryd.func71, Tryd.ntmps71
    go_wp2
    go_quiet (fail)
    go_wp2
    go_ret
    exact ⟨0, rfl, by omega, h'.later (bdr _ _), Dw.of (bdr _ _)⟩

theorem below_any (n : Nat) (hn : n ≤ 4194304) (β : Nat) (a : Option Addr) (c : Nat) (bs : List Nat) (w : World) (h : Rr w β a c bs) :
    Calls Tryd.prog 47 #[.pointer (some ⟨β, 0, none⟩), .int .i64 n] w fun e w' => ∃ x : Nat, e = .returned (.int .i64 x) ∧ (x = 0 ∨ x < n) ∧ Rr w' β a c bs ∧ Dw β w w' := by
  by_cases h1 : n ≤ 1
  · have h1i : (n : Int) ≤ 1 := by omega
    go_enter Tryd.func47, Tryd.ntmps47
    go_wp2
    go_ret
    exact ⟨0, rfl, .inl rfl, h, Dw.refl _ _⟩
  · have h1i : ¬ (n : Int) ≤ 1 := by omega
    by_cases h2 : n ≤ 256
    · have h2i : (n : Int) ≤ 256 := by omega
      go_enter Tryd.func47, Tryd.ntmps47
      go_wp2_with fail
      refine (next_any β a c bs _ h).mono ?_
      rintro e w1 ⟨x, rfl, hx, hr1, hd1⟩
      have hm : x % n < n := Nat.mod_lt _ (by omega)
      have he : Int.tmod (x : Int) (n : Int) = ((x % n : Nat) : Int) := by rw [Int.tmod_eq_emod_of_nonneg (by omega)]; simp
      go_wp2
      go_ret
      exact ⟨x % n, by first | rfl | simp, .inr hm, hr1, hd1⟩
    · have h2i : ¬ (n : Int) ≤ 256 := by omega
      go_enter Tryd.func47, Tryd.ntmps47
      go_wp2_with fail
      refine (next_any β a c bs _ h).mono ?_
      rintro e w1 ⟨x, rfl, hx, hr1, hd1⟩
      go_wp2_with fail
      refine (next_any β a c bs _ hr1).mono ?_
      rintro e w2 ⟨y, rfl, hy, hr2, hd2⟩
      have hm : (x * 256 + y) % n < n := Nat.mod_lt _ (by omega)
      go_wp2
      go_ret
      exact ⟨(x * 256 + y) % n, by first | rfl | simp, .inr hm, hr2, hd1.trans hd2⟩

theorem once_any (n : Nat) (h0 : 1 ≤ n) (hn : n ≤ 4194304) (β : Nat) (a : Option Addr) (c : Nat) (bs : List Nat) (w : World) (h : Rr w β a c bs) :
    Calls Tryd.prog 46 #[.pointer (some ⟨β, 0, none⟩), .int .i64 n] w fun e w' => ∃ x : Bool, e = .returned (.bool x) ∧ Rr w' β a c bs ∧ Dw β w w' := by
  go_enter Tryd.func46, Tryd.ntmps46
  go_wp2_with fail
  refine (below_any n hn β a c bs _ h).mono ?_
  rintro e w1 ⟨x, rfl, hx, hr1, hd1⟩
  go_wp2
  go_ret
  exact ⟨_, rfl, hr1, hd1⟩

theorem orByte (x y : Nat) (hy : y < 256) : ∃ z : Nat, z < 18446744073709551616 ∧ bits BinOp.or IntKind.u64 (IntKind.u64.wrap ((x : Int) * 2 ^ 8)) (y : Int) = (z : Int) := by
  have e : IntKind.u64.wrap ((x : Int) * 2 ^ 8) = ((x * 2 ^ 8 % 18446744073709551616 : Nat) : Int) := by
    rw [IntKind.wrap_u64]; simp
  have hlt : x * 2 ^ 8 % 18446744073709551616 < 18446744073709551616 := Nat.mod_lt _ (by decide)
  refine ⟨x * 2 ^ 8 % 18446744073709551616 ||| y, Nat.or_lt_two_pow (n := 64) hlt (by omega), ?_⟩
  rw [e, bits_or_u64_nat _ _ hlt (by omega)]

theorem word_any (β : Nat) (a : Option Addr) (c : Nat) (bs : List Nat) (w : World) (h : Rr w β a c bs) :
    Calls Tryd.prog 81 #[.pointer (some ⟨β, 0, none⟩)] w fun e w' => ∃ x : Nat, e = .returned (.int .u64 x) ∧ x < 18446744073709551616 ∧ Rr w' β a c bs ∧ Dw β w w' := by
  go_enter Tryd.func81, Tryd.ntmps81
  go_wp2
  go_loopw [3, 4] (fun v i wr => ∃ k x : Nat, k ≤ 8 ∧ i = .int .i64 k ∧ v = .int .u64 x ∧ x < 18446744073709551616 ∧ Rr wr β a c bs ∧ Dw β w wr) (fun _ i _ => 8 - (intOf i).toNat)
  case atStart => exact ⟨0, 0, by omega, rfl, rfl, by omega, h, Dw.refl _ _⟩
  case round =>
    obtain ⟨k, x, hk, rfl, rfl, hx, hr, hd⟩ := hrel
    by_cases hlt : k < 8
    · go_wp2_with fail
      refine (next_any β a c bs _ hr).mono ?_
      rintro e w1 ⟨y, rfl, hy, hr1, hd1⟩
      obtain ⟨z, hz, HZ⟩ := orByte x y hy
      go_wp2
      go_roundw
      case rel => exact ⟨k + 1, z, by omega, by go_num, by rw [show (256 : Int) = 2 ^ 8 from rfl, HZ], hz, hr1, hd.trans hd1⟩
      case measure => simp [intOf]; omega
    · go_wp2
      go_ret
      exact ⟨x, rfl, hx, hr, hd⟩
theorem Dw.row {β : Nat} {w1 w2 : World} {o : Obj} (h : Dw β (w1.alloc o) w2) (hβ : β < w1.heap.size) : w2.heap[w1.heap.size]? = some o := by
  rw [World.grownBy.block h w1.heap.size (by simp) (by simp; omega), heap_alloc_new]

theorem wrap64_of {x : Int} (h1 : -9223372036854775808 ≤ x) (h2 : x ≤ 9223372036854775807) : wrap64 x = x := by
  unfold wrap64; omega

theorem near_any (l h : Nat) (hlh : l ≤ h) (hh : h ≤ 4194304) (β : Nat) (a : Option Addr) (c : Nat) (bs : List Nat) (w : World) (hr : Rr w β a c bs) :
    Calls Tryd.prog 72 #[.pointer (some ⟨β, 0, none⟩), .int .i64 l, .int .i64 h] w fun e w' => ∃ x : Nat, e = .returned (.int .i64 x) ∧ l ≤ x ∧ x ≤ h ∧ Rr w' β a c bs ∧ Dw β w w' := by
  go_enter Tryd.func72, Tryd.ntmps72
  go_wp2_with fail
  refine (below_any 8 (by omega) β a c bs _ hr).mono ?_
  rintro e w1 ⟨x, rfl, hx, hr1, hd1⟩
  rcases Nat.lt_or_ge 1 x with h1 | h1
  · have n0 : ¬ x = 0 := by omega
    have n1 : ¬ x = 1 := by omega
    have n0i : ¬ (x : Int) = 0 := by omega
    have n1i : ¬ (x : Int) = 1 := by omega
    have n2i : ¬ (h : Int) < (l : Int) := by omega
    go_wp2_with fail
    refine (word_any β a c bs _ hr1).mono ?_
    rintro e w2 ⟨y, rfl, hy, hr2, hd2⟩
    have hm : y / 2 % (h - l + 1) < h - l + 1 := Nat.mod_lt _ (by omega)
    have e1 : ((y : Int) / 2 % ((h : Int) - (l : Int) + 1)) = ((y / 2 % (h - l + 1) : Nat) : Int) := by
      rw [Int.natCast_emod, Int.natCast_ediv]; congr 1; omega
    generalize hz : y / 2 % (h - l + 1) = z at *
    have E1 : Hid ((y : Int) / 2 % ((h : Int) - (l : Int) + 1) = (z : Int)) := e1
    clear e1 hz
    go_wp2
    go_ret
    refine ⟨l + z, ?_, by omega, by omega, hr2, hd1.trans hd2⟩
    rw [E1.out, wrap64_of (show -9223372036854775808 ≤ (z : Int) by omega) (by omega), wrap64_of (by omega) (by omega)]
    simp
  · obtain rfl | rfl : x = 0 ∨ x = 1 := by omega
    · go_wp2
      go_ret
      exact ⟨l, rfl, Nat.le_refl _, hlh, hr1, hd1⟩
    · go_wp2
      go_ret
      exact ⟨h, rfl, hlh, Nat.le_refl _, hr1, hd1⟩

theorem off_any (l h : Nat) (hlh : l ≤ h) (hh : h ≤ 4194304) (β : Nat) (a : Option Addr) (c : Nat) (bs : List Nat) (w : World) (hr : Rr w β a c bs) :
    Calls Tryd.prog 48 #[.pointer (some ⟨β, 0, none⟩), .int .i64 l, .int .i64 h] w fun e w' => ∃ x : Int, e = .returned (.int .i64 x) ∧ -9223372036854775808 ≤ x ∧ x ≤ 9223372036854775807 ∧ Rr w' β a c bs ∧ Dw β w w' := by
  go_enter Tryd.func48, Tryd.ntmps48
  go_wp2_with fail
  refine (once_any 24 (by omega) (by omega) β a c bs _ hr).mono ?_
  rintro e w1 ⟨x, rfl, hr1, hd1⟩
  cases x with
  | true =>
    have hβ : β < w1.heap.size := by obtain ⟨p, _, hk, _⟩ := hr1; exact hk.lt
    go_wp2_with fail
    refine (below_any 4 (by omega) β a c bs _ (hr1.later ((Below.refl _ _).alloc (Nat.le_refl _) _))).mono ?_
    rintro e w2 ⟨y, rfl, hy, hr2, hd2⟩
    have hrow := hd2.row hβ
    have hy4 : y < 4 := by omega
    obtain ⟨z, hz1, hz2, hcell⟩ : ∃ z : Int, -9223372036854775808 ≤ z ∧ z ≤ 9223372036854775807 ∧ w2.cell? ⟨w1.heap.size, y, none⟩ = some (.int .i64 z) := by
      rw [cell_of_row w2 _ y _ _ _ hrow]
      match y, hy4 with
      | 0, _ => exact ⟨(l : Int) - 1, by omega, by omega, rfl⟩
      | 1, _ => exact ⟨(h : Int) + 1, by omega, by omega, rfl⟩
      | 2, _ => exact ⟨-9223372036854775808, by omega, by omega, rfl⟩
      | 3, _ => exact ⟨9223372036854775807, by omega, by omega, rfl⟩
    have hd := hd1.trans ((Dw.of ((Below.refl _ _).alloc (Nat.le_refl _) _)).trans hd2)
    clear hrow hd2
    go_wp2
    go_ret
    exact ⟨z, rfl, hz1, hz2, hr2, hd⟩
  | false =>
    go_wp2_with fail
    refine (near_any l h hlh hh β a c bs _ hr1).mono ?_
    rintro e w2 ⟨y, rfl, hy1, hy2, hr2, hd2⟩
    go_wp2
    go_ret
    exact ⟨y, rfl, by omega, by omega, hr2, hd1.trans hd2⟩

theorem open_any (a : Option Addr) (c : Nat) (bs : List Nat) (w : World) (h : RdB w a bs) :
    Calls Tryd.prog 44 #[.slice a bs.length c] w fun e w' => ∃ β, e = .returned (.pointer (some ⟨β, 0, none⟩)) ∧ w.heap.size ≤ β ∧ Rr w' β a c bs ∧ Below w.heap.size w w' := by
  have hl := h.1
  go_enter Tryd.func44, Tryd.ntmps44
  go_wp2
  go_ret
  refine ⟨w.heap.size, rfl, Nat.le_refl _, ⟨0, Nat.zero_le _, Blk.new _ _ _ _, h.later (Ba (Below.refl _ _) _), fun x e hb => ?_⟩, Ba (Below.refl _ _) _⟩
  obtain ⟨-, -, h | ⟨b, o, rfl, hc⟩⟩ := h
  · exact absurd h hb
  · cases e
    have := block_lt_of_cell (hc 0 (List.length_pos_iff.2 hb))
    simp at this ⊢
    omega

theorem big_any (a : Option Addr) (n c : Nat) (w : World) (hn : n ≤ 9223372036854775807) :
    Calls Tryd.prog 22 #[.slice a n c] w fun e w' => e = .returned (.bool (decide (1048576 < n))) ∧ w' = w := by
  by_cases h : 1048576 < n
  · have hi : (1048576 : Int) < (n : Int) := by omega
    go_enter Tryd.func22, Tryd.ntmps22
    go_wp2
    go_ret
    exact ⟨by simp [h], rfl⟩
  · have hi : ¬ (1048576 : Int) < (n : Int) := by omega
    go_enter Tryd.func22, Tryd.ntmps22
    go_wp2
    go_ret
    exact ⟨by simp [h], rfl⟩

theorem Rr.lt {w : World} {β : Nat} {a : Option Addr} {c : Nat} {bs : List Nat} (h : Rr w β a c bs) : β < w.heap.size := by
  obtain ⟨p, _, hk, _⟩ := h; exact hk.lt

/-- What is written from w0's end on touches neither the reader nor its bytes. -/
theorem Rr.far {w0 w w' : World} {β : Nat} {a : Option Addr} {c : Nat} {bs : List Nat} {row : Option Nat} (h0 : Rr w0 β a c bs) (h : Rr w β a c bs) (hg : w.grownBy w' row) (hrow : ∀ k, row = some k → w0.heap.size ≤ k) : Rr w' β a c bs := by
  have hβ := h0.lt
  obtain ⟨_, _, _, ⟨_, _, h3⟩, _⟩ := h0
  obtain ⟨p, hp, hk, hr, hn⟩ := h
  refine ⟨p, hp, ?_, ?_, hn⟩
  · unfold Blk
    rw [hg.block β hk.lt (fun e => by have := hrow β e.symm; omega)]; exact hk
  · rcases h3 with h3 | ⟨b, o, rfl, hc⟩
    · subst h3; exact ⟨by simp, by simp, .inl rfl⟩
    · by_cases he : bs = []
      · subst he; exact ⟨by simp, by simp, .inl rfl⟩
      · have hb : b < w0.heap.size := block_lt_of_cell (hc 0 (List.length_pos_iff.2 he))
        exact hr.kept hg (fun x e _ h => by cases e; have := hrow _ h; simp at this; omega)

theorem Dw.own {β : Nat} {w0 w w' : World} {row : Option Nat} (h : Dw β w0 w) (hg : w.grownBy w' row) (hrow : ∀ k, row = some k → w0.heap.size ≤ k) : Dw β w0 w' :=
  ⟨hg.os.trans h.os, hg.tape.trans h.tape, hg.output.trans h.output, Nat.le_trans h.size hg.size, fun k hk hne => by
    rw [hg.block k (Nat.lt_of_lt_of_le hk h.size) (fun e => by have := hrow k e.symm; omega)]; exact h.block k hk hne⟩


end Go.Proofs.YtmfamdonbgmjbaaDoor

/- Rows of numbers of one's own, while a reader of draws is turned. -/
namespace Go.Proofs.YtmfamdonbgmjbaaDoor
set_option linter.unusedVariables false
set_option linter.unusedSimpArgs false
open Go.RowKit

theorem OI.far {w w' : World} {B : Nat} {v : Value} {l : List Int} {β : Nat} (h : OI w B v l) (hd : Dw β w w') (hβ : β < B) : OI w' B v l := h.move fun b hb => hd.block b (h.lt hb).2 (fun e => by cases e; have := (h.lt hb).1; omega)

end Go.Proofs.YtmfamdonbgmjbaaDoor

/- Drawn numbers for clauses. -/
namespace Go.Proofs.YtmfamdonbgmjbaaDoor
set_option linter.unusedVariables false
set_option linter.unusedSimpArgs false
open Go.RowKit

theorem belowI (N : Int) (h0 : 0 ≤ N) (hN : N ≤ 4194304) (β : Nat) (a : Option Addr) (c : Nat) (bs : List Nat) (w : World) (h : Rr w β a c bs) :
    Calls Tryd.prog 47 #[.pointer (some ⟨β, 0, none⟩), .int .i64 N] w fun e w' => ∃ x : Nat, e = .returned (.int .i64 x) ∧ (x = 0 ∨ (x : Int) < N) ∧ Rr w' β a c bs ∧ Dw β w w' := by
  obtain ⟨n, rfl⟩ := Int.eq_ofNat_of_zero_le h0
  refine (below_any n (by omega) β a c bs w h).mono ?_
  rintro e w' ⟨x, rfl, hx, h1, h2⟩
  exact ⟨x, rfl, by omega, h1, h2⟩
theorem Rr.alloc {w : World} {β : Nat} {a : Option Addr} {c : Nat} {bs : List Nat} (h : Rr w β a c bs) (o : Obj) : Rr (w.alloc o) β a c bs := h.later ((Below.refl _ _).alloc (Nat.le_refl _) _)
theorem Rr.slice {w : World} {β : Nat} {a : Option Addr} {c : Nat} {bs : List Nat} (h : Rr w β a c bs) : w.cell? ⟨β, 0, none⟩ = some (.slice a bs.length c) := by obtain ⟨p, hp, hk, hb, -⟩ := h; exact hk.cells.1

set_option maxHeartbeats 1000000 in
theorem size_any (per most : Nat) (hp1 : 1 ≤ per) (hp2 : per ≤ 1000) (hm1 : 1 ≤ most) (hm2 : most ≤ 1000) (β : Nat) (a : Option Addr) (c : Nat) (bs : List Nat) (w : World) (hr : Rr w β a c bs) :
    Calls Tryd.prog 70 #[.pointer (some ⟨β, 0, none⟩), .int .i64 (per : Int), .int .i64 (most : Int)] w fun e w' => ∃ x : Nat, e = .returned (.int .i64 x) ∧ 1 ≤ x ∧ x ≤ most ∧ Rr w' β a c bs ∧ Dw β w w' := by
  have hlb : bs.length ≤ 4194304 := by obtain ⟨p, hp, hk, hb, -⟩ := hr; exact hb.1
  have c0 := hr.slice
  have HR := kide hr
  obtain ⟨N, hN⟩ : ∃ N, bs.length = N := ⟨_, rfl⟩
  rw [hN] at c0 hlb
  have hper : ¬ (per : Int) = 0 := by omega
  obtain ⟨q, hq⟩ : ∃ q : Nat, (N : Int).tdiv (per : Int) = (q : Int) := ⟨N / per, by rw [Int.tdiv_eq_ediv_of_nonneg (by omega)]; simp⟩
  have hqn : q ≤ N := by
    have h1 : (q : Int) = ((N / per : Nat) : Int) := by rw [← hq, Int.tdiv_eq_ediv_of_nonneg (by omega)]; simp
    have h2 := Nat.div_le_self N per
    omega
  have hq2 : (N : Int) / (per : Int) = (q : Int) := by rw [← Int.tdiv_eq_ediv_of_nonneg (by omega)]; exact hq
  clear hr hN
  by_cases hc : 1 + (q : Int) > (most : Int)
  · go_enter Tryd.func70, Tryd.ntmps70
    go_wp2_with fail
    refine Calls.mono (below_any most (by omega) β a c bs _ HR.out) ?_
    rintro e w1 ⟨x, rfl, hx, hr1, hd1⟩
    have H1 := kide hr1
    have D1 := kide hd1
    have hxm : x < most := by omega
    clear hr1 hd1 hx
    go_wp2_with fail
    go_ret
    exact ⟨1 + x, by simp, by omega, by omega, H1.out, D1.out⟩
  · go_enter Tryd.func70, Tryd.ntmps70
    go_wp2_with fail
    refine Calls.mono (belowI (1 + (q : Int)) (by omega) (by omega) β a c bs _ HR.out) ?_
    rintro e w1 ⟨x, rfl, hx, hr1, hd1⟩
    have H1 := kide hr1
    have D1 := kide hd1
    have hxm : x < most := by omega
    clear hr1 hd1 hx
    go_wp2_with fail
    go_ret
    exact ⟨1 + x, by simp, by omega, by omega, H1.out, D1.out⟩

theorem wrap64_in (x : Int) : -9223372036854775808 ≤ wrap64 x ∧ wrap64 x ≤ 9223372036854775807 := by unfold wrap64; omega

set_option maxHeartbeats 1000000 in
theorem nearS_any (S : Int) (hS : in64 S) (β : Nat) (a : Option Addr) (c : Nat) (bs : List Nat) (w : World) (hr : Rr w β a c bs) :
    Calls Tryd.prog 72 #[.pointer (some ⟨β, 0, none⟩), .int .i64 (wrap64 (-S)), .int .i64 S] w fun e w' => ∃ x : Int, e = .returned (.int .i64 x) ∧ in64 x ∧ Rr w' β a c bs ∧ Dw β w w' := by
  obtain ⟨hi1, hi2⟩ := hS
  obtain ⟨L, hL⟩ : ∃ L, wrap64 (-S) = L := ⟨_, rfl⟩
  have hL1 := wrap64_in (-S)
  have hu : ¬ IntKind.u64.wrap (wrap64 (wrap64 (S - L) + 1)) = 0 := by
    rw [IntKind.wrap_u64, ← hL]
    unfold wrap64
    omega
  rw [hL] at hL1 ⊢
  obtain ⟨hl1, hl2⟩ := hL1
  clear hL
  go_enter Tryd.func72, Tryd.ntmps72
  go_wp2_with fail
  refine (below_any 8 (by omega) β a c bs _ hr).mono ?_
  rintro e w1 ⟨x, rfl, hx, hr1, hd1⟩
  rcases Nat.lt_or_ge 1 x with h1 | h1
  · have n0 : ¬ x = 0 := by omega
    have n1 : ¬ x = 1 := by omega
    have n0i : ¬ (x : Int) = 0 := by omega
    have n1i : ¬ (x : Int) = 1 := by omega
    by_cases hneg : S < L
    · go_wp2
      go_ret
      exact ⟨L, rfl, ⟨by omega, by omega⟩, hr1, hd1⟩
    · go_wp2_with fail
      refine (word_any β a c bs _ hr1).mono ?_
      rintro e w2 ⟨y, rfl, hy, hr2, hd2⟩
      go_wp2
      go_ret
      exact ⟨_, rfl, wrap64_in _, hr2, hd1.trans hd2⟩
  · obtain rfl | rfl : x = 0 ∨ x = 1 := by omega
    · go_wp2
      go_ret
      exact ⟨L, rfl, ⟨by omega, by omega⟩, hr1, hd1⟩
    · go_wp2
      go_ret
      exact ⟨S, rfl, ⟨by omega, by omega⟩, hr1, hd1⟩
theorem offS_any (S : Int) (hS : in64 S) (β : Nat) (a : Option Addr) (c : Nat) (bs : List Nat) (w : World) (hr : Rr w β a c bs) :
    Calls Tryd.prog 48 #[.pointer (some ⟨β, 0, none⟩), .int .i64 (wrap64 (-S)), .int .i64 S] w fun e w' => ∃ x : Int, e = .returned (.int .i64 x) ∧ in64 x ∧ Rr w' β a c bs ∧ Dw β w w' := by
  have HS := kide hS
  obtain ⟨hi1, hi2⟩ := hS
  have HNR := kide (fun W (h : Rr W β a c bs) => nearS_any S HS.out β a c bs W h)
  obtain ⟨L, hL⟩ : ∃ L, wrap64 (-S) = L := ⟨_, rfl⟩
  have hL1 := wrap64_in (-S)
  rw [hL] at hL1 HNR ⊢
  obtain ⟨hl1, hl2⟩ := hL1
  clear hL
  go_enter Tryd.func48, Tryd.ntmps48
  go_wp2_with fail
  refine (once_any 24 (by omega) (by omega) β a c bs _ hr).mono ?_
  rintro e w1 ⟨x, rfl, hr1, hd1⟩
  cases x with
  | true =>
    have hβ : β < w1.heap.size := by obtain ⟨p, _, hk, _⟩ := hr1; exact hk.lt
    go_wp2_with fail
    refine (below_any 4 (by omega) β a c bs _ (hr1.later ((Below.refl _ _).alloc (Nat.le_refl _) _))).mono ?_
    rintro e w2 ⟨y, rfl, hy, hr2, hd2⟩
    have hrow := hd2.row hβ
    have hy4 : y < 4 := by omega
    obtain ⟨z, hz, hcell⟩ : ∃ z : Int, in64 z ∧ w2.cell? ⟨w1.heap.size, y, none⟩ = some (.int .i64 z) := by
      rw [cell_of_row w2 _ y _ _ _ hrow]
      match y, hy4 with
      | 0, _ => exact ⟨_, wrap64_in _, rfl⟩
      | 1, _ => exact ⟨_, wrap64_in _, rfl⟩
      | 2, _ => exact ⟨-9223372036854775808, ⟨by omega, by omega⟩, rfl⟩
      | 3, _ => exact ⟨9223372036854775807, ⟨by omega, by omega⟩, rfl⟩
    have HZ := kide hz
    have hd := hd1.trans ((Dw.of ((Below.refl _ _).alloc (Nat.le_refl _) _)).trans hd2)
    clear hrow hd2 hz
    go_wp2
    go_ret
    exact ⟨z, rfl, HZ.out, hr2, hd⟩
  | false =>
    go_wp2_with fail
    refine (HNR.out _ hr1).mono ?_
    rintro e w2 ⟨y, rfl, hy, hr2, hd2⟩
    have HY := kide hy
    clear hy
    go_wp2
    go_ret
    exact ⟨y, rfl, HY.out, hr2, hd1.trans hd2⟩

set_option maxHeartbeats 1000000 in
theorem near0_any (h : Int) (hi : in64 h) (β : Nat) (a : Option Addr) (c : Nat) (bs : List Nat) (w : World) (hr : Rr w β a c bs) :
    Calls Tryd.prog 72 #[.pointer (some ⟨β, 0, none⟩), .int .i64 0, .int .i64 h] w fun e w' => ∃ x : Int, e = .returned (.int .i64 x) ∧ in64 x ∧ Rr w' β a c bs ∧ Dw β w w' := by
  obtain ⟨hi1, hi2⟩ := hi
  go_enter Tryd.func72, Tryd.ntmps72
  go_wp2_with fail
  refine (below_any 8 (by omega) β a c bs _ hr).mono ?_
  rintro e w1 ⟨x, rfl, hx, hr1, hd1⟩
  rcases Nat.lt_or_ge 1 x with h1 | h1
  · have n0 : ¬ x = 0 := by omega
    have n1 : ¬ x = 1 := by omega
    have n0i : ¬ (x : Int) = 0 := by omega
    have n1i : ¬ (x : Int) = 1 := by omega
    by_cases hneg : h < 0
    · go_wp2
      go_ret
      exact ⟨0, rfl, ⟨by omega, by omega⟩, hr1, hd1⟩
    · by_cases htop : h = 9223372036854775807
      · subst htop
        have hu : ¬ IntKind.u64.wrap (wrap64 9223372036854775808) = 0 := by rw [IntKind.wrap_u64]; unfold wrap64; decide
        go_wp2_with fail
        refine (word_any β a c bs _ hr1).mono ?_
        rintro e w2 ⟨y, rfl, hy, hr2, hd2⟩
        go_wp2
        go_ret
        exact ⟨_, rfl, wrap64_in _, hr2, hd1.trans hd2⟩
      · have hle : h ≤ 9223372036854775806 := by omega
        have h0 : 0 ≤ h := by omega
        have hz : h + 1 ≠ 0 := by omega
        clear htop hneg
        go_wp2_with fail
        refine (word_any β a c bs _ hr1).mono ?_
        rintro e w2 ⟨y, rfl, hy, hr2, hd2⟩
        go_wp2
        go_ret
        exact ⟨_, rfl, wrap64_in _, hr2, hd1.trans hd2⟩
  · obtain rfl | rfl : x = 0 ∨ x = 1 := by omega
    · go_wp2
      go_ret
      exact ⟨0, rfl, ⟨by omega, by omega⟩, hr1, hd1⟩
    · go_wp2
      go_ret
      exact ⟨h, rfl, ⟨by omega, by omega⟩, hr1, hd1⟩

theorem off0_any (h : Int) (hi : in64 h) (β : Nat) (a : Option Addr) (c : Nat) (bs : List Nat) (w : World) (hr : Rr w β a c bs) :
    Calls Tryd.prog 48 #[.pointer (some ⟨β, 0, none⟩), .int .i64 0, .int .i64 h] w fun e w' => ∃ x : Int, e = .returned (.int .i64 x) ∧ in64 x ∧ Rr w' β a c bs ∧ Dw β w w' := by
  have HI := kide hi
  clear hi
  go_enter Tryd.func48, Tryd.ntmps48
  go_wp2_with fail
  refine (once_any 24 (by omega) (by omega) β a c bs _ hr).mono ?_
  rintro e w1 ⟨x, rfl, hr1, hd1⟩
  cases x with
  | true =>
    have hβ : β < w1.heap.size := by obtain ⟨p, _, hk, _⟩ := hr1; exact hk.lt
    go_wp2_with fail
    refine (below_any 4 (by omega) β a c bs _ (hr1.later ((Below.refl _ _).alloc (Nat.le_refl _) _))).mono ?_
    rintro e w2 ⟨y, rfl, hy, hr2, hd2⟩
    have hrow := hd2.row hβ
    have hy4 : y < 4 := by omega
    obtain ⟨z, hz, hcell⟩ : ∃ z : Int, in64 z ∧ w2.cell? ⟨w1.heap.size, y, none⟩ = some (.int .i64 z) := by
      rw [cell_of_row w2 _ y _ _ _ hrow]
      match y, hy4 with
      | 0, _ => exact ⟨_, ⟨by omega, by omega⟩, rfl⟩
      | 1, _ => exact ⟨_, wrap64_in _, rfl⟩
      | 2, _ => exact ⟨-9223372036854775808, ⟨by omega, by omega⟩, rfl⟩
      | 3, _ => exact ⟨9223372036854775807, ⟨by omega, by omega⟩, rfl⟩
    have HZ := kide hz
    have hd := hd1.trans ((Dw.of ((Below.refl _ _).alloc (Nat.le_refl _) _)).trans hd2)
    clear hrow hd2 hz
    go_wp2
    go_ret
    exact ⟨z, rfl, HZ.out, hr2, hd⟩
  | false =>
    go_wp2_with fail
    refine (near0_any h HI.out β a c bs _ hr1).mono ?_
    rintro e w2 ⟨y, rfl, hy, hr2, hd2⟩
    have HY := kide hy
    clear hy
    go_wp2
    go_ret
    exact ⟨y, rfl, HY.out, hr2, hd1.trans hd2⟩

end Go.Proofs.YtmfamdonbgmjbaaDoor
