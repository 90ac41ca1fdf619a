/- The reader of the draws: what next, below, once and word do to it. -/
import Derived.Test.YtpmpipcpifmncaaR
namespace Go.Proofs.Ytpmpipcpifmncaa
set_option linter.unusedVariables false
set_option linter.unusedSimpArgs false
open Go.RowKit

/-- The block β is a reader of the bytes bs that stand at a. -/
def Rr (w : World) (β : Nat) (a : Option Addr) (c : Nat) (bs : List Nat) : Prop :=
  ∃ p : Nat, p ≤ bs.length ∧ Blk w β (.slice a bs.length c) (.int .i64 p) 110 ∧ RdB w a bs ∧ ∀ x, a = some x → bs ≠ [] → x.block ≠ β

theorem Blk.put1 {w : World} {β : Nat} {x y : Value} {t : TypeId} (h : Blk w β x y t) (u : Value) : Blk (w.setCell ⟨β, 1, none⟩ u) β x u t := by
  unfold Blk
  rw [heap_setCell_same w β 1 _ _ _ h]; rfl

theorem RdB.kept {w w' : World} {a : Option Addr} {bs : List Nat} {row : Option Nat} (h : RdB w a bs) (hg : w.grownBy w' row) (hn : ∀ x, a = some x → bs ≠ [] → row ≠ some x.block) : RdB w' a bs := by
  obtain ⟨h1, h2, h3⟩ := h
  refine ⟨h1, h2, ?_⟩
  rcases h3 with h3 | ⟨b, o, rfl, hc⟩
  · exact .inl h3
  · refine .inr ⟨b, o, rfl, fun i hi => ?_⟩
    have h4 := hc i hi
    rw [World.cell?_of_block (hg.block b (block_lt_of_cell h4) (fun e => hn _ rfl (fun h => by subst h; simp at hi) e.symm))]
    exact h4

theorem gsc (w : World) (a : Addr) (u : Value) : w.grownBy (w.setCell a u) (some a.block) :=
  ⟨rfl, rfl, rfl, by simp, fun k _ hk => heap_setCell_other w a k u (fun e => hk (by rw [e]))⟩

/-- What a draw does to the world: it turns the reader alone, and lays new blocks. -/
def Dw (β : Nat) (w w' : World) : Prop := w.grownBy w' (some β)

theorem Dw.refl (β : Nat) (w : World) : Dw β w w := World.grownBy.refl _ _
theorem Dw.trans {β : Nat} {a b c : World} (h : Dw β a b) (k : Dw β b c) : Dw β a c := World.grownBy.trans h k
theorem Dw.below {β : Nat} {w w' : World} (h : Dw β w w') {B : Nat} (hB : B ≤ β) (hs : B ≤ w.heap.size) : Below B w w' :=
  (Below.refl B w).grown h hs (fun k e => by cases e; exact hB)
theorem Dw.of {β : Nat} {w w' : World} (h : Below w.heap.size w w') : Dw β w w' := ⟨h.os, h.tape, h.output, h.size, fun k hk _ => h.block k hk⟩
theorem Dw.drew {β : Nat} {w w' : World} (h : Dw β w w') : Dw β w w'.drew := ⟨h.os, h.tape, h.output, h.size, h.block⟩
theorem Dw.alloc {β : Nat} {w w' : World} (h : Dw β w w') (o : Obj) : Dw β w (w'.alloc o) := h.trans (World.grownBy_alloc _ _ _)

theorem Rr.later {w w' : World} {β : Nat} {a : Option Addr} {c : Nat} {bs : List Nat} (h : Rr w β a c bs) (hb : Below w.heap.size w w') : Rr w' β a c bs := by
  obtain ⟨p, hp, hk, hr, hn⟩ := h
  exact ⟨p, hp, hk.next hb, hr.later hb, hn⟩

theorem Bd (w : World) (n : Nat) : Below w.heap.size w (w.drewN n) := below_drewN (Below.refl _ _) n
theorem Dw.drewN {β : Nat} {w w' : World} (h : Dw β w w') (n : Nat) : Dw β w (w'.drewN n) := h.trans (Dw.of (Bd _ _))

def Rp (w : World) (β : Nat) (a : Option Addr) (c : Nat) (bs : List Nat) (p : Nat) : Prop :=
  p ≤ bs.length ∧ Blk w β (.slice a bs.length c) (.int .i64 p) 110 ∧ RdB w a bs ∧ ∀ x, a = some x → bs ≠ [] → x.block ≠ β
theorem Rp.later {w w' : World} {β : Nat} {a : Option Addr} {c : Nat} {bs : List Nat} {p : Nat} (h : Rp w β a c bs p) (hb : Below w.heap.size w w') : Rp w' β a c bs p := by
  obtain ⟨hp, hk, hr, hn⟩ := h
  exact ⟨hp, hk.next hb, hr.later hb, hn⟩
theorem Rp.bump {w : World} {β : Nat} {a : Option Addr} {c : Nat} {bs : List Nat} {p : Nat} (h : Rp w β a c bs p) (hp : p < bs.length) : Rr (w.setCell ⟨β, 1, none⟩ (.int .i64 ((p : Int) + 1))) β a c bs := by
  obtain ⟨_, hk, hr, hn⟩ := h
  exact ⟨p + 1, by omega, by have := hk.put1 (.int .i64 ((p : Int) + 1)); simpa using this, hr.kept (gsc w ⟨β, 1, none⟩ _) (fun x e hb h => by cases h; exact hn _ e hb rfl), hn⟩

theorem next_any (β : Nat) (a : Option Addr) (c : Nat) (bs : List Nat) (w : World) (h : Rr w β a c bs) :
    Calls Try.prog 93 #[.pointer (some ⟨β, 0, none⟩)] w fun e w' => ∃ x : Nat, e = .returned (.int .i64 x) ∧ x < 256 ∧ Rr w' β a c bs ∧ Dw β w w' := by
  have h' := h
  obtain ⟨p, hp, hk, hr, hn⟩ := h
  have HP : Hid (Rp w β a c bs p) := ⟨hp, hk, hr, hn⟩
  obtain ⟨k0, k1⟩ := hk.cells
  have f1 : w.frozen? ⟨β, 1, none⟩ = false := frozen_of_row w β 1 _ _ hk
  have hl := hr.1
  by_cases hlt : p < bs.length
  · obtain ⟨-, hby, h | ⟨b, o, rfl, hc⟩⟩ := id hr
    · subst h; simp at hlt
    have hcell := hc p hlt
    have hbn : b ≠ β := hn _ rfl (fun h => by subst h; simp at hlt)
    have hb8 : bs.getD p 0 < 256 := by
      have e : bs.getD p 0 = bs[p] := by simp [List.getD, hlt]
      rw [e]; exact hby _ (List.getElem_mem _)
    generalize bs.getD p 0 = y at hcell hb8
    clear hc hby hn hr hk h'
    go_enter Try.func93, Try.ntmps93
    go_wp2
    go_quiet (fail)
    go_wp2
    go_quiet (fail)
    go_wp2
    go_ret
    exact ⟨y, rfl, hb8, ((HP.out.later (Bd _ _)).bump hlt).later (Bd _ _), ((Dw.of (Bd _ _)).trans (gsc _ ⟨β, 1, none⟩ _)).drewN _⟩
  · clear hr hk hn
    go_enter Try.func93, Try.ntmps93
    go_wp2
    go_quiet (fail)
    go_wp2
    go_ret
    exact ⟨0, rfl, by omega, h'.later (Bd _ _), Dw.of (Bd _ _)⟩

theorem below_any (n : Nat) (hn : n ≤ 4194304) (β : Nat) (a : Option Addr) (c : Nat) (bs : List Nat) (w : World) (h : Rr w β a c bs) :
    Calls Try.prog 79 #[.pointer (some ⟨β, 0, none⟩), .int .i64 n] w fun e w' => ∃ x : Nat, e = .returned (.int .i64 x) ∧ (x = 0 ∨ x < n) ∧ Rr w' β a c bs ∧ Dw β w w' := by
  by_cases h1 : n ≤ 1
  · have h1i : (n : Int) ≤ 1 := by omega
    go_enter Try.func79, Try.ntmps79
    go_wp2
    go_ret
    exact ⟨0, rfl, .inl rfl, h, Dw.refl _ _⟩
  · have h1i : ¬ (n : Int) ≤ 1 := by omega
    by_cases h2 : n ≤ 256
    · have h2i : (n : Int) ≤ 256 := by omega
      go_enter Try.func79, Try.ntmps79
      go_wp2_with fail
      refine (next_any β a c bs _ h).mono ?_
      rintro e w1 ⟨x, rfl, hx, hr1, hd1⟩
      have hm : x % n < n := Nat.mod_lt _ (by omega)
      have he : Int.tmod (x : Int) (n : Int) = ((x % n : Nat) : Int) := by rw [Int.tmod_eq_emod_of_nonneg (by omega)]; simp
      go_wp2
      go_ret
      exact ⟨x % n, by first | rfl | simp, .inr hm, hr1, hd1⟩
    · have h2i : ¬ (n : Int) ≤ 256 := by omega
      go_enter Try.func79, Try.ntmps79
      go_wp2_with fail
      refine (next_any β a c bs _ h).mono ?_
      rintro e w1 ⟨x, rfl, hx, hr1, hd1⟩
      go_wp2_with fail
      refine (next_any β a c bs _ hr1).mono ?_
      rintro e w2 ⟨y, rfl, hy, hr2, hd2⟩
      have hm : (x * 256 + y) % n < n := Nat.mod_lt _ (by omega)
      go_wp2
      go_ret
      exact ⟨(x * 256 + y) % n, by first | rfl | simp, .inr hm, hr2, hd1.trans hd2⟩

theorem once_any (n : Nat) (h0 : 1 ≤ n) (hn : n ≤ 4194304) (β : Nat) (a : Option Addr) (c : Nat) (bs : List Nat) (w : World) (h : Rr w β a c bs) :
    Calls Try.prog 59 #[.pointer (some ⟨β, 0, none⟩), .int .i64 n] w fun e w' => ∃ x : Bool, e = .returned (.bool x) ∧ Rr w' β a c bs ∧ Dw β w w' := by
  go_enter Try.func59, Try.ntmps59
  go_wp2_with fail
  refine (below_any n hn β a c bs _ h).mono ?_
  rintro e w1 ⟨x, rfl, hx, hr1, hd1⟩
  go_wp2
  go_ret
  exact ⟨_, rfl, hr1, hd1⟩

theorem orByte (x y : Nat) (hy : y < 256) : ∃ z : Nat, z < 18446744073709551616 ∧ bits BinOp.or IntKind.u64 (IntKind.u64.wrap ((x : Int) * 2 ^ 8)) (y : Int) = (z : Int) := by
  have e : IntKind.u64.wrap ((x : Int) * 2 ^ 8) = ((x * 2 ^ 8 % 18446744073709551616 : Nat) : Int) := by
    rw [IntKind.wrap_u64]; simp
  have hlt : x * 2 ^ 8 % 18446744073709551616 < 18446744073709551616 := Nat.mod_lt _ (by decide)
  refine ⟨x * 2 ^ 8 % 18446744073709551616 ||| y, Nat.or_lt_two_pow (n := 64) hlt (by omega), ?_⟩
  rw [e, bits_or_u64_nat _ _ hlt (by omega)]

theorem word_any (β : Nat) (a : Option Addr) (c : Nat) (bs : List Nat) (w : World) (h : Rr w β a c bs) :
    Calls Try.prog 83 #[.pointer (some ⟨β, 0, none⟩)] w fun e w' => ∃ x : Nat, e = .returned (.int .u64 x) ∧ x < 18446744073709551616 ∧ Rr w' β a c bs ∧ Dw β w w' := by
  go_enter Try.func83, Try.ntmps83
  go_wp2
  go_loopw [3, 4] (fun v i wr => ∃ k x : Nat, k ≤ 8 ∧ i = .int .i64 k ∧ v = .int .u64 x ∧ x < 18446744073709551616 ∧ Rr wr β a c bs ∧ Dw β w wr) (fun _ i _ => 8 - (intOf i).toNat)
  case atStart => exact ⟨0, 0, by omega, rfl, rfl, by omega, h, Dw.refl _ _⟩
  case round =>
    obtain ⟨k, x, hk, rfl, rfl, hx, hr, hd⟩ := hrel
    by_cases hlt : k < 8
    · go_wp2_with fail
      refine (next_any β a c bs _ hr).mono ?_
      rintro e w1 ⟨y, rfl, hy, hr1, hd1⟩
      obtain ⟨z, hz, HZ⟩ := orByte x y hy
      go_wp2
      go_roundw
      case rel => exact ⟨k + 1, z, by omega, by go_num, by rw [show (256 : Int) = 2 ^ 8 from rfl, HZ], hz, hr1, hd.trans hd1⟩
      case measure => simp [intOf]; omega
    · go_wp2
      go_ret
      exact ⟨x, rfl, hx, hr, hd⟩

end Go.Proofs.Ytpmpipcpifmncaa
