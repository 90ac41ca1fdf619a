/- The laws' own functions on the session that is told, and both Begin. -/
import Derived.Test.YtlkdehgbppelkaaRows
import Derived.WalkKit
import Derived.WalkSpells
import Derived.Deep.QuietTactic
import Derived.BigQuiet
import Derived.Outline
import Derived.WalkSmall
import Derived.Deep.OwnRows
import Derived.Deep.RegionHeld3
namespace Go.Proofs.Ytlkdehgbppelkaa
set_option linter.unusedVariables false
set_option linter.unusedSimpArgs false
open Go.RowKit

theorem kide {p : Prop} (h : p) : Hid p := h
theorem kcell {W w1 : World} (hb : Below W.heap.size W w1) (b o : Nat) (h : b < W.heap.size) : w1.cell? ⟨b, o, none⟩ = W.cell? ⟨b, o, none⟩ := hb.cell (p := ⟨b, o, none⟩) h

theorem eqDeclS_nil (w : World) : Calls Try.prog 9 #[.slice none 0 0, .slice none 0 0] w fun e w' => e = .returned (.bool true) ∧ w' = w := by
  go_enter Try.func9, Try.ntmps9
  go_wp2
  go_loopw [5] (fun i wr => i = .int .i64 0 ∧ wr = w) (fun _ _ => 0)
  case atStart => exact ⟨rfl, rfl⟩
  case round =>
    obtain ⟨rfl, rfl⟩ := hrel
    go_wp2
    go_ret
    exact ⟨rfl, rfl⟩

theorem eqLiteralS_nil (w : World) : Calls Try.prog 20 #[.slice none 0 0, .slice none 0 0] w fun e w' => e = .returned (.bool true) ∧ w' = w := by
  go_enter Try.func20, Try.ntmps20
  go_wp2
  go_loopw [5] (fun i wr => i = .int .i64 0 ∧ wr = w) (fun _ _ => 0)
  case atStart => exact ⟨rfl, rfl⟩
  case round =>
    obtain ⟨rfl, rfl⟩ := hrel
    go_wp2
    go_ret
    exact ⟨rfl, rfl⟩

theorem markDeclS_nil (k : Int) (w : World) : Calls Try.prog 11 #[.slice none 0 0, .int .i64 k] w fun e w' => e = .returned (.int .i64 k) ∧ w' = w := by
  go_enter Try.func11, Try.ntmps11
  go_wp2
  go_loopw [1, 5] (fun q i wr => q = .int .i64 k ∧ i = .int .i64 0 ∧ wr = w) (fun _ _ _ => 0)
  case atStart => exact ⟨rfl, rfl, rfl⟩
  case round =>
    obtain ⟨rfl, rfl, rfl⟩ := hrel
    go_wp2
    go_ret
    exact ⟨rfl, rfl⟩

theorem markLiteralS_nil (k : Int) (w : World) : Calls Try.prog 18 #[.slice none 0 0, .int .i64 k] w fun e w' => e = .returned (.int .i64 k) ∧ w' = w := by
  go_enter Try.func18, Try.ntmps18
  go_wp2
  go_loopw [1, 5] (fun q i wr => q = .int .i64 k ∧ i = .int .i64 0 ∧ wr = w) (fun _ _ _ => 0)
  case atStart => exact ⟨rfl, rfl, rfl⟩
  case round =>
    obtain ⟨rfl, rfl, rfl⟩ := hrel
    go_wp2
    go_ret
    exact ⟨rfl, rfl⟩

theorem heldDeclS_nil (k : Int) (w : World) : Calls Try.prog 13 #[.slice none 0 0, .int .i64 k] w fun e w' => e = .returned (.int .i64 k) ∧ w' = w := by
  go_enter Try.func13, Try.ntmps13
  go_wp2
  go_loopw [1, 5] (fun q i wr => q = .int .i64 k ∧ i = .int .i64 0 ∧ wr = w) (fun _ _ _ => 0)
  case atStart => exact ⟨rfl, rfl, rfl⟩
  case round =>
    obtain ⟨rfl, rfl, rfl⟩ := hrel
    go_wp2
    go_ret
    exact ⟨rfl, rfl⟩

theorem heldLiteralS_nil (k : Int) (w : World) : Calls Try.prog 19 #[.slice none 0 0, .int .i64 k] w fun e w' => e = .returned (.int .i64 k) ∧ w' = w := by
  go_enter Try.func19, Try.ntmps19
  go_wp2
  go_loopw [1, 5] (fun q i wr => q = .int .i64 k ∧ i = .int .i64 0 ∧ wr = w) (fun _ _ _ => 0)
  case atStart => exact ⟨rfl, rfl, rfl⟩
  case round =>
    obtain ⟨rfl, rfl, rfl⟩ := hrel
    go_wp2
    go_ret
    exact ⟨rfl, rfl⟩

theorem kundrew {B : Nat} {w w' : World} (h : Below B w.drew w') : Below B w w' := ⟨h.os, h.tape, h.output, h.size, h.block⟩

/-- A row of one scope that holds a number and no literals. -/
def One (w : World) (b : Nat) (x : Int) : Prop := w.heap[b]? = some (.cells #[.int .i64 x, .slice none 0 0] 32 (0, 0))
theorem One.lt {w : World} {b : Nat} {x : Int} (h : One w b x) : b < w.heap.size := lt_of_block h
theorem One.c0 {w : World} {b : Nat} {x : Int} (h : One w b x) : w.cell? ⟨b, 0, none⟩ = some (.int .i64 x) := by rw [cell_of_row w b 0 _ _ _ h]; rfl
theorem One.c1 {w : World} {b : Nat} {x : Int} (h : One w b x) : w.cell? ⟨b, 1, none⟩ = some (.slice none 0 0) := by rw [cell_of_row w b 1 _ _ _ h]; rfl
theorem One.free {w : World} {b : Nat} {x : Int} (h : One w b x) (i : Nat) : w.frozen? ⟨b, i, none⟩ = false := frozen_of_row w b i _ _ h
theorem One.later {w w' : World} {b B : Nat} {x : Int} (h : One w b x) (hb : Below B w w') (hl : b < B) : One w' b x := by
  unfold One
  rw [hb.block b hl]; exact h

theorem eqScope_any (x : Int) (w : World) : Calls Try.prog 16 #[.agg #[.int .i64 x, .slice none 0 0], .agg #[.int .i64 x, .slice none 0 0]] w fun e w' => e = .returned (.bool true) ∧ Below w.heap.size w w' := by
  have hx : (x != x) = false := by simp
  go_enter Try.func16, Try.ntmps16
  go_wp2_with fail
  refine Calls.mono (eqLiteralS_nil _) ?_
  rintro e w1 ⟨rfl, rfl⟩
  go_wp2_with fail
  go_ret
  exact ⟨rfl, ((Below.refl _ _).alloc (Nat.le_refl _) _).alloc (by simp) _⟩

theorem eqScopeS_one (b d : Nat) (x : Int) (w : World) (h1 : One w b x) (h2 : One w d x) : Calls Try.prog 10 #[.slice (some ⟨b, 0, none⟩) 1 1, .slice (some ⟨d, 0, none⟩) 1 1] w fun e w' => e = .returned (.bool true) ∧ Below w.heap.size w w' := by
  go_enter Try.func10, Try.ntmps10
  go_wp2
  go_loopw [5] (fun i wr => (i = .int .i64 0 ∨ i = .int .i64 1) ∧ Below w.heap.size w wr) (fun i _ => 1 - (intOf i).toNat)
  case atStart => exact ⟨.inl rfl, Below.refl _ _⟩
  case round =>
    obtain ⟨rfl | rfl, hb⟩ := hrel
    · have q1 := h1.later hb h1.lt
      have q2 := h2.later hb h2.lt
      have a0 := q1.c0
      have a1 := q1.c1
      have b0 := q2.c0
      have b1 := q2.c1
      have HQ := kide (fun u => eqScope_any x u)
      have HB := kide hb
      have l1 := q1.lt
      have l2 := q2.lt
      clear q1 q2 h1 h2 hb
      go_wp2_with fail
      go_region_held3 (fun u => u.cell? ⟨b, 0, none⟩ = some (Value.int .i64 x) ∧ u.cell? ⟨b, 1, none⟩ = some (Value.slice none 0 0) ∧ u.cell? ⟨d, 0, none⟩ = some (Value.int .i64 x) ∧ u.cell? ⟨d, 1, none⟩ = some (Value.slice none 0 0)) (simp [*])
        ((go_at_call 16; refine Calls.mono (HQ.out _) ?_; rintro e w1 ⟨rfl, hb1⟩; replace hb1 := kundrew hb1; have k0 := kcell hb1 b 0 l1; have k1 := kcell hb1 b 1 l1; have j0 := kcell hb1 d 0 l2; have j1 := kcell hb1 d 1 l2))
      go_wp2_with fail
      go_roundw
      case rel => exact ⟨.inr rfl, HB.out.trans (hb1.mono HB.out.size)⟩
      case measure => simp [intOf]
    · go_wp2
      go_ret
      exact ⟨rfl, hb⟩

theorem One.put {w : World} {b : Nat} {x : Int} (h : One w b x) (y : Int) : One (w.setCell ⟨b, 0, none⟩ (.int .i64 y)) b y := by
  unfold One
  rw [heap_setCell_same w b 0 _ _ _ h]
  rfl

theorem markScopeS_one (b : Nat) (x : Int) (w : World) (h : One w b x) : Calls Try.prog 12 #[.slice (some ⟨b, 0, none⟩) 1 1, .int .i64 1] w fun e w' => e = .returned (.int .i64 2) ∧ w' = w.setCell ⟨b, 0, none⟩ (.int .i64 1) := by
  go_enter Try.func12, Try.ntmps12
  go_wp2
  go_loopw [1, 5] (fun q i wr => q = .int .i64 1 ∧ i = .int .i64 0 ∧ wr = w ∨ q = .int .i64 2 ∧ i = .int .i64 1 ∧ wr = w.setCell ⟨b, 0, none⟩ (.int .i64 1)) (fun _ i _ => 1 - (intOf i).toNat)
  case atStart => exact .inl ⟨rfl, rfl, rfl⟩
  case round =>
    rcases hrel with ⟨rfl, rfl, rfl⟩ | ⟨rfl, rfl, rfl⟩
    · have a0 := h.c0
      have f0 := h.free 0
      have a1 := (h.put 1).c1
      have l0 := h.lt
      clear h
      go_wp2_with (go_at_call 18; refine Calls.mono (markLiteralS_nil _ _) ?_; rintro e w1 ⟨rfl, rfl⟩)
      go_roundw
      case rel => first | exact .inr ⟨rfl, rfl, rfl⟩ | simp
      case measure => simp [intOf]
    · go_wp2
      go_ret
      exact ⟨rfl, rfl⟩

theorem heldScopeS_one (b : Nat) (w : World) (h : One w b 1) : Calls Try.prog 14 #[.slice (some ⟨b, 0, none⟩) 1 1, .int .i64 1] w fun e w' => e = .returned (.int .i64 2) ∧ w' = w := by
  go_enter Try.func14, Try.ntmps14
  go_wp2
  go_loopw [1, 5] (fun q i wr => (q = .int .i64 1 ∧ i = .int .i64 0 ∨ q = .int .i64 2 ∧ i = .int .i64 1) ∧ wr = w) (fun _ i _ => 1 - (intOf i).toNat)
  case atStart => exact ⟨.inl ⟨rfl, rfl⟩, rfl⟩
  case round =>
    obtain ⟨⟨rfl, rfl⟩ | ⟨rfl, rfl⟩, rfl⟩ := hrel
    · have a0 := h.c0
      have a1 := h.c1
      clear h
      go_wp2_with (go_at_call 19; refine Calls.mono (heldLiteralS_nil _ _) ?_; rintro e w1 ⟨rfl, rfl⟩)
      go_roundw
      case rel => first | exact ⟨.inr ⟨rfl, rfl⟩, rfl⟩ | simp
      case measure => simp [intOf]
    · go_wp2
      go_ret
      exact ⟨rfl, rfl⟩

/-- A session as it is told: no variables, a row of one scope, a number. -/
def Sv (b : Nat) : Value := .agg #[.slice none 0 0, .slice (some ⟨b, 0, none⟩) 1 1, .int .i64 1]

theorem eqSession_one (b d : Nat) (x : Int) (w : World) (h1 : One w b x) (h2 : One w d x) : Calls Try.prog 6 #[Sv b, Sv d] w fun e w' => e = .returned (.bool true) ∧ Below w.heap.size w w' := by
  unfold Sv
  have HB := kide (((Below.refl w.heap.size w).alloc (Nat.le_refl _) (.cells #[.slice none 0 0, .slice (some ⟨b, 0, none⟩) 1 1, .int .i64 1] 25)).alloc (by simp) (.cells #[.slice none 0 0, .slice (some ⟨d, 0, none⟩) 1 1, .int .i64 1] 25))
  have HQ := kide (eqScopeS_one b d x _ (h1.later HB.out h1.lt) (h2.later HB.out h2.lt))
  clear h1 h2
  go_enter Try.func6, Try.ntmps6
  go_wp2_with fail
  refine Calls.mono (eqDeclS_nil _) ?_
  rintro e w1 ⟨rfl, rfl⟩
  go_wp2_with fail
  refine Calls.mono HQ.out ?_
  rintro e w2 ⟨rfl, hb2⟩
  have c1 := kcell hb2 w.heap.size 2 (by simp; omega)
  have c2 := kcell hb2 (w.heap.size + 1) 2 (by simp)
  simp at c1 c2
  have HB2 := kide (HB.out.trans (hb2.mono HB.out.size))
  clear hb2
  go_wp2_with fail
  go_ret
  exact ⟨rfl, HB2.out⟩

end Go.Proofs.Ytlkdehgbppelkaa
