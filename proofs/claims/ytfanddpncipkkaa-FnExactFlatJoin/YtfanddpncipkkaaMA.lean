/- Contracts of the laws' own small functions on rows of segments: how long, compared, copied. -/
import Derived.Test.YtfanddpncipkkaaKA
import Derived.Test.YtfanddpncipkkaaZFA
namespace Go.Proofs.Ytfanddpncipkkaa
set_option linter.unusedVariables false
set_option linter.unusedSimpArgs false
open Go.RowKit

/-- A segment as it lies. -/
structure Sh where
  v : Int
  lo : Int
  wd : Int
  bw : Int
  a : Option Addr
  n : Nat
  c : Nat

def ShAt (w : World) (b o : Nat) (h : Sh) : Prop :=
  w.cell? ⟨b, o, none⟩ = some (.int .i64 h.v) ∧ w.cell? ⟨b, o + 1, none⟩ = some (.int .i64 h.lo) ∧ w.cell? ⟨b, o + 2, none⟩ = some (.int .i64 h.wd) ∧ w.cell? ⟨b, o + 3, none⟩ = some (.int .i64 h.bw) ∧ w.cell? ⟨b, o + 4, none⟩ = some (.slice h.a h.n h.c)

theorem ShAt.later {w w' : World} {b o : Nat} {h : Sh} (k : ShAt w b o h) (hb : Below w.heap.size w w') : ShAt w' b o h := by
  obtain ⟨f0, f1, f2, f3, f4⟩ := k
  have l := block_lt_of_cell f0
  exact ⟨by rw [kcell hb _ _ l]; exact f0, by rw [kcell hb _ _ l]; exact f1, by rw [kcell hb _ _ l]; exact f2, by rw [kcell hb _ _ l]; exact f3, by rw [kcell hb _ _ l]; exact f4⟩

def RdSh (w : World) (a : Option Addr) (hs : List Sh) : Prop :=
  hs.length ≤ 1048576 ∧ (hs = [] ∨ ∃ b o, a = some ⟨b, o, none⟩ ∧ ∀ i h, hs[i]? = some h → ShAt w b (o + i * 5) h ∧ h.n ≤ 9223372036854775807)

theorem RdSh.later {w w' : World} {a : Option Addr} {hs : List Sh} (h : RdSh w a hs) (hb : Below w.heap.size w w') : RdSh w' a hs := by
  refine ⟨h.1, ?_⟩
  rcases h.2 with h | ⟨b, o, rfl, hc⟩
  · exact .inl h
  · exact .inr ⟨b, o, rfl, fun i x hi => ⟨(hc i x hi).1.later hb, (hc i x hi).2⟩⟩

theorem szSeg_any (h : Sh) (L : Int) (w : World) (hL : 0 ≤ L) (hL2 : L ≤ 1048576) (hn : h.n ≤ 9223372036854775807) :
    Calls Try.prog 23 #[.agg #[.int .i64 h.v, .int .i64 h.lo, .int .i64 h.wd, .int .i64 h.bw, .slice h.a h.n h.c], .int .i64 L] w fun e w' => e = .returned (.int .i64 (if (h.n : Int) ≤ L then L - h.n else -1)) ∧ Below w.heap.size w w' := by
  obtain ⟨v, lo, wd, bw, a, n, c⟩ := h
  simp only [] at hn ⊢
  have hb0 : Below w.heap.size w (w.alloc (Obj.cells #[Value.int .i64 v, Value.int .i64 lo, Value.int .i64 wd, Value.int .i64 bw, Value.slice a n c] 54)) := (Below.refl _ _).alloc (Nat.le_refl _) _
  have B0 := kide hb0
  clear hb0
  by_cases h : (n : Int) ≤ L
  · rw [if_pos h]
    go_enter Try.func23, Try.ntmps23
    go_wp2_with (go_at_call 48; refine (szBits_yes _ _ _ _ _ _ hL hL2 hn h).mono ?_; rintro e w1 ⟨rfl, hb1⟩)
    go_ret
    exact ⟨rfl, B0.out.trans (hb1.mono (by simp))⟩
  · rw [if_neg h]
    have HY := kide h
    go_enter Try.func23, Try.ntmps23
    go_wp2_with (go_at_call 48; refine (szBits_no _ _ _ _ _ _ hL hL2 hn HY.out).mono ?_; rintro e w1 ⟨rfl, hb1⟩)
    go_ret
    exact ⟨rfl, B0.out.trans (hb1.mono (by simp))⟩

end Go.Proofs.Ytfanddpncipkkaa
