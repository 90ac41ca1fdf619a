/- A row of slices that lies between two blocks: read, marked, kept. -/
import Derived.Test.YticpjfdnpdfmeaaOC
import Derived.Test.YticpjfdnpdfmeaaOG
namespace Go.Proofs.Yticpjfdnpdfmeaa
set_option linter.unusedVariables false
set_option linter.unusedSimpArgs false
open Go.RowKit

/-- The row lies between two blocks, and may be written. -/
def HoldS (w : World) (lo hi : Nat) (a : Option Addr) (n : Nat) (ss : List Sl) : Prop := ss.length = n ∧ n ≤ 64000000 ∧ (n = 0 ∨ ∃ g N f, a = some ⟨g, 0, none⟩ ∧ lo ≤ g ∧ g < hi ∧ g < w.heap.size ∧ n * 3 ≤ N ∧ w.rowIs g 86 N f ∧ ∀ i s, ss[i]? = some s → SlAt w g (i * 3) s)

theorem OS.hold {w : World} {B : Nat} {v : Value} {ss : List Sl} (h : OS w B v ss) (hl : ss.length ≤ 64000000) : ∃ a c, v = .slice a ss.length c ∧ HoldS w B w.heap.size a ss.length ss := by
  have hcells := fun g hg => World.ownsRow.cells h (g := g) hg
  rcases h.2 with ⟨rfl, hn⟩ | ⟨g, cap, cur, rfl, hB, hh, hcap, -, hsz, -⟩
  · exact ⟨none, 0, by rw [hn], rfl, hl, .inl hn⟩
  · have hlt : g < w.heap.size := lt_of_block hh
    refine ⟨some ⟨g, 0, none⟩, cap, rfl, rfl, hl, .inr ⟨g, cap * 3, fun i => cur.getD i (.int .i64 0), rfl, hB, hlt, hlt, by omega, ⟨cur, hh, hsz, fun i hi => ?_⟩, fun i s hi => ?_⟩⟩
    · simp [Array.getD, hsz, hi]
    · obtain ⟨g0, g1, g2⟩ := scs_get hi
      have c0 := hcells g rfl _ _ g0
      have c1 := hcells g rfl _ _ g1
      have c2 := hcells g rfl _ _ g2
      rw [Addr.add_lit] at c0 c1 c2
      refine ⟨?_, ?_, ?_⟩
      · simpa using c0
      · simpa using c1
      · simpa using c2

theorem HoldS.rd {w : World} {lo hi n : Nat} {a : Option Addr} {ss : List Sl} (h : HoldS w lo hi a n ss) : RdL w a ss := by
  obtain ⟨h1, h2, h3⟩ := h
  refine ⟨by omega, ?_⟩
  rcases h3 with h3 | ⟨g, N, f, rfl, -, -, -, -, -, h⟩
  · exact .inl (List.eq_nil_of_length_eq_zero (by omega))
  · exact .inr ⟨g, 0, rfl, fun i s hi => by have := h i s hi; simpa using this⟩

theorem HoldS.out {w w' : World} {lo hi n B1 B2 : Nat} {a : Option Addr} {ss : List Sl} (h : HoldS w lo hi a n ss) (ho : Out B1 B2 w w') (hd : hi ≤ B1 ∨ B2 ≤ lo) : HoldS w' lo hi a n ss := by
  obtain ⟨h1, h2, h3⟩ := h
  refine ⟨h1, h2, ?_⟩
  rcases h3 with h3 | ⟨g, N, f, rfl, q1, q2, q3, q4, q5, q6⟩
  · exact .inl h3
  · have hk : g < B1 ∨ B2 ≤ g := by omega
    refine .inr ⟨g, N, f, rfl, q1, q2, Nat.lt_of_lt_of_le q3 ho.2.2.2.1, q4, World.rowIs.of_block q5 (ho.2.2.2.2 g q3 hk), fun i s hi => ?_⟩
    obtain ⟨e0, e1, e2⟩ := q6 i s hi
    exact ⟨by rw [ho.cell q3 hk]; exact e0, by rw [ho.cell q3 hk]; exact e1, by rw [ho.cell q3 hk]; exact e2⟩

theorem HoldS.later {w w' : World} {lo hi n : Nat} {a : Option Addr} {ss : List Sl} (h : HoldS w lo hi a n ss) (hb : Below w.heap.size w w') : HoldS w' lo hi a n ss := h.out (Out.below (B1 := hi) (B2 := hi) hb) (.inl (Nat.le_refl _))

theorem Bq.out {w wk w' : World} {v : Value} {t : TypeId} {B1 B2 : Nat} (h : Bq w v t wk) (ho : Out B1 B2 wk w') (h1 : w.heap.size + 1 ≤ B1) : Bq w v t w' :=
  Below.trans h ⟨ho.1, ho.2.1, ho.2.2.1, ho.2.2.2.1, fun k hk => ho.2.2.2.2 k (Nat.lt_of_lt_of_le hk h.size) (.inl (Nat.lt_of_lt_of_le hk h1))⟩

theorem WrI.out {w w' : World} {B1 B2 C1 C2 : Nat} {x : Iw} (h : WrI w B1 B2 x) (ho : Out C1 C2 w w') (hd : C2 ≤ B1 ∨ B2 ≤ C1) : WrI w' B1 B2 x := by
  rcases h with h | ⟨g2, ys, h1, h2, h3, h4, h5⟩
  · exact .inl h
  · refine .inr ⟨g2, ys, h1, h2, h3, ?_, h5⟩
    unfold OwnI
    rw [ho.2.2.2.2 g2 h4.lt (by omega)]
    exact h4

theorem eqSliceS_hold (a b : Option Addr) (c d n lo hi lo' hi' : Nat) (ss : List Sl) (w : World) (hr : HoldS w lo hi a n ss) (hs : HoldS w lo' hi' b n ss) :
    Calls Try.prog 25 #[.slice a n c, .slice b n d] w fun e w' => e = .returned (.bool true) ∧ Below w.heap.size w w' := by
  have h := eqSliceS_same a b c d ss w hr.rd hs.rd
  rwa [hr.1] at h

set_option maxHeartbeats 1000000 in
theorem markSliceS_nil (a : Option Addr) (c : Nat) (w : World) :
    Calls Try.prog 28 #[.slice a 0 c, .int .i64 1] w fun e w' => e = .returned (.int .i64 1) ∧ w' = w := by
  go_enter Try.func28, Try.ntmps28
  go_wp2_with fail
  go_loopw [1, 5] (fun q i wr => q = .int .i64 1 ∧ i = .int .i64 0 ∧ wr = w) (fun _ _ _ => 0)
  case atStart => exact ⟨rfl, rfl, rfl⟩
  case round =>
    obtain ⟨rfl, rfl, rfl⟩ := hrel
    go_wp2_with fail
    go_ret
    exact ⟨rfl, rfl⟩

theorem markSliceS_hold (a : Option Addr) (c n lo hi : Nat) (ss : List Sl) (w : World) (hr : HoldS w lo hi a n ss) :
    Calls Try.prog 28 #[.slice a n c, .int .i64 1] w fun e w' => e = .returned (.int .i64 ((1 + n * 3 : Nat) : Int)) ∧ MkS w' a n 1 ∧ Out lo hi w w' := by
  obtain ⟨h1, h2, h3⟩ := hr
  rcases h3 with rfl | ⟨g, N, f, rfl, q1, q2, q3, q4, q5, q6⟩
  · refine Calls.mono (markSliceS_nil a c w) ?_
    rintro e w' ⟨rfl, rfl⟩
    exact ⟨rfl, .inl rfl, Out.refl _ _ _⟩
  · refine Calls.mono (markSliceS_any g c n 1 N f w q5 q4 h2 (by omega)) ?_
    rintro e w' ⟨rfl, hm, hg⟩
    exact ⟨rfl, hm, Out.grown hg q1 q2⟩

theorem heldSliceS_hold (a : Option Addr) (c n : Nat) (w : World) (hm : MkS w a n 1) (hn : n ≤ 64000000) :
    Calls Try.prog 29 #[.slice a n c, .int .i64 1] w fun e w' => e = .returned (.int .i64 ((1 + n * 3 : Nat) : Int)) ∧ w' = w := heldSliceS_any a c n 1 w hm hn (by omega)

theorem markDeclS_one (g c n : Nat) (f : Nat → Value) (w : World) (hr : w.rowIs g 76 (n * 2) f) (hn : n ≤ 1048576) :
    Calls Try.prog 26 #[.slice (some ⟨g, 0, none⟩) n c, .int .i64 1] w fun e w' => e = .returned (.int .i64 ((1 + n * 2 : Nat) : Int)) ∧ Out g (g + 1) w w' := by
  refine Calls.mono (markDeclS_any g c n 1 f w hr hn (by omega)) ?_
  rintro e w' ⟨rfl, hg⟩
  exact ⟨rfl, Out.grown hg (Nat.le_refl _) (Nat.lt_succ_self _)⟩

end Go.Proofs.Yticpjfdnpdfmeaa
