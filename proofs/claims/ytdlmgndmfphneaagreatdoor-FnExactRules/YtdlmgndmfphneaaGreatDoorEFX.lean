/- A row of whole numbers that lies between two blocks: read, marked, kept. -/
import Derived.Test.YtdlmgndmfphneaaGreatDoorZGAU
namespace Go.Proofs.YtdlmgndmfphneaaGreatDoor
set_option linter.unusedVariables false
set_option linter.unusedSimpArgs false
open Go.RowKit

/-- The row bears the marks from 1 on. -/
def MkI (w : World) (a : Option Addr) (n : Nat) : Prop := n = 0 ∨ ∃ g, a = some ⟨g, 0, none⟩ ∧ ∀ i, i < n → w.cell? ⟨g, i, none⟩ = some (.int .i64 ((1 + i : Nat) : Int))

theorem MkI.later {w w' : World} {a : Option Addr} {n : Nat} (h : MkI w a n) (hb : Below w.heap.size w w') : MkI w' a n := by
  rcases h with h | ⟨g, rfl, hc⟩
  · exact .inl h
  · exact .inr ⟨g, rfl, fun i hi => by rw [kcell hb _ _ (block_lt_of_cell (hc i hi))]; exact hc i hi⟩

theorem heldInt64S_mk (a : Option Addr) (c n : Nat) (w : World) (hm : MkI w a n) (hn : n ≤ 64000000) :
    Calls Tryz.prog 17 #[.slice a n c, .int .i64 1] w fun e w' => e = .returned (.int .i64 ((1 + n : Nat) : Int)) ∧ w' = w := by
  go_enter Tryz.func17, Tryz.ntmps17
  go_wp2_with fail
  go_loop [1, 5] (fun q i => ∃ j : Nat, j ≤ n ∧ i = .int .i64 (j : Int) ∧ q = .int .i64 ((1 + j : Nat) : Int)) (fun _ i => n - (intOf i).toNat)
  case atStart => exact ⟨0, Nat.zero_le _, rfl, by simp⟩
  case round =>
    obtain ⟨j, hj, rfl, rfl⟩ := hrel
    by_cases hlt : j < n
    · rcases hm with h | ⟨g, rfl, hc⟩
      · omega
      have e0 := hc j (by omega)
      generalize hK : 1 + j = K at *
      have HK := kide hK
      have hKb : K ≤ 300000000 := by omega
      have n0 : ((K : Int) != (K : Int)) = false := by simp
      have i0 : (j : Int) < (n : Int) := by omega
      clear hc hK
      go_wp2_with fail
      go_round
      case rel => exact ⟨j + 1, by omega, by go_num, by rw [show 1 + (j + 1) = K + 1 by have := HK.out; omega]; first | go_num | (congr 1; push_cast; omega) | (simp; omega)⟩
      case measure => simp [intOf]; omega
    · have e : j = n := by omega
      subst e
      clear hm
      go_wp2_with fail
      go_ret
      exact ⟨rfl, rfl⟩

theorem markInt64S_row (g c n N : Nat) (f : Nat → Value) (w : World) (hr : w.rowIs g 2 N f) (hN : n ≤ N) (hn : n ≤ 64000000) :
    Calls Tryz.prog 16 #[.slice (some ⟨g, 0, none⟩) n c, .int .i64 1] w fun e w' => e = .returned (.int .i64 ((1 + n : Nat) : Int)) ∧ MkI w' (some ⟨g, 0, none⟩) n ∧ w.grownBy w' (some g) := by
  go_enter Tryz.func16, Tryz.ntmps16
  go_wp2_with fail
  go_loopw [1, 5] (fun q i wr => ∃ (j : Nat) (f' : Nat → Value), j ≤ n ∧ i = .int .i64 (j : Int) ∧ q = .int .i64 ((1 + j : Nat) : Int) ∧ wr.rowIs g 2 N f' ∧ (∀ i, i < j → f' i = .int .i64 ((1 + i : Nat) : Int)) ∧ w.grownBy wr (some g)) (fun _ i _ => n - (intOf i).toNat)
  case atStart => exact ⟨0, f, Nat.zero_le _, rfl, by simp, hr, fun i h => by omega, ⟨rfl, rfl, rfl, Nat.le_refl _, fun _ _ _ => rfl⟩⟩
  case round =>
    obtain ⟨j, f', hj, rfl, rfl, hrow, hf, hg⟩ := hrel
    by_cases hlt : j < n
    · have q0 := hrow.cell (i := j) (by omega)
      have r0 := hrow.frozen j
      generalize hK : 1 + j = K at *
      have HK := kide hK
      have hKb : K ≤ 300000000 := by omega
      have i0 : (j : Int) < (n : Int) := by omega
      have HRW := kide hrow
      have HF := kide hf
      have HG := kide hg
      clear hrow hf hg hK
      go_wp2_with fail
      go_roundw
      case rel =>
        refine ⟨j + 1, _, by omega, by go_num, ?_, World.rowIs.set HRW.out j (.int .i64 (K : Int)), fun i hi => ?_, ?_⟩
        · rw [show 1 + (j + 1) = K + 1 by have := HK.out; omega]
          first | go_num | (congr 1; push_cast; omega) | (simp; omega)
        · show (if _ then _ else _) = _
          have hKK := HK.out
          by_cases h0 : i = j
          · rw [if_pos h0]
            congr 1
            omega
          · rw [if_neg h0]
            exact HF.out i (by omega)
        · exact grow_set HG.out j _
      case measure => simp [intOf]; omega
    · have e : j = n := by omega
      subst e
      have HRW := kide hrow
      have HF := kide hf
      have HG := kide hg
      clear hrow hf hg
      go_wp2_with fail
      go_ret
      exact ⟨rfl, .inr ⟨g, rfl, fun i hi => by rw [← HF.out i hi]; exact World.rowIs.cell HRW.out (by omega)⟩, HG.out⟩

/-- The row lies between two blocks, and may be written. -/
def HoldI (w : World) (lo hi : Nat) (a : Option Addr) (n : Nat) (ss : List Int) : Prop := ss.length = n ∧ n ≤ 1048576 ∧ (∀ x ∈ ss, in64 x) ∧ (n = 0 ∨ ∃ g N f, a = some ⟨g, 0, none⟩ ∧ lo ≤ g ∧ g < hi ∧ g < w.heap.size ∧ n ≤ N ∧ w.rowIs g 2 N f ∧ ∀ i, i < n → w.cell? ⟨g, i, none⟩ = some (.int .i64 (ss.getD i 0)))

theorem OW.hold {w : World} {B : Nat} {v : Value} {ss : List Int} (h : OW w B v ss) (hl : ss.length ≤ 1048576) (hx : ∀ x ∈ ss, in64 x) : ∃ a c, v = .slice a ss.length c ∧ HoldI w B w.heap.size a ss.length ss := by
  have hcells := fun g hg => World.ownsRow.cells h (g := g) hg
  rcases h.2 with ⟨rfl, hn⟩ | ⟨g, cap, cur, rfl, hB, hh, hcap, -, hsz, -⟩
  · exact ⟨none, 0, by rw [hn], rfl, hl, hx, .inl hn⟩
  · have hlt : g < w.heap.size := lt_of_block hh
    refine ⟨some ⟨g, 0, none⟩, cap, rfl, rfl, hl, hx, .inr ⟨g, cap * 1, fun i => cur.getD i (.int .i64 0), rfl, hB, hlt, hlt, by omega, ⟨cur, hh, hsz, fun i hi => ?_⟩, fun i hi => ?_⟩⟩
    · have hi' : i < cur.size := by omega
      rw [Array.getElem?_eq_getElem hi']
      simp [Array.getD, hi']
    · have c0 := hcells g rfl i (.int .i64 (ss.getD i 0)) (by simp [List.getD, hi])
      rw [Addr.add_lit] at c0
      simpa using c0

theorem HoldI.rd {w : World} {lo hi n : Nat} {a : Option Addr} {ss : List Int} (h : HoldI w lo hi a n ss) : RdI w a ss := by
  obtain ⟨h1, h2, hx, h3⟩ := h
  refine ⟨by omega, hx, ?_⟩
  rcases h3 with h3 | ⟨g, N, f, rfl, -, -, -, -, -, h⟩
  · exact .inl (List.eq_nil_of_length_eq_zero (by omega))
  · exact .inr ⟨g, 0, rfl, fun i hi => by have := h i (by omega); simpa using this⟩

theorem HoldI.out {w w' : World} {lo hi n B1 B2 : Nat} {a : Option Addr} {ss : List Int} (h : HoldI w lo hi a n ss) (ho : Out B1 B2 w w') (hd : hi ≤ B1 ∨ B2 ≤ lo) : HoldI w' lo hi a n ss := by
  obtain ⟨h1, h2, hx, h3⟩ := h
  refine ⟨h1, h2, hx, ?_⟩
  rcases h3 with h3 | ⟨g, N, f, rfl, q1, q2, q3, q4, q5, q6⟩
  · exact .inl h3
  · have hk : g < B1 ∨ B2 ≤ g := by omega
    exact .inr ⟨g, N, f, rfl, q1, q2, Nat.lt_of_lt_of_le q3 ho.2.2.2.1, q4, World.rowIs.of_block q5 (ho.2.2.2.2 g q3 hk), fun i hi => by rw [ho.cell q3 hk]; exact q6 i hi⟩

theorem HoldI.later {w w' : World} {lo hi n : Nat} {a : Option Addr} {ss : List Int} (h : HoldI w lo hi a n ss) (hb : Below w.heap.size w w') : HoldI w' lo hi a n ss := h.out (Out.ofB (B1 := hi) (B2 := hi) hb) (.inl (Nat.le_refl _))

theorem eqInt64S_hold (a b : Option Addr) (c d n lo hi lo' hi' : Nat) (ss : List Int) (w : World) (hr : HoldI w lo hi a n ss) (hs : HoldI w lo' hi' b n ss) :
    Calls Tryz.prog 11 #[.slice a n c, .slice b n d] w fun e w' => e = .returned (.bool true) ∧ Below w.heap.size w w' := by
  have h := eqInt64S_any a b c d ss ss w hr.rd hs.rd
  rw [hr.1] at h
  simpa using h

theorem markInt64S_nil (a : Option Addr) (c : Nat) (w : World) :
    Calls Tryz.prog 16 #[.slice a 0 c, .int .i64 1] w fun e w' => e = .returned (.int .i64 1) ∧ w' = w := by
  go_enter Tryz.func16, Tryz.ntmps16
  go_wp2_with fail
  go_loopw [1, 5] (fun q i wr => q = .int .i64 1 ∧ i = .int .i64 0 ∧ wr = w) (fun _ _ _ => 0)
  case atStart => exact ⟨rfl, rfl, rfl⟩
  case round =>
    obtain ⟨rfl, rfl, rfl⟩ := hrel
    go_wp2_with fail
    go_ret
    exact ⟨rfl, rfl⟩

theorem markInt64S_hold (a : Option Addr) (c n lo hi : Nat) (ss : List Int) (w : World) (hr : HoldI w lo hi a n ss) :
    Calls Tryz.prog 16 #[.slice a n c, .int .i64 1] w fun e w' => e = .returned (.int .i64 ((1 + n : Nat) : Int)) ∧ MkI w' a n ∧ Out lo hi w w' := by
  obtain ⟨h1, h2, -, h3⟩ := hr
  rcases h3 with rfl | ⟨g, N, f, rfl, q1, q2, q3, q4, q5, q6⟩
  · refine Calls.mono (markInt64S_nil a c w) ?_
    rintro e w' ⟨rfl, rfl⟩
    exact ⟨rfl, .inl rfl, Out.refl _ _ _⟩
  · refine Calls.mono (markInt64S_row g c n N f w q5 q4 (by omega)) ?_
    rintro e w' ⟨rfl, hm, hg⟩
    exact ⟨rfl, hm, Out.grown hg q1 q2⟩

end Go.Proofs.YtdlmgndmfphneaaGreatDoor
