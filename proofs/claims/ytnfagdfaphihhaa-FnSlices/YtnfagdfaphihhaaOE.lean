/- Contracts of the laws' own small functions on rows of slices: compared, marked, held. -/
import Derived.Test.YtnfagdfaphihhaaOA
namespace Go.Proofs.Ytnfagdfaphihhaa
set_option linter.unusedVariables false
set_option linter.unusedSimpArgs false
open Go.RowKit

def SlAt (w : World) (b o : Nat) (s : Sl) : Prop := w.cell? ⟨b, o, none⟩ = some (.int .i64 s.1) ∧ w.cell? ⟨b, o + 1, none⟩ = some (.int .i64 s.2.1) ∧ w.cell? ⟨b, o + 2, none⟩ = some (.int .i64 s.2.2)
theorem SlAt.later {w w' : World} {b o : Nat} {s : Sl} (h : SlAt w b o s) (hb : Below w.heap.size w w') : SlAt w' b o s := by
  have l := block_lt_of_cell h.1
  exact ⟨by rw [kcell hb _ _ l]; exact h.1, by rw [kcell hb _ _ l]; exact h.2.1, by rw [kcell hb _ _ l]; exact h.2.2⟩

/-- A slice whose elements are ss, wherever it lies. -/
def RdL (w : World) (a : Option Addr) (ss : List Sl) : Prop := ss.length ≤ 1073741824 ∧ (ss = [] ∨ ∃ b o, a = some ⟨b, o, none⟩ ∧ ∀ i s, ss[i]? = some s → SlAt w b (o + i * 3) s)

theorem scs_get {ss : List Sl} {i : Nat} {s : Sl} (h : ss[i]? = some s) : (scs ss)[i * 3]? = some (.int .i64 s.1) ∧ (scs ss)[i * 3 + 1]? = some (.int .i64 s.2.1) ∧ (scs ss)[i * 3 + 2]? = some (.int .i64 s.2.2) := by
  induction ss generalizing i with
  | nil => simp at h
  | cons x t ih =>
    have e : scs (x :: t) = scl x ++ scs t := by simp [scs]
    rw [e]
    cases i with
    | zero =>
      simp at h
      subst h
      simp [scl]
    | succ i =>
      simp at h
      have := ih h
      have l3 : (scl x).length = 3 := rfl
      refine ⟨?_, ?_, ?_⟩
      · rw [List.getElem?_append_right (by rw [l3]; omega), l3, show (i + 1) * 3 - 3 = i * 3 by omega]; exact this.1
      · rw [List.getElem?_append_right (by rw [l3]; omega), l3, show (i + 1) * 3 + 1 - 3 = i * 3 + 1 by omega]; exact this.2.1
      · rw [List.getElem?_append_right (by rw [l3]; omega), l3, show (i + 1) * 3 + 2 - 3 = i * 3 + 2 by omega]; exact this.2.2

theorem OS.rd {w : World} {B : Nat} {v : Value} {ss : List Sl} (h : OS w B v ss) (hl : ss.length ≤ 1073741824) : ∃ a c, v = .slice a ss.length c ∧ RdL w a ss := by
  have hcells := fun g hg => World.ownsRow.cells h (g := g) hg
  rcases h.2 with ⟨rfl, hn⟩ | ⟨g, cap, cur, rfl, -, -, -⟩
  · exact ⟨none, 0, by rw [hn], hl, .inl (List.eq_nil_of_length_eq_zero hn)⟩
  · refine ⟨some ⟨g, 0, none⟩, cap, rfl, hl, .inr ⟨g, 0, rfl, fun i s hi => ?_⟩⟩
    obtain ⟨g0, g1, g2⟩ := scs_get hi
    have c0 := hcells g rfl _ _ g0
    have c1 := hcells g rfl _ _ g1
    have c2 := hcells g rfl _ _ g2
    rw [Addr.add_lit] at c0 c1 c2
    exact ⟨c0, by simpa [Nat.add_assoc] using c1, by simpa [Nat.add_assoc] using c2⟩

theorem eqSlice_same (s : Sl) (w : World) :
    Calls Try.prog 29 #[.agg #[.int .i64 s.1, .int .i64 s.2.1, .int .i64 s.2.2], .agg #[.int .i64 s.1, .int .i64 s.2.1, .int .i64 s.2.2]] w fun e w' => e = .returned (.bool true) ∧ Below w.heap.size w w' := by
  obtain ⟨v, lo, wd⟩ := s
  simp only []
  have h2 : Below w.heap.size w ((w.alloc (Obj.cells #[Value.int .i64 v, Value.int .i64 lo, Value.int .i64 wd] 36)).alloc (Obj.cells #[Value.int .i64 v, Value.int .i64 lo, Value.int .i64 wd] 36)) := ((Below.refl _ _).alloc (Nat.le_refl _) _).alloc (by simp) _
  have B2 := kide h2
  have e0 : (v != v) = false := by simp
  have e1 : (lo != lo) = false := by simp
  have e2 : (wd != wd) = false := by simp
  clear h2
  go_enter Try.func29, Try.ntmps29
  go_wp2_with fail
  go_ret
  exact ⟨rfl, B2.out⟩

theorem eqSliceS_same (a b : Option Addr) (c d : Nat) (ss : List Sl) (w : World) (hr : RdL w a ss) (hs : RdL w b ss) :
    Calls Try.prog 15 #[.slice a ss.length c, .slice b ss.length d] w fun e w' => e = .returned (.bool true) ∧ Below w.heap.size w w' := by
  have hl1 := hr.1
  have hne : ((ss.length : Int) != (ss.length : Int)) = false := by simp
  go_enter Try.func15, Try.ntmps15
  go_wp2_with fail
  clear hne
  go_loopw [5] (fun i wr => ∃ k : Nat, k ≤ ss.length ∧ i = .int .i64 k ∧ Below w.heap.size w wr) (fun i _ => ss.length - (intOf i).toNat)
  case atStart => exact ⟨0, Nat.zero_le _, rfl, Below.refl _ _⟩
  case round =>
    obtain ⟨k, hk, rfl, hbel⟩ := hrel
    have HB := kide hbel
    by_cases hlt : k < ss.length
    · obtain ⟨-, h | ⟨b1, o1, rfl, hc1⟩⟩ := hr
      · subst h; simp at hlt
      obtain ⟨-, h | ⟨b2, o2, rfl, hc2⟩⟩ := hs
      · subst h; simp at hlt
      obtain ⟨⟨v, lo, wd⟩, gx⟩ : ∃ x, ss[k]? = some x := ⟨ss[k], List.getElem?_eq_getElem hlt⟩
      obtain ⟨p0, p1, p2⟩ := (hc1 k _ gx).later hbel
      obtain ⟨q0, q1, q2⟩ := (hc2 k _ gx).later hbel
      have HEQ := kide (fun u => eqSlice_same (v, lo, wd) u)
      simp only [] at p0 p1 p2 q0 q1 q2 HEQ
      have l1 := block_lt_of_cell p0
      have l2 := block_lt_of_cell q0
      have i0 : (k : Int) < (ss.length : Int) := by omega
      clear hc1 hc2 hbel gx
      go_wp2_with fail
      go_region_held3 (fun u => u.cell? ⟨b1, o1 + k * 3, none⟩ = some (Value.int .i64 v) ∧ u.cell? ⟨b1, o1 + k * 3 + 1, none⟩ = some (Value.int .i64 lo) ∧ u.cell? ⟨b1, o1 + k * 3 + 2, none⟩ = some (Value.int .i64 wd) ∧ u.cell? ⟨b2, o2 + k * 3, none⟩ = some (Value.int .i64 v) ∧ u.cell? ⟨b2, o2 + k * 3 + 1, none⟩ = some (Value.int .i64 lo) ∧ u.cell? ⟨b2, o2 + k * 3 + 2, none⟩ = some (Value.int .i64 wd)) (simp [*])
        ((go_at_call 29; refine Calls.mono (HEQ.out _) ?_; rintro e w1 ⟨rfl, hb1⟩; replace hb1 := kundrew hb1; have k0 := kcell hb1 b1 (o1 + k * 3) l1; have k1 := kcell hb1 b1 (o1 + k * 3 + 1) l1; have k2 := kcell hb1 b1 (o1 + k * 3 + 2) l1; have j0 := kcell hb1 b2 (o2 + k * 3) l2; have j1 := kcell hb1 b2 (o2 + k * 3 + 1) l2; have j2 := kcell hb1 b2 (o2 + k * 3 + 2) l2))
      go_wp2_with fail
      go_roundw
      case rel => exact ⟨k + 1, by omega, by go_num, HB.out.trans (hb1.mono HB.out.size)⟩
      case measure => simp [intOf]; omega
    · clear hbel
      go_wp2_with fail
      go_ret
      exact ⟨rfl, HB.out⟩

theorem grow_set {w wr : World} {g : Nat} (h : w.grownBy wr (some g)) (i : Nat) (v : Value) : w.grownBy (wr.setCell ⟨g, i, none⟩ v) (some g) :=
  ⟨h.os, h.tape, h.output, by simpa using h.size, fun k hk hne => by rw [heap_setCell_other wr ⟨g, i, none⟩ k v (fun e => hne (by simp [e]))]; exact h.block k hk hne⟩

/-- The row bears the marks from k on. -/
def MkS (w : World) (a : Option Addr) (n k : Nat) : Prop := n = 0 ∨ ∃ g, a = some ⟨g, 0, none⟩ ∧ ∀ i, i < n * 3 → w.cell? ⟨g, i, none⟩ = some (.int .i64 ((k + i : Nat) : Int))

theorem MkS.later {w w' : World} {a : Option Addr} {n k : Nat} (h : MkS w a n k) (hb : Below w.heap.size w w') : MkS w' a n k := by
  rcases h with h | ⟨g, rfl, hc⟩
  · exact .inl h
  · exact .inr ⟨g, rfl, fun i hi => by rw [kcell hb _ _ (block_lt_of_cell (hc i hi))]; exact hc i hi⟩

theorem heldSliceS_any (a : Option Addr) (c n k : Nat) (w : World) (hm : MkS w a n k) (hn : n ≤ 64000000) (hk : k ≤ 1048576) :
    Calls Try.prog 21 #[.slice a n c, .int .i64 (k : Int)] w fun e w' => e = .returned (.int .i64 ((k + n * 3 : Nat) : Int)) ∧ w' = w := by
  go_enter Try.func21, Try.ntmps21
  go_wp2_with fail
  go_loop [1, 5] (fun q i => ∃ j : Nat, j ≤ n ∧ i = .int .i64 (j : Int) ∧ q = .int .i64 ((k + j * 3 : Nat) : Int)) (fun _ i => n - (intOf i).toNat)
  case atStart => exact ⟨0, Nat.zero_le _, rfl, by simp⟩
  case round =>
    obtain ⟨j, hj, rfl, rfl⟩ := hrel
    by_cases hlt : j < n
    · rcases hm with h | ⟨g, rfl, hc⟩
      · omega
      have e0 := hc (j * 3) (by omega)
      have e1 := hc (j * 3 + 1) (by omega)
      have e2 := hc (j * 3 + 2) (by omega)
      rw [show k + (j * 3 + 1) = k + j * 3 + 1 by omega] at e1
      rw [show k + (j * 3 + 2) = k + j * 3 + 1 + 1 by omega] at e2
      generalize hK : k + j * 3 = K at *
      have HK := kide hK
      have hKb : K ≤ 300000000 := by omega
      have e1' : w.cell? ⟨g, j * 3 + 1, none⟩ = some (.int .i64 ((K : Int) + 1)) := by rw [e1]; simp
      have e2' : w.cell? ⟨g, j * 3 + 2, none⟩ = some (.int .i64 ((K : Int) + 1 + 1)) := by rw [e2]; simp
      have n0 : ((K : Int) != (K : Int)) = false := by simp
      have n1 : ((K : Int) + 1 != (K : Int) + 1) = false := by simp
      have n2 : ((K : Int) + 1 + 1 != (K : Int) + 1 + 1) = false := by simp
      have i0 : (j : Int) < (n : Int) := by omega
      clear hc e1 e2 hK
      go_wp2_with fail
      go_round
      case rel => exact ⟨j + 1, by omega, by go_num, by rw [show k + (j + 1) * 3 = K + 3 by have := HK.out; omega]; first | go_num | (congr 1; push_cast; omega) | (simp; omega)⟩
      case measure => simp [intOf]; omega
    · have e : j = n := by omega
      subst e
      go_wp2_with fail
      go_ret
      exact ⟨rfl, rfl⟩

theorem markSliceS_any (g c n k N : Nat) (f : Nat → Value) (w : World) (hr : w.rowIs g 36 N f) (hN : n * 3 ≤ N) (hn : n ≤ 64000000) (hk : k ≤ 1048576) :
    Calls Try.prog 20 #[.slice (some ⟨g, 0, none⟩) n c, .int .i64 (k : Int)] w fun e w' => e = .returned (.int .i64 ((k + n * 3 : Nat) : Int)) ∧ MkS w' (some ⟨g, 0, none⟩) n k ∧ w.grownBy w' (some g) := by
  go_enter Try.func20, Try.ntmps20
  go_wp2_with fail
  go_loopw [1, 5] (fun q i wr => ∃ (j : Nat) (f' : Nat → Value), j ≤ n ∧ i = .int .i64 (j : Int) ∧ q = .int .i64 ((k + j * 3 : Nat) : Int) ∧ wr.rowIs g 36 N f' ∧ (∀ i, i < j * 3 → f' i = .int .i64 ((k + i : Nat) : Int)) ∧ w.grownBy wr (some g)) (fun _ i _ => n - (intOf i).toNat)
  case atStart => exact ⟨0, f, Nat.zero_le _, rfl, by simp, hr, fun i h => by omega, ⟨rfl, rfl, rfl, Nat.le_refl _, fun _ _ _ => rfl⟩⟩
  case round =>
    obtain ⟨j, f', hj, rfl, rfl, hrow, hf, hg⟩ := hrel
    by_cases hlt : j < n
    · have q0 := hrow.cell (i := j * 3) (by omega)
      have q1 := hrow.cell (i := j * 3 + 1) (by omega)
      have q2 := hrow.cell (i := j * 3 + 2) (by omega)
      have r0 := hrow.frozen (j * 3)
      have r1 := hrow.frozen (j * 3 + 1)
      have r2 := hrow.frozen (j * 3 + 2)
      generalize hK : k + j * 3 = K at *
      have HK := kide hK
      have hKb : K ≤ 300000000 := by omega
      have i0 : (j : Int) < (n : Int) := by omega
      have HRW := kide hrow
      have HF := kide hf
      have HG := kide hg
      clear hrow hf hg hK
      go_wp2_with fail
      go_roundw
      case rel =>
        refine ⟨j + 1, _, by omega, by go_num, ?_, World.rowIs.set (World.rowIs.set (World.rowIs.set HRW.out (j * 3) (.int .i64 (K : Int))) (j * 3 + 1) (.int .i64 ((K : Int) + 1))) (j * 3 + 2) (.int .i64 ((K : Int) + 1 + 1)), fun i hi => ?_, ?_⟩
        · rw [show k + (j + 1) * 3 = K + 3 by have := HK.out; omega]
          first | go_num | (congr 1; push_cast; omega) | (simp; omega)
        · show (if _ then _ else _) = _
          have hKK := HK.out
          by_cases h2 : i = j * 3 + 2
          · rw [if_pos h2]
            congr 1
            omega
          · rw [if_neg h2]
            show (if _ then _ else _) = _
            by_cases h1 : i = j * 3 + 1
            · rw [if_pos h1]
              congr 1
              omega
            · rw [if_neg h1]
              show (if _ then _ else _) = _
              by_cases h0 : i = j * 3
              · rw [if_pos h0]
                congr 1
                omega
              · rw [if_neg h0]
                exact HF.out i (by omega)
        · exact grow_set (grow_set (grow_set HG.out (j * 3) _) (j * 3 + 1) _) (j * 3 + 2) _
      case measure => simp [intOf]; omega
    · have e : j = n := by omega
      subst e
      have HRW := kide hrow
      have HF := kide hf
      have HG := kide hg
      clear hrow hf hg
      go_wp2_with fail
      go_ret
      exact ⟨rfl, .inr ⟨g, rfl, fun i hi => by rw [← HF.out i hi]; exact World.rowIs.cell HRW.out (by omega)⟩, HG.out⟩

end Go.Proofs.Ytnfagdfaphihhaa
