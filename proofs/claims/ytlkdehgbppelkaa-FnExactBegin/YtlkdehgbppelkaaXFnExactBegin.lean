/- The law FnExactBegin returns true. -/
import Derived.Test.YtlkdehgbppelkaaBGB
namespace Go.Proofs.Ytlkdehgbppelkaa
set_option linter.unusedVariables false
set_option linter.unusedSimpArgs false
open Go.RowKit

/-- A box that holds the session with its row of scopes in the block b. -/
def Bs (w : World) (B b : Nat) : Prop := w.heap[B]? = some (.cells #[.slice none 0 0, .slice (some ⟨b, 0, none⟩) 1 1, .int .i64 1] 25 (0, 0))
theorem Bs.lt {w : World} {B b : Nat} (h : Bs w B b) : B < w.heap.size := lt_of_block h
theorem Bs.cells {w : World} {B b : Nat} (h : Bs w B b) : w.cell? ⟨B, 0, none⟩ = some (.slice none 0 0) ∧ w.cell? ⟨B, 1, none⟩ = some (.slice (some ⟨b, 0, none⟩) 1 1) ∧ w.cell? ⟨B, 2, none⟩ = some (.int .i64 1) :=
  ⟨by rw [cell_of_row w B 0 _ _ _ h]; rfl, by rw [cell_of_row w B 1 _ _ _ h]; rfl, by rw [cell_of_row w B 2 _ _ _ h]; rfl⟩
theorem Bs.later {w w' : World} {B b : Nat} (h : Bs w B b) (hb : Below w.heap.size w w') : Bs w' B b := by
  unfold Bs
  rw [hb.block B h.lt]; exact h
theorem Bs.new (w : World) (b : Nat) : Bs (w.alloc (.cells #[.slice none 0 0, .slice (some ⟨b, 0, none⟩) 1 1, .int .i64 1] 25)) w.heap.size b := heap_alloc_new _ _
theorem later1 (w : World) (o : Obj) : Below w.heap.size w (w.alloc o) := (Below.refl _ _).alloc (Nat.le_refl _) _

set_option maxHeartbeats 1000000 in
set_option maxRecDepth 100000 in
theorem walk_FnExactBegin (w : World) : Calls Try.prog 3 #[] w fun e w' => e = .returned (.bool true) ∧ Below w.heap.size w w' := by
  go_enter Try.func3, Try.ntmps3
  go_wp2_with fail
  refine Calls.mono (specBegin _) ?_
  rintro e w1 ⟨b0, rfl, hl0, o0, hb1⟩
  have O0 := kide o0
  have HB1 := kide hb1
  have HL0 := kide hl0
  clear o0 hb1 hl0
  unfold Sv
  go_wp2_with fail
  have HN := kide (later1 w1 (.cells #[.slice none 0 0, .slice (some ⟨b0, 0, none⟩) 1 1, .int .i64 1] 25))
  have X0 := kide (Bs.new w1 b0)
  have O1 := kide (O0.out.later HN.out O0.out.lt)
  have HB2 := kide (HB1.out.trans (HN.out.mono HB1.out.size))
  generalize w1.heap.size = B0 at *
  generalize w1.alloc (.cells #[.slice none 0 0, .slice (some ⟨b0, 0, none⟩) 1 1, .int .i64 1] 25) = w2 at *
  clear O0 HB1 HN
  refine Calls.mono (implBegin _) ?_
  rintro e w3 ⟨b1, rfl, hl1, o1, hb3⟩
  have HA := kide (hb3)
  have X1 := kide (X0.out.later HA.out)
  have O2 := kide (O1.out.later HA.out O1.out.lt)
  have HB3 := kide (HB2.out.trans (HA.out.mono HB2.out.size))
  have P1 := kide o1
  have hne : Hid (b0 ≠ b1) := fun h => by have := O1.out.lt; omega
  have hne2 : Hid (B0 ≠ b1) := fun h => by have := X0.out.lt; omega
  have HL1 : Hid (w.heap.size ≤ b1) := Nat.le_trans HB2.out.size hl1
  clear hb3 o1 hl1 HA X0 O1 HB2
  unfold Sv
  obtain ⟨x0, x1, x2⟩ := X1.out.cells
  have xl := X1.out.lt
  go_wp2_with fail
  clear x0 x1 x2 xl
  have HN := kide (later1 w3 (.cells #[.slice none 0 0, .slice (some ⟨b1, 0, none⟩) 1 1, .int .i64 1] 25))
  have Y0 := kide (Bs.new w3 b1)
  have X2 := kide (X1.out.later HN.out)
  have O3 := kide (O2.out.later HN.out O2.out.lt)
  have P2 := kide (P1.out.later HN.out P1.out.lt)
  have HB4 := kide (HB3.out.trans (HN.out.mono HB3.out.size))
  have hne3 : Hid (w3.heap.size ≠ b1) := fun h => by have := P1.out.lt; omega
  generalize w3.heap.size = B1 at *
  generalize w3.alloc (.cells #[.slice none 0 0, .slice (some ⟨b1, 0, none⟩) 1 1, .int .i64 1] 25) = w4 at *
  clear X1 O2 P1 HB3 HN
  refine Calls.mono (eqSession_one b1 b0 0 w4 P2.out O3.out) ?_
  rintro e w5 ⟨rfl, hb5⟩
  have X3 := kide (X2.out.later hb5)
  have Y1 := kide (Y0.out.later hb5)
  have O4 := kide (O3.out.later hb5 O3.out.lt)
  have P3 := kide (P2.out.later hb5 P2.out.lt)
  have HB5 := kide (HB4.out.trans (hb5.mono HB4.out.size))
  clear hb5 X2 Y0 O3 P2 HB4
  obtain ⟨y0, y1, y2⟩ := Y1.out.cells
  go_wp2_with fail
  refine Calls.mono (markSession_one b1 0 w5 P3.out) ?_
  rintro e w6 ⟨rfl, hb6, hk6, p6, hs6⟩
  have X4 : Hid (Bs w6 B0 b0) := by
    unfold Hid Bs
    rw [hk6 _ X3.out.lt hne2.out]; exact X3.out
  have Y2 : Hid (Bs w6 B1 b1) := by
    unfold Hid Bs
    rw [hk6 _ Y1.out.lt hne3.out]; exact Y1.out
  have O5 : Hid (One w6 b0 0) := by
    unfold Hid One
    rw [hk6 _ O4.out.lt hne.out]; exact O4.out
  have P4 := kide p6
  have HB6 : Hid (Below w.heap.size w w6) := HB5.out.trans (hb6.mono HL1.out)
  clear hb6 hk6 p6 hs6 X3 Y1 O4 P3 HB5 y0 y1 y2
  obtain ⟨y0, y1, y2⟩ := Y2.out.cells
  go_wp2_with fail
  refine Calls.mono (heldSession_one b1 w6 P4.out) ?_
  rintro e w7 ⟨rfl, hb7⟩
  have X5 := kide (X4.out.later hb7)
  have Y3 := kide (Y2.out.later hb7)
  have O6 := kide (O5.out.later hb7 O5.out.lt)
  have P5 := kide (P4.out.later hb7 P4.out.lt)
  have HB7 := kide (HB6.out.trans (hb7.mono HB6.out.size))
  clear hb7 X4 Y2 O5 P4 HB6 y0 y1 y2
  go_wp2_with fail
  refine Calls.mono (implBegin _) ?_
  rintro e w8 ⟨b2, rfl, hl2, o2, hb8⟩
  have X6 := kide (X5.out.later hb8)
  have Y4 := kide (Y3.out.later hb8)
  have O7 := kide (O6.out.later hb8 O6.out.lt)
  have P6 := kide (P5.out.later hb8 P5.out.lt)
  have HB8 := kide (HB7.out.trans (hb8.mono HB7.out.size))
  have Q1 := kide o2
  clear hb8 o2 hl2 X5 Y3 O6 P5 HB7
  unfold Sv
  obtain ⟨x0, x1, x2⟩ := X6.out.cells
  have xl := X6.out.lt
  go_wp2_with fail
  clear x0 x1 x2 xl
  have HN := kide (later1 w8 (.cells #[.slice none 0 0, .slice (some ⟨b2, 0, none⟩) 1 1, .int .i64 1] 25))
  have Z0 := kide (Bs.new w8 b2)
  have X7 := kide (X6.out.later HN.out)
  have Y5 := kide (Y4.out.later HN.out)
  have O8 := kide (O7.out.later HN.out O7.out.lt)
  have P7 := kide (P6.out.later HN.out P6.out.lt)
  have Q2 := kide (Q1.out.later HN.out Q1.out.lt)
  have HB9 := kide (HB8.out.trans (HN.out.mono HB8.out.size))
  generalize w8.heap.size = B2 at *
  generalize w8.alloc (.cells #[.slice none 0 0, .slice (some ⟨b2, 0, none⟩) 1 1, .int .i64 1] 25) = w9 at *
  clear X6 Y4 O7 P6 Q1 HB8 HN
  refine Calls.mono (eqSession_one b2 b0 0 w9 Q2.out O8.out) ?_
  rintro e w10 ⟨rfl, hb10⟩
  have Y6 := kide (Y5.out.later hb10)
  have P8 := kide (P7.out.later hb10 P7.out.lt)
  have HB10 := kide (HB9.out.trans (hb10.mono HB9.out.size))
  clear hb10 X7 Y5 O8 P7 Q2 HB9
  obtain ⟨y0, y1, y2⟩ := Y6.out.cells
  go_wp2_with fail
  refine Calls.mono (heldSession_one b1 w10 P8.out) ?_
  rintro e w11 ⟨rfl, hb11⟩
  have HB11 := kide (HB10.out.trans (hb11.mono HB10.out.size))
  clear hb11 y0 y1 y2
  go_wp2_with fail
  go_ret
  exact ⟨rfl, HB11.out⟩

end Go.Proofs.Ytlkdehgbppelkaa
