/- The law FnExactJoinBits returns true, whatever it is handed. -/
import Derived.Test.YtjlfcnaigadjcaaR
import Derived.Test.YtjlfcnaigadjcaaG2
namespace Go.Proofs.Ytjlfcnaigadjcaa
set_option linter.unusedVariables false
set_option linter.unusedSimpArgs false
open Go.RowKit

theorem undrewX {w w' : World} (h : Below w.drew.heap.size w.drew w') : Below w.heap.size w w' := ⟨h.os, h.tape, h.output, h.size, h.block⟩

theorem Fr.any {w : World} {lo hi : Nat} {a : Option Addr} {ys : List Nat} (h : Fr w lo hi a ys) : Fr w 0 w.heap.size a ys := by
  rcases h with h | ⟨g, rfl, h1, h2, ho⟩
  · exact .inl h
  · exact .inr ⟨g, rfl, Nat.zero_le _, ho.lt, ho⟩
theorem Fr.set2 {w : World} {lo hi : Nat} {a : Option Addr} {ys : List Nat} (h : Fr w lo hi a ys) {β : Nat} (hb : β < lo) (u v : Value) : Fr ((w.setCell ⟨β, 0, none⟩ u).setCell ⟨β, 1, none⟩ v) lo hi a ys := by
  rcases h with h | ⟨g, rfl, h1, h2, ho⟩
  · exact .inl h
  · exact .inr ⟨g, rfl, h1, h2, (ho.other (by simp; omega) _).other (by simp; omega) _⟩
theorem Blk.set2 {w : World} {β : Nat} {x y : Value} {t : TypeId} (h : Blk w β x y t) (u v : Value) : Blk ((w.setCell ⟨β, 0, none⟩ u).setCell ⟨β, 1, none⟩ v) β u v t := by
  unfold Blk at *
  have h1 := heap_setCell_same w β 0 _ _ u h
  have h2 := heap_setCell_same _ β 1 _ _ v h1
  simpa using h2
theorem Blk.far2 {w : World} {α β : Nat} {x y : Value} {t : TypeId} (h : Blk w α x y t) (hne : α ≠ β) (u v : Value) : Blk ((w.setCell ⟨β, 0, none⟩ u).setCell ⟨β, 1, none⟩ v) α x y t := by
  unfold Blk at *
  rw [heap_setCell_other _ _ _ _ hne, heap_setCell_other _ _ _ _ hne]; exact h

theorem markBits_fr2 (W : Int) (a : Option Addr) (c k lo hi : Nat) (ys : List Nat) (w : World) (hl : ys.length ≤ 1048576) (hk : k + ys.length ≤ 1048577) (hf : Fr w lo hi a ys) :
    Calls Try.prog 45 #[.agg #[.int .i64 W, .slice a ys.length c], .int .i64 k] w fun e w' => e = .returned (.int .i64 ((k + ys.length : Nat) : Int)) ∧ Fr w' lo hi a (marks k ys.length) ∧ Marked w w' a := by
  cases ys with
  | nil =>
    refine (markBits_nil W a c k w).mono ?_
    rintro e w' ⟨rfl, hb⟩
    refine ⟨rfl, ?_, ⟨hb.os, hb.tape, hb.output, hb.size, fun j hj _ => hb.block j hj⟩⟩
    have := hf.next hb
    simpa [marks] using this
  | cons y ys => exact markBits_fr W a c k lo hi (y :: ys) w hl (by simp at hk; omega) hf

theorem lawB1_FnExactJoinBits (W : Int) (a : Option Addr) (n c : Nat) (V : Int) (b : Option Addr) (m d : Nat) (w : World) (h : 1048576 < n) (hn : n ≤ 9223372036854775807) :
    Calls Try.prog 12 #[.agg #[.int .i64 W, .slice a n c], .agg #[.int .i64 V, .slice b m d]] w fun e w' => e = .returned (.bool true) ∧ Below w.heap.size w w' := by
  have h2 : Below w.heap.size w ((w.alloc (Obj.cells #[Value.int IntKind.i64 W, Value.slice a n c] 46)).alloc (Obj.cells #[Value.int IntKind.i64 V, Value.slice b m d] 46)) := Ba (Ba (Below.refl _ _) _) _
  go_enter Try.func12, Try.ntmps12
  go_wp2_with fail
  refine (szBits_no _ _ _ _ _ _ (by omega) (by omega) (by omega) (by omega)).mono ?_
  rintro e w1 ⟨rfl, hb1⟩
  have B1 := chain h2 hb1
  go_wp2
  go_ret
  exact ⟨rfl, B1⟩

theorem lawB2_FnExactJoinBits (W : Int) (a : Option Addr) (n c : Nat) (V : Int) (b : Option Addr) (m d : Nat) (w : World) (h1 : n ≤ 1048576) (h : 1048576 < n + m) (hm : m ≤ 9223372036854775807) :
    Calls Try.prog 12 #[.agg #[.int .i64 W, .slice a n c], .agg #[.int .i64 V, .slice b m d]] w fun e w' => e = .returned (.bool true) ∧ Below w.heap.size w w' := by
  have h2 : Below w.heap.size w ((w.alloc (Obj.cells #[Value.int IntKind.i64 W, Value.slice a n c] 46)).alloc (Obj.cells #[Value.int IntKind.i64 V, Value.slice b m d] 46)) := Ba (Ba (Below.refl _ _) _) _
  have bB0 := Blk.new1 w (Obj.cells #[Value.int IntKind.i64 W, Value.slice a n c] 46) (Value.int IntKind.i64 V) (Value.slice b m d) 46
  go_enter Try.func12, Try.ntmps12
  go_wp2_with fail
  refine (szBits_yes _ _ _ _ _ _ (by omega) (by omega) (by omega) (by omega)).mono ?_
  rintro e w1 ⟨rfl, hb1⟩
  have B1 := chain h2 hb1
  have bB1 := bB0.next hb1
  obtain ⟨d0, d1⟩ := bB1.cells
  go_wp2_with fail
  refine (szBits_no _ _ _ _ _ _ (by omega) (by omega) (by omega) (by omega)).mono ?_
  rintro e w2 ⟨rfl, hb2⟩
  have B2 := chain B1 hb2
  go_wp2
  go_ret
  exact ⟨rfl, B2⟩

set_option maxHeartbeats 4000000 in
set_option maxRecDepth 100000 in
theorem lawS_FnExactJoinBits (W : Int) (a : Option Addr) (c : Nat) (xs : List Nat) (V : Int) (b : Option Addr) (d : Nat) (ys : List Nat) (RW : Int) (ry : List Nat) (rb : Bool) (hRl : ry.length ≤ 1048576) (hRx : ∀ x ∈ ry, x < 18446744073709551616) (w : World) (hr : Rd w a xs) (hs : Rd w b ys) (hsum : xs.length + ys.length ≤ 1048576)
    (hS : ∀ (u : World) (a b : Option Addr) (c d : Nat), Rd u a xs → Rd u b ys → Calls Try.prog 51 #[.agg #[.int .i64 W, .slice a xs.length c], .agg #[.int .i64 V, .slice b ys.length d]] u (RetB u (RW, ry, rb)))
    (hI : ∀ (u : World) (a b : Option Addr) (c d : Nat), Rd u a xs → Rd u b ys → Calls Try.prog 30 #[.agg #[.int .i64 W, .slice a xs.length c], .agg #[.int .i64 V, .slice b ys.length d]] u (RetB u (RW, ry, rb))) :
    Calls Try.prog 12 #[.agg #[.int .i64 W, .slice a xs.length c], .agg #[.int .i64 V, .slice b ys.length d]] w fun e w' => e = .returned (.bool true) ∧ Below w.heap.size w w' := by
  have hl := hr.1
  have hx := hr.2.1
  have hl' := hs.1
  have hy := hs.2.1
  have HS : Hid _ := hS
  have HI : Hid _ := hI
  clear hS hI
  have B0 : Below w.heap.size w ((w.alloc (Obj.cells #[Value.int IntKind.i64 W, Value.slice a xs.length c] 46)).alloc (Obj.cells #[Value.int IntKind.i64 V, Value.slice b ys.length d] 46)) := Ba (Ba (Below.refl _ _) _) _
  have bB0 := Blk.new1 w (Obj.cells #[Value.int IntKind.i64 W, Value.slice a xs.length c] 46) (Value.int IntKind.i64 V) (Value.slice b ys.length d) 46
  have bA0 := (Blk.new w (Value.int IntKind.i64 W) (Value.slice a xs.length c) 46).alloc (Obj.cells #[Value.int IntKind.i64 V, Value.slice b ys.length d] 46)
  go_enter Try.func12, Try.ntmps12
  go_wp2_with fail
  refine (szBits_yes _ _ _ _ _ _ (by omega) (by omega) (by omega) (by omega)).mono ?_
  rintro e w1 ⟨rfl, hb1⟩
  have B1 := chain B0 hb1
  have bA1 := bA0.next hb1
  have bB1 := bB0.next hb1
  try clear B0
  try clear bA0
  try clear bB0
  obtain ⟨z00, z01⟩ := bB1.cells
  go_wp2_with fail
  refine (szBits_yes _ _ _ _ _ _ (by omega) (by omega) (by omega) (by omega)).mono ?_
  rintro e w2 ⟨rfl, hb2⟩
  have B2 := chain B1 hb2
  have bA2 := bA1.next hb2
  have bB2 := bB1.next hb2
  try clear hb1
  try clear hb2
  try clear B1
  try clear bA1
  try clear bB1
  try clear z00
  try clear z01
  obtain ⟨z00, z01⟩ := bA2.cells
  obtain ⟨z10, z11⟩ := bB2.cells
  have rr := hr.later B2
  have ss := hs.later B2
  have laP := bA2.lt
  have lbP := bB2.lt
  go_wp2_with fail
  go_region_held3 (fun u => u.cell? ⟨w.heap.size, 0, none⟩ = some (Value.int IntKind.i64 W) ∧ u.cell? ⟨w.heap.size, 1, none⟩ = some (Value.slice a xs.length c) ∧ u.cell? ⟨w.heap.size + 1, 0, none⟩ = some (Value.int IntKind.i64 V) ∧ u.cell? ⟨w.heap.size + 1, 1, none⟩ = some (Value.slice b ys.length d)) (first | (refine ⟨?_, ?_, ?_, ?_⟩ <;> assumption) | (refine ⟨?_, ?_, ?_, ?_⟩ <;> (rw [acell _ _ _ (by omega)]; assumption)) | exact ⟨(acell _ _ _ laP).trans z00, (acell _ _ _ laP).trans z01, (acell _ _ _ lbP).trans z10, (acell _ _ _ lbP).trans z11⟩ | (refine ⟨?_, ?_, ?_, ?_⟩ <;> (rw [World.cell?_setCell_far _ _ _ _ (by simp <;> omega), World.cell?_setCell_far _ _ _ _ (by simp <;> omega)]; assumption)) | exact ⟨z00, z01, z10, z11⟩)
    (first
      | (go_at_call_of 43 xs; refine (toBits_any _ _ _ _ _ ?_).mono ?_; (first | exact rr | exact rr.later (Ba (Below.refl _ _).drew _)); rintro e w3 ⟨ga, rfl, hga, hoa, hb3⟩; have hc3 : Below w2.heap.size w2 w3 := (by first | exact undrewX hb3 | exact chain (W := w2) (Ba (Below.refl _ _).drew _) hb3); (try have bz3 : Blk w3 w2.heap.size (Value.int IntKind.i64 0) (Value.slice none 0 0) 26 := Blk.next (Blk.new w2.drew (Value.int IntKind.i64 0) (Value.slice none 0 0) 26) hb3); have bA3 := Blk.next (w := w2) bA2 hc3; have bB3 := Blk.next (w := w2) bB2 hc3; have la3 := bA3.lt; have lb3 := bB3.lt; obtain ⟨y00, y01⟩ := bA3.cells; obtain ⟨y10, y11⟩ := bB3.cells)
      | (go_at_call_of 43 ys; refine (toBits_any _ _ _ _ _ ?_).mono ?_; (first | exact ss.later hc3 | exact ss.later (Ba hc3 _)); rintro e w4 ⟨gb, rfl, hgb, hob, hb4⟩; have hc4 : Below w2.heap.size w2 w4 := (by first | exact chain hc3 hb4 | exact chain (Ba hc3 _) hb4); have hoa' : Own w4 ga xs := (by first | exact hoa.later hb4 hoa.lt | exact (hoa.alloc _).later hb4 (hoa.alloc _).lt); (try have bz4 := bz3.next hb4); (try have bz4 : Blk w4 w3.heap.size (Value.int IntKind.i64 0) (Value.slice none 0 0) 26 := Blk.next (Blk.new w3 (Value.int IntKind.i64 0) (Value.slice none 0 0) 26) hb4); (try have zl := bz4.lt); have bA4 := Blk.next (w := w2) bA2 hc4; have bB4 := Blk.next (w := w2) bB2 hc4; have la4 := bA4.lt; have lb4 := bB4.lt; obtain ⟨x00, x01⟩ := bA4.cells; obtain ⟨x10, x11⟩ := bB4.cells)
      | (go_at_call 51; refine (HS.out _ _ _ _ _ ?_ ?_).mono ?_; (first | exact hoa'.rd hl hx | exact (hoa'.alloc _).rd hl hx); (first | exact hob.rd hl' hy | exact (hob.alloc _).rd hl' hy); intro e w5 hret; obtain ⟨aw, cw, rfl, ff5, hb5⟩ := hret.fr; have hc5 : Below w2.heap.size w2 w5 := (by first | exact chain hc4 hb5 | exact chain (Ba hc4 _) hb5); (try have bz5 := bz4.next hb5); (try have bz5 : Blk w5 w4.heap.size (Value.int IntKind.i64 0) (Value.slice none 0 0) 26 := Blk.next (Blk.new w4 (Value.int IntKind.i64 0) (Value.slice none 0 0) 26) hb5); (try (obtain ⟨zz0, zz1⟩ := bz5.cells; have zf0 := bz5.free 0; have zf1 := bz5.free 1)); have bA5 := Blk.next (w := w2) bA2 hc5; have bB5 := Blk.next (w := w2) bB2 hc5; have la5 := bA5.lt; have lb5 := bB5.lt; obtain ⟨u00, u01⟩ := bA5.cells; obtain ⟨u10, u11⟩ := bB5.cells))
  all_goals (
    try dsimp only at ff5
    first
      | (have bwF : Blk ((w5.setCell ⟨w2.heap.size, 0, none⟩ (Value.int IntKind.i64 RW)).setCell ⟨w2.heap.size, 1, none⟩ (Value.slice aw ry.length cw)) w2.heap.size (Value.int IntKind.i64 RW) (Value.slice aw ry.length cw) 26 := bz5.set2 _ _; have hcF : Below w2.heap.size w2 ((w5.setCell ⟨w2.heap.size, 0, none⟩ (Value.int IntKind.i64 RW)).setCell ⟨w2.heap.size, 1, none⟩ (Value.slice aw ry.length cw)) := (hc5.setCell (by first | exact Nat.le_refl _ | exact hc3.size | exact hc4.size) _).setCell (by first | exact Nat.le_refl _ | exact hc3.size | exact hc4.size) _; have ffF := (ff5.set2 (β := w2.heap.size) (by first | exact zl | simp) (Value.int IntKind.i64 RW) (Value.slice aw ry.length cw)).any; have bAF := bA5.far2 (β := w2.heap.size) (by omega) (Value.int IntKind.i64 RW) (Value.slice aw ry.length cw); have bBF := bB5.far2 (β := w2.heap.size) (by omega) (Value.int IntKind.i64 RW) (Value.slice aw ry.length cw); generalize ((w5.setCell ⟨w2.heap.size, 0, none⟩ (Value.int IntKind.i64 RW)).setCell ⟨w2.heap.size, 1, none⟩ (Value.slice aw ry.length cw)) = wF5 at *)
      | (have bwF : Blk ((w5.setCell ⟨w3.heap.size, 0, none⟩ (Value.int IntKind.i64 RW)).setCell ⟨w3.heap.size, 1, none⟩ (Value.slice aw ry.length cw)) w3.heap.size (Value.int IntKind.i64 RW) (Value.slice aw ry.length cw) 26 := bz5.set2 _ _; have hcF : Below w2.heap.size w2 ((w5.setCell ⟨w3.heap.size, 0, none⟩ (Value.int IntKind.i64 RW)).setCell ⟨w3.heap.size, 1, none⟩ (Value.slice aw ry.length cw)) := (hc5.setCell (by first | exact Nat.le_refl _ | exact hc3.size | exact hc4.size) _).setCell (by first | exact Nat.le_refl _ | exact hc3.size | exact hc4.size) _; have ffF := (ff5.set2 (β := w3.heap.size) (by first | exact zl | simp) (Value.int IntKind.i64 RW) (Value.slice aw ry.length cw)).any; have bAF := bA5.far2 (β := w3.heap.size) (by omega) (Value.int IntKind.i64 RW) (Value.slice aw ry.length cw); have bBF := bB5.far2 (β := w3.heap.size) (by omega) (Value.int IntKind.i64 RW) (Value.slice aw ry.length cw); generalize ((w5.setCell ⟨w3.heap.size, 0, none⟩ (Value.int IntKind.i64 RW)).setCell ⟨w3.heap.size, 1, none⟩ (Value.slice aw ry.length cw)) = wF5 at *)
      | (have bwF : Blk ((w5.setCell ⟨w4.heap.size, 0, none⟩ (Value.int IntKind.i64 RW)).setCell ⟨w4.heap.size, 1, none⟩ (Value.slice aw ry.length cw)) w4.heap.size (Value.int IntKind.i64 RW) (Value.slice aw ry.length cw) 26 := bz5.set2 _ _; have hcF : Below w2.heap.size w2 ((w5.setCell ⟨w4.heap.size, 0, none⟩ (Value.int IntKind.i64 RW)).setCell ⟨w4.heap.size, 1, none⟩ (Value.slice aw ry.length cw)) := (hc5.setCell (by first | exact Nat.le_refl _ | exact hc3.size | exact hc4.size) _).setCell (by first | exact Nat.le_refl _ | exact hc3.size | exact hc4.size) _; have ffF := (ff5.set2 (β := w4.heap.size) (by first | exact zl | simp) (Value.int IntKind.i64 RW) (Value.slice aw ry.length cw)).any; have bAF := bA5.far2 (β := w4.heap.size) (by omega) (Value.int IntKind.i64 RW) (Value.slice aw ry.length cw); have bBF := bB5.far2 (β := w4.heap.size) (by omega) (Value.int IntKind.i64 RW) (Value.slice aw ry.length cw); generalize ((w5.setCell ⟨w4.heap.size, 0, none⟩ (Value.int IntKind.i64 RW)).setCell ⟨w4.heap.size, 1, none⟩ (Value.slice aw ry.length cw)) = wF5 at *)
      | (have bwF := Blk.new w5 (Value.int IntKind.i64 RW) (Value.slice aw ry.length cw) 26; have hcF : Below w2.heap.size w2 (w5.alloc (Obj.cells #[Value.int IntKind.i64 RW, Value.slice aw ry.length cw] 26)) := Ba hc5 _; have ffF := (ff5.alloc (Obj.cells #[Value.int IntKind.i64 RW, Value.slice aw ry.length cw] 26)).any; have bAF := bA5.alloc (Obj.cells #[Value.int IntKind.i64 RW, Value.slice aw ry.length cw] 26); have bBF := bB5.alloc (Obj.cells #[Value.int IntKind.i64 RW, Value.slice aw ry.length cw] 26); generalize (w5.alloc (Obj.cells #[Value.int IntKind.i64 RW, Value.slice aw ry.length cw] 26)) = wF5 at *)
    try clear y00
    try clear y01
    try clear y10
    try clear y11
    try clear x00
    try clear x01
    try clear x10
    try clear x11
    try clear u00
    try clear u01
    try clear u10
    try clear u11
    try clear zz0
    try clear zz1
    try clear zf0
    try clear zf1
    try clear zl
    try clear hga
    try clear hgb
    try clear hoa
    try clear hob
    try clear hoa'
    try clear hret
    try clear rr
    try clear ss
    try clear laP
    try clear lbP
    try clear bz3
    try clear bA3
    try clear bB3
    try clear la3
    try clear lb3
    try clear bz4
    try clear bA4
    try clear bB4
    try clear la4
    try clear lb4
    try clear bz5
    try clear bA5
    try clear bB5
    try clear la5
    try clear lb5
    try clear ff5
    have B5 := chain B2 hcF
    have bA5 := bAF
    have bB5 := bBF
    have ff5 := ffF
    have bW5 := bwF
    try clear bAF
    try clear bBF
    try clear ffF
    try clear bwF
    try clear B2
    try clear bA2
    try clear bB2
    try clear hcF
    try clear hb3
    try clear hc3
    try clear hb4
    try clear hc4
    try clear hb5
    try clear hc5
    try clear z00
    try clear z01
    try clear z10
    try clear z11
    have l5 := bB5.lt
    clear HS
    obtain ⟨z00, z01⟩ := bA5.cells
    obtain ⟨z10, z11⟩ := bB5.cells
    go_wp2_with fail
    refine (toBits_any _ _ _ _ _ (hr.later B5)).mono ?_
    rintro e w6 ⟨gx, rfl, hgx, hox, hb6⟩
    have fx6 := hox.fr hgx
    have l6 := hb6.size
    have B6 := chain B5 hb6
    have bA6 := bA5.next hb6
    have bB6 := bB5.next hb6
    have bw6 := bW5.next hb6
    have fw6 := ff5.next hb6
    try clear B5
    try clear bA5
    try clear bB5
    try clear bW5
    try clear ff5
    try clear hb6
    try clear hox
    try clear hgx
    try clear z00
    try clear z01
    try clear z10
    try clear z11
    obtain ⟨z00, z01⟩ := bB6.cells
    have lb6 := bB6.lt
    go_wp2_with fail
    refine (toBits_any _ _ _ _ _ (hs.later (Ba B6 _))).mono ?_
    rintro e w7 ⟨gy, rfl, hgy, hoy, hb7⟩
    have bx7 := (Blk.new w6 _ _ _).next hb7
    have fy7 := hoy.fr hgy
    rw [World.size_alloc] at fy7
    have B7 := chain (Ba B6 _) hb7
    have bA7 := (bA6.alloc _).next hb7
    have bB7 := (bB6.alloc _).next hb7
    have bw7 := (bw6.alloc _).next hb7
    have fw7 := (fw6.alloc _).next hb7
    have fx7 := (fx6.alloc _).next hb7
    have l7 : w6.heap.size < w7.heap.size := bx7.lt
    try clear B6
    try clear bA6
    try clear bB6
    try clear bw6
    try clear fw6
    try clear fx6
    try clear hb7
    try clear hoy
    try clear hgy
    try clear z00
    try clear z01
    obtain ⟨z00, z01⟩ := bx7.cells
    go_wp2_with fail
    refine (HI.out _ _ _ _ _ ((fx7.alloc _).rd hl hx) ((fy7.alloc _).rd hl' hy)).mono ?_
    intro e w8 hret
    obtain ⟨ag, cg, rfl, fg8, hb8⟩ := hret.fr
    rw [World.size_alloc] at fg8
    dsimp only at fg8 ⊢
    have by8 := (Blk.new w7 _ _ _).next hb8
    have B8 := chain (Ba B7 _) hb8
    have bA8 := (bA7.alloc _).next hb8
    have bB8 := (bB7.alloc _).next hb8
    have bw8 := (bw7.alloc _).next hb8
    have bx8 := (bx7.alloc _).next hb8
    have fw8 := (fw7.alloc _).next hb8
    have fx8 := (fx7.alloc _).next hb8
    have fy8 := (fy7.alloc _).next hb8
    have l8 : w7.heap.size < w8.heap.size := by8.lt
    try clear B7
    try clear bA7
    try clear bB7
    try clear bw7
    try clear bx7
    try clear fw7
    try clear fx7
    try clear fy7
    try clear hb8
    try clear hret
    try clear z00
    try clear z01
    obtain ⟨z00, z01⟩ := bw8.cells
    have lw8 := bw8.lt
    go_wp2_with fail
    refine (eqBits_same _ _ _ _ _ _ _ ((fg8.alloc _).rd hRl hRx) ((fw8.alloc _).rd hRl hRx)).mono ?_
    rintro e w9 ⟨rfl, hb9⟩
    have bg9 := (Blk.new w8 _ _ _).next hb9
    have B9 := chain (Ba B8 _) hb9
    have bA9 := (bA8.alloc _).next hb9
    have bB9 := (bB8.alloc _).next hb9
    have bw9 := (bw8.alloc _).next hb9
    have bx9 := (bx8.alloc _).next hb9
    have by9 := (by8.alloc _).next hb9
    have fw9 := (fw8.alloc _).next hb9
    have fx9 := (fx8.alloc _).next hb9
    have fy9 := (fy8.alloc _).next hb9
    have fg9 := (fg8.alloc _).next hb9
    have l9 : w8.heap.size < w9.heap.size := bg9.lt
    try clear B8
    try clear bA8
    try clear bB8
    try clear bw8
    try clear bx8
    try clear by8
    try clear fw8
    try clear fx8
    try clear fy8
    try clear fg8
    try clear hb9
    try clear z00
    try clear z01
    obtain ⟨z00, z01⟩ := bA9.cells
    obtain ⟨z10, z11⟩ := bx9.cells
    have rr := hr.later B9
    go_wp2_with fail
    go_region_held3 (fun u => u.cell? ⟨w.heap.size, 0, none⟩ = some (Value.int IntKind.i64 W) ∧ u.cell? ⟨w.heap.size, 1, none⟩ = some (Value.slice a xs.length c) ∧ u.cell? ⟨w6.heap.size, 0, none⟩ = some (Value.int IntKind.i64 W) ∧ u.cell? ⟨w6.heap.size, 1, none⟩ = some (Value.slice (some ⟨gx, 0, none⟩) xs.length xs.length)) (simp [*])
      (first
        | (go_at_call 43; refine (toBits_any _ _ _ _ _ ?_).mono ?_; exact rr; rintro e w10 ⟨gt, rfl, hgt, hot, hb10⟩; replace hb10 := undrewX hb10; have c110 := Blk.next (w := w9) bA9 hb10; have c210 := Blk.next (w := w9) bx9 hb10; have c310 := Fr.next (w := w9) fx9 hb10; obtain ⟨y00, y01⟩ := c110.cells; obtain ⟨y10, y11⟩ := c210.cells)
        | (go_at_call 44; refine (eqBits_same _ _ _ _ _ _ _ (c310.rd hl hx) (hot.rd hl hx)).mono ?_; rintro e w11 ⟨rfl, hb11⟩; have hb11' := chain hb10 hb11; have c111 := Blk.next (w := w9) bA9 hb11'; have c211 := Blk.next (w := w9) bx9 hb11'; obtain ⟨x00, x01⟩ := c111.cells; obtain ⟨x10, x11⟩ := c211.cells))
    have sz11 := hb11'.size
    have B11 := chain B9 hb11'
    have bA11 := bA9.next hb11'
    have bB11 := bB9.next hb11'
    have bw11 := bw9.next hb11'
    have bx11 := bx9.next hb11'
    have by11 := by9.next hb11'
    have bg11 := bg9.next hb11'
    have fw11 := fw9.next hb11'
    have fx11 := fx9.next hb11'
    have fy11 := fy9.next hb11'
    have fg11 := fg9.next hb11'
    try clear x00
    try clear x01
    try clear x10
    try clear x11
    try clear y00
    try clear y01
    try clear y10
    try clear y11
    try clear c110
    try clear c210
    try clear c310
    try clear c111
    try clear c211
    try clear hot
    try clear hgt
    try clear rr
    try clear hb11'
    try clear hb11
    try clear hb10
    try clear B9
    try clear bA9
    try clear bB9
    try clear bw9
    try clear bx9
    try clear by9
    try clear bg9
    try clear fw9
    try clear fx9
    try clear fy9
    try clear fg9
    try clear z00
    try clear z01
    try clear z10
    try clear z11
    obtain ⟨z00, z01⟩ := bB11.cells
    obtain ⟨z10, z11⟩ := by11.cells
    have rr := hs.later B11
    go_wp2_with fail
    go_region_held3 (fun u => u.cell? ⟨w.heap.size + 1, 0, none⟩ = some (Value.int IntKind.i64 V) ∧ u.cell? ⟨w.heap.size + 1, 1, none⟩ = some (Value.slice b ys.length d) ∧ u.cell? ⟨w7.heap.size, 0, none⟩ = some (Value.int IntKind.i64 V) ∧ u.cell? ⟨w7.heap.size, 1, none⟩ = some (Value.slice (some ⟨gy, 0, none⟩) ys.length ys.length)) (simp [*])
      (first
        | (go_at_call 43; refine (toBits_any _ _ _ _ _ ?_).mono ?_; exact rr; rintro e w12 ⟨gt, rfl, hgt, hot, hb12⟩; replace hb12 := undrewX hb12; have c112 := Blk.next (w := w11) bB11 hb12; have c212 := Blk.next (w := w11) by11 hb12; have c312 := Fr.next (w := w11) fy11 hb12; obtain ⟨y00, y01⟩ := c112.cells; obtain ⟨y10, y11⟩ := c212.cells)
        | (go_at_call 44; refine (eqBits_same _ _ _ _ _ _ _ (c312.rd hl' hy) (hot.rd hl' hy)).mono ?_; rintro e w13 ⟨rfl, hb13⟩; have hb13' := chain hb12 hb13; have c113 := Blk.next (w := w11) bB11 hb13'; have c213 := Blk.next (w := w11) by11 hb13'; obtain ⟨x00, x01⟩ := c113.cells; obtain ⟨x10, x11⟩ := c213.cells))
    have sz13 := hb13'.size
    have B13 := chain B11 hb13'
    have bA13 := bA11.next hb13'
    have bB13 := bB11.next hb13'
    have bw13 := bw11.next hb13'
    have bx13 := bx11.next hb13'
    have by13 := by11.next hb13'
    have bg13 := bg11.next hb13'
    have fw13 := fw11.next hb13'
    have fx13 := fx11.next hb13'
    have fy13 := fy11.next hb13'
    have fg13 := fg11.next hb13'
    try clear x00
    try clear x01
    try clear x10
    try clear x11
    try clear y00
    try clear y01
    try clear y10
    try clear y11
    try clear c112
    try clear c212
    try clear c312
    try clear c113
    try clear c213
    try clear hot
    try clear hgt
    try clear rr
    try clear hb13'
    try clear hb13
    try clear hb12
    try clear B11
    try clear bA11
    try clear bB11
    try clear bw11
    try clear bx11
    try clear by11
    try clear bg11
    try clear fw11
    try clear fx11
    try clear fy11
    try clear fg11
    try clear z00
    try clear z01
    try clear z10
    try clear z11
    obtain ⟨z00, z01⟩ := bx13.cells
    go_wp2_with fail
    refine (markBits_fr2 _ _ _ 1 _ _ _ _ hl (by omega) fx13).mono ?_
    rintro e w14 ⟨rfl, fx14, hm14⟩
    have B14 := hm14.below fx13 B13 (by omega)
    have bA14 := bA13.mark fx13 hm14 (by decide)
    have bB14 := bB13.mark fx13 hm14 (by decide)
    have bw14 := bw13.mark fx13 hm14 (by decide)
    have bx14 := bx13.mark fx13 hm14 (by decide)
    have by14 := by13.mark fx13 hm14 (by decide)
    have bg14 := bg13.mark fx13 hm14 (by decide)
    have fw14 := fw13.mark fx13 hm14 (by omega)
    have fy14 := fy13.mark fx13 hm14 (by omega)
    have fg14 := fg13.mark fx13 hm14 (by omega)
    have sz14 := hm14.size
    try clear hm14
    try clear B13
    try clear bA13
    try clear bB13
    try clear bw13
    try clear bx13
    try clear by13
    try clear bg13
    try clear fw13
    try clear fy13
    try clear fg13
    try clear fx13
    try clear z00
    try clear z01
    try clear bx14
    try clear fx14
    obtain ⟨z00, z01⟩ := by14.cells
    go_wp2_with fail
    refine (markBits_fr2 _ _ _ (1 + xs.length) _ _ _ _ hl' (by omega) fy14).mono ?_
    rintro e w15 ⟨rfl, fy15, hm15⟩
    have B15 := hm15.below fy14 B14 (by omega)
    have bA15 := bA14.mark fy14 hm15 (by decide)
    have bB15 := bB14.mark fy14 hm15 (by decide)
    have bw15 := bw14.mark fy14 hm15 (by decide)
    have by15 := by14.mark fy14 hm15 (by decide)
    have bg15 := bg14.mark fy14 hm15 (by decide)
    have fw15 := fw14.mark fy14 hm15 (by omega)
    have fg15 := fg14.mark fy14 hm15 (by omega)
    have sz15 := hm15.size
    try clear hm15
    try clear B14
    try clear bA14
    try clear bB14
    try clear bw14
    try clear by14
    try clear bg14
    try clear fw14
    try clear fg14
    try clear fy14
    try clear z00
    try clear z01
    try clear by15
    try clear fy15
    obtain ⟨z00, z01⟩ := bg15.cells
    obtain ⟨z10, z11⟩ := bw15.cells
    go_wp2_with fail
    refine (eqBits_same _ _ _ _ _ _ _ (fg15.rd hRl hRx) (fw15.rd hRl hRx)).mono ?_
    rintro e w16 ⟨rfl, hb16⟩
    have B16 := chain B15 hb16
    have bA16 := bA15.next hb16
    have bB16 := bB15.next hb16
    have bw16 := bw15.next hb16
    have bg16 := bg15.next hb16
    have fw16 := fw15.next hb16
    have fg16 := fg15.next hb16
    have sz16 := hb16.size
    try clear hb16
    try clear B15
    try clear bA15
    try clear bB15
    try clear bw15
    try clear bg15
    try clear fw15
    try clear fg15
    try clear z00
    try clear z01
    try clear z10
    try clear z11
    obtain ⟨z00, z01⟩ := bg16.cells
    go_wp2_with fail
    refine (markBits_fr2 _ _ _ 1 _ _ _ _ hRl (by omega) fg16).mono ?_
    rintro e w17 ⟨rfl, fg17, hm17⟩
    have B17 := hm17.below fg16 B16 (by omega)
    have bA17 := bA16.mark fg16 hm17 (by decide)
    have bB17 := bB16.mark fg16 hm17 (by decide)
    have bw17 := bw16.mark fg16 hm17 (by decide)
    have bg17 := bg16.mark fg16 hm17 (by decide)
    have fw17 := fw16.mark fg16 hm17 (by omega)
    have sz17 := hm17.size
    try clear hm17
    try clear B16
    try clear bA16
    try clear bB16
    try clear bw16
    try clear bg16
    try clear fw16
    try clear fg16
    try clear z00
    try clear z01
    obtain ⟨z00, z01⟩ := bg17.cells
    go_wp2_with fail
    refine (heldBits_fr _ _ _ 1 _ _ _ _ (by omega) hRl fg17).mono ?_
    rintro e w18 ⟨rfl, hb18⟩
    have B18 := chain B17 hb18
    have bA18 := bA17.next hb18
    have bB18 := bB17.next hb18
    have bw18 := bw17.next hb18
    have bg18 := bg17.next hb18
    have fw18 := fw17.next hb18
    have fg18 := fg17.next hb18
    try clear hb18
    try clear B17
    try clear bA17
    try clear bB17
    try clear bw17
    try clear bg17
    try clear fw17
    try clear fg17
    try clear z00
    try clear z01
    try clear sz3
    try clear sz4
    try clear sz5
    try clear sz6
    try clear sz7
    try clear sz8
    try clear sz9
    try clear sz10
    try clear sz11
    try clear sz12
    try clear sz13
    try clear sz14
    try clear sz15
    try clear sz16
    try clear sz17
    try clear l5
    try clear l6
    try clear l7
    try clear l8
    try clear l9
    try clear lw8
    obtain ⟨z00, z01⟩ := bA18.cells
    obtain ⟨z10, z11⟩ := bB18.cells
    have rr := hr.later B18
    have ss := hs.later B18
    have laP := bA18.lt
    have lbP := bB18.lt
    go_wp2_with fail
    go_region_held3 (fun u => u.cell? ⟨w.heap.size, 0, none⟩ = some (Value.int IntKind.i64 W) ∧ u.cell? ⟨w.heap.size, 1, none⟩ = some (Value.slice a xs.length c) ∧ u.cell? ⟨w.heap.size + 1, 0, none⟩ = some (Value.int IntKind.i64 V) ∧ u.cell? ⟨w.heap.size + 1, 1, none⟩ = some (Value.slice b ys.length d)) (first | (refine ⟨?_, ?_, ?_, ?_⟩ <;> assumption) | (refine ⟨?_, ?_, ?_, ?_⟩ <;> (rw [acell _ _ _ (by omega)]; assumption)) | exact ⟨(acell _ _ _ laP).trans z00, (acell _ _ _ laP).trans z01, (acell _ _ _ lbP).trans z10, (acell _ _ _ lbP).trans z11⟩ | (refine ⟨?_, ?_, ?_, ?_⟩ <;> (rw [World.cell?_setCell_far _ _ _ _ (by simp <;> omega), World.cell?_setCell_far _ _ _ _ (by simp <;> omega)]; assumption)) | exact ⟨z00, z01, z10, z11⟩)
      (first
        | (go_at_call_of 43 xs; refine (toBits_any _ _ _ _ _ ?_).mono ?_; (first | exact rr | exact rr.later (Ba (Below.refl _ _).drew _)); rintro e w19 ⟨ga, rfl, hga, hoa, hb19⟩; have hc19 : Below w18.heap.size w18 w19 := (by first | exact undrewX hb19 | exact chain (W := w18) (Ba (Below.refl _ _).drew _) hb19); (try have bz19 : Blk w19 w18.heap.size (Value.int IntKind.i64 0) (Value.slice none 0 0) 26 := Blk.next (Blk.new w18.drew (Value.int IntKind.i64 0) (Value.slice none 0 0) 26) hb19); have bA19 := Blk.next (w := w18) bA18 hc19; have bB19 := Blk.next (w := w18) bB18 hc19; have la19 := bA19.lt; have lb19 := bB19.lt; obtain ⟨y00, y01⟩ := bA19.cells; obtain ⟨y10, y11⟩ := bB19.cells)
        | (go_at_call_of 43 ys; refine (toBits_any _ _ _ _ _ ?_).mono ?_; (first | exact ss.later hc19 | exact ss.later (Ba hc19 _)); rintro e w20 ⟨gb, rfl, hgb, hob, hb20⟩; have hc20 : Below w18.heap.size w18 w20 := (by first | exact chain hc19 hb20 | exact chain (Ba hc19 _) hb20); have hoa' : Own w20 ga xs := (by first | exact hoa.later hb20 hoa.lt | exact (hoa.alloc _).later hb20 (hoa.alloc _).lt); (try have bz20 := bz19.next hb20); (try have bz20 : Blk w20 w19.heap.size (Value.int IntKind.i64 0) (Value.slice none 0 0) 26 := Blk.next (Blk.new w19 (Value.int IntKind.i64 0) (Value.slice none 0 0) 26) hb20); (try have zl := bz20.lt); have bA20 := Blk.next (w := w18) bA18 hc20; have bB20 := Blk.next (w := w18) bB18 hc20; have la20 := bA20.lt; have lb20 := bB20.lt; obtain ⟨x00, x01⟩ := bA20.cells; obtain ⟨x10, x11⟩ := bB20.cells)
        | (go_at_call 30; refine (HI.out _ _ _ _ _ ?_ ?_).mono ?_; (first | exact hoa'.rd hl hx | exact (hoa'.alloc _).rd hl hx); (first | exact hob.rd hl' hy | exact (hob.alloc _).rd hl' hy); intro e w21 hret; obtain ⟨aw, cw, rfl, ff21, hb21⟩ := hret.fr; have hc21 : Below w18.heap.size w18 w21 := (by first | exact chain hc20 hb21 | exact chain (Ba hc20 _) hb21); (try have bz21 := bz20.next hb21); (try have bz21 : Blk w21 w20.heap.size (Value.int IntKind.i64 0) (Value.slice none 0 0) 26 := Blk.next (Blk.new w20 (Value.int IntKind.i64 0) (Value.slice none 0 0) 26) hb21); (try (obtain ⟨zz0, zz1⟩ := bz21.cells; have zf0 := bz21.free 0; have zf1 := bz21.free 1)); have bA21 := Blk.next (w := w18) bA18 hc21; have bB21 := Blk.next (w := w18) bB18 hc21; have la21 := bA21.lt; have lb21 := bB21.lt; obtain ⟨u00, u01⟩ := bA21.cells; obtain ⟨u10, u11⟩ := bB21.cells))
    all_goals (
      try dsimp only at ff21
      first
        | (have bwF : Blk ((w21.setCell ⟨w18.heap.size, 0, none⟩ (Value.int IntKind.i64 RW)).setCell ⟨w18.heap.size, 1, none⟩ (Value.slice aw ry.length cw)) w18.heap.size (Value.int IntKind.i64 RW) (Value.slice aw ry.length cw) 26 := bz21.set2 _ _; have hcF : Below w18.heap.size w18 ((w21.setCell ⟨w18.heap.size, 0, none⟩ (Value.int IntKind.i64 RW)).setCell ⟨w18.heap.size, 1, none⟩ (Value.slice aw ry.length cw)) := (hc21.setCell (by first | exact Nat.le_refl _ | exact hc19.size | exact hc20.size) _).setCell (by first | exact Nat.le_refl _ | exact hc19.size | exact hc20.size) _; have ffF := (ff21.set2 (β := w18.heap.size) (by first | exact zl | simp) (Value.int IntKind.i64 RW) (Value.slice aw ry.length cw)).any; have bAF := bA21.far2 (β := w18.heap.size) (by omega) (Value.int IntKind.i64 RW) (Value.slice aw ry.length cw); have bBF := bB21.far2 (β := w18.heap.size) (by omega) (Value.int IntKind.i64 RW) (Value.slice aw ry.length cw); generalize ((w21.setCell ⟨w18.heap.size, 0, none⟩ (Value.int IntKind.i64 RW)).setCell ⟨w18.heap.size, 1, none⟩ (Value.slice aw ry.length cw)) = wF21 at *)
        | (have bwF : Blk ((w21.setCell ⟨w19.heap.size, 0, none⟩ (Value.int IntKind.i64 RW)).setCell ⟨w19.heap.size, 1, none⟩ (Value.slice aw ry.length cw)) w19.heap.size (Value.int IntKind.i64 RW) (Value.slice aw ry.length cw) 26 := bz21.set2 _ _; have hcF : Below w18.heap.size w18 ((w21.setCell ⟨w19.heap.size, 0, none⟩ (Value.int IntKind.i64 RW)).setCell ⟨w19.heap.size, 1, none⟩ (Value.slice aw ry.length cw)) := (hc21.setCell (by first | exact Nat.le_refl _ | exact hc19.size | exact hc20.size) _).setCell (by first | exact Nat.le_refl _ | exact hc19.size | exact hc20.size) _; have ffF := (ff21.set2 (β := w19.heap.size) (by first | exact zl | simp) (Value.int IntKind.i64 RW) (Value.slice aw ry.length cw)).any; have bAF := bA21.far2 (β := w19.heap.size) (by omega) (Value.int IntKind.i64 RW) (Value.slice aw ry.length cw); have bBF := bB21.far2 (β := w19.heap.size) (by omega) (Value.int IntKind.i64 RW) (Value.slice aw ry.length cw); generalize ((w21.setCell ⟨w19.heap.size, 0, none⟩ (Value.int IntKind.i64 RW)).setCell ⟨w19.heap.size, 1, none⟩ (Value.slice aw ry.length cw)) = wF21 at *)
        | (have bwF : Blk ((w21.setCell ⟨w20.heap.size, 0, none⟩ (Value.int IntKind.i64 RW)).setCell ⟨w20.heap.size, 1, none⟩ (Value.slice aw ry.length cw)) w20.heap.size (Value.int IntKind.i64 RW) (Value.slice aw ry.length cw) 26 := bz21.set2 _ _; have hcF : Below w18.heap.size w18 ((w21.setCell ⟨w20.heap.size, 0, none⟩ (Value.int IntKind.i64 RW)).setCell ⟨w20.heap.size, 1, none⟩ (Value.slice aw ry.length cw)) := (hc21.setCell (by first | exact Nat.le_refl _ | exact hc19.size | exact hc20.size) _).setCell (by first | exact Nat.le_refl _ | exact hc19.size | exact hc20.size) _; have ffF := (ff21.set2 (β := w20.heap.size) (by first | exact zl | simp) (Value.int IntKind.i64 RW) (Value.slice aw ry.length cw)).any; have bAF := bA21.far2 (β := w20.heap.size) (by omega) (Value.int IntKind.i64 RW) (Value.slice aw ry.length cw); have bBF := bB21.far2 (β := w20.heap.size) (by omega) (Value.int IntKind.i64 RW) (Value.slice aw ry.length cw); generalize ((w21.setCell ⟨w20.heap.size, 0, none⟩ (Value.int IntKind.i64 RW)).setCell ⟨w20.heap.size, 1, none⟩ (Value.slice aw ry.length cw)) = wF21 at *)
        | (have bwF := Blk.new w21 (Value.int IntKind.i64 RW) (Value.slice aw ry.length cw) 26; have hcF : Below w18.heap.size w18 (w21.alloc (Obj.cells #[Value.int IntKind.i64 RW, Value.slice aw ry.length cw] 26)) := Ba hc21 _; have ffF := (ff21.alloc (Obj.cells #[Value.int IntKind.i64 RW, Value.slice aw ry.length cw] 26)).any; have bAF := bA21.alloc (Obj.cells #[Value.int IntKind.i64 RW, Value.slice aw ry.length cw] 26); have bBF := bB21.alloc (Obj.cells #[Value.int IntKind.i64 RW, Value.slice aw ry.length cw] 26); generalize (w21.alloc (Obj.cells #[Value.int IntKind.i64 RW, Value.slice aw ry.length cw] 26)) = wF21 at *)
      try clear y00
      try clear y01
      try clear y10
      try clear y11
      try clear x00
      try clear x01
      try clear x10
      try clear x11
      try clear u00
      try clear u01
      try clear u10
      try clear u11
      try clear zz0
      try clear zz1
      try clear zf0
      try clear zf1
      try clear zl
      try clear hga
      try clear hgb
      try clear hoa
      try clear hob
      try clear hoa'
      try clear hret
      try clear rr
      try clear ss
      try clear laP
      try clear lbP
      try clear bz19
      try clear bA19
      try clear bB19
      try clear la19
      try clear lb19
      try clear bz20
      try clear bA20
      try clear bB20
      try clear la20
      try clear lb20
      try clear bz21
      try clear bA21
      try clear bB21
      try clear la21
      try clear lb21
      try clear ff21
      have B21 := chain B18 hcF
      have bw21 := bw18.next hcF
      have bg21 := bg18.next hcF
      have fw21 := fw18.next hcF
      have fg21 := fg18.next hcF
      have bA21 := bAF
      have bB21 := bBF
      have ff21 := ffF
      have bW21 := bwF
      try clear bAF
      try clear bBF
      try clear ffF
      try clear bwF
      try clear B18
      try clear bw18
      try clear bg18
      try clear fw18
      try clear fg18
      try clear bA18
      try clear bB18
      try clear hcF
      try clear hb19
      try clear hc19
      try clear hb20
      try clear hc20
      try clear hb21
      try clear hc21
      try clear z00
      try clear z01
      try clear z10
      try clear z11
      obtain ⟨z00, z01⟩ := bw21.cells
      obtain ⟨z10, z11⟩ := bW21.cells
      have lw21 := bw21.lt
      go_wp2_with fail
      refine (eqBits_same _ _ _ _ _ _ _ (ff21.rd hRl hRx) (fw21.rd hRl hRx)).mono ?_
      rintro e w22 ⟨rfl, hb22⟩
      have B22 := chain B21 hb22
      have bw22 := bw21.next hb22
      have bg22 := bg21.next hb22
      have bA22 := bA21.next hb22
      have bB22 := bB21.next hb22
      have bh22 := bW21.next hb22
      have fw22 := fw21.next hb22
      have fg22 := fg21.next hb22
      have fh22 := ff21.next hb22
      try clear hb22
      try clear B21
      try clear bw21
      try clear bg21
      try clear bA21
      try clear bB21
      try clear bW21
      try clear fw21
      try clear fg21
      try clear ff21
      try clear z00
      try clear z01
      try clear z10
      try clear z11
      obtain ⟨z00, z01⟩ := bg22.cells
      go_wp2_with fail
      refine (heldBits_fr _ _ _ 1 _ _ _ _ (by omega) hRl fg22).mono ?_
      rintro e w23 ⟨rfl, hb23⟩
      have B23 := chain B22 hb23
      go_wp2
      go_ret
      exact ⟨rfl, B23⟩))

theorem joinR_ok (W : Int) (xs : List Nat) (V : Int) (ys : List Nat) : (joinR W xs V ys).2.1.length ≤ 1048576 ∧ ∀ x ∈ (joinR W xs V ys).2.1, x < 18446744073709551616 := by
  unfold joinR fromR
  split
  · split
    · refine ⟨?_, pack_lt _⟩
      simp only [pack_len]
      omega
    · exact ⟨by simp, by simp⟩
  · exact ⟨by simp [noR], by simp [noR]⟩

theorem walk_FnExactJoinBits (W : Int) (a : Option Addr) (n c : Nat) (_ : (Lit.int .i64 W).wf = true) (hn : n ≤ 9223372036854775807) (V : Int) (b : Option Addr) (m d : Nat) (_ : (Lit.int .i64 V).wf = true) (hm : m ≤ 9223372036854775807) (w : World)
    (hx : n ≤ 1048576 → ∃ xs : List Nat, xs.length = n ∧ Rd w a xs) (hy : m ≤ 1048576 → ∃ xs : List Nat, xs.length = m ∧ Rd w b xs) :
    Calls Try.prog 12 #[.agg #[.int .i64 W, .slice a n c], .agg #[.int .i64 V, .slice b m d]] w fun e w' => e = .returned (.bool true) ∧ Below w.heap.size w w' := by
  rcases Nat.lt_or_ge 1048576 n with h | h
  · exact lawB1_FnExactJoinBits W a n c V b m d w h hn
  · rcases Nat.lt_or_ge 1048576 (n + m) with h' | h'
    · exact lawB2_FnExactJoinBits W a n c V b m d w h h' hm
    · obtain ⟨xs, rfl, hr⟩ := hx h
      obtain ⟨ys, rfl, hs⟩ := hy (by omega)
      exact lawS_FnExactJoinBits W a c xs V b d ys (joinR W xs V ys).1 (joinR W xs V ys).2.1 (joinR W xs V ys).2.2 (joinR_ok W xs V ys).1 (joinR_ok W xs V ys).2 w hr hs h' (fun u a b c d hu hv => specJoin_any W a c xs V b d ys u hu hv) (fun u a b c d hu hv => implJoin_any W a c xs V b d ys u hu hv)

end Go.Proofs.Ytjlfcnaigadjcaa

