/- The law FnExactSessionOk returns true, whatever it is handed. -/
import Derived.Test.YthgamfklfjjdoaaDoorSSJ
import Derived.Test.YthgamfklfjjdoaaDoorSSK
import Derived.Test.YthgamfklfjjdoaaDoorZKO
namespace Go.Proofs.YthgamfklfjjdoaaDoor
set_option linter.unusedVariables false
set_option linter.unusedSimpArgs false
open Go.RowKit

set_option maxHeartbeats 2000000 in
set_option maxRecDepth 100000 in
theorem law_yes_FnExactSessionOk (a b : Option Addr) (c e m : Nat) (nx Z : Int) (ds : List Dc) (xs : List Sg) (w : World) (hr : RdD w a ds) (hs : RdS w b xs) (hm : xs.length = m) (hT : (xs.flatMap Sg.ls).length ≤ 1048576) (hG : GF w) (hnx : in64 nx) (hz : 0 ≤ Z)
    (HSZ : Hid (∀ u, Below w.heap.size w u → Calls Tryd.prog 5 #[.agg #[.slice a ds.length c, .slice b m e, .int .i64 nx], .int .i64 1048576] u fun e w' => e = .returned (.int .i64 Z) ∧ Below u.heap.size u w')) :
    Calls Tryd.prog 3 #[.agg #[.slice a ds.length c, .slice b m e, .int .i64 nx]] w fun e w' => e = .returned (.bool true) ∧ Below w.heap.size w w' := by
  have HG := kide (fun u (hu : Below w.heap.size w u) => hG.later hu)
  have HTS := kide (fun u (hu : Below w.heap.size w u) => toSession_any a b c e m nx ds xs u (hr.later hu) (hs.later hu) hm)
  have HM := kide hm
  have HT := kide hT
  have B0 := kide (ses_box w (.cells #[Value.slice a ds.length c, Value.slice b m e, Value.int .i64 nx] 25))
  have X0 : Hid (Bz (w.alloc (.cells #[Value.slice a ds.length c, Value.slice b m e, Value.int .i64 nx] 25)) w.heap.size #[Value.slice a ds.length c, Value.slice b m e, Value.int .i64 nx] 25) := Bz.new _ _ _
  have HDL : Hid (∃ dn, ds.length = dn) := ⟨_, rfl⟩
  clear hr hs hm hT hG
  obtain ⟨dn, hdn⟩ := HDL.out
  have HDN := kide hdn
  rw [hdn] at HSZ HTS B0 X0
  rw [hdn]
  clear hdn HDL
  go_enter Tryd.func3, Tryd.ntmps3
  go_wp2_with fail
  have hsz0 : w.heap.size < (w.alloc (.cells #[Value.slice a dn c, Value.slice b m e, Value.int .i64 nx] 25)).heap.size := X0.out.lt
  generalize w.alloc (.cells #[Value.slice a dn c, Value.slice b m e, Value.int .i64 nx] 25) = W0 at *
  refine Calls.mono (HSZ.out _ B0.out) ?_
  rintro e1 w1 ⟨rfl, hb1⟩
  have B1 := kide (B0.out.trans (hb1.mono B0.out.size))
  have X1 := kide (X0.out.later hb1)
  have x0 := X1.out.cell 0
  have x1 := X1.out.cell 1
  have x2 := X1.out.cell 2
  simp at x0 x1 x2
  clear hb1 HSZ B0 X0
  go_wp2_with fail
  refine Calls.mono (HTS.out _ B1.out) ?_
  rintro e2 w2 ⟨g1, g2, m2, rfl, hm2, r2, s2, nn2, hb2⟩
  have B2 := kide (B1.out.trans (hb2.mono B1.out.size))
  have X2 := kide (X1.out.later hb2)
  have hl2 : m2.length = m := by have := congrArg List.length hm2; simp at this; rw [this]; exact HM.out
  have hf2 : (m2.flatMap Sg.ls).length ≤ 1048576 := by
    have h := congrArg List.length (allL_map m2)
    rw [hm2, ← allL_map, List.length_map, List.length_map] at h
    rw [h]; exact HT.out
  have HSP := kide (specSession_any (some ⟨g1, 0, none⟩) (some ⟨g2, 0, none⟩) dn m m nx ds m2 w2 r2 s2 hl2 hf2 hnx (by rw [HDN.out]; exact Nat.le_refl _))
  rw [hm2, HDN.out] at HSP
  clear hb2 r2 s2 nn2 hm2 hl2 hf2 X1 B1 x0 x1 x2
  have x0 := X2.out.cell 0
  have x1 := X2.out.cell 1
  have x2 := X2.out.cell 2
  simp at x0 x1 x2
  go_wp2_with fail
  refine Calls.mono HSP.out ?_
  rintro e3 w3 ⟨rfl, hb3⟩
  have B3 := kide (B2.out.trans (hb3.mono B2.out.size))
  have X3 := kide (X2.out.later hb3)
  clear hb3 HSP X2 B2 x0 x1 x2
  have x0 := X3.out.cell 0
  have x1 := X3.out.cell 1
  have x2 := X3.out.cell 2
  simp at x0 x1 x2
  go_wp2_with fail
  refine Calls.mono (HTS.out _ B3.out) ?_
  rintro e4 w4 ⟨h1, h2, m4, rfl, hm4, r4, s4, nn4, hb4⟩
  have B4 := kide (B3.out.trans (hb4.mono B3.out.size))
  have X4 := kide (X3.out.later hb4)
  have R4 := kide r4
  have S4 := kide s4
  have M4 := kide hm4
  have NN4 := kide nn4
  clear hb4 r4 s4 hm4 nn4 X3 B3 x0 x1 x2
  have x0 := X4.out.cell 0
  have x1 := X4.out.cell 1
  have x2 := X4.out.cell 2
  simp at x0 x1 x2
  have xl := X4.out.lt
  go_wp2_with fail
  have hbx := ses_box w4 (.cells #[Value.slice (some ⟨h1, 0, none⟩) dn dn, Value.slice (some ⟨h2, 0, none⟩) m m, Value.int .i64 nx] 31)
  have B5 := kide (B4.out.trans (hbx.mono B4.out.size))
  have X5 := kide (X4.out.later hbx)
  have Y5 : Hid (Bz (w4.alloc (.cells #[Value.slice (some ⟨h1, 0, none⟩) dn dn, Value.slice (some ⟨h2, 0, none⟩) m m, Value.int .i64 nx] 31)) w4.heap.size #[Value.slice (some ⟨h1, 0, none⟩) dn dn, Value.slice (some ⟨h2, 0, none⟩) m m, Value.int .i64 nx] 31) := Bz.new _ _ _
  have R5 := kide (R4.out.later hbx)
  have S5 := kide (S4.out.later hbx)
  generalize w4.alloc (.cells #[Value.slice (some ⟨h1, 0, none⟩) dn dn, Value.slice (some ⟨h2, 0, none⟩) m m, Value.int .i64 nx] 31) = w5 at *
  generalize w4.heap.size = By at *
  have hl4 : m4.length = m := by have := congrArg List.length M4.out; simp at this; rw [this]; exact HM.out
  have HL4 := kide hl4
  have hf4 : (m4.flatMap Sg.ls).length ≤ 1048576 := by
    have h := congrArg List.length (allL_map m4)
    rw [M4.out, ← allL_map, List.length_map, List.length_map] at h
    rw [h]; exact HT.out
  have HIM := kide (implSession_any (some ⟨h1, 0, none⟩) (some ⟨h2, 0, none⟩) dn m m nx ds m4 w5 R5.out S5.out hl4 hf4 NN4.out (HG.out _ B5.out) hnx (by rw [HDN.out]; exact Nat.le_refl _))
  rw [M4.out, HDN.out] at HIM
  clear hbx hl4 hf4 B4 X4 R4 S4 x0 x1 x2 xl
  refine Calls.mono HIM.out ?_
  rintro e6 w6 ⟨rfl, hb6⟩
  have B6 := kide (B5.out.trans (hb6.mono B5.out.size))
  have X6 := kide (X5.out.later hb6)
  have Y6 := kide (Y5.out.later hb6)
  have R6 := kide (R5.out.later hb6)
  have S6 := kide (S5.out.later hb6)
  clear hb6 B5 X5 Y5 R5 S5 HIM
  generalize sesR ds (xs.map Sg.ct) nx = V at *
  have hbb : (V != V) = false := by simp
  have x0 := X6.out.cell 0
  have x1 := X6.out.cell 1
  have x2 := X6.out.cell 2
  have y0 := Y6.out.cell 0
  have y1 := Y6.out.cell 1
  have y2 := Y6.out.cell 2
  simp at x0 x1 x2 y0 y1 y2
  have lx := X6.out.lt
  have ly := Y6.out.lt
  have HEQ : Hid (∀ (u : World) (k1 k2 : Nat) (m7 : List Sg), RdD u (some ⟨h1, 0, none⟩) ds → RdD u (some ⟨k1, 0, none⟩) ds → RdS u (some ⟨h2, 0, none⟩) m4 → RdS u (some ⟨k2, 0, none⟩) m7 → m7.map Sg.ct = xs.map Sg.ct → Calls Tryd.prog 9 #[.agg #[.slice (some ⟨h1, 0, none⟩) dn dn, .slice (some ⟨h2, 0, none⟩) m m, .int .i64 nx], .agg #[.slice (some ⟨k1, 0, none⟩) dn dn, .slice (some ⟨k2, 0, none⟩) m m, .int .i64 nx]] u fun e w' => e = .returned (.bool true) ∧ Below u.heap.size u w') := fun u k1 k2 m7 a1 a2 a3 a4 a5 => by
    have h7 : m7.length = m := by have := congrArg List.length a5; simp at this; rw [this]; exact HM.out
    have := eqSession_same nx (some ⟨h1, 0, none⟩) (some ⟨k1, 0, none⟩) (some ⟨h2, 0, none⟩) (some ⟨k2, 0, none⟩) dn dn m m m ds m4 m7 u a1 a2 a3 a4 (M4.out.trans a5.symm) HL4.out h7
    rw [HDN.out] at this
    exact this
  go_wp2_with fail
  go_region_held3 (fun u => u.cell? ⟨w.heap.size, 0, none⟩ = some (Value.slice a dn c) ∧ u.cell? ⟨w.heap.size, 1, none⟩ = some (Value.slice b m e) ∧ u.cell? ⟨w.heap.size, 2, none⟩ = some (Value.int .i64 nx) ∧ u.cell? ⟨By, 0, none⟩ = some (Value.slice (some ⟨h1, 0, none⟩) dn dn) ∧ u.cell? ⟨By, 1, none⟩ = some (Value.slice (some ⟨h2, 0, none⟩) m m) ∧ u.cell? ⟨By, 2, none⟩ = some (Value.int .i64 nx)) (simp [*])
    (first
      | (go_at_call 9; refine Calls.mono (HEQ.out _ k1 k2 m7 R7.out Q7.out S7.out T7.out M7.out) ?_; rintro e8 w8 ⟨rfl, hb8⟩; have B8 := kide (B7.out.trans (hb8.mono B7.out.size)); have vx0 := (kcell hb8 w.heap.size 0 lx7).trans (ux0.trans x0); have vx1 := (kcell hb8 w.heap.size 1 lx7).trans (ux1.trans x1); have vx2 := (kcell hb8 w.heap.size 2 lx7).trans (ux2.trans x2); have vy0 := (kcell hb8 By 0 ly7).trans (uy0.trans y0); have vy1 := (kcell hb8 By 1 ly7).trans (uy1.trans y1); have vy2 := (kcell hb8 By 2 ly7).trans (uy2.trans y2))
      | (go_at_call 7; refine Calls.mono (HTS.out _ ?_) ?_; exact B6.out.drew; rintro e7 w7 ⟨k1, k2, m7, rfl, hm7, r7, s7, nn7, hb7⟩; replace hb7 := kundrew hb7; have B7 := kide (B6.out.trans (hb7.mono B6.out.size)); have R7 := kide (R6.out.later hb7); have S7 := kide (S6.out.later hb7); have Q7 := kide r7; have T7 := kide s7; have M7 := kide hm7; have lx7 := Nat.lt_of_lt_of_le lx hb7.size; have ly7 := Nat.lt_of_lt_of_le ly hb7.size; have ux0 := kcell hb7 w.heap.size 0 lx; have ux1 := kcell hb7 w.heap.size 1 lx; have ux2 := kcell hb7 w.heap.size 2 lx; have uy0 := kcell hb7 By 0 ly; have uy1 := kcell hb7 By 1 ly; have uy2 := kcell hb7 By 2 ly; clear r7 s7 hm7 nn7))
  go_wp2_with fail
  go_ret
  exact ⟨rfl, B8.out⟩

theorem law_big_FnExactSessionOk (a b : Option Addr) (n c e m : Nat) (nx Z : Int) (w : World) (hz : Z < 0)
    (HSZ : Hid (∀ u, Below w.heap.size w u → Calls Tryd.prog 5 #[.agg #[.slice a n c, .slice b m e, .int .i64 nx], .int .i64 1048576] u fun e w' => e = .returned (.int .i64 Z) ∧ Below u.heap.size u w')) :
    Calls Tryd.prog 3 #[.agg #[.slice a n c, .slice b m e, .int .i64 nx]] w fun e w' => e = .returned (.bool true) ∧ Below w.heap.size w w' := by
  have B0 := kide (ses_box w (.cells #[Value.slice a n c, Value.slice b m e, Value.int .i64 nx] 25))
  go_enter Tryd.func3, Tryd.ntmps3
  go_wp2_with fail
  refine Calls.mono (HSZ.out _ B0.out) ?_
  rintro e1 w1 ⟨rfl, hb1⟩
  go_wp2_with fail
  go_ret
  exact ⟨rfl, B0.out.trans (hb1.mono B0.out.size)⟩

theorem walk_FnExactSessionOk (a : Option Addr) (n c : Nat) (b : Option Addr) (m e : Nat) (nx : Int) (W : World) (hG : GF W) (hnx : in64 nx) (hn : n ≤ 9223372036854775807) (hm : m ≤ 9223372036854775807)
    (hx : n ≤ 1048576 → ∃ ds : List Dc, ds.length = n ∧ RdD W a ds) (hy : m ≤ 1048576 → ∃ hs : List Sh, hs.length = m ∧ RdSh W b hs ∧ ∀ h ∈ hs, ScpOf W h) :
    Calls Tryd.prog 3 #[.agg #[.slice a n c, .slice b m e, .int .i64 nx]] W fun e w' => e = .returned (.bool true) ∧ Below W.heap.size W w' := by
  obtain ⟨Z, HSZ, hZ | ⟨hZ, ds, xs, rfl, hxl, hT, hr, hs⟩⟩ := size_session a n c b m e nx W hn hm hx hy
  · exact law_big_FnExactSessionOk a b n c e m nx Z W hZ HSZ
  · exact law_yes_FnExactSessionOk a b c e m nx Z ds xs W hr hs hxl hT hG hnx hZ HSZ

end Go.Proofs.YthgamfklfjjdoaaDoor
