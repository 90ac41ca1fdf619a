/- The law FnExactCrowdOf returns true, whatever it is handed. -/
import Derived.Test.YtddgldfjeklhbaaBW
import Derived.Test.YtddgldfjeklhbaaJQ
namespace Go.Proofs.Ytddgldfjeklhbaa
set_option linter.unusedVariables false
set_option linter.unusedSimpArgs false
open Go.RowKit

theorem Bx.cells2 {w wk : World} {v0 v1 : Value} {t : TypeId} (h : Bx w (.cells #[v0, v1] t) wk) : wk.cell? ⟨w.heap.size, 0, none⟩ = some v0 ∧ wk.cell? ⟨w.heap.size, 1, none⟩ = some v1 := ⟨by simpa using h.one 0, by simpa using h.one 1⟩

set_option maxHeartbeats 1000000 in
set_option maxRecDepth 100000 in
theorem law_yes_FnExactCrowdOf (z : Gz) (x : Int) (w : World) (hz : RdG w z) (Z : Int) (hZ : 0 ≤ Z)
    (HSZ : Hid (∀ u, Below w.heap.size w u → Calls Try.prog 14 #[z.val, .int .i64 1048576] u fun e w' => e = .returned (.int .i64 Z) ∧ Below u.heap.size u w')) :
    Calls Try.prog 4 #[z.val, .int .i64 x] w fun e w' => e = .returned (.bool true) ∧ Below w.heap.size w w' := by
  have HTC := kide (fun u (hu : Below w.heap.size w u) => toGraph_any z u (hz.later hu))
  clear hz
  generalize hct : z.ct = ct at *
  obtain ⟨a1, c1, ks, a2, c2, bs⟩ := z
  simp only [Gz.val] at HSZ HTC ⊢
  clear hct
  generalize ks.length = n1 at *
  generalize bs.length = n2 at *
  have s0 := Bx.start w (.cells #[.slice a1 n1 c1, .slice a2 n2 c2] 36)
  go_enter Try.func4, Try.ntmps4
  go_wp2_with fail
  refine Calls.mono (HSZ.out _ s0.below) ?_
  rintro e w1 ⟨rfl, hb1⟩
  have s1 := s0.next hb1
  obtain ⟨k0, k1⟩ := s1.cells2
  clear hb1 s0
  go_wp2_with fail
  refine Calls.mono (HTC.out w1 s1.below) ?_
  rintro e w2 ⟨y2, rfl, hct2, r2, hb2⟩
  have s2 := s1.next hb2
  have HSP := kide (specCrowd_any y2 x w2 r2)
  rw [show crwR y2.ks (y2.bs.map Yg.ct) x = crwR ct.1 ct.2 x by rw [← hct2]; rfl] at HSP
  obtain ⟨b1, d1, js, b2, d2, es⟩ := y2
  simp only [Gz.val] at HSP ⊢
  clear hb2 s1 k0 k1 r2 hct2
  go_wp2_with fail
  refine Calls.mono HSP.out ?_
  rintro e w3 ⟨rfl, hb3⟩
  have s3 := s2.next hb3
  obtain ⟨k0, k1⟩ := s3.cells2
  clear hb3 s2 HSP
  go_wp2_with fail
  refine Calls.mono (HTC.out w3 s3.below) ?_
  rintro e w4 ⟨y4, rfl, hct4, r4, hb4⟩
  have s4 := s3.next hb4
  have HIM := kide (fun u (hu : Below w4.heap.size w4 u) => implCrowd_any y4 x u (r4.later hu))
  rw [show crwR y4.ks (y4.bs.map Yg.ct) x = crwR ct.1 ct.2 x by rw [← hct4]; rfl] at HIM
  have HEQ := kide (fun u (hu : Below w4.heap.size w4 u) (t : Gz) (ht : RdG u t) (hc : t.ct = ct) => eqGraph_same y4 t u (r4.later hu) ht (hct4.trans hc.symm))
  have YV : Hid (y4.val = .agg #[.slice y4.a1 y4.ks.length y4.c1, .slice y4.a2 y4.bs.length y4.c2]) := rfl
  simp only [Gz.val] at HIM HEQ
  generalize crwR ct.1 ct.2 x = V at *
  generalize y4.ks.length = m1 at *
  generalize y4.bs.length = m2 at *
  generalize y4.a1 = e1 at *
  generalize y4.a2 = e2 at *
  generalize y4.c1 = f1 at *
  generalize y4.c2 = f2 at *
  have t5 := Bx.start w4 (.cells #[.slice e1 m1 f1, .slice e2 m2 f2] 40)
  have hbx : Below w4.heap.size w4 (w4.alloc (Obj.cells #[Value.slice e1 m1 f1, Value.slice e2 m2 f2] 40)) := (Below.refl _ _).alloc (Nat.le_refl _) _
  have s5 := s4.next hbx
  have B5 := kide hbx
  have HIM5 := kide (HIM.out _ hbx)
  clear hb4 s3 s4 k0 k1 r4 hct4 YV hbx
  go_wp2_with fail
  generalize w4.alloc (Obj.cells #[Value.slice e1 m1 f1, Value.slice e2 m2 f2] 40) = w5 at *
  refine Calls.mono HIM5.out ?_
  rintro e w6 ⟨rfl, hb6⟩
  have s6 := s5.next hb6
  have t6 := t5.next hb6
  have B6 := kide (B5.out.trans (hb6.mono B5.out.size))
  obtain ⟨k0, k1⟩ := s6.cells2
  obtain ⟨j0, j1⟩ := t6.cells2
  clear hb6 s5 t5 B5 HIM5 HIM
  have hVV : (V != V) = false := by simp
  have S6 := kide s6.below
  go_wp2_with fail
  go_region_held3 (fun u => u.cell? ⟨w.heap.size, 0, none⟩ = some (Value.slice a1 n1 c1) ∧ u.cell? ⟨w.heap.size, 1, none⟩ = some (Value.slice a2 n2 c2) ∧ u.cell? ⟨w4.heap.size, 0, none⟩ = some (Value.slice e1 m1 f1) ∧ u.cell? ⟨w4.heap.size, 1, none⟩ = some (Value.slice e2 m2 f2)) (simp [*])
    (first
      | (go_at_call 16; refine Calls.mono (HTC.out _ ?_) ?_; exact S6.out.drew; rintro e w7 ⟨y7, rfl, hct7, r7, hb7⟩; replace hb7 := kundrew hb7; have s7 := Bx.next (wk := w6) s6 hb7; have t7 := Bx.next (wk := w6) t6 hb7; have B7 := kide (B6.out.trans (hb7.mono B6.out.size)); have HE7 := kide (HEQ.out w7 B7.out y7 r7 hct7); obtain ⟨x0, x1⟩ := s7.cells2; obtain ⟨z0, z1⟩ := t7.cells2; clear hct7 r7 hb7)
      | (go_at_call 18; refine Calls.mono HE7.out ?_; rintro e w8 ⟨rfl, hb8⟩; have s8 := s7.next hb8; have t8 := t7.next hb8; obtain ⟨u0, u1⟩ := s8.cells2; obtain ⟨v0, v1⟩ := t8.cells2))
  go_wp2_with fail
  go_ret
  exact ⟨rfl, s8.below⟩

theorem law_no_FnExactCrowdOf (a1 a2 : Option Addr) (n1 c1 n2 c2 : Nat) (x : Int) (w : World) (Z : Int) (hZ : Z < 0)
    (HSZ : Hid (∀ u, Below w.heap.size w u → Calls Try.prog 14 #[.agg #[.slice a1 n1 c1, .slice a2 n2 c2], .int .i64 1048576] u fun e w' => e = .returned (.int .i64 Z) ∧ Below u.heap.size u w')) :
    Calls Try.prog 4 #[.agg #[.slice a1 n1 c1, .slice a2 n2 c2], .int .i64 x] w fun e w' => e = .returned (.bool true) ∧ Below w.heap.size w w' := by
  have s0 := Bx.start w (.cells #[.slice a1 n1 c1, .slice a2 n2 c2] 36)
  go_enter Try.func4, Try.ntmps4
  go_wp2_with fail
  refine Calls.mono (HSZ.out _ s0.below) ?_
  rintro e w1 ⟨rfl, hb1⟩
  have s1 := s0.next hb1
  go_wp2_with fail
  go_ret
  exact ⟨rfl, s1.below⟩

theorem walk_FnExactCrowdOf (a1 a2 : Option Addr) (n1 c1 n2 c2 : Nat) (x : Int) (_ : (Lit.int .i64 x).wf = true) (w : World) (hz : OpG w a1 a2 n1 n2) :
    Calls Try.prog 4 #[.agg #[.slice a1 n1 c1, .slice a2 n2 c2], .int .i64 x] w fun e w' => e = .returned (.bool true) ∧ Below w.heap.size w w' := by
  obtain ⟨Z, HSZ, -, hneg | ⟨hpos, ks, bs, rfl, rfl, hr⟩⟩ := size_graph a1 a2 n1 c1 n2 c2 w hz
  · exact law_no_FnExactCrowdOf a1 a2 n1 c1 n2 c2 x w Z hneg HSZ
  · exact law_yes_FnExactCrowdOf ⟨a1, c1, ks, a2, c2, bs⟩ x w hr Z hpos HSZ

end Go.Proofs.Ytddgldfjeklhbaa
