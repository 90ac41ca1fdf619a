/- The law FnExactClassAt returns true, whatever it is handed. -/
import Derived.Test.YticpjfdnpdfmeaaNE
import Derived.Test.YticpjfdnpdfmeaaNF
import Derived.Test.YticpjfdnpdfmeaaNO
namespace Go.Proofs.Yticpjfdnpdfmeaa
set_option linter.unusedVariables false
set_option linter.unusedSimpArgs false
open Go.RowKit

/-- A call's own box of three cells still stands. -/
def Bz (w : World) (v0 v1 v2 : Value) (t : TypeId) (wk : World) : Prop := Below (w.heap.size + 1) (w.alloc (Obj.cells #[v0, v1, v2] t)) wk
theorem Bz.start (w : World) (v0 v1 v2 : Value) (t : TypeId) : Bz w v0 v1 v2 t (w.alloc (Obj.cells #[v0, v1, v2] t)) := Below.refl _ _
theorem Bz.size {w wk : World} {v0 v1 v2 : Value} {t : TypeId} (h : Bz w v0 v1 v2 t wk) : w.heap.size + 1 ≤ wk.heap.size := by have := Below.size h; simpa using this
theorem Bz.next {w wk w1 : World} {v0 v1 v2 : Value} {t : TypeId} (h : Bz w v0 v1 v2 t wk) (hb : Below wk.heap.size wk w1) : Bz w v0 v1 v2 t w1 := Below.trans h (hb.mono h.size)
theorem Bz.below {w wk : World} {v0 v1 v2 : Value} {t : TypeId} (h : Bz w v0 v1 v2 t wk) : Below w.heap.size w wk := Below.trans (Below.alloc (Below.refl _ _) (Nat.le_refl _) _) (Below.mono h (by omega))
theorem Bz.cells {w wk : World} {v0 v1 v2 : Value} {t : TypeId} (h : Bz w v0 v1 v2 t wk) : wk.cell? ⟨w.heap.size, 0, none⟩ = some v0 ∧ wk.cell? ⟨w.heap.size, 1, none⟩ = some v1 ∧ wk.cell? ⟨w.heap.size, 2, none⟩ = some v2 := by
  refine ⟨?_, ?_, ?_⟩
  · rw [Below.cell h (by simp)]; simp
  · rw [Below.cell h (by simp)]; simp
  · rw [Below.cell h (by simp)]; simp

set_option maxHeartbeats 1000000 in
set_option maxRecDepth 100000 in
theorem law_yes_FnExactClassAt (z : Cz) (x : Int) (w : World) (hz : RdZ w z) (Z : Int) (hZ : 0 ≤ Z)
    (HSZ : Hid (∀ u, Below w.heap.size w u → Calls Try.prog 30 #[z.val, .int .i64 1048576] u fun e w' => e = .returned (.int .i64 Z) ∧ Below u.heap.size u w')) :
    Calls Try.prog 7 #[z.val, .int .i64 x] w fun e w' => e = .returned (.bool true) ∧ Below w.heap.size w w' := by
  have HTC := kide (fun u (hu : Below w.heap.size w u) => toClasses_any z u (hz.later hu))
  have hc0 : clAt x (z.cs.map Cg.ct) 0 = clAt x z.ct.2.1 0 := rfl
  have hN : ∃ n1 n2 n3 : Nat, n1 = z.xs.length ∧ n2 = z.cs.length ∧ n3 = z.ks.length := ⟨_, _, _, rfl, rfl, rfl⟩
  clear hz
  generalize hct : z.ct = ct at *
  obtain ⟨a1, c1, xs, a2, c2, cs, a3, c3, ks⟩ := z
  simp only [Cz.val] at HSZ HTC ⊢
  clear hc0 hN hct
  generalize xs.length = n1 at *
  generalize cs.length = n2 at *
  generalize ks.length = n3 at *
  have s0 := Bz.start w (.slice a1 n1 c1) (.slice a2 n2 c2) (.slice a3 n3 c3) 53
  go_enter Try.func7, Try.ntmps7
  go_wp2_with fail
  refine Calls.mono (HSZ.out _ s0.below) ?_
  rintro e w1 ⟨rfl, hb1⟩
  have s1 := s0.next hb1
  obtain ⟨k0, k1, k2⟩ := s1.cells
  clear hb1 s0
  go_wp2_with fail
  refine Calls.mono (HTC.out w1 s1.below) ?_
  rintro e w2 ⟨y2, rfl, hct2, r2, hb2⟩
  have s2 := s1.next hb2
  have HSP := kide (specClassAt_any y2 x w2 r2)
  rw [show y2.cs.map Cg.ct = ct.2.1 by rw [← hct2]; rfl] at HSP
  obtain ⟨b1, d1, ys, b2, d2, es, b3, d3, js⟩ := y2
  simp only [Cz.val] at HSP ⊢
  clear hb2 s1 k0 k1 k2 r2 hct2
  go_wp2_with fail
  refine Calls.mono HSP.out ?_
  rintro e w3 ⟨rfl, hb3⟩
  have s3 := s2.next hb3
  obtain ⟨k0, k1, k2⟩ := s3.cells
  clear hb3 s2 HSP
  go_wp2_with fail
  refine Calls.mono (HTC.out w3 s3.below) ?_
  rintro e w4 ⟨y4, rfl, hct4, r4, hb4⟩
  have s4 := s3.next hb4
  have YV : Hid (y4.val = .agg #[.slice y4.a1 y4.xs.length y4.c1, .slice y4.a2 y4.cs.length y4.c2, .slice y4.a3 y4.ks.length y4.c3]) := rfl
  have HIM := kide (fun u (hu : Below w4.heap.size w4 u) => implClassAt_any y4 x u (r4.later hu))
  rw [show y4.cs.map Cg.ct = ct.2.1 by rw [← hct4]; rfl] at HIM
  have HEQ := kide (fun u (hu : Below w4.heap.size w4 u) (t : Cz) (ht : RdZ u t) (hc : t.ct = ct) => eqClasses_same y4 t u (r4.later hu) ht (hct4.trans hc.symm))
  simp only [Cz.val] at HIM HEQ
  generalize clAt x ct.2.1 0 = V at *
  generalize y4.xs.length = m1 at *
  generalize y4.cs.length = m2 at *
  generalize y4.ks.length = m3 at *
  generalize y4.a1 = e1 at *
  generalize y4.a2 = e2 at *
  generalize y4.a3 = e3 at *
  generalize y4.c1 = f1 at *
  generalize y4.c2 = f2 at *
  generalize y4.c3 = f3 at *
  have t5 := Bz.start w4 (.slice e1 m1 f1) (.slice e2 m2 f2) (.slice e3 m3 f3) 58
  have hbx : Below w4.heap.size w4 (w4.alloc (Obj.cells #[Value.slice e1 m1 f1, Value.slice e2 m2 f2, Value.slice e3 m3 f3] 58)) := (Below.refl _ _).alloc (Nat.le_refl _) _
  have s5 := s4.next hbx
  have B5 := kide hbx
  have HIM5 := kide (HIM.out _ hbx)
  clear hb4 s3 s4 k0 k1 k2 r4 hct4 YV hbx
  go_wp2_with fail
  generalize w4.alloc (Obj.cells #[Value.slice e1 m1 f1, Value.slice e2 m2 f2, Value.slice e3 m3 f3] 58) = w5 at *
  refine Calls.mono HIM5.out ?_
  rintro e w6 ⟨rfl, hb6⟩
  have s6 := s5.next hb6
  have t6 := t5.next hb6
  have B6 := kide (B5.out.trans (hb6.mono B5.out.size))
  obtain ⟨k0, k1, k2⟩ := s6.cells
  obtain ⟨j0, j1, j2⟩ := t6.cells
  clear hb6 s5 t5 B5 HIM5 HIM
  have hVV : (V != V) = false := by simp
  have S6 := kide s6.below
  go_wp2_with fail
  go_region_held3 (fun u => u.cell? ⟨w.heap.size, 0, none⟩ = some (Value.slice a1 n1 c1) ∧ u.cell? ⟨w.heap.size, 1, none⟩ = some (Value.slice a2 n2 c2) ∧ u.cell? ⟨w.heap.size, 2, none⟩ = some (Value.slice a3 n3 c3) ∧ u.cell? ⟨w4.heap.size, 0, none⟩ = some (Value.slice e1 m1 f1) ∧ u.cell? ⟨w4.heap.size, 1, none⟩ = some (Value.slice e2 m2 f2) ∧ u.cell? ⟨w4.heap.size, 2, none⟩ = some (Value.slice e3 m3 f3)) (simp [*])
    (first
      | (go_at_call 32; refine Calls.mono (HTC.out _ ?_) ?_; exact S6.out.drew; rintro e w7 ⟨y7, rfl, hct7, r7, hb7⟩; replace hb7 := kundrew hb7; have s7 := Bz.next (wk := w6) s6 hb7; have t7 := Bz.next (wk := w6) t6 hb7; have B7 := kide (B6.out.trans (hb7.mono B6.out.size)); have HE7 := kide (HEQ.out w7 B7.out y7 r7 hct7); obtain ⟨x0, x1, x2⟩ := s7.cells; obtain ⟨z0, z1, z2⟩ := t7.cells; clear hct7 r7 hb7)
      | (go_at_call 34; refine Calls.mono HE7.out ?_; rintro e w8 ⟨rfl, hb8⟩; have s8 := s7.next hb8; have t8 := t7.next hb8; obtain ⟨u0, u1, u2⟩ := s8.cells; obtain ⟨v0, v1, v2⟩ := t8.cells))
  go_wp2_with fail
  go_ret
  exact ⟨rfl, s8.below⟩

theorem law_no_FnExactClassAt (a1 a2 a3 : Option Addr) (n1 c1 n2 c2 n3 c3 : Nat) (x : Int) (w : World) (Z : Int) (hZ : Z < 0)
    (HSZ : Hid (∀ u, Below w.heap.size w u → Calls Try.prog 30 #[.agg #[.slice a1 n1 c1, .slice a2 n2 c2, .slice a3 n3 c3], .int .i64 1048576] u fun e w' => e = .returned (.int .i64 Z) ∧ Below u.heap.size u w')) :
    Calls Try.prog 7 #[.agg #[.slice a1 n1 c1, .slice a2 n2 c2, .slice a3 n3 c3], .int .i64 x] w fun e w' => e = .returned (.bool true) ∧ Below w.heap.size w w' := by
  have s0 := Bz.start w (.slice a1 n1 c1) (.slice a2 n2 c2) (.slice a3 n3 c3) 53
  go_enter Try.func7, Try.ntmps7
  go_wp2_with fail
  refine Calls.mono (HSZ.out _ s0.below) ?_
  rintro e w1 ⟨rfl, hb1⟩
  have s1 := s0.next hb1
  go_wp2_with fail
  go_ret
  exact ⟨rfl, s1.below⟩

theorem walk_FnExactClassAt (a1 a2 a3 : Option Addr) (n1 c1 n2 c2 n3 c3 : Nat) (x : Int) (hx : (Lit.int .i64 x).wf = true) (w : World) (hz : OpZ w a1 a2 a3 n1 n2 n3) :
    Calls Try.prog 7 #[.agg #[.slice a1 n1 c1, .slice a2 n2 c2, .slice a3 n3 c3], .int .i64 x] w fun e w' => e = .returned (.bool true) ∧ Below w.heap.size w w' := by
  obtain ⟨l1, l2, l3, hcuts, hlist, hclash⟩ := hz
  -- the cuts
  obtain ⟨Z1, H1, hZ1, hX1⟩ : ∃ Z1 : Int, (∀ u, Below w.heap.size w u → Calls Try.prog 16 #[.agg #[.slice a1 n1 c1], .int .i64 1048576] u fun e w' => e = .returned (.int .i64 Z1) ∧ Below u.heap.size u w') ∧ Z1 ≤ 1048576 ∧ (0 ≤ Z1 → ∃ xs : List Iw, xs.length = n1 ∧ RdII w a1 xs) := by
    by_cases h : (n1 : Int) ≤ 1048576
    · obtain ⟨hs, rfl, hh, hk⟩ := hcuts (by omega)
      have hr := szIl_range hs (1048576 - hs.length) (by omega)
      refine ⟨_, fun u hu => szCuts_any a1 _ c1 1048576 _ u (by omega) (fun u' hu' => szInt64SS_in a1 c1 hs 1048576 u' (hh.later (hu.trans (hu'.mono hu.size))) (by omega) (by omega) h), by omega, fun h0 => ?_⟩
      obtain ⟨xs, hxl, hxs⟩ := RdII_of hh hk (L := 1048576 - hs.length) (by omega) (by omega) h0
      exact ⟨xs, hxl, hxs⟩
    · exact ⟨-1, fun u hu => szCuts_any a1 _ c1 1048576 _ u (.inl rfl) (fun u' hu' => (szInt64SS_out a1 n1 c1 1048576 u' (by omega) (by omega) l1 h).mono (fun e w' hh => ⟨hh.1, by rw [hh.2]; exact Below.refl _ _⟩)), by omega, fun h0 => by omega⟩
  -- the list
  obtain ⟨Z2, H2, hZ2, hX2⟩ : ∃ Z2 : Int, (0 ≤ Z1 → ∀ u, Below w.heap.size w u → Calls Try.prog 52 #[.slice a2 n2 c2, .int .i64 Z1] u fun e w' => e = .returned (.int .i64 Z2) ∧ Below u.heap.size u w') ∧ Z2 ≤ 1048576 ∧ (0 ≤ Z1 → 0 ≤ Z2 → ∃ cs : List Cg, cs.length = n2 ∧ RdC w a2 cs) := by
    by_cases h0 : 0 ≤ Z1
    · by_cases h : (n2 : Int) ≤ Z1
      · obtain ⟨hs, rfl, hh, hk⟩ := hlist (by omega)
        have hr := szCl_range hs (Z1 - hs.length) (by omega)
        refine ⟨_, fun _ u hu => szClassS_in a2 c2 hs Z1 u (hh.later hu) h0 hZ1 h, by omega, fun _ h2 => ?_⟩
        obtain ⟨cs, hxl, hxs⟩ := RdC_of hh hk (L := Z1 - hs.length) (by omega) (by omega) h2
        exact ⟨cs, hxl, hxs⟩
      · exact ⟨-1, fun _ u hu => (szClassS_out a2 n2 c2 Z1 u h0 hZ1 l2 h).mono (fun e w' hh => ⟨hh.1, by rw [hh.2]; exact Below.refl _ _⟩), by omega, fun _ h2 => by omega⟩
    · exact ⟨-1, fun h' => absurd h' h0, by omega, fun h' => absurd h' h0⟩
  have HSZ := kide (fun u (hu : Below w.heap.size w u) => szClasses_any a1 a2 a3 n1 c1 n2 c2 n3 c3 Z1 Z2 u l3 hZ2 (fun u' hu' => H1 u' (hu.trans (hu'.mono hu.size))) (fun h u' hu' => H2 h u' (hu.trans (hu'.mono hu.size))))
  by_cases hneg : (if Z1 < 0 then -1 else if Z2 < 0 then -1 else if (n3 : Int) ≤ Z2 then Z2 - n3 else -1) < (0 : Int)
  · exact law_no_FnExactClassAt a1 a2 a3 n1 c1 n2 c2 n3 c3 x w _ hneg HSZ
  · have h1 : 0 ≤ Z1 := by split at hneg <;> omega
    have h2 : 0 ≤ Z2 := by
      rw [if_neg (by omega)] at hneg
      split at hneg <;> omega
    have h3 : (n3 : Int) ≤ Z2 := by
      rw [if_neg (by omega), if_neg (by omega)] at hneg
      split at hneg
      · assumption
      · omega
    obtain ⟨xs, rfl, hxs⟩ := hX1 h1
    obtain ⟨cs, rfl, hcs⟩ := hX2 h1 h2
    obtain ⟨ks, rfl, hks⟩ := hclash (by omega)
    exact law_yes_FnExactClassAt ⟨a1, c1, xs, a2, c2, cs, a3, c3, ks⟩ x w ⟨hxs, hcs, hks⟩ _ (by omega) HSZ

end Go.Proofs.Yticpjfdnpdfmeaa
