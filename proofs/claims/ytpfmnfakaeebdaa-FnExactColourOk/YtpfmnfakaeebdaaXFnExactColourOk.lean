/- The law FnExactColourOk returns true, whatever it is handed. -/
import Derived.Test.YtpfmnfakaeebdaaJU
import Derived.Test.YtpfmnfakaeebdaaJQ
import Derived.Test.YtpfmnfakaeebdaaJP
namespace Go.Proofs.Ytpfmnfakaeebdaa
set_option linter.unusedVariables false
set_option linter.unusedSimpArgs false
open Go.RowKit

theorem Bx.cellsC {w wk : World} {v0 v1 : Value} {t : TypeId} (h : Bx w (.cells #[v0, v1] t) wk) : wk.cell? ⟨w.heap.size, 0, none⟩ = some v0 ∧ wk.cell? ⟨w.heap.size, 1, none⟩ = some v1 := ⟨by simpa using h.one 0, by simpa using h.one 1⟩
theorem len_of_ct {xs ys : List Bw} {n : Nat} (h : xs.map Bw.ct = ys.map Bw.ct) (hn : ys.length = n) : xs.length = n := by
  rw [← hn]; simpa using congrArg List.length h

set_option maxHeartbeats 2000000 in
set_option maxRecDepth 100000 in
theorem law_yes_FnExactColourOk (z : Gz) (b : Option Addr) (c n : Nat) (xs : List Bw) (w : World) (hz : RdG w z) (hx : RdW w b xs) (hn : xs.length = n) (Z Z2 : Int) (hZ : 0 ≤ Z) (hZ2 : 0 ≤ Z2)
    (HSZ : Hid (∀ u, Below w.heap.size w u → Calls Try.prog 11 #[z.val, .int .i64 1048576] u fun e w' => e = .returned (.int .i64 Z) ∧ Below u.heap.size u w'))
    (HSC : Hid (∀ u, Below w.heap.size w u → Calls Try.prog 16 #[.slice b n c, .int .i64 Z] u fun e w' => e = .returned (.int .i64 Z2) ∧ Below u.heap.size u w')) :
    Calls Try.prog 5 #[z.val, .slice b n c] w fun e w' => e = .returned (.bool true) ∧ Below w.heap.size w w' := by
  have HTC := kide (fun u (hu : Below w.heap.size w u) => toGraph_any z u (hz.later hu))
  have HTB : Hid (∀ u, Below w.heap.size w u → Calls Try.prog 18 #[.slice b n c] u fun e w' => ∃ (g : Nat) (ms : List Bw), e = .returned (.slice (some ⟨g, 0, none⟩) n n) ∧ ms.map Bw.ct = xs.map Bw.ct ∧ RdW w' (some ⟨g, 0, none⟩) ms ∧ Below u.heap.size u w') := fun u hu => by
    subst hn
    refine (toBitsS_any b c xs u (hx.later hu)).mono ?_
    rintro e w' ⟨ms, rfl, h1, h2, h3⟩
    exact ⟨_, ms, rfl, h1, h2, h3⟩
  have HN := kide hn
  clear hz hx hn
  generalize hct : z.ct = ct at *
  obtain ⟨a1, c1, ks, a2, c2, bs⟩ := z
  simp only [Gz.val] at HSZ HTC ⊢
  clear hct
  generalize ks.length = n1 at *
  generalize bs.length = n2 at *
  have s0 := Bx.start w (.cells #[.slice a1 n1 c1, .slice a2 n2 c2] 32)
  go_enter Try.func5, Try.ntmps5
  go_wp2_with fail
  refine Calls.mono (HSZ.out _ s0.below) ?_
  rintro e w1 ⟨rfl, hb1⟩
  have s1 := s0.next hb1
  clear hb1 s0
  go_wp2_with fail
  refine Calls.mono (HSC.out w1 s1.below) ?_
  rintro e w2 ⟨rfl, hb2⟩
  have s2 := s1.next hb2
  obtain ⟨k0, k1⟩ := s2.cellsC
  clear hb2 s1
  have B2 := kide s2.below
  go_wp2_with fail
  refine Calls.mono (HTC.out _ B2.out) ?_
  rintro e w3 ⟨y3, rfl, hct3, r3, hb3⟩
  have s3 := Bx.next (wk := w2) s2 hb3
  obtain ⟨p0, p1⟩ := s3.cellsC
  have R3 := kide r3
  have B3 := kide s3.below
  have CT3 := kide hct3
  clear hb3 r3 hct3
  go_wp2_with fail
  refine Calls.mono (HTB.out w3 B3.out) ?_
  rintro e w4 ⟨g4, m4, rfl, hm4, r4, hb4⟩
  have s4 := s3.next hb4
  obtain ⟨q0, q1⟩ := s4.cellsC
  have R4 := kide (R3.out.later hb4)
  have HSP := kide (specColour_any y3 (some ⟨g4, 0, none⟩) n n m4 w4 R4.out r4 (len_of_ct hm4 HN.out))
  rw [hm4, show y3.ks = ct.1 by rw [← CT3.out]; rfl, show y3.bs.map Yg.ct = ct.2 by rw [← CT3.out]; rfl] at HSP
  clear hb4 r4 hm4
  go_wp2_with fail
  refine Calls.mono HSP.out ?_
  rintro e w5 ⟨rfl, hb5⟩
  have s5 := s4.next hb5
  obtain ⟨h0, h1⟩ := s5.cellsC
  clear hb5
  clear s3 s4 p0 p1 q0 q1 HSP s2 k0 k1
  go_wp2_with fail
  refine Calls.mono (HTC.out w5 s5.below) ?_
  rintro e w6 ⟨y4, rfl, hct4, r4, hb6⟩
  have s6 := s5.next hb6
  have HIM0 := kide (fun u (hu : Below w6.heap.size w6 u) (m : List Bw) (g : Nat) (hm : m.map Bw.ct = xs.map Bw.ct) (hr : RdW u (some ⟨g, 0, none⟩) m) => implColour_any y4 (some ⟨g, 0, none⟩) n n m u (r4.later hu) hr (len_of_ct hm HN.out))
  rw [show y4.ks = ct.1 by rw [← hct4]; rfl, show y4.bs.map Yg.ct = ct.2 by rw [← hct4]; rfl] at HIM0
  have HEQ := kide (fun u (hu : Below w6.heap.size w6 u) (t : Gz) (ht : RdG u t) (hc : t.ct = ct) => eqGraph_same y4 t u (r4.later hu) ht (hct4.trans hc.symm))
  have YV : Hid (y4.val = .agg #[.slice y4.a1 y4.ks.length y4.c1, .slice y4.a2 y4.bs.length y4.c2]) := rfl
  have e1k : y4.ks = ct.1 := by rw [← hct4]; rfl
  simp only [Gz.val] at HIM0 HEQ ⊢
  generalize y4.ks.length = m1 at *
  generalize y4.bs.length = m2 at *
  generalize y4.a1 = e1 at *
  generalize y4.a2 = e2 at *
  generalize y4.c1 = f1 at *
  generalize y4.c2 = f2 at *
  have t6 := Bx.start w6 (.cells #[.slice e1 m1 f1, .slice e2 m2 f2] 37)
  have hbx : Below w6.heap.size w6 (w6.alloc (Obj.cells #[Value.slice e1 m1 f1, Value.slice e2 m2 f2] 37)) := (Below.refl _ _).alloc (Nat.le_refl _) _
  have s7 := s6.next hbx
  have B7 := kide hbx
  clear hb6 s5 s6 r4 hct4 YV hbx e1k h0 h1
  go_wp2_with fail
  generalize w6.alloc (Obj.cells #[Value.slice e1 m1 f1, Value.slice e2 m2 f2] 37) = w7 at *
  refine Calls.mono (HTB.out w7 s7.below) ?_
  rintro e w8 ⟨g8, m8, rfl, hm8, r8, hb8⟩
  have s8 := s7.next hb8
  have t8 := t6.next hb8
  have B8 := kide (B7.out.trans (hb8.mono B7.out.size))
  have HIM := kide (HIM0.out w8 B8.out m8 g8 hm8 r8)
  have M8 := kide hm8
  have R8 := kide r8
  obtain ⟨j0, j1⟩ := t8.cellsC
  rw [hm8] at HIM
  clear hb8 s7 t6 B7 hm8 r8 HIM0
  go_wp2_with fail
  refine Calls.mono HIM.out ?_
  rintro e w9 ⟨rfl, hb9⟩
  have s9 := s8.next hb9
  have t9 := t8.next hb9
  have B9 := kide (B8.out.trans (hb9.mono B8.out.size))
  have R9 := kide (R8.out.later hb9)
  obtain ⟨k0, k1⟩ := s9.cellsC
  obtain ⟨i0, i1⟩ := t9.cellsC
  clear hb9 s8 t8 B8 R8 HIM j0 j1
  generalize colR ct.1 ct.2 (xs.map Bw.ct) = V at *
  have hVV : (V != V) = false := by simp
  have S9 := kide s9.below
  go_wp2_with fail
  go_region_held3 (fun u => u.cell? ⟨w.heap.size, 0, none⟩ = some (Value.slice a1 n1 c1) ∧ u.cell? ⟨w.heap.size, 1, none⟩ = some (Value.slice a2 n2 c2) ∧ u.cell? ⟨w6.heap.size, 0, none⟩ = some (Value.slice e1 m1 f1) ∧ u.cell? ⟨w6.heap.size, 1, none⟩ = some (Value.slice e2 m2 f2)) (simp [*])
    (first
      | (go_at_call 13; refine Calls.mono (HTC.out _ ?_) ?_; exact S9.out.drew; rintro e w10 ⟨y10, rfl, hct10, r10, hb10⟩; replace hb10 := kundrew hb10; have s10 := Bx.next (wk := w9) s9 hb10; have t10 := Bx.next (wk := w9) t9 hb10; have B10 := kide (B9.out.trans (hb10.mono B9.out.size)); have HE10 := kide (HEQ.out w10 B10.out y10 r10 hct10); have R10 := kide (RdW.later (w := w9) R9.out hb10); obtain ⟨x0, x1⟩ := s10.cellsC; obtain ⟨z0, z1⟩ := t10.cellsC; clear hct10 r10 hb10)
      | (go_at_call 15; refine Calls.mono HE10.out ?_; rintro e w11 ⟨rfl, hb11⟩; have s11 := s10.next hb11; have t11 := t10.next hb11; have R11 := kide (R10.out.later hb11); obtain ⟨u0, u1⟩ := s11.cellsC; obtain ⟨v0, v1⟩ := t11.cellsC; clear hb11))
  clear s9 t9 s10 t10 x0 x1 z0 z1 k0 k1 i0 i1 hVV
  go_wp2_with fail
  refine Calls.mono (HTB.out w11 s11.below) ?_
  rintro e w12 ⟨g12, m12, rfl, hm12, r12, hb12⟩
  have s12 := s11.next hb12
  have R12 := kide (R11.out.later hb12)
  have Q12 := kide r12
  have M12 := kide hm12
  clear hb12 hm12 r12
  go_wp2_with fail
  refine Calls.mono (eqBitsS_same (some ⟨g8, 0, none⟩) (some ⟨g12, 0, none⟩) n n m8 m12 w12 R12.out Q12.out (M8.out.trans M12.out.symm) n (len_of_ct M8.out HN.out) (len_of_ct M12.out HN.out)) ?_
  rintro e w13 ⟨rfl, hb13⟩
  have s13 := s12.next hb13
  go_wp2_with fail
  go_ret
  exact ⟨rfl, s13.below⟩

theorem law_no_FnExactColourOk (a1 a2 : Option Addr) (n1 c1 n2 c2 : Nat) (b : Option Addr) (n c : Nat) (w : World) (Z Z2 : Int) (h : Z < 0 ∨ 0 ≤ Z ∧ Z2 < 0)
    (HSZ : Hid (∀ u, Below w.heap.size w u → Calls Try.prog 11 #[.agg #[.slice a1 n1 c1, .slice a2 n2 c2], .int .i64 1048576] u fun e w' => e = .returned (.int .i64 Z) ∧ Below u.heap.size u w'))
    (HSC : Hid (0 ≤ Z → ∀ u, Below w.heap.size w u → Calls Try.prog 16 #[.slice b n c, .int .i64 Z] u fun e w' => e = .returned (.int .i64 Z2) ∧ Below u.heap.size u w')) :
    Calls Try.prog 5 #[.agg #[.slice a1 n1 c1, .slice a2 n2 c2], .slice b n c] w fun e w' => e = .returned (.bool true) ∧ Below w.heap.size w w' := by
  have s0 := Bx.start w (.cells #[.slice a1 n1 c1, .slice a2 n2 c2] 32)
  rcases h with h | ⟨h, h2⟩
  · go_enter Try.func5, Try.ntmps5
    go_wp2_with fail
    refine Calls.mono (HSZ.out _ s0.below) ?_
    rintro e w1 ⟨rfl, hb1⟩
    have s1 := s0.next hb1
    go_wp2_with fail
    go_ret
    exact ⟨rfl, s1.below⟩
  · go_enter Try.func5, Try.ntmps5
    go_wp2_with fail
    refine Calls.mono (HSZ.out _ s0.below) ?_
    rintro e w1 ⟨rfl, hb1⟩
    have s1 := s0.next hb1
    go_wp2_with fail
    refine Calls.mono (HSC.out h w1 s1.below) ?_
    rintro e w2 ⟨rfl, hb2⟩
    have s2 := s1.next hb2
    go_wp2_with fail
    go_ret
    exact ⟨rfl, s2.below⟩

theorem walk_FnExactColourOk (a1 a2 : Option Addr) (n1 c1 n2 c2 : Nat) (b : Option Addr) (n c : Nat) (hn : n ≤ 9223372036854775807) (w : World) (hz : OpG w a1 a2 n1 n2)
    (hy : n ≤ 1048576 → ∃ hs : List Bh, hs.length = n ∧ RdBh w b hs ∧ ∀ h ∈ hs, WordsOf w h) :
    Calls Try.prog 5 #[.agg #[.slice a1 n1 c1, .slice a2 n2 c2], .slice b n c] w fun e w' => e = .returned (.bool true) ∧ Below w.heap.size w w' := by
  obtain ⟨Z, HSZ, hZle, hcase⟩ := size_graph a1 a2 n1 c1 n2 c2 w hz
  obtain ⟨Z2, H2, hX2⟩ : ∃ Z2 : Int, Hid (0 ≤ Z → ∀ u, Below w.heap.size w u → Calls Try.prog 16 #[.slice b n c, .int .i64 Z] u fun e w' => e = .returned (.int .i64 Z2) ∧ Below u.heap.size u w') ∧ (0 ≤ Z → 0 ≤ Z2 → ∃ xs : List Bw, xs.length = n ∧ RdW w b xs) := by
    by_cases h0 : 0 ≤ Z
    · by_cases h : (n : Int) ≤ Z
      · obtain ⟨hs, rfl, hh, hk⟩ := hy (by omega)
        have hr := szBl_range hs (Z - hs.length) (by omega)
        refine ⟨_, fun _ u hu => szBitsS_in b c hs Z u (hh.later hu) h0 hZle h, fun _ h2 => ?_⟩
        obtain ⟨xs, hxl, hxs⟩ := RdW_of hh hk (L := Z - hs.length) (by omega) (by omega) h2
        exact ⟨xs, hxl, hxs⟩
      · exact ⟨-1, fun _ u hu => (szBitsS_out b n c Z u h0 hZle hn h).mono (fun e w' hh => ⟨hh.1, by rw [hh.2]; exact Below.refl _ _⟩), fun _ h2 => by omega⟩
    · exact ⟨-1, fun h' => absurd h' h0, fun h' => absurd h' h0⟩
  rcases hcase with hneg | ⟨hpos, ks, bs, rfl, rfl, hr⟩
  · exact law_no_FnExactColourOk a1 a2 n1 c1 n2 c2 b n c w Z Z2 (.inl hneg) HSZ H2
  by_cases hz2 : Z2 < 0
  · exact law_no_FnExactColourOk a1 a2 _ c1 _ c2 b n c w Z Z2 (.inr ⟨hpos, hz2⟩) HSZ H2
  obtain ⟨xs, hxl, hxs⟩ := hX2 hpos (by omega)
  exact law_yes_FnExactColourOk ⟨a1, c1, ks, a2, c2, bs⟩ b c n xs w hr hxs hxl Z Z2 hpos (by omega) HSZ (H2.out hpos)

end Go.Proofs.Ytpfmnfakaeebdaa
