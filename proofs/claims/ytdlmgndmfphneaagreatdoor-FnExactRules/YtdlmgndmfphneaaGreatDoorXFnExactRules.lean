/- The law FnExactRules returns true, whatever it is handed. -/
import Derived.Test.YtdlmgndmfphneaaGreatDoorZGAJ
import Derived.Test.YtdlmgndmfphneaaGreatDoorZGAS
import Derived.Test.YtdlmgndmfphneaaGreatDoorZGAU
import Derived.Test.YtdlmgndmfphneaaGreatDoorEFX
import Derived.Test.YtdlmgndmfphneaaGreatDoorZGAT
namespace Go.Proofs.YtdlmgndmfphneaaGreatDoor
set_option linter.unusedVariables false
set_option linter.unusedSimpArgs false
open Go.RowKit

/-- What holds of all that is carried through the law, in a world u. -/
structure Cy (w w7 : World) (b : Option Addr) (n c2 g7 gx B1 L0 L9 H9 : Nat) (ds : List Dc) (m7 : List Tg) (f6 f7 : Nat → Value) (a5 a9 : Option Addr) (N : Nat) (ZZ : List Int) (u : World) : Prop where
  s : Bq w (.slice b n c2) 25 u
  t : Bq w7 (.slice (some ⟨g7, 0, none⟩) n n) 34 u
  q : u.rowIs gx 56 (ds.length * 2) f6
  p : u.rowIs g7 63 (n * 7) f7
  wr : ∀ x ∈ m7, WrT u B1 w7.heap.size x ∧ x.ct.ws.length ≤ 1048576 ∧ x.ct.ks.length ≤ 1048576
  o : HoldI u L0 gx a5 N ZZ
  g : HoldI u L9 H9 a9 N ZZ
  rd : RdD u (some ⟨gx, 0, none⟩) ds
  ri : RdT u (some ⟨g7, 0, none⟩) m7

theorem Cy.later {w w7 : World} {b : Option Addr} {n c2 g7 gx B1 L0 L9 H9 : Nat} {ds : List Dc} {m7 : List Tg} {f6 f7 : Nat → Value} {a5 a9 : Option Addr} {N : Nat} {ZZ : List Int} {u u' : World}
    (h : Cy w w7 b n c2 g7 gx B1 L0 L9 H9 ds m7 f6 f7 a5 a9 N ZZ u) (hb : Below u.heap.size u u') : Cy w w7 b n c2 g7 gx B1 L0 L9 H9 ds m7 f6 f7 a5 a9 N ZZ u' where
  s := h.s.next hb
  t := h.t.next hb
  q := World.rowIs.of_block h.q (hb.block gx (by obtain ⟨cc, hh, -⟩ := h.q; exact lt_of_block hh))
  p := World.rowIs.of_block h.p (hb.block g7 (by obtain ⟨cc, hh, -⟩ := h.p; exact lt_of_block hh))
  wr := fun x hx => ⟨(h.wr x hx).1.out (Out.ofB hb) (C1 := w7.heap.size) (C2 := w7.heap.size) (.inr (Nat.le_refl _)), (h.wr x hx).2⟩
  o := h.o.later hb
  g := h.g.later hb
  rd := h.rd.later hb
  ri := h.ri.later hb

set_option maxHeartbeats 2000000 in
set_option maxRecDepth 100000 in
theorem law_yes_FnExactRules (a b : Option Addr) (c c2 n : Nat) (ds : List Dc) (xs : List Tg) (P : Int) (w : World) (hr : RdD w a ds) (hs : RdT w b xs) (hn : xs.length = n) (hG : GF w) (Z Z2 : Int)
    (hz : 0 ≤ Z) (hz2 : 0 ≤ Z2)
    (HSZ : Hid (∀ u, Below w.heap.size w u → Calls Tryz.prog 5 #[.slice a ds.length c, .int .i64 1048576] u fun e w' => e = .returned (.int .i64 Z) ∧ Below u.heap.size u w'))
    (HSC : Hid (∀ u, Below w.heap.size w u → Calls Tryz.prog 6 #[.agg #[.slice b n c2], .int .i64 Z] u fun e w' => e = .returned (.int .i64 Z2) ∧ Below u.heap.size u w')) :
    Calls Tryz.prog 3 #[.slice a ds.length c, .agg #[.slice b n c2], .int .i64 P] w fun e w' => e = .returned (.bool true) ∧ Below w.heap.size w w' := by
  have HR := kide hr
  have HS := kide hs
  have HN := kide hn
  obtain ⟨hlS0, hxS⟩ := rulR_bounds ds (xs.map Tg.ct) P
  have hlS : (rulR ds (xs.map Tg.ct) P).length ≤ 1048576 := by omega
  clear hlS0
  have HGF := kide (fun u (hu : Below w.heap.size w u) => hG.later hu)
  have hn2 : n ≤ 1048576 := by rw [← hn]; exact hs.1
  have hd2 : ds.length ≤ 1048576 := hr.1
  have HTD := kide (fun u (hu : Below w.heap.size w u) => toDeclS_row a c ds u (hr.later hu))
  have HTC := kide (fun u (hu : Below w.heap.size w u) => toTerm_wrC b c2 xs u (hs.later hu) n hn)
  have HSP := kide (fun (da db : Option Addr) (e1 e2 : Nat) (ms : List Tg) (u : World) (h1 : RdD u da ds) (h2 : RdT u db ms) (h3 : ms.length = n) (h4 : ms.map Tg.ct = xs.map Tg.ct) (h6 : ∀ x ∈ ms, x.kc = x.ct.ks.length) => by
    have h := specRules_any da db e1 e2 n P ds ms u h1 h2 h3 h6
    rwa [h4] at h)
  have HIM := kide (fun (da db : Option Addr) (e1 e2 : Nat) (ms : List Tg) (u : World) (h1 : RdD u da ds) (h2 : RdT u db ms) (h3 : ms.length = n) (h5 : GF u) (h4 : ms.map Tg.ct = xs.map Tg.ct) => by
    have h := implRules_any da db e1 e2 n P ds ms u h1 h2 h3 h5
    rwa [h4] at h)
  generalize rulR ds (xs.map Tg.ct) P = ZZ at *
  have s0 := Bq.start w (.slice b n c2) 25
  clear hr hs hn hG
  go_enter Tryz.func3, Tryz.ntmps3
  go_wp2_with fail
  refine Calls.mono (HSZ.out _ s0.below) ?_
  rintro e w1 ⟨rfl, hb1⟩
  have s1 := s0.next hb1
  have c1 := s1.cell
  clear hb1 s0
  go_wp2_with fail
  refine Calls.mono (HSC.out w1 s1.below) ?_
  rintro e w2 ⟨rfl, hb2⟩
  have s2 := s1.next hb2
  have c2' := s2.cell
  clear hb2 s1 c1
  have B2 := kide s2.below
  go_wp2_with fail
  go_region_held3 (fun u => u.cell? ⟨w.heap.size, 0, none⟩ = some (Value.slice b n c2)) (simp [*])
    (first
      | (go_at_call 8; refine Calls.mono (HTD.out _ ?_) ?_; exact B2.out.drew; rintro e w3 ⟨rfl, r3, -, hb3⟩; replace hb3 := kundrew hb3; have s3 := Bq.next (wk := w2) s2 hb3; have c3 := s3.cell; have R3 := kide r3; have B3 := kide s3.below; clear hb3 r3)
      | (go_at_call 9; refine Calls.mono (HTC.out w3 B3.out) ?_; rintro e w4 ⟨g4, m4, rfl, hm4, -, r4, -, -, hkq4, hb4⟩; have s4 := s3.next hb4; have c4 := s4.cell; have R4 := kide (R3.out.later hb4); have S4 := kide r4; have M4 := kide hm4; have HKQ4 := kide hkq4; clear hb4 r4 hm4 hkq4)
      | (go_at_call 7; refine Calls.mono (HSP.out _ _ ds.length n m4 w4 R4.out S4.out (len_of_tc M4.out HN.out) M4.out HKQ4.out) ?_; rintro e w5 ⟨v5, rfl, o5, hb5⟩; have s5 := s4.next hb5; have c5 := s5.cell; clear hb5; obtain ⟨a5, k5, rfl, H5⟩ := o5.hold hlS hxS; have HO := kide H5; clear H5 o5))
  clear s3 s4 c3 c4 HSP s2 c2' R3 R4 S4 M4 B3 B2 HKQ4
  have z5 := s5.size
  generalize hL0 : w4.heap.size + 1 = L0 at HO
  clear hL0
  go_wp2_with fail
  refine Calls.mono (HTD.out w5 s5.below) ?_
  rintro e w6 ⟨rfl, r6, ⟨f6, q6⟩, hb6⟩
  have s6 := s5.next hb6
  have c6 := s6.cell
  have R6 := kide r6
  have Q6 := kide q6
  have O6 := kide (HO.out.later hb6)
  have z6 : w5.heap.size < w6.heap.size := by obtain ⟨cc, hh, -⟩ := q6; exact lt_of_block hh
  clear hb6 r6 s5 c5 HO q6
  generalize w5.heap.size = gx at *
  go_wp2_with fail
  refine Calls.mono (HTC.out w6 s6.below) ?_
  rintro e w7 ⟨g7, m7, rfl, hm7, hg7, r7, ⟨f7, q7, hf7⟩, hw7, -, hb7⟩
  have s7 := s6.next hb7
  have R7 := kide (R6.out.later hb7)
  have Q7 := kide (World.rowIs.of_block Q6.out (hb7.block gx z6))
  have O7 := kide (O6.out.later hb7)
  have z7 := hb7.size
  have hg7' : g7 < w7.heap.size := by obtain ⟨cc, hh, -⟩ := q7; exact lt_of_block hh
  have hbx : Below w7.heap.size w7 (w7.alloc (Obj.cells #[Value.slice (some ⟨g7, 0, none⟩) n n] 34)) := (Below.refl _ _).alloc (Nat.le_refl _) _
  have s8 := s7.next hbx
  have t8 := Bq.start w7 (.slice (some ⟨g7, 0, none⟩) n n) 34
  have z8 := t8.size
  have R8 := kide (R7.out.later hbx)
  have Q8 := kide (World.rowIs.of_block Q7.out (hbx.block gx (by omega)))
  have P8 := kide (World.rowIs.of_block q7 (hbx.block g7 hg7'))
  have F7 := kide hf7
  have W8 := kide (fun x hx => And.intro ((hw7 x hx).1.out (Out.ofB hbx) (C1 := w7.heap.size) (C2 := w7.heap.size) (.inr (Nat.le_refl _))) (hw7 x hx).2)
  have O8 := kide (O7.out.later hbx)
  have S8 := kide (r7.later hbx)
  have M7 := kide hm7
  have HG7 := kide hg7
  have HI8 := kide (HIM.out _ _ ds.length n m7 _ R8.out S8.out (len_of_tc hm7 HN.out) (HGF.out _ s8.below) hm7)
  clear hb7 r7 s6 c6 s7 hm7 hbx R7 Q7 O7 q7 hf7 hw7 R6 Q6 O6
  go_wp2_with fail
  generalize w7.alloc (Obj.cells #[Value.slice (some ⟨g7, 0, none⟩) n n] 34) = w8 at *
  refine Calls.mono HI8.out ?_
  rintro e w9 ⟨v9, rfl, o9, hb9⟩
  have s9 := s8.next hb9
  have t9 := t8.next hb9
  have c9 := s9.cell
  have d9 := t9.cell
  have R9 := kide (R8.out.later hb9)
  have S9 := kide (S8.out.later hb9)
  have Q9 := kide (World.rowIs.of_block Q8.out (hb9.block gx (by omega)))
  have P9 := kide (World.rowIs.of_block P8.out (hb9.block g7 (by omega)))
  have W9 := kide (fun x hx => And.intro ((W8.out x hx).1.out (Out.ofB hb9) (C1 := w7.heap.size) (C2 := w7.heap.size) (.inr (Nat.le_refl _))) (W8.out x hx).2)
  have O9 := kide (O8.out.later hb9)
  obtain ⟨a9, k9, rfl, G9'⟩ := o9.hold hlS hxS
  have G9 := kide G9'
  have z9 := hb9.size
  clear hb9 s8 t8 HI8 R8 S8 Q8 P8 W8 O8 o9 G9'
  go_wp2_with fail
  have Y9 := kide (Cy.mk s9 t9 Q9.out P9.out W9.out O9.out G9.out R9.out S9.out)
  clear s9 t9 c9 d9 Q9 P9 W9 O9 G9 R9 S9
  generalize hL9 : w8.heap.size + 1 = L9 at Y9
  generalize hH9 : w9.heap.size = H9 at Y9
  refine Calls.mono (eqInt64S_hold a9 a5 k9 k5 ZZ.length _ _ _ _ ZZ w9 Y9.out.g Y9.out.o) ?_
  rintro e w10 ⟨rfl, hb10⟩
  have Y10 := kide (Y9.out.later hb10)
  have c10 := Y10.out.s.cell
  have d10 := Y10.out.t.cell
  clear hb10 Y9
  go_wp2_with fail
  refine Calls.mono (HTD.out w10 Y10.out.s.below) ?_
  rintro e w11 ⟨rfl, r11, -, hb11⟩
  have Y11 := kide (Y10.out.later hb11)
  have c11 := Y11.out.s.cell
  have d11 := Y11.out.t.cell
  have R11 := kide r11
  clear hb11 r11 Y10 c10 d10
  go_wp2_with fail
  refine Calls.mono (eqDeclS_same _ _ ds.length ds.length ds w11 Y11.out.rd R11.out) ?_
  rintro e w12 ⟨rfl, hb12⟩
  have Y12 := kide (Y11.out.later hb12)
  have c12 := Y12.out.s.cell
  have d12 := Y12.out.t.cell
  clear hb12 Y11 c11 d11 R11
  go_wp2_with fail
  go_region_held3 (fun u => u.cell? ⟨w.heap.size, 0, none⟩ = some (Value.slice b n c2) ∧ u.cell? ⟨w7.heap.size, 0, none⟩ = some (Value.slice (some { block := g7, off := 0 }) n n)) (simp [*])
    (first
      | (go_at_call 9; refine Calls.mono (HTC.out _ ?_) ?_; exact Y12.out.s.below.drew; rintro e w13 ⟨g13, m13, rfl, hm13, -, r13, -, -, -, hb13⟩; replace hb13 := kundrew hb13; have Y13 := kide (Cy.later (u := w12) Y12.out hb13); have c13 := Y13.out.s.cell; have d13 := Y13.out.t.cell; have R13 := kide r13; have M13 := kide hm13; clear hm13 r13 hb13)
      | (go_at_call 13; refine Calls.mono (eqTerm_same (some ⟨g7, 0, none⟩) (some ⟨g13, 0, none⟩) n n m7 m13 _ Y13.out.ri R13.out (M7.out.trans M13.out.symm) n (len_of_tc M7.out HN.out) (len_of_tc M13.out HN.out)) ?_; rintro e w14 ⟨rfl, hb14⟩; have Y14 := kide (Y13.out.later hb14); have c14 := Y14.out.s.cell; have d14 := Y14.out.t.cell; clear hb14))
  clear Y12 c12 d12 Y13 c13 d13 R13 M13
  go_wp2_with fail
  refine Calls.mono (markDeclS_one gx ds.length ds.length f6 w14 Y14.out.q hd2) ?_
  rintro e w15 ⟨rfl, ho15⟩
  have gl15 : g7 < w14.heap.size := by obtain ⟨cc, hh, -⟩ := Y14.out.p; exact lt_of_block hh
  have s15 := Y14.out.s.out ho15 z5
  have t15 := Y14.out.t.cell
  have tl15 : w7.heap.size < w14.heap.size := block_lt_of_cell t15
  rw [← ho15.cell (b := w7.heap.size) tl15 (.inr (by omega))] at t15
  have P15 := kide (World.rowIs.of_block Y14.out.p (ho15.2.2.2.2 g7 gl15 (.inr (by omega))))
  have W15 := kide (fun x hx => And.intro ((Y14.out.wr x hx).1.out ho15 (.inl (by omega))) (Y14.out.wr x hx).2)
  have O15 := kide (Y14.out.o.out ho15 (.inl (Nat.le_refl _)))
  have G15 := kide (Y14.out.g.out ho15 (.inr (by omega)))
  have tl15' : w7.heap.size < w15.heap.size := Nat.lt_of_lt_of_le tl15 ho15.2.2.2.1
  have c15 := s15.cell
  clear ho15 Y14 c14 d14 tl15 gl15
  generalize hK : 1 + ds.length * 2 = K
  have hKb : K ≤ 4194304 := by omega
  clear hK
  go_wp2_with fail
  refine Calls.mono (markTerm_any g7 n n K w6.heap.size w7.heap.size m7 w15 f7 P15.out F7.out W15.out (len_of_tc M7.out HN.out) hn2 hKb HG7.out hg7') ?_
  rintro e w16 ⟨⟨r16, hr16, rfl⟩, ho16⟩
  have s16 := s15.out ho16 (by omega)
  have O16 := kide (O15.out.out ho16 (.inl (by omega)))
  have G16 := kide (G15.out.out ho16 (.inr (by omega)))
  have c16 := s16.cell
  clear ho16 s15 t15 c15 P15 W15 O15 G15 tl15'
  go_wp2_with fail
  refine Calls.mono (eqInt64S_hold a9 a5 k9 k5 ZZ.length _ _ _ _ ZZ w16 G16.out O16.out) ?_
  rintro e w17 ⟨rfl, hb17⟩
  have s17 := s16.next hb17
  have O17 := kide (O16.out.later hb17)
  have G17 := kide (G16.out.later hb17)
  have c17 := s17.cell
  clear hb17 s16 c16 O16 G16
  go_wp2_with fail
  refine Calls.mono (markInt64S_hold a9 k9 ZZ.length L9 H9 ZZ w17 G17.out) ?_
  rintro e w18 ⟨rfl, hm18, ho18⟩
  have s18 := s17.out ho18 (by omega)
  have O18 := kide (O17.out.out ho18 (.inl (by omega)))
  have M18 := kide hm18
  have c18 := s18.cell
  clear ho18 hm18 s17 c17 O17 G17
  have HHL := kide (fun u (hu : MkI u a9 ZZ.length) => heldInt64S_mk a9 k9 ZZ.length u hu (by omega))
  generalize hV : 1 + ZZ.length = V at *
  have hvv : ((V : Int) != (V : Int)) = false := by simp
  have hv0 : ¬ (V : Int) < 0 := by omega
  go_wp2_with fail
  refine Calls.mono (HHL.out w18 M18.out) ?_
  rintro e w19 ⟨rfl, rfl⟩
  have B18 := kide s18.below
  go_wp2_with fail
  go_region_held3 (fun u => u.cell? ⟨w.heap.size, 0, none⟩ = some (Value.slice b n c2)) (simp [*])
    (first
      | (go_at_call 8; refine Calls.mono (HTD.out _ ?_) ?_; exact B18.out.drew; rintro e w20 ⟨rfl, r20, -, hb20⟩; replace hb20 := kundrew hb20; have s20 := Bq.next (wk := w19) s18 hb20; have c20 := s20.cell; have R20 := kide r20; have B20 := kide s20.below; have O20 := kide (HoldI.later (w := w19) O18.out hb20); have M20 := kide (MkI.later (w := w19) M18.out hb20); clear hb20 r20)
      | (go_at_call 9; refine Calls.mono (HTC.out w20 B20.out) ?_; rintro e w21 ⟨g21, m21, rfl, hm21, -, r21, -, -, -, hb21⟩; have s21 := s20.next hb21; have c21 := s21.cell; have R21 := kide (R20.out.later hb21); have S21 := kide r21; have N21 := kide hm21; have O21 := kide (O20.out.later hb21); have M21 := kide (M20.out.later hb21); clear hb21 r21 hm21)
      | (go_at_call 10; refine Calls.mono (HIM.out _ _ ds.length n m21 w21 R21.out S21.out (len_of_tc N21.out HN.out) (HGF.out w21 s21.below) N21.out) ?_; rintro e w22 ⟨v22, rfl, o22, hb22⟩; have s22 := s21.next hb22; have c22 := s22.cell; have O22 := kide (O21.out.later hb22); have M22 := kide (M21.out.later hb22); clear hb22; obtain ⟨a22, k22, rfl, H22⟩ := o22.hold hlS hxS; have G22 := kide H22; clear H22 o22))
  clear s20 s21 c20 c21 R20 R21 S21 N21 O20 O21 M20 M21 B20 s18 c18 O18 M18
  go_wp2_with fail
  refine Calls.mono (eqInt64S_hold a22 a5 k22 k5 ZZ.length _ _ _ _ ZZ w22 G22.out O22.out) ?_
  rintro e w23 ⟨rfl, hb23⟩
  have s23 := s22.next hb23
  have M23 := kide (M22.out.later hb23)
  have c23 := s23.cell
  clear hb23 s22 c22 M22 O22 G22
  go_wp2_with fail
  refine Calls.mono (HHL.out w23 M23.out) ?_
  rintro e w24 ⟨rfl, rfl⟩
  go_wp2_with fail
  go_ret
  exact ⟨rfl, s23.below⟩

theorem law_no_FnExactRules (a b : Option Addr) (n c n2 c2 : Nat) (P : Int) (w : World) (Z Z2 : Int) (h : Z < 0 ∨ 0 ≤ Z ∧ Z2 < 0)
    (HSZ : Hid (∀ u, Below w.heap.size w u → Calls Tryz.prog 5 #[.slice a n c, .int .i64 1048576] u fun e w' => e = .returned (.int .i64 Z) ∧ Below u.heap.size u w'))
    (HSC : Hid (0 ≤ Z → ∀ u, Below w.heap.size w u → Calls Tryz.prog 6 #[.agg #[.slice b n2 c2], .int .i64 Z] u fun e w' => e = .returned (.int .i64 Z2) ∧ Below u.heap.size u w')) :
    Calls Tryz.prog 3 #[.slice a n c, .agg #[.slice b n2 c2], .int .i64 P] w fun e w' => e = .returned (.bool true) ∧ Below w.heap.size w w' := by
  have s0 := Bq.start w (.slice b n2 c2) 25
  rcases h with h | ⟨h, h2⟩
  · go_enter Tryz.func3, Tryz.ntmps3
    go_wp2_with fail
    refine Calls.mono (HSZ.out _ s0.below) ?_
    rintro e w1 ⟨rfl, hb1⟩
    have s1 := s0.next hb1
    go_wp2_with fail
    go_ret
    exact ⟨rfl, s1.below⟩
  · go_enter Tryz.func3, Tryz.ntmps3
    go_wp2_with fail
    refine Calls.mono (HSZ.out _ s0.below) ?_
    rintro e w1 ⟨rfl, hb1⟩
    have s1 := s0.next hb1
    have c1 := s1.cell
    go_wp2_with fail
    refine Calls.mono (HSC.out h w1 s1.below) ?_
    rintro e w2 ⟨rfl, hb2⟩
    have s2 := s1.next hb2
    go_wp2_with fail
    go_ret
    exact ⟨rfl, s2.below⟩

theorem walk_FnExactRules (a : Option Addr) (n c : Nat) (hn : n ≤ 9223372036854775807) (b : Option Addr) (n2 c2 : Nat) (hn2 : n2 ≤ 9223372036854775807) (P : Int) (_ : (Lit.int .i64 P).wf = true) (w : World) (hG : GF w)
    (hx : n ≤ 1048576 → ∃ ds : List Dc, ds.length = n ∧ RdD w a ds) (hy : n2 ≤ 1048576 → ∃ hs : List Th, hs.length = n2 ∧ RdTh w b hs ∧ ∀ h ∈ hs, NodeOf w h) :
    Calls Tryz.prog 3 #[.slice a n c, .agg #[.slice b n2 c2], .int .i64 P] w fun e w' => e = .returned (.bool true) ∧ Below w.heap.size w w' := by
  obtain ⟨Z, Z2, h1, h2, h3⟩ := sizes_term a b n c n2 c2 w hn hn2 hx hy
  by_cases hz : Z < 0
  · exact law_no_FnExactRules a b n c n2 c2 P w Z Z2 (.inl hz) h1 h2
  by_cases hz2 : Z2 < 0
  · exact law_no_FnExactRules a b n c n2 c2 P w Z Z2 (.inr ⟨by omega, hz2⟩) h1 h2
  obtain ⟨ds, xs, rfl, hxl, hr, hs⟩ := h3 (by omega) (by omega)
  exact law_yes_FnExactRules a b c c2 n2 ds xs P w hr hs hxl hG Z Z2 (by omega) (by omega) h1 (h2 (by omega))

end Go.Proofs.YtdlmgndmfphneaaGreatDoor
