/- The law FnExactFlatEval returns true, whatever it is handed. -/
import Derived.Test.YtpmpipcpifmncaaFK
namespace Go.Proofs.Ytpmpipcpifmncaa
set_option linter.unusedVariables false
set_option linter.unusedSimpArgs false
open Go.RowKit

theorem share4 {β γ δ : Type} {F : World → β → γ → δ → Prop} {P : World → β → γ → δ → Prop} {Q : Prop} (key : ∀ u b c d, F u b c d → P u b c d) (h : (∀ u b c d, F u b c d → P u b c d) → Q) : Q := h key

set_option maxHeartbeats 4000000 in
set_option maxRecDepth 100000 in
theorem law_yes_FnExactFlatEval (a b f : Option Addr) (c n c2 m c3 : Nat) (n0 : Nat) (ds : List Dc) (xs : List Bw) (ss : List Sg) (w : World) (hr : RdD w a ds) (hn0 : ds.length = n0) (hs : RdW w b xs) (hn : xs.length = n) (ht : RdS w f ss) (hm : ss.length = m) (Z Z2 Z3 : Int) (hZ : 0 ≤ Z) (hZ2 : 0 ≤ Z2) (hZ3 : 0 ≤ Z3)
    (HZ1 : Hid (∀ u, Below w.heap.size w u → Calls Try.prog 6 #[.slice a n0 c, .int .i64 1048576] u fun e w' => e = .returned (.int .i64 Z) ∧ Below u.heap.size u w'))
    (HZ2 : Hid (∀ u, Below w.heap.size w u → Calls Try.prog 7 #[.slice b n c2, .int .i64 Z] u fun e w' => e = .returned (.int .i64 Z2) ∧ Below u.heap.size u w'))
    (HZ3 : Hid (∀ u, Below w.heap.size w u → Calls Try.prog 8 #[.slice f m c3, .int .i64 Z2] u fun e w' => e = .returned (.int .i64 Z3) ∧ Below u.heap.size u w')) :
    Calls Try.prog 3 #[.slice a n0 c, .slice b n c2, .slice f m c3] w fun e w' => e = .returned (.bool true) ∧ Below w.heap.size w w' := by
  have HTD : Hid (∀ u, Below w.heap.size w u → Calls Try.prog 10 #[.slice a n0 c] u fun e w' => e = .returned (.slice (some ⟨u.heap.size, 0, none⟩) n0 n0) ∧ RdD w' (some ⟨u.heap.size, 0, none⟩) ds ∧ (∃ f, w'.rowIs u.heap.size 76 (n0 * 2) f) ∧ Below u.heap.size u w') := fun u hu => by
    subst hn0
    exact toDeclS_row a c ds u (hr.later hu)
  have HTA := kide (fun u (hu : Below w.heap.size w u) => toBitsS_ty b c2 n xs u (hs.later hu) hn)
  have HTB := kide (fun u (hu : Below w.heap.size w u) => toSegS_ty f c3 m ss u (ht.later hu) hm)
  obtain ⟨hRl, hRx⟩ := flev_ok ds (xs.map Bw.ct) (ss.map Sg.ct)
  have HRX := kide hRx
  have hn02 := hr.1
  rw [hn0] at hn02
  have hnn := hs.1
  rw [hn] at hnn
  have hmm := ht.1
  rw [hm] at hmm
  have HN0 := kide hn0
  have HN := kide hn
  have HM := kide hm
  have LEN : Hid (∀ {ms zs : List Bw} {k : Nat}, ms.map Bw.ct = zs.map Bw.ct → zs.length = k → ms.length = k) := fun {ms zs k} h h2 => by
    have := congrArg List.length h
    simp at this
    omega
  have LES : Hid (∀ {ms zs : List Sg} {k : Nat}, ms.map Sg.ct = zs.map Sg.ct → zs.length = k → ms.length = k) := fun {ms zs k} h h2 => by
    have := congrArg List.length h
    simp at this
    omega
  have HSP : Hid (∀ u (a b f : Option Addr) (xs' : List Bw) (ss' : List Sg), RdD u a ds → RdW u b xs' → xs'.map Bw.ct = xs.map Bw.ct → RdS u f ss' → ss'.map Sg.ct = ss.map Sg.ct → Calls Try.prog 9 #[.slice a n0 n0, .slice b n n, .slice f m m] u (RetB u (flevR ds (xs.map Bw.ct) (ss.map Sg.ct)))) := fun u a b f xs' ss' h1 h2 e2 h3 e3 => by
    have h := specFlev_any a b f n0 n m n m ds xs' ss' u h1 h2 (LEN.out e2 HN.out) h3 (LES.out e3 HM.out)
    rw [HN0.out, e2, e3] at h
    exact h
  have HIM : Hid (∀ u (a b f : Option Addr) (xs' : List Bw) (ss' : List Sg), RdD u a ds → RdW u b xs' → xs'.map Bw.ct = xs.map Bw.ct → RdS u f ss' → ss'.map Sg.ct = ss.map Sg.ct → Calls Try.prog 13 #[.slice a n0 n0, .slice b n n, .slice f m m] u (RetB u (flevR ds (xs.map Bw.ct) (ss.map Sg.ct)))) := fun u a b f xs' ss' h1 h2 e2 h3 e3 => by
    have h := implFlev_any a b f n0 n m n m ds xs' ss' u h1 h2 (LEN.out e2 HN.out) h3 (LES.out e3 HM.out)
    rw [HN0.out, e2, e3] at h
    exact h
  have HED : Hid (∀ u (a b : Option Addr), RdD u a ds → RdD u b ds → Calls Try.prog 15 #[.slice a n0 n0, .slice b n0 n0] u fun e w' => e = .returned (.bool true) ∧ Below u.heap.size u w') := fun u a b h1 h2 => by
    have h := eqDeclS_same a b n0 n0 ds u h1 h2
    rw [HN0.out] at h
    exact h
  generalize flevR ds (xs.map Bw.ct) (ss.map Sg.ct) = X at *
  clear hr hn0 hs hn ht hm hRx
  obtain ⟨rw0, ry, xb⟩ := X
  simp only at hRl HRX HSP HIM
  generalize hrl : ry.length = rl at *
  have HRL := kide hrl
  clear hrl
  have HEQ : Hid (∀ (u : World) (a b : Option Addr) (c d : Nat), Rd u a ry → Rd u b ry → Calls Try.prog 14 #[.agg #[.int .i64 rw0, .slice a rl c], .agg #[.int .i64 rw0, .slice b rl d]] u fun e w' => e = .returned (.bool true) ∧ Below u.heap.size u w') := fun u a b c d h1 h2 => by
    have h := eqBits_any rw0 rw0 a b c d ry ry u h1 h2
    rw [HRL.out, decide_eq_true ⟨rfl, rfl⟩] at h
    exact h
  have HS2 : Hid (∀ u (a b f : Option Addr) (xs' : List Bw) (ss' : List Sg), RdD u a ds → RdW u b xs' → xs'.map Bw.ct = xs.map Bw.ct → RdS u f ss' → ss'.map Sg.ct = ss.map Sg.ct → Calls Try.prog 9 #[.slice a n0 n0, .slice b n n, .slice f m m] u fun e w' => ∃ a c, e = .returned (.tuple #[.agg #[.int .i64 rw0, .slice a rl c], .bool xb]) ∧ Fb w' u.heap.size w'.heap.size w'.heap.size a ry ∧ Below u.heap.size u w') := fun u a b f xs' ss' h1 h2 e2 h3 e3 => (HSP.out u a b f xs' ss' h1 h2 e2 h3 e3).mono (by
    rintro e w' ⟨a9, c9, rfl, h9, hb9⟩
    exact ⟨a9, c9, by simp only [HRL.out], Fb.of h9, hb9⟩)
  have HI2 : Hid (∀ u (a b f : Option Addr) (xs' : List Bw) (ss' : List Sg), RdD u a ds → RdW u b xs' → xs'.map Bw.ct = xs.map Bw.ct → RdS u f ss' → ss'.map Sg.ct = ss.map Sg.ct → Calls Try.prog 13 #[.slice a n0 n0, .slice b n n, .slice f m m] u fun e w' => ∃ a c, e = .returned (.tuple #[.agg #[.int .i64 rw0, .slice a rl c], .bool xb]) ∧ Fb w' u.heap.size w'.heap.size w'.heap.size a ry ∧ Below u.heap.size u w') := fun u a b f xs' ss' h1 h2 e2 h3 e3 => (HIM.out u a b f xs' ss' h1 h2 e2 h3 e3).mono (by
    rintro e w' ⟨a9, c9, rfl, h9, hb9⟩
    exact ⟨a9, c9, by simp only [HRL.out], Fb.of h9, hb9⟩)
  have HRD : Hid (∀ {u : World} {lo hi bx : Nat} {a : Option Addr}, Fb u lo hi bx a ry → Rd u a ry) := fun h => h.rd (by rw [HRL.out]; exact hRl) HRX.out
  obtain ⟨V, hV⟩ : ∃ V : Nat, 1 + rl = V := ⟨_, rfl⟩
  have HMK : Hid (∀ (u : World) (lo hi bx c : Nat) (a : Option Addr), Fb u lo hi bx a ry → lo ≤ hi → Calls Try.prog 21 #[.agg #[.int .i64 rw0, .slice a rl c], .int .i64 1] u fun e w' => e = .returned (.int .i64 (V : Int)) ∧ Fb w' lo hi bx a (marks 1 rl) ∧ (∀ cs t, Bz u bx cs t → Bz w' bx cs t) ∧ Out lo hi u w') := fun u lo hi bx c a h1 h2 => by
    have h := markBits_fb rw0 lo hi bx c a ry u (by rw [HRL.out]; exact hRl) h1 h2
    rw [HRL.out, hV] at h
    exact h
  have HHD : Hid (∀ (u : World) (lo hi bx c : Nat) (a : Option Addr), Fb u lo hi bx a (marks 1 rl) → Calls Try.prog 22 #[.agg #[.int .i64 rw0, .slice a rl c], .int .i64 1] u fun e w' => e = .returned (.int .i64 (V : Int)) ∧ Below u.heap.size u w') := fun u lo hi bx c a h1 => by
    have h := heldBits_yes rw0 a c 1 rl u (by omega) (h1.rd (by rw [marks_len]; exact hRl) (marks_lt 1 rl (by omega) hRl))
    rw [hV] at h
    exact h
  have hv0 : ¬ (V : Int) < 0 := by omega
  have hvv : ((V : Int) != (V : Int)) = false := by simp
  clear HSP HIM hV
  have hXX : (!xb == xb) = false := by cases xb <;> rfl
  have hXX2 : (xb != xb) = false := by cases xb <;> rfl
  go_enter Try.func3, Try.ntmps3
  have B0 := kide (Below.refl w.heap.size w)
  go_wp2_with fail
  refine Calls.mono (HZ1.out _ B0.out) ?_
  rintro e w1 ⟨rfl, hb⟩
  have B1 := kide (B0.out.trans (hb.mono B0.out.size))
  have z1 : w.heap.size ≤ w1.heap.size := hb.size
  clear hb B0
  go_wp2_with fail
  refine Calls.mono (HZ2.out _ B1.out) ?_
  rintro e w2 ⟨rfl, hb⟩
  have B2 := kide (B1.out.trans (hb.mono B1.out.size))
  have z2 : w1.heap.size ≤ w2.heap.size := hb.size
  clear hb B1
  go_wp2_with fail
  refine Calls.mono (HZ3.out _ B2.out) ?_
  rintro e w3 ⟨rfl, hb⟩
  have B3 := kide (B2.out.trans (hb.mono B2.out.size))
  have z3 : w2.heap.size ≤ w3.heap.size := hb.size
  clear hb B2
  go_wp2_with fail
  refine Calls.mono (HTD.out _ B3.out) ?_
  rintro e w4 ⟨rfl, r, -, hb⟩
  have B4 := kide (B3.out.trans (hb.mono B3.out.size))
  have z4 : w3.heap.size ≤ w4.heap.size := hb.size
  have RD4 := kide r
  clear r
  clear hb B3
  go_wp2_with fail
  refine Calls.mono (HTA.out _ B4.out) ?_
  rintro e w5 ⟨m5, rfl, e5, r, -, hb⟩
  have B5 := kide (B4.out.trans (hb.mono B4.out.size))
  have z5 : w4.heap.size ≤ w5.heap.size := hb.size
  have RD5 := kide (RD4.out.later hb)
  have RA5 := kide r
  have E5 := kide e5
  clear r e5
  clear hb B4 RD4
  go_wp2_with fail
  refine Calls.mono (HTB.out _ B5.out) ?_
  rintro e w6 ⟨m6, rfl, e6, r, -, hb⟩
  have B6 := kide (B5.out.trans (hb.mono B5.out.size))
  have z6 : w5.heap.size ≤ w6.heap.size := hb.size
  have RD6 := kide (RD5.out.later hb)
  have RA6 := kide (RA5.out.later hb)
  have RS6 := kide r
  have E6 := kide e6
  clear r e6
  clear hb B5 RD5 RA5
  go_wp2_with fail
  refine Calls.mono (HS2.out w6 _ _ _ m5 m6 RD6.out RA6.out E5.out RS6.out E6.out) ?_
  rintro e w7 ⟨aw, cw, rfl, hf, hb⟩
  have B7 := kide (B6.out.trans (hb.mono B6.out.size))
  have z7 : w6.heap.size ≤ w7.heap.size := hb.size
  have S7 := kide hf
  clear hf E5 E6
  clear hb B6 RD6 RA6 RS6
  go_wp2_with fail
  have hb : Below w7.heap.size w7 (w7.alloc (Obj.cells #[Value.int .i64 rw0, Value.slice aw rl cw] 30)) := (Below.refl _ _).alloc (Nat.le_refl _) _
  have B8 := kide (B7.out.trans (hb.mono B7.out.size))
  have z8 : w7.heap.size < (w7.alloc (Obj.cells #[Value.int .i64 rw0, Value.slice aw rl cw] 30)).heap.size := by simp
  have S8 := kide (S7.out.later hb)
  have BW8 := kide (Bz.new w7 #[Value.int .i64 rw0, Value.slice aw rl cw] 30)
  clear hb B7 S7
  generalize w7.alloc (Obj.cells #[Value.int .i64 rw0, Value.slice aw rl cw] 30) = w8 at *
  refine Calls.mono (HTD.out _ B8.out) ?_
  rintro e w9 ⟨rfl, r, ⟨fd, q⟩, hb⟩
  have B9 := kide (B8.out.trans (hb.mono B8.out.size))
  have z9 : w8.heap.size ≤ w9.heap.size := hb.size
  have S9 := kide (S8.out.later hb)
  have BW9 := kide (BW8.out.later hb)
  have RD9 := kide r
  have QD9 := kide q
  have zl9 : w8.heap.size < w9.heap.size := q.lt
  clear r q
  clear hb B8 S8 BW8
  go_wp2_with fail
  refine Calls.mono (HTA.out _ B9.out) ?_
  rintro e w10 ⟨m10, rfl, e10, r, q, hb⟩
  have B10 := kide (B9.out.trans (hb.mono B9.out.size))
  have z10 : w9.heap.size ≤ w10.heap.size := hb.size
  have S10 := kide (S9.out.later hb)
  have BW10 := kide (BW9.out.later hb)
  have RD10 := kide (RD9.out.later hb)
  have QD10 := kide (rowIs_out QD9.out (Out.of (B1 := 0) (B2 := 0) hb) (.inr (Nat.zero_le _)))
  have RA10 := kide r
  have QA10 := kide q
  have E10 := kide e10
  clear r q e10
  clear hb B9 S9 BW9 RD9 QD9
  go_wp2_with fail
  refine Calls.mono (HTB.out _ B10.out) ?_
  rintro e w11 ⟨m11, rfl, e11, r, q, hb⟩
  have B11 := kide (B10.out.trans (hb.mono B10.out.size))
  have z11 : w10.heap.size ≤ w11.heap.size := hb.size
  have S11 := kide (S10.out.later hb)
  have BW11 := kide (BW10.out.later hb)
  have RD11 := kide (RD10.out.later hb)
  have QD11 := kide (rowIs_out QD10.out (Out.of (B1 := 0) (B2 := 0) hb) (.inr (Nat.zero_le _)))
  have RA11 := kide (RA10.out.later hb)
  have QA11 := kide (QA10.out.shp (Shp.of hb))
  have RS11 := kide r
  have QS11 := kide q
  have E11 := kide e11
  clear r q e11
  clear hb B10 S10 BW10 RD10 QD10 RA10 QA10
  go_wp2_with fail
  refine Calls.mono (HI2.out w11 _ _ _ m10 m11 RD11.out RA11.out E10.out RS11.out E11.out) ?_
  rintro e w12 ⟨ag, cg, rfl, hf, hb⟩
  have B12 := kide (B11.out.trans (hb.mono B11.out.size))
  have z12 : w11.heap.size ≤ w12.heap.size := hb.size
  have S12 := kide (S11.out.later hb)
  have BW12 := kide (BW11.out.later hb)
  have RD12 := kide (RD11.out.later hb)
  have QD12 := kide (rowIs_out QD11.out (Out.of (B1 := 0) (B2 := 0) hb) (.inr (Nat.zero_le _)))
  have RA12 := kide (RA11.out.later hb)
  have QA12 := kide (QA11.out.shp (Shp.of hb))
  have RS12 := kide (RS11.out.later hb)
  have QS12 := kide (QS11.out.shp (Shp.of hb))
  have G12 := kide hf
  clear hf
  clear hb B11 S11 BW11 RD11 QD11 RA11 QA11 RS11 QS11
  have p0 : w12.cell? ⟨w7.heap.size, 0, none⟩ = some (Value.int .i64 rw0) := BW12.out.cell 0
  have p1 : w12.cell? ⟨w7.heap.size, 1, none⟩ = some (Value.slice aw rl cw) := BW12.out.cell 1
  have lp : w7.heap.size < w12.heap.size := BW12.out.lt
  go_wp2_with fail
  have hb : Below w12.heap.size w12 (w12.alloc (Obj.cells #[Value.int .i64 rw0, Value.slice ag rl cg] 30)) := (Below.refl _ _).alloc (Nat.le_refl _) _
  have B13 := kide (B12.out.trans (hb.mono B12.out.size))
  have z13 : w12.heap.size < (w12.alloc (Obj.cells #[Value.int .i64 rw0, Value.slice ag rl cg] 30)).heap.size := by simp
  have S13 := kide (S12.out.later hb)
  have BW13 := kide (BW12.out.later hb)
  have RD13 := kide (RD12.out.later hb)
  have QD13 := kide (rowIs_out QD12.out (Out.of (B1 := 0) (B2 := 0) hb) (.inr (Nat.zero_le _)))
  have RA13 := kide (RA12.out.later hb)
  have QA13 := kide (QA12.out.shp (Shp.of hb))
  have RS13 := kide (RS12.out.later hb)
  have QS13 := kide (QS12.out.shp (Shp.of hb))
  have G13 := kide (G12.out.later hb)
  have BG13 := kide (Bz.new w12 #[Value.int .i64 rw0, Value.slice ag rl cg] 30)
  clear hb B12 S12 BW12 RD12 QD12 RA12 QA12 RS12 QS12 G12
  generalize w12.alloc (Obj.cells #[Value.int .i64 rw0, Value.slice ag rl cg] 30) = w13 at *
  refine Calls.mono (HEQ.out w13 ag aw cg cw (HRD.out G13.out) (HRD.out S13.out)) ?_
  rintro e w14 ⟨rfl, hb⟩
  have B14 := kide (B13.out.trans (hb.mono B13.out.size))
  have z14 : w13.heap.size ≤ w14.heap.size := hb.size
  have S14 := kide (S13.out.later hb)
  have BW14 := kide (BW13.out.later hb)
  have RD14 := kide (RD13.out.later hb)
  have QD14 := kide (rowIs_out QD13.out (Out.of (B1 := 0) (B2 := 0) hb) (.inr (Nat.zero_le _)))
  have RA14 := kide (RA13.out.later hb)
  have QA14 := kide (QA13.out.shp (Shp.of hb))
  have RS14 := kide (RS13.out.later hb)
  have QS14 := kide (QS13.out.shp (Shp.of hb))
  have G14 := kide (G13.out.later hb)
  have BG14 := kide (BG13.out.later hb)
  clear p0 p1
  clear lp
  clear hb B13 S13 BW13 RD13 QD13 RA13 QA13 RS13 QS13 G13 BG13
  go_wp2_with fail
  refine Calls.mono (HTD.out _ B14.out) ?_
  rintro e w15 ⟨rfl, r, -, hb⟩
  have B15 := kide (B14.out.trans (hb.mono B14.out.size))
  have z15 : w14.heap.size ≤ w15.heap.size := hb.size
  have S15 := kide (S14.out.later hb)
  have BW15 := kide (BW14.out.later hb)
  have RD15 := kide (RD14.out.later hb)
  have QD15 := kide (rowIs_out QD14.out (Out.of (B1 := 0) (B2 := 0) hb) (.inr (Nat.zero_le _)))
  have RA15 := kide (RA14.out.later hb)
  have QA15 := kide (QA14.out.shp (Shp.of hb))
  have RS15 := kide (RS14.out.later hb)
  have QS15 := kide (QS14.out.shp (Shp.of hb))
  have G15 := kide (G14.out.later hb)
  have BG15 := kide (BG14.out.later hb)
  have P15 := kide r
  clear r
  clear hb B14 S14 BW14 RD14 QD14 RA14 QA14 RS14 QS14 G14 BG14
  go_wp2_with fail
  refine Calls.mono (HED.out _ _ _ RD15.out P15.out) ?_
  rintro e w16 ⟨rfl, hb⟩
  have B16 := kide (B15.out.trans (hb.mono B15.out.size))
  have z16 : w15.heap.size ≤ w16.heap.size := hb.size
  have S16 := kide (S15.out.later hb)
  have BW16 := kide (BW15.out.later hb)
  have QD16 := kide (rowIs_out QD15.out (Out.of (B1 := 0) (B2 := 0) hb) (.inr (Nat.zero_le _)))
  have RA16 := kide (RA15.out.later hb)
  have QA16 := kide (QA15.out.shp (Shp.of hb))
  have RS16 := kide (RS15.out.later hb)
  have QS16 := kide (QS15.out.shp (Shp.of hb))
  have G16 := kide (G15.out.later hb)
  have BG16 := kide (BG15.out.later hb)
  clear hb B15 S15 BW15 QD15 RA15 QA15 RS15 QS15 G15 BG15 RD15 P15
  go_wp2_with fail
  refine Calls.mono (HTA.out _ B16.out) ?_
  rintro e w17 ⟨m17, rfl, e17, r, -, hb⟩
  have B17 := kide (B16.out.trans (hb.mono B16.out.size))
  have z17 : w16.heap.size ≤ w17.heap.size := hb.size
  have S17 := kide (S16.out.later hb)
  have BW17 := kide (BW16.out.later hb)
  have QD17 := kide (rowIs_out QD16.out (Out.of (B1 := 0) (B2 := 0) hb) (.inr (Nat.zero_le _)))
  have RA17 := kide (RA16.out.later hb)
  have QA17 := kide (QA16.out.shp (Shp.of hb))
  have RS17 := kide (RS16.out.later hb)
  have QS17 := kide (QS16.out.shp (Shp.of hb))
  have G17 := kide (G16.out.later hb)
  have BG17 := kide (BG16.out.later hb)
  have P17 := kide r
  have E17 := kide e17
  clear r e17
  clear hb B16 S16 BW16 QD16 RA16 QA16 RS16 QS16 G16 BG16
  go_wp2_with fail
  refine Calls.mono (eqBitsS_same _ _ n n m10 m17 w17 RA17.out P17.out (E10.out.trans E17.out.symm) n (LEN.out E10.out HN.out) (LEN.out E17.out HN.out)) ?_
  rintro e w18 ⟨rfl, hb⟩
  have B18 := kide (B17.out.trans (hb.mono B17.out.size))
  have z18 : w17.heap.size ≤ w18.heap.size := hb.size
  have S18 := kide (S17.out.later hb)
  have BW18 := kide (BW17.out.later hb)
  have QD18 := kide (rowIs_out QD17.out (Out.of (B1 := 0) (B2 := 0) hb) (.inr (Nat.zero_le _)))
  have QA18 := kide (QA17.out.shp (Shp.of hb))
  have RS18 := kide (RS17.out.later hb)
  have QS18 := kide (QS17.out.shp (Shp.of hb))
  have G18 := kide (G17.out.later hb)
  have BG18 := kide (BG17.out.later hb)
  clear E17
  clear hb B17 S17 BW17 QD17 QA17 RS17 QS17 G17 BG17 RA17 P17
  go_wp2_with fail
  refine Calls.mono (HTB.out _ B18.out) ?_
  rintro e w19 ⟨m19, rfl, e19, r, -, hb⟩
  have B19 := kide (B18.out.trans (hb.mono B18.out.size))
  have z19 : w18.heap.size ≤ w19.heap.size := hb.size
  have S19 := kide (S18.out.later hb)
  have BW19 := kide (BW18.out.later hb)
  have QD19 := kide (rowIs_out QD18.out (Out.of (B1 := 0) (B2 := 0) hb) (.inr (Nat.zero_le _)))
  have QA19 := kide (QA18.out.shp (Shp.of hb))
  have RS19 := kide (RS18.out.later hb)
  have QS19 := kide (QS18.out.shp (Shp.of hb))
  have G19 := kide (G18.out.later hb)
  have BG19 := kide (BG18.out.later hb)
  have P19 := kide r
  have E19 := kide e19
  clear r e19
  clear hb B18 S18 BW18 QD18 QA18 RS18 QS18 G18 BG18
  go_wp2_with fail
  refine Calls.mono (eqSegS_same _ _ m m m11 m19 w19 RS19.out P19.out (E11.out.trans E19.out.symm) m (LES.out E11.out HM.out) (LES.out E19.out HM.out)) ?_
  rintro e w20 ⟨rfl, hb⟩
  have B20 := kide (B19.out.trans (hb.mono B19.out.size))
  have z20 : w19.heap.size ≤ w20.heap.size := hb.size
  have S20 := kide (S19.out.later hb)
  have BW20 := kide (BW19.out.later hb)
  have QD20 := kide (rowIs_out QD19.out (Out.of (B1 := 0) (B2 := 0) hb) (.inr (Nat.zero_le _)))
  have QA20 := kide (QA19.out.shp (Shp.of hb))
  have QS20 := kide (QS19.out.shp (Shp.of hb))
  have G20 := kide (G19.out.later hb)
  have BG20 := kide (BG19.out.later hb)
  clear E19
  clear hb B19 S19 BW19 QD19 QA19 QS19 G19 BG19 RS19 P19
  go_wp2_with fail
  refine Calls.mono (markDeclS_one w8.heap.size n0 n0 fd w20 QD20.out hn02) ?_
  rintro e w21 ⟨rfl, ho⟩
  have B21 := kide (Out.bel B20.out ho (by omega))
  have z21 : w20.heap.size ≤ w21.heap.size := ho.2.2.2.1
  have S21 := kide (S20.out.keep ho (by omega))
  have BW21 := kide (bz_out BW20.out ho (by omega))
  have QA21 := kide (QA20.out.out ho (by omega))
  have QS21 := kide (QS20.out.out ho (by omega))
  have G21 := kide (G20.out.keep ho (by omega))
  have BG21 := kide (bz_out BG20.out ho (by omega))
  obtain ⟨K1, hK1, hK1b⟩ : ∃ K1 : Nat, ((1 + n0 * 2 : Nat) : Int) = (K1 : Int) ∧ K1 ≤ 100000000 := ⟨_, rfl, by omega⟩
  rw [hK1]
  clear hK1
  clear ho B20 S20 BW20 QA20 QS20 G20 BG20 QD20
  go_wp2_with fail
  refine Calls.mono (markBitsS_ty w9.heap.size w10.heap.size n n K1 _ w21 QA21.out (by omega)) ?_
  rintro e w22 ⟨K2, rfl, hK2, -, ho⟩
  have B22 := kide (Out.bel B21.out ho (by omega))
  have z22 : w21.heap.size ≤ w22.heap.size := ho.2.2.2.1
  have S22 := kide (S21.out.keep ho (by omega))
  have BW22 := kide (bz_out BW21.out ho (by omega))
  have QS22 := kide (QS21.out.out ho (by omega))
  have G22 := kide (G21.out.keep ho (by omega))
  have BG22 := kide (bz_out BG21.out ho (by omega))
  have hK2b : K2 ≤ 100000000000000 := by omega
  clear hK2
  clear ho B21 S21 BW21 QS21 G21 BG21 QA21
  go_wp2_with fail
  refine Calls.mono (markSegS_ty w10.heap.size w11.heap.size m m K2 _ w22 QS22.out (by omega)) ?_
  rintro e w23 ⟨K3, rfl, hK3, -, ho⟩
  have B23 := kide (Out.bel B22.out ho (by omega))
  have z23 : w22.heap.size ≤ w23.heap.size := ho.2.2.2.1
  have S23 := kide (S22.out.keep ho (by omega))
  have BW23 := kide (bz_out BW22.out ho (by omega))
  have G23 := kide (G22.out.keep ho (by omega))
  have BG23 := kide (bz_out BG22.out ho (by omega))
  have hK3b : ¬ (K3 : Int) < 0 := by omega
  clear hK3
  clear ho B22 S22 BW22 G22 BG22 QS22
  have p0 : w23.cell? ⟨w7.heap.size, 0, none⟩ = some (Value.int .i64 rw0) := BW23.out.cell 0
  have q0 : w23.cell? ⟨w12.heap.size, 0, none⟩ = some (Value.int .i64 rw0) := BG23.out.cell 0
  have p1 : w23.cell? ⟨w7.heap.size, 1, none⟩ = some (Value.slice aw rl cw) := BW23.out.cell 1
  have q1 : w23.cell? ⟨w12.heap.size, 1, none⟩ = some (Value.slice ag rl cg) := BG23.out.cell 1
  go_wp2_with fail
  refine Calls.mono (HEQ.out w23 ag aw cg cw (HRD.out G23.out) (HRD.out S23.out)) ?_
  rintro e w24 ⟨rfl, hb⟩
  have B24 := kide (B23.out.trans (hb.mono B23.out.size))
  have z24 : w23.heap.size ≤ w24.heap.size := hb.size
  have S24 := kide (S23.out.later hb)
  have BW24 := kide (BW23.out.later hb)
  have G24 := kide (G23.out.later hb)
  have BG24 := kide (BG23.out.later hb)
  clear p0 p1 q0 q1
  clear hb B23 S23 BW23 G23 BG23
  have q0 : w24.cell? ⟨w12.heap.size, 0, none⟩ = some (Value.int .i64 rw0) := BG24.out.cell 0
  have q1 : w24.cell? ⟨w12.heap.size, 1, none⟩ = some (Value.slice ag rl cg) := BG24.out.cell 1
  go_wp2_with fail
  refine Calls.mono (HMK.out w24 w11.heap.size w12.heap.size w12.heap.size cg ag G24.out (by omega)) ?_
  rintro e w25 ⟨rfl, hfm, hz, ho⟩
  have B25 := kide (Out.bel B24.out ho (by omega))
  have z25 : w24.heap.size ≤ w25.heap.size := ho.2.2.2.1
  have S25 := kide (S24.out.keep ho (by omega))
  have BW25 := kide (bz_out BW24.out ho (by omega))
  have HH25 := kide hfm
  have BG25 := kide (hz _ _ BG24.out)
  clear hfm hz
  clear q0 q1
  clear ho B24 S24 BW24 G24 BG24
  have q0 : w25.cell? ⟨w12.heap.size, 0, none⟩ = some (Value.int .i64 rw0) := BG25.out.cell 0
  have q1 : w25.cell? ⟨w12.heap.size, 1, none⟩ = some (Value.slice ag rl cg) := BG25.out.cell 1
  go_wp2_with fail
  refine Calls.mono (HHD.out w25 _ _ _ cg ag HH25.out) ?_
  rintro e w26 ⟨rfl, hb⟩
  have B26 := kide (B25.out.trans (hb.mono B25.out.size))
  have z26 : w25.heap.size ≤ w26.heap.size := hb.size
  have S26 := kide (S25.out.later hb)
  have BW26 := kide (BW25.out.later hb)
  have HH26 := kide (HH25.out.later hb)
  have BG26 := kide (BG25.out.later hb)
  clear q0 q1
  clear hb B25 S25 BW25 HH25 BG25
  go_wp2_with fail
  refine Calls.mono (HTD.out _ B26.out) ?_
  rintro e w27 ⟨rfl, r, -, hb⟩
  have B27 := kide (B26.out.trans (hb.mono B26.out.size))
  have z27 : w26.heap.size ≤ w27.heap.size := hb.size
  have S27 := kide (S26.out.later hb)
  have BW27 := kide (BW26.out.later hb)
  have HH27 := kide (HH26.out.later hb)
  have BG27 := kide (BG26.out.later hb)
  have RD27 := kide r
  clear r
  clear hb B26 S26 BW26 HH26 BG26
  go_wp2_with fail
  refine Calls.mono (HTA.out _ B27.out) ?_
  rintro e w28 ⟨m28, rfl, e28, r, -, hb⟩
  have B28 := kide (B27.out.trans (hb.mono B27.out.size))
  have z28 : w27.heap.size ≤ w28.heap.size := hb.size
  have S28 := kide (S27.out.later hb)
  have BW28 := kide (BW27.out.later hb)
  have HH28 := kide (HH27.out.later hb)
  have BG28 := kide (BG27.out.later hb)
  have RD28 := kide (RD27.out.later hb)
  have RA28 := kide r
  have E28 := kide e28
  clear r e28
  clear hb B27 S27 BW27 HH27 BG27 RD27
  go_wp2_with fail
  refine Calls.mono (HTB.out _ B28.out) ?_
  rintro e w29 ⟨m29, rfl, e29, r, -, hb⟩
  have B29 := kide (B28.out.trans (hb.mono B28.out.size))
  have z29 : w28.heap.size ≤ w29.heap.size := hb.size
  have S29 := kide (S28.out.later hb)
  have BW29 := kide (BW28.out.later hb)
  have HH29 := kide (HH28.out.later hb)
  have BG29 := kide (BG28.out.later hb)
  have RD29 := kide (RD28.out.later hb)
  have RA29 := kide (RA28.out.later hb)
  have RS29 := kide r
  have E29 := kide e29
  clear r e29
  clear hb B28 S28 BW28 HH28 BG28 RD28 RA28
  go_wp2_with fail
  refine Calls.mono (HI2.out w29 _ _ _ m28 m29 RD29.out RA29.out E28.out RS29.out E29.out) ?_
  rintro e w30 ⟨ah, ch, rfl, hf, hb⟩
  have B30 := kide (B29.out.trans (hb.mono B29.out.size))
  have z30 : w29.heap.size ≤ w30.heap.size := hb.size
  have S30 := kide (S29.out.later hb)
  have BW30 := kide (BW29.out.later hb)
  have HH30 := kide (HH29.out.later hb)
  have BG30 := kide (BG29.out.later hb)
  have H30 := kide hf
  clear hf
  clear hb B29 S29 BW29 HH29 BG29 RD29 RA29 RS29
  have p0 : w30.cell? ⟨w7.heap.size, 0, none⟩ = some (Value.int .i64 rw0) := BW30.out.cell 0
  have p1 : w30.cell? ⟨w7.heap.size, 1, none⟩ = some (Value.slice aw rl cw) := BW30.out.cell 1
  have lp : w7.heap.size < w30.heap.size := BW30.out.lt
  go_wp2_with fail
  have hb : Below w30.heap.size w30 (w30.alloc (Obj.cells #[Value.int .i64 rw0, Value.slice ah rl ch] 30)) := (Below.refl _ _).alloc (Nat.le_refl _) _
  have B31 := kide (B30.out.trans (hb.mono B30.out.size))
  have z31 : w30.heap.size < (w30.alloc (Obj.cells #[Value.int .i64 rw0, Value.slice ah rl ch] 30)).heap.size := by simp
  have S31 := kide (S30.out.later hb)
  have BW31 := kide (BW30.out.later hb)
  have HH31 := kide (HH30.out.later hb)
  have BG31 := kide (BG30.out.later hb)
  have H31 := kide (H30.out.later hb)
  have BH31 := kide (Bz.new w30 #[Value.int .i64 rw0, Value.slice ah rl ch] 30)
  clear hb B30 S30 BW30 HH30 BG30 H30
  generalize w30.alloc (Obj.cells #[Value.int .i64 rw0, Value.slice ah rl ch] 30) = w31 at *
  refine Calls.mono (HEQ.out w31 ah aw ch cw (HRD.out H31.out) (HRD.out S31.out)) ?_
  rintro e w32 ⟨rfl, hb⟩
  have B32 := kide (B31.out.trans (hb.mono B31.out.size))
  have z32 : w31.heap.size ≤ w32.heap.size := hb.size
  have BW32 := kide (BW31.out.later hb)
  have HH32 := kide (HH31.out.later hb)
  have BG32 := kide (BG31.out.later hb)
  clear p0 p1
  clear lp
  clear hb B31 BW31 HH31 BG31 H31 S31 BH31
  have q0 : w32.cell? ⟨w12.heap.size, 0, none⟩ = some (Value.int .i64 rw0) := BG32.out.cell 0
  have q1 : w32.cell? ⟨w12.heap.size, 1, none⟩ = some (Value.slice ag rl cg) := BG32.out.cell 1
  go_wp2_with fail
  refine Calls.mono (HHD.out w32 _ _ _ cg ag HH32.out) ?_
  rintro e w33 ⟨rfl, hb⟩
  have B33 := kide (B32.out.trans (hb.mono B32.out.size))
  have z33 : w32.heap.size ≤ w33.heap.size := hb.size
  have BW33 := kide (BW32.out.later hb)
  have HH33 := kide (HH32.out.later hb)
  have BG33 := kide (BG32.out.later hb)
  clear q0 q1
  clear hb B32 BW32 HH32 BG32
  go_wp2_with fail
  go_ret
  exact ⟨rfl, B33.out⟩

theorem walk_FnExactFlatEval (a : Option Addr) (n0 c : Nat) (hn0 : n0 ≤ 9223372036854775807) (b : Option Addr) (n c2 : Nat) (hn : n ≤ 9223372036854775807) (d : Option Addr) (n2 c3 : Nat) (hn2 : n2 ≤ 9223372036854775807) (w : World)
    (hx : n0 ≤ 1048576 → ∃ ds : List Dc, ds.length = n0 ∧ RdD w a ds) (hy : n ≤ 1048576 → ∃ hs : List Bh, hs.length = n ∧ RdBh w b hs ∧ ∀ h ∈ hs, WordsOf w h) (hz : n2 ≤ 1048576 → ∃ hs : List Sh, hs.length = n2 ∧ RdSh w d hs ∧ ∀ h ∈ hs, SegOf w h) :
    Calls Try.prog 3 #[.slice a n0 c, .slice b n c2, .slice d n2 c3] w fun e w' => e = .returned (.bool true) ∧ Below w.heap.size w w' := by
  obtain ⟨Z, HZ1, hZb, hneg | ⟨hZ, ds, hdl, hr⟩⟩ := size_ds a n0 c w hn0 hx
  · clear hx hy hz
    go_enter Try.func3, Try.ntmps3
    go_wp2_with fail
    refine Calls.mono (HZ1.out _ (Below.refl _ _)) ?_
    rintro e w1 ⟨rfl, hb1⟩
    go_wp2_with fail
    go_ret
    exact ⟨rfl, hb1⟩
  · obtain ⟨Z2, HZ2, hZ2b, hneg | ⟨hZ2, xs, hxl, hs⟩⟩ := size_bs b n c2 Z w hZ hZb hn hy
    · clear hx hy hz hr
      go_enter Try.func3, Try.ntmps3
      go_wp2_with fail
      refine Calls.mono (HZ1.out _ (Below.refl _ _)) ?_
      rintro e w1 ⟨rfl, hb1⟩
      go_wp2_with fail
      refine Calls.mono (HZ2.out _ hb1) ?_
      rintro e w2 ⟨rfl, hb2⟩
      go_wp2_with fail
      go_ret
      exact ⟨rfl, hb1.trans (hb2.mono hb1.size)⟩
    · obtain ⟨Z3, HZ3, hneg | ⟨hZ3, ss, hyl, ht⟩⟩ := size_sg d n2 c3 Z2 w hZ2 hZ2b hn2 hz
      · clear hx hy hz hr hs
        go_enter Try.func3, Try.ntmps3
        go_wp2_with fail
        refine Calls.mono (HZ1.out _ (Below.refl _ _)) ?_
        rintro e w1 ⟨rfl, hb1⟩
        go_wp2_with fail
        refine Calls.mono (HZ2.out _ hb1) ?_
        rintro e w2 ⟨rfl, hb2⟩
        have hb12 := hb1.trans (hb2.mono hb1.size)
        go_wp2_with fail
        refine Calls.mono (HZ3.out _ hb12) ?_
        rintro e w3 ⟨rfl, hb3⟩
        go_wp2_with fail
        go_ret
        exact ⟨rfl, hb12.trans (hb3.mono hb12.size)⟩
      · exact law_yes_FnExactFlatEval a b d c n c2 n2 c3 n0 ds xs ss w hr hdl hs hxl ht hyl Z Z2 Z3 hZ hZ2 hZ3 HZ1 HZ2 HZ3

end Go.Proofs.Ytpmpipcpifmncaa
