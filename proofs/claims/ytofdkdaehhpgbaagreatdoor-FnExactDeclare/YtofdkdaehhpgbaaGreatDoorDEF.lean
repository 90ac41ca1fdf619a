/- Declare, by the given side. -/
import Derived.Test.YtofdkdaehhpgbaaGreatDoorDED
namespace Go.Proofs.YtofdkdaehhpgbaaGreatDoor
set_option linter.unusedVariables false
set_option linter.unusedSimpArgs false
open Go.RowKit

set_option maxHeartbeats 2000000 in
set_option maxRecDepth 100000 in
theorem specDeclare_any (g1 o1 g2 o2 dn dc n sc : Nat) (nx : Int) (s : ByteArray) (x : Int) (ds : List Dc) (xs : List Sg) (w : World) (hd : RdD w (some ⟨g1, o1, none⟩) ds) (hdn : ds.length = dn) (hs : RdS w (some ⟨g2, o2, none⟩) xs) (hn : xs.length = n) (hS : SnS xs) (hsz : s.size ≤ 1048576) (hx : in64 x)
    (HSK : Hid (∀ u, Below w.heap.size w u → Calls Tryz.prog 19 #[.agg #[Value.slice (some ⟨g1, o1, none⟩) dn dc, Value.slice (some ⟨g2, o2, none⟩) n sc, Value.int .i64 nx]] u fun e w' => e = .returned (.bool (sesR ds (xs.map Sg.ct) nx)) ∧ Below u.heap.size u w')) :
    Calls Tryz.prog 6 #[.agg #[Value.slice (some ⟨g1, o1, none⟩) dn dc, Value.slice (some ⟨g2, o2, none⟩) n sc, Value.int .i64 nx], .string s, .int .i64 x] w (RetP3 (declareR ds (xs.map Sg.ct) nx s x) w) := by
  obtain ⟨b0, hb0⟩ : ∃ b0, w.heap.size = b0 := ⟨_, rfl⟩
  have hb2 : Below w.heap.size w ((w.alloc (Obj.cells #[Value.slice (some ⟨g1, o1, none⟩) dn dc, Value.slice (some ⟨g2, o2, none⟩) n sc, Value.int .i64 nx] 30)).alloc (Obj.cells #[Value.slice none 0 0, Value.slice none 0 0, Value.int .i64 0] 30)) := ((Below.refl _ _).alloc (Nat.le_refl _) _).alloc (by simp) _
  have B0 := kide hb2
  have XB0 : Hid (Bz ((w.alloc (Obj.cells #[Value.slice (some ⟨g1, o1, none⟩) dn dc, Value.slice (some ⟨g2, o2, none⟩) n sc, Value.int .i64 nx] 30)).alloc (Obj.cells #[Value.slice none 0 0, Value.slice none 0 0, Value.int .i64 0] 30)) b0 #[Value.slice (some ⟨g1, o1, none⟩) dn dc, Value.slice (some ⟨g2, o2, none⟩) n sc, Value.int .i64 nx] 30) := by rw [← hb0]; exact (Bz.new w #[Value.slice (some ⟨g1, o1, none⟩) dn dc, Value.slice (some ⟨g2, o2, none⟩) n sc, Value.int .i64 nx] (30)).later ((Below.refl _ _).alloc (Nat.le_refl _) _)
  have XR0 : Hid (Bz ((w.alloc (Obj.cells #[Value.slice (some ⟨g1, o1, none⟩) dn dc, Value.slice (some ⟨g2, o2, none⟩) n sc, Value.int .i64 nx] 30)).alloc (Obj.cells #[Value.slice none 0 0, Value.slice none 0 0, Value.int .i64 0] 30)) (b0 + 1) #[Value.slice none 0 0, Value.slice none 0 0, Value.int .i64 0] 30) := by have h := Bz.new (w.alloc (Obj.cells #[Value.slice (some ⟨g1, o1, none⟩) dn dc, Value.slice (some ⟨g2, o2, none⟩) n sc, Value.int .i64 nx] 30)) #[Value.slice none 0 0, Value.slice none 0 0, Value.int .i64 0] (30); rw [show (w.alloc (Obj.cells #[Value.slice (some ⟨g1, o1, none⟩) dn dc, Value.slice (some ⟨g2, o2, none⟩) n sc, Value.int .i64 nx] 30)).heap.size = b0 + 1 by simp [hb0]] at h; exact h
  have HB0 := kide hb0
  have HCP : Hid (sesR ds (xs.map Sg.ct) nx = true → ∀ u, Below w.heap.size w u → Calls Tryz.prog 20 #[.agg #[Value.slice (some ⟨g1, o1, none⟩) dn dc, Value.slice (some ⟨g2, o2, none⟩) n sc, Value.int .i64 nx]] u (RetCs ds (xs.map Sg.ct) dn n nx u)) := fun h u hu => l21Copy_any g1 o1 _ dn dc n sc nx ds xs u (hd.later hu) hdn (hs.later hu) hn (by have := (ses_len h).2; rw [List.length_map, hn] at this; omega) hS
  have HNM := kide (fun u => l1Name_any s (by omega) u)
  have HFD := kide (fun u (hu : Below w.heap.size w u) => l3Find_any s (some ⟨g1, o1, none⟩) dc dn ds u (hd.later hu) hdn)
  have HIN : Hid (∀ u, Calls Tryz.prog 23 #[.int .i64 x, .int .i64 1, .int .i64 4096] u fun e w' => e = .returned (.bool (wOk x)) ∧ w' = u) := fun u => l1In_any x 1 4096 u
  have HRD := kide (fun u (hu : Below w.heap.size w u) => hd.later hu)
  have HDN := kide hdn
  have HN := kide hn
  have hdl : dn ≤ 1048576 := by rw [← hdn]; exact hd.1
  have HOKX : Hid (∀ y ∈ ds ++ [(s, x)], in64 y.2 ∧ y.1.size ≤ 9223372036854775807) := fun y hy => by
    rcases List.mem_append.1 hy with hy | hy
    · exact hd.2.1 y hy
    · simp at hy; subst hy; exact ⟨hx, by show s.size ≤ _; omega⟩
  have HDL9 : Hid ((ds ++ [(s, x)]).length = dn + 1) := by show _ = _; rw [List.length_append, hdn]; rfl
  obtain ⟨R, hR⟩ : ∃ R, declareR ds (xs.map Sg.ct) nx s x = R := ⟨_, rfl⟩
  rw [hR]
  have HR := kide hR.symm
  unfold declareR at HR
  clear hd hdn hs hn hS hb2 hR
  cases hv : sesR ds (xs.map Sg.ct) nx with
  | false =>
    rw [hv] at HSK HR
    rw [if_neg (by simp)] at HR
    clear hv HCP
    go_enter Tryz.func6, Tryz.ntmps6
    go_wp2_with fail
    try simp only [hb0]
    clear hb0
    generalize ((w.alloc (Obj.cells #[Value.slice (some ⟨g1, o1, none⟩) dn dc, Value.slice (some ⟨g2, o2, none⟩) n sc, Value.int .i64 nx] 30)).alloc (Obj.cells #[Value.slice none 0 0, Value.slice none 0 0, Value.int .i64 0] 30)) = W at *
    refine Calls.mono (HSK.out _ B0.out) ?_
    rintro e w1 ⟨rfl, hb1⟩
    have B1 := kide (B0.out.trans (hb1.mono B0.out.size))
    have XR1 := kide (XR0.out.later hb1)
    clear hb1
    have r0 := XR1.out.cell 0
    have r1 := XR1.out.cell 1
    have r2 := XR1.out.cell 2
    have f0 := XR1.out.froz 0
    have f1 := XR1.out.froz 1
    have f2 := XR1.out.froz 2
    simp at r0 r1 r2
    go_wp2_with fail
    have XR2 : Hid (Bz (((w1.setCell ⟨b0 + 1, 0, none⟩ (Value.slice none 0 0)).setCell ⟨b0 + 1, 1, none⟩ (Value.slice none 0 0)).setCell ⟨b0 + 1, 2, none⟩ (Value.int .i64 0)) (b0 + 1) #[Value.slice none 0 0, Value.slice none 0 0, Value.int .i64 0] 30) := (((XR1.out.set 0 (Value.slice none 0 0)).set 1 (Value.slice none 0 0)).set 2 (Value.int .i64 0))
    have B2 : Hid (Below w.heap.size w (((w1.setCell ⟨b0 + 1, 0, none⟩ (Value.slice none 0 0)).setCell ⟨b0 + 1, 1, none⟩ (Value.slice none 0 0)).setCell ⟨b0 + 1, 2, none⟩ (Value.int .i64 0))) := (((B1.out.setCell (show _ ≤ b0 + 1 by have := HB0.out; omega) _).setCell (show _ ≤ b0 + 1 by have := HB0.out; omega) _).setCell (show _ ≤ b0 + 1 by have := HB0.out; omega) _)
    clear r0 r1 r2 f0 f1 f2
    generalize (((w1.setCell ⟨b0 + 1, 0, none⟩ (Value.slice none 0 0)).setCell ⟨b0 + 1, 1, none⟩ (Value.slice none 0 0)).setCell ⟨b0 + 1, 2, none⟩ (Value.int .i64 0)) = V at *
    have y0 := XR2.out.cell 0
    have y1 := XR2.out.cell 1
    have y2 := XR2.out.cell 2
    simp at y0 y1 y2
    exact bodyPost_ret (v := .tuple #[.agg #[Value.slice none 0 0, Value.slice none 0 0, Value.int .i64 0], .int .i64 1]) (by simp [results, Tryz.results6, go_sem, y0, y1, y2]) rfl (by rw [HR.out]; exact ⟨none, 0, none, 0, [], _, _, _, rfl, (Sn2.zero _ _ _ B2.out.size).n3, rfl, B2.out⟩)
  | true =>
    rw [hv] at HSK HR
    rw [if_pos rfl] at HR
    have HC2 := kide (HCP.out hv)
    have H60 : Hid (dn ≤ 60) := by show _ ≤ _; rw [← HDN.out]; exact dcl_len (ses_dcl hv)
    clear hv HCP
    have HCL : Hid ((xs.map Sg.ct).length = n) := by show _ = _; rw [List.length_map]; exact HN.out
    go_enter Tryz.func6, Tryz.ntmps6
    go_wp2_with fail
    try simp only [hb0]
    clear hb0
    generalize ((w.alloc (Obj.cells #[Value.slice (some ⟨g1, o1, none⟩) dn dc, Value.slice (some ⟨g2, o2, none⟩) n sc, Value.int .i64 nx] 30)).alloc (Obj.cells #[Value.slice none 0 0, Value.slice none 0 0, Value.int .i64 0] 30)) = W at *
    refine Calls.mono (HSK.out _ B0.out) ?_
    rintro e w1 ⟨rfl, hb1⟩
    have B1 := kide (B0.out.trans (hb1.mono B0.out.size))
    have XB1 := kide (XB0.out.later hb1)
    have XR1 := kide (XR0.out.later hb1)
    clear hb1 XB0 XR0 B0
    have x0 := XB1.out.cell 0
    have x1 := XB1.out.cell 1
    have x2 := XB1.out.cell 2
    simp at x0 x1 x2
    go_wp2_with fail
    clear x0 x1 x2
    refine Calls.mono (HC2.out _ B1.out) ?_
    rintro e w2 hret
    obtain ⟨a1, c1, a2, c2, l, p, M, rfl, sn, hct, hb2⟩ := hret.sn
    clear hret
    have HCT := kide hct
    have hll : l.length = n := by have := congrArg List.length hct; rw [List.length_map, HCL.out] at this; exact this
    have HLL := kide hll
    clear hct hll
    have HL1 : Hid (b0 + 1 < w1.heap.size) := XR1.out.lt
    have hbx : Below w2.heap.size w2 (w2.alloc (.cells #[Value.slice a1 dn c1, Value.slice a2 n c2, Value.int .i64 nx] 30)) := (Below.refl _ _).alloc (Nat.le_refl _) _
    have SN := kide sn
    have B2 := kide (B1.out.trans (hb2.mono B1.out.size))
    have XB2 := kide (XB1.out.later hb2)
    have XR2 := kide (XR1.out.later hb2)
    have RB3 : Hid (Bz (w2.alloc (.cells #[Value.slice a1 dn c1, Value.slice a2 n c2, Value.int .i64 nx] 30)) w2.heap.size #[Value.slice a1 dn c1, Value.slice a2 n c2, Value.int .i64 nx] 30) := Bz.new _ _ _
    have SN3 := kide (SN.out.later hbx)
    have B3 := kide (B2.out.trans (hbx.mono B2.out.size))
    have XB3 := kide (XB2.out.later hbx)
    have XR3 := kide (XR2.out.later hbx)
    have HW1 : Hid (w.heap.size ≤ w1.heap.size) := by show _ ≤ _; have := HL1.out; have := HB0.out; omega
    clear sn hb2 XB1 XR1 B1 hbx XB2 XR2 B2
    have x0 := XB3.out.cell 0
    have x1 := XB3.out.cell 1
    have x2 := XB3.out.cell 2
    simp at x0 x1 x2
    go_wp2_with fail
    clear x0 x1 x2
    generalize (w2.alloc (.cells #[Value.slice a1 dn c1, Value.slice a2 n c2, Value.int .i64 nx] 30)) = w3 at *
    have HZ3 : Hid (w2.heap.size < w3.heap.size) := RB3.out.lt
    unfold decC at HR
    refine Calls.mono (HNM.out _) ?_
    rintro e w4 ⟨rfl, hw⟩
    obtain rfl := hw.symm
    clear hw HNM
    generalize nmOk s = P1 at *
    generalize hasN s ds = P2 at *
    generalize wOk x = P3 at *
    obtain ⟨P4, hP4⟩ : ∃ P, dclR (ds ++ [(s, x)]) = P := ⟨_, rfl⟩
    rw [hP4] at HR
    have HP4 := kide hP4
    clear hP4
    cases P1 with
    | false =>
      have HR9 : Hid (R = ⟨ds, xs.map Sg.ct, nx, 2⟩) := by show _ = _; rw [HR.out]; rfl
      clear HR
      have HR := HR9
      clear HR9
      have S3 := kide (SN3.out.n3.wide (Nat.le_refl _) (Nat.le_of_lt HZ3.out))
      have k0 := RB3.out.cell 0
      have k1 := RB3.out.cell 1
      have k2 := RB3.out.cell 2
      have r0 := XR3.out.cell 0
      have r1 := XR3.out.cell 1
      have r2 := XR3.out.cell 2
      have f0 := XR3.out.froz 0
      have f1 := XR3.out.froz 1
      have f2 := XR3.out.froz 2
      simp at k0 k1 k2 r0 r1 r2
      go_wp2_with fail
      have XR : Hid (Bz (((w3.setCell ⟨b0 + 1, 0, none⟩ (Value.slice a1 dn c1)).setCell ⟨b0 + 1, 1, none⟩ (Value.slice a2 n c2)).setCell ⟨b0 + 1, 2, none⟩ (Value.int .i64 nx)) (b0 + 1) #[Value.slice a1 dn c1, Value.slice a2 n c2, Value.int .i64 nx] 30) := (((XR3.out.set 0 (Value.slice a1 dn c1)).set 1 (Value.slice a2 n c2)).set 2 (Value.int .i64 nx))
      have BV : Hid (Below w.heap.size w (((w3.setCell ⟨b0 + 1, 0, none⟩ (Value.slice a1 dn c1)).setCell ⟨b0 + 1, 1, none⟩ (Value.slice a2 n c2)).setCell ⟨b0 + 1, 2, none⟩ (Value.int .i64 nx))) := (((B3.out.setCell (show _ ≤ b0 + 1 by have := HB0.out; omega) _).setCell (show _ ≤ b0 + 1 by have := HB0.out; omega) _).setCell (show _ ≤ b0 + 1 by have := HB0.out; omega) _)
      have SV : Hid (Sn3 w1.heap.size M w2.heap.size w3.heap.size (Value.slice a1 dn c1) (Value.slice a2 n c2) ds l p (((w3.setCell ⟨b0 + 1, 0, none⟩ (Value.slice a1 dn c1)).setCell ⟨b0 + 1, 1, none⟩ (Value.slice a2 n c2)).setCell ⟨b0 + 1, 2, none⟩ (Value.int .i64 nx))) := (Sn3.out (Sn3.out (Sn3.out S3.out (Out.setc w3 (b0 + 1) 0 (Value.slice a1 dn c1)) (.inr HL1.out)) (Out.setc (w3.setCell ⟨b0 + 1, 0, none⟩ (Value.slice a1 dn c1)) (b0 + 1) 1 (Value.slice a2 n c2)) (.inr HL1.out)) (Out.setc ((w3.setCell ⟨b0 + 1, 0, none⟩ (Value.slice a1 dn c1)).setCell ⟨b0 + 1, 1, none⟩ (Value.slice a2 n c2)) (b0 + 1) 2 (Value.int .i64 nx)) (.inr HL1.out))
      have HZ : Hid (w3.heap.size ≤ (((w3.setCell ⟨b0 + 1, 0, none⟩ (Value.slice a1 dn c1)).setCell ⟨b0 + 1, 1, none⟩ (Value.slice a2 n c2)).setCell ⟨b0 + 1, 2, none⟩ (Value.int .i64 nx)).heap.size) := by show _ ≤ _; simp
      clear k0 k1 k2 r0 r1 r2 f0 f1 f2
      generalize (((w3.setCell ⟨b0 + 1, 0, none⟩ (Value.slice a1 dn c1)).setCell ⟨b0 + 1, 1, none⟩ (Value.slice a2 n c2)).setCell ⟨b0 + 1, 2, none⟩ (Value.int .i64 nx)) = V at *
      have y0 := XR.out.cell 0
      have y1 := XR.out.cell 1
      have y2 := XR.out.cell 2
      simp at y0 y1 y2
      have SW := kide (SV.out.wide HW1.out HZ.out)
      refine bodyPost_ret (v := .tuple #[.agg #[Value.slice a1 dn c1, Value.slice a2 n c2, Value.int .i64 nx], .int .i64 2]) (by simp [results, Tryz.results6, go_sem, y0, y1, y2]) rfl ?_
      rw [HR.out]
      refine ⟨a1, c1, a2, c2, l, p, M, w2.heap.size, ?_, ?_, HCT.out, BV.out⟩
      · simp only [HDN.out, HCL.out]
      · simp only [HDN.out, HCL.out]; exact SW.out
    | true =>
      have x0 := XB3.out.cell 0
      simp at x0
      go_wp2_with fail
      refine Calls.mono (HFD.out _ B3.out) ?_
      rintro e w4 ⟨r, rfl, hr, hw⟩
      obtain rfl := hw.symm
      clear hw HFD x0
      cases P2 with
      | true =>
        have i0 : (0 : Int) ≤ r := of_decide_eq_true hr
        clear hr
        have HR9 : Hid (R = ⟨ds, xs.map Sg.ct, nx, 3⟩) := by show _ = _; rw [HR.out]; rfl
        clear HR
        have HR := HR9
        clear HR9
        have S3 := kide (SN3.out.n3.wide (Nat.le_refl _) (Nat.le_of_lt HZ3.out))
        have k0 := RB3.out.cell 0
        have k1 := RB3.out.cell 1
        have k2 := RB3.out.cell 2
        have r0 := XR3.out.cell 0
        have r1 := XR3.out.cell 1
        have r2 := XR3.out.cell 2
        have f0 := XR3.out.froz 0
        have f1 := XR3.out.froz 1
        have f2 := XR3.out.froz 2
        simp at k0 k1 k2 r0 r1 r2
        go_wp2_with fail
        have XR : Hid (Bz (((w3.setCell ⟨b0 + 1, 0, none⟩ (Value.slice a1 dn c1)).setCell ⟨b0 + 1, 1, none⟩ (Value.slice a2 n c2)).setCell ⟨b0 + 1, 2, none⟩ (Value.int .i64 nx)) (b0 + 1) #[Value.slice a1 dn c1, Value.slice a2 n c2, Value.int .i64 nx] 30) := (((XR3.out.set 0 (Value.slice a1 dn c1)).set 1 (Value.slice a2 n c2)).set 2 (Value.int .i64 nx))
        have BV : Hid (Below w.heap.size w (((w3.setCell ⟨b0 + 1, 0, none⟩ (Value.slice a1 dn c1)).setCell ⟨b0 + 1, 1, none⟩ (Value.slice a2 n c2)).setCell ⟨b0 + 1, 2, none⟩ (Value.int .i64 nx))) := (((B3.out.setCell (show _ ≤ b0 + 1 by have := HB0.out; omega) _).setCell (show _ ≤ b0 + 1 by have := HB0.out; omega) _).setCell (show _ ≤ b0 + 1 by have := HB0.out; omega) _)
        have SV : Hid (Sn3 w1.heap.size M w2.heap.size w3.heap.size (Value.slice a1 dn c1) (Value.slice a2 n c2) ds l p (((w3.setCell ⟨b0 + 1, 0, none⟩ (Value.slice a1 dn c1)).setCell ⟨b0 + 1, 1, none⟩ (Value.slice a2 n c2)).setCell ⟨b0 + 1, 2, none⟩ (Value.int .i64 nx))) := (Sn3.out (Sn3.out (Sn3.out S3.out (Out.setc w3 (b0 + 1) 0 (Value.slice a1 dn c1)) (.inr HL1.out)) (Out.setc (w3.setCell ⟨b0 + 1, 0, none⟩ (Value.slice a1 dn c1)) (b0 + 1) 1 (Value.slice a2 n c2)) (.inr HL1.out)) (Out.setc ((w3.setCell ⟨b0 + 1, 0, none⟩ (Value.slice a1 dn c1)).setCell ⟨b0 + 1, 1, none⟩ (Value.slice a2 n c2)) (b0 + 1) 2 (Value.int .i64 nx)) (.inr HL1.out))
        have HZ : Hid (w3.heap.size ≤ (((w3.setCell ⟨b0 + 1, 0, none⟩ (Value.slice a1 dn c1)).setCell ⟨b0 + 1, 1, none⟩ (Value.slice a2 n c2)).setCell ⟨b0 + 1, 2, none⟩ (Value.int .i64 nx)).heap.size) := by show _ ≤ _; simp
        clear k0 k1 k2 r0 r1 r2 f0 f1 f2
        generalize (((w3.setCell ⟨b0 + 1, 0, none⟩ (Value.slice a1 dn c1)).setCell ⟨b0 + 1, 1, none⟩ (Value.slice a2 n c2)).setCell ⟨b0 + 1, 2, none⟩ (Value.int .i64 nx)) = V at *
        have y0 := XR.out.cell 0
        have y1 := XR.out.cell 1
        have y2 := XR.out.cell 2
        simp at y0 y1 y2
        have SW := kide (SV.out.wide HW1.out HZ.out)
        refine bodyPost_ret (v := .tuple #[.agg #[Value.slice a1 dn c1, Value.slice a2 n c2, Value.int .i64 nx], .int .i64 3]) (by simp [results, Tryz.results6, go_sem, y0, y1, y2]) rfl ?_
        rw [HR.out]
        refine ⟨a1, c1, a2, c2, l, p, M, w2.heap.size, ?_, ?_, HCT.out, BV.out⟩
        · simp only [HDN.out, HCL.out]
        · simp only [HDN.out, HCL.out]; exact SW.out
      | false =>
        have i0 : ¬ (0 : Int) ≤ r := of_decide_eq_false hr
        clear hr
        go_wp2_with fail
        clear i0
        refine Calls.mono (HIN.out _) ?_
        rintro e w4 ⟨rfl, hw⟩
        obtain rfl := hw.symm
        clear hw HIN
        cases P3 with
        | false =>
          have HR9 : Hid (R = ⟨ds, xs.map Sg.ct, nx, 4⟩) := by show _ = _; rw [HR.out]; rfl
          clear HR
          have HR := HR9
          clear HR9
          have S3 := kide (SN3.out.n3.wide (Nat.le_refl _) (Nat.le_of_lt HZ3.out))
          have k0 := RB3.out.cell 0
          have k1 := RB3.out.cell 1
          have k2 := RB3.out.cell 2
          have r0 := XR3.out.cell 0
          have r1 := XR3.out.cell 1
          have r2 := XR3.out.cell 2
          have f0 := XR3.out.froz 0
          have f1 := XR3.out.froz 1
          have f2 := XR3.out.froz 2
          simp at k0 k1 k2 r0 r1 r2
          go_wp2_with fail
          have XR : Hid (Bz (((w3.setCell ⟨b0 + 1, 0, none⟩ (Value.slice a1 dn c1)).setCell ⟨b0 + 1, 1, none⟩ (Value.slice a2 n c2)).setCell ⟨b0 + 1, 2, none⟩ (Value.int .i64 nx)) (b0 + 1) #[Value.slice a1 dn c1, Value.slice a2 n c2, Value.int .i64 nx] 30) := (((XR3.out.set 0 (Value.slice a1 dn c1)).set 1 (Value.slice a2 n c2)).set 2 (Value.int .i64 nx))
          have BV : Hid (Below w.heap.size w (((w3.setCell ⟨b0 + 1, 0, none⟩ (Value.slice a1 dn c1)).setCell ⟨b0 + 1, 1, none⟩ (Value.slice a2 n c2)).setCell ⟨b0 + 1, 2, none⟩ (Value.int .i64 nx))) := (((B3.out.setCell (show _ ≤ b0 + 1 by have := HB0.out; omega) _).setCell (show _ ≤ b0 + 1 by have := HB0.out; omega) _).setCell (show _ ≤ b0 + 1 by have := HB0.out; omega) _)
          have SV : Hid (Sn3 w1.heap.size M w2.heap.size w3.heap.size (Value.slice a1 dn c1) (Value.slice a2 n c2) ds l p (((w3.setCell ⟨b0 + 1, 0, none⟩ (Value.slice a1 dn c1)).setCell ⟨b0 + 1, 1, none⟩ (Value.slice a2 n c2)).setCell ⟨b0 + 1, 2, none⟩ (Value.int .i64 nx))) := (Sn3.out (Sn3.out (Sn3.out S3.out (Out.setc w3 (b0 + 1) 0 (Value.slice a1 dn c1)) (.inr HL1.out)) (Out.setc (w3.setCell ⟨b0 + 1, 0, none⟩ (Value.slice a1 dn c1)) (b0 + 1) 1 (Value.slice a2 n c2)) (.inr HL1.out)) (Out.setc ((w3.setCell ⟨b0 + 1, 0, none⟩ (Value.slice a1 dn c1)).setCell ⟨b0 + 1, 1, none⟩ (Value.slice a2 n c2)) (b0 + 1) 2 (Value.int .i64 nx)) (.inr HL1.out))
          have HZ : Hid (w3.heap.size ≤ (((w3.setCell ⟨b0 + 1, 0, none⟩ (Value.slice a1 dn c1)).setCell ⟨b0 + 1, 1, none⟩ (Value.slice a2 n c2)).setCell ⟨b0 + 1, 2, none⟩ (Value.int .i64 nx)).heap.size) := by show _ ≤ _; simp
          clear k0 k1 k2 r0 r1 r2 f0 f1 f2
          generalize (((w3.setCell ⟨b0 + 1, 0, none⟩ (Value.slice a1 dn c1)).setCell ⟨b0 + 1, 1, none⟩ (Value.slice a2 n c2)).setCell ⟨b0 + 1, 2, none⟩ (Value.int .i64 nx)) = V at *
          have y0 := XR.out.cell 0
          have y1 := XR.out.cell 1
          have y2 := XR.out.cell 2
          simp at y0 y1 y2
          have SW := kide (SV.out.wide HW1.out HZ.out)
          refine bodyPost_ret (v := .tuple #[.agg #[Value.slice a1 dn c1, Value.slice a2 n c2, Value.int .i64 nx], .int .i64 4]) (by simp [results, Tryz.results6, go_sem, y0, y1, y2]) rfl ?_
          rw [HR.out]
          refine ⟨a1, c1, a2, c2, l, p, M, w2.heap.size, ?_, ?_, HCT.out, BV.out⟩
          · simp only [HDN.out, HCL.out]
          · simp only [HDN.out, HCL.out]; exact SW.out
        | true =>
          have h4 : Below w3.heap.size w3 (w3.alloc (.cells #[] 50)) := (Below.refl _ _).alloc (Nat.le_refl _) _
          have HO4 : Hid (OD2 (w3.alloc (.cells #[] 50)) w3.heap.size (.slice (some ⟨w3.heap.size, 0, none⟩) 0 0) []) := OD2.empty w3 _ (Nat.le_refl _)
          have XB4 := kide (XB3.out.later h4)
          have B4 := kide (B3.out.trans (h4.mono B3.out.size))
          have H4 := kide h4
          have HZ4 : Hid (w3.heap.size ≤ (w3.alloc (.cells #[] 50)).heap.size) := h4.size
          clear h4
          have x0 := XB4.out.cell 0
          simp at x0
          go_wp2_with (at_builtin; refine wpList_appDs _ rfl _ _ rfl w3.heap.size (.slice (some ⟨w3.heap.size, 0, none⟩) 0 0) [] ds (by first | rfl | simp [Act.eval]) HO4.out g1 o1 dn dc (by first | rfl | simp [Act.eval]) HDN.out (HRD.out _ B4.out) (by simp; omega) HZ4.out ?_)
          intro v5 w5 ho5 hg5 hat5
          have h5 : Below w3.heap.size w3 w5 := H4.out.trans (HO4.out.bel hg5 HZ4.out)
          try rw [List.nil_append] at ho5
          have B5 := kide (B3.out.trans (h5.mono B3.out.size))
          have H5 := kide h5
          have HO5 := kide ho5
          have h6 : Below w5.heap.size w5 (w5.alloc (.cells #[Value.string s, Value.int .i64 x] 50)) := (Below.refl _ _).alloc (Nat.le_refl _) _
          have HO6 := kide (ho5.later h6)
          have XN6 := kide (Bz.new w5 #[Value.string s, Value.int .i64 x] (50))
          have HRX : Hid (RdD (w5.alloc (.cells #[Value.string s, Value.int .i64 x] 50)) (some ⟨w5.heap.size, 0, none⟩) [(s, x)]) := ⟨by simp, fun d hd => HOKX.out d (List.mem_append_right _ hd), .inr ⟨w5.heap.size, 0, rfl, fun i d hi => by
            match i, hi with
            | 0, hi => simp at hi; subst hi; exact ⟨XN6.out.cell 0, XN6.out.cell 1⟩
            | i + 1, hi => simp at hi⟩⟩
          have H6 := kide (H5.out.trans (h6.mono H5.out.size))
          have HZ6 : Hid (w3.heap.size ≤ (w5.alloc (.cells #[Value.string s, Value.int .i64 x] 50)).heap.size) := H6.out.size
          clear ho5 hg5 hat5 h5 h6 x0 HO4 XB4 B4 H4 HZ4
          go_wp2_with (at_builtin; refine wpList_appDs _ rfl _ _ rfl w3.heap.size v5 ds [(s, x)] (by first | rfl | simp [Act.eval]) HO6.out w5.heap.size 0 1 1 (by first | rfl | simp [Act.eval]) rfl HRX.out (by have := HDN.out; omega) HZ6.out ?_)
          intro v7 w7 ho7 hg7 hat7
          have h7 : Below w3.heap.size w3 w7 := H6.out.trans (HO6.out.bel hg7 HZ6.out)
          have H7 := kide h7
          have B7 := kide (B3.out.trans (h7.mono B3.out.size))
          obtain ⟨a9, c9, rfl, hrd⟩ := ho7.rd (by rw [HDL9.out]; have := H60.out; omega) HOKX.out
          have HDK := kide (specDecls_any a9 c9 (ds ++ [(s, x)]) w7 hrd)
          rw [HDL9.out, HP4.out] at HDK
          rw [HDL9.out] at ho7
          rw [HDL9.out]
          have HO7 := kide ho7
          clear ho7 hg7 hat7 h7 hrd H6 HO6 HRX XN6 H5 HO5 B5 HZ6
          go_wp2_with fail
          refine Calls.mono HDK.out ?_
          rintro e w8 ⟨rfl, hb8⟩
          have h8 : Below w3.heap.size w3 w8 := H7.out.trans (hb8.mono H7.out.size)
          have HO8 := kide (HO7.out.later hb8)
          have SN8 := kide (SN3.out.later h8)
          have B8 := kide (B3.out.trans (h8.mono B3.out.size))
          have XR8 := kide (XR3.out.later h8)
          have RB8 := kide (RB3.out.later h8)
          have HZ8 : Hid (w2.heap.size < w8.heap.size) := RB8.out.lt
          clear hb8 h8 H7 HO7 B7 HDK SN3 XR3 RB3 XB3
          cases P4 with
          | false =>
            have HR9 : Hid (R = ⟨ds, xs.map Sg.ct, nx, 5⟩) := by show _ = _; rw [HR.out]; rfl
            clear HR
            have HR := HR9
            clear HR9
            have S8 := kide (SN8.out.n3.wide (Nat.le_refl _) (Nat.le_of_lt HZ8.out))
            have k0 := RB8.out.cell 0
            have k1 := RB8.out.cell 1
            have k2 := RB8.out.cell 2
            have r0 := XR8.out.cell 0
            have r1 := XR8.out.cell 1
            have r2 := XR8.out.cell 2
            have f0 := XR8.out.froz 0
            have f1 := XR8.out.froz 1
            have f2 := XR8.out.froz 2
            simp at k0 k1 k2 r0 r1 r2
            go_wp2_with fail
            have XR : Hid (Bz (((w8.setCell ⟨b0 + 1, 0, none⟩ (Value.slice a1 dn c1)).setCell ⟨b0 + 1, 1, none⟩ (Value.slice a2 n c2)).setCell ⟨b0 + 1, 2, none⟩ (Value.int .i64 nx)) (b0 + 1) #[Value.slice a1 dn c1, Value.slice a2 n c2, Value.int .i64 nx] 30) := (((XR8.out.set 0 (Value.slice a1 dn c1)).set 1 (Value.slice a2 n c2)).set 2 (Value.int .i64 nx))
            have BV : Hid (Below w.heap.size w (((w8.setCell ⟨b0 + 1, 0, none⟩ (Value.slice a1 dn c1)).setCell ⟨b0 + 1, 1, none⟩ (Value.slice a2 n c2)).setCell ⟨b0 + 1, 2, none⟩ (Value.int .i64 nx))) := (((B8.out.setCell (show _ ≤ b0 + 1 by have := HB0.out; omega) _).setCell (show _ ≤ b0 + 1 by have := HB0.out; omega) _).setCell (show _ ≤ b0 + 1 by have := HB0.out; omega) _)
            have SV : Hid (Sn3 w1.heap.size M w2.heap.size w8.heap.size (Value.slice a1 dn c1) (Value.slice a2 n c2) ds l p (((w8.setCell ⟨b0 + 1, 0, none⟩ (Value.slice a1 dn c1)).setCell ⟨b0 + 1, 1, none⟩ (Value.slice a2 n c2)).setCell ⟨b0 + 1, 2, none⟩ (Value.int .i64 nx))) := (Sn3.out (Sn3.out (Sn3.out S8.out (Out.setc w8 (b0 + 1) 0 (Value.slice a1 dn c1)) (.inr HL1.out)) (Out.setc (w8.setCell ⟨b0 + 1, 0, none⟩ (Value.slice a1 dn c1)) (b0 + 1) 1 (Value.slice a2 n c2)) (.inr HL1.out)) (Out.setc ((w8.setCell ⟨b0 + 1, 0, none⟩ (Value.slice a1 dn c1)).setCell ⟨b0 + 1, 1, none⟩ (Value.slice a2 n c2)) (b0 + 1) 2 (Value.int .i64 nx)) (.inr HL1.out))
            have HZ : Hid (w8.heap.size ≤ (((w8.setCell ⟨b0 + 1, 0, none⟩ (Value.slice a1 dn c1)).setCell ⟨b0 + 1, 1, none⟩ (Value.slice a2 n c2)).setCell ⟨b0 + 1, 2, none⟩ (Value.int .i64 nx)).heap.size) := by show _ ≤ _; simp
            clear k0 k1 k2 r0 r1 r2 f0 f1 f2
            generalize (((w8.setCell ⟨b0 + 1, 0, none⟩ (Value.slice a1 dn c1)).setCell ⟨b0 + 1, 1, none⟩ (Value.slice a2 n c2)).setCell ⟨b0 + 1, 2, none⟩ (Value.int .i64 nx)) = V at *
            have y0 := XR.out.cell 0
            have y1 := XR.out.cell 1
            have y2 := XR.out.cell 2
            simp at y0 y1 y2
            have SW := kide (SV.out.wide HW1.out HZ.out)
            refine bodyPost_ret (v := .tuple #[.agg #[Value.slice a1 dn c1, Value.slice a2 n c2, Value.int .i64 nx], .int .i64 5]) (by simp [results, Tryz.results6, go_sem, y0, y1, y2]) rfl ?_
            rw [HR.out]
            refine ⟨a1, c1, a2, c2, l, p, M, w2.heap.size, ?_, ?_, HCT.out, BV.out⟩
            · simp only [HDN.out, HCL.out]
            · simp only [HDN.out, HCL.out]; exact SW.out
          | true =>
            have HR9 : Hid (R = ⟨ds ++ [(s, x)], xs.map Sg.ct, nx, 0⟩) := by show _ = _; rw [HR.out]; rfl
            clear HR
            have HR := HR9
            clear HR9
            have XR9 : Hid (Bz (w8.setCell ⟨w2.heap.size, 0, none⟩ (Value.slice a9 (dn + 1) c9)) (b0 + 1) #[Value.slice none 0 0, Value.slice none 0 0, Value.int .i64 0] 30) := XR8.out.other (by have := HL1.out; have := SN.out.le; have := SN.out.le2; omega) 0 _
            have RB9 : Hid (Bz (w8.setCell ⟨w2.heap.size, 0, none⟩ (Value.slice a9 (dn + 1) c9)) w2.heap.size #[Value.slice a9 (dn + 1) c9, Value.slice a2 n c2, Value.int .i64 nx] 30) := RB8.out.set 0 _
            have B9 : Hid (Below w.heap.size w (w8.setCell ⟨w2.heap.size, 0, none⟩ (Value.slice a9 (dn + 1) c9))) := B8.out.setCell (show _ ≤ w2.heap.size by have := HW1.out; have := SN.out.le; have := SN.out.le2; omega) _
            have hz9 : (w8.setCell ⟨w2.heap.size, 0, none⟩ (Value.slice a9 (dn + 1) c9)).heap.size = w8.heap.size := by simp
            have S9 : Hid (Sn3 w1.heap.size M w2.heap.size (w8.setCell ⟨w2.heap.size, 0, none⟩ (Value.slice a9 (dn + 1) c9)).heap.size (Value.slice a9 (dn + 1) c9) (Value.slice a2 n c2) (ds ++ [(s, x)]) l p (w8.setCell ⟨w2.heap.size, 0, none⟩ (Value.slice a9 (dn + 1) c9))) := ⟨SN.out.le, SN.out.le2, by rw [hz9]; exact Nat.le_of_lt HZ8.out, (HO8.out.low (by have := SN.out.le; have := SN.out.le2; have := HZ3.out; omega)).set_other RB8.out (by decide) 0 _, fun b hb => ⟨by rw [hz9]; exact (HO8.out.lt hb).2, .inr (by have := (HO8.out.lt hb).1; have := HZ3.out; omega)⟩, SN8.out.scp.out (Out.setc w8 w2.heap.size 0 _) (.inl (Nat.le_refl _))⟩
            have e0 := RB8.out.cell 0
            have g0' := RB8.out.froz 0
            clear hz9
            have k0 := RB9.out.cell 0
            have k1 := RB9.out.cell 1
            have k2 := RB9.out.cell 2
            have r0 := XR9.out.cell 0
            have r1 := XR9.out.cell 1
            have r2 := XR9.out.cell 2
            have f0 := XR9.out.froz 0
            have f1 := XR9.out.froz 1
            have f2 := XR9.out.froz 2
            go_wp2_with fail
            clear e0 g0'
            generalize (w8.setCell ⟨w2.heap.size, 0, none⟩ (Value.slice a9 (dn + 1) c9)) = w9 at *
            have XR : Hid (Bz (((w9.setCell ⟨b0 + 1, 0, none⟩ (Value.slice a9 (dn + 1) c9)).setCell ⟨b0 + 1, 1, none⟩ (Value.slice a2 n c2)).setCell ⟨b0 + 1, 2, none⟩ (Value.int .i64 nx)) (b0 + 1) #[Value.slice a9 (dn + 1) c9, Value.slice a2 n c2, Value.int .i64 nx] 30) := (((XR9.out.set 0 (Value.slice a9 (dn + 1) c9)).set 1 (Value.slice a2 n c2)).set 2 (Value.int .i64 nx))
            have BV : Hid (Below w.heap.size w (((w9.setCell ⟨b0 + 1, 0, none⟩ (Value.slice a9 (dn + 1) c9)).setCell ⟨b0 + 1, 1, none⟩ (Value.slice a2 n c2)).setCell ⟨b0 + 1, 2, none⟩ (Value.int .i64 nx))) := (((B9.out.setCell (show _ ≤ b0 + 1 by have := HB0.out; omega) _).setCell (show _ ≤ b0 + 1 by have := HB0.out; omega) _).setCell (show _ ≤ b0 + 1 by have := HB0.out; omega) _)
            have SV : Hid (Sn3 w1.heap.size M w2.heap.size w9.heap.size (Value.slice a9 (dn + 1) c9) (Value.slice a2 n c2) (ds ++ [(s, x)]) l p (((w9.setCell ⟨b0 + 1, 0, none⟩ (Value.slice a9 (dn + 1) c9)).setCell ⟨b0 + 1, 1, none⟩ (Value.slice a2 n c2)).setCell ⟨b0 + 1, 2, none⟩ (Value.int .i64 nx))) := (Sn3.out (Sn3.out (Sn3.out S9.out (Out.setc w9 (b0 + 1) 0 (Value.slice a9 (dn + 1) c9)) (.inr HL1.out)) (Out.setc (w9.setCell ⟨b0 + 1, 0, none⟩ (Value.slice a9 (dn + 1) c9)) (b0 + 1) 1 (Value.slice a2 n c2)) (.inr HL1.out)) (Out.setc ((w9.setCell ⟨b0 + 1, 0, none⟩ (Value.slice a9 (dn + 1) c9)).setCell ⟨b0 + 1, 1, none⟩ (Value.slice a2 n c2)) (b0 + 1) 2 (Value.int .i64 nx)) (.inr HL1.out))
            have HZ : Hid (w9.heap.size ≤ (((w9.setCell ⟨b0 + 1, 0, none⟩ (Value.slice a9 (dn + 1) c9)).setCell ⟨b0 + 1, 1, none⟩ (Value.slice a2 n c2)).setCell ⟨b0 + 1, 2, none⟩ (Value.int .i64 nx)).heap.size) := by show _ ≤ _; simp
            clear k0 k1 k2 r0 r1 r2 f0 f1 f2
            generalize (((w9.setCell ⟨b0 + 1, 0, none⟩ (Value.slice a9 (dn + 1) c9)).setCell ⟨b0 + 1, 1, none⟩ (Value.slice a2 n c2)).setCell ⟨b0 + 1, 2, none⟩ (Value.int .i64 nx)) = V at *
            have y0 := XR.out.cell 0
            have y1 := XR.out.cell 1
            have y2 := XR.out.cell 2
            simp at y0 y1 y2
            have SW := kide (SV.out.wide HW1.out HZ.out)
            refine bodyPost_ret (v := .tuple #[.agg #[Value.slice a9 (dn + 1) c9, Value.slice a2 n c2, Value.int .i64 nx], .int .i64 0]) (by simp [results, Tryz.results6, go_sem, y0, y1, y2]) rfl ?_
            rw [HR.out]
            refine ⟨a9, c9, a2, c2, l, p, M, w2.heap.size, ?_, ?_, HCT.out, BV.out⟩
            · simp only [HDN.out, HDL9.out, HCL.out]
            · simp only [HDN.out, HDL9.out, HCL.out]; exact SW.out

end Go.Proofs.YtofdkdaehhpgbaaGreatDoor
