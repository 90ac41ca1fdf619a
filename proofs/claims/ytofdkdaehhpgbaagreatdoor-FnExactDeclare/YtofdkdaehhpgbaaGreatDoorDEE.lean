/- Declare, by the program. -/
import Derived.Test.YtofdkdaehhpgbaaGreatDoorDED
namespace Go.Proofs.YtofdkdaehhpgbaaGreatDoor
set_option linter.unusedVariables false
set_option linter.unusedSimpArgs false
open Go.RowKit

set_option maxHeartbeats 2000000 in
set_option maxRecDepth 100000 in
theorem implDeclare_any (g1 o1 g2 o2 dn dc n sc : Nat) (nx : Int) (s : ByteArray) (x : Int) (ds : List Dc) (xs : List Sg) (w : World) (hd : RdD w (some ⟨g1, o1, none⟩) ds) (hdn : ds.length = dn) (hs : RdS w (some ⟨g2, o2, none⟩) xs) (hn : xs.length = n) (hS : SnS xs) (hsz : s.size ≤ 1048576) (hx : in64 x)
    (HSK : Hid (∀ u, Below w.heap.size w u → Calls Tryz.prog 27 #[.agg #[Value.slice (some ⟨g1, o1, none⟩) dn dc, Value.slice (some ⟨g2, o2, none⟩) n sc, Value.int .i64 nx]] u fun e w' => e = .returned (.bool (sesR ds (xs.map Sg.ct) nx)) ∧ Below u.heap.size u w')) :
    Calls Tryz.prog 8 #[.agg #[Value.slice (some ⟨g1, o1, none⟩) dn dc, Value.slice (some ⟨g2, o2, none⟩) n sc, Value.int .i64 nx], .string s, .int .i64 x] w (RetP3 (declareR ds (xs.map Sg.ct) nx s x) w) := by
  obtain ⟨b0, hb0⟩ : ∃ b0, w.heap.size = b0 := ⟨_, rfl⟩
  have hb2 : Below w.heap.size w ((w.alloc (Obj.cells #[Value.slice (some ⟨g1, o1, none⟩) dn dc, Value.slice (some ⟨g2, o2, none⟩) n sc, Value.int .i64 nx] 30)).alloc (Obj.cells #[Value.slice none 0 0, Value.slice none 0 0, Value.int .i64 0] 30)) := ((Below.refl _ _).alloc (Nat.le_refl _) _).alloc (by simp) _
  have B0 := kide hb2
  have XB0 : Hid (Bz ((w.alloc (Obj.cells #[Value.slice (some ⟨g1, o1, none⟩) dn dc, Value.slice (some ⟨g2, o2, none⟩) n sc, Value.int .i64 nx] 30)).alloc (Obj.cells #[Value.slice none 0 0, Value.slice none 0 0, Value.int .i64 0] 30)) b0 #[Value.slice (some ⟨g1, o1, none⟩) dn dc, Value.slice (some ⟨g2, o2, none⟩) n sc, Value.int .i64 nx] 30) := by rw [← hb0]; exact (Bz.new w #[Value.slice (some ⟨g1, o1, none⟩) dn dc, Value.slice (some ⟨g2, o2, none⟩) n sc, Value.int .i64 nx] (30)).later ((Below.refl _ _).alloc (Nat.le_refl _) _)
  have XR0 : Hid (Bz ((w.alloc (Obj.cells #[Value.slice (some ⟨g1, o1, none⟩) dn dc, Value.slice (some ⟨g2, o2, none⟩) n sc, Value.int .i64 nx] 30)).alloc (Obj.cells #[Value.slice none 0 0, Value.slice none 0 0, Value.int .i64 0] 30)) (b0 + 1) #[Value.slice none 0 0, Value.slice none 0 0, Value.int .i64 0] 30) := by have h := Bz.new (w.alloc (Obj.cells #[Value.slice (some ⟨g1, o1, none⟩) dn dc, Value.slice (some ⟨g2, o2, none⟩) n sc, Value.int .i64 nx] 30)) #[Value.slice none 0 0, Value.slice none 0 0, Value.int .i64 0] (30); rw [show (w.alloc (Obj.cells #[Value.slice (some ⟨g1, o1, none⟩) dn dc, Value.slice (some ⟨g2, o2, none⟩) n sc, Value.int .i64 nx] 30)).heap.size = b0 + 1 by simp [hb0]] at h; exact h
  have HB0 := kide hb0
  have HCP : Hid (sesR ds (xs.map Sg.ct) nx = true → ∀ u, Below w.heap.size w u → Calls Tryz.prog 28 #[.agg #[Value.slice (some ⟨g1, o1, none⟩) dn dc, Value.slice (some ⟨g2, o2, none⟩) n sc, Value.int .i64 nx]] u (RetCs ds (xs.map Sg.ct) dn n nx u)) := fun h u hu => copySes_any g1 o1 _ dn dc n sc nx ds xs u (hd.later hu) hdn (hs.later hu) hn (by have := (ses_len h).2; rw [List.length_map, hn] at this; omega) hS
  have HDC := kide (fun u (hu : Below w.heap.size w u) (h60 : dn ≤ 60) => declareCode_any g1 o1 dn dc s x ds u (hd.later hu) hdn h60 hsz hx)
  have HDN := kide hdn
  have HN := kide hn
  have hdl : dn ≤ 1048576 := by rw [← hdn]; exact hd.1
  have HOKX : Hid (∀ y ∈ ds ++ [(s, x)], in64 y.2 ∧ y.1.size ≤ 9223372036854775807) := fun y hy => by
    rcases List.mem_append.1 hy with hy | hy
    · exact hd.2.1 y hy
    · simp at hy; subst hy; exact ⟨hx, by show s.size ≤ _; omega⟩
  have HDL9 : Hid ((ds ++ [(s, x)]).length = dn + 1) := by show _ = _; rw [List.length_append, hdn]; rfl
  obtain ⟨R, hR⟩ : ∃ R, declareR ds (xs.map Sg.ct) nx s x = R := ⟨_, rfl⟩
  rw [hR]
  have HR := kide hR.symm
  unfold declareR at HR
  clear hd hdn hs hn hS hb2 hR
  cases hv : sesR ds (xs.map Sg.ct) nx with
  | false =>
    rw [hv] at HSK HR
    rw [if_neg (by simp)] at HR
    clear hv HCP
    go_enter Tryz.func8, Tryz.ntmps8
    go_wp2_with fail
    try simp only [hb0]
    clear hb0
    generalize ((w.alloc (Obj.cells #[Value.slice (some ⟨g1, o1, none⟩) dn dc, Value.slice (some ⟨g2, o2, none⟩) n sc, Value.int .i64 nx] 30)).alloc (Obj.cells #[Value.slice none 0 0, Value.slice none 0 0, Value.int .i64 0] 30)) = W at *
    refine Calls.mono (HSK.out _ B0.out) ?_
    rintro e w1 ⟨rfl, hb1⟩
    have B1 := kide (B0.out.trans (hb1.mono B0.out.size))
    have XR1 := kide (XR0.out.later hb1)
    clear hb1
    have r0 := XR1.out.cell 0
    have r1 := XR1.out.cell 1
    have r2 := XR1.out.cell 2
    have f0 := XR1.out.froz 0
    have f1 := XR1.out.froz 1
    have f2 := XR1.out.froz 2
    simp at r0 r1 r2
    go_wp2_with fail
    have XR2 : Hid (Bz (((w1.setCell ⟨b0 + 1, 0, none⟩ (Value.slice none 0 0)).setCell ⟨b0 + 1, 1, none⟩ (Value.slice none 0 0)).setCell ⟨b0 + 1, 2, none⟩ (Value.int .i64 0)) (b0 + 1) #[Value.slice none 0 0, Value.slice none 0 0, Value.int .i64 0] 30) := (((XR1.out.set 0 (Value.slice none 0 0)).set 1 (Value.slice none 0 0)).set 2 (Value.int .i64 0))
    have B2 : Hid (Below w.heap.size w (((w1.setCell ⟨b0 + 1, 0, none⟩ (Value.slice none 0 0)).setCell ⟨b0 + 1, 1, none⟩ (Value.slice none 0 0)).setCell ⟨b0 + 1, 2, none⟩ (Value.int .i64 0))) := (((B1.out.setCell (show _ ≤ b0 + 1 by have := HB0.out; omega) _).setCell (show _ ≤ b0 + 1 by have := HB0.out; omega) _).setCell (show _ ≤ b0 + 1 by have := HB0.out; omega) _)
    clear r0 r1 r2 f0 f1 f2
    generalize (((w1.setCell ⟨b0 + 1, 0, none⟩ (Value.slice none 0 0)).setCell ⟨b0 + 1, 1, none⟩ (Value.slice none 0 0)).setCell ⟨b0 + 1, 2, none⟩ (Value.int .i64 0)) = V at *
    have y0 := XR2.out.cell 0
    have y1 := XR2.out.cell 1
    have y2 := XR2.out.cell 2
    simp at y0 y1 y2
    exact bodyPost_ret (v := .tuple #[.agg #[Value.slice none 0 0, Value.slice none 0 0, Value.int .i64 0], .int .i64 1]) (by simp [results, Tryz.results8, go_sem, y0, y1, y2]) rfl (by rw [HR.out]; exact ⟨none, 0, none, 0, [], _, _, _, rfl, (Sn2.zero _ _ _ B2.out.size).n3, rfl, B2.out⟩)
  | true =>
    rw [hv] at HSK HR
    rw [if_pos rfl] at HR
    have HC2 := kide (HCP.out hv)
    have H60 : Hid (dn ≤ 60) := by show _ ≤ _; rw [← HDN.out]; exact dcl_len (ses_dcl hv)
    clear hv HCP
    have HCL : Hid ((xs.map Sg.ct).length = n) := by show _ = _; rw [List.length_map]; exact HN.out
    go_enter Tryz.func8, Tryz.ntmps8
    go_wp2_with fail
    try simp only [hb0]
    clear hb0
    generalize ((w.alloc (Obj.cells #[Value.slice (some ⟨g1, o1, none⟩) dn dc, Value.slice (some ⟨g2, o2, none⟩) n sc, Value.int .i64 nx] 30)).alloc (Obj.cells #[Value.slice none 0 0, Value.slice none 0 0, Value.int .i64 0] 30)) = W at *
    refine Calls.mono (HSK.out _ B0.out) ?_
    rintro e w1 ⟨rfl, hb1⟩
    have B1 := kide (B0.out.trans (hb1.mono B0.out.size))
    have XB1 := kide (XB0.out.later hb1)
    have XR1 := kide (XR0.out.later hb1)
    clear hb1 XB0 XR0 B0
    have x0 := XB1.out.cell 0
    have x1 := XB1.out.cell 1
    have x2 := XB1.out.cell 2
    simp at x0 x1 x2
    go_wp2_with fail
    clear x0 x1 x2
    refine Calls.mono (HC2.out _ B1.out) ?_
    rintro e w2 hret
    obtain ⟨a1, c1, a2, c2, l, p, M, rfl, sn, hct, hb2⟩ := hret.sn
    clear hret
    have HCT := kide hct
    have hll : l.length = n := by have := congrArg List.length hct; rw [List.length_map, HCL.out] at this; exact this
    have HLL := kide hll
    clear hct hll
    have HL1 : Hid (b0 + 1 < w1.heap.size) := XR1.out.lt
    have hbx : Below w2.heap.size w2 (w2.alloc (.cells #[Value.slice a1 dn c1, Value.slice a2 n c2, Value.int .i64 nx] 30)) := (Below.refl _ _).alloc (Nat.le_refl _) _
    have SN := kide sn
    have B2 := kide (B1.out.trans (hb2.mono B1.out.size))
    have XB2 := kide (XB1.out.later hb2)
    have XR2 := kide (XR1.out.later hb2)
    have RB3 : Hid (Bz (w2.alloc (.cells #[Value.slice a1 dn c1, Value.slice a2 n c2, Value.int .i64 nx] 30)) w2.heap.size #[Value.slice a1 dn c1, Value.slice a2 n c2, Value.int .i64 nx] 30) := Bz.new _ _ _
    have SN3 := kide (SN.out.later hbx)
    have B3 := kide (B2.out.trans (hbx.mono B2.out.size))
    have XB3 := kide (XB2.out.later hbx)
    have XR3 := kide (XR2.out.later hbx)
    have HW1 : Hid (w.heap.size ≤ w1.heap.size) := by show _ ≤ _; have := HL1.out; have := HB0.out; omega
    clear sn hb2 XB1 XR1 B1 hbx XB2 XR2 B2
    have x0 := XB3.out.cell 0
    have x1 := XB3.out.cell 1
    have x2 := XB3.out.cell 2
    simp at x0 x1 x2
    go_wp2_with fail
    clear x0 x1 x2
    generalize (w2.alloc (.cells #[Value.slice a1 dn c1, Value.slice a2 n c2, Value.int .i64 nx] 30)) = w3 at *
    have HZ3 : Hid (w2.heap.size < w3.heap.size) := RB3.out.lt
    refine Calls.mono (HDC.out _ B3.out H60.out) ?_
    rintro e w4 ⟨rfl, hb4⟩
    have SN4 := kide (SN3.out.later hb4)
    have B4 := kide (B3.out.trans (hb4.mono B3.out.size))
    have XR4 := kide (XR3.out.later hb4)
    have RB4 := kide (RB3.out.later hb4)
    have HZ4 : Hid (w2.heap.size < w4.heap.size) := RB4.out.lt
    clear hb4 SN3 B3 XR3 RB3 XB3 HZ3
    obtain ⟨K, hK⟩ : ∃ K, decC ds s x = K := ⟨_, rfl⟩
    rw [hK] at HR
    rw [hK]
    clear hK
    rcases (Decidable.em (K = 0)).symm with h0 | h0
    · have hk : (K != 0) = true := by simpa using h0
      rw [if_neg h0] at HR
      clear h0
      have S4 := kide (SN4.out.n3.wide (Nat.le_refl _) (Nat.le_of_lt HZ4.out))
      have k0 := RB4.out.cell 0
      have k1 := RB4.out.cell 1
      have k2 := RB4.out.cell 2
      have r0 := XR4.out.cell 0
      have r1 := XR4.out.cell 1
      have r2 := XR4.out.cell 2
      have f0 := XR4.out.froz 0
      have f1 := XR4.out.froz 1
      have f2 := XR4.out.froz 2
      simp at k0 k1 k2 r0 r1 r2
      go_wp2_with fail
      have XR : Hid (Bz (((w4.setCell ⟨b0 + 1, 0, none⟩ (Value.slice a1 dn c1)).setCell ⟨b0 + 1, 1, none⟩ (Value.slice a2 n c2)).setCell ⟨b0 + 1, 2, none⟩ (Value.int .i64 nx)) (b0 + 1) #[Value.slice a1 dn c1, Value.slice a2 n c2, Value.int .i64 nx] 30) := (((XR4.out.set 0 (Value.slice a1 dn c1)).set 1 (Value.slice a2 n c2)).set 2 (Value.int .i64 nx))
      have BV : Hid (Below w.heap.size w (((w4.setCell ⟨b0 + 1, 0, none⟩ (Value.slice a1 dn c1)).setCell ⟨b0 + 1, 1, none⟩ (Value.slice a2 n c2)).setCell ⟨b0 + 1, 2, none⟩ (Value.int .i64 nx))) := (((B4.out.setCell (show _ ≤ b0 + 1 by have := HB0.out; omega) _).setCell (show _ ≤ b0 + 1 by have := HB0.out; omega) _).setCell (show _ ≤ b0 + 1 by have := HB0.out; omega) _)
      have SV : Hid (Sn3 w1.heap.size M w2.heap.size w4.heap.size (Value.slice a1 dn c1) (Value.slice a2 n c2) ds l p (((w4.setCell ⟨b0 + 1, 0, none⟩ (Value.slice a1 dn c1)).setCell ⟨b0 + 1, 1, none⟩ (Value.slice a2 n c2)).setCell ⟨b0 + 1, 2, none⟩ (Value.int .i64 nx))) := (Sn3.out (Sn3.out (Sn3.out S4.out (Out.setc w4 (b0 + 1) 0 (Value.slice a1 dn c1)) (.inr HL1.out)) (Out.setc (w4.setCell ⟨b0 + 1, 0, none⟩ (Value.slice a1 dn c1)) (b0 + 1) 1 (Value.slice a2 n c2)) (.inr HL1.out)) (Out.setc ((w4.setCell ⟨b0 + 1, 0, none⟩ (Value.slice a1 dn c1)).setCell ⟨b0 + 1, 1, none⟩ (Value.slice a2 n c2)) (b0 + 1) 2 (Value.int .i64 nx)) (.inr HL1.out))
      have HZ : Hid (w4.heap.size ≤ (((w4.setCell ⟨b0 + 1, 0, none⟩ (Value.slice a1 dn c1)).setCell ⟨b0 + 1, 1, none⟩ (Value.slice a2 n c2)).setCell ⟨b0 + 1, 2, none⟩ (Value.int .i64 nx)).heap.size) := by show _ ≤ _; simp
      clear k0 k1 k2 r0 r1 r2 f0 f1 f2
      generalize (((w4.setCell ⟨b0 + 1, 0, none⟩ (Value.slice a1 dn c1)).setCell ⟨b0 + 1, 1, none⟩ (Value.slice a2 n c2)).setCell ⟨b0 + 1, 2, none⟩ (Value.int .i64 nx)) = V at *
      have y0 := XR.out.cell 0
      have y1 := XR.out.cell 1
      have y2 := XR.out.cell 2
      simp at y0 y1 y2
      have SW := kide (SV.out.wide HW1.out HZ.out)
      refine bodyPost_ret (v := .tuple #[.agg #[Value.slice a1 dn c1, Value.slice a2 n c2, Value.int .i64 nx], .int .i64 K]) (by simp [results, Tryz.results8, go_sem, y0, y1, y2]) rfl ?_
      rw [HR.out]
      refine ⟨a1, c1, a2, c2, l, p, M, w2.heap.size, ?_, ?_, HCT.out, BV.out⟩
      · simp only [HDN.out, HCL.out]
      · simp only [HDN.out, HCL.out]; exact SW.out
    · subst h0
      rw [if_pos rfl] at HR
      have hby : Below w4.heap.size w4 (w4.alloc (.cells #[Value.string s, Value.int .i64 x] 50)) := (Below.refl _ _).alloc (Nat.le_refl _) _
      have SN5 := kide (SN4.out.later hby)
      have B5 := kide (B4.out.trans (hby.mono B4.out.size))
      have XR5 := kide (XR4.out.later hby)
      have RB5 := kide (RB4.out.later hby)
      have XN5 := kide (Bz.new w4 #[Value.string s, Value.int .i64 x] (50))
      have HZ5 : Hid ((w4.alloc (.cells #[Value.string s, Value.int .i64 x] 50)).heap.size = w4.heap.size + 1) := by show _ = _; simp
      have HRX : Hid (RdD (w4.alloc (.cells #[Value.string s, Value.int .i64 x] 50)) (some ⟨w4.heap.size, 0, none⟩) [(s, x)]) := ⟨by simp, fun d hd => HOKX.out d (List.mem_append_right _ hd), .inr ⟨w4.heap.size, 0, rfl, fun i d hi => by
        match i, hi with
        | 0, hi => simp at hi; subst hi; exact ⟨XN5.out.cell 0, XN5.out.cell 1⟩
        | i + 1, hi => simp at hi⟩⟩
      have HL5 : Hid (w1.heap.size ≤ w4.heap.size) := by show _ ≤ _; have := SN.out.le; have := SN.out.le2; have := HZ4.out; omega
      clear hby
      have k0 := RB4.out.cell 0
      simp at k0
      go_wp2_with (at_builtin; refine wpList_appDs _ rfl _ _ rfl w1.heap.size (.slice a1 dn c1) ds [(s, x)] (by first | rfl | simp [Act.eval]) SN5.out.dec w4.heap.size 0 1 1 (by first | rfl | simp [Act.eval]) rfl HRX.out (by have := HDN.out; omega) (by have := HL5.out; have := HZ5.out; omega) ?_)
      intro v9 w6 ho hg hat
      have Z6 : Hid (Zn M w2.heap.size (.slice a2 n c2) l p w6) := by
        rcases grown_out hg with ⟨-, hb⟩ | ⟨b, hb, hou⟩
        · exact SN5.out.scp.later hb
        · exact SN5.out.scp.out hou (.inr (SN.out.decb b hb))
      have RB6 : Hid (Bz w6 w2.heap.size #[Value.slice a1 dn c1, Value.slice a2 n c2, Value.int .i64 nx] 30) := (hg.block _ RB5.out.lt (fun e => by have := SN.out.decb _ e.symm; have := SN.out.le2; omega)).trans RB5.out
      have XR6 : Hid (Bz w6 (b0 + 1) #[Value.slice none 0 0, Value.slice none 0 0, Value.int .i64 0] 30) := (hg.block _ XR5.out.lt (fun e => by have := (SN5.out.dec.lt e.symm).1; have := HL1.out; omega)).trans XR5.out
      have B6 := kide (Below.grown B5.out hg B5.out.size (fun b hb => by have := (SN5.out.dec.lt hb).1; have := HW1.out; omega))
      obtain ⟨a9, c9, rfl⟩ := ho.form
      rw [HDL9.out] at ho
      rw [HDL9.out] at hat
      rw [HDL9.out]
      have HO6 := kide ho
      have HG6 : Hid (w2.heap.size ≤ w6.heap.size) := by show _ ≤ _; have := hg.size; have := HZ5.out; have := HZ4.out; omega
      have HD6 : Hid (∀ b, (Value.slice a9 (dn + 1) c9).ownBlock = some b → b < M ∨ w2.heap.size ≤ b) := fun b hb => by
        rcases hat with e | e
        · exact .inl (SN.out.decb b (e.symm.trans hb))
        · rw [e] at hb; cases hb; exact .inr (by have := HZ5.out; have := HZ4.out; omega)
      clear ho hg hat XR5 RB5 XN5 HRX SN5 B5 XR4 RB4 SN4 B4 k0
      have XR7 : Hid (Bz (w6.setCell ⟨w2.heap.size, 0, none⟩ (Value.slice a9 (dn + 1) c9)) (b0 + 1) #[Value.slice none 0 0, Value.slice none 0 0, Value.int .i64 0] 30) := XR6.out.other (by have := HL1.out; have := SN.out.le; have := SN.out.le2; omega) 0 _
      have RB7 : Hid (Bz (w6.setCell ⟨w2.heap.size, 0, none⟩ (Value.slice a9 (dn + 1) c9)) w2.heap.size #[Value.slice a9 (dn + 1) c9, Value.slice a2 n c2, Value.int .i64 nx] 30) := RB6.out.set 0 _
      have B7 : Hid (Below w.heap.size w (w6.setCell ⟨w2.heap.size, 0, none⟩ (Value.slice a9 (dn + 1) c9))) := B6.out.setCell (show _ ≤ w2.heap.size by have := HW1.out; have := SN.out.le; have := SN.out.le2; omega) _
      have hz7 : (w6.setCell ⟨w2.heap.size, 0, none⟩ (Value.slice a9 (dn + 1) c9)).heap.size = w6.heap.size := by simp
      have S7 : Hid (Sn3 w1.heap.size M w2.heap.size (w6.setCell ⟨w2.heap.size, 0, none⟩ (Value.slice a9 (dn + 1) c9)).heap.size (Value.slice a9 (dn + 1) c9) (Value.slice a2 n c2) (ds ++ [(s, x)]) l p (w6.setCell ⟨w2.heap.size, 0, none⟩ (Value.slice a9 (dn + 1) c9))) := ⟨SN.out.le, SN.out.le2, by rw [hz7]; exact HG6.out, HO6.out.set_other RB6.out (by decide) 0 _, fun b hb => ⟨by rw [hz7]; exact (HO6.out.lt hb).2, HD6.out b hb⟩, Z6.out.out (Out.setc w6 w2.heap.size 0 _) (.inl (Nat.le_refl _))⟩
      have e0 := RB6.out.cell 0
      have g0' := RB6.out.froz 0
      clear hz7
      have k0 := RB7.out.cell 0
      have k1 := RB7.out.cell 1
      have k2 := RB7.out.cell 2
      have r0 := XR7.out.cell 0
      have r1 := XR7.out.cell 1
      have r2 := XR7.out.cell 2
      have f0 := XR7.out.froz 0
      have f1 := XR7.out.froz 1
      have f2 := XR7.out.froz 2
      go_wp2_with fail
      clear e0 g0'
      generalize (w6.setCell ⟨w2.heap.size, 0, none⟩ (Value.slice a9 (dn + 1) c9)) = w7 at *
      have XR : Hid (Bz (((w7.setCell ⟨b0 + 1, 0, none⟩ (Value.slice a9 (dn + 1) c9)).setCell ⟨b0 + 1, 1, none⟩ (Value.slice a2 n c2)).setCell ⟨b0 + 1, 2, none⟩ (Value.int .i64 nx)) (b0 + 1) #[Value.slice a9 (dn + 1) c9, Value.slice a2 n c2, Value.int .i64 nx] 30) := (((XR7.out.set 0 (Value.slice a9 (dn + 1) c9)).set 1 (Value.slice a2 n c2)).set 2 (Value.int .i64 nx))
      have BV : Hid (Below w.heap.size w (((w7.setCell ⟨b0 + 1, 0, none⟩ (Value.slice a9 (dn + 1) c9)).setCell ⟨b0 + 1, 1, none⟩ (Value.slice a2 n c2)).setCell ⟨b0 + 1, 2, none⟩ (Value.int .i64 nx))) := (((B7.out.setCell (show _ ≤ b0 + 1 by have := HB0.out; omega) _).setCell (show _ ≤ b0 + 1 by have := HB0.out; omega) _).setCell (show _ ≤ b0 + 1 by have := HB0.out; omega) _)
      have SV : Hid (Sn3 w1.heap.size M w2.heap.size w7.heap.size (Value.slice a9 (dn + 1) c9) (Value.slice a2 n c2) (ds ++ [(s, x)]) l p (((w7.setCell ⟨b0 + 1, 0, none⟩ (Value.slice a9 (dn + 1) c9)).setCell ⟨b0 + 1, 1, none⟩ (Value.slice a2 n c2)).setCell ⟨b0 + 1, 2, none⟩ (Value.int .i64 nx))) := (Sn3.out (Sn3.out (Sn3.out S7.out (Out.setc w7 (b0 + 1) 0 (Value.slice a9 (dn + 1) c9)) (.inr HL1.out)) (Out.setc (w7.setCell ⟨b0 + 1, 0, none⟩ (Value.slice a9 (dn + 1) c9)) (b0 + 1) 1 (Value.slice a2 n c2)) (.inr HL1.out)) (Out.setc ((w7.setCell ⟨b0 + 1, 0, none⟩ (Value.slice a9 (dn + 1) c9)).setCell ⟨b0 + 1, 1, none⟩ (Value.slice a2 n c2)) (b0 + 1) 2 (Value.int .i64 nx)) (.inr HL1.out))
      have HZ : Hid (w7.heap.size ≤ (((w7.setCell ⟨b0 + 1, 0, none⟩ (Value.slice a9 (dn + 1) c9)).setCell ⟨b0 + 1, 1, none⟩ (Value.slice a2 n c2)).setCell ⟨b0 + 1, 2, none⟩ (Value.int .i64 nx)).heap.size) := by show _ ≤ _; simp
      clear k0 k1 k2 r0 r1 r2 f0 f1 f2
      generalize (((w7.setCell ⟨b0 + 1, 0, none⟩ (Value.slice a9 (dn + 1) c9)).setCell ⟨b0 + 1, 1, none⟩ (Value.slice a2 n c2)).setCell ⟨b0 + 1, 2, none⟩ (Value.int .i64 nx)) = V at *
      have y0 := XR.out.cell 0
      have y1 := XR.out.cell 1
      have y2 := XR.out.cell 2
      simp at y0 y1 y2
      have SW := kide (SV.out.wide HW1.out HZ.out)
      refine bodyPost_ret (v := .tuple #[.agg #[Value.slice a9 (dn + 1) c9, Value.slice a2 n c2, Value.int .i64 nx], .int .i64 0]) (by simp [results, Tryz.results8, go_sem, y0, y1, y2]) rfl ?_
      rw [HR.out]
      refine ⟨a9, c9, a2, c2, l, p, M, w2.heap.size, ?_, ?_, HCT.out, BV.out⟩
      · simp only [HDN.out, HDL9.out, HCL.out]
      · simp only [HDN.out, HDL9.out, HCL.out]; exact SW.out

end Go.Proofs.YtofdkdaehhpgbaaGreatDoor
