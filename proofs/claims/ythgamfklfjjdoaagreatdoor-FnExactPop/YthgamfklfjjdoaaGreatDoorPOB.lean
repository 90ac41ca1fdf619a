/- Pop: on the given side. -/
import Derived.Test.YthgamfklfjjdoaaGreatDoorPOA
namespace Go.Proofs.YthgamfklfjjdoaaGreatDoor
set_option linter.unusedVariables false
set_option linter.unusedSimpArgs false
open Go.RowKit

set_option maxHeartbeats 2000000 in
set_option maxRecDepth 100000 in
theorem specPop_any (g1 o1 g2 o2 dn dc n sc : Nat) (nx : Int) (ds : List Dc) (xs : List Sg) (w : World) (hd : RdD w (some ⟨g1, o1, none⟩) ds) (hdn : ds.length = dn) (hs : RdS w (some ⟨g2, o2, none⟩) xs) (hn : xs.length = n) (hS : SnS xs) (hsc : n ≤ sc)
    (HSK : Hid (∀ u, Below w.heap.size w u → Calls Tryz.prog 22 #[.agg #[Value.slice (some ⟨g1, o1, none⟩) dn dc, Value.slice (some ⟨g2, o2, none⟩) n sc, Value.int .i64 nx]] u fun e w' => e = .returned (.bool (sesR ds (xs.map Sg.ct) nx)) ∧ Below u.heap.size u w')) :
    Calls Tryz.prog 18 #[.agg #[Value.slice (some ⟨g1, o1, none⟩) dn dc, Value.slice (some ⟨g2, o2, none⟩) n sc, Value.int .i64 nx]] w (RetR (popR ds (xs.map Sg.ct) nx) (popR ds (xs.map Sg.ct) nx).ds.length (popR ds (xs.map Sg.ct) nx).cs.length w) := by
  obtain ⟨b0, hb0⟩ : ∃ b0, w.heap.size = b0 := ⟨_, rfl⟩
  have hb2 : Below w.heap.size w ((w.alloc (Obj.cells #[Value.slice (some ⟨g1, o1, none⟩) dn dc, Value.slice (some ⟨g2, o2, none⟩) n sc, Value.int .i64 nx] 32)).alloc (Obj.cells #[Value.slice none 0 0, Value.slice none 0 0, Value.int .i64 0] 32)) := ((Below.refl _ _).alloc (Nat.le_refl _) _).alloc (by simp) _
  have B0 := kide hb2
  have XB0 : Hid (Bz ((w.alloc (Obj.cells #[Value.slice (some ⟨g1, o1, none⟩) dn dc, Value.slice (some ⟨g2, o2, none⟩) n sc, Value.int .i64 nx] 32)).alloc (Obj.cells #[Value.slice none 0 0, Value.slice none 0 0, Value.int .i64 0] 32)) b0 #[Value.slice (some ⟨g1, o1, none⟩) dn dc, Value.slice (some ⟨g2, o2, none⟩) n sc, Value.int .i64 nx] 32) := by rw [← hb0]; exact (Bz.new w #[Value.slice (some ⟨g1, o1, none⟩) dn dc, Value.slice (some ⟨g2, o2, none⟩) n sc, Value.int .i64 nx] (32)).later ((Below.refl _ _).alloc (Nat.le_refl _) _)
  have XR0 : Hid (Bz ((w.alloc (Obj.cells #[Value.slice (some ⟨g1, o1, none⟩) dn dc, Value.slice (some ⟨g2, o2, none⟩) n sc, Value.int .i64 nx] 32)).alloc (Obj.cells #[Value.slice none 0 0, Value.slice none 0 0, Value.int .i64 0] 32)) (b0 + 1) #[Value.slice none 0 0, Value.slice none 0 0, Value.int .i64 0] 32) := by have h := Bz.new (w.alloc (Obj.cells #[Value.slice (some ⟨g1, o1, none⟩) dn dc, Value.slice (some ⟨g2, o2, none⟩) n sc, Value.int .i64 nx] 32)) #[Value.slice none 0 0, Value.slice none 0 0, Value.int .i64 0] (32); rw [show (w.alloc (Obj.cells #[Value.slice (some ⟨g1, o1, none⟩) dn dc, Value.slice (some ⟨g2, o2, none⟩) n sc, Value.int .i64 nx] 32)).heap.size = b0 + 1 by simp [hb0]] at h; exact h
  have HB0 := kide hb0
  have HCP : Hid (sesR ds (xs.map Sg.ct) nx = true → ∀ u, Below w.heap.size w u → Calls Tryz.prog 36 #[.agg #[Value.slice (some ⟨g1, o1, none⟩) dn dc, Value.slice (some ⟨g2, o2, none⟩) n sc, Value.int .i64 nx]] u (RetCs ds (xs.map Sg.ct) dn n nx u)) := fun h u hu => l21Copy_any g1 o1 _ dn dc n sc nx ds xs u (hd.later hu) hdn (hs.later hu) hn (by have := (ses_len h).2; rw [List.length_map, hn] at this; omega) hS
  have HRS := kide (fun u (hu : Below w.heap.size w u) => hs.later hu)
  have HOKD := kide hd.okd
  have HOKS := kide hs.okc
  have HDN := kide hdn
  have HN := kide hn
  have hdl : dn ≤ 1048576 := by rw [← hdn]; exact hd.1
  clear hd hdn hs hn hS hb2
  unfold popR
  cases hv : sesR ds (xs.map Sg.ct) nx with
  | false =>
    rw [hv] at HSK
    rw [if_neg (by simp)]
    clear hv HCP
    go_enter Tryz.func18, Tryz.ntmps18
    go_wp2_with fail
    try simp only [hb0]
    clear hb0
    generalize ((w.alloc (Obj.cells #[Value.slice (some ⟨g1, o1, none⟩) dn dc, Value.slice (some ⟨g2, o2, none⟩) n sc, Value.int .i64 nx] 32)).alloc (Obj.cells #[Value.slice none 0 0, Value.slice none 0 0, Value.int .i64 0] 32)) = W at *
    refine Calls.mono (HSK.out _ B0.out) ?_
    rintro e w1 ⟨rfl, hb1⟩
    have B1 := kide (B0.out.trans (hb1.mono B0.out.size))
    have XR1 := kide (XR0.out.later hb1)
    clear hb1
    have r0 := XR1.out.cell 0
    have r1 := XR1.out.cell 1
    have r2 := XR1.out.cell 2
    have f0 := XR1.out.froz 0
    have f1 := XR1.out.froz 1
    have f2 := XR1.out.froz 2
    simp at r0 r1 r2
    go_wp2_with fail
    have XR2 : Hid (Bz (((w1.setCell ⟨b0 + 1, 0, none⟩ (Value.slice none 0 0)).setCell ⟨b0 + 1, 1, none⟩ (Value.slice none 0 0)).setCell ⟨b0 + 1, 2, none⟩ (Value.int .i64 0)) (b0 + 1) #[Value.slice none 0 0, Value.slice none 0 0, Value.int .i64 0] 32) := (((XR1.out.set 0 (Value.slice none 0 0)).set 1 (Value.slice none 0 0)).set 2 (Value.int .i64 0))
    have B2 : Hid (Below w.heap.size w (((w1.setCell ⟨b0 + 1, 0, none⟩ (Value.slice none 0 0)).setCell ⟨b0 + 1, 1, none⟩ (Value.slice none 0 0)).setCell ⟨b0 + 1, 2, none⟩ (Value.int .i64 0))) := (((B1.out.setCell (show _ ≤ b0 + 1 by have := HB0.out; omega) _).setCell (show _ ≤ b0 + 1 by have := HB0.out; omega) _).setCell (show _ ≤ b0 + 1 by have := HB0.out; omega) _)
    clear r0 r1 r2 f0 f1 f2
    generalize (((w1.setCell ⟨b0 + 1, 0, none⟩ (Value.slice none 0 0)).setCell ⟨b0 + 1, 1, none⟩ (Value.slice none 0 0)).setCell ⟨b0 + 1, 2, none⟩ (Value.int .i64 0)) = V at *
    have y0 := XR2.out.cell 0
    have y1 := XR2.out.cell 1
    have y2 := XR2.out.cell 2
    simp at y0 y1 y2
    exact bodyPost_ret (v := .tuple #[.agg #[Value.slice none 0 0, Value.slice none 0 0, Value.int .i64 0], .int .i64 1]) (by simp [results, Tryz.results18, go_sem, y0, y1, y2]) rfl ⟨none, 0, none, 0, [], rfl, rfl, (Sn2.zero _ _ _ B2.out.size).rs zero_ok.1 (by simp) (fun c hc => by simp at hc), B2.out⟩
  | true =>
    rw [hv] at HSK
    rw [if_pos rfl]
    have HC2 := kide (HCP.out hv)
    have HCB : Hid (n ≤ 20) := by show _ ≤ _; have := (ses_len hv).2; rw [List.length_map, HN.out] at this; exact this
    have HLT := kide (fun h1 => pop_last HN.out hv h1)
    clear hv HCP
    have HCL : Hid ((xs.map Sg.ct).length = n) := by show _ = _; rw [List.length_map]; exact HN.out
    by_cases h1 : n = 1
    · rw [if_pos (by rw [HCL.out]; exact h1)]
      have hq1 : (n : Int) - 1 = 0 := by omega
      have H1 := kide h1
      clear h1 HLT
      go_enter Tryz.func18, Tryz.ntmps18
      go_wp2_with fail
      try simp only [hb0]
      clear hb0
      generalize ((w.alloc (Obj.cells #[Value.slice (some ⟨g1, o1, none⟩) dn dc, Value.slice (some ⟨g2, o2, none⟩) n sc, Value.int .i64 nx] 32)).alloc (Obj.cells #[Value.slice none 0 0, Value.slice none 0 0, Value.int .i64 0] 32)) = W at *
      refine Calls.mono (HSK.out _ B0.out) ?_
      rintro e w1 ⟨rfl, hb1⟩
      have B1 := kide (B0.out.trans (hb1.mono B0.out.size))
      have XB1 := kide (XB0.out.later hb1)
      have XR1 := kide (XR0.out.later hb1)
      clear hb1 XB0 XR0 B0
      have x0 := XB1.out.cell 0
      have x1 := XB1.out.cell 1
      have x2 := XB1.out.cell 2
      simp at x0 x1 x2
      go_wp2_with fail
      clear x0 x1 x2
      refine Calls.mono (HC2.out _ B1.out) ?_
      rintro e w2 hret
      obtain ⟨a1, c1, a2, c2, l, p, M, rfl, sn, hct, hb2⟩ := hret.sn
      clear hret
      have hll : l.length = n := by have := congrArg List.length hct; rw [List.length_map, HCL.out] at this; exact this
      have HLL := kide hll
      have HCT := kide hct
      have RS2 : Hid (Keep w1.heap.size w2.heap.size (fun u => RdD u a1 ds ∧ RdS u a2 l) w2) := sn.rs HOKD.out (by have := HCB.out; omega) (by rw [hct]; exact HOKS.out)
      have HL1 : Hid (b0 + 1 < w1.heap.size) := XR1.out.lt
      have HL2 : Hid (w1.heap.size ≤ w2.heap.size) := hb2.size
      have hbx : Below w2.heap.size w2 (w2.alloc (.cells #[Value.slice a1 dn c1, Value.slice a2 n c2, Value.int .i64 nx] 32)) := (Below.refl _ _).alloc (Nat.le_refl _) _
      have SN := kide sn
      have B2 := kide (B1.out.trans (hb2.mono B1.out.size))
      have XB2 := kide (XB1.out.later hb2)
      have XR2 := kide (XR1.out.later hb2)
      have RB3 : Hid (Bz (w2.alloc (.cells #[Value.slice a1 dn c1, Value.slice a2 n c2, Value.int .i64 nx] 32)) w2.heap.size #[Value.slice a1 dn c1, Value.slice a2 n c2, Value.int .i64 nx] 32) := Bz.new _ _ _
      have RS3 := kide (Keep.later RS2.out hbx)
      have B3 := kide (B2.out.trans (hbx.mono B2.out.size))
      have XB3 := kide (XB2.out.later hbx)
      have XR3 := kide (XR2.out.later hbx)
      have HZ3 : Hid (w2.heap.size ≤ (w2.alloc (.cells #[Value.slice a1 dn c1, Value.slice a2 n c2, Value.int .i64 nx] 32)).heap.size) := hbx.size
      clear sn hct hb2 hll XB1 XR1 B1 hbx
      have x0 := XB3.out.cell 0
      have x1 := XB3.out.cell 1
      have x2 := XB3.out.cell 2
      have r0 := XR3.out.cell 0
      have r1 := XR3.out.cell 1
      have r2 := XR3.out.cell 2
      have f0 := XR3.out.froz 0
      have f1 := XR3.out.froz 1
      have f2 := XR3.out.froz 2
      simp at x0 x1 x2 r0 r1 r2
      go_wp2_with fail
      clear x0 x1 x2 r0 r1 r2 f0 f1 f2
      generalize (w2.alloc (.cells #[Value.slice a1 dn c1, Value.slice a2 n c2, Value.int .i64 nx] 32)) = w3 at *
      have XR9 : Hid (Bz (((w3.setCell ⟨b0 + 1, 0, none⟩ (Value.slice a1 dn c1)).setCell ⟨b0 + 1, 1, none⟩ (Value.slice a2 n c2)).setCell ⟨b0 + 1, 2, none⟩ (Value.int .i64 nx)) (b0 + 1) #[Value.slice a1 dn c1, Value.slice a2 n c2, Value.int .i64 nx] 32) := (((XR3.out.set 0 (Value.slice a1 dn c1)).set 1 (Value.slice a2 n c2)).set 2 (Value.int .i64 nx))
      have B9 : Hid (Below w.heap.size w (((w3.setCell ⟨b0 + 1, 0, none⟩ (Value.slice a1 dn c1)).setCell ⟨b0 + 1, 1, none⟩ (Value.slice a2 n c2)).setCell ⟨b0 + 1, 2, none⟩ (Value.int .i64 nx))) := (((B3.out.setCell (show _ ≤ b0 + 1 by have := HB0.out; omega) _).setCell (show _ ≤ b0 + 1 by have := HB0.out; omega) _).setCell (show _ ≤ b0 + 1 by have := HB0.out; omega) _)
      have RS9 := kide (Keep.out (Keep.out (Keep.out RS3.out (Out.setc w3 (b0 + 1) 0 (Value.slice a1 dn c1)) (.inr HL1.out)) (Out.setc (w3.setCell ⟨b0 + 1, 0, none⟩ (Value.slice a1 dn c1)) (b0 + 1) 1 (Value.slice a2 n c2)) (.inr HL1.out)) (Out.setc ((w3.setCell ⟨b0 + 1, 0, none⟩ (Value.slice a1 dn c1)).setCell ⟨b0 + 1, 1, none⟩ (Value.slice a2 n c2)) (b0 + 1) 2 (Value.int .i64 nx)) (.inr HL1.out))
      have HZ9 : Hid (w2.heap.size ≤ (((w3.setCell ⟨b0 + 1, 0, none⟩ (Value.slice a1 dn c1)).setCell ⟨b0 + 1, 1, none⟩ (Value.slice a2 n c2)).setCell ⟨b0 + 1, 2, none⟩ (Value.int .i64 nx)).heap.size) := by show _ ≤ _; simp; exact HZ3.out
      have HW1 : Hid (w.heap.size ≤ w1.heap.size) := by show _ ≤ _; have := HL1.out; have := HB0.out; omega
      generalize (((w3.setCell ⟨b0 + 1, 0, none⟩ (Value.slice a1 dn c1)).setCell ⟨b0 + 1, 1, none⟩ (Value.slice a2 n c2)).setCell ⟨b0 + 1, 2, none⟩ (Value.int .i64 nx)) = V at *
      have y0 := XR9.out.cell 0
      have y1 := XR9.out.cell 1
      have y2 := XR9.out.cell 2
      simp at y0 y1 y2
      have RSV := kide (Keep.wide RS9.out HW1.out HZ9.out)
      refine bodyPost_ret (v := .tuple #[.agg #[Value.slice a1 dn c1, Value.slice a2 n c2, Value.int .i64 nx], .int .i64 8]) (by simp [results, Tryz.results18, go_sem, y0, y1, y2]) rfl ⟨a1, c1, a2, c2, l, ?_, ?_, ?_, B9.out⟩
      · simp only [HDN.out, HCL.out]
      · exact HCT.out
      · exact RSV.out
    · rw [if_neg (by rw [HCL.out]; exact h1)]
      obtain ⟨q, k, x, hnq, gx, hxd, hkd, hsd, hsq, hn20⟩ := HLT.out h1
      rw [hsd, hsq]
      rw [HDN.out] at hkd
      have HKD := kide hkd
      have HRN : Hid (∀ u, Below w.heap.size w u → u.cell? ⟨g2, o2 + q * 2, none⟩ = some (.int .i64 (k : Int))) := fun u hu => by
        obtain ⟨b4, o4, e4, ⟨h4, -⟩, -⟩ := (HRS.out u hu).at gx
        cases e4
        rw [← hxd]
        exact h4
      have hq1 : (n : Int) - 1 = (q : Int) := by omega
      have i0 : ((q : Int) == 0) = false := by simp; omega
      have hqn : (q : Int) < (n : Int) := by omega
      have hq20 : q ≤ 20 := by omega
      have hwq : wrap64 (q : Int) = (q : Int) := by unfold wrap64; omega
      have HNQ := kide hnq
      clear h1 HLT gx hxd hsd hsq hkd hnq hn20
      go_enter Tryz.func18, Tryz.ntmps18
      go_wp2_with fail
      try simp only [hb0]
      clear hb0
      generalize ((w.alloc (Obj.cells #[Value.slice (some ⟨g1, o1, none⟩) dn dc, Value.slice (some ⟨g2, o2, none⟩) n sc, Value.int .i64 nx] 32)).alloc (Obj.cells #[Value.slice none 0 0, Value.slice none 0 0, Value.int .i64 0] 32)) = W at *
      refine Calls.mono (HSK.out _ B0.out) ?_
      rintro e w1 ⟨rfl, hb1⟩
      have B1 := kide (B0.out.trans (hb1.mono B0.out.size))
      have XB1 := kide (XB0.out.later hb1)
      have XR1 := kide (XR0.out.later hb1)
      clear hb1 XB0 XR0 B0
      have x0 := XB1.out.cell 0
      have x1 := XB1.out.cell 1
      have x2 := XB1.out.cell 2
      simp at x0 x1 x2
      go_wp2_with fail
      clear x0 x1 x2
      refine Calls.mono (HC2.out _ B1.out) ?_
      rintro e w2 hret
      obtain ⟨a1, c1, a2, c2, l, p, M, rfl, sn, hct, hb2⟩ := hret.sn
      clear hret
      have hll : l.length = n := by have := congrArg List.length hct; rw [List.length_map, HCL.out] at this; exact this
      have HLL := kide hll
      have HCT := kide hct
      have RS2 : Hid (Keep w1.heap.size w2.heap.size (fun u => RdD u a1 ds ∧ RdS u a2 l) w2) := sn.rs HOKD.out (by have := HCB.out; omega) (by rw [hct]; exact HOKS.out)
      have HL1 : Hid (b0 + 1 < w1.heap.size) := XR1.out.lt
      have HL2 : Hid (w1.heap.size ≤ w2.heap.size) := hb2.size
      have hbx : Below w2.heap.size w2 (w2.alloc (.cells #[Value.slice a1 dn c1, Value.slice a2 n c2, Value.int .i64 nx] 32)) := (Below.refl _ _).alloc (Nat.le_refl _) _
      have SN := kide sn
      have B2 := kide (B1.out.trans (hb2.mono B1.out.size))
      have XB2 := kide (XB1.out.later hb2)
      have XR2 := kide (XR1.out.later hb2)
      have RB3 : Hid (Bz (w2.alloc (.cells #[Value.slice a1 dn c1, Value.slice a2 n c2, Value.int .i64 nx] 32)) w2.heap.size #[Value.slice a1 dn c1, Value.slice a2 n c2, Value.int .i64 nx] 32) := Bz.new _ _ _
      have RS3 := kide (Keep.later RS2.out hbx)
      have B3 := kide (B2.out.trans (hbx.mono B2.out.size))
      have XB3 := kide (XB2.out.later hbx)
      have XR3 := kide (XR2.out.later hbx)
      have HZ3 : Hid (w2.heap.size ≤ (w2.alloc (.cells #[Value.slice a1 dn c1, Value.slice a2 n c2, Value.int .i64 nx] 32)).heap.size) := hbx.size
      clear sn hct hb2 hll XB1 XR1 B1 hbx
      have x0 := XB3.out.cell 0
      have x1 := XB3.out.cell 1
      have x2 := XB3.out.cell 2
      have r0 := XR3.out.cell 0
      have r1 := XR3.out.cell 1
      have r2 := XR3.out.cell 2
      have f0 := XR3.out.froz 0
      have f1 := XR3.out.froz 1
      have f2 := XR3.out.froz 2
      simp at x0 x1 x2 r0 r1 r2
      go_wp2_with fail
      try simp only [hq1]
      clear x0 x1 x2 r0 r1 r2 f0 f1 f2
      obtain ⟨gz, rfl, hqc2⟩ : ∃ gz, a2 = some ⟨gz, 0, none⟩ ∧ q ≤ c2 := by
        rcases SN.out.scp.row.2 with ⟨h0, h00⟩ | ⟨g, cap, cur, h0, -, -, h1, -⟩
        · have := HLL.out; have := HNQ.out; omega
        · cases h0; exact ⟨g, rfl, by have := HLL.out; have := HNQ.out; omega⟩
      have HA1 : Hid ((a1 = none ∧ dn = 0 ∧ c1 = 0 ∧ k = 0) ∨ ∃ gd, a1 = some ⟨gd, 0, none⟩ ∧ k ≤ c1 ∧ (k : Int) ≤ (c1 : Int)) := by
        rcases SN.out.dec.2 with ⟨h0, h00⟩ | ⟨g, cap, cur, h0, -, -, h1, -⟩
        · cases h0; exact .inl ⟨rfl, rfl, rfl, by have := HKD.out; omega⟩
        · cases h0; exact .inr ⟨g, rfl, by have := HKD.out; have := HDN.out; omega, by have := HKD.out; have := HDN.out; omega⟩
      have hqc3 : (q : Int) ≤ (c2 : Int) := by omega
      obtain ⟨rb, hrb⟩ : ∃ rb, w2.heap.size = rb := ⟨_, rfl⟩
      have HRB : Hid (rb = w2.heap.size) := hrb.symm
      rw [hrb] at RB3
      try simp only [hrb]
      clear hrb
      generalize (w2.alloc (.cells #[Value.slice a1 dn c1, Value.slice (some ⟨gz, 0, none⟩) n c2, Value.int .i64 nx] 32)) = w3 at *
      refine wp_region_x (SA := fun uu => uu.cell? ⟨rb, 0, none⟩ = some (Value.slice a1 dn c1) ∧ uu.cell? ⟨b0, 1, none⟩ = some (Value.slice (some ⟨g2, o2, none⟩) n sc) ∧ uu.cell? ⟨g2, o2 + q * 2, none⟩ = some (Value.int .i64 (k : Int))) (SB := fun _ => True) (k := 10) (by kernel_rfl) ?_
      have hbd : Below w3.heap.size w3 w3.drew := (Below.refl _ _).drew
      have XB0' := kide (XB3.out.later hbd)
      have XR0' := kide (XR3.out.later hbd)
      have RB0' := kide (RB3.out.later hbd)
      have B0' := kide (B3.out.trans (hbd.mono B3.out.size))
      have RS0' := kide (Keep.later RS3.out hbd)
      have HZ0' : Hid (w2.heap.size ≤ w3.drew.heap.size) := Nat.le_trans HZ3.out hbd.size
      clear hbd XB3 XR3 RB3 B3 RS3
      generalize w3.drew = u0 at *
      have c0_0 : u0.cell? ⟨rb, 0, none⟩ = some (Value.slice a1 dn c1) := RB0'.out.cell 0
      have c1_0 : u0.cell? ⟨b0, 1, none⟩ = some (Value.slice (some ⟨g2, o2, none⟩) n sc) := XB0'.out.cell 1
      have c2_0 : u0.cell? ⟨g2, o2 + q * 2, none⟩ = some (Value.int .i64 (k : Int)) := HRN.out u0 B0'.out
      have hs0 : Hid ((fun uu => uu.cell? ⟨rb, 0, none⟩ = some (Value.slice a1 dn c1) ∧ uu.cell? ⟨b0, 1, none⟩ = some (Value.slice (some ⟨g2, o2, none⟩) n sc) ∧ uu.cell? ⟨g2, o2 + q * 2, none⟩ = some (Value.int .i64 (k : Int))) u0) := ⟨c0_0, c1_0, c2_0⟩
      try go_simp
      refine wpAnyX_both (T := fun _ => True) (i := 0) (v := Value.pointer (some ⟨rb, 0, none⟩)) rfl (by kernel_rfl) (by kernel_rfl) (by kernel_rfl) (fun _ _ _ h => by first | exact h | exact h.elim) (by decide) (fun _ _ => trivial) (fun _ _ => trivial) (Sx.before (by kernel_rfl) hs0.out) (Or.inl ⟨by rfl, fun uu hu => by go_simp⟩) ?_
      try go_simp
      refine wpAnyX_take (i := 1) (v := Value.slice a1 dn c1) rfl (by kernel_rfl) (by kernel_rfl) (by kernel_rfl) (fun _ _ _ h => by first | exact h | exact h.elim) (by decide) (by kernel_rfl) (by kernel_rfl) hs0.out (Or.inl ⟨by rfl, fun uu hu => by obtain ⟨e0, e1, e2⟩ := hu; go_simp⟩) ?_
      try go_simp
      refine wpAnyX_both (T := fun _ => True) (i := 2) (v := Value.pointer (some ⟨b0, 1, none⟩)) rfl (by kernel_rfl) (by kernel_rfl) (by kernel_rfl) (fun _ _ _ h => by first | exact h | exact h.elim) (by decide) (fun _ _ => trivial) (fun _ _ => trivial) (Sx.before (by kernel_rfl) hs0.out) (Or.inl ⟨by rfl, fun uu hu => by go_simp⟩) ?_
      try go_simp
      refine wpAnyX_take (i := 3) (v := Value.slice (some ⟨g2, o2, none⟩) n sc) rfl (by kernel_rfl) (by kernel_rfl) (by kernel_rfl) (fun _ _ _ h => by first | exact h | exact h.elim) (by decide) (by kernel_rfl) (by kernel_rfl) hs0.out (Or.inl ⟨by rfl, fun uu hu => by obtain ⟨e0, e1, e2⟩ := hu; go_simp⟩) ?_
      try go_simp
      refine wpAnyX_both (T := fun _ => True) (i := 4) (v := Value.int .i64 (q : Int)) rfl (by kernel_rfl) (by kernel_rfl) (by kernel_rfl) (fun _ _ _ h => by first | exact h | exact h.elim) (by decide) (fun _ _ => trivial) (fun _ _ => trivial) (Sx.before (by kernel_rfl) hs0.out) (Or.inl ⟨by rfl, fun uu hu => by go_simp⟩) ?_
      try go_simp
      refine wpAnyX_both (T := fun _ => True) (i := 5) (v := Value.pointer (some ⟨g2, o2 + q * 2, none⟩)) rfl (by kernel_rfl) (by kernel_rfl) (by kernel_rfl) (fun _ _ _ h => by first | exact h | exact h.elim) (by decide) (fun _ _ => trivial) (fun _ _ => trivial) (Sx.before (by kernel_rfl) hs0.out) (Or.inl ⟨by rfl, fun uu hu => by go_simp⟩) ?_
      try go_simp
      refine wpAnyX_both (T := fun _ => True) (i := 6) (v := Value.pointer (some ⟨g2, o2 + q * 2, none⟩)) rfl (by kernel_rfl) (by kernel_rfl) (by kernel_rfl) (fun _ _ _ h => by first | exact h | exact h.elim) (by decide) (fun _ _ => trivial) (fun _ _ => trivial) (Sx.before (by kernel_rfl) hs0.out) (Or.inl ⟨by rfl, fun uu hu => by go_simp⟩) ?_
      try go_simp
      refine wpAnyX_take (i := 7) (v := Value.int .i64 (k : Int)) rfl (by kernel_rfl) (by kernel_rfl) (by kernel_rfl) (fun _ _ _ h => by first | exact h | exact h.elim) (by decide) (by kernel_rfl) (by kernel_rfl) hs0.out (Or.inl ⟨by rfl, fun uu hu => by obtain ⟨e0, e1, e2⟩ := hu; go_simp⟩) ?_
      try go_simp
      refine wpAnyX_both (T := fun _ => True) (i := 8) (v := Value.slice a1 k c1) rfl (by kernel_rfl) (by kernel_rfl) (by kernel_rfl) (fun _ _ _ h => by first | exact h | exact h.elim) (by decide) (fun _ _ => trivial) (fun _ _ => trivial) (Sx.before (by kernel_rfl) hs0.out) (Or.inl ⟨by rfl, fun uu hu => by rcases HA1.out with ⟨ha, hb, hc, hk⟩ | ⟨gd, ha, hc, hc'⟩ <;> (first | (subst ha hb hc hk; go_simp; done) | (subst ha; go_simp; done) | (simp [ha, hb, hc, hk, go_sem]; done))⟩) ?_
      try go_simp
      refine wpAnyX_both (T := fun _ => True) (i := 9) (v := Value.pointer (some ⟨rb, 0, none⟩)) rfl (by kernel_rfl) (by kernel_rfl) (by kernel_rfl) (fun _ _ _ h => by first | exact h | exact h.elim) (by decide) (fun _ _ => trivial) (fun _ _ => trivial) (Sx.before (by kernel_rfl) hs0.out) (Or.inl ⟨by rfl, fun uu hu => by go_simp⟩) ?_
      try go_simp
      refine wpAnyX_ready (rs := [10]) (by kernel_rfl) (by simp) (AllX.cons rfl (fun K hK => ?_) AllX.nil)
      have e0 := RB0'.out.cell 0
      have f0 := RB0'.out.froz 0
      simp at e0
      go_simp
      have RB1' : Hid (Bz (u0.setCell ⟨rb, 0, none⟩ (Value.slice a1 k c1)) rb #[Value.slice a1 k c1, Value.slice (some ⟨gz, 0, none⟩) n c2, Value.int .i64 nx] 32) := RB0'.out.set 0 _
      have B1' : Hid (Below w.heap.size w (u0.setCell ⟨rb, 0, none⟩ (Value.slice a1 k c1))) := B0'.out.setCell (show _ ≤ rb by have := HRB.out; have := HL1.out; have := HL2.out; have := HB0.out; omega) _
      have XR1' : Hid (Bz (u0.setCell ⟨rb, 0, none⟩ (Value.slice a1 k c1)) (b0 + 1) #[Value.slice none 0 0, Value.slice none 0 0, Value.int .i64 0] 32) := XR0'.out.other (by have := HRB.out; have := HL1.out; have := HL2.out; omega) 0 _
      have RS1' := kide (Keep.out RS0'.out (Out.setc u0 rb 0 (Value.slice a1 k c1)) (.inl (by rw [HRB.out]; exact Nat.le_refl _)))
      have HZ1' : Hid (w2.heap.size ≤ (u0.setCell ⟨rb, 0, none⟩ (Value.slice a1 k c1)).heap.size) := by show _ ≤ _; simp; exact HZ0'.out
      clear e0 f0
      generalize (u0.setCell ⟨rb, 0, none⟩ (Value.slice a1 k c1)) = u1 at *
      refine hK _ _ (Sx.behind (by kernel_rfl) trivial) ?_
      clear hK K
      try go_simp
      refine wpAnyX_done (by kernel_rfl) ?_ _
      have z1 := RB1'.out.cell 1
      have g1' := RB1'.out.froz 1
      have RB6 : Hid (Bz (u1.setCell ⟨rb, 1, none⟩ (Value.slice (some ⟨gz, 0, none⟩) q c2)) rb #[Value.slice a1 k c1, Value.slice (some ⟨gz, 0, none⟩) q c2, Value.int .i64 nx] 32) := RB1'.out.set 1 _
      have XR6 : Hid (Bz (u1.setCell ⟨rb, 1, none⟩ (Value.slice (some ⟨gz, 0, none⟩) q c2)) (b0 + 1) #[Value.slice none 0 0, Value.slice none 0 0, Value.int .i64 0] 32) := XR1'.out.other (by have := HRB.out; have := HL1.out; have := HL2.out; omega) 1 _
      have B6 : Hid (Below w.heap.size w (u1.setCell ⟨rb, 1, none⟩ (Value.slice (some ⟨gz, 0, none⟩) q c2))) := B1'.out.setCell (show _ ≤ rb by have := HRB.out; have := HL1.out; have := HL2.out; have := HB0.out; omega) _
      have RS6 := kide (Keep.out RS1'.out (Out.setc u1 rb 1 (Value.slice (some ⟨gz, 0, none⟩) q c2)) (.inl (by rw [HRB.out]; exact Nat.le_refl _)))
      have HZ6 : Hid (w2.heap.size ≤ (u1.setCell ⟨rb, 1, none⟩ (Value.slice (some ⟨gz, 0, none⟩) q c2)).heap.size) := by show _ ≤ _; simp; exact HZ1'.out
      have k0 := RB6.out.cell 0
      have k1 := RB6.out.cell 1
      have k2 := RB6.out.cell 2
      have r0 := XR6.out.cell 0
      have r1 := XR6.out.cell 1
      have r2 := XR6.out.cell 2
      have f0 := XR6.out.froz 0
      have f1 := XR6.out.froz 1
      have f2 := XR6.out.froz 2
      go_wp2_with fail
      clear z1 g1' k0 k1 k2 r0 r1 r2 f0 f1 f2
      generalize (u1.setCell ⟨rb, 1, none⟩ (Value.slice (some ⟨gz, 0, none⟩) q c2)) = w6 at *
      have XR9 : Hid (Bz (((w6.setCell ⟨b0 + 1, 0, none⟩ (Value.slice a1 k c1)).setCell ⟨b0 + 1, 1, none⟩ (Value.slice (some ⟨gz, 0, none⟩) q c2)).setCell ⟨b0 + 1, 2, none⟩ (Value.int .i64 nx)) (b0 + 1) #[Value.slice a1 k c1, Value.slice (some ⟨gz, 0, none⟩) q c2, Value.int .i64 nx] 32) := (((XR6.out.set 0 (Value.slice a1 k c1)).set 1 (Value.slice (some ⟨gz, 0, none⟩) q c2)).set 2 (Value.int .i64 nx))
      have B9 : Hid (Below w.heap.size w (((w6.setCell ⟨b0 + 1, 0, none⟩ (Value.slice a1 k c1)).setCell ⟨b0 + 1, 1, none⟩ (Value.slice (some ⟨gz, 0, none⟩) q c2)).setCell ⟨b0 + 1, 2, none⟩ (Value.int .i64 nx))) := (((B6.out.setCell (show _ ≤ b0 + 1 by have := HB0.out; omega) _).setCell (show _ ≤ b0 + 1 by have := HB0.out; omega) _).setCell (show _ ≤ b0 + 1 by have := HB0.out; omega) _)
      have RS9 := kide (Keep.out (Keep.out (Keep.out RS6.out (Out.setc w6 (b0 + 1) 0 (Value.slice a1 k c1)) (.inr HL1.out)) (Out.setc (w6.setCell ⟨b0 + 1, 0, none⟩ (Value.slice a1 k c1)) (b0 + 1) 1 (Value.slice (some ⟨gz, 0, none⟩) q c2)) (.inr HL1.out)) (Out.setc ((w6.setCell ⟨b0 + 1, 0, none⟩ (Value.slice a1 k c1)).setCell ⟨b0 + 1, 1, none⟩ (Value.slice (some ⟨gz, 0, none⟩) q c2)) (b0 + 1) 2 (Value.int .i64 nx)) (.inr HL1.out))
      have HZ9 : Hid (w2.heap.size ≤ (((w6.setCell ⟨b0 + 1, 0, none⟩ (Value.slice a1 k c1)).setCell ⟨b0 + 1, 1, none⟩ (Value.slice (some ⟨gz, 0, none⟩) q c2)).setCell ⟨b0 + 1, 2, none⟩ (Value.int .i64 nx)).heap.size) := by show _ ≤ _; simp; exact HZ6.out
      have HW1 : Hid (w.heap.size ≤ w1.heap.size) := by show _ ≤ _; have := HL1.out; have := HB0.out; omega
      generalize (((w6.setCell ⟨b0 + 1, 0, none⟩ (Value.slice a1 k c1)).setCell ⟨b0 + 1, 1, none⟩ (Value.slice (some ⟨gz, 0, none⟩) q c2)).setCell ⟨b0 + 1, 2, none⟩ (Value.int .i64 nx)) = V at *
      have y0 := XR9.out.cell 0
      have y1 := XR9.out.cell 1
      have y2 := XR9.out.cell 2
      simp at y0 y1 y2
      have RSV := kide (Keep.wide RS9.out HW1.out HZ9.out)
      refine bodyPost_ret (v := .tuple #[.agg #[Value.slice a1 k c1, Value.slice (some ⟨gz, 0, none⟩) q c2, Value.int .i64 nx], .int .i64 0]) (by simp [results, Tryz.results18, go_sem, y0, y1, y2]) rfl ⟨a1, c1, some ⟨gz, 0, none⟩, c2, l.take q, ?_, ?_, ?_, B9.out⟩
      · simp only [List.length_take, HDN.out, HCL.out]; rw [Nat.min_eq_left HKD.out, Nat.min_eq_left (by have := HNQ.out; have := HN.out; omega)]
      · show _ = (xs.map Sg.ct).take _; rw [← HCT.out, List.map_take]
      · exact Keep.mono RSV.out fun u hu => ⟨hu.1.take k, hu.2.take q⟩

end Go.Proofs.YthgamfklfjjdoaaGreatDoor
