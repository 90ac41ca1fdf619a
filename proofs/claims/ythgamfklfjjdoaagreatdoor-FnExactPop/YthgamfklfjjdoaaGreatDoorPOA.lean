/- Pop: by the program. -/
import Derived.Test.YthgamfklfjjdoaaGreatDoorPUH
namespace Go.Proofs.YthgamfklfjjdoaaGreatDoor
set_option linter.unusedVariables false
set_option linter.unusedSimpArgs false
open Go.RowKit

def popR (ds : List Dc) (cs : List Sc) (nx : Int) : Rv := if sesR ds cs nx = true then (if cs.length = 1 then ⟨ds, cs, nx, 8⟩ else ⟨ds.take (scD cs (cs.length - 1)).toNat, cs.take (cs.length - 1), nx, 0⟩) else zeSR
theorem RdS.take {w : World} {a : Option Addr} {xs : List Sg} (h : RdS w a xs) (k : Nat) : RdS w a (xs.take k) := by
  refine ⟨by have := h.1; rw [List.length_take]; omega, ?_⟩
  rcases h.2 with h | ⟨b, o, rfl, hc⟩
  · left; simp [h]
  · right
    refine ⟨b, o, rfl, fun i d hi => hc i d ?_⟩
    rw [List.getElem?_take] at hi
    split at hi
    · exact hi
    · cases hi
theorem ses_scp2 {ds : List Dc} {cs : List Sc} {nx : Int} (h : sesR ds cs nx = true) : scpR ds.length cs = true := by
  unfold sesR at h
  simp only [Bool.and_eq_true] at h
  exact h.1.1.1.1.2
theorem pop_ok {w : World} {a b : Option Addr} {ds : List Dc} {xs : List Sg} (hr : RdD w a ds) (hs : RdS w b xs) (nx : Int) : okR (popR ds (xs.map Sg.ct) nx) := by
  unfold popR
  cases hv : sesR ds (xs.map Sg.ct) nx with
  | false => rw [if_neg (by simp)]; exact zero_ok
  | true =>
    rw [if_pos rfl]
    have h1 := hs.okc
    have h2 := ses_each hv
    have h3 := (ses_len hv).2
    split
    · exact ⟨hr.okd, fun c hc => ⟨h1 c hc, h2 c hc⟩, by show (xs.map Sg.ct).length ≤ 60; omega⟩
    · exact ⟨(hr.take _).okd, fun c hc => ⟨h1 c (List.mem_of_mem_take hc), h2 c (List.mem_of_mem_take hc)⟩, by show ((xs.map Sg.ct).take _).length ≤ 60; rw [List.length_take]; omega⟩
/-- What Pop takes of the last scope. -/
theorem pop_last {ds : List Dc} {xs : List Sg} {nx : Int} {n : Nat} (hn : xs.length = n) (h : sesR ds (xs.map Sg.ct) nx = true) (h1 : n ≠ 1) :
    ∃ (q k : Nat) (x : Sg), n = q + 1 ∧ xs[q]? = some x ∧ x.d = (k : Int) ∧ k ≤ ds.length ∧ (scD (xs.map Sg.ct) ((xs.map Sg.ct).length - 1)).toNat = k ∧ (xs.map Sg.ct).length - 1 = q ∧ n ≤ 20 := by
  have hl := ses_len h
  rw [List.length_map, hn] at hl
  have hq : n - 1 < xs.length := by omega
  obtain ⟨x, gx⟩ : ∃ x, xs[n - 1]? = some x := ⟨_, List.getElem?_eq_getElem hq⟩
  have hd : scD (xs.map Sg.ct) (n - 1) = x.d := by
    unfold scD
    rw [List.getD_eq_getElem?_getD, List.getElem?_map, gx]
    rfl
  obtain ⟨b1, b2⟩ := scp_bounds (ses_scp2 h) (i := n - 1) (by rw [List.length_map]; exact hq)
  rw [hd] at b1 b2
  refine ⟨n - 1, x.d.toNat, x, by omega, gx, by omega, by omega, ?_, ?_, hl.2⟩
  · rw [List.length_map, hn, hd]
  · rw [List.length_map, hn]

set_option maxHeartbeats 2000000 in
set_option maxRecDepth 100000 in
theorem implPop_any (g1 o1 g2 o2 dn dc n sc : Nat) (nx : Int) (ds : List Dc) (xs : List Sg) (w : World) (hd : RdD w (some ⟨g1, o1, none⟩) ds) (hdn : ds.length = dn) (hs : RdS w (some ⟨g2, o2, none⟩) xs) (hn : xs.length = n) (hS : SnS xs) (hdc : dn ≤ dc) (hsc : n ≤ sc)
    (HSK : Hid (∀ u, Below w.heap.size w u → Calls Tryz.prog 26 #[.agg #[Value.slice (some ⟨g1, o1, none⟩) dn dc, Value.slice (some ⟨g2, o2, none⟩) n sc, Value.int .i64 nx]] u fun e w' => e = .returned (.bool (sesR ds (xs.map Sg.ct) nx)) ∧ Below u.heap.size u w')) :
    Calls Tryz.prog 19 #[.agg #[Value.slice (some ⟨g1, o1, none⟩) dn dc, Value.slice (some ⟨g2, o2, none⟩) n sc, Value.int .i64 nx]] w (RetP (popR ds (xs.map Sg.ct) nx) w) := by
  obtain ⟨b0, hb0⟩ : ∃ b0, w.heap.size = b0 := ⟨_, rfl⟩
  have hb2 : Below w.heap.size w ((w.alloc (Obj.cells #[Value.slice (some ⟨g1, o1, none⟩) dn dc, Value.slice (some ⟨g2, o2, none⟩) n sc, Value.int .i64 nx] 32)).alloc (Obj.cells #[Value.slice none 0 0, Value.slice none 0 0, Value.int .i64 0] 32)) := ((Below.refl _ _).alloc (Nat.le_refl _) _).alloc (by simp) _
  have B0 := kide hb2
  have XB0 : Hid (Bz ((w.alloc (Obj.cells #[Value.slice (some ⟨g1, o1, none⟩) dn dc, Value.slice (some ⟨g2, o2, none⟩) n sc, Value.int .i64 nx] 32)).alloc (Obj.cells #[Value.slice none 0 0, Value.slice none 0 0, Value.int .i64 0] 32)) b0 #[Value.slice (some ⟨g1, o1, none⟩) dn dc, Value.slice (some ⟨g2, o2, none⟩) n sc, Value.int .i64 nx] 32) := by rw [← hb0]; exact (Bz.new w #[Value.slice (some ⟨g1, o1, none⟩) dn dc, Value.slice (some ⟨g2, o2, none⟩) n sc, Value.int .i64 nx] (32)).later ((Below.refl _ _).alloc (Nat.le_refl _) _)
  have XR0 : Hid (Bz ((w.alloc (Obj.cells #[Value.slice (some ⟨g1, o1, none⟩) dn dc, Value.slice (some ⟨g2, o2, none⟩) n sc, Value.int .i64 nx] 32)).alloc (Obj.cells #[Value.slice none 0 0, Value.slice none 0 0, Value.int .i64 0] 32)) (b0 + 1) #[Value.slice none 0 0, Value.slice none 0 0, Value.int .i64 0] 32) := by have h := Bz.new (w.alloc (Obj.cells #[Value.slice (some ⟨g1, o1, none⟩) dn dc, Value.slice (some ⟨g2, o2, none⟩) n sc, Value.int .i64 nx] 32)) #[Value.slice none 0 0, Value.slice none 0 0, Value.int .i64 0] (32); rw [show (w.alloc (Obj.cells #[Value.slice (some ⟨g1, o1, none⟩) dn dc, Value.slice (some ⟨g2, o2, none⟩) n sc, Value.int .i64 nx] 32)).heap.size = b0 + 1 by simp [hb0]] at h; exact h
  have HB0 := kide hb0
  have HCP : Hid (∀ k q, k ≤ dn → q ≤ n → q ≤ 20 → ∀ u, Below w.heap.size w u → Calls Tryz.prog 37 #[.agg #[.slice (some ⟨g1, o1, none⟩) k dc, .slice (some ⟨g2, o2, none⟩) q sc, .int .i64 nx]] u (RetCs (ds.take k) ((xs.take q).map Sg.ct) k q nx u)) := fun k q hk hq hq2 u hu => copySes_any g1 o1 _ k dc q sc nx (ds.take k) (xs.take q) u ((hd.later hu).take k) (by rw [List.length_take, hdn]; omega) ((hs.later hu).take q) (by rw [List.length_take, hn]; omega) (by omega) (fun x hx => hS x (List.mem_of_mem_take hx))
  have HRS := kide (fun u (hu : Below w.heap.size w u) => hs.later hu)
  have HDN := kide hdn
  have HN := kide hn
  have hdl : dn ≤ 1048576 := by rw [← hdn]; exact hd.1
  clear hd hdn hs hn hS hb2
  unfold popR
  cases hv : sesR ds (xs.map Sg.ct) nx with
  | false =>
    rw [hv] at HSK
    rw [if_neg (by simp)]
    clear hv HCP
    go_enter Tryz.func19, Tryz.ntmps19
    go_wp2_with fail
    try simp only [hb0]
    clear hb0
    generalize ((w.alloc (Obj.cells #[Value.slice (some ⟨g1, o1, none⟩) dn dc, Value.slice (some ⟨g2, o2, none⟩) n sc, Value.int .i64 nx] 32)).alloc (Obj.cells #[Value.slice none 0 0, Value.slice none 0 0, Value.int .i64 0] 32)) = W at *
    refine Calls.mono (HSK.out _ B0.out) ?_
    rintro e w1 ⟨rfl, hb1⟩
    have B1 := kide (B0.out.trans (hb1.mono B0.out.size))
    have XR1 := kide (XR0.out.later hb1)
    clear hb1
    have r0 := XR1.out.cell 0
    have r1 := XR1.out.cell 1
    have r2 := XR1.out.cell 2
    have f0 := XR1.out.froz 0
    have f1 := XR1.out.froz 1
    have f2 := XR1.out.froz 2
    simp at r0 r1 r2
    go_wp2_with fail
    have XR2 : Hid (Bz (((w1.setCell ⟨b0 + 1, 0, none⟩ (Value.slice none 0 0)).setCell ⟨b0 + 1, 1, none⟩ (Value.slice none 0 0)).setCell ⟨b0 + 1, 2, none⟩ (Value.int .i64 0)) (b0 + 1) #[Value.slice none 0 0, Value.slice none 0 0, Value.int .i64 0] 32) := (((XR1.out.set 0 (Value.slice none 0 0)).set 1 (Value.slice none 0 0)).set 2 (Value.int .i64 0))
    have B2 : Hid (Below w.heap.size w (((w1.setCell ⟨b0 + 1, 0, none⟩ (Value.slice none 0 0)).setCell ⟨b0 + 1, 1, none⟩ (Value.slice none 0 0)).setCell ⟨b0 + 1, 2, none⟩ (Value.int .i64 0))) := (((B1.out.setCell (show _ ≤ b0 + 1 by have := HB0.out; omega) _).setCell (show _ ≤ b0 + 1 by have := HB0.out; omega) _).setCell (show _ ≤ b0 + 1 by have := HB0.out; omega) _)
    clear r0 r1 r2 f0 f1 f2
    generalize (((w1.setCell ⟨b0 + 1, 0, none⟩ (Value.slice none 0 0)).setCell ⟨b0 + 1, 1, none⟩ (Value.slice none 0 0)).setCell ⟨b0 + 1, 2, none⟩ (Value.int .i64 0)) = V at *
    have y0 := XR2.out.cell 0
    have y1 := XR2.out.cell 1
    have y2 := XR2.out.cell 2
    simp at y0 y1 y2
    exact bodyPost_ret (v := .tuple #[.agg #[Value.slice none 0 0, Value.slice none 0 0, Value.int .i64 0], .int .i64 1]) (by simp [results, Tryz.results19, go_sem, y0, y1, y2]) rfl ⟨none, 0, none, 0, [], _, _, rfl, Sn2.zero _ _ _ B2.out.size, rfl, B2.out⟩
  | true =>
    rw [hv] at HSK
    rw [if_pos rfl]
    have HCB : Hid (n ≤ 20) := by show _ ≤ _; have := (ses_len hv).2; rw [List.length_map, HN.out] at this; exact this
    have HLT := kide (fun h1 => pop_last HN.out hv h1)
    clear hv
    have HCL : Hid ((xs.map Sg.ct).length = n) := by show _ = _; rw [List.length_map]; exact HN.out
    by_cases h1 : n = 1
    · rw [if_pos (by rw [HCL.out]; exact h1)]
      have hq1 : (n : Int) - 1 = 0 := by omega
      have H1 := kide h1
      clear h1 HLT
      go_enter Tryz.func19, Tryz.ntmps19
      go_wp2_with fail
      try simp only [hb0]
      clear hb0
      generalize ((w.alloc (Obj.cells #[Value.slice (some ⟨g1, o1, none⟩) dn dc, Value.slice (some ⟨g2, o2, none⟩) n sc, Value.int .i64 nx] 32)).alloc (Obj.cells #[Value.slice none 0 0, Value.slice none 0 0, Value.int .i64 0] 32)) = W at *
      refine Calls.mono (HSK.out _ B0.out) ?_
      rintro e w1 ⟨rfl, hb1⟩
      have B1 := kide (B0.out.trans (hb1.mono B0.out.size))
      have XB1 := kide (XB0.out.later hb1)
      have XR1 := kide (XR0.out.later hb1)
      clear hb1 XB0 XR0 B0
      have HL1 : Hid (b0 + 1 < w1.heap.size) := XR1.out.lt
      have x0 := XB1.out.cell 0
      have x1 := XB1.out.cell 1
      have x2 := XB1.out.cell 2
      simp at x0 x1 x2
      go_wp2_with fail
      clear x0 x1 x2
      refine Calls.mono (HCP.out dn n (Nat.le_refl _) (Nat.le_refl _) HCB.out _ B1.out) ?_
      rintro e w2 hret
      obtain ⟨a1, c1, a2, c2, l, p, M, rfl, sn, hct, hb2⟩ := hret.sn
      clear hret
      have HCT := kide hct
      have SN := kide (sn.wide (lo' := w1.heap.size) (Nat.le_refl _) (Nat.le_refl _))
      have B2 := kide (B1.out.trans (hb2.mono B1.out.size))
      have XR2 := kide (XR1.out.later hb2)
      clear sn hct hb2
      have r0 := XR2.out.cell 0
      have r1 := XR2.out.cell 1
      have r2 := XR2.out.cell 2
      have f0 := XR2.out.froz 0
      have f1 := XR2.out.froz 1
      have f2 := XR2.out.froz 2
      simp at r0 r1 r2
      go_wp2_with fail
      have XR4 : Hid (Bz (((w2.setCell ⟨b0 + 1, 0, none⟩ (Value.slice a1 dn c1)).setCell ⟨b0 + 1, 1, none⟩ (Value.slice a2 n c2)).setCell ⟨b0 + 1, 2, none⟩ (Value.int .i64 nx)) (b0 + 1) #[Value.slice a1 dn c1, Value.slice a2 n c2, Value.int .i64 nx] 32) := (((XR2.out.set 0 (Value.slice a1 dn c1)).set 1 (Value.slice a2 n c2)).set 2 (Value.int .i64 nx))
      have B4 : Hid (Below w.heap.size w (((w2.setCell ⟨b0 + 1, 0, none⟩ (Value.slice a1 dn c1)).setCell ⟨b0 + 1, 1, none⟩ (Value.slice a2 n c2)).setCell ⟨b0 + 1, 2, none⟩ (Value.int .i64 nx))) := (((B2.out.setCell (show _ ≤ b0 + 1 by have := HB0.out; omega) _).setCell (show _ ≤ b0 + 1 by have := HB0.out; omega) _).setCell (show _ ≤ b0 + 1 by have := HB0.out; omega) _)
      have SN4 : Hid (Sn2 w1.heap.size M w2.heap.size (Value.slice a1 dn c1) (Value.slice a2 n c2) (ds.take dn) l p (((w2.setCell ⟨b0 + 1, 0, none⟩ (Value.slice a1 dn c1)).setCell ⟨b0 + 1, 1, none⟩ (Value.slice a2 n c2)).setCell ⟨b0 + 1, 2, none⟩ (Value.int .i64 nx))) := (Sn2.out (Sn2.out (Sn2.out SN.out (Out.setc w2 (b0 + 1) 0 (Value.slice a1 dn c1)) (.inr HL1.out)) (Out.setc (w2.setCell ⟨b0 + 1, 0, none⟩ (Value.slice a1 dn c1)) (b0 + 1) 1 (Value.slice a2 n c2)) (.inr HL1.out)) (Out.setc ((w2.setCell ⟨b0 + 1, 0, none⟩ (Value.slice a1 dn c1)).setCell ⟨b0 + 1, 1, none⟩ (Value.slice a2 n c2)) (b0 + 1) 2 (Value.int .i64 nx)) (.inr HL1.out))
      have HZ4 : Hid (w2.heap.size ≤ (((w2.setCell ⟨b0 + 1, 0, none⟩ (Value.slice a1 dn c1)).setCell ⟨b0 + 1, 1, none⟩ (Value.slice a2 n c2)).setCell ⟨b0 + 1, 2, none⟩ (Value.int .i64 nx)).heap.size) := by show _ ≤ _; simp
      have HW1 : Hid (w.heap.size ≤ w1.heap.size) := by show _ ≤ _; have := HL1.out; have := HB0.out; omega
      clear r0 r1 r2 f0 f1 f2
      generalize (((w2.setCell ⟨b0 + 1, 0, none⟩ (Value.slice a1 dn c1)).setCell ⟨b0 + 1, 1, none⟩ (Value.slice a2 n c2)).setCell ⟨b0 + 1, 2, none⟩ (Value.int .i64 nx)) = V at *
      have y0 := XR4.out.cell 0
      have y1 := XR4.out.cell 1
      have y2 := XR4.out.cell 2
      simp at y0 y1 y2
      have SN5 := kide (SN4.out.wide HW1.out HZ4.out)
      refine bodyPost_ret (v := .tuple #[.agg #[Value.slice a1 dn c1, Value.slice a2 n c2, Value.int .i64 nx], .int .i64 8]) (by simp [results, Tryz.results19, go_sem, y0, y1, y2]) rfl ⟨a1, c1, a2, c2, l, p, M, ?_, ?_, ?_, B4.out⟩
      · simp only [HDN.out, HCL.out]
      · simp only [HDN.out, HCL.out]; rw [List.take_of_length_le (by rw [HDN.out]; exact Nat.le_refl _)] at SN5; exact SN5.out
      · show _ = xs.map Sg.ct; rw [HCT.out, List.take_of_length_le (by rw [HN.out]; exact Nat.le_refl _)]
    · rw [if_neg (by rw [HCL.out]; exact h1)]
      obtain ⟨q, k, x, hnq, gx, hxd, hkd, hsd, hsq, hn20⟩ := HLT.out h1
      rw [hsd, hsq]
      rw [HDN.out] at hkd
      have HKD := kide hkd
      have HRN : Hid (∀ u, Below w.heap.size w u → u.cell? ⟨g2, o2 + q * 2, none⟩ = some (.int .i64 (k : Int))) := fun u hu => by
        obtain ⟨b4, o4, e4, ⟨h4, -⟩, -⟩ := (HRS.out u hu).at gx
        cases e4
        rw [← hxd]
        exact h4
      have hq1 : (n : Int) - 1 = (q : Int) := by omega
      have i0 : ((q : Int) == 0) = false := by simp; omega
      have hkc : (k : Int) ≤ (dc : Int) := by omega
      have hqc : (q : Int) ≤ (sc : Int) := by omega
      have hqn : (q : Int) < (n : Int) := by omega
      have hkc' : k ≤ dc := by omega
      have hqc' : q ≤ sc := by omega
      have hq20 : q ≤ 20 := by omega
      have hwq : wrap64 (q : Int) = (q : Int) := by unfold wrap64; omega
      have HNQ := kide hnq
      clear h1 HLT gx hxd hsd hsq hkd hnq hn20
      go_enter Tryz.func19, Tryz.ntmps19
      go_wp2_with fail
      try simp only [hb0]
      clear hb0
      generalize ((w.alloc (Obj.cells #[Value.slice (some ⟨g1, o1, none⟩) dn dc, Value.slice (some ⟨g2, o2, none⟩) n sc, Value.int .i64 nx] 32)).alloc (Obj.cells #[Value.slice none 0 0, Value.slice none 0 0, Value.int .i64 0] 32)) = W at *
      refine Calls.mono (HSK.out _ B0.out) ?_
      rintro e w1 ⟨rfl, hb1⟩
      have B1 := kide (B0.out.trans (hb1.mono B0.out.size))
      have XB1 := kide (XB0.out.later hb1)
      have XR1 := kide (XR0.out.later hb1)
      clear hb1 XB0 XR0 B0
      have HL1 : Hid (b0 + 1 < w1.heap.size) := XR1.out.lt
      have x0 := XB1.out.cell 0
      have x1 := XB1.out.cell 1
      have x2 := XB1.out.cell 2
      simp at x0 x1 x2
      go_wp2_with fail
      try simp only [hq1]
      clear x0 x1 x2
      refine wp_region_x (SA := fun _ => False) (SB := fun uu => uu.cell? ⟨b0, 0, none⟩ = some (Value.slice (some ⟨g1, o1, none⟩) dn dc) ∧ uu.cell? ⟨b0, 1, none⟩ = some (Value.slice (some ⟨g2, o2, none⟩) n sc) ∧ uu.cell? ⟨b0, 2, none⟩ = some (Value.int .i64 nx) ∧ uu.cell? ⟨g2, o2 + q * 2, none⟩ = some (Value.int .i64 (k : Int))) (k := 999) (by kernel_rfl) ?_
      have hbd : Below w1.heap.size w1 w1.drew := (Below.refl _ _).drew
      have XB0' := kide (XB1.out.later hbd)
      have XR0' := kide (XR1.out.later hbd)
      have B0' := kide (B1.out.trans (hbd.mono B1.out.size))
      have HU0 : Hid (w1.heap.size ≤ w1.drew.heap.size) := hbd.size
      clear hbd XB1 XR1 B1
      generalize w1.drew = u0 at *
      have c0_0 : u0.cell? ⟨b0, 0, none⟩ = some (Value.slice (some ⟨g1, o1, none⟩) dn dc) := XB0'.out.cell 0
      have c1_0 : u0.cell? ⟨b0, 1, none⟩ = some (Value.slice (some ⟨g2, o2, none⟩) n sc) := XB0'.out.cell 1
      have c2_0 : u0.cell? ⟨b0, 2, none⟩ = some (Value.int .i64 nx) := XB0'.out.cell 2
      have c3_0 : u0.cell? ⟨g2, o2 + q * 2, none⟩ = some (Value.int .i64 (k : Int)) := HRN.out u0 B0'.out
      have hs0 : Hid ((fun uu => uu.cell? ⟨b0, 0, none⟩ = some (Value.slice (some ⟨g1, o1, none⟩) dn dc) ∧ uu.cell? ⟨b0, 1, none⟩ = some (Value.slice (some ⟨g2, o2, none⟩) n sc) ∧ uu.cell? ⟨b0, 2, none⟩ = some (Value.int .i64 nx) ∧ uu.cell? ⟨g2, o2 + q * 2, none⟩ = some (Value.int .i64 (k : Int))) u0) := ⟨c0_0, c1_0, c2_0, c3_0⟩
      try go_simp
      refine wpAnyX_both (T := (fun _ => True)) (i := 0) (v := Value.pointer (some ⟨b0, 0, none⟩)) rfl (by kernel_rfl) (by kernel_rfl) (by kernel_rfl) (fun _ _ _ h => by first | exact h | exact h.elim) (by decide) (fun _ _ => trivial) (fun _ _ => trivial) (Sx.behind (by kernel_rfl) hs0.out) (Or.inl ⟨by rfl, fun uu hu => by go_simp⟩) ?_
      try go_simp
      refine wpAnyX_both (T := (fun uu => uu.cell? ⟨b0, 0, none⟩ = some (Value.slice (some ⟨g1, o1, none⟩) dn dc) ∧ uu.cell? ⟨b0, 1, none⟩ = some (Value.slice (some ⟨g2, o2, none⟩) n sc) ∧ uu.cell? ⟨b0, 2, none⟩ = some (Value.int .i64 nx) ∧ uu.cell? ⟨g2, o2 + q * 2, none⟩ = some (Value.int .i64 (k : Int)))) (i := 1) (v := Value.slice (some ⟨g1, o1, none⟩) dn dc) rfl (by kernel_rfl) (by kernel_rfl) (by kernel_rfl) (fun _ _ _ h => by first | exact h | exact h.elim) (by decide) (fun _ h => h.elim) (fun _ h => h) (Sx.behind (by kernel_rfl) hs0.out) (Or.inl ⟨by rfl, fun uu hu => by obtain ⟨e0, e1, e2, e3⟩ := hu; go_simp⟩) ?_
      try go_simp
      refine wpAnyX_both (T := (fun _ => True)) (i := 2) (v := Value.pointer (some ⟨b0, 1, none⟩)) rfl (by kernel_rfl) (by kernel_rfl) (by kernel_rfl) (fun _ _ _ h => by first | exact h | exact h.elim) (by decide) (fun _ _ => trivial) (fun _ _ => trivial) (Sx.behind (by kernel_rfl) hs0.out) (Or.inl ⟨by rfl, fun uu hu => by go_simp⟩) ?_
      try go_simp
      refine wpAnyX_both (T := (fun uu => uu.cell? ⟨b0, 0, none⟩ = some (Value.slice (some ⟨g1, o1, none⟩) dn dc) ∧ uu.cell? ⟨b0, 1, none⟩ = some (Value.slice (some ⟨g2, o2, none⟩) n sc) ∧ uu.cell? ⟨b0, 2, none⟩ = some (Value.int .i64 nx) ∧ uu.cell? ⟨g2, o2 + q * 2, none⟩ = some (Value.int .i64 (k : Int)))) (i := 3) (v := Value.slice (some ⟨g2, o2, none⟩) n sc) rfl (by kernel_rfl) (by kernel_rfl) (by kernel_rfl) (fun _ _ _ h => by first | exact h | exact h.elim) (by decide) (fun _ h => h.elim) (fun _ h => h) (Sx.behind (by kernel_rfl) hs0.out) (Or.inl ⟨by rfl, fun uu hu => by obtain ⟨e0, e1, e2, e3⟩ := hu; go_simp⟩) ?_
      try go_simp
      refine wpAnyX_both (T := (fun _ => True)) (i := 4) (v := Value.int .i64 (q : Int)) rfl (by kernel_rfl) (by kernel_rfl) (by kernel_rfl) (fun _ _ _ h => by first | exact h | exact h.elim) (by decide) (fun _ _ => trivial) (fun _ _ => trivial) (Sx.behind (by kernel_rfl) hs0.out) (Or.inl ⟨by rfl, fun uu hu => by go_simp⟩) ?_
      try go_simp
      refine wpAnyX_both (T := (fun _ => True)) (i := 5) (v := Value.pointer (some ⟨g2, o2 + q * 2, none⟩)) rfl (by kernel_rfl) (by kernel_rfl) (by kernel_rfl) (fun _ _ _ h => by first | exact h | exact h.elim) (by decide) (fun _ _ => trivial) (fun _ _ => trivial) (Sx.behind (by kernel_rfl) hs0.out) (Or.inl ⟨by rfl, fun uu hu => by go_simp⟩) ?_
      try go_simp
      refine wpAnyX_both (T := (fun _ => True)) (i := 6) (v := Value.pointer (some ⟨g2, o2 + q * 2, none⟩)) rfl (by kernel_rfl) (by kernel_rfl) (by kernel_rfl) (fun _ _ _ h => by first | exact h | exact h.elim) (by decide) (fun _ _ => trivial) (fun _ _ => trivial) (Sx.behind (by kernel_rfl) hs0.out) (Or.inl ⟨by rfl, fun uu hu => by go_simp⟩) ?_
      try go_simp
      refine wpAnyX_both (T := (fun uu => uu.cell? ⟨b0, 0, none⟩ = some (Value.slice (some ⟨g1, o1, none⟩) dn dc) ∧ uu.cell? ⟨b0, 1, none⟩ = some (Value.slice (some ⟨g2, o2, none⟩) n sc) ∧ uu.cell? ⟨b0, 2, none⟩ = some (Value.int .i64 nx) ∧ uu.cell? ⟨g2, o2 + q * 2, none⟩ = some (Value.int .i64 (k : Int)))) (i := 7) (v := Value.int .i64 (k : Int)) rfl (by kernel_rfl) (by kernel_rfl) (by kernel_rfl) (fun _ _ _ h => by first | exact h | exact h.elim) (by decide) (fun _ h => h.elim) (fun _ h => h) (Sx.behind (by kernel_rfl) hs0.out) (Or.inl ⟨by rfl, fun uu hu => by obtain ⟨e0, e1, e2, e3⟩ := hu; go_simp⟩) ?_
      try go_simp
      refine wpAnyX_both (T := (fun _ => True)) (i := 8) (v := Value.slice (some ⟨g1, o1, none⟩) k dc) rfl (by kernel_rfl) (by kernel_rfl) (by kernel_rfl) (fun _ _ _ h => by first | exact h | exact h.elim) (by decide) (fun _ _ => trivial) (fun _ _ => trivial) (Sx.behind (by kernel_rfl) hs0.out) (Or.inl ⟨by rfl, fun uu hu => by go_simp⟩) ?_
      try go_simp
      refine wpAnyX_both (T := (fun _ => True)) (i := 9) (v := Value.pointer (some ⟨b0, 1, none⟩)) rfl (by kernel_rfl) (by kernel_rfl) (by kernel_rfl) (fun _ _ _ h => by first | exact h | exact h.elim) (by decide) (fun _ _ => trivial) (fun _ _ => trivial) (Sx.behind (by kernel_rfl) hs0.out) (Or.inl ⟨by rfl, fun uu hu => by go_simp⟩) ?_
      try go_simp
      refine wpAnyX_both (T := (fun uu => uu.cell? ⟨b0, 0, none⟩ = some (Value.slice (some ⟨g1, o1, none⟩) dn dc) ∧ uu.cell? ⟨b0, 1, none⟩ = some (Value.slice (some ⟨g2, o2, none⟩) n sc) ∧ uu.cell? ⟨b0, 2, none⟩ = some (Value.int .i64 nx) ∧ uu.cell? ⟨g2, o2 + q * 2, none⟩ = some (Value.int .i64 (k : Int)))) (i := 10) (v := Value.slice (some ⟨g2, o2, none⟩) n sc) rfl (by kernel_rfl) (by kernel_rfl) (by kernel_rfl) (fun _ _ _ h => by first | exact h | exact h.elim) (by decide) (fun _ h => h.elim) (fun _ h => h) (Sx.behind (by kernel_rfl) hs0.out) (Or.inl ⟨by rfl, fun uu hu => by obtain ⟨e0, e1, e2, e3⟩ := hu; go_simp⟩) ?_
      try go_simp
      refine wpAnyX_both (T := (fun _ => True)) (i := 11) (v := Value.int .i64 (q : Int)) rfl (by kernel_rfl) (by kernel_rfl) (by kernel_rfl) (fun _ _ _ h => by first | exact h | exact h.elim) (by decide) (fun _ _ => trivial) (fun _ _ => trivial) (Sx.behind (by kernel_rfl) hs0.out) (Or.inl ⟨by rfl, fun uu hu => by go_simp⟩) ?_
      try go_simp
      refine wpAnyX_both (T := (fun _ => True)) (i := 12) (v := Value.slice (some ⟨g2, o2, none⟩) q sc) rfl (by kernel_rfl) (by kernel_rfl) (by kernel_rfl) (fun _ _ _ h => by first | exact h | exact h.elim) (by decide) (fun _ _ => trivial) (fun _ _ => trivial) (Sx.behind (by kernel_rfl) hs0.out) (Or.inl ⟨by rfl, fun uu hu => by go_simp⟩) ?_
      try go_simp
      refine wpAnyX_both (T := (fun _ => True)) (i := 13) (v := Value.pointer (some ⟨b0, 2, none⟩)) rfl (by kernel_rfl) (by kernel_rfl) (by kernel_rfl) (fun _ _ _ h => by first | exact h | exact h.elim) (by decide) (fun _ _ => trivial) (fun _ _ => trivial) (Sx.behind (by kernel_rfl) hs0.out) (Or.inl ⟨by rfl, fun uu hu => by go_simp⟩) ?_
      try go_simp
      refine wpAnyX_both (T := (fun uu => uu.cell? ⟨b0, 0, none⟩ = some (Value.slice (some ⟨g1, o1, none⟩) dn dc) ∧ uu.cell? ⟨b0, 1, none⟩ = some (Value.slice (some ⟨g2, o2, none⟩) n sc) ∧ uu.cell? ⟨b0, 2, none⟩ = some (Value.int .i64 nx) ∧ uu.cell? ⟨g2, o2 + q * 2, none⟩ = some (Value.int .i64 (k : Int)))) (i := 14) (v := Value.int .i64 nx) rfl (by kernel_rfl) (by kernel_rfl) (by kernel_rfl) (fun _ _ _ h => by first | exact h | exact h.elim) (by decide) (fun _ h => h.elim) (fun _ h => h) (Sx.behind (by kernel_rfl) hs0.out) (Or.inl ⟨by rfl, fun uu hu => by obtain ⟨e0, e1, e2, e3⟩ := hu; go_simp⟩) ?_
      try go_simp
      refine wpAnyX_both (T := (fun _ => True)) (i := 15) (v := Value.agg #[Value.slice (some ⟨g1, o1, none⟩) k dc, Value.slice (some ⟨g2, o2, none⟩) q sc, Value.int .i64 nx]) rfl (by kernel_rfl) (by kernel_rfl) (by kernel_rfl) (fun _ _ _ h => by first | exact h | exact h.elim) (by decide) (fun _ _ => trivial) (fun _ _ => trivial) (Sx.behind (by kernel_rfl) hs0.out) (Or.inl ⟨by rfl, fun uu hu => by go_simp⟩) ?_
      try go_simp
      refine wpAnyX_ready (rs := [16]) (by kernel_rfl) (by simp) (AllX.cons rfl (fun K hK => ?_) AllX.nil)
      go_simp
      have hbx : Below u0.heap.size u0 (u0.alloc (Obj.cells #[Value.slice none 0 0, Value.slice none 0 0, Value.int .i64 0] 32)) := (Below.refl _ _).alloc (Nat.le_refl _) _
      have B1' := kide (B0'.out.trans (hbx.mono B0'.out.size))
      have XB1' := kide (XB0'.out.later hbx)
      have XR1' := kide (XR0'.out.later hbx)
      have PB1 : Hid (Bz (u0.alloc (Obj.cells #[Value.slice none 0 0, Value.slice none 0 0, Value.int .i64 0] 32)) u0.heap.size #[Value.slice none 0 0, Value.slice none 0 0, Value.int .i64 0] 32) := Bz.new _ _ _
      have HP1 : Hid (w1.heap.size ≤ u0.heap.size) := HU0.out
      have HU1 : Hid (w1.heap.size ≤ (u0.alloc (Obj.cells #[Value.slice none 0 0, Value.slice none 0 0, Value.int .i64 0] 32)).heap.size) := Nat.le_trans HU0.out hbx.size
      clear hbx
      generalize hqp : u0.heap.size = pb at *
      generalize u0.alloc (Obj.cells #[Value.slice none 0 0, Value.slice none 0 0, Value.int .i64 0] 32) = u1 at *
      clear hqp
      have c0_1 : u1.cell? ⟨b0, 0, none⟩ = some (Value.slice (some ⟨g1, o1, none⟩) dn dc) := XB1'.out.cell 0
      have c1_1 : u1.cell? ⟨b0, 1, none⟩ = some (Value.slice (some ⟨g2, o2, none⟩) n sc) := XB1'.out.cell 1
      have c2_1 : u1.cell? ⟨b0, 2, none⟩ = some (Value.int .i64 nx) := XB1'.out.cell 2
      have c3_1 : u1.cell? ⟨g2, o2 + q * 2, none⟩ = some (Value.int .i64 (k : Int)) := HRN.out u1 B1'.out
      have hs1 : Hid ((fun uu => uu.cell? ⟨b0, 0, none⟩ = some (Value.slice (some ⟨g1, o1, none⟩) dn dc) ∧ uu.cell? ⟨b0, 1, none⟩ = some (Value.slice (some ⟨g2, o2, none⟩) n sc) ∧ uu.cell? ⟨b0, 2, none⟩ = some (Value.int .i64 nx) ∧ uu.cell? ⟨g2, o2 + q * 2, none⟩ = some (Value.int .i64 (k : Int))) u1) := ⟨c0_1, c1_1, c2_1, c3_1⟩
      refine hK _ _ (Sx.behind (by kernel_rfl) hs1.out) ?_
      clear hK K
      try go_simp
      refine wpAnyX_ready (rs := [17]) (by kernel_rfl) (by simp) (AllX.cons rfl (fun K hK => ?_) AllX.nil)
      have e0 := PB1.out.cell 0
      have f0 := PB1.out.froz 0
      have e1 := PB1.out.cell 1
      have f1 := PB1.out.froz 1
      have e2 := PB1.out.cell 2
      have f2 := PB1.out.froz 2
      simp at e0 e1 e2
      go_simp
      have PB2 : Hid (Bz (((u1.setCell ⟨pb, 0, none⟩ (Value.slice (some ⟨g1, o1, none⟩) k dc)).setCell ⟨pb, 1, none⟩ (Value.slice (some ⟨g2, o2, none⟩) q sc)).setCell ⟨pb, 2, none⟩ (Value.int .i64 nx)) pb #[Value.slice (some ⟨g1, o1, none⟩) k dc, Value.slice (some ⟨g2, o2, none⟩) q sc, Value.int .i64 nx] 32) := (((PB1.out.set 0 (Value.slice (some ⟨g1, o1, none⟩) k dc)).set 1 (Value.slice (some ⟨g2, o2, none⟩) q sc)).set 2 (Value.int .i64 nx))
      have B2' : Hid (Below w.heap.size w (((u1.setCell ⟨pb, 0, none⟩ (Value.slice (some ⟨g1, o1, none⟩) k dc)).setCell ⟨pb, 1, none⟩ (Value.slice (some ⟨g2, o2, none⟩) q sc)).setCell ⟨pb, 2, none⟩ (Value.int .i64 nx))) := (((B1'.out.setCell (show _ ≤ pb by have := HP1.out; have := HL1.out; have := HB0.out; omega) _).setCell (show _ ≤ pb by have := HP1.out; have := HL1.out; have := HB0.out; omega) _).setCell (show _ ≤ pb by have := HP1.out; have := HL1.out; have := HB0.out; omega) _)
      have XB2' : Hid (Bz (((u1.setCell ⟨pb, 0, none⟩ (Value.slice (some ⟨g1, o1, none⟩) k dc)).setCell ⟨pb, 1, none⟩ (Value.slice (some ⟨g2, o2, none⟩) q sc)).setCell ⟨pb, 2, none⟩ (Value.int .i64 nx)) b0 #[Value.slice (some ⟨g1, o1, none⟩) dn dc, Value.slice (some ⟨g2, o2, none⟩) n sc, Value.int .i64 nx] 32) := (((XB1'.out.other (by have := HP1.out; have := HL1.out; omega) 0 _).other (by have := HP1.out; have := HL1.out; omega) 1 _).other (by have := HP1.out; have := HL1.out; omega) 2 _)
      have XR2' : Hid (Bz (((u1.setCell ⟨pb, 0, none⟩ (Value.slice (some ⟨g1, o1, none⟩) k dc)).setCell ⟨pb, 1, none⟩ (Value.slice (some ⟨g2, o2, none⟩) q sc)).setCell ⟨pb, 2, none⟩ (Value.int .i64 nx)) (b0 + 1) #[Value.slice none 0 0, Value.slice none 0 0, Value.int .i64 0] 32) := (((XR1'.out.other (by have := HP1.out; have := HL1.out; omega) 0 _).other (by have := HP1.out; have := HL1.out; omega) 1 _).other (by have := HP1.out; have := HL1.out; omega) 2 _)
      have HU2 : Hid (w1.heap.size ≤ (((u1.setCell ⟨pb, 0, none⟩ (Value.slice (some ⟨g1, o1, none⟩) k dc)).setCell ⟨pb, 1, none⟩ (Value.slice (some ⟨g2, o2, none⟩) q sc)).setCell ⟨pb, 2, none⟩ (Value.int .i64 nx)).heap.size) := by show _ ≤ _; simp; exact HU1.out
      clear e0 e1 e2 f0 f1 f2
      generalize (((u1.setCell ⟨pb, 0, none⟩ (Value.slice (some ⟨g1, o1, none⟩) k dc)).setCell ⟨pb, 1, none⟩ (Value.slice (some ⟨g2, o2, none⟩) q sc)).setCell ⟨pb, 2, none⟩ (Value.int .i64 nx)) = u2 at *
      have c0_2 : u2.cell? ⟨b0, 0, none⟩ = some (Value.slice (some ⟨g1, o1, none⟩) dn dc) := XB2'.out.cell 0
      have c1_2 : u2.cell? ⟨b0, 1, none⟩ = some (Value.slice (some ⟨g2, o2, none⟩) n sc) := XB2'.out.cell 1
      have c2_2 : u2.cell? ⟨b0, 2, none⟩ = some (Value.int .i64 nx) := XB2'.out.cell 2
      have c3_2 : u2.cell? ⟨g2, o2 + q * 2, none⟩ = some (Value.int .i64 (k : Int)) := HRN.out u2 B2'.out
      have hs2 : Hid ((fun uu => uu.cell? ⟨b0, 0, none⟩ = some (Value.slice (some ⟨g1, o1, none⟩) dn dc) ∧ uu.cell? ⟨b0, 1, none⟩ = some (Value.slice (some ⟨g2, o2, none⟩) n sc) ∧ uu.cell? ⟨b0, 2, none⟩ = some (Value.int .i64 nx) ∧ uu.cell? ⟨g2, o2 + q * 2, none⟩ = some (Value.int .i64 (k : Int))) u2) := ⟨c0_2, c1_2, c2_2, c3_2⟩
      refine hK _ _ (Sx.behind (by kernel_rfl) hs2.out) ?_
      clear hK K
      try go_simp
      refine wpAnyX_done (by kernel_rfl) ?_ _
      have z0 := PB2.out.cell 0
      have z1 := PB2.out.cell 1
      have z2 := PB2.out.cell 2
      simp at z0 z1 z2
      go_wp2_with fail
      clear z0 z1 z2
      have B5 := kide B2'.out
      have XR5 := kide XR2'.out
      refine Calls.mono (HCP.out k q HKD.out (by have := HNQ.out; omega) (by have := HNQ.out; have := HCB.out; omega) _ B5.out) ?_
      rintro e w2 hret
      obtain ⟨a1, c1, a2, c2, l, p, M, rfl, sn, hct, hb2⟩ := hret.sn
      clear hret
      have HCT := kide hct
      have SN := kide (sn.wide (lo' := w1.heap.size) HU2.out (Nat.le_refl _))
      have B2 := kide (B5.out.trans (hb2.mono B5.out.size))
      have XR2 := kide (XR5.out.later hb2)
      clear sn hct hb2
      have r0 := XR2.out.cell 0
      have r1 := XR2.out.cell 1
      have r2 := XR2.out.cell 2
      have f0 := XR2.out.froz 0
      have f1 := XR2.out.froz 1
      have f2 := XR2.out.froz 2
      simp at r0 r1 r2
      go_wp2_with fail
      have XR4 : Hid (Bz (((w2.setCell ⟨b0 + 1, 0, none⟩ (Value.slice a1 k c1)).setCell ⟨b0 + 1, 1, none⟩ (Value.slice a2 q c2)).setCell ⟨b0 + 1, 2, none⟩ (Value.int .i64 nx)) (b0 + 1) #[Value.slice a1 k c1, Value.slice a2 q c2, Value.int .i64 nx] 32) := (((XR2.out.set 0 (Value.slice a1 k c1)).set 1 (Value.slice a2 q c2)).set 2 (Value.int .i64 nx))
      have B4 : Hid (Below w.heap.size w (((w2.setCell ⟨b0 + 1, 0, none⟩ (Value.slice a1 k c1)).setCell ⟨b0 + 1, 1, none⟩ (Value.slice a2 q c2)).setCell ⟨b0 + 1, 2, none⟩ (Value.int .i64 nx))) := (((B2.out.setCell (show _ ≤ b0 + 1 by have := HB0.out; omega) _).setCell (show _ ≤ b0 + 1 by have := HB0.out; omega) _).setCell (show _ ≤ b0 + 1 by have := HB0.out; omega) _)
      have SN4 : Hid (Sn2 w1.heap.size M w2.heap.size (Value.slice a1 k c1) (Value.slice a2 q c2) (ds.take k) l p (((w2.setCell ⟨b0 + 1, 0, none⟩ (Value.slice a1 k c1)).setCell ⟨b0 + 1, 1, none⟩ (Value.slice a2 q c2)).setCell ⟨b0 + 1, 2, none⟩ (Value.int .i64 nx))) := (Sn2.out (Sn2.out (Sn2.out SN.out (Out.setc w2 (b0 + 1) 0 (Value.slice a1 k c1)) (.inr HL1.out)) (Out.setc (w2.setCell ⟨b0 + 1, 0, none⟩ (Value.slice a1 k c1)) (b0 + 1) 1 (Value.slice a2 q c2)) (.inr HL1.out)) (Out.setc ((w2.setCell ⟨b0 + 1, 0, none⟩ (Value.slice a1 k c1)).setCell ⟨b0 + 1, 1, none⟩ (Value.slice a2 q c2)) (b0 + 1) 2 (Value.int .i64 nx)) (.inr HL1.out))
      have HZ4 : Hid (w2.heap.size ≤ (((w2.setCell ⟨b0 + 1, 0, none⟩ (Value.slice a1 k c1)).setCell ⟨b0 + 1, 1, none⟩ (Value.slice a2 q c2)).setCell ⟨b0 + 1, 2, none⟩ (Value.int .i64 nx)).heap.size) := by show _ ≤ _; simp
      have HW1 : Hid (w.heap.size ≤ w1.heap.size) := by show _ ≤ _; have := HL1.out; have := HB0.out; omega
      clear r0 r1 r2 f0 f1 f2
      generalize (((w2.setCell ⟨b0 + 1, 0, none⟩ (Value.slice a1 k c1)).setCell ⟨b0 + 1, 1, none⟩ (Value.slice a2 q c2)).setCell ⟨b0 + 1, 2, none⟩ (Value.int .i64 nx)) = V at *
      have y0 := XR4.out.cell 0
      have y1 := XR4.out.cell 1
      have y2 := XR4.out.cell 2
      simp at y0 y1 y2
      have SN5 := kide (SN4.out.wide HW1.out HZ4.out)
      refine bodyPost_ret (v := .tuple #[.agg #[Value.slice a1 k c1, Value.slice a2 q c2, Value.int .i64 nx], .int .i64 0]) (by simp [results, Tryz.results19, go_sem, y0, y1, y2]) rfl ⟨a1, c1, a2, c2, l, p, M, ?_, ?_, ?_, B4.out⟩
      · simp only [List.length_take, HDN.out, HCL.out] ; rw [Nat.min_eq_left HKD.out, Nat.min_eq_left (by have := HNQ.out; omega)]
      · simp only [List.length_take, HDN.out, HCL.out] ; rw [Nat.min_eq_left HKD.out, Nat.min_eq_left (by have := HNQ.out; omega)]; exact SN5.out
      · show _ = (xs.map Sg.ct).take _; rw [HCT.out, List.map_take]

end Go.Proofs.YthgamfklfjjdoaaGreatDoor
