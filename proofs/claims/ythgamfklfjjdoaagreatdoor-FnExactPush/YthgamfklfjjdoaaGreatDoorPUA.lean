/- Push: on both sides. -/
import Derived.Test.YthgamfklfjjdoaaGreatDoorKSA
namespace Go.Proofs.YthgamfklfjjdoaaGreatDoor
set_option linter.unusedVariables false
set_option linter.unusedSimpArgs false
open Go.RowKit

/-- A session's content, and a code. -/
structure Rv where
  ds : List Dc
  cs : List Sc
  nx : Int
  code : Int
def RetP (R : Rv) (w : World) (e : Ending) (w' : World) : Prop := ∃ a1 c1 a2 c2 l p M, e = .returned (.tuple #[.agg #[.slice a1 R.ds.length c1, .slice a2 R.cs.length c2, .int .i64 R.nx], .int .i64 R.code]) ∧ Sn2 w.heap.size M w'.heap.size (.slice a1 R.ds.length c1) (.slice a2 R.cs.length c2) R.ds l p w' ∧ l.map Sg.ct = R.cs ∧ Below w.heap.size w w'
def zeSR : Rv := ⟨[], [], 0, 1⟩
def pushR (ds : List Dc) (cs : List Sc) (nx : Int) : Rv := if sesR ds cs nx = true then (if cs.length = 20 then ⟨ds, cs, nx, 5⟩ else ⟨ds, cs ++ [⟨ds.length, []⟩], nx, 0⟩) else zeSR
theorem ses_len {ds : List Dc} {cs : List Sc} {nx : Int} (h : sesR ds cs nx = true) : 1 ≤ cs.length ∧ cs.length ≤ 20 := by
  unfold sesR scpR at h
  simp only [Bool.and_eq_true, decide_eq_true_eq] at h
  exact h.1.1.1.1.2.1.1
theorem Sn2.wide {lo lo' M hi hi' : Nat} {v1 v2 : Value} {ds : List Dc} {l : List Sg} {p : Nat → Nat × Nat} {w : World} (h : Sn2 lo M hi v1 v2 ds l p w) (hl : lo' ≤ lo) (hh : hi ≤ hi') : Sn2 lo' M hi' v1 v2 ds l p w :=
  ⟨Nat.le_trans hl h.le, Nat.le_trans h.le2 hh, h.dec.low hl, h.decb, h.scp.mono hh (Nat.le_refl _)⟩
theorem Zn.set_other {lo hi β : Nat} {v : Value} {l : List Sg} {p : Nat → Nat × Nat} {w : World} {cs : Array Value} {t : TypeId} (h : Zn lo hi v l p w) (hb : Bz w β cs t) (ht : t ≠ 60) (hp : ∀ i x, l[i]? = some x → β < (p i).1 ∨ (p i).2 ≤ β) (o : Nat) (u : Value) : Zn lo hi v l p (w.setCell ⟨β, o, none⟩ u) :=
  ⟨h.row.move fun b hb' => heap_setCell_other _ _ _ _ (fun e => by
    simp only [] at e
    subst e
    rcases h.row.2 with ⟨rfl, -⟩ | ⟨g, cap, cur, rfl, hg, hh, -⟩
    · cases hb'
    · cases hb'
      unfold Bz at hb
      rw [hb] at hh
      cases hh
      exact ht rfl), h.rb, fun i x hx => by
    obtain ⟨q1, q2, q3, q4, q5⟩ := h.each i x hx
    exact ⟨q1, q2, q3, q4.out (Out.setc w β o u) (by have := hp i x hx; omega), q5⟩, h.dis⟩
theorem Zn.bz {lo hi b : Nat} {v : Value} {l : List Sg} {p : Nat → Nat × Nat} {w w' w0 : World} {cs : Array Value} {t : TypeId} (h : Zn lo hi v l p w0) (hb : Bz w b cs t) (hg : w.grownBy w' v.ownBlock) (hd : b < lo ∨ hi ≤ b) : Bz w' b cs t :=
  (hg.block b hb.lt (fun e => by have := (h.row.lt e.symm).1; have := h.rb _ e.symm; omega)).trans hb
theorem Ln.none (w : World) (lo hi : Nat) : Ln lo hi (.slice none 0 0) [] (fun _ => (0, 0)) w := Ln.nil _ _ _

set_option maxHeartbeats 2000000 in
set_option maxRecDepth 100000 in
theorem implPush_any (g1 o1 g2 o2 dn dc n sc : Nat) (nx : Int) (ds : List Dc) (xs : List Sg) (w : World) (hd : RdD w (some ⟨g1, o1, none⟩) ds) (hdn : ds.length = dn) (hs : RdS w (some ⟨g2, o2, none⟩) xs) (hn : xs.length = n) (hS : SnS xs)
    (HSK : Hid (∀ u, Below w.heap.size w u → Calls Tryz.prog 26 #[.agg #[Value.slice (some ⟨g1, o1, none⟩) dn dc, Value.slice (some ⟨g2, o2, none⟩) n sc, Value.int .i64 nx]] u fun e w' => e = .returned (.bool (sesR ds (xs.map Sg.ct) nx)) ∧ Below u.heap.size u w')) :
    Calls Tryz.prog 16 #[.agg #[Value.slice (some ⟨g1, o1, none⟩) dn dc, Value.slice (some ⟨g2, o2, none⟩) n sc, Value.int .i64 nx]] w (RetP (pushR ds (xs.map Sg.ct) nx) w) := by
  obtain ⟨b0, hb0⟩ : ∃ b0, w.heap.size = b0 := ⟨_, rfl⟩
  have hb2 : Below w.heap.size w ((w.alloc (Obj.cells #[Value.slice (some ⟨g1, o1, none⟩) dn dc, Value.slice (some ⟨g2, o2, none⟩) n sc, Value.int .i64 nx] 32)).alloc (Obj.cells #[Value.slice none 0 0, Value.slice none 0 0, Value.int .i64 0] 32)) := ((Below.refl _ _).alloc (Nat.le_refl _) _).alloc (by simp) _
  have B0 := kide hb2
  have XB0 : Hid (Bz ((w.alloc (Obj.cells #[Value.slice (some ⟨g1, o1, none⟩) dn dc, Value.slice (some ⟨g2, o2, none⟩) n sc, Value.int .i64 nx] 32)).alloc (Obj.cells #[Value.slice none 0 0, Value.slice none 0 0, Value.int .i64 0] 32)) b0 #[Value.slice (some ⟨g1, o1, none⟩) dn dc, Value.slice (some ⟨g2, o2, none⟩) n sc, Value.int .i64 nx] 32) := by rw [← hb0]; exact (Bz.new w #[Value.slice (some ⟨g1, o1, none⟩) dn dc, Value.slice (some ⟨g2, o2, none⟩) n sc, Value.int .i64 nx] (32)).later ((Below.refl _ _).alloc (Nat.le_refl _) _)
  have XR0 : Hid (Bz ((w.alloc (Obj.cells #[Value.slice (some ⟨g1, o1, none⟩) dn dc, Value.slice (some ⟨g2, o2, none⟩) n sc, Value.int .i64 nx] 32)).alloc (Obj.cells #[Value.slice none 0 0, Value.slice none 0 0, Value.int .i64 0] 32)) (b0 + 1) #[Value.slice none 0 0, Value.slice none 0 0, Value.int .i64 0] 32) := by have h := Bz.new (w.alloc (Obj.cells #[Value.slice (some ⟨g1, o1, none⟩) dn dc, Value.slice (some ⟨g2, o2, none⟩) n sc, Value.int .i64 nx] 32)) #[Value.slice none 0 0, Value.slice none 0 0, Value.int .i64 0] (32); rw [show (w.alloc (Obj.cells #[Value.slice (some ⟨g1, o1, none⟩) dn dc, Value.slice (some ⟨g2, o2, none⟩) n sc, Value.int .i64 nx] 32)).heap.size = b0 + 1 by simp [hb0]] at h; exact h
  have HB0 := kide hb0
  have HCP : Hid (sesR ds (xs.map Sg.ct) nx = true → ∀ u, Below w.heap.size w u → Calls Tryz.prog 37 #[.agg #[Value.slice (some ⟨g1, o1, none⟩) dn dc, Value.slice (some ⟨g2, o2, none⟩) n sc, Value.int .i64 nx]] u (RetCs ds (xs.map Sg.ct) dn n nx u)) := fun h u hu => copySes_any g1 o1 _ dn dc n sc nx ds xs u (hd.later hu) hdn (hs.later hu) hn (by have := (ses_len h).2; rw [List.length_map, hn] at this; omega) hS
  have HDN := kide hdn
  have HN := kide hn
  have hdl : dn ≤ 1048576 := by rw [← hdn]; exact hd.1
  clear hd hdn hs hn hS hb2
  unfold pushR
  cases hv : sesR ds (xs.map Sg.ct) nx with
  | false =>
    rw [hv] at HSK
    rw [if_neg (by simp)]
    clear hv HCP
    go_enter Tryz.func16, Tryz.ntmps16
    go_wp2_with fail
    try simp only [hb0]
    clear hb0
    generalize ((w.alloc (Obj.cells #[Value.slice (some ⟨g1, o1, none⟩) dn dc, Value.slice (some ⟨g2, o2, none⟩) n sc, Value.int .i64 nx] 32)).alloc (Obj.cells #[Value.slice none 0 0, Value.slice none 0 0, Value.int .i64 0] 32)) = W at *
    refine Calls.mono (HSK.out _ B0.out) ?_
    rintro e w1 ⟨rfl, hb1⟩
    have B1 := kide (B0.out.trans (hb1.mono B0.out.size))
    have XR1 := kide (XR0.out.later hb1)
    clear hb1
    have r0 := XR1.out.cell 0
    have r1 := XR1.out.cell 1
    have r2 := XR1.out.cell 2
    have f0 := XR1.out.froz 0
    have f1 := XR1.out.froz 1
    have f2 := XR1.out.froz 2
    simp at r0 r1 r2
    go_wp2_with fail
    have XR2 : Hid (Bz (((w1.setCell ⟨b0 + 1, 0, none⟩ (Value.slice none 0 0)).setCell ⟨b0 + 1, 1, none⟩ (Value.slice none 0 0)).setCell ⟨b0 + 1, 2, none⟩ (Value.int .i64 0)) (b0 + 1) #[Value.slice none 0 0, Value.slice none 0 0, Value.int .i64 0] 32) := (((XR1.out.set 0 (Value.slice none 0 0)).set 1 (Value.slice none 0 0)).set 2 (Value.int .i64 0))
    have B2 : Hid (Below w.heap.size w (((w1.setCell ⟨b0 + 1, 0, none⟩ (Value.slice none 0 0)).setCell ⟨b0 + 1, 1, none⟩ (Value.slice none 0 0)).setCell ⟨b0 + 1, 2, none⟩ (Value.int .i64 0))) := (((B1.out.setCell (show _ ≤ b0 + 1 by have := HB0.out; omega) _).setCell (show _ ≤ b0 + 1 by have := HB0.out; omega) _).setCell (show _ ≤ b0 + 1 by have := HB0.out; omega) _)
    clear r0 r1 r2 f0 f1 f2
    generalize (((w1.setCell ⟨b0 + 1, 0, none⟩ (Value.slice none 0 0)).setCell ⟨b0 + 1, 1, none⟩ (Value.slice none 0 0)).setCell ⟨b0 + 1, 2, none⟩ (Value.int .i64 0)) = V at *
    have y0 := XR2.out.cell 0
    have y1 := XR2.out.cell 1
    have y2 := XR2.out.cell 2
    simp at y0 y1 y2
    exact bodyPost_ret (v := .tuple #[.agg #[Value.slice none 0 0, Value.slice none 0 0, Value.int .i64 0], .int .i64 1]) (by simp [results, Tryz.results16, go_sem, y0, y1, y2]) rfl ⟨none, 0, none, 0, [], _, _, rfl, Sn2.zero _ _ _ B2.out.size, rfl, B2.out⟩
  | true =>
    rw [hv] at HSK
    rw [if_pos rfl]
    have HC2 := kide (HCP.out hv)
    have HCB : Hid (n ≤ 20) := by show _ ≤ _; have := (ses_len hv).2; rw [List.length_map, HN.out] at this; exact this
    clear hv HCP
    have HCL : Hid ((xs.map Sg.ct).length = n) := by show _ = _; rw [List.length_map]; exact HN.out
    by_cases h20 : n = 20
    · rw [if_pos (by rw [HCL.out]; exact h20)]
      have H20 := kide h20
      clear h20
      go_enter Tryz.func16, Tryz.ntmps16
      go_wp2_with fail
      try simp only [hb0]
      clear hb0
      generalize ((w.alloc (Obj.cells #[Value.slice (some ⟨g1, o1, none⟩) dn dc, Value.slice (some ⟨g2, o2, none⟩) n sc, Value.int .i64 nx] 32)).alloc (Obj.cells #[Value.slice none 0 0, Value.slice none 0 0, Value.int .i64 0] 32)) = W at *
      refine Calls.mono (HSK.out _ B0.out) ?_
      rintro e w1 ⟨rfl, hb1⟩
      have B1 := kide (B0.out.trans (hb1.mono B0.out.size))
      have XB1 := kide (XB0.out.later hb1)
      have XR1 := kide (XR0.out.later hb1)
      clear hb1 XB0 XR0 B0
      have x0 := XB1.out.cell 0
      have x1 := XB1.out.cell 1
      have x2 := XB1.out.cell 2
      simp at x0 x1 x2
      go_wp2_with fail
      clear x0 x1 x2
      refine Calls.mono (HC2.out _ B1.out) ?_
      rintro e w2 hret
      obtain ⟨a1, c1, a2, c2, l, p, M, rfl, sn, hct, hb2⟩ := hret.sn
      clear hret
      have HCT := kide hct
      have hll : l.length = n := by have := congrArg List.length hct; rw [List.length_map, HCL.out] at this; exact this
      have HLL := kide hll
      clear hct hll
      have HL1 : Hid (b0 + 1 < w1.heap.size) := XR1.out.lt
      have hbx : Below w2.heap.size w2 (w2.alloc (.cells #[Value.slice a1 dn c1, Value.slice a2 n c2, Value.int .i64 nx] 32)) := (Below.refl _ _).alloc (Nat.le_refl _) _
      have SN := kide sn
      have B2 := kide (B1.out.trans (hb2.mono B1.out.size))
      have XB2 := kide (XB1.out.later hb2)
      have XR2 := kide (XR1.out.later hb2)
      have RB3 : Hid (Bz (w2.alloc (.cells #[Value.slice a1 dn c1, Value.slice a2 n c2, Value.int .i64 nx] 32)) w2.heap.size #[Value.slice a1 dn c1, Value.slice a2 n c2, Value.int .i64 nx] 32) := Bz.new _ _ _
      have SN3 := kide (SN.out.later hbx)
      have B3 := kide (B2.out.trans (hbx.mono B2.out.size))
      have XB3 := kide (XB2.out.later hbx)
      have XR3 := kide (XR2.out.later hbx)
      clear sn hb2 XB1 XR1 B1
      clear hbx
      have x0 := XB3.out.cell 0
      have x1 := XB3.out.cell 1
      have x2 := XB3.out.cell 2
      have r0 := XR3.out.cell 0
      have r1 := XR3.out.cell 1
      have r2 := XR3.out.cell 2
      have f0 := XR3.out.froz 0
      have f1 := XR3.out.froz 1
      have f2 := XR3.out.froz 2
      simp at x0 x1 x2 r0 r1 r2
      have i20 : ((n : Int) == 20) = true := by have := H20.out; simp; omega
      go_wp2_with fail
      have XR4 : Hid (Bz ((((w2.alloc (.cells #[Value.slice a1 dn c1, Value.slice a2 n c2, Value.int .i64 nx] 32)).setCell ⟨b0 + 1, 0, none⟩ (Value.slice a1 dn c1)).setCell ⟨b0 + 1, 1, none⟩ (Value.slice a2 n c2)).setCell ⟨b0 + 1, 2, none⟩ (Value.int .i64 nx)) (b0 + 1) #[Value.slice a1 dn c1, Value.slice a2 n c2, Value.int .i64 nx] 32) := (((XR3.out.set 0 (Value.slice a1 dn c1)).set 1 (Value.slice a2 n c2)).set 2 (Value.int .i64 nx))
      have B4 : Hid (Below w.heap.size w ((((w2.alloc (.cells #[Value.slice a1 dn c1, Value.slice a2 n c2, Value.int .i64 nx] 32)).setCell ⟨b0 + 1, 0, none⟩ (Value.slice a1 dn c1)).setCell ⟨b0 + 1, 1, none⟩ (Value.slice a2 n c2)).setCell ⟨b0 + 1, 2, none⟩ (Value.int .i64 nx))) := (((B3.out.setCell (show _ ≤ b0 + 1 by have := HB0.out; omega) _).setCell (show _ ≤ b0 + 1 by have := HB0.out; omega) _).setCell (show _ ≤ b0 + 1 by have := HB0.out; omega) _)
      have SN4 : Hid (Sn2 w1.heap.size M w2.heap.size (Value.slice a1 dn c1) (Value.slice a2 n c2) ds l p ((((w2.alloc (.cells #[Value.slice a1 dn c1, Value.slice a2 n c2, Value.int .i64 nx] 32)).setCell ⟨b0 + 1, 0, none⟩ (Value.slice a1 dn c1)).setCell ⟨b0 + 1, 1, none⟩ (Value.slice a2 n c2)).setCell ⟨b0 + 1, 2, none⟩ (Value.int .i64 nx))) := (Sn2.out (Sn2.out (Sn2.out SN3.out (Out.setc (w2.alloc (.cells #[Value.slice a1 dn c1, Value.slice a2 n c2, Value.int .i64 nx] 32)) (b0 + 1) 0 (Value.slice a1 dn c1)) (.inr HL1.out)) (Out.setc ((w2.alloc (.cells #[Value.slice a1 dn c1, Value.slice a2 n c2, Value.int .i64 nx] 32)).setCell ⟨b0 + 1, 0, none⟩ (Value.slice a1 dn c1)) (b0 + 1) 1 (Value.slice a2 n c2)) (.inr HL1.out)) (Out.setc (((w2.alloc (.cells #[Value.slice a1 dn c1, Value.slice a2 n c2, Value.int .i64 nx] 32)).setCell ⟨b0 + 1, 0, none⟩ (Value.slice a1 dn c1)).setCell ⟨b0 + 1, 1, none⟩ (Value.slice a2 n c2)) (b0 + 1) 2 (Value.int .i64 nx)) (.inr HL1.out))
      have HZ4 : Hid (w2.heap.size ≤ ((((w2.alloc (.cells #[Value.slice a1 dn c1, Value.slice a2 n c2, Value.int .i64 nx] 32)).setCell ⟨b0 + 1, 0, none⟩ (Value.slice a1 dn c1)).setCell ⟨b0 + 1, 1, none⟩ (Value.slice a2 n c2)).setCell ⟨b0 + 1, 2, none⟩ (Value.int .i64 nx)).heap.size) := by show _ ≤ _; simp
      have HW1 : Hid (w.heap.size ≤ w1.heap.size) := by show _ ≤ _; have := HL1.out; have := HB0.out; omega
      clear x0 x1 x2 r0 r1 r2 f0 f1 f2
      generalize ((((w2.alloc (.cells #[Value.slice a1 dn c1, Value.slice a2 n c2, Value.int .i64 nx] 32)).setCell ⟨b0 + 1, 0, none⟩ (Value.slice a1 dn c1)).setCell ⟨b0 + 1, 1, none⟩ (Value.slice a2 n c2)).setCell ⟨b0 + 1, 2, none⟩ (Value.int .i64 nx)) = V at *
      have y0 := XR4.out.cell 0
      have y1 := XR4.out.cell 1
      have y2 := XR4.out.cell 2
      simp at y0 y1 y2
      have SN5 := kide (SN4.out.wide HW1.out HZ4.out)
      refine bodyPost_ret (v := .tuple #[.agg #[Value.slice a1 dn c1, Value.slice a2 n c2, Value.int .i64 nx], .int .i64 5]) (by simp [results, Tryz.results16, go_sem, y0, y1, y2]) rfl ⟨a1, c1, a2, c2, l, p, M, ?_, ?_, HCT.out, B4.out⟩
      · simp only [HDN.out, HCL.out]
      · simp only [HDN.out, HCL.out]; exact SN5.out
    · have HLN : Hid (n ≤ 1048576) := by show _ ≤ _; have := HCB.out; omega
      rw [if_neg (by rw [HCL.out]; exact h20)]
      have H20 : Hid (¬ n = 20) := h20
      clear h20
      go_enter Tryz.func16, Tryz.ntmps16
      go_wp2_with fail
      try simp only [hb0]
      clear hb0
      generalize ((w.alloc (Obj.cells #[Value.slice (some ⟨g1, o1, none⟩) dn dc, Value.slice (some ⟨g2, o2, none⟩) n sc, Value.int .i64 nx] 32)).alloc (Obj.cells #[Value.slice none 0 0, Value.slice none 0 0, Value.int .i64 0] 32)) = W at *
      refine Calls.mono (HSK.out _ B0.out) ?_
      rintro e w1 ⟨rfl, hb1⟩
      have B1 := kide (B0.out.trans (hb1.mono B0.out.size))
      have XB1 := kide (XB0.out.later hb1)
      have XR1 := kide (XR0.out.later hb1)
      clear hb1 XB0 XR0 B0
      have x0 := XB1.out.cell 0
      have x1 := XB1.out.cell 1
      have x2 := XB1.out.cell 2
      simp at x0 x1 x2
      go_wp2_with fail
      clear x0 x1 x2
      refine Calls.mono (HC2.out _ B1.out) ?_
      rintro e w2 hret
      obtain ⟨a1, c1, a2, c2, l, p, M, rfl, sn, hct, hb2⟩ := hret.sn
      clear hret
      have HCT := kide hct
      have hll : l.length = n := by have := congrArg List.length hct; rw [List.length_map, HCL.out] at this; exact this
      have HLL := kide hll
      clear hct hll
      have HL1 : Hid (b0 + 1 < w1.heap.size) := XR1.out.lt
      have hbx : Below w2.heap.size w2 (w2.alloc (.cells #[Value.slice a1 dn c1, Value.slice a2 n c2, Value.int .i64 nx] 32)) := (Below.refl _ _).alloc (Nat.le_refl _) _
      have SN := kide sn
      have B2 := kide (B1.out.trans (hb2.mono B1.out.size))
      have XB2 := kide (XB1.out.later hb2)
      have XR2 := kide (XR1.out.later hb2)
      have RB3 : Hid (Bz (w2.alloc (.cells #[Value.slice a1 dn c1, Value.slice a2 n c2, Value.int .i64 nx] 32)) w2.heap.size #[Value.slice a1 dn c1, Value.slice a2 n c2, Value.int .i64 nx] 32) := Bz.new _ _ _
      have SN3 := kide (SN.out.later hbx)
      have B3 := kide (B2.out.trans (hbx.mono B2.out.size))
      have XB3 := kide (XB2.out.later hbx)
      have XR3 := kide (XR2.out.later hbx)
      clear sn hb2 XB1 XR1 B1
      have hby : Below (w2.alloc (.cells #[Value.slice a1 dn c1, Value.slice a2 n c2, Value.int .i64 nx] 32)).heap.size (w2.alloc (.cells #[Value.slice a1 dn c1, Value.slice a2 n c2, Value.int .i64 nx] 32)) ((w2.alloc (.cells #[Value.slice a1 dn c1, Value.slice a2 n c2, Value.int .i64 nx] 32)).alloc (.cells #[Value.int .i64 (dn : Int), Value.slice none 0 0] 60)) := (Below.refl _ _).alloc (Nat.le_refl _) _
      have SN4 := kide (SN3.out.later hby)
      have B4 := kide (B3.out.trans (hby.mono B3.out.size))
      have XB4 := kide (XB3.out.later hby)
      have XR4 := kide (XR3.out.later hby)
      have RB4 := kide (RB3.out.later hby)
      have XN4 := kide (Bz.new (w2.alloc (.cells #[Value.slice a1 dn c1, Value.slice a2 n c2, Value.int .i64 nx] 32)) #[Value.int .i64 (dn : Int), Value.slice none 0 0] (60))
      have hz3 : (w2.alloc (.cells #[Value.slice a1 dn c1, Value.slice a2 n c2, Value.int .i64 nx] 32)).heap.size = w2.heap.size + 1 := by simp
      rw [hz3] at XN4
      have HZ4 : Hid (((w2.alloc (.cells #[Value.slice a1 dn c1, Value.slice a2 n c2, Value.int .i64 nx] 32)).alloc (.cells #[Value.int .i64 (dn : Int), Value.slice none 0 0] 60)).heap.size = w2.heap.size + 2) := by show _ = _; simp
      have H0 : Hid (((w2.alloc (.cells #[Value.slice a1 dn c1, Value.slice a2 n c2, Value.int .i64 nx] 32)).alloc (.cells #[Value.int .i64 (dn : Int), Value.slice none 0 0] 60)).cell? ⟨w2.heap.size + 1, 0, none⟩ = some (.int .i64 (dn : Int))) := XN4.out.cell 0
      have H1 : Hid (((w2.alloc (.cells #[Value.slice a1 dn c1, Value.slice a2 n c2, Value.int .i64 nx] 32)).alloc (.cells #[Value.int .i64 (dn : Int), Value.slice none 0 0] 60)).cell? ⟨w2.heap.size + 1, 1, none⟩ = some (.slice none ([] : List Lg).length 0)) := XN4.out.cell 1
      clear hbx hby hz3
      have x0 := XB3.out.cell 0
      have x1 := XB3.out.cell 1
      have x2 := XB3.out.cell 2
      have r0 := XR3.out.cell 0
      have r1 := XR3.out.cell 1
      have r2 := XR3.out.cell 2
      have f0 := XR3.out.froz 0
      have f1 := XR3.out.froz 1
      have f2 := XR3.out.froz 2
      have k1 := RB3.out.cell 1
      simp at x0 x1 x2 r0 r1 r2 k1
      clear r0 r1 r2 f0 f1 f2
      have i20 : ((n : Int) == 20) = false := by have := H20.out; simp; omega
      go_wp2_with (at_builtin; refine wpList_appS _ rfl _ _ rfl M (.slice a2 n c2) l (⟨(dn : Int), [], none, 0⟩ : Sg) (by first | rfl | simp [Act.eval]) SN4.out.scp.row (w2.heap.size + 1) 1 (by first | rfl | simp [Act.eval]) H0.out H1.out (by have := HLL.out; have := HLN.out; omega) (by have := SN.out.le2; have := HZ4.out; omega) ?_)
      intro v9 w5 ho hg hat
      have hML : M ≤ w2.heap.size := SN.out.le2
      have Z4 : Zn M ((w2.alloc (.cells #[Value.slice a1 dn c1, Value.slice a2 n c2, Value.int .i64 nx] 32)).alloc (.cells #[Value.int .i64 (dn : Int), Value.slice none 0 0] 60)).heap.size (.slice a2 n c2) l p ((w2.alloc (.cells #[Value.slice a1 dn c1, Value.slice a2 n c2, Value.int .i64 nx] 32)).alloc (.cells #[Value.int .i64 (dn : Int), Value.slice none 0 0] 60)) := SN4.out.scp.mono (by have := HZ4.out; omega) (Nat.le_refl _)
      obtain ⟨p9, hp9, Z5⟩ : ∃ p9 : Nat → Nat × Nat, (∀ i x, (l ++ [(⟨(dn : Int), [], none, 0⟩ : Sg)])[i]? = some x → w2.heap.size < (p9 i).1 ∨ (p9 i).2 ≤ w2.heap.size) ∧ Hid (Zn M w5.heap.size v9 (l ++ [(⟨(dn : Int), [], none, 0⟩ : Sg)]) p9 w5) := by
        refine ⟨_, ?_, Zn.app Z4 (by have := HZ4.out; omega) (Below.refl _ _) ⟨_, Ln.none _ _ _⟩ hg ho (hat.imp id (fun e => by rw [e, HZ4.out]))⟩
        intro i x hx
        by_cases hi : i < l.length
        · simp only [if_pos hi]
          rw [List.getElem?_append_left hi] at hx
          exact .inr (SN.out.scp.each i x hx).2.2.1
        · simp only [if_neg hi]
          exact .inl (by have := HZ4.out; omega)
      have HP9 := kide hp9
      have RB5 := kide (SN.out.scp.bz RB4.out hg (.inr (Nat.le_refl _)))
      have HML1 : w1.heap.size ≤ M := SN.out.le
      have XR5 := kide (SN.out.scp.bz XR4.out hg (.inl (by have := HL1.out; omega)))
      have VD5 : Hid (OD2 w5 w1.heap.size (.slice a1 dn c1) ds) := SN4.out.dec.move (fun b hb => hg.block b (SN4.out.dec.lt hb).2 (fun e => by have := (SN.out.scp.row.lt e.symm).1; have := SN.out.decb b hb; omega))
      have B5 := kide (Below.grown B4.out hg B4.out.size (fun b hb => by have := (SN.out.scp.row.lt hb).1; have := HL1.out; have := HB0.out; omega))
      have HDB := kide SN.out.decb
      have HLE := kide SN.out.le
      have HG5 : Hid (M ≤ w5.heap.size) := by show _ ≤ _; have := hg.size; have := HZ4.out; omega
      have hll9 : (l ++ [(⟨(dn : Int), [], none, 0⟩ : Sg)]).length = n + 1 := by rw [List.length_append, HLL.out]; rfl
      obtain ⟨a9, c9, rfl⟩ := ho.form
      rw [hll9] at Z5
      rw [hll9]
      have HCT9 : Hid ((l ++ [(⟨(dn : Int), [], none, 0⟩ : Sg)]).map Sg.ct = xs.map Sg.ct ++ [⟨(ds.length : Int), []⟩]) := by show _ = _; rw [List.map_append, HCT.out, HDN.out]; rfl
      clear ho hg hat Z4 hll9 hp9 x0 x1 x2 k1 XB3 XR3 RB3 XB4 XR4 RB4 XN4 H0 H1 SN3 SN4 B3 B4 XB2 XR2 B2 hML HML1
      have XR6 : Hid (Bz (w5.setCell ⟨w2.heap.size, 1, none⟩ (Value.slice a9 (n + 1) c9)) (b0 + 1) #[Value.slice none 0 0, Value.slice none 0 0, Value.int .i64 0] 32) := XR5.out.other (by have := HL1.out; have := HLE.out; have := SN.out.le2; omega) 1 _
      have RB6 : Hid (Bz (w5.setCell ⟨w2.heap.size, 1, none⟩ (Value.slice a9 (n + 1) c9)) w2.heap.size #[Value.slice a1 dn c1, Value.slice a9 (n + 1) c9, Value.int .i64 nx] 32) := RB5.out.set 1 _
      have B6 : Hid (Below w.heap.size w (w5.setCell ⟨w2.heap.size, 1, none⟩ (Value.slice a9 (n + 1) c9))) := B5.out.setCell (show _ ≤ w2.heap.size by have := HL1.out; have := HB0.out; have := HLE.out; have := SN.out.le2; omega) _
      have hz6 : (w5.setCell ⟨w2.heap.size, 1, none⟩ (Value.slice a9 (n + 1) c9)).heap.size = w5.heap.size := by simp
      have SN6 : Hid (Sn2 w1.heap.size M (w5.setCell ⟨w2.heap.size, 1, none⟩ (Value.slice a9 (n + 1) c9)).heap.size (Value.slice a1 dn c1) (Value.slice a9 (n + 1) c9) ds (l ++ [(⟨(dn : Int), [], none, 0⟩ : Sg)]) p9 (w5.setCell ⟨w2.heap.size, 1, none⟩ (Value.slice a9 (n + 1) c9))) := ⟨HLE.out, by rw [hz6]; exact HG5.out, VD5.out.set_other RB5.out (by decide) 1 _, HDB.out, by rw [hz6]; exact Z5.out.set_other RB5.out (by decide) HP9.out 1 _⟩
      have e1 := RB5.out.cell 1
      have g1' := RB5.out.froz 1
      have k0 := RB6.out.cell 0
      have k1 := RB6.out.cell 1
      have k2 := RB6.out.cell 2
      have r0 := XR6.out.cell 0
      have r1 := XR6.out.cell 1
      have r2 := XR6.out.cell 2
      have f0 := XR6.out.froz 0
      have f1 := XR6.out.froz 1
      have f2 := XR6.out.froz 2
      clear hz6
      go_wp2_with fail
      clear e1 g1' k0 k1 k2 r0 r1 r2 f0 f1 f2
      generalize (w5.setCell ⟨w2.heap.size, 1, none⟩ (Value.slice a9 (n + 1) c9)) = w6 at *
      have XR7 : Hid (Bz (((w6.setCell ⟨b0 + 1, 0, none⟩ (Value.slice a1 dn c1)).setCell ⟨b0 + 1, 1, none⟩ (Value.slice a9 (n + 1) c9)).setCell ⟨b0 + 1, 2, none⟩ (Value.int .i64 nx)) (b0 + 1) #[Value.slice a1 dn c1, Value.slice a9 (n + 1) c9, Value.int .i64 nx] 32) := (((XR6.out.set 0 (Value.slice a1 dn c1)).set 1 (Value.slice a9 (n + 1) c9)).set 2 (Value.int .i64 nx))
      have B7 : Hid (Below w.heap.size w (((w6.setCell ⟨b0 + 1, 0, none⟩ (Value.slice a1 dn c1)).setCell ⟨b0 + 1, 1, none⟩ (Value.slice a9 (n + 1) c9)).setCell ⟨b0 + 1, 2, none⟩ (Value.int .i64 nx))) := (((B6.out.setCell (show _ ≤ b0 + 1 by have := HB0.out; omega) _).setCell (show _ ≤ b0 + 1 by have := HB0.out; omega) _).setCell (show _ ≤ b0 + 1 by have := HB0.out; omega) _)
      have SN7 : Hid (Sn2 w1.heap.size M w6.heap.size (Value.slice a1 dn c1) (Value.slice a9 (n + 1) c9) ds (l ++ [(⟨(dn : Int), [], none, 0⟩ : Sg)]) p9 (((w6.setCell ⟨b0 + 1, 0, none⟩ (Value.slice a1 dn c1)).setCell ⟨b0 + 1, 1, none⟩ (Value.slice a9 (n + 1) c9)).setCell ⟨b0 + 1, 2, none⟩ (Value.int .i64 nx))) := (Sn2.out (Sn2.out (Sn2.out SN6.out (Out.setc w6 (b0 + 1) 0 (Value.slice a1 dn c1)) (.inr HL1.out)) (Out.setc (w6.setCell ⟨b0 + 1, 0, none⟩ (Value.slice a1 dn c1)) (b0 + 1) 1 (Value.slice a9 (n + 1) c9)) (.inr HL1.out)) (Out.setc ((w6.setCell ⟨b0 + 1, 0, none⟩ (Value.slice a1 dn c1)).setCell ⟨b0 + 1, 1, none⟩ (Value.slice a9 (n + 1) c9)) (b0 + 1) 2 (Value.int .i64 nx)) (.inr HL1.out))
      have HZ7 : Hid (w6.heap.size ≤ (((w6.setCell ⟨b0 + 1, 0, none⟩ (Value.slice a1 dn c1)).setCell ⟨b0 + 1, 1, none⟩ (Value.slice a9 (n + 1) c9)).setCell ⟨b0 + 1, 2, none⟩ (Value.int .i64 nx)).heap.size) := by show _ ≤ _; simp
      have HW1 : Hid (w.heap.size ≤ w1.heap.size) := by show _ ≤ _; have := HL1.out; have := HB0.out; omega
      generalize (((w6.setCell ⟨b0 + 1, 0, none⟩ (Value.slice a1 dn c1)).setCell ⟨b0 + 1, 1, none⟩ (Value.slice a9 (n + 1) c9)).setCell ⟨b0 + 1, 2, none⟩ (Value.int .i64 nx)) = V at *
      have y0 := XR7.out.cell 0
      have y1 := XR7.out.cell 1
      have y2 := XR7.out.cell 2
      simp at y0 y1 y2
      have SN8 := kide (SN7.out.wide HW1.out HZ7.out)
      refine bodyPost_ret (v := .tuple #[.agg #[Value.slice a1 dn c1, Value.slice a9 (n + 1) c9, Value.int .i64 nx], .int .i64 0]) (by simp [results, Tryz.results16, go_sem, y0, y1, y2]) rfl ⟨a1, c1, a9, c9, _, p9, M, ?_, ?_, HCT9.out, B7.out⟩
      · simp only [HDN.out, List.length_append, HCL.out, List.length_cons, List.length_nil]
      · simp only [HDN.out, List.length_append, HCL.out, List.length_cons, List.length_nil]; exact SN8.out

set_option maxHeartbeats 2000000 in
set_option maxRecDepth 100000 in
theorem specPush_any (g1 o1 g2 o2 dn dc n sc : Nat) (nx : Int) (ds : List Dc) (xs : List Sg) (w : World) (hd : RdD w (some ⟨g1, o1, none⟩) ds) (hdn : ds.length = dn) (hs : RdS w (some ⟨g2, o2, none⟩) xs) (hn : xs.length = n) (hS : SnS xs)
    (HSK : Hid (∀ u, Below w.heap.size w u → Calls Tryz.prog 22 #[.agg #[Value.slice (some ⟨g1, o1, none⟩) dn dc, Value.slice (some ⟨g2, o2, none⟩) n sc, Value.int .i64 nx]] u fun e w' => e = .returned (.bool (sesR ds (xs.map Sg.ct) nx)) ∧ Below u.heap.size u w')) :
    Calls Tryz.prog 15 #[.agg #[Value.slice (some ⟨g1, o1, none⟩) dn dc, Value.slice (some ⟨g2, o2, none⟩) n sc, Value.int .i64 nx]] w (RetP (pushR ds (xs.map Sg.ct) nx) w) := by
  obtain ⟨b0, hb0⟩ : ∃ b0, w.heap.size = b0 := ⟨_, rfl⟩
  have hb2 : Below w.heap.size w ((w.alloc (Obj.cells #[Value.slice (some ⟨g1, o1, none⟩) dn dc, Value.slice (some ⟨g2, o2, none⟩) n sc, Value.int .i64 nx] 32)).alloc (Obj.cells #[Value.slice none 0 0, Value.slice none 0 0, Value.int .i64 0] 32)) := ((Below.refl _ _).alloc (Nat.le_refl _) _).alloc (by simp) _
  have B0 := kide hb2
  have XB0 : Hid (Bz ((w.alloc (Obj.cells #[Value.slice (some ⟨g1, o1, none⟩) dn dc, Value.slice (some ⟨g2, o2, none⟩) n sc, Value.int .i64 nx] 32)).alloc (Obj.cells #[Value.slice none 0 0, Value.slice none 0 0, Value.int .i64 0] 32)) b0 #[Value.slice (some ⟨g1, o1, none⟩) dn dc, Value.slice (some ⟨g2, o2, none⟩) n sc, Value.int .i64 nx] 32) := by rw [← hb0]; exact (Bz.new w #[Value.slice (some ⟨g1, o1, none⟩) dn dc, Value.slice (some ⟨g2, o2, none⟩) n sc, Value.int .i64 nx] (32)).later ((Below.refl _ _).alloc (Nat.le_refl _) _)
  have XR0 : Hid (Bz ((w.alloc (Obj.cells #[Value.slice (some ⟨g1, o1, none⟩) dn dc, Value.slice (some ⟨g2, o2, none⟩) n sc, Value.int .i64 nx] 32)).alloc (Obj.cells #[Value.slice none 0 0, Value.slice none 0 0, Value.int .i64 0] 32)) (b0 + 1) #[Value.slice none 0 0, Value.slice none 0 0, Value.int .i64 0] 32) := by have h := Bz.new (w.alloc (Obj.cells #[Value.slice (some ⟨g1, o1, none⟩) dn dc, Value.slice (some ⟨g2, o2, none⟩) n sc, Value.int .i64 nx] 32)) #[Value.slice none 0 0, Value.slice none 0 0, Value.int .i64 0] (32); rw [show (w.alloc (Obj.cells #[Value.slice (some ⟨g1, o1, none⟩) dn dc, Value.slice (some ⟨g2, o2, none⟩) n sc, Value.int .i64 nx] 32)).heap.size = b0 + 1 by simp [hb0]] at h; exact h
  have HB0 := kide hb0
  have HCP : Hid (sesR ds (xs.map Sg.ct) nx = true → ∀ u, Below w.heap.size w u → Calls Tryz.prog 36 #[.agg #[Value.slice (some ⟨g1, o1, none⟩) dn dc, Value.slice (some ⟨g2, o2, none⟩) n sc, Value.int .i64 nx]] u (RetCs ds (xs.map Sg.ct) dn n nx u)) := fun h u hu => l21Copy_any g1 o1 _ dn dc n sc nx ds xs u (hd.later hu) hdn (hs.later hu) hn (by have := (ses_len h).2; rw [List.length_map, hn] at this; omega) hS
  have HDN := kide hdn
  have HN := kide hn
  have hdl : dn ≤ 1048576 := by rw [← hdn]; exact hd.1
  clear hd hdn hs hn hS hb2
  unfold pushR
  cases hv : sesR ds (xs.map Sg.ct) nx with
  | false =>
    rw [hv] at HSK
    rw [if_neg (by simp)]
    clear hv HCP
    go_enter Tryz.func15, Tryz.ntmps15
    go_wp2_with fail
    try simp only [hb0]
    clear hb0
    generalize ((w.alloc (Obj.cells #[Value.slice (some ⟨g1, o1, none⟩) dn dc, Value.slice (some ⟨g2, o2, none⟩) n sc, Value.int .i64 nx] 32)).alloc (Obj.cells #[Value.slice none 0 0, Value.slice none 0 0, Value.int .i64 0] 32)) = W at *
    refine Calls.mono (HSK.out _ B0.out) ?_
    rintro e w1 ⟨rfl, hb1⟩
    have B1 := kide (B0.out.trans (hb1.mono B0.out.size))
    have XR1 := kide (XR0.out.later hb1)
    clear hb1
    have r0 := XR1.out.cell 0
    have r1 := XR1.out.cell 1
    have r2 := XR1.out.cell 2
    have f0 := XR1.out.froz 0
    have f1 := XR1.out.froz 1
    have f2 := XR1.out.froz 2
    simp at r0 r1 r2
    go_wp2_with fail
    have XR2 : Hid (Bz (((w1.setCell ⟨b0 + 1, 0, none⟩ (Value.slice none 0 0)).setCell ⟨b0 + 1, 1, none⟩ (Value.slice none 0 0)).setCell ⟨b0 + 1, 2, none⟩ (Value.int .i64 0)) (b0 + 1) #[Value.slice none 0 0, Value.slice none 0 0, Value.int .i64 0] 32) := (((XR1.out.set 0 (Value.slice none 0 0)).set 1 (Value.slice none 0 0)).set 2 (Value.int .i64 0))
    have B2 : Hid (Below w.heap.size w (((w1.setCell ⟨b0 + 1, 0, none⟩ (Value.slice none 0 0)).setCell ⟨b0 + 1, 1, none⟩ (Value.slice none 0 0)).setCell ⟨b0 + 1, 2, none⟩ (Value.int .i64 0))) := (((B1.out.setCell (show _ ≤ b0 + 1 by have := HB0.out; omega) _).setCell (show _ ≤ b0 + 1 by have := HB0.out; omega) _).setCell (show _ ≤ b0 + 1 by have := HB0.out; omega) _)
    clear r0 r1 r2 f0 f1 f2
    generalize (((w1.setCell ⟨b0 + 1, 0, none⟩ (Value.slice none 0 0)).setCell ⟨b0 + 1, 1, none⟩ (Value.slice none 0 0)).setCell ⟨b0 + 1, 2, none⟩ (Value.int .i64 0)) = V at *
    have y0 := XR2.out.cell 0
    have y1 := XR2.out.cell 1
    have y2 := XR2.out.cell 2
    simp at y0 y1 y2
    exact bodyPost_ret (v := .tuple #[.agg #[Value.slice none 0 0, Value.slice none 0 0, Value.int .i64 0], .int .i64 1]) (by simp [results, Tryz.results15, go_sem, y0, y1, y2]) rfl ⟨none, 0, none, 0, [], _, _, rfl, Sn2.zero _ _ _ B2.out.size, rfl, B2.out⟩
  | true =>
    rw [hv] at HSK
    rw [if_pos rfl]
    have HC2 := kide (HCP.out hv)
    have HCB : Hid (n ≤ 20) := by show _ ≤ _; have := (ses_len hv).2; rw [List.length_map, HN.out] at this; exact this
    clear hv HCP
    have HCL : Hid ((xs.map Sg.ct).length = n) := by show _ = _; rw [List.length_map]; exact HN.out
    by_cases h20 : n = 20
    · rw [if_pos (by rw [HCL.out]; exact h20)]
      have H20 := kide h20
      clear h20
      go_enter Tryz.func15, Tryz.ntmps15
      go_wp2_with fail
      try simp only [hb0]
      clear hb0
      generalize ((w.alloc (Obj.cells #[Value.slice (some ⟨g1, o1, none⟩) dn dc, Value.slice (some ⟨g2, o2, none⟩) n sc, Value.int .i64 nx] 32)).alloc (Obj.cells #[Value.slice none 0 0, Value.slice none 0 0, Value.int .i64 0] 32)) = W at *
      refine Calls.mono (HSK.out _ B0.out) ?_
      rintro e w1 ⟨rfl, hb1⟩
      have B1 := kide (B0.out.trans (hb1.mono B0.out.size))
      have XB1 := kide (XB0.out.later hb1)
      have XR1 := kide (XR0.out.later hb1)
      clear hb1 XB0 XR0 B0
      have x0 := XB1.out.cell 0
      have x1 := XB1.out.cell 1
      have x2 := XB1.out.cell 2
      simp at x0 x1 x2
      go_wp2_with fail
      clear x0 x1 x2
      refine Calls.mono (HC2.out _ B1.out) ?_
      rintro e w2 hret
      obtain ⟨a1, c1, a2, c2, l, p, M, rfl, sn, hct, hb2⟩ := hret.sn
      clear hret
      have HCT := kide hct
      have hll : l.length = n := by have := congrArg List.length hct; rw [List.length_map, HCL.out] at this; exact this
      have HLL := kide hll
      clear hct hll
      have HL1 : Hid (b0 + 1 < w1.heap.size) := XR1.out.lt
      have hbx : Below w2.heap.size w2 (w2.alloc (.cells #[Value.slice a1 dn c1, Value.slice a2 n c2, Value.int .i64 nx] 32)) := (Below.refl _ _).alloc (Nat.le_refl _) _
      have SN := kide sn
      have B2 := kide (B1.out.trans (hb2.mono B1.out.size))
      have XB2 := kide (XB1.out.later hb2)
      have XR2 := kide (XR1.out.later hb2)
      have RB3 : Hid (Bz (w2.alloc (.cells #[Value.slice a1 dn c1, Value.slice a2 n c2, Value.int .i64 nx] 32)) w2.heap.size #[Value.slice a1 dn c1, Value.slice a2 n c2, Value.int .i64 nx] 32) := Bz.new _ _ _
      have SN3 := kide (SN.out.later hbx)
      have B3 := kide (B2.out.trans (hbx.mono B2.out.size))
      have XB3 := kide (XB2.out.later hbx)
      have XR3 := kide (XR2.out.later hbx)
      clear sn hb2 XB1 XR1 B1
      clear hbx
      have x0 := XB3.out.cell 0
      have x1 := XB3.out.cell 1
      have x2 := XB3.out.cell 2
      have r0 := XR3.out.cell 0
      have r1 := XR3.out.cell 1
      have r2 := XR3.out.cell 2
      have f0 := XR3.out.froz 0
      have f1 := XR3.out.froz 1
      have f2 := XR3.out.froz 2
      simp at x0 x1 x2 r0 r1 r2
      have i20 : ((n : Int) == 20) = true := by have := H20.out; simp; omega
      go_wp2_with fail
      have XR4 : Hid (Bz ((((w2.alloc (.cells #[Value.slice a1 dn c1, Value.slice a2 n c2, Value.int .i64 nx] 32)).setCell ⟨b0 + 1, 0, none⟩ (Value.slice a1 dn c1)).setCell ⟨b0 + 1, 1, none⟩ (Value.slice a2 n c2)).setCell ⟨b0 + 1, 2, none⟩ (Value.int .i64 nx)) (b0 + 1) #[Value.slice a1 dn c1, Value.slice a2 n c2, Value.int .i64 nx] 32) := (((XR3.out.set 0 (Value.slice a1 dn c1)).set 1 (Value.slice a2 n c2)).set 2 (Value.int .i64 nx))
      have B4 : Hid (Below w.heap.size w ((((w2.alloc (.cells #[Value.slice a1 dn c1, Value.slice a2 n c2, Value.int .i64 nx] 32)).setCell ⟨b0 + 1, 0, none⟩ (Value.slice a1 dn c1)).setCell ⟨b0 + 1, 1, none⟩ (Value.slice a2 n c2)).setCell ⟨b0 + 1, 2, none⟩ (Value.int .i64 nx))) := (((B3.out.setCell (show _ ≤ b0 + 1 by have := HB0.out; omega) _).setCell (show _ ≤ b0 + 1 by have := HB0.out; omega) _).setCell (show _ ≤ b0 + 1 by have := HB0.out; omega) _)
      have SN4 : Hid (Sn2 w1.heap.size M w2.heap.size (Value.slice a1 dn c1) (Value.slice a2 n c2) ds l p ((((w2.alloc (.cells #[Value.slice a1 dn c1, Value.slice a2 n c2, Value.int .i64 nx] 32)).setCell ⟨b0 + 1, 0, none⟩ (Value.slice a1 dn c1)).setCell ⟨b0 + 1, 1, none⟩ (Value.slice a2 n c2)).setCell ⟨b0 + 1, 2, none⟩ (Value.int .i64 nx))) := (Sn2.out (Sn2.out (Sn2.out SN3.out (Out.setc (w2.alloc (.cells #[Value.slice a1 dn c1, Value.slice a2 n c2, Value.int .i64 nx] 32)) (b0 + 1) 0 (Value.slice a1 dn c1)) (.inr HL1.out)) (Out.setc ((w2.alloc (.cells #[Value.slice a1 dn c1, Value.slice a2 n c2, Value.int .i64 nx] 32)).setCell ⟨b0 + 1, 0, none⟩ (Value.slice a1 dn c1)) (b0 + 1) 1 (Value.slice a2 n c2)) (.inr HL1.out)) (Out.setc (((w2.alloc (.cells #[Value.slice a1 dn c1, Value.slice a2 n c2, Value.int .i64 nx] 32)).setCell ⟨b0 + 1, 0, none⟩ (Value.slice a1 dn c1)).setCell ⟨b0 + 1, 1, none⟩ (Value.slice a2 n c2)) (b0 + 1) 2 (Value.int .i64 nx)) (.inr HL1.out))
      have HZ4 : Hid (w2.heap.size ≤ ((((w2.alloc (.cells #[Value.slice a1 dn c1, Value.slice a2 n c2, Value.int .i64 nx] 32)).setCell ⟨b0 + 1, 0, none⟩ (Value.slice a1 dn c1)).setCell ⟨b0 + 1, 1, none⟩ (Value.slice a2 n c2)).setCell ⟨b0 + 1, 2, none⟩ (Value.int .i64 nx)).heap.size) := by show _ ≤ _; simp
      have HW1 : Hid (w.heap.size ≤ w1.heap.size) := by show _ ≤ _; have := HL1.out; have := HB0.out; omega
      clear x0 x1 x2 r0 r1 r2 f0 f1 f2
      generalize ((((w2.alloc (.cells #[Value.slice a1 dn c1, Value.slice a2 n c2, Value.int .i64 nx] 32)).setCell ⟨b0 + 1, 0, none⟩ (Value.slice a1 dn c1)).setCell ⟨b0 + 1, 1, none⟩ (Value.slice a2 n c2)).setCell ⟨b0 + 1, 2, none⟩ (Value.int .i64 nx)) = V at *
      have y0 := XR4.out.cell 0
      have y1 := XR4.out.cell 1
      have y2 := XR4.out.cell 2
      simp at y0 y1 y2
      have SN5 := kide (SN4.out.wide HW1.out HZ4.out)
      refine bodyPost_ret (v := .tuple #[.agg #[Value.slice a1 dn c1, Value.slice a2 n c2, Value.int .i64 nx], .int .i64 5]) (by simp [results, Tryz.results15, go_sem, y0, y1, y2]) rfl ⟨a1, c1, a2, c2, l, p, M, ?_, ?_, HCT.out, B4.out⟩
      · simp only [HDN.out, HCL.out]
      · simp only [HDN.out, HCL.out]; exact SN5.out
    · have HLN : Hid (n ≤ 1048576) := by show _ ≤ _; have := HCB.out; omega
      rw [if_neg (by rw [HCL.out]; exact h20)]
      have H20 : Hid (¬ n = 20) := h20
      clear h20
      go_enter Tryz.func15, Tryz.ntmps15
      go_wp2_with fail
      try simp only [hb0]
      clear hb0
      generalize ((w.alloc (Obj.cells #[Value.slice (some ⟨g1, o1, none⟩) dn dc, Value.slice (some ⟨g2, o2, none⟩) n sc, Value.int .i64 nx] 32)).alloc (Obj.cells #[Value.slice none 0 0, Value.slice none 0 0, Value.int .i64 0] 32)) = W at *
      refine Calls.mono (HSK.out _ B0.out) ?_
      rintro e w1 ⟨rfl, hb1⟩
      have B1 := kide (B0.out.trans (hb1.mono B0.out.size))
      have XB1 := kide (XB0.out.later hb1)
      have XR1 := kide (XR0.out.later hb1)
      clear hb1 XB0 XR0 B0
      have x0 := XB1.out.cell 0
      have x1 := XB1.out.cell 1
      have x2 := XB1.out.cell 2
      simp at x0 x1 x2
      go_wp2_with fail
      clear x0 x1 x2
      refine Calls.mono (HC2.out _ B1.out) ?_
      rintro e w2 hret
      obtain ⟨a1, c1, a2, c2, l, p, M, rfl, sn, hct, hb2⟩ := hret.sn
      clear hret
      have HCT := kide hct
      have hll : l.length = n := by have := congrArg List.length hct; rw [List.length_map, HCL.out] at this; exact this
      have HLL := kide hll
      clear hct hll
      have HL1 : Hid (b0 + 1 < w1.heap.size) := XR1.out.lt
      have hbx : Below w2.heap.size w2 (w2.alloc (.cells #[Value.slice a1 dn c1, Value.slice a2 n c2, Value.int .i64 nx] 32)) := (Below.refl _ _).alloc (Nat.le_refl _) _
      have SN := kide sn
      have B2 := kide (B1.out.trans (hb2.mono B1.out.size))
      have XB2 := kide (XB1.out.later hb2)
      have XR2 := kide (XR1.out.later hb2)
      have RB3 : Hid (Bz (w2.alloc (.cells #[Value.slice a1 dn c1, Value.slice a2 n c2, Value.int .i64 nx] 32)) w2.heap.size #[Value.slice a1 dn c1, Value.slice a2 n c2, Value.int .i64 nx] 32) := Bz.new _ _ _
      have SN3 := kide (SN.out.later hbx)
      have B3 := kide (B2.out.trans (hbx.mono B2.out.size))
      have XB3 := kide (XB2.out.later hbx)
      have XR3 := kide (XR2.out.later hbx)
      clear sn hb2 XB1 XR1 B1
      have hby : Below (w2.alloc (.cells #[Value.slice a1 dn c1, Value.slice a2 n c2, Value.int .i64 nx] 32)).heap.size (w2.alloc (.cells #[Value.slice a1 dn c1, Value.slice a2 n c2, Value.int .i64 nx] 32)) ((w2.alloc (.cells #[Value.slice a1 dn c1, Value.slice a2 n c2, Value.int .i64 nx] 32)).alloc (.cells #[Value.int .i64 (dn : Int), Value.slice none 0 0] 60)) := (Below.refl _ _).alloc (Nat.le_refl _) _
      have SN4 := kide (SN3.out.later hby)
      have B4 := kide (B3.out.trans (hby.mono B3.out.size))
      have XB4 := kide (XB3.out.later hby)
      have XR4 := kide (XR3.out.later hby)
      have RB4 := kide (RB3.out.later hby)
      have XN4 := kide (Bz.new (w2.alloc (.cells #[Value.slice a1 dn c1, Value.slice a2 n c2, Value.int .i64 nx] 32)) #[Value.int .i64 (dn : Int), Value.slice none 0 0] (60))
      have hz3 : (w2.alloc (.cells #[Value.slice a1 dn c1, Value.slice a2 n c2, Value.int .i64 nx] 32)).heap.size = w2.heap.size + 1 := by simp
      rw [hz3] at XN4
      have HZ4 : Hid (((w2.alloc (.cells #[Value.slice a1 dn c1, Value.slice a2 n c2, Value.int .i64 nx] 32)).alloc (.cells #[Value.int .i64 (dn : Int), Value.slice none 0 0] 60)).heap.size = w2.heap.size + 2) := by show _ = _; simp
      have H0 : Hid (((w2.alloc (.cells #[Value.slice a1 dn c1, Value.slice a2 n c2, Value.int .i64 nx] 32)).alloc (.cells #[Value.int .i64 (dn : Int), Value.slice none 0 0] 60)).cell? ⟨w2.heap.size + 1, 0, none⟩ = some (.int .i64 (dn : Int))) := XN4.out.cell 0
      have H1 : Hid (((w2.alloc (.cells #[Value.slice a1 dn c1, Value.slice a2 n c2, Value.int .i64 nx] 32)).alloc (.cells #[Value.int .i64 (dn : Int), Value.slice none 0 0] 60)).cell? ⟨w2.heap.size + 1, 1, none⟩ = some (.slice none ([] : List Lg).length 0)) := XN4.out.cell 1
      clear hbx hby hz3
      have x0 := XB3.out.cell 0
      have x1 := XB3.out.cell 1
      have x2 := XB3.out.cell 2
      have r0 := XR3.out.cell 0
      have r1 := XR3.out.cell 1
      have r2 := XR3.out.cell 2
      have f0 := XR3.out.froz 0
      have f1 := XR3.out.froz 1
      have f2 := XR3.out.froz 2
      have k1 := RB3.out.cell 1
      simp at x0 x1 x2 r0 r1 r2 k1
      clear r0 r1 r2 f0 f1 f2
      have i20 : ((n : Int) == 20) = false := by have := H20.out; simp; omega
      go_wp2_with (at_builtin; refine wpList_appS _ rfl _ _ rfl M (.slice a2 n c2) l (⟨(dn : Int), [], none, 0⟩ : Sg) (by first | rfl | simp [Act.eval]) SN4.out.scp.row (w2.heap.size + 1) 1 (by first | rfl | simp [Act.eval]) H0.out H1.out (by have := HLL.out; have := HLN.out; omega) (by have := SN.out.le2; have := HZ4.out; omega) ?_)
      intro v9 w5 ho hg hat
      have hML : M ≤ w2.heap.size := SN.out.le2
      have Z4 : Zn M ((w2.alloc (.cells #[Value.slice a1 dn c1, Value.slice a2 n c2, Value.int .i64 nx] 32)).alloc (.cells #[Value.int .i64 (dn : Int), Value.slice none 0 0] 60)).heap.size (.slice a2 n c2) l p ((w2.alloc (.cells #[Value.slice a1 dn c1, Value.slice a2 n c2, Value.int .i64 nx] 32)).alloc (.cells #[Value.int .i64 (dn : Int), Value.slice none 0 0] 60)) := SN4.out.scp.mono (by have := HZ4.out; omega) (Nat.le_refl _)
      obtain ⟨p9, hp9, Z5⟩ : ∃ p9 : Nat → Nat × Nat, (∀ i x, (l ++ [(⟨(dn : Int), [], none, 0⟩ : Sg)])[i]? = some x → w2.heap.size < (p9 i).1 ∨ (p9 i).2 ≤ w2.heap.size) ∧ Hid (Zn M w5.heap.size v9 (l ++ [(⟨(dn : Int), [], none, 0⟩ : Sg)]) p9 w5) := by
        refine ⟨_, ?_, Zn.app Z4 (by have := HZ4.out; omega) (Below.refl _ _) ⟨_, Ln.none _ _ _⟩ hg ho (hat.imp id (fun e => by rw [e, HZ4.out]))⟩
        intro i x hx
        by_cases hi : i < l.length
        · simp only [if_pos hi]
          rw [List.getElem?_append_left hi] at hx
          exact .inr (SN.out.scp.each i x hx).2.2.1
        · simp only [if_neg hi]
          exact .inl (by have := HZ4.out; omega)
      have HP9 := kide hp9
      have RB5 := kide (SN.out.scp.bz RB4.out hg (.inr (Nat.le_refl _)))
      have HML1 : w1.heap.size ≤ M := SN.out.le
      have XR5 := kide (SN.out.scp.bz XR4.out hg (.inl (by have := HL1.out; omega)))
      have VD5 : Hid (OD2 w5 w1.heap.size (.slice a1 dn c1) ds) := SN4.out.dec.move (fun b hb => hg.block b (SN4.out.dec.lt hb).2 (fun e => by have := (SN.out.scp.row.lt e.symm).1; have := SN.out.decb b hb; omega))
      have B5 := kide (Below.grown B4.out hg B4.out.size (fun b hb => by have := (SN.out.scp.row.lt hb).1; have := HL1.out; have := HB0.out; omega))
      have HDB := kide SN.out.decb
      have HLE := kide SN.out.le
      have HG5 : Hid (M ≤ w5.heap.size) := by show _ ≤ _; have := hg.size; have := HZ4.out; omega
      have hll9 : (l ++ [(⟨(dn : Int), [], none, 0⟩ : Sg)]).length = n + 1 := by rw [List.length_append, HLL.out]; rfl
      obtain ⟨a9, c9, rfl⟩ := ho.form
      rw [hll9] at Z5
      rw [hll9]
      have HCT9 : Hid ((l ++ [(⟨(dn : Int), [], none, 0⟩ : Sg)]).map Sg.ct = xs.map Sg.ct ++ [⟨(ds.length : Int), []⟩]) := by show _ = _; rw [List.map_append, HCT.out, HDN.out]; rfl
      clear ho hg hat Z4 hll9 hp9 x0 x1 x2 k1 XB3 XR3 RB3 XB4 XR4 RB4 XN4 H0 H1 SN3 SN4 B3 B4 XB2 XR2 B2 hML HML1
      have XR6 : Hid (Bz (w5.setCell ⟨w2.heap.size, 1, none⟩ (Value.slice a9 (n + 1) c9)) (b0 + 1) #[Value.slice none 0 0, Value.slice none 0 0, Value.int .i64 0] 32) := XR5.out.other (by have := HL1.out; have := HLE.out; have := SN.out.le2; omega) 1 _
      have RB6 : Hid (Bz (w5.setCell ⟨w2.heap.size, 1, none⟩ (Value.slice a9 (n + 1) c9)) w2.heap.size #[Value.slice a1 dn c1, Value.slice a9 (n + 1) c9, Value.int .i64 nx] 32) := RB5.out.set 1 _
      have B6 : Hid (Below w.heap.size w (w5.setCell ⟨w2.heap.size, 1, none⟩ (Value.slice a9 (n + 1) c9))) := B5.out.setCell (show _ ≤ w2.heap.size by have := HL1.out; have := HB0.out; have := HLE.out; have := SN.out.le2; omega) _
      have hz6 : (w5.setCell ⟨w2.heap.size, 1, none⟩ (Value.slice a9 (n + 1) c9)).heap.size = w5.heap.size := by simp
      have SN6 : Hid (Sn2 w1.heap.size M (w5.setCell ⟨w2.heap.size, 1, none⟩ (Value.slice a9 (n + 1) c9)).heap.size (Value.slice a1 dn c1) (Value.slice a9 (n + 1) c9) ds (l ++ [(⟨(dn : Int), [], none, 0⟩ : Sg)]) p9 (w5.setCell ⟨w2.heap.size, 1, none⟩ (Value.slice a9 (n + 1) c9))) := ⟨HLE.out, by rw [hz6]; exact HG5.out, VD5.out.set_other RB5.out (by decide) 1 _, HDB.out, by rw [hz6]; exact Z5.out.set_other RB5.out (by decide) HP9.out 1 _⟩
      have e1 := RB5.out.cell 1
      have g1' := RB5.out.froz 1
      have k0 := RB6.out.cell 0
      have k1 := RB6.out.cell 1
      have k2 := RB6.out.cell 2
      have r0 := XR6.out.cell 0
      have r1 := XR6.out.cell 1
      have r2 := XR6.out.cell 2
      have f0 := XR6.out.froz 0
      have f1 := XR6.out.froz 1
      have f2 := XR6.out.froz 2
      clear hz6
      go_wp2_with fail
      clear e1 g1' k0 k1 k2 r0 r1 r2 f0 f1 f2
      generalize (w5.setCell ⟨w2.heap.size, 1, none⟩ (Value.slice a9 (n + 1) c9)) = w6 at *
      have XR7 : Hid (Bz (((w6.setCell ⟨b0 + 1, 0, none⟩ (Value.slice a1 dn c1)).setCell ⟨b0 + 1, 1, none⟩ (Value.slice a9 (n + 1) c9)).setCell ⟨b0 + 1, 2, none⟩ (Value.int .i64 nx)) (b0 + 1) #[Value.slice a1 dn c1, Value.slice a9 (n + 1) c9, Value.int .i64 nx] 32) := (((XR6.out.set 0 (Value.slice a1 dn c1)).set 1 (Value.slice a9 (n + 1) c9)).set 2 (Value.int .i64 nx))
      have B7 : Hid (Below w.heap.size w (((w6.setCell ⟨b0 + 1, 0, none⟩ (Value.slice a1 dn c1)).setCell ⟨b0 + 1, 1, none⟩ (Value.slice a9 (n + 1) c9)).setCell ⟨b0 + 1, 2, none⟩ (Value.int .i64 nx))) := (((B6.out.setCell (show _ ≤ b0 + 1 by have := HB0.out; omega) _).setCell (show _ ≤ b0 + 1 by have := HB0.out; omega) _).setCell (show _ ≤ b0 + 1 by have := HB0.out; omega) _)
      have SN7 : Hid (Sn2 w1.heap.size M w6.heap.size (Value.slice a1 dn c1) (Value.slice a9 (n + 1) c9) ds (l ++ [(⟨(dn : Int), [], none, 0⟩ : Sg)]) p9 (((w6.setCell ⟨b0 + 1, 0, none⟩ (Value.slice a1 dn c1)).setCell ⟨b0 + 1, 1, none⟩ (Value.slice a9 (n + 1) c9)).setCell ⟨b0 + 1, 2, none⟩ (Value.int .i64 nx))) := (Sn2.out (Sn2.out (Sn2.out SN6.out (Out.setc w6 (b0 + 1) 0 (Value.slice a1 dn c1)) (.inr HL1.out)) (Out.setc (w6.setCell ⟨b0 + 1, 0, none⟩ (Value.slice a1 dn c1)) (b0 + 1) 1 (Value.slice a9 (n + 1) c9)) (.inr HL1.out)) (Out.setc ((w6.setCell ⟨b0 + 1, 0, none⟩ (Value.slice a1 dn c1)).setCell ⟨b0 + 1, 1, none⟩ (Value.slice a9 (n + 1) c9)) (b0 + 1) 2 (Value.int .i64 nx)) (.inr HL1.out))
      have HZ7 : Hid (w6.heap.size ≤ (((w6.setCell ⟨b0 + 1, 0, none⟩ (Value.slice a1 dn c1)).setCell ⟨b0 + 1, 1, none⟩ (Value.slice a9 (n + 1) c9)).setCell ⟨b0 + 1, 2, none⟩ (Value.int .i64 nx)).heap.size) := by show _ ≤ _; simp
      have HW1 : Hid (w.heap.size ≤ w1.heap.size) := by show _ ≤ _; have := HL1.out; have := HB0.out; omega
      generalize (((w6.setCell ⟨b0 + 1, 0, none⟩ (Value.slice a1 dn c1)).setCell ⟨b0 + 1, 1, none⟩ (Value.slice a9 (n + 1) c9)).setCell ⟨b0 + 1, 2, none⟩ (Value.int .i64 nx)) = V at *
      have y0 := XR7.out.cell 0
      have y1 := XR7.out.cell 1
      have y2 := XR7.out.cell 2
      simp at y0 y1 y2
      have SN8 := kide (SN7.out.wide HW1.out HZ7.out)
      refine bodyPost_ret (v := .tuple #[.agg #[Value.slice a1 dn c1, Value.slice a9 (n + 1) c9, Value.int .i64 nx], .int .i64 0]) (by simp [results, Tryz.results15, go_sem, y0, y1, y2]) rfl ⟨a1, c1, a9, c9, _, p9, M, ?_, ?_, HCT9.out, B7.out⟩
      · simp only [HDN.out, List.length_append, HCL.out, List.length_cons, List.length_nil]
      · simp only [HDN.out, List.length_append, HCL.out, List.length_cons, List.length_nil]; exact SN8.out

end Go.Proofs.YthgamfklfjjdoaaGreatDoor
