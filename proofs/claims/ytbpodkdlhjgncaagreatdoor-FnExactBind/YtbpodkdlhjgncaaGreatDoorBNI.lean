/- What the program's Bind answers. -/
import Derived.RangeFuncNested
import Derived.RangeFuncBound
import Derived.RangeFuncCalls
import Derived.RangeFuncWrites
import Derived.Shelf.RegionOpen
import Derived.Test.YtbpodkdlhjgncaaGreatDoorBNU
import Derived.Test.YtbpodkdlhjgncaaGreatDoorRXI
import Derived.Test.YtbpodkdlhjgncaaGreatDoorEVB
namespace Go.Proofs.YtbpodkdlhjgncaaGreatDoor
set_option linter.unusedVariables false
set_option linter.unusedSimpArgs false
open Go.RowKit Go.Shelf
attribute [local go_sem] Oper.semAt_some

set_option maxHeartbeats 8000000 in
set_option maxRecDepth 100000 in
theorem implBind_any (a b d : Option Addr) (c n c2 m c3 : Nat) (ds : List Dc) (xs : List Vg) (ys : List Bw) (w : World) (hr : RdD w a ds) (hs : RdV w b xs) (hn : xs.length = n) (ht : RdW w d ys) (hm : ys.length = m) (hG : GF w) :
    Calls Tryz.prog 11 #[.slice a ds.length c, .slice b n c2, .slice d m c3] w (RetBn w (bnfR ds (xs.map Vg.ct) (ys.map Bw.ct))) := by
  obtain ⟨dn, hdn⟩ : ∃ dn, ds.length = dn := ⟨_, rfl⟩
  have hb0 : Below w.heap.size w (w.alloc (Obj.cells #[Value.slice a dn c] 31)) := (Below.refl _ _).alloc (Nat.le_refl _) _
  have HVA := kide (implValues_any a d c c3 ds ys _ (hr.later hb0) (ht.later hb0) m hm)
  rw [hdn] at HVA
  have B0 := kide hb0
  have XD0 := kide (Bz.new w #[Value.slice a dn c] 31)
  cases hA : valR ds (ys.map Bw.ct) with
  | false =>
    rw [bnfR_no1 hA, hdn]
    rw [hA] at HVA
    clear hA hr hs ht hn hm hb0 hG hdn
    refine (callsIn_wide (n := 5)).1 ?_
    refine callsIn_of_wp_marks Tryz.func11 rfl trivial ?_ rfl
    simp only [Tryz.ntmps11, List.size_toArray, List.length_cons, List.length_nil, Nat.reduceAdd, Nat.reduceSub, Array.replicate_succ, Array.replicate_zero, List.push_toArray, List.append_toArray, List.nil_append, List.cons_append]
    gi_wp2
    refine ⟨trivial, (callsIn_wide.2 HVA.out).mono ?_⟩
    rintro e w1 ⟨rfl, hb1⟩
    have B1 := kide (B0.out.trans (hb1.mono B0.out.size))
    gi_wp2
    exact ⟨.tuple #[.slice none 0 0, .bool false], by simp [results, Tryz.results11, go_sem], ⟨_, [], rfl, Bs.nil _ _, rfl, B1.out⟩⟩
  | true =>
    rw [hA] at HVA
    by_cases h60 : n ≤ 60
    · have hDC := (valR_iff.1 hA).1
      have HOB : Hid (okB ds (ys.map Bw.ct)) := ⟨hA, ht.words⟩
      obtain ⟨hd60, hxl, hxp⟩ := valR_pos hA
      have HCV := kide (fun u (hu : Below w.heap.size w u) => copyValues_any d c3 m ys u (ht.later hu) hm hxp)
      have hX1 : (xs.map Vg.ct).all (bndOk ds) = false → bnfR ds (xs.map Vg.ct) (ys.map Bw.ct) = ([], false) := fun h => bnfR_no3 h
      have hX2 : (xs.map Vg.ct).all (bndOk ds) = true → bnfR ds (xs.map Vg.ct) (ys.map Bw.ct) = (bindF (xs.map Vg.ct) (ys.map Bw.ct), true) := fun h => bnfR_yes hA (by rw [List.length_map, hn]; exact h60) h
      generalize bnfR ds (xs.map Vg.ct) (ys.map Bw.ct) = X at hX1 hX2 ⊢
      have HCF : Hid (∀ u, Below w.heap.size w u → u.cell? ⟨w.heap.size, 0, none⟩ = some (Value.slice a dn c) → Calls Tryz.prog 32 #[.slice b n c2, .func (.func 30) #[] #[.pointer (some ⟨w.heap.size, 0, none⟩)]] u fun e w' => e = .returned (.bool (xs.any fun x => !bndOk ds x.ct)) ∧ Below u.heap.size u w') := fun u hu hc =>
        ContainsV_any 30 (enters_of Tryz.func30 (by kernel_rfl) rfl) (.pointer (some ⟨w.heap.size, 0, none⟩)) (fun x => !bndOk ds x.ct) b c2 n xs u (hs.later hu) hn (fun v hv x hx => by
          obtain ⟨i, hi, e⟩ := List.getElem_of_mem hx
          have hgx : xs[i]? = some x := by rw [List.getElem?_eq_getElem hi, e]
          have hrv := (hs.later hu).later hv
          rcases hrv.2 with h0 | ⟨b', o', -, hcc⟩
          · rw [h0] at hi; simp at hi
          · exact bndF_any a dn c w.heap.size ds x v ((kcell hv _ _ (block_lt_of_cell hc)).trans hc) ((hr.later hu).later hv) hdn (hcc i x hgx).2.1 ((hG.later hu).later hv) hDC)
      have hany : (xs.any fun x => !bndOk ds x.ct) = !((xs.map Vg.ct).all (bndOk ds)) := by
        rw [List.all_map, ← List.not_all_eq_any_not]
        rfl
      rw [hany] at HCF
      have HRD := kide hr
      have HS := kide hs
      have HT := kide ht
      have HN := kide hn
      have HM := kide hm
      have HDC := kide hDC
      have HWS := kide hs.words
      have HDN := kide hdn
      have hmd : m = dn := by rw [← hm, hxl, hdn]
      have HMD := kide hmd
      generalize hRR : (xs.map Vg.ct).all (bndOk ds) = R at hX1 hX2 HCF
      have HR := kide hRR
      have HX1 := kide hX1
      have HX2 := kide hX2
      have H60 := kide h60
      have HD60 := kide hd60
      have hn60 : (n : Int) ≤ 60 := by omega
      rw [hdn]
      have hwd := XD0.out.lt
      obtain ⟨b0, hb0'⟩ : ∃ b0, w.heap.size = b0 := ⟨_, rfl⟩
      have HB0 := kide hb0'
      clear hA hr hs ht hn hm hb0 hxl hxp hX1 hX2 hRR hDC h60 hd60 hany hG hmd hwd
      refine (callsIn_wide (n := 5)).1 ?_
      refine callsIn_of_wp_marks Tryz.func11 rfl trivial ?_ rfl
      simp only [Tryz.ntmps11, List.size_toArray, List.length_cons, List.length_nil, Nat.reduceAdd, Nat.reduceSub, Array.replicate_succ, Array.replicate_zero, List.push_toArray, List.append_toArray, List.nil_append, List.cons_append]
      gi_wp2
      generalize w.alloc (Obj.cells #[Value.slice a dn c] 31) = w0 at *
      try rw [hb0'] at XD0
      try rw [hb0'] at HCF
      try simp only [hb0']
      clear hb0'
      refine ⟨trivial, (callsIn_wide.2 HVA.out).mono ?_⟩
      rintro e w1 ⟨rfl, hb1⟩
      have B1 := kide (B0.out.trans (hb1.mono B0.out.size))
      have XD1 := kide (XD0.out.later hb1)
      have c1 := XD1.out.cell 0
      simp at c1
      have C1 := kide c1
      clear hb1 B0 XD0 HVA c1
      gi_wp2
      refine ⟨trivial, (callsIn_wide.2 (HCF.out w1 (by have h := B1.out; rw [HB0.out] at h; exact h) C1.out)).mono ?_⟩
      rintro e w2 ⟨rfl, hb2⟩
      have B2 := kide (B1.out.trans (hb2.mono B1.out.size))
      have XD2 := kide (XD1.out.later hb2)
      clear hb2 B1 XD1 HCF C1
      cases R with
      | false =>
        simp only [Bool.not_false]
        gi_wp2
        rw [HX1.out (by first | rfl | trivial)]
        exact ⟨.tuple #[.slice none 0 0, .bool false], by simp [results, Tryz.results11, go_sem], ⟨_, [], rfl, Bs.nil _ _, rfl, B2.out⟩⟩
      | true =>
        simp only [Bool.not_true]
        have HXX : Hid (X = (bindF (xs.map Vg.ct) (ys.map Bw.ct), true)) := HX2.out (by first | rfl | trivial)
        gi_wp2
        refine ⟨trivial, (callsIn_wide.2 (HCV.out w2 B2.out)).mono ?_⟩
        rintro e w3 ⟨v3, l3, rfl, bs3, hl3, hb3⟩
        have B3 := kide (B2.out.trans (hb3.mono B2.out.size))
        have XD3 := kide (XD2.out.later hb3)
        obtain ⟨av, cv, rfl⟩ := bs3.form
        have hl3l : l3.length = m := by
          have h := congrArg List.length hl3
          simp at h
          rw [h]; exact HM.out
        rw [hl3l] at bs3
        rw [hl3l]
        have BS3 := kide bs3
        have HL3 := kide hl3
        have S23 : Hid (w.heap.size ≤ w2.heap.size) := B2.out.size
        have H23 := kide hb3
        clear bs3 hl3 hb3 hl3l
        gi_wp2
        refine ⟨trivial, (backward_in Fence.wide _ trivial rfl b n c2 _).mono ?_⟩
        rintro e w' ⟨rfl, rfl⟩
        gi_wp2
        obtain ⟨A, hA⟩ : ∃ A, w3.heap.size = A := ⟨_, rfl⟩
        have HA := kide hA
        have hsz : ((w3.alloc (Obj.cells #[Value.slice av m cv] 28)).alloc (Obj.cells #[Value.slice b n c2] 33)).heap.size = A + 2 := by simp; omega
        have hbW : Below w3.heap.size w3 ((w3.alloc (Obj.cells #[Value.slice av m cv] 28)).alloc (Obj.cells #[Value.slice b n c2] 33)) := ((Below.refl _ _).alloc (Nat.le_refl _) _).alloc (by simp) _
        have hXA : Bz ((w3.alloc (Obj.cells #[Value.slice av m cv] 28)).alloc (Obj.cells #[Value.slice b n c2] 33)) A #[Value.slice av m cv] 28 := by
          rw [← hA]
          exact (Bz.new w3 _ _).later ((Below.refl _ _).alloc (Nat.le_refl _) _)
        have hXB : Bz ((w3.alloc (Obj.cells #[Value.slice av m cv] 28)).alloc (Obj.cells #[Value.slice b n c2] 33)) (A + 1) #[Value.slice b n c2] 33 := by
          have h9 := Bz.new (w3.alloc (Obj.cells #[Value.slice av m cv] 28)) #[Value.slice b n c2] 33
          rw [show (w3.alloc (Obj.cells #[Value.slice av m cv] 28)).heap.size = A + 1 by simp; omega] at h9
          exact h9
        generalize (w3.alloc (Obj.cells #[Value.slice av m cv] 28)).alloc (Obj.cells #[Value.slice b n c2] 33) = W0 at *
        simp only [hA]
        have hbw0 : Below w.heap.size w W0 := B3.out.trans (hbW.mono B3.out.size)
        have hb23 : Below w2.heap.size w2 w3 := H23.out
        have hb2W : Below w2.heap.size w2 W0 := hb23.trans (hbW.mono hb23.size)
        have h2A : w2.heap.size ≤ A := by have := hb23.size; omega
        have hw2 : w.heap.size ≤ w2.heap.size := S23.out
        have h00 : BnS w2 A (A + 2) av m cv xs (ys.map Bw.ct) ([] : List (Fin n)) W0 :=
          ⟨hXA, ⟨_, hXB⟩, ⟨l3, BS3.out.later hbW, HL3.out⟩, hb2W, by omega⟩
        have hI : 0 < n → ∃ b' off, b = some ⟨b', off, none⟩ ∧ b' < w.heap.size ∧ ∀ j, j < n → VsAt W0 b' (off + j * 2) (vgN xs j) := fun h0n => by
          rcases HS.out.2 with h0 | ⟨b', o', rfl, hc⟩
          · have := HN.out; rw [h0] at this; simp at this; omega
          · refine ⟨b', o', rfl, ?_, fun j hj => ?_⟩
            · have hx : xs[0]? = some (xs[0]'(by rw [HN.out]; omega)) := List.getElem?_eq_getElem _
              have := block_lt_of_cell (hc 0 _ hx).1.1
              simp only [] at this
              exact this
            · have hx : xs[j]? = some (vgN xs j) := by
                have h9 : xs[j]? = some (xs[j]'(by rw [HN.out]; omega)) := List.getElem?_eq_getElem _
                rw [h9]; simp [vgN, List.getD, h9]
              exact ((hc j _ hx).later hbw0).1
        have HI9 := kide hI
        clear hI
        refine wpIn_rangeFunc_ownH rfl (by omega) (gf := 57) (lb := #[.pointer (some ⟨A + 1, 0, none⟩)]) rfl trivial (enters_of Tryz.func57 (by kernel_rfl) rfl)
          (backward_stopsG Fence.wide 4 trivial rfl (by omega) (A + 1) w.heap.size n c2 b xs HN.out (by have := H60.out; omega) W0 (by omega) (by omega) (hXB.cell 0) HI9.out)
          KpB.trans (KpB.put (B := W0.heap.size) (by omega) (by omega)) (Below.refl _ _) (fun _ => rfl)
          (fun pre W => BnS w2 A (A + 2) av m cv xs (ys.map Bw.ct) pre W) (fun _ _ _ => False)
          (by rw [hsz]; exact BnS.own (by omega)) (fun _ _ _ _ _ hs _ _ => hs) h00
          (fun x a' W => ∃ Bx, A + 2 ≤ Bx ∧ Bz W Bx #[Value.int .i64 (vgN xs x).v, Value.slice (vgN xs x).ta (vgN xs x).ts.length (vgN xs x).tc] 62 ∧ a' = { tmps := #[Value.slice a dn c, Value.slice b n c2, Value.slice d m c3, Value.pointer (some ⟨b0, 0, none⟩), undef, undef, Value.slice none 0 0, Value.bool false, Value.func (Fn.func 30) #[] #[Value.pointer (some ⟨b0, 0, none⟩)], Value.pointer (some ⟨A, 0, none⟩), undef, Value.pointer (some ⟨Bx, 0, none⟩), Value.slice a dn c, Value.slice d m c3, Value.bool true, Value.bool false, Value.bool false, Value.slice b n c2, Value.int .i64 (n : Int), Value.bool (decide (60 < (n : Int))), Value.bool (decide (60 < (n : Int))), Value.func (Fn.func 30) #[] #[Value.pointer (some ⟨b0, 0, none⟩)], Value.slice b n c2, Value.func (Fn.func 30) #[] #[Value.pointer (some ⟨b0, 0, none⟩)], Value.bool false, Value.slice d m c3, Value.slice av m cv, Value.slice b n c2, Value.func (Fn.func 57) #[] #[Value.pointer (some ⟨A + 1, 0, none⟩)], Value.int .i64 ((x : Nat) : Int), (vgN xs x).val, undef, undef, undef, undef, undef, undef, undef, undef, undef], defers := [] })
          (fun x a' _ X Y row hs hg hr => by obtain ⟨Bx, h1, h2, h3⟩ := hs; exact ⟨Bx, h1, bz_ownB h2 hg (fun r e => (hr r e).2), h3⟩)
          ?assign ?body ?done ?stop
        case stop => exact fun _ _ _ _ _ _ h _ => h.elim
        case assign =>
          rintro l pre x W K hU hK
          have HKQ := kide hK
          clear hK
          simp only [Vg.val]
          gi_wp2
          have hba : Below W.heap.size W (W.alloc (Obj.cells #[Value.int .i64 (vgN xs x).v, Value.slice (vgN xs x).ta (vgN xs x).ts.length (vgN xs x).tc] 62)) := (Below.refl _ _).alloc (Nat.le_refl _) _
          have hsW := hU.sz
          exact HKQ.out _ _ ((KeepsOthers.alloc _ _).from _) ⟨hba.mono (by have := hU.bl.size; omega), hba.block _ (by omega)⟩ (hU.later hba) ⟨W.heap.size, hU.sz, Bz.new W _ _, rfl⟩
        case body =>
          rintro l pre x a' W hl hrec hU ⟨Bx, hBx, hX, rfl⟩ hpN
          have HU := kide hU
          have HX := kide hX
          have HREC := kide hrec
          have d2 := hU.xb.cell 0
          have d4 := hX.cell 0
          have d5 := hX.cell 1
          simp at d2 d4 d5
          obtain ⟨lb, hbs, hct⟩ := hU.tk
          have HBS := kide hbs
          have HCT := kide hct
          have hxx : xs[(x : Nat)]? = some (vgN xs x) := by
            have hx9 : (x : Nat) < xs.length := by rw [HN.out]; exact x.isLt
            have h9 : xs[(x : Nat)]? = some (xs[(x : Nat)]'hx9) := List.getElem?_eq_getElem _
            rw [h9]; simp [vgN, List.getD, h9]
          have HXX9 := kide hxx
          have hmem : vgN xs x ∈ xs := List.mem_of_getElem? hxx
          have hbo := List.all_eq_true.1 HR.out (vgN xs x).ct (List.mem_map_of_mem hmem)
          obtain ⟨⟨hv0, hv1⟩, -, hW0⟩ := bnd_wid HDC.out hbo
          have hokl : okB ds (lb.map Bw.ct) := by
            rw [hct]
            exact okB.pre HN.out HOB.out HR.out HWS.out pre
          obtain ⟨ra, rc, re, hrw⟩ := hbs.rd hokl.okW
          have hll : lb.length = m := by
            obtain ⟨fa, fc, fe⟩ := hbs.form
            exact (Value.slice.inj fe).2.1.symm
          rw [hll] at re
          cases re
          have hrt : RdT w (vgN xs x).ta (vgN xs x).ts := by
            rcases HS.out.2 with h0 | ⟨b', o', -, hc⟩
            · rw [h0] at hmem; simp at hmem
            · exact (hc x _ hxx).2.1
          have hbwW : Below w.heap.size w W := B2.out.trans (hU.bl.mono B2.out.size)
          have HEV := kide (fun u (hu : Below W.heap.size W u) => evalTerm_any av (vgN xs x).ta cv (vgN xs x).tc (vgN xs x).ts.length ds lb (vgN xs x).ts u (hrw.later hu) ((hrt.later hbwW).later hu) rfl hW0 hokl.1)
          rw [hll] at HEV
          obtain ⟨vq, hvq⟩ := Int.eq_ofNat_of_zero_le hv0
          replace hvq : (vgN xs x).v = (vq : Int) := hvq
          have hvN : vq < m := by
            have h1 := HMD.out
            have h2 := HDN.out
            have h3 : (vgN xs x).v < (ds.length : Int) := hv1
            omega
          obtain ⟨g, c', eg, -, -⟩ := hbs.row.at (List.getElem?_eq_getElem (show vq < lb.length by omega))
          rw [hll] at eg
          cases eg
          have HVQ := kide hvq
          have HLN := kide hll
          have HVN := kide hvN
          have j1 : (vq : Int) < (m : Int) := by omega
          rw [hvq] at d4
          obtain ⟨X9, hX9⟩ : ∃ X9, evalR (lb.map Bw.ct) ((vgN xs x).ts.map Tg.ct) = X9 := ⟨_, rfl⟩
          rw [hX9] at HEV
          have HX9 := kide hX9
          obtain ⟨ta, hta⟩ : ∃ y, (vgN xs x).ta = y := ⟨_, rfl⟩
          obtain ⟨tc, htc⟩ : ∃ y, (vgN xs x).tc = y := ⟨_, rfl⟩
          obtain ⟨tn, htn⟩ : ∃ y, (vgN xs x).ts.length = y := ⟨_, rfl⟩
          rw [hta, htc, htn] at HEV d5
          have HXB : Hid (Bz W Bx #[Value.int .i64 (vq : Int), Value.slice ta tn tc] 62) := by
            have h9 := hX
            rw [hvq, hta, htc, htn] at h9
            exact h9
          clear hU hX hrec hbs hct hxx hmem hbo hv0 hv1 hW0 hokl hrw hll hrt hvq hvN hX9 hta htc htn
          gi_wp2
          have hmx : Tryz.prog.follows .mixedOrders = true := by kernel_rfl
          refine wpIn_region_x (SA := fun uu => uu.cell? ⟨A, 0, none⟩ = some (Value.slice (some ⟨g, 0, none⟩) m cv) ∧ uu.cell? ⟨Bx, 0, none⟩ = some (Value.int .i64 (vq : Int)) ∧ uu.cell? ⟨Bx, 1, none⟩ = some (Value.slice ta tn tc)) (SB := fun _ => True) (k := 8) hmx (by kernel_rfl) ?_
          have hbd : Below W.heap.size W W.drew := (Below.refl _ _).drew
          have BP0 := kide hbd
          have BPZ : Hid (W.heap.size ≤ W.drew.heap.size) := hbd.size
          clear hbd
          generalize W.drew = p0 at *
          have c0_0 : p0.cell? ⟨A, 0, none⟩ = some (Value.slice (some ⟨g, 0, none⟩) m cv) := (kcell BP0.out _ _ HU.out.xb.lt).trans (HU.out.xb.cell 0)
          have c1_0 : p0.cell? ⟨Bx, 0, none⟩ = some (Value.int .i64 (vq : Int)) := (kcell BP0.out _ _ HXB.out.lt).trans (HXB.out.cell 0)
          have c2_0 : p0.cell? ⟨Bx, 1, none⟩ = some (Value.slice ta tn tc) := (kcell BP0.out _ _ HXB.out.lt).trans (HXB.out.cell 1)
          have hs0 : Hid ((fun uu => uu.cell? ⟨A, 0, none⟩ = some (Value.slice (some ⟨g, 0, none⟩) m cv) ∧ uu.cell? ⟨Bx, 0, none⟩ = some (Value.int .i64 (vq : Int)) ∧ uu.cell? ⟨Bx, 1, none⟩ = some (Value.slice ta tn tc)) p0) := ⟨c0_0, c1_0, c2_0⟩
          try go_simp
          refine wpAnyX_take (i := 0) (v := Value.slice (some ⟨g, 0, none⟩) m cv) rfl (by kernel_rfl) (by kernel_rfl) (by kernel_rfl) (fun _ _ _ h => by first | exact h | exact h.elim) (by decide) (by kernel_rfl) (by kernel_rfl) hs0.out (Or.inl ⟨by rfl, fun uu hu => by obtain ⟨e0, e1, e2⟩ := hu; go_simp⟩) ?_
          try go_simp
          refine wpAnyX_both (T := fun _ => True) (i := 1) (v := Value.pointer (some ⟨Bx, 0, none⟩)) rfl (by kernel_rfl) (by kernel_rfl) (by kernel_rfl) (fun _ _ _ h => by first | exact h | exact h.elim) (by decide) (fun _ _ => trivial) (fun _ _ => trivial) (Sx.before (by kernel_rfl) hs0.out) (Or.inl ⟨by rfl, fun uu hu => by go_simp⟩) ?_
          try go_simp
          refine wpAnyX_take (i := 2) (v := Value.int .i64 (vq : Int)) rfl (by kernel_rfl) (by kernel_rfl) (by kernel_rfl) (fun _ _ _ h => by first | exact h | exact h.elim) (by decide) (by kernel_rfl) (by kernel_rfl) hs0.out (Or.inl ⟨by rfl, fun uu hu => by obtain ⟨e0, e1, e2⟩ := hu; go_simp⟩) ?_
          try go_simp
          refine wpAnyX_take (i := 3) (v := Value.slice (some ⟨g, 0, none⟩) m cv) rfl (by kernel_rfl) (by kernel_rfl) (by kernel_rfl) (fun _ _ _ h => by first | exact h | exact h.elim) (by decide) (by kernel_rfl) (by kernel_rfl) hs0.out (Or.inl ⟨by rfl, fun uu hu => by obtain ⟨e0, e1, e2⟩ := hu; go_simp⟩) ?_
          try go_simp
          refine wpAnyX_both (T := fun _ => True) (i := 4) (v := Value.pointer (some ⟨Bx, 1, none⟩)) rfl (by kernel_rfl) (by kernel_rfl) (by kernel_rfl) (fun _ _ _ h => by first | exact h | exact h.elim) (by decide) (fun _ _ => trivial) (fun _ _ => trivial) (Sx.before (by kernel_rfl) hs0.out) (Or.inl ⟨by rfl, fun uu hu => by go_simp⟩) ?_
          try go_simp
          refine wpAnyX_take (i := 5) (v := Value.agg #[Value.slice ta tn tc]) rfl (by kernel_rfl) (by kernel_rfl) (by kernel_rfl) (fun _ _ _ h => by first | exact h | exact h.elim) (by decide) (by kernel_rfl) (by kernel_rfl) hs0.out (Or.inl ⟨by rfl, fun uu hu => by obtain ⟨e0, e1, e2⟩ := hu; go_simp⟩) ?_
          try go_simp
          refine wpAnyX_ready (rs := [6]) (by kernel_rfl) (by simp) (AllX.cons rfl (fun K hK => ?_) AllX.nil)
          go_simp
          refine Calls.mono (HEV.out p0 BP0.out) ?_
          rintro e p1 ⟨a5, c5, rfl, hn5, hb5⟩
          have BP1 := kide (BP0.out.trans (hb5.mono BP0.out.size))
          have NW5 := kide (hn5.mono BPZ.out)
          clear hn5 hb5
          have c0_1 : p1.cell? ⟨A, 0, none⟩ = some (Value.slice (some ⟨g, 0, none⟩) m cv) := (kcell BP1.out _ _ HU.out.xb.lt).trans (HU.out.xb.cell 0)
          have c1_1 : p1.cell? ⟨Bx, 0, none⟩ = some (Value.int .i64 (vq : Int)) := (kcell BP1.out _ _ HXB.out.lt).trans (HXB.out.cell 0)
          have c2_1 : p1.cell? ⟨Bx, 1, none⟩ = some (Value.slice ta tn tc) := (kcell BP1.out _ _ HXB.out.lt).trans (HXB.out.cell 1)
          have hs1 : Hid ((fun uu => uu.cell? ⟨A, 0, none⟩ = some (Value.slice (some ⟨g, 0, none⟩) m cv) ∧ uu.cell? ⟨Bx, 0, none⟩ = some (Value.int .i64 (vq : Int)) ∧ uu.cell? ⟨Bx, 1, none⟩ = some (Value.slice ta tn tc)) p1) := ⟨c0_1, c1_1, c2_1⟩
          refine hK _ _ (Sx.before (by kernel_rfl) hs1.out) ?_
          clear hK K
          try go_simp
          refine wpAnyX_both (T := fun _ => True) (i := 7) (v := Value.pointer (some ⟨g, vq * 2, none⟩)) rfl (by kernel_rfl) (by kernel_rfl) (by kernel_rfl) (fun _ _ _ h => by first | exact h | exact h.elim) (by decide) (fun _ _ => trivial) (fun _ _ => trivial) (Sx.before (by kernel_rfl) hs1.out) (Or.inl ⟨by rfl, fun uu hu => by go_simp⟩) ?_
          try go_simp
          refine wpAnyX_ready (rs := [8]) (by kernel_rfl) (by simp) (AllX.cons rfl (fun K hK => ?_) AllX.nil)
          obtain ⟨g', c', eg, z0, z1⟩ := (HBS.out.row.later BP1.out).at (List.getElem?_eq_getElem (show vq < lb.length by have := HLN.out; have := HVN.out; omega))
          rw [HLN.out] at eg
          cases eg
          obtain ⟨cur, hcur⟩ := (HBS.out.row.later BP1.out).blk
          have f0 := hcur.froz (vq * 2)
          have f1 := hcur.froz (vq * 2 + 1)
          go_simp
          have HEND := kide (bn_end (c5 := c5) hw2 h2A HU.out HBS.out HCT.out BP1.out NW5.out (X := X9) HX9.out HVQ.out)
          generalize (p1.setCell ⟨g, vq * 2, none⟩ (.int .i64 X9.1)).setCell ⟨g, vq * 2 + 1, none⟩ (.slice a5 X9.2.length c5) = p2 at *
          clear hcur f0 f1 z0 z1
          refine hK _ _ (Sx.behind (by kernel_rfl) trivial) ?_
          clear hK K
          try go_simp
          refine wpAnyX_done (by kernel_rfl) ?_ _
          refine onlyN_in ?_
          gi_wp2
          try rw [hsz]
          exact HEND.out
        case done =>
          rintro D zs W hD rfl hU hK
          have HU := kide hU
          have HKD := kide hK
          obtain ⟨lb, hbs, hct⟩ := hU.tk
          have HBS := kide hbs
          have HCT := kide hct
          have d2 := hU.xb.cell 0
          simp at d2
          have HBL := kide hU.bl
          have hD9 : w.heap.size ≤ D := by omega
          clear hU hK hbs hct
          gi_wp2
          refine ⟨by simp, .inl ⟨_, _, rfl, run_takeDeferred HKD.out, ?_⟩⟩
          rw [HXX.out]
          exact ⟨.tuple #[.slice av m cv, .bool true], by simp [results, Tryz.results11, go_sem], ⟨_, lb, rfl, bs_putD (HBS.out.mono B2.out.size) HKD.out, by rw [HCT.out, bL_bw HN.out], below_putB (B2.out.trans (HBL.out.mono B2.out.size)) hD9⟩⟩
    · rw [bnfR_no2 (by rw [List.length_map, hn]; exact h60), hdn]
      have h60' : (60 : Int) < (n : Int) := by omega
      clear hA hr hs ht hn hm hb0 h60 hG hdn
      refine (callsIn_wide (n := 5)).1 ?_
      refine callsIn_of_wp_marks Tryz.func11 rfl trivial ?_ rfl
      simp only [Tryz.ntmps11, List.size_toArray, List.length_cons, List.length_nil, Nat.reduceAdd, Nat.reduceSub, Array.replicate_succ, Array.replicate_zero, List.push_toArray, List.append_toArray, List.nil_append, List.cons_append]
      gi_wp2
      refine ⟨trivial, (callsIn_wide.2 HVA.out).mono ?_⟩
      rintro e w1 ⟨rfl, hb1⟩
      have B1 := kide (B0.out.trans (hb1.mono B0.out.size))
      gi_wp2
      exact ⟨.tuple #[.slice none 0 0, .bool false], by simp [results, Tryz.results11, go_sem], ⟨_, [], rfl, Bs.nil _ _, rfl, B1.out⟩⟩

end Go.Proofs.YtbpodkdlhjgncaaGreatDoor
