/- What the given Bind answers. -/
import Derived.Test.YtbpodkdlhjgncaaGreatDoorBNF
import Derived.Test.YtbpodkdlhjgncaaGreatDoorZVR
namespace Go.Proofs.YtbpodkdlhjgncaaGreatDoor
set_option linter.unusedVariables false
set_option linter.unusedSimpArgs false
open Go.RowKit

/-- What Bind tells: a row of words, or none. -/
def RetBn (w : World) (X : List Wd × Bool) (e : Ending) (w' : World) : Prop := ∃ v l, e = .returned (.tuple #[v, .bool X.2]) ∧ Bs w' w.heap.size v l ∧ l.map Bw.ct = X.1 ∧ Below w.heap.size w w'
theorem Bs.emptyB (w : World) (B : Nat) (h : B ≤ w.heap.size) : Bs (w.alloc (.cells #[] 63)) B (.slice (some ⟨w.heap.size, 0, Option.none⟩) 0 0) [] := ⟨OB2.empty w B h, by simp, DjB.nil⟩
theorem bnfR_no1 {ds : List Dc} {bs : List Vc} {vs : List Wd} (h : valR ds vs = false) : bnfR ds bs vs = ([], false) := by simp [bnfR, h]
theorem bnfR_no2 {ds : List Dc} {bs : List Vc} {vs : List Wd} (h : ¬ bs.length ≤ 60) : bnfR ds bs vs = ([], false) := by simp [bnfR, h]
theorem bnfR_no3 {ds : List Dc} {bs : List Vc} {vs : List Wd} (h : bs.all (bndOk ds) = false) : bnfR ds bs vs = ([], false) := by
  unfold bnfR
  rw [if_neg (fun k => by rw [k.2.2] at h; cases h)]
theorem bnfR_yes {ds : List Dc} {bs : List Vc} {vs : List Wd} (h1 : valR ds vs = true) (h2 : bs.length ≤ 60) (h3 : bs.all (bndOk ds) = true) : bnfR ds bs vs = (bindF bs vs, true) := by
  unfold bnfR
  rw [if_pos ⟨h1, h2, h3⟩]
theorem allV_step {p : Vc → Bool} {xs : List Vg} {k : Nat} {x : Vg} (h : xs[k]? = some x) : ((xs.map Vg.ct).drop k).all p = (p x.ct && ((xs.map Vg.ct).drop (k + 1)).all p) := by
  have hk : k < (xs.map Vg.ct).length := by simpa using (List.getElem?_eq_some_iff.1 h).1
  have hx : (xs.map Vg.ct)[k] = x.ct := by simp [(List.getElem?_eq_some_iff.1 h).2]
  rw [List.drop_eq_getElem_cons hk, hx, List.all_cons]
theorem all_drop {α : Type} {p : α → Bool} {l : List α} (h : l.all p = true) (k : Nat) : (l.drop k).all p = true := by
  rw [List.all_eq_true] at h ⊢
  exact fun x hx => h x (List.mem_of_mem_drop hx)
theorem RdV.words {w : World} {a : Option Addr} {xs : List Vg} (h : RdV w a xs) : ∀ b ∈ xs.map Vg.ct, ∀ n ∈ b.ts, ∀ y ∈ n.ws, y < 18446744073709551616 := by
  intro b hb
  obtain ⟨x, hx, rfl⟩ := List.mem_map.1 hb
  obtain ⟨i, hi, e⟩ := List.getElem_of_mem hx
  rcases h.2 with h0 | ⟨b', o, -, hc⟩
  · rw [h0] at hi; simp at hi
  · exact (hc i x (by rw [List.getElem?_eq_getElem hi, e])).2.1.words

set_option maxHeartbeats 4000000 in
set_option maxRecDepth 100000 in
theorem specBind_any (a b d : Option Addr) (c n c2 m c3 : Nat) (ds : List Dc) (xs : List Vg) (ys : List Bw) (w : World) (hr : RdD w a ds) (hs : RdV w b xs) (hn : xs.length = n) (ht : RdW w d ys) (hm : ys.length = m) :
    Calls Tryz.prog 7 #[.slice a ds.length c, .slice b n c2, .slice d m c3] w (RetBn w (bnfR ds (xs.map Vg.ct) (ys.map Bw.ct))) := by
  have hb0 : Below w.heap.size w (w.alloc (Obj.cells #[] 63)) := (Below.refl _ _).alloc (Nat.le_refl _) _
  have E0 := kide (Bs.emptyB w w.heap.size (Nat.le_refl _))
  have HVA := kide (specValues_any a d c c3 ds ys _ (hr.later hb0) (ht.later hb0) m hm)
  have B0 := kide hb0
  cases hA : valR ds (ys.map Bw.ct) with
  | false =>
    rw [bnfR_no1 hA]
    rw [hA] at HVA
    clear hA hr hs ht hn hm hb0
    go_enter Tryz.func7, Tryz.ntmps7
    go_wp2_with fail
    refine Calls.mono HVA.out ?_
    rintro e w1 ⟨rfl, hb1⟩
    go_wp2_with fail
    go_returns
    exact ⟨_, [], rfl, E0.out.later hb1, rfl, B0.out.trans (hb1.mono B0.out.size)⟩
  | true =>
    rw [hA] at HVA
    by_cases h60 : n ≤ 60
    · obtain ⟨hd60, hxl, hxp⟩ := valR_pos hA
      rw [hm] at hxl
      obtain rfl := hxl.symm
      have hDC := (valR_iff.1 hA).1
      have HOB : Hid (okB ds (ys.map Bw.ct)) := ⟨hA, ht.words⟩
      have hX1 : (xs.map Vg.ct).all (bndOk ds) = false → bnfR ds (xs.map Vg.ct) (ys.map Bw.ct) = ([], false) := fun h => bnfR_no3 h
      have hX2 : (xs.map Vg.ct).all (bndOk ds) = true → bnfR ds (xs.map Vg.ct) (ys.map Bw.ct) = (bindF (xs.map Vg.ct) (ys.map Bw.ct), true) := fun h => bnfR_yes hA (by rw [List.length_map, hn]; exact h60) h
      generalize bnfR ds (xs.map Vg.ct) (ys.map Bw.ct) = X at hX1 hX2 ⊢
      have HRD := kide hr
      have HS := kide hs
      have HT := kide ht
      have HN := kide hn
      have HM := kide hm
      have HYP := kide hxp
      have HDC := kide hDC
      have HWS := kide hs.words
      obtain ⟨N, hNN⟩ : ∃ N, ds.length = N := ⟨_, rfl⟩
      have HNN := kide hNN
      rw [hNN] at hd60 HM HVA
      rw [hNN]
      generalize hRR : (xs.map Vg.ct).all (bndOk ds) = R at hX1 hX2
      have HR := kide hRR
      have HX1 := kide hX1
      have HX2 := kide hX2
      have H60 := kide h60
      have HD60 := kide hd60
      have hn60 : (n : Int) ≤ 60 := by omega
      have hN60 : (N : Int) ≤ 60 := by omega
      clear hA hr hs ht hn hm hb0 hxl hxp hX1 hX2 hNN hRR hDC h60 hd60
      go_enter Tryz.func7, Tryz.ntmps7
      go_wp2_with fail
      generalize w.alloc (Obj.cells #[] 63) = w0 at *
      refine Calls.mono HVA.out ?_
      rintro e w1 ⟨rfl, hb1⟩
      have B1 := kide (B0.out.trans (hb1.mono B0.out.size))
      have E1 := kide (E0.out.later hb1)
      clear hb1 E0 B0 HVA
      go_wp2_with fail
      go_loopw [9] (fun i wr => ∃ k : Nat, k ≤ n ∧ i = .int .i64 (k : Int) ∧ ((xs.map Vg.ct).drop k).all (bndOk ds) = R ∧ Below w1.heap.size w1 wr) (fun i _ => n - (intOf i).toNat)
      case atStart => exact ⟨0, Nat.zero_le _, rfl, by simpa using HR.out, Below.refl _ _⟩
      case round =>
        obtain ⟨k, hk, rfl, hz, hbel⟩ := hrel
        have HB := kide hbel
        have HBW := kide (B1.out.trans (hbel.mono B1.out.size))
        by_cases hlt : k < n
        · obtain ⟨-, h | ⟨b2, o2, rfl, hc⟩⟩ := HS.out.later HBW.out
          · have := HN.out; subst h; simp at this; omega
          obtain ⟨x, gx⟩ : ∃ y, xs[k]? = some y := ⟨xs[k]'(by rw [HN.out]; exact hlt), List.getElem?_eq_getElem _⟩
          obtain ⟨⟨p0, p1⟩, p2, -⟩ := hc k x gx
          rw [allV_step gx] at hz
          have HFI := kide (fun u (hu : Below wr.heap.size wr u) => l16Fits_any a c N ds x u ((HRD.out.later HBW.out).later hu) (p2.later hu) HDC.out HNN.out)
          generalize bndOk ds x.ct = Q at *
          obtain ⟨v, ts, ta, tc⟩ := x
          simp only [Vg.val] at p0 p1 HFI
          generalize ts.length = tn at *
          have i0 : (k : Int) < (n : Int) := by omega
          have HZ := kide hz
          clear hc gx p2 hz hbel
          cases Q with
          | true =>
            have HZ1 : Hid (((xs.map Vg.ct).drop (k + 1)).all (bndOk ds) = R) := by have h := HZ.out; rw [Bool.true_and] at h; exact h
            go_wp2_with fail
            refine Calls.mono (HFI.out _ (Below.refl _ _)) ?_
            rintro e w2 ⟨rfl, hb2⟩
            go_wp2_with fail
            go_roundw
            case rel => exact ⟨k + 1, by omega, by go_num, HZ1.out, HB.out.trans (hb2.mono HB.out.size)⟩
            case measure => simp [intOf]; omega
          | false =>
            have HZ1 : Hid (R = false) := by have h := HZ.out; simp at h; exact h
            go_wp2_with fail
            refine Calls.mono (HFI.out _ (Below.refl _ _)) ?_
            rintro e w2 ⟨rfl, hb2⟩
            have B3 := kide (HBW.out.trans (hb2.mono HBW.out.size))
            have E3 := kide ((E1.out.later HB.out).later hb2)
            clear hb2
            go_wp2_with fail
            go_returns
            rw [HX1.out HZ1.out]
            exact ⟨_, [], rfl, E3.out, rfl, B3.out⟩
        · have HRT : Hid (R = true) := by
            show _ = _
            rw [← hz, List.drop_eq_nil_of_le (by rw [List.length_map, HN.out]; omega)]
            rfl
          have HE2 := kide (E1.out.later hbel)
          clear hz hbel HB E1 B1
          go_wp2_with fail
          go_loopw [8, 10] (fun v q wr => ∃ (k : Nat) (l : List Bw), k ≤ N ∧ q = .int .i64 (k : Int) ∧ Bs wr w.heap.size v l ∧ l.map Bw.ct = (ys.take k).map Bw.ct ∧ Below w.heap.size w wr) (fun _ q _ => N - (intOf q).toNat)
          case atStart => exact ⟨0, [], Nat.zero_le _, rfl, HE2.out, rfl, HBW.out⟩
          case round =>
            clear HBW HE2
            obtain ⟨k, l, hk, rfl, hbs, hct, hbel⟩ := hrel
            have HB := kide hbel
            have HBS := kide hbs
            have HCT := kide hct
            by_cases hlt : k < N
            · obtain ⟨-, h | ⟨b6, o6, rfl, hcx⟩⟩ := HT.out.later hbel
              · have := HM.out; subst h; simp at this; omega
              obtain ⟨x, gx⟩ : ∃ y, ys[k]? = some y := ⟨ys[k]'(by rw [HM.out]; exact hlt), List.getElem?_eq_getElem _⟩
              obtain ⟨p0, p1, p2, -⟩ := hcx k x gx
              have hx0 := HYP.out x (List.mem_of_getElem? gx)
              have GX := kide gx
              obtain ⟨xd, xa, xc, xw⟩ := x
              simp only [] at p0 p1 p2 hx0
              obtain ⟨-, -, h | ⟨xb, xo, rfl, -⟩⟩ := id p2
              · rw [h] at hx0; simp at hx0
              have i0 : (k : Int) < (N : Int) := by omega
              have XP := kide p2
              obtain ⟨xm, hxm⟩ : ∃ m, xw.length = m := ⟨_, rfl⟩
              rw [hxm] at p1
              have XM := kide hxm
              have lb := block_lt_of_cell p0
              have hll : l.length ≤ 1073741824 := by
                have h := congrArg List.length HCT.out
                simp at h
                have := HD60.out
                omega
              have HLL := kide hll
              clear hcx gx p2 hbs hct hbel hxm hx0 hll
              go_wp2_with fail
              refine Calls.mono (l8CopyG xd xb xo xc xm xw _ XP.out XM.out) ?_
              rintro e w4 ⟨a2, c4, rfl, hn2, hb2⟩
              have HW1 := kide hb2
              have HN2 := kide hn2
              clear hn2 hb2
              have hb3 : Below w4.heap.size w4 (w4.alloc (Obj.cells #[Value.int .i64 xd, Value.slice a2 xm c4] 63)) := (Below.refl _ _).alloc (Nat.le_refl _) _
              have q0 : (w4.alloc (Obj.cells #[Value.int .i64 xd, Value.slice a2 xm c4] 63)).cell? ⟨w4.heap.size, 0, none⟩ = some (.int .i64 xd) := by simp
              have q1 : (w4.alloc (Obj.cells #[Value.int .i64 xd, Value.slice a2 xm c4] 63)).cell? ⟨w4.heap.size, 1, none⟩ = some (.slice a2 xm c4) := by simp
              have HW3 := kide (HW1.out.trans (hb3.mono HW1.out.size))
              have HN3 := kide (HN2.out.later hb3)
              go_wp2_with (at_builtin; refine wpList_appB2 rfl _ _ rfl w.heap.size u8 l ⟨xd, a2, c4, xw⟩ (by first | rfl | simp [Act.eval]) (HBS.out.row.later HW3.out) w4.heap.size 1 (by first | rfl | simp [Act.eval]) q0 (by rw [XM.out]; exact q1) HLL.out (Nat.le_trans HB.out.size HW3.out.size) ?_)
              intro g cap w5 ho5 hg5
              have HBS5 := kide (HBS.out.app HW3.out HB.out.size (y := ⟨xd, a2, c4, xw⟩) HN3.out hg5 ho5)
              have HB5 : Hid (Below w.heap.size w w5) := Below.grown (HB.out.trans (HW3.out.mono HB.out.size)) hg5 (Nat.le_trans HB.out.size HW3.out.size) (fun j hj => (HBS.out.row.lt hj).1)
              clear ho5 hg5 q0 q1 hb3
              go_wp2_with fail
              go_roundw
              case rel =>
                refine ⟨k + 1, l ++ [⟨xd, a2, c4, xw⟩], by omega, by go_num, HBS5.out, ?_, HB5.out⟩
                rw [List.map_append, HCT.out, List.take_add_one, GX.out, List.map_append]
                rfl
              case measure => simp [intOf]; omega
            · have hkn : k = N := by omega
              have HE : Hid (l.map Bw.ct = ys.map Bw.ct) := by
                show _ = _
                rw [hct, hkn, ← HM.out, List.take_length]
              obtain ⟨av, cv, rfl⟩ := hbs.form
              have hll : l.length = N := by
                have h := congrArg List.length HE.out
                simp at h
                rw [h, HM.out]
              rw [hll] at HBS
              rw [hll]
              have HCK : Hid ((xs.map Vg.ct).all (bndOk ds) = true) := by show _ = _; rw [HR.out, HRT.out]
              have hw1 : wrap64 ((n : Int) - 1) = (n : Int) - 1 := by have := H60.out; unfold wrap64; omega
              have HW1 := kide hw1
              clear hbs hct hbel hll hw1 HCT
              go_wp2_with fail
              try rw [HW1.out]
              go_loopw [11] (fun i wr => ∃ (k : Nat) (l : List Bw), k ≤ n ∧ i = .int .i64 ((n : Int) - 1 - (k : Int)) ∧ Bs wr w.heap.size (.slice av N cv) l ∧ l.map Bw.ct = bindF ((xs.map Vg.ct).drop (n - k)) (ys.map Bw.ct) ∧ Below w.heap.size w wr) (fun i _ => (intOf i + 1).toNat)
              case atStart => exact ⟨0, l, Nat.zero_le _, by simp, HBS.out, by rw [List.drop_eq_nil_of_le (by rw [List.length_map, HN.out]; omega)]; exact HE.out, HB.out⟩
              case round =>
                clear HBS HE HB
                obtain ⟨k, l, hk, rfl, hbs, hct, hbel⟩ := hrel
                have HB := kide hbel
                have HBS := kide hbs
                have HCT := kide hct
                have hokl : okB ds (l.map Bw.ct) := by
                  rw [hct]
                  exact HOB.out.all _ (all_drop HCK.out _) fun b hb => HWS.out b (List.mem_of_mem_drop hb)
                by_cases hlt : k < n
                · obtain ⟨q, hq⟩ : ∃ q : Nat, n - 1 - k = q := ⟨_, rfl⟩
                  have eq : (n : Int) - 1 - (k : Int) = (q : Int) := by omega
                  rw [eq]
                  have hqn : q < n := by omega
                  obtain ⟨-, h | ⟨b2, o2, rfl, hc⟩⟩ := HS.out.later hbel
                  · have := HN.out; subst h; simp at this; omega
                  obtain ⟨x, gx⟩ : ∃ y, xs[q]? = some y := ⟨xs[q]'(by rw [HN.out]; exact hqn), List.getElem?_eq_getElem _⟩
                  obtain ⟨⟨p0, p1⟩, p2, -⟩ := hc q x gx
                  have hbo := List.all_eq_true.1 HCK.out x.ct (List.mem_map_of_mem (List.mem_of_getElem? gx))
                  obtain ⟨⟨hv0, hv1⟩, -, hW0⟩ := bnd_wid HDC.out hbo
                  obtain ⟨ra, rc, re, hrw⟩ := hbs.rd hokl.okW
                  have hll : l.length = N := by
                    obtain ⟨fa, fc, fe⟩ := hbs.form
                    exact (Value.slice.inj fe).2.1.symm
                  rw [hll] at re
                  cases re
                  have hdrop : (xs.map Vg.ct).drop (n - (k + 1)) = x.ct :: (xs.map Vg.ct).drop (n - k) := by
                    have hk9 : n - (k + 1) < (xs.map Vg.ct).length := by rw [List.length_map, HN.out]; omega
                    rw [List.drop_eq_getElem_cons hk9, show n - (k + 1) + 1 = n - k by omega]
                    congr 1
                    have e9 : n - (k + 1) = q := by omega
                    simp only [List.getElem_map]
                    congr 1
                    have := (List.getElem?_eq_some_iff.1 gx).2
                    simp only [e9]
                    exact this
                  have HDR := kide hdrop
                  have HL4 := kide (fun u (hu : Below wr.heap.size wr u) => l4Eval_any av x.ta cv x.tc x.ts.length ds l x.ts u (hrw.later hu) (p2.later hu) rfl hW0 hokl.1)
                  have HLT := kide hlt
                  have HQN := kide hqn
                  have HQ := kide hq
                  have HEQ := kide eq
                  have hqw : wrap64 ((q : Int) - 1) = (q : Int) - 1 := by unfold wrap64; have := H60.out; omega
                  have HQW := kide hqw
                  obtain ⟨v, ts, ta, tc⟩ := x
                  simp only [Vg.ct] at p0 p1 hv0 hv1 HL4 HDR
                  obtain ⟨vq, rfl⟩ := Int.eq_ofNat_of_zero_le hv0
                  rw [hll] at HL4
                  have hvN : vq < N := by have := HNN.out; omega
                  have HVN := kide hvN
                  have j0 : (q : Int) < (n : Int) := by omega
                  have j1 : (vq : Int) < (N : Int) := by omega
                  have j2 : (0 : Int) ≤ (q : Int) := by omega
                  obtain ⟨g, c', eg, z0, z1⟩ := hbs.row.at (List.getElem?_eq_getElem (show vq < l.length by omega))
                  rw [hll] at eg
                  cases eg
                  generalize hX : evalR (l.map Bw.ct) (ts.map Tg.ct) = X at *
                  have HX := kide hX
                  have HLN := kide hll
                  generalize ts.length = tn at *
                  have l2 := block_lt_of_cell p0
                  clear hc gx p2 hbs hct hbel hokl hbo hW0 hrw hll hdrop hq hqn hlt hqw hv0 hv1 hX hvN z0 z1 eq
                  go_wp2_with fail
                  refine wp_region_x (SA := fun uu => uu.cell? ⟨b2, o2 + q * 2, none⟩ = some (Value.int .i64 (vq : Int)) ∧ uu.cell? ⟨b2, o2 + q * 2 + 1, none⟩ = some (Value.slice ta tn tc)) (SB := fun _ => True) (k := 14) (by kernel_rfl) ?_
                  have r0 := p0
                  have r1 := p1
                  clear p0 p1
                  have hbd : Below wr.heap.size wr wr.drew := (Below.refl _ _).drew
                  have BP0 := kide hbd
                  have BPZ : Hid (wr.heap.size ≤ wr.drew.heap.size) := hbd.size
                  clear hbd
                  generalize wr.drew = p0 at *
                  have c0_0 : p0.cell? ⟨b2, o2 + q * 2, none⟩ = some (Value.int .i64 (vq : Int)) := (kcell BP0.out _ _ l2).trans r0
                  have c1_0 : p0.cell? ⟨b2, o2 + q * 2 + 1, none⟩ = some (Value.slice ta tn tc) := (kcell BP0.out _ _ l2).trans r1
                  have hs0 : Hid ((fun uu => uu.cell? ⟨b2, o2 + q * 2, none⟩ = some (Value.int .i64 (vq : Int)) ∧ uu.cell? ⟨b2, o2 + q * 2 + 1, none⟩ = some (Value.slice ta tn tc)) p0) := ⟨c0_0, c1_0⟩
                  try go_simp
                  refine wpAnyX_both (T := fun _ => True) (i := 0) (v := Value.slice (some ⟨g, 0, none⟩) N cv) rfl (by kernel_rfl) (by kernel_rfl) (by kernel_rfl) (fun _ _ _ h => by first | exact h | exact h.elim) (by decide) (fun _ _ => trivial) (fun _ _ => trivial) (Sx.before (by kernel_rfl) hs0.out) (Or.inl ⟨by rfl, fun uu hu => by go_simp⟩) ?_
                  try go_simp
                  refine wpAnyX_both (T := fun _ => True) (i := 1) (v := Value.slice (some ⟨b2, o2, none⟩) n c2) rfl (by kernel_rfl) (by kernel_rfl) (by kernel_rfl) (fun _ _ _ h => by first | exact h | exact h.elim) (by decide) (fun _ _ => trivial) (fun _ _ => trivial) (Sx.before (by kernel_rfl) hs0.out) (Or.inl ⟨by rfl, fun uu hu => by go_simp⟩) ?_
                  try go_simp
                  refine wpAnyX_both (T := fun _ => True) (i := 2) (v := Value.int .i64 (q : Int)) rfl (by kernel_rfl) (by kernel_rfl) (by kernel_rfl) (fun _ _ _ h => by first | exact h | exact h.elim) (by decide) (fun _ _ => trivial) (fun _ _ => trivial) (Sx.before (by kernel_rfl) hs0.out) (Or.inl ⟨by rfl, fun uu hu => by go_simp⟩) ?_
                  try go_simp
                  refine wpAnyX_both (T := fun _ => True) (i := 3) (v := Value.pointer (some ⟨b2, o2 + q * 2, none⟩)) rfl (by kernel_rfl) (by kernel_rfl) (by kernel_rfl) (fun _ _ _ h => by first | exact h | exact h.elim) (by decide) (fun _ _ => trivial) (fun _ _ => trivial) (Sx.before (by kernel_rfl) hs0.out) (Or.inl ⟨by rfl, fun uu hu => by go_simp⟩) ?_
                  try go_simp
                  refine wpAnyX_both (T := fun _ => True) (i := 4) (v := Value.pointer (some ⟨b2, o2 + q * 2, none⟩)) rfl (by kernel_rfl) (by kernel_rfl) (by kernel_rfl) (fun _ _ _ h => by first | exact h | exact h.elim) (by decide) (fun _ _ => trivial) (fun _ _ => trivial) (Sx.before (by kernel_rfl) hs0.out) (Or.inl ⟨by rfl, fun uu hu => by go_simp⟩) ?_
                  try go_simp
                  refine wpAnyX_take (i := 5) (v := Value.int .i64 (vq : Int)) rfl (by kernel_rfl) (by kernel_rfl) (by kernel_rfl) (fun _ _ _ h => by first | exact h | exact h.elim) (by decide) (by kernel_rfl) (by kernel_rfl) hs0.out (Or.inl ⟨by rfl, fun uu hu => by obtain ⟨e0, e1⟩ := hu; go_simp⟩) ?_
                  try go_simp
                  refine wpAnyX_both (T := fun _ => True) (i := 6) (v := Value.slice (some ⟨g, 0, none⟩) N cv) rfl (by kernel_rfl) (by kernel_rfl) (by kernel_rfl) (fun _ _ _ h => by first | exact h | exact h.elim) (by decide) (fun _ _ => trivial) (fun _ _ => trivial) (Sx.before (by kernel_rfl) hs0.out) (Or.inl ⟨by rfl, fun uu hu => by go_simp⟩) ?_
                  try go_simp
                  refine wpAnyX_both (T := fun _ => True) (i := 7) (v := Value.slice (some ⟨b2, o2, none⟩) n c2) rfl (by kernel_rfl) (by kernel_rfl) (by kernel_rfl) (fun _ _ _ h => by first | exact h | exact h.elim) (by decide) (fun _ _ => trivial) (fun _ _ => trivial) (Sx.before (by kernel_rfl) hs0.out) (Or.inl ⟨by rfl, fun uu hu => by go_simp⟩) ?_
                  try go_simp
                  refine wpAnyX_both (T := fun _ => True) (i := 8) (v := Value.int .i64 (q : Int)) rfl (by kernel_rfl) (by kernel_rfl) (by kernel_rfl) (fun _ _ _ h => by first | exact h | exact h.elim) (by decide) (fun _ _ => trivial) (fun _ _ => trivial) (Sx.before (by kernel_rfl) hs0.out) (Or.inl ⟨by rfl, fun uu hu => by go_simp⟩) ?_
                  try go_simp
                  refine wpAnyX_both (T := fun _ => True) (i := 9) (v := Value.pointer (some ⟨b2, o2 + q * 2, none⟩)) rfl (by kernel_rfl) (by kernel_rfl) (by kernel_rfl) (fun _ _ _ h => by first | exact h | exact h.elim) (by decide) (fun _ _ => trivial) (fun _ _ => trivial) (Sx.before (by kernel_rfl) hs0.out) (Or.inl ⟨by rfl, fun uu hu => by go_simp⟩) ?_
                  try go_simp
                  refine wpAnyX_both (T := fun _ => True) (i := 10) (v := Value.pointer (some ⟨b2, o2 + q * 2 + 1, none⟩)) rfl (by kernel_rfl) (by kernel_rfl) (by kernel_rfl) (fun _ _ _ h => by first | exact h | exact h.elim) (by decide) (fun _ _ => trivial) (fun _ _ => trivial) (Sx.before (by kernel_rfl) hs0.out) (Or.inl ⟨by rfl, fun uu hu => by go_simp⟩) ?_
                  try go_simp
                  refine wpAnyX_take (i := 11) (v := Value.agg #[Value.slice ta tn tc]) rfl (by kernel_rfl) (by kernel_rfl) (by kernel_rfl) (fun _ _ _ h => by first | exact h | exact h.elim) (by decide) (by kernel_rfl) (by kernel_rfl) hs0.out (Or.inl ⟨by rfl, fun uu hu => by obtain ⟨e0, e1⟩ := hu; go_simp⟩) ?_
                  try go_simp
                  refine wpAnyX_ready (rs := [12]) (by kernel_rfl) (by simp) (AllX.cons rfl (fun K hK => ?_) AllX.nil)
                  go_simp
                  refine Calls.mono (HL4.out p0 BP0.out) ?_
                  rintro e p1 ⟨a5, c5, rfl, hn5, hb5⟩
                  have BP1 := kide (BP0.out.trans (hb5.mono BP0.out.size))
                  have NW5 := kide (hn5.mono BPZ.out)
                  clear hn5 hb5
                  have c0_1 : p1.cell? ⟨b2, o2 + q * 2, none⟩ = some (Value.int .i64 (vq : Int)) := (kcell BP1.out _ _ l2).trans r0
                  have c1_1 : p1.cell? ⟨b2, o2 + q * 2 + 1, none⟩ = some (Value.slice ta tn tc) := (kcell BP1.out _ _ l2).trans r1
                  have hs1 : Hid ((fun uu => uu.cell? ⟨b2, o2 + q * 2, none⟩ = some (Value.int .i64 (vq : Int)) ∧ uu.cell? ⟨b2, o2 + q * 2 + 1, none⟩ = some (Value.slice ta tn tc)) p1) := ⟨c0_1, c1_1⟩
                  refine hK _ _ (Sx.before (by kernel_rfl) hs1.out) ?_
                  clear hK K
                  try go_simp
                  refine wpAnyX_both (T := fun _ => True) (i := 13) (v := Value.pointer (some ⟨g, vq * 2, none⟩)) rfl (by kernel_rfl) (by kernel_rfl) (by kernel_rfl) (fun _ _ _ h => by first | exact h | exact h.elim) (by decide) (fun _ _ => trivial) (fun _ _ => trivial) (Sx.before (by kernel_rfl) hs1.out) (Or.inl ⟨by rfl, fun uu hu => by go_simp⟩) ?_
                  try go_simp
                  refine wpAnyX_ready (rs := [14]) (by kernel_rfl) (by simp) (AllX.cons rfl (fun K hK => ?_) AllX.nil)
                  obtain ⟨g', c', eg, z0, z1⟩ := (HBS.out.row.later BP1.out).at (List.getElem?_eq_getElem (show vq < l.length by have := HLN.out; have := HVN.out; omega))
                  rw [HLN.out] at eg
                  cases eg
                  obtain ⟨cur, hcur⟩ := (HBS.out.row.later BP1.out).blk
                  have f0 := hcur.froz (vq * 2)
                  have f1 := hcur.froz (vq * 2 + 1)
                  go_simp
                  have HBS5 : Hid (Bs ((p1.setCell ⟨g, vq * 2, none⟩ (.int .i64 X.1)).setCell ⟨g, vq * 2 + 1, none⟩ (.slice a5 X.2.length c5)) w.heap.size (.slice (some ⟨g, 0, none⟩) N cv) (l.set vq ⟨X.1, a5, c5, X.2⟩)) := HBS.out.store (i := vq) (x := ⟨X.1, a5, c5, X.2⟩) BP1.out HB.out.size NW5.out
                  have GB := kide (HBS.out.row.lt rfl).1
                  have HB5 : Hid (Below w.heap.size w ((p1.setCell ⟨g, vq * 2, none⟩ (.int .i64 X.1)).setCell ⟨g, vq * 2 + 1, none⟩ (.slice a5 X.2.length c5))) := ((HB.out.trans (BP1.out.mono HB.out.size)).setCell (show _ ≤ g from GB.out) _).setCell (show _ ≤ g from GB.out) _
                  generalize (p1.setCell ⟨g, vq * 2, none⟩ (.int .i64 X.1)).setCell ⟨g, vq * 2 + 1, none⟩ (.slice a5 X.2.length c5) = p2 at *
                  clear hcur f0 f1 z0 z1
                  refine hK _ _ (Sx.behind (by kernel_rfl) trivial) ?_
                  clear hK K
                  try go_simp
                  refine wpAnyX_done (by kernel_rfl) ?_ _
                  go_wp2_with fail
                  try rw [HQW.out]
                  go_roundw
                  case rel =>
                    have h8 := HLT.out
                    have h7 := HEQ.out
                    refine ⟨k + 1, by omega, by push_cast; omega, l.set vq ⟨X.1, a5, c5, X.2⟩, HBS5.out, ?_, HB5.out⟩
                    rw [List.map_set, HDR.out]
                    unfold bindF
                    rw [List.foldr_cons]
                    show _ = stepB (bindF _ _) _
                    rw [← HCT.out]
                    unfold stepB
                    simp only [Int.toNat_natCast]
                    rw [HX.out]
                    rfl
                  case measure => simp only [intOf]; omega
                · have hkn : k = n := by omega
                  have HE : Hid (l.map Bw.ct = bindF (xs.map Vg.ct) (ys.map Bw.ct)) := by
                    show _ = _
                    rw [hct, hkn, Nat.sub_self, List.drop_zero]
                  have eq : (n : Int) - 1 - (k : Int) = -1 := by omega
                  rw [eq]
                  clear hbs hct hbel hokl eq
                  go_wp2_with fail
                  go_returns
                  rw [HX2.out HRT.out]
                  exact ⟨_, l, rfl, HBS.out, HE.out, HB.out⟩
    · rw [bnfR_no2 (by rw [List.length_map, hn]; exact h60)]
      have h60' : (60 : Int) < (n : Int) := by omega
      clear hA hr hs ht hn hm hb0 h60
      go_enter Tryz.func7, Tryz.ntmps7
      go_wp2_with fail
      refine Calls.mono HVA.out ?_
      rintro e w1 ⟨rfl, hb1⟩
      go_wp2_with fail
      go_returns
      exact ⟨_, [], rfl, E0.out.later hb1, rfl, B0.out.trans (hb1.mono B0.out.size)⟩

end Go.Proofs.YtbpodkdlhjgncaaGreatDoor
