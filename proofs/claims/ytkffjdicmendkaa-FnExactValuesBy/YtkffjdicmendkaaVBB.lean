/- What the given ValuesBy answers. -/
import Derived.Test.YtkffjdicmendkaaVBA
namespace Go.Proofs.Ytkffjdicmendkaa
set_option linter.unusedVariables false
set_option linter.unusedSimpArgs false
open Go.RowKit

theorem OI.cell {w : World} {B g n c : Nat} {l : List Int} (h : OI w B (.slice (some ⟨g, 0, none⟩) n c) l) {i : Nat} (hi : i < l.length) : w.cell? ⟨g, i, none⟩ = some (.int .i64 (l.getD i 0)) := by
  rcases h.2 with ⟨e, -⟩ | ⟨g', cap, cur, e, hg, hh, hc1, hc2, hsz, hcur⟩
  · cases e
  · cases e
    have h3 : (cur.toList.take (l.length * 1))[i]? = (i64s l).toList[i]? := by rw [hcur]
    rw [List.getElem?_take, if_pos (by omega)] at h3
    simp only [Array.getElem?_toList] at h3
    rw [cell_of_row w g i cur _ _ hh, h3, i64s_get _ _ hi]
theorem OI.typed {w : World} {B : Nat} {v : Value} {l : List Int} (h : OI w B v l) {b : Nat} (hb : v.ownBlock = some b) : ∃ cur, w.heap[b]? = some (.cells cur 2 (0, 0)) := by
  rcases h.2 with ⟨rfl, -⟩ | ⟨g, cap, cur, rfl, hg, hh, -⟩
  · cases hb
  · cases hb; exact ⟨_, hh⟩
theorem OI.mono' {w : World} {B B' : Nat} {v : Value} {l : List Int} (h : OI w B v l) (hB : B' ≤ B) : OI w B' v l := by
  refine ⟨h.1, ?_⟩
  rcases h.2 with h0 | ⟨g, cap, cur, e, hg, r⟩
  · exact .inl h0
  · exact .inr ⟨g, cap, cur, e, by omega, r⟩
theorem OI.row {w w' : World} {B C : Nat} {v v' : Value} {l : List Bw} {m : List Int} (h : OI w C v' m) (ho : OB2 w B v l) (hg : w.grownBy w' v.ownBlock) : OI w' C v' m :=
  h.move fun b hb => hg.block b (h.lt hb).2 fun e => by
    obtain ⟨cur, h1⟩ := h.typed hb
    obtain ⟨cur', h2⟩ := ho.typed e.symm
    rw [h1] at h2
    cases h2

set_option maxHeartbeats 2000000 in
set_option maxRecDepth 100000 in
theorem specVb_any (da oa : Option Addr) (dc n oc : Nat) (ds : List Dc) (on : List Bool) (w : World) (hd : RdD w da ds) (ho : RdFl w oa on) (hn : on.length = n) :
    Calls Try.prog 19 #[.slice da ds.length dc, .slice oa n oc] w (RetM w (vbR ds on)) := by
  have hb0 : Below w.heap.size w (w.alloc (Obj.cells #[] 58)) := (Below.refl _ _).alloc (Nat.le_refl _) _
  have E0 := kide (Bs.empty w w.heap.size (Nat.le_refl _))
  have HD := kide (specDecls_any da dc ds _ (hd.later hb0))
  have B0 := kide hb0
  have hn2 := ho.1
  rw [hn] at hn2
  cases hA : dclR ds with
  | false =>
    rw [vbR_no1 hA]
    rw [hA] at HD
    clear hA hd ho hn hb0
    go_enter Try.func19, Try.ntmps19
    go_wp2_with fail
    refine Calls.mono HD.out ?_
    rintro e w1 ⟨rfl, hb1⟩
    go_wp2_with fail
    go_returns
    exact ⟨_, [], rfl, E0.out.later hb1, rfl, B0.out.trans (hb1.mono B0.out.size)⟩
  | true =>
    rw [hA] at HD
    obtain ⟨h60, hall, htot, -⟩ := dclR_iff.1 hA
    have HOF := kide (fun u (hu : Below w.heap.size w u) => l19Offsets_any da dc ds u (hd.later hu) h60 hall)
    have hT := (sumW_le hall).1
    by_cases hS : sumW ds ≤ (n : Int)
    · have HR : Hid (vbR ds on = (vbL ds on ds.length, true)) := by
        show _ = _
        rw [vbR, if_pos ⟨hA, by rw [hn]; exact hS⟩]
      rw [HR.out]
      have HHD := kide hd
      have HHO := kide ho
      have HN := kide hn
      have HALL := kide hall
      obtain ⟨T, hTT⟩ : ∃ T, sumW ds = T := ⟨_, rfl⟩
      have HTT := kide hTT
      unfold RetO at HOF
      rw [hTT] at HOF hS htot hT
      clear hA hd ho hn hb0 HR hall hTT
      go_enter Try.func19, Try.ntmps19
      go_wp2_with fail
      generalize w.alloc (Obj.cells #[] 58) = w0 at *
      refine Calls.mono HD.out ?_
      rintro e w1 ⟨rfl, hb1⟩
      have B1 := kide (B0.out.trans (hb1.mono B0.out.size))
      have E1 := kide (E0.out.later hb1)
      clear hb1 E0 B0 HD
      go_wp2_with fail
      refine Calls.mono (HOF.out w1 B1.out) ?_
      rintro e w2 ⟨ov, rfl, hoi, hb2⟩
      have B2 := kide (B1.out.trans (hb2.mono B1.out.size))
      have E2 := kide (E1.out.later hb2)
      obtain ⟨pa, pc, rfl, -⟩ := hoi.rd (by rw [offL_len]; omega) (fun x hx => by
        obtain ⟨v, hv, rfl⟩ := List.mem_map.1 hx
        have := sumW_le (ds := ds.take v) fun d hd => HALL.out d (List.mem_of_mem_take hd)
        have h9 : (ds.take v).length ≤ 60 := by rw [List.length_take]; omega
        exact ⟨by omega, by omega⟩)
      rw [offL_len] at hoi
      have OI2 := kide (OI.mono' hoi B1.out.size)
      clear hb2 E1 B1 HOF hoi
      go_wp2_with fail
      rw [offL_len]
      go_loopw [6, 9] (fun v i wr => ∃ (k : Nat) (l : List Bw), k ≤ ds.length ∧ i = .int .i64 (k : Int) ∧ Bs wr w.heap.size v l ∧ l.map Bw.ct = vbL ds on k ∧ OI wr w.heap.size (.slice pa ds.length pc) (offL ds ds.length) ∧ Below w.heap.size w wr) (fun _ i _ => ds.length - (intOf i).toNat)
      case atStart => exact ⟨0, [], Nat.zero_le _, rfl, E2.out, rfl, OI2.out, B2.out⟩
      case round =>
        clear E2 B2 OI2
        obtain ⟨k, l, hk, rfl, hbs, hct, hoi, hbel⟩ := hrel
        have HB := kide hbel
        have HBS := kide hbs
        have HCT := kide hct
        have HOI := kide hoi
        have hll : l.length = k := by
          have h := congrArg List.length hct
          simpa [vbL] using h
        have HLL := kide hll
        clear hbs hct hoi hbel hll
        by_cases hlt : k < ds.length
        · obtain ⟨-, hsz, h | ⟨b, o, rfl, hc⟩⟩ := id HHD.out
          · subst h; simp at hlt
          obtain ⟨⟨t, x⟩, hh⟩ : ∃ x, ds[k] = x := ⟨_, rfl⟩
          have gx : ds[k]? = some (t, x) := by rw [List.getElem?_eq_getElem hlt, hh]
          have HP := kide (fun u (hu : Below w.heap.size w u) => (hc k _ gx).later hu)
          have i0 : (k : Int) < (ds.length : Int) := by omega
          obtain ⟨hx1, hx2⟩ := (dcOk_iff.1 (HALL.out _ (List.mem_of_getElem? gx))).2
          simp only at hx1 hx2
          obtain ⟨V, rfl⟩ := Int.eq_ofNat_of_zero_le (show 0 ≤ x by omega)
          obtain ⟨hs1, hs2⟩ := sum_part HALL.out gx
          simp only at hs2
          rw [HTT.out] at hs2
          obtain ⟨S, hSS⟩ := Int.eq_ofNat_of_zero_le hs1
          have HV : Hid (vbE ds on k = ((V : Int), pack (flB on S V))) := by
            show _ = _
            have e : ds.getD k (.empty, 0) = (t, (V : Int)) := by simp [List.getD, gx]
            rw [vbE, e, hSS]
            simp
          rw [hSS] at hs2
          obtain ⟨g8, rfl⟩ : ∃ g8, pa = some ⟨g8, 0, none⟩ := by
            rcases HOI.out.2 with ⟨-, h0⟩ | ⟨g8, cap, cur, e, -⟩
            · rw [offL_len] at h0; omega
            · injection e with e1; exact ⟨g8, e1⟩
          have HOC := kide (fun (u : World) (hu : Below wr.heap.size wr u) => (HOI.out.later hu).cell (i := k) (by rw [offL_len]; exact hlt))
          rw [offL_get _ _ _ hlt, hSS] at HOC
          obtain ⟨wo, hwo⟩ : ∃ wo, wo = wr := ⟨_, rfl⟩
          subst hwo
          obtain ⟨p0, p1⟩ := HP.out wo HB.out
          simp only at p0 p1
          have hbx : Below wo.heap.size wo (wo.alloc (Obj.cells #[] 5)) := (Below.refl _ _).alloc (Nat.le_refl _) _
          have B3 := kide hbx
          have L3 : Hid (OwB (wo.alloc (Obj.cells #[] 5)) wo.heap.size (.slice (some ⟨wo.heap.size, 0, none⟩) 0 0) []) := OwB.nil _ _ _ rfl (Nat.le_refl _)
          clear hbx hc gx hh hsz hs1 hSS
          go_wp2_with fail
          clear p0 p1
          generalize wo.alloc (Obj.cells #[] 5) = w3 at *
          go_loopw [10, 11] (fun v i wr => ∃ j : Nat, j ≤ V ∧ i = .int .i64 (j : Int) ∧ OwB wr wo.heap.size v (flB on S j) ∧ Below wo.heap.size wo wr) (fun _ i _ => V - (intOf i).toNat)
          case atStart => exact ⟨0, Nat.zero_le _, rfl, by simpa [flB] using L3.out, B3.out⟩
          case round =>
            clear L3 B3
            obtain ⟨j, hj, rfl, hl, hbi⟩ := hrel
            have HL := kide hl
            have HBI := kide hbi
            have HBA := kide (HB.out.trans (hbi.mono HB.out.size))
            obtain ⟨p0, p1⟩ := HP.out wr HBA.out
            simp only at p0 p1
            clear hl hbi
            by_cases hjV : j < V
            · have j0 : (j : Int) < (V : Int) := by omega
              have hin : S + j < on.length := by rw [HN.out]; omega
              obtain ⟨Y, gY⟩ : ∃ Y, on[S + j]? = some Y := ⟨_, List.getElem?_eq_getElem hin⟩
              have HNX := kide (flB_succ gY)
              obtain ⟨b2, o2, rfl, hco⟩ : ∃ b o, oa = some ⟨b, o, none⟩ ∧ ∀ i, i < on.length → wr.cell? ⟨b, o + i, none⟩ = some (.bool (on.getD i false)) := by
                rcases (HHO.out.later HBA.out).2 with h0 | h0
                · rw [h0] at gY; simp at gY
                · exact h0
              have q0 := hco (S + j) hin
              have eY : on.getD (S + j) false = Y := by simp [List.getD, gY]
              rw [eY] at q0
              have r0 := HOC.out wr HBI.out
              have j1 : (S : Int) + (j : Int) < (n : Int) := by omega
              have HLB : Hid ((flB on S j).length ≤ 4096) := by show _ ≤ _; rw [flB_len _ _ _ (by omega)]; omega
              have HLT : Hid (∀ x ∈ flB on S j, x < 256) := fun x hx => by have := flB_le on S j x hx; omega
              generalize flB on S j = LB at *
              obtain ⟨la, lc, rfl, -⟩ := HL.out.shape (by have := HLB.out; omega) HLT.out
              clear gY hco eY hin
              cases Y with
              | true =>
                have hbx : Below wr.heap.size wr (wr.alloc (Obj.cells #[Value.int .u8 ((1 : Nat) : Int)] 5)) := (Below.refl _ _).alloc (Nat.le_refl _) _
                have L4 := kide (HL.out.kept hbx)
                have B4 := kide (HBI.out.trans (hbx.mono HBI.out.size))
                have XN := kide (Bz.new wr #[Value.int .u8 ((1 : Nat) : Int)] 5)
                clear hbx
                go_wp2_with (at_builtin; refine wpList_appB _ rfl _ _ rfl wo.heap.size _ LB 1 rfl L4.out wr.heap.size rfl (XN.out.cell 0) (by have := HLB.out; omega) B4.out.size ?_)
                intro v9 w9 hl9 hg9
                have B5 := kide (Below.grown B4.out hg9 B4.out.size (fun j hj => L4.out.own j hj))
                have L5 := kide (show OwB w9 wo.heap.size v9 (flB on S (j + 1)) from by rw [HNX.out]; exact hl9)
                clear hl9 hg9 L4 B4 XN
                go_wp2_with fail
                go_roundw
                case rel => exact ⟨j + 1, by omega, by go_num, L5.out, B5.out⟩
                case measure => simp [intOf]; omega
              | false =>
                have hbx : Below wr.heap.size wr (wr.alloc (Obj.cells #[Value.int .u8 ((0 : Nat) : Int)] 5)) := (Below.refl _ _).alloc (Nat.le_refl _) _
                have L4 := kide (HL.out.kept hbx)
                have B4 := kide (HBI.out.trans (hbx.mono HBI.out.size))
                have XN := kide (Bz.new wr #[Value.int .u8 ((0 : Nat) : Int)] 5)
                clear hbx
                go_wp2_with (at_builtin; refine wpList_appB _ rfl _ _ rfl wo.heap.size _ LB 0 rfl L4.out wr.heap.size rfl (XN.out.cell 0) (by have := HLB.out; omega) B4.out.size ?_)
                intro v9 w9 hl9 hg9
                have B5 := kide (Below.grown B4.out hg9 B4.out.size (fun j hj => L4.out.own j hj))
                have L5 := kide (show OwB w9 wo.heap.size v9 (flB on S (j + 1)) from by rw [HNX.out]; exact hl9)
                clear hl9 hg9 L4 B4 XN
                go_wp2_with fail
                go_roundw
                case rel => exact ⟨j + 1, by omega, by go_num, L5.out, B5.out⟩
                case measure => simp [intOf]; omega
            · have hjv : j = V := by omega
              subst hjv
              have HLB : Hid ((flB on S j).length = j) := by show _ = _; rw [flB_len _ _ _ (by rw [HN.out]; omega)]
              have HLT : Hid (∀ x ∈ flB on S j, x < 256) := fun x hx => by have := flB_le on S j x hx; omega
              have HPL : Hid (1 ≤ (pack (flB on S j)).length ∧ (pack (flB on S j)).length ≤ 64) := by
                show _ ∧ _
                rw [pack_len, HLB.out]
                omega
              obtain ⟨la, lc, rfl, hrb, -⟩ := HL.out.shape (by have := HLB.out; omega) HLT.out
              have HF := kide (l1From_cap la lc (flB on S j) wr hrb (by rw [HLB.out]; omega) (by rw [HLB.out]; omega))
              rw [HLB.out] at HF ⊢
              clear hrb HL hj hjV
              generalize pack (flB on S j) = PK at *
              go_wp2_with fail
              clear p0 p1
              refine Calls.mono HF.out ?_
              rintro e w4 ⟨a4, rfl, hfr, hb4⟩
              have B4 := kide (HBI.out.trans (hb4.mono HBI.out.size))
              obtain ⟨g4, rfl, hg4, how⟩ : ∃ g, a4 = some ⟨g, 0, none⟩ ∧ wr.heap.size ≤ g ∧ Own w4 g PK := by
                rcases hfr with ⟨h0, -⟩ | h0
                · have := HPL.out; rw [h0] at this; simp at this
                · exact h0
              have HN4 := kide (how.nw (lo := wo.heap.size) (Nat.le_trans HBI.out.size hg4))
              obtain ⟨pn, hpn⟩ : ∃ pn, PK.length = pn := ⟨_, rfl⟩
              rw [hpn] at HPL ⊢
              have HPN := kide hpn
              clear hfr hb4 how hg4 HF hpn HBI HBA
              have hb5 : Below w4.heap.size w4 (w4.alloc (Obj.cells #[Value.int .i64 (j : Int), Value.slice (some ⟨g4, 0, none⟩) pn pn] 58)) := (Below.refl _ _).alloc (Nat.le_refl _) _
              have X5 := kide (Bz.new w4 #[Value.int .i64 (j : Int), Value.slice (some ⟨g4, 0, none⟩) pn pn] 58)
              have B5 := kide (B4.out.trans (hb5.mono B4.out.size))
              have HN5 := kide (HN4.out.later hb5)
              clear hb5 HN4
              obtain ⟨w5, hw5⟩ : ∃ w5, w4.alloc (Obj.cells #[Value.int .i64 (j : Int), Value.slice (some ⟨g4, 0, none⟩) pn pn] 58) = w5 := ⟨_, rfl⟩
              have hz5 : w5.heap.size = w4.heap.size + 1 := by rw [← hw5]; simp
              rw [hw5] at X5 B5 HN5
              have x0 : w5.cell? ⟨w4.heap.size, 0, none⟩ = some (.int .i64 (j : Int)) := by simpa using X5.out.cell 0
              have x1 : w5.cell? ⟨w4.heap.size, 1, none⟩ = some (.slice (some ⟨g4, 0, none⟩) pn pn) := by simpa using X5.out.cell 1
              have hb6 : Below w5.heap.size w5 (w5.alloc (Obj.cells #[Value.int .i64 (j : Int), Value.slice (some ⟨g4, 0, none⟩) pn pn] 58)) := (Below.refl _ _).alloc (Nat.le_refl _) _
              have q0 : (w5.alloc (Obj.cells #[Value.int .i64 (j : Int), Value.slice (some ⟨g4, 0, none⟩) pn pn] 58)).cell? ⟨w5.heap.size, 0, none⟩ = some (.int .i64 (j : Int)) := by simp
              have q1 : (w5.alloc (Obj.cells #[Value.int .i64 (j : Int), Value.slice (some ⟨g4, 0, none⟩) pn pn] 58)).cell? ⟨w5.heap.size, 1, none⟩ = some (.slice (some ⟨g4, 0, none⟩) pn pn) := by simp
              have B6 := kide (B5.out.trans (hb6.mono B5.out.size))
              have HN6 := kide (HN5.out.later hb6)
              have Q0 := kide q0
              have Q1 := kide q1
              have HW5 := kide hw5
              have HZ5 := kide hz5
              clear hb6 q0 q1 X5 HN5 B5 hz5
              go_wp2_with (at_builtin; refine wpList_appB2 rfl _ _ rfl w.heap.size _ l ⟨(j : Int), some ⟨g4, 0, none⟩, pn, PK⟩ (by first | rfl | simp [Act.eval]) (HBS.out.row.later B6.out) w5.heap.size 1 (by first | rfl | simp [Act.eval]) Q0.out (by rw [HPN.out]; exact Q1.out) (by have := HLL.out; omega) (Nat.le_trans HB.out.size B6.out.size) ?_)
              intro g cap w6 ho6 hg6
              have HBS6 := kide (HBS.out.app B6.out HB.out.size (y := ⟨(j : Int), some ⟨g4, 0, none⟩, pn, PK⟩) HN6.out hg6 ho6)
              have HB6 : Hid (Below w.heap.size w w6) := Below.grown (HB.out.trans (B6.out.mono HB.out.size)) hg6 (Nat.le_trans HB.out.size B6.out.size) (fun j hj => (HBS.out.row.lt hj).1)
              have HOI6 := kide ((HOI.out.later B6.out).row (HBS.out.row.later B6.out) hg6)
              clear ho6 hg6 x0 x1 hw5 Q0 Q1 B6 HN6 HBS HB HOI
              go_wp2_with fail
              go_roundw
              case rel =>
                refine ⟨k + 1, l ++ [⟨(j : Int), some ⟨g4, 0, none⟩, pn, PK⟩], by omega, by go_num, HBS6.out, ?_, HOI6.out, HB6.out⟩
                rw [List.map_append, HCT.out, vbL_succ, HV.out]
                rfl
              case measure => simp [intOf]; omega
        · have hkn : k = ds.length := by omega
          have HE : Hid (l.map Bw.ct = vbL ds on ds.length) := by
            show _ = _
            rw [HCT.out, hkn]
          go_wp2_with fail
          go_returns
          exact ⟨_, l, rfl, HBS.out, HE.out, HB.out⟩
    · rw [vbR_no2 (by rw [hn]; exact hS)]
      obtain ⟨T, hTT⟩ : ∃ T, sumW ds = T := ⟨_, rfl⟩
      unfold RetO at HOF
      rw [hTT] at HOF hS htot hT
      clear hA hd ho hn hb0 hall hTT
      have hS2 : (n : Int) < T := by omega
      go_enter Try.func19, Try.ntmps19
      go_wp2_with fail
      generalize w.alloc (Obj.cells #[] 58) = w0 at *
      refine Calls.mono HD.out ?_
      rintro e w1 ⟨rfl, hb1⟩
      have B1 := kide (B0.out.trans (hb1.mono B0.out.size))
      have E1 := kide (E0.out.later hb1)
      clear hb1 E0 B0 HD
      go_wp2_with fail
      refine Calls.mono (HOF.out w1 B1.out) ?_
      rintro e w2 ⟨ov, rfl, hoi, hb2⟩
      have B2 := kide (B1.out.trans (hb2.mono B1.out.size))
      have E2 := kide (E1.out.later hb2)
      clear hb2 E1 B1 HOF hoi
      go_wp2_with fail
      go_returns
      exact ⟨_, [], rfl, E2.out, rfl, B2.out⟩

end Go.Proofs.Ytkffjdicmendkaa
