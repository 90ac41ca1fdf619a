/- The given Parts. -/
import Derived.Test.YtheglnkndjheaaaGreatDoorZPC
import Derived.Test.YtheglnkndjheaaaGreatDoorPTD
import Derived.Test.YtheglnkndjheaaaGreatDoorZTH
import Derived.Test.YtheglnkndjheaaaGreatDoorIG
namespace Go.Proofs.YtheglnkndjheaaaGreatDoor
set_option linter.unusedVariables false
set_option linter.unusedSimpArgs false
open Go.RowKit

set_option maxHeartbeats 2000000 in
set_option maxRecDepth 100000 in
theorem specParts_any (a b : Option Addr) (c c2 n : Nat) (ds : List Dc) (xs : List Lg) (w : World) (hr : RdD w a ds) (hs : RdL w b xs) (hn : xs.length = n) :
    Calls Tryz.prog 7 #[.slice a ds.length c, .slice b n c2] w fun e w' => ∃ v vs, e = .returned (.tuple #[v, .bool (ptR ds (xs.map Lg.ct)).2]) ∧ Cq w' w.heap.size v vs (ptR ds (xs.map Lg.ct)).1 ∧ Below w.heap.size w w' := by
  have HLO := kide (fun u (hu : Below w.heap.size w u) => specLits_any a b c c2 n ds xs u (hr.later hu) (hs.later hu) hn)
  have HR0 := kide hr
  have HS := kide hs
  have HN := kide hn
  obtain ⟨R, HR⟩ : ∃ R, Hid (ptR ds (xs.map Lg.ct) = R) := ⟨_, kide rfl⟩
  rw [HR.out]
  obtain ⟨dn, hdn⟩ : ∃ dn, ds.length = dn := ⟨_, rfl⟩
  rw [hdn] at HLO ⊢
  have HDN := kide hdn
  have B0 : Hid (Below w.heap.size w (w.alloc (.cells #[] 40))) := (Below.refl _ _).alloc (Nat.le_refl _) _
  have C0 := kide (Cq.empty w w.heap.size (Nat.le_refl _))
  cases hL : litR ds (xs.map Lg.ct) with
  | false =>
    have hR : R = ([], false) := by rw [← HR.out]; simp [ptR, hL]
    rw [hR]
    rw [hL] at HLO
    clear hr hs hn hR hL hdn
    go_enter Tryz.func7, Tryz.ntmps7
    go_wp2_with fail
    refine Calls.mono (HLO.out _ B0.out) ?_
    rintro e w1 ⟨rfl, hb1⟩
    have B1 := kide (B0.out.trans (hb1.mono B0.out.size))
    have C1 := kide (C0.out.later hb1)
    clear hb1
    go_wp2_with fail
    go_returns
    exact ⟨_, _, rfl, C1.out, B1.out⟩
  | true =>
    rw [hL] at HLO
    clear hr hs hn hdn
    go_enter Tryz.func7, Tryz.ntmps7
    go_wp2_with fail
    refine Calls.mono (HLO.out _ B0.out) ?_
    rintro e w1 ⟨rfl, hb1⟩
    have B1 := kide (B0.out.trans (hb1.mono B0.out.size))
    have C1 := kide (C0.out.later hb1)
    clear hb1
    go_wp2_with fail

    have hn6 : Hid (n ≤ 60) := by have := (lit_len hL).1; rw [List.length_map, HN.out] at this; exact this
    have HRP : Hid (R = (partsR ((xs.map Lg.ct).map Lc.id) (vN ds (xs.map Lg.ct)), true)) := by show _ = _; rw [← HR.out]; simp [ptR, hL]
    clear hL HR HLO B0 C0
    have E0 : Hid (Fo.OW ((w1.alloc (Obj.cells #[] 2)).alloc (Obj.cells #[] 40)) w1.heap.size (.slice (some ⟨w1.heap.size, 0, Option.none⟩) 0 0) (Fo.lv 0 id)) := ow_later (ow_of (OI.empty w1 w1.heap.size (Nat.le_refl _))) ((Below.refl _ _).alloc (Nat.le_refl _) _)
    have E1 : Hid (Cq ((w1.alloc (Obj.cells #[] 2)).alloc (Obj.cells #[] 40)) w1.heap.size (.slice (some ⟨w1.heap.size + 1, 0, Option.none⟩) 0 0) [] ((xs.take 0).map fun x => lvR ds x.ct)) := by
      have h := Cq.empty (w1.alloc (Obj.cells #[] 2)) w1.heap.size (by simp)
      rw [World.size_alloc] at h
      exact h
    have E2 : Hid (Below w1.heap.size w1 ((w1.alloc (Obj.cells #[] 2)).alloc (Obj.cells #[] 40))) := ((Below.refl _ _).alloc (Nat.le_refl _) _).alloc (by simp) _
    go_loopw [7, 8, 9] (fun l v q wr => ∃ (i : Nat) (vs : List Value), i ≤ n ∧ q = .int .i64 (i : Int) ∧ P1 w1 ds xs i l v vs wr) (fun _ _ q _ => n - (intOf q).toNat)
    case atStart => exact ⟨0, [], Nat.zero_le _, rfl, ⟨E0.out, E1.out, (fun u hu => by cases hu), E2.out⟩⟩
    case round =>
      obtain ⟨i, vs, hi, rfl, hp1⟩ := hrel
      have HP := kide hp1
      clear hp1 E0 E1 E2
      by_cases hlt : i < n
      · have i0 : (i : Int) < (n : Int) := by omega
        obtain ⟨x, gx⟩ : ∃ x, xs[i]? = some x := ⟨xs[i]'(by rw [HN.out]; exact hlt), List.getElem?_eq_getElem _⟩
        have GX := kide gx
        have hwz := HP.out.bel.size
        have hll : (Fo.lv i id).length ≤ 1073741824 := by rw [Fo.lv_len]; have := hn6.out; omega
        have Ba : Hid (Below wr.heap.size wr (wr.alloc (Obj.cells #[Value.int .i64 (i : Int)] 2))) := (Below.refl _ _).alloc (Nat.le_refl _) _
        have La := kide (ow_later HP.out.least Ba.out)
        clear gx
        go_wp2_with (at_builtin; refine Fo.wpList_appWl rfl _ _ rfl w1.heap.size _ (Fo.lv i id) (i : Int) rfl La.out _ rfl (by simp) hll (by simp; omega) ?_)
        intro v3 w3 ho3 hg3 hat3
        obtain ⟨hc3, hap3, hb3⟩ := HP.out.put Ba.out ho3 hg3 (by simpa using hat3)
        rw [← lv_next] at ho3
        have L3 := kide ho3
        have C3 := kide hc3
        have A3 := kide hap3
        have BB3 := kide hb3
        have Bw3 := kide (B1.out.trans (hb3.mono B1.out.size))
        obtain ⟨b4, o4, rfl, ⟨p2, p3, p4, p5⟩, hrs, hrt, -⟩ := (HS.out.later Bw3.out).at GX.out
        have HV := kide (l17Vars_any a c dn ds x.id x.eq x.sa x.ta x.ss.length x.sc x.ts.length x.tc x.ss x.ts w3 (HR0.out.later Bw3.out) HDN.out hrs hrt rfl rfl)
        obtain ⟨av, cv, hvf⟩ := row_slice hc3.row
        subst hvf
        have HLV := kide (lvR_len ds x.ct)
        obtain ⟨V, hV⟩ : ∃ V, lvR ds x.ct = V := ⟨_, rfl⟩
        rw [hV] at HLV
        have hV' : risI [] (varsR ds (x.ss.map Tg.ct) ++ varsR ds (x.ts.map Tg.ct)) = V := hV
        rw [hV'] at HV
        have HVV := kide hV
        have hvl : vs.length ≤ 1073741824 := by have h1 := hc3.len; rw [List.length_map, List.length_take] at h1; have h2 := hn6.out; omega
        clear hV hV' hrs hrt hc3 ho3 hg3 hat3 hap3 hb3 La Ba HP
        go_wp2_with fail
        refine Calls.mono HV.out ?_
        rintro e w4 ⟨v4, rfl, ho4, hb4⟩
        have O4 : Hid (OI w4 w3.heap.size v4 (lvR ds x.ct)) := by rw [HVV.out]; exact ho4
        have Bq4 := kide hb4
        obtain ⟨a4, c4, rfl⟩ := row_slice ho4
        have Ba : Hid (Below w4.heap.size w4 (w4.alloc (Obj.cells #[Value.slice a4 V.length c4] 40))) := (Below.refl _ _).alloc (Nat.le_refl _) _
        have R4 := kide (C3.out.later (hb4.trans (Ba.out.mono hb4.size))).row
        have hwz4 := hb4.size
        have hwz3 := BB3.out.size
        clear p2 p3 p4 p5 ho4 hb4
        go_wp2_with (at_builtin; refine wpList_appR rfl _ _ rfl w1.heap.size _ vs (Value.slice a4 V.length c4) rfl rfl R4.out _ rfl (by simp) hvl (by simp; omega) ?_)
        intro v5 w5 ho5 hg5 _
        have P5 := kide (P1.row GX.out L3.out C3.out A3.out BB3.out O4.out Bq4.out Ba.out (by simpa using ho5) hg5)
        clear ho5 hg5 R4 Ba O4 Bq4 C3 A3 BB3 L3 HV Bw3
        go_wp2_with fail
        have hb6 := hn6.out
        have e1 : wrap64 ((i : Int) + 1) = ((i + 1 : Nat) : Int) := by unfold wrap64; omega
        try rw [e1]
        go_roundw
        case rel => exact ⟨i + 1, _, by omega, by first | rfl | go_num, P5.out⟩
        case measure => simp only [intOf, Int.toNat_natCast]; omega
      · have hin : i = n := by omega
        subst hin
        skip

        have hfin : xs.take i = xs := List.take_of_length_le (by rw [HN.out]; omega)
        have V3 := kide HP.out.vars
        rw [hfin] at V3
        obtain ⟨V, hV⟩ : ∃ V, vN ds (xs.map Lg.ct) = V := ⟨_, rfl⟩
        have HVM : Hid (∀ (j k : Nat) (x y : Lg), xs[j]? = some x → xs[k]? = some y → mtB V j k = (lvR ds x.ct).any fun z => decide (z ∈ lvR ds y.ct)) := fun j k x y hx hy => by
          rw [← hV]
          exact vN_meet (by rw [List.getElem?_map, hx]; rfl) (by rw [List.getElem?_map, hy]; rfl)
        rw [hV] at HRP
        clear hV
        have HNM : Hid (∀ k j, j ≤ k → (k < i ∨ (k ≤ i ∧ j = 0)) → Nm i (mrgs id (meetL V k ++ meetI V k j))) := fun k j hj hk => by
          refine mrgs_nm _ (Nm.start i) (fun p hp => ?_)
          rcases List.mem_append.1 hp with h | h
          · obtain ⟨h1, h2, -⟩ := meetL_mem.1 h
            omega
          · obtain ⟨h1, h2, -⟩ := meetI_mem.1 h
            omega
        have P3 : Hid (P2 w1 i (mrgs id (meetL V 0)) _ _ vs (xs.map fun x => lvR ds x.ct) wr) := ⟨HP.out.least, V3.out, HP.out.bel⟩
        have A3 := kide HP.out.ap
        obtain ⟨al, cl, hal⟩ := row_slice HP.out.least
        rw [Fo.lv_len] at hal
        subst hal
        obtain ⟨av, cv, hav⟩ := row_slice V3.out.row
        have hvn : vs.length = i := by have h1 := V3.out.len; rw [List.length_map, HN.out] at h1; exact h1
        rw [hvn] at hav
        subst hav
        clear hfin V3 HP hvn
        go_wp2_with fail
        go_loopw [10] (fun q wr => ∃ k : Nat, k ≤ i ∧ q = .int .i64 (k : Int) ∧ P2 w1 i (mrgs id (meetL V k)) (.slice al i cl) (.slice av i cv) vs (xs.map fun x => lvR ds x.ct) wr) (fun q _ => i - (intOf q).toNat)
        case atStart => exact ⟨0, Nat.zero_le _, rfl, P3.out⟩
        case round =>
          obtain ⟨k, hk, rfl, hp2⟩ := hrel
          have HP := kide hp2
          clear hp2 P3
          by_cases hlt : k < i
          · have i0 : (k : Int) < (i : Int) := by omega
            have Q0 : Hid (P2 w1 i (mrgs id (meetL V k ++ meetI V k 0)) (.slice al i cl) (.slice av i cv) vs (xs.map fun x => lvR ds x.ct) wr) := by
              show P2 _ _ _ _ _ _ _ _
              rw [meetI, List.append_nil]
              exact HP.out
            clear HP
            go_wp2_with fail
            go_loopw [11] (fun q wr => ∃ j : Nat, j ≤ k ∧ q = .int .i64 (j : Int) ∧ P2 w1 i (mrgs id (meetL V k ++ meetI V k j)) (.slice al i cl) (.slice av i cv) vs (xs.map fun x => lvR ds x.ct) wr) (fun q _ => k - (intOf q).toNat)
            case atStart => exact ⟨0, Nat.zero_le _, rfl, Q0.out⟩
            case round =>
              obtain ⟨j, hj, rfl, hp2⟩ := hrel
              have HP := kide hp2
              clear hp2 Q0
              by_cases hjk : j < k
              · have i1 : (j : Int) < (k : Int) := by omega
                have i2 : (j : Int) < (i : Int) := by omega
                obtain ⟨x, gx⟩ : ∃ x, xs[k]? = some x := ⟨xs[k]'(by rw [HN.out]; exact hlt), List.getElem?_eq_getElem _⟩
                obtain ⟨y, gy⟩ : ∃ y, xs[j]? = some y := ⟨xs[j]'(by rw [HN.out]; omega), List.getElem?_eq_getElem _⟩
                have hlx := lvR_len ds x.ct
                have hly := lvR_len ds y.ct
                have hm := HVM.out k j x y gx gy
                obtain ⟨gv, N1, cN1, a1, c1, e1, -, -, q1, r1⟩ := HP.out.vars.at (k := k) (xs := lvR ds x.ct) (by rw [List.getElem?_map, gx]; rfl) (by omega) hlx.2
                obtain ⟨gv2, N2, cN2, a2, c2', e2, -, -, q2, r2⟩ := HP.out.vars.at (k := j) (xs := lvR ds y.ct) (by rw [List.getElem?_map, gy]; rfl) (by omega) hly.2
                obtain ⟨gl, hgl⟩ : ∃ gl, al = some ⟨gl, 0, none⟩ := by
                  rcases HP.out.least.2 with ⟨-, h0⟩ | ⟨g, cap, cur, h0, -⟩
                  · rw [Fo.lv_len] at h0; omega
                  · rw [Fo.lv_len] at h0; cases h0; exact ⟨g, rfl⟩
                subst hgl
                cases e1
                cases e2
                have HMT := kide (fun u (hu : Below wr.heap.size wr u) => l17Meet_any a1 a2 c1 c2' _ _ u (r1.later hu) (r2.later hu))
                have l1 := block_lt_of_cell q1
                have l2 := block_lt_of_cell q2
                have HJN := kide (meetI_next V k j (meetL V k))
                have HLB := kide (fun z hz => ((HNM.out k j hj (.inl hlt)).lt z hz))
                rw [← hm] at HMT
                obtain ⟨X, hX⟩ : ∃ X, lvR ds x.ct = X := ⟨_, rfl⟩
                obtain ⟨Y, hY⟩ : ∃ Y, lvR ds y.ct = Y := ⟨_, rfl⟩
                rw [hX] at HMT q1 r1 hlx
                rw [hY] at HMT q2 r2 hly
                obtain ⟨b, hb⟩ : ∃ b, mtB V k j = b := ⟨_, rfl⟩
                rw [hb] at HMT HJN
                have hbi := hn6.out
                clear hX hY hm hb r1 r2 gx gy hlx hly
                cases b with
                | true =>
                  rw [if_pos rfl] at HJN
                  go_wp2_with fail
                  go_region_held3 (fun u => u.cell? ⟨gv, k, none⟩ = some (Value.slice a1 X.length c1) ∧ u.cell? ⟨gv, j, none⟩ = some (Value.slice a2 Y.length c2')) (simp [*])
                    ((go_at_call 28; refine Calls.mono (HMT.out _ ?_) ?_; exact (Below.refl _ _).drew; rintro e w5 ⟨rfl, hw5⟩; have hb5 : Below wr.heap.size wr w5 := (by rw [hw5]; exact (Below.refl _ _).drew); clear hw5; have k0 := kcell hb5 gv k l1; have k2 := kcell hb5 gv j l2))
                  have P5 := kide (HP.out.later hb5)
                  clear hb5 k0 k2 q1 q2 l1 l2
                  go_wp2_with fail
                  refine Calls.mono (Fo.l7Merge_any gl cl w1.heap.size i (mrgs id (meetL V k ++ meetI V k j)) k j w5 P5.out.least hlt (by omega) (by omega) HLB.out) ?_
                  rintro e w6 ⟨rfl, ho6, hg6⟩
                  have P6 := kide (P5.out.join A3.out ho6 hg6)
                  rw [← HJN.out] at P6
                  clear ho6 hg6
                  go_wp2_with fail
                  go_roundw
                  case rel => exact ⟨j + 1, by omega, by first | rfl | go_num, P6.out⟩
                  case measure => simp only [intOf, Int.toNat_natCast]; omega
                | false =>
                  rw [if_neg (by decide)] at HJN
                  go_wp2_with fail
                  go_region_held3 (fun u => u.cell? ⟨gv, k, none⟩ = some (Value.slice a1 X.length c1) ∧ u.cell? ⟨gv, j, none⟩ = some (Value.slice a2 Y.length c2')) (simp [*])
                    ((go_at_call 28; refine Calls.mono (HMT.out _ ?_) ?_; exact (Below.refl _ _).drew; rintro e w5 ⟨rfl, hw5⟩; have hb5 : Below wr.heap.size wr w5 := (by rw [hw5]; exact (Below.refl _ _).drew); clear hw5; have k0 := kcell hb5 gv k l1; have k2 := kcell hb5 gv j l2))
                  have P5 := kide (HP.out.later hb5)
                  clear hb5 k0 k2 q1 q2 l1 l2
                  have P6 := kide P5.out
                  rw [← HJN.out] at P6
                  go_wp2_with fail
                  go_roundw
                  case rel => exact ⟨j + 1, by omega, by first | rfl | go_num, P6.out⟩
                  case measure => simp only [intOf, Int.toNat_natCast]; omega
              · have e : j = k := by omega
                subst e
                have HQ : Hid (P2 w1 i (mrgs id (meetL V (j + 1))) (.slice al i cl) (.slice av i cv) vs (xs.map fun x => lvR ds x.ct) wr) := HP.out
                have hbi := hn6.out
                clear HP
                go_wp2_with fail
                go_roundw
                case rel => exact ⟨j + 1, by omega, by first | rfl | go_num, HQ.out⟩
                case measure => simp only [intOf, Int.toNat_natCast]; omega
          · have e : k = i := by omega
            subst e

            have HNK : Hid (Nm k (mrgs id (meetL V k))) := by
              have h := HNM.out k 0 (Nat.zero_le _) (.inr ⟨Nat.le_refl _, rfl⟩)
              rw [meetI, List.append_nil] at h
              exact h
            have HLE : Hid (∀ z, mrgs id (meetL V k) z ≤ z) := mrgs_le _ (fun _ => Nat.le_refl _)
            have L3 := kide HP.out.least
            have C3 := kide (C1.out.later HP.out.bel)
            have BB3 := kide (B1.out.trans (HP.out.bel.mono B1.out.size))
            have hz : partsR ((xs.map Lg.ct).map Lc.id) V = prtR ((xs.map Lg.ct).map Lc.id) (mrgs id (meetL V k)) k k := by
              unfold partsR
              rw [List.length_map, List.length_map, HN.out]
            rw [hz] at HRP
            obtain ⟨L, hL⟩ : ∃ L, mrgs id (meetL V k) = L := ⟨_, rfl⟩
            obtain ⟨ids, hids⟩ : ∃ ids, (xs.map Lg.ct).map Lc.id = ids := ⟨_, rfl⟩
            have HID : Hid (∀ (j : Nat) (x : Lg), xs[j]? = some x → ids[j]? = some x.id) := fun j x hx => by
              rw [← hids, List.getElem?_map, List.getElem?_map, hx]
              rfl
            rw [hL] at HNK HLE L3
            rw [hL, hids] at HRP
            have hS1 : w.heap.size ≤ w1.heap.size := B1.out.size
            have S1 := kide hS1
            clear hz hL hids HP HVM HNM A3 hlt B1 C1 hS1
            go_wp2_with fail
            go_loopw [6, 12] (fun v q wr => ∃ (i : Nat) (vs : List Value), i ≤ k ∧ q = .int .i64 (i : Int) ∧ Cq wr w.heap.size v vs (prtR ids L k i) ∧ Fo.OW wr w1.heap.size (.slice al k cl) (Fo.lv k L) ∧ Below w.heap.size w wr) (fun _ q _ => k - (intOf q).toNat)
            case atStart => exact ⟨0, [], Nat.zero_le _, rfl, C3.out, L3.out, BB3.out⟩
            case round =>
              obtain ⟨i, vs, hi, rfl, hcq, how, hbel⟩ := hrel
              obtain ⟨av, cv, rfl⟩ := row_slice hcq.row
              have HC := kide hcq
              have HOW := kide how
              have HB := kide hbel
              clear hcq how hbel C3 L3 BB3
              by_cases hlt : i < k
              · have i0 : (i : Int) < (k : Int) := by omega
                have S0 : Hid (Fo.OW (wr.alloc (Obj.cells #[] 2)) wr.heap.size (.slice (some ⟨wr.heap.size, 0, Option.none⟩) 0 0) []) := ow_of (OI.empty wr wr.heap.size (Nat.le_refl _))
                have Ba : Hid (Below wr.heap.size wr (wr.alloc (Obj.cells #[] 2))) := (Below.refl _ _).alloc (Nat.le_refl _) _
                have hsk : Hid (Fo.setR L i i = []) := setR_ahead HLE.out i (Nat.le_refl _)
                go_wp2_with fail
                obtain ⟨wo, hwo⟩ : ∃ wo, wo = wr := ⟨_, rfl⟩
                subst hwo
                go_loopw [13, 14] (fun vS q wr => ∃ (j : Nat), i ≤ j ∧ j ≤ k ∧ q = .int .i64 (j : Int) ∧ Fo.OW wr wo.heap.size vS (idsP ids (Fo.setR L i j)) ∧ (j = i ∨ L i = i) ∧ Below wo.heap.size wo wr) (fun _ q _ => k - (intOf q).toNat)
                case atStart => exact ⟨i, Nat.le_refl _, by omega, rfl, by rw [hsk.out]; exact S0.out, .inl rfl, Ba.out⟩
                case round =>
                  obtain ⟨j, hkj, hj, rfl, hset, hjk, hbi⟩ := hrel
                  have HSE := kide hset
                  have HBI := kide hbi
                  obtain ⟨aS, cS, rfl⟩ := row_slice hset
                  have HOWi := kide (ow_later HOW.out hbi)
                  obtain ⟨g2, hg2⟩ : ∃ g2, al = some ⟨g2, 0, none⟩ := by
                    rcases HOW.out.2 with ⟨-, h0⟩ | ⟨g, cap, cur, h0, -⟩
                    · rw [Fo.lv_len] at h0; omega
                    · rw [Fo.lv_len] at h0; cases h0; exact ⟨g, rfl⟩
                  subst hg2
                  obtain ⟨e4, -⟩ := Fo.OW.cell HOWi.out (Fo.lv_get (L := L) hlt)
                  clear hset hbi S0 Ba
                  have hexit : ¬ (j < k ∧ L i = i) → Hid (Fo.setR L i j = Fo.setR L i k) := fun h => by
                    show _ = _
                    by_cases e : L i = i
                    · have : j = k := by have : ¬ j < k := fun q => h ⟨q, e⟩; omega
                      rw [this]
                    · rw [setR_nil HNK.out e k (Nat.le_refl _)]
                      rcases hjk with e' | e'
                      · rw [e', hsk.out]
                      · exact absurd e' e
                  by_cases hgo : j < k ∧ L i = i
                  · obtain ⟨hjn, hLk⟩ := hgo
                    have i1 : (j : Int) < (k : Int) := by omega
                    obtain ⟨e5, -⟩ := Fo.OW.cell HOWi.out (Fo.lv_get (L := L) hjn)
                    rw [hLk] at e4
                    have hbq : ((i : Int) == (i : Int)) = true := by simp
                    have HLK := kide hLk
                    have HJK := kide hjk
                    clear hexit hLk hjk
                    have hbi6 := hn6.out
                    by_cases hLj : L j = i
                    · rw [hLj] at e5
                      have hsl : (idsP ids (Fo.setR L i j)).length ≤ 1073741824 := by rw [idsP_len]; exact Nat.le_trans (Fo.setR_len L i j) (by omega)
                      have HLJ := kide hLj
                      have hwz := HBI.out.size
                      clear hLj
                      obtain ⟨x, gx⟩ : ∃ x, xs[j]? = some x := ⟨xs[j]'(by rw [HN.out]; exact hjn), List.getElem?_eq_getElem _⟩
                      obtain ⟨b4, o4, rfl, ⟨p2, -⟩, -⟩ := (HS.out.later (HB.out.trans (HBI.out.mono HB.out.size))).at gx
                      have HIX := kide (HID.out j x gx)
                      obtain ⟨X, hX⟩ : ∃ X, x.id = X := ⟨_, rfl⟩
                      rw [hX] at p2 HIX
                      clear hX gx
                      have hba : Below wr.heap.size wr (wr.alloc (Obj.cells #[Value.int .i64 X] 2)) := (Below.refl _ _).alloc (Nat.le_refl _) _
                      have HSa : Hid (Fo.OW _ _ _ _) := ow_later HSE.out hba
                      have HBa := kide (HBI.out.trans (hba.mono HBI.out.size))
                      clear hba
                      go_wp2_with (at_builtin; refine Fo.wpList_appW rfl _ _ rfl wo.heap.size _ (idsP ids (Fo.setR L i j)) X rfl HSa.out _ rfl (by simp) hsl (by simp; omega) ?_)
                      intro v7 w7 hos hg
                      have O7 := kide hos
                      have B7 := kide (Below.grown HBa.out hg (by simp; omega) (fun j hj => ((oi_of HSa.out).lt hj).1))
                      clear hos hg
                      go_wp2_with fail
                      go_roundw
                      case rel => exact ⟨j + 1, by omega, by omega, by go_num, by rw [Fo.setR_yes HLJ.out, idsP_next _ _ _ _ HIX.out]; exact O7.out, .inr HLK.out, B7.out⟩
                      case measure => simp [intOf]; omega
                    · have hbq2 : ((L j : Int) == (i : Int)) = false := by simp; omega
                      have HNO := kide (Fo.setR_no hLj)
                      generalize hm : L j = m at *
                      clear hm
                      go_wp2_with fail
                      go_roundw
                      case rel => exact ⟨j + 1, by omega, by omega, by go_num, by rw [HNO.out]; exact HSE.out, .inr HLK.out, HBI.out⟩
                      case measure => simp [intOf]; omega
                  · have HE := hexit hgo
                    have hsplit : (¬ (j : Int) < (k : Int)) ∨ ((j : Int) < (k : Int) ∧ ((L i : Int) == (i : Int)) = false) := by
                      by_cases h1 : j < k
                      · exact .inr ⟨by omega, by have : ¬ L i = i := fun e => hgo ⟨h1, e⟩; simp; omega⟩
                      · exact .inl (by omega)
                    clear hexit
                    obtain ⟨m, hm⟩ : ∃ m, L i = m := ⟨_, rfl⟩
                    rw [hm] at e4 hsplit
                    clear hm
                    rcases hsplit with c1 | ⟨c1, c2'⟩
                    · rw [HE.out] at HSE
                      obtain ⟨S, hS⟩ : ∃ S, Fo.setR L i k = S := ⟨_, rfl⟩
                      have hj9 : (Fo.setR L i j).length = S.length := by rw [HE.out, hS]
                      have hnS : (idsP ids (Fo.setR L i j)).length = S.length := by rw [idsP_len]; exact hj9
                      rw [hnS]
                      rw [hS, idsP_len] at HSE
                      have HST := kide hS
                      have HCi := kide HC.out
                      have HBo : Hid (Below w.heap.size w wr) := HB.out.trans (HBI.out.mono HB.out.size)
                      have hwz := HBI.out.size
                      have hwo := HB.out.size
                      have hbi6 := hn6.out
                      have HPR : Hid (prtR ids L k (i + 1) = prtR ids L k i ++ (if S = [] then [] else [idsP ids S])) := by show prtR ids L k i ++ (if Fo.setR L i k = [] then [] else [idsP ids (Fo.setR L i k)]) = _; rw [hS]
                      have hvl : vs.length ≤ 1073741824 := by have := HC.out.len; have := prtR_len ids L k i; omega
                      clear hS hnS hj9 hgo hjk
                      by_cases hl1 : 0 < S.length
                      · have i3 : (0 : Int) < (S.length : Int) := by omega
                        rw [if_neg (fun e => by rw [e] at hl1; simp at hl1)] at HPR
                        have hba : Below wr.heap.size wr (wr.alloc (Obj.cells #[Value.slice aS S.length cS] 40)) := (Below.refl _ _).alloc (Nat.le_refl _) _
                        have Hba : Hid (Below wo.heap.size wo (wr.alloc (Obj.cells #[Value.slice aS S.length cS] 40))) := HBI.out.trans (hba.mono HBI.out.size)
                        have HBa := kide (HBo.out.trans (hba.mono HBo.out.size))
                        have HSa := kide (ow_later HSE.out hba)
                        have HLa := kide (ow_later HOWi.out hba)
                        have HRa := kide (HC.out.later Hba.out).row
                        clear hba
                        go_wp2_with (at_builtin; refine wpList_appR rfl _ _ rfl w.heap.size _ vs (Value.slice aS S.length cS) rfl rfl HRa.out _ rfl (by simp) hvl (by simp; omega) ?_)
                        intro v7 w7 ho7 hg7 _
                        have C7 := kide (HC.out.push Hba.out (OI.low (oi_of HSa.out) hwo) (fun b hb => ((oi_of HSa.out).lt hb).1) (by simpa using ho7) hg7)
                        have B7 := kide (Below.grown HBa.out hg7 (by simp; omega) (fun j hj => (rowlt HRa.out hj).1))
                        have L7 : Hid (Fo.OW w7 w1.heap.size (Value.slice (some ⟨g2, 0, none⟩) k cl) (Fo.lv k L)) := ow_of ((oi_of HLa.out).move fun b hb' => hg7.block b ((oi_of HLa.out).lt hb').2 fun e => rowapart HRa.out (oi_of HLa.out) e.symm hb')
                        rw [← HPR.out] at C7
                        clear ho7 hg7
                        go_wp2_with fail
                        go_roundw
                        case rel => exact ⟨i + 1, _, by omega, by go_num, C7.out, L7.out, B7.out⟩
                        case measure => simp [intOf]; omega
                      · have i3 : ¬ (0 : Int) < (S.length : Int) := by omega
                        have hS0 : S = [] := List.eq_nil_of_length_eq_zero (by omega)
                        rw [if_pos hS0, List.append_nil] at HPR
                        have C7 := kide (HC.out.later HBI.out)
                        rw [← HPR.out] at C7
                        clear hS0
                        go_wp2_with fail
                        go_roundw
                        case rel => exact ⟨i + 1, _, by omega, by go_num, C7.out, HOWi.out, HBo.out⟩
                        case measure => simp [intOf]; omega
                    · rw [HE.out] at HSE
                      obtain ⟨S, hS⟩ : ∃ S, Fo.setR L i k = S := ⟨_, rfl⟩
                      have hj9 : (Fo.setR L i j).length = S.length := by rw [HE.out, hS]
                      have hnS : (idsP ids (Fo.setR L i j)).length = S.length := by rw [idsP_len]; exact hj9
                      rw [hnS]
                      rw [hS, idsP_len] at HSE
                      have HST := kide hS
                      have HCi := kide HC.out
                      have HBo : Hid (Below w.heap.size w wr) := HB.out.trans (HBI.out.mono HB.out.size)
                      have hwz := HBI.out.size
                      have hwo := HB.out.size
                      have hbi6 := hn6.out
                      have HPR : Hid (prtR ids L k (i + 1) = prtR ids L k i ++ (if S = [] then [] else [idsP ids S])) := by show prtR ids L k i ++ (if Fo.setR L i k = [] then [] else [idsP ids (Fo.setR L i k)]) = _; rw [hS]
                      have hvl : vs.length ≤ 1073741824 := by have := HC.out.len; have := prtR_len ids L k i; omega
                      clear hS hnS hj9 hgo hjk
                      by_cases hl1 : 0 < S.length
                      · have i3 : (0 : Int) < (S.length : Int) := by omega
                        rw [if_neg (fun e => by rw [e] at hl1; simp at hl1)] at HPR
                        have hba : Below wr.heap.size wr (wr.alloc (Obj.cells #[Value.slice aS S.length cS] 40)) := (Below.refl _ _).alloc (Nat.le_refl _) _
                        have Hba : Hid (Below wo.heap.size wo (wr.alloc (Obj.cells #[Value.slice aS S.length cS] 40))) := HBI.out.trans (hba.mono HBI.out.size)
                        have HBa := kide (HBo.out.trans (hba.mono HBo.out.size))
                        have HSa := kide (ow_later HSE.out hba)
                        have HLa := kide (ow_later HOWi.out hba)
                        have HRa := kide (HC.out.later Hba.out).row
                        clear hba
                        go_wp2_with (at_builtin; refine wpList_appR rfl _ _ rfl w.heap.size _ vs (Value.slice aS S.length cS) rfl rfl HRa.out _ rfl (by simp) hvl (by simp; omega) ?_)
                        intro v7 w7 ho7 hg7 _
                        have C7 := kide (HC.out.push Hba.out (OI.low (oi_of HSa.out) hwo) (fun b hb => ((oi_of HSa.out).lt hb).1) (by simpa using ho7) hg7)
                        have B7 := kide (Below.grown HBa.out hg7 (by simp; omega) (fun j hj => (rowlt HRa.out hj).1))
                        have L7 : Hid (Fo.OW w7 w1.heap.size (Value.slice (some ⟨g2, 0, none⟩) k cl) (Fo.lv k L)) := ow_of ((oi_of HLa.out).move fun b hb' => hg7.block b ((oi_of HLa.out).lt hb').2 fun e => rowapart HRa.out (oi_of HLa.out) e.symm hb')
                        rw [← HPR.out] at C7
                        clear ho7 hg7
                        go_wp2_with fail
                        go_roundw
                        case rel => exact ⟨i + 1, _, by omega, by go_num, C7.out, L7.out, B7.out⟩
                        case measure => simp [intOf]; omega
                      · have i3 : ¬ (0 : Int) < (S.length : Int) := by omega
                        have hS0 : S = [] := List.eq_nil_of_length_eq_zero (by omega)
                        rw [if_pos hS0, List.append_nil] at HPR
                        have C7 := kide (HC.out.later HBI.out)
                        rw [← HPR.out] at C7
                        clear hS0
                        go_wp2_with fail
                        go_roundw
                        case rel => exact ⟨i + 1, _, by omega, by go_num, C7.out, HOWi.out, HBo.out⟩
                        case measure => simp [intOf]; omega
              · have e : i = k := by omega
                subst e
                clear hlt
                go_wp2_with fail
                go_returns
                rw [HRP.out]
                exact ⟨_, _, rfl, HC.out, HB.out⟩

end Go.Proofs.YtheglnkndjheaaaGreatDoor
