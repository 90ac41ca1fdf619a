/- What the program's ValuesBy answers. -/
import Derived.Test.YtkffjdicmendkaaVBC
namespace Go.Proofs.Ytkffjdicmendkaa
set_option linter.unusedVariables false
set_option linter.unusedSimpArgs false
open Go.RowKit

theorem packTo_step {bs : List Nat} {j : Nat} (h : bs.getD j 0 = 1) : packTo bs (j + 1) = (packTo bs j).set (j / 64) ((packTo bs j).getD (j / 64) 0 ||| 1 * 2 ^ (j % 64) % 18446744073709551616) := by
  rw [packTo, h]
theorem packTo_skip {bs : List Nat} {j : Nat} (h : bs.getD j 0 = 0) : packTo bs (j + 1) = packTo bs j := by
  rw [packTo, h]
  simp only [Nat.zero_mul, Nat.zero_mod, Nat.or_zero]
  by_cases hj : j / 64 < (packTo bs j).length
  · have e : (packTo bs j).getD (j / 64) 0 = (packTo bs j)[j / 64] := by simp [List.getD, hj]
    rw [e, List.set_getElem_self]
  · exact List.set_eq_of_length_le (by omega)
theorem bz_grown {w w' : World} {b g : Nat} {cs : Array Value} {t : TypeId} (h : Bz w b cs t) (hg : w.grownBy w' (some g)) (hn : b ≠ g) : Bz w' b cs t := by
  unfold Bz
  rw [hg.block b h.lt (fun e => hn (by cases e; rfl))]
  exact h
theorem own_later2 {w w' : World} {g : Nat} {xs : List Nat} (h : Own w g xs) (hb : Below w.heap.size w w') : Own w' g xs := by
  unfold Own
  rw [hb.block g h.lt]
  exact h

set_option maxHeartbeats 2000000 in
set_option maxRecDepth 100000 in
theorem implVb_any (da : Option Addr) (b2 o2 dc n : Nat) (ds : List Dc) (on : List Bool) (w : World) (hd : RdD w da ds) (ho : RdFl w (some ⟨b2, o2, none⟩) on) (hn : on.length = n) :
    Calls Try.prog 21 #[.slice da ds.length dc, .slice (some ⟨b2, o2, none⟩) n n] w (RetM w (vbR ds on)) := by
  have HD := kide (implDecls_any da dc ds w hd)
  have hn2 := ho.1
  rw [hn] at hn2
  cases hA : dclR ds with
  | false =>
    rw [vbR_no1 hA]
    rw [hA] at HD
    clear hA hd ho hn
    go_enter Try.func21, Try.ntmps21
    go_wp2_with (go_at_call 43; refine Calls.mono HD.out ?_; rintro e w1 ⟨rfl, hb1⟩; have HB1 := kide hb1; clear hb1)
    go_returns
    exact ⟨_, [], rfl, Bs.nil _ _, rfl, HB1.out⟩
  | true =>
    rw [hA] at HD
    obtain ⟨h60, hall, htot, -⟩ := dclR_iff.1 hA
    have HTW := kide (fun u (hu : Below w.heap.size w u) => totalWidth_any da dc ds u (hd.later hu) h60 hall)
    have hT := (sumW_le hall).1
    by_cases hS : sumW ds ≤ (n : Int)
    · have HR : Hid (vbR ds on = (vbL ds on ds.length, true)) := by
        show _ = _
        rw [vbR, if_pos ⟨hA, by rw [hn]; exact hS⟩]
      rw [HR.out]
      have HHD := kide hd
      have HHO := kide ho
      have HN := kide hn
      have HALL := kide hall
      obtain ⟨T, hTT⟩ : ∃ T, sumW ds = T := ⟨_, rfl⟩
      have HTT := kide hTT
      rw [hTT] at HTW hS htot hT
      have hS3 : ¬ (n : Int) < T := by omega
      clear hA hd ho hn HR hall hTT
      go_enter Try.func21, Try.ntmps21
      go_wp2_with (first | (go_at_call 43; refine Calls.mono HD.out ?_; rintro e w1 ⟨rfl, hb1⟩; have B1 := kide hb1; clear hb1 HD) | (go_at_call 44; refine Calls.mono (HTW.out w1 B1.out) ?_; rintro e w2 ⟨rfl, hb2⟩; have B2 := kide (B1.out.trans (hb2.mono B1.out.size)); clear hb2 HTW B1))
      go_loopw [1, 6, 23] (fun ov v i wr => ∃ (k S R oo : Nat) (l : List Bw), k ≤ ds.length ∧ i = .int .i64 (k : Int) ∧ Bs wr w.heap.size v l ∧ l.map Bw.ct = vbL ds on k ∧ sumW (ds.take k) = (S : Int) ∧ S + R = n ∧ ov = .slice (some ⟨b2, oo, none⟩) R R ∧ (0 < R → oo = o2 + S) ∧ Below w.heap.size w wr) (fun _ _ i _ => ds.length - (intOf i).toNat)
      case atStart => exact ⟨0, 0, n, o2, [], Nat.zero_le _, rfl, Bs.nil _ _, rfl, by simp [sumW], by omega, rfl, fun _ => rfl, B2.out⟩
      case round =>
        clear B2
        obtain ⟨k, S, R, oo, l, hk, rfl, hbs, hct, hSS, hSR, rfl, hoo, hbel⟩ := hrel
        have HB := kide hbel
        have HBS := kide hbs
        have HCT := kide hct
        have hll : l.length = k := by
          have h := congrArg List.length hct
          simpa [vbL] using h
        have HLL := kide hll
        have HSR := kide hSR
        clear hbs hct hbel hll hSR
        by_cases hlt : k < ds.length
        · obtain ⟨-, hsz, h | ⟨b, o, rfl, hc⟩⟩ := id HHD.out
          · subst h; simp at hlt
          obtain ⟨⟨t, x⟩, hh⟩ : ∃ x, ds[k] = x := ⟨_, rfl⟩
          have gx : ds[k]? = some (t, x) := by rw [List.getElem?_eq_getElem hlt, hh]
          have i0 : (k : Int) < (ds.length : Int) := by omega
          obtain ⟨hx1, hx2⟩ := (dcOk_iff.1 (HALL.out _ (List.mem_of_getElem? gx))).2
          simp only at hx1 hx2
          obtain ⟨V, rfl⟩ := Int.eq_ofNat_of_zero_le (show 0 ≤ x by omega)
          obtain ⟨hs1, hs2⟩ := sum_part HALL.out gx
          simp only at hs2
          rw [HTT.out] at hs2
          have HV : Hid (vbE ds on k = ((V : Int), pack (flB on S V))) := by
            show _ = _
            have e : ds.getD k (.empty, 0) = (t, (V : Int)) := by simp [List.getD, gx]
            rw [vbE, e, hSS]
            simp
          have HS2 : Hid (sumW (ds.take (k + 1)) = ((S + V : Nat) : Int)) := by
            show _ = _
            rw [sumW_take gx, hSS]
            push_cast
            rfl
          rw [hSS] at hs2
          obtain ⟨p0, p1⟩ := (hc k _ gx).later HB.out
          simp only at p0 p1
          have hRV : V ≤ R := by have := HSR.out; omega
          obtain rfl := hoo (by omega)
          obtain ⟨wo, hwo⟩ : ∃ wo, wo = wr := ⟨_, rfl⟩
          subst hwo
          have hbx : Below wo.heap.size wo (wo.alloc (Obj.cells #[Value.string t, Value.int .i64 (V : Int)] 60)) := (Below.refl _ _).alloc (Nat.le_refl _) _
          have X1 := kide (Bz.new wo #[Value.string t, Value.int .i64 (V : Int)] 60)
          have B3 := kide hbx
          have x0 : (wo.alloc (Obj.cells #[Value.string t, Value.int .i64 (V : Int)] 60)).cell? ⟨wo.heap.size, 1, none⟩ = some (.int .i64 (V : Int)) := X1.out.cell 1
          clear hbx hc gx hh hsz hs1
          go_wp2_with fail
          clear p0 p1 x0
          generalize wo.alloc (Obj.cells #[Value.string t, Value.int .i64 (V : Int)] 60) = w3 at *
          generalize hβ : wo.heap.size = β at X1
          have HBE := kide hβ
          clear hβ
          refine Calls.mono (zeroBits_any V w3 (by omega) (by omega)) ?_
          rintro e w4 ⟨g, rfl, hg, how, hb4⟩
          have HBL : Hid ((flB on S V).length = V) := by show _ = _; rw [flB_len _ _ _ (by rw [HN.out]; omega)]
          have OW := kide (show Own w4 g (packTo (flB on S V) 0) from by rw [packTo, HBL.out]; exact how)
          have B4 := kide (B3.out.trans (hb4.mono B3.out.size))
          have X4 := kide (X1.out.later hb4)
          have HGB : Hid (β < g) := by show β < g; have := X1.out.lt; omega
          obtain ⟨pn, hpn⟩ : ∃ pn, (V + 63) / 64 = pn := ⟨_, rfl⟩
          rw [hpn]
          have HPN := kide hpn
          clear how hb4 hg X1 B3 hpn
          have hb5 : Below w4.heap.size w4 (w4.alloc (Obj.cells #[Value.int .i64 (V : Int), Value.slice (some ⟨g, 0, none⟩) pn pn] 58)) := (Below.refl _ _).alloc (Nat.le_refl _) _
          have X5 := kide (X4.out.later hb5)
          have Y5 := kide (Bz.new w4 #[Value.int .i64 (V : Int), Value.slice (some ⟨g, 0, none⟩) pn pn] 58)
          have B5 := kide (B4.out.trans (hb5.mono B4.out.size))
          have HGL : Hid (g < w4.heap.size) := OW.out.lt
          have OW5 := kide (own_later2 OW.out hb5)
          have x0 := X5.out.cell 1
          simp at x0
          clear hb5 OW X4 B4
          go_wp2_with fail
          clear x0
          generalize w4.alloc (Obj.cells #[Value.int .i64 (V : Int), Value.slice (some ⟨g, 0, none⟩) pn pn] 58) = w5 at *
          generalize hγ : w4.heap.size = γ at Y5 HGL
          have HGA := kide hγ
          clear hγ
          clear hSS HGA
          go_loopw [32] (fun i wr => ∃ j : Nat, j ≤ V ∧ i = .int .i64 (j : Int) ∧ Own wr g (packTo (flB on S V) j) ∧ Bz wr β #[Value.string t, Value.int .i64 (V : Int)] 60 ∧ Bz wr γ #[Value.int .i64 (V : Int), Value.slice (some ⟨g, 0, none⟩) pn pn] 58 ∧ Below wo.heap.size wo wr) (fun i _ => V - (intOf i).toNat)
          case atStart => exact ⟨0, Nat.zero_le _, rfl, OW5.out, X5.out, Y5.out, B5.out⟩
          case round =>
            clear OW5 X5 Y5 B5
            obtain ⟨j, hj, rfl, how, hX, hY, hbi⟩ := hrel
            have HOW := kide how
            have HX := kide hX
            have HY := kide hY
            have HBI := kide hbi
            clear how hX hY hbi
            by_cases hjV : j < V
            · have j0 : (j : Int) < (V : Int) := by omega
              have j1 : (j : Int) < (R : Int) := by omega
              have hin : S + j < on.length := by rw [HN.out]; omega
              have q0 : wr.cell? ⟨b2, o2 + S + j, none⟩ = some (.bool (on.getD (S + j) false)) := by
                have hbb := HB.out.trans (HBI.out.mono HB.out.size)
                rcases (HHO.out.later hbb).2 with h0 | ⟨b9, o9, e9, h0⟩
                · rw [h0] at hin; simp at hin
                · cases e9
                  rw [Nat.add_assoc]
                  exact h0 (S + j) hin
              have hfg := flB_get on S V j hjV (by rw [HN.out]; omega)
              have y0 := HY.out.cell 0
              have y1 := HY.out.cell 1
              simp at y0 y1
              obtain ⟨Y, hYY⟩ : ∃ Y, on.getD (S + j) false = Y := ⟨_, rfl⟩
              rw [hYY] at q0 hfg
              cases Y with
              | true =>
                have HST := kide (packTo_step hfg)
                have HPL : Hid ((packTo (flB on S V) j).length = pn) := by show _ = _; rw [packTo_len, HBL.out, HPN.out]
                have HSB := kide (setBit_any (V : Int) g pn j (packTo (flB on S V) j) wr HOW.out (packTo_lt _ _) (by rw [HPL.out]; have := HPN.out; omega) (by rw [HPL.out]; have := HPN.out; omega))
                rw [← HST.out, HPL.out] at HSB
                clear hYY hfg hin HST
                go_wp2_with fail
                refine Calls.mono HSB.out ?_
                rintro e w6 ⟨rfl, ho6, hg6⟩
                have X6 := kide (bz_grown HX.out hg6 (by have := HGB.out; omega))
                have Y6 := kide (bz_grown HY.out hg6 (by have := HGL.out; omega))
                have B6 := kide (Below.grown HBI.out hg6 HBI.out.size (fun j hj => by cases hj; have := HBE.out; have := HGB.out; omega))
                have O6 := kide ho6
                clear ho6 hg6 HSB HOW HX HY HBI q0 y0 y1
                go_wp2_with fail
                go_roundw
                case rel => exact ⟨j + 1, by omega, by go_num, O6.out, X6.out, Y6.out, B6.out⟩
                case measure => simp [intOf]; omega
              | false =>
                have HST := kide (packTo_skip hfg)
                have O6 := kide (show Own wr g (packTo (flB on S V) (j + 1)) from by rw [HST.out]; exact HOW.out)
                clear hYY hfg hin HST
                go_wp2_with fail
                go_roundw
                case rel => exact ⟨j + 1, by omega, by go_num, O6.out, HX.out, HY.out, HBI.out⟩
                case measure => simp [intOf]; omega
            · have hjv : j = V := by omega
              subst hjv
              have hpk : Own wr g (pack (flB on S j)) := by rw [pack, HBL.out]; exact HOW.out
              have HPL : Hid ((pack (flB on S j)).length = pn) := by show _ = _; rw [pack_len, HBL.out, HPN.out]
              have HN4 := kide (hpk.nw (lo := wo.heap.size) (by have := HBE.out; have := HGB.out; omega))
              generalize pack (flB on S j) = PK at *
              have y0 := HY.out.cell 0
              have y1 := HY.out.cell 1
              have x1 := HX.out.cell 1
              simp at y0 y1 x1
              have hγl : γ < wr.heap.size := HY.out.lt
              have hb6 : Below wr.heap.size wr (wr.alloc (Obj.cells #[Value.int .i64 (j : Int), Value.slice (some ⟨g, 0, none⟩) pn pn] 58)) := (Below.refl _ _).alloc (Nat.le_refl _) _
              have Q0 := kide (show (wr.alloc (Obj.cells #[Value.int .i64 (j : Int), Value.slice (some ⟨g, 0, none⟩) pn pn] 58)).cell? ⟨wr.heap.size, 0, none⟩ = some (.int .i64 (j : Int)) by simp)
              have Q1 := kide (show (wr.alloc (Obj.cells #[Value.int .i64 (j : Int), Value.slice (some ⟨g, 0, none⟩) pn pn] 58)).cell? ⟨wr.heap.size, 1, none⟩ = some (.slice (some ⟨g, 0, none⟩) pn pn) by simp)
              have B6 := kide (HBI.out.trans (hb6.mono HBI.out.size))
              have HN6 := kide (HN4.out.later hb6)
              clear hb6 hpk HN4 HOW
              go_wp2_with (at_builtin; refine wpList_appB2 rfl _ _ rfl w.heap.size _ l ⟨(j : Int), some ⟨g, 0, none⟩, pn, PK⟩ (by first | rfl | simp [Act.eval]) (HBS.out.row.later B6.out) wr.heap.size 1 (by first | rfl | simp [Act.eval]) Q0.out (by rw [HPL.out]; exact Q1.out) (by have := HLL.out; omega) (Nat.le_trans HB.out.size B6.out.size) ?_)
              all_goals
                intro g6 cap w6 ho6 hg6
                have HBS6 := kide (HBS.out.app B6.out HB.out.size (y := ⟨(j : Int), some ⟨g, 0, none⟩, pn, PK⟩) HN6.out hg6 ho6)
                have HB6 : Hid (Below w.heap.size w w6) := Below.grown (HB.out.trans (B6.out.mono HB.out.size)) hg6 (Nat.le_trans HB.out.size B6.out.size) (fun j hj => (HBS.out.row.lt hj).1)
                clear ho6 hg6 y0 y1 x1 Q0 Q1 B6 HN6 HBS HB HX HY HBI
                go_wp2_with fail
                go_roundw
              case rel =>
                refine ⟨k + 1, S + j, 0, _, l ++ [⟨(j : Int), some ⟨g, 0, none⟩, pn, PK⟩], by omega, by go_num, HBS6.out, ?_, HS2.out, by have := HSR.out; omega, rfl, fun h => by omega, HB6.out⟩
                rw [List.map_append, HCT.out, vbL_succ, HV.out]
                rfl
              case measure => simp [intOf]; omega
              case rel =>
                refine ⟨k + 1, S + j, R - j, _, l ++ [⟨(j : Int), some ⟨g, 0, none⟩, pn, PK⟩], by omega, by go_num, HBS6.out, ?_, HS2.out, by have := HSR.out; omega, rfl, fun _ => by omega, HB6.out⟩
                rw [List.map_append, HCT.out, vbL_succ, HV.out]
                rfl
              case measure => simp [intOf]; omega
        · have hkn : k = ds.length := by omega
          have HE : Hid (l.map Bw.ct = vbL ds on ds.length) := by
            show _ = _
            rw [HCT.out, hkn]
          go_wp2_with fail
          go_returns
          exact ⟨_, l, rfl, HBS.out, HE.out, HB.out⟩
    · rw [vbR_no2 (by rw [hn]; exact hS)]
      obtain ⟨T, hTT⟩ : ∃ T, sumW ds = T := ⟨_, rfl⟩
      rw [hTT] at HTW hS htot hT
      clear hA hd ho hn hall hTT
      have hS2 : (n : Int) < T := by omega
      go_enter Try.func21, Try.ntmps21
      go_wp2_with (first | (go_at_call 43; refine Calls.mono HD.out ?_; rintro e w1 ⟨rfl, hb1⟩; have B1 := kide hb1; clear hb1 HD) | (go_at_call 44; refine Calls.mono (HTW.out w1 B1.out) ?_; rintro e w2 ⟨rfl, hb2⟩; have B2 := kide (B1.out.trans (hb2.mono B1.out.size)); clear hb2 HTW B1))
      go_returns
      exact ⟨_, [], rfl, Bs.nil _ _, rfl, B2.out⟩

end Go.Proofs.Ytkffjdicmendkaa
