/- handsOver, walked. -/
import Derived.Test.YtmfamdonbgmjbaaDoorZGAE
namespace Go.Proofs.YtmfamdonbgmjbaaDoor
set_option linter.unusedVariables false
set_option linter.unusedSimpArgs false
open Go.RowKit

set_option maxHeartbeats 8000000 in
set_option maxRecDepth 100000 in
theorem handsOver_any {w u : World} {M : Wb} {S N : Nat} {ca : Option Addr} {nc cc : Nat} {tv : Value} {eyl : List (Nat × Nat)} {rows : List (Value × List Nat)} {T : List Int} {ws : List Nat} (xs : List Iw) (h : Wm u w.heap.size M S N ca nc cc tv eyl rows T ws) (hc : RdII w ca xs) (hnc : xs.length = nc) (hn4 : nc ≤ 4000) (hbl : Below w.heap.size w u) (hS : S ≤ 400)
    (p : Nat) (cl : List Int) (hcl : (xs.map Iw.ks)[p]? = some cl) (hcn : ∀ n ∈ cl, -(S : Int) ≤ n ∧ n ≤ (S : Int)) (hcd : Cd cl) (hl2 : 2 ≤ cl.length) (hl4 : cl.length ≤ 400) (e0 e1 : Nat) (hey : eyl[p]? = some (e0, e1)) (he0 : e0 < cl.length) (he1 : e1 < cl.length) (hne : e0 ≠ e1)
    (m : Int) (hm : cl[e0]? = some m ∨ cl[e1]? = some m) (hmT : -m ∈ T) (hws : p / 64 < ws.length) (hrl : ∀ (j : Nat) r, rows[j]? = some r → r.2.length ≤ 4000) :
    Calls Tryd.prog 63 #[.pointer (some ⟨M.bx, 0, none⟩), .int .i64 (p : Int), .int .i64 m] u (RetHn w u M S N ca nc cc tv eyl rows T ws cl p m e0 e1) := by
  have d1 : u.cell? ⟨M.bx, 1, none⟩ = some (.slice ca nc cc) := h.bx.cell 1
  have d2 : u.cell? ⟨M.bx, 2, none⟩ = some (.slice (some ⟨M.ey, 0, none⟩) nc nc) := h.bx.cell 2
  rw [List.getElem?_map] at hcl
  obtain ⟨⟨a1, c1, k1⟩, gx, hk⟩ := Option.map_eq_some_iff.1 hcl
  simp only [] at hk
  subst hk
  have hpn : p < nc := by have := (List.getElem?_eq_some_iff.1 gx).1; omega
  obtain ⟨-, h0 | ⟨b2, o2, rfl, hc2⟩⟩ := hc
  · subst h0; simp at gx
  obtain ⟨-, fw2⟩ := hc2 p _ gx
  have FW := kide fw2
  clear fw2
  obtain ⟨f1, f2⟩ := (hc2 p _ gx).later hbl
  simp only [] at f1 f2
  have F2 := kide f2
  obtain ⟨-, hi64, h0 | ⟨b3, o3, rfl, hc3⟩⟩ := f2
  · rw [h0] at hl2; simp at hl2
  have i0 : (p : Int) < (nc : Int) := by omega
  obtain ⟨x0, hx0⟩ : ∃ x0, k1[e0]? = some x0 := ⟨_, List.getElem?_eq_getElem he0⟩
  obtain ⟨x1, hx1⟩ : ∃ x1, k1[e1]? = some x1 := ⟨_, List.getElem?_eq_getElem he1⟩
  have i1 : (e0 : Int) < (k1.length : Int) := by omega
  have i2 : (e1 : Int) < (k1.length : Int) := by omega
  have HU := kide h
  have HBL := kide hbl
  have HCN := kide hcn
  have HCD := kide hcd
  have HEY := kide hey
  have HX0 := kide hx0
  have HX1 := kide hx1
  have HC3 := kide hc3
  have HMT := kide hmT
  have HRL := kide hrl
  have HM := kide hm
  have HWS := kide hws
  have HCL := kide hcl
  clear h hbl hcn hcd hey hx0 hx1 hc3 hmT hrl hm hcl gx hc2 hi64 hws
  go_enter Tryd.func63, Tryd.ntmps63
  go_wp2_with fail
  go_quiet (fail)
  have BU1 := kide (below_drewN (Below.refl u.heap.size u) nq)
  have FC : Hid (∀ v, Below u.heap.size u v → ∀ (i : Nat) x, k1[i]? = some x → v.cell? ⟨b3, o3 + i, none⟩ = some (.int .i64 x)) := fun v hv i x hx => by
    obtain ⟨-, -, h0 | ⟨b, o, e, hc⟩⟩ := F2.out.later hv
    · rw [h0] at hx; simp at hx
    · cases e
      rw [hc i (List.getElem?_eq_some_iff.1 hx).1]
      simp [List.getD, hx]
  have EC : Hid (∀ v, Below u.heap.size u v → v.cell? ⟨M.ey, p * 2, none⟩ = some (.int .i64 (e0 : Int)) ∧ v.cell? ⟨M.ey, p * 2 + 1, none⟩ = some (.int .i64 (e1 : Int))) := fun v hv => by
    obtain ⟨y0, y1⟩ := eyV_at HEY.out
    exact ⟨((HU.out.ey.later hv).cell _).trans y0, ((HU.out.ey.later hv).cell _).trans y1⟩
  generalize u.drewN nq = u1 at *
  obtain ⟨g0, g1⟩ := EC.out _ BU1.out
  have q0 := FC.out _ BU1.out e0 x0 HX0.out
  have q1 := FC.out _ BU1.out e1 x1 HX1.out
  have z1 : ((k1.length : Int) == 0) = false := beq_eq_false_iff_ne.2 (by omega)
  have z2 : ¬ (k1.length : Int) = 0 := by omega
  have HN0 := kide (HCN.out x0 (List.mem_of_getElem? HX0.out))
  have HN1 := kide (HCN.out x1 (List.mem_of_getElem? HX1.out))
  by_cases hxm : x0 = m
  · have r0 : (x0 != m) = false := by simp [hxm]
    have HXM : Hid (k1[e0]? = some m) := by show _ = _; rw [HX0.out, hxm]
    clear hxm
    have HSO := kide (isSo_any (HU.out.later BU1.out) hS x1 (HCN.out x1 (List.mem_of_getElem? HX1.out)))
    go_wp2_with fail
    refine Calls.mono HSO.out ?_
    rintro e u2 ⟨rfl, hb2⟩
    have BU2 := kide (BU1.out.trans (hb2.mono BU1.out.size))
    clear hb2 g0 g1 q0 q1
    cases hso : decide (x1 ∈ T) with
    | true =>
      have HF : Hid (metB T k1 = true) := metB_iff.2 ⟨x1, List.mem_of_getElem? HX1.out, of_decide_eq_true hso⟩
      clear hso
      go_wp2_with fail
      go_ret
      exact ⟨false, eyl, rows, ws, rfl, HU.out.later BU2.out, BU2.out.mono HBL.out.size, .inl ⟨rfl, rfl, rfl, rfl, HF.out⟩⟩
    | false =>
      clear hso
      obtain ⟨g0, g1⟩ := EC.out _ BU2.out
      have w1 : IntKind.i64.wrap ((k1.length : Int) - 1) = (k1.length : Int) - 1 := by rw [IntKind.wrap_i64]; omega
      go_wp2_with fail
      clear g0 g1
      go_loopw [55, 11] (fun q av wr => ∃ (t at_ : Nat), t ≤ k1.length - 1 ∧ q = .int .i64 (t : Int) ∧ av = .int .i64 (at_ : Int) ∧ at_ = (e0 + t) % k1.length ∧ (∀ s, 1 ≤ s → s ≤ t → (e0 + s) % k1.length = e1 ∨ ∃ x, k1[(e0 + s) % k1.length]? = some x ∧ -x ∈ T) ∧ Below u.heap.size u wr) (fun q _ _ => k1.length - 1 - (intOf q).toNat)
      case atStart => exact ⟨0, e0, Nat.zero_le _, rfl, rfl, by rw [Nat.add_zero, Nat.mod_eq_of_lt he0], fun s h1 h2 => by omega, BU2.out⟩
      case round =>
        obtain ⟨t, at_, ht, rfl, rfl, hat, hse, hbr⟩ := hrel
        have HAT := kide hat
        have HSE := kide hse
        have BR := kide hbr
        clear hat hse hbr
        by_cases hlt : t < k1.length - 1
        · obtain ⟨a2, ha2⟩ : ∃ a2, (at_ + 1) % k1.length = a2 := ⟨_, rfl⟩
          have ha2l : a2 < k1.length := by rw [← ha2]; exact Nat.mod_lt _ (by omega)
          have hal : at_ < k1.length := by rw [HAT.out]; exact Nat.mod_lt _ (by omega)
          have HA2 : Hid ((e0 + (t + 1)) % k1.length = a2) := by
            show _ = _
            rw [← ha2, HAT.out, Nat.mod_add_mod, Nat.add_assoc]
          have v1 : IntKind.i64.wrap ((at_ : Int) + 1) = (at_ : Int) + 1 := by rw [IntKind.wrap_i64]; omega
          have v2 : ((at_ : Int) + 1).tmod (k1.length : Int) = (a2 : Int) := by
            rw [Int.tmod_eq_emod_of_nonneg (by omega), ← ha2]
            simp
          have v3 : (t : Int) < (k1.length : Int) - 1 := by omega
          have v4 : (a2 : Int) < (k1.length : Int) := by omega
          obtain ⟨x2, hx2⟩ : ∃ x2, k1[a2]? = some x2 := ⟨_, List.getElem?_eq_getElem ha2l⟩
          have HX2 := kide hx2
          have q2 := FC.out _ BR.out a2 x2 hx2
          have hb2 := HCN.out x2 (List.mem_of_getElem? hx2)
          have v5 : IntKind.i64.wrap (-x2) = -x2 := by rw [IntKind.wrap_i64]; omega
          have HSO2 := kide (isSo_any (HU.out.later BR.out) hS (-x2) (by omega))
          have HB2 := kide hb2
          clear ha2 hx2 hb2
          by_cases heq : a2 = e1
          · have r1 : ((a2 : Int) != (e1 : Int)) = false := by simp [heq]
            have HEQ := kide heq
            clear heq
            go_wp2_with fail
            go_roundw
            case rel => exact ⟨t + 1, a2, by omega, by go_num, rfl, HA2.out.symm, fun s h1 h2 => by
              by_cases e : s ≤ t
              · exact HSE.out s h1 e
              · obtain rfl : s = t + 1 := by omega
                exact .inl (HA2.out.trans HEQ.out), BR.out⟩
            case measure => simp only [intOf]; omega
          have r1 : ((a2 : Int) != (e1 : Int)) = true := by simp; omega
          have HEQ := kide heq
          clear heq
          cases hs2 : decide (-x2 ∈ T) with
          | true =>
            rw [hs2] at HSO2
            have HIN := kide (of_decide_eq_true hs2)
            clear hs2
            go_wp2_with fail
            refine Calls.mono HSO2.out ?_
            rintro e u3 ⟨rfl, hb3⟩
            have BU3 := kide (BR.out.trans (hb3.mono BR.out.size))
            clear hb3
            go_wp2_with fail
            go_roundw
            case rel => exact ⟨t + 1, a2, by omega, by go_num, rfl, HA2.out.symm, fun s h1 h2 => by
              by_cases e : s ≤ t
              · exact HSE.out s h1 e
              · obtain rfl : s = t + 1 := by omega
                exact .inr ⟨x2, by rw [HA2.out]; exact HX2.out, HIN.out⟩, BU3.out⟩
            case measure => simp only [intOf]; omega
          | false =>
            rw [hs2] at HSO2
            have HIN := kide (of_decide_eq_false hs2)
            clear hs2
            obtain ⟨g0, g1⟩ := EC.out _ BR.out
            go_wp2_with fail
            refine Calls.mono HSO2.out ?_
            rintro e u3 ⟨rfl, hb3⟩
            have BU3 := kide (BR.out.trans (hb3.mono BR.out.size))
            clear hb3 g0 g1
            obtain ⟨g0, g1⟩ := EC.out _ BU3.out
            have W3 := kide (HU.out.later BU3.out)
            have z3 := W3.out.ey.froz (p * 2)
            have z4 := W3.out.ey.froz (p * 2 + 1)
            obtain ⟨j, hj⟩ : ∃ j : Nat, (S : Int) + x2 = (j : Int) := ⟨((S : Int) + x2).toNat, by have := HB2.out; omega⟩
            have hjN : j < N := by have := HB2.out; have := HU.out.sz; omega
            have OB4 := kide (Ob.set (b := M.ey) (o := p * 2) u3 (.int .i64 (a2 : Int)))
            have BE4 : Hid (Bz (u3.setCell ⟨M.ey, p * 2, none⟩ (.int .i64 (a2 : Int))) M.ey (eyV (eyl.set p (a2, e1))) 96) := by have := W3.out.ey.set (p * 2) (.int .i64 (a2 : Int)); rw [eyV_set0 HEY.out] at this; exact this
            obtain ⟨u4, hu4⟩ : ∃ u4, u3.setCell ⟨M.ey, p * 2, none⟩ (.int .i64 (a2 : Int)) = u4 := ⟨_, rfl⟩
            rw [hu4] at OB4 BE4
            have W4 := kide (W3.out.eyAt OB4.out BE4.out (by rw [List.length_set]))
            have B4 := kide ((BU3.out.mono HBL.out.size).trans (OB4.out.bel HU.out.lo.2.1 (Nat.le_trans HBL.out.size BU3.out.size)))
            have q4 : u4.cell? ⟨b3, o3 + a2, none⟩ = some (.int .i64 x2) := by
              obtain ⟨-, -, h0 | ⟨b, o, e, hc⟩⟩ := FW.out.later (HBL.out.trans B4.out)
              · have := HX2.out; rw [h0] at this; simp at this
              · cases e
                rw [hc a2 ha2l]
                simp [List.getD, HX2.out]
            obtain ⟨⟨rv, rl⟩, hrw⟩ : ∃ r, rows[j]? = some r := ⟨_, List.getElem?_eq_getElem (by rw [HU.out.nr]; exact hjN)⟩
            have HRW := kide hrw
            have HRV : Hid ((rows.map Prod.fst).toArray[j]? = some rv) := by show _ = _; rw [List.getElem?_toArray, List.getElem?_map, hrw]; rfl
            obtain ⟨l, hll⟩ : ∃ l, (rl.map fun (q : Nat) => (q : Int)) = l := ⟨_, rfl⟩
            have HLL := kide hll
            have HL4 : Hid (l.length ≤ 4000) := by show _ ≤ _; rw [← hll, List.length_map]; exact HRL.out j _ hrw
            have k3 : (j : Int) < (N : Int) := by omega
            have HSEAT := kide (seat_any x2 u4 W4.out.bx rfl hS (by have := HB2.out; omega))
            rw [hj] at HSEAT
            have HJ := kide hj
            clear hj
            go_wp2_with fail
            refine Calls.mono HSEAT.out ?_
            rintro e u5 ⟨rfl, hw5⟩
            obtain rfl := hw5.symm
            clear hw5 hu4 g0 g1 z3 z4 q4 hrw hll BE4 OB4 HSEAT
            go_wp2_with fail
            refine wp_region_x (SA := fun uu => uu.cell? ⟨M.bx, 3, none⟩ = some (Value.slice (some ⟨M.wt, 0, none⟩) N N) ∧ uu.cell? ⟨M.wt, j, none⟩ = some (rv)) (SB := fun _ => True) (k := 16) (by kernel_rfl) ?_
            have hbd : Below u4.heap.size u4 u4.drew := (Below.refl _ _).drew
            have WW0 := kide (W4.out.later hbd)
            have BB0 := kide (B4.out.trans (hbd.mono (Nat.le_trans HBL.out.size B4.out.size)))
            clear hbd
            generalize u4.drew = q0 at *
            have c0_0 : q0.cell? ⟨M.bx, 3, none⟩ = some (Value.slice (some ⟨M.wt, 0, none⟩) N N) := WW0.out.bx.cell 3
            have c1_0 : q0.cell? ⟨M.wt, j, none⟩ = some rv := (WW0.out.wt.cell j).trans HRV.out
            have hs0 : Hid ((fun uu => uu.cell? ⟨M.bx, 3, none⟩ = some (Value.slice (some ⟨M.wt, 0, none⟩) N N) ∧ uu.cell? ⟨M.wt, j, none⟩ = some (rv)) q0) := ⟨c0_0, c1_0⟩
            try go_simp
            refine wpAnyX_both (T := fun _ => True) (i := 0) (v := Value.pointer (some ⟨M.bx, 0, none⟩)) rfl (by kernel_rfl) (by kernel_rfl) (by kernel_rfl) (fun _ _ _ h => by first | exact h | exact h.elim) (by decide) (fun _ _ => trivial) (fun _ _ => trivial) (Sx.before (by kernel_rfl) hs0.out) (Or.inl ⟨by rfl, fun uu hu => by go_simp⟩) ?_
            try go_simp
            refine wpAnyX_both (T := fun _ => True) (i := 1) (v := Value.pointer (some ⟨M.bx, 0, none⟩)) rfl (by kernel_rfl) (by kernel_rfl) (by kernel_rfl) (fun _ _ _ h => by first | exact h | exact h.elim) (by decide) (fun _ _ => trivial) (fun _ _ => trivial) (Sx.before (by kernel_rfl) hs0.out) (Or.inl ⟨by rfl, fun uu hu => by go_simp⟩) ?_
            try go_simp
            refine wpAnyX_both (T := fun _ => True) (i := 2) (v := Value.pointer (some ⟨M.bx, 3, none⟩)) rfl (by kernel_rfl) (by kernel_rfl) (by kernel_rfl) (fun _ _ _ h => by first | exact h | exact h.elim) (by decide) (fun _ _ => trivial) (fun _ _ => trivial) (Sx.before (by kernel_rfl) hs0.out) (Or.inl ⟨by rfl, fun uu hu => by go_simp⟩) ?_
            try go_simp
            refine wpAnyX_take (i := 3) (v := Value.slice (some ⟨M.wt, 0, none⟩) N N) rfl (by kernel_rfl) (by kernel_rfl) (by kernel_rfl) (fun _ _ _ h => by first | exact h | exact h.elim) (by decide) (by kernel_rfl) (by kernel_rfl) hs0.out (Or.inl ⟨by rfl, fun uu hu => by obtain ⟨e0, e1⟩ := hu; go_simp⟩) ?_
            try go_simp
            refine wpAnyX_both (T := fun _ => True) (i := 4) (v := Value.int .i64 (j : Int)) rfl (by kernel_rfl) (by kernel_rfl) (by kernel_rfl) (fun _ _ _ h => by first | exact h | exact h.elim) (by decide) (fun _ _ => trivial) (fun _ _ => trivial) (Sx.before (by kernel_rfl) hs0.out) (Or.inl ⟨by rfl, fun uu hu => by go_simp⟩) ?_
            try go_simp
            refine wpAnyX_both (T := fun _ => True) (i := 5) (v := Value.pointer (some ⟨M.bx, 0, none⟩)) rfl (by kernel_rfl) (by kernel_rfl) (by kernel_rfl) (fun _ _ _ h => by first | exact h | exact h.elim) (by decide) (fun _ _ => trivial) (fun _ _ => trivial) (Sx.before (by kernel_rfl) hs0.out) (Or.inl ⟨by rfl, fun uu hu => by go_simp⟩) ?_
            try go_simp
            refine wpAnyX_both (T := fun _ => True) (i := 6) (v := Value.pointer (some ⟨M.bx, 0, none⟩)) rfl (by kernel_rfl) (by kernel_rfl) (by kernel_rfl) (fun _ _ _ h => by first | exact h | exact h.elim) (by decide) (fun _ _ => trivial) (fun _ _ => trivial) (Sx.before (by kernel_rfl) hs0.out) (Or.inl ⟨by rfl, fun uu hu => by go_simp⟩) ?_
            try go_simp
            refine wpAnyX_both (T := fun _ => True) (i := 7) (v := Value.pointer (some ⟨M.bx, 3, none⟩)) rfl (by kernel_rfl) (by kernel_rfl) (by kernel_rfl) (fun _ _ _ h => by first | exact h | exact h.elim) (by decide) (fun _ _ => trivial) (fun _ _ => trivial) (Sx.before (by kernel_rfl) hs0.out) (Or.inl ⟨by rfl, fun uu hu => by go_simp⟩) ?_
            try go_simp
            refine wpAnyX_take (i := 8) (v := Value.slice (some ⟨M.wt, 0, none⟩) N N) rfl (by kernel_rfl) (by kernel_rfl) (by kernel_rfl) (fun _ _ _ h => by first | exact h | exact h.elim) (by decide) (by kernel_rfl) (by kernel_rfl) hs0.out (Or.inl ⟨by rfl, fun uu hu => by obtain ⟨e0, e1⟩ := hu; go_simp⟩) ?_
            try go_simp
            refine wpAnyX_both (T := fun _ => True) (i := 9) (v := Value.int .i64 (j : Int)) rfl (by kernel_rfl) (by kernel_rfl) (by kernel_rfl) (fun _ _ _ h => by first | exact h | exact h.elim) (by decide) (fun _ _ => trivial) (fun _ _ => trivial) (Sx.before (by kernel_rfl) hs0.out) (Or.inl ⟨by rfl, fun uu hu => by go_simp⟩) ?_
            try go_simp
            refine wpAnyX_both (T := fun _ => True) (i := 10) (v := Value.pointer (some ⟨M.wt, j, none⟩)) rfl (by kernel_rfl) (by kernel_rfl) (by kernel_rfl) (fun _ _ _ h => by first | exact h | exact h.elim) (by decide) (fun _ _ => trivial) (fun _ _ => trivial) (Sx.before (by kernel_rfl) hs0.out) (Or.inl ⟨by rfl, fun uu hu => by go_simp⟩) ?_
            try go_simp
            refine wpAnyX_take (i := 11) (v := rv) rfl (by kernel_rfl) (by kernel_rfl) (by kernel_rfl) (fun _ _ _ h => by first | exact h | exact h.elim) (by decide) (by kernel_rfl) (by kernel_rfl) hs0.out (Or.inl ⟨by rfl, fun uu hu => by obtain ⟨e0, e1⟩ := hu; go_simp⟩) ?_
            try go_simp
            refine wpAnyX_both (T := fun _ => True) (i := 12) (v := Value.int .i64 (p : Int)) rfl (by kernel_rfl) (by kernel_rfl) (by kernel_rfl) (fun _ _ _ h => by first | exact h | exact h.elim) (by decide) (fun _ _ => trivial) (fun _ _ => trivial) (Sx.before (by kernel_rfl) hs0.out) (Or.inl ⟨by rfl, fun uu hu => by go_simp⟩) ?_
            try go_simp
            refine wpAnyX_ready (rs := [13]) (by kernel_rfl) (by simp) (AllX.cons rfl (fun K hK => ?_) AllX.nil)
            go_simp
            have hbx : Below q0.heap.size q0 (q0.alloc (Obj.cells #[Value.int .i64 (p : Int)] 3)) := (Below.refl _ _).alloc (Nat.le_refl _) _
            have XN1 := kide (Bz.new q0 #[Value.int .i64 (p : Int)] 3)
            have WW1 := kide (WW0.out.later hbx)
            have BB1 := kide (BB0.out.trans (hbx.mono (Nat.le_trans HBL.out.size BB0.out.size)))
            obtain ⟨gn, hgn⟩ : ∃ x, q0.heap.size = x := ⟨_, rfl⟩
            rw [hgn] at XN1
            simp only [hgn]
            clear hbx hgn
            generalize q0.alloc (Obj.cells #[Value.int .i64 (p : Int)] 3) = q1 at *
            have c0_1 : q1.cell? ⟨M.bx, 3, none⟩ = some (Value.slice (some ⟨M.wt, 0, none⟩) N N) := WW1.out.bx.cell 3
            have c1_1 : q1.cell? ⟨M.wt, j, none⟩ = some rv := (WW1.out.wt.cell j).trans HRV.out
            have hs1 : Hid ((fun uu => uu.cell? ⟨M.bx, 3, none⟩ = some (Value.slice (some ⟨M.wt, 0, none⟩) N N) ∧ uu.cell? ⟨M.wt, j, none⟩ = some (rv)) q1) := ⟨c0_1, c1_1⟩
            refine hK _ _ (Sx.before (by kernel_rfl) hs1.out) ?_
            clear hK K
            try go_simp
            refine wpAnyX_ready (rs := [14]) (by kernel_rfl) (by simp) (AllX.cons rfl (fun K hK => ?_) AllX.nil)
            have OO1 : Hid (OJ q1 w.heap.size rv l) := by have := WW1.out.rw j _ HRW.out; rw [HLL.out] at this; exact this
            refine step_appJ _ rfl _ _ rfl w.heap.size rv l (p : Int) (by first | rfl | simp [Act.eval]) OO1.out gn 1 (by first | rfl | simp [Act.eval]) (XN1.out.cell 0) (by have := HL4.out; omega) (Nat.le_trans HBL.out.size BB1.out.size) ?_
            intro g7 c7 q2 ho hg hat
            have HO2 := kide ho
            have HG2 := kide hg
            have HAT7 := kide hat
            clear ho hg hat
            have WT2 : Hid (Bz q2 M.wt (rows.map Prod.fst).toArray 97) := gBz WW1.out.wt HG2.out (fun g e => OO1.out.notBz WW1.out.wt (by decide) e)
            have BB2 := kide (BB1.out.trans (⟨HG2.out.os, HG2.out.tape, HG2.out.output, HG2.out.size, fun k hk => HG2.out.block k (Nat.lt_of_lt_of_le hk (Nat.le_trans HBL.out.size BB1.out.size)) (fun e => by have := (OO1.out.lt e.symm).1; omega)⟩ : Below w.heap.size q1 q2))
            have c0_2 : q2.cell? ⟨M.bx, 3, none⟩ = some (Value.slice (some ⟨M.wt, 0, none⟩) N N) := (gBz WW1.out.bx HG2.out (fun g e => OO1.out.notBz WW1.out.bx (by decide) e)).cell 3
            have c1_2 : q2.cell? ⟨M.wt, j, none⟩ = some rv := (WT2.out.cell j).trans HRV.out
            have hs2 : Hid ((fun uu => uu.cell? ⟨M.bx, 3, none⟩ = some (Value.slice (some ⟨M.wt, 0, none⟩) N N) ∧ uu.cell? ⟨M.wt, j, none⟩ = some (rv)) q2) := ⟨c0_2, c1_2⟩
            refine hK _ _ (Sx.before (by kernel_rfl) hs2.out) ?_
            clear hK K
            try go_simp
            refine wpAnyX_both (T := fun _ => True) (i := 15) (v := Value.pointer (some ⟨M.wt, j, none⟩)) rfl (by kernel_rfl) (by kernel_rfl) (by kernel_rfl) (fun _ _ _ h => by first | exact h | exact h.elim) (by decide) (fun _ _ => trivial) (fun _ _ => trivial) (Sx.before (by kernel_rfl) hs2.out) (Or.inl ⟨by rfl, fun uu hu => by go_simp⟩) ?_
            try go_simp
            refine wpAnyX_ready (rs := [16]) (by kernel_rfl) (by simp) (AllX.cons rfl (fun K hK => ?_) AllX.nil)
            have ce0 : q2.cell? ⟨M.wt, j, none⟩ = some rv := (WT2.out.cell j).trans HRV.out
            have cf0 := WT2.out.froz j
            go_simp
            have WW3 : Hid (Wm (q2.setCell ⟨M.wt, j, none⟩ (Value.slice (some ⟨g7, 0, none⟩) (l.length + 1) c7)) w.heap.size M S N (some ⟨b2, o2, none⟩) nc cc tv (eyl.set p (a2, e1)) (rows.set j (Value.slice (some ⟨g7, 0, none⟩) (l.length + 1) c7, rl ++ [p])) T ws) := WW1.out.rowAt HRW.out (Nat.le_trans HBL.out.size BB1.out.size) (by rw [List.map_append, HLL.out]; exact HO2.out) HG2.out (HAT7.out.imp (fun h => h.symm) (fun h => by rw [h]; rfl))
            have BB3 := kide (BB2.out.setCell (p := ⟨M.wt, j, none⟩) HU.out.lo.2.2.1 (Value.slice (some ⟨g7, 0, none⟩) (l.length + 1) c7))
            clear ce0 cf0
            generalize q2.setCell ⟨M.wt, j, none⟩ (Value.slice (some ⟨g7, 0, none⟩) (l.length + 1) c7) = q3 at *
            refine hK _ _ (Sx.behind (by kernel_rfl) trivial) ?_
            clear hK K
            try go_simp
            refine wpAnyX_done (by kernel_rfl) ?_ _
            go_wp2_with fail
            go_ret
            exact ⟨true, _, _, ws, rfl, WW3.out, BB3.out, .inr (.inr ⟨rfl, rfl, a2, x2, j, (rv, rl), _, HX2.out, HIN.out, HJ.out, HRW.out, rfl, .inl ⟨HXM.out, HEQ.out, rfl⟩⟩)⟩
        · have HTE : Hid (t = k1.length - 1) := by show _ = _; omega
          have v3 : ¬ (t : Int) < (k1.length : Int) - 1 := by omega
          have HOP : Hid ((opn T k1).length ≤ 1) := opn_one HCD.out (o := e1) fun i x hi hx => by
            by_cases e : i = e0
            · subst e
              rw [HXM.out] at hx
              cases hx
              exact HMT.out
            · obtain ⟨s, s1, s2, s3⟩ := round_all he0 (List.getElem?_eq_some_iff.1 hx).1 e
              rcases HSE.out s s1 (by rw [HTE.out]; exact s2) with h | ⟨y, h, hy⟩
              · exact absurd (s3.symm.trans h) hi
              · rw [s3, hx] at h
                cases h
                exact hy
          have d6 : wr.cell? ⟨M.bx, 6, none⟩ = some (.slice (some ⟨M.du, 0, none⟩) ws.length ws.length) := ((HU.out.later BR.out).bx.cell 6)
          have HAD := kide (addP_any M.du ws.length ws.length p ws wr (HU.out.later BR.out).du rfl HWS.out (by omega) (HU.out.later BR.out).wl)
          go_wp2_with fail
          refine Calls.mono HAD.out ?_
          rintro e u3 ⟨rfl, hb3, ho3⟩
          have HW3 := kide ((HU.out.later BR.out).duAt ho3 hb3 (by rw [List.length_set]) (fun i => by
            by_cases e : p / 64 = i
            · subst e
              rw [List.getD_eq_getElem?_getD, List.getElem?_set_self HWS.out, Option.getD_some, Nat.shiftLeft_eq, Nat.one_mul]
              exact Nat.or_lt_two_pow (n := 64) (HU.out.wl _) (Nat.pow_lt_pow_right (by omega) (Nat.mod_lt _ (by omega)))
            · rw [List.getD_eq_getElem?_getD, List.getElem?_set_ne e, ← List.getD_eq_getElem?_getD]
              exact HU.out.wl i))
          have HB3 := kide ((BR.out.mono HBL.out.size).trans (ho3.bel HU.out.lo.2.2.2.2 (Nat.le_trans HBL.out.size BR.out.size)))
          clear hb3 ho3
          go_wp2_with fail
          go_ret
          exact ⟨false, eyl, rows, _, rfl, HW3.out, HB3.out, .inr (.inl ⟨rfl, rfl, rfl, by rw [List.length_set], fun q => plB_add HWS.out, HOP.out⟩)⟩
  · have r0 : (x0 != m) = true := by simp [hxm]
    have HXM : Hid (k1[e1]? = some m) := by
      rcases HM.out with h | h
      · rw [HX0.out] at h
        exact absurd (Option.some.inj h) hxm
      · exact h
    clear hxm
    have HSO := kide (isSo_any (HU.out.later BU1.out) hS x0 (HCN.out x0 (List.mem_of_getElem? HX0.out)))
    go_wp2_with fail
    refine Calls.mono HSO.out ?_
    rintro e u2 ⟨rfl, hb2⟩
    have BU2 := kide (BU1.out.trans (hb2.mono BU1.out.size))
    clear hb2 g0 g1 q0 q1
    cases hso : decide (x0 ∈ T) with
    | true =>
      have HF : Hid (metB T k1 = true) := metB_iff.2 ⟨x0, List.mem_of_getElem? HX0.out, of_decide_eq_true hso⟩
      clear hso
      go_wp2_with fail
      go_ret
      exact ⟨false, eyl, rows, ws, rfl, HU.out.later BU2.out, BU2.out.mono HBL.out.size, .inl ⟨rfl, rfl, rfl, rfl, HF.out⟩⟩
    | false =>
      clear hso
      obtain ⟨g0, g1⟩ := EC.out _ BU2.out
      have w1 : IntKind.i64.wrap ((k1.length : Int) - 1) = (k1.length : Int) - 1 := by rw [IntKind.wrap_i64]; omega
      go_wp2_with fail
      clear g0 g1
      go_loopw [55, 11] (fun q av wr => ∃ (t at_ : Nat), t ≤ k1.length - 1 ∧ q = .int .i64 (t : Int) ∧ av = .int .i64 (at_ : Int) ∧ at_ = (e1 + t) % k1.length ∧ (∀ s, 1 ≤ s → s ≤ t → (e1 + s) % k1.length = e0 ∨ ∃ x, k1[(e1 + s) % k1.length]? = some x ∧ -x ∈ T) ∧ Below u.heap.size u wr) (fun q _ _ => k1.length - 1 - (intOf q).toNat)
      case atStart => exact ⟨0, e1, Nat.zero_le _, rfl, rfl, by rw [Nat.add_zero, Nat.mod_eq_of_lt he1], fun s h1 h2 => by omega, BU2.out⟩
      case round =>
        obtain ⟨t, at_, ht, rfl, rfl, hat, hse, hbr⟩ := hrel
        have HAT := kide hat
        have HSE := kide hse
        have BR := kide hbr
        clear hat hse hbr
        by_cases hlt : t < k1.length - 1
        · obtain ⟨a2, ha2⟩ : ∃ a2, (at_ + 1) % k1.length = a2 := ⟨_, rfl⟩
          have ha2l : a2 < k1.length := by rw [← ha2]; exact Nat.mod_lt _ (by omega)
          have hal : at_ < k1.length := by rw [HAT.out]; exact Nat.mod_lt _ (by omega)
          have HA2 : Hid ((e1 + (t + 1)) % k1.length = a2) := by
            show _ = _
            rw [← ha2, HAT.out, Nat.mod_add_mod, Nat.add_assoc]
          have v1 : IntKind.i64.wrap ((at_ : Int) + 1) = (at_ : Int) + 1 := by rw [IntKind.wrap_i64]; omega
          have v2 : ((at_ : Int) + 1).tmod (k1.length : Int) = (a2 : Int) := by
            rw [Int.tmod_eq_emod_of_nonneg (by omega), ← ha2]
            simp
          have v3 : (t : Int) < (k1.length : Int) - 1 := by omega
          have v4 : (a2 : Int) < (k1.length : Int) := by omega
          obtain ⟨x2, hx2⟩ : ∃ x2, k1[a2]? = some x2 := ⟨_, List.getElem?_eq_getElem ha2l⟩
          have HX2 := kide hx2
          have q2 := FC.out _ BR.out a2 x2 hx2
          have hb2 := HCN.out x2 (List.mem_of_getElem? hx2)
          have v5 : IntKind.i64.wrap (-x2) = -x2 := by rw [IntKind.wrap_i64]; omega
          have HSO2 := kide (isSo_any (HU.out.later BR.out) hS (-x2) (by omega))
          have HB2 := kide hb2
          clear ha2 hx2 hb2
          by_cases heq : a2 = e0
          · have r1 : ((a2 : Int) != (e0 : Int)) = false := by simp [heq]
            have HEQ := kide heq
            clear heq
            go_wp2_with fail
            go_roundw
            case rel => exact ⟨t + 1, a2, by omega, by go_num, rfl, HA2.out.symm, fun s h1 h2 => by
              by_cases e : s ≤ t
              · exact HSE.out s h1 e
              · obtain rfl : s = t + 1 := by omega
                exact .inl (HA2.out.trans HEQ.out), BR.out⟩
            case measure => simp only [intOf]; omega
          have r1 : ((a2 : Int) != (e0 : Int)) = true := by simp; omega
          have HEQ := kide heq
          clear heq
          cases hs2 : decide (-x2 ∈ T) with
          | true =>
            rw [hs2] at HSO2
            have HIN := kide (of_decide_eq_true hs2)
            clear hs2
            go_wp2_with fail
            refine Calls.mono HSO2.out ?_
            rintro e u3 ⟨rfl, hb3⟩
            have BU3 := kide (BR.out.trans (hb3.mono BR.out.size))
            clear hb3
            go_wp2_with fail
            go_roundw
            case rel => exact ⟨t + 1, a2, by omega, by go_num, rfl, HA2.out.symm, fun s h1 h2 => by
              by_cases e : s ≤ t
              · exact HSE.out s h1 e
              · obtain rfl : s = t + 1 := by omega
                exact .inr ⟨x2, by rw [HA2.out]; exact HX2.out, HIN.out⟩, BU3.out⟩
            case measure => simp only [intOf]; omega
          | false =>
            rw [hs2] at HSO2
            have HIN := kide (of_decide_eq_false hs2)
            clear hs2
            obtain ⟨g0, g1⟩ := EC.out _ BR.out
            go_wp2_with fail
            refine Calls.mono HSO2.out ?_
            rintro e u3 ⟨rfl, hb3⟩
            have BU3 := kide (BR.out.trans (hb3.mono BR.out.size))
            clear hb3 g0 g1
            obtain ⟨g0, g1⟩ := EC.out _ BU3.out
            have W3 := kide (HU.out.later BU3.out)
            have z3 := W3.out.ey.froz (p * 2)
            have z4 := W3.out.ey.froz (p * 2 + 1)
            obtain ⟨j, hj⟩ : ∃ j : Nat, (S : Int) + x2 = (j : Int) := ⟨((S : Int) + x2).toNat, by have := HB2.out; omega⟩
            have hjN : j < N := by have := HB2.out; have := HU.out.sz; omega
            have OB4 := kide (Ob.set (b := M.ey) (o := p * 2 + 1) u3 (.int .i64 (a2 : Int)))
            have BE4 : Hid (Bz (u3.setCell ⟨M.ey, p * 2 + 1, none⟩ (.int .i64 (a2 : Int))) M.ey (eyV (eyl.set p (e0, a2))) 96) := by have := W3.out.ey.set (p * 2 + 1) (.int .i64 (a2 : Int)); rw [eyV_set1 HEY.out] at this; exact this
            obtain ⟨u4, hu4⟩ : ∃ u4, u3.setCell ⟨M.ey, p * 2 + 1, none⟩ (.int .i64 (a2 : Int)) = u4 := ⟨_, rfl⟩
            rw [hu4] at OB4 BE4
            have W4 := kide (W3.out.eyAt OB4.out BE4.out (by rw [List.length_set]))
            have B4 := kide ((BU3.out.mono HBL.out.size).trans (OB4.out.bel HU.out.lo.2.1 (Nat.le_trans HBL.out.size BU3.out.size)))
            have q4 : u4.cell? ⟨b3, o3 + a2, none⟩ = some (.int .i64 x2) := by
              obtain ⟨-, -, h0 | ⟨b, o, e, hc⟩⟩ := FW.out.later (HBL.out.trans B4.out)
              · have := HX2.out; rw [h0] at this; simp at this
              · cases e
                rw [hc a2 ha2l]
                simp [List.getD, HX2.out]
            obtain ⟨⟨rv, rl⟩, hrw⟩ : ∃ r, rows[j]? = some r := ⟨_, List.getElem?_eq_getElem (by rw [HU.out.nr]; exact hjN)⟩
            have HRW := kide hrw
            have HRV : Hid ((rows.map Prod.fst).toArray[j]? = some rv) := by show _ = _; rw [List.getElem?_toArray, List.getElem?_map, hrw]; rfl
            obtain ⟨l, hll⟩ : ∃ l, (rl.map fun (q : Nat) => (q : Int)) = l := ⟨_, rfl⟩
            have HLL := kide hll
            have HL4 : Hid (l.length ≤ 4000) := by show _ ≤ _; rw [← hll, List.length_map]; exact HRL.out j _ hrw
            have k3 : (j : Int) < (N : Int) := by omega
            have HSEAT := kide (seat_any x2 u4 W4.out.bx rfl hS (by have := HB2.out; omega))
            rw [hj] at HSEAT
            have HJ := kide hj
            clear hj
            go_wp2_with fail
            refine Calls.mono HSEAT.out ?_
            rintro e u5 ⟨rfl, hw5⟩
            obtain rfl := hw5.symm
            clear hw5 hu4 g0 g1 z3 z4 q4 hrw hll BE4 OB4 HSEAT
            go_wp2_with fail
            refine wp_region_x (SA := fun uu => uu.cell? ⟨M.bx, 3, none⟩ = some (Value.slice (some ⟨M.wt, 0, none⟩) N N) ∧ uu.cell? ⟨M.wt, j, none⟩ = some (rv)) (SB := fun _ => True) (k := 16) (by kernel_rfl) ?_
            have hbd : Below u4.heap.size u4 u4.drew := (Below.refl _ _).drew
            have WW0 := kide (W4.out.later hbd)
            have BB0 := kide (B4.out.trans (hbd.mono (Nat.le_trans HBL.out.size B4.out.size)))
            clear hbd
            generalize u4.drew = q0 at *
            have c0_0 : q0.cell? ⟨M.bx, 3, none⟩ = some (Value.slice (some ⟨M.wt, 0, none⟩) N N) := WW0.out.bx.cell 3
            have c1_0 : q0.cell? ⟨M.wt, j, none⟩ = some rv := (WW0.out.wt.cell j).trans HRV.out
            have hs0 : Hid ((fun uu => uu.cell? ⟨M.bx, 3, none⟩ = some (Value.slice (some ⟨M.wt, 0, none⟩) N N) ∧ uu.cell? ⟨M.wt, j, none⟩ = some (rv)) q0) := ⟨c0_0, c1_0⟩
            try go_simp
            refine wpAnyX_both (T := fun _ => True) (i := 0) (v := Value.pointer (some ⟨M.bx, 0, none⟩)) rfl (by kernel_rfl) (by kernel_rfl) (by kernel_rfl) (fun _ _ _ h => by first | exact h | exact h.elim) (by decide) (fun _ _ => trivial) (fun _ _ => trivial) (Sx.before (by kernel_rfl) hs0.out) (Or.inl ⟨by rfl, fun uu hu => by go_simp⟩) ?_
            try go_simp
            refine wpAnyX_both (T := fun _ => True) (i := 1) (v := Value.pointer (some ⟨M.bx, 0, none⟩)) rfl (by kernel_rfl) (by kernel_rfl) (by kernel_rfl) (fun _ _ _ h => by first | exact h | exact h.elim) (by decide) (fun _ _ => trivial) (fun _ _ => trivial) (Sx.before (by kernel_rfl) hs0.out) (Or.inl ⟨by rfl, fun uu hu => by go_simp⟩) ?_
            try go_simp
            refine wpAnyX_both (T := fun _ => True) (i := 2) (v := Value.pointer (some ⟨M.bx, 3, none⟩)) rfl (by kernel_rfl) (by kernel_rfl) (by kernel_rfl) (fun _ _ _ h => by first | exact h | exact h.elim) (by decide) (fun _ _ => trivial) (fun _ _ => trivial) (Sx.before (by kernel_rfl) hs0.out) (Or.inl ⟨by rfl, fun uu hu => by go_simp⟩) ?_
            try go_simp
            refine wpAnyX_take (i := 3) (v := Value.slice (some ⟨M.wt, 0, none⟩) N N) rfl (by kernel_rfl) (by kernel_rfl) (by kernel_rfl) (fun _ _ _ h => by first | exact h | exact h.elim) (by decide) (by kernel_rfl) (by kernel_rfl) hs0.out (Or.inl ⟨by rfl, fun uu hu => by obtain ⟨e0, e1⟩ := hu; go_simp⟩) ?_
            try go_simp
            refine wpAnyX_both (T := fun _ => True) (i := 4) (v := Value.int .i64 (j : Int)) rfl (by kernel_rfl) (by kernel_rfl) (by kernel_rfl) (fun _ _ _ h => by first | exact h | exact h.elim) (by decide) (fun _ _ => trivial) (fun _ _ => trivial) (Sx.before (by kernel_rfl) hs0.out) (Or.inl ⟨by rfl, fun uu hu => by go_simp⟩) ?_
            try go_simp
            refine wpAnyX_both (T := fun _ => True) (i := 5) (v := Value.pointer (some ⟨M.bx, 0, none⟩)) rfl (by kernel_rfl) (by kernel_rfl) (by kernel_rfl) (fun _ _ _ h => by first | exact h | exact h.elim) (by decide) (fun _ _ => trivial) (fun _ _ => trivial) (Sx.before (by kernel_rfl) hs0.out) (Or.inl ⟨by rfl, fun uu hu => by go_simp⟩) ?_
            try go_simp
            refine wpAnyX_both (T := fun _ => True) (i := 6) (v := Value.pointer (some ⟨M.bx, 0, none⟩)) rfl (by kernel_rfl) (by kernel_rfl) (by kernel_rfl) (fun _ _ _ h => by first | exact h | exact h.elim) (by decide) (fun _ _ => trivial) (fun _ _ => trivial) (Sx.before (by kernel_rfl) hs0.out) (Or.inl ⟨by rfl, fun uu hu => by go_simp⟩) ?_
            try go_simp
            refine wpAnyX_both (T := fun _ => True) (i := 7) (v := Value.pointer (some ⟨M.bx, 3, none⟩)) rfl (by kernel_rfl) (by kernel_rfl) (by kernel_rfl) (fun _ _ _ h => by first | exact h | exact h.elim) (by decide) (fun _ _ => trivial) (fun _ _ => trivial) (Sx.before (by kernel_rfl) hs0.out) (Or.inl ⟨by rfl, fun uu hu => by go_simp⟩) ?_
            try go_simp
            refine wpAnyX_take (i := 8) (v := Value.slice (some ⟨M.wt, 0, none⟩) N N) rfl (by kernel_rfl) (by kernel_rfl) (by kernel_rfl) (fun _ _ _ h => by first | exact h | exact h.elim) (by decide) (by kernel_rfl) (by kernel_rfl) hs0.out (Or.inl ⟨by rfl, fun uu hu => by obtain ⟨e0, e1⟩ := hu; go_simp⟩) ?_
            try go_simp
            refine wpAnyX_both (T := fun _ => True) (i := 9) (v := Value.int .i64 (j : Int)) rfl (by kernel_rfl) (by kernel_rfl) (by kernel_rfl) (fun _ _ _ h => by first | exact h | exact h.elim) (by decide) (fun _ _ => trivial) (fun _ _ => trivial) (Sx.before (by kernel_rfl) hs0.out) (Or.inl ⟨by rfl, fun uu hu => by go_simp⟩) ?_
            try go_simp
            refine wpAnyX_both (T := fun _ => True) (i := 10) (v := Value.pointer (some ⟨M.wt, j, none⟩)) rfl (by kernel_rfl) (by kernel_rfl) (by kernel_rfl) (fun _ _ _ h => by first | exact h | exact h.elim) (by decide) (fun _ _ => trivial) (fun _ _ => trivial) (Sx.before (by kernel_rfl) hs0.out) (Or.inl ⟨by rfl, fun uu hu => by go_simp⟩) ?_
            try go_simp
            refine wpAnyX_take (i := 11) (v := rv) rfl (by kernel_rfl) (by kernel_rfl) (by kernel_rfl) (fun _ _ _ h => by first | exact h | exact h.elim) (by decide) (by kernel_rfl) (by kernel_rfl) hs0.out (Or.inl ⟨by rfl, fun uu hu => by obtain ⟨e0, e1⟩ := hu; go_simp⟩) ?_
            try go_simp
            refine wpAnyX_both (T := fun _ => True) (i := 12) (v := Value.int .i64 (p : Int)) rfl (by kernel_rfl) (by kernel_rfl) (by kernel_rfl) (fun _ _ _ h => by first | exact h | exact h.elim) (by decide) (fun _ _ => trivial) (fun _ _ => trivial) (Sx.before (by kernel_rfl) hs0.out) (Or.inl ⟨by rfl, fun uu hu => by go_simp⟩) ?_
            try go_simp
            refine wpAnyX_ready (rs := [13]) (by kernel_rfl) (by simp) (AllX.cons rfl (fun K hK => ?_) AllX.nil)
            go_simp
            have hbx : Below q0.heap.size q0 (q0.alloc (Obj.cells #[Value.int .i64 (p : Int)] 3)) := (Below.refl _ _).alloc (Nat.le_refl _) _
            have XN1 := kide (Bz.new q0 #[Value.int .i64 (p : Int)] 3)
            have WW1 := kide (WW0.out.later hbx)
            have BB1 := kide (BB0.out.trans (hbx.mono (Nat.le_trans HBL.out.size BB0.out.size)))
            obtain ⟨gn, hgn⟩ : ∃ x, q0.heap.size = x := ⟨_, rfl⟩
            rw [hgn] at XN1
            simp only [hgn]
            clear hbx hgn
            generalize q0.alloc (Obj.cells #[Value.int .i64 (p : Int)] 3) = q1 at *
            have c0_1 : q1.cell? ⟨M.bx, 3, none⟩ = some (Value.slice (some ⟨M.wt, 0, none⟩) N N) := WW1.out.bx.cell 3
            have c1_1 : q1.cell? ⟨M.wt, j, none⟩ = some rv := (WW1.out.wt.cell j).trans HRV.out
            have hs1 : Hid ((fun uu => uu.cell? ⟨M.bx, 3, none⟩ = some (Value.slice (some ⟨M.wt, 0, none⟩) N N) ∧ uu.cell? ⟨M.wt, j, none⟩ = some (rv)) q1) := ⟨c0_1, c1_1⟩
            refine hK _ _ (Sx.before (by kernel_rfl) hs1.out) ?_
            clear hK K
            try go_simp
            refine wpAnyX_ready (rs := [14]) (by kernel_rfl) (by simp) (AllX.cons rfl (fun K hK => ?_) AllX.nil)
            have OO1 : Hid (OJ q1 w.heap.size rv l) := by have := WW1.out.rw j _ HRW.out; rw [HLL.out] at this; exact this
            refine step_appJ _ rfl _ _ rfl w.heap.size rv l (p : Int) (by first | rfl | simp [Act.eval]) OO1.out gn 1 (by first | rfl | simp [Act.eval]) (XN1.out.cell 0) (by have := HL4.out; omega) (Nat.le_trans HBL.out.size BB1.out.size) ?_
            intro g7 c7 q2 ho hg hat
            have HO2 := kide ho
            have HG2 := kide hg
            have HAT7 := kide hat
            clear ho hg hat
            have WT2 : Hid (Bz q2 M.wt (rows.map Prod.fst).toArray 97) := gBz WW1.out.wt HG2.out (fun g e => OO1.out.notBz WW1.out.wt (by decide) e)
            have BB2 := kide (BB1.out.trans (⟨HG2.out.os, HG2.out.tape, HG2.out.output, HG2.out.size, fun k hk => HG2.out.block k (Nat.lt_of_lt_of_le hk (Nat.le_trans HBL.out.size BB1.out.size)) (fun e => by have := (OO1.out.lt e.symm).1; omega)⟩ : Below w.heap.size q1 q2))
            have c0_2 : q2.cell? ⟨M.bx, 3, none⟩ = some (Value.slice (some ⟨M.wt, 0, none⟩) N N) := (gBz WW1.out.bx HG2.out (fun g e => OO1.out.notBz WW1.out.bx (by decide) e)).cell 3
            have c1_2 : q2.cell? ⟨M.wt, j, none⟩ = some rv := (WT2.out.cell j).trans HRV.out
            have hs2 : Hid ((fun uu => uu.cell? ⟨M.bx, 3, none⟩ = some (Value.slice (some ⟨M.wt, 0, none⟩) N N) ∧ uu.cell? ⟨M.wt, j, none⟩ = some (rv)) q2) := ⟨c0_2, c1_2⟩
            refine hK _ _ (Sx.before (by kernel_rfl) hs2.out) ?_
            clear hK K
            try go_simp
            refine wpAnyX_both (T := fun _ => True) (i := 15) (v := Value.pointer (some ⟨M.wt, j, none⟩)) rfl (by kernel_rfl) (by kernel_rfl) (by kernel_rfl) (fun _ _ _ h => by first | exact h | exact h.elim) (by decide) (fun _ _ => trivial) (fun _ _ => trivial) (Sx.before (by kernel_rfl) hs2.out) (Or.inl ⟨by rfl, fun uu hu => by go_simp⟩) ?_
            try go_simp
            refine wpAnyX_ready (rs := [16]) (by kernel_rfl) (by simp) (AllX.cons rfl (fun K hK => ?_) AllX.nil)
            have ce0 : q2.cell? ⟨M.wt, j, none⟩ = some rv := (WT2.out.cell j).trans HRV.out
            have cf0 := WT2.out.froz j
            go_simp
            have WW3 : Hid (Wm (q2.setCell ⟨M.wt, j, none⟩ (Value.slice (some ⟨g7, 0, none⟩) (l.length + 1) c7)) w.heap.size M S N (some ⟨b2, o2, none⟩) nc cc tv (eyl.set p (e0, a2)) (rows.set j (Value.slice (some ⟨g7, 0, none⟩) (l.length + 1) c7, rl ++ [p])) T ws) := WW1.out.rowAt HRW.out (Nat.le_trans HBL.out.size BB1.out.size) (by rw [List.map_append, HLL.out]; exact HO2.out) HG2.out (HAT7.out.imp (fun h => h.symm) (fun h => by rw [h]; rfl))
            have BB3 := kide (BB2.out.setCell (p := ⟨M.wt, j, none⟩) HU.out.lo.2.2.1 (Value.slice (some ⟨g7, 0, none⟩) (l.length + 1) c7))
            clear ce0 cf0
            generalize q2.setCell ⟨M.wt, j, none⟩ (Value.slice (some ⟨g7, 0, none⟩) (l.length + 1) c7) = q3 at *
            refine hK _ _ (Sx.behind (by kernel_rfl) trivial) ?_
            clear hK K
            try go_simp
            refine wpAnyX_done (by kernel_rfl) ?_ _
            go_wp2_with fail
            go_ret
            exact ⟨true, _, _, ws, rfl, WW3.out, BB3.out, .inr (.inr ⟨rfl, rfl, a2, x2, j, (rv, rl), _, HX2.out, HIN.out, HJ.out, HRW.out, rfl, .inr ⟨HXM.out, HEQ.out, rfl⟩⟩)⟩
        · have HTE : Hid (t = k1.length - 1) := by show _ = _; omega
          have v3 : ¬ (t : Int) < (k1.length : Int) - 1 := by omega
          have HOP : Hid ((opn T k1).length ≤ 1) := opn_one HCD.out (o := e0) fun i x hi hx => by
            by_cases e : i = e1
            · subst e
              rw [HXM.out] at hx
              cases hx
              exact HMT.out
            · obtain ⟨s, s1, s2, s3⟩ := round_all he1 (List.getElem?_eq_some_iff.1 hx).1 e
              rcases HSE.out s s1 (by rw [HTE.out]; exact s2) with h | ⟨y, h, hy⟩
              · exact absurd (s3.symm.trans h) hi
              · rw [s3, hx] at h
                cases h
                exact hy
          have d6 : wr.cell? ⟨M.bx, 6, none⟩ = some (.slice (some ⟨M.du, 0, none⟩) ws.length ws.length) := ((HU.out.later BR.out).bx.cell 6)
          have HAD := kide (addP_any M.du ws.length ws.length p ws wr (HU.out.later BR.out).du rfl HWS.out (by omega) (HU.out.later BR.out).wl)
          go_wp2_with fail
          refine Calls.mono HAD.out ?_
          rintro e u3 ⟨rfl, hb3, ho3⟩
          have HW3 := kide ((HU.out.later BR.out).duAt ho3 hb3 (by rw [List.length_set]) (fun i => by
            by_cases e : p / 64 = i
            · subst e
              rw [List.getD_eq_getElem?_getD, List.getElem?_set_self HWS.out, Option.getD_some, Nat.shiftLeft_eq, Nat.one_mul]
              exact Nat.or_lt_two_pow (n := 64) (HU.out.wl _) (Nat.pow_lt_pow_right (by omega) (Nat.mod_lt _ (by omega)))
            · rw [List.getD_eq_getElem?_getD, List.getElem?_set_ne e, ← List.getD_eq_getElem?_getD]
              exact HU.out.wl i))
          have HB3 := kide ((BR.out.mono HBL.out.size).trans (ho3.bel HU.out.lo.2.2.2.2 (Nat.le_trans HBL.out.size BR.out.size)))
          clear hb3 ho3
          go_wp2_with fail
          go_ret
          exact ⟨false, eyl, rows, _, rfl, HW3.out, HB3.out, .inr (.inl ⟨rfl, rfl, rfl, by rw [List.length_set], fun q => plB_add HWS.out, HOP.out⟩)⟩
end Go.Proofs.YtmfamdonbgmjbaaDoor
