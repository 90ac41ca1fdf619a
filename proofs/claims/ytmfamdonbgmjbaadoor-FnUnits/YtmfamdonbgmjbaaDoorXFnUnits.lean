/- The law FnUnits returns true, whatever it is handed. -/
import Derived.Test.YtmfamdonbgmjbaaDoorZHAB
import Derived.Test.YtmfamdonbgmjbaaDoorCS
import Derived.Test.YtmfamdonbgmjbaaDoorUDD
import Derived.Test.YtmfamdonbgmjbaaDoorZGAI
import Derived.Test.YtmfamdonbgmjbaaDoorUNE
import Derived.Test.YtmfamdonbgmjbaaDoorZGAG
import Derived.Test.YtmfamdonbgmjbaaDoorZGAF
import Derived.Test.YtmfamdonbgmjbaaDoorUNW
namespace Go.Proofs.YtmfamdonbgmjbaaDoor
set_option linter.unusedVariables false
set_option linter.unusedSimpArgs false
open Go.RowKit

/-- What the law carries along. -/
structure Cx (w W : World) (cb : Nat) (S : Int) (ca : Option Addr) (nc cc : Nat) (xs : List Iw) (sa : Option Addr) (set : List Int) : Prop where
  cb : Bz W cb #[.int .i64 S, .slice ca nc cc] 29
  rc : RdII W ca xs
  rs : RdI W sa set
  bl : Below w.heap.size w W
theorem Cx.later {w W W' : World} {cb : Nat} {S : Int} {ca : Option Addr} {nc cc : Nat} {xs : List Iw} {sa : Option Addr} {set : List Int} (h : Cx w W cb S ca nc cc xs sa set) (hb : Below W.heap.size W W') : Cx w W' cb S ca nc cc xs sa set :=
  ⟨h.cb.later hb, h.rc.later hb, h.rs.later hb, h.bl.trans (hb.mono h.bl.size)⟩
theorem alloc_grow {wk wr w7 : World} {o : Obj} {row : Option Nat} (hb : Below wk.heap.size wk wr) (hg : (wr.alloc o).grownBy w7 row) (hr : ∀ k, row = some k → wk.heap.size ≤ k) : Below wk.heap.size wk w7 := by
  have h1 : Below wk.heap.size wr (wr.alloc o) := ((Below.refl wr.heap.size wr).alloc (Nat.le_refl _) _).mono hb.size
  refine (hb.trans h1).trans ⟨hg.os, hg.tape, hg.output, hg.size, fun q hq => hg.block q (Nat.lt_of_lt_of_le hq (hb.trans h1).size) (fun e => ?_)⟩
  have := hr q e.symm
  omega
theorem OI.ofBz {w : World} {B b : Nat} (h : Bz w b #[] 2) (hB : B ≤ b) : OI w B (.slice (some ⟨b, 0, none⟩) 0 0) [] := ⟨rfl, .inr ⟨b, 0, #[], rfl, hB, h, Nat.le_refl _, Nat.zero_le _, rfl, rfl⟩⟩
theorem OI.room {w : World} {B : Nat} {v : Value} {l : List Int} (h : OI w B v l) (hl : l.length ≤ 1048576) (hx : ∀ x ∈ l, in64 x) : ∃ a c, v = .slice a l.length c ∧ RdI w a l ∧ l.length ≤ c ∧ (a = none → c = 0) := by
  obtain ⟨a, c, rfl, h1⟩ := h.rd hl hx
  refine ⟨a, c, rfl, h1, ?_⟩
  rcases h.2 with ⟨e, h0⟩ | ⟨g, cap, cur, e, hg, hh, hc1, -⟩
  · obtain ⟨rfl, -, rfl⟩ := Value.slice.inj e
    exact ⟨by omega, fun _ => rfl⟩
  · obtain ⟨rfl, -, rfl⟩ := Value.slice.inj e
    exact ⟨hc1, fun e => by cases e⟩
theorem unitR_ok2 (S : Int) (cs : List (List Int)) (set : List Int) : (unitR S cs set).1.length ≤ 400 ∧ ∀ x ∈ (unitR S cs set).1, in64 x := by
  by_cases h : cnfR S cs = true ∧ setR S set = true
  · obtain ⟨h1, h2, h3⟩ := cnfR_parts2 h.1
    obtain ⟨S, rfl⟩ : ∃ S' : Nat, S = (S' : Int) := ⟨S.toNat, by omega⟩
    have e : unitR (S : Int) cs set = unF (S + 1) cs set := by unfold unitR; rw [if_pos h]; rfl
    have h5 := unit_in h (S + 1) set (setR_tk.1 h.2)
    rw [e]
    refine ⟨by have := h5.len; omega, fun x hx => ?_⟩
    have := h5.num x hx
    unfold in64
    omega
  · unfold unitR
    rw [if_neg h]
    exact ⟨by simp, by simp⟩
set_option maxHeartbeats 8000000 in
set_option maxRecDepth 100000 in
theorem law_FnUnits (a : Option Addr) (n c : Nat) (bs : List Nat) (w : World) (hT : TabAt 0 Lib.deBruijn64tab w) (h0 : 0 < w.heap.size) (hr : RdB w a bs) (hn : bs.length = n) (hn9 : n ≤ 1048576) :
    Calls Tryd.prog 5 #[.slice a n c] w fun e w' => e = .returned (.bool true) ∧ Below w.heap.size w w' := by
  have HBG := kide (fun u => big_any a n c u (by omega))
  have hd9 : decide (1048576 < n) = false := decide_eq_false (by omega)
  rw [hd9] at HBG
  have HDR := kide (drawUnit_any a c bs w hr)
  rw [hn] at HDR
  have HT : Hid (∀ u, Below w.heap.size w u → TabAt 0 Lib.deBruijn64tab u ∧ 0 < u.heap.size) := fun u hu => ⟨fun j hj => (hu.cell (p := ⟨0, j, none⟩) h0).trans (hT j hj), Nat.lt_of_lt_of_le h0 hu.size⟩
  clear hd9 hr hn hT h0
  go_enter Tryd.func5, Tryd.ntmps5
  go_wp2_with fail
  refine Calls.mono (HBG.out _) ?_
  rintro e w1 ⟨rfl, hw1⟩
  obtain rfl := hw1.symm
  clear hw1 HBG
  go_wp2_with fail
  refine Calls.mono HDR.out ?_
  rintro e w1 ⟨S, ca, nc, cc, xs, v, set, rfl, hS, hxl, hn30, hgc, hoi, hsl, hin, hb1⟩
  obtain ⟨sa, sc, rfl, hrs, hroom, hs0⟩ := hoi.room (by omega) hin
  obtain ⟨m, hm⟩ : ∃ m, set.length = m := ⟨_, rfl⟩
  rw [hm] at hroom hsl ⊢
  have HM := kide hm
  have HXL := kide hxl
  have HS := kide hS
  have HCAP := kide hgc.2
  have HROOM := kide hroom
  have HS0 := kide hs0
  have hbb : Below w1.heap.size w1 (w1.alloc (Obj.cells #[Value.int .i64 S, Value.slice ca nc cc] 29)) := (Below.refl _ _).alloc (Nat.le_refl _) _
  have C2 : Hid (Cx w (w1.alloc (Obj.cells #[Value.int .i64 S, Value.slice ca nc cc] 29)) w1.heap.size S ca nc cc xs sa set) := ⟨Bz.new w1 #[Value.int .i64 S, Value.slice ca nc cc] 29, hgc.1.1.later hbb, hrs.later hbb, hb1.trans (hbb.mono hb1.size)⟩
  have HSP : Hid (∀ u, Cx w u w1.heap.size S ca nc cc xs sa set → Calls Tryd.prog 8 #[.agg #[.int .i64 S, .slice ca nc cc], .slice sa m sc] u (RetUn (unitR S (xs.map Iw.ks) set) u)) := fun u hu => specUnit_any S ca sa cc nc sc m xs set u HS.out hu.rc HXL.out hu.rs HM.out HS0.out HROOM.out
  have HIM : Hid (∀ u (sb : Option Addr) (T : List Int) (k sd : Nat), Cx w u w1.heap.size S ca nc cc xs sa set → RdI u sb T → T.length = k → Calls Tryd.prog 11 #[.agg #[.int .i64 S, .slice ca nc cc], .slice sb k sd] u (RetUn (unitR S (xs.map Iw.ks) T) u)) := fun u sb T k sd hu h1 h2 => implUnit_any S ca sb cc nc sd k xs T u HS.out hu.rc HXL.out HCAP.out h1 h2 (HT.out u hu.bl).1 (HT.out u hu.bl).2 (fun _ _ _ _ _ xs h1 h2 h3 h4 h5 h6 => newWatcher_any xs h1 h2 h3 h4 h5 h6)
  obtain ⟨hS1, hS2⟩ := hS
  have HOK := kide (unitR_ok2 S (xs.map Iw.ks) set)
  have HAG := kide (fun h => unit_again (S := S) (cs := xs.map Iw.ks) (set := set) h)
  obtain ⟨R, hR⟩ : ∃ R, unitR S (xs.map Iw.ks) set = R := ⟨_, rfl⟩
  have HUR := kide hR
  rw [hR] at HSP HOK HAG
  obtain ⟨T, ok⟩ := R
  simp only [] at HOK HAG
  clear hR hxl hgc hrs hroom hs0 hoi hin hb1 hbb hm HDR
  go_wp2_with fail
  generalize w1.alloc (Obj.cells #[Value.int .i64 S, Value.slice ca nc cc] 29) = w2 at *
  have d0 : w2.cell? ⟨w1.heap.size, 0, none⟩ = some (.int .i64 S) := C2.out.cb.cell 0
  have d1 : w2.cell? ⟨w1.heap.size, 1, none⟩ = some (.slice ca nc cc) := C2.out.cb.cell 1
  generalize w1.heap.size = cb at *
  go_wp2_with fail
  refine Calls.mono (HSP.out w2 C2.out) ?_
  rintro e w3 ⟨v3, rfl, o3, hb3⟩
  simp only [] at o3 ⊢
  obtain ⟨a3, c3, rfl, r3, -, -⟩ := o3.room (by have := HOK.out.1; omega) HOK.out.2
  obtain ⟨tn, htn⟩ : ∃ tn, T.length = tn := ⟨_, rfl⟩
  rw [htn]
  have HTN := kide htn
  have ht4 : tn ≤ 400 := by rw [← htn]; exact HOK.out.1
  have C3 := kide (C2.out.later hb3)
  have R3 := kide r3
  have e0 : w3.cell? ⟨cb, 0, none⟩ = some (.int .i64 S) := C3.out.cb.cell 0
  have e1 : w3.cell? ⟨cb, 1, none⟩ = some (.slice ca nc cc) := C3.out.cb.cell 1
  clear hb3 o3 r3 d0 d1 C2 htn HSP
  go_wp2_with fail
  refine Calls.mono (HIM.out w3 sa set m sc C3.out C3.out.rs HM.out) ?_
  rintro e w4 ⟨v4, rfl, o4, hb4⟩
  rw [HUR.out] at o4 ⊢
  simp only [] at o4 ⊢
  obtain ⟨a4, c4, rfl, r4, room4, n4⟩ := o4.room (by have := HOK.out.1; omega) HOK.out.2
  rw [HTN.out] at room4 ⊢
  have C4 := kide (C3.out.later hb4)
  have R4 := kide r4
  have S4 := kide (R3.out.later hb4)
  have N4 := kide n4
  have HSI := kide (fun u (p q : Option Addr) (x y : Nat) (h1 : RdI u p T) (h2 : RdI u q T) => sameInts_same p q x y T u h1 h2)
  rw [HTN.out] at HSI
  have hok : (ok != ok) = false := by cases ok <;> rfl
  clear hb4 o4 r4 e0 e1 C3 R3 n4 room4
  go_wp2_with fail
  refine Calls.mono (HSI.out w4 _ _ c4 c3 R4.out S4.out) ?_
  rintro e w5 ⟨rfl, hb5⟩
  have C5 := kide (C4.out.later hb5)
  have R5 := kide (R4.out.later hb5)
  clear hb5 C4 R4 S4
  cases ok with
  | false =>
    have f0 : w5.cell? ⟨cb, 0, none⟩ = some (.int .i64 S) := C5.out.cb.cell 0
    have f1 : w5.cell? ⟨cb, 1, none⟩ = some (.slice ca nc cc) := C5.out.cb.cell 1
    by_cases hs9 : S > 9
    · go_wp2_with fail
      go_ret
      exact ⟨rfl, C5.out.bl⟩
    · have HCN := kide (specCnf_any S ca cc nc xs w5 C5.out.rc HXL.out)
      cases hcn : cnfR S (xs.map Iw.ks) with
      | false =>
        rw [hcn] at HCN
        clear hcn
        go_wp2_with fail
        refine Calls.mono HCN.out ?_
        rintro e w20 ⟨rfl, hb20⟩
        have C20 := kide (C5.out.later hb20)
        clear hb20
        go_wp2_with fail
        go_ret
        exact ⟨rfl, C20.out.bl⟩
      | true =>
        rw [hcn] at HCN
        have HCF := kide hcn
        obtain ⟨hp1, hp2, -⟩ := cnfR_parts2 hcn
        obtain ⟨S, rfl⟩ : ∃ S' : Nat, S = (S' : Int) := ⟨S.toNat, by omega⟩
        clear hcn hp2
        by_cases ht0 : tn = 0
        · subst ht0
          go_wp2_with fail
          refine Calls.mono HCN.out ?_
          rintro e w20 ⟨rfl, hb20⟩
          have C20 := kide (C5.out.later hb20)
          clear hb20
          go_wp2_with fail
          go_ret
          exact ⟨rfl, C20.out.bl⟩
        · have ht1 : ((tn : Int) == 0) = false := beq_eq_false_iff_ne.2 (by omega)
          have HSET : Hid (setR (S : Int) set = true) := Classical.byContradiction fun hn => by
            have h1 := HUR.out
            unfold unitR at h1
            rw [if_neg (fun h => hn h.2)] at h1
            have h2 : T = [] := (Prod.mk.inj h1).1.symm
            have h3 := HTN.out
            rw [h2] at h3
            exact ht0 h3.symm
          go_wp2_with fail
          refine Calls.mono HCN.out ?_
          rintro e w20 ⟨rfl, hb20⟩
          have C20 := kide (C5.out.later hb20)
          have R20 := kide (R5.out.later hb20)
          clear hb20 f0 f1
          have f0 : w20.cell? ⟨cb, 0, none⟩ = some (.int .i64 (S : Int)) := C20.out.cb.cell 0
          have hs10 : S ≤ 9 := by omega
          obtain ⟨P, hP⟩ : ∃ P : Nat, (2 : Int) ^ S = (P : Int) := ⟨2 ^ S, by simp⟩
          have hP9 : P ≤ 512 := by
            have h1 : (2 : Nat) ^ S ≤ 2 ^ 9 := Nat.pow_le_pow_right (by omega) hs10
            have h2 : ((2 ^ S : Nat) : Int) = (P : Int) := by rw [← hP]; simp
            omega
          have hsh : IntKind.i64.wrap ((2 : Int) ^ S) = (P : Int) := by rw [hP, IntKind.wrap_i64]; omega
          clear hP
          go_wp2_with fail
          go_loopw [11] (fun i wr => ∃ k : Nat, k ≤ P ∧ i = .int .i64 (k : Int) ∧ Cx w wr cb (S : Int) ca nc cc xs sa set ∧ RdI wr a4 T) (fun i _ => P - (intOf i).toNat)
          case atStart => exact ⟨0, Nat.zero_le _, rfl, C20.out, R20.out⟩
          case round =>
            obtain ⟨k, hk, rfl, hcx, hrt⟩ := hrel
            have CK := kide hcx
            have RK := kide hrt
            clear hcx hrt C20 R20
            have g0 : wr.cell? ⟨cb, 0, none⟩ = some (.int .i64 (S : Int)) := CK.out.cb.cell 0
            by_cases hkP : k < P
            · have k1 : (k : Int) < (P : Int) := by omega
              have hbe : Below wr.heap.size wr (wr.alloc (Obj.cells #[] 4)) := (Below.refl _ _).alloc (Nat.le_refl _) _
              have OE := kide (OwF.nil wr wr.heap.size wr.heap.size rfl (Nat.le_refl _))
              have BE := kide hbe
              clear hbe
              go_wp2_with fail
              generalize wr.alloc (Obj.cells #[] 4) = u0 at *
              obtain ⟨wk, hwk⟩ : ∃ wk : World, wr = wk := ⟨_, rfl⟩
              rw [hwk] at CK RK OE BE ⊢
              clear hwk g0
              go_loopw [13, 12] (fun i v wr => ∃ (j : Nat) (on : List Bool), j ≤ S ∧ on.length = j ∧ i = .int .i64 (j : Int) ∧ OwF wr wk.heap.size v on ∧ Below wk.heap.size wk wr) (fun i _ _ => S - (intOf i).toNat)
              case atStart => exact ⟨0, [], Nat.zero_le _, rfl, rfl, OE.out, BE.out⟩
              case round =>
                obtain ⟨j, on, hj, hol, rfl, hof, hbw⟩ := hrel
                obtain ⟨oa, oc, rfl, hro, -, -⟩ := hof.shape (by omega)
                rw [hol] at hof ⊢
                have OF := kide hof
                have RO := kide hro
                have BW := kide hbw
                have HOL := kide hol
                have CJ := kide (CK.out.later hbw)
                have RJ := kide (RK.out.later hbw)
                have g1 : wr.cell? ⟨cb, 0, none⟩ = some (.int .i64 (S : Int)) := CJ.out.cb.cell 0
                have g2 : wr.cell? ⟨cb, 1, none⟩ = some (.slice ca nc cc) := CJ.out.cb.cell 1
                clear hof hro hbw hol OE BE
                by_cases hjS : j < S
                · have j1 : (j : Int) < (S : Int) := by omega
                  have ju : IntKind.u64.wrap (j : Int) = (j : Int) := by rw [IntKind.wrap_u64]; omega
                  have SB : Hid (wk.heap.size ≤ wr.heap.size) := BW.out.size
                  go_wp2_with (refine wpList_appF _ rfl _ _ rfl wk.heap.size (.slice oa j oc) on _ rfl (OF.out.alloc _) wr.heap.size (by first | rfl | simp) ((Bz.new _ #[Value.bool _] 4).cell 0) (by have := HOL.out; omega) (by have := SB.out; simp; omega) ?_)
                  intro v7 w7 ho7 hg7
                  have hb7 := alloc_grow BW.out hg7 (fun q hq => OF.out.own q hq)
                  have OF7 := kide ho7
                  have BW7 := kide hb7
                  clear ho7 hg7 hb7
                  go_wp2_with fail
                  go_roundw
                  case rel => exact ⟨j + 1, _, by omega, by rw [List.length_append, HOL.out, List.length_singleton], by go_num, OF7.out, BW7.out⟩
                  case measure => simp only [intOf]; omega
                · obtain rfl : j = S := by omega
                  have HME := kide (implMeets_any (j : Int) ca oa cc nc oc j xs on wr CJ.out.rc HXL.out RO.out HOL.out)
                  cases hme : meetR (j : Int) (xs.map Iw.ks) on with
                  | false =>
                    rw [hme] at HME
                    clear hme
                    go_wp2_with fail
                    refine Calls.mono HME.out ?_
                    rintro e w8 ⟨rfl, hb8⟩
                    have C8 := kide (CJ.out.later hb8)
                    have R8 := kide (RJ.out.later hb8)
                    clear hb8
                    go_wp2_with fail
                    go_roundw
                    case rel => exact ⟨k + 1, by omega, by go_num, C8.out, R8.out⟩
                    case measure => simp only [intOf]; omega
                  | true =>
                    rw [hme] at HME
                    go_wp2_with fail
                    refine Calls.mono HME.out ?_
                    rintro e w8 ⟨rfl, hb8⟩
                    have C8 := kide (CJ.out.later hb8)
                    have R8 := kide (RJ.out.later hb8)
                    have RO8 := kide (RO.out.later hb8)
                    have HSD := kide (stand_any oa sa oc sc j m on set w8 RO8.out HOL.out C8.out.rs HM.out (fun x hx => (setR_tk.1 HSET.out).num x hx) (by omega))
                    clear hb8
                    cases hsd : sdR on set with
                    | false =>
                      rw [hsd] at HSD
                      clear hsd hme
                      go_wp2_with fail
                      refine Calls.mono HSD.out ?_
                      rintro e w9 ⟨rfl, hb9⟩
                      have C9 := kide (C8.out.later hb9)
                      have R9 := kide (R8.out.later hb9)
                      clear hb9
                      go_wp2_with fail
                      go_roundw
                      case rel => exact ⟨k + 1, by omega, by go_num, C9.out, R9.out⟩
                      case measure => simp only [intOf]; omega
                    | true =>
                      obtain ⟨hu1, hu2⟩ := unit_sound ⟨HCF.out, HSET.out⟩ hme hsd
                      rw [HUR.out] at hu1 hu2
                      simp only [] at hu1 hu2
                      cases hu1
            · obtain rfl : k = P := by omega
              go_wp2_with fail
              go_ret
              exact ⟨rfl, CK.out.bl⟩
  | true =>
    have f0 : w5.cell? ⟨cb, 0, none⟩ = some (.int .i64 S) := C5.out.cb.cell 0
    have f1 : w5.cell? ⟨cb, 1, none⟩ = some (.slice ca nc cc) := C5.out.cb.cell 1
    have lcb : cb < w5.heap.size := C5.out.cb.lt
    go_wp2_with fail
    refine wp_region_x (SA := fun _ => False) (SB := fun uu => Below w5.heap.size w5 uu) (k := 999) (by kernel_rfl) ?_
    have hu0 : Hid (Below w5.heap.size w5 w5.drew) := (Below.refl _ _).drew
    generalize w5.drew = u0 at *
    try go_simp
    refine wpAnyX_both (T := fun uu => Below w5.heap.size w5 uu) (i := 0) (v := Value.agg #[Value.int .i64 S, Value.slice ca nc cc]) rfl (by kernel_rfl) (by kernel_rfl) (by kernel_rfl) (fun _ _ _ h => by first | exact h | exact h.elim) (by decide) (fun _ h => h.elim) (fun _ h => h) (Sx.behind (by kernel_rfl) hu0.out) (Or.inl ⟨by rfl, fun uu hu => by have e1 := (kcell hu cb 0 lcb).trans f0; have e2 := (kcell hu cb 1 lcb).trans f1; go_simp⟩) ?_
    try go_simp
    refine wpAnyX_both (T := fun uu => Below w5.heap.size w5 uu) (i := 2) (v := Value.slice a4 tn c4) rfl (by kernel_rfl) (by kernel_rfl) (by kernel_rfl) (fun _ _ _ h => by first | exact h | exact h.elim) (by decide) (fun _ h => h.elim) (fun _ h => h) (Sx.behind (by kernel_rfl) hu0.out) (Or.inl ⟨by rfl, fun uu hu => by go_simp⟩) ?_
    try go_simp
    refine wpAnyX_ready (rs := [1]) (by kernel_rfl) (by simp) (AllX.cons rfl (fun K hK => ?_) AllX.nil)
    go_simp
    refine hK _ _ (Sx.behind (by kernel_rfl) (hu0.out.alloc hu0.out.size _)) ?_
    clear hK K
    have hu1 : Hid (Below w5.heap.size w5 (u0.alloc (Obj.cells #[] 2))) := hu0.out.alloc hu0.out.size _
    have bbe_1 : Hid (Bz (u0.alloc (Obj.cells #[] 2)) u0.heap.size #[] 2) := Bz.new _ _ _
    have w1 : Below u0.heap.size u0 (u0.alloc (Obj.cells #[] 2)) := (Below.refl _ _).alloc (Nat.le_refl _) _
    have lbe : w5.heap.size ≤ u0.heap.size := hu0.out.size
    clear w1
    generalize hqbe : u0.heap.size = be at *
    generalize u0.alloc (Obj.cells #[] 2) = u1 at *
    clear hqbe
    try go_simp
    refine wpAnyX_ready (rs := [3]) (by kernel_rfl) (by simp) (AllX.cons rfl (fun K hK => ?_) AllX.nil)
    have OB1 : Hid (OI u1 w5.heap.size (.slice (some ⟨be, 0, none⟩) 0 0) []) := OI.ofBz bbe_1.out lbe
    have RT1 := kide (R5.out.later hu1.out)
    refine step_appIr _ rfl _ _ rfl w5.heap.size (.slice (some ⟨be, 0, none⟩) 0 0) [] T (by first | rfl | simp [Act.eval]) OB1.out a4 c4 (by rw [HTN.out]; first | rfl | simp [Act.eval]) N4.out RT1.out (by have := HTN.out; simp; omega) hu1.out.size ?_
    intro v6 u2 ho6 hg6
    have hu2 : Hid (Below w5.heap.size w5 u2) := hu1.out.trans ⟨hg6.os, hg6.tape, hg6.output, hg6.size, fun q hq => hg6.block q (Nat.lt_of_lt_of_le hq hu1.out.size) (fun e => by have := (OB1.out.lt e.symm).1; omega)⟩
    rw [List.nil_append] at ho6
    obtain ⟨a6, c6, rfl, r6, -, -⟩ := ho6.room (by have := HOK.out.1; omega) HOK.out.2
    rw [HTN.out]
    have R6 := kide r6
    refine hK _ _ (Sx.behind (by kernel_rfl) hu2.out) ?_
    clear hK K ho6 hg6 r6
    try go_simp
    refine wpAnyX_ready (rs := [4]) (by kernel_rfl) (by simp) (AllX.cons rfl (fun K hK => ?_) AllX.nil)
    go_simp
    refine Calls.mono (HIM.out u2 a6 T tn c6 (C5.out.later hu2.out) R6.out HTN.out) ?_
    rintro e u3 ⟨v7, rfl, o7, hb7⟩
    rw [HAG.out (by first | exact rfl | exact trivial)] at o7 ⊢
    simp only [] at o7 ⊢
    obtain ⟨a7, c7, rfl, r7, -, -⟩ := o7.room (by have := HOK.out.1; omega) HOK.out.2
    rw [HTN.out]
    have R7 := kide r7
    have hu3 : Hid (Below w5.heap.size w5 u3) := hu2.out.trans (hb7.mono hu2.out.size)
    refine hK _ _ (Sx.behind (by kernel_rfl) hu3.out) ?_
    clear hK K hb7 o7 r7
    try go_simp
    refine wpAnyX_both (T := fun uu => Below w5.heap.size w5 uu) (i := 5) (v := Value.tuple #[Value.slice a7 tn c7, Value.bool true]) rfl (by kernel_rfl) (by kernel_rfl) (by kernel_rfl) (fun _ _ _ h => by first | exact h | exact h.elim) (by decide) (fun _ h => h.elim) (fun _ h => h) (Sx.behind (by kernel_rfl) hu3.out) (Or.inl ⟨by rfl, fun uu hu => by go_simp⟩) ?_
    try go_simp
    refine wpAnyX_both (T := fun uu => Below w5.heap.size w5 uu) (i := 6) (v := Value.slice a7 tn c7) rfl (by kernel_rfl) (by kernel_rfl) (by kernel_rfl) (fun _ _ _ h => by first | exact h | exact h.elim) (by decide) (fun _ h => h.elim) (fun _ h => h) (Sx.behind (by kernel_rfl) hu3.out) (Or.inl ⟨by rfl, fun uu hu => by go_simp⟩) ?_
    try go_simp
    refine wpAnyX_both (T := fun uu => Below w5.heap.size w5 uu) (i := 7) (v := Value.bool true) rfl (by kernel_rfl) (by kernel_rfl) (by kernel_rfl) (fun _ _ _ h => by first | exact h | exact h.elim) (by decide) (fun _ h => h.elim) (fun _ h => h) (Sx.behind (by kernel_rfl) hu3.out) (Or.inl ⟨by rfl, fun uu hu => by go_simp⟩) ?_
    try go_simp
    refine wpAnyX_both (T := fun uu => Below w5.heap.size w5 uu) (i := 8) (v := Value.slice a7 tn c7) rfl (by kernel_rfl) (by kernel_rfl) (by kernel_rfl) (fun _ _ _ h => by first | exact h | exact h.elim) (by decide) (fun _ h => h.elim) (fun _ h => h) (Sx.behind (by kernel_rfl) hu3.out) (Or.inl ⟨by rfl, fun uu hu => by go_simp⟩) ?_
    try go_simp
    refine wpAnyX_both (T := fun uu => Below w5.heap.size w5 uu) (i := 9) (v := Value.bool true) rfl (by kernel_rfl) (by kernel_rfl) (by kernel_rfl) (fun _ _ _ h => by first | exact h | exact h.elim) (by decide) (fun _ h => h.elim) (fun _ h => h) (Sx.behind (by kernel_rfl) hu3.out) (Or.inl ⟨by rfl, fun uu hu => by go_simp⟩) ?_
    try go_simp
    refine wpAnyX_done (by kernel_rfl) ?_ _
    have C6 := kide (C5.out.later hu3.out)
    have R8 := kide (R5.out.later hu3.out)
    clear f0 f1 C5 R5
    go_wp2_with fail
    refine Calls.mono (HSI.out u3 _ _ c7 c4 R7.out R8.out) ?_
    rintro e w9 ⟨rfl, hb9⟩
    have C9 := kide (C6.out.later hb9)
    have R9 := kide (R8.out.later hb9)
    clear hb9 C6 R7 R8
    have f0 : w9.cell? ⟨cb, 0, none⟩ = some (.int .i64 S) := C9.out.cb.cell 0
    have f1 : w9.cell? ⟨cb, 1, none⟩ = some (.slice ca nc cc) := C9.out.cb.cell 1
    by_cases hs9 : S > 9
    · go_wp2_with fail
      go_ret
      exact ⟨rfl, C9.out.bl⟩
    · have HCN := kide (specCnf_any S ca cc nc xs w9 C9.out.rc HXL.out)
      cases hcn : cnfR S (xs.map Iw.ks) with
      | false =>
        rw [hcn] at HCN
        clear hcn
        go_wp2_with fail
        refine Calls.mono HCN.out ?_
        rintro e w20 ⟨rfl, hb20⟩
        have C20 := kide (C9.out.later hb20)
        clear hb20
        go_wp2_with fail
        go_ret
        exact ⟨rfl, C20.out.bl⟩
      | true =>
        rw [hcn] at HCN
        have HCF := kide hcn
        obtain ⟨hp1, hp2, -⟩ := cnfR_parts2 hcn
        obtain ⟨S, rfl⟩ : ∃ S' : Nat, S = (S' : Int) := ⟨S.toNat, by omega⟩
        clear hcn hp2
        have HSET : Hid (setR (S : Int) set = true) := Classical.byContradiction fun hn => by
          have h1 := HUR.out
          unfold unitR at h1
          rw [if_neg (fun h => hn h.2)] at h1
          cases h1
        have HTB : Hid (∀ x ∈ T, x ≠ 0 ∧ -(S : Int) ≤ x ∧ x ≤ (S : Int)) := fun x hx => by
          have h1 := unit_in ⟨HCF.out, HSET.out⟩ (S + 1) set (setR_tk.1 HSET.out)
          have h2 : unF (S + 1) (xs.map Iw.ks) set = (T, true) := by have h3 := HUR.out; unfold unitR at h3; rw [if_pos ⟨HCF.out, HSET.out⟩] at h3; exact h3
          rw [h2] at h1
          exact h1.num x hx
        cases ht1 : ((tn : Int) == 0) with
        | true =>
          go_wp2_with fail
          refine Calls.mono HCN.out ?_
          rintro e w20 ⟨rfl, hb20⟩
          have C20 := kide (C9.out.later hb20)
          have R20 := kide (R9.out.later hb20)
          clear hb20 f0 f1
          have f0 : w20.cell? ⟨cb, 0, none⟩ = some (.int .i64 (S : Int)) := C20.out.cb.cell 0
          have hs10 : S ≤ 9 := by omega
          obtain ⟨P, hP⟩ : ∃ P : Nat, (2 : Int) ^ S = (P : Int) := ⟨2 ^ S, by simp⟩
          have hP9 : P ≤ 512 := by
            have h1 : (2 : Nat) ^ S ≤ 2 ^ 9 := Nat.pow_le_pow_right (by omega) hs10
            have h2 : ((2 ^ S : Nat) : Int) = (P : Int) := by rw [← hP]; simp
            omega
          have hsh : IntKind.i64.wrap ((2 : Int) ^ S) = (P : Int) := by rw [hP, IntKind.wrap_i64]; omega
          clear hP
          go_wp2_with fail
          go_loopw [11] (fun i wr => ∃ k : Nat, k ≤ P ∧ i = .int .i64 (k : Int) ∧ Cx w wr cb (S : Int) ca nc cc xs sa set ∧ RdI wr a4 T) (fun i _ => P - (intOf i).toNat)
          case atStart => exact ⟨0, Nat.zero_le _, rfl, C20.out, R20.out⟩
          case round =>
            obtain ⟨k, hk, rfl, hcx, hrt⟩ := hrel
            have CK := kide hcx
            have RK := kide hrt
            clear hcx hrt C20 R20
            have g0 : wr.cell? ⟨cb, 0, none⟩ = some (.int .i64 (S : Int)) := CK.out.cb.cell 0
            by_cases hkP : k < P
            · have k1 : (k : Int) < (P : Int) := by omega
              have hbe : Below wr.heap.size wr (wr.alloc (Obj.cells #[] 4)) := (Below.refl _ _).alloc (Nat.le_refl _) _
              have OE := kide (OwF.nil wr wr.heap.size wr.heap.size rfl (Nat.le_refl _))
              have BE := kide hbe
              clear hbe
              go_wp2_with fail
              generalize wr.alloc (Obj.cells #[] 4) = u0 at *
              obtain ⟨wk, hwk⟩ : ∃ wk : World, wr = wk := ⟨_, rfl⟩
              rw [hwk] at CK RK OE BE ⊢
              clear hwk g0
              go_loopw [13, 12] (fun i v wr => ∃ (j : Nat) (on : List Bool), j ≤ S ∧ on.length = j ∧ i = .int .i64 (j : Int) ∧ OwF wr wk.heap.size v on ∧ Below wk.heap.size wk wr) (fun i _ _ => S - (intOf i).toNat)
              case atStart => exact ⟨0, [], Nat.zero_le _, rfl, rfl, OE.out, BE.out⟩
              case round =>
                obtain ⟨j, on, hj, hol, rfl, hof, hbw⟩ := hrel
                obtain ⟨oa, oc, rfl, hro, -, -⟩ := hof.shape (by omega)
                rw [hol] at hof ⊢
                have OF := kide hof
                have RO := kide hro
                have BW := kide hbw
                have HOL := kide hol
                have CJ := kide (CK.out.later hbw)
                have RJ := kide (RK.out.later hbw)
                have g1 : wr.cell? ⟨cb, 0, none⟩ = some (.int .i64 (S : Int)) := CJ.out.cb.cell 0
                have g2 : wr.cell? ⟨cb, 1, none⟩ = some (.slice ca nc cc) := CJ.out.cb.cell 1
                clear hof hro hbw hol OE BE
                by_cases hjS : j < S
                · have j1 : (j : Int) < (S : Int) := by omega
                  have ju : IntKind.u64.wrap (j : Int) = (j : Int) := by rw [IntKind.wrap_u64]; omega
                  have SB : Hid (wk.heap.size ≤ wr.heap.size) := BW.out.size
                  go_wp2_with (refine wpList_appF _ rfl _ _ rfl wk.heap.size (.slice oa j oc) on _ rfl (OF.out.alloc _) wr.heap.size (by first | rfl | simp) ((Bz.new _ #[Value.bool _] 4).cell 0) (by have := HOL.out; omega) (by have := SB.out; simp; omega) ?_)
                  intro v7 w7 ho7 hg7
                  have hb7 := alloc_grow BW.out hg7 (fun q hq => OF.out.own q hq)
                  have OF7 := kide ho7
                  have BW7 := kide hb7
                  clear ho7 hg7 hb7
                  go_wp2_with fail
                  go_roundw
                  case rel => exact ⟨j + 1, _, by omega, by rw [List.length_append, HOL.out, List.length_singleton], by go_num, OF7.out, BW7.out⟩
                  case measure => simp only [intOf]; omega
                · obtain rfl : j = S := by omega
                  have HME := kide (implMeets_any (j : Int) ca oa cc nc oc j xs on wr CJ.out.rc HXL.out RO.out HOL.out)
                  cases hme : meetR (j : Int) (xs.map Iw.ks) on with
                  | false =>
                    rw [hme] at HME
                    clear hme
                    go_wp2_with fail
                    refine Calls.mono HME.out ?_
                    rintro e w8 ⟨rfl, hb8⟩
                    have C8 := kide (CJ.out.later hb8)
                    have R8 := kide (RJ.out.later hb8)
                    clear hb8
                    go_wp2_with fail
                    go_roundw
                    case rel => exact ⟨k + 1, by omega, by go_num, C8.out, R8.out⟩
                    case measure => simp only [intOf]; omega
                  | true =>
                    rw [hme] at HME
                    go_wp2_with fail
                    refine Calls.mono HME.out ?_
                    rintro e w8 ⟨rfl, hb8⟩
                    have C8 := kide (CJ.out.later hb8)
                    have R8 := kide (RJ.out.later hb8)
                    have RO8 := kide (RO.out.later hb8)
                    have HSD := kide (stand_any oa sa oc sc j m on set w8 RO8.out HOL.out C8.out.rs HM.out (fun x hx => (setR_tk.1 HSET.out).num x hx) (by omega))
                    clear hb8
                    cases hsd : sdR on set with
                    | false =>
                      rw [hsd] at HSD
                      clear hsd hme
                      go_wp2_with fail
                      refine Calls.mono HSD.out ?_
                      rintro e w9 ⟨rfl, hb9⟩
                      have C9 := kide (C8.out.later hb9)
                      have R9 := kide (R8.out.later hb9)
                      clear hb9
                      go_wp2_with fail
                      go_roundw
                      case rel => exact ⟨k + 1, by omega, by go_num, C9.out, R9.out⟩
                      case measure => simp only [intOf]; omega
                    | true =>
                      obtain ⟨hu1, hu2⟩ := unit_sound ⟨HCF.out, HSET.out⟩ hme hsd
                      rw [HUR.out] at hu1 hu2
                      simp only [] at hu1 hu2
                      have HSE := kide (fun u (h1 : RdFl u oa on) (h2 : RdI u a4 T) => stand_any oa a4 oc c4 j tn on T u h1 HOL.out h2 HTN.out (fun x hx => HTB.out x hx) (by omega))
                      rw [hu2] at HSE
                      rw [hsd] at HSD
                      clear hsd hme hu1 hu2
                      go_wp2_with fail
                      refine Calls.mono HSD.out ?_
                      rintro e w9 ⟨rfl, hb9⟩
                      have C9 := kide (C8.out.later hb9)
                      have R9 := kide (R8.out.later hb9)
                      have RO9 := kide (RO8.out.later hb9)
                      clear hb9
                      go_wp2_with fail
                      refine Calls.mono (HSE.out w9 RO9.out R9.out) ?_
                      rintro e w10 ⟨rfl, hb10⟩
                      have C10 := kide (C9.out.later hb10)
                      have R10 := kide (R9.out.later hb10)
                      clear hb10
                      go_wp2_with fail
                      go_roundw
                      case rel => exact ⟨k + 1, by omega, by go_num, C10.out, R10.out⟩
                      case measure => simp only [intOf]; omega
            · obtain rfl : k = P := by omega
              go_wp2_with fail
              go_ret
              exact ⟨rfl, CK.out.bl⟩
        | false =>
          go_wp2_with fail
          refine Calls.mono HCN.out ?_
          rintro e w20 ⟨rfl, hb20⟩
          have C20 := kide (C9.out.later hb20)
          have R20 := kide (R9.out.later hb20)
          clear hb20 f0 f1
          have f0 : w20.cell? ⟨cb, 0, none⟩ = some (.int .i64 (S : Int)) := C20.out.cb.cell 0
          have hs10 : S ≤ 9 := by omega
          obtain ⟨P, hP⟩ : ∃ P : Nat, (2 : Int) ^ S = (P : Int) := ⟨2 ^ S, by simp⟩
          have hP9 : P ≤ 512 := by
            have h1 : (2 : Nat) ^ S ≤ 2 ^ 9 := Nat.pow_le_pow_right (by omega) hs10
            have h2 : ((2 ^ S : Nat) : Int) = (P : Int) := by rw [← hP]; simp
            omega
          have hsh : IntKind.i64.wrap ((2 : Int) ^ S) = (P : Int) := by rw [hP, IntKind.wrap_i64]; omega
          clear hP
          go_wp2_with fail
          go_loopw [11] (fun i wr => ∃ k : Nat, k ≤ P ∧ i = .int .i64 (k : Int) ∧ Cx w wr cb (S : Int) ca nc cc xs sa set ∧ RdI wr a4 T) (fun i _ => P - (intOf i).toNat)
          case atStart => exact ⟨0, Nat.zero_le _, rfl, C20.out, R20.out⟩
          case round =>
            obtain ⟨k, hk, rfl, hcx, hrt⟩ := hrel
            have CK := kide hcx
            have RK := kide hrt
            clear hcx hrt C20 R20
            have g0 : wr.cell? ⟨cb, 0, none⟩ = some (.int .i64 (S : Int)) := CK.out.cb.cell 0
            by_cases hkP : k < P
            · have k1 : (k : Int) < (P : Int) := by omega
              have hbe : Below wr.heap.size wr (wr.alloc (Obj.cells #[] 4)) := (Below.refl _ _).alloc (Nat.le_refl _) _
              have OE := kide (OwF.nil wr wr.heap.size wr.heap.size rfl (Nat.le_refl _))
              have BE := kide hbe
              clear hbe
              go_wp2_with fail
              generalize wr.alloc (Obj.cells #[] 4) = u0 at *
              obtain ⟨wk, hwk⟩ : ∃ wk : World, wr = wk := ⟨_, rfl⟩
              rw [hwk] at CK RK OE BE ⊢
              clear hwk g0
              go_loopw [13, 12] (fun i v wr => ∃ (j : Nat) (on : List Bool), j ≤ S ∧ on.length = j ∧ i = .int .i64 (j : Int) ∧ OwF wr wk.heap.size v on ∧ Below wk.heap.size wk wr) (fun i _ _ => S - (intOf i).toNat)
              case atStart => exact ⟨0, [], Nat.zero_le _, rfl, rfl, OE.out, BE.out⟩
              case round =>
                obtain ⟨j, on, hj, hol, rfl, hof, hbw⟩ := hrel
                obtain ⟨oa, oc, rfl, hro, -, -⟩ := hof.shape (by omega)
                rw [hol] at hof ⊢
                have OF := kide hof
                have RO := kide hro
                have BW := kide hbw
                have HOL := kide hol
                have CJ := kide (CK.out.later hbw)
                have RJ := kide (RK.out.later hbw)
                have g1 : wr.cell? ⟨cb, 0, none⟩ = some (.int .i64 (S : Int)) := CJ.out.cb.cell 0
                have g2 : wr.cell? ⟨cb, 1, none⟩ = some (.slice ca nc cc) := CJ.out.cb.cell 1
                clear hof hro hbw hol OE BE
                by_cases hjS : j < S
                · have j1 : (j : Int) < (S : Int) := by omega
                  have ju : IntKind.u64.wrap (j : Int) = (j : Int) := by rw [IntKind.wrap_u64]; omega
                  have SB : Hid (wk.heap.size ≤ wr.heap.size) := BW.out.size
                  go_wp2_with (refine wpList_appF _ rfl _ _ rfl wk.heap.size (.slice oa j oc) on _ rfl (OF.out.alloc _) wr.heap.size (by first | rfl | simp) ((Bz.new _ #[Value.bool _] 4).cell 0) (by have := HOL.out; omega) (by have := SB.out; simp; omega) ?_)
                  intro v7 w7 ho7 hg7
                  have hb7 := alloc_grow BW.out hg7 (fun q hq => OF.out.own q hq)
                  have OF7 := kide ho7
                  have BW7 := kide hb7
                  clear ho7 hg7 hb7
                  go_wp2_with fail
                  go_roundw
                  case rel => exact ⟨j + 1, _, by omega, by rw [List.length_append, HOL.out, List.length_singleton], by go_num, OF7.out, BW7.out⟩
                  case measure => simp only [intOf]; omega
                · obtain rfl : j = S := by omega
                  have HME := kide (implMeets_any (j : Int) ca oa cc nc oc j xs on wr CJ.out.rc HXL.out RO.out HOL.out)
                  cases hme : meetR (j : Int) (xs.map Iw.ks) on with
                  | false =>
                    rw [hme] at HME
                    clear hme
                    go_wp2_with fail
                    refine Calls.mono HME.out ?_
                    rintro e w8 ⟨rfl, hb8⟩
                    have C8 := kide (CJ.out.later hb8)
                    have R8 := kide (RJ.out.later hb8)
                    clear hb8
                    go_wp2_with fail
                    go_roundw
                    case rel => exact ⟨k + 1, by omega, by go_num, C8.out, R8.out⟩
                    case measure => simp only [intOf]; omega
                  | true =>
                    rw [hme] at HME
                    go_wp2_with fail
                    refine Calls.mono HME.out ?_
                    rintro e w8 ⟨rfl, hb8⟩
                    have C8 := kide (CJ.out.later hb8)
                    have R8 := kide (RJ.out.later hb8)
                    have RO8 := kide (RO.out.later hb8)
                    have HSD := kide (stand_any oa sa oc sc j m on set w8 RO8.out HOL.out C8.out.rs HM.out (fun x hx => (setR_tk.1 HSET.out).num x hx) (by omega))
                    clear hb8
                    cases hsd : sdR on set with
                    | false =>
                      rw [hsd] at HSD
                      clear hsd hme
                      go_wp2_with fail
                      refine Calls.mono HSD.out ?_
                      rintro e w9 ⟨rfl, hb9⟩
                      have C9 := kide (C8.out.later hb9)
                      have R9 := kide (R8.out.later hb9)
                      clear hb9
                      go_wp2_with fail
                      go_roundw
                      case rel => exact ⟨k + 1, by omega, by go_num, C9.out, R9.out⟩
                      case measure => simp only [intOf]; omega
                    | true =>
                      obtain ⟨hu1, hu2⟩ := unit_sound ⟨HCF.out, HSET.out⟩ hme hsd
                      rw [HUR.out] at hu1 hu2
                      simp only [] at hu1 hu2
                      have HSE := kide (fun u (h1 : RdFl u oa on) (h2 : RdI u a4 T) => stand_any oa a4 oc c4 j tn on T u h1 HOL.out h2 HTN.out (fun x hx => HTB.out x hx) (by omega))
                      rw [hu2] at HSE
                      rw [hsd] at HSD
                      clear hsd hme hu1 hu2
                      go_wp2_with fail
                      refine Calls.mono HSD.out ?_
                      rintro e w9 ⟨rfl, hb9⟩
                      have C9 := kide (C8.out.later hb9)
                      have R9 := kide (R8.out.later hb9)
                      have RO9 := kide (RO8.out.later hb9)
                      clear hb9
                      go_wp2_with fail
                      refine Calls.mono (HSE.out w9 RO9.out R9.out) ?_
                      rintro e w10 ⟨rfl, hb10⟩
                      have C10 := kide (C9.out.later hb10)
                      have R10 := kide (R9.out.later hb10)
                      clear hb10
                      go_wp2_with fail
                      go_roundw
                      case rel => exact ⟨k + 1, by omega, by go_num, C10.out, R10.out⟩
                      case measure => simp only [intOf]; omega
            · obtain rfl : k = P := by omega
              go_wp2_with fail
              go_ret
              exact ⟨rfl, CK.out.bl⟩
/-- The law, whatever it is handed. -/
theorem walk_FnUnits (a : Option Addr) (n c : Nat) (hn : n ≤ 9223372036854775807) (w : World) (hT : TabAt 0 Lib.deBruijn64tab w) (hx : n ≤ 1048576 → ∃ bs : List Nat, bs.length = n ∧ RdB w a bs) :
    Calls Tryd.prog 5 #[.slice a n c] w fun e w' => e = .returned (.bool true) ∧ Below w.heap.size w w' := by
  have h0 : 0 < w.heap.size := block_lt_of_cell (hT 0 (by decide))
  by_cases hle : n ≤ 1048576
  · obtain ⟨bs, hb, hr⟩ := hx hle
    exact law_FnUnits a n c bs w hT h0 hr hb hle
  · have HBG := kide (big_any a n c w (by omega))
    rw [decide_eq_true (by omega)] at HBG
    clear hx
    go_enter Tryd.func5, Tryd.ntmps5
    go_wp2_with fail
    refine Calls.mono HBG.out ?_
    rintro e wq ⟨rfl, hwq⟩
    obtain rfl := hwq.symm
    go_wp2_with fail
    go_ret
    exact ⟨rfl, Below.refl _ _⟩

end Go.Proofs.YtmfamdonbgmjbaaDoor
