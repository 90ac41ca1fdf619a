/- settle. -/
import Derived.Test.YtmfamdonbgmjbaaDoorSVE
import Derived.WalkMore
namespace Go.Proofs.YtmfamdonbgmjbaaDoor
set_option linter.unusedVariables false
set_option linter.unusedSimpArgs false
open Go.RowKit
theorem Se.vis {u : World} {B sb bx : Nat} {v : Value} {K : List Fr} {vis most : Nat} (h : Se u B sb bx v K vis most) (n : Nat) : Se (u.setCell ⟨sb, 2, none⟩ (.int .i64 (n : Int))) B sb bx v K n most ∧ Ft u (u.setCell ⟨sb, 2, none⟩ (.int .i64 (n : Int))) :=
  ⟨⟨h.box.set 2 _, row_move h.row fun b hb => heap_setCell_other _ _ _ _ (by obtain ⟨-, cur, h2⟩ := row_ty h.row hb; exact bzNe h2 h.box (by decide)), h.lo⟩, rfl, rfl, rfl, by simp, fun k cs t hk h1 _ => (heap_setCell_other _ _ _ _ (bzNe hk h.box h1)).trans hk⟩
theorem Kq.drop {S : Nat} {cs : List (List Int)} {most v : Nat} {F : Sr} : ∀ {K : List Fr}, Kq S cs most K (2, [], v) F → Kq S cs most (dropOn K) (2, [], v) F
  | [], h => h
  | fr :: K, h => by
    rw [dropOn]
    by_cases ho : fr.on = true
    · rw [if_pos ho]
      rw [Kq, if_pos rfl, if_pos ho] at h
      exact Kq.drop h
    · rw [if_neg ho]
      exact h
theorem KOk.dropOn {S : Nat} {cs : List (List Int)} {T : List Int} : ∀ {K : List Fr}, KOk S cs T K → KOk S cs T (dropOn K)
  | [], h => h
  | fr :: K, h => by
    rw [Go.Proofs.YtmfamdonbgmjbaaDoor.dropOn]
    by_cases ho : fr.on = true
    · rw [if_pos ho]; exact KOk.dropOn h.tail
    · rw [if_neg ho]; exact h
theorem wp_scope_two {P : Program} {a : Act} {w : World} {Q : Exit → Act → World → Prop} {X : Code} {g0 : Nat} (J : Nat → Nat → Act → World → Prop) (start : J 0 g0 a w)
    (visit : ∀ g a w, J 0 g a w → X.wp P (exJ (fun l' a' w' => ∃ g', g' < g ∧ J l' g' a' w') Q) a w)
    (other : ∀ l g a w, l ≠ 0 → J l g a w → ∃ rest, findLabel X l = some rest ∧ rest.wp P (exJ (fun l' a' w' => ∃ g', g' < g ∧ J l' g' a' w') Q) a w) : (Code.scope ((Code.label 0).seq X)).wp P Q a w := by
  refine wp_scope_ghost J (wp_seq (wp_label ?_)) fun l g a w hJ => ?_
  · exact wp_mono (visit g0 a w start) fun e a w hq => by
      cases e with
      | goto l => obtain ⟨g', -, h⟩ := hq; exact ⟨g', h⟩
      | _ => exact hq
  · by_cases hl : l = 0
    · subst hl
      exact ⟨_, rfl, wp_seq (wp_skip (visit g a w hJ))⟩
    · obtain ⟨rest, h1, h2⟩ := other l g a w hl hJ
      refine ⟨rest, ?_, h2⟩
      rw [← h1, findLabel, findLabel, if_neg (by simpa using Ne.symm hl)]
theorem slots44 (p a1 a2 a3 a4 a5 a6 a7 a8 a9 a10 a11 a12 a13 a14 a15 a16 a17 a18 a19 a20 a21 a22 a23 a24 a25 a26 a27 a28 a29 a30 a31 a32 a33 a34 a35 a36 a37 a38 a39 a40 a41 a42 a43 a44 : Value) : ∃ x : Nat → Value, ({ tmps := #[p, a1, a2, a3, a4, a5, a6, a7, a8, a9, a10, a11, a12, a13, a14, a15, a16, a17, a18, a19, a20, a21, a22, a23, a24, a25, a26, a27, a28, a29, a30, a31, a32, a33, a34, a35, a36, a37, a38, a39, a40, a41, a42, a43, a44], defers := [] } : Act) = { tmps := #[p, x 1, x 2, x 3, x 4, x 5, x 6, x 7, x 8, x 9, x 10, x 11, x 12, x 13, x 14, x 15, x 16, x 17, x 18, x 19, x 20, x 21, x 22, x 23, x 24, x 25, x 26, x 27, x 28, x 29, x 30, x 31, x 32, x 33, x 34, x 35, x 36, x 37, x 38, x 39, x 40, x 41, x 42, x 43, x 44], defers := [] } := ⟨fun i => [p, a1, a2, a3, a4, a5, a6, a7, a8, a9, a10, a11, a12, a13, a14, a15, a16, a17, a18, a19, a20, a21, a22, a23, a24, a25, a26, a27, a28, a29, a30, a31, a32, a33, a34, a35, a36, a37, a38, a39, a40, a41, a42, a43, a44].getD i p, rfl⟩
theorem dropOn_off {fr : Fr} {K2 : List Fr} : ∀ {K : List Fr}, dropOn K = fr :: K2 → fr.on = false
  | [], h => by cases h
  | f :: K, h => by
    rw [dropOn] at h
    by_cases ho : f.on = true
    · rw [if_pos ho] at h; exact dropOn_off h
    · rw [if_neg ho] at h
      cases h
      simpa using ho
/-- What settle tells. -/
def RetSt (w u : World) (M : Wb) (S N : Nat) (ca : Option Addr) (nc cc nw sb : Nat) (cs : List (List Int)) (most : Nat) (F : Sr) (e : Ending) (w' : World) : Prop :=
  e = .returned (.int .i64 (F.1 : Int)) ∧ (∃ v K, Se w' w.heap.size sb M.bx v K F.2.2 most) ∧ (F.1 = 1 → Ws w w' M S N ca nc cc nw cs F.2.1 true ∧ Tk S F.2.1 ∧ F.2.1.length = S) ∧ Below w.heap.size u w'
/-- What holds at the labels. -/
def JSt (w u : World) (M : Wb) (S N : Nat) (ca : Option Addr) (nc cc nw sb : Nat) (cs : List (List Int)) (most : Nat) (F : Sr) (l g : Nat) (a : Act) (uw : World) : Prop :=
  (∃ x : Nat → Value, a = ({ tmps := #[Value.pointer (some ⟨sb, 0, none⟩), x 1, x 2, x 3, x 4, x 5, x 6, x 7, x 8, x 9, x 10, x 11, x 12, x 13, x 14, x 15, x 16, x 17, x 18, x 19, x 20, x 21, x 22, x 23, x 24, x 25, x 26, x 27, x 28, x 29, x 30, x 31, x 32, x 33, x 34, x 35, x 36, x 37, x 38, x 39, x 40, x 41, x 42, x 43, x 44], defers := [] } : Act)) ∧ ∃ T live v K vis, Se uw w.heap.size sb M.bx v K vis most ∧ Ws w uw M S N ca nc cc nw cs T live ∧ Tk S T ∧ KOk S cs T K ∧ vis ≤ most ∧ Below w.heap.size u uw ∧
    ((l = 0 ∧ g = 2 * (most - vis) ∧ live = true ∧ ∃ r, Sq S cs most vis T r ∧ Kq S cs most K r F) ∨ (l = 1 ∧ g = 2 * (most - vis) + 1 ∧ Kq S cs most K (2, [], vis) F))
set_option maxHeartbeats 8000000 in
set_option maxRecDepth 100000 in
theorem settle_any {w u : World} {M : Wb} {S N : Nat} {ca : Option Addr} {nc cc nw sb : Nat} {xs : List Iw} {v : Value} {most : Nat} (hx : Cnx w S nc nw ca xs) (h : Ws w u M S N ca nc cc nw (xs.map Iw.ks) [] true) (hex : M.ex = []) (hs : Se u w.heap.size sb M.bx v [] 0 most) (hbl : Below w.heap.size w u) (hm9 : most ≤ 20000) (F : Sr) (hF : svF S (xs.map Iw.ks) most (S + 1) 0 [] = F) :
    Calls Tryd.prog 42 #[.pointer (some ⟨sb, 0, none⟩)] u (RetSt w u M S N ca nc cc nw sb (xs.map Iw.ks) most F) := by
  have hS4 := hx.S4
  have HX := kide hx
  have HBL := kide hbl
  have J0 : Hid (∀ x : Nat → Value, JSt w u M S N ca nc cc nw sb (xs.map Iw.ks) most F 0 (2 * most) ({ tmps := #[Value.pointer (some ⟨sb, 0, none⟩), x 1, x 2, x 3, x 4, x 5, x 6, x 7, x 8, x 9, x 10, x 11, x 12, x 13, x 14, x 15, x 16, x 17, x 18, x 19, x 20, x 21, x 22, x 23, x 24, x 25, x 26, x 27, x 28, x 29, x 30, x 31, x 32, x 33, x 34, x 35, x 36, x 37, x 38, x 39, x 40, x 41, x 42, x 43, x 44], defers := [] } : Act) u) := fun x => ⟨⟨x, rfl⟩, [], true, v, [], 0, hs, h, Tk.nil S, trivial, Nat.zero_le _, Below.refl _ _, .inl ⟨rfl, by omega, rfl, _, by have := Sq.start S (xs.map Iw.ks) most 0 []; rw [hF] at this; exact this, rfl⟩⟩
  clear hx hbl hs h hF
  go_enter Tryd.func42, Tryd.ntmps42
  go_wp2_with fail
  refine wp_scope_two (g0 := 2 * most) (JSt w u M S N ca nc cc nw sb (xs.map Iw.ks) most F) ?start ?visit ?other
  case start => exact J0.out (fun i => if i = 2 then .int .i64 0 else undef)
  case visit =>
    clear J0
    intro g a uw hJ
    obtain ⟨⟨x, rfl⟩, T, live, v1, KL, vis, hse, hws, htk, hok, hvm, hb1, hc⟩ := hJ
    rcases hc with ⟨-, rfl, rfl, r, hsq, hkq⟩ | ⟨h9, -⟩
    · have hlT := htk.len
      have HSQ := kide hsq
      have HKQ := kide hkq
      have HOK := kide hok
      have HTK := kide htk
      have SE1 := kide hse
      have WS1 := kide hws
      have B1 := kide hb1
      have HLT := kide hlT
      have hc2 : uw.cell? ⟨sb, 2, none⟩ = some (.int .i64 (vis : Int)) := hse.box.cell 2
      have hc3 : uw.cell? ⟨sb, 3, none⟩ = some (.int .i64 (most : Int)) := hse.box.cell 3
      clear hsq hkq hok htk hse hws hb1 hlT
      by_cases hv : vis = most
      · subst hv
        obtain rfl : r = (3, [], vis) := HSQ.out.many HLT.out
        obtain rfl : (3, [], vis) = F := HKQ.out.out (by simp)
        go_wp2_with fail
        go_quiet (fail)
        have BQ := kide (below_drewN (Below.refl uw.heap.size uw) nq)
        go_wp2_with fail
        go_ret
        exact ⟨rfl, ⟨_, _, SE1.out.later BQ.out⟩, fun h => (by cases h), B1.out.trans (BQ.out.mono (HBL.out.trans B1.out).size)⟩
      · have hlt : vis < most := by omega
        have hne : ((vis : Int) == (most : Int)) = false := beq_eq_false_iff_ne.2 (by omega)
        go_wp2_with fail
        go_quiet (fail)
        have BQ := kide (below_drewN (Below.refl uw.heap.size uw) nq)
        generalize uw.drewN nq = w1 at *
        have S1 := kide (SE1.out.later BQ.out)
        have hd2 : w1.cell? ⟨sb, 2, none⟩ = some (.int .i64 (vis : Int)) := S1.out.box.cell 2
        have hfr : w1.frozen? ⟨sb, 2, none⟩ = false := S1.out.box.froz _
        obtain ⟨sv, fv⟩ := S1.out.vis (vis + 1)
        rw [show ((vis + 1 : Nat) : Int) = (vis : Int) + 1 from by omega] at sv fv
        obtain ⟨w2, hw2⟩ : ∃ w2, w1.setCell ⟨sb, 2, none⟩ (.int .i64 ((vis : Int) + 1)) = w2 := ⟨_, rfl⟩
        have S2 : Hid (Se w2 w.heap.size sb M.bx v1 KL (vis + 1) most) := by rw [← hw2]; exact sv
        have W2 : Hid (Ws w w2 M S N ca nc cc nw (xs.map Iw.ks) T true) := by rw [← hw2]; exact (WS1.out.later BQ.out).ft hex fv
        have B2 : Hid (Below w.heap.size u w2) := by rw [← hw2]; exact (B1.out.trans (BQ.out.mono (HBL.out.trans B1.out).size)).setCell (p := ⟨sb, 2, none⟩) S1.out.lo _
        have he0 : w2.cell? ⟨sb, 0, none⟩ = some (.pointer (some ⟨M.bx, 0, none⟩)) := S2.out.box.cell 0
        obtain ⟨R, hR⟩ : ∃ R, unF (S + 1) (xs.map Iw.ks) T = R := ⟨_, rfl⟩
        have HFO := kide (follow_se HX.out W2.out S2.out (HBL.out.trans B2.out) HTK.out R hR)
        obtain ⟨R1, R2⟩ := R
        have HR := kide hR
        have HV := kide hv
        clear sv fv hc2 hc3 hR hv
        cases R2 with
        | false =>
          obtain rfl : r = (2, [], vis + 1) := HSQ.out.no HLT.out HV.out (by rw [HR.out])
          go_wp2_with fail
          refine Calls.mono HFO.out ?_
          rintro e w6 ⟨rfl, g1, -, g3, g4, g5⟩
          have G1 := kide g1
          have G3 := kide g3
          have G4 := kide g4
          have G5 := kide (B2.out.trans g5)
          clear g1 g3 g4 g5
          go_wp2_with fail
          go_step3
          refine ⟨2 * (most - (vis + 1)) + 1, by omega, slots44 .., R1, false, v1, KL, vis + 1, G4.out, G1.out, G3.out, ?_, by omega, G5.out, .inr ⟨rfl, rfl, HKQ.out⟩⟩
          obtain ⟨T', hT'⟩ := unF_pre (cs := xs.map Iw.ks) (S + 1) T
          rw [HR.out] at hT'
          simp only [] at hT'
          rw [hT']
          exact HOK.out.more T'
        | true =>
          go_wp2_with fail
          refine Calls.mono HFO.out ?_
          rintro e w6 ⟨rfl, g1, g2, g3, g4, g5⟩
          have G1 := kide g1
          have G2 := kide (g2 trivial)
          have G3 := kide g3
          have G4 := kide g4
          have G5 := kide (B2.out.trans g5)
          obtain ⟨ta, tc, ds, t1, t2, t3, -⟩ := g1.trail
          obtain ⟨rl, hrl⟩ : ∃ rl, R1.length = rl := ⟨_, rfl⟩
          have hk0 : w6.cell? ⟨sb, 0, none⟩ = some (.pointer (some ⟨M.bx, 0, none⟩)) := g4.box.cell 0
          have hk5 : w6.cell? ⟨M.bx, 5, none⟩ = some (.slice ta rl tc) := (t1.cell 5).trans (by rw [t2, hrl])
          have hk6 : w6.cell? ⟨M.bx, 0, none⟩ = some (.int .i64 (S : Int)) := (t1.cell 0).trans t3
          have hrl4 : rl ≤ 400 := by have := g3.len; omega
          have HRL := kide hrl
          clear g1 g2 g3 g4 g5 t1 t2 t3 hrl he0 hfr hw2 HFO
          by_cases hl : rl = S
          · subst hl
            have hfn : fstN rl R1 = none := (fstN_len G3.out).2 HRL.out
            obtain rfl : r = (1, R1, vis + 1) := by have := HSQ.out.yes HLT.out HV.out (by rw [HR.out]) (by rw [HR.out]; exact hfn); rw [HR.out] at this; exact this
            obtain rfl : (1, R1, vis + 1) = F := HKQ.out.out (by simp)
            clear hfn
            go_wp2_with fail
            go_quiet (fail)
            have BP := kide (below_drewN (Below.refl w6.heap.size w6) nq)
            go_wp2_with fail
            go_ret
            exact ⟨rfl, ⟨_, _, G4.out.later BP.out⟩, fun _ => ⟨G1.out.later BP.out, G3.out, HRL.out⟩, G5.out.trans (BP.out.mono (HBL.out.trans G5.out).size)⟩
          · have hnl : ((rl : Int) == (S : Int)) = false := beq_eq_false_iff_ne.2 (by omega)
            obtain ⟨i, hi⟩ : ∃ i, fstN S R1 = some i := by
              cases hf : fstN S R1 with
              | none => exact absurd (HRL.out.symm.trans ((fstN_len G3.out).1 hf)) hl
              | some i => exact ⟨i, rfl⟩
            have HI := kide hi
            clear hi hl
            go_wp2_with fail
            go_quiet (fail)
            have BP := kide (below_drewN (Below.refl w6.heap.size w6) nq)
            generalize w6.drewN nq = w7 at *
            have G6 := kide (G5.out.trans (BP.out.mono (HBL.out.trans G5.out).size))
            have HOF := kide (tryOff_any HX.out (G1.out.later BP.out) hex (G4.out.later BP.out) (HBL.out.trans G6.out) G3.out (by have := HOK.out.len; have := HLT.out; omega) HI.out)
            go_wp2_with fail
            refine Calls.mono HOF.out ?_
            rintro e w8 ⟨rfl, k1, ⟨v8, k2⟩, k3⟩
            have K1 := kide k1
            have K2 := kide k2
            have K3 := kide (G6.out.trans k3)
            clear k1 k2 k3 HOF
            go_wp2_with fail
            go_step3
            obtain ⟨f1, f2, f3, -⟩ := fstN_some HI.out
            obtain ⟨r1, q1, q2, q3⟩ := HSQ.out.step HLT.out HV.out (by rw [HR.out]) (by rw [HR.out]; exact HI.out)
            rw [HR.out] at q1 q2
            refine ⟨2 * (most - (vis + 1)), by omega, slots44 .., _, true, v8, _, vis + 1, K2.out, K1.out, G3.out.snoc ⟨by omega, by omega, by omega⟩ f3 (by rw [Int.neg_neg]; exact f2), ⟨⟨_, by simp, rfl⟩, G2.out, f1, G3.out, f2, f3, ?_⟩, by omega, K3.out, .inl ⟨rfl, rfl, rfl, r1, q1, HKQ.out.off q2 q3⟩⟩
            obtain ⟨T', hT'⟩ := unF_pre (cs := xs.map Iw.ks) (S + 1) T
            rw [HR.out] at hT'
            simp only [] at hT' ⊢
            rw [hT']
            exact HOK.out.more T'
    · cases h9
  case other =>
    clear J0
    intro l g a uw hl0 hJ
    obtain ⟨⟨x, rfl⟩, T, live, v1, KL, vis, hse, hws, htk, hok, hvm, hb1, hc⟩ := hJ
    rcases hc with ⟨rfl, -⟩ | ⟨rfl, rfl, hkq⟩
    · exact absurd rfl hl0
    refine ⟨_, rfl, ?_⟩
    have HTO := kide (tryOn_any HX.out hws hex hse (HBL.out.trans hb1) htk (by have := hok.len; have := htk.len; omega) hok)
    have hok2 := hok.dropOn
    have hkq2 := hkq.drop
    have B1 := kide hb1
    cases hd : dropOn KL with
    | nil =>
      rw [hd] at HTO hok2 hkq2
      obtain rfl : (2, [], vis) = F := hkq2
      clear hse hws htk hok hb1 hkq hok2 hd
      go_wp2_with fail
      refine Calls.mono HTO.out ?_
      rintro e w2 ⟨rfl, ⟨v2, s2⟩, b2⟩
      have S2 := kide s2
      have B2 := kide (B1.out.trans b2)
      clear s2 b2
      go_wp2_with fail
      go_ret
      exact ⟨rfl, ⟨_, _, S2.out⟩, fun h => (by cases h), B2.out⟩
    | cons fr K2 =>
      have hoff := dropOn_off hd
      rw [hd] at HTO hok2 hkq2
      rw [Kq, if_pos rfl, if_neg (by rw [hoff]; decide)] at hkq2
      obtain ⟨r2, hsq2, hkq3⟩ := hkq2
      have HSQ := kide hsq2
      have HKQ := kide hkq3
      have HOK := kide hok2
      clear hse hws htk hok hb1 hkq hok2 hd hsq2 hkq3
      go_wp2_with fail
      refine Calls.mono HTO.out ?_
      rintro e w2 ⟨rfl, g1, ⟨v2, g2⟩, g3⟩
      have G1 := kide g1
      have G2 := kide g2
      have G3 := kide (B1.out.trans g3)
      clear g1 g2 g3
      go_wp2_with fail
      go_step3
      obtain ⟨-, o2, o3, o4, o5, o6, o7⟩ := HOK.out
      exact ⟨2 * (most - vis), by omega, slots44 .., _, true, v2, _, vis, G2.out, G1.out, o4.snoc ⟨by omega, by omega, by omega⟩ o5 o6, ⟨⟨_, by simp, rfl⟩, o2, o3, o4, o5, o6, o7⟩, hvm, G3.out, .inl ⟨rfl, rfl, rfl, r2, HSQ.out, HKQ.out.on⟩⟩
end Go.Proofs.YtmfamdonbgmjbaaDoor
