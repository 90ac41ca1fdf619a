/- impl.Settle. -/
import Derived.Test.YtmfamdonbgmjbaaDoorSVH
import Derived.Test.YtmfamdonbgmjbaaDoorZGAI
namespace Go.Proofs.YtmfamdonbgmjbaaDoor
set_option linter.unusedVariables false
set_option linter.unusedSimpArgs false
open Go.RowKit
/-- What Settle tells. -/
def setlR (S : Int) (cs : List (List Int)) (most : Int) : List Bool × Int × Int :=
  if cnfR S cs = true ∧ 0 ≤ most ∧ most ≤ 20000 then
    if (svF S.toNat cs most.toNat (S.toNat + 1) 0 []).1 = 1 then (flV S.toNat (svF S.toNat cs most.toNat (S.toNat + 1) 0 []).2.1, ((svF S.toNat cs most.toNat (S.toNat + 1) 0 []).2.2 : Int), 1)
    else ([], ((svF S.toNat cs most.toNat (S.toNat + 1) 0 []).2.2 : Int), ((svF S.toNat cs most.toNat (S.toNat + 1) 0 []).1 : Int))
  else ([], -1, 4)
def RetSe (X : List Bool × Int × Int) (w : World) (e : Ending) (w' : World) : Prop := ∃ v, e = .returned (.tuple #[v, .int .i64 X.2.1, .int .i64 X.2.2]) ∧ OwF w' w.heap.size v X.1 ∧ Below w.heap.size w w'
theorem OwF.lowF {w : World} {B B' : Nat} {v : Value} {l : List Bool} (h : OwF w B v l) (hB : B' ≤ B) : OwF w B' v l := by
  obtain ⟨h1, h2⟩ := h
  refine ⟨h1, ?_⟩
  rcases h2 with h2 | ⟨g, cap, cur, rfl, hg, hh, r⟩
  · exact .inl h2
  · exact .inr ⟨g, cap, cur, rfl, by omega, hh, r⟩
set_option maxHeartbeats 4000000 in
set_option maxRecDepth 100000 in
theorem implSettle_any (S : Int) (ca : Option Addr) (cc nc : Nat) (xs : List Iw) (most : Int) (w : World) (hS : in64 S) (hmo : in64 most) (hc : RdII w ca xs) (hnc : xs.length = nc) (hcap : ∀ x ∈ xs, x.ks.length ≤ x.c) (hT : TabAt 0 Lib.deBruijn64tab w) (h0 : 0 < w.heap.size) (HNW : NewWatcherAny) :
    Calls Tryd.prog 18 #[.agg #[.int .i64 S, .slice ca nc cc], .int .i64 most] w (RetSe (setlR S (xs.map Iw.ks) most) w) := by
  have hb0 : Below w.heap.size w (w.alloc (Obj.cells #[Value.int .i64 S, Value.slice ca nc cc] 29)) := (Below.refl _ _).alloc (Nat.le_refl _) _
  have X0 := kide (Bz.new w #[Value.int .i64 S, Value.slice ca nc cc] 29)
  have B0 := kide hb0
  have HC := kide hc
  have HCN := kide (fun u (hu : Below w.heap.size w u) => implCnf_any S ca cc nc xs u (hc.later hu) hnc)
  have HT := kide hT
  have HCAP := kide hcap
  have HNW := kide HNW
  obtain ⟨R, hR⟩ : ∃ R, setlR S (xs.map Iw.ks) most = R := ⟨_, rfl⟩
  rw [hR]
  unfold setlR at hR
  clear hc hT hcap hb0
  cases hq : cnfR S (xs.map Iw.ks) with
  | false =>
    rw [if_neg (by rw [hq]; simp)] at hR
    rw [hq] at HCN
    subst hR
    clear hq
    go_enter Tryd.func18, Tryd.ntmps18
    go_wp2_with fail
    generalize w.alloc (Obj.cells #[Value.int .i64 S, Value.slice ca nc cc] 29) = w0 at *
    have d0 : w0.cell? ⟨w.heap.size, 0, none⟩ = some (Value.int .i64 S) := X0.out.cell 0
    have d1 : w0.cell? ⟨w.heap.size, 1, none⟩ = some (Value.slice ca nc cc) := X0.out.cell 1
    refine Calls.mono (HCN.out _ B0.out) ?_
    rintro e w1 ⟨rfl, hb1⟩
    have B1 := kide (B0.out.trans (hb1.mono B0.out.size))
    clear hb1
    go_wp2_with fail
    exact bodyPost_ret (v := .tuple #[Value.slice none 0 0, .int .i64 (-1), .int .i64 4]) (by simp [results, Tryd.results18, go_sem]) rfl ⟨_, rfl, ⟨rfl, .inl ⟨rfl, rfl⟩⟩, B1.out⟩
  | true =>
    obtain ⟨g1, g2, g3, g4⟩ := cnfR_parts hq
    rw [List.length_map, hnc] at g3
    obtain ⟨S, rfl⟩ : ∃ S' : Nat, S = (S' : Int) := ⟨S.toNat, by omega⟩
    have hS4 : S ≤ 400 := by omega
    have HCS := kide g4
    rw [hq] at HCN hR
    clear hq g4 g1 g2
    by_cases hm0 : most < 0
    · rw [if_neg (by omega)] at hR
      subst hR
      go_enter Tryd.func18, Tryd.ntmps18
      go_wp2_with fail
      generalize w.alloc (Obj.cells #[Value.int .i64 (S : Int), Value.slice ca nc cc] 29) = w0 at *
      have d0 : w0.cell? ⟨w.heap.size, 0, none⟩ = some (Value.int .i64 (S : Int)) := X0.out.cell 0
      have d1 : w0.cell? ⟨w.heap.size, 1, none⟩ = some (Value.slice ca nc cc) := X0.out.cell 1
      refine Calls.mono (HCN.out _ B0.out) ?_
      rintro e w1 ⟨rfl, hb1⟩
      have B1 := kide (B0.out.trans (hb1.mono B0.out.size))
      clear hb1
      go_wp2_with fail
      exact bodyPost_ret (v := .tuple #[Value.slice none 0 0, .int .i64 (-1), .int .i64 4]) (by simp [results, Tryd.results18, go_sem]) rfl ⟨_, rfl, ⟨rfl, .inl ⟨rfl, rfl⟩⟩, B1.out⟩
    · by_cases hm9 : most > 20000
      · rw [if_neg (by omega)] at hR
        subst hR
        have hdm : decide (most < 0) = false := by simpa using hm0
        go_enter Tryd.func18, Tryd.ntmps18
        go_wp2_with fail
        generalize w.alloc (Obj.cells #[Value.int .i64 (S : Int), Value.slice ca nc cc] 29) = w0 at *
        have d0 : w0.cell? ⟨w.heap.size, 0, none⟩ = some (Value.int .i64 (S : Int)) := X0.out.cell 0
        have d1 : w0.cell? ⟨w.heap.size, 1, none⟩ = some (Value.slice ca nc cc) := X0.out.cell 1
        refine Calls.mono (HCN.out _ B0.out) ?_
        rintro e w1 ⟨rfl, hb1⟩
        have B1 := kide (B0.out.trans (hb1.mono B0.out.size))
        clear hb1
        go_wp2_with fail
        exact bodyPost_ret (v := .tuple #[Value.slice none 0 0, .int .i64 (-1), .int .i64 4]) (by simp [results, Tryd.results18, go_sem]) rfl ⟨_, rfl, ⟨rfl, .inl ⟨rfl, rfl⟩⟩, B1.out⟩
      · rw [if_pos ⟨rfl, by omega, by omega⟩] at hR
        obtain ⟨most, rfl⟩ : ∃ m' : Nat, most = (m' : Int) := ⟨most.toNat, by omega⟩
        simp only [Int.toNat_natCast] at hR
        have hm8 : most ≤ 20000 := by omega
        have hdm : decide ((most : Int) < 0) = false := decide_eq_false hm0
        have hdn : decide ((most : Int) > 20000) = false := decide_eq_false hm9
        obtain ⟨F, hF⟩ : ∃ F, svF S (xs.map Iw.ks) most (S + 1) 0 [] = F := ⟨_, rfl⟩
        rw [hF] at hR
        have HR := kide hR
        have HF := kide hF
        clear hR hF hmo hS
        go_enter Tryd.func18, Tryd.ntmps18
        go_wp2_with fail
        generalize w.alloc (Obj.cells #[Value.int .i64 (S : Int), Value.slice ca nc cc] 29) = w0 at *
        have d0 : w0.cell? ⟨w.heap.size, 0, none⟩ = some (Value.int .i64 (S : Int)) := X0.out.cell 0
        have d1 : w0.cell? ⟨w.heap.size, 1, none⟩ = some (Value.slice ca nc cc) := X0.out.cell 1
        refine Calls.mono (HCN.out _ B0.out) ?_
        rintro e w1 ⟨rfl, hb1⟩
        have X1 := kide (X0.out.later hb1)
        have B1 := kide (B0.out.trans (hb1.mono B0.out.size))
        have f0 : w1.cell? ⟨w.heap.size, 0, none⟩ = some (Value.int .i64 (S : Int)) := X1.out.cell 0
        have f1 : w1.cell? ⟨w.heap.size, 1, none⟩ = some (Value.slice ca nc cc) := X1.out.cell 1
        clear hb1 d0 d1
        go_wp2_with fail
        refine Calls.mono (HNW.out w1 S ca nc cc xs (HC.out.later B1.out) hnc g3 hS4 HCAP.out HCS.out) ?_
        rintro e w2 ⟨M, tv, eyl, rows, ws, hex, rfl, hm3, hi3, hl3, hb3⟩
        have W2 : Hid (Ws w1 w2 M S (2 * S + 1) ca nc cc ((nc + 63) / 64) (xs.map Iw.ks) [] true) := ⟨tv, eyl, rows, ws, plB ws, hm3, hi3, hl3, fun _ => rfl⟩
        have B2 := kide hb3
        have TB1 : Hid (TabAt 0 Lib.deBruijn64tab w1) := fun j hj => (B1.out.cell (p := ⟨0, j, none⟩) h0).trans (HT.out j hj)
        have CNX : Hid (Cnx w1 S nc ((nc + 63) / 64) ca xs) := ⟨HC.out.later B1.out, hnc, g3, hS4, HCS.out, fun p hp => by omega, by omega, TB1.out, Nat.lt_of_lt_of_le h0 B1.out.size⟩
        clear hm3 hi3 hl3 hb3 f0 f1 X1 X0 HCN HT TB1
        go_wp2_with fail
        obtain ⟨w3, hw3⟩ : ∃ w3, w2.alloc (Obj.cells #[Value.pointer (some ⟨M.bx, 0, none⟩), Value.slice none 0 0, Value.int .i64 0, Value.int .i64 (most : Int)] 78) = w3 := ⟨_, rfl⟩
        have hb3 : Below w2.heap.size w2 w3 := by rw [← hw3]; exact (Below.refl _ _).alloc (Nat.le_refl _) _
        have W3 := kide (W2.out.later hb3)
        have S3 : Hid (Se w3 w1.heap.size w2.heap.size M.bx (.slice none 0 0) [] 0 most) := ⟨by rw [← hw3]; exact Bz.new _ _ _, ⟨rfl, .inl ⟨rfl, rfl⟩⟩, B2.out.size⟩
        have B3 := kide (B2.out.trans (hb3.mono B2.out.size))
        have HSE := kide (settle_any CNX.out W3.out hex S3.out B3.out hm8 F HF.out)
        clear hb3
        rw [hw3]
        clear hw3 W2 B2
        generalize w2.heap.size = sb at *
        obtain ⟨F1, F2, F3⟩ := F
        refine Calls.mono HSE.out ?_
        rintro e w4 ⟨rfl, ⟨v4, K4, s4⟩, hy, b4⟩
        simp only [] at s4 hy HR
        have S4 := kide s4
        have HY := kide hy
        have B4 := kide (B3.out.trans b4)
        have h2 : w4.cell? ⟨sb, 2, none⟩ = some (.int .i64 (F3 : Int)) := s4.box.cell 2
        clear s4 hy b4 HSE W3 S3
        by_cases hF1 : F1 = 1
        · subst hF1
          have hR := HR.out
          rw [if_pos rfl] at hR
          subst hR
          obtain ⟨y1, y2, -⟩ := HY.out rfl
          have HFL := kide (fun q (hq : Below w4.heap.size w4 q) => flags_any (y1.later hq) (S4.out.later hq) y2 hS4)
          clear HR y1 y2
          go_wp2_with fail
          refine wp_region_x (SA := fun _ => False) (SB := fun uu => uu.cell? ⟨sb, 2, none⟩ = some (Value.int .i64 (F3 : Int)) ∧ uu.cell? ⟨sb, 3, none⟩ = some (Value.int .i64 (most : Int))) (k := 999) (by kernel_rfl) ?_
          have hbd : Below w4.heap.size w4 w4.drew := (Below.refl _ _).drew
          have BQ := kide hbd
          have c0_0 : w4.drew.cell? ⟨sb, 2, none⟩ = some (Value.int .i64 (F3 : Int)) := (S4.out.later hbd).box.cell 2
          have c1_0 : w4.drew.cell? ⟨sb, 3, none⟩ = some (Value.int .i64 (most : Int)) := (S4.out.later hbd).box.cell 3
          clear hbd
          generalize w4.drew = q0 at *
          have hs0 : Hid ((fun uu => uu.cell? ⟨sb, 2, none⟩ = some (Value.int .i64 (F3 : Int)) ∧ uu.cell? ⟨sb, 3, none⟩ = some (Value.int .i64 (most : Int))) q0) := ⟨c0_0, c1_0⟩
          try go_simp
          refine wpAnyX_both (T := (fun _ => True)) (i := 1) (v := Value.pointer (some ⟨sb, 2, none⟩)) rfl (by kernel_rfl) (by kernel_rfl) (by kernel_rfl) (fun _ _ _ h => by first | exact h | exact h.elim) (by decide) (fun _ _ => trivial) (fun _ _ => trivial) (Sx.behind (by kernel_rfl) hs0.out) (Or.inl ⟨by rfl, fun uu hu => by go_simp⟩) ?_
          try go_simp
          refine wpAnyX_both (T := (fun uu => uu.cell? ⟨sb, 2, none⟩ = some (Value.int .i64 (F3 : Int)) ∧ uu.cell? ⟨sb, 3, none⟩ = some (Value.int .i64 (most : Int)))) (i := 2) (v := Value.int .i64 (F3 : Int)) rfl (by kernel_rfl) (by kernel_rfl) (by kernel_rfl) (fun _ _ _ h => by first | exact h | exact h.elim) (by decide) (fun _ h => h.elim) (fun _ h => h) (Sx.behind (by kernel_rfl) hs0.out) (Or.inl ⟨by rfl, fun uu hu => by obtain ⟨e0, e1⟩ := hu; go_simp⟩) ?_
          try go_simp
          refine wpAnyX_ready (rs := [0]) (by kernel_rfl) (by simp) (AllX.cons rfl (fun K hK => ?_) AllX.nil)
          go_simp
          refine Calls.mono (HFL.out q0 BQ.out) ?_
          rintro e q1 ⟨v7, rfl, o7, b7⟩
          have O7 := kide o7
          have B7 := kide b7
          have c0_1 : q1.cell? ⟨sb, 2, none⟩ = some (Value.int .i64 (F3 : Int)) := ((S4.out.later BQ.out).later b7).box.cell 2
          have c1_1 : q1.cell? ⟨sb, 3, none⟩ = some (Value.int .i64 (most : Int)) := ((S4.out.later BQ.out).later b7).box.cell 3
          clear o7 b7
          have hs1 : Hid ((fun uu => uu.cell? ⟨sb, 2, none⟩ = some (Value.int .i64 (F3 : Int)) ∧ uu.cell? ⟨sb, 3, none⟩ = some (Value.int .i64 (most : Int))) q1) := ⟨c0_1, c1_1⟩
          refine hK _ _ (Sx.behind (by kernel_rfl) hs1.out) ?_
          clear hK K
          try go_simp
          refine wpAnyX_both (T := (fun _ => True)) (i := 3) (v := v7) rfl (by kernel_rfl) (by kernel_rfl) (by kernel_rfl) (fun _ _ _ h => by first | exact h | exact h.elim) (by decide) (fun _ _ => trivial) (fun _ _ => trivial) (Sx.behind (by kernel_rfl) hs1.out) (Or.inl ⟨by rfl, fun uu hu => by go_simp⟩) ?_
          try go_simp
          refine wpAnyX_both (T := (fun _ => True)) (i := 4) (v := Value.int .i64 (F3 : Int)) rfl (by kernel_rfl) (by kernel_rfl) (by kernel_rfl) (fun _ _ _ h => by first | exact h | exact h.elim) (by decide) (fun _ _ => trivial) (fun _ _ => trivial) (Sx.behind (by kernel_rfl) hs1.out) (Or.inl ⟨by rfl, fun uu hu => by go_simp⟩) ?_
          try go_simp
          refine wpAnyX_both (T := (fun _ => True)) (i := 5) (v := Value.int .i64 1) rfl (by kernel_rfl) (by kernel_rfl) (by kernel_rfl) (fun _ _ _ h => by first | exact h | exact h.elim) (by decide) (fun _ _ => trivial) (fun _ _ => trivial) (Sx.behind (by kernel_rfl) hs1.out) (Or.inl ⟨by rfl, fun uu hu => by go_simp⟩) ?_
          try go_simp
          refine wpAnyX_done (by kernel_rfl) ?_ _
          go_wp2_with fail
          exact bodyPost_ret (v := .tuple #[v7, .int .i64 (F3 : Int), .int .i64 1]) (by simp [results, Tryd.results18, go_sem]) rfl ⟨_, rfl, O7.out.lowF (Nat.le_trans (Nat.le_trans B1.out.size B4.out.size) BQ.out.size), (B1.out.trans (B4.out.mono B1.out.size)).trans ((BQ.out.trans (B7.out.mono BQ.out.size)).mono (Nat.le_trans B1.out.size B4.out.size))⟩
        · have hR := HR.out
          rw [if_neg hF1] at hR
          subst hR
          have hne : ((F1 : Int) != 1) = true := by simp; omega
          go_wp2_with fail
          go_quiet (fail)
          have BQ := kide (below_drewN (Below.refl w4.heap.size w4) nq)
          go_wp2_with fail
          exact bodyPost_ret (v := .tuple #[Value.slice none 0 0, .int .i64 (F3 : Int), .int .i64 (F1 : Int)]) (by simp [results, Tryd.results18, go_sem]) rfl ⟨_, rfl, ⟨rfl, .inl ⟨rfl, rfl⟩⟩, (B1.out.trans (B4.out.mono B1.out.size)).trans (BQ.out.mono (Nat.le_trans B1.out.size B4.out.size))⟩
end Go.Proofs.YtmfamdonbgmjbaaDoor
