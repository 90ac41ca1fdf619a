/- spec.Settle. -/
import Derived.Test.YtmfamdonbgmjbaaDoorSVI
import Derived.Test.YtmfamdonbgmjbaaDoorSVJ
namespace Go.Proofs.YtmfamdonbgmjbaaDoor
set_option linter.unusedVariables false
set_option linter.unusedSimpArgs false
open Go.RowKit
theorem svF_many {S : Nat} {cs : List (List Int)} {most : Nat} (hb : ∀ cl ∈ cs, ∀ x ∈ cl, x ≠ 0 ∧ -(S : Int) ≤ x ∧ x ≤ (S : Int)) : ∀ (f v : Nat) (T : List Int), Tk S T → S < f + T.length → (svF S cs most f v T).1 = 3 → (svF S cs most f v T).2.2 = most
  | 0, v, T, hT, hf, _ => by have := hT.len; omega
  | f + 1, v, T, hT, hf, h => by
    rw [svF] at h ⊢
    by_cases h1 : v = most
    · rw [if_pos h1]; exact h1
    · rw [if_neg h1] at h ⊢
      by_cases h2 : (unF (S + 1) cs T).2 = false
      · rw [if_pos h2] at h; cases h
      · rw [if_neg h2] at h ⊢
        cases hi : fstN S (unF (S + 1) cs T).1 with
        | none => rw [hi] at h; cases h
        | some i =>
          rw [hi] at h
          simp only [] at h ⊢
          obtain ⟨T', hT'⟩ := unF_pre (cs := cs) (S + 1) T
          have hR := (unF_end hb (S + 1) T hT (by omega) (by simpa using h2)).1
          have hge : T.length ≤ (unF (S + 1) cs T).1.length := by rw [hT']; simp
          obtain ⟨f1, f2, f3, -⟩ := fstN_some hi
          by_cases h3 : (svF S cs most f (v + 1) ((unF (S + 1) cs T).1 ++ [-((i : Int) + 1)])).1 = 2
          · rw [if_pos h3] at h ⊢
            exact svF_many hb f _ _ (hR.snoc ⟨by omega, by omega, by omega⟩ f2 f3) (by rw [List.length_append, List.length_singleton]; omega) h
          · rw [if_neg h3] at h ⊢
            exact svF_many hb f _ _ (hR.snoc ⟨by omega, by omega, by omega⟩ f3 (by rw [Int.neg_neg]; exact f2)) (by rw [List.length_append, List.length_singleton]; omega) h
theorem svF_tk {S : Nat} {cs : List (List Int)} {most : Nat} (hb : ∀ cl ∈ cs, ∀ x ∈ cl, x ≠ 0 ∧ -(S : Int) ≤ x ∧ x ≤ (S : Int)) : ∀ (f v : Nat) (T : List Int), Tk S T → (svF S cs most f v T).1 = 1 → Tk S (svF S cs most f v T).2.1
  | 0, v, T, hT, h => by cases h
  | f + 1, v, T, hT, h => by
    rw [svF] at h ⊢
    by_cases h1 : v = most
    · rw [if_pos h1] at h; cases h
    · rw [if_neg h1] at h ⊢
      by_cases h2 : (unF (S + 1) cs T).2 = false
      · rw [if_pos h2] at h; cases h
      · rw [if_neg h2] at h ⊢
        have hR := (unF_end hb (S + 1) T hT (by omega) (by simpa using h2)).1
        cases hi : fstN S (unF (S + 1) cs T).1 with
        | none => exact hR
        | some i =>
          rw [hi] at h
          simp only [] at h ⊢
          obtain ⟨f1, f2, f3, -⟩ := fstN_some hi
          by_cases h3 : (svF S cs most f (v + 1) ((unF (S + 1) cs T).1 ++ [-((i : Int) + 1)])).1 = 2
          · rw [if_pos h3] at h ⊢
            exact svF_tk hb f _ _ (hR.snoc ⟨by omega, by omega, by omega⟩ f2 f3) h
          · rw [if_neg h3] at h ⊢
            exact svF_tk hb f _ _ (hR.snoc ⟨by omega, by omega, by omega⟩ f3 (by rw [Int.neg_neg]; exact f2)) h
set_option maxHeartbeats 4000000 in
set_option maxRecDepth 100000 in
theorem specSettle_any (S : Int) (ca : Option Addr) (cc nc : Nat) (xs : List Iw) (most : Int) (w : World) (hS : in64 S) (hmo : in64 most) (hc : RdII w ca xs) (hnc : xs.length = nc) :
    Calls Tryd.prog 17 #[.agg #[.int .i64 S, .slice ca nc cc], .int .i64 most] w (RetSe (setlR S (xs.map Iw.ks) most) w) := by
  obtain ⟨w0, hw0⟩ : ∃ w0, (w.alloc (Obj.cells #[Value.int .i64 S, Value.slice ca nc cc] 29)).alloc (Obj.cells #[] 4) = w0 := ⟨_, rfl⟩
  have X0 : Hid (Bz w0 w.heap.size #[Value.int .i64 S, Value.slice ca nc cc] 29) := by rw [← hw0]; exact (Bz.new w _ _).later ((Below.refl _ _).alloc (Nat.le_refl _) _)
  have B0 : Hid (Below w.heap.size w w0) := by rw [← hw0]; exact ((Below.refl _ _).alloc (Nat.le_refl _) _).alloc (by simp) _
  have N0 : Hid (OwF w0 w.heap.size (.slice (some ⟨w.heap.size + 1, 0, none⟩) 0 0) []) := by rw [← hw0]; exact OwF.nil _ _ _ (by simp) (by omega)
  have HC := kide hc
  have HCN := kide (specCnf_any S ca cc nc xs w0 (hc.later B0.out) hnc)
  have HIN := kide (fun q => l1In_any most 0 20000 q)
  have e0 : w0.cell? ⟨w.heap.size, 0, none⟩ = some (Value.int .i64 S) := X0.out.cell 0
  have e1 : w0.cell? ⟨w.heap.size, 1, none⟩ = some (Value.slice ca nc cc) := X0.out.cell 1
  obtain ⟨R, hR⟩ : ∃ R, setlR S (xs.map Iw.ks) most = R := ⟨_, rfl⟩
  rw [hR]
  unfold setlR at hR
  clear hc
  cases hq : cnfR S (xs.map Iw.ks) with
  | false =>
    rw [if_neg (by rw [hq]; simp)] at hR
    rw [hq] at HCN
    subst hR
    clear hq
    go_enter Tryd.func17, Tryd.ntmps17
    go_wp2_with fail
    refine Calls.mono HCN.out ?_
    rintro e w1 ⟨rfl, hb1⟩
    have B1 := kide (B0.out.trans (hb1.mono B0.out.size))
    have N1 := kide (N0.out.kept hb1)
    clear hb1 hw0 e0 e1
    go_wp2_with fail
    exact bodyPost_ret (v := .tuple #[.slice (some ⟨w.heap.size + 1, 0, none⟩) 0 0, .int .i64 (-1), .int .i64 4]) (by simp [results, Tryd.results17, go_sem]) rfl ⟨_, rfl, N1.out, B1.out⟩
  | true =>
    have HQ := kide hq
    obtain ⟨g1, g2, g3, g4⟩ := cnfR_parts hq
    obtain ⟨S, rfl⟩ : ∃ S' : Nat, S = (S' : Int) := ⟨S.toNat, by omega⟩
    have hS4 : S ≤ 400 := by omega
    rw [hq] at HCN hR
    clear hq g3 g4 g1 g2
    by_cases hm : 0 ≤ most ∧ most ≤ 20000
    · rw [if_pos ⟨rfl, hm⟩] at hR
      simp only [decide_eq_true hm] at HIN
      obtain ⟨hm0, hm9⟩ := hm
      obtain ⟨most, rfl⟩ : ∃ m' : Nat, most = (m' : Int) := ⟨most.toNat, by omega⟩
      simp only [Int.toNat_natCast] at hR
      have hm8 : most ≤ 20000 := by omega
      obtain ⟨F, hF⟩ : ∃ F, svF S (xs.map Iw.ks) most (S + 1) 0 [] = F := ⟨_, rfl⟩
      rw [hF] at hR
      have HR := kide hR
      have HF := kide hF
      have hsz : w.heap.size + 2 ≤ w0.heap.size := by rw [← hw0]; simp
      have HSZ := kide hsz
      clear hR hF hmo hS hsz
      go_enter Tryd.func17, Tryd.ntmps17
      go_wp2_with fail
      refine Calls.mono HCN.out ?_
      rintro e w1 ⟨rfl, hb1⟩
      have B1 := kide (B0.out.trans (hb1.mono B0.out.size))
      have N1 := kide (N0.out.kept hb1)
      have X1 := kide (X0.out.later hb1)
      have HS1 : Hid (w.heap.size + 2 ≤ w1.heap.size) := Nat.le_trans HSZ.out hb1.size
      have f0 : w1.cell? ⟨w.heap.size, 0, none⟩ = some (Value.int .i64 (S : Int)) := X1.out.cell 0
      have f1 : w1.cell? ⟨w.heap.size, 1, none⟩ = some (Value.slice ca nc cc) := X1.out.cell 1
      clear hb1 hw0 e0 e1 X0 HCN
      go_wp2_with fail
      refine Calls.mono (HIN.out _) ?_
      rintro e w1' ⟨rfl, hw1⟩
      obtain rfl := hw1.symm
      clear hw1
      obtain ⟨w2, hw2⟩ : ∃ w2, w1.alloc (.cells #[.int .i64 (S : Int), .slice ca nc cc, .int .i64 0, .int .i64 (most : Int), .bool false, .slice none 0 0] 72) = w2 := ⟨_, rfl⟩
      obtain ⟨w3, hw3⟩ : ∃ w3, w2.alloc (.cells #[] 2) = w3 := ⟨_, rfl⟩
      have b2 : Below w1.heap.size w1 w2 := by rw [← hw2]; exact (Below.refl _ _).alloc (Nat.le_refl _) _
      have b3 : Below w2.heap.size w2 w3 := by rw [← hw3]; exact (Below.refl _ _).alloc (Nat.le_refl _) _
      have B3 := kide (b2.trans (b3.mono b2.size))
      have X2 : Hid (Sx9 w2 w1.heap.size S ca nc cc 0 most false (.slice none 0 0)) := by rw [← hw2]; exact Bz.new _ _ _
      have X3 : Hid (Sx9 w3 w1.heap.size S ca nc cc 0 most false (.slice none 0 0)) := X2.out.later b3
      have O3 : Hid (OI w3 w.heap.size (.slice (some ⟨w2.heap.size, 0, none⟩) 0 0) []) := by rw [← hw3]; exact OI.empty _ _ (Nat.le_trans B1.out.size b2.size)
      have hs2 : w2.heap.size = w1.heap.size + 1 := by rw [← hw2]; simp
      have HV : Hid (Calls Tryd.prog 41 #[.pointer (some ⟨w1.heap.size, 0, none⟩), .slice (some ⟨w2.heap.size, 0, none⟩) 0 0] w3 (RetVi w w3 w1.heap.size S ca nc cc most F)) := by
        have := visit_any HC.out hnc HQ.out B1.out.size hm8 (S + 1) [] 0 (some ⟨w2.heap.size, 0, none⟩) 0 w3 (.slice none 0 0) (Tk.nil S) (by simp) (Nat.zero_le _) O3.out (B1.out.trans (B3.out.mono B1.out.size)) X3.out
        rw [HF.out] at this
        exact this
      rw [hs2] at HV
      clear b2 b3
      go_wp2_with fail
      have hsb3 : w1.heap.size + 2 ≤ w3.heap.size := by rw [← hw3, ← hw2]; simp
      have hgb := B3.out.size
      have BW3 := kide (B1.out.trans (B3.out.mono B1.out.size))
      have N3 := kide (N1.out.kept B3.out)
      have HLO := kide B1.out.size
      have XC3 := kide (X1.out.later B3.out)
      have hcd : F.1 = 1 ∨ F.1 = 2 ∨ F.1 = 3 := by rw [← HF.out]; exact svF_code _ _ _
      have HTK : Hid (F.1 = 1 → Tk S F.2.1) := by rw [← HF.out]; exact svF_tk (cnfR_parts9 HQ.out) _ _ _ (Tk.nil S)
      have hmy : F.1 = 3 → F.2.2 = most := by rw [← HF.out]; exact svF_many (cnfR_parts9 HQ.out) _ _ _ (Tk.nil S) (by simp)
      clear hw2 hw3 hs2 f0 f1 hgb
      refine Calls.mono HV.out ?_
      have hs1 := HS1.out
      clear HV
      generalize w1.heap.size = sb at *
      rintro e w4 ⟨rfl, ⟨fv, x4, o4⟩, g4⟩
      have X4 := kide x4
      have G4 := kide g4
      have B4 := kide (BW3.out.trans (g4.below HLO.out BW3.out.size))
      have N4 : Hid (OwF w4 w.heap.size (.slice (some ⟨w.heap.size + 1, 0, none⟩) 0 0) []) := row_move N3.out fun b hb => by
        have e : w.heap.size + 1 = b := Option.some.inj hb
        subst e
        exact g4.block _ (by omega) (fun h => by have := Option.some.inj h; omega)
      have d4 : w4.cell? ⟨sb, 4, none⟩ = some (.bool (F.1 == 3)) := x4.cell 4
      have d2 : w4.cell? ⟨sb, 2, none⟩ = some (.int .i64 (F.2.2 : Int)) := x4.cell 2
      have HO4 := kide o4
      have XS4 : Hid (Bz w4 w.heap.size #[Value.int .i64 (S : Int), Value.slice ca nc cc] 29) := by
        have h3 := XC3.out
        exact (g4.block _ h3.lt (fun h => by have := Option.some.inj h; omega)).trans h3
      clear x4 o4 g4 N3 BW3 hsb3 B3 HIN
      obtain ⟨F1, F2, F3⟩ := F
      simp only [] at HR hcd hmy d4 d2 HO4 HTK
      have hR := HR.out
      rcases hcd with rfl | rfl | rfl
      · rw [if_pos rfl] at hR
        subst hR
        have HO5 := kide (HO4.out rfl)
        have d5 : w4.cell? ⟨sb, 5, none⟩ = some fv := X4.out.cell 5
        have d0 : w4.cell? ⟨w.heap.size, 0, none⟩ = some (.int .i64 (S : Int)) := XS4.out.cell 0
        rw [show ((1 : Nat) == 1) = true from rfl]
        rw [show ((1 : Nat) == 3) = false from rfl] at d4
        have hTk := HTK.out rfl
        obtain ⟨fa, fc, hfv, hrf⟩ := HO5.out.rd (by have := hTk.len; omega) (fun x hx => by have := hTk.num x hx; unfold in64; omega)
        subst hfv
        have RF := kide hrf
        have N5 := kide (OwF.nil w4 w4.heap.size _ rfl (Nat.le_refl _))
        have B5 : Hid (Below w4.heap.size w4 (w4.alloc (.cells #[] 4))) := (Below.refl _ _).alloc (Nat.le_refl _) _
        obtain ⟨fl, hfl⟩ : ∃ fl, F2.length = fl := ⟨_, rfl⟩
        have HL := kide (fun q (hq : Below w4.heap.size w4 q) (x : Int) => l1Has_any fa fc F2 x q (RF.out.later hq))
        rw [hfl] at HL d5
        clear hrf hTk hfl
        go_wp2_with fail
        go_loopw [10, 11] (fun v i wr => ∃ k : Nat, k ≤ S ∧ i = .int .i64 ((k : Int) + 1) ∧ OwF wr w4.heap.size v ((flV S F2).take k) ∧ Below w4.heap.size w4 wr) (fun _ i _ => S + 1 - (intOf i).toNat)
        case atStart => exact ⟨0, Nat.zero_le _, rfl, N5.out, B5.out⟩
        case round =>
          obtain ⟨k, hk9, rfl, ho, hbr⟩ := hrel
          have OR := kide ho
          have BR := kide hbr
          have e0 : wr.cell? ⟨w.heap.size, 0, none⟩ = some (.int .i64 (S : Int)) := (XS4.out.later hbr).cell 0
          have e2 : wr.cell? ⟨sb, 2, none⟩ = some (.int .i64 (F3 : Int)) := (X4.out.later hbr).cell 2
          have e5 : wr.cell? ⟨sb, 5, none⟩ = some (.slice fa fl fc) := (kcell hbr _ _ (block_lt_of_cell d5)).trans d5
          clear ho hbr d0 d2 d5 d4
          by_cases hkS : k < S
          · have hle : (k : Int) + 1 ≤ (S : Int) := by omega
            obtain ⟨y, hy⟩ : ∃ y, decide (((k : Int) + 1) ∈ F2) = y := ⟨_, rfl⟩
            have HL1 := kide (HL.out wr BR.out ((k : Int) + 1))
            rw [hy] at HL1
            have hnx : (flV S F2).take k ++ [y] = (flV S F2).take (k + 1) := take_snoc (by unfold flV; rw [List.getElem?_map, List.getElem?_range hkS, ← hy]; rfl)
            have b6 : Below wr.heap.size wr (wr.alloc (.cells #[.bool y] 4)) := (Below.refl _ _).alloc (Nat.le_refl _) _
            have O6 := kide (OR.out.kept b6)
            have B6 := kide (BR.out.trans (b6.mono BR.out.size))
            have z6 : (wr.alloc (.cells #[.bool y] 4)).cell? ⟨wr.heap.size, 0, none⟩ = some (.bool y) := (Bz.new wr #[.bool y] 4).cell 0
            have HNX := kide hnx
            clear hy hnx b6
            go_wp2_with fail
            refine Calls.mono HL1.out ?_
            rintro e wr2 ⟨rfl, hw2⟩
            obtain rfl := hw2.symm
            clear hw2
            go_wp2_with (refine wpList_appF _ rfl _ _ rfl w4.heap.size _ ((flV S F2).take k) y rfl O6.out wr.heap.size rfl z6 (by rw [List.length_take, flV_len]; omega) B6.out.size ?_)
            intro v6 w6 ho6 hg6
            have B7 : Hid (Below w4.heap.size w4 w6) := B6.out.grown hg6 B6.out.size (fun k e => O6.out.own k e)
            rw [HNX.out] at ho6
            have O7 := kide ho6
            clear ho6 hg6 z6
            go_wp2_with fail
            go_roundw
            case rel => exact ⟨k + 1, by omega, by first | go_num | (congr 1; omega) | simp, O7.out, B7.out⟩
            case measure => simp only [intOf]; omega
          · obtain ⟨rfl⟩ : S = k := by omega
            have hnl : ¬ ((S : Int) + 1 ≤ (S : Int)) := by omega
            rw [List.take_of_length_le (by rw [flV_len]; exact Nat.le_refl _)] at OR
            go_wp2_with fail
            go_quiet (fail)
            have BQ := kide (below_drewN (Below.refl wr.heap.size wr) nq)
            go_wp2_with fail
            exact bodyPost_ret (v := .tuple #[u10, .int .i64 (F3 : Int), .int .i64 1]) (by simp [results, Tryd.results17, go_sem]) rfl ⟨_, rfl, (OR.out.kept BQ.out).lowF B4.out.size, B4.out.trans ((BR.out.trans (BQ.out.mono BR.out.size)).mono B4.out.size)⟩
      · rw [if_neg (by decide)] at hR
        subst hR
        rw [show ((2 : Nat) == 1) = false from rfl]
        rw [show ((2 : Nat) == 3) = false from rfl] at d4
        go_wp2_with fail
        go_quiet (fail)
        have BQ := kide (below_drewN (Below.refl w4.heap.size w4) nq)
        go_wp2_with fail
        exact bodyPost_ret (v := .tuple #[.slice (some ⟨w.heap.size + 1, 0, none⟩) 0 0, .int .i64 (F3 : Int), .int .i64 2]) (by simp [results, Tryd.results17, go_sem]) rfl ⟨_, rfl, N4.out.kept BQ.out, B4.out.trans (BQ.out.mono B4.out.size)⟩
      · rw [if_neg (by decide)] at hR
        subst hR
        obtain rfl := hmy rfl
        rw [show ((3 : Nat) == 1) = false from rfl]
        rw [show ((3 : Nat) == 3) = true from rfl] at d4
        go_wp2_with fail
        exact bodyPost_ret (v := .tuple #[.slice (some ⟨w.heap.size + 1, 0, none⟩) 0 0, .int .i64 (F3 : Int), .int .i64 3]) (by simp [results, Tryd.results17, go_sem]) rfl ⟨_, rfl, N4.out, B4.out⟩
    · rw [if_neg (fun h => hm h.2)] at hR
      subst hR
      simp only [decide_eq_false hm] at HIN
      go_enter Tryd.func17, Tryd.ntmps17
      go_wp2_with fail
      refine Calls.mono HCN.out ?_
      rintro e w1 ⟨rfl, hb1⟩
      have B1 := kide (B0.out.trans (hb1.mono B0.out.size))
      have N1 := kide (N0.out.kept hb1)
      clear hb1 hw0 e0 e1
      go_wp2_with fail
      refine Calls.mono (HIN.out _) ?_
      rintro e w1' ⟨rfl, hw1⟩
      obtain rfl := hw1.symm
      clear hw1
      go_wp2_with fail
      exact bodyPost_ret (v := .tuple #[.slice (some ⟨w.heap.size + 1, 0, none⟩) 0 0, .int .i64 (-1), .int .i64 4]) (by simp [results, Tryd.results17, go_sem]) rfl ⟨_, rfl, N1.out, B1.out⟩
end Go.Proofs.YtmfamdonbgmjbaaDoor
