/- What the given CnfOk answers. -/
import Derived.Test.YtmfamdonbgmjbaaDoorCL
namespace Go.Proofs.YtmfamdonbgmjbaaDoor
set_option linter.unusedVariables false
set_option linter.unusedSimpArgs false
open Go.RowKit

theorem cnfR_no1 {S : Int} {cs : List (List Int)} (h : decide (0 ≤ S ∧ S ≤ 400) = false) : cnfR S cs = false := by unfold cnfR; rw [h]; rfl
theorem cnfR_no2 {S : Int} {cs : List (List Int)} (h : ¬ cs.length ≤ 4000) : cnfR S cs = false := by unfold cnfR; rw [decide_eq_false h]; simp
theorem cnfR_yes {S : Int} {cs : List (List Int)} (h : decide (0 ≤ S ∧ S ≤ 400) = true) (h2 : cs.length ≤ 4000) : cnfR S cs = cs.all (claR S) := by unfold cnfR; rw [h, decide_eq_true h2]; rfl

set_option maxHeartbeats 1000000 in
theorem specCnf_any (S : Int) (a : Option Addr) (c n : Nat) (xs : List Iw) (w : World) (hs : RdII w a xs) (hn : xs.length = n) :
    Calls Tryd.prog 25 #[.agg #[.int .i64 S, .slice a n c]] w fun e w' => e = .returned (.bool (cnfR S (xs.map Iw.ks))) ∧ Below w.heap.size w w' := by
  have hl2 := hs.1
  rw [hn] at hl2
  have hb0 : Below w.heap.size w (w.alloc (Obj.cells #[Value.int .i64 S, Value.slice a n c] 29)) := (Below.refl _ _).alloc (Nat.le_refl _) _
  have B0 := kide hb0
  have c0 : (w.alloc (Obj.cells #[Value.int .i64 S, Value.slice a n c] 29)).cell? ⟨w.heap.size, 0, none⟩ = some (Value.int .i64 S) := by simp
  have c1 : (w.alloc (Obj.cells #[Value.int .i64 S, Value.slice a n c] 29)).cell? ⟨w.heap.size, 1, none⟩ = some (Value.slice a n c) := by simp
  have l0 : w.heap.size < (w.alloc (Obj.cells #[Value.int .i64 S, Value.slice a n c] 29)).heap.size := by simp
  have HI := kide (fun u => l1In_any S 0 400 u)
  have HXS := kide (hs.later hb0)
  cases hd : decide (0 ≤ S ∧ S ≤ 400) with
  | false =>
    rw [cnfR_no1 hd]
    rw [hd] at HI
    clear hd hb0 hs hn HXS
    go_enter Tryd.func25, Tryd.ntmps25
    go_wp2_with fail
    generalize (w.alloc (Obj.cells #[Value.int .i64 S, Value.slice a n c] 29)) = w0 at *
    refine Calls.mono (HI.out _) ?_
    rintro e w0 ⟨rfl, rfl⟩
    go_wp2_with fail
    go_ret
    exact ⟨rfl, B0.out⟩
  | true =>
    rw [hd] at HI
    by_cases h4 : n ≤ 4000
    · have hn4 : (xs.map Iw.ks).length ≤ 4000 := by rw [List.length_map, hn]; exact h4
      rw [cnfR_yes hd hn4]
      obtain ⟨hS0, hS1⟩ := of_decide_eq_true hd
      generalize hzz : (xs.map Iw.ks).all (claR S) = Z
      have HZ := kide hzz
      have HN := kide hn
      clear hd hb0 hs hn hn4 hzz
      go_enter Tryd.func25, Tryd.ntmps25
      go_wp2_with fail
      generalize (w.alloc (Obj.cells #[Value.int .i64 S, Value.slice a n c] 29)) = w0 at *
      refine Calls.mono (HI.out _) ?_
      rintro e w0 ⟨rfl, rfl⟩
      go_wp2_with fail
      go_loopw [3] (fun i wr => ∃ k : Nat, k ≤ n ∧ i = .int .i64 (k : Int) ∧ ((xs.map Iw.ks).drop k).all (claR S) = Z ∧ Below w0.heap.size w0 wr) (fun i _ => n - (intOf i).toNat)
      case atStart => exact ⟨0, Nat.zero_le _, rfl, by simpa using HZ.out, Below.refl _ _⟩
      case round =>
        obtain ⟨k, hk, rfl, hz, hbel⟩ := hrel
        have HBK := kide hbel
        have d0 := kcell hbel w.heap.size 0 l0
        have d1 := kcell hbel w.heap.size 1 l0
        rw [c0] at d0
        rw [c1] at d1
        by_cases hlt : k < n
        · obtain ⟨-, h | ⟨b2, o2, rfl, hc2⟩⟩ := HXS.out
          · have := HN.out; subst h; simp at this; omega
          obtain ⟨⟨a1, cc1, k1⟩, gx⟩ : ∃ x, xs[k]? = some x := ⟨xs[k]'(by rw [HN.out]; exact hlt), List.getElem?_eq_getElem _⟩
          have HP1 := kide (hc2 k _ gx)
          obtain ⟨f1, f2⟩ := (hc2 k _ gx).later hbel
          simp only [] at f1 f2
          rw [all_step (x := k1) (by rw [List.getElem?_map, gx]; rfl)] at hz
          have i0 : (k : Int) < (n : Int) := by omega
          have hkl := f2.1
          generalize hg : ((xs.map Iw.ks).drop (k + 1)).all (claR S) = Z2 at *
          have HG := kide hg
          clear hc2 gx hg hbel f2
          by_cases h400 : k1.length ≤ 400
          · have HRZ : Hid ((clR S 0 k1 && Z2) = Z) := by show _ = _; rw [← hz, claR, decide_eq_true h400]; rfl
            clear hz
            go_wp2_with fail
            clear d0 d1 f1
            obtain ⟨wo, hwo⟩ : ∃ wo, wo = wr := ⟨_, rfl⟩
            subst hwo
            go_loopw [4] (fun i wr => ∃ (j : Nat) (last : Int), j ≤ k1.length ∧ i = .int .i64 (j : Int) ∧ (j = 0 → last = 0) ∧ (0 < j → ∃ p, last = absI p ∧ p = k1.getD (j - 1) 0 ∧ -400 ≤ p ∧ p ≤ 400) ∧ (clR S last (k1.drop j) && Z2) = Z ∧ Below w0.heap.size w0 wr) (fun i _ => k1.length - (intOf i).toNat)
            case atStart => exact ⟨0, 0, Nat.zero_le _, rfl, fun _ => rfl, fun h => by omega, by simpa using HRZ.out, HBK.out⟩
            case round =>
              obtain ⟨j, last, hj, rfl, hj0, hjs, hz, hbel⟩ := hrel
              have HB := kide hbel
              have d0 := kcell hbel w.heap.size 0 l0
              have d1 := kcell hbel w.heap.size 1 l0
              rw [c0] at d0
              rw [c1] at d1
              obtain ⟨p1, p2⟩ := HP1.out.later hbel
              simp only [] at p1 p2
              by_cases hjl : j < k1.length
              · obtain ⟨-, hi64, h | ⟨b3, o3, rfl, hc3⟩⟩ := p2
                · subst h; simp at hjl
                have e3 := hc3 j hjl
                rw [clR_step hjl] at hz
                have hprev : 0 < j → _ := fun h => hc3 (j - 1) (by omega)
                generalize hx : k1.getD j 0 = x at *
                have HX := kide hx
                have j0 : (j : Int) < (k1.length : Int) := by omega
                have HZJ := kide hz
                have HIN := kide (fun u => l1In_any x (-S) S u)
                clear hc3 hi64 hz hx hbel
                by_cases hx0 : x = 0
                · have q0 : (x == 0) = true := by simp [hx0]
                  have HF : Hid (Z = false) := by have h := HZJ.out; simp [hx0, numR] at h; exact h
                  clear hx0 hprev hj0 hjs
                  go_wp2_with fail
                  go_quiet ((first | (go_at_call 30; exact Calls.quiet_of_same (HIN.out _)) | fail))
                  go_wp2_with fail
                  go_ret
                  exact ⟨ret_bool HF.out.symm, B0.out.trans ((below_drewN HB.out _).mono B0.out.size)⟩
                have q0 : (x == 0) = false := by simp [hx0]
                cases hdd : decide (-S ≤ x ∧ x ≤ S) with
                | false =>
                  rw [hdd] at HIN
                  have HF : Hid (Z = false) := by have h := HZJ.out; simp [numR, hdd] at h; exact h
                  clear hx0 hprev hj0 hjs hdd
                  go_wp2_with fail
                  go_quiet ((first | (go_at_call 30; exact Calls.quiet_of_same (HIN.out _)) | fail))
                  go_wp2_with fail
                  go_ret
                  exact ⟨ret_bool HF.out.symm, B0.out.trans ((below_drewN HB.out _).mono B0.out.size)⟩
                | true =>
                  rw [hdd] at HIN
                  have hxx := of_decide_eq_true hdd
                  have HNU : Hid (numR S x = true) := by show _ = _; simp [numR, hx0, hxx]
                  obtain ⟨hx1, hx2⟩ := hxx
                  have HA := kide (fun u => l18Abs_any x (by omega) u)
                  clear hdd
                  cases j with
                  | zero =>
                    have hl := hj0 rfl
                    subst hl
                    have HNX : Hid ((clR S (absI x) (k1.drop 1) && Z2) = Z) := by
                      show _ = _
                      have h := HZJ.out
                      have ha : (0 : Int) < absI x := by rw [absI_def]; split <;> omega
                      rw [HNU.out, decide_eq_true ha] at h
                      simpa using h
                    clear hprev hj0 hjs hx0
                    rw [Nat.add_zero] at e3
                    go_wp2_with fail
                    go_quiet ((first | (go_at_call 30; exact Calls.quiet_of_same (HIN.out _)) | (go_at_call 49; exact Calls.quiet_of_same (HA.out _))))
                    go_wp2_with fail
                    go_roundw
                    case rel => exact ⟨1, absI x, by omega, by go_num, fun h => by omega, fun _ => ⟨x, rfl, by simpa using HX.out.symm, by omega, by omega⟩, HNX.out, below_drewN HB.out _⟩
                    case measure => simp [intOf]; omega
                  | succ j =>
                    obtain ⟨y, rfl, hy, hy1, hy2⟩ := hjs (by omega)
                    have e4 := hprev (by omega)
                    simp only [Nat.add_sub_cancel] at hy e4
                    rw [← hy] at e4
                    have HY := kide (fun u => l18Abs_any y (by omega) u)
                    have j1 : (j : Int) < (k1.length : Int) := by omega
                    clear hprev hj0 hjs hy hx0
                    by_cases hlx : absI y < absI x
                    · have HNX : Hid ((clR S (absI x) (k1.drop (j + 1 + 1)) && Z2) = Z) := by
                        show _ = _
                        have h := HZJ.out
                        rw [HNU.out, decide_eq_true hlx] at h
                        simpa using h
                      go_wp2_with fail
                      go_quiet ((first | (go_at_call 30; exact Calls.quiet_of_same (HIN.out _)) | (go_at_call 49; exact Calls.quiet_of_same (l18Abs_any _ (by omega) _))))
                      go_wp2_with fail
                      go_roundw
                      case rel => exact ⟨j + 1 + 1, absI x, by omega, by go_num, fun h => by omega, fun _ => ⟨x, rfl, by simpa using HX.out.symm, by omega, by omega⟩, HNX.out, below_drewN HB.out _⟩
                      case measure => simp [intOf]; omega
                    · have HF : Hid (Z = false) := by have h := HZJ.out; rw [decide_eq_false hlx] at h; simp at h; exact h
                      go_wp2_with fail
                      go_quiet ((first | (go_at_call 30; exact Calls.quiet_of_same (HIN.out _)) | (go_at_call 49; exact Calls.quiet_of_same (l18Abs_any _ (by omega) _))))
                      go_wp2_with fail
                      go_ret
                      exact ⟨ret_bool HF.out.symm, B0.out.trans ((below_drewN HB.out _).mono B0.out.size)⟩
              · have e : j = k1.length := by omega
                rw [e, List.drop_length, clR, Bool.true_and] at hz
                have HZJ := kide hz
                clear hz e hj0 hjs hbel p2
                go_wp2_with fail
                go_roundw
                case rel => exact ⟨k + 1, by omega, by go_num, HG.out.trans HZJ.out, HB.out⟩
                case measure => simp [intOf]; omega
          · have HF : Hid (Z = false) := by show _ = _; rw [← hz, claR, decide_eq_false h400]; rfl
            clear hz
            go_wp2_with fail
            go_ret
            exact ⟨ret_bool HF.out.symm, B0.out.trans (HBK.out.mono B0.out.size)⟩
        · have HZT : Hid (Z = true) := by
            show _ = _
            rw [← hz, List.drop_eq_nil_of_le (by rw [List.length_map, HN.out]; omega)]
            rfl
          clear hz hbel
          go_wp2_with fail
          go_ret
          exact ⟨ret_bool HZT.out.symm, B0.out.trans (HBK.out.mono B0.out.size)⟩
    · rw [cnfR_no2 (by rw [List.length_map, hn]; exact h4)]
      clear hd hb0 hs hn HXS
      go_enter Tryd.func25, Tryd.ntmps25
      go_wp2_with fail
      generalize (w.alloc (Obj.cells #[Value.int .i64 S, Value.slice a n c] 29)) = w0 at *
      refine Calls.mono (HI.out _) ?_
      rintro e w0 ⟨rfl, rfl⟩
      go_wp2_with fail
      go_ret
      exact ⟨rfl, B0.out⟩

end Go.Proofs.YtmfamdonbgmjbaaDoor
