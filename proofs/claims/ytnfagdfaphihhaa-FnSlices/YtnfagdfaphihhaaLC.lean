/- What the given CutsOk answers. -/
import Derived.Test.YtnfagdfaphihhaaLB
namespace Go.Proofs.Ytnfagdfaphihhaa
set_option linter.unusedVariables false
set_option linter.unusedSimpArgs false
open Go.RowKit

set_option maxHeartbeats 1000000 in
theorem specCuts_any (a b : Option Addr) (c c2 n : Nat) (ds : List Dc) (xs : List Iw) (w : World) (hr : RdD w a ds) (hs : RdII w b xs) (hn : xs.length = n) :
    Calls Try.prog 24 #[.slice a ds.length c, .agg #[.slice b n c2]] w fun e w' => e = .returned (.bool (cutR ds (xs.map Iw.ks))) ∧ Below w.heap.size w w' := by
  have hl1 := hr.1
  have hl2 := hs.1
  have hb0 : Below w.heap.size w (w.alloc (Obj.cells #[Value.slice b n c2] 27)) := (Below.refl _ _).alloc (Nat.le_refl _) _
  have HDC := kide (specDecls_any a c ds _ (hr.later hb0))
  have B0 := kide hb0
  cases hD : dclR ds with
  | false =>
    rw [hD] at HDC
    have HR : cutR ds (xs.map Iw.ks) = false := by simp [cutR, hD]
    rw [HR]
    clear HR hD hb0
    go_enter Try.func24, Try.ntmps24
    go_wp2_with fail
    refine Calls.mono HDC.out ?_
    rintro e w1 ⟨rfl, hb1⟩
    go_wp2_with fail
    go_ret
    exact ⟨rfl, B0.out.trans (hb1.mono B0.out.size)⟩
  | true =>
    rw [hD] at HDC
    have c0 : (w.alloc (Obj.cells #[Value.slice b n c2] 27)).cell? ⟨w.heap.size, 0, none⟩ = some (Value.slice b n c2) := by simp
    have l0 : w.heap.size < (w.alloc (Obj.cells #[Value.slice b n c2] 27)).heap.size := by simp
    by_cases hnd : n = ds.length
    · subst hnd
      have hZ : cutR ds (xs.map Iw.ks) = cutL ds (xs.map Iw.ks) := by simp [cutR, hD, hn]
      rw [hZ]
      have hdw := fun d hd => (dcOk_iff.1 ((dclR_iff.1 hD).2.1 d hd)).2
      have HDW := kide hdw
      have HN := kide hn
      have hne : ((ds.length : Int) != (ds.length : Int)) = false := by simp
      generalize hzz : cutL ds (xs.map Iw.ks) = Z
      have HZ := kide hzz
      clear hD hn hl2 hZ hb0 hzz hdw
      go_enter Try.func24, Try.ntmps24
      go_wp2_with fail
      refine Calls.mono HDC.out ?_
      rintro e w1 ⟨rfl, hb1⟩
      have k0 := kcell hb1 w.heap.size 0 l0
      rw [c0] at k0
      have B1 := kide (B0.out.trans (hb1.mono B0.out.size))
      have L1 : w.heap.size < w1.heap.size := Nat.lt_of_lt_of_le l0 hb1.size
      clear hb1 HDC c0 l0
      go_wp2_with fail
      clear hne
      go_loopw [5] (fun i wr => ∃ k : Nat, k ≤ ds.length ∧ i = .int .i64 (k : Int) ∧ cutL (ds.drop k) ((xs.map Iw.ks).drop k) = Z ∧ Below w1.heap.size w1 wr) (fun i _ => ds.length - (intOf i).toNat)
      case atStart => exact ⟨0, Nat.zero_le _, rfl, by simpa using HZ.out, Below.refl _ _⟩
      case round =>
        obtain ⟨k, hk, rfl, hz, hbel⟩ := hrel
        have HBK := kide hbel
        by_cases hlt : k < ds.length
        · obtain ⟨-, hsz, h | ⟨b1, o1, rfl, hc1⟩⟩ := hr
          · subst h; simp at hlt
          obtain ⟨-, h | ⟨b2, o2, rfl, hc2⟩⟩ := hs
          · have := HN.out; subst h; simp at this; omega
          obtain ⟨⟨t, y⟩, gd⟩ : ∃ d, ds[k]? = some d := ⟨ds[k], List.getElem?_eq_getElem hlt⟩
          obtain ⟨⟨a1, c1, k1⟩, gx⟩ : ∃ x, xs[k]? = some x := ⟨xs[k]'(by rw [HN.out]; exact hlt), List.getElem?_eq_getElem _⟩
          have HQ1 := kide ((hc1 k _ gd).later B1.out)
          have HP1 := kide ((hc2 k _ gx).later B1.out)
          obtain ⟨hy1, hy2⟩ := HDW.out _ (List.mem_of_getElem? gd)
          simp only [] at hy1 hy2
          rw [cutL_step gd (by rw [List.getElem?_map, gx]; rfl)] at hz
          simp only [] at hz
          have i0 : (k : Int) < (ds.length : Int) := by omega
          have HRZ := kide hz
          have hkl := HP1.out.2.1
          simp only [] at hkl
          clear hc1 hc2 hsz gx gd hz
          generalize hg : cutL (ds.drop (k + 1)) ((xs.map Iw.ks).drop (k + 1)) = Z2 at *
          have HG := kide hg
          have K0 := kide k0
          have d0 := kcell hbel w.heap.size 0 L1
          rw [k0] at d0
          clear hg hbel k0
          go_wp2_with fail
          clear d0
          go_loopw [6] (fun i wr => ∃ (j : Nat) (last : Int), j ≤ k1.length ∧ i = .int .i64 (j : Int) ∧ 0 ≤ last ∧ (j = 0 → last = 0) ∧ (0 < j → last = k1.getD (j - 1) 0) ∧ (risR y last (k1.drop j) && Z2) = Z ∧ Below w1.heap.size w1 wr) (fun i _ => k1.length - (intOf i).toNat)
          case atStart => exact ⟨0, 0, Nat.zero_le _, rfl, Int.le_refl _, fun _ => rfl, fun h => by omega, by simpa using HRZ.out, HBK.out⟩
          case round =>
            obtain ⟨j, last, hj, rfl, hl0, hj0, hjs, hz, hbel⟩ := hrel
            have HB := kide hbel
            obtain ⟨-, q1⟩ := HQ1.out.later hbel
            obtain ⟨p1, p2⟩ := HP1.out.later hbel
            have d0 := kcell hbel w.heap.size 0 L1
            rw [K0.out] at d0
            simp only [] at q1 p1 p2
            by_cases hjl : j < k1.length
            · obtain ⟨-, hi64, h | ⟨b3, o3, rfl, hc3⟩⟩ := p2
              · subst h; simp at hjl
              have e3 := hc3 j hjl
              rw [risR_step hjl] at hz
              have hprev : 0 < j → _ := fun h => hc3 (j - 1) (by omega)
              generalize hx : k1.getD j 0 = x at *
              have HX := kide hx
              have j0 : (j : Int) < (k1.length : Int) := by omega
              have HZJ := kide hz
              have HIN := kide (fun u => l1In_any x 1 (y - 1) u)
              have HD : decide (1 ≤ x ∧ x ≤ y - 1) = true ∨ decide (1 ≤ x ∧ x ≤ y - 1) = false := by cases decide (1 ≤ x ∧ x ≤ y - 1) <;> simp
              clear hc3 hi64 hz hx hbel
              rcases HD with hd | hd
              · rw [hd] at HIN
                have hin := of_decide_eq_true hd
                obtain ⟨hx1, hx2⟩ := hin
                clear hd
                cases j with
                | zero =>
                  have hl := hj0 rfl
                  subst hl
                  have HNX : Hid ((risR y x (k1.drop 1) && Z2) = Z) := by
                    show _ = _
                    have h := HZJ.out
                    simpa [show (0 : Int) < x by omega, show x < y by omega] using h
                  clear hprev hj0 hjs
                  rw [Nat.add_zero] at e3
                  go_wp2_with fail
                  go_quiet ((go_at_call 39; exact Calls.quiet_of_same (HIN.out _)))
                  go_wp2_with fail
                  go_roundw
                  case rel => exact ⟨1, x, by omega, by go_num, by omega, fun h => by omega, fun _ => by simpa using HX.out.symm, HNX.out, below_drewN HB.out _⟩
                  case measure => simp [intOf]; omega
                | succ j =>
                  have hl := hjs (by omega)
                  have e4 := hprev (by omega)
                  simp only [Nat.add_sub_cancel] at hl e4
                  rw [← hl] at e4
                  have j1 : (j : Int) < (k1.length : Int) := by omega
                  clear hprev hj0 hjs hl
                  by_cases hlx : last < x
                  · have HNX : Hid ((risR y x (k1.drop (j + 1 + 1)) && Z2) = Z) := by
                      show _ = _
                      have h := HZJ.out
                      simpa [hlx, show x < y by omega] using h
                    go_wp2_with fail
                    go_quiet ((go_at_call 39; exact Calls.quiet_of_same (HIN.out _)))
                    go_wp2_with fail
                    go_roundw
                    case rel => exact ⟨j + 1 + 1, x, by omega, by go_num, by omega, fun h => by omega, fun _ => by simpa using HX.out.symm, HNX.out, below_drewN HB.out _⟩
                    case measure => simp [intOf]; omega
                  · have HF : Hid (Z = false) := by have h := HZJ.out; simp [hlx] at h; exact h
                    go_wp2_with fail
                    go_quiet ((go_at_call 39; exact Calls.quiet_of_same (HIN.out _)))
                    go_wp2_with fail
                    go_ret
                    exact ⟨ret_bool HF.out.symm, B1.out.trans ((below_drewN HB.out _).mono B1.out.size)⟩
              · rw [hd] at HIN
                have hin := of_decide_eq_false hd
                have HF : Hid (Z = false) := by
                  have h := HZJ.out
                  by_cases h1 : last < x
                  · have h2 : ¬ x < y := by omega
                    simp [h2] at h; exact h
                  · simp [h1] at h; exact h
                clear hd hprev hj0 hjs hin
                go_wp2_with fail
                go_quiet ((go_at_call 39; exact Calls.quiet_of_same (HIN.out _)))
                go_wp2_with fail
                go_ret
                exact ⟨ret_bool HF.out.symm, B1.out.trans ((below_drewN HB.out _).mono B1.out.size)⟩
            · have e : j = k1.length := by omega
              rw [e, List.drop_length, risR, Bool.true_and] at hz
              have HZJ := kide hz
              clear hz e hj0 hjs hbel p2
              go_wp2_with fail
              go_roundw
              case rel => exact ⟨k + 1, by omega, by go_num, HG.out.trans HZJ.out, HB.out⟩
              case measure => simp [intOf]; omega
        · have e : k = ds.length := by omega
          have HZT : Hid (Z = true) := by
            show _ = _
            rw [← hz, e, List.drop_length, List.drop_eq_nil_of_le (by rw [List.length_map, HN.out]; omega)]
            rfl
          have d0 := kcell hbel w.heap.size 0 L1
          rw [k0] at d0
          clear hz e hbel
          go_wp2_with fail
          go_ret
          exact ⟨ret_bool HZT.out.symm, B1.out.trans (HBK.out.mono B1.out.size)⟩
    · have HR : cutR ds (xs.map Iw.ks) = false := by simp [cutR, hn, hnd]
      rw [HR]
      have hne : ((n : Int) != (ds.length : Int)) = true := by simp; omega
      rw [hn] at hl2
      clear HR hD hn hnd hb0
      go_enter Try.func24, Try.ntmps24
      go_wp2_with fail
      refine Calls.mono HDC.out ?_
      rintro e w1 ⟨rfl, hb1⟩
      have k0 := kcell hb1 w.heap.size 0 l0
      rw [c0] at k0
      have B1 := kide (B0.out.trans (hb1.mono B0.out.size))
      clear hb1
      go_wp2_with fail
      go_ret
      exact ⟨rfl, B1.out⟩

end Go.Proofs.Ytnfagdfaphihhaa
