/- What the functions on names answer: both say the same of each text. -/
import Derived.Test.YteenmffhbgpahaaDoorKA
namespace Go.Proofs.YteenmffhbgpahaaDoor
set_option linter.unusedVariables false
set_option linter.unusedSimpArgs false
open Go.RowKit

theorem letB_cases (c : Nat) : (c < 97 ∧ letB c = false) ∨ (97 ≤ c ∧ 122 < c ∧ letB c = false) ∨ (97 ≤ c ∧ c ≤ 122 ∧ letB c = true) := by
  unfold letB
  by_cases h1 : 97 ≤ c
  · by_cases h2 : c ≤ 122
    · exact .inr (.inr ⟨h1, h2, by simp [h1, h2]⟩)
    · exact .inr (.inl ⟨h1, by omega, by simp [h2]⟩)
  · exact .inl ⟨by omega, by simp [h1]⟩
theorem digB_cases (c : Nat) : (c < 48 ∧ digB c = false) ∨ (48 ≤ c ∧ 57 < c ∧ digB c = false) ∨ (48 ≤ c ∧ c ≤ 57 ∧ digB c = true) := by
  unfold digB
  by_cases h1 : 48 ≤ c
  · by_cases h2 : c ≤ 57
    · exact .inr (.inr ⟨h1, h2, by simp [h1, h2]⟩)
    · exact .inr (.inl ⟨h1, by omega, by simp [h2]⟩)
  · exact .inl ⟨by omega, by simp [h1]⟩

theorem letterByte_any (c : Nat) (hc : c < 256) (w : World) :
    Calls Tryd.prog 71 #[.int .u8 (c : Int)] w fun e w' => e = .returned (.bool (letB c)) ∧ w' = w := by
  rcases letB_cases c with ⟨h1, h⟩ | ⟨h0, h1, h⟩ | ⟨h0, h1, h⟩
  all_goals
    rw [h]
    clear h
    go_enter Tryd.func71, Tryd.ntmps71
    go_wp2
    go_ret
    first | exact ⟨rfl, rfl⟩ | exact ⟨ret_bool (by simp; omega), rfl⟩

theorem digitByte_any (c : Nat) (hc : c < 256) (w : World) :
    Calls Tryd.prog 72 #[.int .u8 (c : Int)] w fun e w' => e = .returned (.bool (digB c)) ∧ w' = w := by
  rcases digB_cases c with ⟨h1, h⟩ | ⟨h0, h1, h⟩ | ⟨h0, h1, h⟩
  all_goals
    rw [h]
    clear h
    go_enter Tryd.func72, Tryd.ntmps72
    go_wp2
    go_ret
    first | exact ⟨rfl, rfl⟩ | exact ⟨ret_bool (by simp; omega), rfl⟩

theorem l1Digit_any (c : Nat) (hc : c < 256) (w : World) :
    Calls Tryd.prog 79 #[.int .u8 (c : Int)] w fun e w' => e = .returned (.bool (digB c)) ∧ w' = w := by
  rcases digB_cases c with ⟨h1, h⟩ | ⟨h0, h1, h⟩ | ⟨h0, h1, h⟩
  all_goals
    rw [h]
    clear h
    go_enter Tryd.func79, Tryd.ntmps79
    go_wp2
    go_ret
    first | exact ⟨rfl, rfl⟩ | exact ⟨ret_bool (by simp; omega), rfl⟩

/-- A text that is too short or too long is no name. -/
theorem nmOk_size {s : ByteArray} (h : s.size < 1 ∨ 12 < s.size) : nmOk s = false := by
  unfold nmOk
  rcases h with h | h
  · rw [show decide (1 ≤ s.size) = false from decide_eq_false (by omega)]; rfl
  · rw [show decide (s.size ≤ 12) = false from decide_eq_false (by omega)]; simp
theorem nmOk_first {s : ByteArray} (h : letB (bn s 0) = false) : nmOk s = false := by simp [nmOk, h]
theorem nmOk_bad {s : ByteArray} {i : Nat} (hi : i < s.size) (h : nmB (bn s i) = false) : nmOk s = false := by
  have : allNm s = false := by
    rw [Bool.eq_false_iff]; intro h'
    have := (allNm_iff s).1 h' i hi
    rw [h] at this; cases this
  simp [nmOk, this]
theorem nmOk_all {s : ByteArray} (h1 : 1 ≤ s.size) (h2 : s.size ≤ 12) (h3 : letB (bn s 0) = true) (h : ∀ i, i < s.size → nmB (bn s i) = true) : nmOk s = true := by
  have := (allNm_iff s).2 h
  simp [nmOk, this, h1, h2, h3]

theorem nameOk_any (s : ByteArray) (hs : s.size ≤ 9223372036854775807) (w : World) :
    Calls Tryd.prog 52 #[.string s] w fun e w' => e = .returned (.bool (nmOk s)) ∧ w' = w := by
  have HB : Hid _ := get_bn s
  by_cases h1 : s.size < 1
  · rw [nmOk_size (.inl h1)]
    go_enter Tryd.func52, Tryd.ntmps52
    go_wp2_with fail
    go_ret
    exact ⟨rfl, rfl⟩
  by_cases h2 : 12 < s.size
  · rw [nmOk_size (.inr h2)]
    go_enter Tryd.func52, Tryd.ntmps52
    go_wp2_with fail
    go_ret
    exact ⟨rfl, rfl⟩
  have h0 : 0 < s.size := by omega
  have e1 := HB.out 0 h0
  have hL : ∀ u, Calls Tryd.prog 71 #[.int .u8 ((s[0]'h0).toNat : Int)] u fun e w' => e = .returned (.bool (letB (bn s 0))) ∧ w' = u := fun u => by
    have := letterByte_any (bn s 0) (bn_lt s 0) u
    rwa [← e1] at this ⊢
  have HL := kide hL
  clear hL e1
  by_cases h3 : letB (bn s 0) = true
  · rw [h3] at HL
    have HO := kide (fun h => nmOk_all (s := s) (by omega) (by omega) h3 h)
    have HN := kide (fun i hi h => nmOk_bad (s := s) (i := i) hi h)
    generalize nmOk s = R at *
    clear h3
    go_enter Tryd.func52, Tryd.ntmps52
    go_wp2_with (go_at_call 71; refine Calls.mono (HL.out _) ?_; rintro e w ⟨rfl, rfl⟩)
    clear HL
    go_loop [20] (fun q => ∃ k : Nat, k ≤ s.size ∧ q = .int .i64 (k : Int) ∧ ∀ i, i < k → nmB (bn s i) = true) (fun q => s.size - (intOf q).toNat)
    case atStart => exact ⟨0, Nat.zero_le _, rfl, fun i h => by omega⟩
    case round =>
      obtain ⟨k, hk2, rfl, hr⟩ := hrel
      have HK : Hid _ := hr
      clear hr
      by_cases hlt : k < s.size
      · have e1 := HB.out k hlt
        have hA : ∀ u, Calls Tryd.prog 71 #[.int .u8 ((s[k]'hlt).toNat : Int)] u fun e w' => e = .returned (.bool (letB (bn s k))) ∧ w' = u := fun u => by
          have := letterByte_any (bn s k) (bn_lt s k) u
          rwa [← e1] at this ⊢
        have hD : ∀ u, Calls Tryd.prog 72 #[.int .u8 ((s[k]'hlt).toNat : Int)] u fun e w' => e = .returned (.bool (digB (bn s k))) ∧ w' = u := fun u => by
          have := digitByte_any (bn s k) (bn_lt s k) u
          rwa [← e1] at this ⊢
        have HA := kide hA
        have HD := kide hD
        have H1 : Hid (letB (bn s k) = true → nmB (bn s k) = true) := fun h => by simp [nmB, h]
        have H2 : Hid (digB (bn s k) = true → nmB (bn s k) = true) := fun h => by simp [nmB, h]
        have H3 : Hid (letB (bn s k) = false → digB (bn s k) = false → R = false) := fun h h' => HN.out k hlt (by simp [nmB, h, h'])
        clear hA hD e1
        generalize letB (bn s k) = r at *
        generalize digB (bn s k) = r2 at *
        have hki : (k : Int) < (s.size : Int) := by omega
        cases r with
        | true =>
          go_wp2_with (go_at_call 71; refine Calls.mono (HA.out _) ?_; rintro e w ⟨rfl, rfl⟩)
          go_round
          case rel =>
            refine ⟨k + 1, by omega, by go_num, fun i hi => ?_⟩
            by_cases hik : i = k
            · rw [hik]; exact H1.out (by simp)
            · exact HK.out i (by omega)
          case measure => simp [intOf]; omega
        | false =>
          cases r2 with
          | true =>
            go_wp2_with (first | (go_at_call 71; refine Calls.mono (HA.out _) ?_; rintro e w ⟨rfl, rfl⟩) | (go_at_call 72; refine Calls.mono (HD.out _) ?_; rintro e w ⟨rfl, rfl⟩))
            go_round
            case rel =>
              refine ⟨k + 1, by omega, by go_num, fun i hi => ?_⟩
              by_cases hik : i = k
              · rw [hik]; exact H2.out (by simp)
              · exact HK.out i (by omega)
            case measure => simp [intOf]; omega
          | false =>
            go_wp2_with (first | (go_at_call 71; refine Calls.mono (HA.out _) ?_; rintro e w ⟨rfl, rfl⟩) | (go_at_call 72; refine Calls.mono (HD.out _) ?_; rintro e w ⟨rfl, rfl⟩))
            go_ret
            exact ⟨ret_bool (H3.out (by simp) (by simp)).symm, rfl⟩
      · go_wp2_with fail
        go_ret
        exact ⟨ret_bool (HO.out fun i hi => HK.out i (by omega)).symm, rfl⟩
  · rw [Bool.not_eq_true] at h3
    rw [h3] at HL
    rw [nmOk_first h3]
    clear h3
    go_enter Tryd.func52, Tryd.ntmps52
    go_wp2_with (go_at_call 71; refine Calls.mono (HL.out _) ?_; rintro e w1 ⟨rfl, rfl⟩)
    go_ret
    exact ⟨rfl, rfl⟩

theorem l1Name_any (s : ByteArray) (hs : s.size ≤ 9223372036854775807) (w : World) :
    Calls Tryd.prog 66 #[.string s] w fun e w' => e = .returned (.bool (nmOk s)) ∧ w' = w := by
  have HB : Hid _ := get_bn s
  by_cases h1 : s.size < 1
  · rw [nmOk_size (.inl h1)]
    go_enter Tryd.func66, Tryd.ntmps66
    go_wp2_with fail
    go_ret
    exact ⟨rfl, rfl⟩
  by_cases h2 : 12 < s.size
  · rw [nmOk_size (.inr h2)]
    go_enter Tryd.func66, Tryd.ntmps66
    go_wp2_with fail
    go_ret
    exact ⟨rfl, rfl⟩
  have h0 : 0 < s.size := by omega
  have e1 := HB.out 0 h0
  have hL : ∀ u, Calls Tryd.prog 79 #[.int .u8 ((s[0]'h0).toNat : Int)] u fun e w' => e = .returned (.bool (digB (bn s 0))) ∧ w' = u := fun u => by
    have := l1Digit_any (bn s 0) (bn_lt s 0) u
    rwa [← e1] at this ⊢
  have HL := kide hL
  clear hL e1
  by_cases h3 : digB (bn s 0) = true
  · rw [h3] at HL
    have h4 : letB (bn s 0) = false := by
      simp [digB] at h3
      simp [letB]; omega
    rw [nmOk_first h4]
    clear h3 h4
    go_enter Tryd.func66, Tryd.ntmps66
    go_wp2_with (go_at_call 79; refine Calls.mono (HL.out _) ?_; rintro e w1 ⟨rfl, rfl⟩)
    go_ret
    exact ⟨rfl, rfl⟩
  · rw [Bool.not_eq_true] at h3
    rw [h3] at HL
    have HO : Hid ((∀ i, i < s.size → nmB (bn s i) = true) → nmOk s = true) := fun h => nmOk_all (s := s) (by omega) (by omega) (by have := h 0 h0; simpa [nmB, h3] using this) h
    have HN := kide (fun i hi h => nmOk_bad (s := s) (i := i) hi h)
    generalize nmOk s = R at *
    clear h3
    go_enter Tryd.func66, Tryd.ntmps66
    go_wp2_with (go_at_call 79; refine Calls.mono (HL.out _) ?_; rintro e w ⟨rfl, rfl⟩)
    clear HL
    go_loop [3] (fun q => ∃ k : Nat, k ≤ s.size ∧ q = .int .i64 (k : Int) ∧ ∀ i, i < k → nmB (bn s i) = true) (fun q => s.size - (intOf q).toNat)
    case atStart => exact ⟨0, Nat.zero_le _, rfl, fun i h => by omega⟩
    case round =>
      obtain ⟨k, hk2, rfl, hr⟩ := hrel
      have HK : Hid _ := hr
      clear hr
      by_cases hlt : k < s.size
      · have e1 := HB.out k hlt
        have hD : ∀ u, Calls Tryd.prog 79 #[.int .u8 ((s[k]'hlt).toNat : Int)] u fun e w' => e = .returned (.bool (digB (bn s k))) ∧ w' = u := fun u => by
          have := l1Digit_any (bn s k) (bn_lt s k) u
          rwa [← e1] at this ⊢
        have HD := kide hD
        have hci := letB_cases (bn s k)
        rw [← e1] at hci
        have H1 : Hid (letB (bn s k) = true → nmB (bn s k) = true) := fun h => by simp [nmB, h]
        have H2 : Hid (digB (bn s k) = true → nmB (bn s k) = true) := fun h => by simp [nmB, h]
        have H3 : Hid (letB (bn s k) = false → digB (bn s k) = false → R = false) := fun h h' => HN.out k hlt (by simp [nmB, h, h'])
        have E1 := kide e1
        clear hD e1
        generalize digB (bn s k) = r2 at *
        have hki : (k : Int) < (s.size : Int) := by omega
        cases r2 with
        | true =>
          go_wp2_with (go_at_call 79; refine Calls.mono (HD.out _) ?_; rintro e w ⟨rfl, rfl⟩)
          go_round
          case rel =>
            refine ⟨k + 1, by omega, by go_num, fun i hi => ?_⟩
            by_cases hik : i = k
            · rw [hik]; exact H2.out (by simp)
            · exact HK.out i (by omega)
          case measure => simp [intOf]; omega
        | false =>
          rcases hci with ⟨h1, h⟩ | ⟨h0, h1, h⟩ | ⟨h0, h1, h⟩
          · have H := kide (H3.out (by rw [← E1.out]; exact h) (by simp))
            clear h H1 H3
            go_wp2_with (go_at_call 79; refine Calls.mono (HD.out _) ?_; rintro e w ⟨rfl, rfl⟩)
            go_ret
            exact ⟨ret_bool H.out.symm, rfl⟩
          · have H := kide (H3.out (by rw [← E1.out]; exact h) (by simp))
            clear h H1 H3
            go_wp2_with (go_at_call 79; refine Calls.mono (HD.out _) ?_; rintro e w ⟨rfl, rfl⟩)
            go_ret
            exact ⟨ret_bool H.out.symm, rfl⟩
          · have H := kide (H1.out (by rw [← E1.out]; exact h))
            clear h H1 H3
            go_wp2_with (go_at_call 79; refine Calls.mono (HD.out _) ?_; rintro e w ⟨rfl, rfl⟩)
            go_round
            case rel =>
              refine ⟨k + 1, by omega, by go_num, fun i hi => ?_⟩
              by_cases hik : i = k
              · rw [hik]; exact H.out
              · exact HK.out i (by omega)
            case measure => simp [intOf]; omega
      · go_wp2_with fail
        go_ret
        exact ⟨ret_bool (HO.out fun i hi => HK.out i (by omega)).symm, rfl⟩

end Go.Proofs.YteenmffhbgpahaaDoor
