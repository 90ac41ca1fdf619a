/- Contracts of the functions that look at atoms. -/
import Derived.Test.YteainbakfeedpaaTC
namespace Go.Proofs.Yteainbakfeedpaa
set_option linter.unusedVariables false
set_option linter.unusedSimpArgs false
open Go.RowKit

theorem atomB_cases (c : Nat) : (c ≤ 32 ∧ atomB c = false) ∨ (33 ≤ c ∧ 127 ≤ c ∧ atomB c = false) ∨ (c = 40 ∧ atomB c = false) ∨ (c = 41 ∧ atomB c = false) ∨ (c = 59 ∧ atomB c = false) ∨ (33 ≤ c ∧ c ≤ 126 ∧ c ≠ 40 ∧ c ≠ 41 ∧ c ≠ 59 ∧ atomB c = true) := by
  unfold atomB
  by_cases h1 : c ≤ 32
  · exact .inl ⟨h1, by simp; omega⟩
  by_cases h2 : 127 ≤ c
  · exact .inr (.inl ⟨by omega, h2, by simp; omega⟩)
  by_cases h3 : c = 40
  · subst h3; exact .inr (.inr (.inl ⟨rfl, rfl⟩))
  by_cases h4 : c = 41
  · subst h4; exact .inr (.inr (.inr (.inl ⟨rfl, rfl⟩)))
  by_cases h5 : c = 59
  · subst h5; exact .inr (.inr (.inr (.inr (.inl ⟨rfl, rfl⟩))))
  exact .inr (.inr (.inr (.inr (.inr ⟨by omega, by omega, h3, h4, h5, by simp; omega⟩))))

theorem atomByte_any (c : Nat) (hc : c < 256) (w : World) :
    Calls Try.prog 57 #[.int .u8 (c : Int)] w fun e w' => e = .returned (.bool (atomB c)) ∧ w' = w := by
  rcases atomB_cases c with ⟨h1, h⟩ | ⟨h0, h1, h⟩ | ⟨h1, h⟩ | ⟨h1, h⟩ | ⟨h1, h⟩ | ⟨h1, h2, h3, h4, h5, h⟩
  · rw [h]
    clear h
    go_enter Try.func57, Try.ntmps57
    go_wp2
    go_ret
    exact ⟨rfl, rfl⟩
  · rw [h]
    clear h
    go_enter Try.func57, Try.ntmps57
    go_wp2
    go_ret
    exact ⟨rfl, rfl⟩
  · rw [h]
    subst h1
    clear h
    go_enter Try.func57, Try.ntmps57
    go_wp2
    go_ret
    exact ⟨rfl, rfl⟩
  · rw [h]
    subst h1
    clear h
    go_enter Try.func57, Try.ntmps57
    go_wp2
    go_ret
    exact ⟨rfl, rfl⟩
  · rw [h]
    subst h1
    clear h
    go_enter Try.func57, Try.ntmps57
    go_wp2
    go_ret
    exact ⟨rfl, rfl⟩
  · rw [h]
    have e3 : ((c : Int) != 40) = true := by simp; omega
    have e4 : ((c : Int) != 41) = true := by simp; omega
    have e5 : ((c : Int) != 59) = true := by simp; omega
    clear h
    go_enter Try.func57, Try.ntmps57
    go_wp2
    go_ret
    exact ⟨rfl, rfl⟩

/-- Where an atom ends, looked at from p on. -/
def aEnd (s : ByteArray) : Nat → Nat → Nat
  | 0, p => p
  | f + 1, p => if atomB (bn s p) = true then aEnd s f (p + 1) else p

theorem aEnd_le (s : ByteArray) (f p : Nat) : p ≤ aEnd s f p ∧ aEnd s f p ≤ p + f := by
  induction f generalizing p with
  | zero => simp [aEnd]
  | succ f ih =>
    rw [aEnd]
    split
    · have := ih (p + 1); omega
    · omega

theorem aEnd_all (s : ByteArray) (f p : Nat) : aEnd s f p = p + f ↔ ∀ i, p ≤ i → i < p + f → atomB (bn s i) = true := by
  induction f generalizing p with
  | zero => simp [aEnd]; omega
  | succ f ih =>
    rw [aEnd]
    split
    · rename_i h
      have e : p + (f + 1) = (p + 1) + f := by omega
      rw [e, ih (p + 1)]
      constructor
      · intro h' i h1 h2
        by_cases hi : i = p
        · rw [hi]; exact h
        · exact h' i (by omega) h2
      · intro h' i h1 h2
        exact h' i (by omega) h2
    · rename_i h
      constructor
      · intro h'; omega
      · intro h'; exact absurd (h' p (by omega) (by omega)) h

theorem aEnd_allAtom (s : ByteArray) : decide (aEnd s s.size 0 = s.size) = allAtom s := by
  rw [Bool.eq_iff_iff, decide_eq_true_eq, allAtom_iff]
  have := aEnd_all s s.size 0
  rw [Nat.zero_add] at this
  rw [this]
  exact ⟨fun h i hi => h i (by omega) hi, fun h i _ hi => h i hi⟩

theorem atomEnd_any (s : ByteArray) (p : Nat) (hp : p ≤ s.size) (hs : s.size ≤ 9223372036854775807) (w : World) :
    Calls Try.prog 64 #[.string s, .int .i64 (p : Int)] w fun e w' => e = .returned (.int .i64 ((aEnd s (s.size - p) p : Nat) : Int)) ∧ w' = w := by
  have HB : Hid _ := get_bn s
  generalize hR : aEnd s (s.size - p) p = R
  have HR : Hid (aEnd s (s.size - p) p = R) := hR
  clear hR
  go_enter Try.func64, Try.ntmps64
  go_wp2_with fail
  go_loop [1] (fun q => ∃ k : Nat, p ≤ k ∧ k ≤ s.size ∧ q = .int .i64 (k : Int) ∧ aEnd s (s.size - k) k = R) (fun q => s.size - (intOf q).toNat)
  case atStart => exact ⟨p, Nat.le_refl _, hp, rfl, HR.out⟩
  case round =>
    obtain ⟨k, hk1, hk2, rfl, hr⟩ := hrel
    have HK : Hid _ := hr
    clear hr
    by_cases hlt : k < s.size
    · have hb := bn_lt s k
      have e1 := HB.out k hlt
      have h8 : (s[k]'hlt).toNat < 256 := by omega
      have HA : ∀ u, Calls Try.prog 57 #[.int .u8 ((s[k]'hlt).toNat : Int)] u fun e w' => e = .returned (.bool (atomB (bn s k))) ∧ w' = u := fun u => by
        have := atomByte_any (bn s k) hb u
        rwa [← e1] at this ⊢
      have HA' : Hid _ := HA
      have HST : Hid (aEnd s (s.size - k) k = if atomB (bn s k) = true then aEnd s (s.size - (k + 1)) (k + 1) else k) := by
        show _ = _
        rw [show s.size - k = (s.size - (k + 1)) + 1 by omega, aEnd]
      clear HA e1 h8
      generalize atomB (bn s k) = r at *
      cases r with
      | true =>
        go_wp2_with (go_at_call 57; refine Calls.mono (HA'.out _) ?_; rintro e w1 ⟨rfl, rfl⟩)
        go_round
        case rel => exact ⟨k + 1, by omega, by omega, by go_num, by have h := HK.out; rw [HST.out] at h; simpa using h⟩
        case measure => simp [intOf]; omega
      | false =>
        go_wp2_with (go_at_call 57; refine Calls.mono (HA'.out _) ?_; rintro e w1 ⟨rfl, rfl⟩)
        go_ret
        exact ⟨ret_int (by have h := HK.out; rw [HST.out] at h; simp at h; rw [h]), rfl⟩
    · go_wp2_with fail
      go_ret
      refine ⟨ret_int ?_, rfl⟩
      have h := HK.out
      rw [show s.size - k = 0 by omega, aEnd] at h
      rw [h]

theorem l2Atom_any (s : ByteArray) (hs : s.size ≤ 9223372036854775807) (w : World) :
    Calls Try.prog 62 #[.string s] w fun e w' => e = .returned (.bool (allAtom s && decide (0 < s.size))) ∧ w' = w := by
  have HB : Hid _ := get_bn s
  have HI : Hid _ := allAtom_iff s
  generalize hR : allAtom s = R at *
  clear hR
  go_enter Try.func62, Try.ntmps62
  go_wp2_with fail
  go_loop [3] (fun q => ∃ k : Nat, k ≤ s.size ∧ q = .int .i64 (k : Int) ∧ ∀ i, i < k → atomB (bn s i) = true) (fun q => s.size - (intOf q).toNat)
  case atStart => exact ⟨0, Nat.zero_le _, rfl, fun i h => by omega⟩
  case round =>
    obtain ⟨k, hk2, rfl, hr⟩ := hrel
    have HK : Hid _ := hr
    clear hr
    by_cases hlt : k < s.size
    · have e1 := HB.out k hlt
      have HN : Hid (atomB (bn s k) = false → (R && decide (0 < s.size)) = false) := by
        intro h
        cases hR : R with
        | false => rfl
        | true => have := HI.out.1 hR k hlt; rw [h] at this; cases this
      have hci := atomB_cases (bn s k)
      rw [← e1] at hci
      rcases hci with ⟨h1, h⟩ | ⟨h0, h1, h⟩ | ⟨h1, h⟩ | ⟨h1, h⟩ | ⟨h1, h⟩ | ⟨h1, h2, h3, h4, h5, h⟩
      · have H : Hid _ := HN.out (by rw [← e1]; exact h)
        clear h e1
        go_wp2_with fail
        go_ret
        exact ⟨ret_bool H.out.symm, rfl⟩
      · have H : Hid _ := HN.out (by rw [← e1]; exact h)
        clear h e1
        go_wp2_with fail
        go_ret
        exact ⟨ret_bool H.out.symm, rfl⟩
      · have H : Hid _ := HN.out (by rw [← e1]; exact h)
        clear h e1
        go_wp2_with fail
        go_ret
        exact ⟨ret_bool H.out.symm, rfl⟩
      · have H : Hid _ := HN.out (by rw [← e1]; exact h)
        clear h e1
        go_wp2_with fail
        go_ret
        exact ⟨ret_bool H.out.symm, rfl⟩
      · have H : Hid _ := HN.out (by rw [← e1]; exact h)
        clear h e1
        go_wp2_with fail
        go_ret
        exact ⟨ret_bool H.out.symm, rfl⟩
      · have H : Hid (atomB (bn s k) = true) := by rw [e1] at h; exact h
        have f3 : (((s[k]'hlt).toNat : Int) == 40) = false := by simp; omega
        have f4 : (((s[k]'hlt).toNat : Int) == 41) = false := by simp; omega
        have f5 : (((s[k]'hlt).toNat : Int) == 59) = false := by simp; omega
        clear h e1 h3 h4 h5 HN
        go_wp2_with fail
        go_round
        case rel =>
          refine ⟨k + 1, by omega, by go_num, fun i hi => ?_⟩
          by_cases hik : i = k
          · rw [hik]; exact H.out
          · exact HK.out i (by omega)
        case measure => simp [intOf]; omega
    · go_wp2_with fail
      go_ret
      refine ⟨ret_bool ?_, rfl⟩
      have hRt : R = true := HI.out.2 fun i hi => HK.out i (by omega)
      rw [hRt, Bool.true_and]

theorem nodeOk_any (s : ByteArray) (a : Option Addr) (c : Nat) (ks : List Int) (hs : s.size ≤ 9223372036854775807) (hk : ks.length ≤ 1048576) (w : World) :
    Calls Try.prog 40 #[.agg #[.string s, .slice a ks.length c]] w fun e w' => e = .returned (.bool (okC (s, ks))) ∧ Below w.heap.size w w' := by
  have hb0 : Below w.heap.size w (w.alloc (Obj.cells #[Value.string s, Value.slice a ks.length c] 59)) := (Below.refl _ _).alloc (Nat.le_refl _) _
  have HA : ∀ u, Calls Try.prog 64 #[.string s, .int .i64 0] u fun e w' => e = .returned (.int .i64 ((aEnd s s.size 0 : Nat) : Int)) ∧ w' = u := fun u => atomEnd_any s 0 (Nat.zero_le _) hs u
  have HL := show Hid _ from aEnd_allAtom s
  have hle := (aEnd_le s s.size 0).2
  generalize aEnd s s.size 0 = R at *
  have HA' : Hid _ := HA
  clear HA
  by_cases hz : s.size = 0
  · have hR : okC (s, ks) = true := by simp [okC, hz]
    rw [hR]
    have hse : s = ⟨#[]⟩ := ByteArray.ext (Array.eq_empty_of_size_eq_zero hz)
    subst hse
    have hR0 : R = 0 := by
      change R ≤ 0 + 0 at hle; omega
    subst hR0
    clear hR HL hle hz
    go_enter Try.func40, Try.ntmps40
    go_wp2_with fail
    go_quiet ((go_at_call 64; exact Calls.quiet_of_same (HA'.out _)))
    go_wp2_with fail
    go_ret
    exact ⟨rfl, below_drewN hb0 _⟩
  · have hne : (s.toList == (⟨#[]⟩ : ByteArray).toList) = false := str_ne (fun h => hz (by rw [h]; rfl))
    have hne2 : s.toList.isEmpty = false := by
      rw [ByteArray.toList_eq]
      cases hd : s.data.toList with
      | nil => exact absurd (by have := congrArg List.length hd; simpa using this) hz
      | cons x y => rfl
    by_cases hke : ks = []
    · subst hke
      have hR : okC (s, []) = decide (R = s.size) := by rw [HL.out]; simp [okC, hz]
      rw [hR]
      clear hR HL
      go_enter Try.func40, Try.ntmps40
      go_wp2_with fail
      go_quiet ((go_at_call 64; exact Calls.quiet_of_same (HA'.out _)))
      go_wp2_with fail
      go_ret
      exact ⟨ret_bool (by rw [Bool.eq_iff_iff]; simp; omega), below_drewN hb0 _⟩
    · have hR : okC (s, ks) = false := by simp [okC, hz, hke]
      rw [hR]
      have hkp : 0 < ks.length := List.length_pos_iff.2 hke
      have hkp' : (0 : Int) < (ks.length : Int) := by omega
      clear hR HL hke
      go_enter Try.func40, Try.ntmps40
      go_wp2_with fail
      go_ret
      exact ⟨rfl, hb0⟩

end Go.Proofs.Yteainbakfeedpaa
