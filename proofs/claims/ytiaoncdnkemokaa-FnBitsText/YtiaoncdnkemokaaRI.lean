/- What the program's ReadBits answers. -/
import Derived.Test.YtiaoncdnkemokaaRM
namespace Go.Proofs.Ytiaoncdnkemokaa
set_option linter.unusedVariables false
set_option linter.unusedSimpArgs false
open Go.RowKit

theorem bn_data (s : ByteArray) (k : Nat) : bn s k = ((s.data.toList)[k]?.map UInt8.toNat).getD 0 := by
  unfold bn
  split
  · rename_i h
    have h' : k < s.data.toList.length := by simpa using h
    rw [List.getElem?_eq_getElem h']
    simp
    rfl
  · rename_i h
    have h' : s.data.toList.length ≤ k := by have : s.data.toList.length = s.size := by simp
                                             omega
    rw [List.getElem?_eq_none h']; rfl

theorem pre_two (s : ByteArray) (c : UInt8) : Lib.hasPrefix s.data.toList [35, c] = decide (2 ≤ s.size ∧ bn s 0 = 35 ∧ bn s 1 = c.toNat) := by
  have hl : s.data.toList.length = s.size := by simp
  rw [bn_data, bn_data, ← hl]
  unfold Lib.hasPrefix
  match s.data.toList with
  | [] => simp [List.isPrefixOf]
  | [a] => simp [List.isPrefixOf]
  | a :: b :: l =>
    simp only [List.isPrefixOf, Bool.and_true, List.length_cons, List.getElem?_cons_zero, List.getElem?_cons_succ, Option.map_some, Option.getD_some]
    have e1 : (35 == a) = decide (a.toNat = 35) := by
      by_cases h : a = 35
      · subst h; rfl
      · have h' : ¬ a.toNat = 35 := fun e => h (UInt8.toNat_inj.1 e)
        simp [h', Ne.symm h]
    have e2 : (c == b) = decide (b.toNat = c.toNat) := by
      by_cases h : b = c
      · subst h; simp
      · have h' : ¬ b.toNat = c.toNat := fun e => h (UInt8.toNat_inj.1 e)
        simp [h', Ne.symm h]
    rw [e1, e2]
    simp

/-- How many bits a digit of a text has; 0: it has no beginning of a word. -/
def perS (s : ByteArray) : Nat := if 2 ≤ s.size ∧ bn s 0 = 35 ∧ bn s 1 = 98 then 1 else if 2 ≤ s.size ∧ bn s 0 = 35 ∧ bn s 1 = 120 then 4 else 0

theorem digitBits_any (s : ByteArray) (w : World) : Calls Try.prog 57 #[.string s] w fun e w' => e = .returned (.int .i64 (perS s : Int)) ∧ w' = w := by
  have h1 := pre_two s 98
  have h2 := pre_two s 120
  change _ = decide (2 ≤ s.size ∧ bn s 0 = 35 ∧ bn s 1 = 98) at h1
  change _ = decide (2 ≤ s.size ∧ bn s 0 = 35 ∧ bn s 1 = 120) at h2
  have hP : ∀ (p : ByteArray) (r : Bool) (u : World), Lib.hasPrefix s.data.toList p.data.toList = r → Calls Try.prog 89 #[.string s, .string p] u fun e w' => e = .returned (.bool r) ∧ w' = u := fun p r u h => by
    have := Try.strings_HasPrefix s p u
    rwa [h] at this
  have HP : Hid _ := hP
  clear hP
  unfold perS
  by_cases c1 : 2 ≤ s.size ∧ bn s 0 = 35 ∧ bn s 1 = 98
  · rw [if_pos c1]
    rw [decide_eq_true c1] at h1
    go_enter Try.func57, Try.ntmps57
    go_wp2_with fail
    refine (HP.out _ true _ h1).mono ?_
    rintro e w' ⟨rfl, rfl⟩
    go_wp2
    go_ret
    exact ⟨rfl, rfl⟩
  · rw [if_neg c1]
    rw [decide_eq_false c1] at h1
    by_cases c2 : 2 ≤ s.size ∧ bn s 0 = 35 ∧ bn s 1 = 120
    · rw [if_pos c2]
      rw [decide_eq_true c2] at h2
      go_enter Try.func57, Try.ntmps57
      go_wp2_with fail
      refine (HP.out _ false _ h1).mono ?_
      rintro e w' ⟨rfl, rfl⟩
      go_wp2_with fail
      refine (HP.out _ true _ h2).mono ?_
      rintro e w' ⟨rfl, rfl⟩
      go_wp2
      go_ret
      exact ⟨rfl, rfl⟩
    · rw [if_neg c2]
      rw [decide_eq_false c2] at h2
      go_enter Try.func57, Try.ntmps57
      go_wp2_with fail
      refine (HP.out _ false _ h1).mono ?_
      rintro e w' ⟨rfl, rfl⟩
      go_wp2_with fail
      refine (HP.out _ false _ h2).mono ?_
      rintro e w' ⟨rfl, rfl⟩
      go_wp2
      go_ret
      exact ⟨rfl, rfl⟩

end Go.Proofs.Ytiaoncdnkemokaa
