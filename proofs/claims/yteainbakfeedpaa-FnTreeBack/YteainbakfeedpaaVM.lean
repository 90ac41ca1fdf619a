/- The text of a mark. -/
import Derived.Test.YteainbakfeedpaaUD
namespace Go.Proofs.Yteainbakfeedpaa
set_option linter.unusedVariables false
set_option linter.unusedSimpArgs false
open Go.RowKit

theorem hidM {p : Prop} (h : p) : Hid p := h

/-- The digits of a number ahead of a text. -/
def dgs : Nat → Nat → ByteArray → ByteArray
  | 0, _, s => s
  | f + 1, j, s => if j = 0 then s else dgs f (j / 10) (txt [48 + j % 10] ++ s)

/-- The text of a mark. -/
def mkT (k : Nat) : ByteArray := if k = 0 then ⟨#[109, 48]⟩ else ⟨#[109]⟩ ++ dgs (k + 1) k ⟨#[]⟩

set_option maxHeartbeats 1000000 in
set_option maxRecDepth 100000 in
theorem markText_any (k : Nat) (w : World) (hk : k ≤ 100000000) :
    Calls Try.prog 69 #[.int .i64 (k : Int)] w fun e w' => e = .returned (.string (mkT k)) ∧ Below w.heap.size w w' := by
  by_cases h0 : k = 0
  · subst h0
    have hm : mkT 0 = ⟨#[109, 48]⟩ := rfl
    rw [hm]
    go_enter Try.func69, Try.ntmps69
    go_wp2_with fail
    go_ret
    exact ⟨rfl, Below.refl _ _⟩
  have hm : mkT k = ⟨#[109]⟩ ++ dgs (k + 1) k ⟨#[]⟩ := if_neg h0
  rw [hm]
  generalize hR : dgs (k + 1) k ⟨#[]⟩ = R
  have HR := hidM hR
  clear hR hm
  have hi : (0 : Int) < (k : Int) := by omega
  go_enter Try.func69, Try.ntmps69
  go_wp2_with fail
  go_loopw [3, 0] (fun o q wr => ∃ (j f m : Nat) (s : ByteArray), q = .int .i64 (j : Int) ∧ j ≤ k ∧ o = .string s ∧ dgs f j s = R ∧ j < f ∧ j < 10 ^ m ∧ s.size + m ≤ 20 ∧ Below w.heap.size w wr) (fun _ q _ => (intOf q).toNat)
  case atStart => exact ⟨k, k + 1, 20, ⟨#[]⟩, rfl, Nat.le_refl _, rfl, HR.out, by omega, by omega, by decide, Below.refl _ _⟩
  case round =>
    obtain ⟨j, f, m, s, rfl, hj, rfl, hd, hjf, hjm, hsm, hbel⟩ := hrel
    have HB := hidM hbel
    have hss : s.size ≤ 20 := by omega
    by_cases hj0 : 0 < j
    · obtain ⟨f, rfl⟩ : ∃ f', f = f' + 1 := ⟨f - 1, by omega⟩
      obtain ⟨m, rfl⟩ : ∃ m', m = m' + 1 := ⟨m - 1, by
        cases m with
        | zero => simp at hjm; omega
        | succ m => rfl⟩
      rw [dgs, if_neg (by omega)] at hd
      have HD := hidM hd
      have hjm' : j / 10 < 10 ^ m := by rw [Nat.pow_succ] at hjm; exact Nat.div_lt_of_lt_mul (by omega)
      have HJM := hidM hjm'
      have hji : (0 : Int) < (j : Int) := by omega
      have hts : (txt [48 + j % 10]).size = 1 := rfl
      have hcv : (convert 22 9 (.slice (some ⟨wr.heap.size, 0, none⟩) 1 1)).run Try.prog (wr.alloc (Obj.cells #[Value.int IntKind.u8 (48 + (j : Int) % 10)] 5)) = .ok (.string (txt [48 + j % 10])) (wr.alloc (Obj.cells #[Value.int IntKind.u8 (48 + (j : Int) % 10)] 5)) := by
        refine back_txt (wr.alloc (Obj.cells #[Value.int IntKind.u8 (48 + (j : Int) % 10)] 5)) wr.heap.size 0 1 [48 + j % 10] (by simp; omega) ?_
        intro i hi
        have hi0 : i = 0 := by simp at hi; omega
        subst hi0
        simp
      have HTS := hidM hts
      clear hd hjm hjm' hbel hts
      generalize txt [48 + j % 10] = t at *
      have htt : t.size ≤ 1 := by rw [HTS.out]; omega
      go_wp2_with fail
      go_roundw
      case rel =>
        refine ⟨j / 10, f, m, t ++ s, by go_num, by omega, rfl, HD.out, by omega, HJM.out, ?_, HB.out.alloc HB.out.size _⟩
        have h := HTS.out
        rw [ByteArray.size_append]
        omega
      case measure => simp [intOf]; omega
    · have hj00 : j = 0 := by omega
      subst hj00
      have hsR : s = R := by
        cases f with
        | zero => omega
        | succ f => rw [dgs, if_pos rfl] at hd; exact hd
      subst hsR
      clear hd
      go_wp2_with fail
      go_ret
      exact ⟨rfl, HB.out⟩

theorem dgs_size (f j m : Nat) (s : ByteArray) (hj : j < 10 ^ m) : (dgs f j s).size ≤ s.size + m := by
  induction f generalizing j m s with
  | zero => rw [dgs]; omega
  | succ f ih =>
    rw [dgs]
    by_cases h : j = 0
    · rw [if_pos h]; omega
    · rw [if_neg h]
      cases m with
      | zero => simp at hj; omega
      | succ m =>
        have hjm' : j / 10 < 10 ^ m := by rw [Nat.pow_succ] at hj; exact Nat.div_lt_of_lt_mul (by omega)
        have := ih (j / 10) m (txt [48 + j % 10] ++ s) hjm'
        rw [ByteArray.size_append, show (txt [48 + j % 10]).size = 1 from rfl] at this
        omega

theorem mkT_size (k : Nat) (hk : k ≤ 100000000) : (mkT k).size ≤ 1048576 := by
  unfold mkT
  split
  · exact by decide
  · have := dgs_size (k + 1) k 20 ⟨#[]⟩ (by omega)
    rw [ByteArray.size_append]
    have h1 : (⟨#[109]⟩ : ByteArray).size = 1 := rfl
    have h2 : (⟨#[]⟩ : ByteArray).size = 0 := rfl
    omega

end Go.Proofs.Yteainbakfeedpaa
