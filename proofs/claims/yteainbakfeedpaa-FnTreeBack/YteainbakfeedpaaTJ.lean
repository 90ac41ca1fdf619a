/- Contracts of the program's functions on its stack of open lists: full ones are dropped, a kid is taken. -/
import Derived.Test.YteainbakfeedpaaTI
namespace Go.Proofs.Yteainbakfeedpaa
set_option linter.unusedVariables false
set_option linter.unusedSimpArgs false
open Go.RowKit

/-- Lists that lack no kid any more fall off the top. -/
def dropO : List Ol → List Ol
  | [] => []
  | x :: r => if x.m = x.ks.length then dropO r else x :: r

theorem dropO_ct (st : List Ol) : (dropO st).map Ol.ct = dropF (st.map Ol.ct) := by
  induction st with
  | nil => rfl
  | cons x r ih =>
    rw [dropO, List.map_cons, dropF]
    by_cases h : x.m = x.ks.length
    · rw [if_pos h, if_pos (by exact h)]; exact ih
    · rw [if_neg h, if_neg (by exact h)]; rfl

theorem Kept.drewN {B P : Nat} {w w' : World} (h : Kept B P w w') (n : Nat) : Kept B P w (w'.drewN n) := ⟨h.os, h.tape, h.output, h.size, h.block⟩

/-- How many items a stack has, read off the world. -/
def stLen (P : Nat) (w : World) : Nat := match w.cell? ⟨P, 0, none⟩ with | some (.slice _ n _) => n | _ => 0

theorem Stk.len {w : World} {B P : Nat} {st : List Ol} (h : Stk w B P st) : stLen P w = st.length := by
  obtain ⟨-, -, -, v, hp, ho⟩ := h
  obtain ⟨ao, cap, rfl, -⟩ := owns_shape ho
  simp [stLen, cell_of_one hp]

set_option maxRecDepth 100000 in
theorem dropFull_any (w : World) (B P : Nat) (st : List Ol) (h : Stk w B P st) (hm : ∀ o ∈ st, o.m ≤ 1048576 ∧ o.ks.length ≤ 1048576) :
    Calls Try.prog 42 #[.pointer (some ⟨P, 0, none⟩)] w fun e w' => e = .returned (.tuple #[]) ∧ Stk w' B P (dropO st) ∧ Kept B P w w' := by
  go_enter Try.func42, Try.ntmps42
  go_wp2_with fail
  go_loopw [] (fun wr => ∃ s1 : List Ol, Stk wr B P s1 ∧ dropO s1 = dropO st ∧ (∀ o ∈ s1, o.m ≤ 1048576 ∧ o.ks.length ≤ 1048576) ∧ Kept B P w wr) (fun wr => stLen P wr)
  case atStart => exact ⟨st, h, rfl, hm, Kept.refl _ _ _⟩
  case round =>
    obtain ⟨s1, hs, hd, hm1, hk⟩ := hrel
    have hlen := hs.len
    have hl0 := hs.2.2.1
    have HD : Hid _ := hd
    have HLN : Hid _ := hlen
    have HK : Hid _ := hk
    have HZ := show Hid _ from fun (u : World) (hu : Stk u B P s1) => stSize u B P s1 hu
    clear hd hlen hk
    cases s1 with
    | nil =>
      go_wp2_with fail
      go_quiet ((go_at_call 39; exact Calls.quiet_of_same (HZ.out _ hs)))
      go_wp2_with fail
      go_end0
      refine ⟨rfl, ?_, (HK.out.drewN _)⟩
      rw [← HD.out]
      exact hs
    | cons x r =>
      obtain ⟨g, ht⟩ := hs.top
      obtain ⟨t0, t1⟩ := ht.cells
      simp only [List.length_cons] at hl0
      have hxm := hm1 x (List.mem_cons_self ..)
      have i0 : (0 : Int) < (r.length : Int) + 1 := by omega
      have HT := show Hid _ from fun (u : World) (hu : TopAt u B P g x r) => stTop u B P g x r (by omega) hu
      by_cases hf : x.m = x.ks.length
      · have e0 : ((x.m : Int) == (x.ks.length : Int)) = true := by simp; omega
        have HF : Hid _ := hf
        have HM1 : Hid _ := hm1
        have HPOP := show Hid _ from fun (u : World) (hu : Stk u B P (x :: r)) => stPop u B P x r hu
        clear hf hm1
        go_wp2_with fail
        go_quiet (first | (go_at_call 39; exact Calls.quiet_of_same (HZ.out _ hs)) | (go_at_call 63; exact Calls.quiet_of (HT.out _ ht)))
        go_wp2_with fail
        refine Calls.mono (HPOP.out _ hs) ?_
        rintro e w1 ⟨rfl, hs1, hk1⟩
        go_wp2_with fail
        go_roundw
        case rel =>
          refine ⟨r, hs1, ?_, fun o ho => HM1.out o (List.mem_cons_of_mem _ ho), HK.out.trans ((Kept.refl B P wr).drewN _ |>.trans hk1)⟩
          rw [← HD.out, dropO, if_pos HF.out]
        case measure =>
          have := hs1.len
          have := HLN.out
          simp at this
          omega
      · have e0 : ((x.m : Int) == (x.ks.length : Int)) = false := by simp; omega
        have HF : Hid _ := hf
        clear hf
        go_wp2_with fail
        go_quiet (first | (go_at_call 39; exact Calls.quiet_of_same (HZ.out _ hs)) | (go_at_call 63; exact Calls.quiet_of (HT.out _ ht)))
        go_wp2_with fail
        go_end0
        refine ⟨rfl, ?_, (HK.out.drewN _)⟩
        rw [← HD.out, dropO, if_neg HF.out]
        exact hs

end Go.Proofs.Yteainbakfeedpaa
