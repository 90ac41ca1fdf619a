/- What the program's WidthOf answers. -/
import Derived.Test.YtkkboaiablfdbaaGreatDoorQY
namespace Go.Proofs.YtkkboaiablfdbaaGreatDoor
set_option linter.unusedVariables false
set_option linter.unusedSimpArgs false
open Go.RowKit

theorem implWidth_any (a b : Option Addr) (c c2 n : Nat) (ds : List Dc) (xs : List Tg) (w : World) (hr : RdD w a ds) (hs : RdT w b xs) (hn : xs.length = n) (hG : GF w) :
    Calls Tryz.prog 24 #[.slice a ds.length c, .agg #[.slice b n c2]] w fun e w' => e = .returned (.int .i64 (widR ds (xs.map Tg.ct))) ∧ Below w.heap.size w w' := by
  have s0 := St.start w (.cells #[.slice b n c2] 30)
  have HW := kide (rightWidths_any a b c c2 n ds xs _ (hr.later s0.below) (hs.later s0.below) hn (hG.later s0.below))
  have hbd := (widthsR_bounds ds (xs.map Tg.ct)).1
  unfold widR
  generalize widthsR ds (xs.map Tg.ct) = R at *
  clear hr hs hn hG
  by_cases h0 : R.length = 0
  · rw [if_pos h0]
    have hz : ((R.length : Int) == 0) = true := by simp; exact List.eq_nil_of_length_eq_zero h0
    have H0 := kide h0
    clear h0
    go_enter Tryz.func24, Tryz.ntmps24
    go_wp2_with fail
    refine Calls.mono HW.out ?_
    rintro e w2 ⟨a2, c3, rfl, hr2, hnl, hb2⟩
    have B2 := kide (s0.below.trans (hb2.mono s0.below.size))
    obtain ⟨-, -, hr3⟩ := hr2
    clear hb2 HW hnl
    clear hr3
    go_wp2_with fail
    go_ret
    exact ⟨rfl, B2.out⟩
  · rw [if_neg h0]
    obtain ⟨m, hm⟩ : ∃ m, R.length = m + 1 := ⟨R.length - 1, by omega⟩
    obtain ⟨y, hy⟩ : ∃ y, R.getD m 0 = y := ⟨_, rfl⟩
    have hRy : R.getD (R.length - 1) 0 = y := by rw [hm, show m + 1 - 1 = m by omega]; exact hy
    rw [hRy]
    have HM := kide hm
    have HY := kide hy
    clear h0 hm hy hRy
    go_enter Tryz.func24, Tryz.ntmps24
    go_wp2_with fail
    refine Calls.mono HW.out ?_
    rintro e w2 ⟨a2, c3, rfl, hr2, hnl, hb2⟩
    have B2 := kide (s0.below.trans (hb2.mono s0.below.size))
    obtain ⟨-, -, hr3⟩ := hr2
    clear hb2 HW hnl
    rcases hr3 with h | ⟨b2, o2, rfl, hc⟩
    · have := HM.out; subst h; simp at this
    have p0 := hc m (by have := HM.out; omega)
    rw [HY.out] at p0
    obtain ⟨L, hL⟩ : ∃ L, R.length = L := ⟨_, rfl⟩
    rw [hL] at hbd ⊢
    have hLm : L = m + 1 := by rw [← hL]; exact HM.out
    have hz : ((L : Int) == 0) = false := by simp; omega
    have hz2 : ((L : Int) - 1) = (m : Int) := by omega
    have hmi : (m : Int) < (L : Int) := by omega
    clear hc hL hLm
    go_wp2_with fail
    go_ret
    exact ⟨rfl, B2.out⟩

end Go.Proofs.YtkkboaiablfdbaaGreatDoor
