/- What the program's rightWidths answers. -/
import Derived.Test.YtckidgpopbpagaaGreatDoorQU
namespace Go.Proofs.YtckidgpopbpagaaGreatDoor
set_option linter.unusedVariables false
set_option linter.unusedSimpArgs false
open Go.RowKit

theorem rightWidths_any (a b : Option Addr) (c c2 n : Nat) (ds : List Dc) (xs : List Tg) (w : World) (hr : RdD w a ds) (hs : RdT w b xs) (hn : xs.length = n) (hG : GF w) :
    Calls Tryz.prog 28 #[.slice a ds.length c, .agg #[.slice b n c2]] w (RetI w (widthsR ds (xs.map Tg.ct))) := by
  have s0 := St.start w (.cells #[.slice b n c2] 33)
  have HD := kide (fun u (hu : Below w.heap.size w u) => implDecls_any a c ds u (hr.later hu))
  have HW := kide (fun u (hu : Below w.heap.size w u) (hd : dclR ds = true) => widthsOf_any a b c c2 n ds xs u (hr.later hu) (hs.later hu) hn (hG.later hu) hd)
  clear hr hs hn hG
  cases hd : dclR ds with
  | false =>
    have hR : widthsR ds (xs.map Tg.ct) = [] := by simp [widthsR, hd]
    rw [hR]
    rw [hd] at HD
    clear hR hd HW
    go_enter Tryz.func28, Tryz.ntmps28
    go_wp2_with fail
    refine Calls.mono (HD.out _ s0.below) ?_
    rintro e w1 ⟨rfl, hb1⟩
    have s1 := s0.next hb1
    go_wp2_with fail
    go_ret
    exact RetI.nil _ _ s1.below
  | true =>
    rw [hd] at HD
    have HW2 := kide (fun u hu => HW.out u hu hd)
    generalize widthsR ds (xs.map Tg.ct) = R at *
    clear hd HW
    go_enter Tryz.func28, Tryz.ntmps28
    go_wp2_with fail
    refine Calls.mono (HD.out _ s0.below) ?_
    rintro e w1 ⟨rfl, hb1⟩
    have s1 := s0.next hb1
    have g0 := s1.cell 0
    simp at g0
    clear hb1 s0
    go_wp2_with fail
    refine Calls.mono (HW2.out _ s1.below) ?_
    rintro e w2 ⟨a2, c3, rfl, hr2, hnl, hb2⟩
    have B2 := kide (s1.below.trans (hb2.mono s1.below.size))
    have HR2 := kide hr2
    have HNL := kide hnl
    clear hb2 hr2 hnl
    go_wp2_with fail
    go_ret
    exact ⟨a2, c3, rfl, HR2.out, HNL.out, B2.out⟩

end Go.Proofs.YtckidgpopbpagaaGreatDoor
