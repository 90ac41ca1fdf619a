/- What the program's FlatOk answers. -/
import Derived.Test.YticpjfdnpdfmeaaMG
namespace Go.Proofs.Yticpjfdnpdfmeaa
set_option linter.unusedVariables false
set_option linter.unusedSimpArgs false
open Go.RowKit

theorem implFlat_any (a da : Option Addr) (c dc n : Nat) (ds : List Dc) (xs : List Sg) (w : World) (hd : RdD w da ds) (hr : RdS w a xs) (hn : xs.length = n) :
    Calls Try.prog 13 #[.slice da ds.length dc, .slice a n c] w fun e w' => e = .returned (.bool (flatR ds (xs.map Sg.ct))) ∧ Below w.heap.size w w' := by
  have HDC := kide (implDecls_any da dc ds w hd)
  rw [flatR_form]
  cases hD : dclR ds with
  | false =>
    rw [hD] at HDC
    clear hD
    go_enter Try.func13, Try.ntmps13
    go_wp2_with fail
    refine Calls.mono HDC.out ?_
    rintro e w1 ⟨rfl, hb1⟩
    go_wp2_with fail
    go_ret
    exact ⟨rfl, hb1⟩
  | true =>
    rw [hD] at HDC
    have HF := kide (fun u (hu : Below w.heap.size w u) => formOk_any a da c dc n ds xs u (hd.later hu) (hr.later hu) hn hD)
    generalize formR ds (xs.map Sg.ct) = R at *
    clear hD hd hr hn
    go_enter Try.func13, Try.ntmps13
    go_wp2_with fail
    refine Calls.mono HDC.out ?_
    rintro e w1 ⟨rfl, hb1⟩
    have B1 := kide hb1
    clear hb1
    go_wp2_with fail
    refine Calls.mono (HF.out w1 B1.out) ?_
    rintro e w2 ⟨rfl, hb2⟩
    go_wp2_with fail
    go_ret
    exact ⟨ret_bool (by simp), B1.out.trans (hb2.mono B1.out.size)⟩

end Go.Proofs.Yticpjfdnpdfmeaa
