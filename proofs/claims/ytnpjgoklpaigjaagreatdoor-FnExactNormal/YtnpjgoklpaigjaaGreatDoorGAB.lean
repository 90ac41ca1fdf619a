/- Several texts in one. -/
import Derived.Below
import Derived.Test.YtnpjgoklpaigjaaGreatDoorRX
namespace Go.Proofs.YtnpjgoklpaigjaaGreatDoor
open Go.RowKit
set_option linter.unusedVariables false
set_option linter.unusedSimpArgs false
open Go Go.RowKit

theorem blA (w : World) (o : Obj) : Below w.heap.size w (w.alloc o) := (Below.refl _ _).alloc (Nat.le_refl _) _

open Go

section
variable {P : Program} {ops : Array Oper} {Q : Exit → Act → World → Prop} {md : Region.Mode} {SA SB : World → Prop} {k : Nat}

theorem tkS {i : Nat} {oi : Oper} {v : Value} {fuel : Nat} {listed : Array Bool} {a : Act} {w : World} (hi : ops[i]? = some oi) (hS : SB w) (hv : ∀ w, SB w → (execOp a.eval oi).run P w = .ok (.value v) w)
    (h : wpAnyX P md ops Q (fun _ => False) SB k fuel (listed.setIfInBounds i true) (a.put oi.dst v) w)
    (hb : (Region.noSelect ops && Region.free md ops listed i && (Region.ready md ops listed).contains i && i != k && listed.getD k true) = true := by kernel_rfl)
    (hQ : ∀ c a w, Q (.panic c) (a.put oi.dst v) w → Q (.panic c) a w := by intro _ _ _ h; first | exact h | exact h.elim | cases h.1 | exact absurd h.1 (fun e9 => by cases e9))
    (hw : Region.wanted oi (yielded ops a.tmps) = true := by rfl) : wpAnyX P md ops Q (fun _ => False) SB k (fuel + 1) listed a w := by
  simp only [Bool.and_eq_true] at hb
  exact wpAnyX_both hi hb.1.1.1.1 hb.1.1.1.2 hb.1.1.2 hQ (by simpa using hb.1.2) (fun _ h => h.elim) (fun _ h => h) (Sx.behind hb.2 hS) (Or.inl ⟨hw, hv⟩) h
theorem tkP {i : Nat} {oi : Oper} {v : Value} {fuel : Nat} {listed : Array Bool} {a : Act} {w : World} (hi : ops[i]? = some oi) (hS : SB w)
    (h : wpAnyX P md ops Q (fun _ => False) SB k fuel (listed.setIfInBounds i true) (a.put oi.dst v) w)
    (hv : ∀ w, SB w → (execOp a.eval oi).run P w = .ok (.value v) w := by intro _ _; go_simp)
    (hb : (Region.noSelect ops && Region.free md ops listed i && (Region.ready md ops listed).contains i && i != k && listed.getD k true) = true := by kernel_rfl)
    (hQ : ∀ c a w, Q (.panic c) (a.put oi.dst v) w → Q (.panic c) a w := by intro _ _ _ h; first | exact h | exact h.elim | cases h.1 | exact absurd h.1 (fun e9 => by cases e9))
    (hw : Region.wanted oi (yielded ops a.tmps) = true := by rfl) : wpAnyX P md ops Q (fun _ => False) SB k (fuel + 1) listed a w := tkS hi hS hv h hb hQ hw
theorem tkU {i : Nat} {oi : Oper} {v : Value} {fuel : Nat} {listed : Array Bool} {a : Act} {w : World} (hi : ops[i]? = some oi) (hS : Sx SA SB k listed w)
    (h : wpAnyX P md ops Q SA SB k fuel (listed.setIfInBounds i true) (a.put oi.dst v) w)
    (hv : ∀ w, True → (execOp a.eval oi).run P w = .ok (.value v) w := by intro _ _; go_simp)
    (hb : (Region.noSelect ops && Region.free md ops listed i && (Region.ready md ops listed).contains i && i != k) = true := by kernel_rfl)
    (hQ : ∀ c a w, Q (.panic c) (a.put oi.dst v) w → Q (.panic c) a w := by intro _ _ _ h; first | exact h | exact h.elim | cases h.1 | exact absurd h.1 (fun e9 => by cases e9))
    (hw : Region.wanted oi (yielded ops a.tmps) = true := by rfl) : wpAnyX P md ops Q SA SB k (fuel + 1) listed a w := tkT hi hb hQ hS (Or.inl ⟨hw, hv⟩) h
theorem tkY {i : Nat} {oi : Oper} {v : Value} {fuel : Nat} {listed : Array Bool} {a : Act} {w : World} (hi : ops[i]? = some oi) (hS : SA w) (hv : ∀ w, SA w → (execOp a.eval oi).run P w = .ok (.value v) w)
    (h : wpAnyX P md ops Q SA SB k fuel (listed.setIfInBounds i true) (a.put oi.dst v) w)
    (hb : (Region.noSelect ops && Region.free md ops listed i && (Region.ready md ops listed).contains i && i != k && !listed.getD k true && waitsB md ops k i) = true := by kernel_rfl)
    (hQ : ∀ c a w, Q (.panic c) (a.put oi.dst v) w → Q (.panic c) a w := by intro _ _ _ h; first | exact h | exact h.elim | cases h.1 | exact absurd h.1 (fun e9 => by cases e9))
    (hw : Region.wanted oi (yielded ops a.tmps) = true := by rfl) : wpAnyX P md ops Q SA SB k (fuel + 1) listed a w := tkX hi hb hQ hS (Or.inl ⟨hw, hv⟩) h
theorem tkO {i : Nat} {oi : Oper} {fuel : Nat} {listed : Array Bool} {a : Act} {w : World} (hi : ops[i]? = some oi) (hS : SB w)
    (h : wpAnyX P md ops Q (fun _ => False) SB k fuel (listed.setIfInBounds i true) (a.put oi.dst undef) w)
    (hb : (Region.noSelect ops && Region.free md ops listed i && (Region.ready md ops listed).contains i && i != k && listed.getD k true) = true := by kernel_rfl)
    (hQ : ∀ c a w, Q (.panic c) (a.put oi.dst undef) w → Q (.panic c) a w := by intro _ _ _ h; first | exact h | exact h.elim | cases h.1 | exact absurd h.1 (fun e9 => by cases e9))
    (hw : Region.wanted oi (yielded ops a.tmps) = false := by rfl) : wpAnyX P md ops Q (fun _ => False) SB k (fuel + 1) listed a w := by
  simp only [Bool.and_eq_true] at hb
  exact wpAnyX_both hi hb.1.1.1.1 hb.1.1.1.2 hb.1.1.2 hQ (by simpa using hb.1.2) (fun _ h => h.elim) (fun _ h => h) (Sx.behind hb.2 hS) (Or.inr ⟨hw, rfl⟩) h

theorem rdX {rs : List Nat} {fuel : Nat} {listed : Array Bool} {a : Act} {w : World}
    (h : AllX P md ops Q SA SB k fuel listed a w rs) (hr : Region.ready md ops listed = rs := by kernel_rfl) (hne : rs ≠ [] := by simp) : wpAnyX P md ops Q SA SB k (fuel + 1) listed a w := wpAnyX_ready hr hne h
theorem cnB {fuel : Nat} {listed : Array Bool} {a : Act} {w : World} {i : Nat} {o : Oper} {rs : List Nat} (ho : ops[i]? = some o)
    (h : ∀ K' : Act → World → Prop, (∀ a w, SB w → wpAnyX P md ops Q SA SB k fuel (listed.setIfInBounds i true) a w → K' a w) → if Region.wanted o (yielded ops a.tmps) = true then Oper.wp P o a w K' Q else K' (a.put o.dst undef) w)
    (hs : AllX P md ops Q SA SB k fuel listed a w rs) (hb : (listed.setIfInBounds i true).getD k true = true := by kernel_rfl) : AllX P md ops Q SA SB k fuel listed a w (i :: rs) :=
  AllX.cons ho (fun K' hK => h K' fun a w h1 h2 => hK a w (Sx.behind hb h1) h2) hs
theorem tkC {i : Nat} {oi : Oper} {v : Value} {fuel : Nat} {listed : Array Bool} {a : Act} {w : World} (hi : ops[i]? = some oi)
    (h : wpAny P md ops Q fuel (listed.setIfInBounds i true) (a.put oi.dst v) w)
    (hv : ∀ w, (execOp a.eval oi).run P w = .ok (.value v) w := by intro w; go_simp)
    (hb : (Region.noSelect ops && Region.free md ops listed i && (Region.ready md ops listed).contains i) = true := by kernel_rfl)
    (hQ : ∀ c a w, Q (.panic c) (a.put oi.dst v) w → Q (.panic c) a w := by intro _ _ _ h; first | exact h | exact h.elim | cases h.1 | exact absurd h.1 (fun e9 => by cases e9))
    (hw : Region.wanted oi (yielded ops a.tmps) = true := by rfl) : wpAny P md ops Q (fuel + 1) listed a w := tkA hi hb hQ hw hv h
theorem tkM {i : Nat} {oi : Oper} {fuel : Nat} {listed : Array Bool} {a : Act} {w : World} (hi : ops[i]? = some oi)
    (h : wpAny P md ops Q fuel (listed.setIfInBounds i true) (a.put oi.dst undef) w)
    (hb : (Region.noSelect ops && Region.free md ops listed i && (Region.ready md ops listed).contains i) = true := by kernel_rfl)
    (hQ : ∀ c a w, Q (.panic c) (a.put oi.dst undef) w → Q (.panic c) a w := by intro _ _ _ h; first | exact h | exact h.elim | cases h.1 | exact absurd h.1 (fun e9 => by cases e9))
    (hw : Region.wanted oi (yielded ops a.tmps) = false := by rfl) : wpAny P md ops Q (fuel + 1) listed a w := tkN hi hb hQ hw h

end
end Go.Proofs.YtnpjgoklpaigjaaGreatDoor
