/-
  DERIVED. GIVEN WITH THE SEED: THE CARDS: each row of YtheglnkndjheaaaGreatDoorRows.lean that lists a variable, with what it lists TIED to the program's text (the seventh form; the later family's looks); each row that meets fmt, with fmt's text TOLD by the authors' own Lean function (tested against real Go, not proved from fmt's source: count such statements apart). THE CARD IS WHAT COUNTS. Prove the row's statement (the work); the ties are given (YtheglnkndjheaaaGreatDoorTie.lean); close each card by the builder's one call (the guide's Derived/Test/ToyasCard.lean, 'card_holds'). Laid BY PROGRAM, IN A SANDBOX (cutbox-door.mjs). By AI agents, Wed Nov 11 2026. No macro, syntax, notation, axiom, sorry.
-/
import Derived.Test.YtheglnkndjheaaaGreatDoorRows
import GoSem.ClaimSeven
namespace Go.Proofs.YtheglnkndjheaaaGreatDoor
namespace Rows

/-- THE TIED CARD OF 'laws.FnExactParts'. -/
def fnExactPartsCard : Claim7 := { stood := { row := fnExactPartsRow, standIns := [], harness := (true, "91049c5b62ae811082d5703a0b805215ea6f2c841b3da7c8ec6ddcc0980cb518"), looks := false }, kinds := [], alts := [], laidByText := true, laidKinds := [.data], laidTests := true, laidLooks := .later }
def FnExactPartsCardSaid : Prop := Claim7.holds Tryz.pinned (.plain (OpenSpec.ofChange fnExactPartsSpec)) fnExactPartsCard

/-- THE TIED CARD OF 'laws.FnExactTouching'. -/
def fnExactTouchingCard : Claim7 := { stood := { row := fnExactTouchingRow, standIns := [], harness := (true, "91049c5b62ae811082d5703a0b805215ea6f2c841b3da7c8ec6ddcc0980cb518"), looks := false }, kinds := [], alts := [], laidByText := true, laidKinds := [.data], laidTests := true, laidLooks := .later }
def FnExactTouchingCardSaid : Prop := Claim7.holds Tryz.pinned (.plain (OpenSpec.ofChange fnExactTouchingSpec)) fnExactTouchingCard

/-- THE SECOND FORM's CARD OF 'laws.FnExactParts'. -/
def fnExactPartsUptoCard : Claim7 := { stood := { row := fnExactPartsUptoRow, standIns := [], harness := (true, "91049c5b62ae811082d5703a0b805215ea6f2c841b3da7c8ec6ddcc0980cb518"), looks := false }, kinds := [], alts := [], laidByText := true, laidKinds := [.data], laidTests := true, laidLooks := .later }
def FnExactPartsUptoCardSaid : Prop := Claim7.holds Tryz.pinned (.plain (OpenSpec.upto fnExactPartsSpec)) fnExactPartsUptoCard

/-- THE SECOND FORM's CARD OF 'laws.FnExactTouching'. -/
def fnExactTouchingUptoCard : Claim7 := { stood := { row := fnExactTouchingUptoRow, standIns := [], harness := (true, "91049c5b62ae811082d5703a0b805215ea6f2c841b3da7c8ec6ddcc0980cb518"), looks := false }, kinds := [], alts := [], laidByText := true, laidKinds := [.data], laidTests := true, laidLooks := .later }
def FnExactTouchingUptoCardSaid : Prop := Claim7.holds Tryz.pinned (.plain (OpenSpec.upto fnExactTouchingSpec)) fnExactTouchingUptoCard
end Rows
end Go.Proofs.YtheglnkndjheaaaGreatDoor
