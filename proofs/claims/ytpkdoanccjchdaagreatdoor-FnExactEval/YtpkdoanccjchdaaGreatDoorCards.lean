/-
  DERIVED. GIVEN WITH THE SEED: THE CARDS: each row of YtpkdoanccjchdaaGreatDoorRows.lean that lists a variable, with what it lists TIED to the program's text (the seventh form; the later family's looks); each row that meets fmt, with fmt's text TOLD by the authors' own Lean function (tested against real Go, not proved from fmt's source: count such statements apart). THE CARD IS WHAT COUNTS. Prove the row's statement (the work); the ties are given (YtpkdoanccjchdaaGreatDoorTie.lean); close each card by the builder's one call (the guide's Derived/Test/ToyasCard.lean, 'card_holds'). Laid BY PROGRAM, IN A SANDBOX (cutbox-door.mjs). By AI agents, Wed Nov 11 2026. No macro, syntax, notation, axiom, sorry.
-/
import Derived.Test.YtpkdoanccjchdaaGreatDoorRows
import GoSem.ClaimSeven
namespace Go.Proofs.YtpkdoanccjchdaaGreatDoor
namespace Rows

/-- THE TIED CARD OF 'laws.FnExactTouching'. -/
def fnExactTouchingCard : Claim7 := { stood := { row := fnExactTouchingRow, standIns := [], harness := (true, "8413c420d93d9a6af7f9dd9166f6ecf76657fa847b1e239075a6addb79036834"), looks := false }, kinds := [], alts := [], laidByText := true, laidKinds := [.data], laidTests := true, laidLooks := .later }
def FnExactTouchingCardSaid : Prop := Claim7.holds Tryz.pinned (.plain (OpenSpec.ofChange fnExactTouchingSpec)) fnExactTouchingCard

/-- THE TIED CARD OF 'laws.FnExactParts'. -/
def fnExactPartsCard : Claim7 := { stood := { row := fnExactPartsRow, standIns := [], harness := (true, "8413c420d93d9a6af7f9dd9166f6ecf76657fa847b1e239075a6addb79036834"), looks := false }, kinds := [], alts := [], laidByText := true, laidKinds := [.data], laidTests := true, laidLooks := .later }
def FnExactPartsCardSaid : Prop := Claim7.holds Tryz.pinned (.plain (OpenSpec.ofChange fnExactPartsSpec)) fnExactPartsCard

/-- THE TIED CARD OF 'laws.FnExactWeaken'. -/
def fnExactWeakenCard : Claim7 := { stood := { row := fnExactWeakenRow, standIns := [], harness := (true, "8413c420d93d9a6af7f9dd9166f6ecf76657fa847b1e239075a6addb79036834"), looks := false }, kinds := [], alts := [], laidByText := true, laidKinds := [.data], laidTests := true, laidLooks := .later }
def FnExactWeakenCardSaid : Prop := Claim7.holds Tryz.pinned (.plain (OpenSpec.ofChange fnExactWeakenSpec)) fnExactWeakenCard

/-- THE TIED CARD OF 'laws.FnExactEval'. -/
def fnExactEvalCard : Claim7 := { stood := { row := fnExactEvalRow, standIns := [], harness := (true, "8413c420d93d9a6af7f9dd9166f6ecf76657fa847b1e239075a6addb79036834"), looks := false }, kinds := [], alts := [], laidByText := true, laidKinds := [.data], laidTests := true, laidLooks := .later }
def FnExactEvalCardSaid : Prop := Claim7.holds Tryz.pinned (.plain (OpenSpec.ofChange fnExactEvalSpec)) fnExactEvalCard

/-- THE TIED CARD OF 'laws.FnExactHolds'. -/
def fnExactHoldsCard : Claim7 := { stood := { row := fnExactHoldsRow, standIns := [], harness := (true, "8413c420d93d9a6af7f9dd9166f6ecf76657fa847b1e239075a6addb79036834"), looks := false }, kinds := [], alts := [], laidByText := true, laidKinds := [.data], laidTests := true, laidLooks := .later }
def FnExactHoldsCardSaid : Prop := Claim7.holds Tryz.pinned (.plain (OpenSpec.ofChange fnExactHoldsSpec)) fnExactHoldsCard

/-- THE TIED CARD OF 'laws.FnExactFirstFails'. -/
def fnExactFirstFailsCard : Claim7 := { stood := { row := fnExactFirstFailsRow, standIns := [], harness := (true, "8413c420d93d9a6af7f9dd9166f6ecf76657fa847b1e239075a6addb79036834"), looks := false }, kinds := [], alts := [], laidByText := true, laidKinds := [.data], laidTests := true, laidLooks := .later }
def FnExactFirstFailsCardSaid : Prop := Claim7.holds Tryz.pinned (.plain (OpenSpec.ofChange fnExactFirstFailsSpec)) fnExactFirstFailsCard

/-- THE SECOND FORM's CARD OF 'laws.FnExactTouching'. -/
def fnExactTouchingUptoCard : Claim7 := { stood := { row := fnExactTouchingUptoRow, standIns := [], harness := (true, "8413c420d93d9a6af7f9dd9166f6ecf76657fa847b1e239075a6addb79036834"), looks := false }, kinds := [], alts := [], laidByText := true, laidKinds := [.data], laidTests := true, laidLooks := .later }
def FnExactTouchingUptoCardSaid : Prop := Claim7.holds Tryz.pinned (.plain (OpenSpec.upto fnExactTouchingSpec)) fnExactTouchingUptoCard

/-- THE SECOND FORM's CARD OF 'laws.FnExactParts'. -/
def fnExactPartsUptoCard : Claim7 := { stood := { row := fnExactPartsUptoRow, standIns := [], harness := (true, "8413c420d93d9a6af7f9dd9166f6ecf76657fa847b1e239075a6addb79036834"), looks := false }, kinds := [], alts := [], laidByText := true, laidKinds := [.data], laidTests := true, laidLooks := .later }
def FnExactPartsUptoCardSaid : Prop := Claim7.holds Tryz.pinned (.plain (OpenSpec.upto fnExactPartsSpec)) fnExactPartsUptoCard

/-- THE SECOND FORM's CARD OF 'laws.FnExactWeaken'. -/
def fnExactWeakenUptoCard : Claim7 := { stood := { row := fnExactWeakenUptoRow, standIns := [], harness := (true, "8413c420d93d9a6af7f9dd9166f6ecf76657fa847b1e239075a6addb79036834"), looks := false }, kinds := [], alts := [], laidByText := true, laidKinds := [.data], laidTests := true, laidLooks := .later }
def FnExactWeakenUptoCardSaid : Prop := Claim7.holds Tryz.pinned (.plain (OpenSpec.upto fnExactWeakenSpec)) fnExactWeakenUptoCard

/-- THE SECOND FORM's CARD OF 'laws.FnExactEval'. -/
def fnExactEvalUptoCard : Claim7 := { stood := { row := fnExactEvalUptoRow, standIns := [], harness := (true, "8413c420d93d9a6af7f9dd9166f6ecf76657fa847b1e239075a6addb79036834"), looks := false }, kinds := [], alts := [], laidByText := true, laidKinds := [.data], laidTests := true, laidLooks := .later }
def FnExactEvalUptoCardSaid : Prop := Claim7.holds Tryz.pinned (.plain (OpenSpec.upto fnExactEvalSpec)) fnExactEvalUptoCard

/-- THE SECOND FORM's CARD OF 'laws.FnExactHolds'. -/
def fnExactHoldsUptoCard : Claim7 := { stood := { row := fnExactHoldsUptoRow, standIns := [], harness := (true, "8413c420d93d9a6af7f9dd9166f6ecf76657fa847b1e239075a6addb79036834"), looks := false }, kinds := [], alts := [], laidByText := true, laidKinds := [.data], laidTests := true, laidLooks := .later }
def FnExactHoldsUptoCardSaid : Prop := Claim7.holds Tryz.pinned (.plain (OpenSpec.upto fnExactHoldsSpec)) fnExactHoldsUptoCard

/-- THE SECOND FORM's CARD OF 'laws.FnExactFirstFails'. -/
def fnExactFirstFailsUptoCard : Claim7 := { stood := { row := fnExactFirstFailsUptoRow, standIns := [], harness := (true, "8413c420d93d9a6af7f9dd9166f6ecf76657fa847b1e239075a6addb79036834"), looks := false }, kinds := [], alts := [], laidByText := true, laidKinds := [.data], laidTests := true, laidLooks := .later }
def FnExactFirstFailsUptoCardSaid : Prop := Claim7.holds Tryz.pinned (.plain (OpenSpec.upto fnExactFirstFailsSpec)) fnExactFirstFailsUptoCard
end Rows
end Go.Proofs.YtpkdoanccjchdaaGreatDoor
