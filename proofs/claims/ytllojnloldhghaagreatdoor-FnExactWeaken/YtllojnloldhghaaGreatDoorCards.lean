/-
  DERIVED. GIVEN WITH THE SEED: THE CARDS: each row of YtllojnloldhghaaGreatDoorRows.lean that lists a variable, with what it lists TIED to the program's text (the seventh form; the later family's looks); each row that meets fmt, with fmt's text TOLD by the authors' own Lean function (tested against real Go, not proved from fmt's source: count such statements apart). THE CARD IS WHAT COUNTS. Prove the row's statement (the work); the ties are given (YtllojnloldhghaaGreatDoorTie.lean); close each card by the builder's one call (the guide's Derived/Test/ToyasCard.lean, 'card_holds'). Laid BY PROGRAM, IN A SANDBOX (cutbox-door.mjs). By AI agents, Wed Nov 11 2026. No macro, syntax, notation, axiom, sorry.
-/
import Derived.Test.YtllojnloldhghaaGreatDoorRows
import GoSem.ClaimSeven
namespace Go.Proofs.YtllojnloldhghaaGreatDoor
namespace Rows

/-- THE TIED CARD OF 'laws.FnExactWeaken'. -/
def fnExactWeakenCard : Claim7 := { stood := { row := fnExactWeakenRow, standIns := [], harness := (true, "ccb41a486fb0da495d43fa169c0147b31700c68701129f6bb20116e5f11ef058"), looks := false }, kinds := [], alts := [], laidByText := true, laidKinds := [.data], laidTests := true, laidLooks := .later }
def FnExactWeakenCardSaid : Prop := Claim7.holds Tryz.pinned (.plain (OpenSpec.ofChange fnExactWeakenSpec)) fnExactWeakenCard

/-- THE TIED CARD OF 'laws.FnExactFirstFails'. -/
def fnExactFirstFailsCard : Claim7 := { stood := { row := fnExactFirstFailsRow, standIns := [], harness := (true, "ccb41a486fb0da495d43fa169c0147b31700c68701129f6bb20116e5f11ef058"), looks := false }, kinds := [], alts := [], laidByText := true, laidKinds := [.data], laidTests := true, laidLooks := .later }
def FnExactFirstFailsCardSaid : Prop := Claim7.holds Tryz.pinned (.plain (OpenSpec.ofChange fnExactFirstFailsSpec)) fnExactFirstFailsCard

/-- THE TIED CARD OF 'laws.FnExactTouching'. -/
def fnExactTouchingCard : Claim7 := { stood := { row := fnExactTouchingRow, standIns := [], harness := (true, "ccb41a486fb0da495d43fa169c0147b31700c68701129f6bb20116e5f11ef058"), looks := false }, kinds := [], alts := [], laidByText := true, laidKinds := [.data], laidTests := true, laidLooks := .later }
def FnExactTouchingCardSaid : Prop := Claim7.holds Tryz.pinned (.plain (OpenSpec.ofChange fnExactTouchingSpec)) fnExactTouchingCard

/-- THE TIED CARD OF 'laws.FnExactParts'. -/
def fnExactPartsCard : Claim7 := { stood := { row := fnExactPartsRow, standIns := [], harness := (true, "ccb41a486fb0da495d43fa169c0147b31700c68701129f6bb20116e5f11ef058"), looks := false }, kinds := [], alts := [], laidByText := true, laidKinds := [.data], laidTests := true, laidLooks := .later }
def FnExactPartsCardSaid : Prop := Claim7.holds Tryz.pinned (.plain (OpenSpec.ofChange fnExactPartsSpec)) fnExactPartsCard

/-- THE SECOND FORM's CARD OF 'laws.FnExactWeaken'. -/
def fnExactWeakenUptoCard : Claim7 := { stood := { row := fnExactWeakenUptoRow, standIns := [], harness := (true, "ccb41a486fb0da495d43fa169c0147b31700c68701129f6bb20116e5f11ef058"), looks := false }, kinds := [], alts := [], laidByText := true, laidKinds := [.data], laidTests := true, laidLooks := .later }
def FnExactWeakenUptoCardSaid : Prop := Claim7.holds Tryz.pinned (.plain (OpenSpec.upto fnExactWeakenSpec)) fnExactWeakenUptoCard

/-- THE SECOND FORM's CARD OF 'laws.FnExactFirstFails'. -/
def fnExactFirstFailsUptoCard : Claim7 := { stood := { row := fnExactFirstFailsUptoRow, standIns := [], harness := (true, "ccb41a486fb0da495d43fa169c0147b31700c68701129f6bb20116e5f11ef058"), looks := false }, kinds := [], alts := [], laidByText := true, laidKinds := [.data], laidTests := true, laidLooks := .later }
def FnExactFirstFailsUptoCardSaid : Prop := Claim7.holds Tryz.pinned (.plain (OpenSpec.upto fnExactFirstFailsSpec)) fnExactFirstFailsUptoCard

/-- THE SECOND FORM's CARD OF 'laws.FnExactTouching'. -/
def fnExactTouchingUptoCard : Claim7 := { stood := { row := fnExactTouchingUptoRow, standIns := [], harness := (true, "ccb41a486fb0da495d43fa169c0147b31700c68701129f6bb20116e5f11ef058"), looks := false }, kinds := [], alts := [], laidByText := true, laidKinds := [.data], laidTests := true, laidLooks := .later }
def FnExactTouchingUptoCardSaid : Prop := Claim7.holds Tryz.pinned (.plain (OpenSpec.upto fnExactTouchingSpec)) fnExactTouchingUptoCard

/-- THE SECOND FORM's CARD OF 'laws.FnExactParts'. -/
def fnExactPartsUptoCard : Claim7 := { stood := { row := fnExactPartsUptoRow, standIns := [], harness := (true, "ccb41a486fb0da495d43fa169c0147b31700c68701129f6bb20116e5f11ef058"), looks := false }, kinds := [], alts := [], laidByText := true, laidKinds := [.data], laidTests := true, laidLooks := .later }
def FnExactPartsUptoCardSaid : Prop := Claim7.holds Tryz.pinned (.plain (OpenSpec.upto fnExactPartsSpec)) fnExactPartsUptoCard
end Rows
end Go.Proofs.YtllojnloldhghaaGreatDoor
