/-
  DERIVED. GIVEN WITH THE SEED: THE CARDS: each row of YthgamfklfjjdoaaGreatDoorRows.lean that lists a variable, with what it lists TIED to the program's text (the seventh form; the later family's looks); each row that meets fmt, with fmt's text TOLD by the authors' own Lean function (tested against real Go, not proved from fmt's source: count such statements apart). THE CARD IS WHAT COUNTS. Prove the row's statement (the work); the ties are given (YthgamfklfjjdoaaGreatDoorTie.lean); close each card by the builder's one call (the guide's Derived/Test/ToyasCard.lean, 'card_holds'). Laid BY PROGRAM, IN A SANDBOX (cutbox-door.mjs). By AI agents, Wed Nov 11 2026. No macro, syntax, notation, axiom, sorry.
-/
import Derived.Test.YthgamfklfjjdoaaGreatDoorRows
import GoSem.ClaimSeven
namespace Go.Proofs.YthgamfklfjjdoaaGreatDoor
namespace Rows

/-- THE TIED CARD OF 'laws.FnExactAllOf'. -/
def fnExactAllOfCard : Claim7 := { stood := { row := fnExactAllOfRow, standIns := [], harness := (true, "d9ceb2c3649630ab86c18945af3b71aca37e8e6441f2640c4cc2365cc73c95e6"), looks := false }, kinds := [], alts := [], laidByText := true, laidKinds := [.data], laidTests := true, laidLooks := .later }
def FnExactAllOfCardSaid : Prop := Claim7.holds Tryz.pinned (.plain (OpenSpec.ofChange fnExactAllOfSpec)) fnExactAllOfCard

/-- THE TIED CARD OF 'laws.FnExactPush'. -/
def fnExactPushCard : Claim7 := { stood := { row := fnExactPushRow, standIns := [], harness := (true, "d9ceb2c3649630ab86c18945af3b71aca37e8e6441f2640c4cc2365cc73c95e6"), looks := false }, kinds := [], alts := [], laidByText := true, laidKinds := [.data], laidTests := true, laidLooks := .later }
def FnExactPushCardSaid : Prop := Claim7.holds Tryz.pinned (.plain (OpenSpec.ofChange fnExactPushSpec)) fnExactPushCard

/-- THE TIED CARD OF 'laws.FnExactPop'. -/
def fnExactPopCard : Claim7 := { stood := { row := fnExactPopRow, standIns := [], harness := (true, "d9ceb2c3649630ab86c18945af3b71aca37e8e6441f2640c4cc2365cc73c95e6"), looks := false }, kinds := [], alts := [], laidByText := true, laidKinds := [.data], laidTests := true, laidLooks := .later }
def FnExactPopCardSaid : Prop := Claim7.holds Tryz.pinned (.plain (OpenSpec.ofChange fnExactPopSpec)) fnExactPopCard

/-- THE SECOND FORM's CARD OF 'laws.FnExactAllOf'. -/
def fnExactAllOfUptoCard : Claim7 := { stood := { row := fnExactAllOfUptoRow, standIns := [], harness := (true, "d9ceb2c3649630ab86c18945af3b71aca37e8e6441f2640c4cc2365cc73c95e6"), looks := false }, kinds := [], alts := [], laidByText := true, laidKinds := [.data], laidTests := true, laidLooks := .later }
def FnExactAllOfUptoCardSaid : Prop := Claim7.holds Tryz.pinned (.plain (OpenSpec.upto fnExactAllOfSpec)) fnExactAllOfUptoCard

/-- THE SECOND FORM's CARD OF 'laws.FnExactPush'. -/
def fnExactPushUptoCard : Claim7 := { stood := { row := fnExactPushUptoRow, standIns := [], harness := (true, "d9ceb2c3649630ab86c18945af3b71aca37e8e6441f2640c4cc2365cc73c95e6"), looks := false }, kinds := [], alts := [], laidByText := true, laidKinds := [.data], laidTests := true, laidLooks := .later }
def FnExactPushUptoCardSaid : Prop := Claim7.holds Tryz.pinned (.plain (OpenSpec.upto fnExactPushSpec)) fnExactPushUptoCard

/-- THE SECOND FORM's CARD OF 'laws.FnExactPop'. -/
def fnExactPopUptoCard : Claim7 := { stood := { row := fnExactPopUptoRow, standIns := [], harness := (true, "d9ceb2c3649630ab86c18945af3b71aca37e8e6441f2640c4cc2365cc73c95e6"), looks := false }, kinds := [], alts := [], laidByText := true, laidKinds := [.data], laidTests := true, laidLooks := .later }
def FnExactPopUptoCardSaid : Prop := Claim7.holds Tryz.pinned (.plain (OpenSpec.upto fnExactPopSpec)) fnExactPopUptoCard
end Rows
end Go.Proofs.YthgamfklfjjdoaaGreatDoor
