/-
  DERIVED. GIVEN WITH THE SEED: THE CARDS: each row of YtofdkdaehhpgbaaGreatDoorRows.lean that lists a variable, with what it lists TIED to the program's text (the seventh form; the later family's looks); each row that meets fmt, with fmt's text TOLD by the authors' own Lean function (tested against real Go, not proved from fmt's source: count such statements apart). THE CARD IS WHAT COUNTS. Prove the row's statement (the work); the ties are given (YtofdkdaehhpgbaaGreatDoorTie.lean); close each card by the builder's one call (the guide's Derived/Test/ToyasCard.lean, 'card_holds'). Laid BY PROGRAM, IN A SANDBOX (cutbox-door.mjs). By AI agents, Wed Nov 11 2026. No macro, syntax, notation, axiom, sorry.
-/
import Derived.Test.YtofdkdaehhpgbaaGreatDoorRows
import GoSem.ClaimSeven
namespace Go.Proofs.YtofdkdaehhpgbaaGreatDoor
namespace Rows

/-- THE TIED CARD OF 'laws.FnExactDeclare'. -/
def fnExactDeclareCard : Claim7 := { stood := { row := fnExactDeclareRow, standIns := [], harness := (true, "7b0ed4d56479b534dd20b71a06cb50e3ef5a81278eff95694ca2c99710b7d006"), looks := false }, kinds := [], alts := [], laidByText := true, laidKinds := [.data], laidTests := true, laidLooks := .later }
def FnExactDeclareCardSaid : Prop := Claim7.holds Tryz.pinned (.plain (OpenSpec.ofChange fnExactDeclareSpec)) fnExactDeclareCard

/-- THE TIED CARD OF 'laws.FnExactSaveSession'. -/
def fnExactSaveSessionCard : Claim7 := { stood := { row := fnExactSaveSessionRow, standIns := [], harness := (true, "7b0ed4d56479b534dd20b71a06cb50e3ef5a81278eff95694ca2c99710b7d006"), looks := false }, kinds := [], alts := [], laidByText := true, laidKinds := [.data], laidTests := true, laidLooks := .later }
def FnExactSaveSessionCardSaid : Prop := Claim7.holds Tryz.pinned (.plain (OpenSpec.ofChange fnExactSaveSessionSpec)) fnExactSaveSessionCard

/-- THE SECOND FORM's CARD OF 'laws.FnExactDeclare'. -/
def fnExactDeclareUptoCard : Claim7 := { stood := { row := fnExactDeclareUptoRow, standIns := [], harness := (true, "7b0ed4d56479b534dd20b71a06cb50e3ef5a81278eff95694ca2c99710b7d006"), looks := false }, kinds := [], alts := [], laidByText := true, laidKinds := [.data], laidTests := true, laidLooks := .later }
def FnExactDeclareUptoCardSaid : Prop := Claim7.holds Tryz.pinned (.plain (OpenSpec.upto fnExactDeclareSpec)) fnExactDeclareUptoCard

/-- THE SECOND FORM's CARD OF 'laws.FnExactSaveSession'. -/
def fnExactSaveSessionUptoCard : Claim7 := { stood := { row := fnExactSaveSessionUptoRow, standIns := [], harness := (true, "7b0ed4d56479b534dd20b71a06cb50e3ef5a81278eff95694ca2c99710b7d006"), looks := false }, kinds := [], alts := [], laidByText := true, laidKinds := [.data], laidTests := true, laidLooks := .later }
def FnExactSaveSessionUptoCardSaid : Prop := Claim7.holds Tryz.pinned (.plain (OpenSpec.upto fnExactSaveSessionSpec)) fnExactSaveSessionUptoCard
end Rows
end Go.Proofs.YtofdkdaehhpgbaaGreatDoor
