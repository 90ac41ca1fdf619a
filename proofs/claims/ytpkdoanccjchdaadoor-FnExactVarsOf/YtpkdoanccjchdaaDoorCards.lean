/-
  DERIVED. GIVEN WITH THE SEED: THE CARDS: each row of YtpkdoanccjchdaaDoorRows.lean that lists a variable, with what it lists TIED to the program's text (the seventh form; the later family's looks); each row that meets fmt, with fmt's text TOLD by the authors' own Lean function (tested against real Go, not proved from fmt's source: count such statements apart). THE CARD IS WHAT COUNTS. Prove the row's statement (the work); the ties are given (YtpkdoanccjchdaaDoorTie.lean); close each card by the builder's one call (the guide's Derived/Test/ToyasCard.lean, 'card_holds'). Laid BY PROGRAM, IN A SANDBOX (cutbox-door.mjs). By AI agents, Wed Nov 11 2026. No macro, syntax, notation, axiom, sorry.
-/
import Derived.Test.YtpkdoanccjchdaaDoorRows
import GoSem.ClaimSeven
namespace Go.Proofs.YtpkdoanccjchdaaDoor
namespace Rows

/-- THE TIED CARD OF 'laws.FnExactLiteralsOk'. -/
def fnExactLiteralsOkCard : Claim7 := { stood := { row := fnExactLiteralsOkRow, standIns := [], harness := (true, "557e258215fae62c0b5b8443de648511609b3c4ee277fb53832595a25a8a5308"), looks := false }, kinds := [], alts := [], laidByText := true, laidKinds := [.data], laidTests := true, laidLooks := .later }
def FnExactLiteralsOkCardSaid : Prop := Claim7.holds Tryd.pinned (.plain (OpenSpec.ofChange fnExactLiteralsOkSpec)) fnExactLiteralsOkCard

/-- THE TIED CARD OF 'laws.FnExactVarsOf'. -/
def fnExactVarsOfCard : Claim7 := { stood := { row := fnExactVarsOfRow, standIns := [], harness := (true, "557e258215fae62c0b5b8443de648511609b3c4ee277fb53832595a25a8a5308"), looks := false }, kinds := [], alts := [], laidByText := true, laidKinds := [.data], laidTests := true, laidLooks := .later }
def FnExactVarsOfCardSaid : Prop := Claim7.holds Tryd.pinned (.plain (OpenSpec.ofChange fnExactVarsOfSpec)) fnExactVarsOfCard

/-- THE TIED CARD OF 'laws.FnExactWidthOf'. -/
def fnExactWidthOfCard : Claim7 := { stood := { row := fnExactWidthOfRow, standIns := [], harness := (true, "557e258215fae62c0b5b8443de648511609b3c4ee277fb53832595a25a8a5308"), looks := false }, kinds := [], alts := [], laidByText := true, laidKinds := [.data], laidTests := true, laidLooks := .later }
def FnExactWidthOfCardSaid : Prop := Claim7.holds Tryd.pinned (.plain (OpenSpec.ofChange fnExactWidthOfSpec)) fnExactWidthOfCard

/-- THE TIED CARD OF 'laws.FnExactLeaves'. -/
def fnExactLeavesCard : Claim7 := { stood := { row := fnExactLeavesRow, standIns := [], harness := (true, "557e258215fae62c0b5b8443de648511609b3c4ee277fb53832595a25a8a5308"), looks := false }, kinds := [], alts := [], laidByText := true, laidKinds := [.data], laidTests := true, laidLooks := .later }
def FnExactLeavesCardSaid : Prop := Claim7.holds Tryd.pinned (.plain (OpenSpec.ofChange fnExactLeavesSpec)) fnExactLeavesCard

/-- THE SECOND FORM's CARD OF 'laws.FnExactLiteralsOk'. -/
def fnExactLiteralsOkUptoCard : Claim7 := { stood := { row := fnExactLiteralsOkUptoRow, standIns := [], harness := (true, "557e258215fae62c0b5b8443de648511609b3c4ee277fb53832595a25a8a5308"), looks := false }, kinds := [], alts := [], laidByText := true, laidKinds := [.data], laidTests := true, laidLooks := .later }
def FnExactLiteralsOkUptoCardSaid : Prop := Claim7.holds Tryd.pinned (.plain (OpenSpec.upto fnExactLiteralsOkSpec)) fnExactLiteralsOkUptoCard

/-- THE SECOND FORM's CARD OF 'laws.FnExactVarsOf'. -/
def fnExactVarsOfUptoCard : Claim7 := { stood := { row := fnExactVarsOfUptoRow, standIns := [], harness := (true, "557e258215fae62c0b5b8443de648511609b3c4ee277fb53832595a25a8a5308"), looks := false }, kinds := [], alts := [], laidByText := true, laidKinds := [.data], laidTests := true, laidLooks := .later }
def FnExactVarsOfUptoCardSaid : Prop := Claim7.holds Tryd.pinned (.plain (OpenSpec.upto fnExactVarsOfSpec)) fnExactVarsOfUptoCard

/-- THE SECOND FORM's CARD OF 'laws.FnExactWidthOf'. -/
def fnExactWidthOfUptoCard : Claim7 := { stood := { row := fnExactWidthOfUptoRow, standIns := [], harness := (true, "557e258215fae62c0b5b8443de648511609b3c4ee277fb53832595a25a8a5308"), looks := false }, kinds := [], alts := [], laidByText := true, laidKinds := [.data], laidTests := true, laidLooks := .later }
def FnExactWidthOfUptoCardSaid : Prop := Claim7.holds Tryd.pinned (.plain (OpenSpec.upto fnExactWidthOfSpec)) fnExactWidthOfUptoCard

/-- THE SECOND FORM's CARD OF 'laws.FnExactLeaves'. -/
def fnExactLeavesUptoCard : Claim7 := { stood := { row := fnExactLeavesUptoRow, standIns := [], harness := (true, "557e258215fae62c0b5b8443de648511609b3c4ee277fb53832595a25a8a5308"), looks := false }, kinds := [], alts := [], laidByText := true, laidKinds := [.data], laidTests := true, laidLooks := .later }
def FnExactLeavesUptoCardSaid : Prop := Claim7.holds Tryd.pinned (.plain (OpenSpec.upto fnExactLeavesSpec)) fnExactLeavesUptoCard
end Rows
end Go.Proofs.YtpkdoanccjchdaaDoor
