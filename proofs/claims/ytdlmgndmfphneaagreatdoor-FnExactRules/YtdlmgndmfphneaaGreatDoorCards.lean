/-
  DERIVED. GIVEN WITH THE SEED: THE CARDS: each row of YtdlmgndmfphneaaGreatDoorRows.lean that lists a variable, with what it lists TIED to the program's text (the seventh form; the later family's looks); each row that meets fmt, with fmt's text TOLD by the authors' own Lean function (tested against real Go, not proved from fmt's source: count such statements apart). THE CARD IS WHAT COUNTS. Prove the row's statement (the work); the ties are given (YtdlmgndmfphneaaGreatDoorTie.lean); close each card by the builder's one call (the guide's Derived/Test/ToyasCard.lean, 'card_holds'). Laid BY PROGRAM, IN A SANDBOX (cutbox-door.mjs). By AI agents, Wed Nov 11 2026. No macro, syntax, notation, axiom, sorry.
-/
import Derived.Test.YtdlmgndmfphneaaGreatDoorRows
import GoSem.ClaimSeven
namespace Go.Proofs.YtdlmgndmfphneaaGreatDoor
namespace Rows

/-- THE TIED CARD OF 'laws.FnExactRules'. -/
def fnExactRulesCard : Claim7 := { stood := { row := fnExactRulesRow, standIns := [], harness := (true, "b5c4592a1957cd8951114a5df7459e8fee941f63e206666ebf31cfe07ee9926d"), looks := false }, kinds := [], alts := [], laidByText := true, laidKinds := [.data], laidTests := true, laidLooks := .later }
def FnExactRulesCardSaid : Prop := Claim7.holds Tryz.pinned (.plain (OpenSpec.ofChange fnExactRulesSpec)) fnExactRulesCard

/-- THE TIED CARD OF 'laws.FnExactRewrite'. -/
def fnExactRewriteCard : Claim7 := { stood := { row := fnExactRewriteRow, standIns := [], harness := (true, "b5c4592a1957cd8951114a5df7459e8fee941f63e206666ebf31cfe07ee9926d"), looks := false }, kinds := [], alts := [], laidByText := true, laidKinds := [.data], laidTests := true, laidLooks := .later }
def FnExactRewriteCardSaid : Prop := Claim7.holds Tryz.pinned (.plain (OpenSpec.ofChange fnExactRewriteSpec)) fnExactRewriteCard

/-- THE SECOND FORM's CARD OF 'laws.FnExactRules'. -/
def fnExactRulesUptoCard : Claim7 := { stood := { row := fnExactRulesUptoRow, standIns := [], harness := (true, "b5c4592a1957cd8951114a5df7459e8fee941f63e206666ebf31cfe07ee9926d"), looks := false }, kinds := [], alts := [], laidByText := true, laidKinds := [.data], laidTests := true, laidLooks := .later }
def FnExactRulesUptoCardSaid : Prop := Claim7.holds Tryz.pinned (.plain (OpenSpec.upto fnExactRulesSpec)) fnExactRulesUptoCard

/-- THE SECOND FORM's CARD OF 'laws.FnExactRewrite'. -/
def fnExactRewriteUptoCard : Claim7 := { stood := { row := fnExactRewriteUptoRow, standIns := [], harness := (true, "b5c4592a1957cd8951114a5df7459e8fee941f63e206666ebf31cfe07ee9926d"), looks := false }, kinds := [], alts := [], laidByText := true, laidKinds := [.data], laidTests := true, laidLooks := .later }
def FnExactRewriteUptoCardSaid : Prop := Claim7.holds Tryz.pinned (.plain (OpenSpec.upto fnExactRewriteSpec)) fnExactRewriteUptoCard
end Rows
end Go.Proofs.YtdlmgndmfphneaaGreatDoor
