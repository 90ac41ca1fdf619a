/-
  DERIVED. GIVEN WITH THE SEED: THE CARDS: each row of YtpkpfanlcgmopaaDoorRows.lean that lists a variable, with what it lists TIED to the program's text (the seventh form; the later family's looks); each row that meets fmt, with fmt's text TOLD by the authors' own Lean function (tested against real Go, not proved from fmt's source: count such statements apart). THE CARD IS WHAT COUNTS. Prove the row's statement (the work); the ties are given (YtpkpfanlcgmopaaDoorTie.lean); close each card by the builder's one call (the guide's Derived/Test/ToyasCard.lean, 'card_holds'). Laid BY PROGRAM, IN A SANDBOX (cutbox-door.mjs). By AI agents, Wed Nov 11 2026. No macro, syntax, notation, axiom, sorry.
-/
import Derived.Test.YtpkpfanlcgmopaaDoorRows
import GoSem.ClaimSeven
namespace Go.Proofs.YtpkpfanlcgmopaaDoor
namespace Rows

/-- THE TIED CARD OF 'laws.FnExactLeaves'. -/
def fnExactLeavesCard : Claim7 := { stood := { row := fnExactLeavesRow, standIns := [], harness := (true, "87e3e665889d78383fe012ad673288e7ba406f6a44de8de40eb145e456ba95e9"), looks := false }, kinds := [], alts := [], laidByText := true, laidKinds := [.data], laidTests := true, laidLooks := .later }
def FnExactLeavesCardSaid : Prop := Claim7.holds Tryd.pinned (.plain (OpenSpec.ofChange fnExactLeavesSpec)) fnExactLeavesCard

/-- THE SECOND FORM's CARD OF 'laws.FnExactLeaves'. -/
def fnExactLeavesUptoCard : Claim7 := { stood := { row := fnExactLeavesUptoRow, standIns := [], harness := (true, "87e3e665889d78383fe012ad673288e7ba406f6a44de8de40eb145e456ba95e9"), looks := false }, kinds := [], alts := [], laidByText := true, laidKinds := [.data], laidTests := true, laidLooks := .later }
def FnExactLeavesUptoCardSaid : Prop := Claim7.holds Tryd.pinned (.plain (OpenSpec.upto fnExactLeavesSpec)) fnExactLeavesUptoCard
end Rows
end Go.Proofs.YtpkpfanlcgmopaaDoor
