/-
  DERIVED. GIVEN WITH THE SEED: THE CARDS: each row of YtckidgpopbpagaaGreatDoorRows.lean that lists a variable, with what it lists TIED to the program's text (the seventh form; the later family's looks); each row that meets fmt, with fmt's text TOLD by the authors' own Lean function (tested against real Go, not proved from fmt's source: count such statements apart). THE CARD IS WHAT COUNTS. Prove the row's statement (the work); the ties are given (YtckidgpopbpagaaGreatDoorTie.lean); close each card by the builder's one call (the guide's Derived/Test/ToyasCard.lean, 'card_holds'). Laid BY PROGRAM, IN A SANDBOX (cutbox-door.mjs). By AI agents, Wed Nov 11 2026. No macro, syntax, notation, axiom, sorry.
-/
import Derived.Test.YtckidgpopbpagaaGreatDoorRows
import GoSem.ClaimSeven
namespace Go.Proofs.YtckidgpopbpagaaGreatDoor
namespace Rows

/-- THE TIED CARD OF 'laws.FnExactSameWord'. -/
def fnExactSameWordCard : Claim7 := { stood := { row := fnExactSameWordRow, standIns := [], harness := (true, "33dede7df4a6220f40a2779fbefa81874cfd5a9707fb076902c62cc86895fec0"), looks := false }, kinds := [], alts := [], laidByText := true, laidKinds := [.data], laidTests := true, laidLooks := .later }
def FnExactSameWordCardSaid : Prop := Claim7.holds Tryz.pinned (.plain (OpenSpec.ofChange fnExactSameWordSpec)) fnExactSameWordCard

/-- THE SECOND FORM's CARD OF 'laws.FnExactSameWord'. -/
def fnExactSameWordUptoCard : Claim7 := { stood := { row := fnExactSameWordUptoRow, standIns := [], harness := (true, "33dede7df4a6220f40a2779fbefa81874cfd5a9707fb076902c62cc86895fec0"), looks := false }, kinds := [], alts := [], laidByText := true, laidKinds := [.data], laidTests := true, laidLooks := .later }
def FnExactSameWordUptoCardSaid : Prop := Claim7.holds Tryz.pinned (.plain (OpenSpec.upto fnExactSameWordSpec)) fnExactSameWordUptoCard
end Rows
end Go.Proofs.YtckidgpopbpagaaGreatDoor
