/-
  DERIVED. GIVEN WITH THE SEED: THE CARDS: each row of YtbpodkdlhjgncaaGreatDoorRows.lean that lists a variable, with what it lists TIED to the program's text (the seventh form; the later family's looks); each row that meets fmt, with fmt's text TOLD by the authors' own Lean function (tested against real Go, not proved from fmt's source: count such statements apart). THE CARD IS WHAT COUNTS. Prove the row's statement (the work); the ties are given (YtbpodkdlhjgncaaGreatDoorTie.lean); close each card by the builder's one call (the guide's Derived/Test/ToyasCard.lean, 'card_holds'). Laid BY PROGRAM, IN A SANDBOX (cutbox-door.mjs). By AI agents, Wed Nov 11 2026. No macro, syntax, notation, axiom, sorry.
-/
import Derived.Test.YtbpodkdlhjgncaaGreatDoorRows
import GoSem.ClaimSeven
namespace Go.Proofs.YtbpodkdlhjgncaaGreatDoor
namespace Rows

/-- THE TIED CARD OF 'laws.FnExactBind'. -/
def fnExactBindCard : Claim7 := { stood := { row := fnExactBindRow, standIns := [], harness := (true, "75f066571ae894bb014583d162c21651ea2be196db00e7012f98f86169f60947"), looks := false }, kinds := [], alts := [], laidByText := true, laidKinds := [.data], laidTests := true, laidLooks := .later }
def FnExactBindCardSaid : Prop := Claim7.holds Tryz.pinned (.plain (OpenSpec.ofChange fnExactBindSpec)) fnExactBindCard

/-- THE SECOND FORM's CARD OF 'laws.FnExactBind'. -/
def fnExactBindUptoCard : Claim7 := { stood := { row := fnExactBindUptoRow, standIns := [], harness := (true, "75f066571ae894bb014583d162c21651ea2be196db00e7012f98f86169f60947"), looks := false }, kinds := [], alts := [], laidByText := true, laidKinds := [.data], laidTests := true, laidLooks := .later }
def FnExactBindUptoCardSaid : Prop := Claim7.holds Tryz.pinned (.plain (OpenSpec.upto fnExactBindSpec)) fnExactBindUptoCard
end Rows
end Go.Proofs.YtbpodkdlhjgncaaGreatDoor
