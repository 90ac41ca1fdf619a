/-
  DERIVED. GIVEN WITH THE SEED: THE CARDS: each row of YtpejkijefpjehaaGreatDoorRows.lean that lists a variable, with what it lists TIED to the program's text (the seventh form; the later family's looks); each row that meets fmt, with fmt's text TOLD by the authors' own Lean function (tested against real Go, not proved from fmt's source: count such statements apart). THE CARD IS WHAT COUNTS. Prove the row's statement (the work); the ties are given (YtpejkijefpjehaaGreatDoorTie.lean); close each card by the builder's one call (the guide's Derived/Test/ToyasCard.lean, 'card_holds'). Laid BY PROGRAM, IN A SANDBOX (cutbox-door.mjs). By AI agents, Wed Nov 11 2026. No macro, syntax, notation, axiom, sorry.
-/
import Derived.Test.YtpejkijefpjehaaGreatDoorRows
import GoSem.ClaimSeven
namespace Go.Proofs.YtpejkijefpjehaaGreatDoor
namespace Rows

/-- THE TIED CARD OF 'laws.FnExactFlatten'. -/
def fnExactFlattenCard : Claim7 := { stood := { row := fnExactFlattenRow, standIns := [], harness := (true, "bf9edae6655a4106b11574cdcef1dd4e44c7f86b1c092281ca766923f6260ec1"), looks := false }, kinds := [], alts := [], laidByText := true, laidKinds := [.data], laidTests := true, laidLooks := .later }
def FnExactFlattenCardSaid : Prop := Claim7.holds Tryz.pinned (.plain (OpenSpec.ofChange fnExactFlattenSpec)) fnExactFlattenCard

/-- THE TIED CARD OF 'laws.FnUnflat'. -/
def fnUnflatCard : Claim7 := { stood := { row := fnUnflatRow, standIns := [], harness := (true, "bf9edae6655a4106b11574cdcef1dd4e44c7f86b1c092281ca766923f6260ec1"), looks := false }, kinds := [], alts := [], laidByText := true, laidKinds := [.data], laidTests := true, laidLooks := .later }
def FnUnflatCardSaid : Prop := Claim7.holds Tryz.pinned (.plain (OpenSpec.ofChange fnUnflatSpec)) fnUnflatCard

/-- THE TIED CARD OF 'laws.FnEvalFlat'. -/
def fnEvalFlatCard : Claim7 := { stood := { row := fnEvalFlatRow, standIns := [], harness := (true, "bf9edae6655a4106b11574cdcef1dd4e44c7f86b1c092281ca766923f6260ec1"), looks := false }, kinds := [], alts := [], laidByText := true, laidKinds := [.data], laidTests := true, laidLooks := .later }
def FnEvalFlatCardSaid : Prop := Claim7.holds Tryz.pinned (.plain (OpenSpec.ofChange fnEvalFlatSpec)) fnEvalFlatCard

/-- THE SECOND FORM's CARD OF 'laws.FnExactFlatten'. -/
def fnExactFlattenUptoCard : Claim7 := { stood := { row := fnExactFlattenUptoRow, standIns := [], harness := (true, "bf9edae6655a4106b11574cdcef1dd4e44c7f86b1c092281ca766923f6260ec1"), looks := false }, kinds := [], alts := [], laidByText := true, laidKinds := [.data], laidTests := true, laidLooks := .later }
def FnExactFlattenUptoCardSaid : Prop := Claim7.holds Tryz.pinned (.plain (OpenSpec.upto fnExactFlattenSpec)) fnExactFlattenUptoCard

/-- THE SECOND FORM's CARD OF 'laws.FnUnflat'. -/
def fnUnflatUptoCard : Claim7 := { stood := { row := fnUnflatUptoRow, standIns := [], harness := (true, "bf9edae6655a4106b11574cdcef1dd4e44c7f86b1c092281ca766923f6260ec1"), looks := false }, kinds := [], alts := [], laidByText := true, laidKinds := [.data], laidTests := true, laidLooks := .later }
def FnUnflatUptoCardSaid : Prop := Claim7.holds Tryz.pinned (.plain (OpenSpec.upto fnUnflatSpec)) fnUnflatUptoCard

/-- THE SECOND FORM's CARD OF 'laws.FnEvalFlat'. -/
def fnEvalFlatUptoCard : Claim7 := { stood := { row := fnEvalFlatUptoRow, standIns := [], harness := (true, "bf9edae6655a4106b11574cdcef1dd4e44c7f86b1c092281ca766923f6260ec1"), looks := false }, kinds := [], alts := [], laidByText := true, laidKinds := [.data], laidTests := true, laidLooks := .later }
def FnEvalFlatUptoCardSaid : Prop := Claim7.holds Tryz.pinned (.plain (OpenSpec.upto fnEvalFlatSpec)) fnEvalFlatUptoCard
end Rows
end Go.Proofs.YtpejkijefpjehaaGreatDoor
