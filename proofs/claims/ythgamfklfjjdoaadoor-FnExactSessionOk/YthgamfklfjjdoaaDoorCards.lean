/-
  DERIVED. GIVEN WITH THE SEED: THE CARDS: each row of YthgamfklfjjdoaaDoorRows.lean that lists a variable, with what it lists TIED to the program's text (the seventh form; the later family's looks); each row that meets fmt, with fmt's text TOLD by the authors' own Lean function (tested against real Go, not proved from fmt's source: count such statements apart). THE CARD IS WHAT COUNTS. Prove the row's statement (the work); the ties are given (YthgamfklfjjdoaaDoorTie.lean); close each card by the builder's one call (the guide's Derived/Test/ToyasCard.lean, 'card_holds'). Laid BY PROGRAM, IN A SANDBOX (cutbox-door.mjs). By AI agents, Wed Nov 11 2026. No macro, syntax, notation, axiom, sorry.
-/
import Derived.Test.YthgamfklfjjdoaaDoorRows
import GoSem.ClaimSeven
namespace Go.Proofs.YthgamfklfjjdoaaDoor
namespace Rows

/-- THE TIED CARD OF 'laws.FnExactSessionOk'. -/
def fnExactSessionOkCard : Claim7 := { stood := { row := fnExactSessionOkRow, standIns := [], harness := (true, "f75e68fb9918a20bb8a3d47fdffa9130da87661f68824994d12ad8343afe60f0"), looks := false }, kinds := [], alts := [], laidByText := true, laidKinds := [.data], laidTests := true, laidLooks := .later }
def FnExactSessionOkCardSaid : Prop := Claim7.holds Tryd.pinned (.plain (OpenSpec.ofChange fnExactSessionOkSpec)) fnExactSessionOkCard

/-- THE TIED CARD OF 'laws.FnExactLiteralsOk'. -/
def fnExactLiteralsOkCard : Claim7 := { stood := { row := fnExactLiteralsOkRow, standIns := [], harness := (true, "f75e68fb9918a20bb8a3d47fdffa9130da87661f68824994d12ad8343afe60f0"), looks := false }, kinds := [], alts := [], laidByText := true, laidKinds := [.data], laidTests := true, laidLooks := .later }
def FnExactLiteralsOkCardSaid : Prop := Claim7.holds Tryd.pinned (.plain (OpenSpec.ofChange fnExactLiteralsOkSpec)) fnExactLiteralsOkCard

/-- THE SECOND FORM's CARD OF 'laws.FnExactSessionOk'. -/
def fnExactSessionOkUptoCard : Claim7 := { stood := { row := fnExactSessionOkUptoRow, standIns := [], harness := (true, "f75e68fb9918a20bb8a3d47fdffa9130da87661f68824994d12ad8343afe60f0"), looks := false }, kinds := [], alts := [], laidByText := true, laidKinds := [.data], laidTests := true, laidLooks := .later }
def FnExactSessionOkUptoCardSaid : Prop := Claim7.holds Tryd.pinned (.plain (OpenSpec.upto fnExactSessionOkSpec)) fnExactSessionOkUptoCard

/-- THE SECOND FORM's CARD OF 'laws.FnExactLiteralsOk'. -/
def fnExactLiteralsOkUptoCard : Claim7 := { stood := { row := fnExactLiteralsOkUptoRow, standIns := [], harness := (true, "f75e68fb9918a20bb8a3d47fdffa9130da87661f68824994d12ad8343afe60f0"), looks := false }, kinds := [], alts := [], laidByText := true, laidKinds := [.data], laidTests := true, laidLooks := .later }
def FnExactLiteralsOkUptoCardSaid : Prop := Claim7.holds Tryd.pinned (.plain (OpenSpec.upto fnExactLiteralsOkSpec)) fnExactLiteralsOkUptoCard
end Rows
end Go.Proofs.YthgamfklfjjdoaaDoor
