/-
  DERIVED. GIVEN WITH THE SEED: THE CARDS: each row of YtmfamdonbgmjbaaDoorRows.lean that lists a variable, with what it lists TIED to the program's text (the seventh form; the later family's looks); each row that meets fmt, with fmt's text TOLD by the authors' own Lean function (tested against real Go, not proved from fmt's source: count such statements apart). THE CARD IS WHAT COUNTS. Prove the row's statement (the work); the ties are given (YtmfamdonbgmjbaaDoorTie.lean); close each card by the builder's one call (the guide's Derived/Test/ToyasCard.lean, 'card_holds'). Laid BY PROGRAM, IN A SANDBOX (cutbox-door.mjs). By AI agents, Wed Nov 11 2026. No macro, syntax, notation, axiom, sorry.
-/
import Derived.Test.YtmfamdonbgmjbaaDoorRows
import GoSem.ClaimSeven
namespace Go.Proofs.YtmfamdonbgmjbaaDoor
namespace Rows

/-- THE TIED CARD OF 'laws.FnExactUnit'. -/
def fnExactUnitCard : Claim7 := { stood := { row := fnExactUnitRow, standIns := [], harness := (true, "954aae50f86efc96749d63a2be319cd023eff57e39c050c6281d0d65d3f12db7"), looks := false }, kinds := [], alts := [], laidByText := true, laidKinds := [.data], laidTests := true, laidLooks := .later }
def FnExactUnitCardSaid : Prop := Claim7.holds Tryd.pinned (.plain (OpenSpec.ofChange fnExactUnitSpec)) fnExactUnitCard

/-- THE TIED CARD OF 'laws.FnExactSettle'. -/
def fnExactSettleCard : Claim7 := { stood := { row := fnExactSettleRow, standIns := [], harness := (true, "954aae50f86efc96749d63a2be319cd023eff57e39c050c6281d0d65d3f12db7"), looks := false }, kinds := [], alts := [], laidByText := true, laidKinds := [.data], laidTests := true, laidLooks := .later }
def FnExactSettleCardSaid : Prop := Claim7.holds Tryd.pinned (.plain (OpenSpec.ofChange fnExactSettleSpec)) fnExactSettleCard

/-- THE TIED CARD OF 'laws.FnUnits'. -/
def fnUnitsCard : Claim7 := { stood := { row := fnUnitsRow, standIns := [], harness := (true, "954aae50f86efc96749d63a2be319cd023eff57e39c050c6281d0d65d3f12db7"), looks := false }, kinds := [], alts := [], laidByText := true, laidKinds := [.data], laidTests := true, laidLooks := .later }
def FnUnitsCardSaid : Prop := Claim7.holds Tryd.pinned (.plain (OpenSpec.ofChange fnUnitsSpec)) fnUnitsCard

/-- THE TIED CARD OF 'laws.FnSettled'. -/
def fnSettledCard : Claim7 := { stood := { row := fnSettledRow, standIns := [], harness := (true, "954aae50f86efc96749d63a2be319cd023eff57e39c050c6281d0d65d3f12db7"), looks := false }, kinds := [], alts := [], laidByText := true, laidKinds := [.data], laidTests := true, laidLooks := .later }
def FnSettledCardSaid : Prop := Claim7.holds Tryd.pinned (.plain (OpenSpec.ofChange fnSettledSpec)) fnSettledCard

/-- THE SECOND FORM's CARD OF 'laws.FnExactUnit'. -/
def fnExactUnitUptoCard : Claim7 := { stood := { row := fnExactUnitUptoRow, standIns := [], harness := (true, "954aae50f86efc96749d63a2be319cd023eff57e39c050c6281d0d65d3f12db7"), looks := false }, kinds := [], alts := [], laidByText := true, laidKinds := [.data], laidTests := true, laidLooks := .later }
def FnExactUnitUptoCardSaid : Prop := Claim7.holds Tryd.pinned (.plain (OpenSpec.upto fnExactUnitSpec)) fnExactUnitUptoCard

/-- THE SECOND FORM's CARD OF 'laws.FnExactSettle'. -/
def fnExactSettleUptoCard : Claim7 := { stood := { row := fnExactSettleUptoRow, standIns := [], harness := (true, "954aae50f86efc96749d63a2be319cd023eff57e39c050c6281d0d65d3f12db7"), looks := false }, kinds := [], alts := [], laidByText := true, laidKinds := [.data], laidTests := true, laidLooks := .later }
def FnExactSettleUptoCardSaid : Prop := Claim7.holds Tryd.pinned (.plain (OpenSpec.upto fnExactSettleSpec)) fnExactSettleUptoCard

/-- THE SECOND FORM's CARD OF 'laws.FnUnits'. -/
def fnUnitsUptoCard : Claim7 := { stood := { row := fnUnitsUptoRow, standIns := [], harness := (true, "954aae50f86efc96749d63a2be319cd023eff57e39c050c6281d0d65d3f12db7"), looks := false }, kinds := [], alts := [], laidByText := true, laidKinds := [.data], laidTests := true, laidLooks := .later }
def FnUnitsUptoCardSaid : Prop := Claim7.holds Tryd.pinned (.plain (OpenSpec.upto fnUnitsSpec)) fnUnitsUptoCard

/-- THE SECOND FORM's CARD OF 'laws.FnSettled'. -/
def fnSettledUptoCard : Claim7 := { stood := { row := fnSettledUptoRow, standIns := [], harness := (true, "954aae50f86efc96749d63a2be319cd023eff57e39c050c6281d0d65d3f12db7"), looks := false }, kinds := [], alts := [], laidByText := true, laidKinds := [.data], laidTests := true, laidLooks := .later }
def FnSettledUptoCardSaid : Prop := Claim7.holds Tryd.pinned (.plain (OpenSpec.upto fnSettledSpec)) fnSettledUptoCard
end Rows
end Go.Proofs.YtmfamdonbgmjbaaDoor
