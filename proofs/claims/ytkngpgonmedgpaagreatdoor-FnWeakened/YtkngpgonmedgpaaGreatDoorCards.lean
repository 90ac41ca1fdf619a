/-
  DERIVED. GIVEN WITH THE SEED: THE CARDS: each row of YtkngpgonmedgpaaGreatDoorRows.lean that lists a variable, with what it lists TIED to the program's text (the seventh form; the later family's looks); each row that meets fmt, with fmt's text TOLD by the authors' own Lean function (tested against real Go, not proved from fmt's source: count such statements apart). THE CARD IS WHAT COUNTS. Prove the row's statement (the work); the ties are given (YtkngpgonmedgpaaGreatDoorTie.lean); close each card by the builder's one call (the guide's Derived/Test/ToyasCard.lean, 'card_holds'). Laid BY PROGRAM, IN A SANDBOX (cutbox-door.mjs). By AI agents, Wed Nov 11 2026. No macro, syntax, notation, axiom, sorry.
-/
import Derived.Test.YtkngpgonmedgpaaGreatDoorRows
import GoSem.ClaimSeven
namespace Go.Proofs.YtkngpgonmedgpaaGreatDoor
namespace Rows

/-- THE TIED CARD OF 'laws.FnOpposite'. -/
def fnOppositeCard : Claim7 := { stood := { row := fnOppositeRow, standIns := [], harness := (true, "5f8df6ea66186b51948bd21c00b0f9e780f5a9c74798c806331e52b8b9944d0d"), looks := false }, kinds := [], alts := [], laidByText := true, laidKinds := [.data], laidTests := true, laidLooks := .later }
def FnOppositeCardSaid : Prop := Claim7.holds Tryz.pinned (.plain (OpenSpec.ofChange fnOppositeSpec)) fnOppositeCard

/-- THE TIED CARD OF 'laws.FnWeakened'. -/
def fnWeakenedCard : Claim7 := { stood := { row := fnWeakenedRow, standIns := [], harness := (true, "5f8df6ea66186b51948bd21c00b0f9e780f5a9c74798c806331e52b8b9944d0d"), looks := false }, kinds := [], alts := [], laidByText := true, laidKinds := [.data], laidTests := true, laidLooks := .later }
def FnWeakenedCardSaid : Prop := Claim7.holds Tryz.pinned (.plain (OpenSpec.ofChange fnWeakenedSpec)) fnWeakenedCard

/-- THE TIED CARD OF 'laws.FnExactHolds'. -/
def fnExactHoldsCard : Claim7 := { stood := { row := fnExactHoldsRow, standIns := [], harness := (true, "5f8df6ea66186b51948bd21c00b0f9e780f5a9c74798c806331e52b8b9944d0d"), looks := false }, kinds := [], alts := [], laidByText := true, laidKinds := [.data], laidTests := true, laidLooks := .later }
def FnExactHoldsCardSaid : Prop := Claim7.holds Tryz.pinned (.plain (OpenSpec.ofChange fnExactHoldsSpec)) fnExactHoldsCard

/-- THE TIED CARD OF 'laws.FnExactWeaken'. -/
def fnExactWeakenCard : Claim7 := { stood := { row := fnExactWeakenRow, standIns := [], harness := (true, "5f8df6ea66186b51948bd21c00b0f9e780f5a9c74798c806331e52b8b9944d0d"), looks := false }, kinds := [], alts := [], laidByText := true, laidKinds := [.data], laidTests := true, laidLooks := .later }
def FnExactWeakenCardSaid : Prop := Claim7.holds Tryz.pinned (.plain (OpenSpec.ofChange fnExactWeakenSpec)) fnExactWeakenCard

/-- THE SECOND FORM's CARD OF 'laws.FnOpposite'. -/
def fnOppositeUptoCard : Claim7 := { stood := { row := fnOppositeUptoRow, standIns := [], harness := (true, "5f8df6ea66186b51948bd21c00b0f9e780f5a9c74798c806331e52b8b9944d0d"), looks := false }, kinds := [], alts := [], laidByText := true, laidKinds := [.data], laidTests := true, laidLooks := .later }
def FnOppositeUptoCardSaid : Prop := Claim7.holds Tryz.pinned (.plain (OpenSpec.upto fnOppositeSpec)) fnOppositeUptoCard

/-- THE SECOND FORM's CARD OF 'laws.FnWeakened'. -/
def fnWeakenedUptoCard : Claim7 := { stood := { row := fnWeakenedUptoRow, standIns := [], harness := (true, "5f8df6ea66186b51948bd21c00b0f9e780f5a9c74798c806331e52b8b9944d0d"), looks := false }, kinds := [], alts := [], laidByText := true, laidKinds := [.data], laidTests := true, laidLooks := .later }
def FnWeakenedUptoCardSaid : Prop := Claim7.holds Tryz.pinned (.plain (OpenSpec.upto fnWeakenedSpec)) fnWeakenedUptoCard

/-- THE SECOND FORM's CARD OF 'laws.FnExactHolds'. -/
def fnExactHoldsUptoCard : Claim7 := { stood := { row := fnExactHoldsUptoRow, standIns := [], harness := (true, "5f8df6ea66186b51948bd21c00b0f9e780f5a9c74798c806331e52b8b9944d0d"), looks := false }, kinds := [], alts := [], laidByText := true, laidKinds := [.data], laidTests := true, laidLooks := .later }
def FnExactHoldsUptoCardSaid : Prop := Claim7.holds Tryz.pinned (.plain (OpenSpec.upto fnExactHoldsSpec)) fnExactHoldsUptoCard

/-- THE SECOND FORM's CARD OF 'laws.FnExactWeaken'. -/
def fnExactWeakenUptoCard : Claim7 := { stood := { row := fnExactWeakenUptoRow, standIns := [], harness := (true, "5f8df6ea66186b51948bd21c00b0f9e780f5a9c74798c806331e52b8b9944d0d"), looks := false }, kinds := [], alts := [], laidByText := true, laidKinds := [.data], laidTests := true, laidLooks := .later }
def FnExactWeakenUptoCardSaid : Prop := Claim7.holds Tryz.pinned (.plain (OpenSpec.upto fnExactWeakenSpec)) fnExactWeakenUptoCard
end Rows
end Go.Proofs.YtkngpgonmedgpaaGreatDoor
