/-
  No cell of these rows narrows 'for every input' (looked for: loops, veiled, ifaces, maps, wideKeys, modest, calm, conditions, laid).
  DERIVED. THE GIVEN ROWS OF THIS SEAT. 5 by the template 'for every input the law returns true; each argument reads behind the call as it read before'; 0 by the template 'total and deterministic' (their statements: YticpjfdnpdfmeaaTotals.lean).
  GIVEN WITH THE SEED: the statements are not yours to turn. If you find one false, say at which input.
  Laid BY PROGRAM, IN A SANDBOX (cutbox-rows.mjs): the forced cells as the released guide's own fill.sh prints them over the translation 2fe706bc5e0bf50c… (all of the seat's roots in one cut). By AI agents, Wed Nov 11 2026. No macro, syntax, notation, axiom, sorry.
-/
import Derived.Test.YticpjfdnpdfmeaaChecked
import GoSem.Claim
import GoSem.ClaimJoined
import GoSem.ClaimMapViews
import Derived.JoinedTies
import Derived.KernelRfl
namespace Go.Proofs.Yticpjfdnpdfmeaa
/- THE CELL 'sum', in the pinned program and in every row, IS THE sha256 OF THE DUMP (.gsa) THAT YticpjfdnpdfmeaaProg.lean LOADS. Nothing in Lean hashes anything: it is a label: what it is worth is what the hold of that sum in a sandbox is worth. -/
noncomputable def Try.pinned : Pinned := { name := "yticpjfdnpdfmeaa", sum := "2fe706bc5e0bf50c7eae311c790eecac0dfdd47db49e12018214143fde52218c", checked := Try.checked }
namespace Rows
def none {H : Type} : Left H := { results := [], args := [] }

/-- 'laws.FnExactFlatOk': WHATEVER THE INPUT: true; the input reads as it did. -/
def fnExactFlatOkSpec : ChangeSpec := { name := "fnExactFlatOk", fn := fun _ => fun
  | [d1, d2] => { results := [.lit (.bool true)], args := [d1, d2] }
  | _ => none }
def fnExactFlatOkRow : OpenClaim := { program := "yticpjfdnpdfmeaa", sum := "2fe706bc5e0bf50c7eae311c790eecac0dfdd47db49e12018214143fde52218c", func := "loop.example/g00081/laws.FnExactFlatOk", spec := "fnExactFlatOk", apart := false }
def FnExactFlatOkSaid : Prop := fnExactFlatOkRow.holds Try.pinned (OpenSpec.ofChange fnExactFlatOkSpec)

/-- ITS FALSE NEIGHBOUR: 'it returns false'. Refute it at one input. -/
def fnExactFlatOkWrong : ChangeSpec := { name := "fnExactFlatOk", fn := fun _ => fun
  | [d1, d2] => { results := [.lit (.bool false)], args := [d1, d2] }
  | _ => none }
def FnExactFlatOkWrongFalsely : Prop := fnExactFlatOkRow.holds Try.pinned (OpenSpec.ofChange fnExactFlatOkWrong)

/-- 'laws.FnExactCutsOk': WHATEVER THE INPUT: true; the input reads as it did. -/
def fnExactCutsOkSpec : ChangeSpec := { name := "fnExactCutsOk", fn := fun _ => fun
  | [d1, d2] => { results := [.lit (.bool true)], args := [d1, d2] }
  | _ => none }
def fnExactCutsOkRow : OpenClaim := { program := "yticpjfdnpdfmeaa", sum := "2fe706bc5e0bf50c7eae311c790eecac0dfdd47db49e12018214143fde52218c", func := "loop.example/g00081/laws.FnExactCutsOk", spec := "fnExactCutsOk", apart := false }
def FnExactCutsOkSaid : Prop := fnExactCutsOkRow.holds Try.pinned (OpenSpec.ofChange fnExactCutsOkSpec)

/-- ITS FALSE NEIGHBOUR: 'it returns false'. Refute it at one input. -/
def fnExactCutsOkWrong : ChangeSpec := { name := "fnExactCutsOk", fn := fun _ => fun
  | [d1, d2] => { results := [.lit (.bool false)], args := [d1, d2] }
  | _ => none }
def FnExactCutsOkWrongFalsely : Prop := fnExactCutsOkRow.holds Try.pinned (OpenSpec.ofChange fnExactCutsOkWrong)

/-- 'laws.FnExactGauge': WHATEVER THE INPUT: true; the input reads as it did. -/
def fnExactGaugeSpec : ChangeSpec := { name := "fnExactGauge", fn := fun _ => fun
  | [d1, d2] => { results := [.lit (.bool true)], args := [d1, d2] }
  | _ => none }
def fnExactGaugeRow : OpenClaim := { program := "yticpjfdnpdfmeaa", sum := "2fe706bc5e0bf50c7eae311c790eecac0dfdd47db49e12018214143fde52218c", func := "loop.example/g00081/laws.FnExactGauge", spec := "fnExactGauge", apart := false }
def FnExactGaugeSaid : Prop := fnExactGaugeRow.holds Try.pinned (OpenSpec.ofChange fnExactGaugeSpec)

/-- ITS FALSE NEIGHBOUR: 'it returns false'. Refute it at one input. -/
def fnExactGaugeWrong : ChangeSpec := { name := "fnExactGauge", fn := fun _ => fun
  | [d1, d2] => { results := [.lit (.bool false)], args := [d1, d2] }
  | _ => none }
def FnExactGaugeWrongFalsely : Prop := fnExactGaugeRow.holds Try.pinned (OpenSpec.ofChange fnExactGaugeWrong)

/-- 'laws.FnExactSlicesOf': WHATEVER THE INPUT: true; the input reads as it did. -/
def fnExactSlicesOfSpec : ChangeSpec := { name := "fnExactSlicesOf", fn := fun _ => fun
  | [d1, d2] => { results := [.lit (.bool true)], args := [d1, d2] }
  | _ => none }
def fnExactSlicesOfRow : OpenClaim := { program := "yticpjfdnpdfmeaa", sum := "2fe706bc5e0bf50c7eae311c790eecac0dfdd47db49e12018214143fde52218c", func := "loop.example/g00081/laws.FnExactSlicesOf", spec := "fnExactSlicesOf", apart := false }
def FnExactSlicesOfSaid : Prop := fnExactSlicesOfRow.holds Try.pinned (OpenSpec.ofChange fnExactSlicesOfSpec)

/-- ITS FALSE NEIGHBOUR: 'it returns false'. Refute it at one input. -/
def fnExactSlicesOfWrong : ChangeSpec := { name := "fnExactSlicesOf", fn := fun _ => fun
  | [d1, d2] => { results := [.lit (.bool false)], args := [d1, d2] }
  | _ => none }
def FnExactSlicesOfWrongFalsely : Prop := fnExactSlicesOfRow.holds Try.pinned (OpenSpec.ofChange fnExactSlicesOfWrong)

/-- 'laws.FnExactClassAt': WHATEVER THE INPUT: true; the input reads as it did. -/
def fnExactClassAtSpec : ChangeSpec := { name := "fnExactClassAt", fn := fun _ => fun
  | [d1, d2] => { results := [.lit (.bool true)], args := [d1, d2] }
  | _ => none }
def fnExactClassAtRow : OpenClaim := { program := "yticpjfdnpdfmeaa", sum := "2fe706bc5e0bf50c7eae311c790eecac0dfdd47db49e12018214143fde52218c", func := "loop.example/g00081/laws.FnExactClassAt", spec := "fnExactClassAt", unfollowed := true, recurses := true, apart := false }
def FnExactClassAtSaid : Prop := fnExactClassAtRow.holds Try.pinned (OpenSpec.ofChange fnExactClassAtSpec)

/-- ITS FALSE NEIGHBOUR: 'it returns false'. Refute it at one input. -/
def fnExactClassAtWrong : ChangeSpec := { name := "fnExactClassAt", fn := fun _ => fun
  | [d1, d2] => { results := [.lit (.bool false)], args := [d1, d2] }
  | _ => none }
def FnExactClassAtWrongFalsely : Prop := fnExactClassAtRow.holds Try.pinned (OpenSpec.ofChange fnExactClassAtWrong)

/- THE SECOND FORM. 'bulk': how many values and letters a reading holds, each counted each time it is reached (what is shared counts as often as it is met; a slice's spare places count too). A statement '..UptoSaid' is the law's where the arguments, and the package variables that the reading takes, are together of bulk at most 1048576: NARROWER than '..Said'. Prove '..Said' where nothing that the law and all that it calls make is longer than what came in: it says more and counts as full. Else prove '..UptoSaid'. A law counts once. -/
mutual
def uptoBulk {H : Type} : DataW H → Nat
  | .lit (.string bytes) => bytes.length + 1
  | .lit _ => 1
  | .nil => 1
  | .ptr d => uptoBulk d + 1
  | .slice elems spare => uptoBulkAll elems + uptoBulkAll spare + 1
  | .agg parts => uptoBulkAll parts + 1
  | .iface _ d => uptoBulk d + 1
  | .map entries => uptoBulkEntries entries + 1
  | .held _ => 1
def uptoBulkAll {H : Type} : List (DataW H) → Nat
  | [] => 0
  | d :: r => uptoBulk d + uptoBulkAll r
def uptoBulkEntries {H : Type} : List (Lit × DataW H) → Nat
  | [] => 0
  | x :: r => uptoBulkEntry x + uptoBulkEntries r
def uptoBulkEntry {H : Type} : Lit × DataW H → Nat
  | (.string bytes, d) => bytes.length + uptoBulk d + 1
  | (_, d) => uptoBulk d + 1
 end
def uptoSmall : (H : Type) → List (DataW H) → Bool := fun _ ds => decide (uptoBulkAll ds ≤ 1048576)
def OpenSpec.upto (s : _root_.Go.ChangeSpec) : _root_.Go.OpenSpec := { _root_.Go.OpenSpec.ofChange s with cond := some uptoSmall }

/-- 'laws.FnExactFlatOk', WHERE WHAT IT READS IS OF BULK AT MOST 1048576: true; the input reads as it did. -/
def fnExactFlatOkUptoRow : OpenClaim := { program := "yticpjfdnpdfmeaa", sum := "2fe706bc5e0bf50c7eae311c790eecac0dfdd47db49e12018214143fde52218c", func := "loop.example/g00081/laws.FnExactFlatOk", spec := "fnExactFlatOk", apart := false, narrowed := true }
def FnExactFlatOkUptoSaid : Prop := fnExactFlatOkUptoRow.holds Try.pinned (OpenSpec.upto fnExactFlatOkSpec)

/-- 'laws.FnExactCutsOk', WHERE WHAT IT READS IS OF BULK AT MOST 1048576: true; the input reads as it did. -/
def fnExactCutsOkUptoRow : OpenClaim := { program := "yticpjfdnpdfmeaa", sum := "2fe706bc5e0bf50c7eae311c790eecac0dfdd47db49e12018214143fde52218c", func := "loop.example/g00081/laws.FnExactCutsOk", spec := "fnExactCutsOk", apart := false, narrowed := true }
def FnExactCutsOkUptoSaid : Prop := fnExactCutsOkUptoRow.holds Try.pinned (OpenSpec.upto fnExactCutsOkSpec)

/-- 'laws.FnExactGauge', WHERE WHAT IT READS IS OF BULK AT MOST 1048576: true; the input reads as it did. -/
def fnExactGaugeUptoRow : OpenClaim := { program := "yticpjfdnpdfmeaa", sum := "2fe706bc5e0bf50c7eae311c790eecac0dfdd47db49e12018214143fde52218c", func := "loop.example/g00081/laws.FnExactGauge", spec := "fnExactGauge", apart := false, narrowed := true }
def FnExactGaugeUptoSaid : Prop := fnExactGaugeUptoRow.holds Try.pinned (OpenSpec.upto fnExactGaugeSpec)

/-- 'laws.FnExactSlicesOf', WHERE WHAT IT READS IS OF BULK AT MOST 1048576: true; the input reads as it did. -/
def fnExactSlicesOfUptoRow : OpenClaim := { program := "yticpjfdnpdfmeaa", sum := "2fe706bc5e0bf50c7eae311c790eecac0dfdd47db49e12018214143fde52218c", func := "loop.example/g00081/laws.FnExactSlicesOf", spec := "fnExactSlicesOf", apart := false, narrowed := true }
def FnExactSlicesOfUptoSaid : Prop := fnExactSlicesOfUptoRow.holds Try.pinned (OpenSpec.upto fnExactSlicesOfSpec)

/-- 'laws.FnExactClassAt', WHERE WHAT IT READS IS OF BULK AT MOST 1048576: true; the input reads as it did. -/
def fnExactClassAtUptoRow : OpenClaim := { program := "yticpjfdnpdfmeaa", sum := "2fe706bc5e0bf50c7eae311c790eecac0dfdd47db49e12018214143fde52218c", func := "loop.example/g00081/laws.FnExactClassAt", spec := "fnExactClassAt", unfollowed := true, recurses := true, apart := false, narrowed := true }
def FnExactClassAtUptoSaid : Prop := fnExactClassAtUptoRow.holds Try.pinned (OpenSpec.upto fnExactClassAtSpec)

end Rows
end Go.Proofs.Yticpjfdnpdfmeaa
