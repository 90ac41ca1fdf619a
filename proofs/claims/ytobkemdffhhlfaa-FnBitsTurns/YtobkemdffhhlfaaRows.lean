/-
  No cell of these rows narrows 'for every input' (looked for: loops, veiled, ifaces, maps, wideKeys, modest, calm, conditions, laid).
  DERIVED. THE GIVEN ROWS OF THIS SEAT. 16 by the template 'for every input the law returns true; each argument reads behind the call as it read before'; 0 by the template 'total and deterministic' (their statements: YtobkemdffhhlfaaTotals.lean).
  GIVEN WITH THE SEED: the statements are not yours to turn. If you find one false, say at which input.
  Laid BY PROGRAM, IN A SANDBOX (cutbox-rows.mjs): the forced cells as the released guide's own fill.sh prints them over the translation dce703014264c29b… (all of the seat's roots in one cut). By AI agents, Wed Nov 11 2026. No macro, syntax, notation, axiom, sorry.
-/
import Derived.Test.YtobkemdffhhlfaaChecked
import GoSem.Claim
import GoSem.ClaimJoined
import GoSem.ClaimMapViews
import Derived.JoinedTies
import Derived.KernelRfl
namespace Go.Proofs.Ytobkemdffhhlfaa
/- THE CELL 'sum', in the pinned program and in every row, IS THE sha256 OF THE DUMP (.gsa) THAT YtobkemdffhhlfaaProg.lean LOADS. Nothing in Lean hashes anything: it is a label: what it is worth is what the hold of that sum in a sandbox is worth. -/
noncomputable def Try.pinned : Pinned := { name := "ytobkemdffhhlfaa", sum := "dce703014264c29bb022f99ba34dac776e583b4a69ea8397205eade37f27c5ae", checked := Try.checked }
namespace Rows
def none {H : Type} : Left H := { results := [], args := [] }

/-- 'laws.FnBitsText': WHATEVER THE INPUT: true; the input reads as it did. -/
def fnBitsTextSpec : ChangeSpec := { name := "fnBitsText", fn := fun _ => fun
  | [d1, d2] => { results := [.lit (.bool true)], args := [d1, d2] }
  | _ => none }
def fnBitsTextRow : OpenClaim := { program := "ytobkemdffhhlfaa", sum := "dce703014264c29bb022f99ba34dac776e583b4a69ea8397205eade37f27c5ae", func := "loop.example/g00081/laws.FnBitsText", spec := "fnBitsText", inPlace := ["internal/abi.NoEscape", "internal/bytealg.IndexByteString"], apart := false }
def FnBitsTextSaid : Prop := fnBitsTextRow.holds Try.pinned (OpenSpec.ofChange fnBitsTextSpec)

/-- ITS FALSE NEIGHBOUR: 'it returns false'. Refute it at one input. -/
def fnBitsTextWrong : ChangeSpec := { name := "fnBitsText", fn := fun _ => fun
  | [d1, d2] => { results := [.lit (.bool false)], args := [d1, d2] }
  | _ => none }
def FnBitsTextWrongFalsely : Prop := fnBitsTextRow.holds Try.pinned (OpenSpec.ofChange fnBitsTextWrong)

/-- 'laws.FnBitsParts': WHATEVER THE INPUT: true; the input reads as it did. -/
def fnBitsPartsSpec : ChangeSpec := { name := "fnBitsParts", fn := fun _ => fun
  | [d] => { results := [.lit (.bool true)], args := [d] }
  | _ => none }
def fnBitsPartsRow : OpenClaim := { program := "ytobkemdffhhlfaa", sum := "dce703014264c29bb022f99ba34dac776e583b4a69ea8397205eade37f27c5ae", func := "loop.example/g00081/laws.FnBitsParts", spec := "fnBitsParts", apart := false }
def FnBitsPartsSaid : Prop := fnBitsPartsRow.holds Try.pinned (OpenSpec.ofChange fnBitsPartsSpec)

/-- ITS FALSE NEIGHBOUR: 'it returns false'. Refute it at one input. -/
def fnBitsPartsWrong : ChangeSpec := { name := "fnBitsParts", fn := fun _ => fun
  | [d] => { results := [.lit (.bool false)], args := [d] }
  | _ => none }
def FnBitsPartsWrongFalsely : Prop := fnBitsPartsRow.holds Try.pinned (OpenSpec.ofChange fnBitsPartsWrong)

/-- 'laws.FnBitsTurns': WHATEVER THE INPUT: true; the input reads as it did. -/
def fnBitsTurnsSpec : ChangeSpec := { name := "fnBitsTurns", fn := fun _ => fun
  | [d] => { results := [.lit (.bool true)], args := [d] }
  | _ => none }
def fnBitsTurnsRow : OpenClaim := { program := "ytobkemdffhhlfaa", sum := "dce703014264c29bb022f99ba34dac776e583b4a69ea8397205eade37f27c5ae", func := "loop.example/g00081/laws.FnBitsTurns", spec := "fnBitsTurns", apart := false }
def FnBitsTurnsSaid : Prop := fnBitsTurnsRow.holds Try.pinned (OpenSpec.ofChange fnBitsTurnsSpec)

/-- ITS FALSE NEIGHBOUR: 'it returns false'. Refute it at one input. -/
def fnBitsTurnsWrong : ChangeSpec := { name := "fnBitsTurns", fn := fun _ => fun
  | [d] => { results := [.lit (.bool false)], args := [d] }
  | _ => none }
def FnBitsTurnsWrongFalsely : Prop := fnBitsTurnsRow.holds Try.pinned (OpenSpec.ofChange fnBitsTurnsWrong)

/-- 'laws.FnBitsNext': WHATEVER THE INPUT: true; the input reads as it did. -/
def fnBitsNextSpec : ChangeSpec := { name := "fnBitsNext", fn := fun _ => fun
  | [d] => { results := [.lit (.bool true)], args := [d] }
  | _ => none }
def fnBitsNextRow : OpenClaim := { program := "ytobkemdffhhlfaa", sum := "dce703014264c29bb022f99ba34dac776e583b4a69ea8397205eade37f27c5ae", func := "loop.example/g00081/laws.FnBitsNext", spec := "fnBitsNext", inPlace := ["math/bits.Add64"], apart := false }
def FnBitsNextSaid : Prop := fnBitsNextRow.holds Try.pinned (OpenSpec.ofChange fnBitsNextSpec)

/-- ITS FALSE NEIGHBOUR: 'it returns false'. Refute it at one input. -/
def fnBitsNextWrong : ChangeSpec := { name := "fnBitsNext", fn := fun _ => fun
  | [d] => { results := [.lit (.bool false)], args := [d] }
  | _ => none }
def FnBitsNextWrongFalsely : Prop := fnBitsNextRow.holds Try.pinned (OpenSpec.ofChange fnBitsNextWrong)

/-- 'laws.FnExactBitsOk': WHATEVER THE INPUT: true; the input reads as it did. -/
def fnExactBitsOkSpec : ChangeSpec := { name := "fnExactBitsOk", fn := fun _ => fun
  | [d] => { results := [.lit (.bool true)], args := [d] }
  | _ => none }
def fnExactBitsOkRow : OpenClaim := { program := "ytobkemdffhhlfaa", sum := "dce703014264c29bb022f99ba34dac776e583b4a69ea8397205eade37f27c5ae", func := "loop.example/g00081/laws.FnExactBitsOk", spec := "fnExactBitsOk", apart := false }
def FnExactBitsOkSaid : Prop := fnExactBitsOkRow.holds Try.pinned (OpenSpec.ofChange fnExactBitsOkSpec)

/-- ITS FALSE NEIGHBOUR: 'it returns false'. Refute it at one input. -/
def fnExactBitsOkWrong : ChangeSpec := { name := "fnExactBitsOk", fn := fun _ => fun
  | [d] => { results := [.lit (.bool false)], args := [d] }
  | _ => none }
def FnExactBitsOkWrongFalsely : Prop := fnExactBitsOkRow.holds Try.pinned (OpenSpec.ofChange fnExactBitsOkWrong)

/-- 'laws.FnExactReadBits': WHATEVER THE INPUT: true; the input reads as it did. -/
def fnExactReadBitsSpec : ChangeSpec := { name := "fnExactReadBits", fn := fun _ => fun
  | [d] => { results := [.lit (.bool true)], args := [d] }
  | _ => none }
def fnExactReadBitsRow : OpenClaim := { program := "ytobkemdffhhlfaa", sum := "dce703014264c29bb022f99ba34dac776e583b4a69ea8397205eade37f27c5ae", func := "loop.example/g00081/laws.FnExactReadBits", spec := "fnExactReadBits", inPlace := ["internal/bytealg.IndexByteString"], apart := false }
def FnExactReadBitsSaid : Prop := fnExactReadBitsRow.holds Try.pinned (OpenSpec.ofChange fnExactReadBitsSpec)

/-- ITS FALSE NEIGHBOUR: 'it returns false'. Refute it at one input. -/
def fnExactReadBitsWrong : ChangeSpec := { name := "fnExactReadBits", fn := fun _ => fun
  | [d] => { results := [.lit (.bool false)], args := [d] }
  | _ => none }
def FnExactReadBitsWrongFalsely : Prop := fnExactReadBitsRow.holds Try.pinned (OpenSpec.ofChange fnExactReadBitsWrong)

/-- 'laws.FnExactWriteBits': WHATEVER THE INPUT: true; the input reads as it did. -/
def fnExactWriteBitsSpec : ChangeSpec := { name := "fnExactWriteBits", fn := fun _ => fun
  | [d] => { results := [.lit (.bool true)], args := [d] }
  | _ => none }
def fnExactWriteBitsRow : OpenClaim := { program := "ytobkemdffhhlfaa", sum := "dce703014264c29bb022f99ba34dac776e583b4a69ea8397205eade37f27c5ae", func := "loop.example/g00081/laws.FnExactWriteBits", spec := "fnExactWriteBits", inPlace := ["internal/abi.NoEscape"], apart := false }
def FnExactWriteBitsSaid : Prop := fnExactWriteBitsRow.holds Try.pinned (OpenSpec.ofChange fnExactWriteBitsSpec)

/-- ITS FALSE NEIGHBOUR: 'it returns false'. Refute it at one input. -/
def fnExactWriteBitsWrong : ChangeSpec := { name := "fnExactWriteBits", fn := fun _ => fun
  | [d] => { results := [.lit (.bool false)], args := [d] }
  | _ => none }
def FnExactWriteBitsWrongFalsely : Prop := fnExactWriteBitsRow.holds Try.pinned (OpenSpec.ofChange fnExactWriteBitsWrong)

/-- 'laws.FnExactBitsOf': WHATEVER THE INPUT: true; the input reads as it did. -/
def fnExactBitsOfSpec : ChangeSpec := { name := "fnExactBitsOf", fn := fun _ => fun
  | [d1, d2] => { results := [.lit (.bool true)], args := [d1, d2] }
  | _ => none }
def fnExactBitsOfRow : OpenClaim := { program := "ytobkemdffhhlfaa", sum := "dce703014264c29bb022f99ba34dac776e583b4a69ea8397205eade37f27c5ae", func := "loop.example/g00081/laws.FnExactBitsOf", spec := "fnExactBitsOf", apart := false }
def FnExactBitsOfSaid : Prop := fnExactBitsOfRow.holds Try.pinned (OpenSpec.ofChange fnExactBitsOfSpec)

/-- ITS FALSE NEIGHBOUR: 'it returns false'. Refute it at one input. -/
def fnExactBitsOfWrong : ChangeSpec := { name := "fnExactBitsOf", fn := fun _ => fun
  | [d1, d2] => { results := [.lit (.bool false)], args := [d1, d2] }
  | _ => none }
def FnExactBitsOfWrongFalsely : Prop := fnExactBitsOfRow.holds Try.pinned (OpenSpec.ofChange fnExactBitsOfWrong)

/-- 'laws.FnExactPartOf': WHATEVER THE INPUT: true; the input reads as it did. -/
def fnExactPartOfSpec : ChangeSpec := { name := "fnExactPartOf", fn := fun _ => fun
  | [d1, d2, d3] => { results := [.lit (.bool true)], args := [d1, d2, d3] }
  | _ => none }
def fnExactPartOfRow : OpenClaim := { program := "ytobkemdffhhlfaa", sum := "dce703014264c29bb022f99ba34dac776e583b4a69ea8397205eade37f27c5ae", func := "loop.example/g00081/laws.FnExactPartOf", spec := "fnExactPartOf", apart := false }
def FnExactPartOfSaid : Prop := fnExactPartOfRow.holds Try.pinned (OpenSpec.ofChange fnExactPartOfSpec)

/-- ITS FALSE NEIGHBOUR: 'it returns false'. Refute it at one input. -/
def fnExactPartOfWrong : ChangeSpec := { name := "fnExactPartOf", fn := fun _ => fun
  | [d1, d2, d3] => { results := [.lit (.bool false)], args := [d1, d2, d3] }
  | _ => none }
def FnExactPartOfWrongFalsely : Prop := fnExactPartOfRow.holds Try.pinned (OpenSpec.ofChange fnExactPartOfWrong)

/-- 'laws.FnExactJoinBits': WHATEVER THE INPUT: true; the input reads as it did. -/
def fnExactJoinBitsSpec : ChangeSpec := { name := "fnExactJoinBits", fn := fun _ => fun
  | [d1, d2] => { results := [.lit (.bool true)], args := [d1, d2] }
  | _ => none }
def fnExactJoinBitsRow : OpenClaim := { program := "ytobkemdffhhlfaa", sum := "dce703014264c29bb022f99ba34dac776e583b4a69ea8397205eade37f27c5ae", func := "loop.example/g00081/laws.FnExactJoinBits", spec := "fnExactJoinBits", apart := false }
def FnExactJoinBitsSaid : Prop := fnExactJoinBitsRow.holds Try.pinned (OpenSpec.ofChange fnExactJoinBitsSpec)

/-- ITS FALSE NEIGHBOUR: 'it returns false'. Refute it at one input. -/
def fnExactJoinBitsWrong : ChangeSpec := { name := "fnExactJoinBits", fn := fun _ => fun
  | [d1, d2] => { results := [.lit (.bool false)], args := [d1, d2] }
  | _ => none }
def FnExactJoinBitsWrongFalsely : Prop := fnExactJoinBitsRow.holds Try.pinned (OpenSpec.ofChange fnExactJoinBitsWrong)

/-- 'laws.FnExactTurnBits': WHATEVER THE INPUT: true; the input reads as it did. -/
def fnExactTurnBitsSpec : ChangeSpec := { name := "fnExactTurnBits", fn := fun _ => fun
  | [d1, d2] => { results := [.lit (.bool true)], args := [d1, d2] }
  | _ => none }
def fnExactTurnBitsRow : OpenClaim := { program := "ytobkemdffhhlfaa", sum := "dce703014264c29bb022f99ba34dac776e583b4a69ea8397205eade37f27c5ae", func := "loop.example/g00081/laws.FnExactTurnBits", spec := "fnExactTurnBits", apart := false }
def FnExactTurnBitsSaid : Prop := fnExactTurnBitsRow.holds Try.pinned (OpenSpec.ofChange fnExactTurnBitsSpec)

/-- ITS FALSE NEIGHBOUR: 'it returns false'. Refute it at one input. -/
def fnExactTurnBitsWrong : ChangeSpec := { name := "fnExactTurnBits", fn := fun _ => fun
  | [d1, d2] => { results := [.lit (.bool false)], args := [d1, d2] }
  | _ => none }
def FnExactTurnBitsWrongFalsely : Prop := fnExactTurnBitsRow.holds Try.pinned (OpenSpec.ofChange fnExactTurnBitsWrong)

/-- 'laws.FnExactRepeatBits': WHATEVER THE INPUT: true; the input reads as it did. -/
def fnExactRepeatBitsSpec : ChangeSpec := { name := "fnExactRepeatBits", fn := fun _ => fun
  | [d1, d2] => { results := [.lit (.bool true)], args := [d1, d2] }
  | _ => none }
def fnExactRepeatBitsRow : OpenClaim := { program := "ytobkemdffhhlfaa", sum := "dce703014264c29bb022f99ba34dac776e583b4a69ea8397205eade37f27c5ae", func := "loop.example/g00081/laws.FnExactRepeatBits", spec := "fnExactRepeatBits", apart := false }
def FnExactRepeatBitsSaid : Prop := fnExactRepeatBitsRow.holds Try.pinned (OpenSpec.ofChange fnExactRepeatBitsSpec)

/-- ITS FALSE NEIGHBOUR: 'it returns false'. Refute it at one input. -/
def fnExactRepeatBitsWrong : ChangeSpec := { name := "fnExactRepeatBits", fn := fun _ => fun
  | [d1, d2] => { results := [.lit (.bool false)], args := [d1, d2] }
  | _ => none }
def FnExactRepeatBitsWrongFalsely : Prop := fnExactRepeatBitsRow.holds Try.pinned (OpenSpec.ofChange fnExactRepeatBitsWrong)

/-- 'laws.FnExactWidenBits': WHATEVER THE INPUT: true; the input reads as it did. -/
def fnExactWidenBitsSpec : ChangeSpec := { name := "fnExactWidenBits", fn := fun _ => fun
  | [d1, d2, d3] => { results := [.lit (.bool true)], args := [d1, d2, d3] }
  | _ => none }
def fnExactWidenBitsRow : OpenClaim := { program := "ytobkemdffhhlfaa", sum := "dce703014264c29bb022f99ba34dac776e583b4a69ea8397205eade37f27c5ae", func := "loop.example/g00081/laws.FnExactWidenBits", spec := "fnExactWidenBits", apart := false }
def FnExactWidenBitsSaid : Prop := fnExactWidenBitsRow.holds Try.pinned (OpenSpec.ofChange fnExactWidenBitsSpec)

/-- ITS FALSE NEIGHBOUR: 'it returns false'. Refute it at one input. -/
def fnExactWidenBitsWrong : ChangeSpec := { name := "fnExactWidenBits", fn := fun _ => fun
  | [d1, d2, d3] => { results := [.lit (.bool false)], args := [d1, d2, d3] }
  | _ => none }
def FnExactWidenBitsWrongFalsely : Prop := fnExactWidenBitsRow.holds Try.pinned (OpenSpec.ofChange fnExactWidenBitsWrong)

/-- 'laws.FnExactCompareBits': WHATEVER THE INPUT: true; the input reads as it did. -/
def fnExactCompareBitsSpec : ChangeSpec := { name := "fnExactCompareBits", fn := fun _ => fun
  | [d1, d2] => { results := [.lit (.bool true)], args := [d1, d2] }
  | _ => none }
def fnExactCompareBitsRow : OpenClaim := { program := "ytobkemdffhhlfaa", sum := "dce703014264c29bb022f99ba34dac776e583b4a69ea8397205eade37f27c5ae", func := "loop.example/g00081/laws.FnExactCompareBits", spec := "fnExactCompareBits", apart := false }
def FnExactCompareBitsSaid : Prop := fnExactCompareBitsRow.holds Try.pinned (OpenSpec.ofChange fnExactCompareBitsSpec)

/-- ITS FALSE NEIGHBOUR: 'it returns false'. Refute it at one input. -/
def fnExactCompareBitsWrong : ChangeSpec := { name := "fnExactCompareBits", fn := fun _ => fun
  | [d1, d2] => { results := [.lit (.bool false)], args := [d1, d2] }
  | _ => none }
def FnExactCompareBitsWrongFalsely : Prop := fnExactCompareBitsRow.holds Try.pinned (OpenSpec.ofChange fnExactCompareBitsWrong)

/-- 'laws.FnExactNextBits': WHATEVER THE INPUT: true; the input reads as it did. -/
def fnExactNextBitsSpec : ChangeSpec := { name := "fnExactNextBits", fn := fun _ => fun
  | [d] => { results := [.lit (.bool true)], args := [d] }
  | _ => none }
def fnExactNextBitsRow : OpenClaim := { program := "ytobkemdffhhlfaa", sum := "dce703014264c29bb022f99ba34dac776e583b4a69ea8397205eade37f27c5ae", func := "loop.example/g00081/laws.FnExactNextBits", spec := "fnExactNextBits", inPlace := ["math/bits.Add64"], apart := false }
def FnExactNextBitsSaid : Prop := fnExactNextBitsRow.holds Try.pinned (OpenSpec.ofChange fnExactNextBitsSpec)

/-- ITS FALSE NEIGHBOUR: 'it returns false'. Refute it at one input. -/
def fnExactNextBitsWrong : ChangeSpec := { name := "fnExactNextBits", fn := fun _ => fun
  | [d] => { results := [.lit (.bool false)], args := [d] }
  | _ => none }
def FnExactNextBitsWrongFalsely : Prop := fnExactNextBitsRow.holds Try.pinned (OpenSpec.ofChange fnExactNextBitsWrong)

/-- 'laws.FnExactCountOnes': WHATEVER THE INPUT: true; the input reads as it did. -/
def fnExactCountOnesSpec : ChangeSpec := { name := "fnExactCountOnes", fn := fun _ => fun
  | [d] => { results := [.lit (.bool true)], args := [d] }
  | _ => none }
def fnExactCountOnesRow : OpenClaim := { program := "ytobkemdffhhlfaa", sum := "dce703014264c29bb022f99ba34dac776e583b4a69ea8397205eade37f27c5ae", func := "loop.example/g00081/laws.FnExactCountOnes", spec := "fnExactCountOnes", apart := false }
def FnExactCountOnesSaid : Prop := fnExactCountOnesRow.holds Try.pinned (OpenSpec.ofChange fnExactCountOnesSpec)

/-- ITS FALSE NEIGHBOUR: 'it returns false'. Refute it at one input. -/
def fnExactCountOnesWrong : ChangeSpec := { name := "fnExactCountOnes", fn := fun _ => fun
  | [d] => { results := [.lit (.bool false)], args := [d] }
  | _ => none }
def FnExactCountOnesWrongFalsely : Prop := fnExactCountOnesRow.holds Try.pinned (OpenSpec.ofChange fnExactCountOnesWrong)

/- THE SECOND FORM. 'bulk': how many values and letters a reading holds, each counted each time it is reached (what is shared counts as often as it is met; a slice's spare places count too). A statement '..UptoSaid' is the law's where the arguments, and the package variables that the reading takes, are together of bulk at most 1048576: NARROWER than '..Said'. Prove '..Said' where nothing that the law and all that it calls make is longer than what came in: it says more and counts as full. Else prove '..UptoSaid'. A law counts once. -/
mutual
def uptoBulk {H : Type} : DataW H → Nat
  | .lit (.string bytes) => bytes.length + 1
  | .lit _ => 1
  | .nil => 1
  | .ptr d => uptoBulk d + 1
  | .slice elems spare => uptoBulkAll elems + uptoBulkAll spare + 1
  | .agg parts => uptoBulkAll parts + 1
  | .iface _ d => uptoBulk d + 1
  | .map entries => uptoBulkEntries entries + 1
  | .held _ => 1
def uptoBulkAll {H : Type} : List (DataW H) → Nat
  | [] => 0
  | d :: r => uptoBulk d + uptoBulkAll r
def uptoBulkEntries {H : Type} : List (Lit × DataW H) → Nat
  | [] => 0
  | x :: r => uptoBulkEntry x + uptoBulkEntries r
def uptoBulkEntry {H : Type} : Lit × DataW H → Nat
  | (.string bytes, d) => bytes.length + uptoBulk d + 1
  | (_, d) => uptoBulk d + 1
 end
def uptoSmall : (H : Type) → List (DataW H) → Bool := fun _ ds => decide (uptoBulkAll ds ≤ 1048576)
def OpenSpec.upto (s : _root_.Go.ChangeSpec) : _root_.Go.OpenSpec := { _root_.Go.OpenSpec.ofChange s with cond := some uptoSmall }

/-- 'laws.FnBitsText', WHERE WHAT IT READS IS OF BULK AT MOST 1048576: true; the input reads as it did. -/
def fnBitsTextUptoRow : OpenClaim := { program := "ytobkemdffhhlfaa", sum := "dce703014264c29bb022f99ba34dac776e583b4a69ea8397205eade37f27c5ae", func := "loop.example/g00081/laws.FnBitsText", spec := "fnBitsText", inPlace := ["internal/abi.NoEscape", "internal/bytealg.IndexByteString"], apart := false, narrowed := true }
def FnBitsTextUptoSaid : Prop := fnBitsTextUptoRow.holds Try.pinned (OpenSpec.upto fnBitsTextSpec)

/-- 'laws.FnBitsParts', WHERE WHAT IT READS IS OF BULK AT MOST 1048576: true; the input reads as it did. -/
def fnBitsPartsUptoRow : OpenClaim := { program := "ytobkemdffhhlfaa", sum := "dce703014264c29bb022f99ba34dac776e583b4a69ea8397205eade37f27c5ae", func := "loop.example/g00081/laws.FnBitsParts", spec := "fnBitsParts", apart := false, narrowed := true }
def FnBitsPartsUptoSaid : Prop := fnBitsPartsUptoRow.holds Try.pinned (OpenSpec.upto fnBitsPartsSpec)

/-- 'laws.FnBitsTurns', WHERE WHAT IT READS IS OF BULK AT MOST 1048576: true; the input reads as it did. -/
def fnBitsTurnsUptoRow : OpenClaim := { program := "ytobkemdffhhlfaa", sum := "dce703014264c29bb022f99ba34dac776e583b4a69ea8397205eade37f27c5ae", func := "loop.example/g00081/laws.FnBitsTurns", spec := "fnBitsTurns", apart := false, narrowed := true }
def FnBitsTurnsUptoSaid : Prop := fnBitsTurnsUptoRow.holds Try.pinned (OpenSpec.upto fnBitsTurnsSpec)

/-- 'laws.FnBitsNext', WHERE WHAT IT READS IS OF BULK AT MOST 1048576: true; the input reads as it did. -/
def fnBitsNextUptoRow : OpenClaim := { program := "ytobkemdffhhlfaa", sum := "dce703014264c29bb022f99ba34dac776e583b4a69ea8397205eade37f27c5ae", func := "loop.example/g00081/laws.FnBitsNext", spec := "fnBitsNext", inPlace := ["math/bits.Add64"], apart := false, narrowed := true }
def FnBitsNextUptoSaid : Prop := fnBitsNextUptoRow.holds Try.pinned (OpenSpec.upto fnBitsNextSpec)

/-- 'laws.FnExactBitsOk', WHERE WHAT IT READS IS OF BULK AT MOST 1048576: true; the input reads as it did. -/
def fnExactBitsOkUptoRow : OpenClaim := { program := "ytobkemdffhhlfaa", sum := "dce703014264c29bb022f99ba34dac776e583b4a69ea8397205eade37f27c5ae", func := "loop.example/g00081/laws.FnExactBitsOk", spec := "fnExactBitsOk", apart := false, narrowed := true }
def FnExactBitsOkUptoSaid : Prop := fnExactBitsOkUptoRow.holds Try.pinned (OpenSpec.upto fnExactBitsOkSpec)

/-- 'laws.FnExactReadBits', WHERE WHAT IT READS IS OF BULK AT MOST 1048576: true; the input reads as it did. -/
def fnExactReadBitsUptoRow : OpenClaim := { program := "ytobkemdffhhlfaa", sum := "dce703014264c29bb022f99ba34dac776e583b4a69ea8397205eade37f27c5ae", func := "loop.example/g00081/laws.FnExactReadBits", spec := "fnExactReadBits", inPlace := ["internal/bytealg.IndexByteString"], apart := false, narrowed := true }
def FnExactReadBitsUptoSaid : Prop := fnExactReadBitsUptoRow.holds Try.pinned (OpenSpec.upto fnExactReadBitsSpec)

/-- 'laws.FnExactWriteBits', WHERE WHAT IT READS IS OF BULK AT MOST 1048576: true; the input reads as it did. -/
def fnExactWriteBitsUptoRow : OpenClaim := { program := "ytobkemdffhhlfaa", sum := "dce703014264c29bb022f99ba34dac776e583b4a69ea8397205eade37f27c5ae", func := "loop.example/g00081/laws.FnExactWriteBits", spec := "fnExactWriteBits", inPlace := ["internal/abi.NoEscape"], apart := false, narrowed := true }
def FnExactWriteBitsUptoSaid : Prop := fnExactWriteBitsUptoRow.holds Try.pinned (OpenSpec.upto fnExactWriteBitsSpec)

/-- 'laws.FnExactBitsOf', WHERE WHAT IT READS IS OF BULK AT MOST 1048576: true; the input reads as it did. -/
def fnExactBitsOfUptoRow : OpenClaim := { program := "ytobkemdffhhlfaa", sum := "dce703014264c29bb022f99ba34dac776e583b4a69ea8397205eade37f27c5ae", func := "loop.example/g00081/laws.FnExactBitsOf", spec := "fnExactBitsOf", apart := false, narrowed := true }
def FnExactBitsOfUptoSaid : Prop := fnExactBitsOfUptoRow.holds Try.pinned (OpenSpec.upto fnExactBitsOfSpec)

/-- 'laws.FnExactPartOf', WHERE WHAT IT READS IS OF BULK AT MOST 1048576: true; the input reads as it did. -/
def fnExactPartOfUptoRow : OpenClaim := { program := "ytobkemdffhhlfaa", sum := "dce703014264c29bb022f99ba34dac776e583b4a69ea8397205eade37f27c5ae", func := "loop.example/g00081/laws.FnExactPartOf", spec := "fnExactPartOf", apart := false, narrowed := true }
def FnExactPartOfUptoSaid : Prop := fnExactPartOfUptoRow.holds Try.pinned (OpenSpec.upto fnExactPartOfSpec)

/-- 'laws.FnExactJoinBits', WHERE WHAT IT READS IS OF BULK AT MOST 1048576: true; the input reads as it did. -/
def fnExactJoinBitsUptoRow : OpenClaim := { program := "ytobkemdffhhlfaa", sum := "dce703014264c29bb022f99ba34dac776e583b4a69ea8397205eade37f27c5ae", func := "loop.example/g00081/laws.FnExactJoinBits", spec := "fnExactJoinBits", apart := false, narrowed := true }
def FnExactJoinBitsUptoSaid : Prop := fnExactJoinBitsUptoRow.holds Try.pinned (OpenSpec.upto fnExactJoinBitsSpec)

/-- 'laws.FnExactTurnBits', WHERE WHAT IT READS IS OF BULK AT MOST 1048576: true; the input reads as it did. -/
def fnExactTurnBitsUptoRow : OpenClaim := { program := "ytobkemdffhhlfaa", sum := "dce703014264c29bb022f99ba34dac776e583b4a69ea8397205eade37f27c5ae", func := "loop.example/g00081/laws.FnExactTurnBits", spec := "fnExactTurnBits", apart := false, narrowed := true }
def FnExactTurnBitsUptoSaid : Prop := fnExactTurnBitsUptoRow.holds Try.pinned (OpenSpec.upto fnExactTurnBitsSpec)

/-- 'laws.FnExactRepeatBits', WHERE WHAT IT READS IS OF BULK AT MOST 1048576: true; the input reads as it did. -/
def fnExactRepeatBitsUptoRow : OpenClaim := { program := "ytobkemdffhhlfaa", sum := "dce703014264c29bb022f99ba34dac776e583b4a69ea8397205eade37f27c5ae", func := "loop.example/g00081/laws.FnExactRepeatBits", spec := "fnExactRepeatBits", apart := false, narrowed := true }
def FnExactRepeatBitsUptoSaid : Prop := fnExactRepeatBitsUptoRow.holds Try.pinned (OpenSpec.upto fnExactRepeatBitsSpec)

/-- 'laws.FnExactWidenBits', WHERE WHAT IT READS IS OF BULK AT MOST 1048576: true; the input reads as it did. -/
def fnExactWidenBitsUptoRow : OpenClaim := { program := "ytobkemdffhhlfaa", sum := "dce703014264c29bb022f99ba34dac776e583b4a69ea8397205eade37f27c5ae", func := "loop.example/g00081/laws.FnExactWidenBits", spec := "fnExactWidenBits", apart := false, narrowed := true }
def FnExactWidenBitsUptoSaid : Prop := fnExactWidenBitsUptoRow.holds Try.pinned (OpenSpec.upto fnExactWidenBitsSpec)

/-- 'laws.FnExactCompareBits', WHERE WHAT IT READS IS OF BULK AT MOST 1048576: true; the input reads as it did. -/
def fnExactCompareBitsUptoRow : OpenClaim := { program := "ytobkemdffhhlfaa", sum := "dce703014264c29bb022f99ba34dac776e583b4a69ea8397205eade37f27c5ae", func := "loop.example/g00081/laws.FnExactCompareBits", spec := "fnExactCompareBits", apart := false, narrowed := true }
def FnExactCompareBitsUptoSaid : Prop := fnExactCompareBitsUptoRow.holds Try.pinned (OpenSpec.upto fnExactCompareBitsSpec)

/-- 'laws.FnExactNextBits', WHERE WHAT IT READS IS OF BULK AT MOST 1048576: true; the input reads as it did. -/
def fnExactNextBitsUptoRow : OpenClaim := { program := "ytobkemdffhhlfaa", sum := "dce703014264c29bb022f99ba34dac776e583b4a69ea8397205eade37f27c5ae", func := "loop.example/g00081/laws.FnExactNextBits", spec := "fnExactNextBits", inPlace := ["math/bits.Add64"], apart := false, narrowed := true }
def FnExactNextBitsUptoSaid : Prop := fnExactNextBitsUptoRow.holds Try.pinned (OpenSpec.upto fnExactNextBitsSpec)

/-- 'laws.FnExactCountOnes', WHERE WHAT IT READS IS OF BULK AT MOST 1048576: true; the input reads as it did. -/
def fnExactCountOnesUptoRow : OpenClaim := { program := "ytobkemdffhhlfaa", sum := "dce703014264c29bb022f99ba34dac776e583b4a69ea8397205eade37f27c5ae", func := "loop.example/g00081/laws.FnExactCountOnes", spec := "fnExactCountOnes", apart := false, narrowed := true }
def FnExactCountOnesUptoSaid : Prop := fnExactCountOnesUptoRow.holds Try.pinned (OpenSpec.upto fnExactCountOnesSpec)

end Rows
end Go.Proofs.Ytobkemdffhhlfaa
