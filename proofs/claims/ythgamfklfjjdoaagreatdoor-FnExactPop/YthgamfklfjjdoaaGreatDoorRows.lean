/-
  NARROWER THAN 'FOR EVERY INPUT', by the rows' own cells (each row's printed sentence says how): FnExactAllOf: laid · FnExactPush: laid · FnExactPop: laid.
  DERIVED. THE GIVEN ROWS OF THIS SEAT. 3 by the template 'for every input the law returns true; each argument reads behind the call as it read before'; 0 by the template 'total and deterministic' (their statements: YthgamfklfjjdoaaGreatDoorTotals.lean).
  GIVEN WITH THE SEED: the statements are not yours to turn. If you find one false, say at which input.
  Laid BY PROGRAM, IN A SANDBOX (cutbox-rows.mjs): the forced cells as the released guide's own fill.sh prints them over the translation 58be6156fd8b1742… (all of the seat's roots in one cut). By AI agents, Wed Nov 11 2026. No macro, syntax, notation, axiom, sorry.
-/
import Derived.Test.YthgamfklfjjdoaaGreatDoorChecked
import GoSem.Claim
import GoSem.ClaimJoined
import GoSem.ClaimMapViews
import Derived.JoinedTies
import Derived.KernelRfl
namespace Go.Proofs.YthgamfklfjjdoaaGreatDoor
/- THE CELL 'sum', in the pinned program and in every row, IS THE sha256 OF THE DUMP (.gsa) THAT YthgamfklfjjdoaaGreatDoorProg.lean LOADS. Nothing in Lean hashes anything: it is a label: what it is worth is what the hold of that sum in a sandbox is worth. -/
noncomputable def Tryz.pinned : Pinned := { name := "ythgamfklfjjdoaagreatdoor", sum := "58be6156fd8b1742d20e6fe268ec6f2d6806d41372080f5199089ba1179b0fc2", checked := Tryz.checked }
namespace Rows
def none {H : Type} : Left H := { results := [], args := [] }

/- WHAT THE LISTED PACKAGE-LEVEL VARIABLES READ AS WHEN THE CALL BEGINS. Each datum BY PROGRAM (the guide's laid-datum.mjs) off the statement by which the dump's own 'gosem.cut.vars' lays the variable. In a bare row this is a premise. The card (YthgamfklfjjdoaaGreatDoorCards.lean) ties it to the program's text. -/
def laid_loop_example_g00081_impl_forms {H : Type} : DataW H := .agg [.agg [.lit (.string []), .lit (.int .i64 0), .lit (.int .i64 0), .lit (.int .i64 0)], .agg [.lit (.string []), .lit (.int .i64 0), .lit (.int .i64 0), .lit (.int .i64 0)], .agg [.lit (.string []), .lit (.int .i64 0), .lit (.int .i64 0), .lit (.int .i64 0)], .agg [.lit (.string [99, 97, 116]), .lit (.int .i64 0), .lit (.int .i64 2), .lit (.int .i64 4096)], .agg [.lit (.string [112, 97, 114, 116]), .lit (.int .i64 2), .lit (.int .i64 1), .lit (.int .i64 1)], .agg [.lit (.string [122, 101, 114, 111]), .lit (.int .i64 1), .lit (.int .i64 1), .lit (.int .i64 1)], .agg [.lit (.string [115, 105, 103, 110]), .lit (.int .i64 1), .lit (.int .i64 1), .lit (.int .i64 1)], .agg [.lit (.string [108, 101, 102, 116]), .lit (.int .i64 1), .lit (.int .i64 1), .lit (.int .i64 1)], .agg [.lit (.string [114, 105, 103, 104, 116]), .lit (.int .i64 1), .lit (.int .i64 1), .lit (.int .i64 1)], .agg [.lit (.string [114, 101, 112]), .lit (.int .i64 1), .lit (.int .i64 1), .lit (.int .i64 1)]]

/-- 'laws.FnExactAllOf': WHATEVER THE INPUT: true; the input reads as it did. -/
def fnExactAllOfSpec : ChangeSpec := { name := "fnExactAllOf", vars := ["loop.example/g00081/impl.forms"], fn := fun _ => fun
  | [d, g1] => { results := [.lit (.bool true)], args := [d], vars := [g1] }
  | _ => none }
def fnExactAllOfRow : OpenClaim := { program := "ythgamfklfjjdoaagreatdoor", sum := "58be6156fd8b1742d20e6fe268ec6f2d6806d41372080f5199089ba1179b0fc2", func := "loop.example/g00081/laws.FnExactAllOf", spec := "fnExactAllOf", unfollowed := true, recurses := true, named := ["loop.example/g00081/impl.forms"], apart := false, laid := [("loop.example/g00081/impl.forms", laid_loop_example_g00081_impl_forms)] }
def FnExactAllOfSaid : Prop := fnExactAllOfRow.holds Tryz.pinned (OpenSpec.ofChange fnExactAllOfSpec)

/-- ITS FALSE NEIGHBOUR: 'it returns false'. Refute it at one input. -/
def fnExactAllOfWrong : ChangeSpec := { name := "fnExactAllOf", vars := ["loop.example/g00081/impl.forms"], fn := fun _ => fun
  | [d, g1] => { results := [.lit (.bool false)], args := [d], vars := [g1] }
  | _ => none }
def FnExactAllOfWrongFalsely : Prop := fnExactAllOfRow.holds Tryz.pinned (OpenSpec.ofChange fnExactAllOfWrong)

/-- 'laws.FnExactPush': WHATEVER THE INPUT: true; the input reads as it did. -/
def fnExactPushSpec : ChangeSpec := { name := "fnExactPush", vars := ["loop.example/g00081/impl.forms"], fn := fun _ => fun
  | [d, g1] => { results := [.lit (.bool true)], args := [d], vars := [g1] }
  | _ => none }
def fnExactPushRow : OpenClaim := { program := "ythgamfklfjjdoaagreatdoor", sum := "58be6156fd8b1742d20e6fe268ec6f2d6806d41372080f5199089ba1179b0fc2", func := "loop.example/g00081/laws.FnExactPush", spec := "fnExactPush", unfollowed := true, recurses := true, named := ["loop.example/g00081/impl.forms"], apart := false, laid := [("loop.example/g00081/impl.forms", laid_loop_example_g00081_impl_forms)] }
def FnExactPushSaid : Prop := fnExactPushRow.holds Tryz.pinned (OpenSpec.ofChange fnExactPushSpec)

/-- ITS FALSE NEIGHBOUR: 'it returns false'. Refute it at one input. -/
def fnExactPushWrong : ChangeSpec := { name := "fnExactPush", vars := ["loop.example/g00081/impl.forms"], fn := fun _ => fun
  | [d, g1] => { results := [.lit (.bool false)], args := [d], vars := [g1] }
  | _ => none }
def FnExactPushWrongFalsely : Prop := fnExactPushRow.holds Tryz.pinned (OpenSpec.ofChange fnExactPushWrong)

/-- 'laws.FnExactPop': WHATEVER THE INPUT: true; the input reads as it did. -/
def fnExactPopSpec : ChangeSpec := { name := "fnExactPop", vars := ["loop.example/g00081/impl.forms"], fn := fun _ => fun
  | [d, g1] => { results := [.lit (.bool true)], args := [d], vars := [g1] }
  | _ => none }
def fnExactPopRow : OpenClaim := { program := "ythgamfklfjjdoaagreatdoor", sum := "58be6156fd8b1742d20e6fe268ec6f2d6806d41372080f5199089ba1179b0fc2", func := "loop.example/g00081/laws.FnExactPop", spec := "fnExactPop", unfollowed := true, recurses := true, named := ["loop.example/g00081/impl.forms"], apart := false, laid := [("loop.example/g00081/impl.forms", laid_loop_example_g00081_impl_forms)] }
def FnExactPopSaid : Prop := fnExactPopRow.holds Tryz.pinned (OpenSpec.ofChange fnExactPopSpec)

/-- ITS FALSE NEIGHBOUR: 'it returns false'. Refute it at one input. -/
def fnExactPopWrong : ChangeSpec := { name := "fnExactPop", vars := ["loop.example/g00081/impl.forms"], fn := fun _ => fun
  | [d, g1] => { results := [.lit (.bool false)], args := [d], vars := [g1] }
  | _ => none }
def FnExactPopWrongFalsely : Prop := fnExactPopRow.holds Tryz.pinned (OpenSpec.ofChange fnExactPopWrong)

/- THE SECOND FORM. 'bulk': how many values and letters a reading holds, each counted each time it is reached (what is shared counts as often as it is met; a slice's spare places count too). A statement '..UptoSaid' is the law's where the arguments, and the package variables that the reading takes, are together of bulk at most 1048576: NARROWER than '..Said'. Prove '..Said' where nothing that the law and all that it calls make is longer than what came in: it says more and counts as full. Else prove '..UptoSaid'. A law counts once. -/
mutual
def uptoBulk {H : Type} : DataW H → Nat
  | .lit (.string bytes) => bytes.length + 1
  | .lit _ => 1
  | .nil => 1
  | .ptr d => uptoBulk d + 1
  | .slice elems spare => uptoBulkAll elems + uptoBulkAll spare + 1
  | .agg parts => uptoBulkAll parts + 1
  | .iface _ d => uptoBulk d + 1
  | .map entries => uptoBulkEntries entries + 1
  | .held _ => 1
def uptoBulkAll {H : Type} : List (DataW H) → Nat
  | [] => 0
  | d :: r => uptoBulk d + uptoBulkAll r
def uptoBulkEntries {H : Type} : List (Lit × DataW H) → Nat
  | [] => 0
  | x :: r => uptoBulkEntry x + uptoBulkEntries r
def uptoBulkEntry {H : Type} : Lit × DataW H → Nat
  | (.string bytes, d) => bytes.length + uptoBulk d + 1
  | (_, d) => uptoBulk d + 1
 end
def uptoSmall : (H : Type) → List (DataW H) → Bool := fun _ ds => decide (uptoBulkAll ds ≤ 1048576)
def OpenSpec.upto (s : _root_.Go.ChangeSpec) : _root_.Go.OpenSpec := { _root_.Go.OpenSpec.ofChange s with cond := some uptoSmall }

/-- 'laws.FnExactAllOf', WHERE WHAT IT READS IS OF BULK AT MOST 1048576: true; the input reads as it did. -/
def fnExactAllOfUptoRow : OpenClaim := { program := "ythgamfklfjjdoaagreatdoor", sum := "58be6156fd8b1742d20e6fe268ec6f2d6806d41372080f5199089ba1179b0fc2", func := "loop.example/g00081/laws.FnExactAllOf", spec := "fnExactAllOf", unfollowed := true, recurses := true, named := ["loop.example/g00081/impl.forms"], apart := false, laid := [("loop.example/g00081/impl.forms", laid_loop_example_g00081_impl_forms)], narrowed := true }
def FnExactAllOfUptoSaid : Prop := fnExactAllOfUptoRow.holds Tryz.pinned (OpenSpec.upto fnExactAllOfSpec)

/-- 'laws.FnExactPush', WHERE WHAT IT READS IS OF BULK AT MOST 1048576: true; the input reads as it did. -/
def fnExactPushUptoRow : OpenClaim := { program := "ythgamfklfjjdoaagreatdoor", sum := "58be6156fd8b1742d20e6fe268ec6f2d6806d41372080f5199089ba1179b0fc2", func := "loop.example/g00081/laws.FnExactPush", spec := "fnExactPush", unfollowed := true, recurses := true, named := ["loop.example/g00081/impl.forms"], apart := false, laid := [("loop.example/g00081/impl.forms", laid_loop_example_g00081_impl_forms)], narrowed := true }
def FnExactPushUptoSaid : Prop := fnExactPushUptoRow.holds Tryz.pinned (OpenSpec.upto fnExactPushSpec)

/-- 'laws.FnExactPop', WHERE WHAT IT READS IS OF BULK AT MOST 1048576: true; the input reads as it did. -/
def fnExactPopUptoRow : OpenClaim := { program := "ythgamfklfjjdoaagreatdoor", sum := "58be6156fd8b1742d20e6fe268ec6f2d6806d41372080f5199089ba1179b0fc2", func := "loop.example/g00081/laws.FnExactPop", spec := "fnExactPop", unfollowed := true, recurses := true, named := ["loop.example/g00081/impl.forms"], apart := false, laid := [("loop.example/g00081/impl.forms", laid_loop_example_g00081_impl_forms)], narrowed := true }
def FnExactPopUptoSaid : Prop := fnExactPopUptoRow.holds Tryz.pinned (OpenSpec.upto fnExactPopSpec)

end Rows
end Go.Proofs.YthgamfklfjjdoaaGreatDoor
