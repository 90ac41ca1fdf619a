/-
  NARROWER THAN 'FOR EVERY INPUT', by the rows' own cells (each row's printed sentence says how): FnExactRules: laid · FnExactRewrite: laid.
  DERIVED. THE GIVEN ROWS OF THIS SEAT. 2 by the template 'for every input the law returns true; each argument reads behind the call as it read before'; 0 by the template 'total and deterministic' (their statements: YtdlmgndmfphneaaGreatDoorTotals.lean).
  GIVEN WITH THE SEED: the statements are not yours to turn. If you find one false, say at which input.
  Laid BY PROGRAM, IN A SANDBOX (cutbox-rows.mjs): the forced cells as the released guide's own fill.sh prints them over the translation a15eb5e288e48b4a… (all of the seat's roots in one cut). By AI agents, Wed Nov 11 2026. No macro, syntax, notation, axiom, sorry.
-/
import Derived.Test.YtdlmgndmfphneaaGreatDoorChecked
import GoSem.Claim
import GoSem.ClaimJoined
import GoSem.ClaimMapViews
import Derived.JoinedTies
import Derived.KernelRfl
namespace Go.Proofs.YtdlmgndmfphneaaGreatDoor
/- THE CELL 'sum', in the pinned program and in every row, IS THE sha256 OF THE DUMP (.gsa) THAT YtdlmgndmfphneaaGreatDoorProg.lean LOADS. Nothing in Lean hashes anything: it is a label: what it is worth is what the hold of that sum in a sandbox is worth. -/
noncomputable def Tryz.pinned : Pinned := { name := "ytdlmgndmfphneaagreatdoor", sum := "a15eb5e288e48b4a614ae2379804db956efe8b18ce5de0cd0a3ff5553c86a9a0", checked := Tryz.checked }
namespace Rows
def none {H : Type} : Left H := { results := [], args := [] }

/- WHAT THE LISTED PACKAGE-LEVEL VARIABLES READ AS WHEN THE CALL BEGINS. Each datum BY PROGRAM (the guide's laid-datum.mjs) off the statement by which the dump's own 'gosem.cut.vars' lays the variable. In a bare row this is a premise. The card (YtdlmgndmfphneaaGreatDoorCards.lean) ties it to the program's text. -/
def laid_loop_example_g00081_impl_forms {H : Type} : DataW H := .agg [.agg [.lit (.string []), .lit (.int .i64 0), .lit (.int .i64 0), .lit (.int .i64 0)], .agg [.lit (.string []), .lit (.int .i64 0), .lit (.int .i64 0), .lit (.int .i64 0)], .agg [.lit (.string []), .lit (.int .i64 0), .lit (.int .i64 0), .lit (.int .i64 0)], .agg [.lit (.string [99, 97, 116]), .lit (.int .i64 0), .lit (.int .i64 2), .lit (.int .i64 4096)], .agg [.lit (.string [112, 97, 114, 116]), .lit (.int .i64 2), .lit (.int .i64 1), .lit (.int .i64 1)], .agg [.lit (.string [122, 101, 114, 111]), .lit (.int .i64 1), .lit (.int .i64 1), .lit (.int .i64 1)], .agg [.lit (.string [115, 105, 103, 110]), .lit (.int .i64 1), .lit (.int .i64 1), .lit (.int .i64 1)], .agg [.lit (.string [108, 101, 102, 116]), .lit (.int .i64 1), .lit (.int .i64 1), .lit (.int .i64 1)], .agg [.lit (.string [114, 105, 103, 104, 116]), .lit (.int .i64 1), .lit (.int .i64 1), .lit (.int .i64 1)], .agg [.lit (.string [114, 101, 112]), .lit (.int .i64 1), .lit (.int .i64 1), .lit (.int .i64 1)]]

/-- 'laws.FnExactRules': WHATEVER THE INPUT: true; the input reads as it did. -/
def fnExactRulesSpec : ChangeSpec := { name := "fnExactRules", vars := ["loop.example/g00081/impl.forms"], fn := fun _ => fun
  | [d1, d2, d3, g1] => { results := [.lit (.bool true)], args := [d1, d2, d3], vars := [g1] }
  | _ => none }
def fnExactRulesRow : OpenClaim := { program := "ytdlmgndmfphneaagreatdoor", sum := "a15eb5e288e48b4a614ae2379804db956efe8b18ce5de0cd0a3ff5553c86a9a0", func := "loop.example/g00081/laws.FnExactRules", spec := "fnExactRules", unfollowed := true, recurses := true, named := ["loop.example/g00081/impl.forms"], plainKeys := false, apart := false, laid := [("loop.example/g00081/impl.forms", laid_loop_example_g00081_impl_forms)] }
def FnExactRulesSaid : Prop := fnExactRulesRow.holds Tryz.pinned (OpenSpec.ofChange fnExactRulesSpec)

/-- ITS FALSE NEIGHBOUR: 'it returns false'. Refute it at one input. -/
def fnExactRulesWrong : ChangeSpec := { name := "fnExactRules", vars := ["loop.example/g00081/impl.forms"], fn := fun _ => fun
  | [d1, d2, d3, g1] => { results := [.lit (.bool false)], args := [d1, d2, d3], vars := [g1] }
  | _ => none }
def FnExactRulesWrongFalsely : Prop := fnExactRulesRow.holds Tryz.pinned (OpenSpec.ofChange fnExactRulesWrong)

/-- 'laws.FnExactRewrite': WHATEVER THE INPUT: true; the input reads as it did. -/
def fnExactRewriteSpec : ChangeSpec := { name := "fnExactRewrite", vars := ["loop.example/g00081/impl.forms"], fn := fun _ => fun
  | [d1, d2, d3, d4, g1] => { results := [.lit (.bool true)], args := [d1, d2, d3, d4], vars := [g1] }
  | _ => none }
def fnExactRewriteRow : OpenClaim := { program := "ytdlmgndmfphneaagreatdoor", sum := "a15eb5e288e48b4a614ae2379804db956efe8b18ce5de0cd0a3ff5553c86a9a0", func := "loop.example/g00081/laws.FnExactRewrite", spec := "fnExactRewrite", inPlace := ["internal/abi.NoEscape"], unfollowed := true, recurses := true, named := ["loop.example/g00081/impl.forms"], plainKeys := false, apart := false, laid := [("loop.example/g00081/impl.forms", laid_loop_example_g00081_impl_forms)] }
def FnExactRewriteSaid : Prop := fnExactRewriteRow.holds Tryz.pinned (OpenSpec.ofChange fnExactRewriteSpec)

/-- ITS FALSE NEIGHBOUR: 'it returns false'. Refute it at one input. -/
def fnExactRewriteWrong : ChangeSpec := { name := "fnExactRewrite", vars := ["loop.example/g00081/impl.forms"], fn := fun _ => fun
  | [d1, d2, d3, d4, g1] => { results := [.lit (.bool false)], args := [d1, d2, d3, d4], vars := [g1] }
  | _ => none }
def FnExactRewriteWrongFalsely : Prop := fnExactRewriteRow.holds Tryz.pinned (OpenSpec.ofChange fnExactRewriteWrong)

/- THE SECOND FORM. 'bulk': how many values and letters a reading holds, each counted each time it is reached (what is shared counts as often as it is met; a slice's spare places count too). A statement '..UptoSaid' is the law's where the arguments, and the package variables that the reading takes, are together of bulk at most 1048576: NARROWER than '..Said'. Prove '..Said' where nothing that the law and all that it calls make is longer than what came in: it says more and counts as full. Else prove '..UptoSaid'. A law counts once. -/
mutual
def uptoBulk {H : Type} : DataW H → Nat
  | .lit (.string bytes) => bytes.length + 1
  | .lit _ => 1
  | .nil => 1
  | .ptr d => uptoBulk d + 1
  | .slice elems spare => uptoBulkAll elems + uptoBulkAll spare + 1
  | .agg parts => uptoBulkAll parts + 1
  | .iface _ d => uptoBulk d + 1
  | .map entries => uptoBulkEntries entries + 1
  | .held _ => 1
def uptoBulkAll {H : Type} : List (DataW H) → Nat
  | [] => 0
  | d :: r => uptoBulk d + uptoBulkAll r
def uptoBulkEntries {H : Type} : List (Lit × DataW H) → Nat
  | [] => 0
  | x :: r => uptoBulkEntry x + uptoBulkEntries r
def uptoBulkEntry {H : Type} : Lit × DataW H → Nat
  | (.string bytes, d) => bytes.length + uptoBulk d + 1
  | (_, d) => uptoBulk d + 1
 end
def uptoSmall : (H : Type) → List (DataW H) → Bool := fun _ ds => decide (uptoBulkAll ds ≤ 1048576)
def OpenSpec.upto (s : _root_.Go.ChangeSpec) : _root_.Go.OpenSpec := { _root_.Go.OpenSpec.ofChange s with cond := some uptoSmall }

/-- 'laws.FnExactRules', WHERE WHAT IT READS IS OF BULK AT MOST 1048576: true; the input reads as it did. -/
def fnExactRulesUptoRow : OpenClaim := { program := "ytdlmgndmfphneaagreatdoor", sum := "a15eb5e288e48b4a614ae2379804db956efe8b18ce5de0cd0a3ff5553c86a9a0", func := "loop.example/g00081/laws.FnExactRules", spec := "fnExactRules", unfollowed := true, recurses := true, named := ["loop.example/g00081/impl.forms"], plainKeys := false, apart := false, laid := [("loop.example/g00081/impl.forms", laid_loop_example_g00081_impl_forms)], narrowed := true }
def FnExactRulesUptoSaid : Prop := fnExactRulesUptoRow.holds Tryz.pinned (OpenSpec.upto fnExactRulesSpec)

/-- 'laws.FnExactRewrite', WHERE WHAT IT READS IS OF BULK AT MOST 1048576: true; the input reads as it did. -/
def fnExactRewriteUptoRow : OpenClaim := { program := "ytdlmgndmfphneaagreatdoor", sum := "a15eb5e288e48b4a614ae2379804db956efe8b18ce5de0cd0a3ff5553c86a9a0", func := "loop.example/g00081/laws.FnExactRewrite", spec := "fnExactRewrite", inPlace := ["internal/abi.NoEscape"], unfollowed := true, recurses := true, named := ["loop.example/g00081/impl.forms"], plainKeys := false, apart := false, laid := [("loop.example/g00081/impl.forms", laid_loop_example_g00081_impl_forms)], narrowed := true }
def FnExactRewriteUptoSaid : Prop := fnExactRewriteUptoRow.holds Tryz.pinned (OpenSpec.upto fnExactRewriteSpec)

end Rows
end Go.Proofs.YtdlmgndmfphneaaGreatDoor
