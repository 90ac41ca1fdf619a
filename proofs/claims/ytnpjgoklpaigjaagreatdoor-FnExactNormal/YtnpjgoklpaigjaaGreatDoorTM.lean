/- Plain facts on trees as lists of nodes: walked from the root down, and node by node with a stack of open lists. No program in sight. -/
import Derived.WalkKit
namespace Go.Proofs.YtnpjgoklpaigjaaGreatDoor
set_option linter.unusedVariables false
set_option linter.unusedSimpArgs false
open Go.RowKit
def bn (s : ByteArray) (k : Nat) : Nat := if h : k < s.size then (s[k]'h).toNat else 0
theorem get_bn (s : ByteArray) : ∀ (n : Nat) (h : n < s.size), (s[n]'h).toNat = bn s n := fun n h => by unfold bn; rw [dif_pos h]
theorem bn_lt (s : ByteArray) (k : Nat) : bn s k < 256 := by
 unfold bn; split
 ·exact UInt8.toNat_lt _
 ·omega
def atomB (c : Nat) : Bool := decide (33 ≤ c) && decide (c ≤ 126) && !decide (c = 40) && !decide (c = 41) && !decide (c = 59)
def allAtom (s : ByteArray) : Bool := (List.range s.size).all fun i => atomB (bn s i)

abbrev Ct := ByteArray × List Int
def okC (n : Ct) : Bool := decide (n.1.size = 0) || (allAtom n.1 && n.2.isEmpty)
def WL (len : Nat) (rec : Nat → Option (Nat × Nat)) : List Int → Nat → Option (Nat × Nat)
 | [], nx => some (nx, 0)
 | k :: ks, nx => if k ≠ (nx : Int) ∨ len ≤ nx then none else
   match rec nx with
   | none => none
   | some (nx', d) => match WL len rec ks nx' with
    | none => none
    | some (e, d') => some (e, max d d')
def W (ns : List Ct) : Nat → Nat → Nat → Option (Nat × Nat)
 | 0, _, _ => none
 | f + 1, p, deep =>
  if 100 < deep ∨ okC (ns.getD p (.empty, [])) = false then none else
   match WL ns.length (fun nx => W ns f nx (deep + 1)) (ns.getD p (.empty, [])).2 (p + 1) with
   | none => none
   | some (e, d) => some (e, if (ns.getD p (.empty, [])).1.size = 0 then d + 1 else 0)
def dropF : List (List Int × Nat) → List (List Int × Nat)
 | [] => []
 | x :: r => if x.2 = x.1.length then dropF r else x :: r
def body (n : Ct) (st : List (List Int × Nat)) (dp : Nat) (K : List (List Int × Nat) → Nat → Option Nat) : Option Nat :=
 if 100 < st.length ∨ okC n = false then none
 else if n.1.size = 0 then K ((n.2, 0) :: st) (max dp (st.length + 1)) else K st (max dp st.length)
def M (ns : List Ct) : Nat → Nat → List (List Int × Nat) → Nat → Option Nat
 | 0, _, st, dp => if dropF st = [] then some dp else none
 | r + 1, p, st, dp => match dropF st with
  | [] => none
  | x :: t => if x.1.getD x.2 0 ≠ (p : Int) then none else body (ns.getD p (.empty, [])) ((x.1, x.2 + 1) :: t) dp (M ns r (p + 1))

end Go.Proofs.YtnpjgoklpaigjaaGreatDoor
