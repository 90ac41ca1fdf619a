/- Plain facts on reading a tree from its text. No program in sight. -/
import Derived.Test.YteainbakfeedpaaUA
namespace Go.Proofs.Yteainbakfeedpaa
set_option linter.unusedVariables false
set_option linter.unusedSimpArgs false
open Go.RowKit

/-- A byte that may stand in a remark. -/
def remB (c : Nat) : Bool := decide (32 ≤ c) && decide (c ≤ 126)

/-- Where a run of bytes ends, looked at from p on. -/
def runE (ok : Nat → Bool) (s : ByteArray) : Nat → Nat → Nat
  | 0, p => p
  | f + 1, p => if ok (bn s p) = true then runE ok s f (p + 1) else p

theorem runE_le (ok : Nat → Bool) (s : ByteArray) (f p : Nat) : p ≤ runE ok s f p ∧ runE ok s f p ≤ p + f := by
  induction f generalizing p with
  | zero => simp [runE]
  | succ f ih =>
    rw [runE]
    split
    · have := ih (p + 1); omega
    · omega

theorem runE_lt {ok : Nat → Bool} {s : ByteArray} {p : Nat} (hp : p < s.size) (h : ok (bn s p) = true) : p < runE ok s (s.size - p) p ∧ runE ok s (s.size - p) p ≤ s.size := by
  rw [show s.size - p = (s.size - (p + 1)) + 1 by omega, runE, if_pos h]
  have := runE_le ok s (s.size - (p + 1)) (p + 1)
  omega

/-- Why a node may not begin; 0: it may. -/
def begF (cs : List Ct) (op : List Nat) : Nat := if op = [] ∧ cs ≠ [] then 4 else if 100 < op.length then 5 else if cs.length = 2000 then 6 else 0

/-- A kid more. -/
def addKid (cs : List Ct) (u : Nat) : List Ct := cs.set u ((cs.getD u (.empty, [])).1, (cs.getD u (.empty, [])).2 ++ [(cs.length : Int)])

/-- A node more, a kid of the innermost list. -/
def putC (cs : List Ct) (op : List Nat) (t : ByteArray) : List Ct := (match op with | [] => cs | u :: _ => addKid cs u) ++ [(t, [])]

theorem addKid_len (cs : List Ct) (u : Nat) : (addKid cs u).length = cs.length := by simp [addKid]
theorem putC_len (cs : List Ct) (op : List Nat) (t : ByteArray) : (putC cs op t).length = cs.length + 1 := by
  unfold putC
  split <;> simp [addKid_len]

abbrev Rs := List Ct × Nat × Nat

/-- The innermost list is shut. -/
def shutK (op : List Nat) (no : Rs) (K : List Nat → Rs) : Rs := match op with
  | [] => no
  | _ :: r => K r

/-- What the rest of a text says, from a place on. -/
def readF (s : ByteArray) : Nat → Nat → List Ct → List Nat → Rs
  | 0, _, _, _ => ([], 0, 0)
  | f + 1, p, cs, op =>
    if s.size ≤ p then (if op ≠ [] then ([], 7, s.size) else if cs = [] then ([], 8, s.size) else (cs, 0, 0))
    else if bn s p = 32 ∨ bn s p = 10 then readF s f (p + 1) cs op
    else if bn s p = 59 then readF s f (runE remB s (s.size - p) p) cs op
    else if bn s p = 41 then shutK op ([], 3, p) (fun r => readF s f (p + 1) cs r)
    else if bn s p = 40 then (if begF cs op ≠ 0 then ([], begF cs op, p) else readF s f (p + 1) (putC cs op .empty) (cs.length :: op))
    else if atomB (bn s p) = true then (if begF cs op ≠ 0 then ([], begF cs op, p) else readF s f (runE atomB s (s.size - p) p) (putC cs op (s.extract p (runE atomB s (s.size - p) p))) op)
    else ([], 2, p)

/-- What a text says. -/
def readT (s : ByteArray) : Rs := if 20000 < s.size then ([], 1, 0) else readF s (s.size + 1) 0 [] []

theorem readF_end {s : ByteArray} {f p : Nat} {cs : List Ct} {op : List Nat} (h : s.size ≤ p) : readF s (f + 1) p cs op = if op ≠ [] then ([], 7, s.size) else if cs = [] then ([], 8, s.size) else (cs, 0, 0) := by
  rw [readF, if_pos h]
theorem readF_skip {s : ByteArray} {f p : Nat} {cs : List Ct} {op : List Nat} (h : p < s.size) (hc : bn s p = 32 ∨ bn s p = 10) : readF s (f + 1) p cs op = readF s f (p + 1) cs op := by
  rw [readF, if_neg (by omega), if_pos hc]
theorem readF_rem {s : ByteArray} {f p : Nat} {cs : List Ct} {op : List Nat} (h : p < s.size) (hc : bn s p = 59) : readF s (f + 1) p cs op = readF s f (runE remB s (s.size - p) p) cs op := by
  rw [readF, if_neg (by omega), if_neg (by omega), if_pos hc]
theorem readF_shut {s : ByteArray} {f p : Nat} {cs : List Ct} {op : List Nat} (h : p < s.size) (hc : bn s p = 41) : readF s (f + 1) p cs op = shutK op ([], 3, p) (fun r => readF s f (p + 1) cs r) := by
  rw [readF, if_neg (by omega), if_neg (by omega), if_neg (by omega), if_pos hc]
theorem readF_open {s : ByteArray} {f p : Nat} {cs : List Ct} {op : List Nat} (h : p < s.size) (hc : bn s p = 40) : readF s (f + 1) p cs op = if begF cs op ≠ 0 then ([], begF cs op, p) else readF s f (p + 1) (putC cs op .empty) (cs.length :: op) := by
  rw [readF, if_neg (by omega), if_neg (by omega), if_neg (by omega), if_neg (by omega), if_pos hc]
theorem readF_atom {s : ByteArray} {f p : Nat} {cs : List Ct} {op : List Nat} (h : p < s.size) (hc : atomB (bn s p) = true) : readF s (f + 1) p cs op = if begF cs op ≠ 0 then ([], begF cs op, p) else readF s f (runE atomB s (s.size - p) p) (putC cs op (s.extract p (runE atomB s (s.size - p) p))) op := by
  have h' : 33 ≤ bn s p ∧ bn s p ≤ 126 ∧ bn s p ≠ 40 ∧ bn s p ≠ 41 ∧ bn s p ≠ 59 := by simp [atomB] at hc; omega
  rw [readF, if_neg (by omega), if_neg (by omega), if_neg (by omega), if_neg (by omega), if_neg (by omega), if_pos hc]
theorem readF_bad {s : ByteArray} {f p : Nat} {cs : List Ct} {op : List Nat} (h : p < s.size) (h1 : ¬ (bn s p = 32 ∨ bn s p = 10)) (h2 : bn s p ≠ 59) (h3 : bn s p ≠ 41) (h4 : bn s p ≠ 40) (hc : atomB (bn s p) = false) : readF s (f + 1) p cs op = ([], 2, p) := by
  rw [readF, if_neg (by omega), if_neg h1, if_neg h2, if_neg h3, if_neg h4, if_neg (by rw [hc]; simp)]

theorem extract_size (s : ByteArray) (a b : Nat) (h : b ≤ s.size) : (s.extract a b).size = b - a := by
  rw [ByteArray.size_extract, Nat.min_eq_left h]

end Go.Proofs.Yteainbakfeedpaa
