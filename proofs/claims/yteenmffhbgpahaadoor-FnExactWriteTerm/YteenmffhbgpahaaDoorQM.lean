/- The program's fieldsOk, over the table `forms`. -/
import Derived.Test.YteenmffhbgpahaaDoorQL
namespace Go.Proofs.YteenmffhbgpahaaDoor
set_option linter.unusedVariables false
set_option linter.unusedSimpArgs false
open Go.RowKit

/-- The table: how many numbers, at least, at most how many terms an Op has. -/
def tabR : Nat → Int × Int × Int
  | 3 => (0, 2, 4096)
  | 4 => (2, 1, 1)
  | 5 => (1, 1, 1)
  | 6 => (1, 1, 1)
  | 7 => (1, 1, 1)
  | 8 => (1, 1, 1)
  | 9 => (1, 1, 1)
  | _ => (0, 0, 0)

/-- The table lies in the program's first block. -/
def GF (w : World) : Prop := ∀ m, m < 10 → (∃ s, w.cell? ⟨0, m * 4, none⟩ = some (.string s)) ∧ w.cell? ⟨0, m * 4 + 1, none⟩ = some (.int .i64 (tabR m).1) ∧ w.cell? ⟨0, m * 4 + 2, none⟩ = some (.int .i64 (tabR m).2.1) ∧ w.cell? ⟨0, m * 4 + 3, none⟩ = some (.int .i64 (tabR m).2.2)

theorem GF.later {w w' : World} (h : GF w) (hb : Below w.heap.size w w') : GF w' := by
  intro m hm
  obtain ⟨⟨s, h0⟩, h1, h2, h3⟩ := h m hm
  have l := block_lt_of_cell h1
  exact ⟨⟨s, by rw [kcell hb _ _ l]; exact h0⟩, by rw [kcell hb _ _ l]; exact h1, by rw [kcell hb _ _ l]; exact h2, by rw [kcell hb _ _ l]; exact h3⟩

def fldT (op vr a b bw : Int) (wl kl : Nat) (N L M : Int) : Bool :=
  !(op != 1 && vr != 0 || decide (N < 1) && a != 0 || decide (N < 2) && b != 0) && !(op != 2 && (bw != 0 || decide (wl ≠ 0))) && (decide (L ≤ (kl : Int)) && decide ((kl : Int) ≤ M))

/-- What the program asks of the fields. -/
def fldR (n : Tc) : Bool := decide (1 ≤ n.op ∧ n.op ≤ 9) && fldT n.op n.vr n.a n.b n.bw n.ws.length n.ks.length (tabR n.op.toNat).1 (tabR n.op.toNat).2.1 (tabR n.op.toNat).2.2

set_option maxHeartbeats 2000000 in
theorem fieldsOk_any (n : Tc) (wa ka : Option Addr) (wc kc : Nat) (w : World) (hG : GF w) (hw : n.ws.length ≤ 1048576) (hk : n.ks.length ≤ 1048576) :
    Calls Tryd.prog 56 #[.agg #[.int .i64 n.op, .int .i64 n.vr, .int .i64 n.a, .int .i64 n.b, .int .i64 n.bw, .slice wa n.ws.length wc, .slice ka n.ks.length kc]] w fun e w' => e = .returned (.bool (fldR n)) ∧ Below w.heap.size w w' := by
  generalize hZ : fldR n = Z
  have HZ := kide hZ
  clear hZ
  obtain ⟨op, vr, A, B, bw, ws, ks⟩ := n
  simp only [] at hw hk ⊢
  have hb0 : Below w.heap.size w (w.alloc (Obj.cells #[Value.int .i64 op, Value.int .i64 vr, Value.int .i64 A, Value.int .i64 B, Value.int .i64 bw, Value.slice wa ws.length wc, Value.slice ka ks.length kc] 54)) := (Below.refl _ _).alloc (Nat.le_refl _) _
  have B0 := kide hb0
  by_cases hr : 1 ≤ op ∧ op ≤ 9
  · obtain ⟨m, rfl⟩ : ∃ m : Nat, op = (m : Int) := ⟨op.toNat, by omega⟩
    obtain ⟨⟨s, t0⟩, t1, t2, t3⟩ := hG m (by omega)
    have l0 : 0 < w.heap.size := block_lt_of_cell t1
    have hz : fldT (m : Int) vr A B bw ws.length ks.length (tabR m).1 (tabR m).2.1 (tabR m).2.2 = Z := by
      have h := HZ.out
      rw [fldR, decide_eq_true hr, Bool.true_and] at h
      simpa using h
    obtain ⟨NN, hNN⟩ : ∃ x, x = (tabR m).1 := ⟨_, rfl⟩
    obtain ⟨LL, hLL⟩ : ∃ x, x = (tabR m).2.1 := ⟨_, rfl⟩
    obtain ⟨MM, hMM⟩ : ∃ x, x = (tabR m).2.2 := ⟨_, rfl⟩
    rw [← hNN] at t1 hz
    rw [← hLL] at t2 hz
    rw [← hMM] at t3 hz
    have HZ2 := kide hz
    have hm1 : 1 ≤ m := by omega
    have hm9 : m ≤ 9 := by omega
    clear HZ hz hG hb0 hNN hLL hMM hr
    go_enter Tryd.func56, Tryd.ntmps56
    go_wp2_with fail
    all_goals go_ret
    all_goals refine ⟨ret_bool ?_, Below.alloc (Below.alloc (Below.refl _ _) (Nat.le_refl _) _) (by simp) _⟩
    all_goals (have h := HZ2.out; clear HZ2 B0 t0 t1 t2 t3; rw [← h]; clear h; unfold fldT; cases hB : (B != 0) <;> cases hA : (A != 0) <;> cases hV : (vr != 0) <;> cases hM : ((m : Int) != 1) <;> cases hM2 : ((m : Int) != 2) <;> cases hW : (bw != 0) <;> simp_all <;> omega)
  · have hz := HZ.out
    rw [fldR, decide_eq_false hr, Bool.false_and] at hz
    subst hz
    have hor : op < 1 ∨ 9 < op := by omega
    clear HZ hG hb0 hr
    rcases hor with hor | hor
    · go_enter Tryd.func56, Tryd.ntmps56
      go_wp2_with fail
      go_ret
      exact ⟨rfl, B0.out⟩
    · have h1 : ¬ op < 1 := by omega
      go_enter Tryd.func56, Tryd.ntmps56
      go_wp2_with fail
      go_ret
      exact ⟨rfl, B0.out⟩

end Go.Proofs.YteenmffhbgpahaaDoor
