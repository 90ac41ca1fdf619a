/- The program's opOf. -/
import Derived.Test.YteenmffhbgpahaaDoorQO
namespace Go.Proofs.YteenmffhbgpahaaDoor
set_option linter.unusedVariables false
set_option linter.unusedSimpArgs false
open Go.RowKit

theorem opOf_cat (a : Option Addr) (nd c : Nat) (vr A B bw : Int) (wa ka : Option Addr) (wl wc kl kc : Nat) (w : World) :
    Calls Tryd.prog 21 #[.slice a nd c, .agg #[.int .i64 3, .int .i64 vr, .int .i64 A, .int .i64 B, .int .i64 bw, .slice wa wl wc, .slice ka kl kc]] w fun e w' => e = .returned (.iface 90 (.agg #[])) ∧ Below w.heap.size w w' := by
  have hb0 : Below w.heap.size w (w.alloc (Obj.cells #[Value.int .i64 3, Value.int .i64 vr, Value.int .i64 A, Value.int .i64 B, Value.int .i64 bw, Value.slice wa wl wc, Value.slice ka kl kc] 54)) := (Below.refl _ _).alloc (Nat.le_refl _) _
  have B0 := kide hb0
  clear hb0
  go_enter Tryd.func21, Tryd.ntmps21
  go_wp2_with fail
  go_ret
  exact ⟨rfl, B0.out⟩

theorem opOf_part (a : Option Addr) (nd c : Nat) (vr A B bw : Int) (wa ka : Option Addr) (wl wc kl kc : Nat) (w : World) :
    Calls Tryd.prog 21 #[.slice a nd c, .agg #[.int .i64 4, .int .i64 vr, .int .i64 A, .int .i64 B, .int .i64 bw, .slice wa wl wc, .slice ka kl kc]] w fun e w' => e = .returned (.iface 82 (.agg #[.int .i64 A, .int .i64 B])) ∧ Below w.heap.size w w' := by
  have hb0 : Below w.heap.size w (w.alloc (Obj.cells #[Value.int .i64 4, Value.int .i64 vr, Value.int .i64 A, Value.int .i64 B, Value.int .i64 bw, Value.slice wa wl wc, Value.slice ka kl kc] 54)) := (Below.refl _ _).alloc (Nat.le_refl _) _
  have B0 := kide hb0
  clear hb0
  go_enter Tryd.func21, Tryd.ntmps21
  go_wp2_with fail
  go_ret
  exact ⟨rfl, B0.out⟩

theorem opOf_bits (a : Option Addr) (nd c : Nat) (vr A B bw : Int) (wa ka : Option Addr) (wl wc kl kc : Nat) (w : World) :
    Calls Tryd.prog 21 #[.slice a nd c, .agg #[.int .i64 2, .int .i64 vr, .int .i64 A, .int .i64 B, .int .i64 bw, .slice wa wl wc, .slice ka kl kc]] w fun e w' => e = .returned (.iface 80 (.agg #[.int .i64 bw, .slice wa wl wc])) ∧ Below w.heap.size w w' := by
  have hb0 : Below w.heap.size w (w.alloc (Obj.cells #[Value.int .i64 2, Value.int .i64 vr, Value.int .i64 A, Value.int .i64 B, Value.int .i64 bw, Value.slice wa wl wc, Value.slice ka kl kc] 54)) := (Below.refl _ _).alloc (Nat.le_refl _) _
  have B0 := kide hb0
  clear hb0
  go_enter Tryd.func21, Tryd.ntmps21
  go_wp2_with fail
  go_ret
  exact ⟨rfl, B0.out⟩

theorem opOf_rep (a : Option Addr) (nd c : Nat) (vr A B bw : Int) (wa ka : Option Addr) (wl wc kl kc : Nat) (w : World) :
    Calls Tryd.prog 21 #[.slice a nd c, .agg #[.int .i64 9, .int .i64 vr, .int .i64 A, .int .i64 B, .int .i64 bw, .slice wa wl wc, .slice ka kl kc]] w fun e w' => e = .returned (.iface 88 (.agg #[.int .i64 A])) ∧ Below w.heap.size w w' := by
  have hb0 : Below w.heap.size w (w.alloc (Obj.cells #[Value.int .i64 9, Value.int .i64 vr, Value.int .i64 A, Value.int .i64 B, Value.int .i64 bw, Value.slice wa wl wc, Value.slice ka kl kc] 54)) := (Below.refl _ _).alloc (Nat.le_refl _) _
  have B0 := kide hb0
  clear hb0
  go_enter Tryd.func21, Tryd.ntmps21
  go_wp2_with fail
  go_ret
  exact ⟨rfl, B0.out⟩

theorem opOf_zero (a : Option Addr) (nd c : Nat) (vr A B bw : Int) (wa ka : Option Addr) (wl wc kl kc : Nat) (w : World) (hG : GF w) :
    Calls Tryd.prog 21 #[.slice a nd c, .agg #[.int .i64 5, .int .i64 vr, .int .i64 A, .int .i64 B, .int .i64 bw, .slice wa wl wc, .slice ka kl kc]] w fun e w' => (∃ s, e = .returned (.iface 84 (.agg #[.string s, .int .i64 A]))) ∧ Below w.heap.size w w' := by
  have hb0 : Below w.heap.size w (w.alloc (Obj.cells #[Value.int .i64 5, Value.int .i64 vr, Value.int .i64 A, Value.int .i64 B, Value.int .i64 bw, Value.slice wa wl wc, Value.slice ka kl kc] 54)) := (Below.refl _ _).alloc (Nat.le_refl _) _
  have B0 := kide hb0
  clear hb0
  obtain ⟨⟨s, h0⟩, -⟩ := hG 5 (by omega)
  have l0 : 0 < w.heap.size := block_lt_of_cell h0
  simp only [Nat.reduceMul] at h0
  go_enter Tryd.func21, Tryd.ntmps21
  go_wp2_with fail
  go_quiet (fail)
  go_wp2_with fail
  go_ret
  exact ⟨⟨_, rfl⟩, below_drewN B0.out _⟩

theorem opOf_sign (a : Option Addr) (nd c : Nat) (vr A B bw : Int) (wa ka : Option Addr) (wl wc kl kc : Nat) (w : World) (hG : GF w) :
    Calls Tryd.prog 21 #[.slice a nd c, .agg #[.int .i64 6, .int .i64 vr, .int .i64 A, .int .i64 B, .int .i64 bw, .slice wa wl wc, .slice ka kl kc]] w fun e w' => (∃ s, e = .returned (.iface 84 (.agg #[.string s, .int .i64 A]))) ∧ Below w.heap.size w w' := by
  have hb0 : Below w.heap.size w (w.alloc (Obj.cells #[Value.int .i64 6, Value.int .i64 vr, Value.int .i64 A, Value.int .i64 B, Value.int .i64 bw, Value.slice wa wl wc, Value.slice ka kl kc] 54)) := (Below.refl _ _).alloc (Nat.le_refl _) _
  have B0 := kide hb0
  clear hb0
  obtain ⟨⟨s, h0⟩, -⟩ := hG 6 (by omega)
  have l0 : 0 < w.heap.size := block_lt_of_cell h0
  simp only [Nat.reduceMul] at h0
  go_enter Tryd.func21, Tryd.ntmps21
  go_wp2_with fail
  go_quiet (fail)
  go_wp2_with fail
  go_ret
  exact ⟨⟨_, rfl⟩, below_drewN B0.out _⟩

theorem opOf_left (a : Option Addr) (nd c : Nat) (vr A B bw : Int) (wa ka : Option Addr) (wl wc kl kc : Nat) (w : World) (hG : GF w) :
    Calls Tryd.prog 21 #[.slice a nd c, .agg #[.int .i64 7, .int .i64 vr, .int .i64 A, .int .i64 B, .int .i64 bw, .slice wa wl wc, .slice ka kl kc]] w fun e w' => (∃ s, e = .returned (.iface 86 (.agg #[.string s, .int .i64 A]))) ∧ Below w.heap.size w w' := by
  have hb0 : Below w.heap.size w (w.alloc (Obj.cells #[Value.int .i64 7, Value.int .i64 vr, Value.int .i64 A, Value.int .i64 B, Value.int .i64 bw, Value.slice wa wl wc, Value.slice ka kl kc] 54)) := (Below.refl _ _).alloc (Nat.le_refl _) _
  have B0 := kide hb0
  clear hb0
  obtain ⟨⟨s, h0⟩, -⟩ := hG 7 (by omega)
  have l0 : 0 < w.heap.size := block_lt_of_cell h0
  simp only [Nat.reduceMul] at h0
  go_enter Tryd.func21, Tryd.ntmps21
  go_wp2_with fail
  go_quiet (fail)
  go_wp2_with fail
  go_ret
  exact ⟨⟨_, rfl⟩, below_drewN B0.out _⟩

theorem opOf_right (a : Option Addr) (nd c : Nat) (vr A B bw : Int) (wa ka : Option Addr) (wl wc kl kc : Nat) (w : World) (hG : GF w) :
    Calls Tryd.prog 21 #[.slice a nd c, .agg #[.int .i64 8, .int .i64 vr, .int .i64 A, .int .i64 B, .int .i64 bw, .slice wa wl wc, .slice ka kl kc]] w fun e w' => (∃ s, e = .returned (.iface 86 (.agg #[.string s, .int .i64 A]))) ∧ Below w.heap.size w w' := by
  have hb0 : Below w.heap.size w (w.alloc (Obj.cells #[Value.int .i64 8, Value.int .i64 vr, Value.int .i64 A, Value.int .i64 B, Value.int .i64 bw, Value.slice wa wl wc, Value.slice ka kl kc] 54)) := (Below.refl _ _).alloc (Nat.le_refl _) _
  have B0 := kide hb0
  clear hb0
  obtain ⟨⟨s, h0⟩, -⟩ := hG 8 (by omega)
  have l0 : 0 < w.heap.size := block_lt_of_cell h0
  simp only [Nat.reduceMul] at h0
  go_enter Tryd.func21, Tryd.ntmps21
  go_wp2_with fail
  go_quiet (fail)
  go_wp2_with fail
  go_ret
  exact ⟨⟨_, rfl⟩, below_drewN B0.out _⟩

theorem opOf_off (a : Option Addr) (nd c : Nat) (vr A B bw : Int) (wa ka : Option Addr) (wl wc kl kc : Nat) (w : World) (h : vr < 0 ∨ (nd : Int) ≤ vr) (hn : nd ≤ 1048576) :
    Calls Tryd.prog 21 #[.slice a nd c, .agg #[.int .i64 1, .int .i64 vr, .int .i64 A, .int .i64 B, .int .i64 bw, .slice wa wl wc, .slice ka kl kc]] w fun e w' => e = .returned (.iface 78 (.agg #[.string .empty, .int .i64 0])) ∧ Below w.heap.size w w' := by
  have hb0 : Below w.heap.size w (w.alloc (Obj.cells #[Value.int .i64 1, Value.int .i64 vr, Value.int .i64 A, Value.int .i64 B, Value.int .i64 bw, Value.slice wa wl wc, Value.slice ka kl kc] 54)) := (Below.refl _ _).alloc (Nat.le_refl _) _
  have B0 := kide hb0
  clear hb0
  by_cases hv : vr < 0
  · clear h
    go_enter Tryd.func21, Tryd.ntmps21
    go_wp2_with fail
    go_ret
    exact ⟨rfl, B0.out⟩
  have hv2 : (nd : Int) ≤ vr := by omega
  clear h
  go_enter Tryd.func21, Tryd.ntmps21
  go_wp2_with fail
  go_ret
  exact ⟨rfl, B0.out⟩

theorem opOf_var (a : Option Addr) (nd c : Nat) (vr A B bw : Int) (wa ka : Option Addr) (wl wc kl kc : Nat) (w : World) (b o k : Nat) (s : ByteArray) (x : Int) (ha : a = some ⟨b, o, none⟩) (hv : vr = (k : Int)) (hk : k < nd) (hn : nd ≤ 1048576) (h0 : w.cell? ⟨b, o + k * 2, none⟩ = some (.string s)) (h1 : w.cell? ⟨b, o + k * 2 + 1, none⟩ = some (.int .i64 x)) :
    Calls Tryd.prog 21 #[.slice a nd c, .agg #[.int .i64 1, .int .i64 vr, .int .i64 A, .int .i64 B, .int .i64 bw, .slice wa wl wc, .slice ka kl kc]] w fun e w' => e = .returned (.iface 78 (.agg #[.string s, .int .i64 x])) ∧ Below w.heap.size w w' := by
  have hb0 : Below w.heap.size w (w.alloc (Obj.cells #[Value.int .i64 1, Value.int .i64 vr, Value.int .i64 A, Value.int .i64 B, Value.int .i64 bw, Value.slice wa wl wc, Value.slice ka kl kc] 54)) := (Below.refl _ _).alloc (Nat.le_refl _) _
  have B0 := kide hb0
  clear hb0
  subst ha
  subst hv
  have lb : b < w.heap.size := block_lt_of_cell h0
  have hki : (k : Int) < (nd : Int) := by omega
  go_enter Tryd.func21, Tryd.ntmps21
  go_wp2_with fail
  go_ret
  exact ⟨rfl, B0.out⟩

end Go.Proofs.YteenmffhbgpahaaDoor
