/- How often each node is a kid; slices.Contains over a row of counts. -/
import Derived.Test.YteenmffhbgpahaaDoorQS
namespace Go.Proofs.YteenmffhbgpahaaDoor
set_option linter.unusedVariables false
set_option linter.unusedSimpArgs false
open Go.RowKit

theorem countKids_nil (P k cp kc : Nat) (ka : Option Addr) (w : World) :
    Calls Tryd.prog 57 #[.slice (some ⟨P, 0, none⟩) k cp, .slice ka 0 kc] w fun e w' => e = .returned (.bool true) ∧ w' = w := by
  go_enter Tryd.func57, Tryd.ntmps57
  go_wp2_with fail
  go_loopw [9] (fun i wr => i = .int .i64 0 ∧ wr = w) (fun _ _ => 0)
  case atStart => exact ⟨rfl, rfl⟩
  case round =>
    obtain ⟨rfl, rfl⟩ := hrel
    go_wp2_with fail
    go_ret
    exact ⟨rfl, rfl⟩

/-- How often a place stands among the kids of all nodes. -/
def cntA : List Tc → Nat → Nat
  | [], _ => 0
  | n :: t, j => cntR n.ks j + cntA t j

theorem cntA_append (xs ys : List Tc) (j : Nat) : cntA (xs ++ ys) j = cntA xs j + cntA ys j := by
  induction xs with
  | nil => simp [cntA]
  | cons x t ih => simp [cntA, ih]; omega
theorem cntA_take {ns : List Tc} {k : Nat} {n : Tc} (h : ns[k]? = some n) (j : Nat) : cntA (ns.take (k + 1)) j = cntA (ns.take k) j + cntR n.ks j := by
  rw [List.take_add_one, h, cntA_append]
  simp [cntA]
theorem cntA_le {ns : List Tc} (h : ∀ n ∈ ns, n.ks.length ≤ 1048576) (j : Nat) : cntA ns j ≤ 1048576 * ns.length := by
  induction ns with
  | nil => simp [cntA]
  | cons n t ih =>
    have h1 := h n (by simp)
    have h2 := ih (fun y hy => h y (by simp [hy]))
    have h3 : cntR n.ks j ≤ n.ks.length := List.countP_le_length
    simp only [cntA, List.length_cons]
    omega
theorem cntA_used (ns : List Tc) (j : Nat) : (cntA ns j = 0) ↔ usedR ns j = false := by
  induction ns with
  | nil => simp [cntA, usedR]
  | cons n t ih =>
    simp only [usedR, List.any_cons, Bool.or_eq_false_iff] at ih ⊢
    simp only [cntA]
    have h1 : cntR n.ks j = 0 ↔ (n.ks.any fun k => decide (k = (j : Int))) = false := by
      simp [cntR, List.countP_eq_zero]
    exact ⟨fun h => ⟨h1.1 (by omega), ih.1 (by omega)⟩, fun h => by have e1 := h1.2 h.1; have e2 := ih.2 h.2; omega⟩

/-- Is a count 0 among the first m? -/
def zeroR (q : Nat → Nat) (m : Nat) : Bool := (List.range m).any fun j => decide (q j = 0)

theorem zeroR_used (ns : List Tc) (m : Nat) : zeroR (cntA ns) m = !((List.range m).all (usedR ns)) := by
  rw [Bool.eq_iff_iff]
  simp only [zeroR, List.any_eq_true, Bool.not_eq_true', List.all_eq_false, decide_eq_true_eq]
  constructor
  · rintro ⟨j, hj, h⟩
    exact ⟨j, hj, by rw [(cntA_used ns j).1 h]; simp⟩
  · rintro ⟨j, hj, h⟩
    exact ⟨j, hj, (cntA_used ns j).2 (by simpa using h)⟩

theorem index_any (P N m cp : Nat) (q : Nat → Nat) (w : World) (hc : Cn w P N q) (hm : m ≤ N) (hN : N ≤ 1048576) :
    Calls Tryd.prog 73 #[.slice (some ⟨P, 0, none⟩) m cp, .int .i64 0] w fun e w' => (∃ r : Int, e = .returned (.int .i64 r) ∧ (decide (0 ≤ r) = zeroR q m)) ∧ Below w.heap.size w w' := by
  generalize hZ : zeroR q m = Z
  have HZ := kide hZ
  have HC := kide hc
  clear hZ hc
  go_enter Tryd.func73, Tryd.ntmps73
  go_wp2_with fail
  go_loopw [8] (fun i wr => ∃ k : Nat, k ≤ m ∧ i = .int .i64 k ∧ (∀ j, j < k → q j ≠ 0) ∧ Below w.heap.size w wr) (fun i _ => m - (intOf i).toNat)
  case atStart => exact ⟨0, Nat.zero_le _, rfl, fun j h => by omega, Below.refl _ _⟩
  case round =>
    obtain ⟨k, hk, rfl, hno, hbel⟩ := hrel
    have HB := kide hbel
    have HNO := kide hno
    by_cases hlt : k < m
    · obtain ⟨f, hrw, hfq⟩ := HC.out.later hbel
      have q0 := hrw.cell (i := k) (by omega)
      rw [hfq k (by omega)] at q0
      have hki : (k : Int) < (m : Int) := by omega
      clear hrw hfq hno hbel
      by_cases h0 : q k = 0
      · rw [h0] at q0
        have HT : Hid (Z = true) := by
          show _ = _
          rw [← HZ.out]
          simp only [zeroR, List.any_eq_true, decide_eq_true_eq]
          exact ⟨k, List.mem_range.2 hlt, h0⟩
        clear h0
        go_wp2_with fail
        go_ret
        exact ⟨⟨k, rfl, by rw [HT.out]; simp⟩, HB.out⟩
      · have hne : ((0 : Int) == ((q k : Nat) : Int)) = false := by simp; omega
        have H0 := kide h0
        clear h0
        obtain ⟨y, hy⟩ : ∃ y, q k = y := ⟨_, rfl⟩
        rw [hy] at q0 hne
        have HYY := kide hy
        clear hy
        go_wp2_with fail
        go_roundw
        case rel =>
          refine ⟨k + 1, by omega, by go_num, fun j hj => ?_, HB.out⟩
          by_cases hjk : j < k
          · exact HNO.out j hjk
          · have : j = k := by omega
            subst this
            exact H0.out
        case measure => simp [intOf]; omega
    · have HT : Hid (Z = false) := by
        show _ = _
        rw [← HZ.out, Bool.eq_false_iff]
        simp only [zeroR, ne_eq, List.any_eq_true, decide_eq_true_eq]
        rintro ⟨j, hj, h⟩
        exact HNO.out j (by have := List.mem_range.1 hj; omega) h
      clear hno hbel
      go_wp2_with fail
      go_ret
      exact ⟨⟨-1, rfl, by rw [HT.out]; rfl⟩, HB.out⟩

theorem contains_any (P N m cp : Nat) (q : Nat → Nat) (w : World) (hc : Cn w P N q) (hm : m ≤ N) (hN : N ≤ 1048576) :
    Calls Tryd.prog 59 #[.slice (some ⟨P, 0, none⟩) m cp, .int .i64 0] w fun e w' => e = .returned (.bool (zeroR q m)) ∧ Below w.heap.size w w' := by
  have HI := kide (index_any P N m cp q w hc hm hN)
  clear hc
  go_enter Tryd.func59, Tryd.ntmps59
  go_wp2_with fail
  refine Calls.mono HI.out ?_
  rintro e w1 ⟨⟨r, rfl, hr⟩, hb1⟩
  have HR := kide hr
  clear hr
  go_wp2_with fail
  go_ret
  exact ⟨ret_bool HR.out, hb1⟩

end Go.Proofs.YteenmffhbgpahaaDoor
