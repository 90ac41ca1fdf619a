/- The given l3Form: has a node the fields that its op has? -/
import Derived.Test.YtheglnkndjheaaaGreatDoorZQA
import Derived.Test.YtheglnkndjheaaaGreatDoorZK
namespace Go.Proofs.YtheglnkndjheaaaGreatDoor
set_option linter.unusedVariables false
set_option linter.unusedSimpArgs false
open Go.RowKit

theorem l3NoBits_any (bw : Int) (a : Option Addr) (n c : Nat) (w : World) (hn : n ≤ 1048576) :
    Calls Tryz.prog 105 #[.agg #[.int .i64 bw, .slice a n c]] w fun e w' => e = .returned (.bool (decide (bw = 0) && decide (n = 0))) ∧ Below w.heap.size w w' := by
  have hb0 : Below w.heap.size w (w.alloc (Obj.cells #[Value.int .i64 bw, Value.slice a n c] 102)) := (Below.refl _ _).alloc (Nat.le_refl _) _
  have B0 := kide hb0
  clear hb0
  by_cases h : bw = 0
  · subst h
    go_enter Tryz.func105, Tryz.ntmps105
    go_wp2_with fail
    go_ret
    exact ⟨ret_bool (by rw [Bool.eq_iff_iff]; simp), B0.out⟩
  · have e1 : (bw == 0) = false := by simp [h]
    have hR : (decide (bw = 0) && decide (n = 0)) = false := by simp [h]
    rw [hR]
    clear hR h
    go_enter Tryz.func105, Tryz.ntmps105
    go_wp2_with fail
    go_ret
    exact ⟨rfl, B0.out⟩

theorem l3One_any (op : Int) (w : World) :
    Calls Tryz.prog 106 #[.int .i64 op] w fun e w' => e = .returned (.bool (decide (4 ≤ op ∧ op ≤ 9))) ∧ w' = w := by
  have HL := kide (l1In_any op 4 9 w)
  generalize decide (4 ≤ op ∧ op ≤ 9) = V at *
  go_enter Tryz.func106, Tryz.ntmps106
  go_wp2_with fail
  refine Calls.mono HL.out ?_
  rintro e w' ⟨rfl, rfl⟩
  go_wp2_with fail
  go_ret
  exact ⟨rfl, rfl⟩

/-- The fields are those of the op. -/
def fieldR (n : Tc) : Bool := !(n.op != 1 && n.vr != 0 || n.op != 2 && !(decide (n.bw = 0) && decide (n.ws.length = 0)) || n.op != 4 && n.b != 0 || !decide (4 ≤ n.op ∧ n.op ≤ 9) && n.a != 0)

/-- .. and as many kids as it wants. -/
def manyR (nd : Nat) (n : Tc) : Bool :=
  if n.op = 1 then decide (n.ks.length = 0) && decide (0 ≤ n.vr ∧ n.vr ≤ (nd : Int) - 1)
  else if n.op = 2 then decide (n.ks.length = 0) && rightB n.bw n.ws
  else if n.op = 3 then decide (2 ≤ n.ks.length)
  else if 4 ≤ n.op ∧ n.op ≤ 9 then decide (n.ks.length = 1)
  else false

def kidsR (at' : Nat) (ks : List Int) : Bool := ks.all (fun k => decide (0 ≤ k ∧ k ≤ (at' : Int) - 1))

set_option maxHeartbeats 1000000 in
theorem l3Form_any (a : Option Addr) (nd c at' : Nat) (n : Tc) (wa ka : Option Addr) (wc kc : Nat) (w : World) (hw : Rd w wa n.ws) (hk : RdI w ka n.ks) (hat : at' ≤ 1048576) (hnd : nd ≤ 1048576) :
    Calls Tryz.prog 83 #[.slice a nd c, .agg #[.int .i64 n.op, .int .i64 n.vr, .int .i64 n.a, .int .i64 n.b, .int .i64 n.bw, .slice wa n.ws.length wc, .slice ka n.ks.length kc], .int .i64 (at' : Int)] w fun e w' => e = .returned (.bool (kidsR at' n.ks && fieldR n && manyR nd n)) ∧ Below w.heap.size w w' := by
  generalize hZ : (kidsR at' n.ks && fieldR n && manyR nd n) = Z
  have HZ := kide hZ
  clear hZ
  obtain ⟨op, vr, A, B, bw, ws, ks⟩ := n
  simp only [] at hw hk ⊢
  have hb0 : Below w.heap.size w (w.alloc (Obj.cells #[Value.int .i64 op, Value.int .i64 vr, Value.int .i64 A, Value.int .i64 B, Value.int .i64 bw, Value.slice wa ws.length wc, Value.slice ka ks.length kc] 104)) := (Below.refl _ _).alloc (Nat.le_refl _) _
  have HW := kide (fun u (hu : Below w.heap.size w u) => hw.later hu)
  have HK := kide (hk.later hb0)
  have hl := hk.1
  have HWL := kide hw.1
  have B0 := kide hb0
  clear hw hk hb0
  go_enter Tryz.func83, Tryz.ntmps83
  go_wp2_with fail
  have c0 : (w.alloc (Obj.cells #[Value.int .i64 op, Value.int .i64 vr, Value.int .i64 A, Value.int .i64 B, Value.int .i64 bw, Value.slice wa ws.length wc, Value.slice ka ks.length kc] 104)).cell? ⟨w.heap.size, 0, none⟩ = some (.int .i64 op) := by simp [go_sem]
  have c1 : (w.alloc (Obj.cells #[Value.int .i64 op, Value.int .i64 vr, Value.int .i64 A, Value.int .i64 B, Value.int .i64 bw, Value.slice wa ws.length wc, Value.slice ka ks.length kc] 104)).cell? ⟨w.heap.size, 1, none⟩ = some (.int .i64 vr) := by simp [go_sem]
  have c2 : (w.alloc (Obj.cells #[Value.int .i64 op, Value.int .i64 vr, Value.int .i64 A, Value.int .i64 B, Value.int .i64 bw, Value.slice wa ws.length wc, Value.slice ka ks.length kc] 104)).cell? ⟨w.heap.size, 2, none⟩ = some (.int .i64 A) := by simp [go_sem]
  have c3 : (w.alloc (Obj.cells #[Value.int .i64 op, Value.int .i64 vr, Value.int .i64 A, Value.int .i64 B, Value.int .i64 bw, Value.slice wa ws.length wc, Value.slice ka ks.length kc] 104)).cell? ⟨w.heap.size, 3, none⟩ = some (.int .i64 B) := by simp [go_sem]
  have c4 : (w.alloc (Obj.cells #[Value.int .i64 op, Value.int .i64 vr, Value.int .i64 A, Value.int .i64 B, Value.int .i64 bw, Value.slice wa ws.length wc, Value.slice ka ks.length kc] 104)).cell? ⟨w.heap.size, 4, none⟩ = some (.int .i64 bw) := by simp [go_sem]
  have c5 : (w.alloc (Obj.cells #[Value.int .i64 op, Value.int .i64 vr, Value.int .i64 A, Value.int .i64 B, Value.int .i64 bw, Value.slice wa ws.length wc, Value.slice ka ks.length kc] 104)).cell? ⟨w.heap.size, 5, none⟩ = some (.slice wa ws.length wc) := by simp [go_sem]
  have c6 : (w.alloc (Obj.cells #[Value.int .i64 op, Value.int .i64 vr, Value.int .i64 A, Value.int .i64 B, Value.int .i64 bw, Value.slice wa ws.length wc, Value.slice ka ks.length kc] 104)).cell? ⟨w.heap.size, 6, none⟩ = some (.slice ka ks.length kc) := by simp [go_sem]
  generalize (w.alloc (Obj.cells #[Value.int .i64 op, Value.int .i64 vr, Value.int .i64 A, Value.int .i64 B, Value.int .i64 bw, Value.slice wa ws.length wc, Value.slice ka ks.length kc] 104)) = w0 at *
  go_loopw [7] (fun i wr => ∃ k : Nat, k ≤ ks.length ∧ i = .int .i64 k ∧ kidsR at' (ks.take k) = true ∧ wr = w0) (fun i _ => ks.length - (intOf i).toNat)
  case atStart => exact ⟨0, Nat.zero_le _, rfl, by simp [kidsR], rfl⟩
  case round =>
    obtain ⟨k, hk, rfl, hkr, rfl⟩ := hrel
    have HKR := kide hkr
    clear hkr
    by_cases hlt : k < ks.length
    · obtain ⟨hl1, hin, h | ⟨b, o, rfl, hc⟩⟩ := HK.out
      · subst h; simp at hlt
      have g0 := hc k hlt
      have HIN := kide hin
      clear hin hc HK
      have hgk : ks[k]? = some (ks.getD k 0) := by simp [List.getD, hlt]
      have HGK := kide hgk
      clear hgk
      generalize ks.getD k 0 = y at *
      by_cases hy : 0 ≤ y ∧ y ≤ (at' : Int) - 1
      · have HL := kide (fun u => l1In_any y 0 ((at' : Int) - 1) u)
        rw [decide_eq_true hy] at HL
        go_wp2_with (go_at_call 49; refine Calls.mono (HL.out _) ?_; rintro e w1 ⟨rfl, rfl⟩)
        go_roundw
        case rel =>
          refine ⟨k + 1, by omega, by go_num, ?_, by first | rfl | trivial⟩
          rw [List.take_add_one, HGK.out, kidsR, List.all_append]
          have := HKR.out
          rw [kidsR] at this
          rw [this]
          simp
          omega
        case measure => simp [intOf]; omega
      · have HL := kide (fun u => l1In_any y 0 ((at' : Int) - 1) u)
        rw [decide_eq_false hy] at HL
        have HY := kide hy
        clear hy
        go_wp2_with (go_at_call 49; refine Calls.mono (HL.out _) ?_; rintro e w1 ⟨rfl, rfl⟩)
        go_ret
        refine ⟨ret_bool ?_, B0.out⟩
        have hf : kidsR at' ks = false := by
          rw [kidsR, List.all_eq_false]
          exact ⟨y, List.mem_of_getElem? HGK.out, by simpa using HY.out⟩
        have hZ := HZ.out
        simp only [hf, Bool.false_and] at hZ
        exact hZ
    · have e : k = ks.length := by omega
      subst e
      have hZ : (fieldR ⟨op, vr, A, B, bw, ws, ks⟩ && manyR nd ⟨op, vr, A, B, bw, ws, ks⟩) = Z := by
        have hK := HKR.out
        rw [List.take_length] at hK
        have h := HZ.out
        simp only [hK, Bool.true_and] at h
        exact h
      have HZ2 := kide hZ
      clear hZ HZ HKR hlt hk
      have hlw : w.heap.size < wr.heap.size := block_lt_of_cell c0
      have HNB := kide (fun u => l3NoBits_any bw wa ws.length wc u HWL.out)
      have HOK := kide (fun u hu => specOk_any bw wa wc ws u (HW.out u hu))
      have HLI := kide (fun u => l1In_any vr 0 ((nd : Int) - 1) u)
      obtain ⟨NV, hnv⟩ : ∃ v, v = (decide (bw = 0) && decide (ws.length = 0)) := ⟨_, rfl⟩
      obtain ⟨LV, hlv⟩ : ∃ v, v = decide (0 ≤ vr ∧ vr ≤ (nd : Int) - 1) := ⟨_, rfl⟩
      obtain ⟨OV, hov⟩ : ∃ v, v = rightB bw ws := ⟨_, rfl⟩
      rw [← hnv] at HNB
      rw [← hlv] at HLI
      rw [← hov] at HOK
      have HF := kide (And.intro hnv (And.intro hlv hov))
      clear hnv hlv hov
      rcases (show op = 1 ∨ op = 2 ∨ op = 3 ∨ op = 4 ∨ (5 ≤ op ∧ op ≤ 9) ∨ (op < 1 ∨ 9 < op) by omega) with rfl | rfl | rfl | rfl | ⟨g1, g2⟩ | g1
      · have HO1 := kide (fun u => l3One_any 1 u)
        rw [show decide ((4 : Int) ≤ 1 ∧ (1 : Int) ≤ 9) = false by decide] at HO1
        cases NV
        all_goals
          go_wp2_with (first
            | (go_at_call 105; refine Calls.mono (HNB.out _) ?_; rintro e wq ⟨rfl, hbq⟩; have k0 := kcell hbq w.heap.size 0 hlw; have k1 := kcell hbq w.heap.size 1 hlw; have k2 := kcell hbq w.heap.size 2 hlw; have k3 := kcell hbq w.heap.size 3 hlw; have k4 := kcell hbq w.heap.size 4 hlw; have k5 := kcell hbq w.heap.size 5 hlw; have k6 := kcell hbq w.heap.size 6 hlw; have BQ := kide (B0.out.trans (hbq.mono B0.out.size)); clear hbq)
            | (go_at_call 106; refine Calls.mono (HO1.out _) ?_; rintro e wx ⟨rfl, rfl⟩)
            | (go_at_call 49; refine Calls.mono (HLI.out _) ?_; rintro e wx ⟨rfl, rfl⟩)
            | (go_at_call 107; refine Calls.mono (HOK.out _ (by first | exact BQ.out | exact B0.out)) ?_; rintro e wx ⟨rfl, hbx⟩; have BX := kide (Below.trans (by first | exact BQ.out | exact B0.out) (hbx.mono (by first | exact BQ.out.size | exact B0.out.size))); clear hbx))
          all_goals go_ret
          all_goals refine ⟨ret_bool ?_, (by first | exact BX.out | exact BQ.out | exact B0.out)⟩
          all_goals (have h := HZ2.out; obtain ⟨f1, f2, f3⟩ := HF.out; simp only [fieldR, manyR] at h; rw [← f1] at h; try rw [← f2] at h
                     try rw [← f3] at h
                     clear f1 f2 f3 HZ2 HF HNB HOK HLI HO1 B0 HW HK HWL; rw [← h]; clear h; cases hB : (B != 0) <;> cases hA : (A != 0) <;> cases hV : (vr != 0) <;> simp_all <;> first | omega | (rw [Bool.eq_iff_iff]; simp; omega))
      · have HO1 := kide (fun u => l3One_any 2 u)
        rw [show decide ((4 : Int) ≤ 2 ∧ (2 : Int) ≤ 9) = false by decide] at HO1
        cases NV
        all_goals
          go_wp2_with (first
            | (go_at_call 105; refine Calls.mono (HNB.out _) ?_; rintro e wq ⟨rfl, hbq⟩; have k0 := kcell hbq w.heap.size 0 hlw; have k1 := kcell hbq w.heap.size 1 hlw; have k2 := kcell hbq w.heap.size 2 hlw; have k3 := kcell hbq w.heap.size 3 hlw; have k4 := kcell hbq w.heap.size 4 hlw; have k5 := kcell hbq w.heap.size 5 hlw; have k6 := kcell hbq w.heap.size 6 hlw; have BQ := kide (B0.out.trans (hbq.mono B0.out.size)); clear hbq)
            | (go_at_call 106; refine Calls.mono (HO1.out _) ?_; rintro e wx ⟨rfl, rfl⟩)
            | (go_at_call 49; refine Calls.mono (HLI.out _) ?_; rintro e wx ⟨rfl, rfl⟩)
            | (go_at_call 107; refine Calls.mono (HOK.out _ (by first | exact BQ.out | exact B0.out)) ?_; rintro e wx ⟨rfl, hbx⟩; have BX := kide (Below.trans (by first | exact BQ.out | exact B0.out) (hbx.mono (by first | exact BQ.out.size | exact B0.out.size))); clear hbx))
          all_goals go_ret
          all_goals refine ⟨ret_bool ?_, (by first | exact BX.out | exact BQ.out | exact B0.out)⟩
          all_goals (have h := HZ2.out; obtain ⟨f1, f2, f3⟩ := HF.out; simp only [fieldR, manyR] at h; rw [← f1] at h; try rw [← f2] at h
                     try rw [← f3] at h
                     clear f1 f2 f3 HZ2 HF HNB HOK HLI HO1 B0 HW HK HWL; rw [← h]; clear h; cases hB : (B != 0) <;> cases hA : (A != 0) <;> cases hV : (vr != 0) <;> simp_all <;> first | omega | (rw [Bool.eq_iff_iff]; simp; omega))
      · have HO1 := kide (fun u => l3One_any 3 u)
        rw [show decide ((4 : Int) ≤ 3 ∧ (3 : Int) ≤ 9) = false by decide] at HO1
        cases NV
        all_goals
          go_wp2_with (first
            | (go_at_call 105; refine Calls.mono (HNB.out _) ?_; rintro e wq ⟨rfl, hbq⟩; have k0 := kcell hbq w.heap.size 0 hlw; have k1 := kcell hbq w.heap.size 1 hlw; have k2 := kcell hbq w.heap.size 2 hlw; have k3 := kcell hbq w.heap.size 3 hlw; have k4 := kcell hbq w.heap.size 4 hlw; have k5 := kcell hbq w.heap.size 5 hlw; have k6 := kcell hbq w.heap.size 6 hlw; have BQ := kide (B0.out.trans (hbq.mono B0.out.size)); clear hbq)
            | (go_at_call 106; refine Calls.mono (HO1.out _) ?_; rintro e wx ⟨rfl, rfl⟩)
            | (go_at_call 49; refine Calls.mono (HLI.out _) ?_; rintro e wx ⟨rfl, rfl⟩)
            | (go_at_call 107; refine Calls.mono (HOK.out _ (by first | exact BQ.out | exact B0.out)) ?_; rintro e wx ⟨rfl, hbx⟩; have BX := kide (Below.trans (by first | exact BQ.out | exact B0.out) (hbx.mono (by first | exact BQ.out.size | exact B0.out.size))); clear hbx))
          all_goals go_ret
          all_goals refine ⟨ret_bool ?_, (by first | exact BX.out | exact BQ.out | exact B0.out)⟩
          all_goals (have h := HZ2.out; obtain ⟨f1, f2, f3⟩ := HF.out; simp only [fieldR, manyR] at h; rw [← f1] at h; try rw [← f2] at h
                     try rw [← f3] at h
                     clear f1 f2 f3 HZ2 HF HNB HOK HLI HO1 B0 HW HK HWL; rw [← h]; clear h; cases hB : (B != 0) <;> cases hA : (A != 0) <;> cases hV : (vr != 0) <;> simp_all <;> first | omega | (rw [Bool.eq_iff_iff]; simp; omega))
      · have HO1 := kide (fun u => l3One_any 4 u)
        rw [show decide ((4 : Int) ≤ 4 ∧ (4 : Int) ≤ 9) = true by decide] at HO1
        cases NV
        all_goals
          go_wp2_with (first
            | (go_at_call 105; refine Calls.mono (HNB.out _) ?_; rintro e wq ⟨rfl, hbq⟩; have k0 := kcell hbq w.heap.size 0 hlw; have k1 := kcell hbq w.heap.size 1 hlw; have k2 := kcell hbq w.heap.size 2 hlw; have k3 := kcell hbq w.heap.size 3 hlw; have k4 := kcell hbq w.heap.size 4 hlw; have k5 := kcell hbq w.heap.size 5 hlw; have k6 := kcell hbq w.heap.size 6 hlw; have BQ := kide (B0.out.trans (hbq.mono B0.out.size)); clear hbq)
            | (go_at_call 106; refine Calls.mono (HO1.out _) ?_; rintro e wx ⟨rfl, rfl⟩)
            | (go_at_call 49; refine Calls.mono (HLI.out _) ?_; rintro e wx ⟨rfl, rfl⟩)
            | (go_at_call 107; refine Calls.mono (HOK.out _ (by first | exact BQ.out | exact B0.out)) ?_; rintro e wx ⟨rfl, hbx⟩; have BX := kide (Below.trans (by first | exact BQ.out | exact B0.out) (hbx.mono (by first | exact BQ.out.size | exact B0.out.size))); clear hbx))
          all_goals go_ret
          all_goals refine ⟨ret_bool ?_, (by first | exact BX.out | exact BQ.out | exact B0.out)⟩
          all_goals (have h := HZ2.out; obtain ⟨f1, f2, f3⟩ := HF.out; simp only [fieldR, manyR] at h; rw [← f1] at h; try rw [← f2] at h
                     try rw [← f3] at h
                     clear f1 f2 f3 HZ2 HF HNB HOK HLI HO1 B0 HW HK HWL; rw [← h]; clear h; cases hB : (B != 0) <;> cases hA : (A != 0) <;> cases hV : (vr != 0) <;> simp_all <;> first | omega | (rw [Bool.eq_iff_iff]; simp; omega))
      · have HO1 := kide (fun u => l3One_any op u)
        rw [show decide ((4 : Int) ≤ op ∧ op ≤ 9) = true by simp; omega] at HO1
        have n1 : (op != 1) = true := by simp; omega
        have n2 : (op != 2) = true := by simp; omega
        have n4 : (op != 4) = true := by simp; omega
        have m1 : (op == 1) = false := by simp; omega
        have m2 : (op == 2) = false := by simp; omega
        have m3 : (op == 3) = false := by simp; omega
        cases NV
        all_goals
          go_wp2_with (first
            | (go_at_call 105; refine Calls.mono (HNB.out _) ?_; rintro e wq ⟨rfl, hbq⟩; have k0 := kcell hbq w.heap.size 0 hlw; have k1 := kcell hbq w.heap.size 1 hlw; have k2 := kcell hbq w.heap.size 2 hlw; have k3 := kcell hbq w.heap.size 3 hlw; have k4 := kcell hbq w.heap.size 4 hlw; have k5 := kcell hbq w.heap.size 5 hlw; have k6 := kcell hbq w.heap.size 6 hlw; have BQ := kide (B0.out.trans (hbq.mono B0.out.size)); clear hbq)
            | (go_at_call 106; refine Calls.mono (HO1.out _) ?_; rintro e wx ⟨rfl, rfl⟩)
            | (go_at_call 49; refine Calls.mono (HLI.out _) ?_; rintro e wx ⟨rfl, rfl⟩)
            | (go_at_call 107; refine Calls.mono (HOK.out _ (by first | exact BQ.out | exact B0.out)) ?_; rintro e wx ⟨rfl, hbx⟩; have BX := kide (Below.trans (by first | exact BQ.out | exact B0.out) (hbx.mono (by first | exact BQ.out.size | exact B0.out.size))); clear hbx))
          all_goals go_ret
          all_goals refine ⟨ret_bool ?_, (by first | exact BX.out | exact BQ.out | exact B0.out)⟩
          all_goals (have h := HZ2.out; obtain ⟨f1, f2, f3⟩ := HF.out; simp only [fieldR, manyR] at h; rw [← f1] at h; try rw [← f2] at h
                     try rw [← f3] at h
                     clear f1 f2 f3 HZ2 HF HNB HOK HLI HO1 B0 HW HK HWL; rw [← h]; clear h; cases hB : (B != 0) <;> cases hA : (A != 0) <;> cases hV : (vr != 0) <;> simp_all <;> first | omega | (rw [Bool.eq_iff_iff]; simp; omega))
      · have HO1 := kide (fun u => l3One_any op u)
        rw [show decide ((4 : Int) ≤ op ∧ op ≤ 9) = false by simp; omega] at HO1
        have n1 : (op != 1) = true := by simp; omega
        have n2 : (op != 2) = true := by simp; omega
        have n4 : (op != 4) = true := by simp; omega
        have m1 : (op == 1) = false := by simp; omega
        have m2 : (op == 2) = false := by simp; omega
        have m3 : (op == 3) = false := by simp; omega
        cases NV
        all_goals
          go_wp2_with (first
            | (go_at_call 105; refine Calls.mono (HNB.out _) ?_; rintro e wq ⟨rfl, hbq⟩; have k0 := kcell hbq w.heap.size 0 hlw; have k1 := kcell hbq w.heap.size 1 hlw; have k2 := kcell hbq w.heap.size 2 hlw; have k3 := kcell hbq w.heap.size 3 hlw; have k4 := kcell hbq w.heap.size 4 hlw; have k5 := kcell hbq w.heap.size 5 hlw; have k6 := kcell hbq w.heap.size 6 hlw; have BQ := kide (B0.out.trans (hbq.mono B0.out.size)); clear hbq)
            | (go_at_call 106; refine Calls.mono (HO1.out _) ?_; rintro e wx ⟨rfl, rfl⟩)
            | (go_at_call 49; refine Calls.mono (HLI.out _) ?_; rintro e wx ⟨rfl, rfl⟩)
            | (go_at_call 107; refine Calls.mono (HOK.out _ (by first | exact BQ.out | exact B0.out)) ?_; rintro e wx ⟨rfl, hbx⟩; have BX := kide (Below.trans (by first | exact BQ.out | exact B0.out) (hbx.mono (by first | exact BQ.out.size | exact B0.out.size))); clear hbx))
          all_goals go_ret
          all_goals refine ⟨ret_bool ?_, (by first | exact BX.out | exact BQ.out | exact B0.out)⟩
          all_goals (have h := HZ2.out; obtain ⟨f1, f2, f3⟩ := HF.out; simp only [fieldR, manyR] at h; rw [← f1] at h; try rw [← f2] at h
                     try rw [← f3] at h
                     clear f1 f2 f3 HZ2 HF HNB HOK HLI HO1 B0 HW HK HWL; rw [← h]; clear h; cases hB : (B != 0) <;> cases hA : (A != 0) <;> cases hV : (vr != 0) <;> simp_all <;> first | omega | (rw [Bool.eq_iff_iff]; simp; omega))

end Go.Proofs.YtheglnkndjheaaaGreatDoor
