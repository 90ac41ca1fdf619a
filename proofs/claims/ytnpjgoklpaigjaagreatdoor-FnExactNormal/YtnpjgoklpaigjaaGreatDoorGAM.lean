/- Several texts in one. -/
import Derived.Test.YtnpjgoklpaigjaaGreatDoorGAB
import Derived.Test.YtnpjgoklpaigjaaGreatDoorGAH
import Derived.Test.YtnpjgoklpaigjaaGreatDoorGAI
import Derived.Handy
import Derived.Test.YtnpjgoklpaigjaaGreatDoorRows
import Derived.ProofKit
import Derived.LaidMore
import Derived.OpenShut
import Derived.Stop.Joined
import Derived.MakeChecks
import Derived.LaidLaws
import Derived.LaidHandle
namespace Go.Proofs.YtnpjgoklpaigjaaGreatDoor
open Go.RowKit
set_option linter.unusedVariables false
set_option linter.unusedSimpArgs false
theorem l3One_any (op : Int) (w : World) :
    Calls Tryz.prog 106 #[.int .i64 op] w fun e w' => e = .returned (.bool (decide (4 ≤ op ∧ op ≤ 9))) ∧ w' = w := by
  have HL := kide (l1In_any op 4 9 w)
  generalize decide (4 ≤ op ∧ op ≤ 9) = V at *
  go_enter Tryz.func106, Tryz.ntmps106
  go_wp2_with fail
  refine Calls.mono HL.out ?_
  rintro e w' ⟨rfl, rfl⟩
  go_wp2_with fail
  go_ret
  exact ⟨rfl, rfl⟩
def fieldR (n : Tc) : Bool := !(n.op != 1 && n.vr != 0 || n.op != 2 && !(decide (n.bw = 0) && decide (n.ws.length = 0)) || n.op != 4 && n.b != 0 || !decide (4 ≤ n.op ∧ n.op ≤ 9) && n.a != 0)
def manyR (nd : Nat) (n : Tc) : Bool :=
  if n.op = 1 then decide (n.ks.length = 0) && decide (0 ≤ n.vr ∧ n.vr ≤ (nd : Int) - 1)
  else if n.op = 2 then decide (n.ks.length = 0) && rightB n.bw n.ws
  else if n.op = 3 then decide (2 ≤ n.ks.length)
  else if 4 ≤ n.op ∧ n.op ≤ 9 then decide (n.ks.length = 1)
  else false
def kidsR (at' : Nat) (ks : List Int) : Bool := ks.all (fun k => decide (0 ≤ k ∧ k ≤ (at' : Int) - 1))
set_option maxHeartbeats 1000000 in
theorem l3Form_any (a : Option Addr) (nd c at' : Nat) (n : Tc) (wa ka : Option Addr) (wc kc : Nat) (w : World) (hw : Rd w wa n.ws) (hk : RdI w ka n.ks) (hat : at' ≤ 1048576) (hnd : nd ≤ 1048576) :
    Calls Tryz.prog 71 #[.slice a nd c, .agg #[.int .i64 n.op, .int .i64 n.vr, .int .i64 n.a, .int .i64 n.b, .int .i64 n.bw, .slice wa n.ws.length wc, .slice ka n.ks.length kc], .int .i64 (at' : Int)] w fun e w' => e = .returned (.bool (kidsR at' n.ks && fieldR n && manyR nd n)) ∧ Below w.heap.size w w' := by
  generalize hZ : (kidsR at' n.ks && fieldR n && manyR nd n) = Z
  have HZ := kide hZ
  clear hZ
  obtain ⟨op, vr, A, B, bw, ws, ks⟩ := n
  simp only [] at hw hk ⊢
  have hb0 : Below w.heap.size w (w.alloc (Obj.cells #[.int .i64 op, .int .i64 vr, .int .i64 A, .int .i64 B, .int .i64 bw, .slice wa ws.length wc, .slice ka ks.length kc] 67)) := blA _ _
  have HW := kide (fun u (hu : Below w.heap.size w u) => hw.later hu)
  have HK := kide (hk.later hb0)
  have hl := hk.1
  have HWL := kide hw.1
  have B0 := kide hb0
  clear hw hk hb0
  go_enter Tryz.func71, Tryz.ntmps71
  go_wp2_with fail
  have c0 : (w.alloc (Obj.cells #[.int .i64 op, .int .i64 vr, .int .i64 A, .int .i64 B, .int .i64 bw, .slice wa ws.length wc, .slice ka ks.length kc] 67)).cell? ⟨w.heap.size, 0, none⟩ = some (.int .i64 op) := by simp [go_sem]
  have c1 : (w.alloc (Obj.cells #[.int .i64 op, .int .i64 vr, .int .i64 A, .int .i64 B, .int .i64 bw, .slice wa ws.length wc, .slice ka ks.length kc] 67)).cell? ⟨w.heap.size, 1, none⟩ = some (.int .i64 vr) := by simp [go_sem]
  have c2 : (w.alloc (Obj.cells #[.int .i64 op, .int .i64 vr, .int .i64 A, .int .i64 B, .int .i64 bw, .slice wa ws.length wc, .slice ka ks.length kc] 67)).cell? ⟨w.heap.size, 2, none⟩ = some (.int .i64 A) := by simp [go_sem]
  have c3 : (w.alloc (Obj.cells #[.int .i64 op, .int .i64 vr, .int .i64 A, .int .i64 B, .int .i64 bw, .slice wa ws.length wc, .slice ka ks.length kc] 67)).cell? ⟨w.heap.size, 3, none⟩ = some (.int .i64 B) := by simp [go_sem]
  have c4 : (w.alloc (Obj.cells #[.int .i64 op, .int .i64 vr, .int .i64 A, .int .i64 B, .int .i64 bw, .slice wa ws.length wc, .slice ka ks.length kc] 67)).cell? ⟨w.heap.size, 4, none⟩ = some (.int .i64 bw) := by simp [go_sem]
  have c5 : (w.alloc (Obj.cells #[.int .i64 op, .int .i64 vr, .int .i64 A, .int .i64 B, .int .i64 bw, .slice wa ws.length wc, .slice ka ks.length kc] 67)).cell? ⟨w.heap.size, 5, none⟩ = some (.slice wa ws.length wc) := by simp [go_sem]
  have c6 : (w.alloc (Obj.cells #[.int .i64 op, .int .i64 vr, .int .i64 A, .int .i64 B, .int .i64 bw, .slice wa ws.length wc, .slice ka ks.length kc] 67)).cell? ⟨w.heap.size, 6, none⟩ = some (.slice ka ks.length kc) := by simp [go_sem]
  generalize (w.alloc (Obj.cells #[.int .i64 op, .int .i64 vr, .int .i64 A, .int .i64 B, .int .i64 bw, .slice wa ws.length wc, .slice ka ks.length kc] 67)) = w0 at *
  go_loopw [7] (fun i wr => ∃ k : Nat, k ≤ ks.length ∧ i = .int .i64 k ∧ kidsR at' (ks.take k) = true ∧ wr = w0) (fun i _ => ks.length - (intOf i).toNat)
  case atStart => exact ⟨0, Nat.zero_le _, rfl, by simp [kidsR], rfl⟩
  case round =>
    obtain ⟨k, hk, rfl, hkr, rfl⟩ := hrel
    have HKR := kide hkr
    clear hkr
    by_cases hlt : k < ks.length
    · obtain ⟨hl1, hin, h | ⟨b, o, rfl, hc⟩⟩ := HK.out
      · subst h; simp at hlt
      have g0 := hc k hlt
      have HIN := kide hin
      clear hin hc HK
      have hgk : ks[k]? = some (ks.getD k 0) := by simp [List.getD, hlt]
      have HGK := kide hgk
      clear hgk
      generalize ks.getD k 0 = y at *
      by_cases hy : 0 ≤ y ∧ y ≤ (at' : Int) - 1
      · have HL := kide (fun u => l1In_any y 0 ((at' : Int) - 1) u)
        rw [decide_eq_true hy] at HL
        go_wp2_with (go_at_call 73; refine Calls.mono (HL.out _) ?_; rintro e w1 ⟨rfl, rfl⟩)
        go_roundw
        case rel =>
          refine ⟨k + 1, by omega, by go_num, ?_, by first | rfl | trivial⟩
          rw [List.take_add_one, HGK.out, kidsR, List.all_append]
          have := HKR.out
          rw [kidsR] at this
          rw [this]
          simp
          omega
        case measure => simp [intOf]; omega
      · have HL := kide (fun u => l1In_any y 0 ((at' : Int) - 1) u)
        rw [decide_eq_false hy] at HL
        have HY := kide hy
        clear hy
        go_wp2_with (go_at_call 73; refine Calls.mono (HL.out _) ?_; rintro e w1 ⟨rfl, rfl⟩)
        go_ret
        refine ⟨ret_bool ?_, B0.out⟩
        have hf : kidsR at' ks = false := by
          rw [kidsR, List.all_eq_false]
          exact ⟨y, List.mem_of_getElem? HGK.out, by simpa using HY.out⟩
        have hZ := HZ.out
        simp only [hf, Bool.false_and] at hZ
        exact hZ
    · have e : k = ks.length := by omega
      subst e
      have hZ : (fieldR ⟨op, vr, A, B, bw, ws, ks⟩ && manyR nd ⟨op, vr, A, B, bw, ws, ks⟩) = Z := by
        have hK := HKR.out
        rw [List.take_length] at hK
        have h := HZ.out
        simp only [hK, Bool.true_and] at h
        exact h
      have HZ2 := kide hZ
      clear hZ HZ HKR hlt hk
      have hlw : w.heap.size < wr.heap.size := block_lt_of_cell c0
      have HNB := kide (fun u => l3NoBits_any bw wa ws.length wc u HWL.out)
      have HOK := kide (fun u hu => specOk_any bw wa wc ws u (HW.out u hu))
      have HLI := kide (fun u => l1In_any vr 0 ((nd : Int) - 1) u)
      obtain ⟨NV, hnv⟩ : ∃ v, v = (decide (bw = 0) && decide (ws.length = 0)) := ⟨_, rfl⟩
      obtain ⟨LV, hlv⟩ : ∃ v, v = decide (0 ≤ vr ∧ vr ≤ (nd : Int) - 1) := ⟨_, rfl⟩
      obtain ⟨OV, hov⟩ : ∃ v, v = rightB bw ws := ⟨_, rfl⟩
      rw [← hnv] at HNB
      rw [← hlv] at HLI
      rw [← hov] at HOK
      have HF := kide (And.intro hnv (And.intro hlv hov))
      clear hnv hlv hov
      rcases (show op = 1 ∨ op = 2 ∨ op = 3 ∨ op = 4 ∨ (5 ≤ op ∧ op ≤ 9) ∨ (op < 1 ∨ 9 < op) by omega) with rfl | rfl | rfl | rfl | ⟨g1, g2⟩ | g1
      · have HO1 := kide (fun u => l3One_any 1 u)
        rw [show decide ((4 : Int) ≤ 1 ∧ (1 : Int) ≤ 9) = false by decide] at HO1
        cases NV
        all_goals
          go_wp2_with (first
            | (go_at_call 76; refine Calls.mono (HNB.out _) ?_; rintro e wq ⟨rfl, hbq⟩; have k0 := kcell hbq w.heap.size 0 hlw; have k1 := kcell hbq w.heap.size 1 hlw; have k2 := kcell hbq w.heap.size 2 hlw; have k3 := kcell hbq w.heap.size 3 hlw; have k4 := kcell hbq w.heap.size 4 hlw; have k5 := kcell hbq w.heap.size 5 hlw; have k6 := kcell hbq w.heap.size 6 hlw; have BQ := kide (B0.out.trans (hbq.mono B0.out.size)); clear hbq)
            | (go_at_call 106; refine Calls.mono (HO1.out _) ?_; rintro e wx ⟨rfl, rfl⟩)
            | (go_at_call 73; refine Calls.mono (HLI.out _) ?_; rintro e wx ⟨rfl, rfl⟩)
            | (go_at_call 75; refine Calls.mono (HOK.out _ (by first | exact BQ.out | exact B0.out)) ?_; rintro e wx ⟨rfl, hbx⟩; have BX := kide (Below.trans (by first | exact BQ.out | exact B0.out) (hbx.mono (by first | exact BQ.out.size | exact B0.out.size))); clear hbx))
          all_goals go_ret
          all_goals refine ⟨ret_bool ?_, (by first | exact BX.out | exact BQ.out | exact B0.out)⟩
          all_goals (have h := HZ2.out; obtain ⟨f1, f2, f3⟩ := HF.out; simp only [fieldR, manyR] at h; rw [← f1] at h; try rw [← f2] at h
                     try rw [← f3] at h
                     clear f1 f2 f3 HZ2 HF HNB HOK HLI HO1 B0 HW HK HWL; rw [← h]; clear h; cases hB : (B != 0) <;> cases hA : (A != 0) <;> cases hV : (vr != 0) <;> simp_all <;> first | omega | (rw [Bool.eq_iff_iff]; simp; omega))
      · have HO1 := kide (fun u => l3One_any 2 u)
        rw [show decide ((4 : Int) ≤ 2 ∧ (2 : Int) ≤ 9) = false by decide] at HO1
        cases NV
        all_goals
          go_wp2_with (first
            | (go_at_call 76; refine Calls.mono (HNB.out _) ?_; rintro e wq ⟨rfl, hbq⟩; have k0 := kcell hbq w.heap.size 0 hlw; have k1 := kcell hbq w.heap.size 1 hlw; have k2 := kcell hbq w.heap.size 2 hlw; have k3 := kcell hbq w.heap.size 3 hlw; have k4 := kcell hbq w.heap.size 4 hlw; have k5 := kcell hbq w.heap.size 5 hlw; have k6 := kcell hbq w.heap.size 6 hlw; have BQ := kide (B0.out.trans (hbq.mono B0.out.size)); clear hbq)
            | (go_at_call 106; refine Calls.mono (HO1.out _) ?_; rintro e wx ⟨rfl, rfl⟩)
            | (go_at_call 73; refine Calls.mono (HLI.out _) ?_; rintro e wx ⟨rfl, rfl⟩)
            | (go_at_call 75; refine Calls.mono (HOK.out _ (by first | exact BQ.out | exact B0.out)) ?_; rintro e wx ⟨rfl, hbx⟩; have BX := kide (Below.trans (by first | exact BQ.out | exact B0.out) (hbx.mono (by first | exact BQ.out.size | exact B0.out.size))); clear hbx))
          all_goals go_ret
          all_goals refine ⟨ret_bool ?_, (by first | exact BX.out | exact BQ.out | exact B0.out)⟩
          all_goals (have h := HZ2.out; obtain ⟨f1, f2, f3⟩ := HF.out; simp only [fieldR, manyR] at h; rw [← f1] at h; try rw [← f2] at h
                     try rw [← f3] at h
                     clear f1 f2 f3 HZ2 HF HNB HOK HLI HO1 B0 HW HK HWL; rw [← h]; clear h; cases hB : (B != 0) <;> cases hA : (A != 0) <;> cases hV : (vr != 0) <;> simp_all <;> first | omega | (rw [Bool.eq_iff_iff]; simp; omega))
      · have HO1 := kide (fun u => l3One_any 3 u)
        rw [show decide ((4 : Int) ≤ 3 ∧ (3 : Int) ≤ 9) = false by decide] at HO1
        cases NV
        all_goals
          go_wp2_with (first
            | (go_at_call 76; refine Calls.mono (HNB.out _) ?_; rintro e wq ⟨rfl, hbq⟩; have k0 := kcell hbq w.heap.size 0 hlw; have k1 := kcell hbq w.heap.size 1 hlw; have k2 := kcell hbq w.heap.size 2 hlw; have k3 := kcell hbq w.heap.size 3 hlw; have k4 := kcell hbq w.heap.size 4 hlw; have k5 := kcell hbq w.heap.size 5 hlw; have k6 := kcell hbq w.heap.size 6 hlw; have BQ := kide (B0.out.trans (hbq.mono B0.out.size)); clear hbq)
            | (go_at_call 106; refine Calls.mono (HO1.out _) ?_; rintro e wx ⟨rfl, rfl⟩)
            | (go_at_call 73; refine Calls.mono (HLI.out _) ?_; rintro e wx ⟨rfl, rfl⟩)
            | (go_at_call 75; refine Calls.mono (HOK.out _ (by first | exact BQ.out | exact B0.out)) ?_; rintro e wx ⟨rfl, hbx⟩; have BX := kide (Below.trans (by first | exact BQ.out | exact B0.out) (hbx.mono (by first | exact BQ.out.size | exact B0.out.size))); clear hbx))
          all_goals go_ret
          all_goals refine ⟨ret_bool ?_, (by first | exact BX.out | exact BQ.out | exact B0.out)⟩
          all_goals (have h := HZ2.out; obtain ⟨f1, f2, f3⟩ := HF.out; simp only [fieldR, manyR] at h; rw [← f1] at h; try rw [← f2] at h
                     try rw [← f3] at h
                     clear f1 f2 f3 HZ2 HF HNB HOK HLI HO1 B0 HW HK HWL; rw [← h]; clear h; cases hB : (B != 0) <;> cases hA : (A != 0) <;> cases hV : (vr != 0) <;> simp_all <;> first | omega | (rw [Bool.eq_iff_iff]; simp; omega))
      · have HO1 := kide (fun u => l3One_any 4 u)
        rw [show decide ((4 : Int) ≤ 4 ∧ (4 : Int) ≤ 9) = true by decide] at HO1
        cases NV
        all_goals
          go_wp2_with (first
            | (go_at_call 76; refine Calls.mono (HNB.out _) ?_; rintro e wq ⟨rfl, hbq⟩; have k0 := kcell hbq w.heap.size 0 hlw; have k1 := kcell hbq w.heap.size 1 hlw; have k2 := kcell hbq w.heap.size 2 hlw; have k3 := kcell hbq w.heap.size 3 hlw; have k4 := kcell hbq w.heap.size 4 hlw; have k5 := kcell hbq w.heap.size 5 hlw; have k6 := kcell hbq w.heap.size 6 hlw; have BQ := kide (B0.out.trans (hbq.mono B0.out.size)); clear hbq)
            | (go_at_call 106; refine Calls.mono (HO1.out _) ?_; rintro e wx ⟨rfl, rfl⟩)
            | (go_at_call 73; refine Calls.mono (HLI.out _) ?_; rintro e wx ⟨rfl, rfl⟩)
            | (go_at_call 75; refine Calls.mono (HOK.out _ (by first | exact BQ.out | exact B0.out)) ?_; rintro e wx ⟨rfl, hbx⟩; have BX := kide (Below.trans (by first | exact BQ.out | exact B0.out) (hbx.mono (by first | exact BQ.out.size | exact B0.out.size))); clear hbx))
          all_goals go_ret
          all_goals refine ⟨ret_bool ?_, (by first | exact BX.out | exact BQ.out | exact B0.out)⟩
          all_goals (have h := HZ2.out; obtain ⟨f1, f2, f3⟩ := HF.out; simp only [fieldR, manyR] at h; rw [← f1] at h; try rw [← f2] at h
                     try rw [← f3] at h
                     clear f1 f2 f3 HZ2 HF HNB HOK HLI HO1 B0 HW HK HWL; rw [← h]; clear h; cases hB : (B != 0) <;> cases hA : (A != 0) <;> cases hV : (vr != 0) <;> simp_all <;> first | omega | (rw [Bool.eq_iff_iff]; simp; omega))
      · have HO1 := kide (fun u => l3One_any op u)
        rw [show decide ((4 : Int) ≤ op ∧ op ≤ 9) = true by simp; omega] at HO1
        have n1 : (op != 1) = true := by simp; omega
        have n2 : (op != 2) = true := by simp; omega
        have n4 : (op != 4) = true := by simp; omega
        have m1 : (op == 1) = false := by simp; omega
        have m2 : (op == 2) = false := by simp; omega
        have m3 : (op == 3) = false := by simp; omega
        cases NV
        all_goals
          go_wp2_with (first
            | (go_at_call 76; refine Calls.mono (HNB.out _) ?_; rintro e wq ⟨rfl, hbq⟩; have k0 := kcell hbq w.heap.size 0 hlw; have k1 := kcell hbq w.heap.size 1 hlw; have k2 := kcell hbq w.heap.size 2 hlw; have k3 := kcell hbq w.heap.size 3 hlw; have k4 := kcell hbq w.heap.size 4 hlw; have k5 := kcell hbq w.heap.size 5 hlw; have k6 := kcell hbq w.heap.size 6 hlw; have BQ := kide (B0.out.trans (hbq.mono B0.out.size)); clear hbq)
            | (go_at_call 106; refine Calls.mono (HO1.out _) ?_; rintro e wx ⟨rfl, rfl⟩)
            | (go_at_call 73; refine Calls.mono (HLI.out _) ?_; rintro e wx ⟨rfl, rfl⟩)
            | (go_at_call 75; refine Calls.mono (HOK.out _ (by first | exact BQ.out | exact B0.out)) ?_; rintro e wx ⟨rfl, hbx⟩; have BX := kide (Below.trans (by first | exact BQ.out | exact B0.out) (hbx.mono (by first | exact BQ.out.size | exact B0.out.size))); clear hbx))
          all_goals go_ret
          all_goals refine ⟨ret_bool ?_, (by first | exact BX.out | exact BQ.out | exact B0.out)⟩
          all_goals (have h := HZ2.out; obtain ⟨f1, f2, f3⟩ := HF.out; simp only [fieldR, manyR] at h; rw [← f1] at h; try rw [← f2] at h
                     try rw [← f3] at h
                     clear f1 f2 f3 HZ2 HF HNB HOK HLI HO1 B0 HW HK HWL; rw [← h]; clear h; cases hB : (B != 0) <;> cases hA : (A != 0) <;> cases hV : (vr != 0) <;> simp_all <;> first | omega | (rw [Bool.eq_iff_iff]; simp; omega))
      · have HO1 := kide (fun u => l3One_any op u)
        rw [show decide ((4 : Int) ≤ op ∧ op ≤ 9) = false by simp; omega] at HO1
        have n1 : (op != 1) = true := by simp; omega
        have n2 : (op != 2) = true := by simp; omega
        have n4 : (op != 4) = true := by simp; omega
        have m1 : (op == 1) = false := by simp; omega
        have m2 : (op == 2) = false := by simp; omega
        have m3 : (op == 3) = false := by simp; omega
        cases NV
        all_goals
          go_wp2_with (first
            | (go_at_call 76; refine Calls.mono (HNB.out _) ?_; rintro e wq ⟨rfl, hbq⟩; have k0 := kcell hbq w.heap.size 0 hlw; have k1 := kcell hbq w.heap.size 1 hlw; have k2 := kcell hbq w.heap.size 2 hlw; have k3 := kcell hbq w.heap.size 3 hlw; have k4 := kcell hbq w.heap.size 4 hlw; have k5 := kcell hbq w.heap.size 5 hlw; have k6 := kcell hbq w.heap.size 6 hlw; have BQ := kide (B0.out.trans (hbq.mono B0.out.size)); clear hbq)
            | (go_at_call 106; refine Calls.mono (HO1.out _) ?_; rintro e wx ⟨rfl, rfl⟩)
            | (go_at_call 73; refine Calls.mono (HLI.out _) ?_; rintro e wx ⟨rfl, rfl⟩)
            | (go_at_call 75; refine Calls.mono (HOK.out _ (by first | exact BQ.out | exact B0.out)) ?_; rintro e wx ⟨rfl, hbx⟩; have BX := kide (Below.trans (by first | exact BQ.out | exact B0.out) (hbx.mono (by first | exact BQ.out.size | exact B0.out.size))); clear hbx))
          all_goals go_ret
          all_goals refine ⟨ret_bool ?_, (by first | exact BX.out | exact BQ.out | exact B0.out)⟩
          all_goals (have h := HZ2.out; obtain ⟨f1, f2, f3⟩ := HF.out; simp only [fieldR, manyR] at h; rw [← f1] at h; try rw [← f2] at h
                     try rw [← f3] at h
                     clear f1 f2 f3 HZ2 HF HNB HOK HLI HO1 B0 HW HK HWL; rw [← h]; clear h; cases hB : (B != 0) <;> cases hA : (A != 0) <;> cases hV : (vr != 0) <;> simp_all <;> first | omega | (rw [Bool.eq_iff_iff]; simp; omega))

def sumR (wide : List Int) : List Int → Int → Int
 | [], s => s
 | k :: t, s => sumR wide t (min 8192 (s + wide.getD k.toNat 0))
def wideR (ds : List Dc) (n : Tc) (s : Int) : Int :=
 if n.op = 1 then (ds.getD n.vr.toNat (.empty, 0)).2
 else if n.op = 2 then n.bw
 else if n.op = 4 then (if n.b < 0 ∨ n.a < n.b ∨ s ≤ n.a then -1 else n.a - n.b + 1)
 else if n.op = 5 ∨ n.op = 6 then (if 0 ≤ n.a ∧ n.a ≤ 4096 then s + n.a else -1)
 else if n.op = 7 ∨ n.op = 8 then (if 0 ≤ n.a ∧ n.a ≤ 4096 then s else -1)
 else if n.op = 9 then (if 1 ≤ n.a ∧ n.a ≤ 4096 then s * n.a else -1)
 else s
theorem sumR_range (wide : List Int) (ks : List Int) (s : Int) (hw : ∀ x ∈ wide, 1 ≤ x ∧ x ≤ 4096) (h0 : 0 ≤ s) (h1 : s ≤ 8192) : 0 ≤ sumR wide ks s ∧ sumR wide ks s ≤ 8192 := by
 induction ks generalizing s with
 | nil => exact ⟨h0, h1⟩
 | cons k t ih =>
  rw [sumR]
  have hx : 0 ≤ wide.getD k.toNat 0 := by
   rw [List.getD]
   cases h : wide[k.toNat]? with
   | none => simp
   | some x => have := hw x (List.mem_of_getElem? h); simp; omega
  exact ih _ (by omega) (by omega)
set_option maxHeartbeats 1000000 in
theorem l3Wide_any (a : Option Addr) (c : Nat) (ds : List Dc) (n : Tc) (wa ka ya : Option Addr) (wc kc yc : Nat) (wide : List Int) (w : World) (hr : RdD w a ds) (hw : Rd w wa n.ws) (hk : RdI w ka n.ks) (hy : RdI w ya wide)
  (hwd : ∀ x ∈ wide, 1 ≤ x ∧ x ≤ 4096) (hkr : kidsR wide.length n.ks = true) (hv : n.op = 1 → 0 ≤ n.vr ∧ n.vr ≤ (ds.length : Int) - 1) (hA : in64 n.a) (hB : in64 n.b) :
  Calls Tryz.prog 72 #[.slice a ds.length c, .agg #[.int .i64 n.op, .int .i64 n.vr, .int .i64 n.a, .int .i64 n.b, .int .i64 n.bw, .slice wa n.ws.length wc, .slice ka n.ks.length kc], .slice ya wide.length yc] w fun e w' => e = .returned (.int .i64 (wideR ds n (sumR wide n.ks 0))) ∧ Below w.heap.size w w' := by
 obtain ⟨op, vr, A, B, bw, ws, ks⟩ := n
 simp only [] at hw hk hkr hv hA hB ⊢
 generalize hZ : wideR ds ⟨op, vr, A, B, bw, ws, ks⟩ (sumR wide ks 0) = Z
 have HZ := kide hZ
 clear hZ
 have hb0 : Below w.heap.size w (w.alloc (Obj.cells #[.int .i64 op, .int .i64 vr, .int .i64 A, .int .i64 B, .int .i64 bw, .slice wa ws.length wc, .slice ka ks.length kc] 67)) := blA _ _
 have HK := kide (hk.later hb0)
 have HY := kide (hy.later hb0)
 have HR := kide (hr.later hb0)
 have hl := hk.1
 have hl2 := hy.1
 have hl3 := hr.1
 have B0 := kide hb0
 have HKR := kide hkr
 have HV := kide hv
 have HWD := kide hwd
 clear hw hk hb0 hr hy hkr hv hwd
 go_enter Tryz.func72, Tryz.ntmps72
 go_wp2_with fail
 have c0 : (w.alloc (Obj.cells #[.int .i64 op, .int .i64 vr, .int .i64 A, .int .i64 B, .int .i64 bw, .slice wa ws.length wc, .slice ka ks.length kc] 67)).cell? ⟨w.heap.size, 0, none⟩ = some (.int .i64 op) := by simp [go_sem]
 have c1 : (w.alloc (Obj.cells #[.int .i64 op, .int .i64 vr, .int .i64 A, .int .i64 B, .int .i64 bw, .slice wa ws.length wc, .slice ka ks.length kc] 67)).cell? ⟨w.heap.size, 1, none⟩ = some (.int .i64 vr) := by simp [go_sem]
 have c2 : (w.alloc (Obj.cells #[.int .i64 op, .int .i64 vr, .int .i64 A, .int .i64 B, .int .i64 bw, .slice wa ws.length wc, .slice ka ks.length kc] 67)).cell? ⟨w.heap.size, 2, none⟩ = some (.int .i64 A) := by simp [go_sem]
 have c3 : (w.alloc (Obj.cells #[.int .i64 op, .int .i64 vr, .int .i64 A, .int .i64 B, .int .i64 bw, .slice wa ws.length wc, .slice ka ks.length kc] 67)).cell? ⟨w.heap.size, 3, none⟩ = some (.int .i64 B) := by simp [go_sem]
 have c4 : (w.alloc (Obj.cells #[.int .i64 op, .int .i64 vr, .int .i64 A, .int .i64 B, .int .i64 bw, .slice wa ws.length wc, .slice ka ks.length kc] 67)).cell? ⟨w.heap.size, 4, none⟩ = some (.int .i64 bw) := by simp [go_sem]
 have c5 : (w.alloc (Obj.cells #[.int .i64 op, .int .i64 vr, .int .i64 A, .int .i64 B, .int .i64 bw, .slice wa ws.length wc, .slice ka ks.length kc] 67)).cell? ⟨w.heap.size, 5, none⟩ = some (.slice wa ws.length wc) := by simp [go_sem]
 have c6 : (w.alloc (Obj.cells #[.int .i64 op, .int .i64 vr, .int .i64 A, .int .i64 B, .int .i64 bw, .slice wa ws.length wc, .slice ka ks.length kc] 67)).cell? ⟨w.heap.size, 6, none⟩ = some (.slice ka ks.length kc) := by simp [go_sem]
 generalize (w.alloc (Obj.cells #[.int .i64 op, .int .i64 vr, .int .i64 A, .int .i64 B, .int .i64 bw, .slice wa ws.length wc, .slice ka ks.length kc] 67)) = w0 at *
 have hs0 := sumR_range wide ks 0 HWD.out (by omega) (by omega)
 generalize hSS : sumR wide ks 0 = SS at *
 have HSS := kide hSS
 clear hSS
 go_loopw [7, 8] (fun q i wr => ∃ (k : Nat) (S : Int), k ≤ ks.length ∧ i = .int .i64 k ∧ q = .int .i64 S ∧ 0 ≤ S ∧ S ≤ 8192 ∧ sumR wide (ks.drop k) S = SS ∧ wr = w0) (fun _ i _ => ks.length - (intOf i).toNat)
 case atStart => exact ⟨0, 0, Nat.zero_le _, rfl, rfl, by omega, by omega, by rw [List.drop_zero]; exact HSS.out, rfl⟩
 case round =>
  obtain ⟨k, S, hk, rfl, rfl, hS0, hS1, hq, rfl⟩ := hrel
  have HQ := kide hq
  clear hq HSS
  by_cases hlt : k < ks.length
  ·obtain ⟨-, -, h | ⟨b, o, rfl, hc⟩⟩ := HK.out
   ·subst h; simp at hlt
   have g0 := hc k hlt
   clear hc HK
   have hgk : ks[k] = ks.getD k 0 := by simp [List.getD, hlt]
   have HGK := kide hgk
   have hmem : ks.getD k 0 ∈ ks := by rw [← hgk]; exact List.getElem_mem hlt
   clear hgk
   generalize ks.getD k 0 = y at *
   have hy := HKR.out
   rw [kidsR, List.all_eq_true] at hy
   have hy2 := hy y hmem
   clear hy hmem
   simp at hy2
   obtain ⟨m, rfl⟩ : ∃ m : Nat, y = (m : Int) := ⟨y.toNat, by omega⟩
   have hm : m < wide.length := by omega
   clear hy2
   obtain ⟨-, -, h | ⟨b', o', rfl, hc'⟩⟩ := HY.out
   ·subst h; simp at hm
   have g1 := hc' m hm
   clear hc' HY
   have hxm : wide.getD m 0 ∈ wide := by
    have : wide.getD m 0 = wide[m] := by simp [List.getD, hm]
    rw [this]; exact List.getElem_mem hm
   have hx := HWD.out _ hxm
   clear hxm
   have hst : sumR wide (ks.drop (k + 1)) (min 8192 (S + wide.getD m 0)) = SS := by
    have h := HQ.out
    rw [List.drop_eq_getElem_cons hlt, HGK.out, sumR, Int.toNat_natCast] at h
    exact h
   generalize wide.getD m 0 = x at *
   have HST := kide hst
   have i0 : (k : Int) < (ks.length : Int) := by omega
   clear hst HQ HGK
   go_wp2_with fail
   go_roundw
   case rel => exact ⟨k + 1, _, by omega, by go_num, rfl, by omega, by omega, HST.out, by first | rfl | trivial⟩
   case measure => simp [intOf]; omega
  ·have e : k = ks.length := by omega
   subst e
   have hSe : S = SS := by
    have h := HQ.out
    rw [List.drop_length, sumR] at h
    exact h
   subst hSe
   clear HQ hlt hk
   have HLI := kide (fun u => l1In_any A 0 4096 u)
   have HLJ := kide (fun u => l1In_any A 1 4096 u)
   rcases (show op = 1 ∨ op = 2 ∨ op = 4 ∨ op = 5 ∨ op = 6 ∨ op = 7 ∨ op = 8 ∨ op = 9 ∨ (op ≠ 1 ∧ op ≠ 2 ∧ op ≠ 4 ∧ op ≠ 5 ∧ op ≠ 6 ∧ op ≠ 7 ∧ op ≠ 8 ∧ op ≠ 9) by omega) with rfl | rfl | rfl | rfl | rfl | rfl | rfl | rfl | ⟨g1, g2, g4, g5, g6, g7, g8, g9⟩
   ·have hv := HV.out rfl
    obtain ⟨m, rfl⟩ : ∃ m : Nat, vr = (m : Int) := ⟨vr.toNat, by omega⟩
    have hm : m < ds.length := by omega
    obtain ⟨-, -, h | ⟨b, o, rfl, hc⟩⟩ := HR.out
    ·subst h; simp at hm
    have gd : ds[m]? = some (ds.getD m (.empty, 0)) := by simp [List.getD, hm]
    obtain ⟨g0, g1⟩ := hc m _ gd
    have hZ := HZ.out
    simp only [wideR, if_true, Int.toNat_natCast] at hZ
    generalize ds.getD m (.empty, 0) = d at *
    obtain ⟨dn, dw⟩ := d
    simp only [] at g0 g1 hZ
    subst hZ
    clear hc HR gd HV HZ hv
    go_wp2_with fail
    go_ret
    exact ⟨rfl, B0.out⟩
   ·have hZ := HZ.out
    simp [wideR] at hZ
    subst hZ
    clear HZ HV
    go_wp2_with fail
    go_ret
    exact ⟨rfl, B0.out⟩
   ·have hZ := HZ.out
    simp [wideR] at hZ
    have HZ2 := kide hZ
    clear HZ HV hZ
    go_wp2_with fail
    all_goals go_ret
    all_goals refine ⟨ret_int ?_, B0.out⟩
    all_goals (have h := HZ2.out; split at h <;> omega)
   ·have hZ := HZ.out
    simp [wideR] at hZ
    have HZ2 := kide hZ
    clear HZ HV hZ
    by_cases hA2 : 0 ≤ A ∧ A ≤ 4096
    ·rw [decide_eq_true hA2] at HLI
     have h := HZ2.out
     rw [if_pos hA2] at h
     subst h
     go_wp2_with (go_at_call 73; refine Calls.mono (HLI.out _) ?_; rintro e w1 ⟨rfl, rfl⟩)
     go_ret
     exact ⟨rfl, B0.out⟩
    ·rw [decide_eq_false hA2] at HLI
     have h := HZ2.out
     rw [if_neg hA2] at h
     subst h
     go_wp2_with (go_at_call 73; refine Calls.mono (HLI.out _) ?_; rintro e w1 ⟨rfl, rfl⟩)
     go_ret
     exact ⟨rfl, B0.out⟩
   ·have hZ := HZ.out
    simp [wideR] at hZ
    have HZ2 := kide hZ
    clear HZ HV hZ
    by_cases hA2 : 0 ≤ A ∧ A ≤ 4096
    ·rw [decide_eq_true hA2] at HLI
     have h := HZ2.out
     rw [if_pos hA2] at h
     subst h
     go_wp2_with (go_at_call 73; refine Calls.mono (HLI.out _) ?_; rintro e w1 ⟨rfl, rfl⟩)
     go_ret
     exact ⟨rfl, B0.out⟩
    ·rw [decide_eq_false hA2] at HLI
     have h := HZ2.out
     rw [if_neg hA2] at h
     subst h
     go_wp2_with (go_at_call 73; refine Calls.mono (HLI.out _) ?_; rintro e w1 ⟨rfl, rfl⟩)
     go_ret
     exact ⟨rfl, B0.out⟩
   ·have hZ := HZ.out
    simp [wideR] at hZ
    have HZ2 := kide hZ
    clear HZ HV hZ
    by_cases hA2 : 0 ≤ A ∧ A ≤ 4096
    ·rw [decide_eq_true hA2] at HLI
     have h := HZ2.out
     rw [if_pos hA2] at h
     subst h
     go_wp2_with (go_at_call 73; refine Calls.mono (HLI.out _) ?_; rintro e w1 ⟨rfl, rfl⟩)
     go_ret
     exact ⟨rfl, B0.out⟩
    ·rw [decide_eq_false hA2] at HLI
     have h := HZ2.out
     rw [if_neg hA2] at h
     subst h
     go_wp2_with (go_at_call 73; refine Calls.mono (HLI.out _) ?_; rintro e w1 ⟨rfl, rfl⟩)
     go_ret
     exact ⟨rfl, B0.out⟩
   ·have hZ := HZ.out
    simp [wideR] at hZ
    have HZ2 := kide hZ
    clear HZ HV hZ
    by_cases hA2 : 0 ≤ A ∧ A ≤ 4096
    ·rw [decide_eq_true hA2] at HLI
     have h := HZ2.out
     rw [if_pos hA2] at h
     subst h
     go_wp2_with (go_at_call 73; refine Calls.mono (HLI.out _) ?_; rintro e w1 ⟨rfl, rfl⟩)
     go_ret
     exact ⟨rfl, B0.out⟩
    ·rw [decide_eq_false hA2] at HLI
     have h := HZ2.out
     rw [if_neg hA2] at h
     subst h
     go_wp2_with (go_at_call 73; refine Calls.mono (HLI.out _) ?_; rintro e w1 ⟨rfl, rfl⟩)
     go_ret
     exact ⟨rfl, B0.out⟩
   ·have hZ := HZ.out
    simp [wideR] at hZ
    have HZ2 := kide hZ
    clear HZ HV hZ
    by_cases hA2 : 1 ≤ A ∧ A ≤ 4096
    ·rw [decide_eq_true hA2] at HLJ
     have h := HZ2.out
     rw [if_pos hA2] at h
     subst h
     first | (have hmul : 0 ≤ S * A ∧ S * A ≤ 33554432 := ⟨Int.mul_nonneg (by omega) (by omega), by have := Int.mul_le_mul hS1 hA2.2 (by omega) (by omega : (0 : Int) ≤ 8192); omega⟩) | skip
     go_wp2_with (go_at_call 73; refine Calls.mono (HLJ.out _) ?_; rintro e w1 ⟨rfl, rfl⟩)
     go_ret
     exact ⟨rfl, B0.out⟩
    ·rw [decide_eq_false hA2] at HLJ
     have h := HZ2.out
     rw [if_neg hA2] at h
     subst h
     go_wp2_with (go_at_call 73; refine Calls.mono (HLJ.out _) ?_; rintro e w1 ⟨rfl, rfl⟩)
     go_ret
     exact ⟨rfl, B0.out⟩
   ·have hZ := HZ.out
    simp [wideR, g1, g2, g4, g5, g6, g7, g8, g9] at hZ
    subst hZ
    have m1 : (op == 1) = false := by simp; omega
    have m2 : (op == 2) = false := by simp; omega
    have m4 : (op == 4) = false := by simp; omega
    have m5 : (op == 5) = false := by simp; omega
    have m6 : (op == 6) = false := by simp; omega
    have m7 : (op == 7) = false := by simp; omega
    have m8 : (op == 8) = false := by simp; omega
    have m9 : (op == 9) = false := by simp; omega
    clear HZ HV
    go_wp2_with fail
    go_ret
    exact ⟨rfl, B0.out⟩

def OW (w : World) (B : Nat) (v : Value) (xs : List Int) : Prop := w.ownsRow B 2 1 v xs.length (xs.map (Value.int .i64))
theorem OW.lt {w : World} {B : Nat} {v : Value} {xs : List Int} (h : OW w B v xs) {k : Nat} (hk : v.ownBlock = some k) : B ≤ k ∧ k < w.heap.size := World.ownsRow.lt h k hk
theorem OW.typed {w : World} {B : Nat} {v : Value} {xs : List Int} (h : OW w B v xs) {b : Nat} {cs : Array Value} {t : TypeId} {fr : Nat × Nat} (hb : w.heap[b]? = some (.cells cs t fr)) (ht : t ≠ 2) : some b ≠ v.ownBlock := fun hk => by
 rcases h.2 with ⟨rfl, -⟩ | ⟨g, cap, cur, rfl, hg, hh, -⟩
 ·cases hk
 ·cases hk
  rw [hb] at hh
  cases hh
  exact ht rfl
theorem OW.later {w w' : World} {B : Nat} {v : Value} {xs : List Int} (h : OW w B v xs) (hb : Below w.heap.size w w') : OW w' B v xs := World.ownsRow.kept (row := none) h ⟨hb.os, hb.tape, hb.output, hb.size, fun k hk _ => hb.block k hk⟩ (by
 cases h' : v.ownBlock with
 | none => exact .inl rfl
 | some k => exact .inr (by simp))
theorem OW.rd {w : World} {B : Nat} {v : Value} {xs : List Int} (h : OW w B v xs) (hl : xs.length ≤ 1048576) (hi : ∀ x ∈ xs, in64 x) : ∃ a c, v = .slice a xs.length c ∧ RdI w a xs := by
 have hcells := fun g hg => World.ownsRow.cells h (g := g) hg
 rcases h.2 with ⟨rfl, hn⟩ | ⟨g, cap, cur, rfl, -, -, -⟩
 ·exact ⟨none, 0, by rw [hn], hl, hi, .inl (List.eq_nil_of_length_eq_zero hn)⟩
 ·refine ⟨some ⟨g, 0, none⟩, cap, rfl, hl, hi, .inr ⟨g, 0, rfl, fun i hi' => ?_⟩⟩
  have c0 := hcells g rfl i (.int .i64 (xs.getD i 0)) (by simp [List.getD, hi'])
  rw [Addr.add_lit] at c0
  simpa using c0
theorem wpList_appW {w : World} {ops : Array Oper} {rest : List Oper} {o : Oper} {a : Act} {Q : Exit → Act → World → Prop} (hgd : o.guard = none) (s x : Operand)
  (ho : o.op = .call { callee := .builtin .append, args := #[s, x], argTypes := #[60, 60] })
  (B : Nat) (v : Value) (xs : List Int) (y : Int) (hs : a.eval s = v) (hown : OW w B v xs) (gx : Nat) (hx : a.eval x = .slice (some ⟨gx, 0, none⟩) 1 1)
  (h0 : w.cell? ⟨gx, 0, none⟩ = some (.int .i64 y)) (hl : xs.length ≤ 1073741824) (hB : B ≤ w.heap.size)
  (h : ∀ v' w', OW w' B v' (xs ++ [y]) → w.grownBy w' v.ownBlock → wpList Tryz.prog ops Q rest (a.put o.dst v') w') : wpList Tryz.prog ops Q (o :: rest) a w := by
 obtain ⟨i0, hi, hz0, hz1, hz2⟩ := info_parts Tryz.infoI64
 refine wpList_append_own_at w hgd s x 60 ho B 2 i0 _ 1 8 Tryz.underlying60 hi hz0 hz1 hz2 rfl (by decide) v xs.length (xs.map (Value.int .i64)) hs hown ⟨gx, 0, none⟩ 1 1 [.int .i64 y] hx rfl ?_ ?_ (by unfold maxLen; omega) (by omega) hB ?_
 ·intro j u hj
  rw [Addr.add_lit]
  match j, hj with
  | 0, hj => simp at hj; subst hj; exact h0
  | j + 1, hj => simp at hj
 ·intro u hu
  simp at hu
  subst hu
  rfl
 ·intro v' w' ho' hg _ _
  refine h v' w' ?_ hg
  unfold OW
  rw [List.map_append, List.length_append]
  exact ho'
def stepR (ds : List Dc) (wide : List Int) (n : Tc) : Option Int :=
 if (kidsR wide.length n.ks && fieldR n && manyR ds.length n) = true then
  (if 1 ≤ wideR ds n (sumR wide n.ks 0) ∧ wideR ds n (sumR wide n.ks 0) ≤ 4096 then some (wideR ds n (sumR wide n.ks 0)) else none)
 else none
def goR (ds : List Dc) : List Int → List Tc → Option (List Int)
 | wide, [] => some wide
 | wide, n :: t => match stepR ds wide n with
  | none => none
  | some v => goR ds (wide ++ [v]) t
def usedR (ns : List Tc) (i : Nat) : Bool := ns.any (fun n => n.ks.any (fun k => decide (k = (i : Int))))
def widthsR (ds : List Dc) (ns : List Tc) : List Int :=
 if (dclR ds && decide (1 ≤ ns.length) && decide (ns.length ≤ 400)) = true then
  match goR ds [] ns with
  | none => []
  | some wide => if (List.range (ns.length - 1)).all (usedR ns) = true then wide else []
 else []
theorem goR_none {ds : List Dc} {wide : List Int} {ns : List Tc} {k : Nat} {n : Tc} (hk : ns[k]? = some n) (h : stepR ds wide n = none) : goR ds wide (ns.drop k) = none := by
 have l := (List.getElem?_eq_some_iff.1 hk).1
 rw [List.drop_eq_getElem_cons l, goR]
 rw [List.getElem?_eq_getElem l] at hk
 cases hk
 rw [h]
theorem goR_some {ds : List Dc} {wide : List Int} {ns : List Tc} {k : Nat} {n : Tc} {v : Int} (hk : ns[k]? = some n) (h : stepR ds wide n = some v) : goR ds wide (ns.drop k) = goR ds (wide ++ [v]) (ns.drop (k + 1)) := by
 have l := (List.getElem?_eq_some_iff.1 hk).1
 rw [List.drop_eq_getElem_cons l, goR]
 rw [List.getElem?_eq_getElem l] at hk
 cases hk
 rw [h]
theorem stepR_range {ds : List Dc} {wide : List Int} {n : Tc} {v : Int} (h : stepR ds wide n = some v) : 1 ≤ v ∧ v ≤ 4096 := by
 unfold stepR at h
 split at h
 ·split at h
  ·cases h; assumption
  ·cases h
 ·cases h
theorem stepR_kids {ds : List Dc} {wide : List Int} {n : Tc} {v : Int} (h : stepR ds wide n = some v) : (kidsR wide.length n.ks && fieldR n && manyR ds.length n) = true := by
 unfold stepR at h
 split at h
 ·assumption
 ·cases h
theorem manyR_var {nd : Nat} {n : Tc} (h : manyR nd n = true) : n.op = 1 → 0 ≤ n.vr ∧ n.vr ≤ (nd : Int) - 1 := by
 intro e
 unfold manyR at h
 rw [if_pos e] at h
 simp at h
 omega

theorem OW.fresh (w : World) (B : Nat) (hB : B ≤ w.heap.size) : OW (w.alloc (Obj.cells #[] 2)) B (.slice (some ⟨w.heap.size, 0, none⟩) 0 0) [] :=
 ⟨rfl, .inr ⟨w.heap.size, 0, #[], rfl, hB, heap_alloc_new _ _, Nat.le_refl _, by unfold maxLen; omega, rfl, rfl⟩⟩
theorem Tryz.infoBool : (Tryz.prog.info? 4).map (fun i => (i.zero, i.size, i.bytes)) = some (some (.bool false), 1, 1) := by kernel_rfl
set_option maxHeartbeats 1000000 in
theorem l3Widths_no (a b : Option Addr) (c c2 n : Nat) (ds : List Dc) (xs : List Tg) (w : World) (hr : RdD w a ds) (hs : RdT w b xs) (hn : xs.length = n) (hok : ¬ (dclR ds = true ∧ 1 ≤ n ∧ n ≤ 400)) :
  Calls Tryz.prog 50 #[.slice a ds.length c, .agg #[.slice b n c2]] w fun e w' => ∃ v, e = .returned v ∧ OW w' (w.heap.size + 1) v (widthsR ds (xs.map Tg.ct)) ∧ Below w.heap.size w w' := by
 have hl1 := hr.1
 have hl2 := hs.1
 rw [hn] at hl2
 have HR := kide hr
 have HS := kide hs
 have HN := kide hn
 have hb1 : Below w.heap.size w (w.alloc (Obj.cells #[.slice b n c2] 30)) := blA _ _
 have hb2 : Below w.heap.size w ((w.alloc (Obj.cells #[.slice b n c2] 30)).alloc (Obj.cells #[] 2)) := hb1.alloc (by simp) _
 have B2 := kide hb2
 have HDK := kide (fun u (hu : Below w.heap.size w u) => specDecls_any a c ds u (hr.later hu))
 generalize hZ : widthsR ds (xs.map Tg.ct) = Z
 have HZ := kide hZ
 clear hr hs hn hb1 hb2 hZ
 go_enter Tryz.func50, Tryz.ntmps50
 go_wp2_with fail
 refine Calls.mono (HDK.out _ B2.out) ?_
 rintro e w1 ⟨rfl, hb1⟩
 have c1 := kcell hb1 w.heap.size 0 (by simp; omega)
 have n1 : w1.heap[w.heap.size + 1]? = some (.cells #[] 2 (0, 0)) := by
  rw [hb1.block _ (by simp)]
  have h := heap_alloc_new (w.alloc (Obj.cells #[.slice b n c2] 30)) (Obj.cells #[] 2)
  simpa using h
 have B1 := kide (B2.out.trans (hb1.mono B2.out.size))
 have z1 : w.heap.size + 1 < w1.heap.size := lt_of_block n1
 have zz : w.heap.size < w1.heap.size := by omega
 simp at c1
 clear hb1 B2
 have ON1 : Hid (OW w1 (w.heap.size + 1) (.slice (some ⟨w.heap.size + 1, 0, none⟩) 0 0) []) := ⟨rfl, .inr ⟨w.heap.size + 1, 0, #[], rfl, Nat.le_refl _, n1, Nat.le_refl _, by unfold maxLen; omega, rfl, rfl⟩⟩
 have hZ0 : Z = [] := by
  rw [← HZ.out, widthsR, if_neg]
  have := HN.out
  simp only [Bool.and_eq_true, decide_eq_true_eq, List.length_map, this]
  rintro ⟨⟨h1, h2⟩, h3⟩
  exact hok ⟨h1, h2, h3⟩
 subst hZ0
 cases hd : dclR ds with
 | false =>
  clear HZ HDK hok
  go_wp2_with fail
  go_ret
  exact ⟨_, rfl, ON1.out, B1.out⟩
 | true =>
  have hor : n < 1 ∨ 400 < n := by rw [hd] at hok; simp at hok; omega
  rcases hor with hor | hor
  ·have : n = 0 := by omega
   subst this
   clear HZ HDK hok
   go_wp2_with fail
   go_ret
   exact ⟨_, rfl, ON1.out, B1.out⟩
  ·clear HZ HDK hok
   go_wp2_with fail
   go_ret
   exact ⟨_, rfl, ON1.out, B1.out⟩


structure Lw (w : World) (b : Option Addr) (n c2 U : Nat) (q : Nat → Bool) (wr : World) : Prop where
 box : wr.heap[w.heap.size]? = some (.cells #[.slice b n c2] 30 (0, 0))
 non : wr.heap[w.heap.size + 1]? = some (.cells #[] 2 (0, 0))
 bel : Below w.heap.size w wr
 row : ∃ f, wr.rowIs U 4 n f ∧ ∀ j, j < n → f j = .bool (q j)
theorem Lw.lt {w : World} {b : Option Addr} {n c2 U : Nat} {q : Nat → Bool} {wr : World} (h : Lw w b n c2 U q wr) : U < wr.heap.size := by
 obtain ⟨f, ⟨cc, hh, -⟩, -⟩ := h.row
 exact lt_of_block hh
theorem Lw.cell {w : World} {b : Option Addr} {n c2 U : Nat} {q : Nat → Bool} {wr : World} (h : Lw w b n c2 U q wr) : wr.cell? ⟨w.heap.size, 0, none⟩ = some (.slice b n c2) := by
 simp [World.cell?, h.box]
theorem Lw.none' {w : World} {b : Option Addr} {n c2 U : Nat} {q : Nat → Bool} {wr : World} (h : Lw w b n c2 U q wr) : OW wr (w.heap.size + 1) (.slice (some ⟨w.heap.size + 1, 0, none⟩) 0 0) [] := ⟨rfl, .inr ⟨w.heap.size + 1, 0, #[], rfl, Nat.le_refl _, h.non, Nat.le_refl _, by unfold maxLen; omega, rfl, rfl⟩⟩
theorem Lw.later {w : World} {b : Option Addr} {n c2 U : Nat} {q : Nat → Bool} {wr wr' : World} (h : Lw w b n c2 U q wr) (hb : Below wr.heap.size wr wr') : Lw w b n c2 U q wr' where
 box := by rw [hb.block _ (lt_of_block h.box)]; exact h.box
 non := by rw [hb.block _ (lt_of_block h.non)]; exact h.non
 bel := h.bel.trans (hb.mono h.bel.size)
 row := by
  obtain ⟨f, hf, hq⟩ := h.row
  exact ⟨f, World.rowIs.of_block hf (hb.block _ h.lt), hq⟩
theorem Lw.grown {w : World} {b : Option Addr} {n c2 U B : Nat} {q : Nat → Bool} {wr wr' : World} {v : Value} {xs : List Int} (h : Lw w b n c2 U q wr) (ho : OW wr B v xs) (hB : w.heap.size + 1 < B) (hg : wr.grownBy wr' v.ownBlock) : Lw w b n c2 U q wr' where
 box := by rw [hg.block _ (lt_of_block h.box) (fun e => by have := ho.lt e.symm; omega)]; exact h.box
 non := by rw [hg.block _ (lt_of_block h.non) (fun e => by have := ho.lt e.symm; omega)]; exact h.non
 bel := ⟨hg.os.trans h.bel.os, hg.tape.trans h.bel.tape, hg.output.trans h.bel.output, Nat.le_trans h.bel.size hg.size, fun k hk => (hg.block k (Nat.lt_of_lt_of_le hk h.bel.size) (fun e => by have := ho.lt e.symm; omega)).trans (h.bel.block k hk)⟩
 row := by
  obtain ⟨f, ⟨cc, hh, h1, h2⟩, hq⟩ := h.row
  refine ⟨f, World.rowIs.of_block ⟨cc, hh, h1, h2⟩ (hg.block _ (lt_of_block hh) ?_), hq⟩
  exact ho.typed hh (by decide)
theorem Lw.mark {w : World} {b : Option Addr} {n c2 U : Nat} {q : Nat → Bool} {wr : World} (h : Lw w b n c2 U q wr) (hU : w.heap.size + 1 < U) (m : Nat) : Lw w b n c2 U (fun j => if j = m then true else q j) (wr.setCell ⟨U, m, none⟩ (.bool true)) where
 box := by rw [heap_setCell_other _ _ _ _ (by simp; omega)]; exact h.box
 non := by rw [heap_setCell_other _ _ _ _ (by simp; omega)]; exact h.non
 bel := h.bel.setCell (by simp; omega) _
 row := by
  obtain ⟨f, hf, hq⟩ := h.row
  refine ⟨_, World.rowIs.set hf m (.bool true), fun j hj => ?_⟩
  by_cases e : j = m
  ·simp [e]
  ·simp [e, hq j hj]
theorem OW.mono {w : World} {B B' : Nat} {v : Value} {xs : List Int} (h : OW w B v xs) (hB : B' ≤ B) : OW w B' v xs := by
 refine ⟨h.1, ?_⟩
 rcases h.2 with h | ⟨g, cap, cur, h1, h2, h3⟩
 ·exact .inl h
 ·exact .inr ⟨g, cap, cur, h1, Nat.le_trans hB h2, h3⟩
theorem OW.mark {w : World} {B : Nat} {v : Value} {xs : List Int} (h : OW w B v xs) {U : Nat} {f : Nat → Value} {n : Nat} (hr : w.rowIs U 4 n f) (i : Nat) (x : Value) : OW (w.setCell ⟨U, i, none⟩ x) B v xs := by
 obtain ⟨cc, hh, -⟩ := hr
 have hne := h.typed hh (by decide)
 refine World.ownsRow.kept (row := some U) h ⟨rfl, rfl, rfl, by simp, fun k hk hn => heap_setCell_other _ _ _ _ (fun e => hn (by simp at e; rw [e]))⟩ (.inr (fun e => hne e.symm))

set_option maxHeartbeats 1000000 in
theorem l3Widths_yes (a b : Option Addr) (c c2 n : Nat) (ds : List Dc) (xs : List Tg) (w : World) (hr : RdD w a ds) (hs : RdT w b xs) (hn : xs.length = n) (hok : dclR ds = true ∧ 1 ≤ n ∧ n ≤ 400) :
  Calls Tryz.prog 50 #[.slice a ds.length c, .agg #[.slice b n c2]] w fun e w' => ∃ v, e = .returned v ∧ OW w' (w.heap.size + 1) v (widthsR ds (xs.map Tg.ct)) ∧ Below w.heap.size w w' := by
 have hl1 := hr.1
 have hl2 := hs.1
 rw [hn] at hl2
 have HR := kide hr
 have HS := kide hs
 have HN := kide hn
 have hb1 : Below w.heap.size w (w.alloc (Obj.cells #[.slice b n c2] 30)) := blA _ _
 have hb2 : Below w.heap.size w ((w.alloc (Obj.cells #[.slice b n c2] 30)).alloc (Obj.cells #[] 2)) := hb1.alloc (by simp) _
 have B2 := kide hb2
 have HDK := kide (fun u (hu : Below w.heap.size w u) => specDecls_any a c ds u (hr.later hu))
 generalize hZ : widthsR ds (xs.map Tg.ct) = Z
 have HZ := kide hZ
 clear hr hs hn hb1 hb2 hZ
 go_enter Tryz.func50, Tryz.ntmps50
 go_wp2_with fail
 refine Calls.mono (HDK.out _ B2.out) ?_
 rintro e w1 ⟨rfl, hb1⟩
 have c1 := kcell hb1 w.heap.size 0 (by simp; omega)
 have n1 : w1.heap[w.heap.size + 1]? = some (.cells #[] 2 (0, 0)) := by
  rw [hb1.block _ (by simp)]
  have h := heap_alloc_new (w.alloc (Obj.cells #[.slice b n c2] 30)) (Obj.cells #[] 2)
  simpa using h
 have B1 := kide (B2.out.trans (hb1.mono B2.out.size))
 have HBX : Hid (w1.heap[w.heap.size]? = some (.cells #[.slice b n c2] 30 (0, 0))) := by
  show w1.heap[w.heap.size]? = _
  rw [hb1.block _ (by simp; omega)]
  have h := heap_alloc_new w (Obj.cells #[.slice b n c2] 30)
  rw [← h]
  exact ((Below.refl _ _).alloc (B := (w.alloc (Obj.cells #[.slice b n c2] 30)).heap.size) (Nat.le_refl _) _).block _ (by simp)
 have z1 : w.heap.size + 1 < w1.heap.size := lt_of_block n1
 have zz : w.heap.size < w1.heap.size := by omega
 simp at c1
 clear hb1 B2
 have ON1 : Hid (OW w1 (w.heap.size + 1) (.slice (some ⟨w.heap.size + 1, 0, none⟩) 0 0) []) := ⟨rfl, .inr ⟨w.heap.size + 1, 0, #[], rfl, Nat.le_refl _, n1, Nat.le_refl _, by unfold maxLen; omega, rfl, rfl⟩⟩
 obtain ⟨hd, hn1, hn4⟩ := hok
 rw [hd]
 have hmk := fun kl kc w => run_make_row' (P := Tryz.prog) 119 4 (.bool false) 1 Tryz.underlying119 Tryz.infoBool rfl kl kc n (by omega) (by omega) w
 have HD := kide hd
 clear hd
 go_wp2_with fail
 generalize hNS : xs.map Tg.ct = ns at *
 have HNS := kide hNS
 have hnl : ns.length = n := by rw [← hNS, List.length_map]; exact HN.out
 have HNL := kide hnl
 have hok2 : (match goR ds [] ns with
  | none => []
  | some wide => if (List.range (n - 1)).all (usedR ns) = true then wide else []) = Z := by
  have h := HZ.out
  rw [widthsR, if_pos (by simp only [Bool.and_eq_true, decide_eq_true_eq, hnl]; exact ⟨⟨HD.out, hn1⟩, hn4⟩), hnl] at h
  exact h
 have HOK2 := kide hok2
 clear hok2 HZ HDK hNS hnl
 have ob3 : Below w1.heap.size w1 ((w1.alloc (Obj.cells #[] 2)).alloc (Obj.cells (madeCells #[.bool false] n) 4)) := (blA _ _).alloc (by simp) _
 have hrow := krow (heap_alloc_new (w1.alloc (Obj.cells #[] 2)) (.cells (madeCells #[.bool false] n) 4))
 rw [size_madeCells] at hrow
 have hx1 : w1.heap[w.heap.size]? = some (.cells #[.slice b n c2] 30 (0, 0)) := HBX.out
 have L0 : Hid (Lw w b n c2 (w1.heap.size + 1) (usedR (ns.take 0)) ((w1.alloc (Obj.cells #[] 2)).alloc (Obj.cells (madeCells #[.bool false] n) 4))) := by
  refine ⟨by rw [ob3.block _ zz]; exact hx1, by rw [ob3.block _ z1]; exact n1, B1.out.trans (ob3.mono B1.out.size), ⟨_, by simpa using hrow, fun j hj => ?_⟩⟩
  have e : (madeCells #[.bool false] n)[j]? = some (.bool false) := by simp [madeCells, hj, Nat.mod_one]
  simp [usedR, e]
 have W0 : Hid (OW ((w1.alloc (Obj.cells #[] 2)).alloc (Obj.cells (madeCells #[.bool false] n) 4)) w1.heap.size (.slice (some ⟨w1.heap.size, 0, none⟩) 0 0) []) := (OW.fresh w1 w1.heap.size (Nat.le_refl _)).later (blA _ _)
 generalize (w1.alloc (Obj.cells #[] 2)).alloc (Obj.cells (madeCells #[.bool false] n) 4) = w3 at *
 clear hrow ob3 hmk c1 n1 ON1 hx1 HBX
 have zU : w.heap.size + 1 < w1.heap.size + 1 := by omega
 generalize hU : w1.heap.size + 1 = U at *
 generalize hG : goR ds [] ns = G at *
 have HG := kide hG
 clear hG
 go_loopw [6, 8] (fun l i wr => ∃ (k : Nat) (wide : List Int), k ≤ n ∧ i = .int .i64 (k : Int) ∧ OW wr w1.heap.size l wide ∧ wide.length = k ∧ (∀ x ∈ wide, 1 ≤ x ∧ x ≤ 4096) ∧ goR ds wide (ns.drop k) = G ∧ Lw w b n c2 U (usedR (ns.take k)) wr ∧ w1.heap.size ≤ wr.heap.size) (fun _ i _ => n - (intOf i).toNat)
 case atStart => exact ⟨0, [], Nat.zero_le _, rfl, W0.out, rfl, by simp, HG.out, L0.out, by have := L0.out.lt; omega⟩
 case round =>
  obtain ⟨k, wide, hk, rfl, hown, hwl, hwd, hgo, hlw, hsz⟩ := hrel
  have HOW := kide hown
  have HWL := kide hwl
  have HWD := kide hwd
  have HGO := kide hgo
  have HLW := kide hlw
  have cb := hlw.cell
  obtain ⟨ya, yc, rfl, hyr⟩ := hown.rd (by omega) (fun x hx => by have := hwd x hx; unfold in64; omega)
  have HYR := kide hyr
  clear hyr
  by_cases hlt : k < n
  ·obtain ⟨-, h | ⟨b2, o2, rfl, hc2⟩⟩ := HS.out
   ·have := HN.out; subst h; simp at this; omega
   obtain ⟨⟨s1, wa, wc, ka, kc⟩, gx⟩ : ∃ x, xs[k]? = some x := ⟨xs[k]'(by rw [HN.out]; exact hlt), List.getElem?_eq_getElem _⟩
   have gn : ns[k]? = some s1 := by rw [← HNS.out, List.getElem?_map, gx]; rfl
   obtain ⟨⟨p0, p1, p2, p3, p4, p5, p6⟩, pr, pi, p64⟩ := (hc2 k _ gx).later hlw.bel
   simp only [Tg.hd] at p0 p1 p2 p3 p4 p5 p6 pr pi p64
   have HFM := kide (l3Form_any a ds.length c k s1 wa ka wc kc wr pr pi (by omega) hl1)
   have GN := kide gn
   have P64 := kide p64
   have PR := kide (fun u (hu : Below wr.heap.size wr u) => pr.later hu)
   have PI := kide (fun u (hu : Below wr.heap.size wr u) => pi.later hu)
   have HC0 := kide (hc2 k _ gx)
   have HCT := kide (fun u (hu : Below wr.heap.size wr u) => (hc2 k _ gx).later (hlw.bel.trans (hu.mono hlw.bel.size)))
   generalize hV : (kidsR k s1.ks && fieldR s1 && manyR ds.length s1) = V at *
   have HV := kide hV
   have i0 : (k : Int) < (n : Int) := by omega
   clear hV hc2 gx gn p64 pr pi hown hwl hwd hgo hlw
   go_wp2_with fail
   refine Calls.mono HFM.out ?_
   rintro e w4 ⟨rfl, hb4⟩
   have L4 := kide (HLW.out.later hb4)
   have O4 := kide (HOW.out.later hb4)
   have cb4 := L4.out.cell
   cases V with
   | false =>
    clear hb4 HFM
    go_wp2_with fail
    go_ret
    refine ⟨_, rfl, ?_, L4.out.bel⟩
    have hst : stepR ds wide s1 = none := by
     unfold stepR
     rw [HWL.out, HV.out]
     rfl
    have hz := HOK2.out
    rw [← HGO.out, goR_none GN.out hst] at hz
    rw [← hz]
    exact L4.out.none'
   | true =>
    obtain ⟨⟨p0, p1, p2, p3, p4, p5, p6⟩, -⟩ := HCT.out w4 hb4
    simp only [Tg.hd] at p0 p1 p2 p3 p4 p5 p6
    have hkk : kidsR wide.length s1.ks = true := by
     have h := HV.out
     simp only [Bool.and_eq_true] at h
     rw [HWL.out]; exact h.1.1
    have hvv : s1.op = 1 → 0 ≤ s1.vr ∧ s1.vr ≤ (ds.length : Int) - 1 := by
     have h := HV.out
     simp only [Bool.and_eq_true] at h
     exact manyR_var h.2
    have HWI := kide (l3Wide_any a c ds s1 wa ka ya wc kc yc wide w4 (HR.out.later L4.out.bel) (PR.out w4 hb4) (PI.out w4 hb4) (HYR.out.later hb4) HWD.out hkk hvv P64.out.2.2.1 P64.out.2.2.2.1)
    have PR4 := kide (fun u (hu : Below w4.heap.size w4 u) => (PI.out w4 hb4).later hu)
    have HCT4 := kide (fun u (hu : Below w4.heap.size w4 u) => (HCT.out w4 hb4).later hu)
    clear hb4 HFM hkk hvv HCT PR PI HYR
    generalize hX : wideR ds s1 (sumR wide s1.ks 0) = X at *
    have HX := kide hX
    clear hX
    go_wp2_with fail
    refine Calls.mono HWI.out ?_
    rintro e w5 ⟨rfl, hb5⟩
    have L5 := kide (L4.out.later hb5)
    have O5 := kide (O4.out.later hb5)
    have cb5 := L5.out.cell
    have HCT5 := kide (HCT4.out w5 hb5)
    have PI5 := kide (PR4.out w5 hb5)
    clear hb5 HWI cb4 L4 O4 HCT4 PR4
    have HLI := kide (fun u => l1In_any X 1 4096 u)
    by_cases hX1 : 1 ≤ X ∧ X ≤ 4096
    ·rw [decide_eq_true hX1] at HLI
     have hst : stepR ds wide s1 = some X := by
      unfold stepR
      rw [HWL.out, HV.out, HX.out, if_pos rfl, if_pos hX1]
     have HST := kide hst
     have HX1 := kide hX1
     have hz5 : w1.heap.size ≤ w5.heap.size := by have := L5.out.lt; omega
     have hwl2 : wide.length ≤ 1073741824 := by have := HWL.out; omega
     clear hst hX1
     go_wp2_with (first | (go_at_call 73; refine Calls.mono (HLI.out _) ?_; rintro e w6 ⟨rfl, rfl⟩) | (at_builtin; refine wpList_appW rfl _ _ rfl w1.heap.size _ wide X rfl (World.ownsRow.alloc O5.out _) _ rfl (by simp) hwl2 (by simp; omega) ?_))
     intro v7 w7 hos hg
     have L7 := kide ((L5.out.later ((Below.refl _ _).alloc (Nat.le_refl _) (Obj.cells #[.int .i64 X] 2))).grown (World.ownsRow.alloc O5.out _) (by omega) hg)
     have O7 := kide hos
     clear hos hg L5 O5 cb5 HCT5 PI5 HLI
     have cb7 := L7.out.cell
     go_wp2_with fail
     have hkb : ∀ y ∈ s1.ks, 0 ≤ y ∧ y ≤ (k : Int) - 1 := by
      have h := HV.out
      simp only [Bool.and_eq_true] at h
      have h1 := h.1.1
      rw [kidsR, List.all_eq_true] at h1
      intro y hy
      simpa using h1 y hy
     have HKB := kide hkb
     have hks : s1.ks.length ≤ 1048576 := HC0.out.2.2.1.1
     clear hkb cb7 cb p0 p1 p2 p3 p4 p5 p6
     obtain ⟨wo, hwo⟩ : ∃ wo, wo = wr := ⟨_, rfl⟩
     subst hwo
     clear HOW HLW
     go_loopw [10] (fun i wr => ∃ t : Nat, t ≤ s1.ks.length ∧ i = .int .i64 (t : Int) ∧ OW wr w1.heap.size v7 (wide ++ [X]) ∧ Lw w (some ⟨b2, o2, none⟩) n c2 U (fun j => usedR (ns.take k) j || (s1.ks.take t).any (fun y => decide (y = (j : Int)))) wr) (fun i _ => s1.ks.length - (intOf i).toNat)
     case atStart => exact ⟨0, Nat.zero_le _, rfl, O7.out, by simpa using L7.out⟩
     case round =>
      obtain ⟨t, ht, rfl, hot, hlt2⟩ := hrel
      have HOT := kide hot
      have HLT := kide hlt2
      have cbt := hlt2.cell
      obtain ⟨⟨-, -, -, -, -, -, p6⟩, -, pi, -⟩ := HC0.out.later hlt2.bel
      simp only [Tg.hd] at p6 pi
      clear hot
      by_cases htl : t < s1.ks.length
      ·obtain ⟨-, -, h | ⟨b3, o3, rfl, hc3⟩⟩ := pi
       ·rw [h] at htl; simp at htl
       have g0 := hc3 t htl
       have hym : s1.ks.getD t 0 ∈ s1.ks := by
        have : s1.ks.getD t 0 = s1.ks[t] := by simp [List.getD, htl]
        rw [this]; exact List.getElem_mem htl
       have hyb := HKB.out _ hym
       have hgt : s1.ks[t]? = some (s1.ks.getD t 0) := by simp [List.getD, htl]
       have HGT := kide hgt
       clear hc3 hym hgt
       generalize s1.ks.getD t 0 = y at *
       obtain ⟨m, rfl⟩ : ∃ m : Nat, y = (m : Int) := ⟨y.toNat, by omega⟩
       have hm : m < n := by omega
       obtain ⟨f, hrw, hfq⟩ := hlt2.row
       have q0 := hrw.cell (i := m) hm
       have r0 := hrw.frozen m
       have HRW := kide hrw
       have j0 : (t : Int) < (s1.ks.length : Int) := by omega
       clear hrw hfq hlt2 hyb
       generalize f m = fm at q0
       go_wp2_with fail
       go_roundw
       case rel =>
        refine ⟨t + 1, by omega, by go_num, HOT.out.mark HRW.out _ _, ?_⟩
        have h := HLT.out.mark (by omega) m
        refine cast ?_ h
        congr 1
        funext j
        rw [List.take_add_one, HGT.out, List.any_append]
        by_cases e : j = m
        ·subst e; simp
        ·have e2 : ¬ ((m : Int) = (j : Int)) := by omega
         simp [e, e2]
       case measure => simp [intOf]; omega
      ·have e : t = s1.ks.length := by omega
       subst e
       clear hlt2 pi
       go_wp2_with fail
       have hzU := HLT.out.lt
       refine ⟨⟨k + 1, wide ++ [X], by omega, by go_num, HOT.out, by simp [HWL.out], ?_, ?_, ?_, by omega⟩, ?_⟩
       ·intro x hx
        rcases List.mem_append.1 hx with hx | hx
        ·exact HWD.out x hx
        ·rw [List.mem_singleton.1 hx]; exact HX1.out
       ·rw [← goR_some GN.out HST.out]; exact HGO.out
       ·have h := HLT.out
        rw [List.take_length] at h
        refine cast ?_ h
        congr 1
        funext j
        rw [List.take_add_one, GN.out]
        simp [usedR, List.any_append]
       ·simp [intOf]; omega
    ·rw [decide_eq_false hX1] at HLI
     have HX1 := kide hX1
     clear hX1
     go_wp2_with (go_at_call 73; refine Calls.mono (HLI.out _) ?_; rintro e w6 ⟨rfl, rfl⟩)
     go_ret
     refine ⟨_, rfl, ?_, L5.out.bel⟩
     have hst : stepR ds wide s1 = none := by
      unfold stepR
      rw [HWL.out, HV.out, HX.out, if_pos rfl, if_neg HX1.out]
     have hz := HOK2.out
     rw [← HGO.out, goR_none GN.out hst] at hz
     rw [← hz]
     exact L5.out.none'
  ·have e : k = n := by omega
   subst e
   have hgo2 : G = some wide := by
    have h := HGO.out
    have hl := HNL.out
    rw [List.drop_of_length_le (by omega), goR] at h
    exact h.symm
   have hL := HLW.out
   rw [List.take_of_length_le (by have := HNL.out; omega)] at hL
   have HLE := kide hL
   have hz := HOK2.out
   rw [hgo2] at hz
   simp only [] at hz
   have HZ3 := kide hz
   clear hz hgo2 hL hown hwl hwd hgo hlw
   go_wp2_with fail
   obtain ⟨wo, hwo⟩ : ∃ wo, wo = wr := ⟨_, rfl⟩
   subst hwo
   go_loopw [11] (fun i wr => ∃ t : Nat, t ≤ k - 1 ∧ i = .int .i64 (t : Int) ∧ (∀ j, j < t → usedR ns j = true) ∧ wr = wo) (fun i _ => k - (intOf i).toNat)
   case atStart => exact ⟨0, Nat.zero_le _, rfl, fun j hj => by omega, rfl⟩
   case round =>
    obtain ⟨t, ht, rfl, hall, rfl⟩ := hrel
    have HALL := kide hall
    clear hall
    by_cases htl : t + 1 < k
    ·obtain ⟨f, hrw, hfq⟩ := HLE.out.row
     have q0 := hrw.cell (i := t) (by omega)
     rw [hfq t (by omega)] at q0
     clear hrw hfq
     cases hu : usedR ns t with
     | true =>
      rw [hu] at q0
      have HU := kide hu
      clear hu
      have i1 : (t : Int) + 1 < (k : Int) := by omega
      go_wp2_with fail
      go_roundw
      case rel =>
       refine ⟨t + 1, by omega, by go_num, fun j hj => ?_, by first | rfl | trivial⟩
       by_cases e : j = t
       ·rw [e]; exact HU.out
       ·exact HALL.out j (by omega)
      case measure => simp [intOf]; omega
     | false =>
      rw [hu] at q0
      have HU := kide hu
      clear hu
      have i1 : (t : Int) + 1 < (k : Int) := by omega
      go_wp2_with fail
      go_ret
      refine ⟨_, rfl, ?_, HLE.out.bel⟩
      have h := HZ3.out
      rw [if_neg (by
       intro hh
       rw [List.all_eq_true] at hh
       have := hh t (by rw [List.mem_range]; omega)
       rw [HU.out] at this
       cases this)] at h
      rw [← h]
      exact HLE.out.none'
    ·have i1 : ¬ (t : Int) + 1 < (k : Int) := by omega
     have hte : t = k - 1 := by omega
     have HTE := kide hte
     clear htl hte
     go_wp2_with fail
     go_ret
     refine ⟨_, rfl, ?_, HLE.out.bel⟩
     have h := HZ3.out
     rw [if_pos (by
      rw [List.all_eq_true]
      intro j hj
      rw [List.mem_range] at hj
      exact HALL.out j (by have := HTE.out; omega))] at h
     rw [← h]
     exact HOW.out.mono (by omega)

theorem l3Widths_any (a b : Option Addr) (c c2 n : Nat) (ds : List Dc) (xs : List Tg) (w : World) (hr : RdD w a ds) (hs : RdT w b xs) (hn : xs.length = n) :
  Calls Tryz.prog 50 #[.slice a ds.length c, .agg #[.slice b n c2]] w fun e w' => ∃ v, e = .returned v ∧ OW w' (w.heap.size + 1) v (widthsR ds (xs.map Tg.ct)) ∧ Below w.heap.size w w' := by
 by_cases h : dclR ds = true ∧ 1 ≤ n ∧ n ≤ 400
 ·exact l3Widths_yes a b c c2 n ds xs w hr hs hn h
 ·exact l3Widths_no a b c c2 n ds xs w hr hs hn h
theorem goR_len {ds : List Dc} {wide out : List Int} {ns : List Tc} (h : goR ds wide ns = some out) : out.length = wide.length + ns.length ∧ ((∀ x ∈ wide, 1 ≤ x ∧ x ≤ 4096) → ∀ x ∈ out, 1 ≤ x ∧ x ≤ 4096) := by
 induction ns generalizing wide with
 | nil => rw [goR] at h; cases h; exact ⟨by simp, fun h => h⟩
 | cons n t ih =>
  rw [goR] at h
  cases hst : stepR ds wide n with
  | none => rw [hst] at h; cases h
  | some v =>
   rw [hst] at h
   obtain ⟨h1, h2⟩ := ih h
   refine ⟨by rw [h1]; simp; omega, fun hw => h2 (fun x hx => ?_)⟩
   rcases List.mem_append.1 hx with hx | hx
   ·exact hw x hx
   ·rw [List.mem_singleton.1 hx]; exact stepR_range hst
theorem widthsR_bounds (ds : List Dc) (ns : List Tc) : (widthsR ds ns).length ≤ 400 ∧ ∀ x ∈ widthsR ds ns, 1 ≤ x ∧ x ≤ 4096 := by
 unfold widthsR
 split
 ·rename_i h
  simp only [Bool.and_eq_true, decide_eq_true_eq] at h
  cases hg : goR ds [] ns with
  | none => simp
  | some wide =>
   obtain ⟨h1, h2⟩ := goR_len hg
   simp only []
   split
   ·exact ⟨by simp at h1; omega, h2 (by simp)⟩
   ·simp
 ·simp
def widR (ds : List Dc) (ns : List Tc) : Int := if (widthsR ds ns).length = 0 then -1 else (widthsR ds ns).getD ((widthsR ds ns).length - 1) 0
theorem specWidth_any (a b : Option Addr) (c c2 n : Nat) (ds : List Dc) (xs : List Tg) (w : World) (hr : RdD w a ds) (hs : RdT w b xs) (hn : xs.length = n) :
  Calls Tryz.prog 29 #[.slice a ds.length c, .agg #[.slice b n c2]] w fun e w' => e = .returned (.int .i64 (widR ds (xs.map Tg.ct))) ∧ Below w.heap.size w w' := by
 have HC := kide (l3Widths_any a b c c2 n ds xs)
 have hb0 : Below w.heap.size w (w.alloc (Obj.cells #[.slice b n c2] 30)) := blA _ _
 obtain ⟨hbl, hbd⟩ := widthsR_bounds ds (xs.map Tg.ct)
 have HA := kide (HC.out w hr hs hn)
 have HA' := kide (HC.out _ (hr.later hb0) (hs.later hb0) hn)
 unfold widR
 generalize widthsR ds (xs.map Tg.ct) = W at *
 have HBD := kide hbd
 have B0 := kide hb0
 clear HC hr hs hn hbd hb0
 generalize hZ : (if W.length = 0 then (-1 : Int) else W.getD (W.length - 1) 0) = Z
 have HZ := kide hZ
 clear hZ
 go_enter Tryz.func29, Tryz.ntmps29
 go_wp2_with fail
 first
  | refine Calls.mono HA'.out ?_
  | refine Calls.mono HA.out ?_
 rintro e w1 ⟨v, rfl, ho, hb1⟩
 obtain ⟨ya, yc, rfl, hrd⟩ := ho.rd (by omega) (fun x hx => by have := HBD.out x hx; unfold in64; omega)
 have HB1 : Hid (Below w.heap.size w w1) := by first | exact B0.out.trans (hb1.mono (by simp)) | exact hb1
 clear ho hb1 HA HA'
 by_cases h0 : W.length = 0
 ·have h := HZ.out
  rw [if_pos h0] at h
  subst h
  rw [h0]
  clear HZ hrd
  go_wp2_with fail
  go_ret
  exact ⟨rfl, HB1.out⟩
 ·have h := HZ.out
  rw [if_neg h0] at h
  obtain ⟨-, -, hn | ⟨b3, o3, rfl, hc3⟩⟩ := hrd
  ·rw [hn] at h0; simp at h0
  have g0 := hc3 (W.length - 1) (by omega)
  rw [h] at g0
  obtain ⟨l, hl⟩ : ∃ l, W.length = l + 1 := ⟨W.length - 1, by omega⟩
  rw [hl] at g0 ⊢
  have hl4 : l ≤ 400 := by omega
  simp only [Nat.add_sub_cancel] at g0
  clear hc3 HZ h h0 HBD hbl hl
  go_wp2_with fail
  go_ret
  exact ⟨rfl, HB1.out⟩

def cntR (ks : List Int) (j : Nat) : Nat := ks.countP (fun y => decide (y = (j : Int)))
def Cn (w : World) (P N : Nat) (q : Nat → Nat) : Prop := ∃ f, w.rowIs P 2 N f ∧ ∀ j, j < N → f j = .int .i64 ((q j : Nat) : Int)
theorem Cn.later {w w' : World} {P N : Nat} {q : Nat → Nat} (h : Cn w P N q) (hb : Below w.heap.size w w') : Cn w' P N q := by
 obtain ⟨f, ⟨cc, hh, h1, h2⟩, hq⟩ := h
 exact ⟨f, World.rowIs.of_block ⟨cc, hh, h1, h2⟩ (hb.block _ (lt_of_block hh)), hq⟩
set_option maxHeartbeats 1000000 in
theorem countKids_any (P N k cp kc M : Nat) (q : Nat → Nat) (ka : Option Addr) (ks : List Int) (w : World) (hc : Cn w P N q) (hk : k ≤ N) (hN : N ≤ 1048576) (hq : ∀ j, q j ≤ M) (hM : M ≤ 1000000000000) (hr : RdI w ka ks) (hf : ∀ b o sp, ka = some ⟨b, o, sp⟩ → b ≠ P) :
  Calls Tryz.prog 84 #[.slice (some ⟨P, 0, none⟩) k cp, .slice ka ks.length kc] w fun e w' => e = .returned (.bool (kidsR k ks)) ∧ (kidsR k ks = true → Cn w' P N (fun j => q j + cntR ks j)) ∧ w.grownBy w' (some P) := by
 have hl := hr.1
 have HF := kide hf
 have HQ := kide hq
 clear hf hq
 generalize hZ : kidsR k ks = Z
 have HZ := kide hZ
 clear hZ
 go_enter Tryz.func84, Tryz.ntmps84
 go_wp2_with fail
 go_loopw [9] (fun i wr => ∃ t : Nat, t ≤ ks.length ∧ i = .int .i64 (t : Int) ∧ kidsR k (ks.take t) = true ∧ Cn wr P N (fun j => q j + cntR (ks.take t) j) ∧ w.grownBy wr (some P)) (fun i _ => ks.length - (intOf i).toNat)
 case atStart => exact ⟨0, Nat.zero_le _, rfl, by simp [kidsR], by simpa [cntR] using hc, ⟨rfl, rfl, rfl, Nat.le_refl _, fun _ _ _ => rfl⟩⟩
 case round =>
  obtain ⟨t, ht, rfl, hkr, hcn, hg⟩ := hrel
  have HKR := kide hkr
  have HCN := kide hcn
  have HG := kide hg
  clear hkr
  by_cases htl : t < ks.length
  ·obtain ⟨-, -, h | ⟨b, o, rfl, hc3⟩⟩ := hr
   ·subst h; simp at htl
   have hbP : b ≠ P := HF.out b o none rfl
   have g0 := hc3 t htl
   rw [← World.cell?_of_block (w := w) (w' := wr) (a := ⟨b, o + t, none⟩) (hg.block b (block_lt_of_cell g0) (fun e => hbP (by cases e; rfl)))] at g0
   have hgt : ks[t]? = some (ks.getD t 0) := by simp [List.getD, htl]
   have HGT := kide hgt
   clear hgt hc3 hg
   generalize ks.getD t 0 = y at *
   have i0 : (t : Int) < (ks.length : Int) := by omega
   by_cases hy : 0 ≤ y ∧ y ≤ (k : Int) - 1
   ·obtain ⟨m, rfl⟩ : ∃ m : Nat, y = (m : Int) := ⟨y.toNat, by omega⟩
    have hm : m < k := by omega
    obtain ⟨f, hrw, hfq⟩ := hcn
    have q0 := hrw.cell (i := m) (by omega)
    have r0 := hrw.frozen m
    have q1 : wr.cell? ⟨P, m, none⟩ = some (.int .i64 ((q m + cntR (ks.take t) m : Nat) : Int)) := by rw [q0, hfq m (by omega)]
    clear q0
    have hqb : q m + cntR (ks.take t) m ≤ 2000000000000 := by
     have h1 := HQ.out m
     have h2 : cntR (ks.take t) m ≤ (ks.take t).length := List.countP_le_length
     rw [List.length_take] at h2
     omega
    have HRW := kide hrw
    have HFQ := kide hfq
    generalize hS : q m + cntR (ks.take t) m = S at *
    have HSS := kide hS
    clear hrw hfq hy hS
    go_wp2_with fail
    go_roundw
    case rel =>
     refine ⟨t + 1, by omega, by go_num, ?_, ⟨_, World.rowIs.set HRW.out m (.int .i64 ((S : Int) + 1)), fun j hj => ?_⟩, ?_⟩
     ·rw [List.take_add_one, HGT.out, kidsR, List.all_append]
      have := HKR.out
      rw [kidsR] at this
      rw [this]
      simp
      omega
     ·have hcj : cntR (ks.take (t + 1)) j = cntR (ks.take t) j + (if m = j then 1 else 0) := by
       unfold cntR
       rw [List.take_add_one, HGT.out, List.countP_append]
       by_cases e : m = j
       ·subst e; simp
       ·have e2 : ¬ ((m : Int) = (j : Int)) := by omega
        simp [e, e2]
      show (if j = m then _ else _) = Value.int .i64 ((q j + cntR (ks.take (t + 1)) j : Nat) : Int)
      rw [hcj]
      by_cases e : j = m
      ·subst e
       have := HSS.out
       rw [if_pos rfl, if_pos rfl]
       congr 1
       omega
      ·rw [if_neg e, if_neg (fun h => e h.symm), HFQ.out j hj]
       rfl
     ·have h := HG.out
      exact ⟨h.os, h.tape, h.output, by simpa using h.size, fun x hx hne => by rw [heap_setCell_other _ _ _ _ (fun e => hne (by simp at e; rw [e]))]; exact h.block x hx hne⟩
    case measure => simp [intOf]; omega
   ·have hZf : Z = false := by
     rw [← HZ.out, kidsR, List.all_eq_false]
     exact ⟨y, List.mem_of_getElem? HGT.out, by simpa using hy⟩
    subst hZf
    have hor : y < 0 ∨ (k : Int) ≤ y := by omega
    clear hy hcn
    rcases hor with hor | hor
    ·go_wp2_with fail
     go_ret
     first | exact ⟨rfl, HG.out⟩ | exact ⟨rfl, (by intro h; cases h), HG.out⟩
    ·have h0 : ¬ y < 0 := by omega
     go_wp2_with fail
     go_ret
     first | exact ⟨rfl, HG.out⟩ | exact ⟨rfl, (by intro h; cases h), HG.out⟩
  ·have e : t = ks.length := by omega
   subst e
   have hZt : Z = true := by
    have := HKR.out
    rw [List.take_length] at this
    rw [← HZ.out]; exact this
   subst hZt
   clear hcn hg hr hc
   go_wp2_with fail
   go_ret
   have h := HCN.out
   rw [List.take_length] at h
   exact ⟨rfl, h, HG.out⟩

def tabR : Nat → Int × Int × Int
 | 3 => (0, 2, 4096)
 | 4 => (2, 1, 1)
 | 5 => (1, 1, 1)
 | 6 => (1, 1, 1)
 | 7 => (1, 1, 1)
 | 8 => (1, 1, 1)
 | 9 => (1, 1, 1)
 | _ => (0, 0, 0)
def GF (w : World) : Prop := ∀ m, m < 10 → (∃ s, w.cell? ⟨0, m * 4, none⟩ = some (.string s)) ∧ w.cell? ⟨0, m * 4 + 1, none⟩ = some (.int .i64 (tabR m).1) ∧ w.cell? ⟨0, m * 4 + 2, none⟩ = some (.int .i64 (tabR m).2.1) ∧ w.cell? ⟨0, m * 4 + 3, none⟩ = some (.int .i64 (tabR m).2.2)
theorem GF.later {w w' : World} (h : GF w) (hb : Below w.heap.size w w') : GF w' := by
 intro m hm
 obtain ⟨⟨s, h0⟩, h1, h2, h3⟩ := h m hm
 have l := block_lt_of_cell h1
 exact ⟨⟨s, by rw [kcell hb _ _ l]; exact h0⟩, by rw [kcell hb _ _ l]; exact h1, by rw [kcell hb _ _ l]; exact h2, by rw [kcell hb _ _ l]; exact h3⟩
def fldT (op vr a b bw : Int) (wl kl : Nat) (N L M : Int) : Bool :=
 !(op != 1 && vr != 0 || decide (N < 1) && a != 0 || decide (N < 2) && b != 0) && !(op != 2 && (bw != 0 || decide (wl ≠ 0))) && (decide (L ≤ (kl : Int)) && decide ((kl : Int) ≤ M))
def fldR (n : Tc) : Bool := decide (1 ≤ n.op ∧ n.op ≤ 9) && fldT n.op n.vr n.a n.b n.bw n.ws.length n.ks.length (tabR n.op.toNat).1 (tabR n.op.toNat).2.1 (tabR n.op.toNat).2.2
set_option maxHeartbeats 2000000 in
theorem fieldsOk_any (n : Tc) (wa ka : Option Addr) (wc kc : Nat) (w : World) (hG : GF w) (hw : n.ws.length ≤ 1048576) (hk : n.ks.length ≤ 1048576) :
  Calls Tryz.prog 83 #[.agg #[.int .i64 n.op, .int .i64 n.vr, .int .i64 n.a, .int .i64 n.b, .int .i64 n.bw, .slice wa n.ws.length wc, .slice ka n.ks.length kc]] w fun e w' => e = .returned (.bool (fldR n)) ∧ Below w.heap.size w w' := by
 generalize hZ : fldR n = Z
 have HZ := kide hZ
 clear hZ
 obtain ⟨op, vr, A, B, bw, ws, ks⟩ := n
 simp only [] at hw hk ⊢
 have hb0 : Below w.heap.size w (w.alloc (Obj.cells #[.int .i64 op, .int .i64 vr, .int .i64 A, .int .i64 B, .int .i64 bw, .slice wa ws.length wc, .slice ka ks.length kc] 67)) := blA _ _
 have B0 := kide hb0
 by_cases hr : 1 ≤ op ∧ op ≤ 9
 ·obtain ⟨m, rfl⟩ : ∃ m : Nat, op = (m : Int) := ⟨op.toNat, by omega⟩
  obtain ⟨⟨s, t0⟩, t1, t2, t3⟩ := hG m (by omega)
  have l0 : 0 < w.heap.size := block_lt_of_cell t1
  have hz : fldT (m : Int) vr A B bw ws.length ks.length (tabR m).1 (tabR m).2.1 (tabR m).2.2 = Z := by
   have h := HZ.out
   rw [fldR, decide_eq_true hr, Bool.true_and] at h
   simpa using h
  obtain ⟨NN, hNN⟩ : ∃ x, x = (tabR m).1 := ⟨_, rfl⟩
  obtain ⟨LL, hLL⟩ : ∃ x, x = (tabR m).2.1 := ⟨_, rfl⟩
  obtain ⟨MM, hMM⟩ : ∃ x, x = (tabR m).2.2 := ⟨_, rfl⟩
  rw [← hNN] at t1 hz
  rw [← hLL] at t2 hz
  rw [← hMM] at t3 hz
  have HZ2 := kide hz
  have hm1 : 1 ≤ m := by omega
  have hm9 : m ≤ 9 := by omega
  clear HZ hz hG hb0 hNN hLL hMM hr
  go_enter Tryz.func83, Tryz.ntmps83
  go_wp2_with fail
  all_goals go_ret
  all_goals refine ⟨ret_bool ?_, Below.alloc (Below.alloc (Below.refl _ _) (Nat.le_refl _) _) (by simp) _⟩
  all_goals (have h := HZ2.out; clear HZ2 B0 t0 t1 t2 t3; rw [← h]; clear h; unfold fldT; cases hB : (B != 0) <;> cases hA : (A != 0) <;> cases hV : (vr != 0) <;> cases hM : ((m : Int) != 1) <;> cases hM2 : ((m : Int) != 2) <;> cases hW : (bw != 0) <;> simp_all <;> omega)
 ·have hz := HZ.out
  rw [fldR, decide_eq_false hr, Bool.false_and] at hz
  subst hz
  have hor : op < 1 ∨ 9 < op := by omega
  clear HZ hG hb0 hr
  rcases hor with hor | hor
  ·go_enter Tryz.func83, Tryz.ntmps83
   go_wp2_with fail
   go_ret
   exact ⟨rfl, B0.out⟩
  ·have h1 : ¬ op < 1 := by omega
   go_enter Tryz.func83, Tryz.ntmps83
   go_wp2_with fail
   go_ret
   exact ⟨rfl, B0.out⟩

def bndR (x : Int) : Int × Int := if x < 1 then (0, 15) else if 4096 < x then (0, 16) else (x, 0)
theorem boundWidth_any (x : Int) (w : World) : Calls Tryz.prog 147 #[.int .i64 x] w fun e w' => e = .returned (.tuple #[.int .i64 (bndR x).1, .int .i64 (bndR x).2]) ∧ w' = w := by
 by_cases h1 : x < 1
 ·rw [bndR, if_pos h1]
  go_enter Tryz.func147, Tryz.ntmps147
  go_wp2_with fail
  go_returns
  exact ⟨rfl, rfl⟩
 ·by_cases h2 : 4096 < x
  ·rw [bndR, if_neg h1, if_pos h2]
   go_enter Tryz.func147, Tryz.ntmps147
   go_wp2_with fail
   go_returns
   exact ⟨rfl, rfl⟩
  ·rw [bndR, if_neg h1, if_neg h2]
   go_enter Tryz.func147, Tryz.ntmps147
   go_wp2_with fail
   go_returns
   exact ⟨rfl, rfl⟩
def kwR (wide : List Int) (ks : List Int) : List Int := ks.map fun k => wide.getD k.toNat 0
def sumK : List Int → Int
 | [] => 0
 | x :: t => x + sumK t
def nodR (ds : List Dc) (n : Tc) (ys : List Int) : Int × Int :=
 if n.op = 1 then (if 0 ≤ n.vr ∧ n.vr < ds.length then bndR (ds.getD n.vr.toNat (.empty, 0)).2 else (0, 15))
 else if n.op = 2 then (if rightB n.bw n.ws = true then (n.bw, 0) else (0, 15))
 else if n.op = 3 then bndR (sumK ys)
 else if n.op = 4 then (if n.b < 0 ∨ n.a < n.b ∨ ys.getD 0 0 ≤ n.a then (0, 15) else (n.a - n.b + 1, 0))
 else if n.op = 5 ∨ n.op = 6 then (if 0 ≤ n.a ∧ n.a ≤ 4096 then bndR (ys.getD 0 0 + n.a) else (0, 15))
 else if n.op = 7 ∨ n.op = 8 then (if 0 ≤ n.a ∧ n.a ≤ 4096 then (ys.getD 0 0, 0) else (0, 15))
 else (if 1 ≤ n.a ∧ n.a ≤ 4096 then bndR (ys.getD 0 0 * n.a) else (0, 15))
theorem bndR_spec (x : Int) : (1 ≤ x ∧ x ≤ 4096 → bndR x = (x, 0)) ∧ (¬ (1 ≤ x ∧ x ≤ 4096) → (bndR x).2 ≠ 0) := by
 unfold bndR
 constructor
 ·intro h; rw [if_neg (by omega), if_neg (by omega)]
 ·intro h
  split
  ·simp
  ·split
   ·simp
   ·omega
theorem kids_get {wide ks : List Int} (hw : ∀ x ∈ wide, 1 ≤ x ∧ x ≤ 4096) (hk : kidsR wide.length ks = true) : ∀ k ∈ ks, 1 ≤ wide.getD k.toNat 0 ∧ wide.getD k.toNat 0 ≤ 4096 := by
 intro k hkm
 simp only [kidsR, List.all_eq_true, decide_eq_true_eq] at hk
 have := hk k hkm
 have hl : k.toNat < wide.length := by omega
 have := hw _ (List.getElem_mem hl)
 simp [List.getD, hl]
 omega
theorem sumR_min {wide ks : List Int} (hw : ∀ k ∈ ks, 1 ≤ wide.getD k.toNat 0 ∧ wide.getD k.toNat 0 ≤ 4096) (s : Int) (h0 : 0 ≤ s) (h1 : s ≤ 8192) : sumR wide ks s = min 8192 (s + sumK (kwR wide ks)) ∧ (ks.length : Int) ≤ sumK (kwR wide ks) := by
 induction ks generalizing s with
 | nil => simp [sumR, sumK, kwR]; omega
 | cons k t ih =>
  have hk := hw k (by simp)
  obtain ⟨e1, e2⟩ := ih (fun x hx => hw x (by simp [hx])) (min 8192 (s + wide.getD k.toNat 0)) (by omega) (by omega)
  rw [sumR, e1]
  have e3 : sumK (kwR wide (k :: t)) = wide.getD k.toNat 0 + sumK (kwR wide t) := by simp [kwR, sumK]
  rw [e3]
  refine ⟨by omega, ?_⟩
  simp only [List.length_cons]
  omega

theorem op_cases {x : Int} (h1 : 1 ≤ x) (h9 : x ≤ 9) : x = 1 ∨ x = 2 ∨ x = 3 ∨ x = 4 ∨ x = 5 ∨ x = 6 ∨ x = 7 ∨ x = 8 ∨ x = 9 := by omega
theorem kw_one {wide ks : List Int} (h : ks.length = 1) : (kwR wide ks).getD 0 0 = sumK (kwR wide ks) := by
 match ks, h with
 | [k], _ => simp [kwR, sumK]
theorem step_some {ds : List Dc} {wide : List Int} {n : Tc} {v : Int} (hw : ∀ x ∈ wide, 1 ≤ x ∧ x ≤ 4096) (h : stepR ds wide n = some v) : fldR n = true ∧ kidsR wide.length n.ks = true := by
 have h0 := stepR_kids h
 simp only [Bool.and_eq_true] at h0
 obtain ⟨⟨hk, hf⟩, hm⟩ := h0
 refine ⟨?_, hk⟩
 have hg := kids_get hw hk
 obtain ⟨hs, hl⟩ := sumR_min hg 0 (by omega) (by omega)
 have hr := stepR_range h
 have hwd : wideR ds n (sumR wide n.ks 0) ≤ 4096 := by
  unfold stepR at h
  split at h
  ·split at h
   ·rename_i hb; exact hb.2
   ·cases h
  ·cases h
 clear h hr
 obtain ⟨op, vr, a, b, bw, ws, ks⟩ := n
 simp only [] at *
 have hop : 1 ≤ op ∧ op ≤ 9 := by
  unfold manyR at hm
  simp only [] at hm
  split at hm
  ·omega
  ·split at hm
   ·omega
   ·split at hm
    ·omega
    ·split at hm
     ·omega
     ·cases hm
 rcases op_cases hop.1 hop.2 with rfl | rfl | rfl | rfl | rfl | rfl | rfl | rfl | rfl
 case inr.inr.inl =>
  simp only [fldR, fldT, tabR, manyR, fieldR, wideR] at *
  simp at hf hm hwd ⊢
  rw [hs] at hwd
  refine ⟨⟨⟨⟨hf.1.1.1, hf.2⟩, hf.1.2⟩, hf.1.1.2.1, hf.1.1.2.2⟩, by omega, by omega⟩
 all_goals
  simp only [fldR, fldT, tabR, manyR, fieldR] at *
  simp at hf hm ⊢
  grind
theorem bndR_if (x : Int) : (if (bndR x).2 = 0 then some (bndR x).1 else none) = (if 1 ≤ x ∧ x ≤ 4096 then some x else (none : Option Int)) := by
 by_cases h : 1 ≤ x ∧ x ≤ 4096
 ·rw [(bndR_spec x).1 h, if_pos rfl, if_pos h]
 ·rw [if_neg ((bndR_spec x).2 h), if_neg h]
theorem fldR_op {n : Tc} (h : fldR n = true) : 1 ≤ n.op ∧ n.op ≤ 9 := by
 simp only [fldR, Bool.and_eq_true, decide_eq_true_eq] at h
 exact h.1
theorem step_both {ds : List Dc} {wide : List Int} {n : Tc} (hw : ∀ x ∈ wide, 1 ≤ x ∧ x ≤ 4096) (hf : fldR n = true) (hk : kidsR wide.length n.ks = true) :
  stepR ds wide n = (if (nodR ds n (kwR wide n.ks)).2 = 0 then some (nodR ds n (kwR wide n.ks)).1 else none) := by
 have hg := kids_get hw hk
 obtain ⟨hs, hl⟩ := sumR_min hg 0 (by omega) (by omega)
 have hop := fldR_op hf
 unfold stepR
 rw [hk, Bool.true_and]
 obtain ⟨op, vr, a, b, bw, ws, ks⟩ := n
 simp only [] at *
 have hone : ks.length = 1 → (kwR wide ks).getD 0 0 = sumK (kwR wide ks) ∧ sumR wide ks 0 = sumK (kwR wide ks) ∧ 1 ≤ sumK (kwR wide ks) ∧ sumK (kwR wide ks) ≤ 4096 := by
  intro h1
  have e := kw_one (wide := wide) h1
  have : 1 ≤ sumK (kwR wide ks) ∧ sumK (kwR wide ks) ≤ 4096 := by
   match ks, h1 with
   | [k], _ =>
    have := hg k (by simp)
    simpa [kwR, sumK] using this
  exact ⟨e, by rw [hs]; omega, this⟩
 rcases op_cases hop.1 hop.2 with rfl | rfl | rfl | rfl | rfl | rfl | rfl | rfl | rfl
 ·-- a variable
  simp only [fldR, fldT, tabR] at hf
  simp at hf
  have hfm : (fieldR ⟨1, vr, a, b, bw, ws, ks⟩ && manyR ds.length ⟨1, vr, a, b, bw, ws, ks⟩) = decide (0 ≤ vr ∧ vr < (ds.length : Int)) := by
   rw [Bool.eq_iff_iff]
   simp [fieldR, manyR]
   grind
  rw [hfm]
  simp only [nodR, wideR, if_true]
  by_cases hv : 0 ≤ vr ∧ vr < (ds.length : Int)
  ·simp only [decide_eq_true hv, if_true, if_pos hv]
   rw [bndR_if]
  ·simp only [decide_eq_false hv, if_neg hv]
   simp
 ·-- bits
  simp only [fldR, fldT, tabR] at hf
  simp at hf
  have hfm : (fieldR ⟨2, vr, a, b, bw, ws, ks⟩ && manyR ds.length ⟨2, vr, a, b, bw, ws, ks⟩) = rightB bw ws := by
   rw [Bool.eq_iff_iff]
   simp [fieldR, manyR]
   grind
  rw [hfm]
  simp only [nodR, wideR]
  cases hR : rightB bw ws with
  | false => simp
  | true =>
   have : 1 ≤ bw ∧ bw ≤ 4096 := by
    simp [rightB, wOk] at hR
    exact hR.1.1
   simp [this]
 ·-- a cat
  simp only [fldR, fldT, tabR] at hf
  simp at hf
  have hfm : (fieldR ⟨3, vr, a, b, bw, ws, ks⟩ && manyR ds.length ⟨3, vr, a, b, bw, ws, ks⟩) = true := by
   simp [fieldR, manyR]
   grind
  rw [hfm]
  simp only [nodR, wideR]
  simp
  rw [bndR_if, hs]
  by_cases h : 1 ≤ sumK (kwR wide ks) ∧ sumK (kwR wide ks) ≤ 4096
  ·rw [if_pos h, if_pos (by omega)]
   congr 1
   omega
  ·rw [if_neg h, if_neg (by omega)]
 all_goals
  simp only [fldR, fldT, tabR] at hf
  simp at hf
  have h1 : ks.length = 1 := by omega
  obtain ⟨o1, o2, o3, o4⟩ := hone h1
  simp only [nodR, wideR, o1, o2]
  clear hone o1 o2 hs hl hg hk hw
  generalize sumK (kwR wide ks) = q at *
 ·have hfm : (fieldR ⟨4, vr, a, b, bw, ws, ks⟩ && manyR ds.length ⟨4, vr, a, b, bw, ws, ks⟩) = true := by
   simp [fieldR, manyR]
   grind
  rw [hfm]
  simp
  by_cases h : b < 0 ∨ a < b ∨ q ≤ a
  ·simp [h]
  ·rw [if_neg h, if_neg h]
   simp
   omega
 ·have hfm : (fieldR ⟨5, vr, a, b, bw, ws, ks⟩ && manyR ds.length ⟨5, vr, a, b, bw, ws, ks⟩) = true := by
   simp [fieldR, manyR]
   grind
  rw [hfm]
  simp
  by_cases h : 0 ≤ a ∧ a ≤ 4096
  ·simp only [if_pos h]
   rw [bndR_if]
  ·simp only [if_neg h]
   simp
 ·have hfm : (fieldR ⟨6, vr, a, b, bw, ws, ks⟩ && manyR ds.length ⟨6, vr, a, b, bw, ws, ks⟩) = true := by
   simp [fieldR, manyR]
   grind
  rw [hfm]
  simp
  by_cases h : 0 ≤ a ∧ a ≤ 4096
  ·simp only [if_pos h]
   rw [bndR_if]
  ·simp only [if_neg h]
   simp
 ·have hfm : (fieldR ⟨7, vr, a, b, bw, ws, ks⟩ && manyR ds.length ⟨7, vr, a, b, bw, ws, ks⟩) = true := by
   simp [fieldR, manyR]
   grind
  rw [hfm]
  simp
  by_cases h : 0 ≤ a ∧ a ≤ 4096
  ·simp only [if_pos h]
   simp [o3, o4]
  ·simp only [if_neg h]
   simp
 ·have hfm : (fieldR ⟨8, vr, a, b, bw, ws, ks⟩ && manyR ds.length ⟨8, vr, a, b, bw, ws, ks⟩) = true := by
   simp [fieldR, manyR]
   grind
  rw [hfm]
  simp
  by_cases h : 0 ≤ a ∧ a ≤ 4096
  ·simp only [if_pos h]
   simp [o3, o4]
  ·simp only [if_neg h]
   simp
 ·have hfm : (fieldR ⟨9, vr, a, b, bw, ws, ks⟩ && manyR ds.length ⟨9, vr, a, b, bw, ws, ks⟩) = true := by
   simp [fieldR, manyR]
   grind
  rw [hfm]
  simp
  by_cases h : 1 ≤ a ∧ a ≤ 4096
  ·simp only [if_pos h]
   rw [bndR_if]
  ·simp only [if_neg h]
   simp
theorem step_not {ds : List Dc} {wide : List Int} {n : Tc} (hw : ∀ x ∈ wide, 1 ≤ x ∧ x ≤ 4096) (h : fldR n = false ∨ kidsR wide.length n.ks = false) : stepR ds wide n = none := by
 cases hs : stepR ds wide n with
 | none => rfl
 | some v =>
  obtain ⟨h1, h2⟩ := step_some hw hs
  rcases h with h | h
  ·rw [h1] at h; cases h
  ·rw [h2] at h; cases h

theorem opOf_cat (a : Option Addr) (nd c : Nat) (vr A B bw : Int) (wa ka : Option Addr) (wl wc kl kc : Nat) (w : World) :
  Calls Tryz.prog 110 #[.slice a nd c, .agg #[.int .i64 3, .int .i64 vr, .int .i64 A, .int .i64 B, .int .i64 bw, .slice wa wl wc, .slice ka kl kc]] w fun e w' => e = .returned (.iface 183 (.agg #[])) ∧ Below w.heap.size w w' := by
 have hb0 : Below w.heap.size w (w.alloc (Obj.cells #[.int .i64 3, .int .i64 vr, .int .i64 A, .int .i64 B, .int .i64 bw, .slice wa wl wc, .slice ka kl kc] 67)) := blA _ _
 have B0 := kide hb0
 clear hb0
 go_enter Tryz.func110, Tryz.ntmps110
 go_wp2_with fail
 go_ret
 exact ⟨rfl, B0.out⟩
theorem opOf_part (a : Option Addr) (nd c : Nat) (vr A B bw : Int) (wa ka : Option Addr) (wl wc kl kc : Nat) (w : World) :
  Calls Tryz.prog 110 #[.slice a nd c, .agg #[.int .i64 4, .int .i64 vr, .int .i64 A, .int .i64 B, .int .i64 bw, .slice wa wl wc, .slice ka kl kc]] w fun e w' => e = .returned (.iface 185 (.agg #[.int .i64 A, .int .i64 B])) ∧ Below w.heap.size w w' := by
 have hb0 : Below w.heap.size w (w.alloc (Obj.cells #[.int .i64 4, .int .i64 vr, .int .i64 A, .int .i64 B, .int .i64 bw, .slice wa wl wc, .slice ka kl kc] 67)) := blA _ _
 have B0 := kide hb0
 clear hb0
 go_enter Tryz.func110, Tryz.ntmps110
 go_wp2_with fail
 go_ret
 exact ⟨rfl, B0.out⟩
theorem opOf_bits (a : Option Addr) (nd c : Nat) (vr A B bw : Int) (wa ka : Option Addr) (wl wc kl kc : Nat) (w : World) :
  Calls Tryz.prog 110 #[.slice a nd c, .agg #[.int .i64 2, .int .i64 vr, .int .i64 A, .int .i64 B, .int .i64 bw, .slice wa wl wc, .slice ka kl kc]] w fun e w' => e = .returned (.iface 181 (.agg #[.int .i64 bw, .slice wa wl wc])) ∧ Below w.heap.size w w' := by
 have hb0 : Below w.heap.size w (w.alloc (Obj.cells #[.int .i64 2, .int .i64 vr, .int .i64 A, .int .i64 B, .int .i64 bw, .slice wa wl wc, .slice ka kl kc] 67)) := blA _ _
 have B0 := kide hb0
 clear hb0
 go_enter Tryz.func110, Tryz.ntmps110
 go_wp2_with fail
 go_ret
 exact ⟨rfl, B0.out⟩
theorem opOf_rep (a : Option Addr) (nd c : Nat) (vr A B bw : Int) (wa ka : Option Addr) (wl wc kl kc : Nat) (w : World) :
  Calls Tryz.prog 110 #[.slice a nd c, .agg #[.int .i64 9, .int .i64 vr, .int .i64 A, .int .i64 B, .int .i64 bw, .slice wa wl wc, .slice ka kl kc]] w fun e w' => e = .returned (.iface 191 (.agg #[.int .i64 A])) ∧ Below w.heap.size w w' := by
 have hb0 : Below w.heap.size w (w.alloc (Obj.cells #[.int .i64 9, .int .i64 vr, .int .i64 A, .int .i64 B, .int .i64 bw, .slice wa wl wc, .slice ka kl kc] 67)) := blA _ _
 have B0 := kide hb0
 clear hb0
 go_enter Tryz.func110, Tryz.ntmps110
 go_wp2_with fail
 go_ret
 exact ⟨rfl, B0.out⟩
theorem opOf_zero (a : Option Addr) (nd c : Nat) (vr A B bw : Int) (wa ka : Option Addr) (wl wc kl kc : Nat) (w : World) (hG : GF w) :
  Calls Tryz.prog 110 #[.slice a nd c, .agg #[.int .i64 5, .int .i64 vr, .int .i64 A, .int .i64 B, .int .i64 bw, .slice wa wl wc, .slice ka kl kc]] w fun e w' => (∃ s, e = .returned (.iface 187 (.agg #[.string s, .int .i64 A]))) ∧ Below w.heap.size w w' := by
 have hb0 : Below w.heap.size w (w.alloc (Obj.cells #[.int .i64 5, .int .i64 vr, .int .i64 A, .int .i64 B, .int .i64 bw, .slice wa wl wc, .slice ka kl kc] 67)) := blA _ _
 have B0 := kide hb0
 clear hb0
 obtain ⟨⟨s, h0⟩, -⟩ := hG 5 (by omega)
 have l0 : 0 < w.heap.size := block_lt_of_cell h0
 simp only [Nat.reduceMul] at h0
 go_enter Tryz.func110, Tryz.ntmps110
 go_wp2_with fail
 go_quiet (fail)
 go_wp2_with fail
 go_ret
 exact ⟨⟨_, rfl⟩, below_drewN B0.out _⟩
theorem opOf_sign (a : Option Addr) (nd c : Nat) (vr A B bw : Int) (wa ka : Option Addr) (wl wc kl kc : Nat) (w : World) (hG : GF w) :
  Calls Tryz.prog 110 #[.slice a nd c, .agg #[.int .i64 6, .int .i64 vr, .int .i64 A, .int .i64 B, .int .i64 bw, .slice wa wl wc, .slice ka kl kc]] w fun e w' => (∃ s, e = .returned (.iface 187 (.agg #[.string s, .int .i64 A]))) ∧ Below w.heap.size w w' := by
 have hb0 : Below w.heap.size w (w.alloc (Obj.cells #[.int .i64 6, .int .i64 vr, .int .i64 A, .int .i64 B, .int .i64 bw, .slice wa wl wc, .slice ka kl kc] 67)) := blA _ _
 have B0 := kide hb0
 clear hb0
 obtain ⟨⟨s, h0⟩, -⟩ := hG 6 (by omega)
 have l0 : 0 < w.heap.size := block_lt_of_cell h0
 simp only [Nat.reduceMul] at h0
 go_enter Tryz.func110, Tryz.ntmps110
 go_wp2_with fail
 go_quiet (fail)
 go_wp2_with fail
 go_ret
 exact ⟨⟨_, rfl⟩, below_drewN B0.out _⟩
theorem opOf_left (a : Option Addr) (nd c : Nat) (vr A B bw : Int) (wa ka : Option Addr) (wl wc kl kc : Nat) (w : World) (hG : GF w) :
  Calls Tryz.prog 110 #[.slice a nd c, .agg #[.int .i64 7, .int .i64 vr, .int .i64 A, .int .i64 B, .int .i64 bw, .slice wa wl wc, .slice ka kl kc]] w fun e w' => (∃ s, e = .returned (.iface 189 (.agg #[.string s, .int .i64 A]))) ∧ Below w.heap.size w w' := by
 have hb0 : Below w.heap.size w (w.alloc (Obj.cells #[.int .i64 7, .int .i64 vr, .int .i64 A, .int .i64 B, .int .i64 bw, .slice wa wl wc, .slice ka kl kc] 67)) := blA _ _
 have B0 := kide hb0
 clear hb0
 obtain ⟨⟨s, h0⟩, -⟩ := hG 7 (by omega)
 have l0 : 0 < w.heap.size := block_lt_of_cell h0
 simp only [Nat.reduceMul] at h0
 go_enter Tryz.func110, Tryz.ntmps110
 go_wp2_with fail
 go_quiet (fail)
 go_wp2_with fail
 go_ret
 exact ⟨⟨_, rfl⟩, below_drewN B0.out _⟩
theorem opOf_right (a : Option Addr) (nd c : Nat) (vr A B bw : Int) (wa ka : Option Addr) (wl wc kl kc : Nat) (w : World) (hG : GF w) :
  Calls Tryz.prog 110 #[.slice a nd c, .agg #[.int .i64 8, .int .i64 vr, .int .i64 A, .int .i64 B, .int .i64 bw, .slice wa wl wc, .slice ka kl kc]] w fun e w' => (∃ s, e = .returned (.iface 189 (.agg #[.string s, .int .i64 A]))) ∧ Below w.heap.size w w' := by
 have hb0 : Below w.heap.size w (w.alloc (Obj.cells #[.int .i64 8, .int .i64 vr, .int .i64 A, .int .i64 B, .int .i64 bw, .slice wa wl wc, .slice ka kl kc] 67)) := blA _ _
 have B0 := kide hb0
 clear hb0
 obtain ⟨⟨s, h0⟩, -⟩ := hG 8 (by omega)
 have l0 : 0 < w.heap.size := block_lt_of_cell h0
 simp only [Nat.reduceMul] at h0
 go_enter Tryz.func110, Tryz.ntmps110
 go_wp2_with fail
 go_quiet (fail)
 go_wp2_with fail
 go_ret
 exact ⟨⟨_, rfl⟩, below_drewN B0.out _⟩
theorem opOf_off (a : Option Addr) (nd c : Nat) (vr A B bw : Int) (wa ka : Option Addr) (wl wc kl kc : Nat) (w : World) (h : vr < 0 ∨ (nd : Int) ≤ vr) (hn : nd ≤ 1048576) :
  Calls Tryz.prog 110 #[.slice a nd c, .agg #[.int .i64 1, .int .i64 vr, .int .i64 A, .int .i64 B, .int .i64 bw, .slice wa wl wc, .slice ka kl kc]] w fun e w' => e = .returned (.iface 179 (.agg #[.string .empty, .int .i64 0])) ∧ Below w.heap.size w w' := by
 have hb0 : Below w.heap.size w (w.alloc (Obj.cells #[.int .i64 1, .int .i64 vr, .int .i64 A, .int .i64 B, .int .i64 bw, .slice wa wl wc, .slice ka kl kc] 67)) := blA _ _
 have B0 := kide hb0
 clear hb0
 by_cases hv : vr < 0
 ·clear h
  go_enter Tryz.func110, Tryz.ntmps110
  go_wp2_with fail
  go_ret
  exact ⟨rfl, B0.out⟩
 have hv2 : (nd : Int) ≤ vr := by omega
 clear h
 go_enter Tryz.func110, Tryz.ntmps110
 go_wp2_with fail
 go_ret
 exact ⟨rfl, B0.out⟩
theorem opOf_var (a : Option Addr) (nd c : Nat) (vr A B bw : Int) (wa ka : Option Addr) (wl wc kl kc : Nat) (w : World) (b o k : Nat) (s : ByteArray) (x : Int) (ha : a = some ⟨b, o, none⟩) (hv : vr = (k : Int)) (hk : k < nd) (hn : nd ≤ 1048576) (h0 : w.cell? ⟨b, o + k * 2, none⟩ = some (.string s)) (h1 : w.cell? ⟨b, o + k * 2 + 1, none⟩ = some (.int .i64 x)) :
  Calls Tryz.prog 110 #[.slice a nd c, .agg #[.int .i64 1, .int .i64 vr, .int .i64 A, .int .i64 B, .int .i64 bw, .slice wa wl wc, .slice ka kl kc]] w fun e w' => e = .returned (.iface 179 (.agg #[.string s, .int .i64 x])) ∧ Below w.heap.size w w' := by
 have hb0 : Below w.heap.size w (w.alloc (Obj.cells #[.int .i64 1, .int .i64 vr, .int .i64 A, .int .i64 B, .int .i64 bw, .slice wa wl wc, .slice ka kl kc] 67)) := blA _ _
 have B0 := kide hb0
 clear hb0
 subst ha
 subst hv
 have lb : b < w.heap.size := block_lt_of_cell h0
 have hki : (k : Int) < (nd : Int) := by omega
 go_enter Tryz.func110, Tryz.ntmps110
 go_wp2_with fail
 go_ret
 exact ⟨rfl, B0.out⟩

set_option maxHeartbeats 1000000 in
theorem varWidth_any (s : ByteArray) (x : Int) (ky : Option Addr) (kl kc : Nat) (w : World) :
  Calls Tryz.prog 146 #[.agg #[.string s, .int .i64 x], .slice ky kl kc] w fun e w' => e = .returned (.tuple #[.int .i64 (bndR x).1, .int .i64 (bndR x).2]) ∧ Below w.heap.size w w' := by
 have hb0 : Below w.heap.size w (w.alloc (Obj.cells #[.string s, .int .i64 x] 179)) := blA _ _
 have B0 := kide hb0
 clear hb0
 go_enter Tryz.func146, Tryz.ntmps146
 go_wp2_with fail
 refine Calls.mono (boundWidth_any x _) ?_
 rintro e w1 ⟨rfl, rfl⟩
 go_wp2_with fail
 go_returns
 exact ⟨rfl, B0.out⟩
set_option maxHeartbeats 1000000 in
theorem bitsWidth_any (bw : Int) (wa : Option Addr) (wc : Nat) (ws : List Nat) (ky : Option Addr) (kl kc : Nat) (w : World) (hr : Rd w wa ws) :
  Calls Tryz.prog 148 #[.agg #[.int .i64 bw, .slice wa ws.length wc], .slice ky kl kc] w fun e w' => e = .returned (.tuple #[.int .i64 (if rightB bw ws = true then (bw, 0) else ((0 : Int), (15 : Int))).1, .int .i64 (if rightB bw ws = true then (bw, 0) else ((0 : Int), (15 : Int))).2]) ∧ Below w.heap.size w w' := by
 have hb0 : Below w.heap.size w (w.alloc (Obj.cells #[.int .i64 bw, .slice wa ws.length wc] 181)) := blA _ _
 have B0 := kide hb0
 clear hb0
 have HOK := kide (fun u (hu : Below w.heap.size w u) => implOk_any bw wa wc ws u (hr.later hu))
 clear hr
 cases hR : rightB bw ws with
 | false =>
  rw [hR] at HOK
  rw [if_neg (by simp)]
  clear hR
  go_enter Tryz.func148, Tryz.ntmps148
  go_wp2_with fail
  refine Calls.mono (HOK.out _ B0.out) ?_
  rintro e w1 ⟨rfl, hb1⟩
  go_wp2_with fail
  go_returns
  exact ⟨rfl, B0.out.trans (hb1.mono B0.out.size)⟩
 | true =>
  rw [hR] at HOK
  rw [if_pos rfl]
  clear hR
  go_enter Tryz.func148, Tryz.ntmps148
  go_wp2_with fail
  refine Calls.mono (HOK.out _ B0.out) ?_
  rintro e w1 ⟨rfl, hb1⟩
  have k0 := kcell hb1 w.heap.size 0 (by simp)
  simp at k0
  go_wp2_with fail
  go_returns
  exact ⟨rfl, B0.out.trans (hb1.mono B0.out.size)⟩
set_option maxHeartbeats 1000000 in
theorem partWidth_any (A B : Int) (ky : Option Addr) (kl kc : Nat) (w : World) (b o : Nat) (q : Int) (ha : ky = some ⟨b, o, none⟩) (hk : kl = 1) (h0 : w.cell? ⟨b, o, none⟩ = some (.int .i64 q)) (hq1 : 1 ≤ q) (hq2 : q ≤ 4096) :
  Calls Tryz.prog 150 #[.agg #[.int .i64 A, .int .i64 B], .slice ky kl kc] w fun e w' => e = .returned (.tuple #[.int .i64 (if B < 0 ∨ A < B ∨ q ≤ A then ((0 : Int), (15 : Int)) else (A - B + 1, 0)).1, .int .i64 (if B < 0 ∨ A < B ∨ q ≤ A then ((0 : Int), (15 : Int)) else (A - B + 1, 0)).2]) ∧ Below w.heap.size w w' := by
 have hb0 : Below w.heap.size w (w.alloc (Obj.cells #[.int .i64 A, .int .i64 B] 185)) := blA _ _
 have B0 := kide hb0
 clear hb0
 subst ha
 subst hk
 have lb : b < w.heap.size := block_lt_of_cell h0
 by_cases h : B < 0 ∨ A < B ∨ q ≤ A
 ·rw [if_pos h]
  by_cases h1 : B < 0
  ·clear h
   go_enter Tryz.func150, Tryz.ntmps150
   go_wp2_with fail
   try (go_quiet (fail); go_wp2_with fail)
   try (go_quiet (fail); go_wp2_with fail)
   go_returns
   exact ⟨rfl, by first | exact B0.out | exact below_drewN B0.out _ | exact below_drewN (below_drewN B0.out _) _⟩
  by_cases h2 : A < B
  ·clear h
   go_enter Tryz.func150, Tryz.ntmps150
   go_wp2_with fail
   try (go_quiet (fail); go_wp2_with fail)
   try (go_quiet (fail); go_wp2_with fail)
   go_returns
   exact ⟨rfl, by first | exact B0.out | exact below_drewN B0.out _ | exact below_drewN (below_drewN B0.out _) _⟩
  have h3 : q ≤ A := by omega
  clear h
  go_enter Tryz.func150, Tryz.ntmps150
  go_wp2_with fail
  try (go_quiet (fail); go_wp2_with fail)
  try (go_quiet (fail); go_wp2_with fail)
  go_returns
  exact ⟨rfl, by first | exact B0.out | exact below_drewN B0.out _ | exact below_drewN (below_drewN B0.out _) _⟩
 ·rw [if_neg h]
  have h1 : 0 ≤ B := by omega
  have h2 : B ≤ A := by omega
  have h3 : A < q := by omega
  clear h
  go_enter Tryz.func150, Tryz.ntmps150
  go_wp2_with fail
  try (go_quiet (fail); go_wp2_with fail)
  try (go_quiet (fail); go_wp2_with fail)
  go_returns
  exact ⟨rfl, by first | exact B0.out | exact below_drewN B0.out _ | exact below_drewN (below_drewN B0.out _) _⟩
set_option maxHeartbeats 1000000 in
theorem widenWidth_any (s : ByteArray) (A : Int) (ky : Option Addr) (kl kc : Nat) (w : World) (b o : Nat) (q : Int) (ha : ky = some ⟨b, o, none⟩) (hk : kl = 1) (h0 : w.cell? ⟨b, o, none⟩ = some (.int .i64 q)) (hq1 : 1 ≤ q) (hq2 : q ≤ 4096) :
  Calls Tryz.prog 151 #[.agg #[.string s, .int .i64 A], .slice ky kl kc] w fun e w' => e = .returned (.tuple #[.int .i64 (if 0 ≤ A ∧ A ≤ 4096 then bndR (q + A) else ((0 : Int), (15 : Int))).1, .int .i64 (if 0 ≤ A ∧ A ≤ 4096 then bndR (q + A) else ((0 : Int), (15 : Int))).2]) ∧ Below w.heap.size w w' := by
 have hb0 : Below w.heap.size w (w.alloc (Obj.cells #[.string s, .int .i64 A] 187)) := blA _ _
 have B0 := kide hb0
 clear hb0
 subst ha
 subst hk
 have lb : b < w.heap.size := block_lt_of_cell h0
 by_cases h : 0 ≤ A ∧ A ≤ 4096
 ·rw [if_pos h]
  obtain ⟨h1, h2⟩ := h
  go_enter Tryz.func151, Tryz.ntmps151
  go_wp2_with fail
  go_quiet ((go_at_call 147; exact Calls.quiet_of_same (boundWidth_any _ _)))
  go_wp2_with fail
  go_returns
  exact ⟨rfl, by first | exact B0.out | exact below_drewN B0.out _ | exact below_drewN (below_drewN B0.out _) _⟩
 ·rw [if_neg h]
  by_cases h1 : A < 0
  ·clear h
   go_enter Tryz.func151, Tryz.ntmps151
   go_wp2_with fail
   try (go_quiet (fail); go_wp2_with fail)
   try (go_quiet (fail); go_wp2_with fail)
   go_returns
   exact ⟨rfl, by first | exact B0.out | exact below_drewN B0.out _ | exact below_drewN (below_drewN B0.out _) _⟩
  have h2 : 4096 < A := by omega
  clear h
  go_enter Tryz.func151, Tryz.ntmps151
  go_wp2_with fail
  try (go_quiet (fail); go_wp2_with fail)
  try (go_quiet (fail); go_wp2_with fail)
  go_returns
  exact ⟨rfl, by first | exact B0.out | exact below_drewN B0.out _ | exact below_drewN (below_drewN B0.out _) _⟩
set_option maxHeartbeats 1000000 in
theorem turnWidth_any (s : ByteArray) (A : Int) (ky : Option Addr) (kl kc : Nat) (w : World) (b o : Nat) (q : Int) (ha : ky = some ⟨b, o, none⟩) (hk : kl = 1) (h0 : w.cell? ⟨b, o, none⟩ = some (.int .i64 q)) (hq1 : 1 ≤ q) (hq2 : q ≤ 4096) :
  Calls Tryz.prog 152 #[.agg #[.string s, .int .i64 A], .slice ky kl kc] w fun e w' => e = .returned (.tuple #[.int .i64 (if 0 ≤ A ∧ A ≤ 4096 then (q, 0) else ((0 : Int), (15 : Int))).1, .int .i64 (if 0 ≤ A ∧ A ≤ 4096 then (q, 0) else ((0 : Int), (15 : Int))).2]) ∧ Below w.heap.size w w' := by
 have hb0 : Below w.heap.size w (w.alloc (Obj.cells #[.string s, .int .i64 A] 189)) := blA _ _
 have B0 := kide hb0
 clear hb0
 subst ha
 subst hk
 have lb : b < w.heap.size := block_lt_of_cell h0
 by_cases h : 0 ≤ A ∧ A ≤ 4096
 ·rw [if_pos h]
  obtain ⟨h1, h2⟩ := h
  go_enter Tryz.func152, Tryz.ntmps152
  go_wp2_with fail
  try (go_quiet (fail); go_wp2_with fail)
  try (go_quiet (fail); go_wp2_with fail)
  go_returns
  exact ⟨rfl, by first | exact B0.out | exact below_drewN B0.out _ | exact below_drewN (below_drewN B0.out _) _⟩
 ·rw [if_neg h]
  by_cases h1 : A < 0
  ·clear h
   go_enter Tryz.func152, Tryz.ntmps152
   go_wp2_with fail
   try (go_quiet (fail); go_wp2_with fail)
   try (go_quiet (fail); go_wp2_with fail)
   go_returns
   exact ⟨rfl, by first | exact B0.out | exact below_drewN B0.out _ | exact below_drewN (below_drewN B0.out _) _⟩
  have h2 : 4096 < A := by omega
  clear h
  go_enter Tryz.func152, Tryz.ntmps152
  go_wp2_with fail
  try (go_quiet (fail); go_wp2_with fail)
  try (go_quiet (fail); go_wp2_with fail)
  go_returns
  exact ⟨rfl, by first | exact B0.out | exact below_drewN B0.out _ | exact below_drewN (below_drewN B0.out _) _⟩
set_option maxHeartbeats 1000000 in
theorem repWidth_any (A : Int) (ky : Option Addr) (kl kc : Nat) (w : World) (b o : Nat) (q : Int) (ha : ky = some ⟨b, o, none⟩) (hk : kl = 1) (h0 : w.cell? ⟨b, o, none⟩ = some (.int .i64 q)) (hq1 : 1 ≤ q) (hq2 : q ≤ 4096) :
  Calls Tryz.prog 153 #[.agg #[.int .i64 A], .slice ky kl kc] w fun e w' => e = .returned (.tuple #[.int .i64 (if 1 ≤ A ∧ A ≤ 4096 then bndR (q * A) else ((0 : Int), (15 : Int))).1, .int .i64 (if 1 ≤ A ∧ A ≤ 4096 then bndR (q * A) else ((0 : Int), (15 : Int))).2]) ∧ Below w.heap.size w w' := by
 have hb0 : Below w.heap.size w (w.alloc (Obj.cells #[.int .i64 A] 191)) := blA _ _
 have B0 := kide hb0
 clear hb0
 subst ha
 subst hk
 have lb : b < w.heap.size := block_lt_of_cell h0
 by_cases h : 1 ≤ A ∧ A ≤ 4096
 ·rw [if_pos h]
  obtain ⟨h1, h2⟩ := h
  have hqa : 0 ≤ q * A ∧ q * A ≤ 16777216 := ⟨Int.mul_nonneg (by omega) (by omega), by have := Int.mul_le_mul hq2 h2 (by omega) (by omega); omega⟩
  obtain ⟨hqa1, hqa2⟩ := hqa
  go_enter Tryz.func153, Tryz.ntmps153
  go_wp2_with fail
  go_quiet ((go_at_call 147; exact Calls.quiet_of_same (boundWidth_any _ _)))
  go_wp2_with fail
  go_returns
  exact ⟨rfl, by first | exact B0.out | exact below_drewN B0.out _ | exact below_drewN (below_drewN B0.out _) _⟩
 ·rw [if_neg h]
  by_cases h1 : A < 1
  ·clear h
   go_enter Tryz.func153, Tryz.ntmps153
   go_wp2_with fail
   try (go_quiet (fail); go_wp2_with fail)
   try (go_quiet (fail); go_wp2_with fail)
   go_returns
   exact ⟨rfl, by first | exact B0.out | exact below_drewN B0.out _ | exact below_drewN (below_drewN B0.out _) _⟩
  have h2 : 4096 < A := by omega
  clear h
  go_enter Tryz.func153, Tryz.ntmps153
  go_wp2_with fail
  try (go_quiet (fail); go_wp2_with fail)
  try (go_quiet (fail); go_wp2_with fail)
  go_returns
  exact ⟨rfl, by first | exact B0.out | exact below_drewN B0.out _ | exact below_drewN (below_drewN B0.out _) _⟩
theorem sumK_append (xs ys : List Int) : sumK (xs ++ ys) = sumK xs + sumK ys := by
 induction xs with
 | nil => simp [sumK]
 | cons x t ih => simp [sumK, ih]; omega
theorem sumK_take {xs : List Int} {k : Nat} (h : k < xs.length) : sumK (xs.take (k + 1)) = sumK (xs.take k) + xs.getD k 0 := by
 rw [List.take_add_one, sumK_append]
 simp [sumK, List.getD, h]
theorem sumK_le {xs : List Int} (h : ∀ x ∈ xs, 1 ≤ x ∧ x ≤ 4096) : 0 ≤ sumK xs ∧ sumK xs ≤ 4096 * xs.length := by
 induction xs with
 | nil => simp [sumK]
 | cons x t ih =>
  have h1 := h x (by simp)
  have h2 := ih (fun y hy => h y (by simp [hy]))
  simp only [sumK, List.length_cons]
  omega
set_option maxHeartbeats 1000000 in
theorem catWidth_any (ky : Option Addr) (n kc : Nat) (ys : List Int) (w : World) (hr : RdI w ky ys) (hn : ys.length = n) (hb : ∀ x ∈ ys, 1 ≤ x ∧ x ≤ 4096) (hl : n ≤ 4096) :
  Calls Tryz.prog 149 #[.agg #[], .slice ky n kc] w fun e w' => e = .returned (.tuple #[.int .i64 (bndR (sumK ys)).1, .int .i64 (bndR (sumK ys)).2]) ∧ Below w.heap.size w w' := by
 subst hn
 have hb0 : Below w.heap.size w (w.alloc (Obj.cells #[] 183)) := blA _ _
 have HR := kide (fun u (hu : Below w.heap.size w u) => hr.later hu)
 have HY := kide hb
 clear hr hb
 go_enter Tryz.func149, Tryz.ntmps149
 go_wp2_with fail
 go_loopw [6, 11] (fun q i wr => ∃ k : Nat, k ≤ ys.length ∧ i = .int .i64 k ∧ q = .int .i64 (sumK (ys.take k)) ∧ Below w.heap.size w wr) (fun _ i _ => ys.length - (intOf i).toNat)
 case atStart => exact ⟨0, Nat.zero_le _, rfl, by simp [sumK], by first | exact hb0 | exact Below.refl _ _⟩
 case round =>
  obtain ⟨k, hk, rfl, rfl, hbel⟩ := hrel
  have HB := kide hbel
  by_cases hlt : k < ys.length
  ·obtain ⟨-, -, h | ⟨b, o, rfl, hc⟩⟩ := HR.out wr hbel
   ·subst h; simp at hlt
   have p0 := hc k hlt
   have hki : (k : Int) < (ys.length : Int) := by omega
   have hst := sumK_take hlt
   have hx := HY.out _ (List.getElem_mem hlt)
   have hxe : ys.getD k 0 = ys[k] := by simp [List.getD, hlt]
   rw [← hxe] at hx
   have hle := sumK_le (xs := ys.take k) (fun x hx => HY.out x (List.mem_of_mem_take hx))
   have htl : (ys.take k).length ≤ 4096 := by simp; omega
   generalize ys.getD k 0 = x at *
   generalize sumK (ys.take k) = Q at *
   generalize (ys.take k).length = L at *
   obtain ⟨hx1, hx2⟩ := hx
   obtain ⟨hle1, hle2⟩ := hle
   have hQ : Q ≤ 16777216 := by omega
   have HST := kide hst
   clear hc hst hxe hbel hb0 hle2 htl
   go_wp2_with fail
   go_roundw
   case rel => exact ⟨k + 1, by omega, by go_num, by rw [HST.out], HB.out⟩
   case measure => simp [intOf]; omega
  ·have e : k = ys.length := by omega
   rw [e, List.take_length]
   clear hbel hb0 hlt
   go_wp2_with fail
   refine Calls.mono (boundWidth_any (sumK ys) _) ?_
   rintro e w1 ⟨rfl, rfl⟩
   go_wp2_with fail
   go_returns
   exact ⟨rfl, HB.out⟩

theorem implFlat_any (a da : Option Addr) (c dc n : Nat) (ds : List Dc) (xs : List Sg) (w : World) (hd : RdD w da ds) (hr : RdS w a xs) (hn : xs.length = n) :
  Calls Tryz.prog 38 #[.slice da ds.length dc, .slice a n c] w fun e w' => e = .returned (.bool (flatR ds (xs.map Sg.ct))) ∧ Below w.heap.size w w' := by
 have HDC := kide (implDecls_any da dc ds w hd)
 rw [flatR_form]
 cases hD : dclR ds with
 | false =>
  rw [hD] at HDC
  clear hD
  go_enter Tryz.func38, Tryz.ntmps38
  go_wp2_with fail
  refine Calls.mono HDC.out ?_
  rintro e w1 ⟨rfl, hb1⟩
  go_wp2_with fail
  go_ret
  exact ⟨rfl, hb1⟩
 | true =>
  rw [hD] at HDC
  have HF := kide (fun u (hu : Below w.heap.size w u) => formOk_any a da c dc n ds xs u (hd.later hu) (hr.later hu) hn hD)
  generalize formR ds (xs.map Sg.ct) = R at *
  clear hD hd hr hn
  go_enter Tryz.func38, Tryz.ntmps38
  go_wp2_with fail
  refine Calls.mono HDC.out ?_
  rintro e w1 ⟨rfl, hb1⟩
  have B1 := kide hb1
  clear hb1
  go_wp2_with fail
  refine Calls.mono (HF.out w1 B1.out) ?_
  rintro e w2 ⟨rfl, hb2⟩
  go_wp2_with fail
  go_ret
  exact ⟨ret_bool (by simp), B1.out.trans (hb2.mono B1.out.size)⟩

open Go.ChangeShapes Go.WideShapes Go.ChangeAt Go.RowKit
theorem gForms : Tryz.prog.globalNamed "loop.example/g00081/impl.forms" = some 0 := by kernel_rfl
theorem tForms : (Tryz.prog.globals[0]?).map (·.type) = some 161 := by kernel_rfl
theorem forms_at (m : Nat) (hm : m < 10) : ∃ s : List UInt8, (match (Rows.laid_loop_example_g00081_impl_forms : DataW Unit) with | .agg l => l | _ => [])[m]? = some (.agg [.lit (.string s), .lit (.int .i64 (tabR m).1), .lit (.int .i64 (tabR m).2.1), .lit (.int .i64 (tabR m).2.2)]) := by
 match m, hm with
 | 0, _ => exact ⟨_, rfl⟩
 | 1, _ => exact ⟨_, rfl⟩
 | 2, _ => exact ⟨_, rfl⟩
 | 3, _ => exact ⟨_, rfl⟩
 | 4, _ => exact ⟨_, rfl⟩
 | 5, _ => exact ⟨_, rfl⟩
 | 6, _ => exact ⟨_, rfl⟩
 | 7, _ => exact ⟨_, rfl⟩
 | 8, _ => exact ⟨_, rfl⟩
 | 9, _ => exact ⟨_, rfl⟩
set_option maxRecDepth 100000 in
theorem gf_of_laid {W : World} (h : laidMetH Tryz.prog [("loop.example/g00081/impl.forms", Rows.laid_loop_example_g00081_impl_forms)] W) : GF W := by
 rw [MakeChecks.laidMetH_plain _ _ _ (by kernel_rfl)] at h
 obtain ⟨ps, ⟨g0, t0, cs0, f0, p0, q0, hg0, ht0, hv0, hd0, _, _⟩, _, _⟩ := h
 obtain rfl := Option.some.inj (gForms.symm.trans hg0)
 obtain rfl := Option.some.inj (tForms.symm.trans ht0)
 obtain ⟨xs, m1, rfl, hx1, hlen, hn, hel⟩ := DataW.trod_array Tryz.underlying161 hd0
 have cF : Tryz.prog.cellsOf 160 = 4 := by kernel_rfl
 have cS : Tryz.prog.cellsOf 9 = 1 := by kernel_rfl
 have cI : Tryz.prog.cellsOf 3 = 1 := by kernel_rfl
 have cA : Tryz.prog.cellsOf 161 = 40 := by kernel_rfl
 rw [cA] at hlen
 have hcell := fun i => World.var?_cell hg0 hv0 i
 intro m hm
 have h0 := hel m hm
 rw [cF] at h0
 obtain ⟨s, hs⟩ := forms_at m hm
 have hxm : (xs.map (·.1))[m]? = some (.agg [.lit (.string s), .lit (.int .i64 (tabR m).1), .lit (.int .i64 (tabR m).2.1), .lit (.int .i64 (tabR m).2.2)]) := by
  simp only [Prod.mk.injEq] at hx1
  have := hx1.1
  rw [this] at hs
  simpa using hs
 rw [List.getElem?_map] at hxm
 cases hx : xs[m]? with
 | none => rw [hx] at hxm; cases hxm
 | some y =>
  rw [hx] at hxm h0
  have hy : y.1 = .agg [.lit (.string s), .lit (.int .i64 (tabR m).1), .lit (.int .i64 (tabR m).2.1), .lit (.int .i64 (tabR m).2.2)] := by simpa using hxm
  obtain ⟨ys, k, hk, hxy, hl4, hyl, hfd⟩ := DataW.trod_struct Tryz.underlying160 h0
  rw [cF] at hl4
  have g0 := hfd 0 _ rfl
  have g1 := hfd 1 _ rfl
  have g2 := hfd 2 _ rfl
  have g3 := hfd 3 _ rfl
  match ys, hyl with
  | [y0, y1, y2, y3], _ =>
   rw [hxy] at hy
   simp only [DataW.agg.injEq, List.map_cons, List.map_nil, List.cons.injEq] at hy
   obtain ⟨a0, a1, a2, a3, -⟩ := hy
   obtain ⟨s', e0, f0, _⟩ := DataW.trod_string Tryz.underlying9 g0
   obtain ⟨n1, e1, f1, _⟩ := DataW.trod_int Tryz.underlying3 g1
   obtain ⟨n2, e2, f2, _⟩ := DataW.trod_int Tryz.underlying3 g2
   obtain ⟨n3, e3, f3, _⟩ := DataW.trod_int Tryz.underlying3 g3
   rw [f0] at a0
   rw [f1] at a1
   rw [f2] at a2
   rw [f3] at a3
   simp at a1 a2 a3
   have gl : ∀ i, i < 4 → cs0[m * 4 + i]? = ((cs0.toList.drop (m * 4)).take 4)[i]? := fun i hi => by
    rw [List.getElem?_take_of_lt hi, List.getElem?_drop]
    simp
   generalize (cs0.toList.drop (m * 4)).take 4 = L at *
   match L, hl4 with
   | [l0, l1, l2, l3], _ =>
    simp [cS, cI] at e0 e1 e2 e3
    have q0 := (hcell (m * 4 + 0)).trans (gl 0 (by omega))
    have q1 := (hcell (m * 4 + 1)).trans (gl 1 (by omega))
    have q2 := (hcell (m * 4 + 2)).trans (gl 2 (by omega))
    have q3 := (hcell (m * 4 + 3)).trans (gl 3 (by omega))
    simp at q0 q1 q2 q3
    refine ⟨⟨s', ?_⟩, ?_, ?_, ?_⟩
    ·rw [q0, e0]
    ·rw [q1, e1, a1]
    ·rw [q2, e2, a2]
    ·rw [q3, e3, a3]

end Go.Proofs.YtnpjgoklpaigjaaGreatDoor
