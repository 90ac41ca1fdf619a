/- Several texts in one. -/
import Derived.Test.YtffcklobignlfaaGAH
import Derived.Test.YtffcklobignlfaaGAI
namespace Go.Proofs.Ytffcklobignlfaa
open Go.RowKit
set_option linter.unusedVariables false
set_option linter.unusedSimpArgs false
theorem l3One_any (op : Int) (w : World) :
    Calls Try.prog 76 #[.int .i64 op] w fun e w' => e = .returned (.bool (decide (4 ≤ op ∧ op ≤ 9))) ∧ w' = w := by
  have HL := kide (l1In_any op 4 9 w)
  generalize decide (4 ≤ op ∧ op ≤ 9) = V at *
  go_enter Try.func76, Try.ntmps76
  go_wp2_with fail
  refine Calls.mono HL.out ?_
  rintro e w' ⟨rfl, rfl⟩
  go_wp2_with fail
  go_ret
  exact ⟨rfl, rfl⟩
def fieldR (n : Tc) : Bool := !(n.op != 1 && n.vr != 0 || n.op != 2 && !(decide (n.bw = 0) && decide (n.ws.length = 0)) || n.op != 4 && n.b != 0 || !decide (4 ≤ n.op ∧ n.op ≤ 9) && n.a != 0)
def manyR (nd : Nat) (n : Tc) : Bool :=
  if n.op = 1 then decide (n.ks.length = 0) && decide (0 ≤ n.vr ∧ n.vr ≤ (nd : Int) - 1)
  else if n.op = 2 then decide (n.ks.length = 0) && rightB n.bw n.ws
  else if n.op = 3 then decide (2 ≤ n.ks.length)
  else if 4 ≤ n.op ∧ n.op ≤ 9 then decide (n.ks.length = 1)
  else false
def kidsR (at' : Nat) (ks : List Int) : Bool := ks.all (fun k => decide (0 ≤ k ∧ k ≤ (at' : Int) - 1))
set_option maxHeartbeats 1000000 in
theorem l3Form_any (a : Option Addr) (nd c at' : Nat) (n : Tc) (wa ka : Option Addr) (wc kc : Nat) (w : World) (hw : Rd w wa n.ws) (hk : RdI w ka n.ks) (hat : at' ≤ 1048576) (hnd : nd ≤ 1048576) :
    Calls Try.prog 74 #[.slice a nd c, .agg #[.int .i64 n.op, .int .i64 n.vr, .int .i64 n.a, .int .i64 n.b, .int .i64 n.bw, .slice wa n.ws.length wc, .slice ka n.ks.length kc], .int .i64 (at' : Int)] w fun e w' => e = .returned (.bool (kidsR at' n.ks && fieldR n && manyR nd n)) ∧ Below w.heap.size w w' := by
  generalize hZ : (kidsR at' n.ks && fieldR n && manyR nd n) = Z
  have HZ := kide hZ
  clear hZ
  obtain ⟨op, vr, A, B, bw, ws, ks⟩ := n
  simp only [] at hw hk ⊢
  have hb0 : Below w.heap.size w (w.alloc (Obj.cells #[.int .i64 op, .int .i64 vr, .int .i64 A, .int .i64 B, .int .i64 bw, .slice wa ws.length wc, .slice ka ks.length kc] 88)) := (Below.refl _ _).alloc (Nat.le_refl _) _
  have HW := kide (fun u (hu : Below w.heap.size w u) => hw.later hu)
  have HK := kide (hk.later hb0)
  have hl := hk.1
  have HWL := kide hw.1
  have B0 := kide hb0
  clear hw hk hb0
  go_enter Try.func74, Try.ntmps74
  go_wp2_with fail
  have c0 : (w.alloc (Obj.cells #[.int .i64 op, .int .i64 vr, .int .i64 A, .int .i64 B, .int .i64 bw, .slice wa ws.length wc, .slice ka ks.length kc] 88)).cell? ⟨w.heap.size, 0, none⟩ = some (.int .i64 op) := by simp [go_sem]
  have c1 : (w.alloc (Obj.cells #[.int .i64 op, .int .i64 vr, .int .i64 A, .int .i64 B, .int .i64 bw, .slice wa ws.length wc, .slice ka ks.length kc] 88)).cell? ⟨w.heap.size, 1, none⟩ = some (.int .i64 vr) := by simp [go_sem]
  have c2 : (w.alloc (Obj.cells #[.int .i64 op, .int .i64 vr, .int .i64 A, .int .i64 B, .int .i64 bw, .slice wa ws.length wc, .slice ka ks.length kc] 88)).cell? ⟨w.heap.size, 2, none⟩ = some (.int .i64 A) := by simp [go_sem]
  have c3 : (w.alloc (Obj.cells #[.int .i64 op, .int .i64 vr, .int .i64 A, .int .i64 B, .int .i64 bw, .slice wa ws.length wc, .slice ka ks.length kc] 88)).cell? ⟨w.heap.size, 3, none⟩ = some (.int .i64 B) := by simp [go_sem]
  have c4 : (w.alloc (Obj.cells #[.int .i64 op, .int .i64 vr, .int .i64 A, .int .i64 B, .int .i64 bw, .slice wa ws.length wc, .slice ka ks.length kc] 88)).cell? ⟨w.heap.size, 4, none⟩ = some (.int .i64 bw) := by simp [go_sem]
  have c5 : (w.alloc (Obj.cells #[.int .i64 op, .int .i64 vr, .int .i64 A, .int .i64 B, .int .i64 bw, .slice wa ws.length wc, .slice ka ks.length kc] 88)).cell? ⟨w.heap.size, 5, none⟩ = some (.slice wa ws.length wc) := by simp [go_sem]
  have c6 : (w.alloc (Obj.cells #[.int .i64 op, .int .i64 vr, .int .i64 A, .int .i64 B, .int .i64 bw, .slice wa ws.length wc, .slice ka ks.length kc] 88)).cell? ⟨w.heap.size, 6, none⟩ = some (.slice ka ks.length kc) := by simp [go_sem]
  generalize (w.alloc (Obj.cells #[.int .i64 op, .int .i64 vr, .int .i64 A, .int .i64 B, .int .i64 bw, .slice wa ws.length wc, .slice ka ks.length kc] 88)) = w0 at *
  go_loopw [7] (fun i wr => ∃ k : Nat, k ≤ ks.length ∧ i = .int .i64 k ∧ kidsR at' (ks.take k) = true ∧ wr = w0) (fun i _ => ks.length - (intOf i).toNat)
  case atStart => exact ⟨0, Nat.zero_le _, rfl, by simp [kidsR], rfl⟩
  case round =>
    obtain ⟨k, hk, rfl, hkr, rfl⟩ := hrel
    have HKR := kide hkr
    clear hkr
    by_cases hlt : k < ks.length
    · obtain ⟨hl1, hin, h | ⟨b, o, rfl, hc⟩⟩ := HK.out
      · subst h; simp at hlt
      have g0 := hc k hlt
      have HIN := kide hin
      clear hin hc HK
      have hgk : ks[k]? = some (ks.getD k 0) := by simp [List.getD, hlt]
      have HGK := kide hgk
      clear hgk
      generalize ks.getD k 0 = y at *
      by_cases hy : 0 ≤ y ∧ y ≤ (at' : Int) - 1
      · have HL := kide (fun u => l1In_any y 0 ((at' : Int) - 1) u)
        rw [decide_eq_true hy] at HL
        go_wp2_with (go_at_call 33; refine Calls.mono (HL.out _) ?_; rintro e w1 ⟨rfl, rfl⟩)
        go_roundw
        case rel =>
          refine ⟨k + 1, by omega, by go_num, ?_, by first | rfl | trivial⟩
          rw [List.take_add_one, HGK.out, kidsR, List.all_append]
          have := HKR.out
          rw [kidsR] at this
          rw [this]
          simp
          omega
        case measure => simp [intOf]; omega
      · have HL := kide (fun u => l1In_any y 0 ((at' : Int) - 1) u)
        rw [decide_eq_false hy] at HL
        have HY := kide hy
        clear hy
        go_wp2_with (go_at_call 33; refine Calls.mono (HL.out _) ?_; rintro e w1 ⟨rfl, rfl⟩)
        go_ret
        refine ⟨ret_bool ?_, B0.out⟩
        have hf : kidsR at' ks = false := by
          rw [kidsR, List.all_eq_false]
          exact ⟨y, List.mem_of_getElem? HGK.out, by simpa using HY.out⟩
        have hZ := HZ.out
        simp only [hf, Bool.false_and] at hZ
        exact hZ
    · have e : k = ks.length := by omega
      subst e
      have hZ : (fieldR ⟨op, vr, A, B, bw, ws, ks⟩ && manyR nd ⟨op, vr, A, B, bw, ws, ks⟩) = Z := by
        have hK := HKR.out
        rw [List.take_length] at hK
        have h := HZ.out
        simp only [hK, Bool.true_and] at h
        exact h
      have HZ2 := kide hZ
      clear hZ HZ HKR hlt hk
      have hlw : w.heap.size < wr.heap.size := block_lt_of_cell c0
      have HNB := kide (fun u => l3NoBits_any bw wa ws.length wc u HWL.out)
      have HOK := kide (fun u hu => specOk_any bw wa wc ws u (HW.out u hu))
      have HLI := kide (fun u => l1In_any vr 0 ((nd : Int) - 1) u)
      obtain ⟨NV, hnv⟩ : ∃ v, v = (decide (bw = 0) && decide (ws.length = 0)) := ⟨_, rfl⟩
      obtain ⟨LV, hlv⟩ : ∃ v, v = decide (0 ≤ vr ∧ vr ≤ (nd : Int) - 1) := ⟨_, rfl⟩
      obtain ⟨OV, hov⟩ : ∃ v, v = rightB bw ws := ⟨_, rfl⟩
      rw [← hnv] at HNB
      rw [← hlv] at HLI
      rw [← hov] at HOK
      have HF := kide (And.intro hnv (And.intro hlv hov))
      clear hnv hlv hov
      rcases (show op = 1 ∨ op = 2 ∨ op = 3 ∨ op = 4 ∨ (5 ≤ op ∧ op ≤ 9) ∨ (op < 1 ∨ 9 < op) by omega) with rfl | rfl | rfl | rfl | ⟨g1, g2⟩ | g1
      · have HO1 := kide (fun u => l3One_any 1 u)
        rw [show decide ((4 : Int) ≤ 1 ∧ (1 : Int) ≤ 9) = false by decide] at HO1
        cases NV
        all_goals
          go_wp2_with (first
            | (go_at_call 56; refine Calls.mono (HNB.out _) ?_; rintro e wq ⟨rfl, hbq⟩; have k0 := kcell hbq w.heap.size 0 hlw; have k1 := kcell hbq w.heap.size 1 hlw; have k2 := kcell hbq w.heap.size 2 hlw; have k3 := kcell hbq w.heap.size 3 hlw; have k4 := kcell hbq w.heap.size 4 hlw; have k5 := kcell hbq w.heap.size 5 hlw; have k6 := kcell hbq w.heap.size 6 hlw; have BQ := kide (B0.out.trans (hbq.mono B0.out.size)); clear hbq)
            | (go_at_call 76; refine Calls.mono (HO1.out _) ?_; rintro e wx ⟨rfl, rfl⟩)
            | (go_at_call 33; refine Calls.mono (HLI.out _) ?_; rintro e wx ⟨rfl, rfl⟩)
            | (go_at_call 55; refine Calls.mono (HOK.out _ (by first | exact BQ.out | exact B0.out)) ?_; rintro e wx ⟨rfl, hbx⟩; have BX := kide (Below.trans (by first | exact BQ.out | exact B0.out) (hbx.mono (by first | exact BQ.out.size | exact B0.out.size))); clear hbx))
          all_goals go_ret
          all_goals refine ⟨ret_bool ?_, (by first | exact BX.out | exact BQ.out | exact B0.out)⟩
          all_goals (have h := HZ2.out; obtain ⟨f1, f2, f3⟩ := HF.out; simp only [fieldR, manyR] at h; rw [← f1] at h; try rw [← f2] at h
                     try rw [← f3] at h
                     clear f1 f2 f3 HZ2 HF HNB HOK HLI HO1 B0 HW HK HWL; rw [← h]; clear h; cases hB : (B != 0) <;> cases hA : (A != 0) <;> cases hV : (vr != 0) <;> simp_all <;> first | omega | (rw [Bool.eq_iff_iff]; simp; omega))
      · have HO1 := kide (fun u => l3One_any 2 u)
        rw [show decide ((4 : Int) ≤ 2 ∧ (2 : Int) ≤ 9) = false by decide] at HO1
        cases NV
        all_goals
          go_wp2_with (first
            | (go_at_call 56; refine Calls.mono (HNB.out _) ?_; rintro e wq ⟨rfl, hbq⟩; have k0 := kcell hbq w.heap.size 0 hlw; have k1 := kcell hbq w.heap.size 1 hlw; have k2 := kcell hbq w.heap.size 2 hlw; have k3 := kcell hbq w.heap.size 3 hlw; have k4 := kcell hbq w.heap.size 4 hlw; have k5 := kcell hbq w.heap.size 5 hlw; have k6 := kcell hbq w.heap.size 6 hlw; have BQ := kide (B0.out.trans (hbq.mono B0.out.size)); clear hbq)
            | (go_at_call 76; refine Calls.mono (HO1.out _) ?_; rintro e wx ⟨rfl, rfl⟩)
            | (go_at_call 33; refine Calls.mono (HLI.out _) ?_; rintro e wx ⟨rfl, rfl⟩)
            | (go_at_call 55; refine Calls.mono (HOK.out _ (by first | exact BQ.out | exact B0.out)) ?_; rintro e wx ⟨rfl, hbx⟩; have BX := kide (Below.trans (by first | exact BQ.out | exact B0.out) (hbx.mono (by first | exact BQ.out.size | exact B0.out.size))); clear hbx))
          all_goals go_ret
          all_goals refine ⟨ret_bool ?_, (by first | exact BX.out | exact BQ.out | exact B0.out)⟩
          all_goals (have h := HZ2.out; obtain ⟨f1, f2, f3⟩ := HF.out; simp only [fieldR, manyR] at h; rw [← f1] at h; try rw [← f2] at h
                     try rw [← f3] at h
                     clear f1 f2 f3 HZ2 HF HNB HOK HLI HO1 B0 HW HK HWL; rw [← h]; clear h; cases hB : (B != 0) <;> cases hA : (A != 0) <;> cases hV : (vr != 0) <;> simp_all <;> first | omega | (rw [Bool.eq_iff_iff]; simp; omega))
      · have HO1 := kide (fun u => l3One_any 3 u)
        rw [show decide ((4 : Int) ≤ 3 ∧ (3 : Int) ≤ 9) = false by decide] at HO1
        cases NV
        all_goals
          go_wp2_with (first
            | (go_at_call 56; refine Calls.mono (HNB.out _) ?_; rintro e wq ⟨rfl, hbq⟩; have k0 := kcell hbq w.heap.size 0 hlw; have k1 := kcell hbq w.heap.size 1 hlw; have k2 := kcell hbq w.heap.size 2 hlw; have k3 := kcell hbq w.heap.size 3 hlw; have k4 := kcell hbq w.heap.size 4 hlw; have k5 := kcell hbq w.heap.size 5 hlw; have k6 := kcell hbq w.heap.size 6 hlw; have BQ := kide (B0.out.trans (hbq.mono B0.out.size)); clear hbq)
            | (go_at_call 76; refine Calls.mono (HO1.out _) ?_; rintro e wx ⟨rfl, rfl⟩)
            | (go_at_call 33; refine Calls.mono (HLI.out _) ?_; rintro e wx ⟨rfl, rfl⟩)
            | (go_at_call 55; refine Calls.mono (HOK.out _ (by first | exact BQ.out | exact B0.out)) ?_; rintro e wx ⟨rfl, hbx⟩; have BX := kide (Below.trans (by first | exact BQ.out | exact B0.out) (hbx.mono (by first | exact BQ.out.size | exact B0.out.size))); clear hbx))
          all_goals go_ret
          all_goals refine ⟨ret_bool ?_, (by first | exact BX.out | exact BQ.out | exact B0.out)⟩
          all_goals (have h := HZ2.out; obtain ⟨f1, f2, f3⟩ := HF.out; simp only [fieldR, manyR] at h; rw [← f1] at h; try rw [← f2] at h
                     try rw [← f3] at h
                     clear f1 f2 f3 HZ2 HF HNB HOK HLI HO1 B0 HW HK HWL; rw [← h]; clear h; cases hB : (B != 0) <;> cases hA : (A != 0) <;> cases hV : (vr != 0) <;> simp_all <;> first | omega | (rw [Bool.eq_iff_iff]; simp; omega))
      · have HO1 := kide (fun u => l3One_any 4 u)
        rw [show decide ((4 : Int) ≤ 4 ∧ (4 : Int) ≤ 9) = true by decide] at HO1
        cases NV
        all_goals
          go_wp2_with (first
            | (go_at_call 56; refine Calls.mono (HNB.out _) ?_; rintro e wq ⟨rfl, hbq⟩; have k0 := kcell hbq w.heap.size 0 hlw; have k1 := kcell hbq w.heap.size 1 hlw; have k2 := kcell hbq w.heap.size 2 hlw; have k3 := kcell hbq w.heap.size 3 hlw; have k4 := kcell hbq w.heap.size 4 hlw; have k5 := kcell hbq w.heap.size 5 hlw; have k6 := kcell hbq w.heap.size 6 hlw; have BQ := kide (B0.out.trans (hbq.mono B0.out.size)); clear hbq)
            | (go_at_call 76; refine Calls.mono (HO1.out _) ?_; rintro e wx ⟨rfl, rfl⟩)
            | (go_at_call 33; refine Calls.mono (HLI.out _) ?_; rintro e wx ⟨rfl, rfl⟩)
            | (go_at_call 55; refine Calls.mono (HOK.out _ (by first | exact BQ.out | exact B0.out)) ?_; rintro e wx ⟨rfl, hbx⟩; have BX := kide (Below.trans (by first | exact BQ.out | exact B0.out) (hbx.mono (by first | exact BQ.out.size | exact B0.out.size))); clear hbx))
          all_goals go_ret
          all_goals refine ⟨ret_bool ?_, (by first | exact BX.out | exact BQ.out | exact B0.out)⟩
          all_goals (have h := HZ2.out; obtain ⟨f1, f2, f3⟩ := HF.out; simp only [fieldR, manyR] at h; rw [← f1] at h; try rw [← f2] at h
                     try rw [← f3] at h
                     clear f1 f2 f3 HZ2 HF HNB HOK HLI HO1 B0 HW HK HWL; rw [← h]; clear h; cases hB : (B != 0) <;> cases hA : (A != 0) <;> cases hV : (vr != 0) <;> simp_all <;> first | omega | (rw [Bool.eq_iff_iff]; simp; omega))
      · have HO1 := kide (fun u => l3One_any op u)
        rw [show decide ((4 : Int) ≤ op ∧ op ≤ 9) = true by simp; omega] at HO1
        have n1 : (op != 1) = true := by simp; omega
        have n2 : (op != 2) = true := by simp; omega
        have n4 : (op != 4) = true := by simp; omega
        have m1 : (op == 1) = false := by simp; omega
        have m2 : (op == 2) = false := by simp; omega
        have m3 : (op == 3) = false := by simp; omega
        cases NV
        all_goals
          go_wp2_with (first
            | (go_at_call 56; refine Calls.mono (HNB.out _) ?_; rintro e wq ⟨rfl, hbq⟩; have k0 := kcell hbq w.heap.size 0 hlw; have k1 := kcell hbq w.heap.size 1 hlw; have k2 := kcell hbq w.heap.size 2 hlw; have k3 := kcell hbq w.heap.size 3 hlw; have k4 := kcell hbq w.heap.size 4 hlw; have k5 := kcell hbq w.heap.size 5 hlw; have k6 := kcell hbq w.heap.size 6 hlw; have BQ := kide (B0.out.trans (hbq.mono B0.out.size)); clear hbq)
            | (go_at_call 76; refine Calls.mono (HO1.out _) ?_; rintro e wx ⟨rfl, rfl⟩)
            | (go_at_call 33; refine Calls.mono (HLI.out _) ?_; rintro e wx ⟨rfl, rfl⟩)
            | (go_at_call 55; refine Calls.mono (HOK.out _ (by first | exact BQ.out | exact B0.out)) ?_; rintro e wx ⟨rfl, hbx⟩; have BX := kide (Below.trans (by first | exact BQ.out | exact B0.out) (hbx.mono (by first | exact BQ.out.size | exact B0.out.size))); clear hbx))
          all_goals go_ret
          all_goals refine ⟨ret_bool ?_, (by first | exact BX.out | exact BQ.out | exact B0.out)⟩
          all_goals (have h := HZ2.out; obtain ⟨f1, f2, f3⟩ := HF.out; simp only [fieldR, manyR] at h; rw [← f1] at h; try rw [← f2] at h
                     try rw [← f3] at h
                     clear f1 f2 f3 HZ2 HF HNB HOK HLI HO1 B0 HW HK HWL; rw [← h]; clear h; cases hB : (B != 0) <;> cases hA : (A != 0) <;> cases hV : (vr != 0) <;> simp_all <;> first | omega | (rw [Bool.eq_iff_iff]; simp; omega))
      · have HO1 := kide (fun u => l3One_any op u)
        rw [show decide ((4 : Int) ≤ op ∧ op ≤ 9) = false by simp; omega] at HO1
        have n1 : (op != 1) = true := by simp; omega
        have n2 : (op != 2) = true := by simp; omega
        have n4 : (op != 4) = true := by simp; omega
        have m1 : (op == 1) = false := by simp; omega
        have m2 : (op == 2) = false := by simp; omega
        have m3 : (op == 3) = false := by simp; omega
        cases NV
        all_goals
          go_wp2_with (first
            | (go_at_call 56; refine Calls.mono (HNB.out _) ?_; rintro e wq ⟨rfl, hbq⟩; have k0 := kcell hbq w.heap.size 0 hlw; have k1 := kcell hbq w.heap.size 1 hlw; have k2 := kcell hbq w.heap.size 2 hlw; have k3 := kcell hbq w.heap.size 3 hlw; have k4 := kcell hbq w.heap.size 4 hlw; have k5 := kcell hbq w.heap.size 5 hlw; have k6 := kcell hbq w.heap.size 6 hlw; have BQ := kide (B0.out.trans (hbq.mono B0.out.size)); clear hbq)
            | (go_at_call 76; refine Calls.mono (HO1.out _) ?_; rintro e wx ⟨rfl, rfl⟩)
            | (go_at_call 33; refine Calls.mono (HLI.out _) ?_; rintro e wx ⟨rfl, rfl⟩)
            | (go_at_call 55; refine Calls.mono (HOK.out _ (by first | exact BQ.out | exact B0.out)) ?_; rintro e wx ⟨rfl, hbx⟩; have BX := kide (Below.trans (by first | exact BQ.out | exact B0.out) (hbx.mono (by first | exact BQ.out.size | exact B0.out.size))); clear hbx))
          all_goals go_ret
          all_goals refine ⟨ret_bool ?_, (by first | exact BX.out | exact BQ.out | exact B0.out)⟩
          all_goals (have h := HZ2.out; obtain ⟨f1, f2, f3⟩ := HF.out; simp only [fieldR, manyR] at h; rw [← f1] at h; try rw [← f2] at h
                     try rw [← f3] at h
                     clear f1 f2 f3 HZ2 HF HNB HOK HLI HO1 B0 HW HK HWL; rw [← h]; clear h; cases hB : (B != 0) <;> cases hA : (A != 0) <;> cases hV : (vr != 0) <;> simp_all <;> first | omega | (rw [Bool.eq_iff_iff]; simp; omega))

def sumR (wide : List Int) : List Int → Int → Int
 | [], s => s
 | k :: t, s => sumR wide t (min 8192 (s + wide.getD k.toNat 0))
def wideR (ds : List Dc) (n : Tc) (s : Int) : Int :=
 if n.op = 1 then (ds.getD n.vr.toNat (.empty, 0)).2
 else if n.op = 2 then n.bw
 else if n.op = 4 then (if n.b < 0 ∨ n.a < n.b ∨ s ≤ n.a then -1 else n.a - n.b + 1)
 else if n.op = 5 ∨ n.op = 6 then (if 0 ≤ n.a ∧ n.a ≤ 4096 then s + n.a else -1)
 else if n.op = 7 ∨ n.op = 8 then (if 0 ≤ n.a ∧ n.a ≤ 4096 then s else -1)
 else if n.op = 9 then (if 1 ≤ n.a ∧ n.a ≤ 4096 then s * n.a else -1)
 else s
theorem sumR_range (wide : List Int) (ks : List Int) (s : Int) (hw : ∀ x ∈ wide, 1 ≤ x ∧ x ≤ 4096) (h0 : 0 ≤ s) (h1 : s ≤ 8192) : 0 ≤ sumR wide ks s ∧ sumR wide ks s ≤ 8192 := by
 induction ks generalizing s with
 | nil => exact ⟨h0, h1⟩
 | cons k t ih =>
  rw [sumR]
  have hx : 0 ≤ wide.getD k.toNat 0 := by
   rw [List.getD]
   cases h : wide[k.toNat]? with
   | none => simp
   | some x => have := hw x (List.mem_of_getElem? h); simp; omega
  exact ih _ (by omega) (by omega)
set_option maxHeartbeats 1000000 in
theorem l3Wide_any (a : Option Addr) (c : Nat) (ds : List Dc) (n : Tc) (wa ka ya : Option Addr) (wc kc yc : Nat) (wide : List Int) (w : World) (hr : RdD w a ds) (hw : Rd w wa n.ws) (hk : RdI w ka n.ks) (hy : RdI w ya wide)
  (hwd : ∀ x ∈ wide, 1 ≤ x ∧ x ≤ 4096) (hkr : kidsR wide.length n.ks = true) (hv : n.op = 1 → 0 ≤ n.vr ∧ n.vr ≤ (ds.length : Int) - 1) (hA : in64 n.a) (hB : in64 n.b) :
  Calls Try.prog 75 #[.slice a ds.length c, .agg #[.int .i64 n.op, .int .i64 n.vr, .int .i64 n.a, .int .i64 n.b, .int .i64 n.bw, .slice wa n.ws.length wc, .slice ka n.ks.length kc], .slice ya wide.length yc] w fun e w' => e = .returned (.int .i64 (wideR ds n (sumR wide n.ks 0))) ∧ Below w.heap.size w w' := by
 obtain ⟨op, vr, A, B, bw, ws, ks⟩ := n
 simp only [] at hw hk hkr hv hA hB ⊢
 generalize hZ : wideR ds ⟨op, vr, A, B, bw, ws, ks⟩ (sumR wide ks 0) = Z
 have HZ := kide hZ
 clear hZ
 have hb0 : Below w.heap.size w (w.alloc (Obj.cells #[.int .i64 op, .int .i64 vr, .int .i64 A, .int .i64 B, .int .i64 bw, .slice wa ws.length wc, .slice ka ks.length kc] 88)) := (Below.refl _ _).alloc (Nat.le_refl _) _
 have HK := kide (hk.later hb0)
 have HY := kide (hy.later hb0)
 have HR := kide (hr.later hb0)
 have hl := hk.1
 have hl2 := hy.1
 have hl3 := hr.1
 have B0 := kide hb0
 have HKR := kide hkr
 have HV := kide hv
 have HWD := kide hwd
 clear hw hk hb0 hr hy hkr hv hwd
 go_enter Try.func75, Try.ntmps75
 go_wp2_with fail
 have c0 : (w.alloc (Obj.cells #[.int .i64 op, .int .i64 vr, .int .i64 A, .int .i64 B, .int .i64 bw, .slice wa ws.length wc, .slice ka ks.length kc] 88)).cell? ⟨w.heap.size, 0, none⟩ = some (.int .i64 op) := by simp [go_sem]
 have c1 : (w.alloc (Obj.cells #[.int .i64 op, .int .i64 vr, .int .i64 A, .int .i64 B, .int .i64 bw, .slice wa ws.length wc, .slice ka ks.length kc] 88)).cell? ⟨w.heap.size, 1, none⟩ = some (.int .i64 vr) := by simp [go_sem]
 have c2 : (w.alloc (Obj.cells #[.int .i64 op, .int .i64 vr, .int .i64 A, .int .i64 B, .int .i64 bw, .slice wa ws.length wc, .slice ka ks.length kc] 88)).cell? ⟨w.heap.size, 2, none⟩ = some (.int .i64 A) := by simp [go_sem]
 have c3 : (w.alloc (Obj.cells #[.int .i64 op, .int .i64 vr, .int .i64 A, .int .i64 B, .int .i64 bw, .slice wa ws.length wc, .slice ka ks.length kc] 88)).cell? ⟨w.heap.size, 3, none⟩ = some (.int .i64 B) := by simp [go_sem]
 have c4 : (w.alloc (Obj.cells #[.int .i64 op, .int .i64 vr, .int .i64 A, .int .i64 B, .int .i64 bw, .slice wa ws.length wc, .slice ka ks.length kc] 88)).cell? ⟨w.heap.size, 4, none⟩ = some (.int .i64 bw) := by simp [go_sem]
 have c5 : (w.alloc (Obj.cells #[.int .i64 op, .int .i64 vr, .int .i64 A, .int .i64 B, .int .i64 bw, .slice wa ws.length wc, .slice ka ks.length kc] 88)).cell? ⟨w.heap.size, 5, none⟩ = some (.slice wa ws.length wc) := by simp [go_sem]
 have c6 : (w.alloc (Obj.cells #[.int .i64 op, .int .i64 vr, .int .i64 A, .int .i64 B, .int .i64 bw, .slice wa ws.length wc, .slice ka ks.length kc] 88)).cell? ⟨w.heap.size, 6, none⟩ = some (.slice ka ks.length kc) := by simp [go_sem]
 generalize (w.alloc (Obj.cells #[.int .i64 op, .int .i64 vr, .int .i64 A, .int .i64 B, .int .i64 bw, .slice wa ws.length wc, .slice ka ks.length kc] 88)) = w0 at *
 have hs0 := sumR_range wide ks 0 HWD.out (by omega) (by omega)
 generalize hSS : sumR wide ks 0 = SS at *
 have HSS := kide hSS
 clear hSS
 go_loopw [7, 8] (fun q i wr => ∃ (k : Nat) (S : Int), k ≤ ks.length ∧ i = .int .i64 k ∧ q = .int .i64 S ∧ 0 ≤ S ∧ S ≤ 8192 ∧ sumR wide (ks.drop k) S = SS ∧ wr = w0) (fun _ i _ => ks.length - (intOf i).toNat)
 case atStart => exact ⟨0, 0, Nat.zero_le _, rfl, rfl, by omega, by omega, by rw [List.drop_zero]; exact HSS.out, rfl⟩
 case round =>
  obtain ⟨k, S, hk, rfl, rfl, hS0, hS1, hq, rfl⟩ := hrel
  have HQ := kide hq
  clear hq HSS
  by_cases hlt : k < ks.length
  ·obtain ⟨-, -, h | ⟨b, o, rfl, hc⟩⟩ := HK.out
   ·subst h; simp at hlt
   have g0 := hc k hlt
   clear hc HK
   have hgk : ks[k] = ks.getD k 0 := by simp [List.getD, hlt]
   have HGK := kide hgk
   have hmem : ks.getD k 0 ∈ ks := by rw [← hgk]; exact List.getElem_mem hlt
   clear hgk
   generalize ks.getD k 0 = y at *
   have hy := HKR.out
   rw [kidsR, List.all_eq_true] at hy
   have hy2 := hy y hmem
   clear hy hmem
   simp at hy2
   obtain ⟨m, rfl⟩ : ∃ m : Nat, y = (m : Int) := ⟨y.toNat, by omega⟩
   have hm : m < wide.length := by omega
   clear hy2
   obtain ⟨-, -, h | ⟨b', o', rfl, hc'⟩⟩ := HY.out
   ·subst h; simp at hm
   have g1 := hc' m hm
   clear hc' HY
   have hxm : wide.getD m 0 ∈ wide := by
    have : wide.getD m 0 = wide[m] := by simp [List.getD, hm]
    rw [this]; exact List.getElem_mem hm
   have hx := HWD.out _ hxm
   clear hxm
   have hst : sumR wide (ks.drop (k + 1)) (min 8192 (S + wide.getD m 0)) = SS := by
    have h := HQ.out
    rw [List.drop_eq_getElem_cons hlt, HGK.out, sumR, Int.toNat_natCast] at h
    exact h
   generalize wide.getD m 0 = x at *
   have HST := kide hst
   have i0 : (k : Int) < (ks.length : Int) := by omega
   clear hst HQ HGK
   go_wp2_with fail
   go_roundw
   case rel => exact ⟨k + 1, _, by omega, by go_num, rfl, by omega, by omega, HST.out, by first | rfl | trivial⟩
   case measure => simp [intOf]; omega
  ·have e : k = ks.length := by omega
   subst e
   have hSe : S = SS := by
    have h := HQ.out
    rw [List.drop_length, sumR] at h
    exact h
   subst hSe
   clear HQ hlt hk
   have HLI := kide (fun u => l1In_any A 0 4096 u)
   have HLJ := kide (fun u => l1In_any A 1 4096 u)
   rcases (show op = 1 ∨ op = 2 ∨ op = 4 ∨ op = 5 ∨ op = 6 ∨ op = 7 ∨ op = 8 ∨ op = 9 ∨ (op ≠ 1 ∧ op ≠ 2 ∧ op ≠ 4 ∧ op ≠ 5 ∧ op ≠ 6 ∧ op ≠ 7 ∧ op ≠ 8 ∧ op ≠ 9) by omega) with rfl | rfl | rfl | rfl | rfl | rfl | rfl | rfl | ⟨g1, g2, g4, g5, g6, g7, g8, g9⟩
   ·have hv := HV.out rfl
    obtain ⟨m, rfl⟩ : ∃ m : Nat, vr = (m : Int) := ⟨vr.toNat, by omega⟩
    have hm : m < ds.length := by omega
    obtain ⟨-, -, h | ⟨b, o, rfl, hc⟩⟩ := HR.out
    ·subst h; simp at hm
    have gd : ds[m]? = some (ds.getD m (.empty, 0)) := by simp [List.getD, hm]
    obtain ⟨g0, g1⟩ := hc m _ gd
    have hZ := HZ.out
    simp only [wideR, if_true, Int.toNat_natCast] at hZ
    generalize ds.getD m (.empty, 0) = d at *
    obtain ⟨dn, dw⟩ := d
    simp only [] at g0 g1 hZ
    subst hZ
    clear hc HR gd HV HZ hv
    go_wp2_with fail
    go_ret
    exact ⟨rfl, B0.out⟩
   ·have hZ := HZ.out
    simp [wideR] at hZ
    subst hZ
    clear HZ HV
    go_wp2_with fail
    go_ret
    exact ⟨rfl, B0.out⟩
   ·have hZ := HZ.out
    simp [wideR] at hZ
    have HZ2 := kide hZ
    clear HZ HV hZ
    go_wp2_with fail
    all_goals go_ret
    all_goals refine ⟨ret_int ?_, B0.out⟩
    all_goals (have h := HZ2.out; split at h <;> omega)
   ·have hZ := HZ.out
    simp [wideR] at hZ
    have HZ2 := kide hZ
    clear HZ HV hZ
    by_cases hA2 : 0 ≤ A ∧ A ≤ 4096
    ·rw [decide_eq_true hA2] at HLI
     have h := HZ2.out
     rw [if_pos hA2] at h
     subst h
     go_wp2_with (go_at_call 33; refine Calls.mono (HLI.out _) ?_; rintro e w1 ⟨rfl, rfl⟩)
     go_ret
     exact ⟨rfl, B0.out⟩
    ·rw [decide_eq_false hA2] at HLI
     have h := HZ2.out
     rw [if_neg hA2] at h
     subst h
     go_wp2_with (go_at_call 33; refine Calls.mono (HLI.out _) ?_; rintro e w1 ⟨rfl, rfl⟩)
     go_ret
     exact ⟨rfl, B0.out⟩
   ·have hZ := HZ.out
    simp [wideR] at hZ
    have HZ2 := kide hZ
    clear HZ HV hZ
    by_cases hA2 : 0 ≤ A ∧ A ≤ 4096
    ·rw [decide_eq_true hA2] at HLI
     have h := HZ2.out
     rw [if_pos hA2] at h
     subst h
     go_wp2_with (go_at_call 33; refine Calls.mono (HLI.out _) ?_; rintro e w1 ⟨rfl, rfl⟩)
     go_ret
     exact ⟨rfl, B0.out⟩
    ·rw [decide_eq_false hA2] at HLI
     have h := HZ2.out
     rw [if_neg hA2] at h
     subst h
     go_wp2_with (go_at_call 33; refine Calls.mono (HLI.out _) ?_; rintro e w1 ⟨rfl, rfl⟩)
     go_ret
     exact ⟨rfl, B0.out⟩
   ·have hZ := HZ.out
    simp [wideR] at hZ
    have HZ2 := kide hZ
    clear HZ HV hZ
    by_cases hA2 : 0 ≤ A ∧ A ≤ 4096
    ·rw [decide_eq_true hA2] at HLI
     have h := HZ2.out
     rw [if_pos hA2] at h
     subst h
     go_wp2_with (go_at_call 33; refine Calls.mono (HLI.out _) ?_; rintro e w1 ⟨rfl, rfl⟩)
     go_ret
     exact ⟨rfl, B0.out⟩
    ·rw [decide_eq_false hA2] at HLI
     have h := HZ2.out
     rw [if_neg hA2] at h
     subst h
     go_wp2_with (go_at_call 33; refine Calls.mono (HLI.out _) ?_; rintro e w1 ⟨rfl, rfl⟩)
     go_ret
     exact ⟨rfl, B0.out⟩
   ·have hZ := HZ.out
    simp [wideR] at hZ
    have HZ2 := kide hZ
    clear HZ HV hZ
    by_cases hA2 : 0 ≤ A ∧ A ≤ 4096
    ·rw [decide_eq_true hA2] at HLI
     have h := HZ2.out
     rw [if_pos hA2] at h
     subst h
     go_wp2_with (go_at_call 33; refine Calls.mono (HLI.out _) ?_; rintro e w1 ⟨rfl, rfl⟩)
     go_ret
     exact ⟨rfl, B0.out⟩
    ·rw [decide_eq_false hA2] at HLI
     have h := HZ2.out
     rw [if_neg hA2] at h
     subst h
     go_wp2_with (go_at_call 33; refine Calls.mono (HLI.out _) ?_; rintro e w1 ⟨rfl, rfl⟩)
     go_ret
     exact ⟨rfl, B0.out⟩
   ·have hZ := HZ.out
    simp [wideR] at hZ
    have HZ2 := kide hZ
    clear HZ HV hZ
    by_cases hA2 : 1 ≤ A ∧ A ≤ 4096
    ·rw [decide_eq_true hA2] at HLJ
     have h := HZ2.out
     rw [if_pos hA2] at h
     subst h
     first | (have hmul : 0 ≤ S * A ∧ S * A ≤ 33554432 := ⟨Int.mul_nonneg (by omega) (by omega), by have := Int.mul_le_mul hS1 hA2.2 (by omega) (by omega : (0 : Int) ≤ 8192); omega⟩) | skip
     go_wp2_with (go_at_call 33; refine Calls.mono (HLJ.out _) ?_; rintro e w1 ⟨rfl, rfl⟩)
     go_ret
     exact ⟨rfl, B0.out⟩
    ·rw [decide_eq_false hA2] at HLJ
     have h := HZ2.out
     rw [if_neg hA2] at h
     subst h
     go_wp2_with (go_at_call 33; refine Calls.mono (HLJ.out _) ?_; rintro e w1 ⟨rfl, rfl⟩)
     go_ret
     exact ⟨rfl, B0.out⟩
   ·have hZ := HZ.out
    simp [wideR, g1, g2, g4, g5, g6, g7, g8, g9] at hZ
    subst hZ
    have m1 : (op == 1) = false := by simp; omega
    have m2 : (op == 2) = false := by simp; omega
    have m4 : (op == 4) = false := by simp; omega
    have m5 : (op == 5) = false := by simp; omega
    have m6 : (op == 6) = false := by simp; omega
    have m7 : (op == 7) = false := by simp; omega
    have m8 : (op == 8) = false := by simp; omega
    have m9 : (op == 9) = false := by simp; omega
    clear HZ HV
    go_wp2_with fail
    go_ret
    exact ⟨rfl, B0.out⟩

def OW (w : World) (B : Nat) (v : Value) (xs : List Int) : Prop := w.ownsRow B 2 1 v xs.length (xs.map (Value.int .i64))
theorem OW.lt {w : World} {B : Nat} {v : Value} {xs : List Int} (h : OW w B v xs) {k : Nat} (hk : v.ownBlock = some k) : B ≤ k ∧ k < w.heap.size := World.ownsRow.lt h k hk
theorem OW.typed {w : World} {B : Nat} {v : Value} {xs : List Int} (h : OW w B v xs) {b : Nat} {cs : Array Value} {t : TypeId} {fr : Nat × Nat} (hb : w.heap[b]? = some (.cells cs t fr)) (ht : t ≠ 2) : some b ≠ v.ownBlock := fun hk => by
 rcases h.2 with ⟨rfl, -⟩ | ⟨g, cap, cur, rfl, hg, hh, -⟩
 ·cases hk
 ·cases hk
  rw [hb] at hh
  cases hh
  exact ht rfl
theorem OW.later {w w' : World} {B : Nat} {v : Value} {xs : List Int} (h : OW w B v xs) (hb : Below w.heap.size w w') : OW w' B v xs := World.ownsRow.kept (row := none) h ⟨hb.os, hb.tape, hb.output, hb.size, fun k hk _ => hb.block k hk⟩ (by
 cases h' : v.ownBlock with
 | none => exact .inl rfl
 | some k => exact .inr (by simp))
theorem OW.rd {w : World} {B : Nat} {v : Value} {xs : List Int} (h : OW w B v xs) (hl : xs.length ≤ 1048576) (hi : ∀ x ∈ xs, in64 x) : ∃ a c, v = .slice a xs.length c ∧ RdI w a xs := by
 have hcells := fun g hg => World.ownsRow.cells h (g := g) hg
 rcases h.2 with ⟨rfl, hn⟩ | ⟨g, cap, cur, rfl, -, -, -⟩
 ·exact ⟨none, 0, by rw [hn], hl, hi, .inl (List.eq_nil_of_length_eq_zero hn)⟩
 ·refine ⟨some ⟨g, 0, none⟩, cap, rfl, hl, hi, .inr ⟨g, 0, rfl, fun i hi' => ?_⟩⟩
  have c0 := hcells g rfl i (.int .i64 (xs.getD i 0)) (by simp [List.getD, hi'])
  rw [Addr.add_lit] at c0
  simpa using c0
theorem wpList_appW {w : World} {ops : Array Oper} {rest : List Oper} {o : Oper} {a : Act} {Q : Exit → Act → World → Prop} (hgd : o.guard = none) (s x : Operand)
  (ho : o.op = .call { callee := .builtin .append, args := #[s, x], argTypes := #[68, 68] })
  (B : Nat) (v : Value) (xs : List Int) (y : Int) (hs : a.eval s = v) (hown : OW w B v xs) (gx : Nat) (hx : a.eval x = .slice (some ⟨gx, 0, none⟩) 1 1)
  (h0 : w.cell? ⟨gx, 0, none⟩ = some (.int .i64 y)) (hl : xs.length ≤ 1073741824) (hB : B ≤ w.heap.size)
  (h : ∀ v' w', OW w' B v' (xs ++ [y]) → w.grownBy w' v.ownBlock → wpList Try.prog ops Q rest (a.put o.dst v') w') : wpList Try.prog ops Q (o :: rest) a w := by
 obtain ⟨i0, hi, hz0, hz1, hz2⟩ := info_parts Try.infoI64
 refine wpList_append_own_at w hgd s x 68 ho B 2 i0 _ 1 8 Try.underlying68 hi hz0 hz1 hz2 rfl (by decide) v xs.length (xs.map (Value.int .i64)) hs hown ⟨gx, 0, none⟩ 1 1 [.int .i64 y] hx rfl ?_ ?_ (by unfold maxLen; omega) (by omega) hB ?_
 ·intro j u hj
  rw [Addr.add_lit]
  match j, hj with
  | 0, hj => simp at hj; subst hj; exact h0
  | j + 1, hj => simp at hj
 ·intro u hu
  simp at hu
  subst hu
  rfl
 ·intro v' w' ho' hg _ _
  refine h v' w' ?_ hg
  unfold OW
  rw [List.map_append, List.length_append]
  exact ho'
def stepR (ds : List Dc) (wide : List Int) (n : Tc) : Option Int :=
 if (kidsR wide.length n.ks && fieldR n && manyR ds.length n) = true then
  (if 1 ≤ wideR ds n (sumR wide n.ks 0) ∧ wideR ds n (sumR wide n.ks 0) ≤ 4096 then some (wideR ds n (sumR wide n.ks 0)) else none)
 else none
def goR (ds : List Dc) : List Int → List Tc → Option (List Int)
 | wide, [] => some wide
 | wide, n :: t => match stepR ds wide n with
  | none => none
  | some v => goR ds (wide ++ [v]) t
def usedR (ns : List Tc) (i : Nat) : Bool := ns.any (fun n => n.ks.any (fun k => decide (k = (i : Int))))
def widthsR (ds : List Dc) (ns : List Tc) : List Int :=
 if (dclR ds && decide (1 ≤ ns.length) && decide (ns.length ≤ 400)) = true then
  match goR ds [] ns with
  | none => []
  | some wide => if (List.range (ns.length - 1)).all (usedR ns) = true then wide else []
 else []
theorem goR_none {ds : List Dc} {wide : List Int} {ns : List Tc} {k : Nat} {n : Tc} (hk : ns[k]? = some n) (h : stepR ds wide n = none) : goR ds wide (ns.drop k) = none := by
 have l := (List.getElem?_eq_some_iff.1 hk).1
 rw [List.drop_eq_getElem_cons l, goR]
 rw [List.getElem?_eq_getElem l] at hk
 cases hk
 rw [h]
theorem goR_some {ds : List Dc} {wide : List Int} {ns : List Tc} {k : Nat} {n : Tc} {v : Int} (hk : ns[k]? = some n) (h : stepR ds wide n = some v) : goR ds wide (ns.drop k) = goR ds (wide ++ [v]) (ns.drop (k + 1)) := by
 have l := (List.getElem?_eq_some_iff.1 hk).1
 rw [List.drop_eq_getElem_cons l, goR]
 rw [List.getElem?_eq_getElem l] at hk
 cases hk
 rw [h]
theorem stepR_range {ds : List Dc} {wide : List Int} {n : Tc} {v : Int} (h : stepR ds wide n = some v) : 1 ≤ v ∧ v ≤ 4096 := by
 unfold stepR at h
 split at h
 ·split at h
  ·cases h; assumption
  ·cases h
 ·cases h
theorem manyR_var {nd : Nat} {n : Tc} (h : manyR nd n = true) : n.op = 1 → 0 ≤ n.vr ∧ n.vr ≤ (nd : Int) - 1 := by
 intro e
 unfold manyR at h
 rw [if_pos e] at h
 simp at h
 omega

theorem OW.fresh (w : World) (B : Nat) (hB : B ≤ w.heap.size) : OW (w.alloc (Obj.cells #[] 2)) B (.slice (some ⟨w.heap.size, 0, none⟩) 0 0) [] :=
 ⟨rfl, .inr ⟨w.heap.size, 0, #[], rfl, hB, heap_alloc_new _ _, Nat.le_refl _, by unfold maxLen; omega, rfl, rfl⟩⟩
theorem Try.infoBool : (Try.prog.info? 4).map (fun i => (i.zero, i.size, i.bytes)) = some (some (.bool false), 1, 1) := by kernel_rfl
set_option maxHeartbeats 1000000 in
theorem l3Widths_no (a b : Option Addr) (c c2 n : Nat) (ds : List Dc) (xs : List Tg) (w : World) (hr : RdD w a ds) (hs : RdT w b xs) (hn : xs.length = n) (hok : ¬ (dclR ds = true ∧ 1 ≤ n ∧ n ≤ 400)) :
  Calls Try.prog 66 #[.slice a ds.length c, .agg #[.slice b n c2]] w fun e w' => ∃ v, e = .returned v ∧ OW w' (w.heap.size + 1) v (widthsR ds (xs.map Tg.ct)) ∧ Below w.heap.size w w' := by
 have hl1 := hr.1
 have hl2 := hs.1
 rw [hn] at hl2
 have HR := kide hr
 have HS := kide hs
 have HN := kide hn
 have hb1 : Below w.heap.size w (w.alloc (Obj.cells #[.slice b n c2] 66)) := (Below.refl _ _).alloc (Nat.le_refl _) _
 have hb2 : Below w.heap.size w ((w.alloc (Obj.cells #[.slice b n c2] 66)).alloc (Obj.cells #[] 2)) := hb1.alloc (by simp) _
 have B2 := kide hb2
 have HDK := kide (fun u (hu : Below w.heap.size w u) => specDecls_any a c ds u (hr.later hu))
 generalize hZ : widthsR ds (xs.map Tg.ct) = Z
 have HZ := kide hZ
 clear hr hs hn hb1 hb2 hZ
 go_enter Try.func66, Try.ntmps66
 go_wp2_with fail
 refine Calls.mono (HDK.out _ B2.out) ?_
 rintro e w1 ⟨rfl, hb1⟩
 have c1 := kcell hb1 w.heap.size 0 (by simp; omega)
 have n1 : w1.heap[w.heap.size + 1]? = some (.cells #[] 2 (0, 0)) := by
  rw [hb1.block _ (by simp)]
  have h := heap_alloc_new (w.alloc (Obj.cells #[.slice b n c2] 66)) (Obj.cells #[] 2)
  simpa using h
 have B1 := kide (B2.out.trans (hb1.mono B2.out.size))
 have z1 : w.heap.size + 1 < w1.heap.size := lt_of_block n1
 have zz : w.heap.size < w1.heap.size := by omega
 simp at c1
 clear hb1 B2
 have ON1 : Hid (OW w1 (w.heap.size + 1) (.slice (some ⟨w.heap.size + 1, 0, none⟩) 0 0) []) := ⟨rfl, .inr ⟨w.heap.size + 1, 0, #[], rfl, Nat.le_refl _, n1, Nat.le_refl _, by unfold maxLen; omega, rfl, rfl⟩⟩
 have hZ0 : Z = [] := by
  rw [← HZ.out, widthsR, if_neg]
  have := HN.out
  simp only [Bool.and_eq_true, decide_eq_true_eq, List.length_map, this]
  rintro ⟨⟨h1, h2⟩, h3⟩
  exact hok ⟨h1, h2, h3⟩
 subst hZ0
 cases hd : dclR ds with
 | false =>
  clear HZ HDK hok
  go_wp2_with fail
  go_ret
  exact ⟨_, rfl, ON1.out, B1.out⟩
 | true =>
  have hor : n < 1 ∨ 400 < n := by rw [hd] at hok; simp at hok; omega
  rcases hor with hor | hor
  ·have : n = 0 := by omega
   subst this
   clear HZ HDK hok
   go_wp2_with fail
   go_ret
   exact ⟨_, rfl, ON1.out, B1.out⟩
  ·clear HZ HDK hok
   go_wp2_with fail
   go_ret
   exact ⟨_, rfl, ON1.out, B1.out⟩


structure Lw (w : World) (b : Option Addr) (n c2 U : Nat) (q : Nat → Bool) (wr : World) : Prop where
 box : wr.heap[w.heap.size]? = some (.cells #[.slice b n c2] 66 (0, 0))
 non : wr.heap[w.heap.size + 1]? = some (.cells #[] 2 (0, 0))
 bel : Below w.heap.size w wr
 row : ∃ f, wr.rowIs U 4 n f ∧ ∀ j, j < n → f j = .bool (q j)
theorem Lw.lt {w : World} {b : Option Addr} {n c2 U : Nat} {q : Nat → Bool} {wr : World} (h : Lw w b n c2 U q wr) : U < wr.heap.size := by
 obtain ⟨f, ⟨cc, hh, -⟩, -⟩ := h.row
 exact lt_of_block hh
theorem Lw.cell {w : World} {b : Option Addr} {n c2 U : Nat} {q : Nat → Bool} {wr : World} (h : Lw w b n c2 U q wr) : wr.cell? ⟨w.heap.size, 0, none⟩ = some (.slice b n c2) := by
 simp [World.cell?, h.box]
theorem Lw.none' {w : World} {b : Option Addr} {n c2 U : Nat} {q : Nat → Bool} {wr : World} (h : Lw w b n c2 U q wr) : OW wr (w.heap.size + 1) (.slice (some ⟨w.heap.size + 1, 0, none⟩) 0 0) [] := ⟨rfl, .inr ⟨w.heap.size + 1, 0, #[], rfl, Nat.le_refl _, h.non, Nat.le_refl _, by unfold maxLen; omega, rfl, rfl⟩⟩
theorem Lw.later {w : World} {b : Option Addr} {n c2 U : Nat} {q : Nat → Bool} {wr wr' : World} (h : Lw w b n c2 U q wr) (hb : Below wr.heap.size wr wr') : Lw w b n c2 U q wr' where
 box := by rw [hb.block _ (lt_of_block h.box)]; exact h.box
 non := by rw [hb.block _ (lt_of_block h.non)]; exact h.non
 bel := h.bel.trans (hb.mono h.bel.size)
 row := by
  obtain ⟨f, hf, hq⟩ := h.row
  exact ⟨f, World.rowIs.of_block hf (hb.block _ h.lt), hq⟩
theorem Lw.grown {w : World} {b : Option Addr} {n c2 U B : Nat} {q : Nat → Bool} {wr wr' : World} {v : Value} {xs : List Int} (h : Lw w b n c2 U q wr) (ho : OW wr B v xs) (hB : w.heap.size + 1 < B) (hg : wr.grownBy wr' v.ownBlock) : Lw w b n c2 U q wr' where
 box := by rw [hg.block _ (lt_of_block h.box) (fun e => by have := ho.lt e.symm; omega)]; exact h.box
 non := by rw [hg.block _ (lt_of_block h.non) (fun e => by have := ho.lt e.symm; omega)]; exact h.non
 bel := ⟨hg.os.trans h.bel.os, hg.tape.trans h.bel.tape, hg.output.trans h.bel.output, Nat.le_trans h.bel.size hg.size, fun k hk => (hg.block k (Nat.lt_of_lt_of_le hk h.bel.size) (fun e => by have := ho.lt e.symm; omega)).trans (h.bel.block k hk)⟩
 row := by
  obtain ⟨f, ⟨cc, hh, h1, h2⟩, hq⟩ := h.row
  refine ⟨f, World.rowIs.of_block ⟨cc, hh, h1, h2⟩ (hg.block _ (lt_of_block hh) ?_), hq⟩
  exact ho.typed hh (by decide)
theorem Lw.mark {w : World} {b : Option Addr} {n c2 U : Nat} {q : Nat → Bool} {wr : World} (h : Lw w b n c2 U q wr) (hU : w.heap.size + 1 < U) (m : Nat) : Lw w b n c2 U (fun j => if j = m then true else q j) (wr.setCell ⟨U, m, none⟩ (.bool true)) where
 box := by rw [heap_setCell_other _ _ _ _ (by simp; omega)]; exact h.box
 non := by rw [heap_setCell_other _ _ _ _ (by simp; omega)]; exact h.non
 bel := h.bel.setCell (by simp; omega) _
 row := by
  obtain ⟨f, hf, hq⟩ := h.row
  refine ⟨_, World.rowIs.set hf m (.bool true), fun j hj => ?_⟩
  by_cases e : j = m
  ·simp [e]
  ·simp [e, hq j hj]
theorem OW.mono {w : World} {B B' : Nat} {v : Value} {xs : List Int} (h : OW w B v xs) (hB : B' ≤ B) : OW w B' v xs := by
 refine ⟨h.1, ?_⟩
 rcases h.2 with h | ⟨g, cap, cur, h1, h2, h3⟩
 ·exact .inl h
 ·exact .inr ⟨g, cap, cur, h1, Nat.le_trans hB h2, h3⟩
theorem OW.mark {w : World} {B : Nat} {v : Value} {xs : List Int} (h : OW w B v xs) {U : Nat} {f : Nat → Value} {n : Nat} (hr : w.rowIs U 4 n f) (i : Nat) (x : Value) : OW (w.setCell ⟨U, i, none⟩ x) B v xs := by
 obtain ⟨cc, hh, -⟩ := hr
 have hne := h.typed hh (by decide)
 refine World.ownsRow.kept (row := some U) h ⟨rfl, rfl, rfl, by simp, fun k hk hn => heap_setCell_other _ _ _ _ (fun e => hn (by simp at e; rw [e]))⟩ (.inr (fun e => hne e.symm))

set_option maxHeartbeats 1000000 in
theorem l3Widths_yes (a b : Option Addr) (c c2 n : Nat) (ds : List Dc) (xs : List Tg) (w : World) (hr : RdD w a ds) (hs : RdT w b xs) (hn : xs.length = n) (hok : dclR ds = true ∧ 1 ≤ n ∧ n ≤ 400) :
  Calls Try.prog 66 #[.slice a ds.length c, .agg #[.slice b n c2]] w fun e w' => ∃ v, e = .returned v ∧ OW w' (w.heap.size + 1) v (widthsR ds (xs.map Tg.ct)) ∧ Below w.heap.size w w' := by
 have hl1 := hr.1
 have hl2 := hs.1
 rw [hn] at hl2
 have HR := kide hr
 have HS := kide hs
 have HN := kide hn
 have hb1 : Below w.heap.size w (w.alloc (Obj.cells #[.slice b n c2] 66)) := (Below.refl _ _).alloc (Nat.le_refl _) _
 have hb2 : Below w.heap.size w ((w.alloc (Obj.cells #[.slice b n c2] 66)).alloc (Obj.cells #[] 2)) := hb1.alloc (by simp) _
 have B2 := kide hb2
 have HDK := kide (fun u (hu : Below w.heap.size w u) => specDecls_any a c ds u (hr.later hu))
 generalize hZ : widthsR ds (xs.map Tg.ct) = Z
 have HZ := kide hZ
 clear hr hs hn hb1 hb2 hZ
 go_enter Try.func66, Try.ntmps66
 go_wp2_with fail
 refine Calls.mono (HDK.out _ B2.out) ?_
 rintro e w1 ⟨rfl, hb1⟩
 have c1 := kcell hb1 w.heap.size 0 (by simp; omega)
 have n1 : w1.heap[w.heap.size + 1]? = some (.cells #[] 2 (0, 0)) := by
  rw [hb1.block _ (by simp)]
  have h := heap_alloc_new (w.alloc (Obj.cells #[.slice b n c2] 66)) (Obj.cells #[] 2)
  simpa using h
 have B1 := kide (B2.out.trans (hb1.mono B2.out.size))
 have HBX : Hid (w1.heap[w.heap.size]? = some (.cells #[.slice b n c2] 66 (0, 0))) := by
  show w1.heap[w.heap.size]? = _
  rw [hb1.block _ (by simp; omega)]
  have h := heap_alloc_new w (Obj.cells #[.slice b n c2] 66)
  rw [← h]
  exact ((Below.refl _ _).alloc (B := (w.alloc (Obj.cells #[.slice b n c2] 66)).heap.size) (Nat.le_refl _) _).block _ (by simp)
 have z1 : w.heap.size + 1 < w1.heap.size := lt_of_block n1
 have zz : w.heap.size < w1.heap.size := by omega
 simp at c1
 clear hb1 B2
 have ON1 : Hid (OW w1 (w.heap.size + 1) (.slice (some ⟨w.heap.size + 1, 0, none⟩) 0 0) []) := ⟨rfl, .inr ⟨w.heap.size + 1, 0, #[], rfl, Nat.le_refl _, n1, Nat.le_refl _, by unfold maxLen; omega, rfl, rfl⟩⟩
 obtain ⟨hd, hn1, hn4⟩ := hok
 rw [hd]
 have hmk := fun kl kc w => run_make_row' (P := Try.prog) 106 4 (.bool false) 1 Try.underlying106 Try.infoBool rfl kl kc n (by omega) (by omega) w
 have HD := kide hd
 clear hd
 go_wp2_with fail
 generalize hNS : xs.map Tg.ct = ns at *
 have HNS := kide hNS
 have hnl : ns.length = n := by rw [← hNS, List.length_map]; exact HN.out
 have HNL := kide hnl
 have hok2 : (match goR ds [] ns with
  | none => []
  | some wide => if (List.range (n - 1)).all (usedR ns) = true then wide else []) = Z := by
  have h := HZ.out
  rw [widthsR, if_pos (by simp only [Bool.and_eq_true, decide_eq_true_eq, hnl]; exact ⟨⟨HD.out, hn1⟩, hn4⟩), hnl] at h
  exact h
 have HOK2 := kide hok2
 clear hok2 HZ HDK hNS hnl
 have ob3 : Below w1.heap.size w1 ((w1.alloc (Obj.cells #[] 2)).alloc (Obj.cells (madeCells #[.bool false] n) 4)) := ((Below.refl _ _).alloc (Nat.le_refl _) _).alloc (by simp) _
 have hrow := krow (heap_alloc_new (w1.alloc (Obj.cells #[] 2)) (.cells (madeCells #[.bool false] n) 4))
 rw [size_madeCells] at hrow
 have hx1 : w1.heap[w.heap.size]? = some (.cells #[.slice b n c2] 66 (0, 0)) := HBX.out
 have L0 : Hid (Lw w b n c2 (w1.heap.size + 1) (usedR (ns.take 0)) ((w1.alloc (Obj.cells #[] 2)).alloc (Obj.cells (madeCells #[.bool false] n) 4))) := by
  refine ⟨by rw [ob3.block _ zz]; exact hx1, by rw [ob3.block _ z1]; exact n1, B1.out.trans (ob3.mono B1.out.size), ⟨_, by simpa using hrow, fun j hj => ?_⟩⟩
  have e : (madeCells #[.bool false] n)[j]? = some (.bool false) := by simp [madeCells, hj, Nat.mod_one]
  simp [usedR, e]
 have W0 : Hid (OW ((w1.alloc (Obj.cells #[] 2)).alloc (Obj.cells (madeCells #[.bool false] n) 4)) w1.heap.size (.slice (some ⟨w1.heap.size, 0, none⟩) 0 0) []) := (OW.fresh w1 w1.heap.size (Nat.le_refl _)).later ((Below.refl _ _).alloc (Nat.le_refl _) _)
 generalize (w1.alloc (Obj.cells #[] 2)).alloc (Obj.cells (madeCells #[.bool false] n) 4) = w3 at *
 clear hrow ob3 hmk c1 n1 ON1 hx1 HBX
 have zU : w.heap.size + 1 < w1.heap.size + 1 := by omega
 generalize hU : w1.heap.size + 1 = U at *
 generalize hG : goR ds [] ns = G at *
 have HG := kide hG
 clear hG
 go_loopw [6, 8] (fun l i wr => ∃ (k : Nat) (wide : List Int), k ≤ n ∧ i = .int .i64 (k : Int) ∧ OW wr w1.heap.size l wide ∧ wide.length = k ∧ (∀ x ∈ wide, 1 ≤ x ∧ x ≤ 4096) ∧ goR ds wide (ns.drop k) = G ∧ Lw w b n c2 U (usedR (ns.take k)) wr ∧ w1.heap.size ≤ wr.heap.size) (fun _ i _ => n - (intOf i).toNat)
 case atStart => exact ⟨0, [], Nat.zero_le _, rfl, W0.out, rfl, by simp, HG.out, L0.out, by have := L0.out.lt; omega⟩
 case round =>
  obtain ⟨k, wide, hk, rfl, hown, hwl, hwd, hgo, hlw, hsz⟩ := hrel
  have HOW := kide hown
  have HWL := kide hwl
  have HWD := kide hwd
  have HGO := kide hgo
  have HLW := kide hlw
  have cb := hlw.cell
  obtain ⟨ya, yc, rfl, hyr⟩ := hown.rd (by omega) (fun x hx => by have := hwd x hx; unfold in64; omega)
  have HYR := kide hyr
  clear hyr
  by_cases hlt : k < n
  ·obtain ⟨-, h | ⟨b2, o2, rfl, hc2⟩⟩ := HS.out
   ·have := HN.out; subst h; simp at this; omega
   obtain ⟨⟨s1, wa, wc, ka, kc⟩, gx⟩ : ∃ x, xs[k]? = some x := ⟨xs[k]'(by rw [HN.out]; exact hlt), List.getElem?_eq_getElem _⟩
   have gn : ns[k]? = some s1 := by rw [← HNS.out, List.getElem?_map, gx]; rfl
   obtain ⟨⟨p0, p1, p2, p3, p4, p5, p6⟩, pr, pi, p64⟩ := (hc2 k _ gx).later hlw.bel
   simp only [Tg.hd] at p0 p1 p2 p3 p4 p5 p6 pr pi p64
   have HFM := kide (l3Form_any a ds.length c k s1 wa ka wc kc wr pr pi (by omega) hl1)
   have GN := kide gn
   have P64 := kide p64
   have PR := kide (fun u (hu : Below wr.heap.size wr u) => pr.later hu)
   have PI := kide (fun u (hu : Below wr.heap.size wr u) => pi.later hu)
   have HC0 := kide (hc2 k _ gx)
   have HCT := kide (fun u (hu : Below wr.heap.size wr u) => (hc2 k _ gx).later (hlw.bel.trans (hu.mono hlw.bel.size)))
   generalize hV : (kidsR k s1.ks && fieldR s1 && manyR ds.length s1) = V at *
   have HV := kide hV
   have i0 : (k : Int) < (n : Int) := by omega
   clear hV hc2 gx gn p64 pr pi hown hwl hwd hgo hlw
   go_wp2_with fail
   refine Calls.mono HFM.out ?_
   rintro e w4 ⟨rfl, hb4⟩
   have L4 := kide (HLW.out.later hb4)
   have O4 := kide (HOW.out.later hb4)
   have cb4 := L4.out.cell
   cases V with
   | false =>
    clear hb4 HFM
    go_wp2_with fail
    go_ret
    refine ⟨_, rfl, ?_, L4.out.bel⟩
    have hst : stepR ds wide s1 = none := by
     unfold stepR
     rw [HWL.out, HV.out]
     rfl
    have hz := HOK2.out
    rw [← HGO.out, goR_none GN.out hst] at hz
    rw [← hz]
    exact L4.out.none'
   | true =>
    obtain ⟨⟨p0, p1, p2, p3, p4, p5, p6⟩, -⟩ := HCT.out w4 hb4
    simp only [Tg.hd] at p0 p1 p2 p3 p4 p5 p6
    have hkk : kidsR wide.length s1.ks = true := by
     have h := HV.out
     simp only [Bool.and_eq_true] at h
     rw [HWL.out]; exact h.1.1
    have hvv : s1.op = 1 → 0 ≤ s1.vr ∧ s1.vr ≤ (ds.length : Int) - 1 := by
     have h := HV.out
     simp only [Bool.and_eq_true] at h
     exact manyR_var h.2
    have HWI := kide (l3Wide_any a c ds s1 wa ka ya wc kc yc wide w4 (HR.out.later L4.out.bel) (PR.out w4 hb4) (PI.out w4 hb4) (HYR.out.later hb4) HWD.out hkk hvv P64.out.2.2.1 P64.out.2.2.2.1)
    have PR4 := kide (fun u (hu : Below w4.heap.size w4 u) => (PI.out w4 hb4).later hu)
    have HCT4 := kide (fun u (hu : Below w4.heap.size w4 u) => (HCT.out w4 hb4).later hu)
    clear hb4 HFM hkk hvv HCT PR PI HYR
    generalize hX : wideR ds s1 (sumR wide s1.ks 0) = X at *
    have HX := kide hX
    clear hX
    go_wp2_with fail
    refine Calls.mono HWI.out ?_
    rintro e w5 ⟨rfl, hb5⟩
    have L5 := kide (L4.out.later hb5)
    have O5 := kide (O4.out.later hb5)
    have cb5 := L5.out.cell
    have HCT5 := kide (HCT4.out w5 hb5)
    have PI5 := kide (PR4.out w5 hb5)
    clear hb5 HWI cb4 L4 O4 HCT4 PR4
    have HLI := kide (fun u => l1In_any X 1 4096 u)
    by_cases hX1 : 1 ≤ X ∧ X ≤ 4096
    ·rw [decide_eq_true hX1] at HLI
     have hst : stepR ds wide s1 = some X := by
      unfold stepR
      rw [HWL.out, HV.out, HX.out, if_pos rfl, if_pos hX1]
     have HST := kide hst
     have HX1 := kide hX1
     have hz5 : w1.heap.size ≤ w5.heap.size := by have := L5.out.lt; omega
     have hwl2 : wide.length ≤ 1073741824 := by have := HWL.out; omega
     clear hst hX1
     go_wp2_with (first | (go_at_call 33; refine Calls.mono (HLI.out _) ?_; rintro e w6 ⟨rfl, rfl⟩) | (at_builtin; refine wpList_appW rfl _ _ rfl w1.heap.size _ wide X rfl (World.ownsRow.alloc O5.out _) _ rfl (by simp) hwl2 (by simp; omega) ?_))
     intro v7 w7 hos hg
     have L7 := kide ((L5.out.later ((Below.refl _ _).alloc (Nat.le_refl _) (Obj.cells #[.int .i64 X] 2))).grown (World.ownsRow.alloc O5.out _) (by omega) hg)
     have O7 := kide hos
     clear hos hg L5 O5 cb5 HCT5 PI5 HLI
     have cb7 := L7.out.cell
     go_wp2_with fail
     have hkb : ∀ y ∈ s1.ks, 0 ≤ y ∧ y ≤ (k : Int) - 1 := by
      have h := HV.out
      simp only [Bool.and_eq_true] at h
      have h1 := h.1.1
      rw [kidsR, List.all_eq_true] at h1
      intro y hy
      simpa using h1 y hy
     have HKB := kide hkb
     have hks : s1.ks.length ≤ 1048576 := HC0.out.2.2.1.1
     clear hkb cb7 cb p0 p1 p2 p3 p4 p5 p6
     obtain ⟨wo, hwo⟩ : ∃ wo, wo = wr := ⟨_, rfl⟩
     subst hwo
     clear HOW HLW
     go_loopw [10] (fun i wr => ∃ t : Nat, t ≤ s1.ks.length ∧ i = .int .i64 (t : Int) ∧ OW wr w1.heap.size v7 (wide ++ [X]) ∧ Lw w (some ⟨b2, o2, none⟩) n c2 U (fun j => usedR (ns.take k) j || (s1.ks.take t).any (fun y => decide (y = (j : Int)))) wr) (fun i _ => s1.ks.length - (intOf i).toNat)
     case atStart => exact ⟨0, Nat.zero_le _, rfl, O7.out, by simpa using L7.out⟩
     case round =>
      obtain ⟨t, ht, rfl, hot, hlt2⟩ := hrel
      have HOT := kide hot
      have HLT := kide hlt2
      have cbt := hlt2.cell
      obtain ⟨⟨-, -, -, -, -, -, p6⟩, -, pi, -⟩ := HC0.out.later hlt2.bel
      simp only [Tg.hd] at p6 pi
      clear hot
      by_cases htl : t < s1.ks.length
      ·obtain ⟨-, -, h | ⟨b3, o3, rfl, hc3⟩⟩ := pi
       ·rw [h] at htl; simp at htl
       have g0 := hc3 t htl
       have hym : s1.ks.getD t 0 ∈ s1.ks := by
        have : s1.ks.getD t 0 = s1.ks[t] := by simp [List.getD, htl]
        rw [this]; exact List.getElem_mem htl
       have hyb := HKB.out _ hym
       have hgt : s1.ks[t]? = some (s1.ks.getD t 0) := by simp [List.getD, htl]
       have HGT := kide hgt
       clear hc3 hym hgt
       generalize s1.ks.getD t 0 = y at *
       obtain ⟨m, rfl⟩ : ∃ m : Nat, y = (m : Int) := ⟨y.toNat, by omega⟩
       have hm : m < n := by omega
       obtain ⟨f, hrw, hfq⟩ := hlt2.row
       have q0 := hrw.cell (i := m) hm
       have r0 := hrw.frozen m
       have HRW := kide hrw
       have j0 : (t : Int) < (s1.ks.length : Int) := by omega
       clear hrw hfq hlt2 hyb
       generalize f m = fm at q0
       go_wp2_with fail
       go_roundw
       case rel =>
        refine ⟨t + 1, by omega, by go_num, HOT.out.mark HRW.out _ _, ?_⟩
        have h := HLT.out.mark (by omega) m
        refine cast ?_ h
        congr 1
        funext j
        rw [List.take_add_one, HGT.out, List.any_append]
        by_cases e : j = m
        ·subst e; simp
        ·have e2 : ¬ ((m : Int) = (j : Int)) := by omega
         simp [e, e2]
       case measure => simp [intOf]; omega
      ·have e : t = s1.ks.length := by omega
       subst e
       clear hlt2 pi
       go_wp2_with fail
       have hzU := HLT.out.lt
       refine ⟨⟨k + 1, wide ++ [X], by omega, by go_num, HOT.out, by simp [HWL.out], ?_, ?_, ?_, by omega⟩, ?_⟩
       ·intro x hx
        rcases List.mem_append.1 hx with hx | hx
        ·exact HWD.out x hx
        ·rw [List.mem_singleton.1 hx]; exact HX1.out
       ·rw [← goR_some GN.out HST.out]; exact HGO.out
       ·have h := HLT.out
        rw [List.take_length] at h
        refine cast ?_ h
        congr 1
        funext j
        rw [List.take_add_one, GN.out]
        simp [usedR, List.any_append]
       ·simp [intOf]; omega
    ·rw [decide_eq_false hX1] at HLI
     have HX1 := kide hX1
     clear hX1
     go_wp2_with (go_at_call 33; refine Calls.mono (HLI.out _) ?_; rintro e w6 ⟨rfl, rfl⟩)
     go_ret
     refine ⟨_, rfl, ?_, L5.out.bel⟩
     have hst : stepR ds wide s1 = none := by
      unfold stepR
      rw [HWL.out, HV.out, HX.out, if_pos rfl, if_neg HX1.out]
     have hz := HOK2.out
     rw [← HGO.out, goR_none GN.out hst] at hz
     rw [← hz]
     exact L5.out.none'
  ·have e : k = n := by omega
   subst e
   have hgo2 : G = some wide := by
    have h := HGO.out
    have hl := HNL.out
    rw [List.drop_of_length_le (by omega), goR] at h
    exact h.symm
   have hL := HLW.out
   rw [List.take_of_length_le (by have := HNL.out; omega)] at hL
   have HLE := kide hL
   have hz := HOK2.out
   rw [hgo2] at hz
   simp only [] at hz
   have HZ3 := kide hz
   clear hz hgo2 hL hown hwl hwd hgo hlw
   go_wp2_with fail
   obtain ⟨wo, hwo⟩ : ∃ wo, wo = wr := ⟨_, rfl⟩
   subst hwo
   go_loopw [11] (fun i wr => ∃ t : Nat, t ≤ k - 1 ∧ i = .int .i64 (t : Int) ∧ (∀ j, j < t → usedR ns j = true) ∧ wr = wo) (fun i _ => k - (intOf i).toNat)
   case atStart => exact ⟨0, Nat.zero_le _, rfl, fun j hj => by omega, rfl⟩
   case round =>
    obtain ⟨t, ht, rfl, hall, rfl⟩ := hrel
    have HALL := kide hall
    clear hall
    by_cases htl : t + 1 < k
    ·obtain ⟨f, hrw, hfq⟩ := HLE.out.row
     have q0 := hrw.cell (i := t) (by omega)
     rw [hfq t (by omega)] at q0
     clear hrw hfq
     cases hu : usedR ns t with
     | true =>
      rw [hu] at q0
      have HU := kide hu
      clear hu
      have i1 : (t : Int) + 1 < (k : Int) := by omega
      go_wp2_with fail
      go_roundw
      case rel =>
       refine ⟨t + 1, by omega, by go_num, fun j hj => ?_, by first | rfl | trivial⟩
       by_cases e : j = t
       ·rw [e]; exact HU.out
       ·exact HALL.out j (by omega)
      case measure => simp [intOf]; omega
     | false =>
      rw [hu] at q0
      have HU := kide hu
      clear hu
      have i1 : (t : Int) + 1 < (k : Int) := by omega
      go_wp2_with fail
      go_ret
      refine ⟨_, rfl, ?_, HLE.out.bel⟩
      have h := HZ3.out
      rw [if_neg (by
       intro hh
       rw [List.all_eq_true] at hh
       have := hh t (by rw [List.mem_range]; omega)
       rw [HU.out] at this
       cases this)] at h
      rw [← h]
      exact HLE.out.none'
    ·have i1 : ¬ (t : Int) + 1 < (k : Int) := by omega
     have hte : t = k - 1 := by omega
     have HTE := kide hte
     clear htl hte
     go_wp2_with fail
     go_ret
     refine ⟨_, rfl, ?_, HLE.out.bel⟩
     have h := HZ3.out
     rw [if_pos (by
      rw [List.all_eq_true]
      intro j hj
      rw [List.mem_range] at hj
      exact HALL.out j (by have := HTE.out; omega))] at h
     rw [← h]
     exact HOW.out.mono (by omega)

end Go.Proofs.Ytffcklobignlfaa
