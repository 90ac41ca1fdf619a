/- The program's countKids. -/
import Derived.Test.YteenmffhbgpahaaDoorQK
namespace Go.Proofs.YteenmffhbgpahaaDoor
set_option linter.unusedVariables false
set_option linter.unusedSimpArgs false
open Go.RowKit

/-- How often a place stands among kids. -/
def cntR (ks : List Int) (j : Nat) : Nat := ks.countP (fun y => decide (y = (j : Int)))

/-- A row of counts. -/
def Cn (w : World) (P N : Nat) (q : Nat → Nat) : Prop := ∃ f, w.rowIs P 2 N f ∧ ∀ j, j < N → f j = .int .i64 ((q j : Nat) : Int)

theorem Cn.later {w w' : World} {P N : Nat} {q : Nat → Nat} (h : Cn w P N q) (hb : Below w.heap.size w w') : Cn w' P N q := by
  obtain ⟨f, ⟨cc, hh, h1, h2⟩, hq⟩ := h
  exact ⟨f, World.rowIs.of_block ⟨cc, hh, h1, h2⟩ (hb.block _ (lt_of_block hh)), hq⟩

set_option maxHeartbeats 1000000 in
theorem countKids_any (P N k cp kc M : Nat) (q : Nat → Nat) (ka : Option Addr) (ks : List Int) (w : World) (hc : Cn w P N q) (hk : k ≤ N) (hN : N ≤ 1048576) (hq : ∀ j, q j ≤ M) (hM : M ≤ 1000000000000) (hr : RdI w ka ks) (hf : ∀ b o sp, ka = some ⟨b, o, sp⟩ → b ≠ P) :
    Calls Tryd.prog 57 #[.slice (some ⟨P, 0, none⟩) k cp, .slice ka ks.length kc] w fun e w' => e = .returned (.bool (kidsR k ks)) ∧ (kidsR k ks = true → Cn w' P N (fun j => q j + cntR ks j)) ∧ w.grownBy w' (some P) := by
  have hl := hr.1
  have HF := kide hf
  have HQ := kide hq
  clear hf hq
  generalize hZ : kidsR k ks = Z
  have HZ := kide hZ
  clear hZ
  go_enter Tryd.func57, Tryd.ntmps57
  go_wp2_with fail
  go_loopw [9] (fun i wr => ∃ t : Nat, t ≤ ks.length ∧ i = .int .i64 (t : Int) ∧ kidsR k (ks.take t) = true ∧ Cn wr P N (fun j => q j + cntR (ks.take t) j) ∧ w.grownBy wr (some P)) (fun i _ => ks.length - (intOf i).toNat)
  case atStart => exact ⟨0, Nat.zero_le _, rfl, by simp [kidsR], by simpa [cntR] using hc, ⟨rfl, rfl, rfl, Nat.le_refl _, fun _ _ _ => rfl⟩⟩
  case round =>
    obtain ⟨t, ht, rfl, hkr, hcn, hg⟩ := hrel
    have HKR := kide hkr
    have HCN := kide hcn
    have HG := kide hg
    clear hkr
    by_cases htl : t < ks.length
    · obtain ⟨-, -, h | ⟨b, o, rfl, hc3⟩⟩ := hr
      · subst h; simp at htl
      have hbP : b ≠ P := HF.out b o none rfl
      have g0 := hc3 t htl
      rw [← World.cell?_of_block (w := w) (w' := wr) (a := ⟨b, o + t, none⟩) (hg.block b (block_lt_of_cell g0) (fun e => hbP (by cases e; rfl)))] at g0
      have hgt : ks[t]? = some (ks.getD t 0) := by simp [List.getD, htl]
      have HGT := kide hgt
      clear hgt hc3 hg
      generalize ks.getD t 0 = y at *
      have i0 : (t : Int) < (ks.length : Int) := by omega
      by_cases hy : 0 ≤ y ∧ y ≤ (k : Int) - 1
      · obtain ⟨m, rfl⟩ : ∃ m : Nat, y = (m : Int) := ⟨y.toNat, by omega⟩
        have hm : m < k := by omega
        obtain ⟨f, hrw, hfq⟩ := hcn
        have q0 := hrw.cell (i := m) (by omega)
        have r0 := hrw.frozen m
        have q1 : wr.cell? ⟨P, m, none⟩ = some (.int .i64 ((q m + cntR (ks.take t) m : Nat) : Int)) := by rw [q0, hfq m (by omega)]
        clear q0
        have hqb : q m + cntR (ks.take t) m ≤ 2000000000000 := by
          have h1 := HQ.out m
          have h2 : cntR (ks.take t) m ≤ (ks.take t).length := List.countP_le_length
          rw [List.length_take] at h2
          omega
        have HRW := kide hrw
        have HFQ := kide hfq
        generalize hS : q m + cntR (ks.take t) m = S at *
        have HSS := kide hS
        clear hrw hfq hy hS
        go_wp2_with fail
        go_roundw
        case rel =>
          refine ⟨t + 1, by omega, by go_num, ?_, ⟨_, World.rowIs.set HRW.out m (.int .i64 ((S : Int) + 1)), fun j hj => ?_⟩, ?_⟩
          · rw [List.take_add_one, HGT.out, kidsR, List.all_append]
            have := HKR.out
            rw [kidsR] at this
            rw [this]
            simp
            omega
          · have hcj : cntR (ks.take (t + 1)) j = cntR (ks.take t) j + (if m = j then 1 else 0) := by
              unfold cntR
              rw [List.take_add_one, HGT.out, List.countP_append]
              by_cases e : m = j
              · subst e; simp
              · have e2 : ¬ ((m : Int) = (j : Int)) := by omega
                simp [e, e2]
            show (if j = m then _ else _) = Value.int .i64 ((q j + cntR (ks.take (t + 1)) j : Nat) : Int)
            rw [hcj]
            by_cases e : j = m
            · subst e
              have := HSS.out
              rw [if_pos rfl, if_pos rfl]
              congr 1
              omega
            · rw [if_neg e, if_neg (fun h => e h.symm), HFQ.out j hj]
              rfl
          · have h := HG.out
            exact ⟨h.os, h.tape, h.output, by simpa using h.size, fun x hx hne => by rw [heap_setCell_other _ _ _ _ (fun e => hne (by simp at e; rw [e]))]; exact h.block x hx hne⟩
        case measure => simp [intOf]; omega
      · have hZf : Z = false := by
          rw [← HZ.out, kidsR, List.all_eq_false]
          exact ⟨y, List.mem_of_getElem? HGT.out, by simpa using hy⟩
        subst hZf
        have hor : y < 0 ∨ (k : Int) ≤ y := by omega
        clear hy hcn
        rcases hor with hor | hor
        · go_wp2_with fail
          go_ret
          first | exact ⟨rfl, HG.out⟩ | exact ⟨rfl, (by intro h; cases h), HG.out⟩
        · have h0 : ¬ y < 0 := by omega
          go_wp2_with fail
          go_ret
          first | exact ⟨rfl, HG.out⟩ | exact ⟨rfl, (by intro h; cases h), HG.out⟩
    · have e : t = ks.length := by omega
      subst e
      have hZt : Z = true := by
        have := HKR.out
        rw [List.take_length] at this
        rw [← HZ.out]; exact this
      subst hZt
      clear hcn hg hr hc
      go_wp2_with fail
      go_ret
      have h := HCN.out
      rw [List.take_length] at h
      exact ⟨rfl, h, HG.out⟩

end Go.Proofs.YteenmffhbgpahaaDoor
