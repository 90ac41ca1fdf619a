/- What the given FlatOk answers. -/
import Derived.Test.YtpmpipcpifmncaaMD
namespace Go.Proofs.Ytpmpipcpifmncaa
set_option linter.unusedVariables false
set_option linter.unusedSimpArgs false
open Go.RowKit

theorem l3NoBits_any (bw : Int) (a : Option Addr) (n c : Nat) (w : World) (hn : n ≤ 1048576) :
    Calls Try.prog 86 #[.agg #[.int .i64 bw, .slice a n c]] w fun e w' => e = .returned (.bool (decide (bw = 0) && decide (n = 0))) ∧ Below w.heap.size w w' := by
  have hb0 : Below w.heap.size w (w.alloc (Obj.cells #[Value.int .i64 bw, Value.slice a n c] 30)) := (Below.refl _ _).alloc (Nat.le_refl _) _
  have B0 := kide hb0
  clear hb0
  by_cases h : bw = 0
  · subst h
    go_enter Try.func86, Try.ntmps86
    go_wp2_with fail
    go_ret
    exact ⟨ret_bool (by rw [Bool.eq_iff_iff]; simp), B0.out⟩
  · have e1 : (bw == 0) = false := by simp [h]
    have hR : (decide (bw = 0) && decide (n = 0)) = false := by simp [h]
    rw [hR]
    clear hR h
    go_enter Try.func86, Try.ntmps86
    go_wp2_with fail
    go_ret
    exact ⟨rfl, B0.out⟩

set_option maxHeartbeats 1000000 in
theorem l5Seg_any (s : Sc) (a da : Option Addr) (c dc : Nat) (ds : List Dc) (w : World) (hr : Rd w a s.ws) (hd : RdD w da ds) (hD : dclR ds = true) :
    Calls Try.prog 71 #[.slice da ds.length dc, .agg #[.int .i64 s.v, .int .i64 s.lo, .int .i64 s.wd, .int .i64 s.bw, .slice a s.ws.length c]] w fun e w' => e = .returned (.bool (sgOk ds s)) ∧ Below w.heap.size w w' := by
  have hb0 : Below w.heap.size w (w.alloc (Obj.cells #[Value.int .i64 s.v, Value.int .i64 s.lo, Value.int .i64 s.wd, Value.int .i64 s.bw, Value.slice a s.ws.length c] 80)) := (Below.refl _ _).alloc (Nat.le_refl _) _
  have hl1 := hd.1
  have hl2 := hr.1
  by_cases hv : s.v = -1
  · rw [sgOk_const hv]
    have HOK := kide (fun u (hu : Below w.heap.size w u) => specOk_any s.bw a c s.ws u (hr.later hu))
    obtain ⟨v, lo, wd, bw, ws⟩ := s
    simp only [] at hv hb0 HOK hl2 ⊢
    subst hv
    have B0 := kide hb0
    clear hr hd hb0
    by_cases h1 : lo = 0
    · subst h1
      generalize rightB bw ws = r at *
      cases r with
      | true =>
        go_enter Try.func71, Try.ntmps71
        go_wp2_with fail
        refine Calls.mono (HOK.out _ B0.out) ?_
        rintro e w1 ⟨rfl, hb1⟩
        have k3 := kcell hb1 w.heap.size 3 (by simp)
        have k2 := kcell hb1 w.heap.size 2 (by simp)
        have B1 := kide (B0.out.trans (hb1.mono B0.out.size))
        simp at k2 k3
        clear hb1
        go_wp2_with fail
        go_ret
        exact ⟨ret_bool (by rw [Bool.eq_iff_iff]; simp; exact eq_comm), B1.out⟩
      | false =>
        go_enter Try.func71, Try.ntmps71
        go_wp2_with fail
        refine Calls.mono (HOK.out _ B0.out) ?_
        rintro e w1 ⟨rfl, hb1⟩
        go_wp2_with fail
        go_ret
        exact ⟨ret_bool (by simp), B0.out.trans (hb1.mono B0.out.size)⟩
    · have hww : (lo == 0) = false := by simp [h1]
      have hR : (decide (lo = 0) && decide (wd = bw) && rightB bw ws) = false := by simp [h1]
      rw [hR]
      clear hR h1
      go_enter Try.func71, Try.ntmps71
      go_wp2_with fail
      go_ret
      exact ⟨rfl, B0.out⟩
  · have HNB := kide (fun u => l3NoBits_any s.bw a s.ws.length c u hl2)
    have HI0 := kide (fun u => l1In_any s.v 0 ((ds.length : Int) - 1) u)
    by_cases hin : 0 ≤ s.v ∧ s.v ≤ (ds.length : Int) - 1
    · rw [decide_eq_true hin] at HI0
      by_cases hbn : s.bw = 0 ∧ s.ws.length = 0
      · obtain ⟨k, hk⟩ : ∃ k : Nat, s.v = (k : Int) := ⟨s.v.toNat, by omega⟩
        have hkl : k < ds.length := by omega
        obtain ⟨⟨t, y⟩, gd⟩ : ∃ d, ds[k]? = some d := ⟨ds[k], List.getElem?_eq_getElem hkl⟩
        rw [sgOk_in hk gd hbn.1 hbn.2]
        obtain ⟨hy1, hy2⟩ := dclR_wd hD gd
        obtain ⟨-, -, h | ⟨b1, o1, rfl, hc1⟩⟩ := hd
        · subst h; simp at hkl
        obtain ⟨-, q1⟩ := hc1 k _ gd
        have lb1 : b1 < w.heap.size := block_lt_of_cell q1
        have hnb : (decide (s.bw = 0) && decide (s.ws.length = 0)) = true := by simp [hbn.1]; exact List.eq_nil_of_length_eq_zero hbn.2
        rw [hnb] at HNB
        obtain ⟨v, lo, wd, bw, ws⟩ := s
        simp only [] at hv hb0 hl2 hk hy1 hy2 q1 HNB HI0 ⊢
        subst hk
        have B0 := kide hb0
        have hvv : ((k : Int) == -1) = false := by simp
        have hki : (k : Int) < (ds.length : Int) := by omega
        have HL := kide (fun u => l1In_any lo 0 (y - 1) u)
        clear hr hb0 hv hc1 gd hD hnb hin hbn
        by_cases hlo : 0 ≤ lo ∧ lo ≤ y - 1
        · have HWD := kide (fun u => l1In_any wd 1 (y - lo) u)
          rw [decide_eq_true hlo] at HL
          have hR : (decide (1 ≤ wd) && decide (0 ≤ lo) && decide (lo + wd ≤ y)) = decide (1 ≤ wd ∧ wd ≤ y - lo) := by rw [Bool.eq_iff_iff]; simp; omega
          rw [hR]
          obtain ⟨hlo1, hlo2⟩ := hlo
          clear hR
          generalize decide (1 ≤ wd ∧ wd ≤ y - lo) = r at *
          go_enter Try.func71, Try.ntmps71
          go_wp2_with fail
          refine Calls.mono (HI0.out _) ?_
          rintro e wx ⟨rfl, rfl⟩
          go_wp2_with fail
          refine Calls.mono (HNB.out _) ?_
          rintro e w1 ⟨rfl, hb1⟩
          have k0 := kcell hb1 w.heap.size 0 (by simp)
          have k1 := kcell hb1 w.heap.size 1 (by simp)
          have k2 := kcell hb1 w.heap.size 2 (by simp)
          have k5 := (kcell hb1 b1 (o1 + k * 2 + 1) (by simp; omega)).trans ((kcell B0.out b1 (o1 + k * 2 + 1) lb1).trans q1)
          have B1 := kide (B0.out.trans (hb1.mono B0.out.size))
          simp at k0 k1 k2
          clear hb1 q1
          go_wp2_with fail
          refine Calls.mono (HL.out _) ?_
          rintro e wx ⟨rfl, rfl⟩
          go_wp2_with fail
          refine Calls.mono (HWD.out _) ?_
          rintro e wx ⟨rfl, rfl⟩
          go_wp2_with fail
          go_ret
          exact ⟨rfl, B1.out⟩
        · rw [decide_eq_false hlo] at HL
          have hR : (decide (1 ≤ wd) && decide (0 ≤ lo) && decide (lo + wd ≤ y)) = false := by simp; omega
          rw [hR]
          clear hR hlo
          go_enter Try.func71, Try.ntmps71
          go_wp2_with fail
          refine Calls.mono (HI0.out _) ?_
          rintro e wx ⟨rfl, rfl⟩
          go_wp2_with fail
          refine Calls.mono (HNB.out _) ?_
          rintro e w1 ⟨rfl, hb1⟩
          have k0 := kcell hb1 w.heap.size 0 (by simp)
          have k1 := kcell hb1 w.heap.size 1 (by simp)
          have k2 := kcell hb1 w.heap.size 2 (by simp)
          have k5 := (kcell hb1 b1 (o1 + k * 2 + 1) (by simp; omega)).trans ((kcell B0.out b1 (o1 + k * 2 + 1) lb1).trans q1)
          have B1 := kide (B0.out.trans (hb1.mono B0.out.size))
          simp at k0 k1 k2
          clear hb1 q1
          go_wp2_with fail
          refine Calls.mono (HL.out _) ?_
          rintro e wx ⟨rfl, rfl⟩
          go_wp2_with fail
          go_ret
          exact ⟨rfl, B1.out⟩
      · rw [sgOk_out hv (by
          by_cases h : s.bw = 0
          · exact .inr (.inr (.inr fun h' => hbn ⟨h, h'⟩))
          · exact .inr (.inr (.inl h)))]
        have hnb : (decide (s.bw = 0) && decide (s.ws.length = 0)) = false := by
          rw [Bool.eq_false_iff]
          intro h
          rw [Bool.and_eq_true, decide_eq_true_eq, decide_eq_true_eq] at h
          exact hbn h
        rw [hnb] at HNB
        obtain ⟨v, lo, wd, bw, ws⟩ := s
        simp only [] at hv hb0 hl2 HNB HI0 hin ⊢
        have B0 := kide hb0
        have hvv : (v == -1) = false := by simp [hv]
        clear hr hd hb0 hv hnb hbn
        go_enter Try.func71, Try.ntmps71
        go_wp2_with fail
        refine Calls.mono (HI0.out _) ?_
        rintro e wx ⟨rfl, rfl⟩
        go_wp2_with fail
        refine Calls.mono (HNB.out _) ?_
        rintro e w1 ⟨rfl, hb1⟩
        go_wp2_with fail
        go_ret
        exact ⟨rfl, B0.out.trans (hb1.mono B0.out.size)⟩
    · rw [sgOk_out hv (by omega)]
      rw [decide_eq_false hin] at HI0
      obtain ⟨v, lo, wd, bw, ws⟩ := s
      simp only [] at hv hb0 hl2 HI0 ⊢
      have B0 := kide hb0
      have hvv : (v == -1) = false := by simp [hv]
      clear hr hd hb0 hv hin
      go_enter Try.func71, Try.ntmps71
      go_wp2_with fail
      refine Calls.mono (HI0.out _) ?_
      rintro e wx ⟨rfl, rfl⟩
      go_wp2_with fail
      go_ret
      exact ⟨rfl, B0.out⟩

end Go.Proofs.Ytpmpipcpifmncaa
