/- What both Meets answer. -/
import Derived.Test.YtpajfeboaeoclaaCO
import Derived.Test.YtpajfeboaeoclaaCP
import Derived.Test.YtpajfeboaeoclaaKE
namespace Go.Proofs.Ytpajfeboaeoclaa
set_option linter.unusedVariables false
set_option linter.unusedSimpArgs false
open Go.RowKit

/-- Is a number so by flags? -/
def soR (on : List Bool) (n : Int) : Bool := on.getD (absI n - 1).toNat false == decide (0 < n)
def meetR (S : Int) (cs : List (List Int)) (on : List Bool) : Bool := cnfR S cs && decide ((on.length : Int) = S) && cs.all fun c => c.any (soR on)

theorem clR_in {S : Int} {l : Int} {ks : List Int} (h : clR S l ks = true) : ∀ n ∈ ks, numR S n = true := by
  induction ks generalizing l with
  | nil => simp
  | cons k t ih =>
    rw [clR] at h
    simp only [Bool.and_eq_true] at h
    intro n hn
    rcases List.mem_cons.1 hn with rfl | hn
    · exact h.1.1
    · exact ih h.2 n hn
theorem cnfR_in {S : Int} {cs : List (List Int)} (h : cnfR S cs = true) : (0 ≤ S ∧ S ≤ 400) ∧ cs.length ≤ 4000 ∧ ∀ c ∈ cs, c.length ≤ 400 ∧ ∀ n ∈ c, n ≠ 0 ∧ -S ≤ n ∧ n ≤ S := by
  unfold cnfR at h
  simp only [Bool.and_eq_true, decide_eq_true_eq, List.all_eq_true] at h
  refine ⟨h.1.1, h.1.2, fun c hc => ?_⟩
  have h2 := h.2 c hc
  unfold claR at h2
  simp only [Bool.and_eq_true, decide_eq_true_eq] at h2
  refine ⟨h2.1, fun n hn => ?_⟩
  have h3 := clR_in h2.2 n hn
  simp [numR] at h3
  exact ⟨h3.1, h3.2.1, h3.2.2⟩

theorem soR_place {S n : Int} (hn : n ≠ 0 ∧ -S ≤ n ∧ n ≤ S) : ∃ j : Nat, absI n = (j : Int) + 1 ∧ (j : Int) < S ∧ (absI n - 1).toNat = j := by
  refine ⟨(absI n - 1).toNat, ?_, ?_, rfl⟩ <;> rw [absI_def] <;> split <;> omega

set_option maxHeartbeats 1000000 in
theorem specMeets_any (S : Int) (a b : Option Addr) (c n c2 m : Nat) (xs : List Iw) (on : List Bool) (w : World) (hs : RdII w a xs) (hn : xs.length = n) (ho : RdFl w b on) (hm : on.length = m) :
    Calls Try.prog 11 #[.agg #[.int .i64 S, .slice a n c], .slice b m c2] w fun e w' => e = .returned (.bool (meetR S (xs.map Iw.ks) on)) ∧ Below w.heap.size w w' := by
  have hl1 := hs.1
  rw [hn] at hl1
  have hl2 := ho.1
  rw [hm] at hl2
  have s0 := St.start w (.cells #[.int .i64 S, .slice a n c] 27)
  have HSP := kide (specCnf_any S a c n xs _ (hs.later s0.below) hn)
  cases hcn : cnfR S (xs.map Iw.ks) with
  | false =>
    have HV : Hid (meetR S (xs.map Iw.ks) on = false) := by show _ = _; simp [meetR, hcn]
    rw [hcn] at HSP
    clear hcn hs ho hn hm
    go_enter Try.func11, Try.ntmps11
    go_wp2_with fail
    refine Calls.mono HSP.out ?_
    rintro e w1 ⟨rfl, hb1⟩
    go_wp2_with fail
    go_ret
    exact ⟨ret_bool HV.out.symm, (s0.next hb1).below⟩
  | true =>
    rw [hcn] at HSP
    by_cases hmS : (m : Int) = S
    · have hV : meetR S (xs.map Iw.ks) on = (xs.map Iw.ks).all fun c => c.any (soR on) := by simp [meetR, hcn, hm, hmS]
      rw [hV]
      generalize hzz : (xs.map Iw.ks).all (fun c => c.any (soR on)) = Z
      have HZ := kide hzz
      have HCN := kide (cnfR_in hcn)
      have HN := kide hn
      have HM := kide hm
      have HS := kide hs
      have HO := kide ho
      have hne : ((m : Int) != S) = false := by simp [hmS]
      have HMS := kide hmS
      clear hzz hV hcn hs ho hn hm hmS
      go_enter Try.func11, Try.ntmps11
      go_wp2_with fail
      refine Calls.mono HSP.out ?_
      rintro e w1 ⟨rfl, hb1⟩
      have s1 := s0.next hb1
      obtain ⟨k0, k1⟩ := s1.two
      clear hb1 s0 HSP
      go_wp2_with fail
      clear hne
      have S1 := kide s1
      clear k0 k1 s1
      go_loopw [5] (fun i wr => ∃ k : Nat, k ≤ n ∧ i = .int .i64 (k : Int) ∧ ((xs.map Iw.ks).drop k).all (fun c => c.any (soR on)) = Z ∧ Below w1.heap.size w1 wr) (fun i _ => n - (intOf i).toNat)
      case atStart => exact ⟨0, Nat.zero_le _, rfl, by simpa using HZ.out, Below.refl _ _⟩
      case round =>
        obtain ⟨k, hk, rfl, hz, hbel⟩ := hrel
        have HBK := kide hbel
        obtain ⟨d0, d1⟩ := (S1.out.next hbel).two
        by_cases hlt : k < n
        · obtain ⟨-, h | ⟨b2, o2, rfl, hc2⟩⟩ := HS.out.later S1.out.below
          · have := HN.out; subst h; simp at this; omega
          obtain ⟨⟨a1, cc1, k1⟩, gx⟩ : ∃ x, xs[k]? = some x := ⟨xs[k]'(by rw [HN.out]; exact hlt), List.getElem?_eq_getElem _⟩
          have HP1 := kide (hc2 k _ gx)
          obtain ⟨f1, f2⟩ := (hc2 k _ gx).later hbel
          simp only [] at f1 f2
          have gy : (xs.map Iw.ks)[k]? = some k1 := by rw [List.getElem?_map, gx]; rfl
          rw [all_step (x := k1) gy] at hz
          have HK := kide (HCN.out.2.2 k1 (List.mem_of_getElem? gy)).2
          have i0 : (k : Int) < (n : Int) := by omega
          have hkl := f2.1
          generalize hg : ((xs.map Iw.ks).drop (k + 1)).all (fun c => c.any (soR on)) = Z2 at *
          generalize hp : k1.any (soR on) = P at *
          have HG := kide hg
          have HPP := kide hp
          have HRZ := kide hz
          clear hc2 gx hg hbel f2 gy hz hp
          go_wp2_with fail
          clear d0 d1 f1
          obtain ⟨wo, hwo⟩ : ∃ wo, wo = wr := ⟨_, rfl⟩
          subst hwo
          go_loopw [6, 7] (fun l i wr => ∃ (j : Nat) (B : Bool), j ≤ k1.length ∧ i = .int .i64 (j : Int) ∧ l = .bool B ∧ (B || (k1.drop j).any (soR on)) = P ∧ Below w1.heap.size w1 wr) (fun _ i _ => k1.length - (intOf i).toNat)
          case atStart => exact ⟨0, false, Nat.zero_le _, rfl, rfl, by simpa using HPP.out, HBK.out⟩
          case round =>
            obtain ⟨j, B, hj, rfl, rfl, hz, hbel⟩ := hrel
            have HB := kide hbel
            obtain ⟨d0, d1⟩ := (S1.out.next hbel).two
            obtain ⟨p1, p2⟩ := HP1.out.later hbel
            simp only [] at p1 p2
            by_cases hjl : j < k1.length
            · obtain ⟨-, hi64, h | ⟨b3, o3, rfl, hc3⟩⟩ := p2
              · subst h; simp at hjl
              have e3 := hc3 j hjl
              have gk : k1[j]? = some (k1.getD j 0) := by simp [List.getD, hjl]
              rw [any_step gk] at hz
              have hin := HK.out _ (List.mem_of_getElem? gk)
              generalize k1.getD j 0 = x at *
              have j0 : (j : Int) < (k1.length : Int) := by omega
              have hS4 := HCN.out.1
              obtain ⟨q, hq1, hq2, hq3⟩ := soR_place hin
              have HA := kide (fun u => l18Abs_any x (by omega) u)
              rw [hq1] at HA
              have hqm : q < m := by have := HMS.out; omega
              obtain ⟨-, h | ⟨b4, o4, rfl, hc4⟩⟩ := HO.out.later ((S1.out.next hbel).below)
              · have := HM.out; subst h; simp at this; omega
              have e4 := hc4 q (by rw [HM.out]; exact hqm)
              have hso : soR on x = (on.getD q false == decide (0 < x)) := by unfold soR; rw [hq3]
              rw [hso] at hz
              generalize on.getD q false = y at *
              have HZJ := kide hz
              have hw1 : IntKind.i64.wrap (q : Int) = (q : Int) := by rw [IntKind.wrap_i64]; omega
              have hqi : (q : Int) < (m : Int) := by omega
              clear hc3 hc4 hi64 hz hbel gk hq1 hq3 hin hso hS4
              cases B with
              | true =>
                have HPT : Hid (P = true) := by have h := HZJ.out; rw [Bool.true_or] at h; exact h.symm
                go_wp2_with fail
                go_roundw
                case rel => exact ⟨j + 1, true, by omega, by go_num, rfl, by rw [HPT.out]; rfl, HB.out⟩
                case measure => simp [intOf]; omega
              | false =>
                go_wp2_with fail
                refine Calls.mono (HA.out _) ?_
                rintro e wr ⟨rfl, rfl⟩
                go_wp2_with fail
                go_roundw
                case rel => exact ⟨j + 1, y == decide (0 < x), by omega, by go_num, rfl, by have h := HZJ.out; simpa using h, HB.out⟩
                case measure => simp [intOf]; omega
            · have e : (k1.drop j).any (soR on) = false := by rw [List.drop_eq_nil_of_le (by omega)]; rfl
              rw [e, Bool.or_false] at hz
              subst hz
              clear e hbel p2
              cases B with
              | true =>
                have HZ1 : Hid (Z2 = Z) := by have h := HRZ.out; rw [Bool.true_and] at h; exact h
                go_wp2_with fail
                go_roundw
                case rel => exact ⟨k + 1, by omega, by go_num, HG.out.trans HZ1.out, HB.out⟩
                case measure => simp [intOf]; omega
              | false =>
                have HZ1 : Hid (Z = false) := by have h := HRZ.out; rw [Bool.false_and] at h; exact h.symm
                go_wp2_with fail
                go_ret
                exact ⟨ret_bool HZ1.out.symm, (S1.out.next HB.out).below⟩
        · have HZ1 : Hid (Z = true) := by
            show _ = _
            rw [← hz, List.drop_eq_nil_of_le (by rw [List.length_map, HN.out]; omega)]
            rfl
          clear hz hbel
          go_wp2_with fail
          go_ret
          exact ⟨ret_bool HZ1.out.symm, (S1.out.next HBK.out).below⟩
    · have HV : Hid (meetR S (xs.map Iw.ks) on = false) := by show _ = _; simp [meetR, hm, hmS]
      have hne : ((m : Int) != S) = true := by simp [hmS]
      clear hcn hs ho hn hm hmS
      go_enter Try.func11, Try.ntmps11
      go_wp2_with fail
      refine Calls.mono HSP.out ?_
      rintro e w1 ⟨rfl, hb1⟩
      have s1 := s0.next hb1
      obtain ⟨k0, k1⟩ := s1.two
      clear hb1
      go_wp2_with fail
      go_ret
      exact ⟨ret_bool HV.out.symm, s1.below⟩

end Go.Proofs.Ytpajfeboaeoclaa
