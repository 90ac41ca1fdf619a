/- Roots: the program's and the specification's. -/
import Derived.Test.YtakicdlfolhhcaaGL
namespace Go.Proofs.Ytakicdlfolhhcaa
set_option linter.unusedVariables false
set_option linter.unusedSimpArgs false
open Go.RowKit

def rootR (z : Int) (ls : List Lk) (x : Int) : Int := match forR z ls with
  | none => -1
  | some L => if 0 ≤ x ∧ x < z then (L x.toNat : Int) else -1

set_option maxHeartbeats 1000000 in
set_option maxRecDepth 100000 in
theorem implRoot_any (z : Int) (a : Option Addr) (n c : Nat) (ls : List Lk) (x : Int) (w : World) (hr : RdK w a ls) (hn : ls.length = n) :
    Calls Try.prog 17 #[.agg #[.int .i64 z, .slice a n c], .int .i64 x] w fun e w' => e = .returned (.int .i64 (rootR z ls x)) ∧ Below w.heap.size w w' := by
  have s0 := St.start w (.cells #[.int .i64 z, .slice a n c] 29)
  have HC := kide (groveOf_any z a n c ls _ (hr.later s0.below) hn)
  have S0 := kide s0
  obtain ⟨V0, hV0⟩ : ∃ V0, rootR z ls x = V0 := ⟨_, rfl⟩
  rw [hV0]
  have HV0 := kide hV0
  clear hr hn s0 hV0
  go_enter Try.func17, Try.ntmps17
  go_wp2_with fail
  refine Calls.mono HC.out ?_
  rintro e w1 ⟨hb, ⟨hf, rfl⟩ | ⟨L, G, s, rt, dp, M, hf, rfl, hg, hnl, huf, hps, -⟩⟩
  · have B1 := kide (S0.out.below.trans (hb.mono S0.out.below.size))
    have hres : V0 = -1 := by rw [← HV0.out, rootR, hf]
    subst hres
    clear hb hf HV0
    go_wp2_with fail
    go_ret
    exact ⟨rfl, B1.out⟩
  · have B1 := kide (S0.out.below.trans (hb.mono S0.out.below.size))
    have HF := kide hf
    have HG := kide hg
    have HNL := kide hnl
    have HUF := kide huf
    have hz1 := (forR_len hf).1
    have hl : s.ps.length ≤ 1000 := by omega
    have HPS := kide hps
    have HH := kide (has_any hg hnl.k hl x)
    rw [hps] at HH
    unfold pt at HH
    unfold pt
    clear hb hf hg hnl huf hps
    by_cases hx : 0 ≤ x ∧ x < z
    · rw [decide_eq_true hx] at HH
      obtain ⟨na, rfl⟩ : ∃ m : Nat, x = (m : Int) := ⟨x.toNat, by omega⟩
      have hna : na < s.ps.length := by have := HPS.out; omega
      obtain ⟨pA, hpA⟩ : ∃ p, s.ps[na]? = some p := ⟨_, List.getElem?_eq_getElem hna⟩
      obtain ⟨kb, N, kcap, hN, hks⟩ : ∃ kb N kcap, N = s.ps.length ∧ s.kc = .slice (some ⟨kb, 0, none⟩) N kcap := by
        rw [HNL.out.k]
        rcases HG.out.kr.2 with ⟨-, h0⟩ | ⟨g, cap, cur, h0, -⟩
        · omega
        · exact ⟨g, _, cap, rfl, h0⟩
      have e3 := (HG.out.k0).trans (congrArg some hks)
      have e4 := HG.out.kcell HNL.out.k hks hpA
      have hrl := (HUF.out.rlt na hna).1
      obtain ⟨pR, hpR⟩ : ∃ p, s.ps[rt na]? = some p := ⟨_, List.getElem?_eq_getElem hrl⟩
      obtain ⟨-, -, -, -, e5⟩ := HG.out.get hpR
      have hle := HUF.out.lst na hna
      rw [hle] at e5
      have HHD := kide (head_any HG.out HUF.out na pA hpA)
      have hgd : s.ps.getD (rt na) 0 = pR := by rw [List.getD, hpR]; rfl
      rw [hgd] at HHD
      unfold pt at HHD e4
      have i0 : (na : Int) < (N : Int) := by omega
      have hres : (L na : Int) = V0 := by
        rw [← HV0.out, rootR, HF.out]
        simp only []
        rw [if_pos hx]
        simp
      rw [hres] at e5
      clear HV0
      clear hpA hks hpR hgd hle hrl hres
      go_wp2_with (first | (go_at_call 46; refine Calls.mono HH.out ?_; rintro e w2 ⟨rfl, hw2⟩; obtain rfl := hw2.symm) | (go_at_call 47; refine Calls.mono HHD.out ?_; rintro e w2 ⟨rfl, hw2⟩; obtain rfl := hw2.symm))
      go_ret
      exact ⟨rfl, B1.out⟩
    · rw [decide_eq_false hx] at HH
      have hres : V0 = -1 := by
        rw [← HV0.out, rootR, HF.out]
        simp only []
        rw [if_neg hx]
      subst hres
      clear HV0
      go_wp2_with (go_at_call 46; refine Calls.mono HH.out ?_; rintro e w2 ⟨rfl, hw2⟩; obtain rfl := hw2.symm)
      go_ret
      exact ⟨rfl, B1.out⟩

theorem l7Node_any (z x : Int) (a : Option Addr) (n c : Nat) (w : World) (hz : 0 ≤ z ∧ z ≤ 1000) :
    Calls Try.prog 45 #[.agg #[.int .i64 z, .slice a n c], .int .i64 x] w fun e w' => e = .returned (.bool (decide (0 ≤ x ∧ x ≤ z - 1))) ∧ Below w.heap.size w w' := by
  have s0 := St.start w (.cells #[.int .i64 z, .slice a n c] 29)
  have S0 := kide s0
  have HI := kide (fun u => l1In_any x 0 (z - 1) u)
  obtain ⟨V, hV⟩ : ∃ V, decide (0 ≤ x ∧ x ≤ z - 1) = V := ⟨_, rfl⟩
  simp only [hV] at HI ⊢
  clear s0 hV
  go_enter Try.func45, Try.ntmps45
  go_wp2_with fail
  refine Calls.mono (HI.out _) ?_
  rintro e w1 ⟨rfl, rfl⟩
  go_wp2_with fail
  go_ret
  exact ⟨rfl, S0.out.below⟩

set_option maxHeartbeats 1000000 in
set_option maxRecDepth 100000 in
theorem specRoot_any (z : Int) (a : Option Addr) (n c : Nat) (ls : List Lk) (x : Int) (w : World) (hr : RdK w a ls) (hn : ls.length = n) :
    Calls Try.prog 16 #[.agg #[.int .i64 z, .slice a n c], .int .i64 x] w fun e w' => e = .returned (.int .i64 (rootR z ls x)) ∧ Below w.heap.size w w' := by
  have s0 := St.start w (.cells #[.int .i64 z, .slice a n c] 29)
  have HC := kide (specForest_any z a n c ls _ (hr.later s0.below) hn)
  have HNO := kide (fun u (hz : 0 ≤ z ∧ z ≤ 1000) => l7Node_any z x a n c u hz)
  have HLE := kide (fun u (N : Nat) (L : Nat → Nat) (hu : Below w.heap.size w u) (hN : N ≤ 1000) (hL : goF N id ls = some L) => l7Least_any N n c a ls L u (hr.later hu) hn hN hL)
  obtain ⟨V0, hV0⟩ : ∃ V0, rootR z ls x = V0 := ⟨_, rfl⟩
  rw [hV0]
  have HV0 := kide hV0
  have S0 := kide s0
  clear hr hn s0 hV0
  cases hf : forR z ls with
  | none =>
    have hres : V0 = -1 := by rw [← HV0.out, rootR, hf]
    subst hres
    rw [hf] at HC
    simp only [Option.isSome_none] at HC
    clear HV0
    go_enter Try.func16, Try.ntmps16
    go_wp2_with (go_at_call 12; refine Calls.mono HC.out ?_; rintro e w1 ⟨rfl, hb1⟩; have s1 := kide (S0.out.next hb1); clear hb1)
    go_ret
    exact ⟨rfl, s1.out.below⟩
  | some L =>
    rw [hf] at HC
    simp only [Option.isSome_some] at HC
    have hz := (forR_len hf).1
    have HN2 := kide (fun u => HNO.out u hz)
    obtain ⟨N, rfl⟩ : ∃ N : Nat, z = (N : Int) := ⟨z.toNat, by omega⟩
    have hgo : goF N id ls = some L := by
      unfold forR at hf
      rw [if_pos hz, Int.toNat_natCast] at hf
      exact hf
    have HL2 := kide (fun u (hu : Below w.heap.size w u) => HLE.out u N L hu (by omega) hgo)
    have HGO := kide hgo
    clear HNO HLE hgo
    by_cases hx : 0 ≤ x ∧ x ≤ (N : Int) - 1
    · simp only [decide_eq_true hx] at HN2
      obtain ⟨na, rfl⟩ : ∃ m : Nat, x = (m : Int) := ⟨x.toNat, by omega⟩
      have hna : na < N := by omega
      have i0 : (na : Int) < (N : Int) := by omega
      have hres : (L na : Int) = V0 := by
        rw [← HV0.out, rootR, hf]
        simp only []
        rw [if_pos ⟨by omega, by omega⟩]
        simp
      clear hf HV0
      have HRS := kide hres
      clear hres
      go_enter Try.func16, Try.ntmps16
      go_wp2_with (first
        | (go_at_call 12; refine Calls.mono HC.out ?_; rintro e w1 ⟨rfl, hb1⟩; have s1 := kide (S0.out.next hb1); have q0 := s1.out.cell 0; have q1 := s1.out.cell 1; simp at q0 q1; clear hb1)
        | (go_at_call 45; refine Calls.mono (HN2.out _) ?_; rintro e w2 ⟨rfl, hb2⟩; have s2 := kide (s1.out.next hb2); have r0 := s2.out.cell 0; have r1 := s2.out.cell 1; simp at r0 r1; clear hb2))
      refine Calls.mono (HL2.out _ s2.out.below) ?_
      rintro e w3 ⟨v3, rfl, ho3, hb3⟩
      have B3 := kide (s2.out.below.trans (hb3.mono s2.out.below.size))
      obtain ⟨g, cap, rfl⟩ : ∃ g cap, v3 = .slice (some ⟨g, 0, none⟩) N cap := by
        rcases ho3.2 with ⟨-, h0⟩ | ⟨g, cap, cur, h0, -⟩
        · rw [lv_len] at h0; omega
        · rw [lv_len] at h0; exact ⟨g, cap, h0⟩
      obtain ⟨e4, -⟩ := ho3.cell (lv_get (L := L) hna)
      rw [HRS.out] at e4
      clear ho3 hb3
      go_wp2_with fail
      go_ret
      exact ⟨rfl, B3.out⟩
    · simp only [decide_eq_false hx] at HN2
      have hres : V0 = -1 := by
        rw [← HV0.out, rootR, hf]
        simp only []
        rw [if_neg (by omega)]
      subst hres
      clear hf HV0
      go_enter Try.func16, Try.ntmps16
      go_wp2_with (first
        | (go_at_call 12; refine Calls.mono HC.out ?_; rintro e w1 ⟨rfl, hb1⟩; have s1 := kide (S0.out.next hb1); have q0 := s1.out.cell 0; have q1 := s1.out.cell 1; simp at q0 q1; clear hb1)
        | (go_at_call 45; refine Calls.mono (HN2.out _) ?_; rintro e w2 ⟨rfl, hb2⟩; have s2 := kide (s1.out.next hb2); clear hb2))
      go_ret
      exact ⟨rfl, s2.out.below⟩

end Go.Proofs.Ytakicdlfolhhcaa
