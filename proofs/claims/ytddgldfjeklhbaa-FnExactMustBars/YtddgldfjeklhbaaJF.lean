/- What the program's barOk answers. -/
import Derived.Test.YtddgldfjeklhbaaJE
namespace Go.Proofs.Ytddgldfjeklhbaa
set_option linter.unusedVariables false
set_option linter.unusedSimpArgs false
open Go.RowKit

/-- Two boxes of a call stand. -/
def Bb (w : World) (o1 o2 : Obj) (wk : World) : Prop := Below (w.heap.size + 2) ((w.alloc o1).alloc o2) wk
theorem Bb.start (w : World) (o1 o2 : Obj) : Bb w o1 o2 ((w.alloc o1).alloc o2) := Below.refl _ _
theorem Bb.size {w wk : World} {o1 o2 : Obj} (h : Bb w o1 o2 wk) : w.heap.size + 2 ≤ wk.heap.size := by have := Below.size h; simpa using this
theorem Bb.next {w wk w1 : World} {o1 o2 : Obj} (h : Bb w o1 o2 wk) (hb : Below wk.heap.size wk w1) : Bb w o1 o2 w1 := Below.trans h (hb.mono h.size)
theorem Bb.below {w wk : World} {o1 o2 : Obj} (h : Bb w o1 o2 wk) : Below w.heap.size w wk := Below.trans (Below.alloc (Below.alloc (Below.refl _ _) (Nat.le_refl _) _) (by simp) _) (Below.mono h (by omega))
theorem Bb.one {w wk : World} {cs : Array Value} {t : TypeId} {o2 : Obj} (h : Bb w (.cells cs t) o2 wk) (i : Nat) : wk.cell? ⟨w.heap.size, i, none⟩ = cs[i]? := by
  rw [Below.cell h (by simp)]; simp [go_sem]
theorem Bb.two {w wk : World} {cs : Array Value} {t : TypeId} {o1 : Obj} (h : Bb w o1 (.cells cs t) wk) (i : Nat) : wk.cell? ⟨w.heap.size + 1, i, none⟩ = cs[i]? := by
  rw [Below.cell h (by simp)]; simp [go_sem]

set_option maxHeartbeats 1000000 in
theorem barOk_any (a1 a2 : Option Addr) (c1 n2 c2 : Nat) (ks : List Int) (s : Yc) (a : Option Addr) (c : Nat) (w : World) (hk : RdI w a1 ks) (hr : Rd w a s.ws) :
    Calls Try.prog 50 #[.agg #[.slice a1 ks.length c1, .slice a2 n2 c2], .agg #[.int .i64 s.v, .int .i64 s.lo, .int .i64 s.bw, .slice a s.ws.length c]] w fun e w' => e = .returned (.bool (brOk ks s)) ∧ Below w.heap.size w w' := by
  have hl := hk.1
  have hlw := hr.1
  have HN := kide (fun (x : Int) u => isNode_any a1 a2 ks.length c1 n2 c2 x u hl)
  have HOK := kide (fun u (hu : Below w.heap.size w u) => implOk_any s.bw a c s.ws u (hr.later hu))
  have HRD := kide (fun u (hu : Below w.heap.size w u) => hk.later hu)
  obtain ⟨v, lo, bw, ws⟩ := s
  simp only [brOk] at HOK hlw hr ⊢
  have s0 := Bb.start w (.cells #[Value.slice a1 ks.length c1, Value.slice a2 n2 c2] 40) (.cells #[Value.int .i64 v, Value.int .i64 lo, Value.int .i64 bw, Value.slice a ws.length c] 54)
  clear hk hr
  have HN1 := kide (HN.out v)
  have HN2 := kide (HN.out lo)
  cases h1 : ndOk ks.length v with
  | false =>
    rw [h1] at HN1
    rw [Bool.false_and]
    clear h1
    go_enter Try.func50, Try.ntmps50
    go_wp2_with fail
    refine Calls.mono (HN1.out _) ?_
    rintro e w1 ⟨rfl, hb1⟩
    have s1 := s0.next hb1
    have g0 := s1.one 0
    have g1 := s1.one 1
    have k0 := s1.two 0
    have k1 := s1.two 1
    have k2 := s1.two 2
    have k3 := s1.two 3
    simp at g0 g1 k0 k1 k2 k3
    go_wp2_with fail
    go_ret
    exact ⟨rfl, s1.below⟩
  | true =>
    rw [h1] at HN1
    rw [Bool.true_and]
    obtain ⟨k, rfl, hk2⟩ : ∃ k : Nat, v = (k : Int) ∧ k < ks.length := ⟨v.toNat, by simp [ndOk] at h1; omega, by simp [ndOk] at h1; omega⟩
    have hki : (k : Int) < (ks.length : Int) := by omega
    rw [Int.toNat_natCast]
    obtain ⟨x, hx⟩ : ∃ x, ks.getD k 0 = x := ⟨_, rfl⟩
    rw [hx]
    have HX := kide hx
    clear h1 hx
    by_cases h2 : lo = -1
    · subst h2
      rw [if_pos rfl]
      have hm : ((-1 : Int) == -1) = true := by simp
      cases h3 : rightB bw ws with
      | false =>
        rw [h3] at HOK
        rw [Bool.false_and]
        clear h3
        go_enter Try.func50, Try.ntmps50
        go_wp2_with fail
        refine Calls.mono (HN1.out _) ?_
        rintro e w1 ⟨rfl, hb1⟩
        have s1 := s0.next hb1
        have g0 := s1.one 0
        have g1 := s1.one 1
        have k0 := s1.two 0
        have k1 := s1.two 1
        have k2 := s1.two 2
        have k3 := s1.two 3
        simp at g0 g1 k0 k1 k2 k3
        obtain ⟨-, -, h | ⟨b, o, rfl, hc⟩⟩ := HRD.out w1 s1.below
        · subst h; simp at hk2
        have q0 := hc k hk2
        rw [HX.out] at q0
        clear hc
        clear hb1 s0
        go_wp2_with fail
        refine Calls.mono (HOK.out _ s1.below) ?_
        rintro e w2 ⟨rfl, hb2⟩
        have s2 := s1.next hb2
        have i2 := s2.two 2
        simp at i2
        clear hb2 s1
        go_wp2_with fail
        go_ret
        exact ⟨rfl, s2.below⟩
      | true =>
        rw [h3] at HOK
        rw [Bool.true_and]
        clear h3
        go_enter Try.func50, Try.ntmps50
        go_wp2_with fail
        refine Calls.mono (HN1.out _) ?_
        rintro e w1 ⟨rfl, hb1⟩
        have s1 := s0.next hb1
        have g0 := s1.one 0
        have g1 := s1.one 1
        have k0 := s1.two 0
        have k1 := s1.two 1
        have k2 := s1.two 2
        have k3 := s1.two 3
        simp at g0 g1 k0 k1 k2 k3
        obtain ⟨-, -, h | ⟨b, o, rfl, hc⟩⟩ := HRD.out w1 s1.below
        · subst h; simp at hk2
        have q0 := hc k hk2
        rw [HX.out] at q0
        clear hc
        clear hb1 s0
        go_wp2_with fail
        refine Calls.mono (HOK.out _ s1.below) ?_
        rintro e w2 ⟨rfl, hb2⟩
        have s2 := s1.next hb2
        have i2 := s2.two 2
        simp at i2
        clear hb2 s1
        go_wp2_with fail
        go_ret
        exact ⟨ret_bool (by first | rfl | (by_cases hq : bw = x <;> simp [hq])), s2.below⟩
    · rw [if_neg h2]
      have hm : (lo == -1) = false := by simp [h2]
      clear h2
      cases h3 : ndOk ks.length lo with
      | false =>
        rw [h3] at HN2
        simp only [Bool.false_and]
        clear h3
        go_enter Try.func50, Try.ntmps50
        go_wp2_with fail
        refine Calls.mono (HN1.out _) ?_
        rintro e w1 ⟨rfl, hb1⟩
        have s1 := s0.next hb1
        have g0 := s1.one 0
        have g1 := s1.one 1
        have k0 := s1.two 0
        have k1 := s1.two 1
        have k2 := s1.two 2
        have k3 := s1.two 3
        simp at g0 g1 k0 k1 k2 k3
        obtain ⟨-, -, h | ⟨b, o, rfl, hc⟩⟩ := HRD.out w1 s1.below
        · subst h; simp at hk2
        have q0 := hc k hk2
        rw [HX.out] at q0
        clear hc
        clear hb1 s0
        go_wp2_with fail
        refine Calls.mono (HN2.out _) ?_
        rintro e w2 ⟨rfl, hb2⟩
        have s2 := s1.next hb2
        have f0 := s2.one 0
        have i0 := s2.two 0
        have i1 := s2.two 1
        have i2 := s2.two 2
        have i3 := s2.two 3
        simp at f0 i0 i1 i2 i3
        clear hb2 s1
        go_wp2_with fail
        go_ret
        exact ⟨rfl, s2.below⟩
      | true =>
        rw [h3] at HN2
        obtain ⟨j, rfl, hj2⟩ : ∃ j : Nat, lo = (j : Int) ∧ j < ks.length := ⟨lo.toNat, by simp [ndOk] at h3; omega, by simp [ndOk] at h3; omega⟩
        have hji : (j : Int) < (ks.length : Int) := by omega
        simp only [Bool.true_and, Int.toNat_natCast]
        obtain ⟨y, hy⟩ : ∃ y, ks.getD j 0 = y := ⟨_, rfl⟩
        simp only [hy]
        have HY := kide hy
        clear h3 hy
        by_cases h4 : (j : Int) = k
        · have hR : (decide ((j : Int) ≠ k) && decide (y = x) && decide (bw = 0) && decide (ws.length = 0)) = false := by simp [h4]
          rw [hR]
          have hne : ((j : Int) != (k : Int)) = false := by simp [h4]
          clear hR h4
          go_enter Try.func50, Try.ntmps50
          go_wp2_with fail
          refine Calls.mono (HN1.out _) ?_
          rintro e w1 ⟨rfl, hb1⟩
          have s1 := s0.next hb1
          have g0 := s1.one 0
          have g1 := s1.one 1
          have k0 := s1.two 0
          have k1 := s1.two 1
          have k2 := s1.two 2
          have k3 := s1.two 3
          simp at g0 g1 k0 k1 k2 k3
          obtain ⟨-, -, h | ⟨b, o, rfl, hc⟩⟩ := HRD.out w1 s1.below
          · subst h; simp at hk2
          have q0 := hc k hk2
          rw [HX.out] at q0
          clear hc
          clear hb1 s0
          go_wp2_with fail
          refine Calls.mono (HN2.out _) ?_
          rintro e w2 ⟨rfl, hb2⟩
          have s2 := s1.next hb2
          have f0 := s2.one 0
          have i0 := s2.two 0
          have i1 := s2.two 1
          have i2 := s2.two 2
          have i3 := s2.two 3
          simp at f0 i0 i1 i2 i3
          clear hb2 s1
          go_wp2_with fail
          go_ret
          exact ⟨rfl, s2.below⟩
        · have hne : ((j : Int) != (k : Int)) = true := by simp; omega
          have hd : decide ((j : Int) ≠ k) = true := by simp; omega
          rw [hd, Bool.true_and]
          clear hd h4
          have hC : ∃ E F G : Bool, E = (y == x) ∧ F = (bw == 0) ∧ G = ((ws.length : Int) == 0) := ⟨_, _, _, rfl, rfl, rfl⟩
          obtain ⟨E, F, G, hE, hF, hG⟩ := hC
          have hR : (decide (y = x) && decide (bw = 0) && decide (ws.length = 0)) = (E && F && G) := by
            rw [hE, hF, hG]
            congr 1
            by_cases h : ws.length = 0 <;> simp [h]
          rw [hR]
          clear hR
          have hE' := hE.symm
          have hF' := hF.symm
          have hG' := hG.symm
          clear hE hF hG
          cases E <;> cases F <;> cases G
          all_goals
            go_enter Try.func50, Try.ntmps50
            go_wp2_with fail
            refine Calls.mono (HN1.out _) ?_
            rintro e w1 ⟨rfl, hb1⟩
            have s1 := s0.next hb1
            have g0 := s1.one 0
            have g1 := s1.one 1
            have k0 := s1.two 0
            have k1 := s1.two 1
            have k2 := s1.two 2
            have k3 := s1.two 3
            simp at g0 g1 k0 k1 k2 k3
            obtain ⟨-, -, h | ⟨b, o, rfl, hc⟩⟩ := HRD.out w1 s1.below
            · subst h; simp at hk2
            have q0 := hc k hk2
            rw [HX.out] at q0
            clear hc hb1 s0
            go_wp2_with fail
            refine Calls.mono (HN2.out _) ?_
            rintro e w2 ⟨rfl, hb2⟩
            have s2 := s1.next hb2
            have f0 := s2.one 0
            have i0 := s2.two 0
            have i1 := s2.two 1
            have i2 := s2.two 2
            have i3 := s2.two 3
            simp at f0 i0 i1 i2 i3
            clear hb2 s1
            obtain ⟨-, -, h | ⟨b', o', he, hc2⟩⟩ := HRD.out w2 s2.below
            · subst h; simp at hk2
            cases he
            have q1 := hc2 j hj2
            rw [HY.out] at q1
            clear hc2
            go_wp2_with fail
            go_ret
            exact ⟨rfl, s2.below⟩

end Go.Proofs.Ytddgldfjeklhbaa
