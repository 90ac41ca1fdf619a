/- What the program's CompareBits answers: 0 just where both words are right and the same. -/
import Derived.Test.YthoiajpbpoglfaaZKAC
import Derived.Deep.RegionHeld3
namespace Go.Proofs.Ythoiajpbpoglfaa
set_option linter.unusedVariables false
set_option linter.unusedSimpArgs false
open Go.RowKit

def cmpW (x y : Nat) : Int := if x < y then -1 else if y < x then 1 else 0

theorem cmpW_any (x y : Nat) (w : World) :
    Calls Try.prog 80 #[.int .u64 x, .int .u64 y] w fun e w' => e = .returned (.int .i64 (cmpW x y)) ∧ w' = w := by
  unfold cmpW
  rcases Nat.lt_trichotomy x y with h | h | h
  · rw [if_pos h]
    go_enter Try.func80, Try.ntmps80
    go_wp2
    go_ret
    exact ⟨rfl, rfl⟩
  · subst h
    rw [if_neg (by omega), if_neg (by omega)]
    go_enter Try.func80, Try.ntmps80
    go_wp2
    go_ret
    exact ⟨rfl, rfl⟩
  · rw [if_neg (by omega), if_pos h]
    go_enter Try.func80, Try.ntmps80
    go_wp2
    go_ret
    exact ⟨rfl, rfl⟩

/-- Two words are right and the same. -/
def sameB (W : Int) (xs : List Nat) (V : Int) (ys : List Nat) : Bool := rightB W xs && rightB V ys && decide (W = V) && decide (xs = ys)

/-- An answer that is 0 just where R is true. -/
def RetZ (u : World) (R : Bool) (e : Ending) (w' : World) : Prop := ∃ k : Int, e = .returned (.int .i64 k) ∧ ((k == 0) = R) ∧ Below u.heap.size u w'

set_option maxHeartbeats 2000000 in
set_option maxRecDepth 100000 in
theorem implSame_any (W : Int) (a : Option Addr) (c : Nat) (xs : List Nat) (V : Int) (b : Option Addr) (d : Nat) (ys : List Nat) (w : World) (hr : Rd w a xs) (hs : Rd w b ys) :
    Calls Try.prog 55 #[.agg #[.int .i64 W, .slice a xs.length c], .agg #[.int .i64 V, .slice b ys.length d]] w (RetZ w (sameB W xs V ys)) := by
  have s0 := Bb.start w (.cells #[Value.int .i64 W, Value.slice a xs.length c] 48) (.cells #[Value.int .i64 V, Value.slice b ys.length d] 48)
  have HOA := kide (fun u (hu : Below w.heap.size w u) => implOk_any W a c xs u (hr.later hu))
  have HOB := kide (fun u (hu : Below w.heap.size w u) => implOk_any V b d ys u (hs.later hu))
  have HRA := kide (fun u (hu : Below w.heap.size w u) => hr.later hu)
  have HRB := kide (fun u (hu : Below w.heap.size w u) => hs.later hu)
  have hl1 := hr.1
  have hl2 := hs.1
  clear hr hs
  cases hoa : rightB W xs with
  | false =>
    have hR : sameB W xs V ys = false := by simp [sameB, hoa]
    rw [hR]
    rw [hoa] at HOA
    clear hR hoa
    go_enter Try.func55, Try.ntmps55
    go_wp2_with fail
    refine Calls.mono (HOA.out _ s0.below) ?_
    rintro e w1 ⟨rfl, hb1⟩
    have s1 := s0.next hb1
    go_wp2_with fail
    go_ret
    exact ⟨-2, rfl, rfl, s1.below⟩
  | true =>
    rw [hoa] at HOA
    cases hob : rightB V ys with
    | false =>
      have hR : sameB W xs V ys = false := by simp [sameB, hob]
      rw [hR]
      rw [hob] at HOB
      clear hR hoa hob
      go_enter Try.func55, Try.ntmps55
      go_wp2_with fail
      refine Calls.mono (HOA.out _ s0.below) ?_
      rintro e w1 ⟨rfl, hb1⟩
      have s1 := s0.next hb1
      have k0 := s1.two 0
      have k1 := s1.two 1
      simp at k0 k1
      clear hb1 s0
      go_wp2_with fail
      refine Calls.mono (HOB.out _ s1.below) ?_
      rintro e w2 ⟨rfl, hb2⟩
      have s2 := s1.next hb2
      go_wp2_with fail
      go_ret
      exact ⟨-2, rfl, rfl, s2.below⟩
    | true =>
      rw [hob] at HOB
      have hwl1 : (xs.length : Int) ≤ 64 := by
        simp [rightB, wOk] at hoa
        omega
      by_cases hWV : W = V
      · subst hWV
        have hlen : ys.length = xs.length := by
          simp [rightB] at hoa hob
          omega
        have hR : sameB W xs W ys = decide (xs = ys) := by simp [sameB, hoa, hob]
        rw [hR]
        rw [hlen] at HOB s0
        simp only [hlen]
        have hWW : (W != W) = false := by simp
        have HLE := kide hlen
        clear hR hoa hob hlen hl2
        generalize hZ : decide (xs = ys) = Z
        have HZ := kide hZ
        clear hZ
        go_enter Try.func55, Try.ntmps55
        go_wp2_with fail
        refine Calls.mono (HOA.out _ s0.below) ?_
        rintro e w1 ⟨rfl, hb1⟩
        have s1 := s0.next hb1
        have k0 := s1.two 0
        have k1 := s1.two 1
        simp at k0 k1
        clear hb1 s0
        go_wp2_with fail
        refine Calls.mono (HOB.out _ s1.below) ?_
        rintro e w2 ⟨rfl, hb2⟩
        have s2 := s1.next hb2
        have g0 := s2.one 0
        have g1 := s2.one 1
        have f0 := s2.two 0
        have f1 := s2.two 1
        simp at g0 g1 f0 f1
        clear hb2 s1 k0 k1
        go_wp2_with fail
        clear hWW g0 g1 f0 f1
        go_loopw [5] (fun i wr => ∃ k : Nat, k ≤ xs.length ∧ i = .int .i64 ((k : Int) - 1) ∧ (∀ j, k ≤ j → j < xs.length → xs.getD j 0 = ys.getD j 0) ∧ Bb w (.cells #[Value.int .i64 W, Value.slice a xs.length c] 48) (.cells #[Value.int .i64 W, Value.slice b xs.length d] 48) wr) (fun i _ => ((intOf i) + 1).toNat)
        case atStart => exact ⟨xs.length, Nat.le_refl _, rfl, fun j h1 h2 => by omega, s2⟩
        case round =>
          obtain ⟨k, hk, rfl, heq, s3⟩ := hrel
          have g0 := s3.one 0
          have g1 := s3.one 1
          have f0 := s3.two 0
          have f1 := s3.two 1
          simp at g0 g1 f0 f1
          cases k with
          | zero =>
            have HT : Hid (Z = true) := by
              show _ = _
              rw [← HZ.out]
              simp only [decide_eq_true_eq]
              refine List.ext_getElem HLE.out.symm (fun j h1 h2 => ?_)
              have := heq j (Nat.zero_le _) h1
              simpa [List.getD, h1, h2] using this
            clear heq
            go_wp2_with fail
            go_ret
            exact ⟨0, rfl, HT.out.symm, s3.below⟩
          | succ j =>
            rw [show (((j + 1 : Nat) : Int) - 1) = (j : Int) by omega]
            have hjx : j < xs.length := by omega
            have hji : (j : Int) < (xs.length : Int) := by omega
            obtain ⟨-, hxx, hn | ⟨g, o, rfl, hc⟩⟩ := HRA.out wr s3.below
            · subst hn; simp at hjx
            obtain ⟨-, hyy, hn | ⟨g', o', rfl, hc'⟩⟩ := HRB.out wr s3.below
            · have := HLE.out; subst hn; simp at this; omega
            have hx1 := hc j hjx
            have hy1 := hc' j (by have := HLE.out; omega)
            have hjw : ((j : Int) - 1 + 1) = (j : Int) := by omega
            obtain ⟨x, hx⟩ : ∃ x, xs.getD j 0 = x := ⟨_, rfl⟩
            obtain ⟨y, hy⟩ : ∃ y, ys.getD j 0 = y := ⟨_, rfl⟩
            rw [hx] at hx1
            rw [hy] at hy1
            have HX := kide hx
            have HY := kide hy
            have HEQ := kide heq
            have HC := kide (fun u => cmpW_any x y u)
            clear hc hc' hx hy heq hxx hyy s2
            by_cases h1 : x = y
            · subst h1
              have h0 : cmpW x x = 0 := by simp [cmpW]
              rw [h0] at HC
              clear h0
              go_wp2_with fail
              go_quiet ((go_at_call 80; exact Calls.quiet_of_same (HC.out _)))
              go_wp2_with fail
              go_roundw
              case rel =>
                refine ⟨j, by omega, by go_num, fun i h1 h2 => ?_, s3.next (below_drewN (Below.refl _ _) _)⟩
                by_cases hij : i = j
                · subst hij
                  rw [HX.out, HY.out]
                · exact HEQ.out i (by omega) h2
              case measure => first | (simp [intOf]; done) | (simp [intOf]; omega)
            · have h0 : cmpW x y ≠ 0 := by unfold cmpW; split <;> (try split) <;> omega
              have HF : Hid (Z = false) := by
                show _ = _
                rw [← HZ.out]
                simp only [decide_eq_false_iff_not]
                intro he
                apply h1
                rw [← HX.out, ← HY.out, he]
              generalize cmpW x y = q at *
              have hq : (q != 0) = true := by simp [h0]
              have hq2 : (q == 0) = false := by simp [h0]
              have HQ := kide hq2
              clear h1 h0 hq2
              go_wp2_with fail
              go_quiet ((go_at_call 80; exact Calls.quiet_of_same (HC.out _)))
              go_wp2_with fail
              go_ret
              exact ⟨q, rfl, HQ.out.trans HF.out.symm, s3.below.trans (below_drewN (Below.refl _ _) _)⟩
      · have hR : sameB W xs V ys = false := by simp [sameB, hWV]
        rw [hR]
        have hWW : (W != V) = true := by simp [hWV]
        clear hR hoa hob hWV
        go_enter Try.func55, Try.ntmps55
        go_wp2_with fail
        refine Calls.mono (HOA.out _ s0.below) ?_
        rintro e w1 ⟨rfl, hb1⟩
        have s1 := s0.next hb1
        have k0 := s1.two 0
        have k1 := s1.two 1
        simp at k0 k1
        clear hb1 s0
        go_wp2_with fail
        refine Calls.mono (HOB.out _ s1.below) ?_
        rintro e w2 ⟨rfl, hb2⟩
        have s2 := s1.next hb2
        have g0 := s2.one 0
        have f0 := s2.two 0
        simp at g0 f0
        clear hb2 s1 k0 k1
        go_wp2_with fail
        go_ret
        exact ⟨-2, rfl, rfl, s2.below⟩

end Go.Proofs.Ythoiajpbpoglfaa
