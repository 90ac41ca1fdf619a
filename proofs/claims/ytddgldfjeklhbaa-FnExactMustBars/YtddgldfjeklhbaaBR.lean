/- Words held against one another, numbers looked for, on the given side. -/
import Derived.Test.YtddgldfjeklhbaaJH
import Derived.Test.YtddgldfjeklhbaaBN
namespace Go.Proofs.Ytddgldfjeklhbaa
set_option linter.unusedVariables false
set_option linter.unusedSimpArgs false
open Go.RowKit

set_option maxHeartbeats 1000000 in
set_option maxRecDepth 100000 in
theorem l3Same_any (W : Int) (a : Option Addr) (c : Nat) (xs : List Nat) (V : Int) (b : Option Addr) (d : Nat) (ys : List Nat) (w : World) (hr : Rd w a xs) (hs : Rd w b ys) :
    Calls Try.prog 53 #[.agg #[.int .i64 W, .slice a xs.length c], .agg #[.int .i64 V, .slice b ys.length d]] w fun e w' => e = .returned (.bool (decide (W = V) && decide (xs = ys))) ∧ Below w.heap.size w w' := by
  have s0 := Bb.start w (.cells #[Value.int .i64 W, Value.slice a xs.length c] 52) (.cells #[Value.int .i64 V, Value.slice b ys.length d] 52)
  have HRA := kide (fun u (hu : Below w.heap.size w u) => hr.later hu)
  have HRB := kide (fun u (hu : Below w.heap.size w u) => hs.later hu)
  have hl1 := hr.1
  have hl2 := hs.1
  clear hr hs
  by_cases hWV : W = V
  · by_cases hlen : ys.length = xs.length
    · subst hWV
      have hR : (decide (W = W) && decide (xs = ys)) = decide (xs = ys) := by simp
      rw [hR]
      generalize hZ : decide (xs = ys) = Z
      have HZ := kide hZ
      have HLE := kide hlen
      rw [hlen] at s0
      simp only [hlen]
      have h1 : (W != W) = false := by simp
      have h2 : ((xs.length : Int) != (xs.length : Int)) = false := by simp
      clear hZ hlen hR hl2
      go_enter Try.func53, Try.ntmps53
      go_wp2_with fail
      clear h1 h2
      go_loopw [5] (fun i wr => ∃ k : Nat, k ≤ xs.length ∧ i = .int .i64 k ∧ (∀ j, j < k → xs.getD j 0 = ys.getD j 0) ∧ Bb w (.cells #[Value.int .i64 W, Value.slice a xs.length c] 52) (.cells #[Value.int .i64 W, Value.slice b xs.length d] 52) wr) (fun i _ => xs.length - (intOf i).toNat)
      case atStart => exact ⟨0, Nat.zero_le _, rfl, fun j h => by omega, s0⟩
      case round =>
        obtain ⟨k, hk, rfl, heq, s3⟩ := hrel
        have g1 := s3.one 1
        have f1 := s3.two 1
        simp at g1 f1
        by_cases hjx : k < xs.length
        · have hji : (k : Int) < (xs.length : Int) := by omega
          obtain ⟨-, -, hn | ⟨g, o, rfl, hc⟩⟩ := HRA.out wr s3.below
          · subst hn; simp at hjx
          obtain ⟨-, -, hn | ⟨g', o', rfl, hc'⟩⟩ := HRB.out wr s3.below
          · have := HLE.out; subst hn; simp at this; omega
          have hx1 := hc k hjx
          have hy1 := hc' k (by have := HLE.out; omega)
          obtain ⟨x, hx⟩ : ∃ x, xs.getD k 0 = x := ⟨_, rfl⟩
          obtain ⟨y, hy⟩ : ∃ y, ys.getD k 0 = y := ⟨_, rfl⟩
          rw [hx] at hx1
          rw [hy] at hy1
          have HX := kide hx
          have HY := kide hy
          have HEQ := kide heq
          clear hc hc' hx hy heq s0
          by_cases h1 : x = y
          · subst h1
            have hne : ((x : Int) != (x : Int)) = false := by simp
            go_wp2_with fail
            go_quiet (fail)
            go_wp2_with fail
            go_roundw
            case rel =>
              refine ⟨k + 1, by omega, by go_num, fun i h2 => ?_, s3.next (below_drewN (Below.refl _ _) _)⟩
              by_cases hij : i = k
              · subst hij
                rw [HX.out, HY.out]
              · exact HEQ.out i (by omega)
            case measure => first | (simp [intOf]; done) | (simp [intOf]; omega)
          · have hne : ((x : Int) != (y : Int)) = true := by simp; omega
            have HF : Hid (Z = false) := by
              show _ = _
              rw [← HZ.out]
              simp only [decide_eq_false_iff_not]
              intro he
              apply h1
              rw [← HX.out, ← HY.out, he]
            clear h1
            go_wp2_with fail
            go_quiet (fail)
            go_wp2_with fail
            go_ret
            exact ⟨ret_bool HF.out.symm, s3.below.trans (below_drewN (Below.refl _ _) _)⟩
        · have HT : Hid (Z = true) := by
            show _ = _
            rw [← HZ.out]
            simp only [decide_eq_true_eq]
            refine List.ext_getElem HLE.out.symm (fun j h1 h2 => ?_)
            have := heq j (by omega)
            simpa [List.getD, h1, h2] using this
          clear heq
          go_wp2_with fail
          go_ret
          exact ⟨ret_bool HT.out.symm, s3.below⟩
    · have hR : (decide (W = V) && decide (xs = ys)) = false := by
        simp only [Bool.and_eq_false_iff, decide_eq_false_iff_not]
        exact .inr (fun h => hlen (by rw [h]))
      rw [hR]
      have h1 : (W != V) = false := by simp [hWV]
      have h2 : ((xs.length : Int) != (ys.length : Int)) = true := by simp; omega
      clear hR hWV hlen
      go_enter Try.func53, Try.ntmps53
      go_wp2_with fail
      go_ret
      exact ⟨rfl, s0.below⟩
  · have hR : (decide (W = V) && decide (xs = ys)) = false := by simp [hWV]
    rw [hR]
    have h1 : (W != V) = true := by simp [hWV]
    clear hR hWV
    go_enter Try.func53, Try.ntmps53
    go_wp2_with fail
    go_ret
    exact ⟨rfl, s0.below⟩

theorem l1Has_any (a : Option Addr) (c : Nat) (ks : List Int) (x : Int) (w : World) (hr : RdI w a ks) :
    Calls Try.prog 57 #[.slice a ks.length c, .int .i64 x] w fun e w' => e = .returned (.bool (decide (x ∈ ks))) ∧ w' = w := by
  have hlen := hr.1
  go_enter Try.func57, Try.ntmps57
  go_wp2_with fail
  go_loop [5] (fun i => ∃ k : Nat, k ≤ ks.length ∧ i = .int .i64 (k : Int) ∧ ∀ j, j < k → ks.getD j 0 ≠ x) (fun i => ks.length - (intOf i).toNat)
  case atStart => exact ⟨0, Nat.zero_le _, rfl, fun j h => by omega⟩
  case round =>
    obtain ⟨k, hk, rfl, hz⟩ := hrel
    have HZ := kide hz
    by_cases hlt : k < ks.length
    · obtain ⟨-, -, h | ⟨b, o, rfl, hc⟩⟩ := hr
      · subst h; simp at hlt
      have e0 := hc k hlt
      have hmem : ks.getD k 0 ∈ ks := by simp [List.getD, hlt]
      generalize hy : ks.getD k 0 = y at *
      have HY := kide hy
      have i0 : (k : Int) < (ks.length : Int) := by omega
      clear hc hz hy
      by_cases hxy : y = x
      · have e1 : (y == x) = true := by simp [hxy]
        have HR : Hid (decide (x ∈ ks) = true) := decide_eq_true (by rw [← hxy]; exact hmem)
        clear hxy hmem
        go_wp2_with fail
        go_ret
        exact ⟨ret_bool HR.out.symm, rfl⟩
      · have e1 : (y == x) = false := by simp [hxy]
        have HX := kide hxy
        clear hxy hmem
        go_wp2_with fail
        go_round
        case rel =>
          refine ⟨k + 1, by omega, by go_num, fun j hj => ?_⟩
          by_cases hjk : j = k
          · rw [hjk, HY.out]; exact HX.out
          · exact HZ.out j (by omega)
        case measure => simp [intOf]; omega
    · have HR : Hid (decide (x ∈ ks) = false) := decide_eq_false (fun h => by
        obtain ⟨j, hj, e⟩ := List.mem_iff_getElem.1 h
        exact hz j (by omega) (by simp [List.getD, hj, e]))
      clear hz
      go_wp2_with fail
      go_ret
      exact ⟨ret_bool HR.out.symm, rfl⟩


end Go.Proofs.Ytddgldfjeklhbaa
