/- Words held against one another, on the given side. -/
import Derived.Test.YtckidgpopbpagaaGreatDoorZGAB
import Derived.Test.YtckidgpopbpagaaGreatDoorZGAC
namespace Go.Proofs.YtckidgpopbpagaaGreatDoor
set_option linter.unusedVariables false
set_option linter.unusedSimpArgs false
open Go.RowKit

/-- Two boxes of a call stand. -/
def Bb (w : World) (o1 o2 : Obj) (wk : World) : Prop := Below (w.heap.size + 2) ((w.alloc o1).alloc o2) wk
theorem Bb.start (w : World) (o1 o2 : Obj) : Bb w o1 o2 ((w.alloc o1).alloc o2) := Below.refl _ _
theorem Bb.size {w wk : World} {o1 o2 : Obj} (h : Bb w o1 o2 wk) : w.heap.size + 2 ≤ wk.heap.size := by have := Below.size h; simpa using this
theorem Bb.next {w wk w1 : World} {o1 o2 : Obj} (h : Bb w o1 o2 wk) (hb : Below wk.heap.size wk w1) : Bb w o1 o2 w1 := Below.trans h (hb.mono h.size)
theorem Bb.below {w wk : World} {o1 o2 : Obj} (h : Bb w o1 o2 wk) : Below w.heap.size w wk := Below.trans (Below.alloc (Below.alloc (Below.refl _ _) (Nat.le_refl _) _) (by simp) _) (Below.mono h (by omega))
theorem Bb.one {w wk : World} {cs : Array Value} {t : TypeId} {o2 : Obj} (h : Bb w (.cells cs t) o2 wk) (i : Nat) : wk.cell? ⟨w.heap.size, i, none⟩ = cs[i]? := by
  rw [Below.cell h (by simp)]; simp [go_sem]
theorem Bb.two {w wk : World} {cs : Array Value} {t : TypeId} {o1 : Obj} (h : Bb w o1 (.cells cs t) wk) (i : Nat) : wk.cell? ⟨w.heap.size + 1, i, none⟩ = cs[i]? := by
  rw [Below.cell h (by simp)]; simp [go_sem]

set_option maxHeartbeats 1000000 in
set_option maxRecDepth 100000 in
theorem l3Same_any (W : Int) (a : Option Addr) (c : Nat) (xs : List Nat) (V : Int) (b : Option Addr) (d : Nat) (ys : List Nat) (w : World) (hr : Rd w a xs) (hs : Rd w b ys) :
    Calls Tryz.prog 26 #[.agg #[.int .i64 W, .slice a xs.length c], .agg #[.int .i64 V, .slice b ys.length d]] w fun e w' => e = .returned (.bool (decide (W = V) && decide (xs = ys))) ∧ Below w.heap.size w w' := by
  have s0 := Bb.start w (.cells #[Value.int .i64 W, Value.slice a xs.length c] 60) (.cells #[Value.int .i64 V, Value.slice b ys.length d] 60)
  have HRA := kide (fun u (hu : Below w.heap.size w u) => hr.later hu)
  have HRB := kide (fun u (hu : Below w.heap.size w u) => hs.later hu)
  have hl1 := hr.1
  have hl2 := hs.1
  clear hr hs
  by_cases hWV : W = V
  · by_cases hlen : ys.length = xs.length
    · subst hWV
      have hR : (decide (W = W) && decide (xs = ys)) = decide (xs = ys) := by simp
      rw [hR]
      generalize hZ : decide (xs = ys) = Z
      have HZ := kide hZ
      have HLE := kide hlen
      rw [hlen] at s0
      simp only [hlen]
      have h1 : (W != W) = false := by simp
      have h2 : ((xs.length : Int) != (xs.length : Int)) = false := by simp
      clear hZ hlen hR hl2
      go_enter Tryz.func26, Tryz.ntmps26
      go_wp2_with fail
      clear h1 h2
      go_loopw [5] (fun i wr => ∃ k : Nat, k ≤ xs.length ∧ i = .int .i64 k ∧ (∀ j, j < k → xs.getD j 0 = ys.getD j 0) ∧ Bb w (.cells #[Value.int .i64 W, Value.slice a xs.length c] 60) (.cells #[Value.int .i64 W, Value.slice b xs.length d] 60) wr) (fun i _ => xs.length - (intOf i).toNat)
      case atStart => exact ⟨0, Nat.zero_le _, rfl, fun j h => by omega, s0⟩
      case round =>
        obtain ⟨k, hk, rfl, heq, s3⟩ := hrel
        have g1 := s3.one 1
        have f1 := s3.two 1
        simp at g1 f1
        by_cases hjx : k < xs.length
        · have hji : (k : Int) < (xs.length : Int) := by omega
          obtain ⟨-, -, hn | ⟨g, o, rfl, hc⟩⟩ := HRA.out wr s3.below
          · subst hn; simp at hjx
          obtain ⟨-, -, hn | ⟨g', o', rfl, hc'⟩⟩ := HRB.out wr s3.below
          · have := HLE.out; subst hn; simp at this; omega
          have hx1 := hc k hjx
          have hy1 := hc' k (by have := HLE.out; omega)
          obtain ⟨x, hx⟩ : ∃ x, xs.getD k 0 = x := ⟨_, rfl⟩
          obtain ⟨y, hy⟩ : ∃ y, ys.getD k 0 = y := ⟨_, rfl⟩
          rw [hx] at hx1
          rw [hy] at hy1
          have HX := kide hx
          have HY := kide hy
          have HEQ := kide heq
          clear hc hc' hx hy heq s0
          by_cases h1 : x = y
          · subst h1
            have hne : ((x : Int) != (x : Int)) = false := by simp
            go_wp2_with fail
            go_quiet (fail)
            go_wp2_with fail
            go_roundw
            case rel =>
              refine ⟨k + 1, by omega, by go_num, fun i h2 => ?_, s3.next (below_drewN (Below.refl _ _) _)⟩
              by_cases hij : i = k
              · subst hij
                rw [HX.out, HY.out]
              · exact HEQ.out i (by omega)
            case measure => first | (simp [intOf]; done) | (simp [intOf]; omega)
          · have hne : ((x : Int) != (y : Int)) = true := by simp; omega
            have HF : Hid (Z = false) := by
              show _ = _
              rw [← HZ.out]
              simp only [decide_eq_false_iff_not]
              intro he
              apply h1
              rw [← HX.out, ← HY.out, he]
            clear h1
            go_wp2_with fail
            go_quiet (fail)
            go_wp2_with fail
            go_ret
            exact ⟨ret_bool HF.out.symm, s3.below.trans (below_drewN (Below.refl _ _) _)⟩
        · have HT : Hid (Z = true) := by
            show _ = _
            rw [← HZ.out]
            simp only [decide_eq_true_eq]
            refine List.ext_getElem HLE.out.symm (fun j h1 h2 => ?_)
            have := heq j (by omega)
            simpa [List.getD, h1, h2] using this
          clear heq
          go_wp2_with fail
          go_ret
          exact ⟨ret_bool HT.out.symm, s3.below⟩
    · have hR : (decide (W = V) && decide (xs = ys)) = false := by
        simp only [Bool.and_eq_false_iff, decide_eq_false_iff_not]
        exact .inr (fun h => hlen (by rw [h]))
      rw [hR]
      have h1 : (W != V) = false := by simp [hWV]
      have h2 : ((xs.length : Int) != (ys.length : Int)) = true := by simp; omega
      clear hR hWV hlen
      go_enter Tryz.func26, Tryz.ntmps26
      go_wp2_with fail
      go_ret
      exact ⟨rfl, s0.below⟩
  · have hR : (decide (W = V) && decide (xs = ys)) = false := by simp [hWV]
    rw [hR]
    have h1 : (W != V) = true := by simp [hWV]
    clear hR hWV
    go_enter Tryz.func26, Tryz.ntmps26
    go_wp2_with fail
    go_ret
    exact ⟨rfl, s0.below⟩

end Go.Proofs.YtckidgpopbpagaaGreatDoor
