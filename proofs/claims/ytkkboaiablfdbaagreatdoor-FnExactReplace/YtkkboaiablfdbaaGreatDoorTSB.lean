/- Nodes held against one another, on the given side. -/
import Derived.Test.YtkkboaiablfdbaaGreatDoorZBA
import Derived.Test.YtkkboaiablfdbaaGreatDoorTSA0
import Derived.Handy
namespace Go.Proofs.YtkkboaiablfdbaaGreatDoor
set_option linter.unusedVariables false
set_option linter.unusedSimpArgs false
open Go.RowKit

theorem tcEq_no {x y : Tc} (h : x ≠ y) : tcEq x y = false := by
  cases e : tcEq x y with
  | false => rfl
  | true => exact absurd (tcEq_iff.1 e) h

set_option maxHeartbeats 4000000 in
set_option maxRecDepth 100000 in
theorem l3SameNode_any (x y : Tc) (wa wb ka kb : Option Addr) (wc wd kc kd : Nat) (w : World) (hx : Rd w wa x.ws) (hy : Rd w wb y.ws) (hk : RdI w ka x.ks) (hl : RdI w kb y.ks) :
    Calls Tryz.prog 37 #[.agg #[Value.int .i64 x.op, Value.int .i64 x.vr, Value.int .i64 x.a, Value.int .i64 x.b, Value.int .i64 x.bw, Value.slice wa x.ws.length wc, Value.slice ka x.ks.length kc], .agg #[Value.int .i64 y.op, Value.int .i64 y.vr, Value.int .i64 y.a, Value.int .i64 y.b, Value.int .i64 y.bw, Value.slice wb y.ws.length wd, Value.slice kb y.ks.length kd]] w fun e w' => e = .returned (.bool (tcEq x y)) ∧ Below w.heap.size w w' := by
  have s0 := Bb.start w (.cells #[Value.int .i64 x.op, Value.int .i64 x.vr, Value.int .i64 x.a, Value.int .i64 x.b, Value.int .i64 x.bw, Value.slice wa x.ws.length wc, Value.slice ka x.ks.length kc] 53) (.cells #[Value.int .i64 y.op, Value.int .i64 y.vr, Value.int .i64 y.a, Value.int .i64 y.b, Value.int .i64 y.bw, Value.slice wb y.ws.length wd, Value.slice kb y.ks.length kd] 53)
  have HS := kide (l3Same_any x.bw wa wc x.ws y.bw wb wd y.ws _ (hx.later s0.below) (hy.later s0.below))
  have HKX := kide (fun u (hu : Below w.heap.size w u) => hk.later hu)
  have HKY := kide (fun u (hu : Below w.heap.size w u) => hl.later hu)
  have hl1 := hk.1
  have hl2 := hl.1
  have hl3 := hx.1
  have hl4 := hy.1
  have S0 := kide s0
  have c1 := s0.one
  have c2 := s0.two
  have g0 := c1 0; have g1 := c1 1; have g2 := c1 2; have g3 := c1 3; have g4 := c1 4; have g5 := c1 5; have g6 := c1 6
  have f0 := c2 0; have f1 := c2 1; have f2 := c2 2; have f3 := c2 3; have f4 := c2 4; have f5 := c2 5; have f6 := c2 6
  simp at g0 g1 g2 g3 g4 g5 g6 f0 f1 f2 f3 f4 f5 f6
  clear hx hy hk hl s0 c1 c2
  by_cases eop : x.op = y.op
  · have nop : (x.op != y.op) = false := by simp [eop]
    by_cases evr : x.vr = y.vr
    · have nvr : (x.vr != y.vr) = false := by simp [evr]
      by_cases ea : x.a = y.a
      · have na : (x.a != y.a) = false := by simp [ea]
        by_cases eb : x.b = y.b
        · have nb : (x.b != y.b) = false := by simp [eb]
          cases hbits : (decide (x.bw = y.bw) && decide (x.ws = y.ws)) with
          | false =>
            rw [tcEq_no (fun e => by rw [e] at hbits; simp at hbits)]
            rw [hbits] at HS
            clear hbits eop evr ea eb
            go_enter Tryz.func37, Tryz.ntmps37
            go_wp2_with fail
            refine Calls.mono HS.out ?_
            rintro e w1 ⟨rfl, hb1⟩
            have s1 := S0.out.next hb1
            go_wp2_with fail
            go_ret
            exact ⟨rfl, s1.below⟩
          | true =>
            rw [hbits] at HS
            have HEB := kide hbits
            clear hbits
            by_cases elen : x.ks.length = y.ks.length
            · have nl : ((x.ks.length : Int) != (y.ks.length : Int)) = false := by simp [elen]
              have HZ : Hid (tcEq x y = decide (x.ks = y.ks)) := by
                show _ = _
                have h9 := HEB.out
                simp only [Bool.and_eq_true, decide_eq_true_eq] at h9
                simp [tcEq, eop, evr, ea, eb, h9.1, h9.2]
              generalize tcEq x y = Z at HZ ⊢
              have HLE := kide elen
              clear elen eop evr ea eb HEB
              go_enter Tryz.func37, Tryz.ntmps37
              go_wp2_with fail
              refine Calls.mono HS.out ?_
              rintro e w1 ⟨rfl, hb1⟩
              have s1 := S0.out.next hb1
              have k6 := s1.one 6
              have m6 := s1.two 6
              simp at k6 m6
              have S1 := kide s1
              clear hb1 HS S0 g0 g1 g2 g3 g4 g5 g6 f0 f1 f2 f3 f4 f5 f6 s1
              go_wp2_with fail
              clear k6 m6 nl nop nvr na nb
              go_loopw [5] (fun i wr => ∃ k : Nat, k ≤ x.ks.length ∧ i = .int .i64 k ∧ (∀ j, j < k → x.ks.getD j 0 = y.ks.getD j 0) ∧ Bb w (.cells #[Value.int .i64 x.op, Value.int .i64 x.vr, Value.int .i64 x.a, Value.int .i64 x.b, Value.int .i64 x.bw, Value.slice wa x.ws.length wc, Value.slice ka x.ks.length kc] 53) (.cells #[Value.int .i64 y.op, Value.int .i64 y.vr, Value.int .i64 y.a, Value.int .i64 y.b, Value.int .i64 y.bw, Value.slice wb y.ws.length wd, Value.slice kb y.ks.length kd] 53) wr) (fun i _ => x.ks.length - (intOf i).toNat)
              case atStart => exact ⟨0, Nat.zero_le _, rfl, fun j h => by omega, S1.out⟩
              case round =>
                clear S1
                obtain ⟨k, hk, rfl, heq, s3⟩ := hrel
                have g6 := s3.one 6
                have f6 := s3.two 6
                simp at g6 f6
                have S3 := kide s3
                have HEQ := kide heq
                by_cases hjx : k < x.ks.length
                · have hji : (k : Int) < (x.ks.length : Int) := by omega
                  have hji2 : (k : Int) < (y.ks.length : Int) := by have := HLE.out; omega
                  obtain ⟨-, -, hn | ⟨g, o, rfl, hc⟩⟩ := HKX.out wr s3.below
                  · rw [hn] at hjx; simp at hjx
                  obtain ⟨-, -, hn | ⟨g', o', rfl, hc'⟩⟩ := HKY.out wr s3.below
                  · have h9 := HLE.out; rw [hn, List.length_nil] at h9; omega
                  have hx1 := hc k hjx
                  have hy1 := hc' k (by have := HLE.out; omega)
                  obtain ⟨u, hu⟩ : ∃ u, x.ks.getD k 0 = u := ⟨_, rfl⟩
                  obtain ⟨v, hv⟩ : ∃ v, y.ks.getD k 0 = v := ⟨_, rfl⟩
                  rw [hu] at hx1
                  rw [hv] at hy1
                  have HU := kide hu
                  have HV := kide hv
                  clear hc hc' hu hv heq s3
                  by_cases h1 : u = v
                  · subst h1
                    have hne : (u != u) = false := by simp
                    go_wp2_with fail
                    go_quiet (fail)
                    go_wp2_with fail
                    go_roundw
                    case rel =>
                      refine ⟨k + 1, by omega, by go_num, fun i h2 => ?_, S3.out.next (below_drewN (Below.refl _ _) _)⟩
                      by_cases hij : i = k
                      · subst hij
                        rw [HU.out, HV.out]
                      · exact HEQ.out i (by omega)
                    case measure => first | (simp [intOf]; done) | (simp [intOf]; omega)
                  · have hne : (u != v) = true := by simp [h1]
                    have HF : Hid (Z = false) := by
                      show _ = _
                      rw [HZ.out]
                      simp only [decide_eq_false_iff_not]
                      intro he
                      apply h1
                      rw [← HU.out, ← HV.out, he]
                    clear h1
                    go_wp2_with fail
                    go_quiet (fail)
                    go_wp2_with fail
                    go_ret
                    exact ⟨ret_bool HF.out.symm, S3.out.below.trans (below_drewN (Below.refl _ _) _)⟩
                · have HT : Hid (Z = true) := by
                    show _ = _
                    rw [HZ.out]
                    simp only [decide_eq_true_eq]
                    refine List.ext_getElem HLE.out (fun j h1 h2 => ?_)
                    have := heq j (by omega)
                    simpa [List.getD, h1, h2] using this
                  clear heq s3
                  go_wp2_with fail
                  go_ret
                  exact ⟨ret_bool HT.out.symm, S3.out.below⟩
            · have nl : ((x.ks.length : Int) != (y.ks.length : Int)) = true := by simp; omega
              rw [tcEq_no (fun e => by rw [e] at elen; exact elen rfl)]
              clear elen eop evr ea eb
              go_enter Tryz.func37, Tryz.ntmps37
              go_wp2_with fail
              refine Calls.mono HS.out ?_
              rintro e w1 ⟨rfl, hb1⟩
              have s1 := S0.out.next hb1
              have k6 := s1.one 6
              have m6 := s1.two 6
              simp at k6 m6
              go_wp2_with fail
              go_ret
              exact ⟨rfl, s1.below⟩
        · have nb : (x.b != y.b) = true := by simp [eb]
          rw [tcEq_no (fun e => eb (by rw [e]))]
          clear eb eop evr ea HS
          go_enter Tryz.func37, Tryz.ntmps37
          go_wp2_with fail
          go_ret
          exact ⟨rfl, S0.out.below⟩
      · have na : (x.a != y.a) = true := by simp [ea]
        rw [tcEq_no (fun e => ea (by rw [e]))]
        clear ea eop evr HS
        go_enter Tryz.func37, Tryz.ntmps37
        go_wp2_with fail
        go_ret
        exact ⟨rfl, S0.out.below⟩
    · have nvr : (x.vr != y.vr) = true := by simp [evr]
      rw [tcEq_no (fun e => evr (by rw [e]))]
      clear evr eop HS
      go_enter Tryz.func37, Tryz.ntmps37
      go_wp2_with fail
      go_ret
      exact ⟨rfl, S0.out.below⟩
  · have nop : (x.op != y.op) = true := by simp [eop]
    rw [tcEq_no (fun e => eop (by rw [e]))]
    clear eop  HS
    go_enter Tryz.func37, Tryz.ntmps37
    go_wp2_with fail
    go_ret
    exact ⟨rfl, S0.out.below⟩

end Go.Proofs.YtkkboaiablfdbaaGreatDoor
