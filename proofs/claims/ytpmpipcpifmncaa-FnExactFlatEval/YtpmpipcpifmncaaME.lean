/- What the program's FlatOk answers. -/
import Derived.Test.YtpmpipcpifmncaaMD
namespace Go.Proofs.Ytpmpipcpifmncaa
set_option linter.unusedVariables false
set_option linter.unusedSimpArgs false
open Go.RowKit

theorem couldBeOne_any (s t : Sc) (a b : Option Addr) (c d : Nat) (w : World) (h1 : 0 ≤ s.lo ∧ s.lo ≤ 4096) (h2 : 0 ≤ s.wd ∧ s.wd ≤ 4096) :
    Calls Try.prog 76 #[.agg #[.int .i64 s.v, .int .i64 s.lo, .int .i64 s.wd, .int .i64 s.bw, .slice a s.ws.length c], .agg #[.int .i64 t.v, .int .i64 t.lo, .int .i64 t.wd, .int .i64 t.bw, .slice b t.ws.length d]] w fun e w' => e = .returned (.bool (oneB s t)) ∧ Below w.heap.size w w' := by
  have hb2 : Below w.heap.size w ((w.alloc (Obj.cells #[Value.int .i64 s.v, Value.int .i64 s.lo, Value.int .i64 s.wd, Value.int .i64 s.bw, Value.slice a s.ws.length c] 80)).alloc (Obj.cells #[Value.int .i64 t.v, Value.int .i64 t.lo, Value.int .i64 t.wd, Value.int .i64 t.bw, Value.slice b t.ws.length d] 80)) := ((Below.refl _ _).alloc (Nat.le_refl _) _).alloc (by simp) _
  obtain ⟨v, lo, wd, bw, ws⟩ := s
  obtain ⟨v', lo', wd', bw', ws'⟩ := t
  simp only [oneB] at h1 h2 hb2 ⊢
  obtain ⟨l1, l2⟩ := h1
  obtain ⟨l3, l4⟩ := h2
  have B2 := kide hb2
  clear hb2
  by_cases h : v = v'
  · have e1 : (v == v') = true := by simp [h]
    by_cases hv : v = -1
    · have e2 : (v == -1) = true := by simp [hv]
      have hR : (decide (v = v') && (decide (v = -1) || decide (lo + wd = lo'))) = true := by simp [← h, hv]
      rw [hR]
      clear hR h hv
      go_enter Try.func76, Try.ntmps76
      go_wp2_with fail
      first | go_quiet (fail) | skip
      go_wp2_with fail
      go_ret
      exact ⟨rfl, by first | exact B2.out | exact below_drewN B2.out _⟩
    · have e2 : (v == -1) = false := by simp [hv]
      have hR : (decide (v = v') && (decide (v = -1) || decide (lo + wd = lo'))) = decide (lo + wd = lo') := by simp [← h, hv]
      rw [hR]
      clear hR h hv
      go_enter Try.func76, Try.ntmps76
      go_wp2_with fail
      first | go_quiet (fail) | skip
      go_wp2_with fail
      go_ret
      exact ⟨ret_bool (by rw [Bool.eq_iff_iff]; simp), by first | exact B2.out | exact below_drewN B2.out _⟩
  · have e1 : (v == v') = false := by simp [h]
    have hR : (decide (v = v') && (decide (v = -1) || decide (lo + wd = lo'))) = false := by simp [h]
    rw [hR]
    clear hR h
    go_enter Try.func76, Try.ntmps76
    go_wp2_with fail
    first | go_quiet (fail) | skip
    go_wp2_with fail
    go_ret
    exact ⟨rfl, by first | exact B2.out | exact below_drewN B2.out _⟩

theorem sumS_append (xs ys : List Sc) : sumS (xs ++ ys) = sumS xs + sumS ys := by
  induction xs with
  | nil => simp [sumS]
  | cons x xs ih => simp [sumS, ih]; omega
theorem sumS_take {cs : List Sc} {k : Nat} {c : Sc} (h : cs[k]? = some c) : sumS (cs.take (k + 1)) = sumS (cs.take k) + c.wd := by
  rw [List.take_add_one, h, sumS_append]
  simp [sumS]

theorem formWidth_any (a : Option Addr) (c n : Nat) (xs : List Sg) (w : World) (hr : RdS w a xs) (hn : xs.length = n) (h2000 : n ≤ 2000) (hw : ∀ x ∈ xs, 1 ≤ x.ct.wd ∧ x.ct.wd ≤ 4096) :
    Calls Try.prog 48 #[.slice a n c] w fun e w' => e = .returned (.int .i64 (sumS (xs.map Sg.ct))) ∧ Below w.heap.size w w' := by
  have hR : sumS (xs.map Sg.ct) = sumS ((xs.map Sg.ct).take n) := by rw [List.take_of_length_le (by simp [hn])]
  rw [hR]
  have HR := kide hr
  have HN := kide hn
  have HW := kide hw
  clear hr hn hw hR
  go_enter Try.func48, Try.ntmps48
  go_wp2_with fail
  go_loopw [3, 8] (fun q i wr => ∃ k : Nat, k ≤ n ∧ i = .int .i64 (k : Int) ∧ q = .int .i64 (sumS ((xs.map Sg.ct).take k)) ∧ 0 ≤ sumS ((xs.map Sg.ct).take k) ∧ sumS ((xs.map Sg.ct).take k) ≤ 4096 * (k : Int) ∧ Below w.heap.size w wr) (fun _ i _ => n - (intOf i).toNat)
  case atStart => exact ⟨0, Nat.zero_le _, rfl, by simp [sumS], by simp [sumS], by simp [sumS], Below.refl _ _⟩
  case round =>
    obtain ⟨k, hk, rfl, rfl, hq0, hq1, hbel⟩ := hrel
    have HB := kide hbel
    by_cases hlt : k < n
    · obtain ⟨-, h | ⟨b2, o2, rfl, hc2⟩⟩ := HR.out
      · have := HN.out; subst h; simp at this; omega
      obtain ⟨⟨s, a1, c1⟩, gx⟩ : ∃ x, xs[k]? = some x := ⟨xs[k]'(by rw [HN.out]; exact hlt), List.getElem?_eq_getElem _⟩
      obtain ⟨⟨p0, p1, p2, p3, p4⟩, -⟩ := (hc2 k _ gx).later hbel
      have hst := sumS_take (cs := xs.map Sg.ct) (k := k) (c := s) (by rw [List.getElem?_map, gx]; rfl)
      obtain ⟨hw1, hw2⟩ := HW.out _ (List.mem_of_getElem? gx)
      obtain ⟨v, lo, wd, bw, ws⟩ := s
      simp only [Sg.hd] at p0 p1 p2 p3 p4 hst hw1 hw2
      have HST := kide hst
      have HA := kide (HB.out.alloc HB.out.size (Obj.cells #[Value.int .i64 v, Value.int .i64 lo, Value.int .i64 wd, Value.int .i64 bw, Value.slice a1 ws.length c1] 80))
      have i0 : (k : Int) < (n : Int) := by omega
      clear hc2 gx hst HR hbel
      generalize sumS ((xs.map Sg.ct).take k) = Q at *
      go_wp2_with fail
      go_roundw
      case rel => exact ⟨k + 1, by omega, by go_num, by rw [HST.out], by rw [HST.out]; omega, by rw [HST.out]; omega, HA.out⟩
      case measure => simp [intOf]; omega
    · have e : k = n := by omega
      subst e
      clear HR hbel
      generalize hQ : sumS ((xs.map Sg.ct).take k) = Q at *
      have HQ := kide hQ
      clear hQ
      go_wp2_with fail
      go_ret
      exact ⟨ret_int (by rw [HQ.out]), HB.out⟩

end Go.Proofs.Ytpmpipcpifmncaa
