/- What both Gauge answer. -/
import Derived.Test.YtnfagdfaphihhaaLP
namespace Go.Proofs.Ytnfagdfaphihhaa
set_option linter.unusedVariables false
set_option linter.unusedSimpArgs false
open Go.RowKit

def sumLen : List (List Int) → Int
  | [] => 0
  | c :: cs => (c.length : Int) + sumLen cs

theorem sumLen_append (xs ys : List (List Int)) : sumLen (xs ++ ys) = sumLen xs + sumLen ys := by
  induction xs with
  | nil => simp [sumLen]
  | cons x xs ih => simp [sumLen, ih]; omega
theorem sumLen_take {cs : List (List Int)} {k : Nat} {c : List Int} (h : cs[k]? = some c) : sumLen (cs.take (k + 1)) = sumLen (cs.take k) + c.length := by
  rw [List.take_add_one, h, sumLen_append]
  simp [sumLen]

/-- How many slices cuts make; -1 of cuts that are not right. -/
def gauR (ds : List Dc) (cs : List (List Int)) : Int := if cutR ds cs = true then (ds.length : Int) + sumLen cs else -1

theorem cutR_len {ds : List Dc} {cs : List (List Int)} (h : cutR ds cs = true) : ds.length ≤ 60 ∧ cs.length = ds.length := by
  simp only [cutR, Bool.and_eq_true, decide_eq_true_eq] at h
  exact ⟨(dclR_iff.1 h.1.1).1, h.1.2⟩

set_option maxHeartbeats 1000000 in
theorem implGauge_any (a b : Option Addr) (c c2 n : Nat) (ds : List Dc) (xs : List Iw) (w : World) (hr : RdD w a ds) (hs : RdII w b xs) (hn : xs.length = n) :
    Calls Try.prog 7 #[.slice a ds.length c, .agg #[.slice b n c2]] w fun e w' => e = .returned (.int .i64 (gauR ds (xs.map Iw.ks))) ∧ Below w.heap.size w w' := by
  have s0 := Bq.start w (.slice b n c2) 27
  have HCC := kide (implCuts_any a b c c2 n ds xs _ (hr.later s0.below) (hs.later s0.below) hn)
  have c0 := s0.cell
  have hl1 := hr.1
  have hl2 := hs.1
  rw [hn] at hl2
  cases hC : cutR ds (xs.map Iw.ks) with
  | false =>
    have hR : gauR ds (xs.map Iw.ks) = -1 := by simp [gauR, hC]
    rw [hR]
    rw [hC] at HCC
    clear hR hC hr hs
    go_enter Try.func7, Try.ntmps7
    go_wp2_with fail
    refine Calls.mono HCC.out ?_
    rintro e w1 ⟨rfl, hb1⟩
    have s1 := s0.next hb1
    go_wp2_with fail
    go_ret
    exact ⟨rfl, s1.below⟩
  | true =>
    obtain ⟨h60, hll⟩ := cutR_len hC
    rw [List.length_map, hn] at hll
    have hR : gauR ds (xs.map Iw.ks) = (ds.length : Int) + sumLen ((xs.map Iw.ks).take n) := by
      simp only [gauR, hC, if_true]
      rw [List.take_of_length_le (by simp [hn])]
    rw [hR]
    rw [hC] at HCC
    have HR := kide hr
    have HS := kide hs
    have HN := kide hn
    have HLL := kide hll
    have hn60 : n ≤ 60 := by omega
    clear hR hC hr hs hn hll
    go_enter Try.func7, Try.ntmps7
    go_wp2_with fail
    refine Calls.mono HCC.out ?_
    rintro e w1 ⟨rfl, hb1⟩
    have s1 := s0.next hb1
    have c1 := s1.cell
    clear hb1 s0 c0
    go_wp2_with fail
    go_loop [5, 17] (fun q i => ∃ k : Nat, k ≤ n ∧ i = .int .i64 (k : Int) ∧ q = .int .i64 ((ds.length : Int) + sumLen ((xs.map Iw.ks).take k)) ∧ 0 ≤ sumLen ((xs.map Iw.ks).take k) ∧ sumLen ((xs.map Iw.ks).take k) ≤ 1048576 * (k : Int)) (fun _ i => n - (intOf i).toNat)
    case atStart => exact ⟨0, Nat.zero_le _, rfl, by simp [sumLen], by simp [sumLen], by simp [sumLen]⟩
    case round =>
      obtain ⟨k, hk, rfl, rfl, hq0, hq1⟩ := hrel
      by_cases hlt : k < n
      · obtain ⟨-, h | ⟨b2, o2, rfl, hc2⟩⟩ := HS.out
        · have := HN.out; subst h; simp at this; omega
        obtain ⟨⟨a1, c1', k1⟩, gx⟩ : ∃ x, xs[k]? = some x := ⟨xs[k]'(by rw [HN.out]; exact hlt), List.getElem?_eq_getElem _⟩
        obtain ⟨p1, p2⟩ := (hc2 k _ gx).later s1.below
        simp only [] at p1 p2
        have hkl := p2.1
        have hst := sumLen_take (cs := xs.map Iw.ks) (k := k) (c := k1) (by rw [List.getElem?_map, gx]; rfl)
        have HST := kide hst
        have i0 : (k : Int) < (n : Int) := by omega
        clear hc2 gx hst p2 HS
        generalize sumLen ((xs.map Iw.ks).take k) = Q at *
        go_wp2_with fail
        go_round
        case rel => exact ⟨k + 1, by omega, by go_num, by rw [HST.out]; first | go_num | (congr 1; omega), by rw [HST.out]; omega, by rw [HST.out]; omega⟩
        case measure => simp [intOf]; omega
      · have e : k = n := by omega
        subst e
        clear HS
        generalize hQ : sumLen ((xs.map Iw.ks).take k) = Q at *
        have HQ := kide hQ
        clear hQ
        go_wp2_with fail
        go_ret
        exact ⟨ret_int (by rw [HQ.out]), s1.below⟩

set_option maxHeartbeats 1000000 in
theorem specGauge_any (a b : Option Addr) (c c2 n : Nat) (ds : List Dc) (xs : List Iw) (w : World) (hr : RdD w a ds) (hs : RdII w b xs) (hn : xs.length = n) :
    Calls Try.prog 8 #[.slice a ds.length c, .agg #[.slice b n c2]] w fun e w' => e = .returned (.int .i64 (gauR ds (xs.map Iw.ks))) ∧ Below w.heap.size w w' := by
  have s0 := Bq.start w (.slice b n c2) 27
  have HCC := kide (specCuts_any a b c c2 n ds xs _ (hr.later s0.below) (hs.later s0.below) hn)
  have c0 := s0.cell
  have hl1 := hr.1
  have hl2 := hs.1
  rw [hn] at hl2
  cases hC : cutR ds (xs.map Iw.ks) with
  | false =>
    have hR : gauR ds (xs.map Iw.ks) = -1 := by simp [gauR, hC]
    rw [hR]
    rw [hC] at HCC
    clear hR hC hr hs
    go_enter Try.func8, Try.ntmps8
    go_wp2_with fail
    refine Calls.mono HCC.out ?_
    rintro e w1 ⟨rfl, hb1⟩
    have s1 := s0.next hb1
    go_wp2_with fail
    go_ret
    exact ⟨rfl, s1.below⟩
  | true =>
    obtain ⟨h60, hll⟩ := cutR_len hC
    rw [List.length_map, hn] at hll
    have hR : gauR ds (xs.map Iw.ks) = (ds.length : Int) + sumLen ((xs.map Iw.ks).take n) := by
      simp only [gauR, hC, if_true]
      rw [List.take_of_length_le (by simp [hn])]
    rw [hR]
    rw [hC] at HCC
    have HR := kide hr
    have HS := kide hs
    have HN := kide hn
    have HLL := kide hll
    have hn60 : n ≤ 60 := by omega
    clear hR hC hr hs hn hll
    go_enter Try.func8, Try.ntmps8
    go_wp2_with fail
    refine Calls.mono HCC.out ?_
    rintro e w1 ⟨rfl, hb1⟩
    have s1 := s0.next hb1
    have c1 := s1.cell
    clear hb1 s0 c0
    go_wp2_with fail
    go_loop [5, 6] (fun q i => ∃ k : Nat, k ≤ n ∧ i = .int .i64 (k : Int) ∧ q = .int .i64 ((ds.length : Int) + sumLen ((xs.map Iw.ks).take k)) ∧ 0 ≤ sumLen ((xs.map Iw.ks).take k) ∧ sumLen ((xs.map Iw.ks).take k) ≤ 1048576 * (k : Int)) (fun _ i => n - (intOf i).toNat)
    case atStart => exact ⟨0, Nat.zero_le _, rfl, by simp [sumLen], by simp [sumLen], by simp [sumLen]⟩
    case round =>
      obtain ⟨k, hk, rfl, rfl, hq0, hq1⟩ := hrel
      by_cases hlt : k < n
      · obtain ⟨-, h | ⟨b2, o2, rfl, hc2⟩⟩ := HS.out
        · have := HN.out; subst h; simp at this; omega
        obtain ⟨⟨a1, c1', k1⟩, gx⟩ : ∃ x, xs[k]? = some x := ⟨xs[k]'(by rw [HN.out]; exact hlt), List.getElem?_eq_getElem _⟩
        obtain ⟨p1, p2⟩ := (hc2 k _ gx).later s1.below
        simp only [] at p1 p2
        have hkl := p2.1
        have hst := sumLen_take (cs := xs.map Iw.ks) (k := k) (c := k1) (by rw [List.getElem?_map, gx]; rfl)
        have HST := kide hst
        have i0 : (k : Int) < (n : Int) := by omega
        clear hc2 gx hst p2 HS
        generalize sumLen ((xs.map Iw.ks).take k) = Q at *
        go_wp2_with fail
        go_round
        case rel => exact ⟨k + 1, by omega, by go_num, by rw [HST.out]; first | go_num | (congr 1; omega), by rw [HST.out]; omega, by rw [HST.out]; omega⟩
        case measure => simp [intOf]; omega
      · have e : k = n := by omega
        subst e
        clear HS
        generalize hQ : sumLen ((xs.map Iw.ks).take k) = Q at *
        have HQ := kide hQ
        clear hQ
        go_wp2_with fail
        go_ret
        exact ⟨ret_int (by rw [HQ.out]), s1.below⟩

end Go.Proofs.Ytnfagdfaphihhaa
