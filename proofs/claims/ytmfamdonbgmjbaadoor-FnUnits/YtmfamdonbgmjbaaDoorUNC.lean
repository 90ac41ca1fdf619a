/- How a clause stands, on the given side. -/
import Derived.Test.YtmfamdonbgmjbaaDoorUNB
import Derived.Handy
namespace Go.Proofs.YtmfamdonbgmjbaaDoor
set_option linter.unusedVariables false
set_option linter.unusedSimpArgs false
open Go.RowKit

/-- What stands, by switches. -/
def stT (S : Nat) (T : List Int) : List Int := (List.range (S + 1)).map fun (j : Nat) => if (j : Int) ∈ T then (j : Int) else if -(j : Int) ∈ T then -(j : Int) else 0
theorem stT_len (S : Nat) (T : List Int) : (stT S T).length = S + 1 := by simp [stT]
theorem stT_at {S : Nat} {T : List Int} (hT : Tk S T) {n : Int} (hn : n ≠ 0 ∧ -(S : Int) ≤ n ∧ n ≤ (S : Int)) : ∃ j : Nat, absI n = (j : Int) ∧ 1 ≤ j ∧ j ≤ S ∧ (stT S T)[j]? = some (if n ∈ T then n else if -n ∈ T then -n else 0) := by
  have hab := absI_def n
  refine ⟨(absI n).toNat, ?_, ?_, ?_, ?_⟩
  · rw [hab]; split <;> omega
  · rw [hab]; split <;> omega
  · rw [hab]; split <;> omega
  · have hj : (absI n).toNat < S + 1 := by rw [hab]; split <;> omega
    unfold stT
    rw [List.getElem?_map, List.getElem?_range hj, Option.map_some]
    congr 1
    have he : ((absI n).toNat : Int) = absI n := by rw [hab]; split <;> omega
    rw [he, hab]
    by_cases h0 : 0 ≤ n
    · rw [if_pos h0]
    · rw [if_neg h0, Int.neg_neg]
      by_cases h1 : n ∈ T
      · rw [if_pos h1, if_pos h1, if_neg (hT.opp h1)]
      · rw [if_neg h1, if_neg h1]
theorem stT_snoc {S : Nat} {T : List Int} {x : Int} (h2 : x ∉ T) (h3 : -x ∉ T) : stT S (T ++ [x]) = (stT S T).set (absI x).toNat x := by
  apply List.ext_getElem?
  intro i
  rw [List.getElem?_set]
  unfold stT
  rw [List.getElem?_map, List.getElem?_map, List.length_map, List.length_range]
  by_cases hi : i < S + 1
  · rw [List.getElem?_range hi, Option.map_some, Option.map_some]
    have hab := absI_def x
    by_cases e : (absI x).toNat = i
    · rw [if_pos e, show (if (absI x).toNat < S + 1 then some x else none) = some x from if_pos (by omega)]
      congr 1
      by_cases h0 : 0 ≤ x
      · rw [if_pos h0] at hab
        have : (i : Int) = x := by omega
        rw [this]
        simp
      · rw [if_neg h0] at hab
        have : (i : Int) = -x := by omega
        rw [this, Int.neg_neg, if_neg (by simp [h3]; omega), if_pos (by simp)]
    · rw [if_neg e]
      congr 1
      have e1 : (i : Int) ≠ x := fun e9 => e (by rw [hab, if_pos (by omega)]; omega)
      have e2 : -(i : Int) ≠ x := fun e9 => e (by rw [hab]; split <;> omega)
      simp only [List.mem_append, List.mem_singleton, e1, e2, or_false]
  · rw [List.getElem?_eq_none (by simp; omega)]
    simp only [Option.map_none]
    split
    · rw [if_neg (by omega)]
    · rfl
/-- How a clause stands: nothing to do, one is left, none is left. -/
def stR (T cl : List Int) : Int × Int := if metB T cl = true then (0, 0) else match opn T cl with | [] => (2, 0) | [x] => (1, x) | _ => (0, 0)
theorem opn_next {T cl : List Int} {k : Nat} {n : Int} (h : cl[k]? = some n) : opn T (cl.take (k + 1)) = opn T (cl.take k) ++ (if n ∉ T ∧ -n ∉ T then [n] else []) := by
  unfold opn
  rw [List.take_add_one, h, List.filter_append]
  by_cases h1 : n ∉ T ∧ -n ∉ T
  · rw [if_pos h1]; simp [h1.1, h1.2]
  · rw [if_neg h1]
    simp only [Option.toList_some, List.append_cancel_left_eq, List.filter_eq_nil_iff, List.mem_singleton]
    rintro a rfl
    simp only [Bool.and_eq_true, decide_eq_true_eq]
    exact h1
theorem met_next {T cl : List Int} {k : Nat} {n : Int} (h : cl[k]? = some n) : metB T (cl.take (k + 1)) = (metB T (cl.take k) || decide (n ∈ T)) := by
  unfold metB
  rw [List.take_add_one, h, List.any_append]
  simp
theorem met_sub {T cl : List Int} {k : Nat} (h : metB T (cl.take k) = true) : metB T cl = true := by
  obtain ⟨n, h1, h2⟩ := metB_iff.1 h
  exact metB_iff.2 ⟨n, List.mem_of_mem_take h1, h2⟩

set_option maxHeartbeats 1000000 in
set_option maxRecDepth 100000 in
theorem l18State_any {S : Nat} {T cl : List Int} (ca sa : Option Addr) (cc sc nc ns : Nat) (w : World) (hc : RdI w ca cl) (hnc : cl.length = nc) (hs : RdI w sa (stT S T)) (hns : S + 1 = ns) (hT : Tk S T) (hcl : ∀ n ∈ cl, n ≠ 0 ∧ -(S : Int) ≤ n ∧ n ≤ (S : Int)) (hS : S ≤ 400) (hl : nc ≤ 400) :
    Calls Tryd.prog 56 #[.slice ca nc cc, .slice sa ns sc] w fun e w' => e = .returned (.tuple #[.int .i64 (stR T cl).1, .int .i64 (stR T cl).2]) ∧ w' = w := by
  obtain ⟨R, hR⟩ : ∃ R, stR T cl = R := ⟨_, rfl⟩
  rw [hR]
  have HR := kide hR
  have HC := kide hc
  have HS := kide hs
  have HNC := kide hnc
  have HNS := kide hns
  have HT := kide hT
  have HCL := kide hcl
  have HS4 := kide hS
  have HL4 := kide hl
  clear hR hc hs hnc hns hT hcl hS hl
  go_enter Tryd.func56, Tryd.ntmps56
  go_wp2_with fail
  go_loopw [6, 7, 8] (fun lf ct i wr => ∃ k : Nat, k ≤ nc ∧ i = .int .i64 (k : Int) ∧ wr = w ∧ metB T (cl.take k) = false ∧ ct = .int .i64 ((opn T (cl.take k)).length : Int) ∧ lf = .int .i64 ((opn T (cl.take k)).getLast?.getD 0)) (fun _ _ i _ => nc - (intOf i).toNat)
  case atStart => exact ⟨0, Nat.zero_le _, rfl, rfl, rfl, rfl, rfl⟩
  case round =>
    obtain ⟨k, hk, rfl, rfl, hm, rfl, rfl⟩ := hrel
    have HM := kide hm
    clear hm
    by_cases hlt : k < nc
    · obtain ⟨n, hn⟩ : ∃ n, cl[k]? = some n := getE (by rw [HNC.out]; exact hlt)
      obtain ⟨-, -, h | ⟨b1, o1, rfl, hc1⟩⟩ := HC.out
      · rw [h] at hn; simp at hn
      obtain ⟨-, -, h | ⟨b2, o2, rfl, hc2⟩⟩ := HS.out
      · have := stT_len S T; rw [h] at this; simp at this
      have p0 := hc1 k (by rw [HNC.out]; exact hlt)
      rw [show cl.getD k 0 = n by simp [List.getD, hn]] at p0
      have hnb := HCL.out n (List.mem_of_getElem? hn)
      obtain ⟨j, hj1, hj2, hj3, hj4⟩ := stT_at HT.out hnb
      have q0 := hc2 j (by rw [stT_len]; omega)
      rw [show (stT S T).getD j 0 = (if n ∈ T then n else if -n ∈ T then -n else 0) by simp [List.getD, hj4]] at q0
      have HAB := kide (fun u => l18Abs_any n (by have := HS4.out; omega) u)
      rw [hj1] at HAB
      have HON := kide (opn_next (T := T) hn)
      have HMN := kide (met_next (T := T) hn)
      rw [HM.out] at HMN
      obtain ⟨O, hO⟩ : ∃ O, opn T (cl.take k) = O := ⟨_, rfl⟩
      have hOl : O.length ≤ 400 := by
        rw [← hO]
        refine Nat.le_trans (List.length_filter_le _ _) ?_
        rw [List.length_take]
        have := HL4.out
        omega
      rw [hO] at HON ⊢
      have HOL := kide hOl
      have k0 : (k : Int) < (nc : Int) := by omega
      have k1 : (j : Int) < (ns : Int) := by have := HNS.out; omega
      have k2 : IntKind.i64.wrap ((k : Int) + 1) = (k : Int) + 1 := by rw [IntKind.wrap_i64]; have := HL4.out; omega
      have k3 : IntKind.i64.wrap ((O.length : Int) + 1) = (O.length : Int) + 1 := by rw [IntKind.wrap_i64]; omega
      have HKL := kide hlt
      have HN := kide hn
      have HNB := kide hnb
      obtain ⟨LA, hLA⟩ : ∃ z, O.getLast?.getD 0 = z := ⟨_, rfl⟩
      rw [hLA]
      obtain ⟨CN, hCN⟩ : ∃ z : Nat, O.length = z := ⟨_, rfl⟩
      rw [hCN] at k3 ⊢
      have HLA := kide hLA
      have HCN := kide hCN
      clear hc1 hc2 hn hnb hj1 hj2 hj3 hj4 hO hOl hlt hk hLA hCN
      by_cases h1 : n ∈ T
      · rw [if_pos h1] at q0
        have HF : Hid (R = (0, 0)) := by
          show _ = _
          rw [← HR.out]
          unfold stR
          rw [if_pos (metB_iff.2 ⟨n, List.mem_of_getElem? HN.out, h1⟩)]
        have e1 : (n == n) = true := by simp
        clear h1 HMN HON
        go_wp2_with fail
        refine Calls.mono (HAB.out _) ?_
        rintro e w2 ⟨rfl, hw2⟩
        obtain rfl := hw2.symm
        clear hw2
        go_wp2_with fail
        exact bodyPost_ret (v := .tuple #[.int .i64 0, .int .i64 0]) (by simp [results, Tryd.results56, go_sem]) rfl ⟨by rw [HF.out], rfl⟩
      · rw [if_neg h1] at q0
        rw [decide_eq_false h1] at HMN
        by_cases h2 : -n ∈ T
        · rw [if_pos h2] at q0
          rw [if_neg (fun h9 => h9.2 h2), List.append_nil] at HON
          have e1 : (-n == n) = false := beq_eq_false_iff_ne.2 (by have := HNB.out; omega)
          have e2 : (-n == 0) = false := beq_eq_false_iff_ne.2 (by have := HNB.out; omega)
          obtain ⟨N, hN⟩ : ∃ N, -n = N := ⟨_, rfl⟩
          rw [hN] at q0 e1 e2
          clear h1 h2 hN
          go_wp2_with fail
          refine Calls.mono (HAB.out _) ?_
          rintro e w2 ⟨rfl, hw2⟩
          obtain rfl := hw2.symm
          clear hw2
          go_wp2_with fail
          go_roundw
          case rel => exact ⟨k + 1, HKL.out, by go_num, trivial, by rw [HMN.out]; rfl, by rw [HON.out, HCN.out], by rw [HON.out, HLA.out]⟩
          case measure => have := HKL.out; simp only [intOf]; omega
        · rw [if_neg h2] at q0
          rw [if_pos ⟨h1, h2⟩] at HON
          have e1 : ((0 : Int) == n) = false := beq_eq_false_iff_ne.2 (by have := HNB.out; omega)
          clear h1 h2
          go_wp2_with fail
          refine Calls.mono (HAB.out _) ?_
          rintro e w2 ⟨rfl, hw2⟩
          obtain rfl := hw2.symm
          clear hw2
          go_wp2_with fail
          go_roundw
          case rel => exact ⟨k + 1, HKL.out, by go_num, trivial, by rw [HMN.out]; rfl, by rw [HON.out, List.length_append, HCN.out]; go_num, by rw [HON.out]; simp⟩
          case measure => have := HKL.out; simp only [intOf]; omega
    · have k0 : ¬ (k : Int) < (nc : Int) := by omega
      have htk : cl.take k = cl := List.take_of_length_le (by rw [HNC.out]; omega)
      rw [htk] at HM
      rw [htk]
      have hRR := HR.out
      unfold stR at hRR
      rw [HM.out] at hRR
      simp only [Bool.false_eq_true, if_false] at hRR
      clear htk hlt hk HC HS
      cases hO : opn T cl with
      | nil =>
        rw [hO] at hRR
        subst hRR
        clear hO HR
        go_wp2_with fail
        exact bodyPost_ret (v := .tuple #[.int .i64 2, .int .i64 0]) (by simp [results, Tryd.results56, go_sem]) rfl ⟨rfl, rfl⟩
      | cons x t =>
        cases t with
        | nil =>
          rw [hO] at hRR
          subst hRR
          clear hO HR
          go_wp2_with fail
          exact bodyPost_ret (v := .tuple #[.int .i64 1, .int .i64 x]) (by simp [results, Tryd.results56, go_sem]) rfl ⟨rfl, rfl⟩
        | cons y u =>
          rw [hO] at hRR
          subst hRR
          have e1 : (((x :: y :: u).length : Int) == 0) = false := beq_eq_false_iff_ne.2 (by simp; omega)
          have e2 : (((x :: y :: u).length : Int) == 1) = false := beq_eq_false_iff_ne.2 (by simp; omega)
          generalize ((x :: y :: u).length : Int) = CN at *
          generalize (x :: y :: u).getLast?.getD 0 = LA at *
          clear hO HR
          go_wp2_with fail
          exact bodyPost_ret (v := .tuple #[.int .i64 0, .int .i64 0]) (by simp [results, Tryd.results56, go_sem]) rfl ⟨rfl, rfl⟩
end Go.Proofs.YtmfamdonbgmjbaaDoor
