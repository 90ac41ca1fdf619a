/- Several texts in one. -/
import Derived.Test.YtmfamdonbgmjbaaDoorZGAC
import Derived.Test.YtmfamdonbgmjbaaDoorZGAB
import Derived.Handy
import Derived.Test.YtmfamdonbgmjbaaDoorZGAF

/- A row of numbers of one's own that is written to. -/
namespace Go.Proofs.YtmfamdonbgmjbaaDoor
set_option linter.unusedVariables false
set_option linter.unusedSimpArgs false
open Go.RowKit

theorem OI.cellO {w : World} {B g n c : Nat} {l : List Int} (h : OI w B (.slice (some ⟨g, 0, none⟩) n c) l) {i : Nat} (hi : i < l.length) : w.cell? ⟨g, i, none⟩ = some (.int .i64 (l.getD i 0)) := by
  rcases h.2 with ⟨e, -⟩ | ⟨g', cap, cur, e, hg, hh, hc1, hc2, hsz, hcur⟩
  · cases e
  · cases e
    have h3 : (cur.toList.take (l.length * 1))[i]? = (i64s l).toList[i]? := by rw [hcur]
    rw [List.getElem?_take, if_pos (by omega)] at h3
    simp only [Array.getElem?_toList] at h3
    rw [cell_of_row w _ i cur _ _ hh, h3, i64s_get _ _ hi]
theorem OI.frozO {w : World} {B g n c : Nat} {l : List Int} (h : OI w B (.slice (some ⟨g, 0, none⟩) n c) l) (i : Nat) : w.frozen? ⟨g, i, none⟩ = false := by
  rcases h.2 with ⟨e, -⟩ | ⟨g', cap, cur, e, hg, hh, hc1, hc2, hsz, hcur⟩
  · cases e
  · cases e
    exact frozen_of_row w _ i _ _ hh
theorem OI.setO {w : World} {B g n c : Nat} {l : List Int} (h : OI w B (.slice (some ⟨g, 0, none⟩) n c) l) {i : Nat} (hi : i < l.length) (x : Int) : OI (w.setCell ⟨g, i, none⟩ (.int .i64 x)) B (.slice (some ⟨g, 0, none⟩) n c) (l.set i x) := by
  rcases h.2 with ⟨e, -⟩ | ⟨g', cap, cur, e, hg, hh, hc1, hc2, hsz, hcur⟩
  · cases e
  · cases e
    refine ⟨by simp [i64s], .inr ⟨g, c, cur.setIfInBounds i (.int .i64 x), by simp, hg, heap_setCell_same w g i _ _ _ hh, by simpa using hc1, hc2, by simpa using hsz, ?_⟩⟩
    have e2 : (i64s (l.set i x)).toList = (i64s l).toList.set i (.int .i64 x) := by simp [i64s, List.map_set]
    rw [Array.toList_setIfInBounds, e2, ← hcur, List.take_set]
    simp
theorem make_i64s (n : Nat) (hn : n ≤ 1048576) (kl kc : IntKind) (w : World) :
    (Instr.makeSlice 25 (.int kl (n : Int)) (.int kc (n : Int))).run Tryd.prog w = .ok (.slice (some ⟨w.heap.size, 0, none⟩) n n) (w.alloc (.cells (madeCells #[.int .i64 0] n) 2)) := by
  obtain ⟨i0, hi, hz0, hz1, hz2⟩ := info_parts (show (Tryd.prog.info? 2).map (fun i => (i.zero, i.size, i.bytes)) = some (some (.int .i64 0), 1, 8) by kernel_rfl)
  have := run_make (P := Tryd.prog) w 25 2 i0 _ Tryd.underlying25 hi hz0 kl kc n n (by omega) (Int.le_refl _) (by rw [hz2]; omega) (by omega)
  rw [hz1, Nat.mul_one] at this
  simp only [Int.toNat_natCast] at this
  exact this
theorem OI.zeros (w : World) (B n : Nat) (hB : B ≤ w.heap.size) (hn : n ≤ 1048576) : OI (w.alloc (.cells (madeCells #[.int .i64 0] n) 2)) B (.slice (some ⟨w.heap.size, 0, none⟩) n n) (List.replicate n 0) := by
  refine ⟨by simp [i64s], .inr ⟨w.heap.size, n, _, by simp, hB, heap_alloc_new w _, by simp, by unfold maxLen; omega, by simp [size_madeCells], ?_⟩⟩
  rw [toList_madeCells_one]
  simp [i64s]
end Go.Proofs.YtmfamdonbgmjbaaDoor

/- How a clause stands, on the given side. -/
namespace Go.Proofs.YtmfamdonbgmjbaaDoor
set_option linter.unusedVariables false
set_option linter.unusedSimpArgs false
open Go.RowKit

/-- What stands, by switches. -/
def stT (S : Nat) (T : List Int) : List Int := (List.range (S + 1)).map fun (j : Nat) => if (j : Int) ∈ T then (j : Int) else if -(j : Int) ∈ T then -(j : Int) else 0
theorem stT_len (S : Nat) (T : List Int) : (stT S T).length = S + 1 := by simp [stT]
theorem stT_at {S : Nat} {T : List Int} (hT : Tk S T) {n : Int} (hn : n ≠ 0 ∧ -(S : Int) ≤ n ∧ n ≤ (S : Int)) : ∃ j : Nat, absI n = (j : Int) ∧ 1 ≤ j ∧ j ≤ S ∧ (stT S T)[j]? = some (if n ∈ T then n else if -n ∈ T then -n else 0) := by
  have hab := absI_def n
  refine ⟨(absI n).toNat, ?_, ?_, ?_, ?_⟩
  · rw [hab]; split <;> omega
  · rw [hab]; split <;> omega
  · rw [hab]; split <;> omega
  · have hj : (absI n).toNat < S + 1 := by rw [hab]; split <;> omega
    unfold stT
    rw [List.getElem?_map, List.getElem?_range hj, Option.map_some]
    congr 1
    have he : ((absI n).toNat : Int) = absI n := by rw [hab]; split <;> omega
    rw [he, hab]
    by_cases h0 : 0 ≤ n
    · rw [if_pos h0]
    · rw [if_neg h0, Int.neg_neg]
      by_cases h1 : n ∈ T
      · rw [if_pos h1, if_pos h1, if_neg (hT.opp h1)]
      · rw [if_neg h1, if_neg h1]
theorem stT_snoc {S : Nat} {T : List Int} {x : Int} (h2 : x ∉ T) (h3 : -x ∉ T) : stT S (T ++ [x]) = (stT S T).set (absI x).toNat x := by
  apply List.ext_getElem?
  intro i
  rw [List.getElem?_set]
  unfold stT
  rw [List.getElem?_map, List.getElem?_map, List.length_map, List.length_range]
  by_cases hi : i < S + 1
  · rw [List.getElem?_range hi, Option.map_some, Option.map_some]
    have hab := absI_def x
    by_cases e : (absI x).toNat = i
    · rw [if_pos e, show (if (absI x).toNat < S + 1 then some x else none) = some x from if_pos (by omega)]
      congr 1
      by_cases h0 : 0 ≤ x
      · rw [if_pos h0] at hab
        have : (i : Int) = x := by omega
        rw [this]
        simp
      · rw [if_neg h0] at hab
        have : (i : Int) = -x := by omega
        rw [this, Int.neg_neg, if_neg (by simp [h3]; omega), if_pos (by simp)]
    · rw [if_neg e]
      congr 1
      have e1 : (i : Int) ≠ x := fun e9 => e (by rw [hab, if_pos (by omega)]; omega)
      have e2 : -(i : Int) ≠ x := fun e9 => e (by rw [hab]; split <;> omega)
      simp only [List.mem_append, List.mem_singleton, e1, e2, or_false]
  · rw [List.getElem?_eq_none (by simp; omega)]
    simp only [Option.map_none]
    split
    · rw [if_neg (by omega)]
    · rfl
/-- How a clause stands: nothing to do, one is left, none is left. -/
def stR (T cl : List Int) : Int × Int := if metB T cl = true then (0, 0) else match opn T cl with | [] => (2, 0) | [x] => (1, x) | _ => (0, 0)
theorem opn_next {T cl : List Int} {k : Nat} {n : Int} (h : cl[k]? = some n) : opn T (cl.take (k + 1)) = opn T (cl.take k) ++ (if n ∉ T ∧ -n ∉ T then [n] else []) := by
  unfold opn
  rw [List.take_add_one, h, List.filter_append]
  by_cases h1 : n ∉ T ∧ -n ∉ T
  · rw [if_pos h1]; simp [h1.1, h1.2]
  · rw [if_neg h1]
    simp only [Option.toList_some, List.append_cancel_left_eq, List.filter_eq_nil_iff, List.mem_singleton]
    rintro a rfl
    simp only [Bool.and_eq_true, decide_eq_true_eq]
    exact h1
theorem met_next {T cl : List Int} {k : Nat} {n : Int} (h : cl[k]? = some n) : metB T (cl.take (k + 1)) = (metB T (cl.take k) || decide (n ∈ T)) := by
  unfold metB
  rw [List.take_add_one, h, List.any_append]
  simp
theorem met_sub {T cl : List Int} {k : Nat} (h : metB T (cl.take k) = true) : metB T cl = true := by
  obtain ⟨n, h1, h2⟩ := metB_iff.1 h
  exact metB_iff.2 ⟨n, List.mem_of_mem_take h1, h2⟩

set_option maxHeartbeats 1000000 in
set_option maxRecDepth 100000 in
theorem l18State_any {S : Nat} {T cl : List Int} (ca sa : Option Addr) (cc sc nc ns : Nat) (w : World) (hc : RdI w ca cl) (hnc : cl.length = nc) (hs : RdI w sa (stT S T)) (hns : S + 1 = ns) (hT : Tk S T) (hcl : ∀ n ∈ cl, n ≠ 0 ∧ -(S : Int) ≤ n ∧ n ≤ (S : Int)) (hS : S ≤ 400) (hl : nc ≤ 400) :
    Calls Tryd.prog 56 #[.slice ca nc cc, .slice sa ns sc] w fun e w' => e = .returned (.tuple #[.int .i64 (stR T cl).1, .int .i64 (stR T cl).2]) ∧ w' = w := by
  obtain ⟨R, hR⟩ : ∃ R, stR T cl = R := ⟨_, rfl⟩
  rw [hR]
  have HR := kide hR
  have HC := kide hc
  have HS := kide hs
  have HNC := kide hnc
  have HNS := kide hns
  have HT := kide hT
  have HCL := kide hcl
  have HS4 := kide hS
  have HL4 := kide hl
  clear hR hc hs hnc hns hT hcl hS hl
  go_enter Tryd.func56, Tryd.ntmps56
  go_wp2_with fail
  go_loopw [6, 7, 8] (fun lf ct i wr => ∃ k : Nat, k ≤ nc ∧ i = .int .i64 (k : Int) ∧ wr = w ∧ metB T (cl.take k) = false ∧ ct = .int .i64 ((opn T (cl.take k)).length : Int) ∧ lf = .int .i64 ((opn T (cl.take k)).getLast?.getD 0)) (fun _ _ i _ => nc - (intOf i).toNat)
  case atStart => exact ⟨0, Nat.zero_le _, rfl, rfl, rfl, rfl, rfl⟩
  case round =>
    obtain ⟨k, hk, rfl, rfl, hm, rfl, rfl⟩ := hrel
    have HM := kide hm
    clear hm
    by_cases hlt : k < nc
    · obtain ⟨n, hn⟩ : ∃ n, cl[k]? = some n := getE (by rw [HNC.out]; exact hlt)
      obtain ⟨-, -, h | ⟨b1, o1, rfl, hc1⟩⟩ := HC.out
      · rw [h] at hn; simp at hn
      obtain ⟨-, -, h | ⟨b2, o2, rfl, hc2⟩⟩ := HS.out
      · have := stT_len S T; rw [h] at this; simp at this
      have p0 := hc1 k (by rw [HNC.out]; exact hlt)
      rw [show cl.getD k 0 = n by simp [List.getD, hn]] at p0
      have hnb := HCL.out n (List.mem_of_getElem? hn)
      obtain ⟨j, hj1, hj2, hj3, hj4⟩ := stT_at HT.out hnb
      have q0 := hc2 j (by rw [stT_len]; omega)
      rw [show (stT S T).getD j 0 = (if n ∈ T then n else if -n ∈ T then -n else 0) by simp [List.getD, hj4]] at q0
      have HAB := kide (fun u => l18Abs_any n (by have := HS4.out; omega) u)
      rw [hj1] at HAB
      have HON := kide (opn_next (T := T) hn)
      have HMN := kide (met_next (T := T) hn)
      rw [HM.out] at HMN
      obtain ⟨O, hO⟩ : ∃ O, opn T (cl.take k) = O := ⟨_, rfl⟩
      have hOl : O.length ≤ 400 := by
        rw [← hO]
        refine Nat.le_trans (List.length_filter_le _ _) ?_
        rw [List.length_take]
        have := HL4.out
        omega
      rw [hO] at HON ⊢
      have HOL := kide hOl
      have k0 : (k : Int) < (nc : Int) := by omega
      have k1 : (j : Int) < (ns : Int) := by have := HNS.out; omega
      have k2 : IntKind.i64.wrap ((k : Int) + 1) = (k : Int) + 1 := by rw [IntKind.wrap_i64]; have := HL4.out; omega
      have k3 : IntKind.i64.wrap ((O.length : Int) + 1) = (O.length : Int) + 1 := by rw [IntKind.wrap_i64]; omega
      have HKL := kide hlt
      have HN := kide hn
      have HNB := kide hnb
      obtain ⟨LA, hLA⟩ : ∃ z, O.getLast?.getD 0 = z := ⟨_, rfl⟩
      rw [hLA]
      obtain ⟨CN, hCN⟩ : ∃ z : Nat, O.length = z := ⟨_, rfl⟩
      rw [hCN] at k3 ⊢
      have HLA := kide hLA
      have HCN := kide hCN
      clear hc1 hc2 hn hnb hj1 hj2 hj3 hj4 hO hOl hlt hk hLA hCN
      by_cases h1 : n ∈ T
      · rw [if_pos h1] at q0
        have HF : Hid (R = (0, 0)) := by
          show _ = _
          rw [← HR.out]
          unfold stR
          rw [if_pos (metB_iff.2 ⟨n, List.mem_of_getElem? HN.out, h1⟩)]
        have e1 : (n == n) = true := by simp
        clear h1 HMN HON
        go_wp2_with fail
        refine Calls.mono (HAB.out _) ?_
        rintro e w2 ⟨rfl, hw2⟩
        obtain rfl := hw2.symm
        clear hw2
        go_wp2_with fail
        exact bodyPost_ret (v := .tuple #[.int .i64 0, .int .i64 0]) (by simp [results, Tryd.results56, go_sem]) rfl ⟨by rw [HF.out], rfl⟩
      · rw [if_neg h1] at q0
        rw [decide_eq_false h1] at HMN
        by_cases h2 : -n ∈ T
        · rw [if_pos h2] at q0
          rw [if_neg (fun h9 => h9.2 h2), List.append_nil] at HON
          have e1 : (-n == n) = false := beq_eq_false_iff_ne.2 (by have := HNB.out; omega)
          have e2 : (-n == 0) = false := beq_eq_false_iff_ne.2 (by have := HNB.out; omega)
          obtain ⟨N, hN⟩ : ∃ N, -n = N := ⟨_, rfl⟩
          rw [hN] at q0 e1 e2
          clear h1 h2 hN
          go_wp2_with fail
          refine Calls.mono (HAB.out _) ?_
          rintro e w2 ⟨rfl, hw2⟩
          obtain rfl := hw2.symm
          clear hw2
          go_wp2_with fail
          go_roundw
          case rel => exact ⟨k + 1, HKL.out, by go_num, trivial, by rw [HMN.out]; rfl, by rw [HON.out, HCN.out], by rw [HON.out, HLA.out]⟩
          case measure => have := HKL.out; simp only [intOf]; omega
        · rw [if_neg h2] at q0
          rw [if_pos ⟨h1, h2⟩] at HON
          have e1 : ((0 : Int) == n) = false := beq_eq_false_iff_ne.2 (by have := HNB.out; omega)
          clear h1 h2
          go_wp2_with fail
          refine Calls.mono (HAB.out _) ?_
          rintro e w2 ⟨rfl, hw2⟩
          obtain rfl := hw2.symm
          clear hw2
          go_wp2_with fail
          go_roundw
          case rel => exact ⟨k + 1, HKL.out, by go_num, trivial, by rw [HMN.out]; rfl, by rw [HON.out, List.length_append, HCN.out]; go_num, by rw [HON.out]; simp⟩
          case measure => have := HKL.out; simp only [intOf]; omega
    · have k0 : ¬ (k : Int) < (nc : Int) := by omega
      have htk : cl.take k = cl := List.take_of_length_le (by rw [HNC.out]; omega)
      rw [htk] at HM
      rw [htk]
      have hRR := HR.out
      unfold stR at hRR
      rw [HM.out] at hRR
      simp only [Bool.false_eq_true, if_false] at hRR
      clear htk hlt hk HC HS
      cases hO : opn T cl with
      | nil =>
        rw [hO] at hRR
        subst hRR
        clear hO HR
        go_wp2_with fail
        exact bodyPost_ret (v := .tuple #[.int .i64 2, .int .i64 0]) (by simp [results, Tryd.results56, go_sem]) rfl ⟨rfl, rfl⟩
      | cons x t =>
        cases t with
        | nil =>
          rw [hO] at hRR
          subst hRR
          clear hO HR
          go_wp2_with fail
          exact bodyPost_ret (v := .tuple #[.int .i64 1, .int .i64 x]) (by simp [results, Tryd.results56, go_sem]) rfl ⟨rfl, rfl⟩
        | cons y u =>
          rw [hO] at hRR
          subst hRR
          have e1 : (((x :: y :: u).length : Int) == 0) = false := beq_eq_false_iff_ne.2 (by simp; omega)
          have e2 : (((x :: y :: u).length : Int) == 1) = false := beq_eq_false_iff_ne.2 (by simp; omega)
          generalize ((x :: y :: u).length : Int) = CN at *
          generalize (x :: y :: u).getLast?.getD 0 = LA at *
          clear hO HR
          go_wp2_with fail
          exact bodyPost_ret (v := .tuple #[.int .i64 0, .int .i64 0]) (by simp [results, Tryd.results56, go_sem]) rfl ⟨rfl, rfl⟩
end Go.Proofs.YtmfamdonbgmjbaaDoor

/- What follows from numbers, on the given side. -/
namespace Go.Proofs.YtmfamdonbgmjbaaDoor
set_option linter.unusedVariables false
set_option linter.unusedSimpArgs false
open Go.RowKit

theorem stT_nil (S : Nat) : stT S [] = List.replicate (S + 1) 0 := by
  unfold stT
  rw [List.eq_replicate_iff]
  refine ⟨by simp, fun b hb => ?_⟩
  obtain ⟨j, -, rfl⟩ := List.mem_map.1 hb
  simp
theorem stT_in {S : Nat} {T : List Int} (hS : S ≤ 400) : ∀ x ∈ stT S T, in64 x := fun x hx => by
  obtain ⟨j, hj, rfl⟩ := List.mem_map.1 hx
  have := List.mem_range.1 hj
  unfold in64
  split
  · omega
  · split <;> omega
theorem Tk.take {S : Nat} {T : List Int} (h : Tk S T) (k : Nat) : Tk S (T.take k) := ⟨fun n hn => h.num n (List.mem_of_mem_take hn), by rw [List.map_take]; exact h.nd.sublist (List.take_sublist _ _)⟩
theorem Tk.next {S : Nat} {T : List Int} (h : Tk S T) {k : Nat} {x : Int} (hx : T[k]? = some x) : x ∉ T.take k ∧ -x ∉ T.take k := by
  have hT := h.take (k + 1)
  rw [List.take_add_one, hx, Option.toList_some] at hT
  have hnd := hT.nd
  rw [List.map_append, List.map_cons, List.map_nil, List.nodup_append] at hnd
  have key : ∀ y ∈ T.take k, absI y ≠ absI x := fun y hy => hnd.2.2 (absI y) (List.mem_map_of_mem hy) (absI x) (by simp)
  exact ⟨fun hm => key x hm rfl, fun hm => key (-x) hm (absI_neg x)⟩
/-- Two rows: what stands, and the numbers in their order. -/
structure Ur (w : World) (S N1 : Nat) (cs : Array Value) (ov : Value) (T O : List Int) (wr : World) : Prop where
  bx : Bz wr w.heap.size cs 29
  st : OI wr (w.heap.size + 1) (.slice (some ⟨w.heap.size + 1, 0, none⟩) N1 N1) (stT S T)
  ot : OI wr (w.heap.size + 2) ov O
  bel : Below w.heap.size w wr
theorem Ur.later {w wr u : World} {S N1 : Nat} {cs : Array Value} {ov : Value} {T O : List Int} (h : Ur w S N1 cs ov T O wr) (hb : Below wr.heap.size wr u) : Ur w S N1 cs ov T O u := ⟨h.bx.later hb, h.st.later hb, h.ot.later hb, h.bel.trans (hb.mono h.bel.size)⟩
theorem bz_oi {w w' : World} {b B : Nat} {v : Value} {l : List Int} {cs : Array Value} {t : TypeId} (hb : Bz w b cs t) (h : OI w B v l) (hB : b < B) (hg : w.grownBy w' v.ownBlock) : Bz w' b cs t := by
  unfold Bz at hb ⊢
  rw [hg.block b (lt_of_block hb) (fun e => by have := (h.lt e.symm).1; omega)]
  exact hb
/-- The row of numbers grows. -/
theorem Ur.app {w wr u : World} {S N1 : Nat} {cs : Array Value} {ov ov' : Value} {T O O' : List Int} (h : Ur w S N1 cs ov T O wr) (ho : OI u (w.heap.size + 2) ov' O') (hg : wr.grownBy u ov.ownBlock) : Ur w S N1 cs ov' T O' u := by
  refine ⟨bz_oi h.bx h.ot (by omega) hg, h.st.move fun b hb => ?_, ho, h.bel.trans ⟨hg.os, hg.tape, hg.output, hg.size, fun k hk => hg.block k (Nat.lt_of_lt_of_le hk h.bel.size) (fun e => by have := (h.ot.lt e.symm).1; omega)⟩⟩
  have hb2 : w.heap.size + 1 = b := Option.some.inj hb
  subst hb2
  exact hg.block _ (h.st.lt (b := w.heap.size + 1) rfl).2 (fun e => by have := (h.ot.lt e.symm).1; omega)
/-- One more stands. -/
theorem Ur.put {w wr : World} {S N1 : Nat} {cs : Array Value} {ov : Value} {T O : List Int} {x : Int} {j : Nat} (h : Ur w S N1 cs ov T O wr) (h2 : x ∉ T) (h3 : -x ∉ T) (hj : absI x = (j : Int)) (hjS : j ≤ S) : Ur w S N1 cs ov (T ++ [x]) O (wr.setCell ⟨w.heap.size + 1, j, none⟩ (.int .i64 x)) := by
  have hst := h.st.setO (i := j) (by rw [stT_len]; omega) x
  refine ⟨?_, ?_, h.ot.move fun b hb => heap_setCell_other _ _ _ _ (fun e => ?_), h.bel.setCell (by simp only []; omega) _⟩
  · unfold Bz
    rw [heap_setCell_other _ _ _ _ (fun e => by simp only [] at e; omega)]
    exact h.bx
  · rw [stT_snoc h2 h3, hj, Int.toNat_natCast]
    exact hst
  · have := (h.ot.lt hb).1
    simp only [] at e
    omega
def lnV (v : Value) : Nat := match v with | .slice _ n _ => n | _ => 0
theorem OI.lnV {w : World} {B : Nat} {v : Value} {l : List Int} (h : OI w B v l) : lnV v = l.length := by
  rcases h.2 with ⟨rfl, h0⟩ | ⟨g, cap, cur, rfl, -⟩
  · rw [h0]; rfl
  · rfl
theorem OI.form9 {w : World} {B : Nat} {v : Value} {l : List Int} (h : OI w B v l) : ∃ a c, v = .slice a l.length c := by
  rcases h.2 with ⟨rfl, h0⟩ | ⟨g, cap, cur, rfl, -⟩
  · exact ⟨none, 0, by rw [h0]⟩
  · exact ⟨_, cap, rfl⟩
def RetUn (R : List Int × Bool) (w : World) (e : Ending) (w' : World) : Prop := ∃ v, e = .returned (.tuple #[v, .bool R.2]) ∧ OI w' w.heap.size v R.1 ∧ Below w.heap.size w w'
theorem OI.lowI {w : World} {B B' : Nat} {v : Value} {l : List Int} (h : OI w B v l) (hB : B' ≤ B) : OI w B' v l := by
  obtain ⟨h1, h2⟩ := h
  refine ⟨h1, ?_⟩
  rcases h2 with h2 | ⟨g, cap, cur, rfl, hg, hh, r⟩
  · exact .inl h2
  · exact .inr ⟨g, cap, cur, rfl, by omega, hh, r⟩

set_option maxHeartbeats 2000000 in
set_option maxRecDepth 100000 in
theorem l18Unit_any {S : Nat} (ca sa : Option Addr) (cc nc sc ns : Nat) (xs : List Iw) (set : List Int) (w : World) (hc : RdII w ca xs) (hnc : xs.length = nc) (hs : RdI w sa set) (hns : set.length = ns) (hs0 : sa = none → sc = 0) (hk : cnfR (S : Int) (xs.map Iw.ks) = true) (hT : Tk S set) :
    Calls Tryd.prog 32 #[.agg #[.int .i64 (S : Int), .slice ca nc cc], .slice sa ns sc] w (RetUn (unF (S + 1) (xs.map Iw.ks) set) w) := by
  obtain ⟨⟨-, hS4⟩, hc4, hcl⟩ := cnfR_in hk
  have hS : S ≤ 400 := by omega
  obtain ⟨R, hR⟩ : ∃ R, unF (S + 1) (xs.map Iw.ks) set = R := ⟨_, rfl⟩
  have HU : Hid (Uq S (xs.map Iw.ks) set R) := by rw [← hR]; exact Uq.start S _ set
  rw [hR]
  obtain ⟨N1, hN1⟩ : ∃ N1, S + 1 = N1 := ⟨_, rfl⟩
  have hmk : ∀ (kl kc : IntKind) (u : World), (Instr.makeSlice 25 (.int kl ((S : Int) + 1)) (.int kc ((S : Int) + 1))).run Tryd.prog u = .ok (.slice (some ⟨u.heap.size, 0, none⟩) N1 N1) (u.alloc (.cells (madeCells #[.int .i64 0] N1) 2)) := fun kl kc u => by
    have h := make_i64s N1 (by omega) kl kc u
    rwa [show ((N1 : Nat) : Int) = (S : Int) + 1 by omega] at h
  have hSw : IntKind.i64.wrap ((S : Int) + 1) = (S : Int) + 1 := by rw [IntKind.wrap_i64]; omega
  -- the box, the table, the empty row
  obtain ⟨w3, hw3⟩ : ∃ w3, ((w.alloc (Obj.cells #[Value.int .i64 (S : Int), Value.slice ca nc cc] 29)).alloc (.cells (madeCells #[.int .i64 0] N1) 2)).alloc (.cells #[] 2) = w3 := ⟨_, rfl⟩
  have U0 : Hid (Ur w S N1 #[Value.int .i64 (S : Int), Value.slice ca nc cc] (.slice (some ⟨w.heap.size + 2, 0, none⟩) 0 0) [] [] w3) := by
    have a1 : Below w.heap.size w (w.alloc (Obj.cells #[Value.int .i64 (S : Int), Value.slice ca nc cc] 29)) := (Below.refl _ _).alloc (Nat.le_refl _) _
    have a2 : Below (w.heap.size + 1) (w.alloc (Obj.cells #[Value.int .i64 (S : Int), Value.slice ca nc cc] 29)) ((w.alloc (Obj.cells #[Value.int .i64 (S : Int), Value.slice ca nc cc] 29)).alloc (.cells (madeCells #[.int .i64 0] N1) 2)) := (Below.refl _ _).alloc (by simp) _
    have a3 : Below (w.heap.size + 2) ((w.alloc (Obj.cells #[Value.int .i64 (S : Int), Value.slice ca nc cc] 29)).alloc (.cells (madeCells #[.int .i64 0] N1) 2)) w3 := by rw [← hw3]; exact (Below.refl _ _).alloc (by simp) _
    have z1 := OI.zeros (w.alloc (Obj.cells #[Value.int .i64 (S : Int), Value.slice ca nc cc] 29)) (w.heap.size + 1) N1 (by simp) (by omega)
    have z2 := OI.empty ((w.alloc (Obj.cells #[Value.int .i64 (S : Int), Value.slice ca nc cc] 29)).alloc (.cells (madeCells #[.int .i64 0] N1) 2)) (w.heap.size + 2) (by simp)
    rw [World.size_alloc] at z1
    rw [World.size_alloc, World.size_alloc, hw3] at z2
    refine ⟨((Bz.new w _ _).later (a2.mono (by simp))).later (a3.mono (by simp)), ?_, z2, ?_⟩
    · rw [stT_nil, hN1]
      exact z1.later (a3.mono (by simp))
    · exact a1.trans ((a2.trans (a3.mono (by omega))).mono (by omega))
  have HC := kide hc
  have HNC := kide hnc
  have HST := kide hs
  have HNS := kide hns
  have HS0 := kide hs0
  have HK := kide hcl
  have HT := kide hT
  have HN1 := kide hN1
  have HS4 := kide hS
  have HC4 := kide hc4
  have HCD : Hid (∀ cl ∈ xs.map Iw.ks, Cd cl) := fun cl hm => by
    have h9 := hk
    unfold cnfR at h9
    simp only [Bool.and_eq_true, List.all_eq_true] at h9
    have h8 := h9.2 cl hm
    unfold claR at h8
    simp only [Bool.and_eq_true] at h8
    exact clR_cd h8.2
  have R3 : Hid (RdI w3 sa set) := HST.out.later U0.out.bel
  have hz3 : w.heap.size + 2 ≤ w3.heap.size := (U0.out.st.lt (b := w.heap.size + 1) rfl).2
  have hlen : set.length ≤ 400 := by have := hT.len; omega
  have HLEN := kide hlen
  clear hc hnc hs hns hs0 hk hcl hT hN1 hc4 hS4 hR hlen
  go_enter Tryd.func32, Tryd.ntmps32
  rw [← HNS.out]
  go_wp2_with (refine wpList_appIr _ rfl _ _ rfl (w.heap.size + 2) _ [] set rfl (by first | (rw [hw3]; exact U0.out.ot) | exact U0.out.ot) sa _ rfl HS0.out (by first | (rw [hw3]; exact R3.out) | exact R3.out) (by have := HLEN.out; simp; omega) (by first | (rw [hw3]; exact hz3) | exact hz3) ?_)
  intro v4 w4 ho4 hg4
  have U4 := kide (U0.out.app ho4 hg4)
  clear ho4 hg4 hw3 hz3 R3 hmk hSw
  rw [HNS.out]
  go_wp2_with fail
  have hc1 : Hid (∀ u, Below w.heap.size w u → RdI u sa set) := fun u hu => HST.out.later hu
  go_loopw [8] (fun i wr => ∃ k : Nat, k ≤ ns ∧ i = .int .i64 (k : Int) ∧ Ur w S N1 #[Value.int .i64 (S : Int), Value.slice ca nc cc] v4 (set.take k) set wr) (fun i _ => ns - (intOf i).toNat)
  case atStart => exact ⟨0, Nat.zero_le _, rfl, by rw [List.take_zero]; exact U4.out⟩
  case round =>
    obtain ⟨k, hk, rfl, hu⟩ := hrel
    have HUr := kide hu
    have lbx := hu.bx.lt
    clear hu
    by_cases hlt : k < ns
    · obtain ⟨x, hx⟩ : ∃ x, set[k]? = some x := getE (by rw [HNS.out]; exact hlt)
      obtain ⟨-, -, h | ⟨b1, o1, rfl, hc9⟩⟩ := hc1.out wr HUr.out.bel
      · rw [h] at hx; simp at hx
      have p0 := hc9 k (by rw [HNS.out]; exact hlt)
      rw [show set.getD k 0 = x by simp [List.getD, hx]] at p0
      have hxb := HT.out.num x (List.mem_of_getElem? hx)
      obtain ⟨j, hj1, hj2, hj3, hj4⟩ := stT_at (HT.out.take k) hxb
      obtain ⟨n1, n2⟩ := HT.out.next hx
      have HAB := kide (fun u => l18Abs_any x (by have := HS4.out; omega) u)
      rw [hj1] at HAB
      have HPU := kide (And.intro n1 (And.intro n2 (And.intro hj1 hj3)))
      have HTK := kide (show set.take k ++ [x] = set.take (k + 1) by rw [List.take_add_one, hx, Option.toList_some])
      have k0 : (k : Int) < (ns : Int) := by omega
      have k1 : (j : Int) < (N1 : Int) := by have := HN1.out; omega
      have k2 : IntKind.i64.wrap ((k : Int) + 1) = (k : Int) + 1 := by rw [IntKind.wrap_i64]; have := HLEN.out; have := HNS.out; omega
      have HKL := kide hlt
      have l1 := block_lt_of_cell p0
      clear hc9 hx hxb hj1 hj2 hj3 hj4 n1 n2 hk hlt
      go_wp2_with fail
      refine wp_region_x (SA := fun uu => uu.cell? ⟨b1, o1 + k, none⟩ = some (Value.int .i64 x) ∧ uu.cell? ⟨w.heap.size, 0, none⟩ = some (Value.int .i64 (S : Int))) (SB := fun _ => True) (k := 11) (by kernel_rfl) ?_
      have hbd : Below wr.heap.size wr wr.drew := (Below.refl _ _).drew
      have UU0 := kide (HUr.out.later hbd)
      have c0_0 : wr.drew.cell? ⟨b1, o1 + k, none⟩ = some (Value.int .i64 x) := (hbd.cell (p := ⟨b1, o1 + k, none⟩) l1).trans p0
      have c1_0 : wr.drew.cell? ⟨w.heap.size, 0, none⟩ = some (Value.int .i64 (S : Int)) := UU0.out.bx.cell 0
      clear hbd
      generalize wr.drew = u0 at *
      have hs0 : Hid ((fun uu => uu.cell? ⟨b1, o1 + k, none⟩ = some (Value.int .i64 x) ∧ uu.cell? ⟨w.heap.size, 0, none⟩ = some (Value.int .i64 (S : Int))) u0) := ⟨c0_0, c1_0⟩
      try go_simp
      refine wpAnyX_both (T := fun _ => True) (i := 0) (v := Value.slice (some ⟨w.heap.size + 1, 0, none⟩) N1 N1) rfl (by kernel_rfl) (by kernel_rfl) (by kernel_rfl) (fun _ _ _ h => by first | exact h | exact h.elim) (by decide) (fun _ _ => trivial) (fun _ _ => trivial) (Sx.before (by kernel_rfl) hs0.out) (Or.inl ⟨by rfl, fun uu hu => by go_simp⟩) ?_
      try go_simp
      refine wpAnyX_both (T := fun _ => True) (i := 1) (v := Value.slice (some ⟨b1, o1, none⟩) ns sc) rfl (by kernel_rfl) (by kernel_rfl) (by kernel_rfl) (fun _ _ _ h => by first | exact h | exact h.elim) (by decide) (fun _ _ => trivial) (fun _ _ => trivial) (Sx.before (by kernel_rfl) hs0.out) (Or.inl ⟨by rfl, fun uu hu => by go_simp⟩) ?_
      try go_simp
      refine wpAnyX_both (T := fun _ => True) (i := 2) (v := Value.int .i64 (k : Int)) rfl (by kernel_rfl) (by kernel_rfl) (by kernel_rfl) (fun _ _ _ h => by first | exact h | exact h.elim) (by decide) (fun _ _ => trivial) (fun _ _ => trivial) (Sx.before (by kernel_rfl) hs0.out) (Or.inl ⟨by rfl, fun uu hu => by go_simp⟩) ?_
      try go_simp
      refine wpAnyX_both (T := fun _ => True) (i := 3) (v := Value.pointer (some ⟨b1, o1 + k, none⟩)) rfl (by kernel_rfl) (by kernel_rfl) (by kernel_rfl) (fun _ _ _ h => by first | exact h | exact h.elim) (by decide) (fun _ _ => trivial) (fun _ _ => trivial) (Sx.before (by kernel_rfl) hs0.out) (Or.inl ⟨by rfl, fun uu hu => by go_simp⟩) ?_
      try go_simp
      refine wpAnyX_take (i := 4) (v := Value.int .i64 x) rfl (by kernel_rfl) (by kernel_rfl) (by kernel_rfl) (fun _ _ _ h => by first | exact h | exact h.elim) (by decide) (by kernel_rfl) (by kernel_rfl) hs0.out (Or.inl ⟨by rfl, fun uu hu => by obtain ⟨e0, e1⟩ := hu; go_simp⟩) ?_
      try go_simp
      refine wpAnyX_both (T := fun _ => True) (i := 6) (v := Value.slice (some ⟨b1, o1, none⟩) ns sc) rfl (by kernel_rfl) (by kernel_rfl) (by kernel_rfl) (fun _ _ _ h => by first | exact h | exact h.elim) (by decide) (fun _ _ => trivial) (fun _ _ => trivial) (Sx.before (by kernel_rfl) hs0.out) (Or.inl ⟨by rfl, fun uu hu => by go_simp⟩) ?_
      try go_simp
      refine wpAnyX_both (T := fun _ => True) (i := 7) (v := Value.int .i64 (k : Int)) rfl (by kernel_rfl) (by kernel_rfl) (by kernel_rfl) (fun _ _ _ h => by first | exact h | exact h.elim) (by decide) (fun _ _ => trivial) (fun _ _ => trivial) (Sx.before (by kernel_rfl) hs0.out) (Or.inl ⟨by rfl, fun uu hu => by go_simp⟩) ?_
      try go_simp
      refine wpAnyX_both (T := fun _ => True) (i := 8) (v := Value.pointer (some ⟨b1, o1 + k, none⟩)) rfl (by kernel_rfl) (by kernel_rfl) (by kernel_rfl) (fun _ _ _ h => by first | exact h | exact h.elim) (by decide) (fun _ _ => trivial) (fun _ _ => trivial) (Sx.before (by kernel_rfl) hs0.out) (Or.inl ⟨by rfl, fun uu hu => by go_simp⟩) ?_
      try go_simp
      refine wpAnyX_take (i := 9) (v := Value.int .i64 x) rfl (by kernel_rfl) (by kernel_rfl) (by kernel_rfl) (fun _ _ _ h => by first | exact h | exact h.elim) (by decide) (by kernel_rfl) (by kernel_rfl) hs0.out (Or.inl ⟨by rfl, fun uu hu => by obtain ⟨e0, e1⟩ := hu; go_simp⟩) ?_
      try go_simp
      refine wpAnyX_ready (rs := [5]) (by kernel_rfl) (by simp) (AllX.cons rfl (fun K hK => ?_) AllX.nil)
      go_simp
      refine Calls.mono (HAB.out _) ?_
      rintro e u1 ⟨rfl, hw9⟩
      obtain rfl := hw9
      have UU1 := UU0
      have c0_1 := c0_0
      have c1_1 := c1_0
      have hs1 : Hid ((fun uu => uu.cell? ⟨b1, o1 + k, none⟩ = some (Value.int .i64 x) ∧ uu.cell? ⟨w.heap.size, 0, none⟩ = some (Value.int .i64 (S : Int))) u1) := ⟨c0_1, c1_1⟩
      refine hK _ _ (Sx.before (by kernel_rfl) hs1.out) ?_
      clear hK K
      try go_simp
      refine wpAnyX_both (T := fun _ => True) (i := 10) (v := Value.pointer (some ⟨w.heap.size + 1, j, none⟩)) rfl (by kernel_rfl) (by kernel_rfl) (by kernel_rfl) (fun _ _ _ h => by first | exact h | exact h.elim) (by decide) (fun _ _ => trivial) (fun _ _ => trivial) (Sx.before (by kernel_rfl) hs1.out) (Or.inl ⟨by rfl, fun uu hu => by go_simp⟩) ?_
      try go_simp
      refine wpAnyX_ready (rs := [11]) (by kernel_rfl) (by simp) (AllX.cons rfl (fun K hK => ?_) AllX.nil)
      have q0 := UU1.out.st.cellO (i := j) (by rw [stT_len]; have := HPU.out.2.2.2; omega)
      have z0 := UU1.out.st.frozO j
      go_simp
      have UU2 := kide (UU1.out.put HPU.out.1 HPU.out.2.1 HPU.out.2.2.1 HPU.out.2.2.2)
      clear q0 z0
      generalize (u1.setCell ⟨w.heap.size + 1, j, none⟩ (.int .i64 x)) = u2 at *
      refine hK _ _ (Sx.behind (by kernel_rfl) trivial) ?_
      clear hK K
      try go_simp
      refine wpAnyX_done (by kernel_rfl) ?_ _
      rw [HTK.out] at UU2
      go_wp2_with fail
      go_roundw
      case rel => exact ⟨k + 1, HKL.out, by go_num, UU2.out⟩
      case measure => have := HKL.out; simp only [intOf]; omega
    · have htk : set.take k = set := List.take_of_length_le (by rw [HNS.out]; omega)
      have k0 : ¬ (k : Int) < (ns : Int) := by omega
      rw [htk] at HUr
      have HV := kide HUr.out
      clear htk hlt hk
      go_wp2_with fail
      clear HUr
      have V0 : Hid (Ur w S N1 #[Value.int .i64 (S : Int), Value.slice ca nc cc] v4 set set wr) := HV.out
      clear HV
      go_loopw [9, 7] (fun q ov wi => ∃ (i : Nat) (T : List Int), i ≤ nc ∧ q = .int .i64 (i : Int) ∧ Ur w S N1 #[Value.int .i64 (S : Int), Value.slice ca nc cc] ov T T wi ∧ Tk S T ∧ Uq S (xs.map Iw.ks) T R ∧ ∀ (j : Nat) c, j < i → (xs.map Iw.ks)[j]? = some c → dueB T c = false) (fun q ov _ => (S - lnV ov) * (nc + 1) + (nc - (intOf q).toNat))
      case atStart => exact ⟨0, set, Nat.zero_le _, rfl, V0.out, HT.out, HU.out, fun j c hj => by omega⟩
      case round =>
        obtain ⟨i, T, hi, rfl, hur, htk, huq, hnd⟩ := hrel
        have HUr := kide hur
        have HTk := kide htk
        have HUq := kide huq
        have HNd := kide hnd
        have lbx := hur.bx.lt
        have c1 := hur.bx.cell 1
        simp at c1
        have hTl := htk.len
        clear hur htk huq hnd
        by_cases hlt : i < nc
        · obtain ⟨x, hx⟩ : ∃ x, xs[i]? = some x := ⟨xs[i]'(by rw [HNC.out]; exact hlt), List.getElem?_eq_getElem _⟩
          have hxm : (xs.map Iw.ks)[i]? = some x.ks := by rw [List.getElem?_map, hx]; rfl
          obtain ⟨-, h | ⟨b1, o1, rfl, hc9⟩⟩ := HC.out.later HUr.out.bel
          · rw [h] at hx; simp at hx
          obtain ⟨p0, p1⟩ := hc9 i x hx
          obtain ⟨sa9, sc9, e9, hst⟩ := HUr.out.st.rd (by rw [stT_len]; omega) (stT_in HS4.out)
          obtain ⟨hcl4, hcln⟩ := HK.out x.ks (List.mem_of_getElem? hxm)
          have HSt := kide (l18State_any x.a (some ⟨w.heap.size + 1, 0, none⟩) x.c N1 x.ks.length N1 wr p1 rfl (by cases e9; exact hst) HN1.out HTk.out hcln HS4.out hcl4)
          have HXM := kide hxm
          have HCn := kide hcln
          obtain ⟨⟨cl, xa, xc⟩, rfl⟩ : ∃ z : List Int × Option Addr × Nat, x = ⟨z.2.1, z.2.2, z.1⟩ := ⟨(x.ks, x.a, x.c), rfl⟩
          simp only [] at p0 HSt HXM HCn hcl4
          generalize cl.length = nx at *
          have k0 : (i : Int) < (nc : Int) := by omega
          have k2 : IntKind.i64.wrap ((i : Int) + 1) = (i : Int) + 1 := by rw [IntKind.wrap_i64]; have := HC4.out; rw [List.length_map, HNC.out] at this; omega
          have HKL := kide hlt
          obtain ⟨SR, hSR⟩ : ∃ z, stR T cl = z := ⟨_, rfl⟩
          rw [hSR] at HSt
          have HSR := kide hSR
          have l1 := block_lt_of_cell p0
          clear hc9 hx hxm p1 hst e9 hcln hcl4 hi hlt hSR
          go_wp2_with fail
          refine Calls.mono HSt.out ?_
          rintro e w2 ⟨rfl, hw2⟩
          obtain rfl := hw2.symm
          clear hw2
          have NEXT : Hid (dueB T cl = false → ∀ (j : Nat) c, j < i + 1 → (xs.map Iw.ks)[j]? = some c → dueB T c = false) := fun h9 j c hj hc => by
            by_cases e : j < i
            · exact HNd.out j c e hc
            · obtain rfl : j = i := by omega
              rw [HXM.out] at hc
              cases hc
              exact h9
          have hSR := HSR.out
          unfold stR at hSR
          cases hm : metB T cl with
          | true =>
            rw [hm, if_pos rfl] at hSR
            subst hSR
            have hdu : dueB T cl = false := by unfold dueB; rw [hm]; rfl
            have ND := kide (NEXT.out hdu)
            clear hm hdu NEXT
            go_wp2_with fail
            go_roundw
            case rel => exact ⟨i + 1, T, HKL.out, by go_num, HUr.out, HTk.out, HUq.out, ND.out⟩
            case measure => have := HKL.out; simp only [intOf]; omega
          | false =>
            rw [hm] at hSR
            simp only [Bool.false_eq_true, if_false] at hSR
            cases hO : opn T cl with
            | nil =>
              rw [hO] at hSR
              subst hSR
              have hdu : dueB T cl = true := by unfold dueB; rw [hm, hO]; rfl
              have HF : Hid (R = (T, false)) := HUq.out.bad hTl (find_first HXM.out hdu HNd.out) hO
              obtain ⟨oa, oc, rfl⟩ := HUr.out.ot.form9
              clear hm hO hdu NEXT
              go_wp2_with fail
              exact bodyPost_ret (v := .tuple #[.slice oa T.length oc, .bool false]) (by simp [results, Tryd.results32, go_sem]) rfl ⟨_, by rw [HF.out], by rw [HF.out]; exact HUr.out.ot.lowI (by omega), HUr.out.bel⟩
            | cons x t =>
              cases t with
              | nil =>
                rw [hO] at hSR
                subst hSR
                have hdu : dueB T cl = true := by unfold dueB; rw [hm, hO]; rfl
                have HQ := kide (HUq.out.step hTl (find_first HXM.out hdu HNd.out) hO)
                obtain ⟨x1, x2, x3⟩ := opn_mem.1 (show x ∈ opn T cl by rw [hO]; simp)
                have hxb := HCn.out x x1
                have HT2 := kide (HTk.out.snoc hxb x2 x3)
                obtain ⟨j, hj1, hj2, hj3, -⟩ := stT_at HTk.out hxb
                have HAB := kide (fun u => l18Abs_any x (by have := HS4.out; omega) u)
                rw [hj1] at HAB
                have HPU := kide (And.intro x2 (And.intro x3 (And.intro hj1 hj3)))
                have hTl2 := HT2.out.len
                rw [List.length_append, List.length_singleton] at hTl2
                have k1 : (j : Int) < (N1 : Int) := by have := HN1.out; omega
                clear hm hO hdu NEXT x1 x2 x3 hxb hj1 hj2 hj3
                go_wp2_with fail
                refine Calls.mono (HAB.out _) ?_
                rintro e w2 ⟨rfl, hw2⟩
                obtain rfl := hw2.symm
                clear hw2
                have q0 := HUr.out.st.cellO (i := j) (by rw [stT_len]; have := HPU.out.2.2.2; omega)
                have z0 := HUr.out.st.frozO j
                have U5 := kide (HUr.out.put HPU.out.1 HPU.out.2.1 HPU.out.2.2.1 HPU.out.2.2.2)
                obtain ⟨W5, hW5⟩ : ∃ z, wr.setCell ⟨w.heap.size + 1, j, none⟩ (.int .i64 x) = z := ⟨_, rfl⟩
                rw [hW5] at U5
                have hbx : Below W5.heap.size W5 (W5.alloc (Obj.cells #[Value.int .i64 x] 2)) := (Below.refl _ _).alloc (Nat.le_refl _) _
                have U6 := kide (U5.out.later hbx)
                have XN := kide (Bz.new W5 #[Value.int .i64 x] 2)
                obtain ⟨oa, oc, rfl⟩ := HUr.out.ot.form9
                have hsz : w.heap.size + 2 ≤ (W5.alloc (Obj.cells #[Value.int .i64 x] 2)).heap.size := (U6.out.st.lt (b := w.heap.size + 1) rfl).2
                have hll : T.length ≤ 1073741824 := by omega
                clear hbx
                go_wp2_with (refine wpList_appI rfl _ _ rfl (w.heap.size + 2) _ T x rfl U6.out.ot W5.heap.size _ rfl (XN.out.cell 0) hll hsz ?_)
                intro g6 c6 w6 ho6 hg6 _
                have U7 := kide (U6.out.app ho6 hg6)
                clear ho6 hg6 q0 z0 hW5
                go_wp2_with fail
                go_roundw
                case rel => exact ⟨0, T ++ [x], Nat.zero_le _, rfl, U7.out, HT2.out, HQ.out, fun j c hj => by omega⟩
                case measure =>
                  have e9 : S - T.length = (S - (T.length + 1)) + 1 := by omega
                  have h9 := HKL.out
                  simp only [intOf, lnV]
                  rw [e9, Nat.add_mul]
                  generalize (S - (T.length + 1)) * (nc + 1) = M
                  simp
                  omega
              | cons y u =>
                rw [hO] at hSR
                subst hSR
                have hdu : dueB T cl = false := by unfold dueB; rw [hm, hO]; simp
                have ND := kide (NEXT.out hdu)
                clear hm hO hdu NEXT
                go_wp2_with fail
                go_roundw
                case rel => exact ⟨i + 1, T, HKL.out, by go_num, HUr.out, HTk.out, HUq.out, ND.out⟩
                case measure => have := HKL.out; simp only [intOf]; omega
        · have k0 : ¬ (i : Int) < (nc : Int) := by omega
          have HF : Hid (R = (T, true)) := HUq.out.none hTl (find_no fun j c hj => HNd.out j c (by have := (List.getElem?_eq_some_iff.1 hj).1; rw [List.length_map, HNC.out] at this; omega) hj)
          obtain ⟨oa, oc, rfl⟩ := HUr.out.ot.form9
          clear hi hlt
          go_wp2_with fail
          exact bodyPost_ret (v := .tuple #[.slice oa T.length oc, .bool true]) (by simp [results, Tryd.results32, go_sem]) rfl ⟨_, by rw [HF.out], by rw [HF.out]; exact HUr.out.ot.lowI (by omega), HUr.out.bel⟩
end Go.Proofs.YtmfamdonbgmjbaaDoor

/- Unit: numbers that may be put; the answer. -/
namespace Go.Proofs.YtmfamdonbgmjbaaDoor
set_option linter.unusedVariables false
set_option linter.unusedSimpArgs false
open Go.RowKit

/-- Numbers that may be put: in bounds, none twice, none and its opposite. -/
def setR (S : Int) (set : List Int) : Bool := set.all (numR S) && decide ((set.map absI).Nodup)
def unitR (S : Int) (cs : List (List Int)) (set : List Int) : List Int × Bool := if cnfR S cs = true ∧ setR S set = true then unF (S.toNat + 1) cs set else ([], false)
theorem setR_tk {S : Nat} {set : List Int} : setR (S : Int) set = true ↔ Tk S set := by
  unfold setR
  rw [Bool.and_eq_true, List.all_eq_true, decide_eq_true_eq]
  constructor
  · rintro ⟨h1, h2⟩; exact ⟨fun n hn => numR_iff.1 (h1 n hn), h2⟩
  · intro h; exact ⟨fun n hn => numR_iff.2 (h.num n hn), h.nd⟩
/-- A number that may not be put. -/
theorem setR_no {S : Int} {set : List Int} {k : Nat} {x : Int} (hx : set[k]? = some x) (h : numR S x = false ∨ x ∈ set.take k ∨ -x ∈ set.take k) : setR S set = false := by
  cases hs : setR S set with
  | false => rfl
  | true =>
    exfalso
    unfold setR at hs
    rw [Bool.and_eq_true, List.all_eq_true, decide_eq_true_eq] at hs
    rcases h with h | h
    · have := hs.1 x (List.mem_of_getElem? hx)
      rw [h] at this
      cases this
    · have h2 := hs.2
      obtain ⟨hk, rfl⟩ := List.getElem?_eq_some_iff.1 hx
      rw [← List.take_append_drop k set, List.drop_eq_getElem_cons hk, List.map_append, List.map_cons, List.nodup_append] at h2
      have key : ∀ y ∈ set.take k, absI y ≠ absI set[k] := fun y hy => h2.2.2 (absI y) (List.mem_map_of_mem hy) (absI set[k]) List.mem_cons_self
      rcases h with h | h
      · exact key _ h rfl
      · exact key _ h (absI_neg _)
theorem setR_yes {S : Int} {set : List Int} (h : ∀ (k : Nat) x, set[k]? = some x → numR S x = true ∧ x ∉ set.take k ∧ -x ∉ set.take k) : setR S set = true := by
  unfold setR
  rw [Bool.and_eq_true, List.all_eq_true, decide_eq_true_eq]
  refine ⟨fun n hn => ?_, ?_⟩
  · obtain ⟨k, hk⟩ := List.getElem?_of_mem hn
    exact (h k n hk).1
  · rw [List.nodup_iff_pairwise_ne, List.pairwise_map, List.pairwise_iff_getElem]
    intro i j hi hj hij e
    obtain ⟨-, h2, h3⟩ := h j set[j] (List.getElem?_eq_getElem hj)
    have hm : set[i] ∈ set.take j := by
      rw [List.mem_take_iff_getElem]
      exact ⟨i, by omega, rfl⟩
    rcases absI_eq e with e | e
    · exact h2 (e ▸ hm)
    · exact h3 (by rw [← e]; exact hm)
theorem RdI.takeP {w : World} {a : Option Addr} {ks : List Int} (h : RdI w a ks) (n : Nat) : RdI w a (ks.take n) := by
  obtain ⟨h1, h2, h3⟩ := h
  refine ⟨by rw [List.length_take]; omega, fun k hk => h2 k (List.mem_of_mem_take hk), ?_⟩
  rcases h3 with h3 | ⟨b, o, e, hc⟩
  · left; rw [h3]; simp
  · refine .inr ⟨b, o, e, fun i hi => ?_⟩
    rw [List.length_take] at hi
    rw [hc i (by omega)]
    congr 2
    simp [List.getD, List.getElem?_take, show i < n by omega]
end Go.Proofs.YtmfamdonbgmjbaaDoor

/- Rows of int of one's own. -/
namespace Go.Proofs.YtmfamdonbgmjbaaDoor
set_option linter.unusedVariables false
set_option linter.unusedSimpArgs false
open Go.RowKit

theorem Tryd.infoJ : (Tryd.prog.info? 3).map (fun i => (i.zero, i.size, i.bytes)) = some (some (.int .i64 0), 1, 8) := by kernel_rfl

/-- An owned row of places. -/
def OJ (w : World) (B : Nat) (v : Value) (l : List Int) : Prop := w.ownsRow B 3 1 v l.length (i64s l).toList
theorem OJ.move {w w' : World} {B : Nat} {v : Value} {l : List Int} (h : OJ w B v l) (hk : ∀ b, v.ownBlock = some b → w'.heap[b]? = w.heap[b]?) : OJ w' B v l := by
  refine ⟨h.1, ?_⟩
  rcases h.2 with h0 | ⟨g, cap, cur, rfl, hg, hh, r⟩
  · exact .inl h0
  · exact .inr ⟨g, cap, cur, rfl, hg, (hk g rfl).trans hh, r⟩
theorem OJ.lt {w : World} {B : Nat} {v : Value} {l : List Int} (h : OJ w B v l) {b : Nat} (hb : v.ownBlock = some b) : B ≤ b ∧ b < w.heap.size := by
  rcases h.2 with ⟨rfl, -⟩ | ⟨g, cap, cur, rfl, hg, hh, -⟩
  · cases hb
  · cases hb
    exact ⟨hg, lt_of_block hh⟩
theorem OJ.later {w w' : World} {B : Nat} {v : Value} {l : List Int} (h : OJ w B v l) (hb : Below w.heap.size w w') : OJ w' B v l := h.move fun b hb' => hb.block b (h.lt hb').2
theorem OJ.empty (w : World) (B : Nat) (h : B ≤ w.heap.size) : OJ (w.alloc (.cells #[] 3)) B (.slice (some ⟨w.heap.size, 0, Option.none⟩) 0 0) [] := World.ownsRow_made w #[] 0 h (Nat.zero_le _) (by simp)
theorem OJ.rd {w : World} {B : Nat} {v : Value} {l : List Int} (h : OJ w B v l) (hl : l.length ≤ 1048576) (hx : ∀ x ∈ l, in64 x) : ∃ a c, v = .slice a l.length c ∧ RdI w a l := by
  rcases h.2 with ⟨rfl, h0⟩ | ⟨g, cap, cur, rfl, hg, hh, hc1, hc2, hsz, hcur⟩
  · have e := List.eq_nil_of_length_eq_zero h0
    subst e
    exact ⟨none, 0, rfl, by simp, by simp, .inl rfl⟩
  · refine ⟨some ⟨g, 0, none⟩, cap, rfl, hl, hx, .inr ⟨g, 0, rfl, fun i hi => ?_⟩⟩
    have h3 : (cur.toList.take (l.length * 1))[i]? = (i64s l).toList[i]? := by rw [hcur]
    rw [List.getElem?_take, if_pos (by omega)] at h3
    simp only [Array.getElem?_toList] at h3
    rw [Nat.zero_add, cell_of_row w g i cur _ _ hh, h3, i64s_get _ _ hi]
theorem wpList_appJ {w : World} {ops : Array Oper} {rest : List Oper} {o : Oper} {a : Act} {Q : Exit → Act → World → Prop} (hgd : o.guard = none) (s x : Operand)
    (ho : o.op = .call { callee := .builtin .append, args := #[s, x], argTypes := #[97, 97] })
    (B : Nat) (v : Value) (l : List Int) (y : Int) (hs : a.eval s = v) (hown : OJ w B v l) (gx c : Nat) (hx : a.eval x = .slice (some ⟨gx, 0, none⟩) 1 c)
    (h0 : w.cell? ⟨gx, 0, none⟩ = some (.int .i64 y)) (hl : l.length ≤ 1073741824) (hB : B ≤ w.heap.size)
    (h : ∀ g cap w', OJ w' B (.slice (some ⟨g, 0, none⟩) (l.length + 1) cap) (l ++ [y]) → w.grownBy w' v.ownBlock → (v.ownBlock = some g ∨ g = w.heap.size) → wpList Tryd.prog ops Q rest (a.put o.dst (.slice (some ⟨g, 0, none⟩) (l.length + 1) cap)) w') : wpList Tryd.prog ops Q (o :: rest) a w := by
  obtain ⟨i0, hi, hz0, hz1, hz2⟩ := info_parts Tryd.infoJ
  refine wpList_append_lies w hgd s x 97 ho B 3 i0 _ 1 8 Tryd.underlying97 hi hz0 hz1 hz2 rfl (by decide) v l.length (i64s l).toList hs hown ⟨gx, 0, none⟩ 1 c [.int .i64 y] hx rfl ?_ ?_ (by decide) ?_ ?_ hB _ rfl ?_
  · intro j u hj
    rw [Addr.add_lit]
    match j, hj with
    | 0, hj => simp at hj; subst hj; exact h0
    | j + 1, hj => simp at hj
  · intro u hu
    simp at hu
    subst hu
    rfl
  · unfold maxLen; omega
  · omega
  · intro g cap w' h1 h2 h3 _
    refine h g cap w' ?_ h2 h3
    unfold OJ
    rw [List.length_append]
    simpa [i64s] using h1

theorem step_appJ (w : World) {ops : Array Oper} {o : Oper} {a : Act} {K : Act → World → Prop} {Q : Exit → Act → World → Prop} {E : Prop} (hgd : o.guard = none) (s x : Operand)
    (ho : o.op = .call { callee := .builtin .append, args := #[s, x], argTypes := #[97, 97] })
    (B : Nat) (v : Value) (l : List Int) (y : Int) (hs : a.eval s = v) (hown : OJ w B v l) (gx c : Nat) (hx : a.eval x = .slice (some ⟨gx, 0, none⟩) 1 c)
    (h0 : w.cell? ⟨gx, 0, none⟩ = some (.int .i64 y)) (hl : l.length ≤ 1073741824) (hB : B ≤ w.heap.size)
    (h : ∀ g cap w', OJ w' B (.slice (some ⟨g, 0, none⟩) (l.length + 1) cap) (l ++ [y]) → w.grownBy w' v.ownBlock → (v.ownBlock = some g ∨ g = w.heap.size) → K (a.put o.dst (.slice (some ⟨g, 0, none⟩) (l.length + 1) cap)) w') :
    if Region.wanted o (yielded ops a.tmps) = true then Oper.wp Tryd.prog o a w K Q else E := by
  obtain ⟨i0, hi, hz0, hz1, hz2⟩ := info_parts Tryd.infoJ
  refine step_append_lies w hgd s x 97 ho B 3 i0 _ 1 8 Tryd.underlying97 hi hz0 hz1 hz2 rfl (by decide) v l.length (i64s l).toList hs hown ⟨gx, 0, none⟩ 1 c [.int .i64 y] hx rfl ?_ ?_ (by decide) ?_ ?_ hB _ rfl ?_
  · intro j u hj
    rw [Addr.add_lit]
    match j, hj with
    | 0, hj => simp at hj; subst hj; exact h0
    | j + 1, hj => simp at hj
  · intro u hu
    simp at hu
    subst hu
    rfl
  · unfold maxLen; omega
  · omega
  · intro g cap w' h1 h2 h3 _
    refine h g cap w' ?_ h2 h3
    unfold OJ
    rw [List.length_append]
    simpa [i64s] using h1


theorem OJ.cellO {w : World} {B g n c : Nat} {l : List Int} (h : OJ w B (.slice (some ⟨g, 0, none⟩) n c) l) {i : Nat} (hi : i < l.length) : w.cell? ⟨g, i, none⟩ = some (.int .i64 (l.getD i 0)) := by
  rcases h.2 with ⟨e, -⟩ | ⟨g', cap, cur, e, hg, hh, hc1, hc2, hsz, hcur⟩
  · cases e
  · cases e
    have h3 : (cur.toList.take (l.length * 1))[i]? = (i64s l).toList[i]? := by rw [hcur]
    rw [List.getElem?_take, if_pos (by omega)] at h3
    simp only [Array.getElem?_toList] at h3
    rw [cell_of_row w _ i cur _ _ hh, h3, i64s_get _ _ hi]
theorem OJ.frozO {w : World} {B g n c : Nat} {l : List Int} (h : OJ w B (.slice (some ⟨g, 0, none⟩) n c) l) (i : Nat) : w.frozen? ⟨g, i, none⟩ = false := by
  rcases h.2 with ⟨e, -⟩ | ⟨g', cap, cur, e, hg, hh, hc1, hc2, hsz, hcur⟩
  · cases e
  · cases e
    exact frozen_of_row w _ i _ _ hh
theorem OJ.setO {w : World} {B g n c : Nat} {l : List Int} (h : OJ w B (.slice (some ⟨g, 0, none⟩) n c) l) {i : Nat} (hi : i < l.length) (x : Int) : OJ (w.setCell ⟨g, i, none⟩ (.int .i64 x)) B (.slice (some ⟨g, 0, none⟩) n c) (l.set i x) := by
  rcases h.2 with ⟨e, -⟩ | ⟨g', cap, cur, e, hg, hh, hc1, hc2, hsz, hcur⟩
  · cases e
  · cases e
    refine ⟨by simp [i64s], .inr ⟨g, c, cur.setIfInBounds i (.int .i64 x), by simp, hg, heap_setCell_same w g i _ _ _ hh, by simpa using hc1, hc2, by simpa using hsz, ?_⟩⟩
    have e2 : (i64s (l.set i x)).toList = (i64s l).toList.set i (.int .i64 x) := by simp [i64s, List.map_set]
    rw [Array.toList_setIfInBounds, e2, ← hcur, List.take_set]
    simp
theorem make_ints (n : Nat) (hn : n ≤ 1048576) (kl kc : IntKind) (w : World) :
    (Instr.makeSlice 97 (.int kl (n : Int)) (.int kc (n : Int))).run Tryd.prog w = .ok (.slice (some ⟨w.heap.size, 0, none⟩) n n) (w.alloc (.cells (madeCells #[.int .i64 0] n) 3)) := by
  obtain ⟨i0, hi, hz0, hz1, hz2⟩ := info_parts (show (Tryd.prog.info? 3).map (fun i => (i.zero, i.size, i.bytes)) = some (some (.int .i64 0), 1, 8) by kernel_rfl)
  have := run_make (P := Tryd.prog) w 97 3 i0 _ Tryd.underlying97 hi hz0 kl kc n n (by omega) (Int.le_refl _) (by rw [hz2]; omega) (by omega)
  rw [hz1, Nat.mul_one] at this
  simp only [Int.toNat_natCast] at this
  exact this
theorem OJ.zeros (w : World) (B n : Nat) (hB : B ≤ w.heap.size) (hn : n ≤ 1048576) : OJ (w.alloc (.cells (madeCells #[.int .i64 0] n) 3)) B (.slice (some ⟨w.heap.size, 0, none⟩) n n) (List.replicate n 0) := by
  refine ⟨by simp [i64s], .inr ⟨w.heap.size, n, _, by simp, hB, heap_alloc_new w _, by simp, by unfold maxLen; omega, by simp [size_madeCells], ?_⟩⟩
  rw [toList_madeCells_one]
  simp [i64s]
end Go.Proofs.YtmfamdonbgmjbaaDoor

/- slices.IndexFunc and ContainsFunc for a bound method; the first index. -/
namespace Go.Proofs.YtmfamdonbgmjbaaDoor
set_option linter.unusedVariables false
set_option linter.unusedSimpArgs false
open Go.RowKit

theorem any_stepM {α : Type} {p : α → Bool} {xs : List α} {k : Nat} {x : α} (h : xs[k]? = some x) : (xs.drop k).any p = (p x || (xs.drop (k + 1)).any p) := by
  have hk : k < xs.length := (List.getElem?_eq_some_iff.1 h).1
  have hx : xs[k] = x := (List.getElem?_eq_some_iff.1 h).2
  rw [List.drop_eq_getElem_cons hk, hx, List.any_cons]

theorem IndexM_any (f : Nat) (hf : ∀ args w, Sem.run Tryd.prog (callFunc f args) w = .ok (.enter f args) w) (cv : Value) (p : Int → Bool) (a : Option Addr) (c n : Nat) (xs : List Int) (w : World) (hr : RdI w a xs) (hn : xs.length = n)
    (HF : Hid (∀ u, Below w.heap.size w u → ∀ x ∈ xs, Calls Tryd.prog f #[cv, .int .i64 x] u fun e w' => e = .returned (.bool (p x)) ∧ Below u.heap.size u w')) :
    Calls Tryd.prog 66 #[.slice a n c, .func (.func f) #[cv] #[]] w fun e w' => ∃ r : Int, e = .returned (.int .i64 r) ∧ decide (0 ≤ r) = xs.any p ∧ Below w.heap.size w w' := by
  have hlen := hr.1
  rw [hn] at hlen
  have HN := kide hn
  generalize hzz : xs.any p = Z
  have HZ := kide hzz
  clear hn hzz
  go_enter Tryd.func66, Tryd.ntmps66
  go_wp2_with fail
  go_loopw [8] (fun i wr => ∃ k : Nat, k ≤ n ∧ i = .int .i64 (k : Int) ∧ (xs.drop k).any p = Z ∧ Below w.heap.size w wr) (fun i _ => n - (intOf i).toNat)
  case atStart => exact ⟨0, Nat.zero_le _, rfl, by simpa using HZ.out, Below.refl _ _⟩
  case round =>
      obtain ⟨k, hk, rfl, hz, hbel⟩ := hrel
      have HB := kide hbel
      by_cases hlt : k < n
      · obtain ⟨-, hi64, h | ⟨b, o, rfl, hc⟩⟩ := hr
        · have := HN.out; subst h; simp at this; omega
        have hltx : k < xs.length := by rw [HN.out]; exact hlt
        have gx : xs[k]? = some (xs.getD k 0) := by simp [List.getD, hltx]
        have p0 := hc k hltx
        rw [← kcell hbel _ _ (block_lt_of_cell p0)] at p0
        have HCL := kide (HF.out wr hbel _ (List.mem_of_getElem? gx))
        rw [any_stepM gx] at hz
        generalize xs.getD k 0 = x1 at *
        generalize p x1 = P1 at *
        clear hc hi64 gx hltx
        have i0 : (k : Int) < (n : Int) := by omega
        clear hbel
        cases P1 with
        | true =>
          have HZ1 : Hid (Z = true) := by show _ = _; rw [← hz]; rfl
          clear hz
          go_wp2_with fail
          refine Calls.mono HCL.out ?_
          rintro e w1 ⟨rfl, hb1⟩
          go_wp2_with fail
          go_ret
          exact ⟨_, rfl, by rw [HZ1.out]; exact decide_eq_true (by omega), HB.out.trans (hb1.mono HB.out.size)⟩
        | false =>
          rw [Bool.false_or] at hz
          have HZ1 := kide hz
          clear hz
          go_wp2_with fail
          refine Calls.mono HCL.out ?_
          rintro e w1 ⟨rfl, hb1⟩
          go_wp2_with fail
          go_roundw
          case rel => exact ⟨k + 1, by omega, by go_num, HZ1.out, HB.out.trans (hb1.mono HB.out.size)⟩
          case measure => simp [intOf]; omega
      · have HZ1 : Hid (Z = false) := by
          show _ = _
          rw [← hz, List.drop_eq_nil_of_le (by have := HN.out; simp; omega)]; rfl
        clear hz hbel
        go_wp2_with fail
        go_ret
        exact ⟨-1, rfl, by rw [HZ1.out]; rfl, HB.out⟩

theorem ContainsM_any (f : Nat) (hf : ∀ args w, Sem.run Tryd.prog (callFunc f args) w = .ok (.enter f args) w) (cv : Value) (p : Int → Bool) (a : Option Addr) (c n : Nat) (xs : List Int) (w : World) (hr : RdI w a xs) (hn : xs.length = n)
    (HF : Hid (∀ u, Below w.heap.size w u → ∀ x ∈ xs, Calls Tryd.prog f #[cv, .int .i64 x] u fun e w' => e = .returned (.bool (p x)) ∧ Below u.heap.size u w')) :
    Calls Tryd.prog 53 #[.slice a n c, .func (.func f) #[cv] #[]] w fun e w' => e = .returned (.bool (xs.any p)) ∧ Below w.heap.size w w' := by
  have HI := kide (IndexM_any f hf cv p a c n xs w hr hn HF)
  generalize xs.any p = Z at *
  clear hr hn HF
  go_enter Tryd.func53, Tryd.ntmps53
  go_wp2_with fail
  refine Calls.mono HI.out ?_
  rintro e w1 ⟨r, rfl, hr, hb1⟩
  have HR := kide hr
  clear hr
  go_wp2_with fail
  go_ret
  exact ⟨ret_bool HR.out, hb1⟩

theorem IndexX_any (f : Nat) (hf : ∀ args w, Sem.run Tryd.prog (callFunc f args) w = .ok (.enter f args) w) (cv : Value) (p : Int → Bool) (a : Option Addr) (c n : Nat) (xs : List Int) (w : World) (hr : RdI w a xs) (hn : xs.length = n)
    (HF : Hid (∀ u, Below w.heap.size w u → ∀ x ∈ xs, Calls Tryd.prog f #[.int .i64 x, cv] u fun e w' => e = .returned (.bool (p x)) ∧ Below u.heap.size u w')) :
    Calls Tryd.prog 66 #[.slice a n c, .func (.func f) #[] #[cv]] w fun e w' => ∃ r : Int, e = .returned (.int .i64 r) ∧ ((r = -1 ∧ ∀ y ∈ xs, p y = false) ∨ ∃ (i : Nat) (x : Int), r = (i : Int) ∧ xs[i]? = some x ∧ p x = true ∧ ∀ (j : Nat) y, j < i → xs[j]? = some y → p y = false) ∧ Below w.heap.size w w' := by
  have hlen := hr.1
  rw [hn] at hlen
  have HN := kide hn
  clear hn
  go_enter Tryd.func66, Tryd.ntmps66
  go_wp2_with fail
  go_loopw [8] (fun i wr => ∃ k : Nat, k ≤ n ∧ i = .int .i64 (k : Int) ∧ (∀ (j : Nat) y, j < k → xs[j]? = some y → p y = false) ∧ Below w.heap.size w wr) (fun i _ => n - (intOf i).toNat)
  case atStart => exact ⟨0, Nat.zero_le _, rfl, fun j _ h => absurd h (by omega), Below.refl _ _⟩
  case round =>
      obtain ⟨k, hk, rfl, hz, hbel⟩ := hrel
      have HB := kide hbel
      by_cases hlt : k < n
      · obtain ⟨-, hi64, h | ⟨b, o, rfl, hc⟩⟩ := hr
        · have := HN.out; subst h; simp at this; omega
        have hltx : k < xs.length := by rw [HN.out]; exact hlt
        have gx : xs[k]? = some (xs.getD k 0) := by simp [List.getD, hltx]
        have p0 := hc k hltx
        rw [← kcell hbel _ _ (block_lt_of_cell p0)] at p0
        have HCL := kide (HF.out wr hbel _ (List.mem_of_getElem? gx))
        generalize xs.getD k 0 = x1 at *
        have GX := kide gx
        have HZ1 := kide hz
        obtain ⟨P1, hP1⟩ : ∃ P1, p x1 = P1 := ⟨_, rfl⟩
        rw [hP1] at HCL
        have HP1 := kide hP1
        clear hc hi64 gx hltx hz hP1
        have i0 : (k : Int) < (n : Int) := by omega
        clear hbel
        cases P1 with
        | true =>
          go_wp2_with fail
          refine Calls.mono HCL.out ?_
          rintro e w1 ⟨rfl, hb1⟩
          go_wp2_with fail
          go_ret
          exact ⟨_, rfl, .inr ⟨k, x1, rfl, GX.out, HP1.out, HZ1.out⟩, HB.out.trans (hb1.mono HB.out.size)⟩
        | false =>
          go_wp2_with fail
          refine Calls.mono HCL.out ?_
          rintro e w1 ⟨rfl, hb1⟩
          go_wp2_with fail
          go_roundw
          case rel => exact ⟨k + 1, by omega, by go_num, fun j y hj hy => by
            by_cases e : j < k
            · exact HZ1.out j y e hy
            · obtain rfl : j = k := by omega
              rw [GX.out] at hy
              cases hy
              exact HP1.out, HB.out.trans (hb1.mono HB.out.size)⟩
          case measure => simp [intOf]; omega
      · have HZ1 : Hid (∀ y ∈ xs, p y = false) := fun y hy => by
          obtain ⟨j, hj⟩ := List.getElem?_of_mem hy
          exact hz j y (by have := (List.getElem?_eq_some_iff.1 hj).1; have := HN.out; omega) hj
        clear hz hbel
        go_wp2_with fail
        go_ret
        exact ⟨-1, rfl, .inl ⟨rfl, HZ1.out⟩, HB.out⟩

end Go.Proofs.YtmfamdonbgmjbaaDoor
