/- setOk. -/
import Derived.Test.YtmfamdonbgmjbaaDoorUNG
import Derived.Test.YtmfamdonbgmjbaaDoorCL
import Derived.Test.YtmfamdonbgmjbaaDoorOIN
namespace Go.Proofs.YtmfamdonbgmjbaaDoor
set_option linter.unusedVariables false
set_option linter.unusedSimpArgs false
open Go.RowKit

/-- The table of switches that were met. -/
def mtL (N : Nat) (T : List Int) : List Value := (List.range N).map fun (i : Nat) => .bool (decide ((i : Int) ∈ T.map absI))
theorem mtL_len (N : Nat) (T : List Int) : (mtL N T).length = N := by simp [mtL]
theorem mtL_at {N : Nat} {T : List Int} {i : Nat} (h : i < N) : (mtL N T)[i]? = some (.bool (decide ((i : Int) ∈ T.map absI))) := by simp [mtL, h]
theorem mtL_nil (N : Nat) : mtL N [] = List.replicate N (.bool false) := by
  apply List.ext_getElem?
  intro i
  by_cases h : i < N
  · rw [mtL_at h]; simp [h]
  · rw [List.getElem?_eq_none (by rw [mtL_len]; omega), List.getElem?_eq_none (by simp; omega)]
theorem mtL_snoc {N : Nat} {T : List Int} {x : Int} {j : Nat} (hx : absI x = (j : Int)) : (mtL N T).set j (.bool true) = mtL N (T ++ [x]) := by
  apply List.ext_getElem?
  intro i
  rw [List.getElem?_set, mtL_len]
  by_cases h : i < N
  · rw [mtL_at h, mtL_at h]
    by_cases e : j = i
    · subst e; simp [h, hx]
    · rw [if_neg e, List.map_append, List.map_singleton, hx]
      congr 2
      have : ((i : Int) = (j : Int)) = False := by simp; omega
      simp [List.mem_append, this]
  · rw [List.getElem?_eq_none (l := mtL N (T ++ [x])) (by rw [mtL_len]; omega)]
    split
    · rw [if_neg (by omega)]
    · exact List.getElem?_eq_none (by rw [mtL_len]; omega)
theorem setR_snoc {S : Int} {T : List Int} {x : Int} (h : setR S T = true) (hn : numR S x = true) (hx : absI x ∉ T.map absI) : setR S (T ++ [x]) = true := by
  unfold setR at *
  rw [Bool.and_eq_true, List.all_eq_true, decide_eq_true_eq] at *
  refine ⟨fun y hy => ?_, ?_⟩
  · rcases List.mem_append.1 hy with h1 | h1
    · exact h.1 y h1
    · rw [List.mem_singleton.1 h1]; exact hn
  · rw [List.map_append, List.map_singleton, List.nodup_append]
    refine ⟨h.2, by simp, fun a ha b hb e => ?_⟩
    rw [List.mem_singleton.1 hb] at e
    exact hx (e ▸ ha)
theorem setR_no2 {S : Int} {set : List Int} {k : Nat} {x : Int} (hx : set[k]? = some x) (h : numR S x = false ∨ absI x ∈ (set.take k).map absI) : setR S set = false := by
  refine setR_no hx (h.imp id fun h => ?_)
  obtain ⟨y, hy, e⟩ := List.mem_map.1 h
  rcases absI_eq e with e | e
  · exact .inl (e ▸ hy)
  · exact .inr (by rw [← e]; exact hy)
theorem setR_nil (S : Int) : setR S [] = true := rfl

theorem make_bools (n : Nat) (hn : n ≤ 1048576) (kl kc : IntKind) (w : World) :
    (Instr.makeSlice 37 (.int kl (n : Int)) (.int kc (n : Int))).run Tryd.prog w = .ok (.slice (some ⟨w.heap.size, 0, none⟩) n n) (w.alloc (.cells (madeCells #[.bool false] n) 4)) := by
  obtain ⟨i0, hi, hz0, hz1, hz2⟩ := info_parts (show (Tryd.prog.info? 4).map (fun i => (i.zero, i.size, i.bytes)) = some (some (.bool false), 1, 1) by kernel_rfl)
  have := run_make (P := Tryd.prog) w 37 4 i0 _ Tryd.underlying37 hi hz0 kl kc n n (by omega) (Int.le_refl _) (by rw [hz2]; omega) (by omega)
  rw [hz1, Nat.mul_one] at this
  simp only [Int.toNat_natCast] at this
  exact this
theorem made_bools (n : Nat) : madeCells #[.bool false] n = (mtL n []).toArray := by
  apply Array.toList_inj.1
  rw [toList_madeCells_one, mtL_nil]

/-- Between two rounds of setOk. -/
structure So (w : World) (S N : Nat) (v1 : Value) (T : List Int) (u : World) : Prop where
  bx : Bz u w.heap.size #[.int .i64 (S : Int), v1] 29
  tb : Bz u (w.heap.size + 1) (mtL N T).toArray 4
  bel : Below w.heap.size w u
theorem So.later {w u u' : World} {S N : Nat} {v1 : Value} {T : List Int} (h : So w S N v1 T u) (hb : Below u.heap.size u u') : So w S N v1 T u' := ⟨h.bx.later hb, h.tb.later hb, h.bel.trans (hb.mono h.bel.size)⟩
theorem So.put {w u : World} {S N : Nat} {v1 : Value} {T : List Int} (h : So w S N v1 T u) {x : Int} {j : Nat} (hx : absI x = (j : Int)) : So w S N v1 (T ++ [x]) (u.setCell ⟨w.heap.size + 1, j, none⟩ (.bool true)) := by
  refine ⟨h.bx.other (by omega) _ _, ?_, ?_⟩
  · have := h.tb.set j (.bool true)
    rw [List.setIfInBounds_toArray, mtL_snoc hx] at this
    exact this
  · exact h.bel.setCell (by simp only []; omega) _

set_option maxHeartbeats 8000000 in
set_option maxRecDepth 100000 in
theorem setOk_any {S : Nat} (hS : S ≤ 400) (v1 : Value) (sa : Option Addr) (sc ns : Nat) (set : List Int) (w : World) (hs : RdI w sa set) (hns : set.length = ns) :
    Calls Tryd.prog 35 #[.agg #[.int .i64 (S : Int), v1], .slice sa ns sc] w fun e w' => e = .returned (.bool (setR (S : Int) set)) ∧ Below w.heap.size w w' := by
  have HST := kide hs
  have HNS := kide hns
  have hsl := hs.1
  rw [hns] at hsl
  obtain ⟨N1, hN1⟩ : ∃ N1, S + 1 = N1 := ⟨_, rfl⟩
  have hmk : ∀ (kl kc : IntKind) (u : World), (Instr.makeSlice 37 (.int kl ((S : Int) + 1)) (.int kc ((S : Int) + 1))).run Tryd.prog u = .ok (.slice (some ⟨u.heap.size, 0, none⟩) N1 N1) (u.alloc (.cells (madeCells #[.bool false] N1) 4)) := fun kl kc u => by
    have h := make_bools N1 (by omega) kl kc u
    rwa [show ((N1 : Nat) : Int) = (S : Int) + 1 by omega] at h
  have hSw : IntKind.i64.wrap ((S : Int) + 1) = (S : Int) + 1 := by rw [IntKind.wrap_i64]; omega
  have U0 : Hid (So w S N1 v1 [] ((w.alloc (Obj.cells #[Value.int .i64 (S : Int), v1] 29)).alloc (.cells (madeCells #[.bool false] N1) 4))) := by
    have a1 : Below w.heap.size w (w.alloc (Obj.cells #[Value.int .i64 (S : Int), v1] 29)) := (Below.refl _ _).alloc (Nat.le_refl _) _
    have a2 : Below (w.heap.size + 1) (w.alloc (Obj.cells #[Value.int .i64 (S : Int), v1] 29)) ((w.alloc (Obj.cells #[Value.int .i64 (S : Int), v1] 29)).alloc (.cells (madeCells #[.bool false] N1) 4)) := (Below.refl _ _).alloc (by simp) _
    have z := Bz.new (w.alloc (Obj.cells #[Value.int .i64 (S : Int), v1] 29)) (madeCells #[.bool false] N1) 4
    rw [World.size_alloc, made_bools] at z
    rw [made_bools] at a2 ⊢
    exact ⟨(Bz.new w _ _).later (a2.mono (by simp)), z, a1.trans (a2.mono (by omega))⟩
  have HN1 := kide hN1
  have HS4 := kide hS
  clear hs hns hN1
  go_enter Tryd.func35, Tryd.ntmps35
  go_wp2_with fail
  clear hmk hSw
  go_loopw [14] (fun i wr => ∃ k : Nat, k ≤ ns ∧ i = .int .i64 (k : Int) ∧ setR (S : Int) (set.take k) = true ∧ So w S N1 v1 (set.take k) wr) (fun i _ => ns - (intOf i).toNat)
  case atStart => exact ⟨0, Nat.zero_le _, rfl, by rw [List.take_zero]; rfl, by rw [List.take_zero]; exact U0.out⟩
  case round =>
    obtain ⟨k, hk, rfl, hse, hso⟩ := hrel
    have HSE := kide hse
    have HSO := kide hso
    have d0 := hso.bx.cell 0
    have d1 := hso.bx.cell 1
    clear hse hso U0
    by_cases hlt : k < ns
    · obtain ⟨-, hi64, h | ⟨b3, o3, rfl, hc3⟩⟩ := HST.out.later HSO.out.bel
      · have := HNS.out; rw [h] at this; simp at this; omega
      have hk1 : k < set.length := by rw [HNS.out]; exact hlt
      have e3 := hc3 k hk1
      have ex : set[k]? = some (set.getD k 0) := by simp [List.getD, hk1]
      generalize set.getD k 0 = x at *
      have EX := kide ex
      have j0 : (k : Int) < (ns : Int) := by omega
      have HTK : Hid (set.take k ++ [x] = set.take (k + 1)) := by show _ = _; rw [List.take_add_one, EX.out]; rfl
      have HNU := kide (numberOk_any (S : Int) (by omega) v1 x wr)
      clear hc3 hi64 ex hk1
      cases hn : numR (S : Int) x with
      | false =>
        rw [hn] at HNU
        have HF := kide (setR_no2 EX.out (.inl hn))
        clear hn
        go_wp2_with fail
        refine Calls.mono HNU.out ?_
        rintro e u ⟨rfl, hbu⟩
        have BU := kide (HSO.out.bel.trans (hbu.mono HSO.out.bel.size))
        clear hbu
        go_wp2_with fail
        go_ret
        exact ⟨ret_bool HF.out.symm, BU.out⟩
      | true =>
        rw [hn] at HNU
        have hb := numR_iff.1 hn
        have HB4 : Hid (-400 ≤ x ∧ x ≤ 400) := by have := HS4.out; unfold Hid; omega
        obtain ⟨j, hj⟩ : ∃ j : Nat, absI x = (j : Int) := ⟨(absI x).toNat, by rw [absI_def]; split <;> omega⟩
        have hjN : j < N1 := by
          have := HN1.out
          rw [absI_def] at hj
          split at hj <;> omega
        have HSW := kide (fun u => switchOf_any x HB4.out u)
        rw [hj] at HSW
        have k1 : (j : Int) < (N1 : Int) := by omega
        have HJ := kide hj
        clear hb hj
        go_wp2_with fail
        refine Calls.mono HNU.out ?_
        rintro e u ⟨rfl, hbu⟩
        have SU := kide (HSO.out.later hbu)
        have t0 := SU.out.tb.cell j
        rw [List.getElem?_toArray, mtL_at hjN] at t0
        clear hbu d0 d1 e3
        cases hm : decide ((j : Int) ∈ (set.take k).map absI) with
        | true =>
          have HF := kide (setR_no2 (S := (S : Int)) EX.out (.inr (by rw [HJ.out]; exact of_decide_eq_true hm)))
          rw [hm] at t0
          clear hm
          go_wp2_with fail
          refine Calls.mono (HSW.out _) ?_
          rintro e u2 ⟨rfl, hw2⟩
          obtain rfl := hw2.symm
          clear hw2
          go_wp2_with fail
          go_ret
          exact ⟨ret_bool HF.out.symm, SU.out.bel⟩
        | false =>
          have HS2 : Hid (setR (S : Int) (set.take (k + 1)) = true) := by
            have := setR_snoc (x := x) HSE.out hn (by rw [HJ.out]; exact of_decide_eq_false hm)
            rwa [HTK.out] at this
          rw [hm] at t0
          have S2 := kide (SU.out.put HJ.out)
          rw [HTK.out] at S2
          have z0 := SU.out.tb.froz j
          clear hm hn
          go_wp2_with fail
          refine Calls.mono (HSW.out _) ?_
          rintro e u2 ⟨rfl, hw2⟩
          obtain rfl := hw2.symm
          clear hw2
          go_wp2_with fail
          refine Calls.mono (HSW.out _) ?_
          rintro e u2 ⟨rfl, hw2⟩
          obtain rfl := hw2.symm
          clear hw2
          go_wp2_with fail
          go_roundw
          case rel => exact ⟨k + 1, by omega, by go_num, HS2.out, S2.out⟩
          case measure => simp only [intOf]; omega
    · obtain rfl : k = ns := by omega
      have HF : Hid (setR (S : Int) set = true) := by
        have h := HSE.out
        rw [List.take_of_length_le (by rw [HNS.out]; exact Nat.le_refl _)] at h
        exact h
      go_wp2_with fail
      go_ret
      exact ⟨ret_bool HF.out.symm, HSO.out.bel⟩
end Go.Proofs.YtmfamdonbgmjbaaDoor
