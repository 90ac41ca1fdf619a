/- Several texts in one. -/
import Derived.Test.YtmfamdonbgmjbaaDoorZGAD
import Derived.Test.YtmfamdonbgmjbaaDoorZGAC
import Derived.Test.YtmfamdonbgmjbaaDoorZGAD
import Derived.Test.YtmfamdonbgmjbaaDoorZGAF
import Derived.Handy
import Derived.Test.YtmfamdonbgmjbaaDoorZGAB

/- setOk. -/
namespace Go.Proofs.YtmfamdonbgmjbaaDoor
set_option linter.unusedVariables false
set_option linter.unusedSimpArgs false
open Go.RowKit

/-- The table of switches that were met. -/
def mtL (N : Nat) (T : List Int) : List Value := (List.range N).map fun (i : Nat) => .bool (decide ((i : Int) ∈ T.map absI))
theorem mtL_len (N : Nat) (T : List Int) : (mtL N T).length = N := by simp [mtL]
theorem mtL_at {N : Nat} {T : List Int} {i : Nat} (h : i < N) : (mtL N T)[i]? = some (.bool (decide ((i : Int) ∈ T.map absI))) := by simp [mtL, h]
theorem mtL_nil (N : Nat) : mtL N [] = List.replicate N (.bool false) := by
  apply List.ext_getElem?
  intro i
  by_cases h : i < N
  · rw [mtL_at h]; simp [h]
  · rw [List.getElem?_eq_none (by rw [mtL_len]; omega), List.getElem?_eq_none (by simp; omega)]
theorem mtL_snoc {N : Nat} {T : List Int} {x : Int} {j : Nat} (hx : absI x = (j : Int)) : (mtL N T).set j (.bool true) = mtL N (T ++ [x]) := by
  apply List.ext_getElem?
  intro i
  rw [List.getElem?_set, mtL_len]
  by_cases h : i < N
  · rw [mtL_at h, mtL_at h]
    by_cases e : j = i
    · subst e; simp [h, hx]
    · rw [if_neg e, List.map_append, List.map_singleton, hx]
      congr 2
      have : ((i : Int) = (j : Int)) = False := by simp; omega
      simp [List.mem_append, this]
  · rw [List.getElem?_eq_none (l := mtL N (T ++ [x])) (by rw [mtL_len]; omega)]
    split
    · rw [if_neg (by omega)]
    · exact List.getElem?_eq_none (by rw [mtL_len]; omega)
theorem setR_snoc {S : Int} {T : List Int} {x : Int} (h : setR S T = true) (hn : numR S x = true) (hx : absI x ∉ T.map absI) : setR S (T ++ [x]) = true := by
  unfold setR at *
  rw [Bool.and_eq_true, List.all_eq_true, decide_eq_true_eq] at *
  refine ⟨fun y hy => ?_, ?_⟩
  · rcases List.mem_append.1 hy with h1 | h1
    · exact h.1 y h1
    · rw [List.mem_singleton.1 h1]; exact hn
  · rw [List.map_append, List.map_singleton, List.nodup_append]
    refine ⟨h.2, by simp, fun a ha b hb e => ?_⟩
    rw [List.mem_singleton.1 hb] at e
    exact hx (e ▸ ha)
theorem setR_no2 {S : Int} {set : List Int} {k : Nat} {x : Int} (hx : set[k]? = some x) (h : numR S x = false ∨ absI x ∈ (set.take k).map absI) : setR S set = false := by
  refine setR_no hx (h.imp id fun h => ?_)
  obtain ⟨y, hy, e⟩ := List.mem_map.1 h
  rcases absI_eq e with e | e
  · exact .inl (e ▸ hy)
  · exact .inr (by rw [← e]; exact hy)
theorem setR_nil (S : Int) : setR S [] = true := rfl

theorem make_bools (n : Nat) (hn : n ≤ 1048576) (kl kc : IntKind) (w : World) :
    (Instr.makeSlice 37 (.int kl (n : Int)) (.int kc (n : Int))).run Tryd.prog w = .ok (.slice (some ⟨w.heap.size, 0, none⟩) n n) (w.alloc (.cells (madeCells #[.bool false] n) 4)) := by
  obtain ⟨i0, hi, hz0, hz1, hz2⟩ := info_parts (show (Tryd.prog.info? 4).map (fun i => (i.zero, i.size, i.bytes)) = some (some (.bool false), 1, 1) by kernel_rfl)
  have := run_make (P := Tryd.prog) w 37 4 i0 _ Tryd.underlying37 hi hz0 kl kc n n (by omega) (Int.le_refl _) (by rw [hz2]; omega) (by omega)
  rw [hz1, Nat.mul_one] at this
  simp only [Int.toNat_natCast] at this
  exact this
theorem made_bools (n : Nat) : madeCells #[.bool false] n = (mtL n []).toArray := by
  apply Array.toList_inj.1
  rw [toList_madeCells_one, mtL_nil]

/-- Between two rounds of setOk. -/
structure So (w : World) (S N : Nat) (v1 : Value) (T : List Int) (u : World) : Prop where
  bx : Bz u w.heap.size #[.int .i64 (S : Int), v1] 29
  tb : Bz u (w.heap.size + 1) (mtL N T).toArray 4
  bel : Below w.heap.size w u
theorem So.later {w u u' : World} {S N : Nat} {v1 : Value} {T : List Int} (h : So w S N v1 T u) (hb : Below u.heap.size u u') : So w S N v1 T u' := ⟨h.bx.later hb, h.tb.later hb, h.bel.trans (hb.mono h.bel.size)⟩
theorem So.put {w u : World} {S N : Nat} {v1 : Value} {T : List Int} (h : So w S N v1 T u) {x : Int} {j : Nat} (hx : absI x = (j : Int)) : So w S N v1 (T ++ [x]) (u.setCell ⟨w.heap.size + 1, j, none⟩ (.bool true)) := by
  refine ⟨h.bx.other (by omega) _ _, ?_, ?_⟩
  · have := h.tb.set j (.bool true)
    rw [List.setIfInBounds_toArray, mtL_snoc hx] at this
    exact this
  · exact h.bel.setCell (by simp only []; omega) _

set_option maxHeartbeats 8000000 in
set_option maxRecDepth 100000 in
theorem setOk_any {S : Nat} (hS : S ≤ 400) (v1 : Value) (sa : Option Addr) (sc ns : Nat) (set : List Int) (w : World) (hs : RdI w sa set) (hns : set.length = ns) :
    Calls Tryd.prog 35 #[.agg #[.int .i64 (S : Int), v1], .slice sa ns sc] w fun e w' => e = .returned (.bool (setR (S : Int) set)) ∧ Below w.heap.size w w' := by
  have HST := kide hs
  have HNS := kide hns
  have hsl := hs.1
  rw [hns] at hsl
  obtain ⟨N1, hN1⟩ : ∃ N1, S + 1 = N1 := ⟨_, rfl⟩
  have hmk : ∀ (kl kc : IntKind) (u : World), (Instr.makeSlice 37 (.int kl ((S : Int) + 1)) (.int kc ((S : Int) + 1))).run Tryd.prog u = .ok (.slice (some ⟨u.heap.size, 0, none⟩) N1 N1) (u.alloc (.cells (madeCells #[.bool false] N1) 4)) := fun kl kc u => by
    have h := make_bools N1 (by omega) kl kc u
    rwa [show ((N1 : Nat) : Int) = (S : Int) + 1 by omega] at h
  have hSw : IntKind.i64.wrap ((S : Int) + 1) = (S : Int) + 1 := by rw [IntKind.wrap_i64]; omega
  have U0 : Hid (So w S N1 v1 [] ((w.alloc (Obj.cells #[Value.int .i64 (S : Int), v1] 29)).alloc (.cells (madeCells #[.bool false] N1) 4))) := by
    have a1 : Below w.heap.size w (w.alloc (Obj.cells #[Value.int .i64 (S : Int), v1] 29)) := (Below.refl _ _).alloc (Nat.le_refl _) _
    have a2 : Below (w.heap.size + 1) (w.alloc (Obj.cells #[Value.int .i64 (S : Int), v1] 29)) ((w.alloc (Obj.cells #[Value.int .i64 (S : Int), v1] 29)).alloc (.cells (madeCells #[.bool false] N1) 4)) := (Below.refl _ _).alloc (by simp) _
    have z := Bz.new (w.alloc (Obj.cells #[Value.int .i64 (S : Int), v1] 29)) (madeCells #[.bool false] N1) 4
    rw [World.size_alloc, made_bools] at z
    rw [made_bools] at a2 ⊢
    exact ⟨(Bz.new w _ _).later (a2.mono (by simp)), z, a1.trans (a2.mono (by omega))⟩
  have HN1 := kide hN1
  have HS4 := kide hS
  clear hs hns hN1
  go_enter Tryd.func35, Tryd.ntmps35
  go_wp2_with fail
  clear hmk hSw
  go_loopw [14] (fun i wr => ∃ k : Nat, k ≤ ns ∧ i = .int .i64 (k : Int) ∧ setR (S : Int) (set.take k) = true ∧ So w S N1 v1 (set.take k) wr) (fun i _ => ns - (intOf i).toNat)
  case atStart => exact ⟨0, Nat.zero_le _, rfl, by rw [List.take_zero]; rfl, by rw [List.take_zero]; exact U0.out⟩
  case round =>
    obtain ⟨k, hk, rfl, hse, hso⟩ := hrel
    have HSE := kide hse
    have HSO := kide hso
    have d0 := hso.bx.cell 0
    have d1 := hso.bx.cell 1
    clear hse hso U0
    by_cases hlt : k < ns
    · obtain ⟨-, hi64, h | ⟨b3, o3, rfl, hc3⟩⟩ := HST.out.later HSO.out.bel
      · have := HNS.out; rw [h] at this; simp at this; omega
      have hk1 : k < set.length := by rw [HNS.out]; exact hlt
      have e3 := hc3 k hk1
      have ex : set[k]? = some (set.getD k 0) := by simp [List.getD, hk1]
      generalize set.getD k 0 = x at *
      have EX := kide ex
      have j0 : (k : Int) < (ns : Int) := by omega
      have HTK : Hid (set.take k ++ [x] = set.take (k + 1)) := by show _ = _; rw [List.take_add_one, EX.out]; rfl
      have HNU := kide (numberOk_any (S : Int) (by omega) v1 x wr)
      clear hc3 hi64 ex hk1
      cases hn : numR (S : Int) x with
      | false =>
        rw [hn] at HNU
        have HF := kide (setR_no2 EX.out (.inl hn))
        clear hn
        go_wp2_with fail
        refine Calls.mono HNU.out ?_
        rintro e u ⟨rfl, hbu⟩
        have BU := kide (HSO.out.bel.trans (hbu.mono HSO.out.bel.size))
        clear hbu
        go_wp2_with fail
        go_ret
        exact ⟨ret_bool HF.out.symm, BU.out⟩
      | true =>
        rw [hn] at HNU
        have hb := numR_iff.1 hn
        have HB4 : Hid (-400 ≤ x ∧ x ≤ 400) := by have := HS4.out; unfold Hid; omega
        obtain ⟨j, hj⟩ : ∃ j : Nat, absI x = (j : Int) := ⟨(absI x).toNat, by rw [absI_def]; split <;> omega⟩
        have hjN : j < N1 := by
          have := HN1.out
          rw [absI_def] at hj
          split at hj <;> omega
        have HSW := kide (fun u => switchOf_any x HB4.out u)
        rw [hj] at HSW
        have k1 : (j : Int) < (N1 : Int) := by omega
        have HJ := kide hj
        clear hb hj
        go_wp2_with fail
        refine Calls.mono HNU.out ?_
        rintro e u ⟨rfl, hbu⟩
        have SU := kide (HSO.out.later hbu)
        have t0 := SU.out.tb.cell j
        rw [List.getElem?_toArray, mtL_at hjN] at t0
        clear hbu d0 d1 e3
        cases hm : decide ((j : Int) ∈ (set.take k).map absI) with
        | true =>
          have HF := kide (setR_no2 (S := (S : Int)) EX.out (.inr (by rw [HJ.out]; exact of_decide_eq_true hm)))
          rw [hm] at t0
          clear hm
          go_wp2_with fail
          refine Calls.mono (HSW.out _) ?_
          rintro e u2 ⟨rfl, hw2⟩
          obtain rfl := hw2.symm
          clear hw2
          go_wp2_with fail
          go_ret
          exact ⟨ret_bool HF.out.symm, SU.out.bel⟩
        | false =>
          have HS2 : Hid (setR (S : Int) (set.take (k + 1)) = true) := by
            have := setR_snoc (x := x) HSE.out hn (by rw [HJ.out]; exact of_decide_eq_false hm)
            rwa [HTK.out] at this
          rw [hm] at t0
          have S2 := kide (SU.out.put HJ.out)
          rw [HTK.out] at S2
          have z0 := SU.out.tb.froz j
          clear hm hn
          go_wp2_with fail
          refine Calls.mono (HSW.out _) ?_
          rintro e u2 ⟨rfl, hw2⟩
          obtain rfl := hw2.symm
          clear hw2
          go_wp2_with fail
          refine Calls.mono (HSW.out _) ?_
          rintro e u2 ⟨rfl, hw2⟩
          obtain rfl := hw2.symm
          clear hw2
          go_wp2_with fail
          go_roundw
          case rel => exact ⟨k + 1, by omega, by go_num, HS2.out, S2.out⟩
          case measure => simp only [intOf]; omega
    · obtain rfl : k = ns := by omega
      have HF : Hid (setR (S : Int) set = true) := by
        have h := HSE.out
        rw [List.take_of_length_le (by rw [HNS.out]; exact Nat.le_refl _)] at h
        exact h
      go_wp2_with fail
      go_ret
      exact ⟨ret_bool HF.out.symm, HSO.out.bel⟩
end Go.Proofs.YtmfamdonbgmjbaaDoor

/- What the program's CnfOk answers. -/
namespace Go.Proofs.YtmfamdonbgmjbaaDoor
set_option linter.unusedVariables false
set_option linter.unusedSimpArgs false
open Go.RowKit

theorem clauseOk_any (S : Int) (hS : 0 ≤ S ∧ S ≤ 400) (v1 : Value) (a : Option Addr) (c : Nat) (ks : List Int) (w : World) (hr : RdI w a ks) :
    Calls Tryd.prog 58 #[.agg #[.int .i64 S, v1], .slice a ks.length c] w fun e w' => e = .returned (.bool (claR S ks)) ∧ Below w.heap.size w w' := by
  have hl := hr.1
  have hb0 : Below w.heap.size w (w.alloc (Obj.cells #[Value.int .i64 S, v1] 29)) := (Below.refl _ _).alloc (Nat.le_refl _) _
  have B0 := kide hb0
  have HR := kide (hr.later hb0)
  have c0 : (w.alloc (Obj.cells #[Value.int .i64 S, v1] 29)).cell? ⟨w.heap.size, 0, none⟩ = some (Value.int .i64 S) := by simp
  have c1 : (w.alloc (Obj.cells #[Value.int .i64 S, v1] 29)).cell? ⟨w.heap.size, 1, none⟩ = some v1 := by simp
  have l0 : w.heap.size < (w.alloc (Obj.cells #[Value.int .i64 S, v1] 29)).heap.size := by simp
  by_cases h4 : ks.length ≤ 400
  · have hZ : claR S ks = clR S 0 ks := by rw [claR, decide_eq_true h4]; rfl
    rw [hZ]
    generalize hzz : clR S 0 ks = Z
    have HZ := kide hzz
    have HSS := kide hS
    clear hzz hZ hr hb0
    go_enter Tryd.func58, Tryd.ntmps58
    go_wp2_with fail
    generalize (w.alloc (Obj.cells #[Value.int .i64 S, v1] 29)) = w0 at *
    go_loopw [5, 13] (fun l i wr => ∃ (k : Nat) (last : Int), k ≤ ks.length ∧ i = .int .i64 (k : Int) ∧ l = .int .i64 last ∧ clR S last (ks.drop k) = Z ∧ Below w0.heap.size w0 wr) (fun _ i _ => ks.length - (intOf i).toNat)
    case atStart => exact ⟨0, 0, Nat.zero_le _, rfl, rfl, by simpa using HZ.out, Below.refl _ _⟩
    case round =>
      obtain ⟨k, last, hk, rfl, rfl, hz, hbel⟩ := hrel
      have HB := kide hbel
      have d0 := kcell hbel w.heap.size 0 l0
      have d1 := kcell hbel w.heap.size 1 l0
      rw [c0] at d0
      rw [c1] at d1
      have lw : w.heap.size < wr.heap.size := Nat.lt_of_lt_of_le l0 hbel.size
      by_cases hlt : k < ks.length
      · obtain ⟨-, hi64, h | ⟨b3, o3, rfl, hc3⟩⟩ := HR.out.later hbel
        · subst h; simp at hlt
        have e3 := hc3 k hlt
        rw [clR_step hlt] at hz
        generalize ks.getD k 0 = x at *
        have i0 : (k : Int) < (ks.length : Int) := by omega
        have HNO := kide (fun u => numberOk_any S HSS.out v1 x u)
        have HZJ := kide hz
        have g3 := block_lt_of_cell e3
        clear hc3 hi64 hz hbel hS
        cases hnu : numR S x with
        | false =>
          rw [hnu] at HNO
          have HF : Hid (Z = false) := by have h := HZJ.out; rw [hnu] at h; simp at h; exact h
          clear hnu
          go_wp2_with fail
          refine Calls.mono (HNO.out _) ?_
          rintro e w1 ⟨rfl, hb1⟩
          go_wp2_with fail
          go_ret
          exact ⟨ret_bool HF.out.symm, B0.out.trans ((HB.out.trans (hb1.mono HB.out.size)).mono B0.out.size)⟩
        | true =>
          rw [hnu] at HNO
          have hxx : -400 ≤ x ∧ x ≤ 400 := by
            have h := hnu
            simp [numR] at h
            have := HSS.out
            omega
          obtain ⟨hx1, hx2⟩ := hxx
          by_cases hlx : last < absI x
          · have HNX : Hid (clR S (absI x) (ks.drop (k + 1)) = Z) := by
              show _ = _
              have h := HZJ.out
              rw [hnu, decide_eq_true hlx] at h
              simpa using h
            clear hnu
            go_wp2_with fail
            refine Calls.mono (HNO.out _) ?_
            rintro e w1 ⟨rfl, hb1⟩
            go_wp2_with (go_at_call 51; refine Calls.mono (switchOf_any _ ⟨hx1, hx2⟩ _) ?_; rintro e w2 ⟨rfl, hw⟩; obtain rfl := hw)
            go_roundw
            case rel => exact ⟨k + 1, absI x, by omega, by go_num, rfl, HNX.out, HB.out.trans (hb1.mono HB.out.size)⟩
            case measure => simp [intOf]; omega
          · have HF : Hid (Z = false) := by have h := HZJ.out; rw [decide_eq_false hlx] at h; simp at h; exact h
            clear hnu
            go_wp2_with fail
            refine Calls.mono (HNO.out _) ?_
            rintro e w1 ⟨rfl, hb1⟩
            go_wp2_with (go_at_call 51; refine Calls.mono (switchOf_any _ ⟨hx1, hx2⟩ _) ?_; rintro e w2 ⟨rfl, hw⟩; obtain rfl := hw)
            go_ret
            exact ⟨ret_bool HF.out.symm, B0.out.trans ((HB.out.trans (hb1.mono HB.out.size)).mono B0.out.size)⟩
      · have HZT : Hid (Z = true) := by
          show _ = _
          rw [← hz, List.drop_eq_nil_of_le (by omega)]
          rfl
        clear hz hbel
        go_wp2_with fail
        go_ret
        exact ⟨ret_bool HZT.out.symm, B0.out.trans (HB.out.mono B0.out.size)⟩
  · have HR : Hid (claR S ks = false) := by show _ = _; rw [claR, decide_eq_false h4]; rfl
    clear hr hb0
    go_enter Tryd.func58, Tryd.ntmps58
    go_wp2_with fail
    go_ret
    exact ⟨ret_bool HR.out.symm, B0.out⟩

/-- The closure: is a clause not right? The Cnf lies in a box. -/
theorem wrong_any (S : Int) (hS : 0 ≤ S ∧ S ≤ 400) (v1 : Value) (a : Option Addr) (c : Nat) (ks : List Int) (g : Nat) (w : World) (hr : RdI w a ks) (h0 : w.cell? ⟨g, 0, none⟩ = some (.int .i64 S)) (h1 : w.cell? ⟨g, 1, none⟩ = some v1) :
    Calls Tryd.prog 57 #[.slice a ks.length c, .pointer (some ⟨g, 0, none⟩)] w fun e w' => e = .returned (.bool (!claR S ks)) ∧ Below w.heap.size w w' := by
  have HC := kide (fun u hu => clauseOk_any S hS v1 a c ks u (hr.later hu))
  clear hr
  have hl := block_lt_of_cell h0
  go_enter Tryd.func57, Tryd.ntmps57
  go_wp2_with fail
  refine Calls.mono (HC.out _ (Below.refl _ _)) ?_
  rintro e w1 ⟨rfl, hb1⟩
  go_wp2_with fail
  go_ret
  exact ⟨rfl, hb1⟩

end Go.Proofs.YtmfamdonbgmjbaaDoor

/- Whether a function value says yes of some row, or of some number: slices.IndexFunc, slices.ContainsFunc. -/
namespace Go.Proofs.YtmfamdonbgmjbaaDoor
set_option linter.unusedVariables false
set_option linter.unusedSimpArgs false
open Go.RowKit

theorem any_step {α : Type} {p : α → Bool} {xs : List α} {k : Nat} {x : α} (h : xs[k]? = some x) : (xs.drop k).any p = (p x || (xs.drop (k + 1)).any p) := by
  have hk : k < xs.length := (List.getElem?_eq_some_iff.1 h).1
  have hx : xs[k] = x := (List.getElem?_eq_some_iff.1 h).2
  rw [List.drop_eq_getElem_cons hk, hx, List.any_cons]

theorem IndexSS_any (f : Nat) (hf : ∀ args w, Sem.run Tryd.prog (callFunc f args) w = .ok (.enter f args) w) (cv : Value) (p : List Int → Bool) (a : Option Addr) (c n : Nat) (xs : List Iw) (w : World) (hr : RdII w a xs) (hn : xs.length = n)
    (HF : Hid (∀ u, Below w.heap.size w u → ∀ x ∈ xs, Calls Tryd.prog f #[.slice x.a x.ks.length x.c, cv] u fun e w' => e = .returned (.bool (p x.ks)) ∧ Below u.heap.size u w')) :
    Calls Tryd.prog 73 #[.slice a n c, .func (.func f) #[] #[cv]] w fun e w' => ∃ r : Int, e = .returned (.int .i64 r) ∧ decide (0 ≤ r) = (xs.map Iw.ks).any p ∧ Below w.heap.size w w' := by
  have hlen := hr.1
  rw [hn] at hlen
  have HN := kide hn
  generalize hzz : (xs.map Iw.ks).any p = Z
  have HZ := kide hzz
  clear hn hzz
  go_enter Tryd.func73, Tryd.ntmps73
  go_wp2_with fail
  go_loopw [8] (fun i wr => ∃ k : Nat, k ≤ n ∧ i = .int .i64 (k : Int) ∧ ((xs.map Iw.ks).drop k).any p = Z ∧ Below w.heap.size w wr) (fun i _ => n - (intOf i).toNat)
  case atStart => exact ⟨0, Nat.zero_le _, rfl, by simpa using HZ.out, Below.refl _ _⟩
  case round =>
      obtain ⟨k, hk, rfl, hz, hbel⟩ := hrel
      have HB := kide hbel
      by_cases hlt : k < n
      · obtain ⟨-, h | ⟨b, o, rfl, hc⟩⟩ := hr
        · have := HN.out; subst h; simp at this; omega
        obtain ⟨s, gx⟩ : ∃ y, xs[k]? = some y := ⟨xs[k]'(by rw [HN.out]; exact hlt), List.getElem?_eq_getElem _⟩
        obtain ⟨p0, -⟩ := (hc k _ gx).later hbel
        have HCL := kide (HF.out wr hbel s (List.mem_of_getElem? gx))
        rw [any_step (x := s.ks) (by rw [List.getElem?_map, gx]; rfl)] at hz
        obtain ⟨a1, c1, k1⟩ := s
        simp only [] at p0 HCL hz
        generalize p k1 = P1 at *
        clear hc gx
        have i0 : (k : Int) < (n : Int) := by omega
        clear hbel
        cases P1 with
        | true =>
          have HZ1 : Hid (Z = true) := by show _ = _; rw [← hz]; rfl
          clear hz
          go_wp2_with fail
          refine Calls.mono HCL.out ?_
          rintro e w1 ⟨rfl, hb1⟩
          go_wp2_with fail
          go_ret
          exact ⟨_, rfl, by rw [HZ1.out]; exact decide_eq_true (by omega), HB.out.trans (hb1.mono HB.out.size)⟩
        | false =>
          rw [Bool.false_or] at hz
          have HZ1 := kide hz
          clear hz
          go_wp2_with fail
          refine Calls.mono HCL.out ?_
          rintro e w1 ⟨rfl, hb1⟩
          go_wp2_with fail
          go_roundw
          case rel => exact ⟨k + 1, by omega, by go_num, HZ1.out, HB.out.trans (hb1.mono HB.out.size)⟩
          case measure => simp [intOf]; omega
      · have HZ1 : Hid (Z = false) := by
          show _ = _
          rw [← hz, List.drop_eq_nil_of_le (by have := HN.out; simp; omega)]; rfl
        clear hz hbel
        go_wp2_with fail
        go_ret
        exact ⟨-1, rfl, by rw [HZ1.out]; rfl, HB.out⟩

theorem ContainsSS_any (f : Nat) (hf : ∀ args w, Sem.run Tryd.prog (callFunc f args) w = .ok (.enter f args) w) (cv : Value) (p : List Int → Bool) (a : Option Addr) (c n : Nat) (xs : List Iw) (w : World) (hr : RdII w a xs) (hn : xs.length = n)
    (HF : Hid (∀ u, Below w.heap.size w u → ∀ x ∈ xs, Calls Tryd.prog f #[.slice x.a x.ks.length x.c, cv] u fun e w' => e = .returned (.bool (p x.ks)) ∧ Below u.heap.size u w')) :
    Calls Tryd.prog 54 #[.slice a n c, .func (.func f) #[] #[cv]] w fun e w' => e = .returned (.bool ((xs.map Iw.ks).any p)) ∧ Below w.heap.size w w' := by
  have HI := kide (IndexSS_any f hf cv p a c n xs w hr hn HF)
  generalize (xs.map Iw.ks).any p = Z at *
  clear hr hn HF
  go_enter Tryd.func54, Tryd.ntmps54
  go_wp2_with fail
  refine Calls.mono HI.out ?_
  rintro e w1 ⟨r, rfl, hr, hb1⟩
  have HR := kide hr
  clear hr
  go_wp2_with fail
  go_ret
  exact ⟨ret_bool HR.out, hb1⟩

theorem IndexS_any (f : Nat) (hf : ∀ args w, Sem.run Tryd.prog (callFunc f args) w = .ok (.enter f args) w) (cv : Value) (p : Int → Bool) (a : Option Addr) (c n : Nat) (xs : List Int) (w : World) (hr : RdI w a xs) (hn : xs.length = n)
    (HF : Hid (∀ u, Below w.heap.size w u → ∀ x ∈ xs, Calls Tryd.prog f #[.int .i64 x, cv] u fun e w' => e = .returned (.bool (p x)) ∧ Below u.heap.size u w')) :
    Calls Tryd.prog 66 #[.slice a n c, .func (.func f) #[] #[cv]] w fun e w' => ∃ r : Int, e = .returned (.int .i64 r) ∧ decide (0 ≤ r) = xs.any p ∧ Below w.heap.size w w' := by
  have hlen := hr.1
  rw [hn] at hlen
  have HN := kide hn
  generalize hzz : xs.any p = Z
  have HZ := kide hzz
  clear hn hzz
  go_enter Tryd.func66, Tryd.ntmps66
  go_wp2_with fail
  go_loopw [8] (fun i wr => ∃ k : Nat, k ≤ n ∧ i = .int .i64 (k : Int) ∧ (xs.drop k).any p = Z ∧ Below w.heap.size w wr) (fun i _ => n - (intOf i).toNat)
  case atStart => exact ⟨0, Nat.zero_le _, rfl, by simpa using HZ.out, Below.refl _ _⟩
  case round =>
      obtain ⟨k, hk, rfl, hz, hbel⟩ := hrel
      have HB := kide hbel
      by_cases hlt : k < n
      · obtain ⟨-, hi64, h | ⟨b, o, rfl, hc⟩⟩ := hr
        · have := HN.out; subst h; simp at this; omega
        have hltx : k < xs.length := by rw [HN.out]; exact hlt
        have gx : xs[k]? = some (xs.getD k 0) := by simp [List.getD, hltx]
        have p0 := hc k hltx
        rw [← kcell hbel _ _ (block_lt_of_cell p0)] at p0
        have HCL := kide (HF.out wr hbel _ (List.mem_of_getElem? gx))
        rw [any_step gx] at hz
        generalize xs.getD k 0 = x1 at *
        generalize p x1 = P1 at *
        clear hc hi64 gx hltx
        have i0 : (k : Int) < (n : Int) := by omega
        clear hbel
        cases P1 with
        | true =>
          have HZ1 : Hid (Z = true) := by show _ = _; rw [← hz]; rfl
          clear hz
          go_wp2_with fail
          refine Calls.mono HCL.out ?_
          rintro e w1 ⟨rfl, hb1⟩
          go_wp2_with fail
          go_ret
          exact ⟨_, rfl, by rw [HZ1.out]; exact decide_eq_true (by omega), HB.out.trans (hb1.mono HB.out.size)⟩
        | false =>
          rw [Bool.false_or] at hz
          have HZ1 := kide hz
          clear hz
          go_wp2_with fail
          refine Calls.mono HCL.out ?_
          rintro e w1 ⟨rfl, hb1⟩
          go_wp2_with fail
          go_roundw
          case rel => exact ⟨k + 1, by omega, by go_num, HZ1.out, HB.out.trans (hb1.mono HB.out.size)⟩
          case measure => simp [intOf]; omega
      · have HZ1 : Hid (Z = false) := by
          show _ = _
          rw [← hz, List.drop_eq_nil_of_le (by have := HN.out; simp; omega)]; rfl
        clear hz hbel
        go_wp2_with fail
        go_ret
        exact ⟨-1, rfl, by rw [HZ1.out]; rfl, HB.out⟩

theorem ContainsS_any (f : Nat) (hf : ∀ args w, Sem.run Tryd.prog (callFunc f args) w = .ok (.enter f args) w) (cv : Value) (p : Int → Bool) (a : Option Addr) (c n : Nat) (xs : List Int) (w : World) (hr : RdI w a xs) (hn : xs.length = n)
    (HF : Hid (∀ u, Below w.heap.size w u → ∀ x ∈ xs, Calls Tryd.prog f #[.int .i64 x, cv] u fun e w' => e = .returned (.bool (p x)) ∧ Below u.heap.size u w')) :
    Calls Tryd.prog 53 #[.slice a n c, .func (.func f) #[] #[cv]] w fun e w' => e = .returned (.bool (xs.any p)) ∧ Below w.heap.size w w' := by
  have HI := kide (IndexS_any f hf cv p a c n xs w hr hn HF)
  generalize xs.any p = Z at *
  clear hr hn HF
  go_enter Tryd.func53, Tryd.ntmps53
  go_wp2_with fail
  refine Calls.mono HI.out ?_
  rintro e w1 ⟨r, rfl, hr, hb1⟩
  have HR := kide hr
  clear hr
  go_wp2_with fail
  go_ret
  exact ⟨ret_bool HR.out, hb1⟩

theorem enter_CnfOk1 : ∀ args w, Sem.run Tryd.prog (callFunc 57 args) w = .ok (.enter 57 args) w := fun args w => by rfl
theorem enter_Meets1 : ∀ args w, Sem.run Tryd.prog (callFunc 50 args) w = .ok (.enter 50 args) w := fun args w => by rfl
theorem enter_Meets2 : ∀ args w, Sem.run Tryd.prog (callFunc 52 args) w = .ok (.enter 52 args) w := fun args w => by rfl

end Go.Proofs.YtmfamdonbgmjbaaDoor

/- What the program's CnfOk answers: the whole. -/
namespace Go.Proofs.YtmfamdonbgmjbaaDoor
set_option linter.unusedVariables false
set_option linter.unusedSimpArgs false
open Go.RowKit

theorem not_any_not {α : Type} (p : α → Bool) (l : List α) : (!l.any fun x => !p x) = l.all p := by
  induction l with
  | nil => rfl
  | cons x t ih => rw [List.any_cons, List.all_cons, ← ih]; cases p x <;> simp

theorem implCnf_any (S : Int) (a : Option Addr) (c n : Nat) (xs : List Iw) (w : World) (hs : RdII w a xs) (hn : xs.length = n) :
    Calls Tryd.prog 34 #[.agg #[.int .i64 S, .slice a n c]] w fun e w' => e = .returned (.bool (cnfR S (xs.map Iw.ks))) ∧ Below w.heap.size w w' := by
  have hl2 := hs.1
  rw [hn] at hl2
  have hb0 : Below w.heap.size w (w.alloc (Obj.cells #[Value.int .i64 S, Value.slice a n c] 29)) := (Below.refl _ _).alloc (Nat.le_refl _) _
  have B0 := kide hb0
  by_cases h0 : 0 ≤ S
  · by_cases h1 : S ≤ 400
    · by_cases h4 : n ≤ 4000
      · have c0 : (w.alloc (Obj.cells #[Value.int .i64 S, Value.slice a n c] 29)).cell? ⟨w.heap.size, 0, none⟩ = some (Value.int .i64 S) := by simp
        have c1 : (w.alloc (Obj.cells #[Value.int .i64 S, Value.slice a n c] 29)).cell? ⟨w.heap.size, 1, none⟩ = some (Value.slice a n c) := by simp
        have l0 : w.heap.size < (w.alloc (Obj.cells #[Value.int .i64 S, Value.slice a n c] 29)).heap.size := by simp
        have HZ : Hid (cnfR S (xs.map Iw.ks) = !(xs.map Iw.ks).any fun k => !claR S k) := by
          show _ = _
          rw [not_any_not]
          exact cnfR_yes (decide_eq_true ⟨h0, h1⟩) (by rw [List.length_map, hn]; exact h4)
        have HC := kide (ContainsSS_any 57 enter_CnfOk1 (.pointer (some ⟨w.heap.size, 0, none⟩)) (fun k => !claR S k) a c n xs _ (hs.later hb0) hn
          (fun u hu x hx => by
            refine wrong_any S ⟨h0, h1⟩ (.slice a n c) x.a x.c x.ks w.heap.size u ?_ ((kcell hu _ _ l0).trans c0) ((kcell hu _ _ l0).trans c1)
            obtain ⟨i, hi⟩ := List.getElem?_of_mem hx
            rcases (hs.later hb0).2 with h | ⟨b, o, -, hc⟩
            · subst h; simp at hi
            · exact (hc i x hi).2.later hu))
        generalize (xs.map Iw.ks).any (fun k => !claR S k) = Z at *
        generalize cnfR S (xs.map Iw.ks) = V at *
        clear hs hn hb0 c0 c1 l0
        go_enter Tryd.func34, Tryd.ntmps34
        go_wp2_with fail
        refine Calls.mono HC.out ?_
        rintro e w1 ⟨rfl, hb1⟩
        go_wp2_with fail
        go_ret
        exact ⟨ret_bool HZ.out.symm, B0.out.trans (hb1.mono B0.out.size)⟩
      · rw [cnfR_no2 (by rw [List.length_map, hn]; exact h4)]
        clear hs hn hb0
        go_enter Tryd.func34, Tryd.ntmps34
        go_wp2_with fail
        go_ret
        exact ⟨rfl, B0.out⟩
    · rw [cnfR_no1 (decide_eq_false (by omega))]
      clear hs hn hb0
      go_enter Tryd.func34, Tryd.ntmps34
      go_wp2_with fail
      go_ret
      exact ⟨rfl, B0.out⟩
  · rw [cnfR_no1 (decide_eq_false (by omega))]
    clear hs hn hb0
    go_enter Tryd.func34, Tryd.ntmps34
    go_wp2_with fail
    go_ret
    exact ⟨rfl, B0.out⟩

end Go.Proofs.YtmfamdonbgmjbaaDoor

/- Numbers looked for, on the given side. -/
namespace Go.Proofs.YtmfamdonbgmjbaaDoor
set_option linter.unusedVariables false
set_option linter.unusedSimpArgs false
open Go.RowKit

theorem l1Has_any (a : Option Addr) (c : Nat) (ks : List Int) (x : Int) (w : World) (hr : RdI w a ks) :
    Calls Tryd.prog 31 #[.slice a ks.length c, .int .i64 x] w fun e w' => e = .returned (.bool (decide (x ∈ ks))) ∧ w' = w := by
  have hlen := hr.1
  go_enter Tryd.func31, Tryd.ntmps31
  go_wp2_with fail
  go_loop [5] (fun i => ∃ k : Nat, k ≤ ks.length ∧ i = .int .i64 (k : Int) ∧ ∀ j, j < k → ks.getD j 0 ≠ x) (fun i => ks.length - (intOf i).toNat)
  case atStart => exact ⟨0, Nat.zero_le _, rfl, fun j h => by omega⟩
  case round =>
    obtain ⟨k, hk, rfl, hz⟩ := hrel
    have HZ := kide hz
    by_cases hlt : k < ks.length
    · obtain ⟨-, -, h | ⟨b, o, rfl, hc⟩⟩ := hr
      · subst h; simp at hlt
      have e0 := hc k hlt
      have hmem : ks.getD k 0 ∈ ks := by simp [List.getD, hlt]
      generalize hy : ks.getD k 0 = y at *
      have HY := kide hy
      have i0 : (k : Int) < (ks.length : Int) := by omega
      clear hc hz hy
      by_cases hxy : y = x
      · have e1 : (y == x) = true := by simp [hxy]
        have HR : Hid (decide (x ∈ ks) = true) := decide_eq_true (by rw [← hxy]; exact hmem)
        clear hxy hmem
        go_wp2_with fail
        go_ret
        exact ⟨ret_bool HR.out.symm, rfl⟩
      · have e1 : (y == x) = false := by simp [hxy]
        have HX := kide hxy
        clear hxy hmem
        go_wp2_with fail
        go_round
        case rel =>
          refine ⟨k + 1, by omega, by go_num, fun j hj => ?_⟩
          by_cases hjk : j = k
          · rw [hjk, HY.out]; exact HX.out
          · exact HZ.out j (by omega)
        case measure => simp [intOf]; omega
    · have HR : Hid (decide (x ∈ ks) = false) := decide_eq_false (fun h => by
        obtain ⟨j, hj, e⟩ := List.mem_iff_getElem.1 h
        exact hz j (by omega) (by simp [List.getD, hj, e]))
      clear hz
      go_wp2_with fail
      go_ret
      exact ⟨ret_bool HR.out.symm, rfl⟩
end Go.Proofs.YtmfamdonbgmjbaaDoor
