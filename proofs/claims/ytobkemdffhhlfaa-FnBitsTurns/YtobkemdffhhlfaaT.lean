/- What the given functions on words answer: RepeatBits, WidenBits. -/
import Derived.Test.YtobkemdffhhlfaaS
namespace Go.Proofs.Ytobkemdffhhlfaa
set_option linter.unusedVariables false
set_option linter.unusedSimpArgs false
open Go.RowKit

/-- 'append(out, list...)', out the call's own, list not empty. -/
theorem wpList_appBs (w : World) {ops : Array Oper} {rest : List Oper} {o : Oper} {a : Act} {Q : Exit → Act → World → Prop} (hgd : o.guard = none) (s x : Operand)
    (ho : o.op = .call { callee := .builtin .append, args := #[s, x], argTypes := #[22, 22] })
    (base : Nat) (v : Value) (bs ys : List Nat) (hs : a.eval s = v) (hown : OwB w base v bs) (b ob c : Nat) (hx : a.eval x = .slice (some ⟨b, ob, none⟩) ys.length c)
    (hc : ∀ i, i < ys.length → w.cell? ⟨b, ob + i, none⟩ = some (.int .u8 ((ys.getD i 0 : Nat) : Int))) (hl : bs.length + ys.length ≤ 4194304) (hbase : base ≤ w.heap.size)
    (h : ∀ v' w', OwB w' base v' (bs ++ ys) → w.grownBy w' v.ownBlock → wpList Try.prog ops Q rest (a.put o.dst v') w') : wpList Try.prog ops Q (o :: rest) a w := by
  obtain ⟨i0, hi, hz0, hz1, hz2⟩ := info_parts Try.infoU8
  refine wpList_append_own w hgd s x 22 ho base 5 i0 (.int .u8 0) 1 1 Try.underlying22 hi hz0 hz1 hz2 rfl (by decide) v bs.length (u8s bs) hs hown ⟨b, ob, none⟩ ys.length c (u8s ys) hx (by simp [u8s]) ?_ ?_ ?_ ?_ hbase ?_
  · intro j u hj
    have hj' : j < ys.length := by
      have := (List.getElem?_eq_some_iff.1 hj).1
      simpa [u8s] using this
    rw [Addr.add_lit, hc j hj']
    simp [u8s, hj'] at hj
    rw [← hj]
    simp [List.getD, hj']
  · intro u hu
    obtain ⟨_, _, rfl⟩ := List.mem_map.1 hu
    rfl
  · unfold maxLen; omega
  · omega
  · intro v' w' h1 h2 _
    refine h v' w' ?_ h2
    unfold OwB
    simpa [u8s] using h1

def repList (bs : List Nat) (k : Nat) : List Nat := (List.replicate k bs).flatten
theorem repList_succ (bs : List Nat) (k : Nat) : repList bs (k + 1) = repList bs k ++ bs := by
  unfold repList
  rw [List.replicate_succ', List.flatten_append]; simp
theorem repList_len (bs : List Nat) (k : Nat) : (repList bs k).length = k * bs.length := by
  induction k with
  | zero => simp [repList]
  | succ k ih => rw [repList_succ, List.length_append, ih, Nat.succ_mul]
theorem repList_mem (bs : List Nat) (k x : Nat) (h : x ∈ repList bs k) : x ∈ bs := by
  unfold repList at h
  simp at h
  obtain ⟨l, ⟨_, rfl⟩, hx⟩ := h
  exact hx

def repR (W : Int) (xs : List Nat) (n : Int) : Int × List Nat × Bool :=
  if rightB W xs = true ∧ 1 ≤ n ∧ n ≤ 4096 ∧ W * n ≤ 4096 then (W * n, pack (repList (bitsTo xs W.toNat) n.toNat), true) else noR

set_option maxHeartbeats 1000000 in
set_option maxRecDepth 100000 in
theorem specRep_any (W : Int) (a : Option Addr) (c : Nat) (xs : List Nat) (n : Int) (w : World) (hr : Rd w a xs) :
    Calls Try.prog 52 #[.agg #[.int .i64 W, .slice a xs.length c], .int .i64 n] w (RetB w (repR W xs n)) := by
  have h2 : Below w.heap.size w ((w.alloc (Obj.cells #[Value.int IntKind.i64 W, Value.slice a xs.length c] 26)).alloc (Obj.cells #[Value.int IntKind.i64 0, Value.slice none 0 0] 26)) := ((Below.refl _ _).alloc (Nat.le_refl _) _).alloc (by simp) _
  have hr' := hr.later h2
  by_cases hc : rightB W xs = true ∧ 1 ≤ n ∧ n ≤ 4096 ∧ W * n ≤ 4096
  · rw [repR, if_pos hc]
    generalize hR : (W * n, pack (repList (bitsTo xs W.toNat) n.toNat), true) = R
    have HR : Hid ((W * n, pack (repList (bitsTo xs W.toNat) n.toNat), true) = R) := hR
    clear hR
    obtain ⟨hok, hn1, hn2, hWn⟩ := hc
    obtain ⟨hW1, hW2, hWl⟩ := right_W hok
    obtain ⟨V, rfl⟩ := Int.eq_ofNat_of_zero_le (show 0 ≤ W by omega)
    obtain ⟨m, rfl⟩ := Int.eq_ofNat_of_zero_le (show 0 ≤ n by omega)
    have hVl : V ≤ 64 * xs.length := by omega
    have hVm : V * m ≤ 4096 := by exact_mod_cast hWn
    have hd : decide (1 ≤ (m : Int) ∧ (m : Int) ≤ 4096) = true := by simp; omega
    have hm1 : 1 ≤ m := by omega
    have HWl : Hid ((xs.length : Int) = ((V : Int) + 63) / 64) := hWl
    clear hWl
    go_enter Try.func52, Try.ntmps52
    go_wp2_with fail
    refine (specOk_any _ _ _ _ _ hr').mono ?_
    rintro e w1 ⟨rfl, hb1⟩
    have hr1 := hr'.later hb1
    have HB1 := hb1
    obtain ⟨hcc, hff⟩ := bcell hb1
    have hz : w.heap.size + 1 < w1.heap.size := by have := hb1.size; simp at this; omega
    clear hb1
    go_wp2_with (go_at_call 55; refine (l1In_any _ _ _ _).mono ?_; rintro e w' ⟨rfl, rfl⟩)
    refine (l1List_any _ _ _ _ _ hr1 hVl (by omega)).mono ?_
    rintro e w2 ⟨v, rfl, how, hb2⟩
    have hlen := bitsTo_len xs V
    have hle := bitsTo_le xs V
    obtain ⟨a2, c2, rfl, hrb, hc2, hm2⟩ := how.shape (by rw [bitsTo_len]; omega) (fun x hx => by have := hle x hx; omega)
    have HB2 := chain HB1 hb2
    rw [hlen] at hc2 ⊢
    obtain ⟨-, -, hn | ⟨bb, oo, rfl, hcell⟩⟩ := hrb
    · rw [hn] at hlen; simp at hlen; omega
    have hbb : bb < w2.heap.size := block_lt_of_cell (hcell 0 (by omega))
    clear how hb2 hr hr' hr1 hcc hff hz HB1
    go_wp2_with fail
    have HB3 := Ba HB2 (Obj.cells #[] 5)
    have hB23 : Below w2.heap.size w2 (w2.alloc (Obj.cells #[] 5)) := (Below.refl _ _).alloc (Nat.le_refl _) _
    have hcell3 : ∀ i, i < V → (w2.alloc (Obj.cells #[] 5)).cell? ⟨bb, oo + i, none⟩ = some (.int .u8 (((bitsTo xs V).getD i 0 : Nat) : Int)) := fun i hi => by rw [acell _ _ _ hbb]; exact hcell i (by omega)
    have how3 := OwB.nil w2 w2.heap.size _ rfl (Nat.le_refl _)
    have hs3 : (w2.alloc (Obj.cells #[] 5)).heap.size = w2.heap.size + 1 := by simp
    generalize w2.alloc (Obj.cells #[] 5) = w3 at *
    generalize hbs : bitsTo xs V = bs at *
    have HBS : Hid (bitsTo xs V = bs) := hbs
    clear hbs hcell
    go_loopw [7, 8] (fun v i wr => ∃ k : Nat, k ≤ m ∧ i = .int .i64 k ∧ OwB wr w2.heap.size v (repList bs k) ∧ Below w2.heap.size w3 wr) (fun _ i _ => m - (intOf i).toNat)
    case atStart => exact ⟨0, Nat.zero_le _, rfl, how3, Below.refl _ _⟩
    case round =>
      obtain ⟨k, hk, rfl, hown, hbel⟩ := hrel
      by_cases hlt : k < m
      · have hrl := repList_len bs k
        rw [hlen] at hrl
        have hkV : k * V ≤ 4096 := by
          have : k * V ≤ m * V := Nat.mul_le_mul_right _ (by omega)
          rw [Nat.mul_comm m V] at this; omega
        have hsz := hbel.size
        have hcr : ∀ i, i < bs.length → wr.cell? ⟨bb, oo + i, none⟩ = some (.int .u8 ((bs.getD i 0 : Nat) : Int)) := fun i hi => by
          rw [hbel.cell (p := ⟨bb, oo + i, none⟩) (by exact hbb)]; exact hcell3 i (by omega)
        have HS : Hid (repList bs (k + 1) = repList bs k ++ bs) := repList_succ bs k
        have hll : (repList bs k).length + bs.length ≤ 4194304 := by rw [hrl, hlen]; omega
        clear hcell3 how3
        generalize repList bs k = rk at *
        go_wp2_with (at_builtin; refine wpList_appBs _ rfl _ _ rfl w2.heap.size _ rk bs rfl hown bb oo c2 (by rw [hlen]; rfl) hcr hll (by omega) ?_)
        intro v' w4 hown4 hgr4
        have hb4 : Below w2.heap.size w3 w4 := hbel.grown hgr4 (by omega) hown.own
        clear hgr4 hown hcr hbel
        go_wp2
        go_roundw
        case rel => exact ⟨k + 1, by omega, by go_num, by rw [HS.out]; exact hown4, hb4⟩
        case measure => simp [intOf]; omega
      · have e : k = m := by omega
        subst e
        have hrl := repList_len bs k
        rw [hlen] at hrl
        have hkV : k * V ≤ 4096 := by rw [Nat.mul_comm]; exact hVm
        have hkV1 : 1 ≤ k * V := Nat.mul_pos (by omega) (by omega)
        obtain ⟨a4, c4, rfl, hrb4, hc4, hm4⟩ := hown.shape (by rw [hrl]; omega) (fun x hx => by have := hle x (repList_mem _ _ _ hx); omega)
        have HBr := HB3.trans (hbel.mono HB2.size)
        have HQ : Hid ((((repList bs k).length : Int), pack (repList bs k), true) = R) := by
          show _ = _
          rw [← HR.out, Int.toNat_natCast, Int.toNat_natCast, HBS.out, hrl, Nat.mul_comm k V, Int.natCast_mul]
        have hfrom := l1From_yes a4 c4 (repList bs k) wr hrb4 (by omega) (by omega)
        clear hcell3 how3 hown hrb4 hbel HR HBS
        generalize repList bs k = rk at *
        clear hrl
        go_wp2_with fail
        refine hfrom.mono ?_
        rintro e w5 ⟨a5, c5, rfl, hfr, hb5⟩
        have HB5 := chain HBr hb5
        obtain ⟨hcc, hff⟩ := bcell HB5
        have hz5 : w.heap.size + 1 < w5.heap.size := by have := HB5.size; simp at this; omega
        have hzr : w.heap.size + 1 < wr.heap.size := by have := HBr.size; simp at this; omega
        dsimp only at hfr ⊢
        clear hfrom
        go_wp2
        exact bodyPost_ret (by simp [results, Try.results52, go_sem, hcc, hz5]; rfl) rfl (RetB.close (r := ((rk.length : Int), pack rk, true)) hfr (by omega) hzr (h2.trans (HB5.mono (by simp; omega))) HQ.out _ _)
  · rw [repR, if_neg hc]
    have hcase : rightB W xs = false ∨ (rightB W xs = true ∧ decide (1 ≤ n ∧ n ≤ 4096) = false) ∨ (rightB W xs = true ∧ decide (1 ≤ n ∧ n ≤ 4096) = true ∧ 4096 < W * n) := by
      cases hb : rightB W xs with
      | false => exact .inl rfl
      | true =>
        right
        by_cases h : 1 ≤ n ∧ n ≤ 4096
        · right; simp [hb, h] at hc ⊢; omega
        · left; simp only [h, decide_false]; simp
    clear hc
    rcases hcase with h | ⟨h, h1⟩ | ⟨h, h1, h3⟩
    · go_enter Try.func52, Try.ntmps52
      go_wp2_with fail
      refine (specOk_any _ _ _ _ _ hr').mono ?_
      rintro e w1 ⟨rfl, hb1⟩
      obtain ⟨hcc, hff⟩ := bcell hb1
      have hz : w.heap.size + 1 < w1.heap.size := by have := hb1.size; simp at this; omega
      go_wp2_with (go_at_call 55; refine (l1In_any _ _ _ _).mono ?_; rintro e w' ⟨rfl, rfl⟩)
      exact bodyPost_ret (v := .tuple #[.agg #[.int .i64 0, .slice none 0 0], .bool false]) (by simp [results, Try.results52, go_sem, hcc]) rfl (RetB.no (((h2.trans (hb1.mono (by simp; omega))).setCell (by simp) _).setCell (by simp) _))
    · go_enter Try.func52, Try.ntmps52
      go_wp2_with fail
      refine (specOk_any _ _ _ _ _ hr').mono ?_
      rintro e w1 ⟨rfl, hb1⟩
      obtain ⟨hcc, hff⟩ := bcell hb1
      have hz : w.heap.size + 1 < w1.heap.size := by have := hb1.size; simp at this; omega
      go_wp2_with (go_at_call 55; refine (l1In_any _ _ _ _).mono ?_; rintro e w' ⟨rfl, rfl⟩)
      exact bodyPost_ret (v := .tuple #[.agg #[.int .i64 0, .slice none 0 0], .bool false]) (by simp [results, Try.results52, go_sem, hcc]) rfl (RetB.no (((h2.trans (hb1.mono (by simp; omega))).setCell (by simp) _).setCell (by simp) _))
    · have hn := of_decide_eq_true h1
      obtain ⟨hW1, hW2, _⟩ := right_W h
      have hmul : W * n ≤ 4096 * 4096 := Int.mul_le_mul hW2 hn.2 (by omega) (by omega)
      go_enter Try.func52, Try.ntmps52
      go_wp2_with fail
      refine (specOk_any _ _ _ _ _ hr').mono ?_
      rintro e w1 ⟨rfl, hb1⟩
      obtain ⟨hcc, hff⟩ := bcell hb1
      have hz : w.heap.size + 1 < w1.heap.size := by have := hb1.size; simp at this; omega
      go_wp2_with (go_at_call 55; refine (l1In_any _ _ _ _).mono ?_; rintro e w' ⟨rfl, rfl⟩)
      exact bodyPost_ret (v := .tuple #[.agg #[.int .i64 0, .slice none 0 0], .bool false]) (by simp [results, Try.results52, go_sem, hcc]) rfl (RetB.no (((h2.trans (hb1.mono (by simp; omega))).setCell (by simp) _).setCell (by simp) _))

end Go.Proofs.Ytobkemdffhhlfaa
