/- Several texts in one. -/
import Derived.Test.YtllojnloldhghaaGreatDoorZBB
import Derived.Deep.RegionHeldLaw
import Derived.Deep.RegionHeld3
import Derived.Test.YtllojnloldhghaaGreatDoorZQA
import Derived.Test.YtllojnloldhghaaGreatDoorZKG

/- What the given WidenBits answers. -/
namespace Go.Proofs.YtllojnloldhghaaGreatDoor
set_option linter.unusedVariables false
set_option linter.unusedSimpArgs false
open Go.RowKit

def topOf (V : Nat) (xs : List Nat) (sign : Bool) : Nat := if sign then (tb xs (V - 1)).toNat else 0
theorem topOf_le (V : Nat) (xs : List Nat) (sign : Bool) : topOf V xs sign ≤ 1 := by
  unfold topOf
  split
  · cases tb xs (V - 1) <;> decide
  · omega

def wdnR (W : Int) (xs : List Nat) (n : Int) (sign : Bool) : Int × List Nat × Bool :=
  if rightB W xs = true ∧ 0 ≤ n ∧ n ≤ 4096 ∧ W + n ≤ 4096 then (W + n, pack (bitsTo xs W.toNat ++ List.replicate n.toNat (topOf W.toNat xs sign)), true) else noR

set_option maxHeartbeats 1000000 in
set_option maxRecDepth 100000 in
theorem specWid_any (W : Int) (a : Option Addr) (c : Nat) (xs : List Nat) (n : Int) (sign : Bool) (w : World) (hr : Rd w a xs) :
    Calls Tryz.prog 128 #[.agg #[.int .i64 W, .slice a xs.length c], .int .i64 n, .bool sign] w (RetB w (wdnR W xs n sign)) := by
  have h2 : Below w.heap.size w ((w.alloc (Obj.cells #[Value.int IntKind.i64 W, Value.slice a xs.length c] 82)).alloc (Obj.cells #[Value.int IntKind.i64 0, Value.slice none 0 0] 82)) := ((Below.refl _ _).alloc (Nat.le_refl _) _).alloc (by simp) _
  have hr' := hr.later h2
  by_cases hc : rightB W xs = true ∧ 0 ≤ n ∧ n ≤ 4096
  · obtain ⟨hok, hn1, hn2⟩ := hc
    have hRR : wdnR W xs n sign = if W + n ≤ 4096 then (W + n, pack (bitsTo xs W.toNat ++ List.replicate n.toNat (topOf W.toNat xs sign)), true) else noR := by
      unfold wdnR; simp [hok, hn1, hn2]
    rw [hRR]
    generalize hR : (if W + n ≤ 4096 then (W + n, pack (bitsTo xs W.toNat ++ List.replicate n.toNat (topOf W.toNat xs sign)), true) else noR) = R
    have HR : Hid ((if W + n ≤ 4096 then (W + n, pack (bitsTo xs W.toNat ++ List.replicate n.toNat (topOf W.toNat xs sign)), true) else noR) = R) := hR
    clear hR hRR
    obtain ⟨hW1, hW2, hWl⟩ := right_W hok
    obtain ⟨V, rfl⟩ := Int.eq_ofNat_of_zero_le (show 0 ≤ W by omega)
    obtain ⟨m, rfl⟩ := Int.eq_ofNat_of_zero_le hn1
    have hVl : V ≤ 64 * xs.length := by omega
    have hd : decide (0 ≤ (m : Int) ∧ (m : Int) ≤ 4096) = true := by simp; omega
    have HWl : Hid ((xs.length : Int) = ((V : Int) + 63) / 64) := hWl
    clear hWl
    have ht := topOf_le V xs sign
    have hv0 : (0 : Int) ≤ (V : Int) - 1 := by omega
    have hv1 : (V : Int) - 1 < (V : Int) := by omega
    go_enter Tryz.func128, Tryz.ntmps128
    go_wp2_with fail
    refine (specOk_any _ _ _ _ _ hr').mono ?_
    rintro e w1 ⟨rfl, hb1⟩
    have hr1 := hr'.later hb1
    have HB1 := hb1
    obtain ⟨hcc, hff⟩ := bcell hb1
    have hz : w.heap.size + 1 < w1.heap.size := by have := hb1.size; simp at this; omega
    clear hb1
    go_wp2_with (go_at_call 70; refine (l1In_any _ _ _ _).mono ?_; rintro e w' ⟨rfl, rfl⟩)
    refine (l1List_any _ _ _ _ _ hr1 hVl (by omega)).mono ?_
    rintro e w2 ⟨v, rfl, how, hb2⟩
    have hlen := bitsTo_len xs V
    have hle := bitsTo_le xs V
    obtain ⟨a2, c2, rfl, hrb, hc2, hm2⟩ := how.shape (by rw [bitsTo_len]; omega) (fun x hx => by have := hle x hx; omega)
    have HB2 := chain HB1 hb2
    have hsz2 := hb2.size
    rw [hlen] at hc2 how ⊢
    obtain ⟨-, -, hn | ⟨bb, oo, rfl, hcell⟩⟩ := hrb
    · rw [hn] at hlen; simp at hlen; omega
    have htop : w2.cell? ⟨bb, oo + (V - 1), none⟩ = some (.int .u8 ((((tb xs (V - 1)).toNat : Nat)) : Int)) := by
      rw [hcell (V - 1) (by omega)]
      simp [List.getD, bitsTo, show V - 1 < V by omega]
    generalize hbs : bitsTo xs V = bs at *
    have HBS : Hid (bitsTo xs V = bs) := hbs
    have hbase : w'.heap.size + 1 ≤ w2.heap.size := by
      have := how.own bb rfl
      have hbb : bb < w2.heap.size := block_lt_of_cell htop
      omega
    have HB1s := HB1.size
    clear hbs hcell hb2 hr hr' hr1 hcc hff hz HB1
    cases sign with
    | false =>
      have HT : Hid (topOf V xs false = 0) := rfl
      go_wp2_with fail
      go_loopw [8, 10] (fun v i wr => ∃ k : Nat, k ≤ m ∧ i = .int .i64 k ∧ OwB wr (w'.heap.size + 1) v (bs ++ List.replicate k 0) ∧ Below (w'.heap.size + 1) w2 wr) (fun _ i _ => m - (intOf i).toNat)
      case atStart => exact ⟨0, Nat.zero_le _, rfl, by rw [List.replicate_zero, List.append_nil]; unfold OwB; rw [hlen]; unfold OwB at how; rw [hlen] at how; exact how, Below.refl _ _⟩
      case round =>
        obtain ⟨k, hk, rfl, hown, hbel⟩ := hrel
        by_cases hlt : k < m
        · have hsz := hbel.size
          have HS : Hid (bs ++ List.replicate (k + 1) 0 = (bs ++ List.replicate k 0) ++ [0]) := by show _ = _; rw [List.replicate_succ', List.append_assoc]
          have hll : (bs ++ List.replicate k 0).length ≤ 4194304 := by simp [hlen]; omega
          generalize bs ++ List.replicate k 0 = rk at *
          clear how htop
          go_wp2_with (at_builtin; refine wpList_appB _ rfl _ _ rfl (w'.heap.size + 1) _ rk 0 rfl (hown.alloc _) wr.heap.size rfl (by simp) hll (by simp; omega) ?_)
          intro v' w4 hown4 hgr4
          have hb4 : Below (w'.heap.size + 1) w2 w4 := (hbel.alloc (by omega) _).grown hgr4 (by simp; omega) hown.own
          clear hgr4 hown hbel
          go_wp2
          go_roundw
          case rel => exact ⟨k + 1, by omega, by go_num, by rw [HS.out]; exact hown4, hb4⟩
          case measure => simp [intOf]; omega
        · have e : k = m := by omega
          subst e
          have hrl : (bs ++ List.replicate k 0).length = V + k := by simp [hlen]
          have HBr := HB2.trans (hbel.mono (show _ ≤ w'.heap.size + 1 by have := HB1s; omega))
          obtain ⟨a4, c4, rfl, hrb4, hc4, hm4⟩ := hown.shape (by rw [hrl]; omega) (fun x hx => by
            rcases List.mem_append.1 hx with h | h
            · have := hle x h; omega
            · have := List.eq_of_mem_replicate h; rw [HT.out] at ht; omega)
          by_cases hVk : V + k ≤ 4096
          · have HQ : Hid ((((bs ++ List.replicate k 0).length : Int), pack (bs ++ List.replicate k 0), true) = R) := by
              show _ = _
              rw [← HR.out, if_pos (by omega), Int.toNat_natCast, Int.toNat_natCast, HBS.out, HT.out, hrl, Int.natCast_add]
            have hfrom := l1From_yes a4 c4 (bs ++ List.replicate k 0) wr hrb4 (by omega) (by omega)
            clear how hown hrb4 hbel HR HBS htop
            generalize bs ++ List.replicate k 0 = rk at *
            clear hrl
            go_wp2_with fail
            refine hfrom.mono ?_
            rintro e w5 ⟨a5, c5, rfl, hfr, hb5⟩
            have HB5 := chain HBr hb5
            obtain ⟨hcc, hff⟩ := bcell HB5
            have hz5 : w.heap.size + 1 < w5.heap.size := by have := HB5.size; simp at this; omega
            have hzr : w.heap.size + 1 < wr.heap.size := by have := HBr.size; simp at this; omega
            dsimp only at hfr ⊢
            clear hfrom
            go_wp2
            exact bodyPost_ret (by simp [results, Tryz.results128, go_sem, hcc, hz5]; rfl) rfl (RetB.close (r := ((rk.length : Int), pack rk, true)) hfr (by omega) hzr (h2.trans (HB5.mono (by simp; omega))) HQ.out _ _)
          · have HQ : Hid (noR = R) := by show _ = _; rw [← HR.out, if_neg (by omega)]
            have hfrom := l1From_no a4 (bs ++ List.replicate k 0).length c4 wr (.inr (by omega)) (by omega)
            clear how hown hrb4 hbel HR HBS htop
            generalize bs ++ List.replicate k 0 = rk at *
            clear hrl
            go_wp2_with fail
            refine hfrom.mono ?_
            rintro e w5 ⟨rfl, hb5⟩
            have HB5 := chain HBr hb5
            obtain ⟨hcc, hff⟩ := bcell HB5
            have hz5 : w.heap.size + 1 < w5.heap.size := by have := HB5.size; simp at this; omega
            clear hfrom
            go_wp2
            refine bodyPost_ret (v := .tuple #[.agg #[.int .i64 0, .slice none 0 0], .bool false]) (by simp [results, Tryz.results128, go_sem, hcc]) rfl ?_
            rw [← HQ.out]
            exact RetB.no (((h2.trans (HB5.mono (by simp; omega))).setCell (by simp) _).setCell (by simp) _)
    | true =>
      have HT : Hid (topOf V xs true = (tb xs (V - 1)).toNat) := rfl
      generalize (tb xs (V - 1)).toNat = t at *
      go_wp2_with fail
      go_loopw [8, 10] (fun v i wr => ∃ k : Nat, k ≤ m ∧ i = .int .i64 k ∧ OwB wr (w'.heap.size + 1) v (bs ++ List.replicate k t) ∧ Below (w'.heap.size + 1) w2 wr) (fun _ i _ => m - (intOf i).toNat)
      case atStart => exact ⟨0, Nat.zero_le _, rfl, by rw [List.replicate_zero, List.append_nil]; unfold OwB; rw [hlen]; unfold OwB at how; rw [hlen] at how; exact how, Below.refl _ _⟩
      case round =>
        obtain ⟨k, hk, rfl, hown, hbel⟩ := hrel
        by_cases hlt : k < m
        · have hsz := hbel.size
          have HS : Hid (bs ++ List.replicate (k + 1) t = (bs ++ List.replicate k t) ++ [t]) := by show _ = _; rw [List.replicate_succ', List.append_assoc]
          have hll : (bs ++ List.replicate k t).length ≤ 4194304 := by simp [hlen]; omega
          generalize bs ++ List.replicate k t = rk at *
          clear how htop
          go_wp2_with (at_builtin; refine wpList_appB _ rfl _ _ rfl (w'.heap.size + 1) _ rk t rfl (hown.alloc _) wr.heap.size rfl (by simp) hll (by simp; omega) ?_)
          intro v' w4 hown4 hgr4
          have hb4 : Below (w'.heap.size + 1) w2 w4 := (hbel.alloc (by omega) _).grown hgr4 (by simp; omega) hown.own
          clear hgr4 hown hbel
          go_wp2
          go_roundw
          case rel => exact ⟨k + 1, by omega, by go_num, by rw [HS.out]; exact hown4, hb4⟩
          case measure => simp [intOf]; omega
        · have e : k = m := by omega
          subst e
          have hrl : (bs ++ List.replicate k t).length = V + k := by simp [hlen]
          have HBr := HB2.trans (hbel.mono (show _ ≤ w'.heap.size + 1 by have := HB1s; omega))
          obtain ⟨a4, c4, rfl, hrb4, hc4, hm4⟩ := hown.shape (by rw [hrl]; omega) (fun x hx => by
            rcases List.mem_append.1 hx with h | h
            · have := hle x h; omega
            · have := List.eq_of_mem_replicate h; rw [HT.out] at ht; omega)
          by_cases hVk : V + k ≤ 4096
          · have HQ : Hid ((((bs ++ List.replicate k t).length : Int), pack (bs ++ List.replicate k t), true) = R) := by
              show _ = _
              rw [← HR.out, if_pos (by omega), Int.toNat_natCast, Int.toNat_natCast, HBS.out, HT.out, hrl, Int.natCast_add]
            have hfrom := l1From_yes a4 c4 (bs ++ List.replicate k t) wr hrb4 (by omega) (by omega)
            clear how hown hrb4 hbel HR HBS htop
            generalize bs ++ List.replicate k t = rk at *
            clear hrl
            go_wp2_with fail
            refine hfrom.mono ?_
            rintro e w5 ⟨a5, c5, rfl, hfr, hb5⟩
            have HB5 := chain HBr hb5
            obtain ⟨hcc, hff⟩ := bcell HB5
            have hz5 : w.heap.size + 1 < w5.heap.size := by have := HB5.size; simp at this; omega
            have hzr : w.heap.size + 1 < wr.heap.size := by have := HBr.size; simp at this; omega
            dsimp only at hfr ⊢
            clear hfrom
            go_wp2
            exact bodyPost_ret (by simp [results, Tryz.results128, go_sem, hcc, hz5]; rfl) rfl (RetB.close (r := ((rk.length : Int), pack rk, true)) hfr (by omega) hzr (h2.trans (HB5.mono (by simp; omega))) HQ.out _ _)
          · have HQ : Hid (noR = R) := by show _ = _; rw [← HR.out, if_neg (by omega)]
            have hfrom := l1From_no a4 (bs ++ List.replicate k t).length c4 wr (.inr (by omega)) (by omega)
            clear how hown hrb4 hbel HR HBS htop
            generalize bs ++ List.replicate k t = rk at *
            clear hrl
            go_wp2_with fail
            refine hfrom.mono ?_
            rintro e w5 ⟨rfl, hb5⟩
            have HB5 := chain HBr hb5
            obtain ⟨hcc, hff⟩ := bcell HB5
            have hz5 : w.heap.size + 1 < w5.heap.size := by have := HB5.size; simp at this; omega
            clear hfrom
            go_wp2
            refine bodyPost_ret (v := .tuple #[.agg #[.int .i64 0, .slice none 0 0], .bool false]) (by simp [results, Tryz.results128, go_sem, hcc]) rfl ?_
            rw [← HQ.out]
            exact RetB.no (((h2.trans (HB5.mono (by simp; omega))).setCell (by simp) _).setCell (by simp) _)
  · have hnR : wdnR W xs n sign = noR := by
      unfold wdnR
      rw [if_neg]
      rintro ⟨h1, h3, h4, _⟩
      exact hc ⟨h1, h3, h4⟩
    rw [hnR]
    have hcase : rightB W xs = false ∨ (rightB W xs = true ∧ decide (0 ≤ n ∧ n ≤ 4096) = false) := by
      cases hb : rightB W xs with
      | false => exact .inl rfl
      | true =>
        right
        refine ⟨rfl, ?_⟩
        by_cases h : 0 ≤ n ∧ n ≤ 4096
        · exact absurd ⟨hb, h.1, h.2⟩ hc
        · simp only [h, decide_false]
    clear hc hnR
    rcases hcase with h | ⟨h, h1⟩
    · go_enter Tryz.func128, Tryz.ntmps128
      go_wp2_with fail
      refine (specOk_any _ _ _ _ _ hr').mono ?_
      rintro e w1 ⟨rfl, hb1⟩
      obtain ⟨hcc, hff⟩ := bcell hb1
      have hz : w.heap.size + 1 < w1.heap.size := by have := hb1.size; simp at this; omega
      go_wp2_with (go_at_call 70; refine (l1In_any _ _ _ _).mono ?_; rintro e w' ⟨rfl, rfl⟩)
      exact bodyPost_ret (v := .tuple #[.agg #[.int .i64 0, .slice none 0 0], .bool false]) (by simp [results, Tryz.results128, go_sem, hcc]) rfl (RetB.no (((h2.trans (hb1.mono (by simp; omega))).setCell (by simp) _).setCell (by simp) _))
    · go_enter Tryz.func128, Tryz.ntmps128
      go_wp2_with fail
      refine (specOk_any _ _ _ _ _ hr').mono ?_
      rintro e w1 ⟨rfl, hb1⟩
      obtain ⟨hcc, hff⟩ := bcell hb1
      have hz : w.heap.size + 1 < w1.heap.size := by have := hb1.size; simp at this; omega
      go_wp2_with (go_at_call 70; refine (l1In_any _ _ _ _).mono ?_; rintro e w' ⟨rfl, rfl⟩)
      exact bodyPost_ret (v := .tuple #[.agg #[.int .i64 0, .slice none 0 0], .bool false]) (by simp [results, Tryz.results128, go_sem, hcc]) rfl (RetB.no (((h2.trans (hb1.mono (by simp; omega))).setCell (by simp) _).setCell (by simp) _))

end Go.Proofs.YtllojnloldhghaaGreatDoor

/- What the given JoinBits answers. -/
namespace Go.Proofs.YtllojnloldhghaaGreatDoor
set_option linter.unusedVariables false
set_option linter.unusedSimpArgs false
open Go.RowKit

theorem l1From_any (a : Option Addr) (c : Nat) (bs : List Nat) (w : World) (hr : RdB w a bs) :
    Calls Tryz.prog 160 #[.slice a bs.length c] w (RetB w (fromR bs)) := by
  by_cases h : 1 ≤ bs.length ∧ bs.length ≤ 4096
  · rw [fromR, if_pos h]; exact l1From_yes a c bs w hr h.1 h.2
  · rw [fromR, if_neg h]
    refine (l1From_no a bs.length c w (by omega) hr.1).mono ?_
    rintro e w' ⟨rfl, hb⟩
    exact RetB.no hb

/-- The bits of two rows, the lower one's first. -/
def joinL (W : Int) (xs : List Nat) (V : Int) (ys : List Nat) : List Nat := bitsTo ys V.toNat ++ bitsTo xs W.toNat

def joinR (W : Int) (xs : List Nat) (V : Int) (ys : List Nat) : Int × List Nat × Bool :=
  if rightB W xs = true ∧ rightB V ys = true then fromR (joinL W xs V ys) else noR

/-- 'append(out, list...)' at a step of a region that draws its order. -/
theorem step_appBs (w : World) {ops : Array Oper} {o : Oper} {a : Act} {K : Act → World → Prop} {Q : Exit → Act → World → Prop} {E : Prop} (hgd : o.guard = none) (s x : Operand)
    (ho : o.op = .call { callee := .builtin .append, args := #[s, x], argTypes := #[114, 114] })
    (base : Nat) (v : Value) (bs ys : List Nat) (hs : a.eval s = v) (hown : OwB w base v bs) (b ob c : Nat) (hx : a.eval x = .slice (some ⟨b, ob, none⟩) ys.length c)
    (hc : ∀ i, i < ys.length → w.cell? ⟨b, ob + i, none⟩ = some (.int .u8 ((ys.getD i 0 : Nat) : Int))) (hl : bs.length + ys.length ≤ 4194304) (hbase : base ≤ w.heap.size)
    (h : ∀ v' w', OwB w' base v' (bs ++ ys) → w.grownBy w' v.ownBlock → K (a.put o.dst v') w') :
    if Region.wanted o (yielded ops a.tmps) = true then Oper.wp Tryz.prog o a w K Q else E := by
  have hw : Region.wanted o (yielded ops a.tmps) = true := by simp [Region.wanted, hgd]
  rw [if_pos hw]
  obtain ⟨i0, hi, hz0, hz1, hz2⟩ := info_parts Tryz.infoU8
  refine wp_append_own w s x 114 ho base 5 i0 (.int .u8 0) 1 1 Tryz.underlying114 hi hz0 hz1 hz2 rfl (by decide) v bs.length (u8s bs) hs hown ⟨b, ob, none⟩ ys.length c (u8s ys) hx (by simp [u8s]) ?_ ?_ ?_ ?_ hbase ?_
  · intro j u hj
    have hj' : j < ys.length := by
      have := (List.getElem?_eq_some_iff.1 hj).1
      simpa [u8s] using this
    rw [Addr.add_lit, hc j hj']
    simp [u8s, hj'] at hj
    rw [← hj]
    simp [List.getD, hj']
  · intro u hu
    obtain ⟨_, _, rfl⟩ := List.mem_map.1 hu
    rfl
  · unfold maxLen; omega
  · omega
  · intro v' w' h1 h2 _
    refine h v' w' ?_ h2
    unfold OwB
    simpa [u8s] using h1

theorem undrewG {w w' : World} (h : Below w.drew.heap.size w.drew w') : Below w.heap.size w w' := ⟨h.os, h.tape, h.output, h.size, h.block⟩
theorem OwB.undrew {w w' : World} {v : Value} {bs : List Nat} (h : OwB w' (w.drew.heap.size + 1) v bs) : OwB w' (w.heap.size + 1) v bs := h

set_option maxHeartbeats 2000000 in
set_option maxRecDepth 100000 in
theorem specJoin_any (W : Int) (a : Option Addr) (c : Nat) (xs : List Nat) (V : Int) (b : Option Addr) (d : Nat) (ys : List Nat) (w : World) (hr : Rd w a xs) (hs : Rd w b ys) :
    Calls Tryz.prog 126 #[.agg #[.int .i64 W, .slice a xs.length c], .agg #[.int .i64 V, .slice b ys.length d]] w (RetB w (joinR W xs V ys)) := by
  have h3 : Below w.heap.size w (((w.alloc (Obj.cells #[Value.int IntKind.i64 W, Value.slice a xs.length c] 82)).alloc (Obj.cells #[Value.int IntKind.i64 V, Value.slice b ys.length d] 82)).alloc (Obj.cells #[Value.int IntKind.i64 0, Value.slice none 0 0] 82)) := Ba (Ba (Ba (Below.refl _ _) _) _) _
  have hr' := hr.later h3
  have hs' := hs.later h3
  have bR0 := Blk.new2 w (Obj.cells #[Value.int IntKind.i64 W, Value.slice a xs.length c] 82) (Obj.cells #[Value.int IntKind.i64 V, Value.slice b ys.length d] 82) (Value.int IntKind.i64 0) (Value.slice none 0 0) 82
  have bB0 := (Blk.new1 w (Obj.cells #[Value.int IntKind.i64 W, Value.slice a xs.length c] 82) (Value.int IntKind.i64 V) (Value.slice b ys.length d) 82).alloc (Obj.cells #[Value.int IntKind.i64 0, Value.slice none 0 0] 82)
  have bA0 := ((Blk.new w (Value.int IntKind.i64 W) (Value.slice a xs.length c) 82).alloc (Obj.cells #[Value.int IntKind.i64 V, Value.slice b ys.length d] 82)).alloc (Obj.cells #[Value.int IntKind.i64 0, Value.slice none 0 0] 82)
  have hOk : ∀ (W : Int) (a : Option Addr) (c : Nat) (xs : List Nat) (u : World) (r : Bool), rightB W xs = r → Rd u a xs → Calls Tryz.prog 68 #[.agg #[.int .i64 W, .slice a xs.length c]] u fun e w' => e = .returned (.bool r) ∧ Below u.heap.size u w' := fun W a c xs u r h hu => by
    have := specOk_any W a c xs u hu
    rwa [h] at this
  have HOK : Hid _ := hOk
  clear hOk
  cases hoa : rightB W xs with
  | false =>
    have hc : joinR W xs V ys = noR := by unfold joinR; simp [hoa]
    rw [hc]
    go_enter Tryz.func126, Tryz.ntmps126
    go_wp2_with fail
    refine (HOK.out _ _ _ _ _ _ hoa hr').mono ?_
    rintro e w3 ⟨rfl, hb3⟩
    have B3 := chain h3 hb3
    have bR3 := bR0.next hb3
    obtain ⟨r0, r1⟩ := bR3.cells
    have f0 := bR3.free 0
    have f1 := bR3.free 1
    go_wp2
    exact bodyPost_ret (v := .tuple #[.agg #[.int .i64 0, .slice none 0 0], .bool false]) (by simp [results, Tryz.results126, go_sem, r0, r1]) rfl (RetB.no ((B3.setCell (by simp; omega) _).setCell (by simp; omega) _))
  | true =>
    obtain ⟨c0, c1⟩ := bA0.cells
    obtain ⟨d0, d1⟩ := bB0.cells
    cases hob : rightB V ys with
    | false =>
      have hc : joinR W xs V ys = noR := by unfold joinR; simp [hob]
      rw [hc]
      go_enter Tryz.func126, Tryz.ntmps126
      go_wp2_with fail
      refine (HOK.out _ _ _ _ _ _ hoa hr').mono ?_
      rintro e w3 ⟨rfl, hb3⟩
      have B3 := chain h3 hb3
      have bB3 := bB0.next hb3
      obtain ⟨l0, l1⟩ := bB3.cells
      go_wp2_with fail
      refine (HOK.out _ _ _ _ _ _ hob (hs'.later hb3)).mono ?_
      rintro e w4 ⟨rfl, hb4⟩
      have B4 := chain B3 hb4
      have bR4 := (bR0.next hb3).next hb4
      obtain ⟨r0, r1⟩ := bR4.cells
      have f0 := bR4.free 0
      have f1 := bR4.free 1
      go_wp2
      exact bodyPost_ret (v := .tuple #[.agg #[.int .i64 0, .slice none 0 0], .bool false]) (by simp [results, Tryz.results126, go_sem, r0, r1]) rfl (RetB.no ((B4.setCell (by simp; omega) _).setCell (by simp; omega) _))
    | true =>
      have hc : joinR W xs V ys = fromR (joinL W xs V ys) := by unfold joinR; simp [hoa, hob]
      rw [hc]
      clear hc
      obtain ⟨hW1, hW2, hWl⟩ := right_W hoa
      obtain ⟨hV1, hV2, hVl⟩ := right_W hob
      obtain ⟨P, rfl⟩ := Int.eq_ofNat_of_zero_le (show 0 ≤ W by omega)
      obtain ⟨q, rfl⟩ := Int.eq_ofNat_of_zero_le (show 0 ≤ V by omega)
      have hPl : P ≤ 64 * xs.length := by omega
      have hql : q ≤ 64 * ys.length := by omega
      clear hWl hVl
      have HJ : Hid (joinL (P : Int) xs (q : Int) ys = bitsTo ys q ++ bitsTo xs P) := rfl
      have hlx := bitsTo_len xs P
      have hly := bitsTo_len ys q
      have hbx := bitsTo_le xs P
      have hby := bitsTo_le ys q
      generalize joinL (P : Int) xs (q : Int) ys = J at *
      have hLX : ∀ u : World, Rd u a xs → Calls Tryz.prog 161 #[.agg #[.int .i64 P, .slice a xs.length c]] u fun e w' => ∃ v, e = .returned v ∧ OwB w' (u.heap.size + 1) v (bitsTo xs P) ∧ Below u.heap.size u w' := fun u hu => l1List_any P a c xs u hu hPl (by omega)
      have hLY : ∀ u : World, Rd u b ys → Calls Tryz.prog 161 #[.agg #[.int .i64 q, .slice b ys.length d]] u fun e w' => ∃ v, e = .returned v ∧ OwB w' (u.heap.size + 1) v (bitsTo ys q) ∧ Below u.heap.size u w' := fun u hu => l1List_any q b d ys u hu hql (by omega)
      have HLX : Hid _ := hLX
      have HLY : Hid _ := hLY
      clear hLX hLY
      go_enter Tryz.func126, Tryz.ntmps126
      go_wp2_with fail
      refine (HOK.out _ _ _ _ _ _ hoa hr').mono ?_
      rintro e w3 ⟨rfl, hb3⟩
      have B3 := chain h3 hb3
      have bB3 := bB0.next hb3
      obtain ⟨l0, l1⟩ := bB3.cells
      go_wp2_with fail
      refine (HOK.out _ _ _ _ _ _ hob (hs'.later hb3)).mono ?_
      rintro e w4 ⟨rfl, hb4⟩
      have B4 := chain B3 hb4
      have bA4 := (bA0.next hb3).next hb4
      have bB4 := (bB0.next hb3).next hb4
      have bR4 := (bR0.next hb3).next hb4
      clear hb3 hb4 B3 bB3 l0 l1 c0 c1 d0 d1 bA0 bB0 bR0 h3 hr' hs' HOK
      obtain ⟨k0, k1⟩ := bA4.cells
      obtain ⟨l0, l1⟩ := bB4.cells
      have r4 := hr.later B4
      have s4 := hs.later B4
      generalize bitsTo xs P = bx at *
      generalize bitsTo ys q = by_ at *
      have hxp : 0 < bx.length := by omega
      have hll : by_.length + bx.length ≤ 4194304 := by omega
      have hbb : ∀ x ∈ by_ ++ bx, x < 256 := fun x hx => by rcases List.mem_append.1 hx with h | h; · have := hby x h; omega
                                                            · have := hbx x h; omega
      have hJl : J.length ≤ 4194304 := by rw [HJ.out, List.length_append]; exact hll
      have hJb : ∀ x ∈ J, x < 256 := by rw [HJ.out]; exact hbb
      clear hlx hly hbb
      go_wp2_with fail
      go_region_held_law (fun u => u.cell? ⟨w.heap.size, 0, none⟩ = some (Value.int IntKind.i64 P) ∧ u.cell? ⟨w.heap.size, 1, none⟩ = some (Value.slice a xs.length c) ∧ u.cell? ⟨w.heap.size + 1, 0, none⟩ = some (Value.int IntKind.i64 q) ∧ u.cell? ⟨w.heap.size + 1, 1, none⟩ = some (Value.slice b ys.length d)) (first | (simp [*]; done) | (refine ⟨?_, ?_, ?_, ?_⟩ <;> rw [World.cell?_setCell_far _ _ _ _ (by simp <;> omega), World.cell?_setCell_far _ _ _ _ (by simp <;> omega)] <;> assumption))
        (first
          | (go_at_call_of 161 ys; refine (HLY.out _ ?_).mono ?_; exact s4; rintro e w5 ⟨v5, rfl, how5, hb5⟩; replace hb5 := undrewG hb5; replace how5 := OwB.undrew how5; have bA5 := bA4.next hb5; have bB5 := bB4.next hb5; obtain ⟨m0, m1⟩ := bA5.cells; obtain ⟨n0, n1⟩ := bB5.cells)
          | (go_at_call_of 161 xs; refine (HLX.out _ (r4.later hb5)).mono ?_; rintro e w6 ⟨v6, rfl, how6, hb6⟩; have bA6 := bA5.next hb6; have bB6 := bB5.next hb6; obtain ⟨p0, p1⟩ := bA6.cells; obtain ⟨q0, q1⟩ := bB6.cells; obtain ⟨a6, c6, rfl, hrb6, -, -⟩ := how6.shape (by have := hxp; omega) (fun x hx => by have := hbx x hx; omega); obtain ⟨bb, oo, rfl, hcell⟩ := hrb6.2.2.resolve_left (fun h => by rw [h] at hxp; simp at hxp))
          | (go_at_call 160; refine (l1From_any _ _ _ _ hrb7).mono ?_; rintro e w8 ⟨a8, c8, rfl, hfr8, hb8⟩; have hb9 := chain hb7 hb8; have bR8 := bR4.next hb9; obtain ⟨r0, r1⟩ := bR8.cells; have f0 := bR8.free 0; have f1 := bR8.free 1; have bA8 := bA4.next hb9; have bB8 := bB4.next hb9; obtain ⟨u0, u1⟩ := bA8.cells; obtain ⟨v0, v1⟩ := bB8.cells)
          | (refine step_appBs _ rfl _ _ rfl (w4.heap.size + 1) _ by_ bx rfl (how5.kept hb6) bb oo c6 rfl hcell hll (by have h1 := how6.own bb rfl; have h2 := block_lt_of_cell (hcell 0 hxp); have h3 := hb5.size; simp at h2; omega) ?_; intro v7 w7 how7 hgr7; rw [← HJ.out] at how7; have hb7 : Below w4.heap.size w4 w7 := (chain hb5 hb6).grown hgr7 (chain hb5 hb6).size (fun k hk => by have := how5.own k hk; omega); have bA7 := bA4.next hb7; have bB7 := bB4.next hb7; obtain ⟨s0, s1⟩ := bA7.cells; obtain ⟨t0, t1⟩ := bB7.cells; obtain ⟨a7, c7, rfl, hrb7, -, -⟩ := how7.shape hJl hJb))
      have B8 := chain B4 hb9
      have s4 := bR4.lt
      have s7 := hb7.size
      go_wp2
      exact bodyPost_ret (by simp [results, Tryz.results126, go_sem, r0, r1]; rfl) rfl (RetB.close (r := fromR J) hfr8 (by omega) (by omega) B8 rfl _ _)

end Go.Proofs.YtllojnloldhghaaGreatDoor

/- What the program's JoinBits answers. -/
namespace Go.Proofs.YtllojnloldhghaaGreatDoor
set_option linter.unusedVariables false
set_option linter.unusedSimpArgs false
open Go.RowKit

theorem join_pack {P q : Nat} {xs ys : List Nat} (hx : rightB P xs = true) (hy : rightB q ys = true) (zs : List Nat) (hl : zs.length = (q + P + 63) / 64) (hz : ∀ x ∈ zs, x < 18446744073709551616)
    (h : ∀ j, j < 64 * zs.length → tb zs j = (tb ys j || (decide (q ≤ j) && tb xs (j - q)))) : zs = pack (bitsTo ys q ++ bitsTo xs P) := by
  refine eq_pack (fun x hxm => ?_) (by simp [hl, bitsTo_len]) hz fun i hi => ?_
  · rcases List.mem_append.1 hxm with h | h
    · exact bitsTo_le ys q x h
    · exact bitsTo_le xs P x h
  · rw [h i hi]
    by_cases h1 : i < q
    · have e : (bitsTo ys q ++ bitsTo xs P).getD i 0 = (tb ys i).toNat := by
        simp only [List.getD]
        rw [List.getElem?_append_left (by rw [bitsTo_len]; exact h1)]
        simp [bitsTo, h1]
      rw [e]
      simp [show ¬ q ≤ i by omega]
    · rw [tb_out hy i (by omega)]
      by_cases h2 : i - q < P
      · have e : (bitsTo ys q ++ bitsTo xs P).getD i 0 = (tb xs (i - q)).toNat := by
          simp only [List.getD]
          rw [List.getElem?_append_right (by rw [bitsTo_len]; omega), bitsTo_len]
          simp [bitsTo, h2]
        rw [e]
        simp [show q ≤ i by omega]
      · have e : (bitsTo ys q ++ bitsTo xs P).getD i 0 = 0 := by
          simp only [List.getD]
          rw [List.getElem?_eq_none (by simp [bitsTo_len]; omega)]
          rfl
        rw [e, tb_out hx (i - q) (by omega)]
        simp

set_option maxHeartbeats 2000000 in
set_option maxRecDepth 100000 in
theorem implJoin_any (W : Int) (a : Option Addr) (c : Nat) (xs : List Nat) (V : Int) (b : Option Addr) (d : Nat) (ys : List Nat) (w : World) (hr : Rd w a xs) (hs : Rd w b ys) :
    Calls Tryz.prog 166 #[.agg #[.int .i64 W, .slice a xs.length c], .agg #[.int .i64 V, .slice b ys.length d]] w (RetB w (joinR W xs V ys)) := by
  have h3 : Below w.heap.size w (((w.alloc (Obj.cells #[Value.int IntKind.i64 W, Value.slice a xs.length c] 82)).alloc (Obj.cells #[Value.int IntKind.i64 V, Value.slice b ys.length d] 82)).alloc (Obj.cells #[Value.int IntKind.i64 0, Value.slice none 0 0] 82)) := Ba (Ba (Ba (Below.refl _ _) _) _) _
  have hr' := hr.later h3
  have hs' := hs.later h3
  have bR0 := Blk.new2 w (Obj.cells #[Value.int IntKind.i64 W, Value.slice a xs.length c] 82) (Obj.cells #[Value.int IntKind.i64 V, Value.slice b ys.length d] 82) (Value.int IntKind.i64 0) (Value.slice none 0 0) 82
  have bB0 := (Blk.new1 w (Obj.cells #[Value.int IntKind.i64 W, Value.slice a xs.length c] 82) (Value.int IntKind.i64 V) (Value.slice b ys.length d) 82).alloc (Obj.cells #[Value.int IntKind.i64 0, Value.slice none 0 0] 82)
  have bA0 := ((Blk.new w (Value.int IntKind.i64 W) (Value.slice a xs.length c) 82).alloc (Obj.cells #[Value.int IntKind.i64 V, Value.slice b ys.length d] 82)).alloc (Obj.cells #[Value.int IntKind.i64 0, Value.slice none 0 0] 82)
  have hOk : ∀ (W : Int) (a : Option Addr) (c : Nat) (xs : List Nat) (u : World) (r : Bool), rightB W xs = r → Rd u a xs → Calls Tryz.prog 76 #[.agg #[.int .i64 W, .slice a xs.length c]] u fun e w' => e = .returned (.bool r) ∧ Below u.heap.size u w' := fun W a c xs u r h hu => by
    have := implOk_any W a c xs u hu
    rwa [h] at this
  have HOK : Hid _ := hOk
  clear hOk
  cases hoa : rightB W xs with
  | false =>
    have hc : joinR W xs V ys = noR := by unfold joinR; simp [hoa]
    rw [hc]
    go_enter Tryz.func166, Tryz.ntmps166
    go_wp2_with fail
    refine (HOK.out _ _ _ _ _ _ hoa hr').mono ?_
    rintro e w3 ⟨rfl, hb3⟩
    have B3 := chain h3 hb3
    have bR3 := bR0.next hb3
    obtain ⟨r0, r1⟩ := bR3.cells
    have f0 := bR3.free 0
    have f1 := bR3.free 1
    go_wp2
    exact bodyPost_ret (v := .tuple #[.agg #[.int .i64 0, .slice none 0 0], .bool false]) (by simp [results, Tryz.results166, go_sem, r0, r1]) rfl (RetB.no ((B3.setCell (by simp; omega) _).setCell (by simp; omega) _))
  | true =>
    obtain ⟨c0, c1⟩ := bA0.cells
    obtain ⟨d0, d1⟩ := bB0.cells
    cases hob : rightB V ys with
    | false =>
      have hc : joinR W xs V ys = noR := by unfold joinR; simp [hob]
      rw [hc]
      go_enter Tryz.func166, Tryz.ntmps166
      go_wp2_with fail
      refine (HOK.out _ _ _ _ _ _ hoa hr').mono ?_
      rintro e w3 ⟨rfl, hb3⟩
      have B3 := chain h3 hb3
      have bB3 := bB0.next hb3
      obtain ⟨l0, l1⟩ := bB3.cells
      go_wp2_with fail
      refine (HOK.out _ _ _ _ _ _ hob (hs'.later hb3)).mono ?_
      rintro e w4 ⟨rfl, hb4⟩
      have B4 := chain B3 hb4
      have bR4 := (bR0.next hb3).next hb4
      obtain ⟨r0, r1⟩ := bR4.cells
      have f0 := bR4.free 0
      have f1 := bR4.free 1
      go_wp2
      exact bodyPost_ret (v := .tuple #[.agg #[.int .i64 0, .slice none 0 0], .bool false]) (by simp [results, Tryz.results166, go_sem, r0, r1]) rfl (RetB.no ((B4.setCell (by simp; omega) _).setCell (by simp; omega) _))
    | true =>
      have hc : joinR W xs V ys = fromR (joinL W xs V ys) := by unfold joinR; simp [hoa, hob]
      rw [hc]
      clear hc
      obtain ⟨hW1, hW2, hWl⟩ := right_W hoa
      obtain ⟨hV1, hV2, hVl⟩ := right_W hob
      obtain ⟨P, rfl⟩ := Int.eq_ofNat_of_zero_le (show 0 ≤ W by omega)
      obtain ⟨q, rfl⟩ := Int.eq_ofNat_of_zero_le (show 0 ≤ V by omega)
      have hxx := hr.2.1
      have hyy := hs.2.1
      have hx64 : xs.length ≤ 64 := by omega
      have hy64 : ys.length ≤ 64 := by omega
      have hab := hr.lt (by omega)
      have hbb := hs.lt (by omega)
      clear hWl hVl
      generalize hR : fromR (joinL (P : Int) xs (q : Int) ys) = R
      have HR : Hid (fromR (bitsTo ys q ++ bitsTo xs P) = R) := hR
      clear hR
      go_enter Tryz.func166, Tryz.ntmps166
      go_wp2_with fail
      refine (HOK.out _ _ _ _ _ _ hoa hr').mono ?_
      rintro e w3 ⟨rfl, hb3⟩
      have B3 := chain h3 hb3
      have bB3 := bB0.next hb3
      obtain ⟨l0, l1⟩ := bB3.cells
      go_wp2_with fail
      refine (HOK.out _ _ _ _ _ _ hob (hs'.later hb3)).mono ?_
      rintro e w4 ⟨rfl, hb4⟩
      have B4 := chain B3 hb4
      have bA4 := (bA0.next hb3).next hb4
      have bB4 := (bB0.next hb3).next hb4
      have bR4 := (bR0.next hb3).next hb4
      clear hb3 hb4 B3 bB3 l0 l1 c0 c1 d0 d1 bA0 bB0 bR0 h3 hr' hs' HOK
      obtain ⟨k0, k1⟩ := bA4.cells
      obtain ⟨l0, l1⟩ := bB4.cells
      by_cases hPq : (P : Int) + q ≤ 4096
      · go_wp2_with fail
        rw [← Int.natCast_add]
        generalize hq : P + q = m at *
        refine (zeroBits_any m _ (by omega) (by omega)).mono ?_
        rintro e w5 ⟨g, rfl, hg, hown, hb5⟩
        generalize hN : (m + 63) / 64 = N at *
        have HN : Hid ((m + 63) / 64 = N) := hN
        have Hq : Hid (P + q = m) := hq
        have hm1 : 1 ≤ m := by omega
        have hm2 : m ≤ 4096 := by omega
        have hN64 : N ≤ 64 := by omega
        have hfit : m ≤ 64 * N := by omega
        have B5 := chain B4 hb5
        have bA5 := bA4.next hb5
        have bB5 := bB4.next hb5
        have bR5 := bR4.next hb5
        have hgr := bR4.lt
        have hgl := hown.lt
        clear hN hq hb5 B4 bA4 bB4 bR4 k0 k1 l0 l1
        obtain ⟨l0, l1⟩ := bB5.cells
        have hlR := bR5.lt
        have hlB := bB5.lt
        have hlA := bA5.lt
        go_wp2_with fail
        have hput := putBits_any (m : Int) (q : Int) g N d 0 b (List.replicate N 0) ys _ (hown.alloc (Obj.cells #[Value.int IntKind.i64 m, Value.slice (some ⟨g, 0, none⟩) N N] 82)) (hs.later (Ba B5 _)) (fun x hx => by have := List.eq_of_mem_replicate hx; omega) (by omega) (by simp; omega) hy64 (by rw [List.length_replicate]; exact put_fit hob hyy 0 N (by have := Hq.out; omega)) (fun x hx => by have := hbb x hx; omega)
        rw [List.length_replicate] at hput
        refine hput.mono ?_
        rintro e w6 ⟨rfl, hown6, hgr6⟩
        have bO3 := Blk.new w5 (Value.int IntKind.i64 m) (Value.slice (some ⟨g, 0, none⟩) N N) 82
        have bA3 := bA5.alloc (Obj.cells #[Value.int IntKind.i64 m, Value.slice (some ⟨g, 0, none⟩) N N] 82)
        have bB3 := bB5.alloc (Obj.cells #[Value.int IntKind.i64 m, Value.slice (some ⟨g, 0, none⟩) N N] 82)
        have bR3 := bR5.alloc (Obj.cells #[Value.int IntKind.i64 m, Value.slice (some ⟨g, 0, none⟩) N N] 82)
        have B3 := Ba B5 (Obj.cells #[Value.int IntKind.i64 m, Value.slice (some ⟨g, 0, none⟩) N N] 82)
        have ho3 := hown.alloc (Obj.cells #[Value.int IntKind.i64 m, Value.slice (some ⟨g, 0, none⟩) N N] 82)
        have f3 := ho3.fr (Nat.le_refl g)
        have m6 : Marked _ w6 (some ⟨g, 0, none⟩) := hgr6
        have bO6 := bO3.mark f3 m6 (by decide)
        have bA6 := bA3.mark f3 m6 (by decide)
        have bB6 := bB3.mark f3 m6 (by decide)
        have bR6 := bR3.mark f3 m6 (by decide)
        have B6 := m6.below f3 B3 (by omega)
        have hlen6 : (putTo (List.replicate N 0) ys (0 / 64) (0 % 64) ys.length).length = N := by rw [putTo_len, List.length_replicate]
        have hlt6 := putTo_lt (List.replicate N 0) ys (0 / 64) (0 % 64) ys.length (fun x hx => by have := List.eq_of_mem_replicate hx; omega) hyy
        have htb6 : ∀ j, tb (putTo (List.replicate N 0) ys (0 / 64) (0 % 64) ys.length) j = tb ys j := fun j => by
          rw [tb_put_right hob hyy _ 0 (by have := Hq.out; simp; omega), tb_zero]; simp
        generalize putTo (List.replicate N 0) ys (0 / 64) (0 % 64) ys.length = y6 at *
        have HL6 : Hid (y6.length = N) := hlen6
        clear hput bO3 bA3 bB3 bR3 B3 ho3 f3 m6 hgr6 B5 bA5 bB5 bR5 hown l0 l1 hlen6
        obtain ⟨k0, k1⟩ := bA6.cells
        obtain ⟨l0, l1⟩ := bB6.cells
        obtain ⟨o0, o1⟩ := bO6.cells
        go_wp2_with fail
        have hput := putBits_any (m : Int) (P : Int) g N c q a y6 xs w6 hown6 (hr.later B6) hlt6 (by omega) (by rw [HL6.out]; exact hN64) hx64 (by rw [HL6.out]; exact put_fit hoa hxx q N (by have := Hq.out; omega)) (fun x hx => by have := hab x hx; omega)
        rw [HL6.out] at hput
        refine hput.mono ?_
        rintro e w7 ⟨rfl, hown7, hgr7⟩
        have f6 := hown6.fr (Nat.le_refl g)
        have m7 : Marked w6 w7 (some ⟨g, 0, none⟩) := hgr7
        have bO7 := bO6.mark f6 m7 (by decide)
        have bR7 := bR6.mark f6 m7 (by decide)
        have B7 := m7.below f6 B6 (by omega)
        have HL7 : Hid ((putTo y6 xs (q / 64) (q % 64) xs.length).length = N) := by show _ = _; rw [putTo_len, HL6.out]
        have HQ : Hid (((m : Int), putTo y6 xs (q / 64) (q % 64) xs.length, true) = R) := by
          show _ = _
          have hln : (bitsTo ys q ++ bitsTo xs P).length = m := by rw [List.length_append, bitsTo_len, bitsTo_len, ← Hq.out]; omega
          rw [← HR.out, fromR, if_pos (by rw [hln]; exact ⟨hm1, hm2⟩), hln]
          congr 2
          refine join_pack hoa hob _ (by rw [HL7.out, ← HN.out, ← Hq.out, Nat.add_comm P q]) (putTo_lt _ _ _ _ _ hlt6 hxx) fun j hj => ?_
          rw [tb_put_right hoa hxx y6 q (by rw [HL6.out]; have := Hq.out; omega), htb6 j]
        generalize putTo y6 xs (q / 64) (q % 64) xs.length = y7 at *
        clear hput HR hlt6 htb6 bA6 bB6 bO6 bR6 f6 m7 hgr7 hown6 k0 k1 l0 l1 o0 o1 B6
        obtain ⟨o0, o1⟩ := bO7.cells
        obtain ⟨r0, r1⟩ := bR7.cells
        have fr0 := bR7.free 0
        have fr1 := bR7.free 1
        clear bO7 bR7
        go_wp2
        have hm := RetB.made (w := w) (r := ((m : Int), y7, true)) (c := N) hown7 (by omega) (β := w.heap.size + 1 + 1) (by omega) (by omega) B7 HQ.out (Value.int IntKind.i64 m) (Value.slice (some ⟨g, 0, none⟩) N N)
        dsimp only at hm
        rw [HL7.out] at hm
        exact bodyPost_ret (by simp [results, Tryz.results166, go_sem, r0, r1]) rfl hm
      · have HQ : Hid (noR = R) := by
          show _ = _
          rw [← HR.out, fromR, if_neg (by simp only [List.length_append, bitsTo_len]; omega)]
          rfl
        obtain ⟨r0, r1⟩ := bR4.cells
        have f0 := bR4.free 0
        have f1 := bR4.free 1
        clear HR
        go_wp2
        refine bodyPost_ret (v := .tuple #[.agg #[.int .i64 0, .slice none 0 0], .bool false]) (by simp [results, Tryz.results166, go_sem, r0, r1]) rfl ?_
        rw [← HQ.out]
        exact RetB.no ((B4.setCell (by simp; omega) _).setCell (by simp; omega) _)

end Go.Proofs.YtllojnloldhghaaGreatDoor

/- What the program's TurnBits answers. -/
namespace Go.Proofs.YtllojnloldhghaaGreatDoor
set_option linter.unusedVariables false
set_option linter.unusedSimpArgs false
open Go.RowKit

theorem bitsTo_pack (bs : List Nat) (hb : ∀ x ∈ bs, x ≤ 1) : bitsTo (pack bs) bs.length = bs := by
  refine List.ext_getElem? fun i => ?_
  by_cases h : i < bs.length
  · have hx := hb _ (List.getElem_mem h)
    have e : bs.getD i 0 = bs[i] := by simp [List.getD, h]
    simp only [bitsTo, List.getElem?_map, List.getElem?_range h, Option.map_some, tb_pack bs hb, e, List.getElem?_eq_getElem h]
    congr 1
    generalize bs[i] = x at *
    have : x = 0 ∨ x = 1 := by omega
    rcases this with rfl | rfl <;> rfl
  · rw [List.getElem?_eq_none (by rw [bitsTo_len]; omega), List.getElem?_eq_none (by omega)]

/-- A list of bits turned by r places to the higher ones, r less than its length. -/
def turnL (L : List Nat) (r : Nat) : List Nat := L.drop (L.length - r) ++ L.take (L.length - r)

theorem turnL_len (L : List Nat) (r : Nat) : (turnL L r).length = L.length := by simp [turnL]

theorem turnL_mem (L : List Nat) (r x : Nat) (h : x ∈ turnL L r) : x ∈ L := by
  rcases List.mem_append.1 h with h | h
  · exact List.mem_of_mem_drop h
  · exact List.mem_of_mem_take h

def turnR (W : Int) (xs : List Nat) (n : Int) : Int × List Nat × Bool :=
  if rightB W xs = true ∧ 0 ≤ n ∧ n ≤ 4096 then (W, pack (turnL (bitsTo xs W.toNat) (n.toNat % W.toNat)), true) else noR

theorem part_low {V : Nat} {xs : List Nat} (hok : rightB V xs = true) (r : Nat) (h1 : r < V) : partR V xs ((V : Int) - 1 - r) 0 = (((V - r : Nat) : Int), pack ((bitsTo xs V).take (V - r)), true) := by
  rw [partR, if_pos ⟨hok, by omega, by omega, by omega⟩]
  rw [show (V : Int) - 1 - r - 0 + 1 = ((V - r : Nat) : Int) by omega, Int.toNat_natCast, Int.toNat_natCast]
  rfl

theorem part_high {V : Nat} {xs : List Nat} (hok : rightB V xs = true) (r : Nat) (h0 : 0 < r) (h1 : r < V) : partR V xs ((V : Int) - 1) ((V : Int) - r) = ((r : Int), pack ((bitsTo xs V).drop (V - r)), true) := by
  rw [partR, if_pos ⟨hok, by omega, by omega, by omega⟩]
  rw [show (V : Int) - 1 - ((V : Int) - r) + 1 = (r : Int) by omega, Int.toNat_natCast, Int.toNat_natCast, show ((V : Int) - r).toNat = V - r by omega]
  rw [List.take_of_length_le (by simp [bitsTo_len]; omega)]

theorem join_turn {V : Nat} {xs : List Nat} (hok : rightB V xs = true) (r : Nat) (h0 : 0 < r) (h1 : r < V) :
    joinR ((V - r : Nat) : Int) (pack ((bitsTo xs V).take (V - r))) (r : Int) (pack ((bitsTo xs V).drop (V - r))) = ((V : Int), pack (turnL (bitsTo xs V) r), true) := by
  have hV := right_W hok
  have hle := bitsTo_le xs V
  have hl := bitsTo_len xs V
  have ha : ∀ x ∈ (bitsTo xs V).take (V - r), x ≤ 1 := fun x hx => hle x (List.mem_of_mem_take hx)
  have hb : ∀ x ∈ (bitsTo xs V).drop (V - r), x ≤ 1 := fun x hx => hle x (List.mem_of_mem_drop hx)
  have hal : ((bitsTo xs V).take (V - r)).length = V - r := by rw [List.length_take, hl]; omega
  have hbl : ((bitsTo xs V).drop (V - r)).length = r := by rw [List.length_drop, hl]; omega
  have ra := pack_right _ ha (by omega) (by omega)
  have rb := pack_right _ hb (by omega) (by omega)
  rw [hal] at ra
  rw [hbl] at rb
  have ea := bitsTo_pack _ ha
  have eb := bitsTo_pack _ hb
  rw [hal] at ea
  rw [hbl] at eb
  rw [joinR, if_pos ⟨ra, rb⟩, joinL, Int.toNat_natCast, Int.toNat_natCast, ea, eb]
  have e : (bitsTo xs V).drop (V - r) ++ (bitsTo xs V).take (V - r) = turnL (bitsTo xs V) r := by unfold turnL; rw [hl]
  rw [e, fromR, turnL_len, hl, if_pos ⟨by omega, by omega⟩]

theorem part_all {V : Nat} {xs : List Nat} (hok : rightB V xs = true) (h1 : 1 ≤ V) : partR V xs ((V : Int) - 1) 0 = ((V : Int), pack (turnL (bitsTo xs V) 0), true) := by
  rw [partR, if_pos ⟨hok, by omega, by omega, by omega⟩]
  rw [show (V : Int) - 1 - 0 + 1 = (V : Int) by omega, Int.toNat_natCast]
  have hl := bitsTo_len xs V
  unfold turnL
  rw [hl, Nat.sub_zero, show List.drop V (bitsTo xs V) = [] from List.drop_of_length_le (by omega)]
  rfl

theorem wf_small (x : Int) (h0 : 0 ≤ x) (h1 : x ≤ 4096) : (Lit.int .i64 x).wf = true := by
  have a1 : IntKind.i64.min ≤ x := by have : IntKind.i64.min = -9223372036854775808 := by decide
                                      omega
  have a2 : x ≤ IntKind.i64.max := by have : IntKind.i64.max = 9223372036854775807 := by decide
                                      omega
  simp only [Lit.wf, a1, a2, decide_true, Bool.and_self]

set_option maxHeartbeats 2000000 in
set_option maxRecDepth 100000 in
theorem implTurn_any (W : Int) (a : Option Addr) (c : Nat) (xs : List Nat) (n : Int) (w : World) (hr : Rd w a xs) :
    Calls Tryz.prog 144 #[.agg #[.int .i64 W, .slice a xs.length c], .int .i64 n] w (RetB w (turnR W xs n)) := by
  have h2 : Below w.heap.size w ((w.alloc (Obj.cells #[Value.int IntKind.i64 W, Value.slice a xs.length c] 82)).alloc (Obj.cells #[Value.int IntKind.i64 0, Value.slice none 0 0] 82)) := Ba (Ba (Below.refl _ _) _) _
  have hr' := hr.later h2
  have bR0 := Blk.new1 w (Obj.cells #[Value.int IntKind.i64 W, Value.slice a xs.length c] 82) (Value.int IntKind.i64 0) (Value.slice none 0 0) 82
  have bA0 := (Blk.new w (Value.int IntKind.i64 W) (Value.slice a xs.length c) 82).alloc (Obj.cells #[Value.int IntKind.i64 0, Value.slice none 0 0] 82)
  have hOk : ∀ (u : World), Rd u a xs → Calls Tryz.prog 76 #[.agg #[.int .i64 W, .slice a xs.length c]] u fun e w' => e = .returned (.bool (rightB W xs)) ∧ Below u.heap.size u w' := fun u hu => implOk_any W a c xs u hu
  have HOK : Hid _ := hOk
  clear hOk
  by_cases hc : rightB W xs = true ∧ 0 ≤ n ∧ n ≤ 4096
  · rw [turnR, if_pos hc]
    obtain ⟨hok, hn1, hn2⟩ := hc
    rw [hok] at HOK
    obtain ⟨hW1, hW2, hWl⟩ := right_W hok
    obtain ⟨V, rfl⟩ := Int.eq_ofNat_of_zero_le (show 0 ≤ W by omega)
    obtain ⟨m, rfl⟩ := Int.eq_ofNat_of_zero_le hn1
    rw [Int.toNat_natCast, Int.toNat_natCast]
    have hV0 : ¬ (V : Int) = 0 := by omega
    have hrV : m % V < V := Nat.mod_lt _ (by omega)
    have hmod : (m : Int) % (V : Int) = ((m % V : Nat) : Int) := rfl
    generalize m % V = r at *
    have hP : ∀ (u : World) (hi lo : Int) (R : Int × List Nat × Bool), Rd u a xs → partR V xs hi lo = R → 0 ≤ hi → hi ≤ 4096 → Calls Tryz.prog 141 #[.agg #[.int .i64 V, .slice a xs.length c], .int .i64 hi, .int .i64 lo] u (RetB u R) := fun u hi lo R hu h g1 g2 => by
      rw [← h]; exact implPart_any V a c xs hi lo u hu (wf_small _ g1 g2)
    have HP : Hid _ := hP
    have H0 : Hid _ := part_all hok (by omega)
    have H1 : Hid _ := fun h0 : 0 < r => part_high hok r h0 hrV
    have H2 : Hid _ := part_low hok r hrV
    have H3 : Hid _ := fun h0 : 0 < r => join_turn hok r h0 hrV
    have hlb := bitsTo_len xs V
    have hle := bitsTo_le xs V
    generalize bitsTo xs V = bs at *
    have HLB : Hid (bs.length = V) := hlb
    clear hWl hP hlb
    by_cases hr0 : r = 0
    · subst hr0
      simp only [Int.natCast_zero] at hmod
      clear H1 H2 H3
      go_enter Tryz.func144, Tryz.ntmps144
      go_wp2_with fail
      refine (HOK.out _ hr').mono ?_
      rintro e w1 ⟨rfl, hb1⟩
      have B1 := chain h2 hb1
      have bA1 := bA0.next hb1
      have bR1 := bR0.next hb1
      obtain ⟨c0, c1⟩ := bA1.cells
      clear hb1 bA0 bR0 hr' h2 HOK
      go_wp2_with fail
      refine (HP.out _ _ _ _ (hr.later B1) H0.out (by omega) (by omega)).mono ?_
      rintro e w5 ⟨a5, c5, rfl, hfr, hb5⟩
      have B5 := chain B1 hb5
      have bR5 := bR1.next hb5
      have hz := bR1.lt
      obtain ⟨r0, r1⟩ := bR5.cells
      have f0 := bR5.free 0
      have f1 := bR5.free 1
      dsimp only at hfr ⊢
      clear HP H0
      generalize turnL bs 0 = T at *
      go_wp2
      exact bodyPost_ret (by simp [results, Tryz.results144, go_sem, r0, r1]; rfl) rfl (RetB.close (r := ((V : Int), pack T, true)) hfr (by omega) hz B5 rfl _ _)
    · have hr1 : 0 < r := by omega
      have hmz : ¬ (r : Int) = 0 := by omega
      have HA := H1.out hr1
      have HB := H3.out hr1
      have HA' : Hid _ := HA
      have HB' : Hid _ := HB
      have hpa : (bs.take (V - r)).length = V - r := by rw [List.length_take, HLB.out]; omega
      have hpb : (bs.drop (V - r)).length = r := by rw [List.length_drop, HLB.out]; omega
      have hla : (pack (bs.take (V - r))).length ≤ 1048576 := by rw [pack_len, hpa]; omega
      have hlb : (pack (bs.drop (V - r))).length ≤ 1048576 := by rw [pack_len, hpb]; omega
      have hxa := pack_lt (bs.take (V - r))
      have hxb := pack_lt (bs.drop (V - r))
      clear H0 H1 H3 HA HB hpa hpb HLB
      generalize pack (bs.take (V - r)) = pa at *
      generalize pack (bs.drop (V - r)) = pb at *
      generalize turnL bs r = T at *
      have hVr : ((V - r : Nat) : Int) = (V : Int) - r := by omega
      have HVr : Hid _ := hVr
      clear hVr
      go_enter Tryz.func144, Tryz.ntmps144
      go_wp2_with fail
      refine (HOK.out _ hr').mono ?_
      rintro e w1 ⟨rfl, hb1⟩
      have B1 := chain h2 hb1
      have bA1 := bA0.next hb1
      have bR1 := bR0.next hb1
      obtain ⟨c0, c1⟩ := bA1.cells
      clear hb1 bA0 bR0 hr' h2 HOK
      go_wp2_with fail
      refine (HP.out _ _ _ _ (hr.later B1) H2.out (by omega) (by omega)).mono ?_
      intro e w2 hret
      obtain ⟨as_, cs, rfl, fs2, hb2⟩ := hret.fr
      have B2 := chain B1 hb2
      have bA2 := bA1.next hb2
      have bR2 := bR1.next hb2
      dsimp only at fs2 ⊢
      have lA2 := bA2.lt
      clear hret hb2 B1 bA1 bR1 c0 c1 H2
      obtain ⟨c0, c1⟩ := bA2.cells
      go_wp2_with fail
      refine (HP.out _ _ _ _ (hr.later (Ba B2 _)) HA'.out (by omega) (by omega)).mono ?_
      intro e w3 hret
      obtain ⟨ao, co, rfl, fo3, hb3⟩ := hret.fr
      have B3 := chain (Ba B2 _) hb3
      have bR3 := (bR2.alloc _).next hb3
      have bS3 := (Blk.new w2 _ _ _).next hb3
      have fs3 := (fs2.alloc _).next hb3
      dsimp only at fo3 ⊢
      have lS3 := bS3.lt
      clear hret hb3 B2 bA2 bR2 c0 c1 fs2
      obtain ⟨c0, c1⟩ := bS3.cells
      go_wp2_with fail
      have hj := implJoin_any ((V - r : Nat) : Int) as_ cs pa (r : Int) ao co pb _ ((fs3.alloc (Obj.cells #[Value.int IntKind.i64 r, Value.slice ao pb.length co] 82)).rd hla hxa) ((fo3.alloc (Obj.cells #[Value.int IntKind.i64 r, Value.slice ao pb.length co] 82)).rd hlb hxb)
      rw [HB'.out] at hj
      refine hj.mono ?_
      rintro e w5 ⟨a5, c5, rfl, hfr, hb5⟩
      have B5 := chain (Ba B3 _) hb5
      have bR5 := (bR3.alloc _).next hb5
      have hz := (bR3.alloc (Obj.cells #[Value.int IntKind.i64 r, Value.slice ao pb.length co] 82)).lt
      obtain ⟨r0, r1⟩ := bR5.cells
      have f0 := bR5.free 0
      have f1 := bR5.free 1
      dsimp only at hfr ⊢
      clear HP HA' HB' hj
      go_wp2
      exact bodyPost_ret (by simp [results, Tryz.results144, go_sem, r0, r1]; rfl) rfl (RetB.close (r := ((V : Int), pack T, true)) hfr (by omega) hz B5 rfl _ _)
  · rw [turnR, if_neg hc]
    have hcase : rightB W xs = false ∨ (rightB W xs = true ∧ (n < 0 ∨ 4096 < n)) := by
      cases hb : rightB W xs with
      | false => exact .inl rfl
      | true => right; refine ⟨rfl, ?_⟩; simp [hb] at hc; omega
    clear hc
    rcases hcase with h | ⟨h, h1⟩
    · rw [h] at HOK
      go_enter Tryz.func144, Tryz.ntmps144
      go_wp2_with fail
      refine (HOK.out _ hr').mono ?_
      rintro e w1 ⟨rfl, hb1⟩
      have B1 := chain h2 hb1
      have bR1 := bR0.next hb1
      obtain ⟨r0, r1⟩ := bR1.cells
      have f0 := bR1.free 0
      have f1 := bR1.free 1
      go_wp2
      exact bodyPost_ret (v := .tuple #[.agg #[.int .i64 0, .slice none 0 0], .bool false]) (by simp [results, Tryz.results144, go_sem, r0, r1]) rfl (RetB.no ((B1.setCell (by simp) _).setCell (by simp) _))
    · rw [h] at HOK
      rcases h1 with h1 | h1
      · go_enter Tryz.func144, Tryz.ntmps144
        go_wp2_with fail
        refine (HOK.out _ hr').mono ?_
        rintro e w1 ⟨rfl, hb1⟩
        have B1 := chain h2 hb1
        have bR1 := bR0.next hb1
        obtain ⟨r0, r1⟩ := bR1.cells
        have f0 := bR1.free 0
        have f1 := bR1.free 1
        go_wp2
        exact bodyPost_ret (v := .tuple #[.agg #[.int .i64 0, .slice none 0 0], .bool false]) (by simp [results, Tryz.results144, go_sem, r0, r1]) rfl (RetB.no ((B1.setCell (by simp) _).setCell (by simp) _))
      · have h2' : ¬ n < 0 := by omega
        go_enter Tryz.func144, Tryz.ntmps144
        go_wp2_with fail
        refine (HOK.out _ hr').mono ?_
        rintro e w1 ⟨rfl, hb1⟩
        have B1 := chain h2 hb1
        have bR1 := bR0.next hb1
        obtain ⟨r0, r1⟩ := bR1.cells
        have f0 := bR1.free 0
        have f1 := bR1.free 1
        go_wp2
        exact bodyPost_ret (v := .tuple #[.agg #[.int .i64 0, .slice none 0 0], .bool false]) (by simp [results, Tryz.results144, go_sem, r0, r1]) rfl (RetB.no ((B1.setCell (by simp) _).setCell (by simp) _))

end Go.Proofs.YtllojnloldhghaaGreatDoor

/- What a term is by values: plain facts. No program in sight. -/
namespace Go.Proofs.YtllojnloldhghaaGreatDoor
set_option linter.unusedVariables false
set_option linter.unusedSimpArgs false
open Go.RowKit

abbrev Wd := Int × List Nat

theorem op_nine {x : Int} (h1 : 1 ≤ x) (h9 : x ≤ 9) : x = 1 ∨ x = 2 ∨ x = 3 ∨ x = 4 ∨ x = 5 ∨ x = 6 ∨ x = 7 ∨ x = 8 ∨ x = 9 := by omega

def okW (x : Wd) : Prop := rightB x.1 x.2 = true ∧ ∀ y ∈ x.2, y < 18446744073709551616

def two (r : Int × List Nat × Bool) : Wd := (r.1, r.2.1)

def joinW (x y : Wd) : Wd := two (joinR x.1 x.2 y.1 y.2)

/-- Words put into one, the highest bits first. -/
def catS : List Wd → Wd
  | [] => (0, [])
  | k :: t => t.foldl joinW k

def sumV (l : List Wd) : Int := (l.map Prod.fst).sum

def kidsV (all : List Wd) (ks : List Int) : List Wd := ks.map fun k => all.getD k.toNat (0, [])

/-- What a node with one Kid is. -/
def opV (op a b : Int) (x : Wd) : Wd :=
  if op = 4 then two (partR x.1 x.2 a b)
  else if op = 5 then two (wdnR x.1 x.2 a false)
  else if op = 6 then two (wdnR x.1 x.2 a true)
  else if op = 7 then two (turnR x.1 x.2 a)
  else if op = 8 then two (turnR x.1 x.2 ((x.1 - a % x.1) % x.1))
  else two (repR x.1 x.2 a)

def nodV (vs all : List Wd) (n : Tc) : Wd :=
  if n.op = 1 then vs.getD n.vr.toNat (0, [])
  else if n.op = 2 then (n.bw, n.ws)
  else if n.op = 3 then catS (kidsV all n.ks)
  else opV n.op n.a n.b (all.getD (n.ks.getD 0 0).toNat (0, []))

/-- What all nodes are, one behind the other. -/
def evR (vs : List Wd) (ns : List Tc) : List Wd := ns.foldl (fun all n => all ++ [nodV vs all n]) []

theorem pk_ok {W : Int} (bs : List Nat) (hb : ∀ x ∈ bs, x ≤ 1) (h1 : 1 ≤ bs.length) (h2 : bs.length ≤ 4096) (hW : W = (bs.length : Int)) : okW (W, pack bs) := by
  subst hW
  exact ⟨pack_right bs hb h1 h2, pack_lt bs⟩

theorem joinW_ok {x y : Wd} (hx : okW x) (hy : okW y) (h : x.1 + y.1 ≤ 4096) : (joinW x y).1 = x.1 + y.1 ∧ okW (joinW x y) ∧ joinW x y = (x.1 + y.1, pack (joinL x.1 x.2 y.1 y.2)) := by
  have a := right_W hx.1
  have b := right_W hy.1
  have hl : (joinL x.1 x.2 y.1 y.2).length = (x.1 + y.1).toNat := by simp only [joinL, List.length_append, bitsTo_len]; omega
  have hb : ∀ z ∈ joinL x.1 x.2 y.1 y.2, z ≤ 1 := fun z hz => by
    rcases List.mem_append.1 hz with hz | hz
    · exact bitsTo_le _ _ z hz
    · exact bitsTo_le _ _ z hz
  have e : joinW x y = (x.1 + y.1, pack (joinL x.1 x.2 y.1 y.2)) := by
    unfold joinW two
    rw [joinR, if_pos ⟨hx.1, hy.1⟩, fromR, if_pos ⟨by omega, by omega⟩]
    simp only [Prod.mk.injEq, and_true]
    omega
  rw [e]
  exact ⟨rfl, pk_ok _ hb (by omega) (by omega) (by omega), rfl⟩

theorem bitsTo_at (xs : List Nat) (k i : Nat) : (bitsTo xs k).getD i 0 = if i < k then (tb xs i).toNat else 0 := by
  unfold bitsTo
  by_cases h : i < k
  · simp [List.getD, h]
  · simp [List.getD, h]

theorem tb_join {x y : Wd} (hx : okW x) (hy : okW y) (h : x.1 + y.1 ≤ 4096) (j : Nat) : tb (joinW x y).2 j = (tb y.2 j || (decide (y.1.toNat ≤ j) && tb x.2 (j - y.1.toNat))) := by
  have a := right_W hx.1
  have b := right_W hy.1
  have hb : ∀ z ∈ joinL x.1 x.2 y.1 y.2, z ≤ 1 := fun z hz => by
    rcases List.mem_append.1 hz with hz | hz
    · exact bitsTo_le _ _ z hz
    · exact bitsTo_le _ _ z hz
  rw [(joinW_ok hx hy h).2.2, tb_pack _ hb]
  unfold joinL
  by_cases hj : j < y.1.toNat
  · have e : (bitsTo y.2 y.1.toNat ++ bitsTo x.2 x.1.toNat).getD j 0 = (tb y.2 j).toNat := by
      rw [getD_left _ _ _ _ (by rw [bitsTo_len]; exact hj), bitsTo_at, if_pos hj]
    rw [e]
    have : ¬ y.1.toNat ≤ j := by omega
    cases tb y.2 j <;> simp [this]
  · have e : (bitsTo y.2 y.1.toNat ++ bitsTo x.2 x.1.toNat).getD j 0 = (bitsTo x.2 x.1.toNat).getD (j - y.1.toNat) 0 := by
      rw [getD_right _ _ _ _ (by rw [bitsTo_len]; omega), bitsTo_len]
    have ho : tb y.2 j = false := tb_out hy.1 j (by omega)
    rw [e, ho, bitsTo_at]
    have : y.1.toNat ≤ j := by omega
    split
    · cases tb x.2 (j - y.1.toNat) <;> simp [this]
    · rw [tb_out hx.1 (j - y.1.toNat) (by omega)]; simp

theorem catS_take {l : List Wd} {i : Nat} {y : Wd} (h : l[i]? = some y) : catS (l.take (i + 1)) = if i = 0 then y else joinW (catS (l.take i)) y := by
  match l, i, h with
  | k :: t, 0, h => simp at h; subst h; rfl
  | k :: t, i + 1, h =>
    have h' : t[i]? = some y := by simpa using h
    rw [if_neg (by omega), List.take_succ_cons, List.take_succ_cons]
    show (t.take (i + 1)).foldl joinW k = joinW ((t.take i).foldl joinW k) y
    rw [List.take_add_one, h', List.foldl_append]
    rfl

theorem sumV_take {l : List Wd} {i : Nat} {y : Wd} (h : l[i]? = some y) : sumV (l.take (i + 1)) = sumV (l.take i) + y.1 := by
  unfold sumV
  rw [List.take_add_one, h]
  simp

theorem sumV_nonneg {l : List Wd} (h : ∀ x ∈ l, okW x) : 0 ≤ sumV l := by
  induction l with
  | nil => simp [sumV]
  | cons x t ih =>
    have a := right_W (h x (by simp)).1
    have b := ih fun y hy => h y (by simp [hy])
    simp only [sumV, List.map_cons, List.sum_cons] at b ⊢
    omega

theorem sumV_split (l : List Wd) (i : Nat) : sumV l = sumV (l.take i) + sumV (l.drop i) := by
  unfold sumV
  rw [← List.sum_append, ← List.map_append, List.take_append_drop]

theorem sumV_take_le {l : List Wd} (h : ∀ x ∈ l, okW x) (i : Nat) : 0 ≤ sumV (l.take i) ∧ sumV (l.take i) ≤ sumV l := by
  have a := sumV_split l i
  have b := sumV_nonneg (l := l.take i) fun x hx => h x (List.mem_of_mem_take hx)
  have c := sumV_nonneg (l := l.drop i) fun x hx => h x (List.mem_of_mem_drop hx)
  omega

theorem cat_ok {l : List Wd} (h : ∀ x ∈ l, okW x) (hs : sumV l ≤ 4096) : ∀ i, i < l.length → (catS (l.take (i + 1))).1 = sumV (l.take (i + 1)) ∧ okW (catS (l.take (i + 1)))
  | 0, hi => by
    have hg : l[0]? = some l[0] := List.getElem?_eq_getElem hi
    rw [catS_take hg, sumV_take hg, if_pos rfl]
    exact ⟨by simp [sumV], h _ (List.getElem_mem hi)⟩
  | i + 1, hi => by
    have hg : l[i + 1]? = some l[i + 1] := List.getElem?_eq_getElem hi
    obtain ⟨h1, h2⟩ := cat_ok h hs i (by omega)
    have hy := h _ (List.getElem_mem hi)
    have hle := (sumV_take_le h (i + 1 + 1)).2
    rw [sumV_take hg] at hle
    rw [catS_take hg, sumV_take hg, if_neg (by omega)]
    obtain ⟨e1, e2, -⟩ := joinW_ok h2 hy (by omega)
    exact ⟨by rw [e1, h1], e2⟩

theorem cat_all {l : List Wd} (h : ∀ x ∈ l, okW x) (hs : sumV l ≤ 4096) (hl : 1 ≤ l.length) : (catS l).1 = sumV l ∧ okW (catS l) := by
  have := cat_ok h hs (l.length - 1) (by omega)
  rw [show l.length - 1 + 1 = l.length by omega, List.take_length] at this
  exact this

/-- What has come in so far of a row that is put together from its highest bits on. -/
def catSo (l : List Wd) (i P : Nat) (zs : List Nat) : Prop := ∀ j, tb zs j = (decide (P ≤ j) && tb (catS (l.take i)).2 (j - P))

theorem catSo.step {l : List Wd} {i P V : Nat} {y : Wd} {zs : List Nat} (hz : catSo l i (P + V) zs) (h : ∀ x ∈ l, okW x) (hs : sumV l ≤ 4096) (hg : l[i]? = some y) (hV : y.1 = (V : Int)) (hroom : P + V ≤ 64 * zs.length) :
    catSo l (i + 1) P (putTo zs y.2 (P / 64) (P % 64) y.2.length) := by
  intro j
  have hy := h y (List.mem_of_getElem? hg)
  have hyr : rightB (V : Int) y.2 = true := by rw [← hV]; exact hy.1
  rw [tb_put_right hyr hy.2 zs P hroom, hz j, catS_take hg]
  by_cases hi : i = 0
  · subst hi
    rw [if_pos rfl]
    have e : tb (catS (l.take 0)).2 (j - (P + V)) = false := by
      simp [catS, tb]
    rw [e]
    simp
  · rw [if_neg hi]
    obtain ⟨h1, h2⟩ := cat_ok h hs (i - 1) (by have := (List.getElem?_eq_some_iff.1 hg).1; omega)
    rw [show i - 1 + 1 = i by omega] at h1 h2
    have hle := (sumV_take_le h (i + 1)).2
    rw [sumV_take hg] at hle
    rw [tb_join h2 hy (by omega)]
    have hvn : y.1.toNat = V := by omega
    rw [hvn, show j - P - V = j - (P + V) by omega]
    by_cases c1 : P ≤ j
    · by_cases c2 : P + V ≤ j
      · have : V ≤ j - P := by omega
        simp [c1, c2, this, Bool.or_comm]
      · have : ¬ V ≤ j - P := by omega
        simp [c1, c2, this]
    · have : ¬ P + V ≤ j := by omega
      simp [c1, this]

theorem catSo.done {l : List Wd} {W : Nat} {zs : List Nat} (hz : catSo l l.length 0 zs) (h : ∀ x ∈ l, okW x) (hs : sumV l ≤ 4096) (hl : 1 ≤ l.length) (hW : sumV l = (W : Int)) (hzl : zs.length = (W + 63) / 64) (hzb : ∀ x ∈ zs, x < 18446744073709551616) : catS l = ((W : Int), zs) := by
  obtain ⟨h1, h2⟩ := cat_all h hs hl
  have hr := right_W h2.1
  have e : zs = (catS l).2 := by
    refine tb_ext (by omega) hzb h2.2 (fun j _ => ?_)
    rw [hz j, List.take_length]
    simp
  rw [e, ← hW, ← h1]

theorem catSo.start (l : List Wd) (P N : Nat) : catSo l 0 P (List.replicate N 0) := by
  intro j
  rw [tb_zero]
  simp [catS, tb]

end Go.Proofs.YtllojnloldhghaaGreatDoor

/- By right values each node of a right term is a right word, of its width. No program in sight. -/
namespace Go.Proofs.YtllojnloldhghaaGreatDoor
set_option linter.unusedVariables false
set_option linter.unusedSimpArgs false
open Go.RowKit

theorem sumR_eq (wide : List Int) (hw : ∀ i, 0 ≤ wide.getD i 0) : ∀ (ks : List Int) (s : Int), 0 ≤ s → sumR wide ks s ≤ 4096 → sumR wide ks s = s + (ks.map fun k => wide.getD k.toNat 0).sum ∧ s ≤ 4096
  | [], s, _, h => by simp [sumR] at h ⊢; exact h
  | k :: t, s, h0, h => by
    rw [sumR] at h ⊢
    have a := hw k.toNat
    obtain ⟨h1, h2⟩ := sumR_eq wide hw t _ (by omega) h
    rw [List.map_cons, List.sum_cons]
    constructor
    · rw [h1]; omega
    · omega

theorem sumR_one (wide : List Int) (k : Int) (h : 0 ≤ wide.getD k.toNat 0 ∧ wide.getD k.toNat 0 ≤ 4096) : sumR wide [k] 0 = wide.getD k.toNat 0 := by
  rw [sumR, sumR]; omega

/-- What stands of the nodes ahead. -/
structure Ahead (wide : List Int) (all : List Wd) : Prop where
  len : all.length = wide.length
  ok : ∀ i, i < all.length → (all.getD i (0, [])).1 = wide.getD i 0 ∧ okW (all.getD i (0, []))

theorem Ahead.nil : Ahead [] [] := ⟨rfl, fun i hi => by simp at hi⟩

theorem Ahead.push {wide : List Int} {all : List Wd} {v : Int} {x : Wd} (h : Ahead wide all) (h1 : x.1 = v) (h2 : okW x) : Ahead (wide ++ [v]) (all ++ [x]) := by
  refine ⟨by simp [h.len], fun i hi => ?_⟩
  by_cases hlt : i < all.length
  · have := h.ok i hlt
    have hw : i < wide.length := by rw [← h.len]; exact hlt
    have e1 : (all ++ [x]).getD i (0, []) = all.getD i (0, []) := getD_left _ _ _ _ hlt
    have e2 : (wide ++ [v]).getD i 0 = wide.getD i 0 := getD_left _ _ _ _ hw
    rw [e1, e2]
    exact this
  · have e : i = all.length := by simp at hi; omega
    subst e
    have e1 : (all ++ [x]).getD all.length (0, []) = x := by simp [List.getD]
    have e2 : (wide ++ [v]).getD all.length 0 = v := by rw [h.len]; simp [List.getD]
    rw [e1, e2]
    exact ⟨h1, h2⟩

theorem Ahead.mem {wide : List Int} {all : List Wd} (h : Ahead wide all) : ∀ x ∈ all, okW x := fun x hx => by
  obtain ⟨i, hi, rfl⟩ := List.mem_iff_getElem.1 hx
  have := (h.ok i hi).2
  simpa [List.getD, hi] using this

theorem Ahead.wide_nonneg {wide : List Int} {all : List Wd} (h : Ahead wide all) (i : Nat) : 0 ≤ wide.getD i 0 := by
  by_cases hi : i < all.length
  · obtain ⟨a, b⟩ := h.ok i hi
    have := right_W b.1
    omega
  · have : wide.getD i 0 = 0 := by simp [List.getD, List.getElem?_eq_none (show wide.length ≤ i by rw [← h.len]; omega)]
    omega

/-- Kids that stand ahead are right words. -/
theorem Ahead.kids {wide : List Int} {all : List Wd} (h : Ahead wide all) {ks : List Int} (hk : kidsR wide.length ks = true) : (∀ x ∈ kidsV all ks, okW x) ∧ sumV (kidsV all ks) = (ks.map fun k => wide.getD k.toNat 0).sum := by
  induction ks with
  | nil => simp [kidsV, sumV]
  | cons k t ih =>
    simp only [kidsR, List.all_cons, Bool.and_eq_true, decide_eq_true_eq] at hk ih
    obtain ⟨h1, h2⟩ := ih hk.2
    obtain ⟨a, b⟩ := h.ok k.toNat (by rw [h.len]; omega)
    refine ⟨fun x hx => ?_, ?_⟩
    · simp only [kidsV, List.map_cons, List.mem_cons] at hx
      rcases hx with rfl | hx
      · exact b
      · exact h1 x (by simpa [kidsV] using hx)
    · simp only [kidsV, sumV, List.map_cons, List.sum_cons] at h2 ⊢
      rw [a, h2]

theorem part_ok {x : Wd} (hx : okW x) {a b : Int} (h0 : 0 ≤ b) (h1 : b ≤ a) (h2 : a < x.1) : (two (partR x.1 x.2 a b)).1 = a - b + 1 ∧ okW (two (partR x.1 x.2 a b)) := by
  have hr := right_W hx.1
  have hl : (((bitsTo x.2 x.1.toNat).drop b.toNat).take (a - b + 1).toNat).length = (a - b + 1).toNat := by
    rw [List.length_take, List.length_drop, bitsTo_len]; omega
  rw [partR, if_pos ⟨hx.1, h0, h1, h2⟩]
  refine ⟨rfl, pk_ok _ (fun z hz => bitsTo_le _ _ z (List.mem_of_mem_drop (List.mem_of_mem_take hz))) (by omega) (by omega) (by omega)⟩

theorem wdn_ok {x : Wd} (hx : okW x) {a : Int} (s : Bool) (h0 : 0 ≤ a) (h1 : a ≤ 4096) (h2 : x.1 + a ≤ 4096) : (two (wdnR x.1 x.2 a s)).1 = x.1 + a ∧ okW (two (wdnR x.1 x.2 a s)) := by
  have hr := right_W hx.1
  have hl : (bitsTo x.2 x.1.toNat ++ List.replicate a.toNat (topOf x.1.toNat x.2 s)).length = (x.1 + a).toNat := by
    rw [List.length_append, bitsTo_len, List.length_replicate]; omega
  rw [wdnR, if_pos ⟨hx.1, h0, h1, h2⟩]
  refine ⟨rfl, pk_ok _ (fun z hz => ?_) (by omega) (by omega) (by omega)⟩
  rcases List.mem_append.1 hz with hz | hz
  · exact bitsTo_le _ _ z hz
  · rw [List.eq_of_mem_replicate hz]; exact topOf_le _ _ _

theorem turn_ok {x : Wd} (hx : okW x) {a : Int} (h0 : 0 ≤ a) (h1 : a ≤ 4096) : (two (turnR x.1 x.2 a)).1 = x.1 ∧ okW (two (turnR x.1 x.2 a)) := by
  have hr := right_W hx.1
  have hl : (turnL (bitsTo x.2 x.1.toNat) (a.toNat % x.1.toNat)).length = x.1.toNat := by rw [turnL_len, bitsTo_len]
  rw [turnR, if_pos ⟨hx.1, h0, h1⟩]
  exact ⟨rfl, pk_ok _ (fun z hz => bitsTo_le _ _ z (turnL_mem _ _ _ hz)) (by omega) (by omega) (by omega)⟩

theorem rep_ok {x : Wd} (hx : okW x) {a : Int} (h0 : 1 ≤ a) (h1 : a ≤ 4096) (h2 : x.1 * a ≤ 4096) : (two (repR x.1 x.2 a)).1 = x.1 * a ∧ okW (two (repR x.1 x.2 a)) := by
  have hr := right_W hx.1
  have hp : 1 * 1 ≤ x.1 * a := Int.mul_le_mul hr.1 h0 (by omega) (by omega)
  have hl : (repList (bitsTo x.2 x.1.toNat) a.toNat).length = (x.1 * a).toNat := by
    rw [repList_len, bitsTo_len]
    have : ((a.toNat * x.1.toNat : Nat) : Int) = x.1 * a := by
      rw [Int.natCast_mul, Int.toNat_of_nonneg (by omega), Int.toNat_of_nonneg (by omega), Int.mul_comm]
    omega
  rw [repR, if_pos ⟨hx.1, h0, h1, h2⟩]
  exact ⟨rfl, pk_ok _ (fun z hz => bitsTo_le _ _ z (repList_mem _ _ _ hz)) (by omega) (by omega) (by omega)⟩

theorem emod_range (a W : Int) (h : 1 ≤ W) : 0 ≤ (W - a % W) % W ∧ (W - a % W) % W < W := ⟨Int.emod_nonneg _ (by omega), Int.emod_lt_of_pos _ (by omega)⟩

/-- What is known of a node at its place. -/
structure NodeAt (vs all : List Wd) (n : Tc) : Prop where
  op : 1 ≤ n.op ∧ n.op ≤ 9
  kid : ∀ j ∈ n.ks, 0 ≤ j ∧ j < (all.length : Int)
  var : n.op = 1 → 0 ≤ n.vr ∧ n.vr < (vs.length : Int)
  many : n.op = 3 → 2 ≤ n.ks.length
  fit : n.op = 3 → sumV (kidsV all n.ks) ≤ 4096
  one : 4 ≤ n.op → n.ks.length = 1
  wide : n.op = 8 → 0 ≤ n.a ∧ n.a ≤ 4096
  oks : ∀ x ∈ all, okW x
  is : okW (nodV vs all n)

theorem nodV_ok {ds : List Dc} {vs all : List Wd} {wide : List Int} {n : Tc} {v : Int} (ha : Ahead wide all) (hv : valR ds vs = true) (hvb : ∀ x ∈ vs, ∀ y ∈ x.2, y < 18446744073709551616) (hnb : ∀ y ∈ n.ws, y < 18446744073709551616) (hs : stepR ds wide n = some v) :
    NodeAt vs all n ∧ (nodV vs all n).1 = v := by
  obtain ⟨-, hvl, hvr⟩ := valR_iff.1 hv
  have hcond := stepR_kids hs
  simp only [Bool.and_eq_true] at hcond
  obtain ⟨⟨hk, -⟩, hm⟩ := hcond
  obtain ⟨hko, hks⟩ := ha.kids hk
  have hval : 1 ≤ wideR ds n (sumR wide n.ks 0) ∧ wideR ds n (sumR wide n.ks 0) ≤ 4096 ∧ wideR ds n (sumR wide n.ks 0) = v := by
    unfold stepR at hs
    split at hs
    · split at hs
      · rename_i h; cases hs; exact ⟨h.1, h.2, rfl⟩
      · cases hs
    · cases hs
  obtain ⟨hv1, hv2, hv3⟩ := hval
  have hkid : ∀ j ∈ n.ks, 0 ≤ j ∧ j < (all.length : Int) := fun j hj => by
    simp only [kidsR, List.all_eq_true, decide_eq_true_eq] at hk
    have := hk j hj
    rw [ha.len]
    omega
  obtain ⟨op, vr, A, B, bw, ws, ks⟩ := n
  simp only [] at *
  have hop : 1 ≤ op ∧ op ≤ 9 := by
    unfold manyR at hm
    simp only [] at hm
    repeat' split at hm
    all_goals first | omega | (simp at hm)
  have hwn := ha.wide_nonneg
  have h1k : 4 ≤ op → ks.length = 1 := fun h => by
    unfold manyR at hm
    simp only [] at hm
    rw [if_neg (by omega), if_neg (by omega), if_neg (by omega), if_pos (by omega)] at hm
    simpa using hm
  have hone : 4 ≤ op → sumR wide ks 0 = (all.getD (ks.getD 0 0).toNat (0, [])).1 ∧ okW (all.getD (ks.getD 0 0).toNat (0, [])) := fun h => by
    match ks, h1k h, hkid with
    | [k], _, hkid =>
      have hkk := hkid k (by simp)
      obtain ⟨a, b⟩ := ha.ok k.toNat (by omega)
      have hr := right_W b.1
      have e : ([k] : List Int).getD 0 0 = k := rfl
      rw [e, sumR_one wide k (by omega)]
      exact ⟨a.symm, b⟩
  have fin : 4 ≤ op → (op = 8 → 0 ≤ A ∧ A ≤ 4096) → ∀ y : Wd, nodV vs all ⟨op, vr, A, B, bw, ws, ks⟩ = y → y.1 = v → okW y → NodeAt vs all ⟨op, vr, A, B, bw, ws, ks⟩ ∧ (nodV vs all ⟨op, vr, A, B, bw, ws, ks⟩).1 = v := fun h4 h8 y hy h1 h2 =>
    ⟨⟨hop, hkid, fun h => by simp only [] at h; omega, fun h => by simp only [] at h; omega, fun h => by simp only [] at h; omega, h1k, h8, ha.mem, by rw [hy]; exact h2⟩, by rw [hy]; exact h1⟩
  rcases op_nine hop.1 hop.2 with rfl | rfl | rfl | rfl | rfl | rfl | rfl | rfl | rfl
  · have hm' : ks.length = 0 ∧ 0 ≤ vr ∧ vr ≤ (ds.length : Int) - 1 := by simpa [manyR] using hm
    have hlt : vr.toNat < vs.length := by omega
    obtain ⟨a, b⟩ := hvr vr.toNat hlt
    have hb : okW (vs.getD vr.toNat (0, [])) := ⟨a, hvb _ (by simp [List.getD, hlt])⟩
    have e : nodV vs all ⟨1, vr, A, B, bw, ws, ks⟩ = vs.getD vr.toNat (0, []) := by simp [nodV]
    simp only [wideR, if_true] at hv3
    refine ⟨⟨hop, hkid, fun _ => ⟨hm'.2.1, show vr < (vs.length : Int) by omega⟩, by simp, by simp, by simp, by simp, ha.mem, by rw [e]; exact hb⟩, by rw [e, b]; exact hv3⟩
  · have hm' : ks.length = 0 ∧ rightB bw ws = true := by simpa [manyR] using hm
    have e : nodV vs all ⟨2, vr, A, B, bw, ws, ks⟩ = (bw, ws) := by simp [nodV]
    have hv3' : bw = v := by simpa [wideR] using hv3
    exact ⟨⟨hop, hkid, by simp, by simp, by simp, by simp, by simp, ha.mem, by rw [e]; exact ⟨hm'.2, hnb⟩⟩, by rw [e]; exact hv3'⟩
  · have hm' : 2 ≤ ks.length := by simpa [manyR] using hm
    have e : nodV vs all ⟨3, vr, A, B, bw, ws, ks⟩ = catS (kidsV all ks) := by simp [nodV]
    have hw : wideR ds ⟨3, vr, A, B, bw, ws, ks⟩ (sumR wide ks 0) = sumR wide ks 0 := by simp [wideR]
    rw [hw] at hv1 hv2 hv3
    obtain ⟨hse, -⟩ := sumR_eq wide hwn ks 0 (by omega) hv2
    have hsum : sumV (kidsV all ks) = v := by rw [hks, ← hv3, hse]; omega
    obtain ⟨c1, c2⟩ := cat_all hko (by rw [hsum]; omega) (by simp [kidsV]; omega)
    exact ⟨⟨hop, hkid, by simp, fun _ => hm', fun _ => by rw [hsum]; omega, by simp, by simp, ha.mem, by rw [e]; exact c2⟩, by rw [e, c1]; exact hsum⟩
  all_goals obtain ⟨hsw, hxo⟩ := hone (by omega)
  all_goals rw [hsw] at hv1 hv2 hv3
  all_goals have hxr := right_W hxo.1
  all_goals obtain ⟨x, hx⟩ : ∃ x, all.getD (ks.getD 0 0).toNat (0, []) = x := ⟨_, rfl⟩
  all_goals rw [hx] at hv1 hv2 hv3 hxo hxr
  · have hw : wideR ds ⟨4, vr, A, B, bw, ws, ks⟩ x.1 = if B < 0 ∨ A < B ∨ x.1 ≤ A then -1 else A - B + 1 := by simp [wideR]
    rw [hw] at hv1 hv2 hv3
    by_cases hc : B < 0 ∨ A < B ∨ x.1 ≤ A
    · rw [if_pos hc] at hv1; omega
    rw [if_neg hc] at hv3
    obtain ⟨p1, p2⟩ := part_ok hxo (a := A) (b := B) (by omega) (by omega) (by omega)
    exact fin (by omega) (by omega) (two (partR x.1 x.2 A B)) (by rw [← hx]; simp [nodV, opV]) (by rw [p1]; exact hv3) p2
  · have hw : wideR ds ⟨5, vr, A, B, bw, ws, ks⟩ x.1 = if 0 ≤ A ∧ A ≤ 4096 then x.1 + A else -1 := by simp [wideR]
    rw [hw] at hv1 hv2 hv3
    by_cases hc : 0 ≤ A ∧ A ≤ 4096
    · rw [if_pos hc] at hv1 hv2 hv3
      obtain ⟨p1, p2⟩ := wdn_ok hxo (a := A) false hc.1 hc.2 hv2
      exact fin (by omega) (by omega) (two (wdnR x.1 x.2 A false)) (by rw [← hx]; simp [nodV, opV]) (by rw [p1]; exact hv3) p2
    · rw [if_neg hc] at hv1; omega
  · have hw : wideR ds ⟨6, vr, A, B, bw, ws, ks⟩ x.1 = if 0 ≤ A ∧ A ≤ 4096 then x.1 + A else -1 := by simp [wideR]
    rw [hw] at hv1 hv2 hv3
    by_cases hc : 0 ≤ A ∧ A ≤ 4096
    · rw [if_pos hc] at hv1 hv2 hv3
      obtain ⟨p1, p2⟩ := wdn_ok hxo (a := A) true hc.1 hc.2 hv2
      exact fin (by omega) (by omega) (two (wdnR x.1 x.2 A true)) (by rw [← hx]; simp [nodV, opV]) (by rw [p1]; exact hv3) p2
    · rw [if_neg hc] at hv1; omega
  · have hw : wideR ds ⟨7, vr, A, B, bw, ws, ks⟩ x.1 = if 0 ≤ A ∧ A ≤ 4096 then x.1 else -1 := by simp [wideR]
    rw [hw] at hv1 hv2 hv3
    by_cases hc : 0 ≤ A ∧ A ≤ 4096
    · rw [if_pos hc] at hv1 hv2 hv3
      obtain ⟨p1, p2⟩ := turn_ok hxo (a := A) hc.1 hc.2
      exact fin (by omega) (by omega) (two (turnR x.1 x.2 A)) (by rw [← hx]; simp [nodV, opV]) (by rw [p1]; exact hv3) p2
    · rw [if_neg hc] at hv1; omega
  · have hw : wideR ds ⟨8, vr, A, B, bw, ws, ks⟩ x.1 = if 0 ≤ A ∧ A ≤ 4096 then x.1 else -1 := by simp [wideR]
    rw [hw] at hv1 hv2 hv3
    by_cases hc : 0 ≤ A ∧ A ≤ 4096
    · rw [if_pos hc] at hv1 hv2 hv3
      have hr := emod_range A x.1 hxr.1
      obtain ⟨p1, p2⟩ := turn_ok hxo (a := (x.1 - A % x.1) % x.1) hr.1 (by omega)
      exact fin (by omega) (fun _ => hc) (two (turnR x.1 x.2 ((x.1 - A % x.1) % x.1))) (by rw [← hx]; simp [nodV, opV]) (by rw [p1]; exact hv3) p2
    · rw [if_neg hc] at hv1; omega
  · have hw : wideR ds ⟨9, vr, A, B, bw, ws, ks⟩ x.1 = if 1 ≤ A ∧ A ≤ 4096 then x.1 * A else -1 := by simp [wideR]
    rw [hw] at hv1 hv2 hv3
    by_cases hc : 1 ≤ A ∧ A ≤ 4096
    · rw [if_pos hc] at hv1 hv2 hv3
      obtain ⟨p1, p2⟩ := rep_ok hxo (a := A) hc.1 hc.2 hv2
      exact fin (by omega) (by omega) (two (repR x.1 x.2 A)) (by rw [← hx]; simp [nodV, opV]) (by rw [p1]; exact hv3) p2
    · rw [if_neg hc] at hv1; omega

theorem ev_take {vs : List Wd} {ns : List Tc} {k : Nat} {n : Tc} (h : ns[k]? = some n) : evR vs (ns.take (k + 1)) = evR vs (ns.take k) ++ [nodV vs (evR vs (ns.take k)) n] := by
  unfold evR
  rw [List.take_add_one, h, List.foldl_append]
  simp

theorem fold_ev_len (vs : List Wd) (ns : List Tc) : ∀ all : List Wd, (ns.foldl (fun all n => all ++ [nodV vs all n]) all).length = all.length + ns.length := by
  induction ns with
  | nil => simp
  | cons n t ih => intro all; rw [List.foldl_cons, ih]; simp; omega

theorem ev_len (vs : List Wd) (ns : List Tc) : (evR vs ns).length = ns.length := by
  have := fold_ev_len vs ns []
  simpa [evR] using this

theorem ev_steps {ds : List Dc} {vs : List Wd} (hv : valR ds vs = true) (hvb : ∀ x ∈ vs, ∀ y ∈ x.2, y < 18446744073709551616) : ∀ (ns : List Tc) (wide : List Int) (all : List Wd) (r : List Int), (∀ n ∈ ns, ∀ y ∈ n.ws, y < 18446744073709551616) → Ahead wide all → goR ds wide ns = some r →
    ∀ (k : Nat) (n : Tc), ns[k]? = some n → NodeAt vs ((ns.take k).foldl (fun all n => all ++ [nodV vs all n]) all) n
  | [], _, _, _, _, _, _ => by simp
  | m :: t, wide, all, r, hb, ha, h => by
    rw [goR] at h
    cases hst : stepR ds wide m with
    | none => rw [hst] at h; cases h
    | some v =>
      rw [hst] at h
      obtain ⟨h1, h2⟩ := nodV_ok ha hv hvb (hb m (by simp)) hst
      intro k n hk
      cases k with
      | zero => simp at hk; subst hk; exact h1
      | succ k =>
        have := ev_steps hv hvb t _ _ r (fun n hn => hb n (by simp [hn])) (ha.push h2 h1.is) h k n (by simpa using hk)
        simpa using this

/-- Each node of a right term, by right values. -/
theorem ev_at {ds : List Dc} {vs : List Wd} {ns : List Tc} (hw : ¬ (widthsR ds ns).length = 0) (hv : valR ds vs = true) (hvb : ∀ x ∈ vs, ∀ y ∈ x.2, y < 18446744073709551616) (hnb : ∀ n ∈ ns, ∀ y ∈ n.ws, y < 18446744073709551616) {k : Nat} {n : Tc} (hk : ns[k]? = some n) : NodeAt vs (evR vs (ns.take k)) n := by
  unfold widthsR at hw
  split at hw
  · cases hg : goR ds [] ns with
    | none => rw [hg] at hw; simp at hw
    | some wide => exact ev_steps hv hvb ns [] [] wide hnb Ahead.nil hg k n hk
  · simp at hw

/-- What a term is by values. -/
def evalR (vs : List Wd) (ns : List Tc) : Wd := (evR vs ns).getD (ns.length - 1) (0, [])

theorem eval_ok {ds : List Dc} {vs : List Wd} {ns : List Tc} (hw : ¬ (widthsR ds ns).length = 0) (hv : valR ds vs = true) (hvb : ∀ x ∈ vs, ∀ y ∈ x.2, y < 18446744073709551616) (hnb : ∀ n ∈ ns, ∀ y ∈ n.ws, y < 18446744073709551616) : okW (evalR vs ns) := by
  have hl := (right_kids hw).1
  have hk : ns[ns.length - 1]? = some ns[ns.length - 1] := List.getElem?_eq_getElem (by omega)
  have h := (ev_at hw hv hvb hnb hk).is
  have e := ev_take (vs := vs) hk
  rw [show ns.length - 1 + 1 = ns.length by omega, List.take_length] at e
  unfold evalR
  rw [e]
  have hlen : (evR vs (ns.take (ns.length - 1))).length = ns.length - 1 := by rw [ev_len]; simp
  rw [getD_right _ _ _ _ (by omega), hlen]
  simpa using h

end Go.Proofs.YtllojnloldhghaaGreatDoor
