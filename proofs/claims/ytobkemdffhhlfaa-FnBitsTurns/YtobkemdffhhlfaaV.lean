/- What the given WidenBits answers. -/
import Derived.Test.YtobkemdffhhlfaaU
namespace Go.Proofs.Ytobkemdffhhlfaa
set_option linter.unusedVariables false
set_option linter.unusedSimpArgs false
open Go.RowKit

def topOf (V : Nat) (xs : List Nat) (sign : Bool) : Nat := if sign then (tb xs (V - 1)).toNat else 0
theorem topOf_le (V : Nat) (xs : List Nat) (sign : Bool) : topOf V xs sign ≤ 1 := by
  unfold topOf
  split
  · cases tb xs (V - 1) <;> decide
  · omega

def widR (W : Int) (xs : List Nat) (n : Int) (sign : Bool) : Int × List Nat × Bool :=
  if rightB W xs = true ∧ 0 ≤ n ∧ n ≤ 4096 ∧ W + n ≤ 4096 then (W + n, pack (bitsTo xs W.toNat ++ List.replicate n.toNat (topOf W.toNat xs sign)), true) else noR

set_option maxHeartbeats 1000000 in
set_option maxRecDepth 100000 in
theorem specWid_any (W : Int) (a : Option Addr) (c : Nat) (xs : List Nat) (n : Int) (sign : Bool) (w : World) (hr : Rd w a xs) :
    Calls Try.prog 53 #[.agg #[.int .i64 W, .slice a xs.length c], .int .i64 n, .bool sign] w (RetB w (widR W xs n sign)) := by
  have h2 : Below w.heap.size w ((w.alloc (Obj.cells #[Value.int IntKind.i64 W, Value.slice a xs.length c] 26)).alloc (Obj.cells #[Value.int IntKind.i64 0, Value.slice none 0 0] 26)) := ((Below.refl _ _).alloc (Nat.le_refl _) _).alloc (by simp) _
  have hr' := hr.later h2
  by_cases hc : rightB W xs = true ∧ 0 ≤ n ∧ n ≤ 4096
  · obtain ⟨hok, hn1, hn2⟩ := hc
    have hRR : widR W xs n sign = if W + n ≤ 4096 then (W + n, pack (bitsTo xs W.toNat ++ List.replicate n.toNat (topOf W.toNat xs sign)), true) else noR := by
      unfold widR; simp [hok, hn1, hn2]
    rw [hRR]
    generalize hR : (if W + n ≤ 4096 then (W + n, pack (bitsTo xs W.toNat ++ List.replicate n.toNat (topOf W.toNat xs sign)), true) else noR) = R
    have HR : Hid ((if W + n ≤ 4096 then (W + n, pack (bitsTo xs W.toNat ++ List.replicate n.toNat (topOf W.toNat xs sign)), true) else noR) = R) := hR
    clear hR hRR
    obtain ⟨hW1, hW2, hWl⟩ := right_W hok
    obtain ⟨V, rfl⟩ := Int.eq_ofNat_of_zero_le (show 0 ≤ W by omega)
    obtain ⟨m, rfl⟩ := Int.eq_ofNat_of_zero_le hn1
    have hVl : V ≤ 64 * xs.length := by omega
    have hd : decide (0 ≤ (m : Int) ∧ (m : Int) ≤ 4096) = true := by simp; omega
    have HWl : Hid ((xs.length : Int) = ((V : Int) + 63) / 64) := hWl
    clear hWl
    have ht := topOf_le V xs sign
    have hv0 : (0 : Int) ≤ (V : Int) - 1 := by omega
    have hv1 : (V : Int) - 1 < (V : Int) := by omega
    go_enter Try.func53, Try.ntmps53
    go_wp2_with fail
    refine (specOk_any _ _ _ _ _ hr').mono ?_
    rintro e w1 ⟨rfl, hb1⟩
    have hr1 := hr'.later hb1
    have HB1 := hb1
    obtain ⟨hcc, hff⟩ := bcell hb1
    have hz : w.heap.size + 1 < w1.heap.size := by have := hb1.size; simp at this; omega
    clear hb1
    go_wp2_with (go_at_call 55; refine (l1In_any _ _ _ _).mono ?_; rintro e w' ⟨rfl, rfl⟩)
    refine (l1List_any _ _ _ _ _ hr1 hVl (by omega)).mono ?_
    rintro e w2 ⟨v, rfl, how, hb2⟩
    have hlen := bitsTo_len xs V
    have hle := bitsTo_le xs V
    obtain ⟨a2, c2, rfl, hrb, hc2, hm2⟩ := how.shape (by rw [bitsTo_len]; omega) (fun x hx => by have := hle x hx; omega)
    have HB2 := chain HB1 hb2
    have hsz2 := hb2.size
    rw [hlen] at hc2 how ⊢
    obtain ⟨-, -, hn | ⟨bb, oo, rfl, hcell⟩⟩ := hrb
    · rw [hn] at hlen; simp at hlen; omega
    have htop : w2.cell? ⟨bb, oo + (V - 1), none⟩ = some (.int .u8 ((((tb xs (V - 1)).toNat : Nat)) : Int)) := by
      rw [hcell (V - 1) (by omega)]
      simp [List.getD, bitsTo, show V - 1 < V by omega]
    generalize hbs : bitsTo xs V = bs at *
    have HBS : Hid (bitsTo xs V = bs) := hbs
    have hbase : w'.heap.size + 1 ≤ w2.heap.size := by
      have := how.own bb rfl
      have hbb : bb < w2.heap.size := block_lt_of_cell htop
      omega
    have HB1s := HB1.size
    clear hbs hcell hb2 hr hr' hr1 hcc hff hz HB1
    cases sign with
    | false =>
      have HT : Hid (topOf V xs false = 0) := rfl
      go_wp2_with fail
      go_loopw [8, 10] (fun v i wr => ∃ k : Nat, k ≤ m ∧ i = .int .i64 k ∧ OwB wr (w'.heap.size + 1) v (bs ++ List.replicate k 0) ∧ Below (w'.heap.size + 1) w2 wr) (fun _ i _ => m - (intOf i).toNat)
      case atStart => exact ⟨0, Nat.zero_le _, rfl, by rw [List.replicate_zero, List.append_nil]; unfold OwB; rw [hlen]; unfold OwB at how; rw [hlen] at how; exact how, Below.refl _ _⟩
      case round =>
        obtain ⟨k, hk, rfl, hown, hbel⟩ := hrel
        by_cases hlt : k < m
        · have hsz := hbel.size
          have HS : Hid (bs ++ List.replicate (k + 1) 0 = (bs ++ List.replicate k 0) ++ [0]) := by show _ = _; rw [List.replicate_succ', List.append_assoc]
          have hll : (bs ++ List.replicate k 0).length ≤ 4194304 := by simp [hlen]; omega
          generalize bs ++ List.replicate k 0 = rk at *
          clear how htop
          go_wp2_with (at_builtin; refine wpList_appB _ rfl _ _ rfl (w'.heap.size + 1) _ rk 0 rfl (hown.alloc _) wr.heap.size rfl (by simp) hll (by simp; omega) ?_)
          intro v' w4 hown4 hgr4
          have hb4 : Below (w'.heap.size + 1) w2 w4 := (hbel.alloc (by omega) _).grown hgr4 (by simp; omega) hown.own
          clear hgr4 hown hbel
          go_wp2
          go_roundw
          case rel => exact ⟨k + 1, by omega, by go_num, by rw [HS.out]; exact hown4, hb4⟩
          case measure => simp [intOf]; omega
        · have e : k = m := by omega
          subst e
          have hrl : (bs ++ List.replicate k 0).length = V + k := by simp [hlen]
          have HBr := HB2.trans (hbel.mono (show _ ≤ w'.heap.size + 1 by have := HB1s; omega))
          obtain ⟨a4, c4, rfl, hrb4, hc4, hm4⟩ := hown.shape (by rw [hrl]; omega) (fun x hx => by
            rcases List.mem_append.1 hx with h | h
            · have := hle x h; omega
            · have := List.eq_of_mem_replicate h; rw [HT.out] at ht; omega)
          by_cases hVk : V + k ≤ 4096
          · have HQ : Hid ((((bs ++ List.replicate k 0).length : Int), pack (bs ++ List.replicate k 0), true) = R) := by
              show _ = _
              rw [← HR.out, if_pos (by omega), Int.toNat_natCast, Int.toNat_natCast, HBS.out, HT.out, hrl, Int.natCast_add]
            have hfrom := l1From_yes a4 c4 (bs ++ List.replicate k 0) wr hrb4 (by omega) (by omega)
            clear how hown hrb4 hbel HR HBS htop
            generalize bs ++ List.replicate k 0 = rk at *
            clear hrl
            go_wp2_with fail
            refine hfrom.mono ?_
            rintro e w5 ⟨a5, c5, rfl, hfr, hb5⟩
            have HB5 := chain HBr hb5
            obtain ⟨hcc, hff⟩ := bcell HB5
            have hz5 : w.heap.size + 1 < w5.heap.size := by have := HB5.size; simp at this; omega
            have hzr : w.heap.size + 1 < wr.heap.size := by have := HBr.size; simp at this; omega
            dsimp only at hfr ⊢
            clear hfrom
            go_wp2
            exact bodyPost_ret (by simp [results, Try.results53, go_sem, hcc, hz5]; rfl) rfl (RetB.close (r := ((rk.length : Int), pack rk, true)) hfr (by omega) hzr (h2.trans (HB5.mono (by simp; omega))) HQ.out _ _)
          · have HQ : Hid (noR = R) := by show _ = _; rw [← HR.out, if_neg (by omega)]
            have hfrom := l1From_no a4 (bs ++ List.replicate k 0).length c4 wr (.inr (by omega)) (by omega)
            clear how hown hrb4 hbel HR HBS htop
            generalize bs ++ List.replicate k 0 = rk at *
            clear hrl
            go_wp2_with fail
            refine hfrom.mono ?_
            rintro e w5 ⟨rfl, hb5⟩
            have HB5 := chain HBr hb5
            obtain ⟨hcc, hff⟩ := bcell HB5
            have hz5 : w.heap.size + 1 < w5.heap.size := by have := HB5.size; simp at this; omega
            clear hfrom
            go_wp2
            refine bodyPost_ret (v := .tuple #[.agg #[.int .i64 0, .slice none 0 0], .bool false]) (by simp [results, Try.results53, go_sem, hcc]) rfl ?_
            rw [← HQ.out]
            exact RetB.no (((h2.trans (HB5.mono (by simp; omega))).setCell (by simp) _).setCell (by simp) _)
    | true =>
      have HT : Hid (topOf V xs true = (tb xs (V - 1)).toNat) := rfl
      generalize (tb xs (V - 1)).toNat = t at *
      go_wp2_with fail
      go_loopw [8, 10] (fun v i wr => ∃ k : Nat, k ≤ m ∧ i = .int .i64 k ∧ OwB wr (w'.heap.size + 1) v (bs ++ List.replicate k t) ∧ Below (w'.heap.size + 1) w2 wr) (fun _ i _ => m - (intOf i).toNat)
      case atStart => exact ⟨0, Nat.zero_le _, rfl, by rw [List.replicate_zero, List.append_nil]; unfold OwB; rw [hlen]; unfold OwB at how; rw [hlen] at how; exact how, Below.refl _ _⟩
      case round =>
        obtain ⟨k, hk, rfl, hown, hbel⟩ := hrel
        by_cases hlt : k < m
        · have hsz := hbel.size
          have HS : Hid (bs ++ List.replicate (k + 1) t = (bs ++ List.replicate k t) ++ [t]) := by show _ = _; rw [List.replicate_succ', List.append_assoc]
          have hll : (bs ++ List.replicate k t).length ≤ 4194304 := by simp [hlen]; omega
          generalize bs ++ List.replicate k t = rk at *
          clear how htop
          go_wp2_with (at_builtin; refine wpList_appB _ rfl _ _ rfl (w'.heap.size + 1) _ rk t rfl (hown.alloc _) wr.heap.size rfl (by simp) hll (by simp; omega) ?_)
          intro v' w4 hown4 hgr4
          have hb4 : Below (w'.heap.size + 1) w2 w4 := (hbel.alloc (by omega) _).grown hgr4 (by simp; omega) hown.own
          clear hgr4 hown hbel
          go_wp2
          go_roundw
          case rel => exact ⟨k + 1, by omega, by go_num, by rw [HS.out]; exact hown4, hb4⟩
          case measure => simp [intOf]; omega
        · have e : k = m := by omega
          subst e
          have hrl : (bs ++ List.replicate k t).length = V + k := by simp [hlen]
          have HBr := HB2.trans (hbel.mono (show _ ≤ w'.heap.size + 1 by have := HB1s; omega))
          obtain ⟨a4, c4, rfl, hrb4, hc4, hm4⟩ := hown.shape (by rw [hrl]; omega) (fun x hx => by
            rcases List.mem_append.1 hx with h | h
            · have := hle x h; omega
            · have := List.eq_of_mem_replicate h; rw [HT.out] at ht; omega)
          by_cases hVk : V + k ≤ 4096
          · have HQ : Hid ((((bs ++ List.replicate k t).length : Int), pack (bs ++ List.replicate k t), true) = R) := by
              show _ = _
              rw [← HR.out, if_pos (by omega), Int.toNat_natCast, Int.toNat_natCast, HBS.out, HT.out, hrl, Int.natCast_add]
            have hfrom := l1From_yes a4 c4 (bs ++ List.replicate k t) wr hrb4 (by omega) (by omega)
            clear how hown hrb4 hbel HR HBS htop
            generalize bs ++ List.replicate k t = rk at *
            clear hrl
            go_wp2_with fail
            refine hfrom.mono ?_
            rintro e w5 ⟨a5, c5, rfl, hfr, hb5⟩
            have HB5 := chain HBr hb5
            obtain ⟨hcc, hff⟩ := bcell HB5
            have hz5 : w.heap.size + 1 < w5.heap.size := by have := HB5.size; simp at this; omega
            have hzr : w.heap.size + 1 < wr.heap.size := by have := HBr.size; simp at this; omega
            dsimp only at hfr ⊢
            clear hfrom
            go_wp2
            exact bodyPost_ret (by simp [results, Try.results53, go_sem, hcc, hz5]; rfl) rfl (RetB.close (r := ((rk.length : Int), pack rk, true)) hfr (by omega) hzr (h2.trans (HB5.mono (by simp; omega))) HQ.out _ _)
          · have HQ : Hid (noR = R) := by show _ = _; rw [← HR.out, if_neg (by omega)]
            have hfrom := l1From_no a4 (bs ++ List.replicate k t).length c4 wr (.inr (by omega)) (by omega)
            clear how hown hrb4 hbel HR HBS htop
            generalize bs ++ List.replicate k t = rk at *
            clear hrl
            go_wp2_with fail
            refine hfrom.mono ?_
            rintro e w5 ⟨rfl, hb5⟩
            have HB5 := chain HBr hb5
            obtain ⟨hcc, hff⟩ := bcell HB5
            have hz5 : w.heap.size + 1 < w5.heap.size := by have := HB5.size; simp at this; omega
            clear hfrom
            go_wp2
            refine bodyPost_ret (v := .tuple #[.agg #[.int .i64 0, .slice none 0 0], .bool false]) (by simp [results, Try.results53, go_sem, hcc]) rfl ?_
            rw [← HQ.out]
            exact RetB.no (((h2.trans (HB5.mono (by simp; omega))).setCell (by simp) _).setCell (by simp) _)
  · have hnR : widR W xs n sign = noR := by
      unfold widR
      rw [if_neg]
      rintro ⟨h1, h3, h4, _⟩
      exact hc ⟨h1, h3, h4⟩
    rw [hnR]
    have hcase : rightB W xs = false ∨ (rightB W xs = true ∧ decide (0 ≤ n ∧ n ≤ 4096) = false) := by
      cases hb : rightB W xs with
      | false => exact .inl rfl
      | true =>
        right
        refine ⟨rfl, ?_⟩
        by_cases h : 0 ≤ n ∧ n ≤ 4096
        · exact absurd ⟨hb, h.1, h.2⟩ hc
        · simp only [h, decide_false]
    clear hc hnR
    rcases hcase with h | ⟨h, h1⟩
    · go_enter Try.func53, Try.ntmps53
      go_wp2_with fail
      refine (specOk_any _ _ _ _ _ hr').mono ?_
      rintro e w1 ⟨rfl, hb1⟩
      obtain ⟨hcc, hff⟩ := bcell hb1
      have hz : w.heap.size + 1 < w1.heap.size := by have := hb1.size; simp at this; omega
      go_wp2_with (go_at_call 55; refine (l1In_any _ _ _ _).mono ?_; rintro e w' ⟨rfl, rfl⟩)
      exact bodyPost_ret (v := .tuple #[.agg #[.int .i64 0, .slice none 0 0], .bool false]) (by simp [results, Try.results53, go_sem, hcc]) rfl (RetB.no (((h2.trans (hb1.mono (by simp; omega))).setCell (by simp) _).setCell (by simp) _))
    · go_enter Try.func53, Try.ntmps53
      go_wp2_with fail
      refine (specOk_any _ _ _ _ _ hr').mono ?_
      rintro e w1 ⟨rfl, hb1⟩
      obtain ⟨hcc, hff⟩ := bcell hb1
      have hz : w.heap.size + 1 < w1.heap.size := by have := hb1.size; simp at this; omega
      go_wp2_with (go_at_call 55; refine (l1In_any _ _ _ _).mono ?_; rintro e w' ⟨rfl, rfl⟩)
      exact bodyPost_ret (v := .tuple #[.agg #[.int .i64 0, .slice none 0 0], .bool false]) (by simp [results, Try.results53, go_sem, hcc]) rfl (RetB.no (((h2.trans (hb1.mono (by simp; omega))).setCell (by simp) _).setCell (by simp) _))

end Go.Proofs.Ytobkemdffhhlfaa
