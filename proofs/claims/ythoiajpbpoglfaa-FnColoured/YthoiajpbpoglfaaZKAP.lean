/- Several texts in one. -/
import Derived.Test.YthoiajpbpoglfaaZKAD
import Derived.Test.YthoiajpbpoglfaaZKAK
import Derived.Deep.RegionWith

/- What the two BitsOf answer. -/
namespace Go.Proofs.Ythoiajpbpoglfaa
set_option linter.unusedVariables false
set_option linter.unusedSimpArgs false
open Go.RowKit

def nBits (n k : Nat) : List Nat := (List.range k).map fun i => n / 2 ^ i % 2
theorem nBits_len (n k : Nat) : (nBits n k).length = k := by simp [nBits]
theorem nBits_succ (n k : Nat) : nBits n (k + 1) = nBits n k ++ [n / 2 ^ k % 2] := by simp [nBits, List.range_succ]
theorem nBits_le (n k : Nat) : ∀ x ∈ nBits n k, x ≤ 1 := by
  intro x hx
  obtain ⟨i, _, rfl⟩ := List.mem_map.1 hx
  omega

def ofR (W n : Int) : Int × List Nat × Bool :=
  if 1 ≤ W ∧ W ≤ 4096 ∧ 0 ≤ n ∧ n.toNat < 2 ^ W.toNat then (W, pack (nBits n.toNat W.toNat), true) else noR

theorem div2 (m k : Nat) : m / 2 ^ k / 2 = m / 2 ^ (k + 1) := by rw [Nat.div_div_eq_div_mul, Nat.pow_succ]

set_option maxHeartbeats 1000000 in
set_option maxRecDepth 100000 in
theorem specOf_any (W n : Int) (w : World) (hn64 : n ≤ 9223372036854775807) :
    Calls Try.prog 23 #[.int .i64 W, .int .i64 n] w (RetB w (ofR W n)) := by
  have bR0 := Blk.new w (Value.int IntKind.i64 0) (Value.slice none 0 0) 48
  by_cases hc : 1 ≤ W ∧ W ≤ 4096 ∧ 0 ≤ n
  · obtain ⟨hW1, hW2, hn0⟩ := hc
    have hRR : ofR W n = if n.toNat < 2 ^ W.toNat then (W, pack (nBits n.toNat W.toNat), true) else noR := by
      unfold ofR; simp [hW1, hW2, hn0]
    rw [hRR]
    generalize hR : (if n.toNat < 2 ^ W.toNat then (W, pack (nBits n.toNat W.toNat), true) else noR) = R
    have HR : Hid ((if n.toNat < 2 ^ W.toNat then (W, pack (nBits n.toNat W.toNat), true) else noR) = R) := hR
    clear hR hRR
    obtain ⟨V, rfl⟩ := Int.eq_ofNat_of_zero_le (show 0 ≤ W by omega)
    obtain ⟨m, rfl⟩ := Int.eq_ofNat_of_zero_le hn0
    have hd : decide (1 ≤ (V : Int) ∧ (V : Int) ≤ 4096) = true := by simp; omega
    go_enter Try.func23, Try.ntmps23
    go_wp2_with (go_at_call 26; refine (l1In_any _ _ _ _).mono ?_; rintro e w' ⟨rfl, rfl⟩)
    have bR1 := bR0.alloc (Obj.cells #[] 5)
    have how := OwB.nil (w.alloc (Obj.cells #[Value.int IntKind.i64 0, Value.slice none 0 0] 48)) (w.heap.size + 1) (w.heap.size + 1) (by simp) (Nat.le_refl _)
    have B1 := Ba (Ba (Below.refl _ w) (Obj.cells #[Value.int IntKind.i64 0, Value.slice none 0 0] 48)) (Obj.cells #[] 5)
    generalize (w.alloc (Obj.cells #[Value.int IntKind.i64 0, Value.slice none 0 0] 48)).alloc (Obj.cells #[] 5) = w1 at *
    go_loopw [1, 6, 7] (fun q v i wr => ∃ k : Nat, k ≤ V ∧ i = .int .i64 k ∧ q = .int .i64 ((m / 2 ^ k : Nat) : Int) ∧ OwB wr (w.heap.size + 1) v (nBits m k) ∧ Blk wr w.heap.size (Value.int IntKind.i64 0) (Value.slice none 0 0) 48 ∧ Below w.heap.size w wr) (fun _ _ i _ => V - (intOf i).toNat)
    case atStart => exact ⟨0, Nat.zero_le _, rfl, by simp, how, bR1, B1⟩
    case round =>
      obtain ⟨k, hk, rfl, rfl, hown, bR, B⟩ := hrel
      have hml : m / 2 ^ k ≤ 9223372036854775807 := Nat.le_trans (Nat.div_le_self _ _) (by omega)
      by_cases hlt : k < V
      · have hsz := bR.lt
        have HS : Hid (nBits m (k + 1) = nBits m k ++ [m / 2 ^ k % 2]) := nBits_succ m k
        have HD : Hid (m / 2 ^ k / 2 = m / 2 ^ (k + 1)) := div2 m k
        have hll : (nBits m k).length ≤ 4194304 := by rw [nBits_len]; omega
        generalize nBits m k = rk at *
        generalize m / 2 ^ k = z at *
        clear how bR1 B1 bR0
        go_wp2_with (at_builtin; refine wpList_appB _ rfl _ _ rfl (w.heap.size + 1) _ rk (z % 2) rfl (hown.alloc _) wr.heap.size rfl (by simp) hll (by simp; omega) ?_)
        intro v' w4 hown4 hgr4
        have hne4 : ∀ k, u6.ownBlock = some k → w.heap.size + 1 ≤ k := hown.own
        have bR4 : Blk w4 w.heap.size (Value.int IntKind.i64 0) (Value.slice none 0 0) 48 := by
          unfold Blk
          rw [hgr4.block _ (by simp; omega) (fun e => by have := hne4 _ e.symm; omega)]
          exact bR.alloc _
        have B4 : Below w.heap.size w w4 := (Ba B _).grown hgr4 (by simp; omega) (fun k hk => by have := hne4 k hk; omega)
        clear hgr4 hown bR B
        go_wp2
        go_roundw
        case rel => exact ⟨k + 1, by omega, by go_num, by rw [← HD.out]; simp, by rw [HS.out]; exact hown4, bR4, B4⟩
        case measure => simp [intOf]; omega
      · have e : k = V := by omega
        subst e
        have hrl := nBits_len m k
        obtain ⟨a4, c4, rfl, hrb4, hc4, hm4⟩ := hown.shape (by rw [hrl]; omega) (fun x hx => by have := nBits_le m k x hx; omega)
        obtain ⟨r0, r1⟩ := bR.cells
        have f0 := bR.free 0
        have f1 := bR.free 1
        have hbl := bR.lt
        by_cases hlt2 : m < 2 ^ k
        · have hz : m / 2 ^ k = 0 := Nat.div_eq_of_lt hlt2
          have HQ : Hid ((((nBits m k).length : Int), pack (nBits m k), true) = R) := by
            show _ = _
            rw [← HR.out, Int.toNat_natCast, Int.toNat_natCast, if_pos hlt2, hrl]
          have hfrom := l1From_yes a4 c4 (nBits m k) wr hrb4 (by omega) (by omega)
          rw [hz]
          clear how hown hrb4 HR hz hml hlt2
          generalize nBits m k = rk at *
          clear hrl
          go_wp2_with fail
          refine hfrom.mono ?_
          rintro e w5 ⟨a5, c5, rfl, hfr, hb5⟩
          have bR5 := bR.next hb5
          have B5 := chain B hb5
          clear r0 r1 f0 f1
          obtain ⟨r0, r1⟩ := bR5.cells
          have f0 := bR5.free 0
          have f1 := bR5.free 1
          dsimp only at hfr ⊢
          clear hfrom
          go_wp2
          exact bodyPost_ret (by simp [results, Try.results23, go_sem, r0, r1]; rfl) rfl (RetB.close (r := ((rk.length : Int), pack rk, true)) hfr (Nat.le_refl _) hbl B5 HQ.out _ _)
        · have HQ : Hid (noR = R) := by show _ = _; rw [← HR.out, Int.toNat_natCast, Int.toNat_natCast, if_neg hlt2]
          have hz : 0 < m / 2 ^ k := Nat.div_pos (by omega) (Nat.two_pow_pos k)
          generalize m / 2 ^ k = z at *
          have hzi : (0 : Int) < (z : Int) := by omega
          clear how hown hrb4 HR
          go_wp2
          refine bodyPost_ret (v := .tuple #[.agg #[.int .i64 0, .slice none 0 0], .bool false]) (by simp [results, Try.results23, go_sem, r0, r1]) rfl ?_
          rw [← HQ.out]
          exact RetB.no ((B.setCell (Nat.le_refl _) _).setCell (Nat.le_refl _) _)
  · have hnR : ofR W n = noR := by
      unfold ofR
      rw [if_neg]
      rintro ⟨h1, h2, h3, _⟩
      exact hc ⟨h1, h2, h3⟩
    rw [hnR]
    have hcase : decide (1 ≤ W ∧ W ≤ 4096) = false ∨ (decide (1 ≤ W ∧ W ≤ 4096) = true ∧ n < 0) := by
      by_cases h : 1 ≤ W ∧ W ≤ 4096
      · right; exact ⟨by simp [h], by omega⟩
      · left; simp only [h, decide_false]
    clear hc hnR
    obtain ⟨r0, r1⟩ := bR0.cells
    rcases hcase with h | ⟨h, h1⟩
    all_goals
      go_enter Try.func23, Try.ntmps23
      go_wp2_with (go_at_call 26; refine (l1In_any _ _ _ _).mono ?_; rintro e w' ⟨rfl, rfl⟩)
      exact bodyPost_ret (v := .tuple #[.agg #[.int .i64 0, .slice none 0 0], .bool false]) (by simp [results, Try.results23, go_sem]) rfl (RetB.no (Ba (Below.refl _ _) _))

theorem of_pack (V m N : Nat) (h1 : 1 ≤ V) (hN : N = (V + 63) / 64) (hm : m < 18446744073709551616) (hlt : m < 2 ^ V) : (List.replicate N 0).set 0 m = pack (nBits m V) := by
  refine eq_pack (nBits_le m V) (by simp [nBits_len, hN]) (set_lt (fun x hx => by have := List.eq_of_mem_replicate hx; omega) _ _ hm) fun i hi => ?_
  rw [tb_set _ _ _ _ (by simp; omega)]
  have hd : (nBits m V).getD i 0 = if i < V then m / 2 ^ i % 2 else 0 := by
    by_cases h : i < V
    · simp [List.getD, nBits, h]
    · simp only [List.getD]; rw [List.getElem?_eq_none (by rw [nBits_len]; omega), if_neg h]; rfl
  rw [hd]
  have hbit : m.testBit i = decide ((if i < V then m / 2 ^ i % 2 else 0) = 1) := by
    by_cases h : i < V
    · rw [if_pos h, Nat.testBit_eq_decide_div_mod_eq]
    · rw [if_neg h, Nat.testBit_lt_two_pow (Nat.lt_of_lt_of_le hlt (Nat.pow_le_pow_right (by omega) (by omega)))]; simp
  rw [← hbit]
  by_cases h : i / 64 = 0
  · rw [if_pos h, show i % 64 = i by omega]
  · rw [if_neg h, tb_zero, Nat.testBit_lt_two_pow (Nat.lt_of_lt_of_le hm (show 2 ^ 64 ≤ 2 ^ i from Nat.pow_le_pow_right (by omega) (by omega)))]

set_option maxHeartbeats 1000000 in
set_option maxRecDepth 100000 in
theorem implOf_any (W n : Int) (w : World) (hn64 : n ≤ 9223372036854775807) :
    Calls Try.prog 66 #[.int .i64 W, .int .i64 n] w (RetB w (ofR W n)) := by
  have bR0 := Blk.new w (Value.int IntKind.i64 0) (Value.slice none 0 0) 48
  by_cases hc : 1 ≤ W ∧ W ≤ 4096 ∧ 0 ≤ n ∧ n.toNat < 2 ^ W.toNat
  · rw [ofR, if_pos hc]
    generalize hR : (W, pack (nBits n.toNat W.toNat), true) = R
    have HR : Hid ((W, pack (nBits n.toNat W.toNat), true) = R) := hR
    clear hR
    obtain ⟨hW1, hW2, hn0, hlt⟩ := hc
    obtain ⟨V, rfl⟩ := Int.eq_ofNat_of_zero_le (show 0 ≤ W by omega)
    obtain ⟨m, rfl⟩ := Int.eq_ofNat_of_zero_le hn0
    rw [Int.toNat_natCast, Int.toNat_natCast] at hlt
    have hw : wOk (V : Int) = true := by simp [wOk]; omega
    have hbl : Lib.bitLen m ≤ V := by
      by_cases h : V ≤ 64
      · exact Lib.bitLen_le m V h hlt
      · have := Lib.bitLen_le m 64 (Nat.le_refl _) (by omega); omega
    have hbli : ((Lib.bitLen m : Nat) : Int) ≤ (V : Int) := by omega
    have hm64 : m < 18446744073709551616 := by omega
    have HQ : Hid (((V : Int), (List.replicate ((V + 63) / 64) 0).set 0 m, true) = R) := by
      show _ = _
      rw [← HR.out, Int.toNat_natCast, Int.toNat_natCast, of_pack V m _ (by omega) rfl hm64 hlt]
    clear HR hlt hbl
    go_enter Try.func66, Try.ntmps66
    go_wp2_with (first | (go_at_call 63; refine (widthOk_any _ _).mono ?_; rintro e w' ⟨rfl, rfl⟩) | (go_at_call 79; refine (len64_any _ _ hm64).mono ?_; rintro e w' ⟨rfl, rfl⟩))
    refine (zeroBits_any V _ (by omega) (by omega)).mono ?_
    rintro e w2 ⟨g, rfl, hg, hown, hb2⟩
    have bR2 := bR0.next hb2
    have B2 := chain (Ba (Below.refl _ _) _) hb2
    have hNl : ((List.replicate ((V + 63) / 64) 0).set 0 m).length = (V + 63) / 64 := by simp
    have hN1 : 1 ≤ (V + 63) / 64 := by omega
    generalize hN : (V + 63) / 64 = N at *
    have hgl := hown.lt
    rw [World.size_alloc] at hg
    have hc0 := (hown.alloc (Obj.cells #[Value.int IntKind.i64 V, Value.slice (some ⟨g, 0, none⟩) N N] 48)).cell (i := 0) (by simp; omega)
    have hf0 := (hown.alloc (Obj.cells #[Value.int IntKind.i64 V, Value.slice (some ⟨g, 0, none⟩) N N] 48)).free 0
    have HO : Hid _ := (hown.put 0 m)
    have hN1i : (0 : Int) < (N : Int) := by omega
    have hne : ¬ g = w2.heap.size := by omega
    generalize (List.replicate N 0).getD 0 0 = z at *
    have cg : w2.cell? ⟨g, 0, none⟩ = some (.int .u64 (z : Int)) := by rw [acell _ _ _ hgl] at hc0; exact hc0
    have fg : w2.frozen? ⟨g, 0, none⟩ = false := by rw [afree _ _ _ hgl] at hf0; exact hf0
    have b0 := bR2.lt
    clear hN hb2 hc0 hf0 hown
    obtain ⟨r0, r1⟩ := bR2.cells
    have f0 := bR2.free 0
    have f1 := bR2.free 1
    have hgw : ¬ w.heap.size = g := by omega
    go_wp2
    refine bodyPost_ret (v := .tuple #[.agg #[.int .i64 V, .slice (some ⟨g, 0, none⟩) N N], .bool true]) (by simp [results, Try.results66, go_sem, r0, r1, b0, hgw]) rfl ?_
    rw [← HQ.out]
    refine ⟨some ⟨g, 0, none⟩, N, by rw [hNl], .inr ⟨g, rfl, by omega, ?_⟩, Ba (((B2.setCell (by simp; omega) _).setCell (Nat.le_refl _) _).setCell (Nat.le_refl _) _) _⟩
    exact ((Own.other HO.out (a := ⟨w.heap.size, 0, none⟩) (by simp; omega) _).other (a := ⟨w.heap.size, 1, none⟩) (by simp; omega) _).alloc _
  · rw [ofR, if_neg hc]
    have hcase : wOk W = false ∨ (wOk W = true ∧ n < 0) ∨ (wOk W = true ∧ 0 ≤ n ∧ ¬ n.toNat < 2 ^ W.toNat) := by
      by_cases h : 1 ≤ W ∧ W ≤ 4096
      · right
        by_cases h0 : 0 ≤ n
        · right
          refine ⟨by simp only [wOk, h]; rfl, h0, fun h3 => hc ⟨h.1, h.2, h0, h3⟩⟩
        · left; exact ⟨by simp only [wOk, h]; rfl, by omega⟩
      · left; simp only [wOk, h, decide_false]
    clear hc
    rcases hcase with h | ⟨h, h1⟩ | ⟨h, h1, h3⟩
    · go_enter Try.func66, Try.ntmps66
      go_wp2_with (go_at_call 63; refine (widthOk_any _ _).mono ?_; rintro e w' ⟨rfl, rfl⟩)
      exact bodyPost_ret (v := .tuple #[.agg #[.int .i64 0, .slice none 0 0], .bool false]) (by simp [results, Try.results66, go_sem]) rfl (RetB.no (Ba (Below.refl _ _) _))
    · go_enter Try.func66, Try.ntmps66
      go_wp2_with (go_at_call 63; refine (widthOk_any _ _).mono ?_; rintro e w' ⟨rfl, rfl⟩)
      exact bodyPost_ret (v := .tuple #[.agg #[.int .i64 0, .slice none 0 0], .bool false]) (by simp [results, Try.results66, go_sem]) rfl (RetB.no (Ba (Below.refl _ _) _))
    · have hW : 1 ≤ W ∧ W ≤ 4096 := by simpa [wOk] using h
      obtain ⟨V, rfl⟩ := Int.eq_ofNat_of_zero_le (show 0 ≤ W by omega)
      obtain ⟨m, rfl⟩ := Int.eq_ofNat_of_zero_le h1
      rw [Int.toNat_natCast, Int.toNat_natCast] at h3
      have hm64 : m < 18446744073709551616 := by omega
      have hV64 : V < 64 := by
        rcases Nat.lt_or_ge V 64 with h' | h'
        · exact h'
        · have : 2 ^ 64 ≤ 2 ^ V := Nat.pow_le_pow_right (by omega) h'
          omega
      have hbl : V < Lib.bitLen m := by
        rcases Nat.lt_or_ge V (Lib.bitLen m) with h' | h'
        · exact h'
        · exact absurd ((bl_le m V (by omega) hm64).1 h') h3
      have hbli : (V : Int) < ((Lib.bitLen m : Nat) : Int) := by omega
      clear h3 hbl
      go_enter Try.func66, Try.ntmps66
      go_wp2_with (first | (go_at_call 63; refine (widthOk_any _ _).mono ?_; rintro e w' ⟨rfl, rfl⟩) | (go_at_call 79; refine (len64_any _ _ hm64).mono ?_; rintro e w' ⟨rfl, rfl⟩))
      exact bodyPost_ret (v := .tuple #[.agg #[.int .i64 0, .slice none 0 0], .bool false]) (by simp [results, Try.results66, go_sem]) rfl (RetB.no (Ba (Below.refl _ _) _))

end Go.Proofs.Ythoiajpbpoglfaa

/- What the two NextBits answer. -/
namespace Go.Proofs.Ythoiajpbpoglfaa
set_option linter.unusedVariables false
set_option linter.unusedSimpArgs false
open Go.RowKit

set_option maxHeartbeats 1000000 in
set_option maxRecDepth 100000 in
theorem specNext_any (W : Int) (a : Option Addr) (c : Nat) (xs : List Nat) (w : World) (hr : Rd w a xs) :
    Calls Try.prog 30 #[.agg #[.int .i64 W, .slice a xs.length c]] w (RetB w (nextR W xs)) := by
  have h2 : Below w.heap.size w ((w.alloc (Obj.cells #[Value.int IntKind.i64 W, Value.slice a xs.length c] 48)).alloc (Obj.cells #[Value.int IntKind.i64 0, Value.slice none 0 0] 48)) := ((Below.refl _ _).alloc (Nat.le_refl _) _).alloc (by simp) _
  have hr' := hr.later h2
  by_cases hok : rightB W xs = true
  · have hRR : nextR W xs = if fz xs W.toNat < W.toNat then (W, pack (nxtList (bitsTo xs W.toNat) (fz xs W.toNat)), true) else noR := by unfold nextR; simp [hok]
    rw [hRR]
    generalize hR : (if fz xs W.toNat < W.toNat then (W, pack (nxtList (bitsTo xs W.toNat) (fz xs W.toNat)), true) else noR) = R
    have HR : Hid ((if fz xs W.toNat < W.toNat then (W, pack (nxtList (bitsTo xs W.toNat) (fz xs W.toNat)), true) else noR) = R) := hR
    clear hR hRR
    obtain ⟨hW1, hW2, hWl⟩ := right_W hok
    obtain ⟨V, rfl⟩ := Int.eq_ofNat_of_zero_le (show 0 ≤ W by omega)
    have hVl : V ≤ 64 * xs.length := by omega
    clear hWl
    have bR0 := Blk.new1 w (Obj.cells #[Value.int IntKind.i64 V, Value.slice a xs.length c] 48) (Value.int IntKind.i64 0) (Value.slice none 0 0) 48
    have bA0 := (Blk.new w (Value.int IntKind.i64 V) (Value.slice a xs.length c) 48).alloc (Obj.cells #[Value.int IntKind.i64 0, Value.slice none 0 0] 48)
    go_enter Try.func30, Try.ntmps30
    go_wp2_with fail
    refine (specOk_any _ _ _ _ _ hr').mono ?_
    rintro e w1 ⟨rfl, hb1⟩
    have hr1 := hr'.later hb1
    have B1 := h2.trans (hb1.mono (by simp; omega))
    have bR1 := bR0.next hb1
    have bA1 := bA0.next hb1
    obtain ⟨c0, c1⟩ := bA1.cells
    clear hb1 bR0 bA0
    go_wp2_with fail
    refine (l1List_any _ _ _ _ _ hr1 hVl (by omega)).mono ?_
    rintro e w2 ⟨v, rfl, how, hb2⟩
    have hlen := bitsTo_len xs V
    have hle := bitsTo_le xs V
    have hbit : ∀ k, k < V → (bitsTo xs V).getD k 0 = (tb xs k).toNat := fun k hk => by simp [List.getD, bitsTo, hk]
    obtain ⟨g, cap, rfl, hg, hgl, hcap⟩ := how.block (by omega)
    have B2 := chain B1 hb2
    have bR2 := bR1.next hb2
    have s2 := hb2.size
    have hRl := bR1.lt
    generalize hbs : bitsTo xs V = bs at *
    have HBS : Hid (bitsTo xs V = bs) := hbs
    clear hbs hb2 hr hr' hr1 B1 bR1 bA1 c0 c1 h2
    rw [hlen]
    rw [hlen] at how
    go_wp2_with fail
    go_loopw [5] (fun i wr => ∃ k : Nat, k ≤ V ∧ i = .int .i64 k ∧ OwB wr (w1.heap.size + 1) (.slice (some ⟨g, 0, none⟩) V cap) (List.replicate k 0 ++ bs.drop k) ∧ (∀ j, j < k → tb xs j = true) ∧ Blk wr (w.heap.size + 1) (Value.int IntKind.i64 0) (Value.slice none 0 0) 48 ∧ Below w.heap.size w wr ∧ wr.heap.size = w2.heap.size) (fun i _ => V - (intOf i).toNat)
    case atStart => exact ⟨0, Nat.zero_le _, rfl, by simpa using how, fun j hj => by omega, bR2, B2, rfl⟩
    case round =>
      obtain ⟨k, hk, rfl, hown, hall, bR, B, hsz⟩ := hrel
      have HALL : Hid _ := hall
      clear hall
      obtain ⟨r0, r1⟩ := bR.cells
      have f0 := bR.free 0
      have f1 := bR.free 1
      by_cases hlt : k < V
      · have hl1 : (List.replicate k 0 ++ bs.drop k).length = V := by simp [hlen]; omega
        have hown' : OwB wr (w1.heap.size + 1) (.slice (some ⟨g, 0, none⟩) (List.replicate k 0 ++ bs.drop k).length cap) (List.replicate k 0 ++ bs.drop k) := by rw [hl1]; exact hown
        have hcell := hown'.cellAt k (by omega)
        have hfree := hown'.freeAt k
        have hgd : (List.replicate k 0 ++ bs.drop k).getD k 0 = (tb xs k).toNat := by
          rw [← hbit k hlt]
          simp only [List.getD]
          rw [List.getElem?_append_right (by simp)]
          simp
        rw [hgd] at hcell
        have hki : (k : Int) < (V : Int) := by omega
        have hneR : ¬ w.heap.size + 1 = g := by omega
        cases ht : tb xs k with
        | true =>
          rw [ht] at hcell
          have hst := hown'.put k 0
          rw [hl1, flip_set bs k 0 (by omega)] at hst
          have HST : Hid _ := hst
          have bR4 : Blk (wr.setCell ⟨g, k, none⟩ (.int .u8 ((0 : Nat) : Int))) (w.heap.size + 1) (Value.int IntKind.i64 0) (Value.slice none 0 0) 48 := by
            unfold Blk; rw [heap_setCell_other _ _ _ _ (by simpa using hneR)]; exact bR
          clear hst hown hown' hgd hl1 r0 r1 f0 f1 bR how bR2
          go_wp2
          go_roundw
          case rel =>
            refine ⟨k + 1, by omega, by go_num, ?_, fun j hj => ?_, bR4, B.setCell (by simp; omega) _, by simpa using hsz⟩
            · have h := HST.out
              rw [List.replicate_succ', List.append_assoc]
              exact h
            · by_cases e : j = k
              · rw [e]; exact ht
              · exact HALL.out j (by omega)
          case measure => simp [intOf]; omega
        | false =>
          rw [ht] at hcell
          have hst : OwB (wr.setCell ⟨g, k, none⟩ (.int .u8 1)) (w1.heap.size + 1) (.slice (some ⟨g, 0, none⟩) (List.replicate k 0 ++ bs.drop k).length cap) ((List.replicate k 0 ++ bs.drop k).set k 1) := hown'.put k 1
          rw [hl1, flip_set bs k 1 (by omega)] at hst
          have hl2 : (List.replicate k 0 ++ 1 :: bs.drop (k + 1)).length = V := by simp [hlen]; omega
          have hfz : fz xs V = k := fzFrom_eq xs V 0 k (Nat.zero_le _) (by omega) (fun j _ hj => HALL.out j hj) ht
          have HQ : Hid (((V : Int), pack (List.replicate k 0 ++ 1 :: bs.drop (k + 1)), true) = R) := by
            show _ = _
            rw [← HR.out, Int.toNat_natCast, hfz, if_pos hlt, HBS.out]
            rfl
          have hst' : OwB (wr.setCell ⟨g, k, none⟩ (.int .u8 1)) (w1.heap.size + 1) (.slice (some ⟨g, 0, none⟩) (List.replicate k 0 ++ 1 :: bs.drop (k + 1)).length cap) (List.replicate k 0 ++ 1 :: bs.drop (k + 1)) := by rw [hl2]; exact hst
          obtain ⟨a5, c5, hv5, hrb5, _, _⟩ := hst'.shape (by omega) (fun x hx => by
            rcases List.mem_append.1 hx with h | h
            · have := List.eq_of_mem_replicate h; omega
            · rcases List.mem_cons.1 h with h | h
              · omega
              · have := hle x (List.mem_of_mem_drop h); omega)
          have hfrom := l1From_yes a5 c5 _ _ hrb5 (by omega) (by omega)
          rw [← hv5, hl2] at hfrom
          have bR4 : Blk (wr.setCell ⟨g, k, none⟩ (.int .u8 1)) (w.heap.size + 1) (Value.int IntKind.i64 0) (Value.slice none 0 0) 48 := by
            unfold Blk; rw [heap_setCell_other _ _ _ _ (by simpa using hneR)]; exact bR
          have B4 : Below w.heap.size w (wr.setCell ⟨g, k, none⟩ (.int .u8 1)) := B.setCell (by simp; omega) _
          clear hst hst' hown hown' hgd hl1 how bR2 hv5 hrb5 HR HBS
          generalize List.replicate k 0 ++ 1 :: bs.drop (k + 1) = rk at *
          go_wp2_with fail
          refine hfrom.mono ?_
          rintro e w5 ⟨a6, c6, rfl, hfr, hb5⟩
          have bR5 := bR4.next hb5
          have B5 := chain B4 hb5
          have hzr : w.heap.size + 1 < (wr.setCell ⟨g, k, none⟩ (.int .u8 1)).heap.size := bR4.lt
          clear r0 r1 f0 f1 bR
          obtain ⟨r0, r1⟩ := bR5.cells
          have f0 := bR5.free 0
          have f1 := bR5.free 1
          dsimp only at hfr ⊢
          clear hfrom
          go_wp2
          exact bodyPost_ret (by simp [results, Try.results30, go_sem, r0, r1]; rfl) rfl (RetB.close (r := ((V : Int), pack rk, true)) hfr (by omega) hzr B5 HQ.out _ _)
      · have e : k = V := by omega
        subst e
        have hfz : fz xs k = k := by
          have := fzFrom_all xs k 0 (fun j _ hj => HALL.out j (by omega))
          unfold fz; omega
        have HQ : Hid (noR = R) := by show _ = _; rw [← HR.out, Int.toNat_natCast, hfz, if_neg (by omega)]
        clear hown how HR HBS
        go_wp2
        refine bodyPost_ret (v := .tuple #[.agg #[.int .i64 0, .slice none 0 0], .bool false]) (by simp [results, Try.results30, go_sem, r0, r1]) rfl ?_
        rw [← HQ.out]
        exact RetB.no ((B.setCell (by simp) _).setCell (by simp) _)
  · have hf : rightB W xs = false := by simpa using hok
    have hnR : nextR W xs = noR := by unfold nextR; simp [hf]
    rw [hnR]
    go_enter Try.func30, Try.ntmps30
    go_wp2_with fail
    refine (specOk_any _ _ _ _ _ hr').mono ?_
    rintro e w1 ⟨rfl, hb1⟩
    obtain ⟨hcc, hff⟩ := bcell hb1
    have hz : w.heap.size + 1 < w1.heap.size := by have := hb1.size; simp at this; omega
    go_wp2
    exact bodyPost_ret (v := .tuple #[.agg #[.int .i64 0, .slice none 0 0], .bool false]) (by simp [results, Try.results30, go_sem, hcc]) rfl (RetB.no (((h2.trans (hb1.mono (by simp; omega))).setCell (by simp) _).setCell (by simp) _))

theorem undrew2 {w w' : World} (h : Below w.drew.heap.size w.drew w') : Below w.heap.size w w' := ⟨h.os, h.tape, h.output, h.size, h.block⟩

end Go.Proofs.Ythoiajpbpoglfaa
