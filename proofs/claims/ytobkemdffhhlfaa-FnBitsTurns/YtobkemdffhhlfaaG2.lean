/- What the program's JoinBits answers. -/
import Derived.Test.YtobkemdffhhlfaaG1
namespace Go.Proofs.Ytobkemdffhhlfaa
set_option linter.unusedVariables false
set_option linter.unusedSimpArgs false
open Go.RowKit

theorem join_pack {P q : Nat} {xs ys : List Nat} (hx : rightB P xs = true) (hy : rightB q ys = true) (zs : List Nat) (hl : zs.length = (q + P + 63) / 64) (hz : ∀ x ∈ zs, x < 18446744073709551616)
    (h : ∀ j, j < 64 * zs.length → tb zs j = (tb ys j || (decide (q ≤ j) && tb xs (j - q)))) : zs = pack (bitsTo ys q ++ bitsTo xs P) := by
  refine eq_pack (fun x hxm => ?_) (by simp [hl, bitsTo_len]) hz fun i hi => ?_
  · rcases List.mem_append.1 hxm with h | h
    · exact bitsTo_le ys q x h
    · exact bitsTo_le xs P x h
  · rw [h i hi]
    by_cases h1 : i < q
    · have e : (bitsTo ys q ++ bitsTo xs P).getD i 0 = (tb ys i).toNat := by
        simp only [List.getD]
        rw [List.getElem?_append_left (by rw [bitsTo_len]; exact h1)]
        simp [bitsTo, h1]
      rw [e]
      simp [show ¬ q ≤ i by omega]
    · rw [tb_out hy i (by omega)]
      by_cases h2 : i - q < P
      · have e : (bitsTo ys q ++ bitsTo xs P).getD i 0 = (tb xs (i - q)).toNat := by
          simp only [List.getD]
          rw [List.getElem?_append_right (by rw [bitsTo_len]; omega), bitsTo_len]
          simp [bitsTo, h2]
        rw [e]
        simp [show q ≤ i by omega]
      · have e : (bitsTo ys q ++ bitsTo xs P).getD i 0 = 0 := by
          simp only [List.getD]
          rw [List.getElem?_eq_none (by simp [bitsTo_len]; omega)]
          rfl
        rw [e, tb_out hx (i - q) (by omega)]
        simp

set_option maxHeartbeats 2000000 in
set_option maxRecDepth 100000 in
theorem implJoin_any (W : Int) (a : Option Addr) (c : Nat) (xs : List Nat) (V : Int) (b : Option Addr) (d : Nat) (ys : List Nat) (w : World) (hr : Rd w a xs) (hs : Rd w b ys) :
    Calls Try.prog 30 #[.agg #[.int .i64 W, .slice a xs.length c], .agg #[.int .i64 V, .slice b ys.length d]] w (RetB w (joinR W xs V ys)) := by
  have h3 : Below w.heap.size w (((w.alloc (Obj.cells #[Value.int IntKind.i64 W, Value.slice a xs.length c] 26)).alloc (Obj.cells #[Value.int IntKind.i64 V, Value.slice b ys.length d] 26)).alloc (Obj.cells #[Value.int IntKind.i64 0, Value.slice none 0 0] 26)) := Ba (Ba (Ba (Below.refl _ _) _) _) _
  have hr' := hr.later h3
  have hs' := hs.later h3
  have bR0 := Blk.new2 w (Obj.cells #[Value.int IntKind.i64 W, Value.slice a xs.length c] 26) (Obj.cells #[Value.int IntKind.i64 V, Value.slice b ys.length d] 26) (Value.int IntKind.i64 0) (Value.slice none 0 0) 26
  have bB0 := (Blk.new1 w (Obj.cells #[Value.int IntKind.i64 W, Value.slice a xs.length c] 26) (Value.int IntKind.i64 V) (Value.slice b ys.length d) 26).alloc (Obj.cells #[Value.int IntKind.i64 0, Value.slice none 0 0] 26)
  have bA0 := ((Blk.new w (Value.int IntKind.i64 W) (Value.slice a xs.length c) 26).alloc (Obj.cells #[Value.int IntKind.i64 V, Value.slice b ys.length d] 26)).alloc (Obj.cells #[Value.int IntKind.i64 0, Value.slice none 0 0] 26)
  have hOk : ∀ (W : Int) (a : Option Addr) (c : Nat) (xs : List Nat) (u : World) (r : Bool), rightB W xs = r → Rd u a xs → Calls Try.prog 28 #[.agg #[.int .i64 W, .slice a xs.length c]] u fun e w' => e = .returned (.bool r) ∧ Below u.heap.size u w' := fun W a c xs u r h hu => by
    have := implOk_any W a c xs u hu
    rwa [h] at this
  have HOK : Hid _ := hOk
  clear hOk
  cases hoa : rightB W xs with
  | false =>
    have hc : joinR W xs V ys = noR := by unfold joinR; simp [hoa]
    rw [hc]
    go_enter Try.func30, Try.ntmps30
    go_wp2_with fail
    refine (HOK.out _ _ _ _ _ _ hoa hr').mono ?_
    rintro e w3 ⟨rfl, hb3⟩
    have B3 := chain h3 hb3
    have bR3 := bR0.next hb3
    obtain ⟨r0, r1⟩ := bR3.cells
    have f0 := bR3.free 0
    have f1 := bR3.free 1
    go_wp2
    exact bodyPost_ret (v := .tuple #[.agg #[.int .i64 0, .slice none 0 0], .bool false]) (by simp [results, Try.results30, go_sem, r0, r1]) rfl (RetB.no ((B3.setCell (by simp; omega) _).setCell (by simp; omega) _))
  | true =>
    obtain ⟨c0, c1⟩ := bA0.cells
    obtain ⟨d0, d1⟩ := bB0.cells
    cases hob : rightB V ys with
    | false =>
      have hc : joinR W xs V ys = noR := by unfold joinR; simp [hob]
      rw [hc]
      go_enter Try.func30, Try.ntmps30
      go_wp2_with fail
      refine (HOK.out _ _ _ _ _ _ hoa hr').mono ?_
      rintro e w3 ⟨rfl, hb3⟩
      have B3 := chain h3 hb3
      have bB3 := bB0.next hb3
      obtain ⟨l0, l1⟩ := bB3.cells
      go_wp2_with fail
      refine (HOK.out _ _ _ _ _ _ hob (hs'.later hb3)).mono ?_
      rintro e w4 ⟨rfl, hb4⟩
      have B4 := chain B3 hb4
      have bR4 := (bR0.next hb3).next hb4
      obtain ⟨r0, r1⟩ := bR4.cells
      have f0 := bR4.free 0
      have f1 := bR4.free 1
      go_wp2
      exact bodyPost_ret (v := .tuple #[.agg #[.int .i64 0, .slice none 0 0], .bool false]) (by simp [results, Try.results30, go_sem, r0, r1]) rfl (RetB.no ((B4.setCell (by simp; omega) _).setCell (by simp; omega) _))
    | true =>
      have hc : joinR W xs V ys = fromR (joinL W xs V ys) := by unfold joinR; simp [hoa, hob]
      rw [hc]
      clear hc
      obtain ⟨hW1, hW2, hWl⟩ := right_W hoa
      obtain ⟨hV1, hV2, hVl⟩ := right_W hob
      obtain ⟨P, rfl⟩ := Int.eq_ofNat_of_zero_le (show 0 ≤ W by omega)
      obtain ⟨q, rfl⟩ := Int.eq_ofNat_of_zero_le (show 0 ≤ V by omega)
      have hxx := hr.2.1
      have hyy := hs.2.1
      have hx64 : xs.length ≤ 64 := by omega
      have hy64 : ys.length ≤ 64 := by omega
      have hab := hr.lt (by omega)
      have hbb := hs.lt (by omega)
      clear hWl hVl
      generalize hR : fromR (joinL (P : Int) xs (q : Int) ys) = R
      have HR : Hid (fromR (bitsTo ys q ++ bitsTo xs P) = R) := hR
      clear hR
      go_enter Try.func30, Try.ntmps30
      go_wp2_with fail
      refine (HOK.out _ _ _ _ _ _ hoa hr').mono ?_
      rintro e w3 ⟨rfl, hb3⟩
      have B3 := chain h3 hb3
      have bB3 := bB0.next hb3
      obtain ⟨l0, l1⟩ := bB3.cells
      go_wp2_with fail
      refine (HOK.out _ _ _ _ _ _ hob (hs'.later hb3)).mono ?_
      rintro e w4 ⟨rfl, hb4⟩
      have B4 := chain B3 hb4
      have bA4 := (bA0.next hb3).next hb4
      have bB4 := (bB0.next hb3).next hb4
      have bR4 := (bR0.next hb3).next hb4
      clear hb3 hb4 B3 bB3 l0 l1 c0 c1 d0 d1 bA0 bB0 bR0 h3 hr' hs' HOK
      obtain ⟨k0, k1⟩ := bA4.cells
      obtain ⟨l0, l1⟩ := bB4.cells
      by_cases hPq : (P : Int) + q ≤ 4096
      · go_wp2_with fail
        rw [← Int.natCast_add]
        generalize hq : P + q = m at *
        refine (zeroBits_any m _ (by omega) (by omega)).mono ?_
        rintro e w5 ⟨g, rfl, hg, hown, hb5⟩
        generalize hN : (m + 63) / 64 = N at *
        have HN : Hid ((m + 63) / 64 = N) := hN
        have Hq : Hid (P + q = m) := hq
        have hm1 : 1 ≤ m := by omega
        have hm2 : m ≤ 4096 := by omega
        have hN64 : N ≤ 64 := by omega
        have hfit : m ≤ 64 * N := by omega
        have B5 := chain B4 hb5
        have bA5 := bA4.next hb5
        have bB5 := bB4.next hb5
        have bR5 := bR4.next hb5
        have hgr := bR4.lt
        have hgl := hown.lt
        clear hN hq hb5 B4 bA4 bB4 bR4 k0 k1 l0 l1
        obtain ⟨l0, l1⟩ := bB5.cells
        have hlR := bR5.lt
        have hlB := bB5.lt
        have hlA := bA5.lt
        go_wp2_with fail
        have hput := putBits_any (m : Int) (q : Int) g N d 0 b (List.replicate N 0) ys _ (hown.alloc (Obj.cells #[Value.int IntKind.i64 m, Value.slice (some ⟨g, 0, none⟩) N N] 26)) (hs.later (Ba B5 _)) (fun x hx => by have := List.eq_of_mem_replicate hx; omega) (by omega) (by simp; omega) hy64 (by rw [List.length_replicate]; exact put_fit hob hyy 0 N (by have := Hq.out; omega)) (fun x hx => by have := hbb x hx; omega)
        rw [List.length_replicate] at hput
        refine hput.mono ?_
        rintro e w6 ⟨rfl, hown6, hgr6⟩
        have bO3 := Blk.new w5 (Value.int IntKind.i64 m) (Value.slice (some ⟨g, 0, none⟩) N N) 26
        have bA3 := bA5.alloc (Obj.cells #[Value.int IntKind.i64 m, Value.slice (some ⟨g, 0, none⟩) N N] 26)
        have bB3 := bB5.alloc (Obj.cells #[Value.int IntKind.i64 m, Value.slice (some ⟨g, 0, none⟩) N N] 26)
        have bR3 := bR5.alloc (Obj.cells #[Value.int IntKind.i64 m, Value.slice (some ⟨g, 0, none⟩) N N] 26)
        have B3 := Ba B5 (Obj.cells #[Value.int IntKind.i64 m, Value.slice (some ⟨g, 0, none⟩) N N] 26)
        have ho3 := hown.alloc (Obj.cells #[Value.int IntKind.i64 m, Value.slice (some ⟨g, 0, none⟩) N N] 26)
        have f3 := ho3.fr (Nat.le_refl g)
        have m6 : Marked _ w6 (some ⟨g, 0, none⟩) := hgr6
        have bO6 := bO3.mark f3 m6 (by decide)
        have bA6 := bA3.mark f3 m6 (by decide)
        have bB6 := bB3.mark f3 m6 (by decide)
        have bR6 := bR3.mark f3 m6 (by decide)
        have B6 := m6.below f3 B3 (by omega)
        have hlen6 : (putTo (List.replicate N 0) ys (0 / 64) (0 % 64) ys.length).length = N := by rw [putTo_len, List.length_replicate]
        have hlt6 := putTo_lt (List.replicate N 0) ys (0 / 64) (0 % 64) ys.length (fun x hx => by have := List.eq_of_mem_replicate hx; omega) hyy
        have htb6 : ∀ j, tb (putTo (List.replicate N 0) ys (0 / 64) (0 % 64) ys.length) j = tb ys j := fun j => by
          rw [tb_put_right hob hyy _ 0 (by have := Hq.out; simp; omega), tb_zero]; simp
        generalize putTo (List.replicate N 0) ys (0 / 64) (0 % 64) ys.length = y6 at *
        have HL6 : Hid (y6.length = N) := hlen6
        clear hput bO3 bA3 bB3 bR3 B3 ho3 f3 m6 hgr6 B5 bA5 bB5 bR5 hown l0 l1 hlen6
        obtain ⟨k0, k1⟩ := bA6.cells
        obtain ⟨l0, l1⟩ := bB6.cells
        obtain ⟨o0, o1⟩ := bO6.cells
        go_wp2_with fail
        have hput := putBits_any (m : Int) (P : Int) g N c q a y6 xs w6 hown6 (hr.later B6) hlt6 (by omega) (by rw [HL6.out]; exact hN64) hx64 (by rw [HL6.out]; exact put_fit hoa hxx q N (by have := Hq.out; omega)) (fun x hx => by have := hab x hx; omega)
        rw [HL6.out] at hput
        refine hput.mono ?_
        rintro e w7 ⟨rfl, hown7, hgr7⟩
        have f6 := hown6.fr (Nat.le_refl g)
        have m7 : Marked w6 w7 (some ⟨g, 0, none⟩) := hgr7
        have bO7 := bO6.mark f6 m7 (by decide)
        have bR7 := bR6.mark f6 m7 (by decide)
        have B7 := m7.below f6 B6 (by omega)
        have HL7 : Hid ((putTo y6 xs (q / 64) (q % 64) xs.length).length = N) := by show _ = _; rw [putTo_len, HL6.out]
        have HQ : Hid (((m : Int), putTo y6 xs (q / 64) (q % 64) xs.length, true) = R) := by
          show _ = _
          have hln : (bitsTo ys q ++ bitsTo xs P).length = m := by rw [List.length_append, bitsTo_len, bitsTo_len, ← Hq.out]; omega
          rw [← HR.out, fromR, if_pos (by rw [hln]; exact ⟨hm1, hm2⟩), hln]
          congr 2
          refine join_pack hoa hob _ (by rw [HL7.out, ← HN.out, ← Hq.out, Nat.add_comm P q]) (putTo_lt _ _ _ _ _ hlt6 hxx) fun j hj => ?_
          rw [tb_put_right hoa hxx y6 q (by rw [HL6.out]; have := Hq.out; omega), htb6 j]
        generalize putTo y6 xs (q / 64) (q % 64) xs.length = y7 at *
        clear hput HR hlt6 htb6 bA6 bB6 bO6 bR6 f6 m7 hgr7 hown6 k0 k1 l0 l1 o0 o1 B6
        obtain ⟨o0, o1⟩ := bO7.cells
        obtain ⟨r0, r1⟩ := bR7.cells
        have fr0 := bR7.free 0
        have fr1 := bR7.free 1
        clear bO7 bR7
        go_wp2
        have hm := RetB.made (w := w) (r := ((m : Int), y7, true)) (c := N) hown7 (by omega) (β := w.heap.size + 1 + 1) (by omega) (by omega) B7 HQ.out (Value.int IntKind.i64 m) (Value.slice (some ⟨g, 0, none⟩) N N)
        dsimp only at hm
        rw [HL7.out] at hm
        exact bodyPost_ret (by simp [results, Try.results30, go_sem, r0, r1]) rfl hm
      · have HQ : Hid (noR = R) := by
          show _ = _
          rw [← HR.out, fromR, if_neg (by simp only [List.length_append, bitsTo_len]; omega)]
          rfl
        obtain ⟨r0, r1⟩ := bR4.cells
        have f0 := bR4.free 0
        have f1 := bR4.free 1
        clear HR
        go_wp2
        refine bodyPost_ret (v := .tuple #[.agg #[.int .i64 0, .slice none 0 0], .bool false]) (by simp [results, Try.results30, go_sem, r0, r1]) rfl ?_
        rw [← HQ.out]
        exact RetB.no ((B4.setCell (by simp; omega) _).setCell (by simp; omega) _)

end Go.Proofs.Ytobkemdffhhlfaa
