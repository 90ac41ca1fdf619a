/- Several texts in one. -/
import Derived.Test.YtdlmgndmfphneaaGreatDoorZGAN

/- What the program's JoinBits answers. -/
namespace Go.Proofs.YtdlmgndmfphneaaGreatDoor
set_option linter.unusedVariables false
set_option linter.unusedSimpArgs false
open Go.RowKit

theorem join_pack {P q : Nat} {xs ys : List Nat} (hx : rightB P xs = true) (hy : rightB q ys = true) (zs : List Nat) (hl : zs.length = (q + P + 63) / 64) (hz : ∀ x ∈ zs, x < 18446744073709551616)
    (h : ∀ j, j < 64 * zs.length → tb zs j = (tb ys j || (decide (q ≤ j) && tb xs (j - q)))) : zs = pack (bitsTo ys q ++ bitsTo xs P) := by
  refine eq_pack (fun x hxm => ?_) (by simp [hl, bitsTo_len]) hz fun i hi => ?_
  · rcases List.mem_append.1 hxm with h | h
    · exact bitsTo_le ys q x h
    · exact bitsTo_le xs P x h
  · rw [h i hi]
    by_cases h1 : i < q
    · have e : (bitsTo ys q ++ bitsTo xs P).getD i 0 = (tb ys i).toNat := by
        simp only [List.getD]
        rw [List.getElem?_append_left (by rw [bitsTo_len]; exact h1)]
        simp [bitsTo, h1]
      rw [e]
      simp [show ¬ q ≤ i by omega]
    · rw [tb_out hy i (by omega)]
      by_cases h2 : i - q < P
      · have e : (bitsTo ys q ++ bitsTo xs P).getD i 0 = (tb xs (i - q)).toNat := by
          simp only [List.getD]
          rw [List.getElem?_append_right (by rw [bitsTo_len]; omega), bitsTo_len]
          simp [bitsTo, h2]
        rw [e]
        simp [show q ≤ i by omega]
      · have e : (bitsTo ys q ++ bitsTo xs P).getD i 0 = 0 := by
          simp only [List.getD]
          rw [List.getElem?_eq_none (by simp [bitsTo_len]; omega)]
          rfl
        rw [e, tb_out hx (i - q) (by omega)]
        simp

set_option maxHeartbeats 2000000 in
set_option maxRecDepth 100000 in
theorem implJoin_any (W : Int) (a : Option Addr) (c : Nat) (xs : List Nat) (V : Int) (b : Option Addr) (d : Nat) (ys : List Nat) (w : World) (hr : Rd w a xs) (hs : Rd w b ys) :
    Calls Tryz.prog 162 #[.agg #[.int .i64 W, .slice a xs.length c], .agg #[.int .i64 V, .slice b ys.length d]] w (RetB w (joinR W xs V ys)) := by
  have h3 : Below w.heap.size w (((w.alloc (Obj.cells #[Value.int IntKind.i64 W, Value.slice a xs.length c] 61)).alloc (Obj.cells #[Value.int IntKind.i64 V, Value.slice b ys.length d] 61)).alloc (Obj.cells #[Value.int IntKind.i64 0, Value.slice none 0 0] 61)) := Ba (Ba (Ba (Below.refl _ _) _) _) _
  have hr' := hr.later h3
  have hs' := hs.later h3
  have bR0 := Blk.new2 w (Obj.cells #[Value.int IntKind.i64 W, Value.slice a xs.length c] 61) (Obj.cells #[Value.int IntKind.i64 V, Value.slice b ys.length d] 61) (Value.int IntKind.i64 0) (Value.slice none 0 0) 61
  have bB0 := (Blk.new1 w (Obj.cells #[Value.int IntKind.i64 W, Value.slice a xs.length c] 61) (Value.int IntKind.i64 V) (Value.slice b ys.length d) 61).alloc (Obj.cells #[Value.int IntKind.i64 0, Value.slice none 0 0] 61)
  have bA0 := ((Blk.new w (Value.int IntKind.i64 W) (Value.slice a xs.length c) 61).alloc (Obj.cells #[Value.int IntKind.i64 V, Value.slice b ys.length d] 61)).alloc (Obj.cells #[Value.int IntKind.i64 0, Value.slice none 0 0] 61)
  have hOk : ∀ (W : Int) (a : Option Addr) (c : Nat) (xs : List Nat) (u : World) (r : Bool), rightB W xs = r → Rd u a xs → Calls Tryz.prog 140 #[.agg #[.int .i64 W, .slice a xs.length c]] u fun e w' => e = .returned (.bool r) ∧ Below u.heap.size u w' := fun W a c xs u r h hu => by
    have := implOk_any W a c xs u hu
    rwa [h] at this
  have HOK : Hid _ := hOk
  clear hOk
  cases hoa : rightB W xs with
  | false =>
    have hc : joinR W xs V ys = noR := by unfold joinR; simp [hoa]
    rw [hc]
    go_enter Tryz.func162, Tryz.ntmps162
    go_wp2_with fail
    refine (HOK.out _ _ _ _ _ _ hoa hr').mono ?_
    rintro e w3 ⟨rfl, hb3⟩
    have B3 := chain h3 hb3
    have bR3 := bR0.next hb3
    obtain ⟨r0, r1⟩ := bR3.cells
    have f0 := bR3.free 0
    have f1 := bR3.free 1
    go_wp2
    exact bodyPost_ret (v := .tuple #[.agg #[.int .i64 0, .slice none 0 0], .bool false]) (by simp [results, Tryz.results162, go_sem, r0, r1]) rfl (RetB.no ((B3.setCell (by simp; omega) _).setCell (by simp; omega) _))
  | true =>
    obtain ⟨c0, c1⟩ := bA0.cells
    obtain ⟨d0, d1⟩ := bB0.cells
    cases hob : rightB V ys with
    | false =>
      have hc : joinR W xs V ys = noR := by unfold joinR; simp [hob]
      rw [hc]
      go_enter Tryz.func162, Tryz.ntmps162
      go_wp2_with fail
      refine (HOK.out _ _ _ _ _ _ hoa hr').mono ?_
      rintro e w3 ⟨rfl, hb3⟩
      have B3 := chain h3 hb3
      have bB3 := bB0.next hb3
      obtain ⟨l0, l1⟩ := bB3.cells
      go_wp2_with fail
      refine (HOK.out _ _ _ _ _ _ hob (hs'.later hb3)).mono ?_
      rintro e w4 ⟨rfl, hb4⟩
      have B4 := chain B3 hb4
      have bR4 := (bR0.next hb3).next hb4
      obtain ⟨r0, r1⟩ := bR4.cells
      have f0 := bR4.free 0
      have f1 := bR4.free 1
      go_wp2
      exact bodyPost_ret (v := .tuple #[.agg #[.int .i64 0, .slice none 0 0], .bool false]) (by simp [results, Tryz.results162, go_sem, r0, r1]) rfl (RetB.no ((B4.setCell (by simp; omega) _).setCell (by simp; omega) _))
    | true =>
      have hc : joinR W xs V ys = fromR (joinL W xs V ys) := by unfold joinR; simp [hoa, hob]
      rw [hc]
      clear hc
      obtain ⟨hW1, hW2, hWl⟩ := right_W hoa
      obtain ⟨hV1, hV2, hVl⟩ := right_W hob
      obtain ⟨P, rfl⟩ := Int.eq_ofNat_of_zero_le (show 0 ≤ W by omega)
      obtain ⟨q, rfl⟩ := Int.eq_ofNat_of_zero_le (show 0 ≤ V by omega)
      have hxx := hr.2.1
      have hyy := hs.2.1
      have hx64 : xs.length ≤ 64 := by omega
      have hy64 : ys.length ≤ 64 := by omega
      have hab := hr.lt (by omega)
      have hbb := hs.lt (by omega)
      clear hWl hVl
      generalize hR : fromR (joinL (P : Int) xs (q : Int) ys) = R
      have HR : Hid (fromR (bitsTo ys q ++ bitsTo xs P) = R) := hR
      clear hR
      go_enter Tryz.func162, Tryz.ntmps162
      go_wp2_with fail
      refine (HOK.out _ _ _ _ _ _ hoa hr').mono ?_
      rintro e w3 ⟨rfl, hb3⟩
      have B3 := chain h3 hb3
      have bB3 := bB0.next hb3
      obtain ⟨l0, l1⟩ := bB3.cells
      go_wp2_with fail
      refine (HOK.out _ _ _ _ _ _ hob (hs'.later hb3)).mono ?_
      rintro e w4 ⟨rfl, hb4⟩
      have B4 := chain B3 hb4
      have bA4 := (bA0.next hb3).next hb4
      have bB4 := (bB0.next hb3).next hb4
      have bR4 := (bR0.next hb3).next hb4
      clear hb3 hb4 B3 bB3 l0 l1 c0 c1 d0 d1 bA0 bB0 bR0 h3 hr' hs' HOK
      obtain ⟨k0, k1⟩ := bA4.cells
      obtain ⟨l0, l1⟩ := bB4.cells
      by_cases hPq : (P : Int) + q ≤ 4096
      · go_wp2_with fail
        rw [← Int.natCast_add]
        generalize hq : P + q = m at *
        refine (zeroBits_any m _ (by omega) (by omega)).mono ?_
        rintro e w5 ⟨g, rfl, hg, hown, hb5⟩
        generalize hN : (m + 63) / 64 = N at *
        have HN : Hid ((m + 63) / 64 = N) := hN
        have Hq : Hid (P + q = m) := hq
        have hm1 : 1 ≤ m := by omega
        have hm2 : m ≤ 4096 := by omega
        have hN64 : N ≤ 64 := by omega
        have hfit : m ≤ 64 * N := by omega
        have B5 := chain B4 hb5
        have bA5 := bA4.next hb5
        have bB5 := bB4.next hb5
        have bR5 := bR4.next hb5
        have hgr := bR4.lt
        have hgl := hown.lt
        clear hN hq hb5 B4 bA4 bB4 bR4 k0 k1 l0 l1
        obtain ⟨l0, l1⟩ := bB5.cells
        have hlR := bR5.lt
        have hlB := bB5.lt
        have hlA := bA5.lt
        go_wp2_with fail
        have hput := putBits_any (m : Int) (q : Int) g N d 0 b (List.replicate N 0) ys _ (hown.alloc (Obj.cells #[Value.int IntKind.i64 m, Value.slice (some ⟨g, 0, none⟩) N N] 61)) (hs.later (Ba B5 _)) (fun x hx => by have := List.eq_of_mem_replicate hx; omega) (by omega) (by simp; omega) hy64 (by rw [List.length_replicate]; exact put_fit hob hyy 0 N (by have := Hq.out; omega)) (fun x hx => by have := hbb x hx; omega)
        rw [List.length_replicate] at hput
        refine hput.mono ?_
        rintro e w6 ⟨rfl, hown6, hgr6⟩
        have bO3 := Blk.new w5 (Value.int IntKind.i64 m) (Value.slice (some ⟨g, 0, none⟩) N N) 61
        have bA3 := bA5.alloc (Obj.cells #[Value.int IntKind.i64 m, Value.slice (some ⟨g, 0, none⟩) N N] 61)
        have bB3 := bB5.alloc (Obj.cells #[Value.int IntKind.i64 m, Value.slice (some ⟨g, 0, none⟩) N N] 61)
        have bR3 := bR5.alloc (Obj.cells #[Value.int IntKind.i64 m, Value.slice (some ⟨g, 0, none⟩) N N] 61)
        have B3 := Ba B5 (Obj.cells #[Value.int IntKind.i64 m, Value.slice (some ⟨g, 0, none⟩) N N] 61)
        have ho3 := hown.alloc (Obj.cells #[Value.int IntKind.i64 m, Value.slice (some ⟨g, 0, none⟩) N N] 61)
        have f3 := ho3.fr (Nat.le_refl g)
        have m6 : Marked _ w6 (some ⟨g, 0, none⟩) := hgr6
        have bO6 := bO3.mark f3 m6 (by decide)
        have bA6 := bA3.mark f3 m6 (by decide)
        have bB6 := bB3.mark f3 m6 (by decide)
        have bR6 := bR3.mark f3 m6 (by decide)
        have B6 := m6.below f3 B3 (by omega)
        have hlen6 : (putTo (List.replicate N 0) ys (0 / 64) (0 % 64) ys.length).length = N := by rw [putTo_len, List.length_replicate]
        have hlt6 := putTo_lt (List.replicate N 0) ys (0 / 64) (0 % 64) ys.length (fun x hx => by have := List.eq_of_mem_replicate hx; omega) hyy
        have htb6 : ∀ j, tb (putTo (List.replicate N 0) ys (0 / 64) (0 % 64) ys.length) j = tb ys j := fun j => by
          rw [tb_put_right hob hyy _ 0 (by have := Hq.out; simp; omega), tb_zero]; simp
        generalize putTo (List.replicate N 0) ys (0 / 64) (0 % 64) ys.length = y6 at *
        have HL6 : Hid (y6.length = N) := hlen6
        clear hput bO3 bA3 bB3 bR3 B3 ho3 f3 m6 hgr6 B5 bA5 bB5 bR5 hown l0 l1 hlen6
        obtain ⟨k0, k1⟩ := bA6.cells
        obtain ⟨l0, l1⟩ := bB6.cells
        obtain ⟨o0, o1⟩ := bO6.cells
        go_wp2_with fail
        have hput := putBits_any (m : Int) (P : Int) g N c q a y6 xs w6 hown6 (hr.later B6) hlt6 (by omega) (by rw [HL6.out]; exact hN64) hx64 (by rw [HL6.out]; exact put_fit hoa hxx q N (by have := Hq.out; omega)) (fun x hx => by have := hab x hx; omega)
        rw [HL6.out] at hput
        refine hput.mono ?_
        rintro e w7 ⟨rfl, hown7, hgr7⟩
        have f6 := hown6.fr (Nat.le_refl g)
        have m7 : Marked w6 w7 (some ⟨g, 0, none⟩) := hgr7
        have bO7 := bO6.mark f6 m7 (by decide)
        have bR7 := bR6.mark f6 m7 (by decide)
        have B7 := m7.below f6 B6 (by omega)
        have HL7 : Hid ((putTo y6 xs (q / 64) (q % 64) xs.length).length = N) := by show _ = _; rw [putTo_len, HL6.out]
        have HQ : Hid (((m : Int), putTo y6 xs (q / 64) (q % 64) xs.length, true) = R) := by
          show _ = _
          have hln : (bitsTo ys q ++ bitsTo xs P).length = m := by rw [List.length_append, bitsTo_len, bitsTo_len, ← Hq.out]; omega
          rw [← HR.out, fromR, if_pos (by rw [hln]; exact ⟨hm1, hm2⟩), hln]
          congr 2
          refine join_pack hoa hob _ (by rw [HL7.out, ← HN.out, ← Hq.out, Nat.add_comm P q]) (putTo_lt _ _ _ _ _ hlt6 hxx) fun j hj => ?_
          rw [tb_put_right hoa hxx y6 q (by rw [HL6.out]; have := Hq.out; omega), htb6 j]
        generalize putTo y6 xs (q / 64) (q % 64) xs.length = y7 at *
        clear hput HR hlt6 htb6 bA6 bB6 bO6 bR6 f6 m7 hgr7 hown6 k0 k1 l0 l1 o0 o1 B6
        obtain ⟨o0, o1⟩ := bO7.cells
        obtain ⟨r0, r1⟩ := bR7.cells
        have fr0 := bR7.free 0
        have fr1 := bR7.free 1
        clear bO7 bR7
        go_wp2
        have hm := RetB.made (w := w) (r := ((m : Int), y7, true)) (c := N) hown7 (by omega) (β := w.heap.size + 1 + 1) (by omega) (by omega) B7 HQ.out (Value.int IntKind.i64 m) (Value.slice (some ⟨g, 0, none⟩) N N)
        dsimp only at hm
        rw [HL7.out] at hm
        exact bodyPost_ret (by simp [results, Tryz.results162, go_sem, r0, r1]) rfl hm
      · have HQ : Hid (noR = R) := by
          show _ = _
          rw [← HR.out, fromR, if_neg (by simp only [List.length_append, bitsTo_len]; omega)]
          rfl
        obtain ⟨r0, r1⟩ := bR4.cells
        have f0 := bR4.free 0
        have f1 := bR4.free 1
        clear HR
        go_wp2
        refine bodyPost_ret (v := .tuple #[.agg #[.int .i64 0, .slice none 0 0], .bool false]) (by simp [results, Tryz.results162, go_sem, r0, r1]) rfl ?_
        rw [← HQ.out]
        exact RetB.no ((B4.setCell (by simp; omega) _).setCell (by simp; omega) _)

end Go.Proofs.YtdlmgndmfphneaaGreatDoor

/- What the program's TurnBits answers. -/
namespace Go.Proofs.YtdlmgndmfphneaaGreatDoor
set_option linter.unusedVariables false
set_option linter.unusedSimpArgs false
open Go.RowKit

theorem bitsTo_pack (bs : List Nat) (hb : ∀ x ∈ bs, x ≤ 1) : bitsTo (pack bs) bs.length = bs := by
  refine List.ext_getElem? fun i => ?_
  by_cases h : i < bs.length
  · have hx := hb _ (List.getElem_mem h)
    have e : bs.getD i 0 = bs[i] := by simp [List.getD, h]
    simp only [bitsTo, List.getElem?_map, List.getElem?_range h, Option.map_some, tb_pack bs hb, e, List.getElem?_eq_getElem h]
    congr 1
    generalize bs[i] = x at *
    have : x = 0 ∨ x = 1 := by omega
    rcases this with rfl | rfl <;> rfl
  · rw [List.getElem?_eq_none (by rw [bitsTo_len]; omega), List.getElem?_eq_none (by omega)]

/-- A list of bits turned by r places to the higher ones, r less than its length. -/
def turnL (L : List Nat) (r : Nat) : List Nat := L.drop (L.length - r) ++ L.take (L.length - r)

theorem turnL_len (L : List Nat) (r : Nat) : (turnL L r).length = L.length := by simp [turnL]

theorem turnL_mem (L : List Nat) (r x : Nat) (h : x ∈ turnL L r) : x ∈ L := by
  rcases List.mem_append.1 h with h | h
  · exact List.mem_of_mem_drop h
  · exact List.mem_of_mem_take h

def turnR (W : Int) (xs : List Nat) (n : Int) : Int × List Nat × Bool :=
  if rightB W xs = true ∧ 0 ≤ n ∧ n ≤ 4096 then (W, pack (turnL (bitsTo xs W.toNat) (n.toNat % W.toNat)), true) else noR

theorem part_low {V : Nat} {xs : List Nat} (hok : rightB V xs = true) (r : Nat) (h1 : r < V) : partR V xs ((V : Int) - 1 - r) 0 = (((V - r : Nat) : Int), pack ((bitsTo xs V).take (V - r)), true) := by
  rw [partR, if_pos ⟨hok, by omega, by omega, by omega⟩]
  rw [show (V : Int) - 1 - r - 0 + 1 = ((V - r : Nat) : Int) by omega, Int.toNat_natCast, Int.toNat_natCast]
  rfl

theorem part_high {V : Nat} {xs : List Nat} (hok : rightB V xs = true) (r : Nat) (h0 : 0 < r) (h1 : r < V) : partR V xs ((V : Int) - 1) ((V : Int) - r) = ((r : Int), pack ((bitsTo xs V).drop (V - r)), true) := by
  rw [partR, if_pos ⟨hok, by omega, by omega, by omega⟩]
  rw [show (V : Int) - 1 - ((V : Int) - r) + 1 = (r : Int) by omega, Int.toNat_natCast, Int.toNat_natCast, show ((V : Int) - r).toNat = V - r by omega]
  rw [List.take_of_length_le (by simp [bitsTo_len]; omega)]

theorem join_turn {V : Nat} {xs : List Nat} (hok : rightB V xs = true) (r : Nat) (h0 : 0 < r) (h1 : r < V) :
    joinR ((V - r : Nat) : Int) (pack ((bitsTo xs V).take (V - r))) (r : Int) (pack ((bitsTo xs V).drop (V - r))) = ((V : Int), pack (turnL (bitsTo xs V) r), true) := by
  have hV := right_W hok
  have hle := bitsTo_le xs V
  have hl := bitsTo_len xs V
  have ha : ∀ x ∈ (bitsTo xs V).take (V - r), x ≤ 1 := fun x hx => hle x (List.mem_of_mem_take hx)
  have hb : ∀ x ∈ (bitsTo xs V).drop (V - r), x ≤ 1 := fun x hx => hle x (List.mem_of_mem_drop hx)
  have hal : ((bitsTo xs V).take (V - r)).length = V - r := by rw [List.length_take, hl]; omega
  have hbl : ((bitsTo xs V).drop (V - r)).length = r := by rw [List.length_drop, hl]; omega
  have ra := pack_right _ ha (by omega) (by omega)
  have rb := pack_right _ hb (by omega) (by omega)
  rw [hal] at ra
  rw [hbl] at rb
  have ea := bitsTo_pack _ ha
  have eb := bitsTo_pack _ hb
  rw [hal] at ea
  rw [hbl] at eb
  rw [joinR, if_pos ⟨ra, rb⟩, joinL, Int.toNat_natCast, Int.toNat_natCast, ea, eb]
  have e : (bitsTo xs V).drop (V - r) ++ (bitsTo xs V).take (V - r) = turnL (bitsTo xs V) r := by unfold turnL; rw [hl]
  rw [e, fromR, turnL_len, hl, if_pos ⟨by omega, by omega⟩]

theorem part_all {V : Nat} {xs : List Nat} (hok : rightB V xs = true) (h1 : 1 ≤ V) : partR V xs ((V : Int) - 1) 0 = ((V : Int), pack (turnL (bitsTo xs V) 0), true) := by
  rw [partR, if_pos ⟨hok, by omega, by omega, by omega⟩]
  rw [show (V : Int) - 1 - 0 + 1 = (V : Int) by omega, Int.toNat_natCast]
  have hl := bitsTo_len xs V
  unfold turnL
  rw [hl, Nat.sub_zero, show List.drop V (bitsTo xs V) = [] from List.drop_of_length_le (by omega)]
  rfl

theorem wf_small (x : Int) (h0 : 0 ≤ x) (h1 : x ≤ 4096) : (Lit.int .i64 x).wf = true := by
  have a1 : IntKind.i64.min ≤ x := by have : IntKind.i64.min = -9223372036854775808 := by decide
                                      omega
  have a2 : x ≤ IntKind.i64.max := by have : IntKind.i64.max = 9223372036854775807 := by decide
                                      omega
  simp only [Lit.wf, a1, a2, decide_true, Bool.and_self]

set_option maxHeartbeats 2000000 in
set_option maxRecDepth 100000 in
theorem implTurn_any (W : Int) (a : Option Addr) (c : Nat) (xs : List Nat) (n : Int) (w : World) (hr : Rd w a xs) :
    Calls Tryz.prog 155 #[.agg #[.int .i64 W, .slice a xs.length c], .int .i64 n] w (RetB w (turnR W xs n)) := by
  have h2 : Below w.heap.size w ((w.alloc (Obj.cells #[Value.int IntKind.i64 W, Value.slice a xs.length c] 61)).alloc (Obj.cells #[Value.int IntKind.i64 0, Value.slice none 0 0] 61)) := Ba (Ba (Below.refl _ _) _) _
  have hr' := hr.later h2
  have bR0 := Blk.new1 w (Obj.cells #[Value.int IntKind.i64 W, Value.slice a xs.length c] 61) (Value.int IntKind.i64 0) (Value.slice none 0 0) 61
  have bA0 := (Blk.new w (Value.int IntKind.i64 W) (Value.slice a xs.length c) 61).alloc (Obj.cells #[Value.int IntKind.i64 0, Value.slice none 0 0] 61)
  have hOk : ∀ (u : World), Rd u a xs → Calls Tryz.prog 140 #[.agg #[.int .i64 W, .slice a xs.length c]] u fun e w' => e = .returned (.bool (rightB W xs)) ∧ Below u.heap.size u w' := fun u hu => implOk_any W a c xs u hu
  have HOK : Hid _ := hOk
  clear hOk
  by_cases hc : rightB W xs = true ∧ 0 ≤ n ∧ n ≤ 4096
  · rw [turnR, if_pos hc]
    obtain ⟨hok, hn1, hn2⟩ := hc
    rw [hok] at HOK
    obtain ⟨hW1, hW2, hWl⟩ := right_W hok
    obtain ⟨V, rfl⟩ := Int.eq_ofNat_of_zero_le (show 0 ≤ W by omega)
    obtain ⟨m, rfl⟩ := Int.eq_ofNat_of_zero_le hn1
    rw [Int.toNat_natCast, Int.toNat_natCast]
    have hV0 : ¬ (V : Int) = 0 := by omega
    have hrV : m % V < V := Nat.mod_lt _ (by omega)
    have hmod : (m : Int) % (V : Int) = ((m % V : Nat) : Int) := rfl
    generalize m % V = r at *
    have hP : ∀ (u : World) (hi lo : Int) (R : Int × List Nat × Bool), Rd u a xs → partR V xs hi lo = R → 0 ≤ hi → hi ≤ 4096 → Calls Tryz.prog 152 #[.agg #[.int .i64 V, .slice a xs.length c], .int .i64 hi, .int .i64 lo] u (RetB u R) := fun u hi lo R hu h g1 g2 => by
      rw [← h]; exact implPart_any V a c xs hi lo u hu (wf_small _ g1 g2)
    have HP : Hid _ := hP
    have H0 : Hid _ := part_all hok (by omega)
    have H1 : Hid _ := fun h0 : 0 < r => part_high hok r h0 hrV
    have H2 : Hid _ := part_low hok r hrV
    have H3 : Hid _ := fun h0 : 0 < r => join_turn hok r h0 hrV
    have hlb := bitsTo_len xs V
    have hle := bitsTo_le xs V
    generalize bitsTo xs V = bs at *
    have HLB : Hid (bs.length = V) := hlb
    clear hWl hP hlb
    by_cases hr0 : r = 0
    · subst hr0
      simp only [Int.natCast_zero] at hmod
      clear H1 H2 H3
      go_enter Tryz.func155, Tryz.ntmps155
      go_wp2_with fail
      refine (HOK.out _ hr').mono ?_
      rintro e w1 ⟨rfl, hb1⟩
      have B1 := chain h2 hb1
      have bA1 := bA0.next hb1
      have bR1 := bR0.next hb1
      obtain ⟨c0, c1⟩ := bA1.cells
      clear hb1 bA0 bR0 hr' h2 HOK
      go_wp2_with fail
      refine (HP.out _ _ _ _ (hr.later B1) H0.out (by omega) (by omega)).mono ?_
      rintro e w5 ⟨a5, c5, rfl, hfr, hb5⟩
      have B5 := chain B1 hb5
      have bR5 := bR1.next hb5
      have hz := bR1.lt
      obtain ⟨r0, r1⟩ := bR5.cells
      have f0 := bR5.free 0
      have f1 := bR5.free 1
      dsimp only at hfr ⊢
      clear HP H0
      generalize turnL bs 0 = T at *
      go_wp2
      exact bodyPost_ret (by simp [results, Tryz.results155, go_sem, r0, r1]; rfl) rfl (RetB.close (r := ((V : Int), pack T, true)) hfr (by omega) hz B5 rfl _ _)
    · have hr1 : 0 < r := by omega
      have hmz : ¬ (r : Int) = 0 := by omega
      have HA := H1.out hr1
      have HB := H3.out hr1
      have HA' : Hid _ := HA
      have HB' : Hid _ := HB
      have hpa : (bs.take (V - r)).length = V - r := by rw [List.length_take, HLB.out]; omega
      have hpb : (bs.drop (V - r)).length = r := by rw [List.length_drop, HLB.out]; omega
      have hla : (pack (bs.take (V - r))).length ≤ 1048576 := by rw [pack_len, hpa]; omega
      have hlb : (pack (bs.drop (V - r))).length ≤ 1048576 := by rw [pack_len, hpb]; omega
      have hxa := pack_lt (bs.take (V - r))
      have hxb := pack_lt (bs.drop (V - r))
      clear H0 H1 H3 HA HB hpa hpb HLB
      generalize pack (bs.take (V - r)) = pa at *
      generalize pack (bs.drop (V - r)) = pb at *
      generalize turnL bs r = T at *
      have hVr : ((V - r : Nat) : Int) = (V : Int) - r := by omega
      have HVr : Hid _ := hVr
      clear hVr
      go_enter Tryz.func155, Tryz.ntmps155
      go_wp2_with fail
      refine (HOK.out _ hr').mono ?_
      rintro e w1 ⟨rfl, hb1⟩
      have B1 := chain h2 hb1
      have bA1 := bA0.next hb1
      have bR1 := bR0.next hb1
      obtain ⟨c0, c1⟩ := bA1.cells
      clear hb1 bA0 bR0 hr' h2 HOK
      go_wp2_with fail
      refine (HP.out _ _ _ _ (hr.later B1) H2.out (by omega) (by omega)).mono ?_
      intro e w2 hret
      obtain ⟨as_, cs, rfl, fs2, hb2⟩ := hret.fr
      have B2 := chain B1 hb2
      have bA2 := bA1.next hb2
      have bR2 := bR1.next hb2
      dsimp only at fs2 ⊢
      have lA2 := bA2.lt
      clear hret hb2 B1 bA1 bR1 c0 c1 H2
      obtain ⟨c0, c1⟩ := bA2.cells
      go_wp2_with fail
      refine (HP.out _ _ _ _ (hr.later (Ba B2 _)) HA'.out (by omega) (by omega)).mono ?_
      intro e w3 hret
      obtain ⟨ao, co, rfl, fo3, hb3⟩ := hret.fr
      have B3 := chain (Ba B2 _) hb3
      have bR3 := (bR2.alloc _).next hb3
      have bS3 := (Blk.new w2 _ _ _).next hb3
      have fs3 := (fs2.alloc _).next hb3
      dsimp only at fo3 ⊢
      have lS3 := bS3.lt
      clear hret hb3 B2 bA2 bR2 c0 c1 fs2
      obtain ⟨c0, c1⟩ := bS3.cells
      go_wp2_with fail
      have hj := implJoin_any ((V - r : Nat) : Int) as_ cs pa (r : Int) ao co pb _ ((fs3.alloc (Obj.cells #[Value.int IntKind.i64 r, Value.slice ao pb.length co] 61)).rd hla hxa) ((fo3.alloc (Obj.cells #[Value.int IntKind.i64 r, Value.slice ao pb.length co] 61)).rd hlb hxb)
      rw [HB'.out] at hj
      refine hj.mono ?_
      rintro e w5 ⟨a5, c5, rfl, hfr, hb5⟩
      have B5 := chain (Ba B3 _) hb5
      have bR5 := (bR3.alloc _).next hb5
      have hz := (bR3.alloc (Obj.cells #[Value.int IntKind.i64 r, Value.slice ao pb.length co] 61)).lt
      obtain ⟨r0, r1⟩ := bR5.cells
      have f0 := bR5.free 0
      have f1 := bR5.free 1
      dsimp only at hfr ⊢
      clear HP HA' HB' hj
      go_wp2
      exact bodyPost_ret (by simp [results, Tryz.results155, go_sem, r0, r1]; rfl) rfl (RetB.close (r := ((V : Int), pack T, true)) hfr (by omega) hz B5 rfl _ _)
  · rw [turnR, if_neg hc]
    have hcase : rightB W xs = false ∨ (rightB W xs = true ∧ (n < 0 ∨ 4096 < n)) := by
      cases hb : rightB W xs with
      | false => exact .inl rfl
      | true => right; refine ⟨rfl, ?_⟩; simp [hb] at hc; omega
    clear hc
    rcases hcase with h | ⟨h, h1⟩
    · rw [h] at HOK
      go_enter Tryz.func155, Tryz.ntmps155
      go_wp2_with fail
      refine (HOK.out _ hr').mono ?_
      rintro e w1 ⟨rfl, hb1⟩
      have B1 := chain h2 hb1
      have bR1 := bR0.next hb1
      obtain ⟨r0, r1⟩ := bR1.cells
      have f0 := bR1.free 0
      have f1 := bR1.free 1
      go_wp2
      exact bodyPost_ret (v := .tuple #[.agg #[.int .i64 0, .slice none 0 0], .bool false]) (by simp [results, Tryz.results155, go_sem, r0, r1]) rfl (RetB.no ((B1.setCell (by simp) _).setCell (by simp) _))
    · rw [h] at HOK
      rcases h1 with h1 | h1
      · go_enter Tryz.func155, Tryz.ntmps155
        go_wp2_with fail
        refine (HOK.out _ hr').mono ?_
        rintro e w1 ⟨rfl, hb1⟩
        have B1 := chain h2 hb1
        have bR1 := bR0.next hb1
        obtain ⟨r0, r1⟩ := bR1.cells
        have f0 := bR1.free 0
        have f1 := bR1.free 1
        go_wp2
        exact bodyPost_ret (v := .tuple #[.agg #[.int .i64 0, .slice none 0 0], .bool false]) (by simp [results, Tryz.results155, go_sem, r0, r1]) rfl (RetB.no ((B1.setCell (by simp) _).setCell (by simp) _))
      · have h2' : ¬ n < 0 := by omega
        go_enter Tryz.func155, Tryz.ntmps155
        go_wp2_with fail
        refine (HOK.out _ hr').mono ?_
        rintro e w1 ⟨rfl, hb1⟩
        have B1 := chain h2 hb1
        have bR1 := bR0.next hb1
        obtain ⟨r0, r1⟩ := bR1.cells
        have f0 := bR1.free 0
        have f1 := bR1.free 1
        go_wp2
        exact bodyPost_ret (v := .tuple #[.agg #[.int .i64 0, .slice none 0 0], .bool false]) (by simp [results, Tryz.results155, go_sem, r0, r1]) rfl (RetB.no ((B1.setCell (by simp) _).setCell (by simp) _))

end Go.Proofs.YtdlmgndmfphneaaGreatDoor

/- What the program's WidenBits answers: what the given one does. -/
namespace Go.Proofs.YtdlmgndmfphneaaGreatDoor
set_option linter.unusedVariables false
set_option linter.unusedSimpArgs false
open Go.RowKit

theorem andOne64 (y k : Nat) (h : y < 18446744073709551616) : bits BinOp.and IntKind.u64 ((y : Int) / 2 ^ k) 1 = ((y / 2 ^ k % 2 : Nat) : Int) := by
  have e : ((y : Int) / 2 ^ k) = ((y / 2 ^ k : Nat) : Int) := by simp
  have hlt : y / 2 ^ k < 18446744073709551616 := Nat.lt_of_le_of_lt (Nat.div_le_self _ _) h
  rw [e, and_one_u64 _ (Int.natCast_nonneg _) (by omega)]
  omega

theorem bitAt_any (W : Int) (U : Nat) (a : Option Addr) (c : Nat) (xs : List Nat) (w : World) (hr : Rd w a xs) (hU : U < 64 * xs.length) :
    Calls Tryz.prog 164 #[.agg #[.int .i64 W, .slice a xs.length c], .int .i64 (U : Int)] w fun e w' => e = .returned (.int .u64 (((tb xs U).toNat : Nat) : Int)) ∧ Below w.heap.size w w' := by
  obtain ⟨hl, hx, h | ⟨b, o, rfl, hc⟩⟩ := hr
  · subst h; simp at hU
  have hcell := hc (U / 64) (by omega)
  have hb : b < w.heap.size := block_lt_of_cell hcell
  have htb := tb_div xs U
  have hlt := getD_lt hx (U / 64)
  generalize hy : xs.getD (U / 64) 0 = y at hcell htb hlt
  generalize (tb xs U).toNat = t at htb ⊢
  have Hb : Hid (bits BinOp.and IntKind.u64 ((y : Int) / 2 ^ (U % 64)) 1 = (t : Int)) := by rw [andOne64 y _ hlt, htb]; rfl
  have hlx : U / 64 < xs.length := by omega
  have hlxi : (U : Int) / 64 < (xs.length : Int) := by omega
  clear hc hx hy hlt htb
  go_enter Tryz.func164, Tryz.ntmps164
  go_wp2
  go_ret
  exact ⟨by simp [Hb.out], (Below.refl _ _).alloc (Nat.le_refl _) _⟩

theorem topBit_any (U : Nat) (a : Option Addr) (c : Nat) (xs : List Nat) (w : World) (hr : Rd w a xs) (hU : U < 64 * xs.length) :
    Calls Tryz.prog 160 #[.agg #[.int .i64 ((U + 1 : Nat) : Int), .slice a xs.length c]] w fun e w' => e = .returned (.int .u64 (((tb xs U).toNat : Nat) : Int)) ∧ Below w.heap.size w w' := by
  obtain ⟨W, hW⟩ : ∃ W : Int, ((U + 1 : Nat) : Int) = W := ⟨_, rfl⟩
  have hl := hr.1
  have h2 : Below w.heap.size w (w.alloc (Obj.cells #[.int .i64 W, .slice a xs.length c] 61)) := (Below.refl _ _).alloc (Nat.le_refl _) _
  have HB : Hid (∀ u, Below w.heap.size w u → Calls Tryz.prog 164 #[.agg #[.int .i64 W, .slice a xs.length c], .int .i64 (U : Int)] u fun e w' => e = .returned (.int .u64 (((tb xs U).toNat : Nat) : Int)) ∧ Below u.heap.size u w') := fun u hu => bitAt_any W U a c xs u (hr.later hu) hU
  have hW1 : W - 1 = (U : Int) := by omega
  have hWw : IntKind.i64.wrap (U : Int) = (U : Int) := by rw [IntKind.wrap_i64]; omega
  have H2 : Hid (Below w.heap.size w (w.alloc (Obj.cells #[.int .i64 W, .slice a xs.length c] 61))) := h2
  rw [hW]
  generalize (tb xs U).toNat = t at HB ⊢
  clear hr h2 hW
  go_enter Tryz.func160, Tryz.ntmps160
  go_wp2_with fail
  first
    | (refine Calls.mono (HB.out _ H2.out) ?_
       rintro e w1 ⟨rfl, hb1⟩
       have B1 : Hid (Below w.heap.size w w1) := H2.out.trans (hb1.mono H2.out.size)
       clear hb1
       go_wp2_with fail
       go_ret
       exact ⟨rfl, B1.out⟩)
    | (go_region_held3 (fun u => u.cell? ⟨w.heap.size, 0, none⟩ = some (Value.int .i64 W) ∧ u.cell? ⟨w.heap.size, 1, none⟩ = some (Value.slice a xs.length c)) (simp [*])
         ((go_at_call 164; refine Calls.mono (HB.out _ H2.out.drew) ?_; rintro e w1 ⟨rfl, hb1⟩; have k0 := hb1.cell (p := ⟨w.heap.size, 0, none⟩) (by simp); have k1 := hb1.cell (p := ⟨w.heap.size, 1, none⟩) (by simp); simp at k0 k1))
       have B1 : Hid (Below w.heap.size w w1) := H2.out.drew.trans (hb1.mono H2.out.drew.size)
       clear hb1
       go_wp2_with fail
       go_ret
       exact ⟨rfl, B1.out⟩)

def onesTo (N k : Nat) : List Nat := List.replicate k 18446744073709551615 ++ List.replicate (N - k) 0
theorem onesTo_len (N k : Nat) (h : k ≤ N) : (onesTo N k).length = N := by simp [onesTo]; omega
theorem onesTo_set (N k : Nat) (h : k < N) : (onesTo N k).set k 18446744073709551615 = onesTo N (k + 1) := by
  unfold onesTo
  rw [List.set_append_right _ _ (by simp)]
  simp only [List.length_replicate, Nat.sub_self]
  obtain ⟨m, hm⟩ : ∃ m, N - k = m + 1 := ⟨N - k - 1, by omega⟩
  rw [hm, List.replicate_succ, List.set_cons_zero, show N - (k + 1) = m by omega, List.replicate_succ', List.append_assoc]
  rfl

def onesRow (n : Nat) : List Nat := clr n (List.replicate ((n + 63) / 64) 18446744073709551615)
theorem onesRow_len (n : Nat) : (onesRow n).length = (n + 63) / 64 := by simp [onesRow, clr_len]
theorem onesRow_lt (n : Nat) : ∀ x ∈ onesRow n, x < 18446744073709551616 := clr_lt _ _ (fun x h => by have := List.eq_of_mem_replicate h; omega)
theorem tb_ones (n : Nat) (h1 : 1 ≤ n) (i : Nat) (hi : i < 64 * ((n + 63) / 64)) : tb (onesRow n) i = decide (i < n) := by
  unfold onesRow
  rw [tb_clr _ _ (by simp; omega) (by simp; omega) (by simp; omega) i (by simpa using hi)]
  have : tb (List.replicate ((n + 63) / 64) 18446744073709551615) i = true := by
    unfold tb
    have e : (List.replicate ((n + 63) / 64) 18446744073709551615).getD (i / 64) 0 = 18446744073709551615 := by
      simp [List.getD, List.getElem?_replicate, show i / 64 < (n + 63) / 64 by omega]
    rw [e, show (18446744073709551615 : Nat) = 2 ^ 64 - 1 by decide, Nat.testBit_two_pow_sub_one]
    simp; omega
  rw [this]; simp
theorem onesRow_right (n : Nat) (h1 : 1 ≤ n) (h2 : n ≤ 4096) : rightB n (onesRow n) = true := by
  rw [rightB_clear (by simp [wOk]; omega) (by rw [onesRow_len]; omega), clear_iff]
  intro i hi hl
  rw [onesRow_len] at hl
  rw [tb_ones n h1 i hl]
  simp; omega

set_option maxHeartbeats 1000000 in
set_option maxRecDepth 100000 in
theorem onesOf_any (n : Nat) (w : World) (h1 : 1 ≤ n) (h2 : n ≤ 4096) :
    Calls Tryz.prog 161 #[.int .i64 n] w fun e w' => ∃ g, e = .returned (.agg #[.int .i64 n, .slice (some ⟨g, 0, none⟩) ((n + 63) / 64) ((n + 63) / 64)]) ∧ w.heap.size ≤ g ∧ Own w' g (onesRow n) ∧ Below w.heap.size w w' := by
  go_enter Tryz.func161, Tryz.ntmps161
  go_wp2_with fail
  refine (zeroBits_any n _ h1 h2).mono ?_
  rintro e w2 ⟨g, rfl, hg, hown, hb2⟩
  have B2 := chain (Ba (Below.refl _ w) _) hb2
  have bR2 := (Blk.new w _ _ _).next hb2
  rw [World.size_alloc] at hg
  generalize hN : (n + 63) / 64 = N at *
  have HN : Hid ((n + 63) / 64 = N) := hN
  have hN64 : N ≤ 64 := by omega
  clear hN hb2
  have hgl := hown.lt
  go_wp2_with fail
  have bO3 := Blk.new w2 (Value.int IntKind.i64 n) (Value.slice (some ⟨g, 0, none⟩) N N) 61
  have bR3 := bR2.alloc (Obj.cells #[Value.int IntKind.i64 n, Value.slice (some ⟨g, 0, none⟩) N N] 61)
  have B3 := Ba B2 (Obj.cells #[Value.int IntKind.i64 n, Value.slice (some ⟨g, 0, none⟩) N N] 61)
  have ho3 := hown.alloc (Obj.cells #[Value.int IntKind.i64 n, Value.slice (some ⟨g, 0, none⟩) N N] 61)
  generalize w2.alloc (Obj.cells #[Value.int IntKind.i64 n, Value.slice (some ⟨g, 0, none⟩) N N] 61) = w3 at *
  go_loopw [10] (fun i wr => ∃ k : Nat, k ≤ N ∧ i = .int .i64 k ∧ Own wr g (onesTo N k) ∧ Blk wr w2.heap.size (Value.int IntKind.i64 n) (Value.slice (some ⟨g, 0, none⟩) N N) 61 ∧ Blk wr w.heap.size (Value.int IntKind.i64 0) (Value.slice none 0 0) 61 ∧ Below w.heap.size w wr) (fun i _ => N - (intOf i).toNat)
  case atStart => exact ⟨0, Nat.zero_le _, rfl, by simpa [onesTo] using ho3, bO3, bR3, B3⟩
  case round =>
    obtain ⟨k, hk, rfl, hownk, bO, bR, B⟩ := hrel
    obtain ⟨d0, d1⟩ := bO.cells
    by_cases hlt : k < N
    · have hcg := hownk.cell (i := k) (by rw [onesTo_len _ _ hk]; exact hlt)
      have hfg := hownk.free k
      have HP : Hid _ := hownk.put k 18446744073709551615
      have HT : Hid _ := onesTo_set N k hlt
      have hne1 : w2.heap.size ≠ g := by omega
      have hne2 : w.heap.size ≠ g := by omega
      have bO4 : Blk (wr.setCell ⟨g, k, none⟩ (.int .u64 ((18446744073709551615 : Nat) : Int))) w2.heap.size (Value.int IntKind.i64 n) (Value.slice (some ⟨g, 0, none⟩) N N) 61 := by
        unfold Blk; rw [heap_setCell_other _ _ _ _ (by simpa using hne1)]; exact bO
      have bR4 : Blk (wr.setCell ⟨g, k, none⟩ (.int .u64 ((18446744073709551615 : Nat) : Int))) w.heap.size (Value.int IntKind.i64 0) (Value.slice none 0 0) 61 := by
        unfold Blk; rw [heap_setCell_other _ _ _ _ (by simpa using hne2)]; exact bR
      generalize (onesTo N k).getD k 0 = z at hcg
      clear hownk
      go_wp2
      go_roundw
      case rel =>
        have h := HP.out
        rw [HT.out] at h
        exact ⟨k + 1, by omega, by go_num, h, bO4, bR4, B.setCell (by simp; omega) _⟩
      case measure => simp [intOf]; omega
    · have e : k = N := by omega
      subst e
      go_wp2_with fail
      obtain ⟨m, hm⟩ : ∃ m, k = m + 1 := ⟨k - 1, by have := HN.out; omega⟩
      have hlk : (onesTo k k).length = m + 1 := by rw [onesTo_len _ _ (Nat.le_refl _)]; exact hm
      have hNn := HN.out
      have hcl := clearAbove_any n g k m _ wr hownk hlk (by omega) (fun x hx => by simp [onesTo] at hx; omega) (by omega) (by omega)
      rw [← hm] at hcl
      refine hcl.mono ?_
      rintro e w4 ⟨rfl, hown4, hgr4⟩
      have f4 := hownk.fr (Nat.le_refl g)
      have m4 : Marked wr w4 (some ⟨g, 0, none⟩) := hgr4
      have bO4 := bO.mark f4 m4 (by decide)
      have bR4 := bR.mark f4 m4 (by decide)
      have B4 := m4.below f4 B (by omega)
      have HE : Hid (Own w4 g (onesRow n)) := by
        show Own _ _ _
        rw [show onesRow n = clr n (List.replicate k 18446744073709551615) by unfold onesRow; rw [hNn]]
        have h := hown4
        rw [show onesTo k k = List.replicate k 18446744073709551615 by simp [onesTo]] at h
        exact h
      obtain ⟨e0, e1⟩ := bO4.cells
      obtain ⟨r0, r1⟩ := bR4.cells
      have f0 := bR4.free 0
      have f1 := bR4.free 1
      clear hcl hownk bO bR B d0 d1 f4 m4 hgr4 bO3 bR3 B3 ho3 hm hlk hNn
      go_wp2
      refine bodyPost_ret (v := .agg #[.int .i64 n, .slice (some ⟨g, 0, none⟩) k k]) (by simp [results, Tryz.results161, go_sem, r0, r1]) rfl ⟨g, by rw [HN.out], by omega, ?_, (B4.setCell (Nat.le_refl _) _).setCell (Nat.le_refl _) _⟩
      exact (HE.out.other (a := ⟨w.heap.size, 0, none⟩) (by simp; omega) _).other (a := ⟨w.heap.size, 1, none⟩) (by simp; omega) _

/-- Widened rows, told by their bits. -/
theorem wid_pack {V : Nat} {xs : List Nat} (hok : rightB V xs = true) (hx : ∀ x ∈ xs, x < 18446744073709551616) (m t : Nat) (ht : t ≤ 1) (ys : List Nat) (hl : ys.length = (V + m + 63) / 64) (hy : ∀ x ∈ ys, x < 18446744073709551616)
    (h : ∀ j, j < 64 * ys.length → tb ys j = (tb xs j || (decide (V ≤ j) && decide (j < V + m) && decide (t = 1)))) : ys = pack (bitsTo xs V ++ List.replicate m t) := by
  refine eq_pack (fun x hxm => ?_) (by simp [hl, bitsTo_len]) hy fun i hi => ?_
  · rcases List.mem_append.1 hxm with h | h
    · exact bitsTo_le xs V x h
    · have := List.eq_of_mem_replicate h; omega
  · rw [h i hi]
    by_cases h1 : i < V
    · have e : (bitsTo xs V ++ List.replicate m t).getD i 0 = (tb xs i).toNat := by
        simp only [List.getD]
        rw [List.getElem?_append_left (by rw [bitsTo_len]; exact h1)]
        simp [bitsTo, h1]
      rw [e]
      simp [show ¬ V ≤ i by omega]
    · rw [tb_out hok i (by omega)]
      by_cases h2 : i < V + m
      · have e : (bitsTo xs V ++ List.replicate m t).getD i 0 = t := by
          simp only [List.getD]
          rw [List.getElem?_append_right (by rw [bitsTo_len]; omega), bitsTo_len]
          simp [List.getElem?_replicate, show i - V < m by omega]
        rw [e]
        simp [h2, show V ≤ i by omega]
      · have e : (bitsTo xs V ++ List.replicate m t).getD i 0 = 0 := by
          simp only [List.getD]
          rw [List.getElem?_eq_none (by simp [bitsTo_len]; omega)]
          rfl
        rw [e]
        simp [h2]

set_option maxHeartbeats 2000000 in
set_option maxRecDepth 100000 in
theorem implWid_any (W : Int) (a : Option Addr) (c : Nat) (xs : List Nat) (n : Int) (sign : Bool) (w : World) (hr : Rd w a xs) :
    Calls Tryz.prog 154 #[.agg #[.int .i64 W, .slice a xs.length c], .int .i64 n, .bool sign] w (RetB w (wdnR W xs n sign)) := by
  have h2 : Below w.heap.size w ((w.alloc (Obj.cells #[Value.int IntKind.i64 W, Value.slice a xs.length c] 61)).alloc (Obj.cells #[Value.int IntKind.i64 0, Value.slice none 0 0] 61)) := ((Below.refl _ _).alloc (Nat.le_refl _) _).alloc (by simp) _
  have hr' := hr.later h2
  by_cases hc : rightB W xs = true ∧ 0 ≤ n ∧ n ≤ 4096 ∧ W + n ≤ 4096
  · rw [wdnR, if_pos hc]
    generalize hR : (W + n, pack (bitsTo xs W.toNat ++ List.replicate n.toNat (topOf W.toNat xs sign)), true) = R
    have HR : Hid ((W + n, pack (bitsTo xs W.toNat ++ List.replicate n.toNat (topOf W.toNat xs sign)), true) = R) := hR
    clear hR
    obtain ⟨hok, hn1, hn2, hWn⟩ := hc
    obtain ⟨hW1, hW2, hWl⟩ := right_W hok
    obtain ⟨V, rfl⟩ := Int.eq_ofNat_of_zero_le (show 0 ≤ W by omega)
    obtain ⟨m, rfl⟩ := Int.eq_ofNat_of_zero_le hn1
    have hxx := hr.2.1
    have hab := hr.lt (by omega)
    have hVl : V ≤ 64 * xs.length := by omega
    have hl64 : xs.length ≤ 64 := by omega
    have bA0 := (Blk.new w (Value.int IntKind.i64 V) (Value.slice a xs.length c) 61).alloc (Obj.cells #[Value.int IntKind.i64 0, Value.slice none 0 0] 61)
    have bR0 := Blk.new1 w (Obj.cells #[Value.int IntKind.i64 V, Value.slice a xs.length c] 61) (Value.int IntKind.i64 0) (Value.slice none 0 0) 61
    have HWl : Hid ((xs.length : Int) = ((V : Int) + 63) / 64) := hWl
    clear hWl
    go_enter Tryz.func154, Tryz.ntmps154
    go_wp2_with fail
    refine (implOk_any _ _ _ _ _ hr').mono ?_
    rintro e w1 ⟨rfl, hb1⟩
    have B1 := h2.trans (hb1.mono (by simp; omega))
    have bA1 := bA0.next hb1
    have bR1 := bR0.next hb1
    obtain ⟨c0, c1⟩ := bA1.cells
    clear hb1 bA0 bR0 hr' h2
    go_wp2_with fail
    rw [← Int.natCast_add]
    generalize hq : V + m = q at *
    refine (zeroBits_any q _ (by omega) (by omega)).mono ?_
    rintro e w2 ⟨g, rfl, hg, hown, hb2⟩
    generalize hN : (q + 63) / 64 = N at *
    have B2 := chain B1 hb2
    have bA2 := bA1.next hb2
    have bR2 := bR1.next hb2
    have HN : Hid ((q + 63) / 64 = N) := hN
    have Hq : Hid (V + m = q) := hq
    have hN64 : N ≤ 64 := by omega
    have hgr := bR1.lt
    have hgl := hown.lt
    clear hN hq hb2 B1 bA1 bR1 c0 c1
    obtain ⟨c0, c1⟩ := bA2.cells
    have hlA := bA2.lt
    go_wp2_with fail
    have hfit : V ≤ 64 * N := by have := HN.out; have := Hq.out; omega
    have hput := putBits_any (q : Int) (V : Int) g N c 0 a (List.replicate N 0) xs _ (hown.alloc (Obj.cells #[Value.int IntKind.i64 q, Value.slice (some ⟨g, 0, none⟩) N N] 61)) (hr.later (Ba B2 _)) (fun x hx => by have := List.eq_of_mem_replicate hx; omega) (by omega) (by simp; omega) hl64 (by rw [List.length_replicate]; exact put_fit hok hxx 0 N (by omega)) (fun x hx => by have := hab x hx; omega)
    rw [List.length_replicate] at hput
    refine hput.mono ?_
    rintro e w4 ⟨rfl, hown4, hgr4⟩
    have bO3 := Blk.new w2 (Value.int IntKind.i64 q) (Value.slice (some ⟨g, 0, none⟩) N N) 61
    have bA3 := bA2.alloc (Obj.cells #[Value.int IntKind.i64 q, Value.slice (some ⟨g, 0, none⟩) N N] 61)
    have bR3 := bR2.alloc (Obj.cells #[Value.int IntKind.i64 q, Value.slice (some ⟨g, 0, none⟩) N N] 61)
    have B3 := Ba B2 (Obj.cells #[Value.int IntKind.i64 q, Value.slice (some ⟨g, 0, none⟩) N N] 61)
    have ho3 := hown.alloc (Obj.cells #[Value.int IntKind.i64 q, Value.slice (some ⟨g, 0, none⟩) N N] 61)
    have f3 := ho3.fr (Nat.le_refl g)
    have m4 : Marked _ w4 (some ⟨g, 0, none⟩) := hgr4
    have bO4 := bO3.mark f3 m4 (by decide)
    have bA4 := bA3.mark f3 m4 (by decide)
    have bR4 := bR3.mark f3 m4 (by decide)
    have B4 := m4.below f3 B3 (by omega)
    have s4 := m4.size
    rw [World.size_alloc] at s4
    have hlen4 : (putTo (List.replicate N 0) xs (0 / 64) (0 % 64) xs.length).length = N := by rw [putTo_len, List.length_replicate]
    have hlt4 := putTo_lt (List.replicate N 0) xs (0 / 64) (0 % 64) xs.length (fun x hx => by have := List.eq_of_mem_replicate hx; omega) hxx
    have htb4 : ∀ j, tb (putTo (List.replicate N 0) xs (0 / 64) (0 % 64) xs.length) j = tb xs j := fun j => by
      rw [tb_put_right hok hxx _ 0 (by simp; omega), tb_zero]; simp
    generalize putTo (List.replicate N 0) xs (0 / 64) (0 % 64) xs.length = y4 at *
    clear hput bO3 bA3 bR3 B3 ho3 f3 m4 hgr4 B2 bA2 bR2 hown c0 c1
    obtain ⟨c0, c1⟩ := bA4.cells
    obtain ⟨d0, d1⟩ := bO4.cells
    have htop : ∀ u : World, Rd u a xs → Calls Tryz.prog 160 #[.agg #[.int .i64 V, .slice a xs.length c]] u fun e w' => e = .returned (.int .u64 (((tb xs (V - 1)).toNat : Nat) : Int)) ∧ Below u.heap.size u w' := fun u hu => by
      have := topBit_any (V - 1) a c xs u hu (by omega)
      rwa [show V - 1 + 1 = V by omega] at this
    have HTOP : Hid _ := htop
    have r4 := hr.later B4
    clear htop
    by_cases hone : sign = true ∧ 0 < m ∧ tb xs (V - 1) = true
    · obtain ⟨rfl, hm0, ht1⟩ := hone
      have hm0i : (0 : Int) < (m : Int) := by omega
      go_wp2_with (go_at_call 160; refine (HTOP.out _ r4).mono ?_; rintro e w5 ⟨rfl, hb5⟩; have bA5 := bA4.next hb5; have bO5 := bO4.next hb5; obtain ⟨c0, c1⟩ := bA5.cells; obtain ⟨d0, d1⟩ := bO5.cells)
      have B5 := chain B4 hb5
      have bR5 := bR4.next hb5
      have hown5 := hown4.later hb5 hown4.lt
      have s5 := hb5.size
      have hfit2 : V + m ≤ 64 * N := by have := HN.out; have := Hq.out; omega
      have hputO : ∀ (u : World) (go : Nat), Own u g y4 → Own u go (onesRow m) → go ≠ g → Calls Tryz.prog 151 #[.agg #[.int .i64 q, .slice (some ⟨g, 0, none⟩) N N], .agg #[.int .i64 m, .slice (some ⟨go, 0, none⟩) ((m + 63) / 64) ((m + 63) / 64)], .int .i64 V] u fun e w' => e = .returned (.tuple #[]) ∧ Own w' g (putTo y4 (onesRow m) (V / 64) (V % 64) ((m + 63) / 64)) ∧ u.grownBy w' (some g) := fun u go k1 k2 k3 => by
        have := putBits_any (q : Int) (m : Int) g N ((m + 63) / 64) V (some ⟨go, 0, none⟩) y4 (onesRow m) u k1 (k2.rd (by rw [onesRow_len]; omega) (onesRow_lt m)) hlt4 (by omega) (by rw [hlen4]; exact hN64) (by rw [onesRow_len]; omega) (by rw [hlen4]; exact put_fit (onesRow_right m hm0 (by omega)) (onesRow_lt m) V N hfit2) (fun x hx => by simp at hx; subst hx; exact k3)
        rw [hlen4, onesRow_len] at this
        exact this
      have HPO : Hid _ := hputO
      clear hputO
      go_region_held3 (fun u => u.cell? ⟨w.heap.size, 0, none⟩ = some (Value.int IntKind.i64 V) ∧ u.cell? ⟨w2.heap.size, 0, none⟩ = some (Value.int IntKind.i64 q) ∧ u.cell? ⟨w2.heap.size, 1, none⟩ = some (Value.slice (some ⟨g, 0, none⟩) N N)) (simp [*])
        (first | (go_at_call 161; refine (onesOf_any m _ (by omega) (by omega)).mono ?_; rintro e w6 ⟨go, rfl, hgo, hoo, hb6⟩; replace hb6 := undrew hb6; have bA6 := Blk.next (w := w5) bA5 hb6; have bO6 := Blk.next (w := w5) bO5 hb6; have hown6 := Own.later (w := w5) hown5 hb6 hown5.lt; obtain ⟨k0, k1⟩ := bA6.cells; obtain ⟨m0, m1⟩ := bO6.cells) | (go_at_call 151; refine (HPO.out w6 go hown6 hoo (by have h9 : w5.heap.size ≤ go := hgo; have := hown5.lt; omega)).mono ?_; rintro e w7 ⟨rfl, hown7, hgr7⟩; have f6 := hown6.fr (Nat.le_refl g); have m7 : Marked w6 w7 (some ⟨g, 0, none⟩) := hgr7; have bA7 := bA6.mark f6 m7 (by decide); have bO7 := bO6.mark f6 m7 (by decide); obtain ⟨k0, k1⟩ := bA7.cells; obtain ⟨m0, m1⟩ := bO7.cells))
      have bR7 := (bR5.next hb6).mark f6 m7 (by decide)
      have B7 := m7.below f6 (chain B5 hb6) (by omega)
      have hlen7 : (putTo y4 (onesRow m) (V / 64) (V % 64) ((m + 63) / 64)).length = N := by rw [putTo_len, hlen4]
      have HQ : Hid (((q : Int), putTo y4 (onesRow m) (V / 64) (V % 64) ((m + 63) / 64), true) = R) := by
        show _ = _
        rw [← HR.out, Int.toNat_natCast, Int.toNat_natCast, ← Hq.out, Int.natCast_add]
        congr 2
        have htt : topOf V xs true = 1 := by unfold topOf; rw [ht1]; rfl
        rw [htt]
        refine wid_pack hok hxx m 1 (Nat.le_refl _) _ (by rw [hlen7, ← HN.out, Hq.out]) (putTo_lt _ _ _ _ _ hlt4 (onesRow_lt m)) fun j hj => ?_
        have hor := onesRow_right m hm0 (by omega)
        rw [← onesRow_len m, tb_put_right hor (onesRow_lt m) y4 V (by rw [hlen4]; exact hfit2), htb4 j]
        by_cases h5 : V ≤ j
        · by_cases h6 : j - V < m
          · rw [tb_ones m hm0 (j - V) (by omega)]
            simp [h5, h6, show j < V + m by omega]
          · rw [tb_out hor (j - V) (by omega)]
            simp [show ¬ j < V + m by omega]
        · simp [h5]
      generalize putTo y4 (onesRow m) (V / 64) (V % 64) ((m + 63) / 64) = y7 at *
      clear HTOP HPO HR hlt4 htb4 hlen4 bA5 bO5 bR5 bA6 bO6 f6 m7 hgr7 hown5 hown6 hoo c0 c1 d0 d1
      obtain ⟨r0, r1⟩ := bR7.cells
      have fr0 := bR7.free 0
      have fr1 := bR7.free 1
      clear bO7 bA7 bR7
      go_wp2
      have hm := RetB.made (w := w) (r := ((q : Int), y7, true)) (c := N) hown7 (by omega) (β := w.heap.size + 1) (by omega) (by omega) B7 HQ.out (Value.int IntKind.i64 q) (Value.slice (some ⟨g, 0, none⟩) N N)
      dsimp only at hm
      rw [hlen7] at hm
      exact bodyPost_ret (by simp [results, Tryz.results154, go_sem, r0, r1]) rfl hm
    · have HQ : Hid (((q : Int), y4, true) = R) := by
        show _ = _
        rw [← HR.out, Int.toNat_natCast, Int.toNat_natCast, ← Hq.out, Int.natCast_add]
        congr 2
        refine wid_pack hok hxx m _ (topOf_le V xs sign) y4 (by rw [hlen4, ← HN.out, Hq.out]) hlt4 fun j hj => ?_
        rw [htb4 j]
        have : (decide (V ≤ j) && decide (j < V + m) && decide (topOf V xs sign = 1)) = false := by
          by_cases h1 : V ≤ j ∧ j < V + m
          · have h3 : topOf V xs sign = 0 := by
              unfold topOf
              cases sign with
              | false => rfl
              | true =>
                cases ht : tb xs (V - 1) with
                | false => simp
                | true => exact absurd ⟨rfl, by omega, ht⟩ hone
            simp [h3]
          · simp; omega
        rw [this]; simp
      have hcase : sign = false ∨ (sign = true ∧ m = 0) ∨ (sign = true ∧ 0 < m ∧ tb xs (V - 1) = false) := by
        cases sign with
        | false => exact .inl rfl
        | true =>
          rcases Nat.eq_zero_or_pos m with h | h
          · exact .inr (.inl ⟨rfl, h⟩)
          · cases ht : tb xs (V - 1) with
            | false => exact .inr (.inr ⟨rfl, h, rfl⟩)
            | true => exact absurd ⟨rfl, h, ht⟩ hone
      clear hone HR hlt4 htb4
      rcases hcase with rfl | ⟨rfl, rfl⟩ | ⟨rfl, hm0, ht0⟩
      · clear HTOP
        obtain ⟨r0, r1⟩ := bR4.cells
        have fr0 := bR4.free 0
        have fr1 := bR4.free 1
        clear bO4 bA4 bR4
        go_wp2
        have hm := RetB.made (w := w) (r := ((q : Int), y4, true)) (c := N) hown4 (by omega) (β := w.heap.size + 1) (by omega) (by omega) B4 HQ.out (Value.int IntKind.i64 q) (Value.slice (some ⟨g, 0, none⟩) N N)
        dsimp only at hm
        rw [hlen4] at hm
        exact bodyPost_ret (by simp [results, Tryz.results154, go_sem, r0, r1]) rfl hm
      · clear HTOP
        obtain ⟨r0, r1⟩ := bR4.cells
        have fr0 := bR4.free 0
        have fr1 := bR4.free 1
        clear bO4 bA4 bR4
        go_wp2
        have hm := RetB.made (w := w) (r := ((q : Int), y4, true)) (c := N) hown4 (by omega) (β := w.heap.size + 1) (by omega) (by omega) B4 HQ.out (Value.int IntKind.i64 q) (Value.slice (some ⟨g, 0, none⟩) N N)
        dsimp only at hm
        rw [hlen4] at hm
        exact bodyPost_ret (by simp [results, Tryz.results154, go_sem, r0, r1]) rfl hm
      · have hm0i : (0 : Int) < (m : Int) := by omega
        go_wp2_with fail
        refine (HTOP.out _ r4).mono ?_
        rintro e w5 ⟨rfl, hb5⟩
        rw [ht0]
        have bA5 := bA4.next hb5
        have bO5 := bO4.next hb5
        have bR5 := bR4.next hb5
        have B5 := chain B4 hb5
        have hown5 := hown4.later hb5 hown4.lt
        clear c0 c1 d0 d1
        obtain ⟨c0, c1⟩ := bA5.cells
        obtain ⟨d0, d1⟩ := bO5.cells
        obtain ⟨r0, r1⟩ := bR5.cells
        have fr0 := bR5.free 0
        have fr1 := bR5.free 1
        clear bO5 bA5 bR5
        go_wp2
        have hm := RetB.made (w := w) (r := ((q : Int), y4, true)) (c := N) hown5 (by omega) (β := w.heap.size + 1) (by omega) (by omega) B5 HQ.out (Value.int IntKind.i64 q) (Value.slice (some ⟨g, 0, none⟩) N N)
        dsimp only at hm
        rw [hlen4] at hm
        exact bodyPost_ret (by simp [results, Tryz.results154, go_sem, r0, r1]) rfl hm
  · rw [wdnR, if_neg hc]
    have hcase : rightB W xs = false ∨ (rightB W xs = true ∧ n < 0) ∨ (rightB W xs = true ∧ 0 ≤ n ∧ 4096 < n) ∨ (rightB W xs = true ∧ 0 ≤ n ∧ n ≤ 4096 ∧ 4096 < W + n ∧ W ≤ 4096) := by
      cases hb : rightB W xs with
      | false => exact .inl rfl
      | true =>
        have hw4 := right_W hb
        simp [hb] at hc ⊢; omega
    clear hc
    rcases hcase with h | ⟨h, h1⟩ | ⟨h, h1, h3⟩ | ⟨h, h1, h3, h4, h5⟩
    all_goals
      go_enter Tryz.func154, Tryz.ntmps154
      go_wp2_with fail
      refine (implOk_any _ _ _ _ _ hr').mono ?_
      rintro e w1 ⟨rfl, hb1⟩
      obtain ⟨hcc, hff⟩ := bcell hb1
      have hz : w.heap.size + 1 < w1.heap.size := by have := hb1.size; simp at this; omega
      go_wp2
      exact bodyPost_ret (v := .tuple #[.agg #[.int .i64 0, .slice none 0 0], .bool false]) (by simp [results, Tryz.results154, go_sem, hcc]) rfl (RetB.no (((h2.trans (hb1.mono (by simp; omega))).setCell (by simp) _).setCell (by simp) _))

end Go.Proofs.YtdlmgndmfphneaaGreatDoor

/- What the given TurnBits answers. -/
namespace Go.Proofs.YtdlmgndmfphneaaGreatDoor
set_option linter.unusedVariables false
set_option linter.unusedSimpArgs false
open Go.RowKit

theorem OwB.made (w : World) (base n : Nat) (h : base ≤ w.heap.size) (hn : n ≤ 4194304) : OwB (w.alloc (.cells (madeCells #[.int .u8 0] n) 5)) base (.slice (some ⟨w.heap.size, 0, none⟩) n n) (List.replicate n 0) := by
  refine ⟨by simp [u8s], .inr ⟨w.heap.size, n, madeCells #[.int .u8 0] n, by simp, h, heap_alloc_new _ _, by simp, by unfold maxLen; omega, ?_, ?_⟩⟩
  · rw [← Array.length_toList, toList_madeCells_one]; simp
  · rw [toList_madeCells_one]; simp [u8s]

def tuTo (L : List Nat) (m : Nat) : Nat → List Nat
  | 0 => List.replicate L.length 0
  | k + 1 => (tuTo L m k).set ((k + m) % L.length) (L.getD k 0)

theorem tuTo_len (L : List Nat) (m k : Nat) : (tuTo L m k).length = L.length := by
  induction k with
  | zero => simp [tuTo]
  | succ k ih => rw [tuTo, List.length_set, ih]

theorem getD_mem_le {L : List Nat} (h : ∀ x ∈ L, x ≤ 1) (i : Nat) : L.getD i 0 ≤ 1 := by
  by_cases hi : i < L.length
  · have : L.getD i 0 = L[i] := by simp [List.getD, hi]
    rw [this]; exact h _ (List.getElem_mem hi)
  · have : L.getD i 0 = 0 := by simp [List.getD, hi]
    omega

theorem tuTo_le (L : List Nat) (h : ∀ x ∈ L, x ≤ 1) (m k : Nat) : ∀ x ∈ tuTo L m k, x ≤ 1 := by
  induction k with
  | zero => intro x hx; have := List.eq_of_mem_replicate hx; omega
  | succ k ih =>
    intro x hx
    rcases List.mem_or_eq_of_mem_set hx with h' | h'
    · exact ih x h'
    · rw [h']; exact getD_mem_le h k

theorem add_mod_case (k m V : Nat) (hk : k < V) : (k + m) % V = if k + m % V < V then k + m % V else k + m % V - V := by
  have hr : m % V < V := Nat.mod_lt _ (by omega)
  rw [← Nat.add_mod_mod]
  split
  · exact Nat.mod_eq_of_lt (by assumption)
  · rw [Nat.mod_eq_sub_mod (by omega), Nat.mod_eq_of_lt (by omega)]

theorem tuTo_get (L : List Nat) (m k j : Nat) (hk : k ≤ L.length) (hj : j < L.length) :
    (tuTo L m k).getD j 0 = if (if j < m % L.length then j + L.length - m % L.length else j - m % L.length) < k then L.getD (if j < m % L.length then j + L.length - m % L.length else j - m % L.length) 0 else 0 := by
  have hr : m % L.length < L.length := Nat.mod_lt _ (by omega)
  induction k with
  | zero => simp [tuTo, List.getD, hj]
  | succ k ih =>
    have ih := ih (by omega)
    have hp := add_mod_case k m L.length (by omega)
    have hlen := tuTo_len L m k
    rw [tuTo, hp]
    generalize m % L.length = r at *
    generalize hq : (if k + r < L.length then k + r else k + r - L.length) = q
    generalize hs : (if j < r then j + L.length - r else j - r) = s at *
    have hqs : q = j ↔ s = k := by
      rw [← hq, ← hs]
      split <;> split <;> omega
    by_cases e : s = k
    · have e2 := hqs.2 e
      subst e2
      rw [if_pos (by omega), e]
      simp [List.getD, hlen, hj]
    · have e2 : q ≠ j := fun h => e (hqs.1 h)
      have e3 : ((tuTo L m k).set q (L.getD k 0)).getD j 0 = (tuTo L m k).getD j 0 := by
        simp only [List.getD]
        rw [List.getElem?_set_ne e2]
      rw [e3, ih]
      by_cases h5 : s < k
      · rw [if_pos h5, if_pos (by omega)]
      · rw [if_neg h5, if_neg (by omega)]

theorem tuTo_all (L : List Nat) (m : Nat) (hp : 0 < L.length) : tuTo L m L.length = turnL L (m % L.length) := by
  have hr : m % L.length < L.length := Nat.mod_lt _ hp
  refine List.ext_getElem? fun j => ?_
  by_cases hj : j < L.length
  · have h := tuTo_get L m L.length j (Nat.le_refl _) hj
    have h1 : (tuTo L m L.length)[j]? = some ((tuTo L m L.length).getD j 0) := by
      simp [List.getD, tuTo_len, hj]
    have h2 : (turnL L (m % L.length))[j]? = some ((turnL L (m % L.length)).getD j 0) := by
      simp [List.getD, turnL_len, hj]
    rw [h1, h2, h]
    congr 1
    generalize m % L.length = r at *
    unfold turnL
    by_cases c : j < r
    · rw [if_pos c, if_pos (by omega)]
      simp only [List.getD]
      rw [List.getElem?_append_left (by simp; omega), List.getElem?_drop]
      congr 2
      omega
    · rw [if_neg c, if_pos (by omega)]
      simp only [List.getD]
      rw [List.getElem?_append_right (by simp; omega), List.length_drop, List.getElem?_take_of_lt (by omega)]
      congr 2
      omega
  · rw [List.getElem?_eq_none (by rw [tuTo_len]; omega), List.getElem?_eq_none (by rw [turnL_len]; omega)]

end Go.Proofs.YtdlmgndmfphneaaGreatDoor
