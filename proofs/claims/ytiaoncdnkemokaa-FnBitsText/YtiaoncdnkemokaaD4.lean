/- What the given ReadBits answers: texts of 16 digits. -/
import Derived.Test.YtiaoncdnkemokaaD3
import Derived.Test.YtiaoncdnkemokaaZ3
namespace Go.Proofs.Ytiaoncdnkemokaa
set_option linter.unusedVariables false
set_option linter.unusedSimpArgs false
open Go.RowKit

theorem and1 (z : Nat) (h : z < 16) : bits BinOp.and IntKind.i64 ((z : Nat) : Int) 1 % 256 = ((z % 2 : Nat) : Int) := by
  have := and_i64 z 1 (by omega) (by decide)
  rw [show (1 : Int) = ((1 : Nat) : Int) by rfl, this, Nat.and_one_is_mod]
  omega

set_option maxHeartbeats 2000000 in
set_option maxRecDepth 100000 in
theorem specRead_x (s : ByteArray) (w : World) (h3 : 3 ≤ s.size) (h4 : s.size ≤ 4098) (e0 : bn s 0 = 35) (e1 : bn s 1 = 120) :
    Calls Try.prog 26 #[.string s] w (RetB w (match readTo true s (s.size - 2) with | none => noR | some l => fromR l.reverse)) := by
  have hb := get_bn s
  have h2 : Below w.heap.size w (w.alloc (Obj.cells #[Value.int IntKind.i64 0, Value.slice none 0 0] 26)) := Ba (Below.refl _ _) _
  have bR0 := Blk.new w (Value.int IntKind.i64 0) (Value.slice none 0 0) 26
  generalize hR : (match readTo true s (s.size - 2) with | none => noR | some l => fromR l.reverse) = R
  have HR : Hid ((match readTo true s (s.size - 2) with | none => noR | some l => fromR l.reverse) = R) := hR
  clear hR
  go_enter Try.func26, Try.ntmps26
  go_wp2
  have ho3 := OwB.nil (w.alloc (Obj.cells #[Value.int IntKind.i64 0, Value.slice none 0 0] 26)) (w.heap.size + 1) (w.heap.size + 1) (by simp) (Nat.le_refl _)
  have b3 := Ba h2 (.cells #[] 5)
  have bR3 := bR0.alloc (.cells #[] 5)
  have hz3 : w.heap.size + 1 ≤ ((w.alloc (Obj.cells #[Value.int IntKind.i64 0, Value.slice none 0 0] 26)).alloc (.cells #[] 5)).heap.size := by simp
  generalize (w.alloc (Obj.cells #[Value.int IntKind.i64 0, Value.slice none 0 0] 26)).alloc (.cells #[] 5) = w3 at *
  clear bR0 h2
  go_loopw [4, 5] (fun v i wr => ∃ (k : Nat) (l : List Nat), k ≤ s.size - 2 ∧ i = .int .i64 ((k : Int) + 2) ∧ readTo true s k = some l ∧ OwB wr (w.heap.size + 1) v l ∧ Blk wr w.heap.size (Value.int IntKind.i64 0) (Value.slice none 0 0) 26 ∧ Below w.heap.size w wr ∧ w.heap.size + 1 ≤ wr.heap.size) (fun _ i _ => s.size - (intOf i).toNat)
  case atStart => exact ⟨0, [], Nat.zero_le _, rfl, rfl, ho3, bR3, b3, hz3⟩
  case round =>
    obtain ⟨k, l, hk, rfl, hl, hown, bR, B, hz⟩ := hrel
    clear ho3 b3 bR3 hz3
    obtain ⟨hl1, hl2⟩ := readTo_len hl
    have HL : Hid (readTo true s k = some l) := hl
    clear hl
    by_cases hlt : k + 2 < s.size
    · have hki : (k : Int) + 2 < (s.size : Int) := by omega
      have hkn : ((k : Int) + 2).toNat = k + 2 := by omega
      have hk0 : (0 : Int) ≤ (k : Int) + 2 := by omega
      have hhex := fun u => l1Hex_any (bn s (k + 2)) u (bn_lt s _)
      have HH : Hid _ := hhex
      have hh := hexI_le (bn s (k + 2))
      have HT : Hid (readTo true s (k + 1) = if okDig true (hexI (bn s (k + 2))) = true then some (l ++ digs true (hexI (bn s (k + 2))).toNat) else none) := by
        show _ = _
        rw [readTo, HL.out]; rfl
      clear hhex
      have hsz := HL
      generalize hch : bn s (k + 2) = ch at *
      generalize hexI ch = n at *
      obtain ⟨r0, r1⟩ := bR.cells
      have f0 := bR.free 0
      have f1 := bR.free 1
      by_cases hd : 0 ≤ n
      · obtain ⟨y, rfl⟩ := Int.eq_ofNat_of_zero_le hd
        have HT2 : Hid (readTo true s (k + 1) = some (l ++ digs true y)) := by
          show _ = _
          rw [HT.out, if_pos (by simp [okDig])]
          rfl
        have hn0 : ¬ (y : Int) < 0 := by omega
        have hbl : l.length ≤ 4194304 := by omega
        clear HT HL hsz
        go_wp2_with (go_at_call 68; refine (HH.out _).mono ?_; rintro e w' ⟨rfl, rfl⟩)
        clear r0 r1 f0 f1
        go_loopw [4, 7] (fun v kk wr' => ∃ j : Nat, j ≤ 4 ∧ kk = .int .i64 (3 - (j : Int)) ∧ OwB wr' (w.heap.size + 1) v (l ++ (digs true y).take j) ∧ Blk wr' w.heap.size (Value.int IntKind.i64 0) (Value.slice none 0 0) 26 ∧ Below w.heap.size w wr' ∧ w.heap.size + 1 ≤ wr'.heap.size) (fun _ kk _ => ((intOf kk) + 1).toNat)
        case atStart => exact ⟨0, Nat.zero_le _, rfl, by simpa using hown, bR, B, hz⟩
        case round =>
          obtain ⟨j, hj, rfl, hownj, bRj, Bj, hzj⟩ := hrel
          by_cases hj4 : j = 4
          · subst hj4
            go_wp2
            exact ⟨⟨k + 1, _, by omega, by go_num, HT2.out, by simpa [digs] using hownj, bRj, Bj, hzj⟩, by simp [intOf]; omega⟩
          · have hjc : j = 0 ∨ j = 1 ∨ j = 2 ∨ j = 3 := by omega
            have hy15 : y ≤ 15 := by omega
            have a8 : bits BinOp.and IntKind.i64 ((y : Int) / 8) 1 % 256 = ((y / 8 % 2 : Nat) : Int) := and1 (y / 8) (by omega)
            have a4 : bits BinOp.and IntKind.i64 ((y : Int) / 4) 1 % 256 = ((y / 4 % 2 : Nat) : Int) := and1 (y / 4) (by omega)
            have a2 : bits BinOp.and IntKind.i64 ((y : Int) / 2) 1 % 256 = ((y / 2 % 2 : Nat) : Int) := and1 (y / 2) (by omega)
            have a1 : bits BinOp.and IntKind.i64 (y : Int) 1 % 256 = ((y % 2 : Nat) : Int) := and1 y (by omega)
            have HD : Hid (digs true y = [y / 8 % 2, y / 4 % 2, y / 2 % 2, y % 2]) := rfl
            generalize digs true y = dg at *
            generalize y / 8 % 2 = q8 at *
            generalize y / 4 % 2 = q4 at *
            generalize y / 2 % 2 = q2 at *
            generalize y % 2 = q1 at *
            rcases hjc with rfl | rfl | rfl | rfl
            · have HN : Hid (l ++ dg.take (1) = (l ++ dg.take 0) ++ [q8]) := by show _ = _; rw [HD.out]; simp
              have hbj : (l ++ dg.take 0).length ≤ 4194304 := by rw [HD.out]; simp; omega
              clear HD
              generalize l ++ dg.take 0 = lj at *
              go_wp2_with (at_builtin; refine wpList_appB _ rfl _ _ rfl (w.heap.size + 1) _ lj q8 rfl (hownj.alloc _) _ rfl (by simp) hbj (by simp; omega) ?_)
              intro v' w5 hown5 hgr5
              have c5 := ((Below.refl (w.heap.size + 1) _).alloc (by omega) _).grown hgr5 (by simp; omega) hownj.own
              have B5 : Below w.heap.size w w5 := Bj.trans (c5.mono (by omega))
              have bR5 : Blk w5 w.heap.size (Value.int IntKind.i64 0) (Value.slice none 0 0) 26 := by unfold Blk; rw [c5.block _ (by omega)]; exact bRj
              have hz5 : w.heap.size + 1 ≤ w5.heap.size := by have := c5.size; omega
              clear hgr5 hownj bRj Bj c5 a8 a4 a2 a1
              go_wp2
              exact ⟨⟨1, by omega, by go_num, by rw [HN.out]; exact hown5, bR5, B5, hz5⟩, by simp [intOf]⟩
            · have HN : Hid (l ++ dg.take (2) = (l ++ dg.take 1) ++ [q4]) := by show _ = _; rw [HD.out]; simp
              have hbj : (l ++ dg.take 1).length ≤ 4194304 := by rw [HD.out]; simp; omega
              clear HD
              generalize l ++ dg.take 1 = lj at *
              go_wp2_with (at_builtin; refine wpList_appB _ rfl _ _ rfl (w.heap.size + 1) _ lj q4 rfl (hownj.alloc _) _ rfl (by simp) hbj (by simp; omega) ?_)
              intro v' w5 hown5 hgr5
              have c5 := ((Below.refl (w.heap.size + 1) _).alloc (by omega) _).grown hgr5 (by simp; omega) hownj.own
              have B5 : Below w.heap.size w w5 := Bj.trans (c5.mono (by omega))
              have bR5 : Blk w5 w.heap.size (Value.int IntKind.i64 0) (Value.slice none 0 0) 26 := by unfold Blk; rw [c5.block _ (by omega)]; exact bRj
              have hz5 : w.heap.size + 1 ≤ w5.heap.size := by have := c5.size; omega
              clear hgr5 hownj bRj Bj c5 a8 a4 a2 a1
              go_wp2
              exact ⟨⟨2, by omega, by go_num, by rw [HN.out]; exact hown5, bR5, B5, hz5⟩, by simp [intOf]⟩
            · have HN : Hid (l ++ dg.take (3) = (l ++ dg.take 2) ++ [q2]) := by show _ = _; rw [HD.out]; simp
              have hbj : (l ++ dg.take 2).length ≤ 4194304 := by rw [HD.out]; simp; omega
              clear HD
              generalize l ++ dg.take 2 = lj at *
              go_wp2_with (at_builtin; refine wpList_appB _ rfl _ _ rfl (w.heap.size + 1) _ lj q2 rfl (hownj.alloc _) _ rfl (by simp) hbj (by simp; omega) ?_)
              intro v' w5 hown5 hgr5
              have c5 := ((Below.refl (w.heap.size + 1) _).alloc (by omega) _).grown hgr5 (by simp; omega) hownj.own
              have B5 : Below w.heap.size w w5 := Bj.trans (c5.mono (by omega))
              have bR5 : Blk w5 w.heap.size (Value.int IntKind.i64 0) (Value.slice none 0 0) 26 := by unfold Blk; rw [c5.block _ (by omega)]; exact bRj
              have hz5 : w.heap.size + 1 ≤ w5.heap.size := by have := c5.size; omega
              clear hgr5 hownj bRj Bj c5 a8 a4 a2 a1
              go_wp2
              exact ⟨⟨3, by omega, by go_num, by rw [HN.out]; exact hown5, bR5, B5, hz5⟩, by simp [intOf]⟩
            · have HN : Hid (l ++ dg.take (4) = (l ++ dg.take 3) ++ [q1]) := by show _ = _; rw [HD.out]; simp
              have hbj : (l ++ dg.take 3).length ≤ 4194304 := by rw [HD.out]; simp; omega
              clear HD
              generalize l ++ dg.take 3 = lj at *
              go_wp2_with (at_builtin; refine wpList_appB _ rfl _ _ rfl (w.heap.size + 1) _ lj q1 rfl (hownj.alloc _) _ rfl (by simp) hbj (by simp; omega) ?_)
              intro v' w5 hown5 hgr5
              have c5 := ((Below.refl (w.heap.size + 1) _).alloc (by omega) _).grown hgr5 (by simp; omega) hownj.own
              have B5 : Below w.heap.size w w5 := Bj.trans (c5.mono (by omega))
              have bR5 : Blk w5 w.heap.size (Value.int IntKind.i64 0) (Value.slice none 0 0) 26 := by unfold Blk; rw [c5.block _ (by omega)]; exact bRj
              have hz5 : w.heap.size + 1 ≤ w5.heap.size := by have := c5.size; omega
              clear hgr5 hownj bRj Bj c5 a8 a4 a2 a1
              go_wp2
              exact ⟨⟨4, by omega, by go_num, by rw [HN.out]; exact hown5, bR5, B5, hz5⟩, by simp [intOf]⟩
      · have HT2 : Hid (readTo true s (k + 1) = none) := by
          show _ = _
          rw [HT.out, if_neg (by simp [okDig]; omega)]
        have HQ : Hid (noR = R) := by
          show _ = _
          have h := readTo_none HT2.out (s.size - 2 - (k + 1))
          rw [show k + 1 + (s.size - 2 - (k + 1)) = s.size - 2 by omega] at h
          rw [← HR.out, h]
        clear HT HL hsz HR HT2
        have hn : n < 0 := by omega
        go_wp2_with (go_at_call 68; refine (HH.out _).mono ?_; rintro e w' ⟨rfl, rfl⟩)
        refine bodyPost_ret (v := .tuple #[.agg #[.int .i64 0, .slice none 0 0], .bool false]) (by simp [results, Try.results26, go_sem, r0, r1]) rfl ?_
        rw [← HQ.out]
        exact RetB.no ((B.setCell (by simp) _).setCell (by simp) _)
    · have ek : s.size - 2 = k := by omega
      have HQ : Hid (fromR l.reverse = R) := by show _ = _; rw [← HR.out, ek, HL.out]
      obtain ⟨a5, c5, rfl, hrb5, -, -⟩ := hown.shape (by omega) (fun x hx => by have := hl2 x hx; omega)
      have hki : ¬ (k : Int) + 2 < (s.size : Int) := by omega
      clear HR HL ek
      have hrev : l.reverse.length = l.length := List.length_reverse
      go_wp2_with fail
      refine (l1Turned_any _ _ _ _ hrb5).mono ?_
      rintro e w5 ⟨v6, rfl, how6, hb6⟩
      obtain ⟨a6, c6, rfl, hrb6, -, -⟩ := how6.shape (by rw [hrev]; omega) (fun x hx => by have := hl2 x (List.mem_reverse.1 hx); omega)
      have B6 := chain B hb6
      have bR6 := bR.next hb6
      have hz6 := bR6.lt
      clear hrev hown hrb5 how6 hb6 bR B
      generalize l.reverse = lr at *
      go_wp2_with fail
      refine (l1From_any _ _ _ _ hrb6).mono ?_
      rintro e w7 ⟨a8, c8, rfl, hfr8, hb8⟩
      have B8 := chain B6 hb8
      have bR8 := bR6.next hb8
      obtain ⟨r0, r1⟩ := bR8.cells
      have f0 := bR8.free 0
      have f1 := bR8.free 1
      go_wp2
      exact bodyPost_ret (by simp [results, Try.results26, go_sem, r0, r1]; rfl) rfl (RetB.close (r := fromR lr) hfr8 (by omega) hz6 B8 HQ.out _ _)

end Go.Proofs.Ytiaoncdnkemokaa
