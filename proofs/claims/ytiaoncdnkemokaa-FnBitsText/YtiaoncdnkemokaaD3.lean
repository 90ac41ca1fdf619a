/- What the given ReadBits answers. -/
import Derived.Test.YtiaoncdnkemokaaD2
import Derived.Test.YtiaoncdnkemokaaG1
namespace Go.Proofs.Ytiaoncdnkemokaa
set_option linter.unusedVariables false
set_option linter.unusedSimpArgs false
open Go.RowKit

/-- The byte at a place of a text. -/
def bn (s : ByteArray) (k : Nat) : Nat := if h : k < s.size then (s[k]'h).toNat else 0
theorem get_bn (s : ByteArray) : ∀ (n : Nat) (h : n < s.size), (s[n]'h).toNat = bn s n := fun n h => by unfold bn; rw [dif_pos h]
theorem bn_lt (s : ByteArray) (k : Nat) : bn s k < 256 := by
  unfold bn; split
  · exact UInt8.toNat_lt _
  · omega

theorem hexI_le (c : Nat) : -1 ≤ hexI c ∧ hexI c ≤ 15 := by
  unfold hexI; split
  · omega
  · split <;> omega

def okDig (x : Bool) (n : Int) : Bool := decide (0 ≤ n) && (x || decide (n ≤ 1))

/-- The bits of a digit, the highest first. -/
def digs (x : Bool) (n : Nat) : List Nat := if x then [n / 8 % 2, n / 4 % 2, n / 2 % 2, n % 2] else [n]

/-- The bits of the first k digits of a text. -/
def readTo (x : Bool) (s : ByteArray) : Nat → Option (List Nat)
  | 0 => some []
  | k + 1 => (readTo x s k).bind fun l => if okDig x (hexI (bn s (k + 2))) = true then some (l ++ digs x (hexI (bn s (k + 2))).toNat) else none

def readR (s : ByteArray) : Int × List Nat × Bool :=
  if 3 ≤ s.size ∧ s.size ≤ 4098 ∧ bn s 0 = 35 ∧ (bn s 1 = 98 ∨ bn s 1 = 120) then
    match readTo (bn s 1 == 120) s (s.size - 2) with
    | none => noR
    | some l => fromR l.reverse
  else noR

theorem readTo_none {x : Bool} {s : ByteArray} {k : Nat} (h : readTo x s k = none) (j : Nat) : readTo x s (k + j) = none := by
  induction j with
  | zero => exact h
  | succ j ih => rw [← Nat.add_assoc, readTo, ih]; rfl

theorem readTo_len {x : Bool} {s : ByteArray} {k : Nat} {l : List Nat} (h : readTo x s k = some l) : l.length ≤ 4 * k ∧ ∀ y ∈ l, y ≤ 1 := by
  induction k generalizing l with
  | zero => simp [readTo] at h; subst h; simp
  | succ k ih =>
    rw [readTo] at h
    obtain ⟨l0, h0, h1⟩ := Option.bind_eq_some_iff.1 h
    obtain ⟨i1, i2⟩ := ih h0
    by_cases hd : okDig x (hexI (bn s (k + 2))) = true
    · rw [if_pos hd] at h1
      simp at h1
      subst h1
      have hh := hexI_le (bn s (k + 2))
      generalize hexI (bn s (k + 2)) = n at *
      unfold digs
      cases x with
      | true => refine ⟨by simp; omega, fun y hy => ?_⟩
                rcases List.mem_append.1 hy with h | h
                · exact i2 y h
                · simp at h; omega
      | false =>
        simp [okDig] at hd
        refine ⟨by simp; omega, fun y hy => ?_⟩
        rcases List.mem_append.1 hy with h | h
        · exact i2 y h
        · simp at h; omega
    · rw [if_neg hd] at h1; cases h1

set_option maxHeartbeats 2000000 in
set_option maxRecDepth 100000 in
theorem specRead_b (s : ByteArray) (w : World) (h3 : 3 ≤ s.size) (h4 : s.size ≤ 4098) (e0 : bn s 0 = 35) (e1 : bn s 1 = 98) :
    Calls Try.prog 26 #[.string s] w (RetB w (match readTo false s (s.size - 2) with | none => noR | some l => fromR l.reverse)) := by
  have hb := get_bn s
  have h2 : Below w.heap.size w (w.alloc (Obj.cells #[Value.int IntKind.i64 0, Value.slice none 0 0] 26)) := Ba (Below.refl _ _) _
  have bR0 := Blk.new w (Value.int IntKind.i64 0) (Value.slice none 0 0) 26
  generalize hR : (match readTo false s (s.size - 2) with | none => noR | some l => fromR l.reverse) = R
  have HR : Hid ((match readTo false s (s.size - 2) with | none => noR | some l => fromR l.reverse) = R) := hR
  clear hR
  go_enter Try.func26, Try.ntmps26
  go_wp2
  have ho3 := OwB.nil (w.alloc (Obj.cells #[Value.int IntKind.i64 0, Value.slice none 0 0] 26)) (w.heap.size + 1) (w.heap.size + 1) (by simp) (Nat.le_refl _)
  have b3 := Ba h2 (.cells #[] 5)
  have bR3 := bR0.alloc (.cells #[] 5)
  have hz3 : w.heap.size + 1 ≤ ((w.alloc (Obj.cells #[Value.int IntKind.i64 0, Value.slice none 0 0] 26)).alloc (.cells #[] 5)).heap.size := by simp
  generalize (w.alloc (Obj.cells #[Value.int IntKind.i64 0, Value.slice none 0 0] 26)).alloc (.cells #[] 5) = w3 at *
  clear bR0 h2
  go_loopw [4, 5] (fun v i wr => ∃ (k : Nat) (l : List Nat), k ≤ s.size - 2 ∧ i = .int .i64 ((k : Int) + 2) ∧ readTo false s k = some l ∧ OwB wr (w.heap.size + 1) v l ∧ Blk wr w.heap.size (Value.int IntKind.i64 0) (Value.slice none 0 0) 26 ∧ Below w.heap.size w wr ∧ w.heap.size + 1 ≤ wr.heap.size) (fun _ i _ => s.size - (intOf i).toNat)
  case atStart => exact ⟨0, [], Nat.zero_le _, rfl, rfl, ho3, bR3, b3, hz3⟩
  case round =>
    obtain ⟨k, l, hk, rfl, hl, hown, bR, B, hz⟩ := hrel
    clear ho3 b3 bR3 hz3
    obtain ⟨hl1, hl2⟩ := readTo_len hl
    have HL : Hid (readTo false s k = some l) := hl
    clear hl
    by_cases hlt : k + 2 < s.size
    · have hki : (k : Int) + 2 < (s.size : Int) := by omega
      have hkn : ((k : Int) + 2).toNat = k + 2 := by omega
      have hk0 : (0 : Int) ≤ (k : Int) + 2 := by omega
      have hhex := fun u => l1Hex_any (bn s (k + 2)) u (bn_lt s _)
      have HH : Hid _ := hhex
      have hh := hexI_le (bn s (k + 2))
      have HT : Hid (readTo false s (k + 1) = if okDig false (hexI (bn s (k + 2))) = true then some (l ++ digs false (hexI (bn s (k + 2))).toNat) else none) := by
        show _ = _
        rw [readTo, HL.out]; rfl
      clear hhex
      have hsz := HL
      generalize hch : bn s (k + 2) = ch at *
      generalize hexI ch = n at *
      obtain ⟨r0, r1⟩ := bR.cells
      have f0 := bR.free 0
      have f1 := bR.free 1
      by_cases hd : 0 ≤ n ∧ n ≤ 1
      · obtain ⟨hd1, hd2⟩ := hd
        obtain ⟨y, rfl⟩ := Int.eq_ofNat_of_zero_le hd1
        have HT2 : Hid (readTo false s (k + 1) = some (l ++ [y])) := by
          show _ = _
          rw [HT.out, if_pos (by simp [okDig]; omega)]
          simp [digs]
        have hn1 : ¬ (1 : Int) < (y : Int) := by omega
        have hn0 : ¬ (y : Int) < 0 := by omega
        have hbl : l.length ≤ 4194304 := by omega
        clear HT HL hsz
        go_wp2_with (first | (go_at_call 68; refine (HH.out _).mono ?_; rintro e w' ⟨rfl, rfl⟩) | (at_builtin; refine wpList_appB _ rfl _ _ rfl (w.heap.size + 1) _ l y rfl (hown.alloc _) _ rfl (by simp) hbl (by simp; omega) ?_))
        intro v' w5 hown5 hgr5
        have c5 := ((Below.refl (w.heap.size + 1) w').alloc (by omega) _).grown hgr5 (by simp; omega) hown.own
        have B5 : Below w.heap.size w w5 := B.trans (c5.mono (by omega))
        have bR5 : Blk w5 w.heap.size (Value.int IntKind.i64 0) (Value.slice none 0 0) 26 := by unfold Blk; rw [c5.block _ (by omega)]; exact bR
        have hz5 : w.heap.size + 1 ≤ w5.heap.size := by have := c5.size; omega
        clear hgr5 hown bR B r0 r1 f0 f1 c5
        go_wp2
        exact ⟨⟨k + 1, _, by omega, by go_num, HT2.out, hown5, bR5, B5, hz5⟩, by simp [intOf]; omega⟩
      · have HT2 : Hid (readTo false s (k + 1) = none) := by
          show _ = _
          rw [HT.out, if_neg (by simp [okDig]; omega)]
        have HQ : Hid (noR = R) := by
          show _ = _
          have h := readTo_none HT2.out (s.size - 2 - (k + 1))
          rw [show k + 1 + (s.size - 2 - (k + 1)) = s.size - 2 by omega] at h
          rw [← HR.out, h]
        clear HT HL hsz HR HT2
        have hcase : n < 0 ∨ (¬ n < 0 ∧ 1 < n) := by omega
        rcases hcase with hn | ⟨hn, hn'⟩
        · go_wp2_with (go_at_call 68; refine (HH.out _).mono ?_; rintro e w' ⟨rfl, rfl⟩)
          refine bodyPost_ret (v := .tuple #[.agg #[.int .i64 0, .slice none 0 0], .bool false]) (by simp [results, Try.results26, go_sem, r0, r1]) rfl ?_
          rw [← HQ.out]
          exact RetB.no ((B.setCell (by simp) _).setCell (by simp) _)
        · go_wp2_with (go_at_call 68; refine (HH.out _).mono ?_; rintro e w' ⟨rfl, rfl⟩)
          refine bodyPost_ret (v := .tuple #[.agg #[.int .i64 0, .slice none 0 0], .bool false]) (by simp [results, Try.results26, go_sem, r0, r1]) rfl ?_
          rw [← HQ.out]
          exact RetB.no ((B.setCell (by simp) _).setCell (by simp) _)
    · have ek : s.size - 2 = k := by omega
      have HQ : Hid (fromR l.reverse = R) := by show _ = _; rw [← HR.out, ek, HL.out]
      obtain ⟨a5, c5, rfl, hrb5, -, -⟩ := hown.shape (by omega) (fun x hx => by have := hl2 x hx; omega)
      have hki : ¬ (k : Int) + 2 < (s.size : Int) := by omega
      clear HR HL ek
      have hrev : l.reverse.length = l.length := List.length_reverse
      go_wp2_with fail
      refine (l1Turned_any _ _ _ _ hrb5).mono ?_
      rintro e w5 ⟨v6, rfl, how6, hb6⟩
      obtain ⟨a6, c6, rfl, hrb6, -, -⟩ := how6.shape (by rw [hrev]; omega) (fun x hx => by have := hl2 x (List.mem_reverse.1 hx); omega)
      have B6 := chain B hb6
      have bR6 := bR.next hb6
      have hz6 := bR6.lt
      clear hrev hown hrb5 how6 hb6 bR B
      generalize l.reverse = lr at *
      go_wp2_with fail
      refine (l1From_any _ _ _ _ hrb6).mono ?_
      rintro e w7 ⟨a8, c8, rfl, hfr8, hb8⟩
      have B8 := chain B6 hb8
      have bR8 := bR6.next hb8
      obtain ⟨r0, r1⟩ := bR8.cells
      have f0 := bR8.free 0
      have f1 := bR8.free 1
      go_wp2
      exact bodyPost_ret (by simp [results, Try.results26, go_sem, r0, r1]; rfl) rfl (RetB.close (r := fromR lr) hfr8 (by omega) hz6 B8 HQ.out _ _)

end Go.Proofs.Ytiaoncdnkemokaa
