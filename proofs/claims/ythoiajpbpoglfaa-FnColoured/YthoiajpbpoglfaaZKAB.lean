/- Several texts in one. -/
import Derived.Test.YthoiajpbpoglfaaA
import Derived.Test.YthoiajpbpoglfaaB
import Derived.Deep.OwnRows
import Derived.Test.YthoiajpbpoglfaaZKAA
import Derived.WalkKit
import Derived.WalkSpells
import Derived.Deep.QuietTactic
import Derived.BigQuiet
import Derived.Outline
import Derived.WalkSmall
import Derived.BigRegion

/- What the two BitsOk answer: both say just of right rows that they are right. -/
namespace Go.Proofs.Ythoiajpbpoglfaa
set_option linter.unusedVariables false
set_option linter.unusedSimpArgs false
open Go.RowKit

theorem decide_wOk (W : Int) : decide (1 ≤ W ∧ W ≤ 4096) = wOk W := rfl

theorem ret_bool {a b : Bool} (h : a = b) : Ending.returned (.bool a) = .returned (.bool b) := by rw [h]
theorem ret_int {k : IntKind} {a b : Int} (h : a = b) : Ending.returned (.int k a) = .returned (.int k b) := by rw [h]

theorem implOk_any (W : Int) (a : Option Addr) (c : Nat) (xs : List Nat) (w : World) (hr : Rd w a xs) :
    Calls Try.prog 52 #[.agg #[.int .i64 W, .slice a xs.length c]] w fun e w' => e = .returned (.bool (rightB W xs)) ∧ Below w.heap.size w w' := by
  cases hw : wOk W with
  | false =>
    rw [rightB_no1 hw]
    go_enter Try.func52, Try.ntmps52
    go_wp2_with fail
    go_quiet ((go_at_call 63; exact Calls.quiet_of_same (widthOk_any _ _)))
    go_wp2
    go_ret
    exact ⟨rfl, below_drewN ((Below.refl _ _).alloc (Nat.le_refl _) _) _⟩
  | true =>
    have hW : 1 ≤ W ∧ W ≤ 4096 := by simpa [wOk] using hw
    by_cases hl : (xs.length : Int) = (W + 63) / 64
    · rw [rightB_clear hw hl, clear_last hr.2.1 hw hl]
      obtain ⟨h1, hx, h | ⟨b, o, rfl, hc⟩⟩ := hr
      · subst h; simp at hl; omega
      have hpos : 0 < xs.length := by omega
      have hcell := hc (xs.length - 1) (by omega)
      have hlt : xs.getD (xs.length - 1) 0 < 18446744073709551616 := by
        have e : xs.getD (xs.length - 1) 0 = xs[xs.length - 1]'(by omega) := by simp [List.getD, show xs.length - 1 < xs.length by omega]
        rw [e]; exact hx _ (List.getElem_mem _)
      have hblk : b < w.heap.size := block_lt_of_cell hcell
      have hne : ((xs.length : Int) != (W + 63) / 64) = false := by simp [hl]
      have hbl : Lib.bitLen (xs.getD (xs.length - 1) 0) ≤ 64 := Lib.bitLen_le _ 64 (by omega) hlt
      generalize xs.getD (xs.length - 1) 0 = y at *
      generalize hn : xs.length = n at *
      clear hc hx hn
      obtain ⟨hW1, hW2⟩ := hW
      have hn64 : n ≤ 64 := by omega
      clear hl
      obtain ⟨m, rfl⟩ : ∃ m, n = m + 1 := ⟨n - 1, by omega⟩
      simp only [Nat.add_sub_cancel] at hcell
      have hi0 : (0 : Int) ≤ (m : Int) := by omega
      have hi1 : (m : Int) < (m : Int) + 1 := by omega
      go_enter Try.func52, Try.ntmps52
      go_wp2_with fail
      go_quiet ((first | (go_at_call 63; exact Calls.quiet_of_same (widthOk_any _ _)) | (go_at_call 78; exact Calls.quiet_of_same (wordsFor_any _ hW1 hW2 _))))
      go_wp2_with fail
      go_quiet ((go_at_call 79; refine (len64_any _ _ hlt).mono ?_; rintro e w' ⟨rfl, rfl⟩; exact ⟨rfl, _, rfl⟩))
      go_wp2
      go_ret
      exact ⟨ret_bool (by rw [Bool.eq_iff_iff]; simp; omega), below_drewN (below_drewN ((Below.refl _ _).alloc (Nat.le_refl _) _) _) _⟩
    · rw [rightB_no2 hl]
      have hne : ((xs.length : Int) != (W + 63) / 64) = true := by simp [hl]
      obtain ⟨hW1, hW2⟩ := hW
      have h1 := hr.1
      clear hl hr
      go_enter Try.func52, Try.ntmps52
      go_wp2_with fail
      go_quiet ((first | (go_at_call 63; exact Calls.quiet_of_same (widthOk_any _ _)) | (go_at_call 78; exact Calls.quiet_of_same (wordsFor_any _ hW1 hW2 _))))
      go_wp2
      go_ret
      exact ⟨rfl, below_drewN ((Below.refl _ _).alloc (Nat.le_refl _) _) _⟩

theorem specOk_any (W : Int) (a : Option Addr) (c : Nat) (xs : List Nat) (w : World) (hr : Rd w a xs) :
    Calls Try.prog 51 #[.agg #[.int .i64 W, .slice a xs.length c]] w fun e w' => e = .returned (.bool (rightB W xs)) ∧ Below w.heap.size w w' := by
  have hlen := hr.1
  cases hw : wOk W with
  | false =>
    rw [rightB_no1 hw]
    clear hr
    have hd : decide (1 ≤ W ∧ W ≤ 4096) = false := hw
    go_enter Try.func51, Try.ntmps51
    go_wp2_with (go_at_call 26; refine (l1In_any _ _ _ _).mono ?_; rintro e w' ⟨rfl, rfl⟩)
    go_ret
    exact ⟨rfl, (Below.refl _ _).alloc (Nat.le_refl _) _⟩
  | true =>
    have hd : decide (1 ≤ W ∧ W ≤ 4096) = true := hw
    have hW : 1 ≤ W ∧ W ≤ 4096 := by simpa [wOk] using hw
    obtain ⟨hW1, hW2⟩ := hW
    by_cases hl : (xs.length : Int) = (W + 63) / 64
    · rw [rightB_clear hw hl]
      have hne : ((xs.length : Int) != (W + 63) / 64) = false := by simp [hl]
      have hcl := clear_iff W xs
      generalize hcv : clear W xs = cv at hcl ⊢
      have Hcl := show Hid _ from hcl
      have HL : Hid ((xs.length : Int) = (W + 63) / 64) := hl
      clear hcl hl hcv
      obtain ⟨V, rfl⟩ := Int.eq_ofNat_of_zero_le (show 0 ≤ W by omega)
      go_enter Try.func51, Try.ntmps51
      go_wp2_with (go_at_call 26; refine (l1In_any _ _ _ _).mono ?_; rintro e w' ⟨rfl, rfl⟩)
      clear hne
      go_loopw [3] (fun i wr => ∃ k : Nat, V ≤ k ∧ k ≤ 64 * xs.length ∧ i = .int .i64 k ∧ (∀ j : Nat, V ≤ j → j < k → tb xs j = false) ∧ Below (w.heap.size + 1) (w.alloc (Obj.cells #[Value.int IntKind.i64 V, Value.slice a xs.length c] 48)) wr) (fun i _ => 64 * xs.length - (intOf i).toNat)
      case atStart => exact ⟨V, Nat.le_refl _, by have := HL.out; omega, rfl, fun j h1 h2 => by omega, Below.refl _ _⟩
      case round =>
        obtain ⟨k, hk1, hk2, rfl, hz, hbel⟩ := hrel
        have HZ : Hid (∀ j : Nat, V ≤ j → j < k → tb xs j = false) := hz
        have hc0 : wr.cell? ⟨w.heap.size, 0, none⟩ = some (Value.int IntKind.i64 V) := by rw [hbel.cell (by simp)]; simp
        have hc1 : wr.cell? ⟨w.heap.size, 1, none⟩ = some (Value.slice a xs.length c) := by rw [hbel.cell (by simp)]; simp
        have hsz := hbel.size
        simp at hsz
        have hr' : Rd wr a xs := (hr.later ((Below.refl _ _).alloc (Nat.le_refl _) _)).later (hbel.mono (by simp))
        have HB := show Hid _ from hbel
        clear hz hbel hr
        by_cases hlt : k < 64 * xs.length
        · cases htb : tb xs k with
          | true =>
            go_wp2_with (go_at_call 77; refine (l1Bit_any _ _ _ _ _ _ hr' hlt).mono ?_; rintro e w1 ⟨rfl, hb1⟩)
            go_ret
            refine ⟨ret_bool ?_, ((((Below.refl _ _).alloc (Nat.le_refl _) _).trans (HB.out.mono (Nat.le_succ _))).trans (hb1.mono (by omega)))⟩
            cases cv with
            | false => rfl
            | true => exact absurd (Hcl.out.1 rfl k (by omega) hlt) (by simp [htb])
          | false =>
            go_wp2_with (go_at_call 77; refine (l1Bit_any _ _ _ _ _ _ hr' hlt).mono ?_; rintro e w1 ⟨rfl, hb1⟩)
            go_roundw
            case rel =>
              refine ⟨k + 1, by omega, by omega, by go_num, fun j h1 h2 => ?_, HB.out.trans (hb1.mono (by omega))⟩
              by_cases hj : j = k
              · rw [hj]; exact htb
              · exact HZ.out j h1 (by omega)
            case measure => simp [intOf]; omega
        · go_wp2
          go_ret
          refine ⟨ret_bool ?_, ((Below.refl _ _).alloc (Nat.le_refl _) _).trans (HB.out.mono (Nat.le_succ _))⟩
          exact (Hcl.out.2 fun j h1 h2 => HZ.out j (by omega) (by omega)).symm
    · rw [rightB_no2 hl]
      have hne : ((xs.length : Int) != (W + 63) / 64) = true := by simp [hl]
      clear hl hr
      go_enter Try.func51, Try.ntmps51
      go_wp2_with (go_at_call 26; refine (l1In_any _ _ _ _).mono ?_; rintro e w' ⟨rfl, rfl⟩)
      go_ret
      exact ⟨rfl, (Below.refl _ _).alloc (Nat.le_refl _) _⟩

end Go.Proofs.Ythoiajpbpoglfaa

/- Contracts of the laws' own small functions on rows of words: how long, copied, compared, marked, held. -/
namespace Go.Proofs.Ythoiajpbpoglfaa
set_option linter.unusedVariables false
set_option linter.unusedSimpArgs false
open Go.RowKit

theorem Try.infoU64 : (Try.prog.info? 88).map (fun i => (i.zero, i.size, i.bytes)) = some (some (.int .u64 0), 1, 8) := by kernel_rfl

def u64s (xs : List Nat) : Array Value := (xs.map fun (x : Nat) => Value.int .u64 (x : Int)).toArray

theorem u64s_size (xs : List Nat) : (u64s xs).size = xs.length := by simp [u64s]
theorem u64s_get (xs : List Nat) (i : Nat) (h : i < xs.length) : (u64s xs)[i]? = some (.int .u64 ((xs.getD i 0 : Nat) : Int)) := by simp [u64s, List.getD, h]
theorem u64s_set (xs : List Nat) (i x : Nat) : (u64s xs).setIfInBounds i (.int .u64 (x : Int)) = u64s (xs.set i x) := by
  simp [u64s, List.setIfInBounds_toArray, List.map_set]
theorem u64s_made (n : Nat) : madeCells #[Value.int .u64 0] n = u64s (List.replicate n 0) := by
  apply Array.toList_inj.1
  rw [toList_madeCells_one]
  simp [u64s]

/-- The block g holds just the words xs, and may be written. -/
def Own (w : World) (g : Nat) (xs : List Nat) : Prop := w.heap[g]? = some (.cells (u64s xs) 88 (0, 0))

theorem Own.cell {w : World} {g : Nat} {xs : List Nat} (h : Own w g xs) {i : Nat} (hi : i < xs.length) : w.cell? ⟨g, i, none⟩ = some (.int .u64 ((xs.getD i 0 : Nat) : Int)) := by
  rw [cell_of_row w g i _ _ _ h, u64s_get _ _ hi]
theorem Own.free {w : World} {g : Nat} {xs : List Nat} (h : Own w g xs) (i : Nat) : w.frozen? ⟨g, i, none⟩ = false := frozen_of_row w g i _ _ h
theorem Own.lt {w : World} {g : Nat} {xs : List Nat} (h : Own w g xs) : g < w.heap.size := lt_of_block h
theorem Own.put {w : World} {g : Nat} {xs : List Nat} (h : Own w g xs) (i x : Nat) : Own (w.setCell ⟨g, i, none⟩ (.int .u64 (x : Int))) g (xs.set i x) := by
  unfold Own
  rw [heap_setCell_same w g i _ _ _ h, u64s_set]
theorem Own.rd {w : World} {g : Nat} {xs : List Nat} (h : Own w g xs) (hl : xs.length ≤ 1048576) (hx : ∀ x ∈ xs, x < 18446744073709551616) : Rd w (some ⟨g, 0, none⟩) xs :=
  ⟨hl, hx, .inr ⟨g, 0, rfl, fun i hi => by rw [Nat.zero_add]; exact h.cell hi⟩⟩
theorem Own.later {w w' : World} {g B : Nat} {xs : List Nat} (h : Own w g xs) (hb : Below B w w') (hg : g < B) : Own w' g xs := by
  unfold Own
  rw [hb.block g hg]; exact h

theorem szUint64S_any (a : Option Addr) (n c : Nat) (L : Int) (w : World) (hL : 0 ≤ L) (hL2 : L ≤ 1048576) (hn : n ≤ 9223372036854775807) :
    Calls Try.prog 93 #[.slice a n c, .int .i64 L] w fun e w' => e = .returned (.int .i64 (if (n : Int) ≤ L then L - n else -1)) ∧ w' = w := by
  by_cases h : (n : Int) ≤ L
  · rw [if_pos h]
    go_enter Try.func93, Try.ntmps93
    go_wp2
    go_ret
    exact ⟨rfl, rfl⟩
  · rw [if_neg h]
    go_enter Try.func93, Try.ntmps93
    go_wp2
    go_ret
    exact ⟨rfl, rfl⟩

theorem szBits_yes (W : Int) (a : Option Addr) (n c : Nat) (L : Int) (w : World) (hL : 0 ≤ L) (hL2 : L ≤ 1048576) (hn : n ≤ 9223372036854775807) (h : (n : Int) ≤ L) :
    Calls Try.prog 81 #[.agg #[.int .i64 W, .slice a n c], .int .i64 L] w fun e w' => e = .returned (.int .i64 (L - n)) ∧ Below w.heap.size w w' := by
  go_enter Try.func81, Try.ntmps81
  go_wp2_with (go_at_call 93; refine (szUint64S_any _ _ _ _ _ hL hL2 hn).mono ?_; rw [if_pos h]; rintro e w' ⟨rfl, rfl⟩)
  go_ret
  exact ⟨rfl, (Below.refl _ _).alloc (Nat.le_refl _) _⟩

theorem szBits_no (W : Int) (a : Option Addr) (n c : Nat) (L : Int) (w : World) (hL : 0 ≤ L) (hL2 : L ≤ 1048576) (hn : n ≤ 9223372036854775807) (h : ¬ (n : Int) ≤ L) :
    Calls Try.prog 81 #[.agg #[.int .i64 W, .slice a n c], .int .i64 L] w fun e w' => e = .returned (.int .i64 (-1)) ∧ Below w.heap.size w w' := by
  go_enter Try.func81, Try.ntmps81
  go_wp2_with (go_at_call 93; refine (szUint64S_any _ _ _ _ _ hL hL2 hn).mono ?_; rw [if_neg h]; rintro e w' ⟨rfl, rfl⟩)
  go_ret
  exact ⟨rfl, (Below.refl _ _).alloc (Nat.le_refl _) _⟩

theorem take_set (xs : List Nat) (k : Nat) (h : k < xs.length) :
    (xs.take k ++ List.replicate (xs.length - k) 0).set k (xs.getD k 0) = xs.take (k + 1) ++ List.replicate (xs.length - (k + 1)) 0 := by
  apply List.ext_getElem?
  intro i
  simp only [List.getElem?_set, List.getElem?_append, List.getElem?_take, List.length_take, List.getElem?_replicate, List.length_append, List.length_replicate, List.getD]
  split <;> split <;> split <;> (try split) <;> (try split) <;> (try omega) <;> simp_all <;> (try omega)

theorem toUint64S_any (a : Option Addr) (c : Nat) (xs : List Nat) (w : World) (hr : Rd w a xs) :
    Calls Try.prog 94 #[.slice a xs.length c] w fun e w' => e = .returned (.slice (some ⟨w.heap.size, 0, none⟩) xs.length xs.length) ∧ Own w' w.heap.size xs ∧ Below w.heap.size w w' := by
  have hlen := hr.1
  have hmk := fun kl kc w => run_make_row' (P := Try.prog) 46 88 (.int .u64 0) 8 Try.underlying46 Try.infoU64 rfl kl kc xs.length (by omega) (by omega) w
  go_enter Try.func94, Try.ntmps94
  go_wp2
  go_loopw [4] (fun i wr => ∃ k : Nat, k ≤ xs.length ∧ i = .int .i64 k ∧ Own wr w.heap.size (xs.take k ++ List.replicate (xs.length - k) 0) ∧ Below w.heap.size w wr) (fun i _ => xs.length - (intOf i).toNat)
  case atStart =>
    refine ⟨0, Nat.zero_le _, rfl, ?_, (Below.refl _ _).alloc (Nat.le_refl _) _⟩
    unfold Own
    rw [heap_alloc_new, u64s_made]
    rfl
  case round =>
    obtain ⟨k, hk, rfl, hown, hbel⟩ := hrel
    by_cases hlt : k < xs.length
    · obtain ⟨-, -, h | ⟨b, o, rfl, hc⟩⟩ := hr
      · subst h; simp at hlt
      have hcell := hc k hlt
      have hb : b < w.heap.size := block_lt_of_cell hcell
      have hcw : wr.cell? ⟨b, o + k, none⟩ = some (.int .u64 ((xs.getD k 0 : Nat) : Int)) := by rw [hbel.cell (by exact hb)]; exact hcell
      have hcg := hown.cell (i := k) (by simp; omega)
      have hfg := hown.free k
      have HO := show Hid _ from hown.put k (xs.getD k 0)
      have HB := show Hid _ from hbel
      generalize (xs.take k ++ List.replicate (xs.length - k) 0).getD k 0 = z at hcg
      have HT := show Hid _ from take_set xs k hlt
      clear hc hcell hown hbel hmk
      generalize xs.getD k 0 = y at *
      go_wp2
      go_roundw
      case rel =>
        have h := HO.out
        rw [HT.out] at h
        exact ⟨k + 1, by omega, by go_num, h, HB.out.setCell (Nat.le_refl _) _⟩
      case measure => simp [intOf]; omega
    · clear hmk
      go_wp2
      go_ret
      refine ⟨rfl, ?_, hbel⟩
      have e : k = xs.length := by omega
      rw [e] at hown
      simpa using hown

end Go.Proofs.Ythoiajpbpoglfaa

/- Contracts of toBits and eqBits of the laws. -/
namespace Go.Proofs.Ythoiajpbpoglfaa
set_option linter.unusedVariables false
set_option linter.unusedSimpArgs false
open Go.RowKit

/-- What was laid when a call began still stands. -/
def St (w : World) (bx : Obj) (wk : World) : Prop := Below (w.heap.size + 1) (w.alloc bx) wk

theorem St.start (w : World) (bx : Obj) : St w bx (w.alloc bx) := Below.refl _ _
theorem St.size {w wk : World} {bx : Obj} (h : St w bx wk) : w.heap.size < wk.heap.size := by
  have := Below.size h
  simp at this; omega
theorem St.next {w wk w1 : World} {bx : Obj} (h : St w bx wk) (hb : Below wk.heap.size wk w1) : St w bx w1 := Below.trans h (hb.mono (by have := h.size; omega))
theorem St.next' {w wk w1 : World} {bx : Obj} {B : Nat} (h : St w bx wk) (hb : Below B wk w1) (hB : w.heap.size < B) : St w bx w1 := Below.trans h (hb.mono hB)
theorem St.cell {w wk : World} {cs : Array Value} {t : TypeId} (h : St w (.cells cs t) wk) (i : Nat) : wk.cell? ⟨w.heap.size, i, none⟩ = cs[i]? := by
  rw [Below.cell h (p := ⟨w.heap.size, i, none⟩) (by simp)]; simp
theorem St.two {w wk : World} {x y : Value} {t : TypeId} (h : St w (.cells #[x, y] t) wk) : wk.cell? ⟨w.heap.size, 0, none⟩ = some x ∧ wk.cell? ⟨w.heap.size, 1, none⟩ = some y :=
  ⟨h.cell 0, h.cell 1⟩
theorem St.below {w wk : World} {bx : Obj} (h : St w bx wk) : Below w.heap.size w wk := ((Below.refl _ _).alloc (Nat.le_refl _) _).trans (Below.mono h (Nat.le_succ _))
theorem St.rd {w wk : World} {bx : Obj} (h : St w bx wk) {a : Option Addr} {xs : List Nat} (hr : Rd w a xs) : Rd wk a xs := hr.later h.below

theorem undrew {B : Nat} {w w' : World} (h : Below B w.drew w') : Below B w w' := ⟨h.os, h.tape, h.output, h.size, h.block⟩

/-- Behind a call that lets all old blocks be: all old cells read as before, and may be written as before. -/
theorem bcell {W w1 : World} (hb : Below W.heap.size W w1) : (∀ b o, b < W.heap.size → w1.cell? ⟨b, o, none⟩ = W.cell? ⟨b, o, none⟩) ∧ (∀ b o, b < W.heap.size → w1.frozen? ⟨b, o, none⟩ = W.frozen? ⟨b, o, none⟩) :=
  ⟨fun b o h => hb.cell (p := ⟨b, o, none⟩) h, fun b o h => hb.frozen (p := ⟨b, o, none⟩) h⟩

theorem Own.other {w : World} {g : Nat} {xs : List Nat} (h : Own w g xs) {a : Addr} (ha : g ≠ a.block) (v : Value) : Own (w.setCell a v) g xs := by
  unfold Own
  rw [heap_setCell_other w a g v ha]; exact h

theorem toBits_any (W : Int) (a : Option Addr) (c : Nat) (xs : List Nat) (w : World) (hr : Rd w a xs) :
    Calls Try.prog 85 #[.agg #[.int .i64 W, .slice a xs.length c]] w fun e w' => ∃ g, e = .returned (.agg #[.int .i64 W, .slice (some ⟨g, 0, none⟩) xs.length xs.length]) ∧ w.heap.size ≤ g ∧ Own w' g xs ∧ Below w.heap.size w w' := by
  go_enter Try.func85, Try.ntmps85
  go_wp2_with fail
  refine (toUint64S_any a c xs _ ?_).mono ?_
  · exact hr.later ((((Below.refl _ _).alloc (Nat.le_refl _) _).alloc (by simp) _).alloc (by simp; omega) _)
  rintro e w1 ⟨rfl, hown, hb⟩
  obtain ⟨hc, hf⟩ := bcell hb
  have hz : w.heap.size + 1 + 1 < w1.heap.size := by have := hb.size; simp at this; omega
  have HO := show Hid _ from hown
  have HB := show Hid _ from hb
  clear hown hb hr
  go_wp2
  refine bodyPost_ret (v := .agg #[.int .i64 W, .slice (some ⟨w.heap.size + 1 + 1 + 1, 0, none⟩) xs.length xs.length]) (by simp [results, Try.results85, go_sem, hc]) rfl ⟨_, rfl, by omega, ?_, ?_⟩
  · have h := HO.out
    simp only [World.size_alloc] at h
    exact ((Own.other h (by simp) _).other (by simp; omega) _).other (by simp; omega) _
  · have h := HB.out
    have h0 : Below w.heap.size w w1 := ((((Below.refl _ _).alloc (Nat.le_refl _) _).alloc (by simp) _).alloc (by simp; omega) _).trans (h.mono (by simp; omega))
    exact ((h0.setCell (by simp; omega) _).setCell (by simp) _).setCell (by simp) _

theorem eqUint64S_any (a b : Option Addr) (c d : Nat) (xs ys : List Nat) (w : World) (hr : Rd w a xs) (hs : Rd w b ys) :
    Calls Try.prog 67 #[.slice a xs.length c, .slice b ys.length d] w fun e w' => e = .returned (.bool (decide (xs = ys))) ∧ Below w.heap.size w w' := by
  have hl1 := hr.1
  have hl2 := hs.1
  by_cases hl : xs.length = ys.length
  · have hne : ((xs.length : Int) != (ys.length : Int)) = false := by simp [hl]
    have HL : Hid (xs.length = ys.length) := hl
    clear hl
    go_enter Try.func67, Try.ntmps67
    go_wp2
    clear hne
    go_loopw [5] (fun i wr => ∃ k : Nat, k ≤ xs.length ∧ i = .int .i64 k ∧ (∀ j, j < k → xs.getD j 0 = ys.getD j 0) ∧ Below w.heap.size w wr) (fun i _ => xs.length - (intOf i).toNat)
    case atStart => exact ⟨0, Nat.zero_le _, rfl, fun j h => by omega, Below.refl _ _⟩
    case round =>
      obtain ⟨k, hk, rfl, hz, hbel⟩ := hrel
      have HZ := show Hid _ from hz
      have HB := show Hid _ from hbel
      by_cases hlt : k < xs.length
      · obtain ⟨-, -, h | ⟨b1, o1, rfl, hc1⟩⟩ := hr
        · subst h; simp at hlt
        have hlt2 : k < ys.length := by have := HL.out; omega
        obtain ⟨-, -, h | ⟨b2, o2, rfl, hc2⟩⟩ := hs
        · subst h; simp at hlt2
        have e1 := hc1 k hlt
        have e2 := hc2 k hlt2
        have f1 : wr.cell? ⟨b1, o1 + k, none⟩ = some (.int .u64 ((xs.getD k 0 : Nat) : Int)) := by rw [hbel.cell (by exact block_lt_of_cell e1)]; exact e1
        have f2 : wr.cell? ⟨b2, o2 + k, none⟩ = some (.int .u64 ((ys.getD k 0 : Nat) : Int)) := by rw [hbel.cell (by exact block_lt_of_cell e2)]; exact e2
        have hxe : decide (xs = ys) = false ∨ xs.getD k 0 = ys.getD k 0 := by
          by_cases h : xs = ys
          · exact .inr (by rw [h])
          · exact .inl (by simp [h])
        clear hc1 hc2 hz hbel e1 e2
        have i0 : (k : Int) < (xs.length : Int) := by omega
        have i1 : (k : Int) < (ys.length : Int) := by omega
        generalize hx1 : xs.getD k 0 = x1 at *
        generalize hy1 : ys.getD k 0 = y1 at *
        have HX : Hid (xs.getD k 0 = x1) := hx1
        have HY : Hid (ys.getD k 0 = y1) := hy1
        clear hx1 hy1
        by_cases hxy : x1 = y1
        · have hb : ((x1 : Int) != (y1 : Int)) = false := by simp [hxy]
          have HE : Hid (x1 = y1) := hxy
          clear hxe hxy
          go_wp2_with fail
          go_quiet (fail)
          go_wp2
          go_roundw
          case rel =>
            refine ⟨k + 1, by omega, by go_num, fun j hj => ?_, below_drewN HB.out _⟩
            by_cases hj' : j = k
            · rw [hj', HX.out, HY.out]; exact HE.out
            · exact HZ.out j (by omega)
          case measure => simp [intOf]; omega
        · have hb : ((x1 : Int) != (y1 : Int)) = true := by simp; omega
          have HE : Hid (decide (xs = ys) = false) := by
            rcases hxe with h | h
            · exact h
            · exact absurd h hxy
          clear hxe hxy
          go_wp2_with fail
          go_quiet (fail)
          go_wp2
          go_ret
          exact ⟨ret_bool HE.out.symm, below_drewN HB.out _⟩
      · clear hz hbel
        go_wp2
        go_ret
        refine ⟨ret_bool ?_, HB.out⟩
        have he : xs = ys := by
          refine List.ext_getElem HL.out fun j h1 h2 => ?_
          have := HZ.out j (by omega)
          simpa [List.getD, h1, h2] using this
        simp [he]
  · have hne : ((xs.length : Int) != (ys.length : Int)) = true := by simp; omega
    have hx : xs ≠ ys := fun h => hl (by rw [h])
    go_enter Try.func67, Try.ntmps67
    go_wp2
    go_ret
    exact ⟨ret_bool (by simp [hx]), Below.refl _ _⟩

theorem eqBits_any (V W : Int) (a b : Option Addr) (c d : Nat) (xs ys : List Nat) (w : World) (hr : Rd w a xs) (hs : Rd w b ys) :
    Calls Try.prog 38 #[.agg #[.int .i64 V, .slice a xs.length c], .agg #[.int .i64 W, .slice b ys.length d]] w fun e w' => e = .returned (.bool (decide (V = W ∧ xs = ys))) ∧ Below w.heap.size w w' := by
  have h2 : Below w.heap.size w ((w.alloc (Obj.cells #[Value.int IntKind.i64 V, Value.slice a xs.length c] 48)).alloc (Obj.cells #[Value.int IntKind.i64 W, Value.slice b ys.length d] 48)) := ((Below.refl _ _).alloc (Nat.le_refl _) _).alloc (by simp) _
  by_cases hV : V = W
  · have hne : (V != W) = false := by simp [hV]
    have HV : Hid (V = W) := hV
    clear hV
    have hr' := hr.later h2
    have hs' := hs.later h2
    cases he : decide (xs = ys) with
    | true =>
      have HE : Hid (decide (V = W ∧ xs = ys) = true) := by show _ = _; simp [HV.out]; simpa using he
      have H2 := show Hid _ from h2
      clear h2 hr hs
      go_enter Try.func38, Try.ntmps38
      go_wp2_with (go_at_call 67; refine (eqUint64S_any _ _ _ _ _ _ _ hr' hs').mono ?_; rintro e w' ⟨rfl, hb⟩)
      go_ret
      exact ⟨ret_bool HE.out.symm, H2.out.trans (hb.mono (by simp; omega))⟩
    | false =>
      have HE : Hid (decide (V = W ∧ xs = ys) = false) := by show _ = _; simp; intro _; simpa using he
      have H2 := show Hid _ from h2
      clear h2 hr hs
      go_enter Try.func38, Try.ntmps38
      go_wp2_with (go_at_call 67; refine (eqUint64S_any _ _ _ _ _ _ _ hr' hs').mono ?_; rintro e w' ⟨rfl, hb⟩)
      go_ret
      exact ⟨ret_bool HE.out.symm, H2.out.trans (hb.mono (by simp; omega))⟩
  · have hne : (V != W) = true := by simp [hV]
    clear hr hs
    go_enter Try.func38, Try.ntmps38
    go_wp2
    go_ret
    exact ⟨ret_bool (by simp [hV]), h2⟩

end Go.Proofs.Ythoiajpbpoglfaa

/- Contracts of the laws' own small functions on rows of whole numbers: how long, copied, compared. -/
namespace Go.Proofs.Ythoiajpbpoglfaa
set_option linter.unusedVariables false
set_option linter.unusedSimpArgs false
open Go.RowKit

theorem Try.infoI64 : (Try.prog.info? 2).map (fun i => (i.zero, i.size, i.bytes)) = some (some (.int .i64 0), 1, 8) := by kernel_rfl


/-- A slice whose numbers are ks, wherever it lies. -/
def RdI (w : World) (a : Option Addr) (ks : List Int) : Prop :=
  ks.length ≤ 1048576 ∧ (∀ k ∈ ks, in64 k) ∧ (ks = [] ∨ ∃ b o, a = some ⟨b, o, none⟩ ∧ ∀ i, i < ks.length → w.cell? ⟨b, o + i, none⟩ = some (.int .i64 (ks.getD i 0)))

theorem RdI.later {w w' : World} {a : Option Addr} {ks : List Int} (h : RdI w a ks) (hb : Below w.heap.size w w') : RdI w' a ks := by
  obtain ⟨h1, h2, h3⟩ := h
  refine ⟨h1, h2, ?_⟩
  rcases h3 with h3 | ⟨b, o, rfl, hc⟩
  · exact .inl h3
  · refine .inr ⟨b, o, rfl, fun i hi => ?_⟩
    have := hc i hi
    rw [hb.cell (p := ⟨b, o + i, none⟩) (by exact block_lt_of_cell this)]
    exact this

def i64s (ks : List Int) : Array Value := (ks.map fun (k : Int) => Value.int .i64 k).toArray

theorem i64s_size (ks : List Int) : (i64s ks).size = ks.length := by simp [i64s]
theorem i64s_get (ks : List Int) (i : Nat) (h : i < ks.length) : (i64s ks)[i]? = some (.int .i64 (ks.getD i 0)) := by simp [i64s, List.getD, h]
theorem i64s_set (ks : List Int) (i : Nat) (k : Int) : (i64s ks).setIfInBounds i (.int .i64 k) = i64s (ks.set i k) := by
  simp [i64s, List.setIfInBounds_toArray, List.map_set]
theorem i64s_made (n : Nat) : madeCells #[Value.int .i64 0] n = i64s (List.replicate n 0) := by
  apply Array.toList_inj.1
  rw [toList_madeCells_one]
  simp [i64s]

/-- The block g holds just the numbers ks, and may be written. -/
def OwnI (w : World) (g : Nat) (ks : List Int) : Prop := w.heap[g]? = some (.cells (i64s ks) 2 (0, 0))

theorem OwnI.cell {w : World} {g : Nat} {ks : List Int} (h : OwnI w g ks) {i : Nat} (hi : i < ks.length) : w.cell? ⟨g, i, none⟩ = some (.int .i64 (ks.getD i 0)) := by
  rw [cell_of_row w g i _ _ _ h, i64s_get _ _ hi]
theorem OwnI.free {w : World} {g : Nat} {ks : List Int} (h : OwnI w g ks) (i : Nat) : w.frozen? ⟨g, i, none⟩ = false := frozen_of_row w g i _ _ h
theorem OwnI.lt {w : World} {g : Nat} {ks : List Int} (h : OwnI w g ks) : g < w.heap.size := lt_of_block h
theorem OwnI.put {w : World} {g : Nat} {ks : List Int} (h : OwnI w g ks) (i : Nat) (k : Int) : OwnI (w.setCell ⟨g, i, none⟩ (.int .i64 k)) g (ks.set i k) := by
  unfold OwnI
  rw [heap_setCell_same w g i _ _ _ h, i64s_set]
theorem OwnI.rd {w : World} {g : Nat} {ks : List Int} (h : OwnI w g ks) (hl : ks.length ≤ 1048576) (hx : ∀ k ∈ ks, in64 k) : RdI w (some ⟨g, 0, none⟩) ks :=
  ⟨hl, hx, .inr ⟨g, 0, rfl, fun i hi => by rw [Nat.zero_add]; exact h.cell hi⟩⟩
theorem OwnI.later {w w' : World} {g B : Nat} {ks : List Int} (h : OwnI w g ks) (hb : Below B w w') (hg : g < B) : OwnI w' g ks := by
  unfold OwnI
  rw [hb.block g hg]; exact h
theorem OwnI.other {w : World} {g : Nat} {ks : List Int} (h : OwnI w g ks) {a : Addr} (ha : g ≠ a.block) (v : Value) : OwnI (w.setCell a v) g ks := by
  unfold OwnI
  rw [heap_setCell_other w a g v ha]; exact h

theorem szInt64S_any (a : Option Addr) (n c : Nat) (L : Int) (w : World) (hL : 0 ≤ L) (hL2 : L ≤ 1048576) (hn : n ≤ 9223372036854775807) :
    Calls Try.prog 24 #[.slice a n c, .int .i64 L] w fun e w' => e = .returned (.int .i64 (if (n : Int) ≤ L then L - n else -1)) ∧ w' = w := by
  by_cases h : (n : Int) ≤ L
  · rw [if_pos h]
    go_enter Try.func24, Try.ntmps24
    go_wp2
    go_ret
    exact ⟨rfl, rfl⟩
  · rw [if_neg h]
    go_enter Try.func24, Try.ntmps24
    go_wp2
    go_ret
    exact ⟨rfl, rfl⟩

theorem take_setI (xs : List Int) (k : Nat) (h : k < xs.length) :
    (xs.take k ++ List.replicate (xs.length - k) 0).set k (xs.getD k 0) = xs.take (k + 1) ++ List.replicate (xs.length - (k + 1)) 0 := by
  apply List.ext_getElem?
  intro i
  simp only [List.getElem?_set, List.getElem?_append, List.getElem?_take, List.length_take, List.getElem?_replicate, List.length_append, List.length_replicate, List.getD]
  split <;> split <;> split <;> (try split) <;> (try split) <;> (try omega) <;> simp_all <;> (try omega)

theorem toInt64S_any (a : Option Addr) (c : Nat) (xs : List Int) (w : World) (hr : RdI w a xs) :
    Calls Try.prog 31 #[.slice a xs.length c] w fun e w' => e = .returned (.slice (some ⟨w.heap.size, 0, none⟩) xs.length xs.length) ∧ OwnI w' w.heap.size xs ∧ Below w.heap.size w w' := by
  have hlen := hr.1
  have hmk := fun kl kc w => run_make_row' (P := Try.prog) 22 2 (.int .i64 0) 8 Try.underlying22 Try.infoI64 rfl kl kc xs.length (by omega) (by omega) w
  go_enter Try.func31, Try.ntmps31
  go_wp2
  go_loopw [4] (fun i wr => ∃ k : Nat, k ≤ xs.length ∧ i = .int .i64 k ∧ OwnI wr w.heap.size (xs.take k ++ List.replicate (xs.length - k) 0) ∧ Below w.heap.size w wr) (fun i _ => xs.length - (intOf i).toNat)
  case atStart =>
    refine ⟨0, Nat.zero_le _, rfl, ?_, (Below.refl _ _).alloc (Nat.le_refl _) _⟩
    unfold OwnI
    rw [heap_alloc_new, i64s_made]
    rfl
  case round =>
    obtain ⟨k, hk, rfl, hown, hbel⟩ := hrel
    by_cases hlt : k < xs.length
    · obtain ⟨-, -, h | ⟨b, o, rfl, hc⟩⟩ := hr
      · subst h; simp at hlt
      have hcell := hc k hlt
      have hb : b < w.heap.size := block_lt_of_cell hcell
      have hcw : wr.cell? ⟨b, o + k, none⟩ = some (.int .i64 (xs.getD k 0)) := by rw [hbel.cell (by exact hb)]; exact hcell
      have hcg := hown.cell (i := k) (by simp; omega)
      have hfg := hown.free k
      have HO := show Hid _ from hown.put k (xs.getD k 0)
      have HB := show Hid _ from hbel
      generalize (xs.take k ++ List.replicate (xs.length - k) 0).getD k 0 = z at hcg
      have HT := show Hid _ from take_setI xs k hlt
      clear hc hcell hown hbel hmk
      generalize xs.getD k 0 = y at *
      go_wp2
      go_roundw
      case rel =>
        have h := HO.out
        rw [HT.out] at h
        exact ⟨k + 1, by omega, by go_num, h, HB.out.setCell (Nat.le_refl _) _⟩
      case measure => simp [intOf]; omega
    · clear hmk
      go_wp2
      go_ret
      refine ⟨rfl, ?_, hbel⟩
      have e : k = xs.length := by omega
      rw [e] at hown
      simpa using hown

theorem eqInt64S_any (a b : Option Addr) (c d : Nat) (xs ys : List Int) (w : World) (hr : RdI w a xs) (hs : RdI w b ys) :
    Calls Try.prog 39 #[.slice a xs.length c, .slice b ys.length d] w fun e w' => e = .returned (.bool (decide (xs = ys))) ∧ Below w.heap.size w w' := by
  have hl1 := hr.1
  have hl2 := hs.1
  by_cases hl : xs.length = ys.length
  · have hne : ((xs.length : Int) != (ys.length : Int)) = false := by simp [hl]
    have HL : Hid (xs.length = ys.length) := hl
    clear hl
    go_enter Try.func39, Try.ntmps39
    go_wp2
    clear hne
    go_loopw [5] (fun i wr => ∃ k : Nat, k ≤ xs.length ∧ i = .int .i64 k ∧ (∀ j, j < k → xs.getD j 0 = ys.getD j 0) ∧ Below w.heap.size w wr) (fun i _ => xs.length - (intOf i).toNat)
    case atStart => exact ⟨0, Nat.zero_le _, rfl, fun j h => by omega, Below.refl _ _⟩
    case round =>
      obtain ⟨k, hk, rfl, hz, hbel⟩ := hrel
      have HZ := show Hid _ from hz
      have HB := show Hid _ from hbel
      by_cases hlt : k < xs.length
      · obtain ⟨-, -, h | ⟨b1, o1, rfl, hc1⟩⟩ := hr
        · subst h; simp at hlt
        have hlt2 : k < ys.length := by have := HL.out; omega
        obtain ⟨-, -, h | ⟨b2, o2, rfl, hc2⟩⟩ := hs
        · subst h; simp at hlt2
        have e1 := hc1 k hlt
        have e2 := hc2 k hlt2
        have f1 : wr.cell? ⟨b1, o1 + k, none⟩ = some (.int .i64 (xs.getD k 0)) := by rw [hbel.cell (by exact block_lt_of_cell e1)]; exact e1
        have f2 : wr.cell? ⟨b2, o2 + k, none⟩ = some (.int .i64 (ys.getD k 0)) := by rw [hbel.cell (by exact block_lt_of_cell e2)]; exact e2
        have hxe : decide (xs = ys) = false ∨ xs.getD k 0 = ys.getD k 0 := by
          by_cases h : xs = ys
          · exact .inr (by rw [h])
          · exact .inl (by simp [h])
        clear hc1 hc2 hz hbel e1 e2
        have i0 : (k : Int) < (xs.length : Int) := by omega
        have i1 : (k : Int) < (ys.length : Int) := by omega
        generalize hx1 : xs.getD k 0 = x1 at *
        generalize hy1 : ys.getD k 0 = y1 at *
        have HX : Hid (xs.getD k 0 = x1) := hx1
        have HY : Hid (ys.getD k 0 = y1) := hy1
        clear hx1 hy1
        by_cases hxy : x1 = y1
        · have hb : (x1 != y1) = false := by simp [hxy]
          have HE : Hid (x1 = y1) := hxy
          clear hxe hxy
          go_wp2_with fail
          go_quiet (fail)
          go_wp2
          go_roundw
          case rel =>
            refine ⟨k + 1, by omega, by go_num, fun j hj => ?_, below_drewN HB.out _⟩
            by_cases hj' : j = k
            · rw [hj', HX.out, HY.out]; exact HE.out
            · exact HZ.out j (by omega)
          case measure => simp [intOf]; omega
        · have hb : (x1 != y1) = true := by simpa using hxy
          have HE : Hid (decide (xs = ys) = false) := by
            rcases hxe with h | h
            · exact h
            · exact absurd h hxy
          clear hxe hxy
          go_wp2_with fail
          go_quiet (fail)
          go_wp2
          go_ret
          exact ⟨ret_bool HE.out.symm, below_drewN HB.out _⟩
      · clear hz hbel
        go_wp2
        go_ret
        refine ⟨ret_bool ?_, HB.out⟩
        have he : xs = ys := by
          refine List.ext_getElem HL.out fun j h1 h2 => ?_
          have := HZ.out j (by omega)
          simpa [List.getD, h1, h2] using this
        simp [he]
  · have hne : ((xs.length : Int) != (ys.length : Int)) = true := by simp; omega
    have hx : xs ≠ ys := fun h => hl (by rw [h])
    go_enter Try.func39, Try.ntmps39
    go_wp2
    go_ret
    exact ⟨ret_bool (by simp [hx]), Below.refl _ _⟩

end Go.Proofs.Ythoiajpbpoglfaa

/- What l1From answers: the word of a list of bits. -/
namespace Go.Proofs.Ythoiajpbpoglfaa
set_option linter.unusedVariables false
set_option linter.unusedSimpArgs false
open Go.RowKit

/-- A slice of bytes that holds bs, wherever it lies. -/
def RdB (w : World) (a : Option Addr) (bs : List Nat) : Prop :=
  bs.length ≤ 4194304 ∧ (∀ x ∈ bs, x < 256) ∧ (bs = [] ∨ ∃ b o, a = some ⟨b, o, none⟩ ∧ ∀ i, i < bs.length → w.cell? ⟨b, o + i, none⟩ = some (.int .u8 ((bs.getD i 0 : Nat) : Int)))

theorem RdB.later {w w' : World} {a : Option Addr} {xs : List Nat} (h : RdB w a xs) (hb : Below w.heap.size w w') : RdB w' a xs := by
  obtain ⟨h1, h2, h3⟩ := h
  refine ⟨h1, h2, ?_⟩
  rcases h3 with h3 | ⟨b, o, rfl, hc⟩
  · exact .inl h3
  · refine .inr ⟨b, o, rfl, fun i hi => ?_⟩
    have := hc i hi
    rw [hb.cell (p := ⟨b, o + i, none⟩) (by exact block_lt_of_cell this)]
    exact this

/-- Words in new memory: none at all, or a block of their own. -/
def Fresh (w : World) (lo : Nat) (a : Option Addr) (ys : List Nat) : Prop := (ys = [] ∧ a = none) ∨ ∃ g, a = some ⟨g, 0, none⟩ ∧ lo ≤ g ∧ Own w g ys

/-- What a function answers that gives back a row of words and a flag. -/
def RetB (w : World) (r : Int × List Nat × Bool) (e : Ending) (w' : World) : Prop :=
  ∃ a c, e = .returned (.tuple #[.agg #[.int .i64 r.1, .slice a r.2.1.length c], .bool r.2.2]) ∧ Fresh w' w.heap.size a r.2.1 ∧ Below w.heap.size w w'

def packTo (bs : List Nat) : Nat → List Nat
  | 0 => List.replicate ((bs.length + 63) / 64) 0
  | k + 1 => (packTo bs k).set (k / 64) ((packTo bs k).getD (k / 64) 0 ||| (bs.getD k 0) * 2 ^ (k % 64) % 18446744073709551616)

def pack (bs : List Nat) : List Nat := packTo bs bs.length

theorem packTo_len (bs : List Nat) (k : Nat) : (packTo bs k).length = (bs.length + 63) / 64 := by
  induction k with
  | zero => simp [packTo]
  | succ k ih => simp [packTo, ih]

theorem packTo_lt (bs : List Nat) (k : Nat) : ∀ x ∈ packTo bs k, x < 18446744073709551616 := by
  induction k with
  | zero => intro x hx; simp [packTo] at hx; omega
  | succ k ih =>
    intro x hx
    simp only [packTo] at hx
    rcases List.mem_or_eq_of_mem_set hx with h | h
    · exact ih x h
    · rw [h]
      refine Nat.or_lt_two_pow (n := 64) ?_ (Nat.mod_lt _ (by decide))
      simp only [List.getD]
      cases hg : (packTo bs k)[k / 64]? with
      | none => simp
      | some v => exact ih v (List.mem_of_getElem? hg)

theorem orShift (z y s : Nat) (hz : z < 18446744073709551616) : bits BinOp.or IntKind.u64 (z : Int) (IntKind.u64.wrap ((y : Int) * 2 ^ s)) = ((z ||| y * 2 ^ s % 18446744073709551616 : Nat) : Int) := by
  have e : IntKind.u64.wrap ((y : Int) * 2 ^ s) = ((y * 2 ^ s % 18446744073709551616 : Nat) : Int) := by
    rw [IntKind.wrap_u64]; simp
  rw [e, bits_or_u64_nat _ _ hz (Nat.mod_lt _ (by decide))]

def fromR (bs : List Nat) : Int × List Nat × Bool := if 1 ≤ bs.length ∧ bs.length ≤ 4096 then ((bs.length : Int), pack bs, true) else (0, [], false)

theorem l1From_no (a : Option Addr) (n c : Nat) (w : World) (h : n = 0 ∨ 4096 < n) (hn : n ≤ 4194304) :
    Calls Try.prog 56 #[.slice a n c] w fun e w' => e = .returned (.tuple #[.agg #[.int .i64 0, .slice none 0 0], .bool false]) ∧ Below w.heap.size w w' := by
  rcases h with rfl | h
  · go_enter Try.func56, Try.ntmps56
    go_wp2
    exact bodyPost_ret (v := .tuple #[.agg #[.int .i64 0, .slice none 0 0], .bool false]) (by simp [results, Try.results56, go_sem]) rfl ⟨rfl, (Below.refl _ _).alloc (Nat.le_refl _) _⟩
  · have h1 : ¬ (n : Int) < 1 := by omega
    have h2 : (4096 : Int) < (n : Int) := by omega
    go_enter Try.func56, Try.ntmps56
    go_wp2
    exact bodyPost_ret (v := .tuple #[.agg #[.int .i64 0, .slice none 0 0], .bool false]) (by simp [results, Try.results56, go_sem]) rfl ⟨rfl, (Below.refl _ _).alloc (Nat.le_refl _) _⟩

theorem l1From_yes (a : Option Addr) (c : Nat) (bs : List Nat) (w : World) (hr : RdB w a bs) (h1 : 1 ≤ bs.length) (h2 : bs.length ≤ 4096) :
    Calls Try.prog 56 #[.slice a bs.length c] w (RetB w ((bs.length : Int), pack bs, true)) := by
  have hd : ((bs.length + 63) / 64 : Nat) ≤ 64 := by omega
  have hmk := fun kl kc w => run_make_row' (P := Try.prog) 46 88 (.int .u64 0) 8 Try.underlying46 Try.infoU64 rfl kl kc ((bs.length + 63) / 64) (by omega) (by omega) w
  have ec : (((bs.length + 63) / 64 : Nat) : Int) = ((bs.length : Int) + 63) / 64 := by omega
  simp only [ec] at hmk
  clear ec
  go_enter Try.func56, Try.ntmps56
  go_wp2
  clear hmk
  generalize hN : (bs.length + 63) / 64 = N at *
  have HN : Hid ((bs.length + 63) / 64 = N) := hN
  clear hN
  go_loopw [5] (fun i wr => ∃ k : Nat, k ≤ bs.length ∧ i = .int .i64 k ∧ Own wr (w.heap.size + 1) (packTo bs k) ∧
      wr.heap[w.heap.size]? = some (.cells #[Value.int IntKind.i64 0, Value.slice none 0 0] 48 (0, 0)) ∧
      wr.heap[w.heap.size + 1 + 1]? = some (.cells #[Value.int IntKind.i64 bs.length, Value.slice (some { block := w.heap.size + 1, off := 0 }) N N] 48 (0, 0)) ∧ Below w.heap.size w wr) (fun i _ => bs.length - (intOf i).toNat)
  case atStart =>
    refine ⟨0, Nat.zero_le _, rfl, ?_, ?_, ?_, (((Below.refl _ _).alloc (Nat.le_refl _) _).alloc (by simp) _).alloc (by simp; omega) _⟩
    · unfold Own
      rw [heap_alloc_old _ _ (by simp), show w.heap.size + 1 = (w.alloc (Obj.cells #[Value.int IntKind.i64 0, Value.slice none 0 0] 48)).heap.size by simp, heap_alloc_new, u64s_made, packTo, HN.out]
    · rw [heap_alloc_old _ _ (by simp; omega), heap_alloc_old _ _ (by simp), heap_alloc_new]
    · rw [show w.heap.size + 1 + 1 = ((w.alloc (Obj.cells #[Value.int IntKind.i64 0, Value.slice none 0 0] 48)).alloc (Obj.cells (madeCells #[Value.int IntKind.u64 0] N) 88)).heap.size by simp, heap_alloc_new]
  case round =>
    obtain ⟨k, hk, rfl, hown, hres, hbox, hbel⟩ := hrel
    have hplen := packTo_len bs k
    rw [HN.out] at hplen
    have b1 : wr.cell? ⟨w.heap.size + 1 + 1, 1, none⟩ = some (Value.slice (some { block := w.heap.size + 1, off := 0 }) N N) := cell_of_row wr _ 1 _ _ _ hbox
    have b0 : wr.cell? ⟨w.heap.size + 1 + 1, 0, none⟩ = some (Value.int IntKind.i64 bs.length) := cell_of_row wr _ 0 _ _ _ hbox
    by_cases hlt : k < bs.length
    · obtain ⟨-, hby, h | ⟨b, o, rfl, hc⟩⟩ := hr
      · subst h; simp at hlt
      have hcell := hc k hlt
      have hb : b < w.heap.size := block_lt_of_cell hcell
      have hcw : wr.cell? ⟨b, o + k, none⟩ = some (.int .u8 ((bs.getD k 0 : Nat) : Int)) := by rw [hbel.cell (by exact hb)]; exact hcell
      have hkN : k / 64 < N := by have := HN.out; omega
      have hkNi : (k : Int) / 64 < (N : Int) := by omega
      have hki : (k : Int) < (bs.length : Int) := by omega
      have hcg := hown.cell (i := k / 64) (by omega)
      have hfg := hown.free (k / 64)
      have hb8 : bs.getD k 0 < 256 := by
        have e : bs.getD k 0 = bs[k] := by simp [List.getD, hlt]
        rw [e]; exact hby _ (List.getElem_mem _)
      generalize hz : (packTo bs k).getD (k / 64) 0 = z at hcg
      generalize hy : bs.getD k 0 = y at *
      clear hc hcell hby
      have hz64 : z < 18446744073709551616 := by
        rw [← hz]
        simp only [List.getD]
        cases hg : (packTo bs k)[k / 64]? with
        | none => simp
        | some v => exact packTo_lt bs k v (List.mem_of_getElem? hg)
      have HO : Hid (Own (wr.setCell ⟨w.heap.size + 1, k / 64, none⟩ (.int .u64 (bits BinOp.or IntKind.u64 (z : Int) (IntKind.u64.wrap ((y : Int) * 2 ^ (k % 64)))))) (w.heap.size + 1) (packTo bs (k + 1))) := by
        have h := hown.put (k / 64) (z ||| y * 2 ^ (k % 64) % 18446744073709551616)
        rw [← orShift z y _ hz64] at h
        show Own _ _ _
        rw [packTo, hz, hy]
        exact h
      clear hz hy hz64
      go_wp2
      go_region
      go_wp2
      go_roundw
      case rel =>
        refine ⟨k + 1, by omega, by go_num, HO.out, ?_, ?_, ?_⟩
        · show (World.setCell _ _ _).heap[_]? = _
          rw [heap_setCell_other _ _ _ _ (by simp)]; exact hres
        · show (World.setCell _ _ _).heap[_]? = _
          rw [heap_setCell_other _ _ _ _ (by simp)]; exact hbox
        · exact (hbel.setCell (by simp) _).drew
      case measure => simp [intOf]; omega
    · have e : k = bs.length := by omega
      have c0 : wr.cell? ⟨w.heap.size, 0, none⟩ = some (Value.int IntKind.i64 0) := cell_of_row wr _ 0 _ _ _ hres
      have c1 : wr.cell? ⟨w.heap.size, 1, none⟩ = some (Value.slice none 0 0) := cell_of_row wr _ 1 _ _ _ hres
      have f0 : wr.frozen? ⟨w.heap.size, 0, none⟩ = false := frozen_of_row wr _ 0 _ _ hres
      have f1 : wr.frozen? ⟨w.heap.size, 1, none⟩ = false := frozen_of_row wr _ 1 _ _ hres
      have HO : Hid (Own wr (w.heap.size + 1) (pack bs)) := by rw [e] at hown; exact hown
      have HP : Hid ((pack bs).length = N) := by rw [e] at hplen; exact hplen
      clear hown hplen hres hbox e
      go_wp2
      refine bodyPost_ret (v := .tuple #[.agg #[.int .i64 bs.length, .slice (some ⟨w.heap.size + 1, 0, none⟩) N N], .bool true]) (by simp [results, Try.results56, go_sem, c0, c1]) rfl ?_
      refine ⟨some ⟨w.heap.size + 1, 0, none⟩, N, by rw [HP.out], .inr ⟨_, rfl, Nat.le_succ _, (HO.out.other (by simp) _).other (by simp) _⟩, (hbel.setCell (Nat.le_refl _) _).setCell (Nat.le_refl _) _⟩

end Go.Proofs.Ythoiajpbpoglfaa

/- What l1List answers: the bits of a row, from the lowest on; and the law of an append of one byte. -/
namespace Go.Proofs.Ythoiajpbpoglfaa
set_option linter.unusedVariables false
set_option linter.unusedSimpArgs false
open Go.RowKit

theorem Try.infoU8 : (Try.prog.info? 5).map (fun i => (i.zero, i.size, i.bytes)) = some (some (.int .u8 0), 1, 1) := by kernel_rfl

def u8s (bs : List Nat) : List Value := bs.map fun (b : Nat) => Value.int .u8 (b : Int)

/-- The slice v of bytes holds bs, in a row from block number 'base' on that the call itself has made. -/
def OwB (w : World) (base : Nat) (v : Value) (bs : List Nat) : Prop := w.ownsRow base 5 1 v bs.length (u8s bs)

theorem OwB.shape {w : World} {base : Nat} {v : Value} {bs : List Nat} (h : OwB w base v bs) (hl : bs.length ≤ 4194304) (hx : ∀ x ∈ bs, x < 256) :
    ∃ a c, v = .slice a bs.length c ∧ RdB w a bs ∧ bs.length ≤ c ∧ c ≤ maxLen := by
  obtain ⟨h1, ⟨rfl, h2⟩ | ⟨g, cap, cur, rfl, hg, hh, hc1, hc2, hsz, hcur⟩⟩ := h
  · have e := List.eq_nil_of_length_eq_zero h2
    subst e
    exact ⟨none, 0, rfl, ⟨hl, hx, .inl rfl⟩, Nat.le_refl _, Nat.zero_le _⟩
  · refine ⟨some ⟨g, 0, none⟩, cap, rfl, ⟨hl, hx, .inr ⟨g, 0, rfl, fun i hi => ?_⟩⟩, hc1, hc2⟩
    rw [Nat.zero_add, cell_of_row w g i cur _ _ hh]
    have h3 : (cur.toList.take (bs.length * 1))[i]? = (u8s bs)[i]? := by rw [hcur]
    rw [List.getElem?_take, if_pos (by omega)] at h3
    simp only [Array.getElem?_toList] at h3
    rw [h3]
    simp [u8s, List.getD, hi]

theorem OwB.nil (w : World) (base g : Nat) (hg : g = w.heap.size) (h : base ≤ g) : OwB (w.alloc (.cells #[] 5)) base (.slice (some ⟨g, 0, none⟩) 0 0) [] := by
  subst hg
  exact World.ownsRow_made w #[] 0 h (Nat.zero_le _) (by simp)

theorem OwB.alloc {w : World} {base : Nat} {v : Value} {bs : List Nat} (h : OwB w base v bs) (o : Obj) : OwB (w.alloc o) base v bs := World.ownsRow.alloc h o

theorem OwB.kept {w w' : World} {base : Nat} {v : Value} {bs : List Nat} (h : OwB w base v bs) (hb : Below w.heap.size w w') : OwB w' base v bs := by
  obtain ⟨h1, h2⟩ := h
  refine ⟨h1, ?_⟩
  rcases h2 with h2 | ⟨g, cap, cur, rfl, hg, hh, r⟩
  · exact .inl h2
  · exact .inr ⟨g, cap, cur, rfl, hg, by rw [hb.block g (lt_of_block hh)]; exact hh, r⟩

theorem OwB.own {w : World} {base : Nat} {v : Value} {bs : List Nat} (h : OwB w base v bs) : ∀ k, v.ownBlock = some k → base ≤ k := fun k hk => (World.ownsRow.lt h k hk).1

/-- 'append(out, y)', out the call's own. -/
theorem wpList_appB (w : World) {ops : Array Oper} {rest : List Oper} {o : Oper} {a : Act} {Q : Exit → Act → World → Prop} (hgd : o.guard = none) (s x : Operand)
    (ho : o.op = .call { callee := .builtin .append, args := #[s, x], argTypes := #[39, 39] })
    (base : Nat) (v : Value) (bs : List Nat) (y : Nat) (hs : a.eval s = v) (hown : OwB w base v bs) (g : Nat) (hx : a.eval x = .slice (some ⟨g, 0, none⟩) 1 1)
    (hnew : w.cell? ⟨g, 0, none⟩ = some (.int .u8 (y : Int))) (hl : bs.length ≤ 4194304) (hbase : base ≤ w.heap.size)
    (h : ∀ v' w', OwB w' base v' (bs ++ [y]) → w.grownBy w' v.ownBlock → wpList Try.prog ops Q rest (a.put o.dst v') w') : wpList Try.prog ops Q (o :: rest) a w := by
  obtain ⟨i0, hi, hz0, hz1, hz2⟩ := info_parts Try.infoU8
  refine wpList_append_own w hgd s x 39 ho base 5 i0 (.int .u8 0) 1 1 Try.underlying39 hi hz0 hz1 hz2 rfl (by decide) v bs.length (u8s bs) hs hown ⟨g, 0, none⟩ 1 1 [.int .u8 (y : Int)] hx rfl ?_ ?_ ?_ ?_ hbase ?_
  · intro j u hj
    match j, hj with
    | 0, hj => simp at hj; subst hj; simpa [Addr.add] using hnew
  · intro u hu; simp at hu; subst hu; rfl
  · unfold maxLen; omega
  · omega
  · intro v' w' h1 h2 _
    refine h v' w' ?_ h2
    unfold OwB
    simpa [u8s] using h1

def bitsTo (xs : List Nat) (k : Nat) : List Nat := (List.range k).map fun i => (tb xs i).toNat
theorem bitsTo_len (xs : List Nat) (k : Nat) : (bitsTo xs k).length = k := by simp [bitsTo]
theorem bitsTo_succ (xs : List Nat) (k : Nat) : bitsTo xs (k + 1) = bitsTo xs k ++ [(tb xs k).toNat] := by simp [bitsTo, List.range_succ]
theorem bitsTo_le (xs : List Nat) (k : Nat) : ∀ x ∈ bitsTo xs k, x ≤ 1 := by
  intro x hx
  obtain ⟨i, _, rfl⟩ := List.mem_map.1 hx
  cases tb xs i <;> decide

theorem l1List_any (V : Nat) (a : Option Addr) (c : Nat) (xs : List Nat) (w : World) (hr : Rd w a xs) (hV : V ≤ 64 * xs.length) (hV2 : V ≤ 4096) :
    Calls Try.prog 61 #[.agg #[.int .i64 V, .slice a xs.length c]] w fun e w' => ∃ v, e = .returned v ∧ OwB w' (w.heap.size + 1) v (bitsTo xs V) ∧ Below w.heap.size w w' := by
  have hlen := hr.1
  go_enter Try.func61, Try.ntmps61
  go_wp2
  go_loopw [3, 4] (fun v i wr => ∃ k : Nat, k ≤ V ∧ i = .int .i64 k ∧ OwB wr (w.heap.size + 1) v (bitsTo xs k) ∧ St w (.cells #[Value.int IntKind.i64 V, Value.slice a xs.length c] 48) wr) (fun _ i _ => V - (intOf i).toNat)
  case atStart =>
    refine ⟨0, Nat.zero_le _, rfl, OwB.nil _ _ _ ?_ (Nat.le_refl _), (St.start _ _).next ((Below.refl _ _).alloc (Nat.le_refl _) _)⟩
    rw [World.size_alloc]
  case round =>
    obtain ⟨k, hk, rfl, hown, hst⟩ := hrel
    obtain ⟨c0, c1⟩ := hst.two
    by_cases hlt : k < V
    · have hr' := hst.rd hr
      have hs1 := hst.size
      go_wp2_with fail
      refine (l1Bit_any _ _ _ _ _ _ hr' (by omega)).mono ?_
      rintro e w1 ⟨rfl, hb1⟩
      have hown1 := hown.kept hb1
      have hst1 := hst.next hb1
      have hs2 := hst1.size
      have hbl : (bitsTo xs k).length ≤ 4194304 := by rw [bitsTo_len]; omega
      have HS := bitsTo_succ xs k
      generalize hy : (tb xs k).toNat = y at *
      have HY : Hid ((tb xs k).toNat = y) := hy
      have HT : Hid (bitsTo xs (k + 1) = bitsTo xs k ++ [y]) := HS
      clear hown hst c0 c1 hr hr' hb1 hy HS
      generalize bitsTo xs k = bk at *
      go_wp2_with (at_builtin; refine wpList_appB _ rfl _ _ rfl (w.heap.size + 1) _ bk y rfl (hown1.alloc _) w1.heap.size rfl (by simp) hbl (by simp; omega) ?_)
      intro v' w2 hown2 hgr
      have hst2 := hst1.next' (((Below.refl (w.heap.size + 1) w1).alloc (by omega) _).grown hgr (by simp; omega) hown1.own) (Nat.lt_succ_self _)
      clear hgr hown1 hst1
      go_wp2
      go_roundw
      case rel => exact ⟨k + 1, by omega, by go_num, by rw [HT.out]; exact hown2, hst2⟩
      case measure => simp [intOf]; omega
    · go_wp2
      go_ret
      have e : k = V := by omega
      subst e
      exact ⟨_, rfl, hown, hst.below⟩

end Go.Proofs.Ythoiajpbpoglfaa

/- Plain facts: the word of a list of bits, told by its bits. No program in sight. -/
namespace Go.Proofs.Ythoiajpbpoglfaa
set_option linter.unusedVariables false
set_option linter.unusedSimpArgs false
open Go.RowKit

theorem getD_lt {xs : List Nat} (h : ∀ x ∈ xs, x < 18446744073709551616) (i : Nat) : xs.getD i 0 < 18446744073709551616 := by
  simp only [List.getD]
  cases hg : xs[i]? with
  | none => simp
  | some v => exact h v (List.mem_of_getElem? hg)

theorem tb_set (xs : List Nat) (k y i : Nat) (hk : k < xs.length) : tb (xs.set k y) i = if i / 64 = k then y.testBit (i % 64) else tb xs i := by
  unfold tb
  simp only [List.getD, List.getElem?_set]
  by_cases h : i / 64 = k
  · simp [h, hk]
  · rw [if_neg (fun e => h e.symm), if_neg h]

theorem tb_packTo (bs : List Nat) (hb : ∀ x ∈ bs, x ≤ 1) (k i : Nat) (hk : k ≤ bs.length) : tb (packTo bs k) i = (decide (i < k) && decide (bs.getD i 0 = 1)) := by
  induction k with
  | zero => simp [packTo, tb, List.getD, List.getElem?_replicate]; split <;> simp
  | succ k ih =>
    have hlen := packTo_len bs k
    rw [packTo, tb_set _ _ _ _ (by omega)]
    have hbk : bs.getD k 0 ≤ 1 := by
      have e : bs.getD k 0 = bs[k] := by simp [List.getD, show k < bs.length by omega]
      rw [e]; exact hb _ (List.getElem_mem _)
    have hlt : bs.getD k 0 * 2 ^ (k % 64) < 18446744073709551616 := by
      have h1 : 2 ^ (k % 64) ≤ 2 ^ 63 := Nat.pow_le_pow_right (by omega) (by omega)
      have h2 : bs.getD k 0 * 2 ^ (k % 64) ≤ 1 * 2 ^ (k % 64) := Nat.mul_le_mul_right _ hbk
      omega
    by_cases h : i / 64 = k / 64
    · rw [if_pos h, Nat.testBit_or, Nat.mod_eq_of_lt hlt]
      have ih' := ih (by omega)
      unfold tb at ih'
      rw [h] at ih'
      rw [ih']
      by_cases h2 : i = k
      · subst h2
        have h3 : bs.getD i 0 = 0 ∨ bs.getD i 0 = 1 := by omega
        rcases h3 with h3 | h3
        · rw [h3]; simp
        · rw [h3, Nat.one_mul, Nat.testBit_two_pow_self]; simp
      · have h4 : (bs.getD k 0 * 2 ^ (k % 64)).testBit (i % 64) = false := by
          have h3 : bs.getD k 0 = 0 ∨ bs.getD k 0 = 1 := by omega
          rcases h3 with h3 | h3
          · rw [h3]; simp
          · rw [h3, Nat.one_mul]; exact Nat.testBit_two_pow_of_ne (by omega)
        rw [h4, Bool.or_false]
        by_cases h5 : i < k
        · simp [h5, show i < k + 1 by omega]
        · simp [h5, show ¬ i < k + 1 by omega]
    · rw [if_neg h, ih (by omega)]
      by_cases h5 : i < k
      · simp [h5, show i < k + 1 by omega]
      · simp [h5, show ¬ i < k + 1 by omega]

theorem tb_pack (bs : List Nat) (hb : ∀ x ∈ bs, x ≤ 1) (i : Nat) : tb (pack bs) i = decide (bs.getD i 0 = 1) := by
  rw [pack, tb_packTo bs hb _ _ (Nat.le_refl _)]
  by_cases h : i < bs.length
  · simp [h]
  · simp [h, List.getD]

theorem pack_len (bs : List Nat) : (pack bs).length = (bs.length + 63) / 64 := packTo_len bs _
theorem pack_lt (bs : List Nat) : ∀ x ∈ pack bs, x < 18446744073709551616 := packTo_lt bs _

/-- Two rows of as many words that have the same bits are the same. -/
theorem tb_ext {xs ys : List Nat} (hl : xs.length = ys.length) (hx : ∀ x ∈ xs, x < 18446744073709551616) (hy : ∀ x ∈ ys, x < 18446744073709551616)
    (h : ∀ i, i < 64 * xs.length → tb xs i = tb ys i) : xs = ys := by
  refine List.ext_getElem hl fun k h1 h2 => ?_
  have e1 : xs.getD k 0 = xs[k] := by simp [List.getD, h1]
  have e2 : ys.getD k 0 = ys[k] := by simp [List.getD, h2]
  rw [← e1, ← e2]
  refine Nat.eq_of_testBit_eq fun j => ?_
  by_cases hj : j < 64
  · have := h (64 * k + j) (by omega)
    unfold tb at this
    rw [show (64 * k + j) / 64 = k by omega, show (64 * k + j) % 64 = j by omega] at this
    exact this
  · have p : 2 ^ 64 ≤ 2 ^ j := Nat.pow_le_pow_right (by omega) (by omega)
    rw [Nat.testBit_lt_two_pow (Nat.lt_of_lt_of_le (getD_lt hx k) p), Nat.testBit_lt_two_pow (Nat.lt_of_lt_of_le (getD_lt hy k) p)]

/-- A row of words is the word of a list of bits where it has its bits. -/
theorem eq_pack {ys bs : List Nat} (hb : ∀ x ∈ bs, x ≤ 1) (hl : ys.length = (bs.length + 63) / 64) (hy : ∀ x ∈ ys, x < 18446744073709551616)
    (h : ∀ i, i < 64 * ys.length → tb ys i = decide (bs.getD i 0 = 1)) : ys = pack bs :=
  tb_ext (by rw [hl, pack_len]) hy (pack_lt bs) fun i hi => by rw [h i hi, tb_pack bs hb]

/-- Bits from the width on are 0 in a right row; behind its words there are none. -/
theorem tb_out {W : Int} {xs : List Nat} (h : rightB W xs = true) (i : Nat) (hi : W ≤ (i : Int)) : tb xs i = false := by
  simp only [rightB, Bool.and_eq_true] at h
  by_cases hl : i < 64 * xs.length
  · exact (clear_iff W xs).1 h.2 i hi hl
  · unfold tb
    have : xs.getD (i / 64) 0 = 0 := by simp only [List.getD]; rw [List.getElem?_eq_none (by omega)]; rfl
    rw [this]; simp

theorem right_W {W : Int} {xs : List Nat} (h : rightB W xs = true) : 1 ≤ W ∧ W ≤ 4096 ∧ (xs.length : Int) = (W + 63) / 64 := by
  simp [rightB, wOk] at h
  omega

theorem pack_right (bs : List Nat) (hb : ∀ x ∈ bs, x ≤ 1) (h1 : 1 ≤ bs.length) (h2 : bs.length ≤ 4096) : rightB bs.length (pack bs) = true := by
  rw [rightB_clear (by simp [wOk]; omega) (by rw [pack_len]; omega), clear_iff]
  intro i hi _
  rw [tb_pack bs hb]
  simp [List.getD, List.getElem?_eq_none (show bs.length ≤ i by omega)]

end Go.Proofs.Ythoiajpbpoglfaa

/- What the given functions on words answer: PartOf, BitsOf. -/
namespace Go.Proofs.Ythoiajpbpoglfaa
set_option linter.unusedVariables false
set_option linter.unusedSimpArgs false
open Go.RowKit

def noR : Int × List Nat × Bool := (0, [], false)

theorem RetB.no {w w' : World} (hb : Below w.heap.size w w') : RetB w noR (.returned (.tuple #[.agg #[.int .i64 0, .slice none 0 0], .bool false])) w' :=
  ⟨none, 0, rfl, .inl ⟨rfl, rfl⟩, hb⟩

theorem chain {W w1 w2 : World} (h : Below W.heap.size W w1) (k : Below w1.heap.size w1 w2) : Below W.heap.size W w2 := h.trans (k.mono h.size)

theorem Fresh.set2 {w : World} {lo lo' : Nat} {a : Option Addr} {ys : List Nat} (h : Fresh w lo a ys) {g : Nat} (hg : g < lo) (hl : lo' ≤ lo) (i j : Nat) (u v : Value) : Fresh ((w.setCell ⟨g, i, none⟩ u).setCell ⟨g, j, none⟩ v) lo' a ys := by
  rcases h with h | ⟨b, rfl, hb, ho⟩
  · exact .inl h
  · exact .inr ⟨b, rfl, by omega, (ho.other (by simp; omega) _).other (by simp; omega) _⟩

/-- How a function ends that gives back what l1From gave: the answer is stored in its own block, the flag behind it. -/
theorem RetB.close {w w2 w3 : World} {r r' : Int × List Nat × Bool} {a3 : Option Addr} {c3 g : Nat} (hfr : Fresh w3 w2.heap.size a3 r.2.1) (hg : w.heap.size ≤ g) (hg2 : g < w2.heap.size)
    (hb : Below w.heap.size w w3) (he : r = r') (u v : Value) :
    RetB w r' (.returned (.tuple #[.agg #[.int .i64 r.1, .slice a3 r.2.1.length c3], .bool r.2.2])) ((w3.setCell ⟨g, 0, none⟩ u).setCell ⟨g, 1, none⟩ v) := by
  subst he
  exact ⟨a3, c3, rfl, hfr.set2 hg2 (by omega) 0 1 u v, (hb.setCell hg _).setCell hg _⟩

def partR (W : Int) (xs : List Nat) (hi lo : Int) : Int × List Nat × Bool :=
  if rightB W xs = true ∧ 0 ≤ lo ∧ lo ≤ hi ∧ hi < W then (hi - lo + 1, pack (((bitsTo xs W.toNat).drop lo.toNat).take (hi - lo + 1).toNat), true) else noR


end Go.Proofs.Ythoiajpbpoglfaa
