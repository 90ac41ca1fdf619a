/- Several texts in one. -/
import Derived.Test.YtnpjgoklpaigjaaGreatDoorGAB
import Derived.Test.YtnpjgoklpaigjaaGreatDoorA
import Derived.Test.YtnpjgoklpaigjaaGreatDoorB
import Derived.Deep.OwnRows
import Derived.BigRegion
import Derived.Laws.ShiftsVar
import Derived.Laws.ShiftsVarLaws
import Derived.Test.YtnpjgoklpaigjaaGreatDoorGAD
import Derived.WalkKit
import Derived.WalkSpells
import Derived.Deep.QuietTactic
import Derived.BigQuiet
import Derived.Outline
import Derived.WalkSmall
import Derived.Lib.Builder
import Derived.Lib.AppendStr
import Derived.Lib.UnsafeStr
import Derived.Laws.Externs
namespace Go.Proofs.YtnpjgoklpaigjaaGreatDoor
open Go.RowKit
set_option linter.unusedVariables false
set_option linter.unusedSimpArgs false
theorem ret_bool {a b : Bool} (h : a = b) : Ending.returned (.bool a) = .returned (.bool b) := by rw [h]
theorem ret_int {k : IntKind} {a b : Int} (h : a = b) : Ending.returned (.int k a) = .returned (.int k b) := by rw [h]
theorem implOk_any (W : Int) (a : Option Addr) (c : Nat) (xs : List Nat) (w : World) (hr : Rd w a xs) :
  Calls Tryz.prog 101 #[.agg #[.int .i64 W, .slice a xs.length c]] w fun e w' => e = .returned (.bool (rightB W xs)) ∧ Below w.heap.size w w' := by
 cases hw : wOk W with
 | false =>
  rw [rightB_no1 hw]
  go_enter Tryz.func101, Tryz.ntmps101
  go_wp2_with fail
  go_quiet ((go_at_call 80; exact Calls.quiet_of_same (widthOk_any _ _)))
  go_wp2
  go_ret
  exact ⟨rfl, below_drewN (blA _ _) _⟩
 | true =>
  have hW : 1 ≤ W ∧ W ≤ 4096 := by simpa [wOk] using hw
  by_cases hl : (xs.length : Int) = (W + 63) / 64
  ·rw [rightB_clear hw hl, clear_last hr.2.1 hw hl]
   obtain ⟨h1, hx, h | ⟨b, o, rfl, hc⟩⟩ := hr
   ·subst h; simp at hl; omega
   have hpos : 0 < xs.length := by omega
   have hcell := hc (xs.length - 1) (by omega)
   have hlt : xs.getD (xs.length - 1) 0 < 18446744073709551616 := by
    have e : xs.getD (xs.length - 1) 0 = xs[xs.length - 1]'(by omega) := by simp [List.getD, show xs.length - 1 < xs.length by omega]
    rw [e]; exact hx _ (List.getElem_mem _)
   have hblk : b < w.heap.size := block_lt_of_cell hcell
   have hne : ((xs.length : Int) != (W + 63) / 64) = false := by simp [hl]
   have hbl : Lib.bitLen (xs.getD (xs.length - 1) 0) ≤ 64 := Lib.bitLen_le _ 64 (by omega) hlt
   generalize xs.getD (xs.length - 1) 0 = y at *
   generalize hn : xs.length = n at *
   clear hc hx hn
   obtain ⟨hW1, hW2⟩ := hW
   have hn64 : n ≤ 64 := by omega
   clear hl
   obtain ⟨m, rfl⟩ : ∃ m, n = m + 1 := ⟨n - 1, by omega⟩
   simp only [Nat.add_sub_cancel] at hcell
   have hi0 : (0 : Int) ≤ (m : Int) := by omega
   have hi1 : (m : Int) < (m : Int) + 1 := by omega
   go_enter Tryz.func101, Tryz.ntmps101
   go_wp2_with fail
   go_quiet ((first | (go_at_call 80; exact Calls.quiet_of_same (widthOk_any _ _)) | (go_at_call 112; exact Calls.quiet_of_same (wordsFor_any _ hW1 hW2 _))))
   go_wp2_with fail
   go_quiet ((go_at_call 121; refine (len64_any _ _ hlt).mono ?_; rintro e w' ⟨rfl, rfl⟩; exact ⟨rfl, _, rfl⟩))
   go_wp2
   go_ret
   exact ⟨ret_bool (by rw [Bool.eq_iff_iff]; simp; omega), below_drewN (below_drewN (blA _ _) _) _⟩
  ·rw [rightB_no2 hl]
   have hne : ((xs.length : Int) != (W + 63) / 64) = true := by simp [hl]
   obtain ⟨hW1, hW2⟩ := hW
   have h1 := hr.1
   clear hl hr
   go_enter Tryz.func101, Tryz.ntmps101
   go_wp2_with fail
   go_quiet ((first | (go_at_call 80; exact Calls.quiet_of_same (widthOk_any _ _)) | (go_at_call 112; exact Calls.quiet_of_same (wordsFor_any _ hW1 hW2 _))))
   go_wp2
   go_ret
   exact ⟨rfl, below_drewN (blA _ _) _⟩
theorem specOk_any (W : Int) (a : Option Addr) (c : Nat) (xs : List Nat) (w : World) (hr : Rd w a xs) :
  Calls Tryz.prog 75 #[.agg #[.int .i64 W, .slice a xs.length c]] w fun e w' => e = .returned (.bool (rightB W xs)) ∧ Below w.heap.size w w' := by
 have hlen := hr.1
 cases hw : wOk W with
 | false =>
  rw [rightB_no1 hw]
  clear hr
  have hd : decide (1 ≤ W ∧ W ≤ 4096) = false := hw
  go_enter Tryz.func75, Tryz.ntmps75
  go_wp2_with (go_at_call 73; refine (l1In_any _ _ _ _).mono ?_; rintro e w' ⟨rfl, rfl⟩)
  go_ret
  exact ⟨rfl, blA _ _⟩
 | true =>
  have hd : decide (1 ≤ W ∧ W ≤ 4096) = true := hw
  have hW : 1 ≤ W ∧ W ≤ 4096 := by simpa [wOk] using hw
  obtain ⟨hW1, hW2⟩ := hW
  by_cases hl : (xs.length : Int) = (W + 63) / 64
  ·rw [rightB_clear hw hl]
   have hne : ((xs.length : Int) != (W + 63) / 64) = false := by simp [hl]
   have hcl := clear_iff W xs
   generalize hcv : clear W xs = cv at hcl ⊢
   have Hcl := show Hid _ from hcl
   have HL : Hid ((xs.length : Int) = (W + 63) / 64) := hl
   clear hcl hl hcv
   obtain ⟨V, rfl⟩ := Int.eq_ofNat_of_zero_le (show 0 ≤ W by omega)
   go_enter Tryz.func75, Tryz.ntmps75
   go_wp2_with (go_at_call 73; refine (l1In_any _ _ _ _).mono ?_; rintro e w' ⟨rfl, rfl⟩)
   clear hne
   go_loopw [3] (fun i wr => ∃ k : Nat, V ≤ k ∧ k ≤ 64 * xs.length ∧ i = .int .i64 k ∧ (∀ j : Nat, V ≤ j → j < k → tb xs j = false) ∧ Below (w.heap.size + 1) (w.alloc (Obj.cells #[.int IntKind.i64 V, .slice a xs.length c] 65)) wr) (fun i _ => 64 * xs.length - (intOf i).toNat)
   case atStart => exact ⟨V, Nat.le_refl _, by have := HL.out; omega, rfl, fun j h1 h2 => by omega, Below.refl _ _⟩
   case round =>
    obtain ⟨k, hk1, hk2, rfl, hz, hbel⟩ := hrel
    have HZ : Hid (∀ j : Nat, V ≤ j → j < k → tb xs j = false) := hz
    have hc0 : wr.cell? ⟨w.heap.size, 0, none⟩ = some (Value.int IntKind.i64 V) := by rw [hbel.cell (by simp)]; simp
    have hc1 : wr.cell? ⟨w.heap.size, 1, none⟩ = some (Value.slice a xs.length c) := by rw [hbel.cell (by simp)]; simp
    have hsz := hbel.size
    simp at hsz
    have hr' : Rd wr a xs := (hr.later (blA _ _)).later (hbel.mono (by simp))
    have HB := show Hid _ from hbel
    clear hz hbel hr
    by_cases hlt : k < 64 * xs.length
    ·cases htb : tb xs k with
     | true =>
      go_wp2_with (go_at_call 51; refine (l1Bit_any _ _ _ _ _ _ hr' hlt).mono ?_; rintro e w1 ⟨rfl, hb1⟩)
      go_ret
      refine ⟨ret_bool ?_, (((blA _ _).trans (HB.out.mono (Nat.le_succ _))).trans (hb1.mono (by omega)))⟩
      cases cv with
      | false => rfl
      | true => exact absurd (Hcl.out.1 rfl k (by omega) hlt) (by simp [htb])
     | false =>
      go_wp2_with (go_at_call 51; refine (l1Bit_any _ _ _ _ _ _ hr' hlt).mono ?_; rintro e w1 ⟨rfl, hb1⟩)
      go_roundw
      case rel =>
       refine ⟨k + 1, by omega, by omega, by go_num, fun j h1 h2 => ?_, HB.out.trans (hb1.mono (by omega))⟩
       by_cases hj : j = k
       ·rw [hj]; exact htb
       ·exact HZ.out j h1 (by omega)
      case measure => simp [intOf]; omega
    ·go_wp2
     go_ret
     refine ⟨ret_bool ?_, (blA _ _).trans (HB.out.mono (Nat.le_succ _))⟩
     exact (Hcl.out.2 fun j h1 h2 => HZ.out j (by omega) (by omega)).symm
  ·rw [rightB_no2 hl]
   have hne : ((xs.length : Int) != (W + 63) / 64) = true := by simp [hl]
   clear hl hr
   go_enter Tryz.func75, Tryz.ntmps75
   go_wp2_with (go_at_call 73; refine (l1In_any _ _ _ _).mono ?_; rintro e w' ⟨rfl, rfl⟩)
   go_ret
   exact ⟨rfl, blA _ _⟩

theorem Tryz.infoU64 : (Tryz.prog.info? 118).map (fun i => (i.zero, i.size, i.bytes)) = some (some (.int .u64 0), 1, 8) := by kernel_rfl
def u64s (xs : List Nat) : Array Value := (xs.map fun (x : Nat) => Value.int .u64 (x : Int)).toArray
theorem u64s_get (xs : List Nat) (i : Nat) (h : i < xs.length) : (u64s xs)[i]? = some (.int .u64 ((xs.getD i 0 : Nat) : Int)) := by simp [u64s, List.getD, h]
theorem u64s_set (xs : List Nat) (i x : Nat) : (u64s xs).setIfInBounds i (.int .u64 (x : Int)) = u64s (xs.set i x) := by
 simp [u64s, List.setIfInBounds_toArray, List.map_set]
theorem u64s_made (n : Nat) : madeCells #[.int .u64 0] n = u64s (List.replicate n 0) := by
 apply Array.toList_inj.1
 rw [toList_madeCells_one]
 simp [u64s]
def Own (w : World) (g : Nat) (xs : List Nat) : Prop := w.heap[g]? = some (.cells (u64s xs) 118 (0, 0))
theorem Own.cell {w : World} {g : Nat} {xs : List Nat} (h : Own w g xs) {i : Nat} (hi : i < xs.length) : w.cell? ⟨g, i, none⟩ = some (.int .u64 ((xs.getD i 0 : Nat) : Int)) := by
 rw [cell_of_row w g i _ _ _ h, u64s_get _ _ hi]
theorem Own.free {w : World} {g : Nat} {xs : List Nat} (h : Own w g xs) (i : Nat) : w.frozen? ⟨g, i, none⟩ = false := frozen_of_row w g i _ _ h
theorem Own.lt {w : World} {g : Nat} {xs : List Nat} (h : Own w g xs) : g < w.heap.size := lt_of_block h
theorem Own.put {w : World} {g : Nat} {xs : List Nat} (h : Own w g xs) (i x : Nat) : Own (w.setCell ⟨g, i, none⟩ (.int .u64 (x : Int))) g (xs.set i x) := by
 unfold Own
 rw [heap_setCell_same w g i _ _ _ h, u64s_set]
theorem Own.rd {w : World} {g : Nat} {xs : List Nat} (h : Own w g xs) (hl : xs.length ≤ 1048576) (hx : ∀ x ∈ xs, x < 18446744073709551616) : Rd w (some ⟨g, 0, none⟩) xs :=
 ⟨hl, hx, .inr ⟨g, 0, rfl, fun i hi => by rw [Nat.zero_add]; exact h.cell hi⟩⟩
theorem Own.later {w w' : World} {g B : Nat} {xs : List Nat} (h : Own w g xs) (hb : Below B w w') (hg : g < B) : Own w' g xs := by
 unfold Own
 rw [hb.block g hg]; exact h
theorem szUint64S_any (a : Option Addr) (n c : Nat) (L : Int) (w : World) (hL : 0 ≤ L) (hL2 : L ≤ 1048576) (hn : n ≤ 9223372036854775807) :
  Calls Tryz.prog 70 #[.slice a n c, .int .i64 L] w fun e w' => e = .returned (.int .i64 (if (n : Int) ≤ L then L - n else -1)) ∧ w' = w := by
 by_cases h : (n : Int) ≤ L
 ·rw [if_pos h]
  go_enter Tryz.func70, Tryz.ntmps70
  go_wp2
  go_ret
  exact ⟨rfl, rfl⟩
 ·rw [if_neg h]
  go_enter Tryz.func70, Tryz.ntmps70
  go_wp2
  go_ret
  exact ⟨rfl, rfl⟩
theorem szBits_yes (W : Int) (a : Option Addr) (n c : Nat) (L : Int) (w : World) (hL : 0 ≤ L) (hL2 : L ≤ 1048576) (hn : n ≤ 9223372036854775807) (h : (n : Int) ≤ L) :
  Calls Tryz.prog 48 #[.agg #[.int .i64 W, .slice a n c], .int .i64 L] w fun e w' => e = .returned (.int .i64 (L - n)) ∧ Below w.heap.size w w' := by
 go_enter Tryz.func48, Tryz.ntmps48
 go_wp2_with (go_at_call 70; refine (szUint64S_any _ _ _ _ _ hL hL2 hn).mono ?_; rw [if_pos h]; rintro e w' ⟨rfl, rfl⟩)
 go_ret
 exact ⟨rfl, blA _ _⟩
theorem szBits_no (W : Int) (a : Option Addr) (n c : Nat) (L : Int) (w : World) (hL : 0 ≤ L) (hL2 : L ≤ 1048576) (hn : n ≤ 9223372036854775807) (h : ¬ (n : Int) ≤ L) :
  Calls Tryz.prog 48 #[.agg #[.int .i64 W, .slice a n c], .int .i64 L] w fun e w' => e = .returned (.int .i64 (-1)) ∧ Below w.heap.size w w' := by
 go_enter Tryz.func48, Tryz.ntmps48
 go_wp2_with (go_at_call 70; refine (szUint64S_any _ _ _ _ _ hL hL2 hn).mono ?_; rw [if_neg h]; rintro e w' ⟨rfl, rfl⟩)
 go_ret
 exact ⟨rfl, blA _ _⟩
theorem take_set (xs : List Nat) (k : Nat) (h : k < xs.length) :
  (xs.take k ++ List.replicate (xs.length - k) 0).set k (xs.getD k 0) = xs.take (k + 1) ++ List.replicate (xs.length - (k + 1)) 0 := by
 apply List.ext_getElem?
 intro i
 simp only [List.getElem?_set, List.getElem?_append, List.getElem?_take, List.length_take, List.getElem?_replicate, List.length_append, List.length_replicate, List.getD]
 split <;> split <;> split <;> (try split) <;> (try split) <;> (try omega) <;> simp_all <;> (try omega)
theorem toUint64S_any (a : Option Addr) (c : Nat) (xs : List Nat) (w : World) (hr : Rd w a xs) :
  Calls Tryz.prog 78 #[.slice a xs.length c] w fun e w' => e = .returned (.slice (some ⟨w.heap.size, 0, none⟩) xs.length xs.length) ∧ Own w' w.heap.size xs ∧ Below w.heap.size w w' := by
 have hlen := hr.1
 have hmk := fun kl kc w => run_make_row' (P := Tryz.prog) 57 118 (.int .u64 0) 8 Tryz.underlying57 Tryz.infoU64 rfl kl kc xs.length (by omega) (by omega) w
 go_enter Tryz.func78, Tryz.ntmps78
 go_wp2
 go_loopw [4] (fun i wr => ∃ k : Nat, k ≤ xs.length ∧ i = .int .i64 k ∧ Own wr w.heap.size (xs.take k ++ List.replicate (xs.length - k) 0) ∧ Below w.heap.size w wr) (fun i _ => xs.length - (intOf i).toNat)
 case atStart =>
  refine ⟨0, Nat.zero_le _, rfl, ?_, blA _ _⟩
  unfold Own
  rw [heap_alloc_new, u64s_made]
  rfl
 case round =>
  obtain ⟨k, hk, rfl, hown, hbel⟩ := hrel
  by_cases hlt : k < xs.length
  ·obtain ⟨-, -, h | ⟨b, o, rfl, hc⟩⟩ := hr
   ·subst h; simp at hlt
   have hcell := hc k hlt
   have hb : b < w.heap.size := block_lt_of_cell hcell
   have hcw : wr.cell? ⟨b, o + k, none⟩ = some (.int .u64 ((xs.getD k 0 : Nat) : Int)) := by rw [hbel.cell (by exact hb)]; exact hcell
   have hcg := hown.cell (i := k) (by simp; omega)
   have hfg := hown.free k
   have HO := show Hid _ from hown.put k (xs.getD k 0)
   have HB := show Hid _ from hbel
   generalize (xs.take k ++ List.replicate (xs.length - k) 0).getD k 0 = z at hcg
   have HT := show Hid _ from take_set xs k hlt
   clear hc hcell hown hbel hmk
   generalize xs.getD k 0 = y at *
   go_wp2
   go_roundw
   case rel =>
    have h := HO.out
    rw [HT.out] at h
    exact ⟨k + 1, by omega, by go_num, h, HB.out.setCell (Nat.le_refl _) _⟩
   case measure => simp [intOf]; omega
  ·clear hmk
   go_wp2
   go_ret
   refine ⟨rfl, ?_, hbel⟩
   have e : k = xs.length := by omega
   rw [e] at hown
   simpa using hown

def St (w : World) (bx : Obj) (wk : World) : Prop := Below (w.heap.size + 1) (w.alloc bx) wk
theorem St.start (w : World) (bx : Obj) : St w bx (w.alloc bx) := Below.refl _ _
theorem St.size {w wk : World} {bx : Obj} (h : St w bx wk) : w.heap.size < wk.heap.size := by
 have := Below.size h
 simp at this; omega
theorem St.next {w wk w1 : World} {bx : Obj} (h : St w bx wk) (hb : Below wk.heap.size wk w1) : St w bx w1 := Below.trans h (hb.mono (by have := h.size; omega))
theorem St.cell {w wk : World} {cs : Array Value} {t : TypeId} (h : St w (.cells cs t) wk) (i : Nat) : wk.cell? ⟨w.heap.size, i, none⟩ = cs[i]? := by
 rw [Below.cell h (p := ⟨w.heap.size, i, none⟩) (by simp)]; simp
theorem St.below {w wk : World} {bx : Obj} (h : St w bx wk) : Below w.heap.size w wk := (blA _ _).trans (Below.mono h (Nat.le_succ _))
theorem bcell {W w1 : World} (hb : Below W.heap.size W w1) : (∀ b o, b < W.heap.size → w1.cell? ⟨b, o, none⟩ = W.cell? ⟨b, o, none⟩) ∧ (∀ b o, b < W.heap.size → w1.frozen? ⟨b, o, none⟩ = W.frozen? ⟨b, o, none⟩) :=
 ⟨fun b o h => hb.cell (p := ⟨b, o, none⟩) h, fun b o h => hb.frozen (p := ⟨b, o, none⟩) h⟩
theorem Own.other {w : World} {g : Nat} {xs : List Nat} (h : Own w g xs) {a : Addr} (ha : g ≠ a.block) (v : Value) : Own (w.setCell a v) g xs := by
 unfold Own
 rw [heap_setCell_other w a g v ha]; exact h
theorem toBits_any (W : Int) (a : Option Addr) (c : Nat) (xs : List Nat) (w : World) (hr : Rd w a xs) :
  Calls Tryz.prog 57 #[.agg #[.int .i64 W, .slice a xs.length c]] w fun e w' => ∃ g, e = .returned (.agg #[.int .i64 W, .slice (some ⟨g, 0, none⟩) xs.length xs.length]) ∧ w.heap.size ≤ g ∧ Own w' g xs ∧ Below w.heap.size w w' := by
 go_enter Tryz.func57, Tryz.ntmps57
 go_wp2_with fail
 refine (toUint64S_any a c xs _ ?_).mono ?_
 ·exact hr.later (((blA _ _).alloc (by simp) _).alloc (by simp; omega) _)
 rintro e w1 ⟨rfl, hown, hb⟩
 obtain ⟨hc, hf⟩ := bcell hb
 have hz : w.heap.size + 1 + 1 < w1.heap.size := by have := hb.size; simp at this; omega
 have HO := show Hid _ from hown
 have HB := show Hid _ from hb
 clear hown hb hr
 go_wp2
 refine bodyPost_ret (v := .agg #[.int .i64 W, .slice (some ⟨w.heap.size + 1 + 1 + 1, 0, none⟩) xs.length xs.length]) (by simp [results, Tryz.results57, go_sem, hc]) rfl ⟨_, rfl, by omega, ?_, ?_⟩
 ·have h := HO.out
  simp only [World.size_alloc] at h
  exact ((Own.other h (by simp) _).other (by simp; omega) _).other (by simp; omega) _
 ·have h := HB.out
  have h0 : Below w.heap.size w w1 := (((blA _ _).alloc (by simp) _).alloc (by simp; omega) _).trans (h.mono (by simp; omega))
  exact ((h0.setCell (by simp; omega) _).setCell (by simp) _).setCell (by simp) _
theorem eqUint64S_any (a b : Option Addr) (c d : Nat) (xs ys : List Nat) (w : World) (hr : Rd w a xs) (hs : Rd w b ys) :
  Calls Tryz.prog 105 #[.slice a xs.length c, .slice b ys.length d] w fun e w' => e = .returned (.bool (decide (xs = ys))) ∧ Below w.heap.size w w' := by
 have hl1 := hr.1
 have hl2 := hs.1
 by_cases hl : xs.length = ys.length
 ·have hne : ((xs.length : Int) != (ys.length : Int)) = false := by simp [hl]
  have HL : Hid (xs.length = ys.length) := hl
  clear hl
  go_enter Tryz.func105, Tryz.ntmps105
  go_wp2
  clear hne
  go_loopw [5] (fun i wr => ∃ k : Nat, k ≤ xs.length ∧ i = .int .i64 k ∧ (∀ j, j < k → xs.getD j 0 = ys.getD j 0) ∧ Below w.heap.size w wr) (fun i _ => xs.length - (intOf i).toNat)
  case atStart => exact ⟨0, Nat.zero_le _, rfl, fun j h => by omega, Below.refl _ _⟩
  case round =>
   obtain ⟨k, hk, rfl, hz, hbel⟩ := hrel
   have HZ := show Hid _ from hz
   have HB := show Hid _ from hbel
   by_cases hlt : k < xs.length
   ·obtain ⟨-, -, h | ⟨b1, o1, rfl, hc1⟩⟩ := hr
    ·subst h; simp at hlt
    have hlt2 : k < ys.length := by have := HL.out; omega
    obtain ⟨-, -, h | ⟨b2, o2, rfl, hc2⟩⟩ := hs
    ·subst h; simp at hlt2
    have e1 := hc1 k hlt
    have e2 := hc2 k hlt2
    have f1 : wr.cell? ⟨b1, o1 + k, none⟩ = some (.int .u64 ((xs.getD k 0 : Nat) : Int)) := by rw [hbel.cell (by exact block_lt_of_cell e1)]; exact e1
    have f2 : wr.cell? ⟨b2, o2 + k, none⟩ = some (.int .u64 ((ys.getD k 0 : Nat) : Int)) := by rw [hbel.cell (by exact block_lt_of_cell e2)]; exact e2
    have hxe : decide (xs = ys) = false ∨ xs.getD k 0 = ys.getD k 0 := by
     by_cases h : xs = ys
     ·exact .inr (by rw [h])
     ·exact .inl (by simp [h])
    clear hc1 hc2 hz hbel e1 e2
    have i0 : (k : Int) < (xs.length : Int) := by omega
    have i1 : (k : Int) < (ys.length : Int) := by omega
    generalize hx1 : xs.getD k 0 = x1 at *
    generalize hy1 : ys.getD k 0 = y1 at *
    have HX : Hid (xs.getD k 0 = x1) := hx1
    have HY : Hid (ys.getD k 0 = y1) := hy1
    clear hx1 hy1
    by_cases hxy : x1 = y1
    ·have hb : ((x1 : Int) != (y1 : Int)) = false := by simp [hxy]
     have HE : Hid (x1 = y1) := hxy
     clear hxe hxy
     go_wp2_with fail
     go_quiet (fail)
     go_wp2
     go_roundw
     case rel =>
      refine ⟨k + 1, by omega, by go_num, fun j hj => ?_, below_drewN HB.out _⟩
      by_cases hj' : j = k
      ·rw [hj', HX.out, HY.out]; exact HE.out
      ·exact HZ.out j (by omega)
     case measure => simp [intOf]; omega
    ·have hb : ((x1 : Int) != (y1 : Int)) = true := by simp; omega
     have HE : Hid (decide (xs = ys) = false) := by
      rcases hxe with h | h
      ·exact h
      ·exact absurd h hxy
     clear hxe hxy
     go_wp2_with fail
     go_quiet (fail)
     go_wp2
     go_ret
     exact ⟨ret_bool HE.out.symm, below_drewN HB.out _⟩
   ·clear hz hbel
    go_wp2
    go_ret
    refine ⟨ret_bool ?_, HB.out⟩
    have he : xs = ys := by
     refine List.ext_getElem HL.out fun j h1 h2 => ?_
     have := HZ.out j (by omega)
     simpa [List.getD, h1, h2] using this
    simp [he]
 ·have hne : ((xs.length : Int) != (ys.length : Int)) = true := by simp; omega
  have hx : xs ≠ ys := fun h => hl (by rw [h])
  go_enter Tryz.func105, Tryz.ntmps105
  go_wp2
  go_ret
  exact ⟨ret_bool (by simp [hx]), Below.refl _ _⟩
theorem eqBits_any (V W : Int) (a b : Option Addr) (c d : Nat) (xs ys : List Nat) (w : World) (hr : Rd w a xs) (hs : Rd w b ys) :
  Calls Tryz.prog 68 #[.agg #[.int .i64 V, .slice a xs.length c], .agg #[.int .i64 W, .slice b ys.length d]] w fun e w' => e = .returned (.bool (decide (V = W ∧ xs = ys))) ∧ Below w.heap.size w w' := by
 have h2 : Below w.heap.size w ((w.alloc (Obj.cells #[.int IntKind.i64 V, .slice a xs.length c] 65)).alloc (Obj.cells #[.int IntKind.i64 W, .slice b ys.length d] 65)) := (blA _ _).alloc (by simp) _
 by_cases hV : V = W
 ·have hne : (V != W) = false := by simp [hV]
  have HV : Hid (V = W) := hV
  clear hV
  have hr' := hr.later h2
  have hs' := hs.later h2
  cases he : decide (xs = ys) with
  | true =>
   have HE : Hid (decide (V = W ∧ xs = ys) = true) := by show _ = _; simp [HV.out]; simpa using he
   have H2 := show Hid _ from h2
   clear h2 hr hs
   go_enter Tryz.func68, Tryz.ntmps68
   go_wp2_with (go_at_call 105; refine (eqUint64S_any _ _ _ _ _ _ _ hr' hs').mono ?_; rintro e w' ⟨rfl, hb⟩)
   go_ret
   exact ⟨ret_bool HE.out.symm, H2.out.trans (hb.mono (by simp; omega))⟩
  | false =>
   have HE : Hid (decide (V = W ∧ xs = ys) = false) := by show _ = _; simp; intro _; simpa using he
   have H2 := show Hid _ from h2
   clear h2 hr hs
   go_enter Tryz.func68, Tryz.ntmps68
   go_wp2_with (go_at_call 105; refine (eqUint64S_any _ _ _ _ _ _ _ hr' hs').mono ?_; rintro e w' ⟨rfl, hb⟩)
   go_ret
   exact ⟨ret_bool HE.out.symm, H2.out.trans (hb.mono (by simp; omega))⟩
 ·have hne : (V != W) = true := by simp [hV]
  clear hr hs
  go_enter Tryz.func68, Tryz.ntmps68
  go_wp2
  go_ret
  exact ⟨ret_bool (by simp [hV]), h2⟩

def RdB (w : World) (a : Option Addr) (bs : List Nat) : Prop :=
 bs.length ≤ 4194304 ∧ (∀ x ∈ bs, x < 256) ∧ (bs = [] ∨ ∃ b o, a = some ⟨b, o, none⟩ ∧ ∀ i, i < bs.length → w.cell? ⟨b, o + i, none⟩ = some (.int .u8 ((bs.getD i 0 : Nat) : Int)))
def Fresh (w : World) (lo : Nat) (a : Option Addr) (ys : List Nat) : Prop := (ys = [] ∧ a = none) ∨ ∃ g, a = some ⟨g, 0, none⟩ ∧ lo ≤ g ∧ Own w g ys
def RetB (w : World) (r : Int × List Nat × Bool) (e : Ending) (w' : World) : Prop :=
 ∃ a c, e = .returned (.tuple #[.agg #[.int .i64 r.1, .slice a r.2.1.length c], .bool r.2.2]) ∧ Fresh w' w.heap.size a r.2.1 ∧ Below w.heap.size w w'
def packTo (bs : List Nat) : Nat → List Nat
 | 0 => List.replicate ((bs.length + 63) / 64) 0
 | k + 1 => (packTo bs k).set (k / 64) ((packTo bs k).getD (k / 64) 0 ||| (bs.getD k 0) * 2 ^ (k % 64) % 18446744073709551616)
def pack (bs : List Nat) : List Nat := packTo bs bs.length
theorem packTo_len (bs : List Nat) (k : Nat) : (packTo bs k).length = (bs.length + 63) / 64 := by
 induction k with
 | zero => simp [packTo]
 | succ k ih => simp [packTo, ih]
theorem packTo_lt (bs : List Nat) (k : Nat) : ∀ x ∈ packTo bs k, x < 18446744073709551616 := by
 induction k with
 | zero => intro x hx; simp [packTo] at hx; omega
 | succ k ih =>
  intro x hx
  simp only [packTo] at hx
  rcases List.mem_or_eq_of_mem_set hx with h | h
  ·exact ih x h
  ·rw [h]
   refine Nat.or_lt_two_pow (n := 64) ?_ (Nat.mod_lt _ (by decide))
   simp only [List.getD]
   cases hg : (packTo bs k)[k / 64]? with
   | none => simp
   | some v => exact ih v (List.mem_of_getElem? hg)
theorem orShift (z y s : Nat) (hz : z < 18446744073709551616) : bits BinOp.or IntKind.u64 (z : Int) (IntKind.u64.wrap ((y : Int) * 2 ^ s)) = ((z ||| y * 2 ^ s % 18446744073709551616 : Nat) : Int) := by
 have e : IntKind.u64.wrap ((y : Int) * 2 ^ s) = ((y * 2 ^ s % 18446744073709551616 : Nat) : Int) := by
  rw [IntKind.wrap_u64]; simp
 rw [e, bits_or_u64_nat _ _ hz (Nat.mod_lt _ (by decide))]
theorem l1From_no (a : Option Addr) (n c : Nat) (w : World) (h : n = 0 ∨ 4096 < n) (hn : n ≤ 4194304) :
  Calls Tryz.prog 52 #[.slice a n c] w fun e w' => e = .returned (.tuple #[.agg #[.int .i64 0, .slice none 0 0], .bool false]) ∧ Below w.heap.size w w' := by
 rcases h with rfl | h
 ·go_enter Tryz.func52, Tryz.ntmps52
  go_wp2
  exact bodyPost_ret (v := .tuple #[.agg #[.int .i64 0, .slice none 0 0], .bool false]) (by simp [results, Tryz.results52, go_sem]) rfl ⟨rfl, blA _ _⟩
 ·have h1 : ¬ (n : Int) < 1 := by omega
  have h2 : (4096 : Int) < (n : Int) := by omega
  go_enter Tryz.func52, Tryz.ntmps52
  go_wp2
  exact bodyPost_ret (v := .tuple #[.agg #[.int .i64 0, .slice none 0 0], .bool false]) (by simp [results, Tryz.results52, go_sem]) rfl ⟨rfl, blA _ _⟩
theorem l1From_yes (a : Option Addr) (c : Nat) (bs : List Nat) (w : World) (hr : RdB w a bs) (h1 : 1 ≤ bs.length) (h2 : bs.length ≤ 4096) :
  Calls Tryz.prog 52 #[.slice a bs.length c] w (RetB w ((bs.length : Int), pack bs, true)) := by
 have hd : ((bs.length + 63) / 64 : Nat) ≤ 64 := by omega
 have hmk := fun kl kc w => run_make_row' (P := Tryz.prog) 57 118 (.int .u64 0) 8 Tryz.underlying57 Tryz.infoU64 rfl kl kc ((bs.length + 63) / 64) (by omega) (by omega) w
 have ec : (((bs.length + 63) / 64 : Nat) : Int) = ((bs.length : Int) + 63) / 64 := by omega
 simp only [ec] at hmk
 clear ec
 go_enter Tryz.func52, Tryz.ntmps52
 go_wp2
 clear hmk
 generalize hN : (bs.length + 63) / 64 = N at *
 have HN : Hid ((bs.length + 63) / 64 = N) := hN
 clear hN
 go_loopw [5] (fun i wr => ∃ k : Nat, k ≤ bs.length ∧ i = .int .i64 k ∧ Own wr (w.heap.size + 1) (packTo bs k) ∧
   wr.heap[w.heap.size]? = some (.cells #[.int IntKind.i64 0, .slice none 0 0] 65 (0, 0)) ∧
   wr.heap[w.heap.size + 1 + 1]? = some (.cells #[.int IntKind.i64 bs.length, .slice (some { block := w.heap.size + 1, off := 0 }) N N] 65 (0, 0)) ∧ Below w.heap.size w wr) (fun i _ => bs.length - (intOf i).toNat)
 case atStart =>
  refine ⟨0, Nat.zero_le _, rfl, ?_, ?_, ?_, ((blA _ _).alloc (by simp) _).alloc (by simp; omega) _⟩
  ·unfold Own
   rw [heap_alloc_old _ _ (by simp), show w.heap.size + 1 = (w.alloc (Obj.cells #[.int IntKind.i64 0, .slice none 0 0] 65)).heap.size by simp, heap_alloc_new, u64s_made, packTo, HN.out]
  ·rw [heap_alloc_old _ _ (by simp; omega), heap_alloc_old _ _ (by simp), heap_alloc_new]
  ·rw [show w.heap.size + 1 + 1 = ((w.alloc (Obj.cells #[.int IntKind.i64 0, .slice none 0 0] 65)).alloc (Obj.cells (madeCells #[.int IntKind.u64 0] N) 118)).heap.size by simp, heap_alloc_new]
 case round =>
  obtain ⟨k, hk, rfl, hown, hres, hbox, hbel⟩ := hrel
  have hplen := packTo_len bs k
  rw [HN.out] at hplen
  have b1 : wr.cell? ⟨w.heap.size + 1 + 1, 1, none⟩ = some (Value.slice (some { block := w.heap.size + 1, off := 0 }) N N) := cell_of_row wr _ 1 _ _ _ hbox
  have b0 : wr.cell? ⟨w.heap.size + 1 + 1, 0, none⟩ = some (Value.int IntKind.i64 bs.length) := cell_of_row wr _ 0 _ _ _ hbox
  by_cases hlt : k < bs.length
  ·obtain ⟨-, hby, h | ⟨b, o, rfl, hc⟩⟩ := hr
   ·subst h; simp at hlt
   have hcell := hc k hlt
   have hb : b < w.heap.size := block_lt_of_cell hcell
   have hcw : wr.cell? ⟨b, o + k, none⟩ = some (.int .u8 ((bs.getD k 0 : Nat) : Int)) := by rw [hbel.cell (by exact hb)]; exact hcell
   have hkN : k / 64 < N := by have := HN.out; omega
   have hkNi : (k : Int) / 64 < (N : Int) := by omega
   have hki : (k : Int) < (bs.length : Int) := by omega
   have hcg := hown.cell (i := k / 64) (by omega)
   have hfg := hown.free (k / 64)
   have hb8 : bs.getD k 0 < 256 := by
    have e : bs.getD k 0 = bs[k] := by simp [List.getD, hlt]
    rw [e]; exact hby _ (List.getElem_mem _)
   generalize hz : (packTo bs k).getD (k / 64) 0 = z at hcg
   generalize hy : bs.getD k 0 = y at *
   clear hc hcell hby
   have hz64 : z < 18446744073709551616 := by
    rw [← hz]
    simp only [List.getD]
    cases hg : (packTo bs k)[k / 64]? with
    | none => simp
    | some v => exact packTo_lt bs k v (List.mem_of_getElem? hg)
   have HO : Hid (Own (wr.setCell ⟨w.heap.size + 1, k / 64, none⟩ (.int .u64 (bits BinOp.or IntKind.u64 (z : Int) (IntKind.u64.wrap ((y : Int) * 2 ^ (k % 64)))))) (w.heap.size + 1) (packTo bs (k + 1))) := by
    have h := hown.put (k / 64) (z ||| y * 2 ^ (k % 64) % 18446744073709551616)
    rw [← orShift z y _ hz64] at h
    show Own _ _ _
    rw [packTo, hz, hy]
    exact h
   clear hz hy hz64
   go_wp2
   go_region
   go_wp2
   go_roundw
   case rel =>
    refine ⟨k + 1, by omega, by go_num, HO.out, ?_, ?_, ?_⟩
    ·show (World.setCell _ _ _).heap[_]? = _
     rw [heap_setCell_other _ _ _ _ (by simp)]; exact hres
    ·show (World.setCell _ _ _).heap[_]? = _
     rw [heap_setCell_other _ _ _ _ (by simp)]; exact hbox
    ·exact (hbel.setCell (by simp) _).drew
   case measure => simp [intOf]; omega
  ·have e : k = bs.length := by omega
   have c0 : wr.cell? ⟨w.heap.size, 0, none⟩ = some (Value.int IntKind.i64 0) := cell_of_row wr _ 0 _ _ _ hres
   have c1 : wr.cell? ⟨w.heap.size, 1, none⟩ = some (Value.slice none 0 0) := cell_of_row wr _ 1 _ _ _ hres
   have f0 : wr.frozen? ⟨w.heap.size, 0, none⟩ = false := frozen_of_row wr _ 0 _ _ hres
   have f1 : wr.frozen? ⟨w.heap.size, 1, none⟩ = false := frozen_of_row wr _ 1 _ _ hres
   have HO : Hid (Own wr (w.heap.size + 1) (pack bs)) := by rw [e] at hown; exact hown
   have HP : Hid ((pack bs).length = N) := by rw [e] at hplen; exact hplen
   clear hown hplen hres hbox e
   go_wp2
   refine bodyPost_ret (v := .tuple #[.agg #[.int .i64 bs.length, .slice (some ⟨w.heap.size + 1, 0, none⟩) N N], .bool true]) (by simp [results, Tryz.results52, go_sem, c0, c1]) rfl ?_
   refine ⟨some ⟨w.heap.size + 1, 0, none⟩, N, by rw [HP.out], .inr ⟨_, rfl, Nat.le_succ _, (HO.out.other (by simp) _).other (by simp) _⟩, (hbel.setCell (Nat.le_refl _) _).setCell (Nat.le_refl _) _⟩

theorem getD_lt {xs : List Nat} (h : ∀ x ∈ xs, x < 18446744073709551616) (i : Nat) : xs.getD i 0 < 18446744073709551616 := by
 simp only [List.getD]
 cases hg : xs[i]? with
 | none => simp
 | some v => exact h v (List.mem_of_getElem? hg)
theorem tb_set (xs : List Nat) (k y i : Nat) (hk : k < xs.length) : tb (xs.set k y) i = if i / 64 = k then y.testBit (i % 64) else tb xs i := by
 unfold tb
 simp only [List.getD, List.getElem?_set]
 by_cases h : i / 64 = k
 ·simp [h, hk]
 ·rw [if_neg (fun e => h e.symm), if_neg h]
theorem tb_packTo (bs : List Nat) (hb : ∀ x ∈ bs, x ≤ 1) (k i : Nat) (hk : k ≤ bs.length) : tb (packTo bs k) i = (decide (i < k) && decide (bs.getD i 0 = 1)) := by
 induction k with
 | zero => simp [packTo, tb, List.getD, List.getElem?_replicate]; split <;> simp
 | succ k ih =>
  have hlen := packTo_len bs k
  rw [packTo, tb_set _ _ _ _ (by omega)]
  have hbk : bs.getD k 0 ≤ 1 := by
   have e : bs.getD k 0 = bs[k] := by simp [List.getD, show k < bs.length by omega]
   rw [e]; exact hb _ (List.getElem_mem _)
  have hlt : bs.getD k 0 * 2 ^ (k % 64) < 18446744073709551616 := by
   have h1 : 2 ^ (k % 64) ≤ 2 ^ 63 := Nat.pow_le_pow_right (by omega) (by omega)
   have h2 : bs.getD k 0 * 2 ^ (k % 64) ≤ 1 * 2 ^ (k % 64) := Nat.mul_le_mul_right _ hbk
   omega
  by_cases h : i / 64 = k / 64
  ·rw [if_pos h, Nat.testBit_or, Nat.mod_eq_of_lt hlt]
   have ih' := ih (by omega)
   unfold tb at ih'
   rw [h] at ih'
   rw [ih']
   by_cases h2 : i = k
   ·subst h2
    have h3 : bs.getD i 0 = 0 ∨ bs.getD i 0 = 1 := by omega
    rcases h3 with h3 | h3
    ·rw [h3]; simp
    ·rw [h3, Nat.one_mul, Nat.testBit_two_pow_self]; simp
   ·have h4 : (bs.getD k 0 * 2 ^ (k % 64)).testBit (i % 64) = false := by
     have h3 : bs.getD k 0 = 0 ∨ bs.getD k 0 = 1 := by omega
     rcases h3 with h3 | h3
     ·rw [h3]; simp
     ·rw [h3, Nat.one_mul]; exact Nat.testBit_two_pow_of_ne (by omega)
    rw [h4, Bool.or_false]
    by_cases h5 : i < k
    ·simp [h5, show i < k + 1 by omega]
    ·simp [h5, show ¬ i < k + 1 by omega]
  ·rw [if_neg h, ih (by omega)]
   by_cases h5 : i < k
   ·simp [h5, show i < k + 1 by omega]
   ·simp [h5, show ¬ i < k + 1 by omega]
theorem tb_pack (bs : List Nat) (hb : ∀ x ∈ bs, x ≤ 1) (i : Nat) : tb (pack bs) i = decide (bs.getD i 0 = 1) := by
 rw [pack, tb_packTo bs hb _ _ (Nat.le_refl _)]
 by_cases h : i < bs.length
 ·simp [h]
 ·simp [h, List.getD]
theorem pack_len (bs : List Nat) : (pack bs).length = (bs.length + 63) / 64 := packTo_len bs _
theorem pack_lt (bs : List Nat) : ∀ x ∈ pack bs, x < 18446744073709551616 := packTo_lt bs _
theorem tb_ext {xs ys : List Nat} (hl : xs.length = ys.length) (hx : ∀ x ∈ xs, x < 18446744073709551616) (hy : ∀ x ∈ ys, x < 18446744073709551616)
  (h : ∀ i, i < 64 * xs.length → tb xs i = tb ys i) : xs = ys := by
 refine List.ext_getElem hl fun k h1 h2 => ?_
 have e1 : xs.getD k 0 = xs[k] := by simp [List.getD, h1]
 have e2 : ys.getD k 0 = ys[k] := by simp [List.getD, h2]
 rw [← e1, ← e2]
 refine Nat.eq_of_testBit_eq fun j => ?_
 by_cases hj : j < 64
 ·have := h (64 * k + j) (by omega)
  unfold tb at this
  rw [show (64 * k + j) / 64 = k by omega, show (64 * k + j) % 64 = j by omega] at this
  exact this
 ·have p : 2 ^ 64 ≤ 2 ^ j := Nat.pow_le_pow_right (by omega) (by omega)
  rw [Nat.testBit_lt_two_pow (Nat.lt_of_lt_of_le (getD_lt hx k) p), Nat.testBit_lt_two_pow (Nat.lt_of_lt_of_le (getD_lt hy k) p)]
theorem eq_pack {ys bs : List Nat} (hb : ∀ x ∈ bs, x ≤ 1) (hl : ys.length = (bs.length + 63) / 64) (hy : ∀ x ∈ ys, x < 18446744073709551616)
  (h : ∀ i, i < 64 * ys.length → tb ys i = decide (bs.getD i 0 = 1)) : ys = pack bs :=
 tb_ext (by rw [hl, pack_len]) hy (pack_lt bs) fun i hi => by rw [h i hi, tb_pack bs hb]
theorem tb_out {W : Int} {xs : List Nat} (h : rightB W xs = true) (i : Nat) (hi : W ≤ (i : Int)) : tb xs i = false := by
 simp only [rightB, Bool.and_eq_true] at h
 by_cases hl : i < 64 * xs.length
 ·exact (clear_iff W xs).1 h.2 i hi hl
 ·unfold tb
  have : xs.getD (i / 64) 0 = 0 := by simp only [List.getD]; rw [List.getElem?_eq_none (by omega)]; rfl
  rw [this]; simp
theorem right_W {W : Int} {xs : List Nat} (h : rightB W xs = true) : 1 ≤ W ∧ W ≤ 4096 ∧ (xs.length : Int) = (W + 63) / 64 := by
 simp [rightB, wOk] at h
 omega
theorem pack_right (bs : List Nat) (hb : ∀ x ∈ bs, x ≤ 1) (h1 : 1 ≤ bs.length) (h2 : bs.length ≤ 4096) : rightB bs.length (pack bs) = true := by
 rw [rightB_clear (by simp [wOk]; omega) (by rw [pack_len]; omega), clear_iff]
 intro i hi _
 rw [tb_pack bs hb]
 simp [List.getD, List.getElem?_eq_none (show bs.length ≤ i by omega)]

theorem Tryz.infoU8 : (Tryz.prog.info? 5).map (fun i => (i.zero, i.size, i.bytes)) = some (some (.int .u8 0), 1, 1) := by kernel_rfl
def u8s (bs : List Nat) : List Value := bs.map fun (b : Nat) => Value.int .u8 (b : Int)
def OwB (w : World) (base : Nat) (v : Value) (bs : List Nat) : Prop := w.ownsRow base 5 1 v bs.length (u8s bs)
theorem OwB.shape {w : World} {base : Nat} {v : Value} {bs : List Nat} (h : OwB w base v bs) (hl : bs.length ≤ 4194304) (hx : ∀ x ∈ bs, x < 256) :
  ∃ a c, v = .slice a bs.length c ∧ RdB w a bs ∧ bs.length ≤ c ∧ c ≤ maxLen := by
 obtain ⟨h1, ⟨rfl, h2⟩ | ⟨g, cap, cur, rfl, hg, hh, hc1, hc2, hsz, hcur⟩⟩ := h
 ·have e := List.eq_nil_of_length_eq_zero h2
  subst e
  exact ⟨none, 0, rfl, ⟨hl, hx, .inl rfl⟩, Nat.le_refl _, Nat.zero_le _⟩
 ·refine ⟨some ⟨g, 0, none⟩, cap, rfl, ⟨hl, hx, .inr ⟨g, 0, rfl, fun i hi => ?_⟩⟩, hc1, hc2⟩
  rw [Nat.zero_add, cell_of_row w g i cur _ _ hh]
  have h3 : (cur.toList.take (bs.length * 1))[i]? = (u8s bs)[i]? := by rw [hcur]
  rw [List.getElem?_take, if_pos (by omega)] at h3
  simp only [Array.getElem?_toList] at h3
  rw [h3]
  simp [u8s, List.getD, hi]
theorem OwB.alloc {w : World} {base : Nat} {v : Value} {bs : List Nat} (h : OwB w base v bs) (o : Obj) : OwB (w.alloc o) base v bs := World.ownsRow.alloc h o
theorem OwB.kept {w w' : World} {base : Nat} {v : Value} {bs : List Nat} (h : OwB w base v bs) (hb : Below w.heap.size w w') : OwB w' base v bs := by
 obtain ⟨h1, h2⟩ := h
 refine ⟨h1, ?_⟩
 rcases h2 with h2 | ⟨g, cap, cur, rfl, hg, hh, r⟩
 ·exact .inl h2
 ·exact .inr ⟨g, cap, cur, rfl, hg, by rw [hb.block g (lt_of_block hh)]; exact hh, r⟩
theorem OwB.own {w : World} {base : Nat} {v : Value} {bs : List Nat} (h : OwB w base v bs) : ∀ k, v.ownBlock = some k → base ≤ k := fun k hk => (World.ownsRow.lt h k hk).1
theorem wpList_appB (w : World) {ops : Array Oper} {rest : List Oper} {o : Oper} {a : Act} {Q : Exit → Act → World → Prop} (hgd : o.guard = none) (s x : Operand)
  (ho : o.op = .call { callee := .builtin .append, args := #[s, x], argTypes := #[90, 90] })
  (base : Nat) (v : Value) (bs : List Nat) (y : Nat) (hs : a.eval s = v) (hown : OwB w base v bs) (g : Nat) (hx : a.eval x = .slice (some ⟨g, 0, none⟩) 1 1)
  (hnew : w.cell? ⟨g, 0, none⟩ = some (.int .u8 (y : Int))) (hl : bs.length ≤ 4194304) (hbase : base ≤ w.heap.size)
  (h : ∀ v' w', OwB w' base v' (bs ++ [y]) → w.grownBy w' v.ownBlock → wpList Tryz.prog ops Q rest (a.put o.dst v') w') : wpList Tryz.prog ops Q (o :: rest) a w := by
 obtain ⟨i0, hi, hz0, hz1, hz2⟩ := info_parts Tryz.infoU8
 refine wpList_append_own w hgd s x 90 ho base 5 i0 (.int .u8 0) 1 1 Tryz.underlying90 hi hz0 hz1 hz2 rfl (by decide) v bs.length (u8s bs) hs hown ⟨g, 0, none⟩ 1 1 [.int .u8 (y : Int)] hx rfl ?_ ?_ ?_ ?_ hbase ?_
 ·intro j u hj
  match j, hj with
  | 0, hj => simp at hj; subst hj; simpa [Addr.add] using hnew
 ·intro u hu; simp at hu; subst hu; rfl
 ·unfold maxLen; omega
 ·omega
 ·intro v' w' h1 h2 _
  refine h v' w' ?_ h2
  unfold OwB
  simpa [u8s] using h1
def bitsTo (xs : List Nat) (k : Nat) : List Nat := (List.range k).map fun i => (tb xs i).toNat
theorem bitsTo_len (xs : List Nat) (k : Nat) : (bitsTo xs k).length = k := by simp [bitsTo]
theorem bitsTo_le (xs : List Nat) (k : Nat) : ∀ x ∈ bitsTo xs k, x ≤ 1 := by
 intro x hx
 obtain ⟨i, _, rfl⟩ := List.mem_map.1 hx
 cases tb xs i <;> decide

def noR : Int × List Nat × Bool := (0, [], false)
theorem RetB.no {w w' : World} (hb : Below w.heap.size w w') : RetB w noR (.returned (.tuple #[.agg #[.int .i64 0, .slice none 0 0], .bool false])) w' :=
 ⟨none, 0, rfl, .inl ⟨rfl, rfl⟩, hb⟩
theorem chain {W w1 w2 : World} (h : Below W.heap.size W w1) (k : Below w1.heap.size w1 w2) : Below W.heap.size W w2 := h.trans (k.mono h.size)
def partR (W : Int) (xs : List Nat) (hi lo : Int) : Int × List Nat × Bool :=
 if rightB W xs = true ∧ 0 ≤ lo ∧ lo ≤ hi ∧ hi < W then (hi - lo + 1, pack (((bitsTo xs W.toNat).drop lo.toNat).take (hi - lo + 1).toNat), true) else noR

theorem grown_set {w wr : World} {g : Nat} (h : w.grownBy wr (some g)) (i : Nat) (v : Value) : w.grownBy (wr.setCell ⟨g, i, none⟩ v) (some g) :=
 ⟨h.os, h.tape, h.output, by simpa using h.size, fun k hk hne => by rw [heap_setCell_other _ _ _ _ (fun e => hne (by rw [e]))]; exact h.block k hk hne⟩
theorem zeroBits_any (V : Nat) (w : World) (h1 : 1 ≤ V) (h2 : V ≤ 4096) :
  Calls Tryz.prog 96 #[.int .i64 V] w fun e w' => ∃ g, e = .returned (.agg #[.int .i64 V, .slice (some ⟨g, 0, none⟩) ((V + 63) / 64) ((V + 63) / 64)]) ∧ w.heap.size ≤ g ∧ Own w' g (List.replicate ((V + 63) / 64) 0) ∧ Below w.heap.size w w' := by
 have hmk := fun kl kc w => run_make_row' (P := Tryz.prog) 57 118 (.int .u64 0) 8 Tryz.underlying57 Tryz.infoU64 rfl kl kc ((V + 63) / 64) (by omega) (by omega) w
 have ec : (((V + 63) / 64 : Nat) : Int) = ((V : Int) + 63) / 64 := by omega
 simp only [ec] at hmk
 clear ec
 go_enter Tryz.func96, Tryz.ntmps96
 go_wp2_with (go_at_call 112; refine (wordsFor_any _ (by omega) (by omega) _).mono ?_; rintro e w' ⟨rfl, rfl⟩)
 refine bodyPost_ret (v := .agg #[.int .i64 V, .slice (some ⟨w.heap.size + 1, 0, none⟩) ((V + 63) / 64) ((V + 63) / 64)]) (by simp [results, Tryz.results96, go_sem]) rfl ⟨_, rfl, by omega, ?_, (blA _ _).alloc (by simp) _⟩
 unfold Own
 rw [← u64s_made]
 exact heap_alloc2_new _ _ _
theorem Own.alloc {w : World} {g : Nat} {xs : List Nat} (h : Own w g xs) (o : Obj) : Own (w.alloc o) g xs := h.later (blA _ _) h.lt
def clr (V : Nat) (ys : List Nat) : List Nat := ys.set (ys.length - 1) (ys.getD (ys.length - 1) 0 &&& 18446744073709551615 / 2 ^ (64 * ys.length - V))
theorem clr_len (V : Nat) (ys : List Nat) : (clr V ys).length = ys.length := by simp [clr]
theorem clr_lt (V : Nat) (ys : List Nat) (h : ∀ x ∈ ys, x < 18446744073709551616) : ∀ x ∈ clr V ys, x < 18446744073709551616 := by
 intro x hx
 rcases List.mem_or_eq_of_mem_set hx with h' | h'
 ·exact h x h'
 ·rw [h']; exact Nat.lt_of_le_of_lt Nat.and_le_left (getD_lt h _)
theorem tb_clr (V : Nat) (ys : List Nat) (h0 : 64 * (ys.length - 1) < V) (h1 : V ≤ 64 * ys.length) (hp : 0 < ys.length) (i : Nat) (hi : i < 64 * ys.length) : tb (clr V ys) i = (decide (i < V) && tb ys i) := by
 rw [clr, tb_set _ _ _ _ (by omega)]
 by_cases h : i / 64 = ys.length - 1
 ·rw [if_pos h, Nat.testBit_and, Nat.testBit_div_two_pow, show (18446744073709551615 : Nat) = 2 ^ 64 - 1 by decide, Nat.testBit_two_pow_sub_one]
  unfold tb
  rw [h, Bool.and_comm]
  congr 1
  simp only [decide_eq_decide]
  omega
 ·rw [if_neg h]
  have : i < V := by omega
  simp [this]
theorem andMask (y s : Nat) (hy : y < 18446744073709551616) : bits BinOp.and IntKind.u64 (y : Int) (18446744073709551615 / 2 ^ s) = ((y &&& 18446744073709551615 / 2 ^ s : Nat) : Int) := by
 have e : ((18446744073709551615 : Int) / 2 ^ s) = ((18446744073709551615 / 2 ^ s : Nat) : Int) := by simp
 rw [e, bits_and_u64_nat _ _ hy (Nat.lt_of_le_of_lt (Nat.div_le_self _ _) (by decide))]
theorem clearAbove_any (V g c m : Nat) (ys : List Nat) (w : World) (ho : Own w g ys) (hl : ys.length = m + 1) (hm : m < 64) (hx : ∀ x ∈ ys, x < 18446744073709551616) (h0 : 64 * m < V) (h1 : V ≤ 64 * (m + 1)) :
  Calls Tryz.prog 128 #[.agg #[.int .i64 V, .slice (some ⟨g, 0, none⟩) (m + 1) c]] w fun e w' => e = .returned (.tuple #[]) ∧ Own w' g (clr V ys) ∧ w.grownBy w' (some g) := by
 have ho' : Own (w.alloc (Obj.cells #[.int IntKind.i64 V, .slice (some ⟨g, 0, none⟩) (m + 1) c] 65)) g ys := ho.later (blA _ _) ho.lt
 have hcell := ho.cell (i := m) (by omega)
 have hfr := ho.free m
 have hg := ho.lt
 have hy := getD_lt hx m
 have i0 : (0 : Int) ≤ (m : Int) := by omega
 have i1 : (m : Int) < (m : Int) + 1 := by omega
 generalize hyv : ys.getD m 0 = y at hcell hy
 have HY : Hid (ys.getD m 0 = y) := hyv
 clear hyv
 go_enter Tryz.func128, Tryz.ntmps128
 have HO : Hid (Own (w.setCell ⟨g, m, none⟩ (.int .u64 (bits BinOp.and IntKind.u64 (y : Int) (18446744073709551615 / 2 ^ ((m + 1) * 64 - V))))) g (clr V ys)) := by
  have h := ho.put m (y &&& 18446744073709551615 / 2 ^ ((m + 1) * 64 - V))
  rw [← andMask y _ hy] at h
  show Own _ _ _
  rw [clr, hl, show m + 1 - 1 = m by omega, HY.out, Nat.mul_comm 64 (m + 1)]
  exact h
 have HG : Hid (w.grownBy (w.setCell ⟨g, m, none⟩ (.int .u64 (bits BinOp.and IntKind.u64 (y : Int) (18446744073709551615 / 2 ^ ((m + 1) * 64 - V))))) (some g)) := grown_set (World.grownBy.refl _ _) _ _
 clear ho ho' hx
 go_wp2
 go_region
 go_end0
 have hG := HG.out
 refine ⟨rfl, ?_, ⟨hG.os, hG.tape, hG.output, ?_, fun j hj hne => ?_⟩⟩
 ·exact HO.out.alloc _
 ·show _ ≤ (World.alloc _ _).heap.size
  simp
 ·show (World.alloc _ _).heap[j]? = _
  rw [Below.heap_alloc _ _ _ (by simpa using hj)]
  exact hG.block j hj hne

def partWord (xs : List Nat) (f s k : Nat) : Nat := xs.getD (f + k) 0 / 2 ^ s ||| xs.getD (f + k + 1) 0 * 2 ^ (64 - s) % 18446744073709551616
def partTo (xs : List Nat) (f s N k : Nat) : List Nat := (List.range k).map (partWord xs f s) ++ List.replicate (N - k) 0
theorem partTo_len (xs : List Nat) (f s N k : Nat) (h : k ≤ N) : (partTo xs f s N k).length = N := by simp [partTo]; omega
theorem partTo_set (xs : List Nat) (f s N k : Nat) (h : k < N) : (partTo xs f s N k).set k (partWord xs f s k) = partTo xs f s N (k + 1) := by
 unfold partTo
 rw [List.set_append_right _ _ (by simp)]
 simp only [List.length_map, List.length_range, Nat.sub_self]
 obtain ⟨m, hm⟩ : ∃ m, N - k = m + 1 := ⟨N - k - 1, by omega⟩
 rw [hm, List.replicate_succ, List.set_cons_zero, show N - (k + 1) = m by omega]
 simp [List.range_succ]
theorem partWord_lt (xs : List Nat) (hx : ∀ x ∈ xs, x < 18446744073709551616) (f s k : Nat) : partWord xs f s k < 18446744073709551616 :=
 Nat.or_lt_two_pow (n := 64) (Nat.lt_of_le_of_lt (Nat.div_le_self _ _) (getD_lt hx _)) (Nat.mod_lt _ (by decide))
theorem tb_part (xs : List Nat) (hx : ∀ x ∈ xs, x < 18446744073709551616) (f s N i : Nat) (hs : s < 64) (hi : i < 64 * N) : tb (partTo xs f s N N) i = tb xs (64 * f + s + i) := by
 have hk : i / 64 < N := by omega
 have e : (partTo xs f s N N).getD (i / 64) 0 = partWord xs f s (i / 64) := by
  simp [partTo, List.getD, hk]
 have h1 := getD_lt hx (f + i / 64)
 unfold tb
 rw [e, partWord, Nat.testBit_or, Nat.testBit_div_two_pow, show (18446744073709551616 : Nat) = 2 ^ 64 by decide, Nat.testBit_mod_two_pow, Nat.testBit_mul_two_pow]
 by_cases h : i % 64 + s < 64
 ·rw [show (64 * f + s + i) / 64 = f + i / 64 by omega, show (64 * f + s + i) % 64 = i % 64 + s by omega]
  simp [show ¬ (64 - s ≤ i % 64) by omega]
 ·rw [show (64 * f + s + i) / 64 = f + i / 64 + 1 by omega, show (64 * f + s + i) % 64 = i % 64 - (64 - s) by omega]
  have p : 2 ^ 64 ≤ 2 ^ (i % 64 + s) := Nat.pow_le_pow_right (by omega) (by omega)
  rw [Nat.testBit_lt_two_pow (Nat.lt_of_lt_of_le h1 p)]
  simp [show 64 - s ≤ i % 64 by omega, show i % 64 < 64 by omega]
theorem part_pack (xs : List Nat) (hx : ∀ x ∈ xs, x < 18446744073709551616) (V p q : Nat) (h1 : p ≤ q) (h2 : q < V) (N : Nat) (hN : N = (q - p + 1 + 63) / 64) :
  clr (q - p + 1) (partTo xs (p / 64) (p % 64) N N) = pack (((bitsTo xs V).drop p).take (q - p + 1)) := by
 have hl : (partTo xs (p / 64) (p % 64) N N).length = N := partTo_len _ _ _ _ _ (Nat.le_refl _)
 have hw : ∀ x ∈ partTo xs (p / 64) (p % 64) N N, x < 18446744073709551616 := by
  intro x hm
  simp [partTo] at hm
  obtain ⟨k, _, rfl⟩ := hm
  exact partWord_lt xs hx _ _ _
 refine eq_pack (fun x hm => bitsTo_le xs V x (List.mem_of_mem_drop (List.mem_of_mem_take hm))) ?_ (clr_lt _ _ hw) ?_
 ·rw [clr_len, hl]; simp [bitsTo_len]; omega
 ·intro i hi
  rw [clr_len, hl] at hi
  rw [tb_clr _ _ (by rw [hl]; omega) (by rw [hl]; omega) (by rw [hl]; omega) i (by rw [hl]; exact hi), tb_part xs hx _ _ _ _ (by omega) hi, show 64 * (p / 64) + p % 64 + i = p + i by omega]
  by_cases h : i < q - p + 1
  ·have hv : p + i < V := by omega
   simp [h, List.getD, bitsTo, hv]
  ·have e : (List.take (q - p + 1) (List.drop p (bitsTo xs V))).getD i 0 = 0 := by
    simp only [List.getD]
    rw [List.getElem?_eq_none (by simp [bitsTo_len]; omega)]
    rfl
   rw [e]
   simp [h]
theorem acell (w : World) (x : Obj) {b : Nat} (i : Nat) (h : b < w.heap.size) : (w.alloc x).cell? ⟨b, i, none⟩ = w.cell? ⟨b, i, none⟩ := World.cell?_of_block (w := w) (Below.heap_alloc _ _ _ h)
theorem afree (w : World) (x : Obj) {b : Nat} (i : Nat) (h : b < w.heap.size) : (w.alloc x).frozen? ⟨b, i, none⟩ = w.frozen? ⟨b, i, none⟩ := World.frozen?_of_block (w := w) (Below.heap_alloc _ _ _ h)
theorem gcell {W wr : World} {g : Nat} (h : W.grownBy wr (some g)) {b : Nat} (o : Nat) (hb : b < W.heap.size) (hne : b ≠ g) : wr.cell? ⟨b, o, none⟩ = W.cell? ⟨b, o, none⟩ :=
 World.cell?_of_block (w := W) (h.block b hb (by simpa using hne))
theorem gfree {W wr : World} {g : Nat} (h : W.grownBy wr (some g)) {b : Nat} (o : Nat) (hb : b < W.heap.size) (hne : b ≠ g) : wr.frozen? ⟨b, o, none⟩ = W.frozen? ⟨b, o, none⟩ :=
 World.frozen?_of_block (w := W) (h.block b hb (by simpa using hne))
theorem castDiv (x s : Nat) : ((x : Int) / 2 ^ s) = ((x / 2 ^ s : Nat) : Int) := by simp
theorem grown_drew {w wr : World} {r : Option Nat} (h : w.grownBy wr r) : w.grownBy wr.drew r := ⟨h.os, h.tape, h.output, h.size, h.block⟩
theorem Own.twice {w : World} {g k X1 X2 s t : Nat} {ys : List Nat} (h : Own w g ys) (h1 : X1 < 18446744073709551616) :
  Own ((w.setCell ⟨g, k, none⟩ (.int .u64 ((X1 : Int) / 2 ^ s))).setCell ⟨g, k, none⟩ (.int .u64 (bits BinOp.or IntKind.u64 ((X1 : Int) / 2 ^ s) (IntKind.u64.wrap ((X2 : Int) * 2 ^ t))))) g (ys.set k (X1 / 2 ^ s ||| X2 * 2 ^ t % 18446744073709551616)) := by
 rw [castDiv, orShift _ _ _ (Nat.lt_of_le_of_lt (Nat.div_le_self _ _) h1)]
 have := (h.put k (X1 / 2 ^ s)).put k (X1 / 2 ^ s ||| X2 * 2 ^ t % 18446744073709551616)
 rwa [List.set_set] at this
theorem Own.once {w : World} {g k X1 s : Nat} {ys : List Nat} (h : Own w g ys) : Own (w.setCell ⟨g, k, none⟩ (.int .u64 ((X1 : Int) / 2 ^ s))) g (ys.set k (X1 / 2 ^ s)) := by
 rw [castDiv]; exact h.put k _
set_option maxHeartbeats 1000000 in
set_option maxRecDepth 100000 in
theorem implPart_any (W : Int) (a : Option Addr) (c : Nat) (xs : List Nat) (hi lo : Int) (w : World) (hr : Rd w a xs) (h64 : (Lit.int .i64 hi).wf = true) :
  Calls Tryz.prog 124 #[.agg #[.int .i64 W, .slice a xs.length c], .int .i64 hi, .int .i64 lo] w (RetB w (partR W xs hi lo)) := by
 have h2 : Below w.heap.size w ((w.alloc (Obj.cells #[.int IntKind.i64 W, .slice a xs.length c] 65)).alloc (Obj.cells #[.int IntKind.i64 0, .slice none 0 0] 65)) := (blA _ _).alloc (by simp) _
 have hr' := hr.later h2
 by_cases hc : rightB W xs = true ∧ 0 ≤ lo ∧ lo ≤ hi ∧ hi < W
 ·rw [partR, if_pos hc]
  obtain ⟨hok, h0, h1, h3⟩ := hc
  obtain ⟨hW1, hW2, hWl⟩ := right_W hok
  obtain ⟨V, rfl⟩ := Int.eq_ofNat_of_zero_le (show 0 ≤ W by omega)
  obtain ⟨p, rfl⟩ := Int.eq_ofNat_of_zero_le h0
  obtain ⟨q, rfl⟩ := Int.eq_ofNat_of_zero_le (show 0 ≤ hi by omega)
  have hpq : p ≤ q := by omega
  have hqV : q < V := by omega
  have hxx := hr.2.1
  have hlen : xs.length ≤ 64 := by omega
  have HQ : Hid ((((q - p + 1 : Nat) : Int), clr (q - p + 1) (partTo xs (p / 64) (p % 64) ((q - p + 1 + 63) / 64) ((q - p + 1 + 63) / 64)), true) = ((q : Int) - p + 1, pack (((bitsTo xs (V : Int).toNat).drop (p : Int).toNat).take ((q : Int) - p + 1).toNat), true)) := by
   show _ = _
   rw [part_pack xs hxx V p q hpq hqV _ rfl, show ((q : Int) - p + 1).toNat = q - p + 1 by omega, Int.toNat_natCast, Int.toNat_natCast, show (((q - p + 1 : Nat) : Int)) = (q : Int) - p + 1 by omega]
  generalize ((q : Int) - p + 1, pack (((bitsTo xs (V : Int).toNat).drop (p : Int).toNat).take ((q : Int) - p + 1).toNat), true) = R at HQ ⊢
  have hVl : V ≤ 64 * xs.length := by omega
  have HWl : Hid ((xs.length : Int) = ((V : Int) + 63) / 64) := hWl
  clear hWl
  obtain ⟨-, -, hnil | ⟨b, o, rfl, hcell⟩⟩ := hr
  ·subst hnil; simp at hVl; omega
  have hbw : b < w.heap.size := block_lt_of_cell (hcell 0 (by omega))
  go_enter Tryz.func124, Tryz.ntmps124
  go_wp2_with fail
  refine (implOk_any _ _ _ _ _ hr').mono ?_
  rintro e w1 ⟨rfl, hb1⟩
  have HB1 := hb1
  obtain ⟨hcc, hff⟩ := bcell hb1
  have hz : w.heap.size + 1 < w1.heap.size := by have := hb1.size; simp at this; omega
  clear hb1
  go_wp2_with fail
  have eq1 : (q : Int) - (p : Int) + 1 = ((q - p + 1 : Nat) : Int) := by omega
  rw [eq1]
  generalize hn : q - p + 1 = n at *
  refine (zeroBits_any n _ (by omega) (by omega)).mono ?_
  rintro e w2 ⟨g, rfl, hg, hown, hb2⟩
  generalize hN : (n + 63) / 64 = N at *
  have HB2 := chain HB1 hb2
  clear hcc hff
  obtain ⟨hcc, hff⟩ := bcell HB2
  have hz2 : w.heap.size + 1 < w2.heap.size := by have := HB2.size; simp at this; omega
  have HN : Hid ((n + 63) / 64 = N) := hN
  have Hn : Hid (q - p + 1 = n) := hn
  clear hN hn eq1 hb2 HB1
  go_wp2_with fail
  have hg2 := hown.lt
  have k0 : (w2.alloc (Obj.cells #[.int IntKind.i64 n, .slice (some { block := g, off := 0 }) N N] 65)).cell? ⟨w2.heap.size, 0, none⟩ = some (Value.int IntKind.i64 n) := by simp
  have k1 : (w2.alloc (Obj.cells #[.int IntKind.i64 n, .slice (some { block := g, off := 0 }) N N] 65)).cell? ⟨w2.heap.size, 1, none⟩ = some (Value.slice (some { block := g, off := 0 }) N N) := by simp
  have k2 : (w2.alloc (Obj.cells #[.int IntKind.i64 n, .slice (some { block := g, off := 0 }) N N] 65)).cell? ⟨w.heap.size, 1, none⟩ = some (Value.slice (some { block := b, off := o }) xs.length c) := by
   rw [acell _ _ _ (by omega), hcc _ _ (by simp; omega), acell _ _ _ (by simp)]; simp
  have k3 : ∀ i, i < xs.length → (w2.alloc (Obj.cells #[.int IntKind.i64 n, .slice (some { block := g, off := 0 }) N N] 65)).cell? ⟨b, o + i, none⟩ = some (.int .u64 ((xs.getD i 0 : Nat) : Int)) := fun i hi => by
   rw [acell _ _ _ (by omega), hcc _ _ (by simp; omega), acell _ _ _ (by simp; omega), acell _ _ _ hbw]
   exact hcell i hi
  have k4 : (w2.alloc (Obj.cells #[.int IntKind.i64 n, .slice (some { block := g, off := 0 }) N N] 65)).cell? ⟨w.heap.size + 1, 0, none⟩ = some (Value.int IntKind.i64 0) := by
   rw [acell _ _ _ (by omega), hcc _ _ (by simp)]; simp [World.cell?_alloc_at]
  have k5 : (w2.alloc (Obj.cells #[.int IntKind.i64 n, .slice (some { block := g, off := 0 }) N N] 65)).cell? ⟨w.heap.size + 1, 1, none⟩ = some (Value.slice none 0 0) := by
   rw [acell _ _ _ (by omega), hcc _ _ (by simp)]; simp [World.cell?_alloc_at]
  have k6 : ∀ j, (w2.alloc (Obj.cells #[.int IntKind.i64 n, .slice (some { block := g, off := 0 }) N N] 65)).frozen? ⟨w.heap.size + 1, j, none⟩ = false := fun j => by
   rw [afree _ _ _ (by omega), hff _ _ (by simp)]; simp [World.frozen?_alloc_at]
  have hsz3 : (w2.alloc (Obj.cells #[.int IntKind.i64 n, .slice (some { block := g, off := 0 }) N N] 65)).heap.size = w2.heap.size + 1 := by simp
  have hown3 := hown.alloc (Obj.cells #[.int IntKind.i64 n, .slice (some { block := g, off := 0 }) N N] 65)
  have HB3 : Below w2.heap.size w2 (w2.alloc (Obj.cells #[.int IntKind.i64 n, .slice (some { block := g, off := 0 }) N N] 65)) := blA _ _
  generalize w2.alloc (Obj.cells #[.int IntKind.i64 n, .slice (some { block := g, off := 0 }) N N] 65) = w3 at *
  clear hcell hcc hff hr' hown
  go_loopw [43] (fun i wr => ∃ k : Nat, k ≤ N ∧ i = .int .i64 k ∧ Own wr g (partTo xs (p / 64) (p % 64) N k) ∧ w3.grownBy wr (some g)) (fun i _ => N - (intOf i).toNat)
  case atStart => exact ⟨0, Nat.zero_le _, rfl, by simpa [partTo] using hown3, World.grownBy.refl _ _⟩
  case round =>
   obtain ⟨k, hk, rfl, hownk, hgr⟩ := hrel
   have b1 := (gcell hgr 1 (b := w2.heap.size) (by omega) (by omega)).trans k1
   have b0 := (gcell hgr 0 (b := w2.heap.size) (by omega) (by omega)).trans k0
   have b2 := (gcell hgr 1 (b := w.heap.size) (by omega) (by omega)).trans k2
   by_cases hlt : k < N
   ·have hfk : p / 64 + k < xs.length := by have := HN.out; have := Hn.out; omega
    have x1 := (gcell hgr _ (b := b) (by omega) (by omega)).trans (k3 (p / 64 + k) hfk)
    have hcg := hownk.cell (i := k) (by rw [partTo_len _ _ _ _ _ hk]; exact hlt)
    have hfg := hownk.free k
    have hX1 := getD_lt hxx (p / 64 + k)
    have HP := partTo_set xs (p / 64) (p % 64) N k hlt
    rw [partWord] at HP
    have hfki : (p : Int) / 64 + (k : Int) < (xs.length : Int) := by omega
    have hki : (k : Int) < (N : Int) := by omega
    have hgb : ¬ b = g := by omega
    have hgb1 : ¬ w2.heap.size = g := by omega
    have hgb2 : ¬ w.heap.size = g := by omega
    generalize (partTo xs (p / 64) (p % 64) N k).getD k 0 = z at hcg
    by_cases hlt2 : p / 64 + k + 1 < xs.length
    ·have x2 := (gcell hgr _ (b := b) (by omega) (by omega)).trans (k3 (p / 64 + k + 1) hlt2)
     have hfki2 : (p : Int) / 64 + (k : Int) + 1 < (xs.length : Int) := by omega
     generalize hv1 : xs.getD (p / 64 + k) 0 = X1 at *
     generalize hv2 : xs.getD (p / 64 + k + 1) 0 = X2 at *
     have HO : Hid _ := hownk.twice (k := k) (X1 := X1) (X2 := X2) (s := p % 64) (t := 64 - p % 64) hX1
     have HPP : Hid _ := HP
     clear hv1 hv2 HP hownk
     go_wp2
     go_region
     go_wp2
     go_region
     go_wp2
     go_roundw
     case rel =>
      have h := HO.out
      rw [HPP.out] at h
      exact ⟨k + 1, by omega, by go_num, h, grown_drew (grown_drew (grown_set (grown_set hgr _ _) _ _))⟩
     case measure => simp [intOf]; omega
    ·have hv2 : xs.getD (p / 64 + k + 1) 0 = 0 := by simp only [List.getD]; rw [List.getElem?_eq_none (by omega)]; rfl
     have hfki2 : ¬ ((p : Int) / 64 + (k : Int) + 1 < (xs.length : Int)) := by omega
     rw [hv2, Nat.zero_mul, Nat.zero_mod, Nat.or_zero] at HP
     generalize hv1 : xs.getD (p / 64 + k) 0 = X1 at *
     have HO : Hid _ := hownk.once (k := k) (X1 := X1) (s := p % 64)
     have HPP : Hid _ := HP
     clear hv1 hv2 HP hownk
     go_wp2
     go_region
     go_wp2
     go_roundw
     case rel =>
      have h := HO.out
      rw [HPP.out] at h
      exact ⟨k + 1, by omega, by go_num, h, grown_drew (grown_set hgr _ _)⟩
     case measure => simp [intOf]; omega
   ·have e : k = N := by omega
    subst e
    go_wp2_with fail
    have hNn := HN.out
    obtain ⟨m, hm⟩ : ∃ m, k = m + 1 := ⟨k - 1, by have := Hn.out; omega⟩
    have hlk : (partTo xs (p / 64) (p % 64) k k).length = m + 1 := by rw [partTo_len _ _ _ _ _ (Nat.le_refl _)]; exact hm
    have hlt64 : ∀ x ∈ partTo xs (p / 64) (p % 64) k k, x < 18446744073709551616 := by
     intro x hmm
     simp [partTo] at hmm
     obtain ⟨k', _, rfl⟩ := hmm
     exact partWord_lt xs hxx _ _ _
    have hcl := clearAbove_any n g k m _ wr hownk hlk (by have := Hn.out; omega) hlt64 (by omega) (by omega)
    rw [← hm] at hcl
    refine hcl.mono ?_
    rintro e w4 ⟨rfl, hown4, hgr4⟩
    have hs4 := hgr4.size
    have hs3 := hgr.size
    have d0 := (gcell hgr4 0 (b := w2.heap.size) (by omega) (by omega)).trans b0
    have d1 := (gcell hgr4 1 (b := w2.heap.size) (by omega) (by omega)).trans b1
    have r0 := (gcell hgr4 0 (b := w.heap.size + 1) (by omega) (by omega)).trans ((gcell hgr 0 (b := w.heap.size + 1) (by omega) (by omega)).trans k4)
    have r1 := (gcell hgr4 1 (b := w.heap.size + 1) (by omega) (by omega)).trans ((gcell hgr 1 (b := w.heap.size + 1) (by omega) (by omega)).trans k5)
    have f0 := (gfree hgr4 0 (b := w.heap.size + 1) (by omega) (by omega)).trans ((gfree hgr 0 (b := w.heap.size + 1) (by omega) (by omega)).trans (k6 0))
    have f1 := (gfree hgr4 1 (b := w.heap.size + 1) (by omega) (by omega)).trans ((gfree hgr 1 (b := w.heap.size + 1) (by omega) (by omega)).trans (k6 1))
    have HB4 : Hid (Below w.heap.size w w4) := (((h2.trans (HB2.mono (by simp; omega))).trans (HB3.mono (by omega))).grown hgr (by omega) (by intro j hj; cases hj; omega)).grown hgr4 (by omega) (by intro j hj; cases hj; omega)
    have HL : Hid ((clr n (partTo xs (p / 64) (p % 64) k k)).length = k) := by show _ = _; rw [clr_len, hlk, hm]
    clear hcl hlt64 hownk hgr hgr4 b0 b1 b2 k0 k1 k2 k3 k4 k5 k6 hown3 HB2 HB3 h2
    generalize clr n (partTo xs (p / 64) (p % 64) k k) = ys at *
    clear hm hlk hNn
    go_wp2
    refine bodyPost_ret (v := .tuple #[.agg #[.int .i64 n, .slice (some ⟨g, 0, none⟩) k k], .bool true]) (by simp [results, Tryz.results124, go_sem, r0, r1]) rfl ?_
    rw [← HQ.out]
    exact ⟨some ⟨g, 0, none⟩, k, by rw [HL.out], .inr ⟨g, rfl, by omega, (hown4.other (by simp; omega) _).other (by simp; omega) _⟩, (HB4.out.setCell (by simp) _).setCell (by simp) _⟩
 ·rw [partR, if_neg hc]
  have hcase : rightB W xs = false ∨ (rightB W xs = true ∧ lo < 0) ∨ (rightB W xs = true ∧ 0 ≤ lo ∧ hi < lo) ∨ (rightB W xs = true ∧ 0 ≤ lo ∧ lo ≤ hi ∧ W ≤ hi) := by
   cases hb : rightB W xs with
   | false => exact .inl rfl
   | true => simp [hb] at hc ⊢; omega
  clear hc
  rcases hcase with h | ⟨h, h1⟩ | ⟨h, h1, h3⟩ | ⟨h, h1, h3, h4⟩
  all_goals
   go_enter Tryz.func124, Tryz.ntmps124
   go_wp2_with fail
   refine (implOk_any _ _ _ _ _ hr').mono ?_
   rintro e w1 ⟨rfl, hb1⟩
   obtain ⟨hcc, hff⟩ := bcell hb1
   have hz : w.heap.size + 1 < w1.heap.size := by have := hb1.size; simp at this; omega
   go_wp2
   exact bodyPost_ret (v := .tuple #[.agg #[.int .i64 0, .slice none 0 0], .bool false]) (by simp [results, Tryz.results124, go_sem, hcc]) rfl (RetB.no (((h2.trans (hb1.mono (by simp; omega))).setCell (by simp) _).setCell (by simp) _))

theorem Tryz.infoI64 : (Tryz.prog.info? 2).map (fun i => (i.zero, i.size, i.bytes)) = some (some (.int .i64 0), 1, 8) := by kernel_rfl
def RdI (w : World) (a : Option Addr) (ks : List Int) : Prop :=
 ks.length ≤ 1048576 ∧ (∀ k ∈ ks, in64 k) ∧ (ks = [] ∨ ∃ b o, a = some ⟨b, o, none⟩ ∧ ∀ i, i < ks.length → w.cell? ⟨b, o + i, none⟩ = some (.int .i64 (ks.getD i 0)))
theorem RdI.later {w w' : World} {a : Option Addr} {ks : List Int} (h : RdI w a ks) (hb : Below w.heap.size w w') : RdI w' a ks := by
 obtain ⟨h1, h2, h3⟩ := h
 refine ⟨h1, h2, ?_⟩
 rcases h3 with h3 | ⟨b, o, rfl, hc⟩
 ·exact .inl h3
 ·refine .inr ⟨b, o, rfl, fun i hi => ?_⟩
  have := hc i hi
  rw [hb.cell (p := ⟨b, o + i, none⟩) (by exact block_lt_of_cell this)]
  exact this
def i64s (ks : List Int) : Array Value := (ks.map fun (k : Int) => Value.int .i64 k).toArray
theorem i64s_size (ks : List Int) : (i64s ks).size = ks.length := by simp [i64s]
theorem i64s_get (ks : List Int) (i : Nat) (h : i < ks.length) : (i64s ks)[i]? = some (.int .i64 (ks.getD i 0)) := by simp [i64s, List.getD, h]
theorem i64s_set (ks : List Int) (i : Nat) (k : Int) : (i64s ks).setIfInBounds i (.int .i64 k) = i64s (ks.set i k) := by
 simp [i64s, List.setIfInBounds_toArray, List.map_set]
theorem i64s_made (n : Nat) : madeCells #[.int .i64 0] n = i64s (List.replicate n 0) := by
 apply Array.toList_inj.1
 rw [toList_madeCells_one]
 simp [i64s]
def OwnI (w : World) (g : Nat) (ks : List Int) : Prop := w.heap[g]? = some (.cells (i64s ks) 2 (0, 0))
theorem OwnI.cell {w : World} {g : Nat} {ks : List Int} (h : OwnI w g ks) {i : Nat} (hi : i < ks.length) : w.cell? ⟨g, i, none⟩ = some (.int .i64 (ks.getD i 0)) := by
 rw [cell_of_row w g i _ _ _ h, i64s_get _ _ hi]
theorem OwnI.free {w : World} {g : Nat} {ks : List Int} (h : OwnI w g ks) (i : Nat) : w.frozen? ⟨g, i, none⟩ = false := frozen_of_row w g i _ _ h
theorem OwnI.lt {w : World} {g : Nat} {ks : List Int} (h : OwnI w g ks) : g < w.heap.size := lt_of_block h
theorem OwnI.put {w : World} {g : Nat} {ks : List Int} (h : OwnI w g ks) (i : Nat) (k : Int) : OwnI (w.setCell ⟨g, i, none⟩ (.int .i64 k)) g (ks.set i k) := by
 unfold OwnI
 rw [heap_setCell_same w g i _ _ _ h, i64s_set]
theorem OwnI.rd {w : World} {g : Nat} {ks : List Int} (h : OwnI w g ks) (hl : ks.length ≤ 1048576) (hx : ∀ k ∈ ks, in64 k) : RdI w (some ⟨g, 0, none⟩) ks :=
 ⟨hl, hx, .inr ⟨g, 0, rfl, fun i hi => by rw [Nat.zero_add]; exact h.cell hi⟩⟩
theorem OwnI.later {w w' : World} {g B : Nat} {ks : List Int} (h : OwnI w g ks) (hb : Below B w w') (hg : g < B) : OwnI w' g ks := by
 unfold OwnI
 rw [hb.block g hg]; exact h
theorem OwnI.other {w : World} {g : Nat} {ks : List Int} (h : OwnI w g ks) {a : Addr} (ha : g ≠ a.block) (v : Value) : OwnI (w.setCell a v) g ks := by
 unfold OwnI
 rw [heap_setCell_other w a g v ha]; exact h
theorem szInt64S_any (a : Option Addr) (n c : Nat) (L : Int) (w : World) (hL : 0 ≤ L) (hL2 : L ≤ 1048576) (hn : n ≤ 9223372036854775807) :
  Calls Tryz.prog 49 #[.slice a n c, .int .i64 L] w fun e w' => e = .returned (.int .i64 (if (n : Int) ≤ L then L - n else -1)) ∧ w' = w := by
 by_cases h : (n : Int) ≤ L
 ·rw [if_pos h]
  go_enter Tryz.func49, Tryz.ntmps49
  go_wp2
  go_ret
  exact ⟨rfl, rfl⟩
 ·rw [if_neg h]
  go_enter Tryz.func49, Tryz.ntmps49
  go_wp2
  go_ret
  exact ⟨rfl, rfl⟩
theorem take_setI (xs : List Int) (k : Nat) (h : k < xs.length) :
  (xs.take k ++ List.replicate (xs.length - k) 0).set k (xs.getD k 0) = xs.take (k + 1) ++ List.replicate (xs.length - (k + 1)) 0 := by
 apply List.ext_getElem?
 intro i
 simp only [List.getElem?_set, List.getElem?_append, List.getElem?_take, List.length_take, List.getElem?_replicate, List.length_append, List.length_replicate, List.getD]
 split <;> split <;> split <;> (try split) <;> (try split) <;> (try omega) <;> simp_all <;> (try omega)
theorem toInt64S_any (a : Option Addr) (c : Nat) (xs : List Int) (w : World) (hr : RdI w a xs) :
  Calls Tryz.prog 58 #[.slice a xs.length c] w fun e w' => e = .returned (.slice (some ⟨w.heap.size, 0, none⟩) xs.length xs.length) ∧ OwnI w' w.heap.size xs ∧ Below w.heap.size w w' := by
 have hlen := hr.1
 have hmk := fun kl kc w => run_make_row' (P := Tryz.prog) 60 2 (.int .i64 0) 8 Tryz.underlying60 Tryz.infoI64 rfl kl kc xs.length (by omega) (by omega) w
 go_enter Tryz.func58, Tryz.ntmps58
 go_wp2
 go_loopw [4] (fun i wr => ∃ k : Nat, k ≤ xs.length ∧ i = .int .i64 k ∧ OwnI wr w.heap.size (xs.take k ++ List.replicate (xs.length - k) 0) ∧ Below w.heap.size w wr) (fun i _ => xs.length - (intOf i).toNat)
 case atStart =>
  refine ⟨0, Nat.zero_le _, rfl, ?_, blA _ _⟩
  unfold OwnI
  rw [heap_alloc_new, i64s_made]
  rfl
 case round =>
  obtain ⟨k, hk, rfl, hown, hbel⟩ := hrel
  by_cases hlt : k < xs.length
  ·obtain ⟨-, -, h | ⟨b, o, rfl, hc⟩⟩ := hr
   ·subst h; simp at hlt
   have hcell := hc k hlt
   have hb : b < w.heap.size := block_lt_of_cell hcell
   have hcw : wr.cell? ⟨b, o + k, none⟩ = some (.int .i64 (xs.getD k 0)) := by rw [hbel.cell (by exact hb)]; exact hcell
   have hcg := hown.cell (i := k) (by simp; omega)
   have hfg := hown.free k
   have HO := show Hid _ from hown.put k (xs.getD k 0)
   have HB := show Hid _ from hbel
   generalize (xs.take k ++ List.replicate (xs.length - k) 0).getD k 0 = z at hcg
   have HT := show Hid _ from take_setI xs k hlt
   clear hc hcell hown hbel hmk
   generalize xs.getD k 0 = y at *
   go_wp2
   go_roundw
   case rel =>
    have h := HO.out
    rw [HT.out] at h
    exact ⟨k + 1, by omega, by go_num, h, HB.out.setCell (Nat.le_refl _) _⟩
   case measure => simp [intOf]; omega
  ·clear hmk
   go_wp2
   go_ret
   refine ⟨rfl, ?_, hbel⟩
   have e : k = xs.length := by omega
   rw [e] at hown
   simpa using hown
theorem eqInt64S_any (a b : Option Addr) (c d : Nat) (xs ys : List Int) (w : World) (hr : RdI w a xs) (hs : RdI w b ys) :
  Calls Tryz.prog 69 #[.slice a xs.length c, .slice b ys.length d] w fun e w' => e = .returned (.bool (decide (xs = ys))) ∧ Below w.heap.size w w' := by
 have hl1 := hr.1
 have hl2 := hs.1
 by_cases hl : xs.length = ys.length
 ·have hne : ((xs.length : Int) != (ys.length : Int)) = false := by simp [hl]
  have HL : Hid (xs.length = ys.length) := hl
  clear hl
  go_enter Tryz.func69, Tryz.ntmps69
  go_wp2
  clear hne
  go_loopw [5] (fun i wr => ∃ k : Nat, k ≤ xs.length ∧ i = .int .i64 k ∧ (∀ j, j < k → xs.getD j 0 = ys.getD j 0) ∧ Below w.heap.size w wr) (fun i _ => xs.length - (intOf i).toNat)
  case atStart => exact ⟨0, Nat.zero_le _, rfl, fun j h => by omega, Below.refl _ _⟩
  case round =>
   obtain ⟨k, hk, rfl, hz, hbel⟩ := hrel
   have HZ := show Hid _ from hz
   have HB := show Hid _ from hbel
   by_cases hlt : k < xs.length
   ·obtain ⟨-, -, h | ⟨b1, o1, rfl, hc1⟩⟩ := hr
    ·subst h; simp at hlt
    have hlt2 : k < ys.length := by have := HL.out; omega
    obtain ⟨-, -, h | ⟨b2, o2, rfl, hc2⟩⟩ := hs
    ·subst h; simp at hlt2
    have e1 := hc1 k hlt
    have e2 := hc2 k hlt2
    have f1 : wr.cell? ⟨b1, o1 + k, none⟩ = some (.int .i64 (xs.getD k 0)) := by rw [hbel.cell (by exact block_lt_of_cell e1)]; exact e1
    have f2 : wr.cell? ⟨b2, o2 + k, none⟩ = some (.int .i64 (ys.getD k 0)) := by rw [hbel.cell (by exact block_lt_of_cell e2)]; exact e2
    have hxe : decide (xs = ys) = false ∨ xs.getD k 0 = ys.getD k 0 := by
     by_cases h : xs = ys
     ·exact .inr (by rw [h])
     ·exact .inl (by simp [h])
    clear hc1 hc2 hz hbel e1 e2
    have i0 : (k : Int) < (xs.length : Int) := by omega
    have i1 : (k : Int) < (ys.length : Int) := by omega
    generalize hx1 : xs.getD k 0 = x1 at *
    generalize hy1 : ys.getD k 0 = y1 at *
    have HX : Hid (xs.getD k 0 = x1) := hx1
    have HY : Hid (ys.getD k 0 = y1) := hy1
    clear hx1 hy1
    by_cases hxy : x1 = y1
    ·have hb : (x1 != y1) = false := by simp [hxy]
     have HE : Hid (x1 = y1) := hxy
     clear hxe hxy
     go_wp2_with fail
     go_quiet (fail)
     go_wp2
     go_roundw
     case rel =>
      refine ⟨k + 1, by omega, by go_num, fun j hj => ?_, below_drewN HB.out _⟩
      by_cases hj' : j = k
      ·rw [hj', HX.out, HY.out]; exact HE.out
      ·exact HZ.out j (by omega)
     case measure => simp [intOf]; omega
    ·have hb : (x1 != y1) = true := by simpa using hxy
     have HE : Hid (decide (xs = ys) = false) := by
      rcases hxe with h | h
      ·exact h
      ·exact absurd h hxy
     clear hxe hxy
     go_wp2_with fail
     go_quiet (fail)
     go_wp2
     go_ret
     exact ⟨ret_bool HE.out.symm, below_drewN HB.out _⟩
   ·clear hz hbel
    go_wp2
    go_ret
    refine ⟨ret_bool ?_, HB.out⟩
    have he : xs = ys := by
     refine List.ext_getElem HL.out fun j h1 h2 => ?_
     have := HZ.out j (by omega)
     simpa [List.getD, h1, h2] using this
    simp [he]
 ·have hne : ((xs.length : Int) != (ys.length : Int)) = true := by simp; omega
  have hx : xs ≠ ys := fun h => hl (by rw [h])
  go_enter Tryz.func69, Tryz.ntmps69
  go_wp2
  go_ret
  exact ⟨ret_bool (by simp [hx]), Below.refl _ _⟩

def sig (n : Nat) : Nat := ([48, 49, 50, 51, 52, 53, 54, 55, 56, 57, 97, 98, 99, 100, 101, 102] : List Nat).getD n 0
def bit (xs : List Nat) (i : Nat) : Nat := (tb xs i).toNat
def dig (x : Bool) (xs : List Nat) (at_ : Nat) : Nat := if x then 8 * bit xs (at_ + 3) + 4 * bit xs (at_ + 2) + 2 * bit xs (at_ + 1) + bit xs at_ else bit xs at_
def wTo (x : Bool) (xs : List Nat) (c : Nat) : Nat → List Nat
 | 0 => []
 | k + 1 => wTo x xs c k ++ [sig (dig x xs ((c - 1 - k) * (if x then 4 else 1)))]
theorem wTo_len (x : Bool) (xs : List Nat) (c k : Nat) : (wTo x xs c k).length = k := by
 induction k with
 | zero => rfl
 | succ k ih => rw [wTo, List.length_append, ih]; rfl
def writeL (V : Nat) (xs : List Nat) : List Nat := if V % 4 = 0 then [35, 120] ++ wTo true xs (V / 4) (V / 4) else [35, 98] ++ wTo false xs V V
def writeR (W : Int) (xs : List Nat) : List Nat := if rightB W xs = true then writeL W.toNat xs else []
theorem bit_word (xs : List Nat) (T i : Nat) (h : T % 64 + i < 64) : bit xs (T + i) = xs.getD (T / 64) 0 / 2 ^ (T % 64) / 2 ^ i % 2 := by
 unfold bit
 rw [← tb_div xs (T + i), show (T + i) / 64 = T / 64 by omega, show (T + i) % 64 = T % 64 + i by omega, Nat.pow_add, Nat.div_div_eq_div_mul]
theorem dig_word (x : Bool) (xs : List Nat) (m : Nat) (T : Nat) (hT : T = m * (if x then 4 else 1)) : dig x xs T = xs.getD (T / 64) 0 / 2 ^ (T % 64) % (if x then 16 else 2) := by
 cases x with
 | true =>
  simp only [if_true] at hT ⊢
  have b0 := bit_word xs T 0 (by omega)
  have b1 := bit_word xs T 1 (by omega)
  have b2 := bit_word xs T 2 (by omega)
  have b3 := bit_word xs T 3 (by omega)
  simp only [dig, if_true]
  simp only [Nat.add_zero, Nat.pow_zero, Nat.div_one] at b0
  rw [b0, b1, b2, b3]
  generalize xs.getD (T / 64) 0 / 2 ^ (T % 64) = z
  omega
 | false =>
  have b0 := bit_word xs T 0 (by omega)
  simp only [Nat.add_zero, Nat.pow_zero, Nat.div_one] at b0
  simp [dig]
  exact b0
theorem dig_lt (x : Bool) (xs : List Nat) (m : Nat) (T : Nat) (hT : T = m * (if x then 4 else 1)) : dig x xs T < 16 := by
 rw [dig_word x xs m T hT]
 have : ∀ z : Nat, z % (if x then 16 else 2) < 16 := fun z => by
  cases x
  ·have := Nat.mod_lt z (show 0 < 2 by omega); simp; omega
  ·exact Nat.mod_lt z (by decide)
 exact this _
theorem sig_lt (n : Nat) : sig n < 256 := by
 by_cases h : n < 16
 ·have : ∀ n, n < 16 → sig n < 256 := by decide
  exact this n h
 ·unfold sig
  simp only [List.getD]
  rw [List.getElem?_eq_none (by simp; omega)]; decide
theorem wTo_lt (x : Bool) (xs : List Nat) (c k : Nat) : ∀ y ∈ wTo x xs c k, y < 256 := by
 induction k with
 | zero => intro y hy; simp [wTo] at hy
 | succ k ih =>
  intro y hy
  rw [wTo] at hy
  rcases List.mem_append.1 hy with h | h
  ·exact ih y h
  ·simp at h; rw [h]; exact sig_lt _
def txt (l : List Nat) : ByteArray := ⟨(l.map UInt8.ofNat).toArray⟩

theorem sig_inj : ∀ m, m < 16 → ∀ n, n < 16 → sig m = sig n → m = n := by decide
theorem wTo_at (x : Bool) (xs : List Nat) (c m k : Nat) (hk : k < m) : (wTo x xs c m).getD k 0 = sig (dig x xs ((c - 1 - k) * (if x then 4 else 1))) := by
 induction m with
 | zero => omega
 | succ m ih =>
  have hl := wTo_len x xs c m
  unfold wTo
  by_cases h : k < m
  ·rw [← ih h]
   simp only [List.getD_eq_getElem?_getD]
   rw [List.getElem?_append_left (by omega)]
  ·have e : k = m := by omega
   subst e
   simp only [List.getD_eq_getElem?_getD]
   rw [List.getElem?_append_right (by omega), hl]
   simp
theorem bit_01 (xs : List Nat) (i : Nat) : bit xs i ≤ 1 := by unfold bit; cases tb xs i <;> decide
theorem bit_tb {xs ys : List Nat} {i : Nat} (h : bit xs i = bit ys i) : tb xs i = tb ys i := by
 unfold bit at h
 cases hx : tb xs i <;> cases hy : tb ys i <;> simp_all
theorem dig_bits {xs ys : List Nat} {at_ : Nat} (h : dig true xs at_ = dig true ys at_) : ∀ i, i < 4 → bit xs (at_ + i) = bit ys (at_ + i) := by
 simp only [dig, if_true] at h
 have a0 := bit_01 xs at_
 have a1 := bit_01 xs (at_ + 1)
 have a2 := bit_01 xs (at_ + 2)
 have a3 := bit_01 xs (at_ + 3)
 have b0 := bit_01 ys at_
 have b1 := bit_01 ys (at_ + 1)
 have b2 := bit_01 ys (at_ + 2)
 have b3 := bit_01 ys (at_ + 3)
 intro i hi
 rcases (by omega : i = 0 ∨ i = 1 ∨ i = 2 ∨ i = 3) with rfl | rfl | rfl | rfl
 ·simp only [Nat.add_zero]; omega
 ·omega
 ·omega
 ·omega
theorem same_bits {V : Nat} {xs ys : List Nat} (hx : rightB V xs = true) (hy : rightB V ys = true) (bx : ∀ x ∈ xs, x < 18446744073709551616) (by_ : ∀ x ∈ ys, x < 18446744073709551616) (h : ∀ i, i < V → tb xs i = tb ys i) : xs = ys := by
 have l1 := (right_W hx).2.2
 have l2 := (right_W hy).2.2
 refine tb_ext (by omega) bx by_ fun i hi => ?_
 by_cases hV : i < V
 ·exact h i hV
 ·rw [tb_out hx i (by omega), tb_out hy i (by omega)]
theorem writeL_inj {V U : Nat} {xs ys : List Nat} (hx : rightB V xs = true) (hy : rightB U ys = true) (bx : ∀ x ∈ xs, x < 18446744073709551616) (by_ : ∀ x ∈ ys, x < 18446744073709551616) (h : writeL V xs = writeL U ys) : V = U ∧ xs = ys := by
 unfold writeL at h
 by_cases h4 : V % 4 = 0
 ·by_cases u4 : U % 4 = 0
  ·rw [if_pos h4, if_pos u4] at h
   have h2 := (List.append_right_inj _).1 h
   have hl := congrArg List.length h2
   rw [wTo_len, wTo_len] at hl
   have e : V = U := by omega
   subst e
   refine ⟨rfl, same_bits hx hy bx by_ fun i hi => ?_⟩
   have hk : V / 4 - 1 - i / 4 < V / 4 := by omega
   have e1 := congrArg (fun z => z.getD (V / 4 - 1 - i / 4) 0) h2
   rw [wTo_at _ _ _ _ _ hk, wTo_at _ _ _ _ _ hk] at e1
   simp only [if_true] at e1
   rw [show V / 4 - 1 - (V / 4 - 1 - i / 4) = i / 4 by omega] at e1
   have e2 := sig_inj _ (dig_lt true xs (i / 4) _ (by simp)) _ (dig_lt true ys (i / 4) _ (by simp)) e1
   have e3 := dig_bits e2 (i % 4) (by omega)
   rw [show i / 4 * 4 + i % 4 = i by omega] at e3
   exact bit_tb e3
  ·rw [if_pos h4, if_neg u4] at h
   have := congrArg (fun z => z.getD 1 0) h
   simp at this
 ·by_cases u4 : U % 4 = 0
  ·rw [if_neg h4, if_pos u4] at h
   have := congrArg (fun z => z.getD 1 0) h
   simp at this
  ·rw [if_neg h4, if_neg u4] at h
   have h2 := (List.append_right_inj _).1 h
   have hl := congrArg List.length h2
   rw [wTo_len, wTo_len] at hl
   subst hl
   refine ⟨rfl, same_bits hx hy bx by_ fun i hi => ?_⟩
   have hk : V - 1 - i < V := by omega
   have e1 := congrArg (fun z => z.getD (V - 1 - i) 0) h2
   rw [wTo_at _ _ _ _ _ hk, wTo_at _ _ _ _ _ hk] at e1
   rw [show V - 1 - (V - 1 - i) = i by omega] at e1
   simp only [Bool.false_eq_true, if_false, Nat.mul_one] at e1
   have e2 := sig_inj _ (dig_lt false xs i _ (by simp)) _ (dig_lt false ys i _ (by simp)) e1
   simp only [dig, Bool.false_eq_true, if_false] at e2
   exact bit_tb e2
theorem txt_inj {l m : List Nat} (hl : ∀ x ∈ l, x < 256) (hm : ∀ x ∈ m, x < 256) (h : txt l = txt m) : l = m := by
 unfold txt at h
 injection h with h
 have h2 : l.map UInt8.ofNat = m.map UInt8.ofNat := by simpa using h
 have h3 : ∀ (z : List Nat), (∀ x ∈ z, x < 256) → (z.map UInt8.ofNat).map UInt8.toNat = z := fun z hz => by
  rw [List.map_map]
  conv => rhs; rw [← List.map_id z]
  refine List.map_congr_left fun b hb => ?_
  have := hz b hb
  simp [UInt8.toNat_ofNat']
  omega
 rw [← h3 l hl, ← h3 m hm, h2]
theorem writeL_lt (V : Nat) (xs : List Nat) : ∀ x ∈ writeL V xs, x < 256 := by
 intro x hx
 unfold writeL at hx
 split at hx
 ·rcases List.mem_append.1 hx with h | h
  ·simp at h; omega
  ·exact wTo_lt _ _ _ _ x h
 ·rcases List.mem_append.1 hx with h | h
  ·simp at h; omega
  ·exact wTo_lt _ _ _ _ x h
theorem writeR_lt (W : Int) (xs : List Nat) : ∀ x ∈ writeR W xs, x < 256 := by
 intro x hx
 unfold writeR at hx
 split at hx
 ·exact writeL_lt _ _ x hx
 ·cases hx
theorem writeL_two (V : Nat) (xs : List Nat) : 2 ≤ (writeL V xs).length := by
 unfold writeL
 split <;> simp <;> omega
theorem writeR_size (W : Int) (xs : List Nat) (h : rightB W xs = true ∨ W = 0) : (writeR W xs).length ≤ 5000 := by
 unfold writeR
 split
 ·rename_i hr
  have := right_W hr
  unfold writeL
  split <;> simp [wTo_len] <;> omega
 ·simp
def okV (W : Int) (xs : List Nat) : Prop := (rightB W xs = true ∨ W = 0 ∧ xs = []) ∧ ∀ x ∈ xs, x < 18446744073709551616
theorem text_inj {W U : Int} {xs ys : List Nat} (hx : okV W xs) (hy : okV U ys) (h : txt (writeR W xs) = txt (writeR U ys)) : W = U ∧ xs = ys := by
 have h2 := txt_inj (writeR_lt _ _) (writeR_lt _ _) h
 have no0 : rightB 0 ([] : List Nat) = false := by decide
 obtain ⟨h1, bx⟩ := hx
 obtain ⟨k1, by_⟩ := hy
 rcases h1 with h1 | ⟨rfl, rfl⟩
 ·have w1 := right_W h1
  obtain ⟨V, rfl⟩ := Int.eq_ofNat_of_zero_le (show 0 ≤ W by omega)
  rcases k1 with k1 | ⟨rfl, rfl⟩
  ·have w2 := right_W k1
   obtain ⟨Z, rfl⟩ := Int.eq_ofNat_of_zero_le (show 0 ≤ U by omega)
   rw [writeR, if_pos h1, writeR, if_pos k1, Int.toNat_natCast, Int.toNat_natCast] at h2
   obtain ⟨e1, e2⟩ := writeL_inj h1 k1 bx by_ h2
   exact ⟨by rw [e1], e2⟩
  ·rw [writeR, if_pos h1, writeR, if_neg (by rw [no0]; decide)] at h2
   have := writeL_two ((V : Int).toNat) xs
   rw [h2] at this
   simp at this
 ·rcases k1 with k1 | ⟨rfl, rfl⟩
  ·rw [writeR, if_neg (by rw [no0]; decide), writeR, if_pos k1] at h2
   have := writeL_two (U.toNat) ys
   rw [← h2] at this
   simp at this
  ·exact ⟨rfl, rfl⟩

theorem bSize : (Tryz.prog.info? 150).map TypeInfo.size = some 2 := by kernel_rfl
theorem bLies : liesAt Tryz.prog Tryz.prog.depth 150 (2 / Tryz.prog.cellsOf 150) 0 150 1 = true := by kernel_rfl
set_option maxHeartbeats 1000000 in
set_option maxRecDepth 100000 in
theorem check_used (b : Nat) (w : World) (h0 : w.cell? ⟨b, 0, none⟩ = some (.pointer (some ⟨b, 0, none⟩))) :
  Calls Tryz.prog 122 #[.pointer (some ⟨b, 0, none⟩)] w fun e w' => e = .returned (.tuple #[]) ∧ w' = w := by
 obtain ⟨j, hj, hjs⟩ := Option.map_eq_some_iff.1 bSize
 go_enter Tryz.func122, Tryz.ntmps122
 go_wp2
 rw [Lib.run_neq_ptr_same w _ Tryz.underlying148 hj]
 go_wp2
 go_end0
 exact ⟨rfl, rfl⟩
set_option maxHeartbeats 1000000 in
set_option maxRecDepth 100000 in
theorem check_fresh (b : Nat) (w : World) (h0 : w.cell? ⟨b, 0, none⟩ = some (.pointer none)) (hsh : w.shape? b = some (150, 2)) (hfz : w.frozen? ⟨b, 0, none⟩ = false) :
  Calls Tryz.prog 122 #[.pointer (some ⟨b, 0, none⟩)] w fun e w' => e = .returned (.tuple #[]) ∧ w' = w.setCell ⟨b, 0, none⟩ (.pointer (some ⟨b, 0, none⟩)) := by
 obtain ⟨j, hj, hjs⟩ := Option.map_eq_some_iff.1 bSize
 go_enter Tryz.func122, Tryz.ntmps122
 go_wp2
 rw [Lib.run_to_unsafe w ⟨b, 0, none⟩ Tryz.underlying148 Tryz.underlying199 hj (by rw [hjs]; decide) hsh (Nat.zero_lt_succ 1)]
 simp only [Result.andThen]
 rw [Oper.upon_value]
 go_wp2
 rw [run_callFunc_extern Tryz.func127 (by kernel_rfl) (by kernel_rfl) (by kernel_rfl) (e := Extern.AbiNoEscape.same) (by kernel_rfl), Lib.run_noEscape]
 simp only [Result.andThen]
 rw [Oper.upon_value]
 go_wp2
 rw [Lib.run_from_unsafe w ⟨b, 0, none⟩ Tryz.underlying199 Tryz.underlying148 hj hsh bLies]
 simp only [Result.andThen]
 rw [Oper.upon_value]
 go_wp2
 go_end0
 exact ⟨rfl, rfl⟩
def Bd2 (B b : Nat) (l : List Nat) (w : World) : Prop := Lib.BuilderAt 150 5 B b (.pointer (some ⟨b, 0, none⟩)) (u8s l) w
theorem Bd2.next {B b : Nat} {l : List Nat} {w w' : World} (h : Bd2 B b l w) (hb : Below w.heap.size w w') : Bd2 B b l w' := by
 obtain ⟨hB, v, hbk, hown, hne⟩ := h
 refine ⟨hB, v, ?_, ?_, hne⟩
 ·rw [hb.block b (lt_of_block hbk)]; exact hbk
 ·obtain ⟨h1, h2⟩ := hown
  refine ⟨h1, ?_⟩
  rcases h2 with h2 | ⟨g, cap, cur, rfl, hg, hh, r⟩
  ·exact .inl h2
  ·exact .inr ⟨g, cap, cur, rfl, hg, by rw [hb.block g (lt_of_block hh)]; exact hh, r⟩
set_option maxHeartbeats 2000000 in
set_option maxRecDepth 100000 in
theorem wByte_any (B b : Nat) (l : List Nat) (c : Nat) (w : World) (h : Bd2 B b l w) (hl : l.length ≤ 100000) (hBw : B ≤ w.heap.size) :
  Calls Tryz.prog 103 #[.pointer (some ⟨b, 0, none⟩), .int .u8 c] w fun e w' => e = .returned .nilIface ∧ Bd2 B b (l ++ [c]) w' ∧ Below B w w' := by
 obtain ⟨i0, hi, hz0, hz1, hz2⟩ := info_parts Tryz.infoU8
 obtain ⟨hB, v, hbk, hown, hne⟩ := h
 have hlt := lt_of_block hbk
 have c0 : w.cell? ⟨b, 0, none⟩ = some (.pointer (some ⟨b, 0, none⟩)) := cell_of_row w b 0 _ _ _ hbk
 have c1 : w.cell? ⟨b, 1, none⟩ = some v := cell_of_row w b 1 _ _ _ hbk
 have hownB : OwB w B v l := by unfold OwB; rw [show l.length = (u8s l).length by simp [u8s]]; exact hown
 have HNE : Hid _ := hne
 have HBK : Hid _ := hbk
 clear hown hne hbk
 go_enter Tryz.func103, Tryz.ntmps103
 go_wp2_with (first
  | (go_at_call 122; refine (check_used b _ c0).mono ?_; rintro e w ⟨rfl, rfl⟩)
  | (at_builtin; refine wpList_appB _ rfl _ _ rfl B _ l c rfl (hownB.alloc _) w.heap.size rfl (by simp) (by omega) (by simp; omega) ?_))
 intro v' w2 hown2 hgr
 have hb2 : w2.heap[b]? = some (.cells #[.pointer (some ⟨b, 0, none⟩), v] 150 (0, 0)) := by
  rw [hgr.block b (by simp; omega) (fun e => HNE.out e.symm), heap_alloc_old _ _ hlt]
  exact HBK.out
 have d0 : w2.cell? ⟨b, 0, none⟩ = some (.pointer (some ⟨b, 0, none⟩)) := cell_of_row w2 b 0 _ _ _ hb2
 have d1 : w2.cell? ⟨b, 1, none⟩ = some v := cell_of_row w2 b 1 _ _ _ hb2
 have f1 : w2.frozen? ⟨b, 1, none⟩ = false := frozen_of_row w2 b 1 _ _ hb2
 obtain ⟨g, cap, hv'⟩ : ∃ g cap, v' = .slice (some ⟨g, 0, none⟩) (l ++ [c]).length cap := by
  rcases hown2.2 with ⟨_, h0⟩ | ⟨g, cap, cur, hv, _⟩
  ·simp at h0
  ·exact ⟨g, cap, hv⟩
 subst hv'
 have hbel : Below B w w2 := ((Below.refl B w).alloc hBw _).grown hgr (by simp; omega) (fun k hk => (World.ownsRow.lt hownB k hk).1)
 have hown3 : w2.ownsRow B 5 1 (.slice (some ⟨g, 0, none⟩) (l ++ [c]).length cap) (u8s (l ++ [c])).length (u8s (l ++ [c])) := by
  have h := hown2
  unfold OwB at h
  rwa [show (l ++ [c]).length = (u8s (l ++ [c])).length by simp [u8s]] at h ⊢
 have HO3 : Hid _ := hown3
 clear hgr hownB hown2 hown3 c0 c1
 generalize (l ++ [c]).length = n' at *
 go_wp2
 go_ret
 exact ⟨rfl, Lib.BuilderAt.put (T := 150) (e := 5) hB hb2 HO3.out (by decide), hbel.setCell (p := ⟨b, 1, none⟩) hB _⟩
set_option maxHeartbeats 2000000 in
set_option maxRecDepth 100000 in
theorem wStr_fresh (B b : Nat) (s : ByteArray) (l : List Nat) (w : World) (hs : Lib.strCells s = u8s l) (hl : s.size ≤ 100000) (hB : B ≤ b) (hBw : B ≤ w.heap.size) (hbk : w.heap[b]? = some (.cells #[.pointer none, .slice none 0 0] 150 (0, 0))) :
  Calls Tryz.prog 102 #[.pointer (some ⟨b, 0, none⟩), .string s] w fun e w' => e = .returned (.tuple #[.int .i64 s.size, .nilIface]) ∧ Bd2 B b l w' ∧ Below B w w' := by
 obtain ⟨i0, hi, hz0, hz1, hz2⟩ := info_parts Tryz.infoU8
 have hlt := lt_of_block hbk
 have c0 : w.cell? ⟨b, 0, none⟩ = some (.pointer none) := cell_of_row w b 0 _ _ _ hbk
 have hsh : w.shape? b = some (150, 2) := by simp [World.shape?, hbk]
 have hfz : w.frozen? ⟨b, 0, none⟩ = false := frozen_of_row w b 0 _ _ hbk
 have hbk1 : (w.setCell ⟨b, 0, none⟩ (.pointer (some ⟨b, 0, none⟩))).heap[b]? = some (.cells #[.pointer (some ⟨b, 0, none⟩), .slice none 0 0] 150 (0, 0)) := by
  rw [heap_setCell_same w b 0 _ _ _ hbk]; rfl
 have hb1 : Below B w (w.setCell ⟨b, 0, none⟩ (.pointer (some ⟨b, 0, none⟩))) := (Below.refl B w).setCell (p := ⟨b, 0, none⟩) hB _
 have hsz : (w.setCell ⟨b, 0, none⟩ (.pointer (some ⟨b, 0, none⟩))).heap.size = w.heap.size := by simp
 have HS : Hid _ := hs
 clear hs
 go_enter Tryz.func102, Tryz.ntmps102
 go_wp2_with fail
 refine (check_fresh b w c0 hsh hfz).mono ?_
 rintro e w1 ⟨rfl, rfl⟩
 generalize w.setCell ⟨b, 0, none⟩ (.pointer (some ⟨b, 0, none⟩)) = w1 at *
 have d0 : w1.cell? ⟨b, 0, none⟩ = some (.pointer (some ⟨b, 0, none⟩)) := cell_of_row w1 b 0 _ _ _ hbk1
 have d1 : w1.cell? ⟨b, 1, none⟩ = some (.slice none 0 0) := cell_of_row w1 b 1 _ _ _ hbk1
 have hown : w1.ownsRow B 5 1 (.slice none 0 0) 0 [] := ⟨rfl, .inl ⟨rfl, rfl⟩⟩
 clear hbk c0 hsh hfz
 go_wp2_with (at_builtin; refine Lib.wpList_append_own_string _ rfl _ _ 90 9 rfl B 5 i0 Tryz.underlying90 Tryz.underlying9 hi hz0 hz1 hz2 _ _ _ rfl hown s rfl ?c3 ?c4 ?c5 ?_)
 case c3 => unfold maxLen; omega
 case c4 => omega
 case c5 => omega
 intro v' w2 hown2 hgr _
 have hb2 : w2.heap[b]? = some (.cells #[.pointer (some ⟨b, 0, none⟩), .slice none 0 0] 150 (0, 0)) := by
  rw [hgr.block b (by omega) (by simp [Value.ownBlock])]
  exact hbk1
 have f1 : w2.frozen? ⟨b, 1, none⟩ = false := frozen_of_row w2 b 1 _ _ hb2
 have e0 : w2.cell? ⟨b, 0, none⟩ = some (.pointer (some ⟨b, 0, none⟩)) := cell_of_row w2 b 0 _ _ _ hb2
 have e1 : w2.cell? ⟨b, 1, none⟩ = some (.slice none 0 0) := cell_of_row w2 b 1 _ _ _ hb2
 have hbel : Below B w w2 := hb1.grown hgr (by omega) (fun k hk => by simp [Value.ownBlock] at hk)
 obtain ⟨ao, n', cap, hv'⟩ : ∃ ao n' cap, v' = .slice ao n' cap := by
  rcases hown2.2 with ⟨hv, _⟩ | ⟨g, cap, cur, hv, _⟩
  ·exact ⟨_, _, _, hv⟩
  ·exact ⟨_, _, _, hv⟩
 subst hv'
 have hown3 : w2.ownsRow B 5 1 (.slice ao n' cap) (u8s l).length (u8s l) := by
  rw [← HS.out]
  simpa [Lib.strCells_length] using hown2
 have HO3 : Hid _ := hown3
 clear hgr hown hown2 hown3 d0 d1 hb1 hbk1
 go_wp2
 go_ret2
 exact ⟨rfl, Lib.BuilderAt.put (T := 150) (e := 5) hB hb2 HO3.out (by decide), hbel.setCell (p := ⟨b, 1, none⟩) hB _⟩

end Go.Proofs.YtnpjgoklpaigjaaGreatDoor
