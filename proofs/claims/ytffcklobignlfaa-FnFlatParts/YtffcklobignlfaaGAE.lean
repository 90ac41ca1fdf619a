/- Several texts in one. -/
import Derived.Test.YtffcklobignlfaaA
import Derived.Test.YtffcklobignlfaaB
import Derived.Deep.OwnRows
import Derived.BigRegion
import Derived.Laws.ShiftsVar
import Derived.Laws.ShiftsVarLaws
import Derived.Test.YtffcklobignlfaaGAB
import Derived.WalkKit
import Derived.WalkSpells
import Derived.Deep.QuietTactic
import Derived.BigQuiet
import Derived.Outline
import Derived.WalkSmall
namespace Go.Proofs.Ytffcklobignlfaa
open Go.RowKit
set_option linter.unusedVariables false
set_option linter.unusedSimpArgs false
theorem ret_bool {a b : Bool} (h : a = b) : Ending.returned (.bool a) = .returned (.bool b) := by rw [h]
theorem ret_int {k : IntKind} {a b : Int} (h : a = b) : Ending.returned (.int k a) = .returned (.int k b) := by rw [h]
theorem implOk_any (W : Int) (a : Option Addr) (c : Nat) (xs : List Nat) (w : World) (hr : Rd w a xs) :
  Calls Try.prog 65 #[.agg #[.int .i64 W, .slice a xs.length c]] w fun e w' => e = .returned (.bool (rightB W xs)) ∧ Below w.heap.size w w' := by
 cases hw : wOk W with
 | false =>
  rw [rightB_no1 hw]
  go_enter Try.func65, Try.ntmps65
  go_wp2_with fail
  go_quiet ((go_at_call 58; exact Calls.quiet_of_same (widthOk_any _ _)))
  go_wp2
  go_ret
  exact ⟨rfl, below_drewN ((Below.refl _ _).alloc (Nat.le_refl _) _) _⟩
 | true =>
  have hW : 1 ≤ W ∧ W ≤ 4096 := by simpa [wOk] using hw
  by_cases hl : (xs.length : Int) = (W + 63) / 64
  ·rw [rightB_clear hw hl, clear_last hr.2.1 hw hl]
   obtain ⟨h1, hx, h | ⟨b, o, rfl, hc⟩⟩ := hr
   ·subst h; simp at hl; omega
   have hpos : 0 < xs.length := by omega
   have hcell := hc (xs.length - 1) (by omega)
   have hlt : xs.getD (xs.length - 1) 0 < 18446744073709551616 := by
    have e : xs.getD (xs.length - 1) 0 = xs[xs.length - 1]'(by omega) := by simp [List.getD, show xs.length - 1 < xs.length by omega]
    rw [e]; exact hx _ (List.getElem_mem _)
   have hblk : b < w.heap.size := block_lt_of_cell hcell
   have hne : ((xs.length : Int) != (W + 63) / 64) = false := by simp [hl]
   have hbl : Lib.bitLen (xs.getD (xs.length - 1) 0) ≤ 64 := Lib.bitLen_le _ 64 (by omega) hlt
   generalize xs.getD (xs.length - 1) 0 = y at *
   generalize hn : xs.length = n at *
   clear hc hx hn
   obtain ⟨hW1, hW2⟩ := hW
   have hn64 : n ≤ 64 := by omega
   clear hl
   obtain ⟨m, rfl⟩ : ∃ m, n = m + 1 := ⟨n - 1, by omega⟩
   simp only [Nat.add_sub_cancel] at hcell
   have hi0 : (0 : Int) ≤ (m : Int) := by omega
   have hi1 : (m : Int) < (m : Int) + 1 := by omega
   go_enter Try.func65, Try.ntmps65
   go_wp2_with fail
   go_quiet ((first | (go_at_call 58; exact Calls.quiet_of_same (widthOk_any _ _)) | (go_at_call 61; exact Calls.quiet_of_same (wordsFor_any _ hW1 hW2 _))))
   go_wp2_with fail
   go_quiet ((go_at_call 73; refine (len64_any _ _ hlt).mono ?_; rintro e w' ⟨rfl, rfl⟩; exact ⟨rfl, _, rfl⟩))
   go_wp2
   go_ret
   exact ⟨ret_bool (by rw [Bool.eq_iff_iff]; simp; omega), below_drewN (below_drewN ((Below.refl _ _).alloc (Nat.le_refl _) _) _) _⟩
  ·rw [rightB_no2 hl]
   have hne : ((xs.length : Int) != (W + 63) / 64) = true := by simp [hl]
   obtain ⟨hW1, hW2⟩ := hW
   have h1 := hr.1
   clear hl hr
   go_enter Try.func65, Try.ntmps65
   go_wp2_with fail
   go_quiet ((first | (go_at_call 58; exact Calls.quiet_of_same (widthOk_any _ _)) | (go_at_call 61; exact Calls.quiet_of_same (wordsFor_any _ hW1 hW2 _))))
   go_wp2
   go_ret
   exact ⟨rfl, below_drewN ((Below.refl _ _).alloc (Nat.le_refl _) _) _⟩
theorem specOk_any (W : Int) (a : Option Addr) (c : Nat) (xs : List Nat) (w : World) (hr : Rd w a xs) :
  Calls Try.prog 55 #[.agg #[.int .i64 W, .slice a xs.length c]] w fun e w' => e = .returned (.bool (rightB W xs)) ∧ Below w.heap.size w w' := by
 have hlen := hr.1
 cases hw : wOk W with
 | false =>
  rw [rightB_no1 hw]
  clear hr
  have hd : decide (1 ≤ W ∧ W ≤ 4096) = false := hw
  go_enter Try.func55, Try.ntmps55
  go_wp2_with (go_at_call 33; refine (l1In_any _ _ _ _).mono ?_; rintro e w' ⟨rfl, rfl⟩)
  go_ret
  exact ⟨rfl, (Below.refl _ _).alloc (Nat.le_refl _) _⟩
 | true =>
  have hd : decide (1 ≤ W ∧ W ≤ 4096) = true := hw
  have hW : 1 ≤ W ∧ W ≤ 4096 := by simpa [wOk] using hw
  obtain ⟨hW1, hW2⟩ := hW
  by_cases hl : (xs.length : Int) = (W + 63) / 64
  ·rw [rightB_clear hw hl]
   have hne : ((xs.length : Int) != (W + 63) / 64) = false := by simp [hl]
   have hcl := clear_iff W xs
   generalize hcv : clear W xs = cv at hcl ⊢
   have Hcl := show Hid _ from hcl
   have HL : Hid ((xs.length : Int) = (W + 63) / 64) := hl
   clear hcl hl hcv
   obtain ⟨V, rfl⟩ := Int.eq_ofNat_of_zero_le (show 0 ≤ W by omega)
   go_enter Try.func55, Try.ntmps55
   go_wp2_with (go_at_call 33; refine (l1In_any _ _ _ _).mono ?_; rintro e w' ⟨rfl, rfl⟩)
   clear hne
   go_loopw [3] (fun i wr => ∃ k : Nat, V ≤ k ∧ k ≤ 64 * xs.length ∧ i = .int .i64 k ∧ (∀ j : Nat, V ≤ j → j < k → tb xs j = false) ∧ Below (w.heap.size + 1) (w.alloc (Obj.cells #[.int IntKind.i64 V, .slice a xs.length c] 32)) wr) (fun i _ => 64 * xs.length - (intOf i).toNat)
   case atStart => exact ⟨V, Nat.le_refl _, by have := HL.out; omega, rfl, fun j h1 h2 => by omega, Below.refl _ _⟩
   case round =>
    obtain ⟨k, hk1, hk2, rfl, hz, hbel⟩ := hrel
    have HZ : Hid (∀ j : Nat, V ≤ j → j < k → tb xs j = false) := hz
    have hc0 : wr.cell? ⟨w.heap.size, 0, none⟩ = some (Value.int IntKind.i64 V) := by rw [hbel.cell (by simp)]; simp
    have hc1 : wr.cell? ⟨w.heap.size, 1, none⟩ = some (Value.slice a xs.length c) := by rw [hbel.cell (by simp)]; simp
    have hsz := hbel.size
    simp at hsz
    have hr' : Rd wr a xs := (hr.later ((Below.refl _ _).alloc (Nat.le_refl _) _)).later (hbel.mono (by simp))
    have HB := show Hid _ from hbel
    clear hz hbel hr
    by_cases hlt : k < 64 * xs.length
    ·cases htb : tb xs k with
     | true =>
      go_wp2_with (go_at_call 36; refine (l1Bit_any _ _ _ _ _ _ hr' hlt).mono ?_; rintro e w1 ⟨rfl, hb1⟩)
      go_ret
      refine ⟨ret_bool ?_, ((((Below.refl _ _).alloc (Nat.le_refl _) _).trans (HB.out.mono (Nat.le_succ _))).trans (hb1.mono (by omega)))⟩
      cases cv with
      | false => rfl
      | true => exact absurd (Hcl.out.1 rfl k (by omega) hlt) (by simp [htb])
     | false =>
      go_wp2_with (go_at_call 36; refine (l1Bit_any _ _ _ _ _ _ hr' hlt).mono ?_; rintro e w1 ⟨rfl, hb1⟩)
      go_roundw
      case rel =>
       refine ⟨k + 1, by omega, by omega, by go_num, fun j h1 h2 => ?_, HB.out.trans (hb1.mono (by omega))⟩
       by_cases hj : j = k
       ·rw [hj]; exact htb
       ·exact HZ.out j h1 (by omega)
      case measure => simp [intOf]; omega
    ·go_wp2
     go_ret
     refine ⟨ret_bool ?_, ((Below.refl _ _).alloc (Nat.le_refl _) _).trans (HB.out.mono (Nat.le_succ _))⟩
     exact (Hcl.out.2 fun j h1 h2 => HZ.out j (by omega) (by omega)).symm
  ·rw [rightB_no2 hl]
   have hne : ((xs.length : Int) != (W + 63) / 64) = true := by simp [hl]
   clear hl hr
   go_enter Try.func55, Try.ntmps55
   go_wp2_with (go_at_call 33; refine (l1In_any _ _ _ _).mono ?_; rintro e w' ⟨rfl, rfl⟩)
   go_ret
   exact ⟨rfl, (Below.refl _ _).alloc (Nat.le_refl _) _⟩

theorem Try.infoU64 : (Try.prog.info? 82).map (fun i => (i.zero, i.size, i.bytes)) = some (some (.int .u64 0), 1, 8) := by kernel_rfl
def u64s (xs : List Nat) : Array Value := (xs.map fun (x : Nat) => Value.int .u64 (x : Int)).toArray
theorem u64s_get (xs : List Nat) (i : Nat) (h : i < xs.length) : (u64s xs)[i]? = some (.int .u64 ((xs.getD i 0 : Nat) : Int)) := by simp [u64s, List.getD, h]
theorem u64s_set (xs : List Nat) (i x : Nat) : (u64s xs).setIfInBounds i (.int .u64 (x : Int)) = u64s (xs.set i x) := by
 simp [u64s, List.setIfInBounds_toArray, List.map_set]
theorem u64s_made (n : Nat) : madeCells #[.int .u64 0] n = u64s (List.replicate n 0) := by
 apply Array.toList_inj.1
 rw [toList_madeCells_one]
 simp [u64s]
def Own (w : World) (g : Nat) (xs : List Nat) : Prop := w.heap[g]? = some (.cells (u64s xs) 82 (0, 0))
theorem Own.cell {w : World} {g : Nat} {xs : List Nat} (h : Own w g xs) {i : Nat} (hi : i < xs.length) : w.cell? ⟨g, i, none⟩ = some (.int .u64 ((xs.getD i 0 : Nat) : Int)) := by
 rw [cell_of_row w g i _ _ _ h, u64s_get _ _ hi]
theorem Own.free {w : World} {g : Nat} {xs : List Nat} (h : Own w g xs) (i : Nat) : w.frozen? ⟨g, i, none⟩ = false := frozen_of_row w g i _ _ h
theorem Own.lt {w : World} {g : Nat} {xs : List Nat} (h : Own w g xs) : g < w.heap.size := lt_of_block h
theorem Own.put {w : World} {g : Nat} {xs : List Nat} (h : Own w g xs) (i x : Nat) : Own (w.setCell ⟨g, i, none⟩ (.int .u64 (x : Int))) g (xs.set i x) := by
 unfold Own
 rw [heap_setCell_same w g i _ _ _ h, u64s_set]
theorem Own.rd {w : World} {g : Nat} {xs : List Nat} (h : Own w g xs) (hl : xs.length ≤ 1048576) (hx : ∀ x ∈ xs, x < 18446744073709551616) : Rd w (some ⟨g, 0, none⟩) xs :=
 ⟨hl, hx, .inr ⟨g, 0, rfl, fun i hi => by rw [Nat.zero_add]; exact h.cell hi⟩⟩
theorem Own.later {w w' : World} {g B : Nat} {xs : List Nat} (h : Own w g xs) (hb : Below B w w') (hg : g < B) : Own w' g xs := by
 unfold Own
 rw [hb.block g hg]; exact h
theorem take_set (xs : List Nat) (k : Nat) (h : k < xs.length) :
  (xs.take k ++ List.replicate (xs.length - k) 0).set k (xs.getD k 0) = xs.take (k + 1) ++ List.replicate (xs.length - (k + 1)) 0 := by
 apply List.ext_getElem?
 intro i
 simp only [List.getElem?_set, List.getElem?_append, List.getElem?_take, List.length_take, List.getElem?_replicate, List.length_append, List.length_replicate, List.getD]
 split <;> split <;> split <;> (try split) <;> (try split) <;> (try omega) <;> simp_all <;> (try omega)

theorem bcell {W w1 : World} (hb : Below W.heap.size W w1) : (∀ b o, b < W.heap.size → w1.cell? ⟨b, o, none⟩ = W.cell? ⟨b, o, none⟩) ∧ (∀ b o, b < W.heap.size → w1.frozen? ⟨b, o, none⟩ = W.frozen? ⟨b, o, none⟩) :=
 ⟨fun b o h => hb.cell (p := ⟨b, o, none⟩) h, fun b o h => hb.frozen (p := ⟨b, o, none⟩) h⟩
theorem Own.other {w : World} {g : Nat} {xs : List Nat} (h : Own w g xs) {a : Addr} (ha : g ≠ a.block) (v : Value) : Own (w.setCell a v) g xs := by
 unfold Own
 rw [heap_setCell_other w a g v ha]; exact h

def RdB (w : World) (a : Option Addr) (bs : List Nat) : Prop :=
 bs.length ≤ 4194304 ∧ (∀ x ∈ bs, x < 256) ∧ (bs = [] ∨ ∃ b o, a = some ⟨b, o, none⟩ ∧ ∀ i, i < bs.length → w.cell? ⟨b, o + i, none⟩ = some (.int .u8 ((bs.getD i 0 : Nat) : Int)))
theorem RdB.later {w w' : World} {a : Option Addr} {xs : List Nat} (h : RdB w a xs) (hb : Below w.heap.size w w') : RdB w' a xs := by
 obtain ⟨h1, h2, h3⟩ := h
 refine ⟨h1, h2, ?_⟩
 rcases h3 with h3 | ⟨b, o, rfl, hc⟩
 ·exact .inl h3
 ·refine .inr ⟨b, o, rfl, fun i hi => ?_⟩
  have := hc i hi
  rw [hb.cell (p := ⟨b, o + i, none⟩) (by exact block_lt_of_cell this)]
  exact this
def Fresh (w : World) (lo : Nat) (a : Option Addr) (ys : List Nat) : Prop := (ys = [] ∧ a = none) ∨ ∃ g, a = some ⟨g, 0, none⟩ ∧ lo ≤ g ∧ Own w g ys
def RetB (w : World) (r : Int × List Nat × Bool) (e : Ending) (w' : World) : Prop :=
 ∃ a c, e = .returned (.tuple #[.agg #[.int .i64 r.1, .slice a r.2.1.length c], .bool r.2.2]) ∧ Fresh w' w.heap.size a r.2.1 ∧ Below w.heap.size w w'
def packTo (bs : List Nat) : Nat → List Nat
 | 0 => List.replicate ((bs.length + 63) / 64) 0
 | k + 1 => (packTo bs k).set (k / 64) ((packTo bs k).getD (k / 64) 0 ||| (bs.getD k 0) * 2 ^ (k % 64) % 18446744073709551616)
def pack (bs : List Nat) : List Nat := packTo bs bs.length
theorem packTo_len (bs : List Nat) (k : Nat) : (packTo bs k).length = (bs.length + 63) / 64 := by
 induction k with
 | zero => simp [packTo]
 | succ k ih => simp [packTo, ih]
theorem packTo_lt (bs : List Nat) (k : Nat) : ∀ x ∈ packTo bs k, x < 18446744073709551616 := by
 induction k with
 | zero => intro x hx; simp [packTo] at hx; omega
 | succ k ih =>
  intro x hx
  simp only [packTo] at hx
  rcases List.mem_or_eq_of_mem_set hx with h | h
  ·exact ih x h
  ·rw [h]
   refine Nat.or_lt_two_pow (n := 64) ?_ (Nat.mod_lt _ (by decide))
   simp only [List.getD]
   cases hg : (packTo bs k)[k / 64]? with
   | none => simp
   | some v => exact ih v (List.mem_of_getElem? hg)
theorem orShift (z y s : Nat) (hz : z < 18446744073709551616) : bits BinOp.or IntKind.u64 (z : Int) (IntKind.u64.wrap ((y : Int) * 2 ^ s)) = ((z ||| y * 2 ^ s % 18446744073709551616 : Nat) : Int) := by
 have e : IntKind.u64.wrap ((y : Int) * 2 ^ s) = ((y * 2 ^ s % 18446744073709551616 : Nat) : Int) := by
  rw [IntKind.wrap_u64]; simp
 rw [e, bits_or_u64_nat _ _ hz (Nat.mod_lt _ (by decide))]
theorem l1From_no (a : Option Addr) (n c : Nat) (w : World) (h : n = 0 ∨ 4096 < n) (hn : n ≤ 4194304) :
  Calls Try.prog 37 #[.slice a n c] w fun e w' => e = .returned (.tuple #[.agg #[.int .i64 0, .slice none 0 0], .bool false]) ∧ Below w.heap.size w w' := by
 rcases h with rfl | h
 ·go_enter Try.func37, Try.ntmps37
  go_wp2
  exact bodyPost_ret (v := .tuple #[.agg #[.int .i64 0, .slice none 0 0], .bool false]) (by simp [results, Try.results37, go_sem]) rfl ⟨rfl, (Below.refl _ _).alloc (Nat.le_refl _) _⟩
 ·have h1 : ¬ (n : Int) < 1 := by omega
  have h2 : (4096 : Int) < (n : Int) := by omega
  go_enter Try.func37, Try.ntmps37
  go_wp2
  exact bodyPost_ret (v := .tuple #[.agg #[.int .i64 0, .slice none 0 0], .bool false]) (by simp [results, Try.results37, go_sem]) rfl ⟨rfl, (Below.refl _ _).alloc (Nat.le_refl _) _⟩
theorem l1From_yes (a : Option Addr) (c : Nat) (bs : List Nat) (w : World) (hr : RdB w a bs) (h1 : 1 ≤ bs.length) (h2 : bs.length ≤ 4096) :
  Calls Try.prog 37 #[.slice a bs.length c] w (RetB w ((bs.length : Int), pack bs, true)) := by
 have hd : ((bs.length + 63) / 64 : Nat) ≤ 64 := by omega
 have hmk := fun kl kc w => run_make_row' (P := Try.prog) 30 82 (.int .u64 0) 8 Try.underlying30 Try.infoU64 rfl kl kc ((bs.length + 63) / 64) (by omega) (by omega) w
 have ec : (((bs.length + 63) / 64 : Nat) : Int) = ((bs.length : Int) + 63) / 64 := by omega
 simp only [ec] at hmk
 clear ec
 go_enter Try.func37, Try.ntmps37
 go_wp2
 clear hmk
 generalize hN : (bs.length + 63) / 64 = N at *
 have HN : Hid ((bs.length + 63) / 64 = N) := hN
 clear hN
 go_loopw [5] (fun i wr => ∃ k : Nat, k ≤ bs.length ∧ i = .int .i64 k ∧ Own wr (w.heap.size + 1) (packTo bs k) ∧
   wr.heap[w.heap.size]? = some (.cells #[.int IntKind.i64 0, .slice none 0 0] 32 (0, 0)) ∧
   wr.heap[w.heap.size + 1 + 1]? = some (.cells #[.int IntKind.i64 bs.length, .slice (some { block := w.heap.size + 1, off := 0 }) N N] 32 (0, 0)) ∧ Below w.heap.size w wr) (fun i _ => bs.length - (intOf i).toNat)
 case atStart =>
  refine ⟨0, Nat.zero_le _, rfl, ?_, ?_, ?_, (((Below.refl _ _).alloc (Nat.le_refl _) _).alloc (by simp) _).alloc (by simp; omega) _⟩
  ·unfold Own
   rw [heap_alloc_old _ _ (by simp), show w.heap.size + 1 = (w.alloc (Obj.cells #[.int IntKind.i64 0, .slice none 0 0] 32)).heap.size by simp, heap_alloc_new, u64s_made, packTo, HN.out]
  ·rw [heap_alloc_old _ _ (by simp; omega), heap_alloc_old _ _ (by simp), heap_alloc_new]
  ·rw [show w.heap.size + 1 + 1 = ((w.alloc (Obj.cells #[.int IntKind.i64 0, .slice none 0 0] 32)).alloc (Obj.cells (madeCells #[.int IntKind.u64 0] N) 82)).heap.size by simp, heap_alloc_new]
 case round =>
  obtain ⟨k, hk, rfl, hown, hres, hbox, hbel⟩ := hrel
  have hplen := packTo_len bs k
  rw [HN.out] at hplen
  have b1 : wr.cell? ⟨w.heap.size + 1 + 1, 1, none⟩ = some (Value.slice (some { block := w.heap.size + 1, off := 0 }) N N) := cell_of_row wr _ 1 _ _ _ hbox
  have b0 : wr.cell? ⟨w.heap.size + 1 + 1, 0, none⟩ = some (Value.int IntKind.i64 bs.length) := cell_of_row wr _ 0 _ _ _ hbox
  by_cases hlt : k < bs.length
  ·obtain ⟨-, hby, h | ⟨b, o, rfl, hc⟩⟩ := hr
   ·subst h; simp at hlt
   have hcell := hc k hlt
   have hb : b < w.heap.size := block_lt_of_cell hcell
   have hcw : wr.cell? ⟨b, o + k, none⟩ = some (.int .u8 ((bs.getD k 0 : Nat) : Int)) := by rw [hbel.cell (by exact hb)]; exact hcell
   have hkN : k / 64 < N := by have := HN.out; omega
   have hkNi : (k : Int) / 64 < (N : Int) := by omega
   have hki : (k : Int) < (bs.length : Int) := by omega
   have hcg := hown.cell (i := k / 64) (by omega)
   have hfg := hown.free (k / 64)
   have hb8 : bs.getD k 0 < 256 := by
    have e : bs.getD k 0 = bs[k] := by simp [List.getD, hlt]
    rw [e]; exact hby _ (List.getElem_mem _)
   generalize hz : (packTo bs k).getD (k / 64) 0 = z at hcg
   generalize hy : bs.getD k 0 = y at *
   clear hc hcell hby
   have hz64 : z < 18446744073709551616 := by
    rw [← hz]
    simp only [List.getD]
    cases hg : (packTo bs k)[k / 64]? with
    | none => simp
    | some v => exact packTo_lt bs k v (List.mem_of_getElem? hg)
   have HO : Hid (Own (wr.setCell ⟨w.heap.size + 1, k / 64, none⟩ (.int .u64 (bits BinOp.or IntKind.u64 (z : Int) (IntKind.u64.wrap ((y : Int) * 2 ^ (k % 64)))))) (w.heap.size + 1) (packTo bs (k + 1))) := by
    have h := hown.put (k / 64) (z ||| y * 2 ^ (k % 64) % 18446744073709551616)
    rw [← orShift z y _ hz64] at h
    show Own _ _ _
    rw [packTo, hz, hy]
    exact h
   clear hz hy hz64
   go_wp2
   go_region
   go_wp2
   go_roundw
   case rel =>
    refine ⟨k + 1, by omega, by go_num, HO.out, ?_, ?_, ?_⟩
    ·show (World.setCell _ _ _).heap[_]? = _
     rw [heap_setCell_other _ _ _ _ (by simp)]; exact hres
    ·show (World.setCell _ _ _).heap[_]? = _
     rw [heap_setCell_other _ _ _ _ (by simp)]; exact hbox
    ·exact (hbel.setCell (by simp) _).drew
   case measure => simp [intOf]; omega
  ·have e : k = bs.length := by omega
   have c0 : wr.cell? ⟨w.heap.size, 0, none⟩ = some (Value.int IntKind.i64 0) := cell_of_row wr _ 0 _ _ _ hres
   have c1 : wr.cell? ⟨w.heap.size, 1, none⟩ = some (Value.slice none 0 0) := cell_of_row wr _ 1 _ _ _ hres
   have f0 : wr.frozen? ⟨w.heap.size, 0, none⟩ = false := frozen_of_row wr _ 0 _ _ hres
   have f1 : wr.frozen? ⟨w.heap.size, 1, none⟩ = false := frozen_of_row wr _ 1 _ _ hres
   have HO : Hid (Own wr (w.heap.size + 1) (pack bs)) := by rw [e] at hown; exact hown
   have HP : Hid ((pack bs).length = N) := by rw [e] at hplen; exact hplen
   clear hown hplen hres hbox e
   go_wp2
   refine bodyPost_ret (v := .tuple #[.agg #[.int .i64 bs.length, .slice (some ⟨w.heap.size + 1, 0, none⟩) N N], .bool true]) (by simp [results, Try.results37, go_sem, c0, c1]) rfl ?_
   refine ⟨some ⟨w.heap.size + 1, 0, none⟩, N, by rw [HP.out], .inr ⟨_, rfl, Nat.le_succ _, (HO.out.other (by simp) _).other (by simp) _⟩, (hbel.setCell (Nat.le_refl _) _).setCell (Nat.le_refl _) _⟩

theorem Try.infoU8 : (Try.prog.info? 5).map (fun i => (i.zero, i.size, i.bytes)) = some (some (.int .u8 0), 1, 1) := by kernel_rfl
def u8s (bs : List Nat) : List Value := bs.map fun (b : Nat) => Value.int .u8 (b : Int)
def OwB (w : World) (base : Nat) (v : Value) (bs : List Nat) : Prop := w.ownsRow base 5 1 v bs.length (u8s bs)
theorem OwB.shape {w : World} {base : Nat} {v : Value} {bs : List Nat} (h : OwB w base v bs) (hl : bs.length ≤ 4194304) (hx : ∀ x ∈ bs, x < 256) :
  ∃ a c, v = .slice a bs.length c ∧ RdB w a bs ∧ bs.length ≤ c ∧ c ≤ maxLen := by
 obtain ⟨h1, ⟨rfl, h2⟩ | ⟨g, cap, cur, rfl, hg, hh, hc1, hc2, hsz, hcur⟩⟩ := h
 ·have e := List.eq_nil_of_length_eq_zero h2
  subst e
  exact ⟨none, 0, rfl, ⟨hl, hx, .inl rfl⟩, Nat.le_refl _, Nat.zero_le _⟩
 ·refine ⟨some ⟨g, 0, none⟩, cap, rfl, ⟨hl, hx, .inr ⟨g, 0, rfl, fun i hi => ?_⟩⟩, hc1, hc2⟩
  rw [Nat.zero_add, cell_of_row w g i cur _ _ hh]
  have h3 : (cur.toList.take (bs.length * 1))[i]? = (u8s bs)[i]? := by rw [hcur]
  rw [List.getElem?_take, if_pos (by omega)] at h3
  simp only [Array.getElem?_toList] at h3
  rw [h3]
  simp [u8s, List.getD, hi]
theorem OwB.nil (w : World) (base g : Nat) (hg : g = w.heap.size) (h : base ≤ g) : OwB (w.alloc (.cells #[] 5)) base (.slice (some ⟨g, 0, none⟩) 0 0) [] := by
 subst hg
 exact World.ownsRow_made w #[] 0 h (Nat.zero_le _) (by simp)
theorem OwB.alloc {w : World} {base : Nat} {v : Value} {bs : List Nat} (h : OwB w base v bs) (o : Obj) : OwB (w.alloc o) base v bs := World.ownsRow.alloc h o
theorem OwB.kept {w w' : World} {base : Nat} {v : Value} {bs : List Nat} (h : OwB w base v bs) (hb : Below w.heap.size w w') : OwB w' base v bs := by
 obtain ⟨h1, h2⟩ := h
 refine ⟨h1, ?_⟩
 rcases h2 with h2 | ⟨g, cap, cur, rfl, hg, hh, r⟩
 ·exact .inl h2
 ·exact .inr ⟨g, cap, cur, rfl, hg, by rw [hb.block g (lt_of_block hh)]; exact hh, r⟩
theorem OwB.own {w : World} {base : Nat} {v : Value} {bs : List Nat} (h : OwB w base v bs) : ∀ k, v.ownBlock = some k → base ≤ k := fun k hk => (World.ownsRow.lt h k hk).1
theorem wpList_appB (w : World) {ops : Array Oper} {rest : List Oper} {o : Oper} {a : Act} {Q : Exit → Act → World → Prop} (hgd : o.guard = none) (s x : Operand)
  (ho : o.op = .call { callee := .builtin .append, args := #[s, x], argTypes := #[22, 22] })
  (base : Nat) (v : Value) (bs : List Nat) (y : Nat) (hs : a.eval s = v) (hown : OwB w base v bs) (g : Nat) (hx : a.eval x = .slice (some ⟨g, 0, none⟩) 1 1)
  (hnew : w.cell? ⟨g, 0, none⟩ = some (.int .u8 (y : Int))) (hl : bs.length ≤ 4194304) (hbase : base ≤ w.heap.size)
  (h : ∀ v' w', OwB w' base v' (bs ++ [y]) → w.grownBy w' v.ownBlock → wpList Try.prog ops Q rest (a.put o.dst v') w') : wpList Try.prog ops Q (o :: rest) a w := by
 obtain ⟨i0, hi, hz0, hz1, hz2⟩ := info_parts Try.infoU8
 refine wpList_append_own w hgd s x 22 ho base 5 i0 (.int .u8 0) 1 1 Try.underlying22 hi hz0 hz1 hz2 rfl (by decide) v bs.length (u8s bs) hs hown ⟨g, 0, none⟩ 1 1 [.int .u8 (y : Int)] hx rfl ?_ ?_ ?_ ?_ hbase ?_
 ·intro j u hj
  match j, hj with
  | 0, hj => simp at hj; subst hj; simpa [Addr.add] using hnew
 ·intro u hu; simp at hu; subst hu; rfl
 ·unfold maxLen; omega
 ·omega
 ·intro v' w' h1 h2 _
  refine h v' w' ?_ h2
  unfold OwB
  simpa [u8s] using h1
def bitsTo (xs : List Nat) (k : Nat) : List Nat := (List.range k).map fun i => (tb xs i).toNat
theorem bitsTo_len (xs : List Nat) (k : Nat) : (bitsTo xs k).length = k := by simp [bitsTo]
theorem bitsTo_le (xs : List Nat) (k : Nat) : ∀ x ∈ bitsTo xs k, x ≤ 1 := by
 intro x hx
 obtain ⟨i, _, rfl⟩ := List.mem_map.1 hx
 cases tb xs i <;> decide

theorem getD_lt {xs : List Nat} (h : ∀ x ∈ xs, x < 18446744073709551616) (i : Nat) : xs.getD i 0 < 18446744073709551616 := by
 simp only [List.getD]
 cases hg : xs[i]? with
 | none => simp
 | some v => exact h v (List.mem_of_getElem? hg)
theorem tb_set (xs : List Nat) (k y i : Nat) (hk : k < xs.length) : tb (xs.set k y) i = if i / 64 = k then y.testBit (i % 64) else tb xs i := by
 unfold tb
 simp only [List.getD, List.getElem?_set]
 by_cases h : i / 64 = k
 ·simp [h, hk]
 ·rw [if_neg (fun e => h e.symm), if_neg h]
theorem tb_packTo (bs : List Nat) (hb : ∀ x ∈ bs, x ≤ 1) (k i : Nat) (hk : k ≤ bs.length) : tb (packTo bs k) i = (decide (i < k) && decide (bs.getD i 0 = 1)) := by
 induction k with
 | zero => simp [packTo, tb, List.getD, List.getElem?_replicate]; split <;> simp
 | succ k ih =>
  have hlen := packTo_len bs k
  rw [packTo, tb_set _ _ _ _ (by omega)]
  have hbk : bs.getD k 0 ≤ 1 := by
   have e : bs.getD k 0 = bs[k] := by simp [List.getD, show k < bs.length by omega]
   rw [e]; exact hb _ (List.getElem_mem _)
  have hlt : bs.getD k 0 * 2 ^ (k % 64) < 18446744073709551616 := by
   have h1 : 2 ^ (k % 64) ≤ 2 ^ 63 := Nat.pow_le_pow_right (by omega) (by omega)
   have h2 : bs.getD k 0 * 2 ^ (k % 64) ≤ 1 * 2 ^ (k % 64) := Nat.mul_le_mul_right _ hbk
   omega
  by_cases h : i / 64 = k / 64
  ·rw [if_pos h, Nat.testBit_or, Nat.mod_eq_of_lt hlt]
   have ih' := ih (by omega)
   unfold tb at ih'
   rw [h] at ih'
   rw [ih']
   by_cases h2 : i = k
   ·subst h2
    have h3 : bs.getD i 0 = 0 ∨ bs.getD i 0 = 1 := by omega
    rcases h3 with h3 | h3
    ·rw [h3]; simp
    ·rw [h3, Nat.one_mul, Nat.testBit_two_pow_self]; simp
   ·have h4 : (bs.getD k 0 * 2 ^ (k % 64)).testBit (i % 64) = false := by
     have h3 : bs.getD k 0 = 0 ∨ bs.getD k 0 = 1 := by omega
     rcases h3 with h3 | h3
     ·rw [h3]; simp
     ·rw [h3, Nat.one_mul]; exact Nat.testBit_two_pow_of_ne (by omega)
    rw [h4, Bool.or_false]
    by_cases h5 : i < k
    ·simp [h5, show i < k + 1 by omega]
    ·simp [h5, show ¬ i < k + 1 by omega]
  ·rw [if_neg h, ih (by omega)]
   by_cases h5 : i < k
   ·simp [h5, show i < k + 1 by omega]
   ·simp [h5, show ¬ i < k + 1 by omega]
theorem tb_pack (bs : List Nat) (hb : ∀ x ∈ bs, x ≤ 1) (i : Nat) : tb (pack bs) i = decide (bs.getD i 0 = 1) := by
 rw [pack, tb_packTo bs hb _ _ (Nat.le_refl _)]
 by_cases h : i < bs.length
 ·simp [h]
 ·simp [h, List.getD]
theorem pack_len (bs : List Nat) : (pack bs).length = (bs.length + 63) / 64 := packTo_len bs _
theorem pack_lt (bs : List Nat) : ∀ x ∈ pack bs, x < 18446744073709551616 := packTo_lt bs _
theorem tb_ext {xs ys : List Nat} (hl : xs.length = ys.length) (hx : ∀ x ∈ xs, x < 18446744073709551616) (hy : ∀ x ∈ ys, x < 18446744073709551616)
  (h : ∀ i, i < 64 * xs.length → tb xs i = tb ys i) : xs = ys := by
 refine List.ext_getElem hl fun k h1 h2 => ?_
 have e1 : xs.getD k 0 = xs[k] := by simp [List.getD, h1]
 have e2 : ys.getD k 0 = ys[k] := by simp [List.getD, h2]
 rw [← e1, ← e2]
 refine Nat.eq_of_testBit_eq fun j => ?_
 by_cases hj : j < 64
 ·have := h (64 * k + j) (by omega)
  unfold tb at this
  rw [show (64 * k + j) / 64 = k by omega, show (64 * k + j) % 64 = j by omega] at this
  exact this
 ·have p : 2 ^ 64 ≤ 2 ^ j := Nat.pow_le_pow_right (by omega) (by omega)
  rw [Nat.testBit_lt_two_pow (Nat.lt_of_lt_of_le (getD_lt hx k) p), Nat.testBit_lt_two_pow (Nat.lt_of_lt_of_le (getD_lt hy k) p)]
theorem eq_pack {ys bs : List Nat} (hb : ∀ x ∈ bs, x ≤ 1) (hl : ys.length = (bs.length + 63) / 64) (hy : ∀ x ∈ ys, x < 18446744073709551616)
  (h : ∀ i, i < 64 * ys.length → tb ys i = decide (bs.getD i 0 = 1)) : ys = pack bs :=
 tb_ext (by rw [hl, pack_len]) hy (pack_lt bs) fun i hi => by rw [h i hi, tb_pack bs hb]
theorem tb_out {W : Int} {xs : List Nat} (h : rightB W xs = true) (i : Nat) (hi : W ≤ (i : Int)) : tb xs i = false := by
 simp only [rightB, Bool.and_eq_true] at h
 by_cases hl : i < 64 * xs.length
 ·exact (clear_iff W xs).1 h.2 i hi hl
 ·unfold tb
  have : xs.getD (i / 64) 0 = 0 := by simp only [List.getD]; rw [List.getElem?_eq_none (by omega)]; rfl
  rw [this]; simp
theorem right_W {W : Int} {xs : List Nat} (h : rightB W xs = true) : 1 ≤ W ∧ W ≤ 4096 ∧ (xs.length : Int) = (W + 63) / 64 := by
 simp [rightB, wOk] at h
 omega
theorem pack_right (bs : List Nat) (hb : ∀ x ∈ bs, x ≤ 1) (h1 : 1 ≤ bs.length) (h2 : bs.length ≤ 4096) : rightB bs.length (pack bs) = true := by
 rw [rightB_clear (by simp [wOk]; omega) (by rw [pack_len]; omega), clear_iff]
 intro i hi _
 rw [tb_pack bs hb]
 simp [List.getD, List.getElem?_eq_none (show bs.length ≤ i by omega)]

def noR : Int × List Nat × Bool := (0, [], false)
theorem RetB.no {w w' : World} (hb : Below w.heap.size w w') : RetB w noR (.returned (.tuple #[.agg #[.int .i64 0, .slice none 0 0], .bool false])) w' :=
 ⟨none, 0, rfl, .inl ⟨rfl, rfl⟩, hb⟩
theorem chain {W w1 w2 : World} (h : Below W.heap.size W w1) (k : Below w1.heap.size w1 w2) : Below W.heap.size W w2 := h.trans (k.mono h.size)
def partR (W : Int) (xs : List Nat) (hi lo : Int) : Int × List Nat × Bool :=
 if rightB W xs = true ∧ 0 ≤ lo ∧ lo ≤ hi ∧ hi < W then (hi - lo + 1, pack (((bitsTo xs W.toNat).drop lo.toNat).take (hi - lo + 1).toNat), true) else noR

theorem grown_set {w wr : World} {g : Nat} (h : w.grownBy wr (some g)) (i : Nat) (v : Value) : w.grownBy (wr.setCell ⟨g, i, none⟩ v) (some g) :=
 ⟨h.os, h.tape, h.output, by simpa using h.size, fun k hk hne => by rw [heap_setCell_other _ _ _ _ (fun e => hne (by rw [e]))]; exact h.block k hk hne⟩
theorem zeroBits_any (V : Nat) (w : World) (h1 : 1 ≤ V) (h2 : V ≤ 4096) :
  Calls Try.prog 71 #[.int .i64 V] w fun e w' => ∃ g, e = .returned (.agg #[.int .i64 V, .slice (some ⟨g, 0, none⟩) ((V + 63) / 64) ((V + 63) / 64)]) ∧ w.heap.size ≤ g ∧ Own w' g (List.replicate ((V + 63) / 64) 0) ∧ Below w.heap.size w w' := by
 have hmk := fun kl kc w => run_make_row' (P := Try.prog) 30 82 (.int .u64 0) 8 Try.underlying30 Try.infoU64 rfl kl kc ((V + 63) / 64) (by omega) (by omega) w
 have ec : (((V + 63) / 64 : Nat) : Int) = ((V : Int) + 63) / 64 := by omega
 simp only [ec] at hmk
 clear ec
 go_enter Try.func71, Try.ntmps71
 go_wp2_with (go_at_call 61; refine (wordsFor_any _ (by omega) (by omega) _).mono ?_; rintro e w' ⟨rfl, rfl⟩)
 refine bodyPost_ret (v := .agg #[.int .i64 V, .slice (some ⟨w.heap.size + 1, 0, none⟩) ((V + 63) / 64) ((V + 63) / 64)]) (by simp [results, Try.results71, go_sem]) rfl ⟨_, rfl, by omega, ?_, ((Below.refl _ _).alloc (Nat.le_refl _) _).alloc (by simp) _⟩
 unfold Own
 rw [← u64s_made]
 exact heap_alloc2_new _ _ _
theorem Own.alloc {w : World} {g : Nat} {xs : List Nat} (h : Own w g xs) (o : Obj) : Own (w.alloc o) g xs := h.later ((Below.refl _ _).alloc (Nat.le_refl _) _) h.lt
def clr (V : Nat) (ys : List Nat) : List Nat := ys.set (ys.length - 1) (ys.getD (ys.length - 1) 0 &&& 18446744073709551615 / 2 ^ (64 * ys.length - V))
theorem clr_len (V : Nat) (ys : List Nat) : (clr V ys).length = ys.length := by simp [clr]
theorem clr_lt (V : Nat) (ys : List Nat) (h : ∀ x ∈ ys, x < 18446744073709551616) : ∀ x ∈ clr V ys, x < 18446744073709551616 := by
 intro x hx
 rcases List.mem_or_eq_of_mem_set hx with h' | h'
 ·exact h x h'
 ·rw [h']; exact Nat.lt_of_le_of_lt Nat.and_le_left (getD_lt h _)
theorem tb_clr (V : Nat) (ys : List Nat) (h0 : 64 * (ys.length - 1) < V) (h1 : V ≤ 64 * ys.length) (hp : 0 < ys.length) (i : Nat) (hi : i < 64 * ys.length) : tb (clr V ys) i = (decide (i < V) && tb ys i) := by
 rw [clr, tb_set _ _ _ _ (by omega)]
 by_cases h : i / 64 = ys.length - 1
 ·rw [if_pos h, Nat.testBit_and, Nat.testBit_div_two_pow, show (18446744073709551615 : Nat) = 2 ^ 64 - 1 by decide, Nat.testBit_two_pow_sub_one]
  unfold tb
  rw [h, Bool.and_comm]
  congr 1
  simp only [decide_eq_decide]
  omega
 ·rw [if_neg h]
  have : i < V := by omega
  simp [this]
theorem andMask (y s : Nat) (hy : y < 18446744073709551616) : bits BinOp.and IntKind.u64 (y : Int) (18446744073709551615 / 2 ^ s) = ((y &&& 18446744073709551615 / 2 ^ s : Nat) : Int) := by
 have e : ((18446744073709551615 : Int) / 2 ^ s) = ((18446744073709551615 / 2 ^ s : Nat) : Int) := by simp
 rw [e, bits_and_u64_nat _ _ hy (Nat.lt_of_le_of_lt (Nat.div_le_self _ _) (by decide))]
theorem clearAbove_any (V g c m : Nat) (ys : List Nat) (w : World) (ho : Own w g ys) (hl : ys.length = m + 1) (hm : m < 64) (hx : ∀ x ∈ ys, x < 18446744073709551616) (h0 : 64 * m < V) (h1 : V ≤ 64 * (m + 1)) :
  Calls Try.prog 72 #[.agg #[.int .i64 V, .slice (some ⟨g, 0, none⟩) (m + 1) c]] w fun e w' => e = .returned (.tuple #[]) ∧ Own w' g (clr V ys) ∧ w.grownBy w' (some g) := by
 have ho' : Own (w.alloc (Obj.cells #[.int IntKind.i64 V, .slice (some ⟨g, 0, none⟩) (m + 1) c] 32)) g ys := ho.later ((Below.refl _ _).alloc (Nat.le_refl _) _) ho.lt
 have hcell := ho.cell (i := m) (by omega)
 have hfr := ho.free m
 have hg := ho.lt
 have hy := getD_lt hx m
 have i0 : (0 : Int) ≤ (m : Int) := by omega
 have i1 : (m : Int) < (m : Int) + 1 := by omega
 generalize hyv : ys.getD m 0 = y at hcell hy
 have HY : Hid (ys.getD m 0 = y) := hyv
 clear hyv
 go_enter Try.func72, Try.ntmps72
 have HO : Hid (Own (w.setCell ⟨g, m, none⟩ (.int .u64 (bits BinOp.and IntKind.u64 (y : Int) (18446744073709551615 / 2 ^ ((m + 1) * 64 - V))))) g (clr V ys)) := by
  have h := ho.put m (y &&& 18446744073709551615 / 2 ^ ((m + 1) * 64 - V))
  rw [← andMask y _ hy] at h
  show Own _ _ _
  rw [clr, hl, show m + 1 - 1 = m by omega, HY.out, Nat.mul_comm 64 (m + 1)]
  exact h
 have HG : Hid (w.grownBy (w.setCell ⟨g, m, none⟩ (.int .u64 (bits BinOp.and IntKind.u64 (y : Int) (18446744073709551615 / 2 ^ ((m + 1) * 64 - V))))) (some g)) := grown_set (World.grownBy.refl _ _) _ _
 clear ho ho' hx
 go_wp2
 go_region
 go_end0
 have hG := HG.out
 refine ⟨rfl, ?_, ⟨hG.os, hG.tape, hG.output, ?_, fun j hj hne => ?_⟩⟩
 ·exact HO.out.alloc _
 ·show _ ≤ (World.alloc _ _).heap.size
  simp
 ·show (World.alloc _ _).heap[j]? = _
  rw [Below.heap_alloc _ _ _ (by simpa using hj)]
  exact hG.block j hj hne

def partWord (xs : List Nat) (f s k : Nat) : Nat := xs.getD (f + k) 0 / 2 ^ s ||| xs.getD (f + k + 1) 0 * 2 ^ (64 - s) % 18446744073709551616
def partTo (xs : List Nat) (f s N k : Nat) : List Nat := (List.range k).map (partWord xs f s) ++ List.replicate (N - k) 0
theorem partTo_len (xs : List Nat) (f s N k : Nat) (h : k ≤ N) : (partTo xs f s N k).length = N := by simp [partTo]; omega
theorem partTo_set (xs : List Nat) (f s N k : Nat) (h : k < N) : (partTo xs f s N k).set k (partWord xs f s k) = partTo xs f s N (k + 1) := by
 unfold partTo
 rw [List.set_append_right _ _ (by simp)]
 simp only [List.length_map, List.length_range, Nat.sub_self]
 obtain ⟨m, hm⟩ : ∃ m, N - k = m + 1 := ⟨N - k - 1, by omega⟩
 rw [hm, List.replicate_succ, List.set_cons_zero, show N - (k + 1) = m by omega]
 simp [List.range_succ]
theorem partWord_lt (xs : List Nat) (hx : ∀ x ∈ xs, x < 18446744073709551616) (f s k : Nat) : partWord xs f s k < 18446744073709551616 :=
 Nat.or_lt_two_pow (n := 64) (Nat.lt_of_le_of_lt (Nat.div_le_self _ _) (getD_lt hx _)) (Nat.mod_lt _ (by decide))
theorem tb_part (xs : List Nat) (hx : ∀ x ∈ xs, x < 18446744073709551616) (f s N i : Nat) (hs : s < 64) (hi : i < 64 * N) : tb (partTo xs f s N N) i = tb xs (64 * f + s + i) := by
 have hk : i / 64 < N := by omega
 have e : (partTo xs f s N N).getD (i / 64) 0 = partWord xs f s (i / 64) := by
  simp [partTo, List.getD, hk]
 have h1 := getD_lt hx (f + i / 64)
 unfold tb
 rw [e, partWord, Nat.testBit_or, Nat.testBit_div_two_pow, show (18446744073709551616 : Nat) = 2 ^ 64 by decide, Nat.testBit_mod_two_pow, Nat.testBit_mul_two_pow]
 by_cases h : i % 64 + s < 64
 ·rw [show (64 * f + s + i) / 64 = f + i / 64 by omega, show (64 * f + s + i) % 64 = i % 64 + s by omega]
  simp [show ¬ (64 - s ≤ i % 64) by omega]
 ·rw [show (64 * f + s + i) / 64 = f + i / 64 + 1 by omega, show (64 * f + s + i) % 64 = i % 64 - (64 - s) by omega]
  have p : 2 ^ 64 ≤ 2 ^ (i % 64 + s) := Nat.pow_le_pow_right (by omega) (by omega)
  rw [Nat.testBit_lt_two_pow (Nat.lt_of_lt_of_le h1 p)]
  simp [show 64 - s ≤ i % 64 by omega, show i % 64 < 64 by omega]
theorem part_pack (xs : List Nat) (hx : ∀ x ∈ xs, x < 18446744073709551616) (V p q : Nat) (h1 : p ≤ q) (h2 : q < V) (N : Nat) (hN : N = (q - p + 1 + 63) / 64) :
  clr (q - p + 1) (partTo xs (p / 64) (p % 64) N N) = pack (((bitsTo xs V).drop p).take (q - p + 1)) := by
 have hl : (partTo xs (p / 64) (p % 64) N N).length = N := partTo_len _ _ _ _ _ (Nat.le_refl _)
 have hw : ∀ x ∈ partTo xs (p / 64) (p % 64) N N, x < 18446744073709551616 := by
  intro x hm
  simp [partTo] at hm
  obtain ⟨k, _, rfl⟩ := hm
  exact partWord_lt xs hx _ _ _
 refine eq_pack (fun x hm => bitsTo_le xs V x (List.mem_of_mem_drop (List.mem_of_mem_take hm))) ?_ (clr_lt _ _ hw) ?_
 ·rw [clr_len, hl]; simp [bitsTo_len]; omega
 ·intro i hi
  rw [clr_len, hl] at hi
  rw [tb_clr _ _ (by rw [hl]; omega) (by rw [hl]; omega) (by rw [hl]; omega) i (by rw [hl]; exact hi), tb_part xs hx _ _ _ _ (by omega) hi, show 64 * (p / 64) + p % 64 + i = p + i by omega]
  by_cases h : i < q - p + 1
  ·have hv : p + i < V := by omega
   simp [h, List.getD, bitsTo, hv]
  ·have e : (List.take (q - p + 1) (List.drop p (bitsTo xs V))).getD i 0 = 0 := by
    simp only [List.getD]
    rw [List.getElem?_eq_none (by simp [bitsTo_len]; omega)]
    rfl
   rw [e]
   simp [h]
theorem acell (w : World) (x : Obj) {b : Nat} (i : Nat) (h : b < w.heap.size) : (w.alloc x).cell? ⟨b, i, none⟩ = w.cell? ⟨b, i, none⟩ := World.cell?_of_block (w := w) (Below.heap_alloc _ _ _ h)
theorem afree (w : World) (x : Obj) {b : Nat} (i : Nat) (h : b < w.heap.size) : (w.alloc x).frozen? ⟨b, i, none⟩ = w.frozen? ⟨b, i, none⟩ := World.frozen?_of_block (w := w) (Below.heap_alloc _ _ _ h)
theorem gcell {W wr : World} {g : Nat} (h : W.grownBy wr (some g)) {b : Nat} (o : Nat) (hb : b < W.heap.size) (hne : b ≠ g) : wr.cell? ⟨b, o, none⟩ = W.cell? ⟨b, o, none⟩ :=
 World.cell?_of_block (w := W) (h.block b hb (by simpa using hne))
theorem gfree {W wr : World} {g : Nat} (h : W.grownBy wr (some g)) {b : Nat} (o : Nat) (hb : b < W.heap.size) (hne : b ≠ g) : wr.frozen? ⟨b, o, none⟩ = W.frozen? ⟨b, o, none⟩ :=
 World.frozen?_of_block (w := W) (h.block b hb (by simpa using hne))
theorem castDiv (x s : Nat) : ((x : Int) / 2 ^ s) = ((x / 2 ^ s : Nat) : Int) := by simp
theorem grown_drew {w wr : World} {r : Option Nat} (h : w.grownBy wr r) : w.grownBy wr.drew r := ⟨h.os, h.tape, h.output, h.size, h.block⟩
theorem Own.twice {w : World} {g k X1 X2 s t : Nat} {ys : List Nat} (h : Own w g ys) (h1 : X1 < 18446744073709551616) :
  Own ((w.setCell ⟨g, k, none⟩ (.int .u64 ((X1 : Int) / 2 ^ s))).setCell ⟨g, k, none⟩ (.int .u64 (bits BinOp.or IntKind.u64 ((X1 : Int) / 2 ^ s) (IntKind.u64.wrap ((X2 : Int) * 2 ^ t))))) g (ys.set k (X1 / 2 ^ s ||| X2 * 2 ^ t % 18446744073709551616)) := by
 rw [castDiv, orShift _ _ _ (Nat.lt_of_le_of_lt (Nat.div_le_self _ _) h1)]
 have := (h.put k (X1 / 2 ^ s)).put k (X1 / 2 ^ s ||| X2 * 2 ^ t % 18446744073709551616)
 rwa [List.set_set] at this
theorem Own.once {w : World} {g k X1 s : Nat} {ys : List Nat} (h : Own w g ys) : Own (w.setCell ⟨g, k, none⟩ (.int .u64 ((X1 : Int) / 2 ^ s))) g (ys.set k (X1 / 2 ^ s)) := by
 rw [castDiv]; exact h.put k _
set_option maxHeartbeats 1000000 in
set_option maxRecDepth 100000 in
theorem implPart_any (W : Int) (a : Option Addr) (c : Nat) (xs : List Nat) (hi lo : Int) (w : World) (hr : Rd w a xs) (h64 : (Lit.int .i64 hi).wf = true) :
  Calls Try.prog 63 #[.agg #[.int .i64 W, .slice a xs.length c], .int .i64 hi, .int .i64 lo] w (RetB w (partR W xs hi lo)) := by
 have h2 : Below w.heap.size w ((w.alloc (Obj.cells #[.int IntKind.i64 W, .slice a xs.length c] 32)).alloc (Obj.cells #[.int IntKind.i64 0, .slice none 0 0] 32)) := ((Below.refl _ _).alloc (Nat.le_refl _) _).alloc (by simp) _
 have hr' := hr.later h2
 by_cases hc : rightB W xs = true ∧ 0 ≤ lo ∧ lo ≤ hi ∧ hi < W
 ·rw [partR, if_pos hc]
  obtain ⟨hok, h0, h1, h3⟩ := hc
  obtain ⟨hW1, hW2, hWl⟩ := right_W hok
  obtain ⟨V, rfl⟩ := Int.eq_ofNat_of_zero_le (show 0 ≤ W by omega)
  obtain ⟨p, rfl⟩ := Int.eq_ofNat_of_zero_le h0
  obtain ⟨q, rfl⟩ := Int.eq_ofNat_of_zero_le (show 0 ≤ hi by omega)
  have hpq : p ≤ q := by omega
  have hqV : q < V := by omega
  have hxx := hr.2.1
  have hlen : xs.length ≤ 64 := by omega
  have HQ : Hid ((((q - p + 1 : Nat) : Int), clr (q - p + 1) (partTo xs (p / 64) (p % 64) ((q - p + 1 + 63) / 64) ((q - p + 1 + 63) / 64)), true) = ((q : Int) - p + 1, pack (((bitsTo xs (V : Int).toNat).drop (p : Int).toNat).take ((q : Int) - p + 1).toNat), true)) := by
   show _ = _
   rw [part_pack xs hxx V p q hpq hqV _ rfl, show ((q : Int) - p + 1).toNat = q - p + 1 by omega, Int.toNat_natCast, Int.toNat_natCast, show (((q - p + 1 : Nat) : Int)) = (q : Int) - p + 1 by omega]
  generalize ((q : Int) - p + 1, pack (((bitsTo xs (V : Int).toNat).drop (p : Int).toNat).take ((q : Int) - p + 1).toNat), true) = R at HQ ⊢
  have hVl : V ≤ 64 * xs.length := by omega
  have HWl : Hid ((xs.length : Int) = ((V : Int) + 63) / 64) := hWl
  clear hWl
  obtain ⟨-, -, hnil | ⟨b, o, rfl, hcell⟩⟩ := hr
  ·subst hnil; simp at hVl; omega
  have hbw : b < w.heap.size := block_lt_of_cell (hcell 0 (by omega))
  go_enter Try.func63, Try.ntmps63
  go_wp2_with fail
  refine (implOk_any _ _ _ _ _ hr').mono ?_
  rintro e w1 ⟨rfl, hb1⟩
  have HB1 := hb1
  obtain ⟨hcc, hff⟩ := bcell hb1
  have hz : w.heap.size + 1 < w1.heap.size := by have := hb1.size; simp at this; omega
  clear hb1
  go_wp2_with fail
  have eq1 : (q : Int) - (p : Int) + 1 = ((q - p + 1 : Nat) : Int) := by omega
  rw [eq1]
  generalize hn : q - p + 1 = n at *
  refine (zeroBits_any n _ (by omega) (by omega)).mono ?_
  rintro e w2 ⟨g, rfl, hg, hown, hb2⟩
  generalize hN : (n + 63) / 64 = N at *
  have HB2 := chain HB1 hb2
  clear hcc hff
  obtain ⟨hcc, hff⟩ := bcell HB2
  have hz2 : w.heap.size + 1 < w2.heap.size := by have := HB2.size; simp at this; omega
  have HN : Hid ((n + 63) / 64 = N) := hN
  have Hn : Hid (q - p + 1 = n) := hn
  clear hN hn eq1 hb2 HB1
  go_wp2_with fail
  have hg2 := hown.lt
  have k0 : (w2.alloc (Obj.cells #[.int IntKind.i64 n, .slice (some { block := g, off := 0 }) N N] 32)).cell? ⟨w2.heap.size, 0, none⟩ = some (Value.int IntKind.i64 n) := by simp
  have k1 : (w2.alloc (Obj.cells #[.int IntKind.i64 n, .slice (some { block := g, off := 0 }) N N] 32)).cell? ⟨w2.heap.size, 1, none⟩ = some (Value.slice (some { block := g, off := 0 }) N N) := by simp
  have k2 : (w2.alloc (Obj.cells #[.int IntKind.i64 n, .slice (some { block := g, off := 0 }) N N] 32)).cell? ⟨w.heap.size, 1, none⟩ = some (Value.slice (some { block := b, off := o }) xs.length c) := by
   rw [acell _ _ _ (by omega), hcc _ _ (by simp; omega), acell _ _ _ (by simp)]; simp
  have k3 : ∀ i, i < xs.length → (w2.alloc (Obj.cells #[.int IntKind.i64 n, .slice (some { block := g, off := 0 }) N N] 32)).cell? ⟨b, o + i, none⟩ = some (.int .u64 ((xs.getD i 0 : Nat) : Int)) := fun i hi => by
   rw [acell _ _ _ (by omega), hcc _ _ (by simp; omega), acell _ _ _ (by simp; omega), acell _ _ _ hbw]
   exact hcell i hi
  have k4 : (w2.alloc (Obj.cells #[.int IntKind.i64 n, .slice (some { block := g, off := 0 }) N N] 32)).cell? ⟨w.heap.size + 1, 0, none⟩ = some (Value.int IntKind.i64 0) := by
   rw [acell _ _ _ (by omega), hcc _ _ (by simp)]; simp [World.cell?_alloc_at]
  have k5 : (w2.alloc (Obj.cells #[.int IntKind.i64 n, .slice (some { block := g, off := 0 }) N N] 32)).cell? ⟨w.heap.size + 1, 1, none⟩ = some (Value.slice none 0 0) := by
   rw [acell _ _ _ (by omega), hcc _ _ (by simp)]; simp [World.cell?_alloc_at]
  have k6 : ∀ j, (w2.alloc (Obj.cells #[.int IntKind.i64 n, .slice (some { block := g, off := 0 }) N N] 32)).frozen? ⟨w.heap.size + 1, j, none⟩ = false := fun j => by
   rw [afree _ _ _ (by omega), hff _ _ (by simp)]; simp [World.frozen?_alloc_at]
  have hsz3 : (w2.alloc (Obj.cells #[.int IntKind.i64 n, .slice (some { block := g, off := 0 }) N N] 32)).heap.size = w2.heap.size + 1 := by simp
  have hown3 := hown.alloc (Obj.cells #[.int IntKind.i64 n, .slice (some { block := g, off := 0 }) N N] 32)
  have HB3 : Below w2.heap.size w2 (w2.alloc (Obj.cells #[.int IntKind.i64 n, .slice (some { block := g, off := 0 }) N N] 32)) := (Below.refl _ _).alloc (Nat.le_refl _) _
  generalize w2.alloc (Obj.cells #[.int IntKind.i64 n, .slice (some { block := g, off := 0 }) N N] 32) = w3 at *
  clear hcell hcc hff hr' hown
  go_loopw [43] (fun i wr => ∃ k : Nat, k ≤ N ∧ i = .int .i64 k ∧ Own wr g (partTo xs (p / 64) (p % 64) N k) ∧ w3.grownBy wr (some g)) (fun i _ => N - (intOf i).toNat)
  case atStart => exact ⟨0, Nat.zero_le _, rfl, by simpa [partTo] using hown3, World.grownBy.refl _ _⟩
  case round =>
   obtain ⟨k, hk, rfl, hownk, hgr⟩ := hrel
   have b1 := (gcell hgr 1 (b := w2.heap.size) (by omega) (by omega)).trans k1
   have b0 := (gcell hgr 0 (b := w2.heap.size) (by omega) (by omega)).trans k0
   have b2 := (gcell hgr 1 (b := w.heap.size) (by omega) (by omega)).trans k2
   by_cases hlt : k < N
   ·have hfk : p / 64 + k < xs.length := by have := HN.out; have := Hn.out; omega
    have x1 := (gcell hgr _ (b := b) (by omega) (by omega)).trans (k3 (p / 64 + k) hfk)
    have hcg := hownk.cell (i := k) (by rw [partTo_len _ _ _ _ _ hk]; exact hlt)
    have hfg := hownk.free k
    have hX1 := getD_lt hxx (p / 64 + k)
    have HP := partTo_set xs (p / 64) (p % 64) N k hlt
    rw [partWord] at HP
    have hfki : (p : Int) / 64 + (k : Int) < (xs.length : Int) := by omega
    have hki : (k : Int) < (N : Int) := by omega
    have hgb : ¬ b = g := by omega
    have hgb1 : ¬ w2.heap.size = g := by omega
    have hgb2 : ¬ w.heap.size = g := by omega
    generalize (partTo xs (p / 64) (p % 64) N k).getD k 0 = z at hcg
    by_cases hlt2 : p / 64 + k + 1 < xs.length
    ·have x2 := (gcell hgr _ (b := b) (by omega) (by omega)).trans (k3 (p / 64 + k + 1) hlt2)
     have hfki2 : (p : Int) / 64 + (k : Int) + 1 < (xs.length : Int) := by omega
     generalize hv1 : xs.getD (p / 64 + k) 0 = X1 at *
     generalize hv2 : xs.getD (p / 64 + k + 1) 0 = X2 at *
     have HO : Hid _ := hownk.twice (k := k) (X1 := X1) (X2 := X2) (s := p % 64) (t := 64 - p % 64) hX1
     have HPP : Hid _ := HP
     clear hv1 hv2 HP hownk
     go_wp2
     go_region
     go_wp2
     go_region
     go_wp2
     go_roundw
     case rel =>
      have h := HO.out
      rw [HPP.out] at h
      exact ⟨k + 1, by omega, by go_num, h, grown_drew (grown_drew (grown_set (grown_set hgr _ _) _ _))⟩
     case measure => simp [intOf]; omega
    ·have hv2 : xs.getD (p / 64 + k + 1) 0 = 0 := by simp only [List.getD]; rw [List.getElem?_eq_none (by omega)]; rfl
     have hfki2 : ¬ ((p : Int) / 64 + (k : Int) + 1 < (xs.length : Int)) := by omega
     rw [hv2, Nat.zero_mul, Nat.zero_mod, Nat.or_zero] at HP
     generalize hv1 : xs.getD (p / 64 + k) 0 = X1 at *
     have HO : Hid _ := hownk.once (k := k) (X1 := X1) (s := p % 64)
     have HPP : Hid _ := HP
     clear hv1 hv2 HP hownk
     go_wp2
     go_region
     go_wp2
     go_roundw
     case rel =>
      have h := HO.out
      rw [HPP.out] at h
      exact ⟨k + 1, by omega, by go_num, h, grown_drew (grown_set hgr _ _)⟩
     case measure => simp [intOf]; omega
   ·have e : k = N := by omega
    subst e
    go_wp2_with fail
    have hNn := HN.out
    obtain ⟨m, hm⟩ : ∃ m, k = m + 1 := ⟨k - 1, by have := Hn.out; omega⟩
    have hlk : (partTo xs (p / 64) (p % 64) k k).length = m + 1 := by rw [partTo_len _ _ _ _ _ (Nat.le_refl _)]; exact hm
    have hlt64 : ∀ x ∈ partTo xs (p / 64) (p % 64) k k, x < 18446744073709551616 := by
     intro x hmm
     simp [partTo] at hmm
     obtain ⟨k', _, rfl⟩ := hmm
     exact partWord_lt xs hxx _ _ _
    have hcl := clearAbove_any n g k m _ wr hownk hlk (by have := Hn.out; omega) hlt64 (by omega) (by omega)
    rw [← hm] at hcl
    refine hcl.mono ?_
    rintro e w4 ⟨rfl, hown4, hgr4⟩
    have hs4 := hgr4.size
    have hs3 := hgr.size
    have d0 := (gcell hgr4 0 (b := w2.heap.size) (by omega) (by omega)).trans b0
    have d1 := (gcell hgr4 1 (b := w2.heap.size) (by omega) (by omega)).trans b1
    have r0 := (gcell hgr4 0 (b := w.heap.size + 1) (by omega) (by omega)).trans ((gcell hgr 0 (b := w.heap.size + 1) (by omega) (by omega)).trans k4)
    have r1 := (gcell hgr4 1 (b := w.heap.size + 1) (by omega) (by omega)).trans ((gcell hgr 1 (b := w.heap.size + 1) (by omega) (by omega)).trans k5)
    have f0 := (gfree hgr4 0 (b := w.heap.size + 1) (by omega) (by omega)).trans ((gfree hgr 0 (b := w.heap.size + 1) (by omega) (by omega)).trans (k6 0))
    have f1 := (gfree hgr4 1 (b := w.heap.size + 1) (by omega) (by omega)).trans ((gfree hgr 1 (b := w.heap.size + 1) (by omega) (by omega)).trans (k6 1))
    have HB4 : Hid (Below w.heap.size w w4) := (((h2.trans (HB2.mono (by simp; omega))).trans (HB3.mono (by omega))).grown hgr (by omega) (by intro j hj; cases hj; omega)).grown hgr4 (by omega) (by intro j hj; cases hj; omega)
    have HL : Hid ((clr n (partTo xs (p / 64) (p % 64) k k)).length = k) := by show _ = _; rw [clr_len, hlk, hm]
    clear hcl hlt64 hownk hgr hgr4 b0 b1 b2 k0 k1 k2 k3 k4 k5 k6 hown3 HB2 HB3 h2
    generalize clr n (partTo xs (p / 64) (p % 64) k k) = ys at *
    clear hm hlk hNn
    go_wp2
    refine bodyPost_ret (v := .tuple #[.agg #[.int .i64 n, .slice (some ⟨g, 0, none⟩) k k], .bool true]) (by simp [results, Try.results63, go_sem, r0, r1]) rfl ?_
    rw [← HQ.out]
    exact ⟨some ⟨g, 0, none⟩, k, by rw [HL.out], .inr ⟨g, rfl, by omega, (hown4.other (by simp; omega) _).other (by simp; omega) _⟩, (HB4.out.setCell (by simp) _).setCell (by simp) _⟩
 ·rw [partR, if_neg hc]
  have hcase : rightB W xs = false ∨ (rightB W xs = true ∧ lo < 0) ∨ (rightB W xs = true ∧ 0 ≤ lo ∧ hi < lo) ∨ (rightB W xs = true ∧ 0 ≤ lo ∧ lo ≤ hi ∧ W ≤ hi) := by
   cases hb : rightB W xs with
   | false => exact .inl rfl
   | true => simp [hb] at hc ⊢; omega
  clear hc
  rcases hcase with h | ⟨h, h1⟩ | ⟨h, h1, h3⟩ | ⟨h, h1, h3, h4⟩
  all_goals
   go_enter Try.func63, Try.ntmps63
   go_wp2_with fail
   refine (implOk_any _ _ _ _ _ hr').mono ?_
   rintro e w1 ⟨rfl, hb1⟩
   obtain ⟨hcc, hff⟩ := bcell hb1
   have hz : w.heap.size + 1 < w1.heap.size := by have := hb1.size; simp at this; omega
   go_wp2
   exact bodyPost_ret (v := .tuple #[.agg #[.int .i64 0, .slice none 0 0], .bool false]) (by simp [results, Try.results63, go_sem, hcc]) rfl (RetB.no (((h2.trans (hb1.mono (by simp; omega))).setCell (by simp) _).setCell (by simp) _))

theorem l1From_cap (a : Option Addr) (c : Nat) (bs : List Nat) (w : World) (hr : RdB w a bs) (h1 : 1 ≤ bs.length) (h2 : bs.length ≤ 4096) :
  Calls Try.prog 37 #[.slice a bs.length c] w (fun e w' => ∃ a, e = .returned (.tuple #[.agg #[.int .i64 (bs.length : Int), .slice a (pack bs).length (pack bs).length], .bool true]) ∧ Fresh w' w.heap.size a (pack bs) ∧ Below w.heap.size w w') := by
 have hd : ((bs.length + 63) / 64 : Nat) ≤ 64 := by omega
 have hmk := fun kl kc w => run_make_row' (P := Try.prog) 30 82 (.int .u64 0) 8 Try.underlying30 Try.infoU64 rfl kl kc ((bs.length + 63) / 64) (by omega) (by omega) w
 have ec : (((bs.length + 63) / 64 : Nat) : Int) = ((bs.length : Int) + 63) / 64 := by omega
 simp only [ec] at hmk
 clear ec
 go_enter Try.func37, Try.ntmps37
 go_wp2
 clear hmk
 generalize hN : (bs.length + 63) / 64 = N at *
 have HN : Hid ((bs.length + 63) / 64 = N) := hN
 clear hN
 go_loopw [5] (fun i wr => ∃ k : Nat, k ≤ bs.length ∧ i = .int .i64 k ∧ Own wr (w.heap.size + 1) (packTo bs k) ∧
   wr.heap[w.heap.size]? = some (.cells #[.int IntKind.i64 0, .slice none 0 0] 32 (0, 0)) ∧
   wr.heap[w.heap.size + 1 + 1]? = some (.cells #[.int IntKind.i64 bs.length, .slice (some { block := w.heap.size + 1, off := 0 }) N N] 32 (0, 0)) ∧ Below w.heap.size w wr) (fun i _ => bs.length - (intOf i).toNat)
 case atStart =>
  refine ⟨0, Nat.zero_le _, rfl, ?_, ?_, ?_, (((Below.refl _ _).alloc (Nat.le_refl _) _).alloc (by simp) _).alloc (by simp; omega) _⟩
  ·unfold Own
   rw [heap_alloc_old _ _ (by simp), show w.heap.size + 1 = (w.alloc (Obj.cells #[.int IntKind.i64 0, .slice none 0 0] 32)).heap.size by simp, heap_alloc_new, u64s_made, packTo, HN.out]
  ·rw [heap_alloc_old _ _ (by simp; omega), heap_alloc_old _ _ (by simp), heap_alloc_new]
  ·rw [show w.heap.size + 1 + 1 = ((w.alloc (Obj.cells #[.int IntKind.i64 0, .slice none 0 0] 32)).alloc (Obj.cells (madeCells #[.int IntKind.u64 0] N) 82)).heap.size by simp, heap_alloc_new]
 case round =>
  obtain ⟨k, hk, rfl, hown, hres, hbox, hbel⟩ := hrel
  have hplen := packTo_len bs k
  rw [HN.out] at hplen
  have b1 : wr.cell? ⟨w.heap.size + 1 + 1, 1, none⟩ = some (Value.slice (some { block := w.heap.size + 1, off := 0 }) N N) := cell_of_row wr _ 1 _ _ _ hbox
  have b0 : wr.cell? ⟨w.heap.size + 1 + 1, 0, none⟩ = some (Value.int IntKind.i64 bs.length) := cell_of_row wr _ 0 _ _ _ hbox
  by_cases hlt : k < bs.length
  ·obtain ⟨-, hby, h | ⟨b, o, rfl, hc⟩⟩ := hr
   ·subst h; simp at hlt
   have hcell := hc k hlt
   have hb : b < w.heap.size := block_lt_of_cell hcell
   have hcw : wr.cell? ⟨b, o + k, none⟩ = some (.int .u8 ((bs.getD k 0 : Nat) : Int)) := by rw [hbel.cell (by exact hb)]; exact hcell
   have hkN : k / 64 < N := by have := HN.out; omega
   have hkNi : (k : Int) / 64 < (N : Int) := by omega
   have hki : (k : Int) < (bs.length : Int) := by omega
   have hcg := hown.cell (i := k / 64) (by omega)
   have hfg := hown.free (k / 64)
   have hb8 : bs.getD k 0 < 256 := by
    have e : bs.getD k 0 = bs[k] := by simp [List.getD, hlt]
    rw [e]; exact hby _ (List.getElem_mem _)
   generalize hz : (packTo bs k).getD (k / 64) 0 = z at hcg
   generalize hy : bs.getD k 0 = y at *
   clear hc hcell hby
   have hz64 : z < 18446744073709551616 := by
    rw [← hz]
    simp only [List.getD]
    cases hg : (packTo bs k)[k / 64]? with
    | none => simp
    | some v => exact packTo_lt bs k v (List.mem_of_getElem? hg)
   have HO : Hid (Own (wr.setCell ⟨w.heap.size + 1, k / 64, none⟩ (.int .u64 (bits BinOp.or IntKind.u64 (z : Int) (IntKind.u64.wrap ((y : Int) * 2 ^ (k % 64)))))) (w.heap.size + 1) (packTo bs (k + 1))) := by
    have h := hown.put (k / 64) (z ||| y * 2 ^ (k % 64) % 18446744073709551616)
    rw [← orShift z y _ hz64] at h
    show Own _ _ _
    rw [packTo, hz, hy]
    exact h
   clear hz hy hz64
   go_wp2
   go_region
   go_wp2
   go_roundw
   case rel =>
    refine ⟨k + 1, by omega, by go_num, HO.out, ?_, ?_, ?_⟩
    ·show (World.setCell _ _ _).heap[_]? = _
     rw [heap_setCell_other _ _ _ _ (by simp)]; exact hres
    ·show (World.setCell _ _ _).heap[_]? = _
     rw [heap_setCell_other _ _ _ _ (by simp)]; exact hbox
    ·exact (hbel.setCell (by simp) _).drew
   case measure => simp [intOf]; omega
  ·have e : k = bs.length := by omega
   have c0 : wr.cell? ⟨w.heap.size, 0, none⟩ = some (Value.int IntKind.i64 0) := cell_of_row wr _ 0 _ _ _ hres
   have c1 : wr.cell? ⟨w.heap.size, 1, none⟩ = some (Value.slice none 0 0) := cell_of_row wr _ 1 _ _ _ hres
   have f0 : wr.frozen? ⟨w.heap.size, 0, none⟩ = false := frozen_of_row wr _ 0 _ _ hres
   have f1 : wr.frozen? ⟨w.heap.size, 1, none⟩ = false := frozen_of_row wr _ 1 _ _ hres
   have HO : Hid (Own wr (w.heap.size + 1) (pack bs)) := by rw [e] at hown; exact hown
   have HP : Hid ((pack bs).length = N) := by rw [e] at hplen; exact hplen
   clear hown hplen hres hbox e
   go_wp2
   refine bodyPost_ret (v := .tuple #[.agg #[.int .i64 bs.length, .slice (some ⟨w.heap.size + 1, 0, none⟩) N N], .bool true]) (by simp [results, Try.results37, go_sem, c0, c1]) rfl ?_
   refine ⟨some ⟨w.heap.size + 1, 0, none⟩, by rw [HP.out], .inr ⟨_, rfl, Nat.le_succ _, (HO.out.other (by simp) _).other (by simp) _⟩, (hbel.setCell (Nat.le_refl _) _).setCell (Nat.le_refl _) _⟩

theorem Try.infoI64 : (Try.prog.info? 2).map (fun i => (i.zero, i.size, i.bytes)) = some (some (.int .i64 0), 1, 8) := by kernel_rfl
def RdI (w : World) (a : Option Addr) (ks : List Int) : Prop :=
 ks.length ≤ 1048576 ∧ (∀ k ∈ ks, in64 k) ∧ (ks = [] ∨ ∃ b o, a = some ⟨b, o, none⟩ ∧ ∀ i, i < ks.length → w.cell? ⟨b, o + i, none⟩ = some (.int .i64 (ks.getD i 0)))
theorem RdI.later {w w' : World} {a : Option Addr} {ks : List Int} (h : RdI w a ks) (hb : Below w.heap.size w w') : RdI w' a ks := by
 obtain ⟨h1, h2, h3⟩ := h
 refine ⟨h1, h2, ?_⟩
 rcases h3 with h3 | ⟨b, o, rfl, hc⟩
 ·exact .inl h3
 ·refine .inr ⟨b, o, rfl, fun i hi => ?_⟩
  have := hc i hi
  rw [hb.cell (p := ⟨b, o + i, none⟩) (by exact block_lt_of_cell this)]
  exact this
def i64s (ks : List Int) : Array Value := (ks.map fun (k : Int) => Value.int .i64 k).toArray
theorem i64s_get (ks : List Int) (i : Nat) (h : i < ks.length) : (i64s ks)[i]? = some (.int .i64 (ks.getD i 0)) := by simp [i64s, List.getD, h]
theorem i64s_made (n : Nat) : madeCells #[.int .i64 0] n = i64s (List.replicate n 0) := by
 apply Array.toList_inj.1
 rw [toList_madeCells_one]
 simp [i64s]

end Go.Proofs.Ytffcklobignlfaa
