/- Draws of two words. -/
import Derived.Test.YtiaoncdnkemokaaF7
namespace Go.Proofs.Ytiaoncdnkemokaa
set_option linter.unusedVariables false
set_option linter.unusedSimpArgs false
open Go.RowKit

theorem OwU.nil (w : World) (base g : Nat) (hg : g = w.heap.size) (h : base ≤ g) : OwU (w.alloc (.cells #[] 63)) base (.slice (some ⟨g, 0, none⟩) 0 0) [] := by
  subst hg
  exact World.ownsRow_made w #[] 0 h (Nat.zero_le _) (by simp)

/-- 'append(out, list...)' of words at a step of a region that draws its order. -/
theorem step_appUs (w : World) {ops : Array Oper} {o : Oper} {a : Act} {K : Act → World → Prop} {Q : Exit → Act → World → Prop} {E : Prop} (hgd : o.guard = none) (s x : Operand)
    (ho : o.op = .call { callee := .builtin .append, args := #[s, x], argTypes := #[24, 24] })
    (base : Nat) (v : Value) (bs ys : List Nat) (hs : a.eval s = v) (hown : OwU w base v bs) (b ob c : Nat) (hx : a.eval x = .slice (some ⟨b, ob, none⟩) ys.length c)
    (hc : ∀ i, i < ys.length → w.cell? ⟨b, ob + i, none⟩ = some (.int .u64 ((ys.getD i 0 : Nat) : Int))) (hl : bs.length + ys.length ≤ 4194304) (hbase : base ≤ w.heap.size)
    (h : ∀ v' w', OwU w' base v' (bs ++ ys) → w.grownBy w' v.ownBlock → K (a.put o.dst v') w') :
    if Region.wanted o (yielded ops a.tmps) = true then Oper.wp Try.prog o a w K Q else E := by
  have hw : Region.wanted o (yielded ops a.tmps) = true := by simp [Region.wanted, hgd]
  rw [if_pos hw]
  obtain ⟨i0, hi, hz0, hz1, hz2⟩ := info_parts Try.infoU64
  refine wp_append_own w s x 24 ho base 63 i0 (.int .u64 0) 1 8 Try.underlying24 hi hz0 hz1 hz2 rfl (by decide) v bs.length (u64s bs).toList hs hown ⟨b, ob, none⟩ ys.length c (u64s ys).toList hx (by simp [u64s]) ?_ ?_ ?_ ?_ hbase ?_
  · intro j u hj
    have hj' : j < ys.length := by
      have := (List.getElem?_eq_some_iff.1 hj).1
      simpa [u64s] using this
    rw [Addr.add_lit, hc j hj']
    simp [u64s, hj'] at hj
    rw [← hj]
    simp [List.getD, hj']
  · intro u hu
    simp [u64s] at hu
    obtain ⟨_, _, rfl⟩ := hu
    rfl
  · unfold maxLen; omega
  · omega
  · intro v' w' h1 h2 _
    refine h v' w' ?_ h2
    unfold OwU
    simpa [u64s] using h1

theorem drew_cell (w : World) (a : Addr) : w.drew.cell? a = w.cell? a := rfl
theorem OwU.drew {w : World} {base : Nat} {v : Value} {xs : List Nat} (h : OwU w base v xs) : OwU w.drew base v xs := h
theorem le_drewA (w : World) (o : Obj) : w.heap.size ≤ (w.alloc o).drew.heap.size := by
  show w.heap.size ≤ (w.alloc o).heap.size
  simp
theorem app_below {w4 w5 : World} {o : Obj} {g : Nat} (h : (w4.alloc o).drew.grownBy w5 (some g)) (hg : w4.heap.size ≤ g) : Below w4.heap.size w4 w5 :=
  (Ba (Below.refl _ _) o).trans ((undrew (Below.grown (Below.refl w4.heap.size (w4.alloc o).drew) h (le_drewA w4 o) (fun k e => by cases e; exact hg))))

set_option maxHeartbeats 8000000 in
set_option maxRecDepth 100000 in
theorem drawCmp_any (a : Option Addr) (c : Nat) (bs : List Nat) (w : World) (h : RdB w a bs) :
    Calls Try.prog 37 #[.slice a bs.length c] w fun e w' => ∃ a' c' W xs b' d' V ys, e = .returned (.tuple #[.agg #[.int .i64 W, .slice a' xs.length c'], .agg #[.int .i64 V, .slice b' ys.length d']]) ∧ -9223372036854775808 ≤ W ∧ W ≤ 9223372036854775807 ∧ -9223372036854775808 ≤ V ∧ V ≤ 9223372036854775807 ∧ Got w' w.heap.size a' xs ∧ Got w' w.heap.size b' ys ∧ Below w.heap.size w w' := by
  go_enter Try.func37, Try.ntmps37
  go_wp2_with fail
  have hb0 : Below w.heap.size w ((w.alloc (Obj.cells #[Value.int IntKind.i64 0, Value.slice none 0 0] 26)).alloc (Obj.cells #[Value.int IntKind.i64 0, Value.slice none 0 0] 26)) := Ba (Ba (Below.refl _ _) _) _
  have hR00 := (Blk.new w (Value.int IntKind.i64 0) (Value.slice none 0 0) 26).alloc (Obj.cells #[Value.int IntKind.i64 0, Value.slice none 0 0] 26)
  have hR10 := Blk.new1 w (Obj.cells #[Value.int IntKind.i64 0, Value.slice none 0 0] 26) (Value.int IntKind.i64 0) (Value.slice none 0 0) 26
  refine (open_any a c bs _ (h.later hb0)).mono ?_
  rintro e w1 ⟨β, rfl, hβ, hr1, hb1⟩
  have hR01 := hR00.next hb1
  have hR11 := hR10.next hb1
  have hB1 := hb0.trans (hb1.mono (by simp; omega))
  have hβ' : w.heap.size + 1 < β := by simp at hβ; omega
  clear hb0 hR00 hR10 hb1 hβ
  go_wp2_with fail
  refine (odd_any β a c bs _ hr1).mono ?_
  rintro e w2 ⟨a2, c2, W, xs, rfl, hx1, hW1, hW2, hg, hr2, hd2⟩
  have hβ1 := hr1.lt
  have hR02 := hR01.far hd2 (by omega)
  have hR12 := hR11.far hd2 (by omega)
  have hb2 : Below w.heap.size w w2 := hB1.trans (hd2.below (by omega) (by omega))
  have hR1w1 := hR11.lt
  have hw12 := hd2.size
  clear hd2 hR01 hR11 hB1 hr1
  go_wp2_with fail
  have hA3 := Blk.new w2 (Value.int IntKind.i64 W) (Value.slice a2 xs.length c2) 26
  have hR03 := hR02.alloc (Obj.cells #[Value.int IntKind.i64 W, Value.slice a2 xs.length c2] 26)
  have hR13 := hR12.alloc (Obj.cells #[Value.int IntKind.i64 W, Value.slice a2 xs.length c2] 26)
  have hr3 := hr2.later (Ba (Below.refl _ _) (Obj.cells #[Value.int IntKind.i64 W, Value.slice a2 xs.length c2] 26))
  have hg3 := hg.later (Ba (Below.refl _ _) (Obj.cells #[Value.int IntKind.i64 W, Value.slice a2 xs.length c2] 26))
  have hb3 := Ba hb2 (Obj.cells #[Value.int IntKind.i64 W, Value.slice a2 xs.length c2] 26)
  have hβA : β < w2.heap.size := hr2.lt
  have hRA : w.heap.size + 1 < w2.heap.size := hR12.lt
  clear hr2 hR02 hR12 hg hb2
  generalize w2.alloc (Obj.cells #[Value.int IntKind.i64 W, Value.slice a2 xs.length c2] 26) = w3 at *
  generalize w2.heap.size = A at *
  generalize w1.heap.size = L at *
  have hx := hg3.1.2.1
  have hxl := hg3.1.1
  refine (once_any 3 (by omega) (by omega) β a c bs _ hr3).mono ?_
  rintro e w4 ⟨t, rfl, hr4, hd4⟩
  have hA4 := hA3.far hd4 (by omega)
  have hR04 := hR03.far hd4 (by omega)
  have hR14 := hR13.far hd4 (by omega)
  have hg4 := hg3.far hd4 (by omega)
  have hb4 : Below w.heap.size w w4 := hb3.trans (hd4.below (by omega) (by have := hR03.lt; omega))
  have lA4 := hA4.lt
  have lR4 := hR14.lt
  obtain ⟨a40, a41⟩ := hA4.cells
  clear hr3 hA3 hR03 hR13 hg3 hb3 hd4
  cases t with
  | true =>
    obtain ⟨bx, ox, rfl, hcx⟩ := hg4.1.2.2.resolve_left (fun h => by rw [h] at hx1; simp at hx1)
    have hcE : ∀ i, i < xs.length → (w4.alloc (Obj.cells #[] 63)).drew.cell? ⟨bx, ox + i, none⟩ = some (.int .u64 ((xs.getD i 0 : Nat) : Int)) := fun i hi => by
      have h := hcx i hi
      rw [drew_cell, acell _ _ _ (block_lt_of_cell h)]; exact h
    have HCE : Hid _ := hcE
    have hoE := (OwU.nil w4 w4.heap.size w4.heap.size rfl (Nat.le_refl _)).drew
    clear hcE hcx
    go_wp2_with fail
    go_region_held_law (fun u => u.cell? ⟨A, 0, none⟩ = some (Value.int IntKind.i64 W) ∧ u.cell? ⟨A, 1, none⟩ = some (Value.slice (some { block := bx, off := ox }) xs.length c2))
      (first | (refine ⟨?_, ?_⟩ <;> assumption) | (refine ⟨?_, ?_⟩ <;> (rw [World.cell?_setCell_far _ _ _ _ (by simp <;> omega), World.cell?_setCell_far _ _ _ _ (by simp <;> omega), World.cell?_setCell_far _ _ _ _ (by simp <;> omega), World.cell?_setCell_far _ _ _ _ (by simp <;> omega)]; assumption)) | (refine ⟨?_, ?_⟩ <;> (rw [World.cell?_setCell_far _ _ _ _ (by simp <;> omega), World.cell?_setCell_far _ _ _ _ (by simp <;> omega)]; assumption)) | exact ⟨a40, a41⟩ | exact ⟨a50, a51⟩ | exact ⟨(drew_cell _ _).trans ((acell _ _ _ lA4).trans a40), (drew_cell _ _).trans ((acell _ _ _ lA4).trans a41)⟩)
      (first
        | (refine step_appUs _ rfl _ _ rfl w4.heap.size _ [] xs rfl hoE bx ox c2 rfl HCE.out (by simp; omega) (le_drewA w4 _) ?_; intro v5 w5 how5 hgr5; have hb5 : Below w4.heap.size w4 w5 := app_below (g := w4.heap.size) hgr5 (Nat.le_refl _); rw [List.nil_append] at how5; obtain ⟨a5, c5, rfl, hg5, -⟩ := how5.shape hxl hx; have hA5 := hA4.next hb5; have hR05 := hR04.next hb5; have hR15 := hR14.next hb5; have hgx5 := hg4.later hb5; have hb5w := chain hb4 hb5; obtain ⟨a50, a51⟩ := hA5.cells; obtain ⟨r50, r51⟩ := hR05.cells; obtain ⟨s50, s51⟩ := hR15.cells; have f50 := frozen_of_row w5 _ 0 _ _ hR05; have f51 := frozen_of_row w5 _ 1 _ _ hR05; have g50 := frozen_of_row w5 _ 0 _ _ hR15; have g51 := frozen_of_row w5 _ 1 _ _ hR15; have lA5 := hA5.lt; have lR5 := hR15.lt))
    go_wp2
    have gw0 : Dw w.heap.size w5 ((w5.setCell ⟨w.heap.size, 0, none⟩ (.int .i64 W)).setCell ⟨w.heap.size, 1, none⟩ (.slice (some ⟨bx, ox, none⟩) xs.length c2)) := (gsc _ ⟨w.heap.size, 0, none⟩ _).trans (gsc _ ⟨w.heap.size, 1, none⟩ _)
    have gw1 : Dw (w.heap.size + 1) ((w5.setCell ⟨w.heap.size, 0, none⟩ (.int .i64 W)).setCell ⟨w.heap.size, 1, none⟩ (.slice (some ⟨bx, ox, none⟩) xs.length c2)) ((((w5.setCell ⟨w.heap.size, 0, none⟩ (.int .i64 W)).setCell ⟨w.heap.size, 1, none⟩ (.slice (some ⟨bx, ox, none⟩) xs.length c2)).setCell ⟨w.heap.size + 1, 0, none⟩ (.int .i64 W)).setCell ⟨w.heap.size + 1, 1, none⟩ (.slice a5 xs.length c5)) := (gsc _ ⟨w.heap.size + 1, 0, none⟩ _).trans (gsc _ ⟨w.heap.size + 1, 1, none⟩ _)
    obtain ⟨p0, p1⟩ := (((hR05.put0 (.int .i64 W)).put1 (.slice (some ⟨bx, ox, none⟩) xs.length c2)).far gw1 (by omega)).cells
    obtain ⟨q0, q1⟩ := (((hR15.far gw0 (by omega)).put0 (.int .i64 W)).put1 (.slice a5 xs.length c5)).cells
    exact bodyPost_ret (v := .tuple #[.agg #[.int .i64 W, (.slice (some ⟨bx, ox, none⟩) xs.length c2)], .agg #[.int .i64 W, (.slice a5 xs.length c5)]]) (by simp [results, Try.results37, go_sem, p0, p1, q0, q1]) rfl ⟨_, _, W, xs, _, _, W, xs, rfl, hW1, hW2, hW1, hW2, ((hgx5.far gw0 (by omega)).far gw1 (by omega)).mono (by omega), ((hg5.far gw0 (by omega)).far gw1 (by omega)).mono (by omega), (((hb5w.setCell (Nat.le_refl _) _).setCell (Nat.le_refl _) _).setCell (by simp) _).setCell (by simp) _⟩
  | false =>
    go_wp2_with fail
    refine (once_any 4 (by omega) (by omega) β a c bs _ hr4).mono ?_
    rintro e w5 ⟨t, rfl, hr5, hd5⟩
    have hA5 := hA4.far hd5 (by omega)
    have hR05 := hR04.far hd5 (by omega)
    have hR15 := hR14.far hd5 (by omega)
    have hg5 := hg4.far hd5 (by omega)
    obtain ⟨a50, a51⟩ := hA5.cells
    have lA5 := hA5.lt
    have lR5 := hR15.lt
    have hb5w : Below w.heap.size w w5 := hb4.trans (hd5.below (by omega) (by omega))
    clear hr4 hA4 hR04 hR14 hg4 hb4 hd5 a40 a41 lA4 lR4
    cases t with
    | true =>
      go_wp2_with fail
      go_region_held3 (fun u => u.cell? ⟨A, 0, none⟩ = some (Value.int IntKind.i64 W) ∧ u.cell? ⟨A, 1, none⟩ = some (Value.slice a2 xs.length c2)) (first | (refine ⟨?_, ?_⟩ <;> assumption) | (refine ⟨?_, ?_⟩ <;> (rw [World.cell?_setCell_far _ _ _ _ (by simp <;> omega), World.cell?_setCell_far _ _ _ _ (by simp <;> omega), World.cell?_setCell_far _ _ _ _ (by simp <;> omega), World.cell?_setCell_far _ _ _ _ (by simp <;> omega)]; assumption)) | (refine ⟨?_, ?_⟩ <;> (rw [World.cell?_setCell_far _ _ _ _ (by simp <;> omega), World.cell?_setCell_far _ _ _ _ (by simp <;> omega)]; assumption)) | exact ⟨a50, a51⟩ | exact ⟨a60, a61⟩)
        ((go_at_call 71; refine (odd_any β a c bs _ ?_).mono ?_; exact hr5; rintro e w6 ⟨b6, d6, V, ys, rfl, hy1, hV1, hV2, hgy, hr6, hd6⟩; replace hd6 := hd6.undrew; replace hgy : Got w6 w5.heap.size b6 ys := hgy; have hA6 := hA5.far hd6 (by omega); have hR06 := hR05.far hd6 (by omega); have hR16 := hR15.far hd6 (by omega); have hg6 := hg5.far hd6 (by omega); obtain ⟨a60, a61⟩ := hA6.cells; have lA6 := hA6.lt; have lR6 := hR16.lt; obtain ⟨r60, r61⟩ := hR06.cells; obtain ⟨s60, s61⟩ := hR16.cells; have f60 := frozen_of_row w6 _ 0 _ _ hR06; have f61 := frozen_of_row w6 _ 1 _ _ hR06; have g60 := frozen_of_row w6 _ 0 _ _ hR16; have g61 := frozen_of_row w6 _ 1 _ _ hR16))
      have hb6w : Below w.heap.size w w6 := hb5w.trans (hd6.below (by omega) (by omega))
      go_wp2
      have gw0 : Dw w.heap.size w6 ((w6.setCell ⟨w.heap.size, 0, none⟩ (.int .i64 W)).setCell ⟨w.heap.size, 1, none⟩ (.slice a2 xs.length c2)) := (gsc _ ⟨w.heap.size, 0, none⟩ _).trans (gsc _ ⟨w.heap.size, 1, none⟩ _)
      have gw1 : Dw (w.heap.size + 1) ((w6.setCell ⟨w.heap.size, 0, none⟩ (.int .i64 W)).setCell ⟨w.heap.size, 1, none⟩ (.slice a2 xs.length c2)) ((((w6.setCell ⟨w.heap.size, 0, none⟩ (.int .i64 W)).setCell ⟨w.heap.size, 1, none⟩ (.slice a2 xs.length c2)).setCell ⟨w.heap.size + 1, 0, none⟩ (.int .i64 V)).setCell ⟨w.heap.size + 1, 1, none⟩ (.slice b6 ys.length d6)) := (gsc _ ⟨w.heap.size + 1, 0, none⟩ _).trans (gsc _ ⟨w.heap.size + 1, 1, none⟩ _)
      obtain ⟨p0, p1⟩ := (((hR06.put0 (.int .i64 W)).put1 (.slice a2 xs.length c2)).far gw1 (by omega)).cells
      obtain ⟨q0, q1⟩ := (((hR16.far gw0 (by omega)).put0 (.int .i64 V)).put1 (.slice b6 ys.length d6)).cells
      exact bodyPost_ret (v := .tuple #[.agg #[.int .i64 W, (.slice a2 xs.length c2)], .agg #[.int .i64 V, (.slice b6 ys.length d6)]]) (by simp [results, Try.results37, go_sem, p0, p1, q0, q1]) rfl ⟨_, _, W, xs, _, _, V, ys, rfl, hW1, hW2, hV1, hV2, ((hg6.far gw0 (by omega)).far gw1 (by omega)).mono (by omega), ((hgy.far gw0 (by omega)).far gw1 (by omega)).mono (by omega), (((hb6w.setCell (Nat.le_refl _) _).setCell (Nat.le_refl _) _).setCell (by simp) _).setCell (by simp) _⟩
    | false =>
      go_wp2_with fail
      refine (specOk_any _ _ _ _ _ hg5.1).mono ?_
      rintro e w6 ⟨rfl, hb6⟩
      have hA6 := hA5.next hb6
      have hR06 := hR05.next hb6
      have hR16 := hR15.next hb6
      have hg6 := hg5.later hb6
      have hr6 := hr5.later hb6
      obtain ⟨a60, a61⟩ := hA6.cells
      have lA6 := hA6.lt
      have lR6 := hR16.lt
      have hb6w := chain hb5w hb6
      clear hr5 hA5 hR05 hR15 hg5 hb5w hb6 a50 a51 lA5 lR5
      cases hok : rightB W xs with
      | false =>
        go_wp2_with fail
        go_region_held3 (fun u => u.cell? ⟨A, 0, none⟩ = some (Value.int IntKind.i64 W) ∧ u.cell? ⟨A, 1, none⟩ = some (Value.slice a2 xs.length c2)) (first | (refine ⟨?_, ?_⟩ <;> assumption) | (refine ⟨?_, ?_⟩ <;> (rw [World.cell?_setCell_far _ _ _ _ (by simp <;> omega), World.cell?_setCell_far _ _ _ _ (by simp <;> omega), World.cell?_setCell_far _ _ _ _ (by simp <;> omega), World.cell?_setCell_far _ _ _ _ (by simp <;> omega)]; assumption)) | (refine ⟨?_, ?_⟩ <;> (rw [World.cell?_setCell_far _ _ _ _ (by simp <;> omega), World.cell?_setCell_far _ _ _ _ (by simp <;> omega)]; assumption)) | exact ⟨a50, a51⟩ | exact ⟨a60, a61⟩)
          ((go_at_call 71; refine (odd_any β a c bs _ ?_).mono ?_; exact hr6; rintro e w7 ⟨b7, d7, V, ys, rfl, hy1, hV1, hV2, hgy, hr7, hd7⟩; replace hd7 := hd7.undrew; replace hgy : Got w7 w6.heap.size b7 ys := hgy; have hA7 := hA6.far hd7 (by omega); have hR07 := hR06.far hd7 (by omega); have hR17 := hR16.far hd7 (by omega); have hg7 := hg6.far hd7 (by omega); obtain ⟨a70, a71⟩ := hA7.cells; have lA7 := hA7.lt; have lR7 := hR17.lt; obtain ⟨r70, r71⟩ := hR07.cells; obtain ⟨s70, s71⟩ := hR17.cells; have f70 := frozen_of_row w7 _ 0 _ _ hR07; have f71 := frozen_of_row w7 _ 1 _ _ hR07; have g70 := frozen_of_row w7 _ 0 _ _ hR17; have g71 := frozen_of_row w7 _ 1 _ _ hR17))
        have hb7w : Below w.heap.size w w7 := hb6w.trans (hd7.below (by omega) (by omega))
        go_wp2
        have gw0 : Dw w.heap.size w7 ((w7.setCell ⟨w.heap.size, 0, none⟩ (.int .i64 W)).setCell ⟨w.heap.size, 1, none⟩ (.slice a2 xs.length c2)) := (gsc _ ⟨w.heap.size, 0, none⟩ _).trans (gsc _ ⟨w.heap.size, 1, none⟩ _)
        have gw1 : Dw (w.heap.size + 1) ((w7.setCell ⟨w.heap.size, 0, none⟩ (.int .i64 W)).setCell ⟨w.heap.size, 1, none⟩ (.slice a2 xs.length c2)) ((((w7.setCell ⟨w.heap.size, 0, none⟩ (.int .i64 W)).setCell ⟨w.heap.size, 1, none⟩ (.slice a2 xs.length c2)).setCell ⟨w.heap.size + 1, 0, none⟩ (.int .i64 V)).setCell ⟨w.heap.size + 1, 1, none⟩ (.slice b7 ys.length d7)) := (gsc _ ⟨w.heap.size + 1, 0, none⟩ _).trans (gsc _ ⟨w.heap.size + 1, 1, none⟩ _)
        obtain ⟨p0, p1⟩ := (((hR07.put0 (.int .i64 W)).put1 (.slice a2 xs.length c2)).far gw1 (by omega)).cells
        obtain ⟨q0, q1⟩ := (((hR17.far gw0 (by omega)).put0 (.int .i64 V)).put1 (.slice b7 ys.length d7)).cells
        exact bodyPost_ret (v := .tuple #[.agg #[.int .i64 W, (.slice a2 xs.length c2)], .agg #[.int .i64 V, (.slice b7 ys.length d7)]]) (by simp [results, Try.results37, go_sem, p0, p1, q0, q1]) rfl ⟨_, _, W, xs, _, _, V, ys, rfl, hW1, hW2, hV1, hV2, ((hg7.far gw0 (by omega)).far gw1 (by omega)).mono (by omega), ((hgy.far gw0 (by omega)).far gw1 (by omega)).mono (by omega), (((hb7w.setCell (Nat.le_refl _) _).setCell (Nat.le_refl _) _).setCell (by simp) _).setCell (by simp) _⟩
      | true =>
        obtain ⟨hV1, hV2, hVl⟩ := right_W hok
        obtain ⟨V, rfl⟩ := Int.eq_ofNat_of_zero_le (show 0 ≤ W by omega)
        go_wp2_with fail
        go_region_held3 (fun u => u.cell? ⟨A, 0, none⟩ = some (Value.int IntKind.i64 V) ∧ u.cell? ⟨A, 1, none⟩ = some (Value.slice a2 xs.length c2)) (first | (refine ⟨?_, ?_⟩ <;> assumption) | (refine ⟨?_, ?_⟩ <;> (rw [World.cell?_setCell_far _ _ _ _ (by simp <;> omega), World.cell?_setCell_far _ _ _ _ (by simp <;> omega), World.cell?_setCell_far _ _ _ _ (by simp <;> omega), World.cell?_setCell_far _ _ _ _ (by simp <;> omega)]; assumption)) | (refine ⟨?_, ?_⟩ <;> (rw [World.cell?_setCell_far _ _ _ _ (by simp <;> omega), World.cell?_setCell_far _ _ _ _ (by simp <;> omega)]; assumption)) | exact ⟨a50, a51⟩ | exact ⟨a60, a61⟩)
          ((go_at_call 64; refine (bits_any V (by omega) (by omega) β a c bs _ ?_).mono ?_; exact hr6; rintro e w7 ⟨b7, l, hll, hl1, rfl, hfr, hr7, hd7⟩; replace hd7 := hd7.undrew; have hpl := pack_len l; have hplt := pack_lt l; generalize pack l = ys at *; have hgy : Got w7 w6.heap.size b7 ys := Fresh.got hfr (by omega) hplt; clear hpl hll hl1; have hA7 := hA6.far hd7 (by omega); have hR07 := hR06.far hd7 (by omega); have hR17 := hR16.far hd7 (by omega); have hg7 := hg6.far hd7 (by omega); obtain ⟨a70, a71⟩ := hA7.cells; have lA7 := hA7.lt; have lR7 := hR17.lt; obtain ⟨r70, r71⟩ := hR07.cells; obtain ⟨s70, s71⟩ := hR17.cells; have f70 := frozen_of_row w7 _ 0 _ _ hR07; have f71 := frozen_of_row w7 _ 1 _ _ hR07; have g70 := frozen_of_row w7 _ 0 _ _ hR17; have g71 := frozen_of_row w7 _ 1 _ _ hR17))
        have hb7w : Below w.heap.size w w7 := hb6w.trans (hd7.below (by omega) (by omega))
        go_wp2
        have gw0 : Dw w.heap.size w7 ((w7.setCell ⟨w.heap.size, 0, none⟩ (.int .i64 (V : Int))).setCell ⟨w.heap.size, 1, none⟩ (.slice a2 xs.length c2)) := (gsc _ ⟨w.heap.size, 0, none⟩ _).trans (gsc _ ⟨w.heap.size, 1, none⟩ _)
        have gw1 : Dw (w.heap.size + 1) ((w7.setCell ⟨w.heap.size, 0, none⟩ (.int .i64 (V : Int))).setCell ⟨w.heap.size, 1, none⟩ (.slice a2 xs.length c2)) ((((w7.setCell ⟨w.heap.size, 0, none⟩ (.int .i64 (V : Int))).setCell ⟨w.heap.size, 1, none⟩ (.slice a2 xs.length c2)).setCell ⟨w.heap.size + 1, 0, none⟩ (.int .i64 (V : Int))).setCell ⟨w.heap.size + 1, 1, none⟩ (.slice b7 ys.length ys.length)) := (gsc _ ⟨w.heap.size + 1, 0, none⟩ _).trans (gsc _ ⟨w.heap.size + 1, 1, none⟩ _)
        obtain ⟨p0, p1⟩ := (((hR07.put0 (.int .i64 (V : Int))).put1 (.slice a2 xs.length c2)).far gw1 (by omega)).cells
        obtain ⟨q0, q1⟩ := (((hR17.far gw0 (by omega)).put0 (.int .i64 (V : Int))).put1 (.slice b7 ys.length ys.length)).cells
        exact bodyPost_ret (v := .tuple #[.agg #[.int .i64 (V : Int), (.slice a2 xs.length c2)], .agg #[.int .i64 (V : Int), (.slice b7 ys.length ys.length)]]) (by simp [results, Try.results37, go_sem, p0, p1, q0, q1]) rfl ⟨_, _, (V : Int), xs, _, _, (V : Int), ys, rfl, hW1, hW2, hW1, hW2, ((hg7.far gw0 (by omega)).far gw1 (by omega)).mono (by omega), ((hgy.far gw0 (by omega)).far gw1 (by omega)).mono (by omega), (((hb7w.setCell (Nat.le_refl _) _).setCell (Nat.le_refl _) _).setCell (by simp) _).setCell (by simp) _⟩

end Go.Proofs.Ytiaoncdnkemokaa
