/- Contracts of the program's stack of open lists: its size, its top, what is put on it and taken off. -/
import Derived.Test.YteainbakfeedpaaTE
import Derived.Deep.RegionHeldLaw
import Derived.Deep.RegionLaw
import Derived.Laws.OwnMore
namespace Go.Proofs.Yteainbakfeedpaa
set_option linter.unusedVariables false
set_option linter.unusedSimpArgs false
open Go.RowKit

/-- An open list: where its kids lie, its kids, how many of them have stood. -/
structure Ol where
  a : Option Addr
  c : Nat
  ks : List Int
  m : Nat

def Ol.ct (o : Ol) : List Int × Nat := (o.ks, o.m)
def Ol.cells (o : Ol) : List Value := [.slice o.a o.ks.length o.c, .int .i64 (o.m : Int)]

/-- The cells of a stack, its top the last ones. -/
def oc : List Ol → List Value
  | [] => []
  | x :: st => oc st ++ x.cells

theorem oc_len (st : List Ol) : (oc st).length = st.length * 2 := by
  induction st with
  | nil => rfl
  | cons x st ih => simp [oc, Ol.cells, ih]; omega

/-- The stack at block P holds st, the top first; its rows lie from block B on. -/
def Stk (w : World) (B P : Nat) (st : List Ol) : Prop :=
  P < B ∧ B ≤ w.heap.size ∧ st.length ≤ 1000 ∧ ∃ v, w.heap[P]? = some (.cells #[v] 77 (0, 0)) ∧ w.ownsRow B 82 2 v st.length (oc st)

theorem owns_shape {w : World} {B e size n : Nat} {v : Value} {xs : List Value} (h : w.ownsRow B e size v n xs) : ∃ ao cap, v = .slice ao n cap ∧ n ≤ cap ∧ cap ≤ maxLen := by
  rcases h.2 with ⟨rfl, rfl⟩ | ⟨g, cap, cur, rfl, -, -, h1, h2, -⟩
  · exact ⟨none, 0, rfl, Nat.le_refl _, Nat.zero_le _⟩
  · exact ⟨some ⟨g, 0, none⟩, cap, rfl, h1, h2⟩

theorem stSize (w : World) (B P : Nat) (st : List Ol) (h : Stk w B P st) :
    Calls Try.prog 39 #[.pointer (some ⟨P, 0, none⟩)] w fun e w' => e = .returned (.int .i64 (st.length : Int)) ∧ w' = w := by
  obtain ⟨-, -, hl, v, hp, ho⟩ := h
  obtain ⟨ao, cap, rfl, -⟩ := owns_shape ho
  have c0 := cell_of_one hp
  go_enter Try.func39, Try.ntmps39
  go_wp2_with fail
  go_ret
  exact ⟨rfl, rfl⟩

/-- Where the top of a stack lies. -/
def TopAt (w : World) (B P g : Nat) (x : Ol) (st : List Ol) : Prop :=
  ∃ cap cur, w.heap[P]? = some (.cells #[.slice (some ⟨g, 0, none⟩) (st.length + 1) cap] 77 (0, 0)) ∧ B ≤ g ∧ w.heap[g]? = some (.cells cur 82 (0, 0)) ∧ st.length + 1 ≤ cap ∧ cap ≤ maxLen ∧ cur.size = cap * 2 ∧ cur.toList.take ((st.length + 1) * 2) = oc (x :: st)

theorem Stk.top {w : World} {B P : Nat} {x : Ol} {st : List Ol} (h : Stk w B P (x :: st)) : ∃ g, TopAt w B P g x st := by
  obtain ⟨-, -, hl, v, hp, -, ho⟩ := h
  rcases ho with ⟨-, h⟩ | ⟨g, cap, cur, rfl, h1, h2, h3, h4, h5, h6⟩
  · simp at h
  · exact ⟨g, cap, cur, hp, h1, h2, h3, h4, h5, h6⟩

theorem TopAt.cells {w : World} {B P g : Nat} {x : Ol} {st : List Ol} (h : TopAt w B P g x st) : w.cell? ⟨g, st.length * 2, none⟩ = some (.slice x.a x.ks.length x.c) ∧ w.cell? ⟨g, st.length * 2 + 1, none⟩ = some (.int .i64 (x.m : Int)) := by
  obtain ⟨cap, cur, -, -, h2, h3, -, h5, h6⟩ := h
  have key : ∀ j, j < 2 → cur[st.length * 2 + j]? = x.cells[j]? := by
    intro j hj
    have e : (cur.toList.take ((st.length + 1) * 2))[st.length * 2 + j]? = (oc (x :: st))[st.length * 2 + j]? := by rw [h6]
    rw [List.getElem?_take, if_pos (by omega), oc, List.getElem?_append_right (by rw [oc_len]; omega), oc_len, Nat.add_sub_cancel_left] at e
    simpa using e
  have k0 := key 0 (by omega)
  have k1 := key 1 (by omega)
  exact ⟨by rw [cell_of_row w g _ _ _ _ h2]; simpa [Ol.cells] using k0, by rw [cell_of_row w g _ _ _ _ h2]; simpa [Ol.cells] using k1⟩

theorem stTop (w : World) (B P g : Nat) (x : Ol) (st : List Ol) (hl : st.length ≤ 1000) (h : TopAt w B P g x st) :
    Calls Try.prog 63 #[.pointer (some ⟨P, 0, none⟩)] w fun e w' => e = .returned (.pointer (some ⟨g, st.length * 2, none⟩)) ∧ ∃ n, w' = w.drewN n := by
  obtain ⟨cap, cur, hp, -⟩ := h
  have c0 := cell_of_one hp
  have i0 : (st.length : Int) < (st.length : Int) + 1 := by omega
  go_enter Try.func63, Try.ntmps63
  go_wp2_with fail
  go_quiet (fail)
  go_wp2_with fail
  go_ret
  exact ⟨rfl, _, rfl⟩

/-- All but the stack's own blocks is as it was. -/
structure Kept (B P : Nat) (w w' : World) : Prop where
  os : w'.os = w.os
  tape : w'.tape = w.tape
  output : w'.output = w.output
  size : w.heap.size ≤ w'.heap.size
  block : ∀ b, b < w.heap.size → b ≠ P → (b < B ∨ ∀ cs fr, w.heap[b]? ≠ some (.cells cs 82 fr)) → w'.heap[b]? = w.heap[b]?

theorem Kept.refl (B P : Nat) (w : World) : Kept B P w w := ⟨rfl, rfl, rfl, Nat.le_refl _, fun _ _ _ _ => rfl⟩
theorem Kept.trans {B P : Nat} {w w' w'' : World} (h : Kept B P w w') (k : Kept B P w' w'') : Kept B P w w'' := by
  refine ⟨k.os.trans h.os, k.tape.trans h.tape, k.output.trans h.output, Nat.le_trans h.size k.size, fun b hb hP hc => ?_⟩
  have e := h.block b hb hP hc
  rw [k.block b (Nat.lt_of_lt_of_le hb h.size) hP (by rw [e]; exact hc), e]
theorem Kept.below {B P : Nat} {w0 w w' : World} (h : Below w0.heap.size w0 w) (k : Kept B P w w') (hP : w0.heap.size ≤ P) (hB : w0.heap.size ≤ B) : Below w0.heap.size w0 w' :=
  ⟨k.os.trans h.os, k.tape.trans h.tape, k.output.trans h.output, Nat.le_trans h.size k.size, fun b hb => by rw [k.block b (Nat.lt_of_lt_of_le hb h.size) (by omega) (.inl (by omega)), h.block b hb]⟩
theorem Kept.setCell {B P : Nat} {w w' : World} (h : Kept B P w w') (i : Nat) (v : Value) : Kept B P w (w'.setCell ⟨P, i, none⟩ v) :=
  ⟨h.os, h.tape, h.output, by simpa using h.size, fun b hb hP hc => by rw [heap_setCell_other _ _ _ _ (by exact hP)]; exact h.block b hb hP hc⟩

theorem Kept.drew {B P : Nat} {w w' : World} (h : Kept B P w w') : Kept B P w w'.drew := ⟨h.os, h.tape, h.output, h.size, h.block⟩
theorem Stk.drew {w : World} {B P : Nat} {st : List Ol} (h : Stk w B P st) : Stk w.drew B P st := h
theorem Stk.undrew {w : World} {B P : Nat} {st : List Ol} (h : Stk w.drew B P st) : Stk w B P st := h

theorem stPop (w : World) (B P : Nat) (x : Ol) (st : List Ol) (h : Stk w B P (x :: st)) :
    Calls Try.prog 65 #[.pointer (some ⟨P, 0, none⟩)] w fun e w' => e = .returned (.tuple #[]) ∧ Stk w' B P st ∧ Kept B P w w' := by
  obtain ⟨g, cap, cur, hp, h1, h2, h3, h4, h5, h6⟩ := h.top
  obtain ⟨hPB, hBs, hl, -⟩ := h
  simp only [List.length_cons] at hl
  have c0 := cell_of_one hp
  have f0 := free_of_one hp
  have i0 : (st.length : Int) < (st.length : Int) + 1 := by omega
  have i1 : (st.length : Int) ≤ (cap : Int) := by omega
  have HP : Hid _ := hp
  have H2 : Hid _ := h2
  have H6 : Hid _ := h6
  have H5 : Hid _ := h5
  have h4' : cap ≤ 9223372036854775807 := by unfold maxLen at h4; omega
  clear h2 h5 h6 hp
  go_enter Try.func65, Try.ntmps65
  go_wp2_with fail
  go_region
  all_goals go_wp2_with fail
  go_end0
  have hgP : g ≠ P := by omega
  refine ⟨rfl, ⟨hPB, by simpa using hBs, by omega, _, heap_setCell_same w P 0 _ _ _ HP.out, oc_len st, .inr ⟨g, cap, cur, rfl, h1, ?_, by omega, h4, H5.out, ?_⟩⟩, ?_⟩
  · show (w.setCell _ _).heap[g]? = _
    rw [heap_setCell_other _ _ _ _ (by exact hgP)]
    exact H2.out
  · have h := congrArg (List.take (st.length * 2)) H6.out
    rw [List.take_take, Nat.min_eq_left (by omega), oc, List.take_left' (oc_len st)] at h
    exact h
  · exact ((Kept.refl B P w).setCell 0 _).drew

theorem Try.infoOl : (Try.prog.info? 82).map (fun i => (i.zero, i.size, i.bytes)) = some (some (.agg #[.slice none 0 0, .int .i64 0]), 2, 32) := by kernel_rfl

/-- 'append(stack, item)' at a step of a region that draws its order. -/
theorem step_appOl (w : World) {ops : Array Oper} {o : Oper} {a : Act} {K : Act → World → Prop} {Q : Exit → Act → World → Prop} {E : Prop} (hgd : o.guard = none) (s x : Operand)
    (ho : o.op = .call { callee := .builtin .append, args := #[s, x], argTypes := #[75, 75] })
    (base : Nat) (v : Value) (st : List Ol) (y : Ol) (hs : a.eval s = v) (hown : w.ownsRow base 82 2 v st.length (oc st)) (b c : Nat) (hx : a.eval x = .slice (some ⟨b, 0, none⟩) 1 c)
    (h0 : w.cell? ⟨b, 0, none⟩ = some (.slice y.a y.ks.length y.c)) (h1 : w.cell? ⟨b, 1, none⟩ = some (.int .i64 (y.m : Int))) (hl : st.length < 1000) (hbase : base ≤ w.heap.size)
    (h : ∀ v' w', w'.ownsRow base 82 2 v' (y :: st).length (oc (y :: st)) → w.grownBy w' v.ownBlock → K (a.put o.dst v') w') :
    if Region.wanted o (yielded ops a.tmps) = true then Oper.wp Try.prog o a w K Q else E := by
  have hw : Region.wanted o (yielded ops a.tmps) = true := by simp [Region.wanted, hgd]
  rw [if_pos hw]
  obtain ⟨i0, hi, hz0, hz1, hz2⟩ := info_parts Try.infoOl
  refine wp_append_own w s x 75 ho base 82 i0 _ 2 32 Try.underlying75 hi hz0 hz1 hz2 rfl (by decide) v st.length (oc st) hs hown ⟨b, 0, none⟩ 1 c y.cells hx rfl ?_ ?_ ?_ ?_ hbase ?_
  · intro j u hj
    rw [Addr.add_lit, Nat.zero_add]
    match j, hj with
    | 0, hj => simp [Ol.cells] at hj; subst hj; exact h0
    | 1, hj => simp [Ol.cells] at hj; subst hj; exact h1
    | j + 2, hj => simp [Ol.cells] at hj
  · intro u hu
    simp [Ol.cells] at hu
    rcases hu with rfl | rfl <;> rfl
  · unfold maxLen; omega
  · omega
  · intro v' w' h1 h2 _
    exact h v' w' h1 h2

theorem owns_alloc {w : World} {B e size n : Nat} {v : Value} {xs : List Value} (h : w.ownsRow B e size v n xs) (o : Obj) : (w.alloc o).ownsRow B e size v n xs := by
  refine ⟨h.1, ?_⟩
  rcases h.2 with h' | ⟨g, cap, cur, rfl, hg, hh, r⟩
  · exact .inl h'
  · exact .inr ⟨g, cap, cur, rfl, hg, by rw [Below.heap_alloc _ _ _ (lt_of_block hh)]; exact hh, r⟩

/-- The block that a row lies in is one of its own kind. -/
theorem owns_block {w : World} {B e size n : Nat} {v : Value} {xs : List Value} (h : w.ownsRow B e size v n xs) {k : Nat} (hk : v.ownBlock = some k) : B ≤ k ∧ ∃ cs fr, w.heap[k]? = some (.cells cs e fr) := by
  rcases h.2 with ⟨rfl, -⟩ | ⟨g, cap, cur, rfl, hg, hh, -⟩
  · cases hk
  · cases hk; exact ⟨hg, _, _, hh⟩

theorem Kept.alloc {B P : Nat} {w w' : World} (h : Kept B P w w') (o : Obj) : Kept B P w (w'.alloc o) :=
  ⟨h.os, h.tape, h.output, by simp; exact Nat.le_succ_of_le h.size, fun b hb hP hc => by rw [Below.heap_alloc _ _ _ (Nat.lt_of_lt_of_le hb h.size)]; exact h.block b hb hP hc⟩
theorem Kept.grown {B P : Nat} {w w' w'' : World} {row : Option Nat} (h : Kept B P w w') (hg : w'.grownBy w'' row) (hr : ∀ k, row = some k → B ≤ k ∧ ∃ cs fr, w'.heap[k]? = some (.cells cs 82 fr)) : Kept B P w w'' := by
  refine h.trans ⟨hg.os, hg.tape, hg.output, hg.size, fun b hb hP hc => hg.block b hb fun e => ?_⟩
  obtain ⟨h1, cs, fr, h2⟩ := hr b e.symm
  rcases hc with hc | hc
  · omega
  · exact hc cs fr h2

theorem owns_set {w : World} {B e size n P : Nat} {v : Value} {xs : List Value} (h : w.ownsRow B e size v n xs) (hP : P < B) (i : Nat) (u : Value) : (w.setCell ⟨P, i, none⟩ u).ownsRow B e size v n xs := by
  refine ⟨h.1, ?_⟩
  rcases h.2 with h' | ⟨g, cap, cur, rfl, hg, hh, r⟩
  · exact .inl h'
  · exact .inr ⟨g, cap, cur, rfl, hg, by rw [heap_setCell_other _ _ _ _ (by show g ≠ P; omega)]; exact hh, r⟩

theorem acell (w : World) (o : Obj) (b i : Nat) (h : b < w.heap.size) : (w.alloc o).cell? ⟨b, i, none⟩ = w.cell? ⟨b, i, none⟩ := World.cell?_of_block (w := w) (w' := w.alloc o) (a := ⟨b, i, none⟩) (Below.heap_alloc _ _ _ h)

set_option maxRecDepth 100000 in
theorem stPush (w : World) (B P : Nat) (x : Ol) (st : List Ol) (h : Stk w B P st) (hl : st.length < 1000) :
    Calls Try.prog 41 #[.pointer (some ⟨P, 0, none⟩), .agg #[.slice x.a x.ks.length x.c, .int .i64 (x.m : Int)]] w fun e w' => e = .returned (.tuple #[]) ∧ Stk w' B P (x :: st) ∧ Kept B P w w' := by
  obtain ⟨hPB, hBs, -, v, hp, ho⟩ := h
  have hPs : P < w.heap.size := by omega
  have hp1 : (w.alloc (.cells #[.slice x.a x.ks.length x.c, .int .i64 (x.m : Int)] 82)).heap[P]? = _ := (Below.heap_alloc _ _ _ hPs).trans hp
  have ho1 := owns_alloc ho (.cells #[.slice x.a x.ks.length x.c, .int .i64 (x.m : Int)] 82)
  have b0 : (w.alloc (.cells #[.slice x.a x.ks.length x.c, .int .i64 (x.m : Int)] 82)).cell? ⟨w.heap.size, 0, none⟩ = some (.slice x.a x.ks.length x.c) := by simp
  have b1 : (w.alloc (.cells #[.slice x.a x.ks.length x.c, .int .i64 (x.m : Int)] 82)).cell? ⟨w.heap.size, 1, none⟩ = some (.int .i64 (x.m : Int)) := by simp
  have hk := (Kept.refl B P w).alloc (.cells #[.slice x.a x.ks.length x.c, .int .i64 (x.m : Int)] 82)
  have hs1 : (w.alloc (.cells #[.slice x.a x.ks.length x.c, .int .i64 (x.m : Int)] 82)).heap.size > w.heap.size := by simp
  have hrow : ∀ k, v.ownBlock = some k → k ≠ P ∧ k ≠ w.heap.size := fun k hk => by
    obtain ⟨h1, cs, fr, h2⟩ := owns_block ho hk
    have := lt_of_block h2
    omega
  go_enter Try.func41, Try.ntmps41
  clear hp ho
  go_wp2_with fail
  generalize (w.alloc (.cells #[.slice x.a x.ks.length x.c, .int .i64 (x.m : Int)] 82)) = w0 at *
  have c0 := cell_of_one hp1
  have f0 := free_of_one hp1
  have HP : Hid _ := hp1
  have HO : Hid _ := ho1
  have HK : Hid _ := hk
  have hP0 : P < w0.heap.size := by omega
  have l0 : w.heap.size < w0.heap.size := by omega
  clear hp1 ho1 hk
  go_region_law
    (first
      | (refine step_appOl _ rfl _ _ rfl B v st x rfl (owns_alloc HO.out _) w0.heap.size 1 rfl (by simp) (by simp) hl (by simp; omega) ?_; intro v5 w5 how5 hgr5; obtain ⟨a5, k5, rfl, -, -⟩ := owns_shape how5; have c5 := hgr5.cell ((acell _ _ _ _ hP0).trans c0) (fun h => (hrow _ h.symm).1 rfl); have c6 := hgr5.cell ((acell _ _ _ _ l0).trans b0) (fun h => (hrow _ h.symm).2 rfl); have c7 := hgr5.cell ((acell _ _ _ _ l0).trans b1) (fun h => (hrow _ h.symm).2 rfl); have f5 : w5.frozen? ⟨P, 0, none⟩ = false := (World.frozen?_of_block (hgr5.block P (by simp; omega) (fun h => (hrow _ h.symm).1 rfl))).trans ((World.frozen?_of_block (Below.heap_alloc _ _ _ hP0)).trans f0)))
  all_goals go_wp2_with fail
  all_goals go_end0
  all_goals
    have hp5 : w5.heap[P]? = some (.cells #[v] 77 (0, 0)) := (hgr5.block P (by simp; omega) (fun h => (hrow _ h.symm).1 rfl)).trans ((Below.heap_alloc _ _ _ hP0).trans HP.out)
    have hk5 : Kept B P w w5 := ((HK.out.alloc _).drew).grown hgr5 (fun k hk => owns_block (owns_alloc HO.out _) hk)
    exact ⟨rfl, ⟨hPB, by have := hk5.size; simp; omega, by simp; omega, _, heap_setCell_same w5 P 0 _ _ _ hp5, owns_set how5 hPB _ _⟩, hk5.setCell 0 _⟩

end Go.Proofs.Yteainbakfeedpaa
