/- Rows of int of one's own. -/
import Derived.Test.YtmfamdonbgmjbaaDoorDIO
import Derived.Test.YtmfamdonbgmjbaaDoorOIN
namespace Go.Proofs.YtmfamdonbgmjbaaDoor
set_option linter.unusedVariables false
set_option linter.unusedSimpArgs false
open Go.RowKit

theorem Tryd.infoJ : (Tryd.prog.info? 3).map (fun i => (i.zero, i.size, i.bytes)) = some (some (.int .i64 0), 1, 8) := by kernel_rfl

/-- An owned row of places. -/
def OJ (w : World) (B : Nat) (v : Value) (l : List Int) : Prop := w.ownsRow B 3 1 v l.length (i64s l).toList
theorem OJ.move {w w' : World} {B : Nat} {v : Value} {l : List Int} (h : OJ w B v l) (hk : ∀ b, v.ownBlock = some b → w'.heap[b]? = w.heap[b]?) : OJ w' B v l := by
  refine ⟨h.1, ?_⟩
  rcases h.2 with h0 | ⟨g, cap, cur, rfl, hg, hh, r⟩
  · exact .inl h0
  · exact .inr ⟨g, cap, cur, rfl, hg, (hk g rfl).trans hh, r⟩
theorem OJ.lt {w : World} {B : Nat} {v : Value} {l : List Int} (h : OJ w B v l) {b : Nat} (hb : v.ownBlock = some b) : B ≤ b ∧ b < w.heap.size := by
  rcases h.2 with ⟨rfl, -⟩ | ⟨g, cap, cur, rfl, hg, hh, -⟩
  · cases hb
  · cases hb
    exact ⟨hg, lt_of_block hh⟩
theorem OJ.later {w w' : World} {B : Nat} {v : Value} {l : List Int} (h : OJ w B v l) (hb : Below w.heap.size w w') : OJ w' B v l := h.move fun b hb' => hb.block b (h.lt hb').2
theorem OJ.empty (w : World) (B : Nat) (h : B ≤ w.heap.size) : OJ (w.alloc (.cells #[] 3)) B (.slice (some ⟨w.heap.size, 0, Option.none⟩) 0 0) [] := World.ownsRow_made w #[] 0 h (Nat.zero_le _) (by simp)
theorem OJ.rd {w : World} {B : Nat} {v : Value} {l : List Int} (h : OJ w B v l) (hl : l.length ≤ 1048576) (hx : ∀ x ∈ l, in64 x) : ∃ a c, v = .slice a l.length c ∧ RdI w a l := by
  rcases h.2 with ⟨rfl, h0⟩ | ⟨g, cap, cur, rfl, hg, hh, hc1, hc2, hsz, hcur⟩
  · have e := List.eq_nil_of_length_eq_zero h0
    subst e
    exact ⟨none, 0, rfl, by simp, by simp, .inl rfl⟩
  · refine ⟨some ⟨g, 0, none⟩, cap, rfl, hl, hx, .inr ⟨g, 0, rfl, fun i hi => ?_⟩⟩
    have h3 : (cur.toList.take (l.length * 1))[i]? = (i64s l).toList[i]? := by rw [hcur]
    rw [List.getElem?_take, if_pos (by omega)] at h3
    simp only [Array.getElem?_toList] at h3
    rw [Nat.zero_add, cell_of_row w g i cur _ _ hh, h3, i64s_get _ _ hi]
theorem wpList_appJ {w : World} {ops : Array Oper} {rest : List Oper} {o : Oper} {a : Act} {Q : Exit → Act → World → Prop} (hgd : o.guard = none) (s x : Operand)
    (ho : o.op = .call { callee := .builtin .append, args := #[s, x], argTypes := #[97, 97] })
    (B : Nat) (v : Value) (l : List Int) (y : Int) (hs : a.eval s = v) (hown : OJ w B v l) (gx c : Nat) (hx : a.eval x = .slice (some ⟨gx, 0, none⟩) 1 c)
    (h0 : w.cell? ⟨gx, 0, none⟩ = some (.int .i64 y)) (hl : l.length ≤ 1073741824) (hB : B ≤ w.heap.size)
    (h : ∀ g cap w', OJ w' B (.slice (some ⟨g, 0, none⟩) (l.length + 1) cap) (l ++ [y]) → w.grownBy w' v.ownBlock → (v.ownBlock = some g ∨ g = w.heap.size) → wpList Tryd.prog ops Q rest (a.put o.dst (.slice (some ⟨g, 0, none⟩) (l.length + 1) cap)) w') : wpList Tryd.prog ops Q (o :: rest) a w := by
  obtain ⟨i0, hi, hz0, hz1, hz2⟩ := info_parts Tryd.infoJ
  refine wpList_append_lies w hgd s x 97 ho B 3 i0 _ 1 8 Tryd.underlying97 hi hz0 hz1 hz2 rfl (by decide) v l.length (i64s l).toList hs hown ⟨gx, 0, none⟩ 1 c [.int .i64 y] hx rfl ?_ ?_ (by decide) ?_ ?_ hB _ rfl ?_
  · intro j u hj
    rw [Addr.add_lit]
    match j, hj with
    | 0, hj => simp at hj; subst hj; exact h0
    | j + 1, hj => simp at hj
  · intro u hu
    simp at hu
    subst hu
    rfl
  · unfold maxLen; omega
  · omega
  · intro g cap w' h1 h2 h3 _
    refine h g cap w' ?_ h2 h3
    unfold OJ
    rw [List.length_append]
    simpa [i64s] using h1

theorem step_appJ (w : World) {ops : Array Oper} {o : Oper} {a : Act} {K : Act → World → Prop} {Q : Exit → Act → World → Prop} {E : Prop} (hgd : o.guard = none) (s x : Operand)
    (ho : o.op = .call { callee := .builtin .append, args := #[s, x], argTypes := #[97, 97] })
    (B : Nat) (v : Value) (l : List Int) (y : Int) (hs : a.eval s = v) (hown : OJ w B v l) (gx c : Nat) (hx : a.eval x = .slice (some ⟨gx, 0, none⟩) 1 c)
    (h0 : w.cell? ⟨gx, 0, none⟩ = some (.int .i64 y)) (hl : l.length ≤ 1073741824) (hB : B ≤ w.heap.size)
    (h : ∀ g cap w', OJ w' B (.slice (some ⟨g, 0, none⟩) (l.length + 1) cap) (l ++ [y]) → w.grownBy w' v.ownBlock → (v.ownBlock = some g ∨ g = w.heap.size) → K (a.put o.dst (.slice (some ⟨g, 0, none⟩) (l.length + 1) cap)) w') :
    if Region.wanted o (yielded ops a.tmps) = true then Oper.wp Tryd.prog o a w K Q else E := by
  obtain ⟨i0, hi, hz0, hz1, hz2⟩ := info_parts Tryd.infoJ
  refine step_append_lies w hgd s x 97 ho B 3 i0 _ 1 8 Tryd.underlying97 hi hz0 hz1 hz2 rfl (by decide) v l.length (i64s l).toList hs hown ⟨gx, 0, none⟩ 1 c [.int .i64 y] hx rfl ?_ ?_ (by decide) ?_ ?_ hB _ rfl ?_
  · intro j u hj
    rw [Addr.add_lit]
    match j, hj with
    | 0, hj => simp at hj; subst hj; exact h0
    | j + 1, hj => simp at hj
  · intro u hu
    simp at hu
    subst hu
    rfl
  · unfold maxLen; omega
  · omega
  · intro g cap w' h1 h2 h3 _
    refine h g cap w' ?_ h2 h3
    unfold OJ
    rw [List.length_append]
    simpa [i64s] using h1


theorem OJ.cellO {w : World} {B g n c : Nat} {l : List Int} (h : OJ w B (.slice (some ⟨g, 0, none⟩) n c) l) {i : Nat} (hi : i < l.length) : w.cell? ⟨g, i, none⟩ = some (.int .i64 (l.getD i 0)) := by
  rcases h.2 with ⟨e, -⟩ | ⟨g', cap, cur, e, hg, hh, hc1, hc2, hsz, hcur⟩
  · cases e
  · cases e
    have h3 : (cur.toList.take (l.length * 1))[i]? = (i64s l).toList[i]? := by rw [hcur]
    rw [List.getElem?_take, if_pos (by omega)] at h3
    simp only [Array.getElem?_toList] at h3
    rw [cell_of_row w _ i cur _ _ hh, h3, i64s_get _ _ hi]
theorem OJ.frozO {w : World} {B g n c : Nat} {l : List Int} (h : OJ w B (.slice (some ⟨g, 0, none⟩) n c) l) (i : Nat) : w.frozen? ⟨g, i, none⟩ = false := by
  rcases h.2 with ⟨e, -⟩ | ⟨g', cap, cur, e, hg, hh, hc1, hc2, hsz, hcur⟩
  · cases e
  · cases e
    exact frozen_of_row w _ i _ _ hh
theorem OJ.setO {w : World} {B g n c : Nat} {l : List Int} (h : OJ w B (.slice (some ⟨g, 0, none⟩) n c) l) {i : Nat} (hi : i < l.length) (x : Int) : OJ (w.setCell ⟨g, i, none⟩ (.int .i64 x)) B (.slice (some ⟨g, 0, none⟩) n c) (l.set i x) := by
  rcases h.2 with ⟨e, -⟩ | ⟨g', cap, cur, e, hg, hh, hc1, hc2, hsz, hcur⟩
  · cases e
  · cases e
    refine ⟨by simp [i64s], .inr ⟨g, c, cur.setIfInBounds i (.int .i64 x), by simp, hg, heap_setCell_same w g i _ _ _ hh, by simpa using hc1, hc2, by simpa using hsz, ?_⟩⟩
    have e2 : (i64s (l.set i x)).toList = (i64s l).toList.set i (.int .i64 x) := by simp [i64s, List.map_set]
    rw [Array.toList_setIfInBounds, e2, ← hcur, List.take_set]
    simp
theorem make_ints (n : Nat) (hn : n ≤ 1048576) (kl kc : IntKind) (w : World) :
    (Instr.makeSlice 97 (.int kl (n : Int)) (.int kc (n : Int))).run Tryd.prog w = .ok (.slice (some ⟨w.heap.size, 0, none⟩) n n) (w.alloc (.cells (madeCells #[.int .i64 0] n) 3)) := by
  obtain ⟨i0, hi, hz0, hz1, hz2⟩ := info_parts (show (Tryd.prog.info? 3).map (fun i => (i.zero, i.size, i.bytes)) = some (some (.int .i64 0), 1, 8) by kernel_rfl)
  have := run_make (P := Tryd.prog) w 97 3 i0 _ Tryd.underlying97 hi hz0 kl kc n n (by omega) (Int.le_refl _) (by rw [hz2]; omega) (by omega)
  rw [hz1, Nat.mul_one] at this
  simp only [Int.toNat_natCast] at this
  exact this
theorem OJ.zeros (w : World) (B n : Nat) (hB : B ≤ w.heap.size) (hn : n ≤ 1048576) : OJ (w.alloc (.cells (madeCells #[.int .i64 0] n) 3)) B (.slice (some ⟨w.heap.size, 0, none⟩) n n) (List.replicate n 0) := by
  refine ⟨by simp [i64s], .inr ⟨w.heap.size, n, _, by simp, hB, heap_alloc_new w _, by simp, by unfold maxLen; omega, by simp [size_madeCells], ?_⟩⟩
  rw [toList_madeCells_one]
  simp [i64s]
end Go.Proofs.YtmfamdonbgmjbaaDoor
