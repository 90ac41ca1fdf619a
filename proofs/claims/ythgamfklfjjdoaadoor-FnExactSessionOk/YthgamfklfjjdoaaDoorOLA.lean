/- Owned rows of literals: one more, or a whole row more. -/
import Derived.Test.YthgamfklfjjdoaaDoorIC
import Derived.Deep.AppendLies
import Derived.Deep.OwnRows
namespace Go.Proofs.YthgamfklfjjdoaaDoor
set_option linter.unusedVariables false
set_option linter.unusedSimpArgs false
open Go.RowKit

/-- The cells of literals. -/
def lgc : List Lg → List Value
  | [] => []
  | x :: t => .int .i64 x.id :: .bool x.eq :: .slice x.sa x.ss.length x.sc :: .slice x.ta x.ts.length x.tc :: lgc t
theorem lgc_len (l : List Lg) : (lgc l).length = l.length * 4 := by
  induction l with
  | nil => rfl
  | cons x t ih => simp [lgc, ih]; omega
theorem lgc_append (xs ys : List Lg) : lgc (xs ++ ys) = lgc xs ++ lgc ys := by
  induction xs with
  | nil => rfl
  | cons x t ih => simp [lgc, ih]
theorem lgc_get : ∀ {l : List Lg} {i : Nat} {x : Lg}, l[i]? = some x → (lgc l)[i * 4]? = some (.int .i64 x.id) ∧ (lgc l)[i * 4 + 1]? = some (.bool x.eq) ∧ (lgc l)[i * 4 + 2]? = some (.slice x.sa x.ss.length x.sc) ∧ (lgc l)[i * 4 + 3]? = some (.slice x.ta x.ts.length x.tc)
  | y :: t, 0, x, h => by simp at h; subst h; simp [lgc]
  | y :: t, i + 1, x, h => by
    have := lgc_get (l := t) (i := i) (x := x) (by simpa using h)
    rw [show (i + 1) * 4 = i * 4 + 1 + 1 + 1 + 1 by omega]
    simpa [lgc] using this

/-- An owned row of literals. -/
def OL4 (w : World) (B : Nat) (v : Value) (l : List Lg) : Prop := w.ownsRow B 54 4 v l.length (lgc l)

theorem OL4.later {w w' : World} {B : Nat} {v : Value} {l : List Lg} (h : OL4 w B v l) (hb : Below w.heap.size w w') : OL4 w' B v l := World.ownsRow.kept (row := none) h ⟨hb.os, hb.tape, hb.output, hb.size, fun k hk _ => hb.block k hk⟩ (by
  cases h' : v.ownBlock with
  | none => exact .inl rfl
  | some k => exact .inr (by simp))
theorem OL4.lt {w : World} {B : Nat} {v : Value} {l : List Lg} (h : OL4 w B v l) {b : Nat} (hb : v.ownBlock = some b) : B ≤ b ∧ b < w.heap.size := by
  rcases h.2 with ⟨rfl, -⟩ | ⟨g, cap, cur, rfl, hg, hh, -⟩
  · cases hb
  · cases hb
    exact ⟨hg, lt_of_block hh⟩
theorem OL4.nil (w : World) (B : Nat) : OL4 w B (.slice none 0 0) [] := ⟨rfl, .inl ⟨rfl, rfl⟩⟩

/-- What can be read of it. -/
theorem OL4.rd {w : World} {B : Nat} {v : Value} {l : List Lg} (h : OL4 w B v l) (hl : l.length ≤ 1048576) (hx : ∀ x ∈ l, RdT w x.sa x.ss ∧ RdT w x.ta x.ts ∧ in64 x.id) : ∃ a c, v = .slice a l.length c ∧ RdL w a l := by
  rcases h.2 with ⟨rfl, h0⟩ | ⟨g, cap, cur, rfl, hg, hh, hc1, hc2, hsz, hcur⟩
  · have e := List.eq_nil_of_length_eq_zero h0
    subst e
    exact ⟨none, 0, rfl, by simp, .inl rfl⟩
  · refine ⟨some ⟨g, 0, none⟩, cap, rfl, hl, .inr ⟨g, 0, rfl, fun i x hi => ?_⟩⟩
    obtain ⟨e0, e1, e2, e3⟩ := lgc_get hi
    have hil := (List.getElem?_eq_some_iff.1 hi).1
    rw [← hcur] at e0 e1 e2 e3
    rw [List.getElem?_take, if_pos (by omega)] at e0 e1 e2 e3
    simp only [Array.getElem?_toList] at e0 e1 e2 e3
    exact ⟨⟨by rw [Nat.zero_add, cell_of_row w g _ cur _ _ hh]; exact e0, by rw [Nat.zero_add, cell_of_row w g _ cur _ _ hh]; exact e1, by rw [Nat.zero_add, cell_of_row w g _ cur _ _ hh]; exact e2, by rw [Nat.zero_add, cell_of_row w g _ cur _ _ hh]; exact e3⟩, hx x (List.mem_of_getElem? hi)⟩

theorem wpList_appL4 {w : World} {ops : Array Oper} {rest : List Oper} {o : Oper} {a : Act} {Q : Exit → Act → World → Prop} (hgd : o.guard = none) (s x : Operand)
    (ho : o.op = .call { callee := .builtin .append, args := #[s, x], argTypes := #[40, 40] })
    (B : Nat) (v : Value) (l : List Lg) (y : Lg) (hs : a.eval s = v) (hown : OL4 w B v l) (gx : Nat) (hx : a.eval x = .slice (some ⟨gx, 0, none⟩) 1 1)
    (h0 : w.cell? ⟨gx, 0, none⟩ = some (.int .i64 y.id)) (h1 : w.cell? ⟨gx, 1, none⟩ = some (.bool y.eq)) (h2 : w.cell? ⟨gx, 2, none⟩ = some (.slice y.sa y.ss.length y.sc)) (h3 : w.cell? ⟨gx, 3, none⟩ = some (.slice y.ta y.ts.length y.tc)) (hl : l.length ≤ 1073741824) (hB : B ≤ w.heap.size)
    (h : ∀ v' w', OL4 w' B v' (l ++ [y]) → w.grownBy w' v.ownBlock → wpList Tryd.prog ops Q rest (a.put o.dst v') w') : wpList Tryd.prog ops Q (o :: rest) a w := by
  obtain ⟨i0, hi, hz0, hz1, hz2⟩ := info_parts Tryd.infoLit
  refine wpList_append_own_at w hgd s x 40 ho B 54 i0 _ 4 64 Tryd.underlying40 hi hz0 hz1 hz2 rfl (by decide) v l.length (lgc l) hs hown ⟨gx, 0, none⟩ 1 1 (lgc [y]) hx rfl ?_ ?_ (by unfold maxLen; omega) (by omega) hB ?_
  · intro j u hj
    rw [Addr.add_lit]
    match j, hj with
    | 0, hj => simp [lgc] at hj; subst hj; exact h0
    | 1, hj => simp [lgc] at hj; subst hj; exact h1
    | 2, hj => simp [lgc] at hj; subst hj; exact h2
    | 3, hj => simp [lgc] at hj; subst hj; exact h3
    | j + 4, hj => simp [lgc] at hj
  · intro u hu
    simp [lgc] at hu
    rcases hu with rfl | rfl | rfl | rfl <;> rfl
  · intro v' w' h1 h2 _ _
    refine h v' w' ?_ h2
    unfold OL4
    rw [lgc_append, List.length_append]
    exact h1

/-- What stands in the cells of literals. -/
theorem lgc_at {ys : List Lg} {j : Nat} {u : Value} (h : (lgc ys)[j]? = some u) : ∃ i x, ys[i]? = some x ∧ (j = i * 4 ∧ u = .int .i64 x.id ∨ j = i * 4 + 1 ∧ u = .bool x.eq ∨ j = i * 4 + 2 ∧ u = .slice x.sa x.ss.length x.sc ∨ j = i * 4 + 3 ∧ u = .slice x.ta x.ts.length x.tc) := by
  have hj := (List.getElem?_eq_some_iff.1 h).1
  rw [lgc_len] at hj
  have hi : j / 4 < ys.length := by omega
  refine ⟨j / 4, ys[j / 4], List.getElem?_eq_getElem hi, ?_⟩
  obtain ⟨e0, e1, e2, e3⟩ := lgc_get (List.getElem?_eq_getElem hi)
  have hr : j = j / 4 * 4 ∨ j = j / 4 * 4 + 1 ∨ j = j / 4 * 4 + 2 ∨ j = j / 4 * 4 + 3 := by omega
  rcases hr with hr | hr | hr | hr
  · rw [← hr, h] at e0; cases e0; exact .inl ⟨hr, rfl⟩
  · rw [← hr, h] at e1; cases e1; exact .inr (.inl ⟨hr, rfl⟩)
  · rw [← hr, h] at e2; cases e2; exact .inr (.inr (.inl ⟨hr, rfl⟩))
  · rw [← hr, h] at e3; cases e3; exact .inr (.inr (.inr ⟨hr, rfl⟩))

theorem rdL_cells {w : World} {ad : Addr} {ys : List Lg} (hr : RdL w (some ad) ys) : ∀ j u, (lgc ys)[j]? = some u → w.cell? (ad.add j) = some u := by
  intro j u hj
  obtain ⟨i, x, hx, hu⟩ := lgc_at hj
  obtain ⟨-, h | ⟨b, o, e, hc⟩⟩ := hr
  · subst h; simp at hx
  · cases e
    obtain ⟨⟨c0, c1, c2, c3⟩, -⟩ := hc i x hx
    rw [Addr.add_lit]
    rcases hu with ⟨rfl, rfl⟩ | ⟨rfl, rfl⟩ | ⟨rfl, rfl⟩ | ⟨rfl, rfl⟩
    · exact c0
    · exact c1
    · exact c2
    · exact c3

theorem wpList_appLs {w : World} {ops : Array Oper} {rest : List Oper} {o : Oper} {a : Act} {Q : Exit → Act → World → Prop} (hgd : o.guard = none) (s x : Operand)
    (ho : o.op = .call { callee := .builtin .append, args := #[s, x], argTypes := #[40, 40] })
    (B : Nat) (v : Value) (l ys : List Lg) (hs : a.eval s = v) (hown : OL4 w B v l) (ad : Addr) (c n : Nat) (hn : ys.length = n) (hx : a.eval x = .slice (some ad) n c)
    (hr : RdL w (some ad) ys) (hl : l.length + n ≤ 1073741824) (hB : B ≤ w.heap.size)
    (h : ∀ v' w', OL4 w' B v' (l ++ ys) → w.grownBy w' v.ownBlock → wpList Tryd.prog ops Q rest (a.put o.dst v') w') : wpList Tryd.prog ops Q (o :: rest) a w := by
  obtain ⟨i0, hi, hz0, hz1, hz2⟩ := info_parts Tryd.infoLit
  subst hn
  refine wpList_append_own_at w hgd s x 40 ho B 54 i0 _ 4 64 Tryd.underlying40 hi hz0 hz1 hz2 rfl (by decide) v l.length (lgc l) hs hown ad ys.length c (lgc ys) hx (lgc_len ys) (rdL_cells hr) ?_ (by unfold maxLen; omega) (by omega) hB ?_
  · intro u hu
    obtain ⟨j, hj⟩ := List.getElem?_of_mem hu
    obtain ⟨i, x, -, h⟩ := lgc_at hj
    rcases h with ⟨-, rfl⟩ | ⟨-, rfl⟩ | ⟨-, rfl⟩ | ⟨-, rfl⟩ <;> rfl
  · intro v' w' h1 h2 _ _
    refine h v' w' ?_ h2
    unfold OL4
    rw [lgc_append, List.length_append]
    exact h1

end Go.Proofs.YthgamfklfjjdoaaDoor
