/- Rows of words of one's own: read, told. -/
import Derived.Test.YtkffjdicmendkaaSA
import Derived.Test.YtkffjdicmendkaaKG
import Derived.Deep.AppendLies
namespace Go.Proofs.Ytkffjdicmendkaa
set_option linter.unusedVariables false
set_option linter.unusedSimpArgs false
open Go.RowKit

def bwc : List Bw → List Value
  | [] => []
  | x :: t => .int .i64 x.wd :: .slice x.a x.ws.length x.c :: bwc t
theorem bwc_len (l : List Bw) : (bwc l).length = l.length * 2 := by
  induction l with
  | nil => rfl
  | cons x t ih => simp [bwc, ih]; omega
theorem bwc_append (l m : List Bw) : bwc (l ++ m) = bwc l ++ bwc m := by
  induction l with
  | nil => rfl
  | cons x t ih => simp [bwc, ih]
theorem bwc_get : ∀ {l : List Bw} {i : Nat} {x : Bw}, l[i]? = some x → (bwc l)[i * 2]? = some (.int .i64 x.wd) ∧ (bwc l)[i * 2 + 1]? = some (.slice x.a x.ws.length x.c)
  | y :: t, 0, x, h => by simp at h; subst h; simp [bwc]
  | y :: t, i + 1, x, h => by
    have := bwc_get (l := t) (i := i) (x := x) (by simpa using h)
    rw [show (i + 1) * 2 = i * 2 + 1 + 1 by omega]
    simpa [bwc] using this
theorem bwc_plain (l : List Bw) : ∀ v ∈ bwc l, (∃ x, v = .int .i64 x) ∨ ∃ a n c, v = .slice a n c := by
  induction l with
  | nil => simp [bwc]
  | cons x t ih =>
    intro v hv
    simp [bwc] at hv
    rcases hv with rfl | rfl | hv
    · exact .inl ⟨_, rfl⟩
    · exact .inr ⟨_, _, _, rfl⟩
    · exact ih v hv

/-- An owned row of words. -/
def OB2 (w : World) (B : Nat) (v : Value) (l : List Bw) : Prop := w.ownsRow B 58 2 v l.length (bwc l)

theorem OB2.later {w w' : World} {B : Nat} {v : Value} {l : List Bw} (h : OB2 w B v l) (hb : Below w.heap.size w w') : OB2 w' B v l := World.ownsRow.kept (row := none) h ⟨hb.os, hb.tape, hb.output, hb.size, fun k hk _ => hb.block k hk⟩ (by
  cases h' : v.ownBlock with
  | none => exact .inl rfl
  | some k => exact .inr (by simp))
theorem OB2.lt {w : World} {B : Nat} {v : Value} {l : List Bw} (h : OB2 w B v l) {b : Nat} (hb : v.ownBlock = some b) : B ≤ b ∧ b < w.heap.size := by
  rcases h.2 with ⟨rfl, -⟩ | ⟨g, cap, cur, rfl, hg, hh, -⟩
  · cases hb
  · cases hb
    exact ⟨hg, lt_of_block hh⟩
theorem OB2.typed {w : World} {B : Nat} {v : Value} {l : List Bw} (h : OB2 w B v l) {b : Nat} (hb : v.ownBlock = some b) : ∃ cur, w.heap[b]? = some (.cells cur 58 (0, 0)) := by
  rcases h.2 with ⟨rfl, -⟩ | ⟨g, cap, cur, rfl, hg, hh, -⟩
  · cases hb
  · cases hb
    exact ⟨cur, hh⟩
theorem OB2.nil (w : World) (B : Nat) : OB2 w B (.slice none 0 0) [] := ⟨rfl, .inl ⟨rfl, rfl⟩⟩
theorem OB2.move {w w' : World} {B : Nat} {v : Value} {l : List Bw} (h : OB2 w B v l) (hk : ∀ b, v.ownBlock = some b → w'.heap[b]? = w.heap[b]?) : OB2 w' B v l := by
  refine ⟨h.1, ?_⟩
  rcases h.2 with h0 | ⟨g, cap, cur, rfl, hg, hh, r⟩
  · exact .inl h0
  · exact .inr ⟨g, cap, cur, rfl, hg, (hk g rfl).trans hh, r⟩

theorem OB2.form {w : World} {B : Nat} {v : Value} {l : List Bw} (h : OB2 w B v l) : ∃ a c, v = .slice a l.length c := by
  rcases h.2 with ⟨e, h0⟩ | ⟨g, cap, cur, e, -⟩
  · exact ⟨none, 0, by rw [e, h0]⟩
  · exact ⟨_, _, e⟩

theorem OB2.empty (w : World) (B : Nat) (h : B ≤ w.heap.size) : OB2 (w.alloc (.cells #[] 58)) B (.slice (some ⟨w.heap.size, 0, Option.none⟩) 0 0) [] := World.ownsRow_made w #[] 0 h (Nat.zero_le _) (by simp)
theorem OB2.at {w : World} {B : Nat} {v : Value} {l : List Bw} (h : OB2 w B v l) {i : Nat} {x : Bw} (hi : l[i]? = some x) : ∃ g c, v = .slice (some ⟨g, 0, none⟩) l.length c ∧ w.cell? ⟨g, i * 2, none⟩ = some (.int .i64 x.wd) ∧ w.cell? ⟨g, i * 2 + 1, none⟩ = some (.slice x.a x.ws.length x.c) := by
  have hil := (List.getElem?_eq_some_iff.1 hi).1
  rcases h.2 with ⟨-, h0⟩ | ⟨g, cap, cur, rfl, hg, hh, hc1, hc2, hsz, hcur⟩
  · omega
  · obtain ⟨e0, e1⟩ := bwc_get hi
    rw [← hcur] at e0 e1
    rw [List.getElem?_take, if_pos (by omega)] at e0 e1
    simp only [Array.getElem?_toList] at e0 e1
    exact ⟨g, cap, rfl, by rw [cell_of_row w g _ cur _ _ hh]; exact e0, by rw [cell_of_row w g _ cur _ _ hh]; exact e1⟩
/-- What can be read of it. -/
theorem OB2.rd {w : World} {B : Nat} {v : Value} {l : List Bw} (h : OB2 w B v l) (hl : l.length ≤ 1048576) (hx : ∀ x ∈ l, Rd w x.a x.ws ∧ in64 x.wd) : ∃ a c, v = .slice a l.length c ∧ RdW w a l := by
  by_cases e : l = []
  · subst e
    obtain ⟨a, c, rfl⟩ := h.form
    exact ⟨a, c, rfl, by simp, .inl rfl⟩
  · have h0 : 0 < l.length := List.length_pos_iff.2 e
    obtain ⟨g, c, rfl, -⟩ := h.at (List.getElem?_eq_getElem h0)
    refine ⟨_, c, rfl, hl, .inr ⟨g, 0, rfl, fun i x hi => ?_⟩⟩
    obtain ⟨g', c', e', h1, h2⟩ := h.at hi
    cases e'
    obtain ⟨h3, h4⟩ := hx x (List.mem_of_getElem? hi)
    exact ⟨by rw [Nat.zero_add]; exact h1, by rw [Nat.zero_add]; exact h2, h3, h4⟩

/-- 'append(list, x)' at a step of a region that draws its order; and in a row of operations. -/
theorem step_appB2 (w : World) {ops : Array Oper} {o : Oper} {a : Act} {K : Act → World → Prop} {Q : Exit → Act → World → Prop} {E : Prop} (hgd : o.guard = none) (s x : Operand)
    (ho : o.op = .call { callee := .builtin .append, args := #[s, x], argTypes := #[31, 31] })
    (B : Nat) (v : Value) (l : List Bw) (y : Bw) (hs : a.eval s = v) (hown : OB2 w B v l) (gx c : Nat) (hx : a.eval x = .slice (some ⟨gx, 0, none⟩) 1 c)
    (h0 : w.cell? ⟨gx, 0, none⟩ = some (.int .i64 y.wd)) (h1 : w.cell? ⟨gx, 1, none⟩ = some (.slice y.a y.ws.length y.c)) (hl : l.length ≤ 1073741824) (hB : B ≤ w.heap.size)
    (h : ∀ g cap w', OB2 w' B (.slice (some ⟨g, 0, none⟩) (l.length + 1) cap) (l ++ [y]) → w.grownBy w' v.ownBlock → K (a.put o.dst (.slice (some ⟨g, 0, none⟩) (l.length + 1) cap)) w') :
    if Region.wanted o (yielded ops a.tmps) = true then Oper.wp Try.prog o a w K Q else E := by
  obtain ⟨i0, hi, hz0, hz1, hz2⟩ := info_parts Try.infoBits
  refine step_append_lies w hgd s x 31 ho B 58 i0 _ 2 32 Try.underlying31 hi hz0 hz1 hz2 rfl (by decide) v l.length (bwc l) hs hown ⟨gx, 0, none⟩ 1 c (bwc [y]) hx rfl ?_ ?_ (by decide) ?_ ?_ hB _ rfl ?_
  · intro j u hj
    rw [Addr.add_lit]
    match j, hj with
    | 0, hj => simp [bwc] at hj; subst hj; exact h0
    | 1, hj => simp [bwc] at hj; subst hj; exact h1
    | j + 2, hj => simp [bwc] at hj
  · intro u hu
    simp [bwc] at hu
    rcases hu with rfl | rfl <;> rfl
  · unfold maxLen; omega
  · omega
  · intro g cap w' h1 h2 _ _
    refine h g cap w' ?_ h2
    unfold OB2
    rw [bwc_append, List.length_append]
    exact h1

theorem wpList_appB2 {w : World} {ops : Array Oper} {rest : List Oper} {o : Oper} {a : Act} {Q : Exit → Act → World → Prop} (hgd : o.guard = none) (s x : Operand)
    (ho : o.op = .call { callee := .builtin .append, args := #[s, x], argTypes := #[31, 31] })
    (B : Nat) (v : Value) (l : List Bw) (y : Bw) (hs : a.eval s = v) (hown : OB2 w B v l) (gx c : Nat) (hx : a.eval x = .slice (some ⟨gx, 0, none⟩) 1 c)
    (h0 : w.cell? ⟨gx, 0, none⟩ = some (.int .i64 y.wd)) (h1 : w.cell? ⟨gx, 1, none⟩ = some (.slice y.a y.ws.length y.c)) (hl : l.length ≤ 1073741824) (hB : B ≤ w.heap.size)
    (h : ∀ g cap w', OB2 w' B (.slice (some ⟨g, 0, none⟩) (l.length + 1) cap) (l ++ [y]) → w.grownBy w' v.ownBlock → wpList Try.prog ops Q rest (a.put o.dst (.slice (some ⟨g, 0, none⟩) (l.length + 1) cap)) w') : wpList Try.prog ops Q (o :: rest) a w := by
  obtain ⟨i0, hi, hz0, hz1, hz2⟩ := info_parts Try.infoBits
  refine wpList_append_lies w hgd s x 31 ho B 58 i0 _ 2 32 Try.underlying31 hi hz0 hz1 hz2 rfl (by decide) v l.length (bwc l) hs hown ⟨gx, 0, none⟩ 1 c (bwc [y]) hx rfl ?_ ?_ (by decide) ?_ ?_ hB _ rfl ?_
  · intro j u hj
    rw [Addr.add_lit]
    match j, hj with
    | 0, hj => simp [bwc] at hj; subst hj; exact h0
    | 1, hj => simp [bwc] at hj; subst hj; exact h1
    | j + 2, hj => simp [bwc] at hj
  · intro u hu
    simp [bwc] at hu
    rcases hu with rfl | rfl <;> rfl
  · unfold maxLen; omega
  · omega
  · intro g cap w' h1 h2 _ _
    refine h g cap w' ?_ h2
    unfold OB2
    rw [bwc_append, List.length_append]
    exact h1

/-- No two have a block in common. -/
def DjB (l : List Bw) : Prop := ∀ (i j : Nat) (x y : Bw), i < j → l[i]? = some x → l[j]? = some y → ∀ p q, x.a = some p → y.a = some q → p.block ≠ q.block
theorem DjB.nil : DjB [] := fun i j x y _ h => by simp at h
theorem DjB.snoc {w : World} {B : Nat} {l : List Bw} {x : Bw} (h : DjB l) (hl : ∀ y ∈ l, Nw w B y.a y.ws) (hx : ∀ p, x.a = some p → w.heap.size ≤ p.block) : DjB (l ++ [x]) := fun i j y z hij hi hj p q hp hq => by
  rw [List.getElem?_append] at hi hj
  split at hj
  · rename_i hjl
    rw [if_pos (by omega)] at hi
    exact h i j y z hij hi hj p q hp hq
  · rename_i hjl
    have hj0 : j - l.length = 0 := by have := (List.getElem?_eq_some_iff.1 hj).1; simp at this; omega
    rw [hj0] at hj
    simp at hj
    subst hj
    rw [if_pos (by omega)] at hi
    have h1 := (nw_lt (hl y (List.mem_of_getElem? hi)) hp).2
    have h2 := hx q hq
    omega
theorem DjB.set {w : World} {B k : Nat} {l : List Bw} {x : Bw} (h : DjB l) (hl : ∀ y ∈ l, Nw w B y.a y.ws) (hx : ∀ p, x.a = some p → w.heap.size ≤ p.block) : DjB (l.set k x) := fun i j y z hij hi hj p q hp hq => by
  rw [List.getElem?_set] at hi hj
  split at hi
  · split at hi
    · simp at hi
      subst hi
      split at hj
      · omega
      · have h1 := (nw_lt (hl z (List.mem_of_getElem? hj)) hq).2
        have h2 := hx p hp
        omega
    · cases hi
  · split at hj
    · split at hj
      · simp at hj
        subst hj
        have h1 := (nw_lt (hl y (List.mem_of_getElem? hi)) hp).2
        have h2 := hx q hq
        omega
      · cases hj
    · exact h i j y z hij hi hj p q hp hq

end Go.Proofs.Ytkffjdicmendkaa
