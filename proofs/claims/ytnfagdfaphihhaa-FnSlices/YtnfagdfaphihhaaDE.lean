/- Rows of rows of numbers of one's own, while a reader of draws is turned. -/
import Derived.Test.YtnfagdfaphihhaaDI
import Derived.Test.YtnfagdfaphihhaaLAX
namespace Go.Proofs.Ytnfagdfaphihhaa
set_option linter.unusedVariables false
set_option linter.unusedSimpArgs false
open Go.RowKit

theorem Try.infoRows : (Try.prog.info? 51).map (fun i => (i.zero, i.size, i.bytes)) = some (some (.slice none 0 0), 1, 24) := by kernel_rfl

/-- A row of rows: the row itself, and each row in memory of its own. -/
structure Cq (w : World) (B : Nat) (v : Value) (vs : List Value) (xss : List (List Int)) : Prop where
  row : w.ownsRow B 51 1 v vs.length vs
  len : vs.length = xss.length
  own : ∀ (i : Nat) (u : Value) (xs : List Int), vs[i]? = some u → xss[i]? = some xs → OI w B u xs
  dj : ∀ (i j : Nat) (u u' : Value), vs[i]? = some u → vs[j]? = some u' → i ≠ j → ∀ b, u.ownBlock = some b → u'.ownBlock ≠ some b

theorem rowlt {w : World} {B n : Nat} {e : TypeId} {v : Value} {xs : List Value} (h : w.ownsRow B e 1 v n xs) {b : Nat} (hb : v.ownBlock = some b) : B ≤ b ∧ b < w.heap.size := by
  rcases h.2 with ⟨rfl, -⟩ | ⟨g, cap, cur, rfl, hg, hh, -⟩
  · cases hb
  · cases hb
    exact ⟨hg, lt_of_block hh⟩
theorem rowty {w : World} {B n : Nat} {e : TypeId} {v : Value} {xs : List Value} (h : w.ownsRow B e 1 v n xs) {b : Nat} (hb : v.ownBlock = some b) : ∃ cur, w.heap[b]? = some (.cells cur e (0, 0)) := by
  rcases h.2 with ⟨rfl, -⟩ | ⟨g, cap, cur, rfl, hg, hh, -⟩
  · cases hb
  · cases hb
    exact ⟨cur, hh⟩
theorem rowmove {w w' : World} {B n : Nat} {e : TypeId} {v : Value} {xs : List Value} (h : w.ownsRow B e 1 v n xs) (hk : ∀ b, v.ownBlock = some b → w'.heap[b]? = w.heap[b]?) : w'.ownsRow B e 1 v n xs := by
  refine ⟨h.1, ?_⟩
  rcases h.2 with h0 | ⟨g, cap, cur, rfl, hg, hh, r⟩
  · exact .inl h0
  · exact .inr ⟨g, cap, cur, rfl, hg, (hk g rfl).trans hh, r⟩
/-- Rows of numbers and a row of rows never lie in one block. -/
theorem rowapart {w : World} {B B' n : Nat} {v u : Value} {vs : List Value} {xs : List Int} (h : w.ownsRow B 51 1 v n vs) (ho : OI w B' u xs) {b : Nat} (hb : v.ownBlock = some b) : u.ownBlock ≠ some b := fun hu => by
  obtain ⟨c1, e1⟩ := rowty h hb
  obtain ⟨c2, e2⟩ := rowty ho hu
  rw [e1] at e2
  cases e2

theorem Cq.far {w w' : World} {B β : Nat} {v : Value} {vs : List Value} {xss : List (List Int)} (h : Cq w B v vs xss) (hd : Dw β w w') (hβ : β < B) : Cq w' B v vs xss :=
  ⟨rowmove h.row fun b hb => hd.block b (rowlt h.row hb).2 (fun e => by cases e; have := (rowlt h.row hb).1; omega), h.len, fun i u xs h1 h2 => (h.own i u xs h1 h2).far hd hβ, h.dj⟩
theorem Cq.later {w w' : World} {B : Nat} {v : Value} {vs : List Value} {xss : List (List Int)} (h : Cq w B v vs xss) (hb : Below w.heap.size w w') : Cq w' B v vs xss :=
  ⟨rowmove h.row fun b hb' => hb.block b (rowlt h.row hb').2, h.len, fun i u xs h1 h2 => (h.own i u xs h1 h2).later hb, h.dj⟩
theorem Cq.nil (w : World) (B : Nat) : Cq w B (.slice none 0 0) [] [] := ⟨⟨rfl, .inl ⟨rfl, rfl⟩⟩, rfl, fun i u xs h => by simp at h, fun i j u u' h => by simp at h⟩
/-- A cell of a block that is neither is written. -/
theorem Cq.other {w : World} {B g i : Nat} {v : Value} {vs : List Value} {xss : List (List Int)} {cs : Array Value} {t : TypeId} (h : Cq w B v vs xss) (hg : w.heap[g]? = some (.cells cs t (0, 0))) (h1 : t ≠ 2) (h2 : t ≠ 51) (x : Value) : Cq (w.setCell ⟨g, i, none⟩ x) B v vs xss :=
  ⟨rowmove h.row fun b hb => heap_setCell_other _ _ _ _ (fun e => by
      simp only [] at e
      obtain ⟨c, hc⟩ := rowty h.row hb
      rw [e, hg] at hc
      cases hc
      exact h2 rfl), h.len, fun j u xs k1 k2 => (h.own j u xs k1 k2).move fun b hb => heap_setCell_other _ _ _ _ (fun e => by
      simp only [] at e
      obtain ⟨c, hc⟩ := rowty (h.own j u xs k1 k2) hb
      rw [e, hg] at hc
      cases hc
      exact h1 rfl), h.dj⟩

theorem last_or {α : Type} {l : List α} {x y : α} {i : Nat} (hi : (l ++ [x])[i]? = some y) : i < l.length ∧ l[i]? = some y ∨ i = l.length ∧ y = x := by
  by_cases h1 : i < l.length
  · rw [List.getElem?_append_left h1] at hi; exact .inl ⟨h1, hi⟩
  · rw [List.getElem?_append_right (by omega)] at hi
    have h2 : i - l.length = 0 := by
      have := (List.getElem?_eq_some_iff.1 hi).1
      simp at this; omega
    rw [h2] at hi
    simp at hi
    exact .inr ⟨by omega, hi.symm⟩

/-- One row more, of a block that is new. -/
theorem Cq.push {w w1 w2 : World} {B : Nat} {v v' u : Value} {vs : List Value} {xss : List (List Int)} {xs : List Int} (h : Cq w B v vs xss) (hb : Below w.heap.size w w1) (hu : OI w1 B u xs) (hnew : ∀ b, u.ownBlock = some b → w.heap.size ≤ b) (hrow : w2.ownsRow B 51 1 v' (vs ++ [u]).length (vs ++ [u])) (hg : w1.grownBy w2 v.ownBlock) : Cq w2 B v' (vs ++ [u]) (xss ++ [xs]) where
  row := hrow
  len := by simp [h.len]
  own := fun i y ys h1 h2 => by
    have hl := h.len
    have h' := h.later hb
    have key : ∀ (y : Value) (ys : List Int), OI w1 B y ys → OI w2 B y ys := fun y ys ho => ho.move fun b hb' => hg.block b (ho.lt hb').2 (fun e => rowapart h'.row ho e.symm hb')
    rcases last_or h1 with ⟨a1, a2⟩ | ⟨a1, rfl⟩
    · rcases last_or h2 with ⟨c1, c2⟩ | ⟨c1, rfl⟩
      · exact key _ _ (h'.own i y ys a2 c2)
      · omega
    · rcases last_or h2 with ⟨c1, c2⟩ | ⟨c1, rfl⟩
      · omega
      · exact key _ _ hu
  dj := fun i j y y' h1 h2 hne b hb1 hb2 => by
    have hl := h.len
    rcases last_or h1 with ⟨a1, a2⟩ | ⟨a1, rfl⟩
    · rcases last_or h2 with ⟨c1, c2⟩ | ⟨c1, rfl⟩
      · exact h.dj i j y y' a2 c2 hne b hb1 hb2
      · obtain ⟨z, hz⟩ : ∃ z, xss[i]? = some z := ⟨xss[i]'(by omega), List.getElem?_eq_getElem _⟩
        have := ((h.own i y z a2 hz).lt hb1).2
        have := hnew b hb2
        omega
    · rcases last_or h2 with ⟨c1, c2⟩ | ⟨c1, rfl⟩
      · obtain ⟨z, hz⟩ : ∃ z, xss[j]? = some z := ⟨xss[j]'(by omega), List.getElem?_eq_getElem _⟩
        have := ((h.own j y' z c2 hz).lt hb2).2
        have := hnew b hb1
        omega
      · omega

/-- One row has grown, and is put into its place. -/
theorem Cq.step {w w1 : World} {B g n c k : Nat} {vs : List Value} {xss : List (List Int)} {u u' : Value} {xs ys : List Int} (h : Cq w B (.slice (some ⟨g, 0, none⟩) n c) vs xss) (hk : vs[k]? = some u) (hx : xss[k]? = some xs) (ho : OI w1 B u' ys) (hg : w.grownBy w1 u.ownBlock) (hat : ∀ b, u'.ownBlock = some b → u.ownBlock = some b ∨ w.heap.size ≤ b) :
    Cq (w1.setCell ⟨g, k, none⟩ u') B (.slice (some ⟨g, 0, none⟩) n c) (vs.set k u') (xss.set k ys) := by
  have hu := h.own k u xs hk hx
  obtain ⟨cur0, hc0⟩ := rowty h.row (b := g) rfl
  have hne : u.ownBlock ≠ some g := rowapart h.row hu rfl
  have hc1 : w1.heap[g]? = some (.cells cur0 51 (0, 0)) := by rw [hg.block g (lt_of_block hc0) (fun e => hne e.symm)]; exact hc0
  have hkl : k < vs.length := (List.getElem?_eq_some_iff.1 hk).1
  have hkx : k < xss.length := (List.getElem?_eq_some_iff.1 hx).1
  refine ⟨?_, by simp [h.len], fun i y zs h1 h2 => ?_, fun i j y y' h1 h2 hij b hb1 hb2 => ?_⟩
  · rcases h.row with ⟨r1, ⟨e, -⟩ | ⟨g', cap, cur, e, r2, r3, r4, r5, r6, r7⟩⟩
    · cases e
    · cases e
      rw [hc0] at r3
      cases r3
      refine ⟨by simp, .inr ⟨g, c, cur0.setIfInBounds k u', by rw [List.length_set], r2, heap_setCell_same w1 g k _ _ _ hc1, by rw [List.length_set]; exact r4, r5, by simpa using r6, ?_⟩⟩
      rw [List.length_set, Array.toList_setIfInBounds, List.take_set, r7]
  · rw [List.getElem?_set] at h1 h2
    have mv : ∀ (y : Value) (zs : List Int), OI w1 B y zs → OI (w1.setCell ⟨g, k, none⟩ u') B y zs := fun y zs hz => hz.move fun b hb => heap_setCell_other _ _ _ _ (fun e => by
      simp only [] at e
      obtain ⟨c2, hc2⟩ := rowty hz hb
      rw [e, hc1] at hc2
      cases hc2)
    by_cases e : k = i
    · rw [if_pos e, if_pos hkl] at h1
      rw [if_pos e, if_pos hkx] at h2
      simp at h1 h2
      subst h1; subst h2
      exact mv _ _ ho
    · rw [if_neg e] at h1 h2
      have hz := h.own i y zs h1 h2
      exact mv _ _ (hz.move fun b hb => hg.block b (hz.lt hb).2 (fun e' => h.dj k i u y hk h1 e b e'.symm hb))
  · rw [List.getElem?_set] at h1 h2
    have hold : ∀ (i : Nat) (y : Value), vs[i]? = some y → ∀ b, y.ownBlock = some b → b < w.heap.size := fun i y hy b hb => by
      obtain ⟨z, hz⟩ : ∃ z, xss[i]? = some z := ⟨xss[i]'(by rw [← h.len]; exact (List.getElem?_eq_some_iff.1 hy).1), List.getElem?_eq_getElem _⟩
      exact ((h.own i y z hy hz).lt hb).2
    by_cases e1 : k = i
    · rw [if_pos e1, if_pos hkl] at h1
      simp at h1
      subst h1
      rw [if_neg (by omega)] at h2
      rcases hat b hb1 with h9 | h9
      · exact h.dj k j u y' hk h2 (by omega) b h9 hb2
      · have := hold j y' h2 b hb2
        omega
    · rw [if_neg e1] at h1
      by_cases e2 : k = j
      · rw [if_pos e2, if_pos hkl] at h2
        simp at h2
        subst h2
        rcases hat b hb2 with h9 | h9
        · exact h.dj k i u y hk h1 (by omega) b h9 hb1
        · have := hold i y h1 b hb1
          omega
      · rw [if_neg e2] at h2
        exact h.dj i j y y' h1 h2 hij b hb1 hb2

/-- The cells of the row. -/
theorem Cq.cell {w : World} {B g n c k : Nat} {vs : List Value} {xss : List (List Int)} {u : Value} (h : Cq w B (.slice (some ⟨g, 0, none⟩) n c) vs xss) (hk : vs[k]? = some u) : w.cell? ⟨g, k, none⟩ = some u ∧ w.frozen? ⟨g, k, none⟩ = false := by
  rcases h.row with ⟨r1, ⟨e, -⟩ | ⟨g', cap, cur, e, r2, r3, r4, r5, r6, r7⟩⟩
  · cases e
  · cases e
    refine ⟨?_, frozen_of_row w g k _ _ r3⟩
    rw [cell_of_row w g k cur _ _ r3]
    have hkl := (List.getElem?_eq_some_iff.1 hk).1
    rw [← r7, List.getElem?_take, if_pos (by omega)] at hk
    simpa using hk

end Go.Proofs.Ytnfagdfaphihhaa
