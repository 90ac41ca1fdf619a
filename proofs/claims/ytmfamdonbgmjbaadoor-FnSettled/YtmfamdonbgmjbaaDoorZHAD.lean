/- Several texts in one. -/
import Derived.Test.YtmfamdonbgmjbaaDoorZHAA
import Derived.Test.YtmfamdonbgmjbaaDoorZGAC
import Derived.Deep.SlicePairs

/- Rows of rows of numbers of one's own, while a reader of draws is turned. -/
namespace Go.Proofs.YtmfamdonbgmjbaaDoor
set_option linter.unusedVariables false
set_option linter.unusedSimpArgs false
open Go.RowKit

theorem Tryd.infoRows : (Tryd.prog.info? 25).map (fun i => (i.zero, i.size, i.bytes)) = some (some (.slice none 0 0), 1, 24) := by kernel_rfl

/-- A row of rows: the row itself, and each row in memory of its own. -/
structure Cq (w : World) (B : Nat) (v : Value) (vs : List Value) (xss : List (List Int)) : Prop where
  row : w.ownsRow B 25 1 v vs.length vs
  len : vs.length = xss.length
  own : ∀ (i : Nat) (u : Value) (xs : List Int), vs[i]? = some u → xss[i]? = some xs → OI w B u xs
  dj : ∀ (i j : Nat) (u u' : Value), vs[i]? = some u → vs[j]? = some u' → i ≠ j → ∀ b, u.ownBlock = some b → u'.ownBlock ≠ some b

theorem rowlt {w : World} {B n : Nat} {e : TypeId} {v : Value} {xs : List Value} (h : w.ownsRow B e 1 v n xs) {b : Nat} (hb : v.ownBlock = some b) : B ≤ b ∧ b < w.heap.size := by
  rcases h.2 with ⟨rfl, -⟩ | ⟨g, cap, cur, rfl, hg, hh, -⟩
  · cases hb
  · cases hb
    exact ⟨hg, lt_of_block hh⟩
theorem rowty {w : World} {B n : Nat} {e : TypeId} {v : Value} {xs : List Value} (h : w.ownsRow B e 1 v n xs) {b : Nat} (hb : v.ownBlock = some b) : ∃ cur, w.heap[b]? = some (.cells cur e (0, 0)) := by
  rcases h.2 with ⟨rfl, -⟩ | ⟨g, cap, cur, rfl, hg, hh, -⟩
  · cases hb
  · cases hb
    exact ⟨cur, hh⟩
theorem rowmove {w w' : World} {B n : Nat} {e : TypeId} {v : Value} {xs : List Value} (h : w.ownsRow B e 1 v n xs) (hk : ∀ b, v.ownBlock = some b → w'.heap[b]? = w.heap[b]?) : w'.ownsRow B e 1 v n xs := by
  refine ⟨h.1, ?_⟩
  rcases h.2 with h0 | ⟨g, cap, cur, rfl, hg, hh, r⟩
  · exact .inl h0
  · exact .inr ⟨g, cap, cur, rfl, hg, (hk g rfl).trans hh, r⟩
/-- Rows of numbers and a row of rows never lie in one block. -/
theorem rowapart {w : World} {B B' n : Nat} {v u : Value} {vs : List Value} {xs : List Int} (h : w.ownsRow B 25 1 v n vs) (ho : OI w B' u xs) {b : Nat} (hb : v.ownBlock = some b) : u.ownBlock ≠ some b := fun hu => by
  obtain ⟨c1, e1⟩ := rowty h hb
  obtain ⟨c2, e2⟩ := rowty ho hu
  rw [e1] at e2
  cases e2

theorem Cq.far {w w' : World} {B β : Nat} {v : Value} {vs : List Value} {xss : List (List Int)} (h : Cq w B v vs xss) (hd : Dw β w w') (hβ : β < B) : Cq w' B v vs xss :=
  ⟨rowmove h.row fun b hb => hd.block b (rowlt h.row hb).2 (fun e => by cases e; have := (rowlt h.row hb).1; omega), h.len, fun i u xs h1 h2 => (h.own i u xs h1 h2).far hd hβ, h.dj⟩
theorem Cq.later {w w' : World} {B : Nat} {v : Value} {vs : List Value} {xss : List (List Int)} (h : Cq w B v vs xss) (hb : Below w.heap.size w w') : Cq w' B v vs xss :=
  ⟨rowmove h.row fun b hb' => hb.block b (rowlt h.row hb').2, h.len, fun i u xs h1 h2 => (h.own i u xs h1 h2).later hb, h.dj⟩
theorem Cq.nil (w : World) (B : Nat) : Cq w B (.slice none 0 0) [] [] := ⟨⟨rfl, .inl ⟨rfl, rfl⟩⟩, rfl, fun i u xs h => by simp at h, fun i j u u' h => by simp at h⟩
/-- A cell of a block that is neither is written. -/
theorem Cq.other {w : World} {B g i : Nat} {v : Value} {vs : List Value} {xss : List (List Int)} {cs : Array Value} {t : TypeId} (h : Cq w B v vs xss) (hg : w.heap[g]? = some (.cells cs t (0, 0))) (h1 : t ≠ 2) (h2 : t ≠ 25) (x : Value) : Cq (w.setCell ⟨g, i, none⟩ x) B v vs xss :=
  ⟨rowmove h.row fun b hb => heap_setCell_other _ _ _ _ (fun e => by
      simp only [] at e
      obtain ⟨c, hc⟩ := rowty h.row hb
      rw [e, hg] at hc
      cases hc
      exact h2 rfl), h.len, fun j u xs k1 k2 => (h.own j u xs k1 k2).move fun b hb => heap_setCell_other _ _ _ _ (fun e => by
      simp only [] at e
      obtain ⟨c, hc⟩ := rowty (h.own j u xs k1 k2) hb
      rw [e, hg] at hc
      cases hc
      exact h1 rfl), h.dj⟩

theorem last_or {α : Type} {l : List α} {x y : α} {i : Nat} (hi : (l ++ [x])[i]? = some y) : i < l.length ∧ l[i]? = some y ∨ i = l.length ∧ y = x := by
  by_cases h1 : i < l.length
  · rw [List.getElem?_append_left h1] at hi; exact .inl ⟨h1, hi⟩
  · rw [List.getElem?_append_right (by omega)] at hi
    have h2 : i - l.length = 0 := by
      have := (List.getElem?_eq_some_iff.1 hi).1
      simp at this; omega
    rw [h2] at hi
    simp at hi
    exact .inr ⟨by omega, hi.symm⟩

/-- One row more, of a block that is new. -/
theorem Cq.push {w w1 w2 : World} {B : Nat} {v v' u : Value} {vs : List Value} {xss : List (List Int)} {xs : List Int} (h : Cq w B v vs xss) (hb : Below w.heap.size w w1) (hu : OI w1 B u xs) (hnew : ∀ b, u.ownBlock = some b → w.heap.size ≤ b) (hrow : w2.ownsRow B 25 1 v' (vs ++ [u]).length (vs ++ [u])) (hg : w1.grownBy w2 v.ownBlock) : Cq w2 B v' (vs ++ [u]) (xss ++ [xs]) where
  row := hrow
  len := by simp [h.len]
  own := fun i y ys h1 h2 => by
    have hl := h.len
    have h' := h.later hb
    have key : ∀ (y : Value) (ys : List Int), OI w1 B y ys → OI w2 B y ys := fun y ys ho => ho.move fun b hb' => hg.block b (ho.lt hb').2 (fun e => rowapart h'.row ho e.symm hb')
    rcases last_or h1 with ⟨a1, a2⟩ | ⟨a1, rfl⟩
    · rcases last_or h2 with ⟨c1, c2⟩ | ⟨c1, rfl⟩
      · exact key _ _ (h'.own i y ys a2 c2)
      · omega
    · rcases last_or h2 with ⟨c1, c2⟩ | ⟨c1, rfl⟩
      · omega
      · exact key _ _ hu
  dj := fun i j y y' h1 h2 hne b hb1 hb2 => by
    have hl := h.len
    rcases last_or h1 with ⟨a1, a2⟩ | ⟨a1, rfl⟩
    · rcases last_or h2 with ⟨c1, c2⟩ | ⟨c1, rfl⟩
      · exact h.dj i j y y' a2 c2 hne b hb1 hb2
      · obtain ⟨z, hz⟩ : ∃ z, xss[i]? = some z := ⟨xss[i]'(by omega), List.getElem?_eq_getElem _⟩
        have := ((h.own i y z a2 hz).lt hb1).2
        have := hnew b hb2
        omega
    · rcases last_or h2 with ⟨c1, c2⟩ | ⟨c1, rfl⟩
      · obtain ⟨z, hz⟩ : ∃ z, xss[j]? = some z := ⟨xss[j]'(by omega), List.getElem?_eq_getElem _⟩
        have := ((h.own j y' z c2 hz).lt hb2).2
        have := hnew b hb1
        omega
      · omega

/-- One row has grown, and is put into its place. -/
theorem Cq.step {w w1 : World} {B g n c k : Nat} {vs : List Value} {xss : List (List Int)} {u u' : Value} {xs ys : List Int} (h : Cq w B (.slice (some ⟨g, 0, none⟩) n c) vs xss) (hk : vs[k]? = some u) (hx : xss[k]? = some xs) (ho : OI w1 B u' ys) (hg : w.grownBy w1 u.ownBlock) (hat : ∀ b, u'.ownBlock = some b → u.ownBlock = some b ∨ w.heap.size ≤ b) :
    Cq (w1.setCell ⟨g, k, none⟩ u') B (.slice (some ⟨g, 0, none⟩) n c) (vs.set k u') (xss.set k ys) := by
  have hu := h.own k u xs hk hx
  obtain ⟨cur0, hc0⟩ := rowty h.row (b := g) rfl
  have hne : u.ownBlock ≠ some g := rowapart h.row hu rfl
  have hc1 : w1.heap[g]? = some (.cells cur0 25 (0, 0)) := by rw [hg.block g (lt_of_block hc0) (fun e => hne e.symm)]; exact hc0
  have hkl : k < vs.length := (List.getElem?_eq_some_iff.1 hk).1
  have hkx : k < xss.length := (List.getElem?_eq_some_iff.1 hx).1
  refine ⟨?_, by simp [h.len], fun i y zs h1 h2 => ?_, fun i j y y' h1 h2 hij b hb1 hb2 => ?_⟩
  · rcases h.row with ⟨r1, ⟨e, -⟩ | ⟨g', cap, cur, e, r2, r3, r4, r5, r6, r7⟩⟩
    · cases e
    · cases e
      rw [hc0] at r3
      cases r3
      refine ⟨by simp, .inr ⟨g, c, cur0.setIfInBounds k u', by rw [List.length_set], r2, heap_setCell_same w1 g k _ _ _ hc1, by rw [List.length_set]; exact r4, r5, by simpa using r6, ?_⟩⟩
      rw [List.length_set, Array.toList_setIfInBounds, List.take_set, r7]
  · rw [List.getElem?_set] at h1 h2
    have mv : ∀ (y : Value) (zs : List Int), OI w1 B y zs → OI (w1.setCell ⟨g, k, none⟩ u') B y zs := fun y zs hz => hz.move fun b hb => heap_setCell_other _ _ _ _ (fun e => by
      simp only [] at e
      obtain ⟨c2, hc2⟩ := rowty hz hb
      rw [e, hc1] at hc2
      cases hc2)
    by_cases e : k = i
    · rw [if_pos e, if_pos hkl] at h1
      rw [if_pos e, if_pos hkx] at h2
      simp at h1 h2
      subst h1; subst h2
      exact mv _ _ ho
    · rw [if_neg e] at h1 h2
      have hz := h.own i y zs h1 h2
      exact mv _ _ (hz.move fun b hb => hg.block b (hz.lt hb).2 (fun e' => h.dj k i u y hk h1 e b e'.symm hb))
  · rw [List.getElem?_set] at h1 h2
    have hold : ∀ (i : Nat) (y : Value), vs[i]? = some y → ∀ b, y.ownBlock = some b → b < w.heap.size := fun i y hy b hb => by
      obtain ⟨z, hz⟩ : ∃ z, xss[i]? = some z := ⟨xss[i]'(by rw [← h.len]; exact (List.getElem?_eq_some_iff.1 hy).1), List.getElem?_eq_getElem _⟩
      exact ((h.own i y z hy hz).lt hb).2
    by_cases e1 : k = i
    · rw [if_pos e1, if_pos hkl] at h1
      simp at h1
      subst h1
      rw [if_neg (by omega)] at h2
      rcases hat b hb1 with h9 | h9
      · exact h.dj k j u y' hk h2 (by omega) b h9 hb2
      · have := hold j y' h2 b hb2
        omega
    · rw [if_neg e1] at h1
      by_cases e2 : k = j
      · rw [if_pos e2, if_pos hkl] at h2
        simp at h2
        subst h2
        rcases hat b hb2 with h9 | h9
        · exact h.dj k i u y hk h1 (by omega) b h9 hb1
        · have := hold i y h1 b hb1
          omega
      · rw [if_neg e2] at h2
        exact h.dj i j y y' h1 h2 hij b hb1 hb2

/-- The cells of the row. -/
theorem Cq.cell {w : World} {B g n c k : Nat} {vs : List Value} {xss : List (List Int)} {u : Value} (h : Cq w B (.slice (some ⟨g, 0, none⟩) n c) vs xss) (hk : vs[k]? = some u) : w.cell? ⟨g, k, none⟩ = some u ∧ w.frozen? ⟨g, k, none⟩ = false := by
  rcases h.row with ⟨r1, ⟨e, -⟩ | ⟨g', cap, cur, e, r2, r3, r4, r5, r6, r7⟩⟩
  · cases e
  · cases e
    refine ⟨?_, frozen_of_row w g k _ _ r3⟩
    rw [cell_of_row w g k cur _ _ r3]
    have hkl := (List.getElem?_eq_some_iff.1 hk).1
    rw [← r7, List.getElem?_take, if_pos (by omega)] at hk
    simpa using hk

end Go.Proofs.YtmfamdonbgmjbaaDoor

/- Drawn clauses: the memory. -/
namespace Go.Proofs.YtmfamdonbgmjbaaDoor
set_option linter.unusedVariables false
set_option linter.unusedSimpArgs false
open Go.RowKit

/-- 'append(rows, row)' in a row of operations. -/
theorem wpList_appR {w : World} {ops : Array Oper} {rest : List Oper} {o : Oper} {a : Act} {Q : Exit → Act → World → Prop} (hgd : o.guard = none) (s x : Operand)
    (ho : o.op = .call { callee := .builtin .append, args := #[s, x], argTypes := #[22, 22] })
    (B : Nat) (v : Value) (l : List Value) (y : Value) (hy : y.oneCell' = true) (hs : a.eval s = v) (hown : w.ownsRow B 25 1 v l.length l) (gx c : Nat) (hx : a.eval x = .slice (some ⟨gx, 0, none⟩) 1 c)
    (h0 : w.cell? ⟨gx, 0, none⟩ = some y) (hl : l.length ≤ 1073741824) (hB : B ≤ w.heap.size)
    (h : ∀ g cap w', w'.ownsRow B 25 1 (.slice (some ⟨g, 0, none⟩) (l.length + 1) cap) (l ++ [y]).length (l ++ [y]) → w.grownBy w' v.ownBlock → wpList Tryd.prog ops Q rest (a.put o.dst (.slice (some ⟨g, 0, none⟩) (l.length + 1) cap)) w') : wpList Tryd.prog ops Q (o :: rest) a w := by
  obtain ⟨i0, hi, hz0, hz1, hz2⟩ := info_parts Tryd.infoRows
  refine wpList_append_lies w hgd s x 22 ho B 25 i0 _ 1 24 Tryd.underlying22 hi hz0 hz1 hz2 rfl (by decide) v l.length l hs hown ⟨gx, 0, none⟩ 1 c [y] hx rfl ?_ ?_ (by decide) ?_ ?_ hB _ rfl ?_
  · intro j u hj
    rw [Addr.add_lit]
    match j, hj with
    | 0, hj => simp at hj; subst hj; exact h0
    | j + 1, hj => simp at hj
  · intro u hu
    simp at hu
    subst hu
    exact hy
  · unfold maxLen; omega
  · omega
  · intro g cap w' h1 h2 h3 _
    refine h g cap w' ?_ h2
    rw [List.length_append]
    exact h1

/-- Rows of numbers that can be read, all of it from a block on. -/
def GotII (w : World) (lo : Nat) (a : Option Addr) (xs : List Iw) : Prop := RdII w a xs ∧ (∀ p, a = some p → lo ≤ p.block) ∧ ∀ x ∈ xs, ∀ p, x.a = some p → lo ≤ p.block
theorem OI.form {w : World} {B : Nat} {v : Value} {l : List Int} (h : OI w B v l) : ∃ a c, v = .slice a l.length c := by
  rcases h.2 with ⟨e, h0⟩ | ⟨g, cap, cur, e, -⟩
  · exact ⟨none, 0, by rw [e, h0]⟩
  · exact ⟨_, _, e⟩

theorem GotII.far {w w' : World} {lo β : Nat} {a : Option Addr} {xs : List Iw} (h : GotII w lo a xs) (hd : Dw β w w') (hβ : β < lo) : GotII w' lo a xs := by
  obtain ⟨⟨h1, h2⟩, h3, h4⟩ := h
  refine ⟨⟨h1, ?_⟩, h3, h4⟩
  have key : ∀ (b' o' : Nat) (u : Value), lo ≤ b' → w.cell? ⟨b', o', none⟩ = some u → w'.cell? ⟨b', o', none⟩ = some u := fun b' o' u hl hu => by
    rw [World.cell?_of_block (w := w) (a := ⟨b', o', none⟩) (hd.block b' (block_lt_of_cell hu) (fun e => by cases e; omega))]
    exact hu
  rcases h2 with h2 | ⟨g, o, e, hc⟩
  · exact .inl h2
  · have hg := h3 _ e
    refine .inr ⟨g, o, e, fun j x hj => ?_⟩
    obtain ⟨c0, r1, r2, r3⟩ := hc j x hj
    refine ⟨key _ _ _ hg c0, r1, r2, ?_⟩
    rcases r3 with r3 | ⟨b2, o2, e2, hc2⟩
    · exact .inl r3
    · exact .inr ⟨b2, o2, e2, fun t ht => key _ _ _ (h4 x (List.mem_of_getElem? hj) _ e2) (hc2 t ht)⟩
/-- Clauses that can be read, with room enough. -/
def GotC (w : World) (lo : Nat) (a : Option Addr) (xs : List Iw) : Prop := GotII w lo a xs ∧ ∀ x ∈ xs, x.ks.length ≤ x.c
theorem Cq.rdC {w : World} {B : Nat} {v : Value} {vs : List Value} {xss : List (List Int)} (h : Cq w B v vs xss) (hn : vs.length ≤ 1048576) (ok : ∀ xs ∈ xss, xs.length ≤ 3 ∧ ∀ x ∈ xs, in64 x) : ∃ (a : Option Addr) (c : Nat) (iws : List Iw), v = .slice a vs.length c ∧ iws.length = vs.length ∧ GotC w B a iws := by
  rcases h.row.2 with ⟨rfl, h0⟩ | ⟨g, cap, cur, rfl, hg, -⟩
  · exact ⟨none, 0, [], by rw [h0], by rw [h0]; rfl, ⟨⟨by simp, .inl rfl⟩, (fun p hp => by cases hp), (fun x hx => by cases hx)⟩, (fun x hx => by cases hx)⟩
  · have each : ∀ i, i < vs.length → ∃ x : Iw, IwAt w g i x ∧ (∀ p, x.a = some p → B ≤ p.block) ∧ x.ks.length ≤ x.c := fun i hv => by
      have hx : i < xss.length := by rw [← h.len]; exact hv
      have e1 := List.getElem?_eq_getElem hv
      have e2 := List.getElem?_eq_getElem hx
      have ho := h.own i _ _ e1 e2
      have hok := ok _ (List.getElem_mem hx)
      obtain ⟨a, c', e3, h4⟩ := ho.rd (by omega) hok.2
      refine ⟨⟨a, c', xss[i]⟩, ⟨by rw [(h.cell e1).1, e3], h4⟩, ?_⟩
      rw [e3] at ho
      have h9 := ho.2
      simp only []
      generalize xss[i].length = m at h9 ⊢
      rcases h9 with ⟨e', e5⟩ | ⟨g', cap', cur', e', hg', -, h6, -⟩
      · cases e'
        exact ⟨(fun p hp => by cases hp), Nat.le_refl _⟩
      · cases e'
        exact ⟨fun p hp => by cases hp; exact hg', h6⟩
    haveI : Inhabited Iw := ⟨⟨none, 0, []⟩⟩
    obtain ⟨q, hq⟩ := Deep.choose_lt each
    refine ⟨some ⟨g, 0, none⟩, cap, (List.range vs.length).map q, rfl, by simp, ⟨⟨by simpa using hn, .inr ⟨g, 0, rfl, fun i x hi => ?_⟩⟩, fun p hp => by cases hp; exact hg, fun x hx => ?_⟩, fun x hx => ?_⟩
    · have hil : i < vs.length := by have := (List.getElem?_eq_some_iff.1 hi).1; simpa using this
      simp [hil] at hi
      subst hi
      rw [Nat.zero_add]
      exact (hq i hil).1
    · obtain ⟨i, hi, rfl⟩ := List.mem_map.1 hx
      exact (hq i (List.mem_range.1 hi)).2.1
    · obtain ⟨i, hi, rfl⟩ := List.mem_map.1 hx
      exact (hq i (List.mem_range.1 hi)).2.2
/-- One row more, of a block that is none of the others'. -/
theorem Cq.push2 {w1 w2 : World} {B : Nat} {v v' u : Value} {vs : List Value} {xss : List (List Int)} {xs : List Int} (h : Cq w1 B v vs xss) (hu : OI w1 B u xs) (hdj : ∀ (i : Nat) y b, vs[i]? = some y → y.ownBlock = some b → u.ownBlock ≠ some b) (hrow : w2.ownsRow B 25 1 v' (vs ++ [u]).length (vs ++ [u])) (hg : w1.grownBy w2 v.ownBlock) : Cq w2 B v' (vs ++ [u]) (xss ++ [xs]) where
  row := hrow
  len := by simp [h.len]
  own := fun i y ys h1 h2 => by
    have hl := h.len
    have key : ∀ (y : Value) (ys : List Int), OI w1 B y ys → OI w2 B y ys := fun y ys ho => ho.move fun b hb' => hg.block b (ho.lt hb').2 (fun e => rowapart h.row ho e.symm hb')
    rcases last_or h1 with ⟨a1, a2⟩ | ⟨a1, rfl⟩
    · rcases last_or h2 with ⟨c1, c2⟩ | ⟨c1, rfl⟩
      · exact key _ _ (h.own i y ys a2 c2)
      · omega
    · rcases last_or h2 with ⟨c1, c2⟩ | ⟨c1, rfl⟩
      · omega
      · exact key _ _ hu
  dj := fun i j y y' h1 h2 hne b hb1 hb2 => by
    rcases last_or h1 with ⟨a1, a2⟩ | ⟨a1, rfl⟩
    · rcases last_or h2 with ⟨c1, c2⟩ | ⟨c1, rfl⟩
      · exact h.dj i j y y' a2 c2 hne b hb1 hb2
      · exact hdj i y b a2 hb1 hb2
    · rcases last_or h2 with ⟨c1, c2⟩ | ⟨c1, rfl⟩
      · exact hdj j y' b c2 hb2 hb1
      · omega
/-- Clauses under way: the box, the box of the answer, the rows, the reader. -/
structure Kc (w0 w : World) (β : Nat) (a : Option Addr) (c : Nat) (bs : List Nat) (xb rb : Nat) (S : Int) (v : Value) (vs : List Value) (xss : List (List Int)) : Prop where
  box : Bz w xb #[.int .i64 S, v] 29
  rbox : Bz w rb #[.int .i64 0, .slice none 0 0] 29
  ct : Cq w w0.heap.size v vs xss
  ok : ∀ xs ∈ xss, xs.length ≤ 3 ∧ ∀ x ∈ xs, in64 x
  rr : Rr w β a c bs
  dw : Dw β w0 w
theorem Bz.farD {w w' : World} {b β : Nat} {cs : Array Value} {t : TypeId} (h : Bz w b cs t) (hd : Dw β w w') (hn : b ≠ β) : Bz w' b cs t := (hd.block b h.lt (fun e => hn (Option.some.inj e))).trans h
theorem Kc.far {w0 w w' : World} {β : Nat} {a : Option Addr} {c : Nat} {bs : List Nat} {xb rb : Nat} {S : Int} {v : Value} {vs : List Value} {xss : List (List Int)} (h : Kc w0 w β a c bs xb rb S v vs xss) (hd : Dw β w w') (hr : Rr w' β a c bs) (hβ : β < w0.heap.size) (h1 : w0.heap.size ≤ xb) (h2 : w0.heap.size ≤ rb) : Kc w0 w' β a c bs xb rb S v vs xss :=
  ⟨h.box.farD hd (by omega), h.rbox.farD hd (by omega), h.ct.far hd hβ, h.ok, hr, h.dw.trans hd⟩
theorem Kc.later {w0 w w' : World} {β : Nat} {a : Option Addr} {c : Nat} {bs : List Nat} {xb rb : Nat} {S : Int} {v : Value} {vs : List Value} {xss : List (List Int)} (h : Kc w0 w β a c bs xb rb S v vs xss) (hb : Below w.heap.size w w') : Kc w0 w' β a c bs xb rb S v vs xss :=
  ⟨h.box.later hb, h.rbox.later hb, h.ct.later hb, h.ok, h.rr.later hb, h.dw.trans (Dw.of hb)⟩
/-- A row of numbers that is none of the clauses grows. -/
theorem Kc.grow {w0 w w' : World} {β : Nat} {a : Option Addr} {c : Nat} {bs : List Nat} {xb rb : Nat} {S : Int} {v u : Value} {vs : List Value} {xss : List (List Int)} {l : List Int} (h : Kc w0 w β a c bs xb rb S v vs xss) (hr0 : Rr w0 β a c bs) (hu : OI w w0.heap.size u l) (hdj : ∀ (i : Nat) y b, vs[i]? = some y → y.ownBlock = some b → u.ownBlock ≠ some b) (hg : w.grownBy w' u.ownBlock) : Kc w0 w' β a c bs xb rb S v vs xss := by
  have hn : ∀ {b : Nat} {cs : Array Value} {t : TypeId}, Bz w b cs t → t ≠ 2 → Bz w' b cs t := fun {b cs t} hb ht => (hg.block b hb.lt (fun e => by
    obtain ⟨c2, e2⟩ := rowty hu e.symm
    have := hb.symm.trans e2
    simp at this
    exact ht this.2)).trans hb
  refine ⟨hn h.box (by decide), hn h.rbox (by decide), ⟨rowmove h.ct.row fun b hb => hg.block b (rowlt h.ct.row hb).2 (fun e => rowapart h.ct.row hu hb e.symm), h.ct.len, fun i y xs h1 h2 => (h.ct.own i y xs h1 h2).move fun b hb => hg.block b ((h.ct.own i y xs h1 h2).lt hb).2 (fun e => hdj i y b h1 hb e.symm), h.ct.dj⟩, h.ok, hr0.far h.rr hg (fun k e => (hu.lt e).1), h.dw.own hg (fun k e => (hu.lt e).1)⟩
/-- A clause is appended, and the row put into its place. -/
theorem Kc.push {w0 w w2 : World} {β : Nat} {a : Option Addr} {c : Nat} {bs : List Nat} {xb rb : Nat} {S : Int} {v v' u : Value} {vs : List Value} {xss : List (List Int)} {l : List Int} (h : Kc w0 w β a c bs xb rb S v vs xss) (hr0 : Rr w0 β a c bs) (hx : w0.heap.size ≤ xb) (hxr : xb ≠ rb) (hu : OI w w0.heap.size u l) (hl : l.length ≤ 3 ∧ ∀ x ∈ l, in64 x) (hdj : ∀ (i : Nat) y b, vs[i]? = some y → y.ownBlock = some b → u.ownBlock ≠ some b) (hrow : w2.ownsRow w0.heap.size 25 1 v' (vs ++ [u]).length (vs ++ [u])) (hg : w.grownBy w2 v.ownBlock) :
    Kc w0 (w2.setCell ⟨xb, 1, none⟩ v') β a c bs xb rb S v' (vs ++ [u]) (xss ++ [l]) := by
  have hn : ∀ {b : Nat} {cs : Array Value} {t : TypeId}, Bz w b cs t → t ≠ 25 → Bz w2 b cs t := fun {b cs t} hb ht => (hg.block b hb.lt (fun e => by
    obtain ⟨c2, e2⟩ := rowty h.ct.row e.symm
    have := hb.symm.trans e2
    simp at this
    exact ht this.2)).trans hb
  have x2 := hn h.box (by decide)
  have ct2 := h.ct.push2 hu hdj hrow hg
  have hx2 : Bz (w2.setCell ⟨xb, 1, none⟩ v') xb #[.int .i64 S, v'] 29 := x2.set 1 v'
  have hr2 : Bz (w2.setCell ⟨xb, 1, none⟩ v') rb #[.int .i64 0, .slice none 0 0] 29 := (heap_setCell_other _ _ _ _ (by show rb ≠ xb; omega)).trans (hn h.rbox (by decide))
  refine ⟨hx2, hr2, ct2.other (g := xb) (i := 1) x2 (by decide) (by decide) v', fun xs hxs => ?_, ?_, ?_⟩
  · rcases List.mem_append.1 hxs with h1 | h1
    · exact h.ok xs h1
    · rw [List.mem_singleton.1 h1]; exact hl
  · exact hr0.far (hr0.far h.rr hg (fun k e => (rowlt h.ct.row e).1)) (gsc w2 ⟨xb, 1, none⟩ _) (fun k e => by cases e; exact hx)
  · exact (h.dw.own hg (fun k e => (rowlt h.ct.row e).1)).own (gsc w2 ⟨xb, 1, none⟩ _) (fun k e => by cases e; exact hx)
/-- The number of switches is changed. -/
theorem Kc.setS {w0 w : World} {β : Nat} {a : Option Addr} {c : Nat} {bs : List Nat} {xb rb : Nat} {S S' : Int} {v : Value} {vs : List Value} {xss : List (List Int)} (h : Kc w0 w β a c bs xb rb S v vs xss) (hr0 : Rr w0 β a c bs) (hx : w0.heap.size ≤ xb) (hxr : xb ≠ rb) : Kc w0 (w.setCell ⟨xb, 0, none⟩ (.int .i64 S')) β a c bs xb rb S' v vs xss := by
  have hr2 : Bz (w.setCell ⟨xb, 0, none⟩ (.int .i64 S')) rb #[.int .i64 0, .slice none 0 0] 29 := (heap_setCell_other _ _ _ _ (by show rb ≠ xb; omega)).trans h.rbox
  exact ⟨h.box.set 0 _, hr2, h.ct.other (g := xb) (i := 0) h.box (by decide) (by decide) _, h.ok, hr0.far h.rr (gsc w ⟨xb, 0, none⟩ _) (fun k e => by cases e; exact hx), h.dw.own (gsc w ⟨xb, 0, none⟩ _) (fun k e => by cases e; exact hx)⟩
/-- What is drawn. -/
def RetCn (β : Nat) (a : Option Addr) (c : Nat) (bs : List Nat) (w : World) (e : Ending) (w' : World) : Prop := ∃ (S : Int) (ca : Option Addr) (nc cc : Nat) (xs : List Iw), e = .returned (.agg #[.int .i64 S, .slice ca nc cc]) ∧ in64 S ∧ xs.length = nc ∧ nc ≤ 30 ∧ GotC w' w.heap.size ca xs ∧ Rr w' β a c bs ∧ Dw β w w'
end Go.Proofs.YtmfamdonbgmjbaaDoor
