/- Several texts in one. -/
import Derived.Test.YtheglnkndjheaaaGreatDoorZPA
import Derived.Test.YtheglnkndjheaaaGreatDoorZTQ
import Derived.Test.YtheglnkndjheaaaGreatDoorZRX
import Derived.Test.YtheglnkndjheaaaGreatDoorZA
import Derived.Maps.AppendAt
import Derived.Laws.OwnMore
import Derived.Test.YtheglnkndjheaaaGreatDoorFoHD

/- The variables of each literal, by both sides. -/
namespace Go.Proofs.YtheglnkndjheaaaGreatDoor
set_option linter.unusedVariables false
set_option linter.unusedSimpArgs false
open Go.RowKit

theorem varsR_range {ds : List Dc} {ns : List Tc} {x : Int} (h : x ∈ varsR ds ns) : 0 ≤ x ∧ x < (ds.length : Int) := by
  unfold varsR at h
  split at h
  · cases h
  · unfold upV at h
    obtain ⟨m, hm, rfl⟩ := List.mem_map.1 h
    have := List.mem_range.1 (List.mem_filter.1 hm).1
    omega
theorem lv_range {ds : List Dc} {l : Lc} {x : Int} (h : x ∈ lvR ds l) : 0 ≤ x ∧ x < (ds.length : Int) := by
  unfold lvR at h
  rw [risI_mem] at h
  simp only [List.mem_append, List.not_mem_nil, false_or] at h
  rcases h with h | h
  · exact varsR_range h
  · exact varsR_range h
/-- The program's variables of a literal are the given text's. -/
theorem lv_one {ds : List Dc} {l : Lc} (h : sideR ds l = true) : lvR ds l = risL (varL (l.ss ++ l.ts)) := by
  simp only [sideR, Bool.and_eq_true, decide_eq_true_eq] at h
  unfold lvR
  refine ris_eq fun x => ?_
  rw [varL_append, List.mem_append, List.mem_append, varsR_mem h.1, varsR_mem (ds := ds) (ns := l.ts) (by omega)]
/-- .. as numbers of knots. -/
def vN (ds : List Dc) (ls : List Lc) (i : Nat) : List Nat := (((ls[i]?).map (lvR ds)).getD []).map Int.toNat
theorem vN_at {ds : List Dc} {ls : List Lc} {i : Nat} {l : Lc} (h : ls[i]? = some l) : vN ds ls i = (lvR ds l).map Int.toNat := by
  unfold vN
  rw [h]
  rfl
/-- Literals meet where a variable of one is one of the other. -/
theorem vN_meet {ds : List Dc} {ls : List Lc} {i k : Nat} {a b : Lc} (ha : ls[i]? = some a) (hb : ls[k]? = some b) : mtB (vN ds ls) i k = (lvR ds a).any fun x => decide (x ∈ lvR ds b) := by
  rw [Bool.eq_iff_iff, mtB_iff, vN_at ha, vN_at hb]
  simp only [List.any_eq_true, decide_eq_true_eq, List.mem_map]
  constructor
  · rintro ⟨v, ⟨x, hx, rfl⟩, y, hy, e⟩
    have h1 := lv_range hx
    have h2 := lv_range hy
    have : x = y := by omega
    subst this
    exact ⟨x, hx, hy⟩
  · rintro ⟨x, hx, hy⟩
    exact ⟨x.toNat, ⟨x, hx, rfl⟩, x, hy, rfl⟩
/-- Parts' answer. -/
def ptR (ds : List Dc) (ls : List Lc) : List (List Int) × Bool := if litR ds ls = true then (partsR (ls.map Lc.id) (vN ds ls), true) else ([], false)

end Go.Proofs.YtheglnkndjheaaaGreatDoor

/- Rows of rows of numbers of one's own. -/
namespace Go.Proofs.YtheglnkndjheaaaGreatDoor
set_option linter.unusedVariables false
set_option linter.unusedSimpArgs false
open Go.RowKit

theorem Tryz.infoRows : (Tryz.prog.info? 40).map (fun i => (i.zero, i.size, i.bytes)) = some (some (.slice none 0 0), 1, 24) := by kernel_rfl

/-- A row of rows: the row itself, and each row in memory of its own. -/
structure Cq (w : World) (B : Nat) (v : Value) (vs : List Value) (xss : List (List Int)) : Prop where
  row : w.ownsRow B 40 1 v vs.length vs
  len : vs.length = xss.length
  own : ∀ (i : Nat) (u : Value) (xs : List Int), vs[i]? = some u → xss[i]? = some xs → OI w B u xs
  dj : ∀ (i j : Nat) (u u' : Value), vs[i]? = some u → vs[j]? = some u' → i ≠ j → ∀ b, u.ownBlock = some b → u'.ownBlock ≠ some b

theorem rowlt {w : World} {B n : Nat} {e : TypeId} {v : Value} {xs : List Value} (h : w.ownsRow B e 1 v n xs) {b : Nat} (hb : v.ownBlock = some b) : B ≤ b ∧ b < w.heap.size := by
  rcases h.2 with ⟨rfl, -⟩ | ⟨g, cap, cur, rfl, hg, hh, -⟩
  · cases hb
  · cases hb
    exact ⟨hg, lt_of_block hh⟩
theorem rowty {w : World} {B n : Nat} {e : TypeId} {v : Value} {xs : List Value} (h : w.ownsRow B e 1 v n xs) {b : Nat} (hb : v.ownBlock = some b) : ∃ cur, w.heap[b]? = some (.cells cur e (0, 0)) := by
  rcases h.2 with ⟨rfl, -⟩ | ⟨g, cap, cur, rfl, hg, hh, -⟩
  · cases hb
  · cases hb
    exact ⟨cur, hh⟩
theorem rowmove {w w' : World} {B n : Nat} {e : TypeId} {v : Value} {xs : List Value} (h : w.ownsRow B e 1 v n xs) (hk : ∀ b, v.ownBlock = some b → w'.heap[b]? = w.heap[b]?) : w'.ownsRow B e 1 v n xs := by
  refine ⟨h.1, ?_⟩
  rcases h.2 with h0 | ⟨g, cap, cur, rfl, hg, hh, r⟩
  · exact .inl h0
  · exact .inr ⟨g, cap, cur, rfl, hg, (hk g rfl).trans hh, r⟩
/-- Rows of numbers and a row of rows never lie in one block. -/
theorem rowapart {w : World} {B B' n : Nat} {v u : Value} {vs : List Value} {xs : List Int} (h : w.ownsRow B 40 1 v n vs) (ho : OI w B' u xs) {b : Nat} (hb : v.ownBlock = some b) : u.ownBlock ≠ some b := fun hu => by
  obtain ⟨c1, e1⟩ := rowty h hb
  obtain ⟨c2, e2⟩ := rowty ho hu
  rw [e1] at e2
  cases e2

theorem Cq.later {w w' : World} {B : Nat} {v : Value} {vs : List Value} {xss : List (List Int)} (h : Cq w B v vs xss) (hb : Below w.heap.size w w') : Cq w' B v vs xss :=
  ⟨rowmove h.row fun b hb' => hb.block b (rowlt h.row hb').2, h.len, fun i u xs h1 h2 => (h.own i u xs h1 h2).later hb, h.dj⟩
theorem Cq.nil (w : World) (B : Nat) : Cq w B (.slice none 0 0) [] [] := ⟨⟨rfl, .inl ⟨rfl, rfl⟩⟩, rfl, fun i u xs h => by simp at h, fun i j u u' h => by simp at h⟩
/-- A cell of a block that is neither is written. -/
theorem Cq.other {w : World} {B g i : Nat} {v : Value} {vs : List Value} {xss : List (List Int)} {cs : Array Value} {t : TypeId} (h : Cq w B v vs xss) (hg : w.heap[g]? = some (.cells cs t (0, 0))) (h1 : t ≠ 2) (h2 : t ≠ 40) (x : Value) : Cq (w.setCell ⟨g, i, none⟩ x) B v vs xss :=
  ⟨rowmove h.row fun b hb => heap_setCell_other _ _ _ _ (fun e => by
      simp only [] at e
      obtain ⟨c, hc⟩ := rowty h.row hb
      rw [e, hg] at hc
      cases hc
      exact h2 rfl), h.len, fun j u xs k1 k2 => (h.own j u xs k1 k2).move fun b hb => heap_setCell_other _ _ _ _ (fun e => by
      simp only [] at e
      obtain ⟨c, hc⟩ := rowty (h.own j u xs k1 k2) hb
      rw [e, hg] at hc
      cases hc
      exact h1 rfl), h.dj⟩

theorem last_or {α : Type} {l : List α} {x y : α} {i : Nat} (hi : (l ++ [x])[i]? = some y) : i < l.length ∧ l[i]? = some y ∨ i = l.length ∧ y = x := by
  by_cases h1 : i < l.length
  · rw [List.getElem?_append_left h1] at hi; exact .inl ⟨h1, hi⟩
  · rw [List.getElem?_append_right (by omega)] at hi
    have h2 : i - l.length = 0 := by
      have := (List.getElem?_eq_some_iff.1 hi).1
      simp at this; omega
    rw [h2] at hi
    simp at hi
    exact .inr ⟨by omega, hi.symm⟩

/-- One row more, of a block that is new. -/
theorem Cq.push {w w1 w2 : World} {B : Nat} {v v' u : Value} {vs : List Value} {xss : List (List Int)} {xs : List Int} (h : Cq w B v vs xss) (hb : Below w.heap.size w w1) (hu : OI w1 B u xs) (hnew : ∀ b, u.ownBlock = some b → w.heap.size ≤ b) (hrow : w2.ownsRow B 40 1 v' (vs ++ [u]).length (vs ++ [u])) (hg : w1.grownBy w2 v.ownBlock) : Cq w2 B v' (vs ++ [u]) (xss ++ [xs]) where
  row := hrow
  len := by simp [h.len]
  own := fun i y ys h1 h2 => by
    have hl := h.len
    have h' := h.later hb
    have key : ∀ (y : Value) (ys : List Int), OI w1 B y ys → OI w2 B y ys := fun y ys ho => ho.move fun b hb' => hg.block b (ho.lt hb').2 (fun e => rowapart h'.row ho e.symm hb')
    rcases last_or h1 with ⟨a1, a2⟩ | ⟨a1, rfl⟩
    · rcases last_or h2 with ⟨c1, c2⟩ | ⟨c1, rfl⟩
      · exact key _ _ (h'.own i y ys a2 c2)
      · omega
    · rcases last_or h2 with ⟨c1, c2⟩ | ⟨c1, rfl⟩
      · omega
      · exact key _ _ hu
  dj := fun i j y y' h1 h2 hne b hb1 hb2 => by
    have hl := h.len
    rcases last_or h1 with ⟨a1, a2⟩ | ⟨a1, rfl⟩
    · rcases last_or h2 with ⟨c1, c2⟩ | ⟨c1, rfl⟩
      · exact h.dj i j y y' a2 c2 hne b hb1 hb2
      · obtain ⟨z, hz⟩ : ∃ z, xss[i]? = some z := ⟨xss[i]'(by omega), List.getElem?_eq_getElem _⟩
        have := ((h.own i y z a2 hz).lt hb1).2
        have := hnew b hb2
        omega
    · rcases last_or h2 with ⟨c1, c2⟩ | ⟨c1, rfl⟩
      · obtain ⟨z, hz⟩ : ∃ z, xss[j]? = some z := ⟨xss[j]'(by omega), List.getElem?_eq_getElem _⟩
        have := ((h.own j y' z c2 hz).lt hb2).2
        have := hnew b hb1
        omega
      · omega

/-- One row has grown, and is put into its place. -/
theorem Cq.step {w w1 : World} {B g n c k : Nat} {vs : List Value} {xss : List (List Int)} {u u' : Value} {xs ys : List Int} (h : Cq w B (.slice (some ⟨g, 0, none⟩) n c) vs xss) (hk : vs[k]? = some u) (hx : xss[k]? = some xs) (ho : OI w1 B u' ys) (hg : w.grownBy w1 u.ownBlock) (hat : ∀ b, u'.ownBlock = some b → u.ownBlock = some b ∨ w.heap.size ≤ b) :
    Cq (w1.setCell ⟨g, k, none⟩ u') B (.slice (some ⟨g, 0, none⟩) n c) (vs.set k u') (xss.set k ys) := by
  have hu := h.own k u xs hk hx
  obtain ⟨cur0, hc0⟩ := rowty h.row (b := g) rfl
  have hne : u.ownBlock ≠ some g := rowapart h.row hu rfl
  have hc1 : w1.heap[g]? = some (.cells cur0 40 (0, 0)) := by rw [hg.block g (lt_of_block hc0) (fun e => hne e.symm)]; exact hc0
  have hkl : k < vs.length := (List.getElem?_eq_some_iff.1 hk).1
  have hkx : k < xss.length := (List.getElem?_eq_some_iff.1 hx).1
  refine ⟨?_, by simp [h.len], fun i y zs h1 h2 => ?_, fun i j y y' h1 h2 hij b hb1 hb2 => ?_⟩
  · rcases h.row with ⟨r1, ⟨e, -⟩ | ⟨g', cap, cur, e, r2, r3, r4, r5, r6, r7⟩⟩
    · cases e
    · cases e
      rw [hc0] at r3
      cases r3
      refine ⟨by simp, .inr ⟨g, c, cur0.setIfInBounds k u', by rw [List.length_set], r2, heap_setCell_same w1 g k _ _ _ hc1, by rw [List.length_set]; exact r4, r5, by simpa using r6, ?_⟩⟩
      rw [List.length_set, Array.toList_setIfInBounds, List.take_set, r7]
  · rw [List.getElem?_set] at h1 h2
    have mv : ∀ (y : Value) (zs : List Int), OI w1 B y zs → OI (w1.setCell ⟨g, k, none⟩ u') B y zs := fun y zs hz => hz.move fun b hb => heap_setCell_other _ _ _ _ (fun e => by
      simp only [] at e
      obtain ⟨c2, hc2⟩ := rowty hz hb
      rw [e, hc1] at hc2
      cases hc2)
    by_cases e : k = i
    · rw [if_pos e, if_pos hkl] at h1
      rw [if_pos e, if_pos hkx] at h2
      simp at h1 h2
      subst h1; subst h2
      exact mv _ _ ho
    · rw [if_neg e] at h1 h2
      have hz := h.own i y zs h1 h2
      exact mv _ _ (hz.move fun b hb => hg.block b (hz.lt hb).2 (fun e' => h.dj k i u y hk h1 e b e'.symm hb))
  · rw [List.getElem?_set] at h1 h2
    have hold : ∀ (i : Nat) (y : Value), vs[i]? = some y → ∀ b, y.ownBlock = some b → b < w.heap.size := fun i y hy b hb => by
      obtain ⟨z, hz⟩ : ∃ z, xss[i]? = some z := ⟨xss[i]'(by rw [← h.len]; exact (List.getElem?_eq_some_iff.1 hy).1), List.getElem?_eq_getElem _⟩
      exact ((h.own i y z hy hz).lt hb).2
    by_cases e1 : k = i
    · rw [if_pos e1, if_pos hkl] at h1
      simp at h1
      subst h1
      rw [if_neg (by omega)] at h2
      rcases hat b hb1 with h9 | h9
      · exact h.dj k j u y' hk h2 (by omega) b h9 hb2
      · have := hold j y' h2 b hb2
        omega
    · rw [if_neg e1] at h1
      by_cases e2 : k = j
      · rw [if_pos e2, if_pos hkl] at h2
        simp at h2
        subst h2
        rcases hat b hb2 with h9 | h9
        · exact h.dj k i u y hk h1 (by omega) b h9 hb1
        · have := hold i y h1 b hb1
          omega
      · rw [if_neg e2] at h2
        exact h.dj i j y y' h1 h2 hij b hb1 hb2

/-- The cells of the row. -/
theorem Cq.cell {w : World} {B g n c k : Nat} {vs : List Value} {xss : List (List Int)} {u : Value} (h : Cq w B (.slice (some ⟨g, 0, none⟩) n c) vs xss) (hk : vs[k]? = some u) : w.cell? ⟨g, k, none⟩ = some u ∧ w.frozen? ⟨g, k, none⟩ = false := by
  rcases h.row with ⟨r1, ⟨e, -⟩ | ⟨g', cap, cur, e, r2, r3, r4, r5, r6, r7⟩⟩
  · cases e
  · cases e
    refine ⟨?_, frozen_of_row w g k _ _ r3⟩
    rw [cell_of_row w g k cur _ _ r3]
    have hkl := (List.getElem?_eq_some_iff.1 hk).1
    rw [← r7, List.getElem?_take, if_pos (by omega)] at hk
    simpa using hk


theorem Cq.empty (w : World) (B : Nat) (h : B ≤ w.heap.size) : Cq (w.alloc (.cells #[] 40)) B (.slice (some ⟨w.heap.size, 0, Option.none⟩) 0 0) [] [] := ⟨World.ownsRow_made w #[] 0 h (Nat.zero_le _) (by simp), rfl, fun i u xs h => by simp at h, fun i j u u' h => by simp at h⟩
/-- 'append(rows, row)', rows the call's own. -/
theorem wpList_appR {w : World} {ops : Array Oper} {rest : List Oper} {o : Oper} {a : Act} {Q : Exit → Act → World → Prop} (hgd : o.guard = none) (s x : Operand)
    (ho : o.op = .call { callee := .builtin .append, args := #[s, x], argTypes := #[26, 26] })
    (B : Nat) (v : Value) (vs : List Value) (y : Value) (hy : y.oneCell' = true) (hs : a.eval s = v) (hown : w.ownsRow B 40 1 v vs.length vs) (gx : Nat) (hx : a.eval x = .slice (some ⟨gx, 0, none⟩) 1 1)
    (h0 : w.cell? ⟨gx, 0, none⟩ = some y) (hl : vs.length ≤ 1073741824) (hB : B ≤ w.heap.size)
    (h : ∀ v' w', w'.ownsRow B 40 1 v' (vs ++ [y]).length (vs ++ [y]) → w.grownBy w' v.ownBlock → (v'.ownBlock = v.ownBlock ∨ v'.ownBlock = some w.heap.size) → wpList Tryz.prog ops Q rest (a.put o.dst v') w') : wpList Tryz.prog ops Q (o :: rest) a w := by
  obtain ⟨i0, hi, hz0, hz1, hz2⟩ := info_parts Tryz.infoRows
  refine wpList_append_own_at w hgd s x 26 ho B 40 i0 _ 1 24 Tryz.underlying26 hi hz0 hz1 hz2 rfl (by decide) v vs.length vs hs hown ⟨gx, 0, none⟩ 1 1 [y] hx rfl ?_ ?_ (by unfold maxLen; omega) (by omega) hB ?_
  · intro j u hj
    rw [Addr.add_lit]
    match j, hj with
    | 0, hj => simp at hj; subst hj; exact h0
    | j + 1, hj => simp at hj
  · intro u hu
    simp at hu
    subst hu
    exact hy
  · intro v' w' ho' hg _ hat
    refine h v' w' ?_ hg hat
    rw [List.length_append]
    exact ho'

end Go.Proofs.YtheglnkndjheaaaGreatDoor

/- The given Parts: what its rows are between rounds. -/
namespace Go.Proofs.YtheglnkndjheaaaGreatDoor
set_option linter.unusedVariables false
set_option linter.unusedSimpArgs false
open Go.RowKit

theorem Cq.kept {w w' : World} {B : Nat} {v : Value} {vs : List Value} {xss : List (List Int)} (h : Cq w B v vs xss) {g : Option Nat} (hg : w.grownBy w' g) (hv : ∀ b, g = some b → v.ownBlock ≠ some b) (hu : ∀ u ∈ vs, ∀ b, g = some b → u.ownBlock ≠ some b) : Cq w' B v vs xss :=
  ⟨rowmove h.row fun b hb => hg.block b (rowlt h.row hb).2 fun e => hv b e.symm hb, h.len, fun i u xs h1 h2 => (h.own i u xs h1 h2).move fun b hb => hg.block b ((h.own i u xs h1 h2).lt hb).2 fun e => hu u (List.mem_of_getElem? h1) b e.symm hb, h.dj⟩

theorem Cq.sub {w : World} {B B' : Nat} {v : Value} {vs : List Value} {xss : List (List Int)} (h : Cq w B v vs xss) (hB : B' ≤ B) : Cq w B' v vs xss := by
  have key : ∀ {e : TypeId} {v : Value} {n : Nat} {xs : List Value}, w.ownsRow B e 1 v n xs → w.ownsRow B' e 1 v n xs := by
    intro e v n xs h
    refine ⟨h.1, ?_⟩
    rcases h.2 with h0 | ⟨g, cap, cur, rfl, hg, r⟩
    · exact .inl h0
    · exact .inr ⟨g, cap, cur, rfl, Nat.le_trans hB hg, r⟩
  exact ⟨key h.row, h.len, fun i u xs h1 h2 => key (h.own i u xs h1 h2), h.dj⟩

theorem row_slice {w : World} {B n : Nat} {e : TypeId} {v : Value} {xs : List Value} (h : w.ownsRow B e 1 v n xs) : ∃ a c, v = .slice a n c := by
  rcases h.2 with ⟨e', h0⟩ | ⟨g, cap, cur, e', -⟩
  · exact ⟨_, _, by rw [e', h0]⟩
  · exact ⟨_, _, e'⟩

/-- No row lies in the block of another one. -/
def Apart (vs : List Value) (v : Value) : Prop := ∀ u ∈ vs, ∀ b, v.ownBlock = some b → u.ownBlock ≠ some b

theorem oi_of {w : World} {B : Nat} {v : Value} {xs : List Int} (h : Fo.OW w B v xs) : OI w B v xs := h
theorem ow_of {w : World} {B : Nat} {v : Value} {xs : List Int} (h : OI w B v xs) : Fo.OW w B v xs := h

theorem ow_later {w w' : World} {B : Nat} {v : Value} {xs : List Int} (h : Fo.OW w B v xs) (hb : Below w.heap.size w w') : Fo.OW w' B v xs := ow_of ((oi_of h).later hb)

theorem OI.low {w : World} {B B' : Nat} {v : Value} {xs : List Int} (h : OI w B v xs) (hB : B' ≤ B) : OI w B' v xs := by
  refine ⟨h.1, ?_⟩
  rcases h.2 with h0 | ⟨g, cap, cur, rfl, hg, r⟩
  · exact .inl h0
  · exact .inr ⟨g, cap, cur, rfl, Nat.le_trans hB hg, r⟩

theorem lv_next (i : Nat) : Fo.lv (i + 1) id = Fo.lv i id ++ [(i : Int)] := by simp [Fo.lv, List.range_succ]

/-- The first loop. -/
structure P1 (w1 : World) (ds : List Dc) (xs : List Lg) (i : Nat) (vL vV : Value) (vs : List Value) (u : World) : Prop where
  least : Fo.OW u w1.heap.size vL (Fo.lv i id)
  vars : Cq u w1.heap.size vV vs ((xs.take i).map fun x => lvR ds x.ct)
  ap : Apart vs vL
  bel : Below w1.heap.size w1 u

theorem ap_type {u : World} {B B' n : Nat} {vL vV : Value} {vs : List Value} {xs : List Int} (h : u.ownsRow B 40 1 vV n vs) (ho : Fo.OW u B' vL xs) : ∀ b, vL.ownBlock = some b → vV.ownBlock ≠ some b := fun _ hb hv => rowapart h (oi_of ho) hv hb

/-- One number more. -/
theorem P1.put {w1 u ua u' : World} {ds : List Dc} {xs : List Lg} {i : Nat} {vL vV vL' : Value} {vs : List Value} {L' : List Int} (h : P1 w1 ds xs i vL vV vs u) (ha : Below u.heap.size u ua) (ho : Fo.OW u' w1.heap.size vL' L') (hg : ua.grownBy u' vL.ownBlock) (hat : vL'.ownBlock = vL.ownBlock ∨ vL'.ownBlock = some ua.heap.size) :
    Cq u' w1.heap.size vV vs ((xs.take i).map fun x => lvR ds x.ct) ∧ Apart vs vL' ∧ Below w1.heap.size w1 u' := by
  have hc := h.vars.later ha
  have hl : Fo.OW ua w1.heap.size vL (Fo.lv i id) := ow_later h.least ha
  refine ⟨hc.kept hg (ap_type hc.row hl) (fun v hv b hb => h.ap v hv b hb), fun v hv b hb hb' => ?_, Below.grown (h.bel.trans (ha.mono h.bel.size)) hg (Nat.le_trans h.bel.size ha.size) (fun j hj => ((oi_of hl).lt hj).1)⟩
  rcases hat with e | e
  · exact h.ap v hv b (by rw [← e]; exact hb) hb'
  · rw [hb] at e
    cases e
    obtain ⟨k, hk⟩ := List.getElem?_of_mem hv
    obtain ⟨z, hz⟩ : ∃ z, ((xs.take i).map fun x => lvR ds x.ct)[k]? = some z := ⟨_, List.getElem?_eq_getElem (by rw [← hc.len]; exact (List.getElem?_eq_some_iff.1 hk).1)⟩
    exact Nat.lt_irrefl _ ((hc.own k v z hk hz).lt hb').2

/-- One row more. -/
theorem P1.row {w1 u uc ua u' : World} {ds : List Dc} {xs : List Lg} {i : Nat} {x : Lg} {vL vV vV' v : Value} {vs : List Value} (gx : xs[i]? = some x) (hl : Fo.OW u w1.heap.size vL (Fo.lv (i + 1) id)) (hc : Cq u w1.heap.size vV vs ((xs.take i).map fun x => lvR ds x.ct)) (hp : Apart vs vL) (hb : Below w1.heap.size w1 u) (hv : OI uc u.heap.size v (lvR ds x.ct)) (hb2 : Below u.heap.size u uc) (ha : Below uc.heap.size uc ua)
    (hrow : u'.ownsRow w1.heap.size 40 1 vV' (vs ++ [v]).length (vs ++ [v])) (hg : ua.grownBy u' vV.ownBlock) : P1 w1 ds xs (i + 1) vL vV' (vs ++ [v]) u' := by
  have hs := hb.size
  have hbel : Below u.heap.size u ua := hb2.trans (ha.mono hb2.size)
  have hva : OI ua u.heap.size v (lvR ds x.ct) := hv.later ha
  have hva' : OI ua w1.heap.size v (lvR ds x.ct) := by
    refine ⟨hva.1, ?_⟩
    rcases hva.2 with h0 | ⟨g, cap, cur, rfl, hg, r⟩
    · exact .inl h0
    · exact .inr ⟨g, cap, cur, rfl, Nat.le_trans hs hg, r⟩
  have hla : Fo.OW ua w1.heap.size vL (Fo.lv (i + 1) id) := ow_later hl hbel
  have hca := hc.later hbel
  refine ⟨ow_of ((oi_of hla).move fun b hb' => hg.block b ((oi_of hla).lt hb').2 fun e => rowapart hca.row (oi_of hla) e.symm hb'), ?_, ?_, Below.grown (hb.trans (hbel.mono hs)) hg (Nat.le_trans hs hbel.size) (fun j hj => (rowlt hca.row hj).1)⟩
  · rw [List.take_add_one, gx]
    simp only [Option.toList_some, List.map_append, List.map_cons, List.map_nil]
    exact hc.push hbel hva' (fun b hb' => (hva.lt hb').1) hrow hg
  · intro y hy b h1 h2
    rcases List.mem_append.1 hy with hy | hy
    · exact hp y hy b h1 h2
    · simp at hy
      subst hy
      have e1 := (hva.lt h2).1
      have e2 := ((oi_of hl).lt h1).2
      omega

/-- The joins. -/
structure P2 (w1 : World) (n : Nat) (L : Nat → Nat) (vL vV : Value) (vs : List Value) (xss : List (List Int)) (u : World) : Prop where
  least : Fo.OW u w1.heap.size vL (Fo.lv n L)
  vars : Cq u w1.heap.size vV vs xss
  bel : Below w1.heap.size w1 u

theorem P2.later {w1 u u' : World} {n : Nat} {L : Nat → Nat} {vL vV : Value} {vs : List Value} {xss : List (List Int)} (h : P2 w1 n L vL vV vs xss u) (hb : Below u.heap.size u u') : P2 w1 n L vL vV vs xss u' := ⟨ow_later h.least hb, h.vars.later hb, h.bel.trans (hb.mono h.bel.size)⟩

theorem P2.join {w1 u u' : World} {n g c : Nat} {L L' : Nat → Nat} {vV : Value} {vs : List Value} {xss : List (List Int)} (h : P2 w1 n L (.slice (some ⟨g, 0, none⟩) n c) vV vs xss u) (hp : Apart vs (.slice (some ⟨g, 0, none⟩) n c)) (ho : Fo.OW u' w1.heap.size (.slice (some ⟨g, 0, none⟩) n c) (Fo.lv n L')) (hg : u.grownBy u' (some g)) : P2 w1 n L' (.slice (some ⟨g, 0, none⟩) n c) vV vs xss u' :=
  ⟨ho, h.vars.kept hg (ap_type h.vars.row h.least) (fun v hv b hb => hp v hv b hb), Below.grown h.bel hg h.bel.size (fun j hj => by cases hj; exact ((oi_of h.least).lt (b := g) rfl).1)⟩

theorem Cq.at {w : World} {B : Nat} {v : Value} {vs : List Value} {xss : List (List Int)} (h : Cq w B v vs xss) {k : Nat} {xs : List Int} (hk : xss[k]? = some xs) (hl : xs.length ≤ 1048576) (hi : ∀ x ∈ xs, in64 x) : ∃ g N cN a c, v = .slice (some ⟨g, 0, none⟩) N cN ∧ N = xss.length ∧ vs[k]? = some (.slice a xs.length c) ∧ w.cell? ⟨g, k, none⟩ = some (.slice a xs.length c) ∧ RdI w a xs := by
  have hk1 := (List.getElem?_eq_some_iff.1 hk).1
  have hk2 : k < vs.length := by rw [h.len]; exact hk1
  obtain ⟨u, hu⟩ : ∃ u, vs[k]? = some u := ⟨_, List.getElem?_eq_getElem hk2⟩
  obtain ⟨a, c, rfl, hr⟩ := (h.own k u xs hu hk).rd hl hi
  obtain ⟨g, N, cN, rfl, hN⟩ : ∃ g N cN, v = .slice (some ⟨g, 0, none⟩) N cN ∧ N = vs.length := by
    rcases h.row.2 with ⟨-, h0⟩ | ⟨g, cap, cur, e, -⟩
    · omega
    · exact ⟨g, _, cap, e, rfl⟩
  exact ⟨g, N, cN, a, c, rfl, by rw [hN, h.len], hu, (h.cell hu).1, hr⟩

theorem meetI_next (V : Nat → List Nat) (i k : Nat) (P : List (Nat × Nat)) : mrgs id (P ++ meetI V i (k + 1)) = if mtB V i k = true then mrg (mrgs id (P ++ meetI V i k)) i k else mrgs id (P ++ meetI V i k) := by
  show mrgs id (P ++ (meetI V i k ++ _)) = _
  rw [← List.append_assoc, mrgs_app]
  split <;> rfl

theorem idsP_next (ids : List Int) (s : List Int) (j : Nat) (x : Int) (h : ids[j]? = some x) : idsP ids (s ++ [(j : Int)]) = idsP ids s ++ [x] := by
  simp [idsP, List.getD, h]

theorem idsP_len (ids s : List Int) : (idsP ids s).length = s.length := by simp [idsP]

theorem prtR_len (ids : List Int) (L : Nat → Nat) (n : Nat) : ∀ k, (prtR ids L n k).length ≤ k
  | 0 => by simp [prtR]
  | k + 1 => by
    have := prtR_len ids L n k
    unfold prtR
    split <;> simp <;> omega

end Go.Proofs.YtheglnkndjheaaaGreatDoor
