/- Several texts in one. -/
import Derived.Test.YthoiajpbpoglfaaBN
import Derived.Test.YthoiajpbpoglfaaJH
import Derived.Test.YthoiajpbpoglfaaZGAF
import Derived.Deep.RegionHeldLaw
import Derived.Test.YthoiajpbpoglfaaZGAI
import Derived.Deep.AppendLies

/- Hedges: rows of others, maps of values, crowds. -/
namespace Go.Proofs.Ythoiajpbpoglfaa
set_option linter.unusedVariables false
set_option linter.unusedSimpArgs false
open Go.RowKit Go.WideMaps Go.Maps Go.MapKept Go.ChangeMaps

theorem Try.infoI64h : (Try.prog.info? 2).map (fun i => (i.zero, i.size, i.bytes)) = some (some (.int .i64 0), 1, 8) := by kernel_rfl

/-- Hedges as they lie: n of them in the block H; all from the block B on. -/
structure Hg (w : World) (B H n K : Nat) (ov mv : Nat → Value) (cr : Nat → Int) : Prop where
  cs : ∃ cc, w.heap[H]? = some (.cells cc 83 (0, 0)) ∧ ∀ i, i < n → cc[i * 3]? = some (ov i) ∧ cc[i * 3 + 1]? = some (mv i) ∧ cc[i * 3 + 2]? = some (.int .i64 (cr i))
  le : B ≤ H
  own : ∀ i, i < n → ∃ xs, w.ownsRow B 2 1 (ov i) xs.length xs ∧ xs.length ≤ K
  dj : ∀ i j b, i < n → j < n → i ≠ j → (ov i).ownBlock = some b → (ov j).ownBlock ≠ some b
  mp : ∀ i, i < n → mv i = .map none ∨ ∃ g m, ∃ D : DataW Unit, mv i = .map (some g) ∧ w.ownsMap Try.prog 2 unitElem g m D ∧ m ≤ K ∧ B ≤ g

theorem Hg.lt {w : World} {B H n K : Nat} {ov mv : Nat → Value} {cr : Nat → Int} (h : Hg w B H n K ov mv cr) : H < w.heap.size := by
  obtain ⟨cc, hh, -⟩ := h.cs
  exact lt_of_block hh

theorem owr_typed {w : World} {B n : Nat} {e : TypeId} {v : Value} {xs : List Value} (h : w.ownsRow B e 1 v n xs) {b : Nat} (hb : v.ownBlock = some b) : (∃ cur, w.heap[b]? = some (.cells cur e (0, 0))) ∧ B ≤ b := by
  rcases h.2 with ⟨rfl, -⟩ | ⟨g, cap, cur, rfl, hg, hh, -⟩
  · cases hb
  · cases hb
    exact ⟨⟨cur, hh⟩, hg⟩
theorem owr_move {w w' : World} {B n : Nat} {e : TypeId} {v : Value} {xs : List Value} (h : w.ownsRow B e 1 v n xs) (hk : ∀ b, v.ownBlock = some b → w'.heap[b]? = w.heap[b]?) : w'.ownsRow B e 1 v n xs := by
  refine ⟨h.1, ?_⟩
  rcases h.2 with h0 | ⟨g, cap, cur, rfl, hg, hh, r⟩
  · exact .inl h0
  · exact .inr ⟨g, cap, cur, rfl, hg, (hk g rfl).trans hh, r⟩

theorem Hg.later {w w' : World} {B H n K : Nat} {ov mv : Nat → Value} {cr : Nat → Int} (h : Hg w B H n K ov mv cr) (hb : Below w.heap.size w w') : Hg w' B H n K ov mv cr where
  cs := by obtain ⟨cc, hh, r⟩ := h.cs; exact ⟨cc, (hb.block _ (lt_of_block hh)).trans hh, r⟩
  le := h.le
  own := fun i hi => by obtain ⟨xs, ho, hl⟩ := h.own i hi; exact ⟨xs, owr_move ho (fun b hb' => by obtain ⟨⟨cur, hc⟩, -⟩ := owr_typed ho hb'; exact hb.block _ (lt_of_block hc)), hl⟩
  dj := h.dj
  mp := fun i hi => by
    rcases h.mp i hi with e | ⟨g, m, D, e, ho, hm, hg⟩
    · exact .inl e
    · exact .inr ⟨g, m, D, e, own_below ho (fun hl => hb.block g hl), hm, hg⟩

theorem Hg.more {w : World} {B H n K K' : Nat} {ov mv : Nat → Value} {cr : Nat → Int} (h : Hg w B H n K ov mv cr) (hK : K ≤ K') : Hg w B H n K' ov mv cr where
  cs := h.cs
  le := h.le
  own := fun i hi => by obtain ⟨xs, ho, hl⟩ := h.own i hi; exact ⟨xs, ho, by omega⟩
  dj := h.dj
  mp := fun i hi => by
    rcases h.mp i hi with e | ⟨g, m, D, e, ho, hm, hg⟩
    · exact .inl e
    · exact .inr ⟨g, m, D, e, ho, by omega, hg⟩

def upd {α : Type} (f : Nat → α) (i : Nat) (x : α) (j : Nat) : α := if j = i then x else f j
theorem upd_same {α : Type} (f : Nat → α) (i : Nat) (x : α) : upd f i x i = x := by simp [upd]
theorem upd_ne {α : Type} (f : Nat → α) {i j : Nat} (x : α) (h : j ≠ i) : upd f i x j = f j := by simp [upd, h]

/-- The crowd of one is written anew. -/
theorem Hg.crowd {w : World} {B H n K : Nat} {ov mv : Nat → Value} {cr : Nat → Int} (h : Hg w B H n K ov mv cr) (i : Nat) (c : Int) : Hg (w.setCell ⟨H, i * 3 + 2, none⟩ (.int .i64 c)) B H n K ov mv (upd cr i c) := by
  obtain ⟨cc, hh, r⟩ := h.cs
  refine ⟨⟨cc.setIfInBounds (i * 3 + 2) (.int .i64 c), heap_setCell_same w H _ _ _ _ hh, fun j hj => ?_⟩, h.le, fun j hj => ?_, h.dj, fun j hj => ?_⟩
  · obtain ⟨r1, r2, r3⟩ := r j hj
    refine ⟨by rw [Array.getElem?_setIfInBounds_ne (by omega)]; exact r1, by rw [Array.getElem?_setIfInBounds_ne (by omega)]; exact r2, ?_⟩
    by_cases e : j = i
    · subst e
      rw [upd_same, Array.getElem?_setIfInBounds_self_of_lt]
      exact (Array.getElem?_eq_some_iff.1 r3).1
    · rw [upd_ne _ _ e, Array.getElem?_setIfInBounds_ne (by omega)]; exact r3
  · obtain ⟨xs, ho, hl⟩ := h.own j hj
    refine ⟨xs, owr_move ho (fun b hb => heap_setCell_other _ _ _ _ (fun e => ?_)), hl⟩
    simp at e; subst e
    obtain ⟨⟨cur, hc⟩, -⟩ := owr_typed ho hb
    rw [hh] at hc; cases hc
  · rcases h.mp j hj with e | ⟨g, m, D, e, ho, hm, hg⟩
    · exact .inl e
    · refine .inr ⟨g, m, D, e, own_below ho (fun hl => heap_setCell_other _ _ _ _ (fun e => ?_)), hm, hg⟩
      simp at e; subst e
      obtain ⟨es, ck, hc⟩ := own_isMap ho
      rw [hh] at hc; cases hc

/-- A row of others is written anew, and its slice put in. -/
theorem Hg.other {w w1 : World} {B H n K : Nat} {ov mv : Nat → Value} {cr : Nat → Int} (h : Hg w B H n K ov mv cr) {i : Nat} (hi : i < n) {v : Value} {xs : List Value} (ho : w1.ownsRow B 2 1 v xs.length xs) (hx : xs.length ≤ K) (hg : w.grownBy w1 (ov i).ownBlock) (hat : v.ownBlock = (ov i).ownBlock ∨ v.ownBlock = some w.heap.size) :
    Hg (w1.setCell ⟨H, i * 3, none⟩ v) B H n K (upd ov i v) mv cr := by
  obtain ⟨cc, hh, r⟩ := h.cs
  obtain ⟨xi, hoi, -⟩ := h.own i hi
  have hh1 : w1.heap[H]? = some (.cells cc 83 (0, 0)) := by
    rw [hg.block H (lt_of_block hh) (fun e => ?_)]
    · exact hh
    · obtain ⟨⟨cur, hc⟩, -⟩ := owr_typed hoi e.symm
      rw [hh] at hc; cases hc
  refine ⟨⟨cc.setIfInBounds (i * 3) v, heap_setCell_same w1 H _ _ _ _ hh1, fun j hj => ?_⟩, h.le, fun j hj => ?_, fun j k b hj hk hjk hb => ?_, fun j hj => ?_⟩
  · obtain ⟨r1, r2, r3⟩ := r j hj
    refine ⟨?_, by rw [Array.getElem?_setIfInBounds_ne (by omega)]; exact r2, by rw [Array.getElem?_setIfInBounds_ne (by omega)]; exact r3⟩
    by_cases e : j = i
    · subst e
      rw [upd_same, Array.getElem?_setIfInBounds_self_of_lt]
      exact (Array.getElem?_eq_some_iff.1 r1).1
    · rw [upd_ne _ _ e, Array.getElem?_setIfInBounds_ne (by omega)]; exact r1
  · have hset : ∀ (b : Nat) (cur : Array Value), w1.heap[b]? = some (.cells cur 2 (0, 0)) → (w1.setCell ⟨H, i * 3, none⟩ v).heap[b]? = w1.heap[b]? := fun b cur hc => heap_setCell_other _ _ _ _ (fun e => by simp at e; subst e; rw [hh1] at hc; cases hc)
    by_cases e : j = i
    · subst e
      rw [upd_same]
      exact ⟨xs, owr_move ho (fun b hb => by obtain ⟨⟨cur, hc⟩, -⟩ := owr_typed ho hb; exact hset b cur hc), hx⟩
    · rw [upd_ne _ _ e]
      obtain ⟨ys, hoj, hl⟩ := h.own j hj
      have k1 : ∀ b, (ov j).ownBlock = some b → w1.heap[b]? = w.heap[b]? := fun b hb => by
        obtain ⟨⟨cur, hc⟩, -⟩ := owr_typed hoj hb
        exact hg.block b (lt_of_block hc) (fun e' => h.dj i j b hi hj (fun e'' => e e''.symm) e'.symm hb)
      have hoj1 := owr_move hoj k1
      exact ⟨ys, owr_move hoj1 (fun b hb => by obtain ⟨⟨cur, hc⟩, -⟩ := owr_typed hoj1 hb; exact hset b cur hc), hl⟩
  · have fresh : ∀ q, q < n → ∀ b, (ov q).ownBlock = some b → b ≠ w.heap.size := fun q hq b hb e => by
      obtain ⟨ys, hoj, -⟩ := h.own q hq
      obtain ⟨⟨cur, hc⟩, -⟩ := owr_typed hoj hb
      have := lt_of_block hc
      omega
    by_cases ej : j = i
    · subst ej
      rw [upd_same] at hb
      rw [upd_ne _ _ (fun e => hjk e.symm)]
      rcases hat with e | e
      · rw [e] at hb; exact h.dj j k b hj hk hjk hb
      · rw [e] at hb; cases hb
        exact fun e' => fresh k hk _ e' rfl
    · rw [upd_ne _ _ ej] at hb
      by_cases ek : k = i
      · subst ek
        rw [upd_same]
        rcases hat with e | e
        · rw [e]; exact h.dj j k b hj hk hjk hb
        · rw [e]; intro e'; cases e'
          exact fresh j hj _ hb rfl
      · rw [upd_ne _ _ ek]; exact h.dj j k b hj hk hjk hb
  · rcases h.mp j hj with e | ⟨g, m, D, e, ho', hm, hg'⟩
    · exact .inl e
    · obtain ⟨es, ck, hc⟩ := own_isMap ho'
      have k1 : w1.heap[g]? = w.heap[g]? := hg.block g (lt_of_block hc) (fun e' => by
        obtain ⟨⟨cur, hc'⟩, -⟩ := owr_typed hoi e'.symm
        rw [hc] at hc'; cases hc')
      have ho1 := own_below ho' (fun _ => k1)
      refine .inr ⟨g, m, D, e, own_below ho1 (fun hl => heap_setCell_other _ _ _ _ (fun e => ?_)), hm, hg'⟩
      simp at e; subst e
      obtain ⟨es, ck, hc⟩ := own_isMap ho1
      rw [hh1] at hc; cases hc

/-- A new map is put in. -/
theorem Hg.made {w : World} {B H n K : Nat} {ov mv : Nat → Value} {cr : Nat → Int} (h : Hg w B H n K ov mv cr) {i g m : Nat} {D : DataW Unit} (ho : w.ownsMap Try.prog 2 unitElem g m D) (hm : m ≤ K) (hB : B ≤ g) :
    Hg (w.setCell ⟨H, i * 3 + 1, none⟩ (.map (some g))) B H n K ov (upd mv i (.map (some g))) cr := by
  obtain ⟨cc, hh, r⟩ := h.cs
  have hmap : ∀ {g m : Nat} {D : DataW Unit}, w.ownsMap Try.prog 2 unitElem g m D → (w.setCell ⟨H, i * 3 + 1, none⟩ (.map (some g))).ownsMap Try.prog 2 unitElem g m D := fun {g m D} ho => own_below ho (fun hl => heap_setCell_other _ _ _ _ (fun e => by
    simp at e; subst e
    obtain ⟨es, ck, hc⟩ := own_isMap ho
    rw [hh] at hc; cases hc))
  refine ⟨⟨cc.setIfInBounds (i * 3 + 1) (.map (some g)), heap_setCell_same w H _ _ _ _ hh, fun j hj => ?_⟩, h.le, fun j hj => ?_, h.dj, fun j hj => ?_⟩
  · obtain ⟨r1, r2, r3⟩ := r j hj
    refine ⟨by rw [Array.getElem?_setIfInBounds_ne (by omega)]; exact r1, ?_, by rw [Array.getElem?_setIfInBounds_ne (by omega)]; exact r3⟩
    by_cases e : j = i
    · subst e
      rw [upd_same, Array.getElem?_setIfInBounds_self_of_lt]
      exact (Array.getElem?_eq_some_iff.1 r2).1
    · rw [upd_ne _ _ e, Array.getElem?_setIfInBounds_ne (by omega)]; exact r2
  · obtain ⟨xs, ho, hl⟩ := h.own j hj
    refine ⟨xs, owr_move ho (fun b hb => heap_setCell_other _ _ _ _ (fun e => ?_)), hl⟩
    simp at e; subst e
    obtain ⟨⟨cur, hc⟩, -⟩ := owr_typed ho hb
    rw [hh] at hc; cases hc
  · by_cases e : j = i
    · subst e
      rw [upd_same]
      exact .inr ⟨g, m, D, rfl, hmap ho, hm, hB⟩
    · rw [upd_ne _ _ e]
      rcases h.mp j hj with e | ⟨g', m', D', e, ho', hm', hg'⟩
      · exact .inl e
      · refine .inr ⟨g', m', D', e, own_below ho' (fun hl => heap_setCell_other _ _ _ _ (fun e => ?_)), hm', hg'⟩
        simp at e; subst e
        obtain ⟨es, ck, hc⟩ := own_isMap ho'
        rw [hh] at hc; cases hc

/-- A value is put into a map. -/
theorem Hg.turned {w w1 : World} {B H n K : Nat} {ov mv : Nat → Value} {cr : Nat → Int} (h : Hg w B H n K ov mv cr) {g m : Nat} {D : DataW Unit} (ho : w1.ownsMap Try.prog 2 unitElem g m D) (hm : m ≤ K) (ht : w.mapTurned w1 g) :
    Hg w1 B H n K ov mv cr := by
  obtain ⟨cc, hh, r⟩ := h.cs
  refine ⟨⟨cc, (turned_cells ht hh).trans hh, r⟩, h.le, fun j hj => ?_, h.dj, fun j hj => ?_⟩
  · obtain ⟨xs, ho, hl⟩ := h.own j hj
    refine ⟨xs, owr_move ho (fun b hb => ?_), hl⟩
    obtain ⟨⟨cur, hc⟩, -⟩ := owr_typed ho hb
    exact turned_cells ht hc
  · rcases h.mp j hj with e | ⟨g', m', D', e, ho', hm', hg'⟩
    · exact .inl e
    · by_cases eg : g' = g
      · subst eg
        exact .inr ⟨g', m, D, e, ho, hm, hg'⟩
      · obtain ⟨es, clock, es', clock', hb, rfl⟩ := ht
        exact .inr ⟨g', m', D', e, own_below ho' (fun hl => heap_setBlock_other hb _ eg), hm', hg'⟩

theorem Hg.cells {w : World} {B H n K : Nat} {ov mv : Nat → Value} {cr : Nat → Int} (h : Hg w B H n K ov mv cr) {i : Nat} (hi : i < n) : w.cell? ⟨H, i * 3, none⟩ = some (ov i) ∧ w.cell? ⟨H, i * 3 + 1, none⟩ = some (mv i) ∧ w.cell? ⟨H, i * 3 + 2, none⟩ = some (.int .i64 (cr i)) := by
  obtain ⟨cc, hh, r⟩ := h.cs
  obtain ⟨r1, r2, r3⟩ := r i hi
  exact ⟨by rw [cell_of_row w H _ cc _ _ hh]; exact r1, by rw [cell_of_row w H _ cc _ _ hh]; exact r2, by rw [cell_of_row w H _ cc _ _ hh]; exact r3⟩
theorem Hg.froz {w : World} {B H n K : Nat} {ov mv : Nat → Value} {cr : Nat → Int} (h : Hg w B H n K ov mv cr) (o : Nat) : w.frozen? ⟨H, o, none⟩ = false := by
  obtain ⟨cc, hh, r⟩ := h.cs
  exact frozen_of_row w H o _ _ hh

def HgE (w : World) (B H n K : Nat) (cr : Nat → Int) : Prop := ∃ ov mv, Hg w B H n K ov mv cr

end Go.Proofs.Ythoiajpbpoglfaa

/- One more in a hedge. -/
namespace Go.Proofs.Ythoiajpbpoglfaa
set_option linter.unusedVariables false
set_option linter.unusedSimpArgs false
open Go.RowKit Go.WideMaps Go.Maps Go.MapKept Go.ChangeMaps

theorem wpList_appI8 {w : World} {ops : Array Oper} {rest : List Oper} {o : Oper} {a : Act} {Q : Exit → Act → World → Prop} (hgd : o.guard = none) (s x : Operand)
    (ho : o.op = .call { callee := .builtin .append, args := #[s, x], argTypes := #[22, 22] })
    (B : Nat) (v : Value) (xs : List Value) (y : Int) (hs : a.eval s = v) (hown : w.ownsRow B 2 1 v xs.length xs) (gx : Nat) (hx : a.eval x = .slice (some ⟨gx, 0, none⟩) 1 1)
    (h0 : w.cell? ⟨gx, 0, none⟩ = some (.int .i64 y)) (hl : xs.length ≤ 1073741824) (hB : B ≤ w.heap.size)
    (h : ∀ v' w', w'.ownsRow B 2 1 v' (xs ++ [Value.int .i64 y]).length (xs ++ [Value.int .i64 y]) → w.grownBy w' v.ownBlock → (v'.ownBlock = v.ownBlock ∨ v'.ownBlock = some w.heap.size) → wpList Try.prog ops Q rest (a.put o.dst v') w') : wpList Try.prog ops Q (o :: rest) a w := by
  obtain ⟨i0, hi, hz0, hz1, hz2⟩ := info_parts Try.infoI64h
  refine wpList_append_own_at w hgd s x 22 ho B 2 i0 _ 1 8 Try.underlying22 hi hz0 hz1 hz2 rfl (by decide) v xs.length xs hs hown ⟨gx, 0, none⟩ 1 1 [.int .i64 y] hx rfl ?_ ?_ (by unfold maxLen; omega) (by omega) hB ?_
  · intro j u hj
    rw [Addr.add_lit]
    match j, hj with
    | 0, hj => simp at hj; subst hj; exact h0
    | j + 1, hj => simp at hj
  · intro u hu
    simp at hu
    subst hu
    rfl
  · intro v' w' ho' hg _ hat
    exact h v' w' (by simpa using ho') hg hat

theorem owr_form {w : World} {B n : Nat} {e : TypeId} {v : Value} {xs : List Value} (h : w.ownsRow B e 1 v n xs) : ∃ a n c, v = .slice a n c := by
  rcases h.2 with ⟨e, -⟩ | ⟨g, cap, cur, e, -⟩
  · exact ⟨_, _, _, e⟩
  · exact ⟨_, _, _, e⟩

theorem Hg.block {w w1 : World} {B H n K i : Nat} {ov mv : Nat → Value} {cr : Nat → Int} (h : Hg w B H n K ov mv cr) (hi : i < n) (hg : w.grownBy w1 (ov i).ownBlock) : w1.heap[H]? = w.heap[H]? := by
  obtain ⟨cc, hh, r⟩ := h.cs
  obtain ⟨xi, hoi, -⟩ := h.own i hi
  exact hg.block H (lt_of_block hh) (fun e => by
    obtain ⟨⟨cur, hc⟩, -⟩ := owr_typed hoi e.symm
    rw [hh] at hc; cases hc)

/-- Nothing but rows of numbers and hedges has changed. -/
structure Ksh (w w' : World) : Prop where
  size : w.heap.size ≤ w'.heap.size
  stay : ∀ (k : Nat) (cs : Array Value) (t : TypeId) (fz : Nat × Nat), w.heap[k]? = some (Obj.cells cs t fz) → t ≠ 2 → t ≠ 83 → w'.heap[k]? = w.heap[k]?
theorem Ksh.trans {a b c : World} (h : Ksh a b) (h' : Ksh b c) : Ksh a c := ⟨Nat.le_trans h.size h'.size, fun k cs t fz e h1 h2 => (h'.stay k cs t fz ((h.stay k cs t fz e h1 h2).trans e) h1 h2).trans (h.stay k cs t fz e h1 h2)⟩
theorem Ksh.of {w w' : World} (hb : Below w.heap.size w w') : Ksh w w' := ⟨hb.size, fun k _ _ _ e _ _ => hb.block k (lt_of_block e)⟩
theorem Ksh.turned {w w' : World} {b : Nat} (h : w.mapTurned w' b) : Ksh w w' := ⟨h.grown.size, fun _ _ _ _ e _ _ => turned_cells h e⟩
theorem Ksh.grown {w w' : World} {B n : Nat} {v : Value} {xs : List Value} (h : w.grownBy w' v.ownBlock) (ho : w.ownsRow B 2 1 v n xs) : Ksh w w' := by
  refine ⟨h.size, fun k cs t fz e h1 _ => h.block k (lt_of_block e) (fun e' => ?_)⟩
  obtain ⟨⟨cur, hc⟩, -⟩ := owr_typed ho e'.symm
  rw [e] at hc
  cases hc
  exact h1 rfl
theorem Ksh.set {w : World} {b : Nat} {cs : Array Value} (h : w.heap[b]? = some (.cells cs 83 (0, 0))) (o : Nat) (v : Value) : Ksh w (w.setCell ⟨b, o, none⟩ v) := by
  refine ⟨by simp, fun k cs' t fz e _ h2 => heap_setCell_other _ _ _ _ (fun e' => ?_)⟩
  simp at e'
  subst e'
  rw [h] at e
  cases e
  exact h2 rfl

set_option maxHeartbeats 2000000 in
set_option maxRecDepth 100000 in
theorem addOther_any (B H n K i : Nat) (ov mv : Nat → Value) (cr : Nat → Int) (x : Int) (w : World) (h : Hg w B H n K ov mv cr) (hi : i < n) (hK : K ≤ 1048576) (hc : 0 ≤ cr i ∧ cr i ≤ 1048576) :
    Calls Try.prog 76 #[.pointer (some ⟨H, i * 3, none⟩), .int .i64 x] w fun e w' => e = .returned (.tuple #[]) ∧ HgE w' B H n (K + 1) (upd cr i (cr i + 1)) ∧ Below B w w' ∧ Ksh w w' := by
  obtain ⟨c0, c1, c2⟩ := h.cells hi
  have f0 := h.froz (i * 3)
  have f2 := h.froz (i * 3 + 2)
  have hlt := h.lt
  have hle := h.le
  have h1 := h.crowd i (cr i + 1)
  have hba : Below (w.setCell ⟨H, i * 3 + 2, none⟩ (.int .i64 (cr i + 1))).heap.size (w.setCell ⟨H, i * 3 + 2, none⟩ (.int .i64 (cr i + 1))) ((w.setCell ⟨H, i * 3 + 2, none⟩ (.int .i64 (cr i + 1))).alloc (Obj.cells #[Value.int .i64 x] 2)) := (Below.refl _ _).alloc (Nat.le_refl _) _
  have h2 := h1.later hba
  have KS := kide ((show Ksh w (w.setCell ⟨H, i * 3 + 2, none⟩ (.int .i64 (cr i + 1))) from by obtain ⟨cc, hh, -⟩ := h.cs; exact Ksh.set hh _ _).trans (Ksh.of hba))
  have HH := kide (h2.more (Nat.le_succ K))
  obtain ⟨xs, ho, hl⟩ := h2.own i hi
  have HO := kide ho
  have HL := kide hl
  have BB : Hid (Below B w ((w.setCell ⟨H, i * 3 + 2, none⟩ (.int .i64 (cr i + 1))).alloc (Obj.cells #[Value.int .i64 x] 2))) := ((Below.refl B w).setCell hle _).alloc (by simp; omega) _
  have q0 : Hid (((w.setCell ⟨H, i * 3 + 2, none⟩ (.int .i64 (cr i + 1))).alloc (Obj.cells #[Value.int .i64 x] 2)).cell? ⟨w.heap.size, 0, none⟩ = some (.int .i64 x)) := by
    have h9 := (Bz.new (w.setCell ⟨H, i * 3 + 2, none⟩ (.int .i64 (cr i + 1))) #[Value.int .i64 x] 2).cell 0
    rw [show (w.setCell ⟨H, i * 3 + 2, none⟩ (.int .i64 (cr i + 1))).heap.size = w.heap.size by simp] at h9
    exact h9
  have hBs : Hid (B ≤ ((w.setCell ⟨H, i * 3 + 2, none⟩ (.int .i64 (cr i + 1))).alloc (Obj.cells #[Value.int .i64 x] 2)).heap.size) := by show _ ≤ _; simp; omega
  clear h h1 h2 hba ho
  generalize hv : ov i = v at *
  have HV := kide hv
  clear hv
  go_enter Try.func76, Try.ntmps76
  go_wp2_with (at_builtin; refine wpList_appI8 rfl _ _ rfl B v xs x rfl HO.out _ rfl q0.out (by have := HL.out; omega) hBs.out ?_)
  intro v2 w2 ho2 hg2 hat2
  obtain ⟨a2, n2, cp2, rfl⟩ := owr_form ho2
  have hH := HH.out.block hi (by rw [HV.out]; exact hg2)
  have c02 : w2.cell? ⟨H, i * 3, none⟩ = some v := by rw [World.cell?_of_block hH, ((HH.out.cells hi).1), HV.out]
  have f02 : w2.frozen? ⟨H, i * 3, none⟩ = false := by rw [World.frozen?_of_block hH]; exact HH.out.froz _
  have H3 := kide (HH.out.other (v := .slice a2 n2 cp2) (xs := xs ++ [Value.int .i64 x]) hi (by rw [List.length_append]; exact ho2) (by have := HL.out; rw [List.length_append]; simp; omega) (by rw [HV.out]; exact hg2) (by rw [HV.out]; simpa using hat2))
  have K3 := kide ((KS.out.trans (Ksh.grown hg2 HO.out)).trans (show Ksh w2 (w2.setCell ⟨H, i * 3, none⟩ (.slice a2 n2 cp2)) from by obtain ⟨cc, hh, -⟩ := HH.out.cs; exact Ksh.set (hH.trans hh) _ _))
  have B3 := kide (Below.grown BB.out hg2 hBs.out (fun j hj => (owr_typed HO.out hj).2))
  clear ho2 hg2 hat2 hH HH BB HO
  go_wp2_with fail
  go_end0
  exact ⟨rfl, ⟨_, _, H3.out⟩, B3.out.setCell hle _, K3.out⟩

theorem wrap_in64 (x : Int) : in64 (wrap64 x) := by unfold in64 wrap64; omega

set_option maxHeartbeats 2000000 in
set_option maxRecDepth 100000 in
theorem smallNumber_any (bw : Int) (a : Option Addr) (n c : Nat) (ws : List Nat) (w : World) (hr : Rd w a ws) (hn : ws.length = n) (h0 : 0 < n) :
    Calls Try.prog 91 #[.agg #[.int .i64 bw, .slice a n c]] w fun e w' => ∃ k b, e = .returned (.tuple #[.int .i64 k, .bool b]) ∧ in64 k ∧ Below w.heap.size w w' := by
  obtain ⟨hl, hx, h | ⟨b, o, rfl, hcl⟩⟩ := hr
  · rw [h] at hn; simp at hn; omega
  have hb0 : Below w.heap.size w (w.alloc (Obj.cells #[Value.int .i64 bw, Value.slice (some ⟨b, o, none⟩) n c] 48)) := (Below.refl _ _).alloc (Nat.le_refl _) _
  have B0 := kide hb0
  have X0 := kide (Bz.new w #[Value.int .i64 bw, Value.slice (some ⟨b, o, none⟩) n c] 48)
  have hn2 : n ≤ 1048576 := by omega
  have HC : Hid (∀ i, i < n → w.cell? ⟨b, o + i, none⟩ = some (.int .u64 ((ws.getD i 0 : Nat) : Int))) := fun i hi => hcl i (by omega)
  have HX : Hid (∀ i, i < n → ws.getD i 0 < 18446744073709551616) := fun i hi => by
    have hi' : i < ws.length := by omega
    rw [List.getD_eq_getElem?_getD, List.getElem?_eq_getElem hi']
    exact hx _ (List.getElem_mem hi')
  have hlb := block_lt_of_cell (hcl 0 (by omega))
  clear hcl hx hn hl hb0
  by_cases hc1 : c = 1
  · subst hc1
    go_enter Try.func91, Try.ntmps91
    go_wp2_with fail
    have z0 : (w.alloc (Obj.cells #[Value.int .i64 bw, Value.slice (some ⟨b, o, none⟩) n 1] 48)).cell? ⟨w.heap.size, 1, none⟩ = some (Value.slice (some ⟨b, o, none⟩) n 1) := X0.out.cell 1
    have Z0 := kide z0
    clear z0
    generalize w.alloc (Obj.cells #[Value.int .i64 bw, Value.slice (some ⟨b, o, none⟩) n 1] 48) = W at *
    go_loopw [10] (fun q wr => ∃ k : Nat, k ≤ n - 1 ∧ q = .int .i64 (k : Int) ∧ wr = W) (fun q _ => n - (intOf q).toNat)
    case atStart => exact ⟨0, Nat.zero_le _, rfl, rfl⟩
    case round =>
      obtain ⟨k, hk, rfl, rfl⟩ := hrel
      by_cases hlt : k < n - 1
      · have p0 : wr.cell? ⟨b, o + k, none⟩ = some (.int .u64 ((ws.getD (k) 0 : Nat) : Int)) := (kcell B0.out b (o + k) hlb).trans (by first | exact HC.out (k) (by omega) | (rw [Nat.add_assoc]; exact HC.out (k) (by omega)))
        generalize ws.getD (k) 0 = X at *
        have i0 : (k : Int) < ((n - 1 : Nat) : Int) := by omega
        by_cases hX : X = 0
        · subst hX
          go_wp2_with fail
          go_roundw
          case rel => exact ⟨k + 1, by omega, by go_num, by simp⟩
          case measure => simp [intOf]; omega
        · have hX2 : ((X : Int) != 0) = true := by simp; omega
          clear hX
          go_wp2_with fail
          go_returns
          exact ⟨0, false, rfl, ⟨by omega, by omega⟩, B0.out⟩
      · have p0 : wr.cell? ⟨b, o, none⟩ = some (.int .u64 ((ws.getD 0 0 : Nat) : Int)) := (kcell B0.out b o hlb).trans (HC.out 0 h0)
        have hx0 := HX.out 0 h0
        have z0 := Z0.out
        generalize ws.getD 0 0 = X at *
        have n0 : (0 : Int) < (n : Int) := by omega
        go_wp2_with fail
        go_quiet (fail)
        go_wp2_with fail
        go_returns
        exact ⟨_, _, rfl, wrap_in64 _, below_drewN B0.out _⟩
  · skip
    go_enter Try.func91, Try.ntmps91
    go_wp2_with fail
    have z0 : (w.alloc (Obj.cells #[Value.int .i64 bw, Value.slice (some ⟨b, o, none⟩) n c] 48)).cell? ⟨w.heap.size, 1, none⟩ = some (Value.slice (some ⟨b, o, none⟩) n c) := X0.out.cell 1
    have Z0 := kide z0
    clear z0
    generalize w.alloc (Obj.cells #[Value.int .i64 bw, Value.slice (some ⟨b, o, none⟩) n c] 48) = W at *
    go_loopw [10] (fun q wr => ∃ k : Nat, k ≤ n - 1 ∧ q = .int .i64 (k : Int) ∧ wr = W) (fun q _ => n - (intOf q).toNat)
    case atStart => exact ⟨0, Nat.zero_le _, rfl, rfl⟩
    case round =>
      obtain ⟨k, hk, rfl, rfl⟩ := hrel
      by_cases hlt : k < n - 1
      · have p0 : wr.cell? ⟨b, o + 1 + k, none⟩ = some (.int .u64 ((ws.getD (1 + k) 0 : Nat) : Int)) := (kcell B0.out b (o + 1 + k) hlb).trans (by first | exact HC.out (1 + k) (by omega) | (rw [Nat.add_assoc]; exact HC.out (1 + k) (by omega)))
        generalize ws.getD (1 + k) 0 = X at *
        have i0 : (k : Int) < ((n - 1 : Nat) : Int) := by omega
        by_cases hX : X = 0
        · subst hX
          go_wp2_with fail
          go_roundw
          case rel => exact ⟨k + 1, by omega, by go_num, by simp⟩
          case measure => simp [intOf]; omega
        · have hX2 : ((X : Int) != 0) = true := by simp; omega
          clear hX
          go_wp2_with fail
          go_returns
          exact ⟨0, false, rfl, ⟨by omega, by omega⟩, B0.out⟩
      · have p0 : wr.cell? ⟨b, o, none⟩ = some (.int .u64 ((ws.getD 0 0 : Nat) : Int)) := (kcell B0.out b o hlb).trans (HC.out 0 h0)
        have hx0 := HX.out 0 h0
        have z0 := Z0.out
        generalize ws.getD 0 0 = X at *
        have n0 : (0 : Int) < (n : Int) := by omega
        go_wp2_with fail
        go_quiet (fail)
        go_wp2_with fail
        go_returns
        exact ⟨_, _, rfl, wrap_in64 _, below_drewN B0.out _⟩

theorem i64Keyed : Keyed Try.prog 2 := int_keyed Try.underlying2
theorem keyOf_i64 {k : Int} (h : in64 k) : keyOf Try.prog 2 (.int .i64 k) = some (.int .i64 k) := keyOf_int_mk Try.underlying2 (WalkArith.wf_i64 h)
theorem make_vals (w : World) : (Instr.makeMap 81 none).run Try.prog w = .ok (.map (some w.heap.size)) (w.alloc (.map #[] 0)) := by
  have h := Try.underlying81
  simp [Instr.makeMap, go_sem, h]

theorem rd_far {w w' : World} {B : Nat} {a : Option Addr} {ws : List Nat} (h : Rd w a ws) (hf : ∀ b o sp, a = some ⟨b, o, sp⟩ → b < B) (hb : Below B w w') : Rd w' a ws := by
  obtain ⟨h1, h2, h3⟩ := h
  refine ⟨h1, h2, ?_⟩
  rcases h3 with h3 | ⟨b, o, rfl, hc⟩
  · exact .inl h3
  · exact .inr ⟨b, o, rfl, fun i hi => by rw [hb.cell (p := ⟨b, o + i, none⟩) (hf b o none rfl)]; exact hc i hi⟩

set_option maxHeartbeats 2000000 in
set_option maxRecDepth 100000 in
theorem addValue_any (B H n K i : Nat) (ov mv : Nat → Value) (cr : Nat → Int) (bw : Int) (a : Option Addr) (wn c : Nat) (ws : List Nat) (w : World) (h : Hg w B H n K ov mv cr) (hi : i < n) (hK : K ≤ 1048576) (hc : 0 ≤ cr i ∧ cr i ≤ 1048576) (hr : Rd w a ws) (hwn : ws.length = wn) (h0 : 0 < wn) (hfar : ∀ b o sp, a = some ⟨b, o, sp⟩ → b < B) :
    Calls Try.prog 75 #[.pointer (some ⟨H, i * 3, none⟩), .agg #[.int .i64 bw, .slice a wn c]] w fun e w' => e = .returned (.tuple #[]) ∧ HgE w' B H n (K + 1) (upd cr i (cr i + 1)) ∧ Below B w w' ∧ Ksh w w' := by
  obtain ⟨c0, c1, c2⟩ := h.cells hi
  have f2 := h.froz (i * 3 + 2)
  have hlH := h.lt
  have hle := h.le
  have hsz : (w.setCell ⟨H, i * 3 + 2, none⟩ (.int .i64 (cr i + 1))).heap.size = w.heap.size := by simp
  have hbx : Below (w.setCell ⟨H, i * 3 + 2, none⟩ (.int .i64 (cr i + 1))).heap.size (w.setCell ⟨H, i * 3 + 2, none⟩ (.int .i64 (cr i + 1))) ((w.setCell ⟨H, i * 3 + 2, none⟩ (.int .i64 (cr i + 1))).alloc (Obj.cells #[Value.int .i64 bw, Value.slice a wn c] 48)) := (Below.refl _ _).alloc (Nat.le_refl _) _
  have H1 := kide ((h.crowd i (cr i + 1)).later hbx)
  have X1 : Hid (Bz ((w.setCell ⟨H, i * 3 + 2, none⟩ (.int .i64 (cr i + 1))).alloc (Obj.cells #[Value.int .i64 bw, Value.slice a wn c] 48)) w.heap.size #[Value.int .i64 bw, Value.slice a wn c] 48) := by
    have h9 := Bz.new (w.setCell ⟨H, i * 3 + 2, none⟩ (.int .i64 (cr i + 1))) #[Value.int .i64 bw, Value.slice a wn c] 48
    rw [hsz] at h9
    exact h9
  have B1 : Hid (Below B w ((w.setCell ⟨H, i * 3 + 2, none⟩ (.int .i64 (cr i + 1))).alloc (Obj.cells #[Value.int .i64 bw, Value.slice a wn c] 48))) := ((Below.refl B w).setCell hle _).alloc (by rw [hsz]; omega) _
  have KS := kide ((show Ksh w (w.setCell ⟨H, i * 3 + 2, none⟩ (.int .i64 (cr i + 1))) from by obtain ⟨cc, hh, -⟩ := h.cs; exact Ksh.set hh _ _).trans (Ksh.of hbx))
  have HR := kide (smallNumber_any bw a wn c ws _ (rd_far hr hfar B1.out) hwn h0)
  have hne1 : ¬ w.heap.size = H := by omega
  have hne2 : ¬ H = w.heap.size := by omega
  have d2 : (w.alloc (Obj.cells #[Value.int .i64 bw, Value.slice a wn c] 48)).cell? ⟨H, i * 3 + 2, none⟩ = some (.int .i64 (cr i)) := ((h.later ((Below.refl _ _).alloc (Nat.le_refl _) _)).cells hi).2.2
  have e2 : (w.alloc (Obj.cells #[Value.int .i64 bw, Value.slice a wn c] 48)).frozen? ⟨H, i * 3 + 2, none⟩ = false := (h.later ((Below.refl _ _).alloc (Nat.le_refl _) _)).froz (i * 3 + 2)
  have z0 : ((w.setCell ⟨H, i * 3 + 2, none⟩ (.int .i64 (cr i + 1))).alloc (Obj.cells #[Value.int .i64 bw, Value.slice a wn c] 48)).cell? ⟨w.heap.size, 0, none⟩ = some (Value.int .i64 bw) := X1.out.cell 0
  have z1 : ((w.setCell ⟨H, i * 3 + 2, none⟩ (.int .i64 (cr i + 1))).alloc (Obj.cells #[Value.int .i64 bw, Value.slice a wn c] 48)).cell? ⟨w.heap.size, 1, none⟩ = some (Value.slice a wn c) := X1.out.cell 1
  clear h hbx hr hwn h0 hfar hsz
  go_enter Try.func75, Try.ntmps75
  go_wp2_with fail
  refine Calls.mono HR.out ?_
  rintro e w3 ⟨k, b, rfl, hk, hb3⟩
  have H3 := kide (H1.out.later hb3)
  have K3 := kide (KS.out.trans (Ksh.of hb3))
  have B3 := kide (B1.out.trans (hb3.mono (Nat.le_trans (Nat.le_trans hle (Nat.le_of_lt hlH)) B1.out.size)))
  have hz3 : B ≤ w3.heap.size := by have := H3.out.lt; omega
  clear H1 B1 X1 HR c0 c1 c2 f2 d2 e2 z0 z1 hb3
  cases b with
  | false =>
    go_wp2_with fail
    refine bodyPost_ret (v := .tuple #[]) (by simp [results, Try.results75, go_sem]) rfl ?_
    exact ⟨rfl, ⟨_, _, H3.out.more (Nat.le_succ K)⟩, B3.out, K3.out⟩
  | true =>
    have c1 := (H3.out.cells hi).2.1
    have f1 := H3.out.froz (i * 3 + 1)
    have qm : ∀ (w : World) (r : Option Nat), (binOp .eql 81 (.map r) (.map none)).run Try.prog w = .ok (.bool r.isNone) w := fun w r => run_eql_map_nil w _ _ _ r Try.underlying81
    have hmm := make_vals
    have hkey := keyOf_i64 hk
    rcases H3.out.mp i hi with hm | ⟨g, m, D, hm, ho, hmK, hgB⟩
    · rw [hm] at c1
      have hbm : Below w3.heap.size w3 (w3.alloc (.map #[] 0)) := (Below.refl _ _).alloc (Nat.le_refl _) _
      have H4 := H3.out.later hbm
      have hlt4 := H3.out.lt
      have o4 : (w3.alloc (.map #[] 0)).ownsMap Try.prog 2 unitElem w3.heap.size 0 (.map [] : DataW Unit) := World.ownsMap_made _ _ _ _
      have H5 := H4.made (i := i) o4 (Nat.zero_le K) (by omega)
      have hsw : (w3.alloc (.map #[] 0)).setCell ⟨H, i * 3 + 1, none⟩ (.map (some w3.heap.size)) = (w3.setCell ⟨H, i * 3 + 1, none⟩ (.map (some w3.heap.size))).alloc (.map #[] 0) := World.setCell_alloc_past _ _ _ _ hlt4
      have B5 : Below B w ((w3.alloc (.map #[] 0)).setCell ⟨H, i * 3 + 1, none⟩ (.map (some w3.heap.size))) := (B3.out.alloc hz3 _).setCell hle _
      have K5 : Ksh w ((w3.alloc (.map #[] 0)).setCell ⟨H, i * 3 + 1, none⟩ (.map (some w3.heap.size))) := (K3.out.trans (Ksh.of hbm)).trans (by obtain ⟨cc, hh, -⟩ := H4.cs; exact Ksh.set hh _ _)
      rw [hsw] at H5 B5 K5
      have KK5 := kide K5
      clear K5
      have o5 : ((w3.setCell ⟨H, i * 3 + 1, none⟩ (.map (some w3.heap.size))).alloc (.map #[] 0)).ownsMap Try.prog 2 unitElem w3.heap.size 0 (.map [] : DataW Unit) := by
        rw [← hsw]
        exact own_below o4 (fun hl => heap_setCell_other _ _ _ _ (by simp; omega))
      have z1 : ((w3.setCell ⟨H, i * 3 + 1, none⟩ (.map (some w3.heap.size))).alloc (.map #[] 0)).cell? ⟨H, i * 3 + 1, none⟩ = some (.map (some w3.heap.size)) := by
        have h9 := (H5.cells hi).2.1
        rw [upd_same] at h9
        exact h9
      have d1 : (w3.alloc (.map #[] 0)).cell? ⟨H, i * 3 + 1, none⟩ = some (.map none) := by rw [(H4.cells hi).2.1, hm]
      have e1 := H4.froz (i * 3 + 1)
      have hne3 : ¬ w3.heap.size = H := by omega
      have hne4 : ¬ H = w3.heap.size := by omega
      have HO := kide o5
      have HH5 := kide H5
      have BB5 := kide B5
      clear H4 H5 B5 o4 o5 hsw hm hbm
      go_wp2_with (first
          | (at_mapUpdate; refine wpList_mapUpdate_in _ rfl _ _ _ 81 rfl 2 126 i64Keyed Try.underlying81 unitElem w3.heap.size 0 (.map []) rfl HO.out (by unfold maxLen; omega) _ _ _ rfl rfl hkey (.agg []) [] unitElem_mk ?_)
          | fail)
      intro w6 ho6 ht6
      have H6 := kide ((HH5.out.more (Nat.le_succ K)).turned ho6 (by omega) ht6)
      have K6 := kide (KK5.out.trans (Ksh.turned ht6))
      have B6 := kide (Below.grown BB5.out ht6.grown (by have := BB5.out.size; omega) (fun j hj => by cases hj; exact hz3))
      clear ho6 ht6
      go_wp2_with fail
      go_end0
      exact ⟨rfl, ⟨_, _, H6.out⟩, B6.out, K6.out⟩
    · rw [hm] at c1
      have HO := kide ho
      have hz4 := B3.out.size
      clear ho hm
      go_wp2_with (first
          | (at_mapUpdate; refine wpList_mapUpdate_in _ rfl _ _ _ 81 rfl 2 126 i64Keyed Try.underlying81 unitElem g m D rfl HO.out (by unfold maxLen; omega) _ _ _ rfl rfl hkey (.agg []) [] unitElem_mk ?_)
          | fail)
      intro w6 ho6 ht6
      have H6 := kide ((H3.out.more (Nat.le_succ K)).turned ho6 (by omega) ht6)
      have K6 := kide (K3.out.trans (Ksh.turned ht6))
      have B6 := kide (Below.grown B3.out ht6.grown hz3 (fun j hj => by cases hj; exact hgB))
      clear ho6 ht6
      go_wp2_with fail
      go_end0
      exact ⟨rfl, ⟨_, _, H6.out⟩, B6.out, K6.out⟩

end Go.Proofs.Ythoiajpbpoglfaa

/- Words held against one another, numbers looked for, on the given side. -/
namespace Go.Proofs.Ythoiajpbpoglfaa
set_option linter.unusedVariables false
set_option linter.unusedSimpArgs false
open Go.RowKit

set_option maxHeartbeats 1000000 in
set_option maxRecDepth 100000 in
theorem l3Same_any (W : Int) (a : Option Addr) (c : Nat) (xs : List Nat) (V : Int) (b : Option Addr) (d : Nat) (ys : List Nat) (w : World) (hr : Rd w a xs) (hs : Rd w b ys) :
    Calls Try.prog 60 #[.agg #[.int .i64 W, .slice a xs.length c], .agg #[.int .i64 V, .slice b ys.length d]] w fun e w' => e = .returned (.bool (decide (W = V) && decide (xs = ys))) ∧ Below w.heap.size w w' := by
  have s0 := Bb.start w (.cells #[Value.int .i64 W, Value.slice a xs.length c] 48) (.cells #[Value.int .i64 V, Value.slice b ys.length d] 48)
  have HRA := kide (fun u (hu : Below w.heap.size w u) => hr.later hu)
  have HRB := kide (fun u (hu : Below w.heap.size w u) => hs.later hu)
  have hl1 := hr.1
  have hl2 := hs.1
  clear hr hs
  by_cases hWV : W = V
  · by_cases hlen : ys.length = xs.length
    · subst hWV
      have hR : (decide (W = W) && decide (xs = ys)) = decide (xs = ys) := by simp
      rw [hR]
      generalize hZ : decide (xs = ys) = Z
      have HZ := kide hZ
      have HLE := kide hlen
      rw [hlen] at s0
      simp only [hlen]
      have h1 : (W != W) = false := by simp
      have h2 : ((xs.length : Int) != (xs.length : Int)) = false := by simp
      clear hZ hlen hR hl2
      go_enter Try.func60, Try.ntmps60
      go_wp2_with fail
      clear h1 h2
      go_loopw [5] (fun i wr => ∃ k : Nat, k ≤ xs.length ∧ i = .int .i64 k ∧ (∀ j, j < k → xs.getD j 0 = ys.getD j 0) ∧ Bb w (.cells #[Value.int .i64 W, Value.slice a xs.length c] 48) (.cells #[Value.int .i64 W, Value.slice b xs.length d] 48) wr) (fun i _ => xs.length - (intOf i).toNat)
      case atStart => exact ⟨0, Nat.zero_le _, rfl, fun j h => by omega, s0⟩
      case round =>
        obtain ⟨k, hk, rfl, heq, s3⟩ := hrel
        have g1 := s3.one 1
        have f1 := s3.two 1
        simp at g1 f1
        by_cases hjx : k < xs.length
        · have hji : (k : Int) < (xs.length : Int) := by omega
          obtain ⟨-, -, hn | ⟨g, o, rfl, hc⟩⟩ := HRA.out wr s3.below
          · subst hn; simp at hjx
          obtain ⟨-, -, hn | ⟨g', o', rfl, hc'⟩⟩ := HRB.out wr s3.below
          · have := HLE.out; subst hn; simp at this; omega
          have hx1 := hc k hjx
          have hy1 := hc' k (by have := HLE.out; omega)
          obtain ⟨x, hx⟩ : ∃ x, xs.getD k 0 = x := ⟨_, rfl⟩
          obtain ⟨y, hy⟩ : ∃ y, ys.getD k 0 = y := ⟨_, rfl⟩
          rw [hx] at hx1
          rw [hy] at hy1
          have HX := kide hx
          have HY := kide hy
          have HEQ := kide heq
          clear hc hc' hx hy heq s0
          by_cases h1 : x = y
          · subst h1
            have hne : ((x : Int) != (x : Int)) = false := by simp
            go_wp2_with fail
            go_quiet (fail)
            go_wp2_with fail
            go_roundw
            case rel =>
              refine ⟨k + 1, by omega, by go_num, fun i h2 => ?_, s3.next (below_drewN (Below.refl _ _) _)⟩
              by_cases hij : i = k
              · subst hij
                rw [HX.out, HY.out]
              · exact HEQ.out i (by omega)
            case measure => first | (simp [intOf]; done) | (simp [intOf]; omega)
          · have hne : ((x : Int) != (y : Int)) = true := by simp; omega
            have HF : Hid (Z = false) := by
              show _ = _
              rw [← HZ.out]
              simp only [decide_eq_false_iff_not]
              intro he
              apply h1
              rw [← HX.out, ← HY.out, he]
            clear h1
            go_wp2_with fail
            go_quiet (fail)
            go_wp2_with fail
            go_ret
            exact ⟨ret_bool HF.out.symm, s3.below.trans (below_drewN (Below.refl _ _) _)⟩
        · have HT : Hid (Z = true) := by
            show _ = _
            rw [← HZ.out]
            simp only [decide_eq_true_eq]
            refine List.ext_getElem HLE.out.symm (fun j h1 h2 => ?_)
            have := heq j (by omega)
            simpa [List.getD, h1, h2] using this
          clear heq
          go_wp2_with fail
          go_ret
          exact ⟨ret_bool HT.out.symm, s3.below⟩
    · have hR : (decide (W = V) && decide (xs = ys)) = false := by
        simp only [Bool.and_eq_false_iff, decide_eq_false_iff_not]
        exact .inr (fun h => hlen (by rw [h]))
      rw [hR]
      have h1 : (W != V) = false := by simp [hWV]
      have h2 : ((xs.length : Int) != (ys.length : Int)) = true := by simp; omega
      clear hR hWV hlen
      go_enter Try.func60, Try.ntmps60
      go_wp2_with fail
      go_ret
      exact ⟨rfl, s0.below⟩
  · have hR : (decide (W = V) && decide (xs = ys)) = false := by simp [hWV]
    rw [hR]
    have h1 : (W != V) = true := by simp [hWV]
    clear hR hWV
    go_enter Try.func60, Try.ntmps60
    go_wp2_with fail
    go_ret
    exact ⟨rfl, s0.below⟩

end Go.Proofs.Ythoiajpbpoglfaa

/- Words in new memory. -/
namespace Go.Proofs.Ythoiajpbpoglfaa
set_option linter.unusedVariables false
set_option linter.unusedSimpArgs false
open Go.RowKit

def OwW (w : World) (base : Nat) (v : Value) (xs : List Nat) : Prop := w.ownsRow base 88 1 v xs.length (u64s xs).toList

theorem OwW.nils (w : World) (base : Nat) : OwW w base (.slice none 0 0) [] := ⟨rfl, .inl ⟨rfl, rfl⟩⟩
theorem OwW.empty (w : World) (base g : Nat) (hg : g = w.heap.size) (h : base ≤ g) : OwW (w.alloc (.cells #[] 88)) base (.slice (some ⟨g, 0, Option.none⟩) 0 0) [] := by
  subst hg
  exact World.ownsRow_made w #[] 0 h (Nat.zero_le _) (by simp)

/-- A word's bits in new memory: a block of words whose first ones they are. -/
def Nw (w : World) (lo : Nat) (a : Option Addr) (xs : List Nat) : Prop :=
  (xs = [] ∧ ∀ x, a = some x → lo ≤ x.block ∧ x.off = 0 ∧ ∃ cur, w.heap[x.block]? = some (.cells cur 88 (0, 0))) ∨ ∃ g cur, a = some ⟨g, 0, none⟩ ∧ lo ≤ g ∧ w.heap[g]? = some (.cells cur 88 (0, 0)) ∧ ∀ i, i < xs.length → cur[i]? = some (.int .u64 ((xs.getD i 0 : Nat) : Int))

theorem OwW.shape {w : World} {base : Nat} {v : Value} {xs : List Nat} (h : OwW w base v xs) : ∃ a c, v = .slice a xs.length c ∧ Nw w base a xs := by
  obtain ⟨h1, ⟨rfl, h2⟩ | ⟨g, cap, cur, rfl, hg, hh, hc1, hc2, hsz, hcur⟩⟩ := h
  · have e := List.eq_nil_of_length_eq_zero h2
    subst e
    exact ⟨none, 0, rfl, .inl ⟨rfl, fun x e => by cases e⟩⟩
  · refine ⟨some ⟨g, 0, none⟩, cap, rfl, .inr ⟨g, cur, rfl, hg, hh, fun i hi => ?_⟩⟩
    have h3 : (cur.toList.take (xs.length * 1))[i]? = (u64s xs).toList[i]? := by rw [hcur]
    rw [List.getElem?_take, if_pos (by omega)] at h3
    simp only [Array.getElem?_toList] at h3
    rw [h3, u64s_get _ _ hi]

theorem Own.nw {w : World} {lo g : Nat} {xs : List Nat} (h : Own w g xs) (hg : lo ≤ g) : Nw w lo (some ⟨g, 0, none⟩) xs := .inr ⟨g, u64s xs, rfl, hg, h, fun i hi => u64s_get _ _ hi⟩

theorem Nw.rd {w : World} {lo : Nat} {a : Option Addr} {xs : List Nat} (h : Nw w lo a xs) (hl : xs.length ≤ 1048576) (hx : ∀ x ∈ xs, x < 18446744073709551616) : Rd w a xs := by
  refine ⟨hl, hx, ?_⟩
  rcases h with ⟨h1, -⟩ | ⟨g, cur, h1, -, h3, h4⟩
  · exact .inl h1
  · refine .inr ⟨g, 0, h1, fun i hi => ?_⟩
    rw [Nat.zero_add, cell_of_row w g i cur _ _ h3]
    exact h4 i hi

theorem Nw.mono {w : World} {lo lo' : Nat} {a : Option Addr} {xs : List Nat} (h : Nw w lo a xs) (hl : lo' ≤ lo) : Nw w lo' a xs := by
  rcases h with ⟨h1, h2⟩ | ⟨g, cur, h1, h2, h3, h4⟩
  · exact .inl ⟨h1, fun x e => ⟨Nat.le_trans hl (h2 x e).1, (h2 x e).2⟩⟩
  · exact .inr ⟨g, cur, h1, Nat.le_trans hl h2, h3, h4⟩

theorem Nw.kept {w w' : World} {lo : Nat} {a : Option Addr} {xs : List Nat} (h : Nw w lo a xs) (hk : ∀ (k : Nat) (cur : Array Value), w.heap[k]? = some (Obj.cells cur 88 (0, 0)) → w'.heap[k]? = w.heap[k]?) : Nw w' lo a xs := by
  rcases h with ⟨h1, h2⟩ | ⟨g, cur, h1, h2, h3, h4⟩
  · refine .inl ⟨h1, fun x e => ?_⟩
    obtain ⟨a, b, cur, c⟩ := h2 x e
    exact ⟨a, b, cur, by rw [hk _ _ c]; exact c⟩
  · exact .inr ⟨g, cur, h1, h2, by rw [hk _ _ h3]; exact h3, h4⟩

theorem Nw.later {w w' : World} {lo : Nat} {a : Option Addr} {xs : List Nat} (h : Nw w lo a xs) (hb : Below w.heap.size w w') : Nw w' lo a xs := Nw.kept h fun k cur hc => hb.block k (lt_of_block hc)

/-- 'append(out, list...)' of words at a step of a region that draws its order. -/
theorem step_appWs (w : World) {ops : Array Oper} {o : Oper} {a : Act} {K : Act → World → Prop} {Q : Exit → Act → World → Prop} {E : Prop} (hgd : o.guard = none) (s x : Operand)
    (ho : o.op = .call { callee := .builtin .append, args := #[s, x], argTypes := #[46, 46] })
    (base : Nat) (v : Value) (bs ys : List Nat) (hs : a.eval s = v) (hown : OwW w base v bs) (b ob c : Nat) (hx : a.eval x = .slice (some ⟨b, ob, none⟩) ys.length c)
    (hc : ∀ i, i < ys.length → w.cell? ⟨b, ob + i, none⟩ = some (.int .u64 ((ys.getD i 0 : Nat) : Int))) (hl : bs.length + ys.length ≤ 4194304) (hbase : base ≤ w.heap.size)
    (h : ∀ v' w', OwW w' base v' (bs ++ ys) → w.grownBy w' v.ownBlock → K (a.put o.dst v') w') :
    if Region.wanted o (yielded ops a.tmps) = true then Oper.wp Try.prog o a w K Q else E := by
  have hw : Region.wanted o (yielded ops a.tmps) = true := by simp [Region.wanted, hgd]
  rw [if_pos hw]
  obtain ⟨i0, hi, hz0, hz1, hz2⟩ := info_parts Try.infoU64
  refine wp_append_own w s x 46 ho base 88 i0 (.int .u64 0) 1 8 Try.underlying46 hi hz0 hz1 hz2 rfl (by decide) v bs.length (u64s bs).toList hs hown ⟨b, ob, none⟩ ys.length c (u64s ys).toList hx (by simp [u64s]) ?_ ?_ ?_ ?_ hbase ?_
  · intro j u hj
    have hj' : j < ys.length := by
      have := (List.getElem?_eq_some_iff.1 hj).1
      simpa [u64s] using this
    rw [Addr.add_lit, hc j hj']
    simp [u64s, hj'] at hj
    rw [← hj]
    simp [List.getD, hj']
  · intro u hu
    simp [u64s] at hu
    obtain ⟨_, _, rfl⟩ := hu
    rfl
  · unfold maxLen; omega
  · omega
  · intro v' w' h1 h2 _
    refine h v' w' ?_ h2
    unfold OwW
    simpa [u64s] using h1


end Go.Proofs.Ythoiajpbpoglfaa

/- Rows of words of one's own on a seat without EL: SD over ELB. -/
namespace Go.Proofs.Ythoiajpbpoglfaa
set_option linter.unusedVariables false
set_option linter.unusedSimpArgs false
open Go.RowKit

def bwc : List Bw → List Value
  | [] => []
  | x :: t => .int .i64 x.wd :: .slice x.a x.ws.length x.c :: bwc t
theorem bwc_len (l : List Bw) : (bwc l).length = l.length * 2 := by
  induction l with
  | nil => rfl
  | cons x t ih => simp [bwc, ih]; omega
theorem bwc_append (l m : List Bw) : bwc (l ++ m) = bwc l ++ bwc m := by
  induction l with
  | nil => rfl
  | cons x t ih => simp [bwc, ih]
theorem bwc_get : ∀ {l : List Bw} {i : Nat} {x : Bw}, l[i]? = some x → (bwc l)[i * 2]? = some (.int .i64 x.wd) ∧ (bwc l)[i * 2 + 1]? = some (.slice x.a x.ws.length x.c)
  | y :: t, 0, x, h => by simp at h; subst h; simp [bwc]
  | y :: t, i + 1, x, h => by
    have := bwc_get (l := t) (i := i) (x := x) (by simpa using h)
    rw [show (i + 1) * 2 = i * 2 + 1 + 1 by omega]
    simpa [bwc] using this
theorem bwc_plain (l : List Bw) : ∀ v ∈ bwc l, (∃ x, v = .int .i64 x) ∨ ∃ a n c, v = .slice a n c := by
  induction l with
  | nil => simp [bwc]
  | cons x t ih =>
    intro v hv
    simp [bwc] at hv
    rcases hv with rfl | rfl | hv
    · exact .inl ⟨_, rfl⟩
    · exact .inr ⟨_, _, _, rfl⟩
    · exact ih v hv

/-- An owned row of words. -/
def OB2 (w : World) (B : Nat) (v : Value) (l : List Bw) : Prop := w.ownsRow B 48 2 v l.length (bwc l)

theorem OB2.later {w w' : World} {B : Nat} {v : Value} {l : List Bw} (h : OB2 w B v l) (hb : Below w.heap.size w w') : OB2 w' B v l := World.ownsRow.kept (row := none) h ⟨hb.os, hb.tape, hb.output, hb.size, fun k hk _ => hb.block k hk⟩ (by
  cases h' : v.ownBlock with
  | none => exact .inl rfl
  | some k => exact .inr (by simp))
theorem OB2.lt {w : World} {B : Nat} {v : Value} {l : List Bw} (h : OB2 w B v l) {b : Nat} (hb : v.ownBlock = some b) : B ≤ b ∧ b < w.heap.size := by
  rcases h.2 with ⟨rfl, -⟩ | ⟨g, cap, cur, rfl, hg, hh, -⟩
  · cases hb
  · cases hb
    exact ⟨hg, lt_of_block hh⟩
theorem OB2.typed {w : World} {B : Nat} {v : Value} {l : List Bw} (h : OB2 w B v l) {b : Nat} (hb : v.ownBlock = some b) : ∃ cur, w.heap[b]? = some (.cells cur 48 (0, 0)) := by
  rcases h.2 with ⟨rfl, -⟩ | ⟨g, cap, cur, rfl, hg, hh, -⟩
  · cases hb
  · cases hb
    exact ⟨cur, hh⟩
theorem OB2.nil (w : World) (B : Nat) : OB2 w B (.slice none 0 0) [] := ⟨rfl, .inl ⟨rfl, rfl⟩⟩
theorem OB2.move {w w' : World} {B : Nat} {v : Value} {l : List Bw} (h : OB2 w B v l) (hk : ∀ b, v.ownBlock = some b → w'.heap[b]? = w.heap[b]?) : OB2 w' B v l := by
  refine ⟨h.1, ?_⟩
  rcases h.2 with h0 | ⟨g, cap, cur, rfl, hg, hh, r⟩
  · exact .inl h0
  · exact .inr ⟨g, cap, cur, rfl, hg, (hk g rfl).trans hh, r⟩

theorem OB2.form {w : World} {B : Nat} {v : Value} {l : List Bw} (h : OB2 w B v l) : ∃ a c, v = .slice a l.length c := by
  rcases h.2 with ⟨e, h0⟩ | ⟨g, cap, cur, e, -⟩
  · exact ⟨none, 0, by rw [e, h0]⟩
  · exact ⟨_, _, e⟩

theorem OB2.empty (w : World) (B : Nat) (h : B ≤ w.heap.size) : OB2 (w.alloc (.cells #[] 48)) B (.slice (some ⟨w.heap.size, 0, Option.none⟩) 0 0) [] := World.ownsRow_made w #[] 0 h (Nat.zero_le _) (by simp)
theorem OB2.at {w : World} {B : Nat} {v : Value} {l : List Bw} (h : OB2 w B v l) {i : Nat} {x : Bw} (hi : l[i]? = some x) : ∃ g c, v = .slice (some ⟨g, 0, none⟩) l.length c ∧ w.cell? ⟨g, i * 2, none⟩ = some (.int .i64 x.wd) ∧ w.cell? ⟨g, i * 2 + 1, none⟩ = some (.slice x.a x.ws.length x.c) := by
  have hil := (List.getElem?_eq_some_iff.1 hi).1
  rcases h.2 with ⟨-, h0⟩ | ⟨g, cap, cur, rfl, hg, hh, hc1, hc2, hsz, hcur⟩
  · omega
  · obtain ⟨e0, e1⟩ := bwc_get hi
    rw [← hcur] at e0 e1
    rw [List.getElem?_take, if_pos (by omega)] at e0 e1
    simp only [Array.getElem?_toList] at e0 e1
    exact ⟨g, cap, rfl, by rw [cell_of_row w g _ cur _ _ hh]; exact e0, by rw [cell_of_row w g _ cur _ _ hh]; exact e1⟩
/-- What can be read of it. -/
theorem OB2.rd {w : World} {B : Nat} {v : Value} {l : List Bw} (h : OB2 w B v l) (hl : l.length ≤ 1048576) (hx : ∀ x ∈ l, Rd w x.a x.ws ∧ in64 x.wd) : ∃ a c, v = .slice a l.length c ∧ RdW w a l := by
  by_cases e : l = []
  · subst e
    obtain ⟨a, c, rfl⟩ := h.form
    exact ⟨a, c, rfl, by simp, .inl rfl⟩
  · have h0 : 0 < l.length := List.length_pos_iff.2 e
    obtain ⟨g, c, rfl, -⟩ := h.at (List.getElem?_eq_getElem h0)
    refine ⟨_, c, rfl, hl, .inr ⟨g, 0, rfl, fun i x hi => ?_⟩⟩
    obtain ⟨g', c', e', h1, h2⟩ := h.at hi
    cases e'
    obtain ⟨h3, h4⟩ := hx x (List.mem_of_getElem? hi)
    exact ⟨by rw [Nat.zero_add]; exact h1, by rw [Nat.zero_add]; exact h2, h3, h4⟩

/-- 'append(list, x)' at a step of a region that draws its order; and in a row of operations. -/
theorem step_appB2 (w : World) {ops : Array Oper} {o : Oper} {a : Act} {K : Act → World → Prop} {Q : Exit → Act → World → Prop} {E : Prop} (hgd : o.guard = none) (s x : Operand)
    (ho : o.op = .call { callee := .builtin .append, args := #[s, x], argTypes := #[27, 27] })
    (B : Nat) (v : Value) (l : List Bw) (y : Bw) (hs : a.eval s = v) (hown : OB2 w B v l) (gx c : Nat) (hx : a.eval x = .slice (some ⟨gx, 0, none⟩) 1 c)
    (h0 : w.cell? ⟨gx, 0, none⟩ = some (.int .i64 y.wd)) (h1 : w.cell? ⟨gx, 1, none⟩ = some (.slice y.a y.ws.length y.c)) (hl : l.length ≤ 1073741824) (hB : B ≤ w.heap.size)
    (h : ∀ g cap w', OB2 w' B (.slice (some ⟨g, 0, none⟩) (l.length + 1) cap) (l ++ [y]) → w.grownBy w' v.ownBlock → K (a.put o.dst (.slice (some ⟨g, 0, none⟩) (l.length + 1) cap)) w') :
    if Region.wanted o (yielded ops a.tmps) = true then Oper.wp Try.prog o a w K Q else E := by
  obtain ⟨i0, hi, hz0, hz1, hz2⟩ := info_parts Try.infoBits
  refine step_append_lies w hgd s x 27 ho B 48 i0 _ 2 32 Try.underlying27 hi hz0 hz1 hz2 rfl (by decide) v l.length (bwc l) hs hown ⟨gx, 0, none⟩ 1 c (bwc [y]) hx rfl ?_ ?_ (by decide) ?_ ?_ hB _ rfl ?_
  · intro j u hj
    rw [Addr.add_lit]
    match j, hj with
    | 0, hj => simp [bwc] at hj; subst hj; exact h0
    | 1, hj => simp [bwc] at hj; subst hj; exact h1
    | j + 2, hj => simp [bwc] at hj
  · intro u hu
    simp [bwc] at hu
    rcases hu with rfl | rfl <;> rfl
  · unfold maxLen; omega
  · omega
  · intro g cap w' h1 h2 _ _
    refine h g cap w' ?_ h2
    unfold OB2
    rw [bwc_append, List.length_append]
    exact h1

theorem wpList_appB2 {w : World} {ops : Array Oper} {rest : List Oper} {o : Oper} {a : Act} {Q : Exit → Act → World → Prop} (hgd : o.guard = none) (s x : Operand)
    (ho : o.op = .call { callee := .builtin .append, args := #[s, x], argTypes := #[27, 27] })
    (B : Nat) (v : Value) (l : List Bw) (y : Bw) (hs : a.eval s = v) (hown : OB2 w B v l) (gx c : Nat) (hx : a.eval x = .slice (some ⟨gx, 0, none⟩) 1 c)
    (h0 : w.cell? ⟨gx, 0, none⟩ = some (.int .i64 y.wd)) (h1 : w.cell? ⟨gx, 1, none⟩ = some (.slice y.a y.ws.length y.c)) (hl : l.length ≤ 1073741824) (hB : B ≤ w.heap.size)
    (h : ∀ g cap w', OB2 w' B (.slice (some ⟨g, 0, none⟩) (l.length + 1) cap) (l ++ [y]) → w.grownBy w' v.ownBlock → wpList Try.prog ops Q rest (a.put o.dst (.slice (some ⟨g, 0, none⟩) (l.length + 1) cap)) w') : wpList Try.prog ops Q (o :: rest) a w := by
  obtain ⟨i0, hi, hz0, hz1, hz2⟩ := info_parts Try.infoBits
  refine wpList_append_lies w hgd s x 27 ho B 48 i0 _ 2 32 Try.underlying27 hi hz0 hz1 hz2 rfl (by decide) v l.length (bwc l) hs hown ⟨gx, 0, none⟩ 1 c (bwc [y]) hx rfl ?_ ?_ (by decide) ?_ ?_ hB _ rfl ?_
  · intro j u hj
    rw [Addr.add_lit]
    match j, hj with
    | 0, hj => simp [bwc] at hj; subst hj; exact h0
    | 1, hj => simp [bwc] at hj; subst hj; exact h1
    | j + 2, hj => simp [bwc] at hj
  · intro u hu
    simp [bwc] at hu
    rcases hu with rfl | rfl <;> rfl
  · unfold maxLen; omega
  · omega
  · intro g cap w' h1 h2 _ _
    refine h g cap w' ?_ h2
    unfold OB2
    rw [bwc_append, List.length_append]
    exact h1

theorem nw_lt {w : World} {lo : Nat} {a : Option Addr} {xs : List Nat} (h : Nw w lo a xs) {p : Addr} (hp : a = some p) : lo ≤ p.block ∧ p.block < w.heap.size := by
  rcases h with ⟨h1, h2⟩ | ⟨g, cur, h1, h2, h3, h4⟩
  · obtain ⟨k1, -, cur, k2⟩ := h2 p hp
    exact ⟨k1, lt_of_block k2⟩
  · rw [h1] at hp
    cases hp
    exact ⟨h2, lt_of_block h3⟩

/-- No two have a block in common. -/
def DjB (l : List Bw) : Prop := ∀ (i j : Nat) (x y : Bw), i < j → l[i]? = some x → l[j]? = some y → ∀ p q, x.a = some p → y.a = some q → p.block ≠ q.block
theorem DjB.nil : DjB [] := fun i j x y _ h => by simp at h
theorem DjB.snoc {w : World} {B : Nat} {l : List Bw} {x : Bw} (h : DjB l) (hl : ∀ y ∈ l, Nw w B y.a y.ws) (hx : ∀ p, x.a = some p → w.heap.size ≤ p.block) : DjB (l ++ [x]) := fun i j y z hij hi hj p q hp hq => by
  rw [List.getElem?_append] at hi hj
  split at hj
  · rename_i hjl
    rw [if_pos (by omega)] at hi
    exact h i j y z hij hi hj p q hp hq
  · rename_i hjl
    have hj0 : j - l.length = 0 := by have := (List.getElem?_eq_some_iff.1 hj).1; simp at this; omega
    rw [hj0] at hj
    simp at hj
    subst hj
    rw [if_pos (by omega)] at hi
    have h1 := (nw_lt (hl y (List.mem_of_getElem? hi)) hp).2
    have h2 := hx q hq
    omega
theorem DjB.set {w : World} {B k : Nat} {l : List Bw} {x : Bw} (h : DjB l) (hl : ∀ y ∈ l, Nw w B y.a y.ws) (hx : ∀ p, x.a = some p → w.heap.size ≤ p.block) : DjB (l.set k x) := fun i j y z hij hi hj p q hp hq => by
  rw [List.getElem?_set] at hi hj
  split at hi
  · split at hi
    · simp at hi
      subst hi
      split at hj
      · omega
      · have h1 := (nw_lt (hl z (List.mem_of_getElem? hj)) hq).2
        have h2 := hx p hp
        omega
    · cases hi
  · split at hj
    · split at hj
      · simp at hj
        subst hj
        have h1 := (nw_lt (hl y (List.mem_of_getElem? hi)) hp).2
        have h2 := hx q hq
        omega
      · cases hj
    · exact h i j y z hij hi hj p q hp hq

end Go.Proofs.Ythoiajpbpoglfaa
