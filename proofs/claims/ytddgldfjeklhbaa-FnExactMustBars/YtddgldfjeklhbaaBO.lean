/- Hedges: rows of others, maps of values, crowds. -/
import Derived.Test.YtddgldfjeklhbaaBN
namespace Go.Proofs.Ytddgldfjeklhbaa
set_option linter.unusedVariables false
set_option linter.unusedSimpArgs false
open Go.RowKit Go.WideMaps Go.Maps Go.MapKept Go.ChangeMaps

theorem Try.infoI64h : (Try.prog.info? 2).map (fun i => (i.zero, i.size, i.bytes)) = some (some (.int .i64 0), 1, 8) := by kernel_rfl

/-- Hedges as they lie: n of them in the block H; all from the block B on. -/
structure Hg (w : World) (B H n K : Nat) (ov mv : Nat → Value) (cr : Nat → Int) : Prop where
  cs : ∃ cc, w.heap[H]? = some (.cells cc 75 (0, 0)) ∧ ∀ i, i < n → cc[i * 3]? = some (ov i) ∧ cc[i * 3 + 1]? = some (mv i) ∧ cc[i * 3 + 2]? = some (.int .i64 (cr i))
  le : B ≤ H
  own : ∀ i, i < n → ∃ xs, w.ownsRow B 2 1 (ov i) xs.length xs ∧ xs.length ≤ K
  dj : ∀ i j b, i < n → j < n → i ≠ j → (ov i).ownBlock = some b → (ov j).ownBlock ≠ some b
  mp : ∀ i, i < n → mv i = .map none ∨ ∃ g m, ∃ D : DataW Unit, mv i = .map (some g) ∧ w.ownsMap Try.prog 2 unitElem g m D ∧ m ≤ K ∧ B ≤ g

theorem Hg.lt {w : World} {B H n K : Nat} {ov mv : Nat → Value} {cr : Nat → Int} (h : Hg w B H n K ov mv cr) : H < w.heap.size := by
  obtain ⟨cc, hh, -⟩ := h.cs
  exact lt_of_block hh

theorem owr_typed {w : World} {B n : Nat} {e : TypeId} {v : Value} {xs : List Value} (h : w.ownsRow B e 1 v n xs) {b : Nat} (hb : v.ownBlock = some b) : (∃ cur, w.heap[b]? = some (.cells cur e (0, 0))) ∧ B ≤ b := by
  rcases h.2 with ⟨rfl, -⟩ | ⟨g, cap, cur, rfl, hg, hh, -⟩
  · cases hb
  · cases hb
    exact ⟨⟨cur, hh⟩, hg⟩
theorem owr_move {w w' : World} {B n : Nat} {e : TypeId} {v : Value} {xs : List Value} (h : w.ownsRow B e 1 v n xs) (hk : ∀ b, v.ownBlock = some b → w'.heap[b]? = w.heap[b]?) : w'.ownsRow B e 1 v n xs := by
  refine ⟨h.1, ?_⟩
  rcases h.2 with h0 | ⟨g, cap, cur, rfl, hg, hh, r⟩
  · exact .inl h0
  · exact .inr ⟨g, cap, cur, rfl, hg, (hk g rfl).trans hh, r⟩

theorem Hg.later {w w' : World} {B H n K : Nat} {ov mv : Nat → Value} {cr : Nat → Int} (h : Hg w B H n K ov mv cr) (hb : Below w.heap.size w w') : Hg w' B H n K ov mv cr where
  cs := by obtain ⟨cc, hh, r⟩ := h.cs; exact ⟨cc, (hb.block _ (lt_of_block hh)).trans hh, r⟩
  le := h.le
  own := fun i hi => by obtain ⟨xs, ho, hl⟩ := h.own i hi; exact ⟨xs, owr_move ho (fun b hb' => by obtain ⟨⟨cur, hc⟩, -⟩ := owr_typed ho hb'; exact hb.block _ (lt_of_block hc)), hl⟩
  dj := h.dj
  mp := fun i hi => by
    rcases h.mp i hi with e | ⟨g, m, D, e, ho, hm, hg⟩
    · exact .inl e
    · exact .inr ⟨g, m, D, e, own_below ho (fun hl => hb.block g hl), hm, hg⟩

theorem Hg.more {w : World} {B H n K K' : Nat} {ov mv : Nat → Value} {cr : Nat → Int} (h : Hg w B H n K ov mv cr) (hK : K ≤ K') : Hg w B H n K' ov mv cr where
  cs := h.cs
  le := h.le
  own := fun i hi => by obtain ⟨xs, ho, hl⟩ := h.own i hi; exact ⟨xs, ho, by omega⟩
  dj := h.dj
  mp := fun i hi => by
    rcases h.mp i hi with e | ⟨g, m, D, e, ho, hm, hg⟩
    · exact .inl e
    · exact .inr ⟨g, m, D, e, ho, by omega, hg⟩

def upd {α : Type} (f : Nat → α) (i : Nat) (x : α) (j : Nat) : α := if j = i then x else f j
theorem upd_same {α : Type} (f : Nat → α) (i : Nat) (x : α) : upd f i x i = x := by simp [upd]
theorem upd_ne {α : Type} (f : Nat → α) {i j : Nat} (x : α) (h : j ≠ i) : upd f i x j = f j := by simp [upd, h]

/-- The crowd of one is written anew. -/
theorem Hg.crowd {w : World} {B H n K : Nat} {ov mv : Nat → Value} {cr : Nat → Int} (h : Hg w B H n K ov mv cr) (i : Nat) (c : Int) : Hg (w.setCell ⟨H, i * 3 + 2, none⟩ (.int .i64 c)) B H n K ov mv (upd cr i c) := by
  obtain ⟨cc, hh, r⟩ := h.cs
  refine ⟨⟨cc.setIfInBounds (i * 3 + 2) (.int .i64 c), heap_setCell_same w H _ _ _ _ hh, fun j hj => ?_⟩, h.le, fun j hj => ?_, h.dj, fun j hj => ?_⟩
  · obtain ⟨r1, r2, r3⟩ := r j hj
    refine ⟨by rw [Array.getElem?_setIfInBounds_ne (by omega)]; exact r1, by rw [Array.getElem?_setIfInBounds_ne (by omega)]; exact r2, ?_⟩
    by_cases e : j = i
    · subst e
      rw [upd_same, Array.getElem?_setIfInBounds_self_of_lt]
      exact (Array.getElem?_eq_some_iff.1 r3).1
    · rw [upd_ne _ _ e, Array.getElem?_setIfInBounds_ne (by omega)]; exact r3
  · obtain ⟨xs, ho, hl⟩ := h.own j hj
    refine ⟨xs, owr_move ho (fun b hb => heap_setCell_other _ _ _ _ (fun e => ?_)), hl⟩
    simp at e; subst e
    obtain ⟨⟨cur, hc⟩, -⟩ := owr_typed ho hb
    rw [hh] at hc; cases hc
  · rcases h.mp j hj with e | ⟨g, m, D, e, ho, hm, hg⟩
    · exact .inl e
    · refine .inr ⟨g, m, D, e, own_below ho (fun hl => heap_setCell_other _ _ _ _ (fun e => ?_)), hm, hg⟩
      simp at e; subst e
      obtain ⟨es, ck, hc⟩ := own_isMap ho
      rw [hh] at hc; cases hc

/-- A row of others is written anew, and its slice put in. -/
theorem Hg.other {w w1 : World} {B H n K : Nat} {ov mv : Nat → Value} {cr : Nat → Int} (h : Hg w B H n K ov mv cr) {i : Nat} (hi : i < n) {v : Value} {xs : List Value} (ho : w1.ownsRow B 2 1 v xs.length xs) (hx : xs.length ≤ K) (hg : w.grownBy w1 (ov i).ownBlock) (hat : v.ownBlock = (ov i).ownBlock ∨ v.ownBlock = some w.heap.size) :
    Hg (w1.setCell ⟨H, i * 3, none⟩ v) B H n K (upd ov i v) mv cr := by
  obtain ⟨cc, hh, r⟩ := h.cs
  obtain ⟨xi, hoi, -⟩ := h.own i hi
  have hh1 : w1.heap[H]? = some (.cells cc 75 (0, 0)) := by
    rw [hg.block H (lt_of_block hh) (fun e => ?_)]
    · exact hh
    · obtain ⟨⟨cur, hc⟩, -⟩ := owr_typed hoi e.symm
      rw [hh] at hc; cases hc
  refine ⟨⟨cc.setIfInBounds (i * 3) v, heap_setCell_same w1 H _ _ _ _ hh1, fun j hj => ?_⟩, h.le, fun j hj => ?_, fun j k b hj hk hjk hb => ?_, fun j hj => ?_⟩
  · obtain ⟨r1, r2, r3⟩ := r j hj
    refine ⟨?_, by rw [Array.getElem?_setIfInBounds_ne (by omega)]; exact r2, by rw [Array.getElem?_setIfInBounds_ne (by omega)]; exact r3⟩
    by_cases e : j = i
    · subst e
      rw [upd_same, Array.getElem?_setIfInBounds_self_of_lt]
      exact (Array.getElem?_eq_some_iff.1 r1).1
    · rw [upd_ne _ _ e, Array.getElem?_setIfInBounds_ne (by omega)]; exact r1
  · have hset : ∀ (b : Nat) (cur : Array Value), w1.heap[b]? = some (.cells cur 2 (0, 0)) → (w1.setCell ⟨H, i * 3, none⟩ v).heap[b]? = w1.heap[b]? := fun b cur hc => heap_setCell_other _ _ _ _ (fun e => by simp at e; subst e; rw [hh1] at hc; cases hc)
    by_cases e : j = i
    · subst e
      rw [upd_same]
      exact ⟨xs, owr_move ho (fun b hb => by obtain ⟨⟨cur, hc⟩, -⟩ := owr_typed ho hb; exact hset b cur hc), hx⟩
    · rw [upd_ne _ _ e]
      obtain ⟨ys, hoj, hl⟩ := h.own j hj
      have k1 : ∀ b, (ov j).ownBlock = some b → w1.heap[b]? = w.heap[b]? := fun b hb => by
        obtain ⟨⟨cur, hc⟩, -⟩ := owr_typed hoj hb
        exact hg.block b (lt_of_block hc) (fun e' => h.dj i j b hi hj (fun e'' => e e''.symm) e'.symm hb)
      have hoj1 := owr_move hoj k1
      exact ⟨ys, owr_move hoj1 (fun b hb => by obtain ⟨⟨cur, hc⟩, -⟩ := owr_typed hoj1 hb; exact hset b cur hc), hl⟩
  · have fresh : ∀ q, q < n → ∀ b, (ov q).ownBlock = some b → b ≠ w.heap.size := fun q hq b hb e => by
      obtain ⟨ys, hoj, -⟩ := h.own q hq
      obtain ⟨⟨cur, hc⟩, -⟩ := owr_typed hoj hb
      have := lt_of_block hc
      omega
    by_cases ej : j = i
    · subst ej
      rw [upd_same] at hb
      rw [upd_ne _ _ (fun e => hjk e.symm)]
      rcases hat with e | e
      · rw [e] at hb; exact h.dj j k b hj hk hjk hb
      · rw [e] at hb; cases hb
        exact fun e' => fresh k hk _ e' rfl
    · rw [upd_ne _ _ ej] at hb
      by_cases ek : k = i
      · subst ek
        rw [upd_same]
        rcases hat with e | e
        · rw [e]; exact h.dj j k b hj hk hjk hb
        · rw [e]; intro e'; cases e'
          exact fresh j hj _ hb rfl
      · rw [upd_ne _ _ ek]; exact h.dj j k b hj hk hjk hb
  · rcases h.mp j hj with e | ⟨g, m, D, e, ho', hm, hg'⟩
    · exact .inl e
    · obtain ⟨es, ck, hc⟩ := own_isMap ho'
      have k1 : w1.heap[g]? = w.heap[g]? := hg.block g (lt_of_block hc) (fun e' => by
        obtain ⟨⟨cur, hc'⟩, -⟩ := owr_typed hoi e'.symm
        rw [hc] at hc'; cases hc')
      have ho1 := own_below ho' (fun _ => k1)
      refine .inr ⟨g, m, D, e, own_below ho1 (fun hl => heap_setCell_other _ _ _ _ (fun e => ?_)), hm, hg'⟩
      simp at e; subst e
      obtain ⟨es, ck, hc⟩ := own_isMap ho1
      rw [hh1] at hc; cases hc

/-- A new map is put in. -/
theorem Hg.made {w : World} {B H n K : Nat} {ov mv : Nat → Value} {cr : Nat → Int} (h : Hg w B H n K ov mv cr) {i g m : Nat} {D : DataW Unit} (ho : w.ownsMap Try.prog 2 unitElem g m D) (hm : m ≤ K) (hB : B ≤ g) :
    Hg (w.setCell ⟨H, i * 3 + 1, none⟩ (.map (some g))) B H n K ov (upd mv i (.map (some g))) cr := by
  obtain ⟨cc, hh, r⟩ := h.cs
  have hmap : ∀ {g m : Nat} {D : DataW Unit}, w.ownsMap Try.prog 2 unitElem g m D → (w.setCell ⟨H, i * 3 + 1, none⟩ (.map (some g))).ownsMap Try.prog 2 unitElem g m D := fun {g m D} ho => own_below ho (fun hl => heap_setCell_other _ _ _ _ (fun e => by
    simp at e; subst e
    obtain ⟨es, ck, hc⟩ := own_isMap ho
    rw [hh] at hc; cases hc))
  refine ⟨⟨cc.setIfInBounds (i * 3 + 1) (.map (some g)), heap_setCell_same w H _ _ _ _ hh, fun j hj => ?_⟩, h.le, fun j hj => ?_, h.dj, fun j hj => ?_⟩
  · obtain ⟨r1, r2, r3⟩ := r j hj
    refine ⟨by rw [Array.getElem?_setIfInBounds_ne (by omega)]; exact r1, ?_, by rw [Array.getElem?_setIfInBounds_ne (by omega)]; exact r3⟩
    by_cases e : j = i
    · subst e
      rw [upd_same, Array.getElem?_setIfInBounds_self_of_lt]
      exact (Array.getElem?_eq_some_iff.1 r2).1
    · rw [upd_ne _ _ e, Array.getElem?_setIfInBounds_ne (by omega)]; exact r2
  · obtain ⟨xs, ho, hl⟩ := h.own j hj
    refine ⟨xs, owr_move ho (fun b hb => heap_setCell_other _ _ _ _ (fun e => ?_)), hl⟩
    simp at e; subst e
    obtain ⟨⟨cur, hc⟩, -⟩ := owr_typed ho hb
    rw [hh] at hc; cases hc
  · by_cases e : j = i
    · subst e
      rw [upd_same]
      exact .inr ⟨g, m, D, rfl, hmap ho, hm, hB⟩
    · rw [upd_ne _ _ e]
      rcases h.mp j hj with e | ⟨g', m', D', e, ho', hm', hg'⟩
      · exact .inl e
      · refine .inr ⟨g', m', D', e, own_below ho' (fun hl => heap_setCell_other _ _ _ _ (fun e => ?_)), hm', hg'⟩
        simp at e; subst e
        obtain ⟨es, ck, hc⟩ := own_isMap ho'
        rw [hh] at hc; cases hc

/-- A value is put into a map. -/
theorem Hg.turned {w w1 : World} {B H n K : Nat} {ov mv : Nat → Value} {cr : Nat → Int} (h : Hg w B H n K ov mv cr) {g m : Nat} {D : DataW Unit} (ho : w1.ownsMap Try.prog 2 unitElem g m D) (hm : m ≤ K) (ht : w.mapTurned w1 g) :
    Hg w1 B H n K ov mv cr := by
  obtain ⟨cc, hh, r⟩ := h.cs
  refine ⟨⟨cc, (turned_cells ht hh).trans hh, r⟩, h.le, fun j hj => ?_, h.dj, fun j hj => ?_⟩
  · obtain ⟨xs, ho, hl⟩ := h.own j hj
    refine ⟨xs, owr_move ho (fun b hb => ?_), hl⟩
    obtain ⟨⟨cur, hc⟩, -⟩ := owr_typed ho hb
    exact turned_cells ht hc
  · rcases h.mp j hj with e | ⟨g', m', D', e, ho', hm', hg'⟩
    · exact .inl e
    · by_cases eg : g' = g
      · subst eg
        exact .inr ⟨g', m, D, e, ho, hm, hg'⟩
      · obtain ⟨es, clock, es', clock', hb, rfl⟩ := ht
        exact .inr ⟨g', m', D', e, own_below ho' (fun hl => heap_setBlock_other hb _ eg), hm', hg'⟩

theorem Hg.cells {w : World} {B H n K : Nat} {ov mv : Nat → Value} {cr : Nat → Int} (h : Hg w B H n K ov mv cr) {i : Nat} (hi : i < n) : w.cell? ⟨H, i * 3, none⟩ = some (ov i) ∧ w.cell? ⟨H, i * 3 + 1, none⟩ = some (mv i) ∧ w.cell? ⟨H, i * 3 + 2, none⟩ = some (.int .i64 (cr i)) := by
  obtain ⟨cc, hh, r⟩ := h.cs
  obtain ⟨r1, r2, r3⟩ := r i hi
  exact ⟨by rw [cell_of_row w H _ cc _ _ hh]; exact r1, by rw [cell_of_row w H _ cc _ _ hh]; exact r2, by rw [cell_of_row w H _ cc _ _ hh]; exact r3⟩
theorem Hg.froz {w : World} {B H n K : Nat} {ov mv : Nat → Value} {cr : Nat → Int} (h : Hg w B H n K ov mv cr) (o : Nat) : w.frozen? ⟨H, o, none⟩ = false := by
  obtain ⟨cc, hh, r⟩ := h.cs
  exact frozen_of_row w H o _ _ hh

def HgE (w : World) (B H n K : Nat) (cr : Nat → Int) : Prop := ∃ ov mv, Hg w B H n K ov mv cr

end Go.Proofs.Ytddgldfjeklhbaa
