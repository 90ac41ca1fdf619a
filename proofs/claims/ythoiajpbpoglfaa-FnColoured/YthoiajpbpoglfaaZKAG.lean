/- Several texts in one. -/
import Derived.Test.YthoiajpbpoglfaaJH
import Derived.Test.YthoiajpbpoglfaaBN
import Derived.Test.YthoiajpbpoglfaaZKAF

/- Words held against one another, numbers looked for, on the given side. -/
namespace Go.Proofs.Ythoiajpbpoglfaa
set_option linter.unusedVariables false
set_option linter.unusedSimpArgs false
open Go.RowKit

set_option maxHeartbeats 1000000 in
set_option maxRecDepth 100000 in
theorem l3Same_any (W : Int) (a : Option Addr) (c : Nat) (xs : List Nat) (V : Int) (b : Option Addr) (d : Nat) (ys : List Nat) (w : World) (hr : Rd w a xs) (hs : Rd w b ys) :
    Calls Try.prog 60 #[.agg #[.int .i64 W, .slice a xs.length c], .agg #[.int .i64 V, .slice b ys.length d]] w fun e w' => e = .returned (.bool (decide (W = V) && decide (xs = ys))) ∧ Below w.heap.size w w' := by
  have s0 := Bb.start w (.cells #[Value.int .i64 W, Value.slice a xs.length c] 48) (.cells #[Value.int .i64 V, Value.slice b ys.length d] 48)
  have HRA := kide (fun u (hu : Below w.heap.size w u) => hr.later hu)
  have HRB := kide (fun u (hu : Below w.heap.size w u) => hs.later hu)
  have hl1 := hr.1
  have hl2 := hs.1
  clear hr hs
  by_cases hWV : W = V
  · by_cases hlen : ys.length = xs.length
    · subst hWV
      have hR : (decide (W = W) && decide (xs = ys)) = decide (xs = ys) := by simp
      rw [hR]
      generalize hZ : decide (xs = ys) = Z
      have HZ := kide hZ
      have HLE := kide hlen
      rw [hlen] at s0
      simp only [hlen]
      have h1 : (W != W) = false := by simp
      have h2 : ((xs.length : Int) != (xs.length : Int)) = false := by simp
      clear hZ hlen hR hl2
      go_enter Try.func60, Try.ntmps60
      go_wp2_with fail
      clear h1 h2
      go_loopw [5] (fun i wr => ∃ k : Nat, k ≤ xs.length ∧ i = .int .i64 k ∧ (∀ j, j < k → xs.getD j 0 = ys.getD j 0) ∧ Bb w (.cells #[Value.int .i64 W, Value.slice a xs.length c] 48) (.cells #[Value.int .i64 W, Value.slice b xs.length d] 48) wr) (fun i _ => xs.length - (intOf i).toNat)
      case atStart => exact ⟨0, Nat.zero_le _, rfl, fun j h => by omega, s0⟩
      case round =>
        obtain ⟨k, hk, rfl, heq, s3⟩ := hrel
        have g1 := s3.one 1
        have f1 := s3.two 1
        simp at g1 f1
        by_cases hjx : k < xs.length
        · have hji : (k : Int) < (xs.length : Int) := by omega
          obtain ⟨-, -, hn | ⟨g, o, rfl, hc⟩⟩ := HRA.out wr s3.below
          · subst hn; simp at hjx
          obtain ⟨-, -, hn | ⟨g', o', rfl, hc'⟩⟩ := HRB.out wr s3.below
          · have := HLE.out; subst hn; simp at this; omega
          have hx1 := hc k hjx
          have hy1 := hc' k (by have := HLE.out; omega)
          obtain ⟨x, hx⟩ : ∃ x, xs.getD k 0 = x := ⟨_, rfl⟩
          obtain ⟨y, hy⟩ : ∃ y, ys.getD k 0 = y := ⟨_, rfl⟩
          rw [hx] at hx1
          rw [hy] at hy1
          have HX := kide hx
          have HY := kide hy
          have HEQ := kide heq
          clear hc hc' hx hy heq s0
          by_cases h1 : x = y
          · subst h1
            have hne : ((x : Int) != (x : Int)) = false := by simp
            go_wp2_with fail
            go_quiet (fail)
            go_wp2_with fail
            go_roundw
            case rel =>
              refine ⟨k + 1, by omega, by go_num, fun i h2 => ?_, s3.next (below_drewN (Below.refl _ _) _)⟩
              by_cases hij : i = k
              · subst hij
                rw [HX.out, HY.out]
              · exact HEQ.out i (by omega)
            case measure => first | (simp [intOf]; done) | (simp [intOf]; omega)
          · have hne : ((x : Int) != (y : Int)) = true := by simp; omega
            have HF : Hid (Z = false) := by
              show _ = _
              rw [← HZ.out]
              simp only [decide_eq_false_iff_not]
              intro he
              apply h1
              rw [← HX.out, ← HY.out, he]
            clear h1
            go_wp2_with fail
            go_quiet (fail)
            go_wp2_with fail
            go_ret
            exact ⟨ret_bool HF.out.symm, s3.below.trans (below_drewN (Below.refl _ _) _)⟩
        · have HT : Hid (Z = true) := by
            show _ = _
            rw [← HZ.out]
            simp only [decide_eq_true_eq]
            refine List.ext_getElem HLE.out.symm (fun j h1 h2 => ?_)
            have := heq j (by omega)
            simpa [List.getD, h1, h2] using this
          clear heq
          go_wp2_with fail
          go_ret
          exact ⟨ret_bool HT.out.symm, s3.below⟩
    · have hR : (decide (W = V) && decide (xs = ys)) = false := by
        simp only [Bool.and_eq_false_iff, decide_eq_false_iff_not]
        exact .inr (fun h => hlen (by rw [h]))
      rw [hR]
      have h1 : (W != V) = false := by simp [hWV]
      have h2 : ((xs.length : Int) != (ys.length : Int)) = true := by simp; omega
      clear hR hWV hlen
      go_enter Try.func60, Try.ntmps60
      go_wp2_with fail
      go_ret
      exact ⟨rfl, s0.below⟩
  · have hR : (decide (W = V) && decide (xs = ys)) = false := by simp [hWV]
    rw [hR]
    have h1 : (W != V) = true := by simp [hWV]
    clear hR hWV
    go_enter Try.func60, Try.ntmps60
    go_wp2_with fail
    go_ret
    exact ⟨rfl, s0.below⟩

end Go.Proofs.Ythoiajpbpoglfaa

/- Owned words on a seat with SA. -/

/- Hedges: rows of others, maps of values, crowds. -/
namespace Go.Proofs.Ythoiajpbpoglfaa
set_option linter.unusedVariables false
set_option linter.unusedSimpArgs false
open Go.RowKit Go.WideMaps Go.Maps Go.MapKept Go.ChangeMaps

theorem Try.infoI64h : (Try.prog.info? 2).map (fun i => (i.zero, i.size, i.bytes)) = some (some (.int .i64 0), 1, 8) := by kernel_rfl

/-- Hedges as they lie: n of them in the block H; all from the block B on. -/
structure Hg (w : World) (B H n K : Nat) (ov mv : Nat → Value) (cr : Nat → Int) : Prop where
  cs : ∃ cc, w.heap[H]? = some (.cells cc 83 (0, 0)) ∧ ∀ i, i < n → cc[i * 3]? = some (ov i) ∧ cc[i * 3 + 1]? = some (mv i) ∧ cc[i * 3 + 2]? = some (.int .i64 (cr i))
  le : B ≤ H
  own : ∀ i, i < n → ∃ xs, w.ownsRow B 2 1 (ov i) xs.length xs ∧ xs.length ≤ K
  dj : ∀ i j b, i < n → j < n → i ≠ j → (ov i).ownBlock = some b → (ov j).ownBlock ≠ some b
  mp : ∀ i, i < n → mv i = .map none ∨ ∃ g m, ∃ D : DataW Unit, mv i = .map (some g) ∧ w.ownsMap Try.prog 2 unitElem g m D ∧ m ≤ K ∧ B ≤ g

theorem Hg.lt {w : World} {B H n K : Nat} {ov mv : Nat → Value} {cr : Nat → Int} (h : Hg w B H n K ov mv cr) : H < w.heap.size := by
  obtain ⟨cc, hh, -⟩ := h.cs
  exact lt_of_block hh

theorem owr_typed {w : World} {B n : Nat} {e : TypeId} {v : Value} {xs : List Value} (h : w.ownsRow B e 1 v n xs) {b : Nat} (hb : v.ownBlock = some b) : (∃ cur, w.heap[b]? = some (.cells cur e (0, 0))) ∧ B ≤ b := by
  rcases h.2 with ⟨rfl, -⟩ | ⟨g, cap, cur, rfl, hg, hh, -⟩
  · cases hb
  · cases hb
    exact ⟨⟨cur, hh⟩, hg⟩
theorem owr_move {w w' : World} {B n : Nat} {e : TypeId} {v : Value} {xs : List Value} (h : w.ownsRow B e 1 v n xs) (hk : ∀ b, v.ownBlock = some b → w'.heap[b]? = w.heap[b]?) : w'.ownsRow B e 1 v n xs := by
  refine ⟨h.1, ?_⟩
  rcases h.2 with h0 | ⟨g, cap, cur, rfl, hg, hh, r⟩
  · exact .inl h0
  · exact .inr ⟨g, cap, cur, rfl, hg, (hk g rfl).trans hh, r⟩

theorem Hg.later {w w' : World} {B H n K : Nat} {ov mv : Nat → Value} {cr : Nat → Int} (h : Hg w B H n K ov mv cr) (hb : Below w.heap.size w w') : Hg w' B H n K ov mv cr where
  cs := by obtain ⟨cc, hh, r⟩ := h.cs; exact ⟨cc, (hb.block _ (lt_of_block hh)).trans hh, r⟩
  le := h.le
  own := fun i hi => by obtain ⟨xs, ho, hl⟩ := h.own i hi; exact ⟨xs, owr_move ho (fun b hb' => by obtain ⟨⟨cur, hc⟩, -⟩ := owr_typed ho hb'; exact hb.block _ (lt_of_block hc)), hl⟩
  dj := h.dj
  mp := fun i hi => by
    rcases h.mp i hi with e | ⟨g, m, D, e, ho, hm, hg⟩
    · exact .inl e
    · exact .inr ⟨g, m, D, e, own_below ho (fun hl => hb.block g hl), hm, hg⟩

theorem Hg.more {w : World} {B H n K K' : Nat} {ov mv : Nat → Value} {cr : Nat → Int} (h : Hg w B H n K ov mv cr) (hK : K ≤ K') : Hg w B H n K' ov mv cr where
  cs := h.cs
  le := h.le
  own := fun i hi => by obtain ⟨xs, ho, hl⟩ := h.own i hi; exact ⟨xs, ho, by omega⟩
  dj := h.dj
  mp := fun i hi => by
    rcases h.mp i hi with e | ⟨g, m, D, e, ho, hm, hg⟩
    · exact .inl e
    · exact .inr ⟨g, m, D, e, ho, by omega, hg⟩

def upd {α : Type} (f : Nat → α) (i : Nat) (x : α) (j : Nat) : α := if j = i then x else f j
theorem upd_same {α : Type} (f : Nat → α) (i : Nat) (x : α) : upd f i x i = x := by simp [upd]
theorem upd_ne {α : Type} (f : Nat → α) {i j : Nat} (x : α) (h : j ≠ i) : upd f i x j = f j := by simp [upd, h]

/-- The crowd of one is written anew. -/
theorem Hg.crowd {w : World} {B H n K : Nat} {ov mv : Nat → Value} {cr : Nat → Int} (h : Hg w B H n K ov mv cr) (i : Nat) (c : Int) : Hg (w.setCell ⟨H, i * 3 + 2, none⟩ (.int .i64 c)) B H n K ov mv (upd cr i c) := by
  obtain ⟨cc, hh, r⟩ := h.cs
  refine ⟨⟨cc.setIfInBounds (i * 3 + 2) (.int .i64 c), heap_setCell_same w H _ _ _ _ hh, fun j hj => ?_⟩, h.le, fun j hj => ?_, h.dj, fun j hj => ?_⟩
  · obtain ⟨r1, r2, r3⟩ := r j hj
    refine ⟨by rw [Array.getElem?_setIfInBounds_ne (by omega)]; exact r1, by rw [Array.getElem?_setIfInBounds_ne (by omega)]; exact r2, ?_⟩
    by_cases e : j = i
    · subst e
      rw [upd_same, Array.getElem?_setIfInBounds_self_of_lt]
      exact (Array.getElem?_eq_some_iff.1 r3).1
    · rw [upd_ne _ _ e, Array.getElem?_setIfInBounds_ne (by omega)]; exact r3
  · obtain ⟨xs, ho, hl⟩ := h.own j hj
    refine ⟨xs, owr_move ho (fun b hb => heap_setCell_other _ _ _ _ (fun e => ?_)), hl⟩
    simp at e; subst e
    obtain ⟨⟨cur, hc⟩, -⟩ := owr_typed ho hb
    rw [hh] at hc; cases hc
  · rcases h.mp j hj with e | ⟨g, m, D, e, ho, hm, hg⟩
    · exact .inl e
    · refine .inr ⟨g, m, D, e, own_below ho (fun hl => heap_setCell_other _ _ _ _ (fun e => ?_)), hm, hg⟩
      simp at e; subst e
      obtain ⟨es, ck, hc⟩ := own_isMap ho
      rw [hh] at hc; cases hc

/-- A row of others is written anew, and its slice put in. -/
theorem Hg.other {w w1 : World} {B H n K : Nat} {ov mv : Nat → Value} {cr : Nat → Int} (h : Hg w B H n K ov mv cr) {i : Nat} (hi : i < n) {v : Value} {xs : List Value} (ho : w1.ownsRow B 2 1 v xs.length xs) (hx : xs.length ≤ K) (hg : w.grownBy w1 (ov i).ownBlock) (hat : v.ownBlock = (ov i).ownBlock ∨ v.ownBlock = some w.heap.size) :
    Hg (w1.setCell ⟨H, i * 3, none⟩ v) B H n K (upd ov i v) mv cr := by
  obtain ⟨cc, hh, r⟩ := h.cs
  obtain ⟨xi, hoi, -⟩ := h.own i hi
  have hh1 : w1.heap[H]? = some (.cells cc 83 (0, 0)) := by
    rw [hg.block H (lt_of_block hh) (fun e => ?_)]
    · exact hh
    · obtain ⟨⟨cur, hc⟩, -⟩ := owr_typed hoi e.symm
      rw [hh] at hc; cases hc
  refine ⟨⟨cc.setIfInBounds (i * 3) v, heap_setCell_same w1 H _ _ _ _ hh1, fun j hj => ?_⟩, h.le, fun j hj => ?_, fun j k b hj hk hjk hb => ?_, fun j hj => ?_⟩
  · obtain ⟨r1, r2, r3⟩ := r j hj
    refine ⟨?_, by rw [Array.getElem?_setIfInBounds_ne (by omega)]; exact r2, by rw [Array.getElem?_setIfInBounds_ne (by omega)]; exact r3⟩
    by_cases e : j = i
    · subst e
      rw [upd_same, Array.getElem?_setIfInBounds_self_of_lt]
      exact (Array.getElem?_eq_some_iff.1 r1).1
    · rw [upd_ne _ _ e, Array.getElem?_setIfInBounds_ne (by omega)]; exact r1
  · have hset : ∀ (b : Nat) (cur : Array Value), w1.heap[b]? = some (.cells cur 2 (0, 0)) → (w1.setCell ⟨H, i * 3, none⟩ v).heap[b]? = w1.heap[b]? := fun b cur hc => heap_setCell_other _ _ _ _ (fun e => by simp at e; subst e; rw [hh1] at hc; cases hc)
    by_cases e : j = i
    · subst e
      rw [upd_same]
      exact ⟨xs, owr_move ho (fun b hb => by obtain ⟨⟨cur, hc⟩, -⟩ := owr_typed ho hb; exact hset b cur hc), hx⟩
    · rw [upd_ne _ _ e]
      obtain ⟨ys, hoj, hl⟩ := h.own j hj
      have k1 : ∀ b, (ov j).ownBlock = some b → w1.heap[b]? = w.heap[b]? := fun b hb => by
        obtain ⟨⟨cur, hc⟩, -⟩ := owr_typed hoj hb
        exact hg.block b (lt_of_block hc) (fun e' => h.dj i j b hi hj (fun e'' => e e''.symm) e'.symm hb)
      have hoj1 := owr_move hoj k1
      exact ⟨ys, owr_move hoj1 (fun b hb => by obtain ⟨⟨cur, hc⟩, -⟩ := owr_typed hoj1 hb; exact hset b cur hc), hl⟩
  · have fresh : ∀ q, q < n → ∀ b, (ov q).ownBlock = some b → b ≠ w.heap.size := fun q hq b hb e => by
      obtain ⟨ys, hoj, -⟩ := h.own q hq
      obtain ⟨⟨cur, hc⟩, -⟩ := owr_typed hoj hb
      have := lt_of_block hc
      omega
    by_cases ej : j = i
    · subst ej
      rw [upd_same] at hb
      rw [upd_ne _ _ (fun e => hjk e.symm)]
      rcases hat with e | e
      · rw [e] at hb; exact h.dj j k b hj hk hjk hb
      · rw [e] at hb; cases hb
        exact fun e' => fresh k hk _ e' rfl
    · rw [upd_ne _ _ ej] at hb
      by_cases ek : k = i
      · subst ek
        rw [upd_same]
        rcases hat with e | e
        · rw [e]; exact h.dj j k b hj hk hjk hb
        · rw [e]; intro e'; cases e'
          exact fresh j hj _ hb rfl
      · rw [upd_ne _ _ ek]; exact h.dj j k b hj hk hjk hb
  · rcases h.mp j hj with e | ⟨g, m, D, e, ho', hm, hg'⟩
    · exact .inl e
    · obtain ⟨es, ck, hc⟩ := own_isMap ho'
      have k1 : w1.heap[g]? = w.heap[g]? := hg.block g (lt_of_block hc) (fun e' => by
        obtain ⟨⟨cur, hc'⟩, -⟩ := owr_typed hoi e'.symm
        rw [hc] at hc'; cases hc')
      have ho1 := own_below ho' (fun _ => k1)
      refine .inr ⟨g, m, D, e, own_below ho1 (fun hl => heap_setCell_other _ _ _ _ (fun e => ?_)), hm, hg'⟩
      simp at e; subst e
      obtain ⟨es, ck, hc⟩ := own_isMap ho1
      rw [hh1] at hc; cases hc

/-- A new map is put in. -/
theorem Hg.made {w : World} {B H n K : Nat} {ov mv : Nat → Value} {cr : Nat → Int} (h : Hg w B H n K ov mv cr) {i g m : Nat} {D : DataW Unit} (ho : w.ownsMap Try.prog 2 unitElem g m D) (hm : m ≤ K) (hB : B ≤ g) :
    Hg (w.setCell ⟨H, i * 3 + 1, none⟩ (.map (some g))) B H n K ov (upd mv i (.map (some g))) cr := by
  obtain ⟨cc, hh, r⟩ := h.cs
  have hmap : ∀ {g m : Nat} {D : DataW Unit}, w.ownsMap Try.prog 2 unitElem g m D → (w.setCell ⟨H, i * 3 + 1, none⟩ (.map (some g))).ownsMap Try.prog 2 unitElem g m D := fun {g m D} ho => own_below ho (fun hl => heap_setCell_other _ _ _ _ (fun e => by
    simp at e; subst e
    obtain ⟨es, ck, hc⟩ := own_isMap ho
    rw [hh] at hc; cases hc))
  refine ⟨⟨cc.setIfInBounds (i * 3 + 1) (.map (some g)), heap_setCell_same w H _ _ _ _ hh, fun j hj => ?_⟩, h.le, fun j hj => ?_, h.dj, fun j hj => ?_⟩
  · obtain ⟨r1, r2, r3⟩ := r j hj
    refine ⟨by rw [Array.getElem?_setIfInBounds_ne (by omega)]; exact r1, ?_, by rw [Array.getElem?_setIfInBounds_ne (by omega)]; exact r3⟩
    by_cases e : j = i
    · subst e
      rw [upd_same, Array.getElem?_setIfInBounds_self_of_lt]
      exact (Array.getElem?_eq_some_iff.1 r2).1
    · rw [upd_ne _ _ e, Array.getElem?_setIfInBounds_ne (by omega)]; exact r2
  · obtain ⟨xs, ho, hl⟩ := h.own j hj
    refine ⟨xs, owr_move ho (fun b hb => heap_setCell_other _ _ _ _ (fun e => ?_)), hl⟩
    simp at e; subst e
    obtain ⟨⟨cur, hc⟩, -⟩ := owr_typed ho hb
    rw [hh] at hc; cases hc
  · by_cases e : j = i
    · subst e
      rw [upd_same]
      exact .inr ⟨g, m, D, rfl, hmap ho, hm, hB⟩
    · rw [upd_ne _ _ e]
      rcases h.mp j hj with e | ⟨g', m', D', e, ho', hm', hg'⟩
      · exact .inl e
      · refine .inr ⟨g', m', D', e, own_below ho' (fun hl => heap_setCell_other _ _ _ _ (fun e => ?_)), hm', hg'⟩
        simp at e; subst e
        obtain ⟨es, ck, hc⟩ := own_isMap ho'
        rw [hh] at hc; cases hc

/-- A value is put into a map. -/
theorem Hg.turned {w w1 : World} {B H n K : Nat} {ov mv : Nat → Value} {cr : Nat → Int} (h : Hg w B H n K ov mv cr) {g m : Nat} {D : DataW Unit} (ho : w1.ownsMap Try.prog 2 unitElem g m D) (hm : m ≤ K) (ht : w.mapTurned w1 g) :
    Hg w1 B H n K ov mv cr := by
  obtain ⟨cc, hh, r⟩ := h.cs
  refine ⟨⟨cc, (turned_cells ht hh).trans hh, r⟩, h.le, fun j hj => ?_, h.dj, fun j hj => ?_⟩
  · obtain ⟨xs, ho, hl⟩ := h.own j hj
    refine ⟨xs, owr_move ho (fun b hb => ?_), hl⟩
    obtain ⟨⟨cur, hc⟩, -⟩ := owr_typed ho hb
    exact turned_cells ht hc
  · rcases h.mp j hj with e | ⟨g', m', D', e, ho', hm', hg'⟩
    · exact .inl e
    · by_cases eg : g' = g
      · subst eg
        exact .inr ⟨g', m, D, e, ho, hm, hg'⟩
      · obtain ⟨es, clock, es', clock', hb, rfl⟩ := ht
        exact .inr ⟨g', m', D', e, own_below ho' (fun hl => heap_setBlock_other hb _ eg), hm', hg'⟩

theorem Hg.cells {w : World} {B H n K : Nat} {ov mv : Nat → Value} {cr : Nat → Int} (h : Hg w B H n K ov mv cr) {i : Nat} (hi : i < n) : w.cell? ⟨H, i * 3, none⟩ = some (ov i) ∧ w.cell? ⟨H, i * 3 + 1, none⟩ = some (mv i) ∧ w.cell? ⟨H, i * 3 + 2, none⟩ = some (.int .i64 (cr i)) := by
  obtain ⟨cc, hh, r⟩ := h.cs
  obtain ⟨r1, r2, r3⟩ := r i hi
  exact ⟨by rw [cell_of_row w H _ cc _ _ hh]; exact r1, by rw [cell_of_row w H _ cc _ _ hh]; exact r2, by rw [cell_of_row w H _ cc _ _ hh]; exact r3⟩
theorem Hg.froz {w : World} {B H n K : Nat} {ov mv : Nat → Value} {cr : Nat → Int} (h : Hg w B H n K ov mv cr) (o : Nat) : w.frozen? ⟨H, o, none⟩ = false := by
  obtain ⟨cc, hh, r⟩ := h.cs
  exact frozen_of_row w H o _ _ hh

def HgE (w : World) (B H n K : Nat) (cr : Nat → Int) : Prop := ∃ ov mv, Hg w B H n K ov mv cr

end Go.Proofs.Ythoiajpbpoglfaa

/- One more in a hedge. -/
namespace Go.Proofs.Ythoiajpbpoglfaa
set_option linter.unusedVariables false
set_option linter.unusedSimpArgs false
open Go.RowKit Go.WideMaps Go.Maps Go.MapKept Go.ChangeMaps

theorem wpList_appI8 {w : World} {ops : Array Oper} {rest : List Oper} {o : Oper} {a : Act} {Q : Exit → Act → World → Prop} (hgd : o.guard = none) (s x : Operand)
    (ho : o.op = .call { callee := .builtin .append, args := #[s, x], argTypes := #[22, 22] })
    (B : Nat) (v : Value) (xs : List Value) (y : Int) (hs : a.eval s = v) (hown : w.ownsRow B 2 1 v xs.length xs) (gx : Nat) (hx : a.eval x = .slice (some ⟨gx, 0, none⟩) 1 1)
    (h0 : w.cell? ⟨gx, 0, none⟩ = some (.int .i64 y)) (hl : xs.length ≤ 1073741824) (hB : B ≤ w.heap.size)
    (h : ∀ v' w', w'.ownsRow B 2 1 v' (xs ++ [Value.int .i64 y]).length (xs ++ [Value.int .i64 y]) → w.grownBy w' v.ownBlock → (v'.ownBlock = v.ownBlock ∨ v'.ownBlock = some w.heap.size) → wpList Try.prog ops Q rest (a.put o.dst v') w') : wpList Try.prog ops Q (o :: rest) a w := by
  obtain ⟨i0, hi, hz0, hz1, hz2⟩ := info_parts Try.infoI64h
  refine wpList_append_own_at w hgd s x 22 ho B 2 i0 _ 1 8 Try.underlying22 hi hz0 hz1 hz2 rfl (by decide) v xs.length xs hs hown ⟨gx, 0, none⟩ 1 1 [.int .i64 y] hx rfl ?_ ?_ (by unfold maxLen; omega) (by omega) hB ?_
  · intro j u hj
    rw [Addr.add_lit]
    match j, hj with
    | 0, hj => simp at hj; subst hj; exact h0
    | j + 1, hj => simp at hj
  · intro u hu
    simp at hu
    subst hu
    rfl
  · intro v' w' ho' hg _ hat
    exact h v' w' (by simpa using ho') hg hat

theorem owr_form {w : World} {B n : Nat} {e : TypeId} {v : Value} {xs : List Value} (h : w.ownsRow B e 1 v n xs) : ∃ a n c, v = .slice a n c := by
  rcases h.2 with ⟨e, -⟩ | ⟨g, cap, cur, e, -⟩
  · exact ⟨_, _, _, e⟩
  · exact ⟨_, _, _, e⟩

theorem Hg.block {w w1 : World} {B H n K i : Nat} {ov mv : Nat → Value} {cr : Nat → Int} (h : Hg w B H n K ov mv cr) (hi : i < n) (hg : w.grownBy w1 (ov i).ownBlock) : w1.heap[H]? = w.heap[H]? := by
  obtain ⟨cc, hh, r⟩ := h.cs
  obtain ⟨xi, hoi, -⟩ := h.own i hi
  exact hg.block H (lt_of_block hh) (fun e => by
    obtain ⟨⟨cur, hc⟩, -⟩ := owr_typed hoi e.symm
    rw [hh] at hc; cases hc)

/-- Nothing but rows of numbers and hedges has changed. -/
structure Ksh (w w' : World) : Prop where
  size : w.heap.size ≤ w'.heap.size
  stay : ∀ (k : Nat) (cs : Array Value) (t : TypeId) (fz : Nat × Nat), w.heap[k]? = some (Obj.cells cs t fz) → t ≠ 2 → t ≠ 83 → w'.heap[k]? = w.heap[k]?
theorem Ksh.trans {a b c : World} (h : Ksh a b) (h' : Ksh b c) : Ksh a c := ⟨Nat.le_trans h.size h'.size, fun k cs t fz e h1 h2 => (h'.stay k cs t fz ((h.stay k cs t fz e h1 h2).trans e) h1 h2).trans (h.stay k cs t fz e h1 h2)⟩
theorem Ksh.of {w w' : World} (hb : Below w.heap.size w w') : Ksh w w' := ⟨hb.size, fun k _ _ _ e _ _ => hb.block k (lt_of_block e)⟩
theorem Ksh.turned {w w' : World} {b : Nat} (h : w.mapTurned w' b) : Ksh w w' := ⟨h.grown.size, fun _ _ _ _ e _ _ => turned_cells h e⟩
theorem Ksh.grown {w w' : World} {B n : Nat} {v : Value} {xs : List Value} (h : w.grownBy w' v.ownBlock) (ho : w.ownsRow B 2 1 v n xs) : Ksh w w' := by
  refine ⟨h.size, fun k cs t fz e h1 _ => h.block k (lt_of_block e) (fun e' => ?_)⟩
  obtain ⟨⟨cur, hc⟩, -⟩ := owr_typed ho e'.symm
  rw [e] at hc
  cases hc
  exact h1 rfl
theorem Ksh.set {w : World} {b : Nat} {cs : Array Value} (h : w.heap[b]? = some (.cells cs 83 (0, 0))) (o : Nat) (v : Value) : Ksh w (w.setCell ⟨b, o, none⟩ v) := by
  refine ⟨by simp, fun k cs' t fz e _ h2 => heap_setCell_other _ _ _ _ (fun e' => ?_)⟩
  simp at e'
  subst e'
  rw [h] at e
  cases e
  exact h2 rfl

set_option maxHeartbeats 2000000 in
set_option maxRecDepth 100000 in
theorem addOther_any (B H n K i : Nat) (ov mv : Nat → Value) (cr : Nat → Int) (x : Int) (w : World) (h : Hg w B H n K ov mv cr) (hi : i < n) (hK : K ≤ 1048576) (hc : 0 ≤ cr i ∧ cr i ≤ 1048576) :
    Calls Try.prog 76 #[.pointer (some ⟨H, i * 3, none⟩), .int .i64 x] w fun e w' => e = .returned (.tuple #[]) ∧ HgE w' B H n (K + 1) (upd cr i (cr i + 1)) ∧ Below B w w' ∧ Ksh w w' := by
  obtain ⟨c0, c1, c2⟩ := h.cells hi
  have f0 := h.froz (i * 3)
  have f2 := h.froz (i * 3 + 2)
  have hlt := h.lt
  have hle := h.le
  have h1 := h.crowd i (cr i + 1)
  have hba : Below (w.setCell ⟨H, i * 3 + 2, none⟩ (.int .i64 (cr i + 1))).heap.size (w.setCell ⟨H, i * 3 + 2, none⟩ (.int .i64 (cr i + 1))) ((w.setCell ⟨H, i * 3 + 2, none⟩ (.int .i64 (cr i + 1))).alloc (Obj.cells #[Value.int .i64 x] 2)) := (Below.refl _ _).alloc (Nat.le_refl _) _
  have h2 := h1.later hba
  have KS := kide ((show Ksh w (w.setCell ⟨H, i * 3 + 2, none⟩ (.int .i64 (cr i + 1))) from by obtain ⟨cc, hh, -⟩ := h.cs; exact Ksh.set hh _ _).trans (Ksh.of hba))
  have HH := kide (h2.more (Nat.le_succ K))
  obtain ⟨xs, ho, hl⟩ := h2.own i hi
  have HO := kide ho
  have HL := kide hl
  have BB : Hid (Below B w ((w.setCell ⟨H, i * 3 + 2, none⟩ (.int .i64 (cr i + 1))).alloc (Obj.cells #[Value.int .i64 x] 2))) := ((Below.refl B w).setCell hle _).alloc (by simp; omega) _
  have q0 : Hid (((w.setCell ⟨H, i * 3 + 2, none⟩ (.int .i64 (cr i + 1))).alloc (Obj.cells #[Value.int .i64 x] 2)).cell? ⟨w.heap.size, 0, none⟩ = some (.int .i64 x)) := by
    have h9 := (Bz.new (w.setCell ⟨H, i * 3 + 2, none⟩ (.int .i64 (cr i + 1))) #[Value.int .i64 x] 2).cell 0
    rw [show (w.setCell ⟨H, i * 3 + 2, none⟩ (.int .i64 (cr i + 1))).heap.size = w.heap.size by simp] at h9
    exact h9
  have hBs : Hid (B ≤ ((w.setCell ⟨H, i * 3 + 2, none⟩ (.int .i64 (cr i + 1))).alloc (Obj.cells #[Value.int .i64 x] 2)).heap.size) := by show _ ≤ _; simp; omega
  clear h h1 h2 hba ho
  generalize hv : ov i = v at *
  have HV := kide hv
  clear hv
  go_enter Try.func76, Try.ntmps76
  go_wp2_with (at_builtin; refine wpList_appI8 rfl _ _ rfl B v xs x rfl HO.out _ rfl q0.out (by have := HL.out; omega) hBs.out ?_)
  intro v2 w2 ho2 hg2 hat2
  obtain ⟨a2, n2, cp2, rfl⟩ := owr_form ho2
  have hH := HH.out.block hi (by rw [HV.out]; exact hg2)
  have c02 : w2.cell? ⟨H, i * 3, none⟩ = some v := by rw [World.cell?_of_block hH, ((HH.out.cells hi).1), HV.out]
  have f02 : w2.frozen? ⟨H, i * 3, none⟩ = false := by rw [World.frozen?_of_block hH]; exact HH.out.froz _
  have H3 := kide (HH.out.other (v := .slice a2 n2 cp2) (xs := xs ++ [Value.int .i64 x]) hi (by rw [List.length_append]; exact ho2) (by have := HL.out; rw [List.length_append]; simp; omega) (by rw [HV.out]; exact hg2) (by rw [HV.out]; simpa using hat2))
  have K3 := kide ((KS.out.trans (Ksh.grown hg2 HO.out)).trans (show Ksh w2 (w2.setCell ⟨H, i * 3, none⟩ (.slice a2 n2 cp2)) from by obtain ⟨cc, hh, -⟩ := HH.out.cs; exact Ksh.set (hH.trans hh) _ _))
  have B3 := kide (Below.grown BB.out hg2 hBs.out (fun j hj => (owr_typed HO.out hj).2))
  clear ho2 hg2 hat2 hH HH BB HO
  go_wp2_with fail
  go_end0
  exact ⟨rfl, ⟨_, _, H3.out⟩, B3.out.setCell hle _, K3.out⟩

theorem wrap_in64 (x : Int) : in64 (wrap64 x) := by unfold in64 wrap64; omega

set_option maxHeartbeats 2000000 in
set_option maxRecDepth 100000 in
theorem smallNumber_any (bw : Int) (a : Option Addr) (n c : Nat) (ws : List Nat) (w : World) (hr : Rd w a ws) (hn : ws.length = n) (h0 : 0 < n) :
    Calls Try.prog 91 #[.agg #[.int .i64 bw, .slice a n c]] w fun e w' => ∃ k b, e = .returned (.tuple #[.int .i64 k, .bool b]) ∧ in64 k ∧ Below w.heap.size w w' := by
  obtain ⟨hl, hx, h | ⟨b, o, rfl, hcl⟩⟩ := hr
  · rw [h] at hn; simp at hn; omega
  have hb0 : Below w.heap.size w (w.alloc (Obj.cells #[Value.int .i64 bw, Value.slice (some ⟨b, o, none⟩) n c] 48)) := (Below.refl _ _).alloc (Nat.le_refl _) _
  have B0 := kide hb0
  have X0 := kide (Bz.new w #[Value.int .i64 bw, Value.slice (some ⟨b, o, none⟩) n c] 48)
  have hn2 : n ≤ 1048576 := by omega
  have HC : Hid (∀ i, i < n → w.cell? ⟨b, o + i, none⟩ = some (.int .u64 ((ws.getD i 0 : Nat) : Int))) := fun i hi => hcl i (by omega)
  have HX : Hid (∀ i, i < n → ws.getD i 0 < 18446744073709551616) := fun i hi => by
    have hi' : i < ws.length := by omega
    rw [List.getD_eq_getElem?_getD, List.getElem?_eq_getElem hi']
    exact hx _ (List.getElem_mem hi')
  have hlb := block_lt_of_cell (hcl 0 (by omega))
  clear hcl hx hn hl hb0
  by_cases hc1 : c = 1
  · subst hc1
    go_enter Try.func91, Try.ntmps91
    go_wp2_with fail
    have z0 : (w.alloc (Obj.cells #[Value.int .i64 bw, Value.slice (some ⟨b, o, none⟩) n 1] 48)).cell? ⟨w.heap.size, 1, none⟩ = some (Value.slice (some ⟨b, o, none⟩) n 1) := X0.out.cell 1
    have Z0 := kide z0
    clear z0
    generalize w.alloc (Obj.cells #[Value.int .i64 bw, Value.slice (some ⟨b, o, none⟩) n 1] 48) = W at *
    go_loopw [10] (fun q wr => ∃ k : Nat, k ≤ n - 1 ∧ q = .int .i64 (k : Int) ∧ wr = W) (fun q _ => n - (intOf q).toNat)
    case atStart => exact ⟨0, Nat.zero_le _, rfl, rfl⟩
    case round =>
      obtain ⟨k, hk, rfl, rfl⟩ := hrel
      by_cases hlt : k < n - 1
      · have p0 : wr.cell? ⟨b, o + k, none⟩ = some (.int .u64 ((ws.getD (k) 0 : Nat) : Int)) := (kcell B0.out b (o + k) hlb).trans (by first | exact HC.out (k) (by omega) | (rw [Nat.add_assoc]; exact HC.out (k) (by omega)))
        generalize ws.getD (k) 0 = X at *
        have i0 : (k : Int) < ((n - 1 : Nat) : Int) := by omega
        by_cases hX : X = 0
        · subst hX
          go_wp2_with fail
          go_roundw
          case rel => exact ⟨k + 1, by omega, by go_num, by simp⟩
          case measure => simp [intOf]; omega
        · have hX2 : ((X : Int) != 0) = true := by simp; omega
          clear hX
          go_wp2_with fail
          go_returns
          exact ⟨0, false, rfl, ⟨by omega, by omega⟩, B0.out⟩
      · have p0 : wr.cell? ⟨b, o, none⟩ = some (.int .u64 ((ws.getD 0 0 : Nat) : Int)) := (kcell B0.out b o hlb).trans (HC.out 0 h0)
        have hx0 := HX.out 0 h0
        have z0 := Z0.out
        generalize ws.getD 0 0 = X at *
        have n0 : (0 : Int) < (n : Int) := by omega
        go_wp2_with fail
        go_quiet (fail)
        go_wp2_with fail
        go_returns
        exact ⟨_, _, rfl, wrap_in64 _, below_drewN B0.out _⟩
  · skip
    go_enter Try.func91, Try.ntmps91
    go_wp2_with fail
    have z0 : (w.alloc (Obj.cells #[Value.int .i64 bw, Value.slice (some ⟨b, o, none⟩) n c] 48)).cell? ⟨w.heap.size, 1, none⟩ = some (Value.slice (some ⟨b, o, none⟩) n c) := X0.out.cell 1
    have Z0 := kide z0
    clear z0
    generalize w.alloc (Obj.cells #[Value.int .i64 bw, Value.slice (some ⟨b, o, none⟩) n c] 48) = W at *
    go_loopw [10] (fun q wr => ∃ k : Nat, k ≤ n - 1 ∧ q = .int .i64 (k : Int) ∧ wr = W) (fun q _ => n - (intOf q).toNat)
    case atStart => exact ⟨0, Nat.zero_le _, rfl, rfl⟩
    case round =>
      obtain ⟨k, hk, rfl, rfl⟩ := hrel
      by_cases hlt : k < n - 1
      · have p0 : wr.cell? ⟨b, o + 1 + k, none⟩ = some (.int .u64 ((ws.getD (1 + k) 0 : Nat) : Int)) := (kcell B0.out b (o + 1 + k) hlb).trans (by first | exact HC.out (1 + k) (by omega) | (rw [Nat.add_assoc]; exact HC.out (1 + k) (by omega)))
        generalize ws.getD (1 + k) 0 = X at *
        have i0 : (k : Int) < ((n - 1 : Nat) : Int) := by omega
        by_cases hX : X = 0
        · subst hX
          go_wp2_with fail
          go_roundw
          case rel => exact ⟨k + 1, by omega, by go_num, by simp⟩
          case measure => simp [intOf]; omega
        · have hX2 : ((X : Int) != 0) = true := by simp; omega
          clear hX
          go_wp2_with fail
          go_returns
          exact ⟨0, false, rfl, ⟨by omega, by omega⟩, B0.out⟩
      · have p0 : wr.cell? ⟨b, o, none⟩ = some (.int .u64 ((ws.getD 0 0 : Nat) : Int)) := (kcell B0.out b o hlb).trans (HC.out 0 h0)
        have hx0 := HX.out 0 h0
        have z0 := Z0.out
        generalize ws.getD 0 0 = X at *
        have n0 : (0 : Int) < (n : Int) := by omega
        go_wp2_with fail
        go_quiet (fail)
        go_wp2_with fail
        go_returns
        exact ⟨_, _, rfl, wrap_in64 _, below_drewN B0.out _⟩

theorem i64Keyed : Keyed Try.prog 2 := int_keyed Try.underlying2
theorem keyOf_i64 {k : Int} (h : in64 k) : keyOf Try.prog 2 (.int .i64 k) = some (.int .i64 k) := keyOf_int_mk Try.underlying2 (WalkArith.wf_i64 h)
theorem make_vals (w : World) : (Instr.makeMap 81 none).run Try.prog w = .ok (.map (some w.heap.size)) (w.alloc (.map #[] 0)) := by
  have h := Try.underlying81
  simp [Instr.makeMap, go_sem, h]

theorem rd_far {w w' : World} {B : Nat} {a : Option Addr} {ws : List Nat} (h : Rd w a ws) (hf : ∀ b o sp, a = some ⟨b, o, sp⟩ → b < B) (hb : Below B w w') : Rd w' a ws := by
  obtain ⟨h1, h2, h3⟩ := h
  refine ⟨h1, h2, ?_⟩
  rcases h3 with h3 | ⟨b, o, rfl, hc⟩
  · exact .inl h3
  · exact .inr ⟨b, o, rfl, fun i hi => by rw [hb.cell (p := ⟨b, o + i, none⟩) (hf b o none rfl)]; exact hc i hi⟩

set_option maxHeartbeats 2000000 in
set_option maxRecDepth 100000 in
theorem addValue_any (B H n K i : Nat) (ov mv : Nat → Value) (cr : Nat → Int) (bw : Int) (a : Option Addr) (wn c : Nat) (ws : List Nat) (w : World) (h : Hg w B H n K ov mv cr) (hi : i < n) (hK : K ≤ 1048576) (hc : 0 ≤ cr i ∧ cr i ≤ 1048576) (hr : Rd w a ws) (hwn : ws.length = wn) (h0 : 0 < wn) (hfar : ∀ b o sp, a = some ⟨b, o, sp⟩ → b < B) :
    Calls Try.prog 75 #[.pointer (some ⟨H, i * 3, none⟩), .agg #[.int .i64 bw, .slice a wn c]] w fun e w' => e = .returned (.tuple #[]) ∧ HgE w' B H n (K + 1) (upd cr i (cr i + 1)) ∧ Below B w w' ∧ Ksh w w' := by
  obtain ⟨c0, c1, c2⟩ := h.cells hi
  have f2 := h.froz (i * 3 + 2)
  have hlH := h.lt
  have hle := h.le
  have hsz : (w.setCell ⟨H, i * 3 + 2, none⟩ (.int .i64 (cr i + 1))).heap.size = w.heap.size := by simp
  have hbx : Below (w.setCell ⟨H, i * 3 + 2, none⟩ (.int .i64 (cr i + 1))).heap.size (w.setCell ⟨H, i * 3 + 2, none⟩ (.int .i64 (cr i + 1))) ((w.setCell ⟨H, i * 3 + 2, none⟩ (.int .i64 (cr i + 1))).alloc (Obj.cells #[Value.int .i64 bw, Value.slice a wn c] 48)) := (Below.refl _ _).alloc (Nat.le_refl _) _
  have H1 := kide ((h.crowd i (cr i + 1)).later hbx)
  have X1 : Hid (Bz ((w.setCell ⟨H, i * 3 + 2, none⟩ (.int .i64 (cr i + 1))).alloc (Obj.cells #[Value.int .i64 bw, Value.slice a wn c] 48)) w.heap.size #[Value.int .i64 bw, Value.slice a wn c] 48) := by
    have h9 := Bz.new (w.setCell ⟨H, i * 3 + 2, none⟩ (.int .i64 (cr i + 1))) #[Value.int .i64 bw, Value.slice a wn c] 48
    rw [hsz] at h9
    exact h9
  have B1 : Hid (Below B w ((w.setCell ⟨H, i * 3 + 2, none⟩ (.int .i64 (cr i + 1))).alloc (Obj.cells #[Value.int .i64 bw, Value.slice a wn c] 48))) := ((Below.refl B w).setCell hle _).alloc (by rw [hsz]; omega) _
  have KS := kide ((show Ksh w (w.setCell ⟨H, i * 3 + 2, none⟩ (.int .i64 (cr i + 1))) from by obtain ⟨cc, hh, -⟩ := h.cs; exact Ksh.set hh _ _).trans (Ksh.of hbx))
  have HR := kide (smallNumber_any bw a wn c ws _ (rd_far hr hfar B1.out) hwn h0)
  have hne1 : ¬ w.heap.size = H := by omega
  have hne2 : ¬ H = w.heap.size := by omega
  have d2 : (w.alloc (Obj.cells #[Value.int .i64 bw, Value.slice a wn c] 48)).cell? ⟨H, i * 3 + 2, none⟩ = some (.int .i64 (cr i)) := ((h.later ((Below.refl _ _).alloc (Nat.le_refl _) _)).cells hi).2.2
  have e2 : (w.alloc (Obj.cells #[Value.int .i64 bw, Value.slice a wn c] 48)).frozen? ⟨H, i * 3 + 2, none⟩ = false := (h.later ((Below.refl _ _).alloc (Nat.le_refl _) _)).froz (i * 3 + 2)
  have z0 : ((w.setCell ⟨H, i * 3 + 2, none⟩ (.int .i64 (cr i + 1))).alloc (Obj.cells #[Value.int .i64 bw, Value.slice a wn c] 48)).cell? ⟨w.heap.size, 0, none⟩ = some (Value.int .i64 bw) := X1.out.cell 0
  have z1 : ((w.setCell ⟨H, i * 3 + 2, none⟩ (.int .i64 (cr i + 1))).alloc (Obj.cells #[Value.int .i64 bw, Value.slice a wn c] 48)).cell? ⟨w.heap.size, 1, none⟩ = some (Value.slice a wn c) := X1.out.cell 1
  clear h hbx hr hwn h0 hfar hsz
  go_enter Try.func75, Try.ntmps75
  go_wp2_with fail
  refine Calls.mono HR.out ?_
  rintro e w3 ⟨k, b, rfl, hk, hb3⟩
  have H3 := kide (H1.out.later hb3)
  have K3 := kide (KS.out.trans (Ksh.of hb3))
  have B3 := kide (B1.out.trans (hb3.mono (Nat.le_trans (Nat.le_trans hle (Nat.le_of_lt hlH)) B1.out.size)))
  have hz3 : B ≤ w3.heap.size := by have := H3.out.lt; omega
  clear H1 B1 X1 HR c0 c1 c2 f2 d2 e2 z0 z1 hb3
  cases b with
  | false =>
    go_wp2_with fail
    refine bodyPost_ret (v := .tuple #[]) (by simp [results, Try.results75, go_sem]) rfl ?_
    exact ⟨rfl, ⟨_, _, H3.out.more (Nat.le_succ K)⟩, B3.out, K3.out⟩
  | true =>
    have c1 := (H3.out.cells hi).2.1
    have f1 := H3.out.froz (i * 3 + 1)
    have qm : ∀ (w : World) (r : Option Nat), (binOp .eql 81 (.map r) (.map none)).run Try.prog w = .ok (.bool r.isNone) w := fun w r => run_eql_map_nil w _ _ _ r Try.underlying81
    have hmm := make_vals
    have hkey := keyOf_i64 hk
    rcases H3.out.mp i hi with hm | ⟨g, m, D, hm, ho, hmK, hgB⟩
    · rw [hm] at c1
      have hbm : Below w3.heap.size w3 (w3.alloc (.map #[] 0)) := (Below.refl _ _).alloc (Nat.le_refl _) _
      have H4 := H3.out.later hbm
      have hlt4 := H3.out.lt
      have o4 : (w3.alloc (.map #[] 0)).ownsMap Try.prog 2 unitElem w3.heap.size 0 (.map [] : DataW Unit) := World.ownsMap_made _ _ _ _
      have H5 := H4.made (i := i) o4 (Nat.zero_le K) (by omega)
      have hsw : (w3.alloc (.map #[] 0)).setCell ⟨H, i * 3 + 1, none⟩ (.map (some w3.heap.size)) = (w3.setCell ⟨H, i * 3 + 1, none⟩ (.map (some w3.heap.size))).alloc (.map #[] 0) := World.setCell_alloc_past _ _ _ _ hlt4
      have B5 : Below B w ((w3.alloc (.map #[] 0)).setCell ⟨H, i * 3 + 1, none⟩ (.map (some w3.heap.size))) := (B3.out.alloc hz3 _).setCell hle _
      have K5 : Ksh w ((w3.alloc (.map #[] 0)).setCell ⟨H, i * 3 + 1, none⟩ (.map (some w3.heap.size))) := (K3.out.trans (Ksh.of hbm)).trans (by obtain ⟨cc, hh, -⟩ := H4.cs; exact Ksh.set hh _ _)
      rw [hsw] at H5 B5 K5
      have KK5 := kide K5
      clear K5
      have o5 : ((w3.setCell ⟨H, i * 3 + 1, none⟩ (.map (some w3.heap.size))).alloc (.map #[] 0)).ownsMap Try.prog 2 unitElem w3.heap.size 0 (.map [] : DataW Unit) := by
        rw [← hsw]
        exact own_below o4 (fun hl => heap_setCell_other _ _ _ _ (by simp; omega))
      have z1 : ((w3.setCell ⟨H, i * 3 + 1, none⟩ (.map (some w3.heap.size))).alloc (.map #[] 0)).cell? ⟨H, i * 3 + 1, none⟩ = some (.map (some w3.heap.size)) := by
        have h9 := (H5.cells hi).2.1
        rw [upd_same] at h9
        exact h9
      have d1 : (w3.alloc (.map #[] 0)).cell? ⟨H, i * 3 + 1, none⟩ = some (.map none) := by rw [(H4.cells hi).2.1, hm]
      have e1 := H4.froz (i * 3 + 1)
      have hne3 : ¬ w3.heap.size = H := by omega
      have hne4 : ¬ H = w3.heap.size := by omega
      have HO := kide o5
      have HH5 := kide H5
      have BB5 := kide B5
      clear H4 H5 B5 o4 o5 hsw hm hbm
      go_wp2_with (first
          | (at_mapUpdate; refine wpList_mapUpdate_in _ rfl _ _ _ 81 rfl 2 126 i64Keyed Try.underlying81 unitElem w3.heap.size 0 (.map []) rfl HO.out (by unfold maxLen; omega) _ _ _ rfl rfl hkey (.agg []) [] unitElem_mk ?_)
          | fail)
      intro w6 ho6 ht6
      have H6 := kide ((HH5.out.more (Nat.le_succ K)).turned ho6 (by omega) ht6)
      have K6 := kide (KK5.out.trans (Ksh.turned ht6))
      have B6 := kide (Below.grown BB5.out ht6.grown (by have := BB5.out.size; omega) (fun j hj => by cases hj; exact hz3))
      clear ho6 ht6
      go_wp2_with fail
      go_end0
      exact ⟨rfl, ⟨_, _, H6.out⟩, B6.out, K6.out⟩
    · rw [hm] at c1
      have HO := kide ho
      have hz4 := B3.out.size
      clear ho hm
      go_wp2_with (first
          | (at_mapUpdate; refine wpList_mapUpdate_in _ rfl _ _ _ 81 rfl 2 126 i64Keyed Try.underlying81 unitElem g m D rfl HO.out (by unfold maxLen; omega) _ _ _ rfl rfl hkey (.agg []) [] unitElem_mk ?_)
          | fail)
      intro w6 ho6 ht6
      have H6 := kide ((H3.out.more (Nat.le_succ K)).turned ho6 (by omega) ht6)
      have K6 := kide (K3.out.trans (Ksh.turned ht6))
      have B6 := kide (Below.grown B3.out ht6.grown hz3 (fun j hj => by cases hj; exact hgB))
      clear ho6 ht6
      go_wp2_with fail
      go_end0
      exact ⟨rfl, ⟨_, _, H6.out⟩, B6.out, K6.out⟩

end Go.Proofs.Ythoiajpbpoglfaa

/- Hedges told: whom they have, what is barred. -/
namespace Go.Proofs.Ythoiajpbpoglfaa
set_option linter.unusedVariables false
set_option linter.unusedSimpArgs false
open Go.RowKit Go.WideMaps Go.Maps Go.MapKept Go.ChangeMaps

/-- What a map tells of the numbers l. -/
structure Si (D : DataW Unit) (l : List Int) : Prop where
  tidy : Maps.Tidy D
  has : ∀ x, in64 x → (Maps.has D (.int .i64 x) = true ↔ x ∈ l)

theorem Si.start : Si (.map [] : DataW Unit) [] := ⟨Maps.tidy_empty, fun x _ => by simp [Maps.has_eq]⟩
theorem Si.step {D : DataW Unit} {l : List Int} (h : Si D l) {s : Int} (hs : in64 s) : Si (D.put (.int .i64 s) (.agg [])) (l ++ [s]) where
  tidy := h.tidy.put (i64Keyed.key (keyOf_i64 hs)) _
  has := fun t ht => by
    by_cases e : t = s
    · subst e
      rw [Maps.has_put_same h.tidy.isMap (i64Keyed.key (keyOf_i64 hs))]; simp
    · have hne : (Lit.int .i64 t) ≠ .int .i64 s := fun e' => e (by injection e')
      rw [Maps.has_put_other hne, h.has t ht]; simp [e]

/-- Hedges as they lie, told: whom each has, and what is barred. -/
structure Ht (w : World) (B H n K : Nat) (ov mv : Nat → Value) (cr : Nat → Int) (xo bd : Nat → List Int) : Prop where
  hg : Hg w B H n K ov mv cr
  ot : ∀ i, i < n → w.ownsRow B 2 1 (ov i) ((xo i).map (Value.int .i64)).length ((xo i).map (Value.int .i64)) ∧ (xo i).length ≤ K
  mt : ∀ i, i < n → (mv i = .map none ∧ bd i = []) ∨ ∃ g m, ∃ D : DataW Unit, mv i = .map (some g) ∧ w.ownsMap Try.prog 2 unitElem g m D ∧ m ≤ K ∧ B ≤ g ∧ Si D (bd i)
  mj : ∀ i j g, i < n → j < n → i ≠ j → mv i = .map (some g) → mv j ≠ .map (some g)

variable {w w1 w' : World} {B H n K K' : Nat} {ov mv : Nat → Value} {cr : Nat → Int} {xo bd : Nat → List Int}

theorem Ht.later (h : Ht w B H n K ov mv cr xo bd) (hb : Below w.heap.size w w') : Ht w' B H n K ov mv cr xo bd where
  hg := h.hg.later hb
  ot := fun i hi => ⟨owr_move (h.ot i hi).1 (fun b hb' => by obtain ⟨⟨cur, hc⟩, -⟩ := owr_typed (h.ot i hi).1 hb'; exact hb.block _ (lt_of_block hc)), (h.ot i hi).2⟩
  mt := fun i hi => by
    rcases h.mt i hi with e | ⟨g, m, D, e, ho, hm, hg, hs⟩
    · exact .inl e
    · exact .inr ⟨g, m, D, e, own_below ho (fun hl => hb.block g hl), hm, hg, hs⟩
  mj := h.mj

theorem Ht.more (h : Ht w B H n K ov mv cr xo bd) (hK : K ≤ K') : Ht w B H n K' ov mv cr xo bd where
  hg := h.hg.more hK
  ot := fun i hi => ⟨(h.ot i hi).1, Nat.le_trans (h.ot i hi).2 hK⟩
  mt := fun i hi => by
    rcases h.mt i hi with e | ⟨g, m, D, e, ho, hm, hg, hs⟩
    · exact .inl e
    · exact .inr ⟨g, m, D, e, ho, by omega, hg, hs⟩
  mj := h.mj

/-- A cell of the hedges is written: rows and maps stay. -/
theorem Ht.stay (h : Ht w B H n K ov mv cr xo bd) (o : Nat) (v : Value) : (∀ i, i < n → (w.setCell ⟨H, o, none⟩ v).ownsRow B 2 1 (ov i) ((xo i).map (Value.int .i64)).length ((xo i).map (Value.int .i64)) ∧ (xo i).length ≤ K) ∧ (∀ {g m : Nat} {D : DataW Unit}, w.ownsMap Try.prog 2 unitElem g m D → (w.setCell ⟨H, o, none⟩ v).ownsMap Try.prog 2 unitElem g m D) := by
  obtain ⟨cc, hh, r⟩ := h.hg.cs
  refine ⟨fun i hi => ⟨owr_move (h.ot i hi).1 (fun b hb => heap_setCell_other _ _ _ _ (fun e => ?_)), (h.ot i hi).2⟩, fun {g m D} ho => own_below ho (fun hl => heap_setCell_other _ _ _ _ (fun e => ?_))⟩
  · simp at e; subst e
    obtain ⟨⟨cur, hc⟩, -⟩ := owr_typed (h.ot i hi).1 hb
    rw [hh] at hc; cases hc
  · simp at e; subst e
    obtain ⟨es, ck, hc⟩ := own_isMap ho
    rw [hh] at hc; cases hc

theorem Ht.crowd (h : Ht w B H n K ov mv cr xo bd) (i : Nat) (c : Int) : Ht (w.setCell ⟨H, i * 3 + 2, none⟩ (.int .i64 c)) B H n K ov mv (upd cr i c) xo bd where
  hg := h.hg.crowd i c
  ot := (h.stay _ _).1
  mt := fun j hj => by
    rcases h.mt j hj with e | ⟨g, m, D, e, ho, hm, hg, hs⟩
    · exact .inl e
    · exact .inr ⟨g, m, D, e, (h.stay _ _).2 ho, hm, hg, hs⟩
  mj := h.mj

theorem Ht.other (h : Ht w B H n K ov mv cr xo bd) {i : Nat} (hi : i < n) {v : Value} {ys : List Int} (ho : w1.ownsRow B 2 1 v (ys.map (Value.int .i64)).length (ys.map (Value.int .i64))) (hx : ys.length ≤ K) (hg : w.grownBy w1 (ov i).ownBlock) (hat : v.ownBlock = (ov i).ownBlock ∨ v.ownBlock = some w.heap.size) :
    Ht (w1.setCell ⟨H, i * 3, none⟩ v) B H n K (upd ov i v) mv cr (upd xo i ys) bd := by
  obtain ⟨cc, hh, r⟩ := h.hg.cs
  have hoi := (h.ot i hi).1
  have hh1 : w1.heap[H]? = some (.cells cc 83 (0, 0)) := by
    rw [hg.block H (lt_of_block hh) (fun e => ?_)]
    · exact hh
    · obtain ⟨⟨cur, hc⟩, -⟩ := owr_typed hoi e.symm
      rw [hh] at hc; cases hc
  have hset : ∀ (b : Nat) (cur : Array Value), w1.heap[b]? = some (.cells cur 2 (0, 0)) → (w1.setCell ⟨H, i * 3, none⟩ v).heap[b]? = w1.heap[b]? := fun b cur hc => heap_setCell_other _ _ _ _ (fun e => by simp at e; subst e; rw [hh1] at hc; cases hc)
  refine ⟨h.hg.other hi (xs := ys.map (Value.int .i64)) ho (by simpa using hx) hg hat, fun j hj => ?_, fun j hj => ?_, h.mj⟩
  · by_cases e : j = i
    · subst e
      rw [upd_same, upd_same]
      exact ⟨owr_move ho (fun b hb => by obtain ⟨⟨cur, hc⟩, -⟩ := owr_typed ho hb; exact hset b cur hc), hx⟩
    · rw [upd_ne _ _ e, upd_ne _ _ e]
      obtain ⟨hoj, hl⟩ := h.ot j hj
      have k1 : ∀ b, (ov j).ownBlock = some b → w1.heap[b]? = w.heap[b]? := fun b hb => by
        obtain ⟨⟨cur, hc⟩, -⟩ := owr_typed hoj hb
        exact hg.block b (lt_of_block hc) (fun e' => h.hg.dj i j b hi hj (fun e'' => e e''.symm) e'.symm hb)
      have hoj1 := owr_move hoj k1
      exact ⟨owr_move hoj1 (fun b hb => by obtain ⟨⟨cur, hc⟩, -⟩ := owr_typed hoj1 hb; exact hset b cur hc), hl⟩
  · rcases h.mt j hj with e | ⟨g, m, D, e, ho', hm, hg', hs⟩
    · exact .inl e
    · obtain ⟨es, ck, hc⟩ := own_isMap ho'
      have k1 : w1.heap[g]? = w.heap[g]? := hg.block g (lt_of_block hc) (fun e' => by
        obtain ⟨⟨cur, hc'⟩, -⟩ := owr_typed hoi e'.symm
        rw [hc] at hc'; cases hc')
      have ho1 := own_below ho' (fun _ => k1)
      refine .inr ⟨g, m, D, e, own_below ho1 (fun hl => heap_setCell_other _ _ _ _ (fun e => ?_)), hm, hg', hs⟩
      simp at e; subst e
      obtain ⟨es, ck, hc⟩ := own_isMap ho1
      rw [hh1] at hc; cases hc

/-- A new map is put in, with nothing barred yet. -/
theorem Ht.made (h : Ht w B H n K ov mv cr xo bd) {i g m : Nat} {D : DataW Unit} (ho : w.ownsMap Try.prog 2 unitElem g m D) (hm : m ≤ K) (hB : B ≤ g) (hs : Si D (bd i)) (hnew : ∀ j, j < n → mv j ≠ .map (some g)) :
    Ht (w.setCell ⟨H, i * 3 + 1, none⟩ (.map (some g))) B H n K ov (upd mv i (.map (some g))) cr xo bd where
  hg := h.hg.made ho hm hB
  ot := (h.stay _ _).1
  mt := fun j hj => by
    by_cases e : j = i
    · subst e
      rw [upd_same]
      exact .inr ⟨g, m, D, rfl, (h.stay _ _).2 ho, hm, hB, hs⟩
    · rw [upd_ne _ _ e]
      rcases h.mt j hj with e | ⟨g', m', D', e, ho', hm', hg', hs'⟩
      · exact .inl e
      · exact .inr ⟨g', m', D', e, (h.stay _ _).2 ho', hm', hg', hs'⟩
  mj := fun j k b hj hk hjk hb => by
    by_cases ej : j = i
    · subst ej
      rw [upd_same] at hb
      rw [upd_ne _ _ (fun e => hjk e.symm)]
      cases hb
      exact hnew k hk
    · rw [upd_ne _ _ ej] at hb
      by_cases ek : k = i
      · subst ek
        rw [upd_same]
        intro e
        cases e
        exact hnew j hj hb
      · rw [upd_ne _ _ ek]
        exact h.mj j k b hj hk hjk hb

/-- A number is put into a map. -/
theorem Ht.turned (h : Ht w B H n K ov mv cr xo bd) {i g m : Nat} {D : DataW Unit} {l : List Int} (hi : i < n) (hv : mv i = .map (some g)) (ho : w1.ownsMap Try.prog 2 unitElem g m D) (hm : m ≤ K) (hs : Si D l) (ht : w.mapTurned w1 g) :
    Ht w1 B H n K ov mv cr xo (upd bd i l) where
  hg := h.hg.turned ho hm ht
  ot := fun j hj => ⟨owr_move (h.ot j hj).1 (fun b hb => by
    obtain ⟨⟨cur, hc⟩, -⟩ := owr_typed (h.ot j hj).1 hb
    exact turned_cells ht hc), (h.ot j hj).2⟩
  mt := fun j hj => by
    by_cases ej : j = i
    · subst ej
      rw [upd_same]
      rcases h.mt j hj with ⟨e, -⟩ | ⟨g', m', D', e, ho', hm', hg', hs'⟩
      · rw [hv] at e; cases e
      · rw [hv] at e; cases e
        exact .inr ⟨g, m, D, hv, ho, hm, hg', hs⟩
    · rw [upd_ne _ _ ej]
      rcases h.mt j hj with e | ⟨g', m', D', e, ho', hm', hg', hs'⟩
      · exact .inl e
      · have eg : g' ≠ g := fun e' => by subst e'; exact h.mj i j g' hi hj (fun e9 => ej e9.symm) hv e
        obtain ⟨es, clock, es', clock', hb, rfl⟩ := ht
        exact .inr ⟨g', m', D', e, own_below ho' (fun hl => heap_setBlock_other hb _ eg), hm', hg', hs'⟩
  mj := h.mj

theorem Ht.start (w : World) (n : Nat) (h : Hg w B H n K (fun _ => .slice none 0 0) (fun _ => .map none) cr) : Ht w B H n K (fun _ => .slice none 0 0) (fun _ => .map none) cr (fun _ => []) (fun _ => []) :=
  ⟨h, fun i hi => ⟨⟨rfl, .inl ⟨rfl, rfl⟩⟩, Nat.zero_le _⟩, fun i hi => .inl ⟨rfl, rfl⟩, fun i j g _ _ _ h => by simp at h⟩

end Go.Proofs.Ythoiajpbpoglfaa

/- One more in a hedge, told. -/
namespace Go.Proofs.Ythoiajpbpoglfaa
set_option linter.unusedVariables false
set_option linter.unusedSimpArgs false
open Go.RowKit Go.WideMaps Go.Maps Go.MapKept Go.ChangeMaps

def HtE (w : World) (B H n K : Nat) (cr : Nat → Int) (xo bd : Nat → List Int) : Prop := ∃ ov mv, Ht w B H n K ov mv cr xo bd

/-- The number of a word that is ever told. -/
def smW (ws : List Nat) : Option Int := if (∀ x ∈ ws.tail, x = 0) ∧ ws.getD 0 0 < 1024 then some ((ws.getD 0 0 : Nat) : Int) else none
theorem smW_far {ws : List Nat} {k : Nat} (hk : 1 + k < ws.length) (h : ws.getD (1 + k) 0 ≠ 0) : smW ws = none := by
  unfold smW
  rw [if_neg]
  rintro ⟨h1, -⟩
  refine h (h1 _ ?_)
  rw [List.getD, List.getElem?_eq_getElem hk]
  have h2 : k < ws.tail.length := by simp; omega
  have h3 : ws.tail[k]'h2 = ws[1 + k] := by simp [Nat.add_comm]
  simp only [Option.getD_some]
  rw [← h3]
  exact List.getElem_mem h2
theorem smW_near {ws : List Nat} (h : ∀ j, j < ws.length - 1 → ws.getD (1 + j) 0 = 0) : smW ws = if decide (ws.getD 0 0 < 1024) = true then some ((ws.getD 0 0 : Nat) : Int) else none := by
  unfold smW
  have h1 : ∀ x ∈ ws.tail, x = 0 := fun x hx => by
    obtain ⟨i, hi, e⟩ := List.mem_iff_getElem.1 hx
    simp at hi e
    have h2 := h i (by omega)
    rw [List.getD, List.getElem?_eq_getElem (by omega)] at h2
    simp only [Option.getD_some] at h2
    rw [← e]
    simpa [Nat.add_comm] using h2
  by_cases h2 : ws.getD 0 0 < 1024
  · rw [if_pos ⟨h1, h2⟩, if_pos (by simpa using h2)]
  · rw [if_neg (fun h => h2 h.2), if_neg (by simpa using h2)]

set_option maxHeartbeats 2000000 in
set_option maxRecDepth 100000 in
theorem addOther_told (B H n K i : Nat) (ov mv : Nat → Value) (cr : Nat → Int) (xo bd : Nat → List Int) (x : Int) (w : World) (h : Ht w B H n K ov mv cr xo bd) (hi : i < n) (hK : K ≤ 1048576) (hc : 0 ≤ cr i ∧ cr i ≤ 1048576) :
    Calls Try.prog 76 #[.pointer (some ⟨H, i * 3, none⟩), .int .i64 x] w fun e w' => e = .returned (.tuple #[]) ∧ HtE w' B H n (K + 1) (upd cr i (cr i + 1)) (upd xo i (xo i ++ [x])) bd ∧ Below B w w' ∧ Ksh w w' := by
  obtain ⟨c0, c1, c2⟩ := h.hg.cells hi
  have f0 := h.hg.froz (i * 3)
  have f2 := h.hg.froz (i * 3 + 2)
  have hlt := h.hg.lt
  have hle := h.hg.le
  have h1 := h.crowd i (cr i + 1)
  have hba : Below (w.setCell ⟨H, i * 3 + 2, none⟩ (.int .i64 (cr i + 1))).heap.size (w.setCell ⟨H, i * 3 + 2, none⟩ (.int .i64 (cr i + 1))) ((w.setCell ⟨H, i * 3 + 2, none⟩ (.int .i64 (cr i + 1))).alloc (Obj.cells #[Value.int .i64 x] 2)) := (Below.refl _ _).alloc (Nat.le_refl _) _
  have h2 := h1.later hba
  have KS := kide ((show Ksh w (w.setCell ⟨H, i * 3 + 2, none⟩ (.int .i64 (cr i + 1))) from by obtain ⟨cc, hh, -⟩ := h.hg.cs; exact Ksh.set hh _ _).trans (Ksh.of hba))
  have HH := kide (h2.more (Nat.le_succ K))
  obtain ⟨ho, hl⟩ := h2.ot i hi
  have HO := kide ho
  have HL := kide hl
  have BB : Hid (Below B w ((w.setCell ⟨H, i * 3 + 2, none⟩ (.int .i64 (cr i + 1))).alloc (Obj.cells #[Value.int .i64 x] 2))) := ((Below.refl B w).setCell hle _).alloc (by simp; omega) _
  have q0 : Hid (((w.setCell ⟨H, i * 3 + 2, none⟩ (.int .i64 (cr i + 1))).alloc (Obj.cells #[Value.int .i64 x] 2)).cell? ⟨w.heap.size, 0, none⟩ = some (.int .i64 x)) := by
    have h9 := (Bz.new (w.setCell ⟨H, i * 3 + 2, none⟩ (.int .i64 (cr i + 1))) #[Value.int .i64 x] 2).cell 0
    rw [show (w.setCell ⟨H, i * 3 + 2, none⟩ (.int .i64 (cr i + 1))).heap.size = w.heap.size by simp] at h9
    exact h9
  have hBs : Hid (B ≤ ((w.setCell ⟨H, i * 3 + 2, none⟩ (.int .i64 (cr i + 1))).alloc (Obj.cells #[Value.int .i64 x] 2)).heap.size) := by show _ ≤ _; simp; omega
  clear h h1 h2 hba ho
  generalize hv : ov i = v at *
  have HV := kide hv
  clear hv
  go_enter Try.func76, Try.ntmps76
  go_wp2_with (at_builtin; refine wpList_appI8 rfl _ _ rfl B v ((xo i).map (Value.int .i64)) x rfl HO.out _ rfl q0.out (by have := HL.out; rw [List.length_map]; omega) hBs.out ?_)
  intro v2 w2 ho2 hg2 hat2
  obtain ⟨a2, n2, cp2, rfl⟩ := owr_form ho2
  have hH := HH.out.hg.block hi (by rw [HV.out]; exact hg2)
  have c02 : w2.cell? ⟨H, i * 3, none⟩ = some v := by rw [World.cell?_of_block hH, ((HH.out.hg.cells hi).1), HV.out]
  have f02 : w2.frozen? ⟨H, i * 3, none⟩ = false := by rw [World.frozen?_of_block hH]; exact HH.out.hg.froz _
  have H3 := kide (HH.out.other (v := .slice a2 n2 cp2) (ys := xo i ++ [x]) hi (by rw [List.map_append]; simpa using ho2) (by have := HL.out; rw [List.length_append]; simp; omega) (by rw [HV.out]; exact hg2) (by rw [HV.out]; simpa using hat2))
  have K3 := kide ((KS.out.trans (Ksh.grown hg2 HO.out)).trans (show Ksh w2 (w2.setCell ⟨H, i * 3, none⟩ (.slice a2 n2 cp2)) from by obtain ⟨cc, hh, -⟩ := HH.out.hg.cs; exact Ksh.set (hH.trans hh) _ _))
  have B3 := kide (Below.grown BB.out hg2 hBs.out (fun j hj => (owr_typed HO.out hj).2))
  clear ho2 hg2 hat2 hH HH BB HO
  go_wp2_with fail
  go_end0
  exact ⟨rfl, ⟨_, _, H3.out⟩, B3.out.setCell hle _, K3.out⟩

set_option maxHeartbeats 2000000 in
set_option maxRecDepth 100000 in
theorem smallNumber_told (bw : Int) (a : Option Addr) (n c : Nat) (ws : List Nat) (w : World) (hr : Rd w a ws) (hn : ws.length = n) (h0 : 0 < n) (hnc : n ≤ c) :
    Calls Try.prog 91 #[.agg #[.int .i64 bw, .slice a n c]] w fun e w' => ∃ k b, e = .returned (.tuple #[.int .i64 k, .bool b]) ∧ in64 k ∧ smW ws = (if b = true then some k else none) ∧ Below w.heap.size w w' := by
  obtain ⟨hl, hx, h | ⟨b, o, rfl, hcl⟩⟩ := hr
  · rw [h] at hn; simp at hn; omega
  have hb0 : Below w.heap.size w (w.alloc (Obj.cells #[Value.int .i64 bw, Value.slice (some ⟨b, o, none⟩) n c] 48)) := (Below.refl _ _).alloc (Nat.le_refl _) _
  have B0 := kide hb0
  have X0 := kide (Bz.new w #[Value.int .i64 bw, Value.slice (some ⟨b, o, none⟩) n c] 48)
  have hn2 : n ≤ 1048576 := by omega
  have HC : Hid (∀ i, i < n → w.cell? ⟨b, o + i, none⟩ = some (.int .u64 ((ws.getD i 0 : Nat) : Int))) := fun i hi => hcl i (by omega)
  have HX : Hid (∀ i, i < n → ws.getD i 0 < 18446744073709551616) := fun i hi => by
    have hi' : i < ws.length := by omega
    rw [List.getD_eq_getElem?_getD, List.getElem?_eq_getElem hi']
    exact hx _ (List.getElem_mem hi')
  have hlb := block_lt_of_cell (hcl 0 (by omega))
  have HNW := kide hn
  clear hcl hx hn hl hb0
  by_cases hc1 : c = 1
  · subst hc1
    go_enter Try.func91, Try.ntmps91
    go_wp2_with fail
    have z0 : (w.alloc (Obj.cells #[Value.int .i64 bw, Value.slice (some ⟨b, o, none⟩) n 1] 48)).cell? ⟨w.heap.size, 1, none⟩ = some (Value.slice (some ⟨b, o, none⟩) n 1) := X0.out.cell 1
    have Z0 := kide z0
    clear z0
    generalize w.alloc (Obj.cells #[Value.int .i64 bw, Value.slice (some ⟨b, o, none⟩) n 1] 48) = W at *
    go_loopw [10] (fun q wr => ∃ k : Nat, k ≤ n - 1 ∧ q = .int .i64 (k : Int) ∧ (∀ j, j < k → ws.getD (1 + j) 0 = 0) ∧ wr = W) (fun q _ => n - (intOf q).toNat)
    case atStart => exact ⟨0, Nat.zero_le _, rfl, fun j h => by omega, rfl⟩
    case round =>
      obtain ⟨k, hk, rfl, hzer, rfl⟩ := hrel
      have HZR := kide hzer
      clear hzer
      by_cases hlt : k < n - 1
      · omega
      · have e9 : k = n - 1 := by omega
        have HNR := kide (smW_near (ws := ws) (fun j hj => HZR.out j (by have := HNW.out; omega)))
        have p0 : wr.cell? ⟨b, o, none⟩ = some (.int .u64 ((ws.getD 0 0 : Nat) : Int)) := (kcell B0.out b o hlb).trans (HC.out 0 h0)
        have hx0 := HX.out 0 h0
        have z0 := Z0.out
        clear HZR e9
        generalize ws.getD 0 0 = X at *
        have HX0 := kide hx0
        have n0 : (0 : Int) < (n : Int) := by omega
        go_wp2_with fail
        go_quiet (fail)
        go_wp2_with fail
        go_returns
        refine ⟨_, _, rfl, wrap_in64 _, ?_, below_drewN B0.out _⟩
        rw [HNR.out]
        have h9 := HX0.out
        by_cases h8 : X < 1024
        · have h7 : wrap64 (X : Int) = (X : Int) := by unfold wrap64; omega
          have h6 : (X : Int) < 1024 := by omega
          simp [h8, h7, h6]
        · have h6 : ¬ (X : Int) < 1024 := by omega
          simp [h8, h6]
  · skip
    go_enter Try.func91, Try.ntmps91
    go_wp2_with fail
    have z0 : (w.alloc (Obj.cells #[Value.int .i64 bw, Value.slice (some ⟨b, o, none⟩) n c] 48)).cell? ⟨w.heap.size, 1, none⟩ = some (Value.slice (some ⟨b, o, none⟩) n c) := X0.out.cell 1
    have Z0 := kide z0
    clear z0
    generalize w.alloc (Obj.cells #[Value.int .i64 bw, Value.slice (some ⟨b, o, none⟩) n c] 48) = W at *
    go_loopw [10] (fun q wr => ∃ k : Nat, k ≤ n - 1 ∧ q = .int .i64 (k : Int) ∧ (∀ j, j < k → ws.getD (1 + j) 0 = 0) ∧ wr = W) (fun q _ => n - (intOf q).toNat)
    case atStart => exact ⟨0, Nat.zero_le _, rfl, fun j h => by omega, rfl⟩
    case round =>
      obtain ⟨k, hk, rfl, hzer, rfl⟩ := hrel
      have HZR := kide hzer
      clear hzer
      by_cases hlt : k < n - 1
      · have hkl := hlt
        have p0 : wr.cell? ⟨b, o + 1 + k, none⟩ = some (.int .u64 ((ws.getD (1 + k) 0 : Nat) : Int)) := (kcell B0.out b (o + 1 + k) hlb).trans (by rw [Nat.add_assoc]; exact HC.out (1 + k) (by omega))
        have HFR := kide (fun h => smW_far (ws := ws) (k := k) (by have := HNW.out; omega) h)
        generalize hXX : ws.getD (1 + k) 0 = X at *
        have HXX := kide hXX
        clear hXX
        have i0 : (k : Int) < ((n - 1 : Nat) : Int) := by omega
        by_cases hX : X = 0
        · subst hX
          go_wp2_with fail
          go_roundw
          case rel =>
            refine ⟨k + 1, by omega, by go_num, fun j hj => ?_, by simp⟩
            by_cases e : j = k
            · subst e; exact HXX.out
            · exact HZR.out j (by omega)
          case measure => simp [intOf]; omega
        · have hX2 : ((X : Int) != 0) = true := by simp; omega
          have HFF := kide (HFR.out hX)
          clear hX
          go_wp2_with fail
          go_returns
          exact ⟨0, false, rfl, ⟨by omega, by omega⟩, by rw [HFF.out]; rfl, B0.out⟩
      · have e9 : k = n - 1 := by omega
        have HNR := kide (smW_near (ws := ws) (fun j hj => HZR.out j (by have := HNW.out; omega)))
        have p0 : wr.cell? ⟨b, o, none⟩ = some (.int .u64 ((ws.getD 0 0 : Nat) : Int)) := (kcell B0.out b o hlb).trans (HC.out 0 h0)
        have hx0 := HX.out 0 h0
        have z0 := Z0.out
        clear HZR e9
        generalize ws.getD 0 0 = X at *
        have HX0 := kide hx0
        have n0 : (0 : Int) < (n : Int) := by omega
        go_wp2_with fail
        go_quiet (fail)
        go_wp2_with fail
        go_returns
        refine ⟨_, _, rfl, wrap_in64 _, ?_, below_drewN B0.out _⟩
        rw [HNR.out]
        have h9 := HX0.out
        by_cases h8 : X < 1024
        · have h7 : wrap64 (X : Int) = (X : Int) := by unfold wrap64; omega
          have h6 : (X : Int) < 1024 := by omega
          simp [h8, h7, h6]
        · have h6 : ¬ (X : Int) < 1024 := by omega
          simp [h8, h6]


end Go.Proofs.Ythoiajpbpoglfaa
