/- A grove as it lies in memory, and what each write makes of it. -/
import Derived.Test.YtakicdlfolhhcaaGB
namespace Go.Proofs.Ytakicdlfolhhcaa
set_option linter.unusedVariables false
set_option linter.unusedSimpArgs false
open Go.RowKit

def pt (p : Nat) : Value := .pointer (some ⟨p, 0, none⟩)

def upv (ps : List Nat) : Option Nat → Value
  | none => .pointer none
  | some j => pt (ps.getD j 0)

/-- What a grove is: its knots' blocks; of each the way up, the size, the least place, the cell of its ties and the row that they are; the cells and rows of the knots and of the trail; the ties' blocks, and the links that they are. -/
structure Gs where
  ps : List Nat
  up : Nat → Option Nat
  sz : Nat → Int
  le : Nat → Int
  tc : Nat → Value
  tv : Nat → Value
  kc : Value
  kv : Value
  ic : Value
  iv : Value
  ts : List Nat
  ls : List Lk
  tl : Nat → List Nat

def knotCells (s : Gs) (i : Nat) : Array Value := #[.int .i64 (i : Int), s.tc i, upv s.ps (s.up i), .int .i64 (s.sz i), .int .i64 (s.le i)]

structure Gv (w : World) (B G M : Nat) (s : Gs) : Prop where
  lo : B ≤ G
  gb : w.heap[G]? = some (.cells #[s.kc, s.ic] 77 (0, 0))
  kr : w.ownsRow B 70 1 s.kv s.ps.length (s.ps.map pt)
  kn : ∀ i p, s.ps[i]? = some p → B ≤ p ∧ w.heap[p]? = some (.cells (knotCells s i) 72 (0, 0))
  tr : ∀ i, i < s.ps.length → (s.tl i).length ≤ M ∧ w.ownsRow B 85 1 (s.tv i) (s.tl i).length ((s.tl i).map pt)
  ir : w.ownsRow B 85 1 s.iv s.ts.length (s.ts.map pt)
  ti : ∀ (k t : Nat) (l : Lk), s.ts[k]? = some t → s.ls[k]? = some l → B ≤ t ∧ ∃ f, w.heap[t]? = some (.cells #[pt (s.ps.getD l.1.toNat 0), pt (s.ps.getD l.2.1.toNat 0), .int .i64 l.2.2, f] 97 (0, 0))
  dj : ∀ i j, i < s.ps.length → j < s.ps.length → i ≠ j → ∀ b, (s.tv i).ownBlock = some b → (s.tv j).ownBlock ≠ some b
  di : ∀ i, i < s.ps.length → ∀ b, (s.tv i).ownBlock = some b → s.iv.ownBlock ≠ some b

theorem own_typed {w : World} {B n : Nat} {e t : TypeId} {v : Value} {xs : List Value} {b : Nat} {cs : Array Value} {fr : Nat × Nat} (h : w.ownsRow B e 1 v n xs) (hb : w.heap[b]? = some (.cells cs t fr)) (ht : t ≠ e) : some b ≠ v.ownBlock := fun hk => by
  rcases h.2 with ⟨rfl, -⟩ | ⟨g, cap, cur, rfl, hg, hh, -⟩
  · cases hk
  · cases hk
    rw [hb] at hh
    cases hh
    exact ht rfl

theorem own_lt {w : World} {B n : Nat} {e : TypeId} {v : Value} {xs : List Value} {b : Nat} (h : w.ownsRow B e 1 v n xs) (hb : v.ownBlock = some b) : B ≤ b ∧ b < w.heap.size := by
  rcases h.2 with ⟨rfl, -⟩ | ⟨g, cap, cur, rfl, hg, hh, -⟩
  · cases hb
  · cases hb
    exact ⟨hg, lt_of_block hh⟩

theorem own_later {w w' : World} {B n : Nat} {e : TypeId} {v : Value} {xs : List Value} (h : w.ownsRow B e 1 v n xs) (hb : Below w.heap.size w w') : w'.ownsRow B e 1 v n xs := World.ownsRow.kept (row := none) h ⟨hb.os, hb.tape, hb.output, hb.size, fun k hk _ => hb.block k hk⟩ (by
  cases h' : v.ownBlock with
  | none => exact .inl rfl
  | some k => exact .inr (by simp))

theorem own_kept {w w' : World} {B n : Nat} {e : TypeId} {v : Value} {xs : List Value} {r : Option Nat} (h : w.ownsRow B e 1 v n xs) (hg : w.grownBy w' r) (hn : ∀ b, v.ownBlock = some b → r ≠ some b) : w'.ownsRow B e 1 v n xs := World.ownsRow.kept h hg (by
  cases h' : v.ownBlock with
  | none => exact .inl rfl
  | some k => exact .inr (fun e => hn k h' e.symm))

/-- A row whose block a write does not touch. -/
theorem own_set {w : World} {B n : Nat} {e t : TypeId} {v : Value} {xs : List Value} {b o : Nat} {cs : Array Value} {fr : Nat × Nat} (h : w.ownsRow B e 1 v n xs) (hb : w.heap[b]? = some (.cells cs t fr)) (ht : t ≠ e) (x : Value) : (w.setCell ⟨b, o, none⟩ x).ownsRow B e 1 v n xs := by
  have hne := own_typed h hb ht
  refine ⟨h.1, ?_⟩
  rcases h.2 with hn | ⟨g, cap, cur, rfl, hg, hh, rest⟩
  · exact .inl hn
  · refine .inr ⟨g, cap, cur, rfl, hg, ?_, rest⟩
    rw [heap_setCell_other _ _ _ _ (fun e => hne (by simp [Value.ownBlock, e]))]
    exact hh

theorem Gv.inj {w : World} {B G M : Nat} {s : Gs} (h : Gv w B G M s) {i j p : Nat} (hi : s.ps[i]? = some p) (hj : s.ps[j]? = some p) : i = j := by
  have h1 := (h.kn i p hi).2
  have h2 := (h.kn j p hj).2
  rw [h1] at h2
  simp only [Option.some.injEq, Obj.cells.injEq, knotCells, and_true] at h2
  have := congrArg (fun a => a[0]?) h2
  simp at this
  omega

theorem Gv.later {w w' : World} {B G M : Nat} {s : Gs} (h : Gv w B G M s) (hb : Below w.heap.size w w') : Gv w' B G M s where
  lo := h.lo
  gb := by rw [hb.block _ (lt_of_block h.gb)]; exact h.gb
  kr := own_later h.kr hb
  kn := fun i p hi => by
    obtain ⟨h1, h2⟩ := h.kn i p hi
    exact ⟨h1, by rw [hb.block _ (lt_of_block h2)]; exact h2⟩
  tr := fun i hi => by
    obtain ⟨h1, h2⟩ := h.tr i hi
    exact ⟨h1, own_later h2 hb⟩
  ir := own_later h.ir hb
  ti := fun k t l ht hl => by
    obtain ⟨h1, f, h2⟩ := h.ti k t l ht hl
    exact ⟨h1, f, by rw [hb.block _ (lt_of_block h2)]; exact h2⟩
  dj := h.dj
  di := h.di

theorem Gv.more {w : World} {B G M M' : Nat} {s : Gs} (h : Gv w B G M s) (hM : M ≤ M') : Gv w B G M' s :=
  ⟨h.lo, h.gb, h.kr, h.kn, fun i hi => by
    obtain ⟨h1, h2⟩ := h.tr i hi
    exact ⟨by omega, h2⟩, h.ir, h.ti, h.dj, h.di⟩

/-- The ties of knot i have grown. -/
theorem Gv.tied {w w' : World} {B G M i : Nat} {s : Gs} (h : Gv w B G M s) (hi : i < s.ps.length) {v : Value} {cs : List Nat} (hg : w.grownBy w' (s.tv i).ownBlock) (ho : w'.ownsRow B 85 1 v cs.length (cs.map pt)) (hc : cs.length ≤ M) (hat : v.ownBlock = (s.tv i).ownBlock ∨ v.ownBlock = some w.heap.size) :
    Gv w' B G M { s with tv := fun j => if j = i then v else s.tv j, tl := fun j => if j = i then cs else s.tl j } := by
  obtain ⟨-, hr⟩ := h.tr i hi
  have blk : ∀ {b : Nat} {cs : Array Value} {t : TypeId}, w.heap[b]? = some (.cells cs t (0, 0)) → t ≠ 85 → w'.heap[b]? = some (.cells cs t (0, 0)) := fun hb ht => by
    rw [hg.block _ (lt_of_block hb) (own_typed hr hb ht)]; exact hb
  refine ⟨h.lo, blk h.gb (by decide), ?_, fun j p hj => ⟨(h.kn j p hj).1, blk (h.kn j p hj).2 (by decide)⟩, fun j hj => ?_, ?_, fun k t l ht hl => ?_, fun j q hj hq hne b hb hb' => ?_, fun j hj b hb hb' => ?_⟩
  · refine own_kept h.kr hg (fun b hb e => ?_)
    rcases h.kr.2 with ⟨hv, -⟩ | ⟨g, cap, cur, hv, -, hh, -⟩
    · rw [hv] at hb; cases hb
    · rw [hv] at hb
      cases hb
      exact own_typed hr hh (by decide) e.symm
  · by_cases e : j = i
    · subst e
      exact ⟨by simpa using hc, by simpa using ho⟩
    · obtain ⟨h1, h2⟩ := h.tr j hj
      show (if j = i then cs else s.tl j).length ≤ M ∧ w'.ownsRow B 85 1 (if j = i then v else s.tv j) (if j = i then cs else s.tl j).length ((if j = i then cs else s.tl j).map pt)
      rw [if_neg e, if_neg e]
      refine ⟨h1, ?_⟩
      exact own_kept h2 hg (fun b hb e' => h.dj j i hj hi e b hb e')
  · exact own_kept h.ir hg (fun b hb e => h.di i hi b e hb)
  · obtain ⟨h1, f, h2⟩ := h.ti k t l ht hl
    exact ⟨h1, f, blk h2 (by decide)⟩
  · simp only [] at hb hb'
    by_cases e : j = i
    · subst e
      rw [if_pos rfl] at hb
      rw [if_neg (Ne.symm hne)] at hb'
      rcases hat with e' | e'
      · rw [e'] at hb; exact h.dj j q hj hq hne b hb hb'
      · rw [hb] at e'
        cases e'
        obtain ⟨-, h2⟩ := h.tr q hq
        have := (own_lt h2 hb').2
        omega
    · rw [if_neg e] at hb
      by_cases e2 : q = i
      · subst e2
        rw [if_pos rfl] at hb'
        rcases hat with e' | e'
        · rw [e'] at hb'; exact h.dj j q hj hq hne b hb hb'
        · rw [hb'] at e'
          cases e'
          obtain ⟨-, h2⟩ := h.tr j hj
          have := (own_lt h2 hb).2
          omega
      · rw [if_neg e2] at hb'
        exact h.dj j q hj hq hne b hb hb'
  · simp only [] at hb hb'
    by_cases e : j = i
    · subst e
      rw [if_pos rfl] at hb
      rcases hat with e' | e'
      · rw [e'] at hb; exact h.di j hj b hb hb'
      · rw [hb] at e'
        cases e'
        have := (own_lt h.ir hb').2
        omega
    · rw [if_neg e] at hb
      exact h.di j hj b hb hb'

/-- A cell of knot i is written. -/
theorem Gv.knot {w : World} {B G M i p : Nat} {s : Gs} (h : Gv w B G M s) (hi : s.ps[i]? = some p) (o : Nat) (x : Value) (tc : Nat → Value) (up : Nat → Option Nat) (sz le : Nat → Int)
    (hj : ∀ j, j ≠ i → tc j = s.tc j ∧ up j = s.up j ∧ sz j = s.sz j ∧ le j = s.le j)
    (hx : (knotCells s i).setIfInBounds o x = #[.int .i64 (i : Int), tc i, upv s.ps (up i), .int .i64 (sz i), .int .i64 (le i)]) :
    Gv (w.setCell ⟨p, o, none⟩ x) B G M { s with tc := tc, up := up, sz := sz, le := le } := by
  have hp := (h.kn i p hi).2
  have blk : ∀ {b : Nat} {cs : Array Value} {t : TypeId}, w.heap[b]? = some (.cells cs t (0, 0)) → t ≠ 72 → (w.setCell ⟨p, o, none⟩ x).heap[b]? = some (.cells cs t (0, 0)) := fun {b} _ _ hb ht => by
    rw [heap_setCell_other _ _ _ _ (fun e => by
      have e' : b = p := e
      subst e'
      rw [hp] at hb
      cases hb
      exact ht rfl)]
    exact hb
  refine ⟨h.lo, blk h.gb (by decide), own_set h.kr hp (by decide) x, fun j q hq => ⟨(h.kn j q hq).1, ?_⟩, fun j hj' => ?_, own_set h.ir hp (by decide) x, fun k t l ht hl => ?_, h.dj, h.di⟩
  · by_cases e : j = i
    · subst e
      have : q = p := by
        have h1 : s.ps[j]? = some q := hq
        rw [hi] at h1; cases h1; rfl
      subst this
      rw [heap_setCell_same w q o _ _ x hp, hx]
      rfl
    · have hqp : q ≠ p := fun e' => e (by subst e'; exact h.inj hq hi)
      rw [heap_setCell_other _ _ _ _ hqp]
      obtain ⟨e1, e2, e3, e4⟩ := hj j e
      have := (h.kn j q hq).2
      rw [this]
      simp only [knotCells, e1, e2, e3, e4]
  · obtain ⟨h1, h2⟩ := h.tr j hj'
    exact ⟨h1, own_set h2 hp (by decide) x⟩
  · obtain ⟨h1, f, h2⟩ := h.ti k t l ht hl
    exact ⟨h1, f, blk h2 (by decide)⟩

/-- The trail has grown by a tie. -/
theorem Gv.pushed {w w' : World} {B G M : Nat} {s : Gs} (h : Gv w B G M s) {v : Value} {t : Nat} {l : Lk} {f : Value} (hn : s.ts.length = s.ls.length) (hg : w.grownBy w' s.iv.ownBlock) (ho : w'.ownsRow B 85 1 v (s.ts ++ [t]).length ((s.ts ++ [t]).map pt)) (hat : v.ownBlock = s.iv.ownBlock ∨ v.ownBlock = some w.heap.size)
    (hB : B ≤ t) (ht : w.heap[t]? = some (.cells #[pt (s.ps.getD l.1.toNat 0), pt (s.ps.getD l.2.1.toNat 0), .int .i64 l.2.2, f] 97 (0, 0))) :
    Gv w' B G M { s with iv := v, ts := s.ts ++ [t], ls := s.ls ++ [l] } := by
  have hr := h.ir
  have blk : ∀ {b : Nat} {cs : Array Value} {t : TypeId}, w.heap[b]? = some (.cells cs t (0, 0)) → t ≠ 85 → w'.heap[b]? = some (.cells cs t (0, 0)) := fun hb ht => by
    rw [hg.block _ (lt_of_block hb) (own_typed hr hb ht)]; exact hb
  refine ⟨h.lo, blk h.gb (by decide), ?_, fun j p hj => ⟨(h.kn j p hj).1, blk (h.kn j p hj).2 (by decide)⟩, fun j hj => ?_, ho, fun k t' l' ht' hl' => ?_, h.dj, fun j hj b hb hb' => ?_⟩
  · refine own_kept h.kr hg (fun b hb e => ?_)
    rcases h.kr.2 with ⟨hv, -⟩ | ⟨g, cap, cur, hv, -, hh, -⟩
    · rw [hv] at hb; cases hb
    · rw [hv] at hb
      cases hb
      exact own_typed hr hh (by decide) e.symm
  · obtain ⟨h1, h2⟩ := h.tr j hj
    exact ⟨h1, own_kept h2 hg (fun b hb e' => h.di j hj b hb e')⟩
  · have e1 : (s.ts ++ [t])[k]? = some t' := ht'
    have e2 : (s.ls ++ [l])[k]? = some l' := hl'
    by_cases hk : k < s.ts.length
    · rw [List.getElem?_append_left hk] at e1
      rw [List.getElem?_append_left (by omega)] at e2
      obtain ⟨h1, f', h2⟩ := h.ti k t' l' e1 e2
      exact ⟨h1, f', blk h2 (by decide)⟩
    · rw [List.getElem?_append_right (by omega)] at e1 e2
      have hk0 : k - s.ts.length = 0 := by
        have := (List.getElem?_eq_some_iff.1 e1).1
        simp at this; omega
      rw [hk0] at e1
      rw [← hn, hk0] at e2
      simp at e1 e2
      subst e1
      subst e2
      exact ⟨hB, f, blk ht (by decide)⟩
  · have hb2 : v.ownBlock = some b := hb'
    have hb3 : (s.tv j).ownBlock = some b := hb
    rcases hat with e' | e'
    · rw [e'] at hb2; exact h.di j hj b hb3 hb2
    · rw [hb2] at e'
      cases e'
      obtain ⟨-, h2⟩ := h.tr j hj
      have := (own_lt h2 hb3).2
      omega

/-- The cell of the trail is written. -/
theorem Gv.setIc {w : World} {B G M : Nat} {s : Gs} (h : Gv w B G M s) (x : Value) : Gv (w.setCell ⟨G, 1, none⟩ x) B G M { s with ic := x } := by
  have hp := h.gb
  have blk : ∀ {b : Nat} {cs : Array Value} {t : TypeId}, w.heap[b]? = some (.cells cs t (0, 0)) → t ≠ 77 → (w.setCell ⟨G, 1, none⟩ x).heap[b]? = some (.cells cs t (0, 0)) := fun {b} _ _ hb ht => by
    rw [heap_setCell_other _ _ _ _ (fun e => by
      have e' : b = G := e
      subst e'
      rw [hp] at hb
      cases hb
      exact ht rfl)]
    exact hb
  refine ⟨h.lo, ?_, own_set h.kr hp (by decide) x, fun j q hq => ⟨(h.kn j q hq).1, blk (h.kn j q hq).2 (by decide)⟩, fun j hj' => ?_, own_set h.ir hp (by decide) x, fun k t l ht hl => ?_, h.dj, h.di⟩
  · rw [heap_setCell_same w G 1 _ _ x hp]
    rfl
  · obtain ⟨h1, h2⟩ := h.tr j hj'
    exact ⟨h1, own_set h2 hp (by decide) x⟩
  · obtain ⟨h1, f, h2⟩ := h.ti k t l ht hl
    exact ⟨h1, f, blk h2 (by decide)⟩

/-- A grove of m knots, none of them joined. -/
def Gs.fresh (ps : List Nat) (kv : Value) : Gs := ⟨ps, fun _ => none, fun _ => 1, fun i => (i : Int), fun _ => .slice none 0 0, fun _ => .slice none 0 0, kv, kv, .slice none 0 0, .slice none 0 0, [], [], fun _ => []⟩

/-- .. of which one more has come. -/
theorem Gv.added {w w' : World} {B G M p : Nat} {ps : List Nat} {kv v : Value} (h : Gv w B G M (Gs.fresh ps kv)) (hg : w.grownBy w' kv.ownBlock) (ho : w'.ownsRow B 70 1 v (ps ++ [p]).length ((ps ++ [p]).map pt)) (hB : B ≤ p)
    (hp : w.heap[p]? = some (.cells #[.int .i64 (ps.length : Int), .slice none 0 0, .pointer none, .int .i64 1, .int .i64 (ps.length : Int)] 72 (0, 0))) :
    Gv (w'.setCell ⟨G, 0, none⟩ v) B G M (Gs.fresh (ps ++ [p]) v) := by
  have hr : w.ownsRow B 70 1 kv ps.length (ps.map pt) := h.kr
  have blk : ∀ {b : Nat} {cs : Array Value} {t : TypeId}, w.heap[b]? = some (.cells cs t (0, 0)) → t ≠ 70 → w'.heap[b]? = some (.cells cs t (0, 0)) := fun hb ht => by
    rw [hg.block _ (lt_of_block hb) (own_typed hr hb ht)]; exact hb
  have hG : w'.heap[G]? = some (.cells #[kv, .slice none 0 0] 77 (0, 0)) := blk h.gb (by decide)
  have blk2 : ∀ {b : Nat} {cs : Array Value} {t : TypeId}, w'.heap[b]? = some (.cells cs t (0, 0)) → t ≠ 77 → (w'.setCell ⟨G, 0, none⟩ v).heap[b]? = some (.cells cs t (0, 0)) := fun {b} _ _ hb ht => by
    rw [heap_setCell_other _ _ _ _ (fun e => by
      have e' : b = G := e
      subst e'
      rw [hG] at hb
      cases hb
      exact ht rfl)]
    exact hb
  refine ⟨h.lo, ?_, own_set ho hG (by decide) v, fun j q hq => ?_, fun j hj => ⟨Nat.zero_le _, rfl, .inl ⟨rfl, rfl⟩⟩, ⟨rfl, .inl ⟨rfl, rfl⟩⟩, fun k t l ht => ?_, fun i j _ _ _ b hb => ?_, fun i _ b hb => ?_⟩
  · rw [heap_setCell_same w' G 0 _ _ v hG]
    rfl
  · have hq' : (ps ++ [p])[j]? = some q := hq
    by_cases hj : j < ps.length
    · rw [List.getElem?_append_left hj] at hq'
      obtain ⟨h1, h2⟩ := h.kn j q hq'
      exact ⟨h1, blk2 (blk h2 (by decide)) (by decide)⟩
    · rw [List.getElem?_append_right (by omega)] at hq'
      have hk0 : j - ps.length = 0 := by
        have := (List.getElem?_eq_some_iff.1 hq').1
        simp at this; omega
      rw [hk0] at hq'
      simp at hq'
      subst hq'
      have hjl : j = ps.length := by omega
      subst hjl
      exact ⟨hB, blk2 (blk hp (by decide)) (by decide)⟩
  · have : ([] : List Nat)[k]? = some t := ht
    simp at this
  · cases hb
  · cases hb

theorem own_map {w : World} {B : Nat} {v : Value} {l : List Nat} {cs : List Value} {t : Nat} (hc : cs = l.map pt) (h : w.ownsRow B 85 1 v (cs ++ [Value.pointer (some ⟨t, 0, none⟩)]).length (cs ++ [Value.pointer (some ⟨t, 0, none⟩)])) : w.ownsRow B 85 1 v (l ++ [t]).length ((l ++ [t]).map pt) := by
  subst hc
  have e : (l ++ [t]).map pt = l.map pt ++ [Value.pointer (some ⟨t, 0, none⟩)] := by rw [List.map_append]; rfl
  rw [e]
  simpa using h

end Go.Proofs.Ytakicdlfolhhcaa
