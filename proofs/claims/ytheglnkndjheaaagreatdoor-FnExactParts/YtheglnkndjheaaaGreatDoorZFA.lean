/- Several texts in one. -/
import Derived.Test.YtheglnkndjheaaaGreatDoorProg
import Derived.Test.YtheglnkndjheaaaGreatDoorGM
import Derived.WalkSpells
import Derived.Deep.QuietTactic
import Derived.BigQuiet
import Derived.Outline
import Derived.WalkSmall
import Derived.Deep.OwnRows
import Derived.Deep.RegionHeld3
import Derived.Deep.LoopGhost
import Derived.Test.YtheglnkndjheaaaGreatDoorRX

/- Small lemmas on worlds; the laws' and the specification's smallest functions. -/
namespace Go.Proofs.YtheglnkndjheaaaGreatDoor.Fo
set_option linter.unusedVariables false
set_option linter.unusedSimpArgs false
open Go.RowKit

theorem kide {p : Prop} (h : p) : Hid p := h
theorem kcell {W w1 : World} (hb : Below W.heap.size W w1) (b o : Nat) (h : b < W.heap.size) : w1.cell? ⟨b, o, none⟩ = W.cell? ⟨b, o, none⟩ := hb.cell (p := ⟨b, o, none⟩) h
theorem kundrew {B : Nat} {w w' : World} (h : Below B w.drew w') : Below B w w' := ⟨h.os, h.tape, h.output, h.size, h.block⟩
theorem krow {w : World} {g : Nat} {c : Array Value} {t : TypeId} (h : w.heap[g]? = some (.cells c t (0, 0))) : w.rowIs g t c.size (fun i => (c[i]?).getD undef) :=
  ⟨c, h, rfl, fun i hi => by simp [hi]⟩

/-- What was laid when a call began still stands. -/
def St (w : World) (bx : Obj) (wk : World) : Prop := Below (w.heap.size + 1) (w.alloc bx) wk
theorem St.start (w : World) (bx : Obj) : St w bx (w.alloc bx) := Below.refl _ _
theorem St.size {w wk : World} {bx : Obj} (h : St w bx wk) : w.heap.size < wk.heap.size := by
  have := Below.size h
  simp at this; omega
theorem St.next {w wk w1 : World} {bx : Obj} (h : St w bx wk) (hb : Below wk.heap.size wk w1) : St w bx w1 := Below.trans h (hb.mono (by have := h.size; omega))
theorem St.next' {w wk w1 : World} {bx : Obj} {B : Nat} (h : St w bx wk) (hb : Below B wk w1) (hB : w.heap.size < B) : St w bx w1 := Below.trans h (hb.mono hB)
theorem St.cell {w wk : World} {cs : Array Value} {t : TypeId} (h : St w (.cells cs t) wk) (i : Nat) : wk.cell? ⟨w.heap.size, i, none⟩ = cs[i]? := by
  rw [Below.cell h (p := ⟨w.heap.size, i, none⟩) (by simp)]; simp
theorem St.below {w wk : World} {bx : Obj} (h : St w bx wk) : Below w.heap.size w wk := ((Below.refl _ _).alloc (Nat.le_refl _) _).trans (Below.mono h (Nat.le_succ _))

theorem l1In_any (n l h : Int) (w : World) :
    Calls Tryz.prog 49 #[.int .i64 n, .int .i64 l, .int .i64 h] w fun e w' => e = .returned (.bool (decide (l ≤ n ∧ n ≤ h))) ∧ w' = w := by
  by_cases h1 : l ≤ n
  · by_cases h2 : n ≤ h
    · go_enter Tryz.func49, Tryz.ntmps49
      go_wp2
      go_ret
      exact ⟨by simp [h1, h2], rfl⟩
    · go_enter Tryz.func49, Tryz.ntmps49
      go_wp2
      go_ret
      exact ⟨by simp [h2], rfl⟩
  · go_enter Tryz.func49, Tryz.ntmps49
    go_wp2
    go_ret
    exact ⟨by simp; omega, rfl⟩


end Go.Proofs.YtheglnkndjheaaaGreatDoor.Fo

/- A grove as it lies in memory, and what each write makes of it. -/
namespace Go.Proofs.YtheglnkndjheaaaGreatDoor.Fo
set_option linter.unusedVariables false
set_option linter.unusedSimpArgs false
open Go.RowKit

def pt (p : Nat) : Value := .pointer (some ⟨p, 0, none⟩)

def upv (ps : List Nat) : Option Nat → Value
  | none => .pointer none
  | some j => pt (ps.getD j 0)

/-- What a grove is: its knots' blocks; of each the way up, the size, the least place, the cell of its ties and the row that they are; the cells and rows of the knots and of the trail; the ties' blocks, and the links that they are. -/
structure Gs where
  ps : List Nat
  up : Nat → Option Nat
  sz : Nat → Int
  le : Nat → Int
  tc : Nat → Value
  tv : Nat → Value
  kc : Value
  kv : Value
  ic : Value
  iv : Value
  ts : List Nat
  ls : List Lk

def knotCells (s : Gs) (i : Nat) : Array Value := #[.int .i64 (i : Int), s.tc i, upv s.ps (s.up i), .int .i64 (s.sz i), .int .i64 (s.le i)]

structure Gv (w : World) (B G M : Nat) (s : Gs) : Prop where
  lo : B ≤ G
  gb : w.heap[G]? = some (.cells #[s.kc, s.ic] 93 (0, 0))
  kr : w.ownsRow B 94 1 s.kv s.ps.length (s.ps.map pt)
  kn : ∀ i p, s.ps[i]? = some p → B ≤ p ∧ w.heap[p]? = some (.cells (knotCells s i) 117 (0, 0))
  tr : ∀ i, i < s.ps.length → ∃ cs : List Value, cs.length ≤ M ∧ w.ownsRow B 118 1 (s.tv i) cs.length cs
  ir : w.ownsRow B 118 1 s.iv s.ts.length (s.ts.map pt)
  ti : ∀ (k t : Nat) (l : Lk), s.ts[k]? = some t → s.ls[k]? = some l → B ≤ t ∧ ∃ f, w.heap[t]? = some (.cells #[pt (s.ps.getD l.1.toNat 0), pt (s.ps.getD l.2.1.toNat 0), .int .i64 l.2.2, f] 120 (0, 0))
  dj : ∀ i j, i < s.ps.length → j < s.ps.length → i ≠ j → ∀ b, (s.tv i).ownBlock = some b → (s.tv j).ownBlock ≠ some b
  di : ∀ i, i < s.ps.length → ∀ b, (s.tv i).ownBlock = some b → s.iv.ownBlock ≠ some b

theorem own_typed {w : World} {B n : Nat} {e t : TypeId} {v : Value} {xs : List Value} {b : Nat} {cs : Array Value} {fr : Nat × Nat} (h : w.ownsRow B e 1 v n xs) (hb : w.heap[b]? = some (.cells cs t fr)) (ht : t ≠ e) : some b ≠ v.ownBlock := fun hk => by
  rcases h.2 with ⟨rfl, -⟩ | ⟨g, cap, cur, rfl, hg, hh, -⟩
  · cases hk
  · cases hk
    rw [hb] at hh
    cases hh
    exact ht rfl

theorem own_lt {w : World} {B n : Nat} {e : TypeId} {v : Value} {xs : List Value} {b : Nat} (h : w.ownsRow B e 1 v n xs) (hb : v.ownBlock = some b) : B ≤ b ∧ b < w.heap.size := by
  rcases h.2 with ⟨rfl, -⟩ | ⟨g, cap, cur, rfl, hg, hh, -⟩
  · cases hb
  · cases hb
    exact ⟨hg, lt_of_block hh⟩

theorem own_later {w w' : World} {B n : Nat} {e : TypeId} {v : Value} {xs : List Value} (h : w.ownsRow B e 1 v n xs) (hb : Below w.heap.size w w') : w'.ownsRow B e 1 v n xs := World.ownsRow.kept (row := none) h ⟨hb.os, hb.tape, hb.output, hb.size, fun k hk _ => hb.block k hk⟩ (by
  cases h' : v.ownBlock with
  | none => exact .inl rfl
  | some k => exact .inr (by simp))

theorem own_kept {w w' : World} {B n : Nat} {e : TypeId} {v : Value} {xs : List Value} {r : Option Nat} (h : w.ownsRow B e 1 v n xs) (hg : w.grownBy w' r) (hn : ∀ b, v.ownBlock = some b → r ≠ some b) : w'.ownsRow B e 1 v n xs := World.ownsRow.kept h hg (by
  cases h' : v.ownBlock with
  | none => exact .inl rfl
  | some k => exact .inr (fun e => hn k h' e.symm))

/-- A row whose block a write does not touch. -/
theorem own_set {w : World} {B n : Nat} {e t : TypeId} {v : Value} {xs : List Value} {b o : Nat} {cs : Array Value} {fr : Nat × Nat} (h : w.ownsRow B e 1 v n xs) (hb : w.heap[b]? = some (.cells cs t fr)) (ht : t ≠ e) (x : Value) : (w.setCell ⟨b, o, none⟩ x).ownsRow B e 1 v n xs := by
  have hne := own_typed h hb ht
  refine ⟨h.1, ?_⟩
  rcases h.2 with hn | ⟨g, cap, cur, rfl, hg, hh, rest⟩
  · exact .inl hn
  · refine .inr ⟨g, cap, cur, rfl, hg, ?_, rest⟩
    rw [heap_setCell_other _ _ _ _ (fun e => hne (by simp [Value.ownBlock, e]))]
    exact hh

theorem Gv.inj {w : World} {B G M : Nat} {s : Gs} (h : Gv w B G M s) {i j p : Nat} (hi : s.ps[i]? = some p) (hj : s.ps[j]? = some p) : i = j := by
  have h1 := (h.kn i p hi).2
  have h2 := (h.kn j p hj).2
  rw [h1] at h2
  simp only [Option.some.injEq, Obj.cells.injEq, knotCells, and_true] at h2
  have := congrArg (fun a => a[0]?) h2
  simp at this
  omega

theorem Gv.later {w w' : World} {B G M : Nat} {s : Gs} (h : Gv w B G M s) (hb : Below w.heap.size w w') : Gv w' B G M s where
  lo := h.lo
  gb := by rw [hb.block _ (lt_of_block h.gb)]; exact h.gb
  kr := own_later h.kr hb
  kn := fun i p hi => by
    obtain ⟨h1, h2⟩ := h.kn i p hi
    exact ⟨h1, by rw [hb.block _ (lt_of_block h2)]; exact h2⟩
  tr := fun i hi => by
    obtain ⟨cs, h1, h2⟩ := h.tr i hi
    exact ⟨cs, h1, own_later h2 hb⟩
  ir := own_later h.ir hb
  ti := fun k t l ht hl => by
    obtain ⟨h1, f, h2⟩ := h.ti k t l ht hl
    exact ⟨h1, f, by rw [hb.block _ (lt_of_block h2)]; exact h2⟩
  dj := h.dj
  di := h.di

theorem Gv.more {w : World} {B G M M' : Nat} {s : Gs} (h : Gv w B G M s) (hM : M ≤ M') : Gv w B G M' s :=
  ⟨h.lo, h.gb, h.kr, h.kn, fun i hi => by
    obtain ⟨cs, h1, h2⟩ := h.tr i hi
    exact ⟨cs, by omega, h2⟩, h.ir, h.ti, h.dj, h.di⟩

/-- The ties of knot i have grown. -/
theorem Gv.tied {w w' : World} {B G M i : Nat} {s : Gs} (h : Gv w B G M s) (hi : i < s.ps.length) {v : Value} {cs : List Value} (hg : w.grownBy w' (s.tv i).ownBlock) (ho : w'.ownsRow B 118 1 v cs.length cs) (hc : cs.length ≤ M) (hat : v.ownBlock = (s.tv i).ownBlock ∨ v.ownBlock = some w.heap.size) :
    Gv w' B G M { s with tv := fun j => if j = i then v else s.tv j } := by
  obtain ⟨c0, -, hr⟩ := h.tr i hi
  have blk : ∀ {b : Nat} {cs : Array Value} {t : TypeId}, w.heap[b]? = some (.cells cs t (0, 0)) → t ≠ 118 → w'.heap[b]? = some (.cells cs t (0, 0)) := fun hb ht => by
    rw [hg.block _ (lt_of_block hb) (own_typed hr hb ht)]; exact hb
  refine ⟨h.lo, blk h.gb (by decide), ?_, fun j p hj => ⟨(h.kn j p hj).1, blk (h.kn j p hj).2 (by decide)⟩, fun j hj => ?_, ?_, fun k t l ht hl => ?_, fun j q hj hq hne b hb hb' => ?_, fun j hj b hb hb' => ?_⟩
  · refine own_kept h.kr hg (fun b hb e => ?_)
    rcases h.kr.2 with ⟨hv, -⟩ | ⟨g, cap, cur, hv, -, hh, -⟩
    · rw [hv] at hb; cases hb
    · rw [hv] at hb
      cases hb
      exact own_typed hr hh (by decide) e.symm
  · by_cases e : j = i
    · subst e
      exact ⟨cs, hc, by simpa using ho⟩
    · obtain ⟨c1, h1, h2⟩ := h.tr j hj
      refine ⟨c1, h1, ?_⟩
      show w'.ownsRow B 118 1 (if j = i then v else s.tv j) _ _
      rw [if_neg e]
      exact own_kept h2 hg (fun b hb e' => h.dj j i hj hi e b hb e')
  · exact own_kept h.ir hg (fun b hb e => h.di i hi b e hb)
  · obtain ⟨h1, f, h2⟩ := h.ti k t l ht hl
    exact ⟨h1, f, blk h2 (by decide)⟩
  · simp only [] at hb hb'
    by_cases e : j = i
    · subst e
      rw [if_pos rfl] at hb
      rw [if_neg (Ne.symm hne)] at hb'
      rcases hat with e' | e'
      · rw [e'] at hb; exact h.dj j q hj hq hne b hb hb'
      · rw [hb] at e'
        cases e'
        obtain ⟨c2, -, h2⟩ := h.tr q hq
        have := (own_lt h2 hb').2
        omega
    · rw [if_neg e] at hb
      by_cases e2 : q = i
      · subst e2
        rw [if_pos rfl] at hb'
        rcases hat with e' | e'
        · rw [e'] at hb'; exact h.dj j q hj hq hne b hb hb'
        · rw [hb'] at e'
          cases e'
          obtain ⟨c2, -, h2⟩ := h.tr j hj
          have := (own_lt h2 hb).2
          omega
      · rw [if_neg e2] at hb'
        exact h.dj j q hj hq hne b hb hb'
  · simp only [] at hb hb'
    by_cases e : j = i
    · subst e
      rw [if_pos rfl] at hb
      rcases hat with e' | e'
      · rw [e'] at hb; exact h.di j hj b hb hb'
      · rw [hb] at e'
        cases e'
        have := (own_lt h.ir hb').2
        omega
    · rw [if_neg e] at hb
      exact h.di j hj b hb hb'

/-- A cell of knot i is written. -/
theorem Gv.knot {w : World} {B G M i p : Nat} {s : Gs} (h : Gv w B G M s) (hi : s.ps[i]? = some p) (o : Nat) (x : Value) (tc : Nat → Value) (up : Nat → Option Nat) (sz le : Nat → Int)
    (hj : ∀ j, j ≠ i → tc j = s.tc j ∧ up j = s.up j ∧ sz j = s.sz j ∧ le j = s.le j)
    (hx : (knotCells s i).setIfInBounds o x = #[.int .i64 (i : Int), tc i, upv s.ps (up i), .int .i64 (sz i), .int .i64 (le i)]) :
    Gv (w.setCell ⟨p, o, none⟩ x) B G M { s with tc := tc, up := up, sz := sz, le := le } := by
  have hp := (h.kn i p hi).2
  have blk : ∀ {b : Nat} {cs : Array Value} {t : TypeId}, w.heap[b]? = some (.cells cs t (0, 0)) → t ≠ 117 → (w.setCell ⟨p, o, none⟩ x).heap[b]? = some (.cells cs t (0, 0)) := fun {b} _ _ hb ht => by
    rw [heap_setCell_other _ _ _ _ (fun e => by
      have e' : b = p := e
      subst e'
      rw [hp] at hb
      cases hb
      exact ht rfl)]
    exact hb
  refine ⟨h.lo, blk h.gb (by decide), own_set h.kr hp (by decide) x, fun j q hq => ⟨(h.kn j q hq).1, ?_⟩, fun j hj' => ?_, own_set h.ir hp (by decide) x, fun k t l ht hl => ?_, h.dj, h.di⟩
  · by_cases e : j = i
    · subst e
      have : q = p := by
        have h1 : s.ps[j]? = some q := hq
        rw [hi] at h1; cases h1; rfl
      subst this
      rw [heap_setCell_same w q o _ _ x hp, hx]
      rfl
    · have hqp : q ≠ p := fun e' => e (by subst e'; exact h.inj hq hi)
      rw [heap_setCell_other _ _ _ _ hqp]
      obtain ⟨e1, e2, e3, e4⟩ := hj j e
      have := (h.kn j q hq).2
      rw [this]
      simp only [knotCells, e1, e2, e3, e4]
  · obtain ⟨cs, h1, h2⟩ := h.tr j hj'
    exact ⟨cs, h1, own_set h2 hp (by decide) x⟩
  · obtain ⟨h1, f, h2⟩ := h.ti k t l ht hl
    exact ⟨h1, f, blk h2 (by decide)⟩

/-- The trail has grown by a tie. -/
theorem Gv.pushed {w w' : World} {B G M : Nat} {s : Gs} (h : Gv w B G M s) {v : Value} {t : Nat} {l : Lk} {f : Value} (hn : s.ts.length = s.ls.length) (hg : w.grownBy w' s.iv.ownBlock) (ho : w'.ownsRow B 118 1 v (s.ts ++ [t]).length ((s.ts ++ [t]).map pt)) (hat : v.ownBlock = s.iv.ownBlock ∨ v.ownBlock = some w.heap.size)
    (hB : B ≤ t) (ht : w.heap[t]? = some (.cells #[pt (s.ps.getD l.1.toNat 0), pt (s.ps.getD l.2.1.toNat 0), .int .i64 l.2.2, f] 120 (0, 0))) :
    Gv w' B G M { s with iv := v, ts := s.ts ++ [t], ls := s.ls ++ [l] } := by
  have hr := h.ir
  have blk : ∀ {b : Nat} {cs : Array Value} {t : TypeId}, w.heap[b]? = some (.cells cs t (0, 0)) → t ≠ 118 → w'.heap[b]? = some (.cells cs t (0, 0)) := fun hb ht => by
    rw [hg.block _ (lt_of_block hb) (own_typed hr hb ht)]; exact hb
  refine ⟨h.lo, blk h.gb (by decide), ?_, fun j p hj => ⟨(h.kn j p hj).1, blk (h.kn j p hj).2 (by decide)⟩, fun j hj => ?_, ho, fun k t' l' ht' hl' => ?_, h.dj, fun j hj b hb hb' => ?_⟩
  · refine own_kept h.kr hg (fun b hb e => ?_)
    rcases h.kr.2 with ⟨hv, -⟩ | ⟨g, cap, cur, hv, -, hh, -⟩
    · rw [hv] at hb; cases hb
    · rw [hv] at hb
      cases hb
      exact own_typed hr hh (by decide) e.symm
  · obtain ⟨c1, h1, h2⟩ := h.tr j hj
    exact ⟨c1, h1, own_kept h2 hg (fun b hb e' => h.di j hj b hb e')⟩
  · have e1 : (s.ts ++ [t])[k]? = some t' := ht'
    have e2 : (s.ls ++ [l])[k]? = some l' := hl'
    by_cases hk : k < s.ts.length
    · rw [List.getElem?_append_left hk] at e1
      rw [List.getElem?_append_left (by omega)] at e2
      obtain ⟨h1, f', h2⟩ := h.ti k t' l' e1 e2
      exact ⟨h1, f', blk h2 (by decide)⟩
    · rw [List.getElem?_append_right (by omega)] at e1 e2
      have hk0 : k - s.ts.length = 0 := by
        have := (List.getElem?_eq_some_iff.1 e1).1
        simp at this; omega
      rw [hk0] at e1
      rw [← hn, hk0] at e2
      simp at e1 e2
      subst e1
      subst e2
      exact ⟨hB, f, blk ht (by decide)⟩
  · have hb2 : v.ownBlock = some b := hb'
    have hb3 : (s.tv j).ownBlock = some b := hb
    rcases hat with e' | e'
    · rw [e'] at hb2; exact h.di j hj b hb3 hb2
    · rw [hb2] at e'
      cases e'
      obtain ⟨c2, -, h2⟩ := h.tr j hj
      have := (own_lt h2 hb3).2
      omega

/-- The cell of the trail is written. -/
theorem Gv.setIc {w : World} {B G M : Nat} {s : Gs} (h : Gv w B G M s) (x : Value) : Gv (w.setCell ⟨G, 1, none⟩ x) B G M { s with ic := x } := by
  have hp := h.gb
  have blk : ∀ {b : Nat} {cs : Array Value} {t : TypeId}, w.heap[b]? = some (.cells cs t (0, 0)) → t ≠ 93 → (w.setCell ⟨G, 1, none⟩ x).heap[b]? = some (.cells cs t (0, 0)) := fun {b} _ _ hb ht => by
    rw [heap_setCell_other _ _ _ _ (fun e => by
      have e' : b = G := e
      subst e'
      rw [hp] at hb
      cases hb
      exact ht rfl)]
    exact hb
  refine ⟨h.lo, ?_, own_set h.kr hp (by decide) x, fun j q hq => ⟨(h.kn j q hq).1, blk (h.kn j q hq).2 (by decide)⟩, fun j hj' => ?_, own_set h.ir hp (by decide) x, fun k t l ht hl => ?_, h.dj, h.di⟩
  · rw [heap_setCell_same w G 1 _ _ x hp]
    rfl
  · obtain ⟨cs, h1, h2⟩ := h.tr j hj'
    exact ⟨cs, h1, own_set h2 hp (by decide) x⟩
  · obtain ⟨h1, f, h2⟩ := h.ti k t l ht hl
    exact ⟨h1, f, blk h2 (by decide)⟩

/-- A grove of m knots, none of them joined. -/
def Gs.fresh (ps : List Nat) (kv : Value) : Gs := ⟨ps, fun _ => none, fun _ => 1, fun i => (i : Int), fun _ => .slice none 0 0, fun _ => .slice none 0 0, kv, kv, .slice none 0 0, .slice none 0 0, [], []⟩

/-- .. of which one more has come. -/
theorem Gv.added {w w' : World} {B G M p : Nat} {ps : List Nat} {kv v : Value} (h : Gv w B G M (Gs.fresh ps kv)) (hg : w.grownBy w' kv.ownBlock) (ho : w'.ownsRow B 94 1 v (ps ++ [p]).length ((ps ++ [p]).map pt)) (hB : B ≤ p)
    (hp : w.heap[p]? = some (.cells #[.int .i64 (ps.length : Int), .slice none 0 0, .pointer none, .int .i64 1, .int .i64 (ps.length : Int)] 117 (0, 0))) :
    Gv (w'.setCell ⟨G, 0, none⟩ v) B G M (Gs.fresh (ps ++ [p]) v) := by
  have hr : w.ownsRow B 94 1 kv ps.length (ps.map pt) := h.kr
  have blk : ∀ {b : Nat} {cs : Array Value} {t : TypeId}, w.heap[b]? = some (.cells cs t (0, 0)) → t ≠ 94 → w'.heap[b]? = some (.cells cs t (0, 0)) := fun hb ht => by
    rw [hg.block _ (lt_of_block hb) (own_typed hr hb ht)]; exact hb
  have hG : w'.heap[G]? = some (.cells #[kv, .slice none 0 0] 93 (0, 0)) := blk h.gb (by decide)
  have blk2 : ∀ {b : Nat} {cs : Array Value} {t : TypeId}, w'.heap[b]? = some (.cells cs t (0, 0)) → t ≠ 93 → (w'.setCell ⟨G, 0, none⟩ v).heap[b]? = some (.cells cs t (0, 0)) := fun {b} _ _ hb ht => by
    rw [heap_setCell_other _ _ _ _ (fun e => by
      have e' : b = G := e
      subst e'
      rw [hG] at hb
      cases hb
      exact ht rfl)]
    exact hb
  refine ⟨h.lo, ?_, own_set ho hG (by decide) v, fun j q hq => ?_, fun j hj => ⟨[], Nat.zero_le _, rfl, .inl ⟨rfl, rfl⟩⟩, ⟨rfl, .inl ⟨rfl, rfl⟩⟩, fun k t l ht => ?_, fun i j _ _ _ b hb => ?_, fun i _ b hb => ?_⟩
  · rw [heap_setCell_same w' G 0 _ _ v hG]
    rfl
  · have hq' : (ps ++ [p])[j]? = some q := hq
    by_cases hj : j < ps.length
    · rw [List.getElem?_append_left hj] at hq'
      obtain ⟨h1, h2⟩ := h.kn j q hq'
      exact ⟨h1, blk2 (blk h2 (by decide)) (by decide)⟩
    · rw [List.getElem?_append_right (by omega)] at hq'
      have hk0 : j - ps.length = 0 := by
        have := (List.getElem?_eq_some_iff.1 hq').1
        simp at this; omega
      rw [hk0] at hq'
      simp at hq'
      subst hq'
      have hjl : j = ps.length := by omega
      subst hjl
      exact ⟨hB, blk2 (blk hp (by decide)) (by decide)⟩
  · have : ([] : List Nat)[k]? = some t := ht
    simp at this
  · cases hb
  · cases hb

end Go.Proofs.YtheglnkndjheaaaGreatDoor.Fo

/- The program's grove: a knot's head, a place, one more knot, one more tie on the trail. -/
namespace Go.Proofs.YtheglnkndjheaaaGreatDoor.Fo
set_option linter.unusedVariables false
set_option linter.unusedSimpArgs false
open Go.RowKit

theorem cell_of {w : World} {b o : Nat} {cs : Array Value} {t : TypeId} {fr : Nat × Nat} (h : w.heap[b]? = some (.cells cs t fr)) : w.cell? ⟨b, o, none⟩ = cs[o]? := by
  simp [World.cell?, h]

theorem Gv.get {w : World} {B G M i p : Nat} {s : Gs} (h : Gv w B G M s) (hi : s.ps[i]? = some p) : w.cell? ⟨p, 0, none⟩ = some (.int .i64 (i : Int)) ∧ w.cell? ⟨p, 1, none⟩ = some (s.tc i) ∧ w.cell? ⟨p, 2, none⟩ = some (upv s.ps (s.up i)) ∧ w.cell? ⟨p, 3, none⟩ = some (.int .i64 (s.sz i)) ∧ w.cell? ⟨p, 4, none⟩ = some (.int .i64 (s.le i)) := by
  have hp := (h.kn i p hi).2
  rw [cell_of hp, cell_of hp, cell_of hp, cell_of hp, cell_of hp]
  exact ⟨rfl, rfl, rfl, rfl, rfl⟩

theorem head_any {w : World} {B G M : Nat} {s : Gs} (h : Gv w B G M s) {L : Nat → Nat} {rt dp : Nat → Nat} (hu : Uf s.ps.length L s.up s.le rt dp) (i p : Nat) (hi : s.ps[i]? = some p) :
    Calls Tryz.prog 74 #[pt p] w fun e w' => e = .returned (pt (s.ps.getD (rt i) 0)) ∧ w' = w := by
  have HU := kide hu
  have HH := kide h
  have HI := kide hi
  clear hu h hi
  unfold pt
  go_enter Tryz.func74, Tryz.ntmps74
  go_wp2_with fail
  go_loopg [0] (dp i) (fun g q wr => ∃ j pj : Nat, s.ps[j]? = some pj ∧ rt j = rt i ∧ dp j ≤ g ∧ q = .pointer (some ⟨pj, 0, none⟩) ∧ wr = w)
  case atStart => exact ⟨i, p, HI.out, rfl, Nat.le_refl _, rfl, rfl⟩
  case round =>
    obtain ⟨j, pj, hj, hr, hg, rfl, rfl⟩ := hrel
    obtain ⟨-, -, q2, -, -⟩ := HH.out.get hj
    have hjl : j < s.ps.length := (List.getElem?_eq_some_iff.1 hj).1
    have HR := kide hr
    cases hu : s.up j with
    | none =>
      have hrj : Hid (rt j = j) := HU.out.root j hjl hu
      have hfin : Hid (s.ps.getD (rt i) 0 = pj) := by
        show _ = _
        rw [← HR.out, hrj.out, List.getD, hj]; rfl
      rw [hu] at q2
      simp only [upv] at q2
      clear hu hj hr hrj
      go_wp2_with fail
      go_ret
      exact ⟨by rw [hfin.out]; rfl, rfl⟩
    | some m =>
      obtain ⟨h1, h2, h3⟩ := HU.out.step j hjl m hu
      obtain ⟨pm, hm⟩ : ∃ pm, s.ps[m]? = some pm := ⟨s.ps[m], List.getElem?_eq_getElem h1⟩
      have hpm : s.ps.getD m 0 = pm := by rw [List.getD, hm]; rfl
      rw [hu] at q2
      simp only [upv, pt] at q2
      rw [hpm] at q2
      have HM := kide hm
      have H2 := kide (h2.trans hr)
      clear hu hj hr hm h2 hpm
      go_wp2_with fail
      go_roundg (dp m)
      case measure => omega
      case rel => exact ⟨m, pm, HM.out, H2.out, Nat.le_refl _, rfl, rfl⟩

theorem Gv.kform {w : World} {B G M : Nat} {s : Gs} (h : Gv w B G M s) : ∃ a c, s.kv = .slice a s.ps.length c ∧ ∀ i p, s.ps[i]? = some p → ∃ g, a = some ⟨g, 0, none⟩ ∧ w.cell? ⟨g, i, none⟩ = some (pt p) := by
  have hcells := fun g hg => World.ownsRow.cells h.kr (g := g) hg
  rcases h.kr.2 with ⟨e, hn⟩ | ⟨g, cap, cur, e, -, -, -⟩
  · refine ⟨none, 0, by rw [e, hn], fun i p hi => ?_⟩
    have := (List.getElem?_eq_some_iff.1 hi).1
    omega
  · refine ⟨some ⟨g, 0, none⟩, cap, e, fun i p hi => ⟨g, rfl, ?_⟩⟩
    have c0 := hcells g (by rw [e]; rfl) i (pt p) (by rw [List.getElem?_map, hi]; rfl)
    rw [Addr.add_lit] at c0
    simpa using c0


end Go.Proofs.YtheglnkndjheaaaGreatDoor.Fo

/- One more knot; one more tie on the trail. -/
namespace Go.Proofs.YtheglnkndjheaaaGreatDoor.Fo
set_option linter.unusedVariables false
set_option linter.unusedSimpArgs false
open Go.RowKit

theorem Tryz.infoPK : (Tryz.prog.info? 94).map (fun i => (i.zero, i.size, i.bytes)) = some (some (.pointer none), 1, 8) := by kernel_rfl
theorem Tryz.infoPT : (Tryz.prog.info? 118).map (fun i => (i.zero, i.size, i.bytes)) = some (some (.pointer none), 1, 8) := by kernel_rfl

/-- 'append(row, p)' of an owned row of pointers. -/
theorem wpList_appK {w : World} {ops : Array Oper} {rest : List Oper} {o : Oper} {a : Act} {Q : Exit → Act → World → Prop} (hgd : o.guard = none) (s x : Operand)
    (ho : o.op = .call { callee := .builtin .append, args := #[s, x], argTypes := #[88, 88] })
    (B : Nat) (v : Value) (xs : List Value) (y : Addr) (hs : a.eval s = v) (hown : w.ownsRow B 94 1 v xs.length xs) (gx : Nat) (hx : a.eval x = .slice (some ⟨gx, 0, none⟩) 1 1)
    (h0 : w.cell? ⟨gx, 0, none⟩ = some (.pointer (some y))) (hl : xs.length ≤ 1073741824) (hB : B ≤ w.heap.size)
    (h : ∀ v' w', w'.ownsRow B 94 1 v' (xs ++ [Value.pointer (some y)]).length (xs ++ [Value.pointer (some y)]) → w.grownBy w' v.ownBlock → (v'.ownBlock = v.ownBlock ∨ v'.ownBlock = some w.heap.size) → wpList Tryz.prog ops Q rest (a.put o.dst v') w') : wpList Tryz.prog ops Q (o :: rest) a w := by
  obtain ⟨i0, hi, hz0, hz1, hz2⟩ := info_parts Tryz.infoPK
  refine wpList_append_own_at w hgd s x 88 ho B 94 i0 _ 1 8 Tryz.underlying88 hi hz0 hz1 hz2 rfl (by decide) v xs.length xs hs hown ⟨gx, 0, none⟩ 1 1 [.pointer (some y)] hx rfl ?_ ?_ (by unfold maxLen; omega) (by omega) hB ?_
  · intro j u hj
    rw [Addr.add_lit]
    match j, hj with
    | 0, hj => simp at hj; subst hj; exact h0
    | j + 1, hj => simp at hj
  · intro u hu
    simp at hu
    subst hu
    rfl
  · intro v' w' ho' hg _ hat
    exact h v' w' (by simpa using ho') hg hat

/-- 'append(row, p)' of an owned row of pointers. -/
theorem wpList_appT {w : World} {ops : Array Oper} {rest : List Oper} {o : Oper} {a : Act} {Q : Exit → Act → World → Prop} (hgd : o.guard = none) (s x : Operand)
    (ho : o.op = .call { callee := .builtin .append, args := #[s, x], argTypes := #[89, 89] })
    (B : Nat) (v : Value) (xs : List Value) (y : Addr) (hs : a.eval s = v) (hown : w.ownsRow B 118 1 v xs.length xs) (gx : Nat) (hx : a.eval x = .slice (some ⟨gx, 0, none⟩) 1 1)
    (h0 : w.cell? ⟨gx, 0, none⟩ = some (.pointer (some y))) (hl : xs.length ≤ 1073741824) (hB : B ≤ w.heap.size)
    (h : ∀ v' w', w'.ownsRow B 118 1 v' (xs ++ [Value.pointer (some y)]).length (xs ++ [Value.pointer (some y)]) → w.grownBy w' v.ownBlock → (v'.ownBlock = v.ownBlock ∨ v'.ownBlock = some w.heap.size) → wpList Tryz.prog ops Q rest (a.put o.dst v') w') : wpList Tryz.prog ops Q (o :: rest) a w := by
  obtain ⟨i0, hi, hz0, hz1, hz2⟩ := info_parts Tryz.infoPT
  refine wpList_append_own_at w hgd s x 89 ho B 118 i0 _ 1 8 Tryz.underlying89 hi hz0 hz1 hz2 rfl (by decide) v xs.length xs hs hown ⟨gx, 0, none⟩ 1 1 [.pointer (some y)] hx rfl ?_ ?_ (by unfold maxLen; omega) (by omega) hB ?_
  · intro j u hj
    rw [Addr.add_lit]
    match j, hj with
    | 0, hj => simp at hj; subst hj; exact h0
    | j + 1, hj => simp at hj
  · intro u hu
    simp at hu
    subst hu
    rfl
  · intro v' w' ho' hg _ hat
    exact h v' w' (by simpa using ho') hg hat

theorem own_form {w : World} {B n : Nat} {e : TypeId} {v x : Value} {xs : List Value} (h : w.ownsRow B e 1 v n (xs ++ [x])) : ∃ g cap N, v = .slice (some ⟨g, 0, none⟩) N cap := by
  rcases h.2 with ⟨-, hn⟩ | ⟨g, cap, cur, e, -⟩
  · have := h.1
    simp at this
    omega
  · exact ⟨g, cap, _, e⟩

theorem add_any {w : World} {B G M : Nat} {ps : List Nat} {kv : Value} (h : Gv w B G M (Gs.fresh ps kv)) (hl : ps.length ≤ 1000) :
    Calls Tryz.prog 56 #[pt G] w fun e w' => ∃ p v, e = .returned (pt p) ∧ Gv w' B G M (Gs.fresh (ps ++ [p]) v) ∧ Below B w w' := by
  obtain ⟨a, c, e, -⟩ := h.kform
  have e' : kv = .slice a ps.length c := e
  have q0 : w.cell? ⟨G, 0, none⟩ = some (.slice a ps.length c) := by rw [cell_of h.gb, ← e']; rfl
  have HH := kide h
  clear h e
  have hb1 : Below w.heap.size w (w.alloc (Obj.cells #[.int .i64 (ps.length : Int), .slice none 0 0, .pointer none, .int .i64 1, .int .i64 (ps.length : Int)] 117)) := (Below.refl _ _).alloc (Nat.le_refl _) _
  have hG1 := lt_of_block HH.out.gb
  have hBG := HH.out.lo
  have q1 : (w.alloc (Obj.cells #[.int .i64 (ps.length : Int), .slice none 0 0, .pointer none, .int .i64 1, .int .i64 (ps.length : Int)] 117)).cell? ⟨G, 0, none⟩ = some (.slice a ps.length c) := by rw [kcell hb1 _ _ hG1]; exact q0
  have H1 := kide (HH.out.later hb1)
  have hnew : Hid ((w.alloc (Obj.cells #[.int .i64 (ps.length : Int), .slice none 0 0, .pointer none, .int .i64 1, .int .i64 (ps.length : Int)] 117)).heap[w.heap.size]? = some (Obj.cells #[.int .i64 (ps.length : Int), .slice none 0 0, .pointer none, .int .i64 1, .int .i64 (ps.length : Int)] 117)) := heap_alloc_new _ _
  have B1 := kide hb1
  unfold pt
  clear hb1
  have hlm : (ps.map pt).length ≤ 1073741824 := by simp; omega
  have hkr : Hid (∀ o, ((w.alloc (Obj.cells #[.int .i64 (ps.length : Int), .slice none 0 0, .pointer none, .int .i64 1, .int .i64 (ps.length : Int)] 117)).alloc o).ownsRow B 94 1 (.slice a ps.length c) (ps.map pt).length (ps.map pt)) := fun o => by
    have h1 : (w.alloc (Obj.cells #[.int .i64 (ps.length : Int), .slice none 0 0, .pointer none, .int .i64 1, .int .i64 (ps.length : Int)] 117)).ownsRow B 94 1 kv ps.length (ps.map pt) := H1.out.kr
    rw [e'] at h1
    have h2 := World.ownsRow.alloc h1 o
    simpa using h2
  go_enter Tryz.func56, Tryz.ntmps56
  go_wp2_with (at_builtin; refine wpList_appK rfl _ _ rfl B _ (ps.map pt) ⟨w.heap.size, 0, none⟩ rfl (hkr.out _) _ rfl (by simp) hlm (by simp; omega) ?_)
  intro v2 w2 hos hg hat
  obtain ⟨g2', c2', N2, rfl⟩ := own_form hos
  have hb2 : Below (w.heap.size + 1) (w.alloc (Obj.cells #[.int .i64 (ps.length : Int), .slice none 0 0, .pointer none, .int .i64 1, .int .i64 (ps.length : Int)] 117)) ((w.alloc (Obj.cells #[.int .i64 (ps.length : Int), .slice none 0 0, .pointer none, .int .i64 1, .int .i64 (ps.length : Int)] 117)).alloc (Obj.cells #[Value.pointer (some ⟨w.heap.size, 0, none⟩)] 94)) := (Below.refl _ _).alloc (by simp) _
  have H2 := kide (H1.out.later (by simpa using hb2))
  have hnew2 : Hid (((w.alloc (Obj.cells #[.int .i64 (ps.length : Int), .slice none 0 0, .pointer none, .int .i64 1, .int .i64 (ps.length : Int)] 117)).alloc (Obj.cells #[Value.pointer (some ⟨w.heap.size, 0, none⟩)] 94)).heap[w.heap.size]? = some (Obj.cells #[.int .i64 (ps.length : Int), .slice none 0 0, .pointer none, .int .i64 1, .int .i64 (ps.length : Int)] 117)) := by
    show _ = _
    rw [hb2.block _ (by omega)]; exact hnew.out
  have BB : Hid (Below B w w2) := by
    have h1 : Below B w ((w.alloc (Obj.cells #[.int .i64 (ps.length : Int), .slice none 0 0, .pointer none, .int .i64 1, .int .i64 (ps.length : Int)] 117)).alloc (Obj.cells #[Value.pointer (some ⟨w.heap.size, 0, none⟩)] 94)) := ((Below.refl _ _).alloc (by omega) _).alloc (by simp; omega) _
    refine Below.grown h1 hg (by simp; omega) (fun j hj => ?_)
    rw [← e'] at hj
    exact (own_lt H2.out.kr hj).1
  have hfin : Hid (Gv (w2.setCell ⟨G, 0, none⟩ (.slice (some ⟨g2', 0, none⟩) N2 c2')) B G M (Gs.fresh (ps ++ [w.heap.size]) (.slice (some ⟨g2', 0, none⟩) N2 c2'))) := by
    rw [← e'] at hg
    refine H2.out.added hg ?_ (by omega) hnew2.out
    have : (ps ++ [w.heap.size]).map pt = ps.map pt ++ [Value.pointer (some ⟨w.heap.size, 0, none⟩)] := by simp [pt]
    rw [this]
    simpa using hos
  have hG2 : w2.heap[G]? = some (.cells #[kv, .slice none 0 0] 93 (0, 0)) := by
    rw [← e'] at hg
    rw [hg.block G (lt_of_block H2.out.gb) (own_typed H2.out.kr H2.out.gb (by decide))]
    exact H2.out.gb
  have g2 : w2.cell? ⟨G, 0, none⟩ = some kv := by rw [cell_of hG2]; rfl
  have r2 : w2.frozen? ⟨G, 0, none⟩ = false := frozen_of_row w2 G 0 _ _ hG2
  clear hos hg hat hb2 H1 H2 hnew hnew2 hkr q0 q1 HH B1 hG2
  go_wp2_with fail
  go_ret
  exact ⟨_, _, rfl, hfin.out, BB.out.setCell hBG _⟩

/-- Blocks of other types than knots, rows of ties and groves are as they were. -/
def Kt (w u : World) : Prop := ∀ (b : Nat) (cs : Array Value) (t : TypeId), w.heap[b]? = some (.cells cs t (0, 0)) → t ≠ 117 → t ≠ 118 → t ≠ 93 → u.heap[b]? = some (.cells cs t (0, 0))
theorem Kt.refl (w : World) : Kt w w := fun _ _ _ h _ _ _ => h
theorem Kt.trans {w u v : World} (h : Kt w u) (h' : Kt u v) : Kt w v := fun b cs t hb h1 h2 h3 => h' b cs t (h b cs t hb h1 h2 h3) h1 h2 h3
theorem Kt.of_below {w u : World} (h : Below w.heap.size w u) : Kt w u := fun b cs t hb _ _ _ => by rw [h.block b (lt_of_block hb)]; exact hb
theorem Kt.later {w u u' : World} (h : Kt w u) (hb : Below u.heap.size u u') : Kt w u' := h.trans (Kt.of_below hb)
theorem Kt.set {w u : World} (h : Kt w u) {p o : Nat} {c : Array Value} {t' : TypeId} (hp : u.heap[p]? = some (.cells c t' (0, 0))) (ht : t' = 117 ∨ t' = 93) (x : Value) : Kt w (u.setCell ⟨p, o, none⟩ x) := fun b cs t hb h1 h2 h3 => by
  have h4 := h b cs t hb h1 h2 h3
  rw [heap_setCell_other _ _ _ _ (fun e => by
    have e' : b = p := e
    subst e'
    rw [hp] at h4
    cases h4
    rcases ht with e | e
    · exact h1 e
    · exact h3 e)]
  exact h4
theorem Kt.grown {w u u' : World} (h : Kt w u) {B n : Nat} {v : Value} {xs : List Value} (ho : u.ownsRow B 118 1 v n xs) (hg : u.grownBy u' v.ownBlock) : Kt w u' := fun b cs t hb h1 h2 h3 => by
  have h4 := h b cs t hb h1 h2 h3
  rw [hg.block b (lt_of_block h4) (own_typed ho h4 h2)]
  exact h4

/-- How long a slice is. -/
def lenV : Value → Nat
  | .slice _ n _ => n
  | _ => 0
theorem own_lenV {w : World} {B n : Nat} {e : TypeId} {v : Value} {xs : List Value} (h : w.ownsRow B e 1 v n xs) : lenV v = n := by
  rcases h.2 with ⟨rfl, h0⟩ | ⟨g, cap, cur, rfl, -⟩
  · exact h0.symm
  · rfl

theorem push_any {w : World} {B G M t : Nat} {s : Gs} {l : Lk} {f : Value} (h : Gv w B G M s) (hn : s.ts.length = s.ls.length) (hi : s.ic = s.iv) (hl : s.ts.length ≤ 1048576) (hB : B ≤ t)
    (ht : w.heap[t]? = some (.cells #[pt (s.ps.getD l.1.toNat 0), pt (s.ps.getD l.2.1.toNat 0), .int .i64 l.2.2, f] 120 (0, 0))) :
    Calls Tryz.prog 76 #[.pointer (some ⟨G, 1, none⟩), pt t] w fun e w' => e = .returned (.tuple #[]) ∧ ∃ v, Gv w' B G M { s with ic := v, iv := v, ts := s.ts ++ [t], ls := s.ls ++ [l] } ∧ Below B w w' ∧ Kt w w' := by
  obtain ⟨a, c, e⟩ : ∃ a c, s.iv = .slice a s.ts.length c := by
    rcases h.ir.2 with ⟨e, hn⟩ | ⟨g, cap, cur, e, -⟩
    · exact ⟨none, 0, by rw [e, hn]⟩
    · exact ⟨_, _, e⟩
  have q0 : w.cell? ⟨G, 1, none⟩ = some (.slice a s.ts.length c) := by rw [cell_of h.gb, ← e, ← hi]; rfl
  have hG1 := lt_of_block h.gb
  have hBG := h.lo
  have hlm : (s.ts.map pt).length ≤ 1073741824 := by simp; omega
  have hkr : Hid (∀ o, (w.alloc o).ownsRow B 118 1 (.slice a s.ts.length c) (s.ts.map pt).length (s.ts.map pt)) := fun o => by
    have h1 := h.ir
    rw [e] at h1
    have h2 := World.ownsRow.alloc h1 o
    simpa using h2
  have HH := kide h
  have HN := kide hn
  have HT := kide ht
  have HE := kide e
  clear h hn ht e hi
  unfold pt
  generalize s.ts.length = n at q0 hkr hl HE
  go_enter Tryz.func76, Tryz.ntmps76
  go_wp2_with (at_builtin; refine wpList_appT rfl _ _ rfl B _ (s.ts.map pt) ⟨t, 0, none⟩ rfl (hkr.out _) _ rfl (by simp) hlm (by simp; omega) ?_)
  intro v2 w2 hos hg hat
  obtain ⟨g2', c2', N2, rfl⟩ := own_form hos
  have hb1 : Below w.heap.size w (w.alloc (Obj.cells #[Value.pointer (some ⟨t, 0, none⟩)] 118)) := (Below.refl _ _).alloc (Nat.le_refl _) _
  have H1 := kide (HH.out.later hb1)
  have hT1 : Hid ((w.alloc (Obj.cells #[Value.pointer (some ⟨t, 0, none⟩)] 118)).heap[t]? = some (.cells #[pt (s.ps.getD l.1.toNat 0), pt (s.ps.getD l.2.1.toNat 0), .int .i64 l.2.2, f] 120 (0, 0))) := by
    show _ = _
    rw [hb1.block _ (lt_of_block HT.out)]; exact HT.out
  rw [← HE.out] at hg hat
  have BB : Hid (Below B w w2) := by
    have h1 : Below B w (w.alloc (Obj.cells #[Value.pointer (some ⟨t, 0, none⟩)] 118)) := (Below.refl _ _).alloc (by omega) _
    exact Below.grown h1 hg (by simp; omega) (fun j hj => (own_lt H1.out.ir hj).1)
  have hfin : Hid (Gv w2 B G M { s with iv := .slice (some ⟨g2', 0, none⟩) N2 c2', ts := s.ts ++ [t], ls := s.ls ++ [l] }) := by
    refine H1.out.pushed HN.out hg ?_ (by simpa using hat) hB hT1.out
    have : (s.ts ++ [t]).map pt = s.ts.map pt ++ [Value.pointer (some ⟨t, 0, none⟩)] := by simp [pt]
    rw [this]
    simpa using hos
  have g2 : w2.cell? ⟨G, 1, none⟩ = some s.ic := by rw [cell_of hfin.out.gb]; rfl
  have r2 : w2.frozen? ⟨G, 1, none⟩ = false := frozen_of_row w2 G 1 _ _ hfin.out.gb
  have hkt : Hid (Kt w w2) := (Kt.of_below hb1).grown H1.out.ir hg
  clear hos hg hat hb1 H1 hT1 hkr q0 HH
  go_wp2_with fail
  go_end0
  exact ⟨rfl, _, hfin.out.setIc _, BB.out.setCell hBG _, hkt.out.set hfin.out.gb (.inr rfl) _⟩

end Go.Proofs.YtheglnkndjheaaaGreatDoor.Fo

/- The specification's names of sets. -/
namespace Go.Proofs.YtheglnkndjheaaaGreatDoor.Fo
set_option linter.unusedVariables false
set_option linter.unusedSimpArgs false
open Go.RowKit

theorem Tryz.infoI64 : (Tryz.prog.info? 2).map (fun i => (i.zero, i.size, i.bytes)) = some (some (.int .i64 0), 1, 8) := by kernel_rfl

/-- A row of whole numbers that is the owner's own. -/
def OW (w : World) (B : Nat) (v : Value) (xs : List Int) : Prop := w.ownsRow B 2 1 v xs.length (xs.map (Value.int .i64))

theorem wpList_appW {w : World} {ops : Array Oper} {rest : List Oper} {o : Oper} {a : Act} {Q : Exit → Act → World → Prop} (hgd : o.guard = none) (s x : Operand)
    (ho : o.op = .call { callee := .builtin .append, args := #[s, x], argTypes := #[40, 40] })
    (B : Nat) (v : Value) (xs : List Int) (y : Int) (hs : a.eval s = v) (hown : OW w B v xs) (gx : Nat) (hx : a.eval x = .slice (some ⟨gx, 0, none⟩) 1 1)
    (h0 : w.cell? ⟨gx, 0, none⟩ = some (.int .i64 y)) (hl : xs.length ≤ 1073741824) (hB : B ≤ w.heap.size)
    (h : ∀ v' w', OW w' B v' (xs ++ [y]) → w.grownBy w' v.ownBlock → wpList Tryz.prog ops Q rest (a.put o.dst v') w') : wpList Tryz.prog ops Q (o :: rest) a w := by
  obtain ⟨i0, hi, hz0, hz1, hz2⟩ := info_parts Tryz.infoI64
  refine wpList_append_own_at w hgd s x 40 ho B 2 i0 _ 1 8 Tryz.underlying40 hi hz0 hz1 hz2 rfl (by decide) v xs.length (xs.map (Value.int .i64)) hs hown ⟨gx, 0, none⟩ 1 1 [.int .i64 y] hx rfl ?_ ?_ (by unfold maxLen; omega) (by omega) hB ?_
  · intro j u hj
    rw [Addr.add_lit]
    match j, hj with
    | 0, hj => simp at hj; subst hj; exact h0
    | j + 1, hj => simp at hj
  · intro u hu
    simp at hu
    subst hu
    rfl
  · intro v' w' ho' hg _ _
    refine h v' w' ?_ hg
    unfold OW
    rw [List.map_append, List.length_append]
    exact ho'

theorem OW.put {w : World} {B g cap n i : Nat} {xs : List Int} (h : OW w B (.slice (some ⟨g, 0, none⟩) n cap) xs) (x : Int) : OW (w.setCell ⟨g, i, none⟩ (.int .i64 x)) B (.slice (some ⟨g, 0, none⟩) n cap) (xs.set i x) := by
  obtain ⟨h1, h2⟩ := h
  rcases h2 with ⟨h0, -⟩ | ⟨g', cap', cur, e, hB, hh, h3, h4, h5, h6⟩
  · cases h0
  · cases e
    refine ⟨by simp, .inr ⟨g, cap, cur.setIfInBounds i (.int .i64 x), by simp, hB, heap_setCell_same w g i _ _ _ hh, by simpa using h3, h4, by simpa using h5, ?_⟩⟩
    have h6' : cur.toList.take xs.length = xs.map (Value.int .i64) := by simpa using h6
    simp only [List.length_set, Nat.mul_one, Array.toList_setIfInBounds, List.map_set]
    rw [List.take_set, h6']

theorem OW.cell {w : World} {B g cap n : Nat} {xs : List Int} (h : OW w B (.slice (some ⟨g, 0, none⟩) n cap) xs) {i : Nat} {x : Int} (hi : xs[i]? = some x) : w.cell? ⟨g, i, none⟩ = some (.int .i64 x) ∧ w.frozen? ⟨g, i, none⟩ = false := by
  have hcells := World.ownsRow.cells h (g := g) rfl i (.int .i64 x) (by rw [List.getElem?_map, hi]; rfl)
  rw [Addr.add_lit] at hcells
  obtain ⟨h1, h2⟩ := h
  rcases h2 with ⟨h0, -⟩ | ⟨g', cap', cur, e, hB, hh, -⟩
  · cases h0
  · cases e
    exact ⟨by simpa using hcells, frozen_of_row w g i _ _ hh⟩

/-- The names of the first n nodes. -/
def lv (n : Nat) (L : Nat → Nat) : List Int := (List.range n).map (fun i => (L i : Int))
theorem lv_len (n : Nat) (L : Nat → Nat) : (lv n L).length = n := by simp [lv]
theorem lv_get {n : Nat} {L : Nat → Nat} {i : Nat} (h : i < n) : (lv n L)[i]? = some (L i : Int) := by simp [lv, h]

/-- .. of which the first k are merged. -/
def mk (L : Nat → Nat) (x y k : Nat) : Nat → Nat := fun i => if i < k ∧ L i = y then x else L i
theorem mk_zero (L : Nat → Nat) (x y : Nat) : mk L x y 0 = L := by funext i; simp [mk]
theorem mk_ge {L : Nat → Nat} {x y k i : Nat} (h : k ≤ i) : mk L x y k i = L i := by simp [mk]; omega
theorem mk_set {n : Nat} {L : Nat → Nat} {x y k : Nat} (hk : k < n) (hy : L k = y) : (lv n (mk L x y k)).set k (x : Int) = lv n (mk L x y (k + 1)) := by
  apply List.ext_getElem?
  intro i
  rw [List.getElem?_set]
  by_cases e : k = i
  · subst e
    rw [if_pos rfl, if_pos (by rw [lv_len]; exact hk), lv_get hk]
    simp [mk, hy]
  · rw [if_neg e]
    by_cases hi : i < n
    · rw [lv_get hi, lv_get hi]
      have : (i < k ∧ L i = y) ↔ (i < k + 1 ∧ L i = y) := by omega
      simp [mk, this]
    · simp [lv, hi]
theorem mk_same {n : Nat} {L : Nat → Nat} {x y k : Nat} (hy : L k ≠ y) : lv n (mk L x y k) = lv n (mk L x y (k + 1)) := by
  unfold lv
  congr 1
  funext i
  by_cases e : i = k
  · subst e; simp [mk, hy]
  · have : (i < k ∧ L i = y) ↔ (i < k + 1 ∧ L i = y) := by omega
    simp [mk, this]
theorem mk_all {n : Nat} {L : Nat → Nat} {a b : Nat} : lv n (mk L (min (L a) (L b)) (max (L a) (L b)) n) = lv n (mrg L a b) := by
  unfold lv
  apply List.map_congr_left
  intro i hi
  have := List.mem_range.1 hi
  simp [mk, mrg, this]

set_option maxHeartbeats 1000000 in
theorem l7Merge_any (g cap B n : Nat) (L : Nat → Nat) (a b : Nat) (w : World) (ho : OW w B (.slice (some ⟨g, 0, none⟩) n cap) (lv n L)) (ha : a < n) (hb : b < n) (hn : n ≤ 1048576) (hL : ∀ i, i < n → L i < n) :
    Calls Tryz.prog 29 #[.slice (some ⟨g, 0, none⟩) n cap, .int .i64 (a : Int), .int .i64 (b : Int)] w fun e w' => e = .returned (.tuple #[]) ∧ OW w' B (.slice (some ⟨g, 0, none⟩) n cap) (lv n (mrg L a b)) ∧ w.grownBy w' (some g) := by
  obtain ⟨qa, -⟩ := ho.cell (lv_get ha)
  obtain ⟨qb, -⟩ := ho.cell (lv_get hb)
  have h1 := hL a ha
  have h2 := hL b hb
  have i0 : (a : Int) < (n : Int) := by omega
  have i1 : (b : Int) < (n : Int) := by omega
  have HO := kide ho
  have HM := kide (mk_all (n := n) (L := L) (a := a) (b := b))
  have HLL := kide hL
  clear ho hL
  obtain ⟨va, hva⟩ : ∃ va, L a = va := ⟨_, rfl⟩
  obtain ⟨vb, hvb⟩ : ∃ vb, L b = vb := ⟨_, rfl⟩
  rw [hva] at qa h1 HM
  rw [hvb] at qb h2 HM
  clear hva hvb
  rcases Nat.lt_trichotomy va vb with hc | hc | hc
  · rw [Nat.min_eq_left (by omega), Nat.max_eq_right (by omega)] at HM
    have hc' : (va : Int) < (vb : Int) := by omega
    have hc2 : ¬ (vb : Int) < (va : Int) := by omega
    clear hc
    go_enter Tryz.func29, Tryz.ntmps29
    go_wp2_with fail
    go_quiet (fail)
    have qa2 : (w.drewN nq).cell? ⟨g, a, none⟩ = some (.int .i64 (va : Int)) := qa
    have qb2 : (w.drewN nq).cell? ⟨g, b, none⟩ = some (.int .i64 (vb : Int)) := qb
    have HO1 : Hid (OW (w.drewN nq) B (.slice (some ⟨g, 0, none⟩) n cap) (lv n L)) := HO.out
    have HG1 : Hid (w.grownBy (w.drewN nq) (some g)) := ⟨rfl, rfl, rfl, Nat.le_refl _, fun _ _ _ => rfl⟩
    generalize w.drewN nq = w1 at *
    go_wp2_with fail
    go_quiet (fail)
    have HO2 : Hid (OW (w1.drewN nq) B (.slice (some ⟨g, 0, none⟩) n cap) (lv n L)) := HO1.out
    have HG2 : Hid (w.grownBy (w1.drewN nq) (some g)) := ⟨HG1.out.os, HG1.out.tape, HG1.out.output, HG1.out.size, HG1.out.block⟩
    generalize w1.drewN nq = w2 at *
    go_wp2_with fail
    clear qa qb qa2 qb2 HO HO1 HG1
    go_loopw [8] (fun q wr => ∃ k : Nat, k ≤ n ∧ q = .int .i64 (k : Int) ∧ OW wr B (.slice (some ⟨g, 0, none⟩) n cap) (lv n (mk L va vb k)) ∧ w.grownBy wr (some g)) (fun q _ => n - (intOf q).toNat)
    case atStart => exact ⟨0, Nat.zero_le _, rfl, by rw [mk_zero]; exact HO2.out, HG2.out⟩
    case round =>
      obtain ⟨k, hk, rfl, hown, hgr⟩ := hrel
      have HO := kide hown
      have HG := kide hgr
      clear hown hgr HO2 HG2
      by_cases hlt : k < n
      · have j0 : (k : Int) < (n : Int) := by omega
        obtain ⟨q0, f0⟩ := HO.out.cell (lv_get (L := mk L va vb k) hlt)
        rw [mk_ge (Nat.le_refl k)] at q0
        obtain ⟨z, hz⟩ : ∃ z, L k = z := ⟨_, rfl⟩
        rw [hz] at q0
        by_cases hy : z = vb
        · have HS := kide (mk_set (x := va) hlt (hz.trans hy))
          subst hy
          have he : ((z : Int) == (z : Int)) = true := by simp
          clear hz
          go_wp2_with fail
          go_roundw
          case rel => exact ⟨k + 1, by omega, by go_num, by rw [← HS.out]; exact HO.out.put _, ⟨HG.out.os, HG.out.tape, HG.out.output, by simpa using HG.out.size, fun q hq hne => by rw [heap_setCell_other _ _ _ _ (fun e => hne (by rw [e]))]; exact HG.out.block q hq hne⟩⟩
          case measure => simp [intOf]; omega
        · have HS := kide (mk_same (n := n) (x := va) (y := vb) (k := k) (L := L) (by rw [hz]; exact hy))
          have he : ((z : Int) == (vb : Int)) = false := by simp; omega
          clear hz hy
          go_wp2_with fail
          go_roundw
          case rel => exact ⟨k + 1, by omega, by go_num, by rw [← HS.out]; exact HO.out, HG.out⟩
          case measure => simp [intOf]; omega
      · have e : k = n := by omega
        subst e
        rw [HM.out] at HO
        go_wp2_with fail
        go_end0
        exact ⟨rfl, HO.out, HG.out⟩
  · subst hc
    rw [Nat.min_self, Nat.max_self] at HM
    have hc2 : ¬ (va : Int) < (va : Int) := by omega
    go_enter Tryz.func29, Tryz.ntmps29
    go_wp2_with fail
    go_quiet (fail)
    have qa2 : (w.drewN nq).cell? ⟨g, a, none⟩ = some (.int .i64 (va : Int)) := qa
    have qb2 : (w.drewN nq).cell? ⟨g, b, none⟩ = some (.int .i64 (va : Int)) := qb
    have HO1 : Hid (OW (w.drewN nq) B (.slice (some ⟨g, 0, none⟩) n cap) (lv n L)) := HO.out
    have HG1 : Hid (w.grownBy (w.drewN nq) (some g)) := ⟨rfl, rfl, rfl, Nat.le_refl _, fun _ _ _ => rfl⟩
    generalize w.drewN nq = w1 at *
    go_wp2_with fail
    go_quiet (fail)
    have HO2 : Hid (OW (w1.drewN nq) B (.slice (some ⟨g, 0, none⟩) n cap) (lv n L)) := HO1.out
    have HG2 : Hid (w.grownBy (w1.drewN nq) (some g)) := ⟨HG1.out.os, HG1.out.tape, HG1.out.output, HG1.out.size, HG1.out.block⟩
    generalize w1.drewN nq = w2 at *
    go_wp2_with fail
    clear qa qb qa2 qb2 HO HO1 HG1
    go_loopw [8] (fun q wr => ∃ k : Nat, k ≤ n ∧ q = .int .i64 (k : Int) ∧ OW wr B (.slice (some ⟨g, 0, none⟩) n cap) (lv n (mk L va va k)) ∧ w.grownBy wr (some g)) (fun q _ => n - (intOf q).toNat)
    case atStart => exact ⟨0, Nat.zero_le _, rfl, by rw [mk_zero]; exact HO2.out, HG2.out⟩
    case round =>
      obtain ⟨k, hk, rfl, hown, hgr⟩ := hrel
      have HO := kide hown
      have HG := kide hgr
      clear hown hgr HO2 HG2
      by_cases hlt : k < n
      · have j0 : (k : Int) < (n : Int) := by omega
        obtain ⟨q0, f0⟩ := HO.out.cell (lv_get (L := mk L va va k) hlt)
        rw [mk_ge (Nat.le_refl k)] at q0
        obtain ⟨z, hz⟩ : ∃ z, L k = z := ⟨_, rfl⟩
        rw [hz] at q0
        by_cases hy : z = va
        · have HS := kide (mk_set (x := va) hlt (hz.trans hy))
          subst hy
          have he : ((z : Int) == (z : Int)) = true := by simp
          clear hz
          go_wp2_with fail
          go_roundw
          case rel => exact ⟨k + 1, by omega, by go_num, by rw [← HS.out]; exact HO.out.put _, ⟨HG.out.os, HG.out.tape, HG.out.output, by simpa using HG.out.size, fun q hq hne => by rw [heap_setCell_other _ _ _ _ (fun e => hne (by rw [e]))]; exact HG.out.block q hq hne⟩⟩
          case measure => simp [intOf]; omega
        · have HS := kide (mk_same (n := n) (x := va) (y := va) (k := k) (L := L) (by rw [hz]; exact hy))
          have he : ((z : Int) == (va : Int)) = false := by simp; omega
          clear hz hy
          go_wp2_with fail
          go_roundw
          case rel => exact ⟨k + 1, by omega, by go_num, by rw [← HS.out]; exact HO.out, HG.out⟩
          case measure => simp [intOf]; omega
      · have e : k = n := by omega
        subst e
        rw [HM.out] at HO
        go_wp2_with fail
        go_end0
        exact ⟨rfl, HO.out, HG.out⟩
  · rw [Nat.min_eq_right (by omega), Nat.max_eq_left (by omega)] at HM
    have hc' : (vb : Int) < (va : Int) := by omega
    have hc2 : ¬ (va : Int) < (vb : Int) := by omega
    clear hc
    go_enter Tryz.func29, Tryz.ntmps29
    go_wp2_with fail
    go_quiet (fail)
    have qa2 : (w.drewN nq).cell? ⟨g, a, none⟩ = some (.int .i64 (va : Int)) := qa
    have qb2 : (w.drewN nq).cell? ⟨g, b, none⟩ = some (.int .i64 (vb : Int)) := qb
    have HO1 : Hid (OW (w.drewN nq) B (.slice (some ⟨g, 0, none⟩) n cap) (lv n L)) := HO.out
    have HG1 : Hid (w.grownBy (w.drewN nq) (some g)) := ⟨rfl, rfl, rfl, Nat.le_refl _, fun _ _ _ => rfl⟩
    generalize w.drewN nq = w1 at *
    go_wp2_with fail
    go_quiet (fail)
    have HO2 : Hid (OW (w1.drewN nq) B (.slice (some ⟨g, 0, none⟩) n cap) (lv n L)) := HO1.out
    have HG2 : Hid (w.grownBy (w1.drewN nq) (some g)) := ⟨HG1.out.os, HG1.out.tape, HG1.out.output, HG1.out.size, HG1.out.block⟩
    generalize w1.drewN nq = w2 at *
    go_wp2_with fail
    clear qa qb qa2 qb2 HO HO1 HG1
    go_loopw [8] (fun q wr => ∃ k : Nat, k ≤ n ∧ q = .int .i64 (k : Int) ∧ OW wr B (.slice (some ⟨g, 0, none⟩) n cap) (lv n (mk L vb va k)) ∧ w.grownBy wr (some g)) (fun q _ => n - (intOf q).toNat)
    case atStart => exact ⟨0, Nat.zero_le _, rfl, by rw [mk_zero]; exact HO2.out, HG2.out⟩
    case round =>
      obtain ⟨k, hk, rfl, hown, hgr⟩ := hrel
      have HO := kide hown
      have HG := kide hgr
      clear hown hgr HO2 HG2
      by_cases hlt : k < n
      · have j0 : (k : Int) < (n : Int) := by omega
        obtain ⟨q0, f0⟩ := HO.out.cell (lv_get (L := mk L vb va k) hlt)
        rw [mk_ge (Nat.le_refl k)] at q0
        obtain ⟨z, hz⟩ : ∃ z, L k = z := ⟨_, rfl⟩
        rw [hz] at q0
        by_cases hy : z = va
        · have HS := kide (mk_set (x := vb) hlt (hz.trans hy))
          subst hy
          have he : ((z : Int) == (z : Int)) = true := by simp
          clear hz
          go_wp2_with fail
          go_roundw
          case rel => exact ⟨k + 1, by omega, by go_num, by rw [← HS.out]; exact HO.out.put _, ⟨HG.out.os, HG.out.tape, HG.out.output, by simpa using HG.out.size, fun q hq hne => by rw [heap_setCell_other _ _ _ _ (fun e => hne (by rw [e]))]; exact HG.out.block q hq hne⟩⟩
          case measure => simp [intOf]; omega
        · have HS := kide (mk_same (n := n) (x := vb) (y := va) (k := k) (L := L) (by rw [hz]; exact hy))
          have he : ((z : Int) == (va : Int)) = false := by simp; omega
          clear hz hy
          go_wp2_with fail
          go_roundw
          case rel => exact ⟨k + 1, by omega, by go_num, by rw [← HS.out]; exact HO.out, HG.out⟩
          case measure => simp [intOf]; omega
      · have e : k = n := by omega
        subst e
        rw [HM.out] at HO
        go_wp2_with fail
        go_end0
        exact ⟨rfl, HO.out, HG.out⟩

end Go.Proofs.YtheglnkndjheaaaGreatDoor.Fo

/- Sets of nodes by their names; rows of rows of numbers that are the owner's own. -/
namespace Go.Proofs.YtheglnkndjheaaaGreatDoor.Fo
set_option linter.unusedVariables false
set_option linter.unusedSimpArgs false
open Go.RowKit

theorem grow_set {w wr : World} {g : Nat} (h : w.grownBy wr (some g)) (i : Nat) (v : Value) : w.grownBy (wr.setCell ⟨g, i, none⟩ v) (some g) :=
  ⟨h.os, h.tape, h.output, by simpa using h.size, fun k hk hne => by rw [heap_setCell_other wr ⟨g, i, none⟩ k v (fun e => hne (by simp [e]))]; exact h.block k hk hne⟩

/-- Outside of the blocks B1 .. B2 - 1 nothing has turned. -/
def Out (B1 B2 : Nat) (w w' : World) : Prop := w'.os = w.os ∧ w'.tape = w.tape ∧ w'.output = w.output ∧ w.heap.size ≤ w'.heap.size ∧ ∀ k, k < w.heap.size → (k < B1 ∨ B2 ≤ k) → w'.heap[k]? = w.heap[k]?
theorem Out.refl (B1 B2 : Nat) (w : World) : Out B1 B2 w w := ⟨rfl, rfl, rfl, Nat.le_refl _, fun _ _ _ => rfl⟩
theorem Out.trans {B1 B2 : Nat} {w w1 w2 : World} (h : Out B1 B2 w w1) (h' : Out B1 B2 w1 w2) : Out B1 B2 w w2 :=
  ⟨h'.1.trans h.1, h'.2.1.trans h.2.1, h'.2.2.1.trans h.2.2.1, Nat.le_trans h.2.2.2.1 h'.2.2.2.1, fun k hk ho => (h'.2.2.2.2 k (Nat.lt_of_lt_of_le hk h.2.2.2.1) ho).trans (h.2.2.2.2 k hk ho)⟩
theorem Out.grown {B1 B2 g : Nat} {w w' : World} (h : w.grownBy w' (some g)) (h1 : B1 ≤ g) (h2 : g < B2) : Out B1 B2 w w' :=
  ⟨h.os, h.tape, h.output, h.size, fun k hk ho => h.block k hk (fun e => by cases e; omega)⟩
theorem Out.below {B1 B2 : Nat} {w w' : World} (h : Below w.heap.size w w') : Out B1 B2 w w' := ⟨h.os, h.tape, h.output, h.size, fun k hk _ => h.block k hk⟩
theorem Out.cell {B1 B2 : Nat} {w w' : World} (h : Out B1 B2 w w') {b o : Nat} (hb : b < w.heap.size) (ho : b < B1 ∨ B2 ≤ b) : w'.cell? ⟨b, o, none⟩ = w.cell? ⟨b, o, none⟩ := World.cell?_of_block (w := w) (a := ⟨b, o, none⟩) (h.2.2.2.2 b hb ho)

/-- The first j nodes whose name is k. -/
def setR (L : Nat → Nat) (k : Nat) : Nat → List Int
  | 0 => []
  | j + 1 => setR L k j ++ (if L j = k then [(j : Int)] else [])

/-- The sets of at least two, of the first m names. -/
def grpR (L : Nat → Nat) (n : Nat) : Nat → List (List Int)
  | 0 => []
  | k + 1 => grpR L n k ++ (if 1 < (setR L k n).length then [setR L k n] else [])

theorem setR_len (L : Nat → Nat) (k : Nat) : ∀ j, (setR L k j).length ≤ j
  | 0 => Nat.le_refl _
  | j + 1 => by
    have := setR_len L k j
    unfold setR
    split <;> simp <;> omega

theorem setR_in (L : Nat → Nat) (k : Nat) : ∀ j, ∀ x ∈ setR L k j, 0 ≤ x ∧ x < (j : Int)
  | 0, x, h => by simp [setR] at h
  | j + 1, x, h => by
    unfold setR at h
    rcases List.mem_append.1 h with h | h
    · have := setR_in L k j x h; omega
    · split at h
      · simp at h; omega
      · simp at h

theorem setR_none {L : Nat → Nat} {k : Nat} : ∀ j, (∀ b, b < j → L b ≠ k) → setR L k j = []
  | 0, _ => rfl
  | j + 1, h => by
    unfold setR
    rw [setR_none j (fun b hb => h b (by omega)), if_neg (h j (by omega))]
    rfl

theorem setR_yes {L : Nat → Nat} {k j : Nat} (h : L j = k) : setR L k (j + 1) = setR L k j ++ [(j : Int)] := by
  rw [setR, if_pos h]
theorem setR_no {L : Nat → Nat} {k j : Nat} (h : L j ≠ k) : setR L k (j + 1) = setR L k j := by
  rw [setR, if_neg h]; simp

theorem grpR_len (L : Nat → Nat) (n : Nat) : ∀ m, (grpR L n m).length ≤ m
  | 0 => Nat.le_refl _
  | m + 1 => by
    have := grpR_len L n m
    unfold grpR
    split <;> simp <;> omega

theorem grpR_in (L : Nat → Nat) (n : Nat) : ∀ m, ∀ xs ∈ grpR L n m, xs.length ≤ n ∧ ∀ x ∈ xs, 0 ≤ x ∧ x < (n : Int)
  | 0, xs, h => by simp [grpR] at h
  | m + 1, xs, h => by
    unfold grpR at h
    rcases List.mem_append.1 h with h | h
    · exact grpR_in L n m xs h
    · split at h
      · simp at h
        subst h
        exact ⟨setR_len L m n, setR_in L m n⟩
      · simp at h

theorem grpR_yes {L : Nat → Nat} {n k : Nat} (h : 1 < (setR L k n).length) : grpR L n (k + 1) = grpR L n k ++ [setR L k n] := by
  rw [grpR, if_pos h]
theorem grpR_no {L : Nat → Nat} {n k : Nat} (h : ¬ 1 < (setR L k n).length) : grpR L n (k + 1) = grpR L n k := by
  rw [grpR, if_neg h]; simp

/-- Names are not greater than those that bear them. -/
theorem goF_le {n : Nat} : ∀ {L L' : Nat → Nat} {ls : List Lk}, (∀ i, i < n → L i ≤ i) → goF n L ls = some L' → ∀ i, i < n → L' i ≤ i
  | L, L', [], h, e => by simp only [goF, Option.some.injEq] at e; subst e; exact h
  | L, L', l :: t, h, e => by
    rw [goF] at e
    split at e
    · refine goF_le (fun i hi => ?_) e
      have := h i hi
      unfold mrg
      split <;> omega
    · cases e

/-- Rows of numbers, each its own, no two of them in one block. -/
structure Rws (w : World) (B : Nat) (vs : List Value) (xss : List (List Int)) : Prop where
  len : vs.length = xss.length
  own : ∀ (i : Nat) (v : Value) (xs : List Int), vs[i]? = some v → xss[i]? = some xs → OW w B v xs
  dj : ∀ (i j : Nat) (v v' : Value), vs[i]? = some v → vs[j]? = some v' → i ≠ j → ∀ b, v.ownBlock = some b → v'.ownBlock ≠ some b

theorem Rws.nil (w : World) (B : Nat) : Rws w B [] [] := ⟨rfl, fun i v xs h => by simp at h, fun i j v v' h => by simp at h⟩

theorem Rws.later {w w' : World} {B : Nat} {vs : List Value} {xss : List (List Int)} (h : Rws w B vs xss) (hb : Below w.heap.size w w') : Rws w' B vs xss :=
  ⟨h.len, fun i v xs h1 h2 => own_later (h.own i v xs h1 h2) hb, h.dj⟩

/-- A row of another type has grown. -/
theorem Rws.grown {w w' : World} {B B' n : Nat} {vs : List Value} {xss : List (List Int)} {v0 : Value} {cs : List Value} {e : TypeId} (h : Rws w B vs xss) (ho : w.ownsRow B' e 1 v0 n cs) (he : e ≠ 2) (hg : w.grownBy w' v0.ownBlock) : Rws w' B vs xss :=
  ⟨h.len, fun i v xs h1 h2 => own_kept (h.own i v xs h1 h2) hg (fun b hb e' => by
    rcases (h.own i v xs h1 h2).2 with ⟨rfl, -⟩ | ⟨g, cap, cur, rfl, -, hh, -⟩
    · cases hb
    · cases hb
      exact own_typed ho hh (Ne.symm he) e'.symm), h.dj⟩

/-- A cell of a block of another type is written. -/
theorem Rws.set {w : World} {B b o : Nat} {vs : List Value} {xss : List (List Int)} {cs : Array Value} {t : TypeId} {fr : Nat × Nat} (h : Rws w B vs xss) (hb : w.heap[b]? = some (.cells cs t fr)) (ht : t ≠ 2) (x : Value) : Rws (w.setCell ⟨b, o, none⟩ x) B vs xss :=
  ⟨h.len, fun i v xs h1 h2 => own_set (h.own i v xs h1 h2) hb ht x, h.dj⟩

/-- One row more has come, of a block that none of them has. -/
theorem Rws.push {w : World} {B : Nat} {vs : List Value} {xss : List (List Int)} {v : Value} {xs : List Int} (h : Rws w B vs xss) (ho : OW w B v xs) (hd : ∀ (i : Nat) (u : Value), vs[i]? = some u → ∀ b, u.ownBlock = some b → v.ownBlock ≠ some b) : Rws w B (vs ++ [v]) (xss ++ [xs]) := by
  have hl := h.len
  have last : ∀ {α : Type} {l : List α} {x y : α} {i : Nat}, (l ++ [x])[i]? = some y → i < l.length ∧ l[i]? = some y ∨ i = l.length ∧ y = x := by
    intro α l x y i hi
    by_cases h1 : i < l.length
    · rw [List.getElem?_append_left h1] at hi; exact .inl ⟨h1, hi⟩
    · rw [List.getElem?_append_right (by omega)] at hi
      have h2 : i - l.length = 0 := by
        have := (List.getElem?_eq_some_iff.1 hi).1
        simp at this; omega
      rw [h2] at hi
      simp at hi
      exact .inr ⟨by omega, hi.symm⟩
  refine ⟨by simp [hl], fun i u ys h1 h2 => ?_, fun i j u u' h1 h2 hne b hb hb' => ?_⟩
  · rcases last h1 with ⟨a1, a2⟩ | ⟨a1, rfl⟩
    · rcases last h2 with ⟨c1, c2⟩ | ⟨c1, rfl⟩
      · exact h.own i u ys a2 c2
      · omega
    · rcases last h2 with ⟨c1, c2⟩ | ⟨c1, rfl⟩
      · omega
      · exact ho
  · rcases last h1 with ⟨a1, a2⟩ | ⟨a1, rfl⟩
    · rcases last h2 with ⟨c1, c2⟩ | ⟨c1, rfl⟩
      · exact h.dj i j u u' a2 c2 hne b hb hb'
      · exact hd i u a2 b hb hb'
    · rcases last h2 with ⟨c1, c2⟩ | ⟨c1, rfl⟩
      · exact hd j u' c2 b hb' hb
      · omega

/-- The sets under way: a row of n rows, the row of k the nodes of that name. -/
structure Sets (w : World) (B g n : Nat) (f : Nat → Value) (xs : Nat → List Int) : Prop where
  lo : B ≤ g
  row : w.rowIs g 40 n f
  own : ∀ i, i < n → OW w B (f i) (xs i)
  dj : ∀ i j, i < n → j < n → i ≠ j → ∀ b, (f i).ownBlock = some b → (f j).ownBlock ≠ some b

theorem Sets.later {w w' : World} {B g n : Nat} {f : Nat → Value} {xs : Nat → List Int} (h : Sets w B g n f xs) (hb : Below w.heap.size w w') : Sets w' B g n f xs :=
  ⟨h.lo, World.rowIs.of_block h.row (hb.block g (by obtain ⟨cc, hh, -⟩ := h.row; exact lt_of_block hh)), fun i hi => own_later (h.own i hi) hb, h.dj⟩

theorem Sets.step {w w' : World} {B g n k : Nat} {f : Nat → Value} {xs : Nat → List Int} (h : Sets w B g n f xs) (hk : k < n) {v : Value} {ys : List Int} (ho : OW w' B v ys) (hg : w.grownBy w' (f k).ownBlock) (hat : v.ownBlock = (f k).ownBlock ∨ v.ownBlock = some w.heap.size) :
    Sets (w'.setCell ⟨g, k, none⟩ v) B g n (fun i => if i = k then v else f i) (fun i => if i = k then ys else xs i) := by
  obtain ⟨cc, hh, hrest⟩ := h.row
  have hne : some g ≠ (f k).ownBlock := own_typed (h.own k hk) hh (by decide)
  have hh' : w'.heap[g]? = some (.cells cc 40 (0, 0)) := by rw [hg.block g (lt_of_block hh) hne]; exact hh
  have hr' : w'.rowIs g 40 n f := ⟨cc, hh', hrest⟩
  refine ⟨h.lo, World.rowIs.set hr' k v, fun i hi => ?_, fun i j hi hj hij b hb hb' => ?_⟩
  · show OW _ B (if i = k then v else f i) (if i = k then ys else xs i)
    by_cases e : i = k
    · rw [if_pos e, if_pos e]; exact own_set ho hh' (by decide) v
    · rw [if_neg e, if_neg e]
      exact own_set (own_kept (h.own i hi) hg (fun b hb e' => h.dj i k hi hk e b hb e')) hh' (by decide) v
  · replace hb : (if i = k then v else f i).ownBlock = some b := hb
    replace hb' : (if j = k then v else f j).ownBlock = some b := hb'
    by_cases e : i = k
    · subst e
      rw [if_pos rfl] at hb
      rw [if_neg (Ne.symm hij)] at hb'
      rcases hat with e' | e'
      · rw [e'] at hb; exact h.dj i j hi hj hij b hb hb'
      · rw [hb] at e'
        cases e'
        have := (own_lt (h.own j hj) hb').2
        omega
    · rw [if_neg e] at hb
      by_cases e2 : j = k
      · subst e2
        rw [if_pos rfl] at hb'
        rcases hat with e' | e'
        · rw [e'] at hb'; exact h.dj i j hi hj hij b hb hb'
        · rw [hb'] at e'
          cases e'
          have := (own_lt (h.own i hi) hb).2
          omega
      · rw [if_neg e2] at hb'
        exact h.dj i j hi hj hij b hb hb'

end Go.Proofs.YtheglnkndjheaaaGreatDoor.Fo
