/- Several texts in one. -/
import Derived.Test.YtdlmgndmfphneaaGreatDoorZGAC
import Derived.Test.YtdlmgndmfphneaaGreatDoorZGAB
import Derived.Test.YtdlmgndmfphneaaGreatDoorZGAD
import Derived.Deep.AppendLies
import Derived.Test.YtdlmgndmfphneaaGreatDoorZGAM
import Derived.Deep.RegionHeld3

/- Contracts of the laws' own small functions on rows of words: how long, copied, compared. -/
namespace Go.Proofs.YtdlmgndmfphneaaGreatDoor
set_option linter.unusedVariables false
set_option linter.unusedSimpArgs false
open Go.RowKit

/-- A word as it lies: its width, where its bits lie, how many rows of 64 there are. -/
structure Bh where
  wd : Int
  a : Option Addr
  n : Nat
  c : Nat

def RdBh (w : World) (a : Option Addr) (hs : List Bh) : Prop :=
  hs.length ≤ 1048576 ∧ (hs = [] ∨ ∃ b o, a = some ⟨b, o, none⟩ ∧ ∀ i h, hs[i]? = some h → w.cell? ⟨b, o + i * 2, none⟩ = some (.int .i64 h.wd) ∧ w.cell? ⟨b, o + i * 2 + 1, none⟩ = some (.slice h.a h.n h.c) ∧ h.n ≤ 9223372036854775807)

theorem RdBh.later {w w' : World} {a : Option Addr} {hs : List Bh} (h : RdBh w a hs) (hb : Below w.heap.size w w') : RdBh w' a hs := by
  refine ⟨h.1, ?_⟩
  rcases h.2 with h | ⟨b, o, rfl, hc⟩
  · exact .inl h
  · refine .inr ⟨b, o, rfl, fun i x hi => ?_⟩
    obtain ⟨f0, f1, f2⟩ := hc i x hi
    exact ⟨by rw [kcell hb _ _ (block_lt_of_cell f0)]; exact f0, by rw [kcell hb _ _ (block_lt_of_cell f1)]; exact f1, f2⟩

/-- What is left of L behind the rows of some words; -1: nothing. -/
def szBl : List Bh → Int → Int
  | [], L => L
  | h :: t, L => if (h.n : Int) ≤ L then szBl t (L - h.n) else -1

theorem szBl_range (hs : List Bh) (L : Int) (hL : 0 ≤ L) : szBl hs L = -1 ∨ 0 ≤ szBl hs L ∧ szBl hs L ≤ L ∧ ∀ h ∈ hs, (h.n : Int) ≤ L := by
  induction hs generalizing L with
  | nil => right; simp [szBl]; exact hL
  | cons h t ih =>
    rw [szBl]
    split
    · rename_i hc
      rcases ih (L - h.n) (by omega) with e | ⟨e1, e2, e3⟩
      · left; exact e
      · right
        refine ⟨e1, by omega, fun x hx => ?_⟩
        rcases List.mem_cons.1 hx with rfl | hx
        · exact hc
        · have := e3 x hx; omega
    · left; rfl



/-- A word: its width, where its bits lie, its bits. -/
structure Bw where
  wd : Int
  a : Option Addr
  c : Nat
  ws : List Nat

def Bw.ct (x : Bw) : Int × List Nat := (x.wd, x.ws)

def BwAt (w : World) (b o : Nat) (x : Bw) : Prop :=
  w.cell? ⟨b, o, none⟩ = some (.int .i64 x.wd) ∧ w.cell? ⟨b, o + 1, none⟩ = some (.slice x.a x.ws.length x.c) ∧ Rd w x.a x.ws ∧ in64 x.wd

theorem BwAt.later {w w' : World} {b o : Nat} {x : Bw} (h : BwAt w b o x) (hb : Below w.heap.size w w') : BwAt w' b o x := by
  obtain ⟨f0, f1, f2, f3⟩ := h
  exact ⟨by rw [kcell hb _ _ (block_lt_of_cell f0)]; exact f0, by rw [kcell hb _ _ (block_lt_of_cell f1)]; exact f1, f2.later hb, f3⟩

/-- A slice whose words are xs, wherever it lies. -/
def RdW (w : World) (a : Option Addr) (xs : List Bw) : Prop :=
  xs.length ≤ 1048576 ∧ (xs = [] ∨ ∃ b o, a = some ⟨b, o, none⟩ ∧ ∀ i n, xs[i]? = some n → BwAt w b (o + i * 2) n)

theorem RdW.later {w w' : World} {a : Option Addr} {xs : List Bw} (h : RdW w a xs) (hb : Below w.heap.size w w') : RdW w' a xs := by
  refine ⟨h.1, ?_⟩
  rcases h.2 with h | ⟨b, o, rfl, hc⟩
  · exact .inl h
  · exact .inr ⟨b, o, rfl, fun i n hi => (hc i n hi).later hb⟩


theorem Tryz.infoBits : (Tryz.prog.info? 61).map (fun i => (i.zero, i.size, i.bytes)) = some (some (.agg #[.int .i64 0, .slice none 0 0]), 2, 32) := by kernel_rfl

theorem make_words (n : Nat) (hn : n ≤ 1048576) (kl kc : IntKind) (w : World) :
    (Instr.makeSlice 120 (.int kl (n : Int)) (.int kc (n : Int))).run Tryz.prog w = .ok (.slice (some ⟨w.heap.size, 0, none⟩) n n) (w.alloc (.cells (madeCells #[.int .i64 0, .slice none 0 0] (n * 2)) 61)) := by
  obtain ⟨i0, hi, hz0, hz1, hz2⟩ := info_parts Tryz.infoBits
  have := run_make (P := Tryz.prog) w 120 61 i0 _ Tryz.underlying120 hi hz0 kl kc n n (by omega) (Int.le_refl _) (by rw [hz2]; omega) (by omega)
  rw [hz1] at this
  simp only [Int.toNat_natCast] at this
  exact this

/-- A copied word: its bits lie in a block of their own. -/
def BwOwn (w : World) (G : Nat) (f : Nat → Value) (j : Nat) (x : Bw) : Prop :=
  f (j * 2) = .int .i64 x.wd ∧ f (j * 2 + 1) = .slice x.a x.ws.length x.c ∧ ∃ g, x.a = some ⟨g, 0, none⟩ ∧ G < g ∧ Own w g x.ws

theorem BwOwn.later {w w' : World} {G j : Nat} {f : Nat → Value} {x : Bw} (h : BwOwn w G f j x) (hb : Below w.heap.size w w') : BwOwn w' G f j x := by
  obtain ⟨h0, h1, g, h2, h3, h4⟩ := h
  exact ⟨h0, h1, g, h2, h3, h4.later hb h4.lt⟩

theorem BwOwn.put {w : World} {G j k : Nat} {f : Nat → Value} {x : Bw} (h : BwOwn w G f j x) (u v : Value) (hk : j < k) :
    BwOwn ((w.setCell ⟨G, k * 2, none⟩ u).setCell ⟨G, k * 2 + 1, none⟩ v) G (fun i => if i = k * 2 + 1 then v else if i = k * 2 then u else f i) j x := by
  obtain ⟨h0, h1, g, h2, h3, h4⟩ := h
  refine ⟨?_, ?_, g, h2, h3, (h4.other (by simp; omega) _).other (by simp; omega) _⟩
  · show (if _ then _ else _) = _
    rw [if_neg (by omega), if_neg (by omega)]; exact h0
  · show (if _ then _ else _) = _
    rw [if_neg (by omega), if_neg (by omega)]; exact h1


end Go.Proofs.YtdlmgndmfphneaaGreatDoor

/- Rows of words of one's own: read, told. -/
namespace Go.Proofs.YtdlmgndmfphneaaGreatDoor
set_option linter.unusedVariables false
set_option linter.unusedSimpArgs false
open Go.RowKit

def bwc : List Bw → List Value
  | [] => []
  | x :: t => .int .i64 x.wd :: .slice x.a x.ws.length x.c :: bwc t
theorem bwc_len (l : List Bw) : (bwc l).length = l.length * 2 := by
  induction l with
  | nil => rfl
  | cons x t ih => simp [bwc, ih]; omega
theorem bwc_append (l m : List Bw) : bwc (l ++ m) = bwc l ++ bwc m := by
  induction l with
  | nil => rfl
  | cons x t ih => simp [bwc, ih]
theorem bwc_get : ∀ {l : List Bw} {i : Nat} {x : Bw}, l[i]? = some x → (bwc l)[i * 2]? = some (.int .i64 x.wd) ∧ (bwc l)[i * 2 + 1]? = some (.slice x.a x.ws.length x.c)
  | y :: t, 0, x, h => by simp at h; subst h; simp [bwc]
  | y :: t, i + 1, x, h => by
    have := bwc_get (l := t) (i := i) (x := x) (by simpa using h)
    rw [show (i + 1) * 2 = i * 2 + 1 + 1 by omega]
    simpa [bwc] using this
theorem bwc_plain (l : List Bw) : ∀ v ∈ bwc l, (∃ x, v = .int .i64 x) ∨ ∃ a n c, v = .slice a n c := by
  induction l with
  | nil => simp [bwc]
  | cons x t ih =>
    intro v hv
    simp [bwc] at hv
    rcases hv with rfl | rfl | hv
    · exact .inl ⟨_, rfl⟩
    · exact .inr ⟨_, _, _, rfl⟩
    · exact ih v hv

/-- An owned row of words. -/
def OB2 (w : World) (B : Nat) (v : Value) (l : List Bw) : Prop := w.ownsRow B 61 2 v l.length (bwc l)

theorem OB2.later {w w' : World} {B : Nat} {v : Value} {l : List Bw} (h : OB2 w B v l) (hb : Below w.heap.size w w') : OB2 w' B v l := World.ownsRow.kept (row := none) h ⟨hb.os, hb.tape, hb.output, hb.size, fun k hk _ => hb.block k hk⟩ (by
  cases h' : v.ownBlock with
  | none => exact .inl rfl
  | some k => exact .inr (by simp))
theorem OB2.lt {w : World} {B : Nat} {v : Value} {l : List Bw} (h : OB2 w B v l) {b : Nat} (hb : v.ownBlock = some b) : B ≤ b ∧ b < w.heap.size := by
  rcases h.2 with ⟨rfl, -⟩ | ⟨g, cap, cur, rfl, hg, hh, -⟩
  · cases hb
  · cases hb
    exact ⟨hg, lt_of_block hh⟩
theorem OB2.typed {w : World} {B : Nat} {v : Value} {l : List Bw} (h : OB2 w B v l) {b : Nat} (hb : v.ownBlock = some b) : ∃ cur, w.heap[b]? = some (.cells cur 61 (0, 0)) := by
  rcases h.2 with ⟨rfl, -⟩ | ⟨g, cap, cur, rfl, hg, hh, -⟩
  · cases hb
  · cases hb
    exact ⟨cur, hh⟩
theorem OB2.nil (w : World) (B : Nat) : OB2 w B (.slice none 0 0) [] := ⟨rfl, .inl ⟨rfl, rfl⟩⟩
theorem OB2.move {w w' : World} {B : Nat} {v : Value} {l : List Bw} (h : OB2 w B v l) (hk : ∀ b, v.ownBlock = some b → w'.heap[b]? = w.heap[b]?) : OB2 w' B v l := by
  refine ⟨h.1, ?_⟩
  rcases h.2 with h0 | ⟨g, cap, cur, rfl, hg, hh, r⟩
  · exact .inl h0
  · exact .inr ⟨g, cap, cur, rfl, hg, (hk g rfl).trans hh, r⟩

theorem OB2.form {w : World} {B : Nat} {v : Value} {l : List Bw} (h : OB2 w B v l) : ∃ a c, v = .slice a l.length c := by
  rcases h.2 with ⟨e, h0⟩ | ⟨g, cap, cur, e, -⟩
  · exact ⟨none, 0, by rw [e, h0]⟩
  · exact ⟨_, _, e⟩

theorem OB2.empty (w : World) (B : Nat) (h : B ≤ w.heap.size) : OB2 (w.alloc (.cells #[] 61)) B (.slice (some ⟨w.heap.size, 0, Option.none⟩) 0 0) [] := World.ownsRow_made w #[] 0 h (Nat.zero_le _) (by simp)
theorem OB2.at {w : World} {B : Nat} {v : Value} {l : List Bw} (h : OB2 w B v l) {i : Nat} {x : Bw} (hi : l[i]? = some x) : ∃ g c, v = .slice (some ⟨g, 0, none⟩) l.length c ∧ w.cell? ⟨g, i * 2, none⟩ = some (.int .i64 x.wd) ∧ w.cell? ⟨g, i * 2 + 1, none⟩ = some (.slice x.a x.ws.length x.c) := by
  have hil := (List.getElem?_eq_some_iff.1 hi).1
  rcases h.2 with ⟨-, h0⟩ | ⟨g, cap, cur, rfl, hg, hh, hc1, hc2, hsz, hcur⟩
  · omega
  · obtain ⟨e0, e1⟩ := bwc_get hi
    rw [← hcur] at e0 e1
    rw [List.getElem?_take, if_pos (by omega)] at e0 e1
    simp only [Array.getElem?_toList] at e0 e1
    exact ⟨g, cap, rfl, by rw [cell_of_row w g _ cur _ _ hh]; exact e0, by rw [cell_of_row w g _ cur _ _ hh]; exact e1⟩
/-- What can be read of it. -/
theorem OB2.rd {w : World} {B : Nat} {v : Value} {l : List Bw} (h : OB2 w B v l) (hl : l.length ≤ 1048576) (hx : ∀ x ∈ l, Rd w x.a x.ws ∧ in64 x.wd) : ∃ a c, v = .slice a l.length c ∧ RdW w a l := by
  by_cases e : l = []
  · subst e
    obtain ⟨a, c, rfl⟩ := h.form
    exact ⟨a, c, rfl, by simp, .inl rfl⟩
  · have h0 : 0 < l.length := List.length_pos_iff.2 e
    obtain ⟨g, c, rfl, -⟩ := h.at (List.getElem?_eq_getElem h0)
    refine ⟨_, c, rfl, hl, .inr ⟨g, 0, rfl, fun i x hi => ?_⟩⟩
    obtain ⟨g', c', e', h1, h2⟩ := h.at hi
    cases e'
    obtain ⟨h3, h4⟩ := hx x (List.mem_of_getElem? hi)
    exact ⟨by rw [Nat.zero_add]; exact h1, by rw [Nat.zero_add]; exact h2, h3, h4⟩

/-- 'append(list, x)' at a step of a region that draws its order; and in a row of operations. -/
theorem step_appB2 (w : World) {ops : Array Oper} {o : Oper} {a : Act} {K : Act → World → Prop} {Q : Exit → Act → World → Prop} {E : Prop} (hgd : o.guard = none) (s x : Operand)
    (ho : o.op = .call { callee := .builtin .append, args := #[s, x], argTypes := #[120, 120] })
    (B : Nat) (v : Value) (l : List Bw) (y : Bw) (hs : a.eval s = v) (hown : OB2 w B v l) (gx c : Nat) (hx : a.eval x = .slice (some ⟨gx, 0, none⟩) 1 c)
    (h0 : w.cell? ⟨gx, 0, none⟩ = some (.int .i64 y.wd)) (h1 : w.cell? ⟨gx, 1, none⟩ = some (.slice y.a y.ws.length y.c)) (hl : l.length ≤ 1073741824) (hB : B ≤ w.heap.size)
    (h : ∀ g cap w', OB2 w' B (.slice (some ⟨g, 0, none⟩) (l.length + 1) cap) (l ++ [y]) → w.grownBy w' v.ownBlock → K (a.put o.dst (.slice (some ⟨g, 0, none⟩) (l.length + 1) cap)) w') :
    if Region.wanted o (yielded ops a.tmps) = true then Oper.wp Tryz.prog o a w K Q else E := by
  obtain ⟨i0, hi, hz0, hz1, hz2⟩ := info_parts Tryz.infoBits
  refine step_append_lies w hgd s x 120 ho B 61 i0 _ 2 32 Tryz.underlying120 hi hz0 hz1 hz2 rfl (by decide) v l.length (bwc l) hs hown ⟨gx, 0, none⟩ 1 c (bwc [y]) hx rfl ?_ ?_ (by decide) ?_ ?_ hB _ rfl ?_
  · intro j u hj
    rw [Addr.add_lit]
    match j, hj with
    | 0, hj => simp [bwc] at hj; subst hj; exact h0
    | 1, hj => simp [bwc] at hj; subst hj; exact h1
    | j + 2, hj => simp [bwc] at hj
  · intro u hu
    simp [bwc] at hu
    rcases hu with rfl | rfl <;> rfl
  · unfold maxLen; omega
  · omega
  · intro g cap w' h1 h2 _ _
    refine h g cap w' ?_ h2
    unfold OB2
    rw [bwc_append, List.length_append]
    exact h1

theorem wpList_appB2 {w : World} {ops : Array Oper} {rest : List Oper} {o : Oper} {a : Act} {Q : Exit → Act → World → Prop} (hgd : o.guard = none) (s x : Operand)
    (ho : o.op = .call { callee := .builtin .append, args := #[s, x], argTypes := #[120, 120] })
    (B : Nat) (v : Value) (l : List Bw) (y : Bw) (hs : a.eval s = v) (hown : OB2 w B v l) (gx c : Nat) (hx : a.eval x = .slice (some ⟨gx, 0, none⟩) 1 c)
    (h0 : w.cell? ⟨gx, 0, none⟩ = some (.int .i64 y.wd)) (h1 : w.cell? ⟨gx, 1, none⟩ = some (.slice y.a y.ws.length y.c)) (hl : l.length ≤ 1073741824) (hB : B ≤ w.heap.size)
    (h : ∀ g cap w', OB2 w' B (.slice (some ⟨g, 0, none⟩) (l.length + 1) cap) (l ++ [y]) → w.grownBy w' v.ownBlock → wpList Tryz.prog ops Q rest (a.put o.dst (.slice (some ⟨g, 0, none⟩) (l.length + 1) cap)) w') : wpList Tryz.prog ops Q (o :: rest) a w := by
  obtain ⟨i0, hi, hz0, hz1, hz2⟩ := info_parts Tryz.infoBits
  refine wpList_append_lies w hgd s x 120 ho B 61 i0 _ 2 32 Tryz.underlying120 hi hz0 hz1 hz2 rfl (by decide) v l.length (bwc l) hs hown ⟨gx, 0, none⟩ 1 c (bwc [y]) hx rfl ?_ ?_ (by decide) ?_ ?_ hB _ rfl ?_
  · intro j u hj
    rw [Addr.add_lit]
    match j, hj with
    | 0, hj => simp [bwc] at hj; subst hj; exact h0
    | 1, hj => simp [bwc] at hj; subst hj; exact h1
    | j + 2, hj => simp [bwc] at hj
  · intro u hu
    simp [bwc] at hu
    rcases hu with rfl | rfl <;> rfl
  · unfold maxLen; omega
  · omega
  · intro g cap w' h1 h2 _ _
    refine h g cap w' ?_ h2
    unfold OB2
    rw [bwc_append, List.length_append]
    exact h1

/-- No two have a block in common. -/
def DjB (l : List Bw) : Prop := ∀ (i j : Nat) (x y : Bw), i < j → l[i]? = some x → l[j]? = some y → ∀ p q, x.a = some p → y.a = some q → p.block ≠ q.block
theorem DjB.nil : DjB [] := fun i j x y _ h => by simp at h
theorem DjB.snoc {w : World} {B : Nat} {l : List Bw} {x : Bw} (h : DjB l) (hl : ∀ y ∈ l, Nw w B y.a y.ws) (hx : ∀ p, x.a = some p → w.heap.size ≤ p.block) : DjB (l ++ [x]) := fun i j y z hij hi hj p q hp hq => by
  rw [List.getElem?_append] at hi hj
  split at hj
  · rename_i hjl
    rw [if_pos (by omega)] at hi
    exact h i j y z hij hi hj p q hp hq
  · rename_i hjl
    have hj0 : j - l.length = 0 := by have := (List.getElem?_eq_some_iff.1 hj).1; simp at this; omega
    rw [hj0] at hj
    simp at hj
    subst hj
    rw [if_pos (by omega)] at hi
    have h1 := (nw_lt (hl y (List.mem_of_getElem? hi)) hp).2
    have h2 := hx q hq
    omega
theorem DjB.set {w : World} {B k : Nat} {l : List Bw} {x : Bw} (h : DjB l) (hl : ∀ y ∈ l, Nw w B y.a y.ws) (hx : ∀ p, x.a = some p → w.heap.size ≤ p.block) : DjB (l.set k x) := fun i j y z hij hi hj p q hp hq => by
  rw [List.getElem?_set] at hi hj
  split at hi
  · split at hi
    · simp at hi
      subst hi
      split at hj
      · omega
      · have h1 := (nw_lt (hl z (List.mem_of_getElem? hj)) hq).2
        have h2 := hx p hp
        omega
    · cases hi
  · split at hj
    · split at hj
      · simp at hj
        subst hj
        have h1 := (nw_lt (hl y (List.mem_of_getElem? hi)) hp).2
        have h2 := hx q hq
        omega
      · cases hj
    · exact h i j y z hij hi hj p q hp hq

end Go.Proofs.YtdlmgndmfphneaaGreatDoor

/- What a law knows of the memory that it has made: boxes of two cells, rows of words in new blocks; how that lasts behind calls. -/
namespace Go.Proofs.YtdlmgndmfphneaaGreatDoor
set_option linter.unusedVariables false
set_option linter.unusedSimpArgs false
open Go.RowKit

theorem Ba {w wk : World} (h : Below w.heap.size w wk) (o : Obj) : Below w.heap.size w (wk.alloc o) := h.alloc h.size o

/-- The block β is a box of two cells. -/
def Blk (w : World) (β : Nat) (x y : Value) (t : TypeId) : Prop := w.heap[β]? = some (.cells #[x, y] t (0, 0))

theorem Blk.cells {w : World} {β : Nat} {x y : Value} {t : TypeId} (h : Blk w β x y t) : w.cell? ⟨β, 0, none⟩ = some x ∧ w.cell? ⟨β, 1, none⟩ = some y :=
  ⟨cell_of_row w β 0 _ _ _ h, cell_of_row w β 1 _ _ _ h⟩
theorem Blk.lt {w : World} {β : Nat} {x y : Value} {t : TypeId} (h : Blk w β x y t) : β < w.heap.size := lt_of_block h
theorem Blk.next {w w' : World} {β : Nat} {x y : Value} {t : TypeId} (h : Blk w β x y t) (hb : Below w.heap.size w w') : Blk w' β x y t := by
  unfold Blk
  rw [hb.block β h.lt]; exact h
theorem Blk.new (w : World) (x y : Value) (t : TypeId) : Blk (w.alloc (.cells #[x, y] t)) w.heap.size x y t := heap_alloc_new _ _
theorem Blk.alloc {w : World} {β : Nat} {x y : Value} {t : TypeId} (h : Blk w β x y t) (o : Obj) : Blk (w.alloc o) β x y t := h.next ((Below.refl _ _).alloc (Nat.le_refl _) _)

/-- Words in a block of their own whose number lies in lo .. hi - 1, or none at all. -/
def Fr (w : World) (lo hi : Nat) (a : Option Addr) (ys : List Nat) : Prop := (ys = [] ∧ a = none) ∨ ∃ g, a = some ⟨g, 0, none⟩ ∧ lo ≤ g ∧ g < hi ∧ Own w g ys

theorem Fresh.fr {w : World} {lo : Nat} {a : Option Addr} {ys : List Nat} (h : Fresh w lo a ys) : Fr w lo w.heap.size a ys := by
  rcases h with h | ⟨g, rfl, hg, ho⟩
  · exact .inl h
  · exact .inr ⟨g, rfl, hg, ho.lt, ho⟩
theorem Own.fr {w : World} {lo g : Nat} {ys : List Nat} (h : Own w g ys) (hg : lo ≤ g) : Fr w lo w.heap.size (some ⟨g, 0, none⟩) ys := .inr ⟨g, rfl, hg, h.lt, h⟩
theorem Fr.next {w w' : World} {lo hi : Nat} {a : Option Addr} {ys : List Nat} (h : Fr w lo hi a ys) (hb : Below w.heap.size w w') : Fr w' lo hi a ys := by
  rcases h with h | ⟨g, rfl, h1, h2, ho⟩
  · exact .inl h
  · exact .inr ⟨g, rfl, h1, h2, ho.later hb ho.lt⟩
theorem Fr.alloc {w : World} {lo hi : Nat} {a : Option Addr} {ys : List Nat} (h : Fr w lo hi a ys) (o : Obj) : Fr (w.alloc o) lo hi a ys := h.next ((Below.refl _ _).alloc (Nat.le_refl _) _)
theorem Fr.rd {w : World} {lo hi : Nat} {a : Option Addr} {ys : List Nat} (h : Fr w lo hi a ys) (hl : ys.length ≤ 1048576) (hx : ∀ x ∈ ys, x < 18446744073709551616) : Rd w a ys := by
  rcases h with ⟨rfl, rfl⟩ | ⟨g, rfl, h1, h2, ho⟩
  · exact ⟨hl, hx, .inl rfl⟩
  · exact ho.rd hl hx

/-- What marking the words at a has done to the world. -/
def Marked (w w' : World) (a : Option Addr) : Prop := w.grownBy w' (a.map Addr.block)

theorem Blk.mark {w w' : World} {β lo hi : Nat} {x y : Value} {t : TypeId} {a : Option Addr} {ys : List Nat} (h : Blk w β x y t) (hf : Fr w lo hi a ys) (hm : Marked w w' a) (ht : t ≠ 136) : Blk w' β x y t := by
  unfold Blk
  rw [World.grownBy.block hm β h.lt ?_]
  · exact h
  · rcases hf with ⟨_, rfl⟩ | ⟨g, rfl, _, _, ho⟩
    · simp
    · simp only [Option.map_some, ne_eq, Option.some.injEq]
      rintro rfl
      unfold Blk at h
      unfold Own at ho
      rw [h] at ho
      simp at ho
      exact ht ho.2

theorem Fr.mark {w w' : World} {lo hi lo' hi' : Nat} {a b : Option Addr} {ys zs : List Nat} (h : Fr w lo hi a ys) (hf : Fr w lo' hi' b zs) (hm : Marked w w' b) (hd : hi ≤ lo' ∨ hi' ≤ lo) : Fr w' lo hi a ys := by
  rcases h with h | ⟨g, rfl, h1, h2, ho⟩
  · exact .inl h
  · refine .inr ⟨g, rfl, h1, h2, ?_⟩
    unfold Own
    rw [World.grownBy.block hm g ho.lt ?_]
    · exact ho
    · rcases hf with ⟨_, rfl⟩ | ⟨g', rfl, k1, k2, _⟩
      · simp
      · simp only [Option.map_some, ne_eq, Option.some.injEq]
        omega

theorem Marked.below {w0 w w' : World} {lo hi : Nat} {a : Option Addr} {ys : List Nat} (hm : Marked w w' a) (hf : Fr w lo hi a ys) (hb : Below w0.heap.size w0 w) (hl : w0.heap.size ≤ lo) : Below w0.heap.size w0 w' := by
  refine hb.grown hm hb.size ?_
  intro k hk
  rcases hf with ⟨_, rfl⟩ | ⟨g, rfl, k1, k2, _⟩
  · simp at hk
  · simp at hk; omega
theorem Marked.size {w w' : World} {a : Option Addr} (h : Marked w w' a) : w.heap.size ≤ w'.heap.size := World.grownBy.size h



/-- Two rows of which one is the other are told to be the same. -/
theorem eqBits_same (V : Int) (a b : Option Addr) (c d : Nat) (xs : List Nat) (w : World) (hr : Rd w a xs) (hs : Rd w b xs) :
    Calls Tryz.prog 101 #[.agg #[.int .i64 V, .slice a xs.length c], .agg #[.int .i64 V, .slice b xs.length d]] w fun e w' => e = .returned (.bool true) ∧ Below w.heap.size w w' := by
  have h := eqBits_any V V a b c d xs xs w hr hs
  simpa using h

theorem RetB.fr {w w' : World} {r : Int × List Nat × Bool} {e : Ending} (h : RetB w r e w') : ∃ a c, e = .returned (.tuple #[.agg #[.int .i64 r.1, .slice a r.2.1.length c], .bool r.2.2]) ∧ Fr w' w.heap.size w'.heap.size a r.2.1 ∧ Below w.heap.size w w' := by
  obtain ⟨a, c, he, hf, hb⟩ := h
  exact ⟨a, c, he, hf.fr, hb⟩

end Go.Proofs.YtdlmgndmfphneaaGreatDoor

/- What putBits does: the words of a row are put into another one from a place on. -/
namespace Go.Proofs.YtdlmgndmfphneaaGreatDoor
set_option linter.unusedVariables false
set_option linter.unusedSimpArgs false
open Go.RowKit

def putTo (zs ys : List Nat) (f s : Nat) : Nat → List Nat
  | 0 => zs
  | k + 1 =>
    let z1 := (putTo zs ys f s k).set (f + k) ((putTo zs ys f s k).getD (f + k) 0 ||| ys.getD k 0 * 2 ^ s % 18446744073709551616)
    z1.set (f + k + 1) (z1.getD (f + k + 1) 0 ||| ys.getD k 0 / 2 ^ (64 - s))

theorem putTo_len (zs ys : List Nat) (f s k : Nat) : (putTo zs ys f s k).length = zs.length := by
  induction k with
  | zero => rfl
  | succ k ih => simp [putTo, ih]

theorem set_lt {xs : List Nat} (h : ∀ x ∈ xs, x < 18446744073709551616) (i v : Nat) (hv : v < 18446744073709551616) : ∀ x ∈ xs.set i v, x < 18446744073709551616 := by
  intro x hx
  rcases List.mem_or_eq_of_mem_set hx with h' | h'
  · exact h x h'
  · rw [h']; exact hv

theorem putTo_lt (zs ys : List Nat) (f s k : Nat) (hz : ∀ x ∈ zs, x < 18446744073709551616) (hy : ∀ x ∈ ys, x < 18446744073709551616) : ∀ x ∈ putTo zs ys f s k, x < 18446744073709551616 := by
  induction k with
  | zero => exact hz
  | succ k ih =>
    have h1 := set_lt ih (f + k) _ (Nat.or_lt_two_pow (n := 64) (getD_lt ih (f + k)) (Nat.mod_lt (ys.getD k 0 * 2 ^ s) (by decide)))
    exact set_lt h1 _ _ (Nat.or_lt_two_pow (n := 64) (getD_lt h1 _) (Nat.lt_of_le_of_lt (Nat.div_le_self _ _) (getD_lt hy k)))

theorem tb_put (zs ys : List Nat) (f s k : Nat) (hs : s < 64) (hy : ∀ x ∈ ys, x < 18446744073709551616) (hk : ∀ i, i < k → f + i < zs.length ∧ (f + i + 1 < zs.length ∨ ys.getD i 0 / 2 ^ (64 - s) = 0)) (j : Nat) :
    tb (putTo zs ys f s k) j = (tb zs j || (decide (64 * f + s ≤ j) && decide (j < 64 * f + s + 64 * k) && tb ys (j - (64 * f + s)))) := by
  induction k with
  | zero =>
    by_cases h : 64 * f + s ≤ j
    · simp [putTo, show ¬ j < 64 * f + s by omega]
    · simp [putTo, h]
  | succ k ih =>
    have ih' := ih fun i hi => hk i (by omega)
    obtain ⟨h1, h2⟩ := hk k (by omega)
    have hlen := putTo_len zs ys f s k
    have hyk := getD_lt hy k
    have key : tb (putTo zs ys f s (k + 1)) j = (tb (putTo zs ys f s k) j || (decide (j / 64 = f + k) && (ys.getD k 0 * 2 ^ s % 18446744073709551616).testBit (j % 64)) || (decide (j / 64 = f + k + 1) && (ys.getD k 0 / 2 ^ (64 - s)).testBit (j % 64))) := by
      simp only [putTo]
      have e1 : tb ((putTo zs ys f s k).set (f + k) ((putTo zs ys f s k).getD (f + k) 0 ||| ys.getD k 0 * 2 ^ s % 18446744073709551616)) j = (tb (putTo zs ys f s k) j || (decide (j / 64 = f + k) && (ys.getD k 0 * 2 ^ s % 18446744073709551616).testBit (j % 64))) := by
        rw [tb_set _ _ _ _ (by omega)]
        by_cases h : j / 64 = f + k
        · rw [if_pos h, Nat.testBit_or]; unfold tb; rw [h]; simp
        · rw [if_neg h]; simp [h]
      rcases h2 with h2 | h2
      · rw [tb_set _ _ _ _ (by simp; omega)]
        by_cases h : j / 64 = f + k + 1
        · rw [if_pos h, Nat.testBit_or, ← e1]
          have : ((List.set (putTo zs ys f s k) (f + k) ((putTo zs ys f s k).getD (f + k) 0 ||| ys.getD k 0 * 2 ^ s % 18446744073709551616)).getD (f + k + 1) 0).testBit (j % 64) = tb ((putTo zs ys f s k).set (f + k) ((putTo zs ys f s k).getD (f + k) 0 ||| ys.getD k 0 * 2 ^ s % 18446744073709551616)) j := by unfold tb; rw [h]
          rw [this]; simp [h]
        · rw [if_neg h, e1]; simp [h]
      · rw [h2, Nat.or_zero]
        have e2 : ∀ (l : List Nat) (i : Nat), l.set i (l.getD i 0) = l := by
          intro l i
          by_cases hi : i < l.length
          · have : l.getD i 0 = l[i] := by simp [List.getD, hi]
            rw [this, List.set_getElem_self]
          · exact List.set_eq_of_length_le (by omega)
        rw [e2, e1]; simp
    rw [key, ih']
    have hsp : (18446744073709551616 : Nat) = 2 ^ 64 := by decide
    rw [hsp, Nat.testBit_mod_two_pow, Nat.testBit_mul_two_pow, Nat.testBit_div_two_pow]
    have hlt : j % 64 < 64 := by omega
    by_cases ha : 64 * f + s ≤ j ∧ j < 64 * f + s + 64 * k
    · -- an earlier word's place: this one's bits do not reach there
      have n1 : ¬ (j / 64 = f + k ∧ s ≤ j % 64) := by omega
      have n2 : ¬ (j / 64 = f + k + 1) := by omega
      have c1 : decide (j < 64 * f + s + 64 * (k + 1)) = true := by simp; omega
      have c2 : decide (64 * f + s ≤ j) = true := by simp; omega
      have c3 : decide (j < 64 * f + s + 64 * k) = true := by simp; omega
      rw [c1, c2, c3]
      by_cases h5 : j / 64 = f + k
      · have : decide (s ≤ j % 64) = false := by simp; omega
        simp [h5, this]
      · simp [h5, n2]
    · by_cases hb : 64 * f + s + 64 * k ≤ j ∧ j < 64 * f + s + 64 * (k + 1)
      · have c1 : decide (j < 64 * f + s + 64 * (k + 1)) = true := by simp; omega
        have c2 : decide (64 * f + s ≤ j) = true := by simp; omega
        have c3 : decide (j < 64 * f + s + 64 * k) = false := by simp; omega
        rw [c1, c2, c3]
        have e3 : (j - (64 * f + s)) / 64 = k := by omega
        by_cases h5 : j / 64 = f + k
        · have e4 : (j - (64 * f + s)) % 64 = j % 64 - s := by omega
          unfold tb
          rw [e3, e4]
          simp [h5, hlt, show s ≤ j % 64 by omega]
        · have h6 : j / 64 = f + k + 1 := by omega
          have e4 : (j - (64 * f + s)) % 64 = j % 64 + (64 - s) := by omega
          unfold tb
          rw [e3, e4]
          simp [h6]
      · have c1 : (decide (64 * f + s ≤ j) && decide (j < 64 * f + s + 64 * (k + 1))) = false := by simp; omega
        have c2 : (decide (64 * f + s ≤ j) && decide (j < 64 * f + s + 64 * k)) = false := by simp; omega
        rw [c1, c2]
        simp only [Bool.false_and, Bool.or_false]
        by_cases h5 : j / 64 = f + k
        · have : decide (s ≤ j % 64) = false := by simp; omega
          simp [h5, this]
        · by_cases h6 : j / 64 = f + k + 1
          · have : (ys.getD k 0).testBit (j % 64 + (64 - s)) = false := by
              refine Nat.testBit_lt_two_pow (Nat.lt_of_lt_of_le hyk ?_)
              exact (show 2 ^ 64 ≤ 2 ^ (j % 64 + (64 - s)) from Nat.pow_le_pow_right (by omega) (by omega))
            rw [this]
            simp [h5]
          · simp [h5, h6]

set_option maxHeartbeats 1000000 in
set_option maxRecDepth 100000 in
theorem putBits_any (Wi Wb : Int) (g ci cb P : Nat) (ab : Option Addr) (zs ys : List Nat) (w : World) (ho : Own w g zs) (hr : Rd w ab ys) (hz : ∀ x ∈ zs, x < 18446744073709551616) (hP : P ≤ 4096) (hzl : zs.length ≤ 64) (hyl : ys.length ≤ 64)
    (hk : ∀ i, i < ys.length → P / 64 + i < zs.length ∧ (P / 64 + i + 1 < zs.length ∨ ys.getD i 0 / 2 ^ (64 - P % 64) = 0)) (hab : ∀ x, ab = some x → x.block ≠ g) :
    Calls Tryz.prog 151 #[.agg #[.int .i64 Wi, .slice (some ⟨g, 0, none⟩) zs.length ci], .agg #[.int .i64 Wb, .slice ab ys.length cb], .int .i64 P] w fun e w' => e = .returned (.tuple #[]) ∧ Own w' g (putTo zs ys (P / 64) (P % 64) ys.length) ∧ w.grownBy w' (some g) := by
  have hgw := ho.lt
  have hy := hr.2.1
  have hB2 : Below w.heap.size w ((w.alloc (Obj.cells #[Value.int IntKind.i64 Wi, Value.slice (some { block := g, off := 0 }) zs.length ci] 61)).alloc (Obj.cells #[Value.int IntKind.i64 Wb, Value.slice ab ys.length cb] 61)) := Ba (Ba (Below.refl _ _) _) _
  have ho2 := ho.later hB2 hgw
  have hr2 := hr.later hB2
  have k0 : ((w.alloc (Obj.cells #[Value.int IntKind.i64 Wi, Value.slice (some { block := g, off := 0 }) zs.length ci] 61)).alloc (Obj.cells #[Value.int IntKind.i64 Wb, Value.slice ab ys.length cb] 61)).cell? ⟨w.heap.size, 1, none⟩ = some (Value.slice (some { block := g, off := 0 }) zs.length ci) := by
    rw [acell _ _ _ (by simp)]; simp
  have hsz : ((w.alloc (Obj.cells #[Value.int IntKind.i64 Wi, Value.slice (some { block := g, off := 0 }) zs.length ci] 61)).alloc (Obj.cells #[Value.int IntKind.i64 Wb, Value.slice ab ys.length cb] 61)).heap.size = w.heap.size + 2 := by simp
  go_enter Tryz.func151, Tryz.ntmps151
  go_wp2
  generalize ((w.alloc (Obj.cells #[Value.int IntKind.i64 Wi, Value.slice (some { block := g, off := 0 }) zs.length ci] 61)).alloc (Obj.cells #[Value.int IntKind.i64 Wb, Value.slice ab ys.length cb] 61)) = w2 at *
  clear ho hr
  go_loopw [19] (fun i wr => ∃ k : Nat, k ≤ ys.length ∧ i = .int .i64 k ∧ Own wr g (putTo zs ys (P / 64) (P % 64) k) ∧ w2.grownBy wr (some g)) (fun i _ => ys.length - (intOf i).toNat)
  case atStart => exact ⟨0, Nat.zero_le _, rfl, ho2, World.grownBy.refl _ _⟩
  case round =>
    obtain ⟨k, hkl, rfl, hown, hgr⟩ := hrel
    by_cases hlt : k < ys.length
    · obtain ⟨-, -, hn | ⟨b, o, rfl, hcell⟩⟩ := hr2
      · subst hn; simp at hlt
      have hbg : b ≠ g := hab _ rfl
      have hbl : b < w2.heap.size := block_lt_of_cell (hcell k hlt)
      have b1 := (gcell hgr 1 (b := w.heap.size) (by omega) (by omega)).trans k0
      have x1 := (gcell hgr _ hbl hbg).trans (hcell k hlt)
      obtain ⟨hf1, hf2⟩ := hk k hlt
      have hlen := putTo_len zs ys (P / 64) (P % 64) k
      have hcg := hown.cell (i := P / 64 + k) (by omega)
      have hfg := hown.free (P / 64 + k)
      have hfg2 := hown.free (P / 64 + k + 1)
      have hplt := putTo_lt zs ys (P / 64) (P % 64) k hz hy
      have hY := getD_lt hy k
      have hZ1 := getD_lt hplt (P / 64 + k)
      have i1 : (P : Int) / 64 + (k : Int) < (zs.length : Int) := by omega
      have i2 : (k : Int) < (ys.length : Int) := by omega
      have hgs : ¬ w.heap.size = g := by omega
      have hstep : putTo zs ys (P / 64) (P % 64) (k + 1) = ((putTo zs ys (P / 64) (P % 64) k).set (P / 64 + k) ((putTo zs ys (P / 64) (P % 64) k).getD (P / 64 + k) 0 ||| ys.getD k 0 * 2 ^ (P % 64) % 18446744073709551616)).set (P / 64 + k + 1) (((putTo zs ys (P / 64) (P % 64) k).set (P / 64 + k) ((putTo zs ys (P / 64) (P % 64) k).getD (P / 64 + k) 0 ||| ys.getD k 0 * 2 ^ (P % 64) % 18446744073709551616)).getD (P / 64 + k + 1) 0 ||| ys.getD k 0 / 2 ^ (64 - P % 64)) := rfl
      have hgd : ((putTo zs ys (P / 64) (P % 64) k).set (P / 64 + k) ((putTo zs ys (P / 64) (P % 64) k).getD (P / 64 + k) 0 ||| ys.getD k 0 * 2 ^ (P % 64) % 18446744073709551616)).getD (P / 64 + k + 1) 0 = (putTo zs ys (P / 64) (P % 64) k).getD (P / 64 + k + 1) 0 := by
        simp [List.getD, List.getElem?_set]
      rw [hgd] at hstep
      by_cases hrest : ys.getD k 0 / 2 ^ (64 - P % 64) = 0
      · have hstep2 : putTo zs ys (P / 64) (P % 64) (k + 1) = (putTo zs ys (P / 64) (P % 64) k).set (P / 64 + k) ((putTo zs ys (P / 64) (P % 64) k).getD (P / 64 + k) 0 ||| ys.getD k 0 * 2 ^ (P % 64) % 18446744073709551616) := by
          rw [hstep, hrest, Nat.or_zero]
          by_cases hin : P / 64 + k + 1 < (putTo zs ys (P / 64) (P % 64) k).length
          · have e : (putTo zs ys (P / 64) (P % 64) k).getD (P / 64 + k + 1) 0 = ((putTo zs ys (P / 64) (P % 64) k).set (P / 64 + k) ((putTo zs ys (P / 64) (P % 64) k).getD (P / 64 + k) 0 ||| ys.getD k 0 * 2 ^ (P % 64) % 18446744073709551616))[P / 64 + k + 1]'(by simpa using hin) := by
              simp [List.getD, hin]
            rw [e, List.set_getElem_self]
          · exact List.set_eq_of_length_le (by simp; omega)
        have hne : ((ys.getD k 0 : Nat) : Int) / 2 ^ (64 - P % 64) = 0 := by rw [castDiv, hrest]; rfl
        have HO : Hid (Own (wr.setCell ⟨g, P / 64 + k, none⟩ (.int .u64 (bits BinOp.or IntKind.u64 (((putTo zs ys (P / 64) (P % 64) k).getD (P / 64 + k) 0 : Nat) : Int) (IntKind.u64.wrap (((ys.getD k 0 : Nat) : Int) * 2 ^ (P % 64)))))) g (putTo zs ys (P / 64) (P % 64) (k + 1))) := by
          show Own _ _ _
          rw [hstep2, orShift _ _ _ hZ1]
          exact hown.put _ _
        clear hstep hstep2 hgd hown hcell hk hplt hrest hlen
        generalize (putTo zs ys (P / 64) (P % 64) k).getD (P / 64 + k) 0 = z at *
        generalize ys.getD k 0 = y at *
        have hne2 : ((y : Int) / 2 ^ (64 - P % 64) != 0) = false := by simp [hne]
        clear hne
        go_wp2
        go_region
        go_wp2
        go_roundw
        case rel => exact ⟨k + 1, by omega, by go_num, HO.out, grown_drew (grown_set hgr _ _)⟩
        case measure => simp [intOf]; omega
      · have hin : P / 64 + k + 1 < zs.length := by
          rcases hf2 with h | h
          · exact h
          · exact absurd h hrest
        have hcg2 := hown.cell (i := P / 64 + k + 1) (by omega)
        have i3 : (P : Int) / 64 + (k : Int) + 1 < (zs.length : Int) := by omega
        have hZ2 := getD_lt hplt (P / 64 + k + 1)
        have hne2 : (((ys.getD k 0 : Nat) : Int) / 2 ^ (64 - P % 64) != 0) = true := by rw [castDiv]; simp only [bne_iff_ne, ne_eq]; omega
        have HO : Hid (Own ((wr.setCell ⟨g, P / 64 + k, none⟩ (.int .u64 (bits BinOp.or IntKind.u64 (((putTo zs ys (P / 64) (P % 64) k).getD (P / 64 + k) 0 : Nat) : Int) (IntKind.u64.wrap (((ys.getD k 0 : Nat) : Int) * 2 ^ (P % 64)))))).setCell ⟨g, P / 64 + k + 1, none⟩ (.int .u64 (bits BinOp.or IntKind.u64 (((putTo zs ys (P / 64) (P % 64) k).getD (P / 64 + k + 1) 0 : Nat) : Int) (((ys.getD k 0 : Nat) : Int) / 2 ^ (64 - P % 64))))) g (putTo zs ys (P / 64) (P % 64) (k + 1))) := by
          show Own _ _ _
          rw [hstep, orShift _ _ _ hZ1, castDiv, bits_or_u64_nat _ _ hZ2 (Nat.lt_of_le_of_lt (Nat.div_le_self _ _) hY)]
          exact (hown.put _ _).put _ _
        clear hstep hgd hown hcell hk hplt hrest hlen
        generalize (putTo zs ys (P / 64) (P % 64) k).getD (P / 64 + k) 0 = z at *
        generalize (putTo zs ys (P / 64) (P % 64) k).getD (P / 64 + k + 1) 0 = z2 at *
        generalize ys.getD k 0 = y at *
        go_wp2
        go_region
        go_wp2
        go_roundw
        case rel => exact ⟨k + 1, by omega, by go_num, HO.out, grown_set (grown_drew (grown_set hgr _ _)) _ _⟩
        case measure => simp [intOf]; omega
    · have e : k = ys.length := by omega
      subst e
      go_wp2
      go_end0
      exact ⟨rfl, hown, ⟨hgr.os.trans hB2.os, hgr.tape.trans hB2.tape, hgr.output.trans hB2.output, Nat.le_trans hB2.size hgr.size, fun j hj hne => (hgr.block j (by omega) hne).trans (hB2.block j hj)⟩⟩

end Go.Proofs.YtdlmgndmfphneaaGreatDoor

/- What the given functions on words answer: RepeatBits, WidenBits. -/
namespace Go.Proofs.YtdlmgndmfphneaaGreatDoor
set_option linter.unusedVariables false
set_option linter.unusedSimpArgs false
open Go.RowKit

/-- 'append(out, list...)', out the call's own, list not empty. -/
theorem wpList_appBs (w : World) {ops : Array Oper} {rest : List Oper} {o : Oper} {a : Act} {Q : Exit → Act → World → Prop} (hgd : o.guard = none) (s x : Operand)
    (ho : o.op = .call { callee := .builtin .append, args := #[s, x], argTypes := #[104, 104] })
    (base : Nat) (v : Value) (bs ys : List Nat) (hs : a.eval s = v) (hown : OwB w base v bs) (b ob c : Nat) (hx : a.eval x = .slice (some ⟨b, ob, none⟩) ys.length c)
    (hc : ∀ i, i < ys.length → w.cell? ⟨b, ob + i, none⟩ = some (.int .u8 ((ys.getD i 0 : Nat) : Int))) (hl : bs.length + ys.length ≤ 4194304) (hbase : base ≤ w.heap.size)
    (h : ∀ v' w', OwB w' base v' (bs ++ ys) → w.grownBy w' v.ownBlock → wpList Tryz.prog ops Q rest (a.put o.dst v') w') : wpList Tryz.prog ops Q (o :: rest) a w := by
  obtain ⟨i0, hi, hz0, hz1, hz2⟩ := info_parts Tryz.infoU8
  refine wpList_append_own w hgd s x 104 ho base 5 i0 (.int .u8 0) 1 1 Tryz.underlying104 hi hz0 hz1 hz2 rfl (by decide) v bs.length (u8s bs) hs hown ⟨b, ob, none⟩ ys.length c (u8s ys) hx (by simp [u8s]) ?_ ?_ ?_ ?_ hbase ?_
  · intro j u hj
    have hj' : j < ys.length := by
      have := (List.getElem?_eq_some_iff.1 hj).1
      simpa [u8s] using this
    rw [Addr.add_lit, hc j hj']
    simp [u8s, hj'] at hj
    rw [← hj]
    simp [List.getD, hj']
  · intro u hu
    obtain ⟨_, _, rfl⟩ := List.mem_map.1 hu
    rfl
  · unfold maxLen; omega
  · omega
  · intro v' w' h1 h2 _
    refine h v' w' ?_ h2
    unfold OwB
    simpa [u8s] using h1

def repList (bs : List Nat) (k : Nat) : List Nat := (List.replicate k bs).flatten
theorem repList_succ (bs : List Nat) (k : Nat) : repList bs (k + 1) = repList bs k ++ bs := by
  unfold repList
  rw [List.replicate_succ', List.flatten_append]; simp
theorem repList_len (bs : List Nat) (k : Nat) : (repList bs k).length = k * bs.length := by
  induction k with
  | zero => simp [repList]
  | succ k ih => rw [repList_succ, List.length_append, ih, Nat.succ_mul]
theorem repList_mem (bs : List Nat) (k x : Nat) (h : x ∈ repList bs k) : x ∈ bs := by
  unfold repList at h
  simp at h
  obtain ⟨l, ⟨_, rfl⟩, hx⟩ := h
  exact hx

def repR (W : Int) (xs : List Nat) (n : Int) : Int × List Nat × Bool :=
  if rightB W xs = true ∧ 1 ≤ n ∧ n ≤ 4096 ∧ W * n ≤ 4096 then (W * n, pack (repList (bitsTo xs W.toNat) n.toNat), true) else noR

set_option maxHeartbeats 1000000 in
set_option maxRecDepth 100000 in
theorem specRep_any (W : Int) (a : Option Addr) (c : Nat) (xs : List Nat) (n : Int) (w : World) (hr : Rd w a xs) :
    Calls Tryz.prog 114 #[.agg #[.int .i64 W, .slice a xs.length c], .int .i64 n] w (RetB w (repR W xs n)) := by
  have h2 : Below w.heap.size w ((w.alloc (Obj.cells #[Value.int IntKind.i64 W, Value.slice a xs.length c] 61)).alloc (Obj.cells #[Value.int IntKind.i64 0, Value.slice none 0 0] 61)) := ((Below.refl _ _).alloc (Nat.le_refl _) _).alloc (by simp) _
  have hr' := hr.later h2
  by_cases hc : rightB W xs = true ∧ 1 ≤ n ∧ n ≤ 4096 ∧ W * n ≤ 4096
  · rw [repR, if_pos hc]
    generalize hR : (W * n, pack (repList (bitsTo xs W.toNat) n.toNat), true) = R
    have HR : Hid ((W * n, pack (repList (bitsTo xs W.toNat) n.toNat), true) = R) := hR
    clear hR
    obtain ⟨hok, hn1, hn2, hWn⟩ := hc
    obtain ⟨hW1, hW2, hWl⟩ := right_W hok
    obtain ⟨V, rfl⟩ := Int.eq_ofNat_of_zero_le (show 0 ≤ W by omega)
    obtain ⟨m, rfl⟩ := Int.eq_ofNat_of_zero_le (show 0 ≤ n by omega)
    have hVl : V ≤ 64 * xs.length := by omega
    have hVm : V * m ≤ 4096 := by exact_mod_cast hWn
    have hd : decide (1 ≤ (m : Int) ∧ (m : Int) ≤ 4096) = true := by simp; omega
    have hm1 : 1 ≤ m := by omega
    have HWl : Hid ((xs.length : Int) = ((V : Int) + 63) / 64) := hWl
    clear hWl
    go_enter Tryz.func114, Tryz.ntmps114
    go_wp2_with fail
    refine (specOk_any _ _ _ _ _ hr').mono ?_
    rintro e w1 ⟨rfl, hb1⟩
    have hr1 := hr'.later hb1
    have HB1 := hb1
    obtain ⟨hcc, hff⟩ := bcell hb1
    have hz : w.heap.size + 1 < w1.heap.size := by have := hb1.size; simp at this; omega
    clear hb1
    go_wp2_with (go_at_call 24; refine (l1In_any _ _ _ _).mono ?_; rintro e w' ⟨rfl, rfl⟩)
    refine (l1List_any _ _ _ _ _ hr1 hVl (by omega)).mono ?_
    rintro e w2 ⟨v, rfl, how, hb2⟩
    have hlen := bitsTo_len xs V
    have hle := bitsTo_le xs V
    obtain ⟨a2, c2, rfl, hrb, hc2, hm2⟩ := how.shape (by rw [bitsTo_len]; omega) (fun x hx => by have := hle x hx; omega)
    have HB2 := chain HB1 hb2
    rw [hlen] at hc2 ⊢
    obtain ⟨-, -, hn | ⟨bb, oo, rfl, hcell⟩⟩ := hrb
    · rw [hn] at hlen; simp at hlen; omega
    have hbb : bb < w2.heap.size := block_lt_of_cell (hcell 0 (by omega))
    clear how hb2 hr hr' hr1 hcc hff hz HB1
    go_wp2_with fail
    have HB3 := Ba HB2 (Obj.cells #[] 5)
    have hB23 : Below w2.heap.size w2 (w2.alloc (Obj.cells #[] 5)) := (Below.refl _ _).alloc (Nat.le_refl _) _
    have hcell3 : ∀ i, i < V → (w2.alloc (Obj.cells #[] 5)).cell? ⟨bb, oo + i, none⟩ = some (.int .u8 (((bitsTo xs V).getD i 0 : Nat) : Int)) := fun i hi => by rw [acell _ _ _ hbb]; exact hcell i (by omega)
    have how3 := OwB.nil w2 w2.heap.size _ rfl (Nat.le_refl _)
    have hs3 : (w2.alloc (Obj.cells #[] 5)).heap.size = w2.heap.size + 1 := by simp
    generalize w2.alloc (Obj.cells #[] 5) = w3 at *
    generalize hbs : bitsTo xs V = bs at *
    have HBS : Hid (bitsTo xs V = bs) := hbs
    clear hbs hcell
    go_loopw [7, 8] (fun v i wr => ∃ k : Nat, k ≤ m ∧ i = .int .i64 k ∧ OwB wr w2.heap.size v (repList bs k) ∧ Below w2.heap.size w3 wr) (fun _ i _ => m - (intOf i).toNat)
    case atStart => exact ⟨0, Nat.zero_le _, rfl, how3, Below.refl _ _⟩
    case round =>
      obtain ⟨k, hk, rfl, hown, hbel⟩ := hrel
      by_cases hlt : k < m
      · have hrl := repList_len bs k
        rw [hlen] at hrl
        have hkV : k * V ≤ 4096 := by
          have : k * V ≤ m * V := Nat.mul_le_mul_right _ (by omega)
          rw [Nat.mul_comm m V] at this; omega
        have hsz := hbel.size
        have hcr : ∀ i, i < bs.length → wr.cell? ⟨bb, oo + i, none⟩ = some (.int .u8 ((bs.getD i 0 : Nat) : Int)) := fun i hi => by
          rw [hbel.cell (p := ⟨bb, oo + i, none⟩) (by exact hbb)]; exact hcell3 i (by omega)
        have HS : Hid (repList bs (k + 1) = repList bs k ++ bs) := repList_succ bs k
        have hll : (repList bs k).length + bs.length ≤ 4194304 := by rw [hrl, hlen]; omega
        clear hcell3 how3
        generalize repList bs k = rk at *
        go_wp2_with (at_builtin; refine wpList_appBs _ rfl _ _ rfl w2.heap.size _ rk bs rfl hown bb oo c2 (by rw [hlen]; rfl) hcr hll (by omega) ?_)
        intro v' w4 hown4 hgr4
        have hb4 : Below w2.heap.size w3 w4 := hbel.grown hgr4 (by omega) hown.own
        clear hgr4 hown hcr hbel
        go_wp2
        go_roundw
        case rel => exact ⟨k + 1, by omega, by go_num, by rw [HS.out]; exact hown4, hb4⟩
        case measure => simp [intOf]; omega
      · have e : k = m := by omega
        subst e
        have hrl := repList_len bs k
        rw [hlen] at hrl
        have hkV : k * V ≤ 4096 := by rw [Nat.mul_comm]; exact hVm
        have hkV1 : 1 ≤ k * V := Nat.mul_pos (by omega) (by omega)
        obtain ⟨a4, c4, rfl, hrb4, hc4, hm4⟩ := hown.shape (by rw [hrl]; omega) (fun x hx => by have := hle x (repList_mem _ _ _ hx); omega)
        have HBr := HB3.trans (hbel.mono HB2.size)
        have HQ : Hid ((((repList bs k).length : Int), pack (repList bs k), true) = R) := by
          show _ = _
          rw [← HR.out, Int.toNat_natCast, Int.toNat_natCast, HBS.out, hrl, Nat.mul_comm k V, Int.natCast_mul]
        have hfrom := l1From_yes a4 c4 (repList bs k) wr hrb4 (by omega) (by omega)
        clear hcell3 how3 hown hrb4 hbel HR HBS
        generalize repList bs k = rk at *
        clear hrl
        go_wp2_with fail
        refine hfrom.mono ?_
        rintro e w5 ⟨a5, c5, rfl, hfr, hb5⟩
        have HB5 := chain HBr hb5
        obtain ⟨hcc, hff⟩ := bcell HB5
        have hz5 : w.heap.size + 1 < w5.heap.size := by have := HB5.size; simp at this; omega
        have hzr : w.heap.size + 1 < wr.heap.size := by have := HBr.size; simp at this; omega
        dsimp only at hfr ⊢
        clear hfrom
        go_wp2
        exact bodyPost_ret (by simp [results, Tryz.results114, go_sem, hcc, hz5]; rfl) rfl (RetB.close (r := ((rk.length : Int), pack rk, true)) hfr (by omega) hzr (h2.trans (HB5.mono (by simp; omega))) HQ.out _ _)
  · rw [repR, if_neg hc]
    have hcase : rightB W xs = false ∨ (rightB W xs = true ∧ decide (1 ≤ n ∧ n ≤ 4096) = false) ∨ (rightB W xs = true ∧ decide (1 ≤ n ∧ n ≤ 4096) = true ∧ 4096 < W * n) := by
      cases hb : rightB W xs with
      | false => exact .inl rfl
      | true =>
        right
        by_cases h : 1 ≤ n ∧ n ≤ 4096
        · right; simp [hb, h] at hc ⊢; omega
        · left; simp only [h, decide_false]; simp
    clear hc
    rcases hcase with h | ⟨h, h1⟩ | ⟨h, h1, h3⟩
    · go_enter Tryz.func114, Tryz.ntmps114
      go_wp2_with fail
      refine (specOk_any _ _ _ _ _ hr').mono ?_
      rintro e w1 ⟨rfl, hb1⟩
      obtain ⟨hcc, hff⟩ := bcell hb1
      have hz : w.heap.size + 1 < w1.heap.size := by have := hb1.size; simp at this; omega
      go_wp2_with (go_at_call 24; refine (l1In_any _ _ _ _).mono ?_; rintro e w' ⟨rfl, rfl⟩)
      exact bodyPost_ret (v := .tuple #[.agg #[.int .i64 0, .slice none 0 0], .bool false]) (by simp [results, Tryz.results114, go_sem, hcc]) rfl (RetB.no (((h2.trans (hb1.mono (by simp; omega))).setCell (by simp) _).setCell (by simp) _))
    · go_enter Tryz.func114, Tryz.ntmps114
      go_wp2_with fail
      refine (specOk_any _ _ _ _ _ hr').mono ?_
      rintro e w1 ⟨rfl, hb1⟩
      obtain ⟨hcc, hff⟩ := bcell hb1
      have hz : w.heap.size + 1 < w1.heap.size := by have := hb1.size; simp at this; omega
      go_wp2_with (go_at_call 24; refine (l1In_any _ _ _ _).mono ?_; rintro e w' ⟨rfl, rfl⟩)
      exact bodyPost_ret (v := .tuple #[.agg #[.int .i64 0, .slice none 0 0], .bool false]) (by simp [results, Tryz.results114, go_sem, hcc]) rfl (RetB.no (((h2.trans (hb1.mono (by simp; omega))).setCell (by simp) _).setCell (by simp) _))
    · have hn := of_decide_eq_true h1
      obtain ⟨hW1, hW2, _⟩ := right_W h
      have hmul : W * n ≤ 4096 * 4096 := Int.mul_le_mul hW2 hn.2 (by omega) (by omega)
      go_enter Tryz.func114, Tryz.ntmps114
      go_wp2_with fail
      refine (specOk_any _ _ _ _ _ hr').mono ?_
      rintro e w1 ⟨rfl, hb1⟩
      obtain ⟨hcc, hff⟩ := bcell hb1
      have hz : w.heap.size + 1 < w1.heap.size := by have := hb1.size; simp at this; omega
      go_wp2_with (go_at_call 24; refine (l1In_any _ _ _ _).mono ?_; rintro e w' ⟨rfl, rfl⟩)
      exact bodyPost_ret (v := .tuple #[.agg #[.int .i64 0, .slice none 0 0], .bool false]) (by simp [results, Tryz.results114, go_sem, hcc]) rfl (RetB.no (((h2.trans (hb1.mono (by simp; omega))).setCell (by simp) _).setCell (by simp) _))

end Go.Proofs.YtdlmgndmfphneaaGreatDoor

/- Contracts of the laws' own small functions on rows of term nodes: compared, one copied. -/
namespace Go.Proofs.YtdlmgndmfphneaaGreatDoor
set_option linter.unusedVariables false
set_option linter.unusedSimpArgs false
open Go.RowKit

theorem eqTNode_same (s : Tc) (wa wb ka kb : Option Addr) (c1 d1 c2 d2 : Nat) (w : World) (hr1 : Rd w wa s.ws) (hs1 : Rd w wb s.ws) (hr2 : RdI w ka s.ks) (hs2 : RdI w kb s.ks) :
    Calls Tryz.prog 69 #[.agg #[.int .i64 s.op, .int .i64 s.vr, .int .i64 s.a, .int .i64 s.b, .int .i64 s.bw, .slice wa s.ws.length c1, .slice ka s.ks.length c2], .agg #[.int .i64 s.op, .int .i64 s.vr, .int .i64 s.a, .int .i64 s.b, .int .i64 s.bw, .slice wb s.ws.length d1, .slice kb s.ks.length d2]] w fun e w' => e = .returned (.bool true) ∧ Below w.heap.size w w' := by
  obtain ⟨op, vr, a, b, bw, ws, ks⟩ := s
  simp only [] at hr1 hs1 hr2 hs2 ⊢
  have h2 : Below w.heap.size w ((w.alloc (Obj.cells #[Value.int .i64 op, Value.int .i64 vr, Value.int .i64 a, Value.int .i64 b, Value.int .i64 bw, Value.slice wa ws.length c1, Value.slice ka ks.length c2] 63)).alloc (Obj.cells #[Value.int .i64 op, Value.int .i64 vr, Value.int .i64 a, Value.int .i64 b, Value.int .i64 bw, Value.slice wb ws.length d1, Value.slice kb ks.length d2] 63)) := ((Below.refl _ _).alloc (Nat.le_refl _) _).alloc (by simp) _
  have HI : Hid (∀ u, Below w.heap.size w u → Calls Tryz.prog 11 #[.slice ka ks.length c2, .slice kb ks.length d2] u fun e w' => e = .returned (.bool true) ∧ Below u.heap.size u w') := fun u hu => by
    have := eqInt64S_any ka kb c2 d2 ks ks u (hr2.later hu) (hs2.later hu)
    simpa using this
  have HE : Hid (∀ u, Below w.heap.size w u → Calls Tryz.prog 101 #[.agg #[.int .i64 bw, .slice wa ws.length c1], .agg #[.int .i64 bw, .slice wb ws.length d1]] u fun e w' => e = .returned (.bool true) ∧ Below u.heap.size u w') := fun u hu => by
    have := eqBits_any bw bw wa wb c1 d1 ws ws u (hr1.later hu) (hs1.later hu)
    simpa using this
  have B2 := kide h2
  have e0 : (op != op) = false := by simp
  have e1 : (vr != vr) = false := by simp
  have e2 : (a != a) = false := by simp
  have e3 : (b != b) = false := by simp
  clear hr1 hs1 hr2 hs2 h2
  go_enter Tryz.func69, Tryz.ntmps69
  go_wp2_with fail
  refine Calls.mono (HE.out _ B2.out) ?_
  rintro e w1 ⟨rfl, hb1⟩
  have k0 := kcell hb1 w.heap.size 6 (by simp; omega)
  have j0 := kcell hb1 (w.heap.size + 1) 6 (by simp)
  have B3 := kide (B2.out.trans (hb1.mono B2.out.size))
  simp at k0 j0
  clear hb1
  go_wp2_with fail
  refine Calls.mono (HI.out _ B3.out) ?_
  rintro e w2 ⟨rfl, hb2⟩
  go_wp2_with fail
  go_ret
  exact ⟨rfl, B3.out.trans (hb2.mono B3.out.size)⟩

set_option maxHeartbeats 1000000 in
theorem eqTNodeS_same (a b : Option Addr) (c d : Nat) (xs ys : List Tg) (w : World) (hr : RdT w a xs) (hs : RdT w b ys) (he : xs.map Tg.ct = ys.map Tg.ct) (n : Nat) (h1 : xs.length = n) (h2 : ys.length = n) :
    Calls Tryz.prog 31 #[.slice a n c, .slice b n d] w fun e w' => e = .returned (.bool true) ∧ Below w.heap.size w w' := by
  have hl1 := hr.1
  rw [h1] at hl1
  have hne : ((n : Int) != (n : Int)) = false := by simp
  have H1 := kide h1
  have H2 := kide h2
  have HE := kide he
  clear h1 h2 he
  go_enter Tryz.func31, Tryz.ntmps31
  go_wp2_with fail
  clear hne
  go_loopw [5] (fun i wr => ∃ k : Nat, k ≤ n ∧ i = .int .i64 k ∧ Below w.heap.size w wr) (fun i _ => n - (intOf i).toNat)
  case atStart => exact ⟨0, Nat.zero_le _, rfl, Below.refl _ _⟩
  case round =>
    obtain ⟨k, hk, rfl, hbel⟩ := hrel
    have HB := kide hbel
    by_cases hlt : k < n
    · obtain ⟨-, h | ⟨b1, o1, rfl, hc1⟩⟩ := hr
      · have := H1.out; subst h; simp at this; omega
      obtain ⟨-, h | ⟨b2, o2, rfl, hc2⟩⟩ := hs
      · have := H2.out; subst h; simp at this; omega
      obtain ⟨⟨s1, sa, sc, wa, wc⟩, hx⟩ : ∃ x, xs[k]? = some x := ⟨xs[k]'(by rw [H1.out]; exact hlt), List.getElem?_eq_getElem _⟩
      obtain ⟨⟨s2, sa', sc', wa', wc'⟩, hy⟩ : ∃ y, ys[k]? = some y := ⟨ys[k]'(by rw [H2.out]; exact hlt), List.getElem?_eq_getElem _⟩
      have hxy : s1 = s2 := by
        have h := congrArg (fun l => l[k]?) HE.out
        simp [hx, hy] at h
        exact h
      subst hxy
      obtain ⟨⟨p0, p1, p2, p3, p4, p5, p6⟩, pi, pr, -⟩ := (hc1 k _ hx).later hbel
      obtain ⟨⟨q0, q1, q2, q3, q4, q5, q6⟩, qi, qr, -⟩ := (hc2 k _ hy).later hbel
      simp only [Tg.hd] at p0 p1 p2 p3 p4 p5 p6 pi pr q0 q1 q2 q3 q4 q5 q6 qi qr
      have l1 := block_lt_of_cell p0
      have l2 := block_lt_of_cell q0
      have i0 : (k : Int) < (n : Int) := by omega
      have HEQ := kide (fun u (hu : Below wr.heap.size wr u) => eqTNode_same s1 sa sa' wa wa' sc sc' wc wc' u (pi.later hu) (qi.later hu) (pr.later hu) (qr.later hu))
      obtain ⟨op, vr, aa, bb, bw, ws, ks⟩ := s1
      simp only [] at p0 p1 p2 p3 p4 p5 p6 q0 q1 q2 q3 q4 q5 q6 HEQ
      clear hc1 hc2 hbel hx hy pr qr pi qi
      go_wp2_with fail
      go_region_held3 (fun u => (u.cell? ⟨b1, o1 + k * 7, none⟩ = some (Value.int .i64 op) ∧ u.cell? ⟨b1, o1 + k * 7 + 1, none⟩ = some (Value.int .i64 vr) ∧ u.cell? ⟨b1, o1 + k * 7 + 2, none⟩ = some (Value.int .i64 aa) ∧ u.cell? ⟨b1, o1 + k * 7 + 3, none⟩ = some (Value.int .i64 bb) ∧ u.cell? ⟨b1, o1 + k * 7 + 4, none⟩ = some (Value.int .i64 bw) ∧ u.cell? ⟨b1, o1 + k * 7 + 5, none⟩ = some (Value.slice sa ws.length sc) ∧ u.cell? ⟨b1, o1 + k * 7 + 6, none⟩ = some (Value.slice wa ks.length wc)) ∧ (u.cell? ⟨b2, o2 + k * 7, none⟩ = some (Value.int .i64 op) ∧ u.cell? ⟨b2, o2 + k * 7 + 1, none⟩ = some (Value.int .i64 vr) ∧ u.cell? ⟨b2, o2 + k * 7 + 2, none⟩ = some (Value.int .i64 aa) ∧ u.cell? ⟨b2, o2 + k * 7 + 3, none⟩ = some (Value.int .i64 bb) ∧ u.cell? ⟨b2, o2 + k * 7 + 4, none⟩ = some (Value.int .i64 bw) ∧ u.cell? ⟨b2, o2 + k * 7 + 5, none⟩ = some (Value.slice sa' ws.length sc') ∧ u.cell? ⟨b2, o2 + k * 7 + 6, none⟩ = some (Value.slice wa' ks.length wc'))) (simp [*])
        ((go_at_call 69; refine Calls.mono (HEQ.out _ ?_) ?_; exact (Below.refl _ _).drew; rintro e w1 ⟨rfl, hb1⟩; replace hb1 := kundrew hb1; have k0 := kcell hb1 b1 (o1 + k * 7) l1; have k1 := kcell hb1 b1 (o1 + k * 7 + 1) l1; have k2 := kcell hb1 b1 (o1 + k * 7 + 2) l1; have k3 := kcell hb1 b1 (o1 + k * 7 + 3) l1; have k4 := kcell hb1 b1 (o1 + k * 7 + 4) l1; have k5 := kcell hb1 b1 (o1 + k * 7 + 5) l1; have k6 := kcell hb1 b1 (o1 + k * 7 + 6) l1; have j0 := kcell hb1 b2 (o2 + k * 7) l2; have j1 := kcell hb1 b2 (o2 + k * 7 + 1) l2; have j2 := kcell hb1 b2 (o2 + k * 7 + 2) l2; have j3 := kcell hb1 b2 (o2 + k * 7 + 3) l2; have j4 := kcell hb1 b2 (o2 + k * 7 + 4) l2; have j5 := kcell hb1 b2 (o2 + k * 7 + 5) l2; have j6 := kcell hb1 b2 (o2 + k * 7 + 6) l2))
      go_wp2_with fail
      go_roundw
      case rel => exact ⟨k + 1, by omega, by go_num, HB.out.trans (hb1.mono HB.out.size)⟩
      case measure => simp [intOf]; omega
    · clear hbel
      go_wp2_with fail
      go_ret
      exact ⟨rfl, HB.out⟩

theorem eqTerm_same (a b : Option Addr) (c d : Nat) (xs ys : List Tg) (w : World) (hr : RdT w a xs) (hs : RdT w b ys) (he : xs.map Tg.ct = ys.map Tg.ct) (n : Nat) (h1 : xs.length = n) (h2 : ys.length = n) :
    Calls Tryz.prog 13 #[.agg #[.slice a n c], .agg #[.slice b n d]] w fun e w' => e = .returned (.bool true) ∧ Below w.heap.size w w' := by
  have hb2 : Below w.heap.size w ((w.alloc (Obj.cells #[Value.slice a n c] 34)).alloc (Obj.cells #[Value.slice b n d] 34)) := ((Below.refl _ _).alloc (Nat.le_refl _) _).alloc (by simp) _
  have HC := kide (eqTNodeS_same a b c d xs ys _ (hr.later hb2) (hs.later hb2) he n h1 h2)
  have B2 := kide hb2
  clear hr hs he h1 h2 hb2
  go_enter Tryz.func13, Tryz.ntmps13
  go_wp2_with fail
  refine Calls.mono HC.out ?_
  rintro e w1 ⟨rfl, hb1⟩
  go_wp2_with fail
  go_ret
  exact ⟨rfl, B2.out.trans (hb1.mono B2.out.size)⟩

end Go.Proofs.YtdlmgndmfphneaaGreatDoor
