/- Several texts in one. -/
import Derived.Test.YtkngpgonmedgpaaGreatDoorGAG
import Derived.Test.YtkngpgonmedgpaaGreatDoorGAJ
import Derived.Deep.AppendLies
import Derived.Test.YtkngpgonmedgpaaGreatDoorGAF
import Derived.Deep.OwnRows
import Derived.Test.YtkngpgonmedgpaaGreatDoorGAI
import Derived.Deep.RegionHeldLaw
import Derived.Deep.RegionWith
namespace Go.Proofs.YtkngpgonmedgpaaGreatDoor
open Go.RowKit
set_option linter.unusedVariables false
set_option linter.unusedSimpArgs false
def bwc : List Bw → List Value
 | [] => []
 | x :: t => .int .i64 x.wd :: .slice x.a x.ws.length x.c :: bwc t
theorem bwc_len (l : List Bw) : (bwc l).length = l.length * 2 := by
 induction l with
 | nil => rfl
 | cons x t ih => simp [bwc, ih]; omega
theorem bwc_append (l m : List Bw) : bwc (l ++ m) = bwc l ++ bwc m := by
 induction l with
 | nil => rfl
 | cons x t ih => simp [bwc, ih]
theorem bwc_get : ∀ {l : List Bw} {i : Nat} {x : Bw}, l[i]? = some x → (bwc l)[i * 2]? = some (.int .i64 x.wd) ∧ (bwc l)[i * 2 + 1]? = some (.slice x.a x.ws.length x.c)
 | y :: t, 0, x, h => by simp at h; subst h; simp [bwc]
 | y :: t, i + 1, x, h => by
  have := bwc_get (l := t) (i := i) (x := x) (by simpa using h)
  rw [show (i + 1) * 2 = i * 2 + 1 + 1 by omega]
  simpa [bwc] using this
def OB2 (w : World) (B : Nat) (v : Value) (l : List Bw) : Prop := w.ownsRow B 80 2 v l.length (bwc l)
theorem OB2.later {w w' : World} {B : Nat} {v : Value} {l : List Bw} (h : OB2 w B v l) (hb : Below w.heap.size w w') : OB2 w' B v l := World.ownsRow.kept (row := none) h ⟨hb.os, hb.tape, hb.output, hb.size, fun k hk _ => hb.block k hk⟩ (by
 cases h' : v.ownBlock with
 | none => exact .inl rfl
 | some k => exact .inr (by simp))
theorem OB2.lt {w : World} {B : Nat} {v : Value} {l : List Bw} (h : OB2 w B v l) {b : Nat} (hb : v.ownBlock = some b) : B ≤ b ∧ b < w.heap.size := by
 rcases h.2 with ⟨rfl, -⟩ | ⟨g, cap, cur, rfl, hg, hh, -⟩
 ·cases hb
 ·cases hb
  exact ⟨hg, lt_of_block hh⟩
theorem OB2.typed {w : World} {B : Nat} {v : Value} {l : List Bw} (h : OB2 w B v l) {b : Nat} (hb : v.ownBlock = some b) : ∃ cur, w.heap[b]? = some (.cells cur 80 (0, 0)) := by
 rcases h.2 with ⟨rfl, -⟩ | ⟨g, cap, cur, rfl, hg, hh, -⟩
 ·cases hb
 ·cases hb
  exact ⟨cur, hh⟩
theorem OB2.nil (w : World) (B : Nat) : OB2 w B (.slice none 0 0) [] := ⟨rfl, .inl ⟨rfl, rfl⟩⟩
theorem OB2.move {w w' : World} {B : Nat} {v : Value} {l : List Bw} (h : OB2 w B v l) (hk : ∀ b, v.ownBlock = some b → w'.heap[b]? = w.heap[b]?) : OB2 w' B v l := by
 refine ⟨h.1, ?_⟩
 rcases h.2 with h0 | ⟨g, cap, cur, rfl, hg, hh, r⟩
 ·exact .inl h0
 ·exact .inr ⟨g, cap, cur, rfl, hg, (hk g rfl).trans hh, r⟩
theorem OB2.form {w : World} {B : Nat} {v : Value} {l : List Bw} (h : OB2 w B v l) : ∃ a c, v = .slice a l.length c := by
 rcases h.2 with ⟨e, h0⟩ | ⟨g, cap, cur, e, -⟩
 ·exact ⟨none, 0, by rw [e, h0]⟩
 ·exact ⟨_, _, e⟩
theorem OB2.empty (w : World) (B : Nat) (h : B ≤ w.heap.size) : OB2 (w.alloc (.cells #[] 80)) B (.slice (some ⟨w.heap.size, 0, Option.none⟩) 0 0) [] := World.ownsRow_made w #[] 0 h (Nat.zero_le _) (by simp)
theorem OB2.at {w : World} {B : Nat} {v : Value} {l : List Bw} (h : OB2 w B v l) {i : Nat} {x : Bw} (hi : l[i]? = some x) : ∃ g c, v = .slice (some ⟨g, 0, none⟩) l.length c ∧ w.cell? ⟨g, i * 2, none⟩ = some (.int .i64 x.wd) ∧ w.cell? ⟨g, i * 2 + 1, none⟩ = some (.slice x.a x.ws.length x.c) := by
 have hil := (List.getElem?_eq_some_iff.1 hi).1
 rcases h.2 with ⟨-, h0⟩ | ⟨g, cap, cur, rfl, hg, hh, hc1, hc2, hsz, hcur⟩
 ·omega
 ·obtain ⟨e0, e1⟩ := bwc_get hi
  rw [← hcur] at e0 e1
  rw [List.getElem?_take, if_pos (by omega)] at e0 e1
  simp only [Array.getElem?_toList] at e0 e1
  exact ⟨g, cap, rfl, by rw [cell_of_row w g _ cur _ _ hh]; exact e0, by rw [cell_of_row w g _ cur _ _ hh]; exact e1⟩
theorem OB2.rd {w : World} {B : Nat} {v : Value} {l : List Bw} (h : OB2 w B v l) (hl : l.length ≤ 1048576) (hx : ∀ x ∈ l, Rd w x.a x.ws ∧ in64 x.wd) : ∃ a c, v = .slice a l.length c ∧ RdW w a l := by
 by_cases e : l = []
 ·subst e
  obtain ⟨a, c, rfl⟩ := h.form
  exact ⟨a, c, rfl, by simp, .inl rfl⟩
 ·have h0 : 0 < l.length := List.length_pos_iff.2 e
  obtain ⟨g, c, rfl, -⟩ := h.at (List.getElem?_eq_getElem h0)
  refine ⟨_, c, rfl, hl, .inr ⟨g, 0, rfl, fun i x hi => ?_⟩⟩
  obtain ⟨g', c', e', h1, h2⟩ := h.at hi
  cases e'
  obtain ⟨h3, h4⟩ := hx x (List.mem_of_getElem? hi)
  exact ⟨by rw [Nat.zero_add]; exact h1, by rw [Nat.zero_add]; exact h2, h3, h4⟩
theorem step_appB2 (w : World) {ops : Array Oper} {o : Oper} {a : Act} {K : Act → World → Prop} {Q : Exit → Act → World → Prop} {E : Prop} (hgd : o.guard = none) (s x : Operand)
  (ho : o.op = .call { callee := .builtin .append, args := #[s, x], argTypes := #[25, 25] })
  (B : Nat) (v : Value) (l : List Bw) (y : Bw) (hs : a.eval s = v) (hown : OB2 w B v l) (gx c : Nat) (hx : a.eval x = .slice (some ⟨gx, 0, none⟩) 1 c)
  (h0 : w.cell? ⟨gx, 0, none⟩ = some (.int .i64 y.wd)) (h1 : w.cell? ⟨gx, 1, none⟩ = some (.slice y.a y.ws.length y.c)) (hl : l.length ≤ 1073741824) (hB : B ≤ w.heap.size)
  (h : ∀ g cap w', OB2 w' B (.slice (some ⟨g, 0, none⟩) (l.length + 1) cap) (l ++ [y]) → w.grownBy w' v.ownBlock → K (a.put o.dst (.slice (some ⟨g, 0, none⟩) (l.length + 1) cap)) w') :
  if Region.wanted o (yielded ops a.tmps) = true then Oper.wp Tryz.prog o a w K Q else E := by
 obtain ⟨i0, hi, hz0, hz1, hz2⟩ := info_parts Tryz.infoBits
 refine step_append_lies w hgd s x 25 ho B 80 i0 _ 2 32 Tryz.underlying25 hi hz0 hz1 hz2 rfl (by decide) v l.length (bwc l) hs hown ⟨gx, 0, none⟩ 1 c (bwc [y]) hx rfl ?_ ?_ (by decide) ?_ ?_ hB _ rfl ?_
 ·intro j u hj
  rw [Addr.add_lit]
  match j, hj with
  | 0, hj => simp [bwc] at hj; subst hj; exact h0
  | 1, hj => simp [bwc] at hj; subst hj; exact h1
  | j + 2, hj => simp [bwc] at hj
 ·intro u hu
  simp [bwc] at hu
  rcases hu with rfl | rfl <;> rfl
 ·unfold maxLen; omega
 ·omega
 ·intro g cap w' h1 h2 _ _
  refine h g cap w' ?_ h2
  unfold OB2
  rw [bwc_append, List.length_append]
  exact h1
theorem wpList_appB2 {w : World} {ops : Array Oper} {rest : List Oper} {o : Oper} {a : Act} {Q : Exit → Act → World → Prop} (hgd : o.guard = none) (s x : Operand)
  (ho : o.op = .call { callee := .builtin .append, args := #[s, x], argTypes := #[25, 25] })
  (B : Nat) (v : Value) (l : List Bw) (y : Bw) (hs : a.eval s = v) (hown : OB2 w B v l) (gx c : Nat) (hx : a.eval x = .slice (some ⟨gx, 0, none⟩) 1 c)
  (h0 : w.cell? ⟨gx, 0, none⟩ = some (.int .i64 y.wd)) (h1 : w.cell? ⟨gx, 1, none⟩ = some (.slice y.a y.ws.length y.c)) (hl : l.length ≤ 1073741824) (hB : B ≤ w.heap.size)
  (h : ∀ g cap w', OB2 w' B (.slice (some ⟨g, 0, none⟩) (l.length + 1) cap) (l ++ [y]) → w.grownBy w' v.ownBlock → wpList Tryz.prog ops Q rest (a.put o.dst (.slice (some ⟨g, 0, none⟩) (l.length + 1) cap)) w') : wpList Tryz.prog ops Q (o :: rest) a w := by
 obtain ⟨i0, hi, hz0, hz1, hz2⟩ := info_parts Tryz.infoBits
 refine wpList_append_lies w hgd s x 25 ho B 80 i0 _ 2 32 Tryz.underlying25 hi hz0 hz1 hz2 rfl (by decide) v l.length (bwc l) hs hown ⟨gx, 0, none⟩ 1 c (bwc [y]) hx rfl ?_ ?_ (by decide) ?_ ?_ hB _ rfl ?_
 ·intro j u hj
  rw [Addr.add_lit]
  match j, hj with
  | 0, hj => simp [bwc] at hj; subst hj; exact h0
  | 1, hj => simp [bwc] at hj; subst hj; exact h1
  | j + 2, hj => simp [bwc] at hj
 ·intro u hu
  simp [bwc] at hu
  rcases hu with rfl | rfl <;> rfl
 ·unfold maxLen; omega
 ·omega
 ·intro g cap w' h1 h2 _ _
  refine h g cap w' ?_ h2
  unfold OB2
  rw [bwc_append, List.length_append]
  exact h1
def DjB (l : List Bw) : Prop := ∀ (i j : Nat) (x y : Bw), i < j → l[i]? = some x → l[j]? = some y → ∀ p q, x.a = some p → y.a = some q → p.block ≠ q.block
theorem DjB.nil : DjB [] := fun i j x y _ h => by simp at h
theorem DjB.snoc {w : World} {B : Nat} {l : List Bw} {x : Bw} (h : DjB l) (hl : ∀ y ∈ l, Nw w B y.a y.ws) (hx : ∀ p, x.a = some p → w.heap.size ≤ p.block) : DjB (l ++ [x]) := fun i j y z hij hi hj p q hp hq => by
 rw [List.getElem?_append] at hi hj
 split at hj
 ·rename_i hjl
  rw [if_pos (by omega)] at hi
  exact h i j y z hij hi hj p q hp hq
 ·rename_i hjl
  have hj0 : j - l.length = 0 := by have := (List.getElem?_eq_some_iff.1 hj).1; simp at this; omega
  rw [hj0] at hj
  simp at hj
  subst hj
  rw [if_pos (by omega)] at hi
  have h1 := (nw_lt (hl y (List.mem_of_getElem? hi)) hp).2
  have h2 := hx q hq
  omega


structure Lc where
 id : Int
 eq : Bool
 ss : List Tc
 ts : List Tc

structure Lg where
 id : Int
 eq : Bool
 ss : List Tg
 sa : Option Addr
 sc : Nat
 ts : List Tg
 ta : Option Addr
 tc : Nat
def Lg.ct (x : Lg) : Lc := ⟨x.id, x.eq, x.ss.map Tg.ct, x.ts.map Tg.ct⟩
def Lg.val (x : Lg) : Value := .agg #[.int .i64 x.id, .bool x.eq, .slice x.sa x.ss.length x.sc, .slice x.ta x.ts.length x.tc]
def LgAt (w : World) (b o : Nat) (x : Lg) : Prop :=
 (w.cell? ⟨b, o, none⟩ = some (.int .i64 x.id) ∧ w.cell? ⟨b, o + 1, none⟩ = some (.bool x.eq) ∧ w.cell? ⟨b, o + 2, none⟩ = some (.slice x.sa x.ss.length x.sc) ∧ w.cell? ⟨b, o + 3, none⟩ = some (.slice x.ta x.ts.length x.tc)) ∧ RdT w x.sa x.ss ∧ RdT w x.ta x.ts ∧ in64 x.id
theorem LgAt.later {w w' : World} {b o : Nat} {x : Lg} (h : LgAt w b o x) (hb : Below w.heap.size w w') : LgAt w' b o x := by
 obtain ⟨⟨f0, f1, f2, f3⟩, f4, f5, f6⟩ := h
 have l := block_lt_of_cell f0
 exact ⟨⟨by rw [kcell hb _ _ l]; exact f0, by rw [kcell hb _ _ l]; exact f1, by rw [kcell hb _ _ l]; exact f2, by rw [kcell hb _ _ l]; exact f3⟩, f4.later hb, f5.later hb, f6⟩
def RdL (w : World) (a : Option Addr) (xs : List Lg) : Prop :=
 xs.length ≤ 1048576 ∧ (xs = [] ∨ ∃ b o, a = some ⟨b, o, none⟩ ∧ ∀ i n, xs[i]? = some n → LgAt w b (o + i * 4) n)
theorem RdL.later {w w' : World} {a : Option Addr} {xs : List Lg} (h : RdL w a xs) (hb : Below w.heap.size w w') : RdL w' a xs := by
 refine ⟨h.1, ?_⟩
 rcases h.2 with h | ⟨b, o, rfl, hc⟩
 ·exact .inl h
 ·exact .inr ⟨b, o, rfl, fun i n hi => (hc i n hi).later hb⟩

theorem Tryz.infoLit : (Tryz.prog.info? 30).map (fun i => (i.zero, i.size, i.bytes)) = some (some (.agg #[.int .i64 0, .bool false, .slice none 0 0, .slice none 0 0]), 4, 64) := by kernel_rfl

def lgc : List Lg → List Value
 | [] => []
 | x :: t => .int .i64 x.id :: .bool x.eq :: .slice x.sa x.ss.length x.sc :: .slice x.ta x.ts.length x.tc :: lgc t
theorem lgc_len (l : List Lg) : (lgc l).length = l.length * 4 := by
 induction l with
 | nil => rfl
 | cons x t ih => simp [lgc, ih]; omega
theorem lgc_append (xs ys : List Lg) : lgc (xs ++ ys) = lgc xs ++ lgc ys := by
 induction xs with
 | nil => rfl
 | cons x t ih => simp [lgc, ih]
theorem lgc_get : ∀ {l : List Lg} {i : Nat} {x : Lg}, l[i]? = some x → (lgc l)[i * 4]? = some (.int .i64 x.id) ∧ (lgc l)[i * 4 + 1]? = some (.bool x.eq) ∧ (lgc l)[i * 4 + 2]? = some (.slice x.sa x.ss.length x.sc) ∧ (lgc l)[i * 4 + 3]? = some (.slice x.ta x.ts.length x.tc)
 | y :: t, 0, x, h => by simp at h; subst h; simp [lgc]
 | y :: t, i + 1, x, h => by
  have := lgc_get (l := t) (i := i) (x := x) (by simpa using h)
  rw [show (i + 1) * 4 = i * 4 + 1 + 1 + 1 + 1 by omega]
  simpa [lgc] using this
def OL4 (w : World) (B : Nat) (v : Value) (l : List Lg) : Prop := w.ownsRow B 30 4 v l.length (lgc l)
theorem OL4.later {w w' : World} {B : Nat} {v : Value} {l : List Lg} (h : OL4 w B v l) (hb : Below w.heap.size w w') : OL4 w' B v l := World.ownsRow.kept (row := none) h ⟨hb.os, hb.tape, hb.output, hb.size, fun k hk _ => hb.block k hk⟩ (by
 cases h' : v.ownBlock with
 | none => exact .inl rfl
 | some k => exact .inr (by simp))
theorem OL4.lt {w : World} {B : Nat} {v : Value} {l : List Lg} (h : OL4 w B v l) {b : Nat} (hb : v.ownBlock = some b) : B ≤ b ∧ b < w.heap.size := by
 rcases h.2 with ⟨rfl, -⟩ | ⟨g, cap, cur, rfl, hg, hh, -⟩
 ·cases hb
 ·cases hb
  exact ⟨hg, lt_of_block hh⟩
theorem wpList_appL4 {w : World} {ops : Array Oper} {rest : List Oper} {o : Oper} {a : Act} {Q : Exit → Act → World → Prop} (hgd : o.guard = none) (s x : Operand)
  (ho : o.op = .call { callee := .builtin .append, args := #[s, x], argTypes := #[36, 36] })
  (B : Nat) (v : Value) (l : List Lg) (y : Lg) (hs : a.eval s = v) (hown : OL4 w B v l) (gx : Nat) (hx : a.eval x = .slice (some ⟨gx, 0, none⟩) 1 1)
  (h0 : w.cell? ⟨gx, 0, none⟩ = some (.int .i64 y.id)) (h1 : w.cell? ⟨gx, 1, none⟩ = some (.bool y.eq)) (h2 : w.cell? ⟨gx, 2, none⟩ = some (.slice y.sa y.ss.length y.sc)) (h3 : w.cell? ⟨gx, 3, none⟩ = some (.slice y.ta y.ts.length y.tc)) (hl : l.length ≤ 1073741824) (hB : B ≤ w.heap.size)
  (h : ∀ v' w', OL4 w' B v' (l ++ [y]) → w.grownBy w' v.ownBlock → wpList Tryz.prog ops Q rest (a.put o.dst v') w') : wpList Tryz.prog ops Q (o :: rest) a w := by
 obtain ⟨i0, hi, hz0, hz1, hz2⟩ := info_parts Tryz.infoLit
 refine wpList_append_own_at w hgd s x 36 ho B 30 i0 _ 4 64 Tryz.underlying36 hi hz0 hz1 hz2 rfl (by decide) v l.length (lgc l) hs hown ⟨gx, 0, none⟩ 1 1 (lgc [y]) hx rfl ?_ ?_ (by unfold maxLen; omega) (by omega) hB ?_
 ·intro j u hj
  rw [Addr.add_lit]
  match j, hj with
  | 0, hj => simp [lgc] at hj; subst hj; exact h0
  | 1, hj => simp [lgc] at hj; subst hj; exact h1
  | 2, hj => simp [lgc] at hj; subst hj; exact h2
  | 3, hj => simp [lgc] at hj; subst hj; exact h3
  | j + 4, hj => simp [lgc] at hj
 ·intro u hu
  simp [lgc] at hu
  rcases hu with rfl | rfl | rfl | rfl <;> rfl
 ·intro v' w' h1 h2 _ _
  refine h v' w' ?_ h2
  unfold OL4
  rw [lgc_append, List.length_append]
  exact h1

theorem Fresh.nwE {w : World} {lo : Nat} {a : Option Addr} {xs : List Nat} (h : Fresh w lo a xs) : Nw w lo a xs := by
 rcases h with ⟨h1, h2⟩ | ⟨g, h1, h2, h3⟩
 ·exact .inl ⟨h1, fun x e => by rw [h2] at e; cases e⟩
 ·exact .inr ⟨g, u64s xs, h1, h2, h3, fun i hi => u64s_get _ _ hi⟩
theorem Nw.put {w : World} {lo β : Nat} {a : Option Addr} {xs : List Nat} {x y : Value} {t : TypeId} (h : Nw w lo a xs) (hB : Blk w β x y t) (ht : t ≠ 109) (i : Nat) (v : Value) : Nw (w.setCell ⟨β, i, none⟩ v) lo a xs :=
 Nw.kept h fun k cur hc => heap_setCell_other _ _ _ _ (fun e => by
  simp only [] at e
  subst e
  rw [hB] at hc
  cases hc
  exact ht rfl)
def RetV (u : World) (X : Int × List Nat) (e : Ending) (w' : World) : Prop := ∃ a c, e = .returned (.agg #[.int .i64 X.1, .slice a X.2.length c]) ∧ Nw w' u.heap.size a X.2 ∧ Below u.heap.size u w'
theorem Blk.put0' {w : World} {β : Nat} {x y : Value} {t : TypeId} (h : Blk w β x y t) (u : Value) : Blk (w.setCell ⟨β, 0, none⟩ u) β u y t := by
 unfold Blk
 rw [heap_setCell_same w β 0 _ _ _ h]; rfl
theorem Blk.put1' {w : World} {β : Nat} {x y : Value} {t : TypeId} (h : Blk w β x y t) (u : Value) : Blk (w.setCell ⟨β, 1, none⟩ u) β x u t := by
 unfold Blk
 rw [heap_setCell_same w β 1 _ _ _ h]; rfl
theorem set2_far (w : World) (β : Nat) (x y : Value) (a : Addr) (h : a.block ≠ β) : ((w.setCell ⟨β, 0, none⟩ x).setCell ⟨β, 1, none⟩ y).cell? a = w.cell? a := by
 rw [World.cell?_setCell_far _ _ _ _ (fun e => h e.symm), World.cell?_setCell_far _ _ _ _ (fun e => h e.symm)]
theorem drew2_far (w : World) (β : Nat) (x y : Value) (a : Addr) (h : a.block ≠ β) : ((w.setCell ⟨β, 0, none⟩ x).setCell ⟨β, 1, none⟩ y).drew.cell? a = w.cell? a := set2_far w β x y a h
theorem RetV.box {u w5 : World} {ρ lo c : Nat} {W : Int} {a : Option Addr} {xs : List Nat} {x y : Value} (hB : Blk w5 ρ x y 80) (hn : Nw w5 lo a xs) (hlo : u.heap.size ≤ lo) (hρ : u.heap.size ≤ ρ) (hb : Below u.heap.size u w5) :
  RetV u (W, xs) (.returned (.agg #[.int .i64 W, .slice a xs.length c])) ((w5.setCell ⟨ρ, 0, none⟩ (.int .i64 W)).setCell ⟨ρ, 1, none⟩ (.slice a xs.length c)) :=
 ⟨a, c, rfl, ((hn.mono hlo).put hB (by decide) 0 _).put (hB.put0' _) (by decide) 1 _, (hb.setCell hρ _).setCell hρ _⟩
set_option maxHeartbeats 1000000 in
theorem copyBits_any (W : Int) (a : Option Addr) (c : Nat) (xs : List Nat) (w : World) (hr : Rd w a xs) (hx : 1 ≤ xs.length) :
  Calls Tryz.prog 134 #[.agg #[.int .i64 W, .slice a xs.length c]] w (RetV w (W, xs)) := by
 have s0 := St.start w (.cells #[.int .i64 W, .slice a xs.length c] 80)
 have hb1 : Below w.heap.size w ((w.alloc (Obj.cells #[.int .i64 W, .slice a xs.length c] 80)).alloc (Obj.cells #[.int .i64 0, .slice none 0 0] 80)) := Ba (Ba (Below.refl _ _) _) _
 have hA := (Blk.new w (.int .i64 W) (.slice a xs.length c) 80).alloc (Obj.cells #[.int .i64 0, .slice none 0 0] 80)
 have hR := Blk.new1 w (Obj.cells #[.int .i64 W, .slice a xs.length c] 80) (.int .i64 0) (.slice none 0 0) 80
 have hs1 : ((w.alloc (Obj.cells #[.int .i64 W, .slice a xs.length c] 80)).alloc (Obj.cells #[.int .i64 0, .slice none 0 0] 80)).heap.size = w.heap.size + 2 := by simp
 obtain ⟨hl, hx2, h | ⟨b, o, rfl, hc⟩⟩ := hr.later hb1
 ·rw [h] at hx; simp at hx
 obtain ⟨a0, a1⟩ := hA.cells
 have HC := kide hc
 have HX := kide hx2
 go_enter Tryz.func134, Tryz.ntmps134
 go_wp2_with fail
 generalize ((w.alloc (Obj.cells #[.int .i64 W, .slice (some ⟨b, o, none⟩) xs.length c] 80)).alloc (Obj.cells #[.int .i64 0, .slice none 0 0] 80)) = w1 at *
 clear hc hx2 hr s0
 go_region_held_law (fun u => u.cell? ⟨w.heap.size, 0, none⟩ = some (Value.int IntKind.i64 W) ∧ u.cell? ⟨w.heap.size, 1, none⟩ = some (Value.slice (some { block := b, off := o }) xs.length c))
  (first | (refine ⟨?_, ?_⟩ <;> assumption) | (refine ⟨?_, ?_⟩ <;> (rw [World.cell?_setCell_far _ _ _ _ (by simp <;> omega), World.cell?_setCell_far _ _ _ _ (by simp <;> omega)]; assumption)))
  (first
   | (refine step_appWs _ rfl _ _ rfl w1.heap.size (.slice none 0 0) [] xs rfl (OwW.nils _ _) b o c rfl HC.out (by simp; omega) (Nat.le_refl _) ?_; intro v5 w5 how5 hgr5; have hb5 : Below w1.heap.size w1 w5 := kundrew ⟨hgr5.os, hgr5.tape, hgr5.output, hgr5.size, fun k hk => hgr5.block k hk (by simp [Value.ownBlock])⟩; rw [List.nil_append] at how5; obtain ⟨a5, c5, rfl, hn5⟩ := how5.shape; have hA5 := hA.next hb5; have hR5 := hR.next hb5; obtain ⟨a50, a51⟩ := hA5.cells; obtain ⟨r50, r51⟩ := hR5.cells; have f50 := frozen_of_row w5 _ 0 _ _ hR5; have f51 := frozen_of_row w5 _ 1 _ _ hR5))
 go_wp2
 obtain ⟨q0, q1⟩ := ((hR5.put0' (.int .i64 W)).put1' (.slice a5 xs.length c5)).cells
 exact bodyPost_ret (v := .agg #[.int .i64 W, .slice a5 xs.length c5]) (by simp [results, Tryz.results134, go_sem, q0, q1]) rfl (RetV.box hR5 hn5 (by omega) (by omega) (hb1.trans (hb5.mono (by omega))))

def topOf (V : Nat) (xs : List Nat) (sign : Bool) : Nat := if sign then (tb xs (V - 1)).toNat else 0
theorem topOf_le (V : Nat) (xs : List Nat) (sign : Bool) : topOf V xs sign ≤ 1 := by
 unfold topOf
 split
 ·cases tb xs (V - 1) <;> decide
 ·omega
def wdnR (W : Int) (xs : List Nat) (n : Int) (sign : Bool) : Int × List Nat × Bool :=
 if rightB W xs = true ∧ 0 ≤ n ∧ n ≤ 4096 ∧ W + n ≤ 4096 then (W + n, pack (bitsTo xs W.toNat ++ List.replicate n.toNat (topOf W.toNat xs sign)), true) else noR
set_option maxHeartbeats 1000000 in
set_option maxRecDepth 100000 in
theorem specWid_any (W : Int) (a : Option Addr) (c : Nat) (xs : List Nat) (n : Int) (sign : Bool) (w : World) (hr : Rd w a xs) :
  Calls Tryz.prog 98 #[.agg #[.int .i64 W, .slice a xs.length c], .int .i64 n, .bool sign] w (RetB w (wdnR W xs n sign)) := by
 have h2 : Below w.heap.size w ((w.alloc (Obj.cells #[.int IntKind.i64 W, .slice a xs.length c] 80)).alloc (Obj.cells #[.int IntKind.i64 0, .slice none 0 0] 80)) := ((Below.refl _ _).alloc (Nat.le_refl _) _).alloc (by simp) _
 have hr' := hr.later h2
 by_cases hc : rightB W xs = true ∧ 0 ≤ n ∧ n ≤ 4096
 ·obtain ⟨hok, hn1, hn2⟩ := hc
  have hRR : wdnR W xs n sign = if W + n ≤ 4096 then (W + n, pack (bitsTo xs W.toNat ++ List.replicate n.toNat (topOf W.toNat xs sign)), true) else noR := by
   unfold wdnR; simp [hok, hn1, hn2]
  rw [hRR]
  generalize hR : (if W + n ≤ 4096 then (W + n, pack (bitsTo xs W.toNat ++ List.replicate n.toNat (topOf W.toNat xs sign)), true) else noR) = R
  have HR : Hid ((if W + n ≤ 4096 then (W + n, pack (bitsTo xs W.toNat ++ List.replicate n.toNat (topOf W.toNat xs sign)), true) else noR) = R) := hR
  clear hR hRR
  obtain ⟨hW1, hW2, hWl⟩ := right_W hok
  obtain ⟨V, rfl⟩ := Int.eq_ofNat_of_zero_le (show 0 ≤ W by omega)
  obtain ⟨m, rfl⟩ := Int.eq_ofNat_of_zero_le hn1
  have hVl : V ≤ 64 * xs.length := by omega
  have hd : decide (0 ≤ (m : Int) ∧ (m : Int) ≤ 4096) = true := by simp; omega
  have HWl : Hid ((xs.length : Int) = ((V : Int) + 63) / 64) := hWl
  clear hWl
  have ht := topOf_le V xs sign
  have hv0 : (0 : Int) ≤ (V : Int) - 1 := by omega
  have hv1 : (V : Int) - 1 < (V : Int) := by omega
  go_enter Tryz.func98, Tryz.ntmps98
  go_wp2_with fail
  refine (specOk_any _ _ _ _ _ hr').mono ?_
  rintro e w1 ⟨rfl, hb1⟩
  have hr1 := hr'.later hb1
  have HB1 := hb1
  obtain ⟨hcc, hff⟩ := bcell hb1
  have hz : w.heap.size + 1 < w1.heap.size := by have := hb1.size; simp at this; omega
  clear hb1
  go_wp2_with (go_at_call 73; refine (l1In_any _ _ _ _).mono ?_; rintro e w' ⟨rfl, rfl⟩)
  refine (l1List_any _ _ _ _ _ hr1 hVl (by omega)).mono ?_
  rintro e w2 ⟨v, rfl, how, hb2⟩
  have hlen := bitsTo_len xs V
  have hle := bitsTo_le xs V
  obtain ⟨a2, c2, rfl, hrb, hc2, hm2⟩ := how.shape (by rw [bitsTo_len]; omega) (fun x hx => by have := hle x hx; omega)
  have HB2 := chain HB1 hb2
  have hsz2 := hb2.size
  rw [hlen] at hc2 how ⊢
  obtain ⟨-, -, hn | ⟨bb, oo, rfl, hcell⟩⟩ := hrb
  ·rw [hn] at hlen; simp at hlen; omega
  have htop : w2.cell? ⟨bb, oo + (V - 1), none⟩ = some (.int .u8 ((((tb xs (V - 1)).toNat : Nat)) : Int)) := by
   rw [hcell (V - 1) (by omega)]
   simp [List.getD, bitsTo, show V - 1 < V by omega]
  generalize hbs : bitsTo xs V = bs at *
  have HBS : Hid (bitsTo xs V = bs) := hbs
  have hbase : w'.heap.size + 1 ≤ w2.heap.size := by
   have := how.own bb rfl
   have hbb : bb < w2.heap.size := block_lt_of_cell htop
   omega
  have HB1s := HB1.size
  clear hbs hcell hb2 hr hr' hr1 hcc hff hz HB1
  cases sign with
  | false =>
   have HT : Hid (topOf V xs false = 0) := rfl
   go_wp2_with fail
   go_loopw [8, 10] (fun v i wr => ∃ k : Nat, k ≤ m ∧ i = .int .i64 k ∧ OwB wr (w'.heap.size + 1) v (bs ++ List.replicate k 0) ∧ Below (w'.heap.size + 1) w2 wr) (fun _ i _ => m - (intOf i).toNat)
   case atStart => exact ⟨0, Nat.zero_le _, rfl, by rw [List.replicate_zero, List.append_nil]; unfold OwB; rw [hlen]; unfold OwB at how; rw [hlen] at how; exact how, Below.refl _ _⟩
   case round =>
    obtain ⟨k, hk, rfl, hown, hbel⟩ := hrel
    by_cases hlt : k < m
    ·have hsz := hbel.size
     have HS : Hid (bs ++ List.replicate (k + 1) 0 = (bs ++ List.replicate k 0) ++ [0]) := by show _ = _; rw [List.replicate_succ', List.append_assoc]
     have hll : (bs ++ List.replicate k 0).length ≤ 4194304 := by simp [hlen]; omega
     generalize bs ++ List.replicate k 0 = rk at *
     clear how htop
     go_wp2_with (at_builtin; refine wpList_appB _ rfl _ _ rfl (w'.heap.size + 1) _ rk 0 rfl (hown.alloc _) wr.heap.size rfl (by simp) hll (by simp; omega) ?_)
     intro v' w4 hown4 hgr4
     have hb4 : Below (w'.heap.size + 1) w2 w4 := (hbel.alloc (by omega) _).grown hgr4 (by simp; omega) hown.own
     clear hgr4 hown hbel
     go_wp2
     go_roundw
     case rel => exact ⟨k + 1, by omega, by go_num, by rw [HS.out]; exact hown4, hb4⟩
     case measure => simp [intOf]; omega
    ·have e : k = m := by omega
     subst e
     have hrl : (bs ++ List.replicate k 0).length = V + k := by simp [hlen]
     have HBr := HB2.trans (hbel.mono (show _ ≤ w'.heap.size + 1 by have := HB1s; omega))
     obtain ⟨a4, c4, rfl, hrb4, hc4, hm4⟩ := hown.shape (by rw [hrl]; omega) (fun x hx => by
      rcases List.mem_append.1 hx with h | h
      ·have := hle x h; omega
      ·have := List.eq_of_mem_replicate h; rw [HT.out] at ht; omega)
     by_cases hVk : V + k ≤ 4096
     ·have HQ : Hid ((((bs ++ List.replicate k 0).length : Int), pack (bs ++ List.replicate k 0), true) = R) := by
       show _ = _
       rw [← HR.out, if_pos (by omega), Int.toNat_natCast, Int.toNat_natCast, HBS.out, HT.out, hrl, Int.natCast_add]
      have hfrom := l1From_yes a4 c4 (bs ++ List.replicate k 0) wr hrb4 (by omega) (by omega)
      clear how hown hrb4 hbel HR HBS htop
      generalize bs ++ List.replicate k 0 = rk at *
      clear hrl
      go_wp2_with fail
      refine hfrom.mono ?_
      rintro e w5 ⟨a5, c5, rfl, hfr, hb5⟩
      have HB5 := chain HBr hb5
      obtain ⟨hcc, hff⟩ := bcell HB5
      have hz5 : w.heap.size + 1 < w5.heap.size := by have := HB5.size; simp at this; omega
      have hzr : w.heap.size + 1 < wr.heap.size := by have := HBr.size; simp at this; omega
      dsimp only at hfr ⊢
      clear hfrom
      go_wp2
      exact bodyPost_ret (by simp [results, Tryz.results98, go_sem, hcc, hz5]; rfl) rfl (RetB.close (r := ((rk.length : Int), pack rk, true)) hfr (by omega) hzr (h2.trans (HB5.mono (by simp; omega))) HQ.out _ _)
     ·have HQ : Hid (noR = R) := by show _ = _; rw [← HR.out, if_neg (by omega)]
      have hfrom := l1From_no a4 (bs ++ List.replicate k 0).length c4 wr (.inr (by omega)) (by omega)
      clear how hown hrb4 hbel HR HBS htop
      generalize bs ++ List.replicate k 0 = rk at *
      clear hrl
      go_wp2_with fail
      refine hfrom.mono ?_
      rintro e w5 ⟨rfl, hb5⟩
      have HB5 := chain HBr hb5
      obtain ⟨hcc, hff⟩ := bcell HB5
      have hz5 : w.heap.size + 1 < w5.heap.size := by have := HB5.size; simp at this; omega
      clear hfrom
      go_wp2
      refine bodyPost_ret (v := .tuple #[.agg #[.int .i64 0, .slice none 0 0], .bool false]) (by simp [results, Tryz.results98, go_sem, hcc]) rfl ?_
      rw [← HQ.out]
      exact RetB.no (((h2.trans (HB5.mono (by simp; omega))).setCell (by simp) _).setCell (by simp) _)
  | true =>
   have HT : Hid (topOf V xs true = (tb xs (V - 1)).toNat) := rfl
   generalize (tb xs (V - 1)).toNat = t at *
   go_wp2_with fail
   go_loopw [8, 10] (fun v i wr => ∃ k : Nat, k ≤ m ∧ i = .int .i64 k ∧ OwB wr (w'.heap.size + 1) v (bs ++ List.replicate k t) ∧ Below (w'.heap.size + 1) w2 wr) (fun _ i _ => m - (intOf i).toNat)
   case atStart => exact ⟨0, Nat.zero_le _, rfl, by rw [List.replicate_zero, List.append_nil]; unfold OwB; rw [hlen]; unfold OwB at how; rw [hlen] at how; exact how, Below.refl _ _⟩
   case round =>
    obtain ⟨k, hk, rfl, hown, hbel⟩ := hrel
    by_cases hlt : k < m
    ·have hsz := hbel.size
     have HS : Hid (bs ++ List.replicate (k + 1) t = (bs ++ List.replicate k t) ++ [t]) := by show _ = _; rw [List.replicate_succ', List.append_assoc]
     have hll : (bs ++ List.replicate k t).length ≤ 4194304 := by simp [hlen]; omega
     generalize bs ++ List.replicate k t = rk at *
     clear how htop
     go_wp2_with (at_builtin; refine wpList_appB _ rfl _ _ rfl (w'.heap.size + 1) _ rk t rfl (hown.alloc _) wr.heap.size rfl (by simp) hll (by simp; omega) ?_)
     intro v' w4 hown4 hgr4
     have hb4 : Below (w'.heap.size + 1) w2 w4 := (hbel.alloc (by omega) _).grown hgr4 (by simp; omega) hown.own
     clear hgr4 hown hbel
     go_wp2
     go_roundw
     case rel => exact ⟨k + 1, by omega, by go_num, by rw [HS.out]; exact hown4, hb4⟩
     case measure => simp [intOf]; omega
    ·have e : k = m := by omega
     subst e
     have hrl : (bs ++ List.replicate k t).length = V + k := by simp [hlen]
     have HBr := HB2.trans (hbel.mono (show _ ≤ w'.heap.size + 1 by have := HB1s; omega))
     obtain ⟨a4, c4, rfl, hrb4, hc4, hm4⟩ := hown.shape (by rw [hrl]; omega) (fun x hx => by
      rcases List.mem_append.1 hx with h | h
      ·have := hle x h; omega
      ·have := List.eq_of_mem_replicate h; rw [HT.out] at ht; omega)
     by_cases hVk : V + k ≤ 4096
     ·have HQ : Hid ((((bs ++ List.replicate k t).length : Int), pack (bs ++ List.replicate k t), true) = R) := by
       show _ = _
       rw [← HR.out, if_pos (by omega), Int.toNat_natCast, Int.toNat_natCast, HBS.out, HT.out, hrl, Int.natCast_add]
      have hfrom := l1From_yes a4 c4 (bs ++ List.replicate k t) wr hrb4 (by omega) (by omega)
      clear how hown hrb4 hbel HR HBS htop
      generalize bs ++ List.replicate k t = rk at *
      clear hrl
      go_wp2_with fail
      refine hfrom.mono ?_
      rintro e w5 ⟨a5, c5, rfl, hfr, hb5⟩
      have HB5 := chain HBr hb5
      obtain ⟨hcc, hff⟩ := bcell HB5
      have hz5 : w.heap.size + 1 < w5.heap.size := by have := HB5.size; simp at this; omega
      have hzr : w.heap.size + 1 < wr.heap.size := by have := HBr.size; simp at this; omega
      dsimp only at hfr ⊢
      clear hfrom
      go_wp2
      exact bodyPost_ret (by simp [results, Tryz.results98, go_sem, hcc, hz5]; rfl) rfl (RetB.close (r := ((rk.length : Int), pack rk, true)) hfr (by omega) hzr (h2.trans (HB5.mono (by simp; omega))) HQ.out _ _)
     ·have HQ : Hid (noR = R) := by show _ = _; rw [← HR.out, if_neg (by omega)]
      have hfrom := l1From_no a4 (bs ++ List.replicate k t).length c4 wr (.inr (by omega)) (by omega)
      clear how hown hrb4 hbel HR HBS htop
      generalize bs ++ List.replicate k t = rk at *
      clear hrl
      go_wp2_with fail
      refine hfrom.mono ?_
      rintro e w5 ⟨rfl, hb5⟩
      have HB5 := chain HBr hb5
      obtain ⟨hcc, hff⟩ := bcell HB5
      have hz5 : w.heap.size + 1 < w5.heap.size := by have := HB5.size; simp at this; omega
      clear hfrom
      go_wp2
      refine bodyPost_ret (v := .tuple #[.agg #[.int .i64 0, .slice none 0 0], .bool false]) (by simp [results, Tryz.results98, go_sem, hcc]) rfl ?_
      rw [← HQ.out]
      exact RetB.no (((h2.trans (HB5.mono (by simp; omega))).setCell (by simp) _).setCell (by simp) _)
 ·have hnR : wdnR W xs n sign = noR := by
   unfold wdnR
   rw [if_neg]
   rintro ⟨h1, h3, h4, _⟩
   exact hc ⟨h1, h3, h4⟩
  rw [hnR]
  have hcase : rightB W xs = false ∨ (rightB W xs = true ∧ decide (0 ≤ n ∧ n ≤ 4096) = false) := by
   cases hb : rightB W xs with
   | false => exact .inl rfl
   | true =>
    right
    refine ⟨rfl, ?_⟩
    by_cases h : 0 ≤ n ∧ n ≤ 4096
    ·exact absurd ⟨hb, h.1, h.2⟩ hc
    ·simp only [h, decide_false]
  clear hc hnR
  rcases hcase with h | ⟨h, h1⟩
  ·go_enter Tryz.func98, Tryz.ntmps98
   go_wp2_with fail
   refine (specOk_any _ _ _ _ _ hr').mono ?_
   rintro e w1 ⟨rfl, hb1⟩
   obtain ⟨hcc, hff⟩ := bcell hb1
   have hz : w.heap.size + 1 < w1.heap.size := by have := hb1.size; simp at this; omega
   go_wp2_with (go_at_call 73; refine (l1In_any _ _ _ _).mono ?_; rintro e w' ⟨rfl, rfl⟩)
   exact bodyPost_ret (v := .tuple #[.agg #[.int .i64 0, .slice none 0 0], .bool false]) (by simp [results, Tryz.results98, go_sem, hcc]) rfl (RetB.no (((h2.trans (hb1.mono (by simp; omega))).setCell (by simp) _).setCell (by simp) _))
  ·go_enter Tryz.func98, Tryz.ntmps98
   go_wp2_with fail
   refine (specOk_any _ _ _ _ _ hr').mono ?_
   rintro e w1 ⟨rfl, hb1⟩
   obtain ⟨hcc, hff⟩ := bcell hb1
   have hz : w.heap.size + 1 < w1.heap.size := by have := hb1.size; simp at this; omega
   go_wp2_with (go_at_call 73; refine (l1In_any _ _ _ _).mono ?_; rintro e w' ⟨rfl, rfl⟩)
   exact bodyPost_ret (v := .tuple #[.agg #[.int .i64 0, .slice none 0 0], .bool false]) (by simp [results, Tryz.results98, go_sem, hcc]) rfl (RetB.no (((h2.trans (hb1.mono (by simp; omega))).setCell (by simp) _).setCell (by simp) _))

theorem join_pack {P q : Nat} {xs ys : List Nat} (hx : rightB P xs = true) (hy : rightB q ys = true) (zs : List Nat) (hl : zs.length = (q + P + 63) / 64) (hz : ∀ x ∈ zs, x < 18446744073709551616)
  (h : ∀ j, j < 64 * zs.length → tb zs j = (tb ys j || (decide (q ≤ j) && tb xs (j - q)))) : zs = pack (bitsTo ys q ++ bitsTo xs P) := by
 refine eq_pack (fun x hxm => ?_) (by simp [hl, bitsTo_len]) hz fun i hi => ?_
 ·rcases List.mem_append.1 hxm with h | h
  ·exact bitsTo_le ys q x h
  ·exact bitsTo_le xs P x h
 ·rw [h i hi]
  by_cases h1 : i < q
  ·have e : (bitsTo ys q ++ bitsTo xs P).getD i 0 = (tb ys i).toNat := by
    simp only [List.getD]
    rw [List.getElem?_append_left (by rw [bitsTo_len]; exact h1)]
    simp [bitsTo, h1]
   rw [e]
   simp [show ¬ q ≤ i by omega]
  ·rw [tb_out hy i (by omega)]
   by_cases h2 : i - q < P
   ·have e : (bitsTo ys q ++ bitsTo xs P).getD i 0 = (tb xs (i - q)).toNat := by
     simp only [List.getD]
     rw [List.getElem?_append_right (by rw [bitsTo_len]; omega), bitsTo_len]
     simp [bitsTo, h2]
    rw [e]
    simp [show q ≤ i by omega]
   ·have e : (bitsTo ys q ++ bitsTo xs P).getD i 0 = 0 := by
     simp only [List.getD]
     rw [List.getElem?_eq_none (by simp [bitsTo_len]; omega)]
     rfl
    rw [e, tb_out hx (i - q) (by omega)]
    simp
set_option maxHeartbeats 2000000 in
set_option maxRecDepth 100000 in
theorem implJoin_any (W : Int) (a : Option Addr) (c : Nat) (xs : List Nat) (V : Int) (b : Option Addr) (d : Nat) (ys : List Nat) (w : World) (hr : Rd w a xs) (hs : Rd w b ys) :
  Calls Tryz.prog 152 #[.agg #[.int .i64 W, .slice a xs.length c], .agg #[.int .i64 V, .slice b ys.length d]] w (RetB w (joinR W xs V ys)) := by
 have h3 : Below w.heap.size w (((w.alloc (Obj.cells #[.int IntKind.i64 W, .slice a xs.length c] 80)).alloc (Obj.cells #[.int IntKind.i64 V, .slice b ys.length d] 80)).alloc (Obj.cells #[.int IntKind.i64 0, .slice none 0 0] 80)) := Ba (Ba (Ba (Below.refl _ _) _) _) _
 have hr' := hr.later h3
 have hs' := hs.later h3
 have bR0 := Blk.new2 w (Obj.cells #[.int IntKind.i64 W, .slice a xs.length c] 80) (Obj.cells #[.int IntKind.i64 V, .slice b ys.length d] 80) (Value.int IntKind.i64 0) (Value.slice none 0 0) 80
 have bB0 := (Blk.new1 w (Obj.cells #[.int IntKind.i64 W, .slice a xs.length c] 80) (Value.int IntKind.i64 V) (Value.slice b ys.length d) 80).alloc (Obj.cells #[.int IntKind.i64 0, .slice none 0 0] 80)
 have bA0 := ((Blk.new w (Value.int IntKind.i64 W) (Value.slice a xs.length c) 80).alloc (Obj.cells #[.int IntKind.i64 V, .slice b ys.length d] 80)).alloc (Obj.cells #[.int IntKind.i64 0, .slice none 0 0] 80)
 have hOk : ∀ (W : Int) (a : Option Addr) (c : Nat) (xs : List Nat) (u : World) (r : Bool), rightB W xs = r → Rd u a xs → Calls Tryz.prog 76 #[.agg #[.int .i64 W, .slice a xs.length c]] u fun e w' => e = .returned (.bool r) ∧ Below u.heap.size u w' := fun W a c xs u r h hu => by
  have := implOk_any W a c xs u hu
  rwa [h] at this
 have HOK : Hid _ := hOk
 clear hOk
 cases hoa : rightB W xs with
 | false =>
  have hc : joinR W xs V ys = noR := by unfold joinR; simp [hoa]
  rw [hc]
  go_enter Tryz.func152, Tryz.ntmps152
  go_wp2_with fail
  refine (HOK.out _ _ _ _ _ _ hoa hr').mono ?_
  rintro e w3 ⟨rfl, hb3⟩
  have B3 := chain h3 hb3
  have bR3 := bR0.next hb3
  obtain ⟨r0, r1⟩ := bR3.cells
  have f0 := bR3.free 0
  have f1 := bR3.free 1
  go_wp2
  exact bodyPost_ret (v := .tuple #[.agg #[.int .i64 0, .slice none 0 0], .bool false]) (by simp [results, Tryz.results152, go_sem, r0, r1]) rfl (RetB.no ((B3.setCell (by simp; omega) _).setCell (by simp; omega) _))
 | true =>
  obtain ⟨c0, c1⟩ := bA0.cells
  obtain ⟨d0, d1⟩ := bB0.cells
  cases hob : rightB V ys with
  | false =>
   have hc : joinR W xs V ys = noR := by unfold joinR; simp [hob]
   rw [hc]
   go_enter Tryz.func152, Tryz.ntmps152
   go_wp2_with fail
   refine (HOK.out _ _ _ _ _ _ hoa hr').mono ?_
   rintro e w3 ⟨rfl, hb3⟩
   have B3 := chain h3 hb3
   have bB3 := bB0.next hb3
   obtain ⟨l0, l1⟩ := bB3.cells
   go_wp2_with fail
   refine (HOK.out _ _ _ _ _ _ hob (hs'.later hb3)).mono ?_
   rintro e w4 ⟨rfl, hb4⟩
   have B4 := chain B3 hb4
   have bR4 := (bR0.next hb3).next hb4
   obtain ⟨r0, r1⟩ := bR4.cells
   have f0 := bR4.free 0
   have f1 := bR4.free 1
   go_wp2
   exact bodyPost_ret (v := .tuple #[.agg #[.int .i64 0, .slice none 0 0], .bool false]) (by simp [results, Tryz.results152, go_sem, r0, r1]) rfl (RetB.no ((B4.setCell (by simp; omega) _).setCell (by simp; omega) _))
  | true =>
   have hc : joinR W xs V ys = fromR (joinL W xs V ys) := by unfold joinR; simp [hoa, hob]
   rw [hc]
   clear hc
   obtain ⟨hW1, hW2, hWl⟩ := right_W hoa
   obtain ⟨hV1, hV2, hVl⟩ := right_W hob
   obtain ⟨P, rfl⟩ := Int.eq_ofNat_of_zero_le (show 0 ≤ W by omega)
   obtain ⟨q, rfl⟩ := Int.eq_ofNat_of_zero_le (show 0 ≤ V by omega)
   have hxx := hr.2.1
   have hyy := hs.2.1
   have hx64 : xs.length ≤ 64 := by omega
   have hy64 : ys.length ≤ 64 := by omega
   have hab := hr.lt (by omega)
   have hbb := hs.lt (by omega)
   clear hWl hVl
   generalize hR : fromR (joinL (P : Int) xs (q : Int) ys) = R
   have HR : Hid (fromR (bitsTo ys q ++ bitsTo xs P) = R) := hR
   clear hR
   go_enter Tryz.func152, Tryz.ntmps152
   go_wp2_with fail
   refine (HOK.out _ _ _ _ _ _ hoa hr').mono ?_
   rintro e w3 ⟨rfl, hb3⟩
   have B3 := chain h3 hb3
   have bB3 := bB0.next hb3
   obtain ⟨l0, l1⟩ := bB3.cells
   go_wp2_with fail
   refine (HOK.out _ _ _ _ _ _ hob (hs'.later hb3)).mono ?_
   rintro e w4 ⟨rfl, hb4⟩
   have B4 := chain B3 hb4
   have bA4 := (bA0.next hb3).next hb4
   have bB4 := (bB0.next hb3).next hb4
   have bR4 := (bR0.next hb3).next hb4
   clear hb3 hb4 B3 bB3 l0 l1 c0 c1 d0 d1 bA0 bB0 bR0 h3 hr' hs' HOK
   obtain ⟨k0, k1⟩ := bA4.cells
   obtain ⟨l0, l1⟩ := bB4.cells
   by_cases hPq : (P : Int) + q ≤ 4096
   ·go_wp2_with fail
    rw [← Int.natCast_add]
    generalize hq : P + q = m at *
    refine (zeroBits_any m _ (by omega) (by omega)).mono ?_
    rintro e w5 ⟨g, rfl, hg, hown, hb5⟩
    generalize hN : (m + 63) / 64 = N at *
    have HN : Hid ((m + 63) / 64 = N) := hN
    have Hq : Hid (P + q = m) := hq
    have hm1 : 1 ≤ m := by omega
    have hm2 : m ≤ 4096 := by omega
    have hN64 : N ≤ 64 := by omega
    have hfit : m ≤ 64 * N := by omega
    have B5 := chain B4 hb5
    have bA5 := bA4.next hb5
    have bB5 := bB4.next hb5
    have bR5 := bR4.next hb5
    have hgr := bR4.lt
    have hgl := hown.lt
    clear hN hq hb5 B4 bA4 bB4 bR4 k0 k1 l0 l1
    obtain ⟨l0, l1⟩ := bB5.cells
    have hlR := bR5.lt
    have hlB := bB5.lt
    have hlA := bA5.lt
    go_wp2_with fail
    have hput := putBits_any (m : Int) (q : Int) g N d 0 b (List.replicate N 0) ys _ (hown.alloc (Obj.cells #[.int IntKind.i64 m, .slice (some ⟨g, 0, none⟩) N N] 80)) (hs.later (Ba B5 _)) (fun x hx => by have := List.eq_of_mem_replicate hx; omega) (by omega) (by simp; omega) hy64 (by rw [List.length_replicate]; exact put_fit hob hyy 0 N (by have := Hq.out; omega)) (fun x hx => by have := hbb x hx; omega)
    rw [List.length_replicate] at hput
    refine hput.mono ?_
    rintro e w6 ⟨rfl, hown6, hgr6⟩
    have bO3 := Blk.new w5 (Value.int IntKind.i64 m) (Value.slice (some ⟨g, 0, none⟩) N N) 80
    have bA3 := bA5.alloc (Obj.cells #[.int IntKind.i64 m, .slice (some ⟨g, 0, none⟩) N N] 80)
    have bB3 := bB5.alloc (Obj.cells #[.int IntKind.i64 m, .slice (some ⟨g, 0, none⟩) N N] 80)
    have bR3 := bR5.alloc (Obj.cells #[.int IntKind.i64 m, .slice (some ⟨g, 0, none⟩) N N] 80)
    have B3 := Ba B5 (Obj.cells #[.int IntKind.i64 m, .slice (some ⟨g, 0, none⟩) N N] 80)
    have ho3 := hown.alloc (Obj.cells #[.int IntKind.i64 m, .slice (some ⟨g, 0, none⟩) N N] 80)
    have f3 := ho3.fr (Nat.le_refl g)
    have m6 : Marked _ w6 (some ⟨g, 0, none⟩) := hgr6
    have bO6 := bO3.mark f3 m6 (by decide)
    have bA6 := bA3.mark f3 m6 (by decide)
    have bB6 := bB3.mark f3 m6 (by decide)
    have bR6 := bR3.mark f3 m6 (by decide)
    have B6 := m6.below f3 B3 (by omega)
    have hlen6 : (putTo (List.replicate N 0) ys (0 / 64) (0 % 64) ys.length).length = N := by rw [putTo_len, List.length_replicate]
    have hlt6 := putTo_lt (List.replicate N 0) ys (0 / 64) (0 % 64) ys.length (fun x hx => by have := List.eq_of_mem_replicate hx; omega) hyy
    have htb6 : ∀ j, tb (putTo (List.replicate N 0) ys (0 / 64) (0 % 64) ys.length) j = tb ys j := fun j => by
     rw [tb_put_right hob hyy _ 0 (by have := Hq.out; simp; omega), tb_zero]; simp
    generalize putTo (List.replicate N 0) ys (0 / 64) (0 % 64) ys.length = y6 at *
    have HL6 : Hid (y6.length = N) := hlen6
    clear hput bO3 bA3 bB3 bR3 B3 ho3 f3 m6 hgr6 B5 bA5 bB5 bR5 hown l0 l1 hlen6
    obtain ⟨k0, k1⟩ := bA6.cells
    obtain ⟨l0, l1⟩ := bB6.cells
    obtain ⟨o0, o1⟩ := bO6.cells
    go_wp2_with fail
    have hput := putBits_any (m : Int) (P : Int) g N c q a y6 xs w6 hown6 (hr.later B6) hlt6 (by omega) (by rw [HL6.out]; exact hN64) hx64 (by rw [HL6.out]; exact put_fit hoa hxx q N (by have := Hq.out; omega)) (fun x hx => by have := hab x hx; omega)
    rw [HL6.out] at hput
    refine hput.mono ?_
    rintro e w7 ⟨rfl, hown7, hgr7⟩
    have f6 := hown6.fr (Nat.le_refl g)
    have m7 : Marked w6 w7 (some ⟨g, 0, none⟩) := hgr7
    have bO7 := bO6.mark f6 m7 (by decide)
    have bR7 := bR6.mark f6 m7 (by decide)
    have B7 := m7.below f6 B6 (by omega)
    have HL7 : Hid ((putTo y6 xs (q / 64) (q % 64) xs.length).length = N) := by show _ = _; rw [putTo_len, HL6.out]
    have HQ : Hid (((m : Int), putTo y6 xs (q / 64) (q % 64) xs.length, true) = R) := by
     show _ = _
     have hln : (bitsTo ys q ++ bitsTo xs P).length = m := by rw [List.length_append, bitsTo_len, bitsTo_len, ← Hq.out]; omega
     rw [← HR.out, fromR, if_pos (by rw [hln]; exact ⟨hm1, hm2⟩), hln]
     congr 2
     refine join_pack hoa hob _ (by rw [HL7.out, ← HN.out, ← Hq.out, Nat.add_comm P q]) (putTo_lt _ _ _ _ _ hlt6 hxx) fun j hj => ?_
     rw [tb_put_right hoa hxx y6 q (by rw [HL6.out]; have := Hq.out; omega), htb6 j]
    generalize putTo y6 xs (q / 64) (q % 64) xs.length = y7 at *
    clear hput HR hlt6 htb6 bA6 bB6 bO6 bR6 f6 m7 hgr7 hown6 k0 k1 l0 l1 o0 o1 B6
    obtain ⟨o0, o1⟩ := bO7.cells
    obtain ⟨r0, r1⟩ := bR7.cells
    have fr0 := bR7.free 0
    have fr1 := bR7.free 1
    clear bO7 bR7
    go_wp2
    have hm := RetB.made (w := w) (r := ((m : Int), y7, true)) (c := N) hown7 (by omega) (β := w.heap.size + 1 + 1) (by omega) (by omega) B7 HQ.out (Value.int IntKind.i64 m) (Value.slice (some ⟨g, 0, none⟩) N N)
    dsimp only at hm
    rw [HL7.out] at hm
    exact bodyPost_ret (by simp [results, Tryz.results152, go_sem, r0, r1]) rfl hm
   ·have HQ : Hid (noR = R) := by
     show _ = _
     rw [← HR.out, fromR, if_neg (by simp only [List.length_append, bitsTo_len]; omega)]
     rfl
    obtain ⟨r0, r1⟩ := bR4.cells
    have f0 := bR4.free 0
    have f1 := bR4.free 1
    clear HR
    go_wp2
    refine bodyPost_ret (v := .tuple #[.agg #[.int .i64 0, .slice none 0 0], .bool false]) (by simp [results, Tryz.results152, go_sem, r0, r1]) rfl ?_
    rw [← HQ.out]
    exact RetB.no ((B4.setCell (by simp; omega) _).setCell (by simp; omega) _)

theorem bitsTo_pack (bs : List Nat) (hb : ∀ x ∈ bs, x ≤ 1) : bitsTo (pack bs) bs.length = bs := by
  refine List.ext_getElem? fun i => ?_
  by_cases h : i < bs.length
  · have hx := hb _ (List.getElem_mem h)
    have e : bs.getD i 0 = bs[i] := by simp [List.getD, h]
    simp only [bitsTo, List.getElem?_map, List.getElem?_range h, Option.map_some, tb_pack bs hb, e, List.getElem?_eq_getElem h]
    congr 1
    generalize bs[i] = x at *
    have : x = 0 ∨ x = 1 := by omega
    rcases this with rfl | rfl <;> rfl
  · rw [List.getElem?_eq_none (by rw [bitsTo_len]; omega), List.getElem?_eq_none (by omega)]
def turnL (L : List Nat) (r : Nat) : List Nat := L.drop (L.length - r) ++ L.take (L.length - r)
theorem turnL_len (L : List Nat) (r : Nat) : (turnL L r).length = L.length := by simp [turnL]
theorem turnL_mem (L : List Nat) (r x : Nat) (h : x ∈ turnL L r) : x ∈ L := by
  rcases List.mem_append.1 h with h | h
  · exact List.mem_of_mem_drop h
  · exact List.mem_of_mem_take h
def turnR (W : Int) (xs : List Nat) (n : Int) : Int × List Nat × Bool :=
  if rightB W xs = true ∧ 0 ≤ n ∧ n ≤ 4096 then (W, pack (turnL (bitsTo xs W.toNat) (n.toNat % W.toNat)), true) else noR
theorem part_low {V : Nat} {xs : List Nat} (hok : rightB V xs = true) (r : Nat) (h1 : r < V) : partR V xs ((V : Int) - 1 - r) 0 = (((V - r : Nat) : Int), pack ((bitsTo xs V).take (V - r)), true) := by
  rw [partR, if_pos ⟨hok, by omega, by omega, by omega⟩]
  rw [show (V : Int) - 1 - r - 0 + 1 = ((V - r : Nat) : Int) by omega, Int.toNat_natCast, Int.toNat_natCast]
  rfl
theorem part_high {V : Nat} {xs : List Nat} (hok : rightB V xs = true) (r : Nat) (h0 : 0 < r) (h1 : r < V) : partR V xs ((V : Int) - 1) ((V : Int) - r) = ((r : Int), pack ((bitsTo xs V).drop (V - r)), true) := by
  rw [partR, if_pos ⟨hok, by omega, by omega, by omega⟩]
  rw [show (V : Int) - 1 - ((V : Int) - r) + 1 = (r : Int) by omega, Int.toNat_natCast, Int.toNat_natCast, show ((V : Int) - r).toNat = V - r by omega]
  rw [List.take_of_length_le (by simp [bitsTo_len]; omega)]
theorem join_turn {V : Nat} {xs : List Nat} (hok : rightB V xs = true) (r : Nat) (h0 : 0 < r) (h1 : r < V) :
    joinR ((V - r : Nat) : Int) (pack ((bitsTo xs V).take (V - r))) (r : Int) (pack ((bitsTo xs V).drop (V - r))) = ((V : Int), pack (turnL (bitsTo xs V) r), true) := by
  have hV := right_W hok
  have hle := bitsTo_le xs V
  have hl := bitsTo_len xs V
  have ha : ∀ x ∈ (bitsTo xs V).take (V - r), x ≤ 1 := fun x hx => hle x (List.mem_of_mem_take hx)
  have hb : ∀ x ∈ (bitsTo xs V).drop (V - r), x ≤ 1 := fun x hx => hle x (List.mem_of_mem_drop hx)
  have hal : ((bitsTo xs V).take (V - r)).length = V - r := by rw [List.length_take, hl]; omega
  have hbl : ((bitsTo xs V).drop (V - r)).length = r := by rw [List.length_drop, hl]; omega
  have ra := pack_right _ ha (by omega) (by omega)
  have rb := pack_right _ hb (by omega) (by omega)
  rw [hal] at ra
  rw [hbl] at rb
  have ea := bitsTo_pack _ ha
  have eb := bitsTo_pack _ hb
  rw [hal] at ea
  rw [hbl] at eb
  rw [joinR, if_pos ⟨ra, rb⟩, joinL, Int.toNat_natCast, Int.toNat_natCast, ea, eb]
  have e : (bitsTo xs V).drop (V - r) ++ (bitsTo xs V).take (V - r) = turnL (bitsTo xs V) r := by unfold turnL; rw [hl]
  rw [e, fromR, turnL_len, hl, if_pos ⟨by omega, by omega⟩]
theorem part_all {V : Nat} {xs : List Nat} (hok : rightB V xs = true) (h1 : 1 ≤ V) : partR V xs ((V : Int) - 1) 0 = ((V : Int), pack (turnL (bitsTo xs V) 0), true) := by
  rw [partR, if_pos ⟨hok, by omega, by omega, by omega⟩]
  rw [show (V : Int) - 1 - 0 + 1 = (V : Int) by omega, Int.toNat_natCast]
  have hl := bitsTo_len xs V
  unfold turnL
  rw [hl, Nat.sub_zero, show List.drop V (bitsTo xs V) = [] from List.drop_of_length_le (by omega)]
  rfl
theorem wf_small (x : Int) (h0 : 0 ≤ x) (h1 : x ≤ 4096) : (Lit.int .i64 x).wf = true := by
  have a1 : IntKind.i64.min ≤ x := by have : IntKind.i64.min = -9223372036854775808 := by decide
                                      omega
  have a2 : x ≤ IntKind.i64.max := by have : IntKind.i64.max = 9223372036854775807 := by decide
                                      omega
  simp only [Lit.wf, a1, a2, decide_true, Bool.and_self]
set_option maxHeartbeats 2000000 in
set_option maxRecDepth 100000 in
theorem implTurn_any (W : Int) (a : Option Addr) (c : Nat) (xs : List Nat) (n : Int) (w : World) (hr : Rd w a xs) :
    Calls Tryz.prog 140 #[.agg #[.int .i64 W, .slice a xs.length c], .int .i64 n] w (RetB w (turnR W xs n)) := by
  have h2 : Below w.heap.size w ((w.alloc (Obj.cells #[.int IntKind.i64 W, .slice a xs.length c] 80)).alloc (Obj.cells #[.int IntKind.i64 0, .slice none 0 0] 80)) := Ba (Ba (Below.refl _ _) _) _
  have hr' := hr.later h2
  have bR0 := Blk.new1 w (Obj.cells #[.int IntKind.i64 W, .slice a xs.length c] 80) (Value.int IntKind.i64 0) (Value.slice none 0 0) 80
  have bA0 := (Blk.new w (Value.int IntKind.i64 W) (Value.slice a xs.length c) 80).alloc (Obj.cells #[.int IntKind.i64 0, .slice none 0 0] 80)
  have hOk : ∀ (u : World), Rd u a xs → Calls Tryz.prog 76 #[.agg #[.int .i64 W, .slice a xs.length c]] u fun e w' => e = .returned (.bool (rightB W xs)) ∧ Below u.heap.size u w' := fun u hu => implOk_any W a c xs u hu
  have HOK : Hid _ := hOk
  clear hOk
  by_cases hc : rightB W xs = true ∧ 0 ≤ n ∧ n ≤ 4096
  · rw [turnR, if_pos hc]
    obtain ⟨hok, hn1, hn2⟩ := hc
    rw [hok] at HOK
    obtain ⟨hW1, hW2, hWl⟩ := right_W hok
    obtain ⟨V, rfl⟩ := Int.eq_ofNat_of_zero_le (show 0 ≤ W by omega)
    obtain ⟨m, rfl⟩ := Int.eq_ofNat_of_zero_le hn1
    rw [Int.toNat_natCast, Int.toNat_natCast]
    have hV0 : ¬ (V : Int) = 0 := by omega
    have hrV : m % V < V := Nat.mod_lt _ (by omega)
    have hmod : (m : Int) % (V : Int) = ((m % V : Nat) : Int) := rfl
    generalize m % V = r at *
    have hP : ∀ (u : World) (hi lo : Int) (R : Int × List Nat × Bool), Rd u a xs → partR V xs hi lo = R → 0 ≤ hi → hi ≤ 4096 → Calls Tryz.prog 137 #[.agg #[.int .i64 V, .slice a xs.length c], .int .i64 hi, .int .i64 lo] u (RetB u R) := fun u hi lo R hu h g1 g2 => by
      rw [← h]; exact implPart_any V a c xs hi lo u hu (wf_small _ g1 g2)
    have HP : Hid _ := hP
    have H0 : Hid _ := part_all hok (by omega)
    have H1 : Hid _ := fun h0 : 0 < r => part_high hok r h0 hrV
    have H2 : Hid _ := part_low hok r hrV
    have H3 : Hid _ := fun h0 : 0 < r => join_turn hok r h0 hrV
    have hlb := bitsTo_len xs V
    have hle := bitsTo_le xs V
    generalize bitsTo xs V = bs at *
    have HLB : Hid (bs.length = V) := hlb
    clear hWl hP hlb
    by_cases hr0 : r = 0
    · subst hr0
      simp only [Int.natCast_zero] at hmod
      clear H1 H2 H3
      go_enter Tryz.func140, Tryz.ntmps140
      go_wp2_with fail
      refine (HOK.out _ hr').mono ?_
      rintro e w1 ⟨rfl, hb1⟩
      have B1 := chain h2 hb1
      have bA1 := bA0.next hb1
      have bR1 := bR0.next hb1
      obtain ⟨c0, c1⟩ := bA1.cells
      clear hb1 bA0 bR0 hr' h2 HOK
      go_wp2_with fail
      refine (HP.out _ _ _ _ (hr.later B1) H0.out (by omega) (by omega)).mono ?_
      rintro e w5 ⟨a5, c5, rfl, hfr, hb5⟩
      have B5 := chain B1 hb5
      have bR5 := bR1.next hb5
      have hz := bR1.lt
      obtain ⟨r0, r1⟩ := bR5.cells
      have f0 := bR5.free 0
      have f1 := bR5.free 1
      dsimp only at hfr ⊢
      clear HP H0
      generalize turnL bs 0 = T at *
      go_wp2
      exact bodyPost_ret (by simp [results, Tryz.results140, go_sem, r0, r1]; rfl) rfl (RetB.close (r := ((V : Int), pack T, true)) hfr (by omega) hz B5 rfl _ _)
    · have hr1 : 0 < r := by omega
      have hmz : ¬ (r : Int) = 0 := by omega
      have HA := H1.out hr1
      have HB := H3.out hr1
      have HA' : Hid _ := HA
      have HB' : Hid _ := HB
      have hpa : (bs.take (V - r)).length = V - r := by rw [List.length_take, HLB.out]; omega
      have hpb : (bs.drop (V - r)).length = r := by rw [List.length_drop, HLB.out]; omega
      have hla : (pack (bs.take (V - r))).length ≤ 1048576 := by rw [pack_len, hpa]; omega
      have hlb : (pack (bs.drop (V - r))).length ≤ 1048576 := by rw [pack_len, hpb]; omega
      have hxa := pack_lt (bs.take (V - r))
      have hxb := pack_lt (bs.drop (V - r))
      clear H0 H1 H3 HA HB hpa hpb HLB
      generalize pack (bs.take (V - r)) = pa at *
      generalize pack (bs.drop (V - r)) = pb at *
      generalize turnL bs r = T at *
      have hVr : ((V - r : Nat) : Int) = (V : Int) - r := by omega
      have HVr : Hid _ := hVr
      clear hVr
      go_enter Tryz.func140, Tryz.ntmps140
      go_wp2_with fail
      refine (HOK.out _ hr').mono ?_
      rintro e w1 ⟨rfl, hb1⟩
      have B1 := chain h2 hb1
      have bA1 := bA0.next hb1
      have bR1 := bR0.next hb1
      obtain ⟨c0, c1⟩ := bA1.cells
      clear hb1 bA0 bR0 hr' h2 HOK
      go_wp2_with fail
      refine (HP.out _ _ _ _ (hr.later B1) H2.out (by omega) (by omega)).mono ?_
      intro e w2 hret
      obtain ⟨as_, cs, rfl, fs2, hb2⟩ := hret.fr
      have B2 := chain B1 hb2
      have bA2 := bA1.next hb2
      have bR2 := bR1.next hb2
      dsimp only at fs2 ⊢
      have lA2 := bA2.lt
      clear hret hb2 B1 bA1 bR1 c0 c1 H2
      obtain ⟨c0, c1⟩ := bA2.cells
      go_wp2_with fail
      refine (HP.out _ _ _ _ (hr.later (Ba B2 _)) HA'.out (by omega) (by omega)).mono ?_
      intro e w3 hret
      obtain ⟨ao, co, rfl, fo3, hb3⟩ := hret.fr
      have B3 := chain (Ba B2 _) hb3
      have bR3 := (bR2.alloc _).next hb3
      have bS3 := (Blk.new w2 _ _ _).next hb3
      have fs3 := (fs2.alloc _).next hb3
      dsimp only at fo3 ⊢
      have lS3 := bS3.lt
      clear hret hb3 B2 bA2 bR2 c0 c1 fs2
      obtain ⟨c0, c1⟩ := bS3.cells
      go_wp2_with fail
      have hj := implJoin_any ((V - r : Nat) : Int) as_ cs pa (r : Int) ao co pb _ ((fs3.alloc (Obj.cells #[.int IntKind.i64 r, .slice ao pb.length co] 80)).rd hla hxa) ((fo3.alloc (Obj.cells #[.int IntKind.i64 r, .slice ao pb.length co] 80)).rd hlb hxb)
      rw [HB'.out] at hj
      refine hj.mono ?_
      rintro e w5 ⟨a5, c5, rfl, hfr, hb5⟩
      have B5 := chain (Ba B3 _) hb5
      have bR5 := (bR3.alloc _).next hb5
      have hz := (bR3.alloc (Obj.cells #[.int IntKind.i64 r, .slice ao pb.length co] 80)).lt
      obtain ⟨r0, r1⟩ := bR5.cells
      have f0 := bR5.free 0
      have f1 := bR5.free 1
      dsimp only at hfr ⊢
      clear HP HA' HB' hj
      go_wp2
      exact bodyPost_ret (by simp [results, Tryz.results140, go_sem, r0, r1]; rfl) rfl (RetB.close (r := ((V : Int), pack T, true)) hfr (by omega) hz B5 rfl _ _)
  · rw [turnR, if_neg hc]
    have hcase : rightB W xs = false ∨ (rightB W xs = true ∧ (n < 0 ∨ 4096 < n)) := by
      cases hb : rightB W xs with
      | false => exact .inl rfl
      | true => right; refine ⟨rfl, ?_⟩; simp [hb] at hc; omega
    clear hc
    rcases hcase with h | ⟨h, h1⟩
    · rw [h] at HOK
      go_enter Tryz.func140, Tryz.ntmps140
      go_wp2_with fail
      refine (HOK.out _ hr').mono ?_
      rintro e w1 ⟨rfl, hb1⟩
      have B1 := chain h2 hb1
      have bR1 := bR0.next hb1
      obtain ⟨r0, r1⟩ := bR1.cells
      have f0 := bR1.free 0
      have f1 := bR1.free 1
      go_wp2
      exact bodyPost_ret (v := .tuple #[.agg #[.int .i64 0, .slice none 0 0], .bool false]) (by simp [results, Tryz.results140, go_sem, r0, r1]) rfl (RetB.no ((B1.setCell (by simp) _).setCell (by simp) _))
    · rw [h] at HOK
      rcases h1 with h1 | h1
      · go_enter Tryz.func140, Tryz.ntmps140
        go_wp2_with fail
        refine (HOK.out _ hr').mono ?_
        rintro e w1 ⟨rfl, hb1⟩
        have B1 := chain h2 hb1
        have bR1 := bR0.next hb1
        obtain ⟨r0, r1⟩ := bR1.cells
        have f0 := bR1.free 0
        have f1 := bR1.free 1
        go_wp2
        exact bodyPost_ret (v := .tuple #[.agg #[.int .i64 0, .slice none 0 0], .bool false]) (by simp [results, Tryz.results140, go_sem, r0, r1]) rfl (RetB.no ((B1.setCell (by simp) _).setCell (by simp) _))
      · have h2' : ¬ n < 0 := by omega
        go_enter Tryz.func140, Tryz.ntmps140
        go_wp2_with fail
        refine (HOK.out _ hr').mono ?_
        rintro e w1 ⟨rfl, hb1⟩
        have B1 := chain h2 hb1
        have bR1 := bR0.next hb1
        obtain ⟨r0, r1⟩ := bR1.cells
        have f0 := bR1.free 0
        have f1 := bR1.free 1
        go_wp2
        exact bodyPost_ret (v := .tuple #[.agg #[.int .i64 0, .slice none 0 0], .bool false]) (by simp [results, Tryz.results140, go_sem, r0, r1]) rfl (RetB.no ((B1.setCell (by simp) _).setCell (by simp) _))

theorem OwB.put {w : World} {base g cap : Nat} {bs : List Nat} (h : OwB w base (.slice (some ⟨g, 0, none⟩) bs.length cap) bs) (j y : Nat) : OwB (w.setCell ⟨g, j, none⟩ (.int .u8 (y : Int))) base (.slice (some ⟨g, 0, none⟩) bs.length cap) (bs.set j y) := by
 have := (World.ownsRow.stored h j (.int .u8 (y : Int))).1
 unfold OwB
 rw [List.length_set]
 have e : (u8s bs).set j (.int .u8 (y : Int)) = u8s (bs.set j y) := by simp [u8s, List.map_set]
 rw [e] at this
 exact this
theorem OwB.cellAt {w : World} {base g cap : Nat} {bs : List Nat} (h : OwB w base (.slice (some ⟨g, 0, none⟩) bs.length cap) bs) (j : Nat) (hj : j < bs.length) : w.cell? ⟨g, j, none⟩ = some (.int .u8 ((bs.getD j 0 : Nat) : Int)) := by
 rw [World.ownsRow.cellAt h j (by omega)]
 simp [u8s, List.getD, hj]
theorem OwB.freeAt {w : World} {base g cap : Nat} {bs : List Nat} (h : OwB w base (.slice (some ⟨g, 0, none⟩) bs.length cap) bs) (j : Nat) : w.frozen? ⟨g, j, none⟩ = false := World.ownsRow.frozenAt h j

end Go.Proofs.YtkngpgonmedgpaaGreatDoor
