/- Several texts in one. -/
import Derived.Test.YtnpjgoklpaigjaaGreatDoorGAH
import Derived.Test.YtnpjgoklpaigjaaGreatDoorGAG
import Derived.Deep.AppendLies
import Derived.Test.YtnpjgoklpaigjaaGreatDoorGAB
namespace Go.Proofs.YtnpjgoklpaigjaaGreatDoor
open Go.RowKit
set_option linter.unusedVariables false
set_option linter.unusedSimpArgs false
def Ni (w : World) (lo : Nat) (a : Option Addr) (xs : List Int) : Prop :=
 (xs = [] ∧ ∀ x, a = some x → lo ≤ x.block ∧ x.off = 0 ∧ ∃ cur, w.heap[x.block]? = some (.cells cur 2 (0, 0))) ∨ ∃ g cur, a = some ⟨g, 0, none⟩ ∧ lo ≤ g ∧ w.heap[g]? = some (.cells cur 2 (0, 0)) ∧ ∀ i, i < xs.length → cur[i]? = some (.int .i64 (xs.getD i 0))
theorem Ni.rd {w : World} {lo : Nat} {a : Option Addr} {xs : List Int} (h : Ni w lo a xs) (hl : xs.length ≤ 1048576) (hx : ∀ x ∈ xs, in64 x) : RdI w a xs := by
 refine ⟨hl, hx, ?_⟩
 rcases h with ⟨h1, -⟩ | ⟨g, cur, h1, -, h3, h4⟩
 ·exact .inl h1
 ·refine .inr ⟨g, 0, h1, fun i hi => ?_⟩
  rw [Nat.zero_add, cell_of_row w g i cur _ _ h3]
  exact h4 i hi
theorem Ni.mono {w : World} {lo lo' : Nat} {a : Option Addr} {xs : List Int} (h : Ni w lo a xs) (hl : lo' ≤ lo) : Ni w lo' a xs := by
 rcases h with ⟨h1, h2⟩ | ⟨g, cur, h1, h2, h3, h4⟩
 ·exact .inl ⟨h1, fun x e => ⟨Nat.le_trans hl (h2 x e).1, (h2 x e).2⟩⟩
 ·exact .inr ⟨g, cur, h1, Nat.le_trans hl h2, h3, h4⟩
theorem Ni.kept {w w' : World} {lo : Nat} {a : Option Addr} {xs : List Int} (h : Ni w lo a xs) (hk : ∀ (k : Nat) (cur : Array Value), w.heap[k]? = some (Obj.cells cur 2 (0, 0)) → w'.heap[k]? = w.heap[k]?) : Ni w' lo a xs := by
 rcases h with ⟨h1, h2⟩ | ⟨g, cur, h1, h2, h3, h4⟩
 ·refine .inl ⟨h1, fun x e => ?_⟩
  obtain ⟨a, b, cur, c⟩ := h2 x e
  exact ⟨a, b, cur, by rw [hk _ _ c]; exact c⟩
 ·exact .inr ⟨g, cur, h1, h2, by rw [hk _ _ h3]; exact h3, h4⟩
theorem Ni.later {w w' : World} {lo : Nat} {a : Option Addr} {xs : List Int} (h : Ni w lo a xs) (hb : Below w.heap.size w w') : Ni w' lo a xs := Ni.kept h fun k cur hc => hb.block k (lt_of_block hc)
theorem ni_lt {w : World} {lo : Nat} {a : Option Addr} {xs : List Int} (h : Ni w lo a xs) {p : Addr} (hp : a = some p) : lo ≤ p.block ∧ p.block < w.heap.size := by
 rcases h with ⟨h1, h2⟩ | ⟨g, cur, h1, h2, h3, h4⟩
 ·obtain ⟨k1, -, cur, k2⟩ := h2 p hp
  exact ⟨k1, lt_of_block k2⟩
 ·rw [h1] at hp
  cases hp
  exact ⟨h2, lt_of_block h3⟩
theorem OI.ni {w : World} {B : Nat} {v : Value} {xs : List Int} (h : OI w B v xs) : ∃ a c, v = .slice a xs.length c ∧ Ni w B a xs := by
 obtain ⟨h1, ⟨rfl, h2⟩ | ⟨g, cap, cur, rfl, hg, hh, hc1, hc2, hsz, hcur⟩⟩ := h
 ·have e := List.eq_nil_of_length_eq_zero h2
  subst e
  exact ⟨none, 0, rfl, .inl ⟨rfl, fun x e => by cases e⟩⟩
 ·refine ⟨some ⟨g, 0, none⟩, cap, rfl, .inr ⟨g, cur, rfl, hg, hh, fun i hi => ?_⟩⟩
  have h3 : (cur.toList.take (xs.length * 1))[i]? = (i64s xs).toList[i]? := by rw [hcur]
  rw [List.getElem?_take, if_pos (by omega)] at h3
  simp only [Array.getElem?_toList] at h3
  rw [h3, i64s_get _ _ hi]
def tgv (x : Tg) : List Value := [.int .i64 x.ct.op, .int .i64 x.ct.vr, .int .i64 x.ct.a, .int .i64 x.ct.b, .int .i64 x.ct.bw, .slice x.wa x.ct.ws.length x.wc, .slice x.ka x.ct.ks.length x.kc]
def tgc : List Tg → List Value
 | [] => []
 | x :: t => tgv x ++ tgc t
theorem tgc_append (l m : List Tg) : tgc (l ++ m) = tgc l ++ tgc m := by
 induction l with
 | nil => rfl
 | cons x t ih => simp [tgc, ih]
theorem tgc_get : ∀ {l : List Tg} {i : Nat} {x : Tg} (j : Nat), j < 7 → l[i]? = some x → (tgc l)[i * 7 + j]? = (tgv x)[j]?
 | y :: t, 0, x, j, hj, h => by
  simp at h; subst h
  rw [Nat.zero_mul, Nat.zero_add, tgc, List.getElem?_append_left (by simpa [tgv] using hj)]
 | y :: t, i + 1, x, j, hj, h => by
  have := tgc_get (l := t) (i := i) (x := x) j hj (by simpa using h)
  rw [tgc, List.getElem?_append_right (by simp [tgv]; omega)]
  simp only [tgv, List.length_cons, List.length_nil]
  rw [show (i + 1) * 7 + j - (0 + 1 + 1 + 1 + 1 + 1 + 1 + 1) = i * 7 + j by omega]
  exact this
def OT (w : World) (B : Nat) (v : Value) (l : List Tg) : Prop := w.ownsRow B 67 7 v l.length (tgc l)
theorem OT.later {w w' : World} {B : Nat} {v : Value} {l : List Tg} (h : OT w B v l) (hb : Below w.heap.size w w') : OT w' B v l := World.ownsRow.kept (row := none) h ⟨hb.os, hb.tape, hb.output, hb.size, fun k hk _ => hb.block k hk⟩ (by
 cases h' : v.ownBlock with
 | none => exact .inl rfl
 | some k => exact .inr (by simp))
theorem OT.lt {w : World} {B : Nat} {v : Value} {l : List Tg} (h : OT w B v l) {b : Nat} (hb : v.ownBlock = some b) : B ≤ b ∧ b < w.heap.size := by
 rcases h.2 with ⟨rfl, -⟩ | ⟨g, cap, cur, rfl, hg, hh, -⟩
 ·cases hb
 ·cases hb
  exact ⟨hg, lt_of_block hh⟩
theorem OT.typed {w : World} {B : Nat} {v : Value} {l : List Tg} (h : OT w B v l) {b : Nat} (hb : v.ownBlock = some b) : ∃ cur, w.heap[b]? = some (.cells cur 67 (0, 0)) := by
 rcases h.2 with ⟨rfl, -⟩ | ⟨g, cap, cur, rfl, hg, hh, -⟩
 ·cases hb
 ·cases hb
  exact ⟨cur, hh⟩
theorem OT.nil (w : World) (B : Nat) : OT w B (.slice none 0 0) [] := ⟨rfl, .inl ⟨rfl, rfl⟩⟩
theorem OT.move {w w' : World} {B : Nat} {v : Value} {l : List Tg} (h : OT w B v l) (hk : ∀ b, v.ownBlock = some b → w'.heap[b]? = w.heap[b]?) : OT w' B v l := by
 refine ⟨h.1, ?_⟩
 rcases h.2 with h0 | ⟨g, cap, cur, rfl, hg, hh, r⟩
 ·exact .inl h0
 ·exact .inr ⟨g, cap, cur, rfl, hg, (hk g rfl).trans hh, r⟩
theorem OT.form {w : World} {B : Nat} {v : Value} {l : List Tg} (h : OT w B v l) : ∃ a c, v = .slice a l.length c := by
 rcases h.2 with ⟨e, h0⟩ | ⟨g, cap, cur, e, -⟩
 ·exact ⟨none, 0, by rw [e, h0]⟩
 ·exact ⟨_, _, e⟩
theorem OT.empty (w : World) (B : Nat) (h : B ≤ w.heap.size) : OT (w.alloc (.cells #[] 67)) B (.slice (some ⟨w.heap.size, 0, Option.none⟩) 0 0) [] := World.ownsRow_made w #[] 0 h (Nat.zero_le _) (by simp)
theorem OT.at {w : World} {B : Nat} {v : Value} {l : List Tg} (h : OT w B v l) {i : Nat} {x : Tg} (hi : l[i]? = some x) : ∃ g c, v = .slice (some ⟨g, 0, none⟩) l.length c ∧ ThAt w g (i * 7) x.hd := by
 have hil := (List.getElem?_eq_some_iff.1 hi).1
 rcases h.2 with ⟨-, h0⟩ | ⟨g, cap, cur, rfl, hg, hh, hc1, hc2, hsz, hcur⟩
 ·omega
 ·refine ⟨g, cap, rfl, ?_⟩
  have key : ∀ j u, j < 7 → (tgv x)[j]? = some u → w.cell? ⟨g, i * 7 + j, none⟩ = some u := fun j u hj hu => by
   have e := tgc_get j hj hi
   rw [hu, ← hcur, List.getElem?_take, if_pos (by omega)] at e
   simp only [Array.getElem?_toList] at e
   rw [cell_of_row w g _ cur _ _ hh]
   exact e
  exact ⟨key 0 _ (by omega) rfl, key 1 _ (by omega) rfl, key 2 _ (by omega) rfl, key 3 _ (by omega) rfl, key 4 _ (by omega) rfl, key 5 _ (by omega) rfl, key 6 _ (by omega) rfl⟩
def okT (x : Tc) : Prop := in64 x.op ∧ in64 x.vr ∧ in64 x.a ∧ in64 x.b ∧ in64 x.bw ∧ x.ws.length ≤ 1048576 ∧ (∀ y ∈ x.ws, y < 18446744073709551616) ∧ x.ks.length ≤ 1048576 ∧ ∀ y ∈ x.ks, in64 y
theorem step_appT7 (w : World) {ops : Array Oper} {o : Oper} {a : Act} {K : Act → World → Prop} {Q : Exit → Act → World → Prop} {E : Prop} (hgd : o.guard = none) (s x : Operand)
  (ho : o.op = .call { callee := .builtin .append, args := #[s, x], argTypes := #[28, 28] })
  (B : Nat) (v : Value) (l : List Tg) (y : Tg) (hs : a.eval s = v) (hown : OT w B v l) (gx c : Nat) (hx : a.eval x = .slice (some ⟨gx, 0, none⟩) 1 c)
  (h0 : ThAt w gx 0 y.hd) (hl : l.length ≤ 1048576) (hB : B ≤ w.heap.size)
  (h : ∀ g cap w', OT w' B (.slice (some ⟨g, 0, none⟩) (l.length + 1) cap) (l ++ [y]) → w.grownBy w' v.ownBlock → (v.ownBlock = some g ∨ g = w.heap.size) → K (a.put o.dst (.slice (some ⟨g, 0, none⟩) (l.length + 1) cap)) w') :
  if Region.wanted o (yielded ops a.tmps) = true then Oper.wp Tryz.prog o a w K Q else E := by
 obtain ⟨i0, hi, hz0, hz1, hz2⟩ := info_parts Tryz.infoTNode
 refine step_append_lies w hgd s x 28 ho B 67 i0 _ 7 88 Tryz.underlying28 hi hz0 hz1 hz2 rfl (by decide) v l.length (tgc l) hs hown ⟨gx, 0, none⟩ 1 c (tgv y) hx rfl ?_ ?_ (by decide) ?_ ?_ hB _ rfl ?_
 ·intro j u hj
  rw [Addr.add_lit]
  obtain ⟨f0, f1, f2, f3, f4, f5, f6⟩ := h0
  match j, hj with
  | 0, hj => simp [tgv] at hj; subst hj; exact f0
  | 1, hj => simp [tgv] at hj; subst hj; exact f1
  | 2, hj => simp [tgv] at hj; subst hj; exact f2
  | 3, hj => simp [tgv] at hj; subst hj; exact f3
  | 4, hj => simp [tgv] at hj; subst hj; exact f4
  | 5, hj => simp [tgv] at hj; subst hj; exact f5
  | 6, hj => simp [tgv] at hj; subst hj; exact f6
  | j + 7, hj => simp [tgv] at hj
 ·intro u hu
  simp [tgv] at hu
  rcases hu with rfl | rfl | rfl | rfl | rfl | rfl | rfl <;> rfl
 ·unfold maxLen; omega
 ·omega
 ·intro g cap w' h1 h2 h3 _
  refine h g cap w' ?_ h2 h3
  unfold OT
  rw [tgc_append, List.length_append]
  simpa [tgc] using h1
theorem wpList_appT7 {w : World} {ops : Array Oper} {rest : List Oper} {o : Oper} {a : Act} {Q : Exit → Act → World → Prop} (hgd : o.guard = none) (s x : Operand)
  (ho : o.op = .call { callee := .builtin .append, args := #[s, x], argTypes := #[28, 28] })
  (B : Nat) (v : Value) (l : List Tg) (y : Tg) (hs : a.eval s = v) (hown : OT w B v l) (gx c : Nat) (hx : a.eval x = .slice (some ⟨gx, 0, none⟩) 1 c)
  (h0 : ThAt w gx 0 y.hd) (hl : l.length ≤ 1048576) (hB : B ≤ w.heap.size)
  (h : ∀ g cap w', OT w' B (.slice (some ⟨g, 0, none⟩) (l.length + 1) cap) (l ++ [y]) → w.grownBy w' v.ownBlock → (v.ownBlock = some g ∨ g = w.heap.size) → wpList Tryz.prog ops Q rest (a.put o.dst (.slice (some ⟨g, 0, none⟩) (l.length + 1) cap)) w') : wpList Tryz.prog ops Q (o :: rest) a w := by
 obtain ⟨i0, hi, hz0, hz1, hz2⟩ := info_parts Tryz.infoTNode
 refine wpList_append_lies w hgd s x 28 ho B 67 i0 _ 7 88 Tryz.underlying28 hi hz0 hz1 hz2 rfl (by decide) v l.length (tgc l) hs hown ⟨gx, 0, none⟩ 1 c (tgv y) hx rfl ?_ ?_ (by decide) ?_ ?_ hB _ rfl ?_
 ·intro j u hj
  rw [Addr.add_lit]
  obtain ⟨f0, f1, f2, f3, f4, f5, f6⟩ := h0
  match j, hj with
  | 0, hj => simp [tgv] at hj; subst hj; exact f0
  | 1, hj => simp [tgv] at hj; subst hj; exact f1
  | 2, hj => simp [tgv] at hj; subst hj; exact f2
  | 3, hj => simp [tgv] at hj; subst hj; exact f3
  | 4, hj => simp [tgv] at hj; subst hj; exact f4
  | 5, hj => simp [tgv] at hj; subst hj; exact f5
  | 6, hj => simp [tgv] at hj; subst hj; exact f6
  | j + 7, hj => simp [tgv] at hj
 ·intro u hu
  simp [tgv] at hu
  rcases hu with rfl | rfl | rfl | rfl | rfl | rfl | rfl <;> rfl
 ·unfold maxLen; omega
 ·omega
 ·intro g cap w' h1 h2 h3 _
  refine h g cap w' ?_ h2 h3
  unfold OT
  rw [tgc_append, List.length_append]
  simpa [tgc] using h1
def DjN (f : Tg → Option Addr) (l : List Tg) : Prop := ∀ (i j : Nat) (x y : Tg), i < j → l[i]? = some x → l[j]? = some y → ∀ p q, f x = some p → f y = some q → p.block ≠ q.block
theorem DjN.nil (f : Tg → Option Addr) : DjN f [] := fun i j x y _ h => by simp at h
theorem DjN.snoc {f : Tg → Option Addr} {N : Nat} {l : List Tg} {x : Tg} (h : DjN f l) (hl : ∀ y ∈ l, ∀ p, f y = some p → p.block < N) (hx : ∀ p, f x = some p → N ≤ p.block) : DjN f (l ++ [x]) := fun i j y z hij hi hj p q hp hq => by
 have hjl := (List.getElem?_eq_some_iff.1 hj).1
 simp at hjl
 by_cases e : j = l.length
 ·subst e
  simp at hj
  subst hj
  rw [List.getElem?_append_left (by omega)] at hi
  have h1 := hl y (List.mem_of_getElem? hi) p hp
  have h2 := hx q hq
  omega
 ·rw [List.getElem?_append_left (by omega)] at hi hj
  exact h i j y z hij hi hj p q hp hq

structure Ts (w : World) (B : Nat) (v : Value) (l : List Tg) : Prop where
 row : OT w B v l
 wn : ∀ x ∈ l, Nw w B x.wa x.ct.ws
 kn : ∀ x ∈ l, Ni w B x.ka x.ct.ks
 wd : DjN Tg.wa l
 kd : DjN Tg.ka l
theorem Ts.later {w w' : World} {B : Nat} {v : Value} {l : List Tg} (h : Ts w B v l) (hb : Below w.heap.size w w') : Ts w' B v l := ⟨h.row.later hb, fun x hx => (h.wn x hx).later hb, fun x hx => (h.kn x hx).later hb, h.wd, h.kd⟩
theorem Ts.nil (w : World) (B : Nat) : Ts w B (.slice none 0 0) [] := ⟨OT.nil w B, by simp, by simp, DjN.nil _, DjN.nil _⟩
theorem Ts.form {w : World} {B : Nat} {v : Value} {l : List Tg} (h : Ts w B v l) : ∃ a c, v = .slice a l.length c := h.row.form
theorem nw_rowT {w w' : World} {B C : Nat} {v : Value} {l : List Tg} {a : Option Addr} {xs : List Nat} (h : Nw w C a xs) (ho : OT w B v l) (hg : w.grownBy w' v.ownBlock) : Nw w' C a xs :=
 h.kept fun k cur hc => hg.block k (lt_of_block hc) (fun e => by
  obtain ⟨cur', h'⟩ := ho.typed e.symm
  rw [hc] at h'
  cases h')
theorem ni_rowT {w w' : World} {B C : Nat} {v : Value} {l : List Tg} {a : Option Addr} {xs : List Int} (h : Ni w C a xs) (ho : OT w B v l) (hg : w.grownBy w' v.ownBlock) : Ni w' C a xs :=
 h.kept fun k cur hc => hg.block k (lt_of_block hc) (fun e => by
  obtain ⟨cur', h'⟩ := ho.typed e.symm
  rw [hc] at h'
  cases h')
theorem Ts.app {w w1 w2 : World} {B N : Nat} {v v' : Value} {l : List Tg} {y : Tg} (h : Ts w B v l) (hb : Below w.heap.size w w1) (hB : B ≤ N) (hN : ∀ x ∈ l, (∀ p, x.wa = some p → p.block < N) ∧ ∀ p, x.ka = some p → p.block < N) (hy : Nw w1 N y.wa y.ct.ws) (hk : Ni w1 N y.ka y.ct.ks) (hg : w1.grownBy w2 v.ownBlock) (ho : OT w2 B v' (l ++ [y])) : Ts w2 B v' (l ++ [y]) where
 row := ho
 wn := fun x hx => by
  rcases List.mem_append.1 hx with hx | hx
  ·exact nw_rowT ((h.wn x hx).later hb) (h.row.later hb) hg
  ·simp at hx
   subst hx
   exact (nw_rowT hy (h.row.later hb) hg).mono hB
 kn := fun x hx => by
  rcases List.mem_append.1 hx with hx | hx
  ·exact ni_rowT ((h.kn x hx).later hb) (h.row.later hb) hg
  ·simp at hx
   subst hx
   exact (ni_rowT hk (h.row.later hb) hg).mono hB
 wd := h.wd.snoc (fun x hx => (hN x hx).1) fun p hp => (nw_lt hy hp).1
 kd := h.kd.snoc (fun x hx => (hN x hx).2) fun p hp => (ni_lt hk hp).1
theorem Ts.below {w : World} {B : Nat} {v : Value} {l : List Tg} (h : Ts w B v l) : ∀ x ∈ l, (∀ p, x.wa = some p → p.block < w.heap.size) ∧ ∀ p, x.ka = some p → p.block < w.heap.size := fun x hx => ⟨fun p hp => (nw_lt (h.wn x hx) hp).2, fun p hp => (ni_lt (h.kn x hx) hp).2⟩
theorem Ts.rd {w : World} {B : Nat} {v : Value} {l : List Tg} (h : Ts w B v l) (hl : l.length ≤ 1048576) (hx : ∀ x ∈ l, okT x.ct) : ∃ a c, v = .slice a l.length c ∧ RdT w a l := by
 by_cases e : l = []
 ·subst e
  obtain ⟨a, c, rfl⟩ := h.form
  exact ⟨a, c, rfl, by simp, .inl rfl⟩
 ·have h0 : 0 < l.length := List.length_pos_iff.2 e
  obtain ⟨g, c, rfl, -⟩ := h.row.at (List.getElem?_eq_getElem h0)
  refine ⟨_, c, rfl, hl, .inr ⟨g, 0, rfl, fun i x hi => ?_⟩⟩
  obtain ⟨g', c', e', h1⟩ := h.row.at hi
  cases e'
  have hm := List.mem_of_getElem? hi
  obtain ⟨k1, k2, k3, k4, k5, k6, k7, k8, k9⟩ := hx x hm
  rw [Nat.zero_add]
  exact ⟨h1, (h.wn x hm).rd k6 k7, (h.kn x hm).rd k8 k9, k1, k2, k3, k4, k5⟩

def tcEq (x y : Tc) : Bool := decide (x.op = y.op) && decide (x.vr = y.vr) && decide (x.a = y.a) && decide (x.b = y.b) && decide (x.bw = y.bw) && decide (x.ws = y.ws) && decide (x.ks = y.ks)
theorem tcEq_iff {x y : Tc} : tcEq x y = true ↔ x = y := by
 constructor
 ·intro h
  simp only [tcEq, Bool.and_eq_true, decide_eq_true_eq] at h
  obtain ⟨⟨⟨⟨⟨⟨h1, h2⟩, h3⟩, h4⟩, h5⟩, h6⟩, h7⟩ := h
  cases x; cases y
  simp only at h1 h2 h3 h4 h5 h6 h7
  subst h1; subst h2; subst h3; subst h4; subst h5; subst h6; subst h7
  rfl
 ·rintro rfl
  simp [tcEq]
def mvT (to : List Int) (n : Tc) : Tc := ⟨n.op, n.vr, n.a, n.b, n.bw, n.ws, n.ks.map fun k => to.getD k.toNat 0⟩
def fndT (out : List Tc) (m : Tc) : Option Nat := out.findIdx? (fun y => tcEq y m)
theorem fndT_some {out : List Tc} {m : Tc} {i : Nat} (h : fndT out m = some i) : out[i]? = some m ∧ ∀ j, j < i → out[j]? ≠ some m := by
 unfold fndT at h
 rw [List.findIdx?_eq_some_iff_getElem] at h
 obtain ⟨hi, h1, h2⟩ := h
 refine ⟨by rw [List.getElem?_eq_getElem hi, tcEq_iff.1 h1], fun j hj e => ?_⟩
 have hjl := (List.getElem?_eq_some_iff.1 e).1
 have := h2 j hj
 rw [List.getElem?_eq_getElem hjl] at e
 cases e
 exact this (tcEq_iff.2 rfl)
theorem fndT_none {out : List Tc} {m : Tc} (h : fndT out m = none) : m ∉ out := by
 unfold fndT at h
 rw [List.findIdx?_eq_none_iff] at h
 intro hm
 have := h m hm
 rw [tcEq_iff.2 rfl] at this
 cases this
theorem fndT_of {out : List Tc} {m : Tc} {i : Nat} (h : out[i]? = some m) (hf : ∀ j, j < i → out[j]? ≠ some m) : fndT out m = some i := by
 cases e : fndT out m with
 | none => exact absurd (List.mem_of_getElem? h) (fndT_none e)
 | some j =>
  obtain ⟨h1, h2⟩ := fndT_some e
  by_cases hji : j < i
  ·exact absurd h1 (hf j hji)
  ·by_cases hij : i < j
   ·exact absurd h (h2 i hij)
   ·rw [show j = i by omega]
theorem fndT_not {out : List Tc} {m : Tc} (h : m ∉ out) : fndT out m = none := by
 cases e : fndT out m with
 | none => rfl
 | some j => exact absurd (List.mem_of_getElem? (fndT_some e).1) h
def shStep (st : List Tc × List Int) (n : Tc) : List Tc × List Int :=
 match fndT st.1 (mvT st.2 n) with
 | some i => (st.1, st.2 ++ [(i : Int)])
 | none => (st.1 ++ [mvT st.2 n], st.2 ++ [(st.1.length : Int)])
def shTo (ns : List Tc) : Nat → List Tc × List Int
 | 0 => ([], [])
 | k + 1 => match ns[k]? with
  | some n => shStep (shTo ns k) n
  | none => shTo ns k
theorem shTo_succ {ns : List Tc} {k : Nat} {n : Tc} (h : ns[k]? = some n) : shTo ns (k + 1) = shStep (shTo ns k) n := by
 rw [shTo, h]
def FmT (ns : List Tc) (y : Tc) : Prop := ∃ n ∈ ns, y.op = n.op ∧ y.vr = n.vr ∧ y.a = n.a ∧ y.b = n.b ∧ y.bw = n.bw ∧ y.ws = n.ws ∧ y.ks.length = n.ks.length
structure ShF (ns : List Tc) (k : Nat) (st : List Tc × List Int) : Prop where
 l2 : st.2.length = k
 l1 : st.1.length ≤ k
 rg : ∀ x ∈ st.2, 0 ≤ x ∧ x < (st.1.length : Int)
 fm : ∀ y ∈ st.1, FmT ns y
 ks : ∀ y ∈ st.1, ∀ j ∈ y.ks, 0 ≤ j ∧ j < (st.1.length : Int)
 nd : st.1.Nodup
theorem ShF.step {ns : List Tc} {k : Nat} {st : List Tc × List Int} {n : Tc} (h : ShF ns k st) (hn : n ∈ ns) (hk : ∀ j ∈ n.ks, 0 ≤ j ∧ j < (k : Int)) : ShF ns (k + 1) (shStep st n) := by
 unfold shStep
 split
 ·rename_i i e
  obtain ⟨h1, -⟩ := fndT_some e
  have hi := (List.getElem?_eq_some_iff.1 h1).1
  refine ⟨by simp [h.l2], by have := h.l1; simp only; omega, fun x hx => ?_, h.fm, h.ks, h.nd⟩
  rcases List.mem_append.1 hx with hx | hx
  ·exact h.rg x hx
  ·simp at hx
   subst hx
   simp only
   omega
 ·rename_i e
  have hnm := fndT_none e
  have hkid : ∀ j ∈ (mvT st.2 n).ks, 0 ≤ j ∧ j < (st.1.length : Int) := fun j hj => by
   obtain ⟨q, hq, rfl⟩ := List.mem_map.1 hj
   obtain ⟨q0, q1⟩ := hk q hq
   have hl := h.l2
   have e1 : st.2.getD q.toNat 0 = st.2[q.toNat]'(by omega) := by
    rw [List.getD_eq_getElem?_getD, List.getElem?_eq_getElem (show q.toNat < st.2.length by omega)]
    rfl
   rw [e1]
   exact h.rg _ (List.getElem_mem _)
  refine ⟨by simp [h.l2], by have := h.l1; simp; omega, fun x hx => ?_, fun y hy => ?_, fun y hy j hj => ?_, ?_⟩
  ·rcases List.mem_append.1 hx with hx | hx
   ·have := h.rg x hx
    simp only [List.length_append, List.length_cons, List.length_nil]
    omega
   ·simp at hx
    subst hx
    simp only [List.length_append, List.length_cons, List.length_nil]
    omega
  ·rcases List.mem_append.1 hy with hy | hy
   ·exact h.fm y hy
   ·simp at hy
    subst hy
    exact ⟨n, hn, rfl, rfl, rfl, rfl, rfl, rfl, by simp [mvT]⟩
  ·have key : 0 ≤ j ∧ j < (st.1.length : Int) := by
    rcases List.mem_append.1 hy with hy | hy
    ·exact h.ks y hy j hj
    ·simp at hy
     subst hy
     exact hkid j hj
   simp only [List.length_append, List.length_cons, List.length_nil]
   omega
  ·refine List.nodup_append.2 ⟨h.nd, by simp, fun a ha b hb e => ?_⟩
   simp at hb
   subst hb
   subst e
   exact hnm ha
theorem shTo_f {ns : List Tc} (hk : ∀ (k : Nat) (n : Tc), ns[k]? = some n → ∀ j ∈ n.ks, 0 ≤ j ∧ j < (k : Int)) : ∀ k, k ≤ ns.length → ShF ns k (shTo ns k)
 | 0, _ => ⟨rfl, Nat.le_refl _, by simp [shTo], by simp [shTo], by simp [shTo], by simp [shTo]⟩
 | k + 1, h => by
  have hk2 : ns[k]? = some (ns[k]'(by omega)) := List.getElem?_eq_getElem (by omega)
  rw [shTo_succ hk2]
  exact (shTo_f hk k (by omega)).step (List.getElem_mem _) (hk k _ hk2)
theorem fm_ok {ns : List Tc} {y : Tc} (h : FmT ns y) (hns : ∀ n ∈ ns, okT n) {N : Nat} (hN : N ≤ 1048576) (hk : ∀ j ∈ y.ks, 0 ≤ j ∧ j < (N : Int)) : okT y := by
 obtain ⟨n, hn, e1, e2, e3, e4, e5, e6, e7⟩ := h
 obtain ⟨k1, k2, k3, k4, k5, k6, k7, k8, k9⟩ := hns n hn
 exact ⟨by rw [e1]; exact k1, by rw [e2]; exact k2, by rw [e3]; exact k3, by rw [e4]; exact k4, by rw [e5]; exact k5, by rw [e6]; exact k6, by rw [e6]; exact k7, by rw [e7]; exact k8, fun j hj => by have := hk j hj; exact ⟨by omega, by omega⟩⟩
theorem RdT.ok {w : World} {a : Option Addr} {xs : List Tg} (h : RdT w a xs) : ∀ n ∈ xs.map Tg.ct, okT n := by
 intro n hn
 obtain ⟨x, hx, rfl⟩ := List.mem_map.1 hn
 obtain ⟨i, hi⟩ := List.mem_iff_getElem?.1 hx
 rcases h.2 with h0 | ⟨b, o, -, hc⟩
 ·rw [h0] at hx; cases hx
 ·obtain ⟨-, h1, h2, k1, k2, k3, k4, k5⟩ := hc i x hi
  exact ⟨k1, k2, k3, k4, k5, h1.1, h1.2.1, h2.1, h2.2.1⟩

theorem shTo_app (ns m : List Tc) : ∀ k, k ≤ ns.length → shTo (ns ++ m) k = shTo ns k
 | 0, _ => rfl
 | k + 1, h => by
  rw [shTo, shTo, List.getElem?_append_left (by omega), shTo_app ns m k (by omega)]
def shAll (ns : List Tc) : List Tc × List Int := shTo ns ns.length
theorem shAll_snoc (ns : List Tc) (x : Tc) : shAll (ns ++ [x]) = shStep (shAll ns) x := by
 unfold shAll
 rw [List.length_append, List.length_singleton, shTo_succ (n := x) (by simp), shTo_app ns [x] _ (Nat.le_refl _)]
def plc (st : List Tc × List Int) (n : Tc) : Nat := match fndT st.1 (mvT st.2 n) with | some i => i | none => st.1.length
theorem shStep_to (st : List Tc × List Int) (n : Tc) : (shStep st n).2 = st.2 ++ [(plc st n : Int)] := by
 unfold shStep plc
 cases fndT st.1 (mvT st.2 n) <;> rfl
def dcW (ds : List Dc) (v : Int) : Int := ((ds[v.toNat]?).map Prod.snd).getD 0
def unf1 (ds : List Dc) (m : Nat) (s : Sc) : List Tc :=
 if s.v < 0 then [⟨2, 0, 0, 0, s.bw, s.ws, []⟩]
 else if s.wd < dcW ds s.v then [⟨1, s.v, 0, 0, 0, [], []⟩, ⟨4, 0, s.lo + s.wd - 1, s.lo, 0, [], [(m : Int)]⟩]
 else [⟨1, s.v, 0, 0, 0, [], []⟩]
def unfTo (ds : List Dc) : List Sc → List Tc × List Int
 | [] => ([], [])
 | s :: t => ((unfTo ds t).1 ++ unf1 ds (unfTo ds t).1.length s, (unfTo ds t).2 ++ [(((unfTo ds t).1 ++ unf1 ds (unfTo ds t).1.length s).length : Int) - 1])
def unfN (ds : List Dc) (f : List Sc) : List Tc := if 1 < f.length then (unfTo ds f).1 ++ [⟨3, 0, 0, 0, 0, [], (unfTo ds f).2⟩] else (unfTo ds f).1
theorem unf1_len (ds : List Dc) (m : Nat) (s : Sc) : 1 ≤ (unf1 ds m s).length ∧ (unf1 ds m s).length ≤ 2 := by
 unfold unf1
 split
 ·simp
 ·split <;> simp
theorem unfTo_len (ds : List Dc) : ∀ f : List Sc, (unfTo ds f).2.length = f.length ∧ f.length ≤ (unfTo ds f).1.length ∧ (unfTo ds f).1.length ≤ 2 * f.length
 | [] => by simp [unfTo]
 | s :: t => by
  obtain ⟨h1, h2, h3⟩ := unfTo_len ds t
  have := unf1_len ds (unfTo ds t).1.length s
  simp [unfTo, h1]
  omega
theorem unfTo_kids (ds : List Dc) : ∀ f : List Sc, ∀ j ∈ (unfTo ds f).2, 0 ≤ j ∧ j < ((unfTo ds f).1.length : Int)
 | [], j, h => by simp [unfTo] at h
 | s :: t, j, h => by
  have hl := unf1_len ds (unfTo ds t).1.length s
  simp only [unfTo, List.mem_append, List.mem_singleton] at h ⊢
  rw [List.length_append]
  rcases h with h | h
  ·have := unfTo_kids ds t j h
   omega
  ·rw [List.length_append] at h
   omega
def aheadT (ns : List Tc) : Prop := ∀ (k : Nat) (n : Tc), ns[k]? = some n → ∀ j ∈ n.ks, 0 ≤ j ∧ j < (k : Int)
theorem aheadT.snoc {ns : List Tc} {x : Tc} (h : aheadT ns) (hx : ∀ j ∈ x.ks, 0 ≤ j ∧ j < (ns.length : Int)) : aheadT (ns ++ [x]) := fun k n hk j hj => by
 have hl := (List.getElem?_eq_some_iff.1 hk).1
 simp at hl
 by_cases e : k = ns.length
 ·subst e
  simp at hk
  subst hk
  exact hx j hj
 ·rw [List.getElem?_append_left (by omega)] at hk
  exact h k n hk j hj
theorem unfTo_ahead (ds : List Dc) : ∀ f : List Sc, aheadT (unfTo ds f).1
 | [] => fun k n hk => by simp [unfTo] at hk
 | s :: t => by
  have ih := unfTo_ahead ds t
  simp only [unfTo, unf1]
  split
  ·exact ih.snoc (by simp)
  ·split
   ·have := (ih.snoc (x := ⟨1, s.v, 0, 0, 0, [], []⟩) (by simp)).snoc (x := ⟨4, 0, s.lo + s.wd - 1, s.lo, 0, [], [((unfTo ds t).1.length : Int)]⟩) (by simp; omega)
    simpa using this
   ·exact ih.snoc (by simp)
theorem unfN_ahead (ds : List Dc) (f : List Sc) : aheadT (unfN ds f) := by
 unfold unfN
 split
 ·exact (unfTo_ahead ds f).snoc (unfTo_kids ds f)
 ·exact unfTo_ahead ds f

theorem rd_cellsI {w : World} {ad : Addr} {ys : List Int} (hr : RdI w (some ad) ys) : ∀ j u, (i64s ys).toList[j]? = some u → w.cell? (ad.add j) = some u := by
 intro j u hj
 have hj' : j < ys.length := by
  have := (List.getElem?_eq_some_iff.1 hj).1
  simpa [i64s] using this
 obtain ⟨-, -, h | ⟨b, o, e, hc⟩⟩ := hr
 ·rw [h] at hj'; simp at hj'
 ·cases e
  rw [Addr.add_lit, hc j hj']
  simp [i64s, hj'] at hj
  rw [← hj]
  simp [List.getD, hj']
theorem rd_noneI {w : World} {ys : List Int} (hr : RdI w none ys) : ys = [] := by
 obtain ⟨-, -, h | ⟨b, o, e, hc⟩⟩ := hr
 ·exact h
 ·cases e
theorem wp_appIr (w : World) {o : Oper} {a : Act} {K : Act → World → Prop} {Q : Exit → Act → World → Prop} (s x : Operand)
  (ho : o.op = .call { callee := .builtin .append, args := #[s, x], argTypes := #[60, 60] })
  (base : Nat) (v : Value) (bs ys : List Int) (hs : a.eval s = v) (hown : OI w base v bs) (xa : Option Addr) (c : Nat) (hx : a.eval x = .slice xa ys.length c) (hc0 : xa = none → c = 0)
  (hr : RdI w xa ys) (hl : bs.length + ys.length ≤ 4194304) (hbase : base ≤ w.heap.size)
  (h : ∀ v' w', OI w' base v' (bs ++ ys) → w.grownBy w' v.ownBlock → K (a.put o.dst v') w') : Oper.wp Tryz.prog o a w K Q := by
 obtain ⟨i0, hi, hz0, hz1, hz2⟩ := info_parts Tryz.infoI64
 cases xa with
 | none =>
  have e := rd_noneI hr
  subst e
  have ec := hc0 rfl
  subst ec
  have hr9 := run_append_owned_none (P := Tryz.prog) (w := w) base 60 o.type 2 i0 1 Tryz.underlying60 hi v bs.length (i64s bs).toList hown
  unfold Oper.wp execOp
  simp only [ho, resolve, invoke, builtin, Sem.run_bind, Sem.run_pure, Result.andThen_ok, List.map_toArray, List.map_cons, List.map_nil, hs, hx, List.length_nil, hr9]
  exact h v w (by rw [List.append_nil]; exact hown) (World.grownBy.refl w _)
 | some ad =>
  refine wp_append_own w s x 60 ho base 2 i0 (.int .i64 0) 1 8 Tryz.underlying60 hi hz0 hz1 hz2 rfl (by decide) v bs.length (i64s bs).toList hs hown ad ys.length c (i64s ys).toList hx (by simp [i64s]) (rd_cellsI hr) ?_ ?_ ?_ hbase ?_
  ·intro u hu
   simp [i64s] at hu
   obtain ⟨_, _, rfl⟩ := hu
   rfl
  ·unfold maxLen; omega
  ·omega
  ·intro v' w' h1 h2 _
   refine h v' w' ?_ h2
   unfold OI
   simpa [i64s] using h1
theorem wpList_appIr (w : World) {ops : Array Oper} {rest : List Oper} {o : Oper} {a : Act} {Q : Exit → Act → World → Prop} (hgd : o.guard = none) (s x : Operand)
  (ho : o.op = .call { callee := .builtin .append, args := #[s, x], argTypes := #[60, 60] })
  (base : Nat) (v : Value) (bs ys : List Int) (hs : a.eval s = v) (hown : OI w base v bs) (xa : Option Addr) (c : Nat) (hx : a.eval x = .slice xa ys.length c) (hc0 : xa = none → c = 0)
  (hr : RdI w xa ys) (hl : bs.length + ys.length ≤ 4194304) (hbase : base ≤ w.heap.size)
  (h : ∀ v' w', OI w' base v' (bs ++ ys) → w.grownBy w' v.ownBlock → wpList Tryz.prog ops Q rest (a.put o.dst v') w') : wpList Tryz.prog ops Q (o :: rest) a w :=
 wpList_plain hgd fun _ hK => wp_appIr w s x ho base v bs ys hs hown xa c hx hc0 hr hl hbase fun v' w' h2 h3 => hK _ _ (h v' w' h2 h3)

def RSh (t : TypeId) (kd : IntKind) (w : World) (lo hi : Nat) (a : Option Addr) (n : Nat) : Prop := n = 0 ∨ ∃ h cur, a = some ⟨h, 0, none⟩ ∧ lo ≤ h ∧ h < hi ∧ w.heap[h]? = some (.cells cur t (0, 0)) ∧ ∀ i, i < n → ∃ y : Int, cur[i]? = some (.int kd y)
theorem RSh.shp {t : TypeId} {kd : IntKind} {w w' : World} {lo hi n : Nat} {a : Option Addr} (h : RSh t kd w lo hi a n) (hs : Shp w w') : RSh t kd w' lo hi a n := by
 rcases h with h | ⟨g, cur, h1, h2, h3, h4, h5⟩
 ·exact .inl h
 ·obtain ⟨cur', e', r⟩ := hs g cur _ h4
  exact .inr ⟨g, cur', h1, h2, h3, e', fun i hi => keep_int r (h5 i hi)⟩
def Mkd (kd : IntKind) (w : World) (a : Option Addr) (n k : Nat) : Prop := ∀ t, t < n → ∃ h, a = some ⟨h, 0, none⟩ ∧ w.cell? ⟨h, t, none⟩ = some (.int kd ((k + t : Nat) : Int))
theorem Mkd.keep {kd : IntKind} {w w' : World} {a : Option Addr} {n k : Nat} (h : Mkd kd w a n k) (hk : ∀ p, n ≠ 0 → a = some p → w'.heap[p.block]? = w.heap[p.block]?) : Mkd kd w' a n k := fun t ht => by
 obtain ⟨b, e, hc⟩ := h t ht
 exact ⟨b, e, (World.cell?_of_block (a := ⟨b, t, none⟩) (show w'.heap[b]? = w.heap[b]? from hk ⟨b, 0, none⟩ (by omega) e)).trans hc⟩
theorem Mkd.lt {kd : IntKind} {w : World} {a : Option Addr} {n k : Nat} (h : Mkd kd w a n k) {p : Addr} (hn : n ≠ 0) (hp : a = some p) : p.block < w.heap.size := by
 obtain ⟨b, e, hc⟩ := h 0 (by omega)
 rw [e] at hp
 cases hp
 exact block_lt_of_cell hc
theorem cell_neT {w : World} {g o o' : Nat} {cur : Array Value} {t : TypeId} (hg : w.heap[g]? = some (.cells cur t (0, 0))) (v : Value) (h : o ≠ o') : (w.setCell ⟨g, o, none⟩ v).cell? ⟨g, o', none⟩ = w.cell? ⟨g, o', none⟩ := by
 rw [cell_of_row _ g o' _ _ _ (heap_setCell_same w g o _ _ v hg), cell_of_row w g o' _ _ _ hg, Array.getElem?_setIfInBounds_ne h]
set_option maxHeartbeats 1000000 in
theorem markU_ra (lo hi c k n : Nat) (a : Option Addr) (w : World) (h : RSh 118 .u64 w lo hi a n) (hn : n ≤ 1048576) (hk : k ≤ 8000000000000000000) :
  Calls Tryz.prog 44 #[.slice a n c, .int .i64 (k : Int)] w fun e w' => e = .returned (.int .i64 ((k + n : Nat) : Int)) ∧ Shp w w' ∧ Out lo hi w w' ∧ Mkd .u64 w' a n k ∧ (∀ b, (∀ p, n ≠ 0 → a = some p → p.block ≠ b) → w'.heap[b]? = w.heap[b]?) := by
 have H := kide h
 clear h
 go_enter Tryz.func44, Tryz.ntmps44
 go_wp2_with fail
 go_loopw [1, 5] (fun q i wr => ∃ (j : Nat), j ≤ n ∧ i = .int .i64 (j : Int) ∧ q = .int .i64 ((k + j : Nat) : Int) ∧ Shp w wr ∧ Out lo hi w wr ∧ Mkd .u64 wr a j k ∧ (∀ b, (∀ p, n ≠ 0 → a = some p → p.block ≠ b) → wr.heap[b]? = w.heap[b]?)) (fun _ i _ => n - (intOf i).toNat)
 case atStart => exact ⟨0, Nat.zero_le _, rfl, rfl, Shp.refl _, Out.refl _ _ _, fun t h => by omega, fun _ _ => rfl⟩
 case round =>
  obtain ⟨j, hj, rfl, rfl, hs, ho, hm, hb⟩ := hrel
  have HS := kide hs
  have HO := kide ho
  have HM := kide hm
  have HB := kide hb
  by_cases hlt : j < n
  ·have hsh := H.out.shp hs
   rcases hsh with h0 | ⟨g, cu, e', hl, hh, hg, hc⟩
   ·omega
   obtain ⟨y0, hy0⟩ := hc j hlt
   have q0 : wr.cell? ⟨g, j, none⟩ = some (.int .u64 y0) := by rw [cell_of_row wr g j _ _ _ hg]; exact hy0
   have r0 := frozen_of_row wr g j _ _ hg
   obtain ⟨K, hK⟩ : ∃ K, k + j = K := ⟨_, rfl⟩
   rw [hK]
   have HK := kide hK
   have hKb : K < 9000000000000000000 := by omega
   have i0 : (j : Int) < (n : Int) := by omega
   have HS2 := kide (hs.trans (Shp.set q0 (K : Int)))
   have HO2 := kide (ho.set hl hh (.int .u64 (K : Int)) (o := j))
   have HM2 : Hid (∀ t, t < j + 1 → ∃ h, a = some ⟨h, 0, none⟩ ∧ (wr.setCell ⟨g, j, none⟩ (.int .u64 (K : Int))).cell? ⟨h, t, none⟩ = some (.int .u64 ((k + t : Nat) : Int))) := fun t ht => by
    by_cases et : t = j
    ·subst et
     refine ⟨g, e', ?_⟩
     rw [cell_of_row _ g t _ _ _ (heap_setCell_same wr g t _ _ _ hg), Array.getElem?_setIfInBounds_self_of_lt (Array.getElem?_eq_some_iff.1 hy0).1, HK.out]
    ·obtain ⟨h, e, hc'⟩ := hm t (by omega)
     rw [e'] at e
     cases e
     exact ⟨g, e', by rw [cell_neT hg _ (fun h => et h.symm)]; exact hc'⟩
   have HB2 : Hid (∀ b, (∀ p, n ≠ 0 → a = some p → p.block ≠ b) → (wr.setCell ⟨g, j, none⟩ (.int .u64 (K : Int))).heap[b]? = w.heap[b]?) := fun b h => by
    rw [heap_setCell_other _ _ _ _ (by simpa using (h _ (by omega) e').symm)]
    exact hb b h
   rw [e'] at HM2 HB2
   rw [e']
   clear hc hs ho hK hy0 hg hm hb
   go_wp2_with fail
   go_roundw
   case rel => exact ⟨j + 1, by omega, by go_num, by rw [show k + (j + 1) = K + 1 by have := HK.out; omega]; first | go_num | (simp; done), HS2.out, HO2.out, HM2.out, HB2.out⟩
   case measure => simp [intOf]; omega
  ·have e : j = n := by omega
   subst e
   clear hs ho hm hb
   go_wp2_with fail
   go_ret
   exact ⟨rfl, HS.out, HO.out, HM.out, HB.out⟩
theorem heldU_ra (c k n : Nat) (a : Option Addr) (w : World) (hk : k ≤ 8000000000000000000) (hn : n ≤ 1048576) (h : Mkd .u64 w a n k) :
  Calls Tryz.prog 46 #[.slice a n c, .int .i64 (k : Int)] w fun e w' => e = .returned (.int .i64 ((k + n : Nat) : Int)) ∧ w' = w := by
 have H := kide h
 clear h
 go_enter Tryz.func46, Tryz.ntmps46
 go_wp2_with fail
 go_loop [1, 5] (fun q i => ∃ j : Nat, j ≤ n ∧ i = .int .i64 j ∧ q = .int .i64 ((k + j : Nat) : Int)) (fun _ i => n - (intOf i).toNat)
 case atStart => exact ⟨0, Nat.zero_le _, rfl, rfl⟩
 case round =>
  obtain ⟨j, hj, rfl, rfl⟩ := hrel
  by_cases hlt : j < n
  ·obtain ⟨h, e, hcell⟩ := H.out j hlt
   rw [e]
   obtain ⟨K, hK⟩ : ∃ K, k + j = K := ⟨_, rfl⟩
   rw [hK] at hcell ⊢
   have HK := kide hK
   have hKb : K < 9000000000000000000 := by omega
   have hne : ((K : Int) != (K : Int)) = false := by simp
   have i0 : (j : Int) < (n : Int) := by omega
   clear hK
   go_wp2_with fail
   go_round
   case rel => exact ⟨j + 1, by omega, by go_num, by rw [show k + (j + 1) = K + 1 by have := HK.out; omega]; first | go_num | (simp; done)⟩
   case measure => simp [intOf]; omega
  ·have e : j = n := by omega
   subst e
   go_wp2_with fail
   go_ret
   exact ⟨rfl, rfl⟩
set_option maxHeartbeats 1000000 in
theorem markI_ra (lo hi c k n : Nat) (a : Option Addr) (w : World) (h : RSh 2 .i64 w lo hi a n) (hn : n ≤ 1048576) (hk : k ≤ 8000000000000000000) :
  Calls Tryz.prog 45 #[.slice a n c, .int .i64 (k : Int)] w fun e w' => e = .returned (.int .i64 ((k + n : Nat) : Int)) ∧ Shp w w' ∧ Out lo hi w w' ∧ Mkd .i64 w' a n k ∧ (∀ b, (∀ p, n ≠ 0 → a = some p → p.block ≠ b) → w'.heap[b]? = w.heap[b]?) := by
 have H := kide h
 clear h
 go_enter Tryz.func45, Tryz.ntmps45
 go_wp2_with fail
 go_loopw [1, 5] (fun q i wr => ∃ (j : Nat), j ≤ n ∧ i = .int .i64 (j : Int) ∧ q = .int .i64 ((k + j : Nat) : Int) ∧ Shp w wr ∧ Out lo hi w wr ∧ Mkd .i64 wr a j k ∧ (∀ b, (∀ p, n ≠ 0 → a = some p → p.block ≠ b) → wr.heap[b]? = w.heap[b]?)) (fun _ i _ => n - (intOf i).toNat)
 case atStart => exact ⟨0, Nat.zero_le _, rfl, rfl, Shp.refl _, Out.refl _ _ _, fun t h => by omega, fun _ _ => rfl⟩
 case round =>
  obtain ⟨j, hj, rfl, rfl, hs, ho, hm, hb⟩ := hrel
  have HS := kide hs
  have HO := kide ho
  have HM := kide hm
  have HB := kide hb
  by_cases hlt : j < n
  ·have hsh := H.out.shp hs
   rcases hsh with h0 | ⟨g, cu, e', hl, hh, hg, hc⟩
   ·omega
   obtain ⟨y0, hy0⟩ := hc j hlt
   have q0 : wr.cell? ⟨g, j, none⟩ = some (.int .i64 y0) := by rw [cell_of_row wr g j _ _ _ hg]; exact hy0
   have r0 := frozen_of_row wr g j _ _ hg
   obtain ⟨K, hK⟩ : ∃ K, k + j = K := ⟨_, rfl⟩
   rw [hK]
   have HK := kide hK
   have hKb : K < 9000000000000000000 := by omega
   have i0 : (j : Int) < (n : Int) := by omega
   have HS2 := kide (hs.trans (Shp.set q0 (K : Int)))
   have HO2 := kide (ho.set hl hh (.int .i64 (K : Int)) (o := j))
   have HM2 : Hid (∀ t, t < j + 1 → ∃ h, a = some ⟨h, 0, none⟩ ∧ (wr.setCell ⟨g, j, none⟩ (.int .i64 (K : Int))).cell? ⟨h, t, none⟩ = some (.int .i64 ((k + t : Nat) : Int))) := fun t ht => by
    by_cases et : t = j
    ·subst et
     refine ⟨g, e', ?_⟩
     rw [cell_of_row _ g t _ _ _ (heap_setCell_same wr g t _ _ _ hg), Array.getElem?_setIfInBounds_self_of_lt (Array.getElem?_eq_some_iff.1 hy0).1, HK.out]
    ·obtain ⟨h, e, hc'⟩ := hm t (by omega)
     rw [e'] at e
     cases e
     exact ⟨g, e', by rw [cell_neT hg _ (fun h => et h.symm)]; exact hc'⟩
   have HB2 : Hid (∀ b, (∀ p, n ≠ 0 → a = some p → p.block ≠ b) → (wr.setCell ⟨g, j, none⟩ (.int .i64 (K : Int))).heap[b]? = w.heap[b]?) := fun b h => by
    rw [heap_setCell_other _ _ _ _ (by simpa using (h _ (by omega) e').symm)]
    exact hb b h
   rw [e'] at HM2 HB2
   rw [e']
   clear hc hs ho hK hy0 hg hm hb
   go_wp2_with fail
   go_roundw
   case rel => exact ⟨j + 1, by omega, by go_num, by rw [show k + (j + 1) = K + 1 by have := HK.out; omega]; first | go_num | (simp; done), HS2.out, HO2.out, HM2.out, HB2.out⟩
   case measure => simp [intOf]; omega
  ·have e : j = n := by omega
   subst e
   clear hs ho hm hb
   go_wp2_with fail
   go_ret
   exact ⟨rfl, HS.out, HO.out, HM.out, HB.out⟩
theorem heldI_ra (c k n : Nat) (a : Option Addr) (w : World) (hk : k ≤ 8000000000000000000) (hn : n ≤ 1048576) (h : Mkd .i64 w a n k) :
  Calls Tryz.prog 47 #[.slice a n c, .int .i64 (k : Int)] w fun e w' => e = .returned (.int .i64 ((k + n : Nat) : Int)) ∧ w' = w := by
 have H := kide h
 clear h
 go_enter Tryz.func47, Tryz.ntmps47
 go_wp2_with fail
 go_loop [1, 5] (fun q i => ∃ j : Nat, j ≤ n ∧ i = .int .i64 j ∧ q = .int .i64 ((k + j : Nat) : Int)) (fun _ i => n - (intOf i).toNat)
 case atStart => exact ⟨0, Nat.zero_le _, rfl, rfl⟩
 case round =>
  obtain ⟨j, hj, rfl, rfl⟩ := hrel
  by_cases hlt : j < n
  ·obtain ⟨h, e, hcell⟩ := H.out j hlt
   rw [e]
   obtain ⟨K, hK⟩ : ∃ K, k + j = K := ⟨_, rfl⟩
   rw [hK] at hcell ⊢
   have HK := kide hK
   have hKb : K < 9000000000000000000 := by omega
   have hne : ((K : Int) != (K : Int)) = false := by simp
   have i0 : (j : Int) < (n : Int) := by omega
   clear hK
   go_wp2_with fail
   go_round
   case rel => exact ⟨j + 1, by omega, by go_num, by rw [show k + (j + 1) = K + 1 by have := HK.out; omega]; first | go_num | (simp; done)⟩
   case measure => simp [intOf]; omega
  ·have e : j = n := by omega
   subst e
   go_wp2_with fail
   go_ret
   exact ⟨rfl, rfl⟩
def lnT (l : List Tg) (i : Nat) : Nat := match l[i]? with | some x => x.ct.ws.length + x.ct.ks.length | none => 0
def mkT (l : List Tg) (k : Nat) : Nat → Nat
 | 0 => k
 | i + 1 => mkT l k i + 5 + lnT l i
def shT (l : List Tg) : Prop := ∀ x ∈ l, x.ct.ws.length ≤ 1048576 ∧ x.ct.ks.length ≤ 1048576
theorem mkT_le {l : List Tg} {k : Nat} (h : shT l) : ∀ i, mkT l k i ≤ k + i * 2097157
 | 0 => by simp [mkT]
 | i + 1 => by
  have h1 := mkT_le (k := k) h i
  have h2 : lnT l i ≤ 2097152 := by
   unfold lnT
   cases e : l[i]? with
   | none => simp
   | some x => have := h x (List.mem_of_getElem? e); simp only; omega
  unfold mkT
  omega
def TnS (f : Nat → Value) (l : List Tg) : Prop := ∀ i x, l[i]? = some x → (∃ y0 y1 y2 y3 y4 : Int, f (i * 7) = .int .i64 y0 ∧ f (i * 7 + 1) = .int .i64 y1 ∧ f (i * 7 + 2) = .int .i64 y2 ∧ f (i * 7 + 3) = .int .i64 y3 ∧ f (i * 7 + 4) = .int .i64 y4) ∧ f (i * 7 + 5) = .slice x.wa x.ct.ws.length x.wc ∧ f (i * 7 + 6) = .slice x.ka x.ct.ks.length x.kc
def FvK (f : Nat → Value) (i K : Nat) : Prop := f (i * 7) = .int .i64 (K : Int) ∧ f (i * 7 + 1) = .int .i64 ((K : Int) + 1) ∧ f (i * 7 + 2) = .int .i64 ((K : Int) + 1 + 1) ∧ f (i * 7 + 3) = .int .i64 ((K : Int) + 1 + 1 + 1) ∧ f (i * 7 + 4) = .int .i64 ((K : Int) + 1 + 1 + 1 + 1)
def SubT (w : World) (x : Tg) (K : Nat) : Prop := Mkd .u64 w x.wa x.ct.ws.length (K + 5) ∧ Mkd .i64 w x.ka x.ct.ks.length (K + 5 + x.ct.ws.length)
def HeldT (w : World) (g N : Nat) (l : List Tg) (k : Nat) : Prop := ∃ f, w.rowIs g 67 N f ∧ TnS f l ∧ ∀ i x, l[i]? = some x → FvK f i (mkT l k i) ∧ SubT w x (mkT l k i)
theorem HeldT.keep {w w' : World} {g N k : Nat} {l : List Tg} (h : HeldT w g N l k) (hg : w'.heap[g]? = w.heap[g]?) (hw : ∀ x ∈ l, ∀ p, x.ct.ws.length ≠ 0 → x.wa = some p → w'.heap[p.block]? = w.heap[p.block]?) (hk : ∀ x ∈ l, ∀ p, x.ct.ks.length ≠ 0 → x.ka = some p → w'.heap[p.block]? = w.heap[p.block]?) : HeldT w' g N l k := by
 obtain ⟨f, hr, ht, hh⟩ := h
 refine ⟨f, World.rowIs.of_block hr hg, ht, fun i x hi => ?_⟩
 obtain ⟨h1, h2, h3⟩ := hh i x hi
 have hm := List.mem_of_getElem? hi
 exact ⟨h1, h2.keep (hw x hm), h3.keep (hk x hm)⟩
theorem HeldT.later {w w' : World} {g N k : Nat} {l : List Tg} (h : HeldT w g N l k) (hb : Below w.heap.size w w') : HeldT w' g N l k := by
 obtain ⟨f, hr, ht, hh⟩ := id h
 refine h.keep (hb.block g (by obtain ⟨cc, h9, -⟩ := hr; exact lt_of_block h9)) (fun x hx p hn hp => ?_) (fun x hx p hn hp => ?_)
 ·obtain ⟨i, hi⟩ := List.mem_iff_getElem?.1 hx
  exact hb.block _ ((hh i x hi).2.1.lt hn hp)
 ·obtain ⟨i, hi⟩ := List.mem_iff_getElem?.1 hx
  exact hb.block _ ((hh i x hi).2.2.lt hn hp)
def RetMkT (w : World) (lo hi g N : Nat) (l : List Tg) (k : Nat) (e : Ending) (w' : World) : Prop := e = .returned (.int .i64 (mkT l k l.length : Int)) ∧ HeldT w' g N l k ∧ Out lo hi w w' ∧ Shp w w' ∧ ∀ b, b ≠ g → (∀ x ∈ l, ∀ p, x.ct.ws.length ≠ 0 → x.wa = some p → p.block ≠ b) → (∀ x ∈ l, ∀ p, x.ct.ks.length ≠ 0 → x.ka = some p → p.block ≠ b) → w'.heap[b]? = w.heap[b]?
theorem shp_row {w : World} {g N o : Nat} {f : Nat → Value} (h : w.rowIs g 67 N f) (ho : o < N) {y : Int} (hy : f o = .int .i64 y) (z : Int) : Shp w (w.setCell ⟨g, o, none⟩ (.int .i64 z)) := Shp.set (x := y) (by rw [h.cell ho, hy]) z
set_option maxHeartbeats 8000000 in
set_option maxRecDepth 100000 in
theorem markT_own (lo hi g c n k N : Nat) (l : List Tg) (w : World) (f0 : Nat → Value) (hrow : w.rowIs g 67 N f0) (hN : n * 7 ≤ N) (hf : TnS f0 l) (hg1 : lo ≤ g) (hg2 : g < hi)
  (hsh : ∀ x ∈ l, RSh 118 .u64 w lo hi x.wa x.ct.ws.length ∧ RSh 2 .i64 w lo hi x.ka x.ct.ks.length) (hl : shT l) (hwd : DjN Tg.wa l) (hkd : DjN Tg.ka l) (hn : l.length = n) (hn2 : n ≤ 1048576) (hk : k ≤ 4000000000000000000) :
  Calls Tryz.prog 26 #[.slice (some ⟨g, 0, none⟩) n c, .int .i64 (k : Int)] w (RetMkT w lo hi g N l k) := by
 have HSH := kide hsh
 have HSL := kide hl
 have HWD := kide hwd
 have HKD := kide hkd
 have HN := kide hn
 have HLE := kide (fun i => mkT_le (k := k) hl i)
 have HNN := kide hN
 have HF0 := kide hf
 have HR0 := kide hrow
 clear hsh hl hwd hkd hn hf hrow
 go_enter Tryz.func26, Tryz.ntmps26
 go_wp2_with fail
 go_loopw [1, 5] (fun q i wr => ∃ (j : Nat) (f : Nat → Value), j ≤ n ∧ i = .int .i64 (j : Int) ∧ q = .int .i64 (mkT l k j : Int) ∧ wr.rowIs g 67 N f ∧ TnS f l ∧ Shp w wr ∧ Out lo hi w wr ∧ (∀ i x, i < j → l[i]? = some x → FvK f i (mkT l k i) ∧ SubT wr x (mkT l k i)) ∧ (∀ b, b ≠ g → (∀ x ∈ l, ∀ p, x.ct.ws.length ≠ 0 → x.wa = some p → p.block ≠ b) → (∀ x ∈ l, ∀ p, x.ct.ks.length ≠ 0 → x.ka = some p → p.block ≠ b) → wr.heap[b]? = w.heap[b]?)) (fun _ i _ => n - (intOf i).toNat)
 case atStart => exact ⟨0, f0, Nat.zero_le _, rfl, rfl, HR0.out, HF0.out, Shp.refl _, Out.refl _ _ _, fun i x h => by omega, fun _ _ _ _ => rfl⟩
 case round =>
  clear HF0 HR0
  obtain ⟨j, f, hj, rfl, rfl, hrow, hf, hs, ho, hh, hb⟩ := hrel
  have HRW := kide hrow
  have HF := kide hf
  have HS := kide hs
  have HO := kide ho
  have HH := kide hh
  have HB := kide hb
  by_cases hlt : j < n
  ·obtain ⟨x, gx⟩ : ∃ x, l[j]? = some x := ⟨l[j]'(by rw [HN.out]; exact hlt), List.getElem?_eq_getElem _⟩
   obtain ⟨⟨y0, y1, y2, y3, y4, e0, e1, e2, e3, e4⟩, e5, e6⟩ := hf j x gx
   have hxm := List.mem_of_getElem? gx
   obtain ⟨hrw, hrk⟩ := HSH.out x hxm
   obtain ⟨hlw, hlk⟩ := HSL.out x hxm
   have hKb := HLE.out j
   have HST : Hid (mkT l k (j + 1) = mkT l k j + 5 + (x.ct.ws.length + x.ct.ks.length)) := by show _ = _; simp [mkT, lnT, gx]
   generalize hKK : mkT l k j = K at *
   have HKK := kide hKK
   have hjN : j * 7 + 7 ≤ N := by omega
   have hKb2 : K ≤ 5000000000000000000 := by
    have : j * 2097157 ≤ 1048576 * 2097157 := Nat.mul_le_mul_right _ (by omega)
    omega
   have q0 := hrow.cell (i := j * 7) (by omega)
   have q1 := hrow.cell (i := j * 7 + 1) (by omega)
   have q2 := hrow.cell (i := j * 7 + 2) (by omega)
   have q3 := hrow.cell (i := j * 7 + 3) (by omega)
   have q4 := hrow.cell (i := j * 7 + 4) (by omega)
   have q5 := hrow.cell (i := j * 7 + 5) (by omega)
   have q6 := hrow.cell (i := j * 7 + 6) (by omega)
   rw [e0] at q0
   rw [e1] at q1
   rw [e2] at q2
   rw [e3] at q3
   rw [e4] at q4
   rw [e5] at q5
   rw [e6] at q6
   have r0 := hrow.frozen (j * 7)
   have r1 := hrow.frozen (j * 7 + 1)
   have r2 := hrow.frozen (j * 7 + 2)
   have r3 := hrow.frozen (j * 7 + 3)
   have r4 := hrow.frozen (j * 7 + 4)
   have i0 : (j : Int) < (n : Int) := by omega
   -- the five stores
   have P1 := kide (World.rowIs.set HRW.out (j * 7) (.int .i64 (K : Int)))
   have S1 := kide (hs.trans (shp_row hrow (by omega) e0 (K : Int)))
   have P2 := kide (World.rowIs.set P1.out (j * 7 + 1) (.int .i64 ((K : Int) + 1)))
   have S2 := kide (S1.out.trans (shp_row P1.out (o := j * 7 + 1) (by omega) (y := y1) (by show (if _ then _ else _) = _; rw [if_neg (by omega)]; exact e1) ((K : Int) + 1)))
   have P3 := kide (World.rowIs.set P2.out (j * 7 + 2) (.int .i64 ((K : Int) + 1 + 1)))
   have S3 := kide (S2.out.trans (shp_row P2.out (o := j * 7 + 2) (by omega) (y := y2) (by show (if _ then _ else _) = _; rw [if_neg (by omega)]; show (if _ then _ else _) = _; rw [if_neg (by omega)]; exact e2) ((K : Int) + 1 + 1)))
   have P4 := kide (World.rowIs.set P3.out (j * 7 + 3) (.int .i64 ((K : Int) + 1 + 1 + 1)))
   have S4 := kide (S3.out.trans (shp_row P3.out (o := j * 7 + 3) (by omega) (y := y3) (by show (if _ then _ else _) = _; rw [if_neg (by omega)]; show (if _ then _ else _) = _; rw [if_neg (by omega)]; show (if _ then _ else _) = _; rw [if_neg (by omega)]; exact e3) ((K : Int) + 1 + 1 + 1)))
   have P5 := kide (World.rowIs.set P4.out (j * 7 + 4) (.int .i64 ((K : Int) + 1 + 1 + 1 + 1)))
   have S5 := kide (S4.out.trans (shp_row P4.out (o := j * 7 + 4) (by omega) (y := y4) (by show (if _ then _ else _) = _; rw [if_neg (by omega)]; show (if _ then _ else _) = _; rw [if_neg (by omega)]; show (if _ then _ else _) = _; rw [if_neg (by omega)]; show (if _ then _ else _) = _; rw [if_neg (by omega)]; exact e4) ((K : Int) + 1 + 1 + 1 + 1)))
   have G5 := kide (grow_setT (grow_setT (grow_setT (grow_setT (grow_setT (World.grownBy.refl wr (some g)) (j * 7) (.int .i64 (K : Int))) (j * 7 + 1) (.int .i64 ((K : Int) + 1))) (j * 7 + 2) (.int .i64 ((K : Int) + 1 + 1))) (j * 7 + 3) (.int .i64 ((K : Int) + 1 + 1 + 1))) (j * 7 + 4) (.int .i64 ((K : Int) + 1 + 1 + 1 + 1)))
   have O5 := kide (HO.out.trans (Out.grown G5.out hg1 hg2))
   have FX : Hid (∀ o, o ≠ j * 7 → o ≠ j * 7 + 1 → o ≠ j * 7 + 2 → o ≠ j * 7 + 3 → o ≠ j * 7 + 4 → (fun i => if i = j * 7 + 4 then Value.int .i64 ((K : Int) + 1 + 1 + 1 + 1) else (fun i => if i = j * 7 + 3 then Value.int .i64 ((K : Int) + 1 + 1 + 1) else (fun i => if i = j * 7 + 2 then Value.int .i64 ((K : Int) + 1 + 1) else (fun i => if i = j * 7 + 1 then Value.int .i64 ((K : Int) + 1) else (fun i => if i = j * 7 then Value.int .i64 (K : Int) else f i) i) i) i) i) o = f o) := fun o h0 h1 h2 h3 h4 => by
    show (if _ then _ else _) = _
    rw [if_neg h4]
    show (if _ then _ else _) = _
    rw [if_neg h3]
    show (if _ then _ else _) = _
    rw [if_neg h2]
    show (if _ then _ else _) = _
    rw [if_neg h1]
    show (if _ then _ else _) = _
    rw [if_neg h0]
   have F5 : ∃ f5, (((((wr.setCell ⟨g, j * 7, none⟩ (.int .i64 (K : Int))).setCell ⟨g, j * 7 + 1, none⟩ (.int .i64 ((K : Int) + 1))).setCell ⟨g, j * 7 + 2, none⟩ (.int .i64 ((K : Int) + 1 + 1))).setCell ⟨g, j * 7 + 3, none⟩ (.int .i64 ((K : Int) + 1 + 1 + 1))).setCell ⟨g, j * 7 + 4, none⟩ (.int .i64 ((K : Int) + 1 + 1 + 1 + 1))).rowIs g 67 N f5 ∧ FvK f5 j K ∧ (∀ o, o ≠ j * 7 → o ≠ j * 7 + 1 → o ≠ j * 7 + 2 → o ≠ j * 7 + 3 → o ≠ j * 7 + 4 → f5 o = f o) := by
    refine ⟨_, P5.out, ⟨?_, ?_, ?_, ?_, ?_⟩, FX.out⟩
    all_goals simp
   have HZ : Hid ((((((wr.setCell ⟨g, j * 7, none⟩ (.int .i64 (K : Int))).setCell ⟨g, j * 7 + 1, none⟩ (.int .i64 ((K : Int) + 1))).setCell ⟨g, j * 7 + 2, none⟩ (.int .i64 ((K : Int) + 1 + 1))).setCell ⟨g, j * 7 + 3, none⟩ (.int .i64 ((K : Int) + 1 + 1 + 1))).setCell ⟨g, j * 7 + 4, none⟩ (.int .i64 ((K : Int) + 1 + 1 + 1 + 1))).heap.size = wr.heap.size) := by show _ = _; simp
   clear P1 P2 P3 P4 P5 S1 S2 S3 S4 FX
   obtain ⟨f5, hP5, hv5, hx5⟩ := F5
   have P5 := kide hP5
   have V5 := kide hv5
   have X5 := kide hx5
   have HRk := kide hrk
   have HMW := kide (markU_ra lo hi x.wc (K + 5) x.ct.ws.length x.wa _ (hrw.shp S5.out) hlw (by omega))
   have E5 := kide e5
   have E6 := kide e6
   have GX := kide gx
   have HLK := kide hlk
   have HLW := kide hlw
   clear hP5 hv5 hx5 hrow hf hs ho hh hb hrw hrk gx hKK hlw hlk hxm e0 e1 e2 e3 e4 e5 e6
   go_wp2_with fail
   generalize (((((wr.setCell ⟨g, j * 7, none⟩ (.int .i64 (K : Int))).setCell ⟨g, j * 7 + 1, none⟩ (.int .i64 ((K : Int) + 1))).setCell ⟨g, j * 7 + 2, none⟩ (.int .i64 ((K : Int) + 1 + 1))).setCell ⟨g, j * 7 + 3, none⟩ (.int .i64 ((K : Int) + 1 + 1 + 1))).setCell ⟨g, j * 7 + 4, none⟩ (.int .i64 ((K : Int) + 1 + 1 + 1 + 1))) = w1 at *
   clear q0 q1 q2 q3 q4 q5 q6 r0 r1 r2 r3 r4
   obtain ⟨K5, hK5⟩ : ∃ K5 : Nat, K + 5 = K5 := ⟨_, rfl⟩
   have hKe : (K : Int) + 1 + 1 + 1 + 1 + 1 = (K5 : Int) := by omega
   rw [hKe]
   rw [hK5] at HMW
   have HK5 := kide hK5
   have hKb5 : K5 ≤ 5100000000000000000 := by omega
   clear hK5 hKe
   refine Calls.mono HMW.out ?_
   rintro e w2 ⟨rfl, hs2, ho2, hm2, hb2⟩
   have S6 := kide (S5.out.trans hs2)
   have O6 := kide (O5.out.trans ho2)
   have M6 := kide hm2
   have B6 := kide hb2
   obtain ⟨K6, hK6⟩ : ∃ K6 : Nat, K5 + x.ct.ws.length = K6 := ⟨_, rfl⟩
   rw [hK6]
   have HK6 := kide hK6
   have hKb6 : K6 ≤ 5200000000000000000 := by have := HLW.out; omega
   have NGW : Hid (∀ y ∈ l, ∀ p, y.ct.ws.length ≠ 0 → y.wa = some p → p.block ≠ g) := fun y hy p h0 hp e => by
    rcases ((HSH.out y hy).1).shp S5.out with h9 | ⟨h9, cur9, e9, -, -, k9, -⟩
    ·exact h0 h9
    ·rw [e9] at hp
     cases hp
     obtain ⟨cc, hh, -⟩ := P5.out
     simp only [] at e
     subst e
     rw [hh] at k9
     cases k9
   have NGK : Hid (∀ y ∈ l, ∀ p, y.ct.ks.length ≠ 0 → y.ka = some p → p.block ≠ g) := fun y hy p h0 hp e => by
    rcases ((HSH.out y hy).2).shp S5.out with h9 | ⟨h9, cur9, e9, -, -, k9, -⟩
    ·exact h0 h9
    ·rw [e9] at hp
     cases hp
     obtain ⟨cc, hh, -⟩ := P5.out
     simp only [] at e
     subst e
     rw [hh] at k9
     cases k9
   have NWK : Hid (∀ y ∈ l, ∀ z ∈ l, ∀ p q, y.ct.ws.length ≠ 0 → y.wa = some p → z.ct.ks.length ≠ 0 → z.ka = some q → p.block ≠ q.block) := fun y hy z hz p q h0 hp h1 hq e => by
    rcases ((HSH.out y hy).1).shp S5.out with h9 | ⟨h9, cur9, e9, -, -, k9, -⟩
    ·exact h0 h9
    rcases ((HSH.out z hz).2).shp S5.out with h8 | ⟨h8, cur8, e8, -, -, k8, -⟩
    ·exact h1 h8
    rw [e9] at hp
    cases hp
    rw [e8] at hq
    cases hq
    simp only [] at e
    subst e
    rw [k9] at k8
    cases k8
   have hxm := List.mem_of_getElem? GX.out
   have P6 := kide (World.rowIs.of_block P5.out (hb2 g (fun p h0 hp => NGW.out x hxm p h0 hp)))
   have c6 := P6.out.cell (i := j * 7 + 6) (by omega)
   rw [X5.out _ (by omega) (by omega) (by omega) (by omega) (by omega), E6.out] at c6
   have HMK := kide (markI_ra lo hi x.kc K6 x.ct.ks.length x.ka w2 (HRk.out.shp S6.out) HLK.out (by omega))
   clear hs2 ho2 hm2 hb2 hK6 hxm
   go_wp2_with fail
   refine Calls.mono HMK.out ?_
   rintro e w3 ⟨rfl, hs3, ho3, hm3, hb3⟩
   have S7 := kide (S6.out.trans hs3)
   have O7 := kide (O6.out.trans ho3)
   have M7 := kide hm3
   have B7 := kide hb3
   clear hs3 ho3 hm3 hb3 c6
   go_wp2_with fail
   go_roundw
   case rel =>
    have hxm := List.mem_of_getElem? GX.out
    have hg6 : w2.heap[g]? = w1.heap[g]? := B6.out g (fun p h0 hp => NGW.out x hxm p h0 hp)
    have hg7 : w3.heap[g]? = w2.heap[g]? := B7.out g (fun p h0 hp => NGK.out x hxm p h0 hp)
    refine ⟨j + 1, f5, by omega, by go_num, ?_, World.rowIs.of_block P6.out hg7, ?_, S7.out, O7.out, ?_, ?_⟩
    ·rw [HST.out]
     congr 1
     have := HK5.out
     have := HK6.out
     omega
    ·intro i y hi
     obtain ⟨⟨z0, z1, z2, z3, z4, a0, a1, a2, a3, a4⟩, a5, a6⟩ := HF.out i y hi
     refine ⟨?_, by rw [X5.out _ (by omega) (by omega) (by omega) (by omega) (by omega)]; exact a5, by rw [X5.out _ (by omega) (by omega) (by omega) (by omega) (by omega)]; exact a6⟩
     by_cases hij : i = j
     ·subst hij
      obtain ⟨v0, v1, v2, v3, v4⟩ := V5.out
      exact ⟨_, _, _, _, _, v0, v1, v2, v3, v4⟩
     ·refine ⟨z0, z1, z2, z3, z4, ?_, ?_, ?_, ?_, ?_⟩
      ·rw [X5.out _ (by omega) (by omega) (by omega) (by omega) (by omega)]; exact a0
      ·rw [X5.out _ (by omega) (by omega) (by omega) (by omega) (by omega)]; exact a1
      ·rw [X5.out _ (by omega) (by omega) (by omega) (by omega) (by omega)]; exact a2
      ·rw [X5.out _ (by omega) (by omega) (by omega) (by omega) (by omega)]; exact a3
      ·rw [X5.out _ (by omega) (by omega) (by omega) (by omega) (by omega)]; exact a4
    ·intro i y hi hy
     by_cases hij : i = j
     ·subst hij
      rw [GX.out] at hy
      cases hy
      rw [HKK.out]
      refine ⟨V5.out, ?_, ?_⟩
      ·rw [HK5.out]
       exact M6.out.keep fun p h0 hp => B7.out p.block (fun q h1 hq e => NWK.out x hxm x hxm p q h0 hp h1 hq e.symm)
      ·rw [HK5.out, HK6.out]
       exact M7.out
     ·obtain ⟨⟨v0, v1, v2, v3, v4⟩, m1, m2⟩ := HH.out i y (by omega) hy
      have hym := List.mem_of_getElem? hy
      have key : ∀ b, b ≠ g → (∀ p, x.ct.ws.length ≠ 0 → x.wa = some p → p.block ≠ b) → (∀ p, x.ct.ks.length ≠ 0 → x.ka = some p → p.block ≠ b) → w3.heap[b]? = wr.heap[b]? := fun b h0 h1 h2 => by
       rw [B7.out b h2, B6.out b h1]
       by_cases hbl : b < wr.heap.size
       ·exact G5.out.block b hbl (fun e => h0 (by cases e; rfl))
       ·have hz : w1.heap.size = wr.heap.size := HZ.out
        rw [Array.getElem?_eq_none (by omega), Array.getElem?_eq_none (by omega)]
      refine ⟨⟨?_, ?_, ?_, ?_, ?_⟩, m1.keep fun p h0 hp => ?_, m2.keep fun p h0 hp => ?_⟩
      ·rw [X5.out _ (by omega) (by omega) (by omega) (by omega) (by omega)]; exact v0
      ·rw [X5.out _ (by omega) (by omega) (by omega) (by omega) (by omega)]; exact v1
      ·rw [X5.out _ (by omega) (by omega) (by omega) (by omega) (by omega)]; exact v2
      ·rw [X5.out _ (by omega) (by omega) (by omega) (by omega) (by omega)]; exact v3
      ·rw [X5.out _ (by omega) (by omega) (by omega) (by omega) (by omega)]; exact v4
      ·exact key _ (NGW.out y hym p h0 hp) (fun q h1 hq e => HWD.out i j y x (by omega) hy GX.out p q hp hq e.symm) (fun q h1 hq e => NWK.out y hym x hxm p q h0 hp h1 hq e.symm)
      ·exact key _ (NGK.out y hym p h0 hp) (fun q h1 hq e => NWK.out x hxm y hym q p h1 hq h0 hp e) (fun q h1 hq e => HKD.out i j y x (by omega) hy GX.out p q hp hq e.symm)
    ·intro b h0 h1 h2
     rw [B7.out b (fun p hn hp => h2 x hxm p hn hp), B6.out b (fun p hn hp => h1 x hxm p hn hp)]
     refine Eq.trans ?_ (HB.out b h0 h1 h2)
     by_cases hbl : b < wr.heap.size
     ·exact G5.out.block b hbl (fun e => h0 (by cases e; rfl))
     ·have hz : w1.heap.size = wr.heap.size := HZ.out
      rw [Array.getElem?_eq_none (by omega), Array.getElem?_eq_none (by omega)]
   case measure => simp [intOf]; omega
  ·have e : j = n := by omega
   subst e
   clear hrow hf hs ho hh hb
   go_wp2_with fail
   go_ret
   exact ⟨by rw [HN.out]; rfl, ⟨f, HRW.out, HF.out, fun i x hi => HH.out i x (by have := (List.getElem?_eq_some_iff.1 hi).1; rw [HN.out] at this; exact this) hi⟩, HO.out, HS.out, HB.out⟩

set_option maxHeartbeats 2000000 in
theorem heldT_any (g c n k N : Nat) (l : List Tg) (w : World) (h : HeldT w g N l k) (hN : n * 7 ≤ N) (hl : shT l) (hn : l.length = n) (hn2 : n ≤ 1048576) (hk : k ≤ 4000000000000000000) :
  Calls Tryz.prog 27 #[.slice (some ⟨g, 0, none⟩) n c, .int .i64 (k : Int)] w fun e w' => e = .returned (.int .i64 (mkT l k l.length : Int)) ∧ w' = w := by
 obtain ⟨f, hrow, hf, hh⟩ := h
 have HR := kide hrow
 have HF := kide hf
 have HH := kide hh
 have HN := kide hn
 have HSL := kide hl
 have HLE := kide (fun i => mkT_le (k := k) hl i)
 clear hrow hf hh hn hl
 go_enter Tryz.func27, Tryz.ntmps27
 go_wp2_with fail
 go_loop [1, 5] (fun q i => ∃ j : Nat, j ≤ n ∧ i = .int .i64 j ∧ q = .int .i64 (mkT l k j : Int)) (fun _ i => n - (intOf i).toNat)
 case atStart => exact ⟨0, Nat.zero_le _, rfl, rfl⟩
 case round =>
  obtain ⟨j, hj, rfl, rfl⟩ := hrel
  by_cases hlt : j < n
  ·obtain ⟨x, gx⟩ : ∃ x, l[j]? = some x := ⟨l[j]'(by rw [HN.out]; exact hlt), List.getElem?_eq_getElem _⟩
   obtain ⟨⟨v0, v1, v2, v3, v4⟩, m1, m2⟩ := HH.out j x gx
   obtain ⟨-, e5, e6⟩ := HF.out j x gx
   obtain ⟨hlw, hlk⟩ := HSL.out x (List.mem_of_getElem? gx)
   have hKb := HLE.out j
   have HST : Hid (mkT l k (j + 1) = mkT l k j + 5 + (x.ct.ws.length + x.ct.ks.length)) := by show _ = _; simp [mkT, lnT, gx]
   generalize hKK : mkT l k j = K at *
   have hKb2 : K ≤ 5000000000000000000 := by
    have : j * 2097157 ≤ 1048576 * 2097157 := Nat.mul_le_mul_right _ (by omega)
    omega
   have q0 := HR.out.cell (i := j * 7) (by omega)
   have q1 := HR.out.cell (i := j * 7 + 1) (by omega)
   have q2 := HR.out.cell (i := j * 7 + 2) (by omega)
   have q3 := HR.out.cell (i := j * 7 + 3) (by omega)
   have q4 := HR.out.cell (i := j * 7 + 4) (by omega)
   have q5 := HR.out.cell (i := j * 7 + 5) (by omega)
   have q6 := HR.out.cell (i := j * 7 + 6) (by omega)
   rw [v0] at q0
   rw [v1] at q1
   rw [v2] at q2
   rw [v3] at q3
   rw [v4] at q4
   rw [e5] at q5
   rw [e6] at q6
   have n0 : ((K : Int) != (K : Int)) = false := by simp
   have n1 : ((K : Int) + 1 != (K : Int) + 1) = false := by simp
   have n2 : ((K : Int) + 1 + 1 != (K : Int) + 1 + 1) = false := by simp
   have n3 : ((K : Int) + 1 + 1 + 1 != (K : Int) + 1 + 1 + 1) = false := by simp
   have n4 : ((K : Int) + 1 + 1 + 1 + 1 != (K : Int) + 1 + 1 + 1 + 1) = false := by simp
   have i0 : (j : Int) < (n : Int) := by omega
   obtain ⟨K5, hK5⟩ : ∃ K5 : Nat, K + 5 = K5 := ⟨_, rfl⟩
   obtain ⟨K6, hK6⟩ : ∃ K6 : Nat, K5 + x.ct.ws.length = K6 := ⟨_, rfl⟩
   obtain ⟨K7, hK7⟩ : ∃ K7 : Nat, K6 + x.ct.ks.length = K7 := ⟨_, rfl⟩
   rw [hK5] at m1 m2
   rw [hK6] at m2
   have HU := kide (heldU_ra x.wc K5 x.ct.ws.length x.wa w (by omega) hlw m1)
   have HI := kide (heldI_ra x.kc K6 x.ct.ks.length x.ka w (by omega) hlk m2)
   rw [hK6] at HU
   rw [hK7] at HI
   have hKe : (K : Int) + 1 + 1 + 1 + 1 + 1 = (K5 : Int) := by omega
   have p6 : ¬ (K6 : Int) < 0 := by omega
   have p7 : ¬ (K7 : Int) < 0 := by omega
   have HK7 : Hid (K7 = K + 5 + (x.ct.ws.length + x.ct.ks.length)) := by show _ = _; omega
   have HKE := kide hKe
   clear m1 m2 gx hKK hK5 hK6 hK7 v0 v1 v2 v3 v4 e5 e6 hKe
   go_wp2_with fail
   rw [HKE.out]
   refine Calls.mono HU.out ?_
   rintro e w3 ⟨rfl, hw3⟩
   obtain rfl := hw3.symm
   go_wp2_with fail
   refine Calls.mono HI.out ?_
   rintro e w3 ⟨rfl, hw3⟩
   obtain rfl := hw3.symm
   go_wp2_with fail
   go_round
   case rel => exact ⟨j + 1, by omega, by go_num, by rw [HST.out, HK7.out]⟩
   case measure => simp [intOf]; omega
  ·have e : j = n := by omega
   subst e
   go_wp2_with fail
   go_ret
   exact ⟨by rw [HN.out]; rfl, rfl⟩
theorem markT_nil (a : Option Addr) (c k : Nat) (w : World) : Calls Tryz.prog 26 #[.slice a 0 c, .int .i64 (k : Int)] w fun e w' => e = .returned (.int .i64 (k : Int)) ∧ w' = w := by
 go_enter Tryz.func26, Tryz.ntmps26
 go_wp2_with fail
 go_loopw [1, 5] (fun q i wr => q = .int .i64 (k : Int) ∧ i = .int .i64 0 ∧ wr = w) (fun _ _ _ => 0)
 case atStart => exact ⟨rfl, rfl, rfl⟩
 case round =>
  obtain ⟨rfl, rfl, rfl⟩ := hrel
  go_wp2_with fail
  go_ret
  exact ⟨rfl, rfl⟩
theorem heldT_nil (a : Option Addr) (c k : Nat) (w : World) : Calls Tryz.prog 27 #[.slice a 0 c, .int .i64 (k : Int)] w fun e w' => e = .returned (.int .i64 (k : Int)) ∧ w' = w := by
 go_enter Tryz.func27, Tryz.ntmps27
 go_wp2_with fail
 go_loop [1, 5] (fun q i => q = .int .i64 (k : Int) ∧ i = .int .i64 0) (fun _ _ => 0)
 case atStart => exact ⟨rfl, rfl⟩
 case round =>
  obtain ⟨rfl, rfl⟩ := hrel
  go_wp2_with fail
  go_ret
  exact ⟨rfl, rfl⟩
def HeldTv (w : World) (v : Value) (l : List Tg) (k : Nat) : Prop := l = [] ∨ ∃ g n c N, v = .slice (some ⟨g, 0, none⟩) n c ∧ n * 7 ≤ N ∧ HeldT w g N l k
theorem HeldTv.later {w w' : World} {v : Value} {l : List Tg} {k : Nat} (h : HeldTv w v l k) (hb : Below w.heap.size w w') : HeldTv w' v l k := by
 rcases h with h | ⟨g, n, c, N, e, hn, h⟩
 ·exact .inl h
 ·exact .inr ⟨g, n, c, N, e, hn, h.later hb⟩
theorem OT.tn {w : World} {B g n c : Nat} {l : List Tg} (h : OT w B (.slice (some ⟨g, 0, none⟩) n c) l) : ∃ N f, n * 7 ≤ N ∧ w.rowIs g 67 N f ∧ TnS f l ∧ B ≤ g ∧ g < w.heap.size := by
 have hlt := h.lt rfl
 have hat := fun i x (hi : l[i]? = some x) => h.at hi
 rcases h.2 with ⟨e, -⟩ | ⟨g', cap, cur, e, hg, hh, hc1, hc2, hsz, hcur⟩
 ·cases e
 ·cases e
  refine ⟨c * 7, fun i => cur.getD i (.int .i64 0), by omega, ⟨cur, hh, hsz, fun i hi => ?_⟩, fun i x hi => ?_, hlt⟩
  ·have hi' : i < cur.size := by omega
   rw [Array.getElem?_eq_getElem hi']
   simp [Array.getD, hi']
  ·obtain ⟨g', c', e', f0, f1, f2, f3, f4, f5, f6⟩ := hat i x hi
   cases e'
   have key : ∀ o u, w.cell? ⟨g, o, none⟩ = some u → cur.getD o (.int .i64 0) = u := fun o u hu => by
    rw [cell_of_row w g o cur _ _ hh] at hu
    rw [Array.getD_eq_getD_getElem?, hu]
    rfl
   exact ⟨⟨_, _, _, _, _, key _ _ f0, key _ _ f1, key _ _ f2, key _ _ f3, key _ _ f4⟩, key _ _ f5, key _ _ f6⟩
theorem heldTs_any (n c k : Nat) (a : Option Addr) (l : List Tg) (w : World) (h : HeldTv w (.slice a n c) l k) (hl : shT l) (hn : l.length = n) (hn2 : n ≤ 1048576) (hk : k ≤ 4000000000000000000) :
  Calls Tryz.prog 27 #[.slice a n c, .int .i64 (k : Int)] w fun e w' => e = .returned (.int .i64 (mkT l k l.length : Int)) ∧ w' = w := by
 rcases h with rfl | ⟨g, n', c', N, e, h0, h⟩
 ·subst hn
  exact heldT_nil a c k w
 ·cases e
  exact heldT_any g c n k N l w h h0 hl hn hn2 hk
theorem heldTerm_ts (n c k : Nat) (a : Option Addr) (l : List Tg) (w : World) (h : HeldTv w (.slice a n c) l k) (hl : shT l) (hn : l.length = n) (hn2 : n ≤ 1048576) (hk : k ≤ 4000000000000000000) :
  Calls Tryz.prog 14 #[.agg #[.slice a n c], .int .i64 (k : Int)] w fun e w' => e = .returned (.int .i64 (mkT l k l.length : Int)) ∧ Below w.heap.size w w' := by
 have hb : Below w.heap.size w (w.alloc (Obj.cells #[.slice a n c] 30)) := blA _ _
 have HM := kide (heldTs_any n c k a l (w.alloc (Obj.cells #[.slice a n c] 30)) (h.later hb) hl hn hn2 hk)
 have HB := kide hb
 obtain ⟨R, hR⟩ : ∃ R, mkT l k l.length = R := ⟨_, rfl⟩
 rw [hR] at HM ⊢
 have hR0 : ¬ (R : Int) < 0 := by omega
 clear h hb hR
 go_enter Tryz.func14, Tryz.ntmps14
 go_wp2_with fail
 refine Calls.mono HM.out ?_
 rintro e w' ⟨rfl, hw⟩
 obtain rfl := hw.symm
 go_wp2_with fail
 go_ret
 exact ⟨rfl, HB.out⟩

theorem eqTNode_same (s : Tc) (wa wb ka kb : Option Addr) (c1 d1 c2 d2 : Nat) (w : World) (hr1 : Rd w wa s.ws) (hs1 : Rd w wb s.ws) (hr2 : RdI w ka s.ks) (hs2 : RdI w kb s.ks) :
  Calls Tryz.prog 43 #[.agg #[.int .i64 s.op, .int .i64 s.vr, .int .i64 s.a, .int .i64 s.b, .int .i64 s.bw, .slice wa s.ws.length c1, .slice ka s.ks.length c2], .agg #[.int .i64 s.op, .int .i64 s.vr, .int .i64 s.a, .int .i64 s.b, .int .i64 s.bw, .slice wb s.ws.length d1, .slice kb s.ks.length d2]] w fun e w' => e = .returned (.bool true) ∧ Below w.heap.size w w' := by
 obtain ⟨op, vr, a, b, bw, ws, ks⟩ := s
 simp only [] at hr1 hs1 hr2 hs2 ⊢
 have h2 : Below w.heap.size w ((w.alloc (Obj.cells #[.int .i64 op, .int .i64 vr, .int .i64 a, .int .i64 b, .int .i64 bw, .slice wa ws.length c1, .slice ka ks.length c2] 67)).alloc (Obj.cells #[.int .i64 op, .int .i64 vr, .int .i64 a, .int .i64 b, .int .i64 bw, .slice wb ws.length d1, .slice kb ks.length d2] 67)) := (blA _ _).alloc (by simp) _
 have HI : Hid (∀ u, Below w.heap.size w u → Calls Tryz.prog 69 #[.slice ka ks.length c2, .slice kb ks.length d2] u fun e w' => e = .returned (.bool true) ∧ Below u.heap.size u w') := fun u hu => by
  have := eqInt64S_any ka kb c2 d2 ks ks u (hr2.later hu) (hs2.later hu)
  simpa using this
 have HE : Hid (∀ u, Below w.heap.size w u → Calls Tryz.prog 68 #[.agg #[.int .i64 bw, .slice wa ws.length c1], .agg #[.int .i64 bw, .slice wb ws.length d1]] u fun e w' => e = .returned (.bool true) ∧ Below u.heap.size u w') := fun u hu => by
  have := eqBits_any bw bw wa wb c1 d1 ws ws u (hr1.later hu) (hs1.later hu)
  simpa using this
 have B2 := kide h2
 have e0 : (op != op) = false := by simp
 have e1 : (vr != vr) = false := by simp
 have e2 : (a != a) = false := by simp
 have e3 : (b != b) = false := by simp
 clear hr1 hs1 hr2 hs2 h2
 go_enter Tryz.func43, Tryz.ntmps43
 go_wp2_with fail
 refine Calls.mono (HE.out _ B2.out) ?_
 rintro e w1 ⟨rfl, hb1⟩
 have k0 := kcell hb1 w.heap.size 6 (by simp; omega)
 have j0 := kcell hb1 (w.heap.size + 1) 6 (by simp)
 have B3 := kide (B2.out.trans (hb1.mono B2.out.size))
 simp at k0 j0
 clear hb1
 go_wp2_with fail
 refine Calls.mono (HI.out _ B3.out) ?_
 rintro e w2 ⟨rfl, hb2⟩
 go_wp2_with fail
 go_ret
 exact ⟨rfl, B3.out.trans (hb2.mono B3.out.size)⟩
set_option maxHeartbeats 1000000 in
theorem eqTNodeS_same (a b : Option Addr) (c d : Nat) (xs ys : List Tg) (w : World) (hr : RdT w a xs) (hs : RdT w b ys) (he : xs.map Tg.ct = ys.map Tg.ct) (n : Nat) (h1 : xs.length = n) (h2 : ys.length = n) :
  Calls Tryz.prog 23 #[.slice a n c, .slice b n d] w fun e w' => e = .returned (.bool true) ∧ Below w.heap.size w w' := by
 have hl1 := hr.1
 rw [h1] at hl1
 have hne : ((n : Int) != (n : Int)) = false := by simp
 have H1 := kide h1
 have H2 := kide h2
 have HE := kide he
 clear h1 h2 he
 go_enter Tryz.func23, Tryz.ntmps23
 go_wp2_with fail
 clear hne
 go_loopw [5] (fun i wr => ∃ k : Nat, k ≤ n ∧ i = .int .i64 k ∧ Below w.heap.size w wr) (fun i _ => n - (intOf i).toNat)
 case atStart => exact ⟨0, Nat.zero_le _, rfl, Below.refl _ _⟩
 case round =>
  obtain ⟨k, hk, rfl, hbel⟩ := hrel
  have HB := kide hbel
  by_cases hlt : k < n
  ·obtain ⟨-, h | ⟨b1, o1, rfl, hc1⟩⟩ := hr
   ·have := H1.out; subst h; simp at this; omega
   obtain ⟨-, h | ⟨b2, o2, rfl, hc2⟩⟩ := hs
   ·have := H2.out; subst h; simp at this; omega
   obtain ⟨⟨s1, sa, sc, wa, wc⟩, hx⟩ : ∃ x, xs[k]? = some x := ⟨xs[k]'(by rw [H1.out]; exact hlt), List.getElem?_eq_getElem _⟩
   obtain ⟨⟨s2, sa', sc', wa', wc'⟩, hy⟩ : ∃ y, ys[k]? = some y := ⟨ys[k]'(by rw [H2.out]; exact hlt), List.getElem?_eq_getElem _⟩
   have hxy : s1 = s2 := by
    have h := congrArg (fun l => l[k]?) HE.out
    simp [hx, hy] at h
    exact h
   subst hxy
   obtain ⟨⟨p0, p1, p2, p3, p4, p5, p6⟩, pi, pr, -⟩ := (hc1 k _ hx).later hbel
   obtain ⟨⟨q0, q1, q2, q3, q4, q5, q6⟩, qi, qr, -⟩ := (hc2 k _ hy).later hbel
   simp only [Tg.hd] at p0 p1 p2 p3 p4 p5 p6 pi pr q0 q1 q2 q3 q4 q5 q6 qi qr
   have l1 := block_lt_of_cell p0
   have l2 := block_lt_of_cell q0
   have i0 : (k : Int) < (n : Int) := by omega
   have HEQ := kide (fun u (hu : Below wr.heap.size wr u) => eqTNode_same s1 sa sa' wa wa' sc sc' wc wc' u (pi.later hu) (qi.later hu) (pr.later hu) (qr.later hu))
   obtain ⟨op, vr, aa, bb, bw, ws, ks⟩ := s1
   simp only [] at p0 p1 p2 p3 p4 p5 p6 q0 q1 q2 q3 q4 q5 q6 HEQ
   clear hc1 hc2 hbel hx hy pr qr pi qi
   go_wp2_with fail
   go_region_held3 (fun u => (u.cell? ⟨b1, o1 + k * 7, none⟩ = some (Value.int .i64 op) ∧ u.cell? ⟨b1, o1 + k * 7 + 1, none⟩ = some (Value.int .i64 vr) ∧ u.cell? ⟨b1, o1 + k * 7 + 2, none⟩ = some (Value.int .i64 aa) ∧ u.cell? ⟨b1, o1 + k * 7 + 3, none⟩ = some (Value.int .i64 bb) ∧ u.cell? ⟨b1, o1 + k * 7 + 4, none⟩ = some (Value.int .i64 bw) ∧ u.cell? ⟨b1, o1 + k * 7 + 5, none⟩ = some (Value.slice sa ws.length sc) ∧ u.cell? ⟨b1, o1 + k * 7 + 6, none⟩ = some (Value.slice wa ks.length wc)) ∧ (u.cell? ⟨b2, o2 + k * 7, none⟩ = some (Value.int .i64 op) ∧ u.cell? ⟨b2, o2 + k * 7 + 1, none⟩ = some (Value.int .i64 vr) ∧ u.cell? ⟨b2, o2 + k * 7 + 2, none⟩ = some (Value.int .i64 aa) ∧ u.cell? ⟨b2, o2 + k * 7 + 3, none⟩ = some (Value.int .i64 bb) ∧ u.cell? ⟨b2, o2 + k * 7 + 4, none⟩ = some (Value.int .i64 bw) ∧ u.cell? ⟨b2, o2 + k * 7 + 5, none⟩ = some (Value.slice sa' ws.length sc') ∧ u.cell? ⟨b2, o2 + k * 7 + 6, none⟩ = some (Value.slice wa' ks.length wc'))) (simp [*])
    ((go_at_call 43; refine Calls.mono (HEQ.out _ ?_) ?_; exact (Below.refl _ _).drew; rintro e w1 ⟨rfl, hb1⟩; replace hb1 := kundrew hb1; have k0 := kcell hb1 b1 (o1 + k * 7) l1; have k1 := kcell hb1 b1 (o1 + k * 7 + 1) l1; have k2 := kcell hb1 b1 (o1 + k * 7 + 2) l1; have k3 := kcell hb1 b1 (o1 + k * 7 + 3) l1; have k4 := kcell hb1 b1 (o1 + k * 7 + 4) l1; have k5 := kcell hb1 b1 (o1 + k * 7 + 5) l1; have k6 := kcell hb1 b1 (o1 + k * 7 + 6) l1; have j0 := kcell hb1 b2 (o2 + k * 7) l2; have j1 := kcell hb1 b2 (o2 + k * 7 + 1) l2; have j2 := kcell hb1 b2 (o2 + k * 7 + 2) l2; have j3 := kcell hb1 b2 (o2 + k * 7 + 3) l2; have j4 := kcell hb1 b2 (o2 + k * 7 + 4) l2; have j5 := kcell hb1 b2 (o2 + k * 7 + 5) l2; have j6 := kcell hb1 b2 (o2 + k * 7 + 6) l2))
   go_wp2_with fail
   go_roundw
   case rel => exact ⟨k + 1, by omega, by go_num, HB.out.trans (hb1.mono HB.out.size)⟩
   case measure => simp [intOf]; omega
  ·clear hbel
   go_wp2_with fail
   go_ret
   exact ⟨rfl, HB.out⟩
theorem eqTerm_same (a b : Option Addr) (c d : Nat) (xs ys : List Tg) (w : World) (hr : RdT w a xs) (hs : RdT w b ys) (he : xs.map Tg.ct = ys.map Tg.ct) (n : Nat) (h1 : xs.length = n) (h2 : ys.length = n) :
  Calls Tryz.prog 10 #[.agg #[.slice a n c], .agg #[.slice b n d]] w fun e w' => e = .returned (.bool true) ∧ Below w.heap.size w w' := by
 have hb2 : Below w.heap.size w ((w.alloc (Obj.cells #[.slice a n c] 30)).alloc (Obj.cells #[.slice b n d] 30)) := (blA _ _).alloc (by simp) _
 have HC := kide (eqTNodeS_same a b c d xs ys _ (hr.later hb2) (hs.later hb2) he n h1 h2)
 have B2 := kide hb2
 clear hr hs he h1 h2 hb2
 go_enter Tryz.func10, Tryz.ntmps10
 go_wp2_with fail
 refine Calls.mono HC.out ?_
 rintro e w1 ⟨rfl, hb1⟩
 go_wp2_with fail
 go_ret
 exact ⟨rfl, B2.out.trans (hb1.mono B2.out.size)⟩

theorem nw_own {w w' : World} {lo : Nat} {a : Option Addr} {xs : List Nat} (h : Nw w lo a xs) (hk : ∀ p, a = some p → w'.heap[p.block]? = w.heap[p.block]?) : Nw w' lo a xs := by
 rcases h with ⟨k1, k2⟩ | ⟨g', cur, k1, k2, k3, k4⟩
 ·refine .inl ⟨k1, fun z e => ?_⟩
  obtain ⟨q1, q2, cur, q3⟩ := k2 z e
  exact ⟨q1, q2, cur, (hk z e).trans q3⟩
 ·exact .inr ⟨g', cur, k1, k2, (hk _ k1).trans k3, k4⟩
theorem ni_own {w w' : World} {lo : Nat} {a : Option Addr} {xs : List Int} (h : Ni w lo a xs) (hk : ∀ p, a = some p → w'.heap[p.block]? = w.heap[p.block]?) : Ni w' lo a xs := by
 rcases h with ⟨k1, k2⟩ | ⟨g', cur, k1, k2, k3, k4⟩
 ·refine .inl ⟨k1, fun z e => ?_⟩
  obtain ⟨q1, q2, cur, q3⟩ := k2 z e
  exact ⟨q1, q2, cur, (hk z e).trans q3⟩
 ·exact .inr ⟨g', cur, k1, k2, (hk _ k1).trans k3, k4⟩
theorem Ts.mono {w : World} {lo lo' : Nat} {v : Value} {l : List Tg} (h : Ts w lo v l) (hl : lo' ≤ lo) : Ts w lo' v l :=
 ⟨⟨h.row.1, by
   rcases h.row.2 with h0 | ⟨g, cap, cur, e, hg, r⟩
   ·exact .inl h0
   ·exact .inr ⟨g, cap, cur, e, by omega, r⟩⟩, fun x hx => (h.wn x hx).mono hl, fun x hx => (h.kn x hx).mono hl, h.wd, h.kd⟩

structure Tt (lo hi : Nat) (v : Value) (l : List Tg) (w : World) : Prop where
 ts : Ts w lo v l
 rb : ∀ b, v.ownBlock = some b → b < hi
 wb : ∀ x ∈ l, ∀ p, x.wa = some p → p.block < hi
 kb : ∀ x ∈ l, ∀ p, x.ka = some p → p.block < hi
theorem Tt.of {w : World} {lo : Nat} {v : Value} {l : List Tg} (h : Ts w lo v l) : Tt lo w.heap.size v l w := ⟨h, fun b hb => (h.row.lt hb).2, fun x hx => (h.below x hx).1, fun x hx => (h.below x hx).2⟩
theorem Tt.later {w w' : World} {lo hi : Nat} {v : Value} {l : List Tg} (h : Tt lo hi v l w) (hb : Below w.heap.size w w') : Tt lo hi v l w' := ⟨h.ts.later hb, h.rb, h.wb, h.kb⟩
theorem Tt.out {w w' : World} {lo hi B1 B2 : Nat} {v : Value} {l : List Tg} (h : Tt lo hi v l w) (ho : Out B1 B2 w w') (hd : hi ≤ B1 ∨ B2 ≤ lo) : Tt lo hi v l w' where
 ts := ⟨h.ts.row.move fun b hb => ho.2.2.2.2 b (h.ts.row.lt hb).2 (by have := h.rb b hb; have := (h.ts.row.lt hb).1; omega), fun x hx => nw_own (h.ts.wn x hx) fun p hp => ho.2.2.2.2 _ (nw_lt (h.ts.wn x hx) hp).2 (by have := h.wb x hx p hp; have := (nw_lt (h.ts.wn x hx) hp).1; omega), fun x hx => ni_own (h.ts.kn x hx) fun p hp => ho.2.2.2.2 _ (ni_lt (h.ts.kn x hx) hp).2 (by have := h.kb x hx p hp; have := (ni_lt (h.ts.kn x hx) hp).1; omega), h.ts.wd, h.ts.kd⟩
 rb := h.rb
 wb := h.wb
 kb := h.kb
theorem markTerm_tt (lo hi n c k : Nat) (a : Option Addr) (l : List Tg) (w : World) (h : Tt lo hi (.slice a n c) l w) (hh : hi ≤ w.heap.size) (hl : shT l) (hn : l.length = n) (hn2 : n ≤ 1048576) (hk : k ≤ 4000000000000000000) :
  Calls Tryz.prog 13 #[.agg #[.slice a n c], .int .i64 (k : Int)] w fun e w' => e = .returned (.int .i64 (mkT l k l.length : Int)) ∧ HeldTv w' (.slice a n c) l k ∧ Out lo hi w w' := by
 have hb : Below w.heap.size w (w.alloc (Obj.cells #[.slice a n c] 30)) := blA _ _
 have HM : Hid (Calls Tryz.prog 26 #[.slice a n c, .int .i64 (k : Int)] (w.alloc (Obj.cells #[.slice a n c] 30)) fun e w' => e = .returned (.int .i64 (mkT l k l.length : Int)) ∧ HeldTv w' (.slice a n c) l k ∧ Out lo hi (w.alloc (Obj.cells #[.slice a n c] 30)) w') := by
  show Calls _ _ _ _ _
  have h2 := h.later hb
  by_cases e : l = []
  ·subst e
   subst hn
   refine (markT_nil a c k _).mono (fun e w' h => ⟨h.1, .inl rfl, ?_⟩)
   rw [h.2]
   exact Out.refl _ _ _
  ·obtain ⟨g, rfl⟩ : ∃ g, a = some ⟨g, 0, none⟩ := by
    rcases h2.ts.row.2 with ⟨-, h0⟩ | ⟨g, cap, cur, e', -⟩
    ·exact absurd (List.eq_nil_of_length_eq_zero h0) e
    ·cases e'; exact ⟨g, rfl⟩
   obtain ⟨N, f, h0, hr, hf, h1, -⟩ := h2.ts.row.tn
   have hg2 := h2.rb g rfl
   refine (markT_own lo hi g c n k N l _ f hr h0 hf h1 hg2 (fun x hx => ⟨?_, ?_⟩) hl h2.ts.wd h2.ts.kd hn hn2 hk).mono (fun e w' h => ⟨h.1, .inr ⟨g, n, c, N, rfl, h0, h.2.1⟩, h.2.2.1⟩)
   ·rcases h2.ts.wn x hx with ⟨h1, -⟩ | ⟨g', cur, h1, h2', h3, h4⟩
    ·exact .inl (by rw [h1]; rfl)
    ·exact .inr ⟨g', cur, h1, h2', h2.wb x hx _ h1, h3, fun t ht => ⟨_, h4 t ht⟩⟩
   ·rcases h2.ts.kn x hx with ⟨h1, -⟩ | ⟨g', cur, h1, h2', h3, h4⟩
    ·exact .inl (by rw [h1]; rfl)
    ·exact .inr ⟨g', cur, h1, h2', h2.kb x hx _ h1, h3, fun t ht => ⟨_, h4 t ht⟩⟩
 have HB := kide hb
 clear h hb
 go_enter Tryz.func13, Tryz.ntmps13
 go_wp2_with fail
 refine Calls.mono HM.out ?_
 rintro e w' ⟨rfl, hh, ho⟩
 go_wp2_with fail
 go_ret
 refine ⟨by rw [hn]; rfl, hh, ⟨ho.1.trans HB.out.os, ho.2.1.trans HB.out.tape, ho.2.2.1.trans HB.out.output, Nat.le_trans HB.out.size ho.2.2.2.1, fun j hj hd => ?_⟩⟩
 rw [ho.2.2.2.2 j (Nat.lt_of_lt_of_le hj HB.out.size) hd]
 exact HB.out.block j hj
theorem ok_map {l : List Tg} {X : List Tc} (e : l.map Tg.ct = X) (hX : ∀ y ∈ X, okT y) : ∀ x ∈ l, okT x.ct := fun x hx => hX _ (by rw [← e]; exact List.mem_map_of_mem hx)
theorem sh_map {l : List Tg} {X : List Tc} (e : l.map Tg.ct = X) (hX : ∀ y ∈ X, okT y) : shT l := fun x hx => by
 obtain ⟨-, -, -, -, -, h1, -, h2, -⟩ := ok_map e hX x hx
 exact ⟨h1, h2⟩
theorem len_map {l : List Tg} {X : List Tc} {n : Nat} (e : l.map Tg.ct = X) (hn : X.length = n) : l.length = n := by rw [← hn, ← e]; simp
theorem eqTerm_tt {lo hi lo' hi' : Nat} {a b : Option Addr} {c c' n : Nat} {l m : List Tg} {X : List Tc} {w : World} (h : Tt lo hi (.slice a n c) l w) (h' : Tt lo' hi' (.slice b n c') m w) (e : l.map Tg.ct = X) (e' : m.map Tg.ct = X) (hX : ∀ y ∈ X, okT y) (hn : X.length = n) (hn2 : n ≤ 1048576) :
  Calls Tryz.prog 10 #[.agg #[.slice a n c], .agg #[.slice b n c']] w fun e w' => e = .returned (.bool true) ∧ Below w.heap.size w w' := by
 obtain ⟨a1, c1, e1, r1⟩ := h.ts.rd (by rw [len_map e hn]; exact hn2) (ok_map e hX)
 obtain ⟨a2, c2, e2, r2⟩ := h'.ts.rd (by rw [len_map e' hn]; exact hn2) (ok_map e' hX)
 rw [len_map e hn] at e1
 rw [len_map e' hn] at e2
 cases e1
 cases e2
 exact eqTerm_same a b c c' l m w r1 r2 (e.trans e'.symm) n (len_map e hn) (len_map e' hn)
theorem share5 {F P : World → Nat → Option Addr → Nat → List Tg → Nat → Nat → Prop} {G : Prop} (main : (∀ v b a c l x y, F v b a c l x y → P v b a c l x y) → G) (key : ∀ v b a c l x y, F v b a c l x y → P v b a c l x y) : G := main key
theorem Bz.out {u u' : World} {b B1 B2 : Nat} {cs : Array Value} {t : TypeId} (h : Bz u b cs t) (ho : Out B1 B2 u u') (hd : b < B1 ∨ B2 ≤ b) : Bz u' b cs t := by
 unfold Bz; rw [ho.2.2.2.2 b h.lt hd]; exact h
theorem rowIs_later {w w' : World} {g N : Nat} {t : TypeId} {f : Nat → Value} (h : w.rowIs g t N f) (hb : Below w.heap.size w w') : w'.rowIs g t N f := by
 obtain ⟨cc, hh, r⟩ := h
 exact World.rowIs.of_block ⟨cc, hh, r⟩ (hb.block g (lt_of_block hh))
theorem rowIs_out {w w' : World} {g N B1 B2 : Nat} {t : TypeId} {f : Nat → Value} (h : w.rowIs g t N f) (ho : Out B1 B2 w w') (hd : g < B1 ∨ B2 ≤ g) : w'.rowIs g t N f := by
 obtain ⟨cc, hh, r⟩ := h
 exact World.rowIs.of_block ⟨cc, hh, r⟩ (ho.2.2.2.2 g (lt_of_block hh) hd)
theorem rowIs_lt {w : World} {g N : Nat} {t : TypeId} {f : Nat → Value} (h : w.rowIs g t N f) : g < w.heap.size := by
 obtain ⟨cc, hh, -⟩ := h
 exact lt_of_block hh
theorem Out.bel {w v v' : World} {B1 B2 : Nat} (h : Below w.heap.size w v) (ho : Out B1 B2 v v') (h1 : w.heap.size ≤ B1) : Below w.heap.size w v' :=
 ⟨ho.1.trans h.os, ho.2.1.trans h.tape, ho.2.2.1.trans h.output, Nat.le_trans h.size ho.2.2.2.1, fun k hk => (ho.2.2.2.2 k (Nat.lt_of_lt_of_le hk h.size) (.inl (by omega))).trans (h.block k hk)⟩

end Go.Proofs.YtnpjgoklpaigjaaGreatDoor
