/- Several texts in one. -/
import Derived.Test.YthoiajpbpoglfaaZKAE
import Derived.Test.YthoiajpbpoglfaaZKAC
import Derived.Deep.AppendLies
import Derived.Test.YthoiajpbpoglfaaZKAB
import Derived.Handy
import Derived.Test.YthoiajpbpoglfaaRX
import Derived.Deep.OwnRows
import Derived.Deep.RegionHeldLaw
import Derived.Test.YthoiajpbpoglfaaZKAK
import Derived.Test.YthoiajpbpoglfaaZKAK

/- A set of bars: a row of one's own and a map of what is in it. -/
namespace Go.Proofs.Ythoiajpbpoglfaa
set_option linter.unusedVariables false
set_option linter.unusedSimpArgs false
open Go.RowKit Go.WideMaps Go.Maps Go.MapKept Go.ChangeMaps

def ycDec : DecidableEq Yc := fun x y =>
  if h : x.v = y.v ∧ x.lo = y.lo ∧ x.bw = y.bw ∧ x.ws = y.ws then isTrue (by cases x; cases y; simp at h; obtain ⟨h1, h2, h3, h4⟩ := h; subst h1; subst h2; subst h3; subst h4; rfl)
  else isFalse (fun e => h (by subst e; exact ⟨rfl, rfl, rfl, rfl⟩))

def eqY (x y : Yc) : Bool := @decide (x = y) (ycDec x y)
theorem eqY_iff {x y : Yc} : eqY x y = true ↔ x = y := by unfold eqY; exact @decide_eq_true_iff _ (ycDec x y)
theorem eqY_no {x y : Yc} : eqY x y = false ↔ x ≠ y := by rw [← Bool.not_eq_true, Ne, eqY_iff]

/-- The cells of bars. -/
def ygc : List Yg → List Value
  | [] => []
  | x :: t => .int .i64 x.ct.v :: .int .i64 x.ct.lo :: .int .i64 x.ct.bw :: .slice x.a x.ct.ws.length x.c :: ygc t
theorem ygc_len (l : List Yg) : (ygc l).length = l.length * 4 := by
  induction l with
  | nil => rfl
  | cons x t ih => simp [ygc, ih]; omega
theorem ygc_append (xs ys : List Yg) : ygc (xs ++ ys) = ygc xs ++ ygc ys := by
  induction xs with
  | nil => rfl
  | cons x t ih => simp [ygc, ih]
theorem ygc_get : ∀ {l : List Yg} {i : Nat} {x : Yg}, l[i]? = some x → (ygc l)[i * 4]? = some (.int .i64 x.ct.v) ∧ (ygc l)[i * 4 + 1]? = some (.int .i64 x.ct.lo) ∧ (ygc l)[i * 4 + 2]? = some (.int .i64 x.ct.bw) ∧ (ygc l)[i * 4 + 3]? = some (.slice x.a x.ct.ws.length x.c)
  | y :: t, 0, x, h => by simp at h; subst h; simp [ygc]
  | y :: t, i + 1, x, h => by
    have := ygc_get (l := t) (i := i) (x := x) (by simpa using h)
    rw [show (i + 1) * 4 = i * 4 + 1 + 1 + 1 + 1 by omega]
    simpa [ygc] using this

/-- An owned row of bars. -/
def OB4 (w : World) (B : Nat) (v : Value) (l : List Yg) : Prop := w.ownsRow B 86 4 v l.length (ygc l)

theorem OB4.later {w w' : World} {B : Nat} {v : Value} {l : List Yg} (h : OB4 w B v l) (hb : Below w.heap.size w w') : OB4 w' B v l := World.ownsRow.kept (row := none) h ⟨hb.os, hb.tape, hb.output, hb.size, fun k hk _ => hb.block k hk⟩ (by
  cases h' : v.ownBlock with
  | none => exact .inl rfl
  | some k => exact .inr (by simp))
theorem OB4.lt {w : World} {B : Nat} {v : Value} {l : List Yg} (h : OB4 w B v l) {b : Nat} (hb : v.ownBlock = some b) : B ≤ b ∧ b < w.heap.size := by
  rcases h.2 with ⟨rfl, -⟩ | ⟨g, cap, cur, rfl, hg, hh, -⟩
  · cases hb
  · cases hb
    exact ⟨hg, lt_of_block hh⟩
theorem OB4.typed {w : World} {B : Nat} {v : Value} {l : List Yg} (h : OB4 w B v l) {b : Nat} (hb : v.ownBlock = some b) : ∃ cur, w.heap[b]? = some (.cells cur 86 (0, 0)) := by
  rcases h.2 with ⟨rfl, -⟩ | ⟨g, cap, cur, rfl, hg, hh, -⟩
  · cases hb
  · cases hb
    exact ⟨cur, hh⟩
theorem OB4.nil (w : World) (B : Nat) : OB4 w B (.slice none 0 0) [] := ⟨rfl, .inl ⟨rfl, rfl⟩⟩
theorem OB4.move {w w' : World} {B : Nat} {v : Value} {l : List Yg} (h : OB4 w B v l) (hk : ∀ b, v.ownBlock = some b → w'.heap[b]? = w.heap[b]?) : OB4 w' B v l := by
  refine ⟨h.1, ?_⟩
  rcases h.2 with h0 | ⟨g, cap, cur, rfl, hg, hh, r⟩
  · exact .inl h0
  · exact .inr ⟨g, cap, cur, rfl, hg, (hk g rfl).trans hh, r⟩

theorem OB4.form {w : World} {B : Nat} {v : Value} {l : List Yg} (h : OB4 w B v l) : ∃ a c, v = .slice a l.length c := by
  rcases h.2 with ⟨e, h0⟩ | ⟨g, cap, cur, e, -⟩
  · exact ⟨none, 0, by rw [e, h0]⟩
  · exact ⟨_, _, e⟩

/-- What can be read of it. -/
theorem OB4.rd {w : World} {B : Nat} {v : Value} {l : List Yg} (h : OB4 w B v l) (hl : l.length ≤ 1048576) (hx : ∀ x ∈ l, Rd w x.a x.ct.ws ∧ in64 x.ct.v ∧ in64 x.ct.lo ∧ in64 x.ct.bw) : ∃ a c, v = .slice a l.length c ∧ RdBr w a l := by
  rcases h.2 with ⟨rfl, h0⟩ | ⟨g, cap, cur, rfl, hg, hh, hc1, hc2, hsz, hcur⟩
  · have e := List.eq_nil_of_length_eq_zero h0
    subst e
    exact ⟨none, 0, rfl, by simp, .inl rfl⟩
  · refine ⟨some ⟨g, 0, none⟩, cap, rfl, hl, .inr ⟨g, 0, rfl, fun i x hi => ?_⟩⟩
    obtain ⟨e0, e1, e2, e3⟩ := ygc_get hi
    have hil := (List.getElem?_eq_some_iff.1 hi).1
    rw [← hcur] at e0 e1 e2 e3
    rw [List.getElem?_take, if_pos (by omega)] at e0 e1 e2 e3
    simp only [Array.getElem?_toList] at e0 e1 e2 e3
    exact ⟨⟨by rw [Nat.zero_add, cell_of_row w g _ cur _ _ hh]; exact e0, by rw [Nat.zero_add, cell_of_row w g _ cur _ _ hh]; exact e1, by rw [Nat.zero_add, cell_of_row w g _ cur _ _ hh]; exact e2, by rw [Nat.zero_add, cell_of_row w g _ cur _ _ hh]; exact e3⟩, hx x (List.mem_of_getElem? hi)⟩

theorem wpList_appB4 {w : World} {ops : Array Oper} {rest : List Oper} {o : Oper} {a : Act} {Q : Exit → Act → World → Prop} (hgd : o.guard = none) (s x : Operand)
    (ho : o.op = .call { callee := .builtin .append, args := #[s, x], argTypes := #[30, 30] })
    (B : Nat) (v : Value) (l : List Yg) (y : Yg) (hs : a.eval s = v) (hown : OB4 w B v l) (gx : Nat) (hx : a.eval x = .slice (some ⟨gx, 0, none⟩) 1 1)
    (h0 : w.cell? ⟨gx, 0, none⟩ = some (.int .i64 y.ct.v)) (h1 : w.cell? ⟨gx, 1, none⟩ = some (.int .i64 y.ct.lo)) (h2 : w.cell? ⟨gx, 2, none⟩ = some (.int .i64 y.ct.bw)) (h3 : w.cell? ⟨gx, 3, none⟩ = some (.slice y.a y.ct.ws.length y.c)) (hl : l.length ≤ 1073741824) (hB : B ≤ w.heap.size)
    (h : ∀ v' w', OB4 w' B v' (l ++ [y]) → w.grownBy w' v.ownBlock → wpList Try.prog ops Q rest (a.put o.dst v') w') : wpList Try.prog ops Q (o :: rest) a w := by
  obtain ⟨i0, hi, hz0, hz1, hz2⟩ := info_parts Try.infoBar
  refine wpList_append_own_at w hgd s x 30 ho B 86 i0 _ 4 48 Try.underlying30 hi hz0 hz1 hz2 rfl (by decide) v l.length (ygc l) hs hown ⟨gx, 0, none⟩ 1 1 (ygc [y]) hx rfl ?_ ?_ (by unfold maxLen; omega) (by omega) hB ?_
  · intro j u hj
    rw [Addr.add_lit]
    match j, hj with
    | 0, hj => simp [ygc] at hj; subst hj; exact h0
    | 1, hj => simp [ygc] at hj; subst hj; exact h1
    | 2, hj => simp [ygc] at hj; subst hj; exact h2
    | 3, hj => simp [ygc] at hj; subst hj; exact h3
    | j + 4, hj => simp [ygc] at hj
  · intro u hu
    simp [ygc] at hu
    rcases hu with rfl | rfl | rfl | rfl <;> rfl
  · intro v' w' h1 h2 _ _
    refine h v' w' ?_ h2
    unfold OB4
    rw [ygc_append, List.length_append]
    exact h1

/-- A bar that a key can be made of. -/
def okY (s : Yc) : Prop := in64 s.v ∧ in64 s.lo ∧ in64 s.bw ∧ (∀ x ∈ s.ws, x < 18446744073709551616) ∧ s.ws.length ≤ 1048576

def kvB (s : Yc) : Value := .agg #[.int .i64 s.v, .int .i64 s.lo, .int .i64 s.bw, .string (keyS s.ws)]

theorem keyS_inj {xs ys : List Nat} (hx : ∀ x ∈ xs, x < 18446744073709551616) (hy : ∀ x ∈ ys, x < 18446744073709551616) (h : keyS xs = keyS ys) : xs = ys := by
  refine keyB_eq hx hy ?_
  unfold keyS at h
  injection h with h
  have h2 : (keyB xs xs.length).map UInt8.ofNat = (keyB ys ys.length).map UInt8.ofNat := by simpa using h
  have h3 : ∀ (zs : List Nat) (j : Nat), ((keyB zs j).map UInt8.ofNat).map UInt8.toNat = keyB zs j := fun zs j => by
    rw [List.map_map]
    conv => rhs; rw [← List.map_id (keyB zs j)]
    refine List.map_congr_left fun b hb => ?_
    have := keyB_lt zs j b hb
    simp [UInt8.toNat_ofNat']
    omega
  rw [← h3 xs, ← h3 ys, h2]

theorem keyS_size (xs : List Nat) : (keyS xs).size = 8 * xs.length := by
  show (keyS xs).data.size = _
  simp [keyS, keyB_len]

theorem keyOf_ok {s : Yc} (h : okY s) : ∃ l, keyOf Try.prog 132 (kvB s) = some l :=
  keyOf_bar _ _ _ _ (WalkArith.wf_i64 h.1) (WalkArith.wf_i64 h.2.1) (WalkArith.wf_i64 h.2.2.1) (by rw [keyS_size]; have := h.2.2.2.2; unfold maxLen; omega)

theorem kvB_inj {s t : Yc} (hs : okY s) (ht : okY t) {l : Lit} (h : keyOf Try.prog 132 (kvB s) = some l) (h' : keyOf Try.prog 132 (kvB t) = some l) : s = t := by
  obtain ⟨e1, e2, e3, e4⟩ := keyOf_bar_inj h h'
  have e5 := keyS_inj hs.2.2.2.1 ht.2.2.2.1 e4
  cases s; cases t
  simp only at e1 e2 e3 e5
  subst e1; subst e2; subst e3; subst e5
  rfl

/-- What a map tells of the bars l. -/
structure Sk (D : DataW Unit) (l : List Yc) : Prop where
  tidy : Maps.Tidy D
  ok : ∀ s ∈ l, okY s
  has : ∀ s kl, okY s → keyOf Try.prog 132 (kvB s) = some kl → (Maps.has D kl = true ↔ s ∈ l)

theorem Sk.start : Sk (.map [] : DataW Unit) [] where
  tidy := Maps.tidy_empty
  ok := by simp
  has := fun s kl _ _ => by simp [Maps.has_eq]

theorem Sk.step {D : DataW Unit} {l : List Yc} (h : Sk D l) {s : Yc} {kl : Lit} (hs : okY s) (hk : keyOf Try.prog 132 (kvB s) = some kl) : Sk (D.put kl (.agg [])) (l ++ [s]) where
  tidy := h.tidy.put (barKeyed.key hk) _
  ok := fun t ht => by
    rcases List.mem_append.1 ht with ht | ht
    · exact h.ok t ht
    · simp at ht; subst ht; exact hs
  has := fun t kt ht hkt => by
    by_cases e : t = s
    · subst e
      have : kt = kl := Option.some.inj (hkt.symm.trans hk)
      subst this
      rw [Maps.has_put_same h.tidy.isMap (barKeyed.key hk)]; simp
    · have hne : kt ≠ kl := fun e' => e (by subst e'; exact kvB_inj ht hs hkt hk)
      rw [Maps.has_put_other hne, h.has t kt ht hkt]; simp [e]

/-- A set of bars in the block s: all of it lies from the block B on. -/
structure Bst (w : World) (B s g : Nat) (v : Value) (D : DataW Unit) (l : List Yg) : Prop where
  own : OB4 w B v l
  box : w.heap[s]? = some (.cells #[v, .map (some g)] 116 (0, 0))
  mp : w.ownsMap Try.prog 132 unitElem g l.length D
  sk : Sk D (l.map Yg.ct)
  le : B ≤ s ∧ B ≤ g

def Bset (w : World) (B s : Nat) (l : List Yg) : Prop := ∃ g v D, Bst w B s g v D l

/-- With a bar more, where it is not there. -/
def putG (l : List Yg) (x : Yg) : List Yg :=
  haveI : DecidableEq Yc := ycDec
  if x.ct ∈ l.map Yg.ct then l else l ++ [x]

/-- Nothing but rows of bars, sets of them and maps has changed. -/
structure Ksb (w w' : World) : Prop where
  size : w.heap.size ≤ w'.heap.size
  stay : ∀ (k : Nat) (cs : Array Value) (t : TypeId) (fz : Nat × Nat), w.heap[k]? = some (Obj.cells cs t fz) → t ≠ 86 → t ≠ 116 → w'.heap[k]? = w.heap[k]?

theorem Ksb.refl (w : World) : Ksb w w := ⟨Nat.le_refl _, fun _ _ _ _ _ _ _ => rfl⟩
theorem Ksb.trans {a b c : World} (h : Ksb a b) (h' : Ksb b c) : Ksb a c := ⟨Nat.le_trans h.size h'.size, fun k cs t fz e h1 h2 => (h'.stay k cs t fz ((h.stay k cs t fz e h1 h2).trans e) h1 h2).trans (h.stay k cs t fz e h1 h2)⟩
theorem Ksb.of {w w' : World} (hb : Below w.heap.size w w') : Ksb w w' := ⟨hb.size, fun k _ _ _ e _ _ => hb.block k (lt_of_block e)⟩

/-- A block as it lies. -/
def Bz (u : World) (b : Nat) (cs : Array Value) (t : TypeId) : Prop := u.heap[b]? = some (.cells cs t (0, 0))
theorem Bz.lt {u : World} {b : Nat} {cs : Array Value} {t : TypeId} (h : Bz u b cs t) : b < u.heap.size := lt_of_block h
theorem Bz.new (u : World) (cs : Array Value) (t : TypeId) : Bz (u.alloc (.cells cs t)) u.heap.size cs t := heap_alloc_new _ _
theorem Bz.set {u : World} {b : Nat} {cs : Array Value} {t : TypeId} (h : Bz u b cs t) (o : Nat) (x : Value) : Bz (u.setCell ⟨b, o, none⟩ x) b (cs.setIfInBounds o x) t := heap_setCell_same u b o _ _ x h
theorem Bz.other {u : World} {b c : Nat} {cs : Array Value} {t : TypeId} (h : Bz u b cs t) (hn : b ≠ c) (o : Nat) (x : Value) : Bz (u.setCell ⟨c, o, none⟩ x) b cs t := by
  unfold Bz; rw [heap_setCell_other _ _ _ _ (by simpa using hn)]; exact h
theorem Bz.cell {u : World} {b : Nat} {cs : Array Value} {t : TypeId} (h : Bz u b cs t) (o : Nat) : u.cell? ⟨b, o, none⟩ = cs[o]? := cell_of_row u b o _ _ _ h
theorem Bz.froz {u : World} {b : Nat} {cs : Array Value} {t : TypeId} (h : Bz u b cs t) (o : Nat) : u.frozen? ⟨b, o, none⟩ = false := frozen_of_row u b o _ _ h
theorem Bz.later {u u' : World} {b : Nat} {cs : Array Value} {t : TypeId} (h : Bz u b cs t) (hb : Below u.heap.size u u') : Bz u' b cs t := by
  unfold Bz; rw [hb.block _ h.lt]; exact h
theorem Bz.ksb {u u' : World} {b : Nat} {cs : Array Value} {t : TypeId} (h : Bz u b cs t) (hb : Ksb u u') (h1 : t ≠ 86) (h2 : t ≠ 116) : Bz u' b cs t := (hb.stay b cs t (0, 0) h h1 h2).trans h

theorem share2 {F P : World → Nat → Prop} {G : Prop} (main : (∀ v b, F v b → P v b) → G) (key : ∀ v b, F v b → P v b) : G := main key

theorem Ksb.turned {w w' : World} {b : Nat} (h : w.mapTurned w' b) : Ksb w w' := by
  obtain ⟨es, clock, es', clock', hb, rfl⟩ := h
  refine ⟨by simp [setBlock], fun k cs t fz e _ _ => heap_setBlock_other hb _ (fun e' => ?_)⟩
  subst e'
  rw [hb] at e
  cases e
theorem Ksb.grown {w w' : World} {r : Option Nat} (h : w.grownBy w' r) (hr : ∀ b, r = some b → ∃ cur, w.heap[b]? = some (.cells cur 86 (0, 0))) : Ksb w w' := by
  refine ⟨h.size, fun k cs t fz e h1 _ => h.block k (lt_of_block e) (fun e' => ?_)⟩
  obtain ⟨cur, hc⟩ := hr k e'.symm
  rw [e] at hc
  cases hc
  exact h1 rfl
theorem Ksb.set {w : World} {b : Nat} {cs : Array Value} (h : Bz w b cs 116) (o : Nat) (v : Value) : Ksb w (w.setCell ⟨b, o, none⟩ v) := by
  refine ⟨by simp, fun k cs' t fz e _ h2 => heap_setCell_other _ _ _ _ (fun e' => ?_)⟩
  simp at e'
  subst e'
  unfold Bz at h
  rw [h] at e
  cases e
  exact h2 rfl

theorem own_below {P : Program} {k : TypeId} {R : Value → Option (DataW Unit × List MemPlace)} {w w' : World} {b n : Nat} {D : DataW Unit} (h : w.ownsMap P k R b n D) (hk : b < w.heap.size → w'.heap[b]? = w.heap[b]?) : w'.ownsMap P k R b n D := by
  obtain ⟨es, clock, hb, r⟩ := h
  exact ⟨es, clock, (hk (lt_of_block hb)).trans hb, r⟩
theorem own_isMap {P : Program} {k : TypeId} {R : Value → Option (DataW Unit × List MemPlace)} {w : World} {b n : Nat} {D : DataW Unit} (h : w.ownsMap P k R b n D) : ∃ es clock, w.heap[b]? = some (.map es clock) := by
  obtain ⟨es, clock, hb, r⟩ := h
  exact ⟨es, clock, hb⟩

theorem Try.zeroUnit (w : World) : (zeroValue 126).run Try.prog w = .ok (.agg #[]) w := by kernel_rfl
theorem look_bar {u : World} {g n : Nat} {D : DataW Unit} {key : Value} {kl : Lit} (h : u.ownsMap Try.prog 132 unitElem g n D) (hk : keyOf Try.prog 132 key = some kl) :
    (Instr.lookup 114 (.map (some g)) key true).run Try.prog u = .ok (.tuple #[.agg #[], .bool (Maps.has D kl)]) u := by
  obtain ⟨v, ps, hr, hv⟩ := h.look_ok barKeyed Try.underlying114 (Try.zeroUnit u) unitElem_mk hk
  obtain ⟨rfl, -⟩ := unitElem_inv hv
  exact hr

theorem step_appB4 (w : World) {ops : Array Oper} {o : Oper} {a : Act} {K : Act → World → Prop} {Q : Exit → Act → World → Prop} {E : Prop} (hgd : o.guard = none) (s x : Operand)
    (ho : o.op = .call { callee := .builtin .append, args := #[s, x], argTypes := #[30, 30] })
    (B : Nat) (v : Value) (l : List Yg) (y : Yg) (hs : a.eval s = v) (hown : OB4 w B v l) (gx c : Nat) (hx : a.eval x = .slice (some ⟨gx, 0, none⟩) 1 c)
    (h0 : w.cell? ⟨gx, 0, none⟩ = some (.int .i64 y.ct.v)) (h1 : w.cell? ⟨gx, 1, none⟩ = some (.int .i64 y.ct.lo)) (h2 : w.cell? ⟨gx, 2, none⟩ = some (.int .i64 y.ct.bw)) (h3 : w.cell? ⟨gx, 3, none⟩ = some (.slice y.a y.ct.ws.length y.c)) (hl : l.length ≤ 1073741824) (hB : B ≤ w.heap.size)
    (h : ∀ g cap w', OB4 w' B (.slice (some ⟨g, 0, none⟩) (l.length + 1) cap) (l ++ [y]) → w.grownBy w' v.ownBlock → K (a.put o.dst (.slice (some ⟨g, 0, none⟩) (l.length + 1) cap)) w') :
    if Region.wanted o (yielded ops a.tmps) = true then Oper.wp Try.prog o a w K Q else E := by
  obtain ⟨i0, hi, hz0, hz1, hz2⟩ := info_parts Try.infoBar
  refine step_append_lies w hgd s x 30 ho B 86 i0 _ 4 48 Try.underlying30 hi hz0 hz1 hz2 rfl (by decide) v l.length (ygc l) hs hown ⟨gx, 0, none⟩ 1 c (ygc [y]) hx rfl ?_ ?_ (by decide) ?_ ?_ hB _ rfl ?_
  · intro j u hj
    rw [Addr.add_lit]
    match j, hj with
    | 0, hj => simp [ygc] at hj; subst hj; exact h0
    | 1, hj => simp [ygc] at hj; subst hj; exact h1
    | 2, hj => simp [ygc] at hj; subst hj; exact h2
    | 3, hj => simp [ygc] at hj; subst hj; exact h3
    | j + 4, hj => simp [ygc] at hj
  · intro u hu
    simp [ygc] at hu
    rcases hu with rfl | rfl | rfl | rfl <;> rfl
  · unfold maxLen; omega
  · omega
  · intro g cap w' h1 h2 _ _
    refine h g cap w' ?_ h2
    unfold OB4
    rw [ygc_append, List.length_append]
    exact h1

theorem step_mapB (w : World) {ops : Array Oper} {o : Oper} {a : Act} {K : Act → World → Prop} {Q : Exit → Act → World → Prop} {E : Prop} (hgd : o.guard = none) (m x v : Operand) (hop : o.op = Op.mapUpdate 114 m x v)
    (g n : Nat) (D : DataW Unit) (hm : a.eval m = .map (some g)) (hown : w.ownsMap Try.prog 132 unitElem g n D) (hn : n < maxLen) (key : Value) (kl : Lit) (hx : a.eval x = key) (hv : a.eval v = .agg #[]) (hkey : keyOf Try.prog 132 key = some kl)
    (h : ∀ w', w'.ownsMap Try.prog 132 unitElem g (n + 1) (D.put kl (.agg [])) → w.mapTurned w' g → K (a.put o.dst undef) w') :
    if Region.wanted o (yielded ops a.tmps) = true then Oper.wp Try.prog o a w K Q else E := by
  have hw : Region.wanted o (yielded ops a.tmps) = true := by simp [Region.wanted, hgd]
  rw [if_pos hw]
  obtain ⟨w', hrun, r1, r2⟩ := hown.store barKeyed Try.underlying114 hn hkey unitElem_mk
  unfold Oper.wp
  simp [execOp, hop, hm, hx, hv, hrun, Result.andThen]
  exact h w' r1 r2

theorem OB4.at {w : World} {B : Nat} {v : Value} {l : List Yg} (h : OB4 w B v l) {i : Nat} {x : Yg} (hi : l[i]? = some x) : ∃ g c, v = .slice (some ⟨g, 0, none⟩) l.length c ∧ w.cell? ⟨g, i * 4, none⟩ = some (.int .i64 x.ct.v) ∧ w.cell? ⟨g, i * 4 + 1, none⟩ = some (.int .i64 x.ct.lo) ∧ w.cell? ⟨g, i * 4 + 2, none⟩ = some (.int .i64 x.ct.bw) ∧ w.cell? ⟨g, i * 4 + 3, none⟩ = some (.slice x.a x.ct.ws.length x.c) := by
  have hil := (List.getElem?_eq_some_iff.1 hi).1
  rcases h.2 with ⟨rfl, h0⟩ | ⟨g, cap, cur, rfl, hg, hh, hc1, hc2, hsz, hcur⟩
  · omega
  · obtain ⟨e0, e1, e2, e3⟩ := ygc_get hi
    rw [← hcur] at e0 e1 e2 e3
    rw [List.getElem?_take, if_pos (by omega)] at e0 e1 e2 e3
    simp only [Array.getElem?_toList] at e0 e1 e2 e3
    exact ⟨g, cap, rfl, by rw [cell_of_row w g _ cur _ _ hh]; exact e0, by rw [cell_of_row w g _ cur _ _ hh]; exact e1, by rw [cell_of_row w g _ cur _ _ hh]; exact e2, by rw [cell_of_row w g _ cur _ _ hh]; exact e3⟩

end Go.Proofs.Ythoiajpbpoglfaa

/- Numbers looked for, on the given side. -/
namespace Go.Proofs.Ythoiajpbpoglfaa
set_option linter.unusedVariables false
set_option linter.unusedSimpArgs false
open Go.RowKit

theorem l1Has_any (a : Option Addr) (c : Nat) (ks : List Int) (x : Int) (w : World) (hr : RdI w a ks) :
    Calls Try.prog 84 #[.slice a ks.length c, .int .i64 x] w fun e w' => e = .returned (.bool (decide (x ∈ ks))) ∧ w' = w := by
  have hlen := hr.1
  go_enter Try.func84, Try.ntmps84
  go_wp2_with fail
  go_loop [5] (fun i => ∃ k : Nat, k ≤ ks.length ∧ i = .int .i64 (k : Int) ∧ ∀ j, j < k → ks.getD j 0 ≠ x) (fun i => ks.length - (intOf i).toNat)
  case atStart => exact ⟨0, Nat.zero_le _, rfl, fun j h => by omega⟩
  case round =>
    obtain ⟨k, hk, rfl, hz⟩ := hrel
    have HZ := kide hz
    by_cases hlt : k < ks.length
    · obtain ⟨-, -, h | ⟨b, o, rfl, hc⟩⟩ := hr
      · subst h; simp at hlt
      have e0 := hc k hlt
      have hmem : ks.getD k 0 ∈ ks := by simp [List.getD, hlt]
      generalize hy : ks.getD k 0 = y at *
      have HY := kide hy
      have i0 : (k : Int) < (ks.length : Int) := by omega
      clear hc hz hy
      by_cases hxy : y = x
      · have e1 : (y == x) = true := by simp [hxy]
        have HR : Hid (decide (x ∈ ks) = true) := decide_eq_true (by rw [← hxy]; exact hmem)
        clear hxy hmem
        go_wp2_with fail
        go_ret
        exact ⟨ret_bool HR.out.symm, rfl⟩
      · have e1 : (y == x) = false := by simp [hxy]
        have HX := kide hxy
        clear hxy hmem
        go_wp2_with fail
        go_round
        case rel =>
          refine ⟨k + 1, by omega, by go_num, fun j hj => ?_⟩
          by_cases hjk : j = k
          · rw [hjk, HY.out]; exact HX.out
          · exact HZ.out j (by omega)
        case measure => simp [intOf]; omega
    · have HR : Hid (decide (x ∈ ks) = false) := decide_eq_false (fun h => by
        obtain ⟨j, hj, e⟩ := List.mem_iff_getElem.1 h
        exact hz j (by omega) (by simp [List.getD, hj, e]))
      clear hz
      go_wp2_with fail
      go_ret
      exact ⟨ret_bool HR.out.symm, rfl⟩
end Go.Proofs.Ythoiajpbpoglfaa

/- Blocks of memory: what stays, what may change in its kind alone; words in new memory. -/
namespace Go.Proofs.Ythoiajpbpoglfaa
set_option linter.unusedVariables false
set_option linter.unusedSimpArgs false
open Go.RowKit

theorem own_ge {w : World} {B n : Nat} {e : TypeId} {v : Value} {xs : List Value} {b : Nat} (h : w.ownsRow B e 1 v n xs) (hb : v.ownBlock = some b) : B ≤ b := by
  rcases h.2 with ⟨rfl, -⟩ | ⟨g, cap, cur, rfl, hg, hh, -⟩
  · cases hb
  · cases hb
    exact hg

/-- But for the blocks from B1 on below B2 nothing has changed. -/
def Out (B1 B2 : Nat) (w w' : World) : Prop := w'.os = w.os ∧ w'.tape = w.tape ∧ w'.output = w.output ∧ w.heap.size ≤ w'.heap.size ∧ ∀ k, k < w.heap.size → (k < B1 ∨ B2 ≤ k) → w'.heap[k]? = w.heap[k]?
theorem Out.refl (B1 B2 : Nat) (w : World) : Out B1 B2 w w := ⟨rfl, rfl, rfl, Nat.le_refl _, fun _ _ _ => rfl⟩
theorem Out.trans {B1 B2 : Nat} {w w1 w2 : World} (h : Out B1 B2 w w1) (h' : Out B1 B2 w1 w2) : Out B1 B2 w w2 :=
  ⟨h'.1.trans h.1, h'.2.1.trans h.2.1, h'.2.2.1.trans h.2.2.1, Nat.le_trans h.2.2.2.1 h'.2.2.2.1, fun k hk ho => (h'.2.2.2.2 k (Nat.lt_of_lt_of_le hk h.2.2.2.1) ho).trans (h.2.2.2.2 k hk ho)⟩
theorem Out.grown {B1 B2 g : Nat} {w w' : World} (h : w.grownBy w' (some g)) (h1 : B1 ≤ g) (h2 : g < B2) : Out B1 B2 w w' := ⟨h.os, h.tape, h.output, h.size, fun k hk ho => h.block k hk (fun e => by cases e; omega)⟩
theorem Out.set {B1 B2 g o : Nat} {w w' : World} (h : Out B1 B2 w w') (h1 : B1 ≤ g) (h2 : g < B2) (v : Value) : Out B1 B2 w (w'.setCell ⟨g, o, none⟩ v) := by
  refine ⟨h.1, h.2.1, h.2.2.1, by simpa using h.2.2.2.1, fun k hk ho => ?_⟩
  rw [heap_setCell_other _ _ _ _ (by simp; omega)]
  exact h.2.2.2.2 k hk ho
theorem Out.below {B B1 B2 : Nat} {w w' : World} (h : Out B1 B2 w w') (hB : B ≤ B1) (hs : B ≤ w.heap.size) : Below B w w' := ⟨h.1, h.2.1, h.2.2.1, h.2.2.2.1, fun k hk => h.2.2.2.2 k (by omega) (.inl (by omega))⟩

/-- Of the same kind: numbers, texts and flags may be others. -/
def alike (v v' : Value) : Prop := v' = v ∨ (∃ k x y, v = .int k x ∧ v' = .int k y) ∨ (∃ x y, v = .string x ∧ v' = .string y) ∨ ∃ x y, v = .bool x ∧ v' = .bool y
theorem alike.trans {a b c : Value} (h : alike a b) (h' : alike b c) : alike a c := by
  rcases h with rfl | ⟨k, x, y, rfl, rfl⟩ | ⟨x, y, rfl, rfl⟩ | ⟨x, y, rfl, rfl⟩
  · exact h'
  · rcases h' with rfl | ⟨k', x', y', e, rfl⟩ | ⟨x', y', e, rfl⟩ | ⟨x', y', e, rfl⟩
    · exact .inr (.inl ⟨k, x, y, rfl, rfl⟩)
    · cases e
      exact .inr (.inl ⟨k, x, y', rfl, rfl⟩)
    · cases e
    · cases e
  · rcases h' with rfl | ⟨k', x', y', e, rfl⟩ | ⟨x', y', e, rfl⟩ | ⟨x', y', e, rfl⟩
    · exact .inr (.inr (.inl ⟨x, y, rfl, rfl⟩))
    · cases e
    · exact .inr (.inr (.inl ⟨x, y', rfl, rfl⟩))
    · cases e
  · rcases h' with rfl | ⟨k', x', y', e, rfl⟩ | ⟨x', y', e, rfl⟩ | ⟨x', y', e, rfl⟩
    · exact .inr (.inr (.inr ⟨x, y, rfl, rfl⟩))
    · cases e
    · cases e
    · exact .inr (.inr (.inr ⟨x, y', rfl, rfl⟩))
theorem alike.int {k : IntKind} {x : Int} {v : Value} (h : alike (.int k x) v) : ∃ y, v = .int k y := by
  rcases h with rfl | ⟨k', x', y', e, rfl⟩ | ⟨x', y', e, rfl⟩ | ⟨x', y', e, rfl⟩
  · exact ⟨x, rfl⟩
  · cases e; exact ⟨y', rfl⟩
  · cases e
  · cases e
theorem alike.str {x : ByteArray} {v : Value} (h : alike (.string x) v) : ∃ y, v = .string y := by
  rcases h with rfl | ⟨k', x', y', e, rfl⟩ | ⟨x', y', e, rfl⟩ | ⟨x', y', e, rfl⟩
  · exact ⟨x, rfl⟩
  · cases e
  · exact ⟨y', rfl⟩
  · cases e
theorem alike.slice {a : Option Addr} {n c : Nat} {v : Value} (h : alike (.slice a n c) v) : v = .slice a n c := by
  rcases h with rfl | ⟨k', x', y', e, rfl⟩ | ⟨x', y', e, rfl⟩ | ⟨x', y', e, rfl⟩
  · rfl
  · cases e
  · cases e
  · cases e

/-- Numbers alone have changed. -/
def Shp (w w' : World) : Prop := ∀ (b : Nat) (cur : Array Value) (t : TypeId), w.heap[b]? = some (.cells cur t (0, 0)) → ∃ cur', w'.heap[b]? = some (.cells cur' t (0, 0)) ∧ ∀ (i : Nat) (v : Value), cur[i]? = some v → ∃ v', cur'[i]? = some v' ∧ alike v v'
theorem Shp.refl (w : World) : Shp w w := fun _ cur _ h => ⟨cur, h, fun _ v hv => ⟨v, hv, .inl rfl⟩⟩
theorem Shp.trans {a b c : World} (h : Shp a b) (h' : Shp b c) : Shp a c := fun k cur t e => by
  obtain ⟨c1, e1, r1⟩ := h k cur t e
  obtain ⟨c2, e2, r2⟩ := h' k c1 t e1
  exact ⟨c2, e2, fun i v hv => by
    obtain ⟨v1, h1, a1⟩ := r1 i v hv
    obtain ⟨v2, h2, a2⟩ := r2 i v1 h1
    exact ⟨v2, h2, a1.trans a2⟩⟩
theorem Shp.put {w : World} {g o : Nat} {x y : Value} (h : w.cell? ⟨g, o, none⟩ = some x) (hxy : alike x y) : Shp w (w.setCell ⟨g, o, none⟩ y) := fun b cur t e => by
  by_cases eb : b = g
  · subst eb
    refine ⟨cur.setIfInBounds o y, heap_setCell_same w b o _ _ _ e, fun i v hv => ?_⟩
    by_cases ei : i = o
    · subst ei
      rw [cell_of_row w b i cur _ _ e] at h
      rw [h] at hv
      cases hv
      exact ⟨y, by rw [Array.getElem?_setIfInBounds_self_of_lt (Array.getElem?_eq_some_iff.1 h).1], hxy⟩
    · exact ⟨v, by rw [Array.getElem?_setIfInBounds_ne (fun h => ei h.symm)]; exact hv, .inl rfl⟩
  · exact ⟨cur, by rw [heap_setCell_other _ _ _ _ (by simpa using eb)]; exact e, fun i v hv => ⟨v, hv, .inl rfl⟩⟩
theorem Shp.set {w : World} {g o : Nat} {k : IntKind} {x : Int} (h : w.cell? ⟨g, o, none⟩ = some (.int k x)) (y : Int) : Shp w (w.setCell ⟨g, o, none⟩ (.int k y)) := Shp.put h (.inr (.inl ⟨k, x, y, rfl, rfl⟩))

/-- A row of n words in a block of words. -/
def TyW (w : World) (lo hi : Nat) (a : Option Addr) (n : Nat) : Prop := n ≤ 1048576 ∧ ∃ h cur, a = some ⟨h, 0, none⟩ ∧ lo ≤ h ∧ h < hi ∧ w.heap[h]? = some (.cells cur 88 (0, 0)) ∧ ∀ i, i < n → ∃ y : Int, cur[i]? = some (.int .u64 y)

theorem keep_int {cur cur' : Array Value} (r : ∀ (i : Nat) (v : Value), cur[i]? = some v → ∃ v', cur'[i]? = some v' ∧ alike v v') {i : Nat} {k : IntKind} (h : ∃ x : Int, cur[i]? = some (.int k x)) : ∃ x : Int, cur'[i]? = some (.int k x) := by
  obtain ⟨x, hx⟩ := h
  obtain ⟨v', h1, h2⟩ := r i _ hx
  obtain ⟨y, rfl⟩ := h2.int
  exact ⟨y, h1⟩
theorem TyW.shp {w w' : World} {lo hi n : Nat} {a : Option Addr} (h : TyW w lo hi a n) (hs : Shp w w') : TyW w' lo hi a n := by
  obtain ⟨h0, g, cur, e, h1, h2, h3, h4⟩ := h
  obtain ⟨cur', e', r⟩ := hs g cur _ h3
  exact ⟨h0, g, cur', e, h1, h2, e', fun i hi => keep_int r (h4 i hi)⟩

theorem keep_str {cur cur' : Array Value} (r : ∀ (i : Nat) (v : Value), cur[i]? = some v → ∃ v', cur'[i]? = some v' ∧ alike v v') {i : Nat} (h : ∃ x : ByteArray, cur[i]? = some (.string x)) : ∃ x : ByteArray, cur'[i]? = some (.string x) := by
  obtain ⟨x, hx⟩ := h
  obtain ⟨v', h1, h2⟩ := r i _ hx
  obtain ⟨y, rfl⟩ := h2.str
  exact ⟨y, h1⟩
theorem Shp.of {w w' : World} (hb : Below w.heap.size w w') : Shp w w' := fun b cur t e => ⟨cur, (hb.block b (lt_of_block e)).trans e, fun i v hv => ⟨v, hv, .inl rfl⟩⟩

set_option maxHeartbeats 1000000 in
/-- Words are marked, in memory of that kind. -/
theorem markU_ty (lo hi c n k : Nat) (a : Option Addr) (w : World) (h : TyW w lo hi a n) (hk : k + n ≤ 9000000000000000000) :
    Calls Try.prog 43 #[.slice a n c, .int .i64 (k : Int)] w fun e w' => e = .returned (.int .i64 ((k + n : Nat) : Int)) ∧ Shp w w' ∧ Out lo hi w w' := by
  obtain ⟨hn, g, cur, rfl, hl, hh, hc, hi'⟩ := h
  have H := kide (show TyW w lo hi (some ⟨g, 0, none⟩) n from ⟨hn, g, cur, rfl, hl, hh, hc, hi'⟩)
  clear hc hi'
  go_enter Try.func43, Try.ntmps43
  go_wp2_with fail
  go_loopw [1, 5] (fun q i wr => ∃ (j : Nat), j ≤ n ∧ i = .int .i64 (j : Int) ∧ q = .int .i64 ((k + j : Nat) : Int) ∧ Shp w wr ∧ Out lo hi w wr) (fun _ i _ => n - (intOf i).toNat)
  case atStart => exact ⟨0, Nat.zero_le _, rfl, rfl, Shp.refl _, Out.refl _ _ _⟩
  case round =>
    obtain ⟨j, hj, rfl, rfl, hs, ho⟩ := hrel
    have HS := kide hs
    have HO := kide ho
    by_cases hlt : j < n
    · obtain ⟨-, g', cu, e', -, -, hg, hc⟩ := H.out.shp hs
      cases e'
      obtain ⟨y0, hy0⟩ := hc j hlt
      have q0 : wr.cell? ⟨g, j, none⟩ = some (.int .u64 y0) := by rw [cell_of_row wr g j _ _ _ hg]; exact hy0
      have r0 := frozen_of_row wr g j _ _ hg
      obtain ⟨K, hK⟩ : ∃ K, k + j = K := ⟨_, rfl⟩
      rw [hK]
      have HK := kide hK
      have hKb : K < 9000000000000000000 := by omega
      have i0 : (j : Int) < (n : Int) := by omega
      have HS2 := kide (hs.trans (Shp.set q0 (K : Int)))
      have HO2 := kide (ho.set hl hh (.int .u64 (K : Int)) (o := j))
      clear hc hs ho hK hy0 hg
      go_wp2_with fail
      go_roundw
      case rel => exact ⟨j + 1, by omega, by go_num, by rw [show k + (j + 1) = K + 1 by have := HK.out; omega]; first | go_num | (simp; done), HS2.out, HO2.out⟩
      case measure => simp [intOf]; omega
    · have e : j = n := by omega
      subst e
      clear hs ho
      go_wp2_with fail
      go_ret
      exact ⟨rfl, HS.out, HO.out⟩

def OwW (w : World) (base : Nat) (v : Value) (xs : List Nat) : Prop := w.ownsRow base 88 1 v xs.length (u64s xs).toList

theorem OwW.nils (w : World) (base : Nat) : OwW w base (.slice none 0 0) [] := ⟨rfl, .inl ⟨rfl, rfl⟩⟩
theorem OwW.empty (w : World) (base g : Nat) (hg : g = w.heap.size) (h : base ≤ g) : OwW (w.alloc (.cells #[] 88)) base (.slice (some ⟨g, 0, Option.none⟩) 0 0) [] := by
  subst hg
  exact World.ownsRow_made w #[] 0 h (Nat.zero_le _) (by simp)

/-- A word's bits in new memory: a block of words whose first ones they are. -/
def Nw (w : World) (lo : Nat) (a : Option Addr) (xs : List Nat) : Prop :=
  (xs = [] ∧ ∀ x, a = some x → lo ≤ x.block ∧ x.off = 0 ∧ ∃ cur, w.heap[x.block]? = some (.cells cur 88 (0, 0))) ∨ ∃ g cur, a = some ⟨g, 0, none⟩ ∧ lo ≤ g ∧ w.heap[g]? = some (.cells cur 88 (0, 0)) ∧ ∀ i, i < xs.length → cur[i]? = some (.int .u64 ((xs.getD i 0 : Nat) : Int))

theorem OwW.shape {w : World} {base : Nat} {v : Value} {xs : List Nat} (h : OwW w base v xs) : ∃ a c, v = .slice a xs.length c ∧ Nw w base a xs := by
  obtain ⟨h1, ⟨rfl, h2⟩ | ⟨g, cap, cur, rfl, hg, hh, hc1, hc2, hsz, hcur⟩⟩ := h
  · have e := List.eq_nil_of_length_eq_zero h2
    subst e
    exact ⟨none, 0, rfl, .inl ⟨rfl, fun x e => by cases e⟩⟩
  · refine ⟨some ⟨g, 0, none⟩, cap, rfl, .inr ⟨g, cur, rfl, hg, hh, fun i hi => ?_⟩⟩
    have h3 : (cur.toList.take (xs.length * 1))[i]? = (u64s xs).toList[i]? := by rw [hcur]
    rw [List.getElem?_take, if_pos (by omega)] at h3
    simp only [Array.getElem?_toList] at h3
    rw [h3, u64s_get _ _ hi]

theorem Own.nw {w : World} {lo g : Nat} {xs : List Nat} (h : Own w g xs) (hg : lo ≤ g) : Nw w lo (some ⟨g, 0, none⟩) xs := .inr ⟨g, u64s xs, rfl, hg, h, fun i hi => u64s_get _ _ hi⟩

theorem Nw.rd {w : World} {lo : Nat} {a : Option Addr} {xs : List Nat} (h : Nw w lo a xs) (hl : xs.length ≤ 1048576) (hx : ∀ x ∈ xs, x < 18446744073709551616) : Rd w a xs := by
  refine ⟨hl, hx, ?_⟩
  rcases h with ⟨h1, -⟩ | ⟨g, cur, h1, -, h3, h4⟩
  · exact .inl h1
  · refine .inr ⟨g, 0, h1, fun i hi => ?_⟩
    rw [Nat.zero_add, cell_of_row w g i cur _ _ h3]
    exact h4 i hi

theorem Nw.mono {w : World} {lo lo' : Nat} {a : Option Addr} {xs : List Nat} (h : Nw w lo a xs) (hl : lo' ≤ lo) : Nw w lo' a xs := by
  rcases h with ⟨h1, h2⟩ | ⟨g, cur, h1, h2, h3, h4⟩
  · exact .inl ⟨h1, fun x e => ⟨Nat.le_trans hl (h2 x e).1, (h2 x e).2⟩⟩
  · exact .inr ⟨g, cur, h1, Nat.le_trans hl h2, h3, h4⟩

theorem Nw.kept {w w' : World} {lo : Nat} {a : Option Addr} {xs : List Nat} (h : Nw w lo a xs) (hk : ∀ (k : Nat) (cur : Array Value), w.heap[k]? = some (Obj.cells cur 88 (0, 0)) → w'.heap[k]? = w.heap[k]?) : Nw w' lo a xs := by
  rcases h with ⟨h1, h2⟩ | ⟨g, cur, h1, h2, h3, h4⟩
  · refine .inl ⟨h1, fun x e => ?_⟩
    obtain ⟨a, b, cur, c⟩ := h2 x e
    exact ⟨a, b, cur, by rw [hk _ _ c]; exact c⟩
  · exact .inr ⟨g, cur, h1, h2, by rw [hk _ _ h3]; exact h3, h4⟩

theorem Nw.later {w w' : World} {lo : Nat} {a : Option Addr} {xs : List Nat} (h : Nw w lo a xs) (hb : Below w.heap.size w w') : Nw w' lo a xs := Nw.kept h fun k cur hc => hb.block k (lt_of_block hc)

/-- 'append(out, list...)' of words at a step of a region that draws its order. -/
theorem step_appWs (w : World) {ops : Array Oper} {o : Oper} {a : Act} {K : Act → World → Prop} {Q : Exit → Act → World → Prop} {E : Prop} (hgd : o.guard = none) (s x : Operand)
    (ho : o.op = .call { callee := .builtin .append, args := #[s, x], argTypes := #[46, 46] })
    (base : Nat) (v : Value) (bs ys : List Nat) (hs : a.eval s = v) (hown : OwW w base v bs) (b ob c : Nat) (hx : a.eval x = .slice (some ⟨b, ob, none⟩) ys.length c)
    (hc : ∀ i, i < ys.length → w.cell? ⟨b, ob + i, none⟩ = some (.int .u64 ((ys.getD i 0 : Nat) : Int))) (hl : bs.length + ys.length ≤ 4194304) (hbase : base ≤ w.heap.size)
    (h : ∀ v' w', OwW w' base v' (bs ++ ys) → w.grownBy w' v.ownBlock → K (a.put o.dst v') w') :
    if Region.wanted o (yielded ops a.tmps) = true then Oper.wp Try.prog o a w K Q else E := by
  have hw : Region.wanted o (yielded ops a.tmps) = true := by simp [Region.wanted, hgd]
  rw [if_pos hw]
  obtain ⟨i0, hi, hz0, hz1, hz2⟩ := info_parts Try.infoU64
  refine wp_append_own w s x 46 ho base 88 i0 (.int .u64 0) 1 8 Try.underlying46 hi hz0 hz1 hz2 rfl (by decide) v bs.length (u64s bs).toList hs hown ⟨b, ob, none⟩ ys.length c (u64s ys).toList hx (by simp [u64s]) ?_ ?_ ?_ ?_ hbase ?_
  · intro j u hj
    have hj' : j < ys.length := by
      have := (List.getElem?_eq_some_iff.1 hj).1
      simpa [u64s] using this
    rw [Addr.add_lit, hc j hj']
    simp [u64s, hj'] at hj
    rw [← hj]
    simp [List.getD, hj']
  · intro u hu
    simp [u64s] at hu
    obtain ⟨_, _, rfl⟩ := hu
    rfl
  · unfold maxLen; omega
  · omega
  · intro v' w' h1 h2 _
    refine h v' w' ?_ h2
    unfold OwW
    simpa [u64s] using h1

theorem nw_set {w : World} {lo β : Nat} {a : Option Addr} {xs : List Nat} {cs : Array Value} {t : TypeId} (h : Nw w lo a xs) (hB : Bz w β cs t) (ht : t ≠ 88) (i : Nat) (v : Value) : Nw (w.setCell ⟨β, i, none⟩ v) lo a xs :=
  Nw.kept h fun k cur hc => heap_setCell_other _ _ _ _ (fun e => by
    simp only [] at e
    subst e
    unfold Bz at hB
    rw [hB] at hc
    cases hc
    exact ht rfl)

theorem nw_lt {w : World} {lo : Nat} {a : Option Addr} {xs : List Nat} (h : Nw w lo a xs) {p : Addr} (hp : a = some p) : lo ≤ p.block ∧ p.block < w.heap.size := by
  rcases h with ⟨h1, h2⟩ | ⟨g, cur, h1, h2, h3, h4⟩
  · obtain ⟨k1, -, cur, k2⟩ := h2 p hp
    exact ⟨k1, lt_of_block k2⟩
  · rw [h1] at hp
    cases hp
    exact ⟨h2, lt_of_block h3⟩

end Go.Proofs.Ythoiajpbpoglfaa

/- A row of numbers of one's own that is written to. -/
namespace Go.Proofs.Ythoiajpbpoglfaa
set_option linter.unusedVariables false
set_option linter.unusedSimpArgs false
open Go.RowKit

theorem OI.cellO {w : World} {B g n c : Nat} {l : List Int} (h : OI w B (.slice (some ⟨g, 0, none⟩) n c) l) {i : Nat} (hi : i < l.length) : w.cell? ⟨g, i, none⟩ = some (.int .i64 (l.getD i 0)) := by
  rcases h.2 with ⟨e, -⟩ | ⟨g', cap, cur, e, hg, hh, hc1, hc2, hsz, hcur⟩
  · cases e
  · cases e
    have h3 : (cur.toList.take (l.length * 1))[i]? = (i64s l).toList[i]? := by rw [hcur]
    rw [List.getElem?_take, if_pos (by omega)] at h3
    simp only [Array.getElem?_toList] at h3
    rw [cell_of_row w _ i cur _ _ hh, h3, i64s_get _ _ hi]
theorem OI.frozO {w : World} {B g n c : Nat} {l : List Int} (h : OI w B (.slice (some ⟨g, 0, none⟩) n c) l) (i : Nat) : w.frozen? ⟨g, i, none⟩ = false := by
  rcases h.2 with ⟨e, -⟩ | ⟨g', cap, cur, e, hg, hh, hc1, hc2, hsz, hcur⟩
  · cases e
  · cases e
    exact frozen_of_row w _ i _ _ hh
theorem OI.setO {w : World} {B g n c : Nat} {l : List Int} (h : OI w B (.slice (some ⟨g, 0, none⟩) n c) l) {i : Nat} (hi : i < l.length) (x : Int) : OI (w.setCell ⟨g, i, none⟩ (.int .i64 x)) B (.slice (some ⟨g, 0, none⟩) n c) (l.set i x) := by
  rcases h.2 with ⟨e, -⟩ | ⟨g', cap, cur, e, hg, hh, hc1, hc2, hsz, hcur⟩
  · cases e
  · cases e
    refine ⟨by simp [i64s], .inr ⟨g, c, cur.setIfInBounds i (.int .i64 x), by simp, hg, heap_setCell_same w g i _ _ _ hh, by simpa using hc1, hc2, by simpa using hsz, ?_⟩⟩
    have e2 : (i64s (l.set i x)).toList = (i64s l).toList.set i (.int .i64 x) := by simp [i64s, List.map_set]
    rw [Array.toList_setIfInBounds, e2, ← hcur, List.take_set]
    simp
theorem make_i64s (n : Nat) (hn : n ≤ 1048576) (kl kc : IntKind) (w : World) :
    (Instr.makeSlice 22 (.int kl (n : Int)) (.int kc (n : Int))).run Try.prog w = .ok (.slice (some ⟨w.heap.size, 0, none⟩) n n) (w.alloc (.cells (madeCells #[.int .i64 0] n) 2)) := by
  obtain ⟨i0, hi, hz0, hz1, hz2⟩ := info_parts (show (Try.prog.info? 2).map (fun i => (i.zero, i.size, i.bytes)) = some (some (.int .i64 0), 1, 8) by kernel_rfl)
  have := run_make (P := Try.prog) w 22 2 i0 _ Try.underlying22 hi hz0 kl kc n n (by omega) (Int.le_refl _) (by rw [hz2]; omega) (by omega)
  rw [hz1, Nat.mul_one] at this
  simp only [Int.toNat_natCast] at this
  exact this
theorem OI.zeros (w : World) (B n : Nat) (hB : B ≤ w.heap.size) (hn : n ≤ 1048576) : OI (w.alloc (.cells (madeCells #[.int .i64 0] n) 2)) B (.slice (some ⟨w.heap.size, 0, none⟩) n n) (List.replicate n 0) := by
  refine ⟨by simp [i64s], .inr ⟨w.heap.size, n, _, by simp, hB, heap_alloc_new w _, by simp, by unfold maxLen; omega, by simp [size_madeCells], ?_⟩⟩
  rw [toList_madeCells_one]
  simp [i64s]
end Go.Proofs.Ythoiajpbpoglfaa

/- Drawn graphs: the memory. -/
namespace Go.Proofs.Ythoiajpbpoglfaa
set_option linter.unusedVariables false
set_option linter.unusedSimpArgs false
open Go.RowKit

theorem OI.typedG {w : World} {B : Nat} {v : Value} {l : List Int} (h : OI w B v l) {b : Nat} (hb : v.ownBlock = some b) : ∃ cur, w.heap[b]? = some (.cells cur 2 (0, 0)) := by
  rcases h.2 with ⟨rfl, -⟩ | ⟨g, cap, cur, rfl, hg, hh, -⟩
  · cases hb
  · cases hb
    exact ⟨cur, hh⟩
theorem OI.formG {w : World} {B : Nat} {v : Value} {l : List Int} (h : OI w B v l) : ∃ a c, v = .slice a l.length c := by
  rcases h.2 with ⟨e, h0⟩ | ⟨g, cap, cur, e, -⟩
  · exact ⟨none, 0, by rw [e, h0]⟩
  · exact ⟨_, _, e⟩
theorem OI.nilG (w : World) (B : Nat) : OI w B (.slice none 0 0) [] := ⟨rfl, .inl ⟨rfl, rfl⟩⟩

/-- A word in a block of words. -/
def Wq (w : World) (a : Option Addr) (xs : List Nat) : Prop := Rd w a xs ∧ ∀ ad, a = some ad → ∃ cur fr, w.heap[ad.block]? = some (.cells cur 88 fr)

/-- Blocks of numbers, bars and words stay. -/
def Ktg (w w' : World) (o : Option Nat) : Prop := ∀ b cur t fr, w.heap[b]? = some (.cells cur t fr) → (t = 2 ∨ t = 86 ∨ t = 88) → some b ≠ o → w'.heap[b]? = w.heap[b]?

theorem Wq.kept {w w' : World} {a : Option Addr} {xs : List Nat} {o : Option Nat} (h : Wq w a xs) (hk : Ktg w w' o) (ho : ∀ ad, a = some ad → some ad.block ≠ o) : Wq w' a xs := by
  obtain ⟨⟨r1, r2, r3⟩, h3⟩ := h
  have hb : ∀ ad, a = some ad → w'.heap[ad.block]? = w.heap[ad.block]? := fun ad e => by
    obtain ⟨cur, fr, hh⟩ := h3 ad e
    exact hk _ _ _ _ hh (.inr (.inr rfl)) (ho ad e)
  refine ⟨⟨r1, r2, ?_⟩, fun ad e => ?_⟩
  · rcases r3 with h | ⟨b, o, rfl, hc⟩
    · exact .inl h
    · exact .inr ⟨b, o, rfl, fun i hi => (World.cell?_of_block (a := ⟨b, o + i, none⟩) (hb ⟨b, o, none⟩ rfl)).trans (hc i hi)⟩
  · obtain ⟨cur, fr, hh⟩ := h3 ad e
    exact ⟨cur, fr, (hb ad e).trans hh⟩

theorem wq_fresh {w : World} {lo V : Nat} {a : Option Addr} {l : List Nat} (h : Fresh w lo a (pack l)) (hl : l.length = V) (hV : 1 ≤ V ∧ V ≤ 200) : Wq w a (pack l) := by
  rcases h with ⟨h0, h1⟩ | ⟨g, rfl, hg, ho⟩
  · have := pack_len l
    rw [h0] at this
    simp at this
    omega
  · exact ⟨ho.rd (by rw [pack_len]; omega) (pack_lt l), fun ad e => by cases e; exact ⟨_, _, ho⟩⟩
theorem wb_app {ws : List Int} {W : Int} (h : ∀ x ∈ ws, 1 ≤ x ∧ x ≤ 200) (hW : 1 ≤ W ∧ W ≤ 200) : ∀ x ∈ ws ++ [W], 1 ≤ x ∧ x ≤ 200 := fun x hx => by
  rcases List.mem_append.1 hx with hx | hx
  · exact h x hx
  · rw [List.mem_singleton.1 hx]; exact hW
theorem wb_set {ws : List Int} {W : Int} {i : Nat} (h : ∀ x ∈ ws, 1 ≤ x ∧ x ≤ 200) (hW : 1 ≤ W ∧ W ≤ 200) : ∀ x ∈ ws.set i W, 1 ≤ x ∧ x ≤ 200 := fun x hx => by
  rcases List.mem_or_eq_of_mem_set hx with hx | hx
  · exact h x hx
  · rw [hx]; exact hW
/-- A graph under way, but for its box. -/
structure Gc (w0 w : World) (β : Nat) (a : Option Addr) (c : Nat) (bs : List Nat) (vw : Value) (ws : List Int) (vb : Value) (ys : List Yg) : Prop where
  wid : OI w w0.heap.size vw ws
  bar : OB4 w w0.heap.size vb ys
  wok : ∀ x ∈ ws, in64 x
  yok : ∀ y ∈ ys, Wq w y.a y.ct.ws ∧ in64 y.ct.v ∧ in64 y.ct.lo ∧ in64 y.ct.bw
  rr : Rr w β a c bs
  dw : Dw β w0 w

section
variable {w0 w w' : World} {β : Nat} {a : Option Addr} {c : Nat} {bs : List Nat} {vw vb : Value} {ws : List Int} {ys : List Yg}

theorem Gc.kept (h : Gc w0 w β a c bs vw ws vb ys) (hk : Ktg w w' none) (hr : Rr w' β a c bs) (hd : Dw β w0 w') : Gc w0 w' β a c bs vw ws vb ys := by
  refine ⟨h.wid.move fun b hb => ?_, h.bar.move fun b hb => ?_, h.wok, fun y hy => ⟨(h.yok y hy).1.kept hk (fun _ _ => by simp), (h.yok y hy).2⟩, hr, hd⟩
  · obtain ⟨cur, hh⟩ := h.wid.typedG hb
    exact hk _ _ _ _ hh (.inl rfl) (by simp)
  · obtain ⟨cur, hh⟩ := h.bar.typed hb
    exact hk _ _ _ _ hh (.inr (.inl rfl)) (by simp)

theorem Gc.later (h : Gc w0 w β a c bs vw ws vb ys) (hb : Below w.heap.size w w') : Gc w0 w' β a c bs vw ws vb ys :=
  h.kept (fun b cur t fr hh _ _ => hb.block b (lt_of_block hh)) (h.rr.later hb) (h.dw.trans (Dw.of hb))

theorem Rr.typeG (h : Rr w β a c bs) : ∃ cur fr, w.heap[β]? = some (.cells cur 107 fr) := by
  obtain ⟨p, -, hk, -⟩ := h
  exact ⟨_, _, hk⟩

theorem Gc.far (h : Gc w0 w β a c bs vw ws vb ys) (hd : Dw β w w') (hr : Rr w' β a c bs) : Gc w0 w' β a c bs vw ws vb ys := by
  refine h.kept (fun b cur t fr hh ht _ => hd.block b (lt_of_block hh) (fun e => ?_)) hr (h.dw.trans hd)
  cases e
  obtain ⟨cur2, fr2, h2⟩ := h.rr.typeG
  rw [h2] at hh
  cases hh
  revert ht
  decide

/-- Another block is written to. -/
theorem Gc.other (h : Gc w0 w β a c bs vw ws vb ys) {g i : Nat} {cs : Array Value} {t : TypeId} (hg : Bz w g cs t) (ht : t ≠ 2 ∧ t ≠ 86 ∧ t ≠ 88 ∧ t ≠ 107) (hr0 : Rr w0 β a c bs) (hw : w0.heap.size ≤ g) (u : Value) : Gc w0 (w.setCell ⟨g, i, none⟩ u) β a c bs vw ws vb ys := by
  refine h.kept (fun b cur t2 fr hh ht2 _ => (gsc w ⟨g, i, none⟩ u).block b (lt_of_block hh) (fun e => ?_)) (hr0.far h.rr (gsc w ⟨g, i, none⟩ u) (fun k e => by cases e; exact hw)) (h.dw.own (gsc w ⟨g, i, none⟩ u) (fun k e => by cases e; exact hw))
  cases e
  have hg2 : w.heap[g]? = _ := hg
  rw [hg2] at hh
  cases hh
  rcases ht2 with rfl | rfl | rfl
  · exact ht.1 rfl
  · exact ht.2.1 rfl
  · exact ht.2.2.1 rfl

theorem Gc.low (h : Gc w0 w β a c bs vw ws vb ys) : (∀ k, vw.ownBlock = some k → w0.heap.size ≤ k) ∧ ∀ k, vb.ownBlock = some k → w0.heap.size ≤ k :=
  ⟨fun k e => (h.wid.lt e).1, fun k e => (h.bar.lt e).1⟩

/-- A width more. -/
theorem Gc.addW (h : Gc w0 w β a c bs vw ws vb ys) (hr0 : Rr w0 β a c bs) {v' : Value} {x : Int} (ho : OI w' w0.heap.size v' (ws ++ [x])) (hg : w.grownBy w' vw.ownBlock) (hx : in64 x) : Gc w0 w' β a c bs v' (ws ++ [x]) vb ys := by
  have key : ∀ b cur (t : TypeId) fr, w.heap[b]? = some (.cells cur t fr) → t ≠ 2 → some b ≠ vw.ownBlock := fun b cur t fr hh ht e => by
    obtain ⟨cur2, h2⟩ := h.wid.typedG e.symm
    rw [h2] at hh
    cases hh
    exact ht rfl
  refine ⟨ho, h.bar.move fun b hb => ?_, fun y hy => ?_, fun y hy => ⟨?_, (h.yok y hy).2⟩, hr0.far h.rr hg h.low.1, h.dw.own hg h.low.1⟩
  · obtain ⟨cur, hh⟩ := h.bar.typed hb
    exact hg.block b (lt_of_block hh) (key _ _ _ _ hh (by decide))
  · rcases List.mem_append.1 hy with hy | hy
    · exact h.wok y hy
    · rw [List.mem_singleton.1 hy]; exact hx
  · refine (h.yok y hy).1.kept (o := vw.ownBlock) (fun b cur t fr hh _ hne => hg.block b (lt_of_block hh) hne) (fun ad e => ?_)
    obtain ⟨cur, fr, hh⟩ := (h.yok y hy).1.2 ad e
    exact key _ _ _ _ hh (by decide)

/-- A bar more. -/
theorem Gc.addB (h : Gc w0 w β a c bs vw ws vb ys) (hr0 : Rr w0 β a c bs) {v' : Value} {y : Yg} (ho : OB4 w' w0.heap.size v' (ys ++ [y])) (hg : w.grownBy w' vb.ownBlock) (hy : Wq w y.a y.ct.ws ∧ in64 y.ct.v ∧ in64 y.ct.lo ∧ in64 y.ct.bw) : Gc w0 w' β a c bs vw ws v' (ys ++ [y]) := by
  have key : ∀ b cur (t : TypeId) fr, w.heap[b]? = some (.cells cur t fr) → t ≠ 86 → some b ≠ vb.ownBlock := fun b cur t fr hh ht e => by
    obtain ⟨cur2, h2⟩ := h.bar.typed e.symm
    rw [h2] at hh
    cases hh
    exact ht rfl
  have kw : ∀ (z : Yg), Wq w z.a z.ct.ws → Wq w' z.a z.ct.ws := fun z hz => hz.kept (o := vb.ownBlock) (fun b cur t fr hh _ hne => hg.block b (lt_of_block hh) hne) (fun ad e => by
    obtain ⟨cur, fr, hh⟩ := hz.2 ad e
    exact key _ _ _ _ hh (by decide))
  refine ⟨h.wid.move fun b hb => ?_, ho, h.wok, fun z hz => ?_, hr0.far h.rr hg h.low.2, h.dw.own hg h.low.2⟩
  · obtain ⟨cur, hh⟩ := h.wid.typedG hb
    exact hg.block b (lt_of_block hh) (key _ _ _ _ hh (by decide))
  · rcases List.mem_append.1 hz with hz | hz
    · exact ⟨kw z (h.yok z hz).1, (h.yok z hz).2⟩
    · rw [List.mem_singleton.1 hz]; exact ⟨kw y hy.1, hy.2⟩

/-- A width is written anew. -/
theorem Gc.setW {g n cp : Nat} (h : Gc w0 w β a c bs (.slice (some ⟨g, 0, none⟩) n cp) ws vb ys) (hr0 : Rr w0 β a c bs) {i : Nat} (hi : i < ws.length) {x : Int} (hx : in64 x) : Gc w0 (w.setCell ⟨g, i, none⟩ (.int .i64 x)) β a c bs (.slice (some ⟨g, 0, none⟩) n cp) (ws.set i x) vb ys := by
  have hg := gsc w ⟨g, i, none⟩ (.int .i64 x)
  have hlo : ∀ k, some g = some k → w0.heap.size ≤ k := fun k e => by cases e; exact (h.wid.lt rfl).1
  have key : ∀ b cur (t : TypeId) fr, w.heap[b]? = some (.cells cur t fr) → t ≠ 2 → some b ≠ some g := fun b cur t fr hh ht e => by
    cases e
    obtain ⟨cur2, h2⟩ := h.wid.typedG (b := g) rfl
    rw [h2] at hh
    cases hh
    exact ht rfl
  refine ⟨h.wid.setO hi x, h.bar.move fun b hb => ?_, fun y hy => ?_, fun y hy => ⟨?_, (h.yok y hy).2⟩, hr0.far h.rr hg hlo, h.dw.own hg hlo⟩
  · obtain ⟨cur, hh⟩ := h.bar.typed hb
    exact hg.block b (lt_of_block hh) (key _ _ _ _ hh (by decide))
  · rcases List.mem_or_eq_of_mem_set hy with hy | hy
    · exact h.wok y hy
    · rw [hy]; exact hx
  · refine (h.yok y hy).1.kept (o := some g) (fun b cur t fr hh _ hne => hg.block b (lt_of_block hh) hne) (fun ad e => ?_)
    obtain ⟨cur, fr, hh⟩ := (h.yok y hy).1.2 ad e
    exact key _ _ _ _ hh (by decide)

/-- .. with its box, and the answer's. -/
structure Gf (w0 w : World) (β : Nat) (a : Option Addr) (c : Nat) (bs : List Nat) (vw : Value) (ws : List Int) (vb : Value) (ys : List Yg) : Prop where
  core : Gc w0 w β a c bs vw ws vb ys
  rb : Bz w w0.heap.size #[.slice none 0 0, .slice none 0 0] 32
  xb : Bz w (w0.heap.size + 1) #[vw, vb] 32

theorem bz_grown {o : Option Nat} {b : Nat} {cs : Array Value} {t : TypeId} (h : Bz w b cs t) (hg : w.grownBy w' o) (ho : some b ≠ o) : Bz w' b cs t := by
  have h1 : w.heap[b]? = _ := h
  show w'.heap[b]? = _
  rw [hg.block b (lt_of_block h1) ho]
  exact h1
theorem Gf.later (h : Gf w0 w β a c bs vw ws vb ys) (hb : Below w.heap.size w w') : Gf w0 w' β a c bs vw ws vb ys := ⟨h.core.later hb, h.rb.later hb, h.xb.later hb⟩
theorem Gf.far (h : Gf w0 w β a c bs vw ws vb ys) (hβ : β < w0.heap.size) (hd : Dw β w w') (hr : Rr w' β a c bs) : Gf w0 w' β a c bs vw ws vb ys :=
  ⟨h.core.far hd hr, bz_grown h.rb hd (fun e => by cases e; omega), bz_grown h.xb hd (fun e => by cases e; omega)⟩
theorem bz_typed {o : Option Nat} {b : Nat} {cs : Array Value} {t t2 : TypeId} (h : Bz w b cs t) (ho : ∀ k, o = some k → ∃ cur, w.heap[k]? = some (.cells cur t2 (0, 0))) (ht : t ≠ t2) : some b ≠ o := fun e => by
  obtain ⟨cur, h2⟩ := ho b e.symm
  have h1 : w.heap[b]? = _ := h
  rw [h2] at h1
  cases h1
  exact ht rfl
/-- A width more, and the box written. -/
theorem Gf.addW (h : Gf w0 w β a c bs vw ws vb ys) (hr0 : Rr w0 β a c bs) {v' : Value} {x : Int} (ho : OI w' w0.heap.size v' (ws ++ [x])) (hg : w.grownBy w' vw.ownBlock) (hx : in64 x) : Gf w0 (w'.setCell ⟨w0.heap.size + 1, 0, none⟩ v') β a c bs v' (ws ++ [x]) vb ys ∧ Bz w' (w0.heap.size + 1) #[vw, vb] 32 := by
  have r1 := bz_grown h.rb hg (bz_typed h.rb (fun k e => h.core.wid.typedG e) (by decide))
  have x1 := bz_grown h.xb hg (bz_typed h.xb (fun k e => h.core.wid.typedG e) (by decide))
  have hc := h.core.addW hr0 ho hg hx
  refine ⟨⟨hc.other x1 (by decide) hr0 (Nat.le_succ _) _, ?_, x1.set 0 v'⟩, x1⟩
  exact bz_grown r1 (gsc w' ⟨w0.heap.size + 1, 0, none⟩ v') (fun e => by simp at e)
/-- A bar more, and the box written. -/
theorem Gf.addB (h : Gf w0 w β a c bs vw ws vb ys) (hr0 : Rr w0 β a c bs) {v' : Value} {y : Yg} (ho : OB4 w' w0.heap.size v' (ys ++ [y])) (hg : w.grownBy w' vb.ownBlock) (hy : Wq w y.a y.ct.ws ∧ in64 y.ct.v ∧ in64 y.ct.lo ∧ in64 y.ct.bw) : Gf w0 (w'.setCell ⟨w0.heap.size + 1, 1, none⟩ v') β a c bs vw ws v' (ys ++ [y]) ∧ Bz w' (w0.heap.size + 1) #[vw, vb] 32 ∧ Gc w0 w' β a c bs vw ws v' (ys ++ [y]) := by
  have r1 := bz_grown h.rb hg (bz_typed h.rb (fun k e => h.core.bar.typed e) (by decide))
  have x1 := bz_grown h.xb hg (bz_typed h.xb (fun k e => h.core.bar.typed e) (by decide))
  have hc := h.core.addB hr0 ho hg hy
  refine ⟨⟨hc.other x1 (by decide) hr0 (Nat.le_succ _) _, ?_, x1.set 1 v'⟩, x1, hc⟩
  exact bz_grown r1 (gsc w' ⟨w0.heap.size + 1, 1, none⟩ v') (fun e => by simp at e)
theorem Gf.setW {g n cp : Nat} (h : Gf w0 w β a c bs (.slice (some ⟨g, 0, none⟩) n cp) ws vb ys) (hr0 : Rr w0 β a c bs) {i : Nat} (hi : i < ws.length) {x : Int} (hx : in64 x) : Gf w0 (w.setCell ⟨g, i, none⟩ (.int .i64 x)) β a c bs (.slice (some ⟨g, 0, none⟩) n cp) (ws.set i x) vb ys := by
  have hn : ∀ {b : Nat} {cs : Array Value}, Bz w b cs 32 → some b ≠ some g := fun hB => bz_typed hB (fun k e => by cases e; exact h.core.wid.typedG rfl) (by decide)
  exact ⟨h.core.setW hr0 hi hx, bz_grown h.rb (gsc w ⟨g, i, none⟩ _) (hn h.rb), bz_grown h.xb (gsc w ⟨g, i, none⟩ _) (hn h.xb)⟩

theorem belowJ (n : Int) (h0 : 0 ≤ n) (hn : n ≤ 4194304) (h : Rr w β a c bs) :
    Calls Try.prog 69 #[.pointer (some ⟨β, 0, none⟩), .int .i64 n] w fun e w' => ∃ x : Nat, e = .returned (.int .i64 x) ∧ (x = 0 ∨ (x : Int) < n) ∧ Rr w' β a c bs ∧ Dw β w w' := by
  obtain ⟨m, rfl⟩ : ∃ m : Nat, n = (m : Int) := ⟨n.toNat, by omega⟩
  refine Calls.mono (below_any m (by omega) β a c bs w h) ?_
  rintro e w' ⟨x, h1, h2, h3, h4⟩
  exact ⟨x, h1, by omega, h3, h4⟩
theorem Rr.slG (h : Rr w β a c bs) : w.cell? ⟨β, 0, none⟩ = some (.slice a bs.length c) := by
  obtain ⟨p, -, hk, -⟩ := h
  exact hk.cells.1

theorem OI.formP {B : Nat} {v : Value} {l : List Int} (h : OI w B v l) (hl : 0 < l.length) : ∃ g cp, v = .slice (some ⟨g, 0, none⟩) l.length cp := by
  rcases h.2 with ⟨-, h0⟩ | ⟨g, cap, cur, e, -⟩
  · omega
  · exact ⟨g, cap, e⟩
theorem Gf.start (hr : Rr w β a c bs) : Gf w ((w.alloc (.cells #[.slice none 0 0, .slice none 0 0] 32)).alloc (.cells #[.slice none 0 0, .slice none 0 0] 32)) β a c bs (.slice none 0 0) [] (.slice none 0 0) [] := by
  have g : ∀ (u : World) (o : Obj), Below u.heap.size u (u.alloc o) := fun u o => (Below.refl _ _).alloc (Nat.le_refl _) _
  have h2 := Bz.new (w.alloc (.cells #[.slice none 0 0, .slice none 0 0] 32)) #[.slice none 0 0, .slice none 0 0] 32
  rw [World.size_alloc] at h2
  refine ⟨⟨OI.nilG _ _, OB4.nil _ _, by simp, by simp, (hr.later (g _ _)).later (g _ _), (Dw.of (g _ _)).trans (Dw.of (g _ _))⟩, (Bz.new w _ _).later (g _ _), h2⟩

/-- The bars are forgotten. -/
theorem Gf.nilB (h : Gf w0 w β a c bs vw ws vb ys) (hr0 : Rr w0 β a c bs) : Gf w0 (w.setCell ⟨w0.heap.size + 1, 1, none⟩ (.slice none 0 0)) β a c bs vw ws (.slice none 0 0) [] := by
  have hc := h.core.other (i := 1) h.xb (by decide) hr0 (Nat.le_succ _) (.slice none 0 0)
  exact ⟨⟨hc.wid, OB4.nil _ _, hc.wok, by simp, hc.rr, hc.dw⟩, bz_grown h.rb (gsc w ⟨w0.heap.size + 1, 1, none⟩ _) (fun e => by simp at e), h.xb.set 1 _⟩
/-- The widths are a row of zeros of its own. -/
theorem Gf.newW (h : Gf w0 w β a c bs vw ws vb ys) (hr0 : Rr w0 β a c bs) (M : Nat) (hM : M ≤ 1048576) :
    Gf w0 ((w.alloc (.cells (madeCells #[.int .i64 0] M) 2)).setCell ⟨w0.heap.size + 1, 0, none⟩ (.slice (some ⟨w.heap.size, 0, none⟩) M M)) β a c bs (.slice (some ⟨w.heap.size, 0, none⟩) M M) (List.replicate M 0) vb ys ∧ Bz (w.alloc (.cells (madeCells #[.int .i64 0] M) 2)) (w0.heap.size + 1) #[vw, vb] 32 := by
  have hl := h.later ((Below.refl _ _).alloc (Nat.le_refl _) (.cells (madeCells #[.int .i64 0] M) 2))
  have hz := OI.zeros w w0.heap.size M (by have := h.xb.lt; omega) hM
  have k1 : Gc w0 (w.alloc (.cells (madeCells #[.int .i64 0] M) 2)) β a c bs (.slice (some ⟨w.heap.size, 0, none⟩) M M) (List.replicate M 0) vb ys := ⟨hz, hl.core.bar, fun x hx => by rw [(List.mem_replicate.1 hx).2]; unfold in64; omega, hl.core.yok, hl.core.rr, hl.core.dw⟩
  exact ⟨⟨k1.other (i := 0) hl.xb (by decide) hr0 (Nat.le_succ _) _, bz_grown hl.rb (gsc _ ⟨w0.heap.size + 1, 0, none⟩ _) (fun e => by simp at e), hl.xb.set 0 _⟩, hl.xb⟩

theorem Ktg.trans {x y z : World} (h : Ktg x y none) (k : Ktg y z none) : Ktg x z none := fun b cur t fr hh ht hn => by
  have h1 := h b cur t fr hh ht hn
  exact (k b cur t fr (h1.trans hh) ht hn).trans h1
theorem Ktg.below {x y : World} (h : Below x.heap.size x y) : Ktg x y none := fun b _ _ _ hh _ _ => h.block b (lt_of_block hh)
theorem Ktg.dw {x y : World} (hr : Rr x β a c bs) (hd : Dw β x y) : Ktg x y none := fun b cur t fr hh ht _ => hd.block b (lt_of_block hh) (fun e => by
  cases e
  obtain ⟨cur2, fr2, h2⟩ := hr.typeG
  rw [h2] at hh
  cases hh
  revert ht
  decide)
theorem Ktg.put {x : World} {g i : Nat} {cs : Array Value} {t : TypeId} (hg : Bz x g cs t) (ht : t ≠ 2 ∧ t ≠ 86 ∧ t ≠ 88) (u : Value) : Ktg x (x.setCell ⟨g, i, none⟩ u) none := fun b cur t2 fr hh ht2 _ => (gsc x ⟨g, i, none⟩ u).block b (lt_of_block hh) (fun e => by
  cases e
  have hg2 : x.heap[g]? = _ := hg
  rw [hg2] at hh
  cases hh
  rcases ht2 with rfl | rfl | rfl
  · exact ht.1 rfl
  · exact ht.2.1 rfl
  · exact ht.2.2 rfl)

/-- What a draw of a graph answers. -/
def RetGr (β : Nat) (a : Option Addr) (c : Nat) (bs : List Nat) (w : World) (e : Ending) (w' : World) : Prop := ∃ z : Gz, e = .returned z.val ∧ RdG w' z ∧ z.ks.length ≤ 201 ∧ 1 ≤ z.ks.length ∧ z.bs.length ≤ 1001 ∧ Rr w' β a c bs ∧ Dw β w w' ∧ ∀ u, Ktg w' u none → RdG u z

theorem Gf.fin {a1 a2 : Option Addr} {n1 c1 n2 c2 : Nat} (h : Gf w0 w β a c bs (.slice a1 n1 c1) ws (.slice a2 n2 c2) ys) (hr0 : Rr w0 β a c bs) (hw : ws.length ≤ 201) (hw1 : 1 ≤ ws.length) (hy : ys.length ≤ 1001) :
    RetGr β a c bs w0 (.returned (.agg #[.slice a1 n1 c1, .slice a2 n2 c2])) ((w.setCell ⟨w0.heap.size, 0, none⟩ (.slice a1 n1 c1)).setCell ⟨w0.heap.size, 1, none⟩ (.slice a2 n2 c2)) := by
  have k1 := h.core.other (g := w0.heap.size) (i := 0) h.rb (by decide) hr0 (Nat.le_refl _) (.slice a1 n1 c1)
  have k2 := k1.other (g := w0.heap.size) (i := 1) (h.rb.set 0 (.slice a1 n1 c1)) (by decide) hr0 (Nat.le_refl _) (.slice a2 n2 c2)
  have far : ∀ u, Ktg ((w.setCell ⟨w0.heap.size, 0, none⟩ (.slice a1 n1 c1)).setCell ⟨w0.heap.size, 1, none⟩ (.slice a2 n2 c2)) u none → RdG u ⟨a1, c1, ws, a2, c2, ys⟩ := fun u hk => by
    obtain ⟨q1, d1, e1, r1⟩ := (k2.wid.move fun b hb => by
      obtain ⟨cur, hh⟩ := k2.wid.typedG hb
      exact hk _ _ _ _ hh (.inl rfl) (by simp)).rd (by omega) k2.wok
    obtain ⟨q2, d2, e2, r2⟩ := (k2.bar.move fun b hb => by
      obtain ⟨cur, hh⟩ := k2.bar.typed hb
      exact hk _ _ _ _ hh (.inr (.inl rfl)) (by simp)).rd (by omega) (fun y hy => ⟨((k2.yok y hy).1.kept hk (fun _ _ => by simp)).1, (k2.yok y hy).2⟩)
    cases e1
    cases e2
    exact ⟨r1, r2⟩
  obtain ⟨q1, d1, e1, r1⟩ := k2.wid.rd (by omega) k2.wok
  obtain ⟨q2, d2, e2, r2⟩ := k2.bar.rd (by omega) (fun y hy => ⟨(k2.yok y hy).1.1, (k2.yok y hy).2⟩)
  cases e1
  cases e2
  exact ⟨⟨a1, c1, ws, a2, c2, ys⟩, rfl, ⟨r1, r2⟩, hw, hw1, hy, k2.rr, k2.dw, far⟩

end

end Go.Proofs.Ythoiajpbpoglfaa
