/- A set of bars: a row of one's own and a map of what is in it. -/
import Derived.Test.YtddgldfjeklhbaaBL
import Derived.Test.YtddgldfjeklhbaaJC
import Derived.Deep.AppendLies
namespace Go.Proofs.Ytddgldfjeklhbaa
set_option linter.unusedVariables false
set_option linter.unusedSimpArgs false
open Go.RowKit Go.WideMaps Go.Maps Go.MapKept Go.ChangeMaps

def ycDec : DecidableEq Yc := fun x y =>
  if h : x.v = y.v ∧ x.lo = y.lo ∧ x.bw = y.bw ∧ x.ws = y.ws then isTrue (by cases x; cases y; simp at h; obtain ⟨h1, h2, h3, h4⟩ := h; subst h1; subst h2; subst h3; subst h4; rfl)
  else isFalse (fun e => h (by subst e; exact ⟨rfl, rfl, rfl, rfl⟩))

def eqY (x y : Yc) : Bool := @decide (x = y) (ycDec x y)
theorem eqY_iff {x y : Yc} : eqY x y = true ↔ x = y := by unfold eqY; exact @decide_eq_true_iff _ (ycDec x y)
theorem eqY_no {x y : Yc} : eqY x y = false ↔ x ≠ y := by rw [← Bool.not_eq_true, Ne, eqY_iff]

/-- The cells of bars. -/
def ygc : List Yg → List Value
  | [] => []
  | x :: t => .int .i64 x.ct.v :: .int .i64 x.ct.lo :: .int .i64 x.ct.bw :: .slice x.a x.ct.ws.length x.c :: ygc t
theorem ygc_len (l : List Yg) : (ygc l).length = l.length * 4 := by
  induction l with
  | nil => rfl
  | cons x t ih => simp [ygc, ih]; omega
theorem ygc_append (xs ys : List Yg) : ygc (xs ++ ys) = ygc xs ++ ygc ys := by
  induction xs with
  | nil => rfl
  | cons x t ih => simp [ygc, ih]
theorem ygc_get : ∀ {l : List Yg} {i : Nat} {x : Yg}, l[i]? = some x → (ygc l)[i * 4]? = some (.int .i64 x.ct.v) ∧ (ygc l)[i * 4 + 1]? = some (.int .i64 x.ct.lo) ∧ (ygc l)[i * 4 + 2]? = some (.int .i64 x.ct.bw) ∧ (ygc l)[i * 4 + 3]? = some (.slice x.a x.ct.ws.length x.c)
  | y :: t, 0, x, h => by simp at h; subst h; simp [ygc]
  | y :: t, i + 1, x, h => by
    have := ygc_get (l := t) (i := i) (x := x) (by simpa using h)
    rw [show (i + 1) * 4 = i * 4 + 1 + 1 + 1 + 1 by omega]
    simpa [ygc] using this

/-- An owned row of bars. -/
def OB4 (w : World) (B : Nat) (v : Value) (l : List Yg) : Prop := w.ownsRow B 54 4 v l.length (ygc l)

theorem OB4.later {w w' : World} {B : Nat} {v : Value} {l : List Yg} (h : OB4 w B v l) (hb : Below w.heap.size w w') : OB4 w' B v l := World.ownsRow.kept (row := none) h ⟨hb.os, hb.tape, hb.output, hb.size, fun k hk _ => hb.block k hk⟩ (by
  cases h' : v.ownBlock with
  | none => exact .inl rfl
  | some k => exact .inr (by simp))
theorem OB4.lt {w : World} {B : Nat} {v : Value} {l : List Yg} (h : OB4 w B v l) {b : Nat} (hb : v.ownBlock = some b) : B ≤ b ∧ b < w.heap.size := by
  rcases h.2 with ⟨rfl, -⟩ | ⟨g, cap, cur, rfl, hg, hh, -⟩
  · cases hb
  · cases hb
    exact ⟨hg, lt_of_block hh⟩
theorem OB4.typed {w : World} {B : Nat} {v : Value} {l : List Yg} (h : OB4 w B v l) {b : Nat} (hb : v.ownBlock = some b) : ∃ cur, w.heap[b]? = some (.cells cur 54 (0, 0)) := by
  rcases h.2 with ⟨rfl, -⟩ | ⟨g, cap, cur, rfl, hg, hh, -⟩
  · cases hb
  · cases hb
    exact ⟨cur, hh⟩
theorem OB4.nil (w : World) (B : Nat) : OB4 w B (.slice none 0 0) [] := ⟨rfl, .inl ⟨rfl, rfl⟩⟩
theorem OB4.move {w w' : World} {B : Nat} {v : Value} {l : List Yg} (h : OB4 w B v l) (hk : ∀ b, v.ownBlock = some b → w'.heap[b]? = w.heap[b]?) : OB4 w' B v l := by
  refine ⟨h.1, ?_⟩
  rcases h.2 with h0 | ⟨g, cap, cur, rfl, hg, hh, r⟩
  · exact .inl h0
  · exact .inr ⟨g, cap, cur, rfl, hg, (hk g rfl).trans hh, r⟩

theorem OB4.form {w : World} {B : Nat} {v : Value} {l : List Yg} (h : OB4 w B v l) : ∃ a c, v = .slice a l.length c := by
  rcases h.2 with ⟨e, h0⟩ | ⟨g, cap, cur, e, -⟩
  · exact ⟨none, 0, by rw [e, h0]⟩
  · exact ⟨_, _, e⟩

/-- What can be read of it. -/
theorem OB4.rd {w : World} {B : Nat} {v : Value} {l : List Yg} (h : OB4 w B v l) (hl : l.length ≤ 1048576) (hx : ∀ x ∈ l, Rd w x.a x.ct.ws ∧ in64 x.ct.v ∧ in64 x.ct.lo ∧ in64 x.ct.bw) : ∃ a c, v = .slice a l.length c ∧ RdBr w a l := by
  rcases h.2 with ⟨rfl, h0⟩ | ⟨g, cap, cur, rfl, hg, hh, hc1, hc2, hsz, hcur⟩
  · have e := List.eq_nil_of_length_eq_zero h0
    subst e
    exact ⟨none, 0, rfl, by simp, .inl rfl⟩
  · refine ⟨some ⟨g, 0, none⟩, cap, rfl, hl, .inr ⟨g, 0, rfl, fun i x hi => ?_⟩⟩
    obtain ⟨e0, e1, e2, e3⟩ := ygc_get hi
    have hil := (List.getElem?_eq_some_iff.1 hi).1
    rw [← hcur] at e0 e1 e2 e3
    rw [List.getElem?_take, if_pos (by omega)] at e0 e1 e2 e3
    simp only [Array.getElem?_toList] at e0 e1 e2 e3
    exact ⟨⟨by rw [Nat.zero_add, cell_of_row w g _ cur _ _ hh]; exact e0, by rw [Nat.zero_add, cell_of_row w g _ cur _ _ hh]; exact e1, by rw [Nat.zero_add, cell_of_row w g _ cur _ _ hh]; exact e2, by rw [Nat.zero_add, cell_of_row w g _ cur _ _ hh]; exact e3⟩, hx x (List.mem_of_getElem? hi)⟩

theorem wpList_appB4 {w : World} {ops : Array Oper} {rest : List Oper} {o : Oper} {a : Act} {Q : Exit → Act → World → Prop} (hgd : o.guard = none) (s x : Operand)
    (ho : o.op = .call { callee := .builtin .append, args := #[s, x], argTypes := #[24, 24] })
    (B : Nat) (v : Value) (l : List Yg) (y : Yg) (hs : a.eval s = v) (hown : OB4 w B v l) (gx : Nat) (hx : a.eval x = .slice (some ⟨gx, 0, none⟩) 1 1)
    (h0 : w.cell? ⟨gx, 0, none⟩ = some (.int .i64 y.ct.v)) (h1 : w.cell? ⟨gx, 1, none⟩ = some (.int .i64 y.ct.lo)) (h2 : w.cell? ⟨gx, 2, none⟩ = some (.int .i64 y.ct.bw)) (h3 : w.cell? ⟨gx, 3, none⟩ = some (.slice y.a y.ct.ws.length y.c)) (hl : l.length ≤ 1073741824) (hB : B ≤ w.heap.size)
    (h : ∀ v' w', OB4 w' B v' (l ++ [y]) → w.grownBy w' v.ownBlock → wpList Try.prog ops Q rest (a.put o.dst v') w') : wpList Try.prog ops Q (o :: rest) a w := by
  obtain ⟨i0, hi, hz0, hz1, hz2⟩ := info_parts Try.infoBar
  refine wpList_append_own_at w hgd s x 24 ho B 54 i0 _ 4 48 Try.underlying24 hi hz0 hz1 hz2 rfl (by decide) v l.length (ygc l) hs hown ⟨gx, 0, none⟩ 1 1 (ygc [y]) hx rfl ?_ ?_ (by unfold maxLen; omega) (by omega) hB ?_
  · intro j u hj
    rw [Addr.add_lit]
    match j, hj with
    | 0, hj => simp [ygc] at hj; subst hj; exact h0
    | 1, hj => simp [ygc] at hj; subst hj; exact h1
    | 2, hj => simp [ygc] at hj; subst hj; exact h2
    | 3, hj => simp [ygc] at hj; subst hj; exact h3
    | j + 4, hj => simp [ygc] at hj
  · intro u hu
    simp [ygc] at hu
    rcases hu with rfl | rfl | rfl | rfl <;> rfl
  · intro v' w' h1 h2 _ _
    refine h v' w' ?_ h2
    unfold OB4
    rw [ygc_append, List.length_append]
    exact h1

/-- A bar that a key can be made of. -/
def okY (s : Yc) : Prop := in64 s.v ∧ in64 s.lo ∧ in64 s.bw ∧ (∀ x ∈ s.ws, x < 18446744073709551616) ∧ s.ws.length ≤ 1048576

def kvB (s : Yc) : Value := .agg #[.int .i64 s.v, .int .i64 s.lo, .int .i64 s.bw, .string (keyS s.ws)]

theorem keyS_inj {xs ys : List Nat} (hx : ∀ x ∈ xs, x < 18446744073709551616) (hy : ∀ x ∈ ys, x < 18446744073709551616) (h : keyS xs = keyS ys) : xs = ys := by
  refine keyB_eq hx hy ?_
  unfold keyS at h
  injection h with h
  have h2 : (keyB xs xs.length).map UInt8.ofNat = (keyB ys ys.length).map UInt8.ofNat := by simpa using h
  have h3 : ∀ (zs : List Nat) (j : Nat), ((keyB zs j).map UInt8.ofNat).map UInt8.toNat = keyB zs j := fun zs j => by
    rw [List.map_map]
    conv => rhs; rw [← List.map_id (keyB zs j)]
    refine List.map_congr_left fun b hb => ?_
    have := keyB_lt zs j b hb
    simp [UInt8.toNat_ofNat']
    omega
  rw [← h3 xs, ← h3 ys, h2]

theorem keyS_size (xs : List Nat) : (keyS xs).size = 8 * xs.length := by
  show (keyS xs).data.size = _
  simp [keyS, keyB_len]

theorem keyOf_ok {s : Yc} (h : okY s) : ∃ l, keyOf Try.prog 82 (kvB s) = some l :=
  keyOf_bar _ _ _ _ (WalkArith.wf_i64 h.1) (WalkArith.wf_i64 h.2.1) (WalkArith.wf_i64 h.2.2.1) (by rw [keyS_size]; have := h.2.2.2.2; unfold maxLen; omega)

theorem kvB_inj {s t : Yc} (hs : okY s) (ht : okY t) {l : Lit} (h : keyOf Try.prog 82 (kvB s) = some l) (h' : keyOf Try.prog 82 (kvB t) = some l) : s = t := by
  obtain ⟨e1, e2, e3, e4⟩ := keyOf_bar_inj h h'
  have e5 := keyS_inj hs.2.2.2.1 ht.2.2.2.1 e4
  cases s; cases t
  simp only at e1 e2 e3 e5
  subst e1; subst e2; subst e3; subst e5
  rfl

/-- What a map tells of the bars l. -/
structure Sk (D : DataW Unit) (l : List Yc) : Prop where
  tidy : Maps.Tidy D
  ok : ∀ s ∈ l, okY s
  has : ∀ s kl, okY s → keyOf Try.prog 82 (kvB s) = some kl → (Maps.has D kl = true ↔ s ∈ l)

theorem Sk.start : Sk (.map [] : DataW Unit) [] where
  tidy := Maps.tidy_empty
  ok := by simp
  has := fun s kl _ _ => by simp [Maps.has_eq]

theorem Sk.step {D : DataW Unit} {l : List Yc} (h : Sk D l) {s : Yc} {kl : Lit} (hs : okY s) (hk : keyOf Try.prog 82 (kvB s) = some kl) : Sk (D.put kl (.agg [])) (l ++ [s]) where
  tidy := h.tidy.put (barKeyed.key hk) _
  ok := fun t ht => by
    rcases List.mem_append.1 ht with ht | ht
    · exact h.ok t ht
    · simp at ht; subst ht; exact hs
  has := fun t kt ht hkt => by
    by_cases e : t = s
    · subst e
      have : kt = kl := Option.some.inj (hkt.symm.trans hk)
      subst this
      rw [Maps.has_put_same h.tidy.isMap (barKeyed.key hk)]; simp
    · have hne : kt ≠ kl := fun e' => e (by subst e'; exact kvB_inj ht hs hkt hk)
      rw [Maps.has_put_other hne, h.has t kt ht hkt]; simp [e]

/-- A set of bars in the block s: all of it lies from the block B on. -/
structure Bst (w : World) (B s g : Nat) (v : Value) (D : DataW Unit) (l : List Yg) : Prop where
  own : OB4 w B v l
  box : w.heap[s]? = some (.cells #[v, .map (some g)] 62 (0, 0))
  mp : w.ownsMap Try.prog 82 unitElem g l.length D
  sk : Sk D (l.map Yg.ct)
  le : B ≤ s ∧ B ≤ g

def Bset (w : World) (B s : Nat) (l : List Yg) : Prop := ∃ g v D, Bst w B s g v D l

/-- With a bar more, where it is not there. -/
def putG (l : List Yg) (x : Yg) : List Yg :=
  haveI : DecidableEq Yc := ycDec
  if x.ct ∈ l.map Yg.ct then l else l ++ [x]

/-- Nothing but rows of bars, sets of them and maps has changed. -/
structure Ksb (w w' : World) : Prop where
  size : w.heap.size ≤ w'.heap.size
  stay : ∀ (k : Nat) (cs : Array Value) (t : TypeId) (fz : Nat × Nat), w.heap[k]? = some (Obj.cells cs t fz) → t ≠ 54 → t ≠ 62 → w'.heap[k]? = w.heap[k]?

theorem Ksb.refl (w : World) : Ksb w w := ⟨Nat.le_refl _, fun _ _ _ _ _ _ _ => rfl⟩
theorem Ksb.trans {a b c : World} (h : Ksb a b) (h' : Ksb b c) : Ksb a c := ⟨Nat.le_trans h.size h'.size, fun k cs t fz e h1 h2 => (h'.stay k cs t fz ((h.stay k cs t fz e h1 h2).trans e) h1 h2).trans (h.stay k cs t fz e h1 h2)⟩
theorem Ksb.of {w w' : World} (hb : Below w.heap.size w w') : Ksb w w' := ⟨hb.size, fun k _ _ _ e _ _ => hb.block k (lt_of_block e)⟩

/-- A block as it lies. -/
def Bz (u : World) (b : Nat) (cs : Array Value) (t : TypeId) : Prop := u.heap[b]? = some (.cells cs t (0, 0))
theorem Bz.lt {u : World} {b : Nat} {cs : Array Value} {t : TypeId} (h : Bz u b cs t) : b < u.heap.size := lt_of_block h
theorem Bz.new (u : World) (cs : Array Value) (t : TypeId) : Bz (u.alloc (.cells cs t)) u.heap.size cs t := heap_alloc_new _ _
theorem Bz.set {u : World} {b : Nat} {cs : Array Value} {t : TypeId} (h : Bz u b cs t) (o : Nat) (x : Value) : Bz (u.setCell ⟨b, o, none⟩ x) b (cs.setIfInBounds o x) t := heap_setCell_same u b o _ _ x h
theorem Bz.other {u : World} {b c : Nat} {cs : Array Value} {t : TypeId} (h : Bz u b cs t) (hn : b ≠ c) (o : Nat) (x : Value) : Bz (u.setCell ⟨c, o, none⟩ x) b cs t := by
  unfold Bz; rw [heap_setCell_other _ _ _ _ (by simpa using hn)]; exact h
theorem Bz.cell {u : World} {b : Nat} {cs : Array Value} {t : TypeId} (h : Bz u b cs t) (o : Nat) : u.cell? ⟨b, o, none⟩ = cs[o]? := cell_of_row u b o _ _ _ h
theorem Bz.froz {u : World} {b : Nat} {cs : Array Value} {t : TypeId} (h : Bz u b cs t) (o : Nat) : u.frozen? ⟨b, o, none⟩ = false := frozen_of_row u b o _ _ h
theorem Bz.later {u u' : World} {b : Nat} {cs : Array Value} {t : TypeId} (h : Bz u b cs t) (hb : Below u.heap.size u u') : Bz u' b cs t := by
  unfold Bz; rw [hb.block _ h.lt]; exact h
theorem Bz.ksb {u u' : World} {b : Nat} {cs : Array Value} {t : TypeId} (h : Bz u b cs t) (hb : Ksb u u') (h1 : t ≠ 54) (h2 : t ≠ 62) : Bz u' b cs t := (hb.stay b cs t (0, 0) h h1 h2).trans h

theorem share2 {F P : World → Nat → Prop} {G : Prop} (main : (∀ v b, F v b → P v b) → G) (key : ∀ v b, F v b → P v b) : G := main key

theorem Ksb.turned {w w' : World} {b : Nat} (h : w.mapTurned w' b) : Ksb w w' := by
  obtain ⟨es, clock, es', clock', hb, rfl⟩ := h
  refine ⟨by simp [setBlock], fun k cs t fz e _ _ => heap_setBlock_other hb _ (fun e' => ?_)⟩
  subst e'
  rw [hb] at e
  cases e
theorem Ksb.grown {w w' : World} {r : Option Nat} (h : w.grownBy w' r) (hr : ∀ b, r = some b → ∃ cur, w.heap[b]? = some (.cells cur 54 (0, 0))) : Ksb w w' := by
  refine ⟨h.size, fun k cs t fz e h1 _ => h.block k (lt_of_block e) (fun e' => ?_)⟩
  obtain ⟨cur, hc⟩ := hr k e'.symm
  rw [e] at hc
  cases hc
  exact h1 rfl
theorem Ksb.set {w : World} {b : Nat} {cs : Array Value} (h : Bz w b cs 62) (o : Nat) (v : Value) : Ksb w (w.setCell ⟨b, o, none⟩ v) := by
  refine ⟨by simp, fun k cs' t fz e _ h2 => heap_setCell_other _ _ _ _ (fun e' => ?_)⟩
  simp at e'
  subst e'
  unfold Bz at h
  rw [h] at e
  cases e
  exact h2 rfl

theorem own_below {P : Program} {k : TypeId} {R : Value → Option (DataW Unit × List MemPlace)} {w w' : World} {b n : Nat} {D : DataW Unit} (h : w.ownsMap P k R b n D) (hk : b < w.heap.size → w'.heap[b]? = w.heap[b]?) : w'.ownsMap P k R b n D := by
  obtain ⟨es, clock, hb, r⟩ := h
  exact ⟨es, clock, (hk (lt_of_block hb)).trans hb, r⟩
theorem own_isMap {P : Program} {k : TypeId} {R : Value → Option (DataW Unit × List MemPlace)} {w : World} {b n : Nat} {D : DataW Unit} (h : w.ownsMap P k R b n D) : ∃ es clock, w.heap[b]? = some (.map es clock) := by
  obtain ⟨es, clock, hb, r⟩ := h
  exact ⟨es, clock, hb⟩

theorem Try.zeroUnit (w : World) : (zeroValue 83).run Try.prog w = .ok (.agg #[]) w := by kernel_rfl
theorem look_bar {u : World} {g n : Nat} {D : DataW Unit} {key : Value} {kl : Lit} (h : u.ownsMap Try.prog 82 unitElem g n D) (hk : keyOf Try.prog 82 key = some kl) :
    (Instr.lookup 60 (.map (some g)) key true).run Try.prog u = .ok (.tuple #[.agg #[], .bool (Maps.has D kl)]) u := by
  obtain ⟨v, ps, hr, hv⟩ := h.look_ok barKeyed Try.underlying60 (Try.zeroUnit u) unitElem_mk hk
  obtain ⟨rfl, -⟩ := unitElem_inv hv
  exact hr

theorem step_appB4 (w : World) {ops : Array Oper} {o : Oper} {a : Act} {K : Act → World → Prop} {Q : Exit → Act → World → Prop} {E : Prop} (hgd : o.guard = none) (s x : Operand)
    (ho : o.op = .call { callee := .builtin .append, args := #[s, x], argTypes := #[24, 24] })
    (B : Nat) (v : Value) (l : List Yg) (y : Yg) (hs : a.eval s = v) (hown : OB4 w B v l) (gx c : Nat) (hx : a.eval x = .slice (some ⟨gx, 0, none⟩) 1 c)
    (h0 : w.cell? ⟨gx, 0, none⟩ = some (.int .i64 y.ct.v)) (h1 : w.cell? ⟨gx, 1, none⟩ = some (.int .i64 y.ct.lo)) (h2 : w.cell? ⟨gx, 2, none⟩ = some (.int .i64 y.ct.bw)) (h3 : w.cell? ⟨gx, 3, none⟩ = some (.slice y.a y.ct.ws.length y.c)) (hl : l.length ≤ 1073741824) (hB : B ≤ w.heap.size)
    (h : ∀ g cap w', OB4 w' B (.slice (some ⟨g, 0, none⟩) (l.length + 1) cap) (l ++ [y]) → w.grownBy w' v.ownBlock → K (a.put o.dst (.slice (some ⟨g, 0, none⟩) (l.length + 1) cap)) w') :
    if Region.wanted o (yielded ops a.tmps) = true then Oper.wp Try.prog o a w K Q else E := by
  obtain ⟨i0, hi, hz0, hz1, hz2⟩ := info_parts Try.infoBar
  refine step_append_lies w hgd s x 24 ho B 54 i0 _ 4 48 Try.underlying24 hi hz0 hz1 hz2 rfl (by decide) v l.length (ygc l) hs hown ⟨gx, 0, none⟩ 1 c (ygc [y]) hx rfl ?_ ?_ (by decide) ?_ ?_ hB _ rfl ?_
  · intro j u hj
    rw [Addr.add_lit]
    match j, hj with
    | 0, hj => simp [ygc] at hj; subst hj; exact h0
    | 1, hj => simp [ygc] at hj; subst hj; exact h1
    | 2, hj => simp [ygc] at hj; subst hj; exact h2
    | 3, hj => simp [ygc] at hj; subst hj; exact h3
    | j + 4, hj => simp [ygc] at hj
  · intro u hu
    simp [ygc] at hu
    rcases hu with rfl | rfl | rfl | rfl <;> rfl
  · unfold maxLen; omega
  · omega
  · intro g cap w' h1 h2 _ _
    refine h g cap w' ?_ h2
    unfold OB4
    rw [ygc_append, List.length_append]
    exact h1

theorem step_mapB (w : World) {ops : Array Oper} {o : Oper} {a : Act} {K : Act → World → Prop} {Q : Exit → Act → World → Prop} {E : Prop} (hgd : o.guard = none) (m x v : Operand) (hop : o.op = Op.mapUpdate 60 m x v)
    (g n : Nat) (D : DataW Unit) (hm : a.eval m = .map (some g)) (hown : w.ownsMap Try.prog 82 unitElem g n D) (hn : n < maxLen) (key : Value) (kl : Lit) (hx : a.eval x = key) (hv : a.eval v = .agg #[]) (hkey : keyOf Try.prog 82 key = some kl)
    (h : ∀ w', w'.ownsMap Try.prog 82 unitElem g (n + 1) (D.put kl (.agg [])) → w.mapTurned w' g → K (a.put o.dst undef) w') :
    if Region.wanted o (yielded ops a.tmps) = true then Oper.wp Try.prog o a w K Q else E := by
  have hw : Region.wanted o (yielded ops a.tmps) = true := by simp [Region.wanted, hgd]
  rw [if_pos hw]
  obtain ⟨w', hrun, r1, r2⟩ := hown.store barKeyed Try.underlying60 hn hkey unitElem_mk
  unfold Oper.wp
  simp [execOp, hop, hm, hx, hv, hrun, Result.andThen]
  exact h w' r1 r2

theorem OB4.at {w : World} {B : Nat} {v : Value} {l : List Yg} (h : OB4 w B v l) {i : Nat} {x : Yg} (hi : l[i]? = some x) : ∃ g c, v = .slice (some ⟨g, 0, none⟩) l.length c ∧ w.cell? ⟨g, i * 4, none⟩ = some (.int .i64 x.ct.v) ∧ w.cell? ⟨g, i * 4 + 1, none⟩ = some (.int .i64 x.ct.lo) ∧ w.cell? ⟨g, i * 4 + 2, none⟩ = some (.int .i64 x.ct.bw) ∧ w.cell? ⟨g, i * 4 + 3, none⟩ = some (.slice x.a x.ct.ws.length x.c) := by
  have hil := (List.getElem?_eq_some_iff.1 hi).1
  rcases h.2 with ⟨rfl, h0⟩ | ⟨g, cap, cur, rfl, hg, hh, hc1, hc2, hsz, hcur⟩
  · omega
  · obtain ⟨e0, e1, e2, e3⟩ := ygc_get hi
    rw [← hcur] at e0 e1 e2 e3
    rw [List.getElem?_take, if_pos (by omega)] at e0 e1 e2 e3
    simp only [Array.getElem?_toList] at e0 e1 e2 e3
    exact ⟨g, cap, rfl, by rw [cell_of_row w g _ cur _ _ hh]; exact e0, by rw [cell_of_row w g _ cur _ _ hh]; exact e1, by rw [cell_of_row w g _ cur _ _ hh]; exact e2, by rw [cell_of_row w g _ cur _ _ hh]; exact e3⟩

end Go.Proofs.Ytddgldfjeklhbaa
