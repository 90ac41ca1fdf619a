/- Rows of nodes of one's own: told, read, appended to; kids in new memory. -/
import Derived.Test.YtheglnkndjheaaaGreatDoorZRX
import Derived.Test.YtheglnkndjheaaaGreatDoorZQA
import Derived.Test.YtheglnkndjheaaaGreatDoorZA
import Derived.Deep.AppendLies
namespace Go.Proofs.YtheglnkndjheaaaGreatDoor
set_option linter.unusedVariables false
set_option linter.unusedSimpArgs false
open Go.RowKit

/-- Kids in new memory: a block of numbers whose first ones they are. -/
def Ni (w : World) (lo : Nat) (a : Option Addr) (xs : List Int) : Prop :=
  (xs = [] ∧ ∀ x, a = some x → lo ≤ x.block ∧ x.off = 0 ∧ ∃ cur, w.heap[x.block]? = some (.cells cur 2 (0, 0))) ∨ ∃ g cur, a = some ⟨g, 0, none⟩ ∧ lo ≤ g ∧ w.heap[g]? = some (.cells cur 2 (0, 0)) ∧ ∀ i, i < xs.length → cur[i]? = some (.int .i64 (xs.getD i 0))

theorem Ni.rd {w : World} {lo : Nat} {a : Option Addr} {xs : List Int} (h : Ni w lo a xs) (hl : xs.length ≤ 1048576) (hx : ∀ x ∈ xs, in64 x) : RdI w a xs := by
  refine ⟨hl, hx, ?_⟩
  rcases h with ⟨h1, -⟩ | ⟨g, cur, h1, -, h3, h4⟩
  · exact .inl h1
  · refine .inr ⟨g, 0, h1, fun i hi => ?_⟩
    rw [Nat.zero_add, cell_of_row w g i cur _ _ h3]
    exact h4 i hi

theorem Ni.mono {w : World} {lo lo' : Nat} {a : Option Addr} {xs : List Int} (h : Ni w lo a xs) (hl : lo' ≤ lo) : Ni w lo' a xs := by
  rcases h with ⟨h1, h2⟩ | ⟨g, cur, h1, h2, h3, h4⟩
  · exact .inl ⟨h1, fun x e => ⟨Nat.le_trans hl (h2 x e).1, (h2 x e).2⟩⟩
  · exact .inr ⟨g, cur, h1, Nat.le_trans hl h2, h3, h4⟩

theorem Ni.kept {w w' : World} {lo : Nat} {a : Option Addr} {xs : List Int} (h : Ni w lo a xs) (hk : ∀ (k : Nat) (cur : Array Value), w.heap[k]? = some (Obj.cells cur 2 (0, 0)) → w'.heap[k]? = w.heap[k]?) : Ni w' lo a xs := by
  rcases h with ⟨h1, h2⟩ | ⟨g, cur, h1, h2, h3, h4⟩
  · refine .inl ⟨h1, fun x e => ?_⟩
    obtain ⟨a, b, cur, c⟩ := h2 x e
    exact ⟨a, b, cur, by rw [hk _ _ c]; exact c⟩
  · exact .inr ⟨g, cur, h1, h2, by rw [hk _ _ h3]; exact h3, h4⟩

theorem Ni.later {w w' : World} {lo : Nat} {a : Option Addr} {xs : List Int} (h : Ni w lo a xs) (hb : Below w.heap.size w w') : Ni w' lo a xs := Ni.kept h fun k cur hc => hb.block k (lt_of_block hc)

theorem ni_lt {w : World} {lo : Nat} {a : Option Addr} {xs : List Int} (h : Ni w lo a xs) {p : Addr} (hp : a = some p) : lo ≤ p.block ∧ p.block < w.heap.size := by
  rcases h with ⟨h1, h2⟩ | ⟨g, cur, h1, h2, h3, h4⟩
  · obtain ⟨k1, -, cur, k2⟩ := h2 p hp
    exact ⟨k1, lt_of_block k2⟩
  · rw [h1] at hp
    cases hp
    exact ⟨h2, lt_of_block h3⟩
theorem OI.ni {w : World} {B : Nat} {v : Value} {xs : List Int} (h : OI w B v xs) : ∃ a c, v = .slice a xs.length c ∧ Ni w B a xs := by
  obtain ⟨h1, ⟨rfl, h2⟩ | ⟨g, cap, cur, rfl, hg, hh, hc1, hc2, hsz, hcur⟩⟩ := h
  · have e := List.eq_nil_of_length_eq_zero h2
    subst e
    exact ⟨none, 0, rfl, .inl ⟨rfl, fun x e => by cases e⟩⟩
  · refine ⟨some ⟨g, 0, none⟩, cap, rfl, .inr ⟨g, cur, rfl, hg, hh, fun i hi => ?_⟩⟩
    have h3 : (cur.toList.take (xs.length * 1))[i]? = (i64s xs).toList[i]? := by rw [hcur]
    rw [List.getElem?_take, if_pos (by omega)] at h3
    simp only [Array.getElem?_toList] at h3
    rw [h3, i64s_get _ _ hi]

def tgv (x : Tg) : List Value := [.int .i64 x.ct.op, .int .i64 x.ct.vr, .int .i64 x.ct.a, .int .i64 x.ct.b, .int .i64 x.ct.bw, .slice x.wa x.ct.ws.length x.wc, .slice x.ka x.ct.ks.length x.kc]
def tgc : List Tg → List Value
  | [] => []
  | x :: t => tgv x ++ tgc t
theorem tgc_len (l : List Tg) : (tgc l).length = l.length * 7 := by
  induction l with
  | nil => rfl
  | cons x t ih => simp [tgc, tgv, ih]; omega
theorem tgc_append (l m : List Tg) : tgc (l ++ m) = tgc l ++ tgc m := by
  induction l with
  | nil => rfl
  | cons x t ih => simp [tgc, ih]
theorem tgc_get : ∀ {l : List Tg} {i : Nat} {x : Tg} (j : Nat), j < 7 → l[i]? = some x → (tgc l)[i * 7 + j]? = (tgv x)[j]?
  | y :: t, 0, x, j, hj, h => by
    simp at h; subst h
    rw [Nat.zero_mul, Nat.zero_add, tgc, List.getElem?_append_left (by simpa [tgv] using hj)]
  | y :: t, i + 1, x, j, hj, h => by
    have := tgc_get (l := t) (i := i) (x := x) j hj (by simpa using h)
    rw [tgc, List.getElem?_append_right (by simp [tgv]; omega)]
    simp only [tgv, List.length_cons, List.length_nil]
    rw [show (i + 1) * 7 + j - (0 + 1 + 1 + 1 + 1 + 1 + 1 + 1) = i * 7 + j by omega]
    exact this

/-- An owned row of nodes. -/
def OT (w : World) (B : Nat) (v : Value) (l : List Tg) : Prop := w.ownsRow B 104 7 v l.length (tgc l)

theorem OT.later {w w' : World} {B : Nat} {v : Value} {l : List Tg} (h : OT w B v l) (hb : Below w.heap.size w w') : OT w' B v l := World.ownsRow.kept (row := none) h ⟨hb.os, hb.tape, hb.output, hb.size, fun k hk _ => hb.block k hk⟩ (by
  cases h' : v.ownBlock with
  | none => exact .inl rfl
  | some k => exact .inr (by simp))
theorem OT.lt {w : World} {B : Nat} {v : Value} {l : List Tg} (h : OT w B v l) {b : Nat} (hb : v.ownBlock = some b) : B ≤ b ∧ b < w.heap.size := by
  rcases h.2 with ⟨rfl, -⟩ | ⟨g, cap, cur, rfl, hg, hh, -⟩
  · cases hb
  · cases hb
    exact ⟨hg, lt_of_block hh⟩
theorem OT.typed {w : World} {B : Nat} {v : Value} {l : List Tg} (h : OT w B v l) {b : Nat} (hb : v.ownBlock = some b) : ∃ cur, w.heap[b]? = some (.cells cur 104 (0, 0)) := by
  rcases h.2 with ⟨rfl, -⟩ | ⟨g, cap, cur, rfl, hg, hh, -⟩
  · cases hb
  · cases hb
    exact ⟨cur, hh⟩
theorem OT.nil (w : World) (B : Nat) : OT w B (.slice none 0 0) [] := ⟨rfl, .inl ⟨rfl, rfl⟩⟩
theorem OT.move {w w' : World} {B : Nat} {v : Value} {l : List Tg} (h : OT w B v l) (hk : ∀ b, v.ownBlock = some b → w'.heap[b]? = w.heap[b]?) : OT w' B v l := by
  refine ⟨h.1, ?_⟩
  rcases h.2 with h0 | ⟨g, cap, cur, rfl, hg, hh, r⟩
  · exact .inl h0
  · exact .inr ⟨g, cap, cur, rfl, hg, (hk g rfl).trans hh, r⟩

theorem OT.form {w : World} {B : Nat} {v : Value} {l : List Tg} (h : OT w B v l) : ∃ a c, v = .slice a l.length c := by
  rcases h.2 with ⟨e, h0⟩ | ⟨g, cap, cur, e, -⟩
  · exact ⟨none, 0, by rw [e, h0]⟩
  · exact ⟨_, _, e⟩

theorem OT.empty (w : World) (B : Nat) (h : B ≤ w.heap.size) : OT (w.alloc (.cells #[] 104)) B (.slice (some ⟨w.heap.size, 0, Option.none⟩) 0 0) [] := World.ownsRow_made w #[] 0 h (Nat.zero_le _) (by simp)

theorem OT.at {w : World} {B : Nat} {v : Value} {l : List Tg} (h : OT w B v l) {i : Nat} {x : Tg} (hi : l[i]? = some x) : ∃ g c, v = .slice (some ⟨g, 0, none⟩) l.length c ∧ ThAt w g (i * 7) x.hd := by
  have hil := (List.getElem?_eq_some_iff.1 hi).1
  rcases h.2 with ⟨-, h0⟩ | ⟨g, cap, cur, rfl, hg, hh, hc1, hc2, hsz, hcur⟩
  · omega
  · refine ⟨g, cap, rfl, ?_⟩
    have key : ∀ j u, j < 7 → (tgv x)[j]? = some u → w.cell? ⟨g, i * 7 + j, none⟩ = some u := fun j u hj hu => by
      have e := tgc_get j hj hi
      rw [hu, ← hcur, List.getElem?_take, if_pos (by omega)] at e
      simp only [Array.getElem?_toList] at e
      rw [cell_of_row w g _ cur _ _ hh]
      exact e
    exact ⟨key 0 _ (by omega) rfl, key 1 _ (by omega) rfl, key 2 _ (by omega) rfl, key 3 _ (by omega) rfl, key 4 _ (by omega) rfl, key 5 _ (by omega) rfl, key 6 _ (by omega) rfl⟩

/-- What may stand in a node. -/
def okT (x : Tc) : Prop := in64 x.op ∧ in64 x.vr ∧ in64 x.a ∧ in64 x.b ∧ in64 x.bw ∧ x.ws.length ≤ 1048576 ∧ (∀ y ∈ x.ws, y < 18446744073709551616) ∧ x.ks.length ≤ 1048576 ∧ ∀ y ∈ x.ks, in64 y

theorem step_appT7 (w : World) {ops : Array Oper} {o : Oper} {a : Act} {K : Act → World → Prop} {Q : Exit → Act → World → Prop} {E : Prop} (hgd : o.guard = none) (s x : Operand)
    (ho : o.op = .call { callee := .builtin .append, args := #[s, x], argTypes := #[58, 58] })
    (B : Nat) (v : Value) (l : List Tg) (y : Tg) (hs : a.eval s = v) (hown : OT w B v l) (gx c : Nat) (hx : a.eval x = .slice (some ⟨gx, 0, none⟩) 1 c)
    (h0 : ThAt w gx 0 y.hd) (hl : l.length ≤ 1048576) (hB : B ≤ w.heap.size)
    (h : ∀ g cap w', OT w' B (.slice (some ⟨g, 0, none⟩) (l.length + 1) cap) (l ++ [y]) → w.grownBy w' v.ownBlock → (v.ownBlock = some g ∨ g = w.heap.size) → K (a.put o.dst (.slice (some ⟨g, 0, none⟩) (l.length + 1) cap)) w') :
    if Region.wanted o (yielded ops a.tmps) = true then Oper.wp Tryz.prog o a w K Q else E := by
  obtain ⟨i0, hi, hz0, hz1, hz2⟩ := info_parts Tryz.infoTNode
  refine step_append_lies w hgd s x 58 ho B 104 i0 _ 7 88 Tryz.underlying58 hi hz0 hz1 hz2 rfl (by decide) v l.length (tgc l) hs hown ⟨gx, 0, none⟩ 1 c (tgv y) hx rfl ?_ ?_ (by decide) ?_ ?_ hB _ rfl ?_
  · intro j u hj
    rw [Addr.add_lit]
    obtain ⟨f0, f1, f2, f3, f4, f5, f6⟩ := h0
    match j, hj with
    | 0, hj => simp [tgv] at hj; subst hj; exact f0
    | 1, hj => simp [tgv] at hj; subst hj; exact f1
    | 2, hj => simp [tgv] at hj; subst hj; exact f2
    | 3, hj => simp [tgv] at hj; subst hj; exact f3
    | 4, hj => simp [tgv] at hj; subst hj; exact f4
    | 5, hj => simp [tgv] at hj; subst hj; exact f5
    | 6, hj => simp [tgv] at hj; subst hj; exact f6
    | j + 7, hj => simp [tgv] at hj
  · intro u hu
    simp [tgv] at hu
    rcases hu with rfl | rfl | rfl | rfl | rfl | rfl | rfl <;> rfl
  · unfold maxLen; omega
  · omega
  · intro g cap w' h1 h2 h3 _
    refine h g cap w' ?_ h2 h3
    unfold OT
    rw [tgc_append, List.length_append]
    simpa [tgc] using h1

theorem wpList_appT7 {w : World} {ops : Array Oper} {rest : List Oper} {o : Oper} {a : Act} {Q : Exit → Act → World → Prop} (hgd : o.guard = none) (s x : Operand)
    (ho : o.op = .call { callee := .builtin .append, args := #[s, x], argTypes := #[58, 58] })
    (B : Nat) (v : Value) (l : List Tg) (y : Tg) (hs : a.eval s = v) (hown : OT w B v l) (gx c : Nat) (hx : a.eval x = .slice (some ⟨gx, 0, none⟩) 1 c)
    (h0 : ThAt w gx 0 y.hd) (hl : l.length ≤ 1048576) (hB : B ≤ w.heap.size)
    (h : ∀ g cap w', OT w' B (.slice (some ⟨g, 0, none⟩) (l.length + 1) cap) (l ++ [y]) → w.grownBy w' v.ownBlock → (v.ownBlock = some g ∨ g = w.heap.size) → wpList Tryz.prog ops Q rest (a.put o.dst (.slice (some ⟨g, 0, none⟩) (l.length + 1) cap)) w') : wpList Tryz.prog ops Q (o :: rest) a w := by
  obtain ⟨i0, hi, hz0, hz1, hz2⟩ := info_parts Tryz.infoTNode
  refine wpList_append_lies w hgd s x 58 ho B 104 i0 _ 7 88 Tryz.underlying58 hi hz0 hz1 hz2 rfl (by decide) v l.length (tgc l) hs hown ⟨gx, 0, none⟩ 1 c (tgv y) hx rfl ?_ ?_ (by decide) ?_ ?_ hB _ rfl ?_
  · intro j u hj
    rw [Addr.add_lit]
    obtain ⟨f0, f1, f2, f3, f4, f5, f6⟩ := h0
    match j, hj with
    | 0, hj => simp [tgv] at hj; subst hj; exact f0
    | 1, hj => simp [tgv] at hj; subst hj; exact f1
    | 2, hj => simp [tgv] at hj; subst hj; exact f2
    | 3, hj => simp [tgv] at hj; subst hj; exact f3
    | 4, hj => simp [tgv] at hj; subst hj; exact f4
    | 5, hj => simp [tgv] at hj; subst hj; exact f5
    | 6, hj => simp [tgv] at hj; subst hj; exact f6
    | j + 7, hj => simp [tgv] at hj
  · intro u hu
    simp [tgv] at hu
    rcases hu with rfl | rfl | rfl | rfl | rfl | rfl | rfl <;> rfl
  · unfold maxLen; omega
  · omega
  · intro g cap w' h1 h2 h3 _
    refine h g cap w' ?_ h2 h3
    unfold OT
    rw [tgc_append, List.length_append]
    simpa [tgc] using h1

/-- No two have a block of words, or of kids, in common. -/
def DjN (f : Tg → Option Addr) (l : List Tg) : Prop := ∀ (i j : Nat) (x y : Tg), i < j → l[i]? = some x → l[j]? = some y → ∀ p q, f x = some p → f y = some q → p.block ≠ q.block
theorem DjN.nil (f : Tg → Option Addr) : DjN f [] := fun i j x y _ h => by simp at h
theorem DjN.snoc {f : Tg → Option Addr} {N : Nat} {l : List Tg} {x : Tg} (h : DjN f l) (hl : ∀ y ∈ l, ∀ p, f y = some p → p.block < N) (hx : ∀ p, f x = some p → N ≤ p.block) : DjN f (l ++ [x]) := fun i j y z hij hi hj p q hp hq => by
  have hjl := (List.getElem?_eq_some_iff.1 hj).1
  simp at hjl
  by_cases e : j = l.length
  · subst e
    simp at hj
    subst hj
    rw [List.getElem?_append_left (by omega)] at hi
    have h1 := hl y (List.mem_of_getElem? hi) p hp
    have h2 := hx q hq
    omega
  · rw [List.getElem?_append_left (by omega)] at hi hj
    exact h i j y z hij hi hj p q hp hq

/-- A row of nodes of one's own, each with words and kids of its own. -/
structure Ts (w : World) (B : Nat) (v : Value) (l : List Tg) : Prop where
  row : OT w B v l
  wn : ∀ x ∈ l, Nw w B x.wa x.ct.ws
  kn : ∀ x ∈ l, Ni w B x.ka x.ct.ks
  wd : DjN Tg.wa l
  kd : DjN Tg.ka l
theorem Ts.later {w w' : World} {B : Nat} {v : Value} {l : List Tg} (h : Ts w B v l) (hb : Below w.heap.size w w') : Ts w' B v l := ⟨h.row.later hb, fun x hx => (h.wn x hx).later hb, fun x hx => (h.kn x hx).later hb, h.wd, h.kd⟩
theorem Ts.nil (w : World) (B : Nat) : Ts w B (.slice none 0 0) [] := ⟨OT.nil w B, by simp, by simp, DjN.nil _, DjN.nil _⟩
theorem Ts.form {w : World} {B : Nat} {v : Value} {l : List Tg} (h : Ts w B v l) : ∃ a c, v = .slice a l.length c := h.row.form
theorem nw_rowT {w w' : World} {B C : Nat} {v : Value} {l : List Tg} {a : Option Addr} {xs : List Nat} (h : Nw w C a xs) (ho : OT w B v l) (hg : w.grownBy w' v.ownBlock) : Nw w' C a xs :=
  h.kept fun k cur hc => hg.block k (lt_of_block hc) (fun e => by
    obtain ⟨cur', h'⟩ := ho.typed e.symm
    rw [hc] at h'
    cases h')
theorem ni_rowT {w w' : World} {B C : Nat} {v : Value} {l : List Tg} {a : Option Addr} {xs : List Int} (h : Ni w C a xs) (ho : OT w B v l) (hg : w.grownBy w' v.ownBlock) : Ni w' C a xs :=
  h.kept fun k cur hc => hg.block k (lt_of_block hc) (fun e => by
    obtain ⟨cur', h'⟩ := ho.typed e.symm
    rw [hc] at h'
    cases h')
/-- One node more, with words and kids in blocks from N on, where all others lie below. -/
theorem Ts.app {w w1 w2 : World} {B N : Nat} {v v' : Value} {l : List Tg} {y : Tg} (h : Ts w B v l) (hb : Below w.heap.size w w1) (hB : B ≤ N) (hN : ∀ x ∈ l, (∀ p, x.wa = some p → p.block < N) ∧ ∀ p, x.ka = some p → p.block < N) (hy : Nw w1 N y.wa y.ct.ws) (hk : Ni w1 N y.ka y.ct.ks) (hg : w1.grownBy w2 v.ownBlock) (ho : OT w2 B v' (l ++ [y])) : Ts w2 B v' (l ++ [y]) where
  row := ho
  wn := fun x hx => by
    rcases List.mem_append.1 hx with hx | hx
    · exact nw_rowT ((h.wn x hx).later hb) (h.row.later hb) hg
    · simp at hx
      subst hx
      exact (nw_rowT hy (h.row.later hb) hg).mono hB
  kn := fun x hx => by
    rcases List.mem_append.1 hx with hx | hx
    · exact ni_rowT ((h.kn x hx).later hb) (h.row.later hb) hg
    · simp at hx
      subst hx
      exact (ni_rowT hk (h.row.later hb) hg).mono hB
  wd := h.wd.snoc (fun x hx => (hN x hx).1) fun p hp => (nw_lt hy hp).1
  kd := h.kd.snoc (fun x hx => (hN x hx).2) fun p hp => (ni_lt hk hp).1
theorem Ts.below {w : World} {B : Nat} {v : Value} {l : List Tg} (h : Ts w B v l) : ∀ x ∈ l, (∀ p, x.wa = some p → p.block < w.heap.size) ∧ ∀ p, x.ka = some p → p.block < w.heap.size := fun x hx => ⟨fun p hp => (nw_lt (h.wn x hx) hp).2, fun p hp => (ni_lt (h.kn x hx) hp).2⟩

/-- What can be read of it. -/
theorem Ts.rd {w : World} {B : Nat} {v : Value} {l : List Tg} (h : Ts w B v l) (hl : l.length ≤ 1048576) (hx : ∀ x ∈ l, okT x.ct) : ∃ a c, v = .slice a l.length c ∧ RdT w a l := by
  by_cases e : l = []
  · subst e
    obtain ⟨a, c, rfl⟩ := h.form
    exact ⟨a, c, rfl, by simp, .inl rfl⟩
  · have h0 : 0 < l.length := List.length_pos_iff.2 e
    obtain ⟨g, c, rfl, -⟩ := h.row.at (List.getElem?_eq_getElem h0)
    refine ⟨_, c, rfl, hl, .inr ⟨g, 0, rfl, fun i x hi => ?_⟩⟩
    obtain ⟨g', c', e', h1⟩ := h.row.at hi
    cases e'
    have hm := List.mem_of_getElem? hi
    obtain ⟨k1, k2, k3, k4, k5, k6, k7, k8, k9⟩ := hx x hm
    rw [Nat.zero_add]
    exact ⟨h1, (h.wn x hm).rd k6 k7, (h.kn x hm).rd k8 k9, k1, k2, k3, k4, k5⟩

end Go.Proofs.YtheglnkndjheaaaGreatDoor
