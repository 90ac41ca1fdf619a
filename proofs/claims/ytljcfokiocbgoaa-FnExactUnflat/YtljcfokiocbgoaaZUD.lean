/- Several texts in one. -/
import Derived.Test.YtljcfokiocbgoaaZUB
import Derived.Test.YtljcfokiocbgoaaZUC
import Derived.Test.YtljcfokiocbgoaaZUC
import Derived.Test.YtljcfokiocbgoaaZUC
import Derived.Deep.AppendLies
import Derived.Test.YtljcfokiocbgoaaZUA

/- Rows of nodes of one's own: told, read, appended to; kids in new memory. -/
namespace Go.Proofs.Ytljcfokiocbgoaa
set_option linter.unusedVariables false
set_option linter.unusedSimpArgs false
open Go.RowKit

/-- Kids in new memory: a block of numbers whose first ones they are. -/
def Ni (w : World) (lo : Nat) (a : Option Addr) (xs : List Int) : Prop :=
  (xs = [] ∧ ∀ x, a = some x → lo ≤ x.block ∧ x.off = 0 ∧ ∃ cur, w.heap[x.block]? = some (.cells cur 2 (0, 0))) ∨ ∃ g cur, a = some ⟨g, 0, none⟩ ∧ lo ≤ g ∧ w.heap[g]? = some (.cells cur 2 (0, 0)) ∧ ∀ i, i < xs.length → cur[i]? = some (.int .i64 (xs.getD i 0))

theorem Ni.rd {w : World} {lo : Nat} {a : Option Addr} {xs : List Int} (h : Ni w lo a xs) (hl : xs.length ≤ 1048576) (hx : ∀ x ∈ xs, in64 x) : RdI w a xs := by
  refine ⟨hl, hx, ?_⟩
  rcases h with ⟨h1, -⟩ | ⟨g, cur, h1, -, h3, h4⟩
  · exact .inl h1
  · refine .inr ⟨g, 0, h1, fun i hi => ?_⟩
    rw [Nat.zero_add, cell_of_row w g i cur _ _ h3]
    exact h4 i hi

theorem Ni.mono {w : World} {lo lo' : Nat} {a : Option Addr} {xs : List Int} (h : Ni w lo a xs) (hl : lo' ≤ lo) : Ni w lo' a xs := by
  rcases h with ⟨h1, h2⟩ | ⟨g, cur, h1, h2, h3, h4⟩
  · exact .inl ⟨h1, fun x e => ⟨Nat.le_trans hl (h2 x e).1, (h2 x e).2⟩⟩
  · exact .inr ⟨g, cur, h1, Nat.le_trans hl h2, h3, h4⟩

theorem Ni.kept {w w' : World} {lo : Nat} {a : Option Addr} {xs : List Int} (h : Ni w lo a xs) (hk : ∀ (k : Nat) (cur : Array Value), w.heap[k]? = some (Obj.cells cur 2 (0, 0)) → w'.heap[k]? = w.heap[k]?) : Ni w' lo a xs := by
  rcases h with ⟨h1, h2⟩ | ⟨g, cur, h1, h2, h3, h4⟩
  · refine .inl ⟨h1, fun x e => ?_⟩
    obtain ⟨a, b, cur, c⟩ := h2 x e
    exact ⟨a, b, cur, by rw [hk _ _ c]; exact c⟩
  · exact .inr ⟨g, cur, h1, h2, by rw [hk _ _ h3]; exact h3, h4⟩

theorem Ni.later {w w' : World} {lo : Nat} {a : Option Addr} {xs : List Int} (h : Ni w lo a xs) (hb : Below w.heap.size w w') : Ni w' lo a xs := Ni.kept h fun k cur hc => hb.block k (lt_of_block hc)

theorem ni_lt {w : World} {lo : Nat} {a : Option Addr} {xs : List Int} (h : Ni w lo a xs) {p : Addr} (hp : a = some p) : lo ≤ p.block ∧ p.block < w.heap.size := by
  rcases h with ⟨h1, h2⟩ | ⟨g, cur, h1, h2, h3, h4⟩
  · obtain ⟨k1, -, cur, k2⟩ := h2 p hp
    exact ⟨k1, lt_of_block k2⟩
  · rw [h1] at hp
    cases hp
    exact ⟨h2, lt_of_block h3⟩
theorem OI.ni {w : World} {B : Nat} {v : Value} {xs : List Int} (h : OI w B v xs) : ∃ a c, v = .slice a xs.length c ∧ Ni w B a xs := by
  obtain ⟨h1, ⟨rfl, h2⟩ | ⟨g, cap, cur, rfl, hg, hh, hc1, hc2, hsz, hcur⟩⟩ := h
  · have e := List.eq_nil_of_length_eq_zero h2
    subst e
    exact ⟨none, 0, rfl, .inl ⟨rfl, fun x e => by cases e⟩⟩
  · refine ⟨some ⟨g, 0, none⟩, cap, rfl, .inr ⟨g, cur, rfl, hg, hh, fun i hi => ?_⟩⟩
    have h3 : (cur.toList.take (xs.length * 1))[i]? = (i64s xs).toList[i]? := by rw [hcur]
    rw [List.getElem?_take, if_pos (by omega)] at h3
    simp only [Array.getElem?_toList] at h3
    rw [h3, i64s_get _ _ hi]

def tgv (x : Tg) : List Value := [.int .i64 x.ct.op, .int .i64 x.ct.vr, .int .i64 x.ct.a, .int .i64 x.ct.b, .int .i64 x.ct.bw, .slice x.wa x.ct.ws.length x.wc, .slice x.ka x.ct.ks.length x.kc]
def tgc : List Tg → List Value
  | [] => []
  | x :: t => tgv x ++ tgc t
theorem tgc_len (l : List Tg) : (tgc l).length = l.length * 7 := by
  induction l with
  | nil => rfl
  | cons x t ih => simp [tgc, tgv, ih]; omega
theorem tgc_append (l m : List Tg) : tgc (l ++ m) = tgc l ++ tgc m := by
  induction l with
  | nil => rfl
  | cons x t ih => simp [tgc, ih]
theorem tgc_get : ∀ {l : List Tg} {i : Nat} {x : Tg} (j : Nat), j < 7 → l[i]? = some x → (tgc l)[i * 7 + j]? = (tgv x)[j]?
  | y :: t, 0, x, j, hj, h => by
    simp at h; subst h
    rw [Nat.zero_mul, Nat.zero_add, tgc, List.getElem?_append_left (by simpa [tgv] using hj)]
  | y :: t, i + 1, x, j, hj, h => by
    have := tgc_get (l := t) (i := i) (x := x) j hj (by simpa using h)
    rw [tgc, List.getElem?_append_right (by simp [tgv]; omega)]
    simp only [tgv, List.length_cons, List.length_nil]
    rw [show (i + 1) * 7 + j - (0 + 1 + 1 + 1 + 1 + 1 + 1 + 1) = i * 7 + j by omega]
    exact this

/-- An owned row of nodes. -/
def OT (w : World) (B : Nat) (v : Value) (l : List Tg) : Prop := w.ownsRow B 57 7 v l.length (tgc l)

theorem OT.later {w w' : World} {B : Nat} {v : Value} {l : List Tg} (h : OT w B v l) (hb : Below w.heap.size w w') : OT w' B v l := World.ownsRow.kept (row := none) h ⟨hb.os, hb.tape, hb.output, hb.size, fun k hk _ => hb.block k hk⟩ (by
  cases h' : v.ownBlock with
  | none => exact .inl rfl
  | some k => exact .inr (by simp))
theorem OT.lt {w : World} {B : Nat} {v : Value} {l : List Tg} (h : OT w B v l) {b : Nat} (hb : v.ownBlock = some b) : B ≤ b ∧ b < w.heap.size := by
  rcases h.2 with ⟨rfl, -⟩ | ⟨g, cap, cur, rfl, hg, hh, -⟩
  · cases hb
  · cases hb
    exact ⟨hg, lt_of_block hh⟩
theorem OT.typed {w : World} {B : Nat} {v : Value} {l : List Tg} (h : OT w B v l) {b : Nat} (hb : v.ownBlock = some b) : ∃ cur, w.heap[b]? = some (.cells cur 57 (0, 0)) := by
  rcases h.2 with ⟨rfl, -⟩ | ⟨g, cap, cur, rfl, hg, hh, -⟩
  · cases hb
  · cases hb
    exact ⟨cur, hh⟩
theorem OT.nil (w : World) (B : Nat) : OT w B (.slice none 0 0) [] := ⟨rfl, .inl ⟨rfl, rfl⟩⟩
theorem OT.move {w w' : World} {B : Nat} {v : Value} {l : List Tg} (h : OT w B v l) (hk : ∀ b, v.ownBlock = some b → w'.heap[b]? = w.heap[b]?) : OT w' B v l := by
  refine ⟨h.1, ?_⟩
  rcases h.2 with h0 | ⟨g, cap, cur, rfl, hg, hh, r⟩
  · exact .inl h0
  · exact .inr ⟨g, cap, cur, rfl, hg, (hk g rfl).trans hh, r⟩

theorem OT.form {w : World} {B : Nat} {v : Value} {l : List Tg} (h : OT w B v l) : ∃ a c, v = .slice a l.length c := by
  rcases h.2 with ⟨e, h0⟩ | ⟨g, cap, cur, e, -⟩
  · exact ⟨none, 0, by rw [e, h0]⟩
  · exact ⟨_, _, e⟩

theorem OT.empty (w : World) (B : Nat) (h : B ≤ w.heap.size) : OT (w.alloc (.cells #[] 57)) B (.slice (some ⟨w.heap.size, 0, Option.none⟩) 0 0) [] := World.ownsRow_made w #[] 0 h (Nat.zero_le _) (by simp)

theorem OT.at {w : World} {B : Nat} {v : Value} {l : List Tg} (h : OT w B v l) {i : Nat} {x : Tg} (hi : l[i]? = some x) : ∃ g c, v = .slice (some ⟨g, 0, none⟩) l.length c ∧ ThAt w g (i * 7) x.hd := by
  have hil := (List.getElem?_eq_some_iff.1 hi).1
  rcases h.2 with ⟨-, h0⟩ | ⟨g, cap, cur, rfl, hg, hh, hc1, hc2, hsz, hcur⟩
  · omega
  · refine ⟨g, cap, rfl, ?_⟩
    have key : ∀ j u, j < 7 → (tgv x)[j]? = some u → w.cell? ⟨g, i * 7 + j, none⟩ = some u := fun j u hj hu => by
      have e := tgc_get j hj hi
      rw [hu, ← hcur, List.getElem?_take, if_pos (by omega)] at e
      simp only [Array.getElem?_toList] at e
      rw [cell_of_row w g _ cur _ _ hh]
      exact e
    exact ⟨key 0 _ (by omega) rfl, key 1 _ (by omega) rfl, key 2 _ (by omega) rfl, key 3 _ (by omega) rfl, key 4 _ (by omega) rfl, key 5 _ (by omega) rfl, key 6 _ (by omega) rfl⟩

/-- What may stand in a node. -/
def okT (x : Tc) : Prop := in64 x.op ∧ in64 x.vr ∧ in64 x.a ∧ in64 x.b ∧ in64 x.bw ∧ x.ws.length ≤ 1048576 ∧ (∀ y ∈ x.ws, y < 18446744073709551616) ∧ x.ks.length ≤ 1048576 ∧ ∀ y ∈ x.ks, in64 y

theorem step_appT7 (w : World) {ops : Array Oper} {o : Oper} {a : Act} {K : Act → World → Prop} {Q : Exit → Act → World → Prop} {E : Prop} (hgd : o.guard = none) (s x : Operand)
    (ho : o.op = .call { callee := .builtin .append, args := #[s, x], argTypes := #[26, 26] })
    (B : Nat) (v : Value) (l : List Tg) (y : Tg) (hs : a.eval s = v) (hown : OT w B v l) (gx c : Nat) (hx : a.eval x = .slice (some ⟨gx, 0, none⟩) 1 c)
    (h0 : ThAt w gx 0 y.hd) (hl : l.length ≤ 1048576) (hB : B ≤ w.heap.size)
    (h : ∀ g cap w', OT w' B (.slice (some ⟨g, 0, none⟩) (l.length + 1) cap) (l ++ [y]) → w.grownBy w' v.ownBlock → (v.ownBlock = some g ∨ g = w.heap.size) → K (a.put o.dst (.slice (some ⟨g, 0, none⟩) (l.length + 1) cap)) w') :
    if Region.wanted o (yielded ops a.tmps) = true then Oper.wp Try.prog o a w K Q else E := by
  obtain ⟨i0, hi, hz0, hz1, hz2⟩ := info_parts Try.infoTNode
  refine step_append_lies w hgd s x 26 ho B 57 i0 _ 7 88 Try.underlying26 hi hz0 hz1 hz2 rfl (by decide) v l.length (tgc l) hs hown ⟨gx, 0, none⟩ 1 c (tgv y) hx rfl ?_ ?_ (by decide) ?_ ?_ hB _ rfl ?_
  · intro j u hj
    rw [Addr.add_lit]
    obtain ⟨f0, f1, f2, f3, f4, f5, f6⟩ := h0
    match j, hj with
    | 0, hj => simp [tgv] at hj; subst hj; exact f0
    | 1, hj => simp [tgv] at hj; subst hj; exact f1
    | 2, hj => simp [tgv] at hj; subst hj; exact f2
    | 3, hj => simp [tgv] at hj; subst hj; exact f3
    | 4, hj => simp [tgv] at hj; subst hj; exact f4
    | 5, hj => simp [tgv] at hj; subst hj; exact f5
    | 6, hj => simp [tgv] at hj; subst hj; exact f6
    | j + 7, hj => simp [tgv] at hj
  · intro u hu
    simp [tgv] at hu
    rcases hu with rfl | rfl | rfl | rfl | rfl | rfl | rfl <;> rfl
  · unfold maxLen; omega
  · omega
  · intro g cap w' h1 h2 h3 _
    refine h g cap w' ?_ h2 h3
    unfold OT
    rw [tgc_append, List.length_append]
    simpa [tgc] using h1

theorem wpList_appT7 {w : World} {ops : Array Oper} {rest : List Oper} {o : Oper} {a : Act} {Q : Exit → Act → World → Prop} (hgd : o.guard = none) (s x : Operand)
    (ho : o.op = .call { callee := .builtin .append, args := #[s, x], argTypes := #[26, 26] })
    (B : Nat) (v : Value) (l : List Tg) (y : Tg) (hs : a.eval s = v) (hown : OT w B v l) (gx c : Nat) (hx : a.eval x = .slice (some ⟨gx, 0, none⟩) 1 c)
    (h0 : ThAt w gx 0 y.hd) (hl : l.length ≤ 1048576) (hB : B ≤ w.heap.size)
    (h : ∀ g cap w', OT w' B (.slice (some ⟨g, 0, none⟩) (l.length + 1) cap) (l ++ [y]) → w.grownBy w' v.ownBlock → (v.ownBlock = some g ∨ g = w.heap.size) → wpList Try.prog ops Q rest (a.put o.dst (.slice (some ⟨g, 0, none⟩) (l.length + 1) cap)) w') : wpList Try.prog ops Q (o :: rest) a w := by
  obtain ⟨i0, hi, hz0, hz1, hz2⟩ := info_parts Try.infoTNode
  refine wpList_append_lies w hgd s x 26 ho B 57 i0 _ 7 88 Try.underlying26 hi hz0 hz1 hz2 rfl (by decide) v l.length (tgc l) hs hown ⟨gx, 0, none⟩ 1 c (tgv y) hx rfl ?_ ?_ (by decide) ?_ ?_ hB _ rfl ?_
  · intro j u hj
    rw [Addr.add_lit]
    obtain ⟨f0, f1, f2, f3, f4, f5, f6⟩ := h0
    match j, hj with
    | 0, hj => simp [tgv] at hj; subst hj; exact f0
    | 1, hj => simp [tgv] at hj; subst hj; exact f1
    | 2, hj => simp [tgv] at hj; subst hj; exact f2
    | 3, hj => simp [tgv] at hj; subst hj; exact f3
    | 4, hj => simp [tgv] at hj; subst hj; exact f4
    | 5, hj => simp [tgv] at hj; subst hj; exact f5
    | 6, hj => simp [tgv] at hj; subst hj; exact f6
    | j + 7, hj => simp [tgv] at hj
  · intro u hu
    simp [tgv] at hu
    rcases hu with rfl | rfl | rfl | rfl | rfl | rfl | rfl <;> rfl
  · unfold maxLen; omega
  · omega
  · intro g cap w' h1 h2 h3 _
    refine h g cap w' ?_ h2 h3
    unfold OT
    rw [tgc_append, List.length_append]
    simpa [tgc] using h1

/-- No two have a block of words, or of kids, in common. -/
def DjN (f : Tg → Option Addr) (l : List Tg) : Prop := ∀ (i j : Nat) (x y : Tg), i < j → l[i]? = some x → l[j]? = some y → ∀ p q, f x = some p → f y = some q → p.block ≠ q.block
theorem DjN.nil (f : Tg → Option Addr) : DjN f [] := fun i j x y _ h => by simp at h
theorem DjN.snoc {f : Tg → Option Addr} {N : Nat} {l : List Tg} {x : Tg} (h : DjN f l) (hl : ∀ y ∈ l, ∀ p, f y = some p → p.block < N) (hx : ∀ p, f x = some p → N ≤ p.block) : DjN f (l ++ [x]) := fun i j y z hij hi hj p q hp hq => by
  have hjl := (List.getElem?_eq_some_iff.1 hj).1
  simp at hjl
  by_cases e : j = l.length
  · subst e
    simp at hj
    subst hj
    rw [List.getElem?_append_left (by omega)] at hi
    have h1 := hl y (List.mem_of_getElem? hi) p hp
    have h2 := hx q hq
    omega
  · rw [List.getElem?_append_left (by omega)] at hi hj
    exact h i j y z hij hi hj p q hp hq

/-- A row of nodes of one's own, each with words and kids of its own. -/
structure Ts (w : World) (B : Nat) (v : Value) (l : List Tg) : Prop where
  row : OT w B v l
  wn : ∀ x ∈ l, Nw w B x.wa x.ct.ws
  kn : ∀ x ∈ l, Ni w B x.ka x.ct.ks
  wd : DjN Tg.wa l
  kd : DjN Tg.ka l
theorem Ts.later {w w' : World} {B : Nat} {v : Value} {l : List Tg} (h : Ts w B v l) (hb : Below w.heap.size w w') : Ts w' B v l := ⟨h.row.later hb, fun x hx => (h.wn x hx).later hb, fun x hx => (h.kn x hx).later hb, h.wd, h.kd⟩
theorem Ts.nil (w : World) (B : Nat) : Ts w B (.slice none 0 0) [] := ⟨OT.nil w B, by simp, by simp, DjN.nil _, DjN.nil _⟩
theorem Ts.form {w : World} {B : Nat} {v : Value} {l : List Tg} (h : Ts w B v l) : ∃ a c, v = .slice a l.length c := h.row.form
theorem nw_rowT {w w' : World} {B C : Nat} {v : Value} {l : List Tg} {a : Option Addr} {xs : List Nat} (h : Nw w C a xs) (ho : OT w B v l) (hg : w.grownBy w' v.ownBlock) : Nw w' C a xs :=
  h.kept fun k cur hc => hg.block k (lt_of_block hc) (fun e => by
    obtain ⟨cur', h'⟩ := ho.typed e.symm
    rw [hc] at h'
    cases h')
theorem ni_rowT {w w' : World} {B C : Nat} {v : Value} {l : List Tg} {a : Option Addr} {xs : List Int} (h : Ni w C a xs) (ho : OT w B v l) (hg : w.grownBy w' v.ownBlock) : Ni w' C a xs :=
  h.kept fun k cur hc => hg.block k (lt_of_block hc) (fun e => by
    obtain ⟨cur', h'⟩ := ho.typed e.symm
    rw [hc] at h'
    cases h')
/-- One node more, with words and kids in blocks from N on, where all others lie below. -/
theorem Ts.app {w w1 w2 : World} {B N : Nat} {v v' : Value} {l : List Tg} {y : Tg} (h : Ts w B v l) (hb : Below w.heap.size w w1) (hB : B ≤ N) (hN : ∀ x ∈ l, (∀ p, x.wa = some p → p.block < N) ∧ ∀ p, x.ka = some p → p.block < N) (hy : Nw w1 N y.wa y.ct.ws) (hk : Ni w1 N y.ka y.ct.ks) (hg : w1.grownBy w2 v.ownBlock) (ho : OT w2 B v' (l ++ [y])) : Ts w2 B v' (l ++ [y]) where
  row := ho
  wn := fun x hx => by
    rcases List.mem_append.1 hx with hx | hx
    · exact nw_rowT ((h.wn x hx).later hb) (h.row.later hb) hg
    · simp at hx
      subst hx
      exact (nw_rowT hy (h.row.later hb) hg).mono hB
  kn := fun x hx => by
    rcases List.mem_append.1 hx with hx | hx
    · exact ni_rowT ((h.kn x hx).later hb) (h.row.later hb) hg
    · simp at hx
      subst hx
      exact (ni_rowT hk (h.row.later hb) hg).mono hB
  wd := h.wd.snoc (fun x hx => (hN x hx).1) fun p hp => (nw_lt hy hp).1
  kd := h.kd.snoc (fun x hx => (hN x hx).2) fun p hp => (ni_lt hk hp).1
theorem Ts.below {w : World} {B : Nat} {v : Value} {l : List Tg} (h : Ts w B v l) : ∀ x ∈ l, (∀ p, x.wa = some p → p.block < w.heap.size) ∧ ∀ p, x.ka = some p → p.block < w.heap.size := fun x hx => ⟨fun p hp => (nw_lt (h.wn x hx) hp).2, fun p hp => (ni_lt (h.kn x hx) hp).2⟩

/-- What can be read of it. -/
theorem Ts.rd {w : World} {B : Nat} {v : Value} {l : List Tg} (h : Ts w B v l) (hl : l.length ≤ 1048576) (hx : ∀ x ∈ l, okT x.ct) : ∃ a c, v = .slice a l.length c ∧ RdT w a l := by
  by_cases e : l = []
  · subst e
    obtain ⟨a, c, rfl⟩ := h.form
    exact ⟨a, c, rfl, by simp, .inl rfl⟩
  · have h0 : 0 < l.length := List.length_pos_iff.2 e
    obtain ⟨g, c, rfl, -⟩ := h.row.at (List.getElem?_eq_getElem h0)
    refine ⟨_, c, rfl, hl, .inr ⟨g, 0, rfl, fun i x hi => ?_⟩⟩
    obtain ⟨g', c', e', h1⟩ := h.row.at hi
    cases e'
    have hm := List.mem_of_getElem? hi
    obtain ⟨k1, k2, k3, k4, k5, k6, k7, k8, k9⟩ := hx x hm
    rw [Nat.zero_add]
    exact ⟨h1, (h.wn x hm).rd k6 k7, (h.kn x hm).rd k8 k9, k1, k2, k3, k4, k5⟩

end Go.Proofs.Ytljcfokiocbgoaa

/- Nodes shared: alike ones once, and where each went. -/
namespace Go.Proofs.Ytljcfokiocbgoaa
set_option linter.unusedVariables false
set_option linter.unusedSimpArgs false
open Go.RowKit

def tcEq (x y : Tc) : Bool := decide (x.op = y.op) && decide (x.vr = y.vr) && decide (x.a = y.a) && decide (x.b = y.b) && decide (x.bw = y.bw) && decide (x.ws = y.ws) && decide (x.ks = y.ks)
theorem tcEq_iff {x y : Tc} : tcEq x y = true ↔ x = y := by
  constructor
  · intro h
    simp only [tcEq, Bool.and_eq_true, decide_eq_true_eq] at h
    obtain ⟨⟨⟨⟨⟨⟨h1, h2⟩, h3⟩, h4⟩, h5⟩, h6⟩, h7⟩ := h
    cases x; cases y
    simp only at h1 h2 h3 h4 h5 h6 h7
    subst h1; subst h2; subst h3; subst h4; subst h5; subst h6; subst h7
    rfl
  · rintro rfl
    simp [tcEq]

/-- A node whose kids are where they went. -/
def mvT (to : List Int) (n : Tc) : Tc := ⟨n.op, n.vr, n.a, n.b, n.bw, n.ws, n.ks.map fun k => to.getD k.toNat 0⟩
/-- Where the first one is that is alike. -/
def fndT (out : List Tc) (m : Tc) : Option Nat := out.findIdx? (fun y => tcEq y m)
theorem fndT_some {out : List Tc} {m : Tc} {i : Nat} (h : fndT out m = some i) : out[i]? = some m ∧ ∀ j, j < i → out[j]? ≠ some m := by
  unfold fndT at h
  rw [List.findIdx?_eq_some_iff_getElem] at h
  obtain ⟨hi, h1, h2⟩ := h
  refine ⟨by rw [List.getElem?_eq_getElem hi, tcEq_iff.1 h1], fun j hj e => ?_⟩
  have hjl := (List.getElem?_eq_some_iff.1 e).1
  have := h2 j hj
  rw [List.getElem?_eq_getElem hjl] at e
  cases e
  exact this (tcEq_iff.2 rfl)
theorem fndT_none {out : List Tc} {m : Tc} (h : fndT out m = none) : m ∉ out := by
  unfold fndT at h
  rw [List.findIdx?_eq_none_iff] at h
  intro hm
  have := h m hm
  rw [tcEq_iff.2 rfl] at this
  cases this
theorem fndT_of {out : List Tc} {m : Tc} {i : Nat} (h : out[i]? = some m) (hf : ∀ j, j < i → out[j]? ≠ some m) : fndT out m = some i := by
  cases e : fndT out m with
  | none => exact absurd (List.mem_of_getElem? h) (fndT_none e)
  | some j =>
    obtain ⟨h1, h2⟩ := fndT_some e
    by_cases hji : j < i
    · exact absurd h1 (hf j hji)
    · by_cases hij : i < j
      · exact absurd h (h2 i hij)
      · rw [show j = i by omega]
theorem fndT_not {out : List Tc} {m : Tc} (h : m ∉ out) : fndT out m = none := by
  cases e : fndT out m with
  | none => rfl
  | some j => exact absurd (List.mem_of_getElem? (fndT_some e).1) h

def shStep (st : List Tc × List Int) (n : Tc) : List Tc × List Int :=
  match fndT st.1 (mvT st.2 n) with
  | some i => (st.1, st.2 ++ [(i : Int)])
  | none => (st.1 ++ [mvT st.2 n], st.2 ++ [(st.1.length : Int)])
def shTo (ns : List Tc) : Nat → List Tc × List Int
  | 0 => ([], [])
  | k + 1 => match ns[k]? with
    | some n => shStep (shTo ns k) n
    | none => shTo ns k
theorem shTo_succ {ns : List Tc} {k : Nat} {n : Tc} (h : ns[k]? = some n) : shTo ns (k + 1) = shStep (shTo ns k) n := by
  rw [shTo, h]

/-- But for its kids it is one of the nodes. -/
def Fm (ns : List Tc) (y : Tc) : Prop := ∃ n ∈ ns, y.op = n.op ∧ y.vr = n.vr ∧ y.a = n.a ∧ y.b = n.b ∧ y.bw = n.bw ∧ y.ws = n.ws ∧ y.ks.length = n.ks.length
structure ShF (ns : List Tc) (k : Nat) (st : List Tc × List Int) : Prop where
  l2 : st.2.length = k
  l1 : st.1.length ≤ k
  rg : ∀ x ∈ st.2, 0 ≤ x ∧ x < (st.1.length : Int)
  fm : ∀ y ∈ st.1, Fm ns y
  ks : ∀ y ∈ st.1, ∀ j ∈ y.ks, 0 ≤ j ∧ j < (st.1.length : Int)
  nd : st.1.Nodup
theorem ShF.step {ns : List Tc} {k : Nat} {st : List Tc × List Int} {n : Tc} (h : ShF ns k st) (hn : n ∈ ns) (hk : ∀ j ∈ n.ks, 0 ≤ j ∧ j < (k : Int)) : ShF ns (k + 1) (shStep st n) := by
  unfold shStep
  split
  · rename_i i e
    obtain ⟨h1, -⟩ := fndT_some e
    have hi := (List.getElem?_eq_some_iff.1 h1).1
    refine ⟨by simp [h.l2], by have := h.l1; simp only; omega, fun x hx => ?_, h.fm, h.ks, h.nd⟩
    rcases List.mem_append.1 hx with hx | hx
    · exact h.rg x hx
    · simp at hx
      subst hx
      simp only
      omega
  · rename_i e
    have hnm := fndT_none e
    have hkid : ∀ j ∈ (mvT st.2 n).ks, 0 ≤ j ∧ j < (st.1.length : Int) := fun j hj => by
      obtain ⟨q, hq, rfl⟩ := List.mem_map.1 hj
      obtain ⟨q0, q1⟩ := hk q hq
      have hl := h.l2
      have e1 : st.2.getD q.toNat 0 = st.2[q.toNat]'(by omega) := by
        rw [List.getD_eq_getElem?_getD, List.getElem?_eq_getElem (show q.toNat < st.2.length by omega)]
        rfl
      rw [e1]
      exact h.rg _ (List.getElem_mem _)
    refine ⟨by simp [h.l2], by have := h.l1; simp; omega, fun x hx => ?_, fun y hy => ?_, fun y hy j hj => ?_, ?_⟩
    · rcases List.mem_append.1 hx with hx | hx
      · have := h.rg x hx
        simp only [List.length_append, List.length_cons, List.length_nil]
        omega
      · simp at hx
        subst hx
        simp only [List.length_append, List.length_cons, List.length_nil]
        omega
    · rcases List.mem_append.1 hy with hy | hy
      · exact h.fm y hy
      · simp at hy
        subst hy
        exact ⟨n, hn, rfl, rfl, rfl, rfl, rfl, rfl, by simp [mvT]⟩
    · have key : 0 ≤ j ∧ j < (st.1.length : Int) := by
        rcases List.mem_append.1 hy with hy | hy
        · exact h.ks y hy j hj
        · simp at hy
          subst hy
          exact hkid j hj
      simp only [List.length_append, List.length_cons, List.length_nil]
      omega
    · refine List.nodup_append.2 ⟨h.nd, by simp, fun a ha b hb e => ?_⟩
      simp at hb
      subst hb
      subst e
      exact hnm ha
theorem shTo_f {ns : List Tc} (hk : ∀ (k : Nat) (n : Tc), ns[k]? = some n → ∀ j ∈ n.ks, 0 ≤ j ∧ j < (k : Int)) : ∀ k, k ≤ ns.length → ShF ns k (shTo ns k)
  | 0, _ => ⟨rfl, Nat.le_refl _, by simp [shTo], by simp [shTo], by simp [shTo], by simp [shTo]⟩
  | k + 1, h => by
    have hk2 : ns[k]? = some (ns[k]'(by omega)) := List.getElem?_eq_getElem (by omega)
    rw [shTo_succ hk2]
    exact (shTo_f hk k (by omega)).step (List.getElem_mem _) (hk k _ hk2)

/-- What may stand in the shared nodes. -/
theorem fm_ok {ns : List Tc} {y : Tc} (h : Fm ns y) (hns : ∀ n ∈ ns, okT n) {N : Nat} (hN : N ≤ 1048576) (hk : ∀ j ∈ y.ks, 0 ≤ j ∧ j < (N : Int)) : okT y := by
  obtain ⟨n, hn, e1, e2, e3, e4, e5, e6, e7⟩ := h
  obtain ⟨k1, k2, k3, k4, k5, k6, k7, k8, k9⟩ := hns n hn
  exact ⟨by rw [e1]; exact k1, by rw [e2]; exact k2, by rw [e3]; exact k3, by rw [e4]; exact k4, by rw [e5]; exact k5, by rw [e6]; exact k6, by rw [e6]; exact k7, by rw [e7]; exact k8, fun j hj => by have := hk j hj; exact ⟨by omega, by omega⟩⟩
theorem RdT.ok {w : World} {a : Option Addr} {xs : List Tg} (h : RdT w a xs) : ∀ n ∈ xs.map Tg.ct, okT n := by
  intro n hn
  obtain ⟨x, hx, rfl⟩ := List.mem_map.1 hn
  obtain ⟨i, hi⟩ := List.mem_iff_getElem?.1 hx
  rcases h.2 with h0 | ⟨b, o, -, hc⟩
  · rw [h0] at hx; cases hx
  · obtain ⟨-, h1, h2, k1, k2, k3, k4, k5⟩ := hc i x hi
    exact ⟨k1, k2, k3, k4, k5, h1.1, h1.2.1, h2.1, h2.2.1⟩

end Go.Proofs.Ytljcfokiocbgoaa

/- Contracts of the laws' own small functions on rows of segments: how long, compared, copied. -/
namespace Go.Proofs.Ytljcfokiocbgoaa
set_option linter.unusedVariables false
set_option linter.unusedSimpArgs false
open Go.RowKit

/-- A segment as it lies. -/
structure Sh where
  v : Int
  lo : Int
  wd : Int
  bw : Int
  a : Option Addr
  n : Nat
  c : Nat

def ShAt (w : World) (b o : Nat) (h : Sh) : Prop :=
  w.cell? ⟨b, o, none⟩ = some (.int .i64 h.v) ∧ w.cell? ⟨b, o + 1, none⟩ = some (.int .i64 h.lo) ∧ w.cell? ⟨b, o + 2, none⟩ = some (.int .i64 h.wd) ∧ w.cell? ⟨b, o + 3, none⟩ = some (.int .i64 h.bw) ∧ w.cell? ⟨b, o + 4, none⟩ = some (.slice h.a h.n h.c)

theorem ShAt.later {w w' : World} {b o : Nat} {h : Sh} (k : ShAt w b o h) (hb : Below w.heap.size w w') : ShAt w' b o h := by
  obtain ⟨f0, f1, f2, f3, f4⟩ := k
  have l := block_lt_of_cell f0
  exact ⟨by rw [kcell hb _ _ l]; exact f0, by rw [kcell hb _ _ l]; exact f1, by rw [kcell hb _ _ l]; exact f2, by rw [kcell hb _ _ l]; exact f3, by rw [kcell hb _ _ l]; exact f4⟩

def RdSh (w : World) (a : Option Addr) (hs : List Sh) : Prop :=
  hs.length ≤ 1048576 ∧ (hs = [] ∨ ∃ b o, a = some ⟨b, o, none⟩ ∧ ∀ i h, hs[i]? = some h → ShAt w b (o + i * 5) h ∧ h.n ≤ 9223372036854775807)

theorem RdSh.later {w w' : World} {a : Option Addr} {hs : List Sh} (h : RdSh w a hs) (hb : Below w.heap.size w w') : RdSh w' a hs := by
  refine ⟨h.1, ?_⟩
  rcases h.2 with h | ⟨b, o, rfl, hc⟩
  · exact .inl h
  · exact .inr ⟨b, o, rfl, fun i x hi => ⟨(hc i x hi).1.later hb, (hc i x hi).2⟩⟩

theorem szSeg_any (h : Sh) (L : Int) (w : World) (hL : 0 ≤ L) (hL2 : L ≤ 1048576) (hn : h.n ≤ 9223372036854775807) :
    Calls Try.prog 21 #[.agg #[.int .i64 h.v, .int .i64 h.lo, .int .i64 h.wd, .int .i64 h.bw, .slice h.a h.n h.c], .int .i64 L] w fun e w' => e = .returned (.int .i64 (if (h.n : Int) ≤ L then L - h.n else -1)) ∧ Below w.heap.size w w' := by
  obtain ⟨v, lo, wd, bw, a, n, c⟩ := h
  simp only [] at hn ⊢
  have hb0 : Below w.heap.size w (w.alloc (Obj.cells #[Value.int .i64 v, Value.int .i64 lo, Value.int .i64 wd, Value.int .i64 bw, Value.slice a n c] 51)) := (Below.refl _ _).alloc (Nat.le_refl _) _
  have B0 := kide hb0
  clear hb0
  by_cases h : (n : Int) ≤ L
  · rw [if_pos h]
    go_enter Try.func21, Try.ntmps21
    go_wp2_with (go_at_call 40; refine (szBits_yes _ _ _ _ _ _ hL hL2 hn h).mono ?_; rintro e w1 ⟨rfl, hb1⟩)
    go_ret
    exact ⟨rfl, B0.out.trans (hb1.mono (by simp))⟩
  · rw [if_neg h]
    have HY := kide h
    go_enter Try.func21, Try.ntmps21
    go_wp2_with (go_at_call 40; refine (szBits_no _ _ _ _ _ _ hL hL2 hn HY.out).mono ?_; rintro e w1 ⟨rfl, hb1⟩)
    go_ret
    exact ⟨rfl, B0.out.trans (hb1.mono (by simp))⟩

end Go.Proofs.Ytljcfokiocbgoaa

/- Contracts of the laws' own small functions on rows of segments: how long, compared, copied. -/
namespace Go.Proofs.Ytljcfokiocbgoaa
set_option linter.unusedVariables false
set_option linter.unusedSimpArgs false
open Go.RowKit

/-- What is left of L behind the rows of some segments; -1: nothing. -/
def szSl : List Sh → Int → Int
  | [], L => L
  | h :: t, L => if (h.n : Int) ≤ L then szSl t (L - h.n) else -1

theorem szSl_range (hs : List Sh) (L : Int) (hL : 0 ≤ L) : szSl hs L = -1 ∨ 0 ≤ szSl hs L ∧ szSl hs L ≤ L ∧ ∀ h ∈ hs, (h.n : Int) ≤ L := by
  induction hs generalizing L with
  | nil => right; simp [szSl]; exact hL
  | cons h t ih =>
    rw [szSl]
    split
    · rename_i hc
      rcases ih (L - h.n) (by omega) with e | ⟨e1, e2, e3⟩
      · left; exact e
      · right
        refine ⟨e1, by omega, fun x hx => ?_⟩
        rcases List.mem_cons.1 hx with rfl | hx
        · exact hc
        · have := e3 x hx; omega
    · left; rfl

theorem szSegS_in (a : Option Addr) (c : Nat) (hs : List Sh) (L : Int) (w : World) (hr : RdSh w a hs) (hL : 0 ≤ L) (hL2 : L ≤ 1048576) (h : (hs.length : Int) ≤ L) :
    Calls Try.prog 6 #[.slice a hs.length c, .int .i64 L] w fun e w' => e = .returned (.int .i64 (szSl hs (L - hs.length))) ∧ Below w.heap.size w w' := by
  have hlen := hr.1
  generalize hZ : szSl hs (L - hs.length) = Z
  have HZ : Hid (szSl hs (L - hs.length) = Z) := hZ
  clear hZ
  go_enter Try.func6, Try.ntmps6
  go_wp2_with fail
  go_loopw [1, 5] (fun l i wr => ∃ (k : Nat) (Q : Int), k ≤ hs.length ∧ i = .int .i64 k ∧ l = .int .i64 Q ∧ 0 ≤ Q ∧ Q ≤ 1048576 ∧ szSl (hs.drop k) Q = Z ∧ Below w.heap.size w wr) (fun _ i _ => hs.length - (intOf i).toNat)
  case atStart => exact ⟨0, _, Nat.zero_le _, rfl, rfl, by omega, by omega, by rw [List.drop_zero]; exact HZ.out, Below.refl _ _⟩
  case round =>
    obtain ⟨k, Q, hk, rfl, rfl, hQ0, hQ1, hq, hbel⟩ := hrel
    by_cases hlt : k < hs.length
    · obtain ⟨-, h | ⟨b, o, rfl, hc⟩⟩ := hr
      · subst h; simp at hlt
      obtain ⟨x, hh⟩ : ∃ x, hs[k] = x := ⟨_, rfl⟩
      obtain ⟨f1, f2⟩ := hc k x (by rw [List.getElem?_eq_getElem hlt, hh])
      obtain ⟨g0, g1, g2, g3, g4⟩ := f1.later hbel
      have HCA : Hid (∀ u, Calls Try.prog 21 #[.agg #[.int .i64 x.v, .int .i64 x.lo, .int .i64 x.wd, .int .i64 x.bw, .slice x.a x.n x.c], .int .i64 Q] u fun e w' => e = .returned (.int .i64 (if (x.n : Int) ≤ Q then Q - x.n else -1)) ∧ Below u.heap.size u w') := fun u => szSeg_any x Q u hQ0 hQ1 f2
      rw [List.drop_eq_getElem_cons hlt, hh, szSl] at hq
      obtain ⟨v, lo, wd, bw, a1, n1, c1⟩ := x
      simp only [] at g0 g1 g2 g3 g4 hq f2 HCA
      have HQ : Hid _ := hq
      have HB : Hid _ := hbel
      clear hc hh f1 hbel hq
      by_cases hyes : (n1 : Int) ≤ Q
      · rw [if_pos hyes] at HCA
        go_wp2_with (go_at_call 21; refine Calls.mono (HCA.out _) ?_; rintro e w1 ⟨rfl, hb1⟩)
        go_roundw
        case rel =>
          have h := HQ.out
          rw [if_pos hyes] at h
          exact ⟨k + 1, _, by omega, by go_num, rfl, by omega, by omega, h, HB.out.trans (hb1.mono HB.out.size)⟩
        case measure => simp [intOf]; omega
      · rw [if_neg hyes] at HCA
        go_wp2_with (go_at_call 21; refine Calls.mono (HCA.out _) ?_; rintro e w1 ⟨rfl, hb1⟩)
        go_ret
        have h := HQ.out
        rw [if_neg (by omega)] at h
        exact ⟨ret_int h, HB.out.trans (hb1.mono HB.out.size)⟩
    · have e : k = hs.length := by omega
      rw [e, List.drop_length, szSl] at hq
      have HQ : Hid _ := hq
      clear hq
      go_wp2_with fail
      go_ret
      exact ⟨ret_int HQ.out, hbel⟩

theorem szSegS_out (a : Option Addr) (n c : Nat) (L : Int) (w : World) (hL : 0 ≤ L) (hL2 : L ≤ 1048576) (hn : n ≤ 9223372036854775807) (h : ¬ (n : Int) ≤ L) :
    Calls Try.prog 6 #[.slice a n c, .int .i64 L] w fun e w' => e = .returned (.int .i64 (-1)) ∧ w' = w := by
  go_enter Try.func6, Try.ntmps6
  go_wp2_with fail
  go_ret
  exact ⟨rfl, rfl⟩

/-- A segment: variable, place, width, its word. -/
structure Sc where
  v : Int
  lo : Int
  wd : Int
  bw : Int
  ws : List Nat

/-- .. as it lies. -/
structure Sg where
  ct : Sc
  a : Option Addr
  c : Nat

def Sg.hd (x : Sg) : Sh := ⟨x.ct.v, x.ct.lo, x.ct.wd, x.ct.bw, x.a, x.ct.ws.length, x.c⟩

def SgAt (w : World) (b o : Nat) (x : Sg) : Prop := ShAt w b o x.hd ∧ Rd w x.a x.ct.ws ∧ in64 x.ct.v ∧ in64 x.ct.lo ∧ in64 x.ct.wd ∧ in64 x.ct.bw

theorem SgAt.later {w w' : World} {b o : Nat} {x : Sg} (h : SgAt w b o x) (hb : Below w.heap.size w w') : SgAt w' b o x := ⟨h.1.later hb, h.2.1.later hb, h.2.2⟩

/-- A slice whose segments are xs, wherever it lies. -/
def RdS (w : World) (a : Option Addr) (xs : List Sg) : Prop :=
  xs.length ≤ 1048576 ∧ (xs = [] ∨ ∃ b o, a = some ⟨b, o, none⟩ ∧ ∀ i n, xs[i]? = some n → SgAt w b (o + i * 5) n)

theorem RdS.later {w w' : World} {a : Option Addr} {xs : List Sg} (h : RdS w a xs) (hb : Below w.heap.size w w') : RdS w' a xs := by
  refine ⟨h.1, ?_⟩
  rcases h.2 with h | ⟨b, o, rfl, hc⟩
  · exact .inl h
  · exact .inr ⟨b, o, rfl, fun i n hi => (hc i n hi).later hb⟩

theorem eqSeg_same (s : Sc) (a b : Option Addr) (c d : Nat) (w : World) (hr : Rd w a s.ws) (hs : Rd w b s.ws) :
    Calls Try.prog 31 #[.agg #[.int .i64 s.v, .int .i64 s.lo, .int .i64 s.wd, .int .i64 s.bw, .slice a s.ws.length c], .agg #[.int .i64 s.v, .int .i64 s.lo, .int .i64 s.wd, .int .i64 s.bw, .slice b s.ws.length d]] w fun e w' => e = .returned (.bool true) ∧ Below w.heap.size w w' := by
  obtain ⟨v, lo, wd, bw, ws⟩ := s
  simp only [] at hr hs ⊢
  have h2 : Below w.heap.size w ((w.alloc (Obj.cells #[Value.int .i64 v, Value.int .i64 lo, Value.int .i64 wd, Value.int .i64 bw, Value.slice a ws.length c] 55)).alloc (Obj.cells #[Value.int .i64 v, Value.int .i64 lo, Value.int .i64 wd, Value.int .i64 bw, Value.slice b ws.length d] 55)) := ((Below.refl _ _).alloc (Nat.le_refl _) _).alloc (by simp) _
  have HE : Hid (∀ u, Below w.heap.size w u → Calls Try.prog 49 #[.agg #[.int .i64 bw, .slice a ws.length c], .agg #[.int .i64 bw, .slice b ws.length d]] u fun e w' => e = .returned (.bool true) ∧ Below u.heap.size u w') := fun u hu => by
    have := eqBits_any bw bw a b c d ws ws u (hr.later hu) (hs.later hu)
    simpa using this
  have B2 := kide h2
  have e0 : (v != v) = false := by simp
  have e1 : (lo != lo) = false := by simp
  have e2 : (wd != wd) = false := by simp
  clear hr hs h2
  go_enter Try.func31, Try.ntmps31
  go_wp2_with fail
  refine Calls.mono (HE.out _ B2.out) ?_
  rintro e w1 ⟨rfl, hb1⟩
  go_wp2_with fail
  go_ret
  exact ⟨rfl, B2.out.trans (hb1.mono (by simp; omega))⟩

end Go.Proofs.Ytljcfokiocbgoaa

/- Flat forms as nodes, and their sharing: what is put one by one into a table is what is shared at once. -/
namespace Go.Proofs.Ytljcfokiocbgoaa
set_option linter.unusedVariables false
set_option linter.unusedSimpArgs false
open Go.RowKit

theorem shTo_app (ns m : List Tc) : ∀ k, k ≤ ns.length → shTo (ns ++ m) k = shTo ns k
  | 0, _ => rfl
  | k + 1, h => by
    rw [shTo, shTo, List.getElem?_append_left (by omega), shTo_app ns m k (by omega)]
/-- All of them shared. -/
def shAll (ns : List Tc) : List Tc × List Int := shTo ns ns.length
theorem shAll_snoc (ns : List Tc) (x : Tc) : shAll (ns ++ [x]) = shStep (shAll ns) x := by
  unfold shAll
  rw [List.length_append, List.length_singleton, shTo_succ (n := x) (by simp), shTo_app ns [x] _ (Nat.le_refl _)]
/-- Where the next one goes. -/
def plc (st : List Tc × List Int) (n : Tc) : Nat := match fndT st.1 (mvT st.2 n) with | some i => i | none => st.1.length
theorem shStep_to (st : List Tc × List Int) (n : Tc) : (shStep st n).2 = st.2 ++ [(plc st n : Int)] := by
  unfold shStep plc
  cases fndT st.1 (mvT st.2 n) <;> rfl

/-- How wide a variable is. -/
def dcW (ds : List Dc) (v : Int) : Int := ((ds[v.toNat]?).map Prod.snd).getD 0
/-- The nodes of a segment, m nodes stand ahead. -/
def unf1 (ds : List Dc) (m : Nat) (s : Sc) : List Tc :=
  if s.v < 0 then [⟨2, 0, 0, 0, s.bw, s.ws, []⟩]
  else if s.wd < dcW ds s.v then [⟨1, s.v, 0, 0, 0, [], []⟩, ⟨4, 0, s.lo + s.wd - 1, s.lo, 0, [], [(m : Int)]⟩]
  else [⟨1, s.v, 0, 0, 0, [], []⟩]
def unfTo (ds : List Dc) : List Sc → List Tc × List Int
  | [] => ([], [])
  | s :: t => ((unfTo ds t).1 ++ unf1 ds (unfTo ds t).1.length s, (unfTo ds t).2 ++ [(((unfTo ds t).1 ++ unf1 ds (unfTo ds t).1.length s).length : Int) - 1])
def unfN (ds : List Dc) (f : List Sc) : List Tc := if 1 < f.length then (unfTo ds f).1 ++ [⟨3, 0, 0, 0, 0, [], (unfTo ds f).2⟩] else (unfTo ds f).1

theorem unf1_len (ds : List Dc) (m : Nat) (s : Sc) : 1 ≤ (unf1 ds m s).length ∧ (unf1 ds m s).length ≤ 2 := by
  unfold unf1
  split
  · simp
  · split <;> simp
theorem unfTo_len (ds : List Dc) : ∀ f : List Sc, (unfTo ds f).2.length = f.length ∧ f.length ≤ (unfTo ds f).1.length ∧ (unfTo ds f).1.length ≤ 2 * f.length
  | [] => by simp [unfTo]
  | s :: t => by
    obtain ⟨h1, h2, h3⟩ := unfTo_len ds t
    have := unf1_len ds (unfTo ds t).1.length s
    simp [unfTo, h1]
    omega
theorem unfTo_kids (ds : List Dc) : ∀ f : List Sc, ∀ j ∈ (unfTo ds f).2, 0 ≤ j ∧ j < ((unfTo ds f).1.length : Int)
  | [], j, h => by simp [unfTo] at h
  | s :: t, j, h => by
    have hl := unf1_len ds (unfTo ds t).1.length s
    simp only [unfTo, List.mem_append, List.mem_singleton] at h ⊢
    rw [List.length_append]
    rcases h with h | h
    · have := unfTo_kids ds t j h
      omega
    · rw [List.length_append] at h
      omega
/-- Kids are ahead. -/
def aheadT (ns : List Tc) : Prop := ∀ (k : Nat) (n : Tc), ns[k]? = some n → ∀ j ∈ n.ks, 0 ≤ j ∧ j < (k : Int)
theorem aheadT.snoc {ns : List Tc} {x : Tc} (h : aheadT ns) (hx : ∀ j ∈ x.ks, 0 ≤ j ∧ j < (ns.length : Int)) : aheadT (ns ++ [x]) := fun k n hk j hj => by
  have hl := (List.getElem?_eq_some_iff.1 hk).1
  simp at hl
  by_cases e : k = ns.length
  · subst e
    simp at hk
    subst hk
    exact hx j hj
  · rw [List.getElem?_append_left (by omega)] at hk
    exact h k n hk j hj
theorem unfTo_ahead (ds : List Dc) : ∀ f : List Sc, aheadT (unfTo ds f).1
  | [] => fun k n hk => by simp [unfTo] at hk
  | s :: t => by
    have ih := unfTo_ahead ds t
    simp only [unfTo, unf1]
    split
    · exact ih.snoc (by simp)
    · split
      · have := (ih.snoc (x := ⟨1, s.v, 0, 0, 0, [], []⟩) (by simp)).snoc (x := ⟨4, 0, s.lo + s.wd - 1, s.lo, 0, [], [((unfTo ds t).1.length : Int)]⟩) (by simp; omega)
        simpa using this
      · exact ih.snoc (by simp)
theorem unfN_ahead (ds : List Dc) (f : List Sc) : aheadT (unfN ds f) := by
  unfold unfN
  split
  · exact (unfTo_ahead ds f).snoc (unfTo_kids ds f)
  · exact unfTo_ahead ds f

end Go.Proofs.Ytljcfokiocbgoaa

/- Words held against one another, on the given side. -/
namespace Go.Proofs.Ytljcfokiocbgoaa
set_option linter.unusedVariables false
set_option linter.unusedSimpArgs false
open Go.RowKit

/-- Two boxes of a call stand. -/
def Bb (w : World) (o1 o2 : Obj) (wk : World) : Prop := Below (w.heap.size + 2) ((w.alloc o1).alloc o2) wk
theorem Bb.start (w : World) (o1 o2 : Obj) : Bb w o1 o2 ((w.alloc o1).alloc o2) := Below.refl _ _
theorem Bb.size {w wk : World} {o1 o2 : Obj} (h : Bb w o1 o2 wk) : w.heap.size + 2 ≤ wk.heap.size := by have := Below.size h; simpa using this
theorem Bb.next {w wk w1 : World} {o1 o2 : Obj} (h : Bb w o1 o2 wk) (hb : Below wk.heap.size wk w1) : Bb w o1 o2 w1 := Below.trans h (hb.mono h.size)
theorem Bb.below {w wk : World} {o1 o2 : Obj} (h : Bb w o1 o2 wk) : Below w.heap.size w wk := Below.trans (Below.alloc (Below.alloc (Below.refl _ _) (Nat.le_refl _) _) (by simp) _) (Below.mono h (by omega))
theorem Bb.one {w wk : World} {cs : Array Value} {t : TypeId} {o2 : Obj} (h : Bb w (.cells cs t) o2 wk) (i : Nat) : wk.cell? ⟨w.heap.size, i, none⟩ = cs[i]? := by
  rw [Below.cell h (by simp)]; simp [go_sem]
theorem Bb.two {w wk : World} {cs : Array Value} {t : TypeId} {o1 : Obj} (h : Bb w o1 (.cells cs t) wk) (i : Nat) : wk.cell? ⟨w.heap.size + 1, i, none⟩ = cs[i]? := by
  rw [Below.cell h (by simp)]; simp [go_sem]

set_option maxHeartbeats 1000000 in
set_option maxRecDepth 100000 in
theorem l3Same_any (W : Int) (a : Option Addr) (c : Nat) (xs : List Nat) (V : Int) (b : Option Addr) (d : Nat) (ys : List Nat) (w : World) (hr : Rd w a xs) (hs : Rd w b ys) :
    Calls Try.prog 65 #[.agg #[.int .i64 W, .slice a xs.length c], .agg #[.int .i64 V, .slice b ys.length d]] w fun e w' => e = .returned (.bool (decide (W = V) && decide (xs = ys))) ∧ Below w.heap.size w w' := by
  have s0 := Bb.start w (.cells #[Value.int .i64 W, Value.slice a xs.length c] 53) (.cells #[Value.int .i64 V, Value.slice b ys.length d] 53)
  have HRA := kide (fun u (hu : Below w.heap.size w u) => hr.later hu)
  have HRB := kide (fun u (hu : Below w.heap.size w u) => hs.later hu)
  have hl1 := hr.1
  have hl2 := hs.1
  clear hr hs
  by_cases hWV : W = V
  · by_cases hlen : ys.length = xs.length
    · subst hWV
      have hR : (decide (W = W) && decide (xs = ys)) = decide (xs = ys) := by simp
      rw [hR]
      generalize hZ : decide (xs = ys) = Z
      have HZ := kide hZ
      have HLE := kide hlen
      rw [hlen] at s0
      simp only [hlen]
      have h1 : (W != W) = false := by simp
      have h2 : ((xs.length : Int) != (xs.length : Int)) = false := by simp
      clear hZ hlen hR hl2
      go_enter Try.func65, Try.ntmps65
      go_wp2_with fail
      clear h1 h2
      go_loopw [5] (fun i wr => ∃ k : Nat, k ≤ xs.length ∧ i = .int .i64 k ∧ (∀ j, j < k → xs.getD j 0 = ys.getD j 0) ∧ Bb w (.cells #[Value.int .i64 W, Value.slice a xs.length c] 53) (.cells #[Value.int .i64 W, Value.slice b xs.length d] 53) wr) (fun i _ => xs.length - (intOf i).toNat)
      case atStart => exact ⟨0, Nat.zero_le _, rfl, fun j h => by omega, s0⟩
      case round =>
        obtain ⟨k, hk, rfl, heq, s3⟩ := hrel
        have g1 := s3.one 1
        have f1 := s3.two 1
        simp at g1 f1
        by_cases hjx : k < xs.length
        · have hji : (k : Int) < (xs.length : Int) := by omega
          obtain ⟨-, -, hn | ⟨g, o, rfl, hc⟩⟩ := HRA.out wr s3.below
          · subst hn; simp at hjx
          obtain ⟨-, -, hn | ⟨g', o', rfl, hc'⟩⟩ := HRB.out wr s3.below
          · have := HLE.out; subst hn; simp at this; omega
          have hx1 := hc k hjx
          have hy1 := hc' k (by have := HLE.out; omega)
          obtain ⟨x, hx⟩ : ∃ x, xs.getD k 0 = x := ⟨_, rfl⟩
          obtain ⟨y, hy⟩ : ∃ y, ys.getD k 0 = y := ⟨_, rfl⟩
          rw [hx] at hx1
          rw [hy] at hy1
          have HX := kide hx
          have HY := kide hy
          have HEQ := kide heq
          clear hc hc' hx hy heq s0
          by_cases h1 : x = y
          · subst h1
            have hne : ((x : Int) != (x : Int)) = false := by simp
            go_wp2_with fail
            go_quiet (fail)
            go_wp2_with fail
            go_roundw
            case rel =>
              refine ⟨k + 1, by omega, by go_num, fun i h2 => ?_, s3.next (below_drewN (Below.refl _ _) _)⟩
              by_cases hij : i = k
              · subst hij
                rw [HX.out, HY.out]
              · exact HEQ.out i (by omega)
            case measure => first | (simp [intOf]; done) | (simp [intOf]; omega)
          · have hne : ((x : Int) != (y : Int)) = true := by simp; omega
            have HF : Hid (Z = false) := by
              show _ = _
              rw [← HZ.out]
              simp only [decide_eq_false_iff_not]
              intro he
              apply h1
              rw [← HX.out, ← HY.out, he]
            clear h1
            go_wp2_with fail
            go_quiet (fail)
            go_wp2_with fail
            go_ret
            exact ⟨ret_bool HF.out.symm, s3.below.trans (below_drewN (Below.refl _ _) _)⟩
        · have HT : Hid (Z = true) := by
            show _ = _
            rw [← HZ.out]
            simp only [decide_eq_true_eq]
            refine List.ext_getElem HLE.out.symm (fun j h1 h2 => ?_)
            have := heq j (by omega)
            simpa [List.getD, h1, h2] using this
          clear heq
          go_wp2_with fail
          go_ret
          exact ⟨ret_bool HT.out.symm, s3.below⟩
    · have hR : (decide (W = V) && decide (xs = ys)) = false := by
        simp only [Bool.and_eq_false_iff, decide_eq_false_iff_not]
        exact .inr (fun h => hlen (by rw [h]))
      rw [hR]
      have h1 : (W != V) = false := by simp [hWV]
      have h2 : ((xs.length : Int) != (ys.length : Int)) = true := by simp; omega
      clear hR hWV hlen
      go_enter Try.func65, Try.ntmps65
      go_wp2_with fail
      go_ret
      exact ⟨rfl, s0.below⟩
  · have hR : (decide (W = V) && decide (xs = ys)) = false := by simp [hWV]
    rw [hR]
    have h1 : (W != V) = true := by simp [hWV]
    clear hR hWV
    go_enter Try.func65, Try.ntmps65
    go_wp2_with fail
    go_ret
    exact ⟨rfl, s0.below⟩

end Go.Proofs.Ytljcfokiocbgoaa
