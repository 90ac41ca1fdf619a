/- Nodes that a call itself has made: a row of nodes, a row of kids of its own for each; what changes them and what does not. -/
import Derived.Test.YteainbakfeedpaaTD
import Derived.Test.YteainbakfeedpaaVA
import Derived.Deep.AppendLies
namespace Go.Proofs.Yteainbakfeedpaa
set_option linter.unusedVariables false
set_option linter.unusedSimpArgs false
open Go.RowKit

def ints (ks : List Int) : List Value := ks.map fun (k : Int) => Value.int .i64 k
theorem ints_len (ks : List Int) : (ints ks).length = ks.length := by simp [ints]

/-- The slice of a node's kids. -/
def Nd.v (n : Nd) : Value := .slice n.a n.ks.length n.c
def Nd.cells (n : Nd) : List Value := [.string n.txt, n.v]
def nc (ns : List Nd) : List Value := ns.flatMap Nd.cells

theorem nc_len (ns : List Nd) : (nc ns).length = ns.length * 2 := by
  induction ns with
  | nil => rfl
  | cons x r ih => simp only [nc, List.flatMap_cons, List.length_append, List.length_cons] at ih ⊢; rw [ih]; simp [Nd.cells]; omega

theorem nc_append (ns ms : List Nd) : nc (ns ++ ms) = nc ns ++ nc ms := by simp [nc]

theorem nc_get {ns : List Nd} {i : Nat} {n : Nd} (h : ns[i]? = some n) : (nc ns)[i * 2]? = some (.string n.txt) ∧ (nc ns)[i * 2 + 1]? = some n.v := by
  induction ns generalizing i with
  | nil => simp at h
  | cons x r ih =>
    cases i with
    | zero => simp at h; subst h; exact ⟨rfl, rfl⟩
    | succ i =>
      simp at h
      have := ih h
      rw [show (i + 1) * 2 = i * 2 + 2 by omega]
      simpa [nc, Nd.cells] using this

theorem nc_set {ns : List Nd} {i : Nat} {n m : Nd} (h : ns[i]? = some n) : ((nc ns).set (i * 2) (.string m.txt)).set (i * 2 + 1) m.v = nc (ns.set i m) := by
  induction ns generalizing i with
  | nil => simp at h
  | cons x r ih =>
    cases i with
    | zero => simp [nc, Nd.cells]
    | succ i =>
      simp at h
      have := ih h
      rw [show (i + 1) * 2 = i * 2 + 2 by omega]
      simp only [nc, List.flatMap_cons, Nd.cells, List.set_cons_succ, List.cons_append, List.nil_append] at this ⊢
      rw [← this]

theorem nc_set_v {ns : List Nd} {i : Nat} {n m : Nd} (h : ns[i]? = some n) (ht : m.txt = n.txt) : (nc ns).set (i * 2 + 1) m.v = nc (ns.set i m) := by
  rw [← nc_set h, ht]
  congr 1
  apply List.ext_getElem?
  intro j
  rw [List.getElem?_set]
  split
  · rename_i e
    subst e
    have := (nc_get h).1
    rw [this]
    have hl := (List.getElem?_eq_some_iff.1 this).1
    rw [if_pos hl]
  · rfl

def RowI (w : World) (B : Nat) (v : Value) (ks : List Int) : Prop := w.ownsRow B 2 1 v ks.length (ints ks)

/-- No two nodes share the block of their kids. -/
def Apart (ns : List Nd) : Prop := ∀ (i j : Nat) (n m : Nd) (k : Nat), ns[i]? = some n → ns[j]? = some m → n.v.ownBlock = some k → m.v.ownBlock = some k → i = j

structure NdFit (n : Nd) : Prop where
  txt : n.txt.size ≤ 1048576
  len : n.ks.length ≤ 2000
  fit : ∀ k ∈ n.ks, in64 k

/-- The nodes ns, in blocks from B on that the call itself has made. -/
structure ONs (w : World) (B : Nat) (v : Value) (ns : List Nd) : Prop where
  len : ns.length ≤ 2000
  row : w.ownsRow B 59 2 v ns.length (nc ns)
  kid : ∀ (i : Nat) (n : Nd), ns[i]? = some n → RowI w B n.v n.ks
  apart : Apart ns
  fit : ∀ (i : Nat) (n : Nd), ns[i]? = some n → NdFit n

theorem owns_typed {w : World} {B e size n : Nat} {v : Value} {xs : List Value} (h : w.ownsRow B e size v n xs) {k : Nat} (hk : v.ownBlock = some k) : B ≤ k ∧ k < w.heap.size ∧ ∃ cs fr, w.heap[k]? = some (.cells cs e fr) := by
  rcases h.2 with ⟨rfl, -⟩ | ⟨g, cap, cur, rfl, hg, hh, -⟩
  · cases hk
  · cases hk; exact ⟨hg, lt_of_block hh, _, _, hh⟩

theorem owns_ne {w : World} {B e size n : Nat} {v : Value} {xs : List Value} (h : w.ownsRow B e size v n xs) {b : Nat} {cs : Array Value} {t : TypeId} {fr : Nat × Nat} (hb : w.heap[b]? = some (.cells cs t fr)) (ht : t ≠ e) : v.ownBlock ≠ some b := fun hk => by
  obtain ⟨-, -, cs', fr', h2⟩ := owns_typed h hk
  rw [hb] at h2
  cases h2
  exact ht rfl

theorem owns_keep {w w' : World} {B e size n : Nat} {v : Value} {xs : List Value} {row : Option Nat} (h : w.ownsRow B e size v n xs) (hg : w.grownBy w' row) (hne : ∀ k, v.ownBlock = some k → some k ≠ row) : w'.ownsRow B e size v n xs := by
  refine ⟨h.1, ?_⟩
  rcases h.2 with h' | ⟨g, cap, cur, rfl, hB, hh, r⟩
  · exact .inl h'
  · exact .inr ⟨g, cap, cur, rfl, hB, by rw [hg.block g (lt_of_block hh) (hne g rfl)]; exact hh, r⟩

theorem grown_below {w w' : World} (h : Below w.heap.size w w') : w.grownBy w' none := ⟨h.os, h.tape, h.output, h.size, fun k hk _ => h.block k hk⟩
theorem grown_set {w : World} {b i : Nat} {u : Value} : w.grownBy (w.setCell ⟨b, i, none⟩ u) (some b) := ⟨rfl, rfl, rfl, by simp, fun k _ hk => heap_setCell_other w ⟨b, i, none⟩ k u (fun e => hk (by simp [e]))⟩

theorem ONs.keep {w w' : World} {B : Nat} {v : Value} {ns : List Nd} {row : Option Nat} (h : ONs w B v ns) (hg : w.grownBy w' row) (hv : ∀ k, v.ownBlock = some k → some k ≠ row) (hk : ∀ (i : Nat) (n : Nd) (k : Nat), ns[i]? = some n → n.v.ownBlock = some k → some k ≠ row) : ONs w' B v ns :=
  ⟨h.len, owns_keep h.row hg hv, fun i n hi => owns_keep (h.kid i n hi) hg (fun k hk' => hk i n k hi hk'), h.apart, h.fit⟩
theorem ONs.later {w w' : World} {B : Nat} {v : Value} {ns : List Nd} (h : ONs w B v ns) (hb : Below w.heap.size w w') : ONs w' B v ns := h.keep (grown_below hb) (fun _ _ e => by cases e) (fun _ _ _ _ _ e => by cases e)
/-- A block of another kind may change. -/
theorem ONs.other {w w' : World} {B b : Nat} {v : Value} {ns : List Nd} {cs : Array Value} {t : TypeId} {fr : Nat × Nat} (h : ONs w B v ns) (hg : w.grownBy w' (some b)) (hb : w.heap[b]? = some (.cells cs t fr)) (h1 : t ≠ 59) (h2 : t ≠ 2) : ONs w' B v ns :=
  h.keep hg (fun k hk e => by cases e; exact owns_ne h.row hb h1 hk) (fun i n k hi hk e => by cases e; exact owns_ne (h.kid i n hi) hb h2 hk)

theorem ONs.nil (w : World) (B : Nat) : ONs w B (.slice none 0 0) [] := ⟨by simp, World.ownsRow_nil _ _ _ _, fun i n h => by simp at h, fun i j n m k h => by simp at h, fun i n h => by simp at h⟩

theorem ONs.shape {w : World} {B : Nat} {v : Value} {ns : List Nd} (h : ONs w B v ns) : ∃ ao cap, v = .slice ao ns.length cap ∧ ns.length ≤ cap ∧ cap ≤ maxLen := by
  rcases h.row.2 with ⟨rfl, h'⟩ | ⟨g, cap, cur, rfl, -, -, h1, h2, -⟩
  · exact ⟨none, 0, by rw [h'], by omega, Nat.zero_le _⟩
  · exact ⟨some ⟨g, 0, none⟩, cap, rfl, h1, h2⟩
theorem ONs.form {w : World} {B : Nat} {v : Value} {ns : List Nd} (h : ONs w B v ns) (hp : 0 < ns.length) : ∃ g cap, v = .slice (some ⟨g, 0, none⟩) ns.length cap ∧ B ≤ g ∧ g < w.heap.size ∧ ns.length ≤ cap := by
  obtain ⟨g, cap, rfl, h1, h2⟩ := h.row.form hp
  refine ⟨g, cap, rfl, h1, h2, ?_⟩
  rcases h.row.2 with ⟨h', -⟩ | ⟨g', cap', cur, h', -, -, h3, -⟩
  · cases h'
  · cases h'; exact h3

theorem ONs.cells {w : World} {B g cap N : Nat} {ns : List Nd} (h : ONs w B (.slice (some ⟨g, 0, none⟩) N cap) ns) {i : Nat} {n : Nd} (hi : ns[i]? = some n) : w.cell? ⟨g, i * 2, none⟩ = some (.string n.txt) ∧ w.cell? ⟨g, i * 2 + 1, none⟩ = some n.v ∧ (∀ j, w.frozen? ⟨g, j, none⟩ = false) := by
  have hN : N = ns.length := by
    rcases h.row.2 with ⟨h', -⟩ | ⟨g', cap', cur, h', -⟩
    · cases h'
    · cases h'; rfl
  subst hN
  have hl := (List.getElem?_eq_some_iff.1 hi).1
  obtain ⟨h0, h1⟩ := nc_get hi
  exact ⟨by rw [World.ownsRow.cellAt h.row _ (by omega)]; exact h0, by rw [World.ownsRow.cellAt h.row _ (by omega)]; exact h1, fun j => World.ownsRow.frozenAt h.row j⟩

/-- The nodes as they are read. -/
theorem ONs.rd {w : World} {B : Nat} {v : Value} {ns : List Nd} (h : ONs w B v ns) : ∃ a c, v = .slice a ns.length c ∧ RdN w a ns := by
  obtain ⟨ao, cap, rfl, -, -⟩ := h.shape
  refine ⟨ao, cap, rfl, by have := h.len; omega, ?_⟩
  by_cases hp : ns = []
  · exact .inl hp
  · right
    obtain ⟨g, cap', hv, -, -⟩ := h.form (List.length_pos_iff.2 hp)
    cases hv
    refine ⟨g, 0, rfl, fun i n hi => ?_⟩
    obtain ⟨h0, h1, -⟩ := h.cells hi
    have hf := h.fit i n hi
    rw [Nat.zero_add]
    refine ⟨h0, h1, ⟨by have := hf.len; omega, hf.fit, ?_⟩, hf.txt⟩
    by_cases hk : n.ks = []
    · exact .inl hk
    · right
      have hr := h.kid i n hi
      obtain ⟨g2, c2, hv2, -, -⟩ := World.ownsRow.form hr (List.length_pos_iff.2 hk)
      have ha : n.a = some ⟨g2, 0, none⟩ := by have := hv2; unfold Nd.v at this; exact (Value.slice.inj this).1
      refine ⟨g2, 0, ha, fun j hj => ?_⟩
      rw [hv2] at hr
      rw [Nat.zero_add, World.ownsRow.cellAt hr j (by omega)]
      simp [ints, List.getD, hj]

theorem ONs.push {w w1 : World} {B g cap : Nat} {v : Value} {ns : List Nd} {t : ByteArray} (h : ONs w B v ns) (hl : ns.length < 2000) (hg : w.grownBy w1 v.ownBlock)
    (ho : w1.ownsRow B 59 2 (.slice (some ⟨g, 0, none⟩) (ns.length + 1) cap) (ns.length + 1) (nc ns ++ [.string t, .slice none 0 0])) (ht : t.size ≤ 1048576) :
    ONs w1 B (.slice (some ⟨g, 0, none⟩) (ns.length + 1) cap) (ns ++ [⟨t, none, 0, []⟩]) := by
  have key : ∀ (i : Nat) (n : Nd), (ns ++ [⟨t, none, 0, []⟩])[i]? = some n → ns[i]? = some n ∨ n = ⟨t, none, 0, []⟩ := by
    intro i n hi
    rw [List.getElem?_append] at hi
    split at hi
    · exact .inl hi
    · right
      have := (List.getElem?_eq_some_iff.1 hi).1
      simp at this
      rw [this] at hi
      simp at hi
      exact hi.symm
  refine ⟨by simp; omega, ?_, ?_, ?_, ?_⟩
  · rw [List.length_append, nc_append]
    exact ho
  · intro i n hi
    rcases key i n hi with hi | rfl
    · refine owns_keep (h.kid i n hi) hg fun k hk e => ?_
      obtain ⟨-, -, cs, fr, hb⟩ := owns_typed h.row e.symm
      exact owns_ne (h.kid i n hi) hb (by decide) hk
    · exact World.ownsRow_nil _ _ _ _
  · intro i j n m k hi hj hk hk'
    rcases key i n hi with hi | rfl
    · rcases key j m hj with hj | rfl
      · exact h.apart i j n m k hi hj hk hk'
      · cases hk'
    · cases hk
  · intro i n hi
    rcases key i n hi with hi | rfl
    · exact h.fit i n hi
    · exact ⟨ht, by simp, by simp⟩

theorem ONs.addKid {w w1 : World} {B g gN N capN cap u : Nat} {ns : List Nd} {n : Nd} {p : Int} (h : ONs w B (.slice (some ⟨gN, 0, none⟩) N capN) ns) (hu : ns[u]? = some n) (hg : w.grownBy w1 n.v.ownBlock)
    (ho : RowI w1 B (.slice (some ⟨g, 0, none⟩) (n.ks.length + 1) cap) (n.ks ++ [p])) (hat : n.v.ownBlock = some g ∨ w.heap.size ≤ g) (hp : in64 p) (hl : n.ks.length < 2000) :
    ONs (w1.setCell ⟨gN, u * 2 + 1, none⟩ (.slice (some ⟨g, 0, none⟩) (n.ks.length + 1) cap)) B (.slice (some ⟨gN, 0, none⟩) N capN) (ns.set u ⟨n.txt, some ⟨g, 0, none⟩, cap, n.ks ++ [p]⟩) := by
  have hN : N = ns.length := by
    rcases h.row.2 with ⟨h', -⟩ | ⟨g', cap', cur, h', -⟩
    · cases h'
    · cases h'; rfl
  subst hN
  have hul := (List.getElem?_eq_some_iff.1 hu).1
  obtain ⟨-, hgN, csN, frN, hbN⟩ := owns_typed h.row (k := gN) rfl
  have hrow1 : w1.ownsRow B 59 2 (.slice (some ⟨gN, 0, none⟩) ns.length capN) ns.length (nc ns) := owns_keep h.row hg (fun k hk e => by
    cases hk
    exact owns_ne (h.kid u n hu) hbN (by decide) e.symm)
  have hbN1 : w1.heap[gN]? = some (.cells csN 59 frN) := by
    rw [hg.block gN hgN (fun e => owns_ne (h.kid u n hu) hbN (by decide) e.symm)]
    exact hbN
  have hne : ∀ {v : Value} {k : Nat} {ks : List Int}, RowI w1 B v ks → v.ownBlock = some k → some k ≠ some gN := fun hr hk e => by
    cases e
    exact owns_ne hr hbN1 (by decide) hk
  have key : ∀ (i : Nat) (m : Nd), (ns.set u ⟨n.txt, some ⟨g, 0, none⟩, cap, n.ks ++ [p]⟩)[i]? = some m → (i = u ∧ m = ⟨n.txt, some ⟨g, 0, none⟩, cap, n.ks ++ [p]⟩) ∨ (i ≠ u ∧ ns[i]? = some m) := by
    intro i m hi
    by_cases e : u = i
    · subst e
      rw [List.getElem?_set_self hul] at hi
      cases hi
      exact .inl ⟨rfl, rfl⟩
    · rw [List.getElem?_set_ne e] at hi
      exact .inr ⟨fun e' => e e'.symm, hi⟩
  have hfar : ∀ (i : Nat) (m : Nd) (k : Nat), i ≠ u → ns[i]? = some m → m.v.ownBlock = some k → some k ≠ n.v.ownBlock := fun i m k hne' hi hk e => hne' (h.apart i u m n k hi hu hk e.symm)
  refine ⟨by simpa using h.len, ?_, ?_, ?_, ?_⟩
  · have := (hrow1.stored (u * 2 + 1) (.slice (some ⟨g, 0, none⟩) (n.ks.length + 1) cap)).1
    rw [List.length_set, ← nc_set_v hu (m := ⟨n.txt, some ⟨g, 0, none⟩, cap, n.ks ++ [p]⟩) rfl]
    have e : (⟨n.txt, some ⟨g, 0, none⟩, cap, n.ks ++ [p]⟩ : Nd).v = .slice (some ⟨g, 0, none⟩) (n.ks.length + 1) cap := by simp [Nd.v]
    rw [e]
    exact this
  · intro i m hi
    rcases key i m hi with ⟨-, rfl⟩ | ⟨hne', hi⟩
    · have e : (⟨n.txt, some ⟨g, 0, none⟩, cap, n.ks ++ [p]⟩ : Nd).v = .slice (some ⟨g, 0, none⟩) (n.ks.length + 1) cap := by simp [Nd.v]
      rw [e]
      exact owns_keep ho grown_set (fun k hk => hne ho hk)
    · have h1 : RowI w1 B m.v m.ks := owns_keep (h.kid i m hi) hg (fun k hk => hfar i m k hne' hi hk)
      exact owns_keep h1 grown_set (fun k hk => hne h1 hk)
  · intro i j m m' k hi hj hk hk'
    have low : ∀ (i2 : Nat) (m2 : Nd), i2 ≠ u → ns[i2]? = some m2 → m2.v.ownBlock = some k → k ≠ g := fun i2 m2 hne2 hi2 hk2 e => by
      rw [e] at hk2
      rcases hat with hat | hat
      · exact hfar i2 m2 g hne2 hi2 hk2 hat.symm
      · obtain ⟨-, h2, -⟩ := owns_typed (h.kid i2 m2 hi2) hk2
        omega
    rcases key i m hi with ⟨e1, e2⟩ | ⟨hne1, hi1⟩
    · rcases key j m' hj with ⟨e3, e4⟩ | ⟨hne2, hj2⟩
      · rw [e1, e3]
      · rw [e2] at hk
        cases hk
        exact absurd rfl (low j m' hne2 hj2 hk')
    · rcases key j m' hj with ⟨e3, e4⟩ | ⟨hne2, hj2⟩
      · rw [e4] at hk'
        cases hk'
        exact absurd rfl (low i m hne1 hi1 hk)
      · exact h.apart i j m m' k hi1 hj2 hk hk'
  · intro i m hi
    rcases key i m hi with ⟨-, rfl⟩ | ⟨-, hi⟩
    · have := h.fit u n hu
      exact ⟨this.txt, by simp; omega, fun k hk => by rcases List.mem_append.1 hk with hk | hk; exact this.fit k hk; simp at hk; rw [hk]; exact hp⟩
    · exact h.fit i m hi

end Go.Proofs.Yteainbakfeedpaa
