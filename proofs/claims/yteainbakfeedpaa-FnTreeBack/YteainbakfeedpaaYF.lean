/- Nodes that a call itself has made, without bounds: what a drawn tree is. -/
import Derived.Test.YteainbakfeedpaaVN
import Derived.Test.YteainbakfeedpaaXFnExactReadTree
import Derived.Test.YteainbakfeedpaaYE
namespace Go.Proofs.Yteainbakfeedpaa
set_option linter.unusedVariables false
set_option linter.unusedSimpArgs false
open Go.RowKit

/-- As ONs, without bounds. -/
structure O3 (w : World) (B : Nat) (v : Value) (ns : List Nd) : Prop where
  row : w.ownsRow B 59 2 v ns.length (nc ns)
  kid : ∀ (i : Nat) (n : Nd), ns[i]? = some n → RowI w B n.v n.ks
  apart : Apart ns
theorem ONs.o3 {w : World} {B : Nat} {v : Value} {ns : List Nd} (h : ONs w B v ns) : O3 w B v ns := ⟨h.row, h.kid, h.apart⟩
theorem O3.later {w w' : World} {B : Nat} {v : Value} {ns : List Nd} (h : O3 w B v ns) (hb : Below w.heap.size w w') : O3 w' B v ns :=
  ⟨owns_keep h.row (grown_below hb) (fun _ _ e => by cases e), fun i n hi => owns_keep (h.kid i n hi) (grown_below hb) (fun _ _ e => by cases e), h.apart⟩

theorem O3.push {w w1 : World} {B g cap : Nat} {v : Value} {ns : List Nd} {t : ByteArray} (h : O3 w B v ns) (hg : w.grownBy w1 v.ownBlock)
    (ho : w1.ownsRow B 59 2 (.slice (some ⟨g, 0, none⟩) (ns.length + 1) cap) (ns.length + 1) (nc ns ++ [.string t, .slice none 0 0])) :
    O3 w1 B (.slice (some ⟨g, 0, none⟩) (ns.length + 1) cap) (ns ++ [⟨t, none, 0, []⟩]) := by
  have key : ∀ (i : Nat) (n : Nd), (ns ++ [⟨t, none, 0, []⟩])[i]? = some n → ns[i]? = some n ∨ n = ⟨t, none, 0, []⟩ := by
    intro i n hi
    rw [List.getElem?_append] at hi
    split at hi
    · exact .inl hi
    · right
      have := (List.getElem?_eq_some_iff.1 hi).1
      simp at this
      rw [this] at hi
      simp at hi
      exact hi.symm
  refine ⟨?_, ?_, ?_⟩
  · rw [List.length_append, nc_append]
    exact ho
  · intro i n hi
    rcases key i n hi with hi | rfl
    · refine owns_keep (h.kid i n hi) hg fun k hk e => ?_
      obtain ⟨-, -, cs, fr, hb⟩ := owns_typed h.row e.symm
      exact owns_ne (h.kid i n hi) hb (by decide) hk
    · exact World.ownsRow_nil _ _ _ _
  · intro i j n m k hi hj hk hk'
    rcases key i n hi with hi | rfl
    · rcases key j m hj with hj | rfl
      · exact h.apart i j n m k hi hj hk hk'
      · cases hk'
    · cases hk

theorem O3.addKid {w w1 : World} {B g gN N capN cap u : Nat} {ns : List Nd} {n : Nd} {p : Int} (h : O3 w B (.slice (some ⟨gN, 0, none⟩) N capN) ns) (hu : ns[u]? = some n) (hg : w.grownBy w1 n.v.ownBlock)
    (ho : RowI w1 B (.slice (some ⟨g, 0, none⟩) (n.ks.length + 1) cap) (n.ks ++ [p])) (hat : n.v.ownBlock = some g ∨ w.heap.size ≤ g) :
    O3 (w1.setCell ⟨gN, u * 2 + 1, none⟩ (.slice (some ⟨g, 0, none⟩) (n.ks.length + 1) cap)) B (.slice (some ⟨gN, 0, none⟩) N capN) (ns.set u ⟨n.txt, some ⟨g, 0, none⟩, cap, n.ks ++ [p]⟩) := by
  have hN : N = ns.length := by
    rcases h.row.2 with ⟨h', -⟩ | ⟨g', cap', cur, h', -⟩
    · cases h'
    · cases h'; rfl
  subst hN
  have hul := (List.getElem?_eq_some_iff.1 hu).1
  obtain ⟨-, hgN, csN, frN, hbN⟩ := owns_typed h.row (k := gN) rfl
  have hrow1 : w1.ownsRow B 59 2 (.slice (some ⟨gN, 0, none⟩) ns.length capN) ns.length (nc ns) := owns_keep h.row hg (fun k hk e => by
    cases hk
    exact owns_ne (h.kid u n hu) hbN (by decide) e.symm)
  have hbN1 : w1.heap[gN]? = some (.cells csN 59 frN) := by
    rw [hg.block gN hgN (fun e => owns_ne (h.kid u n hu) hbN (by decide) e.symm)]
    exact hbN
  have hne : ∀ {v : Value} {k : Nat} {ks : List Int}, RowI w1 B v ks → v.ownBlock = some k → some k ≠ some gN := fun hr hk e => by
    cases e
    exact owns_ne hr hbN1 (by decide) hk
  have key : ∀ (i : Nat) (m : Nd), (ns.set u ⟨n.txt, some ⟨g, 0, none⟩, cap, n.ks ++ [p]⟩)[i]? = some m → (i = u ∧ m = ⟨n.txt, some ⟨g, 0, none⟩, cap, n.ks ++ [p]⟩) ∨ (i ≠ u ∧ ns[i]? = some m) := by
    intro i m hi
    by_cases e : u = i
    · subst e
      rw [List.getElem?_set_self hul] at hi
      cases hi
      exact .inl ⟨rfl, rfl⟩
    · rw [List.getElem?_set_ne e] at hi
      exact .inr ⟨fun e' => e e'.symm, hi⟩
  have hfar : ∀ (i : Nat) (m : Nd) (k : Nat), i ≠ u → ns[i]? = some m → m.v.ownBlock = some k → some k ≠ n.v.ownBlock := fun i m k hne' hi hk e => hne' (h.apart i u m n k hi hu hk e.symm)
  refine ⟨?_, ?_, ?_⟩
  · have := (hrow1.stored (u * 2 + 1) (.slice (some ⟨g, 0, none⟩) (n.ks.length + 1) cap)).1
    rw [List.length_set, ← nc_set_v hu (m := ⟨n.txt, some ⟨g, 0, none⟩, cap, n.ks ++ [p]⟩) rfl]
    have e : (⟨n.txt, some ⟨g, 0, none⟩, cap, n.ks ++ [p]⟩ : Nd).v = .slice (some ⟨g, 0, none⟩) (n.ks.length + 1) cap := by simp [Nd.v]
    rw [e]
    exact this
  · intro i m hi
    rcases key i m hi with ⟨-, rfl⟩ | ⟨hne', hi⟩
    · have e : (⟨n.txt, some ⟨g, 0, none⟩, cap, n.ks ++ [p]⟩ : Nd).v = .slice (some ⟨g, 0, none⟩) (n.ks.length + 1) cap := by simp [Nd.v]
      rw [e]
      exact owns_keep ho grown_set (fun k hk => hne ho hk)
    · have h1 : RowI w1 B m.v m.ks := owns_keep (h.kid i m hi) hg (fun k hk => hfar i m k hne' hi hk)
      exact owns_keep h1 grown_set (fun k hk => hne h1 hk)
  · intro i j m m' k hi hj hk hk'
    have low : ∀ (i2 : Nat) (m2 : Nd), i2 ≠ u → ns[i2]? = some m2 → m2.v.ownBlock = some k → k ≠ g := fun i2 m2 hne2 hi2 hk2 e => by
      rw [e] at hk2
      rcases hat with hat | hat
      · exact hfar i2 m2 g hne2 hi2 hk2 hat.symm
      · obtain ⟨-, h2, -⟩ := owns_typed (h.kid i2 m2 hi2) hk2
        omega
    rcases key i m hi with ⟨e1, e2⟩ | ⟨hne1, hi1⟩
    · rcases key j m' hj with ⟨e3, e4⟩ | ⟨hne2, hj2⟩
      · rw [e1, e3]
      · rw [e2] at hk
        cases hk
        exact absurd rfl (low j m' hne2 hj2 hk')
    · rcases key j m' hj with ⟨e3, e4⟩ | ⟨hne2, hj2⟩
      · rw [e4] at hk'
        cases hk'
        exact absurd rfl (low i m hne1 hi1 hk)
      · exact h.apart i j m m' k hi1 hj2 hk hk'

/-- What a node must keep to, to be read. -/
def Fit (n : Nd) : Prop := n.txt.size ≤ 1048576 ∧ n.ks.length ≤ 1048576 ∧ ∀ k ∈ n.ks, in64 k
theorem NdFit.fit1 {n : Nd} (h : NdFit n) : Fit n := ⟨h.txt, by have := h.len; omega, h.fit⟩

theorem O3.rd {w : World} {B : Nat} {v : Value} {ns : List Nd} (h : O3 w B v ns) (hl : ns.length ≤ 1048576) (hf : ∀ n ∈ ns, Fit n) : ∃ a c, v = .slice a ns.length c ∧ RdN w a ns := by
  have hsh : ∃ ao cap, v = .slice ao ns.length cap := by
    rcases h.row.2 with ⟨rfl, h'⟩ | ⟨g, cap, cur, rfl, -⟩
    · exact ⟨none, 0, by rw [h']⟩
    · exact ⟨_, _, rfl⟩
  obtain ⟨ao, cap, rfl⟩ := hsh
  refine ⟨ao, cap, rfl, hl, ?_⟩
  by_cases hp : ns = []
  · exact .inl hp
  · right
    obtain ⟨g, cap', hv, -, -⟩ := h.row.form (List.length_pos_iff.2 hp)
    cases hv
    refine ⟨g, 0, rfl, fun i n hi => ?_⟩
    have hil := (List.getElem?_eq_some_iff.1 hi).1
    obtain ⟨h0, h1⟩ := nc_get hi
    have c0 : w.cell? ⟨g, i * 2, none⟩ = some (.string n.txt) := by rw [World.ownsRow.cellAt h.row _ (by omega)]; exact h0
    have c1 : w.cell? ⟨g, i * 2 + 1, none⟩ = some n.v := by rw [World.ownsRow.cellAt h.row _ (by omega)]; exact h1
    have hfn := hf n (List.mem_of_getElem? hi)
    rw [Nat.zero_add]
    refine ⟨c0, c1, ⟨hfn.2.1, hfn.2.2, ?_⟩, hfn.1⟩
    by_cases hk : n.ks = []
    · exact .inl hk
    · right
      have hr := h.kid i n hi
      obtain ⟨g2, c2, hv2, -, -⟩ := World.ownsRow.form hr (List.length_pos_iff.2 hk)
      have ha : n.a = some ⟨g2, 0, none⟩ := by have := hv2; unfold Nd.v at this; exact (Value.slice.inj this).1
      refine ⟨g2, 0, ha, fun j hj => ?_⟩
      rw [hv2] at hr
      rw [Nat.zero_add, World.ownsRow.cellAt hr j (by omega)]
      simp [ints, List.getD, hj]

/-- The reader's blocks lie below a place. -/
structure Lo (w : World) (β : Nat) (a : Option Addr) (bs : List Nat) (B : Nat) : Prop where
  box : β < B
  row : ∀ x, a = some x → bs ≠ [] → x.block < B
theorem Rr.lo {w : World} {β : Nat} {a : Option Addr} {c : Nat} {bs : List Nat} (h : Rr w β a c bs) {B : Nat} (hB : w.heap.size ≤ B) : Lo w β a bs B := by
  refine ⟨Nat.lt_of_lt_of_le h.lt hB, fun x hx hb => ?_⟩
  obtain ⟨p, -, -, hr, -⟩ := h
  obtain ⟨-, -, h' | ⟨b, o, rfl, hc⟩⟩ := hr
  · exact absurd h' hb
  · cases hx
    exact Nat.lt_of_lt_of_le (block_lt_of_cell (hc 0 (List.length_pos_iff.2 hb))) hB
theorem Rr.low {w0 w w' : World} {β B : Nat} {a : Option Addr} {c : Nat} {bs : List Nat} (h : Rr w β a c bs) (hl : Lo w0 β a bs B) (hb : Below B w w') : Rr w' β a c bs := by
  obtain ⟨p, hp, hk, hr, hn⟩ := h
  refine ⟨p, hp, ?_, ?_, hn⟩
  · unfold Blk
    rw [hb.block β hl.box]; exact hk
  · obtain ⟨h1, h2, h3⟩ := hr
    refine ⟨h1, h2, ?_⟩
    rcases h3 with h3 | ⟨b, o, rfl, hc⟩
    · exact .inl h3
    · refine .inr ⟨b, o, rfl, fun i hi => ?_⟩
      have hbs : bs ≠ [] := fun e => by subst e; simp at hi
      rw [hb.cell (p := ⟨b, o + i, none⟩) (show b < B from hl.row ⟨b, o, none⟩ rfl hbs)]
      exact hc i hi
theorem Dw.low {β B : Nat} {w w1 w2 : World} (h : Dw β w w1) (hb : Below B w1 w2) (hB : w.heap.size ≤ B) : Dw β w w2 :=
  ⟨hb.os.trans h.os, hb.tape.trans h.tape, hb.output.trans h.output, Nat.le_trans h.size hb.size, fun k hk hne => (hb.block k (by omega)).trans (h.block k hk hne)⟩
/-- Nodes of the call's own stand through a draw. -/
theorem ONs.dw {w w' : World} {B β : Nat} {v : Value} {ns : List Nd} (h : ONs w B v ns) (hd : Dw β w w') (hB : β < B) : ONs w' B v ns :=
  h.keep hd (fun k hk e => by cases e; have := (owns_typed h.row hk).1; omega) (fun i n k hi hk e => by cases e; have := (owns_typed (h.kid i n hi) hk).1; omega)

/-- A low block may change. -/
theorem O3.set_low {w : World} {B k i : Nat} {x : Value} {v : Value} {ns : List Nd} (h : O3 w B v ns) (hk : k < B) : O3 (w.setCell ⟨k, i, none⟩ x) B v ns :=
  ⟨owns_keep h.row grown_set (fun j hj e => by cases e; have := (owns_typed h.row hj).1; omega), fun i' n hi => owns_keep (h.kid i' n hi) grown_set (fun j hj e => by cases e; have := (owns_typed (h.kid i' n hi) hj).1; omega), h.apart⟩
theorem O3.rd' {w : World} {B : Nat} {a : Option Addr} {c N : Nat} {ns : List Nd} (h : O3 w B (.slice a N c) ns) (hl : ns.length ≤ 1048576) (hf : ∀ n ∈ ns, Fit n) : N = ns.length ∧ RdN w a ns := by
  obtain ⟨a', c', hv, hr⟩ := h.rd hl hf
  cases hv
  exact ⟨rfl, hr⟩
theorem RdN.take {w : World} {a : Option Addr} {ns : List Nd} (h : RdN w a ns) (u : Nat) : RdN w a (ns.take u) := by
  refine ⟨Nat.le_trans (by rw [List.length_take]; omega) h.1, ?_⟩
  rcases h.2 with h | ⟨b, o, rfl, hc⟩
  · left; rw [h]; simp
  · refine .inr ⟨b, o, rfl, fun i n hi => hc i n ?_⟩
    rw [List.getElem?_take] at hi
    split at hi
    · exact hi
    · cases hi
theorem ONs.fits {w : World} {B : Nat} {v : Value} {ns : List Nd} (h : ONs w B v ns) : ∀ n ∈ ns, Fit n := fun n hn => by
  obtain ⟨i, hi⟩ := List.getElem?_of_mem hn
  exact (h.fit i n hi).fit1

/-- A call hands a tree back, and has turned the reader alone. -/
def RetTr (β : Nat) (a : Option Addr) (c : Nat) (bs : List Nat) (w : World) (e : Ending) (w' : World) : Prop :=
  ∃ (a' : Option Addr) (c' : Nat) (ns : List Nd), e = .returned (.agg #[.slice a' ns.length c']) ∧ RdN w' a' ns ∧ Rr w' β a c bs ∧ Dw β w w'

theorem RetTr.fin' {β : Nat} {a : Option Addr} {c : Nat} {bs : List Nat} {w wf : World} {ao : Option Addr} {cp N : Nat} {x : Value} {ns : List Nd} (hr0 : Rr w β a c bs) (hr : Rr wf β a c bs) (hd : Dw β w wf) (hN : N = ns.length)
    (ho : RdN (wf.setCell ⟨w.heap.size, 0, none⟩ x) ao ns) : RetTr β a c bs w (.returned (.agg #[.slice ao N cp])) (wf.setCell ⟨w.heap.size, 0, none⟩ x) := by
  have hb : Below w.heap.size wf (wf.setCell ⟨w.heap.size, 0, none⟩ x) := (Below.refl _ _).setCell (p := ⟨w.heap.size, 0, none⟩) (Nat.le_refl _) _
  exact ⟨ao, cp, ns, by rw [hN], ho, hr.low (hr0.lo (Nat.le_refl _)) hb, hd.low hb (Nat.le_refl _)⟩
theorem RetTr.fin {β : Nat} {a : Option Addr} {c : Nat} {bs : List Nat} {w wf : World} {B : Nat} {ao : Option Addr} {cp N : Nat} {x : Value} {ns : List Nd} (hr0 : Rr w β a c bs) (hr : Rr wf β a c bs) (hd : Dw β w wf)
    (ho : O3 wf B (.slice ao N cp) ns) (hB : w.heap.size < B) (hl : ns.length ≤ 1048576) (hf : ∀ n ∈ ns, Fit n) : RetTr β a c bs w (.returned (.agg #[.slice ao N cp])) (wf.setCell ⟨w.heap.size, 0, none⟩ x) :=
  RetTr.fin' hr0 hr hd (ho.rd' hl hf).1 ((ho.set_low hB).rd' hl hf).2

theorem O3.other {w : World} {B b i : Nat} {x v : Value} {ns : List Nd} {cs : Array Value} {t : TypeId} {fr : Nat × Nat} (h : O3 w B v ns) (hb : w.heap[b]? = some (.cells cs t fr)) (h1 : t ≠ 59) (h2 : t ≠ 2) : O3 (w.setCell ⟨b, i, none⟩ x) B v ns :=
  ⟨owns_keep h.row grown_set (fun k hk e => by cases e; exact owns_ne h.row hb h1 hk), fun i' n hi => owns_keep (h.kid i' n hi) grown_set (fun k hk e => by cases e; exact owns_ne (h.kid i' n hi) hb h2 hk), h.apart⟩
/-- The same, where the tree's own box is written first. -/
theorem RetTr.fin2 {β : Nat} {a : Option Addr} {c : Nat} {bs : List Nat} {w w2 wf : World} {B τ : Nat} {ao : Option Addr} {cp N : Nat} {x y : Value} {ns : List Nd} {cs : Array Value} {fr : Nat × Nat} (hr0 : Rr w β a c bs) (hr : Rr wf β a c bs) (hd : Dw β w wf)
    (hLo : Lo w2 β a bs B) (hB : w.heap.size < B) (hτ : B ≤ τ) (hT : wf.heap[τ]? = some (.cells cs 26 fr)) (ho : O3 wf B (.slice ao N cp) ns) (hl : ns.length ≤ 1048576) (hf : ∀ n ∈ ns, Fit n) :
    RetTr β a c bs w (.returned (.agg #[.slice ao N cp])) ((wf.setCell ⟨τ, 0, none⟩ y).setCell ⟨w.heap.size, 0, none⟩ x) := by
  have hb : Below B wf (wf.setCell ⟨τ, 0, none⟩ y) := (Below.refl _ _).setCell (p := ⟨τ, 0, none⟩) hτ _
  exact RetTr.fin hr0 (hr.low hLo hb) (hd.low hb (by omega)) (ho.other hT (by decide) (by decide)) hB hl hf
theorem RetTr.fin3 {β : Nat} {a : Option Addr} {c : Nat} {bs : List Nat} {w w2 wf : World} {B τ u : Nat} {ao : Option Addr} {cp cp' N : Nat} {x y : Value} {ns : List Nd} {cs : Array Value} {fr : Nat × Nat} (hr0 : Rr w β a c bs) (hr : Rr wf β a c bs) (hd : Dw β w wf)
    (hLo : Lo w2 β a bs B) (hB : w.heap.size < B) (hτ : B ≤ τ) (hT : wf.heap[τ]? = some (.cells cs 26 fr)) (ho : O3 wf B (.slice ao N cp) ns) (hl : ns.length ≤ 1048576) (hf : ∀ n ∈ ns, Fit n) (hu : u ≤ ns.length) :
    RetTr β a c bs w (.returned (.agg #[.slice ao u cp'])) ((wf.setCell ⟨τ, 0, none⟩ y).setCell ⟨w.heap.size, 0, none⟩ x) := by
  have hb : Below B wf (wf.setCell ⟨τ, 0, none⟩ y) := (Below.refl _ _).setCell (p := ⟨τ, 0, none⟩) hτ _
  exact RetTr.fin' (ns := ns.take u) hr0 (hr.low hLo hb) (hd.low hb (by omega)) (by rw [List.length_take]; omega) ((((ho.other hT (by decide) (by decide)).set_low hB).rd' hl hf).2.take u)

theorem nc_set_t {ns : List Nd} {i : Nat} {n m : Nd} (h : ns[i]? = some n) (ht : m.v = n.v) : (nc ns).set (i * 2) (.string m.txt) = nc (ns.set i m) := by
  rw [← nc_set h, ht]
  apply List.ext_getElem?
  intro j
  rw [List.getElem?_set (i := i * 2 + 1)]
  split
  · rename_i e
    subst e
    have := (nc_get h).2
    have hl := (List.getElem?_eq_some_iff.1 this).1
    rw [List.length_set, if_pos hl, List.getElem?_set_ne (by omega)]
    exact this
  · rfl
theorem O3.setTxt {w : World} {B gN N capN u : Nat} {ns : List Nd} {n : Nd} {q : ByteArray} (h : O3 w B (.slice (some ⟨gN, 0, none⟩) N capN) ns) (hu : ns[u]? = some n) :
    O3 (w.setCell ⟨gN, u * 2, none⟩ (.string q)) B (.slice (some ⟨gN, 0, none⟩) N capN) (ns.set u ⟨q, n.a, n.c, n.ks⟩) := by
  have hN : N = ns.length := by
    rcases h.row.2 with ⟨h', -⟩ | ⟨g', cap', cur, h', -⟩
    · cases h'
    · cases h'; rfl
  subst hN
  have hul := (List.getElem?_eq_some_iff.1 hu).1
  obtain ⟨-, hgN, csN, frN, hbN⟩ := owns_typed h.row (k := gN) rfl
  have key : ∀ (i : Nat) (m : Nd), (ns.set u ⟨q, n.a, n.c, n.ks⟩)[i]? = some m → ∃ m', ns[i]? = some m' ∧ m'.v = m.v ∧ m'.ks = m.ks := by
    intro i m hi
    by_cases e : u = i
    · subst e
      rw [List.getElem?_set_self hul] at hi
      cases hi
      exact ⟨n, hu, rfl, rfl⟩
    · rw [List.getElem?_set_ne e] at hi
      exact ⟨m, hi, rfl, rfl⟩
  refine ⟨?_, ?_, ?_⟩
  · have := (h.row.stored (u * 2) (.string q)).1
    rw [List.length_set, ← nc_set_t hu (m := ⟨q, n.a, n.c, n.ks⟩) rfl]
    exact this
  · intro i m hi
    obtain ⟨m', hi', e1, e2⟩ := key i m hi
    rw [← e1, ← e2]
    exact owns_keep (h.kid i m' hi') grown_set (fun k hk e => by cases e; exact owns_ne (h.kid i m' hi') hbN (by decide) hk)
  · intro i j m m2 k hi hj hk hk'
    obtain ⟨m', hi', e1, -⟩ := key i m hi
    obtain ⟨m2', hj', e2, -⟩ := key j m2 hj
    exact h.apart i j m' m2' k hi' hj' (by rw [e1]; exact hk) (by rw [e2]; exact hk')

/-- A drawn tree under way: the reader, the nodes, the tree's box and the result's. -/
structure Tl (w : World) (β : Nat) (a : Option Addr) (c : Nat) (bs : List Nat) (B τ gN N cap : Nat) (wf : World) (ns : List Nd) : Prop where
  rr : Rr wf β a c bs
  dw : Dw β w wf
  own : O3 wf B (.slice (some ⟨gN, 0, none⟩) N cap) ns
  hT : wf.heap[τ]? = some (.cells #[.slice (some ⟨gN, 0, none⟩) N cap] 26 (0, 0))
  hR : wf.heap[w.heap.size]? = some (.cells #[.slice none 0 0] 26 (0, 0))
section
variable {w : World} {β : Nat} {a : Option Addr} {c : Nat} {bs : List Nat} {B τ gN N cap : Nat} {wf : World} {ns : List Nd}
theorem Tl.later {w' : World} (h : Tl w β a c bs B τ gN N cap wf ns) (hb : Below wf.heap.size wf w') : Tl w β a c bs B τ gN N cap w' ns :=
  ⟨h.rr.later hb, h.dw.trans (Dw.of hb), h.own.later hb, (hb.block _ (lt_of_block h.hT)).trans h.hT, (hb.block _ (lt_of_block h.hR)).trans h.hR⟩
theorem Tl.draw {w' : World} (h : Tl w β a c bs B τ gN N cap wf ns) (hr : Rr w' β a c bs) (hd : Dw β wf w') (hβ : β < w.heap.size) (hB : w.heap.size < B) (hτ : B ≤ τ) : Tl w β a c bs B τ gN N cap w' ns :=
  ⟨hr, h.dw.trans hd, ⟨owns_keep h.own.row hd (fun k hk e => by cases e; have := (owns_typed h.own.row hk).1; omega), fun i n hi => owns_keep (h.own.kid i n hi) hd (fun k hk e => by cases e; have := (owns_typed (h.own.kid i n hi) hk).1; omega), h.own.apart⟩,
    (World.grownBy.block hd _ (lt_of_block h.hT) (by simp; omega)).trans h.hT, (World.grownBy.block hd _ (lt_of_block h.hR) (by simp; omega)).trans h.hR⟩
theorem Tl.nodes (h : Tl w β a c bs B τ gN N cap wf ns) : B ≤ gN ∧ gN < wf.heap.size ∧ τ ≠ gN ∧ w.heap.size ≠ gN := by
  obtain ⟨h1, h2, cs, fr, h3⟩ := owns_typed h.own.row (k := gN) rfl
  refine ⟨h1, h2, fun e => ?_, fun e => ?_⟩
  · rw [← e, h.hT] at h3; cases h3
  · rw [← e, h.hR] at h3; cases h3
theorem Tl.kidc {u : Nat} {n : Nd} (h : Tl w β a c bs B τ gN N cap wf ns) (hu : ns[u]? = some n) : wf.cell? ⟨gN, u * 2, none⟩ = some (.string n.txt) ∧ wf.cell? ⟨gN, u * 2 + 1, none⟩ = some n.v ∧ wf.frozen? ⟨gN, u * 2, none⟩ = false ∧ wf.frozen? ⟨gN, u * 2 + 1, none⟩ = false := by
  have hN : N = ns.length := by
    rcases h.own.row.2 with ⟨h', -⟩ | ⟨g', cap', cur, h', -⟩
    · cases h'
    · cases h'; rfl
  have hr := h.own.row
  rw [hN] at hr
  have hul := (List.getElem?_eq_some_iff.1 hu).1
  obtain ⟨h0, h1⟩ := nc_get hu
  rcases hr.2 with ⟨h', -⟩ | ⟨g', cap', cur, h', -, hb, -⟩
  · cases h'
  · cases h'
    exact ⟨by rw [World.ownsRow.cellAt hr _ (by omega)]; exact h0, by rw [World.ownsRow.cellAt hr _ (by omega)]; exact h1, frozen_of_row wf _ _ _ _ hb, frozen_of_row wf _ _ _ _ hb⟩
theorem Tl.txt {w2 : World} {u : Nat} {n : Nd} {q : ByteArray} (h : Tl w β a c bs B τ gN N cap wf ns) (hu : ns[u]? = some n) (hLo : Lo w2 β a bs B) (hB : w.heap.size < B) :
    Tl w β a c bs B τ gN N cap (wf.setCell ⟨gN, u * 2, none⟩ (.string q)) (ns.set u ⟨q, n.a, n.c, n.ks⟩) := by
  obtain ⟨h1, h2, h3, h4⟩ := h.nodes
  have hb : Below B wf (wf.setCell ⟨gN, u * 2, none⟩ (.string q)) := (Below.refl _ _).setCell (p := ⟨gN, u * 2, none⟩) h1 _
  exact ⟨h.rr.low hLo hb, h.dw.low hb (by omega), h.own.setTxt hu, (heap_setCell_other _ _ _ _ (fun e => h3 e)).trans h.hT, (heap_setCell_other _ _ _ _ (fun e => h4 e)).trans h.hR⟩
theorem Tl.kid {w1 w2 : World} {u g cap' : Nat} {n : Nd} {p : Int} (h : Tl w β a c bs B τ gN N cap wf ns) (hu : ns[u]? = some n) (hLo : Lo w2 β a bs B) (hB : w.heap.size < B) (hBs : B ≤ wf.heap.size) (hg : wf.grownBy w1 n.v.ownBlock)
    (ho : RowI w1 B (.slice (some ⟨g, 0, none⟩) (n.ks.length + 1) cap') (n.ks ++ [p])) (hat : n.v.ownBlock = some g ∨ wf.heap.size ≤ g) :
    Tl w β a c bs B τ gN N cap (w1.setCell ⟨gN, u * 2 + 1, none⟩ (.slice (some ⟨g, 0, none⟩) (n.ks.length + 1) cap')) (ns.set u ⟨n.txt, some ⟨g, 0, none⟩, cap', n.ks ++ [p]⟩) := by
  obtain ⟨h1, h2, h3, h4⟩ := h.nodes
  have hb1 : Below B wf w1 := (Below.refl _ _).grown hg hBs (fun k e => (owns_typed (h.own.kid u n hu) e).1)
  have hb : Below B wf (w1.setCell ⟨gN, u * 2 + 1, none⟩ (.slice (some ⟨g, 0, none⟩) (n.ks.length + 1) cap')) := hb1.setCell (p := ⟨gN, u * 2 + 1, none⟩) h1 _
  exact ⟨h.rr.low hLo hb, h.dw.low hb (by omega), h.own.addKid hu hg ho hat, (heap_setCell_other _ _ _ _ (fun e => h3 e)).trans ((hg.block _ (lt_of_block h.hT) (fun e => owns_ne (h.own.kid u n hu) h.hT (by decide) e.symm)).trans h.hT),
    (heap_setCell_other _ _ _ _ (fun e => h4 e)).trans ((hg.block _ (lt_of_block h.hR) (fun e => owns_ne (h.own.kid u n hu) h.hR (by decide) e.symm)).trans h.hR)⟩
theorem Tl.grow {w1 : World} {u : Nat} {n : Nd} (h : Tl w β a c bs B τ gN N cap wf ns) (hu : ns[u]? = some n) (hg : wf.grownBy w1 n.v.ownBlock) : w1.cell? ⟨τ, 0, none⟩ = some (.slice (some ⟨gN, 0, none⟩) N cap) ∧ w1.cell? ⟨gN, u * 2 + 1, none⟩ = some n.v ∧ w1.frozen? ⟨gN, u * 2 + 1, none⟩ = false := by
  obtain ⟨-, h2, cs, fr, h3⟩ := owns_typed h.own.row (k := gN) rfl
  have hne : some gN ≠ n.v.ownBlock := fun e => owns_ne (h.own.kid u n hu) h3 (by decide) e.symm
  obtain ⟨-, q1, -, q2⟩ := h.kidc hu
  refine ⟨cell_of_one ((hg.block _ (lt_of_block h.hT) (fun e => owns_ne (h.own.kid u n hu) h.hT (by decide) e.symm)).trans h.hT), hg.cell q1 hne, (World.frozen?_of_block (hg.block gN h2 hne)).trans q2⟩
theorem Tl.fin {x : Value} (h : Tl w β a c bs B τ gN N cap wf ns) (hr0 : Rr w β a c bs) (hB : w.heap.size < B) (hl : ns.length ≤ 1048576) (hf : ∀ n ∈ ns, Fit n) : RetTr β a c bs w (.returned (.agg #[.slice (some ⟨gN, 0, none⟩) N cap])) (wf.setCell ⟨w.heap.size, 0, none⟩ x) :=
  RetTr.fin hr0 h.rr h.dw h.own hB hl hf
end
theorem fit_set {ns : List Nd} {u : Nat} {m : Nd} (h : ∀ n ∈ ns, Fit n) (hm : Fit m) : ∀ n ∈ ns.set u m, Fit n := fun n hn => by
  rcases List.mem_or_eq_of_mem_set hn with h' | h'
  · exact h n h'
  · rw [h']; exact hm
theorem Dw.undrew {β : Nat} {w w' : World} (h : Dw β w.drew w') : Dw β w w' := ⟨h.os, h.tape, h.output, h.size, h.block⟩

def l5d : List ByteArray := [⟨#[]⟩, ⟨#[40]⟩, ⟨#[97, 32, 98]⟩, ⟨#[127]⟩, ⟨#[120]⟩]
theorem l5d_le : ∀ q ∈ l5d, q.size ≤ 3 := by decide
theorem lit_get5 (y : Nat) (hy : y < 5) : (#[Value.string { data := #[] }, Value.string { data := #[40] }, Value.string { data := #[97, 32, 98] }, Value.string { data := #[127] }, Value.string { data := #[120] }] : Array Value)[y]? = some (.string (l5d.getD y .empty)) := by
  match y, hy with
  | 0, _ => rfl
  | 1, _ => rfl
  | 2, _ => rfl
  | 3, _ => rfl
  | 4, _ => rfl
theorem Dw.undrew' {β : Nat} {w w' : World} {o : Obj} (h : Dw β (w.drew.alloc o) w') : Dw β (w.alloc o) w' := ⟨h.os, h.tape, h.output, h.size, h.block⟩

/-- What is asked of the drawn tree. -/
def TreeAny : Prop := ∀ (β : Nat) (a : Option Addr) (c : Nat) (bs : List Nat) (w : World), Rr w β a c bs →
    Calls Try.prog 51 #[.pointer (some ⟨β, 0, none⟩)] w (RetTr β a c bs w)

end Go.Proofs.Yteainbakfeedpaa
