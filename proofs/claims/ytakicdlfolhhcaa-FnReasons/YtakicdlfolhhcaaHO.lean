/- A drawn forest. -/
import Derived.Test.YtakicdlfolhhcaaHM
import Derived.Test.YtakicdlfolhhcaaHN
import Derived.Handy
namespace Go.Proofs.Ytakicdlfolhhcaa
set_option linter.unusedVariables false
set_option linter.unusedSimpArgs false
open Go.RowKit

theorem belowI_any (n : Int) (h0 : 0 ≤ n) (hn : n ≤ 4194304) (β : Nat) (a : Option Addr) (c : Nat) (bs : List Nat) (w : World) (h : Rr w β a c bs) :
    Calls Try.prog 75 #[.pointer (some ⟨β, 0, none⟩), .int .i64 n] w fun e w' => ∃ x : Nat, e = .returned (.int .i64 x) ∧ (x = 0 ∨ (x : Int) < n) ∧ Rr w' β a c bs ∧ Dw β w w' := by
  obtain ⟨m, rfl⟩ : ∃ m : Nat, n = (m : Int) := ⟨n.toNat, by omega⟩
  refine Calls.mono (below_any m (by omega) β a c bs w h) ?_
  rintro e w' ⟨x, h1, h2, h3, h4⟩
  exact ⟨x, h1, by omega, h3, h4⟩

theorem Dw.put {β : Nat} {w u : World} (h : Dw β w u) (b o : Nat) (v : Value) (hb : w.heap.size ≤ b) : Dw β w (u.setCell ⟨b, o, none⟩ v) :=
  ⟨h.os, h.tape, h.output, by simpa using h.size, fun k hk hne => by rw [heap_setCell_other _ _ _ _ (show k ≠ b by omega)]; exact h.block k hk hne⟩

/-- The bytes of a reader lie ahead of a block. -/
def Ah (B : Nat) (a : Option Addr) (bs : List Nat) : Prop := ∀ x, a = some x → bs ≠ [] → x.block < B

theorem Rr.put {u : World} {β B : Nat} {a : Option Addr} {c : Nat} {bs : List Nat} (h : Rr u β a c bs) (hB : B ≤ u.heap.size) (ha : Ah B a bs) {b : Nat} (hb : B ≤ b) (hβ : b ≠ β) (o : Nat) (v : Value) : Rr (u.setCell ⟨b, o, none⟩ v) β a c bs := by
  obtain ⟨p, hp, hk, hr, hn⟩ := h
  refine ⟨p, hp, ?_, hr.kept (gsc u ⟨b, o, none⟩ v) (fun x e hbs e' => ?_), hn⟩
  · show (u.setCell ⟨b, o, none⟩ v).heap[β]? = _
    rw [heap_setCell_other _ _ _ _ (fun e => hβ e.symm)]
    exact hk
  · have := ha x e hbs
    have e2 : b = x.block := by simpa using e'
    omega

theorem OK3.dw {u u' : World} {B β : Nat} {v : Value} {ls : List Lk} (h : OK3 u B v ls) (hd : Dw β u u') (hb : β < B) : OK3 u' B v ls := World.ownsRow.kept h hd (by
  cases h' : v.ownBlock with
  | none => exact .inl rfl
  | some k =>
    refine .inr (fun e => ?_)
    have := (own3_lt h h').1
    cases e
    omega)

theorem Dw.row3 {β n : Nat} {w u u' : World} {e : TypeId} {v : Value} {xs : List Value} (h : Dw β w u) (ho : u.ownsRow w.heap.size e 3 v n xs) (hg : u.grownBy u' v.ownBlock) : Dw β w u' :=
  ⟨hg.os.trans h.os, hg.tape.trans h.tape, hg.output.trans h.output, Nat.le_trans h.size hg.size, fun k hk hne => by
    rw [hg.block k (Nat.lt_of_lt_of_le hk h.size) (fun e => by have := (own3_lt ho e.symm).1; omega)]
    exact h.block k hk hne⟩

theorem Rr.row3 {u u' : World} {β B n : Nat} {a : Option Addr} {c : Nat} {bs : List Nat} {e : TypeId} {v : Value} {xs : List Value} (h : Rr u β a c bs) (hB : B ≤ u.heap.size) (ha : Ah B a bs) (ho : u.ownsRow B e 3 v n xs) (hβ : β < B) (hg : u.grownBy u' v.ownBlock) : Rr u' β a c bs := by
  obtain ⟨p, hp, hk, hr, hn⟩ := h
  refine ⟨p, hp, ?_, hr.kept hg (fun x e hbs e' => ?_), hn⟩
  · show u'.heap[β]? = _
    rw [hg.block β hk.lt (fun e => by have := (own3_lt ho e.symm).1; omega)]
    exact hk
  · have h1 := ha x e hbs
    have h2 := (own3_lt ho e').1
    omega

theorem OK3.cell2 {w : World} {B g cap N : Nat} {l : Lk} {t : List Lk} (h : OK3 w B (.slice (some ⟨g, 0, none⟩) N cap) (l :: t)) : (∃ cur, w.heap[g]? = some (.cells cur 55 (0, 0))) ∧ w.cell? ⟨g, 2, none⟩ = some (.int .i64 l.2.2) ∧ w.frozen? ⟨g, 2, none⟩ = false := by
  have hcells := World.ownsRow.cells h (g := g) rfl 2 (.int .i64 l.2.2) (by simp [lkc])
  rw [Addr.add_lit] at hcells
  obtain ⟨h1, h2⟩ := h
  rcases h2 with ⟨h0, -⟩ | ⟨g', cap', cur, e, hB, hh, -⟩
  · cases h0
  · cases e
    exact ⟨⟨cur, hh⟩, by simpa using hcells, frozen_of_row w g 2 _ _ hh⟩

theorem OK3.put2 {w : World} {B g cap N : Nat} {l : Lk} {t : List Lk} (h : OK3 w B (.slice (some ⟨g, 0, none⟩) N cap) (l :: t)) (x : Int) : OK3 (w.setCell ⟨g, 2, none⟩ (.int .i64 x)) B (.slice (some ⟨g, 0, none⟩) N cap) ((l.1, l.2.1, x) :: t) := by
  obtain ⟨h1, h2⟩ := h
  rcases h2 with ⟨h0, -⟩ | ⟨g', cap', cur, e, hB, hh, h3, h4, h5, h6⟩
  · cases h0
  · cases e
    refine ⟨by simpa [lkc] using h1, .inr ⟨g, cap, cur.setIfInBounds 2 (.int .i64 x), by simp, hB, heap_setCell_same w g 2 _ _ _ hh, by simpa using h3, h4, by simpa using h5, ?_⟩⟩
    have h6' : cur.toList.take ((l :: t).length * 3) = lkc (l :: t) := h6
    have e : ((l.1, l.2.1, x) :: t).length = (l :: t).length := rfl
    rw [e, Array.toList_setIfInBounds, List.take_set, h6']
    simp [lkc]

/-- A drawn forest in new memory. -/
def RetFo (β : Nat) (a : Option Addr) (c : Nat) (bs : List Nat) (w : World) (e : Ending) (w' : World) : Prop := ∃ z v ls, e = .returned (.agg #[.int .i64 z, v]) ∧ in64 z ∧ OK3 w' w.heap.size v ls ∧ ls.length ≤ 64 ∧ (∀ l ∈ ls, in64 l.1 ∧ in64 l.2.1 ∧ in64 l.2.2) ∧ Rr w' β a c bs ∧ Dw β w w'

theorem specJoin_own (z x y q : Int) (v : Value) (B : Nat) (ls : List Lk) (w : World) (h : OK3 w B v ls) (hl : ls.length ≤ 1048576) (hx : ∀ l ∈ ls, in64 l.1 ∧ in64 l.2.1 ∧ in64 l.2.2) :
    Calls Try.prog 18 #[.agg #[.int .i64 z, v], .int .i64 x, .int .i64 y, .int .i64 q] w (RetJ w (joinR z ls x y q)) := by
  have hk := OK3.hold h hl hx
  rcases h.2 with ⟨rfl, h0⟩ | ⟨g, cap, cur, rfl, -⟩
  · have e : ls = [] := List.eq_nil_of_length_eq_zero h0
    subst e
    exact specJoin_gen z none 0 0 [] x y q w ⟨by simp, by simp, .inl rfl⟩ rfl (fun u hu => l7Copy_nil z u)
  · obtain ⟨a, c, e, hh⟩ := hk
    cases e
    exact specJoin_gen z (some ⟨g, 0, none⟩) ls.length cap ls x y q w hh.rd rfl (fun u hu => l7Copy_any z g ls.length cap ls u (hh.rd.later hu) rfl)

theorem joinR_yes {z : Int} {ls : List Lk} {x y q : Int} (h : (joinR z ls x y q).2.2.2 = true) : (joinR z ls x y q).1 = z ∧ (joinR z ls x y q).2.1.length ≤ ls.length + 1 := by
  unfold joinR at h ⊢
  cases hf : forR z ls with
  | none => rw [hf] at h; simp at h
  | some L =>
    rw [hf] at h
    simp only [] at h ⊢
    split
    · split
      · exact ⟨rfl, by simp⟩
      · exact ⟨rfl, by simp⟩
    · rename_i hn
      rw [if_neg hn] at h
      simp at h

end Go.Proofs.Ytakicdlfolhhcaa
