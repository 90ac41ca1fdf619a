/- Contracts of the program's stack of whole numbers, wherever it lies. -/
import Derived.Test.YteainbakfeedpaaVB
import Derived.Deep.RegionLaw
namespace Go.Proofs.Yteainbakfeedpaa
set_option linter.unusedVariables false
set_option linter.unusedSimpArgs false
open Go.RowKit

theorem hidI {p : Prop} (h : p) : Hid p := h

theorem iSize (w : World) (S o n c : Nat) (a : Option Addr) (h : w.cell? ⟨S, o, none⟩ = some (.slice a n c)) (hn : n ≤ 100000) :
    Calls Try.prog 55 #[.pointer (some ⟨S, o, none⟩)] w fun e w' => e = .returned (.int .i64 (n : Int)) ∧ w' = w := by
  go_enter Try.func55, Try.ntmps55
  go_wp2_with fail
  go_ret
  exact ⟨rfl, rfl⟩

theorem iTop (w : World) (S o g n c : Nat) (h : w.cell? ⟨S, o, none⟩ = some (.slice (some ⟨g, 0, none⟩) (n + 1) c)) (hn : n ≤ 100000) :
    Calls Try.prog 74 #[.pointer (some ⟨S, o, none⟩)] w fun e w' => e = .returned (.pointer (some ⟨g, n, none⟩)) ∧ ∃ m, w' = w.drewN m := by
  have i0 : (n : Int) < (n : Int) + 1 := by omega
  go_enter Try.func74, Try.ntmps74
  go_wp2_with fail
  go_quiet (fail)
  go_wp2_with fail
  go_ret
  exact ⟨rfl, _, rfl⟩

theorem iPop (w : World) (S o g n c : Nat) (h : w.cell? ⟨S, o, none⟩ = some (.slice (some ⟨g, 0, none⟩) (n + 1) c)) (hf : w.frozen? ⟨S, o, none⟩ = false) (hn : n ≤ 100000) (hc : n + 1 ≤ c) (hc2 : c ≤ 9223372036854775807) :
    Calls Try.prog 56 #[.pointer (some ⟨S, o, none⟩)] w fun e w' => e = .returned (.tuple #[]) ∧ ∃ m, w' = (w.setCell ⟨S, o, none⟩ (.slice (some ⟨g, 0, none⟩) n c)).drewN m := by
  have i0 : (n : Int) < (n : Int) + 1 := by omega
  have i1 : (n : Int) ≤ (c : Int) := by omega
  go_enter Try.func56, Try.ntmps56
  go_wp2_with fail
  go_region
  all_goals go_wp2_with fail
  go_end0
  exact ⟨rfl, 1, rfl⟩

/-- 'append(row, k)' of a row of the call's own, at a step of a region that draws its order. -/
theorem step_appI (w : World) {ops : Array Oper} {o : Oper} {a : Act} {K : Act → World → Prop} {Q : Exit → Act → World → Prop} {E : Prop} (hgd : o.guard = none) (s x : Operand)
    (ho : o.op = .call { callee := .builtin .append, args := #[s, x], argTypes := #[51, 51] })
    (base : Nat) (v : Value) (ks : List Int) (k : Int) (hs : a.eval s = v) (hown : RowI w base v ks) (b c : Nat) (hx : a.eval x = .slice (some ⟨b, 0, none⟩) 1 c)
    (h0 : w.cell? ⟨b, 0, none⟩ = some (.int .i64 k)) (hl : ks.length ≤ 100000) (hbase : base ≤ w.heap.size) (H : Nat) (hH : w.heap.size = H)
    (h : ∀ g cap w', RowI w' base (.slice (some ⟨g, 0, none⟩) (ks.length + 1) cap) (ks ++ [k]) → w.grownBy w' v.ownBlock → (v.ownBlock = some g ∨ g = H) → K (a.put o.dst (.slice (some ⟨g, 0, none⟩) (ks.length + 1) cap)) w') :
    if Region.wanted o (yielded ops a.tmps) = true then Oper.wp Try.prog o a w K Q else E := by
  obtain ⟨i0, hi, hz0, hz1, hz2⟩ := info_parts Try.infoI64
  refine step_append_lies w hgd s x 51 ho base 2 i0 _ 1 8 Try.underlying51 hi hz0 hz1 hz2 rfl (by decide) v ks.length (ints ks) hs hown ⟨b, 0, none⟩ 1 c [.int .i64 k] hx rfl ?_ ?_ (by decide) ?_ ?_ hbase H hH ?_
  · intro j u hj
    match j, hj with
    | 0, hj => simp at hj; subst hj; exact h0
    | j + 1, hj => simp at hj
  · intro u hu
    simp at hu
    subst hu
    rfl
  · unfold maxLen; omega
  · omega
  · intro g cap w' h1 h2 h3 _
    refine h g cap w' ?_ h2 h3
    unfold RowI
    simpa [ints] using h1

/-- The same where the order is told. -/
theorem wpList_appI (w : World) {ops : Array Oper} {rest : List Oper} {o : Oper} {a : Act} {Q : Exit → Act → World → Prop} (hgd : o.guard = none) (s x : Operand)
    (ho : o.op = .call { callee := .builtin .append, args := #[s, x], argTypes := #[51, 51] })
    (base : Nat) (v : Value) (ks : List Int) (k : Int) (hs : a.eval s = v) (hown : RowI w base v ks) (b c : Nat) (hx : a.eval x = .slice (some ⟨b, 0, none⟩) 1 c)
    (h0 : w.cell? ⟨b, 0, none⟩ = some (.int .i64 k)) (hl : ks.length ≤ 100000) (hbase : base ≤ w.heap.size) (H : Nat) (hH : w.heap.size = H)
    (h : ∀ g cap w', RowI w' base (.slice (some ⟨g, 0, none⟩) (ks.length + 1) cap) (ks ++ [k]) → w.grownBy w' v.ownBlock → (v.ownBlock = some g ∨ g = H) → wpList Try.prog ops Q rest (a.put o.dst (.slice (some ⟨g, 0, none⟩) (ks.length + 1) cap)) w') :
    wpList Try.prog ops Q (o :: rest) a w := by
  obtain ⟨i0, hi, hz0, hz1, hz2⟩ := info_parts Try.infoI64
  refine wpList_append_lies w hgd s x 51 ho base 2 i0 _ 1 8 Try.underlying51 hi hz0 hz1 hz2 rfl (by decide) v ks.length (ints ks) hs hown ⟨b, 0, none⟩ 1 c [.int .i64 k] hx rfl ?_ ?_ (by decide) ?_ ?_ hbase H hH ?_
  · intro j u hj
    match j, hj with
    | 0, hj => simp at hj; subst hj; exact h0
    | j + 1, hj => simp at hj
  · intro u hu
    simp at hu
    subst hu
    rfl
  · unfold maxLen; omega
  · omega
  · intro g cap w' h1 h2 h3 _
    refine h g cap w' ?_ h2 h3
    unfold RowI
    simpa [ints] using h1

theorem acellI (w : World) (o : Obj) (b i : Nat) (h : b < w.heap.size) : (w.alloc o).cell? ⟨b, i, none⟩ = w.cell? ⟨b, i, none⟩ := World.cell?_of_block (w := w) (w' := w.alloc o) (a := ⟨b, i, none⟩) (Below.heap_alloc _ _ _ h)
theorem RowI.later {w w' : World} {B : Nat} {v : Value} {ks : List Int} (h : RowI w B v ks) (hb : Below w.heap.size w w') : RowI w' B v ks := owns_keep h (grown_below hb) (fun _ _ e => by cases e)
theorem RowI.shape {w : World} {B : Nat} {v : Value} {ks : List Int} (h : RowI w B v ks) : ∃ ao cap, v = .slice ao ks.length cap ∧ ks.length ≤ cap ∧ cap ≤ maxLen := by
  rcases h.2 with ⟨rfl, h'⟩ | ⟨g, cap, cur, rfl, -, -, h1, h2, -⟩
  · exact ⟨none, 0, by rw [h'], by omega, Nat.zero_le _⟩
  · exact ⟨some ⟨g, 0, none⟩, cap, rfl, h1, h2⟩

theorem cellNewI (u : World) (x : Value) (t : TypeId) (k : Nat) (hk : k = u.heap.size) : (u.alloc (.cells #[x] t)).cell? ⟨k, 0, none⟩ = some x := by subst hk; simp

set_option maxRecDepth 100000 in
theorem iPush (w : World) (B S o : Nat) (v : Value) (ks : List Int) (k : Int) (h : w.cell? ⟨S, o, none⟩ = some v) (hf : w.frozen? ⟨S, o, none⟩ = false) (ho : RowI w B v ks) (hS : v.ownBlock ≠ some S) (hl : ks.length ≤ 100000) (hB : B ≤ w.heap.size) :
    Calls Try.prog 75 #[.pointer (some ⟨S, o, none⟩), .int .i64 k] w fun e w' => ∃ (g cap : Nat) (w1 : World), e = .returned (.tuple #[]) ∧ w' = w1.setCell ⟨S, o, none⟩ (.slice (some ⟨g, 0, none⟩) (ks.length + 1) cap) ∧ RowI w1 B (.slice (some ⟨g, 0, none⟩) (ks.length + 1) cap) (ks ++ [k]) ∧ w.grownBy w1 v.ownBlock ∧ (v.ownBlock = some g ∨ w.heap.size ≤ g) := by
  have hSl : S < w.heap.size := block_lt_of_cell h
  obtain ⟨ao, cap0, rfl, -, -⟩ := ho.shape
  have HO := hidI ho
  have HS : Hid (some S ≠ (Value.slice ao ks.length cap0).ownBlock) := fun e => hS e.symm
  clear ho hS
  go_enter Try.func75, Try.ntmps75
  go_wp2_with (at_builtin; refine wpList_appI _ rfl _ _ rfl B _ ks k rfl (RowI.later (w := w) HO.out ((Below.refl _ _).alloc (Nat.le_refl _) _)) w.heap.size 1 rfl (cellNewI _ _ _ _ rfl) hl (by simp; omega) _ rfl ?_)
  intro g5 k5 w5 how5 hgr5 hat5
  have c5 := hgr5.cell ((acellI _ _ _ _ hSl).trans h) HS.out
  have f5 : w5.frozen? ⟨S, o, none⟩ = false := (World.frozen?_of_block (hgr5.block S (by simp; omega) HS.out)).trans ((World.frozen?_of_block (Below.heap_alloc _ _ _ hSl)).trans hf)
  have HO5 := hidI how5
  have hg : w.grownBy w5 (Value.slice ao ks.length cap0).ownBlock := ⟨hgr5.os, hgr5.tape, hgr5.output, by have := hgr5.size; simp at this; omega, fun b hb hne => by rw [hgr5.block b (by simp; omega) hne, Below.heap_alloc _ _ _ hb]⟩
  have HG := hidI hg
  have HA : Hid ((Value.slice ao ks.length cap0).ownBlock = some g5 ∨ w.heap.size ≤ g5) := by
    rcases hat5 with h' | h'
    · exact .inl h'
    · exact .inr (by rw [h']; simp)
  clear how5 hgr5 hat5 hg
  go_wp2_with fail
  go_end0
  exact ⟨g5, k5, w5, rfl, rfl, HO5.out, HG.out, HA.out⟩

end Go.Proofs.Yteainbakfeedpaa
