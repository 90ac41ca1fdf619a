/- Drawn cuts. -/
import Derived.Test.YtnfagdfaphihhaaDE
import Derived.Test.YtnfagdfaphihhaaDA
namespace Go.Proofs.Ytnfagdfaphihhaa
set_option linter.unusedVariables false
set_option linter.unusedSimpArgs false
open Go.RowKit

/-- 'append(rows, row)' in a row of operations. -/
theorem wpList_appR {w : World} {ops : Array Oper} {rest : List Oper} {o : Oper} {a : Act} {Q : Exit → Act → World → Prop} (hgd : o.guard = none) (s x : Operand)
    (ho : o.op = .call { callee := .builtin .append, args := #[s, x], argTypes := #[25, 25] })
    (B : Nat) (v : Value) (l : List Value) (y : Value) (hy : y.oneCell' = true) (hs : a.eval s = v) (hown : w.ownsRow B 51 1 v l.length l) (gx c : Nat) (hx : a.eval x = .slice (some ⟨gx, 0, none⟩) 1 c)
    (h0 : w.cell? ⟨gx, 0, none⟩ = some y) (hl : l.length ≤ 1073741824) (hB : B ≤ w.heap.size)
    (h : ∀ g cap w', w'.ownsRow B 51 1 (.slice (some ⟨g, 0, none⟩) (l.length + 1) cap) (l ++ [y]).length (l ++ [y]) → w.grownBy w' v.ownBlock → wpList Try.prog ops Q rest (a.put o.dst (.slice (some ⟨g, 0, none⟩) (l.length + 1) cap)) w') : wpList Try.prog ops Q (o :: rest) a w := by
  obtain ⟨i0, hi, hz0, hz1, hz2⟩ := info_parts Try.infoRows
  refine wpList_append_lies w hgd s x 25 ho B 51 i0 _ 1 24 Try.underlying25 hi hz0 hz1 hz2 rfl (by decide) v l.length l hs hown ⟨gx, 0, none⟩ 1 c [y] hx rfl ?_ ?_ (by decide) ?_ ?_ hB _ rfl ?_
  · intro j u hj
    rw [Addr.add_lit]
    match j, hj with
    | 0, hj => simp at hj; subst hj; exact h0
    | j + 1, hj => simp at hj
  · intro u hu
    simp at hu
    subst hu
    exact hy
  · unfold maxLen; omega
  · omega
  · intro g cap w' h1 h2 h3 _
    refine h g cap w' ?_ h2
    rw [List.length_append]
    exact h1

/-- A box of one cell. -/
def B1 (u : World) (b : Nat) (v : Value) (t : TypeId) : Prop := u.heap[b]? = some (.cells #[v] t (0, 0))
theorem B1.cell {u : World} {b : Nat} {v : Value} {t : TypeId} (h : B1 u b v t) : u.cell? ⟨b, 0, none⟩ = some v := by rw [cell_of_row u b 0 _ _ _ h]; rfl
theorem B1.froz {u : World} {b : Nat} {v : Value} {t : TypeId} (h : B1 u b v t) : u.frozen? ⟨b, 0, none⟩ = false := frozen_of_row u b 0 _ _ h
theorem B1.later {u u' : World} {b : Nat} {v : Value} {t : TypeId} (h : B1 u b v t) (hb : Below u.heap.size u u') : B1 u' b v t := by unfold B1; rw [hb.block b (lt_of_block h)]; exact h
theorem B1.set {u : World} {b : Nat} {v : Value} {t : TypeId} (h : B1 u b v t) (x : Value) : B1 (u.setCell ⟨b, 0, none⟩ x) b x t := by unfold B1; rw [heap_setCell_same u b 0 _ _ _ h]; rfl
theorem B1.other {u : World} {b g i : Nat} {v : Value} {t : TypeId} (h : B1 u b v t) (hn : b ≠ g) (x : Value) : B1 (u.setCell ⟨g, i, none⟩ x) b v t := by unfold B1; rw [heap_setCell_other _ _ _ _ (by simpa using hn)]; exact h
theorem B1.grown {u u' : World} {b : Nat} {v : Value} {t : TypeId} {row : Option Nat} (h : B1 u b v t) (hg : u.grownBy u' row) (hn : row ≠ some b) : B1 u' b v t := by unfold B1; rw [hg.block b (lt_of_block h) (fun e => hn e.symm)]; exact h
theorem B1.far {u u' : World} {b β : Nat} {v : Value} {t : TypeId} (h : B1 u b v t) (hd : Dw β u u') (hn : b ≠ β) : B1 u' b v t := h.grown hd (fun e => hn (by cases e; rfl))

theorem Cq.lower {w : World} {B B' : Nat} {v : Value} {vs : List Value} {xss : List (List Int)} (h : Cq w B v vs xss) (hB : B' ≤ B) : Cq w B' v vs xss := by
  have low : ∀ {e : TypeId} {n : Nat} {v : Value} {xs : List Value}, w.ownsRow B e 1 v n xs → w.ownsRow B' e 1 v n xs := fun h => by
    refine ⟨h.1, ?_⟩
    rcases h.2 with h0 | ⟨g, cap, cur, e, hg, r⟩
    · exact .inl h0
    · exact .inr ⟨g, cap, cur, e, Nat.le_trans hB hg, r⟩
  exact ⟨low h.row, h.len, fun i u xs h1 h2 => low (h.own i u xs h1 h2), h.dj⟩

/-- Cuts under way: the row of rows is told by a value of one cell. -/
def RetC0 (n : Nat) (w : World) (e : Ending) (w' : World) : Prop := ∃ g c vs, e = .returned (.agg #[.slice (some ⟨g, 0, none⟩) n c]) ∧ vs.length = n ∧ Cq w' w.heap.size (.slice (some ⟨g, 0, none⟩) n c) vs (List.replicate n []) ∧ (∀ u ∈ vs, ∃ b cc, u = .slice (some ⟨b, 0, none⟩) 0 cc) ∧ Below w.heap.size w w'

set_option maxHeartbeats 1000000 in
theorem l6None_any (da : Option Addr) (n dc : Nat) (h1 : 1 ≤ n) (h6 : n ≤ 6) (w : World) :
    Calls Try.prog 47 #[.slice da n dc] w (RetC0 n w) := by
  go_enter Try.func47, Try.ntmps47
  go_wp2_with fail
  have hb0 : Below w.heap.size w ((w.alloc (Obj.cells #[Value.slice none 0 0] 27)).alloc (Obj.cells #[Value.slice none 0 0] 27)) := ((Below.refl _ _).alloc (Nat.le_refl _) _).alloc (by simp) _
  have X0 : Hid (B1 ((w.alloc (Obj.cells #[Value.slice none 0 0] 27)).alloc (Obj.cells #[Value.slice none 0 0] 27)) w.heap.size (.slice none 0 0) 27) := B1.later (show B1 (w.alloc (Obj.cells #[Value.slice none 0 0] 27)) w.heap.size (.slice none 0 0) 27 from heap_alloc_new _ _) ((Below.refl _ _).alloc (Nat.le_refl _) _)
  have X1 : Hid (B1 ((w.alloc (Obj.cells #[Value.slice none 0 0] 27)).alloc (Obj.cells #[Value.slice none 0 0] 27)) (w.heap.size + 1) (.slice none 0 0) 27) := heap_alloc2_new _ _ _
  have hs0 : w.heap.size + 2 ≤ ((w.alloc (Obj.cells #[Value.slice none 0 0] 27)).alloc (Obj.cells #[Value.slice none 0 0] 27)).heap.size := by simp
  have B0 := kide hb0
  generalize ((w.alloc (Obj.cells #[Value.slice none 0 0] 27)).alloc (Obj.cells #[Value.slice none 0 0] 27)) = w0 at *
  clear hb0
  go_loopw [4] (fun q wr => ∃ (k : Nat) (av : Option Addr) (cv : Nat) (vs : List Value), k ≤ n ∧ q = .int .i64 (k : Int) ∧ vs.length = k ∧ B1 wr w.heap.size (.slice none 0 0) 27 ∧ B1 wr (w.heap.size + 1) (.slice av k cv) 27 ∧ Cq wr (w.heap.size + 2) (.slice av k cv) vs (List.replicate k []) ∧ (∀ u ∈ vs, ∃ b cc, u = .slice (some ⟨b, 0, none⟩) 0 cc) ∧ Below w.heap.size w wr ∧ w.heap.size + 2 ≤ wr.heap.size) (fun q _ => n - (intOf q).toNat)
  case atStart => exact ⟨0, none, 0, [], Nat.zero_le _, rfl, rfl, X0.out, X1.out, Cq.nil _ _, by simp, B0.out, hs0⟩
  case round =>
    clear X0 X1 B0 hs0
    obtain ⟨k, av, cv, vs, hk, rfl, hvl, x0, x1, hc, hu, hb, hsz⟩ := hrel
    have X0 := kide x0
    have X1 := kide x1
    have CC := kide hc
    have HU := kide hu
    have HB := kide hb
    have HVL := kide hvl
    have c1 := x1.cell
    have l1 : w.heap.size + 1 < wr.heap.size := by omega
    clear x0 hc hu hb hvl x1
    by_cases hlt : k < n
    · have hb2 : Below wr.heap.size wr ((wr.alloc (Obj.cells #[] 2)).alloc (Obj.cells #[Value.slice (some ⟨wr.heap.size, 0, none⟩) 0 0] 51)) := ((Below.refl _ _).alloc (Nat.le_refl _) _).alloc (by simp) _
      have q0 : ((wr.alloc (Obj.cells #[] 2)).alloc (Obj.cells #[Value.slice (some ⟨wr.heap.size, 0, none⟩) 0 0] 51)).cell? ⟨wr.heap.size + 1, 0, none⟩ = some (Value.slice (some ⟨wr.heap.size, 0, none⟩) 0 0) := by simp
      have HI : Hid (OI ((wr.alloc (Obj.cells #[] 2)).alloc (Obj.cells #[Value.slice (some ⟨wr.heap.size, 0, none⟩) 0 0] 51)) (w.heap.size + 2) (.slice (some ⟨wr.heap.size, 0, none⟩) 0 0) []) := (OI.empty wr (w.heap.size + 2) hsz).later ((Below.refl _ _).alloc (Nat.le_refl _) _)
      have B2 := kide hb2
      have hs2 : w.heap.size + 2 ≤ ((wr.alloc (Obj.cells #[] 2)).alloc (Obj.cells #[Value.slice (some ⟨wr.heap.size, 0, none⟩) 0 0] 51)).heap.size := by have := hb2.size; omega
      have hrow := (CC.out.later hb2).row
      have HROW := kide hrow
      clear hb2 hrow
      go_wp2_with (at_builtin; refine wpList_appR rfl _ _ rfl (w.heap.size + 2) (.slice av k cv) vs (.slice (some ⟨wr.heap.size, 0, none⟩) 0 0) rfl (by first | rfl | simp [Act.eval]) HROW.out (wr.heap.size + 1) 1 (by first | rfl | simp [Act.eval]) q0 (by rw [HVL.out]; omega) hs2 ?_)
      intro g cap w3 ho3 hg3
      have hne : ∀ b, (Value.slice av k cv).ownBlock = some b → w.heap.size + 2 ≤ b := fun b hb => (rowlt HROW.out hb).1
      have C3 := kide (CC.out.push B2.out HI.out (fun b hb => by cases hb; exact Nat.le_refl _) (by rw [List.length_append]; exact ho3) hg3)
      have X03 := kide ((X0.out.later B2.out).grown hg3 (fun e => by have := hne _ e; omega))
      have X13 := kide ((X1.out.later B2.out).grown hg3 (fun e => by have := hne _ e; omega))
      have HB3 : Hid (Below w.heap.size w w3) := Below.grown (HB.out.trans (B2.out.mono HB.out.size)) hg3 (Nat.le_trans HB.out.size B2.out.size) (fun j hj => by have := hne _ hj; omega)
      have S3 : Hid (w.heap.size + 2 ≤ w3.heap.size) := Nat.le_trans hs2 hg3.size
      rw [HVL.out] at C3 ⊢
      have d1 := X13.out.cell
      have f1 := X13.out.froz
      clear ho3 hg3 q0 hne HI HROW
      go_wp2_with fail
      go_roundw
      case rel =>
        refine ⟨k + 1, some ⟨g, 0, none⟩, cap, vs ++ [.slice (some ⟨wr.heap.size, 0, none⟩) 0 0], by omega, by go_num, by simp [HVL.out], X03.out.other (by omega) _, X13.out.set _, ?_, fun u hu => ?_, HB3.out.setCell (by simp) _, by simpa using S3.out⟩
        · have h9 := C3.out.other (g := w.heap.size + 1) (i := 0) X13.out (by decide) (by decide) (.slice (some ⟨g, 0, none⟩) (k + 1) cap)
          rw [List.replicate_succ']
          exact h9
        · rcases List.mem_append.1 hu with hu | hu
          · exact HU.out u hu
          · simp at hu
            exact ⟨_, _, hu⟩
      case measure => simp [intOf]; omega
    · have hkn : k = n := by omega
      subst hkn
      obtain ⟨g, hgg⟩ : ∃ g, av = some ⟨g, 0, none⟩ := by
        rcases CC.out.row.2 with ⟨e', h0⟩ | ⟨g, cap, cur, e', -⟩
        · rw [HVL.out] at h0; omega
        · cases e'; exact ⟨g, rfl⟩
      subst hgg
      have c0 := X0.out.cell
      have f0 := X0.out.froz
      go_wp2_with fail
      refine bodyPost_ret (v := .agg #[.slice (some ⟨g, 0, none⟩) k cv]) (by simp [results, Try.results47, go_sem, c0]) rfl ⟨g, cv, vs, rfl, HVL.out, ?_, HU.out, HB.out.setCell (Nat.le_refl _) _⟩
      exact (CC.out.other (g := w.heap.size) (i := 0) X0.out (by decide) (by decide) _).lower (by omega)

end Go.Proofs.Ytnfagdfaphihhaa
