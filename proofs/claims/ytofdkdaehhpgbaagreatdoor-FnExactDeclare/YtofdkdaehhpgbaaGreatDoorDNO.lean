/- Rows of declared variables in new memory: owned, appended to. -/
import Derived.Test.YtofdkdaehhpgbaaGreatDoorLTB
namespace Go.Proofs.YtofdkdaehhpgbaaGreatDoor
set_option linter.unusedVariables false
set_option linter.unusedSimpArgs false
open Go.RowKit

def dcS : List Dc → List Value
  | [] => []
  | x :: t => .string x.1 :: .int .i64 x.2 :: dcS t
theorem dcS_len (l : List Dc) : (dcS l).length = l.length * 2 := by
  induction l with
  | nil => rfl
  | cons x t ih => simp [dcS, ih]; omega
theorem dcS_append (l m : List Dc) : dcS (l ++ m) = dcS l ++ dcS m := by
  induction l with
  | nil => rfl
  | cons x t ih => simp [dcS, ih]
theorem dcS_one (l : List Dc) : ∀ u ∈ dcS l, u.oneCell' = true := by
  induction l with
  | nil => intro u hu; cases hu
  | cons x t ih =>
    intro u hu
    simp [dcS] at hu
    rcases hu with rfl | rfl | hu
    · rfl
    · rfl
    · exact ih u hu
theorem dcS_get : ∀ {l : List Dc} {i : Nat} {x : Dc}, l[i]? = some x → (dcS l)[i * 2]? = some (.string x.1) ∧ (dcS l)[i * 2 + 1]? = some (.int .i64 x.2)
  | y :: t, 0, x, h => by simp at h; subst h; simp [dcS]
  | y :: t, i + 1, x, h => by
    have := dcS_get (l := t) (i := i) (x := x) (by simpa using h)
    rw [show (i + 1) * 2 = i * 2 + 1 + 1 by omega]
    simpa [dcS] using this
/-- What can be read, cell by cell. -/
theorem RdD.cells {w : World} {b o : Nat} {ds : List Dc} (h : RdD w (some ⟨b, o, none⟩) ds) : ∀ j u, (dcS ds)[j]? = some u → w.cell? ((⟨b, o, none⟩ : Addr).add j) = some u := fun j u hj => by
  have hjl := (List.getElem?_eq_some_iff.1 hj).1
  rw [dcS_len] at hjl
  obtain ⟨x, hx⟩ : ∃ x, ds[j / 2]? = some x := ⟨ds[j / 2]'(by omega), List.getElem?_eq_getElem _⟩
  obtain ⟨-, -, h0 | ⟨b', o', e, hc⟩⟩ := h
  · rw [h0] at hx; simp at hx
  · cases e
    obtain ⟨q0, q1⟩ := hc _ x hx
    obtain ⟨e0, e1⟩ := dcS_get hx
    rw [Addr.add_lit]
    rcases Nat.mod_two_eq_zero_or_one j with hm | hm
    · have ej : j / 2 * 2 = j := by omega
      rw [ej] at e0 q0
      rw [e0] at hj
      cases hj
      exact q0
    · have ej : j / 2 * 2 + 1 = j := by omega
      rw [ej] at e1
      rw [Nat.add_assoc, ej] at q1
      rw [e1] at hj
      cases hj
      exact q1

/-- An owned row of variables. -/
def OD2 (w : World) (B : Nat) (v : Value) (l : List Dc) : Prop := w.ownsRow B 50 2 v l.length (dcS l)
theorem OD2.move {w w' : World} {B : Nat} {v : Value} {l : List Dc} (h : OD2 w B v l) (hk : ∀ b, v.ownBlock = some b → w'.heap[b]? = w.heap[b]?) : OD2 w' B v l := by
  refine ⟨h.1, ?_⟩
  rcases h.2 with h0 | ⟨g, cap, cur, rfl, hg, hh, r⟩
  · exact .inl h0
  · exact .inr ⟨g, cap, cur, rfl, hg, (hk g rfl).trans hh, r⟩
theorem OD2.lt {w : World} {B : Nat} {v : Value} {l : List Dc} (h : OD2 w B v l) {b : Nat} (hb : v.ownBlock = some b) : B ≤ b ∧ b < w.heap.size := by
  rcases h.2 with ⟨rfl, -⟩ | ⟨g, cap, cur, rfl, hg, hh, -⟩
  · cases hb
  · cases hb
    exact ⟨hg, lt_of_block hh⟩
theorem OD2.later {w w' : World} {B : Nat} {v : Value} {l : List Dc} (h : OD2 w B v l) (hb : Below w.heap.size w w') : OD2 w' B v l := h.move fun b hb' => hb.block b (h.lt hb').2
theorem OD2.empty (w : World) (B : Nat) (h : B ≤ w.heap.size) : OD2 (w.alloc (.cells #[] 50)) B (.slice (some ⟨w.heap.size, 0, Option.none⟩) 0 0) [] := World.ownsRow_made w #[] 0 h (Nat.zero_le _) (by simp)
theorem OD2.nil (w : World) (B : Nat) : OD2 w B (.slice none 0 0) [] := ⟨rfl, .inl ⟨rfl, rfl⟩⟩
theorem OD2.low {w : World} {B B' : Nat} {v : Value} {l : List Dc} (h : OD2 w B v l) (hB : B' ≤ B) : OD2 w B' v l := by
  refine ⟨h.1, ?_⟩
  rcases h.2 with h0 | ⟨g, cap, cur, rfl, hg, r⟩
  · exact .inl h0
  · exact .inr ⟨g, cap, cur, rfl, by omega, r⟩
theorem OD2.form {w : World} {B : Nat} {v : Value} {l : List Dc} (h : OD2 w B v l) : ∃ a c, v = .slice a l.length c := by
  rcases h.2 with ⟨rfl, h0⟩ | ⟨g, cap, cur, rfl, -⟩
  · exact ⟨none, 0, by rw [h0]⟩
  · exact ⟨_, _, rfl⟩
theorem OD2.rd {w : World} {B : Nat} {v : Value} {l : List Dc} (h : OD2 w B v l) (hl : l.length ≤ 1048576) (hx : ∀ x ∈ l, in64 x.2 ∧ x.1.size ≤ 9223372036854775807) : ∃ a c, v = .slice a l.length c ∧ RdD w a l := by
  rcases h.2 with ⟨rfl, h0⟩ | ⟨g, cap, cur, rfl, hg, hh, hc1, hc2, hsz, hcur⟩
  · have e := List.eq_nil_of_length_eq_zero h0
    subst e
    exact ⟨none, 0, rfl, by simp, by simp, .inl rfl⟩
  · refine ⟨some ⟨g, 0, none⟩, cap, rfl, hl, hx, .inr ⟨g, 0, rfl, fun i x hi => ?_⟩⟩
    have hil := (List.getElem?_eq_some_iff.1 hi).1
    obtain ⟨e0, e1⟩ := dcS_get hi
    rw [← hcur] at e0 e1
    rw [List.getElem?_take, if_pos (by omega)] at e0 e1
    simp only [Array.getElem?_toList] at e0 e1
    exact ⟨by rw [Nat.zero_add, cell_of_row w g _ cur _ _ hh]; exact e0, by rw [Nat.zero_add, cell_of_row w g _ cur _ _ hh]; exact e1⟩
theorem OD2.tn {w : World} {B g n c : Nat} {l : List Dc} (h : OD2 w B (.slice (some ⟨g, 0, none⟩) n c) l) : ∃ N f, n * 2 ≤ N ∧ w.rowIs g 50 N f ∧ n = l.length := by
  obtain ⟨h1, ⟨h2, -⟩ | ⟨g', cap, cur, e, hg, hh, hc1, hc2, hsz, hcur⟩⟩ := h
  · cases h2
  · cases e
    exact ⟨cur.size, _, by omega, krow hh, rfl⟩

/-- Variables that can be read, appended to an owned row. -/
theorem step_appDs (w : World) {ops : Array Oper} {o : Oper} {a : Act} {K : Act → World → Prop} {Q : Exit → Act → World → Prop} {E : Prop} (hgd : o.guard = none) (s x : Operand)
    (ho : o.op = .call { callee := .builtin .append, args := #[s, x], argTypes := #[27, 27] })
    (B : Nat) (v : Value) (l ys : List Dc) (hs : a.eval s = v) (hown : OD2 w B v l) (g o' m c : Nat) (hx : a.eval x = .slice (some ⟨g, o', none⟩) m c) (hm : ys.length = m)
    (hr : RdD w (some ⟨g, o', none⟩) ys) (hl : l.length + m ≤ 1073741824) (hB : B ≤ w.heap.size)
    (h : ∀ v' w', OD2 w' B v' (l ++ ys) → w.grownBy w' v.ownBlock → (v'.ownBlock = v.ownBlock ∨ v'.ownBlock = some w.heap.size) → K (a.put o.dst v') w') :
    if Region.wanted o (yielded ops a.tmps) = true then Oper.wp Tryz.prog o a w K Q else E := by
  have hw : Region.wanted o (yielded ops a.tmps) = true := by simp [Region.wanted, hgd]
  rw [if_pos hw]
  obtain ⟨i0, hi, hz0, hz1, hz2⟩ := info_parts Tryz.infoDecl
  obtain ⟨v', w', hr2, h2, h3, h4, h5⟩ := run_append_own_at (P := Tryz.prog) w B 27 o.type 50 i0 _ 2 24 Tryz.underlying27 hi hz0 hz1 hz2 rfl (by decide) v l.length (dcS l) hown ⟨g, o', none⟩ m c (dcS ys) (by rw [dcS_len, hm]) hr.cells (dcS_one ys) (by unfold maxLen; omega) (by omega) hB
  unfold Oper.wp execOp
  simp only [ho, resolve, invoke, builtin, Sem.run_bind, Sem.run_pure, Result.andThen_ok, List.map_toArray, List.map_cons, List.map_nil, hs, hx, hr2]
  refine h v' w' ?_ h3 h5
  unfold OD2
  rw [dcS_append, List.length_append, hm]
  exact h2


end Go.Proofs.YtofdkdaehhpgbaaGreatDoor
