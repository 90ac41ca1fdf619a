/- Scopes in new memory: each one's literals between two blocks of their own; one more at the end. -/
import Derived.Test.YtofdkdaehhpgbaaGreatDoorLTF
import Derived.Test.YtofdkdaehhpgbaaGreatDoorWSA
namespace Go.Proofs.YtofdkdaehhpgbaaGreatDoor
set_option linter.unusedVariables false
set_option linter.unusedSimpArgs false
open Go.RowKit

/-- The cells of scopes. -/
def sgc : List Sg → List Value
  | [] => []
  | x :: t => .int .i64 x.d :: .slice x.la x.ls.length x.lc :: sgc t
theorem sgc_len (l : List Sg) : (sgc l).length = l.length * 2 := by
  induction l with
  | nil => rfl
  | cons x t ih => simp [sgc, ih]; omega
theorem sgc_append (xs ys : List Sg) : sgc (xs ++ ys) = sgc xs ++ sgc ys := by
  induction xs with
  | nil => rfl
  | cons x t ih => simp [sgc, ih]
theorem sgc_get : ∀ {l : List Sg} {i : Nat} {x : Sg}, l[i]? = some x → (sgc l)[i * 2]? = some (.int .i64 x.d) ∧ (sgc l)[i * 2 + 1]? = some (.slice x.la x.ls.length x.lc)
  | y :: t, 0, x, h => by simp at h; subst h; simp [sgc]
  | y :: t, i + 1, x, h => by
    have := sgc_get (l := t) (i := i) (x := x) (by simpa using h)
    rw [show (i + 1) * 2 = i * 2 + 1 + 1 by omega]
    simpa [sgc] using this

/-- An owned row of scopes. -/
def OS2 (w : World) (B : Nat) (v : Value) (l : List Sg) : Prop := w.ownsRow B 63 2 v l.length (sgc l)
theorem OS2.later {w w' : World} {B : Nat} {v : Value} {l : List Sg} (h : OS2 w B v l) (hb : Below w.heap.size w w') : OS2 w' B v l := World.ownsRow.kept (row := none) h ⟨hb.os, hb.tape, hb.output, hb.size, fun k hk _ => hb.block k hk⟩ (by
  cases h' : v.ownBlock with
  | none => exact .inl rfl
  | some k => exact .inr (by simp))
theorem OS2.lt {w : World} {B : Nat} {v : Value} {l : List Sg} (h : OS2 w B v l) {b : Nat} (hb : v.ownBlock = some b) : B ≤ b ∧ b < w.heap.size := by
  rcases h.2 with ⟨rfl, -⟩ | ⟨g, cap, cur, rfl, hg, hh, -⟩
  · cases hb
  · cases hb
    exact ⟨hg, lt_of_block hh⟩
theorem OS2.nil (w : World) (B : Nat) : OS2 w B (.slice none 0 0) [] := ⟨rfl, .inl ⟨rfl, rfl⟩⟩
theorem OS2.move {w w' : World} {B : Nat} {v : Value} {l : List Sg} (h : OS2 w B v l) (hk : ∀ b, v.ownBlock = some b → w'.heap[b]? = w.heap[b]?) : OS2 w' B v l := by
  obtain ⟨h1, h2⟩ := h
  refine ⟨h1, ?_⟩
  rcases h2 with h2 | ⟨g, cap, cur, rfl, hg, hh, r⟩
  · exact .inl h2
  · exact .inr ⟨g, cap, cur, rfl, hg, by rw [hk g rfl]; exact hh, r⟩
theorem OS2.form {w : World} {B : Nat} {v : Value} {l : List Sg} (h : OS2 w B v l) : ∃ a c, v = .slice a l.length c := by
  rcases h.2 with ⟨rfl, h0⟩ | ⟨g, cap, cur, rfl, -⟩
  · exact ⟨none, 0, by rw [h0]⟩
  · exact ⟨_, _, rfl⟩
/-- What can be read of it. -/
theorem OS2.rd {w : World} {B : Nat} {v : Value} {l : List Sg} (h : OS2 w B v l) (hl : l.length ≤ 1048576) (hx : ∀ x ∈ l, RdL w x.la x.ls ∧ in64 x.d) : ∃ a c, v = .slice a l.length c ∧ RdS w a l := by
  rcases h.2 with ⟨rfl, h0⟩ | ⟨g, cap, cur, rfl, hg, hh, hc1, hc2, hsz, hcur⟩
  · have e := List.eq_nil_of_length_eq_zero h0
    subst e
    exact ⟨none, 0, rfl, by simp, .inl rfl⟩
  · refine ⟨some ⟨g, 0, none⟩, cap, rfl, hl, .inr ⟨g, 0, rfl, fun i x hi => ?_⟩⟩
    obtain ⟨e0, e1⟩ := sgc_get hi
    have hil := (List.getElem?_eq_some_iff.1 hi).1
    rw [← hcur] at e0 e1
    rw [List.getElem?_take, if_pos (by omega)] at e0 e1
    simp only [Array.getElem?_toList] at e0 e1
    exact ⟨⟨by rw [Nat.zero_add, cell_of_row w g _ cur _ _ hh]; exact e0, by rw [Nat.zero_add, cell_of_row w g _ cur _ _ hh]; exact e1⟩, hx x (List.mem_of_getElem? hi)⟩
theorem OS2.tn {w : World} {B g n c : Nat} {l : List Sg} (h : OS2 w B (.slice (some ⟨g, 0, none⟩) n c) l) : ∃ N f, n * 2 ≤ N ∧ w.rowIs g 63 N f ∧ n = l.length ∧ ∀ i x, l[i]? = some x → f (i * 2) = .int .i64 x.d ∧ f (i * 2 + 1) = .slice x.la x.ls.length x.lc := by
  obtain ⟨h1, ⟨h2, -⟩ | ⟨g', cap, cur, e, hg, hh, hc1, hc2, hsz, hcur⟩⟩ := h
  · cases h2
  · cases e
    refine ⟨cur.size, _, by omega, krow hh, rfl, fun i x hx => ?_⟩
    obtain ⟨e0, e1⟩ := sgc_get hx
    have hil := (List.getElem?_eq_some_iff.1 hx).1
    rw [← hcur] at e0 e1
    rw [List.getElem?_take, if_pos (by omega)] at e0 e1
    simp only [Array.getElem?_toList] at e0 e1
    exact ⟨by rw [e0]; rfl, by rw [e1]; rfl⟩

theorem wp_appS (w : World) {o : Oper} {a : Act} {K : Act → World → Prop} {Q : Exit → Act → World → Prop} (s x : Operand)
    (ho : o.op = .call { callee := .builtin .append, args := #[s, x], argTypes := #[28, 28] })
    (B : Nat) (v : Value) (l : List Sg) (y : Sg) (hs : a.eval s = v) (hown : OS2 w B v l) (g c : Nat) (hx : a.eval x = .slice (some ⟨g, 0, none⟩) 1 c)
    (h0 : w.cell? ⟨g, 0, none⟩ = some (.int .i64 y.d)) (h1 : w.cell? ⟨g, 1, none⟩ = some (.slice y.la y.ls.length y.lc)) (hl : l.length ≤ 1073741824) (hB : B ≤ w.heap.size)
    (h : ∀ v' w', OS2 w' B v' (l ++ [y]) → w.grownBy w' v.ownBlock → (v'.ownBlock = v.ownBlock ∨ v'.ownBlock = some w.heap.size) → K (a.put o.dst v') w') : Oper.wp Tryz.prog o a w K Q := by
  obtain ⟨i0, hi, hz0, hz1, hz2⟩ := info_parts Tryz.infoScp
  obtain ⟨v', w', hr2, h2, h3, h4, h5⟩ := run_append_own_at (P := Tryz.prog) w B 28 o.type 63 i0 _ 2 32 Tryz.underlying28 hi hz0 hz1 hz2 rfl (by decide) v l.length (sgc l) hown ⟨g, 0, none⟩ 1 c (sgc [y]) rfl (fun j u hj => by
    rw [Addr.add_lit, Nat.zero_add]
    match j, hj with
    | 0, hj => simp [sgc] at hj; subst hj; exact h0
    | 1, hj => simp [sgc] at hj; subst hj; exact h1
    | j + 2, hj => simp [sgc] at hj) (fun u hu => by
    simp [sgc] at hu
    rcases hu with rfl | rfl <;> rfl) (by unfold maxLen; omega) (by omega) hB
  unfold Oper.wp execOp
  simp only [ho, resolve, invoke, builtin, Sem.run_bind, Sem.run_pure, Result.andThen_ok, List.map_toArray, List.map_cons, List.map_nil, hs, hx, hr2]
  refine h v' w' ?_ h3 h5
  unfold OS2
  rw [sgc_append, List.length_append]
  exact h2
theorem step_appS (w : World) {ops : Array Oper} {o : Oper} {a : Act} {K : Act → World → Prop} {Q : Exit → Act → World → Prop} {E : Prop} (hgd : o.guard = none) (s x : Operand)
    (ho : o.op = .call { callee := .builtin .append, args := #[s, x], argTypes := #[28, 28] })
    (B : Nat) (v : Value) (l : List Sg) (y : Sg) (hs : a.eval s = v) (hown : OS2 w B v l) (g c : Nat) (hx : a.eval x = .slice (some ⟨g, 0, none⟩) 1 c)
    (h0 : w.cell? ⟨g, 0, none⟩ = some (.int .i64 y.d)) (h1 : w.cell? ⟨g, 1, none⟩ = some (.slice y.la y.ls.length y.lc)) (hl : l.length ≤ 1073741824) (hB : B ≤ w.heap.size)
    (h : ∀ v' w', OS2 w' B v' (l ++ [y]) → w.grownBy w' v.ownBlock → (v'.ownBlock = v.ownBlock ∨ v'.ownBlock = some w.heap.size) → K (a.put o.dst v') w') :
    if Region.wanted o (yielded ops a.tmps) = true then Oper.wp Tryz.prog o a w K Q else E := by
  have hw : Region.wanted o (yielded ops a.tmps) = true := by simp [Region.wanted, hgd]
  rw [if_pos hw]
  exact wp_appS w s x ho B v l y hs hown g c hx h0 h1 hl hB h
theorem wpList_appS (w : World) {ops : Array Oper} {rest : List Oper} {o : Oper} {a : Act} {Q : Exit → Act → World → Prop} (hgd : o.guard = none) (s x : Operand)
    (ho : o.op = .call { callee := .builtin .append, args := #[s, x], argTypes := #[28, 28] })
    (B : Nat) (v : Value) (l : List Sg) (y : Sg) (hs : a.eval s = v) (hown : OS2 w B v l) (g c : Nat) (hx : a.eval x = .slice (some ⟨g, 0, none⟩) 1 c)
    (h0 : w.cell? ⟨g, 0, none⟩ = some (.int .i64 y.d)) (h1 : w.cell? ⟨g, 1, none⟩ = some (.slice y.la y.ls.length y.lc)) (hl : l.length ≤ 1073741824) (hB : B ≤ w.heap.size)
    (h : ∀ v' w', OS2 w' B v' (l ++ [y]) → w.grownBy w' v.ownBlock → (v'.ownBlock = v.ownBlock ∨ v'.ownBlock = some w.heap.size) → wpList Tryz.prog ops Q rest (a.put o.dst v') w') : wpList Tryz.prog ops Q (o :: rest) a w :=
  wpList_plain hgd fun _ hK => wp_appS w s x ho B v l y hs hown g c hx h0 h1 hl hB fun v' w' h2 h3 h4 => hK _ _ (h v' w' h2 h3 h4)

/-- A scope's literals, in new memory. -/
def Lx (lo hi : Nat) (x : Sg) (w : World) : Prop := ∃ q, Ln lo hi (.slice x.la x.ls.length x.lc) x.ls q w
theorem Lx.later {lo hi : Nat} {x : Sg} {w w' : World} (h : Lx lo hi x w) (hb : Below w.heap.size w w') : Lx lo hi x w' := by
  obtain ⟨q, h⟩ := h
  exact ⟨q, h.later hb⟩
theorem Lx.out {lo hi B1 B2 : Nat} {x : Sg} {w w' : World} (h : Lx lo hi x w) (ho : Out B1 B2 w w') (hd : hi ≤ B1 ∨ B2 ≤ lo) : Lx lo hi x w' := by
  obtain ⟨q, h⟩ := h
  exact ⟨q, h.out ho hd⟩

/-- A row of scopes in new memory, from lo on, ahead of hi: each one's literals have blocks of their own, among which the row itself is not. -/
structure Zn (lo hi : Nat) (v : Value) (l : List Sg) (p : Nat → Nat × Nat) (w : World) : Prop where
  row : OS2 w lo v l
  rb : ∀ b, v.ownBlock = some b → b < hi
  each : ∀ i x, l[i]? = some x → lo ≤ (p i).1 ∧ (p i).1 ≤ (p i).2 ∧ (p i).2 ≤ hi ∧ Lx (p i).1 (p i).2 x w ∧ ∀ b, v.ownBlock = some b → b < (p i).1 ∨ (p i).2 ≤ b
  dis : ∀ i j, i < j → j < l.length → (p i).2 ≤ (p j).1

theorem Zn.later {lo hi : Nat} {v : Value} {l : List Sg} {p : Nat → Nat × Nat} {w w' : World} (h : Zn lo hi v l p w) (hb : Below w.heap.size w w') : Zn lo hi v l p w' :=
  ⟨h.row.later hb, h.rb, fun i x hx => by
    obtain ⟨h1, h2, h3, h4, h5⟩ := h.each i x hx
    exact ⟨h1, h2, h3, h4.later hb, h5⟩, h.dis⟩
theorem Zn.out {lo hi B1 B2 : Nat} {v : Value} {l : List Sg} {p : Nat → Nat × Nat} {w w' : World} (h : Zn lo hi v l p w) (ho : Out B1 B2 w w') (hd : hi ≤ B1 ∨ B2 ≤ lo) : Zn lo hi v l p w' :=
  ⟨h.row.move fun b hb => ho.2.2.2.2 b (h.row.lt hb).2 (by have := h.rb b hb; have := (h.row.lt hb).1; omega), h.rb, fun i x hx => by
    obtain ⟨h1, h2, h3, h4, h5⟩ := h.each i x hx
    exact ⟨h1, h2, h3, h4.out ho (by omega), h5⟩, h.dis⟩
theorem Zn.nil (w : World) (lo hi : Nat) : Zn lo hi (.slice none 0 0) [] (fun _ => (0, 0)) w := ⟨OS2.nil _ _, (fun b hb => by cases hb), (fun i x hx => by simp at hx), (fun i j _ hj => by simp at hj)⟩
theorem Zn.mono {lo hi hi' lo' : Nat} {v : Value} {l : List Sg} {p : Nat → Nat × Nat} {w : World} (h : Zn lo hi v l p w) (hh : hi ≤ hi') (hl : lo' ≤ lo) : Zn lo' hi' v l p w :=
  ⟨⟨h.row.1, by
      rcases h.row.2 with h0 | ⟨g, cap, cur, e, hg, r⟩
      · exact .inl h0
      · exact .inr ⟨g, cap, cur, e, by omega, r⟩⟩, fun b hb => Nat.lt_of_lt_of_le (h.rb b hb) hh, fun i x hx => by
    obtain ⟨h1, h2, h3, h4, h5⟩ := h.each i x hx
    exact ⟨by omega, h2, by omega, h4, h5⟩, h.dis⟩

/-- One scope more. -/
theorem Zn.app {w w1 w2 : World} {lo : Nat} {v v' : Value} {l : List Sg} {y : Sg} {p : Nat → Nat × Nat} (h : Zn lo w.heap.size v l p w) (hlo : lo ≤ w.heap.size) (hb : Below w.heap.size w w1) (hy : Lx w.heap.size w1.heap.size y w1) (hg : w1.grownBy w2 v.ownBlock) (ho : OS2 w2 lo v' (l ++ [y])) (hv : v'.ownBlock = v.ownBlock ∨ v'.ownBlock = some w1.heap.size) :
    Zn lo w2.heap.size v' (l ++ [y]) (fun i => if i < l.length then p i else (w.heap.size, w1.heap.size)) w2 := by
  have h1 := h.later hb
  have hs := hb.size
  have hs2 : w1.heap.size ≤ w2.heap.size := hg.size
  have keep : ∀ {a b : Nat} {x : Sg}, Lx a b x w1 → (∀ q, v.ownBlock = some q → q < a ∨ b ≤ q) → Lx a b x w2 := fun hx hq => by
    rcases grown_out hg with ⟨-, hb2⟩ | ⟨q, hvq, ho2⟩
    · exact hx.later hb2
    · exact hx.out ho2 (by have := hq q hvq; omega)
  refine ⟨ho, fun b hb' => (ho.lt hb').2, fun i x hx => ?_, fun i j hij hj => ?_⟩
  · by_cases hi : i < l.length
    · rw [List.getElem?_append_left hi] at hx
      obtain ⟨q1, q2, q3, q4, q5⟩ := h1.each i x hx
      simp only [if_pos hi]
      refine ⟨q1, q2, by omega, keep q4 q5, fun b hb' => ?_⟩
      rcases hv with hv | hv
      · exact q5 b (hv ▸ hb')
      · rw [hv] at hb'
        cases hb'
        omega
    · have hil := (List.getElem?_eq_some_iff.1 hx).1
      simp at hil
      have e : i = l.length := by omega
      rw [e] at hx
      simp at hx
      subst hx
      simp only [if_neg hi]
      refine ⟨hlo, hs, hs2, keep hy (fun q hq => .inl (h.row.lt hq).2), fun b hb' => ?_⟩
      rcases hv with hv | hv
      · rw [hv] at hb'
        exact .inl (h.row.lt hb').2
      · rw [hv] at hb'
        cases hb'
        exact .inr (Nat.le_refl _)
  · simp at hj
    have hi : i < l.length := by omega
    simp only [if_pos hi]
    obtain ⟨x, hx⟩ : ∃ x, l[i]? = some x := ⟨_, List.getElem?_eq_getElem hi⟩
    by_cases hj2 : j < l.length
    · simp only [if_pos hj2]
      exact h.dis i j hij hj2
    · simp only [if_neg hj2]
      exact (h.each i x hx).2.2.1

end Go.Proofs.YtofdkdaehhpgbaaGreatDoor
