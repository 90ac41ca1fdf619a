/- Literals in new memory: each one's terms between two blocks of their own; one more, or more, at the end. -/
import Derived.Test.YtofdkdaehhpgbaaGreatDoorZTN
import Derived.Test.YtofdkdaehhpgbaaGreatDoorZIA
namespace Go.Proofs.YtofdkdaehhpgbaaGreatDoor
set_option linter.unusedVariables false
set_option linter.unusedSimpArgs false
open Go.RowKit

/-- Its terms lie from lo on, one behind the other, ahead of hi. -/
def Lt (lo hi : Nat) (x : Lg) (w : World) : Prop := ∃ mid, lo ≤ mid ∧ mid ≤ hi ∧ Tt lo mid (.slice x.sa x.ss.length x.sc) x.ss w ∧ Tt mid hi (.slice x.ta x.ts.length x.tc) x.ts w
theorem Lt.later {lo hi : Nat} {x : Lg} {w w' : World} (h : Lt lo hi x w) (hb : Below w.heap.size w w') : Lt lo hi x w' := by
  obtain ⟨mid, h1, h2, h3, h4⟩ := h
  exact ⟨mid, h1, h2, h3.later hb, h4.later hb⟩
theorem Lt.out {lo hi B1 B2 : Nat} {x : Lg} {w w' : World} (h : Lt lo hi x w) (ho : Out B1 B2 w w') (hd : hi ≤ B1 ∨ B2 ≤ lo) : Lt lo hi x w' := by
  obtain ⟨mid, h1, h2, h3, h4⟩ := h
  exact ⟨mid, h1, h2, h3.out ho (by omega), h4.out ho (by omega)⟩
theorem Lt.rd {lo hi : Nat} {x : Lg} {w : World} (h : Lt lo hi x w) (hs : x.ss.length ≤ 1048576) (ht : x.ts.length ≤ 1048576) (h1 : ∀ y ∈ x.ss, okT y.ct) (h2 : ∀ y ∈ x.ts, okT y.ct) : RdT w x.sa x.ss ∧ RdT w x.ta x.ts := by
  obtain ⟨mid, -, -, h3, h4⟩ := h
  obtain ⟨a1, c1, e1, r1⟩ := h3.ts.rd hs h1
  obtain ⟨a2, c2, e2, r2⟩ := h4.ts.rd ht h2
  cases e1
  cases e2
  exact ⟨r1, r2⟩

/-- What a row that grows leaves as it was, as blocks between two numbers. -/
theorem grown_out {w w' : World} {r : Option Nat} (h : w.grownBy w' r) : (r = none ∧ Below w.heap.size w w') ∨ ∃ b, r = some b ∧ Out b (b + 1) w w' := by
  cases r with
  | none => exact .inl ⟨rfl, ⟨h.os, h.tape, h.output, h.size, fun k hk => h.block k hk (by simp)⟩⟩
  | some b => exact .inr ⟨b, rfl, ⟨h.os, h.tape, h.output, h.size, fun k hk hd => h.block k hk (by simp; omega)⟩⟩

/-- A row of literals in new memory, from lo on, ahead of hi: each one's terms have blocks of their own, among which the row itself is not. -/
structure Ln (lo hi : Nat) (v : Value) (l : List Lg) (p : Nat → Nat × Nat) (w : World) : Prop where
  row : OL4 w lo v l
  rb : ∀ b, v.ownBlock = some b → b < hi
  each : ∀ i x, l[i]? = some x → lo ≤ (p i).1 ∧ (p i).1 ≤ (p i).2 ∧ (p i).2 ≤ hi ∧ Lt (p i).1 (p i).2 x w ∧ ∀ b, v.ownBlock = some b → b < (p i).1 ∨ (p i).2 ≤ b
  dis : ∀ i j, i < j → j < l.length → (p i).2 ≤ (p j).1

theorem Ln.later {lo hi : Nat} {v : Value} {l : List Lg} {p : Nat → Nat × Nat} {w w' : World} (h : Ln lo hi v l p w) (hb : Below w.heap.size w w') : Ln lo hi v l p w' :=
  ⟨h.row.later hb, h.rb, fun i x hx => by
    obtain ⟨h1, h2, h3, h4, h5⟩ := h.each i x hx
    exact ⟨h1, h2, h3, h4.later hb, h5⟩, h.dis⟩
theorem OL4.move {w w' : World} {B : Nat} {v : Value} {l : List Lg} (h : OL4 w B v l) (hk : ∀ b, v.ownBlock = some b → w'.heap[b]? = w.heap[b]?) : OL4 w' B v l := by
  obtain ⟨h1, h2⟩ := h
  refine ⟨h1, ?_⟩
  rcases h2 with h2 | ⟨g, cap, cur, rfl, hg, hh, r⟩
  · exact .inl h2
  · exact .inr ⟨g, cap, cur, rfl, hg, by rw [hk g rfl]; exact hh, r⟩
theorem Ln.out {lo hi B1 B2 : Nat} {v : Value} {l : List Lg} {p : Nat → Nat × Nat} {w w' : World} (h : Ln lo hi v l p w) (ho : Out B1 B2 w w') (hd : hi ≤ B1 ∨ B2 ≤ lo) : Ln lo hi v l p w' :=
  ⟨h.row.move fun b hb => ho.2.2.2.2 b (h.row.lt hb).2 (by have := h.rb b hb; have := (h.row.lt hb).1; omega), h.rb, fun i x hx => by
    obtain ⟨h1, h2, h3, h4, h5⟩ := h.each i x hx
    exact ⟨h1, h2, h3, h4.out ho (by omega), h5⟩, h.dis⟩
theorem Ln.nil (w : World) (lo hi : Nat) : Ln lo hi (.slice none 0 0) [] (fun _ => (0, 0)) w := ⟨OL4.nil _ _, (fun b hb => by cases hb), (fun i x hx => by simp at hx), (fun i j _ hj => by simp at hj)⟩
theorem Ln.mono {lo hi hi' lo' : Nat} {v : Value} {l : List Lg} {p : Nat → Nat × Nat} {w : World} (h : Ln lo hi v l p w) (hh : hi ≤ hi') (hl : lo' ≤ lo) : Ln lo' hi' v l p w :=
  ⟨⟨h.row.1, by
      rcases h.row.2 with h0 | ⟨g, cap, cur, e, hg, r⟩
      · exact .inl h0
      · exact .inr ⟨g, cap, cur, e, by omega, r⟩⟩, fun b hb => Nat.lt_of_lt_of_le (h.rb b hb) hh, fun i x hx => by
    obtain ⟨h1, h2, h3, h4, h5⟩ := h.each i x hx
    exact ⟨by omega, h2, by omega, h4, h5⟩, h.dis⟩

/-- One literal more. -/
theorem Ln.app {w w1 w2 : World} {lo : Nat} {v v' : Value} {l : List Lg} {y : Lg} {p : Nat → Nat × Nat} (h : Ln lo w.heap.size v l p w) (hlo : lo ≤ w.heap.size) (hb : Below w.heap.size w w1) (hy : Lt w.heap.size w1.heap.size y w1) (hg : w1.grownBy w2 v.ownBlock) (ho : OL4 w2 lo v' (l ++ [y])) (hv : v'.ownBlock = v.ownBlock ∨ v'.ownBlock = some w1.heap.size) :
    Ln lo w2.heap.size v' (l ++ [y]) (fun i => if i < l.length then p i else (w.heap.size, w1.heap.size)) w2 := by
  have h1 := h.later hb
  have hs := hb.size
  have hs2 : w1.heap.size ≤ w2.heap.size := hg.size
  have keep : ∀ {a b : Nat} {x : Lg}, Lt a b x w1 → (∀ q, v.ownBlock = some q → q < a ∨ b ≤ q) → Lt a b x w2 := fun hx hq => by
    rcases grown_out hg with ⟨-, hb2⟩ | ⟨q, hvq, ho2⟩
    · exact hx.later hb2
    · exact hx.out ho2 (by have := hq q hvq; omega)
  refine ⟨ho, fun b hb' => (ho.lt hb').2, fun i x hx => ?_, fun i j hij hj => ?_⟩
  · by_cases hi : i < l.length
    · rw [List.getElem?_append_left hi] at hx
      obtain ⟨q1, q2, q3, q4, q5⟩ := h1.each i x hx
      simp only [if_pos hi]
      refine ⟨q1, q2, by omega, keep q4 q5, fun b hb' => ?_⟩
      rcases hv with hv | hv
      · exact q5 b (hv ▸ hb')
      · rw [hv] at hb'
        cases hb'
        omega
    · have hil := (List.getElem?_eq_some_iff.1 hx).1
      simp at hil
      have e : i = l.length := by omega
      rw [e] at hx
      simp at hx
      subst hx
      simp only [if_neg hi]
      refine ⟨hlo, hs, hs2, keep hy (fun q hq => .inl (h.row.lt hq).2), fun b hb' => ?_⟩
      rcases hv with hv | hv
      · rw [hv] at hb'
        exact .inl (h.row.lt hb').2
      · rw [hv] at hb'
        cases hb'
        exact .inr (Nat.le_refl _)
  · simp at hj
    have hi : i < l.length := by omega
    simp only [if_pos hi]
    obtain ⟨x, hx⟩ : ∃ x, l[i]? = some x := ⟨_, List.getElem?_eq_getElem hi⟩
    by_cases hj2 : j < l.length
    · simp only [if_pos hj2]
      exact h.dis i j hij hj2
    · simp only [if_neg hj2]
      exact (h.each i x hx).2.2.1

theorem wp_appL (w : World) {o : Oper} {a : Act} {K : Act → World → Prop} {Q : Exit → Act → World → Prop} (s x : Operand)
    (ho : o.op = .call { callee := .builtin .append, args := #[s, x], argTypes := #[61, 61] })
    (B : Nat) (v : Value) (l ys : List Lg) (hs : a.eval s = v) (hown : OL4 w B v l) (ad : Addr) (c n : Nat) (hn : ys.length = n) (hx : a.eval x = .slice (some ad) n c)
    (hr : ∀ j u, (lgc ys)[j]? = some u → w.cell? (ad.add j) = some u) (hl : l.length + n ≤ 1073741824) (hB : B ≤ w.heap.size)
    (h : ∀ v' w', OL4 w' B v' (l ++ ys) → w.grownBy w' v.ownBlock → (v'.ownBlock = v.ownBlock ∨ v'.ownBlock = some w.heap.size) → K (a.put o.dst v') w') : Oper.wp Tryz.prog o a w K Q := by
  obtain ⟨i0, hi, hz0, hz1, hz2⟩ := info_parts Tryz.infoLit
  subst hn
  obtain ⟨v', w', hr2, h2, h3, h4, h5⟩ := run_append_own_at (P := Tryz.prog) w B 61 o.type 68 i0 _ 4 64 Tryz.underlying61 hi hz0 hz1 hz2 rfl (by decide) v l.length (lgc l) hown ad ys.length c (lgc ys) (lgc_len ys) hr (fun u hu => by
    obtain ⟨j, hj⟩ := List.getElem?_of_mem hu
    obtain ⟨i, x, -, h⟩ := lgc_at hj
    rcases h with ⟨-, rfl⟩ | ⟨-, rfl⟩ | ⟨-, rfl⟩ | ⟨-, rfl⟩ <;> rfl) (by unfold maxLen; omega) (by omega) hB
  unfold Oper.wp execOp
  simp only [ho, resolve, invoke, builtin, Sem.run_bind, Sem.run_pure, Result.andThen_ok, List.map_toArray, List.map_cons, List.map_nil, hs, hx, hr2]
  refine h v' w' ?_ h3 h5
  unfold OL4
  rw [lgc_append, List.length_append]
  exact h2

theorem step_appL (w : World) {ops : Array Oper} {o : Oper} {a : Act} {K : Act → World → Prop} {Q : Exit → Act → World → Prop} {E : Prop} (hgd : o.guard = none) (s x : Operand)
    (ho : o.op = .call { callee := .builtin .append, args := #[s, x], argTypes := #[61, 61] })
    (B : Nat) (v : Value) (l ys : List Lg) (hs : a.eval s = v) (hown : OL4 w B v l) (ad : Addr) (c n : Nat) (hn : ys.length = n) (hx : a.eval x = .slice (some ad) n c)
    (hr : ∀ j u, (lgc ys)[j]? = some u → w.cell? (ad.add j) = some u) (hl : l.length + n ≤ 1073741824) (hB : B ≤ w.heap.size)
    (h : ∀ v' w', OL4 w' B v' (l ++ ys) → w.grownBy w' v.ownBlock → (v'.ownBlock = v.ownBlock ∨ v'.ownBlock = some w.heap.size) → K (a.put o.dst v') w') :
    if Region.wanted o (yielded ops a.tmps) = true then Oper.wp Tryz.prog o a w K Q else E := by
  have hw : Region.wanted o (yielded ops a.tmps) = true := by simp [Region.wanted, hgd]
  rw [if_pos hw]
  exact wp_appL w s x ho B v l ys hs hown ad c n hn hx hr hl hB h

theorem wpList_appL (w : World) {ops : Array Oper} {rest : List Oper} {o : Oper} {a : Act} {Q : Exit → Act → World → Prop} (hgd : o.guard = none) (s x : Operand)
    (ho : o.op = .call { callee := .builtin .append, args := #[s, x], argTypes := #[61, 61] })
    (B : Nat) (v : Value) (l ys : List Lg) (hs : a.eval s = v) (hown : OL4 w B v l) (ad : Addr) (c n : Nat) (hn : ys.length = n) (hx : a.eval x = .slice (some ad) n c)
    (hr : ∀ j u, (lgc ys)[j]? = some u → w.cell? (ad.add j) = some u) (hl : l.length + n ≤ 1073741824) (hB : B ≤ w.heap.size)
    (h : ∀ v' w', OL4 w' B v' (l ++ ys) → w.grownBy w' v.ownBlock → (v'.ownBlock = v.ownBlock ∨ v'.ownBlock = some w.heap.size) → wpList Tryz.prog ops Q rest (a.put o.dst v') w') : wpList Tryz.prog ops Q (o :: rest) a w :=
  wpList_plain hgd fun _ hK => wp_appL w s x ho B v l ys hs hown ad c n hn hx hr hl hB fun v' w' h2 h3 h4 => hK _ _ (h v' w' h2 h3 h4)

end Go.Proofs.YtofdkdaehhpgbaaGreatDoor
