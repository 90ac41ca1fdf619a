/- All literals of a session, in new memory: what both AllOf answer. -/
import Derived.Test.YtofdkdaehhpgbaaGreatDoorLTE
import Derived.Test.YtofdkdaehhpgbaaGreatDoorSSK
import Derived.Test.YtofdkdaehhpgbaaGreatDoorSSJ
namespace Go.Proofs.YtofdkdaehhpgbaaGreatDoor
set_option linter.unusedVariables false
set_option linter.unusedSimpArgs false
open Go.RowKit

/-- Literals that lie from lo on, ahead of hi, and can be read. -/
structure Lr (lo hi : Nat) (v : Value) (l : List Lg) (w : World) : Prop where
  row : OL4 w lo v l
  rb : ∀ b, v.ownBlock = some b → b < hi
  each : ∀ x ∈ l, Tt lo hi (.slice x.sa x.ss.length x.sc) x.ss w ∧ Tt lo hi (.slice x.ta x.ts.length x.tc) x.ts w
theorem Lr.later {lo hi : Nat} {v : Value} {l : List Lg} {w w' : World} (h : Lr lo hi v l w) (hb : Below w.heap.size w w') : Lr lo hi v l w' := ⟨h.row.later hb, h.rb, fun x hx => ⟨(h.each x hx).1.later hb, (h.each x hx).2.later hb⟩⟩
theorem Lr.out {lo hi B1 B2 : Nat} {v : Value} {l : List Lg} {w w' : World} (h : Lr lo hi v l w) (ho : Out B1 B2 w w') (hd : hi ≤ B1 ∨ B2 ≤ lo) : Lr lo hi v l w' :=
  ⟨h.row.move fun b hb => ho.2.2.2.2 b (h.row.lt hb).2 (by have := h.rb b hb; have := (h.row.lt hb).1; omega), h.rb, fun x hx => ⟨(h.each x hx).1.out ho hd, (h.each x hx).2.out ho hd⟩⟩
theorem Lr.nil (w : World) (lo hi : Nat) : Lr lo hi (.slice none 0 0) [] w := ⟨OL4.nil _ _, (fun b hb => by cases hb), (fun x hx => by simp at hx)⟩
theorem Ln.lr {lo hi : Nat} {v : Value} {l : List Lg} {p : Nat → Nat × Nat} {w : World} (h : Ln lo hi v l p w) : Lr lo hi v l w :=
  ⟨h.row, h.rb, fun x hx => by
    obtain ⟨i, hi⟩ := List.getElem?_of_mem hx
    obtain ⟨q1, q2, q3, ⟨mid, m1, m2, t1, t2⟩, -⟩ := h.each i x hi
    exact ⟨t1.mono q1 (by omega), t2.mono (by omega) q3⟩⟩

/-- Contents that can be read. -/
def okLc (x : Lc) : Prop := in64 x.id ∧ x.ss.length ≤ 1048576 ∧ x.ts.length ≤ 1048576 ∧ (∀ y ∈ x.ss, okT y) ∧ ∀ y ∈ x.ts, okT y

theorem Lr.rd {lo hi : Nat} {v : Value} {l : List Lg} {w : World} (h : Lr lo hi v l w) (hl : l.length ≤ 1048576) (hX : ∀ y ∈ l.map Lg.ct, okLc y) : ∃ a c, v = .slice a l.length c ∧ RdL w a l := by
  refine h.row.rd hl fun x hx => ?_
  obtain ⟨k1, k2, k3, k4, k5⟩ := hX x.ct (List.mem_map_of_mem hx)
  obtain ⟨t1, t2⟩ := h.each x hx
  obtain ⟨a1, c1, e1, r1⟩ := t1.ts.rd (by simpa [Lg.ct] using k2) (fun y hy => k4 _ (by simp only [Lg.ct]; exact List.mem_map_of_mem hy))
  obtain ⟨a2, c2, e2, r2⟩ := t2.ts.rd (by simpa [Lg.ct] using k3) (fun y hy => k5 _ (by simp only [Lg.ct]; exact List.mem_map_of_mem hy))
  cases e1
  cases e2
  exact ⟨r1, r2, k1⟩

/-- A row of literals more, wherever it lies, also where there is none. -/
theorem wp_appLo (w : World) {o : Oper} {a : Act} {K : Act → World → Prop} {Q : Exit → Act → World → Prop} (s x : Operand)
    (ho : o.op = .call { callee := .builtin .append, args := #[s, x], argTypes := #[61, 61] })
    (B C : Nat) (v : Value) (l ys : List Lg) (hs : a.eval s = v) (hown : OL4 w B v l) (v2 : Value) (hx : a.eval x = v2) (h2 : OL4 w C v2 ys) (hl : l.length + ys.length ≤ 1073741824) (hB : B ≤ w.heap.size)
    (h : ∀ v' w', OL4 w' B v' (l ++ ys) → w.grownBy w' v.ownBlock → (v'.ownBlock = v.ownBlock ∨ v'.ownBlock = some w.heap.size) → K (a.put o.dst v') w') : Oper.wp Tryz.prog o a w K Q := by
  rcases h2.2 with ⟨rfl, h0⟩ | ⟨g, cap, cur, rfl, hg, hh, hc1, hc2, hsz, hcur⟩
  · have e := List.eq_nil_of_length_eq_zero h0
    subst e
    obtain ⟨i0, hi, hz0, hz1, hz2⟩ := info_parts Tryz.infoLit
    have hr9 := run_append_owned_none (P := Tryz.prog) (w := w) B 61 o.type 68 i0 4 Tryz.underlying61 hi v l.length (lgc l) hown
    unfold Oper.wp execOp
    simp only [ho, resolve, invoke, builtin, Sem.run_bind, Sem.run_pure, Result.andThen_ok, List.map_toArray, List.map_cons, List.map_nil, hs, hx, hr9]
    exact h v w (by rw [List.append_nil]; exact hown) (World.grownBy.refl w _) (.inl rfl)
  · refine wp_appL w s x ho B v l ys hs hown ⟨g, 0, none⟩ cap ys.length rfl hx (fun j u hj => ?_) hl hB h
    have hjl := (List.getElem?_eq_some_iff.1 hj).1
    rw [lgc_len] at hjl
    rw [Addr.add_lit, Nat.zero_add, cell_of_row w g _ cur _ _ hh]
    rw [← hcur, List.getElem?_take, if_pos (by omega)] at hj
    simpa using hj

theorem step_appLo (w : World) {ops : Array Oper} {o : Oper} {a : Act} {K : Act → World → Prop} {Q : Exit → Act → World → Prop} {E : Prop} (hgd : o.guard = none) (s x : Operand)
    (ho : o.op = .call { callee := .builtin .append, args := #[s, x], argTypes := #[61, 61] })
    (B C : Nat) (v : Value) (l ys : List Lg) (hs : a.eval s = v) (hown : OL4 w B v l) (v2 : Value) (hx : a.eval x = v2) (h2 : OL4 w C v2 ys) (hl : l.length + ys.length ≤ 1073741824) (hB : B ≤ w.heap.size)
    (h : ∀ v' w', OL4 w' B v' (l ++ ys) → w.grownBy w' v.ownBlock → (v'.ownBlock = v.ownBlock ∨ v'.ownBlock = some w.heap.size) → K (a.put o.dst v') w') :
    if Region.wanted o (yielded ops a.tmps) = true then Oper.wp Tryz.prog o a w K Q else E := by
  have hw : Region.wanted o (yielded ops a.tmps) = true := by simp [Region.wanted, hgd]
  rw [if_pos hw]
  exact wp_appLo w s x ho B C v l ys hs hown v2 hx h2 hl hB h

theorem wpList_appLo (w : World) {ops : Array Oper} {rest : List Oper} {o : Oper} {a : Act} {Q : Exit → Act → World → Prop} (hgd : o.guard = none) (s x : Operand)
    (ho : o.op = .call { callee := .builtin .append, args := #[s, x], argTypes := #[61, 61] })
    (B C : Nat) (v : Value) (l ys : List Lg) (hs : a.eval s = v) (hown : OL4 w B v l) (v2 : Value) (hx : a.eval x = v2) (h2 : OL4 w C v2 ys) (hl : l.length + ys.length ≤ 1073741824) (hB : B ≤ w.heap.size)
    (h : ∀ v' w', OL4 w' B v' (l ++ ys) → w.grownBy w' v.ownBlock → (v'.ownBlock = v.ownBlock ∨ v'.ownBlock = some w.heap.size) → wpList Tryz.prog ops Q rest (a.put o.dst v') w') : wpList Tryz.prog ops Q (o :: rest) a w :=
  wpList_plain hgd fun _ hK => wp_appLo w s x ho B C v l ys hs hown v2 hx h2 hl hB fun v' w' h2 h3 h4 => hK _ _ (h v' w' h2 h3 h4)

/-- What AllOf answers. -/
def allR (ds : List Dc) (ss : List Sc) (nx : Int) : List Lc := if sesR ds ss nx = true then allL ss else []

def SnS (xs : List Sg) : Prop := ∀ x ∈ xs, SnL x.ls
theorem SnS.flat {xs : List Sg} (h : SnS xs) : SnL (xs.flatMap Sg.ls) := fun x hx => by
  obtain ⟨s, hs, hxs⟩ := List.mem_flatMap.1 hx
  exact h s hs x hxs

/-- The program's AllOf: a copy in new memory. -/
def RetAl (A : List Lc) (w : World) (e : Ending) (w' : World) : Prop := ∃ a2 c2 l p, e = .returned (.slice a2 A.length c2) ∧ Ln w.heap.size w'.heap.size (.slice a2 A.length c2) l p w' ∧ l.map Lg.ct = A ∧ Below w.heap.size w w'


end Go.Proofs.YtofdkdaehhpgbaaGreatDoor
