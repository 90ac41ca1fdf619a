/- append(nodes, list...). -/
import Derived.Test.YtkngpgonmedgpaaGreatDoorGAG
import Derived.Lib.AppendZeros
namespace Go.Proofs.YtkngpgonmedgpaaGreatDoor
set_option linter.unusedVariables false
set_option linter.unusedSimpArgs false
open Go.RowKit
theorem tgc_one (l : List Tg) : ∀ u ∈ tgc l, u.oneCell' = true := by
 induction l with
 | nil => intro u hu; cases hu
 | cons x t ih =>
  intro u hu
  simp [tgc, tgv] at hu
  rcases hu with rfl | rfl | rfl | rfl | rfl | rfl | rfl | hu
  ·rfl
  ·rfl
  ·rfl
  ·rfl
  ·rfl
  ·rfl
  ·rfl
  ·exact ih u hu
theorem RdT.cells {w : World} {b o : Nat} {l : List Tg} (h : RdT w (some ⟨b, o, none⟩) l) : ∀ j u, (tgc l)[j]? = some u → w.cell? ((⟨b, o, none⟩ : Addr).add j) = some u := fun j u hj => by
 have hjl := (List.getElem?_eq_some_iff.1 hj).1
 rw [tgc_len] at hjl
 obtain ⟨x, hx⟩ : ∃ x, l[j / 7]? = some x := ⟨l[j / 7]'(by omega), List.getElem?_eq_getElem _⟩
 have e := tgc_get (j % 7) (Nat.mod_lt _ (by decide)) hx
 rw [show j / 7 * 7 + j % 7 = j by omega, hj] at e
 obtain ⟨-, h0 | ⟨b', o', eq, hc⟩⟩ := h
 ·rw [h0] at hx; simp at hx
 ·cases eq
  obtain ⟨⟨f0, f1, f2, f3, f4, f5, f6⟩, -⟩ := hc _ x hx
  rw [Addr.add_lit]
  have hj7 : o + j = o + j / 7 * 7 + j % 7 := by omega
  rw [hj7]
  have h7 : j % 7 < 7 := Nat.mod_lt _ (by decide)
  generalize j % 7 = r at *
  match r, h7, e with
  | 0, _, e => simp [tgv] at e; subst e; exact f0
  | 1, _, e => simp [tgv] at e; subst e; exact f1
  | 2, _, e => simp [tgv] at e; subst e; exact f2
  | 3, _, e => simp [tgv] at e; subst e; exact f3
  | 4, _, e => simp [tgv] at e; subst e; exact f4
  | 5, _, e => simp [tgv] at e; subst e; exact f5
  | 6, _, e => simp [tgv] at e; subst e; exact f6
  | r + 7, h, _ => omega
theorem wpList_appTs (w : World) {ops : Array Oper} {rest : List Oper} {o : Oper} {a : Act} {Q : Exit → Act → World → Prop} (hgd : o.guard = none) (s x : Operand)
  (ho : o.op = .call { callee := .builtin .append, args := #[s, x], argTypes := #[26, 26] })
  (B : Nat) (v : Value) (l ys : List Tg) (hs : a.eval s = v) (hown : OT w B v l) (g o' m c : Nat) (hx : a.eval x = .slice (some ⟨g, o', none⟩) m c) (hm : ys.length = m)
  (hr : RdT w (some ⟨g, o', none⟩) ys) (hl : l.length + m ≤ 1073741824) (hB : B ≤ w.heap.size)
  (h : ∀ v' w', OT w' B v' (l ++ ys) → w.grownBy w' v.ownBlock → wpList Tryz.prog ops Q rest (a.put o.dst v') w') : wpList Tryz.prog ops Q (o :: rest) a w := by
 obtain ⟨i0, hi, hz0, hz1, hz2⟩ := info_parts Tryz.infoTNode
 refine wpList_append_own w hgd s x 26 ho B 119 i0 _ 7 88 Tryz.underlying26 hi hz0 hz1 hz2 rfl (by decide) v l.length (tgc l) hs hown ⟨g, o', none⟩ m c (tgc ys) hx (by rw [tgc_len, hm]) hr.cells (tgc_one ys) (by unfold maxLen; omega) (by omega) hB ?_
 intro v' w' h1 h2 _
 refine h v' w' ?_ h2
 unfold OT
 rw [tgc_append, List.length_append, hm]
 exact h1

end Go.Proofs.YtkngpgonmedgpaaGreatDoor
