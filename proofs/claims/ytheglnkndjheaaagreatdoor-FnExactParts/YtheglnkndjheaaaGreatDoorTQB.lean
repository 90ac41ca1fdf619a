/- Touching: rows of nodes joined: slices.Grow, slices.Concat. -/
import Derived.Test.YtheglnkndjheaaaGreatDoorTQA
import Derived.Test.YtheglnkndjheaaaGreatDoorTNA
import Derived.Lib.AppendZeros
namespace Go.Proofs.YtheglnkndjheaaaGreatDoor
set_option linter.unusedVariables false
set_option linter.unusedSimpArgs false
open Go.RowKit

theorem tgc_one (l : List Tg) : ∀ u ∈ tgc l, u.oneCell' = true := by
  induction l with
  | nil => intro u hu; cases hu
  | cons x t ih =>
    intro u hu
    simp [tgc, tgv] at hu
    rcases hu with rfl | rfl | rfl | rfl | rfl | rfl | rfl | hu
    · rfl
    · rfl
    · rfl
    · rfl
    · rfl
    · rfl
    · rfl
    · exact ih u hu
theorem RdT.cells {w : World} {b o : Nat} {l : List Tg} (h : RdT w (some ⟨b, o, none⟩) l) : ∀ j u, (tgc l)[j]? = some u → w.cell? ((⟨b, o, none⟩ : Addr).add j) = some u := fun j u hj => by
  have hjl := (List.getElem?_eq_some_iff.1 hj).1
  rw [tgc_len] at hjl
  obtain ⟨x, hx⟩ : ∃ x, l[j / 7]? = some x := ⟨l[j / 7]'(by omega), List.getElem?_eq_getElem _⟩
  have e := tgc_get (j % 7) (Nat.mod_lt _ (by decide)) hx
  rw [show j / 7 * 7 + j % 7 = j by omega, hj] at e
  obtain ⟨-, h0 | ⟨b', o', eq, hc⟩⟩ := h
  · rw [h0] at hx; simp at hx
  · cases eq
    obtain ⟨⟨f0, f1, f2, f3, f4, f5, f6⟩, -⟩ := hc _ x hx
    rw [Addr.add_lit]
    have hj7 : o + j = o + j / 7 * 7 + j % 7 := by omega
    rw [hj7]
    have h7 : j % 7 < 7 := Nat.mod_lt _ (by decide)
    generalize j % 7 = r at *
    match r, h7, e with
    | 0, _, e => simp [tgv] at e; subst e; exact f0
    | 1, _, e => simp [tgv] at e; subst e; exact f1
    | 2, _, e => simp [tgv] at e; subst e; exact f2
    | 3, _, e => simp [tgv] at e; subst e; exact f3
    | 4, _, e => simp [tgv] at e; subst e; exact f4
    | 5, _, e => simp [tgv] at e; subst e; exact f5
    | 6, _, e => simp [tgv] at e; subst e; exact f6
    | r + 7, h, _ => omega
theorem OT.bel {w w' : World} {B : Nat} {v : Value} {l : List Tg} (h : OT w B v l) (hg : w.grownBy w' v.ownBlock) (hB : B ≤ w.heap.size) : Below B w w' :=
  ⟨hg.os, hg.tape, hg.output, hg.size, fun k hk => hg.block k (by omega) (fun e => by have := (h.lt e.symm).1; omega)⟩
/-- Nodes that can be read, be there none, appended to an owned row. -/
theorem wpList_appTs (w : World) {ops : Array Oper} {rest : List Oper} {o : Oper} {a : Act} {Q : Exit → Act → World → Prop} (hgd : o.guard = none) (s x : Operand)
    (ho : o.op = .call { callee := .builtin .append, args := #[s, x], argTypes := #[58, 58] })
    (B : Nat) (v : Value) (l ys : List Tg) (hs : a.eval s = v) (hown : OT w B v l) (g o' m c : Nat) (hx : a.eval x = .slice (some ⟨g, o', none⟩) m c) (hm : ys.length = m)
    (hr : RdT w (some ⟨g, o', none⟩) ys) (hl : l.length + m ≤ 1073741824) (hB : B ≤ w.heap.size)
    (h : ∀ v' w', OT w' B v' (l ++ ys) → w.grownBy w' v.ownBlock → wpList Tryz.prog ops Q rest (a.put o.dst v') w') : wpList Tryz.prog ops Q (o :: rest) a w := by
  obtain ⟨i0, hi, hz0, hz1, hz2⟩ := info_parts Tryz.infoTNode
  refine wpList_append_own w hgd s x 58 ho B 104 i0 _ 7 88 Tryz.underlying58 hi hz0 hz1 hz2 rfl (by decide) v l.length (tgc l) hs hown ⟨g, o', none⟩ m c (tgc ys) hx (by rw [tgc_len, hm]) hr.cells (tgc_one ys) (by unfold maxLen; omega) (by omega) hB ?_
  intro v' w' h1 h2 _
  refine h v' w' ?_ h2
  unfold OT
  rw [tgc_append, List.length_append, hm]
  exact h1

set_option maxHeartbeats 1000000 in
theorem growT_any (n : Nat) (h0 : 0 < n) (hn : n ≤ 2097153) (w : World) :
    Calls Tryz.prog 78 #[.slice none 0 0, .int .i64 (n : Int)] w fun e w' => ∃ v, e = .returned v ∧ OT w' w.heap.size v [] ∧ Below w.heap.size w w' := by
  obtain ⟨i0, hi, hz0, hz1, hz2⟩ := info_parts Tryz.infoTNode
  have happ := kide (fun (u : World) ty => Lib.run_append_nil_zeros (P := Tryz.prog) u 58 3 ty 104 i0 _ .i64 .i64 Tryz.underlying58 Tryz.underlying3 hi hz0 n h0 (by rw [hz1]; omega) (by omega) (by rw [hz2]; omega))
  have p0 : ¬ (n : Int) < 0 := by omega
  have p1 : (0 : Int) < (n : Int) := by omega
  clear hi hz0 hz1 hz2
  go_enter Tryz.func78, Tryz.ntmps78
  go_wp2_with (at_builtin; refine Lib.wpList_append_run _ rfl _ _ _ _ rfl _ _ rfl rfl _ _ (happ.out _ _) ?_)
  go_ret
  refine ⟨_, rfl, ?_, ?_⟩
  · exact World.ownsRow_made w.drew _ (grownCap w n 0 104) (Nat.le_refl _) (grownCap_le_maxLen _ _ _ _ (by unfold maxLen; omega)) (by have := grownCap_ge w n 0 104; simp [Builtin.zeroCells]; omega)
  · exact ((Below.refl _ _).drew).alloc (Nat.le_refl _) _

set_option maxHeartbeats 1000000 in
theorem concatT_any (g g1 o1 n c g2 o2 m c2 : Nat) (ds es : List Tg) (w : World) (h0 : w.cell? ⟨g, 0, none⟩ = some (.slice (some ⟨g1, o1, none⟩) n c)) (h1 : w.cell? ⟨g, 1, none⟩ = some (.slice (some ⟨g2, o2, none⟩) m c2))
    (hr : RdT w (some ⟨g1, o1, none⟩) ds) (hn : ds.length = n) (hr2 : RdT w (some ⟨g2, o2, none⟩) es) (hm : es.length = m) (hm1 : 0 < m) :
    Calls Tryz.prog 62 #[.slice (some ⟨g, 0, none⟩) 2 2] w fun e w' => ∃ v, e = .returned v ∧ OT w' w.heap.size v (ds ++ es) ∧ Below w.heap.size w w' := by
  have hb : n + m ≤ 2097152 := by have := hr.1; have := hr2.1; omega
  have HR := kide hr
  have HR2 := kide hr2
  have HN := kide hn
  have HM := kide hm
  have HB := kide hb
  have HM1 := kide hm1
  have hg := block_lt_of_cell h0
  clear hr hr2 hn hm
  go_enter Tryz.func62, Tryz.ntmps62
  go_wp2_with fail
  go_loopw [3, 11] (fun z i wr => (i = .int .i64 0 ∧ z = .int .i64 0 ∨ i = .int .i64 1 ∧ z = .int .i64 (n : Int) ∨ i = .int .i64 2 ∧ z = .int .i64 ((n + m : Nat) : Int)) ∧ wr = w) (fun _ i _ => 2 - (intOf i).toNat)
  case atStart => exact ⟨.inl ⟨rfl, rfl⟩, rfl⟩
  case round =>
    obtain ⟨hq, hw⟩ := hrel
    obtain rfl := hw.symm
    obtain ⟨rfl, rfl⟩ | ⟨rfl, rfl⟩ | ⟨rfl, rfl⟩ := hq
    · go_wp2_with fail
      go_roundw
      case rel => exact ⟨.inr (.inl ⟨rfl, by go_num⟩), by first | rfl | trivial⟩
      case measure => simp [intOf]
    · go_wp2_with fail
      go_roundw
      case rel => exact ⟨.inr (.inr ⟨rfl, by go_num⟩), by first | rfl | trivial⟩
      case measure => simp [intOf]
    · go_wp2_with fail
      refine Calls.mono (growT_any (n + m) (by omega) (by omega) w) ?_
      rintro e w1 ⟨v, rfl, ho, hb1⟩
      have HO := kide ho
      have B1 := kide hb1
      clear ho hb1
      go_wp2_with fail
      go_loopw [6, 27] (fun v i wr => ∃ l, OT wr w.heap.size v l ∧ Below w.heap.size w wr ∧ (i = .int .i64 0 ∧ l = [] ∨ i = .int .i64 1 ∧ l = ds ∨ i = .int .i64 2 ∧ l = ds ++ es)) (fun _ i _ => 2 - (intOf i).toNat)
      case atStart => exact ⟨[], HO.out, B1.out, .inl ⟨rfl, rfl⟩⟩
      case round =>
        obtain ⟨l, hl, hbel, h⟩ := hrel
        have HL := kide hl
        have HW := kide hbel
        have c0 := (kcell hbel _ _ hg).trans h0
        have c1 := (kcell hbel _ _ hg).trans h1
        clear hl hbel
        obtain ⟨rfl, rfl⟩ | ⟨rfl, e⟩ | ⟨rfl, rfl⟩ := h
        · go_wp2_with (at_builtin; refine wpList_appTs _ rfl _ _ rfl w.heap.size _ [] ds rfl HL.out g1 o1 n c rfl HN.out (HR.out.later HW.out) (by have := HB.out; simp; omega) HW.out.size ?_; intro v2 w2 q1 q2)
          go_roundw
          case rel => exact ⟨_, q1, HW.out.trans (HL.out.bel q2 HW.out.size), .inr (.inl ⟨rfl, rfl⟩)⟩
          case measure => simp [intOf]
        · obtain rfl := e.symm
          go_wp2_with (at_builtin; refine wpList_appTs _ rfl _ _ rfl w.heap.size _ ds es rfl HL.out g2 o2 m c2 rfl HM.out (HR2.out.later HW.out) (by have := HB.out; have := HN.out; omega) HW.out.size ?_; intro v2 w2 q1 q2)
          go_roundw
          case rel => exact ⟨_, q1, HW.out.trans (HL.out.bel q2 HW.out.size), .inr (.inr ⟨rfl, rfl⟩)⟩
          case measure => simp [intOf]
        · go_wp2_with fail
          go_ret
          exact ⟨_, rfl, HL.out, HW.out⟩

end Go.Proofs.YtheglnkndjheaaaGreatDoor
