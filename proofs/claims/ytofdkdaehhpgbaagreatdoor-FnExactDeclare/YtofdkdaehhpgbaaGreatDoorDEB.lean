/- Rows of variables joined: slices.Grow, slices.Concat. -/
import Derived.Test.YtofdkdaehhpgbaaGreatDoorDEA
import Derived.Test.YtofdkdaehhpgbaaGreatDoorDNO
import Derived.Lib.AppendZeros
namespace Go.Proofs.YtofdkdaehhpgbaaGreatDoor
set_option linter.unusedVariables false
set_option linter.unusedSimpArgs false
open Go.RowKit

theorem wpList_appDs (w : World) {ops : Array Oper} {rest : List Oper} {o : Oper} {a : Act} {Q : Exit → Act → World → Prop} (hgd : o.guard = none) (s x : Operand)
    (ho : o.op = .call { callee := .builtin .append, args := #[s, x], argTypes := #[27, 27] })
    (B : Nat) (v : Value) (l ys : List Dc) (hs : a.eval s = v) (hown : OD2 w B v l) (g o' m c : Nat) (hx : a.eval x = .slice (some ⟨g, o', none⟩) m c) (hm : ys.length = m)
    (hr : RdD w (some ⟨g, o', none⟩) ys) (hl : l.length + m ≤ 1073741824) (hB : B ≤ w.heap.size)
    (h : ∀ v' w', OD2 w' B v' (l ++ ys) → w.grownBy w' v.ownBlock → (v'.ownBlock = v.ownBlock ∨ v'.ownBlock = some w.heap.size) → wpList Tryz.prog ops Q rest (a.put o.dst v') w') : wpList Tryz.prog ops Q (o :: rest) a w :=
  wpList_plain hgd fun _ hK => by
    have := step_appDs w (ops := ops) (E := False) (Q := Q) hgd s x ho B v l ys hs hown g o' m c hx hm hr hl hB (fun v' w' h1 h2 h3 => hK _ _ (h v' w' h1 h2 h3))
    rwa [if_pos (by simp [Region.wanted, hgd])] at this
theorem OD2.bel {w w' : World} {B : Nat} {v : Value} {l : List Dc} (h : OD2 w B v l) (hg : w.grownBy w' v.ownBlock) (hB : B ≤ w.heap.size) : Below B w w' :=
  ⟨hg.os, hg.tape, hg.output, hg.size, fun k hk => hg.block k (by omega) (fun e => by have := (h.lt e.symm).1; omega)⟩

set_option maxHeartbeats 1000000 in
theorem growD_any (n : Nat) (h0 : 0 < n) (hn : n ≤ 1048577) (w : World) :
    Calls Tryz.prog 84 #[.slice none 0 0, .int .i64 (n : Int)] w fun e w' => ∃ v, e = .returned v ∧ OD2 w' w.heap.size v [] ∧ Below w.heap.size w w' := by
  obtain ⟨i0, hi, hz0, hz1, hz2⟩ := info_parts Tryz.infoDecl
  have happ := kide (fun (u : World) ty => Lib.run_append_nil_zeros (P := Tryz.prog) u 27 3 ty 50 i0 _ .i64 .i64 Tryz.underlying27 Tryz.underlying3 hi hz0 n h0 (by rw [hz1]; omega) (by omega) (by rw [hz2]; omega))
  have p0 : ¬ (n : Int) < 0 := by omega
  have p1 : (0 : Int) < (n : Int) := by omega
  clear hi hz0 hz1 hz2
  go_enter Tryz.func84, Tryz.ntmps84
  go_wp2_with (at_builtin; refine Lib.wpList_append_run _ rfl _ _ _ _ rfl _ _ rfl rfl _ _ (happ.out _ _) ?_)
  go_ret
  refine ⟨_, rfl, ?_, ?_⟩
  · exact World.ownsRow_made w.drew _ (grownCap w n 0 50) (Nat.le_refl _) (grownCap_le_maxLen _ _ _ _ (by unfold maxLen; omega)) (by have := grownCap_ge w n 0 50; simp [Builtin.zeroCells]; omega)
  · exact ((Below.refl _ _).drew).alloc (Nat.le_refl _) _

set_option maxHeartbeats 1000000 in
theorem concatD_any (g g1 o1 n c g2 o2 m c2 : Nat) (ds es : List Dc) (w : World) (h0 : w.cell? ⟨g, 0, none⟩ = some (.slice (some ⟨g1, o1, none⟩) n c)) (h1 : w.cell? ⟨g, 1, none⟩ = some (.slice (some ⟨g2, o2, none⟩) m c2))
    (hr : RdD w (some ⟨g1, o1, none⟩) ds) (hn : ds.length = n) (hr2 : RdD w (some ⟨g2, o2, none⟩) es) (hm : es.length = m) (hm1 : 0 < m) (hb : n + m ≤ 1048577) :
    Calls Tryz.prog 58 #[.slice (some ⟨g, 0, none⟩) 2 2] w fun e w' => ∃ v, e = .returned v ∧ OD2 w' w.heap.size v (ds ++ es) ∧ Below w.heap.size w w' := by
  have HR := kide hr
  have HR2 := kide hr2
  have HN := kide hn
  have HM := kide hm
  have HB := kide hb
  have HM1 := kide hm1
  have hg := block_lt_of_cell h0
  clear hr hr2 hn hm
  go_enter Tryz.func58, Tryz.ntmps58
  go_wp2_with fail
  go_loopw [3, 11] (fun z i wr => (i = .int .i64 0 ∧ z = .int .i64 0 ∨ i = .int .i64 1 ∧ z = .int .i64 (n : Int) ∨ i = .int .i64 2 ∧ z = .int .i64 ((n + m : Nat) : Int)) ∧ wr = w) (fun _ i _ => 2 - (intOf i).toNat)
  case atStart => exact ⟨.inl ⟨rfl, rfl⟩, rfl⟩
  case round =>
    obtain ⟨hq, hw⟩ := hrel
    obtain rfl := hw.symm
    obtain ⟨rfl, rfl⟩ | ⟨rfl, rfl⟩ | ⟨rfl, rfl⟩ := hq
    · go_wp2_with fail
      go_roundw
      case rel => exact ⟨.inr (.inl ⟨rfl, by go_num⟩), by first | rfl | trivial⟩
      case measure => simp [intOf]
    · go_wp2_with fail
      go_roundw
      case rel => exact ⟨.inr (.inr ⟨rfl, by go_num⟩), by first | rfl | trivial⟩
      case measure => simp [intOf]
    · go_wp2_with fail
      refine Calls.mono (growD_any (n + m) (by omega) hb w) ?_
      rintro e w1 ⟨v, rfl, ho, hb1⟩
      have HO := kide ho
      have B1 := kide hb1
      clear ho hb1
      go_wp2_with fail
      go_loopw [6, 27] (fun v i wr => ∃ l, OD2 wr w.heap.size v l ∧ Below w.heap.size w wr ∧ (i = .int .i64 0 ∧ l = [] ∨ i = .int .i64 1 ∧ l = ds ∨ i = .int .i64 2 ∧ l = ds ++ es)) (fun _ i _ => 2 - (intOf i).toNat)
      case atStart => exact ⟨[], HO.out, B1.out, .inl ⟨rfl, rfl⟩⟩
      case round =>
        obtain ⟨l, hl, hbel, h⟩ := hrel
        have HL := kide hl
        have HW := kide hbel
        have c0 := (kcell hbel _ _ hg).trans h0
        have c1 := (kcell hbel _ _ hg).trans h1
        clear hl hbel
        obtain ⟨rfl, rfl⟩ | ⟨rfl, e⟩ | ⟨rfl, rfl⟩ := h
        · go_wp2_with (at_builtin; refine wpList_appDs _ rfl _ _ rfl w.heap.size _ [] ds rfl HL.out g1 o1 n c rfl HN.out (HR.out.later HW.out) (by have := HB.out; simp; omega) HW.out.size ?_; intro v2 w2 q1 q2 q3)
          go_roundw
          case rel => exact ⟨_, q1, HW.out.trans (HL.out.bel q2 HW.out.size), .inr (.inl ⟨rfl, rfl⟩)⟩
          case measure => simp [intOf]
        · obtain rfl := e.symm
          go_wp2_with (at_builtin; refine wpList_appDs _ rfl _ _ rfl w.heap.size _ ds es rfl HL.out g2 o2 m c2 rfl HM.out (HR2.out.later HW.out) (by have := HB.out; have := HN.out; omega) HW.out.size ?_; intro v2 w2 q1 q2 q3)
          go_roundw
          case rel => exact ⟨_, q1, HW.out.trans (HL.out.bel q2 HW.out.size), .inr (.inr ⟨rfl, rfl⟩)⟩
          case measure => simp [intOf]
        · go_wp2_with fail
          go_ret
          exact ⟨_, rfl, HL.out, HW.out⟩

end Go.Proofs.YtofdkdaehhpgbaaGreatDoor
