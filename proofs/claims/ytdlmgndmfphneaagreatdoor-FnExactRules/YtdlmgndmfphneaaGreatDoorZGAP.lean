/- Several texts in one. -/
import Derived.Test.YtdlmgndmfphneaaGreatDoorZGAN
import Derived.Test.YtdlmgndmfphneaaGreatDoorZGAK
import Derived.Test.YtdlmgndmfphneaaGreatDoorZGAO
import Derived.Test.YtdlmgndmfphneaaGreatDoorT3
import Derived.Test.YtdlmgndmfphneaaGreatDoorZGAM
import Derived.Test.YtdlmgndmfphneaaGreatDoorRows
import Derived.Test.YtdlmgndmfphneaaGreatDoorZGAF
import Derived.ProofKit
import Derived.LaidMore
import Derived.OpenShut
import Derived.Stop.Joined
import Derived.MakeChecks
import Derived.LaidLaws
import Derived.LaidHandle

/- The methods by which the program's evaluator goes through a term. -/
namespace Go.Proofs.YtdlmgndmfphneaaGreatDoor
set_option linter.unusedVariables false
set_option linter.unusedSimpArgs false
open Go.RowKit

/-- The cells of a node. -/
abbrev S7 (b : Nat) (op vr A B bw : Int) (wa : Option Addr) (wl wc : Nat) (ka : Option Addr) (kl kc : Nat) (z : World) : Prop := z.cell? ⟨b, 0, none⟩ = some (.int .i64 op) ∧ z.cell? ⟨b, 1, none⟩ = some (.int .i64 vr) ∧ z.cell? ⟨b, 2, none⟩ = some (.int .i64 A) ∧ z.cell? ⟨b, 3, none⟩ = some (.int .i64 B) ∧ z.cell? ⟨b, 4, none⟩ = some (.int .i64 bw) ∧ z.cell? ⟨b, 5, none⟩ = some (.slice wa wl wc) ∧ z.cell? ⟨b, 6, none⟩ = some (.slice ka kl kc)
abbrev S9 (b : Nat) (op vr A B bw : Int) (wa : Option Addr) (wl wc : Nat) (ka : Option Addr) (kl kc : Nat) (kb : Nat) (wd : Int) (xa : Option Addr) (xl xc : Nat) (z : World) : Prop := z.cell? ⟨b, 0, none⟩ = some (.int .i64 op) ∧ z.cell? ⟨b, 1, none⟩ = some (.int .i64 vr) ∧ z.cell? ⟨b, 2, none⟩ = some (.int .i64 A) ∧ z.cell? ⟨b, 3, none⟩ = some (.int .i64 B) ∧ z.cell? ⟨b, 4, none⟩ = some (.int .i64 bw) ∧ z.cell? ⟨b, 5, none⟩ = some (.slice wa wl wc) ∧ z.cell? ⟨b, 6, none⟩ = some (.slice ka kl kc) ∧ z.cell? ⟨kb, 0, none⟩ = some (.int .i64 wd) ∧ z.cell? ⟨kb, 1, none⟩ = some (.slice xa xl xc)

/-- A node as it is handed over. -/
abbrev nodA (n : Tc) (wa ka : Option Addr) (wc kc : Nat) : Value := .agg #[.int .i64 n.op, .int .i64 n.vr, .int .i64 n.a, .int .i64 n.b, .int .i64 n.bw, .slice wa n.ws.length wc, .slice ka n.ks.length kc]

/-- The evaluator: the values, and what the nodes ahead are. -/
structure Evl (u : World) (eb : Nat) (vs l : List Bw) : Prop where
  vals : ∃ va vc, u.cell? ⟨eb, 0, none⟩ = some (.slice va vs.length vc) ∧ RdW u va vs
  ahd : ∃ aa ac, u.cell? ⟨eb, 1, none⟩ = some (.slice aa l.length ac) ∧ RdW u aa l

theorem Evl.later {u u' : World} {eb : Nat} {vs l : List Bw} (h : Evl u eb vs l) (hb : Below u.heap.size u u') : Evl u' eb vs l := by
  obtain ⟨⟨va, vc, h1, h2⟩, ⟨aa, ac, h3, h4⟩⟩ := h
  exact ⟨⟨va, vc, by rw [kcell hb _ _ (block_lt_of_cell h1)]; exact h1, h2.later hb⟩, ⟨aa, ac, by rw [kcell hb _ _ (block_lt_of_cell h3)]; exact h3, h4.later hb⟩⟩

set_option maxHeartbeats 1000000 in
theorem kid_any (eb : Nat) (vs l : List Bw) (n : Tc) (wa ka : Option Addr) (wc kc : Nat) (u : World) (hE : Evl u eb vs l) (hk : RdI u ka n.ks) (h1 : n.ks.length = 1) (j : Nat) (x : Bw) (hj : n.ks.getD 0 0 = (j : Int)) (hx : l[j]? = some x) :
    Calls Tryz.prog 153 #[.pointer (some ⟨eb, 0, none⟩), nodA n wa ka wc kc] u fun e w' => e = .returned (.agg #[.int .i64 x.wd, .slice x.a x.ws.length x.c]) ∧ Below u.heap.size u w' := by
  obtain ⟨-, ⟨aa, ac, c1, ha⟩⟩ := hE
  have hjl := (List.getElem?_eq_some_iff.1 hx).1
  have hla := ha.1
  obtain ⟨-, -, h | ⟨kb, ko, rfl, hkc⟩⟩ := hk
  · rw [h] at h1; simp at h1
  have q0 := hkc 0 (by omega)
  rw [hj, Nat.add_zero] at q0
  obtain ⟨-, h | ⟨ab, ao, rfl, hac⟩⟩ := ha
  · rw [h] at hjl; simp at hjl
  obtain ⟨p0, p1, -, -⟩ := hac j x hx
  have l0 := block_lt_of_cell c1
  have l1 := block_lt_of_cell q0
  have l2 := block_lt_of_cell p0
  have l3 := block_lt_of_cell p1
  obtain ⟨op, vr, A, B, bw, ws, ks⟩ := n
  obtain ⟨wd, xa, xc, xs⟩ := x
  simp only [nodA] at *
  rw [h1]
  have hb1 : Below u.heap.size u ((u.alloc (Obj.cells #[Value.int .i64 op, Value.int .i64 vr, Value.int .i64 A, Value.int .i64 B, Value.int .i64 bw, Value.slice wa ws.length wc, Value.slice (some ⟨kb, ko, none⟩) 1 kc] 63)).alloc (Obj.cells #[Value.int .i64 0, Value.slice none 0 0] 61)) := Ba (Ba (Below.refl _ _) _) _
  have hR := Blk.new1 u (Obj.cells #[Value.int .i64 op, Value.int .i64 vr, Value.int .i64 A, Value.int .i64 B, Value.int .i64 bw, Value.slice wa ws.length wc, Value.slice (some ⟨kb, ko, none⟩) 1 kc] 63) (.int .i64 0) (.slice none 0 0) 61
  have t6 : ((u.alloc (Obj.cells #[Value.int .i64 op, Value.int .i64 vr, Value.int .i64 A, Value.int .i64 B, Value.int .i64 bw, Value.slice wa ws.length wc, Value.slice (some ⟨kb, ko, none⟩) 1 kc] 63)).alloc (Obj.cells #[Value.int .i64 0, Value.slice none 0 0] 61)).cell? ⟨u.heap.size, 6, none⟩ = some (.slice (some ⟨kb, ko, none⟩) 1 kc) := by
    rw [acell _ _ _ (by simp)]; simp
  have d1 := (kcell hb1 _ _ l0).trans c1
  have d2 := (kcell hb1 _ _ l1).trans q0
  have d3 := (kcell hb1 _ _ l2).trans p0
  have d4 := (kcell hb1 _ _ l3).trans p1
  have f50 := frozen_of_row _ _ 0 _ _ hR
  have f51 := frozen_of_row _ _ 1 _ _ hR
  obtain ⟨r0, r1⟩ := hR.cells
  have hjl' : (j : Int) < (l.length : Int) := by omega
  try simp only [] at l0 l1 l2 l3
  clear c1 q0 p0 p1 hkc hac hx hj
  go_enter Tryz.func153, Tryz.ntmps153
  go_wp2_with fail
  generalize ((u.alloc (Obj.cells #[Value.int .i64 op, Value.int .i64 vr, Value.int .i64 A, Value.int .i64 B, Value.int .i64 bw, Value.slice wa ws.length wc, Value.slice (some ⟨kb, ko, none⟩) 1 kc] 63)).alloc (Obj.cells #[Value.int .i64 0, Value.slice none 0 0] 61)) = w1 at *
  go_region_held_law (fun v => v.cell? ⟨eb, 1, none⟩ = some (.slice (some ⟨ab, ao, none⟩) l.length ac) ∧ v.cell? ⟨u.heap.size, 6, none⟩ = some (.slice (some ⟨kb, ko, none⟩) 1 kc) ∧ v.cell? ⟨kb, ko, none⟩ = some (.int .i64 (j : Int)) ∧ v.cell? ⟨ab, ao + j * 2, none⟩ = some (.int .i64 wd) ∧ v.cell? ⟨ab, ao + j * 2 + 1, none⟩ = some (.slice xa xs.length xc))
    (first | (refine ⟨?_, ?_, ?_, ?_, ?_⟩ <;> assumption) | (refine ⟨?_, ?_, ?_, ?_, ?_⟩ <;> ((first | rw [set2_far _ _ _ _ _ (by simp only []; omega)] | rw [drew2_far _ _ _ _ _ (by simp only []; omega)]); assumption)))
    (fail)
  go_wp2
  obtain ⟨q0, q1⟩ := ((hR.put0' (.int .i64 wd)).put1' (.slice xa xs.length xc)).cells
  exact bodyPost_ret (v := .agg #[.int .i64 wd, .slice xa xs.length xc]) (by simp [results, Tryz.results153, go_sem, q0, q1]) rfl ⟨rfl, ((hb1.setCell (Nat.le_succ _) _).setCell (Nat.le_succ _) _).drew⟩

end Go.Proofs.YtdlmgndmfphneaaGreatDoor

/- From what the listed variable reads as to the cells of its block. -/
namespace Go.Proofs.YtdlmgndmfphneaaGreatDoor
set_option linter.unusedVariables false
set_option linter.unusedSimpArgs false
open Go.ChangeShapes Go.WideShapes Go.ChangeAt Go.RowKit

theorem gForms : Tryz.prog.globalNamed "loop.example/g00081/impl.forms" = some 0 := by kernel_rfl
theorem tForms : (Tryz.prog.globals[0]?).map (·.type) = some 183 := by kernel_rfl

theorem forms_at (m : Nat) (hm : m < 10) : ∃ s : List UInt8, (match (Rows.laid_loop_example_g00081_impl_forms : DataW Unit) with | .agg l => l | _ => [])[m]? = some (.agg [.lit (.string s), .lit (.int .i64 (tabR m).1), .lit (.int .i64 (tabR m).2.1), .lit (.int .i64 (tabR m).2.2)]) := by
  match m, hm with
  | 0, _ => exact ⟨_, rfl⟩
  | 1, _ => exact ⟨_, rfl⟩
  | 2, _ => exact ⟨_, rfl⟩
  | 3, _ => exact ⟨_, rfl⟩
  | 4, _ => exact ⟨_, rfl⟩
  | 5, _ => exact ⟨_, rfl⟩
  | 6, _ => exact ⟨_, rfl⟩
  | 7, _ => exact ⟨_, rfl⟩
  | 8, _ => exact ⟨_, rfl⟩
  | 9, _ => exact ⟨_, rfl⟩

set_option maxRecDepth 100000 in
theorem gf_of_laid {W : World} (h : laidMetH Tryz.prog [("loop.example/g00081/impl.forms", Rows.laid_loop_example_g00081_impl_forms)] W) : GF W := by
  rw [MakeChecks.laidMetH_plain _ _ _ (by kernel_rfl)] at h
  obtain ⟨ps, ⟨g0, t0, cs0, f0, p0, q0, hg0, ht0, hv0, hd0, _, _⟩, _, _⟩ := h
  obtain rfl := Option.some.inj (gForms.symm.trans hg0)
  obtain rfl := Option.some.inj (tForms.symm.trans ht0)
  obtain ⟨xs, m1, rfl, hx1, hlen, hn, hel⟩ := DataW.trod_array Tryz.underlying183 hd0
  have cF : Tryz.prog.cellsOf 182 = 4 := by kernel_rfl
  have cS : Tryz.prog.cellsOf 9 = 1 := by kernel_rfl
  have cI : Tryz.prog.cellsOf 3 = 1 := by kernel_rfl
  have cA : Tryz.prog.cellsOf 183 = 40 := by kernel_rfl
  rw [cA] at hlen
  have hcell := fun i => World.var?_cell hg0 hv0 i
  intro m hm
  have h0 := hel m hm
  rw [cF] at h0
  obtain ⟨s, hs⟩ := forms_at m hm
  have hxm : (xs.map (·.1))[m]? = some (.agg [.lit (.string s), .lit (.int .i64 (tabR m).1), .lit (.int .i64 (tabR m).2.1), .lit (.int .i64 (tabR m).2.2)]) := by
    simp only [Prod.mk.injEq] at hx1
    have := hx1.1
    rw [this] at hs
    simpa using hs
  rw [List.getElem?_map] at hxm
  cases hx : xs[m]? with
  | none => rw [hx] at hxm; cases hxm
  | some y =>
    rw [hx] at hxm h0
    have hy : y.1 = .agg [.lit (.string s), .lit (.int .i64 (tabR m).1), .lit (.int .i64 (tabR m).2.1), .lit (.int .i64 (tabR m).2.2)] := by simpa using hxm
    obtain ⟨ys, k, hk, hxy, hl4, hyl, hfd⟩ := DataW.trod_struct Tryz.underlying182 h0
    rw [cF] at hl4
    have g0 := hfd 0 _ rfl
    have g1 := hfd 1 _ rfl
    have g2 := hfd 2 _ rfl
    have g3 := hfd 3 _ rfl
    match ys, hyl with
    | [y0, y1, y2, y3], _ =>
      rw [hxy] at hy
      simp only [DataW.agg.injEq, List.map_cons, List.map_nil, List.cons.injEq] at hy
      obtain ⟨a0, a1, a2, a3, -⟩ := hy
      obtain ⟨s', e0, f0, _⟩ := DataW.trod_string Tryz.underlying9 g0
      obtain ⟨n1, e1, f1, _⟩ := DataW.trod_int Tryz.underlying3 g1
      obtain ⟨n2, e2, f2, _⟩ := DataW.trod_int Tryz.underlying3 g2
      obtain ⟨n3, e3, f3, _⟩ := DataW.trod_int Tryz.underlying3 g3
      rw [f0] at a0
      rw [f1] at a1
      rw [f2] at a2
      rw [f3] at a3
      simp at a1 a2 a3
      have gl : ∀ i, i < 4 → cs0[m * 4 + i]? = ((cs0.toList.drop (m * 4)).take 4)[i]? := fun i hi => by
        rw [List.getElem?_take_of_lt hi, List.getElem?_drop]
        simp
      generalize (cs0.toList.drop (m * 4)).take 4 = L at *
      match L, hl4 with
      | [l0, l1, l2, l3], _ =>
        simp [cS, cI] at e0 e1 e2 e3
        have q0 := (hcell (m * 4 + 0)).trans (gl 0 (by omega))
        have q1 := (hcell (m * 4 + 1)).trans (gl 1 (by omega))
        have q2 := (hcell (m * 4 + 2)).trans (gl 2 (by omega))
        have q3 := (hcell (m * 4 + 3)).trans (gl 3 (by omega))
        simp at q0 q1 q2 q3
        refine ⟨⟨s', ?_⟩, ?_, ?_, ?_⟩
        · rw [q0, e0]
        · rw [q1, e1, a1]
        · rw [q2, e2, a2]
        · rw [q3, e3, a3]

end Go.Proofs.YtdlmgndmfphneaaGreatDoor
