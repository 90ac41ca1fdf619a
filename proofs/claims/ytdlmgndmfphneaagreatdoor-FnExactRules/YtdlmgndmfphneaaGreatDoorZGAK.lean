/- Several texts in one. -/
import Derived.Test.YtdlmgndmfphneaaGreatDoorZGAG
import Derived.Test.YtdlmgndmfphneaaGreatDoorZGAD
import Derived.Test.YtdlmgndmfphneaaGreatDoorZGAE
import Derived.Test.YtdlmgndmfphneaaGreatDoorZGAL
import Derived.Deep.RegionWith
import Derived.Test.YtdlmgndmfphneaaGreatDoorZGAF
import Derived.Test.YtdlmgndmfphneaaGreatDoorZGAN
import Derived.Test.YtdlmgndmfphneaaGreatDoorZGAO

/- The given specification's l15Fit: rule 9, no cat. -/
namespace Go.Proofs.YtdlmgndmfphneaaGreatDoor
set_option linter.unusedVariables false
set_option linter.unusedSimpArgs false
open Go.RowKit

set_option maxHeartbeats 4000000 in
set_option maxRecDepth 100000 in
theorem I9b (tb to xb xo kb ko kc c c2 N p j wn wc kn ywn ywc ykn ykc : Nat) (wa ywa yka : Option Addr) (op vr A B bw W yop yvr yA yB ybw : Int) (w : World) (ks : List Int) (P : Int → Bool) (i0 : (p : Int) < (N : Int)) (i1 : (j : Int) < (N : Int)) (i2 : ((kn : Int) == 0) = false) (i3 : (0 : Int) < (kn : Int)) (w1 : Hid (1 ≤ W ∧ W ≤ 4096)) (hwr : wrap64 (W - 1) = W - 1) (hW0 : ¬ W = 0) (l0 : tb < w.heap.size) (l1 : kb < w.heap.size) (l2 : xb < w.heap.size) (p0 : w.cell? ⟨tb, to + p * 7, none⟩ = some (.int .i64 op)) (p1 : w.cell? ⟨tb, to + p * 7 + 1, none⟩ = some (.int .i64 vr)) (p2 : w.cell? ⟨tb, to + p * 7 + 2, none⟩ = some (.int .i64 A)) (p3 : w.cell? ⟨tb, to + p * 7 + 3, none⟩ = some (.int .i64 B)) (p4 : w.cell? ⟨tb, to + p * 7 + 4, none⟩ = some (.int .i64 bw)) (p5 : w.cell? ⟨tb, to + p * 7 + 5, none⟩ = some (.slice wa wn wc)) (p6 : w.cell? ⟨tb, to + p * 7 + 6, none⟩ = some (.slice (some ⟨kb, ko, none⟩) kn kc)) (k0 : w.cell? ⟨kb, ko, none⟩ = some (.int .i64 (j : Int))) (q0 : w.cell? ⟨tb, to + j * 7, none⟩ = some (.int .i64 yop)) (q1 : w.cell? ⟨tb, to + j * 7 + 1, none⟩ = some (.int .i64 yvr)) (q2 : w.cell? ⟨tb, to + j * 7 + 2, none⟩ = some (.int .i64 yA)) (q3 : w.cell? ⟨tb, to + j * 7 + 3, none⟩ = some (.int .i64 yB)) (q4 : w.cell? ⟨tb, to + j * 7 + 4, none⟩ = some (.int .i64 ybw)) (q5 : w.cell? ⟨tb, to + j * 7 + 5, none⟩ = some (.slice ywa ywn ywc)) (q6 : w.cell? ⟨tb, to + j * 7 + 6, none⟩ = some (.slice yka ykn ykc)) (x0 : w.cell? ⟨xb, xo + j, none⟩ = some (.int .i64 W)) (h8 : op = 8) : Calls Tryz.prog 25 #[.agg #[.slice (some ⟨tb, to, none⟩) N c2], .slice (some ⟨xb, xo, none⟩) N c, .int .i64 (p : Int), .int .i64 9] w (RetN w ((decide (op = 3) && ks.any P))) := by
  have l0a : tb < w.heap.size + 1 := by omega
  have l0b : tb < w.heap.size + 1 + 1 := by omega
  have l0c : tb < w.heap.size + 1 + 1 + 1 := by omega
  have l0d : tb < w.heap.size + 1 + 1 + 1 + 1 := by omega
  have l1a : kb < w.heap.size + 1 := by omega
  have l1b : kb < w.heap.size + 1 + 1 := by omega
  have l1c : kb < w.heap.size + 1 + 1 + 1 := by omega
  have l1d : kb < w.heap.size + 1 + 1 + 1 + 1 := by omega
  have l2a : xb < w.heap.size + 1 := by omega
  have l2b : xb < w.heap.size + 1 + 1 := by omega
  have l2c : xb < w.heap.size + 1 + 1 + 1 := by omega
  have l2d : xb < w.heap.size + 1 + 1 + 1 + 1 := by omega
  subst h8
  have HBW := kide (Below.refl w.heap.size w)
  go_enter Tryz.func25, Tryz.ntmps25
  go_wp2_with fail
  all_goals try first
    | (exact bodyPost_ret (v := .tuple #[.agg #[.int .i64 0, .slice none 0 0], .bool false]) (by simp [results, Tryz.results25, go_sem]) rfl ⟨0, none, 0, 0, by rw [show ((decide (op = 3) && ks.any P)) = false from rfl], (by repeat' (first | exact HBW.out | refine Below.alloc ?_ (by simp; try omega) _))⟩)
  have XR : Hid (Bz ((((w.alloc (Obj.cells #[Value.slice (some ⟨tb, to, none⟩) N c2] 34)).alloc (Obj.cells #[Value.int .i64 0, Value.slice none 0 0] 53)).alloc (Obj.cells #[Value.int .i64 8, Value.int .i64 vr, Value.int .i64 A, Value.int .i64 B, Value.int .i64 bw, Value.slice wa wn wc, Value.slice (some ⟨kb, ko, none⟩) kn kc] 63)).alloc (Obj.cells #[Value.int .i64 yop, Value.int .i64 yvr, Value.int .i64 yA, Value.int .i64 yB, Value.int .i64 ybw, Value.slice ywa ywn ywc, Value.slice yka ykn ykc] 63)) (w.heap.size + 1) #[Value.int .i64 0, Value.slice none 0 0] 53) := bzr
  have X2 : Hid (Bz ((((w.alloc (Obj.cells #[Value.slice (some ⟨tb, to, none⟩) N c2] 34)).alloc (Obj.cells #[Value.int .i64 0, Value.slice none 0 0] 53)).alloc (Obj.cells #[Value.int .i64 8, Value.int .i64 vr, Value.int .i64 A, Value.int .i64 B, Value.int .i64 bw, Value.slice wa wn wc, Value.slice (some ⟨kb, ko, none⟩) kn kc] 63)).alloc (Obj.cells #[Value.int .i64 yop, Value.int .i64 yvr, Value.int .i64 yA, Value.int .i64 yB, Value.int .i64 ybw, Value.slice ywa ywn ywc, Value.slice yka ykn ykc] 63)) (w.heap.size + 1 + 1) #[Value.int .i64 8, Value.int .i64 vr, Value.int .i64 A, Value.int .i64 B, Value.int .i64 bw, Value.slice wa wn wc, Value.slice (some ⟨kb, ko, none⟩) kn kc] 63) := by
    have h9 := Bz.new ((w.alloc (Obj.cells #[Value.slice (some ⟨tb, to, none⟩) N c2] 34)).alloc (Obj.cells #[Value.int .i64 0, Value.slice none 0 0] 53)) #[Value.int .i64 8, Value.int .i64 vr, Value.int .i64 A, Value.int .i64 B, Value.int .i64 bw, Value.slice wa wn wc, Value.slice (some ⟨kb, ko, none⟩) kn kc] 63
    rw [show ((w.alloc (Obj.cells #[Value.slice (some ⟨tb, to, none⟩) N c2] 34)).alloc (Obj.cells #[Value.int .i64 0, Value.slice none 0 0] 53)).heap.size = w.heap.size + 1 + 1 by simp] at h9
    exact h9.later ((Below.refl _ _).alloc (Nat.le_refl _) _)
  have X3 : Hid (Bz ((((w.alloc (Obj.cells #[Value.slice (some ⟨tb, to, none⟩) N c2] 34)).alloc (Obj.cells #[Value.int .i64 0, Value.slice none 0 0] 53)).alloc (Obj.cells #[Value.int .i64 8, Value.int .i64 vr, Value.int .i64 A, Value.int .i64 B, Value.int .i64 bw, Value.slice wa wn wc, Value.slice (some ⟨kb, ko, none⟩) kn kc] 63)).alloc (Obj.cells #[Value.int .i64 yop, Value.int .i64 yvr, Value.int .i64 yA, Value.int .i64 yB, Value.int .i64 ybw, Value.slice ywa ywn ywc, Value.slice yka ykn ykc] 63)) (w.heap.size + 1 + 1 + 1) #[Value.int .i64 yop, Value.int .i64 yvr, Value.int .i64 yA, Value.int .i64 yB, Value.int .i64 ybw, Value.slice ywa ywn ywc, Value.slice yka ykn ykc] 63) := by
    have h9 := Bz.new (((w.alloc (Obj.cells #[Value.slice (some ⟨tb, to, none⟩) N c2] 34)).alloc (Obj.cells #[Value.int .i64 0, Value.slice none 0 0] 53)).alloc (Obj.cells #[Value.int .i64 8, Value.int .i64 vr, Value.int .i64 A, Value.int .i64 B, Value.int .i64 bw, Value.slice wa wn wc, Value.slice (some ⟨kb, ko, none⟩) kn kc] 63)) #[Value.int .i64 yop, Value.int .i64 yvr, Value.int .i64 yA, Value.int .i64 yB, Value.int .i64 ybw, Value.slice ywa ywn ywc, Value.slice yka ykn ykc] 63
    rw [show (((w.alloc (Obj.cells #[Value.slice (some ⟨tb, to, none⟩) N c2] 34)).alloc (Obj.cells #[Value.int .i64 0, Value.slice none 0 0] 53)).alloc (Obj.cells #[Value.int .i64 8, Value.int .i64 vr, Value.int .i64 A, Value.int .i64 B, Value.int .i64 bw, Value.slice wa wn wc, Value.slice (some ⟨kb, ko, none⟩) kn kc] 63)).heap.size = w.heap.size + 1 + 1 + 1 by simp] at h9
    exact h9
  have B4 : Hid (Below w.heap.size w ((((w.alloc (Obj.cells #[Value.slice (some ⟨tb, to, none⟩) N c2] 34)).alloc (Obj.cells #[Value.int .i64 0, Value.slice none 0 0] 53)).alloc (Obj.cells #[Value.int .i64 8, Value.int .i64 vr, Value.int .i64 A, Value.int .i64 B, Value.int .i64 bw, Value.slice wa wn wc, Value.slice (some ⟨kb, ko, none⟩) kn kc] 63)).alloc (Obj.cells #[Value.int .i64 yop, Value.int .i64 yvr, Value.int .i64 yA, Value.int .i64 yB, Value.int .i64 ybw, Value.slice ywa ywn ywc, Value.slice yka ykn ykc] 63))) := (by repeat' (first | exact HBW.out | refine Below.alloc ?_ (by simp; try omega) _))
  generalize ((((w.alloc (Obj.cells #[Value.slice (some ⟨tb, to, none⟩) N c2] 34)).alloc (Obj.cells #[Value.int .i64 0, Value.slice none 0 0] 53)).alloc (Obj.cells #[Value.int .i64 8, Value.int .i64 vr, Value.int .i64 A, Value.int .i64 B, Value.int .i64 bw, Value.slice wa wn wc, Value.slice (some ⟨kb, ko, none⟩) kn kc] 63)).alloc (Obj.cells #[Value.int .i64 yop, Value.int .i64 yvr, Value.int .i64 yA, Value.int .i64 yB, Value.int .i64 ybw, Value.slice ywa ywn ywc, Value.slice yka ykn ykc] 63)) = W4 at *
  obtain ⟨b1, hb1⟩ : ∃ b, w.heap.size + 1 = b := ⟨_, rfl⟩
  obtain ⟨b2, hb2⟩ : ∃ b, b1 + 1 = b := ⟨_, rfl⟩
  obtain ⟨b3, hb3⟩ : ∃ b, b2 + 1 = b := ⟨_, rfl⟩
  have HL1 : Hid (w.heap.size ≤ b1) := (by show _ ≤ _; omega)
  rw [hb1] at XR
  rw [hb1, hb2] at X2
  rw [hb1, hb2, hb3] at X3
  try simp only [hb1, hb2, hb3]
  have HN3 : Hid (decide ((8 : Int) = 3) = false) := (by show _ = _; first | (simp [*]; done) | (simpa using h3))
  have n0 := X2.out.cell 0
  simp at n0
  have ln := X2.out.lt
  go_loopw [19] (fun i wr => i = .int .i64 0 ∧ wr = W4) (fun _ _ => 0)
  case atStart => exact ⟨rfl, rfl⟩
  case round =>
    obtain ⟨rfl, hwe⟩ := hrel
    subst hwe
    have e0 := XR.out.cell 0
    have e1 := XR.out.cell 1
    have f0 := XR.out.froz 0
    have f1 := XR.out.froz 1
    simp at e0 e1
    have y9 := (XR.out.set 0 (Value.int .i64 0)).set 1 (Value.slice none 0 0)
    have Y0 := kide (y9.cell 0)
    have Y1 := kide (y9.cell 1)
    have BE : Hid (Below w.heap.size w ((wr.setCell ⟨b1, 0, none⟩ (Value.int .i64 0)).setCell ⟨b1, 1, none⟩ (Value.slice none 0 0))) := (B4.out.setCell (p := ⟨b1, 0, none⟩) HL1.out _).setCell (p := ⟨b1, 1, none⟩) HL1.out _
    clear y9
    go_wp2_with fail
    have y0 := Y0.out
    have y1 := Y1.out
    simp at y0 y1
    exact bodyPost_ret (v := .tuple #[.agg #[.int .i64 0, .slice none 0 0], .bool false]) (by simp [results, Tryz.results25, go_sem, y0, y1]) rfl ⟨0, none, 0, 0, (by first | (rw [HN3.out]; simp) | simp), BE.out⟩

end Go.Proofs.YtdlmgndmfphneaaGreatDoor

/- The given specification's l15Fit: rule 9, no cat. -/
namespace Go.Proofs.YtdlmgndmfphneaaGreatDoor
set_option linter.unusedVariables false
set_option linter.unusedSimpArgs false
open Go.RowKit

set_option maxHeartbeats 4000000 in
set_option maxRecDepth 100000 in
theorem I9c (tb to xb xo kb ko kc c c2 N p j wn wc kn ywn ywc ykn ykc : Nat) (wa ywa yka : Option Addr) (op vr A B bw W yop yvr yA yB ybw : Int) (w : World) (ks : List Int) (P : Int → Bool) (i0 : (p : Int) < (N : Int)) (i1 : (j : Int) < (N : Int)) (i2 : ((kn : Int) == 0) = false) (i3 : (0 : Int) < (kn : Int)) (w1 : Hid (1 ≤ W ∧ W ≤ 4096)) (hwr : wrap64 (W - 1) = W - 1) (hW0 : ¬ W = 0) (l0 : tb < w.heap.size) (l1 : kb < w.heap.size) (l2 : xb < w.heap.size) (p0 : w.cell? ⟨tb, to + p * 7, none⟩ = some (.int .i64 op)) (p1 : w.cell? ⟨tb, to + p * 7 + 1, none⟩ = some (.int .i64 vr)) (p2 : w.cell? ⟨tb, to + p * 7 + 2, none⟩ = some (.int .i64 A)) (p3 : w.cell? ⟨tb, to + p * 7 + 3, none⟩ = some (.int .i64 B)) (p4 : w.cell? ⟨tb, to + p * 7 + 4, none⟩ = some (.int .i64 bw)) (p5 : w.cell? ⟨tb, to + p * 7 + 5, none⟩ = some (.slice wa wn wc)) (p6 : w.cell? ⟨tb, to + p * 7 + 6, none⟩ = some (.slice (some ⟨kb, ko, none⟩) kn kc)) (k0 : w.cell? ⟨kb, ko, none⟩ = some (.int .i64 (j : Int))) (q0 : w.cell? ⟨tb, to + j * 7, none⟩ = some (.int .i64 yop)) (q1 : w.cell? ⟨tb, to + j * 7 + 1, none⟩ = some (.int .i64 yvr)) (q2 : w.cell? ⟨tb, to + j * 7 + 2, none⟩ = some (.int .i64 yA)) (q3 : w.cell? ⟨tb, to + j * 7 + 3, none⟩ = some (.int .i64 yB)) (q4 : w.cell? ⟨tb, to + j * 7 + 4, none⟩ = some (.int .i64 ybw)) (q5 : w.cell? ⟨tb, to + j * 7 + 5, none⟩ = some (.slice ywa ywn ywc)) (q6 : w.cell? ⟨tb, to + j * 7 + 6, none⟩ = some (.slice yka ykn ykc)) (x0 : w.cell? ⟨xb, xo + j, none⟩ = some (.int .i64 W)) (h7 : (op == 7) = false) (h8 : (op == 8) = false) (h3 : (op == 3) = false) : Calls Tryz.prog 25 #[.agg #[.slice (some ⟨tb, to, none⟩) N c2], .slice (some ⟨xb, xo, none⟩) N c, .int .i64 (p : Int), .int .i64 9] w (RetN w ((decide (op = 3) && ks.any P))) := by
  have l0a : tb < w.heap.size + 1 := by omega
  have l0b : tb < w.heap.size + 1 + 1 := by omega
  have l0c : tb < w.heap.size + 1 + 1 + 1 := by omega
  have l0d : tb < w.heap.size + 1 + 1 + 1 + 1 := by omega
  have l1a : kb < w.heap.size + 1 := by omega
  have l1b : kb < w.heap.size + 1 + 1 := by omega
  have l1c : kb < w.heap.size + 1 + 1 + 1 := by omega
  have l1d : kb < w.heap.size + 1 + 1 + 1 + 1 := by omega
  have l2a : xb < w.heap.size + 1 := by omega
  have l2b : xb < w.heap.size + 1 + 1 := by omega
  have l2c : xb < w.heap.size + 1 + 1 + 1 := by omega
  have l2d : xb < w.heap.size + 1 + 1 + 1 + 1 := by omega
  have HBW := kide (Below.refl w.heap.size w)
  go_enter Tryz.func25, Tryz.ntmps25
  go_wp2_with fail
  all_goals try first
    | (exact bodyPost_ret (v := .tuple #[.agg #[.int .i64 0, .slice none 0 0], .bool false]) (by simp [results, Tryz.results25, go_sem]) rfl ⟨0, none, 0, 0, by rw [show ((decide (op = 3) && ks.any P)) = false from rfl], (by repeat' (first | exact HBW.out | refine Below.alloc ?_ (by simp; try omega) _))⟩)
  have XR : Hid (Bz ((((w.alloc (Obj.cells #[Value.slice (some ⟨tb, to, none⟩) N c2] 34)).alloc (Obj.cells #[Value.int .i64 0, Value.slice none 0 0] 53)).alloc (Obj.cells #[Value.int .i64 op, Value.int .i64 vr, Value.int .i64 A, Value.int .i64 B, Value.int .i64 bw, Value.slice wa wn wc, Value.slice (some ⟨kb, ko, none⟩) kn kc] 63)).alloc (Obj.cells #[Value.int .i64 yop, Value.int .i64 yvr, Value.int .i64 yA, Value.int .i64 yB, Value.int .i64 ybw, Value.slice ywa ywn ywc, Value.slice yka ykn ykc] 63)) (w.heap.size + 1) #[Value.int .i64 0, Value.slice none 0 0] 53) := bzr
  have X2 : Hid (Bz ((((w.alloc (Obj.cells #[Value.slice (some ⟨tb, to, none⟩) N c2] 34)).alloc (Obj.cells #[Value.int .i64 0, Value.slice none 0 0] 53)).alloc (Obj.cells #[Value.int .i64 op, Value.int .i64 vr, Value.int .i64 A, Value.int .i64 B, Value.int .i64 bw, Value.slice wa wn wc, Value.slice (some ⟨kb, ko, none⟩) kn kc] 63)).alloc (Obj.cells #[Value.int .i64 yop, Value.int .i64 yvr, Value.int .i64 yA, Value.int .i64 yB, Value.int .i64 ybw, Value.slice ywa ywn ywc, Value.slice yka ykn ykc] 63)) (w.heap.size + 1 + 1) #[Value.int .i64 op, Value.int .i64 vr, Value.int .i64 A, Value.int .i64 B, Value.int .i64 bw, Value.slice wa wn wc, Value.slice (some ⟨kb, ko, none⟩) kn kc] 63) := by
    have h9 := Bz.new ((w.alloc (Obj.cells #[Value.slice (some ⟨tb, to, none⟩) N c2] 34)).alloc (Obj.cells #[Value.int .i64 0, Value.slice none 0 0] 53)) #[Value.int .i64 op, Value.int .i64 vr, Value.int .i64 A, Value.int .i64 B, Value.int .i64 bw, Value.slice wa wn wc, Value.slice (some ⟨kb, ko, none⟩) kn kc] 63
    rw [show ((w.alloc (Obj.cells #[Value.slice (some ⟨tb, to, none⟩) N c2] 34)).alloc (Obj.cells #[Value.int .i64 0, Value.slice none 0 0] 53)).heap.size = w.heap.size + 1 + 1 by simp] at h9
    exact h9.later ((Below.refl _ _).alloc (Nat.le_refl _) _)
  have X3 : Hid (Bz ((((w.alloc (Obj.cells #[Value.slice (some ⟨tb, to, none⟩) N c2] 34)).alloc (Obj.cells #[Value.int .i64 0, Value.slice none 0 0] 53)).alloc (Obj.cells #[Value.int .i64 op, Value.int .i64 vr, Value.int .i64 A, Value.int .i64 B, Value.int .i64 bw, Value.slice wa wn wc, Value.slice (some ⟨kb, ko, none⟩) kn kc] 63)).alloc (Obj.cells #[Value.int .i64 yop, Value.int .i64 yvr, Value.int .i64 yA, Value.int .i64 yB, Value.int .i64 ybw, Value.slice ywa ywn ywc, Value.slice yka ykn ykc] 63)) (w.heap.size + 1 + 1 + 1) #[Value.int .i64 yop, Value.int .i64 yvr, Value.int .i64 yA, Value.int .i64 yB, Value.int .i64 ybw, Value.slice ywa ywn ywc, Value.slice yka ykn ykc] 63) := by
    have h9 := Bz.new (((w.alloc (Obj.cells #[Value.slice (some ⟨tb, to, none⟩) N c2] 34)).alloc (Obj.cells #[Value.int .i64 0, Value.slice none 0 0] 53)).alloc (Obj.cells #[Value.int .i64 op, Value.int .i64 vr, Value.int .i64 A, Value.int .i64 B, Value.int .i64 bw, Value.slice wa wn wc, Value.slice (some ⟨kb, ko, none⟩) kn kc] 63)) #[Value.int .i64 yop, Value.int .i64 yvr, Value.int .i64 yA, Value.int .i64 yB, Value.int .i64 ybw, Value.slice ywa ywn ywc, Value.slice yka ykn ykc] 63
    rw [show (((w.alloc (Obj.cells #[Value.slice (some ⟨tb, to, none⟩) N c2] 34)).alloc (Obj.cells #[Value.int .i64 0, Value.slice none 0 0] 53)).alloc (Obj.cells #[Value.int .i64 op, Value.int .i64 vr, Value.int .i64 A, Value.int .i64 B, Value.int .i64 bw, Value.slice wa wn wc, Value.slice (some ⟨kb, ko, none⟩) kn kc] 63)).heap.size = w.heap.size + 1 + 1 + 1 by simp] at h9
    exact h9
  have B4 : Hid (Below w.heap.size w ((((w.alloc (Obj.cells #[Value.slice (some ⟨tb, to, none⟩) N c2] 34)).alloc (Obj.cells #[Value.int .i64 0, Value.slice none 0 0] 53)).alloc (Obj.cells #[Value.int .i64 op, Value.int .i64 vr, Value.int .i64 A, Value.int .i64 B, Value.int .i64 bw, Value.slice wa wn wc, Value.slice (some ⟨kb, ko, none⟩) kn kc] 63)).alloc (Obj.cells #[Value.int .i64 yop, Value.int .i64 yvr, Value.int .i64 yA, Value.int .i64 yB, Value.int .i64 ybw, Value.slice ywa ywn ywc, Value.slice yka ykn ykc] 63))) := (by repeat' (first | exact HBW.out | refine Below.alloc ?_ (by simp; try omega) _))
  generalize ((((w.alloc (Obj.cells #[Value.slice (some ⟨tb, to, none⟩) N c2] 34)).alloc (Obj.cells #[Value.int .i64 0, Value.slice none 0 0] 53)).alloc (Obj.cells #[Value.int .i64 op, Value.int .i64 vr, Value.int .i64 A, Value.int .i64 B, Value.int .i64 bw, Value.slice wa wn wc, Value.slice (some ⟨kb, ko, none⟩) kn kc] 63)).alloc (Obj.cells #[Value.int .i64 yop, Value.int .i64 yvr, Value.int .i64 yA, Value.int .i64 yB, Value.int .i64 ybw, Value.slice ywa ywn ywc, Value.slice yka ykn ykc] 63)) = W4 at *
  obtain ⟨b1, hb1⟩ : ∃ b, w.heap.size + 1 = b := ⟨_, rfl⟩
  obtain ⟨b2, hb2⟩ : ∃ b, b1 + 1 = b := ⟨_, rfl⟩
  obtain ⟨b3, hb3⟩ : ∃ b, b2 + 1 = b := ⟨_, rfl⟩
  have HL1 : Hid (w.heap.size ≤ b1) := (by show _ ≤ _; omega)
  rw [hb1] at XR
  rw [hb1, hb2] at X2
  rw [hb1, hb2, hb3] at X3
  try simp only [hb1, hb2, hb3]
  have HN3 : Hid (decide ((op : Int) = 3) = false) := (by show _ = _; first | (simp [*]; done) | (simpa using h3))
  have n0 := X2.out.cell 0
  simp at n0
  have ln := X2.out.lt
  go_loopw [19] (fun i wr => i = .int .i64 0 ∧ wr = W4) (fun _ _ => 0)
  case atStart => exact ⟨rfl, rfl⟩
  case round =>
    obtain ⟨rfl, hwe⟩ := hrel
    subst hwe
    have e0 := XR.out.cell 0
    have e1 := XR.out.cell 1
    have f0 := XR.out.froz 0
    have f1 := XR.out.froz 1
    simp at e0 e1
    have y9 := (XR.out.set 0 (Value.int .i64 0)).set 1 (Value.slice none 0 0)
    have Y0 := kide (y9.cell 0)
    have Y1 := kide (y9.cell 1)
    have BE : Hid (Below w.heap.size w ((wr.setCell ⟨b1, 0, none⟩ (Value.int .i64 0)).setCell ⟨b1, 1, none⟩ (Value.slice none 0 0))) := (B4.out.setCell (p := ⟨b1, 0, none⟩) HL1.out _).setCell (p := ⟨b1, 1, none⟩) HL1.out _
    clear y9
    go_wp2_with fail
    have y0 := Y0.out
    have y1 := Y1.out
    simp at y0 y1
    exact bodyPost_ret (v := .tuple #[.agg #[.int .i64 0, .slice none 0 0], .bool false]) (by simp [results, Tryz.results25, go_sem, y0, y1]) rfl ⟨0, none, 0, 0, (by first | (rw [HN3.out]; simp) | simp), BE.out⟩

end Go.Proofs.YtdlmgndmfphneaaGreatDoor

/- The given specification's l15Fit: rule 11. -/
namespace Go.Proofs.YtdlmgndmfphneaaGreatDoor
set_option linter.unusedVariables false
set_option linter.unusedSimpArgs false
open Go.RowKit

set_option maxHeartbeats 4000000 in
set_option maxRecDepth 100000 in
theorem I11 (tb to xb xo kb ko kc c c2 N p j wn wc kn ywn ywc ykn ykc : Nat) (wa ywa yka : Option Addr) (op vr A B bw W yop yvr yA yB ybw : Int) (w : World) (Z : Bool) (i0 : (p : Int) < (N : Int)) (i1 : (j : Int) < (N : Int)) (i2 : ((kn : Int) == 0) = false) (i3 : (0 : Int) < (kn : Int)) (w1 : Hid (1 ≤ W ∧ W ≤ 4096)) (hwr : wrap64 (W - 1) = W - 1) (hW0 : ¬ W = 0) (l0 : tb < w.heap.size) (l1 : kb < w.heap.size) (l2 : xb < w.heap.size) (p0 : w.cell? ⟨tb, to + p * 7, none⟩ = some (.int .i64 op)) (p1 : w.cell? ⟨tb, to + p * 7 + 1, none⟩ = some (.int .i64 vr)) (p2 : w.cell? ⟨tb, to + p * 7 + 2, none⟩ = some (.int .i64 A)) (p3 : w.cell? ⟨tb, to + p * 7 + 3, none⟩ = some (.int .i64 B)) (p4 : w.cell? ⟨tb, to + p * 7 + 4, none⟩ = some (.int .i64 bw)) (p5 : w.cell? ⟨tb, to + p * 7 + 5, none⟩ = some (.slice wa wn wc)) (p6 : w.cell? ⟨tb, to + p * 7 + 6, none⟩ = some (.slice (some ⟨kb, ko, none⟩) kn kc)) (k0 : w.cell? ⟨kb, ko, none⟩ = some (.int .i64 (j : Int))) (q0 : w.cell? ⟨tb, to + j * 7, none⟩ = some (.int .i64 yop)) (q1 : w.cell? ⟨tb, to + j * 7 + 1, none⟩ = some (.int .i64 yvr)) (q2 : w.cell? ⟨tb, to + j * 7 + 2, none⟩ = some (.int .i64 yA)) (q3 : w.cell? ⟨tb, to + j * 7 + 3, none⟩ = some (.int .i64 yB)) (q4 : w.cell? ⟨tb, to + j * 7 + 4, none⟩ = some (.int .i64 ybw)) (q5 : w.cell? ⟨tb, to + j * 7 + 5, none⟩ = some (.slice ywa ywn ywc)) (q6 : w.cell? ⟨tb, to + j * 7 + 6, none⟩ = some (.slice yka ykn ykc)) (x0 : w.cell? ⟨xb, xo + j, none⟩ = some (.int .i64 W)) (HIN : Hid (∀ u, Below w.heap.size w u → Calls Tryz.prog 47 #[.agg #[.int .i64 yop, .int .i64 yvr, .int .i64 yA, .int .i64 yB, .int .i64 ybw, .slice ywa ywn ywc, .slice yka ykn ykc], .slice (some ⟨xb, xo, none⟩) N c, .int .i64 A, .int .i64 B] u fun e w' => ∃ r f : Int, e = .returned (.tuple #[.int .i64 r, .int .i64 f]) ∧ decide (0 ≤ r) = Z ∧ in64 r ∧ Below u.heap.size u w')) : Calls Tryz.prog 25 #[.agg #[.slice (some ⟨tb, to, none⟩) N c2], .slice (some ⟨xb, xo, none⟩) N c, .int .i64 (p : Int), .int .i64 11] w (RetN w ((decide (op = 4 ∧ yop = 3) && Z))) := by
  have l0a : tb < w.heap.size + 1 := by omega
  have l0b : tb < w.heap.size + 1 + 1 := by omega
  have l0c : tb < w.heap.size + 1 + 1 + 1 := by omega
  have l0d : tb < w.heap.size + 1 + 1 + 1 + 1 := by omega
  have l1a : kb < w.heap.size + 1 := by omega
  have l1b : kb < w.heap.size + 1 + 1 := by omega
  have l1c : kb < w.heap.size + 1 + 1 + 1 := by omega
  have l1d : kb < w.heap.size + 1 + 1 + 1 + 1 := by omega
  have l2a : xb < w.heap.size + 1 := by omega
  have l2b : xb < w.heap.size + 1 + 1 := by omega
  have l2c : xb < w.heap.size + 1 + 1 + 1 := by omega
  have l2d : xb < w.heap.size + 1 + 1 + 1 + 1 := by omega
  have HBW := kide (Below.refl w.heap.size w)
  go_enter Tryz.func25, Tryz.ntmps25
  go_wp2_with fail
  all_goals try first
    | (exact bodyPost_ret (v := .tuple #[.agg #[.int .i64 0, .slice none 0 0], .bool false]) (by simp [results, Tryz.results25, go_sem]) rfl ⟨0, none, 0, 0, by rw [show ((decide (op = 4 ∧ yop = 3) && Z)) = false from (by (try simp only [beq_eq_false_iff_ne, ne_eq, beq_iff_eq, bne_iff_ne, bne_eq_false_iff_eq] at *); rw [decide_eq_false (by omega), Bool.false_and])], (by repeat' (first | exact HBW.out | refine Below.alloc ?_ (by simp; try omega) _))⟩)
  have XR : Hid (Bz ((((w.alloc (Obj.cells #[Value.slice (some ⟨tb, to, none⟩) N c2] 34)).alloc (Obj.cells #[Value.int .i64 0, Value.slice none 0 0] 53)).alloc (Obj.cells #[Value.int .i64 4, Value.int .i64 vr, Value.int .i64 A, Value.int .i64 B, Value.int .i64 bw, Value.slice wa wn wc, Value.slice (some ⟨kb, ko, none⟩) kn kc] 63)).alloc (Obj.cells #[Value.int .i64 yop, Value.int .i64 yvr, Value.int .i64 yA, Value.int .i64 yB, Value.int .i64 ybw, Value.slice ywa ywn ywc, Value.slice yka ykn ykc] 63)) (w.heap.size + 1) #[Value.int .i64 0, Value.slice none 0 0] 53) := bzr
  have X2 : Hid (Bz ((((w.alloc (Obj.cells #[Value.slice (some ⟨tb, to, none⟩) N c2] 34)).alloc (Obj.cells #[Value.int .i64 0, Value.slice none 0 0] 53)).alloc (Obj.cells #[Value.int .i64 4, Value.int .i64 vr, Value.int .i64 A, Value.int .i64 B, Value.int .i64 bw, Value.slice wa wn wc, Value.slice (some ⟨kb, ko, none⟩) kn kc] 63)).alloc (Obj.cells #[Value.int .i64 yop, Value.int .i64 yvr, Value.int .i64 yA, Value.int .i64 yB, Value.int .i64 ybw, Value.slice ywa ywn ywc, Value.slice yka ykn ykc] 63)) (w.heap.size + 1 + 1) #[Value.int .i64 4, Value.int .i64 vr, Value.int .i64 A, Value.int .i64 B, Value.int .i64 bw, Value.slice wa wn wc, Value.slice (some ⟨kb, ko, none⟩) kn kc] 63) := by
    have h9 := Bz.new ((w.alloc (Obj.cells #[Value.slice (some ⟨tb, to, none⟩) N c2] 34)).alloc (Obj.cells #[Value.int .i64 0, Value.slice none 0 0] 53)) #[Value.int .i64 4, Value.int .i64 vr, Value.int .i64 A, Value.int .i64 B, Value.int .i64 bw, Value.slice wa wn wc, Value.slice (some ⟨kb, ko, none⟩) kn kc] 63
    rw [show ((w.alloc (Obj.cells #[Value.slice (some ⟨tb, to, none⟩) N c2] 34)).alloc (Obj.cells #[Value.int .i64 0, Value.slice none 0 0] 53)).heap.size = w.heap.size + 1 + 1 by simp] at h9
    exact h9.later ((Below.refl _ _).alloc (Nat.le_refl _) _)
  have X3 : Hid (Bz ((((w.alloc (Obj.cells #[Value.slice (some ⟨tb, to, none⟩) N c2] 34)).alloc (Obj.cells #[Value.int .i64 0, Value.slice none 0 0] 53)).alloc (Obj.cells #[Value.int .i64 4, Value.int .i64 vr, Value.int .i64 A, Value.int .i64 B, Value.int .i64 bw, Value.slice wa wn wc, Value.slice (some ⟨kb, ko, none⟩) kn kc] 63)).alloc (Obj.cells #[Value.int .i64 yop, Value.int .i64 yvr, Value.int .i64 yA, Value.int .i64 yB, Value.int .i64 ybw, Value.slice ywa ywn ywc, Value.slice yka ykn ykc] 63)) (w.heap.size + 1 + 1 + 1) #[Value.int .i64 yop, Value.int .i64 yvr, Value.int .i64 yA, Value.int .i64 yB, Value.int .i64 ybw, Value.slice ywa ywn ywc, Value.slice yka ykn ykc] 63) := by
    have h9 := Bz.new (((w.alloc (Obj.cells #[Value.slice (some ⟨tb, to, none⟩) N c2] 34)).alloc (Obj.cells #[Value.int .i64 0, Value.slice none 0 0] 53)).alloc (Obj.cells #[Value.int .i64 4, Value.int .i64 vr, Value.int .i64 A, Value.int .i64 B, Value.int .i64 bw, Value.slice wa wn wc, Value.slice (some ⟨kb, ko, none⟩) kn kc] 63)) #[Value.int .i64 yop, Value.int .i64 yvr, Value.int .i64 yA, Value.int .i64 yB, Value.int .i64 ybw, Value.slice ywa ywn ywc, Value.slice yka ykn ykc] 63
    rw [show (((w.alloc (Obj.cells #[Value.slice (some ⟨tb, to, none⟩) N c2] 34)).alloc (Obj.cells #[Value.int .i64 0, Value.slice none 0 0] 53)).alloc (Obj.cells #[Value.int .i64 4, Value.int .i64 vr, Value.int .i64 A, Value.int .i64 B, Value.int .i64 bw, Value.slice wa wn wc, Value.slice (some ⟨kb, ko, none⟩) kn kc] 63)).heap.size = w.heap.size + 1 + 1 + 1 by simp] at h9
    exact h9
  have B4 : Hid (Below w.heap.size w ((((w.alloc (Obj.cells #[Value.slice (some ⟨tb, to, none⟩) N c2] 34)).alloc (Obj.cells #[Value.int .i64 0, Value.slice none 0 0] 53)).alloc (Obj.cells #[Value.int .i64 4, Value.int .i64 vr, Value.int .i64 A, Value.int .i64 B, Value.int .i64 bw, Value.slice wa wn wc, Value.slice (some ⟨kb, ko, none⟩) kn kc] 63)).alloc (Obj.cells #[Value.int .i64 yop, Value.int .i64 yvr, Value.int .i64 yA, Value.int .i64 yB, Value.int .i64 ybw, Value.slice ywa ywn ywc, Value.slice yka ykn ykc] 63))) := (by repeat' (first | exact HBW.out | refine Below.alloc ?_ (by simp; try omega) _))
  generalize ((((w.alloc (Obj.cells #[Value.slice (some ⟨tb, to, none⟩) N c2] 34)).alloc (Obj.cells #[Value.int .i64 0, Value.slice none 0 0] 53)).alloc (Obj.cells #[Value.int .i64 4, Value.int .i64 vr, Value.int .i64 A, Value.int .i64 B, Value.int .i64 bw, Value.slice wa wn wc, Value.slice (some ⟨kb, ko, none⟩) kn kc] 63)).alloc (Obj.cells #[Value.int .i64 yop, Value.int .i64 yvr, Value.int .i64 yA, Value.int .i64 yB, Value.int .i64 ybw, Value.slice ywa ywn ywc, Value.slice yka ykn ykc] 63)) = W4 at *
  obtain ⟨b1, hb1⟩ : ∃ b, w.heap.size + 1 = b := ⟨_, rfl⟩
  obtain ⟨b2, hb2⟩ : ∃ b, b1 + 1 = b := ⟨_, rfl⟩
  obtain ⟨b3, hb3⟩ : ∃ b, b2 + 1 = b := ⟨_, rfl⟩
  have HL1 : Hid (w.heap.size ≤ b1) := (by show _ ≤ _; omega)
  rw [hb1] at XR
  rw [hb1, hb2] at X2
  rw [hb1, hb2, hb3] at X3
  try simp only [hb1, hb2, hb3]
  refine Calls.mono (HIN.out _ B4.out) ?_
  rintro e w5 ⟨r5, f5, rfl, hr5, h64, hb5⟩
  have XR5 := kide (XR.out.later hb5)
  have X25 := kide (X2.out.later hb5)
  have B5 := kide (B4.out.trans (hb5.mono B4.out.size))
  clear hb5
  have n2 := X25.out.cell 2
  have n3 := X25.out.cell 3
  simp at n2 n3
  by_cases hr : 0 ≤ r5
  · have hz : Hid (Z = true) := (by show _ = _; rw [← hr5]; simpa using hr)
    clear hr5
    go_wp2_with fail
    refine Calls.mono (l15Node_any _ _ _ _ _ _ _ _ _ _ _ _) ?_
    rintro e w6 ⟨k5, va5, vn5, vc5, rfl, hb6⟩
    have XR6 := kide ((XR5.out.later ((Below.refl _ _).alloc (Nat.le_refl _) _)).later hb6)
    have B6 : Hid (Below w.heap.size w w6) := (B5.out.alloc B5.out.size _).trans (hb6.mono (by have := B5.out.size; simp; omega))
    clear hb6
    have e0 := XR6.out.cell 0
    have e1 := XR6.out.cell 1
    have f0 := XR6.out.froz 0
    have f1 := XR6.out.froz 1
    simp at e0 e1
    have y9 := (XR6.out.set 0 (Value.int .i64 k5)).set 1 (Value.slice va5 vn5 vc5)
    have Y0 := kide (y9.cell 0)
    have Y1 := kide (y9.cell 1)
    have BE : Hid (Below w.heap.size w ((w6.setCell ⟨b1, 0, none⟩ (Value.int .i64 k5)).setCell ⟨b1, 1, none⟩ (Value.slice va5 vn5 vc5))) := (B6.out.setCell (p := ⟨b1, 0, none⟩) HL1.out _).setCell (p := ⟨b1, 1, none⟩) HL1.out _
    clear y9
    go_wp2_with fail
    have y0 := Y0.out
    have y1 := Y1.out
    simp at y0 y1
    exact bodyPost_ret (v := .tuple #[.agg #[.int .i64 k5, .slice va5 vn5 vc5], .bool true]) (by simp [results, Tryz.results25, go_sem, y0, y1]) rfl ⟨k5, va5, vn5, vc5, by rw [hz.out]; simp_all, BE.out⟩
  · have hz : Hid (Z = false) := (by show _ = _; rw [← hr5]; simpa using hr)
    clear hr5
    have e0 := XR5.out.cell 0
    have e1 := XR5.out.cell 1
    have f0 := XR5.out.froz 0
    have f1 := XR5.out.froz 1
    simp at e0 e1
    have y9 := (XR5.out.set 0 (Value.int .i64 0)).set 1 (Value.slice none 0 0)
    have Y0 := kide (y9.cell 0)
    have Y1 := kide (y9.cell 1)
    have BE : Hid (Below w.heap.size w ((w5.setCell ⟨b1, 0, none⟩ (Value.int .i64 0)).setCell ⟨b1, 1, none⟩ (Value.slice none 0 0))) := (B5.out.setCell (p := ⟨b1, 0, none⟩) HL1.out _).setCell (p := ⟨b1, 1, none⟩) HL1.out _
    clear y9
    go_wp2_with fail
    have y0 := Y0.out
    have y1 := Y1.out
    simp at y0 y1
    exact bodyPost_ret (v := .tuple #[.agg #[.int .i64 0, .slice none 0 0], .bool false]) (by simp [results, Tryz.results25, go_sem, y0, y1]) rfl ⟨0, none, 0, 0, by rw [hz.out]; simp, BE.out⟩

end Go.Proofs.YtdlmgndmfphneaaGreatDoor

/- What both ValuesOk answer. -/
namespace Go.Proofs.YtdlmgndmfphneaaGreatDoor
set_option linter.unusedVariables false
set_option linter.unusedSimpArgs false
open Go.RowKit

/-- Are the words right for the variables? -/
def valR (ds : List Dc) (vs : List (Int × List Nat)) : Bool :=
  dclR ds && decide (vs.length = ds.length) && (List.range vs.length).all fun i => rightB (vs.getD i (0, [])).1 (vs.getD i (0, [])).2 && decide ((vs.getD i (0, [])).1 = (ds.getD i (.empty, 0)).2)

theorem valR_iff {ds : List Dc} {vs : List (Int × List Nat)} : valR ds vs = true ↔ dclR ds = true ∧ vs.length = ds.length ∧ ∀ i, i < vs.length → rightB (vs.getD i (0, [])).1 (vs.getD i (0, [])).2 = true ∧ (vs.getD i (0, [])).1 = (ds.getD i (.empty, 0)).2 := by
  simp only [valR, Bool.and_eq_true, decide_eq_true_eq, List.all_eq_true, List.mem_range]
  exact ⟨fun h => ⟨h.1.1, h.1.2, h.2⟩, fun h => ⟨⟨h.1, h.2.1⟩, h.2.2⟩⟩

theorem valR_bad {ds : List Dc} {xs : List Bw} {k : Nat} {x : Bw} {d : Dc} (hx : xs[k]? = some x) (hd : ds[k]? = some d) (h : ¬ (rightB x.wd x.ws = true ∧ x.wd = d.2)) : valR ds (xs.map Bw.ct) = false := by
  rw [Bool.eq_false_iff]; intro h'
  have hk := (List.getElem?_eq_some_iff.1 hx).1
  have := (valR_iff.1 h').2.2 k (by simpa using hk)
  simp [List.getD, hx, hd, Bw.ct] at this
  exact h this

theorem valR_good {ds : List Dc} {xs : List Bw} (h1 : dclR ds = true) (h2 : xs.length = ds.length) (h : ∀ (i : Nat) x d, xs[i]? = some x → ds[i]? = some d → rightB x.wd x.ws = true ∧ x.wd = d.2) : valR ds (xs.map Bw.ct) = true := by
  refine valR_iff.2 ⟨h1, by simpa using h2, fun i hi => ?_⟩
  simp at hi
  have := h i xs[i] (ds[i]'(by omega)) (List.getElem?_eq_getElem hi) (List.getElem?_eq_getElem (by omega))
  simp [List.getD, hi, show i < ds.length by omega, Bw.ct]
  exact this


end Go.Proofs.YtdlmgndmfphneaaGreatDoor

/- What a term is by values: plain facts. No program in sight. -/
namespace Go.Proofs.YtdlmgndmfphneaaGreatDoor
set_option linter.unusedVariables false
set_option linter.unusedSimpArgs false
open Go.RowKit

abbrev Wd := Int × List Nat

theorem op_nine {x : Int} (h1 : 1 ≤ x) (h9 : x ≤ 9) : x = 1 ∨ x = 2 ∨ x = 3 ∨ x = 4 ∨ x = 5 ∨ x = 6 ∨ x = 7 ∨ x = 8 ∨ x = 9 := by omega

def okWd (x : Wd) : Prop := rightB x.1 x.2 = true ∧ ∀ y ∈ x.2, y < 18446744073709551616

def two (r : Int × List Nat × Bool) : Wd := (r.1, r.2.1)

def joinW (x y : Wd) : Wd := two (joinR x.1 x.2 y.1 y.2)

/-- Words put into one, the highest bits first. -/
def catS : List Wd → Wd
  | [] => (0, [])
  | k :: t => t.foldl joinW k

def sumV (l : List Wd) : Int := (l.map Prod.fst).sum

def kidsV (all : List Wd) (ks : List Int) : List Wd := ks.map fun k => all.getD k.toNat (0, [])

/-- What a node with one Kid is. -/
def opV (op a b : Int) (x : Wd) : Wd :=
  if op = 4 then two (partR x.1 x.2 a b)
  else if op = 5 then two (wdnR x.1 x.2 a false)
  else if op = 6 then two (wdnR x.1 x.2 a true)
  else if op = 7 then two (turnR x.1 x.2 a)
  else if op = 8 then two (turnR x.1 x.2 ((x.1 - a % x.1) % x.1))
  else two (repR x.1 x.2 a)

def nodV (vs all : List Wd) (n : Tc) : Wd :=
  if n.op = 1 then vs.getD n.vr.toNat (0, [])
  else if n.op = 2 then (n.bw, n.ws)
  else if n.op = 3 then catS (kidsV all n.ks)
  else opV n.op n.a n.b (all.getD (n.ks.getD 0 0).toNat (0, []))

/-- What all nodes are, one behind the other. -/
def evR (vs : List Wd) (ns : List Tc) : List Wd := ns.foldl (fun all n => all ++ [nodV vs all n]) []

theorem pkW_ok {W : Int} (bs : List Nat) (hb : ∀ x ∈ bs, x ≤ 1) (h1 : 1 ≤ bs.length) (h2 : bs.length ≤ 4096) (hW : W = (bs.length : Int)) : okWd (W, pack bs) := by
  subst hW
  exact ⟨pack_right bs hb h1 h2, pack_lt bs⟩

theorem joinW_ok {x y : Wd} (hx : okWd x) (hy : okWd y) (h : x.1 + y.1 ≤ 4096) : (joinW x y).1 = x.1 + y.1 ∧ okWd (joinW x y) ∧ joinW x y = (x.1 + y.1, pack (joinL x.1 x.2 y.1 y.2)) := by
  have a := right_W hx.1
  have b := right_W hy.1
  have hl : (joinL x.1 x.2 y.1 y.2).length = (x.1 + y.1).toNat := by simp only [joinL, List.length_append, bitsTo_len]; omega
  have hb : ∀ z ∈ joinL x.1 x.2 y.1 y.2, z ≤ 1 := fun z hz => by
    rcases List.mem_append.1 hz with hz | hz
    · exact bitsTo_le _ _ z hz
    · exact bitsTo_le _ _ z hz
  have e : joinW x y = (x.1 + y.1, pack (joinL x.1 x.2 y.1 y.2)) := by
    unfold joinW two
    rw [joinR, if_pos ⟨hx.1, hy.1⟩, fromR, if_pos ⟨by omega, by omega⟩]
    simp only [Prod.mk.injEq, and_true]
    omega
  rw [e]
  exact ⟨rfl, pkW_ok _ hb (by omega) (by omega) (by omega), rfl⟩

theorem bitsTo_at (xs : List Nat) (k i : Nat) : (bitsTo xs k).getD i 0 = if i < k then (tb xs i).toNat else 0 := by
  unfold bitsTo
  by_cases h : i < k
  · simp [List.getD, h]
  · simp [List.getD, h]

theorem tb_join {x y : Wd} (hx : okWd x) (hy : okWd y) (h : x.1 + y.1 ≤ 4096) (j : Nat) : tb (joinW x y).2 j = (tb y.2 j || (decide (y.1.toNat ≤ j) && tb x.2 (j - y.1.toNat))) := by
  have a := right_W hx.1
  have b := right_W hy.1
  have hb : ∀ z ∈ joinL x.1 x.2 y.1 y.2, z ≤ 1 := fun z hz => by
    rcases List.mem_append.1 hz with hz | hz
    · exact bitsTo_le _ _ z hz
    · exact bitsTo_le _ _ z hz
  rw [(joinW_ok hx hy h).2.2, tb_pack _ hb]
  unfold joinL
  by_cases hj : j < y.1.toNat
  · have e : (bitsTo y.2 y.1.toNat ++ bitsTo x.2 x.1.toNat).getD j 0 = (tb y.2 j).toNat := by
      rw [getD_left _ _ _ _ (by rw [bitsTo_len]; exact hj), bitsTo_at, if_pos hj]
    rw [e]
    have : ¬ y.1.toNat ≤ j := by omega
    cases tb y.2 j <;> simp [this]
  · have e : (bitsTo y.2 y.1.toNat ++ bitsTo x.2 x.1.toNat).getD j 0 = (bitsTo x.2 x.1.toNat).getD (j - y.1.toNat) 0 := by
      rw [getD_right _ _ _ _ (by rw [bitsTo_len]; omega), bitsTo_len]
    have ho : tb y.2 j = false := tb_out hy.1 j (by omega)
    rw [e, ho, bitsTo_at]
    have : y.1.toNat ≤ j := by omega
    split
    · cases tb x.2 (j - y.1.toNat) <;> simp [this]
    · rw [tb_out hx.1 (j - y.1.toNat) (by omega)]; simp

theorem catS_take {l : List Wd} {i : Nat} {y : Wd} (h : l[i]? = some y) : catS (l.take (i + 1)) = if i = 0 then y else joinW (catS (l.take i)) y := by
  match l, i, h with
  | k :: t, 0, h => simp at h; subst h; rfl
  | k :: t, i + 1, h =>
    have h' : t[i]? = some y := by simpa using h
    rw [if_neg (by omega), List.take_succ_cons, List.take_succ_cons]
    show (t.take (i + 1)).foldl joinW k = joinW ((t.take i).foldl joinW k) y
    rw [List.take_add_one, h', List.foldl_append]
    rfl

theorem sumV_take {l : List Wd} {i : Nat} {y : Wd} (h : l[i]? = some y) : sumV (l.take (i + 1)) = sumV (l.take i) + y.1 := by
  unfold sumV
  rw [List.take_add_one, h]
  simp

theorem sumV_nonneg {l : List Wd} (h : ∀ x ∈ l, okWd x) : 0 ≤ sumV l := by
  induction l with
  | nil => simp [sumV]
  | cons x t ih =>
    have a := right_W (h x (by simp)).1
    have b := ih fun y hy => h y (by simp [hy])
    simp only [sumV, List.map_cons, List.sum_cons] at b ⊢
    omega

theorem sumV_split (l : List Wd) (i : Nat) : sumV l = sumV (l.take i) + sumV (l.drop i) := by
  unfold sumV
  rw [← List.sum_append, ← List.map_append, List.take_append_drop]

theorem sumV_take_le {l : List Wd} (h : ∀ x ∈ l, okWd x) (i : Nat) : 0 ≤ sumV (l.take i) ∧ sumV (l.take i) ≤ sumV l := by
  have a := sumV_split l i
  have b := sumV_nonneg (l := l.take i) fun x hx => h x (List.mem_of_mem_take hx)
  have c := sumV_nonneg (l := l.drop i) fun x hx => h x (List.mem_of_mem_drop hx)
  omega

theorem cat_ok {l : List Wd} (h : ∀ x ∈ l, okWd x) (hs : sumV l ≤ 4096) : ∀ i, i < l.length → (catS (l.take (i + 1))).1 = sumV (l.take (i + 1)) ∧ okWd (catS (l.take (i + 1)))
  | 0, hi => by
    have hg : l[0]? = some l[0] := List.getElem?_eq_getElem hi
    rw [catS_take hg, sumV_take hg, if_pos rfl]
    exact ⟨by simp [sumV], h _ (List.getElem_mem hi)⟩
  | i + 1, hi => by
    have hg : l[i + 1]? = some l[i + 1] := List.getElem?_eq_getElem hi
    obtain ⟨h1, h2⟩ := cat_ok h hs i (by omega)
    have hy := h _ (List.getElem_mem hi)
    have hle := (sumV_take_le h (i + 1 + 1)).2
    rw [sumV_take hg] at hle
    rw [catS_take hg, sumV_take hg, if_neg (by omega)]
    obtain ⟨e1, e2, -⟩ := joinW_ok h2 hy (by omega)
    exact ⟨by rw [e1, h1], e2⟩

theorem cat_all {l : List Wd} (h : ∀ x ∈ l, okWd x) (hs : sumV l ≤ 4096) (hl : 1 ≤ l.length) : (catS l).1 = sumV l ∧ okWd (catS l) := by
  have := cat_ok h hs (l.length - 1) (by omega)
  rw [show l.length - 1 + 1 = l.length by omega, List.take_length] at this
  exact this

/-- What has come in so far of a row that is put together from its highest bits on. -/
def catSo (l : List Wd) (i P : Nat) (zs : List Nat) : Prop := ∀ j, tb zs j = (decide (P ≤ j) && tb (catS (l.take i)).2 (j - P))

theorem catSo.step {l : List Wd} {i P V : Nat} {y : Wd} {zs : List Nat} (hz : catSo l i (P + V) zs) (h : ∀ x ∈ l, okWd x) (hs : sumV l ≤ 4096) (hg : l[i]? = some y) (hV : y.1 = (V : Int)) (hroom : P + V ≤ 64 * zs.length) :
    catSo l (i + 1) P (putTo zs y.2 (P / 64) (P % 64) y.2.length) := by
  intro j
  have hy := h y (List.mem_of_getElem? hg)
  have hyr : rightB (V : Int) y.2 = true := by rw [← hV]; exact hy.1
  rw [tb_put_right hyr hy.2 zs P hroom, hz j, catS_take hg]
  by_cases hi : i = 0
  · subst hi
    rw [if_pos rfl]
    have e : tb (catS (l.take 0)).2 (j - (P + V)) = false := by
      simp [catS, tb]
    rw [e]
    simp
  · rw [if_neg hi]
    obtain ⟨h1, h2⟩ := cat_ok h hs (i - 1) (by have := (List.getElem?_eq_some_iff.1 hg).1; omega)
    rw [show i - 1 + 1 = i by omega] at h1 h2
    have hle := (sumV_take_le h (i + 1)).2
    rw [sumV_take hg] at hle
    rw [tb_join h2 hy (by omega)]
    have hvn : y.1.toNat = V := by omega
    rw [hvn, show j - P - V = j - (P + V) by omega]
    by_cases c1 : P ≤ j
    · by_cases c2 : P + V ≤ j
      · have : V ≤ j - P := by omega
        simp [c1, c2, this, Bool.or_comm]
      · have : ¬ V ≤ j - P := by omega
        simp [c1, c2, this]
    · have : ¬ P + V ≤ j := by omega
      simp [c1, this]

theorem catSo.done {l : List Wd} {W : Nat} {zs : List Nat} (hz : catSo l l.length 0 zs) (h : ∀ x ∈ l, okWd x) (hs : sumV l ≤ 4096) (hl : 1 ≤ l.length) (hW : sumV l = (W : Int)) (hzl : zs.length = (W + 63) / 64) (hzb : ∀ x ∈ zs, x < 18446744073709551616) : catS l = ((W : Int), zs) := by
  obtain ⟨h1, h2⟩ := cat_all h hs hl
  have hr := right_W h2.1
  have e : zs = (catS l).2 := by
    refine tb_ext (by omega) hzb h2.2 (fun j _ => ?_)
    rw [hz j, List.take_length]
    simp
  rw [e, ← hW, ← h1]

theorem catSo.start (l : List Wd) (P N : Nat) : catSo l 0 P (List.replicate N 0) := by
  intro j
  rw [tb_zero]
  simp [catS, tb]

end Go.Proofs.YtdlmgndmfphneaaGreatDoor

/- By right values each node of a right term is a right word, of its width. No program in sight. -/
namespace Go.Proofs.YtdlmgndmfphneaaGreatDoor
set_option linter.unusedVariables false
set_option linter.unusedSimpArgs false
open Go.RowKit

theorem sumR_eq (wide : List Int) (hw : ∀ i, 0 ≤ wide.getD i 0) : ∀ (ks : List Int) (s : Int), 0 ≤ s → sumR wide ks s ≤ 4096 → sumR wide ks s = s + (ks.map fun k => wide.getD k.toNat 0).sum ∧ s ≤ 4096
  | [], s, _, h => by simp [sumR] at h ⊢; exact h
  | k :: t, s, h0, h => by
    rw [sumR] at h ⊢
    have a := hw k.toNat
    obtain ⟨h1, h2⟩ := sumR_eq wide hw t _ (by omega) h
    rw [List.map_cons, List.sum_cons]
    constructor
    · rw [h1]; omega
    · omega

theorem sumR_one (wide : List Int) (k : Int) (h : 0 ≤ wide.getD k.toNat 0 ∧ wide.getD k.toNat 0 ≤ 4096) : sumR wide [k] 0 = wide.getD k.toNat 0 := by
  rw [sumR, sumR]; omega

/-- What stands of the nodes ahead. -/
structure Ahead (wide : List Int) (all : List Wd) : Prop where
  len : all.length = wide.length
  ok : ∀ i, i < all.length → (all.getD i (0, [])).1 = wide.getD i 0 ∧ okWd (all.getD i (0, []))

theorem Ahead.nil : Ahead [] [] := ⟨rfl, fun i hi => by simp at hi⟩

theorem Ahead.push {wide : List Int} {all : List Wd} {v : Int} {x : Wd} (h : Ahead wide all) (h1 : x.1 = v) (h2 : okWd x) : Ahead (wide ++ [v]) (all ++ [x]) := by
  refine ⟨by simp [h.len], fun i hi => ?_⟩
  by_cases hlt : i < all.length
  · have := h.ok i hlt
    have hw : i < wide.length := by rw [← h.len]; exact hlt
    have e1 : (all ++ [x]).getD i (0, []) = all.getD i (0, []) := getD_left _ _ _ _ hlt
    have e2 : (wide ++ [v]).getD i 0 = wide.getD i 0 := getD_left _ _ _ _ hw
    rw [e1, e2]
    exact this
  · have e : i = all.length := by simp at hi; omega
    subst e
    have e1 : (all ++ [x]).getD all.length (0, []) = x := by simp [List.getD]
    have e2 : (wide ++ [v]).getD all.length 0 = v := by rw [h.len]; simp [List.getD]
    rw [e1, e2]
    exact ⟨h1, h2⟩

theorem Ahead.mem {wide : List Int} {all : List Wd} (h : Ahead wide all) : ∀ x ∈ all, okWd x := fun x hx => by
  obtain ⟨i, hi, rfl⟩ := List.mem_iff_getElem.1 hx
  have := (h.ok i hi).2
  simpa [List.getD, hi] using this

theorem Ahead.wide_nonneg {wide : List Int} {all : List Wd} (h : Ahead wide all) (i : Nat) : 0 ≤ wide.getD i 0 := by
  by_cases hi : i < all.length
  · obtain ⟨a, b⟩ := h.ok i hi
    have := right_W b.1
    omega
  · have : wide.getD i 0 = 0 := by simp [List.getD, List.getElem?_eq_none (show wide.length ≤ i by rw [← h.len]; omega)]
    omega

/-- Kids that stand ahead are right words. -/
theorem Ahead.kids {wide : List Int} {all : List Wd} (h : Ahead wide all) {ks : List Int} (hk : kidsR wide.length ks = true) : (∀ x ∈ kidsV all ks, okWd x) ∧ sumV (kidsV all ks) = (ks.map fun k => wide.getD k.toNat 0).sum := by
  induction ks with
  | nil => simp [kidsV, sumV]
  | cons k t ih =>
    simp only [kidsR, List.all_cons, Bool.and_eq_true, decide_eq_true_eq] at hk ih
    obtain ⟨h1, h2⟩ := ih hk.2
    obtain ⟨a, b⟩ := h.ok k.toNat (by rw [h.len]; omega)
    refine ⟨fun x hx => ?_, ?_⟩
    · simp only [kidsV, List.map_cons, List.mem_cons] at hx
      rcases hx with rfl | hx
      · exact b
      · exact h1 x (by simpa [kidsV] using hx)
    · simp only [kidsV, sumV, List.map_cons, List.sum_cons] at h2 ⊢
      rw [a, h2]

theorem part_ok {x : Wd} (hx : okWd x) {a b : Int} (h0 : 0 ≤ b) (h1 : b ≤ a) (h2 : a < x.1) : (two (partR x.1 x.2 a b)).1 = a - b + 1 ∧ okWd (two (partR x.1 x.2 a b)) := by
  have hr := right_W hx.1
  have hl : (((bitsTo x.2 x.1.toNat).drop b.toNat).take (a - b + 1).toNat).length = (a - b + 1).toNat := by
    rw [List.length_take, List.length_drop, bitsTo_len]; omega
  rw [partR, if_pos ⟨hx.1, h0, h1, h2⟩]
  refine ⟨rfl, pkW_ok _ (fun z hz => bitsTo_le _ _ z (List.mem_of_mem_drop (List.mem_of_mem_take hz))) (by omega) (by omega) (by omega)⟩

theorem wdn_ok {x : Wd} (hx : okWd x) {a : Int} (s : Bool) (h0 : 0 ≤ a) (h1 : a ≤ 4096) (h2 : x.1 + a ≤ 4096) : (two (wdnR x.1 x.2 a s)).1 = x.1 + a ∧ okWd (two (wdnR x.1 x.2 a s)) := by
  have hr := right_W hx.1
  have hl : (bitsTo x.2 x.1.toNat ++ List.replicate a.toNat (topOf x.1.toNat x.2 s)).length = (x.1 + a).toNat := by
    rw [List.length_append, bitsTo_len, List.length_replicate]; omega
  rw [wdnR, if_pos ⟨hx.1, h0, h1, h2⟩]
  refine ⟨rfl, pkW_ok _ (fun z hz => ?_) (by omega) (by omega) (by omega)⟩
  rcases List.mem_append.1 hz with hz | hz
  · exact bitsTo_le _ _ z hz
  · rw [List.eq_of_mem_replicate hz]; exact topOf_le _ _ _

theorem turn_ok {x : Wd} (hx : okWd x) {a : Int} (h0 : 0 ≤ a) (h1 : a ≤ 4096) : (two (turnR x.1 x.2 a)).1 = x.1 ∧ okWd (two (turnR x.1 x.2 a)) := by
  have hr := right_W hx.1
  have hl : (turnL (bitsTo x.2 x.1.toNat) (a.toNat % x.1.toNat)).length = x.1.toNat := by rw [turnL_len, bitsTo_len]
  rw [turnR, if_pos ⟨hx.1, h0, h1⟩]
  exact ⟨rfl, pkW_ok _ (fun z hz => bitsTo_le _ _ z (turnL_mem _ _ _ hz)) (by omega) (by omega) (by omega)⟩

theorem rep_ok {x : Wd} (hx : okWd x) {a : Int} (h0 : 1 ≤ a) (h1 : a ≤ 4096) (h2 : x.1 * a ≤ 4096) : (two (repR x.1 x.2 a)).1 = x.1 * a ∧ okWd (two (repR x.1 x.2 a)) := by
  have hr := right_W hx.1
  have hp : 1 * 1 ≤ x.1 * a := Int.mul_le_mul hr.1 h0 (by omega) (by omega)
  have hl : (repList (bitsTo x.2 x.1.toNat) a.toNat).length = (x.1 * a).toNat := by
    rw [repList_len, bitsTo_len]
    have : ((a.toNat * x.1.toNat : Nat) : Int) = x.1 * a := by
      rw [Int.natCast_mul, Int.toNat_of_nonneg (by omega), Int.toNat_of_nonneg (by omega), Int.mul_comm]
    omega
  rw [repR, if_pos ⟨hx.1, h0, h1, h2⟩]
  exact ⟨rfl, pkW_ok _ (fun z hz => bitsTo_le _ _ z (repList_mem _ _ _ hz)) (by omega) (by omega) (by omega)⟩

theorem emod_range (a W : Int) (h : 1 ≤ W) : 0 ≤ (W - a % W) % W ∧ (W - a % W) % W < W := ⟨Int.emod_nonneg _ (by omega), Int.emod_lt_of_pos _ (by omega)⟩

/-- What is known of a node at its place. -/
structure NodeAt (vs all : List Wd) (n : Tc) : Prop where
  op : 1 ≤ n.op ∧ n.op ≤ 9
  kid : ∀ j ∈ n.ks, 0 ≤ j ∧ j < (all.length : Int)
  var : n.op = 1 → 0 ≤ n.vr ∧ n.vr < (vs.length : Int)
  many : n.op = 3 → 2 ≤ n.ks.length
  fit : n.op = 3 → sumV (kidsV all n.ks) ≤ 4096
  one : 4 ≤ n.op → n.ks.length = 1
  wide : n.op = 8 → 0 ≤ n.a ∧ n.a ≤ 4096
  oks : ∀ x ∈ all, okWd x
  is : okWd (nodV vs all n)

theorem nodV_ok {ds : List Dc} {vs all : List Wd} {wide : List Int} {n : Tc} {v : Int} (ha : Ahead wide all) (hv : valR ds vs = true) (hvb : ∀ x ∈ vs, ∀ y ∈ x.2, y < 18446744073709551616) (hnb : ∀ y ∈ n.ws, y < 18446744073709551616) (hs : stepR ds wide n = some v) :
    NodeAt vs all n ∧ (nodV vs all n).1 = v := by
  obtain ⟨-, hvl, hvr⟩ := valR_iff.1 hv
  have hcond := stepR_kids hs
  simp only [Bool.and_eq_true] at hcond
  obtain ⟨⟨hk, -⟩, hm⟩ := hcond
  obtain ⟨hko, hks⟩ := ha.kids hk
  have hval : 1 ≤ wideR ds n (sumR wide n.ks 0) ∧ wideR ds n (sumR wide n.ks 0) ≤ 4096 ∧ wideR ds n (sumR wide n.ks 0) = v := by
    unfold stepR at hs
    split at hs
    · split at hs
      · rename_i h; cases hs; exact ⟨h.1, h.2, rfl⟩
      · cases hs
    · cases hs
  obtain ⟨hv1, hv2, hv3⟩ := hval
  have hkid : ∀ j ∈ n.ks, 0 ≤ j ∧ j < (all.length : Int) := fun j hj => by
    simp only [kidsR, List.all_eq_true, decide_eq_true_eq] at hk
    have := hk j hj
    rw [ha.len]
    omega
  obtain ⟨op, vr, A, B, bw, ws, ks⟩ := n
  simp only [] at *
  have hop : 1 ≤ op ∧ op ≤ 9 := by
    unfold manyR at hm
    simp only [] at hm
    repeat' split at hm
    all_goals first | omega | (simp at hm)
  have hwn := ha.wide_nonneg
  have h1k : 4 ≤ op → ks.length = 1 := fun h => by
    unfold manyR at hm
    simp only [] at hm
    rw [if_neg (by omega), if_neg (by omega), if_neg (by omega), if_pos (by omega)] at hm
    simpa using hm
  have hone : 4 ≤ op → sumR wide ks 0 = (all.getD (ks.getD 0 0).toNat (0, [])).1 ∧ okWd (all.getD (ks.getD 0 0).toNat (0, [])) := fun h => by
    match ks, h1k h, hkid with
    | [k], _, hkid =>
      have hkk := hkid k (by simp)
      obtain ⟨a, b⟩ := ha.ok k.toNat (by omega)
      have hr := right_W b.1
      have e : ([k] : List Int).getD 0 0 = k := rfl
      rw [e, sumR_one wide k (by omega)]
      exact ⟨a.symm, b⟩
  have fin : 4 ≤ op → (op = 8 → 0 ≤ A ∧ A ≤ 4096) → ∀ y : Wd, nodV vs all ⟨op, vr, A, B, bw, ws, ks⟩ = y → y.1 = v → okWd y → NodeAt vs all ⟨op, vr, A, B, bw, ws, ks⟩ ∧ (nodV vs all ⟨op, vr, A, B, bw, ws, ks⟩).1 = v := fun h4 h8 y hy h1 h2 =>
    ⟨⟨hop, hkid, fun h => by simp only [] at h; omega, fun h => by simp only [] at h; omega, fun h => by simp only [] at h; omega, h1k, h8, ha.mem, by rw [hy]; exact h2⟩, by rw [hy]; exact h1⟩
  rcases op_nine hop.1 hop.2 with rfl | rfl | rfl | rfl | rfl | rfl | rfl | rfl | rfl
  · have hm' : ks.length = 0 ∧ 0 ≤ vr ∧ vr ≤ (ds.length : Int) - 1 := by simpa [manyR] using hm
    have hlt : vr.toNat < vs.length := by omega
    obtain ⟨a, b⟩ := hvr vr.toNat hlt
    have hb : okWd (vs.getD vr.toNat (0, [])) := ⟨a, hvb _ (by simp [List.getD, hlt])⟩
    have e : nodV vs all ⟨1, vr, A, B, bw, ws, ks⟩ = vs.getD vr.toNat (0, []) := by simp [nodV]
    simp only [wideR, if_true] at hv3
    refine ⟨⟨hop, hkid, fun _ => ⟨hm'.2.1, show vr < (vs.length : Int) by omega⟩, by simp, by simp, by simp, by simp, ha.mem, by rw [e]; exact hb⟩, by rw [e, b]; exact hv3⟩
  · have hm' : ks.length = 0 ∧ rightB bw ws = true := by simpa [manyR] using hm
    have e : nodV vs all ⟨2, vr, A, B, bw, ws, ks⟩ = (bw, ws) := by simp [nodV]
    have hv3' : bw = v := by simpa [wideR] using hv3
    exact ⟨⟨hop, hkid, by simp, by simp, by simp, by simp, by simp, ha.mem, by rw [e]; exact ⟨hm'.2, hnb⟩⟩, by rw [e]; exact hv3'⟩
  · have hm' : 2 ≤ ks.length := by simpa [manyR] using hm
    have e : nodV vs all ⟨3, vr, A, B, bw, ws, ks⟩ = catS (kidsV all ks) := by simp [nodV]
    have hw : wideR ds ⟨3, vr, A, B, bw, ws, ks⟩ (sumR wide ks 0) = sumR wide ks 0 := by simp [wideR]
    rw [hw] at hv1 hv2 hv3
    obtain ⟨hse, -⟩ := sumR_eq wide hwn ks 0 (by omega) hv2
    have hsum : sumV (kidsV all ks) = v := by rw [hks, ← hv3, hse]; omega
    obtain ⟨c1, c2⟩ := cat_all hko (by rw [hsum]; omega) (by simp [kidsV]; omega)
    exact ⟨⟨hop, hkid, by simp, fun _ => hm', fun _ => by rw [hsum]; omega, by simp, by simp, ha.mem, by rw [e]; exact c2⟩, by rw [e, c1]; exact hsum⟩
  all_goals obtain ⟨hsw, hxo⟩ := hone (by omega)
  all_goals rw [hsw] at hv1 hv2 hv3
  all_goals have hxr := right_W hxo.1
  all_goals obtain ⟨x, hx⟩ : ∃ x, all.getD (ks.getD 0 0).toNat (0, []) = x := ⟨_, rfl⟩
  all_goals rw [hx] at hv1 hv2 hv3 hxo hxr
  · have hw : wideR ds ⟨4, vr, A, B, bw, ws, ks⟩ x.1 = if B < 0 ∨ A < B ∨ x.1 ≤ A then -1 else A - B + 1 := by simp [wideR]
    rw [hw] at hv1 hv2 hv3
    by_cases hc : B < 0 ∨ A < B ∨ x.1 ≤ A
    · rw [if_pos hc] at hv1; omega
    rw [if_neg hc] at hv3
    obtain ⟨p1, p2⟩ := part_ok hxo (a := A) (b := B) (by omega) (by omega) (by omega)
    exact fin (by omega) (by omega) (two (partR x.1 x.2 A B)) (by rw [← hx]; simp [nodV, opV]) (by rw [p1]; exact hv3) p2
  · have hw : wideR ds ⟨5, vr, A, B, bw, ws, ks⟩ x.1 = if 0 ≤ A ∧ A ≤ 4096 then x.1 + A else -1 := by simp [wideR]
    rw [hw] at hv1 hv2 hv3
    by_cases hc : 0 ≤ A ∧ A ≤ 4096
    · rw [if_pos hc] at hv1 hv2 hv3
      obtain ⟨p1, p2⟩ := wdn_ok hxo (a := A) false hc.1 hc.2 hv2
      exact fin (by omega) (by omega) (two (wdnR x.1 x.2 A false)) (by rw [← hx]; simp [nodV, opV]) (by rw [p1]; exact hv3) p2
    · rw [if_neg hc] at hv1; omega
  · have hw : wideR ds ⟨6, vr, A, B, bw, ws, ks⟩ x.1 = if 0 ≤ A ∧ A ≤ 4096 then x.1 + A else -1 := by simp [wideR]
    rw [hw] at hv1 hv2 hv3
    by_cases hc : 0 ≤ A ∧ A ≤ 4096
    · rw [if_pos hc] at hv1 hv2 hv3
      obtain ⟨p1, p2⟩ := wdn_ok hxo (a := A) true hc.1 hc.2 hv2
      exact fin (by omega) (by omega) (two (wdnR x.1 x.2 A true)) (by rw [← hx]; simp [nodV, opV]) (by rw [p1]; exact hv3) p2
    · rw [if_neg hc] at hv1; omega
  · have hw : wideR ds ⟨7, vr, A, B, bw, ws, ks⟩ x.1 = if 0 ≤ A ∧ A ≤ 4096 then x.1 else -1 := by simp [wideR]
    rw [hw] at hv1 hv2 hv3
    by_cases hc : 0 ≤ A ∧ A ≤ 4096
    · rw [if_pos hc] at hv1 hv2 hv3
      obtain ⟨p1, p2⟩ := turn_ok hxo (a := A) hc.1 hc.2
      exact fin (by omega) (by omega) (two (turnR x.1 x.2 A)) (by rw [← hx]; simp [nodV, opV]) (by rw [p1]; exact hv3) p2
    · rw [if_neg hc] at hv1; omega
  · have hw : wideR ds ⟨8, vr, A, B, bw, ws, ks⟩ x.1 = if 0 ≤ A ∧ A ≤ 4096 then x.1 else -1 := by simp [wideR]
    rw [hw] at hv1 hv2 hv3
    by_cases hc : 0 ≤ A ∧ A ≤ 4096
    · rw [if_pos hc] at hv1 hv2 hv3
      have hr := emod_range A x.1 hxr.1
      obtain ⟨p1, p2⟩ := turn_ok hxo (a := (x.1 - A % x.1) % x.1) hr.1 (by omega)
      exact fin (by omega) (fun _ => hc) (two (turnR x.1 x.2 ((x.1 - A % x.1) % x.1))) (by rw [← hx]; simp [nodV, opV]) (by rw [p1]; exact hv3) p2
    · rw [if_neg hc] at hv1; omega
  · have hw : wideR ds ⟨9, vr, A, B, bw, ws, ks⟩ x.1 = if 1 ≤ A ∧ A ≤ 4096 then x.1 * A else -1 := by simp [wideR]
    rw [hw] at hv1 hv2 hv3
    by_cases hc : 1 ≤ A ∧ A ≤ 4096
    · rw [if_pos hc] at hv1 hv2 hv3
      obtain ⟨p1, p2⟩ := rep_ok hxo (a := A) hc.1 hc.2 hv2
      exact fin (by omega) (by omega) (two (repR x.1 x.2 A)) (by rw [← hx]; simp [nodV, opV]) (by rw [p1]; exact hv3) p2
    · rw [if_neg hc] at hv1; omega

theorem ev_take {vs : List Wd} {ns : List Tc} {k : Nat} {n : Tc} (h : ns[k]? = some n) : evR vs (ns.take (k + 1)) = evR vs (ns.take k) ++ [nodV vs (evR vs (ns.take k)) n] := by
  unfold evR
  rw [List.take_add_one, h, List.foldl_append]
  simp

theorem fold_ev_len (vs : List Wd) (ns : List Tc) : ∀ all : List Wd, (ns.foldl (fun all n => all ++ [nodV vs all n]) all).length = all.length + ns.length := by
  induction ns with
  | nil => simp
  | cons n t ih => intro all; rw [List.foldl_cons, ih]; simp; omega

theorem ev_len (vs : List Wd) (ns : List Tc) : (evR vs ns).length = ns.length := by
  have := fold_ev_len vs ns []
  simpa [evR] using this

theorem ev_steps {ds : List Dc} {vs : List Wd} (hv : valR ds vs = true) (hvb : ∀ x ∈ vs, ∀ y ∈ x.2, y < 18446744073709551616) : ∀ (ns : List Tc) (wide : List Int) (all : List Wd) (r : List Int), (∀ n ∈ ns, ∀ y ∈ n.ws, y < 18446744073709551616) → Ahead wide all → goR ds wide ns = some r →
    ∀ (k : Nat) (n : Tc), ns[k]? = some n → NodeAt vs ((ns.take k).foldl (fun all n => all ++ [nodV vs all n]) all) n
  | [], _, _, _, _, _, _ => by simp
  | m :: t, wide, all, r, hb, ha, h => by
    rw [goR] at h
    cases hst : stepR ds wide m with
    | none => rw [hst] at h; cases h
    | some v =>
      rw [hst] at h
      obtain ⟨h1, h2⟩ := nodV_ok ha hv hvb (hb m (by simp)) hst
      intro k n hk
      cases k with
      | zero => simp at hk; subst hk; exact h1
      | succ k =>
        have := ev_steps hv hvb t _ _ r (fun n hn => hb n (by simp [hn])) (ha.push h2 h1.is) h k n (by simpa using hk)
        simpa using this

/-- Each node of a right term, by right values. -/
theorem ev_at {ds : List Dc} {vs : List Wd} {ns : List Tc} (hw : ¬ (widthsR ds ns).length = 0) (hv : valR ds vs = true) (hvb : ∀ x ∈ vs, ∀ y ∈ x.2, y < 18446744073709551616) (hnb : ∀ n ∈ ns, ∀ y ∈ n.ws, y < 18446744073709551616) {k : Nat} {n : Tc} (hk : ns[k]? = some n) : NodeAt vs (evR vs (ns.take k)) n := by
  unfold widthsR at hw
  split at hw
  · cases hg : goR ds [] ns with
    | none => rw [hg] at hw; simp at hw
    | some wide => exact ev_steps hv hvb ns [] [] wide hnb Ahead.nil hg k n hk
  · simp at hw

/-- What a term is by values. -/
def evalR (vs : List Wd) (ns : List Tc) : Wd := (evR vs ns).getD (ns.length - 1) (0, [])

theorem eval_ok {ds : List Dc} {vs : List Wd} {ns : List Tc} (hw : ¬ (widthsR ds ns).length = 0) (hv : valR ds vs = true) (hvb : ∀ x ∈ vs, ∀ y ∈ x.2, y < 18446744073709551616) (hnb : ∀ n ∈ ns, ∀ y ∈ n.ws, y < 18446744073709551616) : okWd (evalR vs ns) := by
  have hl := (right_kids hw).1
  have hk : ns[ns.length - 1]? = some ns[ns.length - 1] := List.getElem?_eq_getElem (by omega)
  have h := (ev_at hw hv hvb hnb hk).is
  have e := ev_take (vs := vs) hk
  rw [show ns.length - 1 + 1 = ns.length by omega, List.take_length] at e
  unfold evalR
  rw [e]
  have hlen : (evR vs (ns.take (ns.length - 1))).length = ns.length - 1 := by rw [ev_len]; simp
  rw [getD_right _ _ _ _ (by omega), hlen]
  simpa using h

end Go.Proofs.YtdlmgndmfphneaaGreatDoor
