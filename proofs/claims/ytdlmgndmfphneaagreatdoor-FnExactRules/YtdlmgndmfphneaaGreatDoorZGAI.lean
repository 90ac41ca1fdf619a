/- Several texts in one. -/
import Derived.Test.YtdlmgndmfphneaaGreatDoorQU
import Derived.Test.YtdlmgndmfphneaaGreatDoorZGAG

/- What the program's rightWidths answers. -/
namespace Go.Proofs.YtdlmgndmfphneaaGreatDoor
set_option linter.unusedVariables false
set_option linter.unusedSimpArgs false
open Go.RowKit

theorem rightWidths_any (a b : Option Addr) (c c2 n : Nat) (ds : List Dc) (xs : List Tg) (w : World) (hr : RdD w a ds) (hs : RdT w b xs) (hn : xs.length = n) (hG : GF w) :
    Calls Tryz.prog 49 #[.slice a ds.length c, .agg #[.slice b n c2]] w (RetI w (widthsR ds (xs.map Tg.ct))) := by
  have s0 := St.start w (.cells #[.slice b n c2] 34)
  have HD := kide (fun u (hu : Below w.heap.size w u) => implDecls_any a c ds u (hr.later hu))
  have HW := kide (fun u (hu : Below w.heap.size w u) (hd : dclR ds = true) => widthsOf_any a b c c2 n ds xs u (hr.later hu) (hs.later hu) hn (hG.later hu) hd)
  clear hr hs hn hG
  cases hd : dclR ds with
  | false =>
    have hR : widthsR ds (xs.map Tg.ct) = [] := by simp [widthsR, hd]
    rw [hR]
    rw [hd] at HD
    clear hR hd HW
    go_enter Tryz.func49, Tryz.ntmps49
    go_wp2_with fail
    refine Calls.mono (HD.out _ s0.below) ?_
    rintro e w1 ⟨rfl, hb1⟩
    have s1 := s0.next hb1
    go_wp2_with fail
    go_ret
    exact RetI.nil _ _ s1.below
  | true =>
    rw [hd] at HD
    have HW2 := kide (fun u hu => HW.out u hu hd)
    generalize widthsR ds (xs.map Tg.ct) = R at *
    clear hd HW
    go_enter Tryz.func49, Tryz.ntmps49
    go_wp2_with fail
    refine Calls.mono (HD.out _ s0.below) ?_
    rintro e w1 ⟨rfl, hb1⟩
    have s1 := s0.next hb1
    have g0 := s1.cell 0
    simp at g0
    clear hb1 s0
    go_wp2_with fail
    refine Calls.mono (HW2.out _ s1.below) ?_
    rintro e w2 ⟨a2, c3, rfl, hr2, hnl, hb2⟩
    have B2 := kide (s1.below.trans (hb2.mono s1.below.size))
    have HR2 := kide hr2
    have HNL := kide hnl
    clear hb2 hr2 hnl
    go_wp2_with fail
    go_ret
    exact ⟨a2, c3, rfl, HR2.out, HNL.out, B2.out⟩

end Go.Proofs.YtdlmgndmfphneaaGreatDoor

/- The given specification's l15Fit: rule 4. -/
namespace Go.Proofs.YtdlmgndmfphneaaGreatDoor
set_option linter.unusedVariables false
set_option linter.unusedSimpArgs false
open Go.RowKit

set_option maxHeartbeats 4000000 in
set_option maxRecDepth 100000 in
theorem fit4_flat (tb to xb xo kb ko kc c c2 N p j wn wc kn ywn ywc ykn ykc : Nat) (wa ywa yka : Option Addr) (op vr A B bw W yop yvr yA yB ybw : Int) (w : World) (i0 : (p : Int) < (N : Int)) (i1 : (j : Int) < (N : Int)) (i2 : ((kn : Int) == 0) = false) (i3 : (0 : Int) < (kn : Int)) (w1 : Hid (1 ≤ W ∧ W ≤ 4096)) (hwr : wrap64 (W - 1) = W - 1) (hW0 : ¬ W = 0) (l0 : tb < w.heap.size) (l1 : kb < w.heap.size) (l2 : xb < w.heap.size) (p0 : w.cell? ⟨tb, to + p * 7, none⟩ = some (.int .i64 op)) (p1 : w.cell? ⟨tb, to + p * 7 + 1, none⟩ = some (.int .i64 vr)) (p2 : w.cell? ⟨tb, to + p * 7 + 2, none⟩ = some (.int .i64 A)) (p3 : w.cell? ⟨tb, to + p * 7 + 3, none⟩ = some (.int .i64 B)) (p4 : w.cell? ⟨tb, to + p * 7 + 4, none⟩ = some (.int .i64 bw)) (p5 : w.cell? ⟨tb, to + p * 7 + 5, none⟩ = some (.slice wa wn wc)) (p6 : w.cell? ⟨tb, to + p * 7 + 6, none⟩ = some (.slice (some ⟨kb, ko, none⟩) kn kc)) (k0 : w.cell? ⟨kb, ko, none⟩ = some (.int .i64 (j : Int))) (q0 : w.cell? ⟨tb, to + j * 7, none⟩ = some (.int .i64 yop)) (q1 : w.cell? ⟨tb, to + j * 7 + 1, none⟩ = some (.int .i64 yvr)) (q2 : w.cell? ⟨tb, to + j * 7 + 2, none⟩ = some (.int .i64 yA)) (q3 : w.cell? ⟨tb, to + j * 7 + 3, none⟩ = some (.int .i64 yB)) (q4 : w.cell? ⟨tb, to + j * 7 + 4, none⟩ = some (.int .i64 ybw)) (q5 : w.cell? ⟨tb, to + j * 7 + 5, none⟩ = some (.slice ywa ywn ywc)) (q6 : w.cell? ⟨tb, to + j * 7 + 6, none⟩ = some (.slice yka ykn ykc)) (x0 : w.cell? ⟨xb, xo + j, none⟩ = some (.int .i64 W)) : Calls Tryz.prog 25 #[.agg #[.slice (some ⟨tb, to, none⟩) N c2], .slice (some ⟨xb, xo, none⟩) N c, .int .i64 (p : Int), .int .i64 4] w (RetN w (decide (op = 8 ∧ ¬ Int.tmod A W = 0))) := by
  have l0a : tb < w.heap.size + 1 := by omega
  have l0b : tb < w.heap.size + 1 + 1 := by omega
  have l0c : tb < w.heap.size + 1 + 1 + 1 := by omega
  have l0d : tb < w.heap.size + 1 + 1 + 1 + 1 := by omega
  have l1a : kb < w.heap.size + 1 := by omega
  have l1b : kb < w.heap.size + 1 + 1 := by omega
  have l1c : kb < w.heap.size + 1 + 1 + 1 := by omega
  have l1d : kb < w.heap.size + 1 + 1 + 1 + 1 := by omega
  have l2a : xb < w.heap.size + 1 := by omega
  have l2b : xb < w.heap.size + 1 + 1 := by omega
  have l2c : xb < w.heap.size + 1 + 1 + 1 := by omega
  have l2d : xb < w.heap.size + 1 + 1 + 1 + 1 := by omega
  have HBW := kide (Below.refl w.heap.size w)
  go_enter Tryz.func25, Tryz.ntmps25
  go_wp2_with fail
  all_goals first
    | (exact bodyPost_ret (v := .tuple #[.agg #[.int .i64 0, .slice none 0 0], .bool false]) (by simp [results, Tryz.results25, go_sem]) rfl ⟨0, none, 0, 0, by rw [show (decide (op = 8 ∧ ¬ Int.tmod A W = 0)) = false from (by (try simp only [beq_eq_false_iff_ne, ne_eq, beq_iff_eq, bne_iff_ne, bne_eq_false_iff_eq] at *); exact decide_eq_false (by omega))], (by repeat' (first | exact HBW.out | refine Below.alloc ?_ (by simp; try omega) _))⟩)
    | (go_at_call 45; refine Calls.mono (l15Node_any _ _ _ _ _ _ _ _ _ _ _ _) ?_; rintro e w5 ⟨k5, va5, vn5, vc5, rfl, hb5⟩; skip; have X5 : Bz w5 (w.heap.size + 1) #[Value.int .i64 0, Value.slice none 0 0] 53 := (by first | exact bzr.later hb5 | exact bzr5.later hb5); have BE : Hid (Below w.heap.size w w5) := Below.trans (by repeat' (first | exact HBW.out | refine Below.alloc ?_ (by simp; try omega) _)) (hb5.mono (by simp; try omega)); have e0 := X5.cell 0; have e1 := X5.cell 1; have f0 := X5.froz 0; have f1 := X5.froz 1; simp at e0 e1; have y9 := (X5.set 0 (Value.int .i64 k5)).set 1 (Value.slice va5 vn5 vc5); have y0 := y9.cell 0; have y1 := y9.cell 1; have Y0 := kide y0; have Y1 := kide y1; clear y0 y1 y9 hb5 X5; go_wp2_with fail; have y0 := Y0.out; have y1 := Y1.out; exact bodyPost_ret (v := .tuple #[.agg #[.int .i64 k5, .slice va5 vn5 vc5], .bool true]) (by simp [results, Tryz.results25, go_sem, y0, y1]) rfl ⟨k5, va5, vn5, vc5, by rw [show (decide (op = 8 ∧ ¬ Int.tmod A W = 0)) = true from (by (try simp only [beq_eq_false_iff_ne, ne_eq, beq_iff_eq, bne_iff_ne, bne_eq_false_iff_eq] at *); exact decide_eq_true (by omega))], (BE.out.setCell (p := ⟨w.heap.size + 1, 0, none⟩) (by simp) _).setCell (p := ⟨w.heap.size + 1, 1, none⟩) (by simp) _⟩)

end Go.Proofs.YtdlmgndmfphneaaGreatDoor

/- The given specification's l15Fit: rule 5. -/
namespace Go.Proofs.YtdlmgndmfphneaaGreatDoor
set_option linter.unusedVariables false
set_option linter.unusedSimpArgs false
open Go.RowKit

set_option maxHeartbeats 4000000 in
set_option maxRecDepth 100000 in
theorem fit5_flat (tb to xb xo kb ko kc c c2 N p j wn wc kn ywn ywc ykn ykc : Nat) (wa ywa yka : Option Addr) (op vr A B bw W yop yvr yA yB ybw : Int) (w : World) (i0 : (p : Int) < (N : Int)) (i1 : (j : Int) < (N : Int)) (i2 : ((kn : Int) == 0) = false) (i3 : (0 : Int) < (kn : Int)) (w1 : Hid (1 ≤ W ∧ W ≤ 4096)) (hwr : wrap64 (W - 1) = W - 1) (hW0 : ¬ W = 0) (l0 : tb < w.heap.size) (l1 : kb < w.heap.size) (l2 : xb < w.heap.size) (p0 : w.cell? ⟨tb, to + p * 7, none⟩ = some (.int .i64 op)) (p1 : w.cell? ⟨tb, to + p * 7 + 1, none⟩ = some (.int .i64 vr)) (p2 : w.cell? ⟨tb, to + p * 7 + 2, none⟩ = some (.int .i64 A)) (p3 : w.cell? ⟨tb, to + p * 7 + 3, none⟩ = some (.int .i64 B)) (p4 : w.cell? ⟨tb, to + p * 7 + 4, none⟩ = some (.int .i64 bw)) (p5 : w.cell? ⟨tb, to + p * 7 + 5, none⟩ = some (.slice wa wn wc)) (p6 : w.cell? ⟨tb, to + p * 7 + 6, none⟩ = some (.slice (some ⟨kb, ko, none⟩) kn kc)) (k0 : w.cell? ⟨kb, ko, none⟩ = some (.int .i64 (j : Int))) (q0 : w.cell? ⟨tb, to + j * 7, none⟩ = some (.int .i64 yop)) (q1 : w.cell? ⟨tb, to + j * 7 + 1, none⟩ = some (.int .i64 yvr)) (q2 : w.cell? ⟨tb, to + j * 7 + 2, none⟩ = some (.int .i64 yA)) (q3 : w.cell? ⟨tb, to + j * 7 + 3, none⟩ = some (.int .i64 yB)) (q4 : w.cell? ⟨tb, to + j * 7 + 4, none⟩ = some (.int .i64 ybw)) (q5 : w.cell? ⟨tb, to + j * 7 + 5, none⟩ = some (.slice ywa ywn ywc)) (q6 : w.cell? ⟨tb, to + j * 7 + 6, none⟩ = some (.slice yka ykn ykc)) (x0 : w.cell? ⟨xb, xo + j, none⟩ = some (.int .i64 W)) : Calls Tryz.prog 25 #[.agg #[.slice (some ⟨tb, to, none⟩) N c2], .slice (some ⟨xb, xo, none⟩) N c, .int .i64 (p : Int), .int .i64 5] w (RetN w (decide ((op = 5 ∨ op = 6) ∧ A = 0))) := by
  have l0a : tb < w.heap.size + 1 := by omega
  have l0b : tb < w.heap.size + 1 + 1 := by omega
  have l0c : tb < w.heap.size + 1 + 1 + 1 := by omega
  have l0d : tb < w.heap.size + 1 + 1 + 1 + 1 := by omega
  have l1a : kb < w.heap.size + 1 := by omega
  have l1b : kb < w.heap.size + 1 + 1 := by omega
  have l1c : kb < w.heap.size + 1 + 1 + 1 := by omega
  have l1d : kb < w.heap.size + 1 + 1 + 1 + 1 := by omega
  have l2a : xb < w.heap.size + 1 := by omega
  have l2b : xb < w.heap.size + 1 + 1 := by omega
  have l2c : xb < w.heap.size + 1 + 1 + 1 := by omega
  have l2d : xb < w.heap.size + 1 + 1 + 1 + 1 := by omega
  have HBW := kide (Below.refl w.heap.size w)
  go_enter Tryz.func25, Tryz.ntmps25
  go_wp2_with fail
  all_goals first
    | (exact bodyPost_ret (v := .tuple #[.agg #[.int .i64 0, .slice none 0 0], .bool false]) (by simp [results, Tryz.results25, go_sem]) rfl ⟨0, none, 0, 0, by rw [show (decide ((op = 5 ∨ op = 6) ∧ A = 0)) = false from (by (try simp only [beq_eq_false_iff_ne, ne_eq, beq_iff_eq, bne_iff_ne, bne_eq_false_iff_eq] at *); exact decide_eq_false (by omega))], (by repeat' (first | exact HBW.out | refine Below.alloc ?_ (by simp; try omega) _))⟩)
    | (go_at_call 44; refine Calls.mono (l15Kid_any _ _) ?_; rintro e w5 ⟨k5, va5, vn5, vc5, rfl, hb5⟩; skip; have X5 : Bz w5 (w.heap.size + 1) #[Value.int .i64 0, Value.slice none 0 0] 53 := (by first | exact bzr.later hb5 | exact bzr5.later hb5); have BE : Hid (Below w.heap.size w w5) := Below.trans (by repeat' (first | exact HBW.out | refine Below.alloc ?_ (by simp; try omega) _)) (hb5.mono (by simp; try omega)); have e0 := X5.cell 0; have e1 := X5.cell 1; have f0 := X5.froz 0; have f1 := X5.froz 1; simp at e0 e1; have y9 := (X5.set 0 (Value.int .i64 k5)).set 1 (Value.slice va5 vn5 vc5); have y0 := y9.cell 0; have y1 := y9.cell 1; have Y0 := kide y0; have Y1 := kide y1; clear y0 y1 y9 hb5 X5; go_wp2_with fail; have y0 := Y0.out; have y1 := Y1.out; exact bodyPost_ret (v := .tuple #[.agg #[.int .i64 k5, .slice va5 vn5 vc5], .bool true]) (by simp [results, Tryz.results25, go_sem, y0, y1]) rfl ⟨k5, va5, vn5, vc5, by rw [show (decide ((op = 5 ∨ op = 6) ∧ A = 0)) = true from (by (try simp only [beq_eq_false_iff_ne, ne_eq, beq_iff_eq, bne_iff_ne, bne_eq_false_iff_eq] at *); exact decide_eq_true (by omega))], (BE.out.setCell (p := ⟨w.heap.size + 1, 0, none⟩) (by simp) _).setCell (p := ⟨w.heap.size + 1, 1, none⟩) (by simp) _⟩)

end Go.Proofs.YtdlmgndmfphneaaGreatDoor

/- The given specification's l15Fit: rule 6. -/
namespace Go.Proofs.YtdlmgndmfphneaaGreatDoor
set_option linter.unusedVariables false
set_option linter.unusedSimpArgs false
open Go.RowKit

set_option maxHeartbeats 4000000 in
set_option maxRecDepth 100000 in
theorem I6 (tb to xb xo kb ko kc c c2 N p j wn wc kn ywn ywc ykn ykc : Nat) (wa ywa yka : Option Addr) (op vr A B bw W yop yvr yA yB ybw : Int) (w : World)  (i0 : (p : Int) < (N : Int)) (i1 : (j : Int) < (N : Int)) (i2 : ((kn : Int) == 0) = false) (i3 : (0 : Int) < (kn : Int)) (w1 : Hid (1 ≤ W ∧ W ≤ 4096)) (hwr : wrap64 (W - 1) = W - 1) (hW0 : ¬ W = 0) (l0 : tb < w.heap.size) (l1 : kb < w.heap.size) (l2 : xb < w.heap.size) (p0 : w.cell? ⟨tb, to + p * 7, none⟩ = some (.int .i64 op)) (p1 : w.cell? ⟨tb, to + p * 7 + 1, none⟩ = some (.int .i64 vr)) (p2 : w.cell? ⟨tb, to + p * 7 + 2, none⟩ = some (.int .i64 A)) (p3 : w.cell? ⟨tb, to + p * 7 + 3, none⟩ = some (.int .i64 B)) (p4 : w.cell? ⟨tb, to + p * 7 + 4, none⟩ = some (.int .i64 bw)) (p5 : w.cell? ⟨tb, to + p * 7 + 5, none⟩ = some (.slice wa wn wc)) (p6 : w.cell? ⟨tb, to + p * 7 + 6, none⟩ = some (.slice (some ⟨kb, ko, none⟩) kn kc)) (k0 : w.cell? ⟨kb, ko, none⟩ = some (.int .i64 (j : Int))) (q0 : w.cell? ⟨tb, to + j * 7, none⟩ = some (.int .i64 yop)) (q1 : w.cell? ⟨tb, to + j * 7 + 1, none⟩ = some (.int .i64 yvr)) (q2 : w.cell? ⟨tb, to + j * 7 + 2, none⟩ = some (.int .i64 yA)) (q3 : w.cell? ⟨tb, to + j * 7 + 3, none⟩ = some (.int .i64 yB)) (q4 : w.cell? ⟨tb, to + j * 7 + 4, none⟩ = some (.int .i64 ybw)) (q5 : w.cell? ⟨tb, to + j * 7 + 5, none⟩ = some (.slice ywa ywn ywc)) (q6 : w.cell? ⟨tb, to + j * 7 + 6, none⟩ = some (.slice yka ykn ykc)) (x0 : w.cell? ⟨xb, xo + j, none⟩ = some (.int .i64 W)) (HBO : Hid (∀ u, Below w.heap.size w u → Calls Tryz.prog 46 #[.int .i64 A, .int .i64 0] u fun e w' => ∃ (v1 : Int) (a9 : Option Addr) (n9 c9 : Nat) (b9 : Bool), e = .returned (.tuple #[.agg #[.int .i64 v1, .slice a9 n9 c9], .bool b9]) ∧ Below u.heap.size u w')) : Calls Tryz.prog 25 #[.agg #[.slice (some ⟨tb, to, none⟩) N c2], .slice (some ⟨xb, xo, none⟩) N c, .int .i64 (p : Int), .int .i64 6] w (RetN w (decide (op = 5 ∧ 0 < A))) := by
  have l0a : tb < w.heap.size + 1 := by omega
  have l0b : tb < w.heap.size + 1 + 1 := by omega
  have l0c : tb < w.heap.size + 1 + 1 + 1 := by omega
  have l0d : tb < w.heap.size + 1 + 1 + 1 + 1 := by omega
  have l1a : kb < w.heap.size + 1 := by omega
  have l1b : kb < w.heap.size + 1 + 1 := by omega
  have l1c : kb < w.heap.size + 1 + 1 + 1 := by omega
  have l1d : kb < w.heap.size + 1 + 1 + 1 + 1 := by omega
  have l2a : xb < w.heap.size + 1 := by omega
  have l2b : xb < w.heap.size + 1 + 1 := by omega
  have l2c : xb < w.heap.size + 1 + 1 + 1 := by omega
  have l2d : xb < w.heap.size + 1 + 1 + 1 + 1 := by omega
  have HBW := kide (Below.refl w.heap.size w)
  go_enter Tryz.func25, Tryz.ntmps25
  go_wp2_with fail
  all_goals try first
    | (exact bodyPost_ret (v := .tuple #[.agg #[.int .i64 0, .slice none 0 0], .bool false]) (by simp [results, Tryz.results25, go_sem]) rfl ⟨0, none, 0, 0, by rw [show (decide (op = 5 ∧ 0 < A)) = false from (by (try simp only [beq_eq_false_iff_ne, ne_eq, beq_iff_eq, bne_iff_ne, bne_eq_false_iff_eq] at *); exact decide_eq_false (by omega))], (by repeat' (first | exact HBW.out | refine Below.alloc ?_ (by simp; try omega) _))⟩)
  have XR : Hid (Bz ((((w.alloc (Obj.cells #[Value.slice (some ⟨tb, to, none⟩) N c2] 34)).alloc (Obj.cells #[Value.int .i64 0, Value.slice none 0 0] 53)).alloc (Obj.cells #[Value.int .i64 5, Value.int .i64 vr, Value.int .i64 A, Value.int .i64 B, Value.int .i64 bw, Value.slice wa wn wc, Value.slice (some ⟨kb, ko, none⟩) kn kc] 63)).alloc (Obj.cells #[Value.int .i64 yop, Value.int .i64 yvr, Value.int .i64 yA, Value.int .i64 yB, Value.int .i64 ybw, Value.slice ywa ywn ywc, Value.slice yka ykn ykc] 63)) (w.heap.size + 1) #[Value.int .i64 0, Value.slice none 0 0] 53) := bzr
  have X2 : Hid (Bz ((((w.alloc (Obj.cells #[Value.slice (some ⟨tb, to, none⟩) N c2] 34)).alloc (Obj.cells #[Value.int .i64 0, Value.slice none 0 0] 53)).alloc (Obj.cells #[Value.int .i64 5, Value.int .i64 vr, Value.int .i64 A, Value.int .i64 B, Value.int .i64 bw, Value.slice wa wn wc, Value.slice (some ⟨kb, ko, none⟩) kn kc] 63)).alloc (Obj.cells #[Value.int .i64 yop, Value.int .i64 yvr, Value.int .i64 yA, Value.int .i64 yB, Value.int .i64 ybw, Value.slice ywa ywn ywc, Value.slice yka ykn ykc] 63)) (w.heap.size + 1 + 1) #[Value.int .i64 5, Value.int .i64 vr, Value.int .i64 A, Value.int .i64 B, Value.int .i64 bw, Value.slice wa wn wc, Value.slice (some ⟨kb, ko, none⟩) kn kc] 63) := by
    have h9 := Bz.new ((w.alloc (Obj.cells #[Value.slice (some ⟨tb, to, none⟩) N c2] 34)).alloc (Obj.cells #[Value.int .i64 0, Value.slice none 0 0] 53)) #[Value.int .i64 5, Value.int .i64 vr, Value.int .i64 A, Value.int .i64 B, Value.int .i64 bw, Value.slice wa wn wc, Value.slice (some ⟨kb, ko, none⟩) kn kc] 63
    rw [show ((w.alloc (Obj.cells #[Value.slice (some ⟨tb, to, none⟩) N c2] 34)).alloc (Obj.cells #[Value.int .i64 0, Value.slice none 0 0] 53)).heap.size = w.heap.size + 1 + 1 by simp] at h9
    exact h9.later ((Below.refl _ _).alloc (Nat.le_refl _) _)
  have X3 : Hid (Bz ((((w.alloc (Obj.cells #[Value.slice (some ⟨tb, to, none⟩) N c2] 34)).alloc (Obj.cells #[Value.int .i64 0, Value.slice none 0 0] 53)).alloc (Obj.cells #[Value.int .i64 5, Value.int .i64 vr, Value.int .i64 A, Value.int .i64 B, Value.int .i64 bw, Value.slice wa wn wc, Value.slice (some ⟨kb, ko, none⟩) kn kc] 63)).alloc (Obj.cells #[Value.int .i64 yop, Value.int .i64 yvr, Value.int .i64 yA, Value.int .i64 yB, Value.int .i64 ybw, Value.slice ywa ywn ywc, Value.slice yka ykn ykc] 63)) (w.heap.size + 1 + 1 + 1) #[Value.int .i64 yop, Value.int .i64 yvr, Value.int .i64 yA, Value.int .i64 yB, Value.int .i64 ybw, Value.slice ywa ywn ywc, Value.slice yka ykn ykc] 63) := by
    have h9 := Bz.new (((w.alloc (Obj.cells #[Value.slice (some ⟨tb, to, none⟩) N c2] 34)).alloc (Obj.cells #[Value.int .i64 0, Value.slice none 0 0] 53)).alloc (Obj.cells #[Value.int .i64 5, Value.int .i64 vr, Value.int .i64 A, Value.int .i64 B, Value.int .i64 bw, Value.slice wa wn wc, Value.slice (some ⟨kb, ko, none⟩) kn kc] 63)) #[Value.int .i64 yop, Value.int .i64 yvr, Value.int .i64 yA, Value.int .i64 yB, Value.int .i64 ybw, Value.slice ywa ywn ywc, Value.slice yka ykn ykc] 63
    rw [show (((w.alloc (Obj.cells #[Value.slice (some ⟨tb, to, none⟩) N c2] 34)).alloc (Obj.cells #[Value.int .i64 0, Value.slice none 0 0] 53)).alloc (Obj.cells #[Value.int .i64 5, Value.int .i64 vr, Value.int .i64 A, Value.int .i64 B, Value.int .i64 bw, Value.slice wa wn wc, Value.slice (some ⟨kb, ko, none⟩) kn kc] 63)).heap.size = w.heap.size + 1 + 1 + 1 by simp] at h9
    exact h9
  have B4 : Hid (Below w.heap.size w ((((w.alloc (Obj.cells #[Value.slice (some ⟨tb, to, none⟩) N c2] 34)).alloc (Obj.cells #[Value.int .i64 0, Value.slice none 0 0] 53)).alloc (Obj.cells #[Value.int .i64 5, Value.int .i64 vr, Value.int .i64 A, Value.int .i64 B, Value.int .i64 bw, Value.slice wa wn wc, Value.slice (some ⟨kb, ko, none⟩) kn kc] 63)).alloc (Obj.cells #[Value.int .i64 yop, Value.int .i64 yvr, Value.int .i64 yA, Value.int .i64 yB, Value.int .i64 ybw, Value.slice ywa ywn ywc, Value.slice yka ykn ykc] 63))) := (by repeat' (first | exact HBW.out | refine Below.alloc ?_ (by simp; try omega) _))
  generalize ((((w.alloc (Obj.cells #[Value.slice (some ⟨tb, to, none⟩) N c2] 34)).alloc (Obj.cells #[Value.int .i64 0, Value.slice none 0 0] 53)).alloc (Obj.cells #[Value.int .i64 5, Value.int .i64 vr, Value.int .i64 A, Value.int .i64 B, Value.int .i64 bw, Value.slice wa wn wc, Value.slice (some ⟨kb, ko, none⟩) kn kc] 63)).alloc (Obj.cells #[Value.int .i64 yop, Value.int .i64 yvr, Value.int .i64 yA, Value.int .i64 yB, Value.int .i64 ybw, Value.slice ywa ywn ywc, Value.slice yka ykn ykc] 63)) = W4 at *
  obtain ⟨b1, hb1⟩ : ∃ b, w.heap.size + 1 = b := ⟨_, rfl⟩
  obtain ⟨b2, hb2⟩ : ∃ b, b1 + 1 = b := ⟨_, rfl⟩
  obtain ⟨b3, hb3⟩ : ∃ b, b2 + 1 = b := ⟨_, rfl⟩
  have HL1 : Hid (w.heap.size ≤ b1) := (by show _ ≤ _; omega)
  rw [hb1] at XR
  rw [hb1, hb2] at X2
  rw [hb1, hb2, hb3] at X3
  try simp only [hb1, hb2, hb3]
  refine Calls.mono (HBO.out _ B4.out) ?_
  rintro e w5 ⟨v1, a9, n9, c9, b9, rfl, hb5⟩
  have XR5 := kide (XR.out.later hb5)
  have B5 := kide (B4.out.trans (hb5.mono B4.out.size))
  clear hb5
  have e0 := XR5.out.cell 0
  have e1 := XR5.out.cell 1
  have f0 := XR5.out.froz 0
  have f1 := XR5.out.froz 1
  simp at e0 e1
  have lb := XR5.out.lt
  have lba : b1 < w5.heap.size + 1 := (by omega)
  have lbb : b1 < w5.heap.size + 1 + 1 := (by omega)
  have lbc : b1 < w5.heap.size + 1 + 1 + 1 := (by omega)
  have HB5 := kide (B5.out.size)
  have y9 := (XR5.out.set 0 (Value.int .i64 (-1))).set 1 (Value.slice (some ⟨w5.heap.size + 1 + 1, 0, none⟩) 2 2)
  have Y0 := kide (y9.cell 0)
  have Y1 := kide (y9.cell 1)
  have BE : Hid (Below w.heap.size w ((w5.setCell ⟨b1, 0, none⟩ (Value.int .i64 (-1))).setCell ⟨b1, 1, none⟩ (Value.slice (some ⟨w5.heap.size + 1 + 1, 0, none⟩) 2 2))) := (B5.out.setCell (p := ⟨b1, 0, none⟩) HL1.out _).setCell (p := ⟨b1, 1, none⟩) HL1.out _
  clear y9
  go_wp2_with fail
  have y0 := Y0.out
  have y1 := Y1.out
  simp at y0 y1
  have hb5z := HB5.out
  exact bodyPost_ret (v := .tuple #[.agg #[.int .i64 (-1), .slice (some ⟨w5.heap.size + 1 + 1, 0, none⟩) 2 2], .bool true]) (by simp [results, Tryz.results25, go_sem, y0, y1, lb, lba, lbb]) rfl ⟨-1, _, 2, 2, by first | rfl | rw [decide_eq_true (by omega)], (((BE.out.alloc (by simp; omega) _).alloc (by simp; omega) _).alloc (by simp; omega) _)⟩

end Go.Proofs.YtdlmgndmfphneaaGreatDoor

/- The given specification's l15Fit: rule 7. -/
namespace Go.Proofs.YtdlmgndmfphneaaGreatDoor
set_option linter.unusedVariables false
set_option linter.unusedSimpArgs false
open Go.RowKit

set_option maxHeartbeats 4000000 in
set_option maxRecDepth 100000 in
theorem I7 (tb to xb xo kb ko kc c c2 N p j wn wc kn ywn ywc ykn ykc : Nat) (wa ywa yka : Option Addr) (op vr A B bw W yop yvr yA yB ybw : Int) (w : World)  (i0 : (p : Int) < (N : Int)) (i1 : (j : Int) < (N : Int)) (i2 : ((kn : Int) == 0) = false) (i3 : (0 : Int) < (kn : Int)) (w1 : Hid (1 ≤ W ∧ W ≤ 4096)) (hwr : wrap64 (W - 1) = W - 1) (hW0 : ¬ W = 0) (l0 : tb < w.heap.size) (l1 : kb < w.heap.size) (l2 : xb < w.heap.size) (p0 : w.cell? ⟨tb, to + p * 7, none⟩ = some (.int .i64 op)) (p1 : w.cell? ⟨tb, to + p * 7 + 1, none⟩ = some (.int .i64 vr)) (p2 : w.cell? ⟨tb, to + p * 7 + 2, none⟩ = some (.int .i64 A)) (p3 : w.cell? ⟨tb, to + p * 7 + 3, none⟩ = some (.int .i64 B)) (p4 : w.cell? ⟨tb, to + p * 7 + 4, none⟩ = some (.int .i64 bw)) (p5 : w.cell? ⟨tb, to + p * 7 + 5, none⟩ = some (.slice wa wn wc)) (p6 : w.cell? ⟨tb, to + p * 7 + 6, none⟩ = some (.slice (some ⟨kb, ko, none⟩) kn kc)) (k0 : w.cell? ⟨kb, ko, none⟩ = some (.int .i64 (j : Int))) (q0 : w.cell? ⟨tb, to + j * 7, none⟩ = some (.int .i64 yop)) (q1 : w.cell? ⟨tb, to + j * 7 + 1, none⟩ = some (.int .i64 yvr)) (q2 : w.cell? ⟨tb, to + j * 7 + 2, none⟩ = some (.int .i64 yA)) (q3 : w.cell? ⟨tb, to + j * 7 + 3, none⟩ = some (.int .i64 yB)) (q4 : w.cell? ⟨tb, to + j * 7 + 4, none⟩ = some (.int .i64 ybw)) (q5 : w.cell? ⟨tb, to + j * 7 + 5, none⟩ = some (.slice ywa ywn ywc)) (q6 : w.cell? ⟨tb, to + j * 7 + 6, none⟩ = some (.slice yka ykn ykc)) (x0 : w.cell? ⟨xb, xo + j, none⟩ = some (.int .i64 W)) (hA4 : Hid (A ≤ 4096)) : Calls Tryz.prog 25 #[.agg #[.slice (some ⟨tb, to, none⟩) N c2], .slice (some ⟨xb, xo, none⟩) N c, .int .i64 (p : Int), .int .i64 7] w (RetN w (decide (op = 9 ∧ 1 < A))) := by
  have l0a : tb < w.heap.size + 1 := by omega
  have l0b : tb < w.heap.size + 1 + 1 := by omega
  have l0c : tb < w.heap.size + 1 + 1 + 1 := by omega
  have l0d : tb < w.heap.size + 1 + 1 + 1 + 1 := by omega
  have l1a : kb < w.heap.size + 1 := by omega
  have l1b : kb < w.heap.size + 1 + 1 := by omega
  have l1c : kb < w.heap.size + 1 + 1 + 1 := by omega
  have l1d : kb < w.heap.size + 1 + 1 + 1 + 1 := by omega
  have l2a : xb < w.heap.size + 1 := by omega
  have l2b : xb < w.heap.size + 1 + 1 := by omega
  have l2c : xb < w.heap.size + 1 + 1 + 1 := by omega
  have l2d : xb < w.heap.size + 1 + 1 + 1 + 1 := by omega
  have HBW := kide (Below.refl w.heap.size w)
  go_enter Tryz.func25, Tryz.ntmps25
  go_wp2_with fail
  all_goals try first
    | (exact bodyPost_ret (v := .tuple #[.agg #[.int .i64 0, .slice none 0 0], .bool false]) (by simp [results, Tryz.results25, go_sem]) rfl ⟨0, none, 0, 0, by rw [show (decide (op = 9 ∧ 1 < A)) = false from (by (try simp only [beq_eq_false_iff_ne, ne_eq, beq_iff_eq, bne_iff_ne, bne_eq_false_iff_eq] at *); exact decide_eq_false (by omega))], (by repeat' (first | exact HBW.out | refine Below.alloc ?_ (by simp; try omega) _))⟩)
  have XR0 : Hid (Bz (((((w.alloc (Obj.cells #[Value.slice (some ⟨tb, to, none⟩) N c2] 34)).alloc (Obj.cells #[Value.int .i64 0, Value.slice none 0 0] 53)).alloc (Obj.cells #[Value.int .i64 9, Value.int .i64 vr, Value.int .i64 A, Value.int .i64 B, Value.int .i64 bw, Value.slice wa wn wc, Value.slice (some ⟨kb, ko, none⟩) kn kc] 63)).alloc (Obj.cells #[Value.int .i64 yop, Value.int .i64 yvr, Value.int .i64 yA, Value.int .i64 yB, Value.int .i64 ybw, Value.slice ywa ywn ywc, Value.slice yka ykn ykc] 63)).alloc (Obj.cells #[Value.int .i64 3, Value.int .i64 0, Value.int .i64 0, Value.int .i64 0, Value.int .i64 0, Value.slice none 0 0, Value.slice none 0 0] 63)) (w.heap.size + 1) #[Value.int .i64 0, Value.slice none 0 0] 53) := bzr5
  have X20 : Hid (Bz (((((w.alloc (Obj.cells #[Value.slice (some ⟨tb, to, none⟩) N c2] 34)).alloc (Obj.cells #[Value.int .i64 0, Value.slice none 0 0] 53)).alloc (Obj.cells #[Value.int .i64 9, Value.int .i64 vr, Value.int .i64 A, Value.int .i64 B, Value.int .i64 bw, Value.slice wa wn wc, Value.slice (some ⟨kb, ko, none⟩) kn kc] 63)).alloc (Obj.cells #[Value.int .i64 yop, Value.int .i64 yvr, Value.int .i64 yA, Value.int .i64 yB, Value.int .i64 ybw, Value.slice ywa ywn ywc, Value.slice yka ykn ykc] 63)).alloc (Obj.cells #[Value.int .i64 3, Value.int .i64 0, Value.int .i64 0, Value.int .i64 0, Value.int .i64 0, Value.slice none 0 0, Value.slice none 0 0] 63)) (w.heap.size + 1 + 1) #[Value.int .i64 9, Value.int .i64 vr, Value.int .i64 A, Value.int .i64 B, Value.int .i64 bw, Value.slice wa wn wc, Value.slice (some ⟨kb, ko, none⟩) kn kc] 63) := by
    have h9 := Bz.new ((w.alloc (Obj.cells #[Value.slice (some ⟨tb, to, none⟩) N c2] 34)).alloc (Obj.cells #[Value.int .i64 0, Value.slice none 0 0] 53)) #[Value.int .i64 9, Value.int .i64 vr, Value.int .i64 A, Value.int .i64 B, Value.int .i64 bw, Value.slice wa wn wc, Value.slice (some ⟨kb, ko, none⟩) kn kc] 63
    rw [show ((w.alloc (Obj.cells #[Value.slice (some ⟨tb, to, none⟩) N c2] 34)).alloc (Obj.cells #[Value.int .i64 0, Value.slice none 0 0] 53)).heap.size = w.heap.size + 1 + 1 by simp] at h9
    exact (h9.later ((Below.refl _ _).alloc (Nat.le_refl _) _)).later ((Below.refl _ _).alloc (Nat.le_refl _) _)
  have XC0 : Hid (Bz (((((w.alloc (Obj.cells #[Value.slice (some ⟨tb, to, none⟩) N c2] 34)).alloc (Obj.cells #[Value.int .i64 0, Value.slice none 0 0] 53)).alloc (Obj.cells #[Value.int .i64 9, Value.int .i64 vr, Value.int .i64 A, Value.int .i64 B, Value.int .i64 bw, Value.slice wa wn wc, Value.slice (some ⟨kb, ko, none⟩) kn kc] 63)).alloc (Obj.cells #[Value.int .i64 yop, Value.int .i64 yvr, Value.int .i64 yA, Value.int .i64 yB, Value.int .i64 ybw, Value.slice ywa ywn ywc, Value.slice yka ykn ykc] 63)).alloc (Obj.cells #[Value.int .i64 3, Value.int .i64 0, Value.int .i64 0, Value.int .i64 0, Value.int .i64 0, Value.slice none 0 0, Value.slice none 0 0] 63)) (w.heap.size + 1 + 1 + 1 + 1) #[Value.int .i64 3, Value.int .i64 0, Value.int .i64 0, Value.int .i64 0, Value.int .i64 0, Value.slice none 0 0, Value.slice none 0 0] 63) := by
    have h9 := Bz.new ((((w.alloc (Obj.cells #[Value.slice (some ⟨tb, to, none⟩) N c2] 34)).alloc (Obj.cells #[Value.int .i64 0, Value.slice none 0 0] 53)).alloc (Obj.cells #[Value.int .i64 9, Value.int .i64 vr, Value.int .i64 A, Value.int .i64 B, Value.int .i64 bw, Value.slice wa wn wc, Value.slice (some ⟨kb, ko, none⟩) kn kc] 63)).alloc (Obj.cells #[Value.int .i64 yop, Value.int .i64 yvr, Value.int .i64 yA, Value.int .i64 yB, Value.int .i64 ybw, Value.slice ywa ywn ywc, Value.slice yka ykn ykc] 63)) #[Value.int .i64 3, Value.int .i64 0, Value.int .i64 0, Value.int .i64 0, Value.int .i64 0, Value.slice none 0 0, Value.slice none 0 0] 63
    rw [show ((((w.alloc (Obj.cells #[Value.slice (some ⟨tb, to, none⟩) N c2] 34)).alloc (Obj.cells #[Value.int .i64 0, Value.slice none 0 0] 53)).alloc (Obj.cells #[Value.int .i64 9, Value.int .i64 vr, Value.int .i64 A, Value.int .i64 B, Value.int .i64 bw, Value.slice wa wn wc, Value.slice (some ⟨kb, ko, none⟩) kn kc] 63)).alloc (Obj.cells #[Value.int .i64 yop, Value.int .i64 yvr, Value.int .i64 yA, Value.int .i64 yB, Value.int .i64 ybw, Value.slice ywa ywn ywc, Value.slice yka ykn ykc] 63)).heap.size = w.heap.size + 1 + 1 + 1 + 1 by simp] at h9
    exact h9
  have B50 : Hid (Below w.heap.size w (((((w.alloc (Obj.cells #[Value.slice (some ⟨tb, to, none⟩) N c2] 34)).alloc (Obj.cells #[Value.int .i64 0, Value.slice none 0 0] 53)).alloc (Obj.cells #[Value.int .i64 9, Value.int .i64 vr, Value.int .i64 A, Value.int .i64 B, Value.int .i64 bw, Value.slice wa wn wc, Value.slice (some ⟨kb, ko, none⟩) kn kc] 63)).alloc (Obj.cells #[Value.int .i64 yop, Value.int .i64 yvr, Value.int .i64 yA, Value.int .i64 yB, Value.int .i64 ybw, Value.slice ywa ywn ywc, Value.slice yka ykn ykc] 63)).alloc (Obj.cells #[Value.int .i64 3, Value.int .i64 0, Value.int .i64 0, Value.int .i64 0, Value.int .i64 0, Value.slice none 0 0, Value.slice none 0 0] 63))) := (by repeat' (first | exact HBW.out | refine Below.alloc ?_ (by simp; try omega) _))
  generalize (((((w.alloc (Obj.cells #[Value.slice (some ⟨tb, to, none⟩) N c2] 34)).alloc (Obj.cells #[Value.int .i64 0, Value.slice none 0 0] 53)).alloc (Obj.cells #[Value.int .i64 9, Value.int .i64 vr, Value.int .i64 A, Value.int .i64 B, Value.int .i64 bw, Value.slice wa wn wc, Value.slice (some ⟨kb, ko, none⟩) kn kc] 63)).alloc (Obj.cells #[Value.int .i64 yop, Value.int .i64 yvr, Value.int .i64 yA, Value.int .i64 yB, Value.int .i64 ybw, Value.slice ywa ywn ywc, Value.slice yka ykn ykc] 63)).alloc (Obj.cells #[Value.int .i64 3, Value.int .i64 0, Value.int .i64 0, Value.int .i64 0, Value.int .i64 0, Value.slice none 0 0, Value.slice none 0 0] 63)) = W5 at *
  obtain ⟨b1, hb1⟩ : ∃ b, w.heap.size + 1 = b := ⟨_, rfl⟩
  obtain ⟨b2, hb2⟩ : ∃ b, b1 + 1 = b := ⟨_, rfl⟩
  obtain ⟨b4, hb4⟩ : ∃ b, b2 + 1 + 1 = b := ⟨_, rfl⟩
  have HL1 : Hid (w.heap.size ≤ b1) := (by show _ ≤ _; omega)
  have HL4 : Hid (w.heap.size ≤ b4) := (by show _ ≤ _; omega)
  have HLB : Hid (b1 < W5.heap.size ∧ b2 < W5.heap.size ∧ b4 < W5.heap.size) := (by show _ ∧ _ ∧ _; have h1 := XR0.out.lt; have h2 := X20.out.lt; have h3 := XC0.out.lt; omega)
  have B5S : Hid (w.heap.size ≤ W5.heap.size) := B50.out.size
  have HNE : Hid (b1 ≠ b4 ∧ b2 ≠ b4) := (by show _ ∧ _; omega)
  rw [hb1] at XR0
  rw [hb1, hb2] at X20
  rw [hb1, hb2, hb4] at XC0
  simp only [hb1, hb2, hb4]
  clear hb1 hb2 hb4 p0 p1 p2 p3 p4 p5 p6 k0 q0 q1 q2 q3 q4 q5 q6 x0 l0 l1 l2 l0a l0b l0c l0d l1a l1b l1c l1d l2a l2b l2c l2d
  have hAp : 0 < A := (by omega)
  obtain ⟨T, hT⟩ : ∃ T : Nat, A = (T : Int) := ⟨A.toNat, by omega⟩
  have HT4 : Hid (T ≤ 4096) := (by have := hA4.out; show _ ≤ _; omega)
  have HYES : Hid (decide (op = 9 ∧ 1 < A) = true) := (by show _ = _; exact decide_eq_true (by omega))
  have HTA := kide hT
  have hd1 : decide ((1 : Int) < A) = true := decide_eq_true (by omega)
  simp only [hd1]
  clear hAp hT hd1
  go_loopw [18] (fun i wr => ∃ (k : Nat) (v : Value), k ≤ T ∧ i = .int .i64 (k : Int) ∧ Bz wr b4 #[Value.int .i64 3, Value.int .i64 0, Value.int .i64 0, Value.int .i64 0, Value.int .i64 0, Value.slice none 0 0, v] 63 ∧ OW wr W5.heap.size v (List.replicate k (j : Int)) ∧ Below w.heap.size w wr ∧ Bz wr b1 #[Value.int .i64 0, Value.slice none 0 0] 53 ∧ Bz wr b2 #[Value.int .i64 9, Value.int .i64 vr, Value.int .i64 A, Value.int .i64 B, Value.int .i64 bw, Value.slice wa wn wc, Value.slice (some ⟨kb, ko, none⟩) kn kc] 63 ∧ W5.heap.size ≤ wr.heap.size) (fun i _ => T - (intOf i).toNat)
  case atStart => exact ⟨0, _, Nat.zero_le _, rfl, XC0.out, ⟨rfl, .inl ⟨rfl, rfl⟩⟩, B50.out, XR0.out, X20.out, Nat.le_refl _⟩
  case round =>
    obtain ⟨k, v, hk, rfl, hxc, hown, hbw, hxr, hx2, hsz⟩ := hrel
    have XC := kide hxc
    have OWN := kide hown
    have BW := kide hbw
    have XR := kide hxr
    have X2 := kide hx2
    have HSZ := kide hsz
    have a2 := hx2.cell 2
    simp at a2
    obtain ⟨va, vc, rfl⟩ : ∃ va vc, v = .slice va k vc := by
      obtain ⟨-, ⟨h1, h2⟩ | ⟨g, cap, cur, h1, -⟩⟩ := hown
      · rw [List.length_replicate] at h2; exact ⟨none, 0, by rw [h1, h2]⟩
      · rw [List.length_replicate] at h1; exact ⟨some ⟨g, 0, none⟩, cap, h1⟩
    by_cases hlt : k < T
    · have i9 : (k : Int) < A := (by have := HTA.out; omega)
      have c6 := hxc.cell 6
      have g6 := hxc.froz 6
      simp at c6
      have l4 := hxc.lt
      have hl : (List.replicate k (j : Int)).length ≤ 1073741824 := (by have := HT4.out; rw [List.length_replicate]; omega)
      have HKT : Hid (k < T) := hlt
      clear hlt hk hxc hown hbw hxr hx2
      go_wp2_with (at_builtin; refine wpList_appW rfl _ _ rfl W5.heap.size _ (List.replicate k (j : Int)) (j : Int) rfl (World.ownsRow.alloc OWN.out _) _ rfl (by simp) hl (by simp; omega) ?_)
      intro v' w' ho' hg
      obtain ⟨g7, c7, rfl⟩ : ∃ g c, v' = .slice (some ⟨g, 0, none⟩) (k + 1) c := by
        obtain ⟨-, ⟨-, h2⟩ | ⟨g, cap, cur, h1, -⟩⟩ := ho'
        · simp at h2
        · simp only [List.length_append, List.length_replicate, List.length_singleton] at h1; exact ⟨g, cap, h1⟩
      have hal : Below wr.heap.size wr (wr.alloc (Obj.cells #[Value.int .i64 (j : Int)] 2)) := (Below.refl _ _).alloc (Nat.le_refl _) _
      have xca := XC.out.later hal
      have xra := XR.out.later hal
      have x2a := X2.out.later hal
      have hne : ∀ b, b < W5.heap.size → some b ≠ (Value.slice va k vc).ownBlock := fun b hb e => by have := (OWN.out.lt e.symm).1; omega
      have XC7 : Hid (Bz w' b4 #[Value.int .i64 3, Value.int .i64 0, Value.int .i64 0, Value.int .i64 0, Value.int .i64 0, Value.slice none 0 0, Value.slice va k vc] 63) := (hg.block b4 xca.lt (fun e => hne b4 HLB.out.2.2 e)).trans xca
      have XR7 : Hid (Bz w' b1 #[Value.int .i64 0, Value.slice none 0 0] 53) := (hg.block b1 xra.lt (fun e => hne b1 HLB.out.1 e)).trans xra
      have X27 : Hid (Bz w' b2 #[Value.int .i64 9, Value.int .i64 vr, Value.int .i64 A, Value.int .i64 B, Value.int .i64 bw, Value.slice wa wn wc, Value.slice (some ⟨kb, ko, none⟩) kn kc] 63) := (hg.block b2 x2a.lt (fun e => hne b2 HLB.out.2.1 e)).trans x2a
      have B7 : Hid (Below w.heap.size w w') := (BW.out.alloc BW.out.size _).grown hg (BW.out.alloc BW.out.size _).size (fun kk e => by have h1 := (OWN.out.lt e).1; have h2 := B5S.out; omega)
      have SZ7 : Hid (W5.heap.size ≤ w'.heap.size) := Nat.le_trans (Nat.le_trans HSZ.out hal.size) hg.size
      have O7 : Hid (OW (w'.setCell ⟨b4, 6, none⟩ (.slice (some ⟨g7, 0, none⟩) (k + 1) c7)) W5.heap.size (.slice (some ⟨g7, 0, none⟩) (k + 1) c7) (List.replicate k (j : Int) ++ [(j : Int)])) := ho'.moveW fun b hb => heap_setCell_other w' ⟨b4, 6, none⟩ b _ (fun e => by have h9 := XC7.out; unfold Bz at h9; exact ho'.typed h9 (by decide) (by rw [hb, e]))
      clear ho' hg hal xca xra x2a hne c6 g6 a2
      have c6 := XC7.out.cell 6
      have g6 := XC7.out.froz 6
      simp at c6
      have XC8 : Hid (Bz (w'.setCell ⟨b4, 6, none⟩ (.slice (some ⟨g7, 0, none⟩) (k + 1) c7)) b4 #[Value.int .i64 3, Value.int .i64 0, Value.int .i64 0, Value.int .i64 0, Value.int .i64 0, Value.slice none 0 0, Value.slice (some ⟨g7, 0, none⟩) (k + 1) c7] 63) := XC7.out.set 6 _
      have XR8 : Hid (Bz (w'.setCell ⟨b4, 6, none⟩ (.slice (some ⟨g7, 0, none⟩) (k + 1) c7)) b1 #[Value.int .i64 0, Value.slice none 0 0] 53) := XR7.out.other (by have := HNE.out; omega) 6 _
      have X28 : Hid (Bz (w'.setCell ⟨b4, 6, none⟩ (.slice (some ⟨g7, 0, none⟩) (k + 1) c7)) b2 #[Value.int .i64 9, Value.int .i64 vr, Value.int .i64 A, Value.int .i64 B, Value.int .i64 bw, Value.slice wa wn wc, Value.slice (some ⟨kb, ko, none⟩) kn kc] 63) := X27.out.other (by have := HNE.out; omega) 6 _
      have B8 : Hid (Below w.heap.size w (w'.setCell ⟨b4, 6, none⟩ (.slice (some ⟨g7, 0, none⟩) (k + 1) c7))) := B7.out.setCell (p := ⟨b4, 6, none⟩) HL4.out _
      have hrep : Hid (List.replicate k (j : Int) ++ [(j : Int)] = List.replicate (k + 1) (j : Int)) := by show _ = _; rw [List.replicate_succ']
      have O8 := kide O7.out
      rw [hrep.out] at O8
      have SZ8 : Hid (W5.heap.size ≤ (w'.setCell ⟨b4, 6, none⟩ (.slice (some ⟨g7, 0, none⟩) (k + 1) c7)).heap.size) := by show _ ≤ _; simpa using SZ7.out
      have hw8 : wrap64 ((k : Int) + 1) = ((k + 1 : Nat) : Int) := by have := HT4.out; have := HKT.out; unfold wrap64; omega
      have HW8 := kide hw8
      clear hw8
      go_wp2_with fail
      have hw8 := HW8.out
      rw [hw8]
      clear hw8
      refine ⟨⟨k + 1, _, by have := HKT.out; omega, rfl, XC8.out, O8, B8.out, XR8.out, X28.out, SZ8.out⟩, ?measure⟩
      case measure => have := HKT.out; simp only [intOf, Int.toNat_natCast]; omega
    · have e9 : k = T := (by omega)
      subst e9
      have i9 : ¬ (k : Int) < A := (by have := HTA.out; omega)
      have c0 := hxc.cell 0
      have c1 := hxc.cell 1
      have c2 := hxc.cell 2
      have c3 := hxc.cell 3
      have c4 := hxc.cell 4
      have c5 := hxc.cell 5
      have c6 := hxc.cell 6
      simp at c0 c1 c2 c3 c4 c5 c6
      clear hlt hk hxc hown hbw hxr hx2
      go_wp2_with fail
      refine Calls.mono (l15Node_any _ _ _ _ _ _ _ _ _ _ _ _) ?_
      rintro e w6 ⟨k5, va5, vn5, vc5, rfl, hb6⟩
      have XR6 := kide (XR.out.later hb6)
      have B6 := kide (BW.out.trans (hb6.mono BW.out.size))
      clear hb6
      have e0 := XR6.out.cell 0
      have e1 := XR6.out.cell 1
      have f0 := XR6.out.froz 0
      have f1 := XR6.out.froz 1
      simp at e0 e1
      have y9 := (XR6.out.set 0 (Value.int .i64 k5)).set 1 (Value.slice va5 vn5 vc5)
      have Y0 := kide (y9.cell 0)
      have Y1 := kide (y9.cell 1)
      have BE : Hid (Below w.heap.size w ((w6.setCell ⟨b1, 0, none⟩ (Value.int .i64 k5)).setCell ⟨b1, 1, none⟩ (Value.slice va5 vn5 vc5))) := (B6.out.setCell (p := ⟨b1, 0, none⟩) HL1.out _).setCell (p := ⟨b1, 1, none⟩) HL1.out _
      clear y9
      go_wp2_with fail
      have y0 := Y0.out
      have y1 := Y1.out
      simp at y0 y1
      exact bodyPost_ret (v := .tuple #[.agg #[.int .i64 k5, .slice va5 vn5 vc5], .bool true]) (by simp [results, Tryz.results25, go_sem, y0, y1]) rfl ⟨k5, va5, vn5, vc5, (by first | rfl | rw [HYES.out]), BE.out⟩

end Go.Proofs.YtdlmgndmfphneaaGreatDoor

/- The given specification's l15Fit: rule 8. -/
namespace Go.Proofs.YtdlmgndmfphneaaGreatDoor
set_option linter.unusedVariables false
set_option linter.unusedSimpArgs false
open Go.RowKit

set_option maxHeartbeats 4000000 in
set_option maxRecDepth 100000 in
theorem fit8_flat (tb to xb xo kb ko kc c c2 N p j wn wc kn ywn ywc ykn ykc : Nat) (wa ywa yka : Option Addr) (op vr A B bw W yop yvr yA yB ybw : Int) (w : World) (i0 : (p : Int) < (N : Int)) (i1 : (j : Int) < (N : Int)) (i2 : ((kn : Int) == 0) = false) (i3 : (0 : Int) < (kn : Int)) (w1 : Hid (1 ≤ W ∧ W ≤ 4096)) (hwr : wrap64 (W - 1) = W - 1) (hW0 : ¬ W = 0) (l0 : tb < w.heap.size) (l1 : kb < w.heap.size) (l2 : xb < w.heap.size) (p0 : w.cell? ⟨tb, to + p * 7, none⟩ = some (.int .i64 op)) (p1 : w.cell? ⟨tb, to + p * 7 + 1, none⟩ = some (.int .i64 vr)) (p2 : w.cell? ⟨tb, to + p * 7 + 2, none⟩ = some (.int .i64 A)) (p3 : w.cell? ⟨tb, to + p * 7 + 3, none⟩ = some (.int .i64 B)) (p4 : w.cell? ⟨tb, to + p * 7 + 4, none⟩ = some (.int .i64 bw)) (p5 : w.cell? ⟨tb, to + p * 7 + 5, none⟩ = some (.slice wa wn wc)) (p6 : w.cell? ⟨tb, to + p * 7 + 6, none⟩ = some (.slice (some ⟨kb, ko, none⟩) kn kc)) (k0 : w.cell? ⟨kb, ko, none⟩ = some (.int .i64 (j : Int))) (q0 : w.cell? ⟨tb, to + j * 7, none⟩ = some (.int .i64 yop)) (q1 : w.cell? ⟨tb, to + j * 7 + 1, none⟩ = some (.int .i64 yvr)) (q2 : w.cell? ⟨tb, to + j * 7 + 2, none⟩ = some (.int .i64 yA)) (q3 : w.cell? ⟨tb, to + j * 7 + 3, none⟩ = some (.int .i64 yB)) (q4 : w.cell? ⟨tb, to + j * 7 + 4, none⟩ = some (.int .i64 ybw)) (q5 : w.cell? ⟨tb, to + j * 7 + 5, none⟩ = some (.slice ywa ywn ywc)) (q6 : w.cell? ⟨tb, to + j * 7 + 6, none⟩ = some (.slice yka ykn ykc)) (x0 : w.cell? ⟨xb, xo + j, none⟩ = some (.int .i64 W)) : Calls Tryz.prog 25 #[.agg #[.slice (some ⟨tb, to, none⟩) N c2], .slice (some ⟨xb, xo, none⟩) N c, .int .i64 (p : Int), .int .i64 8] w (RetN w (decide (op = 9 ∧ A = 1))) := by
  have l0a : tb < w.heap.size + 1 := by omega
  have l0b : tb < w.heap.size + 1 + 1 := by omega
  have l0c : tb < w.heap.size + 1 + 1 + 1 := by omega
  have l0d : tb < w.heap.size + 1 + 1 + 1 + 1 := by omega
  have l1a : kb < w.heap.size + 1 := by omega
  have l1b : kb < w.heap.size + 1 + 1 := by omega
  have l1c : kb < w.heap.size + 1 + 1 + 1 := by omega
  have l1d : kb < w.heap.size + 1 + 1 + 1 + 1 := by omega
  have l2a : xb < w.heap.size + 1 := by omega
  have l2b : xb < w.heap.size + 1 + 1 := by omega
  have l2c : xb < w.heap.size + 1 + 1 + 1 := by omega
  have l2d : xb < w.heap.size + 1 + 1 + 1 + 1 := by omega
  have HBW := kide (Below.refl w.heap.size w)
  go_enter Tryz.func25, Tryz.ntmps25
  go_wp2_with fail
  all_goals first
    | (exact bodyPost_ret (v := .tuple #[.agg #[.int .i64 0, .slice none 0 0], .bool false]) (by simp [results, Tryz.results25, go_sem]) rfl ⟨0, none, 0, 0, by rw [show (decide (op = 9 ∧ A = 1)) = false from (by (try simp only [beq_eq_false_iff_ne, ne_eq, beq_iff_eq, bne_iff_ne, bne_eq_false_iff_eq] at *); exact decide_eq_false (by omega))], (by repeat' (first | exact HBW.out | refine Below.alloc ?_ (by simp; try omega) _))⟩)
    | (go_at_call 44; refine Calls.mono (l15Kid_any _ _) ?_; rintro e w5 ⟨k5, va5, vn5, vc5, rfl, hb5⟩; skip; have X5 : Bz w5 (w.heap.size + 1) #[Value.int .i64 0, Value.slice none 0 0] 53 := (by first | exact bzr.later hb5 | exact bzr5.later hb5); have BE : Hid (Below w.heap.size w w5) := Below.trans (by repeat' (first | exact HBW.out | refine Below.alloc ?_ (by simp; try omega) _)) (hb5.mono (by simp; try omega)); have e0 := X5.cell 0; have e1 := X5.cell 1; have f0 := X5.froz 0; have f1 := X5.froz 1; simp at e0 e1; have y9 := (X5.set 0 (Value.int .i64 k5)).set 1 (Value.slice va5 vn5 vc5); have y0 := y9.cell 0; have y1 := y9.cell 1; have Y0 := kide y0; have Y1 := kide y1; clear y0 y1 y9 hb5 X5; go_wp2_with fail; have y0 := Y0.out; have y1 := Y1.out; exact bodyPost_ret (v := .tuple #[.agg #[.int .i64 k5, .slice va5 vn5 vc5], .bool true]) (by simp [results, Tryz.results25, go_sem, y0, y1]) rfl ⟨k5, va5, vn5, vc5, by rw [show (decide (op = 9 ∧ A = 1)) = true from (by (try simp only [beq_eq_false_iff_ne, ne_eq, beq_iff_eq, bne_iff_ne, bne_eq_false_iff_eq] at *); exact decide_eq_true (by omega))], (BE.out.setCell (p := ⟨w.heap.size + 1, 0, none⟩) (by simp) _).setCell (p := ⟨w.heap.size + 1, 1, none⟩) (by simp) _⟩)

end Go.Proofs.YtdlmgndmfphneaaGreatDoor

/- The given specification's l15Fit: rule 9, no cat. -/
namespace Go.Proofs.YtdlmgndmfphneaaGreatDoor
set_option linter.unusedVariables false
set_option linter.unusedSimpArgs false
open Go.RowKit

set_option maxHeartbeats 4000000 in
set_option maxRecDepth 100000 in
theorem I9a (tb to xb xo kb ko kc c c2 N p j wn wc kn ywn ywc ykn ykc : Nat) (wa ywa yka : Option Addr) (op vr A B bw W yop yvr yA yB ybw : Int) (w : World) (ks : List Int) (P : Int → Bool) (i0 : (p : Int) < (N : Int)) (i1 : (j : Int) < (N : Int)) (i2 : ((kn : Int) == 0) = false) (i3 : (0 : Int) < (kn : Int)) (w1 : Hid (1 ≤ W ∧ W ≤ 4096)) (hwr : wrap64 (W - 1) = W - 1) (hW0 : ¬ W = 0) (l0 : tb < w.heap.size) (l1 : kb < w.heap.size) (l2 : xb < w.heap.size) (p0 : w.cell? ⟨tb, to + p * 7, none⟩ = some (.int .i64 op)) (p1 : w.cell? ⟨tb, to + p * 7 + 1, none⟩ = some (.int .i64 vr)) (p2 : w.cell? ⟨tb, to + p * 7 + 2, none⟩ = some (.int .i64 A)) (p3 : w.cell? ⟨tb, to + p * 7 + 3, none⟩ = some (.int .i64 B)) (p4 : w.cell? ⟨tb, to + p * 7 + 4, none⟩ = some (.int .i64 bw)) (p5 : w.cell? ⟨tb, to + p * 7 + 5, none⟩ = some (.slice wa wn wc)) (p6 : w.cell? ⟨tb, to + p * 7 + 6, none⟩ = some (.slice (some ⟨kb, ko, none⟩) kn kc)) (k0 : w.cell? ⟨kb, ko, none⟩ = some (.int .i64 (j : Int))) (q0 : w.cell? ⟨tb, to + j * 7, none⟩ = some (.int .i64 yop)) (q1 : w.cell? ⟨tb, to + j * 7 + 1, none⟩ = some (.int .i64 yvr)) (q2 : w.cell? ⟨tb, to + j * 7 + 2, none⟩ = some (.int .i64 yA)) (q3 : w.cell? ⟨tb, to + j * 7 + 3, none⟩ = some (.int .i64 yB)) (q4 : w.cell? ⟨tb, to + j * 7 + 4, none⟩ = some (.int .i64 ybw)) (q5 : w.cell? ⟨tb, to + j * 7 + 5, none⟩ = some (.slice ywa ywn ywc)) (q6 : w.cell? ⟨tb, to + j * 7 + 6, none⟩ = some (.slice yka ykn ykc)) (x0 : w.cell? ⟨xb, xo + j, none⟩ = some (.int .i64 W)) (h7 : op = 7) : Calls Tryz.prog 25 #[.agg #[.slice (some ⟨tb, to, none⟩) N c2], .slice (some ⟨xb, xo, none⟩) N c, .int .i64 (p : Int), .int .i64 9] w (RetN w ((decide (op = 3) && ks.any P))) := by
  have l0a : tb < w.heap.size + 1 := by omega
  have l0b : tb < w.heap.size + 1 + 1 := by omega
  have l0c : tb < w.heap.size + 1 + 1 + 1 := by omega
  have l0d : tb < w.heap.size + 1 + 1 + 1 + 1 := by omega
  have l1a : kb < w.heap.size + 1 := by omega
  have l1b : kb < w.heap.size + 1 + 1 := by omega
  have l1c : kb < w.heap.size + 1 + 1 + 1 := by omega
  have l1d : kb < w.heap.size + 1 + 1 + 1 + 1 := by omega
  have l2a : xb < w.heap.size + 1 := by omega
  have l2b : xb < w.heap.size + 1 + 1 := by omega
  have l2c : xb < w.heap.size + 1 + 1 + 1 := by omega
  have l2d : xb < w.heap.size + 1 + 1 + 1 + 1 := by omega
  subst h7
  have HBW := kide (Below.refl w.heap.size w)
  go_enter Tryz.func25, Tryz.ntmps25
  go_wp2_with fail
  all_goals try first
    | (exact bodyPost_ret (v := .tuple #[.agg #[.int .i64 0, .slice none 0 0], .bool false]) (by simp [results, Tryz.results25, go_sem]) rfl ⟨0, none, 0, 0, by rw [show ((decide (op = 3) && ks.any P)) = false from rfl], (by repeat' (first | exact HBW.out | refine Below.alloc ?_ (by simp; try omega) _))⟩)
  have XR : Hid (Bz ((((w.alloc (Obj.cells #[Value.slice (some ⟨tb, to, none⟩) N c2] 34)).alloc (Obj.cells #[Value.int .i64 0, Value.slice none 0 0] 53)).alloc (Obj.cells #[Value.int .i64 7, Value.int .i64 vr, Value.int .i64 A, Value.int .i64 B, Value.int .i64 bw, Value.slice wa wn wc, Value.slice (some ⟨kb, ko, none⟩) kn kc] 63)).alloc (Obj.cells #[Value.int .i64 yop, Value.int .i64 yvr, Value.int .i64 yA, Value.int .i64 yB, Value.int .i64 ybw, Value.slice ywa ywn ywc, Value.slice yka ykn ykc] 63)) (w.heap.size + 1) #[Value.int .i64 0, Value.slice none 0 0] 53) := bzr
  have X2 : Hid (Bz ((((w.alloc (Obj.cells #[Value.slice (some ⟨tb, to, none⟩) N c2] 34)).alloc (Obj.cells #[Value.int .i64 0, Value.slice none 0 0] 53)).alloc (Obj.cells #[Value.int .i64 7, Value.int .i64 vr, Value.int .i64 A, Value.int .i64 B, Value.int .i64 bw, Value.slice wa wn wc, Value.slice (some ⟨kb, ko, none⟩) kn kc] 63)).alloc (Obj.cells #[Value.int .i64 yop, Value.int .i64 yvr, Value.int .i64 yA, Value.int .i64 yB, Value.int .i64 ybw, Value.slice ywa ywn ywc, Value.slice yka ykn ykc] 63)) (w.heap.size + 1 + 1) #[Value.int .i64 7, Value.int .i64 vr, Value.int .i64 A, Value.int .i64 B, Value.int .i64 bw, Value.slice wa wn wc, Value.slice (some ⟨kb, ko, none⟩) kn kc] 63) := by
    have h9 := Bz.new ((w.alloc (Obj.cells #[Value.slice (some ⟨tb, to, none⟩) N c2] 34)).alloc (Obj.cells #[Value.int .i64 0, Value.slice none 0 0] 53)) #[Value.int .i64 7, Value.int .i64 vr, Value.int .i64 A, Value.int .i64 B, Value.int .i64 bw, Value.slice wa wn wc, Value.slice (some ⟨kb, ko, none⟩) kn kc] 63
    rw [show ((w.alloc (Obj.cells #[Value.slice (some ⟨tb, to, none⟩) N c2] 34)).alloc (Obj.cells #[Value.int .i64 0, Value.slice none 0 0] 53)).heap.size = w.heap.size + 1 + 1 by simp] at h9
    exact h9.later ((Below.refl _ _).alloc (Nat.le_refl _) _)
  have X3 : Hid (Bz ((((w.alloc (Obj.cells #[Value.slice (some ⟨tb, to, none⟩) N c2] 34)).alloc (Obj.cells #[Value.int .i64 0, Value.slice none 0 0] 53)).alloc (Obj.cells #[Value.int .i64 7, Value.int .i64 vr, Value.int .i64 A, Value.int .i64 B, Value.int .i64 bw, Value.slice wa wn wc, Value.slice (some ⟨kb, ko, none⟩) kn kc] 63)).alloc (Obj.cells #[Value.int .i64 yop, Value.int .i64 yvr, Value.int .i64 yA, Value.int .i64 yB, Value.int .i64 ybw, Value.slice ywa ywn ywc, Value.slice yka ykn ykc] 63)) (w.heap.size + 1 + 1 + 1) #[Value.int .i64 yop, Value.int .i64 yvr, Value.int .i64 yA, Value.int .i64 yB, Value.int .i64 ybw, Value.slice ywa ywn ywc, Value.slice yka ykn ykc] 63) := by
    have h9 := Bz.new (((w.alloc (Obj.cells #[Value.slice (some ⟨tb, to, none⟩) N c2] 34)).alloc (Obj.cells #[Value.int .i64 0, Value.slice none 0 0] 53)).alloc (Obj.cells #[Value.int .i64 7, Value.int .i64 vr, Value.int .i64 A, Value.int .i64 B, Value.int .i64 bw, Value.slice wa wn wc, Value.slice (some ⟨kb, ko, none⟩) kn kc] 63)) #[Value.int .i64 yop, Value.int .i64 yvr, Value.int .i64 yA, Value.int .i64 yB, Value.int .i64 ybw, Value.slice ywa ywn ywc, Value.slice yka ykn ykc] 63
    rw [show (((w.alloc (Obj.cells #[Value.slice (some ⟨tb, to, none⟩) N c2] 34)).alloc (Obj.cells #[Value.int .i64 0, Value.slice none 0 0] 53)).alloc (Obj.cells #[Value.int .i64 7, Value.int .i64 vr, Value.int .i64 A, Value.int .i64 B, Value.int .i64 bw, Value.slice wa wn wc, Value.slice (some ⟨kb, ko, none⟩) kn kc] 63)).heap.size = w.heap.size + 1 + 1 + 1 by simp] at h9
    exact h9
  have B4 : Hid (Below w.heap.size w ((((w.alloc (Obj.cells #[Value.slice (some ⟨tb, to, none⟩) N c2] 34)).alloc (Obj.cells #[Value.int .i64 0, Value.slice none 0 0] 53)).alloc (Obj.cells #[Value.int .i64 7, Value.int .i64 vr, Value.int .i64 A, Value.int .i64 B, Value.int .i64 bw, Value.slice wa wn wc, Value.slice (some ⟨kb, ko, none⟩) kn kc] 63)).alloc (Obj.cells #[Value.int .i64 yop, Value.int .i64 yvr, Value.int .i64 yA, Value.int .i64 yB, Value.int .i64 ybw, Value.slice ywa ywn ywc, Value.slice yka ykn ykc] 63))) := (by repeat' (first | exact HBW.out | refine Below.alloc ?_ (by simp; try omega) _))
  generalize ((((w.alloc (Obj.cells #[Value.slice (some ⟨tb, to, none⟩) N c2] 34)).alloc (Obj.cells #[Value.int .i64 0, Value.slice none 0 0] 53)).alloc (Obj.cells #[Value.int .i64 7, Value.int .i64 vr, Value.int .i64 A, Value.int .i64 B, Value.int .i64 bw, Value.slice wa wn wc, Value.slice (some ⟨kb, ko, none⟩) kn kc] 63)).alloc (Obj.cells #[Value.int .i64 yop, Value.int .i64 yvr, Value.int .i64 yA, Value.int .i64 yB, Value.int .i64 ybw, Value.slice ywa ywn ywc, Value.slice yka ykn ykc] 63)) = W4 at *
  obtain ⟨b1, hb1⟩ : ∃ b, w.heap.size + 1 = b := ⟨_, rfl⟩
  obtain ⟨b2, hb2⟩ : ∃ b, b1 + 1 = b := ⟨_, rfl⟩
  obtain ⟨b3, hb3⟩ : ∃ b, b2 + 1 = b := ⟨_, rfl⟩
  have HL1 : Hid (w.heap.size ≤ b1) := (by show _ ≤ _; omega)
  rw [hb1] at XR
  rw [hb1, hb2] at X2
  rw [hb1, hb2, hb3] at X3
  try simp only [hb1, hb2, hb3]
  have HN3 : Hid (decide ((7 : Int) = 3) = false) := (by show _ = _; first | (simp [*]; done) | (simpa using h3))
  have n0 := X2.out.cell 0
  simp at n0
  have ln := X2.out.lt
  go_loopw [19] (fun i wr => i = .int .i64 0 ∧ wr = W4) (fun _ _ => 0)
  case atStart => exact ⟨rfl, rfl⟩
  case round =>
    obtain ⟨rfl, hwe⟩ := hrel
    subst hwe
    have e0 := XR.out.cell 0
    have e1 := XR.out.cell 1
    have f0 := XR.out.froz 0
    have f1 := XR.out.froz 1
    simp at e0 e1
    have y9 := (XR.out.set 0 (Value.int .i64 0)).set 1 (Value.slice none 0 0)
    have Y0 := kide (y9.cell 0)
    have Y1 := kide (y9.cell 1)
    have BE : Hid (Below w.heap.size w ((wr.setCell ⟨b1, 0, none⟩ (Value.int .i64 0)).setCell ⟨b1, 1, none⟩ (Value.slice none 0 0))) := (B4.out.setCell (p := ⟨b1, 0, none⟩) HL1.out _).setCell (p := ⟨b1, 1, none⟩) HL1.out _
    clear y9
    go_wp2_with fail
    have y0 := Y0.out
    have y1 := Y1.out
    simp at y0 y1
    exact bodyPost_ret (v := .tuple #[.agg #[.int .i64 0, .slice none 0 0], .bool false]) (by simp [results, Tryz.results25, go_sem, y0, y1]) rfl ⟨0, none, 0, 0, (by first | (rw [HN3.out]; simp) | simp), BE.out⟩

end Go.Proofs.YtdlmgndmfphneaaGreatDoor

/- The given specification's l15Fit: rule 10. -/
namespace Go.Proofs.YtdlmgndmfphneaaGreatDoor
set_option linter.unusedVariables false
set_option linter.unusedSimpArgs false
open Go.RowKit

theorem bzr3 {w : World} {o1 o3 : Obj} : Bz (((w.alloc o1).alloc (Obj.cells #[Value.int .i64 0, Value.slice none 0 0] 53)).alloc o3) (w.heap.size + 1) #[Value.int .i64 0, Value.slice none 0 0] 53 := by
  have h9 := Bz.new (w.alloc o1) #[Value.int .i64 0, Value.slice none 0 0] 53
  rw [show (w.alloc o1).heap.size = w.heap.size + 1 by simp] at h9
  exact h9.later ((Below.refl _ _).alloc (Nat.le_refl _) _)

set_option maxHeartbeats 4000000 in
set_option maxRecDepth 100000 in
theorem I10 (tb to kc c c2 N M p wn wc kn : Nat) (xa wa ka : Option Addr) (op vr A B bw : Int) (Z : Bool) (w : World) (i0 : (p : Int) < (N : Int)) (l0 : tb < w.heap.size) (p0 : w.cell? ⟨tb, to + p * 7, none⟩ = some (.int .i64 op)) (p1 : w.cell? ⟨tb, to + p * 7 + 1, none⟩ = some (.int .i64 vr)) (p2 : w.cell? ⟨tb, to + p * 7 + 2, none⟩ = some (.int .i64 A)) (p3 : w.cell? ⟨tb, to + p * 7 + 3, none⟩ = some (.int .i64 B)) (p4 : w.cell? ⟨tb, to + p * 7 + 4, none⟩ = some (.int .i64 bw)) (p5 : w.cell? ⟨tb, to + p * 7 + 5, none⟩ = some (.slice wa wn wc)) (p6 : w.cell? ⟨tb, to + p * 7 + 6, none⟩ = some (.slice ka kn kc)) (HCO : Hid (∀ u, Below w.heap.size w u → Calls Tryz.prog 43 #[.agg #[.slice (some ⟨tb, to, none⟩) N c2], .agg #[.int .i64 op, .int .i64 vr, .int .i64 A, .int .i64 B, .int .i64 bw, .slice wa wn wc, .slice ka kn kc]] u (RetN u Z))) : Calls Tryz.prog 25 #[.agg #[.slice (some ⟨tb, to, none⟩) N c2], .slice xa M c, .int .i64 (p : Int), .int .i64 10] w (RetN w Z) := by
  have HBW := kide (Below.refl w.heap.size w)
  have l0a : tb < w.heap.size + 1 := by omega
  have l0b : tb < w.heap.size + 1 + 1 := by omega
  go_enter Tryz.func25, Tryz.ntmps25
  go_wp2_with fail
  refine Calls.mono (HCO.out _ (by repeat' (first | exact HBW.out | refine Below.alloc ?_ (by simp; try omega) _))) ?_
  rintro e w5 ⟨k5, va5, vn5, vc5, rfl, hb5⟩
  have BE : Hid (Below w.heap.size w w5) := Below.trans (by repeat' (first | exact HBW.out | refine Below.alloc ?_ (by simp; try omega) _)) (hb5.mono (by simp; try omega))
  have X5 : Bz w5 (w.heap.size + 1) #[Value.int .i64 0, Value.slice none 0 0] 53 := (bzr3 (w := w)).later hb5
  have e0 := X5.cell 0
  have e1 := X5.cell 1
  have f0 := X5.froz 0
  have f1 := X5.froz 1
  simp at e0 e1
  have y9 := (X5.set 0 (Value.int .i64 k5)).set 1 (Value.slice va5 vn5 vc5)
  have y0 := y9.cell 0
  have y1 := y9.cell 1
  have Y0 := kide y0
  have Y1 := kide y1
  clear y0 y1 y9 hb5 X5
  go_wp2_with fail
  have y0 := Y0.out
  have y1 := Y1.out
  exact bodyPost_ret (v := .tuple #[.agg #[.int .i64 k5, .slice va5 vn5 vc5], .bool Z]) (by simp [results, Tryz.results25, go_sem, y0, y1]) rfl ⟨k5, va5, vn5, vc5, rfl, (BE.out.setCell (p := ⟨w.heap.size + 1, 0, none⟩) (by simp) _).setCell (p := ⟨w.heap.size + 1, 1, none⟩) (by simp) _⟩

end Go.Proofs.YtdlmgndmfphneaaGreatDoor

/- The given specification's l15Fit: rule 11, no part. -/
namespace Go.Proofs.YtdlmgndmfphneaaGreatDoor
set_option linter.unusedVariables false
set_option linter.unusedSimpArgs false
open Go.RowKit

set_option maxHeartbeats 4000000 in
set_option maxRecDepth 100000 in
theorem I11n (tb to xb xo kb ko kc c c2 N p j wn wc kn ywn ywc ykn ykc : Nat) (wa ywa yka : Option Addr) (op vr A B bw W yop yvr yA yB ybw : Int) (w : World)  (i0 : (p : Int) < (N : Int)) (i1 : (j : Int) < (N : Int)) (i2 : ((kn : Int) == 0) = false) (i3 : (0 : Int) < (kn : Int)) (w1 : Hid (1 ≤ W ∧ W ≤ 4096)) (hwr : wrap64 (W - 1) = W - 1) (hW0 : ¬ W = 0) (l0 : tb < w.heap.size) (l1 : kb < w.heap.size) (l2 : xb < w.heap.size) (p0 : w.cell? ⟨tb, to + p * 7, none⟩ = some (.int .i64 op)) (p1 : w.cell? ⟨tb, to + p * 7 + 1, none⟩ = some (.int .i64 vr)) (p2 : w.cell? ⟨tb, to + p * 7 + 2, none⟩ = some (.int .i64 A)) (p3 : w.cell? ⟨tb, to + p * 7 + 3, none⟩ = some (.int .i64 B)) (p4 : w.cell? ⟨tb, to + p * 7 + 4, none⟩ = some (.int .i64 bw)) (p5 : w.cell? ⟨tb, to + p * 7 + 5, none⟩ = some (.slice wa wn wc)) (p6 : w.cell? ⟨tb, to + p * 7 + 6, none⟩ = some (.slice (some ⟨kb, ko, none⟩) kn kc)) (k0 : w.cell? ⟨kb, ko, none⟩ = some (.int .i64 (j : Int))) (q0 : w.cell? ⟨tb, to + j * 7, none⟩ = some (.int .i64 yop)) (q1 : w.cell? ⟨tb, to + j * 7 + 1, none⟩ = some (.int .i64 yvr)) (q2 : w.cell? ⟨tb, to + j * 7 + 2, none⟩ = some (.int .i64 yA)) (q3 : w.cell? ⟨tb, to + j * 7 + 3, none⟩ = some (.int .i64 yB)) (q4 : w.cell? ⟨tb, to + j * 7 + 4, none⟩ = some (.int .i64 ybw)) (q5 : w.cell? ⟨tb, to + j * 7 + 5, none⟩ = some (.slice ywa ywn ywc)) (q6 : w.cell? ⟨tb, to + j * 7 + 6, none⟩ = some (.slice yka ykn ykc)) (x0 : w.cell? ⟨xb, xo + j, none⟩ = some (.int .i64 W)) (h4 : (op == 4) = false) : Calls Tryz.prog 25 #[.agg #[.slice (some ⟨tb, to, none⟩) N c2], .slice (some ⟨xb, xo, none⟩) N c, .int .i64 (p : Int), .int .i64 11] w (RetN w (false)) := by
  have l0a : tb < w.heap.size + 1 := by omega
  have l0b : tb < w.heap.size + 1 + 1 := by omega
  have l0c : tb < w.heap.size + 1 + 1 + 1 := by omega
  have l0d : tb < w.heap.size + 1 + 1 + 1 + 1 := by omega
  have l1a : kb < w.heap.size + 1 := by omega
  have l1b : kb < w.heap.size + 1 + 1 := by omega
  have l1c : kb < w.heap.size + 1 + 1 + 1 := by omega
  have l1d : kb < w.heap.size + 1 + 1 + 1 + 1 := by omega
  have l2a : xb < w.heap.size + 1 := by omega
  have l2b : xb < w.heap.size + 1 + 1 := by omega
  have l2c : xb < w.heap.size + 1 + 1 + 1 := by omega
  have l2d : xb < w.heap.size + 1 + 1 + 1 + 1 := by omega
  have HBW := kide (Below.refl w.heap.size w)
  go_enter Tryz.func25, Tryz.ntmps25
  go_wp2_with fail
  all_goals first
    | (exact bodyPost_ret (v := .tuple #[.agg #[.int .i64 0, .slice none 0 0], .bool false]) (by simp [results, Tryz.results25, go_sem]) rfl ⟨0, none, 0, 0, rfl, (by repeat' (first | exact HBW.out | refine Below.alloc ?_ (by simp; try omega) _))⟩)

end Go.Proofs.YtdlmgndmfphneaaGreatDoor
