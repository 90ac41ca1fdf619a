/- Several texts in one. -/
import Derived.Test.YtdlmgndmfphneaaGreatDoorZGAH
import Derived.Test.YtdlmgndmfphneaaGreatDoorZGAH
import Derived.Test.YtdlmgndmfphneaaGreatDoorZGAH
import Derived.Test.YtdlmgndmfphneaaGreatDoorZGAH
import Derived.Test.YtdlmgndmfphneaaGreatDoorZGAH
import Derived.Test.YtdlmgndmfphneaaGreatDoorZGAI
import Derived.Test.YtdlmgndmfphneaaGreatDoorZGAI
import Derived.Test.YtdlmgndmfphneaaGreatDoorZGAI
import Derived.Test.YtdlmgndmfphneaaGreatDoorZGAI
import Derived.Test.YtdlmgndmfphneaaGreatDoorZGAI
import Derived.Test.YtdlmgndmfphneaaGreatDoorRLI9
import Derived.Test.YtdlmgndmfphneaaGreatDoorZGAI
import Derived.Test.YtdlmgndmfphneaaGreatDoorZGAK
import Derived.Test.YtdlmgndmfphneaaGreatDoorZGAK
import Derived.Test.YtdlmgndmfphneaaGreatDoorZGAI
import Derived.Test.YtdlmgndmfphneaaGreatDoorZGAK
import Derived.Test.YtdlmgndmfphneaaGreatDoorZGAI
import Derived.Test.YtdlmgndmfphneaaGreatDoorZGAJ
import Derived.Test.YtdlmgndmfphneaaGreatDoorZGAN

/- What a rule makes of a node by the given specification: whether it fits. -/
namespace Go.Proofs.YtdlmgndmfphneaaGreatDoor
set_option linter.unusedVariables false
set_option linter.unusedSimpArgs false
open Go.RowKit

/-- A field that is not used is 0. -/
theorem right_a {ds : List Dc} {ns : List Tc} (h : ¬ (widthsR ds ns).length = 0) {p : Nat} {n : Tc} (hp : ns[p]? = some n) : n.a ≤ 4096 := by
  have hR := right_rn h hp
  obtain ⟨-, -, hx, hst⟩ := right_wd h
  have hs := hst p n hp
  have hpl : p < ns.length := (List.getElem?_eq_some_iff.1 hp).1
  unfold stepR at hs
  split at hs
  · rename_i hc
    simp only [Bool.and_eq_true] at hc
    have hf := hc.1.2
    unfold fieldR at hf
    by_cases h4 : 4 ≤ n.op
    · have hop := hR.op
      rcases (show n.op = 4 ∨ (n.op = 5 ∨ n.op = 6) ∨ (n.op = 7 ∨ n.op = 8) ∨ n.op = 9 by omega) with e | e | e | e
      · have := hR.part e
        have := (wd_nat hx (n.ks.getD 0 0).toNat).2
        unfold kW at *
        omega
      · exact (hR.wide e).2
      · exact (hR.turn e).2.1
      · exact (hR.rep e).2
    · have : ¬ (4 ≤ n.op ∧ n.op ≤ 9) := by omega
      simp [this] at hf
      omega
  · cases hs

theorem fit_zero {ns : List Tc} {wd : List Int} {p : Nat} {n : Tc} (hR : Rn ns wd p n) (hz : n.ks.length = 0) (r : Nat) : fitB ns wd n r = false := by
  have h3 : ¬ n.op = 3 := fun h => by have := hR.many h; omega
  have h4 : ¬ 4 ≤ n.op := fun h => by have := hR.one h; omega
  have e4 : ¬ n.op = 4 := by omega
  have e5 : ¬ n.op = 5 := by omega
  have e6 : ¬ n.op = 6 := by omega
  have e7 : ¬ n.op = 7 := by omega
  have e8 : ¬ n.op = 8 := by omega
  have e9 : ¬ n.op = 9 := by omega
  unfold fitB
  simp [e4, e5, e6, e7, e8, e9, h3, hz]

set_option maxHeartbeats 4000000 in
set_option maxRecDepth 100000 in
theorem l15Fit_any (tb to c c2 N p : Nat) (xa wa ka : Option Addr) (xs : List Tg) (wd : List Int) (op vr A B bw : Int) (ws : List Nat) (ks : List Int) (wc kc : Nat) (w : World)
    (hS : RdT w (some ⟨tb, to, none⟩) xs) (hx : RdI w xa wd) (hN : xs.length = N) (hp : xs[p]? = some ⟨⟨op, vr, A, B, bw, ws, ks⟩, wa, wc, ka, kc⟩) (hRn : ∀ q m, (xs.map Tg.ct)[q]? = some m → Rn (xs.map Tg.ct) wd q m) (hl : wd.length = xs.length) (hww : ∀ x ∈ wd, 1 ≤ x ∧ x ≤ 4096)
    (hkc : ∀ x ∈ xs, x.kc = x.ct.ks.length) (hA4 : A ≤ 4096) (hcon : op ≠ 1 → ∃ all, NodeAt [] all ⟨op, vr, A, B, bw, ws, ks⟩ ∧ ∀ (j : Nat) (m : Tc), j < p → (xs.map Tg.ct)[j]? = some m → m.op = 2 → all.getD j (0, []) = (m.bw, m.ws)) :
    ∀ k, k < 11 → Calls Tryz.prog 25 #[.agg #[.slice (some ⟨tb, to, none⟩) N c2], .slice xa N c, .int .i64 (p : Int), .int .i64 ((k + 1 : Nat) : Int)] w (RetN w (fitB (xs.map Tg.ct) wd ⟨op, vr, A, B, bw, ws, ks⟩ (k + 1))) := by
  intro k hk
  have hpl : p < xs.length := (List.getElem?_eq_some_iff.1 hp).1
  have hpn : (xs.map Tg.ct)[p]? = some ⟨op, vr, A, B, bw, ws, ks⟩ := by rw [List.getElem?_map, hp]; rfl
  have hR := hRn p _ hpn
  have hT : TgAt w tb (to + p * 7) ⟨⟨op, vr, A, B, bw, ws, ks⟩, wa, wc, ka, kc⟩ := by
    rcases hS.2 with h0 | ⟨b, o, e, hc⟩
    · rw [h0] at hpl; simp at hpl
    · cases e; exact hc p _ hp
  obtain ⟨⟨p0, p1, p2, p3, p4, p5, p6⟩, pr, pk, hi64⟩ := hT
  simp only [Tg.hd] at p0 p1 p2 p3 p4 p5 p6 pr pk hi64
  have i0 : (p : Int) < (N : Int) := by omega
  have l0 : tb < w.heap.size := block_lt_of_cell p0
  by_cases hz : ks.length = 0
  · rw [fit_zero hR hz]
    by_cases hk9 : k = 9
    · subst hk9
      have hco := l15Const_zero (some ⟨tb, to, none⟩) wa ka N c2 ws.length wc kc op vr A B bw
      exact I10 tb to kc c c2 N N p ws.length wc ks.length xa wa ka op vr A B bw false w i0 l0 p0 p1 p2 p3 p4 p5 p6 (fun u hu => by rw [hz]; exact hco u)
    · exact I0 tb to kc c c2 N N p ws.length wc ks.length xa wa ka op vr A B bw _ w i0 (by rw [hz]; rfl) (by simp; omega) l0 p0 p1 p2 p3 p4 p5 p6
  have hSi : Si w (some ⟨tb, to, none⟩) xa ka xs wd p ⟨op, vr, A, B, bw, ws, ks⟩ := ⟨hS, hx, pk, hpn, hR, hl, hww⟩
  obtain ⟨kb, ko, j, rfl, k0, hj, hjp⟩ := hSi.kid (i := 0) (by simp only []; omega)
  obtain ⟨b9, o9, ⟨⟨yop, yvr, yA, yB, ybw, yws, yks⟩, ywa, ywc, yka, ykc⟩, e9, hy, ⟨⟨q0, q1, q2, q3, q4, q5, q6⟩, qr, qk, -⟩⟩ := hSi.node (k := j) (by omega)
  cases e9
  obtain ⟨xb, xo, rfl, x0⟩ := hSi.wid (k := j) (by omega)
  simp only [Tg.hd] at q0 q1 q2 q3 q4 q5 q6 qr qk hj
  rw [Nat.add_zero] at k0
  have hyn : (xs.map Tg.ct)[j]? = some ⟨yop, yvr, yA, yB, ybw, yws, yks⟩ := by rw [List.getElem?_map, hy]; rfl
  have hRy := hRn j _ hyn
  have hkW : kW wd ⟨op, vr, A, B, bw, ws, ks⟩ = wd.getD j 0 := by unfold kW; simp only [hj, Int.toNat_natCast]
  have hkO : kO (xs.map Tg.ct) (ks.getD 0 0) = yop := by rw [hj]; exact (kO_at hy).1
  have hkK : kK (xs.map Tg.ct) (ks.getD 0 0) = yks := by rw [hj]; exact (kO_at hy).2
  have hWr := wd_pos hww (i := j) (by omega)
  have i1 : (j : Int) < (N : Int) := by omega
  have i2 : ((ks.length : Int) == 0) = false := beq_eq_false_iff_ne.2 (by omega)
  have i3 : (0 : Int) < (ks.length : Int) := by omega
  have w1 : Hid (1 ≤ wd.getD j 0 ∧ wd.getD j 0 ≤ 4096) := hWr
  have hwr : wrap64 (wd.getD j 0 - 1) = wd.getD j 0 - 1 := by generalize wd.getD j 0 = q at *; unfold wrap64; omega
  have hW0 : ¬ wd.getD j 0 = 0 := by omega
  have l1 : kb < w.heap.size := block_lt_of_cell k0
  have l2 : xb < w.heap.size := block_lt_of_cell x0
  match k, hk with
  | 0, _ =>
    show Calls _ _ _ _ (RetN w (fitB _ _ _ 1))
    rw [fit1]
    simp only [hkW]
    exact fit1_flat tb to xb xo kb ko kc c c2 N p j ws.length wc ks.length yws.length ywc yks.length ykc wa ywa yka op vr A B bw (wd.getD j 0) yop yvr yA yB ybw w i0 i1 i2 i3 w1 hwr hW0 l0 l1 l2 p0 p1 p2 p3 p4 p5 p6 k0 q0 q1 q2 q3 q4 q5 q6 x0
  | 2, _ =>
    show Calls _ _ _ _ (RetN w (fitB _ _ _ 3))
    rw [fit3]
    simp only [hkW]
    exact fit3_flat tb to xb xo kb ko kc c c2 N p j ws.length wc ks.length yws.length ywc yks.length ykc wa ywa yka op vr A B bw (wd.getD j 0) yop yvr yA yB ybw w i0 i1 i2 i3 w1 hwr hW0 l0 l1 l2 p0 p1 p2 p3 p4 p5 p6 k0 q0 q1 q2 q3 q4 q5 q6 x0
  | 3, _ =>
    show Calls _ _ _ _ (RetN w (fitB _ _ _ 4))
    rw [fit4]
    simp only [hkW]
    exact fit4_flat tb to xb xo kb ko kc c c2 N p j ws.length wc ks.length yws.length ywc yks.length ykc wa ywa yka op vr A B bw (wd.getD j 0) yop yvr yA yB ybw w i0 i1 i2 i3 w1 hwr hW0 l0 l1 l2 p0 p1 p2 p3 p4 p5 p6 k0 q0 q1 q2 q3 q4 q5 q6 x0
  | 4, _ =>
    show Calls _ _ _ _ (RetN w (fitB _ _ _ 5))
    rw [fit5]
    exact fit5_flat tb to xb xo kb ko kc c c2 N p j ws.length wc ks.length yws.length ywc yks.length ykc wa ywa yka op vr A B bw (wd.getD j 0) yop yvr yA yB ybw w i0 i1 i2 i3 w1 hwr hW0 l0 l1 l2 p0 p1 p2 p3 p4 p5 p6 k0 q0 q1 q2 q3 q4 q5 q6 x0
  | 7, _ =>
    show Calls _ _ _ _ (RetN w (fitB _ _ _ 8))
    rw [fit8]
    exact fit8_flat tb to xb xo kb ko kc c c2 N p j ws.length wc ks.length yws.length ywc yks.length ykc wa ywa yka op vr A B bw (wd.getD j 0) yop yvr yA yB ybw w i0 i1 i2 i3 w1 hwr hW0 l0 l1 l2 p0 p1 p2 p3 p4 p5 p6 k0 q0 q1 q2 q3 q4 q5 q6 x0
  | 1, _ =>
    show Calls _ _ _ _ (RetN w (fitB _ _ _ 2))
    rw [fit2]
    simp only [hkO]
    by_cases hy4 : yop = 4
    · subst hy4
      have h1 := hRy.one (by simp)
      simp only [] at h1
      obtain ⟨-, -, h9 | ⟨yb, yo, rfl, hyc⟩⟩ := qk
      · rw [h9] at h1; simp at h1
      have r0 := hyc 0 (by omega)
      rw [Nat.add_zero] at r0
      have h := I2 tb to xb xo kb ko kc c c2 N p j ws.length wc ks.length yws.length ywc yks.length ykc wa ywa (some ⟨yb, yo, none⟩) op vr A B bw (wd.getD j 0) 4 yvr yA yB ybw w yb yo _ i0 i1 i2 i3 w1 hwr hW0 l0 l1 l2 p0 p1 p2 p3 p4 p5 p6 k0 q0 q1 q2 q3 q4 q5 q6 x0 rfl rfl h1 (block_lt_of_cell r0) r0
      simpa using h
    · exact I2n tb to xb xo kb ko kc c c2 N p j ws.length wc ks.length yws.length ywc yks.length ykc wa ywa yka op vr A B bw (wd.getD j 0) yop yvr yA yB ybw w i0 i1 i2 i3 w1 hwr hW0 l0 l1 l2 p0 p1 p2 p3 p4 p5 p6 k0 q0 q1 q2 q3 q4 q5 q6 x0 hy4
  | 5, _ =>
    show Calls _ _ _ _ (RetN w (fitB _ _ _ 6))
    rw [fit6]
    exact I6 tb to xb xo kb ko kc c c2 N p j ws.length wc ks.length yws.length ywc yks.length ykc wa ywa yka op vr A B bw (wd.getD j 0) yop yvr yA yB ybw w i0 i1 i2 i3 w1 hwr hW0 l0 l1 l2 p0 p1 p2 p3 p4 p5 p6 k0 q0 q1 q2 q3 q4 q5 q6 x0 (fun u hu => ((specOf_any A 0 u (by omega)).mono fun e w' h => by
      obtain ⟨a9, c9, rfl, -, hb⟩ := h
      exact ⟨_, a9, _, c9, _, rfl, hb⟩))
  | 6, _ =>
    show Calls _ _ _ _ (RetN w (fitB _ _ _ 7))
    rw [fit7]
    exact I7 tb to xb xo kb ko kc c c2 N p j ws.length wc ks.length yws.length ywc yks.length ykc wa ywa yka op vr A B bw (wd.getD j 0) yop yvr yA yB ybw w i0 i1 i2 i3 w1 hwr hW0 l0 l1 l2 p0 p1 p2 p3 p4 p5 p6 k0 q0 q1 q2 q3 q4 q5 q6 x0 hA4
  | 8, _ =>
    show Calls _ _ _ _ (RetN w (fitB _ _ _ 9))
    rw [fit9]
    have HP9 : Hid (∀ k ∈ ks, ∃ (z : Nat) (zk : Option Addr) (zc : Nat) (zs : List Int) (zop : Int), k = (z : Int) ∧ z < N ∧ w.cell? ⟨tb, to + z * 7, none⟩ = some (.int .i64 zop) ∧ w.cell? ⟨tb, to + z * 7 + 6, none⟩ = some (.slice zk zs.length zc) ∧ RdI w zk zs ∧ zs.length ≤ 4096 ∧ decide (kO (xs.map Tg.ct) k = 3) = (zop == 3) ∧ (zk = none → zc = 0)) := fun k hk => by
      have h1 := hR.kid k hk
      obtain ⟨z, rfl⟩ : ∃ z : Nat, k = (z : Int) := ⟨k.toNat, by omega⟩
      obtain ⟨b8, o8, ⟨⟨zop, zvr, zA, zB, zbw, zws, zks⟩, zwa, zwc, zka, zkc⟩, e8, hzx, ⟨⟨r0, r1, r2, r3, r4, r5, r6⟩, -, rk, -⟩⟩ := hSi.node (k := z) (by omega)
      cases e8
      simp only [Tg.hd] at r0 r6 rk
      have hzn : (xs.map Tg.ct)[z]? = some ⟨zop, zvr, zA, zB, zbw, zws, zks⟩ := by rw [List.getElem?_map, hzx]; rfl
      have h2 := (hRn z _ hzn).len
      have h3 := hkc _ (List.mem_of_getElem? hzx)
      simp only [] at h2 h3
      refine ⟨z, zka, zkc, zks, zop, rfl, by omega, r0, r6, rk, h2, ?_, fun e => ?_⟩
      · rw [(kO_at hzx).1]
        by_cases h : zop = 3 <;> simp [h]
      · rw [h3]
        rcases rk.2.2 with h | ⟨b, o, e', -⟩
        · rw [h]; rfl
        · rw [e] at e'; cases e'
    have h3 := hkc _ (List.mem_of_getElem? hp)
    simp only [] at h3
    by_cases ho3 : op = 3
    · exact I9 tb to xb xo kb ko kc c c2 N p j ws.length wc ks.length yws.length ywc yks.length ykc wa ywa yka op vr A B bw (wd.getD j 0) yop yvr yA yB ybw w ks (fun k => decide (kO (xs.map Tg.ct) k = 3)) i0 i1 i2 i3 w1 hwr hW0 l0 l1 l2 p0 p1 p2 p3 p4 p5 p6 k0 q0 q1 q2 q3 q4 q5 q6 x0 ho3 (show (_ : Int) ≤ _ by omega) pk rfl HP9
    · by_cases ho7 : op = 7
      · exact I9a tb to xb xo kb ko kc c c2 N p j ws.length wc ks.length yws.length ywc yks.length ykc wa ywa yka op vr A B bw (wd.getD j 0) yop yvr yA yB ybw w ks (fun k => decide (kO (xs.map Tg.ct) k = 3)) i0 i1 i2 i3 w1 hwr hW0 l0 l1 l2 p0 p1 p2 p3 p4 p5 p6 k0 q0 q1 q2 q3 q4 q5 q6 x0 ho7
      · by_cases ho8 : op = 8
        · exact I9b tb to xb xo kb ko kc c c2 N p j ws.length wc ks.length yws.length ywc yks.length ykc wa ywa yka op vr A B bw (wd.getD j 0) yop yvr yA yB ybw w ks (fun k => decide (kO (xs.map Tg.ct) k = 3)) i0 i1 i2 i3 w1 hwr hW0 l0 l1 l2 p0 p1 p2 p3 p4 p5 p6 k0 q0 q1 q2 q3 q4 q5 q6 x0 ho8
        · exact I9c tb to xb xo kb ko kc c c2 N p j ws.length wc ks.length yws.length ywc yks.length ykc wa ywa yka op vr A B bw (wd.getD j 0) yop yvr yA yB ybw w ks (fun k => decide (kO (xs.map Tg.ct) k = 3)) i0 i1 i2 i3 w1 hwr hW0 l0 l1 l2 p0 p1 p2 p3 p4 p5 p6 k0 q0 q1 q2 q3 q4 q5 q6 x0 (by simpa using ho7) (by simpa using ho8) (by simpa using ho3)
  | 9, _ =>
    show Calls _ _ _ _ (RetN w (fitB _ _ _ 10))
    refine I10 tb to kc c c2 N N p ws.length wc ks.length _ wa _ op vr A B bw _ w i0 l0 p0 p1 p2 p3 p4 p5 p6 (fun u hu => ?_)
    exact l15Const_any tb to _ wa _ N c2 ws.length wc ks.length kc p op vr A B bw ws ks xs wd u (hSi.later hu) hN rfl rfl (by omega) (pr.later hu) hi64.2.2.1 hcon
  | 10, _ =>
    show Calls _ _ _ _ (RetN w (fitB _ _ _ 11))
    rw [fit11]
    simp only [hkO, hkK]
    by_cases ho4 : op = 4
    · have hpt := hR.part ho4
      simp only [] at hpt
      refine I11 tb to xb xo kb ko kc c c2 N p j ws.length wc ks.length yws.length ywc yks.length ykc wa ywa yka op vr A B bw (wd.getD j 0) yop yvr yA yB ybw w (innB wd B A yks.reverse 0) i0 i1 i2 i3 w1 hwr hW0 l0 l1 l2 p0 p1 p2 p3 p4 p5 p6 k0 q0 q1 q2 q3 q4 q5 q6 x0 (fun u hu => ?_)
      exact l15Inner_any ywa yka _ yop yvr yA yB ybw A B yws.length ywc ykc c yks wd yks.length N u (qk.later hu) rfl (hx.later hu) (by omega) hww (fun k hk => by have := hRy.kid k hk; omega) hRy.len hpt.1 hpt.2.1
    · have h := I11n tb to xb xo kb ko kc c c2 N p j ws.length wc ks.length yws.length ywc yks.length ykc wa ywa yka op vr A B bw (wd.getD j 0) yop yvr yA yB ybw w i0 i1 i2 i3 w1 hwr hW0 l0 l1 l2 p0 p1 p2 p3 p4 p5 p6 k0 q0 q1 q2 q3 q4 q5 q6 x0 (by simpa using ho4)
      simpa [ho4] using h
  | k + 11, h => exact absurd h (by omega)

end Go.Proofs.YtdlmgndmfphneaaGreatDoor

/- What the given specification's Rules answers. -/
namespace Go.Proofs.YtdlmgndmfphneaaGreatDoor
set_option linter.unusedVariables false
set_option linter.unusedSimpArgs false
open Go.RowKit

theorem OW.lowM {w : World} {B B' : Nat} {v : Value} {l : List Int} (h : OW w B v l) (hB : B' ≤ B) : OW w B' v l := by
  obtain ⟨h1, h2⟩ := h
  refine ⟨h1, ?_⟩
  rcases h2 with h2 | ⟨g, cap, cur, rfl, hg, hh, r⟩
  · exact .inl h2
  · exact .inr ⟨g, cap, cur, rfl, by omega, hh, r⟩

theorem wpList_appWm {w : World} {ops : Array Oper} {rest : List Oper} {o : Oper} {a : Act} {Q : Exit → Act → World → Prop} (hgd : o.guard = none) (s x : Operand)
    (ho : o.op = .call { callee := .builtin .append, args := #[s, x], argTypes := #[28, 28] })
    (B : Nat) (v : Value) (xs : List Int) (y : Int) (hs : a.eval s = v) (hown : OW w B v xs) (gx : Nat) (hx : a.eval x = .slice (some ⟨gx, 0, none⟩) 1 1)
    (h0 : w.cell? ⟨gx, 0, none⟩ = some (.int .i64 y)) (hl : xs.length ≤ 1073741824) (hB : B ≤ w.heap.size)
    (h : ∀ v' w', OW w' B v' (xs ++ [y]) → w.grownBy w' v.ownBlock → (v'.ownBlock = v.ownBlock ∨ v'.ownBlock = some w.heap.size) → wpList Tryz.prog ops Q rest (a.put o.dst v') w') : wpList Tryz.prog ops Q (o :: rest) a w := by
  obtain ⟨i0, hi, hz0, hz1, hz2⟩ := info_parts Tryz.infoI64
  refine wpList_append_own_at w hgd s x 28 ho B 2 i0 _ 1 8 Tryz.underlying28 hi hz0 hz1 hz2 rfl (by decide) v xs.length (xs.map (Value.int .i64)) hs hown ⟨gx, 0, none⟩ 1 1 [.int .i64 y] hx rfl ?_ ?_ (by unfold maxLen; omega) (by omega) hB ?_
  · intro j u hj
    rw [Addr.add_lit]
    match j, hj with
    | 0, hj => simp at hj; subst hj; exact h0
    | j + 1, hj => simp at hj
  · intro u hu
    simp at hu
    subst hu
    rfl
  · intro v' w' ho' hg _ hat
    refine h v' w' ?_ hg hat
    unfold OW
    rw [List.map_append, List.length_append]
    exact ho'

/-- What is no own row stays, of what was there. -/
def Kq (c0 : Nat) (w wr : World) : Prop := w.heap.size ≤ wr.heap.size ∧ ∀ b, b < w.heap.size → b ≠ c0 → wr.heap[b]? = w.heap[b]?
theorem Kq.rdI {c0 : Nat} {w wr : World} {a : Option Addr} {l : List Int} (h : Kq c0 w wr) (hr : RdI w a l) (ha : ∀ ad, a = some ad → ad.block ≠ c0) : RdI wr a l := by
  obtain ⟨h1, h2, h3⟩ := hr
  refine ⟨h1, h2, ?_⟩
  rcases h3 with h3 | ⟨b, o, rfl, hc⟩
  · exact .inl h3
  · refine .inr ⟨b, o, rfl, fun i hi => ?_⟩
    have hl := block_lt_of_cell (hc i hi)
    exact (World.cell?_of_block (a := ⟨b, o + i, none⟩) (h.2 b hl (ha _ rfl))).trans (hc i hi)
theorem Kq.later {c0 : Nat} {w u v : World} (h : Kq c0 w u) (hb : Below u.heap.size u v) : Kq c0 w v :=
  ⟨Nat.le_trans h.1 hb.size, fun b h1 h2 => (hb.block b (Nat.lt_of_lt_of_le h1 h.1)).trans (h.2 b h1 h2)⟩
theorem Kq.grown {c0 : Nat} {w u v : World} {o : Option Nat} (h : Kq c0 w u) (hg : u.grownBy v o) (ho : ∀ b, o = some b → b = c0 ∨ w.heap.size ≤ b) : Kq c0 w v :=
  ⟨Nat.le_trans h.1 hg.size, fun b h1 h2 => (hg.block b (Nat.lt_of_lt_of_le h1 h.1) (fun e => by rcases ho b e.symm with h3 | h3 <;> omega)).trans (h.2 b h1 h2)⟩
theorem Kq.bz {c0 : Nat} {w wr : World} {b : Nat} {cs : Array Value} {t : TypeId} (h : Kq c0 w wr) (hB : Bz w b cs t) (hb : b ≠ c0) : Bz wr b cs t := by
  unfold Bz at hB ⊢
  rw [h.2 b (Bz.lt hB) hb]
  exact hB

set_option maxHeartbeats 4000000 in
set_option maxRecDepth 100000 in
theorem specRules_any (a b : Option Addr) (c c2 n : Nat) (p : Int) (ds : List Dc) (xs : List Tg) (w : World) (hr : RdD w a ds) (hs : RdT w b xs) (hn : xs.length = n) (hkc : ∀ x ∈ xs, x.kc = x.ct.ks.length) :
    Calls Tryz.prog 7 #[.slice a ds.length c, .agg #[.slice b n c2], .int .i64 p] w fun e w' => ∃ v, e = .returned v ∧ OW w' (w.heap.size + 1) v (rulR ds (xs.map Tg.ct) p) ∧ Below w.heap.size w w' := by
  have HW := kide (fun u (hu : Below w.heap.size w u) => l3Widths_any a b c c2 n ds xs u (hr.later hu) (hs.later hu) hn)
  have hn2 : n ≤ 1048576 := by rw [← hn]; exact hs.1
  obtain ⟨nd, hnd⟩ : ∃ m, ds.length = m := ⟨_, rfl⟩
  have hbx : Below w.heap.size w ((w.alloc (.cells #[Value.slice b n c2] 34)).alloc (.cells #[] 2)) := ((Below.refl _ _).alloc (Nat.le_refl _) _).alloc (by simp) _
  have XT : Hid (Bz ((w.alloc (.cells #[Value.slice b n c2] 34)).alloc (.cells #[] 2)) w.heap.size #[Value.slice b n c2] 34) := (Bz.new w _ _).later ((Below.refl _ _).alloc (Nat.le_refl _) _)
  have O0 : Hid (OW ((w.alloc (.cells #[Value.slice b n c2] 34)).alloc (.cells #[] 2)) (w.heap.size + 1) (.slice (some ⟨w.heap.size + 1, 0, none⟩) 0 0) []) := by
    have h := OW.fresh (w.alloc (.cells #[Value.slice b n c2] 34)) (w.heap.size + 1) (by simp)
    rw [show (w.alloc (.cells #[Value.slice b n c2] 34)).heap.size = w.heap.size + 1 by simp] at h
    exact h
  have BX := kide hbx
  clear hbx
  by_cases h0 : (widthsR ds (xs.map Tg.ct)).length = 0
  · have hv : rulR ds (xs.map Tg.ct) p = [] := by
      unfold rulR
      rw [if_pos (.inl h0)]
    rw [hv]
    have HZ := kide (List.length_eq_zero_iff.1 h0)
    rw [HZ.out, hnd] at HW
    rw [hnd]
    clear hr hs hn hv h0 HZ hnd hkc hn2
    go_enter Tryz.func7, Tryz.ntmps7
    go_wp2_with fail
    generalize (w.alloc (.cells #[Value.slice b n c2] 34)).alloc (.cells #[] 2) = w1 at *
    refine Calls.mono (HW.out _ BX.out) ?_
    rintro e w2 ⟨v, rfl, ho, hb⟩
    obtain ⟨a2, k2, rfl, -⟩ := OW.rd ho (by simp) (by simp)
    have BY := kide (BX.out.trans (hb.mono BX.out.size))
    have OY := kide (O0.out.later hb)
    clear hb ho
    go_wp2_with fail
    go_ret
    exact ⟨_, rfl, OY.out, BY.out⟩
  · obtain ⟨hdc, hwl, hww, -⟩ := right_wd h0
    rw [List.length_map, hn] at hwl
    have hrn := fun j m (hj : (xs.map Tg.ct)[j]? = some m) => right_rn h0 hj
    have hn0 : 0 < n := by omega
    have e0 : ((n : Int) == 0) = false := beq_eq_false_iff_ne.2 (by omega)
    have hwx : Hid ((widthsR ds (xs.map Tg.ct)).length ≤ 1048576) := by show _ ≤ _; omega
    have hw64 : Hid (∀ x ∈ widthsR ds (xs.map Tg.ct), in64 x) := fun x hx => by have := hww x hx; unfold in64; omega
    by_cases hp : 0 ≤ p ∧ p < (n : Int)
    · obtain ⟨q, rfl⟩ : ∃ q : Nat, p = (q : Int) := ⟨p.toNat, by omega⟩
      have hq : q < n := by omega
      obtain ⟨⟨⟨op, vr, A, B, bw, ws, ks⟩, wa, wc, ka, kc⟩, hx⟩ : ∃ x, xs[q]? = some x := ⟨xs[q]'(by omega), List.getElem?_eq_getElem _⟩
      have hxn : (xs.map Tg.ct)[q]? = some ⟨op, vr, A, B, bw, ws, ks⟩ := by rw [List.getElem?_map, hx]; rfl
      have hv : rulR ds (xs.map Tg.ct) (q : Int) = fitL (xs.map Tg.ct) (widthsR ds (xs.map Tg.ct)) ⟨op, vr, A, B, bw, ws, ks⟩ 11 := by
        unfold rulR
        rw [if_neg (by rw [List.length_map, hn]; omega), Int.toNat_natCast, hxn]
      rw [hv]
      obtain ⟨tb, to, rfl⟩ : ∃ tb to, b = some ⟨tb, to, none⟩ := by
        rcases hs.2 with h | ⟨tb, to, e, -⟩
        · rw [h] at hx; simp at hx
        · exact ⟨tb, to, e⟩
      have hA4 : A ≤ 4096 := right_a h0 hxn
      have HFT := kide (fun (u : World) (xa : Option Addr) (c3 : Nat) (hu : Below w.heap.size w u) (hxa : RdI u xa (widthsR ds (xs.map Tg.ct))) => l15Fit_any tb to c3 c2 n q xa wa ka xs (widthsR ds (xs.map Tg.ct)) op vr A B bw ws ks wc kc u (hs.later hu) hxa hn hx hrn (by rw [hwl, hn]) hww hkc hA4 (fun h => con_at h0 hs.words hxn h))
      have hfit := fitL_len (xs.map Tg.ct) (widthsR ds (xs.map Tg.ct)) ⟨op, vr, A, B, bw, ws, ks⟩
      have HFL := kide hfit
      obtain ⟨F, hF⟩ : ∃ F, fitL (xs.map Tg.ct) (widthsR ds (xs.map Tg.ct)) ⟨op, vr, A, B, bw, ws, ks⟩ = F := ⟨_, rfl⟩
      obtain ⟨G, hG⟩ : ∃ G, fitB (xs.map Tg.ct) (widthsR ds (xs.map Tg.ct)) ⟨op, vr, A, B, bw, ws, ks⟩ = G := ⟨_, rfl⟩
      have HFS : Hid (∀ k, F (k + 1) = F k ++ (if G (k + 1) = true then [((k + 1 : Nat) : Int)] else [])) := fun k => by rw [← hF, ← hG]; rfl
      have HF0 : Hid (F 0 = []) := by show _ = _; rw [← hF]; rfl
      rw [hF] at HFL ⊢
      rw [hG] at HFT
      rw [hnd] at HW ⊢
      generalize widthsR ds (xs.map Tg.ct) = wd at *
      have HWL := kide hwl
      have i1 : (q : Int) < (n : Int) := by omega
      have hN1 : Hid (wrap64 ((n : Int) - 1) = (n : Int) - 1) := by show _ = _; unfold wrap64; omega
      have hin : Hid (decide ((0 : Int) ≤ (q : Int) ∧ (q : Int) ≤ (n : Int) - 1) = true) := by show _ = _; exact decide_eq_true (by omega)
      clear hr hs hn hkc hn2 hnd h0 hdc hwl hww hrn hp hq hx hxn hv hA4 hfit hF hG hn0
      go_enter Tryz.func7, Tryz.ntmps7
      go_wp2_with fail
      generalize (w.alloc (.cells #[Value.slice (some ⟨tb, to, none⟩) n c2] 34)).alloc (.cells #[] 2) = w1 at *
      refine Calls.mono (HW.out _ BX.out) ?_
      rintro e w2 ⟨v, rfl, ho, hb⟩
      obtain ⟨a2, k2, rfl, hrd⟩ := OW.rd ho hwx.out hw64.out
      rw [HWL.out]
      have BY := kide (BX.out.trans (hb.mono BX.out.size))
      have OY := kide (O0.out.later hb)
      have XY := kide (XT.out.later hb)
      have RY := kide hrd
      have HAB : Hid (∀ ad, a2 = some ad → ad.block ≠ w.heap.size + 1) := fun ad e => by
        subst e
        have h1 := (ho.lt (k := ad.block) rfl).1
        have h2 := O0.out.lt (k := w.heap.size + 1) rfl
        omega
      have y0 := XY.out.cell 0
      simp at y0
      have ly := XY.out.lt
      clear hb ho hrd
      go_wp2_with fail
      refine Calls.mono (l1In_any _ _ _ _) ?_
      rintro e w3 ⟨rfl, hw3⟩
      rw [hN1.out, hin.out]
      obtain rfl := hw3.symm
      clear y0 ly HW
      go_wp2_with fail
      have KQ0 : Hid (Kq (w.heap.size + 1) w2 w2) := ⟨Nat.le_refl _, fun _ _ _ => rfl⟩
      have HLW : Hid (w.heap.size + 1 ≤ w2.heap.size) := by
        have h2 := (OY.out.lt (k := w.heap.size + 1) rfl).2
        show _ ≤ _
        omega
      go_loopw [7, 9] (fun o q wr => ∃ k : Nat, k ≤ 11 ∧ q = .int .i64 ((k + 1 : Nat) : Int) ∧ OW wr (w.heap.size + 1) o (F k) ∧ Below w.heap.size w wr ∧ Kq (w.heap.size + 1) w2 wr ∧ (∀ b, o.ownBlock = some b → b = w.heap.size + 1 ∨ w2.heap.size ≤ b)) (fun _ q _ => 12 - (intOf q).toNat)
      case atStart => exact ⟨0, by omega, rfl, by rw [HF0.out]; exact OY.out, BY.out, KQ0.out, fun b h => by cases h; exact .inl rfl⟩
      case round =>
        obtain ⟨k, hk, rfl, hown, hb1, hkq, hob⟩ := hrel
        have HO := kide hown
        have HB1 := kide hb1
        have HKQ := kide hkq
        have HOB := kide hob
        have XK := kide (hkq.bz XY.out (by omega))
        have RK := kide (hkq.rdI RY.out HAB.out)
        clear hown hkq hob
        by_cases hlt : k < 11
        · have y0 := XK.out.cell 0
          simp at y0
          have ly := XK.out.lt
          have HCALL := kide (HFT.out wr a2 k2 hb1 RK.out k hlt)
          have HST := kide (HFS.out k)
          have HFK := kide (HFL.out k).1
          generalize G (k + 1) = bb at *
          have HK11 : Hid (k < 11) := hlt
          obtain ⟨k1, hk1⟩ : ∃ m : Int, ((k + 1 : Nat) : Int) = m := ⟨_, rfl⟩
          have HK1 := kide hk1
          have i9 : k1 ≤ 11 := by omega
          have HWR : Hid (wrap64 (k1 + 1) = ((k + 1 + 1 : Nat) : Int)) := by show _ = _; unfold wrap64; omega
          rw [hk1] at HCALL HST
          rw [hk1]
          clear hk1 hb1 hk hlt
          go_wp2_with fail
          refine Calls.mono HCALL.out ?_
          rintro e w3 ⟨k5, va5, vn5, vc5, rfl, hb3⟩
          have hbn : Below w3.heap.size w3 (w3.alloc (Obj.cells #[Value.int .i64 k5, Value.slice va5 vn5 vc5] 53)) := (Below.refl _ _).alloc (Nat.le_refl _) _
          have O4 := kide ((HO.out.later hb3).later hbn)
          have B3 := HB1.out.trans (hb3.mono HB1.out.size)
          have B4 := kide (B3.trans (hbn.mono B3.size))
          have K4 := kide ((HKQ.out.later hb3).later hbn)
          clear hb3 hbn B3 HO HB1 HKQ y0 ly XK RK HCALL
          cases bb with
          | false =>
            go_wp2_with fail
            rw [HWR.out]
            go_roundw
            case rel => exact ⟨k + 1, HK11.out, rfl, by rw [HST.out]; simpa using O4.out, B4.out, K4.out, HOB.out⟩
            case measure => have := HK11.out; have := HK1.out; simp only [intOf]; omega
          | true =>
            have hul : (F k).length ≤ 1073741824 := by have h1 := HFK.out; have h2 := HK11.out; omega
            have hsz : w.heap.size + 1 ≤ (w3.alloc (Obj.cells #[Value.int .i64 k5, Value.slice va5 vn5 vc5] 53)).heap.size := by have h1 := K4.out.1; have h2 := HLW.out; omega
            go_wp2_with (at_builtin; refine wpList_appWm rfl _ _ rfl (w.heap.size + 1) _ (F k) k1 rfl (World.ownsRow.alloc O4.out _) _ rfl (by simp) hul (by simp at hsz ⊢; omega) ?_)
            intro v7 w7 hos hg hat
            have hba : Below (w3.alloc (Obj.cells #[Value.int .i64 k5, Value.slice va5 vn5 vc5] 53)).heap.size (w3.alloc (Obj.cells #[Value.int .i64 k5, Value.slice va5 vn5 vc5] 53)) ((w3.alloc (Obj.cells #[Value.int .i64 k5, Value.slice va5 vn5 vc5] 53)).alloc (Obj.cells #[Value.int .i64 k1] 2)) := (Below.refl _ _).alloc (Nat.le_refl _) _
            have ba4 : Below w.heap.size w ((w3.alloc (Obj.cells #[Value.int .i64 k5, Value.slice va5 vn5 vc5] 53)).alloc (Obj.cells #[Value.int .i64 k1] 2)) := B4.out.trans (hba.mono B4.out.size)
            have B6 := kide (ba4.grown hg ba4.size (fun kk e => by have h1 := (O4.out.lt e).1; omega))
            have K6 := kide ((K4.out.later hba).grown hg HOB.out)
            have O7 := kide hos
            have HO7 : Hid (∀ b, v7.ownBlock = some b → b = w.heap.size + 1 ∨ w2.heap.size ≤ b) := fun b e => by
              rcases hat with h | h
              · exact HOB.out b (h.symm.trans e)
              · rw [h] at e
                have hz := K4.out.1
                simp at hz
                cases e
                exact .inr (by first | omega | (simp; omega))
            clear hos hg ba4 hba O4 B4 K4 hul hsz hat HOB
            go_wp2_with fail
            rw [HWR.out]
            go_roundw
            case rel => exact ⟨k + 1, HK11.out, rfl, by rw [HST.out]; simpa using O7.out, B6.out, K6.out, HO7.out⟩
            case measure => have := HK11.out; have := HK1.out; simp only [intOf]; omega
        · have e9 : k = 11 := by omega
          subst e9
          clear hb1 hlt hk XK RK
          go_wp2_with fail
          go_ret
          exact ⟨_, rfl, HO.out, HB1.out⟩
    · have hv : rulR ds (xs.map Tg.ct) p = [] := by
        unfold rulR
        rw [if_pos (.inr (by rw [List.length_map, hn]; exact hp))]
      rw [hv, hnd]
      rw [hnd] at HW
      generalize widthsR ds (xs.map Tg.ct) = wd at *
      have HWL := kide hwl
      have hN1 : Hid (wrap64 ((n : Int) - 1) = (n : Int) - 1) := by show _ = _; unfold wrap64; omega
      have hin : Hid (decide ((0 : Int) ≤ p ∧ p ≤ (n : Int) - 1) = false) := by show _ = _; exact decide_eq_false (by omega)
      clear hr hs hn hkc hn2 hnd h0 hdc hwl hww hrn hp hv hn0
      go_enter Tryz.func7, Tryz.ntmps7
      go_wp2_with fail
      generalize (w.alloc (.cells #[Value.slice b n c2] 34)).alloc (.cells #[] 2) = w1 at *
      refine Calls.mono (HW.out _ BX.out) ?_
      rintro e w2 ⟨v, rfl, ho, hb⟩
      obtain ⟨a2, k2, rfl, hrd⟩ := OW.rd ho hwx.out hw64.out
      rw [HWL.out]
      have BY := kide (BX.out.trans (hb.mono BX.out.size))
      have OY := kide (O0.out.later hb)
      have XY := kide (XT.out.later hb)
      have y0 := XY.out.cell 0
      simp at y0
      have ly := XY.out.lt
      clear hb ho hrd
      go_wp2_with fail
      refine Calls.mono (l1In_any _ _ _ _) ?_
      rintro e w3 ⟨rfl, hw3⟩
      rw [hN1.out, hin.out]
      obtain rfl := hw3.symm
      clear y0 ly HW
      go_wp2_with fail
      go_ret
      exact ⟨_, rfl, OY.out, BY.out⟩

end Go.Proofs.YtdlmgndmfphneaaGreatDoor
