/- The given specification's l15Fit: rule 9. -/
import Derived.Test.YtdlmgndmfphneaaGreatDoorZGAG
import Derived.Test.YtdlmgndmfphneaaGreatDoorZGAD
namespace Go.Proofs.YtdlmgndmfphneaaGreatDoor
set_option linter.unusedVariables false
set_option linter.unusedSimpArgs false
open Go.RowKit

theorem wrap_succ {k : Nat} (h : k < 2000000) : wrap64 ((k : Int) + 1) = ((k + 1 : Nat) : Int) := by unfold wrap64; omega
theorem dec_succ {k n : Nat} (h : k < n) : n - (intOf (Value.int .i64 ((k + 1 : Nat) : Int))).toNat < n - (intOf (Value.int .i64 (k : Int))).toNat := by simp only [intOf]; omega
theorem rdI_take {w : World} {a : Option Addr} {ks : List Int} (h : RdI w a ks) (n : Nat) : RdI w a (ks.take n) := by
  obtain ⟨h1, h2, h3⟩ := h
  refine ⟨by rw [List.length_take]; omega, fun x hx => h2 x (List.mem_of_mem_take hx), ?_⟩
  rcases h3 with h3 | ⟨b, o, rfl, hc⟩
  · exact .inl (by simp [h3])
  · refine .inr ⟨b, o, rfl, fun i hi => ?_⟩
    rw [List.length_take] at hi
    rw [hc i (by omega)]
    simp [List.getD, List.getElem?_take, show i < n by omega]
theorem cut_len {ks zs : List Int} {k k1 kn : Nat} (h : ks.length = kn) (hn : kn ≤ 1048576) (hz : zs.length ≤ 4096) : (ks.take k ++ zs).length + (ks.drop k1).length ≤ 4194304 := by
  rw [List.length_append, List.length_take, List.length_drop]
  omega
theorem rdI_cut {w : World} {kb ko k1 kn kc : Nat} {l : List Int} (hl : l.length = kn - k1) (hc : (kn : Int) ≤ (kc : Int)) (h : RdI w (some ⟨kb, ko + k1, none⟩) l) : RdI w (if kc = k1 then (some { block := kb, off := ko } : Option Addr) else some { block := kb, off := ko + k1 }) l := by
  split
  · have : l = [] := List.length_eq_zero_iff.1 (by omega)
    subst this
    exact ⟨by simp, by simp, .inl rfl⟩
  · exact h
theorem any_more {P : Int → Bool} {ks : List Int} {m : Nat} (h : (ks.take m).any P = (3 == (3 : Int))) : ks.any P = true := by
  obtain ⟨x, hx, hp⟩ := List.any_eq_true.1 (h.trans rfl)
  exact List.any_eq_true.2 ⟨x, List.mem_of_mem_take hx, hp⟩
theorem OI.formR {w : World} {B : Nat} {v : Value} {l : List Int} (h : OI w B v l) : ∃ a c, v = .slice a l.length c := by
  rcases h.2 with ⟨h1, h2⟩ | ⟨g, cap, cur, rfl, -⟩
  · exact ⟨none, 0, by rw [h1, h2]⟩
  · exact ⟨_, _, rfl⟩
theorem rdI_drop {w : World} {b o : Nat} {ks : List Int} (h : RdI w (some ⟨b, o, none⟩) ks) (n : Nat) : RdI w (some ⟨b, o + n, none⟩) (ks.drop n) := by
  obtain ⟨h1, h2, h3⟩ := h
  refine ⟨by rw [List.length_drop]; omega, fun x hx => h2 x (List.mem_of_mem_drop hx), ?_⟩
  rcases h3 with h3 | ⟨b', o', e, hc⟩
  · exact .inl (by simp [h3])
  · cases e
    refine .inr ⟨b, o + n, rfl, fun i hi => ?_⟩
    rw [List.length_drop] at hi
    rw [Nat.add_assoc, hc (n + i) (by omega)]
    simp [List.getD]

set_option maxHeartbeats 4000000 in
set_option maxRecDepth 100000 in
theorem I9 (tb to xb xo kb ko kc c c2 N p j wn wc kn ywn ywc ykn ykc : Nat) (wa ywa yka : Option Addr) (op vr A B bw W yop yvr yA yB ybw : Int) (w : World) (ks : List Int) (P : Int → Bool) (i0 : (p : Int) < (N : Int)) (i1 : (j : Int) < (N : Int)) (i2 : ((kn : Int) == 0) = false) (i3 : (0 : Int) < (kn : Int)) (w1 : Hid (1 ≤ W ∧ W ≤ 4096)) (hwr : wrap64 (W - 1) = W - 1) (hW0 : ¬ W = 0) (l0 : tb < w.heap.size) (l1 : kb < w.heap.size) (l2 : xb < w.heap.size) (p0 : w.cell? ⟨tb, to + p * 7, none⟩ = some (.int .i64 op)) (p1 : w.cell? ⟨tb, to + p * 7 + 1, none⟩ = some (.int .i64 vr)) (p2 : w.cell? ⟨tb, to + p * 7 + 2, none⟩ = some (.int .i64 A)) (p3 : w.cell? ⟨tb, to + p * 7 + 3, none⟩ = some (.int .i64 B)) (p4 : w.cell? ⟨tb, to + p * 7 + 4, none⟩ = some (.int .i64 bw)) (p5 : w.cell? ⟨tb, to + p * 7 + 5, none⟩ = some (.slice wa wn wc)) (p6 : w.cell? ⟨tb, to + p * 7 + 6, none⟩ = some (.slice (some ⟨kb, ko, none⟩) kn kc)) (k0 : w.cell? ⟨kb, ko, none⟩ = some (.int .i64 (j : Int))) (q0 : w.cell? ⟨tb, to + j * 7, none⟩ = some (.int .i64 yop)) (q1 : w.cell? ⟨tb, to + j * 7 + 1, none⟩ = some (.int .i64 yvr)) (q2 : w.cell? ⟨tb, to + j * 7 + 2, none⟩ = some (.int .i64 yA)) (q3 : w.cell? ⟨tb, to + j * 7 + 3, none⟩ = some (.int .i64 yB)) (q4 : w.cell? ⟨tb, to + j * 7 + 4, none⟩ = some (.int .i64 ybw)) (q5 : w.cell? ⟨tb, to + j * 7 + 5, none⟩ = some (.slice ywa ywn ywc)) (q6 : w.cell? ⟨tb, to + j * 7 + 6, none⟩ = some (.slice yka ykn ykc)) (x0 : w.cell? ⟨xb, xo + j, none⟩ = some (.int .i64 W)) (h3 : op = 3) (HKC : Hid ((kn : Int) ≤ (kc : Int))) (HKS : Hid (RdI w (some ⟨kb, ko, none⟩) ks)) (hkl : Hid (ks.length = kn)) (HND : Hid (∀ k ∈ ks, ∃ (z : Nat) (zk : Option Addr) (zc : Nat) (zs : List Int) (zop : Int), k = (z : Int) ∧ z < N ∧ w.cell? ⟨tb, to + z * 7, none⟩ = some (.int .i64 zop) ∧ w.cell? ⟨tb, to + z * 7 + 6, none⟩ = some (.slice zk zs.length zc) ∧ RdI w zk zs ∧ zs.length ≤ 4096 ∧ P k = (zop == 3) ∧ (zk = none → zc = 0))) : Calls Tryz.prog 25 #[.agg #[.slice (some ⟨tb, to, none⟩) N c2], .slice (some ⟨xb, xo, none⟩) N c, .int .i64 (p : Int), .int .i64 9] w (RetN w ((decide (op = 3) && ks.any P))) := by
  have l0a : tb < w.heap.size + 1 := by omega
  have l0b : tb < w.heap.size + 1 + 1 := by omega
  have l0c : tb < w.heap.size + 1 + 1 + 1 := by omega
  have l0d : tb < w.heap.size + 1 + 1 + 1 + 1 := by omega
  have l1a : kb < w.heap.size + 1 := by omega
  have l1b : kb < w.heap.size + 1 + 1 := by omega
  have l1c : kb < w.heap.size + 1 + 1 + 1 := by omega
  have l1d : kb < w.heap.size + 1 + 1 + 1 + 1 := by omega
  have l2a : xb < w.heap.size + 1 := by omega
  have l2b : xb < w.heap.size + 1 + 1 := by omega
  have l2c : xb < w.heap.size + 1 + 1 + 1 := by omega
  have l2d : xb < w.heap.size + 1 + 1 + 1 + 1 := by omega
  subst h3
  have HBW := kide (Below.refl w.heap.size w)
  go_enter Tryz.func25, Tryz.ntmps25
  go_wp2_with fail
  all_goals try first
    | (exact bodyPost_ret (v := .tuple #[.agg #[.int .i64 0, .slice none 0 0], .bool false]) (by simp [results, Tryz.results25, go_sem]) rfl ⟨0, none, 0, 0, by rw [show ((decide (op = 3) && ks.any P)) = false from (by (try simp only [beq_eq_false_iff_ne, ne_eq, beq_iff_eq, bne_iff_ne, bne_eq_false_iff_eq] at *); rw [decide_eq_false (by omega), Bool.false_and])], (by repeat' (first | exact HBW.out | refine Below.alloc ?_ (by simp; try omega) _))⟩)
  have XR : Hid (Bz ((((w.alloc (Obj.cells #[Value.slice (some ⟨tb, to, none⟩) N c2] 34)).alloc (Obj.cells #[Value.int .i64 0, Value.slice none 0 0] 53)).alloc (Obj.cells #[Value.int .i64 3, Value.int .i64 vr, Value.int .i64 A, Value.int .i64 B, Value.int .i64 bw, Value.slice wa wn wc, Value.slice (some ⟨kb, ko, none⟩) kn kc] 63)).alloc (Obj.cells #[Value.int .i64 yop, Value.int .i64 yvr, Value.int .i64 yA, Value.int .i64 yB, Value.int .i64 ybw, Value.slice ywa ywn ywc, Value.slice yka ykn ykc] 63)) (w.heap.size + 1) #[Value.int .i64 0, Value.slice none 0 0] 53) := bzr
  have X2 : Hid (Bz ((((w.alloc (Obj.cells #[Value.slice (some ⟨tb, to, none⟩) N c2] 34)).alloc (Obj.cells #[Value.int .i64 0, Value.slice none 0 0] 53)).alloc (Obj.cells #[Value.int .i64 3, Value.int .i64 vr, Value.int .i64 A, Value.int .i64 B, Value.int .i64 bw, Value.slice wa wn wc, Value.slice (some ⟨kb, ko, none⟩) kn kc] 63)).alloc (Obj.cells #[Value.int .i64 yop, Value.int .i64 yvr, Value.int .i64 yA, Value.int .i64 yB, Value.int .i64 ybw, Value.slice ywa ywn ywc, Value.slice yka ykn ykc] 63)) (w.heap.size + 1 + 1) #[Value.int .i64 3, Value.int .i64 vr, Value.int .i64 A, Value.int .i64 B, Value.int .i64 bw, Value.slice wa wn wc, Value.slice (some ⟨kb, ko, none⟩) kn kc] 63) := by
    have h9 := Bz.new ((w.alloc (Obj.cells #[Value.slice (some ⟨tb, to, none⟩) N c2] 34)).alloc (Obj.cells #[Value.int .i64 0, Value.slice none 0 0] 53)) #[Value.int .i64 3, Value.int .i64 vr, Value.int .i64 A, Value.int .i64 B, Value.int .i64 bw, Value.slice wa wn wc, Value.slice (some ⟨kb, ko, none⟩) kn kc] 63
    rw [show ((w.alloc (Obj.cells #[Value.slice (some ⟨tb, to, none⟩) N c2] 34)).alloc (Obj.cells #[Value.int .i64 0, Value.slice none 0 0] 53)).heap.size = w.heap.size + 1 + 1 by simp] at h9
    exact h9.later ((Below.refl _ _).alloc (Nat.le_refl _) _)
  have X3 : Hid (Bz ((((w.alloc (Obj.cells #[Value.slice (some ⟨tb, to, none⟩) N c2] 34)).alloc (Obj.cells #[Value.int .i64 0, Value.slice none 0 0] 53)).alloc (Obj.cells #[Value.int .i64 3, Value.int .i64 vr, Value.int .i64 A, Value.int .i64 B, Value.int .i64 bw, Value.slice wa wn wc, Value.slice (some ⟨kb, ko, none⟩) kn kc] 63)).alloc (Obj.cells #[Value.int .i64 yop, Value.int .i64 yvr, Value.int .i64 yA, Value.int .i64 yB, Value.int .i64 ybw, Value.slice ywa ywn ywc, Value.slice yka ykn ykc] 63)) (w.heap.size + 1 + 1 + 1) #[Value.int .i64 yop, Value.int .i64 yvr, Value.int .i64 yA, Value.int .i64 yB, Value.int .i64 ybw, Value.slice ywa ywn ywc, Value.slice yka ykn ykc] 63) := by
    have h9 := Bz.new (((w.alloc (Obj.cells #[Value.slice (some ⟨tb, to, none⟩) N c2] 34)).alloc (Obj.cells #[Value.int .i64 0, Value.slice none 0 0] 53)).alloc (Obj.cells #[Value.int .i64 3, Value.int .i64 vr, Value.int .i64 A, Value.int .i64 B, Value.int .i64 bw, Value.slice wa wn wc, Value.slice (some ⟨kb, ko, none⟩) kn kc] 63)) #[Value.int .i64 yop, Value.int .i64 yvr, Value.int .i64 yA, Value.int .i64 yB, Value.int .i64 ybw, Value.slice ywa ywn ywc, Value.slice yka ykn ykc] 63
    rw [show (((w.alloc (Obj.cells #[Value.slice (some ⟨tb, to, none⟩) N c2] 34)).alloc (Obj.cells #[Value.int .i64 0, Value.slice none 0 0] 53)).alloc (Obj.cells #[Value.int .i64 3, Value.int .i64 vr, Value.int .i64 A, Value.int .i64 B, Value.int .i64 bw, Value.slice wa wn wc, Value.slice (some ⟨kb, ko, none⟩) kn kc] 63)).heap.size = w.heap.size + 1 + 1 + 1 by simp] at h9
    exact h9
  have X1 : Hid (Bz ((((w.alloc (Obj.cells #[Value.slice (some ⟨tb, to, none⟩) N c2] 34)).alloc (Obj.cells #[Value.int .i64 0, Value.slice none 0 0] 53)).alloc (Obj.cells #[Value.int .i64 3, Value.int .i64 vr, Value.int .i64 A, Value.int .i64 B, Value.int .i64 bw, Value.slice wa wn wc, Value.slice (some ⟨kb, ko, none⟩) kn kc] 63)).alloc (Obj.cells #[Value.int .i64 yop, Value.int .i64 yvr, Value.int .i64 yA, Value.int .i64 yB, Value.int .i64 ybw, Value.slice ywa ywn ywc, Value.slice yka ykn ykc] 63)) w.heap.size #[Value.slice (some ⟨tb, to, none⟩) N c2] 34) := by
    have h9 := Bz.new w #[Value.slice (some ⟨tb, to, none⟩) N c2] 34
    exact ((h9.later ((Below.refl _ _).alloc (Nat.le_refl _) _)).later ((Below.refl _ _).alloc (Nat.le_refl _) _)).later ((Below.refl _ _).alloc (Nat.le_refl _) _)
  have B4 : Hid (Below w.heap.size w ((((w.alloc (Obj.cells #[Value.slice (some ⟨tb, to, none⟩) N c2] 34)).alloc (Obj.cells #[Value.int .i64 0, Value.slice none 0 0] 53)).alloc (Obj.cells #[Value.int .i64 3, Value.int .i64 vr, Value.int .i64 A, Value.int .i64 B, Value.int .i64 bw, Value.slice wa wn wc, Value.slice (some ⟨kb, ko, none⟩) kn kc] 63)).alloc (Obj.cells #[Value.int .i64 yop, Value.int .i64 yvr, Value.int .i64 yA, Value.int .i64 yB, Value.int .i64 ybw, Value.slice ywa ywn ywc, Value.slice yka ykn ykc] 63))) := (by repeat' (first | exact HBW.out | refine Below.alloc ?_ (by simp; try omega) _))
  generalize ((((w.alloc (Obj.cells #[Value.slice (some ⟨tb, to, none⟩) N c2] 34)).alloc (Obj.cells #[Value.int .i64 0, Value.slice none 0 0] 53)).alloc (Obj.cells #[Value.int .i64 3, Value.int .i64 vr, Value.int .i64 A, Value.int .i64 B, Value.int .i64 bw, Value.slice wa wn wc, Value.slice (some ⟨kb, ko, none⟩) kn kc] 63)).alloc (Obj.cells #[Value.int .i64 yop, Value.int .i64 yvr, Value.int .i64 yA, Value.int .i64 yB, Value.int .i64 ybw, Value.slice ywa ywn ywc, Value.slice yka ykn ykc] 63)) = W4 at *
  obtain ⟨b1, hb1⟩ : ∃ b, w.heap.size + 1 = b := ⟨_, rfl⟩
  obtain ⟨b2, hb2⟩ : ∃ b, b1 + 1 = b := ⟨_, rfl⟩
  obtain ⟨b3, hb3⟩ : ∃ b, b2 + 1 = b := ⟨_, rfl⟩
  have HL1 : Hid (w.heap.size ≤ b1) := (by show _ ≤ _; omega)
  rw [hb1] at XR
  rw [hb1, hb2] at X2
  rw [hb1, hb2, hb3] at X3
  try simp only [hb1, hb2, hb3]
  have HZ := kide (show (decide ((3 : Int) = 3) && ks.any P) = ks.any P by simp)
  clear p0 p1 p2 p3 p4 p5 p6 k0 q0 q1 q2 q3 q4 q5 q6 x0 l0a l0b l0c l0d l1a l1b l1c l1d l2a l2b l2c l2d
  have L0 := kide l0
  have L1 := kide l1
  clear l0 l1 l2
  go_loopw [19] (fun i wr => ∃ k : Nat, k ≤ kn ∧ i = .int .i64 (k : Int) ∧ (ks.take k).any P = false ∧ Below W4.heap.size W4 wr) (fun i _ => kn - (intOf i).toNat)
  case atStart => exact ⟨0, Nat.zero_le _, rfl, by simp, Below.refl _ _⟩
  case round =>
    obtain ⟨k, hk, rfl, hany, hbw⟩ := hrel
    have BW := kide (B4.out.trans (hbw.mono B4.out.size))
    have XRk := kide (XR.out.later hbw)
    have X2k := kide (X2.out.later hbw)
    have X1k := kide (X1.out.later hbw)
    have t0 := X1k.out.cell 0
    have lt1 := X1k.out.lt
    have HANY := kide hany
    have HBWk := kide hbw
    have HKN : Hid (kn ≤ 1048576) := (by show _ ≤ _; have := HKS.out.1; have := hkl.out; omega)
    have n0 := X2k.out.cell 0
    have n6 := X2k.out.cell 6
    simp at n0 n6 t0
    have ln := X2k.out.lt
    by_cases hlt : k < kn
    · have i9 : (k : Int) < (kn : Int) := (by omega)
      have hkl2 : k < ks.length := (by rw [hkl.out]; exact hlt)
      have hik : ks[k]? = some (ks.getD k 0) := by simp [List.getD, hkl2]
      obtain ⟨z, zk, zc, zs, zop, ez, hz, z0, z6, hzr, hzl, hzp, hz0⟩ := HND.out _ (List.mem_of_getElem? hik)
      obtain ⟨-, -, h0 | ⟨kb2, ko2, e2, hkc⟩⟩ := HKS.out
      · rw [h0] at hkl2; simp at hkl2
      cases e2
      have q0 := hkc k hkl2
      rw [ez] at q0
      have hst := any_step (p := P) hik
      have hl1 := block_lt_of_cell q0
      have hl2 := block_lt_of_cell z0
      have Q0 := kide q0
      have Z6 := kide z6
      rw [← kcell BW.out _ _ hl1] at q0
      rw [← kcell BW.out _ _ hl2] at z0 z6
      have zi : (z : Int) < (N : Int) := (by omega)
      have htk : Hid ((ks.take (k + 1)).any P = (zop == 3)) := (by show _ = _; rw [List.take_add_one, hik]; simp only [Option.toList, List.any_append, HANY.out, Bool.false_or, List.any_cons, List.any_nil, Bool.or_false]; exact hzp)
      have ZK := kide hzr
      have HZ0 := kide hz0
      have HZL := kide hzl
      have HK9 : Hid (k < kn) := hlt
      have hw9 : Hid (wrap64 ((k : Int) + 1) = ((k + 1 : Nat) : Int)) := wrap_succ (by have := HKN.out; omega)
      have hdec : Hid (kn - (intOf (Value.int .i64 ((k + 1 : Nat) : Int))).toNat < kn - (intOf (Value.int .i64 (k : Int))).toNat) := dec_succ hlt
      have hx4 := BW.out.size
      have HLN := kide (And.intro hl1 hl2)
      clear hst hkc hlt hk hany hik hkl2 hl1 hl2 hx4
      by_cases hz3 : zop = 3
      · subst hz3
        go_wp2_with fail
        go_quiet (fail)
        have hbq : Below wr.heap.size wr (wr.drewN nq) := below_drewN (Below.refl _ _) _
        have XRq := kide (XRk.out.later hbq)
        have X1q := kide (X1k.out.later hbq)
        have X2q := kide (X2k.out.later hbq)
        have Bq : Hid (Below w.heap.size w (wr.drewN nq)) := below_drewN BW.out _
        clear hbq n0 n6 t0 ln lt1 q0 z0 z6 hbw
        generalize wr.drewN nq = wq at *
        have hl1 : kb < wq.heap.size := Nat.lt_of_lt_of_le HLN.out.1 Bq.out.size
        have hl2 : tb < wq.heap.size := Nat.lt_of_lt_of_le HLN.out.2 Bq.out.size
        have n6 := X2q.out.cell 6
        simp at n6
        have ln := X2q.out.lt
        have hkc : (k : Int) ≤ (kc : Int) := (by have := HKC.out; have := HK9.out; omega)
        have HTL : Hid ((ks.take k).length = k) := (by show _ = _; rw [List.length_take]; have := HK9.out; have := hkl.out; omega)
        have hbn : Below wq.heap.size wq (wq.alloc (Obj.cells #[] 2)) := (Below.refl _ _).alloc (Nat.le_refl _) _
        have R1 := kide (rdI_take (HKS.out.later (Bq.out.trans (hbn.mono Bq.out.size))) k)
        have hbn := kide hbn
        go_wp2_with (at_builtin; refine wpList_appIr _ rfl _ _ rfl wq.heap.size _ [] (ks.take k) rfl (OI.empty wq wq.heap.size (Nat.le_refl _)) (some ⟨kb, ko, none⟩) kc (by rw [HTL.out]; first | rfl | simp [Act.eval]) (by simp) R1.out (by have := HK9.out; have := HKN.out; have := HTL.out; simp; omega) (by simp) ?_)
        intro v4 w4 hov hg4
        have hb4 : Below wq.heap.size wq w4 := Below.grown hbn.out hg4 (by simp) (fun j hj => by cases hj; exact Nat.le_refl _)
        have HOV := kide hov
        have HB4 := kide hb4
        have X24 := kide (X2q.out.later hb4)
        have X14 := kide (X1q.out.later hb4)
        have B4w := kide (Bq.out.trans (hb4.mono Bq.out.size))
        clear hov hb4 hg4 hbn R1 n6 ln hl1 hl2 XRk X1k X2k BW
        go_wp2_with fail
        refine wp_region_x (SA := fun _ => False) (SB := fun uu => uu.cell? ⟨w.heap.size, 0, none⟩ = some (Value.slice (some ⟨tb, to, none⟩) N c2) ∧ uu.cell? ⟨b2, 6, none⟩ = some (Value.slice (some ⟨kb, ko, none⟩) kn kc) ∧ uu.cell? ⟨kb, ko + k, none⟩ = some (Value.int .i64 (z : Int)) ∧ uu.cell? ⟨tb, to + z * 7 + 6, none⟩ = some (Value.slice zk zs.length zc)) (k := 999) (by kernel_rfl) ?_
        have hbd : Below w4.heap.size w4 w4.drew := (Below.refl _ _).drew
        have HBd : Hid (Below wq.heap.size wq w4.drew) := HB4.out.trans (hbd.mono HB4.out.size)
        have OVd := kide (HOV.out.later hbd)
        have c0_0 : w4.drew.cell? ⟨w.heap.size, 0, none⟩ = some (Value.slice (some ⟨tb, to, none⟩) N c2) := (kcell hbd _ _ X14.out.lt).trans (X14.out.cell 0)
        have c1_0 : w4.drew.cell? ⟨b2, 6, none⟩ = some (Value.slice (some ⟨kb, ko, none⟩) kn kc) := (kcell hbd _ _ X24.out.lt).trans (X24.out.cell 6)
        have c2_0 : w4.drew.cell? ⟨kb, ko + k, none⟩ = some (Value.int .i64 (z : Int)) := (kcell hbd _ _ (Nat.lt_of_lt_of_le HLN.out.1 B4w.out.size)).trans ((kcell B4w.out _ _ HLN.out.1).trans Q0.out)
        have c3_0 : w4.drew.cell? ⟨tb, to + z * 7 + 6, none⟩ = some (Value.slice zk zs.length zc) := (kcell hbd _ _ (Nat.lt_of_lt_of_le HLN.out.2 B4w.out.size)).trans ((kcell B4w.out _ _ HLN.out.2).trans Z6.out)
        clear hbd
        generalize w4.drew = m0 at *
        have hs0 : Hid ((fun uu => uu.cell? ⟨w.heap.size, 0, none⟩ = some (Value.slice (some ⟨tb, to, none⟩) N c2) ∧ uu.cell? ⟨b2, 6, none⟩ = some (Value.slice (some ⟨kb, ko, none⟩) kn kc) ∧ uu.cell? ⟨kb, ko + k, none⟩ = some (Value.int .i64 (z : Int)) ∧ uu.cell? ⟨tb, to + z * 7 + 6, none⟩ = some (Value.slice zk zs.length zc)) m0) := ⟨c0_0, c1_0, c2_0, c3_0⟩
        try go_simp
        refine wpAnyX_both (T := (fun _ => True)) (i := 0) (v := v4) rfl (by kernel_rfl) (by kernel_rfl) (by kernel_rfl) (fun _ _ _ h => by first | exact h | exact h.elim) (by decide) (fun _ _ => trivial) (fun _ _ => trivial) (Sx.behind (by kernel_rfl) hs0.out) (Or.inl ⟨by rfl, fun uu hu => by go_simp⟩) ?_
        try go_simp
        refine wpAnyX_both (T := (fun _ => True)) (i := 1) (v := Value.pointer (some ⟨w.heap.size, 0, none⟩)) rfl (by kernel_rfl) (by kernel_rfl) (by kernel_rfl) (fun _ _ _ h => by first | exact h | exact h.elim) (by decide) (fun _ _ => trivial) (fun _ _ => trivial) (Sx.behind (by kernel_rfl) hs0.out) (Or.inl ⟨by rfl, fun uu hu => by go_simp⟩) ?_
        try go_simp
        refine wpAnyX_both (T := (fun uu => uu.cell? ⟨w.heap.size, 0, none⟩ = some (Value.slice (some ⟨tb, to, none⟩) N c2) ∧ uu.cell? ⟨b2, 6, none⟩ = some (Value.slice (some ⟨kb, ko, none⟩) kn kc) ∧ uu.cell? ⟨kb, ko + k, none⟩ = some (Value.int .i64 (z : Int)) ∧ uu.cell? ⟨tb, to + z * 7 + 6, none⟩ = some (Value.slice zk zs.length zc))) (i := 2) (v := Value.slice (some ⟨tb, to, none⟩) N c2) rfl (by kernel_rfl) (by kernel_rfl) (by kernel_rfl) (fun _ _ _ h => by first | exact h | exact h.elim) (by decide) (fun _ h => h.elim) (fun _ h => h) (Sx.behind (by kernel_rfl) hs0.out) (Or.inl ⟨by rfl, fun uu hu => by obtain ⟨e0, e1, e2, e3⟩ := hu; go_simp⟩) ?_
        try go_simp
        refine wpAnyX_both (T := (fun _ => True)) (i := 3) (v := Value.pointer (some ⟨b2, 6, none⟩)) rfl (by kernel_rfl) (by kernel_rfl) (by kernel_rfl) (fun _ _ _ h => by first | exact h | exact h.elim) (by decide) (fun _ _ => trivial) (fun _ _ => trivial) (Sx.behind (by kernel_rfl) hs0.out) (Or.inl ⟨by rfl, fun uu hu => by go_simp⟩) ?_
        try go_simp
        refine wpAnyX_both (T := (fun uu => uu.cell? ⟨w.heap.size, 0, none⟩ = some (Value.slice (some ⟨tb, to, none⟩) N c2) ∧ uu.cell? ⟨b2, 6, none⟩ = some (Value.slice (some ⟨kb, ko, none⟩) kn kc) ∧ uu.cell? ⟨kb, ko + k, none⟩ = some (Value.int .i64 (z : Int)) ∧ uu.cell? ⟨tb, to + z * 7 + 6, none⟩ = some (Value.slice zk zs.length zc))) (i := 4) (v := Value.slice (some ⟨kb, ko, none⟩) kn kc) rfl (by kernel_rfl) (by kernel_rfl) (by kernel_rfl) (fun _ _ _ h => by first | exact h | exact h.elim) (by decide) (fun _ h => h.elim) (fun _ h => h) (Sx.behind (by kernel_rfl) hs0.out) (Or.inl ⟨by rfl, fun uu hu => by obtain ⟨e0, e1, e2, e3⟩ := hu; go_simp⟩) ?_
        try go_simp
        refine wpAnyX_both (T := (fun _ => True)) (i := 5) (v := Value.int .i64 (k : Int)) rfl (by kernel_rfl) (by kernel_rfl) (by kernel_rfl) (fun _ _ _ h => by first | exact h | exact h.elim) (by decide) (fun _ _ => trivial) (fun _ _ => trivial) (Sx.behind (by kernel_rfl) hs0.out) (Or.inl ⟨by rfl, fun uu hu => by go_simp⟩) ?_
        try go_simp
        refine wpAnyX_both (T := (fun _ => True)) (i := 6) (v := Value.pointer (some ⟨kb, ko + k, none⟩)) rfl (by kernel_rfl) (by kernel_rfl) (by kernel_rfl) (fun _ _ _ h => by first | exact h | exact h.elim) (by decide) (fun _ _ => trivial) (fun _ _ => trivial) (Sx.behind (by kernel_rfl) hs0.out) (Or.inl ⟨by rfl, fun uu hu => by go_simp⟩) ?_
        try go_simp
        refine wpAnyX_both (T := (fun uu => uu.cell? ⟨w.heap.size, 0, none⟩ = some (Value.slice (some ⟨tb, to, none⟩) N c2) ∧ uu.cell? ⟨b2, 6, none⟩ = some (Value.slice (some ⟨kb, ko, none⟩) kn kc) ∧ uu.cell? ⟨kb, ko + k, none⟩ = some (Value.int .i64 (z : Int)) ∧ uu.cell? ⟨tb, to + z * 7 + 6, none⟩ = some (Value.slice zk zs.length zc))) (i := 7) (v := Value.int .i64 (z : Int)) rfl (by kernel_rfl) (by kernel_rfl) (by kernel_rfl) (fun _ _ _ h => by first | exact h | exact h.elim) (by decide) (fun _ h => h.elim) (fun _ h => h) (Sx.behind (by kernel_rfl) hs0.out) (Or.inl ⟨by rfl, fun uu hu => by obtain ⟨e0, e1, e2, e3⟩ := hu; go_simp⟩) ?_
        try go_simp
        refine wpAnyX_both (T := (fun _ => True)) (i := 8) (v := Value.pointer (some ⟨tb, to + z * 7, none⟩)) rfl (by kernel_rfl) (by kernel_rfl) (by kernel_rfl) (fun _ _ _ h => by first | exact h | exact h.elim) (by decide) (fun _ _ => trivial) (fun _ _ => trivial) (Sx.behind (by kernel_rfl) hs0.out) (Or.inl ⟨by rfl, fun uu hu => by go_simp⟩) ?_
        try go_simp
        refine wpAnyX_both (T := (fun _ => True)) (i := 9) (v := Value.pointer (some ⟨tb, to + z * 7 + 6, none⟩)) rfl (by kernel_rfl) (by kernel_rfl) (by kernel_rfl) (fun _ _ _ h => by first | exact h | exact h.elim) (by decide) (fun _ _ => trivial) (fun _ _ => trivial) (Sx.behind (by kernel_rfl) hs0.out) (Or.inl ⟨by rfl, fun uu hu => by go_simp⟩) ?_
        try go_simp
        refine wpAnyX_both (T := (fun uu => uu.cell? ⟨w.heap.size, 0, none⟩ = some (Value.slice (some ⟨tb, to, none⟩) N c2) ∧ uu.cell? ⟨b2, 6, none⟩ = some (Value.slice (some ⟨kb, ko, none⟩) kn kc) ∧ uu.cell? ⟨kb, ko + k, none⟩ = some (Value.int .i64 (z : Int)) ∧ uu.cell? ⟨tb, to + z * 7 + 6, none⟩ = some (Value.slice zk zs.length zc))) (i := 10) (v := Value.slice zk zs.length zc) rfl (by kernel_rfl) (by kernel_rfl) (by kernel_rfl) (fun _ _ _ h => by first | exact h | exact h.elim) (by decide) (fun _ h => h.elim) (fun _ h => h) (Sx.behind (by kernel_rfl) hs0.out) (Or.inl ⟨by rfl, fun uu hu => by obtain ⟨e0, e1, e2, e3⟩ := hu; go_simp⟩) ?_
        try go_simp
        refine wpAnyX_ready (rs := [11]) (by kernel_rfl) (by simp) (AllX.cons rfl (fun K hK => ?_) AllX.nil)
        have RZ := kide (ZK.out.later (Bq.out.trans (HBd.out.mono Bq.out.size)))
        refine step_appIr _ rfl _ _ rfl wq.heap.size v4 (ks.take k) zs (by first | rfl | simp [Act.eval]) OVd.out zk zc (by first | rfl | simp [Act.eval]) HZ0.out RZ.out (by have := HTL.out; have := HZL.out; have := HKN.out; have := HK9.out; omega) HBd.out.size ?_
        intro v5 m1 ho5 hg5
        have HB5 : Hid (Below wq.heap.size wq m1) := Below.grown HBd.out hg5 HBd.out.size (fun j hj => (OVd.out.lt hj).1)
        have HO5 := kide ho5
        clear ho5 hg5 RZ OVd HBd HB4 HOV
        have B5w := kide (Bq.out.trans (HB5.out.mono Bq.out.size))
        have c0_1 : m1.cell? ⟨w.heap.size, 0, none⟩ = some (Value.slice (some ⟨tb, to, none⟩) N c2) := ((X1q.out.later HB5.out).cell 0)
        have c1_1 : m1.cell? ⟨b2, 6, none⟩ = some (Value.slice (some ⟨kb, ko, none⟩) kn kc) := ((X2q.out.later HB5.out).cell 6)
        have c2_1 : m1.cell? ⟨kb, ko + k, none⟩ = some (Value.int .i64 (z : Int)) := ((kcell B5w.out _ _ HLN.out.1).trans Q0.out)
        have c3_1 : m1.cell? ⟨tb, to + z * 7 + 6, none⟩ = some (Value.slice zk zs.length zc) := ((kcell B5w.out _ _ HLN.out.2).trans Z6.out)
        have hs1 : Hid ((fun uu => uu.cell? ⟨w.heap.size, 0, none⟩ = some (Value.slice (some ⟨tb, to, none⟩) N c2) ∧ uu.cell? ⟨b2, 6, none⟩ = some (Value.slice (some ⟨kb, ko, none⟩) kn kc) ∧ uu.cell? ⟨kb, ko + k, none⟩ = some (Value.int .i64 (z : Int)) ∧ uu.cell? ⟨tb, to + z * 7 + 6, none⟩ = some (Value.slice zk zs.length zc)) m1) := ⟨c0_1, c1_1, c2_1, c3_1⟩
        refine hK _ _ (Sx.behind (by kernel_rfl) hs1.out) ?_
        clear hK K
        try go_simp
        refine wpAnyX_both (T := (fun _ => True)) (i := 12) (v := v5) rfl (by kernel_rfl) (by kernel_rfl) (by kernel_rfl) (fun _ _ _ h => by first | exact h | exact h.elim) (by decide) (fun _ _ => trivial) (fun _ _ => trivial) (Sx.behind (by kernel_rfl) hs1.out) (Or.inl ⟨by rfl, fun uu hu => by go_simp⟩) ?_
        try go_simp
        refine wpAnyX_done (by kernel_rfl) ?_ _
        have XR5 := kide (XRq.out.later HB5.out)
        have X25 := kide (X2q.out.later HB5.out)
        have n6 := X25.out.cell 6
        simp at n6
        have ln := X25.out.lt
        obtain ⟨k1, hk1⟩ : ∃ k1 : Nat, k + 1 = k1 := ⟨_, rfl⟩
        have R3 := kide (rdI_drop (HKS.out.later Bq.out) k1)
        have HDL : Hid ((ks.drop k1).length = kn - k1) := (by show _ = _; rw [List.length_drop, hkl.out])
        have i8 : (k1 : Int) ≤ (kn : Int) := (by have := HK9.out; omega)
        have i7 : (kn : Int) ≤ (kc : Int) := HKC.out
        have hw8 : wrap64 ((k : Int) + 1) = (k1 : Int) := (by rw [← hk1]; exact hw9.out)
        have HK1 := kide hk1
        clear hk1
        clear X1q X2q X24 X14 hs0 hs1 c0_0 c1_0 c2_0 c3_0 c0_1 c1_1 c2_1 c3_1 B4w
        have R4 : Hid (RdI wq (if kc = k1 then (some { block := kb, off := ko } : Option Addr) else some { block := kb, off := ko + k1 }) (ks.drop k1)) := rdI_cut HDL.out HKC.out R3.out
        have HC0 : Hid ((if kc = k1 then (some { block := kb, off := ko } : Option Addr) else some { block := kb, off := ko + k1 }) = none → kc - k1 = 0) := (by show _ → _; split <;> simp)
        have HYES : Hid (ks.any P = true) := any_more htk.out
        clear HND HKS HANY
        go_wp2_with (at_builtin; refine wpList_appIr _ rfl _ _ rfl wq.heap.size v5 (ks.take k ++ zs) (ks.drop k1) rfl HO5.out (if kc = k1 then (some { block := kb, off := ko } : Option Addr) else some { block := kb, off := ko + k1 }) (kc - k1) (by rw [HDL.out]; rfl) HC0.out (R4.out.later HB5.out) (cut_len hkl.out HKN.out HZL.out) HB5.out.size ?_)
        all_goals
          intro v6 w6 ho6 hg6
          have HB6 : Hid (Below wq.heap.size wq w6) := Below.grown HB5.out hg6 HB5.out.size (fun j hj => (HO5.out.lt hj).1)
          obtain ⟨a6, c6, rfl⟩ := ho6.formR
          generalize (ks.take k ++ zs ++ ks.drop k1).length = n6 at *
          have XR6 := kide (XRq.out.later HB6.out)
          clear hg6 ho6 HO5 HB5 XR5 X25 n6
          go_wp2_with fail
          refine Calls.mono (l15Node_any _ _ _ _ _ _ _ _ _ _ _ _) ?_
          rintro e w7 ⟨k5, va5, vn5, vc5, rfl, hb7⟩
          have XR7 := kide (XR6.out.later hb7)
          have B7 := kide ((Bq.out.trans (HB6.out.mono Bq.out.size)).trans (hb7.mono (Bq.out.trans (HB6.out.mono Bq.out.size)).size))
          clear hb7
          have e0 := XR7.out.cell 0
          have e1 := XR7.out.cell 1
          have f0 := XR7.out.froz 0
          have f1 := XR7.out.froz 1
          simp at e0 e1
          have y9 := (XR7.out.set 0 (Value.int .i64 k5)).set 1 (Value.slice va5 vn5 vc5)
          have Y0 := kide (y9.cell 0)
          have Y1 := kide (y9.cell 1)
          have BE : Hid (Below w.heap.size w ((w7.setCell ⟨b1, 0, none⟩ (Value.int .i64 k5)).setCell ⟨b1, 1, none⟩ (Value.slice va5 vn5 vc5))) := (B7.out.setCell (p := ⟨b1, 0, none⟩) HL1.out _).setCell (p := ⟨b1, 1, none⟩) HL1.out _
          clear y9
          go_wp2_with fail
          have y0 := Y0.out
          have y1 := Y1.out
          simp at y0 y1
          exact bodyPost_ret (v := .tuple #[.agg #[.int .i64 k5, .slice va5 vn5 vc5], .bool true]) (by simp [results, Tryz.results25, go_sem, y0, y1]) rfl ⟨k5, va5, vn5, vc5, (by first | (rw [HYES.out]; simp; done) | rw [HYES.out]), BE.out⟩
      · have hn3 : (zop == 3) = false := (by simpa using hz3)
        rw [hn3] at htk
        clear hz3
        go_wp2_with fail
        go_quiet (fail)
        go_wp2_with fail
        rw [hw9.out]
        exact ⟨⟨k + 1, HK9.out, rfl, htk.out, below_drewN (HBWk.out) _⟩, hdec.out⟩
    · have e9 : k = kn := (by omega)
      have hfin : Hid (ks.any P = false) := (by show _ = _; rw [← HANY.out, List.take_of_length_le (by rw [hkl.out]; omega)])
      have i9 : ¬ (k : Int) < (kn : Int) := (by omega)
      clear hlt hk hany hbw e9
      have e0 := XRk.out.cell 0
      have e1 := XRk.out.cell 1
      have f0 := XRk.out.froz 0
      have f1 := XRk.out.froz 1
      simp at e0 e1
      have y9 := (XRk.out.set 0 (Value.int .i64 0)).set 1 (Value.slice none 0 0)
      have Y0 := kide (y9.cell 0)
      have Y1 := kide (y9.cell 1)
      have BE : Hid (Below w.heap.size w ((wr.setCell ⟨b1, 0, none⟩ (Value.int .i64 0)).setCell ⟨b1, 1, none⟩ (Value.slice none 0 0))) := (BW.out.setCell (p := ⟨b1, 0, none⟩) HL1.out _).setCell (p := ⟨b1, 1, none⟩) HL1.out _
      clear y9
      go_wp2_with fail
      have y0 := Y0.out
      have y1 := Y1.out
      simp at y0 y1
      exact bodyPost_ret (v := .tuple #[.agg #[.int .i64 0, .slice none 0 0], .bool false]) (by simp [results, Tryz.results25, go_sem, y0, y1]) rfl ⟨0, none, 0, 0, (by first | (rw [hfin.out]; simp; done) | rw [hfin.out]), BE.out⟩

end Go.Proofs.YtdlmgndmfphneaaGreatDoor
