/- Marks, wherever they begin. -/
import Derived.Test.YtllojnloldhghaaGreatDoorEB
namespace Go.Proofs.YtllojnloldhghaaGreatDoor
set_option linter.unusedVariables false
set_option linter.unusedSimpArgs false
open Go.RowKit

theorem markInt64S_big (g c n k : Nat) (zs : List Int) (w : World) (ho : OwnI w g zs) (hz : zs.length = n) (hn : n ≤ 1048576) (hk : k + n ≤ 9000000000000000000) :
    Calls Tryz.prog 22 #[.slice (some ⟨g, 0, none⟩) n c, .int .i64 (k : Int)] w fun e w' => e = .returned (.int .i64 ((k + n : Nat) : Int)) ∧ (∃ zs', OwnI w' g zs' ∧ zs'.length = n) ∧ w.grownBy w' (some g) := by
  go_enter Tryz.func22, Tryz.ntmps22
  go_wp2_with fail
  go_loopw [1, 5] (fun q i wr => ∃ (j : Nat) (ys : List Int), j ≤ n ∧ i = .int .i64 (j : Int) ∧ q = .int .i64 ((k + j : Nat) : Int) ∧ OwnI wr g ys ∧ ys.length = n ∧ w.grownBy wr (some g)) (fun _ i _ => n - (intOf i).toNat)
  case atStart => exact ⟨0, zs, Nat.zero_le _, rfl, by simp, ho, hz, ⟨rfl, rfl, rfl, Nat.le_refl _, fun _ _ _ => rfl⟩⟩
  case round =>
    obtain ⟨j, ys, hj, rfl, rfl, hown, hl, hg⟩ := hrel
    have HG := kide hg
    by_cases hlt : j < n
    · have q0 := hown.cell (i := j) (by omega)
      have r0 := hown.free j
      generalize ys.getD j 0 = y0 at q0
      generalize hK : k + j = K at *
      have HK := kide hK
      have hKb : K ≤ 9000000000000000000 := by omega
      have i0 : (j : Int) < (n : Int) := by omega
      have HO := kide hown
      have HL := kide hl
      clear hown hl hg hK
      go_wp2_with fail
      go_roundw
      case rel => exact ⟨j + 1, ys.set j (K : Int), by omega, by go_num, by rw [show k + (j + 1) = K + 1 by have := HK.out; omega]; first | go_num | (simp; done), HO.out.put j _, by rw [List.length_set]; exact HL.out, grow_set HG.out j _⟩
      case measure => simp [intOf]; omega
    · have e : j = n := by omega
      subst e
      have HO := kide hown
      have HL := kide hl
      clear hown hl hg
      go_wp2_with fail
      go_ret
      exact ⟨rfl, ⟨ys, HO.out, HL.out⟩, HG.out⟩

theorem markUint64S_big (g c n k : Nat) (zs : List Nat) (w : World) (ho : Own w g zs) (hz : zs.length = n) (hn : n ≤ 1048576) (hk : k + n ≤ 9000000000000000000) :
    Calls Tryz.prog 54 #[.slice (some ⟨g, 0, none⟩) n c, .int .i64 (k : Int)] w fun e w' => e = .returned (.int .i64 ((k + n : Nat) : Int)) ∧ (∃ zs', Own w' g zs' ∧ zs'.length = n) ∧ w.grownBy w' (some g) := by
  go_enter Tryz.func54, Tryz.ntmps54
  go_wp2_with fail
  go_loopw [1, 5] (fun q i wr => ∃ (j : Nat) (ys : List Nat), j ≤ n ∧ i = .int .i64 (j : Int) ∧ q = .int .i64 ((k + j : Nat) : Int) ∧ Own wr g ys ∧ ys.length = n ∧ w.grownBy wr (some g)) (fun _ i _ => n - (intOf i).toNat)
  case atStart => exact ⟨0, zs, Nat.zero_le _, rfl, by simp, ho, hz, ⟨rfl, rfl, rfl, Nat.le_refl _, fun _ _ _ => rfl⟩⟩
  case round =>
    obtain ⟨j, ys, hj, rfl, rfl, hown, hl, hg⟩ := hrel
    have HG := kide hg
    by_cases hlt : j < n
    · have q0 := hown.cell (i := j) (by omega)
      have r0 := hown.free j
      generalize ys.getD j 0 = y0 at q0
      generalize hK : k + j = K at *
      have HK := kide hK
      have hKb : K ≤ 9000000000000000000 := by omega
      have i0 : (j : Int) < (n : Int) := by omega
      have HO := kide hown
      have HL := kide hl
      clear hown hl hg hK
      go_wp2_with fail
      go_roundw
      case rel => exact ⟨j + 1, ys.set j K, by omega, by go_num, by rw [show k + (j + 1) = K + 1 by have := HK.out; omega]; first | go_num | (simp; done), HO.out.put j _, by rw [List.length_set]; exact HL.out, grow_set HG.out j _⟩
      case measure => simp [intOf]; omega
    · have e : j = n := by omega
      subst e
      have HO := kide hown
      have HL := kide hl
      clear hown hl hg
      go_wp2_with fail
      go_ret
      exact ⟨rfl, ⟨ys, HO.out, HL.out⟩, HG.out⟩

set_option maxHeartbeats 1000000 in
theorem markTNodeS_big (g c n k B1 B2 : Nat) (xs : List Tg) (w : World) (f : Nat → Value) (hr : w.rowIs g 116 (n * 7) f) (hf : TnF f xs) (hx : ∀ x ∈ xs, WrT w B1 B2 x ∧ x.ct.ws.length ≤ 1048576 ∧ x.ct.ks.length ≤ 1048576) (hn : xs.length = n) (hn2 : n ≤ 1048576) (hk : k + n * 2097157 ≤ 9000000000000000000) (hg1 : B1 ≤ g) (hg2 : g < B2) :
    Calls Tryz.prog 53 #[.slice (some ⟨g, 0, none⟩) n c, .int .i64 (k : Int)] w fun e w' => (∃ r : Nat, r ≤ k + n * 2097157 ∧ e = .returned (.int .i64 (r : Int))) ∧ Out B1 B2 w w' := by
  have HN := kide hn
  clear hn
  go_enter Tryz.func53, Tryz.ntmps53
  go_wp2_with fail
  go_loopw [1, 5] (fun q i wr => ∃ (j K : Nat) (f : Nat → Value), j ≤ n ∧ i = .int .i64 (j : Int) ∧ q = .int .i64 (K : Int) ∧ K ≤ k + j * 2097157 ∧ wr.rowIs g 116 (n * 7) f ∧ TnF f xs ∧ (∀ x ∈ xs, WrT wr B1 B2 x ∧ x.ct.ws.length ≤ 1048576 ∧ x.ct.ks.length ≤ 1048576) ∧ Out B1 B2 w wr) (fun _ i _ => n - (intOf i).toNat)
  case atStart => exact ⟨0, k, f, Nat.zero_le _, rfl, rfl, by omega, hr, hf, hx, Out.refl _ _ _⟩
  case round =>
    clear hr hf hx
    obtain ⟨j, K, f, hj, rfl, rfl, hK, hrow, hf, hxs, hout⟩ := hrel
    have HO := kide hout
    have HRW := kide hrow
    have HXS := kide hxs
    have HF := kide hf
    by_cases hlt : j < n
    · obtain ⟨⟨s1, wa, wc, ka, kc⟩, gx⟩ : ∃ x, xs[j]? = some x := ⟨xs[j]'(by rw [HN.out]; exact hlt), List.getElem?_eq_getElem _⟩
      obtain ⟨hw, hwl, hkl⟩ := hxs _ (List.mem_of_getElem? gx)
      obtain ⟨⟨k0, k1, k2, k3, k4, e0, e1, e2, e3, e4⟩, e5, e6⟩ := hf j _ gx
      have HWT := kide hw
      obtain ⟨⟨ga, za, a1, a2, a3, a4, a5⟩, gb, zb, b1, b2, b3, b4, b5⟩ := hw
      simp only [] at e5 e6 hwl hkl a1 a5 b1 b5
      subst a1
      subst b1
      have q0 := hrow.cell (i := j * 7) (by omega)
      have q1 := hrow.cell (i := j * 7 + 1) (by omega)
      have q2 := hrow.cell (i := j * 7 + 2) (by omega)
      have q3 := hrow.cell (i := j * 7 + 3) (by omega)
      have q4 := hrow.cell (i := j * 7 + 4) (by omega)
      have q5 := hrow.cell (i := j * 7 + 5) (by omega)
      have q6 := hrow.cell (i := j * 7 + 6) (by omega)
      rw [e0] at q0
      rw [e1] at q1
      rw [e2] at q2
      rw [e3] at q3
      rw [e4] at q4
      rw [e5] at q5
      rw [e6] at q6
      have r0 := hrow.frozen (j * 7)
      have r1 := hrow.frozen (j * 7 + 1)
      have r2 := hrow.frozen (j * 7 + 2)
      have r3 := hrow.frozen (j * 7 + 3)
      have r4 := hrow.frozen (j * 7 + 4)
      have hKb : K + 2097157 ≤ 9000000000000000000 := by omega
      have HKN := kide hK
      have i0 : (j : Int) < (n : Int) := by omega
      have hga : g ≠ ga := by
        rintro rfl
        obtain ⟨cc, hh, -⟩ := HRW.out
        unfold Own at a4
        rw [hh] at a4
        cases a4
      have hgb : g ≠ gb := by
        rintro rfl
        obtain ⟨cc, hh, -⟩ := HRW.out
        unfold OwnI at b4
        rw [hh] at b4
        cases b4
      have hab := own_ne a4 b4
      have A4 := kide a4
      have A5 := kide a5
      have B4 := kide b4
      have B5 := kide b5
      have E5 := kide e5
      have E6 := kide e6
      have GX := kide gx
      clear hout hrow hxs hf gx hK a4 a5 b4 b5 e0 e1 e2 e3 e4 e5 e6
      go_wp2_with fail
      have HR1 := kide (World.rowIs.set (World.rowIs.set (World.rowIs.set (World.rowIs.set (World.rowIs.set HRW.out (j * 7) (.int .i64 (K : Int))) (j * 7 + 1) (.int .i64 ((K : Int) + 1))) (j * 7 + 2) (.int .i64 ((K : Int) + 1 + 1))) (j * 7 + 3) (.int .i64 ((K : Int) + 1 + 1 + 1))) (j * 7 + 4) (.int .i64 ((K : Int) + 1 + 1 + 1 + 1)))
      have hgl : g < wr.heap.size := by obtain ⟨cc, hh, -⟩ := HRW.out; exact lt_of_block hh
      have HG1 := kide (grow_set (grow_set (grow_set (grow_set (grow_set (World.grownBy.refl wr (some g)) (j * 7) (.int .i64 (K : Int))) (j * 7 + 1) (.int .i64 ((K : Int) + 1))) (j * 7 + 2) (.int .i64 ((K : Int) + 1 + 1))) (j * 7 + 3) (.int .i64 ((K : Int) + 1 + 1 + 1))) (j * 7 + 4) (.int .i64 ((K : Int) + 1 + 1 + 1 + 1)))
      generalize ((((wr.setCell ⟨g, j * 7, none⟩ (.int .i64 (K : Int))).setCell ⟨g, j * 7 + 1, none⟩ (.int .i64 ((K : Int) + 1))).setCell ⟨g, j * 7 + 2, none⟩ (.int .i64 ((K : Int) + 1 + 1))).setCell ⟨g, j * 7 + 3, none⟩ (.int .i64 ((K : Int) + 1 + 1 + 1))).setCell ⟨g, j * 7 + 4, none⟩ (.int .i64 ((K : Int) + 1 + 1 + 1 + 1)) = w1 at *
      have hf1 : ∃ f1, w1.rowIs g 116 (n * 7) f1 ∧ TnF f1 xs := ⟨_, HR1.out, fun i x hi => by
        obtain ⟨⟨k0', k1', k2', k3', k4', e0, e1, e2, e3, e4⟩, e5, e6⟩ := HF.out i x hi
        by_cases hij : i = j
        · subst hij
          refine ⟨⟨K, K + 1, K + 1 + 1, K + 1 + 1 + 1, K + 1 + 1 + 1 + 1, ?_, ?_, ?_, ?_, ?_⟩, ?_, ?_⟩
          all_goals first | exact e5 | exact e6 | skip
          all_goals simp
          all_goals first | exact e5 | exact e6
        · refine ⟨⟨k0', k1', k2', k3', k4', ?_, ?_, ?_, ?_, ?_⟩, ?_, ?_⟩
          all_goals
            show (if _ then _ else _) = _
            rw [if_neg (by omega), if_neg (by omega), if_neg (by omega), if_neg (by omega), if_neg (by omega)]
            assumption⟩
      obtain ⟨f1, hrow1, htn1⟩ := hf1
      have W1 : Hid (∀ x ∈ xs, WrT w1 B1 B2 x ∧ x.ct.ws.length ≤ 1048576 ∧ x.ct.ks.length ≤ 1048576) := fun x hx => ⟨(HXS.out x hx).1.row HRW.out HG1.out, (HXS.out x hx).2⟩
      have O1 := kide (HO.out.trans (Out.grown HG1.out hg1 hg2))
      have A41 : Hid (Own w1 ga za) := by
        show w1.heap[ga]? = _
        rw [HG1.out.block ga A4.out.lt (fun e => hga (by cases e; rfl))]
        exact A4.out
      have B41 : Hid (OwnI w1 gb zb) := by
        show w1.heap[gb]? = _
        rw [HG1.out.block gb B4.out.lt (fun e => hgb (by cases e; rfl))]
        exact B4.out
      have e51 := (htn1 j _ GX.out).2.1
      have e61 := (htn1 j _ GX.out).2.2
      have R1 := kide hrow1
      have T1 := kide htn1
      clear hrow1 htn1 HR1 HG1 HRW HF HXS HO A4 B4 q0 q1 q2 q3 q4 q5 q6 r0 r1 r2 r3 r4 E5 E6 HWT
      obtain ⟨K5, hK5⟩ : ∃ K5 : Nat, K + 5 = K5 := ⟨_, rfl⟩
      have hKe : (K : Int) + 1 + 1 + 1 + 1 + 1 = (K5 : Int) := by omega
      rw [hKe]
      have HK5 := kide hK5
      have hKb5 : K5 + 2097152 ≤ 9000000000000000000 := by omega
      clear hK5 hKb
      refine Calls.mono (markUint64S_big ga wc s1.ws.length K5 za w1 A41.out A5.out hwl (by omega)) ?_
      rintro e w2 ⟨rfl, ⟨za', ho2, hl2⟩, hgr2⟩
      have R2 : Hid (w2.rowIs g 116 (n * 7) f1) := World.rowIs.of_block R1.out (hgr2.block g (by obtain ⟨cc, hh, -⟩ := R1.out; exact lt_of_block hh) (fun e => hga (by cases e; rfl)))
      have W2 : Hid (∀ x ∈ xs, WrT w2 B1 B2 x ∧ x.ct.ws.length ≤ 1048576 ∧ x.ct.ks.length ≤ 1048576) := fun x hx => ⟨(W1.out x hx).1.words hgr2 A41.out ho2 (by have := A5.out; omega), (W1.out x hx).2⟩
      have B42 : Hid (OwnI w2 gb zb) := by
        show w2.heap[gb]? = _
        rw [hgr2.block gb B41.out.lt (fun e => hab (by cases e; rfl))]
        exact B41.out
      have O2 := kide (O1.out.trans (Out.grown hgr2 a2 a3))
      have q5 := R2.out.cell (i := j * 7 + 5) (by omega)
      have q6 := R2.out.cell (i := j * 7 + 6) (by omega)
      rw [e51] at q5
      rw [e61] at q6
      simp only [] at q5 q6
      clear ho2 hl2 hgr2 W1 O1 R1 A41 B41 e51 e61 A5
      obtain ⟨K6, hK6⟩ : ∃ K6 : Nat, K5 + s1.ws.length = K6 := ⟨_, rfl⟩
      rw [hK6]
      have HK6 := kide hK6
      have hKb6 : K6 + 1048576 ≤ 9000000000000000000 := by omega
      clear hK6 hKb5
      go_wp2_with fail
      refine Calls.mono (markInt64S_big gb kc s1.ks.length K6 zb w2 B42.out B5.out hkl (by omega)) ?_
      rintro e w3 ⟨rfl, ⟨zb', ho3, hl3⟩, hgr3⟩
      have R3 : Hid (w3.rowIs g 116 (n * 7) f1) := World.rowIs.of_block R2.out (hgr3.block g (by obtain ⟨cc, hh, -⟩ := R2.out; exact lt_of_block hh) (fun e => hgb (by cases e; rfl)))
      have W3 : Hid (∀ x ∈ xs, WrT w3 B1 B2 x ∧ x.ct.ws.length ≤ 1048576 ∧ x.ct.ks.length ≤ 1048576) := fun x hx => ⟨(W2.out x hx).1.kids hgr3 B42.out ho3 (by have := B5.out; omega), (W2.out x hx).2⟩
      have O3 := kide (O2.out.trans (Out.grown hgr3 b2 b3))
      have HKF : Hid (K6 + s1.ks.length ≤ k + (j + 1) * 2097157) := by
        show _ ≤ _
        have h1 := HKN.out
        have h2 := HK5.out
        have h3 := HK6.out
        rw [Nat.succ_mul]
        omega
      clear ho3 hl3 hgr3 W2 O2 R2 B42 q5 q6
      go_wp2_with fail
      go_roundw
      case rel => exact ⟨j + 1, K6 + s1.ks.length, f1, by omega, by go_num, rfl, HKF.out, R3.out, T1.out, W3.out, O3.out⟩
      case measure => simp [intOf]; omega
    · have e : j = n := by omega
      have hKn : Hid (K ≤ k + n * 2097157) := by show _ ≤ _; rw [← e]; exact hK
      clear hout hrow hxs hf hK
      go_wp2_with fail
      go_ret
      exact ⟨⟨K, hKn.out, rfl⟩, HO.out⟩


end Go.Proofs.YtllojnloldhghaaGreatDoor
