/- Several texts in one. -/
import Derived.Test.YtkkboaiablfdbaaGreatDoorZTM
import Derived.Test.YtkkboaiablfdbaaGreatDoorRPG
import Derived.Test.YtkkboaiablfdbaaGreatDoorRPH
import Derived.Test.YtkkboaiablfdbaaGreatDoorZOA

/- Marks, wherever they begin. -/
namespace Go.Proofs.YtkkboaiablfdbaaGreatDoor
set_option linter.unusedVariables false
set_option linter.unusedSimpArgs false
open Go.RowKit

theorem markInt64S_big (g c n k : Nat) (zs : List Int) (w : World) (ho : OwnI w g zs) (hz : zs.length = n) (hn : n ≤ 1048576) (hk : k + n ≤ 9000000000000000000) :
    Calls Tryz.prog 47 #[.slice (some ⟨g, 0, none⟩) n c, .int .i64 (k : Int)] w fun e w' => e = .returned (.int .i64 ((k + n : Nat) : Int)) ∧ (∃ zs', OwnI w' g zs' ∧ zs'.length = n) ∧ w.grownBy w' (some g) := by
  go_enter Tryz.func47, Tryz.ntmps47
  go_wp2_with fail
  go_loopw [1, 5] (fun q i wr => ∃ (j : Nat) (ys : List Int), j ≤ n ∧ i = .int .i64 (j : Int) ∧ q = .int .i64 ((k + j : Nat) : Int) ∧ OwnI wr g ys ∧ ys.length = n ∧ w.grownBy wr (some g)) (fun _ i _ => n - (intOf i).toNat)
  case atStart => exact ⟨0, zs, Nat.zero_le _, rfl, by simp, ho, hz, ⟨rfl, rfl, rfl, Nat.le_refl _, fun _ _ _ => rfl⟩⟩
  case round =>
    obtain ⟨j, ys, hj, rfl, rfl, hown, hl, hg⟩ := hrel
    have HG := kide hg
    by_cases hlt : j < n
    · have q0 := hown.cell (i := j) (by omega)
      have r0 := hown.free j
      generalize ys.getD j 0 = y0 at q0
      generalize hK : k + j = K at *
      have HK := kide hK
      have hKb : K ≤ 9000000000000000000 := by omega
      have i0 : (j : Int) < (n : Int) := by omega
      have HO := kide hown
      have HL := kide hl
      clear hown hl hg hK
      go_wp2_with fail
      go_roundw
      case rel => exact ⟨j + 1, ys.set j (K : Int), by omega, by go_num, by rw [show k + (j + 1) = K + 1 by have := HK.out; omega]; first | go_num | (simp; done), HO.out.put j _, by rw [List.length_set]; exact HL.out, grow_set HG.out j _⟩
      case measure => simp [intOf]; omega
    · have e : j = n := by omega
      subst e
      have HO := kide hown
      have HL := kide hl
      clear hown hl hg
      go_wp2_with fail
      go_ret
      exact ⟨rfl, ⟨ys, HO.out, HL.out⟩, HG.out⟩

theorem markUint64S_big (g c n k : Nat) (zs : List Nat) (w : World) (ho : Own w g zs) (hz : zs.length = n) (hn : n ≤ 1048576) (hk : k + n ≤ 9000000000000000000) :
    Calls Tryz.prog 46 #[.slice (some ⟨g, 0, none⟩) n c, .int .i64 (k : Int)] w fun e w' => e = .returned (.int .i64 ((k + n : Nat) : Int)) ∧ (∃ zs', Own w' g zs' ∧ zs'.length = n) ∧ w.grownBy w' (some g) := by
  go_enter Tryz.func46, Tryz.ntmps46
  go_wp2_with fail
  go_loopw [1, 5] (fun q i wr => ∃ (j : Nat) (ys : List Nat), j ≤ n ∧ i = .int .i64 (j : Int) ∧ q = .int .i64 ((k + j : Nat) : Int) ∧ Own wr g ys ∧ ys.length = n ∧ w.grownBy wr (some g)) (fun _ i _ => n - (intOf i).toNat)
  case atStart => exact ⟨0, zs, Nat.zero_le _, rfl, by simp, ho, hz, ⟨rfl, rfl, rfl, Nat.le_refl _, fun _ _ _ => rfl⟩⟩
  case round =>
    obtain ⟨j, ys, hj, rfl, rfl, hown, hl, hg⟩ := hrel
    have HG := kide hg
    by_cases hlt : j < n
    · have q0 := hown.cell (i := j) (by omega)
      have r0 := hown.free j
      generalize ys.getD j 0 = y0 at q0
      generalize hK : k + j = K at *
      have HK := kide hK
      have hKb : K ≤ 9000000000000000000 := by omega
      have i0 : (j : Int) < (n : Int) := by omega
      have HO := kide hown
      have HL := kide hl
      clear hown hl hg hK
      go_wp2_with fail
      go_roundw
      case rel => exact ⟨j + 1, ys.set j K, by omega, by go_num, by rw [show k + (j + 1) = K + 1 by have := HK.out; omega]; first | go_num | (simp; done), HO.out.put j _, by rw [List.length_set]; exact HL.out, grow_set HG.out j _⟩
      case measure => simp [intOf]; omega
    · have e : j = n := by omega
      subst e
      have HO := kide hown
      have HL := kide hl
      clear hown hl hg
      go_wp2_with fail
      go_ret
      exact ⟨rfl, ⟨ys, HO.out, HL.out⟩, HG.out⟩

set_option maxHeartbeats 1000000 in
theorem markTNodeS_big (g c n k B1 B2 : Nat) (xs : List Tg) (w : World) (f : Nat → Value) (hr : w.rowIs g 53 (n * 7) f) (hf : TnF f xs) (hx : ∀ x ∈ xs, WrT w B1 B2 x ∧ x.ct.ws.length ≤ 1048576 ∧ x.ct.ks.length ≤ 1048576) (hn : xs.length = n) (hn2 : n ≤ 1048576) (hk : k + n * 2097157 ≤ 9000000000000000000) (hg1 : B1 ≤ g) (hg2 : g < B2) :
    Calls Tryz.prog 33 #[.slice (some ⟨g, 0, none⟩) n c, .int .i64 (k : Int)] w fun e w' => (∃ r : Nat, r ≤ k + n * 2097157 ∧ e = .returned (.int .i64 (r : Int))) ∧ Out B1 B2 w w' := by
  have HN := kide hn
  clear hn
  go_enter Tryz.func33, Tryz.ntmps33
  go_wp2_with fail
  go_loopw [1, 5] (fun q i wr => ∃ (j K : Nat) (f : Nat → Value), j ≤ n ∧ i = .int .i64 (j : Int) ∧ q = .int .i64 (K : Int) ∧ K ≤ k + j * 2097157 ∧ wr.rowIs g 53 (n * 7) f ∧ TnF f xs ∧ (∀ x ∈ xs, WrT wr B1 B2 x ∧ x.ct.ws.length ≤ 1048576 ∧ x.ct.ks.length ≤ 1048576) ∧ Out B1 B2 w wr) (fun _ i _ => n - (intOf i).toNat)
  case atStart => exact ⟨0, k, f, Nat.zero_le _, rfl, rfl, by omega, hr, hf, hx, Out.refl _ _ _⟩
  case round =>
    clear hr hf hx
    obtain ⟨j, K, f, hj, rfl, rfl, hK, hrow, hf, hxs, hout⟩ := hrel
    have HO := kide hout
    have HRW := kide hrow
    have HXS := kide hxs
    have HF := kide hf
    by_cases hlt : j < n
    · obtain ⟨⟨s1, wa, wc, ka, kc⟩, gx⟩ : ∃ x, xs[j]? = some x := ⟨xs[j]'(by rw [HN.out]; exact hlt), List.getElem?_eq_getElem _⟩
      obtain ⟨hw, hwl, hkl⟩ := hxs _ (List.mem_of_getElem? gx)
      obtain ⟨⟨k0, k1, k2, k3, k4, e0, e1, e2, e3, e4⟩, e5, e6⟩ := hf j _ gx
      have HWT := kide hw
      obtain ⟨⟨ga, za, a1, a2, a3, a4, a5⟩, gb, zb, b1, b2, b3, b4, b5⟩ := hw
      simp only [] at e5 e6 hwl hkl a1 a5 b1 b5
      subst a1
      subst b1
      have q0 := hrow.cell (i := j * 7) (by omega)
      have q1 := hrow.cell (i := j * 7 + 1) (by omega)
      have q2 := hrow.cell (i := j * 7 + 2) (by omega)
      have q3 := hrow.cell (i := j * 7 + 3) (by omega)
      have q4 := hrow.cell (i := j * 7 + 4) (by omega)
      have q5 := hrow.cell (i := j * 7 + 5) (by omega)
      have q6 := hrow.cell (i := j * 7 + 6) (by omega)
      rw [e0] at q0
      rw [e1] at q1
      rw [e2] at q2
      rw [e3] at q3
      rw [e4] at q4
      rw [e5] at q5
      rw [e6] at q6
      have r0 := hrow.frozen (j * 7)
      have r1 := hrow.frozen (j * 7 + 1)
      have r2 := hrow.frozen (j * 7 + 2)
      have r3 := hrow.frozen (j * 7 + 3)
      have r4 := hrow.frozen (j * 7 + 4)
      have hKb : K + 2097157 ≤ 9000000000000000000 := by omega
      have HKN := kide hK
      have i0 : (j : Int) < (n : Int) := by omega
      have hga : g ≠ ga := by
        rintro rfl
        obtain ⟨cc, hh, -⟩ := HRW.out
        unfold Own at a4
        rw [hh] at a4
        cases a4
      have hgb : g ≠ gb := by
        rintro rfl
        obtain ⟨cc, hh, -⟩ := HRW.out
        unfold OwnI at b4
        rw [hh] at b4
        cases b4
      have hab := own_ne a4 b4
      have A4 := kide a4
      have A5 := kide a5
      have B4 := kide b4
      have B5 := kide b5
      have E5 := kide e5
      have E6 := kide e6
      have GX := kide gx
      clear hout hrow hxs hf gx hK a4 a5 b4 b5 e0 e1 e2 e3 e4 e5 e6
      go_wp2_with fail
      have HR1 := kide (World.rowIs.set (World.rowIs.set (World.rowIs.set (World.rowIs.set (World.rowIs.set HRW.out (j * 7) (.int .i64 (K : Int))) (j * 7 + 1) (.int .i64 ((K : Int) + 1))) (j * 7 + 2) (.int .i64 ((K : Int) + 1 + 1))) (j * 7 + 3) (.int .i64 ((K : Int) + 1 + 1 + 1))) (j * 7 + 4) (.int .i64 ((K : Int) + 1 + 1 + 1 + 1)))
      have hgl : g < wr.heap.size := by obtain ⟨cc, hh, -⟩ := HRW.out; exact lt_of_block hh
      have HG1 := kide (grow_set (grow_set (grow_set (grow_set (grow_set (World.grownBy.refl wr (some g)) (j * 7) (.int .i64 (K : Int))) (j * 7 + 1) (.int .i64 ((K : Int) + 1))) (j * 7 + 2) (.int .i64 ((K : Int) + 1 + 1))) (j * 7 + 3) (.int .i64 ((K : Int) + 1 + 1 + 1))) (j * 7 + 4) (.int .i64 ((K : Int) + 1 + 1 + 1 + 1)))
      generalize ((((wr.setCell ⟨g, j * 7, none⟩ (.int .i64 (K : Int))).setCell ⟨g, j * 7 + 1, none⟩ (.int .i64 ((K : Int) + 1))).setCell ⟨g, j * 7 + 2, none⟩ (.int .i64 ((K : Int) + 1 + 1))).setCell ⟨g, j * 7 + 3, none⟩ (.int .i64 ((K : Int) + 1 + 1 + 1))).setCell ⟨g, j * 7 + 4, none⟩ (.int .i64 ((K : Int) + 1 + 1 + 1 + 1)) = w1 at *
      have hf1 : ∃ f1, w1.rowIs g 53 (n * 7) f1 ∧ TnF f1 xs := ⟨_, HR1.out, fun i x hi => by
        obtain ⟨⟨k0', k1', k2', k3', k4', e0, e1, e2, e3, e4⟩, e5, e6⟩ := HF.out i x hi
        by_cases hij : i = j
        · subst hij
          refine ⟨⟨K, K + 1, K + 1 + 1, K + 1 + 1 + 1, K + 1 + 1 + 1 + 1, ?_, ?_, ?_, ?_, ?_⟩, ?_, ?_⟩
          all_goals first | exact e5 | exact e6 | skip
          all_goals simp
          all_goals first | exact e5 | exact e6
        · refine ⟨⟨k0', k1', k2', k3', k4', ?_, ?_, ?_, ?_, ?_⟩, ?_, ?_⟩
          all_goals
            show (if _ then _ else _) = _
            rw [if_neg (by omega), if_neg (by omega), if_neg (by omega), if_neg (by omega), if_neg (by omega)]
            assumption⟩
      obtain ⟨f1, hrow1, htn1⟩ := hf1
      have W1 : Hid (∀ x ∈ xs, WrT w1 B1 B2 x ∧ x.ct.ws.length ≤ 1048576 ∧ x.ct.ks.length ≤ 1048576) := fun x hx => ⟨(HXS.out x hx).1.row HRW.out HG1.out, (HXS.out x hx).2⟩
      have O1 := kide (HO.out.trans (Out.grown HG1.out hg1 hg2))
      have A41 : Hid (Own w1 ga za) := by
        show w1.heap[ga]? = _
        rw [HG1.out.block ga A4.out.lt (fun e => hga (by cases e; rfl))]
        exact A4.out
      have B41 : Hid (OwnI w1 gb zb) := by
        show w1.heap[gb]? = _
        rw [HG1.out.block gb B4.out.lt (fun e => hgb (by cases e; rfl))]
        exact B4.out
      have e51 := (htn1 j _ GX.out).2.1
      have e61 := (htn1 j _ GX.out).2.2
      have R1 := kide hrow1
      have T1 := kide htn1
      clear hrow1 htn1 HR1 HG1 HRW HF HXS HO A4 B4 q0 q1 q2 q3 q4 q5 q6 r0 r1 r2 r3 r4 E5 E6 HWT
      obtain ⟨K5, hK5⟩ : ∃ K5 : Nat, K + 5 = K5 := ⟨_, rfl⟩
      have hKe : (K : Int) + 1 + 1 + 1 + 1 + 1 = (K5 : Int) := by omega
      rw [hKe]
      have HK5 := kide hK5
      have hKb5 : K5 + 2097152 ≤ 9000000000000000000 := by omega
      clear hK5 hKb
      refine Calls.mono (markUint64S_big ga wc s1.ws.length K5 za w1 A41.out A5.out hwl (by omega)) ?_
      rintro e w2 ⟨rfl, ⟨za', ho2, hl2⟩, hgr2⟩
      have R2 : Hid (w2.rowIs g 53 (n * 7) f1) := World.rowIs.of_block R1.out (hgr2.block g (by obtain ⟨cc, hh, -⟩ := R1.out; exact lt_of_block hh) (fun e => hga (by cases e; rfl)))
      have W2 : Hid (∀ x ∈ xs, WrT w2 B1 B2 x ∧ x.ct.ws.length ≤ 1048576 ∧ x.ct.ks.length ≤ 1048576) := fun x hx => ⟨(W1.out x hx).1.words hgr2 A41.out ho2 (by have := A5.out; omega), (W1.out x hx).2⟩
      have B42 : Hid (OwnI w2 gb zb) := by
        show w2.heap[gb]? = _
        rw [hgr2.block gb B41.out.lt (fun e => hab (by cases e; rfl))]
        exact B41.out
      have O2 := kide (O1.out.trans (Out.grown hgr2 a2 a3))
      have q5 := R2.out.cell (i := j * 7 + 5) (by omega)
      have q6 := R2.out.cell (i := j * 7 + 6) (by omega)
      rw [e51] at q5
      rw [e61] at q6
      simp only [] at q5 q6
      clear ho2 hl2 hgr2 W1 O1 R1 A41 B41 e51 e61 A5
      obtain ⟨K6, hK6⟩ : ∃ K6 : Nat, K5 + s1.ws.length = K6 := ⟨_, rfl⟩
      rw [hK6]
      have HK6 := kide hK6
      have hKb6 : K6 + 1048576 ≤ 9000000000000000000 := by omega
      clear hK6 hKb5
      go_wp2_with fail
      refine Calls.mono (markInt64S_big gb kc s1.ks.length K6 zb w2 B42.out B5.out hkl (by omega)) ?_
      rintro e w3 ⟨rfl, ⟨zb', ho3, hl3⟩, hgr3⟩
      have R3 : Hid (w3.rowIs g 53 (n * 7) f1) := World.rowIs.of_block R2.out (hgr3.block g (by obtain ⟨cc, hh, -⟩ := R2.out; exact lt_of_block hh) (fun e => hgb (by cases e; rfl)))
      have W3 : Hid (∀ x ∈ xs, WrT w3 B1 B2 x ∧ x.ct.ws.length ≤ 1048576 ∧ x.ct.ks.length ≤ 1048576) := fun x hx => ⟨(W2.out x hx).1.kids hgr3 B42.out ho3 (by have := B5.out; omega), (W2.out x hx).2⟩
      have O3 := kide (O2.out.trans (Out.grown hgr3 b2 b3))
      have HKF : Hid (K6 + s1.ks.length ≤ k + (j + 1) * 2097157) := by
        show _ ≤ _
        have h1 := HKN.out
        have h2 := HK5.out
        have h3 := HK6.out
        rw [Nat.succ_mul]
        omega
      clear ho3 hl3 hgr3 W2 O2 R2 B42 q5 q6
      go_wp2_with fail
      go_roundw
      case rel => exact ⟨j + 1, K6 + s1.ks.length, f1, by omega, by go_num, rfl, HKF.out, R3.out, T1.out, W3.out, O3.out⟩
      case measure => simp [intOf]; omega
    · have e : j = n := by omega
      have hKn : Hid (K ≤ k + n * 2097157) := by show _ ≤ _; rw [← e]; exact hK
      clear hout hrow hxs hf hK
      go_wp2_with fail
      go_ret
      exact ⟨⟨K, hKn.out, rfl⟩, HO.out⟩


end Go.Proofs.YtkkboaiablfdbaaGreatDoor

/- Replace: what the law asks of contents; a term marked from any number on; sizes of variables and two terms. -/
namespace Go.Proofs.YtkkboaiablfdbaaGreatDoor
set_option linter.unusedVariables false
set_option linter.unusedSimpArgs false
open Go.RowKit

theorem markTerm_big (g c n k B1 B2 : Nat) (xs : List Tg) (w : World) (f : Nat → Value) (hr : w.rowIs g 53 (n * 7) f) (hf : TnF f xs) (hx : ∀ x ∈ xs, WrT w B1 B2 x ∧ x.ct.ws.length ≤ 1048576 ∧ x.ct.ks.length ≤ 1048576) (hn : xs.length = n) (hn2 : n ≤ 1048576) (hk : k + n * 2097157 ≤ 9000000000000000000) (hg1 : B1 ≤ g) (hg2 : g < B2) :
    Calls Tryz.prog 13 #[.agg #[.slice (some ⟨g, 0, none⟩) n c], .int .i64 (k : Int)] w fun e w' => (∃ r : Nat, r ≤ k + n * 2097157 ∧ e = .returned (.int .i64 (r : Int))) ∧ Out B1 B2 w w' := by
  have hb0 : Below w.heap.size w (w.alloc (Obj.cells #[Value.slice (some ⟨g, 0, none⟩) n c] 30)) := (Below.refl _ _).alloc (Nat.le_refl _) _
  have hgl : g < w.heap.size := by obtain ⟨cc, hh, -⟩ := hr; exact lt_of_block hh
  have HC := kide (markTNodeS_big g c n k B1 B2 xs _ f (World.rowIs.of_block hr (hb0.block g hgl)) hf (fun x hx' => ⟨(hx x hx').1.out (Out.ofB (B1 := B2) (B2 := B2) hb0) (.inr (Nat.le_refl _)), (hx x hx').2⟩) hn hn2 hk hg1 hg2)
  have B0 := kide hb0
  have HK := kide hk
  clear hr hf hx hn hb0 hk hn2
  go_enter Tryz.func13, Tryz.ntmps13
  go_wp2_with fail
  refine Calls.mono HC.out ?_
  rintro e w1 ⟨⟨r, hr, rfl⟩, ho⟩
  have HO := kide ((Out.ofB B0.out).trans ho)
  have HRR := kide hr
  clear ho hr
  go_wp2_with fail
  go_ret
  exact ⟨⟨r, HRR.out, rfl⟩, HO.out⟩

theorem sizes_dtt (a b d : Option Addr) (n c n2 c2 n3 c3 : Nat) (w : World) (hn : n ≤ 9223372036854775807) (hn2 : n2 ≤ 9223372036854775807) (hn3 : n3 ≤ 9223372036854775807)
    (hx : n ≤ 1048576 → ∃ ds : List Dc, ds.length = n ∧ RdD w a ds) (hy : n2 ≤ 1048576 → ∃ hs : List Th, hs.length = n2 ∧ RdTh w b hs ∧ ∀ h ∈ hs, NodeOf w h) (hw : n3 ≤ 1048576 → ∃ hs : List Th, hs.length = n3 ∧ RdTh w d hs ∧ ∀ h ∈ hs, NodeOf w h) :
    ∃ Z Z2 Z3 : Int, (∀ u, Below w.heap.size w u → Calls Tryz.prog 4 #[.slice a n c, .int .i64 1048576] u fun e w' => e = .returned (.int .i64 Z) ∧ Below u.heap.size u w') ∧
      (0 ≤ Z → ∀ u, Below w.heap.size w u → Calls Tryz.prog 5 #[.agg #[.slice b n2 c2], .int .i64 Z] u fun e w' => e = .returned (.int .i64 Z2) ∧ Below u.heap.size u w') ∧
      (0 ≤ Z → 0 ≤ Z2 → ∀ u, Below w.heap.size w u → Calls Tryz.prog 5 #[.agg #[.slice d n3 c3], .int .i64 Z2] u fun e w' => e = .returned (.int .i64 Z3) ∧ Below u.heap.size u w') ∧
      (0 ≤ Z → 0 ≤ Z2 → 0 ≤ Z3 → ∃ (ds : List Dc) (xs ys : List Tg), ds.length = n ∧ xs.length = n2 ∧ ys.length = n3 ∧ RdD w a ds ∧ RdT w b xs ∧ RdT w d ys) := by
  by_cases h : n ≤ 1048576
  · obtain ⟨ds, rfl, hr⟩ := hx h
    have hZ := szD_range ds (1048576 - ds.length) (by omega)
    have hSZ := fun u (hu : Below w.heap.size w u) => szDeclS_in a c ds 1048576 u (hr.later hu) (by omega) (by omega) (by omega)
    generalize szD ds (1048576 - ds.length) = Z at *
    by_cases hz : Z < 0
    · exact ⟨Z, 0, 0, hSZ, fun h' => by omega, fun h' => by omega, fun h' => by omega⟩
    have hz0 : 0 ≤ Z := by omega
    have hz1 : Z ≤ 1048576 := by omega
    by_cases h2 : (n2 : Int) ≤ Z
    · obtain ⟨hs, rfl, hh, hk⟩ := hy (by omega)
      have hZ2 := szTl_range hs (Z - hs.length) (by omega)
      have hST := fun u (hu : Below w.heap.size w u) => szTerm_in b c2 hs Z u (hh.later hu) hz0 hz1 h2 _ rfl
      have hRT := fun hz2 => RdT_of hh hk (L := Z - hs.length) (by omega) (by omega) hz2
      generalize szTl hs (Z - hs.length) = Z2 at *
      by_cases hz2 : Z2 < 0
      · exact ⟨Z, Z2, 0, hSZ, fun _ => hST, fun _ h' => by omega, fun _ h' => by omega⟩
      have hz20 : 0 ≤ Z2 := by omega
      have hz21 : Z2 ≤ 1048576 := by omega
      by_cases h3 : (n3 : Int) ≤ Z2
      · obtain ⟨gs, rfl, gh, gk⟩ := hw (by omega)
        refine ⟨Z, Z2, szTl gs (Z2 - gs.length), hSZ, fun _ => hST, fun _ _ u hu => szTerm_in d c3 gs Z2 u (gh.later hu) hz20 hz21 h3 _ rfl, fun _ _ hz3 => ?_⟩
        obtain ⟨xs, hxl, hxs⟩ := hRT hz20
        obtain ⟨ys, hyl, hys⟩ := RdT_of gh gk (L := Z2 - gs.length) (by omega) (by omega) hz3
        exact ⟨ds, xs, ys, rfl, hxl, hyl, hr, hxs, hys⟩
      · exact ⟨Z, Z2, -1, hSZ, fun _ => hST, fun _ _ u hu => szTerm_out d n3 c3 Z2 u hz20 hz21 hn3 h3, fun _ _ h' => by omega⟩
    · exact ⟨Z, -1, 0, hSZ, fun _ u hu => szTerm_out b n2 c2 Z u hz0 hz1 hn2 h2, fun _ h' => by omega, fun _ h' => by omega⟩
  · exact ⟨-1, 0, 0, fun u hu => (szDeclS_out a n c 1048576 u (by omega) (by omega) hn (by omega)).mono (fun e w' hh => ⟨hh.1, by rw [hh.2]; exact Below.refl _ _⟩), fun h' => by omega, fun h' => by omega, fun h' => by omega⟩

theorem repR_ok (ds : List Dc) {ts us : List Tc} (v : Int) (ht : ∀ n ∈ ts, okT n) (hu : ∀ n ∈ us, okT n) : (repR ds ts v us).1.length ≤ 1048576 ∧ ∀ y ∈ (repR ds ts v us).1, okT y := by
  unfold repR
  by_cases h : repOk ds ts v us = true
  · rw [if_pos h]
    by_cases hl : (repC v us ts).length ≤ 400
    · rw [if_pos hl]
      refine ⟨by simp only; omega, ?_⟩
      unfold repOk at h
      simp only [Bool.and_eq_true, decide_eq_true_eq] at h
      obtain ⟨⟨h1, h2⟩, h3⟩ := h
      have hT := (wid_dcl h1).2
      have hD := (wid_dcl h1).1
      have hU : ¬ (widthsR ds us).length = 0 := by
        split at h3
        · rename_i d hd
          have h7 := dcl_pos hD (List.mem_of_getElem? hd)
          have h8 := of_decide_eq_true h3
          exact (wid_dcl (ns := us) (by omega)).2
        · cases h3
      obtain ⟨u1, u4, -, ua⟩ := right_kids hU
      obtain ⟨t1, t4, -, ta⟩ := right_kids hT
      obtain ⟨q1, q2, q3, q4, -, -⟩ := rep_core (v := v) hU hT
      have hN := rp_ok (v := v) u1 ua ta u4 t4 hu ht ts.length (Nat.le_refl _)
      have F := rpTo_f (v := v) u1 ua ta ts.length (Nat.le_refl _)
      have hP : ∀ n ∈ repP v us ts, okT n := by
        unfold repP prR
        exact pk_ok hN (by have := F.l1.2; omega) F.ah _ (Nat.le_refl _)
      have G := shTo_f q3 _ (Nat.le_refl _)
      rw [← q4]
      exact fun y hy => fm_ok (G.fm y hy) hP (N := (shTo (repP v us ts) (repP v us ts).length).1.length) (by have := G.l1; omega) (G.ks y hy)
    · rw [if_neg hl]; simp
  · rw [if_neg h]; simp

end Go.Proofs.YtkkboaiablfdbaaGreatDoor
