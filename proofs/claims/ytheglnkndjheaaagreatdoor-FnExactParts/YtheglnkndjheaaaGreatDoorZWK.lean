/- Several texts in one. -/
import Derived.Test.YtheglnkndjheaaaGreatDoorZEX
import Derived.Test.YtheglnkndjheaaaGreatDoorZTN
import Derived.Test.YtheglnkndjheaaaGreatDoorZIA

/- Marks, wherever they begin. -/
namespace Go.Proofs.YtheglnkndjheaaaGreatDoor
set_option linter.unusedVariables false
set_option linter.unusedSimpArgs false
open Go.RowKit

theorem markInt64S_big (g c n k : Nat) (zs : List Int) (w : World) (ho : OwnI w g zs) (hz : zs.length = n) (hn : n ≤ 1048576) (hk : k + n ≤ 9000000000000000000) :
    Calls Tryz.prog 22 #[.slice (some ⟨g, 0, none⟩) n c, .int .i64 (k : Int)] w fun e w' => e = .returned (.int .i64 ((k + n : Nat) : Int)) ∧ (∃ zs', OwnI w' g zs' ∧ zs'.length = n) ∧ w.grownBy w' (some g) := by
  go_enter Tryz.func22, Tryz.ntmps22
  go_wp2_with fail
  go_loopw [1, 5] (fun q i wr => ∃ (j : Nat) (ys : List Int), j ≤ n ∧ i = .int .i64 (j : Int) ∧ q = .int .i64 ((k + j : Nat) : Int) ∧ OwnI wr g ys ∧ ys.length = n ∧ w.grownBy wr (some g)) (fun _ i _ => n - (intOf i).toNat)
  case atStart => exact ⟨0, zs, Nat.zero_le _, rfl, by simp, ho, hz, ⟨rfl, rfl, rfl, Nat.le_refl _, fun _ _ _ => rfl⟩⟩
  case round =>
    obtain ⟨j, ys, hj, rfl, rfl, hown, hl, hg⟩ := hrel
    have HG := kide hg
    by_cases hlt : j < n
    · have q0 := hown.cell (i := j) (by omega)
      have r0 := hown.free j
      generalize ys.getD j 0 = y0 at q0
      generalize hK : k + j = K at *
      have HK := kide hK
      have hKb : K ≤ 9000000000000000000 := by omega
      have i0 : (j : Int) < (n : Int) := by omega
      have HO := kide hown
      have HL := kide hl
      clear hown hl hg hK
      go_wp2_with fail
      go_roundw
      case rel => exact ⟨j + 1, ys.set j (K : Int), by omega, by go_num, by rw [show k + (j + 1) = K + 1 by have := HK.out; omega]; first | go_num | (simp; done), HO.out.put j _, by rw [List.length_set]; exact HL.out, grow_set HG.out j _⟩
      case measure => simp [intOf]; omega
    · have e : j = n := by omega
      subst e
      have HO := kide hown
      have HL := kide hl
      clear hown hl hg
      go_wp2_with fail
      go_ret
      exact ⟨rfl, ⟨ys, HO.out, HL.out⟩, HG.out⟩

theorem markUint64S_big (g c n k : Nat) (zs : List Nat) (w : World) (ho : Own w g zs) (hz : zs.length = n) (hn : n ≤ 1048576) (hk : k + n ≤ 9000000000000000000) :
    Calls Tryz.prog 60 #[.slice (some ⟨g, 0, none⟩) n c, .int .i64 (k : Int)] w fun e w' => e = .returned (.int .i64 ((k + n : Nat) : Int)) ∧ (∃ zs', Own w' g zs' ∧ zs'.length = n) ∧ w.grownBy w' (some g) := by
  go_enter Tryz.func60, Tryz.ntmps60
  go_wp2_with fail
  go_loopw [1, 5] (fun q i wr => ∃ (j : Nat) (ys : List Nat), j ≤ n ∧ i = .int .i64 (j : Int) ∧ q = .int .i64 ((k + j : Nat) : Int) ∧ Own wr g ys ∧ ys.length = n ∧ w.grownBy wr (some g)) (fun _ i _ => n - (intOf i).toNat)
  case atStart => exact ⟨0, zs, Nat.zero_le _, rfl, by simp, ho, hz, ⟨rfl, rfl, rfl, Nat.le_refl _, fun _ _ _ => rfl⟩⟩
  case round =>
    obtain ⟨j, ys, hj, rfl, rfl, hown, hl, hg⟩ := hrel
    have HG := kide hg
    by_cases hlt : j < n
    · have q0 := hown.cell (i := j) (by omega)
      have r0 := hown.free j
      generalize ys.getD j 0 = y0 at q0
      generalize hK : k + j = K at *
      have HK := kide hK
      have hKb : K ≤ 9000000000000000000 := by omega
      have i0 : (j : Int) < (n : Int) := by omega
      have HO := kide hown
      have HL := kide hl
      clear hown hl hg hK
      go_wp2_with fail
      go_roundw
      case rel => exact ⟨j + 1, ys.set j K, by omega, by go_num, by rw [show k + (j + 1) = K + 1 by have := HK.out; omega]; first | go_num | (simp; done), HO.out.put j _, by rw [List.length_set]; exact HL.out, grow_set HG.out j _⟩
      case measure => simp [intOf]; omega
    · have e : j = n := by omega
      subst e
      have HO := kide hown
      have HL := kide hl
      clear hown hl hg
      go_wp2_with fail
      go_ret
      exact ⟨rfl, ⟨ys, HO.out, HL.out⟩, HG.out⟩

set_option maxHeartbeats 1000000 in
theorem markTNodeS_big (g c n k B1 B2 : Nat) (xs : List Tg) (w : World) (f : Nat → Value) (hr : w.rowIs g 104 (n * 7) f) (hf : TnF f xs) (hx : ∀ x ∈ xs, WrT w B1 B2 x ∧ x.ct.ws.length ≤ 1048576 ∧ x.ct.ks.length ≤ 1048576) (hn : xs.length = n) (hn2 : n ≤ 1048576) (hk : k + n * 2097157 ≤ 9000000000000000000) (hg1 : B1 ≤ g) (hg2 : g < B2) :
    Calls Tryz.prog 38 #[.slice (some ⟨g, 0, none⟩) n c, .int .i64 (k : Int)] w fun e w' => (∃ r : Nat, r ≤ k + n * 2097157 ∧ e = .returned (.int .i64 (r : Int))) ∧ Out B1 B2 w w' := by
  have HN := kide hn
  clear hn
  go_enter Tryz.func38, Tryz.ntmps38
  go_wp2_with fail
  go_loopw [1, 5] (fun q i wr => ∃ (j K : Nat) (f : Nat → Value), j ≤ n ∧ i = .int .i64 (j : Int) ∧ q = .int .i64 (K : Int) ∧ K ≤ k + j * 2097157 ∧ wr.rowIs g 104 (n * 7) f ∧ TnF f xs ∧ (∀ x ∈ xs, WrT wr B1 B2 x ∧ x.ct.ws.length ≤ 1048576 ∧ x.ct.ks.length ≤ 1048576) ∧ Out B1 B2 w wr) (fun _ i _ => n - (intOf i).toNat)
  case atStart => exact ⟨0, k, f, Nat.zero_le _, rfl, rfl, by omega, hr, hf, hx, Out.refl _ _ _⟩
  case round =>
    clear hr hf hx
    obtain ⟨j, K, f, hj, rfl, rfl, hK, hrow, hf, hxs, hout⟩ := hrel
    have HO := kide hout
    have HRW := kide hrow
    have HXS := kide hxs
    have HF := kide hf
    by_cases hlt : j < n
    · obtain ⟨⟨s1, wa, wc, ka, kc⟩, gx⟩ : ∃ x, xs[j]? = some x := ⟨xs[j]'(by rw [HN.out]; exact hlt), List.getElem?_eq_getElem _⟩
      obtain ⟨hw, hwl, hkl⟩ := hxs _ (List.mem_of_getElem? gx)
      obtain ⟨⟨k0, k1, k2, k3, k4, e0, e1, e2, e3, e4⟩, e5, e6⟩ := hf j _ gx
      have HWT := kide hw
      obtain ⟨⟨ga, za, a1, a2, a3, a4, a5⟩, gb, zb, b1, b2, b3, b4, b5⟩ := hw
      simp only [] at e5 e6 hwl hkl a1 a5 b1 b5
      subst a1
      subst b1
      have q0 := hrow.cell (i := j * 7) (by omega)
      have q1 := hrow.cell (i := j * 7 + 1) (by omega)
      have q2 := hrow.cell (i := j * 7 + 2) (by omega)
      have q3 := hrow.cell (i := j * 7 + 3) (by omega)
      have q4 := hrow.cell (i := j * 7 + 4) (by omega)
      have q5 := hrow.cell (i := j * 7 + 5) (by omega)
      have q6 := hrow.cell (i := j * 7 + 6) (by omega)
      rw [e0] at q0
      rw [e1] at q1
      rw [e2] at q2
      rw [e3] at q3
      rw [e4] at q4
      rw [e5] at q5
      rw [e6] at q6
      have r0 := hrow.frozen (j * 7)
      have r1 := hrow.frozen (j * 7 + 1)
      have r2 := hrow.frozen (j * 7 + 2)
      have r3 := hrow.frozen (j * 7 + 3)
      have r4 := hrow.frozen (j * 7 + 4)
      have hKb : K + 2097157 ≤ 9000000000000000000 := by omega
      have HKN := kide hK
      have i0 : (j : Int) < (n : Int) := by omega
      have hga : g ≠ ga := by
        rintro rfl
        obtain ⟨cc, hh, -⟩ := HRW.out
        unfold Own at a4
        rw [hh] at a4
        cases a4
      have hgb : g ≠ gb := by
        rintro rfl
        obtain ⟨cc, hh, -⟩ := HRW.out
        unfold OwnI at b4
        rw [hh] at b4
        cases b4
      have hab := own_ne a4 b4
      have A4 := kide a4
      have A5 := kide a5
      have B4 := kide b4
      have B5 := kide b5
      have E5 := kide e5
      have E6 := kide e6
      have GX := kide gx
      clear hout hrow hxs hf gx hK a4 a5 b4 b5 e0 e1 e2 e3 e4 e5 e6
      go_wp2_with fail
      have HR1 := kide (World.rowIs.set (World.rowIs.set (World.rowIs.set (World.rowIs.set (World.rowIs.set HRW.out (j * 7) (.int .i64 (K : Int))) (j * 7 + 1) (.int .i64 ((K : Int) + 1))) (j * 7 + 2) (.int .i64 ((K : Int) + 1 + 1))) (j * 7 + 3) (.int .i64 ((K : Int) + 1 + 1 + 1))) (j * 7 + 4) (.int .i64 ((K : Int) + 1 + 1 + 1 + 1)))
      have hgl : g < wr.heap.size := by obtain ⟨cc, hh, -⟩ := HRW.out; exact lt_of_block hh
      have HG1 := kide (grow_set (grow_set (grow_set (grow_set (grow_set (World.grownBy.refl wr (some g)) (j * 7) (.int .i64 (K : Int))) (j * 7 + 1) (.int .i64 ((K : Int) + 1))) (j * 7 + 2) (.int .i64 ((K : Int) + 1 + 1))) (j * 7 + 3) (.int .i64 ((K : Int) + 1 + 1 + 1))) (j * 7 + 4) (.int .i64 ((K : Int) + 1 + 1 + 1 + 1)))
      generalize ((((wr.setCell ⟨g, j * 7, none⟩ (.int .i64 (K : Int))).setCell ⟨g, j * 7 + 1, none⟩ (.int .i64 ((K : Int) + 1))).setCell ⟨g, j * 7 + 2, none⟩ (.int .i64 ((K : Int) + 1 + 1))).setCell ⟨g, j * 7 + 3, none⟩ (.int .i64 ((K : Int) + 1 + 1 + 1))).setCell ⟨g, j * 7 + 4, none⟩ (.int .i64 ((K : Int) + 1 + 1 + 1 + 1)) = w1 at *
      have hf1 : ∃ f1, w1.rowIs g 104 (n * 7) f1 ∧ TnF f1 xs := ⟨_, HR1.out, fun i x hi => by
        obtain ⟨⟨k0', k1', k2', k3', k4', e0, e1, e2, e3, e4⟩, e5, e6⟩ := HF.out i x hi
        by_cases hij : i = j
        · subst hij
          refine ⟨⟨K, K + 1, K + 1 + 1, K + 1 + 1 + 1, K + 1 + 1 + 1 + 1, ?_, ?_, ?_, ?_, ?_⟩, ?_, ?_⟩
          all_goals first | exact e5 | exact e6 | skip
          all_goals simp
          all_goals first | exact e5 | exact e6
        · refine ⟨⟨k0', k1', k2', k3', k4', ?_, ?_, ?_, ?_, ?_⟩, ?_, ?_⟩
          all_goals
            show (if _ then _ else _) = _
            rw [if_neg (by omega), if_neg (by omega), if_neg (by omega), if_neg (by omega), if_neg (by omega)]
            assumption⟩
      obtain ⟨f1, hrow1, htn1⟩ := hf1
      have W1 : Hid (∀ x ∈ xs, WrT w1 B1 B2 x ∧ x.ct.ws.length ≤ 1048576 ∧ x.ct.ks.length ≤ 1048576) := fun x hx => ⟨(HXS.out x hx).1.row HRW.out HG1.out, (HXS.out x hx).2⟩
      have O1 := kide (HO.out.trans (Out.grown HG1.out hg1 hg2))
      have A41 : Hid (Own w1 ga za) := by
        show w1.heap[ga]? = _
        rw [HG1.out.block ga A4.out.lt (fun e => hga (by cases e; rfl))]
        exact A4.out
      have B41 : Hid (OwnI w1 gb zb) := by
        show w1.heap[gb]? = _
        rw [HG1.out.block gb B4.out.lt (fun e => hgb (by cases e; rfl))]
        exact B4.out
      have e51 := (htn1 j _ GX.out).2.1
      have e61 := (htn1 j _ GX.out).2.2
      have R1 := kide hrow1
      have T1 := kide htn1
      clear hrow1 htn1 HR1 HG1 HRW HF HXS HO A4 B4 q0 q1 q2 q3 q4 q5 q6 r0 r1 r2 r3 r4 E5 E6 HWT
      obtain ⟨K5, hK5⟩ : ∃ K5 : Nat, K + 5 = K5 := ⟨_, rfl⟩
      have hKe : (K : Int) + 1 + 1 + 1 + 1 + 1 = (K5 : Int) := by omega
      rw [hKe]
      have HK5 := kide hK5
      have hKb5 : K5 + 2097152 ≤ 9000000000000000000 := by omega
      clear hK5 hKb
      refine Calls.mono (markUint64S_big ga wc s1.ws.length K5 za w1 A41.out A5.out hwl (by omega)) ?_
      rintro e w2 ⟨rfl, ⟨za', ho2, hl2⟩, hgr2⟩
      have R2 : Hid (w2.rowIs g 104 (n * 7) f1) := World.rowIs.of_block R1.out (hgr2.block g (by obtain ⟨cc, hh, -⟩ := R1.out; exact lt_of_block hh) (fun e => hga (by cases e; rfl)))
      have W2 : Hid (∀ x ∈ xs, WrT w2 B1 B2 x ∧ x.ct.ws.length ≤ 1048576 ∧ x.ct.ks.length ≤ 1048576) := fun x hx => ⟨(W1.out x hx).1.words hgr2 A41.out ho2 (by have := A5.out; omega), (W1.out x hx).2⟩
      have B42 : Hid (OwnI w2 gb zb) := by
        show w2.heap[gb]? = _
        rw [hgr2.block gb B41.out.lt (fun e => hab (by cases e; rfl))]
        exact B41.out
      have O2 := kide (O1.out.trans (Out.grown hgr2 a2 a3))
      have q5 := R2.out.cell (i := j * 7 + 5) (by omega)
      have q6 := R2.out.cell (i := j * 7 + 6) (by omega)
      rw [e51] at q5
      rw [e61] at q6
      simp only [] at q5 q6
      clear ho2 hl2 hgr2 W1 O1 R1 A41 B41 e51 e61 A5
      obtain ⟨K6, hK6⟩ : ∃ K6 : Nat, K5 + s1.ws.length = K6 := ⟨_, rfl⟩
      rw [hK6]
      have HK6 := kide hK6
      have hKb6 : K6 + 1048576 ≤ 9000000000000000000 := by omega
      clear hK6 hKb5
      go_wp2_with fail
      refine Calls.mono (markInt64S_big gb kc s1.ks.length K6 zb w2 B42.out B5.out hkl (by omega)) ?_
      rintro e w3 ⟨rfl, ⟨zb', ho3, hl3⟩, hgr3⟩
      have R3 : Hid (w3.rowIs g 104 (n * 7) f1) := World.rowIs.of_block R2.out (hgr3.block g (by obtain ⟨cc, hh, -⟩ := R2.out; exact lt_of_block hh) (fun e => hgb (by cases e; rfl)))
      have W3 : Hid (∀ x ∈ xs, WrT w3 B1 B2 x ∧ x.ct.ws.length ≤ 1048576 ∧ x.ct.ks.length ≤ 1048576) := fun x hx => ⟨(W2.out x hx).1.kids hgr3 B42.out ho3 (by have := B5.out; omega), (W2.out x hx).2⟩
      have O3 := kide (O2.out.trans (Out.grown hgr3 b2 b3))
      have HKF : Hid (K6 + s1.ks.length ≤ k + (j + 1) * 2097157) := by
        show _ ≤ _
        have h1 := HKN.out
        have h2 := HK5.out
        have h3 := HK6.out
        rw [Nat.succ_mul]
        omega
      clear ho3 hl3 hgr3 W2 O2 R2 B42 q5 q6
      go_wp2_with fail
      go_roundw
      case rel => exact ⟨j + 1, K6 + s1.ks.length, f1, by omega, by go_num, rfl, HKF.out, R3.out, T1.out, W3.out, O3.out⟩
      case measure => simp [intOf]; omega
    · have e : j = n := by omega
      have hKn : Hid (K ≤ k + n * 2097157) := by show _ ≤ _; rw [← e]; exact hK
      clear hout hrow hxs hf hK
      go_wp2_with fail
      go_ret
      exact ⟨⟨K, hKn.out, rfl⟩, HO.out⟩


end Go.Proofs.YtheglnkndjheaaaGreatDoor

/- Copied literals, as the laws mark them. -/
namespace Go.Proofs.YtheglnkndjheaaaGreatDoor
set_option linter.unusedVariables false
set_option linter.unusedSimpArgs false
open Go.RowKit

/-- A term that may be written to: all of it lies between two blocks. -/
def WrTm (w : World) (B1 B2 : Nat) (a : Option Addr) (xs : List Tg) : Prop := ∃ g f, a = some ⟨g, 0, none⟩ ∧ B1 ≤ g ∧ g < B2 ∧ w.rowIs g 104 (xs.length * 7) f ∧ TnF f xs ∧ ∀ x ∈ xs, WrT w B1 B2 x ∧ x.ct.ws.length ≤ 1048576 ∧ x.ct.ks.length ≤ 1048576

theorem WrTm.out {w w' : World} {B1 B2 C1 C2 : Nat} {a : Option Addr} {xs : List Tg} (h : WrTm w B1 B2 a xs) (ho : Out C1 C2 w w') (hd : C2 ≤ B1 ∨ B2 ≤ C1) : WrTm w' B1 B2 a xs := by
  obtain ⟨g, f, e, h1, h2, h3, h4, h5⟩ := h
  exact ⟨g, f, e, h1, h2, rowIs_out h3 ho (by omega), h4, fun x hx => ⟨(h5 x hx).1.out ho hd, (h5 x hx).2⟩⟩

theorem WrTm.later {w w' : World} {B1 B2 : Nat} {a : Option Addr} {xs : List Tg} (h : WrTm w B1 B2 a xs) (hb : Below w.heap.size w w') : WrTm w' B1 B2 a xs := h.out (Out.ofB (B1 := B2) (B2 := B2) hb) (.inr (Nat.le_refl _))

theorem WrTm.set {w : World} {B1 B2 b : Nat} {a : Option Addr} {xs : List Tg} (h : WrTm w B1 B2 a xs) (hd : b < B1 ∨ B2 ≤ b) (o : Nat) (v : Value) : WrTm (w.setCell ⟨b, o, none⟩ v) B1 B2 a xs := h.out (Out.grown (B1 := b) (B2 := b + 1) (grow_set (World.grownBy.refl w (some b)) o v) (Nat.le_refl _) (Nat.lt_succ_self _)) (by omega)

theorem WrTm.setp {w : World} {B1 B2 : Nat} {p : Addr} {a : Option Addr} {xs : List Tg} (h : WrTm w B1 B2 a xs) (hd : p.block < B1 ∨ B2 ≤ p.block) (v : Value) : WrTm (w.setCell p v) B1 B2 a xs :=
  h.out (C1 := p.block) (C2 := p.block + 1) ⟨rfl, rfl, rfl, by simp, fun k hk hne => heap_setCell_other w p k v (fun e => by omega)⟩ (by omega)

theorem WrTm.mono {w : World} {B B1 B2 : Nat} {a : Option Addr} {xs : List Tg} (h : WrTm w B1 B2 a xs) (hB : B ≤ B1) : WrTm w B B2 a xs := by
  obtain ⟨g, f, e, h1, h2, h3, h4, h5⟩ := h
  refine ⟨g, f, e, by omega, h2, h3, h4, fun x hx => ⟨?_, (h5 x hx).2⟩⟩
  obtain ⟨⟨g1, z1, a1, a2, a3, a4⟩, g2, z2, b1, b2, b3, b4⟩ := (h5 x hx).1
  exact ⟨⟨g1, z1, a1, by omega, a3, a4⟩, g2, z2, b1, by omega, b3, b4⟩

theorem toTerm_wm (a : Option Addr) (c : Nat) (xs : List Tg) (w : World) (hr : RdT w a xs) (n : Nat) (hn : xs.length = n) :
    Calls Tryz.prog 52 #[.agg #[.slice a n c]] w fun e w' => ∃ (g : Nat) (ms : List Tg), e = .returned (.agg #[.slice (some ⟨g, 0, none⟩) n n]) ∧ ms.map Tg.ct = xs.map Tg.ct ∧ RdT w' (some ⟨g, 0, none⟩) ms ∧ FarT w.heap.size (some ⟨g, 0, none⟩) ms ∧ WrTm w' w.heap.size w'.heap.size (some ⟨g, 0, none⟩) ms ∧ Below w.heap.size w w' := by
  refine Calls.mono (toTerm_own a c xs w hr n hn) ?_
  rintro e w' ⟨g, ms, h1, h2, h3, h4, h5, ⟨f, h6, h7⟩, h8⟩
  refine ⟨g, ms, h1, h2, h3, h4, ⟨g, f, rfl, h5, rowIs_lt h6, by rw [len_of_tc h2 hn]; exact h6, TgOwn.tnf h7, fun x hx => ?_⟩, h8⟩
  obtain ⟨i, hi, e⟩ := List.mem_iff_getElem.1 hx
  have hi' : ms[i]? = some x := by rw [List.getElem?_eq_getElem hi, e]
  refine ⟨(h7 i x hi').wr h5, ?_⟩
  obtain ⟨-, h | ⟨b, o, -, hc⟩⟩ := h3
  · subst h; simp at hx
  · obtain ⟨-, r1, r2, -⟩ := hc i x hi'
    exact ⟨r1.1, r2.1⟩

set_option maxHeartbeats 1000000 in
theorem toLiteral_own (z : Lg) (w : World) (h1 : RdT w z.sa z.ss) (h2 : RdT w z.ta z.ts) :
    Calls Tryz.prog 31 #[z.val] w fun e w' => ∃ (y : Lg) (M H : Nat), e = .returned y.val ∧ y.ct = z.ct ∧ RdT w' y.sa y.ss ∧ FarT w.heap.size y.sa y.ss ∧ RdT w' y.ta y.ts ∧ FarT w.heap.size y.ta y.ts ∧ Below w.heap.size w w' ∧ (w.heap.size ≤ M ∧ M ≤ H ∧ H ≤ w'.heap.size) ∧ WrTm w' w.heap.size M y.sa y.ss ∧ WrTm w' M H y.ta y.ts := by
  obtain ⟨id, q, ss, sa, sc, ts, ta, tc⟩ := z
  simp only [Lg.val, Lg.ct] at h1 h2 ⊢
  have H1 := kide (fun u (hu : Below w.heap.size w u) => toTerm_wm sa sc ss u (h1.later hu) _ rfl)
  have H2 := kide (fun u (hu : Below w.heap.size w u) => toTerm_wm ta tc ts u (h2.later hu) _ rfl)
  clear h1 h2
  have h3 : Below w.heap.size w (((w.alloc (Obj.cells #[Value.int .i64 id, Value.bool q, Value.slice sa ss.length sc, Value.slice ta ts.length tc] 55)).alloc (Obj.cells #[Value.int .i64 0, Value.bool false, Value.slice none 0 0, Value.slice none 0 0] 62)).alloc (Obj.cells #[Value.int .i64 id, Value.bool q, Value.slice none 0 0, Value.slice none 0 0] 62)) := (((Below.refl _ _).alloc (Nat.le_refl _) _).alloc (by simp) _).alloc (by simp; omega) _
  have B0 := kide h3
  clear h3
  go_enter Tryz.func31, Tryz.ntmps31
  go_wp2_with fail
  refine Calls.mono (H1.out _ B0.out) ?_
  rintro e w1 ⟨g1, m1, rfl, hm1, r1, f1, t1, hb1⟩
  have hz1 : w.heap.size + 3 ≤ w1.heap.size := by have := hb1.size; simp at this; omega
  have F1 : Hid (FarT (w.heap.size + 3) (some ⟨g1, 0, none⟩) m1) := by have h := f1; simp at h; exact h
  have T1 : Hid (WrTm w1 (w.heap.size + 3) w1.heap.size (some ⟨g1, 0, none⟩) m1) := by have h := t1; simp at h; exact h
  have HZ1 := kide hz1
  have p3 : w1.cell? ⟨w.heap.size, 3, none⟩ = some (Value.slice ta ts.length tc) := by rw [kcell hb1 _ _ (by first | (simp; done) | (simp; omega))]; simp [go_sem]
  have qa0 : w1.cell? ⟨w.heap.size + 1, 0, none⟩ = some (Value.int .i64 0) := by rw [kcell hb1 _ _ (by first | (simp; done) | (simp; omega))]; simp [go_sem]
  have qa1 : w1.cell? ⟨w.heap.size + 1, 1, none⟩ = some (Value.bool false) := by rw [kcell hb1 _ _ (by first | (simp; done) | (simp; omega))]; simp [go_sem]
  have qa2 : w1.cell? ⟨w.heap.size + 1, 2, none⟩ = some (Value.slice none 0 0) := by rw [kcell hb1 _ _ (by first | (simp; done) | (simp; omega))]; simp [go_sem]
  have qa3 : w1.cell? ⟨w.heap.size + 1, 3, none⟩ = some (Value.slice none 0 0) := by rw [kcell hb1 _ _ (by first | (simp; done) | (simp; omega))]; simp [go_sem]
  have qb0 : w1.cell? ⟨w.heap.size + 1 + 1, 0, none⟩ = some (Value.int .i64 id) := by rw [kcell hb1 _ _ (by first | (simp; done) | (simp; omega))]; simp [go_sem]
  have qb1 : w1.cell? ⟨w.heap.size + 1 + 1, 1, none⟩ = some (Value.bool q) := by rw [kcell hb1 _ _ (by first | (simp; done) | (simp; omega))]; simp [go_sem]
  have qb2 : w1.cell? ⟨w.heap.size + 1 + 1, 2, none⟩ = some (Value.slice none 0 0) := by rw [kcell hb1 _ _ (by first | (simp; done) | (simp; omega))]; simp [go_sem]
  have qb3 : w1.cell? ⟨w.heap.size + 1 + 1, 3, none⟩ = some (Value.slice none 0 0) := by rw [kcell hb1 _ _ (by first | (simp; done) | (simp; omega))]; simp [go_sem]
  have fa0 : w1.frozen? ⟨w.heap.size + 1, 0, none⟩ = false := by rw [kfrozL hb1 _ _ (by first | (simp; done) | (simp; omega))]; simp [go_sem]
  have fb0 : w1.frozen? ⟨w.heap.size + 1 + 1, 0, none⟩ = false := by rw [kfrozL hb1 _ _ (by first | (simp; done) | (simp; omega))]; simp [go_sem]
  have fa1 : w1.frozen? ⟨w.heap.size + 1, 1, none⟩ = false := by rw [kfrozL hb1 _ _ (by first | (simp; done) | (simp; omega))]; simp [go_sem]
  have fb1 : w1.frozen? ⟨w.heap.size + 1 + 1, 1, none⟩ = false := by rw [kfrozL hb1 _ _ (by first | (simp; done) | (simp; omega))]; simp [go_sem]
  have fa2 : w1.frozen? ⟨w.heap.size + 1, 2, none⟩ = false := by rw [kfrozL hb1 _ _ (by first | (simp; done) | (simp; omega))]; simp [go_sem]
  have fb2 : w1.frozen? ⟨w.heap.size + 1 + 1, 2, none⟩ = false := by rw [kfrozL hb1 _ _ (by first | (simp; done) | (simp; omega))]; simp [go_sem]
  have fa3 : w1.frozen? ⟨w.heap.size + 1, 3, none⟩ = false := by rw [kfrozL hb1 _ _ (by first | (simp; done) | (simp; omega))]; simp [go_sem]
  have fb3 : w1.frozen? ⟨w.heap.size + 1 + 1, 3, none⟩ = false := by rw [kfrozL hb1 _ _ (by first | (simp; done) | (simp; omega))]; simp [go_sem]
  have B1 := kide (B0.out.trans (hb1.mono B0.out.size))
  have R1 := kide r1
  have M1 := kide hm1
  clear hb1 r1 f1 t1 hm1 B0 H1
  have uc03 : (w1.setCell ⟨w.heap.size + 1 + 1, 2, none⟩ (Value.slice (some ⟨g1, 0, none⟩) ss.length ss.length)).cell? ⟨w.heap.size, 3, none⟩ = some (Value.slice ta ts.length tc) := by simp [go_sem, p3, qa0, qa1, qa2, qa3, qb0, qb1, qb2, qb3, fa0, fb0, fa1, fb1, fa2, fb2, fa3, fb3]
  have uc10 : (w1.setCell ⟨w.heap.size + 1 + 1, 2, none⟩ (Value.slice (some ⟨g1, 0, none⟩) ss.length ss.length)).cell? ⟨w.heap.size + 1, 0, none⟩ = some (Value.int .i64 0) := by simp [go_sem, p3, qa0, qa1, qa2, qa3, qb0, qb1, qb2, qb3, fa0, fb0, fa1, fb1, fa2, fb2, fa3, fb3]
  have uc11 : (w1.setCell ⟨w.heap.size + 1 + 1, 2, none⟩ (Value.slice (some ⟨g1, 0, none⟩) ss.length ss.length)).cell? ⟨w.heap.size + 1, 1, none⟩ = some (Value.bool false) := by simp [go_sem, p3, qa0, qa1, qa2, qa3, qb0, qb1, qb2, qb3, fa0, fb0, fa1, fb1, fa2, fb2, fa3, fb3]
  have uc12 : (w1.setCell ⟨w.heap.size + 1 + 1, 2, none⟩ (Value.slice (some ⟨g1, 0, none⟩) ss.length ss.length)).cell? ⟨w.heap.size + 1, 2, none⟩ = some (Value.slice none 0 0) := by simp [go_sem, p3, qa0, qa1, qa2, qa3, qb0, qb1, qb2, qb3, fa0, fb0, fa1, fb1, fa2, fb2, fa3, fb3]
  have uc13 : (w1.setCell ⟨w.heap.size + 1 + 1, 2, none⟩ (Value.slice (some ⟨g1, 0, none⟩) ss.length ss.length)).cell? ⟨w.heap.size + 1, 3, none⟩ = some (Value.slice none 0 0) := by simp [go_sem, p3, qa0, qa1, qa2, qa3, qb0, qb1, qb2, qb3, fa0, fb0, fa1, fb1, fa2, fb2, fa3, fb3]
  have uc20 : (w1.setCell ⟨w.heap.size + 1 + 1, 2, none⟩ (Value.slice (some ⟨g1, 0, none⟩) ss.length ss.length)).cell? ⟨w.heap.size + 1 + 1, 0, none⟩ = some (Value.int .i64 id) := by simp [go_sem, p3, qa0, qa1, qa2, qa3, qb0, qb1, qb2, qb3, fa0, fb0, fa1, fb1, fa2, fb2, fa3, fb3]
  have uc21 : (w1.setCell ⟨w.heap.size + 1 + 1, 2, none⟩ (Value.slice (some ⟨g1, 0, none⟩) ss.length ss.length)).cell? ⟨w.heap.size + 1 + 1, 1, none⟩ = some (Value.bool q) := by simp [go_sem, p3, qa0, qa1, qa2, qa3, qb0, qb1, qb2, qb3, fa0, fb0, fa1, fb1, fa2, fb2, fa3, fb3]
  have uc22 : (w1.setCell ⟨w.heap.size + 1 + 1, 2, none⟩ (Value.slice (some ⟨g1, 0, none⟩) ss.length ss.length)).cell? ⟨w.heap.size + 1 + 1, 2, none⟩ = some (Value.slice (some ⟨g1, 0, none⟩) ss.length ss.length) := by simp [go_sem, p3, qa0, qa1, qa2, qa3, qb0, qb1, qb2, qb3, fa0, fb0, fa1, fb1, fa2, fb2, fa3, fb3]
  have uc23 : (w1.setCell ⟨w.heap.size + 1 + 1, 2, none⟩ (Value.slice (some ⟨g1, 0, none⟩) ss.length ss.length)).cell? ⟨w.heap.size + 1 + 1, 3, none⟩ = some (Value.slice none 0 0) := by simp [go_sem, p3, qa0, qa1, qa2, qa3, qb0, qb1, qb2, qb3, fa0, fb0, fa1, fb1, fa2, fb2, fa3, fb3]
  have uf10 : (w1.setCell ⟨w.heap.size + 1 + 1, 2, none⟩ (Value.slice (some ⟨g1, 0, none⟩) ss.length ss.length)).frozen? ⟨w.heap.size + 1, 0, none⟩ = false := by simp [go_sem, p3, qa0, qa1, qa2, qa3, qb0, qb1, qb2, qb3, fa0, fb0, fa1, fb1, fa2, fb2, fa3, fb3]
  have uf11 : (w1.setCell ⟨w.heap.size + 1 + 1, 2, none⟩ (Value.slice (some ⟨g1, 0, none⟩) ss.length ss.length)).frozen? ⟨w.heap.size + 1, 1, none⟩ = false := by simp [go_sem, p3, qa0, qa1, qa2, qa3, qb0, qb1, qb2, qb3, fa0, fb0, fa1, fb1, fa2, fb2, fa3, fb3]
  have uf12 : (w1.setCell ⟨w.heap.size + 1 + 1, 2, none⟩ (Value.slice (some ⟨g1, 0, none⟩) ss.length ss.length)).frozen? ⟨w.heap.size + 1, 2, none⟩ = false := by simp [go_sem, p3, qa0, qa1, qa2, qa3, qb0, qb1, qb2, qb3, fa0, fb0, fa1, fb1, fa2, fb2, fa3, fb3]
  have uf13 : (w1.setCell ⟨w.heap.size + 1 + 1, 2, none⟩ (Value.slice (some ⟨g1, 0, none⟩) ss.length ss.length)).frozen? ⟨w.heap.size + 1, 3, none⟩ = false := by simp [go_sem, p3, qa0, qa1, qa2, qa3, qb0, qb1, qb2, qb3, fa0, fb0, fa1, fb1, fa2, fb2, fa3, fb3]
  have uf20 : (w1.setCell ⟨w.heap.size + 1 + 1, 2, none⟩ (Value.slice (some ⟨g1, 0, none⟩) ss.length ss.length)).frozen? ⟨w.heap.size + 1 + 1, 0, none⟩ = false := by simp [go_sem, p3, qa0, qa1, qa2, qa3, qb0, qb1, qb2, qb3, fa0, fb0, fa1, fb1, fa2, fb2, fa3, fb3]
  have uf21 : (w1.setCell ⟨w.heap.size + 1 + 1, 2, none⟩ (Value.slice (some ⟨g1, 0, none⟩) ss.length ss.length)).frozen? ⟨w.heap.size + 1 + 1, 1, none⟩ = false := by simp [go_sem, p3, qa0, qa1, qa2, qa3, qb0, qb1, qb2, qb3, fa0, fb0, fa1, fb1, fa2, fb2, fa3, fb3]
  have uf22 : (w1.setCell ⟨w.heap.size + 1 + 1, 2, none⟩ (Value.slice (some ⟨g1, 0, none⟩) ss.length ss.length)).frozen? ⟨w.heap.size + 1 + 1, 2, none⟩ = false := by simp [go_sem, p3, qa0, qa1, qa2, qa3, qb0, qb1, qb2, qb3, fa0, fb0, fa1, fb1, fa2, fb2, fa3, fb3]
  have uf23 : (w1.setCell ⟨w.heap.size + 1 + 1, 2, none⟩ (Value.slice (some ⟨g1, 0, none⟩) ss.length ss.length)).frozen? ⟨w.heap.size + 1 + 1, 3, none⟩ = false := by simp [go_sem, p3, qa0, qa1, qa2, qa3, qb0, qb1, qb2, qb3, fa0, fb0, fa1, fb1, fa2, fb2, fa3, fb3]
  have BW1 : Hid (Below w.heap.size w (w1.setCell ⟨w.heap.size + 1 + 1, 2, none⟩ (Value.slice (some ⟨g1, 0, none⟩) ss.length ss.length))) := B1.out.setCell (by first | (simp; done) | (simp; omega)) _
  have RW1 : Hid (RdT (w1.setCell ⟨w.heap.size + 1 + 1, 2, none⟩ (Value.slice (some ⟨g1, 0, none⟩) ss.length ss.length)) (some ⟨g1, 0, none⟩) m1) := R1.out.set F1.out (by first | (simp; done) | (simp; omega)) _
  have TW1 : Hid (WrTm (w1.setCell ⟨w.heap.size + 1 + 1, 2, none⟩ (Value.slice (some ⟨g1, 0, none⟩) ss.length ss.length)) (w.heap.size + 3) w1.heap.size (some ⟨g1, 0, none⟩) m1) := T1.out.set (.inl (by omega)) _ _
  have HZM : Hid (w1.heap.size = (w1.setCell ⟨w.heap.size + 1 + 1, 2, none⟩ (Value.slice (some ⟨g1, 0, none⟩) ss.length ss.length)).heap.size) := by show _ = _; simp
  have hzW1 : w.heap.size + 3 ≤ (w1.setCell ⟨w.heap.size + 1 + 1, 2, none⟩ (Value.slice (some ⟨g1, 0, none⟩) ss.length ss.length)).heap.size := by simp; omega
  go_wp2_with fail
  clear p3 qa0 qa1 qa2 qa3 qb0 qb1 qb2 qb3 fa0 fb0 fa1 fb1 fa2 fb2 fa3 fb3
  generalize w1.setCell ⟨w.heap.size + 1 + 1, 2, none⟩ (Value.slice (some ⟨g1, 0, none⟩) ss.length ss.length) = W1 at *
  clear B1 R1 hz1 T1
  refine Calls.mono (H2.out W1 BW1.out) ?_
  rintro e w2 ⟨g2, m2, rfl, hm2, r2, f2, t2, hb2⟩
  have BX2 := kide (BW1.out.trans (hb2.mono BW1.out.size))
  have RX1 := kide (RW1.out.later hb2)
  have R2 := kide r2
  have TX1 := kide (TW1.out.later hb2)
  have T2 : Hid (WrTm w2 w1.heap.size w2.heap.size (some ⟨g2, 0, none⟩) m2) := by rw [HZM.out]; exact t2
  have HM2 : Hid (w1.heap.size ≤ w2.heap.size) := by rw [HZM.out]; exact hb2.size
  have F2 : Hid (FarT (w.heap.size + 3) (some ⟨g2, 0, none⟩) m2) := f2.mono hzW1
  have M2 := kide hm2
  have hz2 : w.heap.size + 3 ≤ w2.heap.size := Nat.le_trans hzW1 hb2.size
  have vc03 := (kcell hb2 (w.heap.size) 3 (by omega)).trans uc03
  have vc10 := (kcell hb2 (w.heap.size + 1) 0 (by omega)).trans uc10
  have vc11 := (kcell hb2 (w.heap.size + 1) 1 (by omega)).trans uc11
  have vc12 := (kcell hb2 (w.heap.size + 1) 2 (by omega)).trans uc12
  have vc13 := (kcell hb2 (w.heap.size + 1) 3 (by omega)).trans uc13
  have vc20 := (kcell hb2 (w.heap.size + 1 + 1) 0 (by omega)).trans uc20
  have vc21 := (kcell hb2 (w.heap.size + 1 + 1) 1 (by omega)).trans uc21
  have vc22 := (kcell hb2 (w.heap.size + 1 + 1) 2 (by omega)).trans uc22
  have vc23 := (kcell hb2 (w.heap.size + 1 + 1) 3 (by omega)).trans uc23
  have vf10 := (kfrozL hb2 (w.heap.size + 1) 0 (by omega)).trans uf10
  have vf11 := (kfrozL hb2 (w.heap.size + 1) 1 (by omega)).trans uf11
  have vf12 := (kfrozL hb2 (w.heap.size + 1) 2 (by omega)).trans uf12
  have vf13 := (kfrozL hb2 (w.heap.size + 1) 3 (by omega)).trans uf13
  have vf20 := (kfrozL hb2 (w.heap.size + 1 + 1) 0 (by omega)).trans uf20
  have vf21 := (kfrozL hb2 (w.heap.size + 1 + 1) 1 (by omega)).trans uf21
  have vf22 := (kfrozL hb2 (w.heap.size + 1 + 1) 2 (by omega)).trans uf22
  have vf23 := (kfrozL hb2 (w.heap.size + 1 + 1) 3 (by omega)).trans uf23
  clear hb2 r2 f2 t2 hm2 uc03 uc10 uc11 uc12 uc13 uc20 uc21 uc22 uc23 uf10 uf11 uf12 uf13 uf20 uf21 uf22 uf23 BW1 RW1 H2 TW1
  go_wp2_with fail
  refine bodyPost_ret (v := .agg #[.int .i64 id, .bool q, Value.slice (some ⟨g1, 0, none⟩) ss.length ss.length, .slice (some ⟨g2, 0, none⟩) ts.length ts.length]) (by simp [results, Tryz.results31, go_sem, vc03, vc10, vc11, vc12, vc13, vc20, vc21, vc22, vc23, vf10, vf11, vf12, vf13, vf20, vf21, vf22, vf23]) rfl ?_
  have hl1 : m1.length = ss.length := by simpa using congrArg List.length M1.out
  have hl2 : m2.length = ts.length := by simpa using congrArg List.length M2.out
  have hy1 := HZ1.out
  refine ⟨⟨id, q, m1, some ⟨g1, 0, none⟩, ss.length, m2, some ⟨g2, 0, none⟩, ts.length⟩, w1.heap.size, w2.heap.size, by simp [hl1, hl2], by simp [M1.out, M2.out], ?_, F1.out.mono (by omega), ?_, F2.out.mono (by omega), ?_, ⟨by omega, HM2.out, by simp⟩, ?_, ?_⟩
  · repeat (refine RdT.set ?_ F1.out (by first | (simp; done) | (simp; omega)) _)
    exact RX1.out
  · repeat (refine RdT.set ?_ F2.out (by first | (simp; done) | (simp; omega)) _)
    exact R2.out
  · repeat (refine Below.setCell ?_ (by first | (simp; done) | (simp; omega)) _)
    exact BX2.out
  · refine WrTm.mono (B1 := w.heap.size + 3) ?_ (by omega)
    show WrTm _ (w.heap.size + 3) w1.heap.size (some ⟨g1, 0, none⟩) m1
    repeat (with_reducible refine WrTm.setp ?_ ?_ _; rotate_left; (refine .inl ?_; first | (show w.heap.size + 1 < _; omega) | (show w.heap.size + 1 + 1 < _; omega)))
    with_reducible exact TX1.out
  · show WrTm _ w1.heap.size w2.heap.size (some ⟨g2, 0, none⟩) m2
    repeat (with_reducible refine WrTm.setp ?_ ?_ _; rotate_left; (refine .inl ?_; first | (show w.heap.size + 1 < _; omega) | (show w.heap.size + 1 + 1 < _; omega)))
    with_reducible exact T2.out

end Go.Proofs.YtheglnkndjheaaaGreatDoor

/- A row of copied literals, as the laws mark it. -/
namespace Go.Proofs.YtheglnkndjheaaaGreatDoor
set_option linter.unusedVariables false
set_option linter.unusedSimpArgs false
open Go.RowKit

/-- A literal that may be written to: its terms lie one behind the other. -/
def WrL (w : World) (L H : Nat) (x : Lg) : Prop := ∃ M, L ≤ M ∧ M ≤ H ∧ WrTm w L M x.sa x.ss ∧ WrTm w M H x.ta x.ts

theorem WrL.out {w w' : World} {L H C1 C2 : Nat} {x : Lg} (h : WrL w L H x) (ho : Out C1 C2 w w') (hd : C2 ≤ L ∨ H ≤ C1) : WrL w' L H x := by
  obtain ⟨M, h1, h2, h3, h4⟩ := h
  exact ⟨M, h1, h2, h3.out ho (by omega), h4.out ho (by omega)⟩

theorem WrL.later {w w' : World} {L H : Nat} {x : Lg} (h : WrL w L H x) (hb : Below w.heap.size w w') : WrL w' L H x := h.out (Out.ofB (B1 := H) (B2 := H) hb) (.inr (Nat.le_refl _))

theorem WrL.setp {w : World} {L H : Nat} {p : Addr} {x : Lg} (h : WrL w L H x) (hd : p.block < L ∨ H ≤ p.block) (v : Value) : WrL (w.setCell p v) L H x := by
  obtain ⟨M, h1, h2, h3, h4⟩ := h
  exact ⟨M, h1, h2, h3.setp (by omega) v, h4.setp (by omega) v⟩

def LgF (f : Nat → Value) (xs : List Lg) : Prop := ∀ i x, xs[i]? = some x → (∃ (k0 : Int) (b0 : Bool), f (i * 4) = .int .i64 k0 ∧ f (i * 4 + 1) = .bool b0) ∧ f (i * 4 + 2) = .slice x.sa x.ss.length x.sc ∧ f (i * 4 + 3) = .slice x.ta x.ts.length x.tc

structure RowL (w : World) (G H n : Nat) (xs : List Lg) (f : Nat → Value) (rg : Nat → Nat) : Prop where
  row : w.rowIs G 62 (n * 4) f
  cells : LgF f xs
  lo : G < rg 0
  up : ∀ i, rg i ≤ rg (i + 1)
  hi : rg n ≤ H
  wr : ∀ i x, xs[i]? = some x → WrL w (rg i) (rg (i + 1)) x

theorem RowL.out {w w' : World} {G H n C1 C2 : Nat} {xs : List Lg} {f : Nat → Value} {rg : Nat → Nat} (h : RowL w G H n xs f rg) (hn : xs.length = n) (ho : Out C1 C2 w w') (hd : C2 ≤ G ∨ H ≤ C1) : RowL w' G H n xs f rg := by
  have up : ∀ i k, rg i ≤ rg (i + k) := fun i k => by
    induction k with
    | zero => exact Nat.le_refl _
    | succ k ih => exact Nat.le_trans ih (h.up (i + k))
  have lo : ∀ i, G < rg i := fun i => Nat.lt_of_lt_of_le h.lo (by have := up 0 i; rwa [Nat.zero_add] at this)
  have hi : ∀ i, i ≤ n → rg i ≤ H := fun i hi => Nat.le_trans (by have := up i (n - i); rwa [show i + (n - i) = n by omega] at this) h.hi
  refine ⟨rowIs_out h.row ho (by have := lo n; have := h.hi; omega), h.cells, h.lo, h.up, h.hi, fun i x hx => (h.wr i x hx).out ho ?_⟩
  have hi1 := (List.getElem?_eq_some_iff.1 hx).1
  have := lo i
  have := hi (i + 1) (by omega)
  omega

theorem RowL.later {w w' : World} {G H n : Nat} {xs : List Lg} {f : Nat → Value} {rg : Nat → Nat} (h : RowL w G H n xs f rg) (hn : xs.length = n) (hb : Below w.heap.size w w') : RowL w' G H n xs f rg := h.out hn (Out.ofB (B1 := H) (B2 := H) hb) (.inr (Nat.le_refl _))

set_option maxHeartbeats 1000000 in
theorem toLiteralS_own (a : Option Addr) (c : Nat) (xs : List Lg) (w : World) (hr : RdL w a xs) :
    Calls Tryz.prog 9 #[.slice a xs.length c] w fun e w' => ∃ ms : List Lg, e = .returned (.slice (some ⟨w.heap.size, 0, none⟩) xs.length xs.length) ∧ ms.map Lg.ct = xs.map Lg.ct ∧ RdL w' (some ⟨w.heap.size, 0, none⟩) ms ∧ Below w.heap.size w w' ∧ ∃ f rg, RowL w' w.heap.size w'.heap.size xs.length ms f rg := by
  have hlen := hr.1
  have hmk := make_lits xs.length hlen
  go_enter Tryz.func9, Tryz.ntmps9
  go_wp2_with fail
  have hrow := krow (heap_alloc_new w (.cells (madeCells #[.int .i64 0, .bool false, .slice none 0 0, .slice none 0 0] (xs.length * 4)) 62))
  rw [size_madeCells] at hrow
  have hb0 : Below w.heap.size w (w.alloc (.cells (madeCells #[.int .i64 0, .bool false, .slice none 0 0, .slice none 0 0] (xs.length * 4)) 62)) := (Below.refl _ _).alloc (Nat.le_refl _) _
  have hs0 : w.heap.size < (w.alloc (.cells (madeCells #[.int .i64 0, .bool false, .slice none 0 0, .slice none 0 0] (xs.length * 4)) 62)).heap.size := by simp
  generalize (w.alloc (.cells (madeCells #[.int .i64 0, .bool false, .slice none 0 0, .slice none 0 0] (xs.length * 4)) 62)) = w0 at *
  go_loopw [4] (fun i wr => ∃ (k : Nat) (f : Nat → Value) (ms : List Lg), k ≤ xs.length ∧ i = .int .i64 k ∧ wr.rowIs w.heap.size 62 (xs.length * 4) f ∧ ms.length = k ∧ ms.map Lg.ct = (xs.take k).map Lg.ct ∧ (∀ j x, ms[j]? = some x → LgOwn wr w.heap.size f j x) ∧ Below w.heap.size w wr ∧ w.heap.size < wr.heap.size ∧ ∃ rg : Nat → Nat, w.heap.size < rg 0 ∧ (∀ i, rg i ≤ rg (i + 1)) ∧ rg k ≤ wr.heap.size ∧ ∀ j x, ms[j]? = some x → WrL wr (rg j) (rg (j + 1)) x) (fun i _ => xs.length - (intOf i).toNat)
  case atStart => exact ⟨0, _, [], Nat.zero_le _, rfl, hrow, rfl, rfl, fun j x h => by simp at h, hb0, hs0, fun _ => w.heap.size + 1, Nat.lt_succ_self _, fun _ => Nat.le_refl _, hs0, fun j x h => by simp at h⟩
  case round =>
    obtain ⟨k, f, ms, hk, rfl, hrw, hml, hmc, hms, hbel, hsz, rg, hg0, hgu, hgk, hgw⟩ := hrel
    have HG0 := kide hg0
    have HGU := kide hgu
    have HGK := kide hgk
    have HGW := kide hgw
    clear hg0 hgu hgk hgw
    clear hrow hb0 hs0
    by_cases hlt : k < xs.length
    · obtain ⟨-, h | ⟨b, o, rfl, hc⟩⟩ := hr
      · subst h; simp at hlt
      obtain ⟨⟨id, q, ss, sa, sc, ts, ta, tc⟩, hx⟩ : ∃ x, xs[k] = x := ⟨_, rfl⟩
      have gx : xs[k]? = some ⟨id, q, ss, sa, sc, ts, ta, tc⟩ := by rw [List.getElem?_eq_getElem hlt, hx]
      obtain ⟨⟨p0, p1, p2, p3⟩, pr, pr2, -⟩ := (hc k _ gx).later hbel
      simp only [] at p0 p1 p2 p3 pr pr2
      clear hx
      have HTO := kide (toLiteral_own ⟨id, q, ss, sa, sc, ts, ta, tc⟩ wr pr pr2)
      simp only [Lg.val] at HTO
      have GX : Hid _ := gx
      have HML : Hid _ := hml
      have HMC : Hid _ := hmc
      have HMS : Hid _ := hms
      have HR : Hid _ := hrw
      have HB : Hid _ := hbel
      have i0 : (k : Int) < (xs.length : Int) := by omega
      clear gx hml hmc hms hc hrw hbel hmk pr pr2
      generalize hsl : ss.length = sl at *
      generalize htl : ts.length = tl at *
      clear hsl htl
      go_wp2_with fail
      refine Calls.mono HTO.out ?_
      rintro e w1 ⟨y, M, H, rfl, hct, hrd1, hfar1, hrd2, hfar2, hb1, hMH, ht1, ht2⟩
      have HMH := kide hMH
      have HT1 := kide ht1
      have HT2 := kide ht2
      clear hMH ht1 ht2
      have HCT := kide hct
      have HD1 := kide hrd1
      have HF1 := kide hfar1
      have HD2 := kide hrd2
      have HF2 := kide hfar2
      have HB1 := kide hb1
      have hr1 := World.rowIs.of_block HR.out (hb1.block _ hsz)
      obtain ⟨yid, yq, yss, ysa, ysc, yts, yta, ytc⟩ := y
      simp only [] at HCT HD1 HF1 HD2 HF2 HT1 HT2 ⊢
      have q0 := hr1.cell (i := k * 4) (by omega)
      have q1 := hr1.cell (i := k * 4 + 1) (by omega)
      have q2 := hr1.cell (i := k * 4 + 2) (by omega)
      have q3 := hr1.cell (i := k * 4 + 3) (by omega)
      have r0 := hr1.frozen (k * 4)
      have r1 := hr1.frozen (k * 4 + 1)
      have r2 := hr1.frozen (k * 4 + 2)
      have r3 := hr1.frozen (k * 4 + 3)
      have HR1 : Hid _ := hr1
      clear hr1 hct hrd1 hfar1 hrd2 hfar2 hb1
      go_wp2_with fail
      go_roundw
      case rel =>
        have hl := HML.out
        refine ⟨k + 1, _, ms ++ [⟨yid, yq, yss, ysa, ysc, yts, yta, ytc⟩], by omega, by go_num, World.rowIs.set (World.rowIs.set (World.rowIs.set (World.rowIs.set HR1.out (k * 4) (.int .i64 yid)) (k * 4 + 1) (.bool yq)) (k * 4 + 2) (.slice ysa yss.length ysc)) (k * 4 + 3) (.slice yta yts.length ytc), by simp [hl], ?_, fun j x hj => ?_, ?_, ?_, fun i => if i ≤ k then rg i else H, by show _ < (if 0 ≤ k then rg 0 else H); rw [if_pos (Nat.zero_le _)]; exact HG0.out, fun i => ?_, ?_, fun j x hj => ?_⟩
        · have h := HMC.out
          rw [List.map_append, h, List.take_add_one, GX.out, List.map_append]
          simp only [List.map_cons, List.map_nil, Option.toList_some]
          rw [HCT.out]
        · rw [List.getElem?_append] at hj
          split at hj
          · refine (((((HMS.out j x hj).later HB1.out).set _ _).set _ _).set _ _).set _ _ |>.row (k := k) (fun i hi => ?_) (by omega)
            show (if _ then _ else _) = _
            rw [if_neg (by omega), if_neg (by omega), if_neg (by omega), if_neg (by omega)]
          · have hj2 : j - ms.length = 0 := by
              have := (List.getElem?_eq_some_iff.1 hj).1
              simp at this; exact this
            rw [hj2] at hj
            simp at hj
            subst hj
            have hjk : j = k := by omega
            subst hjk
            have hF : FarT (w.heap.size + 1) ysa yss := HF1.out.mono (by omega)
            have hF2 : FarT (w.heap.size + 1) yta yts := HF2.out.mono (by omega)
            exact ⟨⟨by simp, by simp, by simp, by simp⟩, ⟨(((HD1.out.set hF (by simp) _).set hF (by simp) _).set hF (by simp) _).set hF (by simp) _, hF⟩, (((HD2.out.set hF2 (by simp) _).set hF2 (by simp) _).set hF2 (by simp) _).set hF2 (by simp) _, hF2⟩
        · exact ((((HB.out.trans (HB1.out.mono HB.out.size)).setCell (Nat.le_refl _) _).setCell (Nat.le_refl _) _).setCell (Nat.le_refl _) _).setCell (Nat.le_refl _) _
        · have := HB1.out.size
          simp; omega
        · have h1 := HGU.out i
          have h2 := HGK.out
          obtain ⟨h3, h4, -⟩ := HMH.out
          show (if i ≤ k then rg i else H) ≤ (if i + 1 ≤ k then rg (i + 1) else H)
          by_cases c1 : i + 1 ≤ k
          · rw [if_pos c1, if_pos (by omega)]; exact h1
          · rw [if_neg c1]
            by_cases c2 : i ≤ k
            · have c3 : i = k := by omega
              rw [if_pos c2, c3]; omega
            · rw [if_neg c2]; exact Nat.le_refl _
        · show (if k + 1 ≤ k then rg (k + 1) else H) ≤ _
          rw [if_neg (by omega)]
          have h5 := HMH.out.2.2
          simp; exact h5
        · have hz0 := HG0.out
          have hlow : ∀ i, w.heap.size < rg i := fun i => by
            induction i with
            | zero => exact hz0
            | succ i ih => exact Nat.lt_of_lt_of_le ih (HGU.out i)
          have main : WrL w1 (if j ≤ k then rg j else H) (if j + 1 ≤ k then rg (j + 1) else H) x ∧ w.heap.size < (if j ≤ k then rg j else H) := by
            rw [List.getElem?_append] at hj
            split at hj
            · rename_i hjl
              rw [hl] at hjl
              rw [if_pos (by omega), if_pos (by omega)]
              exact ⟨(HGW.out j x hj).later HB1.out, hlow j⟩
            · have hj2 : j - ms.length = 0 := by
                have := (List.getElem?_eq_some_iff.1 hj).1
                simp at this; exact this
              rw [hj2] at hj
              simp at hj
              subst hj
              have hjk : j = k := by omega
              subst hjk
              rw [if_pos (Nat.le_refl _), if_neg (by omega)]
              obtain ⟨h3, h4, -⟩ := HMH.out
              have h2 := HGK.out
              exact ⟨⟨M, by omega, h4, HT1.out.mono h2, HT2.out⟩, hlow j⟩
          exact ((((main.1.setp (.inl main.2) _).setp (.inl main.2) _).setp (.inl main.2) _).setp (.inl main.2) _)
      case measure => simp [intOf]; omega
    · have e : k = xs.length := by omega
      have HM : Hid _ := hml
      have HC : Hid _ := hmc
      have HS : Hid _ := hms
      have HR : Hid _ := hrw
      have HB : Hid _ := hbel
      have HE : Hid _ := e
      clear hml hmc hms hrw hbel e hmk
      go_wp2_with fail
      go_ret
      refine ⟨ms, rfl, ?_, ⟨by rw [HM.out]; omega, .inr ⟨_, 0, rfl, fun i x hi => ?_⟩⟩, HB.out, f, rg, ⟨HR.out, fun i x hi => ?_, HG0.out, HGU.out, by rw [← HE.out]; exact HGK.out, HGW.out⟩⟩
      · have h := HC.out
        rw [HE.out, List.take_length] at h
        exact h
      · obtain ⟨⟨h0, h1, h2, h3⟩, h4, h5⟩ := HS.out i x hi
        have hik : i < k := by have := (List.getElem?_eq_some_iff.1 hi).1; rw [HM.out] at this; exact this
        have hct : ∃ y, xs[i]? = some y ∧ y.ct = x.ct := by
          have h := HC.out
          rw [HE.out, List.take_length] at h
          have h' : (ms.map Lg.ct)[i]? = (xs.map Lg.ct)[i]? := by rw [h]
          rw [List.getElem?_map, List.getElem?_map, hi, Option.map_some] at h'
          cases hy : xs[i]? with
          | none => rw [hy] at h'; cases h'
          | some y => rw [hy] at h'; simp at h'; exact ⟨y, rfl, h'.symm⟩
        obtain ⟨y, hy, hyx⟩ := hct
        obtain ⟨-, hn | ⟨b, o, -, hc⟩⟩ := hr
        · subst hn; simp at hy
        obtain ⟨-, -, -, l3⟩ := hc i y hy
        have e1 : y.id = x.id := congrArg Lc.id hyx
        rw [e1] at l3
        refine ⟨⟨?_, ?_, ?_, ?_⟩, h4.1, h5.1, l3⟩
        · rw [Nat.zero_add]; exact (World.rowIs.cell HR.out (by omega)).trans (congrArg some h0)
        · rw [Nat.zero_add]; exact (World.rowIs.cell HR.out (by omega)).trans (congrArg some h1)
        · rw [Nat.zero_add]; exact (World.rowIs.cell HR.out (by omega)).trans (congrArg some h2)
        · rw [Nat.zero_add]; exact (World.rowIs.cell HR.out (by omega)).trans (congrArg some h3)
      · obtain ⟨⟨h0, h1, h2, h3⟩, -⟩ := HS.out i x hi
        exact ⟨⟨_, _, h0, h1⟩, h2, h3⟩

end Go.Proofs.YtheglnkndjheaaaGreatDoor

/- A row of literals marked. -/
namespace Go.Proofs.YtheglnkndjheaaaGreatDoor
set_option linter.unusedVariables false
set_option linter.unusedSimpArgs false
open Go.RowKit

theorem Out.widen {B1 B2 C1 C2 : Nat} {w w' : World} (h : Out B1 B2 w w') (h1 : C1 ≤ B1) (h2 : B2 ≤ C2) : Out C1 C2 w w' := ⟨h.1, h.2.1, h.2.2.1, h.2.2.2.1, fun k hk hd => h.2.2.2.2 k hk (by omega)⟩

set_option maxHeartbeats 2000000 in
set_option maxRecDepth 100000 in
theorem markLiteralS_any (G c n k H : Nat) (xs : List Lg) (w : World) (f : Nat → Value) (rg : Nat → Nat) (h : RowL w G H n xs f rg) (hn : xs.length = n) (hn2 : n ≤ 1048576) (hl : ∀ x ∈ xs, x.ss.length ≤ 1048576 ∧ x.ts.length ≤ 1048576) (hk : k + n * 4398056996866 ≤ 5000000000000000000) :
    Calls Tryz.prog 15 #[.slice (some ⟨G, 0, none⟩) n c, .int .i64 (k : Int)] w fun e w' => (∃ r : Nat, r ≤ k + n * 4398056996866 ∧ e = .returned (.int .i64 (r : Int))) ∧ Out G H w w' := by
  have HN := kide hn
  have HL := kide hl
  have up : ∀ i k, rg i ≤ rg (i + k) := fun i k => by
    induction k with
    | zero => exact Nat.le_refl _
    | succ k ih => exact Nat.le_trans ih (h.up (i + k))
  have HLO : Hid (∀ i, G < rg i) := fun i => Nat.lt_of_lt_of_le h.lo (by have := up 0 i; rwa [Nat.zero_add] at this)
  have HHI : Hid (∀ i, i ≤ n → rg i ≤ H) := fun i hi => Nat.le_trans (by have := up i (n - i); rwa [show i + (n - i) = n by omega] at this) h.hi
  have HUP : Hid (∀ i j, i ≤ j → rg i ≤ rg j) := fun i j hij => by have := up i (j - i); rwa [show i + (j - i) = j by omega] at this
  have HGH : Hid (G < H) := Nat.lt_of_lt_of_le (HLO.out n) h.hi
  have HR0 := kide h.row
  have HC0 := kide h.cells
  have HW0 := kide h.wr
  clear hn hl h up
  go_enter Tryz.func15, Tryz.ntmps15
  go_wp2_with fail
  go_loopw [1, 5] (fun q i wr => ∃ (j K : Nat) (f : Nat → Value), j ≤ n ∧ i = .int .i64 (j : Int) ∧ q = .int .i64 (K : Int) ∧ K ≤ k + j * 4398056996866 ∧ wr.rowIs G 62 (n * 4) f ∧ LgF f xs ∧ (∀ i x, j ≤ i → xs[i]? = some x → WrL wr (rg i) (rg (i + 1)) x) ∧ Out G H w wr) (fun _ i _ => n - (intOf i).toNat)
  case atStart => exact ⟨0, k, f, Nat.zero_le _, rfl, rfl, by omega, HR0.out, HC0.out, fun i x _ hx => HW0.out i x hx, Out.refl _ _ _⟩
  case round =>
    clear HR0 HC0 HW0
    obtain ⟨j, K, f, hj, rfl, rfl, hK, hrow, hf, hws, hout⟩ := hrel
    have HO := kide hout
    have HRW := kide hrow
    have HWS := kide hws
    have HF := kide hf
    by_cases hlt : j < n
    · obtain ⟨x, gx⟩ : ∃ x, xs[j]? = some x := ⟨xs[j]'(by rw [HN.out]; exact hlt), List.getElem?_eq_getElem _⟩
      obtain ⟨hsl, htl⟩ := HL.out _ (List.mem_of_getElem? gx)
      obtain ⟨⟨k0, b0, e0, e1⟩, e2, e3⟩ := hf j _ gx
      have q0 := hrow.cell (i := j * 4) (by omega)
      have q1 := hrow.cell (i := j * 4 + 1) (by omega)
      have q2 := hrow.cell (i := j * 4 + 2) (by omega)
      have q3 := hrow.cell (i := j * 4 + 3) (by omega)
      rw [e0] at q0
      rw [e1] at q1
      rw [e2] at q2
      rw [e3] at q3
      have r0 := hrow.frozen (j * 4)
      have r1 := hrow.frozen (j * 4 + 1)
      have hKb : K ≤ 5000000000000000000 := by omega
      have HKN := kide hK
      have i0 : (j : Int) < (n : Int) := by omega
      have GX := kide gx
      have hwx := HWS.out j x (Nat.le_refl _) gx
      have HWX := kide hwx
      clear hout hrow hws hf gx hK e0 e1 e2 e3 hwx
      go_wp2_with fail
      have HR1 := kide (World.rowIs.set (World.rowIs.set HRW.out (j * 4) (.int .i64 (K : Int))) (j * 4 + 1) (.bool (((K : Int) + 1) % 3 == 0)))
      have HW1 : Hid (∀ i x, j ≤ i → xs[i]? = some x → WrL ((wr.setCell ⟨G, j * 4, none⟩ (.int .i64 (K : Int))).setCell ⟨G, j * 4 + 1, none⟩ (.bool (((K : Int) + 1) % 3 == 0))) (rg i) (rg (i + 1)) x) := fun i x hi hx => ((HWS.out i x hi hx).setp (.inl (HLO.out i)) _).setp (.inl (HLO.out i)) _
      have HO1 : Hid (Out G H w ((wr.setCell ⟨G, j * 4, none⟩ (.int .i64 (K : Int))).setCell ⟨G, j * 4 + 1, none⟩ (.bool (((K : Int) + 1) % 3 == 0)))) := HO.out.trans (Out.grown (grow_set (grow_set (World.grownBy.refl wr (some G)) (j * 4) _) (j * 4 + 1) _) (Nat.le_refl _) HGH.out)
      generalize (wr.setCell ⟨G, j * 4, none⟩ (.int .i64 (K : Int))).setCell ⟨G, j * 4 + 1, none⟩ (.bool (((K : Int) + 1) % 3 == 0)) = w1 at *
      have hf1 : ∃ f1, w1.rowIs G 62 (n * 4) f1 ∧ LgF f1 xs := ⟨_, HR1.out, fun i x hi => by
        obtain ⟨⟨k0', b0', e0, e1⟩, e2, e3⟩ := HF.out i x hi
        by_cases hij : i = j
        · subst hij
          refine ⟨⟨K, ((K : Int) + 1) % 3 == 0, ?_, ?_⟩, ?_, ?_⟩
          all_goals simp
          all_goals first | exact e2 | exact e3
        · refine ⟨⟨k0', b0', ?_, ?_⟩, ?_, ?_⟩
          all_goals
            show (if _ then _ else _) = _
            rw [if_neg (by omega), if_neg (by omega)]
            assumption⟩
      obtain ⟨f1, hrow1, htn1⟩ := hf1
      obtain ⟨M, hM1, hM2, ⟨gs, fs, es, s1, s2, s3, s4, s5⟩, hT⟩ := HW1.out j x (Nat.le_refl _) GX.out
      have HT := kide hT
      have R1 := kide hrow1
      have T1 := kide htn1
      obtain ⟨id, q, ss, sa, sc, ts, ta, tc⟩ := x
      simp only [] at es s1 s2 s3 s4 s5 hsl htl HT ⊢
      subst es
      have S3 := kide s3
      have S4 := kide s4
      have S5 := kide s5
      obtain ⟨K2, hK2⟩ : ∃ K2 : Nat, K + 2 = K2 := ⟨_, rfl⟩
      have hKe : (K : Int) + 1 + 1 = (K2 : Int) := by omega
      rw [hKe]
      have hb2 : Hid (K2 + ss.length * 2097157 ≤ 9000000000000000000) := by show _ ≤ _; omega
      have HK2 := kide hK2
      clear hrow1 htn1 HR1 HRW HF HWS HO q0 q1 q2 q3 r0 r1 hT s3 s4 s5 hKe hK2 HWX
      refine Calls.mono (markTNodeS_big gs sc ss.length K2 (rg j) M ss w1 fs S3.out S4.out S5.out rfl hsl hb2.out s1 s2) ?_
      rintro e w2 ⟨⟨r2, hr2, rfl⟩, ho2⟩
      have HR2 := kide hr2
      have R2 : Hid (w2.rowIs G 62 (n * 4) f1) := rowIs_out R1.out ho2 (.inl (HLO.out j))
      have HT2 := kide (HT.out.out ho2 (.inl (Nat.le_refl _)))
      have HW2 : Hid (∀ i x, j + 1 ≤ i → xs[i]? = some x → WrL w2 (rg i) (rg (i + 1)) x) := fun i x hi hx => (HW1.out i x (by omega) hx).out ho2 (.inl (Nat.le_trans hM2 (HUP.out (j + 1) i hi)))
      have HO2 := kide (HO1.out.trans (ho2.widen (Nat.le_of_lt (HLO.out j)) (Nat.le_trans hM2 (HHI.out (j + 1) (by omega)))))
      obtain ⟨gt, ft, et, t1, t2, t3, t4, t5⟩ := HT2.out
      try simp only [] at et
      subst et
      have q3 := R2.out.cell (i := j * 4 + 3) (by omega)
      rw [(T1.out j _ GX.out).2.2] at q3
      try simp only [] at q3
      have U3 := kide t3
      have U4 := kide t4
      have U5 := kide t5
      have hb3 : Hid (r2 + ts.length * 2097157 ≤ 9000000000000000000) := by show _ ≤ _; have := HK2.out; omega
      clear ho2 hr2 HW1 HO1 R1 HT HT2 t3 t4 t5 S3 S4 S5 hb2
      go_wp2_with fail
      refine Calls.mono (markTNodeS_big gt tc ts.length r2 M (rg (j + 1)) ts w2 ft U3.out U4.out U5.out rfl htl hb3.out t1 t2) ?_
      rintro e w3 ⟨⟨r3, hr3, rfl⟩, ho3⟩
      have R3 : Hid (w3.rowIs G 62 (n * 4) f1) := rowIs_out R2.out ho3 (.inl (by have := HLO.out j; omega))
      have HW3 : Hid (∀ i x, j + 1 ≤ i → xs[i]? = some x → WrL w3 (rg i) (rg (i + 1)) x) := fun i x hi hx => (HW2.out i x hi hx).out ho3 (.inl (HUP.out (j + 1) i hi))
      have HO3 := kide (HO2.out.trans (ho3.widen (by have := HLO.out j; omega) (HHI.out (j + 1) (by omega))))
      have HKF : Hid (r3 ≤ k + (j + 1) * 4398056996866) := by
        show _ ≤ _
        have h1 := HKN.out
        have h2 := HK2.out
        have h3 := HR2.out
        rw [Nat.succ_mul]
        omega
      clear ho3 hr3 HW2 HO2 R2 q3 U3 U4 U5 hb3
      go_wp2_with fail
      go_roundw
      case rel => exact ⟨j + 1, r3, f1, by omega, by go_num, rfl, HKF.out, R3.out, T1.out, HW3.out, HO3.out⟩
      case measure => simp [intOf]; omega
    · have e : j = n := by omega
      have hKn : Hid (K ≤ k + n * 4398056996866) := by show _ ≤ _; rw [← e]; exact hK
      clear hout hrow hws hf hK
      go_wp2_with fail
      go_ret
      exact ⟨⟨K, hKn.out, rfl⟩, HO.out⟩

end Go.Proofs.YtheglnkndjheaaaGreatDoor
