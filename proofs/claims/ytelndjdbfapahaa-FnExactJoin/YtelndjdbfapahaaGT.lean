/- Joining two nodes of a forest: the specification. -/
import Derived.Test.YtelndjdbfapahaaGS
namespace Go.Proofs.Ytelndjdbfapahaa
set_option linter.unusedVariables false
set_option linter.unusedSimpArgs false
open Go.RowKit

set_option maxHeartbeats 2000000 in
set_option maxRecDepth 100000 in
theorem specJoin_any (z : Int) (g n c : Nat) (ls : List Lk) (x y q : Int) (w : World) (hr : RdK w (some ⟨g, 0, none⟩) ls) (hn : ls.length = n) :
    Calls Try.prog 18 #[.agg #[.int .i64 z, .slice (some ⟨g, 0, none⟩) n c], .int .i64 x, .int .i64 y, .int .i64 q] w (RetJ w (joinR z ls x y q)) := by
  obtain ⟨R, hR⟩ : ∃ R, joinR z ls x y q = R := ⟨_, rfl⟩
  rw [hR]
  have HR := kide hR
  have hl2 : ls.length ≤ 1048576 := hr.1
  have h2 : Below w.heap.size w ((w.alloc (Obj.cells #[.int .i64 z, .slice (some ⟨g, 0, none⟩) n c] 29)).alloc (Obj.cells #[.int .i64 0, .slice none 0 0] 29)) := ((Below.refl _ _).alloc (Nat.le_refl _) _).alloc (by simp) _
  have XF : Hid (Bx ((w.alloc (Obj.cells #[.int .i64 z, .slice (some ⟨g, 0, none⟩) n c] 29)).alloc (Obj.cells #[.int .i64 0, .slice none 0 0] 29)) w.heap.size #[.int .i64 z, .slice (some ⟨g, 0, none⟩) n c] 29) := (Bx.new w #[.int .i64 z, .slice (some ⟨g, 0, none⟩) n c] 29).alloc _
  have XR : Hid (Bx ((w.alloc (Obj.cells #[.int .i64 z, .slice (some ⟨g, 0, none⟩) n c] 29)).alloc (Obj.cells #[.int .i64 0, .slice none 0 0] 29)) (w.heap.size + 1) #[.int .i64 0, .slice none 0 0] 29) := by
    have := Bx.new (w.alloc (Obj.cells #[.int .i64 z, .slice (some ⟨g, 0, none⟩) n c] 29)) #[.int .i64 0, .slice none 0 0] 29
    rwa [World.size_alloc] at this
  have HC := kide (specForest_any z (some ⟨g, 0, none⟩) n c ls _ (hr.later h2) hn)
  have HNX := kide (fun u (hz : 0 ≤ z ∧ z ≤ 1000) => l7Node_any z x (some ⟨g, 0, none⟩) n c u hz)
  have HNY := kide (fun u (hz : 0 ≤ z ∧ z ≤ 1000) => l7Node_any z y (some ⟨g, 0, none⟩) n c u hz)
  have HNQ := kide (fun u => l1In_any q 0 1000000 u)
  have HCP := kide (fun u (hu : Below w.heap.size w u) => l7Copy_any z g n c ls u (hr.later hu) hn)
  have HLE := kide (fun u (N : Nat) (L : Nat → Nat) (hu : Below w.heap.size w u) (hN : N ≤ 1000) (hL : goF N id ls = some L) => l7Least_any N n c (some ⟨g, 0, none⟩) ls L u (hr.later hu) hn hN hL)
  have H2 := kide h2
  clear hr hn hR h2
  cases hf : forR z ls with
  | none =>
    have hres : R = (0, [], false, false) := by rw [← HR.out, joinR, hf]
    subst hres
    rw [hf] at HC
    simp only [Option.isSome_none] at HC
    clear HR HNX HNY HNQ HCP HLE
    go_enter Try.func18, Try.ntmps18
    go_wp2_with fail
    generalize (w.alloc (Obj.cells #[.int .i64 z, .slice (some ⟨g, 0, none⟩) n c] 29)).alloc (Obj.cells #[.int .i64 0, .slice none 0 0] 29) = w0 at *
    refine Calls.mono HC.out ?_
    rintro e w1 ⟨rfl, hb1⟩
    have XR1 := kide (XR.out.later hb1)
    have B1 := kide (H2.out.trans (hb1.mono H2.out.size))
    have r0 := XR1.out.cell 0
    have r1 := XR1.out.cell 1
    have f0 := XR1.out.froz 0
    have f1 := XR1.out.froz 1
    simp at r0 r1
    clear hb1
    go_wp2_with fail
    exact bodyPost_ret (v := .tuple #[.agg #[.int .i64 0, .slice none 0 0], .bool false, .bool false]) (by simp [results, Try.results18, go_sem, r0, r1]) rfl (RetJ.no ((B1.out.setCell (by simp) _).setCell (by simp) _))
  | some L =>
    rw [hf] at HC
    simp only [Option.isSome_some] at HC
    have hz := (forR_len hf).1
    have HN2 := kide (fun u => HNX.out u hz)
    have HN3 := kide (fun u => HNY.out u hz)
    obtain ⟨N, rfl⟩ : ∃ N : Nat, z = (N : Int) := ⟨z.toNat, by omega⟩
    have hgo : goF N id ls = some L := by
      unfold forR at hf
      rw [if_pos hz, Int.toNat_natCast] at hf
      exact hf
    have HL2 := kide (fun u (hu : Below w.heap.size w u) => HLE.out u N L hu (by omega) hgo)
    have hll := (forR_len hf).2
    clear HNX HNY HLE hgo
    go_enter Try.func18, Try.ntmps18
    go_wp2_with fail
    generalize (w.alloc (Obj.cells #[.int .i64 (N : Int), .slice (some ⟨g, 0, none⟩) n c] 29)).alloc (Obj.cells #[.int .i64 0, .slice none 0 0] 29) = w0 at *
    refine Calls.mono HC.out ?_
    rintro e w1 ⟨rfl, hb1⟩
    have XR1 := kide (XR.out.later hb1)
    have XF1 := kide (XF.out.later hb1)
    have B1 := kide (H2.out.trans (hb1.mono H2.out.size))
    have p0 := XF1.out.cell 0
    have p1 := XF1.out.cell 1
    simp at p0 p1
    clear hb1 XR XF H2 HC
    by_cases hx : 0 ≤ x ∧ x ≤ (N : Int) - 1
    case neg =>
      simp only [decide_eq_false hx] at HN2
      have hres : R = (0, [], false, false) := by
        rw [← HR.out, joinR, hf]
        simp only []
        rw [if_neg (by omega)]
      subst hres
      clear HR hf HN3 HNQ HCP HL2
      go_wp2_with fail
      refine Calls.mono (HN2.out w1) ?_
      rintro e w2 ⟨rfl, hb2⟩
      have XR2 := kide (XR1.out.later hb2)
      have B2 := kide (B1.out.trans (hb2.mono B1.out.size))
      have r0 := XR2.out.cell 0
      have r1 := XR2.out.cell 1
      have f0 := XR2.out.froz 0
      have f1 := XR2.out.froz 1
      simp at r0 r1
      clear hb2 p0 p1
      go_wp2_with fail
      exact bodyPost_ret (v := .tuple #[.agg #[.int .i64 0, .slice none 0 0], .bool false, .bool false]) (by simp [results, Try.results18, go_sem, r0, r1]) rfl (RetJ.no ((B2.out.setCell (by simp) _).setCell (by simp) _))
    simp only [decide_eq_true hx] at HN2
    go_wp2_with fail
    refine Calls.mono (HN2.out w1) ?_
    rintro e w2 ⟨rfl, hb2⟩
    have XR2 := kide (XR1.out.later hb2)
    have XF2 := kide (XF1.out.later hb2)
    have B2 := kide (B1.out.trans (hb2.mono B1.out.size))
    clear hb2 p0 p1 XR1 XF1 B1
    have p0 := XF2.out.cell 0
    have p1 := XF2.out.cell 1
    simp at p0 p1
    by_cases hy : 0 ≤ y ∧ y ≤ (N : Int) - 1
    case neg =>
      simp only [decide_eq_false hy] at HN3
      have hres : R = (0, [], false, false) := by
        rw [← HR.out, joinR, hf]
        simp only []
        rw [if_neg (by omega)]
      subst hres
      clear HR hf HN2 HNQ HCP HL2
      go_wp2_with fail
      refine Calls.mono (HN3.out w2) ?_
      rintro e w3 ⟨rfl, hb3⟩
      have XR3 := kide (XR2.out.later hb3)
      have B3 := kide (B2.out.trans (hb3.mono B2.out.size))
      have r0 := XR3.out.cell 0
      have r1 := XR3.out.cell 1
      have f0 := XR3.out.froz 0
      have f1 := XR3.out.froz 1
      simp at r0 r1
      clear hb3 p0 p1
      go_wp2_with fail
      exact bodyPost_ret (v := .tuple #[.agg #[.int .i64 0, .slice none 0 0], .bool false, .bool false]) (by simp [results, Try.results18, go_sem, r0, r1]) rfl (RetJ.no ((B3.out.setCell (by simp) _).setCell (by simp) _))
    simp only [decide_eq_true hy] at HN3
    go_wp2_with fail
    refine Calls.mono (HN3.out w2) ?_
    rintro e w3 ⟨rfl, hb3⟩
    have XR3 := kide (XR2.out.later hb3)
    have XF3 := kide (XF2.out.later hb3)
    have B3 := kide (B2.out.trans (hb3.mono B2.out.size))
    clear hb3 p0 p1 XR2 XF2 B2
    by_cases hq : 0 ≤ q ∧ q ≤ 1000000
    case neg =>
      simp only [decide_eq_false hq] at HNQ
      have hres : R = (0, [], false, false) := by
        rw [← HR.out, joinR, hf]
        simp only []
        rw [if_neg (by omega)]
      subst hres
      clear HR hf HN2 HN3 HCP HL2
      have r0 := XR3.out.cell 0
      have r1 := XR3.out.cell 1
      have f0 := XR3.out.froz 0
      have f1 := XR3.out.froz 1
      simp at r0 r1
      go_wp2_with fail
      refine Calls.mono (HNQ.out w3) ?_
      rintro e w4 ⟨rfl, hw4⟩
      obtain rfl := hw4.symm
      go_wp2_with fail
      exact bodyPost_ret (v := .tuple #[.agg #[.int .i64 0, .slice none 0 0], .bool false, .bool false]) (by simp [results, Try.results18, go_sem, r0, r1]) rfl (RetJ.no ((B3.out.setCell (by simp) _).setCell (by simp) _))
    simp only [decide_eq_true hq] at HNQ
    obtain ⟨na, rfl⟩ : ∃ m : Nat, x = (m : Int) := ⟨x.toNat, by omega⟩
    obtain ⟨nb, rfl⟩ : ∃ m : Nat, y = (m : Int) := ⟨y.toNat, by omega⟩
    have hna : na < N := by omega
    have hnb : nb < N := by omega
    have i0 : (na : Int) < (N : Int) := by omega
    have i1 : (nb : Int) < (N : Int) := by omega
    have hres : R = if L na = L nb then ((N : Int), ls, false, true) else ((N : Int), ls ++ [((na : Int), (nb : Int), q)], true, true) := by
      rw [← HR.out, joinR, hf]
      simp only []
      rw [if_pos ⟨by omega, by omega, hq⟩]
      simp
    have HRS := kide hres
    have p0 := XF3.out.cell 0
    have p1 := XF3.out.cell 1
    simp at p0 p1
    have HZ := kide hz
    have HLL := kide hll
    clear HR hf hres HN2 HN3 hx hy hq hz hll
    go_wp2_with fail
    refine Calls.mono (HNQ.out w3) ?_
    rintro e w4 ⟨rfl, hw4⟩
    obtain rfl := hw4.symm
    go_wp2_with fail
    refine Calls.mono (HCP.out w3 B3.out) ?_
    rintro e w5 ⟨v5, rfl, o5, hb5⟩
    obtain ⟨a5, c5, rfl⟩ := ok3_form o5
    have hbx : Below w5.heap.size w5 (w5.alloc (Obj.cells #[.int .i64 (N : Int), .slice a5 ls.length c5] 29)) := (Below.refl _ _).alloc (Nat.le_refl _) _
    have XO := kide (Bx.new w5 #[.int .i64 (N : Int), .slice a5 ls.length c5] 29)
    have XR5 := kide ((XR3.out.later hb5).later hbx)
    have XF5 := kide ((XF3.out.later hb5).later hbx)
    have B5 := kide ((B3.out.trans (hb5.mono B3.out.size)).trans (hbx.mono (Nat.le_trans B3.out.size hb5.size)))
    have O5 := kide (own3_later o5 hbx)
    have hz3 : Hid (w.heap.size ≤ w3.heap.size) := B3.out.size
    have hzR : Hid (w.heap.size + 1 < w5.heap.size) := Nat.lt_of_lt_of_le XR3.out.lt hb5.size
    have hb35 : Hid (w3.heap.size ≤ w5.heap.size) := hb5.size
    clear o5 hb5 hbx p0 p1 XR3 XF3 B3
    have p0 := XF5.out.cell 0
    have p1 := XF5.out.cell 1
    simp at p0 p1
    go_wp2_with fail
    generalize w5.alloc (Obj.cells #[.int .i64 (N : Int), .slice a5 ls.length c5] 29) = w5a at *
    have hbo0 : w.heap.size + 1 < w5.heap.size := by have := hzR.out; omega
    have hbl0 : w3.heap.size ≤ w5.heap.size := hb35.out
    obtain ⟨BO, hBO⟩ : ∃ b, w5.heap.size = b := ⟨_, rfl⟩
    rw [hBO] at XO hbo0 hbl0 ⊢
    have hbo : Hid (BO ≠ w.heap.size + 1) := by show _ ≠ _; omega
    have hbl : Hid (w.heap.size ≤ BO) := by show _ ≤ _; omega
    have hzz : Hid (∀ u : Nat, BO < u → w3.heap.size ≤ u) := fun u hu => by omega
    clear hBO hbo0 hbl0
    refine Calls.mono (HL2.out w5a B5.out) ?_
    rintro e w6 ⟨v6, rfl, ho6, hb6⟩
    have XO6 := kide (XO.out.later hb6)
    have XR6 := kide (XR5.out.later hb6)
    have B6 := kide (B5.out.trans (hb6.mono B5.out.size))
    have O6 := kide (own3_later O5.out hb6)
    obtain ⟨g6, cap6, rfl⟩ : ∃ g cap, v6 = .slice (some ⟨g, 0, none⟩) N cap := by
      rcases ho6.2 with ⟨-, h0⟩ | ⟨g, cap, cur, h0, -⟩
      · rw [lv_len] at h0; omega
      · rw [lv_len] at h0; exact ⟨g, cap, h0⟩
    obtain ⟨e4, -⟩ := ho6.cell (lv_get (L := L) hna)
    obtain ⟨e5, -⟩ := ho6.cell (lv_get (L := L) hnb)
    clear ho6 hb6 p0 p1 XR5 XF5 B5 O5 XO
    obtain ⟨la, hla⟩ : ∃ m, L na = m := ⟨_, rfl⟩
    obtain ⟨lb, hlb⟩ : ∃ m, L nb = m := ⟨_, rfl⟩
    rw [hla] at e4 HRS
    rw [hlb] at e5 HRS
    clear hla hlb hna hnb
    have x0 := XO6.out.cell 0
    have x1 := XO6.out.cell 1
    have r0 := XR6.out.cell 0
    have r1 := XR6.out.cell 1
    have f0 := XR6.out.froz 0
    have f1 := XR6.out.froz 1
    simp at x0 x1 r0 r1
    by_cases hlab : la = lb
    · have hRR : R = ((N : Int), ls, false, true) := by rw [HRS.out, if_pos hlab]
      subst hRR
      have hbq : ((la : Int) == (lb : Int)) = true := by simp [hlab]
      have OE : Hid (∀ k, OK3 (((w6.drewN k).setCell ⟨w.heap.size + 1, 0, none⟩ (.int .i64 (N : Int))).setCell ⟨w.heap.size + 1, 1, none⟩ (.slice a5 ls.length c5)) w.heap.size (.slice a5 ls.length c5) ls) := fun k => by
        have hb := below_drewN (Below.refl w6.heap.size w6) k
        have X := XR6.out.later hb
        exact ok3_base (own3_set (own3_set (own3_later O6.out hb) X (by decide) _) (X.set 0 (.int .i64 (N : Int))) (by decide) _) hz3.out
      have BE : Hid (∀ k, Below w.heap.size w (((w6.drewN k).setCell ⟨w.heap.size + 1, 0, none⟩ (.int .i64 (N : Int))).setCell ⟨w.heap.size + 1, 1, none⟩ (.slice a5 ls.length c5))) := fun k => ((below_drewN B6.out k).setCell (by simp) _).setCell (by simp) _
      clear HRS hlab
      go_wp2_with fail
      go_quiet (fail)
      go_wp2_with fail
      exact bodyPost_ret (v := .tuple #[.agg #[.int .i64 (N : Int), .slice a5 ls.length c5], .bool false, .bool true]) (by simp [results, Try.results18, go_sem, r0, r1]) rfl ⟨_, rfl, OE.out _, BE.out _⟩
    · have hRR : R = ((N : Int), ls ++ [((na : Int), (nb : Int), q)], true, true) := by rw [HRS.out, if_neg hlab]
      subst hRR
      have hbq : ((la : Int) == (lb : Int)) = false := by simp; omega
      clear HRS hlab
      go_wp2_with fail
      go_quiet (fail)
      have hb7 := below_drewN (Below.refl w6.heap.size w6) nq
      have XO7 := kide (XO6.out.later hb7)
      have XR7 := kide (XR6.out.later hb7)
      have B7 := kide (below_drewN B6.out nq)
      have O7 := kide (own3_later O6.out hb7)
      clear hb7 x0 x1 r0 r1 f0 f1 e4 e5 XO6 XR6 B6 O6 hbq
      generalize w6.drewN nq = w7 at *
      have hba : Below w7.heap.size w7 (w7.alloc (Obj.cells #[Value.int .i64 (na : Int), Value.int .i64 (nb : Int), Value.int .i64 q] 55)) := (Below.refl _ _).alloc (Nat.le_refl _) _
      have XL := Bx.new w7 #[Value.int .i64 (na : Int), Value.int .i64 (nb : Int), Value.int .i64 q] 55
      have LK : Hid (∀ i l, ([((na : Int), (nb : Int), q)] : List Lk)[i]? = some l → LkAt (w7.alloc (Obj.cells #[Value.int .i64 (na : Int), Value.int .i64 (nb : Int), Value.int .i64 q] 55)) w7.heap.size (0 + i * 3) l) := fun i l hi => by
        match i, hi with
        | 0, hi =>
          simp at hi
          subst hi
          exact ⟨XL.cell 0, XL.cell 1, XL.cell 2⟩
        | i + 1, hi => simp at hi
      have XO8 := kide (XO7.out.later hba)
      have XR8 := kide (XR7.out.later hba)
      have B8 := kide (B7.out.trans (hba.mono B7.out.size))
      have O8 : Hid (OK3 _ _ _ _) := own3_later O7.out hba
      have x0 := XO7.out.cell 0
      have x1 := XO7.out.cell 1
      simp at x0 x1
      have hz8 : w3.heap.size ≤ w7.heap.size := hzz.out _ XO7.out.lt
      have hlm : ls.length + [((na : Int), (nb : Int), q)].length ≤ 1073741824 := by simp; omega
      clear hba XL
      go_wp2_with (at_builtin; refine wpList_appLs rfl _ _ rfl w3.heap.size _ ls [((na : Int), (nb : Int), q)] rfl O8.out w7.heap.size 0 1 1 rfl rfl LK.out hlm (by simp; omega) ?_)
      intro v9 w9 ho9 hg9
      obtain ⟨a9, c9, rfl⟩ := ok3_form ho9
      have XO9 := kide (XO8.out.far3 O8.out hg9 (by decide))
      have XR9 := kide (XR8.out.far3 O8.out hg9 (by decide))
      have B9 := kide (Below.grown B8.out hg9 B8.out.size (fun j hj => by have := (own3_lt O8.out hj).1; have := hz3.out; omega))
      have O9 := kide ho9
      clear ho9 hg9 x0 x1 XO7 XR7 B7 O7 XO8 XR8 B8 O8 LK
      generalize hLE : ls ++ [((na : Int), (nb : Int), q)] = LE at *
      clear hLE
      have x0 := XO9.out.cell 0
      have x1 := XO9.out.cell 1
      have y0 := XO9.out.froz 0
      have y1 := XO9.out.froz 1
      have hne : BO ≠ w.heap.size + 1 := hbo.out
      have hne' : w.heap.size + 1 ≠ BO := Ne.symm hne
      have XOa := kide (XO9.out.set 1 (.slice a9 LE.length c9))
      have XRa := kide (XR9.out.other hne' 1 (.slice a9 LE.length c9))
      have Oa := kide (own3_set O9.out XO9.out (by decide) (o := 1) (.slice a9 LE.length c9))
      have hBOl : w.heap.size ≤ BO := hbl.out
      have Ba : Hid (Below w.heap.size w (w9.setCell ⟨BO, 1, none⟩ (.slice a9 LE.length c9))) := B9.out.setCell hBOl _
      have r0 := XR9.out.cell 0
      have r1 := XR9.out.cell 1
      have f0 := XR9.out.froz 0
      have f1 := XR9.out.froz 1
      simp at x0 x1 r0 r1
      have OE : Hid (OK3 (((w9.setCell ⟨BO, 1, none⟩ (.slice a9 LE.length c9)).setCell ⟨w.heap.size + 1, 0, none⟩ (.int .i64 (N : Int))).setCell ⟨w.heap.size + 1, 1, none⟩ (.slice a9 LE.length c9)) w.heap.size (.slice a9 LE.length c9) LE) :=
        ok3_base (own3_set (own3_set Oa.out XRa.out (by decide) _) (XRa.out.set 0 (.int .i64 (N : Int))) (by decide) _) hz3.out
      have BE : Hid (Below w.heap.size w (((w9.setCell ⟨BO, 1, none⟩ (.slice a9 LE.length c9)).setCell ⟨w.heap.size + 1, 0, none⟩ (.int .i64 (N : Int))).setCell ⟨w.heap.size + 1, 1, none⟩ (.slice a9 LE.length c9))) := (Ba.out.setCell (by simp) _).setCell (by simp) _
      have XE : Hid (Bx (((w9.setCell ⟨BO, 1, none⟩ (.slice a9 LE.length c9)).setCell ⟨w.heap.size + 1, 0, none⟩ (.int .i64 (N : Int))).setCell ⟨w.heap.size + 1, 1, none⟩ (.slice a9 LE.length c9)) (w.heap.size + 1) #[.int .i64 (N : Int), .slice a9 LE.length c9] 29) := (XRa.out.set 0 _).set 1 _
      go_wp2_with fail
      generalize ((w9.setCell ⟨BO, 1, none⟩ (.slice a9 LE.length c9)).setCell ⟨w.heap.size + 1, 0, none⟩ (.int .i64 (N : Int))).setCell ⟨w.heap.size + 1, 1, none⟩ (.slice a9 LE.length c9) = wE at *
      have z0 := XE.out.cell 0
      have z1 := XE.out.cell 1
      simp at z0 z1
      exact bodyPost_ret (v := .tuple #[.agg #[.int .i64 (N : Int), .slice a9 LE.length c9], .bool true, .bool true]) (by simp [results, Try.results18, go_sem, z0, z1]) rfl ⟨_, rfl, OE.out, BE.out⟩

end Go.Proofs.Ytelndjdbfapahaa
