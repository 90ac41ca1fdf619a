/- Contracts of the laws' own functions on graphs: how long, compared, copied. -/
import Derived.Test.YtddgldfjeklhbaaJC
namespace Go.Proofs.Ytddgldfjeklhbaa
set_option linter.unusedVariables false
set_option linter.unusedSimpArgs false
open Go.RowKit

theorem kfrozB {W w1 : World} (hb : Below W.heap.size W w1) (b o : Nat) (h : b < W.heap.size) : w1.frozen? ⟨b, o, none⟩ = W.frozen? ⟨b, o, none⟩ := hb.frozen (p := ⟨b, o, none⟩) h

theorem szGraph_any (a1 a2 : Option Addr) (n1 c1 n2 c2 : Nat) (Z : Int) (w : World) (hn1 : n1 ≤ 9223372036854775807) (hZ : Z = -1 ∨ 0 ≤ Z)
    (H2 : Hid ((n1 : Int) ≤ 1048576 → ∀ u, Below w.heap.size w u → Calls Try.prog 30 #[.slice a2 n2 c2, .int .i64 (1048576 - n1)] u fun e w' => e = .returned (.int .i64 Z) ∧ Below u.heap.size u w')) :
    Calls Try.prog 14 #[.agg #[.slice a1 n1 c1, .slice a2 n2 c2], .int .i64 1048576] w fun e w' => e = .returned (.int .i64 (if (n1 : Int) ≤ 1048576 then Z else -1)) ∧ Below w.heap.size w w' := by
  have hb0 : Below w.heap.size w (w.alloc (Obj.cells #[Value.slice a1 n1 c1, Value.slice a2 n2 c2] 36)) := (Below.refl _ _).alloc (Nat.le_refl _) _
  have B0 := kide hb0
  clear hb0
  have HI := kide (fun u => szInt64S_any a1 n1 c1 1048576 u (by omega) (by omega) hn1)
  by_cases h1 : (n1 : Int) ≤ 1048576
  · rw [if_pos h1]
    rw [if_pos h1] at HI
    have HC := kide (H2.out h1)
    rcases hZ with rfl | hZ
    all_goals
      go_enter Try.func14, Try.ntmps14
      go_wp2_with fail
      refine Calls.mono (HI.out _) ?_
      rintro e wx ⟨rfl, rfl⟩
      go_wp2_with fail
      refine Calls.mono (HC.out _ B0.out) ?_
      rintro e w2 ⟨rfl, hb2⟩
      go_wp2_with fail
      go_ret
      exact ⟨rfl, B0.out.trans (hb2.mono B0.out.size)⟩
  · rw [if_neg h1]
    rw [if_neg h1] at HI
    go_enter Try.func14, Try.ntmps14
    go_wp2_with fail
    refine Calls.mono (HI.out _) ?_
    rintro e wx ⟨rfl, rfl⟩
    go_wp2_with fail
    go_ret
    exact ⟨rfl, B0.out⟩

/-- A graph as it lies: widths, bars. -/
structure Gz where
  a1 : Option Addr
  c1 : Nat
  ks : List Int
  a2 : Option Addr
  c2 : Nat
  bs : List Yg

def Gz.val (z : Gz) : Value := .agg #[.slice z.a1 z.ks.length z.c1, .slice z.a2 z.bs.length z.c2]
def Gz.ct (z : Gz) : List Int × List Yc := (z.ks, z.bs.map Yg.ct)
def RdG (w : World) (z : Gz) : Prop := RdI w z.a1 z.ks ∧ RdBr w z.a2 z.bs
theorem RdG.later {w w' : World} {z : Gz} (h : RdG w z) (hb : Below w.heap.size w w') : RdG w' z := ⟨h.1.later hb, h.2.later hb⟩

theorem eqGraph_same (x y : Gz) (w : World) (hx : RdG w x) (hy : RdG w y) (he : x.ct = y.ct) :
    Calls Try.prog 18 #[x.val, y.val] w fun e w' => e = .returned (.bool true) ∧ Below w.heap.size w w' := by
  obtain ⟨xa1, xc1, xks, xa2, xc2, xbs⟩ := x
  obtain ⟨ya1, yc1, yks, ya2, yc2, ybs⟩ := y
  simp only [Gz.ct, Prod.mk.injEq] at he
  obtain ⟨rfl, he2⟩ := he
  have hl2 : ybs.length = xbs.length := by simpa using (congrArg List.length he2).symm
  simp only [Gz.val, hl2]
  obtain ⟨x1, x2⟩ := hx
  obtain ⟨y1, y2⟩ := hy
  simp only [] at x1 x2 y1 y2
  have H1 : Hid (∀ u, Below w.heap.size w u → Calls Try.prog 39 #[.slice xa1 xks.length xc1, .slice ya1 xks.length yc1] u fun e w' => e = .returned (.bool true) ∧ Below u.heap.size u w') := fun u hu => by
    have := eqInt64S_any xa1 ya1 xc1 yc1 xks xks u (x1.later hu) (y1.later hu)
    simpa using this
  have H2 := kide (fun u (hu : Below w.heap.size w u) => eqBarS_same xa2 ya2 xc2 yc2 xbs ybs u (x2.later hu) (y2.later hu) he2 _ rfl hl2)
  generalize xks.length = n1 at *
  generalize xbs.length = n2 at *
  have h2 : Below w.heap.size w ((w.alloc (Obj.cells #[Value.slice xa1 n1 xc1, Value.slice xa2 n2 xc2] 40)).alloc (Obj.cells #[Value.slice ya1 n1 yc1, Value.slice ya2 n2 yc2] 40)) := ((Below.refl _ _).alloc (Nat.le_refl _) _).alloc (by simp) _
  have B2 := kide h2
  clear x1 x2 y1 y2 he2 hl2 h2
  go_enter Try.func18, Try.ntmps18
  go_wp2_with fail
  refine Calls.mono (H1.out _ B2.out) ?_
  rintro e w1 ⟨rfl, hb1⟩
  have k1 : w1.cell? ⟨w.heap.size, 1, none⟩ = some (Value.slice xa2 n2 xc2) := by rw [kcell hb1 _ _ (by simp; omega)]; simp [go_sem]
  have j1 : w1.cell? ⟨w.heap.size + 1, 1, none⟩ = some (Value.slice ya2 n2 yc2) := by rw [kcell hb1 _ _ (by simp)]; simp [go_sem]
  have B3 := kide (B2.out.trans (hb1.mono B2.out.size))
  clear hb1
  go_wp2_with fail
  refine Calls.mono (H2.out _ B3.out) ?_
  rintro e w2 ⟨rfl, hb2⟩
  go_wp2_with fail
  go_ret
  exact ⟨rfl, B3.out.trans (hb2.mono B3.out.size)⟩

set_option maxHeartbeats 1000000 in
theorem toGraph_any (z : Gz) (w : World) (hz : RdG w z) :
    Calls Try.prog 16 #[z.val] w fun e w' => ∃ y : Gz, e = .returned y.val ∧ y.ct = z.ct ∧ RdG w' y ∧ Below w.heap.size w w' := by
  obtain ⟨a1, c1, ks, a2, c2, bs⟩ := z
  obtain ⟨z1, z2⟩ := hz
  simp only [Gz.val, Gz.ct] at z1 z2 ⊢
  have H1 := kide (fun u (hu : Below w.heap.size w u) => toInt64S_any a1 c1 ks u (z1.later hu))
  have H2 := kide (fun u (hu : Below w.heap.size w u) => toBarS_far a2 c2 bs u (z2.later hu))
  have HK3 := kide (z1.1)
  have HK4 := kide (z1.2.1)
  clear z1 z2
  have h3 : Below w.heap.size w (((w.alloc (Obj.cells #[Value.slice a1 ks.length c1, Value.slice a2 bs.length c2] 36)).alloc (Obj.cells #[Value.slice none 0 0, Value.slice none 0 0] 40)).alloc (Obj.cells #[Value.slice none 0 0, Value.slice none 0 0] 40)) := (((Below.refl _ _).alloc (Nat.le_refl _) _).alloc (by simp) _).alloc (by simp; omega) _
  have B0 := kide h3
  clear h3
  go_enter Try.func16, Try.ntmps16
  go_wp2_with fail
  refine Calls.mono (H1.out _ B0.out) ?_
  rintro e w1 ⟨rfl, hown, hb1⟩
  have hz1 : w.heap.size + 3 ≤ w1.heap.size := by have := hb1.size; simp at this; omega
  have O1 : Hid (OwnI w1 (w.heap.size + 3) ks) := by have h := hown; simp at h; exact h
  have l1 : w.heap.size + 3 < w1.heap.size := O1.out.lt
  have p1 : w1.cell? ⟨w.heap.size, 1, none⟩ = some (Value.slice a2 bs.length c2) := by rw [kcell hb1 _ _ (by first | (simp; done) | (simp; omega))]; simp [go_sem]
  have qa0 : w1.cell? ⟨w.heap.size + 1, 0, none⟩ = some (Value.slice none 0 0) := by rw [kcell hb1 _ _ (by first | (simp; done) | (simp; omega))]; simp [go_sem]
  have qa1 : w1.cell? ⟨w.heap.size + 1, 1, none⟩ = some (Value.slice none 0 0) := by rw [kcell hb1 _ _ (by first | (simp; done) | (simp; omega))]; simp [go_sem]
  have qb0 : w1.cell? ⟨w.heap.size + 1 + 1, 0, none⟩ = some (Value.slice none 0 0) := by rw [kcell hb1 _ _ (by first | (simp; done) | (simp; omega))]; simp [go_sem]
  have qb1 : w1.cell? ⟨w.heap.size + 1 + 1, 1, none⟩ = some (Value.slice none 0 0) := by rw [kcell hb1 _ _ (by first | (simp; done) | (simp; omega))]; simp [go_sem]
  have fa0 : w1.frozen? ⟨w.heap.size + 1, 0, none⟩ = false := by rw [kfrozB hb1 _ _ (by first | (simp; done) | (simp; omega))]; simp [go_sem]
  have fb0 : w1.frozen? ⟨w.heap.size + 1 + 1, 0, none⟩ = false := by rw [kfrozB hb1 _ _ (by first | (simp; done) | (simp; omega))]; simp [go_sem]
  have fa1 : w1.frozen? ⟨w.heap.size + 1, 1, none⟩ = false := by rw [kfrozB hb1 _ _ (by first | (simp; done) | (simp; omega))]; simp [go_sem]
  have fb1 : w1.frozen? ⟨w.heap.size + 1 + 1, 1, none⟩ = false := by rw [kfrozB hb1 _ _ (by first | (simp; done) | (simp; omega))]; simp [go_sem]
  have B1 := kide (B0.out.trans (hb1.mono B0.out.size))
  clear hb1 hown B0 H1
  have uc01 : (w1.setCell ⟨w.heap.size + 1 + 1, 0, none⟩ (Value.slice (some ⟨w.heap.size + 1 + 1 + 1, 0, none⟩) ks.length ks.length)).cell? ⟨w.heap.size, 1, none⟩ = some (Value.slice a2 bs.length c2) := by simp [go_sem, p1, qa0, qa1, qb0, qb1, fa0, fb0, fa1, fb1]
  have uc10 : (w1.setCell ⟨w.heap.size + 1 + 1, 0, none⟩ (Value.slice (some ⟨w.heap.size + 1 + 1 + 1, 0, none⟩) ks.length ks.length)).cell? ⟨w.heap.size + 1, 0, none⟩ = some (Value.slice none 0 0) := by simp [go_sem, p1, qa0, qa1, qb0, qb1, fa0, fb0, fa1, fb1]
  have uc11 : (w1.setCell ⟨w.heap.size + 1 + 1, 0, none⟩ (Value.slice (some ⟨w.heap.size + 1 + 1 + 1, 0, none⟩) ks.length ks.length)).cell? ⟨w.heap.size + 1, 1, none⟩ = some (Value.slice none 0 0) := by simp [go_sem, p1, qa0, qa1, qb0, qb1, fa0, fb0, fa1, fb1]
  have uc20 : (w1.setCell ⟨w.heap.size + 1 + 1, 0, none⟩ (Value.slice (some ⟨w.heap.size + 1 + 1 + 1, 0, none⟩) ks.length ks.length)).cell? ⟨w.heap.size + 1 + 1, 0, none⟩ = some (Value.slice (some ⟨w.heap.size + 1 + 1 + 1, 0, none⟩) ks.length ks.length) := by simp [go_sem, p1, qa0, qa1, qb0, qb1, fa0, fb0, fa1, fb1]
  have uc21 : (w1.setCell ⟨w.heap.size + 1 + 1, 0, none⟩ (Value.slice (some ⟨w.heap.size + 1 + 1 + 1, 0, none⟩) ks.length ks.length)).cell? ⟨w.heap.size + 1 + 1, 1, none⟩ = some (Value.slice none 0 0) := by simp [go_sem, p1, qa0, qa1, qb0, qb1, fa0, fb0, fa1, fb1]
  have uf10 : (w1.setCell ⟨w.heap.size + 1 + 1, 0, none⟩ (Value.slice (some ⟨w.heap.size + 1 + 1 + 1, 0, none⟩) ks.length ks.length)).frozen? ⟨w.heap.size + 1, 0, none⟩ = false := by simp [go_sem, p1, qa0, qa1, qb0, qb1, fa0, fb0, fa1, fb1]
  have uf11 : (w1.setCell ⟨w.heap.size + 1 + 1, 0, none⟩ (Value.slice (some ⟨w.heap.size + 1 + 1 + 1, 0, none⟩) ks.length ks.length)).frozen? ⟨w.heap.size + 1, 1, none⟩ = false := by simp [go_sem, p1, qa0, qa1, qb0, qb1, fa0, fb0, fa1, fb1]
  have uf20 : (w1.setCell ⟨w.heap.size + 1 + 1, 0, none⟩ (Value.slice (some ⟨w.heap.size + 1 + 1 + 1, 0, none⟩) ks.length ks.length)).frozen? ⟨w.heap.size + 1 + 1, 0, none⟩ = false := by simp [go_sem, p1, qa0, qa1, qb0, qb1, fa0, fb0, fa1, fb1]
  have uf21 : (w1.setCell ⟨w.heap.size + 1 + 1, 0, none⟩ (Value.slice (some ⟨w.heap.size + 1 + 1 + 1, 0, none⟩) ks.length ks.length)).frozen? ⟨w.heap.size + 1 + 1, 1, none⟩ = false := by simp [go_sem, p1, qa0, qa1, qb0, qb1, fa0, fb0, fa1, fb1]
  have BW1 : Hid (Below w.heap.size w (w1.setCell ⟨w.heap.size + 1 + 1, 0, none⟩ (Value.slice (some ⟨w.heap.size + 1 + 1 + 1, 0, none⟩) ks.length ks.length))) := B1.out.setCell (by first | (simp; done) | (simp; omega)) _
  have OW1 : Hid (OwnI (w1.setCell ⟨w.heap.size + 1 + 1, 0, none⟩ (Value.slice (some ⟨w.heap.size + 1 + 1 + 1, 0, none⟩) ks.length ks.length)) (w.heap.size + 3) ks) := O1.out.other (by first | (simp; done) | (simp; omega)) _
  have hzW1 : w.heap.size + 3 < (w1.setCell ⟨w.heap.size + 1 + 1, 0, none⟩ (Value.slice (some ⟨w.heap.size + 1 + 1 + 1, 0, none⟩) ks.length ks.length)).heap.size := by simp; omega
  go_wp2_with fail
  clear p1 qa0 qa1 qb0 qb1 fa0 fb0 fa1 fb1
  generalize w1.setCell ⟨w.heap.size + 1 + 1, 0, none⟩ (Value.slice (some ⟨w.heap.size + 1 + 1 + 1, 0, none⟩) ks.length ks.length) = W1 at *
  clear B1 O1 hz1 l1
  refine Calls.mono (H2.out W1 BW1.out) ?_
  rintro e w2 ⟨m2, rfl, hm2, r2, f2, hb2⟩
  have BX2 := kide (BW1.out.trans (hb2.mono BW1.out.size))
  have OX1 := kide (OW1.out.later hb2 hzW1)
  have R2 := kide r2
  have F2 : Hid (FarB (w.heap.size + 3) (some ⟨W1.heap.size, 0, none⟩) m2) := f2.mono (by omega)
  have M2 := kide hm2
  have hz2 : w.heap.size + 3 < w2.heap.size := Nat.lt_of_lt_of_le hzW1 hb2.size
  have vc01 := (kcell hb2 (w.heap.size) 1 (by omega)).trans uc01
  have vc10 := (kcell hb2 (w.heap.size + 1) 0 (by omega)).trans uc10
  have vc11 := (kcell hb2 (w.heap.size + 1) 1 (by omega)).trans uc11
  have vc20 := (kcell hb2 (w.heap.size + 1 + 1) 0 (by omega)).trans uc20
  have vc21 := (kcell hb2 (w.heap.size + 1 + 1) 1 (by omega)).trans uc21
  have vf10 := (kfrozB hb2 (w.heap.size + 1) 0 (by omega)).trans uf10
  have vf11 := (kfrozB hb2 (w.heap.size + 1) 1 (by omega)).trans uf11
  have vf20 := (kfrozB hb2 (w.heap.size + 1 + 1) 0 (by omega)).trans uf20
  have vf21 := (kfrozB hb2 (w.heap.size + 1 + 1) 1 (by omega)).trans uf21
  clear hb2 r2 f2 hm2 uc01 uc10 uc11 uc20 uc21 uf10 uf11 uf20 uf21 BW1 OW1 H2
  go_wp2_with fail
  refine bodyPost_ret (v := .agg #[.slice (some ⟨w.heap.size + 1 + 1 + 1, 0, none⟩) ks.length ks.length, .slice (some ⟨W1.heap.size, 0, none⟩) bs.length bs.length]) (by simp [results, Try.results16, go_sem, vc01, vc10, vc11, vc20, vc21, vf10, vf11, vf20, vf21]) rfl ?_
  have hl : m2.length = bs.length := by simpa using congrArg List.length M2.out
  refine ⟨⟨some ⟨w.heap.size + 3, 0, none⟩, ks.length, ks, some ⟨W1.heap.size, 0, none⟩, bs.length, m2⟩, by simp [hl], by simp [M2.out], ⟨?_, ?_⟩, ?_⟩
  · refine RdI.setB ?_ (B := w.heap.size + 3) (fun b o sp h => by cases h; exact Nat.le_refl _) (by first | (simp; done) | (simp; omega)) _
    refine RdI.setB ?_ (B := w.heap.size + 3) (fun b o sp h => by cases h; exact Nat.le_refl _) (by first | (simp; done) | (simp; omega)) _
    refine RdI.setB ?_ (B := w.heap.size + 3) (fun b o sp h => by cases h; exact Nat.le_refl _) (by first | (simp; done) | (simp; omega)) _
    exact OX1.out.rd HK3.out HK4.out
  · exact (((R2.out.set F2.out (by first | (simp; done) | (simp; omega)) _).set F2.out (by first | (simp; done) | (simp; omega)) _).set F2.out (by first | (simp; done) | (simp; omega)) _)
  · exact (((BX2.out.setCell (by first | (simp; done) | (simp; omega)) _).setCell (by first | (simp; done) | (simp; omega)) _).setCell (by first | (simp; done) | (simp; omega)) _)

end Go.Proofs.Ytddgldfjeklhbaa
