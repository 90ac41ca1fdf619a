/- Classes copied. -/
import Derived.Test.YticpjfdnpdfmeaaND
namespace Go.Proofs.Yticpjfdnpdfmeaa
set_option linter.unusedVariables false
set_option linter.unusedSimpArgs false
open Go.RowKit

set_option maxHeartbeats 1000000 in
theorem toClasses_any (z : Cz) (w : World) (hz : RdZ w z) :
    Calls Try.prog 32 #[z.val] w fun e w' => ∃ y : Cz, e = .returned y.val ∧ y.ct = z.ct ∧ RdZ w' y ∧ Below w.heap.size w w' := by
  obtain ⟨a1, c1, xs, a2, c2, cs, a3, c3, ks⟩ := z
  obtain ⟨z1, z2, z3⟩ := hz
  simp only [Cz.val, Cz.ct] at z1 z2 z3 ⊢
  have H1 := kide (fun u (hu : Below w.heap.size w u) => toCuts_far a1 c1 xs u (z1.later hu) _ rfl)
  have H2 := kide (fun u (hu : Below w.heap.size w u) => toClassS_far a2 c2 cs u (z2.later hu))
  have H3 := kide (fun u (hu : Below w.heap.size w u) => toInt64S_any a3 c3 ks u (z3.later hu))
  have HK3 := kide (z3.1)
  have HK4 := kide (z3.2.1)
  have hlen1 := kide (z1.1)
  clear z1 z2 z3
  have h3 : Below w.heap.size w (((w.alloc (Obj.cells #[Value.slice a1 xs.length c1, Value.slice a2 cs.length c2, Value.slice a3 ks.length c3] 53)).alloc (Obj.cells #[Value.slice none 0 0, Value.slice none 0 0, Value.slice none 0 0] 58)).alloc (Obj.cells #[Value.slice none 0 0, Value.slice none 0 0, Value.slice none 0 0] 58)) := (((Below.refl _ _).alloc (Nat.le_refl _) _).alloc (by simp) _).alloc (by simp; omega) _
  have B0 := kide h3
  clear h3
  go_enter Try.func32, Try.ntmps32
  go_wp2_with fail
  refine Calls.mono (H1.out _ B0.out) ?_
  rintro e w1 ⟨g1, m1, rfl, hm1, r1, f1, hb1⟩
  have hz1 : w.heap.size + 3 ≤ w1.heap.size := by have := hb1.size; simp at this; omega
  have p1 : w1.cell? ⟨w.heap.size, 1, none⟩ = some (Value.slice a2 cs.length c2) := by rw [kcell hb1 _ _ (by first | (simp; done) | (simp; omega))]; simp [go_sem]
  have p2 : w1.cell? ⟨w.heap.size, 2, none⟩ = some (Value.slice a3 ks.length c3) := by rw [kcell hb1 _ _ (by first | (simp; done) | (simp; omega))]; simp [go_sem]
  have qa0 : w1.cell? ⟨w.heap.size + 1, 0, none⟩ = some (Value.slice none 0 0) := by rw [kcell hb1 _ _ (by first | (simp; done) | (simp; omega))]; simp [go_sem]
  have qa1 : w1.cell? ⟨w.heap.size + 1, 1, none⟩ = some (Value.slice none 0 0) := by rw [kcell hb1 _ _ (by first | (simp; done) | (simp; omega))]; simp [go_sem]
  have qa2 : w1.cell? ⟨w.heap.size + 1, 2, none⟩ = some (Value.slice none 0 0) := by rw [kcell hb1 _ _ (by first | (simp; done) | (simp; omega))]; simp [go_sem]
  have qb0 : w1.cell? ⟨w.heap.size + 1 + 1, 0, none⟩ = some (Value.slice none 0 0) := by rw [kcell hb1 _ _ (by first | (simp; done) | (simp; omega))]; simp [go_sem]
  have qb1 : w1.cell? ⟨w.heap.size + 1 + 1, 1, none⟩ = some (Value.slice none 0 0) := by rw [kcell hb1 _ _ (by first | (simp; done) | (simp; omega))]; simp [go_sem]
  have qb2 : w1.cell? ⟨w.heap.size + 1 + 1, 2, none⟩ = some (Value.slice none 0 0) := by rw [kcell hb1 _ _ (by first | (simp; done) | (simp; omega))]; simp [go_sem]
  have fa0 : w1.frozen? ⟨w.heap.size + 1, 0, none⟩ = false := by rw [kfroz hb1 _ _ (by first | (simp; done) | (simp; omega))]; simp [go_sem]
  have fa1 : w1.frozen? ⟨w.heap.size + 1, 1, none⟩ = false := by rw [kfroz hb1 _ _ (by first | (simp; done) | (simp; omega))]; simp [go_sem]
  have fa2 : w1.frozen? ⟨w.heap.size + 1, 2, none⟩ = false := by rw [kfroz hb1 _ _ (by first | (simp; done) | (simp; omega))]; simp [go_sem]
  have fb0 : w1.frozen? ⟨w.heap.size + 1 + 1, 0, none⟩ = false := by rw [kfroz hb1 _ _ (by first | (simp; done) | (simp; omega))]; simp [go_sem]
  have fb1 : w1.frozen? ⟨w.heap.size + 1 + 1, 1, none⟩ = false := by rw [kfroz hb1 _ _ (by first | (simp; done) | (simp; omega))]; simp [go_sem]
  have fb2 : w1.frozen? ⟨w.heap.size + 1 + 1, 2, none⟩ = false := by rw [kfroz hb1 _ _ (by first | (simp; done) | (simp; omega))]; simp [go_sem]
  have B1 := kide (B0.out.trans (hb1.mono B0.out.size))
  have F1 : Hid (FarII (w.heap.size + 3) (some ⟨g1, 0, none⟩) m1) := by have h := f1; simp at h; exact h
  have R1 := kide r1
  have M1 := kide hm1
  clear hb1 r1 f1 hm1 B0 H1
  have uc01 : (w1.setCell ⟨w.heap.size + 1 + 1, 0, none⟩ (Value.slice (some ⟨g1, 0, none⟩) xs.length xs.length)).cell? ⟨w.heap.size, 1, none⟩ = some (Value.slice a2 cs.length c2) := by simp [go_sem, p1, p2, qa0, qa1, qa2, qb0, qb1, qb2, fa0, fa1, fa2, fb0, fb1, fb2]
  have uc02 : (w1.setCell ⟨w.heap.size + 1 + 1, 0, none⟩ (Value.slice (some ⟨g1, 0, none⟩) xs.length xs.length)).cell? ⟨w.heap.size, 2, none⟩ = some (Value.slice a3 ks.length c3) := by simp [go_sem, p1, p2, qa0, qa1, qa2, qb0, qb1, qb2, fa0, fa1, fa2, fb0, fb1, fb2]
  have uc10 : (w1.setCell ⟨w.heap.size + 1 + 1, 0, none⟩ (Value.slice (some ⟨g1, 0, none⟩) xs.length xs.length)).cell? ⟨w.heap.size + 1, 0, none⟩ = some (Value.slice none 0 0) := by simp [go_sem, p1, p2, qa0, qa1, qa2, qb0, qb1, qb2, fa0, fa1, fa2, fb0, fb1, fb2]
  have uc11 : (w1.setCell ⟨w.heap.size + 1 + 1, 0, none⟩ (Value.slice (some ⟨g1, 0, none⟩) xs.length xs.length)).cell? ⟨w.heap.size + 1, 1, none⟩ = some (Value.slice none 0 0) := by simp [go_sem, p1, p2, qa0, qa1, qa2, qb0, qb1, qb2, fa0, fa1, fa2, fb0, fb1, fb2]
  have uc12 : (w1.setCell ⟨w.heap.size + 1 + 1, 0, none⟩ (Value.slice (some ⟨g1, 0, none⟩) xs.length xs.length)).cell? ⟨w.heap.size + 1, 2, none⟩ = some (Value.slice none 0 0) := by simp [go_sem, p1, p2, qa0, qa1, qa2, qb0, qb1, qb2, fa0, fa1, fa2, fb0, fb1, fb2]
  have uc20 : (w1.setCell ⟨w.heap.size + 1 + 1, 0, none⟩ (Value.slice (some ⟨g1, 0, none⟩) xs.length xs.length)).cell? ⟨w.heap.size + 1 + 1, 0, none⟩ = some (Value.slice (some ⟨g1, 0, none⟩) xs.length xs.length) := by simp [go_sem, p1, p2, qa0, qa1, qa2, qb0, qb1, qb2, fa0, fa1, fa2, fb0, fb1, fb2]
  have uc21 : (w1.setCell ⟨w.heap.size + 1 + 1, 0, none⟩ (Value.slice (some ⟨g1, 0, none⟩) xs.length xs.length)).cell? ⟨w.heap.size + 1 + 1, 1, none⟩ = some (Value.slice none 0 0) := by simp [go_sem, p1, p2, qa0, qa1, qa2, qb0, qb1, qb2, fa0, fa1, fa2, fb0, fb1, fb2]
  have uc22 : (w1.setCell ⟨w.heap.size + 1 + 1, 0, none⟩ (Value.slice (some ⟨g1, 0, none⟩) xs.length xs.length)).cell? ⟨w.heap.size + 1 + 1, 2, none⟩ = some (Value.slice none 0 0) := by simp [go_sem, p1, p2, qa0, qa1, qa2, qb0, qb1, qb2, fa0, fa1, fa2, fb0, fb1, fb2]
  have uf10 : (w1.setCell ⟨w.heap.size + 1 + 1, 0, none⟩ (Value.slice (some ⟨g1, 0, none⟩) xs.length xs.length)).frozen? ⟨w.heap.size + 1, 0, none⟩ = false := by simp [go_sem, fa0, fa1, fa2, fb0, fb1, fb2]
  have uf11 : (w1.setCell ⟨w.heap.size + 1 + 1, 0, none⟩ (Value.slice (some ⟨g1, 0, none⟩) xs.length xs.length)).frozen? ⟨w.heap.size + 1, 1, none⟩ = false := by simp [go_sem, fa0, fa1, fa2, fb0, fb1, fb2]
  have uf12 : (w1.setCell ⟨w.heap.size + 1 + 1, 0, none⟩ (Value.slice (some ⟨g1, 0, none⟩) xs.length xs.length)).frozen? ⟨w.heap.size + 1, 2, none⟩ = false := by simp [go_sem, fa0, fa1, fa2, fb0, fb1, fb2]
  have uf20 : (w1.setCell ⟨w.heap.size + 1 + 1, 0, none⟩ (Value.slice (some ⟨g1, 0, none⟩) xs.length xs.length)).frozen? ⟨w.heap.size + 1 + 1, 0, none⟩ = false := by simp [go_sem, fa0, fa1, fa2, fb0, fb1, fb2]
  have uf21 : (w1.setCell ⟨w.heap.size + 1 + 1, 0, none⟩ (Value.slice (some ⟨g1, 0, none⟩) xs.length xs.length)).frozen? ⟨w.heap.size + 1 + 1, 1, none⟩ = false := by simp [go_sem, fa0, fa1, fa2, fb0, fb1, fb2]
  have uf22 : (w1.setCell ⟨w.heap.size + 1 + 1, 0, none⟩ (Value.slice (some ⟨g1, 0, none⟩) xs.length xs.length)).frozen? ⟨w.heap.size + 1 + 1, 2, none⟩ = false := by simp [go_sem, fa0, fa1, fa2, fb0, fb1, fb2]
  have BW1 : Hid (Below w.heap.size w (w1.setCell ⟨w.heap.size + 1 + 1, 0, none⟩ (Value.slice (some ⟨g1, 0, none⟩) xs.length xs.length))) := B1.out.setCell (by simp; omega) _
  have RW1 : Hid (RdII (w1.setCell ⟨w.heap.size + 1 + 1, 0, none⟩ (Value.slice (some ⟨g1, 0, none⟩) xs.length xs.length)) (some ⟨g1, 0, none⟩) m1) := R1.out.set F1.out (by first | (simp; done) | (simp; omega)) _
  have hzW1 : w.heap.size + 3 ≤ (w1.setCell ⟨w.heap.size + 1 + 1, 0, none⟩ (Value.slice (some ⟨g1, 0, none⟩) xs.length xs.length)).heap.size := by simp; omega
  go_wp2_with fail
  clear p1 p2 qa0 qa1 qa2 qb0 qb1 qb2 fa0 fa1 fa2 fb0 fb1 fb2
  generalize w1.setCell ⟨w.heap.size + 1 + 1, 0, none⟩ (Value.slice (some ⟨g1, 0, none⟩) xs.length xs.length) = W1 at *
  clear B1 R1 hz1
  refine Calls.mono (H2.out W1 BW1.out) ?_
  rintro e w2 ⟨m2, rfl, hm2, r2, f2, hb2⟩
  have BX2 := kide (BW1.out.trans (hb2.mono BW1.out.size))
  have RX1 := kide (RW1.out.later hb2)
  have R2 := kide r2
  have F2 : Hid (FarC (w.heap.size + 3) (some ⟨W1.heap.size, 0, none⟩) m2) := f2.mono hzW1
  have M2 := kide hm2
  have hz2 : w.heap.size + 3 ≤ w2.heap.size := Nat.le_trans hzW1 hb2.size
  have vc01 := (kcell hb2 (w.heap.size) 1 (by omega)).trans uc01
  have vc02 := (kcell hb2 (w.heap.size) 2 (by omega)).trans uc02
  have vc10 := (kcell hb2 (w.heap.size + 1) 0 (by omega)).trans uc10
  have vc11 := (kcell hb2 (w.heap.size + 1) 1 (by omega)).trans uc11
  have vc12 := (kcell hb2 (w.heap.size + 1) 2 (by omega)).trans uc12
  have vc20 := (kcell hb2 (w.heap.size + 1 + 1) 0 (by omega)).trans uc20
  have vc21 := (kcell hb2 (w.heap.size + 1 + 1) 1 (by omega)).trans uc21
  have vc22 := (kcell hb2 (w.heap.size + 1 + 1) 2 (by omega)).trans uc22
  have vf10 := (kfroz hb2 (w.heap.size + 1) 0 (by omega)).trans uf10
  have vf11 := (kfroz hb2 (w.heap.size + 1) 1 (by omega)).trans uf11
  have vf12 := (kfroz hb2 (w.heap.size + 1) 2 (by omega)).trans uf12
  have vf20 := (kfroz hb2 (w.heap.size + 1 + 1) 0 (by omega)).trans uf20
  have vf21 := (kfroz hb2 (w.heap.size + 1 + 1) 1 (by omega)).trans uf21
  have vf22 := (kfroz hb2 (w.heap.size + 1 + 1) 2 (by omega)).trans uf22
  clear uc01 uc02 uc10 uc11 uc12 uc20 uc21 uc22 uf10 uf11 uf12 uf20 uf21 uf22
  clear hb2 r2 f2 hm2 BW1 RW1
  have xc01 : (w2.setCell ⟨w.heap.size + 1 + 1, 1, none⟩ (Value.slice (some ⟨W1.heap.size, 0, none⟩) cs.length cs.length)).cell? ⟨w.heap.size, 1, none⟩ = some (Value.slice a2 cs.length c2) := by simp [go_sem, vc01, vc02, vc10, vc11, vc12, vc20, vc21, vc22, vf10, vf11, vf12, vf20, vf21, vf22]
  have xc02 : (w2.setCell ⟨w.heap.size + 1 + 1, 1, none⟩ (Value.slice (some ⟨W1.heap.size, 0, none⟩) cs.length cs.length)).cell? ⟨w.heap.size, 2, none⟩ = some (Value.slice a3 ks.length c3) := by simp [go_sem, vc01, vc02, vc10, vc11, vc12, vc20, vc21, vc22, vf10, vf11, vf12, vf20, vf21, vf22]
  have xc10 : (w2.setCell ⟨w.heap.size + 1 + 1, 1, none⟩ (Value.slice (some ⟨W1.heap.size, 0, none⟩) cs.length cs.length)).cell? ⟨w.heap.size + 1, 0, none⟩ = some (Value.slice none 0 0) := by simp [go_sem, vc01, vc02, vc10, vc11, vc12, vc20, vc21, vc22, vf10, vf11, vf12, vf20, vf21, vf22]
  have xc11 : (w2.setCell ⟨w.heap.size + 1 + 1, 1, none⟩ (Value.slice (some ⟨W1.heap.size, 0, none⟩) cs.length cs.length)).cell? ⟨w.heap.size + 1, 1, none⟩ = some (Value.slice none 0 0) := by simp [go_sem, vc01, vc02, vc10, vc11, vc12, vc20, vc21, vc22, vf10, vf11, vf12, vf20, vf21, vf22]
  have xc12 : (w2.setCell ⟨w.heap.size + 1 + 1, 1, none⟩ (Value.slice (some ⟨W1.heap.size, 0, none⟩) cs.length cs.length)).cell? ⟨w.heap.size + 1, 2, none⟩ = some (Value.slice none 0 0) := by simp [go_sem, vc01, vc02, vc10, vc11, vc12, vc20, vc21, vc22, vf10, vf11, vf12, vf20, vf21, vf22]
  have xc20 : (w2.setCell ⟨w.heap.size + 1 + 1, 1, none⟩ (Value.slice (some ⟨W1.heap.size, 0, none⟩) cs.length cs.length)).cell? ⟨w.heap.size + 1 + 1, 0, none⟩ = some (Value.slice (some ⟨g1, 0, none⟩) xs.length xs.length) := by simp [go_sem, vc01, vc02, vc10, vc11, vc12, vc20, vc21, vc22, vf10, vf11, vf12, vf20, vf21, vf22]
  have xc21 : (w2.setCell ⟨w.heap.size + 1 + 1, 1, none⟩ (Value.slice (some ⟨W1.heap.size, 0, none⟩) cs.length cs.length)).cell? ⟨w.heap.size + 1 + 1, 1, none⟩ = some (Value.slice (some ⟨W1.heap.size, 0, none⟩) cs.length cs.length) := by simp [go_sem, vc01, vc02, vc10, vc11, vc12, vc20, vc21, vc22, vf10, vf11, vf12, vf20, vf21, vf22]
  have xc22 : (w2.setCell ⟨w.heap.size + 1 + 1, 1, none⟩ (Value.slice (some ⟨W1.heap.size, 0, none⟩) cs.length cs.length)).cell? ⟨w.heap.size + 1 + 1, 2, none⟩ = some (Value.slice none 0 0) := by simp [go_sem, vc01, vc02, vc10, vc11, vc12, vc20, vc21, vc22, vf10, vf11, vf12, vf20, vf21, vf22]
  have xf10 : (w2.setCell ⟨w.heap.size + 1 + 1, 1, none⟩ (Value.slice (some ⟨W1.heap.size, 0, none⟩) cs.length cs.length)).frozen? ⟨w.heap.size + 1, 0, none⟩ = false := by simp [go_sem, vf10, vf11, vf12, vf20, vf21, vf22]
  have xf11 : (w2.setCell ⟨w.heap.size + 1 + 1, 1, none⟩ (Value.slice (some ⟨W1.heap.size, 0, none⟩) cs.length cs.length)).frozen? ⟨w.heap.size + 1, 1, none⟩ = false := by simp [go_sem, vf10, vf11, vf12, vf20, vf21, vf22]
  have xf12 : (w2.setCell ⟨w.heap.size + 1 + 1, 1, none⟩ (Value.slice (some ⟨W1.heap.size, 0, none⟩) cs.length cs.length)).frozen? ⟨w.heap.size + 1, 2, none⟩ = false := by simp [go_sem, vf10, vf11, vf12, vf20, vf21, vf22]
  have xf20 : (w2.setCell ⟨w.heap.size + 1 + 1, 1, none⟩ (Value.slice (some ⟨W1.heap.size, 0, none⟩) cs.length cs.length)).frozen? ⟨w.heap.size + 1 + 1, 0, none⟩ = false := by simp [go_sem, vf10, vf11, vf12, vf20, vf21, vf22]
  have xf21 : (w2.setCell ⟨w.heap.size + 1 + 1, 1, none⟩ (Value.slice (some ⟨W1.heap.size, 0, none⟩) cs.length cs.length)).frozen? ⟨w.heap.size + 1 + 1, 1, none⟩ = false := by simp [go_sem, vf10, vf11, vf12, vf20, vf21, vf22]
  have xf22 : (w2.setCell ⟨w.heap.size + 1 + 1, 1, none⟩ (Value.slice (some ⟨W1.heap.size, 0, none⟩) cs.length cs.length)).frozen? ⟨w.heap.size + 1 + 1, 2, none⟩ = false := by simp [go_sem, vf10, vf11, vf12, vf20, vf21, vf22]
  have BW2 : Hid (Below w.heap.size w (w2.setCell ⟨w.heap.size + 1 + 1, 1, none⟩ (Value.slice (some ⟨W1.heap.size, 0, none⟩) cs.length cs.length))) := BX2.out.setCell (by simp; omega) _
  have RW2 : Hid (RdII (w2.setCell ⟨w.heap.size + 1 + 1, 1, none⟩ (Value.slice (some ⟨W1.heap.size, 0, none⟩) cs.length cs.length)) (some ⟨g1, 0, none⟩) m1) := RX1.out.set F1.out (by first | (simp; done) | (simp; omega)) _
  have RC2 : Hid (RdC (w2.setCell ⟨w.heap.size + 1 + 1, 1, none⟩ (Value.slice (some ⟨W1.heap.size, 0, none⟩) cs.length cs.length)) (some ⟨W1.heap.size, 0, none⟩) m2) := R2.out.set F2.out (by first | (simp; done) | (simp; omega)) _
  have hzW2 : w.heap.size + 3 ≤ (w2.setCell ⟨w.heap.size + 1 + 1, 1, none⟩ (Value.slice (some ⟨W1.heap.size, 0, none⟩) cs.length cs.length)).heap.size := by simp; omega
  go_wp2_with fail
  clear vc01 vc02 vc10 vc11 vc12 vc20 vc21 vc22 vf10 vf11 vf12 vf20 vf21 vf22
  generalize w2.setCell ⟨w.heap.size + 1 + 1, 1, none⟩ (Value.slice (some ⟨W1.heap.size, 0, none⟩) cs.length cs.length) = W2 at *
  clear BX2 RX1 R2 hz2
  refine Calls.mono (H3.out W2 BW2.out) ?_
  rintro e w3 ⟨rfl, hown, hb3⟩
  have BX3 := kide (BW2.out.trans (hb3.mono BW2.out.size))
  have RX1 := kide (RW2.out.later hb3)
  have RX2 := kide (RC2.out.later hb3)
  have HO := kide hown
  have hz3 : w.heap.size + 3 ≤ w3.heap.size := Nat.le_trans hzW2 hb3.size
  have yc01 := (kcell hb3 (w.heap.size) 1 (by omega)).trans xc01
  have yc02 := (kcell hb3 (w.heap.size) 2 (by omega)).trans xc02
  have yc10 := (kcell hb3 (w.heap.size + 1) 0 (by omega)).trans xc10
  have yc11 := (kcell hb3 (w.heap.size + 1) 1 (by omega)).trans xc11
  have yc12 := (kcell hb3 (w.heap.size + 1) 2 (by omega)).trans xc12
  have yc20 := (kcell hb3 (w.heap.size + 1 + 1) 0 (by omega)).trans xc20
  have yc21 := (kcell hb3 (w.heap.size + 1 + 1) 1 (by omega)).trans xc21
  have yc22 := (kcell hb3 (w.heap.size + 1 + 1) 2 (by omega)).trans xc22
  have yf10 := (kfroz hb3 (w.heap.size + 1) 0 (by omega)).trans xf10
  have yf11 := (kfroz hb3 (w.heap.size + 1) 1 (by omega)).trans xf11
  have yf12 := (kfroz hb3 (w.heap.size + 1) 2 (by omega)).trans xf12
  have yf20 := (kfroz hb3 (w.heap.size + 1 + 1) 0 (by omega)).trans xf20
  have yf21 := (kfroz hb3 (w.heap.size + 1 + 1) 1 (by omega)).trans xf21
  have yf22 := (kfroz hb3 (w.heap.size + 1 + 1) 2 (by omega)).trans xf22
  clear xc01 xc02 xc10 xc11 xc12 xc20 xc21 xc22 xf10 xf11 xf12 xf20 xf21 xf22
  clear hb3 hown BW2 RW2 RC2
  go_wp2_with fail
  refine bodyPost_ret (v := .agg #[Value.slice (some ⟨g1, 0, none⟩) xs.length xs.length, Value.slice (some ⟨W1.heap.size, 0, none⟩) cs.length cs.length, Value.slice (some ⟨W2.heap.size, 0, none⟩) ks.length ks.length]) (by simp [results, Try.results32, go_sem, yc01, yc02, yc10, yc11, yc12, yc20, yc21, yc22]) rfl ?_
  refine ⟨⟨some ⟨g1, 0, none⟩, xs.length, m1, some ⟨W1.heap.size, 0, none⟩, cs.length, m2, some ⟨W2.heap.size, 0, none⟩, ks.length, ks⟩, ?_, ?_, ⟨?_, ?_, ?_⟩, ?_⟩
  · have e1 : m1.length = xs.length := by simpa using congrArg List.length M1.out
    have e2 : m2.length = cs.length := by simpa using congrArg List.length M2.out
    simp only [Cz.val, e1, e2]
  · simp only [Cz.ct, M1.out, M2.out]
  · exact (((RX1.out.set F1.out (by first | (simp; done) | (simp; omega)) _).set F1.out (by first | (simp; done) | (simp; omega)) _).set F1.out (by first | (simp; done) | (simp; omega)) _).set F1.out (by first | (simp; done) | (simp; omega)) _
  · exact (((RX2.out.set F2.out (by first | (simp; done) | (simp; omega)) _).set F2.out (by first | (simp; done) | (simp; omega)) _).set F2.out (by first | (simp; done) | (simp; omega)) _).set F2.out (by first | (simp; done) | (simp; omega)) _
  · exact OwnI.rd ((((HO.out.other (by simp; omega) _).other (by simp; omega) _).other (by simp; omega) _).other (by simp; omega) _) HK3.out HK4.out
  · exact (((BX3.out.setCell (by simp; omega) _).setCell (by simp) _).setCell (by simp) _).setCell (by simp) _

end Go.Proofs.Yticpjfdnpdfmeaa
