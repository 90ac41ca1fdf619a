/- Bars and splits are marked, in memory of their kind. -/
import Derived.Test.YtddgldfjeklhbaaCA
namespace Go.Proofs.Ytddgldfjeklhbaa
set_option linter.unusedVariables false
set_option linter.unusedSimpArgs false
open Go.RowKit

def RetM (w : World) (lo hi M : Nat) (e : Ending) (w' : World) : Prop := ∃ k' : Nat, e = .returned (.int .i64 (k' : Int)) ∧ k' ≤ M ∧ Shp w w' ∧ Out lo hi w w'

set_option maxHeartbeats 2000000 in
theorem markB_ty (lo hi c n k : Nat) (a : Option Addr) (w : World) (h : TyB w lo hi a n) (hk : k + n * 1048579 ≤ 8000000000000000000) :
    Calls Try.prog 12 #[.slice a n c, .int .i64 (k : Int)] w (RetM w lo hi (k + n * 1048579)) := by
  have H := kide h
  obtain ⟨hn, g, cur, rfl, hl, hh, -⟩ := h
  go_enter Try.func12, Try.ntmps12
  go_wp2_with fail
  go_loopw [1, 5] (fun q i wr => ∃ (j K : Nat), j ≤ n ∧ i = .int .i64 (j : Int) ∧ q = .int .i64 (K : Int) ∧ K ≤ k + j * 1048579 ∧ Shp w wr ∧ Out lo hi w wr) (fun _ i _ => n - (intOf i).toNat)
  case atStart => exact ⟨0, k, Nat.zero_le _, rfl, rfl, by omega, Shp.refl _, Out.refl _ _ _⟩
  case round =>
    obtain ⟨j, K, hj, rfl, rfl, hK, hs, ho⟩ := hrel
    have HS := kide hs
    have HO := kide ho
    by_cases hlt : j < n
    · obtain ⟨-, g', cu, e', -, -, hg, hc⟩ := H.out.shp hs
      cases e'
      obtain ⟨⟨x0, q0⟩, ⟨x1, q1⟩, ⟨x2, q2⟩, a', m, c', q3, htw⟩ := hc j hlt
      have cell := fun o => cell_of_row wr g o cu _ _ hg
      have p0 : wr.cell? ⟨g, j * 4, none⟩ = some (.int .i64 x0) := by rw [cell]; exact q0
      have p1 : wr.cell? ⟨g, j * 4 + 1, none⟩ = some (.int .i64 x1) := by rw [cell]; exact q1
      have p2 : wr.cell? ⟨g, j * 4 + 2, none⟩ = some (.int .i64 x2) := by rw [cell]; exact q2
      have p3 : wr.cell? ⟨g, j * 4 + 3, none⟩ = some (.slice a' m c') := by rw [cell]; exact q3
      have r0 := frozen_of_row wr g (j * 4) _ _ hg
      have r1 := frozen_of_row wr g (j * 4 + 1) _ _ hg
      have r2 := frozen_of_row wr g (j * 4 + 2) _ _ hg
      have hm := htw.1
      have hKb : K ≤ 8000000000000000000 := by have : j * 1048579 ≤ n * 1048579 := Nat.mul_le_mul_right _ hj; omega
      have i0 : (j : Int) < (n : Int) := by omega
      have s1 := Shp.set p0 (K : Int)
      have p1' : (wr.setCell ⟨g, j * 4, none⟩ (.int .i64 (K : Int))).cell? ⟨g, j * 4 + 1, none⟩ = some (.int .i64 x1) := by rw [cell_of_row _ g _ _ _ _ (heap_setCell_same wr g (j * 4) _ _ _ hg), Array.getElem?_setIfInBounds_ne (by omega)]; exact q1
      have s2 := s1.trans (Shp.set p1' ((K : Int) + 1))
      have hg2 := heap_setCell_same _ g (j * 4 + 1) _ _ (.int .i64 ((K : Int) + 1)) (heap_setCell_same wr g (j * 4) _ _ (.int .i64 (K : Int)) hg)
      have p2' : ((wr.setCell ⟨g, j * 4, none⟩ (.int .i64 (K : Int))).setCell ⟨g, j * 4 + 1, none⟩ (.int .i64 ((K : Int) + 1))).cell? ⟨g, j * 4 + 2, none⟩ = some (.int .i64 x2) := by rw [cell_of_row _ g _ _ _ _ hg2, Array.getElem?_setIfInBounds_ne (by omega), Array.getElem?_setIfInBounds_ne (by omega)]; exact q2
      have s3 := s2.trans (Shp.set p2' ((K : Int) + 1 + 1))
      have S3 := kide (hs.trans s3)
      have O3 := kide (((ho.set hl hh (.int .i64 (K : Int)) (o := j * 4)).set hl hh (.int .i64 ((K : Int) + 1)) (o := j * 4 + 1)).set hl hh (.int .i64 ((K : Int) + 1 + 1)) (o := j * 4 + 2))
      have HT := kide (htw.shp s3)
      have hM := markU_ty lo hi c' m (K + 3) a' _ HT.out (by omega)
      rw [show ((K + 3 : Nat) : Int) = (K : Int) + 1 + 1 + 1 by omega] at hM
      have HM := kide hM
      clear hc hs ho q0 q1 q2 q3 cell s1 s2 s3 p1' p2' hg2 htw hM HT
      go_wp2_with fail
      refine Calls.mono HM.out ?_
      rintro e w5 ⟨rfl, hs5, ho5⟩
      have S5 := kide (S3.out.trans hs5)
      have O5 := kide (O3.out.trans ho5)
      clear hs5 ho5 HM S3 O3
      go_wp2_with fail
      go_roundw
      case rel => exact ⟨j + 1, K + 3 + m, by omega, by go_num, rfl, by omega, S5.out, O5.out⟩
      case measure => simp [intOf]; omega
    · have e : j = n := by omega
      subst e
      clear hs ho
      go_wp2_with fail
      go_ret
      exact ⟨K, rfl, hK, HS.out, HO.out⟩

set_option maxHeartbeats 2000000 in
theorem markS_ty (lo hi c n : Nat) (a : Option Addr) (w : World) (h : TyS w lo hi a n) :
    Calls Try.prog 11 #[.slice a n c, .int .i64 1] w (RetM w lo hi 8000000000000000000) := by
  have H := kide h
  obtain ⟨hn, g, cur, rfl, hl, hh, -⟩ := h
  go_enter Try.func11, Try.ntmps11
  go_wp2_with fail
  go_loopw [1, 5] (fun q i wr => ∃ (j K : Nat), j ≤ n ∧ i = .int .i64 (j : Int) ∧ q = .int .i64 (K : Int) ∧ K ≤ 1 + j * 1099515822082 ∧ Shp w wr ∧ Out lo hi w wr) (fun _ i _ => n - (intOf i).toNat)
  case atStart => exact ⟨0, 1, Nat.zero_le _, rfl, rfl, by omega, Shp.refl _, Out.refl _ _ _⟩
  case round =>
    obtain ⟨j, K, hj, rfl, rfl, hK, hs, ho⟩ := hrel
    have HS := kide hs
    have HO := kide ho
    by_cases hlt : j < n
    · obtain ⟨-, g', cu, e', -, -, hg, hc⟩ := H.out.shp hs
      cases e'
      obtain ⟨⟨x0, q0⟩, ⟨x1, q1⟩, a', m, c', q3, htw⟩ := hc j hlt
      have cell := fun o => cell_of_row wr g o cu _ _ hg
      have p0 : wr.cell? ⟨g, j * 3, none⟩ = some (.int .i64 x0) := by rw [cell]; exact q0
      have p1 : wr.cell? ⟨g, j * 3 + 1, none⟩ = some (.int .i64 x1) := by rw [cell]; exact q1
      have p3 : wr.cell? ⟨g, j * 3 + 2, none⟩ = some (.slice a' m c') := by rw [cell]; exact q3
      have r0 := frozen_of_row wr g (j * 3) _ _ hg
      have r1 := frozen_of_row wr g (j * 3 + 1) _ _ hg
      have hm := htw.1
      have hKb : K + 1 + 1 + 1099514773504 ≤ 8000000000000000000 := by omega
      have i0 : (j : Int) < (n : Int) := by omega
      have s1 := Shp.set p0 (K : Int)
      have p1' : (wr.setCell ⟨g, j * 3, none⟩ (.int .i64 (K : Int))).cell? ⟨g, j * 3 + 1, none⟩ = some (.int .i64 x1) := by rw [cell_of_row _ g _ _ _ _ (heap_setCell_same wr g (j * 3) _ _ _ hg), Array.getElem?_setIfInBounds_ne (by omega)]; exact q1
      have s2 := s1.trans (Shp.set p1' ((K : Int) + 1))
      have S3 := kide (hs.trans s2)
      have O3 := kide ((ho.set hl hh (.int .i64 (K : Int)) (o := j * 3)).set hl hh (.int .i64 ((K : Int) + 1)) (o := j * 3 + 1))
      have hM := markB_ty lo hi c' m (K + 2) a' _ (htw.shp s2) (by omega)
      rw [show ((K + 2 : Nat) : Int) = (K : Int) + 1 + 1 by omega] at hM
      have HM := kide hM
      clear hc hs ho q0 q1 q3 cell s1 s2 p1' htw hM
      go_wp2_with fail
      refine Calls.mono HM.out ?_
      rintro e w5 ⟨k5, rfl, hk5, hs5, ho5⟩
      have S5 := kide (S3.out.trans hs5)
      have O5 := kide (O3.out.trans ho5)
      clear hs5 ho5 HM S3 O3
      go_wp2_with fail
      go_roundw
      case rel => exact ⟨j + 1, k5, by omega, by go_num, rfl, by omega, S5.out, O5.out⟩
      case measure => simp [intOf]; omega
    · have e : j = n := by omega
      subst e
      clear hs ho
      go_wp2_with fail
      go_ret
      exact ⟨K, rfl, by omega, HS.out, HO.out⟩

end Go.Proofs.Ytddgldfjeklhbaa
