/- How OnesCount64's reckoning comes to the number of ones. -/
import Derived.Test.YtobkemdffhhlfaaZ
namespace Go.Proofs.Ytobkemdffhhlfaa
set_option linter.unusedVariables false
set_option linter.unusedSimpArgs false
open Go.RowKit

set_option maxHeartbeats 1000000 in
set_option maxRecDepth 100000 in
theorem pop_ok (x : Nat) (hx : x < 18446744073709551616) :
    ∃ y1 y2 y3 : Nat, y1 = (x / 2 &&& 6148914691236517205) + (x &&& 6148914691236517205) ∧ y1 < 18446744073709551616 ∧ y2 = (y1 / 4 &&& 3689348814741910323) + (y1 &&& 3689348814741910323) ∧ y2 < 18446744073709551616 ∧ y2 / 16 + y2 < 18446744073709551616 ∧
      y3 = ((y2 / 16 + y2) &&& 1085102592571150095) ∧ y3 ≤ 578721382704613384 ∧ (y3 + y3 / 256 + (y3 + y3 / 256) / 65536 + (y3 + y3 / 256 + (y3 + y3 / 256) / 65536) / 4294967296) % 128 = pcnt x 64 := by
  have hb := bytesOf_lt x hx
  have hv := bytesOf_val x
  have e1 := step1 (bytesOf x) hb
  have hb1 : ∀ b ∈ (bytesOf x).map s1, b < 256 := by
    intro b h
    obtain ⟨c, hc, rfl⟩ := List.mem_map.1 h
    exact s1_lt ⟨c, hb c hc⟩
  have e2 := step2 ((bytesOf x).map s1) hb1
  have hb2 : ∀ b ∈ ((bytesOf x).map s1).map s2, b < 69 ∧ b % 16 ≤ 4 := by
    intro b h
    obtain ⟨c, hc, rfl⟩ := List.mem_map.1 h
    obtain ⟨d, hd, rfl⟩ := List.mem_map.1 hc
    exact s2_ok ⟨d, hb d hd⟩
  have e3 := step3 (((bytesOf x).map s1).map s2) hb2
  have ep := pop_list (bytesOf x) hb
  have m1 : val8 ((bytesOf x).map fun _ => 85) = 6148914691236517205 := by simp [bytesOf, val8]
  have m2 : val8 (((bytesOf x).map s1).map fun _ => 51) = 3689348814741910323 := by simp [bytesOf, val8]
  have m3 : val8 ((((bytesOf x).map s1).map s2).map fun _ => 15) = 1085102592571150095 := by simp [bytesOf, val8]
  rw [m1, hv] at e1
  rw [m2] at e2
  rw [m3] at e3
  rw [hv] at ep
  have hl : (bytesOf x).length = 8 := rfl
  rw [hl] at ep
  have hb3 : ∀ b ∈ bytesOf x, s3 (s2 (s1 b)) ≤ 8 := fun b h => (s3_ok ⟨b, hb b h⟩).2
  have k1 : val8 ((bytesOf x).map s1) < 18446744073709551616 := by
    have := hb1
    simp only [bytesOf, List.map_cons, List.map_nil, val8, List.mem_cons, List.not_mem_nil, or_false, forall_eq_or_imp, forall_eq] at this ⊢
    omega
  have k2 : val8 (((bytesOf x).map s1).map s2) ≤ 68 * 72340172838076673 := by
    have := hb2
    simp only [bytesOf, List.map_cons, List.map_nil, val8, List.mem_cons, List.not_mem_nil, or_false, forall_eq_or_imp, forall_eq] at this ⊢
    omega
  have k3 : val8 ((((bytesOf x).map s1).map s2).map s3) ≤ 578721382704613384 ∧ (val8 ((((bytesOf x).map s1).map s2).map s3) + val8 ((((bytesOf x).map s1).map s2).map s3) / 256 + (val8 ((((bytesOf x).map s1).map s2).map s3) + val8 ((((bytesOf x).map s1).map s2).map s3) / 256) / 65536 + (val8 ((((bytesOf x).map s1).map s2).map s3) + val8 ((((bytesOf x).map s1).map s2).map s3) / 256 + (val8 ((((bytesOf x).map s1).map s2).map s3) + val8 ((((bytesOf x).map s1).map s2).map s3) / 256) / 65536) / 4294967296) % 128 = ((bytesOf x).map fun b => s3 (s2 (s1 b))).sum := by
    have h := hb3
    simp only [bytesOf, List.mem_cons, List.not_mem_nil, or_false, forall_eq_or_imp, forall_eq] at h
    obtain ⟨t0, t1, t2, t3, t4, t5, t6, t7⟩ := h
    simp only [bytesOf, List.map_cons, List.map_nil, List.sum_cons, List.sum_nil]
    generalize s3 (s2 (s1 (x % 256))) = q0 at *
    generalize s3 (s2 (s1 (x / 256 % 256))) = q1 at *
    generalize s3 (s2 (s1 (x / 65536 % 256))) = q2 at *
    generalize s3 (s2 (s1 (x / 16777216 % 256))) = q3 at *
    generalize s3 (s2 (s1 (x / 4294967296 % 256))) = q4 at *
    generalize s3 (s2 (s1 (x / 1099511627776 % 256))) = q5 at *
    generalize s3 (s2 (s1 (x / 281474976710656 % 256))) = q6 at *
    generalize s3 (s2 (s1 (x / 72057594037927936))) = q7 at *
    clear e1 e2 e3 ep hb hb1 hb2 hb3 m1 m2 m3 hv k1 k2 hl
    refine ⟨by simp only [val8]; omega, fold8 q0 q1 q2 q3 q4 q5 q6 q7 _ _ _ _ _ _ _ _ t0 t1 t2 t3 t4 t5 t6 t7 rfl rfl rfl rfl rfl rfl rfl rfl⟩
  refine ⟨val8 ((bytesOf x).map s1), val8 (((bytesOf x).map s1).map s2), val8 ((((bytesOf x).map s1).map s2).map s3), e1.symm, k1, e2.symm, by omega, by omega, e3.symm, k3.1, ?_⟩
  rw [k3.2, ep]

end Go.Proofs.Ytobkemdffhhlfaa
