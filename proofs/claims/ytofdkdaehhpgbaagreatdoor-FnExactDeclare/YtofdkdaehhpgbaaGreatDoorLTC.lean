/- Literals that hold their marks are told so. -/
import Derived.Test.YtofdkdaehhpgbaaGreatDoorLTB
namespace Go.Proofs.YtofdkdaehhpgbaaGreatDoor
set_option linter.unusedVariables false
set_option linter.unusedSimpArgs false
open Go.RowKit

set_option maxHeartbeats 2000000 in
set_option maxRecDepth 100000 in
theorem heldLn_any (n c k : Nat) (a : Option Addr) (l : List Lg) (w : World) (h : HeldLv w (.slice a n c) l k) (hn : l.length = n) (hn2 : n ≤ 60) (hs : shL l) (hk : k ≤ 1000000000000000000) :
    Calls Tryz.prog 67 #[.slice a n c, .int .i64 (k : Int)] w fun e w' => e = .returned (.int .i64 (mkL l k n : Int)) ∧ w' = w := by
  rcases h with rfl | ⟨G, n', c', N, e0, hN, f, hr, hh⟩
  · subst hn
    go_enter Tryz.func67, Tryz.ntmps67
    go_wp2
    go_loopw [1, 5] (fun q i wr => q = .int .i64 (k : Int) ∧ i = .int .i64 0 ∧ wr = w) (fun _ _ _ => 0)
    case atStart => exact ⟨rfl, rfl, rfl⟩
    case round =>
      obtain ⟨rfl, rfl, rfl⟩ := hrel
      go_wp2
      go_ret
      exact ⟨rfl, rfl⟩
  cases e0
  have HR := kide hr
  have HH := kide hh
  have HN := kide hn
  have HS := kide hs
  have HLE := kide (fun i => mkL_le (k := k) hs i)
  clear hr hh hn hs
  go_enter Tryz.func67, Tryz.ntmps67
  go_wp2_with fail
  go_loop [1, 5] (fun q i => ∃ j : Nat, j ≤ n ∧ i = .int .i64 j ∧ q = .int .i64 (mkL l k j : Int)) (fun _ i => n - (intOf i).toNat)
  case atStart => exact ⟨0, Nat.zero_le _, rfl, rfl⟩
  case round =>
    obtain ⟨j, hj, rfl, rfl⟩ := hrel
    by_cases hlt : j < n
    · obtain ⟨x, gx⟩ : ∃ x, l[j]? = some x := ⟨l[j]'(by rw [HN.out]; exact hlt), List.getElem?_eq_getElem _⟩
      obtain ⟨v0, v1, v2, v3, m1, m2⟩ := HH.out j x gx
      obtain ⟨s1, s2, s3, s4⟩ := HS.out x (List.mem_of_getElem? gx)
      have hKb := HLE.out j
      have HST := kide (mkL_step (k := k) gx)
      obtain ⟨K, hK⟩ : ∃ K, mkL l k j = K := ⟨_, rfl⟩
      rw [hK] at hKb HST v0 v1 m1 m2
      rw [hK]
      have q0 := HR.out.cell (i := j * 4) (by omega)
      have q1 := HR.out.cell (i := j * 4 + 1) (by omega)
      have q2 := HR.out.cell (i := j * 4 + 2) (by omega)
      have q3 := HR.out.cell (i := j * 4 + 3) (by omega)
      rw [v0] at q0
      rw [v1] at q1
      rw [v2] at q2
      rw [v3] at q3
      have n0 : ((K : Int) != (K : Int)) = false := by simp
      have n1 : ((((K : Int) + 1) % 3 == 0) != (((K : Int) + 1) % 3 == 0)) = false := by simp
      have i0 : (j : Int) < (n : Int) := by omega
      have hKb2 : K ≤ 2000000000000000000 := by omega
      obtain ⟨K2, hK2⟩ : ∃ K2 : Nat, K + 2 = K2 := ⟨_, rfl⟩
      rw [hK2] at m1 m2 HST
      have hK3 := mkT_le (k := K2) s1 x.ss.length
      obtain ⟨K3, hK3e⟩ : ∃ K3 : Nat, mkT x.ss K2 x.ss.length = K3 := ⟨_, rfl⟩
      rw [hK3e] at m2 HST hK3
      have hK4 := mkT_le (k := K3) s2 x.ts.length
      have H1 := kide (heldTs_any x.ss.length x.sc K2 x.sa x.ss w m1 s1 rfl s3 (by omega))
      have H2 := kide (heldTs_any x.ts.length x.tc K3 x.ta x.ts w m2 s2 rfl s4 (by omega))
      rw [hK3e] at H1
      rw [← HST.out] at H2 hK4
      have hKe : (K : Int) + 1 + 1 = (K2 : Int) := by omega
      have HKE := kide hKe
      obtain ⟨K4, hK4e⟩ : ∃ K4 : Nat, mkL l k (j + 1) = K4 := ⟨_, rfl⟩
      have HK4 := kide hK4e
      rw [hK4e] at H2 hK4
      have p3 : ¬ (K3 : Int) < 0 := by omega
      have p4 : ¬ (K4 : Int) < 0 := by omega
      clear m1 m2 gx hK hK2 hK3 hK3e hK4 hK4e v0 v1 v2 v3 hKe HST s1 s2 hKb
      go_wp2_with fail
      rw [HKE.out]
      refine Calls.mono H1.out ?_
      rintro e w3 ⟨rfl, hw3⟩
      obtain rfl := hw3.symm
      go_wp2_with fail
      refine Calls.mono H2.out ?_
      rintro e w3 ⟨rfl, hw3⟩
      obtain rfl := hw3.symm
      go_wp2_with fail
      go_round
      case rel => exact ⟨j + 1, by omega, by go_num, by rw [HK4.out]⟩
      case measure => simp [intOf]; omega
    · have e : j = n := by omega
      go_wp2_with fail
      go_ret
      exact ⟨rfl, rfl⟩

end Go.Proofs.YtofdkdaehhpgbaaGreatDoor
