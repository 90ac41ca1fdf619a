/- newPlaceSet. -/
import Derived.Test.YtmfamdonbgmjbaaDoorUNP
namespace Go.Proofs.YtmfamdonbgmjbaaDoor
set_option linter.unusedVariables false
set_option linter.unusedSimpArgs false
open Go.RowKit
theorem make_words (n : Nat) (hn : n ≤ 1048576) (kl kc : IntKind) (w : World) :
    (Instr.makeSlice 64 (.int kl (n : Int)) (.int kc (n : Int))).run Tryd.prog w = .ok (.slice (some ⟨w.heap.size, 0, none⟩) n n) (w.alloc (.cells (madeCells #[.int .u64 0] n) 108)) := by
  obtain ⟨i0, hi, hz0, hz1, hz2⟩ := info_parts (show (Tryd.prog.info? 108).map (fun i => (i.zero, i.size, i.bytes)) = some (some (.int .u64 0), 1, 8) by kernel_rfl)
  have := run_make (P := Tryd.prog) w 64 108 i0 _ Tryd.underlying64 hi hz0 kl kc n n (by omega) (Int.le_refl _) (by rw [hz2]; omega) (by omega)
  rw [hz1, Nat.mul_one] at this
  simp only [Int.toNat_natCast] at this
  exact this
theorem made_words (n : Nat) : madeCells #[.int .u64 0] n = wsV (List.replicate n 0) := by
  apply Array.toList_inj.1
  rw [toList_madeCells_one]
  simp [wsV]
theorem wordsFor0_any (n : Nat) (hn : n ≤ 4000) (w : World) :
    Calls Tryd.prog 74 #[.int .i64 (n : Int)] w fun e w' => e = .returned (.int .i64 (((n + 63) / 64 : Nat) : Int)) ∧ w' = w := by
  have e1 : IntKind.i64.wrap ((n : Int) + 64 - 1) = (n : Int) + 63 := by rw [IntKind.wrap_i64]; omega
  have e2 : ((n : Int) + 63).tdiv 64 = (((n + 63) / 64 : Nat) : Int) := by rw [Int.tdiv_eq_ediv_of_nonneg (by omega)]; omega
  have e3 : IntKind.i64.wrap (((n + 63) / 64 : Nat) : Int) = (((n + 63) / 64 : Nat) : Int) := by rw [IntKind.wrap_i64]; omega
  have e4 : (n : Int) + 64 - 1 = (n : Int) + 63 := by omega
  obtain ⟨k, hk⟩ : ∃ k, (n + 63) / 64 = k := ⟨_, rfl⟩
  rw [hk] at e2 e3 ⊢
  clear hk
  go_enter Tryd.func74, Tryd.ntmps74
  go_wp2_with fail
  go_ret
  exact ⟨by simp [e4, e2, e3], rfl⟩
set_option maxHeartbeats 1000000 in
theorem newPlaceSet_any (n : Nat) (hn : n ≤ 4000) (w : World) :
    Calls Tryd.prog 60 #[.int .i64 (n : Int)] w fun e w' => ∃ d, w.heap.size ≤ d ∧ e = .returned (.agg #[.slice (some ⟨d, 0, none⟩) ((n + 63) / 64) ((n + 63) / 64)]) ∧ Bz w' d (wsV (List.replicate ((n + 63) / 64) 0)) 108 ∧ Below w.heap.size w w' := by
  have HWF := kide (fun u => wordsFor0_any n hn u)
  obtain ⟨k, hk⟩ : ∃ k, (n + 63) / 64 = k := ⟨_, rfl⟩
  have hk9 : k ≤ 100 := by omega
  rw [hk] at HWF ⊢
  have hmk : ∀ (kl kc : IntKind) (u : World), (Instr.makeSlice 64 (.int kl (k : Int)) (.int kc (k : Int))).run Tryd.prog u = .ok (.slice (some ⟨u.heap.size, 0, none⟩) k k) (u.alloc (.cells (wsV (List.replicate k 0)) 108)) := fun kl kc u => by
    have h := make_words k (by omega) kl kc u
    rwa [made_words] at h
  clear hk
  go_enter Tryd.func60, Tryd.ntmps60
  go_wp2_with fail
  refine Calls.mono (HWF.out _) ?_
  rintro e u ⟨rfl, hw⟩
  obtain rfl := hw.symm
  clear hw
  go_wp2_with fail
  have b1 : Below w.heap.size w (w.alloc (Obj.cells #[Value.slice (some ⟨w.heap.size + 1, 0, none⟩) k k] 66)) := (Below.refl _ _).alloc (Nat.le_refl _) _
  have z := Bz.new (w.alloc (Obj.cells #[Value.slice (some ⟨w.heap.size + 1, 0, none⟩) k k] 66)) (wsV (List.replicate k 0)) 108
  rw [World.size_alloc] at z
  exact bodyPost_ret (v := .agg #[.slice (some ⟨w.heap.size + 1, 0, none⟩) k k]) (by simp [results, Tryd.results60, go_sem]) rfl ⟨w.heap.size + 1, by omega, rfl, z, b1.alloc (by simp) _⟩
end Go.Proofs.YtmfamdonbgmjbaaDoor
