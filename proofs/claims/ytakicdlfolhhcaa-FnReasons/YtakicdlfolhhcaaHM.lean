/- Drawn numbers up to whatever bound; the specification's joins of whatever links. -/
import Derived.Test.YtakicdlfolhhcaaHL
namespace Go.Proofs.Ytakicdlfolhhcaa
set_option linter.unusedVariables false
set_option linter.unusedSimpArgs false
open Go.RowKit

theorem wrap64_in (x : Int) : -9223372036854775808 ≤ wrap64 x ∧ wrap64 x ≤ 9223372036854775807 := by unfold wrap64; omega

set_option maxHeartbeats 1000000 in
theorem near0_any (h : Int) (hi : in64 h) (β : Nat) (a : Option Addr) (c : Nat) (bs : List Nat) (w : World) (hr : Rr w β a c bs) :
    Calls Try.prog 77 #[.pointer (some ⟨β, 0, none⟩), .int .i64 0, .int .i64 h] w fun e w' => ∃ x : Int, e = .returned (.int .i64 x) ∧ in64 x ∧ Rr w' β a c bs ∧ Dw β w w' := by
  obtain ⟨hi1, hi2⟩ := hi
  go_enter Try.func77, Try.ntmps77
  go_wp2_with fail
  refine (below_any 8 (by omega) β a c bs _ hr).mono ?_
  rintro e w1 ⟨x, rfl, hx, hr1, hd1⟩
  rcases Nat.lt_or_ge 1 x with h1 | h1
  · have n0 : ¬ x = 0 := by omega
    have n1 : ¬ x = 1 := by omega
    have n0i : ¬ (x : Int) = 0 := by omega
    have n1i : ¬ (x : Int) = 1 := by omega
    by_cases hneg : h < 0
    · go_wp2
      go_ret
      exact ⟨0, rfl, ⟨by omega, by omega⟩, hr1, hd1⟩
    · by_cases htop : h = 9223372036854775807
      · subst htop
        have hu : ¬ IntKind.u64.wrap (wrap64 9223372036854775808) = 0 := by rw [IntKind.wrap_u64]; unfold wrap64; decide
        go_wp2_with fail
        refine (word_any β a c bs _ hr1).mono ?_
        rintro e w2 ⟨y, rfl, hy, hr2, hd2⟩
        go_wp2
        go_ret
        exact ⟨_, rfl, wrap64_in _, hr2, hd1.trans hd2⟩
      · have hle : h ≤ 9223372036854775806 := by omega
        have h0 : 0 ≤ h := by omega
        have hz : h + 1 ≠ 0 := by omega
        clear htop hneg
        go_wp2_with fail
        refine (word_any β a c bs _ hr1).mono ?_
        rintro e w2 ⟨y, rfl, hy, hr2, hd2⟩
        go_wp2
        go_ret
        exact ⟨_, rfl, wrap64_in _, hr2, hd1.trans hd2⟩
  · obtain rfl | rfl : x = 0 ∨ x = 1 := by omega
    · go_wp2
      go_ret
      exact ⟨0, rfl, ⟨by omega, by omega⟩, hr1, hd1⟩
    · go_wp2
      go_ret
      exact ⟨h, rfl, ⟨by omega, by omega⟩, hr1, hd1⟩

theorem off0_any (h : Int) (hi : in64 h) (β : Nat) (a : Option Addr) (c : Nat) (bs : List Nat) (w : World) (hr : Rr w β a c bs) :
    Calls Try.prog 62 #[.pointer (some ⟨β, 0, none⟩), .int .i64 0, .int .i64 h] w fun e w' => ∃ x : Int, e = .returned (.int .i64 x) ∧ in64 x ∧ Rr w' β a c bs ∧ Dw β w w' := by
  have HI := kide hi
  clear hi
  go_enter Try.func62, Try.ntmps62
  go_wp2_with fail
  refine (once_any 24 (by omega) (by omega) β a c bs _ hr).mono ?_
  rintro e w1 ⟨x, rfl, hr1, hd1⟩
  cases x with
  | true =>
    have hβ : β < w1.heap.size := by obtain ⟨p, _, hk, _⟩ := hr1; exact hk.lt
    go_wp2_with fail
    refine (below_any 4 (by omega) β a c bs _ (hr1.later ((Below.refl _ _).alloc (Nat.le_refl _) _))).mono ?_
    rintro e w2 ⟨y, rfl, hy, hr2, hd2⟩
    have hrow := hd2.row hβ
    have hy4 : y < 4 := by omega
    obtain ⟨z, hz, hcell⟩ : ∃ z : Int, in64 z ∧ w2.cell? ⟨w1.heap.size, y, none⟩ = some (.int .i64 z) := by
      rw [cell_of_row w2 _ y _ _ _ hrow]
      match y, hy4 with
      | 0, _ => exact ⟨_, ⟨by omega, by omega⟩, rfl⟩
      | 1, _ => exact ⟨_, wrap64_in _, rfl⟩
      | 2, _ => exact ⟨-9223372036854775808, ⟨by omega, by omega⟩, rfl⟩
      | 3, _ => exact ⟨9223372036854775807, ⟨by omega, by omega⟩, rfl⟩
    have HZ := kide hz
    have hd := hd1.trans ((Dw.of ((Below.refl _ _).alloc (Nat.le_refl _) _)).trans hd2)
    clear hrow hd2 hz
    go_wp2
    go_ret
    exact ⟨z, rfl, HZ.out, hr2, hd⟩
  | false =>
    go_wp2_with fail
    refine (near0_any h HI.out β a c bs _ hr1).mono ?_
    rintro e w2 ⟨y, rfl, hy, hr2, hd2⟩
    have HY := kide hy
    clear hy
    go_wp2
    go_ret
    exact ⟨y, rfl, HY.out, hr2, hd1.trans hd2⟩

end Go.Proofs.Ytakicdlfolhhcaa
