/- The reader of the draws: near, off, wide. -/
import Derived.Test.YtgdeahaoceifaaaF1
import Derived.Test.YtgdeahaoceifaaaG1
namespace Go.Proofs.Ytgdeahaoceifaaa
set_option linter.unusedVariables false
set_option linter.unusedSimpArgs false
open Go.RowKit

theorem Dw.row {β : Nat} {w1 w2 : World} {o : Obj} (h : Dw β (w1.alloc o) w2) (hβ : β < w1.heap.size) : w2.heap[w1.heap.size]? = some o := by
  rw [World.grownBy.block h w1.heap.size (by simp) (by simp; omega), heap_alloc_new]

theorem wrap64_of {x : Int} (h1 : -9223372036854775808 ≤ x) (h2 : x ≤ 9223372036854775807) : wrap64 x = x := by
  unfold wrap64; omega

theorem near_any (l h : Nat) (hlh : l ≤ h) (hh : h ≤ 4194304) (β : Nat) (a : Option Addr) (c : Nat) (bs : List Nat) (w : World) (hr : Rr w β a c bs) :
    Calls Try.prog 81 #[.pointer (some ⟨β, 0, none⟩), .int .i64 l, .int .i64 h] w fun e w' => ∃ x : Nat, e = .returned (.int .i64 x) ∧ l ≤ x ∧ x ≤ h ∧ Rr w' β a c bs ∧ Dw β w w' := by
  go_enter Try.func81, Try.ntmps81
  go_wp2_with fail
  refine (below_any 8 (by omega) β a c bs _ hr).mono ?_
  rintro e w1 ⟨x, rfl, hx, hr1, hd1⟩
  rcases Nat.lt_or_ge 1 x with h1 | h1
  · have n0 : ¬ x = 0 := by omega
    have n1 : ¬ x = 1 := by omega
    have n0i : ¬ (x : Int) = 0 := by omega
    have n1i : ¬ (x : Int) = 1 := by omega
    have n2i : ¬ (h : Int) < (l : Int) := by omega
    go_wp2_with fail
    refine (word_any β a c bs _ hr1).mono ?_
    rintro e w2 ⟨y, rfl, hy, hr2, hd2⟩
    have hm : y / 2 % (h - l + 1) < h - l + 1 := Nat.mod_lt _ (by omega)
    have e1 : ((y : Int) / 2 % ((h : Int) - (l : Int) + 1)) = ((y / 2 % (h - l + 1) : Nat) : Int) := by
      rw [Int.natCast_emod, Int.natCast_ediv]; congr 1; omega
    generalize hz : y / 2 % (h - l + 1) = z at *
    have E1 : Hid ((y : Int) / 2 % ((h : Int) - (l : Int) + 1) = (z : Int)) := e1
    clear e1 hz
    go_wp2
    go_ret
    refine ⟨l + z, ?_, by omega, by omega, hr2, hd1.trans hd2⟩
    rw [E1.out, wrap64_of (show -9223372036854775808 ≤ (z : Int) by omega) (by omega), wrap64_of (by omega) (by omega)]
    simp
  · obtain rfl | rfl : x = 0 ∨ x = 1 := by omega
    · go_wp2
      go_ret
      exact ⟨l, rfl, Nat.le_refl _, hlh, hr1, hd1⟩
    · go_wp2
      go_ret
      exact ⟨h, rfl, hlh, Nat.le_refl _, hr1, hd1⟩

theorem off_any (l h : Nat) (hlh : l ≤ h) (hh : h ≤ 4194304) (β : Nat) (a : Option Addr) (c : Nat) (bs : List Nat) (w : World) (hr : Rr w β a c bs) :
    Calls Try.prog 60 #[.pointer (some ⟨β, 0, none⟩), .int .i64 l, .int .i64 h] w fun e w' => ∃ x : Int, e = .returned (.int .i64 x) ∧ -9223372036854775808 ≤ x ∧ x ≤ 9223372036854775807 ∧ Rr w' β a c bs ∧ Dw β w w' := by
  go_enter Try.func60, Try.ntmps60
  go_wp2_with fail
  refine (once_any 24 (by omega) (by omega) β a c bs _ hr).mono ?_
  rintro e w1 ⟨x, rfl, hr1, hd1⟩
  cases x with
  | true =>
    have hβ : β < w1.heap.size := by obtain ⟨p, _, hk, _⟩ := hr1; exact hk.lt
    go_wp2_with fail
    refine (below_any 4 (by omega) β a c bs _ (hr1.later ((Below.refl _ _).alloc (Nat.le_refl _) _))).mono ?_
    rintro e w2 ⟨y, rfl, hy, hr2, hd2⟩
    have hrow := hd2.row hβ
    have hy4 : y < 4 := by omega
    obtain ⟨z, hz1, hz2, hcell⟩ : ∃ z : Int, -9223372036854775808 ≤ z ∧ z ≤ 9223372036854775807 ∧ w2.cell? ⟨w1.heap.size, y, none⟩ = some (.int .i64 z) := by
      rw [cell_of_row w2 _ y _ _ _ hrow]
      match y, hy4 with
      | 0, _ => exact ⟨(l : Int) - 1, by omega, by omega, rfl⟩
      | 1, _ => exact ⟨(h : Int) + 1, by omega, by omega, rfl⟩
      | 2, _ => exact ⟨-9223372036854775808, by omega, by omega, rfl⟩
      | 3, _ => exact ⟨9223372036854775807, by omega, by omega, rfl⟩
    have hd := hd1.trans ((Dw.of ((Below.refl _ _).alloc (Nat.le_refl _) _)).trans hd2)
    clear hrow hd2
    go_wp2
    go_ret
    exact ⟨z, rfl, hz1, hz2, hr2, hd⟩
  | false =>
    go_wp2_with fail
    refine (near_any l h hlh hh β a c bs _ hr1).mono ?_
    rintro e w2 ⟨y, rfl, hy1, hy2, hr2, hd2⟩
    go_wp2
    go_ret
    exact ⟨y, rfl, by omega, by omega, hr2, hd1.trans hd2⟩

theorem wide_any (β : Nat) (a : Option Addr) (c : Nat) (bs : List Nat) (w : World) (hr : Rr w β a c bs) :
    Calls Try.prog 80 #[.pointer (some ⟨β, 0, none⟩)] w fun e w' => ∃ x : Nat, e = .returned (.int .i64 x) ∧ 1 ≤ x ∧ x ≤ 200 ∧ Rr w' β a c bs ∧ Dw β w w' := by
  go_enter Try.func80, Try.ntmps80
  go_wp2_with fail
  refine (below_any 10 (by omega) β a c bs _ hr).mono ?_
  rintro e w1 ⟨x, rfl, hx, hr1, hd1⟩
  rcases Nat.lt_or_ge 1 x with h1 | h1
  · have n0 : ¬ x = 0 := by omega
    have n1 : ¬ x = 1 := by omega
    have n0i : ¬ (x : Int) = 0 := by omega
    have n1i : ¬ (x : Int) = 1 := by omega
    go_wp2_with fail
    refine (below_any 12 (by omega) β a c bs _ hr1).mono ?_
    rintro e w2 ⟨y, rfl, hy, hr2, hd2⟩
    go_wp2
    go_ret
    exact ⟨1 + y, by simp, by omega, by omega, hr2, hd1.trans hd2⟩
  · obtain rfl | rfl : x = 0 ∨ x = 1 := by omega
    · have hβ : β < w1.heap.size := by obtain ⟨p, _, hk, _⟩ := hr1; exact hk.lt
      go_wp2_with fail
      refine (below_any 7 (by omega) β a c bs _ (hr1.later ((Below.refl _ _).alloc (Nat.le_refl _) _))).mono ?_
      rintro e w2 ⟨y, rfl, hy, hr2, hd2⟩
      have hrow := hd2.row hβ
      have hy7 : y < 7 := by omega
      obtain ⟨z, hz1, hz2, hcell⟩ : ∃ z : Nat, 1 ≤ z ∧ z ≤ 200 ∧ w2.cell? ⟨w1.heap.size, y, none⟩ = some (.int .i64 z) := by
        rw [cell_of_row w2 _ y _ _ _ hrow]
        match y, hy7 with
        | 0, _ => exact ⟨63, by omega, by omega, rfl⟩
        | 1, _ => exact ⟨64, by omega, by omega, rfl⟩
        | 2, _ => exact ⟨65, by omega, by omega, rfl⟩
        | 3, _ => exact ⟨127, by omega, by omega, rfl⟩
        | 4, _ => exact ⟨128, by omega, by omega, rfl⟩
        | 5, _ => exact ⟨129, by omega, by omega, rfl⟩
        | 6, _ => exact ⟨200, by omega, by omega, rfl⟩
      have hd := hd1.trans ((Dw.of ((Below.refl _ _).alloc (Nat.le_refl _) _)).trans hd2)
      clear hrow hd2
      go_wp2
      go_ret
      exact ⟨z, rfl, hz1, hz2, hr2, hd⟩
    · go_wp2_with fail
      refine (below_any 40 (by omega) β a c bs _ hr1).mono ?_
      rintro e w2 ⟨y, rfl, hy, hr2, hd2⟩
      go_wp2
      go_ret
      exact ⟨1 + y, by simp, by omega, by omega, hr2, hd1.trans hd2⟩

end Go.Proofs.Ytgdeahaoceifaaa
