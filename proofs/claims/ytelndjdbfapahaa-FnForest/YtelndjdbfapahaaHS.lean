/- Whether a number is among others. -/
import Derived.Test.YtelndjdbfapahaaHG
namespace Go.Proofs.Ytelndjdbfapahaa
set_option linter.unusedVariables false
set_option linter.unusedSimpArgs false
open Go.RowKit

theorem has_row (v : Value) (xs : List Int) (lo hi : Nat) (x : Int) (w : World) (hr : RowAt w lo hi v xs) (hn : xs.length ≤ 1000) :
    Calls Try.prog 36 #[v, .int .i64 x] w fun e w' => e = .returned (.bool (decide (x ∈ xs))) ∧ Below w.heap.size w w' := by
  obtain ⟨g, c, N, f, rfl, -, -, h3, h4, h5⟩ := hr
  obtain ⟨n, hl⟩ : ∃ n, xs.length = n := ⟨_, rfl⟩
  rw [hl] at h3 h5 hn ⊢
  obtain ⟨V, hV⟩ : ∃ V, decide (x ∈ xs) = V := ⟨_, rfl⟩
  rw [hV]
  have HV := kide hV
  have HL := kide hl
  clear hl hV
  go_enter Try.func36, Try.ntmps36
  go_wp2_with fail
  go_loopw [5] (fun q wr => ∃ k : Nat, k ≤ n ∧ q = .int .i64 (k : Int) ∧ (∀ j, j < k → xs.getD j 0 ≠ x) ∧ Below w.heap.size w wr) (fun q _ => n - (intOf q).toNat)
  case atStart => exact ⟨0, Nat.zero_le _, rfl, fun j h => by omega, Below.refl _ _⟩
  case round =>
    obtain ⟨k, hk, rfl, hne, hbel⟩ := hrel
    have HB := kide hbel
    have HNE := kide hne
    by_cases hlt : k < n
    · have p0 := h4.cell (i := k) (by omega)
      rw [h5 k hlt, ← kcell hbel g k h4.lt] at p0
      have hmem : xs.getD k 0 ∈ xs := by
        have hk' : k < xs.length := by rw [HL.out]; exact hlt
        rw [List.getD_eq_getElem?_getD, List.getElem?_eq_getElem hk']
        exact List.getElem_mem hk'
      obtain ⟨y, hy⟩ : ∃ y, xs.getD k 0 = y := ⟨_, rfl⟩
      rw [hy] at p0 hmem
      have HY := kide hy
      have HM := kide hmem
      have i0 : (k : Int) < (n : Int) := by omega
      clear h4 h5 hbel hne hy hmem
      by_cases hyx : y = x
      · have hb : (y == x) = true := by simp [hyx]
        have HVT : V = true := by rw [← HV.out]; exact decide_eq_true (by rw [← hyx]; exact HM.out)
        subst HVT
        clear hyx
        go_wp2_with fail
        go_ret
        exact ⟨rfl, HB.out⟩
      · have hb : (y == x) = false := beq_eq_false_iff_ne.2 hyx
        have HYX := kide hyx
        clear hyx
        go_wp2_with fail
        go_roundw
        case rel => exact ⟨k + 1, by omega, by go_num, fun j hj => by
          by_cases e : j = k
          · rw [e, HY.out]; exact HYX.out
          · exact HNE.out j (by omega), HB.out⟩
        case measure => simp [intOf]; omega
    · have hVF : V = false := by
        rw [← HV.out]
        refine decide_eq_false (fun hx => ?_)
        obtain ⟨j, hj, e⟩ := List.mem_iff_getElem.1 hx
        refine HNE.out j (by have := HL.out; omega) ?_
        rw [List.getD_eq_getElem?_getD, List.getElem?_eq_getElem hj, ← e]
        rfl
      subst hVF
      clear hbel hne
      go_wp2_with fail
      go_ret
      exact ⟨rfl, HB.out⟩

end Go.Proofs.Ytelndjdbfapahaa
