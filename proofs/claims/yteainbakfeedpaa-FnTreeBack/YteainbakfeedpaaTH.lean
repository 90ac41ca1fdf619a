/- What the given TreeOk and DepthOf answer: the whole of them. -/
import Derived.Test.YteainbakfeedpaaTG
namespace Go.Proofs.Yteainbakfeedpaa
set_option linter.unusedVariables false
set_option linter.unusedSimpArgs false
open Go.RowKit

theorem depR_lt {cs : List Ct} (h : ¬ (1 ≤ cs.length ∧ cs.length ≤ 2000)) : depR cs = -1 := by rw [depR, if_neg h]
theorem depR_code {cs : List Ct} (h : 1 ≤ cs.length ∧ cs.length ≤ 2000) : decide (0 ≤ depR cs) = decide (codeW (W cs cs.length 0 0) = (cs.length : Int)) := by
  rw [Bool.eq_iff_iff, decide_eq_true_eq, decide_eq_true_eq, depR, if_pos h]
  cases W cs cs.length 0 0 with
  | none => simp [codeW] <;> omega
  | some q =>
    obtain ⟨e, d⟩ := q
    show (0 ≤ if e = cs.length then (d : Int) else -1) ↔ (e : Int) = cs.length
    by_cases he : e = cs.length
    · rw [if_pos he]; omega
    · rw [if_neg he]; omega
theorem depR_get {cs : List Ct} (h : 0 ≤ depR cs) : 1 ≤ cs.length ∧ cs.length ≤ 2000 ∧ ∃ d : Nat, W cs cs.length 0 0 = some (cs.length, d) ∧ depR cs = (d : Int) := by
  by_cases hl : 1 ≤ cs.length ∧ cs.length ≤ 2000
  · refine ⟨hl.1, hl.2, ?_⟩
    rw [depR, if_pos hl] at h ⊢
    cases hw : W cs cs.length 0 0 with
    | none => rw [hw] at h; simp at h
    | some q =>
      obtain ⟨e, d⟩ := q
      rw [hw] at h
      simp only [] at h ⊢
      by_cases he : e = cs.length
      · rw [if_pos he]; exact ⟨d, by rw [he], rfl⟩
      · rw [if_neg he] at h; omega
  · rw [depR_lt hl] at h; omega

theorem specTreeOk_any (a : Option Addr) (c : Nat) (ns : List Nd) (w : World) (hr : RdN w a ns) :
    Calls Try.prog 19 #[.agg #[.slice a ns.length c]] w fun e w' => e = .returned (.bool (decide (0 ≤ depR (ns.map Nd.ct)))) ∧ Below w.heap.size w w' := by
  have hlen := hr.1
  have hb0 : Below w.heap.size w (w.alloc (Obj.cells #[Value.slice a ns.length c] 26)) := (Below.refl _ _).alloc (Nat.le_refl _) _
  by_cases h : 1 ≤ ns.length ∧ ns.length ≤ 2000
  · obtain ⟨h1, h2⟩ := h
    have hR := depR_code (cs := ns.map Nd.ct) ⟨by simpa using h1, by simpa using h2⟩
    rw [List.length_map] at hR
    rw [hR]
    have HC := show Hid _ from fun u hu => l2Walk_any ns h2 ns.length 0 0 a c u hu (by omega) (by omega) (by omega)
    generalize codeW (W (ns.map Nd.ct) ns.length 0 0) = Z at *
    have HR0 := show Hid _ from hr.later hb0
    have c0 : (w.alloc (Obj.cells #[Value.slice a ns.length c] 26)).cell? ⟨w.heap.size, 0, none⟩ = some (Value.slice a ns.length c) := by simp
    have l0 : w.heap.size < (w.alloc (Obj.cells #[Value.slice a ns.length c] 26)).heap.size := by simp
    clear hR hr
    go_enter Try.func19, Try.ntmps19
    go_wp2_with fail
    generalize w.alloc (Obj.cells #[Value.slice a ns.length c] 26) = w0 at *
    go_region_held3 (fun u => u.cell? ⟨w.heap.size, 0, none⟩ = some (Value.slice a ns.length c)) (simp [*])
      ((go_at_call 44; refine Calls.mono (HC.out _ ?_) ?_; exact RdN.later HR0.out ((Below.refl _ _).drew); rintro e w1 ⟨rfl, hb1⟩; replace hb1 := undrew hb1; have k0 := (bcell hb1).1 w.heap.size 0 l0))
    go_wp2_with fail
    go_ret
    exact ⟨ret_bool (by rw [Bool.eq_iff_iff]; simp), hb0.trans (hb1.mono (Nat.le_of_lt l0))⟩
  · have hR : decide (0 ≤ depR (ns.map Nd.ct)) = false := by rw [depR_lt (by simpa using h)]; rfl
    rw [hR]
    clear hR hr
    by_cases h1 : 1 ≤ ns.length
    · have h2 : 2000 < ns.length := by omega
      clear h
      go_enter Try.func19, Try.ntmps19
      go_wp2_with fail
      go_ret
      exact ⟨rfl, hb0⟩
    · have h2 : ns = [] := List.eq_nil_of_length_eq_zero (by omega)
      subst h2
      clear h
      go_enter Try.func19, Try.ntmps19
      go_wp2_with fail
      go_ret
      exact ⟨rfl, hb0⟩

theorem specDepth_any (a : Option Addr) (c : Nat) (ns : List Nd) (w : World) (hr : RdN w a ns) :
    Calls Try.prog 24 #[.agg #[.slice a ns.length c]] w fun e w' => e = .returned (.int .i64 (depR (ns.map Nd.ct))) ∧ Below w.heap.size w w' := by
  have hlen := hr.1
  have hb0 : Below w.heap.size w (w.alloc (Obj.cells #[Value.slice a ns.length c] 26)) := (Below.refl _ _).alloc (Nat.le_refl _) _
  have HC := show Hid _ from fun u hu => specTreeOk_any a c ns u hu
  have HR0 := show Hid _ from hr.later hb0
  have l0 : w.heap.size < (w.alloc (Obj.cells #[Value.slice a ns.length c] 26)).heap.size := by simp
  by_cases h : 0 ≤ depR (ns.map Nd.ct)
  · obtain ⟨h1, h2, d, hw, hd⟩ := depR_get h
    rw [hd]
    have hD : decide (0 ≤ depR (ns.map Nd.ct)) = true := decide_eq_true h
    rw [hD] at HC
    rw [List.length_map] at h1 h2 hw
    have HD := show Hid _ from fun u hu => l2Depth_any ns h2 ns.length 0 0 ns.length d a c u hu (by omega) hw
    clear hr h hd hD hw
    go_enter Try.func24, Try.ntmps24
    go_wp2_with fail
    refine Calls.mono (HC.out _ HR0.out) ?_
    rintro e w1 ⟨rfl, hb1⟩
    have k0 := (bcell hb1).1 w.heap.size 0 l0
    have c0 : w1.cell? ⟨w.heap.size, 0, none⟩ = some (Value.slice a ns.length c) := by rw [k0]; simp
    clear k0
    go_wp2_with fail
    refine Calls.mono (HD.out _ (RdN.later HR0.out hb1)) ?_
    rintro e w2 ⟨rfl, hb2⟩
    go_wp2_with fail
    go_ret
    exact ⟨rfl, hb0.trans ((hb1.trans (hb2.mono hb1.size)).mono (by omega))⟩
  · have hD : decide (0 ≤ depR (ns.map Nd.ct)) = false := decide_eq_false h
    rw [hD] at HC
    have hd : depR (ns.map Nd.ct) = -1 := by
      unfold depR at h ⊢
      split
      · rename_i hc
        rw [if_pos hc] at h
        cases hw : W (ns.map Nd.ct) (ns.map Nd.ct).length 0 0 with
        | none => rfl
        | some q =>
          obtain ⟨e, d⟩ := q
          rw [hw] at h
          simp only [] at h ⊢
          split
          · rename_i he; rw [if_pos he] at h; omega
          · rfl
      · rfl
    rw [hd]
    clear hr h hd hD
    go_enter Try.func24, Try.ntmps24
    go_wp2_with fail
    refine Calls.mono (HC.out _ HR0.out) ?_
    rintro e w1 ⟨rfl, hb1⟩
    go_wp2_with fail
    go_ret
    exact ⟨rfl, hb0.trans (hb1.mono (by omega))⟩

end Go.Proofs.Yteainbakfeedpaa
