/- Right graphs as plain lists; what the program says of one bar. -/
import Derived.Test.YtddgldfjeklhbaaJD
namespace Go.Proofs.Ytddgldfjeklhbaa
set_option linter.unusedVariables false
set_option linter.unusedSimpArgs false
open Go.RowKit

def ndOk (n : Nat) (x : Int) : Bool := decide (0 ≤ x) && decide (x < n)

/-- Is a bar right for nodes of these widths? -/
def brOk (ks : List Int) (s : Yc) : Bool :=
  ndOk ks.length s.v && (if s.lo = -1 then rightB s.bw s.ws && decide (s.bw = ks.getD s.v.toNat 0)
    else ndOk ks.length s.lo && decide (s.lo ≠ s.v) && decide (ks.getD s.lo.toNat 0 = ks.getD s.v.toNat 0) && decide (s.bw = 0) && decide (s.ws.length = 0))

/-- Is a graph right? -/
def graphR (ks : List Int) (bs : List Yc) : Bool := decide (ks.length ≤ 200) && decide (bs.length ≤ 1000) && ks.all wOk && bs.all (brOk ks)

theorem graphR_long {ks : List Int} {bs : List Yc} (h : 200 < ks.length ∨ 1000 < bs.length) : graphR ks bs = false := by
  rw [Bool.eq_false_iff]
  intro h'
  simp only [graphR, Bool.and_eq_true, decide_eq_true_eq] at h'
  omega
theorem graphR_wide {ks : List Int} {bs : List Yc} {k : Nat} (h : k < ks.length) (hb : wOk (ks.getD k 0) = false) : graphR ks bs = false := by
  rw [Bool.eq_false_iff]
  intro h'
  simp only [graphR, Bool.and_eq_true, decide_eq_true_eq, List.all_eq_true] at h'
  have := h'.1.2 _ (List.getElem_mem h)
  simp [List.getD, h] at hb
  rw [hb] at this
  cases this
theorem graphR_bar {ks : List Int} {bs : List Yc} {k : Nat} {s : Yc} (h : bs[k]? = some s) (hb : brOk ks s = false) : graphR ks bs = false := by
  rw [Bool.eq_false_iff]
  intro h'
  simp only [graphR, Bool.and_eq_true, decide_eq_true_eq, List.all_eq_true] at h'
  have := h'.2 _ (List.mem_of_getElem? h)
  rw [hb] at this
  cases this
theorem graphR_good {ks : List Int} {bs : List Yc} (h1 : ks.length ≤ 200) (h2 : bs.length ≤ 1000) (h3 : ∀ k, k < ks.length → wOk (ks.getD k 0) = true) (h4 : ∀ (k : Nat) (s : Yc), bs[k]? = some s → brOk ks s = true) : graphR ks bs = true := by
  simp only [graphR, Bool.and_eq_true, decide_eq_true_eq, List.all_eq_true]
  refine ⟨⟨⟨h1, h2⟩, fun x hx => ?_⟩, fun s hs => ?_⟩
  · obtain ⟨i, hi, e⟩ := List.mem_iff_getElem.1 hx
    have := h3 i hi
    simp [List.getD, hi, e] at this
    exact this
  · obtain ⟨i, hi, e⟩ := List.mem_iff_getElem.1 hs
    exact h4 i s (by rw [List.getElem?_eq_getElem hi, e])

theorem isNode_any (a1 a2 : Option Addr) (n1 c1 n2 c2 : Nat) (x : Int) (w : World) (hn : n1 ≤ 1048576) :
    Calls Try.prog 37 #[.agg #[.slice a1 n1 c1, .slice a2 n2 c2], .int .i64 x] w fun e w' => e = .returned (.bool (ndOk n1 x)) ∧ Below w.heap.size w w' := by
  have hb0 : Below w.heap.size w (w.alloc (Obj.cells #[Value.slice a1 n1 c1, Value.slice a2 n2 c2] 40)) := (Below.refl _ _).alloc (Nat.le_refl _) _
  have B0 := kide hb0
  clear hb0
  by_cases h1 : 0 ≤ x
  · have hR : ndOk n1 x = decide (x < (n1 : Int)) := by simp [ndOk, h1]
    rw [hR]
    clear hR
    go_enter Try.func37, Try.ntmps37
    go_wp2_with fail
    go_ret
    exact ⟨rfl, B0.out⟩
  · have hR : ndOk n1 x = false := by simp [ndOk, h1]
    rw [hR]
    clear hR
    go_enter Try.func37, Try.ntmps37
    go_wp2_with fail
    go_ret
    exact ⟨rfl, B0.out⟩

end Go.Proofs.Ytddgldfjeklhbaa
