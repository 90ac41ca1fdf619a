/- The given l3Widths and WidthOf. -/
import Derived.Test.YteenmffhbgpahaaDoorQJ
namespace Go.Proofs.YteenmffhbgpahaaDoor
set_option linter.unusedVariables false
set_option linter.unusedSimpArgs false
open Go.RowKit

theorem l3Widths_any (a b : Option Addr) (c c2 n : Nat) (ds : List Dc) (xs : List Tg) (w : World) (hr : RdD w a ds) (hs : RdT w b xs) (hn : xs.length = n) :
    Calls Tryd.prog 28 #[.slice a ds.length c, .agg #[.slice b n c2]] w fun e w' => ∃ v, e = .returned v ∧ OW w' (w.heap.size + 1) v (widthsR ds (xs.map Tg.ct)) ∧ Below w.heap.size w w' := by
  by_cases h : dclR ds = true ∧ 1 ≤ n ∧ n ≤ 400
  · exact l3Widths_yes a b c c2 n ds xs w hr hs hn h
  · exact l3Widths_no a b c c2 n ds xs w hr hs hn h

theorem goR_len {ds : List Dc} {wide out : List Int} {ns : List Tc} (h : goR ds wide ns = some out) : out.length = wide.length + ns.length ∧ ((∀ x ∈ wide, 1 ≤ x ∧ x ≤ 4096) → ∀ x ∈ out, 1 ≤ x ∧ x ≤ 4096) := by
  induction ns generalizing wide with
  | nil => rw [goR] at h; cases h; exact ⟨by simp, fun h => h⟩
  | cons n t ih =>
    rw [goR] at h
    cases hst : stepR ds wide n with
    | none => rw [hst] at h; cases h
    | some v =>
      rw [hst] at h
      obtain ⟨h1, h2⟩ := ih h
      refine ⟨by rw [h1]; simp; omega, fun hw => h2 (fun x hx => ?_)⟩
      rcases List.mem_append.1 hx with hx | hx
      · exact hw x hx
      · rw [List.mem_singleton.1 hx]; exact stepR_range hst

theorem widthsR_bounds (ds : List Dc) (ns : List Tc) : (widthsR ds ns).length ≤ 400 ∧ ∀ x ∈ widthsR ds ns, 1 ≤ x ∧ x ≤ 4096 := by
  unfold widthsR
  split
  · rename_i h
    simp only [Bool.and_eq_true, decide_eq_true_eq] at h
    cases hg : goR ds [] ns with
    | none => simp
    | some wide =>
      obtain ⟨h1, h2⟩ := goR_len hg
      simp only []
      split
      · exact ⟨by simp at h1; omega, h2 (by simp)⟩
      · simp
  · simp

/-- The width of a term; -1: it is not right. -/
def widR (ds : List Dc) (ns : List Tc) : Int := if (widthsR ds ns).length = 0 then -1 else (widthsR ds ns).getD ((widthsR ds ns).length - 1) 0

theorem specWidth_any (a b : Option Addr) (c c2 n : Nat) (ds : List Dc) (xs : List Tg) (w : World) (hr : RdD w a ds) (hs : RdT w b xs) (hn : xs.length = n) :
    Calls Tryd.prog 14 #[.slice a ds.length c, .agg #[.slice b n c2]] w fun e w' => e = .returned (.int .i64 (widR ds (xs.map Tg.ct))) ∧ Below w.heap.size w w' := by
  have HC := kide (l3Widths_any a b c c2 n ds xs)
  have hb0 : Below w.heap.size w (w.alloc (Obj.cells #[Value.slice b n c2] 33)) := (Below.refl _ _).alloc (Nat.le_refl _) _
  obtain ⟨hbl, hbd⟩ := widthsR_bounds ds (xs.map Tg.ct)
  have HA := kide (HC.out w hr hs hn)
  have HA' := kide (HC.out _ (hr.later hb0) (hs.later hb0) hn)
  unfold widR
  generalize widthsR ds (xs.map Tg.ct) = W at *
  have HBD := kide hbd
  have B0 := kide hb0
  clear HC hr hs hn hbd hb0
  generalize hZ : (if W.length = 0 then (-1 : Int) else W.getD (W.length - 1) 0) = Z
  have HZ := kide hZ
  clear hZ
  go_enter Tryd.func14, Tryd.ntmps14
  go_wp2_with fail
  first
    | refine Calls.mono HA'.out ?_
    | refine Calls.mono HA.out ?_
  rintro e w1 ⟨v, rfl, ho, hb1⟩
  obtain ⟨ya, yc, rfl, hrd⟩ := ho.rd (by omega) (fun x hx => by have := HBD.out x hx; unfold in64; omega)
  have HB1 : Hid (Below w.heap.size w w1) := by first | exact B0.out.trans (hb1.mono (by simp)) | exact hb1
  clear ho hb1 HA HA'
  by_cases h0 : W.length = 0
  · have h := HZ.out
    rw [if_pos h0] at h
    subst h
    rw [h0]
    clear HZ hrd
    go_wp2_with fail
    go_ret
    exact ⟨rfl, HB1.out⟩
  · have h := HZ.out
    rw [if_neg h0] at h
    obtain ⟨-, -, hn | ⟨b3, o3, rfl, hc3⟩⟩ := hrd
    · rw [hn] at h0; simp at h0
    have g0 := hc3 (W.length - 1) (by omega)
    rw [h] at g0
    obtain ⟨l, hl⟩ : ∃ l, W.length = l + 1 := ⟨W.length - 1, by omega⟩
    rw [hl] at g0 ⊢
    have hl4 : l ≤ 400 := by omega
    simp only [Nat.add_sub_cancel] at g0
    clear hc3 HZ h h0 HBD hbl hl
    go_wp2_with fail
    go_ret
    exact ⟨rfl, HB1.out⟩

end Go.Proofs.YteenmffhbgpahaaDoor
