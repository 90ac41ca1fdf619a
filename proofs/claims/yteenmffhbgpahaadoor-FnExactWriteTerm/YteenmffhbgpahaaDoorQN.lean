/- The program's width of a node: the plain side, and boundWidth. -/
import Derived.Test.YteenmffhbgpahaaDoorQM
import Derived.Test.YteenmffhbgpahaaDoorQK
import Derived.Handy
namespace Go.Proofs.YteenmffhbgpahaaDoor
set_option linter.unusedVariables false
set_option linter.unusedSimpArgs false
open Go.RowKit

/-- A width in bounds, and a code. -/
def bndR (x : Int) : Int × Int := if x < 1 then (0, 15) else if 4096 < x then (0, 16) else (x, 0)

theorem boundWidth_any (x : Int) (w : World) : Calls Tryd.prog 107 #[.int .i64 x] w fun e w' => e = .returned (.tuple #[.int .i64 (bndR x).1, .int .i64 (bndR x).2]) ∧ w' = w := by
  by_cases h1 : x < 1
  · rw [bndR, if_pos h1]
    go_enter Tryd.func107, Tryd.ntmps107
    go_wp2_with fail
    go_returns
    exact ⟨rfl, rfl⟩
  · by_cases h2 : 4096 < x
    · rw [bndR, if_neg h1, if_pos h2]
      go_enter Tryd.func107, Tryd.ntmps107
      go_wp2_with fail
      go_returns
      exact ⟨rfl, rfl⟩
    · rw [bndR, if_neg h1, if_neg h2]
      go_enter Tryd.func107, Tryd.ntmps107
      go_wp2_with fail
      go_returns
      exact ⟨rfl, rfl⟩

/-- The kids' widths. -/
def kwR (wide : List Int) (ks : List Int) : List Int := ks.map fun k => wide.getD k.toNat 0
def sumK : List Int → Int
  | [] => 0
  | x :: t => x + sumK t

/-- What the program says of a node: a width and a code. -/
def nodR (ds : List Dc) (n : Tc) (ys : List Int) : Int × Int :=
  if n.op = 1 then (if 0 ≤ n.vr ∧ n.vr < ds.length then bndR (ds.getD n.vr.toNat (.empty, 0)).2 else (0, 15))
  else if n.op = 2 then (if rightB n.bw n.ws = true then (n.bw, 0) else (0, 15))
  else if n.op = 3 then bndR (sumK ys)
  else if n.op = 4 then (if n.b < 0 ∨ n.a < n.b ∨ ys.getD 0 0 ≤ n.a then (0, 15) else (n.a - n.b + 1, 0))
  else if n.op = 5 ∨ n.op = 6 then (if 0 ≤ n.a ∧ n.a ≤ 4096 then bndR (ys.getD 0 0 + n.a) else (0, 15))
  else if n.op = 7 ∨ n.op = 8 then (if 0 ≤ n.a ∧ n.a ≤ 4096 then (ys.getD 0 0, 0) else (0, 15))
  else (if 1 ≤ n.a ∧ n.a ≤ 4096 then bndR (ys.getD 0 0 * n.a) else (0, 15))

theorem bndR_spec (x : Int) : (1 ≤ x ∧ x ≤ 4096 → bndR x = (x, 0)) ∧ (¬ (1 ≤ x ∧ x ≤ 4096) → (bndR x).2 ≠ 0) := by
  unfold bndR
  constructor
  · intro h; rw [if_neg (by omega), if_neg (by omega)]
  · intro h
    split
    · simp
    · split
      · simp
      · omega

theorem kids_get {wide ks : List Int} (hw : ∀ x ∈ wide, 1 ≤ x ∧ x ≤ 4096) (hk : kidsR wide.length ks = true) : ∀ k ∈ ks, 1 ≤ wide.getD k.toNat 0 ∧ wide.getD k.toNat 0 ≤ 4096 := by
  intro k hkm
  simp only [kidsR, List.all_eq_true, decide_eq_true_eq] at hk
  have := hk k hkm
  have hl : k.toNat < wide.length := by omega
  have := hw _ (List.getElem_mem hl)
  simp [List.getD, hl]
  omega

theorem sumR_min {wide ks : List Int} (hw : ∀ k ∈ ks, 1 ≤ wide.getD k.toNat 0 ∧ wide.getD k.toNat 0 ≤ 4096) (s : Int) (h0 : 0 ≤ s) (h1 : s ≤ 8192) : sumR wide ks s = min 8192 (s + sumK (kwR wide ks)) ∧ (ks.length : Int) ≤ sumK (kwR wide ks) := by
  induction ks generalizing s with
  | nil => simp [sumR, sumK, kwR]; omega
  | cons k t ih =>
    have hk := hw k (by simp)
    obtain ⟨e1, e2⟩ := ih (fun x hx => hw x (by simp [hx])) (min 8192 (s + wide.getD k.toNat 0)) (by omega) (by omega)
    rw [sumR, e1]
    have e3 : sumK (kwR wide (k :: t)) = wide.getD k.toNat 0 + sumK (kwR wide t) := by simp [kwR, sumK]
    rw [e3]
    refine ⟨by omega, ?_⟩
    simp only [List.length_cons]
    omega

end Go.Proofs.YteenmffhbgpahaaDoor
