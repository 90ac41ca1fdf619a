/- Bindings, plainly: what is bound by them. -/
import Derived.Test.YtbpodkdlhjgncaaGreatDoorER
import Derived.Test.YtbpodkdlhjgncaaGreatDoorZVI
import Derived.Test.YtbpodkdlhjgncaaGreatDoorZVU
import Derived.Test.YtbpodkdlhjgncaaGreatDoorBNG
import Derived.Test.YtbpodkdlhjgncaaGreatDoorZVE
namespace Go.Proofs.YtbpodkdlhjgncaaGreatDoor
set_option linter.unusedVariables false
set_option linter.unusedSimpArgs false
open Go.RowKit

theorem ev_ahead {ds : List Dc} {vs : List Wd} (hv : valR ds vs = true) (hvb : ∀ x ∈ vs, ∀ y ∈ x.2, y < 18446744073709551616) : ∀ (ns : List Tc) (wide : List Int) (all : List Wd) (r : List Int), (∀ n ∈ ns, ∀ y ∈ n.ws, y < 18446744073709551616) → Ahead wide all → goR ds wide ns = some r → Ahead r (ns.foldl (fun all n => all ++ [nodV vs all n]) all)
  | [], wide, all, r, _, ha, h => by
    rw [goR] at h
    cases h
    exact ha
  | m :: t, wide, all, r, hb, ha, h => by
    rw [goR] at h
    cases hst : stepR ds wide m with
    | none => rw [hst] at h; cases h
    | some v =>
      rw [hst] at h
      obtain ⟨h1, h2⟩ := nodV_ok ha hv hvb (hb m (by simp)) hst
      exact ev_ahead hv hvb t _ _ r (fun n hn => hb n (by simp [hn])) (ha.push h2 h1.is) h

/-- The width of what a right term is by right values is the term's. -/
theorem eval_wid {ds : List Dc} {vs : List Wd} {ns : List Tc} (hw : ¬ (widthsR ds ns).length = 0) (hv : valR ds vs = true) (hvb : ∀ x ∈ vs, ∀ y ∈ x.2, y < 18446744073709551616) (hnb : ∀ n ∈ ns, ∀ y ∈ n.ws, y < 18446744073709551616) : (evalR vs ns).1 = widR ds ns := by
  obtain ⟨hl1, -, hl3, -⟩ := right_kids hw
  have hA : Ahead (widthsR ds ns) (evR vs ns) := by
    unfold widthsR at hw ⊢
    split at hw
    · rename_i hc
      rw [if_pos hc]
      cases hg : goR ds [] ns with
      | none => rw [hg] at hw; simp at hw
      | some wide =>
        rw [hg] at hw
        simp only at hw ⊢
        split at hw
        · rename_i hu
          rw [if_pos hu]
          exact ev_ahead hv hvb ns [] [] wide hnb Ahead.nil hg
        · simp at hw
    · simp at hw
  have h := (hA.ok (ns.length - 1) (by rw [ev_len]; omega)).1
  unfold evalR widR
  rw [if_neg hw, h, hl3]

/-- A binding that fits right variables. -/
def bndOk (ds : List Dc) (b : Vc) : Bool := decide (0 ≤ b.v ∧ b.v < (ds.length : Int)) && decide (widR ds b.ts = (ds.getD b.v.toNat (.empty, 0)).2)
def stepB (vs : List Wd) (b : Vc) : List Wd := vs.set b.v.toNat (evalR vs b.ts)
def bindF (bs : List Vc) (vs : List Wd) : List Wd := bs.foldr (fun b acc => stepB acc b) vs
def bnfR (ds : List Dc) (bs : List Vc) (vs : List Wd) : List Wd × Bool := if valR ds vs = true ∧ bs.length ≤ 60 ∧ bs.all (bndOk ds) = true then (bindF bs vs, true) else ([], false)

/-- Right values, as words. -/
def okB (ds : List Dc) (X : List Wd) : Prop := valR ds X = true ∧ ∀ x ∈ X, ∀ y ∈ x.2, y < 18446744073709551616
theorem okB.okW {ds : List Dc} {X : List Wd} (h : okB ds X) : okW X := by
  obtain ⟨hD, hL, hV⟩ := valR_iff.1 h.1
  have h60 := (dclR_iff.1 hD).1
  refine ⟨by omega, fun x hx => ?_⟩
  obtain ⟨i, hi, e⟩ := List.mem_iff_getElem.1 hx
  have h4 := (hV i hi).1
  have e2 : X.getD i (0, []) = x := by simp [List.getD, hi, e]
  rw [e2] at h4
  have h5 := right_W h4
  exact ⟨⟨by omega, by omega⟩, by omega, h.2 x hx⟩
theorem bnd_wid {ds : List Dc} {b : Vc} (hD : dclR ds = true) (hb : bndOk ds b = true) : (0 ≤ b.v ∧ b.v < (ds.length : Int)) ∧ widR ds b.ts = (ds.getD b.v.toNat (.empty, 0)).2 ∧ ¬ (widthsR ds b.ts).length = 0 := by
  simp only [bndOk, Bool.and_eq_true, decide_eq_true_eq] at hb
  refine ⟨hb.1, hb.2, fun e => ?_⟩
  have hlt : b.v.toNat < ds.length := by omega
  have hd := (dclR_iff.1 hD).2.1 _ (List.getElem_mem hlt)
  have e1 : ds.getD b.v.toNat (.empty, 0) = ds[b.v.toNat] := by simp [List.getD, hlt]
  have h2 := hb.2
  rw [e1] at h2
  unfold widR at h2
  rw [if_pos e] at h2
  simp only [dcOk, wOk, Bool.and_eq_true, decide_eq_true_eq] at hd
  omega
theorem okB.step {ds : List Dc} {vs : List Wd} {b : Vc} (h : okB ds vs) (hb : bndOk ds b = true) (hn : ∀ n ∈ b.ts, ∀ y ∈ n.ws, y < 18446744073709551616) : okB ds (stepB vs b) := by
  obtain ⟨hD, hL, hV⟩ := valR_iff.1 h.1
  obtain ⟨hv, hw, h0⟩ := bnd_wid hD hb
  have ho := eval_ok h0 h.1 h.2 hn
  have hwd := eval_wid h0 h.1 h.2 hn
  refine ⟨valR_iff.2 ⟨hD, by simp [stepB, hL], fun i hi => ?_⟩, fun x hx => ?_⟩
  · simp only [stepB, List.length_set] at hi
    have hV' := hV i hi
    unfold stepB
    rw [List.getD_eq_getElem?_getD, List.getElem?_set]
    by_cases e : b.v.toNat = i
    · subst e
      rw [if_pos rfl, if_pos hi]
      simp only [Option.getD_some]
      exact ⟨ho.1, by rw [hwd, hw]⟩
    · rw [if_neg e, ← List.getD_eq_getElem?_getD]
      exact hV'
  · rcases List.mem_or_eq_of_mem_set hx with hx | rfl
    · exact h.2 x hx
    · exact ho.2
theorem okB.all {ds : List Dc} {vs : List Wd} (h : okB ds vs) : ∀ bs : List Vc, bs.all (bndOk ds) = true → (∀ b ∈ bs, ∀ n ∈ b.ts, ∀ y ∈ n.ws, y < 18446744073709551616) → okB ds (bindF bs vs)
  | [], _, _ => h
  | b :: t, hb, hn => by
    simp only [List.all_cons, Bool.and_eq_true] at hb
    exact (h.all t hb.2 fun x hx => hn x (List.mem_cons_of_mem _ hx)).step hb.1 (hn b (by simp))
theorem bnfR_ok {ds : List Dc} {bs : List Vc} {vs : List Wd} (hvb : ∀ x ∈ vs, ∀ y ∈ x.2, y < 18446744073709551616) (hn : ∀ b ∈ bs, ∀ n ∈ b.ts, ∀ y ∈ n.ws, y < 18446744073709551616) : okW (bnfR ds bs vs).1 := by
  unfold bnfR
  split
  · rename_i h
    exact (okB.all ⟨h.1, hvb⟩ bs h.2.2 hn).okW
  · exact ⟨by simp, by simp⟩

/-- What is bound when some have come. -/
def bL (xs : List Vg) {n : Nat} (pre : List (Fin n)) (vs : List Wd) : List Wd := pre.foldl (fun acc (x : Fin n) => stepB acc (vgN xs x).ct) vs
theorem bL_snoc (xs : List Vg) {n : Nat} (pre : List (Fin n)) (x : Fin n) (vs : List Wd) : bL xs (pre ++ [x]) vs = stepB (bL xs pre vs) (vgN xs x).ct := by simp [bL]
theorem bwd_all {xs : List Vg} {n : Nat} (hl : xs.length = n) (h0 : 0 < n) : (bwd n h0 n).map (fun x : Fin n => (vgN xs x).ct) = (xs.map Vg.ct).reverse := by
  apply List.ext_getElem?
  intro i
  unfold bwd
  by_cases hi : i < n
  · rw [List.getElem?_reverse (by rw [List.length_map, hl]; exact hi)]
    simp only [List.length_map, List.map_map, List.getElem?_map, List.getElem?_range hi, Option.map_some, Function.comp]
    have hx : xs[n - 1 - i]? = some (xs[n - 1 - i]'(by omega)) := List.getElem?_eq_getElem (by omega)
    rw [hl, hx]
    simp [vgN, List.getD, hx]
  · rw [List.getElem?_eq_none (by simp; omega), List.getElem?_eq_none (by simp; omega)]
theorem bL_all {xs : List Vg} {n : Nat} (hl : xs.length = n) (h0 : 0 < n) (vs : List Wd) : bL xs (bwd n h0 n) vs = bindF (xs.map Vg.ct) vs := by
  have h := congrArg (fun l => l.foldl stepB vs) (bwd_all hl h0)
  simp only [List.foldl_map, List.foldl_reverse] at h
  unfold bL bindF
  exact h
theorem okB.pre {ds : List Dc} {vs : List Wd} {xs : List Vg} {n : Nat} (hl : xs.length = n) (h : okB ds vs) (hb : (xs.map Vg.ct).all (bndOk ds) = true) (hn : ∀ b ∈ xs.map Vg.ct, ∀ n ∈ b.ts, ∀ y ∈ n.ws, y < 18446744073709551616) : ∀ pre : List (Fin n), okB ds (bL xs pre vs) := by
  intro pre
  unfold bL
  induction pre generalizing vs with
  | nil => exact h
  | cons x t ih =>
    rw [List.foldl_cons]
    have hm : (vgN xs x).ct ∈ xs.map Vg.ct := by
      have hx : xs[(x : Nat)]? = some (xs[(x : Nat)]'(by rw [hl]; exact x.isLt)) := List.getElem?_eq_getElem _
      refine List.mem_map_of_mem ?_
      have : vgN xs x = xs[(x : Nat)]'(by rw [hl]; exact x.isLt) := by simp [vgN, List.getD, hx]
      rw [this]
      exact List.getElem_mem _
    exact ih (h.step (List.all_eq_true.1 hb _ hm) (hn _ hm))

end Go.Proofs.YtbpodkdlhjgncaaGreatDoor
