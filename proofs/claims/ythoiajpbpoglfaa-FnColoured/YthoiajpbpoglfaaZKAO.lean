/- Several texts in one. -/
import Derived.Test.YthoiajpbpoglfaaHTM
import Derived.Test.YthoiajpbpoglfaaZKAI

/- visit: the narrow nodes from one on. -/
namespace Go.Proofs.Ythoiajpbpoglfaa
set_option linter.unusedVariables false
set_option linter.unusedSimpArgs false
open Go.RowKit Go.Shelf

/-- The free words of a node, by what the nodes have. -/
def fwP (ks : List Int) (xo bd : Nat → List Int) (σ : Nat → Int) (v : Nat) : List Int := fwN (2 ^ (min (ks.getD v 0) 10).toNat) (xo v) (bd v) σ

theorem visit_any {w0 : World} {P0 H K n vc g cp m nc : Nat} {va na : Option Addr} {nr : List Int} {most : Nat} {ov mv : Nat → Value} {cr : Nat → Int} {xo bd : Nat → List Int} (ks : List Int) (hks : ks.length = n) (hn2 : n ≤ 200) (hkr : ∀ x ∈ ks, 1 ≤ x ∧ x ≤ 4096) (hr : RdI w0 va ks)
    (hK : K ≤ 1048576) (hm : nr.length = m) (hm2 : m ≤ 200) (hmost : most ≤ 20000) (hxo : ∀ i, i < n → ∀ y ∈ xo i, 0 ≤ y ∧ y < (n : Int) ∧ y ≠ (i : Int)) :
    ∀ (l : List Nat) (k : Nat), k + l.length = m → (∀ j, j < l.length → nr[k + j]? = some ((l.getD j 0 : Nat) : Int)) → (∀ v ∈ l, v < n) → l.Nodup → ∀ (σ : Nat → Int) (q : Nat) (w : World), q ≤ most → (∀ v ∈ l, σ v = -1) →
      Pt w0 w P0 H K va n vc (.slice na m nc) (.slice (some ⟨g, 0, none⟩) n cp) nr (lsOf σ n) (q : Int) (most : Int) ov mv cr xo bd →
      Calls Try.prog 35 #[.pointer (some ⟨P0, 0, none⟩), .int .i64 (k : Int)] w (RetV w0 w P0 H K va n vc (.slice na m nc) g cp nr most ov mv cr xo bd (visF (fwP ks xo bd) most l σ q))
  | [], k, hk, _, _, _, σ, q, w, hq, _, h => by
    simp at hk
    subst hk
    exact visit_end (by omega) h
  | v :: t, k, hk, hv, hl, hnd, σ, q, w, hq, hno, h => by
    by_cases e : q = most
    · subst e
      have e1 : visF (fwP ks xo bd) q (v :: t) σ q = (3, σ, q) := by unfold visF; rw [if_pos rfl]
      rw [e1]
      exact visit_many (by omega) (by simp at hk; omega) (by omega) h
    · refine visit_step (most := most) ks hks hn2 hkr hr hK hm (by simp at hk; omega) hm2 (by omega) hmost v t (by have := hv 0 (by simp); simpa using this) (hl v (by simp)) hno hnd hxo _ (fun σ => rfl) h ?_
      intro τ p u hp hτ hu
      exact visit_any ks hks hn2 hkr hr hK hm hm2 hmost hxo t (k + 1) (by simp at hk; omega) (fun j hj => by
        have := hv (j + 1) (by simp; omega)
        rw [show k + 1 + j = k + (j + 1) by omega, this]
        rfl) (fun z hz => hl z (List.mem_cons_of_mem _ hz)) (List.nodup_cons.1 hnd).2 τ p u hp hτ hu

end Go.Proofs.Ythoiajpbpoglfaa

/- A node whose crowd is small has a free word; the words that are left are filled in. No program in sight. -/
namespace Go.Proofs.Ythoiajpbpoglfaa
set_option linter.unusedVariables false
set_option linter.unusedSimpArgs false
open Go.RowKit

theorem smW_one (ws : List Nat) : (smW ws).toList.length ≤ 1 := by
  unfold smW
  split <;> simp

theorem len_step : ∀ (ys : List Yc) (xo bd : Nat → List Int) (cr : Nat → Int), (∀ i, ((xo i).length : Int) + ((bd i).length : Int) ≤ cr i) → ∀ i, (((ys.foldl stepX xo) i).length : Int) + (((ys.foldl stepD bd) i).length : Int) ≤ (ys.foldl stepC cr) i
  | [], _, _, _, h, i => h i
  | s :: t, xo, bd, cr, h, i => by
    rw [List.foldl_cons, List.foldl_cons, List.foldl_cons]
    refine len_step t _ _ _ (fun j => ?_) i
    have h1 := h j
    have hs := smW_one s.ws
    by_cases e : s.lo = -1
    · rw [show stepX xo s = _ from if_pos e, show stepD bd s = _ from if_pos e, show stepC cr s = _ from if_pos e]
      unfold upd
      by_cases e1 : j = s.v.toNat
      · rw [if_pos e1, if_pos e1, ← e1, List.length_append]; omega
      · rw [if_neg e1, if_neg e1]; exact h1
    · rw [show stepX xo s = _ from if_neg e, show stepD bd s = _ from if_neg e, show stepC cr s = _ from if_neg e]
      unfold upd
      by_cases e1 : j = s.lo.toNat
      · rw [if_pos e1, if_pos e1, ← e1]
        by_cases e2 : j = s.v.toNat
        · rw [if_pos e2, if_pos e2, ← e2]; simp; omega
        · rw [if_neg e2, if_neg e2]; simp; omega
      · rw [if_neg e1, if_neg e1]
        by_cases e2 : j = s.v.toNat
        · rw [if_pos e2, if_pos e2, ← e2]; simp; omega
        · rw [if_neg e2, if_neg e2]; exact h1
theorem len_crowd (ys : List Yc) (i : Nat) : ((xoF ys i).length : Int) + ((bdF ys i).length : Int) ≤ crF ys i := len_step ys _ _ _ (fun _ => by simp) i

theorem crF_bars {n : Nat} {ys : List Yc} (h : ∀ s ∈ ys, gdB n s) (i : Nat) : crF ys i ≤ ys.length := by
  have h1 := crF_sum i ys (fun _ => 0)
  rw [show crF ys i = _ from h1]
  clear h1
  induction ys with
  | nil => simp
  | cons s t ih =>
    have h2 := ih (fun u hu => h u (List.mem_cons_of_mem _ hu))
    have h3 : cntC i s ≤ 1 := by
      obtain ⟨⟨a1, a2⟩, a3⟩ := h s (by simp)
      unfold cntC
      rcases a3 with a3 | ⟨b1, b2, b3, -⟩
      · rw [if_pos a3]; split <;> omega
      · rw [if_neg (by omega)]
        by_cases e1 : s.v.toNat = i <;> by_cases e2 : s.lo.toNat = i
        · omega
        · rw [if_pos e1, if_neg e2]; omega
        · rw [if_neg e1, if_pos e2]; omega
        · rw [if_neg e1, if_neg e2]; omega
    simp only [List.map_cons, List.sum_cons, List.length_cons] at *
    push_cast
    omega

/-- More words than forbid: one is free. -/
theorem fw_some {M : Nat} {xs bd : List Int} {σ : Nat → Int} (h : xs.length + bd.length < M) : fwN M xs bd σ ≠ [] := by
  intro h0
  have h1 : ∀ x ∈ (List.range M).map (fun (x : Nat) => (x : Int)), x ∈ bd ++ xs.map (fun y => σ y.toNat) := by
    intro x hx
    obtain ⟨k, hk, rfl⟩ := List.mem_map.1 hx
    have h2 : (List.range M).filter (fun x => frW xs bd σ x) = [] := List.map_eq_nil_iff.1 h0
    have h3 := List.filter_eq_nil_iff.1 h2 k hk
    unfold frW at h3
    simp only [Bool.and_eq_true, Bool.not_eq_true', decide_eq_false_iff_not, List.all_eq_true, decide_eq_true_eq] at h3
    rw [List.mem_append]
    by_cases e : (k : Int) ∈ bd
    · exact .inl e
    · refine .inr ?_
      apply Classical.byContradiction
      intro h4
      exact h3 ⟨e, fun y hy e2 => h4 (List.mem_map.2 ⟨y, hy, e2⟩)⟩
  have h2 := nodup_sub_len _ _ (List.Pairwise.map (fun (x : Nat) => (x : Int)) (fun a b h e => h (by omega)) List.nodup_range) h1
  simp at h2
  omega

/-- The words filled in, one node after another. -/
def flF (fw : (Nat → Int) → Nat → List Int) (σ : Nat → Int) : Nat → Nat → Int
  | 0 => σ
  | k + 1 => if flF fw σ k k = -1 then upd (flF fw σ k) k ((fw (flF fw σ k) k).getD 0 (-1)) else flF fw σ k
theorem flF_far {fw : (Nat → Int) → Nat → List Int} {σ : Nat → Int} {i : Nat} : ∀ {k : Nat}, k ≤ i → flF fw σ k i = σ i
  | 0, _ => rfl
  | k + 1, h => by
    unfold flF
    split
    · rw [upd_ne _ _ (by omega)]; exact flF_far (by omega)
    · exact flF_far (by omega)
theorem flF_keep {fw : (Nat → Int) → Nat → List Int} {σ : Nat → Int} {i : Nat} (hi : σ i ≠ -1) : ∀ {k : Nat}, flF fw σ k i = σ i
  | 0 => rfl
  | k + 1 => by
    have h1 : flF fw σ k i = σ i := flF_keep hi
    unfold flF
    split
    · rename_i h2
      rw [upd_ne _ _ (fun e => by subst e; exact hi (h1.symm.trans h2))]; exact h1
    · exact h1

/-- Each narrow node has a word where all have one. -/
theorem tryF_found {rec : (Nat → Int) → Nat → Nat × (Nat → Int) × Nat} {v : Nat} {I : (Nat → Int) → Prop} (hr : ∀ σ m x, (rec (upd σ v x) m).1 = 0 → x ≠ -1 → I (rec (upd σ v x) m).2.1) : ∀ (l : List Int) (σ : Nat → Int) (m : Nat), (∀ x ∈ l, x ≠ -1) → (tryF rec v l σ m).1 = 0 → I (tryF rec v l σ m).2.1
  | [], σ, m, _, h => by cases h
  | x :: l, σ, m, hx, h => by
    unfold tryF at h ⊢
    split at h
    · rename_i h1
      rw [if_pos h1]
      exact tryF_found hr l _ _ (fun y hy => hx y (List.mem_cons_of_mem _ hy)) h
    · rename_i h1
      rw [if_neg h1]
      exact hr _ _ _ h (hx x (by simp))
theorem visF_found (fw : (Nat → Int) → Nat → List Int) (hfw : ∀ σ v, ∀ x ∈ fw σ v, x ≠ -1) (most : Nat) : ∀ (l : List Nat) (σ : Nat → Int) (m : Nat), l.Nodup → (visF fw most l σ m).1 = 0 → ∀ u ∈ l, (visF fw most l σ m).2.1 u ≠ -1
  | [], σ, m, _, _, u, hu => by cases hu
  | v :: t, σ, m, hn, h, u, hu => by
    obtain ⟨hv, ht⟩ := List.nodup_cons.1 hn
    unfold visF at h ⊢
    split at h
    · cases h
    · rename_i h1
      rw [if_neg h1]
      refine tryF_found (I := fun τ => ∀ u ∈ v :: t, τ u ≠ -1) (fun σ m x h2 hx u hu => ?_) _ σ (m + 1) (hfw σ v) h u hu
      rcases List.mem_cons.1 hu with rfl | hu
      · rw [visF_far fw most t _ _ hv, upd_same]; exact hx
      · exact visF_found fw hfw most t _ _ ht h2 u hu
theorem fwN_pos {M : Nat} {xs bd : List Int} {σ : Nat → Int} {x : Int} (h : x ∈ fwN M xs bd σ) : 0 ≤ x ∧ x < M := by
  unfold fwN at h
  obtain ⟨k, hk, rfl⟩ := List.mem_map.1 h
  have := List.mem_range.1 (List.mem_filter.1 hk).1
  omega

end Go.Proofs.Ythoiajpbpoglfaa
