/- What the search finds is right, and where it finds none there is none. No program in sight. -/
import Derived.Test.YthoiajpbpoglfaaZKAS
import Derived.Test.YthoiajpbpoglfaaJSQ
namespace Go.Proofs.Ythoiajpbpoglfaa
set_option linter.unusedVariables false
set_option linter.unusedSimpArgs false
open Go.RowKit

/-- No word is barred, and no two nodes of a bar have the same. -/
def CS (xo bd : Nat → List Int) (σ : Nat → Int) : Prop := ∀ v, σ v ≠ -1 → σ v ∉ bd v ∧ ∀ y ∈ xo v, σ y.toNat ≠ σ v
theorem mem_fwN {M : Nat} {xs bd : List Int} {σ : Nat → Int} {x : Int} : x ∈ fwN M xs bd σ ↔ ∃ k : Nat, x = (k : Int) ∧ k < M ∧ frW xs bd σ k = true := by
  unfold fwN
  constructor
  · intro h
    obtain ⟨k, hk, rfl⟩ := List.mem_map.1 h
    obtain ⟨h1, h2⟩ := List.mem_filter.1 hk
    exact ⟨k, rfl, List.mem_range.1 h1, h2⟩
  · rintro ⟨k, rfl, h1, h2⟩
    exact List.mem_map.2 ⟨k, List.mem_filter.2 ⟨List.mem_range.2 h1, h2⟩, rfl⟩
theorem frW_iff {xs bd : List Int} {σ : Nat → Int} {k : Nat} : frW xs bd σ k = true ↔ (k : Int) ∉ bd ∧ ∀ y ∈ xs, σ y.toNat ≠ (k : Int) := by
  unfold frW
  simp only [Bool.and_eq_true, Bool.not_eq_true', decide_eq_false_iff_not, List.all_eq_true, decide_eq_true_eq]

section
variable {xo bd : Nat → List Int}
theorem cs_put (hsym : ∀ (u : Nat) (y : Int), y ∈ xo u → (u : Int) ∈ xo y.toNat ∧ y.toNat ≠ u) {σ : Nat → Int} (h : CS xo bd σ) {v k : Nat} (hk : frW (xo v) (bd v) σ k = true) : CS xo bd (upd σ v (k : Int)) := by
  obtain ⟨h1, h2⟩ := frW_iff.1 hk
  intro u hu
  by_cases e : u = v
  · subst e
    rw [upd_same]
    refine ⟨h1, fun y hy => ?_⟩
    rw [upd_ne _ _ (hsym u y hy).2]
    exact h2 y hy
  · rw [upd_ne _ _ e] at hu ⊢
    obtain ⟨h3, h4⟩ := h u hu
    refine ⟨h3, fun y hy => ?_⟩
    by_cases e2 : y.toNat = v
    · rw [e2, upd_same]
      have h5 := (hsym u y hy).1
      rw [e2] at h5
      have h6 := h2 _ h5
      simp only [Int.toNat_natCast] at h6
      exact fun h7 => h6 h7.symm
    · rw [upd_ne _ _ e2]; exact h4 y hy
theorem tryF_cs {rec : (Nat → Int) → Nat → Nat × (Nat → Int) × Nat} {v : Nat} {σ0 : Nat → Int} {C : (Nat → Int) → Prop} : ∀ (ws : List Int), (∀ x ∈ ws, ∀ m, (rec (upd σ0 v x) m).1 = 2 → (rec (upd σ0 v x) m).2.1 = upd σ0 v x) → (∀ x ∈ ws, ∀ m, (rec (upd σ0 v x) m).1 = 0 → C (rec (upd σ0 v x) m).2.1) → ∀ (σ : Nat → Int) (m : Nat), (∀ x, upd σ v x = upd σ0 v x) → (tryF rec v ws σ m).1 = 0 → C (tryF rec v ws σ m).2.1
  | [], _, _, σ, m, _, h => by cases h
  | x :: ws, hN, h0, σ, m, hσ, h => by
    unfold tryF at h ⊢
    rw [hσ x] at h ⊢
    split at h
    · rename_i h2
      rw [if_pos h2]
      refine tryF_cs ws (fun y hy => hN y (List.mem_cons_of_mem _ hy)) (fun y hy => h0 y (List.mem_cons_of_mem _ hy)) _ _ (fun z => ?_) h
      rw [hN x (by simp) m h2, upd_upd]
    · rename_i h2
      rw [if_neg h2]
      exact h0 x (by simp) m h
theorem tryF_full {rec : (Nat → Int) → Nat → Nat × (Nat → Int) × Nat} {v : Nat} {σ0 : Nat → Int} {t0 : Int} (hok : ∀ m, (rec (upd σ0 v t0) m).1 ≠ 2) : ∀ (ws : List Int), t0 ∈ ws → (∀ x ∈ ws, ∀ m, (rec (upd σ0 v x) m).1 = 2 → (rec (upd σ0 v x) m).2.1 = upd σ0 v x) → ∀ (σ : Nat → Int) (m : Nat), (∀ x, upd σ v x = upd σ0 v x) → (tryF rec v ws σ m).1 ≠ 2
  | [], hm, _, σ, m, _ => by cases hm
  | x :: ws, hm, hN, σ, m, hσ => by
    unfold tryF
    rw [hσ x]
    split
    · rename_i h2
      rcases List.mem_cons.1 hm with e | hm
      · subst e; exact absurd h2 (hok m)
      · refine tryF_full hok ws hm (fun y hy => hN y (List.mem_cons_of_mem _ hy)) _ _ (fun z => ?_)
        rw [hN x (by simp) m h2, upd_upd]
    · rename_i h2
      exact h2
variable {ks : List Int}
theorem none_at {fw : (Nat → Int) → Nat → List Int} {most v : Nat} {t : List Nat} (hnd : (v :: t).Nodup) {σ : Nat → Int} (hm : ∀ u ∈ v :: t, σ u = -1) (x : Int) (m : Nat) (h : (visF fw most t (upd σ v x) m).1 = 2) : (visF fw most t (upd σ v x) m).2.1 = upd σ v x :=
  visF_none fw most t _ m (List.nodup_cons.1 hnd).2 (fun u hu => by
    rw [upd_ne _ _ (fun e => (List.nodup_cons.1 hnd).1 (by rw [← e]; exact hu))]
    exact hm u (List.mem_cons_of_mem _ hu)) h
theorem visF_cs (hsym : ∀ (u : Nat) (y : Int), y ∈ xo u → (u : Int) ∈ xo y.toNat ∧ y.toNat ≠ u) (most : Nat) : ∀ (l : List Nat) (σ : Nat → Int) (m : Nat), l.Nodup → (∀ v ∈ l, σ v = -1) → CS xo bd σ → (visF (fwP ks xo bd) most l σ m).1 = 0 → CS xo bd (visF (fwP ks xo bd) most l σ m).2.1
  | [], σ, m, _, _, hc, _ => hc
  | v :: t, σ, m, hnd, hm, hc, h => by
    unfold visF at h ⊢
    split at h
    · cases h
    · rename_i h1
      rw [if_neg h1]
      refine tryF_cs (C := CS xo bd) _ (fun x _ m h2 => none_at hnd hm x m h2) (fun x hx m h2 => ?_) σ (m + 1) (fun _ => rfl) h
      obtain ⟨k, rfl, -, hk⟩ := mem_fwN.1 hx
      exact visF_cs hsym most t _ m (List.nodup_cons.1 hnd).2 (fun u hu => by
        rw [upd_ne _ _ (fun e => (List.nodup_cons.1 hnd).1 (by rw [← e]; exact hu))]
        exact hm u (List.mem_cons_of_mem _ hu)) (cs_put hsym hc hk) h2
theorem visF_full {fw : (Nat → Int) → Nat → List Int} {τ : Nat → Int} (most : Nat) : ∀ (l : List Nat) (σ : Nat → Int) (m : Nat), (∀ v ∈ l, ∀ σ : Nat → Int, (∀ u, σ u = -1 ∨ σ u = τ u) → τ v ∈ fw σ v) → l.Nodup → (∀ v ∈ l, σ v = -1) → (∀ u, σ u = -1 ∨ σ u = τ u) → (visF fw most l σ m).1 ≠ 2
  | [], σ, m, _, _, _, _ => by intro h; cases h
  | v :: t, σ, m, hτ, hnd, hm, hs => by
    unfold visF
    split
    · intro h; cases h
    · refine tryF_full (σ0 := σ) (t0 := τ v) (fun m => ?_) _ (hτ v (by simp) σ hs) (fun x _ m h2 => none_at hnd hm x m h2) σ (m + 1) (fun _ => rfl)
      refine visF_full most t _ m (fun u hu => hτ u (List.mem_cons_of_mem _ hu)) (List.nodup_cons.1 hnd).2 (fun u hu => ?_) (fun u => ?_)
      · rw [upd_ne _ _ (fun e => (List.nodup_cons.1 hnd).1 (by rw [← e]; exact hu))]
        exact hm u (List.mem_cons_of_mem _ hu)
      · by_cases e : u = v
        · subst e; rw [upd_same]; exact .inr rfl
        · rw [upd_ne _ _ e]; exact hs u
theorem flF_cs (hsym : ∀ (u : Nat) (y : Int), y ∈ xo u → (u : Int) ∈ xo y.toNat ∧ y.toNat ≠ u) {σ : Nat → Int} {n : Nat} (hc : CS xo bd σ) (hf : ∀ k, k < n → σ k = -1 → ∀ τ, fwP ks xo bd τ k ≠ []) : ∀ k, k ≤ n → CS xo bd (flF (fwP ks xo bd) σ k)
  | 0, _ => hc
  | k + 1, hk => by
    have ih := flF_cs hsym hc hf k (by omega)
    unfold flF
    split
    · rename_i h1
      have h2 := hf k (by omega) (by rw [← flF_far (fw := fwP ks xo bd) (σ := σ) (Nat.le_refl k)]; exact h1) (flF (fwP ks xo bd) σ k)
      cases h3 : fwP ks xo bd (flF (fwP ks xo bd) σ k) k with
      | nil => exact absurd h3 h2
      | cons x t =>
        have hx : x ∈ fwP ks xo bd (flF (fwP ks xo bd) σ k) k := by rw [h3]; simp
        obtain ⟨j, rfl, -, hj⟩ := mem_fwN.1 hx
        exact cs_put hsym ih hj
    · exact ih
end

section
variable {ks : List Int} {bs : List Yc} {most : Nat}
theorem xoG_sym (hg : graphR ks bs = true) (u : Nat) (y : Int) (hy : y ∈ xoG bs u) : (u : Int) ∈ xoG bs y.toNat ∧ y.toNat ≠ u := by
  have h3 := (graph_good hg).2.2
  have hr := xoG_range hg u y hy
  obtain ⟨s, hs, h1, h2⟩ := (mem_xoF (fun s hs => (h3 s hs).1) u y).1 hy
  refine ⟨(mem_xoF (fun s hs => (h3 s hs).1) _ _).2 ⟨s, hs, h1, ?_⟩, by omega⟩
  omega
theorem fin_cs (hg : graphR ks bs = true) (h0 : (srcR ks bs most).1 = 0) : CS (xoG bs) (bdG bs) (finR ks bs most) :=
  flF_cs (ks := ks) (n := ks.length) (xoG_sym hg) (visF_cs (ks := ks) (xoG_sym hg) most (narN ks (crG bs) ks.length) (fun _ => -1) 0 (narN_nodup _ _ _) (fun _ _ => rfl) (fun v h => absurd rfl h) h0) (src_left hg h0) ks.length (Nat.le_refl _)

theorem wdAt_wct {τ : Nat → Int} {n i : Nat} (h : i < n) : wdAt (wct ks τ n) i = (ks.getD i 0, numW (ks.getD i 0) (τ i)) := by
  unfold wdAt wct
  simp [List.getD, h]
theorem numW_right {V x : Int} (h1 : 1 ≤ V) (h2 : V ≤ 4096) (h3 : 0 ≤ x) (h4 : x.toNat < 2 ^ V.toNat) : rightB V (numW V x) = true := by
  have e1 : numW V x = pack (nBits x.toNat V.toNat) := by
    unfold numW ofR
    rw [if_pos ⟨h1, h2, h3, h4⟩]
  have h9 := pack_right (nBits x.toNat V.toNat) (nBits_le _ _) (by rw [nBits_len]; omega) (by rw [nBits_len]; omega)
  rw [nBits_len] at h9
  rw [e1]
  rwa [show ((V.toNat : Nat) : Int) = V by omega] at h9
/-- What is found is right. -/
theorem col_true (hg : graphR ks bs = true) (h0 : (srcR ks bs most).1 = 0) : cokR ks bs (wct ks (finR ks bs most) ks.length) = true := by
  obtain ⟨g1, g2, g3, g4⟩ := graphR_parts hg
  have hgd := fun s hs => ((graph_good hg).2.2 s hs).1
  have hok := fin_good (ks := ks) (bs := bs) (most := most) hg h0
  have hcs := fin_cs hg h0
  generalize finR ks bs most = τ at *
  have hl : (wct ks τ ks.length).length = ks.length := by simp [wct]
  refine cokR_good hg hl (fitR_iff.2 fun i hi => ?_) fun k s hs => ?_
  · rw [hl] at hi
    rw [wdAt_wct hi]
    have h1 := g3 i hi
    have h2 := hok i hi
    exact ⟨numW_right h1.1 h1.2 h2.1 h2.2.2, rfl⟩
  · obtain ⟨i, hi, hin, hc⟩ := brOk_parts (g4 k s hs)
    have hm := List.mem_of_getElem? hs
    have h1 := g3 i hin
    have h2 := hok i hin
    obtain ⟨a, ha⟩ : ∃ a : Nat, τ i = (a : Int) := ⟨(τ i).toNat, by have := h2.1; omega⟩
    have h3 : a < 1024 ∧ a < 2 ^ (ks.getD i 0).toNat := by
      unfold okX at h2
      rw [ha] at h2
      simp only [Int.toNat_natCast] at h2
      exact ⟨by omega, h2.2.2⟩
    have hci := hcs i (by rw [ha]; omega)
    rw [Bool.eq_false_iff]
    intro hb
    unfold brk at hb
    rw [decide_eq_true_eq, hi] at hb
    simp only [Int.toNat_natCast] at hb
    rw [wdAt_wct hin, ha] at hb
    rcases hc with ⟨c1, c2, c3⟩ | ⟨j, c1, c2, c3⟩
    · rw [if_pos c1] at hb
      have hw : s.ws = numW (ks.getD i 0) (a : Int) := (congrArg Prod.snd hb).symm
      have hl2 : (s.ws.length : Int) = (ks.getD i 0 + 63) / 64 := by
        rw [← c3]
        unfold rightB at c2
        simp only [Bool.and_eq_true, decide_eq_true_eq] at c2
        exact c2.1.2
      have h5 := (numW_sm h1.1 h1.2 h3.1 h3.2 hl2).1 hw
      exact hci.1 (by rw [ha]; exact (mem_bdF hgd i _).2 ⟨s, hm, c1, hi, h5⟩)
    · rw [if_neg (by omega), c1] at hb
      simp only [Int.toNat_natCast] at hb
      rw [wdAt_wct c2, c3] at hb
      have h6 := hok j c2
      obtain ⟨b, hb2⟩ : ∃ b : Nat, τ j = (b : Int) := ⟨(τ j).toNat, by have := h6.1; omega⟩
      unfold okX at h6
      rw [hb2, c3] at h6
      simp only [Int.toNat_natCast] at h6
      rw [hb2] at hb
      have h7 := congrArg (fun p : Int × List Nat => p.2.getD 0 0) hb
      simp only [] at h7
      rw [numW_get h1.1 h1.2 (by omega) h3.2, numW_get h1.1 h1.2 (by omega) h6.2.2] at h7
      have h8 := hci.2 (j : Int) ((mem_xoF hgd i _).2 ⟨s, hm, by omega, .inl ⟨hi, by omega⟩⟩)
      simp only [Int.toNat_natCast] at h8
      exact h8 (by rw [ha, hb2, h7])
/-- Where none is found there is none. -/
theorem col_false (hg : graphR ks bs = true) (h2 : (srcR ks bs most).1 = 2) {τ : Nat → Int} (hτ : ∀ i, i < ks.length → 0 ≤ τ i ∧ (τ i).toNat < 2 ^ (ks.getD i 0).toNat) : cokR ks bs (wct ks τ ks.length) = false := by
  rw [Bool.eq_false_iff]
  intro hc
  obtain ⟨g1, g2, g3, g4⟩ := graphR_parts hg
  have hgd := fun s hs => ((graph_good hg).2.2 s hs).1
  unfold cokR at hc
  simp only [Bool.and_eq_true, List.all_eq_true, Bool.not_eq_true'] at hc
  have hbr := hc.2
  clear hc
  refine visF_full (fw := fwP ks (xoG bs) (bdG bs)) (τ := τ) most (narN ks (crG bs) ks.length) (fun _ => -1) 0 (fun v hv σ hs => ?_) (narN_nodup _ _ _) (fun _ _ => rfl) (fun _ => .inl rfl) h2
  obtain ⟨hvn, hnar⟩ := narN_mem.1 hv
  unfold isNar at hnar
  rw [Bool.and_eq_true, decide_eq_true_eq] at hnar
  have h10 := hnar.1
  obtain ⟨t1, t2⟩ := hτ v hvn
  obtain ⟨a, ha⟩ : ∃ a : Nat, τ v = (a : Int) := ⟨(τ v).toNat, by omega⟩
  rw [ha] at t2
  simp only [Int.toNat_natCast] at t2
  have h1 := g3 v hvn
  have ha10 : a < 1024 := Nat.lt_of_lt_of_le t2 (Nat.le_trans (Nat.pow_le_pow_right (by omega) (show (ks.getD v 0).toNat ≤ 10 by omega)) (by decide))
  refine mem_fwN.2 ⟨a, ha, by rw [show min (ks.getD v 0) 10 = ks.getD v 0 by omega]; exact t2, frW_iff.2 ⟨fun hm => ?_, fun y hy e => ?_⟩⟩
  · obtain ⟨s, hs2, c1, c2, c3⟩ := (mem_bdF hgd v _).1 hm
    obtain ⟨k, hk⟩ := List.mem_iff_getElem?.1 hs2
    obtain ⟨i, hi, hin, hcc⟩ := brOk_parts (g4 k s hk)
    have hiv : i = v := by omega
    subst hiv
    rcases hcc with ⟨-, d2, d3⟩ | ⟨j, d1, -⟩
    · have hl2 : (s.ws.length : Int) = (ks.getD i 0 + 63) / 64 := by
        rw [← d3]
        unfold rightB at d2
        simp only [Bool.and_eq_true, decide_eq_true_eq] at d2
        exact d2.1.2
      have hw := (numW_sm h1.1 h1.2 ha10 t2 hl2).2 c3
      have h9 := hbr s hs2
      unfold brk at h9
      rw [decide_eq_false_iff_not, c2] at h9
      simp only [Int.toNat_natCast] at h9
      rw [if_pos c1, wdAt_wct hin, ha, ← hw, ← d3] at h9
      exact h9 rfl
    · omega
  · have hr := xoG_range hg v y hy
    obtain ⟨j, rfl⟩ : ∃ j : Nat, y = (j : Int) := ⟨y.toNat, by omega⟩
    simp only [Int.toNat_natCast] at e
    have hj : τ j = (a : Int) := by
      rcases hs j with h | h
      · omega
      · rw [← h]; exact e
    obtain ⟨s, hs2, c1, c2⟩ := (mem_xoF hgd v _).1 hy
    obtain ⟨k, hk⟩ := List.mem_iff_getElem?.1 hs2
    obtain ⟨i, hi, hin, hcc⟩ := brOk_parts (g4 k s hk)
    rcases hcc with ⟨d1, -⟩ | ⟨j2, d1, d2, d3⟩
    · exact absurd d1 c1
    have h9 := hbr s hs2
    unfold brk at h9
    rw [decide_eq_false_iff_not, hi, d1] at h9
    simp only [Int.toNat_natCast] at h9
    rw [if_neg (by omega), wdAt_wct hin, wdAt_wct d2, d3] at h9
    rcases c2 with ⟨c3, c4⟩ | ⟨c3, c4⟩
    · have e1 : i = v := by omega
      have e2 : j2 = j := by omega
      rw [e1, e2, ha, hj] at h9
      exact h9 rfl
    · have e1 : i = j := by omega
      have e2 : j2 = v := by omega
      rw [e1, e2, ha, hj] at h9
      exact h9 rfl
end

end Go.Proofs.Ythoiajpbpoglfaa
