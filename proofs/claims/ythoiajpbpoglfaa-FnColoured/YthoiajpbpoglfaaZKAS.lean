/- Several texts in one. -/
import Derived.Test.YthoiajpbpoglfaaZKAQ
import Derived.Test.YthoiajpbpoglfaaZKAQ
import Derived.Test.YthoiajpbpoglfaaZKAD
import Derived.Test.YthoiajpbpoglfaaZKAP

/- What both Colour answer. No program in sight. -/
namespace Go.Proofs.Ythoiajpbpoglfaa
set_option linter.unusedVariables false
set_option linter.unusedSimpArgs false
open Go.RowKit

/-- The nodes that are tried. -/
def narN (ks : List Int) (cr : Nat → Int) (n : Nat) : List Nat := (List.range n).filter (isNar ks cr)
theorem narT_narN (ks : List Int) (cr : Nat → Int) (n : Nat) : narT ks cr n = (narN ks cr n).map fun (i : Nat) => (i : Int) := rfl
theorem narN_nodup (ks : List Int) (cr : Nat → Int) (n : Nat) : (narN ks cr n).Nodup := List.Pairwise.filter _ List.nodup_range
theorem narN_mem {ks : List Int} {cr : Nat → Int} {n v : Nat} : v ∈ narN ks cr n ↔ v < n ∧ isNar ks cr v = true := by simp [narN]
theorem narT_at {ks : List Int} {cr : Nat → Int} {n j : Nat} (h : j < (narN ks cr n).length) : (narT ks cr n)[0 + j]? = some (((narN ks cr n).getD j 0 : Nat) : Int) := by
  rw [narT_narN, Nat.zero_add, List.getElem?_map, List.getElem?_eq_getElem h, List.getD, List.getElem?_eq_getElem h]
  rfl

/-- A word that a node can have. -/
def okX (ks : List Int) (v : Nat) (x : Int) : Prop := 0 ≤ x ∧ x < 1024 ∧ x.toNat < 2 ^ (ks.getD v 0).toNat
theorem fwP_ok {ks : List Int} {xo bd : Nat → List Int} {σ : Nat → Int} {v : Nat} {x : Int} (h : x ∈ fwP ks xo bd σ v) : okX ks v x := by
  have h1 := fwN_pos h
  have h2 : 2 ^ (min (ks.getD v 0) 10).toNat ≤ 2 ^ (ks.getD v 0).toNat := Nat.pow_le_pow_right (by omega) (by omega)
  have h3 : 2 ^ (min (ks.getD v 0) 10).toNat ≤ 1024 := Nat.le_trans (Nat.pow_le_pow_right (by omega) (show (min (ks.getD v 0) 10).toNat ≤ 10 by omega)) (by decide)
  generalize 2 ^ (min (ks.getD v 0) 10).toNat = A at *
  unfold okX
  generalize 2 ^ (ks.getD v 0).toNat = B at *
  omega
theorem tryF_good {rec : (Nat → Int) → Nat → Nat × (Nat → Int) × Nat} {v : Nat} {I : (Nat → Int) → Prop} (h0 : ∀ σ, I σ → I (upd σ v (-1))) (hr : ∀ σ m, I σ → I (rec σ m).2.1) : ∀ (l : List Int) (σ : Nat → Int) (m : Nat), (∀ x ∈ l, ∀ σ, I σ → I (upd σ v x)) → I σ → I (tryF rec v l σ m).2.1
  | [], σ, m, _, h => h0 σ h
  | x :: l, σ, m, hx, h => by
    unfold tryF
    split
    · exact tryF_good h0 hr l _ _ (fun y hy => hx y (List.mem_cons_of_mem _ hy)) (hr _ _ (hx x (by simp) σ h))
    · exact hr _ _ (hx x (by simp) σ h)
theorem visF_good {fw : (Nat → Int) → Nat → List Int} {ok : Nat → Int → Prop} (hfw : ∀ σ v, ∀ x ∈ fw σ v, ok v x) (most : Nat) : ∀ (l : List Nat) (σ : Nat → Int) (m : Nat), (∀ i, σ i = -1 ∨ ok i (σ i)) → ∀ i, (visF fw most l σ m).2.1 i = -1 ∨ ok i ((visF fw most l σ m).2.1 i)
  | [], σ, m, h => h
  | v :: t, σ, m, h => by
    have up : ∀ (x : Int), (x = -1 ∨ ok v x) → ∀ σ : Nat → Int, (∀ i, σ i = -1 ∨ ok i (σ i)) → ∀ i, upd σ v x i = -1 ∨ ok i (upd σ v x i) := fun x hx σ hi i => by
      unfold upd
      by_cases e : i = v
      · subst e; rw [if_pos rfl]; exact hx
      · rw [if_neg e]; exact hi i
    unfold visF
    split
    · exact h
    · exact tryF_good (I := fun τ => ∀ i, τ i = -1 ∨ ok i (τ i)) (fun σ hi => up (-1) (.inl rfl) σ hi) (fun σ m hi => visF_good hfw most t σ m hi) _ σ (m + 1) (fun x hx σ' hi => up x (.inr (hfw σ v x hx)) σ' hi) h
theorem flF_good {fw : (Nat → Int) → Nat → List Int} {ok : Nat → Int → Prop} (hfw : ∀ σ v, ∀ x ∈ fw σ v, ok v x) {σ : Nat → Int} {n : Nat} (hs : ∀ i, σ i = -1 ∨ ok i (σ i)) (hf : ∀ k, k < n → σ k = -1 → ∀ τ, fw τ k ≠ []) : ∀ k, k ≤ n → ∀ i, i < k → ok i (flF fw σ k i)
  | 0, _, i, hi => by omega
  | k + 1, hk, i, hi => by
    unfold flF
    split
    · rename_i h1
      by_cases e : i = k
      · subst e
        rw [upd_same]
        have h2 := hf i (by omega) (by rw [← flF_far (fw := fw) (σ := σ) (Nat.le_refl i)]; exact h1) (flF fw σ i)
        cases h3 : fw (flF fw σ i) i with
        | nil => exact absurd h3 h2
        | cons x t => exact hfw (flF fw σ i) i x (by rw [h3]; simp)
      · rw [upd_ne _ _ e]; exact flF_good hfw hs hf k (by omega) i (by omega)
    · rename_i h1
      by_cases e : i = k
      · subst e
        have h2 : flF fw σ i i = σ i := flF_far (Nat.le_refl i)
        rw [h2] at h1 ⊢
        rcases hs i with h3 | h3
        · exact absurd h3 h1
        · exact h3
      · exact flF_good hfw hs hf k (by omega) i (by omega)

section
variable {ks : List Int} {bs : List Yc}
theorem setY_len (xs : List Yc) : ∀ l, (setY l xs).length ≤ l.length + xs.length := by
  induction xs with
  | nil => intro l; simp [setY]
  | cons x t ih =>
    intro l
    have h1 := ih (putY l x)
    have h2 := putY_len l x
    show (setY (putY l x) t).length ≤ _
    simp only [List.length_cons]
    omega
/-- A node that isn't tried has a free word, whatever the others have. -/
theorem fill_free (hg : graphR ks bs = true) {v : Nat} (hv : isNar ks (crG bs) v = false) (τ : Nat → Int) : fwP ks (xoG bs) (bdG bs) τ v ≠ [] := by
  refine fw_some ?_
  obtain ⟨-, h2, h3⟩ := graph_good hg
  have hD : ∀ s ∈ setY [] (bs.map nrmC), gdB ks.length s := fun s hs => by
    rcases (setY_mem _ _ _).1 hs with h0 | h0
    · cases h0
    · obtain ⟨u, hu, rfl⟩ := List.mem_map.1 h0
      exact (gdB_nrm (h3 u hu).1).1
  have h4 := len_crowd (setY [] (bs.map nrmC)) v
  have h5 := crF_bars hD v
  have h6 := setY_len (bs.map nrmC) []
  rw [List.length_map, List.length_nil] at h6
  unfold xoG bdG
  unfold isNar crG at hv
  by_cases e : ks.getD v 0 ≤ 10
  · rw [decide_eq_true e, Bool.true_and, decide_eq_false_iff_not] at hv
    rw [show min (ks.getD v 0) 10 = ks.getD v 0 by omega]
    generalize 2 ^ (ks.getD v 0).toNat = M at *
    omega
  · rw [show min (ks.getD v 0) 10 = 10 by omega]
    have : (2 : Nat) ^ (10 : Int).toNat = 1024 := by decide
    rw [this]
    omega
theorem xoG_range (hg : graphR ks bs = true) (i : Nat) (y : Int) (hy : y ∈ xoG bs i) : 0 ≤ y ∧ y < (ks.length : Int) ∧ y ≠ (i : Int) := by
  obtain ⟨-, -, h3⟩ := graph_good hg
  obtain ⟨s, hs, h1, h2⟩ := (mem_xoF (fun s hs => (h3 s hs).1) i y).1 hy
  obtain ⟨⟨a1, a2⟩, a3⟩ := (h3 s hs).1
  omega
end

/-- The search, and what Colour answers: the words, the visits, the code. -/
def srcR (ks : List Int) (bs : List Yc) (most : Nat) : Nat × (Nat → Int) × Nat := visF (fwP ks (xoG bs) (bdG bs)) most (narN ks (crG bs) ks.length) (fun _ => -1) 0
def finR (ks : List Int) (bs : List Yc) (most : Nat) : Nat → Int := flF (fwP ks (xoG bs) (bdG bs)) (srcR ks bs most).2.1 ks.length
def colR (ks : List Int) (bs : List Yc) (most : Int) : List (Int × List Nat) × Int × Int :=
  if graphR ks bs = true ∧ 0 ≤ most ∧ most ≤ 20000 then
    (if (srcR ks bs most.toNat).1 = 0 then (wct ks (finR ks bs most.toNat) ks.length, ((srcR ks bs most.toNat).2.2 : Int), 0) else ([], ((srcR ks bs most.toNat).2.2 : Int), ((srcR ks bs most.toNat).1 : Int)))
  else ([], -1, 1)

section
variable {ks : List Int} {bs : List Yc} {most : Nat}
/-- Where the search succeeds a node without a word isn't one that is tried. -/
theorem src_left (hg : graphR ks bs = true) (h0 : (srcR ks bs most).1 = 0) : ∀ k, k < ks.length → (srcR ks bs most).2.1 k = -1 → ∀ τ, fwP ks (xoG bs) (bdG bs) τ k ≠ [] := fun k hk hm τ => by
  refine fill_free hg ?_ τ
  cases e : isNar ks (crG bs) k with
  | false => rfl
  | true =>
    exact absurd hm (visF_found (fwP ks (xoG bs) (bdG bs)) (fun σ v x hx => by have := fwP_ok hx; unfold okX at this; omega) most (narN ks (crG bs) ks.length) (fun _ => -1) 0 (narN_nodup _ _ _) h0 k (narN_mem.2 ⟨hk, e⟩))
theorem src_good (i : Nat) : (srcR ks bs most).2.1 i = -1 ∨ okX ks i ((srcR ks bs most).2.1 i) :=
  visF_good (fw := fwP ks (xoG bs) (bdG bs)) (ok := okX ks) (fun σ v x hx => fwP_ok hx) most (narN ks (crG bs) ks.length) (fun _ => -1) 0 (fun _ => .inl rfl) i
theorem fin_good (hg : graphR ks bs = true) (h0 : (srcR ks bs most).1 = 0) (i : Nat) (hi : i < ks.length) : okX ks i (finR ks bs most i) :=
  flF_good (fw := fwP ks (xoG bs) (bdG bs)) (ok := okX ks) (σ := (srcR ks bs most).2.1) (n := ks.length) (fun σ v x hx => fwP_ok hx) src_good (src_left hg h0) ks.length (Nat.le_refl _) i hi
theorem src_code : (srcR ks bs most).1 = 0 ∨ (srcR ks bs most).1 = 2 ∨ (srcR ks bs most).1 = 3 := visF_code _ _ _ _ _
theorem src_le : (srcR ks bs most).2.2 ≤ most := (visF_le _ most _ _ 0 (Nat.zero_le _)).2
theorem src_many (h : (srcR ks bs most).1 = 3) : (srcR ks bs most).2.2 = most := visF_many _ _ _ _ _ h
end

/-- How both end. -/
def RetC (w : World) (R : List (Int × List Nat) × Int × Int) (e : Ending) (w' : World) : Prop := ∃ v l, e = .returned (.tuple #[v, .int .i64 R.2.1, .int .i64 R.2.2]) ∧ Bs w' w.heap.size v l ∧ l.map Bw.ct = R.1 ∧ Below w.heap.size w w'

end Go.Proofs.Ythoiajpbpoglfaa

/- impl.Colour. -/
namespace Go.Proofs.Ythoiajpbpoglfaa
set_option linter.unusedVariables false
set_option linter.unusedSimpArgs false
open Go.RowKit

theorem Bs.none2 (w : World) : Bs w w.heap.size (.slice none 0 0) [] := Bs.nil _ _

set_option maxHeartbeats 1000000 in
set_option maxRecDepth 100000 in
theorem implColour_any (z : Gz) (most : Int) (w : World) (hz : RdG w z) (hcap : ∀ x ∈ z.bs, x.ct.ws.length ≤ x.c) (hm64 : in64 most) :
    Calls Try.prog 9 #[z.val, .int .i64 most] w (RetC w (colR z.ks (z.bs.map Yg.ct) most)) := by
  obtain ⟨a1, c1, ks, a2, c2, bs⟩ := z
  simp only [Gz.val] at *
  have hb0 : Below w.heap.size w (w.alloc (.cells #[.slice a1 ks.length c1, .slice a2 bs.length c2] 32)) := (Below.refl _ _).alloc (Nat.le_refl _) _
  have X0 := kide (Bz.new w #[.slice a1 ks.length c1, .slice a2 bs.length c2] 32)
  have HB0 := kide hb0
  have HGZ := kide (fun (u : World) (hu : Below w.heap.size w u) => implGraph_any ⟨a1, c1, ks, a2, c2, bs⟩ u (hz.later hu))
  have HZ := kide hz
  have HCAP := kide hcap
  simp only [Gz.val] at HGZ
  clear hb0 hz hcap
  by_cases hg : graphR ks (bs.map Yg.ct) = true
  · rw [hg] at HGZ
    by_cases hmb : 0 ≤ most ∧ most ≤ 20000
    · obtain ⟨mo, rfl⟩ : ∃ mo : Nat, most = (mo : Int) := ⟨most.toNat, by omega⟩
      have hR : colR ks (bs.map Yg.ct) (mo : Int) = if (srcR ks (bs.map Yg.ct) mo).1 = 0 then (wct ks (finR ks (bs.map Yg.ct) mo) ks.length, ((srcR ks (bs.map Yg.ct) mo).2.2 : Int), 0) else ([], ((srcR ks (bs.map Yg.ct) mo).2.2 : Int), ((srcR ks (bs.map Yg.ct) mo).1 : Int)) := by
        unfold colR
        rw [if_pos ⟨hg, hmb.1, hmb.2⟩]
        rfl
      obtain ⟨R, hRR⟩ : ∃ R, colR ks (bs.map Yg.ct) (mo : Int) = R := ⟨_, rfl⟩
      rw [hRR]
      rw [hR] at hRR
      have HRR := kide hRR
      clear hR hRR
      obtain ⟨k200, b1000, good⟩ := graph_good hg
      rw [List.length_map] at b1000
      have hkk : ∀ x ∈ ks, 1 ≤ x ∧ x ≤ 4096 := by
        simp only [graphR, Bool.and_eq_true, decide_eq_true_eq, List.all_eq_true, wOk] at hg
        exact hg.1.2
      have HG : Hid (graphR ks (bs.map Yg.ct) = true) := hg
      have hct : (setG [] (bs.map nrmG)).map Yg.ct = setY [] ((bs.map Yg.ct).map nrmC) := by rw [setG_ct]; simp [List.map_map]; rfl
      have HNP := kide (fun (u : World) (hu : Below w.heap.size w u) => newPainter_any ⟨a1, c1, ks, a2, c2, bs⟩ (mo : Int) u (HZ.out.later hu) (fun x hx => (good x.ct (List.mem_map.2 ⟨x, hx, rfl⟩)).2.2) k200 b1000 HCAP.out hkk)
      simp only [Gz.val, hct] at HNP
      have HKK := kide (And.intro k200 hkk)
      have hnl : (narN ks (crG (bs.map Yg.ct)) ks.length).length ≤ 200 := by
        have h1 := narT_len ks (crG (bs.map Yg.ct)) ks.length
        rw [narT_narN, List.length_map] at h1
        omega
      have m0 : ¬ (mo : Int) < 0 := by omega
      have m1 : ¬ (mo : Int) > 20000 := by omega
      clear good b1000 hct hg k200 hkk hmb
      go_enter Try.func9, Try.ntmps9
      go_wp2_with fail
      generalize w.alloc (.cells #[.slice a1 ks.length c1, .slice a2 bs.length c2] 32) = w0 at *
      refine Calls.mono (HGZ.out _ HB0.out) ?_
      rintro e w1 ⟨rfl, hb1⟩
      have X1 := kide (X0.out.later hb1)
      have HB1 := kide (HB0.out.trans (hb1.mono HB0.out.size))
      have x0 := X1.out.cell 0
      have x1 := X1.out.cell 1
      simp at x0 x1
      have lx := X1.out.lt
      clear hb1
      go_wp2_with fail
      refine Calls.mono (HNP.out _ HB1.out) ?_
      rintro e w2 ⟨P0, H, K, va, vc, nv, wv, ov, mv, rfl, hri, hK, hpt⟩
      have hpt : Pt w1 w2 P0 H K va ks.length vc nv wv (narT ks (crG (bs.map Yg.ct)) ks.length) (List.replicate ks.length (-1)) 0 (mo : Int) ov mv (crG (bs.map Yg.ct)) (xoG (bs.map Yg.ct)) (bdG (bs.map Yg.ct)) := hpt
      obtain ⟨na, nc, hnv⟩ := hpt.nar.formG
      rw [narT_narN, List.length_map] at hnv
      subst hnv
      have hB2 := HB1.out.trans (hpt.bel.mono HB1.out.size)
      have HB2 := kide hB2
      clear hB2 x0 x1 lx HNP HGZ X0 X1
      by_cases hn0 : ks.length = 0
      · have hks : ks = [] := List.eq_nil_of_length_eq_zero hn0
        subst hks
        obtain ⟨wa, wc, hwv⟩ := hpt.row.formG
        rw [List.length_replicate, List.length_nil] at hwv
        subst hwv
        have hr0 : srcR [] (bs.map Yg.ct) mo = (0, fun _ => -1, 0) := rfl
        have hnl0 : (narN [] (crG (bs.map Yg.ct)) ([] : List Int).length).length = 0 := rfl
        rw [hnl0] at hpt
        rw [hr0] at HRR
        have HV := visit_zero hpt
        clear hpt hri hnl0 hn0
        go_wp2_with fail
        refine Calls.mono HV ?_
        rintro e w3 ⟨rfl, hp3⟩
        have HF := fill_zero hp3
        clear HV hp3
        go_wp2_with fail
        refine Calls.mono HF ?_
        rintro e w4 ⟨rfl, hp4⟩
        have x4 := hp4.px.cell 4
        simp at x4
        have lx := hp4.px.lt
        have HP4 := kide hp4
        have HT := kide (fun (u : World) (hu : Below w4.heap.size w4 u) => told_zero (hp4.later hu))
        have HB4 := kide (HB1.out.trans (hp4.bel.mono HB1.out.size))
        clear hp4 HF
        go_wp2_with fail
        go_region_held3 (fun u => u.cell? ⟨P0, 4, none⟩ = some (Value.int .i64 0)) (first | (simp [*]; done) | exact (kcell ((Below.refl _ _).drew) _ _ lx).trans x4)
          (first
            | (go_at_call 37; refine Calls.mono (HT.out _ ((Below.refl _ _).drew)) ?_; rintro e w5 ⟨rfl, hw5⟩; have hb5 : Below w4.drew.heap.size w4.drew w5 := (by rw [hw5]; exact Below.refl _ _); clear hw5; replace hb5 := kundrew hb5; have y4 := (kcell hb5 _ _ lx).trans x4; have HB5 := kide hb5; clear hb5))
        all_goals
          go_wp2_with fail
          refine bodyPost_ret (v := .tuple #[.slice none 0 0, .int .i64 0, .int .i64 0]) (by simp [results, Try.results9, go_sem]) rfl ?_
          rw [← HRR.out]
          exact ⟨_, [], rfl, Bs.nil _ _, rfl, HB4.out.trans (HB5.out.mono HB4.out.size)⟩
      · have hwv := hpt.row.formP (by rw [List.length_replicate]; omega)
        rw [List.length_replicate] at hwv
        obtain ⟨g, cp, rfl⟩ := hwv
        rw [lsOf_none] at hpt
        have hxo : ∀ i, i < ks.length → ∀ y ∈ xoG (bs.map Yg.ct) i, 0 ≤ y ∧ y < (ks.length : Int) ∧ y ≠ (i : Int) := fun i _ y hy => xoG_range HG.out i y hy
        have HV := visit_any (most := mo) ks rfl HKK.out.1 HKK.out.2 hri hK (by rw [narT_narN, List.length_map]) hnl (by omega) hxo (narN ks (crG (bs.map Yg.ct)) ks.length) 0 (by omega) (fun j hj => narT_at hj) (fun v hv => (narN_mem.1 hv).1) (narN_nodup _ _ _) (fun _ => -1) 0 w2 (Nat.zero_le _) (fun _ _ => rfl) hpt
        have HKR := kide (And.intro hri (And.intro hK hxo))
        have HS := kide (src_left (ks := ks) (bs := bs.map Yg.ct) (most := mo) HG.out)
        have HFI := kide (fin_good (ks := ks) (bs := bs.map Yg.ct) (most := mo) HG.out)
        obtain ⟨r, hr⟩ : ∃ r, srcR ks (bs.map Yg.ct) mo = r := ⟨_, rfl⟩
        have hr' : visF (fwP ks (xoG (bs.map Yg.ct)) (bdG (bs.map Yg.ct))) mo (narN ks (crG (bs.map Yg.ct)) ks.length) (fun _ => -1) 0 = r := hr
        rw [hr'] at HV
        have HFN : Hid (finR ks (bs.map Yg.ct) mo = flF (fwP ks (xoG (bs.map Yg.ct)) (bdG (bs.map Yg.ct))) r.2.1 ks.length) := by show _ = _; unfold finR; rw [hr]
        have hcode := src_code (ks := ks) (bs := bs.map Yg.ct) (most := mo)
        rw [hr] at HRR HS HFI hcode
        clear hr' hpt hri hK hxo hr
        go_wp2_with fail
        refine Calls.mono HV ?_
        rintro e w3 ⟨rfl, hp3, -⟩
        have HP3 := kide hp3
        have HB3 := kide (HB1.out.trans (hp3.bel.mono HB1.out.size))
        have x4 := hp3.px.cell 4
        simp at x4
        have lx := hp3.px.lt
        clear HV hp3
        by_cases hc0 : r.1 = 0
        · have hcc : (((r.1 : Nat) : Int) != 0) = false := by simp [hc0]
          have HF := fill_told ks rfl (by omega) HKK.out.1 HKK.out.2 HKR.out.1 HKR.out.2.1 HKR.out.2.2 (HS.out hc0) HP3.out
          go_wp2_with fail
          refine Calls.mono HF ?_
          rintro e w4 ⟨rfl, hp4⟩
          have y4 := hp4.px.cell 4
          simp at y4
          have ly := hp4.px.lt
          have HB4 := kide (HB1.out.trans (hp4.bel.mono HB1.out.size))
          have HT := kide (fun (u : World) (hu : Below w4.heap.size w4 u) => told_told ks rfl HKK.out.1 HKK.out.2 HKR.out.1 (fun i hi => by have := HFI.out hc0 i hi; rw [HFN.out] at this; unfold okX at this; exact ⟨this.1, by omega, this.2.2⟩) (hp4.later hu))
          clear hp4 HF x4 lx
          go_wp2_with fail
          go_region_held3 (fun u => u.cell? ⟨P0, 4, none⟩ = some (Value.int .i64 (r.2.2 : Int))) (first | (simp [*]; done) | exact (kcell ((Below.refl _ _).drew) _ _ ly).trans y4)
            (first
              | (go_at_call 37; refine Calls.mono (HT.out _ ((Below.refl _ _).drew)) ?_; rintro e w5 ⟨a, c, l, rfl, hrd, hct, hb5⟩; replace hb5 := kundrew hb5; have z4 := (kcell hb5 _ _ ly).trans y4; have HRD := kide hrd; have HCT := kide hct; have HB5 := kide hb5; clear hrd hct hb5))
          all_goals
            go_wp2_with fail
            refine bodyPost_ret (v := .tuple #[.slice a ks.length c, .int .i64 (r.2.2 : Int), .int .i64 0]) (by simp [results, Try.results9, go_sem]) rfl ?_
            rw [← HRR.out, if_pos hc0]
            exact ⟨_, l, rfl, HRD.out.mono HB4.out.size, by rw [HCT.out, HFN.out], HB4.out.trans (HB5.out.mono HB4.out.size)⟩
        · have hcc : (((r.1 : Nat) : Int) != 0) = true := by simp; omega
          go_wp2_with fail
          go_quiet (fail)
          go_wp2_with fail
          refine bodyPost_ret (v := .tuple #[.slice none 0 0, .int .i64 (r.2.2 : Int), .int .i64 (r.1 : Int)]) (by simp [results, Try.results9, go_sem]) rfl ?_
          rw [← HRR.out, if_neg hc0]
          exact ⟨_, [], rfl, Bs.nil _ _, rfl, below_drewN HB3.out _⟩
    · have hR : colR ks (bs.map Yg.ct) most = ([], -1, 1) := by
        unfold colR
        rw [if_neg (fun h => hmb h.2)]
      rw [hR]
      clear hR hg
      by_cases m0 : most < 0
      · go_enter Try.func9, Try.ntmps9
        go_wp2_with fail
        refine Calls.mono (HGZ.out _ HB0.out) ?_
        rintro e w1 ⟨rfl, hb1⟩
        have HB1 := kide (HB0.out.trans (hb1.mono HB0.out.size))
        clear hb1 HGZ
        go_wp2_with fail
        refine bodyPost_ret (v := .tuple #[.slice none 0 0, .int .i64 (-1), .int .i64 1]) (by simp [results, Try.results9, go_sem]) rfl ?_
        exact ⟨_, [], rfl, Bs.nil _ _, rfl, HB1.out⟩
      · have m1 : most > 20000 := by omega
        go_enter Try.func9, Try.ntmps9
        go_wp2_with fail
        refine Calls.mono (HGZ.out _ HB0.out) ?_
        rintro e w1 ⟨rfl, hb1⟩
        have HB1 := kide (HB0.out.trans (hb1.mono HB0.out.size))
        clear hb1 HGZ
        go_wp2_with fail
        refine bodyPost_ret (v := .tuple #[.slice none 0 0, .int .i64 (-1), .int .i64 1]) (by simp [results, Try.results9, go_sem]) rfl ?_
        exact ⟨_, [], rfl, Bs.nil _ _, rfl, HB1.out⟩
  · have hR : colR ks (bs.map Yg.ct) most = ([], -1, 1) := by
      unfold colR
      rw [if_neg (fun h => hg h.1)]
    have hg' : graphR ks (bs.map Yg.ct) = false := by simpa using hg
    rw [hR]
    rw [hg'] at HGZ
    clear hR hg hg'
    go_enter Try.func9, Try.ntmps9
    go_wp2_with fail
    refine Calls.mono (HGZ.out _ HB0.out) ?_
    rintro e w1 ⟨rfl, hb1⟩
    have HB1 := kide (HB0.out.trans (hb1.mono HB0.out.size))
    clear hb1 HGZ
    go_wp2_with fail
    refine bodyPost_ret (v := .tuple #[.slice none 0 0, .int .i64 (-1), .int .i64 1]) (by simp [results, Try.results9, go_sem]) rfl ?_
    exact ⟨_, [], rfl, Bs.nil _ _, rfl, HB1.out⟩

end Go.Proofs.Ythoiajpbpoglfaa

/- The given search: a node more to be tried. -/
namespace Go.Proofs.Ythoiajpbpoglfaa
set_option linter.unusedVariables false
set_option linter.unusedSimpArgs false
open Go.RowKit

theorem Ps.push {w0 w w1 : World} {z : Gz} {P0 g cp : Nat} {nv v' : Value} {nr : List Int} {σ : Nat → Int} {vis most : Int} {many : Bool} {y : Int} (h : Ps w0 w z P0 g cp nv nr σ vis most many) (ho : OI w1 w0.heap.size v' (nr ++ [y])) (hg : w.grownBy w1 nv.ownBlock) :
    Ps w0 (w1.setCell ⟨P0, 3, none⟩ v') z P0 g cp v' (nr ++ [y]) σ vis most many ∧ Bz w1 P0 #[.slice z.a1 z.ks.length z.c1, .slice z.a2 z.bs.length z.c2, .slice (some ⟨g, 0, none⟩) z.ks.length cp, nv, .int .i64 vis, .int .i64 most, .bool many] 58 := by
  have hx : Bz w1 P0 #[.slice z.a1 z.ks.length z.c1, .slice z.a2 z.bs.length z.c2, .slice (some ⟨g, 0, none⟩) z.ks.length cp, nv, .int .i64 vis, .int .i64 most, .bool many] 58 := bz_grown h.px hg (bz_typed h.px (fun k e => h.nar.typedG e) (by decide))
  refine ⟨?_, hx⟩
  obtain ⟨l, h1, h2⟩ := h.hs
  have hne : ∀ (b : Nat) (cur : Array Value) (t : TypeId), w.heap[b]? = some (.cells cur t (0, 0)) → t ≠ 2 → some b ≠ nv.ownBlock := fun b cur t hc ht e => by
    obtain ⟨cu, h3⟩ := h.nar.typedG e.symm
    rw [hc] at h3
    cases h3
    exact ht rfl
  have hb1 : Bs w1 w0.heap.size (.slice (some ⟨g, 0, none⟩) z.ks.length cp) l := ⟨h1.row.move fun b hb => by
      obtain ⟨cur, hc⟩ := h1.row.typed hb
      exact hg.block b (lt_of_block hc) (hne b cur _ hc (by decide)),
    fun x hx => (h1.nw x hx).kept fun b cur hc => hg.block b (lt_of_block hc) (hne b cur _ hc (by decide)), h1.dj⟩
  exact ⟨hx.set 3 _, ⟨l, hb1.setO hx (by decide) (by decide) _ _, h2⟩, ho.setQ hx (by decide) _ _, h.gd, (h.bel.grown hg h.bel.size (fun b hb => (h.nar.lt hb).1)).setCell h.hP _, h.hP⟩

/-- What make lays. -/
theorem Bs.made (w : World) (n : Nat) (hn : n ≤ 200) : Bs (w.alloc (.cells (madeCells #[.int .i64 0, .slice none 0 0] (n * 2)) 48)) w.heap.size (.slice (some ⟨w.heap.size, 0, none⟩) n n) (List.replicate n ⟨0, none, 0, []⟩) := by
  have hbw : bwc (List.replicate n (⟨0, none, 0, []⟩ : Bw)) = (madeCells #[.int .i64 0, .slice none 0 0] (n * 2)).toList := by
    refine List.ext_getElem? fun i => ?_
    by_cases hi : i < n * 2
    · obtain ⟨j, hj⟩ : ∃ j, j = i / 2 := ⟨_, rfl⟩
      have hjn : j < n := by omega
      obtain ⟨e1, e2⟩ := bwc_get (l := List.replicate n (⟨0, none, 0, []⟩ : Bw)) (i := j) (x := ⟨0, none, 0, []⟩) (by rw [List.getElem?_replicate, if_pos hjn])
      rcases (show i = j * 2 ∨ i = j * 2 + 1 by omega) with e | e
      · rw [e, e1]
        have e3 : (j * 2) % 2 = 0 := by omega
        simp [madeCells, e3, show j * 2 < n * 2 by omega]
      · rw [e, e2]
        have e3 : (j * 2 + 1) % 2 = 1 := by omega
        simp [madeCells, e3, show j * 2 + 1 < n * 2 by omega]
    · rw [List.getElem?_eq_none (by rw [bwc_len, List.length_replicate]; omega), List.getElem?_eq_none (by simp [madeCells]; omega)]
  refine ⟨?_, fun x hx => ?_, fun i j x y _ hi hj p q hp hq => ?_⟩
  · unfold OB2
    rw [List.length_replicate, hbw]
    refine ⟨by simp [madeCells], .inr ⟨w.heap.size, n, madeCells #[.int .i64 0, .slice none 0 0] (n * 2), rfl, Nat.le_refl _, heap_alloc_new _ _, Nat.le_refl _, Nat.le_trans hn (by decide), by simp [madeCells], ?_⟩⟩
    rw [List.take_of_length_le (by simp [madeCells])]
  · rw [List.eq_of_mem_replicate hx]; exact .inl ⟨rfl, fun x h => by cases h⟩
  · rw [List.eq_of_mem_replicate (List.mem_of_getElem? hi)] at hp; cases hp

end Go.Proofs.Ythoiajpbpoglfaa

/- The word behind a number's word is the next number's. No program in sight. -/
namespace Go.Proofs.Ythoiajpbpoglfaa
set_option linter.unusedVariables false
set_option linter.unusedSimpArgs false
open Go.RowKit

/-- Every number: bits 1 from the least on, a bit 0, the rest. -/
theorem low_ones (j : Nat) : ∃ p q : Nat, j + 1 = q * 2 ^ (p + 1) + 2 ^ p := by
  induction j using Nat.strongRecOn with
  | _ j ih =>
    rcases Nat.mod_two_eq_zero_or_one j with h | h
    · exact ⟨0, j / 2, by simp; omega⟩
    · obtain ⟨p, q, e⟩ := ih (j / 2) (by omega)
      refine ⟨p + 1, q, ?_⟩
      rw [Nat.pow_succ 2 (p + 1), ← Nat.mul_assoc, Nat.pow_succ 2 p]
      rw [Nat.pow_succ] at e
      generalize q * (2 ^ p * 2) = A at *
      generalize 2 ^ p = B at *
      omega
theorem bit_low {q p i : Nat} (h : i < p) : (q * 2 ^ (p + 1) + 2 ^ p) / 2 ^ i % 2 = 0 := by
  obtain ⟨d, rfl⟩ : ∃ d, p = i + 1 + d := ⟨p - (i + 1), by omega⟩
  have e : q * 2 ^ (i + 1 + d + 1) + 2 ^ (i + 1 + d) = (2 * (q * 2 ^ (d + 1) + 2 ^ d)) * 2 ^ i := by
    rw [show i + 1 + d + 1 = (d + 1) + 1 + i by omega, show i + 1 + d = d + 1 + i by omega, Nat.pow_add 2 (d + 1 + 1) i, Nat.pow_add 2 (d + 1) i, Nat.pow_succ 2 (d + 1), Nat.pow_succ 2 d, Nat.mul_add, Nat.add_mul]
    congr 1
    · simp only [Nat.mul_assoc, Nat.mul_comm, Nat.mul_left_comm]
    · simp only [Nat.mul_assoc, Nat.mul_comm, Nat.mul_left_comm]
  rw [e, Nat.mul_div_cancel _ (Nat.two_pow_pos i), Nat.mul_mod_right]
theorem bit_at (q p : Nat) : (q * 2 ^ (p + 1) + 2 ^ p) / 2 ^ p % 2 = 1 := by
  have e : q * 2 ^ (p + 1) + 2 ^ p = (2 * q + 1) * 2 ^ p := by
    rw [Nat.pow_succ, Nat.add_mul, Nat.one_mul]
    congr 1
    simp only [Nat.mul_assoc, Nat.mul_comm, Nat.mul_left_comm]
  rw [e, Nat.mul_div_cancel _ (Nat.two_pow_pos p)]
  omega
theorem bit_high {q p i r : Nat} (h : p < i) (hr : r < 2 ^ (p + 1)) : (q * 2 ^ (p + 1) + r) / 2 ^ i = q / 2 ^ (i - p - 1) := by
  obtain ⟨d, rfl⟩ : ∃ d, i = p + 1 + d := ⟨i - (p + 1), by omega⟩
  rw [Nat.pow_add 2 (p + 1) d, ← Nat.div_div_eq_div_mul, show p + 1 + d - p - 1 = d by omega]
  congr 1
  rw [Nat.add_comm, Nat.add_mul_div_right _ _ (Nat.two_pow_pos _), Nat.div_eq_of_lt hr, Nat.zero_add]
/-- The bits of the number before. -/
theorem bit_before {q p i : Nat} (h : i < p) : (q * 2 ^ (p + 1) + 2 ^ p - 1) / 2 ^ i % 2 = 1 := by
  obtain ⟨d, rfl⟩ : ∃ d, p = i + 1 + d := ⟨p - (i + 1), by omega⟩
  have h1 : 0 < 2 ^ i := Nat.two_pow_pos i
  have h2 : 0 < 2 ^ d := Nat.two_pow_pos d
  have e : q * 2 ^ (i + 1 + d + 1) + 2 ^ (i + 1 + d) - 1 = (2 * (q * 2 ^ (d + 1) + 2 ^ d - 1) + 1) * 2 ^ i + (2 ^ i - 1) := by
    have e1 : q * 2 ^ (i + 1 + d + 1) + 2 ^ (i + 1 + d) = (2 * (q * 2 ^ (d + 1) + 2 ^ d)) * 2 ^ i := by
      rw [show i + 1 + d + 1 = (d + 1) + 1 + i by omega, show i + 1 + d = d + 1 + i by omega, Nat.pow_add 2 (d + 1 + 1) i, Nat.pow_add 2 (d + 1) i, Nat.pow_succ 2 (d + 1), Nat.pow_succ 2 d, Nat.mul_add, Nat.add_mul]
      congr 1
      · simp only [Nat.mul_assoc, Nat.mul_comm, Nat.mul_left_comm]
      · simp only [Nat.mul_assoc, Nat.mul_comm, Nat.mul_left_comm]
    rw [e1]
    obtain ⟨m, hm⟩ : ∃ m, q * 2 ^ (d + 1) + 2 ^ d = m + 1 := ⟨q * 2 ^ (d + 1) + 2 ^ d - 1, by omega⟩
    rw [hm, Nat.add_sub_cancel, show 2 * (m + 1) = 2 * m + 1 + 1 by omega, Nat.add_mul (2 * m + 1) 1, Nat.one_mul]
    omega
  rw [e, Nat.add_comm, Nat.add_mul_div_right _ _ h1, Nat.div_eq_of_lt (by omega), Nat.zero_add]
  omega
theorem bit_before_at (q p : Nat) : (q * 2 ^ (p + 1) + 2 ^ p - 1) / 2 ^ p % 2 = 0 := by
  have h1 : 0 < 2 ^ p := Nat.two_pow_pos p
  have e : q * 2 ^ (p + 1) + 2 ^ p - 1 = (2 * q) * 2 ^ p + (2 ^ p - 1) := by
    have e1 : q * 2 ^ (p + 1) = (2 * q) * 2 ^ p := by rw [Nat.pow_succ]; simp only [Nat.mul_assoc, Nat.mul_comm, Nat.mul_left_comm]
    rw [e1]
    omega
  rw [e, Nat.add_comm, Nat.add_mul_div_right _ _ h1, Nat.div_eq_of_lt (by omega), Nat.zero_add, Nat.mul_mod_right]

theorem nBits_get {n V i : Nat} (h : i < V) : (nBits n V).getD i 0 = n / 2 ^ i % 2 := by simp [nBits, List.getD, h]
theorem nxt_num {j V p q : Nat} (e : j + 1 = q * 2 ^ (p + 1) + 2 ^ p) (hp : p < V) : nxtList (nBits j V) p = nBits (j + 1) V := by
  have hj : j = q * 2 ^ (p + 1) + 2 ^ p - 1 := by omega
  have h1 : 0 < 2 ^ p := Nat.two_pow_pos p
  have h2 : 2 ^ (p + 1) = 2 ^ p * 2 := Nat.pow_succ 2 p
  have hl : (nxtList (nBits j V) p).length = V := by simp [nxtList, nBits_len]; omega
  refine List.ext_getElem (by rw [hl, nBits_len]) fun i hi1 hi2 => ?_
  rw [nBits_len] at hi2
  have g1 : (nxtList (nBits j V) p)[i] = (nxtList (nBits j V) p).getD i 0 := by rw [List.getD, List.getElem?_eq_getElem hi1]; rfl
  have g2 : (nBits (j + 1) V)[i] = (nBits (j + 1) V).getD i 0 := by rw [List.getD, List.getElem?_eq_getElem (by rw [nBits_len]; exact hi2)]; rfl
  rw [g1, g2, nBits_get hi2, e]
  unfold nxtList
  rw [List.getD, List.getElem?_append]
  rcases Nat.lt_trichotomy i p with h | h | h
  · rw [if_pos (by simpa using h), List.getElem?_replicate, if_pos h, bit_low h]; rfl
  · subst h
    rw [if_neg (by simp), List.length_replicate, Nat.sub_self, bit_at]
    rfl
  · rw [if_neg (by simp; omega), List.length_replicate]
    obtain ⟨d, hd⟩ : ∃ d, i - p = d + 1 := ⟨i - p - 1, by omega⟩
    rw [hd, List.getElem?_cons_succ, List.getElem?_drop, show p + 1 + d = i by omega, ← List.getD_eq_getElem?_getD, nBits_get hi2, bit_high h (by omega), hj]
    have e3 : q * 2 ^ (p + 1) + 2 ^ p - 1 = q * 2 ^ (p + 1) + (2 ^ p - 1) := by omega
    rw [e3, bit_high h (by omega)]

theorem bitsTo_packQ (bs : List Nat) (hb : ∀ x ∈ bs, x ≤ 1) : bitsTo (pack bs) bs.length = bs := by
  refine List.ext_getElem? fun i => ?_
  by_cases h : i < bs.length
  · have hx := hb _ (List.getElem_mem h)
    have e : bs.getD i 0 = bs[i] := by simp [List.getD, h]
    simp only [bitsTo, List.getElem?_map, List.getElem?_range h, Option.map_some, tb_pack bs hb, e, List.getElem?_eq_getElem h]
    congr 1
    generalize bs[i] = x at *
    have : x = 0 ∨ x = 1 := by omega
    rcases this with rfl | rfl <;> rfl
  · rw [List.getElem?_eq_none (by rw [bitsTo_len]; omega), List.getElem?_eq_none (by omega)]
theorem next_num {V : Int} {j : Nat} (h1 : 1 ≤ V) (h2 : V ≤ 4096) (hj : j + 1 < 2 ^ V.toNat) : nextR V (numW V (j : Int)) = (V, numW V ((j + 1 : Nat) : Int), true) := by
  have e0 : numW V (j : Int) = pack (nBits j V.toNat) := by
    unfold numW ofR
    rw [if_pos ⟨h1, h2, by omega, by simp only [Int.toNat_natCast]; omega⟩]
    simp
  have e1 : numW V ((j + 1 : Nat) : Int) = pack (nBits (j + 1) V.toNat) := by
    unfold numW ofR
    rw [if_pos ⟨h1, h2, by omega, by simp only [Int.toNat_natCast]; exact hj⟩]
    simp only [Int.toNat_natCast]
  obtain ⟨p, q, e⟩ := low_ones j
  have hp : p < V.toNat := by
    apply Classical.byContradiction
    intro h
    have h3 : 2 ^ V.toNat ≤ 2 ^ p := Nat.pow_le_pow_right (by omega) (by omega)
    generalize q * 2 ^ (p + 1) = A at *
    omega
  have hr : rightB V (pack (nBits j V.toNat)) = true := by
    have h9 := pack_right (nBits j V.toNat) (nBits_le j _) (by rw [nBits_len]; omega) (by rw [nBits_len]; omega)
    rw [nBits_len] at h9
    rwa [show ((V.toNat : Nat) : Int) = V by omega] at h9
  have hbt : bitsTo (pack (nBits j V.toNat)) V.toNat = nBits j V.toNat := by
    have h9 := bitsTo_packQ (nBits j V.toNat) (nBits_le j _)
    rwa [nBits_len] at h9
  have hjj : j = q * 2 ^ (p + 1) + 2 ^ p - 1 := by omega
  have htb : ∀ i, i < V.toNat → tb (pack (nBits j V.toNat)) i = decide (j / 2 ^ i % 2 = 1) := fun i hi => by rw [tb_pack _ (nBits_le j _), nBits_get hi]
  have hfz : fz (pack (nBits j V.toNat)) V.toNat = p := by
    unfold fz
    refine fzFrom_eq _ _ 0 p (Nat.zero_le _) (by omega) (fun i _ hi => ?_) ?_
    · rw [htb i (by omega), hjj, bit_before hi]; rfl
    · rw [htb p hp, hjj, bit_before_at]; rfl
  unfold nextR
  rw [e0, if_pos ⟨hr, by rw [hfz]; exact hp⟩, hfz, hbt, nxt_num e hp, e1]

/-- The first free word. -/
theorem first_free {M : Nat} {xs bd : List Int} {σ : Nat → Int} (h : fwN M xs bd σ ≠ []) : ∃ y : Nat, y < M ∧ frW xs bd σ y = true ∧ (∀ i, i < y → frW xs bd σ i = false) ∧ (fwN M xs bd σ).getD 0 (-1) = (y : Int) := by
  obtain ⟨k, t, e⟩ : ∃ k t, (List.range M).filter (fun x => frW xs bd σ x) = k :: t := by
    cases e : (List.range M).filter (fun x => frW xs bd σ x) with
    | nil => exact absurd (by unfold fwN; rw [e]; rfl) h
    | cons k t => exact ⟨k, t, rfl⟩
  have hk : k ∈ (List.range M).filter (fun x => frW xs bd σ x) := by rw [e]; simp
  refine ⟨k, List.mem_range.1 (List.mem_filter.1 hk).1, (List.mem_filter.1 hk).2, fun i hi => ?_, by unfold fwN; rw [e]; rfl⟩
  cases hf : frW xs bd σ i with
  | false => rfl
  | true =>
    have hiM : i < M := Nat.lt_trans hi (List.mem_range.1 (List.mem_filter.1 hk).1)
    have hm : i ∈ (List.range M).filter (fun x => frW xs bd σ x) := List.mem_filter.2 ⟨List.mem_range.2 hiM, hf⟩
    have hs : ((List.range M).filter (fun x => frW xs bd σ x)).Pairwise (· < ·) := List.Pairwise.filter _ List.pairwise_lt_range
    rw [e] at hm hs
    rcases List.mem_cons.1 hm with h1 | h1
    · omega
    · have := (List.pairwise_cons.1 hs).1 i h1
      omega

end Go.Proofs.Ythoiajpbpoglfaa
