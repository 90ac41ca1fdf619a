/- What both CrowdOf answer. -/
import Derived.Test.YtddgldfjeklhbaaBV
import Derived.Test.YtddgldfjeklhbaaJG
namespace Go.Proofs.Ytddgldfjeklhbaa
set_option linter.unusedVariables false
set_option linter.unusedSimpArgs false
open Go.RowKit

theorem cnt_good {n : Nat} {s : Yc} (h : gdB n s) (i : Nat) : cntC i s = (if valC (i : Int) s = true then 1 else 0) + (if (othC (i : Int) s).isSome = true then 1 else 0) := by
  obtain ⟨⟨h1, h2⟩, h3⟩ := h
  unfold cntC
  rcases h3 with h3 | ⟨h4, h5, h6, -⟩
  · rw [if_pos h3]
    by_cases a1 : s.v.toNat = i
    · have e : s.v = (i : Int) := by omega
      simp [valC, othC, h3, e]
    · have e : s.v ≠ (i : Int) := by omega
      have e2 : ¬ (-1 : Int) = (i : Int) := by omega
      simp [valC, othC, h3, e, a1, e2]
  · rw [if_neg (by omega)]
    have e3 : ¬ s.lo < 0 := by omega
    by_cases a1 : s.v.toNat = i
    · have e : s.v = (i : Int) := by omega
      have a2 : ¬ s.lo.toNat = i := by omega
      simp [valC, othC, e, e3, a2]
    · have e : s.v ≠ (i : Int) := by omega
      by_cases a2 : s.lo.toNat = i
      · have e2 : s.lo = (i : Int) := by omega
        have a1' : ¬ s.v.toNat = i := a1
        simp [valC, othC, e, e2]
        omega
      · have e2 : s.lo ≠ (i : Int) := by omega
        simp [valC, othC, e, e2, a1, a2]

theorem cnt_sum {n i : Nat} : ∀ (ys : List Yc), (∀ s ∈ ys, gdB n s) → (ys.map (cntC i)).sum = ((ys.filter (valC (i : Int))).length : Int) + ((ys.filterMap (othC (i : Int))).length : Int)
  | [], _ => by simp
  | s :: t, h => by
    rw [List.map_cons, List.sum_cons, cnt_sum t (fun u hu => h u (List.mem_cons_of_mem _ hu)), cnt_good (h s (by simp)) i]
    rw [List.filter_cons, List.filterMap_cons]
    cases e1 : valC (i : Int) s <;> cases e2 : othC (i : Int) s <;> simp [e1, e2] <;> omega

theorem crowd_same {n i : Nat} {ys : List Yc} (h : ∀ s ∈ ys, gdB n s) : crF (setY [] (ys.map nrmC)) i = ((risI [] (othR (i : Int) ys)).length : Int) + ((valR (i : Int) ys).length : Int) := by
  have hD : ∀ s ∈ setY [] (ys.map nrmC), gdB n s ∧ gdN s := fun s hs => by
    rcases (setY_mem _ _ _).1 hs with h0 | h0
    · cases h0
    · obtain ⟨u, hu, rfl⟩ := List.mem_map.1 h0
      exact gdB_nrm (h u hu)
  have hnd : (setY [] (ys.map nrmC)).Nodup := setY_nodup _ _ (by simp)
  rw [crF, crF_sum, cnt_sum _ (fun s hs => (hD s hs).1)]
  have e1 : ((setY [] (ys.map nrmC)).filter (valC (i : Int))).length = (valR (i : Int) ys).length := by
    haveI : DecidableEq Yc := ycDec
    refine nodup_len (List.Pairwise.filter _ hnd) (setY_nodup _ _ (by simp)) (fun s => ?_)
    show s ∈ (setY [] (ys.map nrmC)).filter (valC (i : Int)) ↔ s ∈ setY [] (ys.filter (valC (i : Int)))
    rw [List.mem_filter, setY_mem, setY_mem, List.mem_filter]
    constructor
    · rintro ⟨h0 | h0, hv⟩
      · cases h0
      · obtain ⟨u, hu, e⟩ := List.mem_map.1 h0
        have := valC_nrm (h u hu) (i : Int) e hv
        subst this
        exact .inr ⟨hu, hv⟩
    · rintro (h0 | ⟨h0, hv⟩)
      · cases h0
      · exact ⟨.inr (List.mem_map.2 ⟨s, h0, valC_keep (h s h0) hv⟩), hv⟩
  have e2 : ((setY [] (ys.map nrmC)).filterMap (othC (i : Int))).length = (risI [] (othR (i : Int) ys)).length := by
    refine nodup_len (nodup_fm hnd (fun s hs u hu b h1 h2 => othC_inj (hD s hs).1 (hD u hu).1 (hD s hs).2 (hD u hu).2 (by omega) h1 h2)) (risI_nodup _ _ (by simp)) (fun a => ?_)
    rw [risI_mem, List.mem_filterMap]
    unfold othR
    rw [List.mem_filterMap]
    constructor
    · rintro ⟨s, hs, e⟩
      rcases (setY_mem _ _ _).1 hs with h0 | h0
      · cases h0
      · obtain ⟨u, hu, rfl⟩ := List.mem_map.1 h0
        rw [othC_nrm (h u hu)] at e
        exact .inr ⟨u, hu, e⟩
    · rintro (h0 | ⟨u, hu, e⟩)
      · cases h0
      · exact ⟨nrmC u, (setY_mem _ _ _).2 (.inr (List.mem_map.2 ⟨u, hu, rfl⟩)), by rw [othC_nrm (h u hu)]; exact e⟩
  rw [e1, e2]
  omega

theorem brOk_good {ks : List Int} {s : Yc} (h : brOk ks s = true) (hk : ∀ x ∈ ks, wOk x = true) : gdB ks.length s ∧ (s.lo < 0 → 0 < s.ws.length) ∧ gdY ks.length (nrmC s) := by
  unfold brOk at h
  rw [Bool.and_eq_true] at h
  obtain ⟨h1, h2⟩ := h
  simp [ndOk] at h1
  by_cases e : s.lo = -1
  · rw [if_pos e] at h2
    simp only [Bool.and_eq_true, decide_eq_true_eq, rightB] at h2
    obtain ⟨⟨⟨hw, hl⟩, -⟩, -⟩ := h2
    simp [wOk] at hw
    have hp : 0 < s.ws.length := by omega
    refine ⟨⟨h1, .inl e⟩, fun _ => hp, ?_⟩
    unfold nrmC
    rw [if_pos e]
    exact ⟨h1, .inl ⟨e, hp⟩⟩
  · rw [if_neg e] at h2
    simp only [Bool.and_eq_true, decide_eq_true_eq, ndOk] at h2
    obtain ⟨⟨⟨⟨h3, h4⟩, -⟩, h5⟩, h6⟩ := h2
    refine ⟨⟨h1, .inr ⟨h3.1, h3.2, h4, h5, List.eq_nil_of_length_eq_zero h6⟩⟩, fun hl => by omega, ?_⟩
    unfold nrmC
    rw [if_neg e]
    exact ⟨⟨by simp only []; omega, by simp only []; omega⟩, .inr ⟨by simp only []; omega, by simp only []; omega, by simp only []; omega⟩⟩

/-- How many bars a node has; -1: no right graph, or no node of it. -/
def crwR (ks : List Int) (bs : List Yc) (x : Int) : Int := if graphR ks bs = true ∧ ndOk ks.length x = true then crF (setY [] (bs.map nrmC)) x.toNat else -1

theorem graph_good {ks : List Int} {bs : List Yc} (h : graphR ks bs = true) : ks.length ≤ 200 ∧ bs.length ≤ 1000 ∧ ∀ s ∈ bs, gdB ks.length s ∧ (s.lo < 0 → 0 < s.ws.length) ∧ gdY ks.length (nrmC s) := by
  simp only [graphR, Bool.and_eq_true, decide_eq_true_eq, List.all_eq_true] at h
  obtain ⟨⟨⟨h1, h2⟩, h3⟩, h4⟩ := h
  exact ⟨h1, h2, fun s hs => brOk_good (h4 s hs) h3⟩

set_option maxHeartbeats 1000000 in
theorem implCrowd_any (z : Gz) (x : Int) (w : World) (hz : RdG w z) :
    Calls Try.prog 17 #[z.val, .int .i64 x] w fun e w' => e = .returned (.int .i64 (crwR z.ks (z.bs.map Yg.ct) x)) ∧ Below w.heap.size w w' := by
  obtain ⟨a1, c1, ks, a2, c2, bs⟩ := z
  have hn1 := hz.1.1
  have hb0 : Below w.heap.size w (w.alloc (Obj.cells #[Value.slice a1 ks.length c1, Value.slice a2 bs.length c2] 40)) := (Below.refl _ _).alloc (Nat.le_refl _) _
  have HG := kide (fun u (hu : Below w.heap.size w u) => implGraph_any ⟨a1, c1, ks, a2, c2, bs⟩ u (hz.later hu))
  have HI := kide (fun u => isNode_any a1 a2 ks.length c1 bs.length c2 x u hn1)
  have X0 := kide (Bz.new w #[Value.slice a1 ks.length c1, Value.slice a2 bs.length c2] 40)
  have BW := kide hb0
  simp only [Gz.val] at *
  by_cases hg : graphR ks (bs.map Yg.ct) = true
  · obtain ⟨k200, b1000, good⟩ := graph_good hg
    have HH := kide (fun u (hu : Below w.heap.size w u) => hedgesOf_any ⟨a1, c1, ks, a2, c2, bs⟩ u (hz.later hu) (fun y hy => (good y.ct (List.mem_map.2 ⟨y, hy, rfl⟩)).2.2) (by simp only []; omega) (by simp only []; simpa using b1000))
    simp only [Gz.val] at HH
    rw [hg] at HG
    by_cases hn : ndOk ks.length x = true
    · have hR : crwR ks (bs.map Yg.ct) x = crF (setY [] ((bs.map Yg.ct).map nrmC)) x.toNat := by rw [crwR, if_pos ⟨hg, hn⟩]
      rw [hR]
      have hct : (setG [] (bs.map nrmG)).map Yg.ct = setY [] ((bs.map Yg.ct).map nrmC) := by rw [setG_ct]; simp [List.map_map]; rfl
      rw [hct] at HH
      rw [hn] at HI
      simp [ndOk] at hn
      obtain ⟨i, rfl⟩ : ∃ i : Nat, x = (i : Int) := ⟨x.toNat, by omega⟩
      have hi : i < ks.length := by omega
      have hi2 : (i : Int) < (ks.length : Int) := by omega
      rw [show ((i : Int)).toNat = i by omega]
      generalize crF (setY [] ((bs.map Yg.ct).map nrmC)) = CR at *
      generalize ks.length = n1 at *
      generalize bs.length = n2 at *
      clear hR hct hz good hb0 hg
      go_enter Try.func17, Try.ntmps17
      go_wp2_with fail
      refine Calls.mono (HG.out _ BW.out) ?_
      rintro e w1 ⟨rfl, hb1⟩
      have X1 := kide (X0.out.later hb1)
      have B1 := kide (BW.out.trans (hb1.mono BW.out.size))
      have g0 : w1.cell? ⟨w.heap.size, 0, none⟩ = some (Value.slice a1 n1 c1) := X1.out.cell 0
      have g1 : w1.cell? ⟨w.heap.size, 1, none⟩ = some (Value.slice a2 n2 c2) := X1.out.cell 1
      clear hb1 HG
      go_wp2_with fail
      refine Calls.mono (HI.out _) ?_
      rintro e w2 ⟨rfl, hb2⟩
      have X2 := kide (X1.out.later hb2)
      have B2 := kide (B1.out.trans (hb2.mono B1.out.size))
      clear g0 g1
      have g0 : w2.cell? ⟨w.heap.size, 0, none⟩ = some (Value.slice a1 n1 c1) := X2.out.cell 0
      have g1 : w2.cell? ⟨w.heap.size, 1, none⟩ = some (Value.slice a2 n2 c2) := X2.out.cell 1
      clear hb2 HI
      go_wp2_with fail
      refine Calls.mono (HH.out _ B2.out) ?_
      rintro e w3 ⟨H, rfl, hc3, hb3⟩
      have c3 := hc3 i hi
      have B3 := kide (B2.out.trans (hb3.mono B2.out.size))
      clear hc3 hb3 HH
      go_wp2_with fail
      go_ret
      exact ⟨rfl, B3.out⟩
    · have hn' : ndOk ks.length x = false := by simpa using hn
      have hR : crwR ks (bs.map Yg.ct) x = -1 := by rw [crwR, if_neg (fun h => hn h.2)]
      rw [hR]
      rw [hn'] at HI
      generalize ks.length = n1 at *
      generalize bs.length = n2 at *
      clear hR hz good hb0 hg hn hn' HH
      go_enter Try.func17, Try.ntmps17
      go_wp2_with fail
      refine Calls.mono (HG.out _ BW.out) ?_
      rintro e w1 ⟨rfl, hb1⟩
      have X1 := kide (X0.out.later hb1)
      have B1 := kide (BW.out.trans (hb1.mono BW.out.size))
      have g0 : w1.cell? ⟨w.heap.size, 0, none⟩ = some (Value.slice a1 n1 c1) := X1.out.cell 0
      have g1 : w1.cell? ⟨w.heap.size, 1, none⟩ = some (Value.slice a2 n2 c2) := X1.out.cell 1
      clear hb1 HG
      go_wp2_with fail
      refine Calls.mono (HI.out _) ?_
      rintro e w2 ⟨rfl, hb2⟩
      have B2 := kide (B1.out.trans (hb2.mono B1.out.size))
      clear hb2 HI
      go_wp2_with fail
      go_ret
      exact ⟨rfl, B2.out⟩
  · have hg' : graphR ks (bs.map Yg.ct) = false := by simpa using hg
    have hR : crwR ks (bs.map Yg.ct) x = -1 := by rw [crwR, if_neg (fun h => hg h.1)]
    rw [hR]
    rw [hg'] at HG
    generalize ks.length = n1 at *
    generalize bs.length = n2 at *
    clear hR hz hb0 hg hg' HI
    go_enter Try.func17, Try.ntmps17
    go_wp2_with fail
    refine Calls.mono (HG.out _ BW.out) ?_
    rintro e w1 ⟨rfl, hb1⟩
    have B1 := kide (BW.out.trans (hb1.mono BW.out.size))
    clear hb1 HG
    go_wp2_with fail
    go_ret
    exact ⟨rfl, B1.out⟩

theorem crowdIn (n : Nat) (x : Int) (u : World) : Calls Try.prog 32 #[.int .i64 x, .int .i64 0, .int .i64 ((n : Int) - 1)] u fun e w' => e = .returned (.bool (ndOk n x)) ∧ w' = u := by
  refine (l1In_any x 0 ((n : Int) - 1) u).mono (fun e w' h => ⟨?_, h.2⟩)
  rw [h.1]
  have : decide (0 ≤ x ∧ x ≤ (n : Int) - 1) = ndOk n x := by
    rw [Bool.eq_iff_iff]; simp [ndOk]; omega
  rw [this]

set_option maxHeartbeats 1000000 in
theorem specCrowd_any (z : Gz) (x : Int) (w : World) (hz : RdG w z) :
    Calls Try.prog 15 #[z.val, .int .i64 x] w fun e w' => e = .returned (.int .i64 (crwR z.ks (z.bs.map Yg.ct) x)) ∧ Below w.heap.size w w' := by
  obtain ⟨a1, c1, ks, a2, c2, bs⟩ := z
  have hn1 := hz.1.1
  have hb0 : Below w.heap.size w (w.alloc (Obj.cells #[Value.slice a1 ks.length c1, Value.slice a2 bs.length c2] 40)) := (Below.refl _ _).alloc (Nat.le_refl _) _
  have HG := kide (fun u (hu : Below w.heap.size w u) => specGraph_any ⟨a1, c1, ks, a2, c2, bs⟩ u (hz.later hu))
  have HI := kide (fun u => crowdIn ks.length x u)
  have X0 := kide (Bz.new w #[Value.slice a1 ks.length c1, Value.slice a2 bs.length c2] 40)
  have BW := kide hb0
  simp only [Gz.val] at *
  by_cases hg : graphR ks (bs.map Yg.ct) = true
  · obtain ⟨k200, b1000, good⟩ := graph_good hg
    have HH := kide (fun u (hu : Below w.heap.size w u) => l10Crowd_any ⟨a1, c1, ks, a2, c2, bs⟩ x u (hz.later hu) (fun y hy => (good y.ct (List.mem_map.2 ⟨y, hy, rfl⟩)).2.1) (by simp only []; simpa using b1000))
    simp only [Gz.val] at HH
    rw [hg] at HG
    by_cases hn : ndOk ks.length x = true
    · have hR : crwR ks (bs.map Yg.ct) x = crF (setY [] ((bs.map Yg.ct).map nrmC)) x.toNat := by rw [crwR, if_pos ⟨hg, hn⟩]
      rw [hR]
      rw [hn] at HI
      simp [ndOk] at hn
      obtain ⟨i, rfl⟩ : ∃ i : Nat, x = (i : Int) := ⟨x.toNat, by omega⟩
      have hi : i < ks.length := by omega
      have hi2 : (i : Int) < (ks.length : Int) := by omega
      rw [show ((i : Int)).toNat = i by omega]
      rw [← crowd_same (fun s hs => (good s hs).1)] at HH
      generalize crF (setY [] ((bs.map Yg.ct).map nrmC)) = CR at *
      generalize ks.length = n1 at *
      generalize bs.length = n2 at *
      clear hR hz good hb0 hg
      go_enter Try.func15, Try.ntmps15
      go_wp2_with fail
      refine Calls.mono (HG.out _ BW.out) ?_
      rintro e w1 ⟨rfl, hb1⟩
      have X1 := kide (X0.out.later hb1)
      have B1 := kide (BW.out.trans (hb1.mono BW.out.size))
      have g0 : w1.cell? ⟨w.heap.size, 0, none⟩ = some (Value.slice a1 n1 c1) := X1.out.cell 0
      have g1 : w1.cell? ⟨w.heap.size, 1, none⟩ = some (Value.slice a2 n2 c2) := X1.out.cell 1
      clear hb1 HG
      go_wp2_with fail
      refine Calls.mono (HI.out _) ?_
      rintro e w2 ⟨rfl, hw2⟩
      have hb2 : Below w1.heap.size w1 w2 := by rw [hw2]; exact Below.refl _ _
      clear hw2
      have X2 := kide (X1.out.later hb2)
      have B2 := kide (B1.out.trans (hb2.mono B1.out.size))
      clear g0 g1
      have g0 : w2.cell? ⟨w.heap.size, 0, none⟩ = some (Value.slice a1 n1 c1) := X2.out.cell 0
      have g1 : w2.cell? ⟨w.heap.size, 1, none⟩ = some (Value.slice a2 n2 c2) := X2.out.cell 1
      clear hb2 HI
      go_wp2_with fail
      refine Calls.mono (HH.out _ B2.out) ?_
      rintro e w3 ⟨rfl, hb3⟩
      have B3 := kide (B2.out.trans (hb3.mono B2.out.size))
      clear hb3 HH
      go_wp2_with fail
      go_ret
      exact ⟨rfl, B3.out⟩
    · have hn' : ndOk ks.length x = false := by simpa using hn
      have hR : crwR ks (bs.map Yg.ct) x = -1 := by rw [crwR, if_neg (fun h => hn h.2)]
      rw [hR]
      rw [hn'] at HI
      generalize ks.length = n1 at *
      generalize bs.length = n2 at *
      clear hR hz good hb0 hg hn hn' HH
      go_enter Try.func15, Try.ntmps15
      go_wp2_with fail
      refine Calls.mono (HG.out _ BW.out) ?_
      rintro e w1 ⟨rfl, hb1⟩
      have X1 := kide (X0.out.later hb1)
      have B1 := kide (BW.out.trans (hb1.mono BW.out.size))
      have g0 : w1.cell? ⟨w.heap.size, 0, none⟩ = some (Value.slice a1 n1 c1) := X1.out.cell 0
      have g1 : w1.cell? ⟨w.heap.size, 1, none⟩ = some (Value.slice a2 n2 c2) := X1.out.cell 1
      clear hb1 HG
      go_wp2_with fail
      refine Calls.mono (HI.out _) ?_
      rintro e w2 ⟨rfl, hw2⟩
      have hb2 : Below w1.heap.size w1 w2 := by rw [hw2]; exact Below.refl _ _
      clear hw2
      have B2 := kide (B1.out.trans (hb2.mono B1.out.size))
      clear hb2 HI
      go_wp2_with fail
      go_ret
      exact ⟨rfl, B2.out⟩
  · have hg' : graphR ks (bs.map Yg.ct) = false := by simpa using hg
    have hR : crwR ks (bs.map Yg.ct) x = -1 := by rw [crwR, if_neg (fun h => hg h.1)]
    rw [hR]
    rw [hg'] at HG
    generalize ks.length = n1 at *
    generalize bs.length = n2 at *
    clear hR hz hb0 hg hg' HI
    go_enter Try.func15, Try.ntmps15
    go_wp2_with fail
    refine Calls.mono (HG.out _ BW.out) ?_
    rintro e w1 ⟨rfl, hb1⟩
    have B1 := kide (BW.out.trans (hb1.mono BW.out.size))
    clear hb1 HG
    go_wp2_with fail
    go_ret
    exact ⟨rfl, B1.out⟩

end Go.Proofs.Ytddgldfjeklhbaa
