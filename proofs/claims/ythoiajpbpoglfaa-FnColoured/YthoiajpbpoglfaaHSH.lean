/- spec.Colour. -/
import Derived.Test.YthoiajpbpoglfaaZKAS
import Derived.Deep.LoopGhost
namespace Go.Proofs.Ythoiajpbpoglfaa
set_option linter.unusedVariables false
set_option linter.unusedSimpArgs false
open Go.RowKit

theorem colR_no1 {ks : List Int} {bs : List Yc} {most : Int} (h : ¬ graphR ks bs = true) : colR ks bs most = ([], -1, 1) := by
  unfold colR
  rw [if_neg (fun k => h k.1)]
theorem colR_no2 {ks : List Int} {bs : List Yc} {most : Int} (h : ¬ (0 ≤ most ∧ most ≤ 20000)) : colR ks bs most = ([], -1, 1) := by
  unfold colR
  rw [if_neg (fun k => h k.2)]

theorem hct_none (ks : List Int) (n : Nat) : (List.replicate n (⟨0, none, 0, []⟩ : Bw)).map Bw.ct = hct ks (fun _ => -1) n := by
  unfold hct
  refine List.ext_getElem (by simp) fun i h1 h2 => ?_
  simp [Bw.ct]
theorem bs_empty {w : World} {B e : Nat} (h : Bz w e #[] 48) (hB : B ≤ e) : Bs w B (.slice (some ⟨e, 0, none⟩) 0 0) [] :=
  ⟨⟨rfl, .inr ⟨e, 0, #[], rfl, hB, h, Nat.le_refl _, Nat.zero_le _, rfl, rfl⟩⟩, by simp, DjB.nil⟩
theorem hct_wct {ks : List Int} {σ : Nat → Int} {n : Nat} (h : ∀ i, i < n → σ i ≠ -1) : hct ks σ n = wct ks σ n := List.map_congr_left fun i hi => if_neg (h i (List.mem_range.1 hi))
theorem pow_min {x : Int} {y : Nat} (h1 : 1 ≤ x) (h : y < 2 ^ (min x 10).toNat) : y < 1024 ∧ y < 2 ^ x.toNat :=
  ⟨Nat.lt_of_lt_of_le h (Nat.le_trans (Nat.pow_le_pow_right (by omega) (show (min x 10).toNat ≤ 10 by omega)) (by decide)), Nat.lt_of_lt_of_le h (Nat.pow_le_pow_right (by omega) (by omega))⟩
theorem le_of_eq_wrap {A T cr : Int} (h : A = T) (hc : T ≤ cr) : A ≤ cr := by omega
theorem lt_of_eq_wrap {A T cr : Int} (h : A = T) (hc : ¬ T ≤ cr) : cr < A := by omega
theorem pow_T {x : Int} (h1 : 1 ≤ x) (h2 : x ≤ 10) : ∃ T : Nat, 2 ^ x.toNat = T ∧ T ≤ 1024 ∧ IntKind.i64.wrap (2 ^ x.toNat) = (T : Int) := by
  obtain ⟨M, hM, hl⟩ := pow_ten h1 h2
  refine ⟨M, hM.symm, hl, ?_⟩
  rw [show (2 : Int) ^ x.toNat = ((2 ^ x.toNat : Nat) : Int) by push_cast; rfl, ← hM, IntKind.wrap_i64]
  omega

set_option maxHeartbeats 1000000 in
set_option maxRecDepth 100000 in
theorem specColour_any (z : Gz) (most : Int) (w : World) (hz : RdG w z) (hm64 : in64 most) :
    Calls Try.prog 7 #[z.val, .int .i64 most] w (RetC w (colR z.ks (z.bs.map Yg.ct) most)) := by
  obtain ⟨a1, c1, ks, a2, c2, bs⟩ := z
  simp only [Gz.val] at *
  have hb0 : Below w.heap.size w (w.alloc (.cells #[.slice a1 ks.length c1, .slice a2 bs.length c2] 32)) := (Below.refl _ _).alloc (Nat.le_refl _) _
  have X0 := kide (Bz.new w #[.slice a1 ks.length c1, .slice a2 bs.length c2] 32)
  have HB0 := kide hb0
  have HGZ := kide (fun (u : World) (hu : Below w.heap.size w u) => specGraph_any ⟨a1, c1, ks, a2, c2, bs⟩ u (hz.later hu))
  have HIN := kide (fun u => l1In_any most 0 20000 u)
  have HZ := kide hz
  simp only [Gz.val] at HGZ
  clear hb0 hz
  by_cases hg : graphR ks (bs.map Yg.ct) = true
  · rw [hg] at HGZ
    by_cases hmb : 0 ≤ most ∧ most ≤ 20000
    · obtain ⟨mo, rfl⟩ : ∃ mo : Nat, most = (mo : Int) := ⟨most.toNat, by omega⟩
      have hR : colR ks (bs.map Yg.ct) (mo : Int) = if (srcR ks (bs.map Yg.ct) mo).1 = 0 then (wct ks (finR ks (bs.map Yg.ct) mo) ks.length, ((srcR ks (bs.map Yg.ct) mo).2.2 : Int), 0) else ([], ((srcR ks (bs.map Yg.ct) mo).2.2 : Int), ((srcR ks (bs.map Yg.ct) mo).1 : Int)) := by
        unfold colR
        rw [if_pos ⟨hg, hmb.1, hmb.2⟩]
        rfl
      obtain ⟨R, hRR⟩ : ∃ R, colR ks (bs.map Yg.ct) (mo : Int) = R := ⟨_, rfl⟩
      rw [hRR]
      rw [hR] at hRR
      have HRR := kide hRR
      clear hR hRR
      obtain ⟨k200, b1000, good⟩ := graph_good hg
      rw [List.length_map] at b1000
      have hkk : ∀ x ∈ ks, 1 ≤ x ∧ x ≤ 4096 := by
        simp only [graphR, Bool.and_eq_true, decide_eq_true_eq, List.all_eq_true, wOk] at hg
        exact hg.1.2
      have HG : Hid (graphR ks (bs.map Yg.ct) = true) := hg
      have HKK := kide (And.intro k200 (And.intro b1000 hkk))
      have HMO := kide hmb
      have hin : decide (0 ≤ (mo : Int) ∧ (mo : Int) ≤ 20000) = true := decide_eq_true hmb
      rw [hin] at HIN
      have HCR := kide (fun (x : Int) (u : World) (hu : Below w.heap.size w u) => l10Crowd_any ⟨a1, c1, ks, a2, c2, bs⟩ x u (HZ.out.later hu) (fun y hy => (good y.ct (List.mem_map.2 ⟨y, hy, rfl⟩)).2.1) b1000)
      have HCS := kide (fun i : Nat => crowd_same (i := i) (fun s hs => (good s hs).1))
      simp only [Gz.val] at HCR
      clear good hg hmb hin
      obtain ⟨n1, hn1⟩ : ∃ n1, ks.length = n1 := ⟨_, rfl⟩
      obtain ⟨n2, hn2⟩ : ∃ n2, bs.length = n2 := ⟨_, rfl⟩
      rw [hn1] at k200
      rw [hn2] at b1000
      simp only [hn1, hn2] at X0 HB0 HGZ HCR
      rw [hn1, hn2]
      go_enter Try.func7, Try.ntmps7
      go_wp2_with fail
      have hbe : Below (w.alloc (.cells #[.slice a1 n1 c1, .slice a2 n2 c2] 32)).heap.size (w.alloc (.cells #[.slice a1 n1 c1, .slice a2 n2 c2] 32)) ((w.alloc (.cells #[.slice a1 n1 c1, .slice a2 n2 c2] 32)).alloc (.cells #[] 48)) := (Below.refl _ _).alloc (Nat.le_refl _) _
      have HE := kide (Bz.new (w.alloc (.cells #[.slice a1 n1 c1, .slice a2 n2 c2] 32)) #[] 48)
      rw [World.size_alloc] at HE
      have X1 := kide (X0.out.later hbe)
      have B1 := kide (HB0.out.trans (hbe.mono HB0.out.size))
      clear hbe X0 HB0
      generalize (w.alloc (.cells #[.slice a1 n1 c1, .slice a2 n2 c2] 32)).alloc (.cells #[] 48) = w1 at *
      refine Calls.mono (HGZ.out _ B1.out) ?_
      rintro e w2 ⟨rfl, hb2⟩
      have X2 := kide (X1.out.later hb2)
      have E2 := kide (HE.out.later hb2)
      have B2 := kide (B1.out.trans (hb2.mono B1.out.size))
      clear hb2 HGZ X1 HE B1
      go_wp2_with fail
      refine Calls.mono (HIN.out _) ?_
      rintro e w3 ⟨rfl, hw3⟩
      subst hw3
      clear HIN
      have x0 := X2.out.cell 0
      have x1 := X2.out.cell 1
      simp at x0 x1
      have lx := X2.out.lt
      go_wp2_with fail
      have hmk := make_words n1 (by omega)
      go_region
      all_goals
        go_wp2_with fail
        have hbA : Below w3.heap.size w3 (w3.alloc (Obj.cells (madeCells #[Value.int .i64 0, Value.slice none 0 0] (n1 * 2)) 48)) := (Below.refl _ _).alloc (Nat.le_refl _) _
        have hbB : Below w3.heap.size w3 ((w3.alloc (Obj.cells (madeCells #[Value.int .i64 0, Value.slice none 0 0] (n1 * 2)) 48)).alloc (Obj.cells #[Value.slice a1 n1 c1, Value.slice a2 n2 c2, Value.slice (some ⟨w3.heap.size, 0, none⟩) n1 n1, Value.slice none 0 0, Value.int .i64 0, Value.int .i64 (mo : Int), Value.bool false] 58)) := hbA.alloc (by simp) _
        have hbC : Below (w3.alloc (Obj.cells (madeCells #[Value.int .i64 0, Value.slice none 0 0] (n1 * 2)) 48)).heap.size (w3.alloc (Obj.cells (madeCells #[Value.int .i64 0, Value.slice none 0 0] (n1 * 2)) 48)) ((w3.alloc (Obj.cells (madeCells #[Value.int .i64 0, Value.slice none 0 0] (n1 * 2)) 48)).alloc (Obj.cells #[Value.slice a1 n1 c1, Value.slice a2 n2 c2, Value.slice (some ⟨w3.heap.size, 0, none⟩) n1 n1, Value.slice none 0 0, Value.int .i64 0, Value.int .i64 (mo : Int), Value.bool false] 58)) := (Below.refl _ _).alloc (Nat.le_refl _) _
        have PS : Ps w3 (((w3.alloc (Obj.cells (madeCells #[Value.int .i64 0, Value.slice none 0 0] (n1 * 2)) 48)).alloc (Obj.cells #[Value.slice a1 n1 c1, Value.slice a2 n2 c2, Value.slice (some ⟨w3.heap.size, 0, none⟩) n1 n1, Value.slice none 0 0, Value.int .i64 0, Value.int .i64 (mo : Int), Value.bool false] 58)).drew) ⟨a1, c1, ks, a2, c2, bs⟩ (w3.heap.size + 1) w3.heap.size n1 (.slice none 0 0) (narT ks (crG (bs.map Yg.ct)) 0) (fun _ => -1) 0 (mo : Int) false := by
          refine Ps.later (w := (w3.alloc (Obj.cells (madeCells #[Value.int .i64 0, Value.slice none 0 0] (n1 * 2)) 48)).alloc (Obj.cells #[Value.slice a1 n1 c1, Value.slice a2 n2 c2, Value.slice (some ⟨w3.heap.size, 0, none⟩) n1 n1, Value.slice none 0 0, Value.int .i64 0, Value.int .i64 (mo : Int), Value.bool false] 58)) ⟨?_, ⟨List.replicate n1 ⟨0, none, 0, []⟩, ?_, ?_⟩, OI.nilG _ _, fun i _ => .inl rfl, hbB, Nat.le_succ _⟩ ((Below.refl _ _).drew)
          · have h9 := Bz.new (w3.alloc (Obj.cells (madeCells #[Value.int .i64 0, Value.slice none 0 0] (n1 * 2)) 48)) #[Value.slice a1 n1 c1, Value.slice a2 n2 c2, Value.slice (some ⟨w3.heap.size, 0, none⟩) n1 n1, Value.slice none 0 0, Value.int .i64 0, Value.int .i64 (mo : Int), Value.bool false] 58
            rw [World.size_alloc] at h9
            simp only [hn1, hn2]
            exact h9
          · simp only [hn1]
            exact (Bs.made w3 n1 (by omega)).later hbC
          · simp only [hn1]
            exact hct_none ks n1
        have HPS := kide PS
        clear PS hbA hbB hbC hmk
        have HZ3 := kide (HZ.out.later B2.out)
        generalize ((w3.alloc (Obj.cells (madeCells #[Value.int .i64 0, Value.slice none 0 0] (n1 * 2)) 48)).alloc (Obj.cells #[Value.slice a1 n1 c1, Value.slice a2 n2 c2, Value.slice (some ⟨w3.heap.size, 0, none⟩) n1 n1, Value.slice none 0 0, Value.int .i64 0, Value.int .i64 (mo : Int), Value.bool false] 58)).drew = w4 at *
        obtain ⟨g, hg9⟩ : ∃ g, w3.heap.size = g := ⟨_, rfl⟩
        have HG9 := kide hg9
        rw [hg9] at HPS
        simp only [hg9]
        clear hg9 x0 x1 lx
        go_loopw [9] (fun q wr => ∃ (k : Nat) (nv : Value), k ≤ n1 ∧ q = .int .i64 (k : Int) ∧ Ps w3 wr ⟨a1, c1, ks, a2, c2, bs⟩ (g + 1) g n1 nv (narT ks (crG (bs.map Yg.ct)) k) (fun _ => -1) 0 (mo : Int) false) (fun q _ => n1 - (intOf q).toNat)
        case atStart => exact ⟨0, _, Nat.zero_le _, rfl, HPS.out⟩
        case round =>
          obtain ⟨k, nv, hk, rfl, hp⟩ := hrel
          have X4 := X2.out.later hp.bel
          have x0 := X4.cell 0
          have x1 := X4.cell 1
          simp at x0 x1
          have lx := X4.lt
          by_cases hlt : k < n1
          · have i0 : (k : Int) < (n1 : Int) := by omega
            have hlk : k < ks.length := by rw [hn1]; exact hlt
            obtain ⟨-, -, h9 | ⟨b, o, rfl, hc0⟩⟩ := HZ3.out.1.later hp.bel
            · simp only [] at h9; rw [h9] at hlk; simp at hlk
            simp only [] at hc0
            have q0 := hc0 k hlk
            have hx1 := hkk (ks.getD k 0) (by rw [List.getD, List.getElem?_eq_getElem hlk]; exact List.getElem_mem _)
            have hnr := narT_succ ks (crG (bs.map Yg.ct)) k
            unfold isNar at hnr
            have hcs := HCS.out k
            have hcc := kide (fun u hu => HCR.out (k : Int) u hu)
            rw [← hcs] at hcc
            have hcr : Hid (crF (setY [] ((bs.map Yg.ct).map nrmC)) k = crG (bs.map Yg.ct) k) := rfl
            rw [hcr.out] at hcc
            obtain ⟨cr, hcr2⟩ : ∃ cr, crG (bs.map Yg.ct) k = cr := ⟨_, rfl⟩
            rw [hcr2] at hcc hnr
            obtain ⟨x, hx⟩ : ∃ x, ks.getD k 0 = x := ⟨_, rfl⟩
            rw [hx] at hnr hx1 q0
            have lb := block_lt_of_cell q0
            simp only [] at lb
            have HNR := kide hnr
            have HP := kide hp
            have HBW := kide (B2.out.trans (hp.bel.mono B2.out.size))
            clear hnr hcs hcr hcr2 hc0 hp
            by_cases hx10 : x ≤ 10
            · obtain ⟨T, hT, hT1, hT2⟩ := pow_T hx1.1 hx10
              have hu : IntKind.u64.wrap x = x := wrap_uS hx1.1 hx1.2
              rw [hT, decide_eq_true hx10, Bool.true_and] at HNR
              have HT := kide hT
              clear hT
              go_wp2_with fail
              go_region_held3 (fun u => u.cell? ⟨w.heap.size, 0, none⟩ = some (Value.slice (some ⟨b, o, none⟩) n1 c1) ∧ u.cell? ⟨w.heap.size, 1, none⟩ = some (Value.slice a2 n2 c2) ∧ u.cell? ⟨b, o + k, none⟩ = some (Value.int .i64 x)) (first | (simp [*]; done) | exact ⟨(kcell ((Below.refl _ _).drew) _ _ lx).trans x0, (kcell ((Below.refl _ _).drew) _ _ lx).trans x1, (kcell ((Below.refl _ _).drew) _ _ lb).trans q0⟩)
                (first
                  | (go_at_call 27; refine Calls.mono (hcc.out _ (HBW.out.drew)) ?_; rintro e w6 ⟨rfl, hb6⟩; replace hb6 := kundrew hb6; have y0 := (kcell hb6 _ _ lx).trans x0; have y1 := (kcell hb6 _ _ lx).trans x1; have z0 := (kcell hb6 _ _ lb).trans q0; have HB6 := kide hb6; clear hb6))
              have H6 := HP.out.later HB6.out
              have p3 := H6.px.cell 3
              have f3 := H6.px.froz 3
              simp at p3
              have lp := H6.px.lt
              have HP6 := kide H6
              clear H6 y0 y1 z0 x0 x1 q0 lb lx
              by_cases hc : (T : Int) ≤ cr
              · rw [decide_eq_true hc, if_pos rfl] at HNR
                have hdc : IntKind.i64.wrap (2 ^ x.toNat) ≤ cr := le_of_eq_wrap hT2 hc
                have hul : (narT ks (crG (bs.map Yg.ct)) k).length ≤ 1073741824 := by have := narT_len ks (crG (bs.map Yg.ct)) k; omega
                have hsz : w3.heap.size ≤ (w6.alloc (Obj.cells #[Value.int .i64 (k : Int)] 2)).heap.size := by have := HP6.out.bel.size; simp; omega
                go_wp2_with (at_builtin; refine wpList_appI rfl _ _ rfl w3.heap.size nv (narT ks (crG (bs.map Yg.ct)) k) (k : Int) rfl (HP6.out.nar.later ((Below.refl _ _).alloc (Nat.le_refl _) _)) _ 1 rfl (by simp) hul hsz ?_)
                intro g5 cap5 w7 hos5 hg5 hat5
                obtain ⟨pn, x6⟩ := (HP6.out.later ((Below.refl _ _).alloc (Nat.le_refl _) (Obj.cells #[Value.int .i64 (k : Int)] 2))).push hos5 hg5
                have e0 := x6.cell 3
                have f0 := x6.froz 3
                simp at e0
                have PN := kide pn
                clear hos5 hg5 pn x6 p3 f3 lp hul hsz hat5
                go_wp2_with fail
                go_roundw
                case rel => exact ⟨k + 1, _, by omega, by go_num, by rw [HNR.out]; exact PN.out⟩
                case measure => simp [intOf]; omega
              · rw [decide_eq_false hc, if_neg (by simp)] at HNR
                have hdc : cr < IntKind.i64.wrap (2 ^ x.toNat) := lt_of_eq_wrap hT2 hc
                go_wp2_with fail
                go_roundw
                case rel => exact ⟨k + 1, nv, by omega, by go_num, by rw [HNR.out]; exact HP6.out⟩
                case measure => simp [intOf]; omega
            · have hx11 : decide (x ≤ 10) = false := decide_eq_false hx10
              rw [hx11, Bool.false_and, if_neg (by simp)] at HNR
              go_wp2_with fail
              go_quiet (fail)
              have HP6 := kide (HP.out.later (below_drewN (Below.refl _ _) nq))
              clear x0 x1 q0 lb lx
              generalize wr.drewN nq = w6 at *
              go_wp2_with fail
              go_roundw
              case rel => exact ⟨k + 1, nv, by omega, by go_num, by rw [HNR.out]; exact HP6.out⟩
              case measure => simp [intOf]; omega
          · have e : n1 = k := by omega
            subst e
            rw [← hn1] at hp
            obtain ⟨na, nc, rfl⟩ := hp.nar.formG
            have hnl : (narT ks (crG (bs.map Yg.ct)) ks.length).length ≤ 200 := Nat.le_trans (narT_len _ _ _) (by omega)
            have HV := sv_any (most := mo) HZ3.out HG.out rfl hnl (by have := HMO.out; omega) (narN ks (crG (bs.map Yg.ct)) ks.length) 0 (by rw [narT_narN, List.length_map]; simp) (fun j hj => narT_at hj) (fun v hv => ⟨(narN_mem.1 hv).1, by have h9 := (narN_mem.1 hv).2; unfold isNar at h9; rw [Bool.and_eq_true, decide_eq_true_eq] at h9; exact h9.1⟩) (narN_nodup _ _ _) (fun _ => -1) 0 wr (Nat.zero_le _) (fun _ _ => rfl) hp
            obtain ⟨r, hr⟩ : ∃ r, srcR ks (bs.map Yg.ct) mo = r := ⟨_, rfl⟩
            have hr' : visF (fwP ks (xoG (bs.map Yg.ct)) (bdG (bs.map Yg.ct))) mo (narN ks (crG (bs.map Yg.ct)) ks.length) (fun _ => -1) 0 = r := hr
            rw [hr'] at HV
            have HS := kide (src_left (ks := ks) (bs := bs.map Yg.ct) (most := mo) HG.out)
            have HSG := kide (fun i => src_good (ks := ks) (bs := bs.map Yg.ct) (most := mo) i)
            have HFN : Hid (finR ks (bs.map Yg.ct) mo = flF (fwP ks (xoG (bs.map Yg.ct)) (bdG (bs.map Yg.ct))) r.2.1 ks.length) := by show _ = _; unfold finR; rw [hr]
            have hcode := src_code (ks := ks) (bs := bs.map Yg.ct) (most := mo)
            have hmany := src_many (ks := ks) (bs := bs.map Yg.ct) (most := mo)
            have HRE := kide hr
            rw [hr] at HRR HS HSG hcode hmany
            clear hr' hp hr
            go_wp2_with fail
            refine Calls.mono HV ?_
            rintro e w5 ⟨rfl, τ, hτ, hp⟩
            have p6 := hp.px.cell 6
            have p4 := hp.px.cell 4
            simp at p6 p4
            have lp := hp.px.lt
            have E5 := kide (E2.out.later hp.bel)
            have B5 := kide (B2.out.trans (hp.bel.mono B2.out.size))
            have HP := kide hp
            have HT9 := kide hτ
            clear HV hp hτ x0 x1 lx X4
            by_cases h3 : r.1 = 3
            · rw [decide_eq_true h3] at p6
              go_wp2_with fail
              refine bodyPost_ret (v := .tuple #[.slice (some ⟨w.heap.size + 1, 0, none⟩) 0 0, .int .i64 (mo : Int), .int .i64 3]) (by simp [results, Try.results7, go_sem]) rfl ?_
              rw [← HRR.out, if_neg (by omega), hmany h3, h3]
              exact ⟨_, [], rfl, bs_empty E5.out (by omega), rfl, B5.out⟩
            · rw [decide_eq_false h3] at p6
              by_cases h0 : r.1 = 0
              · rw [decide_eq_true h0]
                go_wp2_with fail
                have hl0 := HS.out h0
                have HL0 := kide hl0
                have HP0 : Hid (Ps w3 w5 ⟨a1, c1, ks, a2, c2, bs⟩ (g + 1) g ks.length (.slice na (narT ks (crG (bs.map Yg.ct)) ks.length).length nc) (narT ks (crG (bs.map Yg.ct)) ks.length) (flF (fwP ks (xoG (bs.map Yg.ct)) (bdG (bs.map Yg.ct))) r.2.1 0) (r.2.2 : Int) (mo : Int) false) := by
                  have h9 := HP.out
                  rw [HT9.out h3, decide_eq_false h3] at h9
                  exact h9
                clear hl0 HP HT9 p6 p4 lp
                go_loopw [11] (fun q wr => ∃ (k : Nat), k ≤ n1 ∧ q = .int .i64 (k : Int) ∧ Ps w3 wr ⟨a1, c1, ks, a2, c2, bs⟩ (g + 1) g ks.length (.slice na (narT ks (crG (bs.map Yg.ct)) ks.length).length nc) (narT ks (crG (bs.map Yg.ct)) ks.length) (flF (fwP ks (xoG (bs.map Yg.ct)) (bdG (bs.map Yg.ct))) r.2.1 k) (r.2.2 : Int) (mo : Int) false) (fun q _ => n1 - (intOf q).toNat)
                case atStart => exact ⟨0, Nat.zero_le _, rfl, HP0.out⟩
                case round =>
                  obtain ⟨k, hk, rfl, hp⟩ := hrel
                  have X4 := X2.out.later hp.bel
                  have x0 := X4.cell 0
                  have x1 := X4.cell 1
                  have p2 := hp.px.cell 2
                  have p4 := hp.px.cell 4
                  simp [hn1] at x0 x1 p2 p4
                  have lx := X4.lt
                  have lp := hp.px.lt
                  by_cases hlt : k < n1
                  · have i0 : (k : Int) < (n1 : Int) := by omega
                    have hlk : k < ks.length := by rw [hn1]; exact hlt
                    obtain ⟨-, -, h9 | ⟨b, o, rfl, hc0⟩⟩ := HZ3.out.1.later hp.bel
                    · simp only [] at h9; rw [h9] at hlk; simp at hlk
                    simp only [] at hc0
                    have q0 := hc0 k hlk
                    have hx1 := hkk (ks.getD k 0) (by rw [List.getD, List.getElem?_eq_getElem hlk]; exact List.getElem_mem _)
                    obtain ⟨x, hx⟩ : ∃ x, ks.getD k 0 = x := ⟨_, rfl⟩
                    rw [hx] at hx1 q0
                    have lb := block_lt_of_cell q0
                    simp only [] at lb
                    obtain ⟨l, hbs, hlc, hll⟩ := hp.len
                    simp only [] at hbs hlc hll
                    obtain ⟨e9, ge⟩ : ∃ e, l[k]? = some e := ⟨l[k]'(by rw [hll]; exact hlk), List.getElem?_eq_getElem _⟩
                    have hect : e9.ct = (hct ks (flF (fwP ks (xoG (bs.map Yg.ct)) (bdG (bs.map Yg.ct))) r.2.1 k) ks.length).getD k (0, []) := by
                      rw [← hlc, List.getD, List.getElem?_map, ge]
                      rfl
                    rw [hct_get hlk] at hect
                    obtain ⟨g', c', eg, d0, d9⟩ := hbs.row.at ge
                    have eg1 : g' = g := by injection eg with e1; injection e1 with e2; injection e2 with e3; exact e3.symm
                    rw [eg1] at d0 d9
                    obtain ⟨cur, hcur⟩ := hbs.row.typed (b := g) rfl
                    have HCUR := kide hcur
                    have lg := block_lt_of_cell d0
                    simp only [] at lg
                    have hne := hp.ne
                    have HPK := kide hp
                    have HX4 := kide X4
                    clear eg eg1 hcur ge hlc hbs hc0 hp X4
                    by_cases hno : flF (fwP ks (xoG (bs.map Yg.ct)) (bdG (bs.map Yg.ct))) r.2.1 k k = -1
                    · rw [if_pos hno] at hect
                      have hw9 : e9.wd = 0 := congrArg Prod.fst hect
                      rw [hw9] at d0
                      have hσk : r.2.1 k = -1 := by rw [← flF_far (fw := fwP ks (xoG (bs.map Yg.ct)) (bdG (bs.map Yg.ct))) (σ := r.2.1) (Nat.le_refl k)]; exact hno
                      obtain ⟨y, hyM, hyf, hyl, hy0⟩ := first_free (HL0.out k hlk hσk (flF (fwP ks (xoG (bs.map Yg.ct)) (bdG (bs.map Yg.ct))) r.2.1 k))
                      have hstep : flF (fwP ks (xoG (bs.map Yg.ct)) (bdG (bs.map Yg.ct))) r.2.1 (k + 1) = upd (flF (fwP ks (xoG (bs.map Yg.ct)) (bdG (bs.map Yg.ct))) r.2.1 k) k (y : Int) := by
                        rw [show flF (fwP ks (xoG (bs.map Yg.ct)) (bdG (bs.map Yg.ct))) r.2.1 (k + 1) = _ from if_pos hno]
                        congr 1
                      rw [hx] at hyM
                      have hyb := pow_min hx1.1 hyM
                      have hfree : ∀ i : Nat, i ≤ y → frS (bs.map Yg.ct) (hct ks (flF (fwP ks (xoG (bs.map Yg.ct)) (bdG (bs.map Yg.ct))) r.2.1 k) ks.length) (k : Int) x (numW x (i : Int)) = decide (i = y) := fun i hi => by
                        have h9 := free_same HG.out HPK.out.gd hlk (k := i) (by omega) (by rw [hx]; exact Nat.lt_of_le_of_lt hi hyb.2)
                        rw [hx] at h9
                        rw [h9]
                        show frW (xoG (bs.map Yg.ct) k) (bdG (bs.map Yg.ct) k) _ i = _
                        by_cases e : i = y
                        · rw [e, hyf]; simp
                        · rw [hyl i (by omega)]; simp [e]
                      have HFR := kide hfree
                      have HST := kide hstep
                      have HYB := kide hyb
                      have hof := of_in (V := x) (x := 0) hx1.1 hx1.2 (Int.le_refl _) (by simpa using Nat.two_pow_pos _)
                      clear hect hw9 hyM hyf hyl hy0 hstep hfree hyb
                      go_wp2_with fail
                      refine Calls.mono (specOf_any x 0 wr (by omega)) ?_
                      rw [hof]
                      rintro e w7 ⟨aw, cw, rfl, hfr, hb7⟩
                      simp only [] at hfr ⊢
                      have N7 : Nw w7 wr.heap.size aw (numW x 0) := by
                        rcases hfr with ⟨h1, h2⟩ | ⟨gg, h1, h2, h3⟩
                        · rw [h1, h2]; exact .inl ⟨rfl, fun x h => by cases h⟩
                        · rw [h1]; exact h3.nw h2
                      clear hfr hof p2 p4 d0 d9 x0 x1 q0
                      go_wp2_with fail
                      have hbx : Below w7.heap.size w7 (w7.alloc (Obj.cells #[Value.int .i64 x, Value.slice aw (numW x 0).length cw] 48)) := (Below.refl _ _).alloc (Nat.le_refl _) _
                      have XW := kide (Bz.new w7 #[Value.int .i64 x, Value.slice aw (numW x 0).length cw] 48)
                      have HB8 := kide (hb7.trans (hbx.mono hb7.size))
                      have N8 := kide (N7.later hbx)
                      have hBx : wr.heap.size ≤ w7.heap.size := hb7.size
                      clear hb7 N7 hbx
                      generalize hBX : w7.heap.size = Bx at *
                      generalize w7.alloc (Obj.cells #[Value.int .i64 x, Value.slice aw (numW x 0).length cw] 48) = w8 at *
                      go_loopg [] y (fun gg wq => ∃ (j : Nat) (aw : Option Addr) (cw : Nat), j ≤ y ∧ y - j ≤ gg ∧ Bz wq Bx #[.int .i64 x, .slice aw (numW x (j : Int)).length cw] 48 ∧ Nw wq wr.heap.size aw (numW x (j : Int)) ∧ Below wr.heap.size wr wq)
                      case atStart => exact ⟨0, aw, cw, Nat.zero_le _, by omega, XW.out, N8.out, HB8.out⟩
                      case round =>
                        obtain ⟨j, aw, cw, hj, hg, hxw, hnw, hbq⟩ := hrel
                        have hpq := HPK.out.later hbq
                        have hxq := HX4.out.later hbq
                        obtain ⟨hs, hrd, hct, hsl⟩ := hpq.rd hkk (by simp only []; omega)
                        simp only [] at hct hsl
                        have hff := HFR.out j hj
                        have hjb : j < 1024 ∧ j < 2 ^ x.toNat := ⟨Nat.lt_of_le_of_lt hj HYB.out.1, Nat.lt_of_le_of_lt hj HYB.out.2⟩
                        have HCALL := kide (fun u (hu : Below wr.heap.size wr u) => l10Free_any ⟨some ⟨b, o, none⟩, c1, ks, a2, c2, bs⟩ (some ⟨g, 0, none⟩) aw ks.length cw hs (k : Int) x (numW x (j : Int)) u ((HZ3.out.later hpq.bel).later hu) (hrd.later hu) ((hnw.rd (numW_ok _ _).1 (numW_ok _ _).2).later hu) (fun y hy => ((graph_good HG.out).2.2 y.ct (List.mem_map.2 ⟨y, hy, rfl⟩)).1) hsl (by simp only []; have := HKK.out.1; omega) HKK.out.2.1)
                        obtain ⟨BJ, hBJ⟩ : ∃ BJ, decide (j = y) = BJ := ⟨_, rfl⟩
                        rw [hBJ] at hff
                        simp only [Gz.val, hct, hff] at HCALL
                        simp only [hsl, hn1, hn2] at HCALL
                        have x0 := hxq.cell 0
                        have x1 := hxq.cell 1
                        have p2 := hpq.px.cell 2
                        have t0 := hxw.cell 0
                        have t1 := hxw.cell 1
                        simp [hn1] at x0 x1 p2 t0 t1
                        have lxq := hxq.lt
                        have lpq := hpq.px.lt
                        have ltq := hxw.lt
                        have HXW := kide hxw
                        have HNW := kide hnw
                        have HBQ := kide hbq
                        have HJB := kide hjb
                        have HBJ := kide hBJ
                        clear hxw hnw hbq hrd hct hff hpq hxq hjb hBJ
                        go_wp2_with fail
                        go_region_held3 (fun u => u.cell? ⟨w.heap.size, 0, none⟩ = some (Value.slice (some ⟨b, o, none⟩) n1 c1) ∧ u.cell? ⟨w.heap.size, 1, none⟩ = some (Value.slice a2 n2 c2) ∧ u.cell? ⟨g + 1, 2, none⟩ = some (Value.slice (some ⟨g, 0, none⟩) n1 n1) ∧ u.cell? ⟨Bx, 0, none⟩ = some (Value.int .i64 x) ∧ u.cell? ⟨Bx, 1, none⟩ = some (Value.slice aw (numW x (j : Int)).length cw)) (first | (simp [*]; done) | exact ⟨(kcell ((Below.refl _ _).drew) _ _ lxq).trans x0, (kcell ((Below.refl _ _).drew) _ _ lxq).trans x1, (kcell ((Below.refl _ _).drew) _ _ lpq).trans p2, (kcell ((Below.refl _ _).drew) _ _ ltq).trans t0, (kcell ((Below.refl _ _).drew) _ _ ltq).trans t1⟩)
                          (first
                            | (go_at_call 29; refine Calls.mono (HCALL.out _ ((Below.refl _ _).drew)) ?_; rintro e wr6 ⟨rfl, hb6⟩; replace hb6 := kundrew hb6; have y0 := (kcell hb6 _ _ lxq).trans x0; have y1 := (kcell hb6 _ _ lxq).trans x1; have y2 := (kcell hb6 _ _ lpq).trans p2; have z0 := (kcell hb6 _ _ ltq).trans t0; have z1 := (kcell hb6 _ _ ltq).trans t1; have HB6 := kide hb6; clear hb6))
                        clear x0 x1 p2 t0 t1
                        have hb26 := HBQ.out.trans (HB6.out.mono HBQ.out.size)
                        have lx6 := Nat.lt_of_lt_of_le ltq HB6.out.size
                        by_cases hjy : j = y
                        · have hBJ := HBJ.out
                          rw [decide_eq_true hjy] at hBJ
                          rw [← hBJ]
                          clear hBJ HBJ
                          subst hjy
                          have H6 := HPK.out.later hb26
                          obtain ⟨l6, hbs6, hlc6, hll6⟩ := H6.len
                          simp only [] at hll6
                          obtain ⟨e6, ge6⟩ : ∃ e, l6[k]? = some e := ⟨l6[k]'(by rw [hll6]; exact hlk), List.getElem?_eq_getElem _⟩
                          obtain ⟨g', c', eg, d0, d9⟩ := hbs6.row.at ge6
                          have eg1 : g' = g := by injection eg with e1; injection e1 with e2; injection e2 with e3; exact e3.symm
                          rw [eg1] at d0 d9
                          obtain ⟨cur6, hcur6⟩ := hbs6.row.typed (b := g) rfl
                          have r0 := frozen_of_row wr6 g (k * 2) _ _ hcur6
                          have r1 := frozen_of_row wr6 g (k * 2 + 1) _ _ hcur6
                          have lg6 := block_lt_of_cell d0
                          simp only [] at lg6
                          have lp6 := H6.px.lt
                          have hP7 := HPK.out.put (v := k) (y := (j : Int)) (x := ⟨x, aw, cw, numW x (j : Int)⟩) hb26 (HNW.out.later HB6.out) (by rw [if_neg (by omega)]; simp only [hx]; rfl) (fun _ => .inr ⟨by omega, by have := HYB.out.1; omega, by simp only [hx]; exact HYB.out.2⟩)
                          rw [← HST.out] at hP7
                          simp only [] at hP7
                          have HP7 := kide (hP7.later (show Below ((wr6.setCell ⟨g, k * 2, none⟩ (.int .i64 x)).setCell ⟨g, k * 2 + 1, none⟩ (.slice aw (numW x (j : Int)).length cw)).heap.size ((wr6.setCell ⟨g, k * 2, none⟩ (.int .i64 x)).setCell ⟨g, k * 2 + 1, none⟩ (.slice aw (numW x (j : Int)).length cw)) ((wr6.setCell ⟨g, k * 2, none⟩ (.int .i64 x)).setCell ⟨g, k * 2 + 1, none⟩ (.slice aw (numW x (j : Int)).length cw)).drew from (Below.refl _ _).drew))
                          clear eg eg1 hcur6 ge6 hlc6 hbs6 H6 hP7
                          go_wp2_with fail
                          go_region
                          all_goals go_wp2_with fail
                          go_roundw
                          case rel => exact ⟨k + 1, by omega, by go_num, HP7.out⟩
                          case measure => simp [intOf]; omega
                        · have hBJ := HBJ.out
                          rw [decide_eq_false hjy] at hBJ
                          rw [← hBJ]
                          clear hBJ HBJ
                          have hnx := next_num hx1.1 hx1.2 (j := j) (Nat.lt_of_le_of_lt (show j + 1 ≤ y by omega) HYB.out.2)
                          rw [show ((j + 1 : Nat) : Int) = (j : Int) + 1 by push_cast; rfl] at hnx
                          have hrx := ((HNW.out.rd (numW_ok _ _).1 (numW_ok _ _).2).later HB6.out)
                          go_wp2_with fail
                          refine Calls.mono (specNext_any x aw cw (numW x (j : Int)) wr6 hrx) ?_
                          rw [hnx]
                          rintro e w9 ⟨av, cv, rfl, hfr, hb9⟩
                          simp only [] at hfr ⊢
                          have N9 : Nw w9 wr6.heap.size av (numW x ((j : Int) + 1)) := by
                            rcases hfr with ⟨h1, h2⟩ | ⟨gg, h1, h2, h3⟩
                            · rw [h1, h2]; exact .inl ⟨rfl, fun x h => by cases h⟩
                            · rw [h1]; exact h3.nw h2
                          have hXW := (HXW.out.later HB6.out).later hb9
                          have t0 := hXW.cell 0
                          have t1 := hXW.cell 1
                          have u0 := hXW.froz 0
                          have u1 := hXW.froz 1
                          simp at t0 t1
                          have lt9 := hXW.lt
                          have hb29 := hb26.trans (hb9.mono hb26.size)
                          have hb2a := (hb29.setCell (p := ⟨Bx, 0, none⟩) hBx (.int .i64 x)).setCell (p := ⟨Bx, 1, none⟩) hBx (.slice av (numW x ((j : Int) + 1)).length cv)
                          have NA := nw_set (nw_set (N9.mono hb26.size) hXW (by decide) 0 (.int .i64 x)) (hXW.set 0 (.int .i64 x)) (by decide) 1 (.slice av (numW x ((j : Int) + 1)).length cv)
                          have XA := (hXW.set 0 (.int .i64 x)).set 1 (.slice av (numW x ((j : Int) + 1)).length cv)
                          have HNA := kide NA
                          have HXA := kide XA
                          have HBA := kide hb2a
                          clear hfr hb9 hXW NA XA hb2a hb29 N9 hnx hrx y0 y1 y2 z0 z1
                          go_wp2_with fail
                          go_roundg (y - (j + 1))
                          case rel => exact ⟨j + 1, av, cv, by omega, Nat.le_refl _, by rw [show ((j + 1 : Nat) : Int) = (j : Int) + 1 by push_cast; rfl]; exact HXA.out, by rw [show ((j + 1 : Nat) : Int) = (j : Int) + 1 by push_cast; rfl]; exact HNA.out, HBA.out⟩
                          case measure => omega
                    · rw [if_neg hno, hx] at hect
                      have hw9 : e9.wd = x := congrArg Prod.fst hect
                      rw [hw9] at d0
                      have hsk : flF (fwP ks (xoG (bs.map Yg.ct)) (bdG (bs.map Yg.ct))) r.2.1 (k + 1) = flF (fwP ks (xoG (bs.map Yg.ct)) (bdG (bs.map Yg.ct))) r.2.1 k := if_neg hno
                      have HSK := kide hsk
                      have hx0 : x > 0 := by omega
                      clear hect hw9 hsk
                      go_wp2_with fail
                      go_roundw
                      case rel => exact ⟨k + 1, by omega, by go_num, by rw [HSK.out]; exact HPK.out⟩
                      case measure => simp [intOf]; omega
                  · have e : n1 = k := by omega
                    subst e
                    obtain ⟨l, hbs, hlc, hll⟩ := hp.len
                    simp only [] at hbs hlc hll
                    have hfn : flF (fwP ks (xoG (bs.map Yg.ct)) (bdG (bs.map Yg.ct))) r.2.1 n1 = finR ks (bs.map Yg.ct) mo := by rw [HFN.out, hn1]
                    rw [hfn, hct_wct (fun i hi => by have := (fin_good (ks := ks) (bs := bs.map Yg.ct) (most := mo) HG.out (by rw [HRE.out]; exact h0) i hi).1; omega)] at hlc
                    rw [hn1] at hbs
                    have HBS := kide hbs
                    have HLC := kide hlc
                    have HB9 := kide (B2.out.trans (hp.bel.mono B2.out.size))
                    clear hp hbs hlc hfn
                    go_wp2_with fail
                    go_quiet (fail)
                    go_wp2_with fail
                    refine bodyPost_ret (v := .tuple #[.slice (some ⟨g, 0, none⟩) n1 n1, .int .i64 (r.2.2 : Int), .int .i64 0]) (by simp [results, Try.results7, go_sem]) rfl ?_
                    rw [← HRR.out, if_pos h0]
                    exact ⟨_, l, rfl, (HBS.out.later (below_drewN (Below.refl _ _) _)).mono B2.out.size, HLC.out, below_drewN HB9.out _⟩
              · rw [decide_eq_false h0]
                have h2 : r.1 = 2 := by omega
                go_wp2_with fail
                go_quiet (fail)
                go_wp2_with fail
                refine bodyPost_ret (v := .tuple #[.slice (some ⟨w.heap.size + 1, 0, none⟩) 0 0, .int .i64 (r.2.2 : Int), .int .i64 2]) (by simp [results, Try.results7, go_sem]) rfl ?_
                rw [← HRR.out, if_neg h0, h2]
                exact ⟨_, [], rfl, bs_empty (E5.out.later (below_drewN (Below.refl _ _) _)) (by omega), rfl, below_drewN B5.out _⟩
    · rw [colR_no2 hmb]
      have hin : decide (0 ≤ most ∧ most ≤ 20000) = false := decide_eq_false hmb
      rw [hin] at HIN
      clear hin hmb hg
      have hbe : Below (w.alloc (.cells #[.slice a1 ks.length c1, .slice a2 bs.length c2] 32)).heap.size (w.alloc (.cells #[.slice a1 ks.length c1, .slice a2 bs.length c2] 32)) ((w.alloc (.cells #[.slice a1 ks.length c1, .slice a2 bs.length c2] 32)).alloc (.cells #[] 48)) := (Below.refl _ _).alloc (Nat.le_refl _) _
      have HE := kide (Bz.new (w.alloc (.cells #[.slice a1 ks.length c1, .slice a2 bs.length c2] 32)) #[] 48)
      rw [World.size_alloc] at HE
      have B1 := kide (HB0.out.trans (hbe.mono HB0.out.size))
      clear hbe X0 HB0
      go_enter Try.func7, Try.ntmps7
      go_wp2_with fail
      generalize (w.alloc (.cells #[.slice a1 ks.length c1, .slice a2 bs.length c2] 32)).alloc (.cells #[] 48) = w1 at *
      refine Calls.mono (HGZ.out _ B1.out) ?_
      rintro e w2 ⟨rfl, hb2⟩
      have E2 := kide (HE.out.later hb2)
      have B2 := kide (B1.out.trans (hb2.mono B1.out.size))
      clear hb2 HGZ HE B1
      go_wp2_with fail
      refine Calls.mono (HIN.out _) ?_
      rintro e w3 ⟨rfl, hw3⟩
      subst hw3
      clear HIN
      go_wp2_with fail
      refine bodyPost_ret (v := .tuple #[.slice (some ⟨w.heap.size + 1, 0, none⟩) 0 0, .int .i64 (-1), .int .i64 1]) (by simp [results, Try.results7, go_sem]) rfl ?_
      exact ⟨_, [], rfl, bs_empty E2.out (by omega), rfl, B2.out⟩
  · rw [colR_no1 hg]
    have hg' : graphR ks (bs.map Yg.ct) = false := by simpa using hg
    rw [hg'] at HGZ
    clear hg hg'
    have hbe : Below (w.alloc (.cells #[.slice a1 ks.length c1, .slice a2 bs.length c2] 32)).heap.size (w.alloc (.cells #[.slice a1 ks.length c1, .slice a2 bs.length c2] 32)) ((w.alloc (.cells #[.slice a1 ks.length c1, .slice a2 bs.length c2] 32)).alloc (.cells #[] 48)) := (Below.refl _ _).alloc (Nat.le_refl _) _
    have HE := kide (Bz.new (w.alloc (.cells #[.slice a1 ks.length c1, .slice a2 bs.length c2] 32)) #[] 48)
    rw [World.size_alloc] at HE
    have B1 := kide (HB0.out.trans (hbe.mono HB0.out.size))
    clear hbe X0 HB0
    go_enter Try.func7, Try.ntmps7
    go_wp2_with fail
    generalize (w.alloc (.cells #[.slice a1 ks.length c1, .slice a2 bs.length c2] 32)).alloc (.cells #[] 48) = w1 at *
    refine Calls.mono (HGZ.out _ B1.out) ?_
    rintro e w2 ⟨rfl, hb2⟩
    have E2 := kide (HE.out.later hb2)
    have B2 := kide (B1.out.trans (hb2.mono B1.out.size))
    clear hb2 HGZ HE B1
    go_wp2_with fail
    refine bodyPost_ret (v := .tuple #[.slice (some ⟨w.heap.size + 1, 0, none⟩) 0 0, .int .i64 (-1), .int .i64 1]) (by simp [results, Try.results7, go_sem]) rfl ?_
    exact ⟨_, [], rfl, bs_empty E2.out (by omega), rfl, B2.out⟩

end Go.Proofs.Ythoiajpbpoglfaa
