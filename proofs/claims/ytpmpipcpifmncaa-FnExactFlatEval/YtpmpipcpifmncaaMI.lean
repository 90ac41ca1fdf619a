/- What the given FlatOk answers. -/
import Derived.Test.YtpmpipcpifmncaaMF
import Derived.Test.YtpmpipcpifmncaaMG
namespace Go.Proofs.Ytpmpipcpifmncaa
set_option linter.unusedVariables false
set_option linter.unusedSimpArgs false
open Go.RowKit

set_option maxHeartbeats 1000000 in
theorem specFlat_any (a da : Option Addr) (c dc n : Nat) (ds : List Dc) (xs : List Sg) (w : World) (hd : RdD w da ds) (hr : RdS w a xs) (hn : xs.length = n) :
    Calls Try.prog 38 #[.slice da ds.length dc, .slice a n c] w fun e w' => e = .returned (.bool (flatR ds (xs.map Sg.ct))) ∧ Below w.heap.size w w' := by
  have HDC := kide (specDecls_any da dc ds w hd)
  have hl1 := hd.1
  have hl2 := hr.1
  rw [hn] at hl2
  rw [flatR_form]
  cases hD : dclR ds with
  | false =>
    rw [hD] at HDC
    clear hD
    go_enter Try.func38, Try.ntmps38
    go_wp2_with fail
    refine Calls.mono HDC.out ?_
    rintro e w1 ⟨rfl, hb1⟩
    go_wp2_with fail
    go_ret
    exact ⟨rfl, hb1⟩
  | true =>
    rw [hD] at HDC
    by_cases h1 : n < 1
    · have hR : (true && formR ds (xs.map Sg.ct)) = false := by
        have : xs = [] := List.eq_nil_of_length_eq_zero (by omega)
        simp [formR, this]
      rw [hR]
      clear hR hD
      go_enter Try.func38, Try.ntmps38
      go_wp2_with fail
      refine Calls.mono HDC.out ?_
      rintro e w1 ⟨rfl, hb1⟩
      go_wp2_with fail
      go_ret
      exact ⟨rfl, hb1⟩
    by_cases h2 : 2000 < n
    · have hR : (true && formR ds (xs.map Sg.ct)) = false := by
        have h : decide ((xs.map Sg.ct).length ≤ 2000) = false := decide_eq_false (by simp; omega)
        simp only [formR, h]; simp
      rw [hR]
      clear hR hD
      go_enter Try.func38, Try.ntmps38
      go_wp2_with fail
      refine Calls.mono HDC.out ?_
      rintro e w1 ⟨rfl, hb1⟩
      go_wp2_with fail
      go_ret
      exact ⟨rfl, hb1⟩
    generalize hZ : flAt ds (xs.map Sg.ct) 0 = Z
    have hR : (true && formR ds (xs.map Sg.ct)) = (Z && decide (sumS ((xs.map Sg.ct).take n) ≤ 4096)) := by
      have e1 : decide (1 ≤ (xs.map Sg.ct).length) = true := decide_eq_true (by simp; omega)
      have e2 : decide ((xs.map Sg.ct).length ≤ 2000) = true := decide_eq_true (by simp; omega)
      rw [List.take_of_length_le (by simp [hn])]
      simp only [formR, e1, e2, hZ, Bool.true_and]
    rw [hR]
    have HZ := kide hZ
    have HD := kide hd
    have HR := kide hr
    have HN := kide hn
    have HDCL := kide hD
    clear hZ hR hd hr hn hD
    go_enter Try.func38, Try.ntmps38
    go_wp2_with fail
    refine Calls.mono HDC.out ?_
    rintro e w1 ⟨rfl, hb1⟩
    have B1 := kide hb1
    clear hb1 HDC
    go_wp2_with fail
    go_loopw [5, 6] (fun q i wr => ∃ k : Nat, k ≤ n ∧ i = .int .i64 (k : Int) ∧ q = .int .i64 (sumS ((xs.map Sg.ct).take k)) ∧ 0 ≤ sumS ((xs.map Sg.ct).take k) ∧ sumS ((xs.map Sg.ct).take k) ≤ 4096 * (k : Int) ∧ flAt ds (xs.map Sg.ct) k = Z ∧ (∀ (i : Nat) (x : Sg), i < k → xs[i]? = some x → sgOk ds x.ct = true) ∧ Below w.heap.size w wr) (fun _ i _ => n - (intOf i).toNat)
    case atStart => exact ⟨0, Nat.zero_le _, rfl, by simp [sumS], by simp [sumS], by simp [sumS], HZ.out, fun i x h => by omega, B1.out⟩
    case round =>
      obtain ⟨k, hk, rfl, rfl, hq0, hq1, hz, hall, hbel⟩ := hrel
      have HB := kide hbel
      have HAL := kide hall
      by_cases hlt : k < n
      · obtain ⟨-, h | ⟨b2, o2, rfl, hc2⟩⟩ := HR.out
        · have := HN.out; subst h; simp at this; omega
        obtain ⟨⟨s, a1, c1⟩, gx⟩ : ∃ x, xs[k]? = some x := ⟨xs[k]'(by rw [HN.out]; exact hlt), List.getElem?_eq_getElem _⟩
        obtain ⟨⟨p0, p1, p2, p3, p4⟩, pr, -⟩ := (hc2 k _ gx).later hbel
        simp only [Sg.hd] at p0 p1 p2 p3 p4 pr
        have HOK := kide (l5Seg_any s a1 da c1 dc ds wr pr (HD.out.later hbel) HDCL.out)
        have GX := kide gx
        have gct : (xs.map Sg.ct)[k]? = some s := by rw [List.getElem?_map, gx]; rfl
        have hst := sumS_take gct
        have HST := kide hst
        have i0 : (k : Int) < (n : Int) := by omega
        have lb2 : b2 < wr.heap.size := block_lt_of_cell p0
        generalize sumS ((xs.map Sg.ct).take k) = Q at *
        cases hok : sgOk ds s with
        | false =>
          rw [hok] at HOK
          have HF : Hid (Z = false) := by
            show _ = _
            rw [← hz]
            cases k with
            | zero => rw [flAt_zero gct, hok]; rfl
            | succ k =>
              have hq : (xs.map Sg.ct)[k]? = some _ := List.getElem?_eq_getElem (by simp; have := HN.out; omega)
              rw [flAt_succ hq gct, hok]; rfl
          obtain ⟨v, lo, wd, bw, ws⟩ := s
          simp only [] at p0 p1 p2 p3 p4 HOK
          clear hc2 gx gct hz hall hbel HZ pr hok GX hst HST
          go_wp2_with fail
          refine Calls.mono HOK.out ?_
          rintro e w3 ⟨rfl, hb3⟩
          go_wp2_with fail
          go_ret
          exact ⟨ret_bool (by rw [HF.out]; rfl), HB.out.trans (hb3.mono HB.out.size)⟩
        | true =>
          rw [hok] at HOK
          have hbs := sgOk_bounds HDCL.out hok
          have HOKS := kide hok
          cases k with
          | zero =>
            rw [flAt_zero gct, hok, Bool.true_and] at hz
            have HZ1 := kide hz
            rw [Nat.zero_mul, Nat.add_zero] at p0 p1 p2 p3 p4
            obtain ⟨v, lo, wd, bw, ws⟩ := s
            simp only [] at p0 p1 p2 p3 p4 HOK hst hbs HST
            obtain ⟨hb1', hb2', -, -⟩ := hbs
            clear hc2 gx gct hz hall hbel HZ pr hok hst
            go_wp2_with fail
            refine Calls.mono HOK.out ?_
            rintro e w3 ⟨rfl, hb3⟩
            have x0 := (kcell hb3 b2 o2 lb2).trans p0
            have x1 := (kcell hb3 b2 (o2 + 1) lb2).trans p1
            have x2 := (kcell hb3 b2 (o2 + 2) lb2).trans p2
            have HB3 := kide (HB.out.trans (hb3.mono HB.out.size))
            clear hb3 p0 p1 p2 p3 p4
            go_wp2_with fail
            go_quiet (fail)
            go_wp2_with fail
            go_roundw
            case rel =>
              refine ⟨1, by omega, by go_num, by rw [HST.out], by rw [HST.out]; omega, by rw [HST.out]; omega, HZ1.out, fun i x hi hx => ?_, below_drewN HB3.out _⟩
              have : i = 0 := by omega
              subst this
              rw [GX.out] at hx
              cases hx
              exact HOKS.out
            case measure => simp [intOf]; omega
          | succ j =>
            obtain ⟨⟨s2, a2, cc2⟩, gx2⟩ : ∃ x, xs[j]? = some x := ⟨xs[j]'(by rw [HN.out]; omega), List.getElem?_eq_getElem _⟩
            obtain ⟨⟨q0, q1, q2, -⟩, -⟩ := (hc2 j _ gx2).later hbel
            simp only [Sg.hd] at q0 q1 q2
            have gct2 : (xs.map Sg.ct)[j]? = some s2 := by rw [List.getElem?_map, gx2]; rfl
            have hs2 := hall j _ (by omega) gx2
            simp only [] at hs2
            have hbd := sgOk_bounds HDCL.out hs2
            rw [flAt_succ gct2 gct, hok, Bool.true_and] at hz
            have HZ1 := kide hz
            have j1 : (j : Int) < (n : Int) := by omega
            have hwr1 : IntKind.i64.wrap (j : Int) = (j : Int) := kwrap (by omega)
            have hwr2 : IntKind.i64.wrap ((j : Int) + 1 - 1) = (j : Int) := (kwrap (by omega)).trans (by omega)
            obtain ⟨v, lo, wd, bw, ws⟩ := s
            obtain ⟨v2, lo2, wd2, bw2, ws2⟩ := s2
            simp only [oneB] at p0 p1 p2 p3 p4 q0 q1 q2 HOK HZ1 hbs hbd HST
            obtain ⟨hb1', hb2', hb3', hb4'⟩ := hbs
            obtain ⟨hb5, hb6, hb7, hb8⟩ := hbd
            have hwr4 : IntKind.i64.wrap (lo2 + wd2) = lo2 + wd2 := kwrap (by omega)
            clear hc2 gx gx2 gct gct2 hz hall hbel HZ pr hok hs2 hst
            go_wp2_with fail
            refine Calls.mono HOK.out ?_
            rintro e w3 ⟨rfl, hb3⟩
            have x0 := (kcell hb3 b2 (o2 + (j + 1) * 5) lb2).trans p0
            have x1 := (kcell hb3 b2 (o2 + (j + 1) * 5 + 1) lb2).trans p1
            have x2 := (kcell hb3 b2 (o2 + (j + 1) * 5 + 2) lb2).trans p2
            have y0 := (kcell hb3 b2 (o2 + j * 5) lb2).trans q0
            have y1 := (kcell hb3 b2 (o2 + j * 5 + 1) lb2).trans q1
            have y2 := (kcell hb3 b2 (o2 + j * 5 + 2) lb2).trans q2
            have HB3 := kide (HB.out.trans (hb3.mono HB.out.size))
            clear hb3 p0 p1 p2 p3 p4 q0 q1 q2
            by_cases hvv : v = v2
            · have e1 : (v == v2) = true := by simp [hvv]
              by_cases hv1 : v = -1
              · have e2 : (v == -1) = true := by simp [hv1]
                have HF : Hid (Z = false) := by have h := HZ1.out; simp [← hvv, hv1] at h; exact h
                clear hvv hv1
                go_wp2_with fail
                go_quiet (fail)
                go_wp2_with fail
                go_ret
                exact ⟨ret_bool (by rw [HF.out]; rfl), below_drewN HB3.out _⟩
              · have e2 : (v == -1) = false := by simp [hv1]
                by_cases hlw : lo = lo2 + wd2
                · have e3 : (lo == lo2 + wd2) = true := by simp [hlw]
                  have HF : Hid (Z = false) := by have h := HZ1.out; simp [← hvv, hv1, ← hlw] at h; exact h
                  clear hvv hv1 hlw
                  go_wp2_with fail
                  go_quiet (fail)
                  go_wp2_with fail
                  go_ret
                  exact ⟨ret_bool (by rw [HF.out]; rfl), below_drewN HB3.out _⟩
                · have e3 : (lo == lo2 + wd2) = false := by simp [hlw]
                  have HF : Hid (flAt ds (xs.map Sg.ct) (j + 1 + 1) = Z) := by
                    have h := HZ1.out
                    have h5 : ¬ lo2 + wd2 = lo := fun h => hlw h.symm
                    simp [← hvv, hv1, h5] at h; exact h
                  clear hvv hv1 hlw
                  go_wp2_with fail
                  go_quiet (fail)
                  go_wp2_with fail
                  go_roundw
                  case rel =>
                    refine ⟨j + 1 + 1, by omega, by go_num, by rw [HST.out], by rw [HST.out]; omega, by rw [HST.out]; omega, HF.out, fun i x hi hx => ?_, below_drewN HB3.out _⟩
                    by_cases hij : i = j + 1
                    · subst hij
                      rw [GX.out] at hx
                      cases hx
                      exact HOKS.out
                    · exact HAL.out i x (by omega) hx
                  case measure => simp [intOf]; omega
            · have e1 : (v == v2) = false := by simp [hvv]
              have HF : Hid (flAt ds (xs.map Sg.ct) (j + 1 + 1) = Z) := by
                have h := HZ1.out
                have h5 : ¬ v2 = v := fun h => hvv h.symm
                simp [h5] at h; exact h
              clear hvv
              go_wp2_with fail
              go_quiet (fail)
              go_wp2_with fail
              go_roundw
              case rel =>
                refine ⟨j + 1 + 1, by omega, by go_num, by rw [HST.out], by rw [HST.out]; omega, by rw [HST.out]; omega, HF.out, fun i x hi hx => ?_, below_drewN HB3.out _⟩
                by_cases hij : i = j + 1
                · subst hij
                  rw [GX.out] at hx
                  cases hx
                  exact HOKS.out
                · exact HAL.out i x (by omega) hx
              case measure => simp [intOf]; omega
      · have e : k = n := by omega
        have hZt : Z = true := by
          rw [← hz, e, ← HN.out]
          have := flAt_end (ds := ds) (fs := xs.map Sg.ct)
          rwa [List.length_map] at this
        subst hZt
        subst e
        generalize hQ : sumS ((xs.map Sg.ct).take k) = Q at *
        have HQ := kide hQ
        clear hz hall hbel HZ hQ
        go_wp2_with fail
        go_ret
        exact ⟨ret_bool (by rw [HQ.out]; simp), HB.out⟩

end Go.Proofs.Ytpmpipcpifmncaa
