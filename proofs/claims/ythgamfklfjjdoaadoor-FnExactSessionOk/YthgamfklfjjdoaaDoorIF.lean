/- What the program's LiteralsOk answers. -/
import Derived.Test.YthgamfklfjjdoaaDoorZIE
namespace Go.Proofs.YthgamfklfjjdoaaDoor
set_option linter.unusedVariables false
set_option linter.unusedSimpArgs false
open Go.RowKit

set_option maxHeartbeats 2000000 in
set_option maxRecDepth 100000 in
theorem implLits_any (a b : Option Addr) (c c2 n : Nat) (ds : List Dc) (xs : List Lg) (w : World) (hr : RdD w a ds) (hs : RdL w b xs) (hn : xs.length = n) (hG : GF w) :
    Calls Tryd.prog 15 #[.slice a ds.length c, .slice b n c2] w fun e w' => e = .returned (.bool (litR ds (xs.map Lg.ct))) ∧ Below w.heap.size w w' := by
  have hl1 := hr.1
  have hl2 := hs.1
  rw [hn] at hl2
  have HD := kide (fun u (hu : Below w.heap.size w u) => implDecls_any a c ds u (hr.later hu))
  have HI := kide (fun u (hu : Below w.heap.size w u) => idsOk_any b c2 n xs u (hs.later hu) hn)
  have HRD := kide (fun u (hu : Below w.heap.size w u) => hr.later hu)
  have HRL := kide (fun u (hu : Below w.heap.size w u) => hs.later hu)
  have HG := kide (fun u (hu : Below w.heap.size w u) => hG.later hu)
  have HN := kide hn
  cases hd : dclR ds with
  | false =>
    have hR : litR ds (xs.map Lg.ct) = false := by simp [litR, hd]
    rw [hR]
    rw [hd] at HD
    clear hR hd hr hs hn hG
    go_enter Tryd.func15, Tryd.ntmps15
    go_wp2_with fail
    refine Calls.mono (HD.out _ (Below.refl _ _)) ?_
    rintro e w1 ⟨rfl, hb1⟩
    go_wp2_with fail
    go_ret
    exact ⟨rfl, hb1⟩
  | true =>
    rw [hd] at HD
    have HDT := kide hd
    cases hI : idsR (xs.map Lg.ct) with
    | false =>
      have hR : litR ds (xs.map Lg.ct) = false := by rw [litR_eq, hI]; simp
      rw [hR]
      rw [hI] at HI
      clear hR hd hr hs hn hG hI
      go_enter Tryd.func15, Tryd.ntmps15
      go_wp2_with fail
      refine Calls.mono (HD.out _ (Below.refl _ _)) ?_
      rintro e w1 ⟨rfl, hb1⟩
      have B1 := kide hb1
      clear hb1
      go_wp2_with fail
      refine Calls.mono (HI.out _ B1.out) ?_
      rintro e w2 ⟨rfl, hb2⟩
      go_wp2_with fail
      go_ret
      exact ⟨rfl, B1.out.trans (hb2.mono B1.out.size)⟩
    | true =>
      rw [hI] at HI
      generalize hZ : litR ds (xs.map Lg.ct) = Z
      have HZ : Hid ((xs.map Lg.ct).all (sideR ds) = Z) := by
        show _ = _
        rw [← hZ, litR_eq, hI, hd]
        simp
      clear hZ hd hr hs hn hG hI
      go_enter Tryd.func15, Tryd.ntmps15
      go_wp2_with fail
      refine Calls.mono (HD.out _ (Below.refl _ _)) ?_
      rintro e w1 ⟨rfl, hb1⟩
      have B1 := kide hb1
      clear hb1
      go_wp2_with fail
      refine Calls.mono (HI.out _ B1.out) ?_
      rintro e w2 ⟨rfl, hb2⟩
      have B2 := kide (B1.out.trans (hb2.mono B1.out.size))
      clear hb2 B1
      go_wp2_with fail
      go_loopw [17] (fun i wr => ∃ (k : Nat), k ≤ n ∧ i = .int .i64 k ∧ ((xs.map Lg.ct).drop k).all (sideR ds) = Z ∧ Below w.heap.size w wr) (fun i _ => n - (intOf i).toNat)
      case atStart => exact ⟨0, Nat.zero_le _, rfl, by rw [List.drop_zero]; exact HZ.out, B2.out⟩
      case round =>
        obtain ⟨k, hk, rfl, hq, hbel⟩ := hrel
        have HB := kide hbel
        by_cases hlt : k < n
        · obtain ⟨-, h | ⟨b1, o1, rfl, hc⟩⟩ := HRL.out wr hbel
          · have := HN.out; subst h; simp at this; omega
          obtain ⟨⟨id, q, ss, sa, sc, ts, ta, tc⟩, hx⟩ : ∃ x, xs[k]? = some x := ⟨_, List.getElem?_eq_getElem (by rw [HN.out]; exact hlt)⟩
          obtain ⟨⟨p0, p1, p2, p3⟩, pr, pr2, hid⟩ := hc k _ hx
          simp only [] at p0 p1 p2 p3 pr pr2 hid
          rw [all_step (l := ⟨id, q, ss.map Tg.ct, ts.map Tg.ct⟩) (by rw [List.getElem?_map, hx]; rfl)] at hq
          have HQ := kide hq
          have hki : (k : Int) < (n : Int) := by omega
          have HA := kide (HB.out.alloc HB.out.size (.cells #[Value.int .i64 id, Value.bool q, Value.slice sa ss.length sc, Value.slice ta ts.length tc] 54))
          have hbx : Below wr.heap.size wr (wr.alloc (.cells #[Value.int .i64 id, Value.bool q, Value.slice sa ss.length sc, Value.slice ta ts.length tc] 54)) := (Below.refl _ _).alloc (Nat.le_refl _) _
          have HSD := kide (sidesOk_any a c ds id q sa ta ss.length sc ts.length tc ss ts _ (HRD.out _ HA.out) (pr.later hbx) (pr2.later hbx) rfl rfl (HG.out _ HA.out) HDT.out)
          generalize sideR ds ⟨id, q, ss.map Tg.ct, ts.map Tg.ct⟩ = SR at *
          generalize ss.length = m1 at *
          generalize ts.length = m2 at *
          clear hc hx hq hbel pr pr2 hid hbx
          cases SR with
          | false =>
            go_wp2_with fail
            refine Calls.mono HSD.out ?_
            rintro e w2 ⟨rfl, hb2⟩
            have HF : Hid (Z = false) := by show _ = _; rw [← HQ.out]; rfl
            go_wp2_with fail
            go_ret
            exact ⟨ret_bool HF.out.symm, HA.out.trans (hb2.mono HA.out.size)⟩
          | true =>
            rw [Bool.true_and] at HQ
            go_wp2_with fail
            refine Calls.mono HSD.out ?_
            rintro e w2 ⟨rfl, hb2⟩
            have HB2 := kide (HA.out.trans (hb2.mono HA.out.size))
            clear hb2
            go_wp2_with fail
            go_roundw
            case rel => exact ⟨k + 1, by omega, by go_num, HQ.out, HB2.out⟩
            case measure => simp [intOf]; omega
        · have e : k = n := by omega
          rw [e, List.drop_of_length_le (by simp [HN.out])] at hq
          have HQ := kide hq
          clear hq
          go_wp2_with fail
          go_ret
          exact ⟨ret_bool HQ.out, HB.out⟩

end Go.Proofs.YthgamfklfjjdoaaDoor
