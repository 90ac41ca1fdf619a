/- What the specification's LiteralsOk answers. -/
import Derived.Test.YtkngpgonmedgpaaGreatDoorRX
import Derived.Test.YtkngpgonmedgpaaGreatDoorGBC
namespace Go.Proofs.YtkngpgonmedgpaaGreatDoor
set_option linter.unusedVariables false
set_option linter.unusedSimpArgs false
open Go.RowKit
set_option maxHeartbeats 4000000 in
set_option maxRecDepth 100000 in
theorem specLits_any (a b : Option Addr) (c c2 n : Nat) (ds : List Dc) (xs : List Lg) (w : World) (hr : RdD w a ds) (hs : RdL w b xs) (hn : xs.length = n) :
  Calls Tryz.prog 39 #[.slice a ds.length c, .slice b n c2] w fun e w' => e = .returned (.bool (litR ds (xs.map Lg.ct))) ∧ Below w.heap.size w w' := by
 have hl1 := hr.1
 have hl2 := hs.1
 rw [hn] at hl2
 have HD := kide (fun u (hu : Below w.heap.size w u) => specDecls_any a c ds u (hr.later hu))
 have HRD := kide (fun u (hu : Below w.heap.size w u) => hr.later hu)
 have HRL := kide (fun u (hu : Below w.heap.size w u) => hs.later hu)
 have HN := kide hn
 cases hd : dclR ds with
 | false =>
  have hR : litR ds (xs.map Lg.ct) = false := by simp [litR, hd]
  rw [hR]
  rw [hd] at HD
  clear hR hd hr hs hn
  go_enter Tryz.func39, Tryz.ntmps39
  go_wp2_with fail
  refine Calls.mono (HD.out _ (Below.refl _ _)) ?_
  rintro e w1 ⟨rfl, hb1⟩
  go_wp2_with fail
  go_ret
  exact ⟨rfl, hb1⟩
 | true =>
  rw [hd] at HD
  by_cases h60 : n ≤ 60
  ·generalize hZ : litR ds (xs.map Lg.ct) = Z
   have HZ : Hid (goL ds 0 (xs.map Lg.ct) = Z) := by
    show _ = _
    rw [← hZ, litR, hd]
    simp [hn, h60]
   clear hZ hd hr hs hn
   go_enter Tryz.func39, Tryz.ntmps39
   go_wp2_with fail
   refine Calls.mono (HD.out _ (Below.refl _ _)) ?_
   rintro e w1 ⟨rfl, hb1⟩
   have B1 := kide hb1
   clear hb1
   go_wp2_with fail
   go_loopw [5] (fun i wr => ∃ (k : Nat) (last : Int), k ≤ n ∧ i = .int .i64 k ∧ (k = 0 ∧ last = 0 ∨ ∃ j y, k = j + 1 ∧ xs[j]? = some y ∧ y.id = last ∧ 1 ≤ last) ∧ goL ds last ((xs.map Lg.ct).drop k) = Z ∧ Below w.heap.size w wr) (fun i _ => n - (intOf i).toNat)
   case atStart => exact ⟨0, 0, Nat.zero_le _, rfl, .inl ⟨rfl, rfl⟩, by rw [List.drop_zero]; exact HZ.out, B1.out⟩
   case round =>
    obtain ⟨k, last, hk, rfl, hlast, hq, hbel⟩ := hrel
    have HB := kide hbel
    by_cases hlt : k < n
    ·obtain ⟨b1, o1, rfl, R1⟩ : ∃ b1 o1, b = some ⟨b1, o1, none⟩ ∧ Hid (∀ u, Below w.heap.size w u → ∀ (j : Nat) y, xs[j]? = some y → LgAt u b1 (o1 + j * 4) y) := by
      obtain ⟨-, h | ⟨b1, o1, rfl, hc1⟩⟩ := HRL.out wr hbel
      ·have := HN.out; subst h; simp at this; omega
      ·refine ⟨b1, o1, rfl, fun u hu => ?_⟩
       obtain ⟨-, h | ⟨b2, o2, he, hc2⟩⟩ := HRL.out u hu
       ·have := HN.out; subst h; simp at this; omega
       ·cases he
        exact hc2
     obtain ⟨⟨id, q, ss, sa, sc, ts, ta, tc⟩, hx⟩ : ∃ x, xs[k]? = some x := ⟨_, List.getElem?_eq_getElem (by rw [HN.out]; exact hlt)⟩
     have HX := kide hx
     obtain ⟨⟨p0, p1, p2, p3⟩, pr, pr2, hid⟩ := R1.out wr hbel k _ hx
     simp only [] at p0 p1 p2 p3 pr pr2 hid
     rw [goL_step (l := ⟨id, q, ss.map Tg.ct, ts.map Tg.ct⟩) (by rw [List.getElem?_map, hx]; rfl)] at hq
     have HQ : Hid ((decide (last < id ∧ id ≤ 1000000) && sideR ds ⟨id, q, ss.map Tg.ct, ts.map Tg.ct⟩ && goL ds id ((xs.map Lg.ct).drop (k + 1))) = Z) := hq
     have hki : (k : Int) < (n : Int) := by omega
     have HW1 := kide (fun u (hu : Below w.heap.size w u) => specWidth_any a sa c sc ss.length ds ss u (HRD.out u hu) (R1.out u hu k _ HX.out).2.1 rfl)
     have HW2 := kide (fun u (hu : Below w.heap.size w u) => specWidth_any a ta c tc ts.length ds ts u (HRD.out u hu) (R1.out u hu k _ HX.out).2.2.1 rfl)
     have HIN := kide (fun u => l1In_any id 1 1000000 u)
     have HSR : Hid (sideR ds ⟨id, q, ss.map Tg.ct, ts.map Tg.ct⟩ = (decide (0 ≤ widR ds (ss.map Tg.ct)) && decide (widR ds (ts.map Tg.ct) = widR ds (ss.map Tg.ct)))) := rfl
     generalize widR ds (ss.map Tg.ct) = V at *
     generalize widR ds (ts.map Tg.ct) = U at *
     generalize ss.length = m1 at *
     generalize ts.length = m2 at *
     clear hx hq hbel pr pr2
     go_wp2_with fail
     refine Calls.mono (HW1.out wr HB.out) ?_
     rintro e w2 ⟨rfl, hb2⟩
     have HB2 := kide (HB.out.trans (hb2.mono HB.out.size))
     have z0 := (kcell hb2 b1 (o1 + k * 4) (block_lt_of_cell p0)).trans p0
     have z3 := (kcell hb2 b1 (o1 + k * 4 + 3) (block_lt_of_cell p0)).trans p3
     clear hb2 p0 p1 p2 p3
     have HQF : Hid ((last < id ∧ id ≤ 1000000) → (0 ≤ V ∧ U = V) → goL ds id ((xs.map Lg.ct).drop (k + 1)) = Z) := fun h1 h2 => by
      have h := HQ.out
      rw [HSR.out, decide_eq_true h1, decide_eq_true h2.1, decide_eq_true h2.2] at h
      simpa using h
     have HQN : Hid (¬ ((last < id ∧ id ≤ 1000000) ∧ 0 ≤ V ∧ U = V) → Z = false) := fun h0 => by
      have h := HQ.out
      rw [HSR.out] at h
      rw [← h]
      by_cases h1 : last < id ∧ id ≤ 1000000
      ·by_cases h2 : 0 ≤ V
       ·rw [decide_eq_false (fun h3 => h0 ⟨h1, h2, h3⟩)]; simp
       ·rw [decide_eq_false h2]; simp
      ·rw [decide_eq_false h1]; simp
     clear HQ HSR
     by_cases hin : 1 ≤ id ∧ id ≤ 1000000
     case neg =>
      rw [decide_eq_false hin] at HIN
      have HF := kide (HQN.out (fun h => hin (by rcases hlast with ⟨-, rfl⟩ | ⟨j, y, -, -, -, h1⟩ <;> omega)))
      clear hin HQN HQF hlast
      go_wp2_with fail
      go_quiet ((go_at_call 73; exact Calls.quiet_of_same (HIN.out _)))
      go_wp2_with fail
      go_ret
      exact ⟨ret_bool HF.out.symm, below_drewN HB2.out _⟩
     rw [decide_eq_true hin] at HIN
     rcases hlast with ⟨rfl, rfl⟩ | ⟨j, y, hkj, hy, rfl, hy1⟩
     ·simp only [Nat.zero_mul, Nat.add_zero] at z0 z3
      by_cases hV : V < 0
      ·have HF := kide (HQN.out (fun h => by omega))
       clear HQN HQF
       go_wp2_with fail
       go_quiet ((go_at_call 73; exact Calls.quiet_of_same (HIN.out _)))
       go_wp2_with fail
       go_ret
       exact ⟨ret_bool HF.out.symm, below_drewN HB2.out _⟩
      by_cases hUV : U = V
      ·subst hUV
       have hne : (U != U) = false := by simp
       have HQ2 := kide (HQF.out (by omega) (by omega))
       clear HQN HQF
       go_wp2_with fail
       refine wp_region_any (by kernel_rfl) ?_
       try (change wpAny _ _ _ _ _ _ _ (World.drew _))
       refine tkA (i := 0) (v := Value.slice (some ⟨b1, o1, none⟩) n c2) rfl (by kernel_rfl) (fun _ _ _ h => h) (by rfl) (fun w => by go_simp) ?_
       try go_simp
       refine tkA (i := 1) (v := Value.int .i64 ((0 : Nat) : Int)) rfl (by kernel_rfl) (fun _ _ _ h => h) (by rfl) (fun w => by go_simp) ?_
       try go_simp
       refine tkA (i := 2) (v := Value.pointer (some ⟨b1, o1, none⟩)) rfl (by kernel_rfl) (fun _ _ _ h => h) (by rfl) (fun w => by go_simp) ?_
       try go_simp
       refine tkA (i := 3) (v := Value.pointer (some ⟨b1, o1, none⟩)) rfl (by kernel_rfl) (fun _ _ _ h => h) (by rfl) (fun w => by go_simp) ?_
       try go_simp
       refine wpAny_ready (rs := [4]) (by kernel_rfl) (by simp) (AllReady.cons rfl (fun K hK => ?_) AllReady.nil)
       go_simp
       refine hK _ _ ?_
       clear hK K
       refine wpAny_ready (rs := [5]) (by kernel_rfl) (by simp) (AllReady.cons rfl (fun K hK => ?_) AllReady.nil)
       go_simp
       go_wp2_with (go_at_call 73; refine Calls.mono (HIN.out _) ?_; rintro e w3 ⟨rfl, rfl⟩)
       refine tkA (i := 6) (v := Value.bool false) rfl (by kernel_rfl) (fun _ _ _ h => h) (by rfl) (fun w => by go_simp) ?_
       try go_simp
       refine tkA (i := 7) (v := Value.bool false) rfl (by kernel_rfl) (fun _ _ _ h => h) (by rfl) (fun w => by go_simp) ?_
       try go_simp
       refine tkA (i := 8) (v := Value.int .i64 ((0 : Nat) : Int)) rfl (by kernel_rfl) (fun _ _ _ h => h) (by rfl) (fun w => by go_simp) ?_
       try go_simp
       refine tkA (i := 9) (v := Value.bool false) rfl (by kernel_rfl) (fun _ _ _ h => h) (by rfl) (fun w => by go_simp) ?_
       try go_simp
       refine tkA (i := 10) (v := Value.bool false) rfl (by kernel_rfl) (fun _ _ _ h => h) (by rfl) (fun w => by go_simp) ?_
       try go_simp
       refine tkN (i := 11) rfl (by kernel_rfl) (fun _ _ _ h => h) (by rfl) ?_
       try go_simp
       refine tkN (i := 12) rfl (by kernel_rfl) (fun _ _ _ h => h) (by rfl) ?_
       try go_simp
       refine tkN (i := 13) rfl (by kernel_rfl) (fun _ _ _ h => h) (by rfl) ?_
       try go_simp
       refine tkN (i := 14) rfl (by kernel_rfl) (fun _ _ _ h => h) (by rfl) ?_
       try go_simp
       refine tkN (i := 15) rfl (by kernel_rfl) (fun _ _ _ h => h) (by rfl) ?_
       try go_simp
       refine tkN (i := 16) rfl (by kernel_rfl) (fun _ _ _ h => h) (by rfl) ?_
       try go_simp
       refine tkN (i := 17) rfl (by kernel_rfl) (fun _ _ _ h => h) (by rfl) ?_
       try go_simp
       refine tkN (i := 18) rfl (by kernel_rfl) (fun _ _ _ h => h) (by rfl) ?_
       try go_simp
       refine tkN (i := 19) rfl (by kernel_rfl) (fun _ _ _ h => h) (by rfl) ?_
       try go_simp
       refine tkN (i := 20) rfl (by kernel_rfl) (fun _ _ _ h => h) (by rfl) ?_
       try go_simp
       refine tkN (i := 21) rfl (by kernel_rfl) (fun _ _ _ h => h) (by rfl) ?_
       try go_simp
       refine tkN (i := 22) rfl (by kernel_rfl) (fun _ _ _ h => h) (by rfl) ?_
       try go_simp
       refine tkA (i := 23) (v := Value.bool false) rfl (by kernel_rfl) (fun _ _ _ h => h) (by rfl) (fun w => by go_simp) ?_
       try go_simp
       refine tkA (i := 24) (v := Value.bool false) rfl (by kernel_rfl) (fun _ _ _ h => h) (by rfl) (fun w => by go_simp) ?_
       try go_simp
       refine tkA (i := 25) (v := Value.bool false) rfl (by kernel_rfl) (fun _ _ _ h => h) (by rfl) (fun w => by go_simp) ?_
       try go_simp
       refine tkA (i := 26) (v := Value.int .i64 U) rfl (by kernel_rfl) (fun _ _ _ h => h) (by rfl) (fun w => by go_simp) ?_
       try go_simp
       refine tkA (i := 27) (v := Value.bool false) rfl (by kernel_rfl) (fun _ _ _ h => h) (by rfl) (fun w => by go_simp) ?_
       try go_simp
       refine tkA (i := 28) (v := Value.bool false) rfl (by kernel_rfl) (fun _ _ _ h => h) (by rfl) (fun w => by go_simp) ?_
       try go_simp
       refine tkA (i := 29) (v := Value.bool false) rfl (by kernel_rfl) (fun _ _ _ h => h) (by rfl) (fun w => by go_simp) ?_
       try go_simp
       refine tkA (i := 30) (v := Value.slice a ds.length c) rfl (by kernel_rfl) (fun _ _ _ h => h) (by rfl) (fun w => by go_simp) ?_
       try go_simp
       refine tkA (i := 31) (v := Value.slice (some ⟨b1, o1, none⟩) n c2) rfl (by kernel_rfl) (fun _ _ _ h => h) (by rfl) (fun w => by go_simp) ?_
       try go_simp
       refine tkA (i := 32) (v := Value.int .i64 ((0 : Nat) : Int)) rfl (by kernel_rfl) (fun _ _ _ h => h) (by rfl) (fun w => by go_simp) ?_
       try go_simp
       refine tkA (i := 33) (v := Value.pointer (some ⟨b1, o1, none⟩)) rfl (by kernel_rfl) (fun _ _ _ h => h) (by rfl) (fun w => by go_simp) ?_
       try go_simp
       refine tkA (i := 34) (v := Value.pointer (some ⟨b1, o1 + 3, none⟩)) rfl (by kernel_rfl) (fun _ _ _ h => h) (by rfl) (fun w => by go_simp) ?_
       try go_simp
       refine tkA (i := 37) (v := Value.int .i64 U) rfl (by kernel_rfl) (fun _ _ _ h => h) (by rfl) (fun w => by go_simp) ?_
       try go_simp
       refine wpAny_ready (rs := [35]) (by kernel_rfl) (by simp) (AllReady.cons rfl (fun K hK => ?_) AllReady.nil)
       go_simp
       refine hK _ _ ?_
       clear hK K
       refine wpAny_ready (rs := [36]) (by kernel_rfl) (by simp) (AllReady.cons rfl (fun K hK => ?_) AllReady.nil)
       go_simp
       go_wp2_with (go_at_call 72; refine Calls.mono (HW2.out _ ?_) ?_; (first | exact HB2.out | exact HB2.out.drew | exact HB2.out.drew.drew | exact below_drewN HB2.out _); rintro e w4 ⟨rfl, hb4⟩)
       refine tkA (i := 38) (v := Value.bool false) rfl (by kernel_rfl) (fun _ _ _ h => h) (by rfl) (fun w => by go_simp) ?_
       try go_simp
       refine tkA (i := 39) (v := Value.bool false) rfl (by kernel_rfl) (fun _ _ _ h => h) (by rfl) (fun w => by go_simp) ?_
       try go_simp
       refine wpAny_done (by kernel_rfl) ?_ _
       go_wp2_with fail
       go_roundw
       case rel => exact ⟨1, id, by omega, by go_num, .inr ⟨0, _, rfl, HX.out, rfl, by omega⟩, HQ2.out, HB2.out.trans (Below.mono ⟨hb4.os, hb4.tape, hb4.output, hb4.size, hb4.block⟩ HB2.out.size)⟩
       case measure => simp [intOf]; omega
      ·have hne : (U != V) = true := by simp [hUV]
       have HF := kide (HQN.out (fun h => hUV h.2.2))
       clear HQN HQF hUV
       go_wp2_with fail
       refine wp_region_any (by kernel_rfl) ?_
       try (change wpAny _ _ _ _ _ _ _ (World.drew _))
       refine tkA (i := 0) (v := Value.slice (some ⟨b1, o1, none⟩) n c2) rfl (by kernel_rfl) (fun _ _ _ h => h) (by rfl) (fun w => by go_simp) ?_
       try go_simp
       refine tkA (i := 1) (v := Value.int .i64 ((0 : Nat) : Int)) rfl (by kernel_rfl) (fun _ _ _ h => h) (by rfl) (fun w => by go_simp) ?_
       try go_simp
       refine tkA (i := 2) (v := Value.pointer (some ⟨b1, o1, none⟩)) rfl (by kernel_rfl) (fun _ _ _ h => h) (by rfl) (fun w => by go_simp) ?_
       try go_simp
       refine tkA (i := 3) (v := Value.pointer (some ⟨b1, o1, none⟩)) rfl (by kernel_rfl) (fun _ _ _ h => h) (by rfl) (fun w => by go_simp) ?_
       try go_simp
       refine wpAny_ready (rs := [4]) (by kernel_rfl) (by simp) (AllReady.cons rfl (fun K hK => ?_) AllReady.nil)
       go_simp
       refine hK _ _ ?_
       clear hK K
       refine wpAny_ready (rs := [5]) (by kernel_rfl) (by simp) (AllReady.cons rfl (fun K hK => ?_) AllReady.nil)
       go_simp
       go_wp2_with (go_at_call 73; refine Calls.mono (HIN.out _) ?_; rintro e w3 ⟨rfl, rfl⟩)
       refine tkA (i := 6) (v := Value.bool false) rfl (by kernel_rfl) (fun _ _ _ h => h) (by rfl) (fun w => by go_simp) ?_
       try go_simp
       refine tkA (i := 7) (v := Value.bool false) rfl (by kernel_rfl) (fun _ _ _ h => h) (by rfl) (fun w => by go_simp) ?_
       try go_simp
       refine tkA (i := 8) (v := Value.int .i64 ((0 : Nat) : Int)) rfl (by kernel_rfl) (fun _ _ _ h => h) (by rfl) (fun w => by go_simp) ?_
       try go_simp
       refine tkA (i := 9) (v := Value.bool false) rfl (by kernel_rfl) (fun _ _ _ h => h) (by rfl) (fun w => by go_simp) ?_
       try go_simp
       refine tkA (i := 10) (v := Value.bool false) rfl (by kernel_rfl) (fun _ _ _ h => h) (by rfl) (fun w => by go_simp) ?_
       try go_simp
       refine tkN (i := 11) rfl (by kernel_rfl) (fun _ _ _ h => h) (by rfl) ?_
       try go_simp
       refine tkN (i := 12) rfl (by kernel_rfl) (fun _ _ _ h => h) (by rfl) ?_
       try go_simp
       refine tkN (i := 13) rfl (by kernel_rfl) (fun _ _ _ h => h) (by rfl) ?_
       try go_simp
       refine tkN (i := 14) rfl (by kernel_rfl) (fun _ _ _ h => h) (by rfl) ?_
       try go_simp
       refine tkN (i := 15) rfl (by kernel_rfl) (fun _ _ _ h => h) (by rfl) ?_
       try go_simp
       refine tkN (i := 16) rfl (by kernel_rfl) (fun _ _ _ h => h) (by rfl) ?_
       try go_simp
       refine tkN (i := 17) rfl (by kernel_rfl) (fun _ _ _ h => h) (by rfl) ?_
       try go_simp
       refine tkN (i := 18) rfl (by kernel_rfl) (fun _ _ _ h => h) (by rfl) ?_
       try go_simp
       refine tkN (i := 19) rfl (by kernel_rfl) (fun _ _ _ h => h) (by rfl) ?_
       try go_simp
       refine tkN (i := 20) rfl (by kernel_rfl) (fun _ _ _ h => h) (by rfl) ?_
       try go_simp
       refine tkN (i := 21) rfl (by kernel_rfl) (fun _ _ _ h => h) (by rfl) ?_
       try go_simp
       refine tkN (i := 22) rfl (by kernel_rfl) (fun _ _ _ h => h) (by rfl) ?_
       try go_simp
       refine tkA (i := 23) (v := Value.bool false) rfl (by kernel_rfl) (fun _ _ _ h => h) (by rfl) (fun w => by go_simp) ?_
       try go_simp
       refine tkA (i := 24) (v := Value.bool false) rfl (by kernel_rfl) (fun _ _ _ h => h) (by rfl) (fun w => by go_simp) ?_
       try go_simp
       refine tkA (i := 25) (v := Value.bool false) rfl (by kernel_rfl) (fun _ _ _ h => h) (by rfl) (fun w => by go_simp) ?_
       try go_simp
       refine tkA (i := 26) (v := Value.int .i64 V) rfl (by kernel_rfl) (fun _ _ _ h => h) (by rfl) (fun w => by go_simp) ?_
       try go_simp
       refine tkA (i := 27) (v := Value.bool false) rfl (by kernel_rfl) (fun _ _ _ h => h) (by rfl) (fun w => by go_simp) ?_
       try go_simp
       refine tkA (i := 28) (v := Value.bool false) rfl (by kernel_rfl) (fun _ _ _ h => h) (by rfl) (fun w => by go_simp) ?_
       try go_simp
       refine tkA (i := 29) (v := Value.bool false) rfl (by kernel_rfl) (fun _ _ _ h => h) (by rfl) (fun w => by go_simp) ?_
       try go_simp
       refine tkA (i := 30) (v := Value.slice a ds.length c) rfl (by kernel_rfl) (fun _ _ _ h => h) (by rfl) (fun w => by go_simp) ?_
       try go_simp
       refine tkA (i := 31) (v := Value.slice (some ⟨b1, o1, none⟩) n c2) rfl (by kernel_rfl) (fun _ _ _ h => h) (by rfl) (fun w => by go_simp) ?_
       try go_simp
       refine tkA (i := 32) (v := Value.int .i64 ((0 : Nat) : Int)) rfl (by kernel_rfl) (fun _ _ _ h => h) (by rfl) (fun w => by go_simp) ?_
       try go_simp
       refine tkA (i := 33) (v := Value.pointer (some ⟨b1, o1, none⟩)) rfl (by kernel_rfl) (fun _ _ _ h => h) (by rfl) (fun w => by go_simp) ?_
       try go_simp
       refine tkA (i := 34) (v := Value.pointer (some ⟨b1, o1 + 3, none⟩)) rfl (by kernel_rfl) (fun _ _ _ h => h) (by rfl) (fun w => by go_simp) ?_
       try go_simp
       refine tkA (i := 37) (v := Value.int .i64 V) rfl (by kernel_rfl) (fun _ _ _ h => h) (by rfl) (fun w => by go_simp) ?_
       try go_simp
       refine wpAny_ready (rs := [35]) (by kernel_rfl) (by simp) (AllReady.cons rfl (fun K hK => ?_) AllReady.nil)
       go_simp
       refine hK _ _ ?_
       clear hK K
       refine wpAny_ready (rs := [36]) (by kernel_rfl) (by simp) (AllReady.cons rfl (fun K hK => ?_) AllReady.nil)
       go_simp
       go_wp2_with (go_at_call 72; refine Calls.mono (HW2.out _ ?_) ?_; (first | exact HB2.out | exact HB2.out.drew | exact HB2.out.drew.drew | exact below_drewN HB2.out _); rintro e w4 ⟨rfl, hb4⟩)
       refine tkA (i := 38) (v := Value.bool true) rfl (by kernel_rfl) (fun _ _ _ h => h) (by rfl) (fun w => by go_simp) ?_
       try go_simp
       refine tkA (i := 39) (v := Value.bool true) rfl (by kernel_rfl) (fun _ _ _ h => h) (by rfl) (fun w => by go_simp) ?_
       try go_simp
       refine wpAny_done (by kernel_rfl) ?_ _
       go_wp2_with fail
       go_ret
       exact ⟨ret_bool HF.out.symm, HB2.out.trans (Below.mono ⟨hb4.os, hb4.tape, hb4.output, hb4.size, hb4.block⟩ HB2.out.size)⟩
     ·have lb : b1 < w2.heap.size := block_lt_of_cell z0
      have y0 := (R1.out w2 HB2.out j _ hy).1.1
      have hjj : (k : Int) - 1 = (j : Int) := by omega
      have hjn : (j : Int) < (n : Int) := by omega
      have hj0 : 0 < k := by omega
      have hwr : IntKind.i64.wrap (j : Int) = (j : Int) := by rw [IntKind.wrap_i64]; omega
      have HKJ := kide hkj
      clear hkj
      obtain ⟨last, hla⟩ : ∃ last, y.id = last := ⟨_, rfl⟩
      rw [hla] at y0 HQN HQF hy1
      clear hla hy
      by_cases hil : id ≤ last
      ·have HF := kide (HQN.out (fun h => by omega))
       clear HQN HQF
       go_wp2_with fail
       refine wp_region_any (by kernel_rfl) ?_
       try (change wpAny _ _ _ _ _ _ _ (World.drew _))
       refine tkA (i := 0) (v := Value.slice (some ⟨b1, o1, none⟩) n c2) rfl (by kernel_rfl) (fun _ _ _ h => h) (by rfl) (fun w => by go_simp) ?_
       try go_simp
       refine tkA (i := 1) (v := Value.int .i64 (k : Int)) rfl (by kernel_rfl) (fun _ _ _ h => h) (by rfl) (fun w => by go_simp) ?_
       try go_simp
       refine tkA (i := 2) (v := Value.pointer (some ⟨b1, o1 + k * 4, none⟩)) rfl (by kernel_rfl) (fun _ _ _ h => h) (by rfl) (fun w => by go_simp) ?_
       try go_simp
       refine tkA (i := 3) (v := Value.pointer (some ⟨b1, o1 + k * 4, none⟩)) rfl (by kernel_rfl) (fun _ _ _ h => h) (by rfl) (fun w => by go_simp) ?_
       try go_simp
       refine wpAny_ready (rs := [4]) (by kernel_rfl) (by simp) (AllReady.cons rfl (fun K hK => ?_) AllReady.nil)
       go_simp
       refine hK _ _ ?_
       clear hK K
       refine wpAny_ready (rs := [5]) (by kernel_rfl) (by simp) (AllReady.cons rfl (fun K hK => ?_) AllReady.nil)
       go_simp
       go_wp2_with (go_at_call 73; refine Calls.mono (HIN.out _) ?_; rintro e w3 ⟨rfl, rfl⟩)
       refine tkA (i := 6) (v := Value.bool false) rfl (by kernel_rfl) (fun _ _ _ h => h) (by rfl) (fun w => by go_simp) ?_
       try go_simp
       refine tkA (i := 7) (v := Value.bool false) rfl (by kernel_rfl) (fun _ _ _ h => h) (by rfl) (fun w => by go_simp) ?_
       try go_simp
       refine tkA (i := 8) (v := Value.int .i64 (k : Int)) rfl (by kernel_rfl) (fun _ _ _ h => h) (by rfl) (fun w => by go_simp) ?_
       try go_simp
       refine tkA (i := 9) (v := Value.bool true) rfl (by kernel_rfl) (fun _ _ _ h => h) (by rfl) (fun w => by go_simp) ?_
       try go_simp
       refine tkA (i := 10) (v := Value.bool true) rfl (by kernel_rfl) (fun _ _ _ h => h) (by rfl) (fun w => by go_simp) ?_
       try go_simp
       refine tkA (i := 11) (v := Value.slice (some ⟨b1, o1, none⟩) n c2) rfl (by kernel_rfl) (fun _ _ _ h => h) (by rfl) (fun w => by go_simp) ?_
       try go_simp
       refine tkA (i := 12) (v := Value.int .i64 (k : Int)) rfl (by kernel_rfl) (fun _ _ _ h => h) (by rfl) (fun w => by go_simp) ?_
       try go_simp
       refine tkA (i := 13) (v := Value.pointer (some ⟨b1, o1 + k * 4, none⟩)) rfl (by kernel_rfl) (fun _ _ _ h => h) (by rfl) (fun w => by go_simp) ?_
       try go_simp
       refine tkA (i := 14) (v := Value.pointer (some ⟨b1, o1 + k * 4, none⟩)) rfl (by kernel_rfl) (fun _ _ _ h => h) (by rfl) (fun w => by go_simp) ?_
       try go_simp
       refine tkA (i := 16) (v := Value.slice (some ⟨b1, o1, none⟩) n c2) rfl (by kernel_rfl) (fun _ _ _ h => h) (by rfl) (fun w => by go_simp) ?_
       try go_simp
       refine tkA (i := 17) (v := Value.int .i64 (k : Int)) rfl (by kernel_rfl) (fun _ _ _ h => h) (by rfl) (fun w => by go_simp) ?_
       try go_simp
       refine tkA (i := 18) (v := Value.int .i64 (j : Int)) rfl (by kernel_rfl) (fun _ _ _ h => h) (by rfl) (fun w => by go_simp) ?_
       try go_simp
       refine tkA (i := 19) (v := Value.pointer (some ⟨b1, o1 + j * 4, none⟩)) rfl (by kernel_rfl) (fun _ _ _ h => h) (by rfl) (fun w => by go_simp) ?_
       try go_simp
       refine tkA (i := 20) (v := Value.pointer (some ⟨b1, o1 + j * 4, none⟩)) rfl (by kernel_rfl) (fun _ _ _ h => h) (by rfl) (fun w => by go_simp) ?_
       try go_simp
       refine wpAny_ready (rs := [15, 21]) (by kernel_rfl) (by simp) (AllReady.cons rfl (fun K hK => ?_) (AllReady.cons rfl (fun K hK => ?_) AllReady.nil))
       ·go_simp
        refine hK _ _ ?_
        clear hK K
        refine wpAny_ready (rs := [21]) (by kernel_rfl) (by simp) (AllReady.cons rfl (fun K hK => ?_) AllReady.nil)
        go_simp
        refine hK _ _ ?_
        clear hK K
        refine tkA (i := 22) (v := Value.bool true) rfl (by kernel_rfl) (fun _ _ _ h => h) (by rfl) (fun w => by go_simp) ?_
        try go_simp
        refine tkA (i := 23) (v := Value.bool true) rfl (by kernel_rfl) (fun _ _ _ h => h) (by rfl) (fun w => by go_simp) ?_
        try go_simp
        refine tkA (i := 24) (v := Value.bool true) rfl (by kernel_rfl) (fun _ _ _ h => h) (by rfl) (fun w => by go_simp) ?_
        try go_simp
        refine tkA (i := 25) (v := Value.bool true) rfl (by kernel_rfl) (fun _ _ _ h => h) (by rfl) (fun w => by go_simp) ?_
        try go_simp
        refine tkN (i := 26) rfl (by kernel_rfl) (fun _ _ _ h => h) (by rfl) ?_
        try go_simp
        refine tkN (i := 27) rfl (by kernel_rfl) (fun _ _ _ h => h) (by rfl) ?_
        try go_simp
        refine tkA (i := 28) (v := Value.bool true) rfl (by kernel_rfl) (fun _ _ _ h => h) (by rfl) (fun w => by go_simp) ?_
        try go_simp
        refine tkA (i := 29) (v := Value.bool true) rfl (by kernel_rfl) (fun _ _ _ h => h) (by rfl) (fun w => by go_simp) ?_
        try go_simp
        refine tkN (i := 30) rfl (by kernel_rfl) (fun _ _ _ h => h) (by rfl) ?_
        try go_simp
        refine tkN (i := 31) rfl (by kernel_rfl) (fun _ _ _ h => h) (by rfl) ?_
        try go_simp
        refine tkN (i := 32) rfl (by kernel_rfl) (fun _ _ _ h => h) (by rfl) ?_
        try go_simp
        refine tkN (i := 33) rfl (by kernel_rfl) (fun _ _ _ h => h) (by rfl) ?_
        try go_simp
        refine tkN (i := 34) rfl (by kernel_rfl) (fun _ _ _ h => h) (by rfl) ?_
        try go_simp
        refine tkN (i := 35) rfl (by kernel_rfl) (fun _ _ _ h => h) (by rfl) ?_
        try go_simp
        refine tkN (i := 36) rfl (by kernel_rfl) (fun _ _ _ h => h) (by rfl) ?_
        try go_simp
        refine tkN (i := 37) rfl (by kernel_rfl) (fun _ _ _ h => h) (by rfl) ?_
        try go_simp
        refine tkN (i := 38) rfl (by kernel_rfl) (fun _ _ _ h => h) (by rfl) ?_
        try go_simp
        refine tkA (i := 39) (v := Value.bool true) rfl (by kernel_rfl) (fun _ _ _ h => h) (by rfl) (fun w => by go_simp) ?_
        try go_simp
        refine wpAny_done (by kernel_rfl) ?_ _
        go_wp2_with fail
        go_ret
        exact ⟨ret_bool HF.out.symm, by first | exact HB2.out | exact HB2.out.drew | exact HB2.out.drew.drew | exact below_drewN HB2.out _⟩
       ·go_simp
        refine hK _ _ ?_
        clear hK K
        refine wpAny_ready (rs := [15]) (by kernel_rfl) (by simp) (AllReady.cons rfl (fun K hK => ?_) AllReady.nil)
        go_simp
        refine hK _ _ ?_
        clear hK K
        refine tkA (i := 22) (v := Value.bool true) rfl (by kernel_rfl) (fun _ _ _ h => h) (by rfl) (fun w => by go_simp) ?_
        try go_simp
        refine tkA (i := 23) (v := Value.bool true) rfl (by kernel_rfl) (fun _ _ _ h => h) (by rfl) (fun w => by go_simp) ?_
        try go_simp
        refine tkA (i := 24) (v := Value.bool true) rfl (by kernel_rfl) (fun _ _ _ h => h) (by rfl) (fun w => by go_simp) ?_
        try go_simp
        refine tkA (i := 25) (v := Value.bool true) rfl (by kernel_rfl) (fun _ _ _ h => h) (by rfl) (fun w => by go_simp) ?_
        try go_simp
        refine tkN (i := 26) rfl (by kernel_rfl) (fun _ _ _ h => h) (by rfl) ?_
        try go_simp
        refine tkN (i := 27) rfl (by kernel_rfl) (fun _ _ _ h => h) (by rfl) ?_
        try go_simp
        refine tkA (i := 28) (v := Value.bool true) rfl (by kernel_rfl) (fun _ _ _ h => h) (by rfl) (fun w => by go_simp) ?_
        try go_simp
        refine tkA (i := 29) (v := Value.bool true) rfl (by kernel_rfl) (fun _ _ _ h => h) (by rfl) (fun w => by go_simp) ?_
        try go_simp
        refine tkN (i := 30) rfl (by kernel_rfl) (fun _ _ _ h => h) (by rfl) ?_
        try go_simp
        refine tkN (i := 31) rfl (by kernel_rfl) (fun _ _ _ h => h) (by rfl) ?_
        try go_simp
        refine tkN (i := 32) rfl (by kernel_rfl) (fun _ _ _ h => h) (by rfl) ?_
        try go_simp
        refine tkN (i := 33) rfl (by kernel_rfl) (fun _ _ _ h => h) (by rfl) ?_
        try go_simp
        refine tkN (i := 34) rfl (by kernel_rfl) (fun _ _ _ h => h) (by rfl) ?_
        try go_simp
        refine tkN (i := 35) rfl (by kernel_rfl) (fun _ _ _ h => h) (by rfl) ?_
        try go_simp
        refine tkN (i := 36) rfl (by kernel_rfl) (fun _ _ _ h => h) (by rfl) ?_
        try go_simp
        refine tkN (i := 37) rfl (by kernel_rfl) (fun _ _ _ h => h) (by rfl) ?_
        try go_simp
        refine tkN (i := 38) rfl (by kernel_rfl) (fun _ _ _ h => h) (by rfl) ?_
        try go_simp
        refine tkA (i := 39) (v := Value.bool true) rfl (by kernel_rfl) (fun _ _ _ h => h) (by rfl) (fun w => by go_simp) ?_
        try go_simp
        refine wpAny_done (by kernel_rfl) ?_ _
        go_wp2_with fail
        go_ret
        exact ⟨ret_bool HF.out.symm, by first | exact HB2.out | exact HB2.out.drew | exact HB2.out.drew.drew | exact below_drewN HB2.out _⟩
      by_cases hV : V < 0
      ·have HF := kide (HQN.out (fun h => by omega))
       clear HQN HQF
       go_wp2_with fail
       refine wp_region_any (by kernel_rfl) ?_
       try (change wpAny _ _ _ _ _ _ _ (World.drew _))
       refine tkA (i := 0) (v := Value.slice (some ⟨b1, o1, none⟩) n c2) rfl (by kernel_rfl) (fun _ _ _ h => h) (by rfl) (fun w => by go_simp) ?_
       try go_simp
       refine tkA (i := 1) (v := Value.int .i64 (k : Int)) rfl (by kernel_rfl) (fun _ _ _ h => h) (by rfl) (fun w => by go_simp) ?_
       try go_simp
       refine tkA (i := 2) (v := Value.pointer (some ⟨b1, o1 + k * 4, none⟩)) rfl (by kernel_rfl) (fun _ _ _ h => h) (by rfl) (fun w => by go_simp) ?_
       try go_simp
       refine tkA (i := 3) (v := Value.pointer (some ⟨b1, o1 + k * 4, none⟩)) rfl (by kernel_rfl) (fun _ _ _ h => h) (by rfl) (fun w => by go_simp) ?_
       try go_simp
       refine wpAny_ready (rs := [4]) (by kernel_rfl) (by simp) (AllReady.cons rfl (fun K hK => ?_) AllReady.nil)
       go_simp
       refine hK _ _ ?_
       clear hK K
       refine wpAny_ready (rs := [5]) (by kernel_rfl) (by simp) (AllReady.cons rfl (fun K hK => ?_) AllReady.nil)
       go_simp
       go_wp2_with (go_at_call 73; refine Calls.mono (HIN.out _) ?_; rintro e w3 ⟨rfl, rfl⟩)
       refine tkA (i := 6) (v := Value.bool false) rfl (by kernel_rfl) (fun _ _ _ h => h) (by rfl) (fun w => by go_simp) ?_
       try go_simp
       refine tkA (i := 7) (v := Value.bool false) rfl (by kernel_rfl) (fun _ _ _ h => h) (by rfl) (fun w => by go_simp) ?_
       try go_simp
       refine tkA (i := 8) (v := Value.int .i64 (k : Int)) rfl (by kernel_rfl) (fun _ _ _ h => h) (by rfl) (fun w => by go_simp) ?_
       try go_simp
       refine tkA (i := 9) (v := Value.bool true) rfl (by kernel_rfl) (fun _ _ _ h => h) (by rfl) (fun w => by go_simp) ?_
       try go_simp
       refine tkA (i := 10) (v := Value.bool true) rfl (by kernel_rfl) (fun _ _ _ h => h) (by rfl) (fun w => by go_simp) ?_
       try go_simp
       refine tkA (i := 11) (v := Value.slice (some ⟨b1, o1, none⟩) n c2) rfl (by kernel_rfl) (fun _ _ _ h => h) (by rfl) (fun w => by go_simp) ?_
       try go_simp
       refine tkA (i := 12) (v := Value.int .i64 (k : Int)) rfl (by kernel_rfl) (fun _ _ _ h => h) (by rfl) (fun w => by go_simp) ?_
       try go_simp
       refine tkA (i := 13) (v := Value.pointer (some ⟨b1, o1 + k * 4, none⟩)) rfl (by kernel_rfl) (fun _ _ _ h => h) (by rfl) (fun w => by go_simp) ?_
       try go_simp
       refine tkA (i := 14) (v := Value.pointer (some ⟨b1, o1 + k * 4, none⟩)) rfl (by kernel_rfl) (fun _ _ _ h => h) (by rfl) (fun w => by go_simp) ?_
       try go_simp
       refine tkA (i := 16) (v := Value.slice (some ⟨b1, o1, none⟩) n c2) rfl (by kernel_rfl) (fun _ _ _ h => h) (by rfl) (fun w => by go_simp) ?_
       try go_simp
       refine tkA (i := 17) (v := Value.int .i64 (k : Int)) rfl (by kernel_rfl) (fun _ _ _ h => h) (by rfl) (fun w => by go_simp) ?_
       try go_simp
       refine tkA (i := 18) (v := Value.int .i64 (j : Int)) rfl (by kernel_rfl) (fun _ _ _ h => h) (by rfl) (fun w => by go_simp) ?_
       try go_simp
       refine tkA (i := 19) (v := Value.pointer (some ⟨b1, o1 + j * 4, none⟩)) rfl (by kernel_rfl) (fun _ _ _ h => h) (by rfl) (fun w => by go_simp) ?_
       try go_simp
       refine tkA (i := 20) (v := Value.pointer (some ⟨b1, o1 + j * 4, none⟩)) rfl (by kernel_rfl) (fun _ _ _ h => h) (by rfl) (fun w => by go_simp) ?_
       try go_simp
       refine wpAny_ready (rs := [15, 21]) (by kernel_rfl) (by simp) (AllReady.cons rfl (fun K hK => ?_) (AllReady.cons rfl (fun K hK => ?_) AllReady.nil))
       ·go_simp
        refine hK _ _ ?_
        clear hK K
        refine wpAny_ready (rs := [21]) (by kernel_rfl) (by simp) (AllReady.cons rfl (fun K hK => ?_) AllReady.nil)
        go_simp
        refine hK _ _ ?_
        clear hK K
        refine tkA (i := 22) (v := Value.bool false) rfl (by kernel_rfl) (fun _ _ _ h => h) (by rfl) (fun w => by go_simp) ?_
        try go_simp
        refine tkA (i := 23) (v := Value.bool false) rfl (by kernel_rfl) (fun _ _ _ h => h) (by rfl) (fun w => by go_simp) ?_
        try go_simp
        refine tkA (i := 24) (v := Value.bool false) rfl (by kernel_rfl) (fun _ _ _ h => h) (by rfl) (fun w => by go_simp) ?_
        try go_simp
        refine tkA (i := 25) (v := Value.bool false) rfl (by kernel_rfl) (fun _ _ _ h => h) (by rfl) (fun w => by go_simp) ?_
        try go_simp
        refine tkA (i := 26) (v := Value.int .i64 V) rfl (by kernel_rfl) (fun _ _ _ h => h) (by rfl) (fun w => by go_simp) ?_
        try go_simp
        refine tkA (i := 27) (v := Value.bool true) rfl (by kernel_rfl) (fun _ _ _ h => h) (by rfl) (fun w => by go_simp) ?_
        try go_simp
        refine tkA (i := 28) (v := Value.bool true) rfl (by kernel_rfl) (fun _ _ _ h => h) (by rfl) (fun w => by go_simp) ?_
        try go_simp
        refine tkA (i := 29) (v := Value.bool true) rfl (by kernel_rfl) (fun _ _ _ h => h) (by rfl) (fun w => by go_simp) ?_
        try go_simp
        refine tkN (i := 30) rfl (by kernel_rfl) (fun _ _ _ h => h) (by rfl) ?_
        try go_simp
        refine tkN (i := 31) rfl (by kernel_rfl) (fun _ _ _ h => h) (by rfl) ?_
        try go_simp
        refine tkN (i := 32) rfl (by kernel_rfl) (fun _ _ _ h => h) (by rfl) ?_
        try go_simp
        refine tkN (i := 33) rfl (by kernel_rfl) (fun _ _ _ h => h) (by rfl) ?_
        try go_simp
        refine tkN (i := 34) rfl (by kernel_rfl) (fun _ _ _ h => h) (by rfl) ?_
        try go_simp
        refine tkN (i := 35) rfl (by kernel_rfl) (fun _ _ _ h => h) (by rfl) ?_
        try go_simp
        refine tkN (i := 36) rfl (by kernel_rfl) (fun _ _ _ h => h) (by rfl) ?_
        try go_simp
        refine tkN (i := 37) rfl (by kernel_rfl) (fun _ _ _ h => h) (by rfl) ?_
        try go_simp
        refine tkN (i := 38) rfl (by kernel_rfl) (fun _ _ _ h => h) (by rfl) ?_
        try go_simp
        refine tkA (i := 39) (v := Value.bool true) rfl (by kernel_rfl) (fun _ _ _ h => h) (by rfl) (fun w => by go_simp) ?_
        try go_simp
        refine wpAny_done (by kernel_rfl) ?_ _
        go_wp2_with fail
        go_ret
        exact ⟨ret_bool HF.out.symm, by first | exact HB2.out | exact HB2.out.drew | exact HB2.out.drew.drew | exact below_drewN HB2.out _⟩
       ·go_simp
        refine hK _ _ ?_
        clear hK K
        refine wpAny_ready (rs := [15]) (by kernel_rfl) (by simp) (AllReady.cons rfl (fun K hK => ?_) AllReady.nil)
        go_simp
        refine hK _ _ ?_
        clear hK K
        refine tkA (i := 22) (v := Value.bool false) rfl (by kernel_rfl) (fun _ _ _ h => h) (by rfl) (fun w => by go_simp) ?_
        try go_simp
        refine tkA (i := 23) (v := Value.bool false) rfl (by kernel_rfl) (fun _ _ _ h => h) (by rfl) (fun w => by go_simp) ?_
        try go_simp
        refine tkA (i := 24) (v := Value.bool false) rfl (by kernel_rfl) (fun _ _ _ h => h) (by rfl) (fun w => by go_simp) ?_
        try go_simp
        refine tkA (i := 25) (v := Value.bool false) rfl (by kernel_rfl) (fun _ _ _ h => h) (by rfl) (fun w => by go_simp) ?_
        try go_simp
        refine tkA (i := 26) (v := Value.int .i64 V) rfl (by kernel_rfl) (fun _ _ _ h => h) (by rfl) (fun w => by go_simp) ?_
        try go_simp
        refine tkA (i := 27) (v := Value.bool true) rfl (by kernel_rfl) (fun _ _ _ h => h) (by rfl) (fun w => by go_simp) ?_
        try go_simp
        refine tkA (i := 28) (v := Value.bool true) rfl (by kernel_rfl) (fun _ _ _ h => h) (by rfl) (fun w => by go_simp) ?_
        try go_simp
        refine tkA (i := 29) (v := Value.bool true) rfl (by kernel_rfl) (fun _ _ _ h => h) (by rfl) (fun w => by go_simp) ?_
        try go_simp
        refine tkN (i := 30) rfl (by kernel_rfl) (fun _ _ _ h => h) (by rfl) ?_
        try go_simp
        refine tkN (i := 31) rfl (by kernel_rfl) (fun _ _ _ h => h) (by rfl) ?_
        try go_simp
        refine tkN (i := 32) rfl (by kernel_rfl) (fun _ _ _ h => h) (by rfl) ?_
        try go_simp
        refine tkN (i := 33) rfl (by kernel_rfl) (fun _ _ _ h => h) (by rfl) ?_
        try go_simp
        refine tkN (i := 34) rfl (by kernel_rfl) (fun _ _ _ h => h) (by rfl) ?_
        try go_simp
        refine tkN (i := 35) rfl (by kernel_rfl) (fun _ _ _ h => h) (by rfl) ?_
        try go_simp
        refine tkN (i := 36) rfl (by kernel_rfl) (fun _ _ _ h => h) (by rfl) ?_
        try go_simp
        refine tkN (i := 37) rfl (by kernel_rfl) (fun _ _ _ h => h) (by rfl) ?_
        try go_simp
        refine tkN (i := 38) rfl (by kernel_rfl) (fun _ _ _ h => h) (by rfl) ?_
        try go_simp
        refine tkA (i := 39) (v := Value.bool true) rfl (by kernel_rfl) (fun _ _ _ h => h) (by rfl) (fun w => by go_simp) ?_
        try go_simp
        refine wpAny_done (by kernel_rfl) ?_ _
        go_wp2_with fail
        go_ret
        exact ⟨ret_bool HF.out.symm, by first | exact HB2.out | exact HB2.out.drew | exact HB2.out.drew.drew | exact below_drewN HB2.out _⟩
      by_cases hUV : U = V
      ·subst hUV
       have hne : (U != U) = false := by simp
       have HQ2 := kide (HQF.out (by omega) (by omega))
       clear HQN HQF
       go_wp2_with fail
       refine wp_region_any (by kernel_rfl) ?_
       try (change wpAny _ _ _ _ _ _ _ (World.drew _))
       refine tkA (i := 0) (v := Value.slice (some ⟨b1, o1, none⟩) n c2) rfl (by kernel_rfl) (fun _ _ _ h => h) (by rfl) (fun w => by go_simp) ?_
       try go_simp
       refine tkA (i := 1) (v := Value.int .i64 (k : Int)) rfl (by kernel_rfl) (fun _ _ _ h => h) (by rfl) (fun w => by go_simp) ?_
       try go_simp
       refine tkA (i := 2) (v := Value.pointer (some ⟨b1, o1 + k * 4, none⟩)) rfl (by kernel_rfl) (fun _ _ _ h => h) (by rfl) (fun w => by go_simp) ?_
       try go_simp
       refine tkA (i := 3) (v := Value.pointer (some ⟨b1, o1 + k * 4, none⟩)) rfl (by kernel_rfl) (fun _ _ _ h => h) (by rfl) (fun w => by go_simp) ?_
       try go_simp
       refine wpAny_ready (rs := [4]) (by kernel_rfl) (by simp) (AllReady.cons rfl (fun K hK => ?_) AllReady.nil)
       go_simp
       refine hK _ _ ?_
       clear hK K
       refine wpAny_ready (rs := [5]) (by kernel_rfl) (by simp) (AllReady.cons rfl (fun K hK => ?_) AllReady.nil)
       go_simp
       go_wp2_with (go_at_call 73; refine Calls.mono (HIN.out _) ?_; rintro e w3 ⟨rfl, rfl⟩)
       refine tkA (i := 6) (v := Value.bool false) rfl (by kernel_rfl) (fun _ _ _ h => h) (by rfl) (fun w => by go_simp) ?_
       try go_simp
       refine tkA (i := 7) (v := Value.bool false) rfl (by kernel_rfl) (fun _ _ _ h => h) (by rfl) (fun w => by go_simp) ?_
       try go_simp
       refine tkA (i := 8) (v := Value.int .i64 (k : Int)) rfl (by kernel_rfl) (fun _ _ _ h => h) (by rfl) (fun w => by go_simp) ?_
       try go_simp
       refine tkA (i := 9) (v := Value.bool true) rfl (by kernel_rfl) (fun _ _ _ h => h) (by rfl) (fun w => by go_simp) ?_
       try go_simp
       refine tkA (i := 10) (v := Value.bool true) rfl (by kernel_rfl) (fun _ _ _ h => h) (by rfl) (fun w => by go_simp) ?_
       try go_simp
       refine tkA (i := 11) (v := Value.slice (some ⟨b1, o1, none⟩) n c2) rfl (by kernel_rfl) (fun _ _ _ h => h) (by rfl) (fun w => by go_simp) ?_
       try go_simp
       refine tkA (i := 12) (v := Value.int .i64 (k : Int)) rfl (by kernel_rfl) (fun _ _ _ h => h) (by rfl) (fun w => by go_simp) ?_
       try go_simp
       refine tkA (i := 13) (v := Value.pointer (some ⟨b1, o1 + k * 4, none⟩)) rfl (by kernel_rfl) (fun _ _ _ h => h) (by rfl) (fun w => by go_simp) ?_
       try go_simp
       refine tkA (i := 14) (v := Value.pointer (some ⟨b1, o1 + k * 4, none⟩)) rfl (by kernel_rfl) (fun _ _ _ h => h) (by rfl) (fun w => by go_simp) ?_
       try go_simp
       refine tkA (i := 16) (v := Value.slice (some ⟨b1, o1, none⟩) n c2) rfl (by kernel_rfl) (fun _ _ _ h => h) (by rfl) (fun w => by go_simp) ?_
       try go_simp
       refine tkA (i := 17) (v := Value.int .i64 (k : Int)) rfl (by kernel_rfl) (fun _ _ _ h => h) (by rfl) (fun w => by go_simp) ?_
       try go_simp
       refine tkA (i := 18) (v := Value.int .i64 (j : Int)) rfl (by kernel_rfl) (fun _ _ _ h => h) (by rfl) (fun w => by go_simp) ?_
       try go_simp
       refine tkA (i := 19) (v := Value.pointer (some ⟨b1, o1 + j * 4, none⟩)) rfl (by kernel_rfl) (fun _ _ _ h => h) (by rfl) (fun w => by go_simp) ?_
       try go_simp
       refine tkA (i := 20) (v := Value.pointer (some ⟨b1, o1 + j * 4, none⟩)) rfl (by kernel_rfl) (fun _ _ _ h => h) (by rfl) (fun w => by go_simp) ?_
       try go_simp
       refine wpAny_ready (rs := [15, 21]) (by kernel_rfl) (by simp) (AllReady.cons rfl (fun K hK => ?_) (AllReady.cons rfl (fun K hK => ?_) AllReady.nil))
       ·go_simp
        refine hK _ _ ?_
        clear hK K
        refine wpAny_ready (rs := [21]) (by kernel_rfl) (by simp) (AllReady.cons rfl (fun K hK => ?_) AllReady.nil)
        go_simp
        refine hK _ _ ?_
        clear hK K
        refine tkA (i := 22) (v := Value.bool false) rfl (by kernel_rfl) (fun _ _ _ h => h) (by rfl) (fun w => by go_simp) ?_
        try go_simp
        refine tkA (i := 23) (v := Value.bool false) rfl (by kernel_rfl) (fun _ _ _ h => h) (by rfl) (fun w => by go_simp) ?_
        try go_simp
        refine tkA (i := 24) (v := Value.bool false) rfl (by kernel_rfl) (fun _ _ _ h => h) (by rfl) (fun w => by go_simp) ?_
        try go_simp
        refine tkA (i := 25) (v := Value.bool false) rfl (by kernel_rfl) (fun _ _ _ h => h) (by rfl) (fun w => by go_simp) ?_
        try go_simp
        refine tkA (i := 26) (v := Value.int .i64 U) rfl (by kernel_rfl) (fun _ _ _ h => h) (by rfl) (fun w => by go_simp) ?_
        try go_simp
        refine tkA (i := 27) (v := Value.bool false) rfl (by kernel_rfl) (fun _ _ _ h => h) (by rfl) (fun w => by go_simp) ?_
        try go_simp
        refine tkA (i := 28) (v := Value.bool false) rfl (by kernel_rfl) (fun _ _ _ h => h) (by rfl) (fun w => by go_simp) ?_
        try go_simp
        refine tkA (i := 29) (v := Value.bool false) rfl (by kernel_rfl) (fun _ _ _ h => h) (by rfl) (fun w => by go_simp) ?_
        try go_simp
        refine tkA (i := 30) (v := Value.slice a ds.length c) rfl (by kernel_rfl) (fun _ _ _ h => h) (by rfl) (fun w => by go_simp) ?_
        try go_simp
        refine tkA (i := 31) (v := Value.slice (some ⟨b1, o1, none⟩) n c2) rfl (by kernel_rfl) (fun _ _ _ h => h) (by rfl) (fun w => by go_simp) ?_
        try go_simp
        refine tkA (i := 32) (v := Value.int .i64 (k : Int)) rfl (by kernel_rfl) (fun _ _ _ h => h) (by rfl) (fun w => by go_simp) ?_
        try go_simp
        refine tkA (i := 33) (v := Value.pointer (some ⟨b1, o1 + k * 4, none⟩)) rfl (by kernel_rfl) (fun _ _ _ h => h) (by rfl) (fun w => by go_simp) ?_
        try go_simp
        refine tkA (i := 34) (v := Value.pointer (some ⟨b1, o1 + k * 4 + 3, none⟩)) rfl (by kernel_rfl) (fun _ _ _ h => h) (by rfl) (fun w => by go_simp) ?_
        try go_simp
        refine tkA (i := 37) (v := Value.int .i64 U) rfl (by kernel_rfl) (fun _ _ _ h => h) (by rfl) (fun w => by go_simp) ?_
        try go_simp
        refine wpAny_ready (rs := [35]) (by kernel_rfl) (by simp) (AllReady.cons rfl (fun K hK => ?_) AllReady.nil)
        go_simp
        refine hK _ _ ?_
        clear hK K
        refine wpAny_ready (rs := [36]) (by kernel_rfl) (by simp) (AllReady.cons rfl (fun K hK => ?_) AllReady.nil)
        go_simp
        go_wp2_with (go_at_call 72; refine Calls.mono (HW2.out _ ?_) ?_; (first | exact HB2.out | exact HB2.out.drew | exact HB2.out.drew.drew | exact below_drewN HB2.out _); rintro e w4 ⟨rfl, hb4⟩)
        refine tkA (i := 38) (v := Value.bool false) rfl (by kernel_rfl) (fun _ _ _ h => h) (by rfl) (fun w => by go_simp) ?_
        try go_simp
        refine tkA (i := 39) (v := Value.bool false) rfl (by kernel_rfl) (fun _ _ _ h => h) (by rfl) (fun w => by go_simp) ?_
        try go_simp
        refine wpAny_done (by kernel_rfl) ?_ _
        go_wp2_with fail
        go_roundw
        case rel => exact ⟨k + 1, id, by omega, by go_num, .inr ⟨k, _, rfl, HX.out, rfl, by omega⟩, HQ2.out, HB2.out.trans (Below.mono ⟨hb4.os, hb4.tape, hb4.output, hb4.size, hb4.block⟩ HB2.out.size)⟩
        case measure => simp [intOf]; omega
       ·go_simp
        refine hK _ _ ?_
        clear hK K
        refine wpAny_ready (rs := [15]) (by kernel_rfl) (by simp) (AllReady.cons rfl (fun K hK => ?_) AllReady.nil)
        go_simp
        refine hK _ _ ?_
        clear hK K
        refine tkA (i := 22) (v := Value.bool false) rfl (by kernel_rfl) (fun _ _ _ h => h) (by rfl) (fun w => by go_simp) ?_
        try go_simp
        refine tkA (i := 23) (v := Value.bool false) rfl (by kernel_rfl) (fun _ _ _ h => h) (by rfl) (fun w => by go_simp) ?_
        try go_simp
        refine tkA (i := 24) (v := Value.bool false) rfl (by kernel_rfl) (fun _ _ _ h => h) (by rfl) (fun w => by go_simp) ?_
        try go_simp
        refine tkA (i := 25) (v := Value.bool false) rfl (by kernel_rfl) (fun _ _ _ h => h) (by rfl) (fun w => by go_simp) ?_
        try go_simp
        refine tkA (i := 26) (v := Value.int .i64 U) rfl (by kernel_rfl) (fun _ _ _ h => h) (by rfl) (fun w => by go_simp) ?_
        try go_simp
        refine tkA (i := 27) (v := Value.bool false) rfl (by kernel_rfl) (fun _ _ _ h => h) (by rfl) (fun w => by go_simp) ?_
        try go_simp
        refine tkA (i := 28) (v := Value.bool false) rfl (by kernel_rfl) (fun _ _ _ h => h) (by rfl) (fun w => by go_simp) ?_
        try go_simp
        refine tkA (i := 29) (v := Value.bool false) rfl (by kernel_rfl) (fun _ _ _ h => h) (by rfl) (fun w => by go_simp) ?_
        try go_simp
        refine tkA (i := 30) (v := Value.slice a ds.length c) rfl (by kernel_rfl) (fun _ _ _ h => h) (by rfl) (fun w => by go_simp) ?_
        try go_simp
        refine tkA (i := 31) (v := Value.slice (some ⟨b1, o1, none⟩) n c2) rfl (by kernel_rfl) (fun _ _ _ h => h) (by rfl) (fun w => by go_simp) ?_
        try go_simp
        refine tkA (i := 32) (v := Value.int .i64 (k : Int)) rfl (by kernel_rfl) (fun _ _ _ h => h) (by rfl) (fun w => by go_simp) ?_
        try go_simp
        refine tkA (i := 33) (v := Value.pointer (some ⟨b1, o1 + k * 4, none⟩)) rfl (by kernel_rfl) (fun _ _ _ h => h) (by rfl) (fun w => by go_simp) ?_
        try go_simp
        refine tkA (i := 34) (v := Value.pointer (some ⟨b1, o1 + k * 4 + 3, none⟩)) rfl (by kernel_rfl) (fun _ _ _ h => h) (by rfl) (fun w => by go_simp) ?_
        try go_simp
        refine tkA (i := 37) (v := Value.int .i64 U) rfl (by kernel_rfl) (fun _ _ _ h => h) (by rfl) (fun w => by go_simp) ?_
        try go_simp
        refine wpAny_ready (rs := [35]) (by kernel_rfl) (by simp) (AllReady.cons rfl (fun K hK => ?_) AllReady.nil)
        go_simp
        refine hK _ _ ?_
        clear hK K
        refine wpAny_ready (rs := [36]) (by kernel_rfl) (by simp) (AllReady.cons rfl (fun K hK => ?_) AllReady.nil)
        go_simp
        go_wp2_with (go_at_call 72; refine Calls.mono (HW2.out _ ?_) ?_; (first | exact HB2.out | exact HB2.out.drew | exact HB2.out.drew.drew | exact below_drewN HB2.out _); rintro e w4 ⟨rfl, hb4⟩)
        refine tkA (i := 38) (v := Value.bool false) rfl (by kernel_rfl) (fun _ _ _ h => h) (by rfl) (fun w => by go_simp) ?_
        try go_simp
        refine tkA (i := 39) (v := Value.bool false) rfl (by kernel_rfl) (fun _ _ _ h => h) (by rfl) (fun w => by go_simp) ?_
        try go_simp
        refine wpAny_done (by kernel_rfl) ?_ _
        go_wp2_with fail
        go_roundw
        case rel => exact ⟨k + 1, id, by omega, by go_num, .inr ⟨k, _, rfl, HX.out, rfl, by omega⟩, HQ2.out, HB2.out.trans (Below.mono ⟨hb4.os, hb4.tape, hb4.output, hb4.size, hb4.block⟩ HB2.out.size)⟩
        case measure => simp [intOf]; omega
      ·have hne : (U != V) = true := by simp [hUV]
       have HF := kide (HQN.out (fun h => hUV h.2.2))
       clear HQN HQF hUV
       go_wp2_with fail
       refine wp_region_any (by kernel_rfl) ?_
       try (change wpAny _ _ _ _ _ _ _ (World.drew _))
       refine tkA (i := 0) (v := Value.slice (some ⟨b1, o1, none⟩) n c2) rfl (by kernel_rfl) (fun _ _ _ h => h) (by rfl) (fun w => by go_simp) ?_
       try go_simp
       refine tkA (i := 1) (v := Value.int .i64 (k : Int)) rfl (by kernel_rfl) (fun _ _ _ h => h) (by rfl) (fun w => by go_simp) ?_
       try go_simp
       refine tkA (i := 2) (v := Value.pointer (some ⟨b1, o1 + k * 4, none⟩)) rfl (by kernel_rfl) (fun _ _ _ h => h) (by rfl) (fun w => by go_simp) ?_
       try go_simp
       refine tkA (i := 3) (v := Value.pointer (some ⟨b1, o1 + k * 4, none⟩)) rfl (by kernel_rfl) (fun _ _ _ h => h) (by rfl) (fun w => by go_simp) ?_
       try go_simp
       refine wpAny_ready (rs := [4]) (by kernel_rfl) (by simp) (AllReady.cons rfl (fun K hK => ?_) AllReady.nil)
       go_simp
       refine hK _ _ ?_
       clear hK K
       refine wpAny_ready (rs := [5]) (by kernel_rfl) (by simp) (AllReady.cons rfl (fun K hK => ?_) AllReady.nil)
       go_simp
       go_wp2_with (go_at_call 73; refine Calls.mono (HIN.out _) ?_; rintro e w3 ⟨rfl, rfl⟩)
       refine tkA (i := 6) (v := Value.bool false) rfl (by kernel_rfl) (fun _ _ _ h => h) (by rfl) (fun w => by go_simp) ?_
       try go_simp
       refine tkA (i := 7) (v := Value.bool false) rfl (by kernel_rfl) (fun _ _ _ h => h) (by rfl) (fun w => by go_simp) ?_
       try go_simp
       refine tkA (i := 8) (v := Value.int .i64 (k : Int)) rfl (by kernel_rfl) (fun _ _ _ h => h) (by rfl) (fun w => by go_simp) ?_
       try go_simp
       refine tkA (i := 9) (v := Value.bool true) rfl (by kernel_rfl) (fun _ _ _ h => h) (by rfl) (fun w => by go_simp) ?_
       try go_simp
       refine tkA (i := 10) (v := Value.bool true) rfl (by kernel_rfl) (fun _ _ _ h => h) (by rfl) (fun w => by go_simp) ?_
       try go_simp
       refine tkA (i := 11) (v := Value.slice (some ⟨b1, o1, none⟩) n c2) rfl (by kernel_rfl) (fun _ _ _ h => h) (by rfl) (fun w => by go_simp) ?_
       try go_simp
       refine tkA (i := 12) (v := Value.int .i64 (k : Int)) rfl (by kernel_rfl) (fun _ _ _ h => h) (by rfl) (fun w => by go_simp) ?_
       try go_simp
       refine tkA (i := 13) (v := Value.pointer (some ⟨b1, o1 + k * 4, none⟩)) rfl (by kernel_rfl) (fun _ _ _ h => h) (by rfl) (fun w => by go_simp) ?_
       try go_simp
       refine tkA (i := 14) (v := Value.pointer (some ⟨b1, o1 + k * 4, none⟩)) rfl (by kernel_rfl) (fun _ _ _ h => h) (by rfl) (fun w => by go_simp) ?_
       try go_simp
       refine tkA (i := 16) (v := Value.slice (some ⟨b1, o1, none⟩) n c2) rfl (by kernel_rfl) (fun _ _ _ h => h) (by rfl) (fun w => by go_simp) ?_
       try go_simp
       refine tkA (i := 17) (v := Value.int .i64 (k : Int)) rfl (by kernel_rfl) (fun _ _ _ h => h) (by rfl) (fun w => by go_simp) ?_
       try go_simp
       refine tkA (i := 18) (v := Value.int .i64 (j : Int)) rfl (by kernel_rfl) (fun _ _ _ h => h) (by rfl) (fun w => by go_simp) ?_
       try go_simp
       refine tkA (i := 19) (v := Value.pointer (some ⟨b1, o1 + j * 4, none⟩)) rfl (by kernel_rfl) (fun _ _ _ h => h) (by rfl) (fun w => by go_simp) ?_
       try go_simp
       refine tkA (i := 20) (v := Value.pointer (some ⟨b1, o1 + j * 4, none⟩)) rfl (by kernel_rfl) (fun _ _ _ h => h) (by rfl) (fun w => by go_simp) ?_
       try go_simp
       refine wpAny_ready (rs := [15, 21]) (by kernel_rfl) (by simp) (AllReady.cons rfl (fun K hK => ?_) (AllReady.cons rfl (fun K hK => ?_) AllReady.nil))
       ·go_simp
        refine hK _ _ ?_
        clear hK K
        refine wpAny_ready (rs := [21]) (by kernel_rfl) (by simp) (AllReady.cons rfl (fun K hK => ?_) AllReady.nil)
        go_simp
        refine hK _ _ ?_
        clear hK K
        refine tkA (i := 22) (v := Value.bool false) rfl (by kernel_rfl) (fun _ _ _ h => h) (by rfl) (fun w => by go_simp) ?_
        try go_simp
        refine tkA (i := 23) (v := Value.bool false) rfl (by kernel_rfl) (fun _ _ _ h => h) (by rfl) (fun w => by go_simp) ?_
        try go_simp
        refine tkA (i := 24) (v := Value.bool false) rfl (by kernel_rfl) (fun _ _ _ h => h) (by rfl) (fun w => by go_simp) ?_
        try go_simp
        refine tkA (i := 25) (v := Value.bool false) rfl (by kernel_rfl) (fun _ _ _ h => h) (by rfl) (fun w => by go_simp) ?_
        try go_simp
        refine tkA (i := 26) (v := Value.int .i64 V) rfl (by kernel_rfl) (fun _ _ _ h => h) (by rfl) (fun w => by go_simp) ?_
        try go_simp
        refine tkA (i := 27) (v := Value.bool false) rfl (by kernel_rfl) (fun _ _ _ h => h) (by rfl) (fun w => by go_simp) ?_
        try go_simp
        refine tkA (i := 28) (v := Value.bool false) rfl (by kernel_rfl) (fun _ _ _ h => h) (by rfl) (fun w => by go_simp) ?_
        try go_simp
        refine tkA (i := 29) (v := Value.bool false) rfl (by kernel_rfl) (fun _ _ _ h => h) (by rfl) (fun w => by go_simp) ?_
        try go_simp
        refine tkA (i := 30) (v := Value.slice a ds.length c) rfl (by kernel_rfl) (fun _ _ _ h => h) (by rfl) (fun w => by go_simp) ?_
        try go_simp
        refine tkA (i := 31) (v := Value.slice (some ⟨b1, o1, none⟩) n c2) rfl (by kernel_rfl) (fun _ _ _ h => h) (by rfl) (fun w => by go_simp) ?_
        try go_simp
        refine tkA (i := 32) (v := Value.int .i64 (k : Int)) rfl (by kernel_rfl) (fun _ _ _ h => h) (by rfl) (fun w => by go_simp) ?_
        try go_simp
        refine tkA (i := 33) (v := Value.pointer (some ⟨b1, o1 + k * 4, none⟩)) rfl (by kernel_rfl) (fun _ _ _ h => h) (by rfl) (fun w => by go_simp) ?_
        try go_simp
        refine tkA (i := 34) (v := Value.pointer (some ⟨b1, o1 + k * 4 + 3, none⟩)) rfl (by kernel_rfl) (fun _ _ _ h => h) (by rfl) (fun w => by go_simp) ?_
        try go_simp
        refine tkA (i := 37) (v := Value.int .i64 V) rfl (by kernel_rfl) (fun _ _ _ h => h) (by rfl) (fun w => by go_simp) ?_
        try go_simp
        refine wpAny_ready (rs := [35]) (by kernel_rfl) (by simp) (AllReady.cons rfl (fun K hK => ?_) AllReady.nil)
        go_simp
        refine hK _ _ ?_
        clear hK K
        refine wpAny_ready (rs := [36]) (by kernel_rfl) (by simp) (AllReady.cons rfl (fun K hK => ?_) AllReady.nil)
        go_simp
        go_wp2_with (go_at_call 72; refine Calls.mono (HW2.out _ ?_) ?_; (first | exact HB2.out | exact HB2.out.drew | exact HB2.out.drew.drew | exact below_drewN HB2.out _); rintro e w4 ⟨rfl, hb4⟩)
        refine tkA (i := 38) (v := Value.bool true) rfl (by kernel_rfl) (fun _ _ _ h => h) (by rfl) (fun w => by go_simp) ?_
        try go_simp
        refine tkA (i := 39) (v := Value.bool true) rfl (by kernel_rfl) (fun _ _ _ h => h) (by rfl) (fun w => by go_simp) ?_
        try go_simp
        refine wpAny_done (by kernel_rfl) ?_ _
        go_wp2_with fail
        go_ret
        exact ⟨ret_bool HF.out.symm, HB2.out.trans (Below.mono ⟨hb4.os, hb4.tape, hb4.output, hb4.size, hb4.block⟩ HB2.out.size)⟩
       ·go_simp
        refine hK _ _ ?_
        clear hK K
        refine wpAny_ready (rs := [15]) (by kernel_rfl) (by simp) (AllReady.cons rfl (fun K hK => ?_) AllReady.nil)
        go_simp
        refine hK _ _ ?_
        clear hK K
        refine tkA (i := 22) (v := Value.bool false) rfl (by kernel_rfl) (fun _ _ _ h => h) (by rfl) (fun w => by go_simp) ?_
        try go_simp
        refine tkA (i := 23) (v := Value.bool false) rfl (by kernel_rfl) (fun _ _ _ h => h) (by rfl) (fun w => by go_simp) ?_
        try go_simp
        refine tkA (i := 24) (v := Value.bool false) rfl (by kernel_rfl) (fun _ _ _ h => h) (by rfl) (fun w => by go_simp) ?_
        try go_simp
        refine tkA (i := 25) (v := Value.bool false) rfl (by kernel_rfl) (fun _ _ _ h => h) (by rfl) (fun w => by go_simp) ?_
        try go_simp
        refine tkA (i := 26) (v := Value.int .i64 V) rfl (by kernel_rfl) (fun _ _ _ h => h) (by rfl) (fun w => by go_simp) ?_
        try go_simp
        refine tkA (i := 27) (v := Value.bool false) rfl (by kernel_rfl) (fun _ _ _ h => h) (by rfl) (fun w => by go_simp) ?_
        try go_simp
        refine tkA (i := 28) (v := Value.bool false) rfl (by kernel_rfl) (fun _ _ _ h => h) (by rfl) (fun w => by go_simp) ?_
        try go_simp
        refine tkA (i := 29) (v := Value.bool false) rfl (by kernel_rfl) (fun _ _ _ h => h) (by rfl) (fun w => by go_simp) ?_
        try go_simp
        refine tkA (i := 30) (v := Value.slice a ds.length c) rfl (by kernel_rfl) (fun _ _ _ h => h) (by rfl) (fun w => by go_simp) ?_
        try go_simp
        refine tkA (i := 31) (v := Value.slice (some ⟨b1, o1, none⟩) n c2) rfl (by kernel_rfl) (fun _ _ _ h => h) (by rfl) (fun w => by go_simp) ?_
        try go_simp
        refine tkA (i := 32) (v := Value.int .i64 (k : Int)) rfl (by kernel_rfl) (fun _ _ _ h => h) (by rfl) (fun w => by go_simp) ?_
        try go_simp
        refine tkA (i := 33) (v := Value.pointer (some ⟨b1, o1 + k * 4, none⟩)) rfl (by kernel_rfl) (fun _ _ _ h => h) (by rfl) (fun w => by go_simp) ?_
        try go_simp
        refine tkA (i := 34) (v := Value.pointer (some ⟨b1, o1 + k * 4 + 3, none⟩)) rfl (by kernel_rfl) (fun _ _ _ h => h) (by rfl) (fun w => by go_simp) ?_
        try go_simp
        refine tkA (i := 37) (v := Value.int .i64 V) rfl (by kernel_rfl) (fun _ _ _ h => h) (by rfl) (fun w => by go_simp) ?_
        try go_simp
        refine wpAny_ready (rs := [35]) (by kernel_rfl) (by simp) (AllReady.cons rfl (fun K hK => ?_) AllReady.nil)
        go_simp
        refine hK _ _ ?_
        clear hK K
        refine wpAny_ready (rs := [36]) (by kernel_rfl) (by simp) (AllReady.cons rfl (fun K hK => ?_) AllReady.nil)
        go_simp
        go_wp2_with (go_at_call 72; refine Calls.mono (HW2.out _ ?_) ?_; (first | exact HB2.out | exact HB2.out.drew | exact HB2.out.drew.drew | exact below_drewN HB2.out _); rintro e w4 ⟨rfl, hb4⟩)
        refine tkA (i := 38) (v := Value.bool true) rfl (by kernel_rfl) (fun _ _ _ h => h) (by rfl) (fun w => by go_simp) ?_
        try go_simp
        refine tkA (i := 39) (v := Value.bool true) rfl (by kernel_rfl) (fun _ _ _ h => h) (by rfl) (fun w => by go_simp) ?_
        try go_simp
        refine wpAny_done (by kernel_rfl) ?_ _
        go_wp2_with fail
        go_ret
        exact ⟨ret_bool HF.out.symm, HB2.out.trans (Below.mono ⟨hb4.os, hb4.tape, hb4.output, hb4.size, hb4.block⟩ HB2.out.size)⟩
    ·have e : k = n := by omega
     rw [e, List.drop_of_length_le (by simp [HN.out]), goL] at hq
     have HQ := kide hq
     clear hq hlast
     go_wp2_with fail
     go_ret
     exact ⟨ret_bool HQ.out, HB.out⟩
  ·have hR : litR ds (xs.map Lg.ct) = false := by simp [litR, hn]; omega
   rw [hR]
   clear hR hd hr hs hn
   have h61 : (60 : Int) < (n : Int) := by omega
   go_enter Tryz.func39, Tryz.ntmps39
   go_wp2_with fail
   refine Calls.mono (HD.out _ (Below.refl _ _)) ?_
   rintro e w1 ⟨rfl, hb1⟩
   go_wp2_with fail
   go_ret
   exact ⟨rfl, hb1⟩

end Go.Proofs.YtkngpgonmedgpaaGreatDoor
