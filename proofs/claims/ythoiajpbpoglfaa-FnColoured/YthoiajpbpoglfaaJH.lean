/- What the specification's GraphOk answers. -/
import Derived.Test.YthoiajpbpoglfaaZKAD
import Derived.Deep.RegionWith
namespace Go.Proofs.Ythoiajpbpoglfaa
set_option linter.unusedVariables false
set_option linter.unusedSimpArgs false
open Go.RowKit

theorem l3NoBitsG_any (bw : Int) (a : Option Addr) (n c : Nat) (w : World) (hn : n ≤ 1048576) :
    Calls Try.prog 50 #[.agg #[.int .i64 bw, .slice a n c]] w fun e w' => e = .returned (.bool (decide (bw = 0) && decide (n = 0))) ∧ Below w.heap.size w w' := by
  have hb0 : Below w.heap.size w (w.alloc (Obj.cells #[Value.int .i64 bw, Value.slice a n c] 48)) := (Below.refl _ _).alloc (Nat.le_refl _) _
  have B0 := kide hb0
  clear hb0
  by_cases h : bw = 0
  · subst h
    go_enter Try.func50, Try.ntmps50
    go_wp2_with fail
    go_ret
    exact ⟨ret_bool (by rw [Bool.eq_iff_iff]; simp), B0.out⟩
  · have e1 : (bw == 0) = false := by simp [h]
    have hR : (decide (bw = 0) && decide (n = 0)) = false := by simp [h]
    rw [hR]
    clear hR h
    go_enter Try.func50, Try.ntmps50
    go_wp2_with fail
    go_ret
    exact ⟨rfl, B0.out⟩

set_option maxHeartbeats 8000000 in
set_option maxRecDepth 100000 in
theorem specGraph_any (z : Gz) (w : World) (hz : RdG w z) :
    Calls Try.prog 19 #[z.val] w fun e w' => e = .returned (.bool (graphR z.ks (z.bs.map Yg.ct))) ∧ Below w.heap.size w w' := by
  obtain ⟨a1, c1, ks, a2, c2, bs⟩ := z
  obtain ⟨z1, z2⟩ := hz
  simp only [Gz.val] at z1 z2 ⊢
  have hl1 := z1.1
  have hl2 := z2.1
  have s0 := Bx.start w (.cells #[Value.slice a1 ks.length c1, Value.slice a2 bs.length c2] 32)
  by_cases hlong : 200 < ks.length ∨ 1000 < bs.length
  · rw [graphR_long (by simpa using hlong)]
    rcases hlong with h | h
    · go_enter Try.func19, Try.ntmps19
      go_wp2_with fail
      go_ret
      exact ⟨rfl, s0.below⟩
    · by_cases h1 : 200 < ks.length
      all_goals
        go_enter Try.func19, Try.ntmps19
        go_wp2_with fail
        go_ret
        exact ⟨rfl, s0.below⟩
  have hs1 : ks.length ≤ 200 := by omega
  have hs2 : bs.length ≤ 1000 := by omega
  generalize hZ : graphR ks (bs.map Yg.ct) = Z
  have HZ := kide hZ
  have HR1 := kide (fun u (hu : Below w.heap.size w u) => z1.later hu)
  have HR2 := kide (fun u (hu : Below w.heap.size w u) => z2.later hu)
  clear hZ hlong z1 z2
  go_enter Try.func19, Try.ntmps19
  go_wp2_with fail
  go_loopw [4] (fun i wr => ∃ k : Nat, k ≤ ks.length ∧ i = .int .i64 k ∧ (∀ j, j < k → wOk (ks.getD j 0) = true) ∧ Bx w (.cells #[Value.slice a1 ks.length c1, Value.slice a2 bs.length c2] 32) wr) (fun i _ => ks.length - (intOf i).toNat)
  case atStart => exact ⟨0, Nat.zero_le _, rfl, fun j hj => by omega, s0⟩
  case round =>
    obtain ⟨k, hk, rfl, hok, s1⟩ := hrel
    by_cases hlt : k < ks.length
    · obtain ⟨-, -, h | ⟨b, o, rfl, hc⟩⟩ := HR1.out wr s1.below
      · subst h; simp at hlt
      obtain ⟨x, hx⟩ : ∃ x, ks.getD k 0 = x := ⟨_, rfl⟩
      have p0 := hc k hlt
      rw [hx] at p0
      have g0 := s1.one 0
      simp at g0
      have hki : (k : Int) < (ks.length : Int) := by omega
      have HX := kide hx
      have HK := kide hok
      have HW : Hid (∀ u, Calls Try.prog 26 #[.int .i64 x, .int .i64 1, .int .i64 4096] u fun e w' => e = .returned (.bool (wOk x)) ∧ w' = u) := fun u => l1In_any x 1 4096 u
      clear hc hx hok s0
      cases hw : wOk x with
      | false =>
        have HF := kide (graphR_wide (bs := bs.map Yg.ct) hlt (by rw [HX.out]; exact hw))
        rw [hw] at HW
        clear hw
        go_wp2_with (go_at_call 26; refine Calls.mono (HW.out _) ?_; rintro e w1 ⟨rfl, rfl⟩)
        go_ret
        exact ⟨ret_bool (HF.out.symm.trans HZ.out), s1.below⟩
      | true =>
        rw [hw] at HW
        have HWW := kide hw
        clear hw
        go_wp2_with (go_at_call 26; refine Calls.mono (HW.out _) ?_; rintro e w1 ⟨rfl, rfl⟩)
        go_roundw
        case rel =>
          refine ⟨k + 1, by omega, by go_num, fun j hj => ?_, s1⟩
          by_cases hjk : j < k
          · exact HK.out j hjk
          · have : j = k := by omega
            subst this
            rw [HX.out]; exact HWW.out
        case measure => simp [intOf]; omega
    · have e : k = ks.length := by omega
      subst e
      have HK := kide hok
      clear hok s0 hlt
      have g1 := s1.one 1
      simp at g1
      go_wp2_with fail
      obtain ⟨wo, hwo⟩ : ∃ wo, wo = wr := ⟨_, rfl⟩
      subst hwo
      go_loopw [5] (fun i wr => ∃ k : Nat, k ≤ bs.length ∧ i = .int .i64 k ∧ (∀ (j : Nat) (s : Yg), j < k → bs[j]? = some s → brOk ks s.ct = true) ∧ Bx w (.cells #[Value.slice a1 ks.length c1, Value.slice a2 bs.length c2] 32) wr) (fun i _ => bs.length - (intOf i).toNat)
      case atStart => exact ⟨0, Nat.zero_le _, rfl, fun j s hj => by omega, s1⟩
      case round =>
        obtain ⟨k, hk, rfl, hok, s2⟩ := hrel
        have g0 := s2.one 0
        have g1' := s2.one 1
        simp at g0 g1'
        by_cases hlt : k < bs.length
        · obtain ⟨-, h | ⟨b, o, rfl, hc⟩⟩ := HR2.out wr s2.below
          · subst h; simp at hlt
          obtain ⟨⟨s, ax, cs⟩, hx⟩ : ∃ x, bs[k]? = some x := ⟨_, List.getElem?_eq_getElem hlt⟩
          obtain ⟨⟨p0, p1, p2, p3⟩, pr, -⟩ := hc k _ hx
          simp only [Yg.hd] at p0 p1 p2 p3 pr
          have hki : (k : Int) < (bs.length : Int) := by omega
          have HX := kide hx
          have hws := pr.1
          have s3 := s2.box (.cells #[Value.int .i64 s.v, Value.int .i64 s.lo, Value.int .i64 s.bw, Value.slice ax s.ws.length cs] 86)
          have HPR := kide (pr.later ((Below.refl _ _).alloc (Nat.le_refl _) (.cells #[Value.int .i64 s.v, Value.int .i64 s.lo, Value.int .i64 s.bw, Value.slice ax s.ws.length cs] 86)))
          have HBAD : Hid (brOk ks s = false → Z = false) := fun h => HZ.out.symm.trans (graphR_bar (k := k) (s := s) (by rw [List.getElem?_map, hx]; rfl) h)
          have HGOOD : Hid (brOk ks s = true → ∀ (j : Nat) (t : Yg), j < k + 1 → bs[j]? = some t → brOk ks t.ct = true) := fun h j t hj ht => by
            by_cases hjk : j < k
            · exact hok j t hjk ht
            · have : j = k := by omega
              subst this
              rw [hx] at ht
              cases ht
              exact h
          obtain ⟨v, lo, bw, ws⟩ := s
          simp only [brOk] at p0 p1 p2 p3 s3 HPR hws HBAD HGOOD
          have hwl : w.heap.size < wr.heap.size := s2.size
          have HLA := kide (fun u => l1In_any v 0 ((ks.length : Int) - 1) u)
          have HLB := kide (fun u => l1In_any lo (-1) ((ks.length : Int) - 1) u)
          have HNB := kide (fun u => l3NoBitsG_any bw ax ws.length cs u hws)
          have HOK := kide (fun u (hu : Below (wr.heap.size + 1) (wr.alloc (.cells #[Value.int .i64 v, Value.int .i64 lo, Value.int .i64 bw, Value.slice ax ws.length cs] 86)) u) => specOk_any bw ax cs ws u (HPR.out.later (by simpa using hu)))
          clear hc hx hok s1 pr g1
          by_cases h1 : 0 ≤ v ∧ v ≤ (ks.length : Int) - 1
          case neg =>
            rw [decide_eq_false h1] at HLA
            have HF := kide (HBAD.out (by have : ndOk ks.length v = false := by { simp [ndOk]; omega }
                                          rw [this]; rfl))
            clear HBAD HGOOD h1
            go_wp2_with (go_at_call 26; refine Calls.mono (HLA.out _) ?_; rintro e w1 ⟨rfl, rfl⟩)
            go_ret
            exact ⟨ret_bool HF.out.symm, s3.below⟩
          rw [decide_eq_true h1] at HLA
          obtain ⟨i, rfl, hi⟩ : ∃ i : Nat, v = (i : Int) ∧ i < ks.length := ⟨v.toNat, by omega, by omega⟩
          have hii : (i : Int) < (ks.length : Int) := by omega
          have nd1 : ndOk ks.length (i : Int) = true := by simp [ndOk]; omega
          simp only [nd1, Bool.true_and, Int.toNat_natCast] at HBAD HGOOD
          clear h1 nd1
          by_cases h2 : -1 ≤ lo ∧ lo ≤ (ks.length : Int) - 1
          case neg =>
            rw [decide_eq_false h2] at HLB
            have HF := kide (HBAD.out (by have : ndOk ks.length lo = false := by { simp [ndOk]; omega }
                                          rw [if_neg (by omega), this]; rfl))
            clear HBAD HGOOD h2
            go_wp2_with fail
            refine Calls.mono (HLA.out _) ?_
            rintro e w1 ⟨rfl, rfl⟩
            go_wp2_with fail
            refine Calls.mono (HLB.out _) ?_
            rintro e w1 ⟨rfl, rfl⟩
            go_wp2_with fail
            go_ret
            exact ⟨ret_bool HF.out.symm, s3.below⟩
          rw [decide_eq_true h2] at HLB
          by_cases h3 : (i : Int) = lo
          case pos =>
            subst h3
            have HF := kide (HBAD.out (by rw [if_neg (by omega)]; simp))
            have hee : ((i : Int) == (i : Int)) = true := by simp
            clear HBAD HGOOD h2
            go_wp2_with fail
            refine Calls.mono (HLA.out _) ?_
            rintro e w1 ⟨rfl, rfl⟩
            go_wp2_with fail
            refine Calls.mono (HLB.out _) ?_
            rintro e w1 ⟨rfl, rfl⟩
            go_wp2_with fail
            go_ret
            exact ⟨ret_bool HF.out.symm, s3.below⟩
          have hee : ((i : Int) == lo) = false := by simp [h3]
          clear h3
          obtain ⟨x, hxi⟩ : ∃ x, ks.getD i 0 = x := ⟨_, rfl⟩
          obtain ⟨b1, o1, rfl, R1⟩ : ∃ b1 o1, a1 = some ⟨b1, o1, none⟩ ∧ Hid (∀ u, Below w.heap.size w u → u.cell? ⟨b1, o1 + i, none⟩ = some (.int .i64 x)) := by
            obtain ⟨-, -, h | ⟨b1, o1, rfl, hc1⟩⟩ := HR1.out wr s2.below
            · subst h; simp at hi
            · refine ⟨b1, o1, rfl, fun u hu => ?_⟩
              obtain ⟨-, -, h | ⟨b2, o2, he, hc2⟩⟩ := HR1.out u hu
              · subst h; simp at hi
              · cases he
                rw [← hxi]
                exact hc2 i hi
          have r0 := R1.out _ s2.below
          have lb : b1 < wr.heap.size := block_lt_of_cell r0
          simp only [hxi] at HBAD HGOOD
          by_cases h4 : lo = -1
          · subst h4
            rw [if_pos rfl] at HBAD HGOOD
            cases h5 : rightB bw ws with
            | false =>
              rw [h5] at HOK
              have HF := kide (HBAD.out (by rw [h5]; rfl))
              clear HBAD HGOOD h5 hxi h2
              go_wp2_with fail
              refine Calls.mono (HLA.out _) ?_
              rintro e w1 ⟨rfl, rfl⟩
              go_wp2_with fail
              refine Calls.mono (HLB.out _) ?_
              rintro e w1 ⟨rfl, rfl⟩
              go_wp2_with fail
              go_quiet (fail)
              generalize hW : World.drewN (wr.alloc (.cells #[Value.int .i64 (i : Int), Value.int .i64 (-1), Value.int .i64 bw, Value.slice ax ws.length cs] 86)) nq = W at *
              have hBW : Below (wr.heap.size + 1) (wr.alloc (.cells #[Value.int .i64 (i : Int), Value.int .i64 (-1), Value.int .i64 bw, Value.slice ax ws.length cs] 86)) W := by rw [← hW]; exact below_drewN (Below.refl _ _) nq
              have s4 := s3.next (show Below _ _ W by simpa using hBW)
              have t0 := Below.cell (p := ⟨wr.heap.size, 0, none⟩) hBW (by simp)
              have t1 := Below.cell (p := ⟨wr.heap.size, 1, none⟩) hBW (by simp)
              have t2 := Below.cell (p := ⟨wr.heap.size, 2, none⟩) hBW (by simp)
              have t3 := Below.cell (p := ⟨wr.heap.size, 3, none⟩) hBW (by simp)
              simp [go_sem] at t0 t1 t2 t3
              have t4 := s4.one 0
              simp at t4
              have t5 := R1.out W s4.below
              have lW : wr.heap.size < W.heap.size := by have := hBW.size; simp at this; omega
              have lW2 : w.heap.size < W.heap.size := s4.size
              have lW3 : b1 < W.heap.size := by omega
              have HOW := kide (HOK.out W hBW)
              have HBW := kide hBW
              clear hW hBW s3
              go_wp2_with fail
              refine wp_region_any (by kernel_rfl) ?_
              try (change wpAny _ _ _ _ _ _ _ (World.drew _))
              refine wpAny_take (i := 0) (v := Value.pointer (some ⟨wr.heap.size, 1, none⟩)) rfl (by kernel_rfl) (by kernel_rfl) (by kernel_rfl) (fun _ _ _ h => h) (Or.inl ⟨by rfl, fun w => by go_simp⟩) ?_
              try go_simp
              refine wpAny_ready (rs := [1]) (by kernel_rfl) (by simp) (AllReady.cons rfl (fun K hK => ?_) AllReady.nil)
              go_simp
              refine hK _ _ ?_
              clear hK K
              refine wpAny_take (i := 2) (v := Value.bool true) rfl (by kernel_rfl) (by kernel_rfl) (by kernel_rfl) (fun _ _ _ h => h) (Or.inl ⟨by rfl, fun w => by go_simp⟩) ?_
              try go_simp
              refine wpAny_take (i := 3) (v := Value.bool true) rfl (by kernel_rfl) (by kernel_rfl) (by kernel_rfl) (fun _ _ _ h => h) (Or.inl ⟨by rfl, fun w => by go_simp⟩) ?_
              try go_simp
              refine wpAny_take (i := 4) (v := Value.pointer (some ⟨wr.heap.size, 2, none⟩)) rfl (by kernel_rfl) (by kernel_rfl) (by kernel_rfl) (fun _ _ _ h => h) (Or.inl ⟨by rfl, fun w => by go_simp⟩) ?_
              try go_simp
              refine wpAny_ready (rs := [5]) (by kernel_rfl) (by simp) (AllReady.cons rfl (fun K hK => ?_) AllReady.nil)
              go_simp
              refine hK _ _ ?_
              clear hK K
              refine wpAny_ready (rs := [6]) (by kernel_rfl) (by simp) (AllReady.cons rfl (fun K hK => ?_) AllReady.nil)
              go_simp
              go_wp2_with (go_at_call 51; refine Calls.mono (HOK.out _ ?_) ?_; (first | exact HBW.out | exact HBW.out.drew); rintro e w2 ⟨rfl, hb2⟩; have s5 := Bx.next (wk := W) s4 (kundrew hb2))
              refine wpAny_take (i := 7) (v := Value.bool true) rfl (by kernel_rfl) (by kernel_rfl) (by kernel_rfl) (fun _ _ _ h => h) (Or.inl ⟨by rfl, fun w => by go_simp⟩) ?_
              try go_simp
              refine wpAny_take (i := 8) (v := Value.bool true) rfl (by kernel_rfl) (by kernel_rfl) (by kernel_rfl) (fun _ _ _ h => h) (Or.inl ⟨by rfl, fun w => by go_simp⟩) ?_
              try go_simp
              refine wpAny_take (i := 9) (v := undef) rfl (by kernel_rfl) (by kernel_rfl) (by kernel_rfl) (fun _ _ _ h => h) (Or.inr ⟨by rfl, rfl⟩) ?_
              try go_simp
              refine wpAny_take (i := 10) (v := undef) rfl (by kernel_rfl) (by kernel_rfl) (by kernel_rfl) (fun _ _ _ h => h) (Or.inr ⟨by rfl, rfl⟩) ?_
              try go_simp
              refine wpAny_take (i := 11) (v := undef) rfl (by kernel_rfl) (by kernel_rfl) (by kernel_rfl) (fun _ _ _ h => h) (Or.inr ⟨by rfl, rfl⟩) ?_
              try go_simp
              refine wpAny_take (i := 12) (v := undef) rfl (by kernel_rfl) (by kernel_rfl) (by kernel_rfl) (fun _ _ _ h => h) (Or.inr ⟨by rfl, rfl⟩) ?_
              try go_simp
              refine wpAny_take (i := 13) (v := undef) rfl (by kernel_rfl) (by kernel_rfl) (by kernel_rfl) (fun _ _ _ h => h) (Or.inr ⟨by rfl, rfl⟩) ?_
              try go_simp
              refine wpAny_take (i := 14) (v := undef) rfl (by kernel_rfl) (by kernel_rfl) (by kernel_rfl) (fun _ _ _ h => h) (Or.inr ⟨by rfl, rfl⟩) ?_
              try go_simp
              refine wpAny_take (i := 15) (v := undef) rfl (by kernel_rfl) (by kernel_rfl) (by kernel_rfl) (fun _ _ _ h => h) (Or.inr ⟨by rfl, rfl⟩) ?_
              try go_simp
              refine wpAny_take (i := 16) (v := undef) rfl (by kernel_rfl) (by kernel_rfl) (by kernel_rfl) (fun _ _ _ h => h) (Or.inr ⟨by rfl, rfl⟩) ?_
              try go_simp
              refine wpAny_take (i := 17) (v := undef) rfl (by kernel_rfl) (by kernel_rfl) (by kernel_rfl) (fun _ _ _ h => h) (Or.inr ⟨by rfl, rfl⟩) ?_
              try go_simp
              refine wpAny_take (i := 18) (v := undef) rfl (by kernel_rfl) (by kernel_rfl) (by kernel_rfl) (fun _ _ _ h => h) (Or.inr ⟨by rfl, rfl⟩) ?_
              try go_simp
              refine wpAny_take (i := 19) (v := Value.bool true) rfl (by kernel_rfl) (by kernel_rfl) (by kernel_rfl) (fun _ _ _ h => h) (Or.inl ⟨by rfl, fun w => by go_simp⟩) ?_
              try go_simp
              refine wpAny_take (i := 20) (v := Value.bool true) rfl (by kernel_rfl) (by kernel_rfl) (by kernel_rfl) (fun _ _ _ h => h) (Or.inl ⟨by rfl, fun w => by go_simp⟩) ?_
              try go_simp
              refine wpAny_done (by kernel_rfl) ?_ _
              go_wp2_with fail
              go_ret
              exact ⟨ret_bool HF.out.symm, s5.below⟩
            | true =>
              rw [h5] at HOK
              by_cases h6 : bw = x
              · subst h6
                have hne : (bw != bw) = false := by simp
                have HF := kide (HGOOD.out (by rw [h5]; simp))
                clear HBAD HGOOD h5 hxi h2
                go_wp2_with fail
                refine Calls.mono (HLA.out _) ?_
                rintro e w1 ⟨rfl, rfl⟩
                go_wp2_with fail
                refine Calls.mono (HLB.out _) ?_
                rintro e w1 ⟨rfl, rfl⟩
                go_wp2_with fail
                go_quiet (fail)
                generalize hW : World.drewN (wr.alloc (.cells #[Value.int .i64 (i : Int), Value.int .i64 (-1), Value.int .i64 bw, Value.slice ax ws.length cs] 86)) nq = W at *
                have hBW : Below (wr.heap.size + 1) (wr.alloc (.cells #[Value.int .i64 (i : Int), Value.int .i64 (-1), Value.int .i64 bw, Value.slice ax ws.length cs] 86)) W := by rw [← hW]; exact below_drewN (Below.refl _ _) nq
                have s4 := s3.next (show Below _ _ W by simpa using hBW)
                have t0 := Below.cell (p := ⟨wr.heap.size, 0, none⟩) hBW (by simp)
                have t1 := Below.cell (p := ⟨wr.heap.size, 1, none⟩) hBW (by simp)
                have t2 := Below.cell (p := ⟨wr.heap.size, 2, none⟩) hBW (by simp)
                have t3 := Below.cell (p := ⟨wr.heap.size, 3, none⟩) hBW (by simp)
                simp [go_sem] at t0 t1 t2 t3
                have t4 := s4.one 0
                simp at t4
                have t5 := R1.out W s4.below
                have lW : wr.heap.size < W.heap.size := by have := hBW.size; simp at this; omega
                have lW2 : w.heap.size < W.heap.size := s4.size
                have lW3 : b1 < W.heap.size := by omega
                have HOW := kide (HOK.out W hBW)
                have HBW := kide hBW
                clear hW hBW s3
                go_wp2_with fail
                go_region_held3 (fun u => u.cell? ⟨wr.heap.size, 0, none⟩ = some (Value.int .i64 (i : Int)) ∧ u.cell? ⟨wr.heap.size, 1, none⟩ = some (Value.int .i64 (-1)) ∧ u.cell? ⟨wr.heap.size, 2, none⟩ = some (Value.int .i64 bw) ∧ u.cell? ⟨wr.heap.size, 3, none⟩ = some (Value.slice ax ws.length cs) ∧ u.cell? ⟨w.heap.size, 0, none⟩ = some (Value.slice (some ⟨b1, o1, none⟩) ks.length c1) ∧ u.cell? ⟨b1, o1 + i, none⟩ = some (Value.int .i64 bw)) (simp [*])
                  ((go_at_call 51; refine Calls.mono (HOK.out _ ?_) ?_; (first | exact HBW.out | exact HBW.out.drew); rintro e w2 ⟨rfl, hb2⟩; replace hb2 := kundrew hb2; have s5 := Bx.next (wk := W) s4 hb2; have j0 := (kcell hb2 wr.heap.size 0 lW).trans t0; have j1 := (kcell hb2 wr.heap.size 1 lW).trans t1; have j2 := (kcell hb2 wr.heap.size 2 lW).trans t2; have j3 := (kcell hb2 wr.heap.size 3 lW).trans t3; have j4 := (kcell hb2 w.heap.size 0 lW2).trans t4; have j5 := (kcell hb2 b1 (o1 + i) lW3).trans t5))
                go_wp2_with fail
                go_roundw
                case rel => exact ⟨k + 1, by omega, by go_num, HF.out, s5⟩
                case measure => simp [intOf]; omega
              · have hne : (bw != x) = true := by simp [h6]
                have HF := kide (HBAD.out (by simp [h6]))
                clear HBAD HGOOD h5 hxi h2 h6
                go_wp2_with fail
                refine Calls.mono (HLA.out _) ?_
                rintro e w1 ⟨rfl, rfl⟩
                go_wp2_with fail
                refine Calls.mono (HLB.out _) ?_
                rintro e w1 ⟨rfl, rfl⟩
                go_wp2_with fail
                go_quiet (fail)
                generalize hW : World.drewN (wr.alloc (.cells #[Value.int .i64 (i : Int), Value.int .i64 (-1), Value.int .i64 bw, Value.slice ax ws.length cs] 86)) nq = W at *
                have hBW : Below (wr.heap.size + 1) (wr.alloc (.cells #[Value.int .i64 (i : Int), Value.int .i64 (-1), Value.int .i64 bw, Value.slice ax ws.length cs] 86)) W := by rw [← hW]; exact below_drewN (Below.refl _ _) nq
                have s4 := s3.next (show Below _ _ W by simpa using hBW)
                have t0 := Below.cell (p := ⟨wr.heap.size, 0, none⟩) hBW (by simp)
                have t1 := Below.cell (p := ⟨wr.heap.size, 1, none⟩) hBW (by simp)
                have t2 := Below.cell (p := ⟨wr.heap.size, 2, none⟩) hBW (by simp)
                have t3 := Below.cell (p := ⟨wr.heap.size, 3, none⟩) hBW (by simp)
                simp [go_sem] at t0 t1 t2 t3
                have t4 := s4.one 0
                simp at t4
                have t5 := R1.out W s4.below
                have lW : wr.heap.size < W.heap.size := by have := hBW.size; simp at this; omega
                have lW2 : w.heap.size < W.heap.size := s4.size
                have lW3 : b1 < W.heap.size := by omega
                have HOW := kide (HOK.out W hBW)
                have HBW := kide hBW
                clear hW hBW s3
                go_wp2_with fail
                go_region_held3 (fun u => u.cell? ⟨wr.heap.size, 0, none⟩ = some (Value.int .i64 (i : Int)) ∧ u.cell? ⟨wr.heap.size, 1, none⟩ = some (Value.int .i64 (-1)) ∧ u.cell? ⟨wr.heap.size, 2, none⟩ = some (Value.int .i64 bw) ∧ u.cell? ⟨wr.heap.size, 3, none⟩ = some (Value.slice ax ws.length cs) ∧ u.cell? ⟨w.heap.size, 0, none⟩ = some (Value.slice (some ⟨b1, o1, none⟩) ks.length c1) ∧ u.cell? ⟨b1, o1 + i, none⟩ = some (Value.int .i64 x)) (simp [*])
                  ((go_at_call 51; refine Calls.mono (HOK.out _ ?_) ?_; (first | exact HBW.out | exact HBW.out.drew); rintro e w2 ⟨rfl, hb2⟩; replace hb2 := kundrew hb2; have s5 := Bx.next (wk := W) s4 hb2; have j0 := (kcell hb2 wr.heap.size 0 lW).trans t0; have j1 := (kcell hb2 wr.heap.size 1 lW).trans t1; have j2 := (kcell hb2 wr.heap.size 2 lW).trans t2; have j3 := (kcell hb2 wr.heap.size 3 lW).trans t3; have j4 := (kcell hb2 w.heap.size 0 lW2).trans t4; have j5 := (kcell hb2 b1 (o1 + i) lW3).trans t5))
                go_wp2_with fail
                go_ret
                exact ⟨ret_bool HF.out.symm, s5.below⟩
          · obtain ⟨j, rfl, hj⟩ : ∃ j : Nat, lo = (j : Int) ∧ j < ks.length := ⟨lo.toNat, by omega, by omega⟩
            have hji : (j : Int) < (ks.length : Int) := by omega
            have nd1 : ndOk ks.length (j : Int) = true := by simp [ndOk]; omega
            have hd : decide ((j : Int) ≠ i) = true := by have := hee; simp at this ⊢; omega
            obtain ⟨y, hyj⟩ : ∃ y, ks.getD j 0 = y := ⟨_, rfl⟩
            simp only [if_neg h4, nd1, hd, Bool.true_and, Int.toNat_natCast, hyj] at HBAD HGOOD
            have r1 : wr.cell? ⟨b1, o1 + j, none⟩ = some (.int .i64 y) := by
              obtain ⟨-, -, h | ⟨b2, o2, he, hc2⟩⟩ := HR1.out _ s2.below
              · subst h; simp at hi
              · cases he
                rw [← hyj]
                exact hc2 j hj
            clear nd1 hd h4 h2 hyj hxi
            by_cases h6 : y = x
            · subst h6
              have hne : (y != y) = false := by simp
              cases h7 : (decide (bw = 0) && decide (ws.length = 0)) with
              | false =>
                rw [h7] at HNB
                have HF := kide (HBAD.out (by rw [Bool.and_assoc, h7]; simp))
                clear HBAD HGOOD h7
                go_wp2_with fail
                refine Calls.mono (HLA.out _) ?_
                rintro e w1 ⟨rfl, rfl⟩
                go_wp2_with fail
                refine Calls.mono (HLB.out _) ?_
                rintro e w1 ⟨rfl, rfl⟩
                have t0 : (wr.alloc (.cells #[Value.int .i64 (i : Int), Value.int .i64 (j : Int), Value.int .i64 bw, Value.slice ax ws.length cs] 86)).cell? ⟨wr.heap.size, 0, none⟩ = some (Value.int .i64 (i : Int)) := by simp
                have t1 : (wr.alloc (.cells #[Value.int .i64 (i : Int), Value.int .i64 (j : Int), Value.int .i64 bw, Value.slice ax ws.length cs] 86)).cell? ⟨wr.heap.size, 1, none⟩ = some (Value.int .i64 (j : Int)) := by simp
                have t2 : (wr.alloc (.cells #[Value.int .i64 (i : Int), Value.int .i64 (j : Int), Value.int .i64 bw, Value.slice ax ws.length cs] 86)).cell? ⟨wr.heap.size, 2, none⟩ = some (Value.int .i64 bw) := by simp
                have t3 : (wr.alloc (.cells #[Value.int .i64 (i : Int), Value.int .i64 (j : Int), Value.int .i64 bw, Value.slice ax ws.length cs] 86)).cell? ⟨wr.heap.size, 3, none⟩ = some (Value.slice ax ws.length cs) := by simp
                have t4 := s3.one 0
                simp at t4
                have t5 := R1.out _ s3.below
                have t6 : (wr.alloc (.cells #[Value.int .i64 (i : Int), Value.int .i64 (j : Int), Value.int .i64 bw, Value.slice ax ws.length cs] 86)).cell? ⟨b1, o1 + j, none⟩ = some (.int .i64 y) := (Below.cell (p := ⟨b1, o1 + j, none⟩) ((Below.refl _ _).alloc (Nat.le_refl _) _) lb).trans r1
                have lW : wr.heap.size < (wr.alloc (.cells #[Value.int .i64 (i : Int), Value.int .i64 (j : Int), Value.int .i64 bw, Value.slice ax ws.length cs] 86)).heap.size := by simp
                have lW2 : w.heap.size < (wr.alloc (.cells #[Value.int .i64 (i : Int), Value.int .i64 (j : Int), Value.int .i64 bw, Value.slice ax ws.length cs] 86)).heap.size := s3.size
                have lW3 : b1 < (wr.alloc (.cells #[Value.int .i64 (i : Int), Value.int .i64 (j : Int), Value.int .i64 bw, Value.slice ax ws.length cs] 86)).heap.size := by simp; omega
                go_wp2_with fail
                generalize wr.alloc (.cells #[Value.int .i64 (i : Int), Value.int .i64 (j : Int), Value.int .i64 bw, Value.slice ax ws.length cs] 86) = W at *
                clear r0 r1 HPR HOK
                go_region_held3 (fun u => u.cell? ⟨wr.heap.size, 0, none⟩ = some (Value.int .i64 (i : Int)) ∧ u.cell? ⟨wr.heap.size, 1, none⟩ = some (Value.int .i64 (j : Int)) ∧ u.cell? ⟨wr.heap.size, 2, none⟩ = some (Value.int .i64 bw) ∧ u.cell? ⟨wr.heap.size, 3, none⟩ = some (Value.slice ax ws.length cs) ∧ u.cell? ⟨w.heap.size, 0, none⟩ = some (Value.slice (some ⟨b1, o1, none⟩) ks.length c1) ∧ u.cell? ⟨b1, o1 + i, none⟩ = some (Value.int .i64 y) ∧ u.cell? ⟨b1, o1 + j, none⟩ = some (Value.int .i64 y)) (simp [*])
                  ((go_at_call 50; refine Calls.mono (HNB.out _) ?_; rintro e w2 ⟨rfl, hb2⟩; replace hb2 := kundrew hb2; have s5 := Bx.next (wk := W) s3 hb2; have j0 := (kcell hb2 wr.heap.size 0 lW).trans t0; have j1 := (kcell hb2 wr.heap.size 1 lW).trans t1; have j2 := (kcell hb2 wr.heap.size 2 lW).trans t2; have j3 := (kcell hb2 wr.heap.size 3 lW).trans t3; have j4 := (kcell hb2 w.heap.size 0 lW2).trans t4; have j5 := (kcell hb2 b1 (o1 + i) lW3).trans t5; have j6 := (kcell hb2 b1 (o1 + j) lW3).trans t6))
                go_wp2_with fail
                go_ret
                exact ⟨ret_bool HF.out.symm, s5.below⟩
              | true =>
                rw [h7] at HNB
                have HF := kide (HGOOD.out (by rw [Bool.and_assoc, h7]; simp))
                clear HBAD HGOOD h7
                go_wp2_with fail
                refine Calls.mono (HLA.out _) ?_
                rintro e w1 ⟨rfl, rfl⟩
                go_wp2_with fail
                refine Calls.mono (HLB.out _) ?_
                rintro e w1 ⟨rfl, rfl⟩
                have t0 : (wr.alloc (.cells #[Value.int .i64 (i : Int), Value.int .i64 (j : Int), Value.int .i64 bw, Value.slice ax ws.length cs] 86)).cell? ⟨wr.heap.size, 0, none⟩ = some (Value.int .i64 (i : Int)) := by simp
                have t1 : (wr.alloc (.cells #[Value.int .i64 (i : Int), Value.int .i64 (j : Int), Value.int .i64 bw, Value.slice ax ws.length cs] 86)).cell? ⟨wr.heap.size, 1, none⟩ = some (Value.int .i64 (j : Int)) := by simp
                have t2 : (wr.alloc (.cells #[Value.int .i64 (i : Int), Value.int .i64 (j : Int), Value.int .i64 bw, Value.slice ax ws.length cs] 86)).cell? ⟨wr.heap.size, 2, none⟩ = some (Value.int .i64 bw) := by simp
                have t3 : (wr.alloc (.cells #[Value.int .i64 (i : Int), Value.int .i64 (j : Int), Value.int .i64 bw, Value.slice ax ws.length cs] 86)).cell? ⟨wr.heap.size, 3, none⟩ = some (Value.slice ax ws.length cs) := by simp
                have t4 := s3.one 0
                simp at t4
                have t5 := R1.out _ s3.below
                have t6 : (wr.alloc (.cells #[Value.int .i64 (i : Int), Value.int .i64 (j : Int), Value.int .i64 bw, Value.slice ax ws.length cs] 86)).cell? ⟨b1, o1 + j, none⟩ = some (.int .i64 y) := (Below.cell (p := ⟨b1, o1 + j, none⟩) ((Below.refl _ _).alloc (Nat.le_refl _) _) lb).trans r1
                have lW : wr.heap.size < (wr.alloc (.cells #[Value.int .i64 (i : Int), Value.int .i64 (j : Int), Value.int .i64 bw, Value.slice ax ws.length cs] 86)).heap.size := by simp
                have lW2 : w.heap.size < (wr.alloc (.cells #[Value.int .i64 (i : Int), Value.int .i64 (j : Int), Value.int .i64 bw, Value.slice ax ws.length cs] 86)).heap.size := s3.size
                have lW3 : b1 < (wr.alloc (.cells #[Value.int .i64 (i : Int), Value.int .i64 (j : Int), Value.int .i64 bw, Value.slice ax ws.length cs] 86)).heap.size := by simp; omega
                go_wp2_with fail
                generalize wr.alloc (.cells #[Value.int .i64 (i : Int), Value.int .i64 (j : Int), Value.int .i64 bw, Value.slice ax ws.length cs] 86) = W at *
                clear r0 r1 HPR HOK
                go_region_held3 (fun u => u.cell? ⟨wr.heap.size, 0, none⟩ = some (Value.int .i64 (i : Int)) ∧ u.cell? ⟨wr.heap.size, 1, none⟩ = some (Value.int .i64 (j : Int)) ∧ u.cell? ⟨wr.heap.size, 2, none⟩ = some (Value.int .i64 bw) ∧ u.cell? ⟨wr.heap.size, 3, none⟩ = some (Value.slice ax ws.length cs) ∧ u.cell? ⟨w.heap.size, 0, none⟩ = some (Value.slice (some ⟨b1, o1, none⟩) ks.length c1) ∧ u.cell? ⟨b1, o1 + i, none⟩ = some (Value.int .i64 y) ∧ u.cell? ⟨b1, o1 + j, none⟩ = some (Value.int .i64 y)) (simp [*])
                  ((go_at_call 50; refine Calls.mono (HNB.out _) ?_; rintro e w2 ⟨rfl, hb2⟩; replace hb2 := kundrew hb2; have s5 := Bx.next (wk := W) s3 hb2; have j0 := (kcell hb2 wr.heap.size 0 lW).trans t0; have j1 := (kcell hb2 wr.heap.size 1 lW).trans t1; have j2 := (kcell hb2 wr.heap.size 2 lW).trans t2; have j3 := (kcell hb2 wr.heap.size 3 lW).trans t3; have j4 := (kcell hb2 w.heap.size 0 lW2).trans t4; have j5 := (kcell hb2 b1 (o1 + i) lW3).trans t5; have j6 := (kcell hb2 b1 (o1 + j) lW3).trans t6))
                go_wp2_with fail
                refine wp_region_any (by kernel_rfl) ?_
                try (change wpAny _ _ _ _ _ _ _ (World.drew _))
                refine wpAny_take (i := 0) (v := Value.pointer (some ⟨wr.heap.size, 1, none⟩)) rfl (by kernel_rfl) (by kernel_rfl) (by kernel_rfl) (fun _ _ _ h => h) (Or.inl ⟨by rfl, fun w => by go_simp⟩) ?_
                try go_simp
                refine wpAny_ready (rs := [1]) (by kernel_rfl) (by simp) (AllReady.cons rfl (fun K hK => ?_) AllReady.nil)
                go_simp
                refine hK _ _ ?_
                clear hK K
                refine wpAny_take (i := 2) (v := Value.bool false) rfl (by kernel_rfl) (by kernel_rfl) (by kernel_rfl) (fun _ _ _ h => h) (Or.inl ⟨by rfl, fun w => by go_simp⟩) ?_
                try go_simp
                refine wpAny_take (i := 3) (v := Value.bool false) rfl (by kernel_rfl) (by kernel_rfl) (by kernel_rfl) (fun _ _ _ h => h) (Or.inl ⟨by rfl, fun w => by go_simp⟩) ?_
                try go_simp
                refine wpAny_take (i := 4) (v := undef) rfl (by kernel_rfl) (by kernel_rfl) (by kernel_rfl) (fun _ _ _ h => h) (Or.inr ⟨by rfl, rfl⟩) ?_
                try go_simp
                refine wpAny_take (i := 5) (v := undef) rfl (by kernel_rfl) (by kernel_rfl) (by kernel_rfl) (fun _ _ _ h => h) (Or.inr ⟨by rfl, rfl⟩) ?_
                try go_simp
                refine wpAny_take (i := 6) (v := undef) rfl (by kernel_rfl) (by kernel_rfl) (by kernel_rfl) (fun _ _ _ h => h) (Or.inr ⟨by rfl, rfl⟩) ?_
                try go_simp
                refine wpAny_take (i := 7) (v := undef) rfl (by kernel_rfl) (by kernel_rfl) (by kernel_rfl) (fun _ _ _ h => h) (Or.inr ⟨by rfl, rfl⟩) ?_
                try go_simp
                refine wpAny_take (i := 8) (v := undef) rfl (by kernel_rfl) (by kernel_rfl) (by kernel_rfl) (fun _ _ _ h => h) (Or.inr ⟨by rfl, rfl⟩) ?_
                try go_simp
                refine wpAny_take (i := 9) (v := undef) rfl (by kernel_rfl) (by kernel_rfl) (by kernel_rfl) (fun _ _ _ h => h) (Or.inr ⟨by rfl, rfl⟩) ?_
                try go_simp
                refine wpAny_take (i := 10) (v := undef) rfl (by kernel_rfl) (by kernel_rfl) (by kernel_rfl) (fun _ _ _ h => h) (Or.inr ⟨by rfl, rfl⟩) ?_
                try go_simp
                refine wpAny_take (i := 11) (v := undef) rfl (by kernel_rfl) (by kernel_rfl) (by kernel_rfl) (fun _ _ _ h => h) (Or.inr ⟨by rfl, rfl⟩) ?_
                try go_simp
                refine wpAny_take (i := 12) (v := undef) rfl (by kernel_rfl) (by kernel_rfl) (by kernel_rfl) (fun _ _ _ h => h) (Or.inr ⟨by rfl, rfl⟩) ?_
                try go_simp
                refine wpAny_take (i := 13) (v := undef) rfl (by kernel_rfl) (by kernel_rfl) (by kernel_rfl) (fun _ _ _ h => h) (Or.inr ⟨by rfl, rfl⟩) ?_
                try go_simp
                refine wpAny_take (i := 14) (v := undef) rfl (by kernel_rfl) (by kernel_rfl) (by kernel_rfl) (fun _ _ _ h => h) (Or.inr ⟨by rfl, rfl⟩) ?_
                try go_simp
                refine wpAny_take (i := 15) (v := undef) rfl (by kernel_rfl) (by kernel_rfl) (by kernel_rfl) (fun _ _ _ h => h) (Or.inr ⟨by rfl, rfl⟩) ?_
                try go_simp
                refine wpAny_take (i := 16) (v := undef) rfl (by kernel_rfl) (by kernel_rfl) (by kernel_rfl) (fun _ _ _ h => h) (Or.inr ⟨by rfl, rfl⟩) ?_
                try go_simp
                refine wpAny_take (i := 17) (v := undef) rfl (by kernel_rfl) (by kernel_rfl) (by kernel_rfl) (fun _ _ _ h => h) (Or.inr ⟨by rfl, rfl⟩) ?_
                try go_simp
                refine wpAny_take (i := 18) (v := undef) rfl (by kernel_rfl) (by kernel_rfl) (by kernel_rfl) (fun _ _ _ h => h) (Or.inr ⟨by rfl, rfl⟩) ?_
                try go_simp
                refine wpAny_take (i := 19) (v := undef) rfl (by kernel_rfl) (by kernel_rfl) (by kernel_rfl) (fun _ _ _ h => h) (Or.inr ⟨by rfl, rfl⟩) ?_
                try go_simp
                refine wpAny_take (i := 20) (v := Value.bool false) rfl (by kernel_rfl) (by kernel_rfl) (by kernel_rfl) (fun _ _ _ h => h) (Or.inl ⟨by rfl, fun w => by go_simp⟩) ?_
                try go_simp
                refine wpAny_done (by kernel_rfl) ?_ _
                go_wp2_with fail
                go_roundw
                case rel => exact ⟨k + 1, by omega, by go_num, HF.out, s5.next (by repeat (first | exact Below.refl _ _ | exact (Below.refl _ _).drew | refine Below.drew ?_))⟩
                case measure => simp [intOf]; omega
            · have hne : (y != x) = true := by simp [h6]
              have HF := kide (HBAD.out (by simp [h6]))
              clear HBAD HGOOD h6
              go_wp2_with fail
              refine Calls.mono (HLA.out _) ?_
              rintro e w1 ⟨rfl, rfl⟩
              go_wp2_with fail
              refine Calls.mono (HLB.out _) ?_
              rintro e w1 ⟨rfl, rfl⟩
              go_wp2_with fail
              go_quiet (fail)
              go_wp2_with fail
              go_ret
              exact ⟨ret_bool HF.out.symm, s3.below.trans (below_drewN (Below.refl _ _) _)⟩
        · have e : k = bs.length := by omega
          subst e
          have HT := kide (graphR_good (bs := bs.map Yg.ct) hs1 (by simpa using hs2) HK.out (fun j s hj => by
            rw [List.getElem?_map] at hj
            cases hb : bs[j]? with
            | none => rw [hb] at hj; cases hj
            | some t =>
              rw [hb] at hj
              cases hj
              exact hok j t (List.getElem?_eq_some_iff.1 hb).1 hb))
          clear hok s1
          go_wp2_with fail
          go_ret
          exact ⟨ret_bool (HT.out.symm.trans HZ.out), s2.below⟩

end Go.Proofs.Ythoiajpbpoglfaa
