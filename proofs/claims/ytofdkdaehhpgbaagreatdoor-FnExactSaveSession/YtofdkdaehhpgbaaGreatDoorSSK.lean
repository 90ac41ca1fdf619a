/- What the program's SessionOk answers. -/
import Derived.Test.YtofdkdaehhpgbaaGreatDoorSSI
import Derived.Test.YtofdkdaehhpgbaaGreatDoorZSA
import Derived.Test.YtofdkdaehhpgbaaGreatDoorZRX
namespace Go.Proofs.YtofdkdaehhpgbaaGreatDoor
set_option linter.unusedVariables false
set_option linter.unusedSimpArgs false
open Go.RowKit

theorem flat_mem {xs : List Sg} {w : World} {a : Option Addr} (h : RdS w a xs) : ∀ x ∈ xs.flatMap Sg.ls, RdT w x.sa x.ss ∧ RdT w x.ta x.ts ∧ in64 x.id := by
  intro x hx
  obtain ⟨s, hs, hxs⟩ := List.mem_flatMap.1 hx
  obtain ⟨i, hi⟩ := List.getElem?_of_mem hs
  obtain ⟨b, o, -, -, hr, -⟩ := h.at hi
  obtain ⟨j, hj⟩ := List.getElem?_of_mem hxs
  obtain ⟨-, hn | ⟨b2, o2, -, hc⟩⟩ := hr
  · rw [hn] at hj; simp at hj
  · exact (hc j x hj).2

theorem RdL.mem {w : World} {a : Option Addr} {xs : List Lg} (h : RdL w a xs) {x : Lg} (hx : x ∈ xs) : RdT w x.sa x.ss ∧ RdT w x.ta x.ts ∧ in64 x.id := by
  obtain ⟨j, hj⟩ := List.getElem?_of_mem hx
  obtain ⟨-, hn | ⟨b2, o2, -, hc⟩⟩ := h
  · rw [hn] at hj; simp at hj
  · exact (hc j x hj).2

/-- The last number of all literals, as the program asks for it. -/
theorem last_at {xs : List Sg} {k : Nat} {l : Lg} (hk : (xs.flatMap Sg.ls).length = k + 1) (hl : (xs.flatMap Sg.ls)[k]? = some l) : lastI 0 (allL (xs.map Sg.ct)) = l.id := by
  rw [← allL_map]
  exact lastI_get (by rw [List.length_map]; exact hk) (l := l.ct) (by rw [List.getElem?_map, hl]; rfl)

theorem sid_step {ds : List Dc} {ss : List Sc} {k : Nat} (hk : k < ss.length) : ((List.range ss.length).drop k).all (sidI ds ss) = (sidI ds ss k && ((List.range ss.length).drop (k + 1)).all (sidI ds ss)) := by
  rw [List.drop_eq_getElem_cons (by simpa using hk), List.all_cons, List.getElem_range]

theorem sidI_any {ds : List Dc} {xs : List Sg} {k : Nat} {x : Sg} (h : xs[k]? = some x) : sidI ds (xs.map Sg.ct) k = !(x.ls.any fun l => !sideR (ds.take (behI ds.length (xs.map Sg.ct) k).toNat) l.ct) := by
  have e : scL (xs.map Sg.ct) k = x.ls.map Lg.ct := by
    unfold scL
    simp [List.getD, h, Sg.ct]
  unfold sidI
  rw [e, List.all_map, List.not_any_eq_all_not]
  congr 1
  funext l
  simp

set_option maxHeartbeats 2000000 in
set_option maxRecDepth 100000 in
theorem implSession_any (da sa : Option Addr) (dc n sc : Nat) (nx : Int) (ds : List Dc) (xs : List Sg) (w : World) (hd : RdD w da ds) (hs : RdS w sa xs) (hn : xs.length = n) (hT : (xs.flatMap Sg.ls).length ≤ 1048576) (hN : ∀ x ∈ xs, x.la ≠ none) (hG : GF w) (hnx : in64 nx) (hdc : ds.length ≤ dc) :
    Calls Tryz.prog 27 #[.agg #[.slice da ds.length dc, .slice sa n sc, .int .i64 nx]] w fun e w' => e = .returned (.bool (sesR ds (xs.map Sg.ct) nx)) ∧ Below w.heap.size w w' := by
  have hl := hs.1
  rw [hn] at hl
  have hdl := hd.1
  have B0 := kide (ses_box w (.cells #[Value.slice da ds.length dc, Value.slice sa n sc, Value.int .i64 nx] 30))
  have HD := kide (fun u (hu : Below w.heap.size w u) => hd.later hu)
  have HS := kide (fun u (hu : Below w.heap.size w u) => hs.later hu)
  have HG := kide (fun u (hu : Below w.heap.size w u) => hG.later hu)
  have HN := kide hn
  have HT := kide hT
  have HNN := kide hN
  have HML : Hid ((xs.map Sg.ct).length = n) := by show _ = _; rw [List.length_map]; exact hn
  have H1 := kide (fun u (hu : Below w.heap.size w u) => implDecls_any da dc ds u (hd.later hu))
  have H2 := kide (fun u (hu : Below w.heap.size w u) => scopesOk_any da sa ds.length dc n sc nx xs u (hs.later hu) hn hdl)
  have H3 := kide (fun u (hu : Below w.heap.size w u) => listedIn_any da sa ds.length dc n sc nx xs u (hs.later hu) hn hT hN)
  have H4 := kide (fun u (hu : Below w.heap.size w u) (k : Nat) (hk : k < n) => declsBehind_any da sa ds.length dc n sc nx xs k u (hs.later hu) hn hk hdl)
  have e0 : (w.alloc (.cells #[Value.slice da ds.length dc, Value.slice sa n sc, Value.int .i64 nx] 30)).cell? ⟨w.heap.size, 0, none⟩ = some (.slice da ds.length dc) := by simp [go_sem]
  have e1 : (w.alloc (.cells #[Value.slice da ds.length dc, Value.slice sa n sc, Value.int .i64 nx] 30)).cell? ⟨w.heap.size, 1, none⟩ = some (.slice sa n sc) := by simp [go_sem]
  have e2 : (w.alloc (.cells #[Value.slice da ds.length dc, Value.slice sa n sc, Value.int .i64 nx] 30)).cell? ⟨w.heap.size, 2, none⟩ = some (.int .i64 nx) := by simp [go_sem]
  have z0 : w.heap.size < (w.alloc (.cells #[Value.slice da ds.length dc, Value.slice sa n sc, Value.int .i64 nx] 30)).heap.size := by simp
  clear hd hs hn hT hN hG
  have hSES : sesR ds (xs.map Sg.ct) nx = (dclR ds && scpR ds.length (xs.map Sg.ct) && decide (1 ≤ nx ∧ nx ≤ 1000000) && idsR (allL (xs.map Sg.ct)) && decide (lastI 0 (allL (xs.map Sg.ct)) < nx) && sidesR ds (xs.map Sg.ct)) := rfl
  cases hd1 : dclR ds with
  | false =>
    rw [hd1] at H1
    rw [hSES, hd1]
    simp only [Bool.false_and]
    clear hSES hd1
    generalize ds.length = dn at *
    go_enter Tryz.func27, Tryz.ntmps27
    go_wp2_with fail
    refine Calls.mono (H1.out _ B0.out) ?_
    rintro e w1 ⟨rfl, hb1⟩
    go_wp2_with fail
    go_ret
    exact ⟨rfl, B0.out.trans (hb1.mono B0.out.size)⟩
  | true =>
    rw [hd1] at H1
    have HD1 := kide hd1
    cases hs1 : scpR ds.length (xs.map Sg.ct) with
    | false =>
      rw [hs1] at H2
      rw [hSES, hd1, hs1]
      simp only [Bool.false_and, Bool.true_and]
      clear hSES hd1 hs1
      generalize ds.length = dn at *
      go_enter Tryz.func27, Tryz.ntmps27
      go_wp2_with fail
      refine Calls.mono (H1.out _ B0.out) ?_
      rintro e w1 ⟨rfl, hb1⟩
      have B1 := kide (B0.out.trans (hb1.mono B0.out.size))
      have f0 := (kcell hb1 _ _ z0).trans e0
      have f1 := (kcell hb1 _ _ z0).trans e1
      have f2 := (kcell hb1 _ _ z0).trans e2
      clear hb1
      go_wp2_with fail
      refine Calls.mono (H2.out _ B1.out) ?_
      rintro e w2 ⟨rfl, hb2⟩
      go_wp2_with fail
      go_ret
      exact ⟨rfl, B1.out.trans (hb2.mono B1.out.size)⟩
    | true =>
      rw [hs1] at H2
      have HS1 := kide hs1
      by_cases hx : 1 ≤ nx ∧ nx ≤ 1000000
      · rw [hd1, hs1, decide_eq_true hx] at hSES
        simp only [Bool.true_and] at hSES
        generalize sesR ds (xs.map Sg.ct) nx = Z at *
        have HSES := kide hSES
        clear hSES hd1 hs1
        have hx1 : ¬ nx < 1 := by omega
        have hx2 : ¬ 1000000 < nx := by omega
        generalize hdn : ds.length = dn at *
        have HDN := kide hdn
        clear hdn
        go_enter Tryz.func27, Tryz.ntmps27
        go_wp2_with fail
        refine Calls.mono (H1.out _ B0.out) ?_
        rintro e w1 ⟨rfl, hb1⟩
        have B1 := kide (B0.out.trans (hb1.mono B0.out.size))
        have f0 := (kcell hb1 _ _ z0).trans e0
        have f1 := (kcell hb1 _ _ z0).trans e1
        have f2 := (kcell hb1 _ _ z0).trans e2
        have z1 := Nat.lt_of_lt_of_le z0 hb1.size
        clear hb1 e0 e1 e2 z0 H1
        go_wp2_with fail
        refine Calls.mono (H2.out _ B1.out) ?_
        rintro e w2 ⟨rfl, hb2⟩
        have B2 := kide (B1.out.trans (hb2.mono B1.out.size))
        have g0 := (kcell hb2 _ _ z1).trans f0
        have g1 := (kcell hb2 _ _ z1).trans f1
        have g2 := (kcell hb2 _ _ z1).trans f2
        have z2 := Nat.lt_of_lt_of_le z1 hb2.size
        clear hb2 f0 f1 f2 z1 H2 B1
        go_wp2_with fail
        refine Calls.mono (H3.out _ B2.out) ?_
        rintro e w3 ⟨v3, rfl, o3, hb3⟩
        have B3 := kide (B2.out.trans (hb3.mono B2.out.size))
        have h0 := (kcell hb3 _ _ z2).trans g0
        have h1 := (kcell hb3 _ _ z2).trans g1
        have h2 := (kcell hb3 _ _ z2).trans g2
        have z3 := Nat.lt_of_lt_of_le z2 hb3.size
        obtain ⟨al, cl, rfl, hrl⟩ := o3.rd HT.out (flat_mem (HS.out w3 B3.out))
        clear hb3 g0 g1 g2 z2 H3 o3 B2
        have HRL := kide hrl
        have HI := kide (fun u (hu : Below w3.heap.size w3 u) => idsOk_any al cl _ _ u (hrl.later hu) rfl)
        rw [allL_map] at HI
        have HLL : Hid (∃ m, (xs.flatMap Sg.ls).length = m) := ⟨_, rfl⟩
        obtain ⟨m, hm⟩ := HLL.out
        have HM := kide hm
        have hm2 : m ≤ 1048576 := by rw [← hm]; exact HT.out
        rw [hm] at HI
        rw [hm]
        clear hm HLL hrl
        go_wp2_with fail
        cases hI : idsR (allL (xs.map Sg.ct)) with
        | false =>
          rw [hI] at HI
          have HF : Hid (Z = false) := by show _ = _; rw [HSES.out, hI]; rfl
          clear hI
          refine wp_region_any (by kernel_rfl) ?_
          try (change wpAny _ _ _ _ _ _ _ (World.drew _))
          refine wpAny_take (i := 0) (v := (Value.slice al m cl)) rfl (by kernel_rfl) (by kernel_rfl) (by kernel_rfl) (fun _ _ _ h => h) (Or.inl ⟨by rfl, fun w => by go_simp⟩) ?_
          try go_simp
          refine wpAny_ready (rs := [1]) (by kernel_rfl) (by simp) (AllReady.cons rfl (fun K hK => ?_) AllReady.nil)
          go_simp
          go_wp2_with (go_at_call 52; refine Calls.mono (HI.out _ ?_) ?_; exact (Below.refl _ _).drew; rintro e w4 ⟨rfl, hb4⟩; replace hb4 := kundrew hb4; have B4 := kide (B3.out.trans (hb4.mono B3.out.size)); have i0 := (kcell hb4 _ _ z3).trans h0; have i1 := (kcell hb4 _ _ z3).trans h1; have i2 := (kcell hb4 _ _ z3).trans h2; have z4 := Nat.lt_of_lt_of_le z3 hb4.size; have R4 := kide (HRL.out.later hb4); clear hb4 h0 h1 h2 z3; try clear HI; refine hK _ _ ?_; clear hK K)
          refine wpAny_take (i := 2) (v := (Value.bool true)) rfl (by kernel_rfl) (by kernel_rfl) (by kernel_rfl) (fun _ _ _ h => h) (Or.inl ⟨by rfl, fun w => by go_simp⟩) ?_
          try go_simp
          refine wpAny_take (i := 3) (v := (Value.bool true)) rfl (by kernel_rfl) (by kernel_rfl) (by kernel_rfl) (fun _ _ _ h => h) (Or.inl ⟨by rfl, fun w => by go_simp⟩) ?_
          try go_simp
          refine wpAny_take (i := 4) (v := undef) rfl (by kernel_rfl) (by kernel_rfl) (by kernel_rfl) (fun _ _ _ h => h) (Or.inr ⟨by rfl, rfl⟩) ?_
          try go_simp
          refine wpAny_take (i := 5) (v := undef) rfl (by kernel_rfl) (by kernel_rfl) (by kernel_rfl) (fun _ _ _ h => h) (Or.inr ⟨by rfl, rfl⟩) ?_
          try go_simp
          refine wpAny_take (i := 6) (v := undef) rfl (by kernel_rfl) (by kernel_rfl) (by kernel_rfl) (fun _ _ _ h => h) (Or.inr ⟨by rfl, rfl⟩) ?_
          try go_simp
          refine wpAny_take (i := 7) (v := undef) rfl (by kernel_rfl) (by kernel_rfl) (by kernel_rfl) (fun _ _ _ h => h) (Or.inr ⟨by rfl, rfl⟩) ?_
          try go_simp
          refine wpAny_take (i := 8) (v := undef) rfl (by kernel_rfl) (by kernel_rfl) (by kernel_rfl) (fun _ _ _ h => h) (Or.inr ⟨by rfl, rfl⟩) ?_
          try go_simp
          refine wpAny_take (i := 9) (v := undef) rfl (by kernel_rfl) (by kernel_rfl) (by kernel_rfl) (fun _ _ _ h => h) (Or.inr ⟨by rfl, rfl⟩) ?_
          try go_simp
          refine wpAny_take (i := 10) (v := undef) rfl (by kernel_rfl) (by kernel_rfl) (by kernel_rfl) (fun _ _ _ h => h) (Or.inr ⟨by rfl, rfl⟩) ?_
          try go_simp
          refine wpAny_take (i := 11) (v := undef) rfl (by kernel_rfl) (by kernel_rfl) (by kernel_rfl) (fun _ _ _ h => h) (Or.inr ⟨by rfl, rfl⟩) ?_
          try go_simp
          refine wpAny_take (i := 12) (v := undef) rfl (by kernel_rfl) (by kernel_rfl) (by kernel_rfl) (fun _ _ _ h => h) (Or.inr ⟨by rfl, rfl⟩) ?_
          try go_simp
          refine wpAny_take (i := 13) (v := undef) rfl (by kernel_rfl) (by kernel_rfl) (by kernel_rfl) (fun _ _ _ h => h) (Or.inr ⟨by rfl, rfl⟩) ?_
          try go_simp
          refine wpAny_take (i := 14) (v := undef) rfl (by kernel_rfl) (by kernel_rfl) (by kernel_rfl) (fun _ _ _ h => h) (Or.inr ⟨by rfl, rfl⟩) ?_
          try go_simp
          refine wpAny_take (i := 15) (v := undef) rfl (by kernel_rfl) (by kernel_rfl) (by kernel_rfl) (fun _ _ _ h => h) (Or.inr ⟨by rfl, rfl⟩) ?_
          try go_simp
          refine wpAny_take (i := 16) (v := undef) rfl (by kernel_rfl) (by kernel_rfl) (by kernel_rfl) (fun _ _ _ h => h) (Or.inr ⟨by rfl, rfl⟩) ?_
          try go_simp
          refine wpAny_take (i := 17) (v := undef) rfl (by kernel_rfl) (by kernel_rfl) (by kernel_rfl) (fun _ _ _ h => h) (Or.inr ⟨by rfl, rfl⟩) ?_
          try go_simp
          refine wpAny_take (i := 18) (v := undef) rfl (by kernel_rfl) (by kernel_rfl) (by kernel_rfl) (fun _ _ _ h => h) (Or.inr ⟨by rfl, rfl⟩) ?_
          try go_simp
          refine wpAny_take (i := 19) (v := (Value.bool true)) rfl (by kernel_rfl) (by kernel_rfl) (by kernel_rfl) (fun _ _ _ h => h) (Or.inl ⟨by rfl, fun w => by go_simp⟩) ?_
          try go_simp
          refine wpAny_done (by kernel_rfl) ?_ _
          go_wp2_with fail
          go_ret
          exact ⟨ret_bool HF.out.symm, B4.out⟩
        | true =>
          rw [hI] at HI
          by_cases hm0 : m = 0
          · subst hm0
            have HLE : Hid (Z = sidesR ds (xs.map Sg.ct)) := by
              show _ = _
              have e : allL (xs.map Sg.ct) = [] := by rw [← allL_map]; exact List.map_eq_nil_iff.2 (List.eq_nil_of_length_eq_zero HM.out)
              rw [HSES.out, hI, e]
              show (true && decide ((0 : Int) < nx) && _) = _
              rw [decide_eq_true (by omega)]
              rfl
            clear hI HSES
            refine wp_region_any (by kernel_rfl) ?_
            try (change wpAny _ _ _ _ _ _ _ (World.drew _))
            refine wpAny_take (i := 0) (v := (Value.slice al 0 cl)) rfl (by kernel_rfl) (by kernel_rfl) (by kernel_rfl) (fun _ _ _ h => h) (Or.inl ⟨by rfl, fun w => by go_simp⟩) ?_
            try go_simp
            refine wpAny_ready (rs := [1]) (by kernel_rfl) (by simp) (AllReady.cons rfl (fun K hK => ?_) AllReady.nil)
            go_simp
            go_wp2_with (go_at_call 52; refine Calls.mono (HI.out _ ?_) ?_; exact (Below.refl _ _).drew; rintro e w4 ⟨rfl, hb4⟩; replace hb4 := kundrew hb4; have B4 := kide (B3.out.trans (hb4.mono B3.out.size)); have i0 := (kcell hb4 _ _ z3).trans h0; have i1 := (kcell hb4 _ _ z3).trans h1; have i2 := (kcell hb4 _ _ z3).trans h2; have z4 := Nat.lt_of_lt_of_le z3 hb4.size; have R4 := kide (HRL.out.later hb4); clear hb4 h0 h1 h2 z3; try clear HI; refine hK _ _ ?_; clear hK K)
            refine wpAny_take (i := 2) (v := (Value.bool false)) rfl (by kernel_rfl) (by kernel_rfl) (by kernel_rfl) (fun _ _ _ h => h) (Or.inl ⟨by rfl, fun w => by go_simp⟩) ?_
            try go_simp
            refine wpAny_take (i := 3) (v := (Value.bool false)) rfl (by kernel_rfl) (by kernel_rfl) (by kernel_rfl) (fun _ _ _ h => h) (Or.inl ⟨by rfl, fun w => by go_simp⟩) ?_
            try go_simp
            refine wpAny_take (i := 4) (v := (Value.slice al 0 cl)) rfl (by kernel_rfl) (by kernel_rfl) (by kernel_rfl) (fun _ _ _ h => h) (Or.inl ⟨by rfl, fun w => by go_simp⟩) ?_
            try go_simp
            refine wpAny_take (i := 5) (v := (Value.int .i64 0)) rfl (by kernel_rfl) (by kernel_rfl) (by kernel_rfl) (fun _ _ _ h => h) (Or.inl ⟨by rfl, fun w => by go_simp⟩) ?_
            try go_simp
            refine wpAny_take (i := 6) (v := (Value.bool false)) rfl (by kernel_rfl) (by kernel_rfl) (by kernel_rfl) (fun _ _ _ h => h) (Or.inl ⟨by rfl, fun w => by go_simp⟩) ?_
            try go_simp
            refine wpAny_take (i := 7) (v := (Value.bool false)) rfl (by kernel_rfl) (by kernel_rfl) (by kernel_rfl) (fun _ _ _ h => h) (Or.inl ⟨by rfl, fun w => by go_simp⟩) ?_
            try go_simp
            refine wpAny_take (i := 8) (v := undef) rfl (by kernel_rfl) (by kernel_rfl) (by kernel_rfl) (fun _ _ _ h => h) (Or.inr ⟨by rfl, rfl⟩) ?_
            try go_simp
            refine wpAny_take (i := 9) (v := undef) rfl (by kernel_rfl) (by kernel_rfl) (by kernel_rfl) (fun _ _ _ h => h) (Or.inr ⟨by rfl, rfl⟩) ?_
            try go_simp
            refine wpAny_take (i := 10) (v := undef) rfl (by kernel_rfl) (by kernel_rfl) (by kernel_rfl) (fun _ _ _ h => h) (Or.inr ⟨by rfl, rfl⟩) ?_
            try go_simp
            refine wpAny_take (i := 11) (v := undef) rfl (by kernel_rfl) (by kernel_rfl) (by kernel_rfl) (fun _ _ _ h => h) (Or.inr ⟨by rfl, rfl⟩) ?_
            try go_simp
            refine wpAny_take (i := 12) (v := undef) rfl (by kernel_rfl) (by kernel_rfl) (by kernel_rfl) (fun _ _ _ h => h) (Or.inr ⟨by rfl, rfl⟩) ?_
            try go_simp
            refine wpAny_take (i := 13) (v := undef) rfl (by kernel_rfl) (by kernel_rfl) (by kernel_rfl) (fun _ _ _ h => h) (Or.inr ⟨by rfl, rfl⟩) ?_
            try go_simp
            refine wpAny_take (i := 14) (v := undef) rfl (by kernel_rfl) (by kernel_rfl) (by kernel_rfl) (fun _ _ _ h => h) (Or.inr ⟨by rfl, rfl⟩) ?_
            try go_simp
            refine wpAny_take (i := 15) (v := undef) rfl (by kernel_rfl) (by kernel_rfl) (by kernel_rfl) (fun _ _ _ h => h) (Or.inr ⟨by rfl, rfl⟩) ?_
            try go_simp
            refine wpAny_take (i := 16) (v := undef) rfl (by kernel_rfl) (by kernel_rfl) (by kernel_rfl) (fun _ _ _ h => h) (Or.inr ⟨by rfl, rfl⟩) ?_
            try go_simp
            refine wpAny_take (i := 17) (v := undef) rfl (by kernel_rfl) (by kernel_rfl) (by kernel_rfl) (fun _ _ _ h => h) (Or.inr ⟨by rfl, rfl⟩) ?_
            try go_simp
            refine wpAny_take (i := 18) (v := (Value.bool false)) rfl (by kernel_rfl) (by kernel_rfl) (by kernel_rfl) (fun _ _ _ h => h) (Or.inl ⟨by rfl, fun w => by go_simp⟩) ?_
            try go_simp
            refine wpAny_take (i := 19) (v := (Value.bool false)) rfl (by kernel_rfl) (by kernel_rfl) (by kernel_rfl) (fun _ _ _ h => h) (Or.inl ⟨by rfl, fun w => by go_simp⟩) ?_
            try go_simp
            refine wpAny_done (by kernel_rfl) ?_ _
            go_wp2_with fail
            go_loopw [52] (fun q wr => ∃ k' : Nat, k' ≤ n ∧ q = .int .i64 (k' : Int) ∧ ((List.range (xs.map Sg.ct).length).drop k').all (sidI ds (xs.map Sg.ct)) = Z ∧ Below w4.heap.size w4 wr) (fun q _ => n - (intOf q).toNat)
            case atStart => exact ⟨0, Nat.zero_le _, rfl, by rw [List.drop_zero]; exact HLE.out.symm, Below.refl _ _⟩
            case round =>
              obtain ⟨k', hk', rfl, hq, hb⟩ := hrel
              have HB := kide hb
              have HBW := kide (B4.out.trans (hb.mono B4.out.size))
              have l0 := (kcell hb _ _ z4).trans i0
              have l1 := (kcell hb _ _ z4).trans i1
              have l2 := (kcell hb _ _ z4).trans i2
              have zr : w.heap.size < wr.heap.size := Nat.lt_of_lt_of_le z4 hb.size
              clear i0 i1 i2 z4
              try clear y0
              by_cases hlt : k' < n
              · have ik : (k' : Int) < (n : Int) := by omega
                obtain ⟨x, gx⟩ : ∃ x, xs[k']? = some x := ⟨xs[k']'(by rw [HN.out]; exact hlt), List.getElem?_eq_getElem _⟩
                obtain ⟨b6, o6, rfl, ⟨p0, p1⟩, r1, r2⟩ := (HS.out wr HBW.out).at gx
                rw [sid_step (by rw [HML.out]; exact hlt), sidI_any gx] at hq
                have hbd := beh_bounds HS1.out (by omega) (i := k') (by rw [HML.out]; exact hlt)
                have HC := kide (fun u hu => H4.out u hu k' hlt)
                rw [HDN.out] at hq
                generalize behI dn (xs.map Sg.ct) k' = bk at *
                obtain ⟨bn, rfl⟩ : ∃ bn : Nat, bk = (bn : Int) := ⟨bk.toNat, by omega⟩
                rw [Int.toNat_natCast] at hq
                have hbn : bn ≤ dn := by omega
                have hbc : (bn : Int) ≤ (dc : Int) := by omega
                have HTK : Hid ((ds.take bn).length = bn) := by show _ = _; rw [List.length_take, HDN.out]; omega
                have hbx := ses_box wr (.cells #[Value.int .i64 x.d, Value.slice x.la x.ls.length x.lc] 63)
                have HBX := kide (HBW.out.trans (hbx.mono HBW.out.size))
                have HBY := kide (HB.out.trans (hbx.mono HB.out.size))
                have RL := kide r1
                have HQ := kide hq
                clear gx r1 r2 hb hq hbd
                obtain ⟨d, ls, la, lc⟩ := x
                simp only [] at p0 p1 hbx HBX HBY RL HQ
                obtain ⟨ln, hln⟩ : ∃ ln, ls.length = ln := ⟨_, rfl⟩
                have HLN := kide hln
                rw [hln] at p1 hbx HBX HBY
                clear hln
                go_wp2_with fail
                have q0 : (wr.alloc (.cells #[Value.int .i64 d, Value.slice la ln lc] 63)).cell? ⟨wr.heap.size, 1, none⟩ = some (.slice la ln lc) := by simp [go_sem]
                have zg : wr.heap.size < (wr.alloc (.cells #[Value.int .i64 d, Value.slice la ln lc] 63)).heap.size := by simp
                have ce0 := (kcell hbx _ 0 zr).trans l0
                have ce1 := (kcell hbx _ 1 zr).trans l1
                have ce2 := (kcell hbx _ 2 zr).trans l2
                have RL2 := kide (RL.out.later hbx)
                clear l0 l1 l2 p0 p1 RL hbx
                generalize wr.alloc (.cells #[Value.int .i64 d, Value.slice la ln lc] 63) = W2 at *
                have zw : w.heap.size < W2.heap.size := Nat.lt_trans zr zg
                generalize wr.heap.size = Br at *
                refine wp_region_x (SA := fun _ => False) (SB := fun uu => Below W2.heap.size W2 uu) (k := 999) (by kernel_rfl) ?_
                have hm0 : Hid (Below W2.heap.size W2 W2.drew) := (Below.refl _ _).drew
                generalize W2.drew = m0 at *
                try go_simp
                refine wpAnyX_both (T := fun uu => Below W2.heap.size W2 uu) (i := 0) (v := Value.pointer (some ⟨w.heap.size, 0, none⟩)) rfl (by kernel_rfl) (by kernel_rfl) (by kernel_rfl) (fun _ _ _ h => by first | exact h | exact h.elim) (by decide) (fun _ h => h.elim) (fun _ h => h) (Sx.behind (by kernel_rfl) hm0.out) (Or.inl ⟨by rfl, fun uu hu => by go_simp⟩) ?_
                try go_simp
                refine wpAnyX_both (T := fun uu => Below W2.heap.size W2 uu) (i := 1) (v := Value.slice da dn dc) rfl (by kernel_rfl) (by kernel_rfl) (by kernel_rfl) (fun _ _ _ h => by first | exact h | exact h.elim) (by decide) (fun _ h => h.elim) (fun _ h => h) (Sx.behind (by kernel_rfl) hm0.out) (Or.inl ⟨by rfl, fun uu hu => by have e0 := (kcell hu w.heap.size 0 zw).trans ce0; go_simp⟩) ?_
                try go_simp
                refine wpAnyX_both (T := fun uu => Below W2.heap.size W2 uu) (i := 2) (v := Value.agg #[Value.slice da dn dc, Value.slice (some ⟨b6, o6, none⟩) n sc, Value.int .i64 nx]) rfl (by kernel_rfl) (by kernel_rfl) (by kernel_rfl) (fun _ _ _ h => by first | exact h | exact h.elim) (by decide) (fun _ h => h.elim) (fun _ h => h) (Sx.behind (by kernel_rfl) hm0.out) (Or.inl ⟨by rfl, fun uu hu => by have e0 := (kcell hu w.heap.size 0 zw).trans ce0; have e1 := (kcell hu w.heap.size 1 zw).trans ce1; have e2 := (kcell hu w.heap.size 2 zw).trans ce2; go_simp⟩) ?_
                try go_simp
                refine wpAnyX_both (T := fun uu => Below W2.heap.size W2 uu) (i := 3) (v := Value.int .i64 (k' : Int)) rfl (by kernel_rfl) (by kernel_rfl) (by kernel_rfl) (fun _ _ _ h => by first | exact h | exact h.elim) (by decide) (fun _ h => h.elim) (fun _ h => h) (Sx.behind (by kernel_rfl) hm0.out) (Or.inl ⟨by rfl, fun uu hu => by go_simp⟩) ?_
                try go_simp
                refine wpAnyX_ready (rs := [4, 6]) (by kernel_rfl) (by simp) (AllX.cons rfl (fun K hK => ?_) (AllX.cons rfl (fun K hK => ?_) AllX.nil))
                · go_simp
                  refine Calls.mono (HC.out _ (HBX.out.trans (hm0.out.mono HBX.out.size))) ?_
                  rintro e m1 ⟨rfl, hb⟩
                  have hm1 : Hid (Below W2.heap.size W2 m1) := hm0.out.trans (hb.mono hm0.out.size)
                  refine hK _ _ (Sx.behind (by kernel_rfl) hm1.out) ?_
                  clear hK K hb
                  try go_simp
                  refine wpAnyX_both (T := fun uu => Below W2.heap.size W2 uu) (i := 5) (v := Value.slice da bn dc) rfl (by kernel_rfl) (by kernel_rfl) (by kernel_rfl) (fun _ _ _ h => by first | exact h | exact h.elim) (by decide) (fun _ h => h.elim) (fun _ h => h) (Sx.behind (by kernel_rfl) hm1.out) (Or.inl ⟨by rfl, fun uu hu => by go_simp⟩) ?_
                  try go_simp
                  refine wpAnyX_ready (rs := [6]) (by kernel_rfl) (by simp) (AllX.cons rfl (fun K hK => ?_) AllX.nil)
                  go_simp
                  refine hK _ _ (Sx.behind (by kernel_rfl) (hm1.out.alloc hm1.out.size _)) ?_
                  clear hK K
                  have hm2 : Hid (Below W2.heap.size W2 (m1.alloc (Obj.cells #[Value.slice none 0 0] 27))) := hm1.out.alloc hm1.out.size _
                  have bBD_2 : Hid (Bz (m1.alloc (Obj.cells #[Value.slice none 0 0] 27)) m1.heap.size #[Value.slice none 0 0] 27) := Bz.new _ _ _
                  have w2 : Below m1.heap.size m1 (m1.alloc (Obj.cells #[Value.slice none 0 0] 27)) := (Below.refl _ _).alloc (Nat.le_refl _) _
                  have lBD : W2.heap.size ≤ m1.heap.size := hm1.out.size
                  clear w2
                  generalize hqBD : m1.heap.size = BD at *
                  generalize m1.alloc (Obj.cells #[Value.slice none 0 0] 27) = m2 at *
                  clear hqBD
                  try go_simp
                  refine wpAnyX_ready (rs := [7]) (by kernel_rfl) (by simp) (AllX.cons rfl (fun K hK => ?_) AllX.nil)
                  have e0 := bBD_2.out.cell 0
                  have f0 := bBD_2.out.froz 0
                  simp at e0
                  go_simp
                  have bBD_3 : Hid (Bz (m2.setCell ⟨BD, 0, none⟩ (Value.slice da bn dc)) BD #[Value.slice da bn dc] 27) := (bBD_2.out.set 0 _)
                  have hm3 : Hid (Below W2.heap.size W2 (m2.setCell ⟨BD, 0, none⟩ (Value.slice da bn dc))) := (hm2.out.setCell (show _ ≤ BD from lBD) _)
                  refine hK _ _ (Sx.behind (by kernel_rfl) hm3.out) ?_
                  clear hK K e0 f0
                  generalize (m2.setCell ⟨BD, 0, none⟩ (Value.slice da bn dc)) = m3 at *
                  try go_simp
                  refine wpAnyX_done (by kernel_rfl) ?_ _
                  have c5 := (kcell hm3.out Br 1 zg).trans q0
                  have BM := kide (HBX.out.trans (hm3.out.mono HBX.out.size))
                  have BMY := kide (HBY.out.trans (hm3.out.mono HBY.out.size))
                  have HCF : Hid (∀ u, Below m3.heap.size m3 u → ∀ x ∈ ls, Calls Tryz.prog 54 #[x.val, .pointer (some ⟨BD, 0, none⟩)] u fun e w' => e = .returned (.bool (!sideR (ds.take bn) x.ct)) ∧ Below u.heap.size u w') := fun u hu x hx => by
                    have h1 := BM.out.trans (hu.mono BM.out.size)
                    have h2 := (hm3.out.trans (hu.mono hm3.out.size))
                    obtain ⟨t1, t2, -⟩ := RdL.mem (RL2.out.later h2) hx
                    exact sesF_any da bn dc BD (ds.take bn) x u (by have := (bBD_3.out.later hu).cell 0; simpa using this) ((HD.out u h1).take bn) HTK.out t1 t2 (HG.out u h1) (dclR_take HD1.out bn)
                  have HCON := kide (ContainsL_any 54 (fun args w => rfl) (.pointer (some ⟨BD, 0, none⟩)) (fun l => !sideR (ds.take bn) l.ct) la lc ln ls m3 (RL2.out.later hm3.out) HLN.out HCF)
                  generalize (ls.any fun l => !sideR (ds.take bn) l.ct) = V at *
                  clear HCF
                  cases V with
                  | true =>
                    have HF : Hid (Z = false) := by show _ = _; rw [← HQ.out]; rfl
                    go_wp2_with fail
                    refine Calls.mono HCON.out ?_
                    rintro e w9 ⟨rfl, hb9⟩
                    have B9 := kide (BM.out.trans (hb9.mono BM.out.size))
                    clear hb9 HCON
                    go_wp2_with fail
                    go_ret
                    exact ⟨ret_bool HF.out.symm, B9.out⟩
                  | false =>
                    have HQ2 : Hid (((List.range (xs.map Sg.ct).length).drop (k' + 1)).all (sidI ds (xs.map Sg.ct)) = Z) := by have := HQ.out; rw [Bool.not_false, Bool.true_and] at this; exact this
                    go_wp2_with fail
                    refine Calls.mono HCON.out ?_
                    rintro e w9 ⟨rfl, hb9⟩
                    have B9 := kide (BMY.out.trans (hb9.mono BMY.out.size))
                    clear hb9 HCON
                    go_wp2_with fail
                    go_roundw
                    case rel => exact ⟨k' + 1, by omega, by go_num, HQ2.out, B9.out⟩
                    case measure => simp [intOf]; omega
                · go_simp
                  refine hK _ _ (Sx.behind (by kernel_rfl) (hm0.out.alloc hm0.out.size _)) ?_
                  clear hK K
                  have hm1 : Hid (Below W2.heap.size W2 (m0.alloc (Obj.cells #[Value.slice none 0 0] 27))) := hm0.out.alloc hm0.out.size _
                  have bBD_1 : Hid (Bz (m0.alloc (Obj.cells #[Value.slice none 0 0] 27)) m0.heap.size #[Value.slice none 0 0] 27) := Bz.new _ _ _
                  have w1 : Below m0.heap.size m0 (m0.alloc (Obj.cells #[Value.slice none 0 0] 27)) := (Below.refl _ _).alloc (Nat.le_refl _) _
                  have lBD : W2.heap.size ≤ m0.heap.size := hm0.out.size
                  clear w1
                  generalize hqBD : m0.heap.size = BD at *
                  generalize m0.alloc (Obj.cells #[Value.slice none 0 0] 27) = m1 at *
                  clear hqBD
                  try go_simp
                  refine wpAnyX_ready (rs := [4]) (by kernel_rfl) (by simp) (AllX.cons rfl (fun K hK => ?_) AllX.nil)
                  go_simp
                  refine Calls.mono (HC.out _ (HBX.out.trans (hm1.out.mono HBX.out.size))) ?_
                  rintro e m2 ⟨rfl, hb⟩
                  have hm2 : Hid (Below W2.heap.size W2 m2) := hm1.out.trans (hb.mono hm1.out.size)
                  have bBD_2 : Hid (Bz m2 BD #[Value.slice none 0 0] 27) := Bz.later bBD_1.out hb
                  refine hK _ _ (Sx.behind (by kernel_rfl) hm2.out) ?_
                  clear hK K hb
                  try go_simp
                  refine wpAnyX_both (T := fun uu => Below W2.heap.size W2 uu) (i := 5) (v := Value.slice da bn dc) rfl (by kernel_rfl) (by kernel_rfl) (by kernel_rfl) (fun _ _ _ h => by first | exact h | exact h.elim) (by decide) (fun _ h => h.elim) (fun _ h => h) (Sx.behind (by kernel_rfl) hm2.out) (Or.inl ⟨by rfl, fun uu hu => by go_simp⟩) ?_
                  try go_simp
                  refine wpAnyX_ready (rs := [7]) (by kernel_rfl) (by simp) (AllX.cons rfl (fun K hK => ?_) AllX.nil)
                  have e0 := bBD_2.out.cell 0
                  have f0 := bBD_2.out.froz 0
                  simp at e0
                  go_simp
                  have bBD_3 : Hid (Bz (m2.setCell ⟨BD, 0, none⟩ (Value.slice da bn dc)) BD #[Value.slice da bn dc] 27) := (bBD_2.out.set 0 _)
                  have hm3 : Hid (Below W2.heap.size W2 (m2.setCell ⟨BD, 0, none⟩ (Value.slice da bn dc))) := (hm2.out.setCell (show _ ≤ BD from lBD) _)
                  refine hK _ _ (Sx.behind (by kernel_rfl) hm3.out) ?_
                  clear hK K e0 f0
                  generalize (m2.setCell ⟨BD, 0, none⟩ (Value.slice da bn dc)) = m3 at *
                  try go_simp
                  refine wpAnyX_done (by kernel_rfl) ?_ _
                  have c5 := (kcell hm3.out Br 1 zg).trans q0
                  have BM := kide (HBX.out.trans (hm3.out.mono HBX.out.size))
                  have BMY := kide (HBY.out.trans (hm3.out.mono HBY.out.size))
                  have HCF : Hid (∀ u, Below m3.heap.size m3 u → ∀ x ∈ ls, Calls Tryz.prog 54 #[x.val, .pointer (some ⟨BD, 0, none⟩)] u fun e w' => e = .returned (.bool (!sideR (ds.take bn) x.ct)) ∧ Below u.heap.size u w') := fun u hu x hx => by
                    have h1 := BM.out.trans (hu.mono BM.out.size)
                    have h2 := (hm3.out.trans (hu.mono hm3.out.size))
                    obtain ⟨t1, t2, -⟩ := RdL.mem (RL2.out.later h2) hx
                    exact sesF_any da bn dc BD (ds.take bn) x u (by have := (bBD_3.out.later hu).cell 0; simpa using this) ((HD.out u h1).take bn) HTK.out t1 t2 (HG.out u h1) (dclR_take HD1.out bn)
                  have HCON := kide (ContainsL_any 54 (fun args w => rfl) (.pointer (some ⟨BD, 0, none⟩)) (fun l => !sideR (ds.take bn) l.ct) la lc ln ls m3 (RL2.out.later hm3.out) HLN.out HCF)
                  generalize (ls.any fun l => !sideR (ds.take bn) l.ct) = V at *
                  clear HCF
                  cases V with
                  | true =>
                    have HF : Hid (Z = false) := by show _ = _; rw [← HQ.out]; rfl
                    go_wp2_with fail
                    refine Calls.mono HCON.out ?_
                    rintro e w9 ⟨rfl, hb9⟩
                    have B9 := kide (BM.out.trans (hb9.mono BM.out.size))
                    clear hb9 HCON
                    go_wp2_with fail
                    go_ret
                    exact ⟨ret_bool HF.out.symm, B9.out⟩
                  | false =>
                    have HQ2 : Hid (((List.range (xs.map Sg.ct).length).drop (k' + 1)).all (sidI ds (xs.map Sg.ct)) = Z) := by have := HQ.out; rw [Bool.not_false, Bool.true_and] at this; exact this
                    go_wp2_with fail
                    refine Calls.mono HCON.out ?_
                    rintro e w9 ⟨rfl, hb9⟩
                    have B9 := kide (BMY.out.trans (hb9.mono BMY.out.size))
                    clear hb9 HCON
                    go_wp2_with fail
                    go_roundw
                    case rel => exact ⟨k' + 1, by omega, by go_num, HQ2.out, B9.out⟩
                    case measure => simp [intOf]; omega
              · rw [List.drop_of_length_le (by rw [List.length_range, HML.out]; omega)] at hq
                have HQ := kide hq
                clear hq hb
                go_wp2_with fail
                go_ret
                exact ⟨ret_bool HQ.out, HBW.out⟩
          · obtain ⟨k, hk⟩ : ∃ k, m = k + 1 := ⟨m - 1, by omega⟩
            obtain ⟨lg, hlg⟩ : ∃ lg, (xs.flatMap Sg.ls)[k]? = some lg := ⟨_, List.getElem?_eq_getElem (by rw [HM.out]; omega)⟩
            have hLA := last_at (by rw [HM.out]; exact hk) hlg
            have j1 : (m : Int) - 1 = (k : Int) := by omega
            have j2 : IntKind.i64.wrap (k : Int) = (k : Int) := by rw [IntKind.wrap_i64]; omega
            have j3 : (k : Int) < (m : Int) := by omega
            have j4 : (0 : Int) < (m : Int) := by omega
            have j5 : 0 < m := by omega
            obtain ⟨b5, o5, rfl, HAT⟩ : ∃ b5 o5, al = some ⟨b5, o5, none⟩ ∧ Hid (∀ u, Below w3.heap.size w3 u → u.cell? ⟨b5, o5 + k * 4, none⟩ = some (.int .i64 lg.id)) := by
              obtain ⟨-, h | ⟨b5, o5, rfl, hc⟩⟩ := HRL.out
              · rw [h] at hlg; simp at hlg
              · exact ⟨b5, o5, rfl, fun u hu => (((hc k lg hlg).later hu).1).1⟩
            generalize lg.id = li at *
            clear hm0 hk hlg
            by_cases hge : nx ≤ li
            · have HF : Hid (Z = false) := by
                show _ = _
                rw [HSES.out, hI, hLA, decide_eq_false (by omega)]
                rfl
              clear hI HSES hLA
              refine wp_region_any (by kernel_rfl) ?_
              try (change wpAny _ _ _ _ _ _ _ (World.drew _))
              refine wpAny_take (i := 0) (v := (Value.slice (some ⟨b5, o5, none⟩) m cl)) rfl (by kernel_rfl) (by kernel_rfl) (by kernel_rfl) (fun _ _ _ h => h) (Or.inl ⟨by rfl, fun w => by go_simp⟩) ?_
              try go_simp
              refine wpAny_ready (rs := [1]) (by kernel_rfl) (by simp) (AllReady.cons rfl (fun K hK => ?_) AllReady.nil)
              go_simp
              go_wp2_with (go_at_call 52; refine Calls.mono (HI.out _ ?_) ?_; exact (Below.refl _ _).drew; rintro e w4 ⟨rfl, hb4⟩; replace hb4 := kundrew hb4; have B4 := kide (B3.out.trans (hb4.mono B3.out.size)); have i0 := (kcell hb4 _ _ z3).trans h0; have i1 := (kcell hb4 _ _ z3).trans h1; have i2 := (kcell hb4 _ _ z3).trans h2; have z4 := Nat.lt_of_lt_of_le z3 hb4.size; have R4 := kide (HRL.out.later hb4); have y0 := HAT.out _ hb4; clear hb4 h0 h1 h2 z3; try clear HI; refine hK _ _ ?_; clear hK K)
              refine wpAny_take (i := 2) (v := (Value.bool false)) rfl (by kernel_rfl) (by kernel_rfl) (by kernel_rfl) (fun _ _ _ h => h) (Or.inl ⟨by rfl, fun w => by go_simp⟩) ?_
              try go_simp
              refine wpAny_take (i := 3) (v := (Value.bool false)) rfl (by kernel_rfl) (by kernel_rfl) (by kernel_rfl) (fun _ _ _ h => h) (Or.inl ⟨by rfl, fun w => by go_simp⟩) ?_
              try go_simp
              refine wpAny_take (i := 4) (v := (Value.slice (some ⟨b5, o5, none⟩) m cl)) rfl (by kernel_rfl) (by kernel_rfl) (by kernel_rfl) (fun _ _ _ h => h) (Or.inl ⟨by rfl, fun w => by go_simp⟩) ?_
              try go_simp
              refine wpAny_take (i := 5) (v := (Value.int .i64 (m : Int))) rfl (by kernel_rfl) (by kernel_rfl) (by kernel_rfl) (fun _ _ _ h => h) (Or.inl ⟨by rfl, fun w => by go_simp⟩) ?_
              try go_simp
              refine wpAny_take (i := 6) (v := (Value.bool true)) rfl (by kernel_rfl) (by kernel_rfl) (by kernel_rfl) (fun _ _ _ h => h) (Or.inl ⟨by rfl, fun w => by go_simp⟩) ?_
              try go_simp
              refine wpAny_take (i := 7) (v := (Value.bool true)) rfl (by kernel_rfl) (by kernel_rfl) (by kernel_rfl) (fun _ _ _ h => h) (Or.inl ⟨by rfl, fun w => by go_simp⟩) ?_
              try go_simp
              refine wpAny_take (i := 8) (v := (Value.slice (some ⟨b5, o5, none⟩) m cl)) rfl (by kernel_rfl) (by kernel_rfl) (by kernel_rfl) (fun _ _ _ h => h) (Or.inl ⟨by rfl, fun w => by go_simp⟩) ?_
              try go_simp
              refine wpAny_take (i := 9) (v := (Value.slice (some ⟨b5, o5, none⟩) m cl)) rfl (by kernel_rfl) (by kernel_rfl) (by kernel_rfl) (fun _ _ _ h => h) (Or.inl ⟨by rfl, fun w => by go_simp⟩) ?_
              try go_simp
              refine wpAny_take (i := 10) (v := (Value.int .i64 (m : Int))) rfl (by kernel_rfl) (by kernel_rfl) (by kernel_rfl) (fun _ _ _ h => h) (Or.inl ⟨by rfl, fun w => by go_simp⟩) ?_
              try go_simp
              refine wpAny_take (i := 11) (v := (Value.int .i64 (k : Int))) rfl (by kernel_rfl) (by kernel_rfl) (by kernel_rfl) (fun _ _ _ h => h) (Or.inl ⟨by rfl, fun w => by go_simp⟩) ?_
              try go_simp
              refine wpAny_take (i := 12) (v := (Value.pointer (some ⟨b5, o5 + k * 4, none⟩))) rfl (by kernel_rfl) (by kernel_rfl) (by kernel_rfl) (fun _ _ _ h => h) (Or.inl ⟨by rfl, fun w => by go_simp⟩) ?_
              try go_simp
              refine wpAny_take (i := 13) (v := (Value.pointer (some ⟨b5, o5 + k * 4, none⟩))) rfl (by kernel_rfl) (by kernel_rfl) (by kernel_rfl) (fun _ _ _ h => h) (Or.inl ⟨by rfl, fun w => by go_simp⟩) ?_
              try go_simp
              refine wpAny_take (i := 15) (v := (Value.pointer (some ⟨w.heap.size, 2, none⟩))) rfl (by kernel_rfl) (by kernel_rfl) (by kernel_rfl) (fun _ _ _ h => h) (Or.inl ⟨by rfl, fun w => by go_simp⟩) ?_
              try go_simp
              refine wpAny_ready (rs := [14, 16]) (by kernel_rfl) (by simp) (AllReady.cons rfl (fun K hK => ?_) (AllReady.cons rfl (fun K hK => ?_) AllReady.nil))
              · go_simp
                refine hK _ _ ?_
                clear hK K
                refine wpAny_ready (rs := [16]) (by kernel_rfl) (by simp) (AllReady.cons rfl (fun K hK => ?_) AllReady.nil)
                go_simp
                refine hK _ _ ?_
                clear hK K
                refine wpAny_take (i := 17) (v := (Value.bool true)) rfl (by kernel_rfl) (by kernel_rfl) (by kernel_rfl) (fun _ _ _ h => h) (Or.inl ⟨by rfl, fun w => by go_simp⟩) ?_
                try go_simp
                refine wpAny_take (i := 18) (v := (Value.bool true)) rfl (by kernel_rfl) (by kernel_rfl) (by kernel_rfl) (fun _ _ _ h => h) (Or.inl ⟨by rfl, fun w => by go_simp⟩) ?_
                try go_simp
                refine wpAny_take (i := 19) (v := (Value.bool true)) rfl (by kernel_rfl) (by kernel_rfl) (by kernel_rfl) (fun _ _ _ h => h) (Or.inl ⟨by rfl, fun w => by go_simp⟩) ?_
                try go_simp
                refine wpAny_done (by kernel_rfl) ?_ _
                go_wp2_with fail
                go_ret
                exact ⟨ret_bool HF.out.symm, B4.out⟩
              · go_simp
                refine hK _ _ ?_
                clear hK K
                refine wpAny_ready (rs := [14]) (by kernel_rfl) (by simp) (AllReady.cons rfl (fun K hK => ?_) AllReady.nil)
                go_simp
                refine hK _ _ ?_
                clear hK K
                refine wpAny_take (i := 17) (v := (Value.bool true)) rfl (by kernel_rfl) (by kernel_rfl) (by kernel_rfl) (fun _ _ _ h => h) (Or.inl ⟨by rfl, fun w => by go_simp⟩) ?_
                try go_simp
                refine wpAny_take (i := 18) (v := (Value.bool true)) rfl (by kernel_rfl) (by kernel_rfl) (by kernel_rfl) (fun _ _ _ h => h) (Or.inl ⟨by rfl, fun w => by go_simp⟩) ?_
                try go_simp
                refine wpAny_take (i := 19) (v := (Value.bool true)) rfl (by kernel_rfl) (by kernel_rfl) (by kernel_rfl) (fun _ _ _ h => h) (Or.inl ⟨by rfl, fun w => by go_simp⟩) ?_
                try go_simp
                refine wpAny_done (by kernel_rfl) ?_ _
                go_wp2_with fail
                go_ret
                exact ⟨ret_bool HF.out.symm, B4.out⟩
            · have HLE : Hid (Z = sidesR ds (xs.map Sg.ct)) := by
                show _ = _
                rw [HSES.out, hI, hLA, decide_eq_true (by omega)]
                rfl
              clear hI HSES hLA
              refine wp_region_any (by kernel_rfl) ?_
              try (change wpAny _ _ _ _ _ _ _ (World.drew _))
              refine wpAny_take (i := 0) (v := (Value.slice (some ⟨b5, o5, none⟩) m cl)) rfl (by kernel_rfl) (by kernel_rfl) (by kernel_rfl) (fun _ _ _ h => h) (Or.inl ⟨by rfl, fun w => by go_simp⟩) ?_
              try go_simp
              refine wpAny_ready (rs := [1]) (by kernel_rfl) (by simp) (AllReady.cons rfl (fun K hK => ?_) AllReady.nil)
              go_simp
              go_wp2_with (go_at_call 52; refine Calls.mono (HI.out _ ?_) ?_; exact (Below.refl _ _).drew; rintro e w4 ⟨rfl, hb4⟩; replace hb4 := kundrew hb4; have B4 := kide (B3.out.trans (hb4.mono B3.out.size)); have i0 := (kcell hb4 _ _ z3).trans h0; have i1 := (kcell hb4 _ _ z3).trans h1; have i2 := (kcell hb4 _ _ z3).trans h2; have z4 := Nat.lt_of_lt_of_le z3 hb4.size; have R4 := kide (HRL.out.later hb4); have y0 := HAT.out _ hb4; clear hb4 h0 h1 h2 z3; try clear HI; refine hK _ _ ?_; clear hK K)
              refine wpAny_take (i := 2) (v := (Value.bool false)) rfl (by kernel_rfl) (by kernel_rfl) (by kernel_rfl) (fun _ _ _ h => h) (Or.inl ⟨by rfl, fun w => by go_simp⟩) ?_
              try go_simp
              refine wpAny_take (i := 3) (v := (Value.bool false)) rfl (by kernel_rfl) (by kernel_rfl) (by kernel_rfl) (fun _ _ _ h => h) (Or.inl ⟨by rfl, fun w => by go_simp⟩) ?_
              try go_simp
              refine wpAny_take (i := 4) (v := (Value.slice (some ⟨b5, o5, none⟩) m cl)) rfl (by kernel_rfl) (by kernel_rfl) (by kernel_rfl) (fun _ _ _ h => h) (Or.inl ⟨by rfl, fun w => by go_simp⟩) ?_
              try go_simp
              refine wpAny_take (i := 5) (v := (Value.int .i64 (m : Int))) rfl (by kernel_rfl) (by kernel_rfl) (by kernel_rfl) (fun _ _ _ h => h) (Or.inl ⟨by rfl, fun w => by go_simp⟩) ?_
              try go_simp
              refine wpAny_take (i := 6) (v := (Value.bool true)) rfl (by kernel_rfl) (by kernel_rfl) (by kernel_rfl) (fun _ _ _ h => h) (Or.inl ⟨by rfl, fun w => by go_simp⟩) ?_
              try go_simp
              refine wpAny_take (i := 7) (v := (Value.bool true)) rfl (by kernel_rfl) (by kernel_rfl) (by kernel_rfl) (fun _ _ _ h => h) (Or.inl ⟨by rfl, fun w => by go_simp⟩) ?_
              try go_simp
              refine wpAny_take (i := 8) (v := (Value.slice (some ⟨b5, o5, none⟩) m cl)) rfl (by kernel_rfl) (by kernel_rfl) (by kernel_rfl) (fun _ _ _ h => h) (Or.inl ⟨by rfl, fun w => by go_simp⟩) ?_
              try go_simp
              refine wpAny_take (i := 9) (v := (Value.slice (some ⟨b5, o5, none⟩) m cl)) rfl (by kernel_rfl) (by kernel_rfl) (by kernel_rfl) (fun _ _ _ h => h) (Or.inl ⟨by rfl, fun w => by go_simp⟩) ?_
              try go_simp
              refine wpAny_take (i := 10) (v := (Value.int .i64 (m : Int))) rfl (by kernel_rfl) (by kernel_rfl) (by kernel_rfl) (fun _ _ _ h => h) (Or.inl ⟨by rfl, fun w => by go_simp⟩) ?_
              try go_simp
              refine wpAny_take (i := 11) (v := (Value.int .i64 (k : Int))) rfl (by kernel_rfl) (by kernel_rfl) (by kernel_rfl) (fun _ _ _ h => h) (Or.inl ⟨by rfl, fun w => by go_simp⟩) ?_
              try go_simp
              refine wpAny_take (i := 12) (v := (Value.pointer (some ⟨b5, o5 + k * 4, none⟩))) rfl (by kernel_rfl) (by kernel_rfl) (by kernel_rfl) (fun _ _ _ h => h) (Or.inl ⟨by rfl, fun w => by go_simp⟩) ?_
              try go_simp
              refine wpAny_take (i := 13) (v := (Value.pointer (some ⟨b5, o5 + k * 4, none⟩))) rfl (by kernel_rfl) (by kernel_rfl) (by kernel_rfl) (fun _ _ _ h => h) (Or.inl ⟨by rfl, fun w => by go_simp⟩) ?_
              try go_simp
              refine wpAny_take (i := 15) (v := (Value.pointer (some ⟨w.heap.size, 2, none⟩))) rfl (by kernel_rfl) (by kernel_rfl) (by kernel_rfl) (fun _ _ _ h => h) (Or.inl ⟨by rfl, fun w => by go_simp⟩) ?_
              try go_simp
              refine wpAny_ready (rs := [14, 16]) (by kernel_rfl) (by simp) (AllReady.cons rfl (fun K hK => ?_) (AllReady.cons rfl (fun K hK => ?_) AllReady.nil))
              · go_simp
                refine hK _ _ ?_
                clear hK K
                refine wpAny_ready (rs := [16]) (by kernel_rfl) (by simp) (AllReady.cons rfl (fun K hK => ?_) AllReady.nil)
                go_simp
                refine hK _ _ ?_
                clear hK K
                refine wpAny_take (i := 17) (v := (Value.bool false)) rfl (by kernel_rfl) (by kernel_rfl) (by kernel_rfl) (fun _ _ _ h => h) (Or.inl ⟨by rfl, fun w => by go_simp⟩) ?_
                try go_simp
                refine wpAny_take (i := 18) (v := (Value.bool false)) rfl (by kernel_rfl) (by kernel_rfl) (by kernel_rfl) (fun _ _ _ h => h) (Or.inl ⟨by rfl, fun w => by go_simp⟩) ?_
                try go_simp
                refine wpAny_take (i := 19) (v := (Value.bool false)) rfl (by kernel_rfl) (by kernel_rfl) (by kernel_rfl) (fun _ _ _ h => h) (Or.inl ⟨by rfl, fun w => by go_simp⟩) ?_
                try go_simp
                refine wpAny_done (by kernel_rfl) ?_ _
                go_wp2_with fail
                go_loopw [52] (fun q wr => ∃ k' : Nat, k' ≤ n ∧ q = .int .i64 (k' : Int) ∧ ((List.range (xs.map Sg.ct).length).drop k').all (sidI ds (xs.map Sg.ct)) = Z ∧ Below w4.heap.size w4 wr) (fun q _ => n - (intOf q).toNat)
                case atStart => exact ⟨0, Nat.zero_le _, rfl, by rw [List.drop_zero]; exact HLE.out.symm, Below.refl _ _⟩
                case round =>
                  obtain ⟨k', hk', rfl, hq, hb⟩ := hrel
                  have HB := kide hb
                  have HBW := kide (B4.out.trans (hb.mono B4.out.size))
                  have l0 := (kcell hb _ _ z4).trans i0
                  have l1 := (kcell hb _ _ z4).trans i1
                  have l2 := (kcell hb _ _ z4).trans i2
                  have zr : w.heap.size < wr.heap.size := Nat.lt_of_lt_of_le z4 hb.size
                  clear i0 i1 i2 z4
                  try clear y0
                  by_cases hlt : k' < n
                  · have ik : (k' : Int) < (n : Int) := by omega
                    obtain ⟨x, gx⟩ : ∃ x, xs[k']? = some x := ⟨xs[k']'(by rw [HN.out]; exact hlt), List.getElem?_eq_getElem _⟩
                    obtain ⟨b6, o6, rfl, ⟨p0, p1⟩, r1, r2⟩ := (HS.out wr HBW.out).at gx
                    rw [sid_step (by rw [HML.out]; exact hlt), sidI_any gx] at hq
                    have hbd := beh_bounds HS1.out (by omega) (i := k') (by rw [HML.out]; exact hlt)
                    have HC := kide (fun u hu => H4.out u hu k' hlt)
                    rw [HDN.out] at hq
                    generalize behI dn (xs.map Sg.ct) k' = bk at *
                    obtain ⟨bn, rfl⟩ : ∃ bn : Nat, bk = (bn : Int) := ⟨bk.toNat, by omega⟩
                    rw [Int.toNat_natCast] at hq
                    have hbn : bn ≤ dn := by omega
                    have hbc : (bn : Int) ≤ (dc : Int) := by omega
                    have HTK : Hid ((ds.take bn).length = bn) := by show _ = _; rw [List.length_take, HDN.out]; omega
                    have hbx := ses_box wr (.cells #[Value.int .i64 x.d, Value.slice x.la x.ls.length x.lc] 63)
                    have HBX := kide (HBW.out.trans (hbx.mono HBW.out.size))
                    have HBY := kide (HB.out.trans (hbx.mono HB.out.size))
                    have RL := kide r1
                    have HQ := kide hq
                    clear gx r1 r2 hb hq hbd
                    obtain ⟨d, ls, la, lc⟩ := x
                    simp only [] at p0 p1 hbx HBX HBY RL HQ
                    obtain ⟨ln, hln⟩ : ∃ ln, ls.length = ln := ⟨_, rfl⟩
                    have HLN := kide hln
                    rw [hln] at p1 hbx HBX HBY
                    clear hln
                    go_wp2_with fail
                    have q0 : (wr.alloc (.cells #[Value.int .i64 d, Value.slice la ln lc] 63)).cell? ⟨wr.heap.size, 1, none⟩ = some (.slice la ln lc) := by simp [go_sem]
                    have zg : wr.heap.size < (wr.alloc (.cells #[Value.int .i64 d, Value.slice la ln lc] 63)).heap.size := by simp
                    have ce0 := (kcell hbx _ 0 zr).trans l0
                    have ce1 := (kcell hbx _ 1 zr).trans l1
                    have ce2 := (kcell hbx _ 2 zr).trans l2
                    have RL2 := kide (RL.out.later hbx)
                    clear l0 l1 l2 p0 p1 RL hbx
                    generalize wr.alloc (.cells #[Value.int .i64 d, Value.slice la ln lc] 63) = W2 at *
                    have zw : w.heap.size < W2.heap.size := Nat.lt_trans zr zg
                    generalize wr.heap.size = Br at *
                    refine wp_region_x (SA := fun _ => False) (SB := fun uu => Below W2.heap.size W2 uu) (k := 999) (by kernel_rfl) ?_
                    have hm0 : Hid (Below W2.heap.size W2 W2.drew) := (Below.refl _ _).drew
                    generalize W2.drew = m0 at *
                    try go_simp
                    refine wpAnyX_both (T := fun uu => Below W2.heap.size W2 uu) (i := 0) (v := Value.pointer (some ⟨w.heap.size, 0, none⟩)) rfl (by kernel_rfl) (by kernel_rfl) (by kernel_rfl) (fun _ _ _ h => by first | exact h | exact h.elim) (by decide) (fun _ h => h.elim) (fun _ h => h) (Sx.behind (by kernel_rfl) hm0.out) (Or.inl ⟨by rfl, fun uu hu => by go_simp⟩) ?_
                    try go_simp
                    refine wpAnyX_both (T := fun uu => Below W2.heap.size W2 uu) (i := 1) (v := Value.slice da dn dc) rfl (by kernel_rfl) (by kernel_rfl) (by kernel_rfl) (fun _ _ _ h => by first | exact h | exact h.elim) (by decide) (fun _ h => h.elim) (fun _ h => h) (Sx.behind (by kernel_rfl) hm0.out) (Or.inl ⟨by rfl, fun uu hu => by have e0 := (kcell hu w.heap.size 0 zw).trans ce0; go_simp⟩) ?_
                    try go_simp
                    refine wpAnyX_both (T := fun uu => Below W2.heap.size W2 uu) (i := 2) (v := Value.agg #[Value.slice da dn dc, Value.slice (some ⟨b6, o6, none⟩) n sc, Value.int .i64 nx]) rfl (by kernel_rfl) (by kernel_rfl) (by kernel_rfl) (fun _ _ _ h => by first | exact h | exact h.elim) (by decide) (fun _ h => h.elim) (fun _ h => h) (Sx.behind (by kernel_rfl) hm0.out) (Or.inl ⟨by rfl, fun uu hu => by have e0 := (kcell hu w.heap.size 0 zw).trans ce0; have e1 := (kcell hu w.heap.size 1 zw).trans ce1; have e2 := (kcell hu w.heap.size 2 zw).trans ce2; go_simp⟩) ?_
                    try go_simp
                    refine wpAnyX_both (T := fun uu => Below W2.heap.size W2 uu) (i := 3) (v := Value.int .i64 (k' : Int)) rfl (by kernel_rfl) (by kernel_rfl) (by kernel_rfl) (fun _ _ _ h => by first | exact h | exact h.elim) (by decide) (fun _ h => h.elim) (fun _ h => h) (Sx.behind (by kernel_rfl) hm0.out) (Or.inl ⟨by rfl, fun uu hu => by go_simp⟩) ?_
                    try go_simp
                    refine wpAnyX_ready (rs := [4, 6]) (by kernel_rfl) (by simp) (AllX.cons rfl (fun K hK => ?_) (AllX.cons rfl (fun K hK => ?_) AllX.nil))
                    · go_simp
                      refine Calls.mono (HC.out _ (HBX.out.trans (hm0.out.mono HBX.out.size))) ?_
                      rintro e m1 ⟨rfl, hb⟩
                      have hm1 : Hid (Below W2.heap.size W2 m1) := hm0.out.trans (hb.mono hm0.out.size)
                      refine hK _ _ (Sx.behind (by kernel_rfl) hm1.out) ?_
                      clear hK K hb
                      try go_simp
                      refine wpAnyX_both (T := fun uu => Below W2.heap.size W2 uu) (i := 5) (v := Value.slice da bn dc) rfl (by kernel_rfl) (by kernel_rfl) (by kernel_rfl) (fun _ _ _ h => by first | exact h | exact h.elim) (by decide) (fun _ h => h.elim) (fun _ h => h) (Sx.behind (by kernel_rfl) hm1.out) (Or.inl ⟨by rfl, fun uu hu => by go_simp⟩) ?_
                      try go_simp
                      refine wpAnyX_ready (rs := [6]) (by kernel_rfl) (by simp) (AllX.cons rfl (fun K hK => ?_) AllX.nil)
                      go_simp
                      refine hK _ _ (Sx.behind (by kernel_rfl) (hm1.out.alloc hm1.out.size _)) ?_
                      clear hK K
                      have hm2 : Hid (Below W2.heap.size W2 (m1.alloc (Obj.cells #[Value.slice none 0 0] 27))) := hm1.out.alloc hm1.out.size _
                      have bBD_2 : Hid (Bz (m1.alloc (Obj.cells #[Value.slice none 0 0] 27)) m1.heap.size #[Value.slice none 0 0] 27) := Bz.new _ _ _
                      have w2 : Below m1.heap.size m1 (m1.alloc (Obj.cells #[Value.slice none 0 0] 27)) := (Below.refl _ _).alloc (Nat.le_refl _) _
                      have lBD : W2.heap.size ≤ m1.heap.size := hm1.out.size
                      clear w2
                      generalize hqBD : m1.heap.size = BD at *
                      generalize m1.alloc (Obj.cells #[Value.slice none 0 0] 27) = m2 at *
                      clear hqBD
                      try go_simp
                      refine wpAnyX_ready (rs := [7]) (by kernel_rfl) (by simp) (AllX.cons rfl (fun K hK => ?_) AllX.nil)
                      have e0 := bBD_2.out.cell 0
                      have f0 := bBD_2.out.froz 0
                      simp at e0
                      go_simp
                      have bBD_3 : Hid (Bz (m2.setCell ⟨BD, 0, none⟩ (Value.slice da bn dc)) BD #[Value.slice da bn dc] 27) := (bBD_2.out.set 0 _)
                      have hm3 : Hid (Below W2.heap.size W2 (m2.setCell ⟨BD, 0, none⟩ (Value.slice da bn dc))) := (hm2.out.setCell (show _ ≤ BD from lBD) _)
                      refine hK _ _ (Sx.behind (by kernel_rfl) hm3.out) ?_
                      clear hK K e0 f0
                      generalize (m2.setCell ⟨BD, 0, none⟩ (Value.slice da bn dc)) = m3 at *
                      try go_simp
                      refine wpAnyX_done (by kernel_rfl) ?_ _
                      have c5 := (kcell hm3.out Br 1 zg).trans q0
                      have BM := kide (HBX.out.trans (hm3.out.mono HBX.out.size))
                      have BMY := kide (HBY.out.trans (hm3.out.mono HBY.out.size))
                      have HCF : Hid (∀ u, Below m3.heap.size m3 u → ∀ x ∈ ls, Calls Tryz.prog 54 #[x.val, .pointer (some ⟨BD, 0, none⟩)] u fun e w' => e = .returned (.bool (!sideR (ds.take bn) x.ct)) ∧ Below u.heap.size u w') := fun u hu x hx => by
                        have h1 := BM.out.trans (hu.mono BM.out.size)
                        have h2 := (hm3.out.trans (hu.mono hm3.out.size))
                        obtain ⟨t1, t2, -⟩ := RdL.mem (RL2.out.later h2) hx
                        exact sesF_any da bn dc BD (ds.take bn) x u (by have := (bBD_3.out.later hu).cell 0; simpa using this) ((HD.out u h1).take bn) HTK.out t1 t2 (HG.out u h1) (dclR_take HD1.out bn)
                      have HCON := kide (ContainsL_any 54 (fun args w => rfl) (.pointer (some ⟨BD, 0, none⟩)) (fun l => !sideR (ds.take bn) l.ct) la lc ln ls m3 (RL2.out.later hm3.out) HLN.out HCF)
                      generalize (ls.any fun l => !sideR (ds.take bn) l.ct) = V at *
                      clear HCF
                      cases V with
                      | true =>
                        have HF : Hid (Z = false) := by show _ = _; rw [← HQ.out]; rfl
                        go_wp2_with fail
                        refine Calls.mono HCON.out ?_
                        rintro e w9 ⟨rfl, hb9⟩
                        have B9 := kide (BM.out.trans (hb9.mono BM.out.size))
                        clear hb9 HCON
                        go_wp2_with fail
                        go_ret
                        exact ⟨ret_bool HF.out.symm, B9.out⟩
                      | false =>
                        have HQ2 : Hid (((List.range (xs.map Sg.ct).length).drop (k' + 1)).all (sidI ds (xs.map Sg.ct)) = Z) := by have := HQ.out; rw [Bool.not_false, Bool.true_and] at this; exact this
                        go_wp2_with fail
                        refine Calls.mono HCON.out ?_
                        rintro e w9 ⟨rfl, hb9⟩
                        have B9 := kide (BMY.out.trans (hb9.mono BMY.out.size))
                        clear hb9 HCON
                        go_wp2_with fail
                        go_roundw
                        case rel => exact ⟨k' + 1, by omega, by go_num, HQ2.out, B9.out⟩
                        case measure => simp [intOf]; omega
                    · go_simp
                      refine hK _ _ (Sx.behind (by kernel_rfl) (hm0.out.alloc hm0.out.size _)) ?_
                      clear hK K
                      have hm1 : Hid (Below W2.heap.size W2 (m0.alloc (Obj.cells #[Value.slice none 0 0] 27))) := hm0.out.alloc hm0.out.size _
                      have bBD_1 : Hid (Bz (m0.alloc (Obj.cells #[Value.slice none 0 0] 27)) m0.heap.size #[Value.slice none 0 0] 27) := Bz.new _ _ _
                      have w1 : Below m0.heap.size m0 (m0.alloc (Obj.cells #[Value.slice none 0 0] 27)) := (Below.refl _ _).alloc (Nat.le_refl _) _
                      have lBD : W2.heap.size ≤ m0.heap.size := hm0.out.size
                      clear w1
                      generalize hqBD : m0.heap.size = BD at *
                      generalize m0.alloc (Obj.cells #[Value.slice none 0 0] 27) = m1 at *
                      clear hqBD
                      try go_simp
                      refine wpAnyX_ready (rs := [4]) (by kernel_rfl) (by simp) (AllX.cons rfl (fun K hK => ?_) AllX.nil)
                      go_simp
                      refine Calls.mono (HC.out _ (HBX.out.trans (hm1.out.mono HBX.out.size))) ?_
                      rintro e m2 ⟨rfl, hb⟩
                      have hm2 : Hid (Below W2.heap.size W2 m2) := hm1.out.trans (hb.mono hm1.out.size)
                      have bBD_2 : Hid (Bz m2 BD #[Value.slice none 0 0] 27) := Bz.later bBD_1.out hb
                      refine hK _ _ (Sx.behind (by kernel_rfl) hm2.out) ?_
                      clear hK K hb
                      try go_simp
                      refine wpAnyX_both (T := fun uu => Below W2.heap.size W2 uu) (i := 5) (v := Value.slice da bn dc) rfl (by kernel_rfl) (by kernel_rfl) (by kernel_rfl) (fun _ _ _ h => by first | exact h | exact h.elim) (by decide) (fun _ h => h.elim) (fun _ h => h) (Sx.behind (by kernel_rfl) hm2.out) (Or.inl ⟨by rfl, fun uu hu => by go_simp⟩) ?_
                      try go_simp
                      refine wpAnyX_ready (rs := [7]) (by kernel_rfl) (by simp) (AllX.cons rfl (fun K hK => ?_) AllX.nil)
                      have e0 := bBD_2.out.cell 0
                      have f0 := bBD_2.out.froz 0
                      simp at e0
                      go_simp
                      have bBD_3 : Hid (Bz (m2.setCell ⟨BD, 0, none⟩ (Value.slice da bn dc)) BD #[Value.slice da bn dc] 27) := (bBD_2.out.set 0 _)
                      have hm3 : Hid (Below W2.heap.size W2 (m2.setCell ⟨BD, 0, none⟩ (Value.slice da bn dc))) := (hm2.out.setCell (show _ ≤ BD from lBD) _)
                      refine hK _ _ (Sx.behind (by kernel_rfl) hm3.out) ?_
                      clear hK K e0 f0
                      generalize (m2.setCell ⟨BD, 0, none⟩ (Value.slice da bn dc)) = m3 at *
                      try go_simp
                      refine wpAnyX_done (by kernel_rfl) ?_ _
                      have c5 := (kcell hm3.out Br 1 zg).trans q0
                      have BM := kide (HBX.out.trans (hm3.out.mono HBX.out.size))
                      have BMY := kide (HBY.out.trans (hm3.out.mono HBY.out.size))
                      have HCF : Hid (∀ u, Below m3.heap.size m3 u → ∀ x ∈ ls, Calls Tryz.prog 54 #[x.val, .pointer (some ⟨BD, 0, none⟩)] u fun e w' => e = .returned (.bool (!sideR (ds.take bn) x.ct)) ∧ Below u.heap.size u w') := fun u hu x hx => by
                        have h1 := BM.out.trans (hu.mono BM.out.size)
                        have h2 := (hm3.out.trans (hu.mono hm3.out.size))
                        obtain ⟨t1, t2, -⟩ := RdL.mem (RL2.out.later h2) hx
                        exact sesF_any da bn dc BD (ds.take bn) x u (by have := (bBD_3.out.later hu).cell 0; simpa using this) ((HD.out u h1).take bn) HTK.out t1 t2 (HG.out u h1) (dclR_take HD1.out bn)
                      have HCON := kide (ContainsL_any 54 (fun args w => rfl) (.pointer (some ⟨BD, 0, none⟩)) (fun l => !sideR (ds.take bn) l.ct) la lc ln ls m3 (RL2.out.later hm3.out) HLN.out HCF)
                      generalize (ls.any fun l => !sideR (ds.take bn) l.ct) = V at *
                      clear HCF
                      cases V with
                      | true =>
                        have HF : Hid (Z = false) := by show _ = _; rw [← HQ.out]; rfl
                        go_wp2_with fail
                        refine Calls.mono HCON.out ?_
                        rintro e w9 ⟨rfl, hb9⟩
                        have B9 := kide (BM.out.trans (hb9.mono BM.out.size))
                        clear hb9 HCON
                        go_wp2_with fail
                        go_ret
                        exact ⟨ret_bool HF.out.symm, B9.out⟩
                      | false =>
                        have HQ2 : Hid (((List.range (xs.map Sg.ct).length).drop (k' + 1)).all (sidI ds (xs.map Sg.ct)) = Z) := by have := HQ.out; rw [Bool.not_false, Bool.true_and] at this; exact this
                        go_wp2_with fail
                        refine Calls.mono HCON.out ?_
                        rintro e w9 ⟨rfl, hb9⟩
                        have B9 := kide (BMY.out.trans (hb9.mono BMY.out.size))
                        clear hb9 HCON
                        go_wp2_with fail
                        go_roundw
                        case rel => exact ⟨k' + 1, by omega, by go_num, HQ2.out, B9.out⟩
                        case measure => simp [intOf]; omega
                  · rw [List.drop_of_length_le (by rw [List.length_range, HML.out]; omega)] at hq
                    have HQ := kide hq
                    clear hq hb
                    go_wp2_with fail
                    go_ret
                    exact ⟨ret_bool HQ.out, HBW.out⟩
              · go_simp
                refine hK _ _ ?_
                clear hK K
                refine wpAny_ready (rs := [14]) (by kernel_rfl) (by simp) (AllReady.cons rfl (fun K hK => ?_) AllReady.nil)
                go_simp
                refine hK _ _ ?_
                clear hK K
                refine wpAny_take (i := 17) (v := (Value.bool false)) rfl (by kernel_rfl) (by kernel_rfl) (by kernel_rfl) (fun _ _ _ h => h) (Or.inl ⟨by rfl, fun w => by go_simp⟩) ?_
                try go_simp
                refine wpAny_take (i := 18) (v := (Value.bool false)) rfl (by kernel_rfl) (by kernel_rfl) (by kernel_rfl) (fun _ _ _ h => h) (Or.inl ⟨by rfl, fun w => by go_simp⟩) ?_
                try go_simp
                refine wpAny_take (i := 19) (v := (Value.bool false)) rfl (by kernel_rfl) (by kernel_rfl) (by kernel_rfl) (fun _ _ _ h => h) (Or.inl ⟨by rfl, fun w => by go_simp⟩) ?_
                try go_simp
                refine wpAny_done (by kernel_rfl) ?_ _
                go_wp2_with fail
                go_loopw [52] (fun q wr => ∃ k' : Nat, k' ≤ n ∧ q = .int .i64 (k' : Int) ∧ ((List.range (xs.map Sg.ct).length).drop k').all (sidI ds (xs.map Sg.ct)) = Z ∧ Below w4.heap.size w4 wr) (fun q _ => n - (intOf q).toNat)
                case atStart => exact ⟨0, Nat.zero_le _, rfl, by rw [List.drop_zero]; exact HLE.out.symm, Below.refl _ _⟩
                case round =>
                  obtain ⟨k', hk', rfl, hq, hb⟩ := hrel
                  have HB := kide hb
                  have HBW := kide (B4.out.trans (hb.mono B4.out.size))
                  have l0 := (kcell hb _ _ z4).trans i0
                  have l1 := (kcell hb _ _ z4).trans i1
                  have l2 := (kcell hb _ _ z4).trans i2
                  have zr : w.heap.size < wr.heap.size := Nat.lt_of_lt_of_le z4 hb.size
                  clear i0 i1 i2 z4
                  try clear y0
                  by_cases hlt : k' < n
                  · have ik : (k' : Int) < (n : Int) := by omega
                    obtain ⟨x, gx⟩ : ∃ x, xs[k']? = some x := ⟨xs[k']'(by rw [HN.out]; exact hlt), List.getElem?_eq_getElem _⟩
                    obtain ⟨b6, o6, rfl, ⟨p0, p1⟩, r1, r2⟩ := (HS.out wr HBW.out).at gx
                    rw [sid_step (by rw [HML.out]; exact hlt), sidI_any gx] at hq
                    have hbd := beh_bounds HS1.out (by omega) (i := k') (by rw [HML.out]; exact hlt)
                    have HC := kide (fun u hu => H4.out u hu k' hlt)
                    rw [HDN.out] at hq
                    generalize behI dn (xs.map Sg.ct) k' = bk at *
                    obtain ⟨bn, rfl⟩ : ∃ bn : Nat, bk = (bn : Int) := ⟨bk.toNat, by omega⟩
                    rw [Int.toNat_natCast] at hq
                    have hbn : bn ≤ dn := by omega
                    have hbc : (bn : Int) ≤ (dc : Int) := by omega
                    have HTK : Hid ((ds.take bn).length = bn) := by show _ = _; rw [List.length_take, HDN.out]; omega
                    have hbx := ses_box wr (.cells #[Value.int .i64 x.d, Value.slice x.la x.ls.length x.lc] 63)
                    have HBX := kide (HBW.out.trans (hbx.mono HBW.out.size))
                    have HBY := kide (HB.out.trans (hbx.mono HB.out.size))
                    have RL := kide r1
                    have HQ := kide hq
                    clear gx r1 r2 hb hq hbd
                    obtain ⟨d, ls, la, lc⟩ := x
                    simp only [] at p0 p1 hbx HBX HBY RL HQ
                    obtain ⟨ln, hln⟩ : ∃ ln, ls.length = ln := ⟨_, rfl⟩
                    have HLN := kide hln
                    rw [hln] at p1 hbx HBX HBY
                    clear hln
                    go_wp2_with fail
                    have q0 : (wr.alloc (.cells #[Value.int .i64 d, Value.slice la ln lc] 63)).cell? ⟨wr.heap.size, 1, none⟩ = some (.slice la ln lc) := by simp [go_sem]
                    have zg : wr.heap.size < (wr.alloc (.cells #[Value.int .i64 d, Value.slice la ln lc] 63)).heap.size := by simp
                    have ce0 := (kcell hbx _ 0 zr).trans l0
                    have ce1 := (kcell hbx _ 1 zr).trans l1
                    have ce2 := (kcell hbx _ 2 zr).trans l2
                    have RL2 := kide (RL.out.later hbx)
                    clear l0 l1 l2 p0 p1 RL hbx
                    generalize wr.alloc (.cells #[Value.int .i64 d, Value.slice la ln lc] 63) = W2 at *
                    have zw : w.heap.size < W2.heap.size := Nat.lt_trans zr zg
                    generalize wr.heap.size = Br at *
                    refine wp_region_x (SA := fun _ => False) (SB := fun uu => Below W2.heap.size W2 uu) (k := 999) (by kernel_rfl) ?_
                    have hm0 : Hid (Below W2.heap.size W2 W2.drew) := (Below.refl _ _).drew
                    generalize W2.drew = m0 at *
                    try go_simp
                    refine wpAnyX_both (T := fun uu => Below W2.heap.size W2 uu) (i := 0) (v := Value.pointer (some ⟨w.heap.size, 0, none⟩)) rfl (by kernel_rfl) (by kernel_rfl) (by kernel_rfl) (fun _ _ _ h => by first | exact h | exact h.elim) (by decide) (fun _ h => h.elim) (fun _ h => h) (Sx.behind (by kernel_rfl) hm0.out) (Or.inl ⟨by rfl, fun uu hu => by go_simp⟩) ?_
                    try go_simp
                    refine wpAnyX_both (T := fun uu => Below W2.heap.size W2 uu) (i := 1) (v := Value.slice da dn dc) rfl (by kernel_rfl) (by kernel_rfl) (by kernel_rfl) (fun _ _ _ h => by first | exact h | exact h.elim) (by decide) (fun _ h => h.elim) (fun _ h => h) (Sx.behind (by kernel_rfl) hm0.out) (Or.inl ⟨by rfl, fun uu hu => by have e0 := (kcell hu w.heap.size 0 zw).trans ce0; go_simp⟩) ?_
                    try go_simp
                    refine wpAnyX_both (T := fun uu => Below W2.heap.size W2 uu) (i := 2) (v := Value.agg #[Value.slice da dn dc, Value.slice (some ⟨b6, o6, none⟩) n sc, Value.int .i64 nx]) rfl (by kernel_rfl) (by kernel_rfl) (by kernel_rfl) (fun _ _ _ h => by first | exact h | exact h.elim) (by decide) (fun _ h => h.elim) (fun _ h => h) (Sx.behind (by kernel_rfl) hm0.out) (Or.inl ⟨by rfl, fun uu hu => by have e0 := (kcell hu w.heap.size 0 zw).trans ce0; have e1 := (kcell hu w.heap.size 1 zw).trans ce1; have e2 := (kcell hu w.heap.size 2 zw).trans ce2; go_simp⟩) ?_
                    try go_simp
                    refine wpAnyX_both (T := fun uu => Below W2.heap.size W2 uu) (i := 3) (v := Value.int .i64 (k' : Int)) rfl (by kernel_rfl) (by kernel_rfl) (by kernel_rfl) (fun _ _ _ h => by first | exact h | exact h.elim) (by decide) (fun _ h => h.elim) (fun _ h => h) (Sx.behind (by kernel_rfl) hm0.out) (Or.inl ⟨by rfl, fun uu hu => by go_simp⟩) ?_
                    try go_simp
                    refine wpAnyX_ready (rs := [4, 6]) (by kernel_rfl) (by simp) (AllX.cons rfl (fun K hK => ?_) (AllX.cons rfl (fun K hK => ?_) AllX.nil))
                    · go_simp
                      refine Calls.mono (HC.out _ (HBX.out.trans (hm0.out.mono HBX.out.size))) ?_
                      rintro e m1 ⟨rfl, hb⟩
                      have hm1 : Hid (Below W2.heap.size W2 m1) := hm0.out.trans (hb.mono hm0.out.size)
                      refine hK _ _ (Sx.behind (by kernel_rfl) hm1.out) ?_
                      clear hK K hb
                      try go_simp
                      refine wpAnyX_both (T := fun uu => Below W2.heap.size W2 uu) (i := 5) (v := Value.slice da bn dc) rfl (by kernel_rfl) (by kernel_rfl) (by kernel_rfl) (fun _ _ _ h => by first | exact h | exact h.elim) (by decide) (fun _ h => h.elim) (fun _ h => h) (Sx.behind (by kernel_rfl) hm1.out) (Or.inl ⟨by rfl, fun uu hu => by go_simp⟩) ?_
                      try go_simp
                      refine wpAnyX_ready (rs := [6]) (by kernel_rfl) (by simp) (AllX.cons rfl (fun K hK => ?_) AllX.nil)
                      go_simp
                      refine hK _ _ (Sx.behind (by kernel_rfl) (hm1.out.alloc hm1.out.size _)) ?_
                      clear hK K
                      have hm2 : Hid (Below W2.heap.size W2 (m1.alloc (Obj.cells #[Value.slice none 0 0] 27))) := hm1.out.alloc hm1.out.size _
                      have bBD_2 : Hid (Bz (m1.alloc (Obj.cells #[Value.slice none 0 0] 27)) m1.heap.size #[Value.slice none 0 0] 27) := Bz.new _ _ _
                      have w2 : Below m1.heap.size m1 (m1.alloc (Obj.cells #[Value.slice none 0 0] 27)) := (Below.refl _ _).alloc (Nat.le_refl _) _
                      have lBD : W2.heap.size ≤ m1.heap.size := hm1.out.size
                      clear w2
                      generalize hqBD : m1.heap.size = BD at *
                      generalize m1.alloc (Obj.cells #[Value.slice none 0 0] 27) = m2 at *
                      clear hqBD
                      try go_simp
                      refine wpAnyX_ready (rs := [7]) (by kernel_rfl) (by simp) (AllX.cons rfl (fun K hK => ?_) AllX.nil)
                      have e0 := bBD_2.out.cell 0
                      have f0 := bBD_2.out.froz 0
                      simp at e0
                      go_simp
                      have bBD_3 : Hid (Bz (m2.setCell ⟨BD, 0, none⟩ (Value.slice da bn dc)) BD #[Value.slice da bn dc] 27) := (bBD_2.out.set 0 _)
                      have hm3 : Hid (Below W2.heap.size W2 (m2.setCell ⟨BD, 0, none⟩ (Value.slice da bn dc))) := (hm2.out.setCell (show _ ≤ BD from lBD) _)
                      refine hK _ _ (Sx.behind (by kernel_rfl) hm3.out) ?_
                      clear hK K e0 f0
                      generalize (m2.setCell ⟨BD, 0, none⟩ (Value.slice da bn dc)) = m3 at *
                      try go_simp
                      refine wpAnyX_done (by kernel_rfl) ?_ _
                      have c5 := (kcell hm3.out Br 1 zg).trans q0
                      have BM := kide (HBX.out.trans (hm3.out.mono HBX.out.size))
                      have BMY := kide (HBY.out.trans (hm3.out.mono HBY.out.size))
                      have HCF : Hid (∀ u, Below m3.heap.size m3 u → ∀ x ∈ ls, Calls Tryz.prog 54 #[x.val, .pointer (some ⟨BD, 0, none⟩)] u fun e w' => e = .returned (.bool (!sideR (ds.take bn) x.ct)) ∧ Below u.heap.size u w') := fun u hu x hx => by
                        have h1 := BM.out.trans (hu.mono BM.out.size)
                        have h2 := (hm3.out.trans (hu.mono hm3.out.size))
                        obtain ⟨t1, t2, -⟩ := RdL.mem (RL2.out.later h2) hx
                        exact sesF_any da bn dc BD (ds.take bn) x u (by have := (bBD_3.out.later hu).cell 0; simpa using this) ((HD.out u h1).take bn) HTK.out t1 t2 (HG.out u h1) (dclR_take HD1.out bn)
                      have HCON := kide (ContainsL_any 54 (fun args w => rfl) (.pointer (some ⟨BD, 0, none⟩)) (fun l => !sideR (ds.take bn) l.ct) la lc ln ls m3 (RL2.out.later hm3.out) HLN.out HCF)
                      generalize (ls.any fun l => !sideR (ds.take bn) l.ct) = V at *
                      clear HCF
                      cases V with
                      | true =>
                        have HF : Hid (Z = false) := by show _ = _; rw [← HQ.out]; rfl
                        go_wp2_with fail
                        refine Calls.mono HCON.out ?_
                        rintro e w9 ⟨rfl, hb9⟩
                        have B9 := kide (BM.out.trans (hb9.mono BM.out.size))
                        clear hb9 HCON
                        go_wp2_with fail
                        go_ret
                        exact ⟨ret_bool HF.out.symm, B9.out⟩
                      | false =>
                        have HQ2 : Hid (((List.range (xs.map Sg.ct).length).drop (k' + 1)).all (sidI ds (xs.map Sg.ct)) = Z) := by have := HQ.out; rw [Bool.not_false, Bool.true_and] at this; exact this
                        go_wp2_with fail
                        refine Calls.mono HCON.out ?_
                        rintro e w9 ⟨rfl, hb9⟩
                        have B9 := kide (BMY.out.trans (hb9.mono BMY.out.size))
                        clear hb9 HCON
                        go_wp2_with fail
                        go_roundw
                        case rel => exact ⟨k' + 1, by omega, by go_num, HQ2.out, B9.out⟩
                        case measure => simp [intOf]; omega
                    · go_simp
                      refine hK _ _ (Sx.behind (by kernel_rfl) (hm0.out.alloc hm0.out.size _)) ?_
                      clear hK K
                      have hm1 : Hid (Below W2.heap.size W2 (m0.alloc (Obj.cells #[Value.slice none 0 0] 27))) := hm0.out.alloc hm0.out.size _
                      have bBD_1 : Hid (Bz (m0.alloc (Obj.cells #[Value.slice none 0 0] 27)) m0.heap.size #[Value.slice none 0 0] 27) := Bz.new _ _ _
                      have w1 : Below m0.heap.size m0 (m0.alloc (Obj.cells #[Value.slice none 0 0] 27)) := (Below.refl _ _).alloc (Nat.le_refl _) _
                      have lBD : W2.heap.size ≤ m0.heap.size := hm0.out.size
                      clear w1
                      generalize hqBD : m0.heap.size = BD at *
                      generalize m0.alloc (Obj.cells #[Value.slice none 0 0] 27) = m1 at *
                      clear hqBD
                      try go_simp
                      refine wpAnyX_ready (rs := [4]) (by kernel_rfl) (by simp) (AllX.cons rfl (fun K hK => ?_) AllX.nil)
                      go_simp
                      refine Calls.mono (HC.out _ (HBX.out.trans (hm1.out.mono HBX.out.size))) ?_
                      rintro e m2 ⟨rfl, hb⟩
                      have hm2 : Hid (Below W2.heap.size W2 m2) := hm1.out.trans (hb.mono hm1.out.size)
                      have bBD_2 : Hid (Bz m2 BD #[Value.slice none 0 0] 27) := Bz.later bBD_1.out hb
                      refine hK _ _ (Sx.behind (by kernel_rfl) hm2.out) ?_
                      clear hK K hb
                      try go_simp
                      refine wpAnyX_both (T := fun uu => Below W2.heap.size W2 uu) (i := 5) (v := Value.slice da bn dc) rfl (by kernel_rfl) (by kernel_rfl) (by kernel_rfl) (fun _ _ _ h => by first | exact h | exact h.elim) (by decide) (fun _ h => h.elim) (fun _ h => h) (Sx.behind (by kernel_rfl) hm2.out) (Or.inl ⟨by rfl, fun uu hu => by go_simp⟩) ?_
                      try go_simp
                      refine wpAnyX_ready (rs := [7]) (by kernel_rfl) (by simp) (AllX.cons rfl (fun K hK => ?_) AllX.nil)
                      have e0 := bBD_2.out.cell 0
                      have f0 := bBD_2.out.froz 0
                      simp at e0
                      go_simp
                      have bBD_3 : Hid (Bz (m2.setCell ⟨BD, 0, none⟩ (Value.slice da bn dc)) BD #[Value.slice da bn dc] 27) := (bBD_2.out.set 0 _)
                      have hm3 : Hid (Below W2.heap.size W2 (m2.setCell ⟨BD, 0, none⟩ (Value.slice da bn dc))) := (hm2.out.setCell (show _ ≤ BD from lBD) _)
                      refine hK _ _ (Sx.behind (by kernel_rfl) hm3.out) ?_
                      clear hK K e0 f0
                      generalize (m2.setCell ⟨BD, 0, none⟩ (Value.slice da bn dc)) = m3 at *
                      try go_simp
                      refine wpAnyX_done (by kernel_rfl) ?_ _
                      have c5 := (kcell hm3.out Br 1 zg).trans q0
                      have BM := kide (HBX.out.trans (hm3.out.mono HBX.out.size))
                      have BMY := kide (HBY.out.trans (hm3.out.mono HBY.out.size))
                      have HCF : Hid (∀ u, Below m3.heap.size m3 u → ∀ x ∈ ls, Calls Tryz.prog 54 #[x.val, .pointer (some ⟨BD, 0, none⟩)] u fun e w' => e = .returned (.bool (!sideR (ds.take bn) x.ct)) ∧ Below u.heap.size u w') := fun u hu x hx => by
                        have h1 := BM.out.trans (hu.mono BM.out.size)
                        have h2 := (hm3.out.trans (hu.mono hm3.out.size))
                        obtain ⟨t1, t2, -⟩ := RdL.mem (RL2.out.later h2) hx
                        exact sesF_any da bn dc BD (ds.take bn) x u (by have := (bBD_3.out.later hu).cell 0; simpa using this) ((HD.out u h1).take bn) HTK.out t1 t2 (HG.out u h1) (dclR_take HD1.out bn)
                      have HCON := kide (ContainsL_any 54 (fun args w => rfl) (.pointer (some ⟨BD, 0, none⟩)) (fun l => !sideR (ds.take bn) l.ct) la lc ln ls m3 (RL2.out.later hm3.out) HLN.out HCF)
                      generalize (ls.any fun l => !sideR (ds.take bn) l.ct) = V at *
                      clear HCF
                      cases V with
                      | true =>
                        have HF : Hid (Z = false) := by show _ = _; rw [← HQ.out]; rfl
                        go_wp2_with fail
                        refine Calls.mono HCON.out ?_
                        rintro e w9 ⟨rfl, hb9⟩
                        have B9 := kide (BM.out.trans (hb9.mono BM.out.size))
                        clear hb9 HCON
                        go_wp2_with fail
                        go_ret
                        exact ⟨ret_bool HF.out.symm, B9.out⟩
                      | false =>
                        have HQ2 : Hid (((List.range (xs.map Sg.ct).length).drop (k' + 1)).all (sidI ds (xs.map Sg.ct)) = Z) := by have := HQ.out; rw [Bool.not_false, Bool.true_and] at this; exact this
                        go_wp2_with fail
                        refine Calls.mono HCON.out ?_
                        rintro e w9 ⟨rfl, hb9⟩
                        have B9 := kide (BMY.out.trans (hb9.mono BMY.out.size))
                        clear hb9 HCON
                        go_wp2_with fail
                        go_roundw
                        case rel => exact ⟨k' + 1, by omega, by go_num, HQ2.out, B9.out⟩
                        case measure => simp [intOf]; omega
                  · rw [List.drop_of_length_le (by rw [List.length_range, HML.out]; omega)] at hq
                    have HQ := kide hq
                    clear hq hb
                    go_wp2_with fail
                    go_ret
                    exact ⟨ret_bool HQ.out, HBW.out⟩
      · rw [hSES, decide_eq_false hx]
        simp only [Bool.false_and, Bool.and_false]
        clear hSES hd1 hs1
        generalize ds.length = dn at *
        by_cases hx1 : nx < 1
        all_goals
          go_enter Tryz.func27, Tryz.ntmps27
          go_wp2_with fail
          refine Calls.mono (H1.out _ B0.out) ?_
          rintro e w1 ⟨rfl, hb1⟩
          have B1 := kide (B0.out.trans (hb1.mono B0.out.size))
          have f0 := (kcell hb1 _ _ z0).trans e0
          have f1 := (kcell hb1 _ _ z0).trans e1
          have f2 := (kcell hb1 _ _ z0).trans e2
          have z1 := Nat.lt_of_lt_of_le z0 hb1.size
          clear hb1 e0 e1 e2 z0 H1
          go_wp2_with fail
          refine Calls.mono (H2.out _ B1.out) ?_
          rintro e w2 ⟨rfl, hb2⟩
          have B2 := kide (B1.out.trans (hb2.mono B1.out.size))
          have g0 := (kcell hb2 _ _ z1).trans f0
          have g1 := (kcell hb2 _ _ z1).trans f1
          have g2 := (kcell hb2 _ _ z1).trans f2
          clear hb2 f0 f1 f2 z1 H2 B1
          try have hx2 : 1000000 < nx := by omega
          go_wp2_with fail
          go_ret
          exact ⟨rfl, B2.out⟩

end Go.Proofs.YtofdkdaehhpgbaaGreatDoor
