/- The program's widthsOf. -/
import Derived.Test.YtdlmgndmfphneaaGreatDoorZGAH
namespace Go.Proofs.YtdlmgndmfphneaaGreatDoor
set_option linter.unusedVariables false
set_option linter.unusedSimpArgs false
open Go.RowKit

theorem OwnI.first {w : World} {g : Nat} {xs ys : List Int} (h : OwnI w g (xs ++ ys)) (hl : xs.length ≤ 1048576) (hx : ∀ k ∈ xs, in64 k) : RdI w (some ⟨g, 0, none⟩) xs := by
  refine ⟨hl, hx, .inr ⟨g, 0, rfl, fun i hi => ?_⟩⟩
  have := h.cell (i := i) (by simp; omega)
  rw [Nat.zero_add, this]
  simp [List.getD, List.getElem?_append, hi]

/-- The state of the loop: the term's box, the widths so far, the counts. -/
structure Ww (w : World) (b : Option Addr) (n c2 : Nat) (wide : List Int) (q : Nat → Nat) (wr : World) : Prop where
  box : wr.heap[w.heap.size]? = some (.cells #[.slice b n c2] 34 (0, 0))
  row : OwnI wr (w.heap.size + 1) (wide ++ List.replicate (n - wide.length) 0)
  cnt : Cn wr (w.heap.size + 2) n q
  bel : Below w.heap.size w wr

theorem Ww.later {w : World} {b : Option Addr} {n c2 : Nat} {wide : List Int} {q : Nat → Nat} {wr wr' : World} (h : Ww w b n c2 wide q wr) (hb : Below wr.heap.size wr wr') : Ww w b n c2 wide q wr' where
  box := by rw [hb.block _ (lt_of_block h.box)]; exact h.box
  row := h.row.later hb h.row.lt
  cnt := h.cnt.later hb
  bel := h.bel.trans (hb.mono h.bel.size)

theorem Ww.cell {w : World} {b : Option Addr} {n c2 : Nat} {wide : List Int} {q : Nat → Nat} {wr : World} (h : Ww w b n c2 wide q wr) : wr.cell? ⟨w.heap.size, 0, none⟩ = some (.slice b n c2) := by
  simp [World.cell?, h.box]

theorem Ww.counted {w : World} {b : Option Addr} {n c2 : Nat} {wide : List Int} {q q' : Nat → Nat} {wr wr' : World} (h : Ww w b n c2 wide q wr) (hg : wr.grownBy wr' (some (w.heap.size + 2))) (hc : Cn wr' (w.heap.size + 2) n q') : Ww w b n c2 wide q' wr' where
  box := by rw [hg.block _ (lt_of_block h.box) (by simp)]; exact h.box
  row := by
    have := h.row
    unfold OwnI at this ⊢
    rw [hg.block _ (lt_of_block this) (by simp)]; exact this
  cnt := hc
  bel := ⟨hg.os.trans h.bel.os, hg.tape.trans h.bel.tape, hg.output.trans h.bel.output, Nat.le_trans h.bel.size hg.size, fun k hk => (hg.block k (Nat.lt_of_lt_of_le hk h.bel.size) (by simp; omega)).trans (h.bel.block k hk)⟩

theorem set_next (wide : List Int) (n : Nat) (v : Int) (h : wide.length < n) : (wide ++ List.replicate (n - wide.length) 0).set wide.length v = (wide ++ [v]) ++ List.replicate (n - (wide ++ [v]).length) 0 := by
  obtain ⟨m, hm⟩ : ∃ m, n - wide.length = m + 1 := ⟨n - wide.length - 1, by omega⟩
  rw [hm, List.replicate_succ, List.set_append_right _ _ (Nat.le_refl _)]
  simp [show n - (wide.length + 1) = m by omega]

theorem Ww.put {w : World} {b : Option Addr} {n c2 : Nat} {wide : List Int} {q : Nat → Nat} {wr : World} (h : Ww w b n c2 wide q wr) (v : Int) (hl : wide.length < n) : Ww w b n c2 (wide ++ [v]) q (wr.setCell ⟨w.heap.size + 1, wide.length, none⟩ (.int .i64 v)) where
  box := by rw [heap_setCell_other _ _ _ _ (by simp)]; exact h.box
  row := by
    have := h.row.put wide.length v
    rw [set_next wide n v hl] at this
    exact this
  cnt := by
    obtain ⟨f, ⟨cc, hh, h1, h2⟩, hq⟩ := h.cnt
    exact ⟨f, World.rowIs.of_block ⟨cc, hh, h1, h2⟩ (heap_setCell_other _ _ _ _ (by simp)), hq⟩
  bel := h.bel.setCell (by simp) _

/-- An answer that is a row of whole numbers. -/
def RetI (u : World) (R : List Int) (e : Ending) (w' : World) : Prop := ∃ a c, e = .returned (.slice a R.length c) ∧ RdI w' a R ∧ (R = [] → a = none) ∧ Below u.heap.size u w'

theorem RetI.nil (u w' : World) (hb : Below u.heap.size u w') : RetI u [] (.returned (.slice none 0 0)) w' := ⟨none, 0, rfl, ⟨by simp, by simp, .inl rfl⟩, fun _ => rfl, hb⟩

set_option maxHeartbeats 4000000 in
set_option maxRecDepth 100000 in
theorem widthsOf_any (a b : Option Addr) (c c2 n : Nat) (ds : List Dc) (xs : List Tg) (w : World) (hr : RdD w a ds) (hs : RdT w b xs) (hn : xs.length = n) (hG : GF w) (hD : dclR ds = true) :
    Calls Tryz.prog 89 #[.slice a ds.length c, .agg #[.slice b n c2]] w (RetI w (widthsR ds (xs.map Tg.ct))) := by
  have hl1 := hr.1
  have hl2 := hs.1
  rw [hn] at hl2
  have HRD := kide (fun u (hu : Below w.heap.size w u) => hr.later hu)
  have HRT := kide (fun u (hu : Below w.heap.size w u) => hs.later hu)
  have HG := kide (fun u (hu : Below w.heap.size w u) => hG.later hu)
  have HT0 := kide hs
  have HN := kide hn
  have hb0 : Below w.heap.size w (w.alloc (Obj.cells #[Value.slice b n c2] 34)) := (Below.refl _ _).alloc (Nat.le_refl _) _
  by_cases hrange : 1 ≤ n ∧ n ≤ 400
  case neg =>
    have hR : widthsR ds (xs.map Tg.ct) = [] := by
      unfold widthsR
      rw [if_neg]
      simp [hn]
      omega
    rw [hR]
    have B0 := kide hb0
    clear hb0 hr hs hn hG hR
    by_cases h1 : n < 1
    · clear hrange
      go_enter Tryz.func89, Tryz.ntmps89
      go_wp2_with fail
      go_ret
      exact RetI.nil _ _ B0.out
    · have h2 : 400 < n := by omega
      clear hrange
      go_enter Tryz.func89, Tryz.ntmps89
      go_wp2_with fail
      go_ret
      exact RetI.nil _ _ B0.out
  obtain ⟨hn1, hn2⟩ := hrange
  have hR : widthsR ds (xs.map Tg.ct) = match goR ds [] (xs.map Tg.ct) with
      | none => []
      | some wide => if zeroR (cntA (xs.map Tg.ct)) (n - 1) = true then [] else wide := by
    unfold widthsR
    rw [if_pos (by simp [hD, hn]; omega)]
    cases goR ds [] (xs.map Tg.ct) with
    | none => rfl
    | some wide =>
      simp only [List.length_map, hn]
      rw [zeroR_used]
      cases (List.range (n - 1)).all (usedR (xs.map Tg.ct)) <;> simp
  rw [hR]
  have hmk := fun kl kc w => run_make_row' (P := Tryz.prog) 28 2 (.int .i64 0) 8 Tryz.underlying28 Tryz.infoI64 rfl kl kc n (by omega) (by omega) w
  clear hR hr hs hn hG hb0 hD
  generalize hZ : (match goR ds [] (xs.map Tg.ct) with
      | none => []
      | some wide => if zeroR (cntA (xs.map Tg.ct)) (n - 1) = true then [] else wide : List Int) = Z
  have HZ := kide hZ
  clear hZ
  go_enter Tryz.func89, Tryz.ntmps89
  go_wp2_with fail
  go_loopw [32] (fun i wr => ∃ (k : Nat) (wide : List Int), k ≤ n ∧ i = .int .i64 k ∧ wide.length = k ∧ (∀ x ∈ wide, 1 ≤ x ∧ x ≤ 4096) ∧ goR ds wide ((xs.map Tg.ct).drop k) = goR ds [] (xs.map Tg.ct) ∧ Ww w b n c2 wide (cntA ((xs.map Tg.ct).take k)) wr) (fun i _ => n - (intOf i).toNat)
  case atStart =>
    have hM : (.cells (madeCells #[Value.int .i64 0] n) 2 : Obj) = .cells (i64s (List.replicate n 0)) 2 (0, 0) := by rw [i64s_made]
    have e1 := heap_alloc_new w (.cells #[Value.slice b n c2] 34)
    have e2 := heap_alloc_new (w.alloc (.cells #[Value.slice b n c2] 34)) (.cells (madeCells #[Value.int .i64 0] n) 2)
    have e3 := heap_alloc_new ((w.alloc (.cells #[Value.slice b n c2] 34)).alloc (.cells (madeCells #[Value.int .i64 0] n) 2)) (.cells (madeCells #[Value.int .i64 0] n) 2)
    have f1 : Below (w.heap.size + 1) (w.alloc (.cells #[Value.slice b n c2] 34)) (((w.alloc (.cells #[Value.slice b n c2] 34)).alloc (.cells (madeCells #[Value.int .i64 0] n) 2)).alloc (.cells (madeCells #[Value.int .i64 0] n) 2)) := ((Below.refl _ _).alloc (by simp) _).alloc (by simp) _
    have f2 : Below (w.heap.size + 2) ((w.alloc (.cells #[Value.slice b n c2] 34)).alloc (.cells (madeCells #[Value.int .i64 0] n) 2)) (((w.alloc (.cells #[Value.slice b n c2] 34)).alloc (.cells (madeCells #[Value.int .i64 0] n) 2)).alloc (.cells (madeCells #[Value.int .i64 0] n) 2)) := (Below.refl _ _).alloc (by simp) _
    simp only [World.size_alloc] at e2 e3
    refine ⟨0, [], Nat.zero_le _, rfl, rfl, by simp, rfl, ⟨?_, ?_, ?_, ?_⟩⟩
    · rw [f1.block _ (by omega)]; exact e1
    · unfold OwnI
      rw [f2.block _ (by omega), e2, hM]
      rfl
    · rw [hM] at e3
      refine ⟨fun i => ((i64s (List.replicate n 0))[i]?).getD undef, ?_, fun j hj => ?_⟩
      · have h := krow e3
        rw [i64s_size, List.length_replicate, ← hM] at h
        exact h
      · simp [i64s_get, hj, cntA]
    · exact (((Below.refl _ _).alloc (Nat.le_refl _) _).alloc (by simp) _).alloc (by simp; omega) _
  case round =>
    obtain ⟨k, wide, hk, rfl, hwl, hwb, hgo, hst⟩ := hrel
    clear hmk
    have HWL := kide hwl
    have HWB := kide hwb
    have HGO := kide hgo
    have cB := hst.cell
    by_cases hlt : k < n
    · obtain ⟨-, h | ⟨b1, o1, rfl, hc⟩⟩ := HRT.out wr hst.bel
      · have := HN.out; subst h; simp at this; omega
      obtain ⟨⟨t, wa, wc, ka, kc⟩, hx⟩ : ∃ x, xs[k]? = some x := ⟨_, List.getElem?_eq_getElem (by rw [HN.out]; exact hlt)⟩
      obtain ⟨⟨p0, p1, p2, p3, p4, p5, p6⟩, pr, pk, -⟩ := hc k _ hx
      simp only [Tg.hd] at p0 p1 p2 p3 p4 p5 p6 pr pk
      have hki : (k : Int) < (n : Int) := by omega
      have hmx : (xs.map Tg.ct)[k]? = some t := by rw [List.getElem?_map, hx]; rfl
      have HMX := kide hmx
      have HX := kide hx
      have HST := kide hst
      have hws := pr.1
      have hks := pk.1
      have HPR := kide (fun u (hu : Below wr.heap.size wr u) => pr.later hu)
      have HPK := kide (fun u (hu : Below wr.heap.size wr u) => pk.later hu)
      have hbx : Below wr.heap.size wr (wr.alloc (Obj.cells #[Value.int .i64 t.op, Value.int .i64 t.vr, Value.int .i64 t.a, Value.int .i64 t.b, Value.int .i64 t.bw, Value.slice wa t.ws.length wc, Value.slice ka t.ks.length kc] 63)) := (Below.refl _ _).alloc (Nat.le_refl _) _
      have HFO := kide (fun u (hu : Below wr.heap.size wr u) => fieldsOk_any t wa ka wc kc u (HG.out u (hst.later hu).bel) hws hks)
      have HBX := kide hbx
      have HNONE : Hid (stepR ds wide t = none → Z = []) := fun h => by
        rw [← HZ.out, ← hgo, goR_none hmx h]
      clear hc hx hmx hgo hst hwb hwl pr pk hbx
      cases hfl : fldR t with
      | false =>
        rw [hfl] at HFO
        have HF := kide (HNONE.out (step_not HWB.out (.inl hfl)))
        obtain ⟨op, vr, A, B, bw, ws, ks⟩ := t
        simp only [] at p0 p1 p2 p3 p4 p5 p6 HFO HBX hws hks
        clear hfl HNONE
        have t0 : (wr.alloc (Obj.cells #[Value.int .i64 op, Value.int .i64 vr, Value.int .i64 A, Value.int .i64 B, Value.int .i64 bw, Value.slice wa ws.length wc, Value.slice ka ks.length kc] 63)).cell? ⟨wr.heap.size, 0, none⟩ = some (Value.int .i64 op) := by simp [go_sem]
        have t1 : (wr.alloc (Obj.cells #[Value.int .i64 op, Value.int .i64 vr, Value.int .i64 A, Value.int .i64 B, Value.int .i64 bw, Value.slice wa ws.length wc, Value.slice ka ks.length kc] 63)).cell? ⟨wr.heap.size, 1, none⟩ = some (Value.int .i64 vr) := by simp [go_sem]
        have t2 : (wr.alloc (Obj.cells #[Value.int .i64 op, Value.int .i64 vr, Value.int .i64 A, Value.int .i64 B, Value.int .i64 bw, Value.slice wa ws.length wc, Value.slice ka ks.length kc] 63)).cell? ⟨wr.heap.size, 2, none⟩ = some (Value.int .i64 A) := by simp [go_sem]
        have t3 : (wr.alloc (Obj.cells #[Value.int .i64 op, Value.int .i64 vr, Value.int .i64 A, Value.int .i64 B, Value.int .i64 bw, Value.slice wa ws.length wc, Value.slice ka ks.length kc] 63)).cell? ⟨wr.heap.size, 3, none⟩ = some (Value.int .i64 B) := by simp [go_sem]
        have t4 : (wr.alloc (Obj.cells #[Value.int .i64 op, Value.int .i64 vr, Value.int .i64 A, Value.int .i64 B, Value.int .i64 bw, Value.slice wa ws.length wc, Value.slice ka ks.length kc] 63)).cell? ⟨wr.heap.size, 4, none⟩ = some (Value.int .i64 bw) := by simp [go_sem]
        have t5 : (wr.alloc (Obj.cells #[Value.int .i64 op, Value.int .i64 vr, Value.int .i64 A, Value.int .i64 B, Value.int .i64 bw, Value.slice wa ws.length wc, Value.slice ka ks.length kc] 63)).cell? ⟨wr.heap.size, 5, none⟩ = some (Value.slice wa ws.length wc) := by simp [go_sem]
        have t6 : (wr.alloc (Obj.cells #[Value.int .i64 op, Value.int .i64 vr, Value.int .i64 A, Value.int .i64 B, Value.int .i64 bw, Value.slice wa ws.length wc, Value.slice ka ks.length kc] 63)).cell? ⟨wr.heap.size, 6, none⟩ = some (Value.slice ka ks.length kc) := by simp [go_sem]
        have lW : wr.heap.size < (wr.alloc (Obj.cells #[Value.int .i64 op, Value.int .i64 vr, Value.int .i64 A, Value.int .i64 B, Value.int .i64 bw, Value.slice wa ws.length wc, Value.slice ka ks.length kc] 63)).heap.size := by simp
        go_wp2_with fail
        generalize wr.alloc (Obj.cells #[Value.int .i64 op, Value.int .i64 vr, Value.int .i64 A, Value.int .i64 B, Value.int .i64 bw, Value.slice wa ws.length wc, Value.slice ka ks.length kc] 63) = W at *
        clear p0 p1 p2 p3 p4 p5 p6
        refine wp_region_any (by kernel_rfl) ?_
        try (change wpAny _ _ _ _ _ _ _ (World.drew _))
        refine wpAny_ready (rs := [0]) (by kernel_rfl) (by simp) (AllReady.cons rfl (fun K hK => ?_) AllReady.nil)
        go_simp
        refine hK _ _ ?_
        clear hK K
        refine wpAny_ready (rs := [1]) (by kernel_rfl) (by simp) (AllReady.cons rfl (fun K hK => ?_) AllReady.nil)
        go_simp
        go_wp2_with (go_at_call 120; refine Calls.mono (HFO.out _ ?_) ?_; exact HBX.out.drew; rintro e w2 ⟨rfl, hb2⟩; replace hb2 := kundrew hb2)
        refine wpAny_take (i := 2) (v := Value.bool true) rfl (by kernel_rfl) (by kernel_rfl) (by kernel_rfl) (fun _ _ _ h => h) (Or.inl ⟨by rfl, fun w => by go_simp⟩) ?_
        try go_simp
        refine wpAny_take (i := 3) (v := Value.bool true) rfl (by kernel_rfl) (by kernel_rfl) (by kernel_rfl) (fun _ _ _ h => h) (Or.inl ⟨by rfl, fun w => by go_simp⟩) ?_
        try go_simp
        refine wpAny_take (i := 4) (v := undef) rfl (by kernel_rfl) (by kernel_rfl) (by kernel_rfl) (fun _ _ _ h => h) (Or.inr ⟨by rfl, rfl⟩) ?_
        try go_simp
        refine wpAny_take (i := 5) (v := undef) rfl (by kernel_rfl) (by kernel_rfl) (by kernel_rfl) (fun _ _ _ h => h) (Or.inr ⟨by rfl, rfl⟩) ?_
        try go_simp
        refine wpAny_take (i := 6) (v := undef) rfl (by kernel_rfl) (by kernel_rfl) (by kernel_rfl) (fun _ _ _ h => h) (Or.inr ⟨by rfl, rfl⟩) ?_
        try go_simp
        refine wpAny_take (i := 7) (v := undef) rfl (by kernel_rfl) (by kernel_rfl) (by kernel_rfl) (fun _ _ _ h => h) (Or.inr ⟨by rfl, rfl⟩) ?_
        try go_simp
        refine wpAny_take (i := 8) (v := undef) rfl (by kernel_rfl) (by kernel_rfl) (by kernel_rfl) (fun _ _ _ h => h) (Or.inr ⟨by rfl, rfl⟩) ?_
        try go_simp
        refine wpAny_take (i := 9) (v := undef) rfl (by kernel_rfl) (by kernel_rfl) (by kernel_rfl) (fun _ _ _ h => h) (Or.inr ⟨by rfl, rfl⟩) ?_
        try go_simp
        refine wpAny_take (i := 10) (v := undef) rfl (by kernel_rfl) (by kernel_rfl) (by kernel_rfl) (fun _ _ _ h => h) (Or.inr ⟨by rfl, rfl⟩) ?_
        try go_simp
        refine wpAny_take (i := 11) (v := Value.bool true) rfl (by kernel_rfl) (by kernel_rfl) (by kernel_rfl) (fun _ _ _ h => h) (Or.inl ⟨by rfl, fun w => by go_simp⟩) ?_
        try go_simp
        refine wpAny_done (by kernel_rfl) ?_ _
        go_wp2_with fail
        go_ret
        have B2 := HBX.out.trans (hb2.mono HBX.out.size)
        rw [HF.out]
        exact RetI.nil _ _ (HST.out.later B2).bel
      | true =>
        rw [hfl] at HFO
        have HCK : Hid (∀ u, Below wr.heap.size wr u → Calls Tryz.prog 121 #[.slice (some ⟨w.heap.size + 2, 0, none⟩) k n, .slice ka t.ks.length kc] u fun e w' => e = .returned (.bool (kidsR k t.ks)) ∧ (kidsR k t.ks = true → Ww w (some ⟨b1, o1, none⟩) n c2 wide (cntA ((xs.map Tg.ct).take (k + 1))) w') ∧ u.grownBy w' (some (w.heap.size + 2))) := fun u hu => by
          have hW := HST.out.later hu
          have hq : (fun j => cntA ((xs.map Tg.ct).take k) j + cntR t.ks j) = cntA ((xs.map Tg.ct).take (k + 1)) := funext fun j => (cntA_take HMX.out j).symm
          by_cases h0 : t.ks.length = 0
          · have hk0 : t.ks = [] := List.eq_nil_of_length_eq_zero h0
            rw [h0]
            refine (countKids_nil _ k n kc ka u).mono ?_
            rintro e w' ⟨rfl, rfl⟩
            refine ⟨by rw [hk0]; rfl, fun _ => ?_, ⟨rfl, rfl, rfl, Nat.le_refl _, fun _ _ _ => rfl⟩⟩
            have e0 : cntA ((xs.map Tg.ct).take (k + 1)) = cntA ((xs.map Tg.ct).take k) := by
              rw [← hq, hk0]
              simp [cntR]
            rw [e0]
            exact hW
          · refine (countKids_any (w.heap.size + 2) n k n kc (1048576 * 400) (cntA ((xs.map Tg.ct).take k)) ka t.ks u hW.cnt (by omega) (by omega) (fun j => ?_) (by omega) (HPK.out u hu) (fun b' o' sp hb' => ?_)).mono ?_
            · refine Nat.le_trans (cntA_le (ns := (xs.map Tg.ct).take k) (fun m hm => ?_) j) ?_
              · obtain ⟨y, hy, rfl⟩ := List.mem_map.1 (List.mem_of_mem_take hm)
                obtain ⟨i, hi, he⟩ := List.mem_iff_getElem.1 hy
                obtain ⟨-, h | ⟨b2, o2, -, hc2⟩⟩ := HT0.out
                · subst h; simp at hi
                obtain ⟨-, -, r, -⟩ := hc2 i y (by rw [List.getElem?_eq_getElem hi, he])
                exact r.1
              · simp
                omega
            · obtain ⟨-, h | ⟨b2, o2, -, hc2⟩⟩ := HT0.out
              · have := HN.out; subst h; simp at this; omega
              obtain ⟨-, -, ⟨-, -, r⟩, -⟩ := hc2 k _ HX.out
              rcases r with r | ⟨b3, o3, he, hcc⟩
              · simp only [] at r; rw [r] at h0; simp at h0
              · simp only [] at he hcc
                rw [hb'] at he
                cases he
                have := block_lt_of_cell (hcc 0 (by omega))
                simp at this
                omega
            · rintro e w' ⟨rfl, h1, h2⟩
              refine ⟨rfl, fun h => ?_, h2⟩
              have := h1 h
              rw [hq] at this
              exact hW.counted h2 this
        have HNW := kide (fun u (hu : Below w.heap.size w u) (hw : Rd u wa t.ws) (hk' : RdI u ka t.ks) (hy : RdI u (some ⟨w.heap.size + 1, 0, none⟩) wide) (hkr : kidsR wide.length t.ks = true) => nodeWidth_any a c ds t wa ka (some ⟨w.heap.size + 1, 0, none⟩) wc kc n wide u (HRD.out u hu) hw hk' hy (HG.out u hu) HWB.out hkr hfl)
        have HBOTH := kide (fun (hkr : kidsR wide.length t.ks = true) => step_both (ds := ds) HWB.out hfl hkr)
        cases hkd : kidsR k t.ks with
        | false =>
          rw [hkd] at HCK
          have HF := kide (HNONE.out (step_not HWB.out (.inr (by rw [HWL.out]; exact hkd))))
          obtain ⟨op, vr, A, B, bw, ws, ks⟩ := t
          simp only [] at p0 p1 p2 p3 p4 p5 p6 HFO HBX hws hks HCK
          clear hfl hkd HNONE HNW HBOTH
          have t0 : (wr.alloc (Obj.cells #[Value.int .i64 op, Value.int .i64 vr, Value.int .i64 A, Value.int .i64 B, Value.int .i64 bw, Value.slice wa ws.length wc, Value.slice ka ks.length kc] 63)).cell? ⟨wr.heap.size, 0, none⟩ = some (Value.int .i64 op) := by simp [go_sem]
          have t1 : (wr.alloc (Obj.cells #[Value.int .i64 op, Value.int .i64 vr, Value.int .i64 A, Value.int .i64 B, Value.int .i64 bw, Value.slice wa ws.length wc, Value.slice ka ks.length kc] 63)).cell? ⟨wr.heap.size, 1, none⟩ = some (Value.int .i64 vr) := by simp [go_sem]
          have t2 : (wr.alloc (Obj.cells #[Value.int .i64 op, Value.int .i64 vr, Value.int .i64 A, Value.int .i64 B, Value.int .i64 bw, Value.slice wa ws.length wc, Value.slice ka ks.length kc] 63)).cell? ⟨wr.heap.size, 2, none⟩ = some (Value.int .i64 A) := by simp [go_sem]
          have t3 : (wr.alloc (Obj.cells #[Value.int .i64 op, Value.int .i64 vr, Value.int .i64 A, Value.int .i64 B, Value.int .i64 bw, Value.slice wa ws.length wc, Value.slice ka ks.length kc] 63)).cell? ⟨wr.heap.size, 3, none⟩ = some (Value.int .i64 B) := by simp [go_sem]
          have t4 : (wr.alloc (Obj.cells #[Value.int .i64 op, Value.int .i64 vr, Value.int .i64 A, Value.int .i64 B, Value.int .i64 bw, Value.slice wa ws.length wc, Value.slice ka ks.length kc] 63)).cell? ⟨wr.heap.size, 4, none⟩ = some (Value.int .i64 bw) := by simp [go_sem]
          have t5 : (wr.alloc (Obj.cells #[Value.int .i64 op, Value.int .i64 vr, Value.int .i64 A, Value.int .i64 B, Value.int .i64 bw, Value.slice wa ws.length wc, Value.slice ka ks.length kc] 63)).cell? ⟨wr.heap.size, 5, none⟩ = some (Value.slice wa ws.length wc) := by simp [go_sem]
          have t6 : (wr.alloc (Obj.cells #[Value.int .i64 op, Value.int .i64 vr, Value.int .i64 A, Value.int .i64 B, Value.int .i64 bw, Value.slice wa ws.length wc, Value.slice ka ks.length kc] 63)).cell? ⟨wr.heap.size, 6, none⟩ = some (Value.slice ka ks.length kc) := by simp [go_sem]
          have lW : wr.heap.size < (wr.alloc (Obj.cells #[Value.int .i64 op, Value.int .i64 vr, Value.int .i64 A, Value.int .i64 B, Value.int .i64 bw, Value.slice wa ws.length wc, Value.slice ka ks.length kc] 63)).heap.size := by simp
          go_wp2_with fail
          generalize wr.alloc (Obj.cells #[Value.int .i64 op, Value.int .i64 vr, Value.int .i64 A, Value.int .i64 B, Value.int .i64 bw, Value.slice wa ws.length wc, Value.slice ka ks.length kc] 63) = W at *
          clear p0 p1 p2 p3 p4 p5 p6
          refine wp_region_any (by kernel_rfl) ?_
          try (change wpAny _ _ _ _ _ _ _ (World.drew _))
          refine wpAny_ready (rs := [0]) (by kernel_rfl) (by simp) (AllReady.cons rfl (fun K hK => ?_) AllReady.nil)
          go_simp
          refine hK _ _ ?_
          clear hK K
          refine wpAny_ready (rs := [1]) (by kernel_rfl) (by simp) (AllReady.cons rfl (fun K hK => ?_) AllReady.nil)
          go_simp
          go_wp2_with (go_at_call 120; refine Calls.mono (HFO.out _ ?_) ?_; exact HBX.out.drew; rintro e w2 ⟨rfl, hb2⟩; replace hb2 := kundrew hb2; have u6 := (kcell hb2 wr.heap.size 6 lW).trans t6; have BW2 := kide (HBX.out.trans (hb2.mono HBX.out.size)))
          refine wpAny_take (i := 2) (v := Value.bool false) rfl (by kernel_rfl) (by kernel_rfl) (by kernel_rfl) (fun _ _ _ h => h) (Or.inl ⟨by rfl, fun w => by go_simp⟩) ?_
          try go_simp
          refine wpAny_take (i := 3) (v := Value.bool false) rfl (by kernel_rfl) (by kernel_rfl) (by kernel_rfl) (fun _ _ _ h => h) (Or.inl ⟨by rfl, fun w => by go_simp⟩) ?_
          try go_simp
          refine wpAny_take (i := 4) (v := Value.slice (some ⟨w.heap.size + 1 + 1, 0, none⟩) n n) rfl (by kernel_rfl) (by kernel_rfl) (by kernel_rfl) (fun _ _ _ h => h) (Or.inl ⟨by rfl, fun w => by go_simp⟩) ?_
          try go_simp
          refine wpAny_take (i := 5) (v := Value.int .i64 (k : Int)) rfl (by kernel_rfl) (by kernel_rfl) (by kernel_rfl) (fun _ _ _ h => h) (Or.inl ⟨by rfl, fun w => by go_simp⟩) ?_
          try go_simp
          refine wpAny_take (i := 6) (v := Value.slice (some ⟨w.heap.size + 1 + 1, 0, none⟩) k n) rfl (by kernel_rfl) (by kernel_rfl) (by kernel_rfl) (fun _ _ _ h => h) (Or.inl ⟨by rfl, fun w => by go_simp⟩) ?_
          try go_simp
          refine wpAny_take (i := 7) (v := Value.pointer (some ⟨wr.heap.size, 6, none⟩)) rfl (by kernel_rfl) (by kernel_rfl) (by kernel_rfl) (fun _ _ _ h => h) (Or.inl ⟨by rfl, fun w => by go_simp⟩) ?_
          try go_simp
          refine wpAny_ready (rs := [8]) (by kernel_rfl) (by simp) (AllReady.cons rfl (fun K hK => ?_) AllReady.nil)
          go_simp
          refine hK _ _ ?_
          clear hK K
          refine wpAny_ready (rs := [9]) (by kernel_rfl) (by simp) (AllReady.cons rfl (fun K hK => ?_) AllReady.nil)
          go_simp
          go_wp2_with (go_at_call 121; refine Calls.mono (HCK.out w2 BW2.out) ?_; rintro e w3 ⟨rfl, hw3, hg3⟩)
          refine wpAny_take (i := 10) (v := Value.bool true) rfl (by kernel_rfl) (by kernel_rfl) (by kernel_rfl) (fun _ _ _ h => h) (Or.inl ⟨by rfl, fun w => by go_simp⟩) ?_
          try go_simp
          refine wpAny_take (i := 11) (v := Value.bool true) rfl (by kernel_rfl) (by kernel_rfl) (by kernel_rfl) (fun _ _ _ h => h) (Or.inl ⟨by rfl, fun w => by go_simp⟩) ?_
          try go_simp
          refine wpAny_done (by kernel_rfl) ?_ _
          go_wp2_with fail
          go_ret
          rw [HF.out]
          refine RetI.nil _ _ ?_
          have B2 := (HST.out.later BW2.out).bel
          exact ⟨hg3.os.trans B2.os, hg3.tape.trans B2.tape, hg3.output.trans B2.output, Nat.le_trans B2.size hg3.size, fun k hk => (hg3.block k (Nat.lt_of_lt_of_le hk B2.size) (by simp; omega)).trans (B2.block k hk)⟩
        | true =>
          rw [hkd] at HCK
          have HBO := kide (HBOTH.out (by rw [HWL.out]; exact hkd))
          have HNWK := kide (fun u hu hw hk' hy => HNW.out u hu hw hk' hy (by rw [HWL.out]; exact hkd))
          have hPk : w.heap.size + 2 < wr.heap.size := by
            obtain ⟨f, ⟨cc, hh, -⟩, -⟩ := HST.out.cnt
            exact lt_of_block hh
          have HMK := kide (fun (v : Int) (h : stepR ds wide t = some v) => goR_some HMX.out h)
          have HRG := kide (fun (v : Int) (h : stepR ds wide t = some v) => stepR_range h)
          have HRX : Hid (∀ u, Below w.heap.size w u → Rd u wa t.ws ∧ RdI u ka t.ks) := fun u hu => by
            obtain ⟨-, h | ⟨b2, o2, -, hc2⟩⟩ := HRT.out u hu
            · have := HN.out; subst h; simp at this; omega
            obtain ⟨-, r1, r2, -⟩ := hc2 k _ HX.out
            exact ⟨r1, r2⟩
          generalize stepR ds wide t = SR at *
          generalize nodR ds t (kwR wide t.ks) = V at *
          obtain ⟨op, vr, A, B, bw, ws, ks⟩ := t
          simp only [] at p0 p1 p2 p3 p4 p5 p6 HFO HBX hws hks HCK HNWK HPR HPK HRX
          clear hfl hkd HNW HBOTH
          have t0 : (wr.alloc (Obj.cells #[Value.int .i64 op, Value.int .i64 vr, Value.int .i64 A, Value.int .i64 B, Value.int .i64 bw, Value.slice wa ws.length wc, Value.slice ka ks.length kc] 63)).cell? ⟨wr.heap.size, 0, none⟩ = some (Value.int .i64 op) := by simp [go_sem]
          have t1 : (wr.alloc (Obj.cells #[Value.int .i64 op, Value.int .i64 vr, Value.int .i64 A, Value.int .i64 B, Value.int .i64 bw, Value.slice wa ws.length wc, Value.slice ka ks.length kc] 63)).cell? ⟨wr.heap.size, 1, none⟩ = some (Value.int .i64 vr) := by simp [go_sem]
          have t2 : (wr.alloc (Obj.cells #[Value.int .i64 op, Value.int .i64 vr, Value.int .i64 A, Value.int .i64 B, Value.int .i64 bw, Value.slice wa ws.length wc, Value.slice ka ks.length kc] 63)).cell? ⟨wr.heap.size, 2, none⟩ = some (Value.int .i64 A) := by simp [go_sem]
          have t3 : (wr.alloc (Obj.cells #[Value.int .i64 op, Value.int .i64 vr, Value.int .i64 A, Value.int .i64 B, Value.int .i64 bw, Value.slice wa ws.length wc, Value.slice ka ks.length kc] 63)).cell? ⟨wr.heap.size, 3, none⟩ = some (Value.int .i64 B) := by simp [go_sem]
          have t4 : (wr.alloc (Obj.cells #[Value.int .i64 op, Value.int .i64 vr, Value.int .i64 A, Value.int .i64 B, Value.int .i64 bw, Value.slice wa ws.length wc, Value.slice ka ks.length kc] 63)).cell? ⟨wr.heap.size, 4, none⟩ = some (Value.int .i64 bw) := by simp [go_sem]
          have t5 : (wr.alloc (Obj.cells #[Value.int .i64 op, Value.int .i64 vr, Value.int .i64 A, Value.int .i64 B, Value.int .i64 bw, Value.slice wa ws.length wc, Value.slice ka ks.length kc] 63)).cell? ⟨wr.heap.size, 5, none⟩ = some (Value.slice wa ws.length wc) := by simp [go_sem]
          have t6 : (wr.alloc (Obj.cells #[Value.int .i64 op, Value.int .i64 vr, Value.int .i64 A, Value.int .i64 B, Value.int .i64 bw, Value.slice wa ws.length wc, Value.slice ka ks.length kc] 63)).cell? ⟨wr.heap.size, 6, none⟩ = some (Value.slice ka ks.length kc) := by simp [go_sem]
          have lW : wr.heap.size < (wr.alloc (Obj.cells #[Value.int .i64 op, Value.int .i64 vr, Value.int .i64 A, Value.int .i64 B, Value.int .i64 bw, Value.slice wa ws.length wc, Value.slice ka ks.length kc] 63)).heap.size := by simp
          go_wp2_with fail
          generalize wr.alloc (Obj.cells #[Value.int .i64 op, Value.int .i64 vr, Value.int .i64 A, Value.int .i64 B, Value.int .i64 bw, Value.slice wa ws.length wc, Value.slice ka ks.length kc] 63) = W at *
          clear p0 p1 p2 p3 p4 p5 p6
          refine wp_region_any (by kernel_rfl) ?_
          try (change wpAny _ _ _ _ _ _ _ (World.drew _))
          refine wpAny_ready (rs := [0]) (by kernel_rfl) (by simp) (AllReady.cons rfl (fun K hK => ?_) AllReady.nil)
          go_simp
          refine hK _ _ ?_
          clear hK K
          refine wpAny_ready (rs := [1]) (by kernel_rfl) (by simp) (AllReady.cons rfl (fun K hK => ?_) AllReady.nil)
          go_simp
          go_wp2_with (go_at_call 120; refine Calls.mono (HFO.out _ ?_) ?_; exact HBX.out.drew; rintro e w2 ⟨rfl, hb2⟩; replace hb2 := kundrew hb2; have u6 := (kcell hb2 wr.heap.size 6 lW).trans t6; have BW2 := kide (HBX.out.trans (hb2.mono HBX.out.size)))
          refine wpAny_take (i := 2) (v := Value.bool false) rfl (by kernel_rfl) (by kernel_rfl) (by kernel_rfl) (fun _ _ _ h => h) (Or.inl ⟨by rfl, fun w => by go_simp⟩) ?_
          try go_simp
          refine wpAny_take (i := 3) (v := Value.bool false) rfl (by kernel_rfl) (by kernel_rfl) (by kernel_rfl) (fun _ _ _ h => h) (Or.inl ⟨by rfl, fun w => by go_simp⟩) ?_
          try go_simp
          refine wpAny_take (i := 4) (v := Value.slice (some ⟨w.heap.size + 1 + 1, 0, none⟩) n n) rfl (by kernel_rfl) (by kernel_rfl) (by kernel_rfl) (fun _ _ _ h => h) (Or.inl ⟨by rfl, fun w => by go_simp⟩) ?_
          try go_simp
          refine wpAny_take (i := 5) (v := Value.int .i64 (k : Int)) rfl (by kernel_rfl) (by kernel_rfl) (by kernel_rfl) (fun _ _ _ h => h) (Or.inl ⟨by rfl, fun w => by go_simp⟩) ?_
          try go_simp
          refine wpAny_take (i := 6) (v := Value.slice (some ⟨w.heap.size + 1 + 1, 0, none⟩) k n) rfl (by kernel_rfl) (by kernel_rfl) (by kernel_rfl) (fun _ _ _ h => h) (Or.inl ⟨by rfl, fun w => by go_simp⟩) ?_
          try go_simp
          refine wpAny_take (i := 7) (v := Value.pointer (some ⟨wr.heap.size, 6, none⟩)) rfl (by kernel_rfl) (by kernel_rfl) (by kernel_rfl) (fun _ _ _ h => h) (Or.inl ⟨by rfl, fun w => by go_simp⟩) ?_
          try go_simp
          refine wpAny_ready (rs := [8]) (by kernel_rfl) (by simp) (AllReady.cons rfl (fun K hK => ?_) AllReady.nil)
          go_simp
          refine hK _ _ ?_
          clear hK K
          refine wpAny_ready (rs := [9]) (by kernel_rfl) (by simp) (AllReady.cons rfl (fun K hK => ?_) AllReady.nil)
          go_simp
          go_wp2_with (go_at_call 121; refine Calls.mono (HCK.out w2 BW2.out) ?_; rintro e w3 ⟨rfl, hw3, hg3⟩)
          refine wpAny_take (i := 10) (v := Value.bool false) rfl (by kernel_rfl) (by kernel_rfl) (by kernel_rfl) (fun _ _ _ h => h) (Or.inl ⟨by rfl, fun w => by go_simp⟩) ?_
          try go_simp
          refine wpAny_take (i := 11) (v := Value.bool false) rfl (by kernel_rfl) (by kernel_rfl) (by kernel_rfl) (fun _ _ _ h => h) (Or.inl ⟨by rfl, fun w => by go_simp⟩) ?_
          try go_simp
          refine wpAny_done (by kernel_rfl) ?_ _
          have W3 := hw3 trivial
          have lw2 : wr.heap.size < w2.heap.size := Nat.lt_of_lt_of_le lW hb2.size
          have HB3 := kide (hg3.block wr.heap.size lw2 (by simp; omega))
          have y0 := (World.cell?_of_block (w := w2) (w' := w3) (a := ⟨wr.heap.size, 0, none⟩) HB3.out).trans ((kcell hb2 wr.heap.size 0 lW).trans t0)
          have y1 := (World.cell?_of_block (w := w2) (w' := w3) (a := ⟨wr.heap.size, 1, none⟩) HB3.out).trans ((kcell hb2 wr.heap.size 1 lW).trans t1)
          have y2 := (World.cell?_of_block (w := w2) (w' := w3) (a := ⟨wr.heap.size, 2, none⟩) HB3.out).trans ((kcell hb2 wr.heap.size 2 lW).trans t2)
          have y3 := (World.cell?_of_block (w := w2) (w' := w3) (a := ⟨wr.heap.size, 3, none⟩) HB3.out).trans ((kcell hb2 wr.heap.size 3 lW).trans t3)
          have y4 := (World.cell?_of_block (w := w2) (w' := w3) (a := ⟨wr.heap.size, 4, none⟩) HB3.out).trans ((kcell hb2 wr.heap.size 4 lW).trans t4)
          have y5 := (World.cell?_of_block (w := w2) (w' := w3) (a := ⟨wr.heap.size, 5, none⟩) HB3.out).trans ((kcell hb2 wr.heap.size 5 lW).trans t5)
          have y6 := (World.cell?_of_block (w := w2) (w' := w3) (a := ⟨wr.heap.size, 6, none⟩) HB3.out).trans ((kcell hb2 wr.heap.size 6 lW).trans t6)
          have lw3 : wr.heap.size < w3.heap.size := Nat.lt_of_lt_of_le lw2 hg3.size
          have HW3 := kide W3
          have HNWF := kide (fun u (hu : Below w3.heap.size w3 u) => HNWK.out u (HW3.out.later hu).bel (HRX.out u (HW3.out.later hu).bel).1 (HRX.out u (HW3.out.later hu).bel).2 (OwnI.first (HW3.out.later hu).row (by rw [HWL.out]; omega) (fun y hy => by have := HWB.out y hy; unfold in64; omega)))
          rw [HWL.out] at HNWF
          obtain ⟨v, cd⟩ := V
          simp only [] at HNWF HBO
          clear hw3 W3 HFO HCK HNWK t0 t1 t2 t3 t4 t5 t6 u6 hb2 hg3 HB3 HBX BW2 HPR HPK
          go_wp2_with fail
          refine wp_region_any (by kernel_rfl) ?_
          try (change wpAny _ _ _ _ _ _ _ (World.drew _))
          refine wpAny_take (i := 0) (v := Value.slice a ds.length c) rfl (by kernel_rfl) (by kernel_rfl) (by kernel_rfl) (fun _ _ _ h => h) (Or.inl ⟨by rfl, fun w => by go_simp⟩) ?_
          try go_simp
          refine wpAny_take (i := 2) (v := Value.slice (some ⟨w.heap.size + 1, 0, none⟩) n n) rfl (by kernel_rfl) (by kernel_rfl) (by kernel_rfl) (fun _ _ _ h => h) (Or.inl ⟨by rfl, fun w => by go_simp⟩) ?_
          try go_simp
          refine wpAny_take (i := 3) (v := Value.int .i64 (k : Int)) rfl (by kernel_rfl) (by kernel_rfl) (by kernel_rfl) (fun _ _ _ h => h) (Or.inl ⟨by rfl, fun w => by go_simp⟩) ?_
          try go_simp
          refine wpAny_take (i := 4) (v := Value.slice (some ⟨w.heap.size + 1, 0, none⟩) k n) rfl (by kernel_rfl) (by kernel_rfl) (by kernel_rfl) (fun _ _ _ h => h) (Or.inl ⟨by rfl, fun w => by go_simp⟩) ?_
          try go_simp
          refine wpAny_ready (rs := [1]) (by kernel_rfl) (by simp) (AllReady.cons rfl (fun K hK => ?_) AllReady.nil)
          go_simp
          refine hK _ _ ?_
          clear hK K
          refine wpAny_ready (rs := [5]) (by kernel_rfl) (by simp) (AllReady.cons rfl (fun K hK => ?_) AllReady.nil)
          go_simp
          go_wp2_with (go_at_call 122; refine Calls.mono (HNWF.out _ ?_) ?_; exact (Below.refl _ _).drew; rintro e w4 ⟨rfl, hb4⟩; replace hb4 := kundrew hb4)
          refine wpAny_take (i := 6) (v := Value.tuple #[Value.int .i64 v, Value.int .i64 cd]) rfl (by kernel_rfl) (by kernel_rfl) (by kernel_rfl) (fun _ _ _ h => h) (Or.inl ⟨by rfl, fun w => by go_simp⟩) ?_
          try go_simp
          refine wpAny_take (i := 7) (v := Value.int .i64 v) rfl (by kernel_rfl) (by kernel_rfl) (by kernel_rfl) (fun _ _ _ h => h) (Or.inl ⟨by rfl, fun w => by go_simp⟩) ?_
          try go_simp
          refine wpAny_take (i := 8) (v := Value.int .i64 cd) rfl (by kernel_rfl) (by kernel_rfl) (by kernel_rfl) (fun _ _ _ h => h) (Or.inl ⟨by rfl, fun w => by go_simp⟩) ?_
          try go_simp
          refine wpAny_take (i := 9) (v := Value.int .i64 v) rfl (by kernel_rfl) (by kernel_rfl) (by kernel_rfl) (fun _ _ _ h => h) (Or.inl ⟨by rfl, fun w => by go_simp⟩) ?_
          try go_simp
          refine wpAny_take (i := 10) (v := Value.int .i64 cd) rfl (by kernel_rfl) (by kernel_rfl) (by kernel_rfl) (fun _ _ _ h => h) (Or.inl ⟨by rfl, fun w => by go_simp⟩) ?_
          try go_simp
          refine wpAny_done (by kernel_rfl) ?_ _
          have HW4 := kide (HW3.out.later hb4)
          clear hb4 y0 y1 y2 y3 y4 y5 y6 HNWF
          by_cases hcd : cd = 0
          · subst hcd
            rw [if_pos rfl] at HBO
            have h00 : ((0 : Int) != 0) = false := by simp
            have hR4 := HW4.out.row
            have e0 := hR4.cell (i := k) (by simp [HWL.out]; omega)
            have e1 := hR4.free k
            generalize (wide ++ List.replicate (n - wide.length) 0).getD k 0 = z at e0
            clear hR4
            go_wp2_with fail
            go_roundw
            case rel =>
              have hp := HW4.out.put v (by rw [HWL.out]; exact hlt)
              rw [HWL.out] at hp
              refine ⟨k + 1, wide ++ [v], by omega, by go_num, by simp [HWL.out], ?_, ?_, hp⟩
              · intro x hx
                rcases List.mem_append.1 hx with hx | hx
                · exact HWB.out x hx
                · simp at hx
                  subst hx
                  exact HRG.out x HBO.out
              · rw [← HMK.out v HBO.out]; exact HGO.out
            case measure => simp [intOf]; omega
          · rw [if_neg hcd] at HBO
            have HF := kide (HNONE.out HBO.out)
            have h00 : (cd != 0) = true := by simp [hcd]
            clear hcd
            go_wp2_with fail
            go_ret
            rw [HF.out]
            exact RetI.nil _ _ HW4.out.bel
    · have e : k = n := by omega
      have e' := e.symm
      subst e'
      have hdr : (xs.map Tg.ct).drop n = [] := List.drop_of_length_le (by simp [HN.out])
      have htk : (xs.map Tg.ct).take n = xs.map Tg.ct := List.take_of_length_le (by simp [HN.out])
      rw [htk] at hst
      have HZ2 : Hid (Z = if zeroR (cntA (xs.map Tg.ct)) (n - 1) = true then [] else wide) := by
        show _ = _
        rw [← HZ.out, ← hgo, hdr, goR]
      have HST := kide hst
      obtain ⟨m, hm⟩ : ∃ m, n = m + 1 := ⟨n - 1, by omega⟩
      have HCO := kide (contains_any (w.heap.size + 2) n m n (cntA (xs.map Tg.ct)) wr hst.cnt (by omega) (by omega))
      rw [show n - 1 = m by omega] at HZ2
      generalize zeroR (cntA (xs.map Tg.ct)) m = Q at *
      have hkm : (n : Int) - 1 = (m : Int) := by omega
      have hkm2 : (m : Int) ≤ (n : Int) := by omega
      clear hdr htk hst hgo hwb hwl hlt e hm
      cases Q with
      | true =>
        go_wp2_with fail
        refine Calls.mono HCO.out ?_
        rintro e w2 ⟨rfl, hb2⟩
        go_wp2_with fail
        go_ret
        have hz : Z = [] := by simpa using HZ2.out
        rw [hz]
        exact RetI.nil _ _ (HST.out.later hb2).bel
      | false =>
        go_wp2_with fail
        refine Calls.mono HCO.out ?_
        rintro e w2 ⟨rfl, hb2⟩
        go_wp2_with fail
        go_ret
        have hW := HST.out.later hb2
        have hz : Z = wide := by simpa using HZ2.out
        rw [hz]
        refine ⟨some ⟨w.heap.size + 1, 0, none⟩, n, by rw [HWL.out]; rfl, OwnI.first hW.row (by rw [HWL.out]; omega) (fun y hy => by have := HWB.out y hy; unfold in64; omega), fun h => by have := HWL.out; rw [h] at this; simp at this; omega, hW.bel⟩

end Go.Proofs.YtdlmgndmfphneaaGreatDoor
