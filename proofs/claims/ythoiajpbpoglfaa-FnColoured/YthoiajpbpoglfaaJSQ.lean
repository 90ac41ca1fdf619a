/- What the program's ColourOk answers. -/
import Derived.Test.YthoiajpbpoglfaaZKAD
import Derived.Test.YthoiajpbpoglfaaJR
namespace Go.Proofs.Ythoiajpbpoglfaa
set_option linter.unusedVariables false
set_option linter.unusedSimpArgs false
open Go.RowKit

abbrev Wd := Int × List Nat
def wdAt (ws : List Wd) (i : Nat) : Wd := ws.getD i (0, [])

/-- Is a bar broken by words? -/
def brk (ws : List Wd) (b : Yc) : Bool := decide (wdAt ws b.v.toNat = if b.lo = -1 then (b.bw, b.ws) else wdAt ws b.lo.toNat)

/-- Are these words right for a graph? -/
def fitR (ks : List Int) (ws : List Wd) : Bool := (List.range ws.length).all fun i => rightB (wdAt ws i).1 (wdAt ws i).2 && decide ((wdAt ws i).1 = ks.getD i 0)

def cokR (ks : List Int) (bs : List Yc) (ws : List Wd) : Bool := graphR ks bs && decide (ws.length = ks.length) && fitR ks ws && bs.all fun b => !brk ws b

theorem fitR_iff {ks : List Int} {ws : List Wd} : fitR ks ws = true ↔ ∀ i, i < ws.length → rightB (wdAt ws i).1 (wdAt ws i).2 = true ∧ (wdAt ws i).1 = ks.getD i 0 := by
  simp [fitR, List.all_eq_true]

theorem cokR_graph {ks : List Int} {bs : List Yc} {ws : List Wd} (h : graphR ks bs = false) : cokR ks bs ws = false := by simp [cokR, h]
theorem cokR_len {ks : List Int} {bs : List Yc} {ws : List Wd} (h : ws.length ≠ ks.length) : cokR ks bs ws = false := by simp [cokR, h]
theorem cokR_fit {ks : List Int} {bs : List Yc} {ws : List Wd} {i : Nat} (hi : i < ws.length) (h : ¬ (rightB (wdAt ws i).1 (wdAt ws i).2 = true ∧ (wdAt ws i).1 = ks.getD i 0)) : cokR ks bs ws = false := by
  have : fitR ks ws = false := by
    rw [Bool.eq_false_iff]
    intro h'
    exact h (fitR_iff.1 h' i hi)
  simp [cokR, this]
theorem cokR_bar {ks : List Int} {bs : List Yc} {ws : List Wd} {k : Nat} {s : Yc} (h : bs[k]? = some s) (hb : brk ws s = true) : cokR ks bs ws = false := by
  rw [Bool.eq_false_iff]
  intro h'
  simp only [cokR, Bool.and_eq_true, decide_eq_true_eq, List.all_eq_true] at h'
  have := h'.2 _ (List.mem_of_getElem? h)
  rw [hb] at this
  cases this
theorem cokR_good {ks : List Int} {bs : List Yc} {ws : List Wd} (h1 : graphR ks bs = true) (h2 : ws.length = ks.length) (h3 : fitR ks ws = true) (h4 : ∀ (k : Nat) (s : Yc), bs[k]? = some s → brk ws s = false) : cokR ks bs ws = true := by
  simp only [cokR, Bool.and_eq_true, decide_eq_true_eq, List.all_eq_true]
  refine ⟨⟨⟨h1, h2⟩, h3⟩, fun s hs => ?_⟩
  obtain ⟨i, hi, e⟩ := List.mem_iff_getElem.1 hs
  rw [h4 i s (by rw [List.getElem?_eq_getElem hi, e])]
  rfl

theorem graphR_parts {ks : List Int} {bs : List Yc} (h : graphR ks bs = true) : ks.length ≤ 200 ∧ bs.length ≤ 1000 ∧ (∀ k : Nat, k < ks.length → 1 ≤ ks.getD k 0 ∧ ks.getD k 0 ≤ 4096) ∧ ∀ (k : Nat) (s : Yc), bs[k]? = some s → brOk ks s = true := by
  simp only [graphR, Bool.and_eq_true, decide_eq_true_eq, List.all_eq_true] at h
  refine ⟨h.1.1.1, h.1.1.2, fun k hk => ?_, fun k s hs => h.2 _ (List.mem_of_getElem? hs)⟩
  have := h.1.2 _ (List.getElem_mem hk)
  simp [List.getD, hk]
  simpa [wOk] using this

/-- What a right bar's nodes are. -/
theorem brOk_parts {ks : List Int} {s : Yc} (h : brOk ks s = true) : ∃ i : Nat, s.v = (i : Int) ∧ i < ks.length ∧ ((s.lo = -1 ∧ rightB s.bw s.ws = true ∧ s.bw = ks.getD i 0) ∨ ∃ j : Nat, s.lo = (j : Int) ∧ j < ks.length ∧ ks.getD j 0 = ks.getD i 0) := by
  simp only [brOk, Bool.and_eq_true] at h
  obtain ⟨h1, h2⟩ := h
  simp [ndOk] at h1
  refine ⟨s.v.toNat, by omega, by omega, ?_⟩
  split at h2
  · rename_i hl
    simp at h2
    exact .inl ⟨hl, h2.1, h2.2⟩
  · simp [ndOk] at h2
    refine .inr ⟨s.lo.toNat, by omega, by omega, ?_⟩
    have h3 := h2.1.1.2
    rw [List.getD_eq_getElem?_getD, List.getD_eq_getElem?_getD]
    exact h3

set_option maxHeartbeats 2000000 in
set_option maxRecDepth 100000 in
theorem implCok_any (z : Gz) (a : Option Addr) (c n : Nat) (xs : List Bw) (w : World) (hz : RdG w z) (hx : RdW w a xs) (hn : xs.length = n) :
    Calls Try.prog 22 #[z.val, .slice a n c] w fun e w' => e = .returned (.bool (cokR z.ks (z.bs.map Yg.ct) (xs.map Bw.ct))) ∧ Below w.heap.size w w' := by
  have HG := kide (fun u (hu : Below w.heap.size w u) => implGraph_any z u (hz.later hu))
  obtain ⟨a1, c1, ks, a2, c2, bs⟩ := z
  obtain ⟨z1, z2⟩ := hz
  simp only [Gz.val] at z1 z2 HG ⊢
  have hl1 := z1.1
  have hl2 := z2.1
  have hl3 := hx.1
  rw [hn] at hl3
  have HR1 := kide (fun u (hu : Below w.heap.size w u) => z1.later hu)
  have HR2 := kide (fun u (hu : Below w.heap.size w u) => z2.later hu)
  have HR3 := kide (fun u (hu : Below w.heap.size w u) => hx.later hu)
  have s0 := Bx.start w (.cells #[Value.slice a1 ks.length c1, Value.slice a2 bs.length c2] 32)
  have HN := kide hn
  clear z1 z2 hx hn
  cases hg : graphR ks (bs.map Yg.ct) with
  | false =>
    rw [cokR_graph hg]
    rw [hg] at HG
    clear hg
    go_enter Try.func22, Try.ntmps22
    go_wp2_with fail
    refine Calls.mono (HG.out _ s0.below) ?_
    rintro e w1 ⟨rfl, hb1⟩
    have s1 := s0.next hb1
    go_wp2_with fail
    go_ret
    exact ⟨rfl, s1.below⟩
  | true =>
    rw [hg] at HG
    by_cases hlen : n = ks.length
    · subst hlen
      generalize hZ : cokR ks (bs.map Yg.ct) (xs.map Bw.ct) = Z
      have HZ := kide hZ
      have HGT := kide hg
      have hne : ((ks.length : Int) != (ks.length : Int)) = false := by simp
      obtain ⟨hs1, hs2, hs3, hs4⟩ := graphR_parts hg
      have HS4 := kide hs4
      clear hZ hg hs3 hs4
      go_enter Try.func22, Try.ntmps22
      go_wp2_with fail
      refine Calls.mono (HG.out _ s0.below) ?_
      rintro e w1 ⟨rfl, hb1⟩
      have s1 := s0.next hb1
      have g0 := s1.one 0
      simp at g0
      clear hb1 s0 HG
      go_wp2_with fail
      clear hne g0
      go_loopw [23] (fun i wr => ∃ k : Nat, k ≤ ks.length ∧ i = .int .i64 k ∧ (∀ j, j < k → rightB (wdAt (xs.map Bw.ct) j).1 (wdAt (xs.map Bw.ct) j).2 = true ∧ (wdAt (xs.map Bw.ct) j).1 = ks.getD j 0) ∧ Bx w (.cells #[Value.slice a1 ks.length c1, Value.slice a2 bs.length c2] 32) wr) (fun i _ => ks.length - (intOf i).toNat)
      case atStart => exact ⟨0, Nat.zero_le _, rfl, fun j hj => by omega, s1⟩
      case round =>
        obtain ⟨k, hk, rfl, hok, s2⟩ := hrel
        by_cases hlt : k < ks.length
        · obtain ⟨-, h | ⟨b, o, rfl, hc⟩⟩ := HR3.out wr s2.below
          · have := HN.out; subst h; simp at this; omega
          obtain ⟨⟨wd, ax, cx, ws⟩, hxk⟩ : ∃ x, xs[k]? = some x := ⟨_, List.getElem?_eq_getElem (by rw [HN.out]; exact hlt)⟩
          obtain ⟨p0, p1, pr, -⟩ := hc k _ hxk
          simp only [] at p0 p1 pr
          have hki : (k : Int) < (ks.length : Int) := by omega
          obtain ⟨x, hx⟩ : ∃ x, ks.getD k 0 = x := ⟨_, rfl⟩
          have hwd : wdAt (xs.map Bw.ct) k = (wd, ws) := by simp [wdAt, List.getD, hxk, Bw.ct]
          have HBAD : Hid (¬ (rightB wd ws = true ∧ wd = x) → Z = false) := fun h => HZ.out.symm.trans (cokR_fit (i := k) (by simp [HN.out, hlt]) (by rw [hwd, hx]; exact h))
          have HGOOD : Hid (rightB wd ws = true ∧ wd = x → ∀ j, j < k + 1 → rightB (wdAt (xs.map Bw.ct) j).1 (wdAt (xs.map Bw.ct) j).2 = true ∧ (wdAt (xs.map Bw.ct) j).1 = ks.getD j 0) := fun h j hj => by
            by_cases hjk : j < k
            · exact hok j hjk
            · have : j = k := by omega
              subst this
              rw [hwd, hx]; exact h
          obtain ⟨b1, o1, rfl, R1⟩ : ∃ b1 o1, a1 = some ⟨b1, o1, none⟩ ∧ Hid (∀ u, Below w.heap.size w u → u.cell? ⟨b1, o1 + k, none⟩ = some (.int .i64 x)) := by
            obtain ⟨-, -, h | ⟨b1, o1, rfl, hc1⟩⟩ := HR1.out wr s2.below
            · subst h; simp at hlt
            · refine ⟨b1, o1, rfl, fun u hu => ?_⟩
              obtain ⟨-, -, h | ⟨b2, o2, he, hc2⟩⟩ := HR1.out u hu
              · subst h; simp at hlt
              · cases he
                rw [← hx]
                exact hc2 k hlt
          have s3 := s2.box (.cells #[Value.int .i64 wd, Value.slice ax ws.length cx] 48)
          have HOK := kide (fun u (hu : Below (wr.alloc (.cells #[Value.int .i64 wd, Value.slice ax ws.length cx] 48)).heap.size (wr.alloc (.cells #[Value.int .i64 wd, Value.slice ax ws.length cx] 48)) u) => implOk_any wd ax cx ws u ((pr.later ((Below.refl _ _).alloc (Nat.le_refl _) (.cells #[Value.int .i64 wd, Value.slice ax ws.length cx] 48))).later hu))
          clear hc hxk hwd hok hx pr s1
          cases hrt : rightB wd ws with
          | false =>
            rw [hrt] at HOK
            have HF := kide (HBAD.out (by rw [hrt]; simp))
            clear HBAD HGOOD hrt
            have t0 : (wr.alloc (.cells #[Value.int .i64 wd, Value.slice ax ws.length cx] 48)).cell? ⟨wr.heap.size, 0, none⟩ = some (Value.int .i64 wd) := by simp
            have t1 : (wr.alloc (.cells #[Value.int .i64 wd, Value.slice ax ws.length cx] 48)).cell? ⟨wr.heap.size, 1, none⟩ = some (Value.slice ax ws.length cx) := by simp
            have t4 := s3.one 0
            simp at t4
            have t5 := R1.out _ s3.below
            have lW : wr.heap.size < (wr.alloc (.cells #[Value.int .i64 wd, Value.slice ax ws.length cx] 48)).heap.size := by simp
            have lW2 : w.heap.size < (wr.alloc (.cells #[Value.int .i64 wd, Value.slice ax ws.length cx] 48)).heap.size := s3.size
            have lW3 : b1 < (wr.alloc (.cells #[Value.int .i64 wd, Value.slice ax ws.length cx] 48)).heap.size := block_lt_of_cell t5
            have HWB : Hid (Below wr.heap.size wr (wr.alloc (.cells #[Value.int .i64 wd, Value.slice ax ws.length cx] 48))) := (Below.refl _ _).alloc (Nat.le_refl _) _
            go_wp2_with fail
            generalize wr.alloc (.cells #[Value.int .i64 wd, Value.slice ax ws.length cx] 48) = W at *
            clear p0 p1
            refine wp_region_any (by kernel_rfl) ?_
            try (change wpAny _ _ _ _ _ _ _ (World.drew _))
            refine wpAny_ready (rs := [0]) (by kernel_rfl) (by simp) (AllReady.cons rfl (fun K hK => ?_) AllReady.nil)
            go_simp
            refine hK _ _ ?_
            clear hK K
            refine wpAny_ready (rs := [1]) (by kernel_rfl) (by simp) (AllReady.cons rfl (fun K hK => ?_) AllReady.nil)
            go_simp
            go_wp2_with (go_at_call 52; refine Calls.mono (HOK.out _ ?_) ?_; exact (Below.refl _ _).drew; rintro e w2 ⟨rfl, hb2⟩; replace hb2 := kundrew hb2; have s4 := Bx.next (wk := W) s3 hb2)
            refine wpAny_take (i := 2) (v := Value.bool true) rfl (by kernel_rfl) (by kernel_rfl) (by kernel_rfl) (fun _ _ _ h => h) (Or.inl ⟨by rfl, fun w => by go_simp⟩) ?_
            try go_simp
            refine wpAny_take (i := 3) (v := Value.bool true) rfl (by kernel_rfl) (by kernel_rfl) (by kernel_rfl) (fun _ _ _ h => h) (Or.inl ⟨by rfl, fun w => by go_simp⟩) ?_
            try go_simp
            refine wpAny_take (i := 4) (v := undef) rfl (by kernel_rfl) (by kernel_rfl) (by kernel_rfl) (fun _ _ _ h => h) (Or.inr ⟨by rfl, rfl⟩) ?_
            try go_simp
            refine wpAny_take (i := 5) (v := undef) rfl (by kernel_rfl) (by kernel_rfl) (by kernel_rfl) (fun _ _ _ h => h) (Or.inr ⟨by rfl, rfl⟩) ?_
            try go_simp
            refine wpAny_take (i := 6) (v := undef) rfl (by kernel_rfl) (by kernel_rfl) (by kernel_rfl) (fun _ _ _ h => h) (Or.inr ⟨by rfl, rfl⟩) ?_
            try go_simp
            refine wpAny_take (i := 7) (v := undef) rfl (by kernel_rfl) (by kernel_rfl) (by kernel_rfl) (fun _ _ _ h => h) (Or.inr ⟨by rfl, rfl⟩) ?_
            try go_simp
            refine wpAny_take (i := 8) (v := undef) rfl (by kernel_rfl) (by kernel_rfl) (by kernel_rfl) (fun _ _ _ h => h) (Or.inr ⟨by rfl, rfl⟩) ?_
            try go_simp
            refine wpAny_take (i := 9) (v := undef) rfl (by kernel_rfl) (by kernel_rfl) (by kernel_rfl) (fun _ _ _ h => h) (Or.inr ⟨by rfl, rfl⟩) ?_
            try go_simp
            refine wpAny_take (i := 10) (v := undef) rfl (by kernel_rfl) (by kernel_rfl) (by kernel_rfl) (fun _ _ _ h => h) (Or.inr ⟨by rfl, rfl⟩) ?_
            try go_simp
            refine wpAny_take (i := 11) (v := undef) rfl (by kernel_rfl) (by kernel_rfl) (by kernel_rfl) (fun _ _ _ h => h) (Or.inr ⟨by rfl, rfl⟩) ?_
            try go_simp
            refine wpAny_take (i := 12) (v := Value.bool true) rfl (by kernel_rfl) (by kernel_rfl) (by kernel_rfl) (fun _ _ _ h => h) (Or.inl ⟨by rfl, fun w => by go_simp⟩) ?_
            try go_simp
            refine wpAny_done (by kernel_rfl) ?_ _
            go_wp2_with fail
            go_ret
            exact ⟨ret_bool HF.out.symm, s4.below⟩
          | true =>
            rw [hrt] at HOK
            by_cases hwx : wd = x
            · subst hwx
              have HF := kide (HGOOD.out ⟨hrt, rfl⟩)
              have hne : (wd != wd) = false := by simp
              clear HBAD HGOOD hrt
              have t0 : (wr.alloc (.cells #[Value.int .i64 wd, Value.slice ax ws.length cx] 48)).cell? ⟨wr.heap.size, 0, none⟩ = some (Value.int .i64 wd) := by simp
              have t1 : (wr.alloc (.cells #[Value.int .i64 wd, Value.slice ax ws.length cx] 48)).cell? ⟨wr.heap.size, 1, none⟩ = some (Value.slice ax ws.length cx) := by simp
              have t4 := s3.one 0
              simp at t4
              have t5 := R1.out _ s3.below
              have lW : wr.heap.size < (wr.alloc (.cells #[Value.int .i64 wd, Value.slice ax ws.length cx] 48)).heap.size := by simp
              have lW2 : w.heap.size < (wr.alloc (.cells #[Value.int .i64 wd, Value.slice ax ws.length cx] 48)).heap.size := s3.size
              have lW3 : b1 < (wr.alloc (.cells #[Value.int .i64 wd, Value.slice ax ws.length cx] 48)).heap.size := block_lt_of_cell t5
              have HWB : Hid (Below wr.heap.size wr (wr.alloc (.cells #[Value.int .i64 wd, Value.slice ax ws.length cx] 48))) := (Below.refl _ _).alloc (Nat.le_refl _) _
              go_wp2_with fail
              generalize wr.alloc (.cells #[Value.int .i64 wd, Value.slice ax ws.length cx] 48) = W at *
              clear p0 p1
              go_region_held3 (fun u => u.cell? ⟨wr.heap.size, 0, none⟩ = some (Value.int .i64 wd) ∧ u.cell? ⟨wr.heap.size, 1, none⟩ = some (Value.slice ax ws.length cx) ∧ u.cell? ⟨w.heap.size, 0, none⟩ = some (Value.slice (some ⟨b1, o1, none⟩) ks.length c1) ∧ u.cell? ⟨b1, o1 + k, none⟩ = some (Value.int .i64 wd)) (simp [*])
                ((go_at_call 52; refine Calls.mono (HOK.out _ ?_) ?_; exact (Below.refl _ _).drew; rintro e w2 ⟨rfl, hb2⟩; replace hb2 := kundrew hb2; have s4 := Bx.next (wk := W) s3 hb2; have j0 := (kcell hb2 wr.heap.size 0 lW).trans t0; have j1 := (kcell hb2 wr.heap.size 1 lW).trans t1; have j4 := (kcell hb2 w.heap.size 0 lW2).trans t4; have j5 := (kcell hb2 b1 (o1 + k) lW3).trans t5))
              go_wp2_with fail
              go_roundw
              case rel => exact ⟨k + 1, by omega, by go_num, HF.out, s4⟩
              case measure => simp [intOf]; omega
            · have HF := kide (HBAD.out (fun h => hwx h.2))
              have hne : (wd != x) = true := by simp [hwx]
              clear HBAD HGOOD hrt hwx
              have t0 : (wr.alloc (.cells #[Value.int .i64 wd, Value.slice ax ws.length cx] 48)).cell? ⟨wr.heap.size, 0, none⟩ = some (Value.int .i64 wd) := by simp
              have t1 : (wr.alloc (.cells #[Value.int .i64 wd, Value.slice ax ws.length cx] 48)).cell? ⟨wr.heap.size, 1, none⟩ = some (Value.slice ax ws.length cx) := by simp
              have t4 := s3.one 0
              simp at t4
              have t5 := R1.out _ s3.below
              have lW : wr.heap.size < (wr.alloc (.cells #[Value.int .i64 wd, Value.slice ax ws.length cx] 48)).heap.size := by simp
              have lW2 : w.heap.size < (wr.alloc (.cells #[Value.int .i64 wd, Value.slice ax ws.length cx] 48)).heap.size := s3.size
              have lW3 : b1 < (wr.alloc (.cells #[Value.int .i64 wd, Value.slice ax ws.length cx] 48)).heap.size := block_lt_of_cell t5
              have HWB : Hid (Below wr.heap.size wr (wr.alloc (.cells #[Value.int .i64 wd, Value.slice ax ws.length cx] 48))) := (Below.refl _ _).alloc (Nat.le_refl _) _
              go_wp2_with fail
              generalize wr.alloc (.cells #[Value.int .i64 wd, Value.slice ax ws.length cx] 48) = W at *
              clear p0 p1
              go_region_held3 (fun u => u.cell? ⟨wr.heap.size, 0, none⟩ = some (Value.int .i64 wd) ∧ u.cell? ⟨wr.heap.size, 1, none⟩ = some (Value.slice ax ws.length cx) ∧ u.cell? ⟨w.heap.size, 0, none⟩ = some (Value.slice (some ⟨b1, o1, none⟩) ks.length c1) ∧ u.cell? ⟨b1, o1 + k, none⟩ = some (Value.int .i64 x)) (simp [*])
                ((go_at_call 52; refine Calls.mono (HOK.out _ ?_) ?_; exact (Below.refl _ _).drew; rintro e w2 ⟨rfl, hb2⟩; replace hb2 := kundrew hb2; have s4 := Bx.next (wk := W) s3 hb2; have j0 := (kcell hb2 wr.heap.size 0 lW).trans t0; have j1 := (kcell hb2 wr.heap.size 1 lW).trans t1; have j4 := (kcell hb2 w.heap.size 0 lW2).trans t4; have j5 := (kcell hb2 b1 (o1 + k) lW3).trans t5))
              go_wp2_with fail
              go_ret
              exact ⟨ret_bool HF.out.symm, s4.below⟩
        · have e : k = ks.length := by omega
          subst e
          have HFIT := kide ((fitR_iff (ks := ks) (ws := xs.map Bw.ct)).2 (fun i hi => hok i (by simpa [HN.out] using hi)))
          clear hok s1 hlt
          have g1 := s2.one 1
          simp at g1
          go_wp2_with fail
          obtain ⟨wo, hwo⟩ : ∃ wo, wo = wr := ⟨_, rfl⟩
          subst hwo
          go_loopw [45] (fun i wr => ∃ k : Nat, k ≤ bs.length ∧ i = .int .i64 k ∧ (∀ (j : Nat) (s : Yg), j < k → bs[j]? = some s → brk (xs.map Bw.ct) s.ct = false) ∧ Bx w (.cells #[Value.slice a1 ks.length c1, Value.slice a2 bs.length c2] 32) wr) (fun i _ => bs.length - (intOf i).toNat)
          case atStart => exact ⟨0, Nat.zero_le _, rfl, fun j s hj => by omega, s2⟩
          case round =>
            obtain ⟨k, hk, rfl, hok, s3⟩ := hrel
            by_cases hlt : k < bs.length
            · obtain ⟨-, h | ⟨b, o, rfl, hc⟩⟩ := HR2.out wr s3.below
              · subst h; simp at hlt
              obtain ⟨⟨s, ax, cx⟩, hxk⟩ : ∃ x, bs[k]? = some x := ⟨_, List.getElem?_eq_getElem hlt⟩
              obtain ⟨⟨p0, p1, p2, p3⟩, pr, -⟩ := hc k _ hxk
              simp only [Yg.hd] at p0 p1 p2 p3 pr
              have hki : (k : Int) < (bs.length : Int) := by omega
              have hmk : (bs.map Yg.ct)[k]? = some s := by rw [List.getElem?_map, hxk]; rfl
              have HBAD : Hid (brk (xs.map Bw.ct) s = true → Z = false) := fun h => HZ.out.symm.trans (cokR_bar hmk h)
              have HGOOD : Hid (brk (xs.map Bw.ct) s = false → ∀ (j : Nat) (t : Yg), j < k + 1 → bs[j]? = some t → brk (xs.map Bw.ct) t.ct = false) := fun h j t hj ht => by
                by_cases hjk : j < k
                · exact hok j t hjk ht
                · have : j = k := by omega
                  subst this
                  rw [hxk] at ht
                  cases ht
                  exact h
              obtain ⟨i, hi, hil, hcase⟩ := brOk_parts (HS4.out k s hmk)
              obtain ⟨⟨wi, ai, ci, xi⟩, hxi⟩ : ∃ x, xs[i]? = some x := ⟨_, List.getElem?_eq_getElem (by rw [HN.out]; exact hil)⟩
              obtain ⟨b1, o1, rfl, R1⟩ : ∃ b1 o1, a = some ⟨b1, o1, none⟩ ∧ Hid (∀ u, Below w.heap.size w u → ∀ (j : Nat) y, xs[j]? = some y → BwAt u b1 (o1 + j * 2) y) := by
                obtain ⟨-, h | ⟨b1, o1, rfl, hc1⟩⟩ := HR3.out wr s3.below
                · have := HN.out; subst h; simp at this; omega
                · refine ⟨b1, o1, rfl, fun u hu => ?_⟩
                  obtain ⟨-, h | ⟨b2, o2, he, hc2⟩⟩ := HR3.out u hu
                  · have := HN.out; subst h; simp at this; omega
                  · cases he
                    exact hc2
              have hli : wdAt (xs.map Bw.ct) i = (wi, xi) := by simp [wdAt, List.getD, hxi, Bw.ct]
              have hfi := (fitR_iff.1 HFIT.out) i (by simp [HN.out, hil])
              rw [hli] at hfi
              obtain ⟨hri, hwi⟩ := hfi
              simp only [] at hri hwi
              have hii : (i : Int) < (ks.length : Int) := by omega
              have HPR := kide pr
              have HOK := kide hok
              have HXI := kide hxi
              obtain ⟨v, lo, bw, ws⟩ := s
              simp only [] at p0 p1 p2 p3 hi hcase HPR pr
              subst hi
              clear hc hxk hmk hok s2
              rcases hcase with ⟨rfl, hrb, hbw⟩ | ⟨j, rfl, hj, hjw⟩
              · have hb : brk (xs.map Bw.ct) ⟨i, -1, bw, ws⟩ = sameB wi xi bw ws := by
                  simp only [brk, Int.toNat_natCast, hli, if_pos, sameB, hri, hrb, Bool.true_and]
                  rw [Bool.eq_iff_iff]
                  simp [Prod.ext_iff]
                rw [hb] at HBAD HGOOD
                have hm1 : ((-1 : Int) != -1) = false := by simp
                have HCMP := kide (fun u (hu : Below wr.heap.size wr u) => implSame_any wi ai ci xi bw ax cx ws u (R1.out u (s3.next hu).below i _ HXI.out).2.2.1 (HPR.out.later hu))
                clear hb hli hri hwi hrb hbw pr
                go_wp2_with fail
                have t0 : ((wr.alloc (.cells #[Value.int .i64 (i : Int), Value.int .i64 (-1), Value.int .i64 bw, Value.slice ax ws.length cx] 86)).alloc (.cells #[Value.int .i64 bw, Value.slice ax ws.length cx] 48)).cell? ⟨wr.heap.size, 0, none⟩ = some (Value.int .i64 (i : Int)) := by simp [go_sem]
                have t1 : ((wr.alloc (.cells #[Value.int .i64 (i : Int), Value.int .i64 (-1), Value.int .i64 bw, Value.slice ax ws.length cx] 86)).alloc (.cells #[Value.int .i64 bw, Value.slice ax ws.length cx] 48)).cell? ⟨wr.heap.size + 1, 0, none⟩ = some (Value.int .i64 bw) := by simp [go_sem]
                have t2 : ((wr.alloc (.cells #[Value.int .i64 (i : Int), Value.int .i64 (-1), Value.int .i64 bw, Value.slice ax ws.length cx] 86)).alloc (.cells #[Value.int .i64 bw, Value.slice ax ws.length cx] 48)).cell? ⟨wr.heap.size + 1, 1, none⟩ = some (Value.slice ax ws.length cx) := by simp [go_sem]
                have sW := (s3.box (.cells #[Value.int .i64 (i : Int), Value.int .i64 (-1), Value.int .i64 bw, Value.slice ax ws.length cx] 86)).box (.cells #[Value.int .i64 bw, Value.slice ax ws.length cx] 48)
                have lW : wr.heap.size + 2 ≤ ((wr.alloc (.cells #[Value.int .i64 (i : Int), Value.int .i64 (-1), Value.int .i64 bw, Value.slice ax ws.length cx] 86)).alloc (.cells #[Value.int .i64 bw, Value.slice ax ws.length cx] 48)).heap.size := by simp
                have HWB : Hid (Below wr.heap.size wr ((wr.alloc (.cells #[Value.int .i64 (i : Int), Value.int .i64 (-1), Value.int .i64 bw, Value.slice ax ws.length cx] 86)).alloc (.cells #[Value.int .i64 bw, Value.slice ax ws.length cx] 48))) := ((Below.refl _ _).alloc (Nat.le_refl _) _).alloc (by simp) _
                generalize (wr.alloc (.cells #[Value.int .i64 (i : Int), Value.int .i64 (-1), Value.int .i64 bw, Value.slice ax ws.length cx] 86)).alloc (.cells #[Value.int .i64 bw, Value.slice ax ws.length cx] 48) = W at *
                have t3 := (R1.out W sW.below i _ HXI.out).1
                have t4 := (R1.out W sW.below i _ HXI.out).2.1
                simp only [] at t3 t4
                have lW3 : b1 < W.heap.size := block_lt_of_cell t3
                clear p0 p1 p2 p3
                generalize sameB wi xi bw ws = R at *
                cases R with
                | true =>
                  have HF := kide (HBAD.out rfl)
                  clear HBAD HGOOD
                  go_region_held3 (fun u => u.cell? ⟨wr.heap.size, 0, none⟩ = some (Value.int .i64 (i : Int)) ∧ u.cell? ⟨wr.heap.size + 1, 0, none⟩ = some (Value.int .i64 bw) ∧ u.cell? ⟨wr.heap.size + 1, 1, none⟩ = some (Value.slice ax ws.length cx) ∧ u.cell? ⟨b1, o1 + i * 2, none⟩ = some (Value.int .i64 wi) ∧ u.cell? ⟨b1, o1 + i * 2 + 1, none⟩ = some (Value.slice ai xi.length ci)) (simp [*])
                    ((go_at_call 55; refine Calls.mono (HCMP.out _ ?_) ?_; exact (HWB.out).drew; rintro e w2 ⟨q, rfl, hq, hb2⟩; replace hb2 := kundrew hb2; have s4 := Bx.next (wk := W) sW hb2; have j0 := (kcell hb2 wr.heap.size 0 (by omega)).trans t0; have j1 := (kcell hb2 (wr.heap.size + 1) 0 (by omega)).trans t1; have j2 := (kcell hb2 (wr.heap.size + 1) 1 (by omega)).trans t2; have j3 := (kcell hb2 b1 (o1 + i * 2) lW3).trans t3; have j4 := (kcell hb2 b1 (o1 + i * 2 + 1) lW3).trans t4))
                  go_wp2_with fail
                  go_ret
                  exact ⟨ret_bool HF.out.symm, s4.below⟩
                | false =>
                  have HF := kide (HGOOD.out rfl)
                  clear HBAD HGOOD
                  go_region_held3 (fun u => u.cell? ⟨wr.heap.size, 0, none⟩ = some (Value.int .i64 (i : Int)) ∧ u.cell? ⟨wr.heap.size + 1, 0, none⟩ = some (Value.int .i64 bw) ∧ u.cell? ⟨wr.heap.size + 1, 1, none⟩ = some (Value.slice ax ws.length cx) ∧ u.cell? ⟨b1, o1 + i * 2, none⟩ = some (Value.int .i64 wi) ∧ u.cell? ⟨b1, o1 + i * 2 + 1, none⟩ = some (Value.slice ai xi.length ci)) (simp [*])
                    ((go_at_call 55; refine Calls.mono (HCMP.out _ ?_) ?_; exact (HWB.out).drew; rintro e w2 ⟨q, rfl, hq, hb2⟩; replace hb2 := kundrew hb2; have s4 := Bx.next (wk := W) sW hb2; have j0 := (kcell hb2 wr.heap.size 0 (by omega)).trans t0; have j1 := (kcell hb2 (wr.heap.size + 1) 0 (by omega)).trans t1; have j2 := (kcell hb2 (wr.heap.size + 1) 1 (by omega)).trans t2; have j3 := (kcell hb2 b1 (o1 + i * 2) lW3).trans t3; have j4 := (kcell hb2 b1 (o1 + i * 2 + 1) lW3).trans t4))
                  go_wp2_with fail
                  go_roundw
                  case rel => exact ⟨k + 1, by omega, by go_num, HF.out, s4⟩
                  case measure => simp [intOf]; omega
              · skip
                have hji : (j : Int) < (ks.length : Int) := by omega
                obtain ⟨⟨wj, aj, cj, xj⟩, hxj⟩ : ∃ x, xs[j]? = some x := ⟨_, List.getElem?_eq_getElem (by rw [HN.out]; exact hj)⟩
                have hlj : wdAt (xs.map Bw.ct) j = (wj, xj) := by simp [wdAt, List.getD, hxj, Bw.ct]
                have hfj := (fitR_iff.1 HFIT.out) j (by simp [HN.out, hj])
                rw [hlj] at hfj
                obtain ⟨hrj, hwj⟩ := hfj
                simp only [] at hrj hwj
                have hb : brk (xs.map Bw.ct) ⟨i, j, bw, ws⟩ = sameB wi xi wj xj := by
                  simp only [brk, Int.toNat_natCast, hli, hlj, if_neg (show ¬ (j : Int) = -1 by omega), sameB, hri, hrj, Bool.true_and]
                  rw [Bool.eq_iff_iff]
                  simp [Prod.ext_iff]
                rw [hb] at HBAD HGOOD
                have hm1 : ((j : Int) != -1) = true := by simp
                have HXJ := kide hxj
                have HCMP := kide (fun u (hu : Below wr.heap.size wr u) => implSame_any wi ai ci xi wj aj cj xj u (R1.out u (s3.next hu).below i _ HXI.out).2.2.1 (R1.out u (s3.next hu).below j _ HXJ.out).2.2.1)
                have r3 := (R1.out wr s3.below j _ HXJ.out).1
                have r4 := (R1.out wr s3.below j _ HXJ.out).2.1
                simp only [] at r3 r4
                have lb1 : b1 < wr.heap.size := block_lt_of_cell r3
                clear hb hli hlj hri hwi hrj hwj hxj pr hjw
                go_wp2_with fail
                have t0 : ((wr.alloc (.cells #[Value.int .i64 (i : Int), Value.int .i64 (j : Int), Value.int .i64 bw, Value.slice ax ws.length cx] 86)).alloc (.cells #[Value.int .i64 wj, Value.slice aj xj.length cj] 48)).cell? ⟨wr.heap.size, 0, none⟩ = some (Value.int .i64 (i : Int)) := by simp [go_sem]
                have t1 : ((wr.alloc (.cells #[Value.int .i64 (i : Int), Value.int .i64 (j : Int), Value.int .i64 bw, Value.slice ax ws.length cx] 86)).alloc (.cells #[Value.int .i64 wj, Value.slice aj xj.length cj] 48)).cell? ⟨wr.heap.size + 1, 0, none⟩ = some (Value.int .i64 wj) := by simp [go_sem]
                have t2 : ((wr.alloc (.cells #[Value.int .i64 (i : Int), Value.int .i64 (j : Int), Value.int .i64 bw, Value.slice ax ws.length cx] 86)).alloc (.cells #[Value.int .i64 wj, Value.slice aj xj.length cj] 48)).cell? ⟨wr.heap.size + 1, 1, none⟩ = some (Value.slice aj xj.length cj) := by simp [go_sem]
                have sW := (s3.box (.cells #[Value.int .i64 (i : Int), Value.int .i64 (j : Int), Value.int .i64 bw, Value.slice ax ws.length cx] 86)).box (.cells #[Value.int .i64 wj, Value.slice aj xj.length cj] 48)
                have lW : wr.heap.size + 2 ≤ ((wr.alloc (.cells #[Value.int .i64 (i : Int), Value.int .i64 (j : Int), Value.int .i64 bw, Value.slice ax ws.length cx] 86)).alloc (.cells #[Value.int .i64 wj, Value.slice aj xj.length cj] 48)).heap.size := by simp
                have HWB : Hid (Below wr.heap.size wr ((wr.alloc (.cells #[Value.int .i64 (i : Int), Value.int .i64 (j : Int), Value.int .i64 bw, Value.slice ax ws.length cx] 86)).alloc (.cells #[Value.int .i64 wj, Value.slice aj xj.length cj] 48))) := ((Below.refl _ _).alloc (Nat.le_refl _) _).alloc (by simp) _
                generalize (wr.alloc (.cells #[Value.int .i64 (i : Int), Value.int .i64 (j : Int), Value.int .i64 bw, Value.slice ax ws.length cx] 86)).alloc (.cells #[Value.int .i64 wj, Value.slice aj xj.length cj] 48) = W at *
                have t3 := (R1.out W sW.below i _ HXI.out).1
                have t4 := (R1.out W sW.below i _ HXI.out).2.1
                simp only [] at t3 t4
                have lW3 : b1 < W.heap.size := block_lt_of_cell t3
                clear p0 p1 p2 p3
                generalize sameB wi xi wj xj = R at *
                cases R with
                | true =>
                  have HF := kide (HBAD.out rfl)
                  clear HBAD HGOOD
                  go_region_held3 (fun u => u.cell? ⟨wr.heap.size, 0, none⟩ = some (Value.int .i64 (i : Int)) ∧ u.cell? ⟨wr.heap.size + 1, 0, none⟩ = some (Value.int .i64 wj) ∧ u.cell? ⟨wr.heap.size + 1, 1, none⟩ = some (Value.slice aj xj.length cj) ∧ u.cell? ⟨b1, o1 + i * 2, none⟩ = some (Value.int .i64 wi) ∧ u.cell? ⟨b1, o1 + i * 2 + 1, none⟩ = some (Value.slice ai xi.length ci)) (simp [*])
                    ((go_at_call 55; refine Calls.mono (HCMP.out _ ?_) ?_; exact (HWB.out).drew; rintro e w2 ⟨q, rfl, hq, hb2⟩; replace hb2 := kundrew hb2; have s4 := Bx.next (wk := W) sW hb2; have j0 := (kcell hb2 wr.heap.size 0 (by omega)).trans t0; have j1 := (kcell hb2 (wr.heap.size + 1) 0 (by omega)).trans t1; have j2 := (kcell hb2 (wr.heap.size + 1) 1 (by omega)).trans t2; have j3 := (kcell hb2 b1 (o1 + i * 2) lW3).trans t3; have j4 := (kcell hb2 b1 (o1 + i * 2 + 1) lW3).trans t4))
                  go_wp2_with fail
                  go_ret
                  exact ⟨ret_bool HF.out.symm, s4.below⟩
                | false =>
                  have HF := kide (HGOOD.out rfl)
                  clear HBAD HGOOD
                  go_region_held3 (fun u => u.cell? ⟨wr.heap.size, 0, none⟩ = some (Value.int .i64 (i : Int)) ∧ u.cell? ⟨wr.heap.size + 1, 0, none⟩ = some (Value.int .i64 wj) ∧ u.cell? ⟨wr.heap.size + 1, 1, none⟩ = some (Value.slice aj xj.length cj) ∧ u.cell? ⟨b1, o1 + i * 2, none⟩ = some (Value.int .i64 wi) ∧ u.cell? ⟨b1, o1 + i * 2 + 1, none⟩ = some (Value.slice ai xi.length ci)) (simp [*])
                    ((go_at_call 55; refine Calls.mono (HCMP.out _ ?_) ?_; exact (HWB.out).drew; rintro e w2 ⟨q, rfl, hq, hb2⟩; replace hb2 := kundrew hb2; have s4 := Bx.next (wk := W) sW hb2; have j0 := (kcell hb2 wr.heap.size 0 (by omega)).trans t0; have j1 := (kcell hb2 (wr.heap.size + 1) 0 (by omega)).trans t1; have j2 := (kcell hb2 (wr.heap.size + 1) 1 (by omega)).trans t2; have j3 := (kcell hb2 b1 (o1 + i * 2) lW3).trans t3; have j4 := (kcell hb2 b1 (o1 + i * 2 + 1) lW3).trans t4))
                  go_wp2_with fail
                  go_roundw
                  case rel => exact ⟨k + 1, by omega, by go_num, HF.out, s4⟩
                  case measure => simp [intOf]; omega
            · have e : k = bs.length := by omega
              subst e
              have HT := kide (cokR_good (bs := bs.map Yg.ct) (ks := ks) (ws := xs.map Bw.ct) HGT.out (by simp [HN.out]) HFIT.out (fun j s hj => by
                rw [List.getElem?_map] at hj
                cases hb : bs[j]? with
                | none => rw [hb] at hj; cases hj
                | some t =>
                  rw [hb] at hj
                  cases hj
                  exact hok j t (List.getElem?_eq_some_iff.1 hb).1 hb))
              clear hok s2
              go_wp2_with fail
              go_ret
              exact ⟨ret_bool (HT.out.symm.trans HZ.out), s3.below⟩
    · rw [cokR_len (by simpa [HN.out] using hlen)]
      have hne : ((n : Int) != (ks.length : Int)) = true := by simp; omega
      clear hg hlen
      go_enter Try.func22, Try.ntmps22
      go_wp2_with fail
      refine Calls.mono (HG.out _ s0.below) ?_
      rintro e w1 ⟨rfl, hb1⟩
      have s1 := s0.next hb1
      have g0 := s1.one 0
      simp at g0
      clear hb1 s0
      go_wp2_with fail
      go_ret
      exact ⟨rfl, s1.below⟩

end Go.Proofs.Ythoiajpbpoglfaa
