/- Several texts in one. -/
import Derived.Test.YtfanddpncipkkaaZFG
import Derived.Deep.RegionLaw

/- What the program's FlatOk answers: the whole of it. -/
namespace Go.Proofs.Ytfanddpncipkkaa
set_option linter.unusedVariables false
set_option linter.unusedSimpArgs false
open Go.RowKit

theorem kwrap {n : Int} (h : -9223372036854775808 ≤ n ∧ n ≤ 9223372036854775807) : IntKind.i64.wrap n = n := by rw [IntKind.wrap_i64]; omega

/-- How a form is looked at, segment by segment: k of them are done. -/
def flAt (ds : List Dc) (fs : List Sc) (k : Nat) : Bool := flL ds (if k = 0 then none else fs[k - 1]?) (fs.drop k)

theorem flAt_end {ds : List Dc} {fs : List Sc} : flAt ds fs fs.length = true := by
  unfold flAt
  rw [List.drop_length]
  split <;> rename_i h <;> (try cases h) <;> simp [flL]

theorem flAt_zero {ds : List Dc} {fs : List Sc} {s : Sc} (h : fs[0]? = some s) : flAt ds fs 0 = (sgOk ds s && flAt ds fs 1) := by
  have l := (List.getElem?_eq_some_iff.1 h).1
  unfold flAt
  rw [List.drop_eq_getElem_cons l]
  rw [List.getElem?_eq_getElem l] at h
  cases h
  simp [flL, l]
theorem flAt_succ {ds : List Dc} {fs : List Sc} {k : Nat} {q s : Sc} (hq : fs[k]? = some q) (h : fs[k + 1]? = some s) : flAt ds fs (k + 1) = (sgOk ds s && !oneB q s && flAt ds fs (k + 1 + 1)) := by
  have l := (List.getElem?_eq_some_iff.1 h).1
  unfold flAt
  rw [List.drop_eq_getElem_cons l]
  rw [List.getElem?_eq_getElem l] at h
  cases h
  rw [if_neg (by omega), if_neg (by omega), Nat.add_sub_cancel, Nat.add_sub_cancel, hq, flL, List.getElem?_eq_getElem l]

theorem all_of_flAt {ds : List Dc} {fs : List Sc} : ∀ (k : Nat), (∀ i s, i < k → fs[i]? = some s → sgOk ds s = true) → flAt ds fs k = true → ∀ s ∈ fs, sgOk ds s = true := by
  intro k hk h s hs
  obtain ⟨i, hi, e⟩ := List.mem_iff_getElem.1 hs
  have gen : ∀ (d k : Nat), fs.length - k = d → (∀ (i : Nat) (s : Sc), i < k → fs[i]? = some s → sgOk ds s = true) → flAt ds fs k = true → ∀ (i : Nat) (s : Sc), fs[i]? = some s → sgOk ds s = true := by
    intro d
    induction d with
    | zero =>
      intro k hd hk _ i s hi
      exact hk i s (by have := (List.getElem?_eq_some_iff.1 hi).1; omega) hi
    | succ d ih =>
      intro k hd hk h
      have hkl : k < fs.length := by omega
      have hg := List.getElem?_eq_getElem hkl
      have hok : sgOk ds fs[k] = true ∧ flAt ds fs (k + 1) = true := by
        cases k with
        | zero => rw [flAt_zero hg] at h; simp at h; exact h
        | succ k =>
          rw [flAt_succ (List.getElem?_eq_getElem (by omega)) hg] at h
          simp at h
          exact ⟨h.1.1, h.2⟩
      refine ih (k + 1) (by omega) (fun i s hi hs => ?_) hok.2
      by_cases hik : i = k
      · subst hik
        rw [hg] at hs
        cases hs
        exact hok.1
      · exact hk i s (by omega) hs
  exact gen _ k rfl hk h i s (by rw [List.getElem?_eq_getElem hi, e])

/-- What is asked of a form where the variables are right. -/
def formR (ds : List Dc) (fs : List Sc) : Bool := decide (1 ≤ fs.length) && decide (fs.length ≤ 2000) && flAt ds fs 0 && decide (sumS fs ≤ 4096)

theorem flatR_form (ds : List Dc) (fs : List Sc) : flatR ds fs = (dclR ds && formR ds fs) := by
  simp [flatR, formR, flAt, Bool.and_assoc]

set_option maxHeartbeats 1000000 in
theorem formOk_any (a da : Option Addr) (c dc n : Nat) (ds : List Dc) (xs : List Sg) (w : World) (hd : RdD w da ds) (hr : RdS w a xs) (hn : xs.length = n) (hD : dclR ds = true) :
    Calls Try.prog 39 #[.slice da ds.length dc, .slice a n c] w fun e w' => e = .returned (.bool (formR ds (xs.map Sg.ct))) ∧ Below w.heap.size w w' := by
  have hl1 := hd.1
  have hl2 := hr.1
  rw [hn] at hl2
  by_cases h1 : n < 1
  · have hR : formR ds (xs.map Sg.ct) = false := by
      have : xs = [] := List.eq_nil_of_length_eq_zero (by omega)
      simp [formR, this]
    rw [hR]
    clear hR
    go_enter Try.func39, Try.ntmps39
    go_wp2_with fail
    go_ret
    exact ⟨rfl, Below.refl _ _⟩
  by_cases h2 : 2000 < n
  · have hR : formR ds (xs.map Sg.ct) = false := by
      have h : decide ((xs.map Sg.ct).length ≤ 2000) = false := decide_eq_false (by simp; omega)
      simp only [formR, h]; simp
    rw [hR]
    clear hR
    go_enter Try.func39, Try.ntmps39
    go_wp2_with fail
    go_ret
    exact ⟨rfl, Below.refl _ _⟩
  generalize hZ : flAt ds (xs.map Sg.ct) 0 = Z
  have hR : formR ds (xs.map Sg.ct) = (Z && decide (sumS (xs.map Sg.ct) ≤ 4096)) := by
    have e1 : decide (1 ≤ (xs.map Sg.ct).length) = true := decide_eq_true (by simp; omega)
    have e2 : decide ((xs.map Sg.ct).length ≤ 2000) = true := decide_eq_true (by simp; omega)
    simp only [formR, e1, e2, hZ, Bool.true_and]
  rw [hR]
  have HZ := kide hZ
  have HD := kide hd
  have HR := kide hr
  have HN := kide hn
  have HDC := kide hD
  clear hZ hR hd hr hn hD
  go_enter Try.func39, Try.ntmps39
  go_wp2_with fail
  go_loopw [17] (fun i wr => ∃ k : Nat, k ≤ n ∧ i = .int .i64 (k : Int) ∧ flAt ds (xs.map Sg.ct) k = Z ∧ (∀ (i : Nat) (x : Sg), i < k → xs[i]? = some x → sgOk ds x.ct = true) ∧ Below w.heap.size w wr) (fun i _ => n - (intOf i).toNat)
  case atStart => exact ⟨0, Nat.zero_le _, rfl, HZ.out, fun i x h => by omega, Below.refl _ _⟩
  case round =>
    obtain ⟨k, hk, rfl, hz, hall, hbel⟩ := hrel
    have HB := kide hbel
    have HAL := kide hall
    by_cases hlt : k < n
    · obtain ⟨-, h | ⟨b2, o2, rfl, hc2⟩⟩ := HR.out
      · have := HN.out; subst h; simp at this; omega
      obtain ⟨⟨s, a1, c1⟩, gx⟩ : ∃ x, xs[k]? = some x := ⟨xs[k]'(by rw [HN.out]; exact hlt), List.getElem?_eq_getElem _⟩
      obtain ⟨⟨p0, p1, p2, p3, p4⟩, pr, -⟩ := (hc2 k _ gx).later hbel
      simp only [Sg.hd] at p0 p1 p2 p3 p4 pr
      have hb0 : Below wr.heap.size wr (wr.alloc (Obj.cells #[Value.int .i64 s.v, Value.int .i64 s.lo, Value.int .i64 s.wd, Value.int .i64 s.bw, Value.slice a1 s.ws.length c1] 47)) := (Below.refl _ _).alloc (Nat.le_refl _) _
      have HOK := kide (fun u (hu : Below wr.heap.size wr u) => segOk_any s a1 da c1 dc ds u (pr.later hu) ((HD.out.later hbel).later hu) HDC.out)
      have GX := kide gx
      have gct : (xs.map Sg.ct)[k]? = some s := by rw [List.getElem?_map, gx]; rfl
      have i0 : (k : Int) < (n : Int) := by omega
      have c0 : (wr.alloc (Obj.cells #[Value.int .i64 s.v, Value.int .i64 s.lo, Value.int .i64 s.wd, Value.int .i64 s.bw, Value.slice a1 s.ws.length c1] 47)).cell? ⟨wr.heap.size, 0, none⟩ = some (Value.int .i64 s.v) := by simp
      have c1' : (wr.alloc (Obj.cells #[Value.int .i64 s.v, Value.int .i64 s.lo, Value.int .i64 s.wd, Value.int .i64 s.bw, Value.slice a1 s.ws.length c1] 47)).cell? ⟨wr.heap.size, 1, none⟩ = some (Value.int .i64 s.lo) := by simp
      have c2' : (wr.alloc (Obj.cells #[Value.int .i64 s.v, Value.int .i64 s.lo, Value.int .i64 s.wd, Value.int .i64 s.bw, Value.slice a1 s.ws.length c1] 47)).cell? ⟨wr.heap.size, 2, none⟩ = some (Value.int .i64 s.wd) := by simp
      have c3' : (wr.alloc (Obj.cells #[Value.int .i64 s.v, Value.int .i64 s.lo, Value.int .i64 s.wd, Value.int .i64 s.bw, Value.slice a1 s.ws.length c1] 47)).cell? ⟨wr.heap.size, 3, none⟩ = some (Value.int .i64 s.bw) := by simp
      have c4' : (wr.alloc (Obj.cells #[Value.int .i64 s.v, Value.int .i64 s.lo, Value.int .i64 s.wd, Value.int .i64 s.bw, Value.slice a1 s.ws.length c1] 47)).cell? ⟨wr.heap.size, 4, none⟩ = some (Value.slice a1 s.ws.length c1) := by simp
      have l0 : wr.heap.size < (wr.alloc (Obj.cells #[Value.int .i64 s.v, Value.int .i64 s.lo, Value.int .i64 s.wd, Value.int .i64 s.bw, Value.slice a1 s.ws.length c1] 47)).heap.size := by simp
      have B0 := kide hb0
      cases hok : sgOk ds s with
      | false =>
        rw [hok] at HOK
        have HF : Hid (Z = false) := by
          show _ = _
          rw [← hz]
          cases k with
          | zero => rw [flAt_zero gct, hok]; rfl
          | succ k =>
            have hq : (xs.map Sg.ct)[k]? = some _ := List.getElem?_eq_getElem (by simp; have := HN.out; omega)
            rw [flAt_succ hq gct, hok]; rfl
        obtain ⟨v, lo, wd, bw, ws⟩ := s
        simp only [] at p0 p1 p2 p3 p4 c0 c1' c2' c3' c4' l0 HOK B0
        clear hc2 gx gct hz hall hbel HZ pr hb0 hok GX
        go_wp2_with fail
        generalize wr.alloc (Obj.cells #[Value.int .i64 v, Value.int .i64 lo, Value.int .i64 wd, Value.int .i64 bw, Value.slice a1 ws.length c1] 47) = w0 at *
        clear p0 p1 p2 p3 p4
        refine wp_region_any (by kernel_rfl) ?_
        try (change wpAny _ _ _ _ _ _ _ (World.drew _))
        refine wpAny_take (i := 0) (v := Value.slice da ds.length dc) rfl (by kernel_rfl) (by kernel_rfl) (by kernel_rfl) (fun _ _ _ h => h) (Or.inl ⟨by rfl, fun w => by go_simp⟩) ?_
        try go_simp
        refine wpAny_ready (rs := [1]) (by kernel_rfl) (by simp) (AllReady.cons rfl (fun K hK => ?_) AllReady.nil)
        go_simp
        refine hK _ _ ?_
        clear hK K
        refine wpAny_ready (rs := [2]) (by kernel_rfl) (by simp) (AllReady.cons rfl (fun K hK => ?_) AllReady.nil)
        go_simp
        go_wp2_with (go_at_call 61; refine Calls.mono (HOK.out _ ?_) ?_; exact B0.out.drew; rintro e w3 ⟨rfl, hb3⟩; replace hb3 := kundrew hb3)
        refine wpAny_take (i := 3) (v := Value.bool true) rfl (by kernel_rfl) (by kernel_rfl) (by kernel_rfl) (fun _ _ _ h => h) (Or.inl ⟨by rfl, fun w => by go_simp⟩) ?_
        try go_simp
        refine wpAny_take (i := 4) (v := Value.bool true) rfl (by kernel_rfl) (by kernel_rfl) (by kernel_rfl) (fun _ _ _ h => h) (Or.inl ⟨by rfl, fun w => by go_simp⟩) ?_
        try go_simp
        refine wpAny_take (i := 5) (v := undef) rfl (by kernel_rfl) (by kernel_rfl) (by kernel_rfl) (fun _ _ _ h => h) (Or.inr ⟨by rfl, rfl⟩) ?_
        try go_simp
        refine wpAny_take (i := 6) (v := undef) rfl (by kernel_rfl) (by kernel_rfl) (by kernel_rfl) (fun _ _ _ h => h) (Or.inr ⟨by rfl, rfl⟩) ?_
        try go_simp
        refine wpAny_take (i := 7) (v := undef) rfl (by kernel_rfl) (by kernel_rfl) (by kernel_rfl) (fun _ _ _ h => h) (Or.inr ⟨by rfl, rfl⟩) ?_
        try go_simp
        refine wpAny_take (i := 8) (v := undef) rfl (by kernel_rfl) (by kernel_rfl) (by kernel_rfl) (fun _ _ _ h => h) (Or.inr ⟨by rfl, rfl⟩) ?_
        try go_simp
        refine wpAny_take (i := 9) (v := undef) rfl (by kernel_rfl) (by kernel_rfl) (by kernel_rfl) (fun _ _ _ h => h) (Or.inr ⟨by rfl, rfl⟩) ?_
        try go_simp
        refine wpAny_take (i := 10) (v := undef) rfl (by kernel_rfl) (by kernel_rfl) (by kernel_rfl) (fun _ _ _ h => h) (Or.inr ⟨by rfl, rfl⟩) ?_
        try go_simp
        refine wpAny_take (i := 11) (v := undef) rfl (by kernel_rfl) (by kernel_rfl) (by kernel_rfl) (fun _ _ _ h => h) (Or.inr ⟨by rfl, rfl⟩) ?_
        try go_simp
        refine wpAny_take (i := 12) (v := undef) rfl (by kernel_rfl) (by kernel_rfl) (by kernel_rfl) (fun _ _ _ h => h) (Or.inr ⟨by rfl, rfl⟩) ?_
        try go_simp
        refine wpAny_take (i := 13) (v := undef) rfl (by kernel_rfl) (by kernel_rfl) (by kernel_rfl) (fun _ _ _ h => h) (Or.inr ⟨by rfl, rfl⟩) ?_
        try go_simp
        refine wpAny_take (i := 14) (v := undef) rfl (by kernel_rfl) (by kernel_rfl) (by kernel_rfl) (fun _ _ _ h => h) (Or.inr ⟨by rfl, rfl⟩) ?_
        try go_simp
        refine wpAny_take (i := 15) (v := undef) rfl (by kernel_rfl) (by kernel_rfl) (by kernel_rfl) (fun _ _ _ h => h) (Or.inr ⟨by rfl, rfl⟩) ?_
        try go_simp
        refine wpAny_take (i := 16) (v := Value.bool true) rfl (by kernel_rfl) (by kernel_rfl) (by kernel_rfl) (fun _ _ _ h => h) (Or.inl ⟨by rfl, fun w => by go_simp⟩) ?_
        try go_simp
        refine wpAny_done (by kernel_rfl) ?_ _
        go_wp2_with fail
        go_ret
        exact ⟨ret_bool (by rw [HF.out]; rfl), HB.out.trans ((B0.out.trans (hb3.mono B0.out.size)).mono HB.out.size)⟩
      | true =>
        rw [hok] at HOK
        cases k with
        | zero =>
          rw [flAt_zero gct, hok, Bool.true_and] at hz
          have HZ1 := kide hz
          have HOKS := kide hok
          rw [Nat.zero_mul, Nat.add_zero] at p0 p1 p2 p3 p4
          obtain ⟨v, lo, wd, bw, ws⟩ := s
          simp only [] at p0 p1 p2 p3 p4 c0 c1' c2' c3' c4' l0 HOK B0
          clear hc2 gx gct hz hall hbel HZ pr hb0 hok
          go_wp2_with fail
          generalize wr.alloc (Obj.cells #[Value.int .i64 v, Value.int .i64 lo, Value.int .i64 wd, Value.int .i64 bw, Value.slice a1 ws.length c1] 47) = w0 at *
          clear p0 p1 p2 p3 p4
          refine wp_region_any (by kernel_rfl) ?_
          try (change wpAny _ _ _ _ _ _ _ (World.drew _))
          refine wpAny_take (i := 0) (v := Value.slice da ds.length dc) rfl (by kernel_rfl) (by kernel_rfl) (by kernel_rfl) (fun _ _ _ h => h) (Or.inl ⟨by rfl, fun w => by go_simp⟩) ?_
          try go_simp
          refine wpAny_ready (rs := [1]) (by kernel_rfl) (by simp) (AllReady.cons rfl (fun K hK => ?_) AllReady.nil)
          go_simp
          refine hK _ _ ?_
          clear hK K
          refine wpAny_ready (rs := [2]) (by kernel_rfl) (by simp) (AllReady.cons rfl (fun K hK => ?_) AllReady.nil)
          go_simp
          go_wp2_with (go_at_call 61; refine Calls.mono (HOK.out _ ?_) ?_; exact B0.out.drew; rintro e w3 ⟨rfl, hb3⟩; replace hb3 := kundrew hb3)
          refine wpAny_take (i := 3) (v := Value.bool false) rfl (by kernel_rfl) (by kernel_rfl) (by kernel_rfl) (fun _ _ _ h => h) (Or.inl ⟨by rfl, fun w => by go_simp⟩) ?_
          try go_simp
          refine wpAny_take (i := 4) (v := Value.bool false) rfl (by kernel_rfl) (by kernel_rfl) (by kernel_rfl) (fun _ _ _ h => h) (Or.inl ⟨by rfl, fun w => by go_simp⟩) ?_
          try go_simp
          refine wpAny_take (i := 5) (v := Value.int .i64 0) rfl (by kernel_rfl) (by kernel_rfl) (by kernel_rfl) (fun _ _ _ h => h) (Or.inl ⟨by rfl, fun w => by go_simp⟩) ?_
          try go_simp
          refine wpAny_take (i := 6) (v := Value.bool false) rfl (by kernel_rfl) (by kernel_rfl) (by kernel_rfl) (fun _ _ _ h => h) (Or.inl ⟨by rfl, fun w => by go_simp⟩) ?_
          try go_simp
          refine wpAny_take (i := 7) (v := Value.bool false) rfl (by kernel_rfl) (by kernel_rfl) (by kernel_rfl) (fun _ _ _ h => h) (Or.inl ⟨by rfl, fun w => by go_simp⟩) ?_
          try go_simp
          refine wpAny_take (i := 8) (v := undef) rfl (by kernel_rfl) (by kernel_rfl) (by kernel_rfl) (fun _ _ _ h => h) (Or.inr ⟨by rfl, rfl⟩) ?_
          try go_simp
          refine wpAny_take (i := 9) (v := undef) rfl (by kernel_rfl) (by kernel_rfl) (by kernel_rfl) (fun _ _ _ h => h) (Or.inr ⟨by rfl, rfl⟩) ?_
          try go_simp
          refine wpAny_take (i := 10) (v := undef) rfl (by kernel_rfl) (by kernel_rfl) (by kernel_rfl) (fun _ _ _ h => h) (Or.inr ⟨by rfl, rfl⟩) ?_
          try go_simp
          refine wpAny_take (i := 11) (v := undef) rfl (by kernel_rfl) (by kernel_rfl) (by kernel_rfl) (fun _ _ _ h => h) (Or.inr ⟨by rfl, rfl⟩) ?_
          try go_simp
          refine wpAny_take (i := 12) (v := undef) rfl (by kernel_rfl) (by kernel_rfl) (by kernel_rfl) (fun _ _ _ h => h) (Or.inr ⟨by rfl, rfl⟩) ?_
          try go_simp
          refine wpAny_take (i := 13) (v := undef) rfl (by kernel_rfl) (by kernel_rfl) (by kernel_rfl) (fun _ _ _ h => h) (Or.inr ⟨by rfl, rfl⟩) ?_
          try go_simp
          refine wpAny_take (i := 14) (v := undef) rfl (by kernel_rfl) (by kernel_rfl) (by kernel_rfl) (fun _ _ _ h => h) (Or.inr ⟨by rfl, rfl⟩) ?_
          try go_simp
          refine wpAny_take (i := 15) (v := Value.bool false) rfl (by kernel_rfl) (by kernel_rfl) (by kernel_rfl) (fun _ _ _ h => h) (Or.inl ⟨by rfl, fun w => by go_simp⟩) ?_
          try go_simp
          refine wpAny_take (i := 16) (v := Value.bool false) rfl (by kernel_rfl) (by kernel_rfl) (by kernel_rfl) (fun _ _ _ h => h) (Or.inl ⟨by rfl, fun w => by go_simp⟩) ?_
          try go_simp
          refine wpAny_done (by kernel_rfl) ?_ _
          go_wp2_with fail
          go_roundw
          case rel =>
            refine ⟨1, by omega, by go_num, HZ1.out, fun i x hi hx => ?_, HB.out.trans ((B0.out.trans (hb3.mono B0.out.size)).mono HB.out.size)⟩
            have : i = 0 := by omega
            subst this
            rw [GX.out] at hx
            cases hx
            exact HOKS.out
          case measure => simp [intOf]; omega
        | succ j =>
          obtain ⟨⟨s2, a2, cc2⟩, gx2⟩ : ∃ x, xs[j]? = some x := ⟨xs[j]'(by rw [HN.out]; omega), List.getElem?_eq_getElem _⟩
          obtain ⟨⟨q0, q1, q2, q3, q4⟩, -⟩ := (hc2 j _ gx2).later hbel
          simp only [Sg.hd] at q0 q1 q2 q3 q4
          have gct2 : (xs.map Sg.ct)[j]? = some s2 := by rw [List.getElem?_map, gx2]; rfl
          have hs2 := hall j _ (by omega) gx2
          simp only [] at hs2
          have hbd := sgOk_bounds HDC.out hs2
          have HONE := kide (fun u => couldBeOne_any s2 s a2 a1 cc2 c1 u ⟨hbd.2.2.1, hbd.2.2.2⟩ ⟨by omega, hbd.2.1⟩)
          rw [flAt_succ gct2 gct, hok, Bool.true_and] at hz
          have lb2 : b2 < wr.heap.size := block_lt_of_cell q0
          have lb2' : b2 < (wr.alloc (Obj.cells #[Value.int .i64 s.v, Value.int .i64 s.lo, Value.int .i64 s.wd, Value.int .i64 s.bw, Value.slice a1 s.ws.length c1] 47)).heap.size := by simp; omega
          have r0 := (kcell hb0 b2 (o2 + j * 5) lb2).trans q0
          have r1 := (kcell hb0 b2 (o2 + j * 5 + 1) lb2).trans q1
          have r2 := (kcell hb0 b2 (o2 + j * 5 + 2) lb2).trans q2
          have r3 := (kcell hb0 b2 (o2 + j * 5 + 3) lb2).trans q3
          have r4 := (kcell hb0 b2 (o2 + j * 5 + 4) lb2).trans q4
          have HZ1 := kide hz
          have HOKS := kide hok
          have j1 : (j : Int) < (n : Int) := by omega
          have hwr1 : IntKind.i64.wrap (j : Int) = (j : Int) := kwrap (by omega)
          have hwr2 : IntKind.i64.wrap ((j : Int) + 1 - 1) = (j : Int) := (kwrap (by omega)).trans (by omega)
          have hwr3 : IntKind.i64.wrap (((j + 1 : Nat) : Int) - 1) = (j : Int) := (kwrap (by omega)).trans (by omega)
          obtain ⟨v, lo, wd, bw, ws⟩ := s
          obtain ⟨v2, lo2, wd2, bw2, ws2⟩ := s2
          simp only [] at p0 p1 p2 p3 p4 q0 q1 q2 q3 q4 r0 r1 r2 r3 r4 c0 c1' c2' c3' c4' l0 lb2' HOK HONE B0
          generalize hO : oneB ⟨v2, lo2, wd2, bw2, ws2⟩ ⟨v, lo, wd, bw, ws⟩ = O at *
          clear hc2 gx gx2 gct gct2 hz hall hbel HZ pr hb0 hok hs2 hbd hO q0 q1 q2 q3 q4
          cases O with
          | true =>
            have HF : Hid (Z = false) := by have h := HZ1.out; simp at h; exact h
            go_wp2_with fail
            generalize wr.alloc (Obj.cells #[Value.int .i64 v, Value.int .i64 lo, Value.int .i64 wd, Value.int .i64 bw, Value.slice a1 ws.length c1] 47) = w0 at *
            clear p0 p1 p2 p3 p4
            go_region_held3 (fun u => u.cell? ⟨wr.heap.size, 0, none⟩ = some (Value.int .i64 v) ∧ u.cell? ⟨wr.heap.size, 1, none⟩ = some (Value.int .i64 lo) ∧ u.cell? ⟨wr.heap.size, 2, none⟩ = some (Value.int .i64 wd) ∧ u.cell? ⟨wr.heap.size, 3, none⟩ = some (Value.int .i64 bw) ∧ u.cell? ⟨wr.heap.size, 4, none⟩ = some (Value.slice a1 ws.length c1) ∧ u.cell? ⟨b2, o2 + j * 5, none⟩ = some (Value.int .i64 v2) ∧ u.cell? ⟨b2, o2 + j * 5 + 1, none⟩ = some (Value.int .i64 lo2) ∧ u.cell? ⟨b2, o2 + j * 5 + 2, none⟩ = some (Value.int .i64 wd2) ∧ u.cell? ⟨b2, o2 + j * 5 + 3, none⟩ = some (Value.int .i64 bw2) ∧ u.cell? ⟨b2, o2 + j * 5 + 4, none⟩ = some (Value.slice a2 ws2.length cc2)) (simp [*])
              (first | (go_at_call 61; refine Calls.mono (HOK.out _ ?_) ?_; exact B0.out.drew; rintro e w3 ⟨rfl, hb3⟩; replace hb3 := kundrew hb3; have x0 := kcell hb3 wr.heap.size (0) l0; have x1 := kcell hb3 wr.heap.size (1) l0; have x2 := kcell hb3 wr.heap.size (2) l0; have x3 := kcell hb3 wr.heap.size (3) l0; have x4 := kcell hb3 wr.heap.size (4) l0; have x5 := kcell hb3 b2 (o2 + j * 5) lb2'; have x6 := kcell hb3 b2 (o2 + j * 5 + 1) lb2'; have x7 := kcell hb3 b2 (o2 + j * 5 + 2) lb2'; have x8 := kcell hb3 b2 (o2 + j * 5 + 3) lb2'; have x9 := kcell hb3 b2 (o2 + j * 5 + 4) lb2'; rw [c0] at x0; rw [c1'] at x1; rw [c2'] at x2; rw [c3'] at x3; rw [c4'] at x4; rw [r0] at x5; rw [r1] at x6; rw [r2] at x7; rw [r3] at x8; rw [r4] at x9; have l0w : wr.heap.size < w3.heap.size := Nat.lt_of_lt_of_le l0 hb3.size; have l2w : b2 < w3.heap.size := Nat.lt_of_lt_of_le lb2' hb3.size) | (go_at_call 56; refine Calls.mono (HONE.out _) ?_; rintro e w4 ⟨rfl, hb4⟩; have y0 := kcell hb4 wr.heap.size (0) l0w; have y1 := kcell hb4 wr.heap.size (1) l0w; have y2 := kcell hb4 wr.heap.size (2) l0w; have y3 := kcell hb4 wr.heap.size (3) l0w; have y4 := kcell hb4 wr.heap.size (4) l0w; have y5 := kcell hb4 b2 (o2 + j * 5) l2w; have y6 := kcell hb4 b2 (o2 + j * 5 + 1) l2w; have y7 := kcell hb4 b2 (o2 + j * 5 + 2) l2w; have y8 := kcell hb4 b2 (o2 + j * 5 + 3) l2w; have y9 := kcell hb4 b2 (o2 + j * 5 + 4) l2w; rw [x0] at y0; rw [x1] at y1; rw [x2] at y2; rw [x3] at y3; rw [x4] at y4; rw [x5] at y5; rw [x6] at y6; rw [x7] at y7; rw [x8] at y8; rw [x9] at y9))
            go_wp2_with fail
            go_ret
            exact ⟨ret_bool (by rw [HF.out]; rfl), HB.out.trans ((B0.out.trans ((hb3.trans (hb4.mono hb3.size)).mono B0.out.size)).mono HB.out.size)⟩
          | false =>
            have HF : Hid (flAt ds (xs.map Sg.ct) (j + 1 + 1) = Z) := by have h := HZ1.out; simp at h; exact h
            go_wp2_with fail
            generalize wr.alloc (Obj.cells #[Value.int .i64 v, Value.int .i64 lo, Value.int .i64 wd, Value.int .i64 bw, Value.slice a1 ws.length c1] 47) = w0 at *
            clear p0 p1 p2 p3 p4
            go_region_held3 (fun u => u.cell? ⟨wr.heap.size, 0, none⟩ = some (Value.int .i64 v) ∧ u.cell? ⟨wr.heap.size, 1, none⟩ = some (Value.int .i64 lo) ∧ u.cell? ⟨wr.heap.size, 2, none⟩ = some (Value.int .i64 wd) ∧ u.cell? ⟨wr.heap.size, 3, none⟩ = some (Value.int .i64 bw) ∧ u.cell? ⟨wr.heap.size, 4, none⟩ = some (Value.slice a1 ws.length c1) ∧ u.cell? ⟨b2, o2 + j * 5, none⟩ = some (Value.int .i64 v2) ∧ u.cell? ⟨b2, o2 + j * 5 + 1, none⟩ = some (Value.int .i64 lo2) ∧ u.cell? ⟨b2, o2 + j * 5 + 2, none⟩ = some (Value.int .i64 wd2) ∧ u.cell? ⟨b2, o2 + j * 5 + 3, none⟩ = some (Value.int .i64 bw2) ∧ u.cell? ⟨b2, o2 + j * 5 + 4, none⟩ = some (Value.slice a2 ws2.length cc2)) (simp [*])
              (first | (go_at_call 61; refine Calls.mono (HOK.out _ ?_) ?_; exact B0.out.drew; rintro e w3 ⟨rfl, hb3⟩; replace hb3 := kundrew hb3; have x0 := kcell hb3 wr.heap.size (0) l0; have x1 := kcell hb3 wr.heap.size (1) l0; have x2 := kcell hb3 wr.heap.size (2) l0; have x3 := kcell hb3 wr.heap.size (3) l0; have x4 := kcell hb3 wr.heap.size (4) l0; have x5 := kcell hb3 b2 (o2 + j * 5) lb2'; have x6 := kcell hb3 b2 (o2 + j * 5 + 1) lb2'; have x7 := kcell hb3 b2 (o2 + j * 5 + 2) lb2'; have x8 := kcell hb3 b2 (o2 + j * 5 + 3) lb2'; have x9 := kcell hb3 b2 (o2 + j * 5 + 4) lb2'; rw [c0] at x0; rw [c1'] at x1; rw [c2'] at x2; rw [c3'] at x3; rw [c4'] at x4; rw [r0] at x5; rw [r1] at x6; rw [r2] at x7; rw [r3] at x8; rw [r4] at x9; have l0w : wr.heap.size < w3.heap.size := Nat.lt_of_lt_of_le l0 hb3.size; have l2w : b2 < w3.heap.size := Nat.lt_of_lt_of_le lb2' hb3.size) | (go_at_call 56; refine Calls.mono (HONE.out _) ?_; rintro e w4 ⟨rfl, hb4⟩; have y0 := kcell hb4 wr.heap.size (0) l0w; have y1 := kcell hb4 wr.heap.size (1) l0w; have y2 := kcell hb4 wr.heap.size (2) l0w; have y3 := kcell hb4 wr.heap.size (3) l0w; have y4 := kcell hb4 wr.heap.size (4) l0w; have y5 := kcell hb4 b2 (o2 + j * 5) l2w; have y6 := kcell hb4 b2 (o2 + j * 5 + 1) l2w; have y7 := kcell hb4 b2 (o2 + j * 5 + 2) l2w; have y8 := kcell hb4 b2 (o2 + j * 5 + 3) l2w; have y9 := kcell hb4 b2 (o2 + j * 5 + 4) l2w; rw [x0] at y0; rw [x1] at y1; rw [x2] at y2; rw [x3] at y3; rw [x4] at y4; rw [x5] at y5; rw [x6] at y6; rw [x7] at y7; rw [x8] at y8; rw [x9] at y9))
            go_wp2_with fail
            go_roundw
            case rel =>
              refine ⟨j + 1 + 1, by omega, by go_num, HF.out, fun i x hi hx => ?_, HB.out.trans ((B0.out.trans ((hb3.trans (hb4.mono hb3.size)).mono B0.out.size)).mono HB.out.size)⟩
              by_cases hij : i = j + 1
              · subst hij
                rw [GX.out] at hx
                cases hx
                exact HOKS.out
              · exact HAL.out i x (by omega) hx
            case measure => simp [intOf]; omega
    · have e : k = n := by omega
      have hZt : Z = true := by
        rw [← hz, e, ← HN.out]
        have := flAt_end (ds := ds) (fs := xs.map Sg.ct)
        rwa [List.length_map] at this
      subst hZt
      have HW := kide (formWidth_any a c n xs wr (HR.out.later hbel) HN.out (by omega) (fun x hx => by
        obtain ⟨i, hi, e'⟩ := List.mem_iff_getElem.1 hx
        have h := sgOk_bounds HDC.out (hall i x (by have := HN.out; omega) (by rw [List.getElem?_eq_getElem hi, e']))
        exact ⟨h.1, h.2.1⟩))
      generalize hQ : sumS (xs.map Sg.ct) = Q at *
      have HQ := kide hQ
      clear hz hall hbel HZ hQ
      go_wp2_with fail
      refine Calls.mono HW.out ?_
      rintro e w3 ⟨rfl, hb3⟩
      go_wp2_with fail
      go_ret
      exact ⟨ret_bool (by rw [HQ.out]; simp), HB.out.trans (hb3.mono HB.out.size)⟩

end Go.Proofs.Ytfanddpncipkkaa

/- What the given FlatOk answers. -/
namespace Go.Proofs.Ytfanddpncipkkaa
set_option linter.unusedVariables false
set_option linter.unusedSimpArgs false
open Go.RowKit

set_option maxHeartbeats 1000000 in
theorem specFlat_any (a da : Option Addr) (c dc n : Nat) (ds : List Dc) (xs : List Sg) (w : World) (hd : RdD w da ds) (hr : RdS w a xs) (hn : xs.length = n) :
    Calls Try.prog 24 #[.slice da ds.length dc, .slice a n c] w fun e w' => e = .returned (.bool (flatR ds (xs.map Sg.ct))) ∧ Below w.heap.size w w' := by
  have HDC := kide (specDecls_any da dc ds w hd)
  have hl1 := hd.1
  have hl2 := hr.1
  rw [hn] at hl2
  rw [flatR_form]
  cases hD : dclR ds with
  | false =>
    rw [hD] at HDC
    clear hD
    go_enter Try.func24, Try.ntmps24
    go_wp2_with fail
    refine Calls.mono HDC.out ?_
    rintro e w1 ⟨rfl, hb1⟩
    go_wp2_with fail
    go_ret
    exact ⟨rfl, hb1⟩
  | true =>
    rw [hD] at HDC
    by_cases h1 : n < 1
    · have hR : (true && formR ds (xs.map Sg.ct)) = false := by
        have : xs = [] := List.eq_nil_of_length_eq_zero (by omega)
        simp [formR, this]
      rw [hR]
      clear hR hD
      go_enter Try.func24, Try.ntmps24
      go_wp2_with fail
      refine Calls.mono HDC.out ?_
      rintro e w1 ⟨rfl, hb1⟩
      go_wp2_with fail
      go_ret
      exact ⟨rfl, hb1⟩
    by_cases h2 : 2000 < n
    · have hR : (true && formR ds (xs.map Sg.ct)) = false := by
        have h : decide ((xs.map Sg.ct).length ≤ 2000) = false := decide_eq_false (by simp; omega)
        simp only [formR, h]; simp
      rw [hR]
      clear hR hD
      go_enter Try.func24, Try.ntmps24
      go_wp2_with fail
      refine Calls.mono HDC.out ?_
      rintro e w1 ⟨rfl, hb1⟩
      go_wp2_with fail
      go_ret
      exact ⟨rfl, hb1⟩
    generalize hZ : flAt ds (xs.map Sg.ct) 0 = Z
    have hR : (true && formR ds (xs.map Sg.ct)) = (Z && decide (sumS ((xs.map Sg.ct).take n) ≤ 4096)) := by
      have e1 : decide (1 ≤ (xs.map Sg.ct).length) = true := decide_eq_true (by simp; omega)
      have e2 : decide ((xs.map Sg.ct).length ≤ 2000) = true := decide_eq_true (by simp; omega)
      rw [List.take_of_length_le (by simp [hn])]
      simp only [formR, e1, e2, hZ, Bool.true_and]
    rw [hR]
    have HZ := kide hZ
    have HD := kide hd
    have HR := kide hr
    have HN := kide hn
    have HDCL := kide hD
    clear hZ hR hd hr hn hD
    go_enter Try.func24, Try.ntmps24
    go_wp2_with fail
    refine Calls.mono HDC.out ?_
    rintro e w1 ⟨rfl, hb1⟩
    have B1 := kide hb1
    clear hb1 HDC
    go_wp2_with fail
    go_loopw [5, 6] (fun q i wr => ∃ k : Nat, k ≤ n ∧ i = .int .i64 (k : Int) ∧ q = .int .i64 (sumS ((xs.map Sg.ct).take k)) ∧ 0 ≤ sumS ((xs.map Sg.ct).take k) ∧ sumS ((xs.map Sg.ct).take k) ≤ 4096 * (k : Int) ∧ flAt ds (xs.map Sg.ct) k = Z ∧ (∀ (i : Nat) (x : Sg), i < k → xs[i]? = some x → sgOk ds x.ct = true) ∧ Below w.heap.size w wr) (fun _ i _ => n - (intOf i).toNat)
    case atStart => exact ⟨0, Nat.zero_le _, rfl, by simp [sumS], by simp [sumS], by simp [sumS], HZ.out, fun i x h => by omega, B1.out⟩
    case round =>
      obtain ⟨k, hk, rfl, rfl, hq0, hq1, hz, hall, hbel⟩ := hrel
      have HB := kide hbel
      have HAL := kide hall
      by_cases hlt : k < n
      · obtain ⟨-, h | ⟨b2, o2, rfl, hc2⟩⟩ := HR.out
        · have := HN.out; subst h; simp at this; omega
        obtain ⟨⟨s, a1, c1⟩, gx⟩ : ∃ x, xs[k]? = some x := ⟨xs[k]'(by rw [HN.out]; exact hlt), List.getElem?_eq_getElem _⟩
        obtain ⟨⟨p0, p1, p2, p3, p4⟩, pr, -⟩ := (hc2 k _ gx).later hbel
        simp only [Sg.hd] at p0 p1 p2 p3 p4 pr
        have HOK := kide (l5Seg_any s a1 da c1 dc ds wr pr (HD.out.later hbel) HDCL.out)
        have GX := kide gx
        have gct : (xs.map Sg.ct)[k]? = some s := by rw [List.getElem?_map, gx]; rfl
        have hst := sumS_take gct
        have HST := kide hst
        have i0 : (k : Int) < (n : Int) := by omega
        have lb2 : b2 < wr.heap.size := block_lt_of_cell p0
        generalize sumS ((xs.map Sg.ct).take k) = Q at *
        cases hok : sgOk ds s with
        | false =>
          rw [hok] at HOK
          have HF : Hid (Z = false) := by
            show _ = _
            rw [← hz]
            cases k with
            | zero => rw [flAt_zero gct, hok]; rfl
            | succ k =>
              have hq : (xs.map Sg.ct)[k]? = some _ := List.getElem?_eq_getElem (by simp; have := HN.out; omega)
              rw [flAt_succ hq gct, hok]; rfl
          obtain ⟨v, lo, wd, bw, ws⟩ := s
          simp only [] at p0 p1 p2 p3 p4 HOK
          clear hc2 gx gct hz hall hbel HZ pr hok GX hst HST
          go_wp2_with fail
          refine Calls.mono HOK.out ?_
          rintro e w3 ⟨rfl, hb3⟩
          go_wp2_with fail
          go_ret
          exact ⟨ret_bool (by rw [HF.out]; rfl), HB.out.trans (hb3.mono HB.out.size)⟩
        | true =>
          rw [hok] at HOK
          have hbs := sgOk_bounds HDCL.out hok
          have HOKS := kide hok
          cases k with
          | zero =>
            rw [flAt_zero gct, hok, Bool.true_and] at hz
            have HZ1 := kide hz
            rw [Nat.zero_mul, Nat.add_zero] at p0 p1 p2 p3 p4
            obtain ⟨v, lo, wd, bw, ws⟩ := s
            simp only [] at p0 p1 p2 p3 p4 HOK hst hbs HST
            obtain ⟨hb1', hb2', -, -⟩ := hbs
            clear hc2 gx gct hz hall hbel HZ pr hok hst
            go_wp2_with fail
            refine Calls.mono HOK.out ?_
            rintro e w3 ⟨rfl, hb3⟩
            have x0 := (kcell hb3 b2 o2 lb2).trans p0
            have x1 := (kcell hb3 b2 (o2 + 1) lb2).trans p1
            have x2 := (kcell hb3 b2 (o2 + 2) lb2).trans p2
            have HB3 := kide (HB.out.trans (hb3.mono HB.out.size))
            clear hb3 p0 p1 p2 p3 p4
            go_wp2_with fail
            go_quiet (fail)
            go_wp2_with fail
            go_roundw
            case rel =>
              refine ⟨1, by omega, by go_num, by rw [HST.out], by rw [HST.out]; omega, by rw [HST.out]; omega, HZ1.out, fun i x hi hx => ?_, below_drewN HB3.out _⟩
              have : i = 0 := by omega
              subst this
              rw [GX.out] at hx
              cases hx
              exact HOKS.out
            case measure => simp [intOf]; omega
          | succ j =>
            obtain ⟨⟨s2, a2, cc2⟩, gx2⟩ : ∃ x, xs[j]? = some x := ⟨xs[j]'(by rw [HN.out]; omega), List.getElem?_eq_getElem _⟩
            obtain ⟨⟨q0, q1, q2, -⟩, -⟩ := (hc2 j _ gx2).later hbel
            simp only [Sg.hd] at q0 q1 q2
            have gct2 : (xs.map Sg.ct)[j]? = some s2 := by rw [List.getElem?_map, gx2]; rfl
            have hs2 := hall j _ (by omega) gx2
            simp only [] at hs2
            have hbd := sgOk_bounds HDCL.out hs2
            rw [flAt_succ gct2 gct, hok, Bool.true_and] at hz
            have HZ1 := kide hz
            have j1 : (j : Int) < (n : Int) := by omega
            have hwr1 : IntKind.i64.wrap (j : Int) = (j : Int) := kwrap (by omega)
            have hwr2 : IntKind.i64.wrap ((j : Int) + 1 - 1) = (j : Int) := (kwrap (by omega)).trans (by omega)
            obtain ⟨v, lo, wd, bw, ws⟩ := s
            obtain ⟨v2, lo2, wd2, bw2, ws2⟩ := s2
            simp only [oneB] at p0 p1 p2 p3 p4 q0 q1 q2 HOK HZ1 hbs hbd HST
            obtain ⟨hb1', hb2', hb3', hb4'⟩ := hbs
            obtain ⟨hb5, hb6, hb7, hb8⟩ := hbd
            have hwr4 : IntKind.i64.wrap (lo2 + wd2) = lo2 + wd2 := kwrap (by omega)
            clear hc2 gx gx2 gct gct2 hz hall hbel HZ pr hok hs2 hst
            go_wp2_with fail
            refine Calls.mono HOK.out ?_
            rintro e w3 ⟨rfl, hb3⟩
            have x0 := (kcell hb3 b2 (o2 + (j + 1) * 5) lb2).trans p0
            have x1 := (kcell hb3 b2 (o2 + (j + 1) * 5 + 1) lb2).trans p1
            have x2 := (kcell hb3 b2 (o2 + (j + 1) * 5 + 2) lb2).trans p2
            have y0 := (kcell hb3 b2 (o2 + j * 5) lb2).trans q0
            have y1 := (kcell hb3 b2 (o2 + j * 5 + 1) lb2).trans q1
            have y2 := (kcell hb3 b2 (o2 + j * 5 + 2) lb2).trans q2
            have HB3 := kide (HB.out.trans (hb3.mono HB.out.size))
            clear hb3 p0 p1 p2 p3 p4 q0 q1 q2
            by_cases hvv : v = v2
            · have e1 : (v == v2) = true := by simp [hvv]
              by_cases hv1 : v = -1
              · have e2 : (v == -1) = true := by simp [hv1]
                have HF : Hid (Z = false) := by have h := HZ1.out; simp [← hvv, hv1] at h; exact h
                clear hvv hv1
                go_wp2_with fail
                go_quiet (fail)
                go_wp2_with fail
                go_ret
                exact ⟨ret_bool (by rw [HF.out]; rfl), below_drewN HB3.out _⟩
              · have e2 : (v == -1) = false := by simp [hv1]
                by_cases hlw : lo = lo2 + wd2
                · have e3 : (lo == lo2 + wd2) = true := by simp [hlw]
                  have HF : Hid (Z = false) := by have h := HZ1.out; simp [← hvv, hv1, ← hlw] at h; exact h
                  clear hvv hv1 hlw
                  go_wp2_with fail
                  go_quiet (fail)
                  go_wp2_with fail
                  go_ret
                  exact ⟨ret_bool (by rw [HF.out]; rfl), below_drewN HB3.out _⟩
                · have e3 : (lo == lo2 + wd2) = false := by simp [hlw]
                  have HF : Hid (flAt ds (xs.map Sg.ct) (j + 1 + 1) = Z) := by
                    have h := HZ1.out
                    have h5 : ¬ lo2 + wd2 = lo := fun h => hlw h.symm
                    simp [← hvv, hv1, h5] at h; exact h
                  clear hvv hv1 hlw
                  go_wp2_with fail
                  go_quiet (fail)
                  go_wp2_with fail
                  go_roundw
                  case rel =>
                    refine ⟨j + 1 + 1, by omega, by go_num, by rw [HST.out], by rw [HST.out]; omega, by rw [HST.out]; omega, HF.out, fun i x hi hx => ?_, below_drewN HB3.out _⟩
                    by_cases hij : i = j + 1
                    · subst hij
                      rw [GX.out] at hx
                      cases hx
                      exact HOKS.out
                    · exact HAL.out i x (by omega) hx
                  case measure => simp [intOf]; omega
            · have e1 : (v == v2) = false := by simp [hvv]
              have HF : Hid (flAt ds (xs.map Sg.ct) (j + 1 + 1) = Z) := by
                have h := HZ1.out
                have h5 : ¬ v2 = v := fun h => hvv h.symm
                simp [h5] at h; exact h
              clear hvv
              go_wp2_with fail
              go_quiet (fail)
              go_wp2_with fail
              go_roundw
              case rel =>
                refine ⟨j + 1 + 1, by omega, by go_num, by rw [HST.out], by rw [HST.out]; omega, by rw [HST.out]; omega, HF.out, fun i x hi hx => ?_, below_drewN HB3.out _⟩
                by_cases hij : i = j + 1
                · subst hij
                  rw [GX.out] at hx
                  cases hx
                  exact HOKS.out
                · exact HAL.out i x (by omega) hx
              case measure => simp [intOf]; omega
      · have e : k = n := by omega
        have hZt : Z = true := by
          rw [← hz, e, ← HN.out]
          have := flAt_end (ds := ds) (fs := xs.map Sg.ct)
          rwa [List.length_map] at this
        subst hZt
        subst e
        generalize hQ : sumS ((xs.map Sg.ct).take k) = Q at *
        have HQ := kide hQ
        clear hz hall hbel HZ hQ
        go_wp2_with fail
        go_ret
        exact ⟨ret_bool (by rw [HQ.out]; simp), HB.out⟩

end Go.Proofs.Ytfanddpncipkkaa

/- What the program's FlatOk answers. -/
namespace Go.Proofs.Ytfanddpncipkkaa
set_option linter.unusedVariables false
set_option linter.unusedSimpArgs false
open Go.RowKit

theorem implFlat_any (a da : Option Addr) (c dc n : Nat) (ds : List Dc) (xs : List Sg) (w : World) (hd : RdD w da ds) (hr : RdS w a xs) (hn : xs.length = n) :
    Calls Try.prog 29 #[.slice da ds.length dc, .slice a n c] w fun e w' => e = .returned (.bool (flatR ds (xs.map Sg.ct))) ∧ Below w.heap.size w w' := by
  have HDC := kide (implDecls_any da dc ds w hd)
  rw [flatR_form]
  cases hD : dclR ds with
  | false =>
    rw [hD] at HDC
    clear hD
    go_enter Try.func29, Try.ntmps29
    go_wp2_with fail
    refine Calls.mono HDC.out ?_
    rintro e w1 ⟨rfl, hb1⟩
    go_wp2_with fail
    go_ret
    exact ⟨rfl, hb1⟩
  | true =>
    rw [hD] at HDC
    have HF := kide (fun u (hu : Below w.heap.size w u) => formOk_any a da c dc n ds xs u (hd.later hu) (hr.later hu) hn hD)
    generalize formR ds (xs.map Sg.ct) = R at *
    clear hD hd hr hn
    go_enter Try.func29, Try.ntmps29
    go_wp2_with fail
    refine Calls.mono HDC.out ?_
    rintro e w1 ⟨rfl, hb1⟩
    have B1 := kide hb1
    clear hb1
    go_wp2_with fail
    refine Calls.mono (HF.out w1 B1.out) ?_
    rintro e w2 ⟨rfl, hb2⟩
    go_wp2_with fail
    go_ret
    exact ⟨ret_bool (by simp), B1.out.trans (hb2.mono B1.out.size)⟩

end Go.Proofs.Ytfanddpncipkkaa
