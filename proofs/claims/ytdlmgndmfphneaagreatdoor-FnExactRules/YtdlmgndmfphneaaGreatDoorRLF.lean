/- The program's table of rules, and the site at a place of a term. -/
import Derived.Test.YtdlmgndmfphneaaGreatDoorZGAG
import Derived.Test.YtdlmgndmfphneaaGreatDoorZGAI
namespace Go.Proofs.YtdlmgndmfphneaaGreatDoor
set_option linter.unusedVariables false
set_option linter.unusedSimpArgs false
open Go.RowKit

def rwRow : Array Value := #[Value.int .i64 1, Value.func (Fn.func 50) #[] #[], Value.func (Fn.func 51) #[] #[], Value.int .i64 2, Value.func (Fn.func 52) #[] #[], Value.func (Fn.func 53) #[] #[], Value.int .i64 3, Value.func (Fn.func 54) #[] #[], Value.func (Fn.func 51) #[] #[], Value.int .i64 4, Value.func (Fn.func 55) #[] #[], Value.func (Fn.func 56) #[] #[], Value.int .i64 5, Value.func (Fn.func 57) #[] #[], Value.func (Fn.func 51) #[] #[], Value.int .i64 6, Value.func (Fn.func 58) #[] #[], Value.func (Fn.func 59) #[] #[], Value.int .i64 7, Value.func (Fn.func 60) #[] #[], Value.func (Fn.func 61) #[] #[], Value.int .i64 8, Value.func (Fn.func 62) #[] #[], Value.func (Fn.func 51) #[] #[], Value.int .i64 9, Value.func (Fn.func 63) #[] #[], Value.func (Fn.func 64) #[] #[], Value.int .i64 10, Value.func (Fn.func 65) #[] #[], Value.func (Fn.func 66) #[] #[], Value.int .i64 11, Value.func (Fn.func 67) #[] #[], Value.func (Fn.func 68) #[] #[]]
theorem rewrites_any (w : World) : Calls Tryz.prog 29 #[] w fun e w' => e = .returned (.slice (some ⟨w.heap.size, 0, none⟩) 11 11) ∧ w' = w.alloc (Obj.cells rwRow 73) := by
  go_enter Tryz.func29, Tryz.ntmps29
  go_wp2_with fail
  go_ret
  exact ⟨rfl, rfl⟩

set_option maxHeartbeats 2000000 in
set_option maxRecDepth 100000 in
theorem siteAt_no (a b : Option Addr) (c c2 n : Nat) (p : Int) (ds : List Dc) (xs : List Tg) (w : World) (hr : RdD w a ds) (hs : RdT w b xs) (hn : xs.length = n) (hG : GF w) (hp : (widthsR ds (xs.map Tg.ct)).length = 0 ∨ ¬ (0 ≤ p ∧ p < (n : Int))) :
    Calls Tryz.prog 28 #[.slice a ds.length c, .agg #[.slice b n c2], .int .i64 p] w fun e w' => e = .returned (.tuple #[.agg #[.slice none 0 0, .slice none 0 0, .int .i64 0, .int .i64 0, .int .i64 0, .int .i64 0, .int .i64 0, .int .i64 0, .slice none 0 0, .slice none 0 0], .bool false]) ∧ Below w.heap.size w w' := by
  have HRW := kide (fun u (hu : Below w.heap.size w u) => rightWidths_any a b c c2 n ds xs u (hr.later hu) (hs.later hu) hn (hG.later hu))
  obtain ⟨nd, hnd⟩ : ∃ m, ds.length = m := ⟨_, rfl⟩
  rw [hnd] at HRW ⊢
  have hl : (widthsR ds (xs.map Tg.ct)).length = 0 ∨ (widthsR ds (xs.map Tg.ct)).length = n := by
    by_cases h0 : (widthsR ds (xs.map Tg.ct)).length = 0
    · exact .inl h0
    · right; rw [(right_wd h0).2.1]; simpa using hn
  generalize widthsR ds (xs.map Tg.ct) = R at *
  have B0 : Hid (Below w.heap.size w ((w.alloc (Obj.cells #[Value.slice b n c2] 34)).alloc (Obj.cells #[Value.slice none 0 0, Value.slice none 0 0, Value.int .i64 0, Value.int .i64 0, Value.int .i64 0, Value.int .i64 0, Value.int .i64 0, Value.int .i64 0, Value.slice none 0 0, Value.slice none 0 0] 65))) := ((Below.refl _ _).alloc (Nat.le_refl _) _).alloc (by simp) _
  have X0 : Hid (Bz ((w.alloc (Obj.cells #[Value.slice b n c2] 34)).alloc (Obj.cells #[Value.slice none 0 0, Value.slice none 0 0, Value.int .i64 0, Value.int .i64 0, Value.int .i64 0, Value.int .i64 0, Value.int .i64 0, Value.int .i64 0, Value.slice none 0 0, Value.slice none 0 0] 65)) w.heap.size #[Value.slice b n c2] 34) := (Bz.new w _ _).later ((Below.refl _ _).alloc (Nat.le_refl _) _)
  have X1 : Hid (Bz ((w.alloc (Obj.cells #[Value.slice b n c2] 34)).alloc (Obj.cells #[Value.slice none 0 0, Value.slice none 0 0, Value.int .i64 0, Value.int .i64 0, Value.int .i64 0, Value.int .i64 0, Value.int .i64 0, Value.int .i64 0, Value.slice none 0 0, Value.slice none 0 0] 65)) (w.heap.size + 1) #[Value.slice none 0 0, Value.slice none 0 0, Value.int .i64 0, Value.int .i64 0, Value.int .i64 0, Value.int .i64 0, Value.int .i64 0, Value.int .i64 0, Value.slice none 0 0, Value.slice none 0 0] 65) := by
    have h9 := Bz.new (w.alloc (Obj.cells #[Value.slice b n c2] 34)) #[Value.slice none 0 0, Value.slice none 0 0, Value.int .i64 0, Value.int .i64 0, Value.int .i64 0, Value.int .i64 0, Value.int .i64 0, Value.int .i64 0, Value.slice none 0 0, Value.slice none 0 0] 65
    rw [show (w.alloc (Obj.cells #[Value.slice b n c2] 34)).heap.size = w.heap.size + 1 by simp] at h9
    exact h9
  clear hr hs hG hnd
  go_enter Tryz.func28, Tryz.ntmps28
  go_wp2_with fail
  generalize ((w.alloc (Obj.cells #[Value.slice b n c2] 34)).alloc (Obj.cells #[Value.slice none 0 0, Value.slice none 0 0, Value.int .i64 0, Value.int .i64 0, Value.int .i64 0, Value.int .i64 0, Value.int .i64 0, Value.int .i64 0, Value.slice none 0 0, Value.slice none 0 0] 65)) = W0 at *
  refine Calls.mono (HRW.out _ B0.out) ?_
  rintro e w2 ⟨a2, c3, rfl, hr2, hnl, hb⟩
  have B2 := kide (B0.out.trans (hb.mono B0.out.size))
  have X2 := kide (X1.out.later hb)
  have hl2 : (R.length : Int) = 0 ∨ (R.length : Int) = (n : Int) := by omega
  have hc : p < 0 ∨ 0 ≤ p ∧ (R.length : Int) ≤ p := by omega
  generalize R.length = rl at *
  obtain ⟨b1, hb1⟩ : ∃ b1, w.heap.size + 1 = b1 := ⟨_, rfl⟩
  have HL1 : Hid (w.heap.size ≤ b1) := by show _ ≤ _; omega
  rw [hb1] at X2
  try simp only [hb1]
  have e0 := X2.out.cell 0
  have f0 := X2.out.froz 0
  have e1 := X2.out.cell 1
  have f1 := X2.out.froz 1
  have e2 := X2.out.cell 2
  have f2 := X2.out.froz 2
  have e3 := X2.out.cell 3
  have f3 := X2.out.froz 3
  have e4 := X2.out.cell 4
  have f4 := X2.out.froz 4
  have e5 := X2.out.cell 5
  have f5 := X2.out.froz 5
  have e6 := X2.out.cell 6
  have f6 := X2.out.froz 6
  have e7 := X2.out.cell 7
  have f7 := X2.out.froz 7
  have e8 := X2.out.cell 8
  have f8 := X2.out.froz 8
  have e9 := X2.out.cell 9
  have f9 := X2.out.froz 9
  simp at e0 e1 e2 e3 e4 e5 e6 e7 e8 e9
  have XS : Hid (Bz ((((((((((w2.setCell ⟨b1, 0, none⟩ (Value.slice none 0 0)).setCell ⟨b1, 1, none⟩ (Value.slice none 0 0)).setCell ⟨b1, 2, none⟩ (Value.int .i64 0)).setCell ⟨b1, 3, none⟩ (Value.int .i64 0)).setCell ⟨b1, 4, none⟩ (Value.int .i64 0)).setCell ⟨b1, 5, none⟩ (Value.int .i64 0)).setCell ⟨b1, 6, none⟩ (Value.int .i64 0)).setCell ⟨b1, 7, none⟩ (Value.int .i64 0)).setCell ⟨b1, 8, none⟩ (Value.slice none 0 0)).setCell ⟨b1, 9, none⟩ (Value.slice none 0 0)) b1 #[Value.slice none 0 0, Value.slice none 0 0, Value.int .i64 0, Value.int .i64 0, Value.int .i64 0, Value.int .i64 0, Value.int .i64 0, Value.int .i64 0, Value.slice none 0 0, Value.slice none 0 0] 65) := ((((((((((X2.out.set 0 (Value.slice none 0 0)).set 1 (Value.slice none 0 0)).set 2 (Value.int .i64 0)).set 3 (Value.int .i64 0)).set 4 (Value.int .i64 0)).set 5 (Value.int .i64 0)).set 6 (Value.int .i64 0)).set 7 (Value.int .i64 0)).set 8 (Value.slice none 0 0)).set 9 (Value.slice none 0 0))
  have BS : Hid (Below w.heap.size w ((((((((((w2.setCell ⟨b1, 0, none⟩ (Value.slice none 0 0)).setCell ⟨b1, 1, none⟩ (Value.slice none 0 0)).setCell ⟨b1, 2, none⟩ (Value.int .i64 0)).setCell ⟨b1, 3, none⟩ (Value.int .i64 0)).setCell ⟨b1, 4, none⟩ (Value.int .i64 0)).setCell ⟨b1, 5, none⟩ (Value.int .i64 0)).setCell ⟨b1, 6, none⟩ (Value.int .i64 0)).setCell ⟨b1, 7, none⟩ (Value.int .i64 0)).setCell ⟨b1, 8, none⟩ (Value.slice none 0 0)).setCell ⟨b1, 9, none⟩ (Value.slice none 0 0))) := ((((((((((B2.out.setCell (p := ⟨b1, 0, none⟩) HL1.out (Value.slice none 0 0)).setCell (p := ⟨b1, 1, none⟩) HL1.out (Value.slice none 0 0)).setCell (p := ⟨b1, 2, none⟩) HL1.out (Value.int .i64 0)).setCell (p := ⟨b1, 3, none⟩) HL1.out (Value.int .i64 0)).setCell (p := ⟨b1, 4, none⟩) HL1.out (Value.int .i64 0)).setCell (p := ⟨b1, 5, none⟩) HL1.out (Value.int .i64 0)).setCell (p := ⟨b1, 6, none⟩) HL1.out (Value.int .i64 0)).setCell (p := ⟨b1, 7, none⟩) HL1.out (Value.int .i64 0)).setCell (p := ⟨b1, 8, none⟩) HL1.out (Value.slice none 0 0)).setCell (p := ⟨b1, 9, none⟩) HL1.out (Value.slice none 0 0))
  clear hb hr2 hnl hl hl2 hp hn hb1 HRW X1 X0
  rcases hc with hc | ⟨hc1, hc2⟩
  all_goals
    go_wp2_with fail
    generalize ((((((((((w2.setCell ⟨b1, 0, none⟩ (Value.slice none 0 0)).setCell ⟨b1, 1, none⟩ (Value.slice none 0 0)).setCell ⟨b1, 2, none⟩ (Value.int .i64 0)).setCell ⟨b1, 3, none⟩ (Value.int .i64 0)).setCell ⟨b1, 4, none⟩ (Value.int .i64 0)).setCell ⟨b1, 5, none⟩ (Value.int .i64 0)).setCell ⟨b1, 6, none⟩ (Value.int .i64 0)).setCell ⟨b1, 7, none⟩ (Value.int .i64 0)).setCell ⟨b1, 8, none⟩ (Value.slice none 0 0)).setCell ⟨b1, 9, none⟩ (Value.slice none 0 0)) = wf at *
    have y0 := XS.out.cell 0
    have y1 := XS.out.cell 1
    have y2 := XS.out.cell 2
    have y3 := XS.out.cell 3
    have y4 := XS.out.cell 4
    have y5 := XS.out.cell 5
    have y6 := XS.out.cell 6
    have y7 := XS.out.cell 7
    have y8 := XS.out.cell 8
    have y9 := XS.out.cell 9
    exact bodyPost_ret (v := .tuple #[.agg #[.slice none 0 0, .slice none 0 0, .int .i64 0, .int .i64 0, .int .i64 0, .int .i64 0, .int .i64 0, .int .i64 0, .slice none 0 0, .slice none 0 0], .bool false]) (by simp [results, Tryz.results28, go_sem, y0, y1, y2, y3, y4, y5, y6, y7, y8, y9]) rfl ⟨rfl, BS.out⟩

theorem rdi1 {w : World} {a2 : Option Addr} {R : List Int} {b1 k : Nat} {v : Value} (h : RdI w a2 R) (hne : ∀ o, a2 ≠ some ⟨b1, o, none⟩) : RdI (w.setCell ⟨b1, k, none⟩ v) a2 R := by
  refine ⟨h.1, h.2.1, ?_⟩
  rcases h.2.2 with h | ⟨b, o, rfl, hc⟩
  · exact .inl h
  · refine .inr ⟨b, o, rfl, fun i hi => ?_⟩
    have hb : b ≠ b1 := fun e => by subst e; exact hne o rfl
    exact (World.cell?_of_block (a := ⟨b, o + i, none⟩) (heap_setCell_other w ⟨b1, k, none⟩ b v (fun e => hb e))).trans (hc i hi)
theorem rdi_ne {w : World} {a2 : Option Addr} {R : List Int} {b1 : Nat} (hX : Bz w b1 #[Value.slice none 0 0, Value.slice none 0 0, Value.int .i64 0, Value.int .i64 0, Value.int .i64 0, Value.int .i64 0, Value.int .i64 0, Value.int .i64 0, Value.slice none 0 0, Value.slice none 0 0] 65) (h : RdI w a2 R) (hl : 0 < R.length) (h1 : 1 ≤ R.getD 0 0) : ∀ o, a2 ≠ some ⟨b1, o, none⟩ := fun o e => by
  rcases h.2.2 with h | ⟨b, o', e', hc⟩
  · rw [h] at hl; simp at hl
  · rw [e] at e'
    cases e'
    have h2 := hc 0 hl
    rw [Nat.add_zero, hX.cell o] at h2
    generalize R.getD 0 0 = r at *
    match o, h2 with
    | 0, h2 => simp at h2
    | 1, h2 => simp at h2
    | 2, h2 => simp at h2; omega
    | 3, h2 => simp at h2; omega
    | 4, h2 => simp at h2; omega
    | 5, h2 => simp at h2; omega
    | 6, h2 => simp at h2; omega
    | 7, h2 => simp at h2; omega
    | 8, h2 => simp at h2
    | 9, h2 => simp at h2
    | o + 10, h2 => simp at h2

set_option maxHeartbeats 4000000 in
set_option maxRecDepth 100000 in
theorem siteAt_yes (a b : Option Addr) (c c2 n q : Nat) (ds : List Dc) (xs : List Tg) (w : World) (hr : RdD w a ds) (hs : RdT w b xs) (hn : xs.length = n) (hG : GF w) (h0 : ¬ (widthsR ds (xs.map Tg.ct)).length = 0) (op vr A B bw : Int) (ws : List Nat) (ks : List Int) (wa ka : Option Addr) (wc kc : Nat) (hx : xs[q]? = some ⟨⟨op, vr, A, B, bw, ws, ks⟩, wa, wc, ka, kc⟩) :
    Calls Tryz.prog 28 #[.slice a ds.length c, .agg #[.slice b n c2], .int .i64 (q : Int)] w fun e w' => ∃ (nb no c3 : Nat) (a2 : Option Addr), b = some ⟨nb, no, none⟩ ∧ e = .returned (.tuple #[.agg #[.slice (some ⟨nb, no, none⟩) n c2, .slice a2 n c3, .int .i64 (q : Int), .int .i64 op, .int .i64 vr, .int .i64 A, .int .i64 B, .int .i64 bw, .slice wa ws.length wc, .slice ka ks.length kc], .bool true]) ∧ RdI w' a2 (widthsR ds (xs.map Tg.ct)) ∧ Below w.heap.size w w' := by
  have HRW := kide (fun u (hu : Below w.heap.size w u) => rightWidths_any a b c c2 n ds xs u (hr.later hu) (hs.later hu) hn (hG.later hu))
  obtain ⟨nd, hnd⟩ : ∃ m, ds.length = m := ⟨_, rfl⟩
  rw [hnd] at HRW ⊢
  have hl : (widthsR ds (xs.map Tg.ct)).length = n := by rw [(right_wd h0).2.1]; simpa using hn
  have hq : q < n := by rw [← hn]; exact (List.getElem?_eq_some_iff.1 hx).1
  have HRP : Hid (0 < (widthsR ds (xs.map Tg.ct)).length ∧ 1 ≤ (widthsR ds (xs.map Tg.ct)).getD 0 0) := ⟨by omega, (wd_pos (right_wd h0).2.2.1 (by omega)).1⟩
  generalize widthsR ds (xs.map Tg.ct) = R at *
  obtain ⟨nb, no, rfl, hat⟩ : ∃ nb no, b = some ⟨nb, no, none⟩ ∧ TgAt w nb (no + q * 7) ⟨⟨op, vr, A, B, bw, ws, ks⟩, wa, wc, ka, kc⟩ := by
    rcases hs.2 with h | ⟨nb, no, e, hc⟩
    · rw [h] at hx; simp at hx
    · exact ⟨nb, no, e, hc q _ hx⟩
  obtain ⟨⟨p0, p1, p2, p3, p4, p5, p6⟩, -⟩ := hat
  simp only [Tg.hd] at p0 p1 p2 p3 p4 p5 p6
  have lx := block_lt_of_cell p0
  have B0 : Hid (Below w.heap.size w ((w.alloc (Obj.cells #[Value.slice (some ⟨nb, no, none⟩) n c2] 34)).alloc (Obj.cells #[Value.slice none 0 0, Value.slice none 0 0, Value.int .i64 0, Value.int .i64 0, Value.int .i64 0, Value.int .i64 0, Value.int .i64 0, Value.int .i64 0, Value.slice none 0 0, Value.slice none 0 0] 65))) := ((Below.refl _ _).alloc (Nat.le_refl _) _).alloc (by simp) _
  have X0 : Hid (Bz ((w.alloc (Obj.cells #[Value.slice (some ⟨nb, no, none⟩) n c2] 34)).alloc (Obj.cells #[Value.slice none 0 0, Value.slice none 0 0, Value.int .i64 0, Value.int .i64 0, Value.int .i64 0, Value.int .i64 0, Value.int .i64 0, Value.int .i64 0, Value.slice none 0 0, Value.slice none 0 0] 65)) w.heap.size #[Value.slice (some ⟨nb, no, none⟩) n c2] 34) := (Bz.new w _ _).later ((Below.refl _ _).alloc (Nat.le_refl _) _)
  have X1 : Hid (Bz ((w.alloc (Obj.cells #[Value.slice (some ⟨nb, no, none⟩) n c2] 34)).alloc (Obj.cells #[Value.slice none 0 0, Value.slice none 0 0, Value.int .i64 0, Value.int .i64 0, Value.int .i64 0, Value.int .i64 0, Value.int .i64 0, Value.int .i64 0, Value.slice none 0 0, Value.slice none 0 0] 65)) (w.heap.size + 1) #[Value.slice none 0 0, Value.slice none 0 0, Value.int .i64 0, Value.int .i64 0, Value.int .i64 0, Value.int .i64 0, Value.int .i64 0, Value.int .i64 0, Value.slice none 0 0, Value.slice none 0 0] 65) := by
    have h9 := Bz.new (w.alloc (Obj.cells #[Value.slice (some ⟨nb, no, none⟩) n c2] 34)) #[Value.slice none 0 0, Value.slice none 0 0, Value.int .i64 0, Value.int .i64 0, Value.int .i64 0, Value.int .i64 0, Value.int .i64 0, Value.int .i64 0, Value.slice none 0 0, Value.slice none 0 0] 65
    rw [show (w.alloc (Obj.cells #[Value.slice (some ⟨nb, no, none⟩) n c2] 34)).heap.size = w.heap.size + 1 by simp] at h9
    exact h9
  clear hr hs hG hnd hx h0
  go_enter Tryz.func28, Tryz.ntmps28
  go_wp2_with fail
  generalize ((w.alloc (Obj.cells #[Value.slice (some ⟨nb, no, none⟩) n c2] 34)).alloc (Obj.cells #[Value.slice none 0 0, Value.slice none 0 0, Value.int .i64 0, Value.int .i64 0, Value.int .i64 0, Value.int .i64 0, Value.int .i64 0, Value.int .i64 0, Value.slice none 0 0, Value.slice none 0 0] 65)) = W0 at *
  refine Calls.mono (HRW.out _ B0.out) ?_
  rintro e w2 ⟨a2, c3, rfl, hr2, hnl, hb⟩
  have B2 := kide (B0.out.trans (hb.mono B0.out.size))
  have X2 := kide (X1.out.later hb)
  have T2 := kide (X0.out.later hb)
  have t0 := T2.out.cell 0
  have lt0 := T2.out.lt
  simp at t0
  rw [hl]
  have HR2 := kide hr2
  have HL := kide hl
  have i0 : (q : Int) < (n : Int) := by omega
  have ng1 : ¬ (n : Int) ≤ (q : Int) := by omega
  obtain ⟨b1, hb1⟩ : ∃ b1, w.heap.size + 1 = b1 := ⟨_, rfl⟩
  have HL1 : Hid (w.heap.size ≤ b1) := by show _ ≤ _; omega
  rw [hb1] at X2
  try simp only [hb1]
  rw [← kcell B2.out _ _ lx] at p0
  rw [← kcell B2.out _ _ lx] at p1
  rw [← kcell B2.out _ _ lx] at p2
  rw [← kcell B2.out _ _ lx] at p3
  rw [← kcell B2.out _ _ lx] at p4
  rw [← kcell B2.out _ _ lx] at p5
  rw [← kcell B2.out _ _ lx] at p6
  have e0 := X2.out.cell 0
  have f0 := X2.out.froz 0
  have e1 := X2.out.cell 1
  have f1 := X2.out.froz 1
  have e2 := X2.out.cell 2
  have f2 := X2.out.froz 2
  have e3 := X2.out.cell 3
  have f3 := X2.out.froz 3
  have e4 := X2.out.cell 4
  have f4 := X2.out.froz 4
  have e5 := X2.out.cell 5
  have f5 := X2.out.froz 5
  have e6 := X2.out.cell 6
  have f6 := X2.out.froz 6
  have e7 := X2.out.cell 7
  have f7 := X2.out.froz 7
  have e8 := X2.out.cell 8
  have f8 := X2.out.froz 8
  have e9 := X2.out.cell 9
  have f9 := X2.out.froz 9
  simp at e0 e1 e2 e3 e4 e5 e6 e7 e8 e9
  have lx2 := Nat.lt_of_lt_of_le lx B2.out.size
  have HLX : Hid (nb < w.heap.size) := lx
  clear hb hr2 hnl hl hn hb1 HRW X1 X0 lx lx2 hq
  obtain ⟨wn, hwn⟩ : ∃ m, ws.length = m := ⟨_, rfl⟩
  obtain ⟨kn, hkn⟩ : ∃ m, ks.length = m := ⟨_, rfl⟩
  rw [hwn] at p5
  rw [hkn] at p6
  have HWN := kide hwn
  have HKN := kide hkn
  clear hwn hkn
  go_wp2_with fail
  refine wp_region_x (SA := fun uu => uu.cell? ⟨w.heap.size, 0, none⟩ = some (Value.slice (some ⟨nb, no, none⟩) n c2) ∧ uu.cell? ⟨nb, no + q * 7, none⟩ = some (Value.int .i64 op) ∧ uu.cell? ⟨nb, no + q * 7 + 1, none⟩ = some (Value.int .i64 vr) ∧ uu.cell? ⟨nb, no + q * 7 + 2, none⟩ = some (Value.int .i64 A) ∧ uu.cell? ⟨nb, no + q * 7 + 3, none⟩ = some (Value.int .i64 B) ∧ uu.cell? ⟨nb, no + q * 7 + 4, none⟩ = some (Value.int .i64 bw) ∧ uu.cell? ⟨nb, no + q * 7 + 5, none⟩ = some (Value.slice wa wn wc) ∧ uu.cell? ⟨nb, no + q * 7 + 6, none⟩ = some (Value.slice ka kn kc)) (SB := fun _ => True) (k := 10) (by kernel_rfl) ?_
  have hbd : Below w2.heap.size w2 w2.drew := (Below.refl _ _).drew
  have X2d := kide (X2.out.later hbd)
  have B2d := kide (B2.out.trans (hbd.mono B2.out.size))
  have R2d := kide (HR2.out.later hbd)
  have hne := kide (rdi_ne X2d.out R2d.out HRP.out.1 HRP.out.2)
  have t2 := T2.out.later hbd
  have c0_0 : w2.drew.cell? ⟨w.heap.size, 0, none⟩ = some (Value.slice (some ⟨nb, no, none⟩) n c2) := t2.cell 0
  have c1_0 : w2.drew.cell? ⟨nb, no + q * 7, none⟩ = some (Value.int .i64 op) := (kcell hbd _ _ (Nat.lt_of_lt_of_le HLX.out B2.out.size)).trans p0
  have c2_0 : w2.drew.cell? ⟨nb, no + q * 7 + 1, none⟩ = some (Value.int .i64 vr) := (kcell hbd _ _ (Nat.lt_of_lt_of_le HLX.out B2.out.size)).trans p1
  have c3_0 : w2.drew.cell? ⟨nb, no + q * 7 + 2, none⟩ = some (Value.int .i64 A) := (kcell hbd _ _ (Nat.lt_of_lt_of_le HLX.out B2.out.size)).trans p2
  have c4_0 : w2.drew.cell? ⟨nb, no + q * 7 + 3, none⟩ = some (Value.int .i64 B) := (kcell hbd _ _ (Nat.lt_of_lt_of_le HLX.out B2.out.size)).trans p3
  have c5_0 : w2.drew.cell? ⟨nb, no + q * 7 + 4, none⟩ = some (Value.int .i64 bw) := (kcell hbd _ _ (Nat.lt_of_lt_of_le HLX.out B2.out.size)).trans p4
  have c6_0 : w2.drew.cell? ⟨nb, no + q * 7 + 5, none⟩ = some (Value.slice wa wn wc) := (kcell hbd _ _ (Nat.lt_of_lt_of_le HLX.out B2.out.size)).trans p5
  have c7_0 : w2.drew.cell? ⟨nb, no + q * 7 + 6, none⟩ = some (Value.slice ka kn kc) := (kcell hbd _ _ (Nat.lt_of_lt_of_le HLX.out B2.out.size)).trans p6
  clear hbd t2
  generalize w2.drew = m0 at *
  have hs0 : Hid ((fun uu => uu.cell? ⟨w.heap.size, 0, none⟩ = some (Value.slice (some ⟨nb, no, none⟩) n c2) ∧ uu.cell? ⟨nb, no + q * 7, none⟩ = some (Value.int .i64 op) ∧ uu.cell? ⟨nb, no + q * 7 + 1, none⟩ = some (Value.int .i64 vr) ∧ uu.cell? ⟨nb, no + q * 7 + 2, none⟩ = some (Value.int .i64 A) ∧ uu.cell? ⟨nb, no + q * 7 + 3, none⟩ = some (Value.int .i64 B) ∧ uu.cell? ⟨nb, no + q * 7 + 4, none⟩ = some (Value.int .i64 bw) ∧ uu.cell? ⟨nb, no + q * 7 + 5, none⟩ = some (Value.slice wa wn wc) ∧ uu.cell? ⟨nb, no + q * 7 + 6, none⟩ = some (Value.slice ka kn kc)) m0) := ⟨c0_0, c1_0, c2_0, c3_0, c4_0, c5_0, c6_0, c7_0⟩
  try go_simp
  refine wpAnyX_both (T := fun _ => True) (i := 0) (v := Value.pointer (some ⟨w.heap.size, 0, none⟩)) rfl (by kernel_rfl) (by kernel_rfl) (by kernel_rfl) (fun _ _ _ h => by first | exact h | exact h.elim) (by decide) (fun _ _ => trivial) (fun _ _ => trivial) (Sx.before (by kernel_rfl) hs0.out) (Or.inl ⟨by rfl, fun uu hu => by go_simp⟩) ?_
  try go_simp
  refine wpAnyX_take (i := 1) (v := Value.slice (some ⟨nb, no, none⟩) n c2) rfl (by kernel_rfl) (by kernel_rfl) (by kernel_rfl) (fun _ _ _ h => by first | exact h | exact h.elim) (by decide) (by kernel_rfl) (by kernel_rfl) hs0.out (Or.inl ⟨by rfl, fun uu hu => by obtain ⟨e0, e1, e2, e3, e4, e5, e6, e7⟩ := hu; go_simp⟩) ?_
  try go_simp
  refine wpAnyX_both (T := fun _ => True) (i := 2) (v := Value.slice a2 n c3) rfl (by kernel_rfl) (by kernel_rfl) (by kernel_rfl) (fun _ _ _ h => by first | exact h | exact h.elim) (by decide) (fun _ _ => trivial) (fun _ _ => trivial) (Sx.before (by kernel_rfl) hs0.out) (Or.inl ⟨by rfl, fun uu hu => by go_simp⟩) ?_
  try go_simp
  refine wpAnyX_both (T := fun _ => True) (i := 3) (v := Value.int .i64 (q : Int)) rfl (by kernel_rfl) (by kernel_rfl) (by kernel_rfl) (fun _ _ _ h => by first | exact h | exact h.elim) (by decide) (fun _ _ => trivial) (fun _ _ => trivial) (Sx.before (by kernel_rfl) hs0.out) (Or.inl ⟨by rfl, fun uu hu => by go_simp⟩) ?_
  try go_simp
  refine wpAnyX_both (T := fun _ => True) (i := 4) (v := Value.pointer (some ⟨w.heap.size, 0, none⟩)) rfl (by kernel_rfl) (by kernel_rfl) (by kernel_rfl) (fun _ _ _ h => by first | exact h | exact h.elim) (by decide) (fun _ _ => trivial) (fun _ _ => trivial) (Sx.before (by kernel_rfl) hs0.out) (Or.inl ⟨by rfl, fun uu hu => by go_simp⟩) ?_
  try go_simp
  refine wpAnyX_take (i := 5) (v := Value.slice (some ⟨nb, no, none⟩) n c2) rfl (by kernel_rfl) (by kernel_rfl) (by kernel_rfl) (fun _ _ _ h => by first | exact h | exact h.elim) (by decide) (by kernel_rfl) (by kernel_rfl) hs0.out (Or.inl ⟨by rfl, fun uu hu => by obtain ⟨e0, e1, e2, e3, e4, e5, e6, e7⟩ := hu; go_simp⟩) ?_
  try go_simp
  refine wpAnyX_both (T := fun _ => True) (i := 6) (v := Value.int .i64 (q : Int)) rfl (by kernel_rfl) (by kernel_rfl) (by kernel_rfl) (fun _ _ _ h => by first | exact h | exact h.elim) (by decide) (fun _ _ => trivial) (fun _ _ => trivial) (Sx.before (by kernel_rfl) hs0.out) (Or.inl ⟨by rfl, fun uu hu => by go_simp⟩) ?_
  try go_simp
  refine wpAnyX_both (T := fun _ => True) (i := 7) (v := Value.pointer (some ⟨nb, no + q * 7, none⟩)) rfl (by kernel_rfl) (by kernel_rfl) (by kernel_rfl) (fun _ _ _ h => by first | exact h | exact h.elim) (by decide) (fun _ _ => trivial) (fun _ _ => trivial) (Sx.before (by kernel_rfl) hs0.out) (Or.inl ⟨by rfl, fun uu hu => by go_simp⟩) ?_
  try go_simp
  refine wpAnyX_take (i := 8) (v := Value.agg #[Value.int .i64 op, Value.int .i64 vr, Value.int .i64 A, Value.int .i64 B, Value.int .i64 bw, Value.slice wa wn wc, Value.slice ka kn kc]) rfl (by kernel_rfl) (by kernel_rfl) (by kernel_rfl) (fun _ _ _ h => by first | exact h | exact h.elim) (by decide) (by kernel_rfl) (by kernel_rfl) hs0.out (Or.inl ⟨by rfl, fun uu hu => by obtain ⟨e0, e1, e2, e3, e4, e5, e6, e7⟩ := hu; go_simp⟩) ?_
  try go_simp
  refine wpAnyX_both (T := fun _ => True) (i := 9) (v := Value.agg #[Value.slice (some ⟨nb, no, none⟩) n c2, Value.slice a2 n c3, Value.int .i64 (q : Int), Value.int .i64 op, Value.int .i64 vr, Value.int .i64 A, Value.int .i64 B, Value.int .i64 bw, Value.slice wa wn wc, Value.slice ka kn kc]) rfl (by kernel_rfl) (by kernel_rfl) (by kernel_rfl) (fun _ _ _ h => by first | exact h | exact h.elim) (by decide) (fun _ _ => trivial) (fun _ _ => trivial) (Sx.before (by kernel_rfl) hs0.out) (Or.inl ⟨by rfl, fun uu hu => by go_simp⟩) ?_
  try go_simp
  refine wpAnyX_ready (rs := [10]) (by kernel_rfl) (by simp) (AllX.cons rfl (fun K hK => ?_) AllX.nil)
  have X2m := X2d.out
  have e0 := X2m.cell 0
  have e1 := X2m.cell 1
  have e2 := X2m.cell 2
  have e3 := X2m.cell 3
  have e4 := X2m.cell 4
  have e5 := X2m.cell 5
  have e6 := X2m.cell 6
  have e7 := X2m.cell 7
  have e8 := X2m.cell 8
  have e9 := X2m.cell 9
  have f0 := X2m.froz 0
  have f1 := X2m.froz 1
  have f2 := X2m.froz 2
  have f3 := X2m.froz 3
  have f4 := X2m.froz 4
  have f5 := X2m.froz 5
  have f6 := X2m.froz 6
  have f7 := X2m.froz 7
  have f8 := X2m.froz 8
  have f9 := X2m.froz 9
  simp at e0 e1 e2 e3 e4 e5 e6 e7 e8 e9
  go_simp
  have xs0 : Bz (m0.setCell ⟨b1, 0, none⟩ (Value.slice (some ⟨nb, no, none⟩) n c2)) b1 #[Value.slice (some ⟨nb, no, none⟩) n c2, Value.slice none 0 0, Value.int .i64 0, Value.int .i64 0, Value.int .i64 0, Value.int .i64 0, Value.int .i64 0, Value.int .i64 0, Value.slice none 0 0, Value.slice none 0 0] 65 := X2m.set 0 _
  have xs1 : Bz ((m0.setCell ⟨b1, 0, none⟩ (Value.slice (some ⟨nb, no, none⟩) n c2)).setCell ⟨b1, 1, none⟩ (Value.slice a2 n c3)) b1 #[Value.slice (some ⟨nb, no, none⟩) n c2, Value.slice a2 n c3, Value.int .i64 0, Value.int .i64 0, Value.int .i64 0, Value.int .i64 0, Value.int .i64 0, Value.int .i64 0, Value.slice none 0 0, Value.slice none 0 0] 65 := xs0.set 1 _
  have xs2 : Bz (((m0.setCell ⟨b1, 0, none⟩ (Value.slice (some ⟨nb, no, none⟩) n c2)).setCell ⟨b1, 1, none⟩ (Value.slice a2 n c3)).setCell ⟨b1, 2, none⟩ (Value.int .i64 (q : Int))) b1 #[Value.slice (some ⟨nb, no, none⟩) n c2, Value.slice a2 n c3, Value.int .i64 (q : Int), Value.int .i64 0, Value.int .i64 0, Value.int .i64 0, Value.int .i64 0, Value.int .i64 0, Value.slice none 0 0, Value.slice none 0 0] 65 := xs1.set 2 _
  have xs3 : Bz ((((m0.setCell ⟨b1, 0, none⟩ (Value.slice (some ⟨nb, no, none⟩) n c2)).setCell ⟨b1, 1, none⟩ (Value.slice a2 n c3)).setCell ⟨b1, 2, none⟩ (Value.int .i64 (q : Int))).setCell ⟨b1, 3, none⟩ (Value.int .i64 op)) b1 #[Value.slice (some ⟨nb, no, none⟩) n c2, Value.slice a2 n c3, Value.int .i64 (q : Int), Value.int .i64 op, Value.int .i64 0, Value.int .i64 0, Value.int .i64 0, Value.int .i64 0, Value.slice none 0 0, Value.slice none 0 0] 65 := xs2.set 3 _
  have xs4 : Bz (((((m0.setCell ⟨b1, 0, none⟩ (Value.slice (some ⟨nb, no, none⟩) n c2)).setCell ⟨b1, 1, none⟩ (Value.slice a2 n c3)).setCell ⟨b1, 2, none⟩ (Value.int .i64 (q : Int))).setCell ⟨b1, 3, none⟩ (Value.int .i64 op)).setCell ⟨b1, 4, none⟩ (Value.int .i64 vr)) b1 #[Value.slice (some ⟨nb, no, none⟩) n c2, Value.slice a2 n c3, Value.int .i64 (q : Int), Value.int .i64 op, Value.int .i64 vr, Value.int .i64 0, Value.int .i64 0, Value.int .i64 0, Value.slice none 0 0, Value.slice none 0 0] 65 := xs3.set 4 _
  have xs5 : Bz ((((((m0.setCell ⟨b1, 0, none⟩ (Value.slice (some ⟨nb, no, none⟩) n c2)).setCell ⟨b1, 1, none⟩ (Value.slice a2 n c3)).setCell ⟨b1, 2, none⟩ (Value.int .i64 (q : Int))).setCell ⟨b1, 3, none⟩ (Value.int .i64 op)).setCell ⟨b1, 4, none⟩ (Value.int .i64 vr)).setCell ⟨b1, 5, none⟩ (Value.int .i64 A)) b1 #[Value.slice (some ⟨nb, no, none⟩) n c2, Value.slice a2 n c3, Value.int .i64 (q : Int), Value.int .i64 op, Value.int .i64 vr, Value.int .i64 A, Value.int .i64 0, Value.int .i64 0, Value.slice none 0 0, Value.slice none 0 0] 65 := xs4.set 5 _
  have xs6 : Bz (((((((m0.setCell ⟨b1, 0, none⟩ (Value.slice (some ⟨nb, no, none⟩) n c2)).setCell ⟨b1, 1, none⟩ (Value.slice a2 n c3)).setCell ⟨b1, 2, none⟩ (Value.int .i64 (q : Int))).setCell ⟨b1, 3, none⟩ (Value.int .i64 op)).setCell ⟨b1, 4, none⟩ (Value.int .i64 vr)).setCell ⟨b1, 5, none⟩ (Value.int .i64 A)).setCell ⟨b1, 6, none⟩ (Value.int .i64 B)) b1 #[Value.slice (some ⟨nb, no, none⟩) n c2, Value.slice a2 n c3, Value.int .i64 (q : Int), Value.int .i64 op, Value.int .i64 vr, Value.int .i64 A, Value.int .i64 B, Value.int .i64 0, Value.slice none 0 0, Value.slice none 0 0] 65 := xs5.set 6 _
  have xs7 : Bz ((((((((m0.setCell ⟨b1, 0, none⟩ (Value.slice (some ⟨nb, no, none⟩) n c2)).setCell ⟨b1, 1, none⟩ (Value.slice a2 n c3)).setCell ⟨b1, 2, none⟩ (Value.int .i64 (q : Int))).setCell ⟨b1, 3, none⟩ (Value.int .i64 op)).setCell ⟨b1, 4, none⟩ (Value.int .i64 vr)).setCell ⟨b1, 5, none⟩ (Value.int .i64 A)).setCell ⟨b1, 6, none⟩ (Value.int .i64 B)).setCell ⟨b1, 7, none⟩ (Value.int .i64 bw)) b1 #[Value.slice (some ⟨nb, no, none⟩) n c2, Value.slice a2 n c3, Value.int .i64 (q : Int), Value.int .i64 op, Value.int .i64 vr, Value.int .i64 A, Value.int .i64 B, Value.int .i64 bw, Value.slice none 0 0, Value.slice none 0 0] 65 := xs6.set 7 _
  have xs8 : Bz (((((((((m0.setCell ⟨b1, 0, none⟩ (Value.slice (some ⟨nb, no, none⟩) n c2)).setCell ⟨b1, 1, none⟩ (Value.slice a2 n c3)).setCell ⟨b1, 2, none⟩ (Value.int .i64 (q : Int))).setCell ⟨b1, 3, none⟩ (Value.int .i64 op)).setCell ⟨b1, 4, none⟩ (Value.int .i64 vr)).setCell ⟨b1, 5, none⟩ (Value.int .i64 A)).setCell ⟨b1, 6, none⟩ (Value.int .i64 B)).setCell ⟨b1, 7, none⟩ (Value.int .i64 bw)).setCell ⟨b1, 8, none⟩ (Value.slice wa wn wc)) b1 #[Value.slice (some ⟨nb, no, none⟩) n c2, Value.slice a2 n c3, Value.int .i64 (q : Int), Value.int .i64 op, Value.int .i64 vr, Value.int .i64 A, Value.int .i64 B, Value.int .i64 bw, Value.slice wa wn wc, Value.slice none 0 0] 65 := xs7.set 8 _
  have xs9 : Bz ((((((((((m0.setCell ⟨b1, 0, none⟩ (Value.slice (some ⟨nb, no, none⟩) n c2)).setCell ⟨b1, 1, none⟩ (Value.slice a2 n c3)).setCell ⟨b1, 2, none⟩ (Value.int .i64 (q : Int))).setCell ⟨b1, 3, none⟩ (Value.int .i64 op)).setCell ⟨b1, 4, none⟩ (Value.int .i64 vr)).setCell ⟨b1, 5, none⟩ (Value.int .i64 A)).setCell ⟨b1, 6, none⟩ (Value.int .i64 B)).setCell ⟨b1, 7, none⟩ (Value.int .i64 bw)).setCell ⟨b1, 8, none⟩ (Value.slice wa wn wc)).setCell ⟨b1, 9, none⟩ (Value.slice ka kn kc)) b1 #[Value.slice (some ⟨nb, no, none⟩) n c2, Value.slice a2 n c3, Value.int .i64 (q : Int), Value.int .i64 op, Value.int .i64 vr, Value.int .i64 A, Value.int .i64 B, Value.int .i64 bw, Value.slice wa wn wc, Value.slice ka kn kc] 65 := xs8.set 9 _
  have XS := kide xs9
  clear xs0 xs1 xs2 xs3 xs4 xs5 xs6 xs7 xs8 xs9
  have BS : Hid (Below w.heap.size w ((((((((((m0.setCell ⟨b1, 0, none⟩ (Value.slice (some ⟨nb, no, none⟩) n c2)).setCell ⟨b1, 1, none⟩ (Value.slice a2 n c3)).setCell ⟨b1, 2, none⟩ (Value.int .i64 (q : Int))).setCell ⟨b1, 3, none⟩ (Value.int .i64 op)).setCell ⟨b1, 4, none⟩ (Value.int .i64 vr)).setCell ⟨b1, 5, none⟩ (Value.int .i64 A)).setCell ⟨b1, 6, none⟩ (Value.int .i64 B)).setCell ⟨b1, 7, none⟩ (Value.int .i64 bw)).setCell ⟨b1, 8, none⟩ (Value.slice wa wn wc)).setCell ⟨b1, 9, none⟩ (Value.slice ka kn kc))) := ((((((((((B2d.out.setCell (p := ⟨b1, 0, none⟩) HL1.out (Value.slice (some ⟨nb, no, none⟩) n c2)).setCell (p := ⟨b1, 1, none⟩) HL1.out (Value.slice a2 n c3)).setCell (p := ⟨b1, 2, none⟩) HL1.out (Value.int .i64 (q : Int))).setCell (p := ⟨b1, 3, none⟩) HL1.out (Value.int .i64 op)).setCell (p := ⟨b1, 4, none⟩) HL1.out (Value.int .i64 vr)).setCell (p := ⟨b1, 5, none⟩) HL1.out (Value.int .i64 A)).setCell (p := ⟨b1, 6, none⟩) HL1.out (Value.int .i64 B)).setCell (p := ⟨b1, 7, none⟩) HL1.out (Value.int .i64 bw)).setCell (p := ⟨b1, 8, none⟩) HL1.out (Value.slice wa wn wc)).setCell (p := ⟨b1, 9, none⟩) HL1.out (Value.slice ka kn kc))
  have RS : Hid (RdI ((((((((((m0.setCell ⟨b1, 0, none⟩ (Value.slice (some ⟨nb, no, none⟩) n c2)).setCell ⟨b1, 1, none⟩ (Value.slice a2 n c3)).setCell ⟨b1, 2, none⟩ (Value.int .i64 (q : Int))).setCell ⟨b1, 3, none⟩ (Value.int .i64 op)).setCell ⟨b1, 4, none⟩ (Value.int .i64 vr)).setCell ⟨b1, 5, none⟩ (Value.int .i64 A)).setCell ⟨b1, 6, none⟩ (Value.int .i64 B)).setCell ⟨b1, 7, none⟩ (Value.int .i64 bw)).setCell ⟨b1, 8, none⟩ (Value.slice wa wn wc)).setCell ⟨b1, 9, none⟩ (Value.slice ka kn kc)) a2 R) := rdi1 (rdi1 (rdi1 (rdi1 (rdi1 (rdi1 (rdi1 (rdi1 (rdi1 (rdi1 (R2d.out) hne.out) hne.out) hne.out) hne.out) hne.out) hne.out) hne.out) hne.out) hne.out) hne.out
  generalize ((((((((((m0.setCell ⟨b1, 0, none⟩ (Value.slice (some ⟨nb, no, none⟩) n c2)).setCell ⟨b1, 1, none⟩ (Value.slice a2 n c3)).setCell ⟨b1, 2, none⟩ (Value.int .i64 (q : Int))).setCell ⟨b1, 3, none⟩ (Value.int .i64 op)).setCell ⟨b1, 4, none⟩ (Value.int .i64 vr)).setCell ⟨b1, 5, none⟩ (Value.int .i64 A)).setCell ⟨b1, 6, none⟩ (Value.int .i64 B)).setCell ⟨b1, 7, none⟩ (Value.int .i64 bw)).setCell ⟨b1, 8, none⟩ (Value.slice wa wn wc)).setCell ⟨b1, 9, none⟩ (Value.slice ka kn kc)) = m1 at *
  clear X2m e0 f0 e1 f1 e2 f2 e3 f3 e4 f4 e5 f5 e6 f6 e7 f7 e8 f8 e9 f9
  refine hK _ _ (Sx.behind (by kernel_rfl) trivial) ?_
  clear hK K
  try go_simp
  refine wpAnyX_both (T := fun _ => True) (i := 11) (v := Value.bool true) rfl (by kernel_rfl) (by kernel_rfl) (by kernel_rfl) (fun _ _ _ h => by first | exact h | exact h.elim) (by decide) (fun _ _ => trivial) (fun _ _ => trivial) (Sx.behind (by kernel_rfl) trivial) (Or.inl ⟨by rfl, fun uu hu => by go_simp⟩) ?_
  try go_simp
  refine wpAnyX_done (by kernel_rfl) ?_ _
  go_wp2_with fail
  have y0 := XS.out.cell 0
  have y1 := XS.out.cell 1
  have y2 := XS.out.cell 2
  have y3 := XS.out.cell 3
  have y4 := XS.out.cell 4
  have y5 := XS.out.cell 5
  have y6 := XS.out.cell 6
  have y7 := XS.out.cell 7
  have y8 := XS.out.cell 8
  have y9 := XS.out.cell 9
  exact bodyPost_ret (v := .tuple #[.agg #[.slice (some ⟨nb, no, none⟩) n c2, .slice a2 n c3, .int .i64 (q : Int), .int .i64 op, .int .i64 vr, .int .i64 A, .int .i64 B, .int .i64 bw, .slice wa wn wc, .slice ka kn kc], .bool true]) (by simp [results, Tryz.results28, go_sem, y0, y1, y2, y3, y4, y5, y6, y7, y8, y9]) rfl (by refine ⟨nb, no, ⟨rfl, rfl⟩, c3, a2, ?_, RS.out, BS.out⟩; rw [HWN.out, HKN.out])

end Go.Proofs.YtdlmgndmfphneaaGreatDoor
