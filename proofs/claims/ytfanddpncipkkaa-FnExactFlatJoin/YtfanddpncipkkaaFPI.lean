/- So many bits of a segment. -/
import Derived.Test.YtfanddpncipkkaaFPG

import Derived.Test.YtfanddpncipkkaaQ
import Derived.Handy
namespace Go.Proofs.Ytfanddpncipkkaa
set_option linter.unusedVariables false
set_option linter.unusedSimpArgs false
open Go.RowKit

/-- What segPart tells. -/
def RetCu (x : Sg) (p m : Nat) (w : World) (e : Ending) (w' : World) : Prop := ∃ a c, e = .returned (sgV ⟨cutS x.ct p m, a, c⟩) ∧ Rd w' a (cutS x.ct p m).ws ∧ (a = none → c = 0) ∧ (∀ q, a = some q → (x.a = some q ∨ w.heap.size ≤ q.block) ∧ q.block < w'.heap.size) ∧ Below w.heap.size w w'

theorem Fresh.rdq {w : World} {lo : Nat} {a : Option Addr} {ys : List Nat} (h : Fresh w lo a ys) (h1 : 1 ≤ ys.length) (hl : ys.length ≤ 1048576) (hx : ∀ x ∈ ys, x < 18446744073709551616) : Rd w a ys ∧ ∃ g, a = some ⟨g, 0, none⟩ ∧ lo ≤ g ∧ g < w.heap.size := by
  rcases h with ⟨h2, h3⟩ | ⟨g, h3, h4, h5⟩
  · rw [h2] at h1; simp at h1
  · exact ⟨by rw [h3]; exact h5.rd hl hx, g, h3, h4, h5.lt⟩

set_option maxHeartbeats 400000 in
theorem constSeg_any (W : Int) (a : Option Addr) (n c : Nat) (w : World) :
    Calls Try.prog 83 #[.agg #[.int .i64 W, .slice a n c]] w fun e w' => e = .returned (.agg #[.int .i64 (-1), .int .i64 0, .int .i64 W, .int .i64 W, .slice a n c]) ∧ Below w.heap.size w w' := by
  have BB : Hid (Below w.heap.size w ((w.alloc (Obj.cells #[Value.int .i64 W, Value.slice a n c] 45)).alloc (Obj.cells #[Value.int .i64 (-1), Value.int .i64 0, Value.int .i64 W, Value.int .i64 W, Value.slice a n c] 47))) := ((Below.refl _ _).alloc (Nat.le_refl _) _).alloc (by simp) _
  go_enter Try.func83, Try.ntmps83
  go_wp2_with fail
  exact bodyPost_ret (v := .agg #[.int .i64 (-1), .int .i64 0, .int .i64 W, .int .i64 W, .slice a n c]) (by simp [results, Try.results83, go_sem]) rfl ⟨rfl, BB.out⟩

set_option maxHeartbeats 1000000 in
theorem segPart_any (x : Sg) (p m : Nat) (w : World) (hok : okS x.ct) (hlo : 0 ≤ x.ct.lo ∧ x.ct.lo + x.ct.wd ≤ 4096) (hm : 1 ≤ m) (hp : (p : Int) + m ≤ x.ct.wd) (hr : Rd w x.a x.ct.ws) (hn : x.a = none → x.c = 0) (hl : ∀ q, x.a = some q → q.block < w.heap.size) :
    Calls Try.prog 59 #[.agg #[.int .i64 x.ct.v, .int .i64 x.ct.lo, .int .i64 x.ct.wd, .int .i64 x.ct.bw, .slice x.a x.ct.ws.length x.c], .int .i64 (p : Int), .int .i64 (m : Int)] w (RetCu x p m w) := by
  obtain ⟨⟨v, lo, wd, bw, ws⟩, sa, sc⟩ := x
  simp only [] at hok hlo hp hr hn hl ⊢
  have hwd := hok.2.1
  simp only [] at hwd
  obtain ⟨wl, hwl⟩ : ∃ n, ws.length = n := ⟨_, rfl⟩
  have HWL := kide hwl
  by_cases e1 : (m : Int) = wd
  · have hc : cutS ⟨v, lo, wd, bw, ws⟩ p m = ⟨v, lo, wd, bw, ws⟩ := by unfold cutS; rw [if_pos e1]
    unfold RetCu
    simp only []
    rw [hc]
    unfold sgV
    simp only []
    subst e1
    have hb : Below w.heap.size w ((w.alloc (Obj.cells #[Value.int .i64 v, Value.int .i64 lo, Value.int .i64 (m : Int), Value.int .i64 bw, Value.slice sa wl sc] 47)).alloc (Obj.cells #[Value.int .i64 v, Value.int .i64 lo, Value.int .i64 (m : Int), Value.int .i64 bw, Value.slice sa wl sc] 47)) := ((Below.refl _ _).alloc (Nat.le_refl _) _).alloc (by simp) _
    have BB := kide hb
    have HR := kide hr
    have HN := kide hn
    have HL := kide hl
    clear hc hr hn hl hok hb
    rw [hwl]
    clear hwl
    go_enter Try.func59, Try.ntmps59
    go_wp2_with fail
    exact bodyPost_ret (v := .agg #[.int .i64 v, .int .i64 lo, .int .i64 (m : Int), .int .i64 bw, .slice sa wl sc]) (by simp [results, Try.results59, go_sem]) rfl ⟨sa, sc, rfl, HR.out.later BB.out, HN.out, fun q hq => ⟨.inl hq, Nat.lt_of_lt_of_le (HL.out q hq) BB.out.size⟩, BB.out⟩
  · have e1b : ((m : Int) == wd) = false := beq_eq_false_iff_ne.2 e1
    by_cases e2 : v = -1
    · have hbw : bw = wd := by
        rcases hok.2.2.2 with h9 | h9
        · exact h9.2.2.1
        · simp only [] at h9; omega
      have hrt : rightB bw ws = true := by
        rcases hok.2.2.2 with h9 | h9
        · exact h9.2.2.2
        · simp only [] at h9; omega
      subst e2 hbw
      obtain ⟨W, rfl⟩ := Int.eq_ofNat_of_zero_le (show 0 ≤ bw by omega)
      obtain ⟨P9, hP9⟩ : ∃ P, pack (((bitsTo ws W).drop p).take m) = P := ⟨_, rfl⟩
      have hc : cutS ⟨-1, lo, (W : Int), (W : Int), ws⟩ p m = ⟨-1, 0, (m : Int), (m : Int), P9⟩ := by
        unfold cutS
        rw [if_neg e1, if_pos rfl]
        simp only [Int.toNat_natCast, hP9]
      have hPL : P9.length = (m + 63) / 64 := by rw [← hP9, pack_len, cut_len _ _ _ _ (by omega)]
      have hpart : partR (W : Int) ws ((p : Int) + (m : Int) - 1) (p : Int) = ((m : Int), P9, true) := by
        unfold partR
        rw [if_pos ⟨hrt, by omega, by omega, by omega⟩]
        rw [Int.toNat_natCast, Int.toNat_natCast, show (p : Int) + (m : Int) - 1 - (p : Int) + 1 = (m : Int) by omega, Int.toNat_natCast, hP9]
      have HPL : Hid (1 ≤ P9.length ∧ P9.length ≤ 1048576 ∧ ∀ x ∈ P9, x < 18446744073709551616) := ⟨by omega, by omega, by rw [← hP9]; exact pack_lt _⟩
      unfold RetCu
      simp only []
      rw [hc]
      unfold sgV
      simp only []
      have HPT := kide (fun u (hu : Below w.heap.size w u) => implPart_any (W : Int) sa sc ws ((p : Int) + (m : Int) - 1) (p : Int) u (hr.later hu) (WalkArith.wf_i64 ⟨by omega, by omega⟩))
      rw [hpart, hwl] at HPT
      rw [hwl]
      have hw1 : IntKind.i64.wrap ((p : Int) + (m : Int)) = (p : Int) + (m : Int) := by rw [IntKind.wrap_i64]; omega
      have hw2 : IntKind.i64.wrap ((p : Int) + (m : Int) - 1) = (p : Int) + (m : Int) - 1 := by rw [IntKind.wrap_i64]; omega
      have hb1 : Below w.heap.size w ((w.alloc (Obj.cells #[Value.int .i64 (-1), Value.int .i64 lo, Value.int .i64 (W : Int), Value.int .i64 (W : Int), Value.slice sa wl sc] 47)).alloc (Obj.cells #[Value.int .i64 0, Value.int .i64 0, Value.int .i64 0, Value.int .i64 0, Value.slice none 0 0] 47)) := ((Below.refl _ _).alloc (Nat.le_refl _) _).alloc (by simp) _
      have XB := kide ((Bz.new w #[Value.int .i64 (-1), Value.int .i64 lo, Value.int .i64 (W : Int), Value.int .i64 (W : Int), Value.slice sa wl sc] 47).later ((Below.refl _ _).alloc (Nat.le_refl _) (Obj.cells #[Value.int .i64 0, Value.int .i64 0, Value.int .i64 0, Value.int .i64 0, Value.slice none 0 0] 47)))
      have XR : Hid (Bz ((w.alloc (Obj.cells #[Value.int .i64 (-1), Value.int .i64 lo, Value.int .i64 (W : Int), Value.int .i64 (W : Int), Value.slice sa wl sc] 47)).alloc (Obj.cells #[Value.int .i64 0, Value.int .i64 0, Value.int .i64 0, Value.int .i64 0, Value.slice none 0 0] 47)) (w.heap.size + 1) #[Value.int .i64 0, Value.int .i64 0, Value.int .i64 0, Value.int .i64 0, Value.slice none 0 0] 47) := by
        have h9 := Bz.new (w.alloc (Obj.cells #[Value.int .i64 (-1), Value.int .i64 lo, Value.int .i64 (W : Int), Value.int .i64 (W : Int), Value.slice sa wl sc] 47)) #[Value.int .i64 0, Value.int .i64 0, Value.int .i64 0, Value.int .i64 0, Value.slice none 0 0] 47
        rwa [show (w.alloc (Obj.cells #[Value.int .i64 (-1), Value.int .i64 lo, Value.int .i64 (W : Int), Value.int .i64 (W : Int), Value.slice sa wl sc] 47)).heap.size = w.heap.size + 1 by simp] at h9
      have BV := kide hb1
      clear hok hr hn hl hc hpart hP9 hPL hrt hb1
      go_enter Try.func59, Try.ntmps59
      go_wp2_with fail
      generalize (w.alloc (Obj.cells #[Value.int .i64 (-1), Value.int .i64 lo, Value.int .i64 (W : Int), Value.int .i64 (W : Int), Value.slice sa wl sc] 47)).alloc (Obj.cells #[Value.int .i64 0, Value.int .i64 0, Value.int .i64 0, Value.int .i64 0, Value.slice none 0 0] 47) = V at *
      refine Calls.mono (HPT.out V BV.out) ?_
      rintro e V2 ⟨a9, c9, rfl, hf9, hb9⟩
      obtain ⟨r9, g9, rfl, l9, m9⟩ := hf9.rdq HPL.out.1 HPL.out.2.1 HPL.out.2.2
      have XR2 := kide (XR.out.later hb9)
      have R9 := kide r9
      have B2 := kide (BV.out.trans (hb9.mono BV.out.size))
      have LG : Hid (w.heap.size ≤ g9) := Nat.le_trans BV.out.size l9
      have LV := kide l9
      clear hf9 r9 hb9 l9
      have BA : Hid (Below V2.heap.size V2 (V2.alloc (Obj.cells #[Value.int .i64 (m : Int), Value.slice (some ⟨g9, 0, none⟩) P9.length c9] 45))) := (Below.refl _ _).alloc (Nat.le_refl _) _
      go_wp2_with fail
      refine Calls.mono (constSeg_any _ _ _ _ _) ?_
      rintro e V3 ⟨rfl, hb3⟩
      have b3 := BA.out.trans (hb3.mono BA.out.size)
      have XR3 := XR2.out.later b3
      have B3 := kide (B2.out.trans (b3.mono B2.out.size))
      have R3 := kide (R9.out.later b3)
      have m3 : g9 < V3.heap.size := Nat.lt_of_lt_of_le m9 b3.size
      have y0 := XR3.cell 0
      have y1 := XR3.cell 1
      have y2 := XR3.cell 2
      have y3 := XR3.cell 3
      have y4 := XR3.cell 4
      have z0 := XR3.froz 0
      have z1 := XR3.froz 1
      have z2 := XR3.froz 2
      have z3 := XR3.froz 3
      have z4 := XR3.froz 4
      simp at y0 y1 y2 y3 y4
      have XR9 := kide XR3
      clear hb3 b3 XR3
      have Y9 : Hid (Bz (((((V3.setCell ⟨w.heap.size + 1, 0, none⟩ (Value.int .i64 (-1))).setCell ⟨w.heap.size + 1, 1, none⟩ (Value.int .i64 0)).setCell ⟨w.heap.size + 1, 2, none⟩ (Value.int .i64 (m : Int))).setCell ⟨w.heap.size + 1, 3, none⟩ (Value.int .i64 (m : Int))).setCell ⟨w.heap.size + 1, 4, none⟩ (Value.slice (some ⟨g9, 0, none⟩) P9.length c9)) (w.heap.size + 1) #[Value.int .i64 (-1), Value.int .i64 0, Value.int .i64 (m : Int), Value.int .i64 (m : Int), Value.slice (some ⟨g9, 0, none⟩) P9.length c9] 47) := (((((XR9.out.set 0 _).set 1 _).set 2 _).set 3 _).set 4 _)
      have BZ : Hid (Below w.heap.size w (((((V3.setCell ⟨w.heap.size + 1, 0, none⟩ (Value.int .i64 (-1))).setCell ⟨w.heap.size + 1, 1, none⟩ (Value.int .i64 0)).setCell ⟨w.heap.size + 1, 2, none⟩ (Value.int .i64 (m : Int))).setCell ⟨w.heap.size + 1, 3, none⟩ (Value.int .i64 (m : Int))).setCell ⟨w.heap.size + 1, 4, none⟩ (Value.slice (some ⟨g9, 0, none⟩) P9.length c9))) := (((((B3.out.setCell (p := ⟨w.heap.size + 1, 0, none⟩) (Nat.le_succ _) _).setCell (p := ⟨w.heap.size + 1, 1, none⟩) (Nat.le_succ _) _).setCell (p := ⟨w.heap.size + 1, 2, none⟩) (Nat.le_succ _) _).setCell (p := ⟨w.heap.size + 1, 3, none⟩) (Nat.le_succ _) _).setCell (p := ⟨w.heap.size + 1, 4, none⟩) (Nat.le_succ _) _)
      have GZ : Hid (V3.grownBy (((((V3.setCell ⟨w.heap.size + 1, 0, none⟩ (Value.int .i64 (-1))).setCell ⟨w.heap.size + 1, 1, none⟩ (Value.int .i64 0)).setCell ⟨w.heap.size + 1, 2, none⟩ (Value.int .i64 (m : Int))).setCell ⟨w.heap.size + 1, 3, none⟩ (Value.int .i64 (m : Int))).setCell ⟨w.heap.size + 1, 4, none⟩ (Value.slice (some ⟨g9, 0, none⟩) P9.length c9)) (some (w.heap.size + 1))) := ⟨rfl, rfl, rfl, by simp, fun k hk hne => by
        have h9 : k ≠ w.heap.size + 1 := fun e => hne (by rw [e])
        rw [heap_setCell_other _ _ _ _ (by simpa using h9), heap_setCell_other _ _ _ _ (by simpa using h9), heap_setCell_other _ _ _ _ (by simpa using h9), heap_setCell_other _ _ _ _ (by simpa using h9), heap_setCell_other _ _ _ _ (by simpa using h9)]⟩
      have RZ := kide (rd_gr R3.out GZ.out (fun q hq e => by cases hq; have h9 := Option.some.inj e; simp only [] at h9; have := XR.out.lt; have := LV.out; omega))
      go_wp2_with fail
      generalize (((((V3.setCell ⟨w.heap.size + 1, 0, none⟩ (Value.int .i64 (-1))).setCell ⟨w.heap.size + 1, 1, none⟩ (Value.int .i64 0)).setCell ⟨w.heap.size + 1, 2, none⟩ (Value.int .i64 (m : Int))).setCell ⟨w.heap.size + 1, 3, none⟩ (Value.int .i64 (m : Int))).setCell ⟨w.heap.size + 1, 4, none⟩ (Value.slice (some ⟨g9, 0, none⟩) P9.length c9)) = Z at *
      have x0 := Y9.out.cell 0
      have x1 := Y9.out.cell 1
      have x2 := Y9.out.cell 2
      have x3 := Y9.out.cell 3
      have x4 := Y9.out.cell 4
      simp at x0 x1 x2 x3 x4
      exact bodyPost_ret (v := .agg #[Value.int .i64 (-1), Value.int .i64 0, Value.int .i64 (m : Int), Value.int .i64 (m : Int), Value.slice (some ⟨g9, 0, none⟩) P9.length c9]) (by simp [results, Try.results59, go_sem, x0, x1, x2, x3, x4]) rfl ⟨_, _, rfl, RZ.out, fun e => (by cases e), fun q hq => ⟨.inr (by cases hq; exact LG.out), by cases hq; exact Nat.lt_of_lt_of_le m3 GZ.out.size⟩, BZ.out⟩
    · have hv0 : 0 ≤ v := by
        rcases hok.2.2.2 with h9 | h9
        · exact absurd h9.1 e2
        · exact h9.1
      have e2b : (v == -1) = false := beq_eq_false_iff_ne.2 e2
      have hc : cutS ⟨v, lo, wd, bw, ws⟩ p m = ⟨v, lo + p, (m : Int), 0, []⟩ := by unfold cutS; rw [if_neg e1, if_neg e2]
      unfold RetCu
      simp only []
      rw [hc]
      unfold sgV
      simp only [List.length_nil]
      rw [hwl]
      have hw1 : IntKind.i64.wrap (lo + (p : Int)) = lo + (p : Int) := by rw [IntKind.wrap_i64]; omega
      have hb : Below w.heap.size w ((w.alloc (Obj.cells #[Value.int .i64 v, Value.int .i64 lo, Value.int .i64 wd, Value.int .i64 bw, Value.slice sa wl sc] 47)).alloc (Obj.cells #[Value.int .i64 v, Value.int .i64 (lo + p), Value.int .i64 (m : Int), Value.int .i64 0, Value.slice none 0 0] 47)) := ((Below.refl _ _).alloc (Nat.le_refl _) _).alloc (by simp) _
      have BB := kide hb
      clear hok hr hn hl hc hb
      go_enter Try.func59, Try.ntmps59
      go_wp2_with fail
      exact bodyPost_ret (v := .agg #[.int .i64 v, .int .i64 (lo + p), .int .i64 (m : Int), .int .i64 0, .slice none 0 0]) (by simp [results, Try.results59, go_sem]) rfl ⟨none, 0, rfl, ⟨by simp, by simp, .inl rfl⟩, fun _ => rfl, fun q hq => (by cases hq), BB.out⟩
end Go.Proofs.Ytfanddpncipkkaa
