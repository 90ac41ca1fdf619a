/- The closure that SessionOk makes; slices.ContainsFunc over literals. -/
import Derived.Test.YtofdkdaehhpgbaaGreatDoorZSA
namespace Go.Proofs.YtofdkdaehhpgbaaGreatDoor
set_option linter.unusedVariables false
set_option linter.unusedSimpArgs false
open Go.RowKit

set_option maxHeartbeats 2000000 in
set_option maxRecDepth 100000 in
/-- The closure that SessionOk makes: whether a literal's sides are wrong. -/
theorem sesF_any (da : Option Addr) (dn dc bv : Nat) (ds : List Dc) (x : Lg) (w : World) (hc : w.cell? ⟨bv, 0, none⟩ = some (.slice da dn dc)) (hd : RdD w da ds) (hdn : ds.length = dn) (hs : RdT w x.sa x.ss) (ht : RdT w x.ta x.ts) (hG : GF w) (hD : dclR ds = true) :
    Calls Tryz.prog 54 #[x.val, .pointer (some ⟨bv, 0, none⟩)] w fun e w' => e = .returned (.bool (!sideR ds x.ct)) ∧ Below w.heap.size w w' := by
  have hbx : Below w.heap.size w (w.alloc (Obj.cells #[Value.int .i64 x.id, Value.bool x.eq, Value.slice x.sa x.ss.length x.sc, Value.slice x.ta x.ts.length x.tc] 68)) := (Below.refl _ _).alloc (Nat.le_refl _) _
  have HC := kide (sidesOk_any da dc ds x.id x.eq x.sa x.ta x.ss.length x.sc x.ts.length x.tc x.ss x.ts _ (hd.later hbx) (hs.later hbx) (ht.later hbx) rfl rfl (hG.later hbx) hD)
  rw [hdn] at HC
  have c1 := (kcell hbx _ _ (block_lt_of_cell hc)).trans hc
  have HBX := kide hbx
  have e0 : sideR ds x.ct = sideR ds ⟨x.id, x.eq, x.ss.map Tg.ct, x.ts.map Tg.ct⟩ := rfl
  rw [e0]
  generalize sideR ds ⟨x.id, x.eq, x.ss.map Tg.ct, x.ts.map Tg.ct⟩ = V at *
  clear hbx hs ht hD hd hdn hG e0
  obtain ⟨id, q, ss, sa, sc, ts, ta, tc⟩ := x
  simp only [Lg.val] at *
  generalize ss.length = sn at *
  generalize ts.length = tn at *
  go_enter Tryz.func54, Tryz.ntmps54
  go_wp2_with fail
  refine Calls.mono HC.out ?_
  rintro e w3 ⟨rfl, hb3⟩
  have B3 := kide (HBX.out.trans (hb3.mono HBX.out.size))
  clear hb3 HC
  go_wp2_with fail
  go_ret
  exact ⟨rfl, B3.out⟩

theorem anyL_step {p : Lg → Bool} {xs : List Lg} {k : Nat} {x : Lg} (h : xs[k]? = some x) : (xs.drop k).any p = (p x || (xs.drop (k + 1)).any p) := by
  have hk : k < xs.length := (List.getElem?_eq_some_iff.1 h).1
  have hx : xs[k] = x := (List.getElem?_eq_some_iff.1 h).2
  rw [List.drop_eq_getElem_cons hk, hx, List.any_cons]

set_option maxHeartbeats 1000000 in
theorem IndexL_any (f : Nat) (hf : ∀ args w, Sem.run Tryz.prog (callFunc f args) w = .ok (.enter f args) w) (cv : Value) (p : Lg → Bool) (a : Option Addr) (c n : Nat) (xs : List Lg) (w : World) (hr : RdL w a xs) (hn : xs.length = n)
    (HF : Hid (∀ u, Below w.heap.size w u → ∀ x ∈ xs, Calls Tryz.prog f #[x.val, cv] u fun e w' => e = .returned (.bool (p x)) ∧ Below u.heap.size u w')) :
    Calls Tryz.prog 82 #[.slice a n c, .func (.func f) #[] #[cv]] w fun e w' => ∃ r : Int, e = .returned (.int .i64 r) ∧ decide (0 ≤ r) = xs.any p ∧ Below w.heap.size w w' := by
  have hlen := hr.1
  rw [hn] at hlen
  have HN := kide hn
  generalize hzz : xs.any p = Z
  have HZ := kide hzz
  clear hn hzz
  go_enter Tryz.func82, Tryz.ntmps82
  go_wp2_with fail
  go_loopw [8] (fun i wr => ∃ k : Nat, k ≤ n ∧ i = .int .i64 (k : Int) ∧ (xs.drop k).any p = Z ∧ Below w.heap.size w wr) (fun i _ => n - (intOf i).toNat)
  case atStart => exact ⟨0, Nat.zero_le _, rfl, by simpa using HZ.out, Below.refl _ _⟩
  case round =>
      obtain ⟨k, hk, rfl, hz, hbel⟩ := hrel
      have HB := kide hbel
      by_cases hlt : k < n
      · obtain ⟨-, h | ⟨b, o, rfl, hc⟩⟩ := hr
        · have := HN.out; subst h; simp at this; omega
        obtain ⟨s, gx⟩ : ∃ y, xs[k]? = some y := ⟨xs[k]'(by rw [HN.out]; exact hlt), List.getElem?_eq_getElem _⟩
        obtain ⟨⟨p0, p1, p2, p3⟩, -⟩ := (hc k _ gx).later hbel
        have HCL := kide (HF.out wr hbel s (List.mem_of_getElem? gx))
        rw [anyL_step gx] at hz
        generalize p s = P1 at *
        obtain ⟨id, q, ss, sa, sc, ts, ta, tc⟩ := s
        simp only [Lg.val] at p0 p1 p2 p3 HCL
        generalize ss.length = sn at *
        generalize ts.length = tn at *
        clear hc gx
        have i0 : (k : Int) < (n : Int) := by omega
        clear hbel
        cases P1 with
        | true =>
          have HZ1 : Hid (Z = true) := by show _ = _; rw [← hz]; rfl
          clear hz
          go_wp2_with fail
          refine Calls.mono HCL.out ?_
          rintro e w1 ⟨rfl, hb1⟩
          go_wp2_with fail
          go_ret
          exact ⟨_, rfl, by rw [HZ1.out]; exact decide_eq_true (by omega), HB.out.trans (hb1.mono HB.out.size)⟩
        | false =>
          rw [Bool.false_or] at hz
          have HZ1 := kide hz
          clear hz
          go_wp2_with fail
          refine Calls.mono HCL.out ?_
          rintro e w1 ⟨rfl, hb1⟩
          go_wp2_with fail
          go_roundw
          case rel => exact ⟨k + 1, by omega, by go_num, HZ1.out, HB.out.trans (hb1.mono HB.out.size)⟩
          case measure => simp [intOf]; omega
      · have HZ1 : Hid (Z = false) := by
          show _ = _
          rw [← hz, List.drop_eq_nil_of_le (by have := HN.out; omega)]; rfl
        clear hz hbel
        go_wp2_with fail
        go_ret
        exact ⟨-1, rfl, by rw [HZ1.out]; rfl, HB.out⟩

theorem ContainsL_any (f : Nat) (hf : ∀ args w, Sem.run Tryz.prog (callFunc f args) w = .ok (.enter f args) w) (cv : Value) (p : Lg → Bool) (a : Option Addr) (c n : Nat) (xs : List Lg) (w : World) (hr : RdL w a xs) (hn : xs.length = n)
    (HF : Hid (∀ u, Below w.heap.size w u → ∀ x ∈ xs, Calls Tryz.prog f #[x.val, cv] u fun e w' => e = .returned (.bool (p x)) ∧ Below u.heap.size u w')) :
    Calls Tryz.prog 56 #[.slice a n c, .func (.func f) #[] #[cv]] w fun e w' => e = .returned (.bool (xs.any p)) ∧ Below w.heap.size w w' := by
  have HI := kide (IndexL_any f hf cv p a c n xs w hr hn HF)
  generalize xs.any p = Z at *
  clear hr hn HF
  go_enter Tryz.func56, Tryz.ntmps56
  go_wp2_with fail
  refine Calls.mono HI.out ?_
  rintro e w1 ⟨r, rfl, hr, hb1⟩
  have HR := kide hr
  clear hr
  go_wp2_with fail
  go_ret
  exact ⟨ret_bool HR.out, hb1⟩

end Go.Proofs.YtofdkdaehhpgbaaGreatDoor
