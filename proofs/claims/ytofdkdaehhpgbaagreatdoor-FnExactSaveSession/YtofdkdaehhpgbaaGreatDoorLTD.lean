/- Literals copied: the specification's l16Copy. -/
import Derived.Test.YtofdkdaehhpgbaaGreatDoorLTB
import Derived.Test.YtofdkdaehhpgbaaGreatDoorCTA
import Derived.Handy
namespace Go.Proofs.YtofdkdaehhpgbaaGreatDoor
set_option linter.unusedVariables false
set_option linter.unusedSimpArgs false
open Go.RowKit

theorem Tt.mono {lo lo' hi hi' : Nat} {v : Value} {l : List Tg} {w : World} (h : Tt lo hi v l w) (h1 : lo' ≤ lo) (h2 : hi ≤ hi') : Tt lo' hi' v l w :=
  ⟨h.ts.mono h1, fun b hb => Nat.lt_of_lt_of_le (h.rb b hb) h2, fun x hx p hp => Nat.lt_of_lt_of_le (h.wb x hx p hp) h2, fun x hx p hp => Nat.lt_of_lt_of_le (h.kb x hx p hp) h2⟩

/-- A copy of literals, in new memory. -/
def RetCl (xs : List Lg) (n : Nat) (w : World) (e : Ending) (w' : World) : Prop := ∃ a2 c2 l p, e = .returned (.slice a2 n c2) ∧ Ln w.heap.size w'.heap.size (.slice a2 n c2) l p w' ∧ l.map Lg.ct = xs.map Lg.ct ∧ Below w.heap.size w w'

/-- Terms whose rows without a place have no room. -/
def SnL (xs : List Lg) : Prop := ∀ x ∈ xs, Sn x.ss ∧ Sn x.ts

theorem OL4.form {w : World} {B : Nat} {v : Value} {l : List Lg} (h : OL4 w B v l) : ∃ a c, v = .slice a l.length c := by
  rcases h.2 with ⟨rfl, h0⟩ | ⟨g, cap, cur, rfl, -⟩
  · exact ⟨none, 0, by rw [h0]⟩
  · exact ⟨_, _, rfl⟩

theorem OL4.empty (w : World) (B : Nat) (h : B ≤ w.heap.size) : OL4 (w.alloc (.cells #[] 68)) B (.slice (some ⟨w.heap.size, 0, Option.none⟩) 0 0) [] := World.ownsRow_made w #[] 0 h (Nat.zero_le _) (by simp)

set_option maxHeartbeats 4000000 in
set_option maxRecDepth 100000 in
theorem l16Copy_any (a : Option Addr) (n c : Nat) (xs : List Lg) (w : World) (hr : RdL w a xs) (hn : xs.length = n) (hS : SnL xs) :
    Calls Tryz.prog 45 #[.slice a n c] w (RetCl xs n w) := by
  have hl := hr.1
  rw [hn] at hl
  have HR := kide (fun u (hu : Below w.heap.size w u) => hr.later hu)
  have HN := kide hn
  have HS := kide hS
  clear hr hn hS
  go_enter Tryz.func45, Tryz.ntmps45
  go_wp2_with fail
  have hb0 : Below w.heap.size w (w.alloc (.cells #[] 68)) := (Below.refl _ _).alloc (Nat.le_refl _) _
  have LN0 : Hid (Ln w.heap.size (w.alloc (.cells #[] 68)).heap.size (.slice (some ⟨w.heap.size, 0, none⟩) 0 0) [] (fun _ => (0, 0)) (w.alloc (.cells #[] 68))) := ⟨OL4.empty w _ (Nat.le_refl _), (fun b hb => by cases hb; simp), (fun i x hx => by simp at hx), (fun i j _ hj => by simp at hj)⟩
  have KB0 := kide hb0
  clear hb0
  generalize w.alloc (.cells #[] 68) = W at *
  go_loopw [3, 4] (fun o q wr => ∃ (j : Nat) (va : Option Addr) (vc : Nat) (l : List Lg) (p : Nat → Nat × Nat), j ≤ n ∧ q = .int .i64 (j : Int) ∧ o = .slice va j vc ∧ l.length = j ∧ Ln w.heap.size wr.heap.size (.slice va j vc) l p wr ∧ l.map Lg.ct = (xs.take j).map Lg.ct ∧ Below w.heap.size w wr) (fun _ q _ => n - (intOf q).toNat)
  case atStart => exact ⟨0, _, _, [], _, Nat.zero_le _, rfl, rfl, rfl, LN0.out, rfl, KB0.out⟩
  case round =>
    obtain ⟨j, va, vc, l, p, hj, rfl, rfl, hll, ln, hct, kb⟩ := hrel
    clear LN0 KB0
    have LN := kide ln
    have KB := kide kb
    have HLL := kide hll
    by_cases hlt : j < n
    · have i0 : (j : Int) < (n : Int) := by omega
      obtain ⟨x, gx⟩ : ∃ x, xs[j]? = some x := ⟨xs[j]'(by rw [HN.out]; exact hlt), List.getElem?_eq_getElem _⟩
      obtain ⟨hs1, hs2⟩ := HS.out x (List.mem_of_getElem? gx)
      have hct2 : ∀ y : Lg, y.ct = x.ct → (l ++ [y]).map Lg.ct = (xs.take (j + 1)).map Lg.ct := fun y hy => by
        rw [List.take_add_one, gx, List.map_append, List.map_append, hct]
        simp [hy]
      obtain ⟨b1, o1, rfl, HRN⟩ : ∃ b1 o1, a = some ⟨b1, o1, none⟩ ∧ Hid (∀ u, Below w.heap.size w u → LgAt u b1 (o1 + j * 4) x) := by
        obtain ⟨-, h | ⟨b1, o1, rfl, -⟩⟩ := HR.out w (Below.refl _ _)
        · rw [h] at gx; simp at gx
        · refine ⟨b1, o1, rfl, fun u hu => ?_⟩
          obtain ⟨-, h | ⟨b2, o2, e2, hc⟩⟩ := HR.out u hu
          · rw [h] at gx; simp at gx
          · cases e2
            exact hc j x gx
      obtain ⟨id, q, ss, sa, sc, ts, ta, tc⟩ := x
      simp only [LgAt] at HRN hs1 hs2 hct2
      have HT1 := kide (fun u (hu : Below w.heap.size w u) => (HRN.out u hu).2.1)
      have HT2 := kide (fun u (hu : Below w.heap.size w u) => (HRN.out u hu).2.2.1)
      have HS1 := kide hs1
      have HS2 := kide hs2
      obtain ⟨sn, hsn⟩ : ∃ sn, ss.length = sn := ⟨_, rfl⟩
      obtain ⟨tn, htn⟩ : ∃ tn, ts.length = tn := ⟨_, rfl⟩
      have HSN := kide hsn
      have HTN := kide htn
      rw [hsn, htn] at HRN
      obtain ⟨r0, r1, r2, r3⟩ := (HRN.out wr kb).1
      have HCT := kide hct2
      obtain ⟨Bl, hBl⟩ : ∃ Bl, wr.heap.size = Bl := ⟨_, rfl⟩
      have hbx : Below wr.heap.size wr (wr.alloc (.cells #[Value.int .i64 id, Value.bool q, Value.slice sa sn sc, Value.slice ta tn tc] 68)) := (Below.refl _ _).alloc (Nat.le_refl _) _
      have XB1 := kide (Bz.new wr #[Value.int .i64 id, Value.bool q, Value.slice sa sn sc, Value.slice ta tn tc] (68))
      have KB1 := kide (kb.trans (hbx.mono kb.size))
      have BK1 := kide hbx
      have HZ1 : Hid ((wr.alloc (.cells #[Value.int .i64 id, Value.bool q, Value.slice sa sn sc, Value.slice ta tn tc] 68)).heap.size = Bl + 1) := by show _ = _; rw [← hBl]; simp
      rw [hBl] at XB1
      clear hct2 hct ln kb gx hs1 hs2 hll hsn htn hbx
      go_wp2_with fail
      try simp only [hBl]
      have HBL := kide hBl
      clear r0 r1 r2 r3 hBl
      generalize (wr.alloc (.cells #[Value.int .i64 id, Value.bool q, Value.slice sa sn sc, Value.slice ta tn tc] 68)) = w1 at *
      refine Calls.mono (l14Copy_any sa sn sc ss w1 (HT1.out w1 KB1.out) HSN.out HS1.out) ?_
      rintro e w2 ⟨a7, c7, l7, rfl, ts7, hm7, hb2⟩
      have hl7 : l7.length = sn := by have := congrArg List.length hm7; simp at this; rw [this]; exact HSN.out
      have HL7 := kide hl7
      have M7 := kide hm7
      have T7 : Hid (Tt (Bl + 1) w2.heap.size (.slice a7 sn c7) l7 w2) := (Tt.of ts7).mono (by rw [HZ1.out]; exact Nat.le_refl _) (Nat.le_refl _)
      have XB2 := kide (XB1.out.later hb2)
      have KB2 := kide (KB1.out.trans (hb2.mono KB1.out.size))
      have BK2 := kide (BK1.out.trans (hb2.mono BK1.out.size))
      have HZ2 : Hid (Bl + 1 ≤ w2.heap.size) := by show _ ≤ _; rw [← HZ1.out]; exact hb2.size
      have n2 := XB2.out.cell 2
      have n3 := XB2.out.cell 3
      have f2 := XB2.out.froz 2
      simp at n2 n3
      have XB3 := kide (XB2.out.set 2 (.slice a7 sn c7))
      simp at XB3
      have T73 : Hid (Tt (Bl + 1) w2.heap.size (.slice a7 sn c7) l7 (w2.setCell ⟨Bl, 2, none⟩ (Value.slice a7 sn c7))) := T7.out.out (Out.setc w2 Bl 2 _) (.inr (Nat.le_refl _))
      have KB3 : Hid (Below w.heap.size w (w2.setCell ⟨Bl, 2, none⟩ (Value.slice a7 sn c7))) := KB2.out.setCell (by have := KB.out.size; have := HBL.out; simp; omega) _
      have BK3 : Hid (Below wr.heap.size wr (w2.setCell ⟨Bl, 2, none⟩ (Value.slice a7 sn c7))) := BK2.out.setCell (by have := HBL.out; simp; omega) _
      have HZ3 : Hid ((w2.setCell ⟨Bl, 2, none⟩ (Value.slice a7 sn c7)).heap.size = w2.heap.size) := by show _ = _; simp
      clear ts7 hm7 hb2 hl7 XB1 KB1 BK1 HZ1
      go_wp2_with fail
      clear n2 n3 f2 XB2 KB2 BK2 T7
      generalize (w2.setCell ⟨Bl, 2, none⟩ (Value.slice a7 sn c7)) = w3 at *
      refine Calls.mono (l14Copy_any ta tn tc ts w3 (HT2.out w3 KB3.out) HTN.out HS2.out) ?_
      rintro e w4 ⟨a8, c8, l8, rfl, ts8, hm8, hb4⟩
      have hl8 : l8.length = tn := by have := congrArg List.length hm8; simp at this; rw [this]; exact HTN.out
      have HL8 := kide hl8
      have M8 := kide hm8
      have T84 : Hid (Tt w2.heap.size w4.heap.size (.slice a8 tn c8) l8 w4) := (Tt.of ts8).mono (by rw [HZ3.out]; exact Nat.le_refl _) (Nat.le_refl _)
      have T74 := kide (T73.out.later hb4)
      have XB4 := kide (XB3.out.later hb4)
      have KB4 := kide (KB3.out.trans (hb4.mono KB3.out.size))
      have BK4 := kide (BK3.out.trans (hb4.mono BK3.out.size))
      have HZ4 : Hid (w2.heap.size ≤ w4.heap.size) := by show _ ≤ _; rw [← HZ3.out]; exact hb4.size
      have n0 := XB4.out.cell 0
      have n1 := XB4.out.cell 1
      have n2 := XB4.out.cell 2
      have n3 := XB4.out.cell 3
      have f3 := XB4.out.froz 3
      simp at n0 n1 n2 n3
      have T75 : Hid (Tt (Bl + 1) w2.heap.size (.slice a7 sn c7) l7 (w4.setCell ⟨Bl, 3, none⟩ (Value.slice a8 tn c8))) := T74.out.out (Out.setc w4 Bl 3 _) (.inr (Nat.le_refl _))
      have T85 : Hid (Tt w2.heap.size w4.heap.size (.slice a8 tn c8) l8 (w4.setCell ⟨Bl, 3, none⟩ (Value.slice a8 tn c8))) := T84.out.out (Out.setc w4 Bl 3 _) (.inr HZ2.out)
      have KB5 : Hid (Below w.heap.size w (w4.setCell ⟨Bl, 3, none⟩ (Value.slice a8 tn c8))) := KB4.out.setCell (by have := KB.out.size; have := HBL.out; simp; omega) _
      have BK5 : Hid (Below wr.heap.size wr (w4.setCell ⟨Bl, 3, none⟩ (Value.slice a8 tn c8))) := BK4.out.setCell (by have := HBL.out; simp; omega) _
      have hbx6 : Below (w4.setCell ⟨Bl, 3, none⟩ (Value.slice a8 tn c8)).heap.size (w4.setCell ⟨Bl, 3, none⟩ (Value.slice a8 tn c8)) ((w4.setCell ⟨Bl, 3, none⟩ (Value.slice a8 tn c8)).alloc (.cells #[Value.int .i64 id, Value.bool q, Value.slice a7 sn c7, Value.slice a8 tn c8] 68)) := (Below.refl _ _).alloc (Nat.le_refl _) _
      have T76 := kide (T75.out.later hbx6)
      have T86 := kide (T85.out.later hbx6)
      have KB6 := kide (KB5.out.trans (hbx6.mono KB5.out.size))
      have BK6 := kide (BK5.out.trans (hbx6.mono BK5.out.size))
      have HZ6 : Hid (w4.heap.size ≤ ((w4.setCell ⟨Bl, 3, none⟩ (Value.slice a8 tn c8)).alloc (.cells #[Value.int .i64 id, Value.bool q, Value.slice a7 sn c7, Value.slice a8 tn c8] 68)).heap.size) := by show _ ≤ _; simp
      have HCE : Hid (∀ j u, (lgc [(⟨id, q, l7, a7, c7, l8, a8, c8⟩ : Lg)])[j]? = some u → ((w4.setCell ⟨Bl, 3, none⟩ (Value.slice a8 tn c8)).alloc (.cells #[Value.int .i64 id, Value.bool q, Value.slice a7 sn c7, Value.slice a8 tn c8] 68)).cell? ((⟨w4.heap.size, 0, none⟩ : Addr).add j) = some u) := fun j u hj => by
        have X6 := Bz.new (w4.setCell ⟨Bl, 3, none⟩ (Value.slice a8 tn c8)) #[Value.int .i64 id, Value.bool q, Value.slice a7 sn c7, Value.slice a8 tn c8] (68)
        rw [show (w4.setCell ⟨Bl, 3, none⟩ (Value.slice a8 tn c8)).heap.size = w4.heap.size by simp] at X6
        rw [Addr.add_lit, Nat.zero_add]
        match j, hj with
        | 0, hj => simp [lgc] at hj; subst hj; exact X6.cell 0
        | 1, hj => simp [lgc] at hj; subst hj; exact X6.cell 1
        | 2, hj => simp [lgc] at hj; subst hj; rw [HL7.out]; exact X6.cell 2
        | 3, hj => simp [lgc] at hj; subst hj; rw [HL8.out]; exact X6.cell 3
        | j + 4, hj => simp [lgc] at hj
      have OL6 := kide (LN.out.row.later BK6.out)
      clear ts8 hm8 hb4 hl8 XB3 KB3 BK3 HZ3 T73
      go_wp2_with (at_builtin; refine wpList_appL _ rfl _ _ rfl w.heap.size (.slice va j vc) l [(⟨id, q, l7, a7, c7, l8, a8, c8⟩ : Lg)] (by first | rfl | simp [Act.eval]) OL6.out ⟨w4.heap.size, 0, none⟩ 1 1 rfl (by first | rfl | simp [Act.eval]) HCE.out (by have := HLL.out; omega) KB6.out.size ?_)
      intro v7 w7 ho hg hat
      have LN7 := kide (Ln.app LN.out KB.out.size BK6.out ⟨w2.heap.size, by have := HBL.out; have := HZ2.out; omega, Nat.le_trans HZ4.out HZ6.out, by rw [HL7.out]; exact T76.out.mono (by have := HBL.out; omega) (Nat.le_refl _), by rw [HL8.out]; exact T86.out.mono (Nat.le_refl _) HZ6.out⟩ hg ho (hat.imp (fun h => h) (fun e => by rw [e]; simp)))
      have KB7 := kide (Below.grown KB6.out hg KB6.out.size (fun b hb => (OL6.out.lt hb).1))
      obtain ⟨a9, c9, rfl⟩ := ho.form
      have hll9 : (l ++ [(⟨id, q, l7, a7, c7, l8, a8, c8⟩ : Lg)]).length = j + 1 := by rw [List.length_append, HLL.out]; rfl
      have HL9 := kide hll9
      have HM9 : Hid ((l ++ [(⟨id, q, l7, a7, c7, l8, a8, c8⟩ : Lg)]).map Lg.ct = (xs.take (j + 1)).map Lg.ct) := HCT.out _ (by simp only [Lg.ct]; rw [M7.out, M8.out])
      rw [hll9] at LN7
      rw [hll9]
      clear ho hg hat hll9 hbx6 T75 T85 T76 T86 KB5 BK5 KB6 BK6 OL6 HCE T74 T84 XB4 KB4 BK4 n0 n1 n2 n3 f3
      go_wp2_with fail
      go_roundw
      case rel => exact ⟨j + 1, a9, c9, l ++ [(⟨id, q, l7, a7, c7, l8, a8, c8⟩ : Lg)], _, by omega, by go_num, rfl, HL9.out, LN7.out, HM9.out, KB7.out⟩
      case measure => simp [intOf]; omega
    · have e : j = n := by omega
      have HCT : Hid (l.map Lg.ct = xs.map Lg.ct) := by show _ = _; rw [hct, List.take_of_length_le (by rw [HN.out]; omega)]
      subst e
      clear hct ln kb hll
      go_wp2_with fail
      go_ret
      exact ⟨va, vc, l, p, rfl, LN.out, HCT.out, KB.out⟩

end Go.Proofs.YtofdkdaehhpgbaaGreatDoor
