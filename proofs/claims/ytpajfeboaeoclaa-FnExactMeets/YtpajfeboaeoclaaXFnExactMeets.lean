/- The law FnExactMeets returns true, whatever it is handed. -/
import Derived.Test.YtpajfeboaeoclaaCS
import Derived.Test.YtpajfeboaeoclaaCK
import Derived.Test.YtpajfeboaeoclaaCQ
namespace Go.Proofs.Ytpajfeboaeoclaa
set_option linter.unusedVariables false
set_option linter.unusedSimpArgs false
open Go.RowKit

theorem len_of_ks {ms xs : List Iw} {n : Nat} (h : ms.map Iw.ks = xs.map Iw.ks) (hn : xs.length = n) : ms.length = n := by
  have := congrArg List.length h
  simp at this
  rw [this]; exact hn

theorem toBoolS_own (a : Option Addr) (c m : Nat) (on : List Bool) (w : World) (hr : RdFl w a on) (hm : on.length = m) :
    Calls Try.prog 12 #[.slice a m c] w fun e w' => ∃ g, e = .returned (.slice (some ⟨g, 0, none⟩) m m) ∧ RdFl w' (some ⟨g, 0, none⟩) on ∧ Below w.heap.size w w' := by
  subst hm
  exact (toBoolS_any a c on w hr).mono fun e w' h => ⟨_, h.1, h.2.1.rd hr.1, h.2.2⟩

set_option maxHeartbeats 1000000 in
set_option maxRecDepth 100000 in
theorem law_yes_FnExactMeets (S : Int) (b : Option Addr) (n c : Nat) (d : Option Addr) (m c2 : Nat) (xs : List Iw) (on : List Bool) (w : World) (hs : RdII w b xs) (hn : xs.length = n) (ho : RdFl w d on) (hm : on.length = m) (Z : Int) (hZ : 0 ≤ Z)
    (HSZ : Hid (∀ u, Below w.heap.size w u → Calls Try.prog 6 #[.agg #[.int .i64 S, .slice b n c], .int .i64 1048576] u fun e w' => e = .returned (.int .i64 Z) ∧ Below u.heap.size u w')) :
    Calls Try.prog 4 #[.agg #[.int .i64 S, .slice b n c], .slice d m c2] w fun e w' => e = .returned (.bool true) ∧ Below w.heap.size w w' := by
  have HTC : Hid (∀ u, Below w.heap.size w u → Calls Try.prog 8 #[.agg #[.int .i64 S, .slice b n c]] u fun e w' => ∃ (g : Nat) (ms : List Iw), e = .returned (.agg #[.int .i64 S, .slice (some ⟨g, 0, none⟩) n n]) ∧ ms.map Iw.ks = xs.map Iw.ks ∧ RdII w' (some ⟨g, 0, none⟩) ms ∧ Below u.heap.size u w') := fun u hu => toCnf_any S b c xs u (hs.later hu) n hn
  have HTB := kide (fun u (hu : Below w.heap.size w u) => toBoolS_own d c2 m on u (ho.later hu) hm)
  have HN := kide hn
  have HM := kide hm
  have hl2 := ho.1
  rw [hm] at hl2
  clear hs hn ho hm
  have s0 := St.start w (.cells #[.int .i64 S, .slice b n c] 24)
  go_enter Try.func4, Try.ntmps4
  go_wp2_with fail
  refine Calls.mono (HSZ.out _ s0.below) ?_
  rintro e w1 ⟨rfl, hb1⟩
  have s1 := s0.next hb1
  obtain ⟨k0, k1⟩ := s1.two
  clear hb1 s0
  go_wp2_with fail
  refine Calls.mono (HTC.out w1 s1.below) ?_
  rintro e w2 ⟨g2, m2, rfl, hm2, r2, hb2⟩
  have s2 := s1.next hb2
  clear s1 k0 k1 hb2
  go_wp2_with fail
  refine Calls.mono (HTB.out w2 s2.below) ?_
  rintro e w3 ⟨g3, rfl, r3, hb3⟩
  have s3 := s2.next hb3
  have HSP := kide (specMeets_any S _ _ n n m m m2 on w3 (r2.later hb3) (len_of_ks hm2 HN.out) r3 HM.out)
  rw [hm2] at HSP
  clear s2 hb3 r2 r3 hm2
  go_wp2_with fail
  refine Calls.mono HSP.out ?_
  rintro e w4 ⟨rfl, hb4⟩
  have s4 := s3.next hb4
  obtain ⟨k0, k1⟩ := s4.two
  clear hb4 s3 HSP
  go_wp2_with fail
  refine Calls.mono (HTC.out w4 s4.below) ?_
  rintro e w5 ⟨g5, m5, rfl, hm5, r5, hb5⟩
  have s5 := s4.next hb5
  have t6 := St.start w5 (.cells #[.int .i64 S, .slice (some ⟨g5, 0, none⟩) n n] 27)
  have hbx := t6.below
  have s6 := s5.next hbx
  have R6 := kide (r5.later hbx)
  have HM5 := kide hm5
  clear hb5 s4 s5 k0 k1 r5 hbx hm5
  go_wp2_with fail
  generalize w5.alloc (Obj.cells #[Value.int .i64 S, Value.slice (some ⟨g5, 0, none⟩) n n] 27) = w6 at *
  refine Calls.mono (HTB.out w6 s6.below) ?_
  rintro e w7 ⟨g7, rfl, r7, hb7⟩
  have s7 := s6.next hb7
  have t7 := t6.next hb7
  have R7 := kide (R6.out.later hb7)
  have HIM := kide (implMeets_any S _ _ n n m m m5 on w7 R7.out (len_of_ks HM5.out HN.out) r7 HM.out)
  rw [HM5.out] at HIM
  have T7 := kide r7
  obtain ⟨j0, j1⟩ := t7.two
  clear s6 t6 hb7 r7 R6
  go_wp2_with fail
  refine Calls.mono HIM.out ?_
  rintro e w8 ⟨rfl, hb8⟩
  have s8 := s7.next hb8
  have t8 := t7.next hb8
  have R8 := kide (R7.out.later hb8)
  have T8 := kide (T7.out.later hb8)
  obtain ⟨k0, k1⟩ := s8.two
  obtain ⟨j0, j1⟩ := t8.two
  clear hb8 s7 t7 HIM R7 T7
  generalize meetR S (xs.map Iw.ks) on = V at *
  have hVV : (!V == V) = false := by cases V <;> rfl
  have hVV2 : (V != V) = false := by cases V <;> rfl
  have S8 := kide s8.below
  go_wp2_with fail
  go_region_held3 (fun u => u.cell? ⟨w.heap.size, 0, none⟩ = some (Value.int .i64 S) ∧ u.cell? ⟨w.heap.size, 1, none⟩ = some (Value.slice b n c) ∧ u.cell? ⟨w5.heap.size, 0, none⟩ = some (Value.int .i64 S) ∧ u.cell? ⟨w5.heap.size, 1, none⟩ = some (Value.slice (some ⟨g5, 0, none⟩) n n)) (simp [*])
    (first
      | (go_at_call 8; refine Calls.mono (HTC.out _ ?_) ?_; exact S8.out.drew; rintro e w9 ⟨g9, m9, rfl, hm9, r9, hb9⟩; replace hb9 := kundrew hb9; have s9 := St.next (wk := w8) s8 hb9; have t9 := St.next (wk := w8) t8 hb9; have HE9 := kide (eqCnf_same S _ _ n n m5 m9 w9 (RdII.later (w := w8) R8.out hb9) r9 (HM5.out.trans hm9.symm) n (len_of_ks HM5.out HN.out) (len_of_ks hm9 HN.out)); have T9 := kide (RdFl.later (w := w8) T8.out hb9); obtain ⟨x0, x1⟩ := s9.two; obtain ⟨z0, z1⟩ := t9.two; clear hm9 r9 hb9)
      | (go_at_call 10; refine Calls.mono HE9.out ?_; rintro e w10 ⟨rfl, hb10⟩; have s10 := s9.next hb10; have t10 := t9.next hb10; have T10 := kide (T9.out.later hb10); obtain ⟨u0, u1⟩ := s10.two; obtain ⟨v0, v1⟩ := t10.two))
  go_wp2_with fail
  refine Calls.mono (HTB.out w10 s10.below) ?_
  rintro e w11 ⟨g11, rfl, r11, hb11⟩
  have s11 := s10.next hb11
  have HEB := eqBoolS_any (some ⟨g7, 0, none⟩) (some ⟨g11, 0, none⟩) m m on on w11 (T10.out.later hb11) r11
  rw [HM.out, decide_eq_true rfl] at HEB
  have HE2 := kide HEB
  clear HEB hb11 r11
  go_wp2_with fail
  refine Calls.mono HE2.out ?_
  rintro e w12 ⟨rfl, hb12⟩
  have s12 := s11.next hb12
  go_wp2_with fail
  go_ret
  exact ⟨rfl, s12.below⟩

theorem law_no_FnExactMeets (S : Int) (b : Option Addr) (n c : Nat) (d : Option Addr) (m c2 : Nat) (hl2 : m ≤ 1048576) (w : World) (Z : Int) (hZ : Z < 0)
    (HSZ : Hid (∀ u, Below w.heap.size w u → Calls Try.prog 6 #[.agg #[.int .i64 S, .slice b n c], .int .i64 1048576] u fun e w' => e = .returned (.int .i64 Z) ∧ Below u.heap.size u w')) :
    Calls Try.prog 4 #[.agg #[.int .i64 S, .slice b n c], .slice d m c2] w fun e w' => e = .returned (.bool true) ∧ Below w.heap.size w w' := by
  have s0 := St.start w (.cells #[.int .i64 S, .slice b n c] 24)
  go_enter Try.func4, Try.ntmps4
  go_wp2_with fail
  refine Calls.mono (HSZ.out _ s0.below) ?_
  rintro e w1 ⟨rfl, hb1⟩
  have s1 := s0.next hb1
  go_wp2_with fail
  go_ret
  exact ⟨rfl, s1.below⟩

theorem law_long_FnExactMeets (S : Int) (b : Option Addr) (n c : Nat) (d : Option Addr) (m c2 : Nat) (hl2 : ¬ m ≤ 1048576) (hm : m ≤ 9223372036854775807) (w : World) :
    Calls Try.prog 4 #[.agg #[.int .i64 S, .slice b n c], .slice d m c2] w fun e w' => e = .returned (.bool true) ∧ Below w.heap.size w w' := by
  have s0 := St.start w (.cells #[.int .i64 S, .slice b n c] 24)
  go_enter Try.func4, Try.ntmps4
  go_wp2_with fail
  go_ret
  exact ⟨rfl, s0.below⟩

theorem walk_FnExactMeets (S : Int) (b : Option Addr) (n c : Nat) (hS : in64 S) (hn : n ≤ 9223372036854775807) (d : Option Addr) (m c2 : Nat) (hm : m ≤ 9223372036854775807) (w : World)
    (hy : n ≤ 1048576 → ∃ hs : List Ih, hs.length = n ∧ RdIh w b hs ∧ ∀ h ∈ hs, NumsOf w h) (hx : m ≤ 1048576 → ∃ bs : List Bool, bs.length = m ∧ RdFl w d bs) :
    Calls Try.prog 4 #[.agg #[.int .i64 S, .slice b n c], .slice d m c2] w fun e w' => e = .returned (.bool true) ∧ Below w.heap.size w w' := by
  by_cases h2 : m ≤ 1048576
  · obtain ⟨on, hol, ho⟩ := hx h2
    obtain ⟨Z, HSZ, -, hneg | ⟨hpos, xs, hxl, hr⟩⟩ := size_cnf S b n c w hn hy
    · exact law_no_FnExactMeets S b n c d m c2 h2 w Z hneg HSZ
    · exact law_yes_FnExactMeets S b n c d m c2 xs on w hr hxl ho hol Z hpos HSZ
  · exact law_long_FnExactMeets S b n c d m c2 h2 hm w

end Go.Proofs.Ytpajfeboaeoclaa
