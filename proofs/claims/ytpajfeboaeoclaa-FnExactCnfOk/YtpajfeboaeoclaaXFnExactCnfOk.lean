/- The law FnExactCnfOk returns true, whatever it is handed. -/
import Derived.Test.YtpajfeboaeoclaaCO
import Derived.Test.YtpajfeboaeoclaaCK
namespace Go.Proofs.Ytpajfeboaeoclaa
set_option linter.unusedVariables false
set_option linter.unusedSimpArgs false
open Go.RowKit

theorem len_of_ks {ms xs : List Iw} {n : Nat} (h : ms.map Iw.ks = xs.map Iw.ks) (hn : xs.length = n) : ms.length = n := by
  have := congrArg List.length h
  simp at this
  rw [this]; exact hn

set_option maxHeartbeats 1000000 in
set_option maxRecDepth 100000 in
theorem law_yes_FnExactCnfOk (S : Int) (b : Option Addr) (n c : Nat) (xs : List Iw) (w : World) (hs : RdII w b xs) (hn : xs.length = n) (Z : Int) (hZ : 0 ≤ Z)
    (HSZ : Hid (∀ u, Below w.heap.size w u → Calls Try.prog 6 #[.agg #[.int .i64 S, .slice b n c], .int .i64 1048576] u fun e w' => e = .returned (.int .i64 Z) ∧ Below u.heap.size u w')) :
    Calls Try.prog 3 #[.agg #[.int .i64 S, .slice b n c]] w fun e w' => e = .returned (.bool true) ∧ Below w.heap.size w w' := by
  have HTC : Hid (∀ u, Below w.heap.size w u → Calls Try.prog 8 #[.agg #[.int .i64 S, .slice b n c]] u fun e w' => ∃ (g : Nat) (ms : List Iw), e = .returned (.agg #[.int .i64 S, .slice (some ⟨g, 0, none⟩) n n]) ∧ ms.map Iw.ks = xs.map Iw.ks ∧ RdII w' (some ⟨g, 0, none⟩) ms ∧ Below u.heap.size u w') := fun u hu => toCnf_any S b c xs u (hs.later hu) n hn
  have HN := kide hn
  clear hs hn
  have s0 := St.start w (.cells #[.int .i64 S, .slice b n c] 24)
  go_enter Try.func3, Try.ntmps3
  go_wp2_with fail
  refine Calls.mono (HSZ.out _ s0.below) ?_
  rintro e w1 ⟨rfl, hb1⟩
  have s1 := s0.next hb1
  obtain ⟨k0, k1⟩ := s1.two
  clear hb1 s0
  go_wp2_with fail
  refine Calls.mono (HTC.out w1 s1.below) ?_
  rintro e w2 ⟨g2, m2, rfl, hm2, r2, hb2⟩
  have s2 := s1.next hb2
  have HSP := kide (specCnf_any S _ n n m2 w2 r2 (len_of_ks hm2 HN.out))
  rw [hm2] at HSP
  clear hb2 s1 k0 k1 r2 hm2
  go_wp2_with fail
  refine Calls.mono HSP.out ?_
  rintro e w3 ⟨rfl, hb3⟩
  have s3 := s2.next hb3
  obtain ⟨k0, k1⟩ := s3.two
  clear hb3 s2 HSP
  go_wp2_with fail
  refine Calls.mono (HTC.out w3 s3.below) ?_
  rintro e w4 ⟨g4, m4, rfl, hm4, r4, hb4⟩
  have s4 := s3.next hb4
  have t5 := St.start w4 (.cells #[.int .i64 S, .slice (some ⟨g4, 0, none⟩) n n] 27)
  have hbx := t5.below
  have s5 := s4.next hbx
  have HIM := kide (implCnf_any S _ n n m4 _ (r4.later hbx) (len_of_ks hm4 HN.out))
  rw [hm4] at HIM
  have R5 := kide (r4.later hbx)
  have HM4 := kide hm4
  clear hb4 s3 s4 k0 k1 r4 hbx hm4
  go_wp2_with fail
  generalize w4.alloc (Obj.cells #[Value.int .i64 S, Value.slice (some ⟨g4, 0, none⟩) n n] 27) = w5 at *
  refine Calls.mono HIM.out ?_
  rintro e w6 ⟨rfl, hb6⟩
  have s6 := s5.next hb6
  have t6 := t5.next hb6
  have R6 := kide (R5.out.later hb6)
  obtain ⟨k0, k1⟩ := s6.two
  obtain ⟨j0, j1⟩ := t6.two
  clear hb6 s5 t5 HIM R5
  generalize cnfR S (xs.map Iw.ks) = V at *
  have hVV : (V != V) = false := by simp
  have S6 := kide s6.below
  go_wp2_with fail
  go_region_held3 (fun u => u.cell? ⟨w.heap.size, 0, none⟩ = some (Value.int .i64 S) ∧ u.cell? ⟨w.heap.size, 1, none⟩ = some (Value.slice b n c) ∧ u.cell? ⟨w4.heap.size, 0, none⟩ = some (Value.int .i64 S) ∧ u.cell? ⟨w4.heap.size, 1, none⟩ = some (Value.slice (some ⟨g4, 0, none⟩) n n)) (simp [*])
    (first
      | (go_at_call 8; refine Calls.mono (HTC.out _ ?_) ?_; exact S6.out.drew; rintro e w7 ⟨g7, m7, rfl, hm7, r7, hb7⟩; replace hb7 := kundrew hb7; have s7 := St.next (wk := w6) s6 hb7; have t7 := St.next (wk := w6) t6 hb7; have HE7 := kide (eqCnf_same S _ _ n n m4 m7 w7 (RdII.later (w := w6) R6.out hb7) r7 (HM4.out.trans hm7.symm) n (len_of_ks HM4.out HN.out) (len_of_ks hm7 HN.out)); obtain ⟨x0, x1⟩ := s7.two; obtain ⟨z0, z1⟩ := t7.two; clear hm7 r7 hb7)
      | (go_at_call 10; refine Calls.mono HE7.out ?_; rintro e w8 ⟨rfl, hb8⟩; have s8 := s7.next hb8; have t8 := t7.next hb8; obtain ⟨u0, u1⟩ := s8.two; obtain ⟨v0, v1⟩ := t8.two))
  go_wp2_with fail
  go_ret
  exact ⟨rfl, s8.below⟩

theorem law_no_FnExactCnfOk (S : Int) (b : Option Addr) (n c : Nat) (w : World) (Z : Int) (hZ : Z < 0)
    (HSZ : Hid (∀ u, Below w.heap.size w u → Calls Try.prog 6 #[.agg #[.int .i64 S, .slice b n c], .int .i64 1048576] u fun e w' => e = .returned (.int .i64 Z) ∧ Below u.heap.size u w')) :
    Calls Try.prog 3 #[.agg #[.int .i64 S, .slice b n c]] w fun e w' => e = .returned (.bool true) ∧ Below w.heap.size w w' := by
  have s0 := St.start w (.cells #[.int .i64 S, .slice b n c] 24)
  go_enter Try.func3, Try.ntmps3
  go_wp2_with fail
  refine Calls.mono (HSZ.out _ s0.below) ?_
  rintro e w1 ⟨rfl, hb1⟩
  have s1 := s0.next hb1
  go_wp2_with fail
  go_ret
  exact ⟨rfl, s1.below⟩

theorem walk_FnExactCnfOk (S : Int) (b : Option Addr) (n c : Nat) (hS : in64 S) (hn : n ≤ 9223372036854775807) (w : World)
    (hy : n ≤ 1048576 → ∃ hs : List Ih, hs.length = n ∧ RdIh w b hs ∧ ∀ h ∈ hs, NumsOf w h) :
    Calls Try.prog 3 #[.agg #[.int .i64 S, .slice b n c]] w fun e w' => e = .returned (.bool true) ∧ Below w.heap.size w w' := by
  obtain ⟨Z, HSZ, -, hneg | ⟨hpos, xs, hxl, hr⟩⟩ := size_cnf S b n c w hn hy
  · exact law_no_FnExactCnfOk S b n c w Z hneg HSZ
  · exact law_yes_FnExactCnfOk S b n c xs w hr hxl Z hpos HSZ

end Go.Proofs.Ytpajfeboaeoclaa
