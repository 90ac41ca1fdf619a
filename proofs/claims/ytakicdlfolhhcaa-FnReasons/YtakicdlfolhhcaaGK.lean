/- The laws' own functions on forests; the program's ForestOk and Root. -/
import Derived.Test.YtakicdlfolhhcaaGJ
namespace Go.Proofs.Ytakicdlfolhhcaa
set_option linter.unusedVariables false
set_option linter.unusedSimpArgs false
open Go.RowKit

theorem kfrozK {W w1 : World} (hb : Below W.heap.size W w1) (b o : Nat) (h : b < W.heap.size) : w1.frozen? ⟨b, o, none⟩ = W.frozen? ⟨b, o, none⟩ := hb.frozen (p := ⟨b, o, none⟩) h

theorem implForest_any (z : Int) (a : Option Addr) (n c : Nat) (ls : List Lk) (w : World) (hr : RdK w a ls) (hn : ls.length = n) :
    Calls Try.prog 14 #[.agg #[.int .i64 z, .slice a n c]] w fun e w' => e = .returned (.bool (forR z ls).isSome) ∧ Below w.heap.size w w' := by
  have s0 := St.start w (.cells #[.int .i64 z, .slice a n c] 29)
  have HC := kide (groveOf_any z a n c ls _ (hr.later s0.below) hn)
  clear hr hn
  go_enter Try.func14, Try.ntmps14
  go_wp2_with fail
  refine Calls.mono HC.out ?_
  rintro e w1 ⟨hb, ⟨hf, rfl⟩ | ⟨L, G, s, rt, dp, M, hf, rfl, -⟩⟩
  · have B1 := kide (s0.below.trans (hb.mono s0.below.size))
    have HF := kide hf
    clear hb hf
    go_wp2_with fail
    go_ret
    exact ⟨by rw [HF.out]; rfl, B1.out⟩
  · have B1 := kide (s0.below.trans (hb.mono s0.below.size))
    have HF := kide hf
    clear hb hf
    unfold pt
    go_wp2_with fail
    go_ret
    exact ⟨by rw [HF.out]; rfl, B1.out⟩

theorem szLinkS_any (a : Option Addr) (n c : Nat) (L : Int) (w : World) (hL : 0 ≤ L) (hL2 : L ≤ 1048576) (hn : n ≤ 9223372036854775807) :
    Calls Try.prog 38 #[.slice a n c, .int .i64 L] w fun e w' => e = .returned (.int .i64 (if (n : Int) ≤ L then L - n else -1)) ∧ w' = w := by
  by_cases h : (n : Int) ≤ L
  · rw [if_pos h]
    go_enter Try.func38, Try.ntmps38
    go_wp2
    go_ret
    exact ⟨rfl, rfl⟩
  · rw [if_neg h]
    go_enter Try.func38, Try.ntmps38
    go_wp2
    go_ret
    exact ⟨rfl, rfl⟩

theorem szForest_any (z : Int) (a : Option Addr) (n c : Nat) (w : World) (hn : n ≤ 9223372036854775807) :
    Calls Try.prog 11 #[.agg #[.int .i64 z, .slice a n c], .int .i64 1048576] w fun e w' => e = .returned (.int .i64 (if (n : Int) ≤ 1048576 then 1048576 - n else -1)) ∧ Below w.heap.size w w' := by
  have s0 := St.start w (.cells #[.int .i64 z, .slice a n c] 24)
  have HC := kide (fun u => szLinkS_any a n c 1048576 u (by omega) (by omega) hn)
  by_cases h : (n : Int) ≤ 1048576
  · rw [if_pos h] at HC ⊢
    go_enter Try.func11, Try.ntmps11
    go_wp2_with fail
    refine Calls.mono (HC.out _) ?_
    rintro e w1 ⟨rfl, rfl⟩
    have S0 := kide s0
    clear s0
    go_wp2_with fail
    go_ret
    exact ⟨rfl, S0.out.below⟩
  · rw [if_neg h] at HC ⊢
    go_enter Try.func11, Try.ntmps11
    go_wp2_with fail
    refine Calls.mono (HC.out _) ?_
    rintro e w1 ⟨rfl, rfl⟩
    have S0 := kide s0
    clear s0
    go_wp2_with fail
    go_ret
    exact ⟨rfl, S0.out.below⟩

theorem toLink_any (x y z : Int) (w : World) :
    Calls Try.prog 63 #[.agg #[.int .i64 x, .int .i64 y, .int .i64 z]] w fun e w' => e = .returned (.agg #[.int .i64 x, .int .i64 y, .int .i64 z]) ∧ Below w.heap.size w w' := by
  go_enter Try.func63, Try.ntmps63
  go_wp2_with fail
  refine bodyPost_ret (v := .agg #[.int .i64 x, .int .i64 y, .int .i64 z]) (by simp [results, Try.results63, go_sem]) rfl ⟨rfl, ?_⟩
  exact (((Below.refl _ _).alloc (Nat.le_refl _) _).alloc (by simp) _).alloc (by simp; omega) _

theorem eqLink_same (x y z : Int) (w : World) :
    Calls Try.prog 65 #[.agg #[.int .i64 x, .int .i64 y, .int .i64 z], .agg #[.int .i64 x, .int .i64 y, .int .i64 z]] w fun e w' => e = .returned (.bool true) ∧ Below w.heap.size w w' := by
  have h2 : Below w.heap.size w ((w.alloc (Obj.cells #[Value.int .i64 x, .int .i64 y, .int .i64 z] 55)).alloc (Obj.cells #[Value.int .i64 x, .int .i64 y, .int .i64 z] 55)) := ((Below.refl _ _).alloc (Nat.le_refl _) _).alloc (by simp) _
  have hx : (x != x) = false := by simp
  have hy : (y != y) = false := by simp
  have hz : (z != z) = false := by simp
  go_enter Try.func65, Try.ntmps65
  go_wp2_with fail
  go_ret
  exact ⟨rfl, h2⟩

theorem eqLinkS_same (a b : Option Addr) (c d n : Nat) (ls : List Lk) (w : World) (hr : RdK w a ls) (hs : RdK w b ls) (hn : ls.length = n) :
    Calls Try.prog 44 #[.slice a n c, .slice b n d] w fun e w' => e = .returned (.bool true) ∧ Below w.heap.size w w' := by
  subst hn
  have hl1 := hr.1
  have hne : ((ls.length : Int) != (ls.length : Int)) = false := by simp
  go_enter Try.func44, Try.ntmps44
  go_wp2_with fail
  clear hne
  go_loopw [5] (fun i wr => ∃ k : Nat, k ≤ ls.length ∧ i = .int .i64 k ∧ Below w.heap.size w wr) (fun i _ => ls.length - (intOf i).toNat)
  case atStart => exact ⟨0, Nat.zero_le _, rfl, Below.refl _ _⟩
  case round =>
    obtain ⟨k, hk, rfl, hbel⟩ := hrel
    have HB := kide hbel
    by_cases hlt : k < ls.length
    · obtain ⟨-, -, h | ⟨b1, o1, rfl, hc1⟩⟩ := hr
      · subst h; simp at hlt
      obtain ⟨-, -, h | ⟨b2, o2, rfl, hc2⟩⟩ := hs
      · subst h; simp at hlt
      obtain ⟨⟨x, y, z⟩, hh⟩ : ∃ x, ls[k] = x := ⟨_, rfl⟩
      have gx : ls[k]? = some (x, y, z) := by rw [List.getElem?_eq_getElem hlt, hh]
      obtain ⟨p0, p1, p2⟩ := (hc1 k _ gx).later hbel
      obtain ⟨q0, q1, q2⟩ := (hc2 k _ gx).later hbel
      simp only [] at p0 p1 p2 q0 q1 q2
      have l1 := block_lt_of_cell p0
      have l2 := block_lt_of_cell q0
      have i0 : (k : Int) < (ls.length : Int) := by omega
      clear hc1 hc2 hbel hh gx
      go_wp2_with fail
      go_region_held3 (fun u => u.cell? ⟨b1, o1 + k * 3, none⟩ = some (Value.int .i64 x) ∧ u.cell? ⟨b1, o1 + k * 3 + 1, none⟩ = some (Value.int .i64 y) ∧ u.cell? ⟨b1, o1 + k * 3 + 2, none⟩ = some (Value.int .i64 z) ∧ u.cell? ⟨b2, o2 + k * 3, none⟩ = some (Value.int .i64 x) ∧ u.cell? ⟨b2, o2 + k * 3 + 1, none⟩ = some (Value.int .i64 y) ∧ u.cell? ⟨b2, o2 + k * 3 + 2, none⟩ = some (Value.int .i64 z)) (simp [*])
        ((go_at_call 65; refine Calls.mono (eqLink_same _ _ _ _) ?_; rintro e w1 ⟨rfl, hb1⟩; replace hb1 := kundrew hb1; have k0 := kcell hb1 b1 (o1 + k * 3) l1; have k1 := kcell hb1 b1 (o1 + k * 3 + 1) l1; have k1' := kcell hb1 b1 (o1 + k * 3 + 2) l1; have k2 := kcell hb1 b2 (o2 + k * 3) l2; have k3 := kcell hb1 b2 (o2 + k * 3 + 1) l2; have k4 := kcell hb1 b2 (o2 + k * 3 + 2) l2; rw [p0] at k0; rw [p1] at k1; rw [p2] at k1'; rw [q0] at k2; rw [q1] at k3; rw [q2] at k4))
      go_wp2_with fail
      go_roundw
      case rel => exact ⟨k + 1, by omega, by go_num, HB.out.trans (hb1.mono HB.out.size)⟩
      case measure => simp [intOf]; omega
    · clear hbel
      go_wp2_with fail
      go_ret
      exact ⟨rfl, HB.out⟩

theorem eqForest_same (z : Int) (a b : Option Addr) (c d n : Nat) (ls : List Lk) (w : World) (hr : RdK w a ls) (hs : RdK w b ls) (hn : ls.length = n) :
    Calls Try.prog 15 #[.agg #[.int .i64 z, .slice a n c], .agg #[.int .i64 z, .slice b n d]] w fun e w' => e = .returned (.bool true) ∧ Below w.heap.size w w' := by
  have h2 : Below w.heap.size w ((w.alloc (Obj.cells #[Value.int .i64 z, .slice a n c] 29)).alloc (Obj.cells #[Value.int .i64 z, .slice b n d] 29)) := ((Below.refl _ _).alloc (Nat.le_refl _) _).alloc (by simp) _
  have HC := kide (eqLinkS_same a b c d n ls _ (hr.later h2) (hs.later h2) hn)
  have H2 := kide h2
  have hx : (z != z) = false := by simp
  clear hr hs hn h2
  go_enter Try.func15, Try.ntmps15
  go_wp2_with fail
  refine Calls.mono HC.out ?_
  rintro e w1 ⟨rfl, hb1⟩
  have B1 := kide (H2.out.trans (hb1.mono H2.out.size))
  clear hb1
  go_wp2_with fail
  go_ret
  exact ⟨rfl, B1.out⟩

end Go.Proofs.Ytakicdlfolhhcaa
