/- Contracts of the laws' own small functions on rows of nodes: how long. -/
import Derived.Test.YteainbakfeedpaaTA
import Derived.Test.YteainbakfeedpaaTM
namespace Go.Proofs.Yteainbakfeedpaa
set_option linter.unusedVariables false
set_option linter.unusedSimpArgs false
open Go.RowKit

/-- A node as it lies: its text, where its kids lie, how many there are. -/
structure Hd where
  txt : ByteArray
  a : Option Addr
  n : Nat
  c : Nat

def RdH (w : World) (a : Option Addr) (hs : List Hd) : Prop :=
  hs.length ≤ 1048576 ∧ (hs = [] ∨ ∃ b o, a = some ⟨b, o, none⟩ ∧ ∀ i h, hs[i]? = some h → w.cell? ⟨b, o + i * 2, none⟩ = some (.string h.txt) ∧ w.cell? ⟨b, o + i * 2 + 1, none⟩ = some (.slice h.a h.n h.c) ∧ h.n ≤ 9223372036854775807 ∧ h.txt.size ≤ 9223372036854775807)

theorem szNode_yes (s : ByteArray) (a : Option Addr) (n c : Nat) (L : Int) (w : World) (hL : 0 ≤ L) (hL2 : L ≤ 1048576) (hn : n ≤ 9223372036854775807) (hs : s.size ≤ 9223372036854775807) (h : (s.size : Int) ≤ L ∧ (n : Int) ≤ L - s.size) :
    Calls Try.prog 66 #[.agg #[.string s, .slice a n c], .int .i64 L] w fun e w' => e = .returned (.int .i64 (L - s.size - n)) ∧ Below w.heap.size w w' := by
  obtain ⟨h1, h2⟩ := h
  go_enter Try.func66, Try.ntmps66
  go_wp2_with (go_at_call 77; refine (szInt64S_any _ _ _ _ _ (by omega) (by omega) hn).mono ?_; rw [if_pos h2]; rintro e w' ⟨rfl, rfl⟩)
  go_ret
  exact ⟨rfl, (Below.refl _ _).alloc (Nat.le_refl _) _⟩

theorem szNode_no (s : ByteArray) (a : Option Addr) (n c : Nat) (L : Int) (w : World) (hL : 0 ≤ L) (hL2 : L ≤ 1048576) (hn : n ≤ 9223372036854775807) (hs : s.size ≤ 9223372036854775807) (h : ¬ ((s.size : Int) ≤ L ∧ (n : Int) ≤ L - s.size)) :
    Calls Try.prog 66 #[.agg #[.string s, .slice a n c], .int .i64 L] w fun e w' => e = .returned (.int .i64 (-1)) ∧ Below w.heap.size w w' := by
  by_cases h1 : (s.size : Int) ≤ L
  · have h2 : ¬ (n : Int) ≤ L - s.size := fun h2 => h ⟨h1, h2⟩
    clear h
    go_enter Try.func66, Try.ntmps66
    go_wp2_with (go_at_call 77; refine (szInt64S_any _ _ _ _ _ (by omega) (by omega) hn).mono ?_; rw [if_neg h2]; rintro e w' ⟨rfl, rfl⟩)
    go_ret
    exact ⟨rfl, (Below.refl _ _).alloc (Nat.le_refl _) _⟩
  · clear h
    go_enter Try.func66, Try.ntmps66
    go_wp2_with fail
    go_ret
    exact ⟨rfl, (Below.refl _ _).alloc (Nat.le_refl _) _⟩

/-- What is left of L behind the texts and kids of some nodes; -1: nothing. -/
def szH : List Hd → Int → Int
  | [], L => L
  | h :: t, L => if (h.txt.size : Int) ≤ L ∧ (h.n : Int) ≤ L - h.txt.size then szH t (L - h.txt.size - h.n) else -1

theorem szNodeS_in (a : Option Addr) (c : Nat) (hs : List Hd) (L : Int) (w : World) (hr : RdH w a hs) (hL : 0 ≤ L) (hL2 : L ≤ 1048576) (h : (hs.length : Int) ≤ L) :
    Calls Try.prog 43 #[.slice a hs.length c, .int .i64 L] w fun e w' => e = .returned (.int .i64 (szH hs (L - hs.length))) ∧ Below w.heap.size w w' := by
  have hlen := hr.1
  generalize hZ : szH hs (L - hs.length) = Z
  have HZ : Hid (szH hs (L - hs.length) = Z) := hZ
  clear hZ
  go_enter Try.func43, Try.ntmps43
  go_wp2_with fail
  go_loopw [1, 5] (fun l i wr => ∃ (k : Nat) (Q : Int), k ≤ hs.length ∧ i = .int .i64 k ∧ l = .int .i64 Q ∧ 0 ≤ Q ∧ Q ≤ 1048576 ∧ szH (hs.drop k) Q = Z ∧ Below w.heap.size w wr) (fun _ i _ => hs.length - (intOf i).toNat)
  case atStart => exact ⟨0, _, Nat.zero_le _, rfl, rfl, by omega, by omega, by rw [List.drop_zero]; exact HZ.out, Below.refl _ _⟩
  case round =>
    obtain ⟨k, Q, hk, rfl, rfl, hQ0, hQ1, hq, hbel⟩ := hrel
    by_cases hlt : k < hs.length
    · obtain ⟨-, h | ⟨b, o, rfl, hc⟩⟩ := hr
      · subst h; simp at hlt
      obtain ⟨⟨t, a1, n1, c1⟩, hh⟩ : ∃ x, hs[k] = x := ⟨_, rfl⟩
      obtain ⟨f0, f1, f2, f3⟩ := hc k ⟨t, a1, n1, c1⟩ (by rw [List.getElem?_eq_getElem hlt, hh])
      simp only [] at f0 f1 f2 f3
      have g0 : wr.cell? ⟨b, o + k * 2, none⟩ = some (.string t) := by rw [hbel.cell (by exact block_lt_of_cell f0)]; exact f0
      have g1 : wr.cell? ⟨b, o + k * 2 + 1, none⟩ = some (.slice a1 n1 c1) := by rw [hbel.cell (by exact block_lt_of_cell f1)]; exact f1
      rw [List.drop_eq_getElem_cons hlt, hh, szH] at hq
      simp only [] at hq
      have HQ : Hid _ := hq
      have HB : Hid _ := hbel
      clear hc hh f0 f1 hbel hq
      by_cases hyes : (t.size : Int) ≤ Q ∧ (n1 : Int) ≤ Q - t.size
      · go_wp2_with (go_at_call 66; refine (szNode_yes _ _ _ _ _ _ hQ0 hQ1 f2 f3 hyes).mono ?_; rintro e w1 ⟨rfl, hb1⟩)
        go_roundw
        case rel =>
          have h := HQ.out
          rw [if_pos hyes] at h
          exact ⟨k + 1, _, by omega, by go_num, rfl, by omega, by omega, h, HB.out.trans (hb1.mono HB.out.size)⟩
        case measure => simp [intOf]; omega
      · go_wp2_with (go_at_call 66; refine (szNode_no _ _ _ _ _ _ hQ0 hQ1 f2 f3 hyes).mono ?_; rintro e w1 ⟨rfl, hb1⟩)
        go_ret
        have h := HQ.out
        rw [if_neg hyes] at h
        exact ⟨ret_int h, HB.out.trans (hb1.mono HB.out.size)⟩
    · have e : k = hs.length := by omega
      rw [e, List.drop_length, szH] at hq
      have HQ : Hid _ := hq
      clear hq
      go_wp2_with fail
      go_ret
      exact ⟨ret_int HQ.out, hbel⟩

theorem szNodeS_out (a : Option Addr) (n c : Nat) (L : Int) (w : World) (hL : 0 ≤ L) (hL2 : L ≤ 1048576) (hn : n ≤ 9223372036854775807) (h : ¬ (n : Int) ≤ L) :
    Calls Try.prog 43 #[.slice a n c, .int .i64 L] w fun e w' => e = .returned (.int .i64 (-1)) ∧ w' = w := by
  go_enter Try.func43, Try.ntmps43
  go_wp2_with fail
  go_ret
  exact ⟨rfl, rfl⟩

theorem szH_range (hs : List Hd) (L : Int) (hL : 0 ≤ L) : szH hs L = -1 ∨ 0 ≤ szH hs L ∧ szH hs L ≤ L ∧ ∀ h ∈ hs, (h.n : Int) ≤ L ∧ (h.txt.size : Int) ≤ L := by
  induction hs generalizing L with
  | nil => right; simp [szH]; exact hL
  | cons h t ih =>
    rw [szH]
    split
    · rename_i hc
      rcases ih (L - h.txt.size - h.n) (by omega) with e | ⟨e1, e2, e3⟩
      · left; exact e
      · right
        refine ⟨e1, by omega, fun x hx => ?_⟩
        rcases List.mem_cons.1 hx with rfl | hx
        · omega
        · have := e3 x hx; omega
    · left; rfl

/-- What is left behind a whole tree; -1: nothing. -/
def szT (hs : List Hd) (n : Nat) : Int := if n ≤ 1048576 then szH hs (1048576 - n) else -1

theorem szTree_in (a : Option Addr) (c : Nat) (hs : List Hd) (w : World) (hr : RdH w a hs) :
    Calls Try.prog 18 #[.agg #[.slice a hs.length c], .int .i64 1048576] w fun e w' => e = .returned (.int .i64 (szH hs (1048576 - hs.length))) ∧ Below w.heap.size w w' := by
  have hlen := hr.1
  have hb0 : Below w.heap.size w (w.alloc (Obj.cells #[Value.slice a hs.length c] 38)) := (Below.refl _ _).alloc (Nat.le_refl _) _
  have hr' : RdH (w.alloc (Obj.cells #[Value.slice a hs.length c] 38)) a hs := by
    refine ⟨hr.1, ?_⟩
    rcases hr.2 with h | ⟨b, o, rfl, hc⟩
    · exact .inl h
    · refine .inr ⟨b, o, rfl, fun i h hi => ?_⟩
      obtain ⟨f0, f1, f2, f3⟩ := hc i h hi
      exact ⟨by rw [hb0.cell (by exact block_lt_of_cell f0)]; exact f0, by rw [hb0.cell (by exact block_lt_of_cell f1)]; exact f1, f2, f3⟩
  have hz := szH_range hs (1048576 - hs.length) (by omega)
  have HC := show Hid _ from szNodeS_in a c hs 1048576 _ hr' (by omega) (by omega) (by omega)
  generalize szH hs (1048576 - hs.length) = Z at *
  have hZ : Z = -1 ∨ 0 ≤ Z := by rcases hz with h | h; exact .inl h; exact .inr h.1
  clear hr hr' hz
  rcases hZ with rfl | hZ
  · go_enter Try.func18, Try.ntmps18
    go_wp2_with fail
    refine Calls.mono HC.out ?_
    rintro e w1 ⟨rfl, hb1⟩
    go_wp2_with fail
    go_ret
    exact ⟨rfl, hb0.trans (hb1.mono (by simp))⟩
  · go_enter Try.func18, Try.ntmps18
    go_wp2_with fail
    refine Calls.mono HC.out ?_
    rintro e w1 ⟨rfl, hb1⟩
    go_wp2_with fail
    go_ret
    exact ⟨rfl, hb0.trans (hb1.mono (by simp))⟩

theorem szTree_out (a : Option Addr) (n c : Nat) (w : World) (hn : n ≤ 9223372036854775807) (h : ¬ n ≤ 1048576) :
    Calls Try.prog 18 #[.agg #[.slice a n c], .int .i64 1048576] w fun e w' => e = .returned (.int .i64 (-1)) ∧ Below w.heap.size w w' := by
  go_enter Try.func18, Try.ntmps18
  go_wp2_with (go_at_call 43; refine (szNodeS_out _ _ _ _ _ (by omega) (by omega) hn (by omega)).mono ?_; rintro e w1 ⟨rfl, rfl⟩)
  go_ret
  exact ⟨rfl, (Below.refl _ _).alloc (Nat.le_refl _) _⟩

end Go.Proofs.Yteainbakfeedpaa
