/- Contracts of the laws' own small functions on rows of splits: how long. -/
import Derived.Test.YtddgldfjeklhbaaJD
namespace Go.Proofs.Ytddgldfjeklhbaa
set_option linter.unusedVariables false
set_option linter.unusedSimpArgs false
open Go.RowKit

/-- A split as it lies, with its bars as they lie. -/
structure Ph where
  id : Int
  st : Int
  a : Option Addr
  n : Nat
  c : Nat
  hs : List Yh

def PhAt (w : World) (b o : Nat) (h : Ph) : Prop :=
  w.cell? ⟨b, o, none⟩ = some (.int .i64 h.id) ∧ w.cell? ⟨b, o + 1, none⟩ = some (.int .i64 h.st) ∧ w.cell? ⟨b, o + 2, none⟩ = some (.slice h.a h.n h.c)

theorem PhAt.later {w w' : World} {b o : Nat} {h : Ph} (k : PhAt w b o h) (hb : Below w.heap.size w w') : PhAt w' b o h := by
  obtain ⟨f0, f1, f2⟩ := k
  have l := block_lt_of_cell f0
  exact ⟨by rw [kcell hb _ _ l]; exact f0, by rw [kcell hb _ _ l]; exact f1, by rw [kcell hb _ _ l]; exact f2⟩

/-- The bars of a split lie as told. -/
def PhOk (w : World) (h : Ph) : Prop := h.n ≤ 9223372036854775807 ∧ (h.n ≤ 1048576 → h.hs.length = h.n ∧ RdYh w h.a h.hs)
theorem PhOk.later {w w' : World} {h : Ph} (k : PhOk w h) (hb : Below w.heap.size w w') : PhOk w' h := ⟨k.1, fun hn => ⟨(k.2 hn).1, (k.2 hn).2.later hb⟩⟩

def RdPh (w : World) (a : Option Addr) (hs : List Ph) : Prop :=
  hs.length ≤ 1048576 ∧ (hs = [] ∨ ∃ b o, a = some ⟨b, o, none⟩ ∧ ∀ i h, hs[i]? = some h → PhAt w b (o + i * 3) h ∧ PhOk w h)

theorem RdPh.later {w w' : World} {a : Option Addr} {hs : List Ph} (h : RdPh w a hs) (hb : Below w.heap.size w w') : RdPh w' a hs := by
  refine ⟨h.1, ?_⟩
  rcases h.2 with h | ⟨b, o, rfl, hc⟩
  · exact .inl h
  · exact .inr ⟨b, o, rfl, fun i x hi => ⟨(hc i x hi).1.later hb, (hc i x hi).2.later hb⟩⟩

def szP (h : Ph) (L : Int) : Int := if (h.n : Int) ≤ L then szYl h.hs (L - h.n) else -1

theorem szP_range (h : Ph) (L : Int) (hL : 0 ≤ L) : szP h L = -1 ∨ 0 ≤ szP h L ∧ szP h L ≤ L := by
  unfold szP
  split
  · rcases szYl_range h.hs (L - h.n) (by omega) with e | ⟨e1, e2, -⟩
    · exact .inl e
    · exact .inr ⟨e1, by omega⟩
  · exact .inl rfl

theorem szSplit_any (h : Ph) (L : Int) (w : World) (hL : 0 ≤ L) (hL2 : L ≤ 1048576) (hk : PhOk w h) :
    Calls Try.prog 19 #[.agg #[.int .i64 h.id, .int .i64 h.st, .slice h.a h.n h.c], .int .i64 L] w fun e w' => e = .returned (.int .i64 (szP h L)) ∧ Below w.heap.size w w' := by
  have hr := szP_range h L hL
  have HB : Hid (∀ u, Below w.heap.size w u → Calls Try.prog 30 #[.slice h.a h.n h.c, .int .i64 L] u fun e w' => e = .returned (.int .i64 (szP h L)) ∧ Below u.heap.size u w') := fun u hu => by
    by_cases hn : (h.n : Int) ≤ L
    · obtain ⟨e1, e2⟩ := hk.2 (by omega)
      have := szBarS_in h.a h.c h.hs L u (e2.later hu) hL hL2 (by omega)
      rw [e1] at this
      rw [szP, if_pos hn]
      exact this
    · rw [szP, if_neg hn]
      exact (szBarS_out h.a h.n h.c L u hL hL2 hk.1 hn).mono (fun e w' hh => ⟨hh.1, by rw [hh.2]; exact Below.refl _ _⟩)
  generalize szP h L = Q at *
  obtain ⟨id, st, a, n, c, hs⟩ := h
  simp only [] at HB ⊢
  have hb0 : Below w.heap.size w (w.alloc (Obj.cells #[Value.int .i64 id, Value.int .i64 st, Value.slice a n c] 46)) := (Below.refl _ _).alloc (Nat.le_refl _) _
  have B0 := kide hb0
  clear hb0 hk
  rcases hr with rfl | ⟨hr, -⟩
  all_goals
    go_enter Try.func19, Try.ntmps19
    go_wp2_with fail
    refine Calls.mono (HB.out _ B0.out) ?_
    rintro e w1 ⟨rfl, hb1⟩
    go_wp2_with fail
    go_ret
    exact ⟨rfl, B0.out.trans (hb1.mono (by simp))⟩

/-- What is left of L behind some splits; -1: nothing. -/
def szPl : List Ph → Int → Int
  | [], L => L
  | h :: t, L => if 0 ≤ szP h L then szPl t (szP h L) else -1

theorem szPl_range (hs : List Ph) (L : Int) (hL : 0 ≤ L) : szPl hs L = -1 ∨ 0 ≤ szPl hs L ∧ szPl hs L ≤ L := by
  induction hs generalizing L with
  | nil => right; simp [szPl]; exact hL
  | cons h t ih =>
    rw [szPl]
    split
    · rename_i hc
      have := szP_range h L hL
      rcases ih (szP h L) hc with e | ⟨e1, e2⟩
      · left; exact e
      · right; exact ⟨e1, by omega⟩
    · left; rfl

/-- Each split's bars are short enough where all is. -/
theorem szPl_each (hs : List Ph) (L : Int) (hL : 0 ≤ L) (hz : 0 ≤ szPl hs L) : ∀ h ∈ hs, ∃ Q : Int, 0 ≤ Q ∧ Q ≤ L ∧ 0 ≤ szP h Q := by
  induction hs generalizing L with
  | nil => simp
  | cons h t ih =>
    rw [szPl] at hz
    split at hz
    · rename_i hc
      have hr := szP_range h L hL
      intro x hx
      rcases List.mem_cons.1 hx with rfl | hx
      · exact ⟨L, hL, Int.le_refl _, hc⟩
      · obtain ⟨Q, h1, h2, h3⟩ := ih (szP h L) hc hz x hx
        exact ⟨Q, h1, by omega, h3⟩
    · omega

theorem szSplitS_in (a : Option Addr) (c : Nat) (hs : List Ph) (L : Int) (w : World) (hr : RdPh w a hs) (hL : 0 ≤ L) (hL2 : L ≤ 1048576) (h : (hs.length : Int) ≤ L) :
    Calls Try.prog 5 #[.slice a hs.length c, .int .i64 L] w fun e w' => e = .returned (.int .i64 (szPl hs (L - hs.length))) ∧ Below w.heap.size w w' := by
  have hlen := hr.1
  generalize hZ : szPl hs (L - hs.length) = Z
  have HZ : Hid (szPl hs (L - hs.length) = Z) := hZ
  clear hZ
  go_enter Try.func5, Try.ntmps5
  go_wp2_with fail
  go_loopw [1, 5] (fun l i wr => ∃ (k : Nat) (Q : Int), k ≤ hs.length ∧ i = .int .i64 k ∧ l = .int .i64 Q ∧ 0 ≤ Q ∧ Q ≤ 1048576 ∧ szPl (hs.drop k) Q = Z ∧ Below w.heap.size w wr) (fun _ i _ => hs.length - (intOf i).toNat)
  case atStart => exact ⟨0, _, Nat.zero_le _, rfl, rfl, by omega, by omega, by rw [List.drop_zero]; exact HZ.out, Below.refl _ _⟩
  case round =>
    obtain ⟨k, Q, hk, rfl, rfl, hQ0, hQ1, hq, hbel⟩ := hrel
    by_cases hlt : k < hs.length
    · obtain ⟨-, h | ⟨b, o, rfl, hc⟩⟩ := hr
      · subst h; simp at hlt
      obtain ⟨x, hh⟩ : ∃ x, hs[k] = x := ⟨_, rfl⟩
      obtain ⟨f1, f2⟩ := hc k x (by rw [List.getElem?_eq_getElem hlt, hh])
      obtain ⟨g0, g1, g2⟩ := f1.later hbel
      have HCA := kide (szSplit_any x Q wr hQ0 hQ1 (f2.later hbel))
      have hrr := szP_range x Q hQ0
      rw [List.drop_eq_getElem_cons hlt, hh, szPl] at hq
      generalize szP x Q = R at *
      obtain ⟨id, st, a1, n1, c1, hs1⟩ := x
      simp only [] at g0 g1 g2 HCA
      have HQ : Hid _ := hq
      have HB : Hid _ := hbel
      clear hc hh f1 f2 hbel hq
      rcases hrr with rfl | ⟨hR0, hR1⟩
      · go_wp2_with (go_at_call 19; refine Calls.mono HCA.out ?_; rintro e w1 ⟨rfl, hb1⟩)
        go_ret
        have h := HQ.out
        rw [if_neg (by omega)] at h
        exact ⟨ret_int h, HB.out.trans (hb1.mono HB.out.size)⟩
      · go_wp2_with (go_at_call 19; refine Calls.mono HCA.out ?_; rintro e w1 ⟨rfl, hb1⟩)
        go_roundw
        case rel =>
          have h := HQ.out
          rw [if_pos hR0] at h
          exact ⟨k + 1, _, by omega, by go_num, rfl, by omega, by omega, h, HB.out.trans (hb1.mono HB.out.size)⟩
        case measure => simp [intOf]; omega
    · have e : k = hs.length := by omega
      rw [e, List.drop_length, szPl] at hq
      have HQ : Hid _ := hq
      clear hq
      go_wp2_with fail
      go_ret
      exact ⟨ret_int HQ.out, hbel⟩

theorem szSplitS_out (a : Option Addr) (n c : Nat) (L : Int) (w : World) (hL : 0 ≤ L) (hL2 : L ≤ 1048576) (hn : n ≤ 9223372036854775807) (h : ¬ (n : Int) ≤ L) :
    Calls Try.prog 5 #[.slice a n c, .int .i64 L] w fun e w' => e = .returned (.int .i64 (-1)) ∧ w' = w := by
  go_enter Try.func5, Try.ntmps5
  go_wp2_with fail
  go_ret
  exact ⟨rfl, rfl⟩

end Go.Proofs.Ytddgldfjeklhbaa
