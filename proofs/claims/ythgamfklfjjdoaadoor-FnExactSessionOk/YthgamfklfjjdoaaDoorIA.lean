/- Contracts of the laws' own small functions on rows of literals: how long. -/
import Derived.Test.YthgamfklfjjdoaaDoorQD
import Derived.Test.YthgamfklfjjdoaaDoorQB
namespace Go.Proofs.YthgamfklfjjdoaaDoor
set_option linter.unusedVariables false
set_option linter.unusedSimpArgs false
open Go.RowKit

/-- A literal as it lies, with its two terms' nodes as they lie. -/
structure Lh where
  id : Int
  eq : Bool
  sa : Option Addr
  sn : Nat
  sc : Nat
  ss : List Th
  ta : Option Addr
  tn : Nat
  tc : Nat
  ts : List Th

def Lh.val (h : Lh) : Value := .agg #[.int .i64 h.id, .bool h.eq, .slice h.sa h.sn h.sc, .slice h.ta h.tn h.tc]

def LhAt (w : World) (b o : Nat) (h : Lh) : Prop :=
  w.cell? ⟨b, o, none⟩ = some (.int .i64 h.id) ∧ w.cell? ⟨b, o + 1, none⟩ = some (.bool h.eq) ∧ w.cell? ⟨b, o + 2, none⟩ = some (.slice h.sa h.sn h.sc) ∧ w.cell? ⟨b, o + 3, none⟩ = some (.slice h.ta h.tn h.tc)

theorem LhAt.later {w w' : World} {b o : Nat} {h : Lh} (k : LhAt w b o h) (hb : Below w.heap.size w w') : LhAt w' b o h := by
  obtain ⟨f0, f1, f2, f3⟩ := k
  have l := block_lt_of_cell f0
  exact ⟨by rw [kcell hb _ _ l]; exact f0, by rw [kcell hb _ _ l]; exact f1, by rw [kcell hb _ _ l]; exact f2, by rw [kcell hb _ _ l]; exact f3⟩

/-- The nodes of a term lie as told. -/
def TmOk (w : World) (a : Option Addr) (n : Nat) (hs : List Th) : Prop := n ≤ 9223372036854775807 ∧ (n ≤ 1048576 → hs.length = n ∧ RdTh w a hs)
theorem TmOk.later {w w' : World} {a : Option Addr} {n : Nat} {hs : List Th} (k : TmOk w a n hs) (hb : Below w.heap.size w w') : TmOk w' a n hs := ⟨k.1, fun hn => ⟨(k.2 hn).1, (k.2 hn).2.later hb⟩⟩

def RdLh (w : World) (a : Option Addr) (hs : List Lh) : Prop :=
  hs.length ≤ 1048576 ∧ (hs = [] ∨ ∃ b o, a = some ⟨b, o, none⟩ ∧ ∀ i h, hs[i]? = some h → LhAt w b (o + i * 4) h ∧ TmOk w h.sa h.sn h.ss ∧ TmOk w h.ta h.tn h.ts)

theorem RdLh.later {w w' : World} {a : Option Addr} {hs : List Lh} (h : RdLh w a hs) (hb : Below w.heap.size w w') : RdLh w' a hs := by
  refine ⟨h.1, ?_⟩
  rcases h.2 with h | ⟨b, o, rfl, hc⟩
  · exact .inl h
  · exact .inr ⟨b, o, rfl, fun i x hi => ⟨(hc i x hi).1.later hb, (hc i x hi).2.1.later hb, (hc i x hi).2.2.later hb⟩⟩

def szTm (n : Nat) (hs : List Th) (L : Int) : Int := if (n : Int) ≤ L then szTl hs (L - n) else -1

theorem szTm_range (n : Nat) (hs : List Th) (L : Int) (hL : 0 ≤ L) : szTm n hs L = -1 ∨ 0 ≤ szTm n hs L ∧ szTm n hs L ≤ L := by
  unfold szTm
  split
  · rcases szTl_range hs (L - n) (by omega) with e | ⟨e1, e2, -⟩
    · exact .inl e
    · exact .inr ⟨e1, by omega⟩
  · exact .inl rfl

theorem szTerm_any (a : Option Addr) (n c : Nat) (hs : List Th) (L : Int) (w : World) (hL : 0 ≤ L) (hL2 : L ≤ 1048576) (hk : TmOk w a n hs) :
    Calls Tryd.prog 48 #[.agg #[.slice a n c], .int .i64 L] w fun e w' => e = .returned (.int .i64 (szTm n hs L)) ∧ Below w.heap.size w w' := by
  by_cases hn : (n : Int) ≤ L
  · obtain ⟨e1, e2⟩ := hk.2 (by omega)
    have := szTerm_in a c hs L w e2 hL hL2 (by omega) n e1
    rw [e1] at this
    rw [szTm, if_pos hn]
    exact this
  · rw [szTm, if_neg hn]
    exact szTerm_out a n c L w hL hL2 hk.1 hn

def szL (h : Lh) (L : Int) : Int := if 0 ≤ szTm h.sn h.ss L then szTm h.tn h.ts (szTm h.sn h.ss L) else -1

theorem szL_range (h : Lh) (L : Int) (hL : 0 ≤ L) : szL h L = -1 ∨ 0 ≤ szL h L ∧ szL h L ≤ L := by
  unfold szL
  split
  · rename_i h1
    have r1 := szTm_range h.sn h.ss L hL
    have r2 := szTm_range h.tn h.ts _ h1
    omega
  · exact .inl rfl

theorem szLiteral_any (h : Lh) (L : Int) (w : World) (hL : 0 ≤ L) (hL2 : L ≤ 1048576) (hs : TmOk w h.sa h.sn h.ss) (ht : TmOk w h.ta h.tn h.ts) :
    Calls Tryd.prog 32 #[h.val, .int .i64 L] w fun e w' => e = .returned (.int .i64 (szL h L)) ∧ Below w.heap.size w w' := by
  have r1 := szTm_range h.sn h.ss L hL
  have HA := kide (fun u (hu : Below w.heap.size w u) => szTerm_any h.sa h.sn h.sc h.ss L u hL hL2 (hs.later hu))
  have HB := kide (fun u (hu : Below w.heap.size w u) (h0 : 0 ≤ szTm h.sn h.ss L) => szTerm_any h.ta h.tn h.tc h.ts (szTm h.sn h.ss L) u h0 (by omega) (ht.later hu))
  have r2 := fun (h0 : 0 ≤ szTm h.sn h.ss L) => szTm_range h.tn h.ts _ h0
  unfold szL
  generalize szTm h.sn h.ss L = Q at *
  generalize szTm h.tn h.ts Q = Q2 at *
  obtain ⟨id, eq, sa, sn, sc, ss, ta, tn, tc, ts⟩ := h
  simp only [Lh.val] at HA HB ⊢
  have s0 := St.start w (.cells #[Value.int .i64 id, Value.bool eq, Value.slice sa sn sc, Value.slice ta tn tc] 71)
  clear hs ht
  rcases r1 with rfl | ⟨h1, h2⟩
  · rw [if_neg (by omega)]
    clear r2 HB
    go_enter Tryd.func32, Tryd.ntmps32
    go_wp2_with fail
    refine Calls.mono (HA.out _ s0.below) ?_
    rintro e w1 ⟨rfl, hb1⟩
    have s1 := s0.next hb1
    go_wp2_with fail
    go_ret
    exact ⟨rfl, s1.below⟩
  · rw [if_pos h1]
    have r3 := r2 h1
    have HC := kide (fun u hu => HB.out u hu h1)
    clear r2 HB
    rcases r3 with rfl | ⟨h3, h4⟩
    all_goals
      go_enter Tryd.func32, Tryd.ntmps32
      go_wp2_with fail
      refine Calls.mono (HA.out _ s0.below) ?_
      rintro e w1 ⟨rfl, hb1⟩
      have s1 := s0.next hb1
      have c3 := s1.cell 3
      simp at c3
      clear hb1 s0
      go_wp2_with fail
      refine Calls.mono (HC.out _ s1.below) ?_
      rintro e w2 ⟨rfl, hb2⟩
      have s2 := s1.next hb2
      go_wp2_with fail
      go_ret
      exact ⟨rfl, s2.below⟩

/-- What is left of L behind some literals; -1: nothing. -/
def szLl : List Lh → Int → Int
  | [], L => L
  | h :: t, L => if 0 ≤ szL h L then szLl t (szL h L) else -1

theorem szLl_range (hs : List Lh) (L : Int) (hL : 0 ≤ L) : szLl hs L = -1 ∨ 0 ≤ szLl hs L ∧ szLl hs L ≤ L := by
  induction hs generalizing L with
  | nil => right; simp [szLl]; exact hL
  | cons h t ih =>
    rw [szLl]
    split
    · rename_i hc
      have := szL_range h L hL
      rcases ih (szL h L) hc with e | ⟨e1, e2⟩
      · left; exact e
      · right; exact ⟨e1, by omega⟩
    · left; rfl

/-- Each literal is short enough where all are. -/
theorem szLl_each (hs : List Lh) (L : Int) (hL : 0 ≤ L) (hz : 0 ≤ szLl hs L) : ∀ h ∈ hs, ∃ Q : Int, 0 ≤ Q ∧ Q ≤ L ∧ 0 ≤ szL h Q := by
  induction hs generalizing L with
  | nil => simp
  | cons h t ih =>
    rw [szLl] at hz
    split at hz
    · rename_i hc
      have hr := szL_range h L hL
      intro x hx
      rcases List.mem_cons.1 hx with rfl | hx
      · exact ⟨L, hL, Int.le_refl _, hc⟩
      · obtain ⟨Q, h1, h2, h3⟩ := ih (szL h L) hc hz x hx
        exact ⟨Q, h1, by omega, h3⟩
    · omega

theorem szLiteralS_in (a : Option Addr) (c : Nat) (hs : List Lh) (L : Int) (w : World) (hr : RdLh w a hs) (hL : 0 ≤ L) (hL2 : L ≤ 1048576) (h : (hs.length : Int) ≤ L) :
    Calls Tryd.prog 11 #[.slice a hs.length c, .int .i64 L] w fun e w' => e = .returned (.int .i64 (szLl hs (L - hs.length))) ∧ Below w.heap.size w w' := by
  have hlen := hr.1
  generalize hZ : szLl hs (L - hs.length) = Z
  have HZ : Hid (szLl hs (L - hs.length) = Z) := hZ
  clear hZ
  go_enter Tryd.func11, Tryd.ntmps11
  go_wp2_with fail
  go_loopw [1, 5] (fun l i wr => ∃ (k : Nat) (Q : Int), k ≤ hs.length ∧ i = .int .i64 k ∧ l = .int .i64 Q ∧ 0 ≤ Q ∧ Q ≤ 1048576 ∧ szLl (hs.drop k) Q = Z ∧ Below w.heap.size w wr) (fun _ i _ => hs.length - (intOf i).toNat)
  case atStart => exact ⟨0, _, Nat.zero_le _, rfl, rfl, by omega, by omega, by rw [List.drop_zero]; exact HZ.out, Below.refl _ _⟩
  case round =>
    obtain ⟨k, Q, hk, rfl, rfl, hQ0, hQ1, hq, hbel⟩ := hrel
    by_cases hlt : k < hs.length
    · obtain ⟨-, h | ⟨b, o, rfl, hc⟩⟩ := hr
      · subst h; simp at hlt
      obtain ⟨x, hh⟩ : ∃ x, hs[k] = x := ⟨_, rfl⟩
      obtain ⟨f1, f2, f3⟩ := hc k x (by rw [List.getElem?_eq_getElem hlt, hh])
      obtain ⟨g0, g1, g2, g3⟩ := f1.later hbel
      have HCA := kide (szLiteral_any x Q wr hQ0 hQ1 (f2.later hbel) (f3.later hbel))
      have hrr := szL_range x Q hQ0
      rw [List.drop_eq_getElem_cons hlt, hh, szLl] at hq
      generalize szL x Q = R at *
      obtain ⟨id, eq, sa, sn, sc, ss, ta, tn, tc, ts⟩ := x
      simp only [Lh.val] at g0 g1 g2 g3 HCA
      have HQ : Hid _ := hq
      have HB : Hid _ := hbel
      clear hc hh f1 f2 f3 hbel hq
      rcases hrr with rfl | ⟨hR0, hR1⟩
      · go_wp2_with (go_at_call 32; refine Calls.mono HCA.out ?_; rintro e w1 ⟨rfl, hb1⟩)
        go_ret
        have h := HQ.out
        rw [if_neg (by omega)] at h
        exact ⟨ret_int h, HB.out.trans (hb1.mono HB.out.size)⟩
      · go_wp2_with (go_at_call 32; refine Calls.mono HCA.out ?_; rintro e w1 ⟨rfl, hb1⟩)
        go_roundw
        case rel =>
          have h := HQ.out
          rw [if_pos hR0] at h
          exact ⟨k + 1, _, by omega, by go_num, rfl, by omega, by omega, h, HB.out.trans (hb1.mono HB.out.size)⟩
        case measure => simp [intOf]; omega
    · have e : k = hs.length := by omega
      rw [e, List.drop_length, szLl] at hq
      have HQ : Hid _ := hq
      clear hq
      go_wp2_with fail
      go_ret
      exact ⟨ret_int HQ.out, hbel⟩

theorem szLiteralS_out (a : Option Addr) (n c : Nat) (L : Int) (w : World) (hL : 0 ≤ L) (hL2 : L ≤ 1048576) (hn : n ≤ 9223372036854775807) (h : ¬ (n : Int) ≤ L) :
    Calls Tryd.prog 11 #[.slice a n c, .int .i64 L] w fun e w' => e = .returned (.int .i64 (-1)) ∧ w' = w := by
  go_enter Tryd.func11, Tryd.ntmps11
  go_wp2_with fail
  go_ret
  exact ⟨rfl, rfl⟩

end Go.Proofs.YthgamfklfjjdoaaDoor
