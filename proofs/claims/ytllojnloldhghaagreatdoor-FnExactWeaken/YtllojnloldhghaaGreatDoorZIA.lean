/- Several texts in one. -/
import Derived.Test.YtllojnloldhghaaGreatDoorZKX
import Derived.Test.YtllojnloldhghaaGreatDoorZOA
import Derived.Deep.AppendLies
import Derived.Deep.OwnRows
import Derived.Test.YtllojnloldhghaaGreatDoorZQD
import Derived.Handy

/- Contracts of the laws' own small functions on rows of literals: how long. -/
namespace Go.Proofs.YtllojnloldhghaaGreatDoor
set_option linter.unusedVariables false
set_option linter.unusedSimpArgs false
open Go.RowKit

/-- A literal as it lies, with its two terms' nodes as they lie. -/
structure Lh where
  id : Int
  eq : Bool
  sa : Option Addr
  sn : Nat
  sc : Nat
  ss : List Th
  ta : Option Addr
  tn : Nat
  tc : Nat
  ts : List Th

def Lh.val (h : Lh) : Value := .agg #[.int .i64 h.id, .bool h.eq, .slice h.sa h.sn h.sc, .slice h.ta h.tn h.tc]

def LhAt (w : World) (b o : Nat) (h : Lh) : Prop :=
  w.cell? ⟨b, o, none⟩ = some (.int .i64 h.id) ∧ w.cell? ⟨b, o + 1, none⟩ = some (.bool h.eq) ∧ w.cell? ⟨b, o + 2, none⟩ = some (.slice h.sa h.sn h.sc) ∧ w.cell? ⟨b, o + 3, none⟩ = some (.slice h.ta h.tn h.tc)

theorem LhAt.later {w w' : World} {b o : Nat} {h : Lh} (k : LhAt w b o h) (hb : Below w.heap.size w w') : LhAt w' b o h := by
  obtain ⟨f0, f1, f2, f3⟩ := k
  have l := block_lt_of_cell f0
  exact ⟨by rw [kcell hb _ _ l]; exact f0, by rw [kcell hb _ _ l]; exact f1, by rw [kcell hb _ _ l]; exact f2, by rw [kcell hb _ _ l]; exact f3⟩

/-- The nodes of a term lie as told. -/
def TmOk (w : World) (a : Option Addr) (n : Nat) (hs : List Th) : Prop := n ≤ 9223372036854775807 ∧ (n ≤ 1048576 → hs.length = n ∧ RdTh w a hs)
theorem TmOk.later {w w' : World} {a : Option Addr} {n : Nat} {hs : List Th} (k : TmOk w a n hs) (hb : Below w.heap.size w w') : TmOk w' a n hs := ⟨k.1, fun hn => ⟨(k.2 hn).1, (k.2 hn).2.later hb⟩⟩

def RdLh (w : World) (a : Option Addr) (hs : List Lh) : Prop :=
  hs.length ≤ 1048576 ∧ (hs = [] ∨ ∃ b o, a = some ⟨b, o, none⟩ ∧ ∀ i h, hs[i]? = some h → LhAt w b (o + i * 4) h ∧ TmOk w h.sa h.sn h.ss ∧ TmOk w h.ta h.tn h.ts)

theorem RdLh.later {w w' : World} {a : Option Addr} {hs : List Lh} (h : RdLh w a hs) (hb : Below w.heap.size w w') : RdLh w' a hs := by
  refine ⟨h.1, ?_⟩
  rcases h.2 with h | ⟨b, o, rfl, hc⟩
  · exact .inl h
  · exact .inr ⟨b, o, rfl, fun i x hi => ⟨(hc i x hi).1.later hb, (hc i x hi).2.1.later hb, (hc i x hi).2.2.later hb⟩⟩

def szTm (n : Nat) (hs : List Th) (L : Int) : Int := if (n : Int) ≤ L then szTl hs (L - n) else -1

theorem szTm_range (n : Nat) (hs : List Th) (L : Int) (hL : 0 ≤ L) : szTm n hs L = -1 ∨ 0 ≤ szTm n hs L ∧ szTm n hs L ≤ L := by
  unfold szTm
  split
  · rcases szTl_range hs (L - n) (by omega) with e | ⟨e1, e2, -⟩
    · exact .inl e
    · exact .inr ⟨e1, by omega⟩
  · exact .inl rfl

theorem szTerm_any (a : Option Addr) (n c : Nat) (hs : List Th) (L : Int) (w : World) (hL : 0 ≤ L) (hL2 : L ≤ 1048576) (hk : TmOk w a n hs) :
    Calls Tryz.prog 65 #[.agg #[.slice a n c], .int .i64 L] w fun e w' => e = .returned (.int .i64 (szTm n hs L)) ∧ Below w.heap.size w w' := by
  by_cases hn : (n : Int) ≤ L
  · obtain ⟨e1, e2⟩ := hk.2 (by omega)
    have := szTerm_in a c hs L w e2 hL hL2 (by omega) n e1
    rw [e1] at this
    rw [szTm, if_pos hn]
    exact this
  · rw [szTm, if_neg hn]
    exact szTerm_out a n c L w hL hL2 hk.1 hn

def szL (h : Lh) (L : Int) : Int := if 0 ≤ szTm h.sn h.ss L then szTm h.tn h.ts (szTm h.sn h.ss L) else -1

theorem szL_range (h : Lh) (L : Int) (hL : 0 ≤ L) : szL h L = -1 ∨ 0 ≤ szL h L ∧ szL h L ≤ L := by
  unfold szL
  split
  · rename_i h1
    have r1 := szTm_range h.sn h.ss L hL
    have r2 := szTm_range h.tn h.ts _ h1
    omega
  · exact .inl rfl

theorem szLiteral_any (h : Lh) (L : Int) (w : World) (hL : 0 ≤ L) (hL2 : L ≤ 1048576) (hs : TmOk w h.sa h.sn h.ss) (ht : TmOk w h.ta h.tn h.ts) :
    Calls Tryz.prog 35 #[h.val, .int .i64 L] w fun e w' => e = .returned (.int .i64 (szL h L)) ∧ Below w.heap.size w w' := by
  have r1 := szTm_range h.sn h.ss L hL
  have HA := kide (fun u (hu : Below w.heap.size w u) => szTerm_any h.sa h.sn h.sc h.ss L u hL hL2 (hs.later hu))
  have HB := kide (fun u (hu : Below w.heap.size w u) (h0 : 0 ≤ szTm h.sn h.ss L) => szTerm_any h.ta h.tn h.tc h.ts (szTm h.sn h.ss L) u h0 (by omega) (ht.later hu))
  have r2 := fun (h0 : 0 ≤ szTm h.sn h.ss L) => szTm_range h.tn h.ts _ h0
  unfold szL
  generalize szTm h.sn h.ss L = Q at *
  generalize szTm h.tn h.ts Q = Q2 at *
  obtain ⟨id, eq, sa, sn, sc, ss, ta, tn, tc, ts⟩ := h
  simp only [Lh.val] at HA HB ⊢
  have s0 := St.start w (.cells #[Value.int .i64 id, Value.bool eq, Value.slice sa sn sc, Value.slice ta tn tc] 65)
  clear hs ht
  rcases r1 with rfl | ⟨h1, h2⟩
  · rw [if_neg (by omega)]
    clear r2 HB
    go_enter Tryz.func35, Tryz.ntmps35
    go_wp2_with fail
    refine Calls.mono (HA.out _ s0.below) ?_
    rintro e w1 ⟨rfl, hb1⟩
    have s1 := s0.next hb1
    go_wp2_with fail
    go_ret
    exact ⟨rfl, s1.below⟩
  · rw [if_pos h1]
    have r3 := r2 h1
    have HC := kide (fun u hu => HB.out u hu h1)
    clear r2 HB
    rcases r3 with rfl | ⟨h3, h4⟩
    all_goals
      go_enter Tryz.func35, Tryz.ntmps35
      go_wp2_with fail
      refine Calls.mono (HA.out _ s0.below) ?_
      rintro e w1 ⟨rfl, hb1⟩
      have s1 := s0.next hb1
      have c3 := s1.cell 3
      simp at c3
      clear hb1 s0
      go_wp2_with fail
      refine Calls.mono (HC.out _ s1.below) ?_
      rintro e w2 ⟨rfl, hb2⟩
      have s2 := s1.next hb2
      go_wp2_with fail
      go_ret
      exact ⟨rfl, s2.below⟩

/-- What is left of L behind some literals; -1: nothing. -/
def szLl : List Lh → Int → Int
  | [], L => L
  | h :: t, L => if 0 ≤ szL h L then szLl t (szL h L) else -1

theorem szLl_range (hs : List Lh) (L : Int) (hL : 0 ≤ L) : szLl hs L = -1 ∨ 0 ≤ szLl hs L ∧ szLl hs L ≤ L := by
  induction hs generalizing L with
  | nil => right; simp [szLl]; exact hL
  | cons h t ih =>
    rw [szLl]
    split
    · rename_i hc
      have := szL_range h L hL
      rcases ih (szL h L) hc with e | ⟨e1, e2⟩
      · left; exact e
      · right; exact ⟨e1, by omega⟩
    · left; rfl

/-- Each literal is short enough where all are. -/
theorem szLl_each (hs : List Lh) (L : Int) (hL : 0 ≤ L) (hz : 0 ≤ szLl hs L) : ∀ h ∈ hs, ∃ Q : Int, 0 ≤ Q ∧ Q ≤ L ∧ 0 ≤ szL h Q := by
  induction hs generalizing L with
  | nil => simp
  | cons h t ih =>
    rw [szLl] at hz
    split at hz
    · rename_i hc
      have hr := szL_range h L hL
      intro x hx
      rcases List.mem_cons.1 hx with rfl | hx
      · exact ⟨L, hL, Int.le_refl _, hc⟩
      · obtain ⟨Q, h1, h2, h3⟩ := ih (szL h L) hc hz x hx
        exact ⟨Q, h1, by omega, h3⟩
    · omega

theorem szLiteralS_in (a : Option Addr) (c : Nat) (hs : List Lh) (L : Int) (w : World) (hr : RdLh w a hs) (hL : 0 ≤ L) (hL2 : L ≤ 1048576) (h : (hs.length : Int) ≤ L) :
    Calls Tryz.prog 8 #[.slice a hs.length c, .int .i64 L] w fun e w' => e = .returned (.int .i64 (szLl hs (L - hs.length))) ∧ Below w.heap.size w w' := by
  have hlen := hr.1
  generalize hZ : szLl hs (L - hs.length) = Z
  have HZ : Hid (szLl hs (L - hs.length) = Z) := hZ
  clear hZ
  go_enter Tryz.func8, Tryz.ntmps8
  go_wp2_with fail
  go_loopw [1, 5] (fun l i wr => ∃ (k : Nat) (Q : Int), k ≤ hs.length ∧ i = .int .i64 k ∧ l = .int .i64 Q ∧ 0 ≤ Q ∧ Q ≤ 1048576 ∧ szLl (hs.drop k) Q = Z ∧ Below w.heap.size w wr) (fun _ i _ => hs.length - (intOf i).toNat)
  case atStart => exact ⟨0, _, Nat.zero_le _, rfl, rfl, by omega, by omega, by rw [List.drop_zero]; exact HZ.out, Below.refl _ _⟩
  case round =>
    obtain ⟨k, Q, hk, rfl, rfl, hQ0, hQ1, hq, hbel⟩ := hrel
    by_cases hlt : k < hs.length
    · obtain ⟨-, h | ⟨b, o, rfl, hc⟩⟩ := hr
      · subst h; simp at hlt
      obtain ⟨x, hh⟩ : ∃ x, hs[k] = x := ⟨_, rfl⟩
      obtain ⟨f1, f2, f3⟩ := hc k x (by rw [List.getElem?_eq_getElem hlt, hh])
      obtain ⟨g0, g1, g2, g3⟩ := f1.later hbel
      have HCA := kide (szLiteral_any x Q wr hQ0 hQ1 (f2.later hbel) (f3.later hbel))
      have hrr := szL_range x Q hQ0
      rw [List.drop_eq_getElem_cons hlt, hh, szLl] at hq
      generalize szL x Q = R at *
      obtain ⟨id, eq, sa, sn, sc, ss, ta, tn, tc, ts⟩ := x
      simp only [Lh.val] at g0 g1 g2 g3 HCA
      have HQ : Hid _ := hq
      have HB : Hid _ := hbel
      clear hc hh f1 f2 f3 hbel hq
      rcases hrr with rfl | ⟨hR0, hR1⟩
      · go_wp2_with (go_at_call 35; refine Calls.mono HCA.out ?_; rintro e w1 ⟨rfl, hb1⟩)
        go_ret
        have h := HQ.out
        rw [if_neg (by omega)] at h
        exact ⟨ret_int h, HB.out.trans (hb1.mono HB.out.size)⟩
      · go_wp2_with (go_at_call 35; refine Calls.mono HCA.out ?_; rintro e w1 ⟨rfl, hb1⟩)
        go_roundw
        case rel =>
          have h := HQ.out
          rw [if_pos hR0] at h
          exact ⟨k + 1, _, by omega, by go_num, rfl, by omega, by omega, h, HB.out.trans (hb1.mono HB.out.size)⟩
        case measure => simp [intOf]; omega
    · have e : k = hs.length := by omega
      rw [e, List.drop_length, szLl] at hq
      have HQ : Hid _ := hq
      clear hq
      go_wp2_with fail
      go_ret
      exact ⟨ret_int HQ.out, hbel⟩

theorem szLiteralS_out (a : Option Addr) (n c : Nat) (L : Int) (w : World) (hL : 0 ≤ L) (hL2 : L ≤ 1048576) (hn : n ≤ 9223372036854775807) (h : ¬ (n : Int) ≤ L) :
    Calls Tryz.prog 8 #[.slice a n c, .int .i64 L] w fun e w' => e = .returned (.int .i64 (-1)) ∧ w' = w := by
  go_enter Tryz.func8, Tryz.ntmps8
  go_wp2_with fail
  go_ret
  exact ⟨rfl, rfl⟩

end Go.Proofs.YtllojnloldhghaaGreatDoor

/- Contracts of the laws' own small functions on literals: compared, copied. -/
namespace Go.Proofs.YtllojnloldhghaaGreatDoor
set_option linter.unusedVariables false
set_option linter.unusedSimpArgs false
open Go.RowKit

theorem kfrozL {W w1 : World} (hb : Below W.heap.size W w1) (b o : Nat) (h : b < W.heap.size) : w1.frozen? ⟨b, o, none⟩ = W.frozen? ⟨b, o, none⟩ := hb.frozen (p := ⟨b, o, none⟩) h

/-- A literal: its number, whether it is an equality, its two terms. -/
structure Lc where
  id : Int
  eq : Bool
  ss : List Tc
  ts : List Tc

/-- .. as it lies. -/
structure Lg where
  id : Int
  eq : Bool
  ss : List Tg
  sa : Option Addr
  sc : Nat
  ts : List Tg
  ta : Option Addr
  tc : Nat

def Lg.ct (x : Lg) : Lc := ⟨x.id, x.eq, x.ss.map Tg.ct, x.ts.map Tg.ct⟩
def Lg.val (x : Lg) : Value := .agg #[.int .i64 x.id, .bool x.eq, .slice x.sa x.ss.length x.sc, .slice x.ta x.ts.length x.tc]

def LgAt (w : World) (b o : Nat) (x : Lg) : Prop :=
  (w.cell? ⟨b, o, none⟩ = some (.int .i64 x.id) ∧ w.cell? ⟨b, o + 1, none⟩ = some (.bool x.eq) ∧ w.cell? ⟨b, o + 2, none⟩ = some (.slice x.sa x.ss.length x.sc) ∧ w.cell? ⟨b, o + 3, none⟩ = some (.slice x.ta x.ts.length x.tc)) ∧ RdT w x.sa x.ss ∧ RdT w x.ta x.ts ∧ in64 x.id

theorem LgAt.later {w w' : World} {b o : Nat} {x : Lg} (h : LgAt w b o x) (hb : Below w.heap.size w w') : LgAt w' b o x := by
  obtain ⟨⟨f0, f1, f2, f3⟩, f4, f5, f6⟩ := h
  have l := block_lt_of_cell f0
  exact ⟨⟨by rw [kcell hb _ _ l]; exact f0, by rw [kcell hb _ _ l]; exact f1, by rw [kcell hb _ _ l]; exact f2, by rw [kcell hb _ _ l]; exact f3⟩, f4.later hb, f5.later hb, f6⟩

/-- A slice whose literals are xs, wherever it lies. -/
def RdL (w : World) (a : Option Addr) (xs : List Lg) : Prop :=
  xs.length ≤ 1048576 ∧ (xs = [] ∨ ∃ b o, a = some ⟨b, o, none⟩ ∧ ∀ i n, xs[i]? = some n → LgAt w b (o + i * 4) n)

theorem RdL.later {w w' : World} {a : Option Addr} {xs : List Lg} (h : RdL w a xs) (hb : Below w.heap.size w w') : RdL w' a xs := by
  refine ⟨h.1, ?_⟩
  rcases h.2 with h | ⟨b, o, rfl, hc⟩
  · exact .inl h
  · exact .inr ⟨b, o, rfl, fun i n hi => (hc i n hi).later hb⟩

theorem eqLiteral_same (id : Int) (q : Bool) (sa sb ta tb : Option Addr) (sc sd tc td n m : Nat) (xs ys zs us : List Tg) (w : World) (h1 : RdT w sa xs) (h2 : RdT w sb ys) (h3 : RdT w ta zs) (h4 : RdT w tb us) (e1 : xs.map Tg.ct = ys.map Tg.ct) (e2 : zs.map Tg.ct = us.map Tg.ct) (l1 : xs.length = n) (l2 : ys.length = n) (l3 : zs.length = m) (l4 : us.length = m) :
    Calls Tryz.prog 50 #[.agg #[.int .i64 id, .bool q, .slice sa n sc, .slice ta m tc], .agg #[.int .i64 id, .bool q, .slice sb n sd, .slice tb m td]] w fun e w' => e = .returned (.bool true) ∧ Below w.heap.size w w' := by
  have hb0 : Below w.heap.size w ((w.alloc (Obj.cells #[Value.int .i64 id, Value.bool q, Value.slice sa n sc, Value.slice ta m tc] 78)).alloc (Obj.cells #[Value.int .i64 id, Value.bool q, Value.slice sb n sd, Value.slice tb m td] 78)) := ((Below.refl _ _).alloc (Nat.le_refl _) _).alloc (by simp) _
  have HA := kide (fun u (hu : Below w.heap.size w u) => eqTerm_same sa sb sc sd xs ys u (h1.later hu) (h2.later hu) e1 n l1 l2)
  have HB := kide (fun u (hu : Below w.heap.size w u) => eqTerm_same ta tb tc td zs us u (h3.later hu) (h4.later hu) e2 m l3 l4)
  have B2 := kide hb0
  have f0 : (id != id) = false := by simp
  have f1 : (q != q) = false := by simp
  clear h1 h2 h3 h4 e1 e2 l1 l2 l3 l4 hb0
  go_enter Tryz.func50, Tryz.ntmps50
  go_wp2_with fail
  refine Calls.mono (HA.out _ B2.out) ?_
  rintro e w1 ⟨rfl, hb1⟩
  have k3 : w1.cell? ⟨w.heap.size, 3, none⟩ = some (Value.slice ta m tc) := by rw [kcell hb1 _ _ (by simp; omega)]; simp [go_sem]
  have j3 : w1.cell? ⟨w.heap.size + 1, 3, none⟩ = some (Value.slice tb m td) := by rw [kcell hb1 _ _ (by simp)]; simp [go_sem]
  have B3 := kide (B2.out.trans (hb1.mono B2.out.size))
  clear hb1
  go_wp2_with fail
  refine Calls.mono (HB.out _ B3.out) ?_
  rintro e w2 ⟨rfl, hb2⟩
  go_wp2_with fail
  go_ret
  exact ⟨rfl, B3.out.trans (hb2.mono B3.out.size)⟩

end Go.Proofs.YtllojnloldhghaaGreatDoor

/- Rows of literals compared, copied. -/
namespace Go.Proofs.YtllojnloldhghaaGreatDoor
set_option linter.unusedVariables false
set_option linter.unusedSimpArgs false
open Go.RowKit

set_option maxHeartbeats 1000000 in
theorem eqLiteralS_same (a b : Option Addr) (c d : Nat) (xs ys : List Lg) (w : World) (hr : RdL w a xs) (hs : RdL w b ys) (he : xs.map Lg.ct = ys.map Lg.ct) (n : Nat) (h1 : xs.length = n) (h2 : ys.length = n) :
    Calls Tryz.prog 17 #[.slice a n c, .slice b n d] w fun e w' => e = .returned (.bool true) ∧ Below w.heap.size w w' := by
  have hl1 := hr.1
  rw [h1] at hl1
  have hne : ((n : Int) != (n : Int)) = false := by simp
  have H1 := kide h1
  have H2 := kide h2
  have HE := kide he
  clear h1 h2 he
  go_enter Tryz.func17, Tryz.ntmps17
  go_wp2_with fail
  clear hne
  go_loopw [5] (fun i wr => ∃ k : Nat, k ≤ n ∧ i = .int .i64 k ∧ Below w.heap.size w wr) (fun i _ => n - (intOf i).toNat)
  case atStart => exact ⟨0, Nat.zero_le _, rfl, Below.refl _ _⟩
  case round =>
    obtain ⟨k, hk, rfl, hbel⟩ := hrel
    have HB := kide hbel
    by_cases hlt : k < n
    · obtain ⟨-, h | ⟨b1, o1, rfl, hc1⟩⟩ := hr
      · have := H1.out; subst h; simp at this; omega
      obtain ⟨-, h | ⟨b2, o2, rfl, hc2⟩⟩ := hs
      · have := H2.out; subst h; simp at this; omega
      obtain ⟨⟨id, q, ss1, sa1, sc1, ts1, ta1, tc1⟩, hx⟩ : ∃ x, xs[k]? = some x := ⟨xs[k]'(by rw [H1.out]; exact hlt), List.getElem?_eq_getElem _⟩
      obtain ⟨⟨id2, q2, ss2, sa2, sc2, ts2, ta2, tc2⟩, hy⟩ : ∃ y, ys[k]? = some y := ⟨ys[k]'(by rw [H2.out]; exact hlt), List.getElem?_eq_getElem _⟩
      have hxy : Lg.ct ⟨id, q, ss1, sa1, sc1, ts1, ta1, tc1⟩ = Lg.ct ⟨id2, q2, ss2, sa2, sc2, ts2, ta2, tc2⟩ := by
        have h := congrArg (fun l => l[k]?) HE.out
        simp [hx, hy] at h
        exact h
      simp only [Lg.ct, Lc.mk.injEq] at hxy
      obtain ⟨rfl, rfl, hss, hts⟩ := hxy
      have hsl : ss2.length = ss1.length := by simpa using (congrArg List.length hss).symm
      have htl : ts2.length = ts1.length := by simpa using (congrArg List.length hts).symm
      obtain ⟨⟨p0, p1, p2, p3⟩, pr, pr2, -⟩ := (hc1 k _ hx).later hbel
      obtain ⟨⟨q0, q1, q2, q3⟩, qr, qr2, -⟩ := (hc2 k _ hy).later hbel
      simp only [] at p0 p1 p2 p3 pr pr2 q0 q1 q2 q3 qr qr2
      rw [hsl] at q2
      rw [htl] at q3
      have l1 := block_lt_of_cell p0
      have l2 := block_lt_of_cell q0
      have i0 : (k : Int) < (n : Int) := by omega
      have HEQ := kide (fun u (hu : Below wr.heap.size wr u) => eqLiteral_same id q sa1 sa2 ta1 ta2 sc1 sc2 tc1 tc2 ss1.length ts1.length ss1 ss2 ts1 ts2 u (pr.later hu) (qr.later hu) (pr2.later hu) (qr2.later hu) hss hts rfl hsl rfl htl)
      clear hc1 hc2 hbel hx hy pr qr pr2 qr2 hss hts hsl htl
      generalize ss1.length = m at *
      generalize ts1.length = m2 at *
      go_wp2_with fail
      go_region_held3 (fun u => u.cell? ⟨b1, o1 + k * 4, none⟩ = some (Value.int .i64 id) ∧ u.cell? ⟨b1, o1 + k * 4 + 1, none⟩ = some (Value.bool q) ∧ u.cell? ⟨b1, o1 + k * 4 + 2, none⟩ = some (Value.slice sa1 m sc1) ∧ u.cell? ⟨b1, o1 + k * 4 + 3, none⟩ = some (Value.slice ta1 m2 tc1) ∧ u.cell? ⟨b2, o2 + k * 4, none⟩ = some (Value.int .i64 id) ∧ u.cell? ⟨b2, o2 + k * 4 + 1, none⟩ = some (Value.bool q) ∧ u.cell? ⟨b2, o2 + k * 4 + 2, none⟩ = some (Value.slice sa2 m sc2) ∧ u.cell? ⟨b2, o2 + k * 4 + 3, none⟩ = some (Value.slice ta2 m2 tc2)) (simp [*])
        ((go_at_call 50; refine Calls.mono (HEQ.out _ ?_) ?_; exact (Below.refl _ _).drew; rintro e w1 ⟨rfl, hb1⟩; replace hb1 := kundrew hb1; have k0 := kcell hb1 b1 (o1 + k * 4) l1; have k1 := kcell hb1 b1 (o1 + k * 4 + 1) l1; have k2 := kcell hb1 b1 (o1 + k * 4 + 2) l1; have k3 := kcell hb1 b1 (o1 + k * 4 + 3) l1; have j0 := kcell hb1 b2 (o2 + k * 4) l2; have j1 := kcell hb1 b2 (o2 + k * 4 + 1) l2; have j2 := kcell hb1 b2 (o2 + k * 4 + 2) l2; have j3 := kcell hb1 b2 (o2 + k * 4 + 3) l2))
      go_wp2_with fail
      go_roundw
      case rel => exact ⟨k + 1, by omega, by go_num, HB.out.trans (hb1.mono HB.out.size)⟩
      case measure => simp [intOf]; omega
    · clear hbel
      go_wp2_with fail
      go_ret
      exact ⟨rfl, HB.out⟩

theorem Tryz.infoLit : (Tryz.prog.info? 78).map (fun i => (i.zero, i.size, i.bytes)) = some (some (.agg #[.int .i64 0, .bool false, .slice none 0 0, .slice none 0 0]), 4, 64) := by kernel_rfl

theorem make_lits (n : Nat) (hn : n ≤ 1048576) (kl kc : IntKind) (w : World) :
    (Instr.makeSlice 33 (.int kl (n : Int)) (.int kc (n : Int))).run Tryz.prog w = .ok (.slice (some ⟨w.heap.size, 0, none⟩) n n) (w.alloc (.cells (madeCells #[.int .i64 0, .bool false, .slice none 0 0, .slice none 0 0] (n * 4)) 78)) := by
  obtain ⟨i0, hi, hz0, hz1, hz2⟩ := info_parts Tryz.infoLit
  have := run_make (P := Tryz.prog) w 33 78 i0 _ Tryz.underlying33 hi hz0 kl kc n n (by omega) (Int.le_refl _) (by rw [hz2]; omega) (by omega)
  rw [hz1] at this
  simp only [Int.toNat_natCast] at this
  exact this

/-- A copied literal: its terms lie behind the row. -/
def LgOwn (w : World) (G : Nat) (f : Nat → Value) (j : Nat) (x : Lg) : Prop :=
  (f (j * 4) = .int .i64 x.id ∧ f (j * 4 + 1) = .bool x.eq ∧ f (j * 4 + 2) = .slice x.sa x.ss.length x.sc ∧ f (j * 4 + 3) = .slice x.ta x.ts.length x.tc) ∧ (RdT w x.sa x.ss ∧ FarT (G + 1) x.sa x.ss) ∧ RdT w x.ta x.ts ∧ FarT (G + 1) x.ta x.ts

theorem LgOwn.later {w w' : World} {G j : Nat} {f : Nat → Value} {x : Lg} (h : LgOwn w G f j x) (hb : Below w.heap.size w w') : LgOwn w' G f j x := ⟨h.1, ⟨h.2.1.1.later hb, h.2.1.2⟩, h.2.2.1.later hb, h.2.2.2⟩

theorem LgOwn.row {w : World} {G j k : Nat} {f f' : Nat → Value} {x : Lg} (h : LgOwn w G f j x) (hf : ∀ i, i < k * 4 → f' i = f i) (hk : j < k) : LgOwn w G f' j x := by
  obtain ⟨⟨h0, h1, h2, h3⟩, h4⟩ := h
  exact ⟨⟨by rw [hf _ (by omega)]; exact h0, by rw [hf _ (by omega)]; exact h1, by rw [hf _ (by omega)]; exact h2, by rw [hf _ (by omega)]; exact h3⟩, h4⟩

theorem LgOwn.set {w : World} {G j : Nat} {f : Nat → Value} {x : Lg} (h : LgOwn w G f j x) (o : Nat) (v : Value) : LgOwn (w.setCell ⟨G, o, none⟩ v) G f j x := ⟨h.1, ⟨h.2.1.1.set h.2.1.2 (by simp) v, h.2.1.2⟩, h.2.2.1.set h.2.2.2 (by simp) v, h.2.2.2⟩

/-- Literals that lie from a block on. -/
def FarL (B : Nat) (a : Option Addr) (xs : List Lg) : Prop := (∀ b o sp, a = some ⟨b, o, sp⟩ → B ≤ b) ∧ ∀ x ∈ xs, FarT B x.sa x.ss ∧ FarT B x.ta x.ts
theorem FarL.mono {B B' : Nat} {a : Option Addr} {xs : List Lg} (h : FarL B a xs) (hB : B' ≤ B) : FarL B' a xs := ⟨fun b o sp e => Nat.le_trans hB (h.1 b o sp e), fun x hx => ⟨(h.2 x hx).1.mono hB, (h.2 x hx).2.mono hB⟩⟩
theorem RdL.set {w : World} {a : Option Addr} {xs : List Lg} (h : RdL w a xs) {B : Nat} (hf : FarL B a xs) {p : Addr} (hp : p.block < B) (v : Value) : RdL (w.setCell p v) a xs := by
  refine ⟨h.1, ?_⟩
  rcases h.2 with h3 | ⟨b, o, rfl, hc⟩
  · exact .inl h3
  · have := hf.1 b o none rfl
    refine .inr ⟨b, o, rfl, fun i n hi => ?_⟩
    obtain ⟨⟨c0, c1, c2, c3⟩, r1, r2, r3⟩ := hc i n hi
    have hn := hf.2 n (List.mem_of_getElem? hi)
    exact ⟨⟨ksetT c0 (by simp; omega), ksetT c1 (by simp; omega), ksetT c2 (by simp; omega), ksetT c3 (by simp; omega)⟩, r1.set hn.1 hp v, r2.set hn.2 hp v, r3⟩

end Go.Proofs.YtllojnloldhghaaGreatDoor

/- Owned rows of literals: one more, or a whole row more. -/
namespace Go.Proofs.YtllojnloldhghaaGreatDoor
set_option linter.unusedVariables false
set_option linter.unusedSimpArgs false
open Go.RowKit

/-- The cells of literals. -/
def lgc : List Lg → List Value
  | [] => []
  | x :: t => .int .i64 x.id :: .bool x.eq :: .slice x.sa x.ss.length x.sc :: .slice x.ta x.ts.length x.tc :: lgc t
theorem lgc_len (l : List Lg) : (lgc l).length = l.length * 4 := by
  induction l with
  | nil => rfl
  | cons x t ih => simp [lgc, ih]; omega
theorem lgc_append (xs ys : List Lg) : lgc (xs ++ ys) = lgc xs ++ lgc ys := by
  induction xs with
  | nil => rfl
  | cons x t ih => simp [lgc, ih]
theorem lgc_get : ∀ {l : List Lg} {i : Nat} {x : Lg}, l[i]? = some x → (lgc l)[i * 4]? = some (.int .i64 x.id) ∧ (lgc l)[i * 4 + 1]? = some (.bool x.eq) ∧ (lgc l)[i * 4 + 2]? = some (.slice x.sa x.ss.length x.sc) ∧ (lgc l)[i * 4 + 3]? = some (.slice x.ta x.ts.length x.tc)
  | y :: t, 0, x, h => by simp at h; subst h; simp [lgc]
  | y :: t, i + 1, x, h => by
    have := lgc_get (l := t) (i := i) (x := x) (by simpa using h)
    rw [show (i + 1) * 4 = i * 4 + 1 + 1 + 1 + 1 by omega]
    simpa [lgc] using this

/-- An owned row of literals. -/
def OL4 (w : World) (B : Nat) (v : Value) (l : List Lg) : Prop := w.ownsRow B 78 4 v l.length (lgc l)

theorem OL4.later {w w' : World} {B : Nat} {v : Value} {l : List Lg} (h : OL4 w B v l) (hb : Below w.heap.size w w') : OL4 w' B v l := World.ownsRow.kept (row := none) h ⟨hb.os, hb.tape, hb.output, hb.size, fun k hk _ => hb.block k hk⟩ (by
  cases h' : v.ownBlock with
  | none => exact .inl rfl
  | some k => exact .inr (by simp))
theorem OL4.lt {w : World} {B : Nat} {v : Value} {l : List Lg} (h : OL4 w B v l) {b : Nat} (hb : v.ownBlock = some b) : B ≤ b ∧ b < w.heap.size := by
  rcases h.2 with ⟨rfl, -⟩ | ⟨g, cap, cur, rfl, hg, hh, -⟩
  · cases hb
  · cases hb
    exact ⟨hg, lt_of_block hh⟩
theorem OL4.nil (w : World) (B : Nat) : OL4 w B (.slice none 0 0) [] := ⟨rfl, .inl ⟨rfl, rfl⟩⟩

/-- What can be read of it. -/
theorem OL4.rd {w : World} {B : Nat} {v : Value} {l : List Lg} (h : OL4 w B v l) (hl : l.length ≤ 1048576) (hx : ∀ x ∈ l, RdT w x.sa x.ss ∧ RdT w x.ta x.ts ∧ in64 x.id) : ∃ a c, v = .slice a l.length c ∧ RdL w a l := by
  rcases h.2 with ⟨rfl, h0⟩ | ⟨g, cap, cur, rfl, hg, hh, hc1, hc2, hsz, hcur⟩
  · have e := List.eq_nil_of_length_eq_zero h0
    subst e
    exact ⟨none, 0, rfl, by simp, .inl rfl⟩
  · refine ⟨some ⟨g, 0, none⟩, cap, rfl, hl, .inr ⟨g, 0, rfl, fun i x hi => ?_⟩⟩
    obtain ⟨e0, e1, e2, e3⟩ := lgc_get hi
    have hil := (List.getElem?_eq_some_iff.1 hi).1
    rw [← hcur] at e0 e1 e2 e3
    rw [List.getElem?_take, if_pos (by omega)] at e0 e1 e2 e3
    simp only [Array.getElem?_toList] at e0 e1 e2 e3
    exact ⟨⟨by rw [Nat.zero_add, cell_of_row w g _ cur _ _ hh]; exact e0, by rw [Nat.zero_add, cell_of_row w g _ cur _ _ hh]; exact e1, by rw [Nat.zero_add, cell_of_row w g _ cur _ _ hh]; exact e2, by rw [Nat.zero_add, cell_of_row w g _ cur _ _ hh]; exact e3⟩, hx x (List.mem_of_getElem? hi)⟩

theorem wpList_appL4 {w : World} {ops : Array Oper} {rest : List Oper} {o : Oper} {a : Act} {Q : Exit → Act → World → Prop} (hgd : o.guard = none) (s x : Operand)
    (ho : o.op = .call { callee := .builtin .append, args := #[s, x], argTypes := #[33, 33] })
    (B : Nat) (v : Value) (l : List Lg) (y : Lg) (hs : a.eval s = v) (hown : OL4 w B v l) (gx : Nat) (hx : a.eval x = .slice (some ⟨gx, 0, none⟩) 1 1)
    (h0 : w.cell? ⟨gx, 0, none⟩ = some (.int .i64 y.id)) (h1 : w.cell? ⟨gx, 1, none⟩ = some (.bool y.eq)) (h2 : w.cell? ⟨gx, 2, none⟩ = some (.slice y.sa y.ss.length y.sc)) (h3 : w.cell? ⟨gx, 3, none⟩ = some (.slice y.ta y.ts.length y.tc)) (hl : l.length ≤ 1073741824) (hB : B ≤ w.heap.size)
    (h : ∀ v' w', OL4 w' B v' (l ++ [y]) → w.grownBy w' v.ownBlock → wpList Tryz.prog ops Q rest (a.put o.dst v') w') : wpList Tryz.prog ops Q (o :: rest) a w := by
  obtain ⟨i0, hi, hz0, hz1, hz2⟩ := info_parts Tryz.infoLit
  refine wpList_append_own_at w hgd s x 33 ho B 78 i0 _ 4 64 Tryz.underlying33 hi hz0 hz1 hz2 rfl (by decide) v l.length (lgc l) hs hown ⟨gx, 0, none⟩ 1 1 (lgc [y]) hx rfl ?_ ?_ (by unfold maxLen; omega) (by omega) hB ?_
  · intro j u hj
    rw [Addr.add_lit]
    match j, hj with
    | 0, hj => simp [lgc] at hj; subst hj; exact h0
    | 1, hj => simp [lgc] at hj; subst hj; exact h1
    | 2, hj => simp [lgc] at hj; subst hj; exact h2
    | 3, hj => simp [lgc] at hj; subst hj; exact h3
    | j + 4, hj => simp [lgc] at hj
  · intro u hu
    simp [lgc] at hu
    rcases hu with rfl | rfl | rfl | rfl <;> rfl
  · intro v' w' h1 h2 _ _
    refine h v' w' ?_ h2
    unfold OL4
    rw [lgc_append, List.length_append]
    exact h1

end Go.Proofs.YtllojnloldhghaaGreatDoor

/- The program's sidesOk. -/
namespace Go.Proofs.YtllojnloldhghaaGreatDoor
set_option linter.unusedVariables false
set_option linter.unusedSimpArgs false
open Go.RowKit

/-- Are both sides of a literal right and of one width? -/
def sideR (ds : List Dc) (l : Lc) : Bool := decide (0 ≤ widR ds l.ss) && decide (widR ds l.ts = widR ds l.ss)

/-- Rising numbers, right sides. -/
def goL (ds : List Dc) : Int → List Lc → Bool
  | _, [] => true
  | last, l :: t => decide (last < l.id ∧ l.id ≤ 1000000) && sideR ds l && goL ds l.id t

def litR (ds : List Dc) (ls : List Lc) : Bool := dclR ds && decide (ls.length ≤ 60) && goL ds 0 ls

theorem goL_step {ds : List Dc} {last : Int} {ls : List Lc} {k : Nat} {l : Lc} (h : ls[k]? = some l) : goL ds last (ls.drop k) = (decide (last < l.id ∧ l.id ≤ 1000000) && sideR ds l && goL ds l.id (ls.drop (k + 1))) := by
  obtain ⟨hk, rfl⟩ := List.getElem?_eq_some_iff.1 h
  rw [List.drop_eq_getElem_cons hk, goL]

/-- The last width of a row of widths; -1: there is none. -/
def lastR (R : List Int) : Int := if R.length = 0 then -1 else R.getD (R.length - 1) 0
theorem widR_last (ds : List Dc) (ns : List Tc) : widR ds ns = lastR (widthsR ds ns) := rfl
theorem lastR_pos {R : List Int} (h : ∀ x ∈ R, 1 ≤ x ∧ x ≤ 4096) (h0 : R.length ≠ 0) : 1 ≤ lastR R := by
  unfold lastR
  rw [if_neg h0]
  have hl : R.length - 1 < R.length := by omega
  have := h _ (List.getElem_mem hl)
  simp [List.getD, hl]
  omega

def sideL (R T : List Int) : Bool := decide (0 ≤ lastR R) && decide (lastR T = lastR R)

set_option maxHeartbeats 1000000 in
set_option maxRecDepth 100000 in
theorem sidesOk_any (a : Option Addr) (c : Nat) (ds : List Dc) (id : Int) (q : Bool) (sa ta : Option Addr) (n sc m tc : Nat) (xs ys : List Tg) (w : World) (hr : RdD w a ds) (h1 : RdT w sa xs) (h2 : RdT w ta ys) (l1 : xs.length = n) (l2 : ys.length = m) (hG : GF w) (hD : dclR ds = true) :
    Calls Tryz.prog 78 #[.slice a ds.length c, .agg #[.int .i64 id, .bool q, .slice sa n sc, .slice ta m tc]] w fun e w' => e = .returned (.bool (sideR ds ⟨id, q, xs.map Tg.ct, ys.map Tg.ct⟩)) ∧ Below w.heap.size w w' := by
  have H1 := kide (fun u (hu : Below w.heap.size w u) => widthsOf_any a sa c sc n ds xs u (hr.later hu) (h1.later hu) l1 (hG.later hu) hD)
  have H2 := kide (fun u (hu : Below w.heap.size w u) => widthsOf_any a ta c tc m ds ys u (hr.later hu) (h2.later hu) l2 (hG.later hu) hD)
  have b1 := widthsR_bounds ds (xs.map Tg.ct)
  have b2 := widthsR_bounds ds (ys.map Tg.ct)
  rw [show sideR ds ⟨id, q, xs.map Tg.ct, ys.map Tg.ct⟩ = sideL (widthsR ds (xs.map Tg.ct)) (widthsR ds (ys.map Tg.ct)) from rfl]
  generalize widthsR ds (xs.map Tg.ct) = R at *
  generalize widthsR ds (ys.map Tg.ct) = T at *
  obtain ⟨b1, b1'⟩ := b1
  obtain ⟨b2, b2'⟩ := b2
  have s0 := St.start w (.cells #[Value.int .i64 id, Value.bool q, Value.slice sa n sc, Value.slice ta m tc] 78)
  have HB1 := kide b1'
  have HB2 := kide b2'
  clear hr h1 h2 l1 l2 hG hD b1' b2'
  generalize hZ : sideL R T = Z
  have HZ := kide hZ
  clear hZ
  go_enter Tryz.func78, Tryz.ntmps78
  go_wp2_with fail
  have t2 := s0.cell 2
  have t3 := s0.cell 3
  simp only [List.getElem?_toArray, List.getElem?_cons_succ, List.getElem?_cons_zero] at t2 t3
  generalize w.alloc (Obj.cells #[Value.int .i64 id, Value.bool q, Value.slice sa n sc, Value.slice ta m tc] 78) = W at *
  have S0 := kide s0.below
  go_region_held3 (fun u => u.cell? ⟨w.heap.size, 2, none⟩ = some (Value.slice sa n sc) ∧ u.cell? ⟨w.heap.size, 3, none⟩ = some (Value.slice ta m tc)) (simp [*])
    (first
      | (go_at_call 104; refine Calls.mono (H2.out w1 S1.out) ?_; rintro e w2 ⟨aT, cT, rfl, rT, nT, hb2⟩; have s2 := s1.next hb2; have j2 := (kcell hb2 w.heap.size 2 s1.size).trans k2; have j3 := (kcell hb2 w.heap.size 3 s1.size).trans k3; have RR2 := kide (RR.out.later hb2); have RT := kide rT; have NT := kide nT; clear rT nT hb2)
      | (go_at_call 104; refine Calls.mono (H1.out _ ?_) ?_; exact S0.out.drew; rintro e w1 ⟨aR, cR, rfl, rR, nR, hb1⟩; replace hb1 := kundrew hb1; have s1 := St.next (wk := W) s0 hb1; have k2 := (kcell hb1 w.heap.size 2 s0.size).trans t2; have k3 := (kcell hb1 w.heap.size 3 s0.size).trans t3; have RR := kide rR; have NR := kide nR; have S1 := kide s1.below; clear rR nR hb1))
  clear s0 s1 t2 t3 k2 k3 j2 j3
  have hneq := fun (w : World) (a : Option Addr) (n c : Nat) => run_neq_slice_nil_any (P := Tryz.prog) w 28 2 a n c 0 0 Tryz.underlying28
  by_cases hR0 : R = []
  · have e := NR.out hR0
    subst hR0
    subst e
    have HF : Hid (Z = false) := by show _ = _; rw [← HZ.out]; simp [sideL, lastR]
    go_wp2_with fail
    go_quiet (fail)
    go_wp2_with fail
    go_ret
    exact ⟨ret_bool HF.out.symm, below_drewN s2.below _⟩
  · obtain ⟨-, -, h | ⟨b3, o3, rfl, hc3⟩⟩ := RR2.out
    · exact absurd h hR0
    by_cases hT0 : T = []
    · have e := NT.out hT0
      subst hT0
      subst e
      have HF : Hid (Z = false) := by
        show _ = _
        rw [← HZ.out]
        have := lastR_pos HB1.out (fun h => hR0 (List.eq_nil_of_length_eq_zero h))
        have e0 : lastR [] = -1 := rfl
        show (decide (0 ≤ lastR R) && decide (lastR [] = lastR R)) = false
        rw [e0, decide_eq_false (by omega : ¬ (-1 = lastR R)), Bool.and_false]
      clear hc3 hR0
      go_wp2_with fail
      go_quiet (fail)
      go_wp2_with fail
      go_ret
      exact ⟨ret_bool HF.out.symm, below_drewN s2.below _⟩
    · obtain ⟨-, -, h | ⟨b4, o4, rfl, hc4⟩⟩ := RT.out
      · exact absurd h hT0
      have r0 : R.length ≠ 0 := fun h => hR0 (List.eq_nil_of_length_eq_zero h)
      have r1 : T.length ≠ 0 := fun h => hT0 (List.eq_nil_of_length_eq_zero h)
      obtain ⟨k, hk⟩ : ∃ k, R.length = k + 1 := ⟨R.length - 1, by omega⟩
      obtain ⟨j, hj⟩ : ∃ j, T.length = j + 1 := ⟨T.length - 1, by omega⟩
      have c3 := hc3 k (by omega)
      have c4 := hc4 j (by omega)
      have hp1 := lastR_pos HB1.out r0
      have hlR : lastR R = R.getD k 0 := by rw [lastR, if_neg r0, hk]; rfl
      have hlT : lastR T = T.getD j 0 := by rw [lastR, if_neg r1, hj]; rfl
      have hz : Z = decide (T.getD j 0 = R.getD k 0) := by
        rw [← HZ.out, sideL, decide_eq_true (by omega : 0 ≤ lastR R), Bool.true_and, hlR, hlT]
      have hkk : ((k + 1 : Nat) : Int) - 1 = (k : Int) := by omega
      have hjj : ((j + 1 : Nat) : Int) - 1 = (j : Int) := by omega
      have hki : (k : Int) < ((k + 1 : Nat) : Int) := by omega
      have hji : (j : Int) < ((j + 1 : Nat) : Int) := by omega
      rw [hk] at b1 ⊢
      rw [hj] at b2 ⊢
      obtain ⟨x, hx⟩ : ∃ x, R.getD k 0 = x := ⟨_, rfl⟩
      obtain ⟨y, hy⟩ : ∃ y, T.getD j 0 = y := ⟨_, rfl⟩
      rw [hx] at c3 hz
      rw [hy] at c4 hz
      have HZ3 := kide hz
      clear hc3 hc4 hR0 hT0 r0 r1 hk hj hlR hlT hp1 hx hy hz
      obtain ⟨E, hE⟩ : ∃ E : Bool, (x == y) = E := ⟨_, rfl⟩
      have HZ4 : Hid (E = Z) := by
        show _ = _
        rw [HZ3.out, ← hE]
        by_cases h : x = y
        · simp [h]
        · simp [h, Ne.symm h]
      clear HZ3
      cases E
      all_goals
        go_wp2_with fail
        go_quiet (fail)
        go_wp2_with fail
        go_ret
        exact ⟨ret_bool HZ4.out, below_drewN s2.below _⟩

end Go.Proofs.YtllojnloldhghaaGreatDoor

/- Numbers that rise, apart from sides that are right; what the program's idsOk answers. -/
namespace Go.Proofs.YtllojnloldhghaaGreatDoor
set_option linter.unusedVariables false
set_option linter.unusedSimpArgs false
open Go.RowKit

/-- Numbers that rise, above a last one. -/
def idR : Int → List Lc → Bool
  | _, [] => true
  | last, l :: t => decide (last < l.id ∧ l.id ≤ 1000000) && idR l.id t

def idsR (ls : List Lc) : Bool := decide (ls.length ≤ 60) && idR 0 ls

theorem goL_eq (ds : List Dc) (last : Int) (ls : List Lc) : goL ds last ls = (idR last ls && ls.all (sideR ds)) := by
  induction ls generalizing last with
  | nil => rfl
  | cons l t ih =>
    rw [goL, idR, List.all_cons, ih]
    cases decide (last < l.id ∧ l.id ≤ 1000000) <;> cases sideR ds l <;> cases idR l.id t <;> simp

theorem litR_eq (ds : List Dc) (ls : List Lc) : litR ds ls = (dclR ds && idsR ls && ls.all (sideR ds)) := by
  unfold litR idsR
  rw [goL_eq]
  cases dclR ds <;> cases decide (ls.length ≤ 60) <;> simp

theorem idR_step {last : Int} {ls : List Lc} {k : Nat} {l : Lc} (h : ls[k]? = some l) : idR last (ls.drop k) = (decide (last < l.id ∧ l.id ≤ 1000000) && idR l.id (ls.drop (k + 1))) := by
  obtain ⟨hk, rfl⟩ := List.getElem?_eq_some_iff.1 h
  rw [List.drop_eq_getElem_cons hk, idR]

theorem all_step {p : Lc → Bool} {ls : List Lc} {k : Nat} {l : Lc} (h : ls[k]? = some l) : (ls.drop k).all p = (p l && (ls.drop (k + 1)).all p) := by
  obtain ⟨hk, rfl⟩ := List.getElem?_eq_some_iff.1 h
  rw [List.drop_eq_getElem_cons hk, List.all_cons]

set_option maxHeartbeats 1000000 in
set_option maxRecDepth 100000 in
theorem idsOk_any (b : Option Addr) (c2 n : Nat) (xs : List Lg) (w : World) (hs : RdL w b xs) (hn : xs.length = n) :
    Calls Tryz.prog 77 #[.slice b n c2] w fun e w' => e = .returned (.bool (idsR (xs.map Lg.ct))) ∧ Below w.heap.size w w' := by
  have hl2 := hs.1
  rw [hn] at hl2
  have HRL := kide (fun u (hu : Below w.heap.size w u) => hs.later hu)
  have HN := kide hn
  by_cases h60 : n ≤ 60
  · generalize hZ : idsR (xs.map Lg.ct) = Z
    have HZ : Hid (idR 0 (xs.map Lg.ct) = Z) := by
      show _ = _
      rw [← hZ, idsR]
      simp [hn, h60]
    clear hZ hs hn
    go_enter Tryz.func77, Tryz.ntmps77
    go_wp2_with fail
    go_loopw [3, 11] (fun l i wr => ∃ (k : Nat) (last : Int), k ≤ n ∧ i = .int .i64 k ∧ l = .int .i64 last ∧ in64 last ∧ idR last ((xs.map Lg.ct).drop k) = Z ∧ Below w.heap.size w wr) (fun _ i _ => n - (intOf i).toNat)
    case atStart => exact ⟨0, 0, Nat.zero_le _, rfl, rfl, by unfold in64; omega, by rw [List.drop_zero]; exact HZ.out, Below.refl _ _⟩
    case round =>
      obtain ⟨k, last, hk, rfl, rfl, hin, hq, hbel⟩ := hrel
      have HB := kide hbel
      have HIN := kide hin
      by_cases hlt : k < n
      · obtain ⟨-, h | ⟨b1, o1, rfl, hc⟩⟩ := HRL.out wr hbel
        · have := HN.out; subst h; simp at this; omega
        obtain ⟨⟨id, q, ss, sa, sc, ts, ta, tc⟩, hx⟩ : ∃ x, xs[k]? = some x := ⟨_, List.getElem?_eq_getElem (by rw [HN.out]; exact hlt)⟩
        obtain ⟨⟨p0, p1, p2, p3⟩, pr, pr2, hid⟩ := hc k _ hx
        simp only [] at p0 p1 p2 p3 pr pr2 hid
        rw [idR_step (l := ⟨id, q, ss.map Tg.ct, ts.map Tg.ct⟩) (by rw [List.getElem?_map, hx]; rfl)] at hq
        simp only [] at hq
        have HQ := kide hq
        have hki : (k : Int) < (n : Int) := by omega
        have HA := kide (HB.out.alloc HB.out.size (.cells #[Value.int .i64 id, Value.bool q, Value.slice sa ss.length sc, Value.slice ta ts.length tc] 78))
        have HID := kide hid
        generalize ss.length = m1 at *
        generalize ts.length = m2 at *
        clear hc hx hq hbel pr pr2 hin hid
        by_cases h1 : id ≤ last
        · have HF : Hid (Z = false) := by
            show _ = _
            rw [← HQ.out, decide_eq_false (by omega)]
            rfl
          go_wp2_with fail
          go_ret
          exact ⟨ret_bool HF.out.symm, HA.out⟩
        by_cases h2 : 1000000 < id
        · have HF : Hid (Z = false) := by
            show _ = _
            rw [← HQ.out, decide_eq_false (by omega)]
            rfl
          go_wp2_with fail
          go_ret
          exact ⟨ret_bool HF.out.symm, HA.out⟩
        have hdt : decide (last < id ∧ id ≤ 1000000) = true := decide_eq_true (by omega)
        rw [hdt, Bool.true_and] at HQ
        clear hdt
        go_wp2_with fail
        go_roundw
        case rel => exact ⟨k + 1, id, by omega, by go_num, rfl, HID.out, HQ.out, HA.out⟩
        case measure => simp [intOf]; omega
      · have e : k = n := by omega
        rw [e, List.drop_of_length_le (by simp [HN.out]), idR] at hq
        have HQ := kide hq
        clear hq hin
        go_wp2_with fail
        go_ret
        exact ⟨ret_bool HQ.out, HB.out⟩
  · have hR : idsR (xs.map Lg.ct) = false := by simp [idsR, hn]; omega
    rw [hR]
    clear hR hs hn
    have h61 : (60 : Int) < (n : Int) := by omega
    go_enter Tryz.func77, Tryz.ntmps77
    go_wp2_with fail
    go_ret
    exact ⟨rfl, Below.refl _ _⟩

end Go.Proofs.YtllojnloldhghaaGreatDoor

/- What the program's LiteralsOk answers. -/
namespace Go.Proofs.YtllojnloldhghaaGreatDoor
set_option linter.unusedVariables false
set_option linter.unusedSimpArgs false
open Go.RowKit

set_option maxHeartbeats 2000000 in
set_option maxRecDepth 100000 in
theorem implLits_any (a b : Option Addr) (c c2 n : Nat) (ds : List Dc) (xs : List Lg) (w : World) (hr : RdD w a ds) (hs : RdL w b xs) (hn : xs.length = n) (hG : GF w) :
    Calls Tryz.prog 44 #[.slice a ds.length c, .slice b n c2] w fun e w' => e = .returned (.bool (litR ds (xs.map Lg.ct))) ∧ Below w.heap.size w w' := by
  have hl1 := hr.1
  have hl2 := hs.1
  rw [hn] at hl2
  have HD := kide (fun u (hu : Below w.heap.size w u) => implDecls_any a c ds u (hr.later hu))
  have HI := kide (fun u (hu : Below w.heap.size w u) => idsOk_any b c2 n xs u (hs.later hu) hn)
  have HRD := kide (fun u (hu : Below w.heap.size w u) => hr.later hu)
  have HRL := kide (fun u (hu : Below w.heap.size w u) => hs.later hu)
  have HG := kide (fun u (hu : Below w.heap.size w u) => hG.later hu)
  have HN := kide hn
  cases hd : dclR ds with
  | false =>
    have hR : litR ds (xs.map Lg.ct) = false := by simp [litR, hd]
    rw [hR]
    rw [hd] at HD
    clear hR hd hr hs hn hG
    go_enter Tryz.func44, Tryz.ntmps44
    go_wp2_with fail
    refine Calls.mono (HD.out _ (Below.refl _ _)) ?_
    rintro e w1 ⟨rfl, hb1⟩
    go_wp2_with fail
    go_ret
    exact ⟨rfl, hb1⟩
  | true =>
    rw [hd] at HD
    have HDT := kide hd
    cases hI : idsR (xs.map Lg.ct) with
    | false =>
      have hR : litR ds (xs.map Lg.ct) = false := by rw [litR_eq, hI]; simp
      rw [hR]
      rw [hI] at HI
      clear hR hd hr hs hn hG hI
      go_enter Tryz.func44, Tryz.ntmps44
      go_wp2_with fail
      refine Calls.mono (HD.out _ (Below.refl _ _)) ?_
      rintro e w1 ⟨rfl, hb1⟩
      have B1 := kide hb1
      clear hb1
      go_wp2_with fail
      refine Calls.mono (HI.out _ B1.out) ?_
      rintro e w2 ⟨rfl, hb2⟩
      go_wp2_with fail
      go_ret
      exact ⟨rfl, B1.out.trans (hb2.mono B1.out.size)⟩
    | true =>
      rw [hI] at HI
      generalize hZ : litR ds (xs.map Lg.ct) = Z
      have HZ : Hid ((xs.map Lg.ct).all (sideR ds) = Z) := by
        show _ = _
        rw [← hZ, litR_eq, hI, hd]
        simp
      clear hZ hd hr hs hn hG hI
      go_enter Tryz.func44, Tryz.ntmps44
      go_wp2_with fail
      refine Calls.mono (HD.out _ (Below.refl _ _)) ?_
      rintro e w1 ⟨rfl, hb1⟩
      have B1 := kide hb1
      clear hb1
      go_wp2_with fail
      refine Calls.mono (HI.out _ B1.out) ?_
      rintro e w2 ⟨rfl, hb2⟩
      have B2 := kide (B1.out.trans (hb2.mono B1.out.size))
      clear hb2 B1
      go_wp2_with fail
      go_loopw [17] (fun i wr => ∃ (k : Nat), k ≤ n ∧ i = .int .i64 k ∧ ((xs.map Lg.ct).drop k).all (sideR ds) = Z ∧ Below w.heap.size w wr) (fun i _ => n - (intOf i).toNat)
      case atStart => exact ⟨0, Nat.zero_le _, rfl, by rw [List.drop_zero]; exact HZ.out, B2.out⟩
      case round =>
        obtain ⟨k, hk, rfl, hq, hbel⟩ := hrel
        have HB := kide hbel
        by_cases hlt : k < n
        · obtain ⟨-, h | ⟨b1, o1, rfl, hc⟩⟩ := HRL.out wr hbel
          · have := HN.out; subst h; simp at this; omega
          obtain ⟨⟨id, q, ss, sa, sc, ts, ta, tc⟩, hx⟩ : ∃ x, xs[k]? = some x := ⟨_, List.getElem?_eq_getElem (by rw [HN.out]; exact hlt)⟩
          obtain ⟨⟨p0, p1, p2, p3⟩, pr, pr2, hid⟩ := hc k _ hx
          simp only [] at p0 p1 p2 p3 pr pr2 hid
          rw [all_step (l := ⟨id, q, ss.map Tg.ct, ts.map Tg.ct⟩) (by rw [List.getElem?_map, hx]; rfl)] at hq
          have HQ := kide hq
          have hki : (k : Int) < (n : Int) := by omega
          have HA := kide (HB.out.alloc HB.out.size (.cells #[Value.int .i64 id, Value.bool q, Value.slice sa ss.length sc, Value.slice ta ts.length tc] 78))
          have hbx : Below wr.heap.size wr (wr.alloc (.cells #[Value.int .i64 id, Value.bool q, Value.slice sa ss.length sc, Value.slice ta ts.length tc] 78)) := (Below.refl _ _).alloc (Nat.le_refl _) _
          have HSD := kide (sidesOk_any a c ds id q sa ta ss.length sc ts.length tc ss ts _ (HRD.out _ HA.out) (pr.later hbx) (pr2.later hbx) rfl rfl (HG.out _ HA.out) HDT.out)
          generalize sideR ds ⟨id, q, ss.map Tg.ct, ts.map Tg.ct⟩ = SR at *
          generalize ss.length = m1 at *
          generalize ts.length = m2 at *
          clear hc hx hq hbel pr pr2 hid hbx
          cases SR with
          | false =>
            go_wp2_with fail
            refine Calls.mono HSD.out ?_
            rintro e w2 ⟨rfl, hb2⟩
            have HF : Hid (Z = false) := by show _ = _; rw [← HQ.out]; rfl
            go_wp2_with fail
            go_ret
            exact ⟨ret_bool HF.out.symm, HA.out.trans (hb2.mono HA.out.size)⟩
          | true =>
            rw [Bool.true_and] at HQ
            go_wp2_with fail
            refine Calls.mono HSD.out ?_
            rintro e w2 ⟨rfl, hb2⟩
            have HB2 := kide (HA.out.trans (hb2.mono HA.out.size))
            clear hb2
            go_wp2_with fail
            go_roundw
            case rel => exact ⟨k + 1, by omega, by go_num, HQ.out, HB2.out⟩
            case measure => simp [intOf]; omega
        · have e : k = n := by omega
          rw [e, List.drop_of_length_le (by simp [HN.out])] at hq
          have HQ := kide hq
          clear hq
          go_wp2_with fail
          go_ret
          exact ⟨ret_bool HQ.out, HB.out⟩

end Go.Proofs.YtllojnloldhghaaGreatDoor
