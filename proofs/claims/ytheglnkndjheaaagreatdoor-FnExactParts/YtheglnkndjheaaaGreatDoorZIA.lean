/- Several texts in one. -/
import Derived.Test.YtheglnkndjheaaaGreatDoorZQA
import Derived.Test.YtheglnkndjheaaaGreatDoorZQA
import Derived.Deep.AppendLies
import Derived.Deep.OwnRows

/- Contracts of the laws' own small functions on rows of literals: how long. -/
namespace Go.Proofs.YtheglnkndjheaaaGreatDoor
set_option linter.unusedVariables false
set_option linter.unusedSimpArgs false
open Go.RowKit

/-- A literal as it lies, with its two terms' nodes as they lie. -/
structure Lh where
  id : Int
  eq : Bool
  sa : Option Addr
  sn : Nat
  sc : Nat
  ss : List Th
  ta : Option Addr
  tn : Nat
  tc : Nat
  ts : List Th

def Lh.val (h : Lh) : Value := .agg #[.int .i64 h.id, .bool h.eq, .slice h.sa h.sn h.sc, .slice h.ta h.tn h.tc]

def LhAt (w : World) (b o : Nat) (h : Lh) : Prop :=
  w.cell? ⟨b, o, none⟩ = some (.int .i64 h.id) ∧ w.cell? ⟨b, o + 1, none⟩ = some (.bool h.eq) ∧ w.cell? ⟨b, o + 2, none⟩ = some (.slice h.sa h.sn h.sc) ∧ w.cell? ⟨b, o + 3, none⟩ = some (.slice h.ta h.tn h.tc)

theorem LhAt.later {w w' : World} {b o : Nat} {h : Lh} (k : LhAt w b o h) (hb : Below w.heap.size w w') : LhAt w' b o h := by
  obtain ⟨f0, f1, f2, f3⟩ := k
  have l := block_lt_of_cell f0
  exact ⟨by rw [kcell hb _ _ l]; exact f0, by rw [kcell hb _ _ l]; exact f1, by rw [kcell hb _ _ l]; exact f2, by rw [kcell hb _ _ l]; exact f3⟩

/-- The nodes of a term lie as told. -/
def TmOk (w : World) (a : Option Addr) (n : Nat) (hs : List Th) : Prop := n ≤ 9223372036854775807 ∧ (n ≤ 1048576 → hs.length = n ∧ RdTh w a hs)
theorem TmOk.later {w w' : World} {a : Option Addr} {n : Nat} {hs : List Th} (k : TmOk w a n hs) (hb : Below w.heap.size w w') : TmOk w' a n hs := ⟨k.1, fun hn => ⟨(k.2 hn).1, (k.2 hn).2.later hb⟩⟩

def RdLh (w : World) (a : Option Addr) (hs : List Lh) : Prop :=
  hs.length ≤ 1048576 ∧ (hs = [] ∨ ∃ b o, a = some ⟨b, o, none⟩ ∧ ∀ i h, hs[i]? = some h → LhAt w b (o + i * 4) h ∧ TmOk w h.sa h.sn h.ss ∧ TmOk w h.ta h.tn h.ts)

theorem RdLh.later {w w' : World} {a : Option Addr} {hs : List Lh} (h : RdLh w a hs) (hb : Below w.heap.size w w') : RdLh w' a hs := by
  refine ⟨h.1, ?_⟩
  rcases h.2 with h | ⟨b, o, rfl, hc⟩
  · exact .inl h
  · exact .inr ⟨b, o, rfl, fun i x hi => ⟨(hc i x hi).1.later hb, (hc i x hi).2.1.later hb, (hc i x hi).2.2.later hb⟩⟩

def szTm (n : Nat) (hs : List Th) (L : Int) : Int := if (n : Int) ≤ L then szTl hs (L - n) else -1

theorem szTm_range (n : Nat) (hs : List Th) (L : Int) (hL : 0 ≤ L) : szTm n hs L = -1 ∨ 0 ≤ szTm n hs L ∧ szTm n hs L ≤ L := by
  unfold szTm
  split
  · rcases szTl_range hs (L - n) (by omega) with e | ⟨e1, e2, -⟩
    · exact .inl e
    · exact .inr ⟨e1, by omega⟩
  · exact .inl rfl

theorem szTerm_any (a : Option Addr) (n c : Nat) (hs : List Th) (L : Int) (w : World) (hL : 0 ≤ L) (hL2 : L ≤ 1048576) (hk : TmOk w a n hs) :
    Calls Tryz.prog 46 #[.agg #[.slice a n c], .int .i64 L] w fun e w' => e = .returned (.int .i64 (szTm n hs L)) ∧ Below w.heap.size w w' := by
  by_cases hn : (n : Int) ≤ L
  · obtain ⟨e1, e2⟩ := hk.2 (by omega)
    have := szTerm_in a c hs L w e2 hL hL2 (by omega) n e1
    rw [e1] at this
    rw [szTm, if_pos hn]
    exact this
  · rw [szTm, if_neg hn]
    exact szTerm_out a n c L w hL hL2 hk.1 hn

def szL (h : Lh) (L : Int) : Int := if 0 ≤ szTm h.sn h.ss L then szTm h.tn h.ts (szTm h.sn h.ss L) else -1

theorem szL_range (h : Lh) (L : Int) (hL : 0 ≤ L) : szL h L = -1 ∨ 0 ≤ szL h L ∧ szL h L ≤ L := by
  unfold szL
  split
  · rename_i h1
    have r1 := szTm_range h.sn h.ss L hL
    have r2 := szTm_range h.tn h.ts _ h1
    omega
  · exact .inl rfl

theorem szLiteral_any (h : Lh) (L : Int) (w : World) (hL : 0 ≤ L) (hL2 : L ≤ 1048576) (hs : TmOk w h.sa h.sn h.ss) (ht : TmOk w h.ta h.tn h.ts) :
    Calls Tryz.prog 25 #[h.val, .int .i64 L] w fun e w' => e = .returned (.int .i64 (szL h L)) ∧ Below w.heap.size w w' := by
  have r1 := szTm_range h.sn h.ss L hL
  have HA := kide (fun u (hu : Below w.heap.size w u) => szTerm_any h.sa h.sn h.sc h.ss L u hL hL2 (hs.later hu))
  have HB := kide (fun u (hu : Below w.heap.size w u) (h0 : 0 ≤ szTm h.sn h.ss L) => szTerm_any h.ta h.tn h.tc h.ts (szTm h.sn h.ss L) u h0 (by omega) (ht.later hu))
  have r2 := fun (h0 : 0 ≤ szTm h.sn h.ss L) => szTm_range h.tn h.ts _ h0
  unfold szL
  generalize szTm h.sn h.ss L = Q at *
  generalize szTm h.tn h.ts Q = Q2 at *
  obtain ⟨id, eq, sa, sn, sc, ss, ta, tn, tc, ts⟩ := h
  simp only [Lh.val] at HA HB ⊢
  have s0 := St.start w (.cells #[Value.int .i64 id, Value.bool eq, Value.slice sa sn sc, Value.slice ta tn tc] 55)
  clear hs ht
  rcases r1 with rfl | ⟨h1, h2⟩
  · rw [if_neg (by omega)]
    clear r2 HB
    go_enter Tryz.func25, Tryz.ntmps25
    go_wp2_with fail
    refine Calls.mono (HA.out _ s0.below) ?_
    rintro e w1 ⟨rfl, hb1⟩
    have s1 := s0.next hb1
    go_wp2_with fail
    go_ret
    exact ⟨rfl, s1.below⟩
  · rw [if_pos h1]
    have r3 := r2 h1
    have HC := kide (fun u hu => HB.out u hu h1)
    clear r2 HB
    rcases r3 with rfl | ⟨h3, h4⟩
    all_goals
      go_enter Tryz.func25, Tryz.ntmps25
      go_wp2_with fail
      refine Calls.mono (HA.out _ s0.below) ?_
      rintro e w1 ⟨rfl, hb1⟩
      have s1 := s0.next hb1
      have c3 := s1.cell 3
      simp at c3
      clear hb1 s0
      go_wp2_with fail
      refine Calls.mono (HC.out _ s1.below) ?_
      rintro e w2 ⟨rfl, hb2⟩
      have s2 := s1.next hb2
      go_wp2_with fail
      go_ret
      exact ⟨rfl, s2.below⟩

/-- What is left of L behind some literals; -1: nothing. -/
def szLl : List Lh → Int → Int
  | [], L => L
  | h :: t, L => if 0 ≤ szL h L then szLl t (szL h L) else -1

theorem szLl_range (hs : List Lh) (L : Int) (hL : 0 ≤ L) : szLl hs L = -1 ∨ 0 ≤ szLl hs L ∧ szLl hs L ≤ L := by
  induction hs generalizing L with
  | nil => right; simp [szLl]; exact hL
  | cons h t ih =>
    rw [szLl]
    split
    · rename_i hc
      have := szL_range h L hL
      rcases ih (szL h L) hc with e | ⟨e1, e2⟩
      · left; exact e
      · right; exact ⟨e1, by omega⟩
    · left; rfl

/-- Each literal is short enough where all are. -/
theorem szLl_each (hs : List Lh) (L : Int) (hL : 0 ≤ L) (hz : 0 ≤ szLl hs L) : ∀ h ∈ hs, ∃ Q : Int, 0 ≤ Q ∧ Q ≤ L ∧ 0 ≤ szL h Q := by
  induction hs generalizing L with
  | nil => simp
  | cons h t ih =>
    rw [szLl] at hz
    split at hz
    · rename_i hc
      have hr := szL_range h L hL
      intro x hx
      rcases List.mem_cons.1 hx with rfl | hx
      · exact ⟨L, hL, Int.le_refl _, hc⟩
      · obtain ⟨Q, h1, h2, h3⟩ := ih (szL h L) hc hz x hx
        exact ⟨Q, h1, by omega, h3⟩
    · omega

theorem szLiteralS_in (a : Option Addr) (c : Nat) (hs : List Lh) (L : Int) (w : World) (hr : RdLh w a hs) (hL : 0 ≤ L) (hL2 : L ≤ 1048576) (h : (hs.length : Int) ≤ L) :
    Calls Tryz.prog 6 #[.slice a hs.length c, .int .i64 L] w fun e w' => e = .returned (.int .i64 (szLl hs (L - hs.length))) ∧ Below w.heap.size w w' := by
  have hlen := hr.1
  generalize hZ : szLl hs (L - hs.length) = Z
  have HZ : Hid (szLl hs (L - hs.length) = Z) := hZ
  clear hZ
  go_enter Tryz.func6, Tryz.ntmps6
  go_wp2_with fail
  go_loopw [1, 5] (fun l i wr => ∃ (k : Nat) (Q : Int), k ≤ hs.length ∧ i = .int .i64 k ∧ l = .int .i64 Q ∧ 0 ≤ Q ∧ Q ≤ 1048576 ∧ szLl (hs.drop k) Q = Z ∧ Below w.heap.size w wr) (fun _ i _ => hs.length - (intOf i).toNat)
  case atStart => exact ⟨0, _, Nat.zero_le _, rfl, rfl, by omega, by omega, by rw [List.drop_zero]; exact HZ.out, Below.refl _ _⟩
  case round =>
    obtain ⟨k, Q, hk, rfl, rfl, hQ0, hQ1, hq, hbel⟩ := hrel
    by_cases hlt : k < hs.length
    · obtain ⟨-, h | ⟨b, o, rfl, hc⟩⟩ := hr
      · subst h; simp at hlt
      obtain ⟨x, hh⟩ : ∃ x, hs[k] = x := ⟨_, rfl⟩
      obtain ⟨f1, f2, f3⟩ := hc k x (by rw [List.getElem?_eq_getElem hlt, hh])
      obtain ⟨g0, g1, g2, g3⟩ := f1.later hbel
      have HCA := kide (szLiteral_any x Q wr hQ0 hQ1 (f2.later hbel) (f3.later hbel))
      have hrr := szL_range x Q hQ0
      rw [List.drop_eq_getElem_cons hlt, hh, szLl] at hq
      generalize szL x Q = R at *
      obtain ⟨id, eq, sa, sn, sc, ss, ta, tn, tc, ts⟩ := x
      simp only [Lh.val] at g0 g1 g2 g3 HCA
      have HQ : Hid _ := hq
      have HB : Hid _ := hbel
      clear hc hh f1 f2 f3 hbel hq
      rcases hrr with rfl | ⟨hR0, hR1⟩
      · go_wp2_with (go_at_call 25; refine Calls.mono HCA.out ?_; rintro e w1 ⟨rfl, hb1⟩)
        go_ret
        have h := HQ.out
        rw [if_neg (by omega)] at h
        exact ⟨ret_int h, HB.out.trans (hb1.mono HB.out.size)⟩
      · go_wp2_with (go_at_call 25; refine Calls.mono HCA.out ?_; rintro e w1 ⟨rfl, hb1⟩)
        go_roundw
        case rel =>
          have h := HQ.out
          rw [if_pos hR0] at h
          exact ⟨k + 1, _, by omega, by go_num, rfl, by omega, by omega, h, HB.out.trans (hb1.mono HB.out.size)⟩
        case measure => simp [intOf]; omega
    · have e : k = hs.length := by omega
      rw [e, List.drop_length, szLl] at hq
      have HQ : Hid _ := hq
      clear hq
      go_wp2_with fail
      go_ret
      exact ⟨ret_int HQ.out, hbel⟩

theorem szLiteralS_out (a : Option Addr) (n c : Nat) (L : Int) (w : World) (hL : 0 ≤ L) (hL2 : L ≤ 1048576) (hn : n ≤ 9223372036854775807) (h : ¬ (n : Int) ≤ L) :
    Calls Tryz.prog 6 #[.slice a n c, .int .i64 L] w fun e w' => e = .returned (.int .i64 (-1)) ∧ w' = w := by
  go_enter Tryz.func6, Tryz.ntmps6
  go_wp2_with fail
  go_ret
  exact ⟨rfl, rfl⟩

end Go.Proofs.YtheglnkndjheaaaGreatDoor

/- Contracts of the laws' own small functions on literals: compared, copied. -/
namespace Go.Proofs.YtheglnkndjheaaaGreatDoor
set_option linter.unusedVariables false
set_option linter.unusedSimpArgs false
open Go.RowKit

theorem kfrozL {W w1 : World} (hb : Below W.heap.size W w1) (b o : Nat) (h : b < W.heap.size) : w1.frozen? ⟨b, o, none⟩ = W.frozen? ⟨b, o, none⟩ := hb.frozen (p := ⟨b, o, none⟩) h

/-- A literal: its number, whether it is an equality, its two terms. -/
structure Lc where
  id : Int
  eq : Bool
  ss : List Tc
  ts : List Tc

/-- .. as it lies. -/
structure Lg where
  id : Int
  eq : Bool
  ss : List Tg
  sa : Option Addr
  sc : Nat
  ts : List Tg
  ta : Option Addr
  tc : Nat

def Lg.ct (x : Lg) : Lc := ⟨x.id, x.eq, x.ss.map Tg.ct, x.ts.map Tg.ct⟩
def Lg.val (x : Lg) : Value := .agg #[.int .i64 x.id, .bool x.eq, .slice x.sa x.ss.length x.sc, .slice x.ta x.ts.length x.tc]

def LgAt (w : World) (b o : Nat) (x : Lg) : Prop :=
  (w.cell? ⟨b, o, none⟩ = some (.int .i64 x.id) ∧ w.cell? ⟨b, o + 1, none⟩ = some (.bool x.eq) ∧ w.cell? ⟨b, o + 2, none⟩ = some (.slice x.sa x.ss.length x.sc) ∧ w.cell? ⟨b, o + 3, none⟩ = some (.slice x.ta x.ts.length x.tc)) ∧ RdT w x.sa x.ss ∧ RdT w x.ta x.ts ∧ in64 x.id

theorem LgAt.later {w w' : World} {b o : Nat} {x : Lg} (h : LgAt w b o x) (hb : Below w.heap.size w w') : LgAt w' b o x := by
  obtain ⟨⟨f0, f1, f2, f3⟩, f4, f5, f6⟩ := h
  have l := block_lt_of_cell f0
  exact ⟨⟨by rw [kcell hb _ _ l]; exact f0, by rw [kcell hb _ _ l]; exact f1, by rw [kcell hb _ _ l]; exact f2, by rw [kcell hb _ _ l]; exact f3⟩, f4.later hb, f5.later hb, f6⟩

/-- A slice whose literals are xs, wherever it lies. -/
def RdL (w : World) (a : Option Addr) (xs : List Lg) : Prop :=
  xs.length ≤ 1048576 ∧ (xs = [] ∨ ∃ b o, a = some ⟨b, o, none⟩ ∧ ∀ i n, xs[i]? = some n → LgAt w b (o + i * 4) n)

theorem RdL.later {w w' : World} {a : Option Addr} {xs : List Lg} (h : RdL w a xs) (hb : Below w.heap.size w w') : RdL w' a xs := by
  refine ⟨h.1, ?_⟩
  rcases h.2 with h | ⟨b, o, rfl, hc⟩
  · exact .inl h
  · exact .inr ⟨b, o, rfl, fun i n hi => (hc i n hi).later hb⟩

theorem eqLiteral_same (id : Int) (q : Bool) (sa sb ta tb : Option Addr) (sc sd tc td n m : Nat) (xs ys zs us : List Tg) (w : World) (h1 : RdT w sa xs) (h2 : RdT w sb ys) (h3 : RdT w ta zs) (h4 : RdT w tb us) (e1 : xs.map Tg.ct = ys.map Tg.ct) (e2 : zs.map Tg.ct = us.map Tg.ct) (l1 : xs.length = n) (l2 : ys.length = n) (l3 : zs.length = m) (l4 : us.length = m) :
    Calls Tryz.prog 36 #[.agg #[.int .i64 id, .bool q, .slice sa n sc, .slice ta m tc], .agg #[.int .i64 id, .bool q, .slice sb n sd, .slice tb m td]] w fun e w' => e = .returned (.bool true) ∧ Below w.heap.size w w' := by
  have hb0 : Below w.heap.size w ((w.alloc (Obj.cells #[Value.int .i64 id, Value.bool q, Value.slice sa n sc, Value.slice ta m tc] 62)).alloc (Obj.cells #[Value.int .i64 id, Value.bool q, Value.slice sb n sd, Value.slice tb m td] 62)) := ((Below.refl _ _).alloc (Nat.le_refl _) _).alloc (by simp) _
  have HA := kide (fun u (hu : Below w.heap.size w u) => eqTerm_same sa sb sc sd xs ys u (h1.later hu) (h2.later hu) e1 n l1 l2)
  have HB := kide (fun u (hu : Below w.heap.size w u) => eqTerm_same ta tb tc td zs us u (h3.later hu) (h4.later hu) e2 m l3 l4)
  have B2 := kide hb0
  have f0 : (id != id) = false := by simp
  have f1 : (q != q) = false := by simp
  clear h1 h2 h3 h4 e1 e2 l1 l2 l3 l4 hb0
  go_enter Tryz.func36, Tryz.ntmps36
  go_wp2_with fail
  refine Calls.mono (HA.out _ B2.out) ?_
  rintro e w1 ⟨rfl, hb1⟩
  have k3 : w1.cell? ⟨w.heap.size, 3, none⟩ = some (Value.slice ta m tc) := by rw [kcell hb1 _ _ (by simp; omega)]; simp [go_sem]
  have j3 : w1.cell? ⟨w.heap.size + 1, 3, none⟩ = some (Value.slice tb m td) := by rw [kcell hb1 _ _ (by simp)]; simp [go_sem]
  have B3 := kide (B2.out.trans (hb1.mono B2.out.size))
  clear hb1
  go_wp2_with fail
  refine Calls.mono (HB.out _ B3.out) ?_
  rintro e w2 ⟨rfl, hb2⟩
  go_wp2_with fail
  go_ret
  exact ⟨rfl, B3.out.trans (hb2.mono B3.out.size)⟩

set_option maxHeartbeats 1000000 in
theorem toLiteral_far (z : Lg) (w : World) (h1 : RdT w z.sa z.ss) (h2 : RdT w z.ta z.ts) :
    Calls Tryz.prog 31 #[z.val] w fun e w' => ∃ y : Lg, e = .returned y.val ∧ y.ct = z.ct ∧ RdT w' y.sa y.ss ∧ FarT w.heap.size y.sa y.ss ∧ RdT w' y.ta y.ts ∧ FarT w.heap.size y.ta y.ts ∧ Below w.heap.size w w' := by
  obtain ⟨id, q, ss, sa, sc, ts, ta, tc⟩ := z
  simp only [Lg.val, Lg.ct] at h1 h2 ⊢
  have H1 := kide (fun u (hu : Below w.heap.size w u) => toTerm_far sa sc ss u (h1.later hu) _ rfl)
  have H2 := kide (fun u (hu : Below w.heap.size w u) => toTerm_far ta tc ts u (h2.later hu) _ rfl)
  clear h1 h2
  have h3 : Below w.heap.size w (((w.alloc (Obj.cells #[Value.int .i64 id, Value.bool q, Value.slice sa ss.length sc, Value.slice ta ts.length tc] 55)).alloc (Obj.cells #[Value.int .i64 0, Value.bool false, Value.slice none 0 0, Value.slice none 0 0] 62)).alloc (Obj.cells #[Value.int .i64 id, Value.bool q, Value.slice none 0 0, Value.slice none 0 0] 62)) := (((Below.refl _ _).alloc (Nat.le_refl _) _).alloc (by simp) _).alloc (by simp; omega) _
  have B0 := kide h3
  clear h3
  go_enter Tryz.func31, Tryz.ntmps31
  go_wp2_with fail
  refine Calls.mono (H1.out _ B0.out) ?_
  rintro e w1 ⟨g1, m1, rfl, hm1, r1, f1, hb1⟩
  have hz1 : w.heap.size + 3 ≤ w1.heap.size := by have := hb1.size; simp at this; omega
  have F1 : Hid (FarT (w.heap.size + 3) (some ⟨g1, 0, none⟩) m1) := by have h := f1; simp at h; exact h
  have p3 : w1.cell? ⟨w.heap.size, 3, none⟩ = some (Value.slice ta ts.length tc) := by rw [kcell hb1 _ _ (by first | (simp; done) | (simp; omega))]; simp [go_sem]
  have qa0 : w1.cell? ⟨w.heap.size + 1, 0, none⟩ = some (Value.int .i64 0) := by rw [kcell hb1 _ _ (by first | (simp; done) | (simp; omega))]; simp [go_sem]
  have qa1 : w1.cell? ⟨w.heap.size + 1, 1, none⟩ = some (Value.bool false) := by rw [kcell hb1 _ _ (by first | (simp; done) | (simp; omega))]; simp [go_sem]
  have qa2 : w1.cell? ⟨w.heap.size + 1, 2, none⟩ = some (Value.slice none 0 0) := by rw [kcell hb1 _ _ (by first | (simp; done) | (simp; omega))]; simp [go_sem]
  have qa3 : w1.cell? ⟨w.heap.size + 1, 3, none⟩ = some (Value.slice none 0 0) := by rw [kcell hb1 _ _ (by first | (simp; done) | (simp; omega))]; simp [go_sem]
  have qb0 : w1.cell? ⟨w.heap.size + 1 + 1, 0, none⟩ = some (Value.int .i64 id) := by rw [kcell hb1 _ _ (by first | (simp; done) | (simp; omega))]; simp [go_sem]
  have qb1 : w1.cell? ⟨w.heap.size + 1 + 1, 1, none⟩ = some (Value.bool q) := by rw [kcell hb1 _ _ (by first | (simp; done) | (simp; omega))]; simp [go_sem]
  have qb2 : w1.cell? ⟨w.heap.size + 1 + 1, 2, none⟩ = some (Value.slice none 0 0) := by rw [kcell hb1 _ _ (by first | (simp; done) | (simp; omega))]; simp [go_sem]
  have qb3 : w1.cell? ⟨w.heap.size + 1 + 1, 3, none⟩ = some (Value.slice none 0 0) := by rw [kcell hb1 _ _ (by first | (simp; done) | (simp; omega))]; simp [go_sem]
  have fa0 : w1.frozen? ⟨w.heap.size + 1, 0, none⟩ = false := by rw [kfrozL hb1 _ _ (by first | (simp; done) | (simp; omega))]; simp [go_sem]
  have fb0 : w1.frozen? ⟨w.heap.size + 1 + 1, 0, none⟩ = false := by rw [kfrozL hb1 _ _ (by first | (simp; done) | (simp; omega))]; simp [go_sem]
  have fa1 : w1.frozen? ⟨w.heap.size + 1, 1, none⟩ = false := by rw [kfrozL hb1 _ _ (by first | (simp; done) | (simp; omega))]; simp [go_sem]
  have fb1 : w1.frozen? ⟨w.heap.size + 1 + 1, 1, none⟩ = false := by rw [kfrozL hb1 _ _ (by first | (simp; done) | (simp; omega))]; simp [go_sem]
  have fa2 : w1.frozen? ⟨w.heap.size + 1, 2, none⟩ = false := by rw [kfrozL hb1 _ _ (by first | (simp; done) | (simp; omega))]; simp [go_sem]
  have fb2 : w1.frozen? ⟨w.heap.size + 1 + 1, 2, none⟩ = false := by rw [kfrozL hb1 _ _ (by first | (simp; done) | (simp; omega))]; simp [go_sem]
  have fa3 : w1.frozen? ⟨w.heap.size + 1, 3, none⟩ = false := by rw [kfrozL hb1 _ _ (by first | (simp; done) | (simp; omega))]; simp [go_sem]
  have fb3 : w1.frozen? ⟨w.heap.size + 1 + 1, 3, none⟩ = false := by rw [kfrozL hb1 _ _ (by first | (simp; done) | (simp; omega))]; simp [go_sem]
  have B1 := kide (B0.out.trans (hb1.mono B0.out.size))
  have R1 := kide r1
  have M1 := kide hm1
  clear hb1 r1 f1 hm1 B0 H1
  have uc03 : (w1.setCell ⟨w.heap.size + 1 + 1, 2, none⟩ (Value.slice (some ⟨g1, 0, none⟩) ss.length ss.length)).cell? ⟨w.heap.size, 3, none⟩ = some (Value.slice ta ts.length tc) := by simp [go_sem, p3, qa0, qa1, qa2, qa3, qb0, qb1, qb2, qb3, fa0, fb0, fa1, fb1, fa2, fb2, fa3, fb3]
  have uc10 : (w1.setCell ⟨w.heap.size + 1 + 1, 2, none⟩ (Value.slice (some ⟨g1, 0, none⟩) ss.length ss.length)).cell? ⟨w.heap.size + 1, 0, none⟩ = some (Value.int .i64 0) := by simp [go_sem, p3, qa0, qa1, qa2, qa3, qb0, qb1, qb2, qb3, fa0, fb0, fa1, fb1, fa2, fb2, fa3, fb3]
  have uc11 : (w1.setCell ⟨w.heap.size + 1 + 1, 2, none⟩ (Value.slice (some ⟨g1, 0, none⟩) ss.length ss.length)).cell? ⟨w.heap.size + 1, 1, none⟩ = some (Value.bool false) := by simp [go_sem, p3, qa0, qa1, qa2, qa3, qb0, qb1, qb2, qb3, fa0, fb0, fa1, fb1, fa2, fb2, fa3, fb3]
  have uc12 : (w1.setCell ⟨w.heap.size + 1 + 1, 2, none⟩ (Value.slice (some ⟨g1, 0, none⟩) ss.length ss.length)).cell? ⟨w.heap.size + 1, 2, none⟩ = some (Value.slice none 0 0) := by simp [go_sem, p3, qa0, qa1, qa2, qa3, qb0, qb1, qb2, qb3, fa0, fb0, fa1, fb1, fa2, fb2, fa3, fb3]
  have uc13 : (w1.setCell ⟨w.heap.size + 1 + 1, 2, none⟩ (Value.slice (some ⟨g1, 0, none⟩) ss.length ss.length)).cell? ⟨w.heap.size + 1, 3, none⟩ = some (Value.slice none 0 0) := by simp [go_sem, p3, qa0, qa1, qa2, qa3, qb0, qb1, qb2, qb3, fa0, fb0, fa1, fb1, fa2, fb2, fa3, fb3]
  have uc20 : (w1.setCell ⟨w.heap.size + 1 + 1, 2, none⟩ (Value.slice (some ⟨g1, 0, none⟩) ss.length ss.length)).cell? ⟨w.heap.size + 1 + 1, 0, none⟩ = some (Value.int .i64 id) := by simp [go_sem, p3, qa0, qa1, qa2, qa3, qb0, qb1, qb2, qb3, fa0, fb0, fa1, fb1, fa2, fb2, fa3, fb3]
  have uc21 : (w1.setCell ⟨w.heap.size + 1 + 1, 2, none⟩ (Value.slice (some ⟨g1, 0, none⟩) ss.length ss.length)).cell? ⟨w.heap.size + 1 + 1, 1, none⟩ = some (Value.bool q) := by simp [go_sem, p3, qa0, qa1, qa2, qa3, qb0, qb1, qb2, qb3, fa0, fb0, fa1, fb1, fa2, fb2, fa3, fb3]
  have uc22 : (w1.setCell ⟨w.heap.size + 1 + 1, 2, none⟩ (Value.slice (some ⟨g1, 0, none⟩) ss.length ss.length)).cell? ⟨w.heap.size + 1 + 1, 2, none⟩ = some (Value.slice (some ⟨g1, 0, none⟩) ss.length ss.length) := by simp [go_sem, p3, qa0, qa1, qa2, qa3, qb0, qb1, qb2, qb3, fa0, fb0, fa1, fb1, fa2, fb2, fa3, fb3]
  have uc23 : (w1.setCell ⟨w.heap.size + 1 + 1, 2, none⟩ (Value.slice (some ⟨g1, 0, none⟩) ss.length ss.length)).cell? ⟨w.heap.size + 1 + 1, 3, none⟩ = some (Value.slice none 0 0) := by simp [go_sem, p3, qa0, qa1, qa2, qa3, qb0, qb1, qb2, qb3, fa0, fb0, fa1, fb1, fa2, fb2, fa3, fb3]
  have uf10 : (w1.setCell ⟨w.heap.size + 1 + 1, 2, none⟩ (Value.slice (some ⟨g1, 0, none⟩) ss.length ss.length)).frozen? ⟨w.heap.size + 1, 0, none⟩ = false := by simp [go_sem, p3, qa0, qa1, qa2, qa3, qb0, qb1, qb2, qb3, fa0, fb0, fa1, fb1, fa2, fb2, fa3, fb3]
  have uf11 : (w1.setCell ⟨w.heap.size + 1 + 1, 2, none⟩ (Value.slice (some ⟨g1, 0, none⟩) ss.length ss.length)).frozen? ⟨w.heap.size + 1, 1, none⟩ = false := by simp [go_sem, p3, qa0, qa1, qa2, qa3, qb0, qb1, qb2, qb3, fa0, fb0, fa1, fb1, fa2, fb2, fa3, fb3]
  have uf12 : (w1.setCell ⟨w.heap.size + 1 + 1, 2, none⟩ (Value.slice (some ⟨g1, 0, none⟩) ss.length ss.length)).frozen? ⟨w.heap.size + 1, 2, none⟩ = false := by simp [go_sem, p3, qa0, qa1, qa2, qa3, qb0, qb1, qb2, qb3, fa0, fb0, fa1, fb1, fa2, fb2, fa3, fb3]
  have uf13 : (w1.setCell ⟨w.heap.size + 1 + 1, 2, none⟩ (Value.slice (some ⟨g1, 0, none⟩) ss.length ss.length)).frozen? ⟨w.heap.size + 1, 3, none⟩ = false := by simp [go_sem, p3, qa0, qa1, qa2, qa3, qb0, qb1, qb2, qb3, fa0, fb0, fa1, fb1, fa2, fb2, fa3, fb3]
  have uf20 : (w1.setCell ⟨w.heap.size + 1 + 1, 2, none⟩ (Value.slice (some ⟨g1, 0, none⟩) ss.length ss.length)).frozen? ⟨w.heap.size + 1 + 1, 0, none⟩ = false := by simp [go_sem, p3, qa0, qa1, qa2, qa3, qb0, qb1, qb2, qb3, fa0, fb0, fa1, fb1, fa2, fb2, fa3, fb3]
  have uf21 : (w1.setCell ⟨w.heap.size + 1 + 1, 2, none⟩ (Value.slice (some ⟨g1, 0, none⟩) ss.length ss.length)).frozen? ⟨w.heap.size + 1 + 1, 1, none⟩ = false := by simp [go_sem, p3, qa0, qa1, qa2, qa3, qb0, qb1, qb2, qb3, fa0, fb0, fa1, fb1, fa2, fb2, fa3, fb3]
  have uf22 : (w1.setCell ⟨w.heap.size + 1 + 1, 2, none⟩ (Value.slice (some ⟨g1, 0, none⟩) ss.length ss.length)).frozen? ⟨w.heap.size + 1 + 1, 2, none⟩ = false := by simp [go_sem, p3, qa0, qa1, qa2, qa3, qb0, qb1, qb2, qb3, fa0, fb0, fa1, fb1, fa2, fb2, fa3, fb3]
  have uf23 : (w1.setCell ⟨w.heap.size + 1 + 1, 2, none⟩ (Value.slice (some ⟨g1, 0, none⟩) ss.length ss.length)).frozen? ⟨w.heap.size + 1 + 1, 3, none⟩ = false := by simp [go_sem, p3, qa0, qa1, qa2, qa3, qb0, qb1, qb2, qb3, fa0, fb0, fa1, fb1, fa2, fb2, fa3, fb3]
  have BW1 : Hid (Below w.heap.size w (w1.setCell ⟨w.heap.size + 1 + 1, 2, none⟩ (Value.slice (some ⟨g1, 0, none⟩) ss.length ss.length))) := B1.out.setCell (by first | (simp; done) | (simp; omega)) _
  have RW1 : Hid (RdT (w1.setCell ⟨w.heap.size + 1 + 1, 2, none⟩ (Value.slice (some ⟨g1, 0, none⟩) ss.length ss.length)) (some ⟨g1, 0, none⟩) m1) := R1.out.set F1.out (by first | (simp; done) | (simp; omega)) _
  have hzW1 : w.heap.size + 3 ≤ (w1.setCell ⟨w.heap.size + 1 + 1, 2, none⟩ (Value.slice (some ⟨g1, 0, none⟩) ss.length ss.length)).heap.size := by simp; omega
  go_wp2_with fail
  clear p3 qa0 qa1 qa2 qa3 qb0 qb1 qb2 qb3 fa0 fb0 fa1 fb1 fa2 fb2 fa3 fb3
  generalize w1.setCell ⟨w.heap.size + 1 + 1, 2, none⟩ (Value.slice (some ⟨g1, 0, none⟩) ss.length ss.length) = W1 at *
  clear B1 R1 hz1
  refine Calls.mono (H2.out W1 BW1.out) ?_
  rintro e w2 ⟨g2, m2, rfl, hm2, r2, f2, hb2⟩
  have BX2 := kide (BW1.out.trans (hb2.mono BW1.out.size))
  have RX1 := kide (RW1.out.later hb2)
  have R2 := kide r2
  have F2 : Hid (FarT (w.heap.size + 3) (some ⟨g2, 0, none⟩) m2) := f2.mono hzW1
  have M2 := kide hm2
  have hz2 : w.heap.size + 3 ≤ w2.heap.size := Nat.le_trans hzW1 hb2.size
  have vc03 := (kcell hb2 (w.heap.size) 3 (by omega)).trans uc03
  have vc10 := (kcell hb2 (w.heap.size + 1) 0 (by omega)).trans uc10
  have vc11 := (kcell hb2 (w.heap.size + 1) 1 (by omega)).trans uc11
  have vc12 := (kcell hb2 (w.heap.size + 1) 2 (by omega)).trans uc12
  have vc13 := (kcell hb2 (w.heap.size + 1) 3 (by omega)).trans uc13
  have vc20 := (kcell hb2 (w.heap.size + 1 + 1) 0 (by omega)).trans uc20
  have vc21 := (kcell hb2 (w.heap.size + 1 + 1) 1 (by omega)).trans uc21
  have vc22 := (kcell hb2 (w.heap.size + 1 + 1) 2 (by omega)).trans uc22
  have vc23 := (kcell hb2 (w.heap.size + 1 + 1) 3 (by omega)).trans uc23
  have vf10 := (kfrozL hb2 (w.heap.size + 1) 0 (by omega)).trans uf10
  have vf11 := (kfrozL hb2 (w.heap.size + 1) 1 (by omega)).trans uf11
  have vf12 := (kfrozL hb2 (w.heap.size + 1) 2 (by omega)).trans uf12
  have vf13 := (kfrozL hb2 (w.heap.size + 1) 3 (by omega)).trans uf13
  have vf20 := (kfrozL hb2 (w.heap.size + 1 + 1) 0 (by omega)).trans uf20
  have vf21 := (kfrozL hb2 (w.heap.size + 1 + 1) 1 (by omega)).trans uf21
  have vf22 := (kfrozL hb2 (w.heap.size + 1 + 1) 2 (by omega)).trans uf22
  have vf23 := (kfrozL hb2 (w.heap.size + 1 + 1) 3 (by omega)).trans uf23
  clear hb2 r2 f2 hm2 uc03 uc10 uc11 uc12 uc13 uc20 uc21 uc22 uc23 uf10 uf11 uf12 uf13 uf20 uf21 uf22 uf23 BW1 RW1 H2
  go_wp2_with fail
  refine bodyPost_ret (v := .agg #[.int .i64 id, .bool q, Value.slice (some ⟨g1, 0, none⟩) ss.length ss.length, .slice (some ⟨g2, 0, none⟩) ts.length ts.length]) (by simp [results, Tryz.results31, go_sem, vc03, vc10, vc11, vc12, vc13, vc20, vc21, vc22, vc23, vf10, vf11, vf12, vf13, vf20, vf21, vf22, vf23]) rfl ?_
  have hl1 : m1.length = ss.length := by simpa using congrArg List.length M1.out
  have hl2 : m2.length = ts.length := by simpa using congrArg List.length M2.out
  refine ⟨⟨id, q, m1, some ⟨g1, 0, none⟩, ss.length, m2, some ⟨g2, 0, none⟩, ts.length⟩, by simp [hl1, hl2], by simp [M1.out, M2.out], ?_, F1.out.mono (by omega), ?_, F2.out.mono (by omega), ?_⟩
  · repeat (refine RdT.set ?_ F1.out (by first | (simp; done) | (simp; omega)) _)
    exact RX1.out
  · repeat (refine RdT.set ?_ F2.out (by first | (simp; done) | (simp; omega)) _)
    exact R2.out
  · repeat (refine Below.setCell ?_ (by first | (simp; done) | (simp; omega)) _)
    exact BX2.out

end Go.Proofs.YtheglnkndjheaaaGreatDoor

/- Rows of literals compared, copied. -/
namespace Go.Proofs.YtheglnkndjheaaaGreatDoor
set_option linter.unusedVariables false
set_option linter.unusedSimpArgs false
open Go.RowKit

set_option maxHeartbeats 1000000 in
theorem eqLiteralS_same (a b : Option Addr) (c d : Nat) (xs ys : List Lg) (w : World) (hr : RdL w a xs) (hs : RdL w b ys) (he : xs.map Lg.ct = ys.map Lg.ct) (n : Nat) (h1 : xs.length = n) (h2 : ys.length = n) :
    Calls Tryz.prog 13 #[.slice a n c, .slice b n d] w fun e w' => e = .returned (.bool true) ∧ Below w.heap.size w w' := by
  have hl1 := hr.1
  rw [h1] at hl1
  have hne : ((n : Int) != (n : Int)) = false := by simp
  have H1 := kide h1
  have H2 := kide h2
  have HE := kide he
  clear h1 h2 he
  go_enter Tryz.func13, Tryz.ntmps13
  go_wp2_with fail
  clear hne
  go_loopw [5] (fun i wr => ∃ k : Nat, k ≤ n ∧ i = .int .i64 k ∧ Below w.heap.size w wr) (fun i _ => n - (intOf i).toNat)
  case atStart => exact ⟨0, Nat.zero_le _, rfl, Below.refl _ _⟩
  case round =>
    obtain ⟨k, hk, rfl, hbel⟩ := hrel
    have HB := kide hbel
    by_cases hlt : k < n
    · obtain ⟨-, h | ⟨b1, o1, rfl, hc1⟩⟩ := hr
      · have := H1.out; subst h; simp at this; omega
      obtain ⟨-, h | ⟨b2, o2, rfl, hc2⟩⟩ := hs
      · have := H2.out; subst h; simp at this; omega
      obtain ⟨⟨id, q, ss1, sa1, sc1, ts1, ta1, tc1⟩, hx⟩ : ∃ x, xs[k]? = some x := ⟨xs[k]'(by rw [H1.out]; exact hlt), List.getElem?_eq_getElem _⟩
      obtain ⟨⟨id2, q2, ss2, sa2, sc2, ts2, ta2, tc2⟩, hy⟩ : ∃ y, ys[k]? = some y := ⟨ys[k]'(by rw [H2.out]; exact hlt), List.getElem?_eq_getElem _⟩
      have hxy : Lg.ct ⟨id, q, ss1, sa1, sc1, ts1, ta1, tc1⟩ = Lg.ct ⟨id2, q2, ss2, sa2, sc2, ts2, ta2, tc2⟩ := by
        have h := congrArg (fun l => l[k]?) HE.out
        simp [hx, hy] at h
        exact h
      simp only [Lg.ct, Lc.mk.injEq] at hxy
      obtain ⟨rfl, rfl, hss, hts⟩ := hxy
      have hsl : ss2.length = ss1.length := by simpa using (congrArg List.length hss).symm
      have htl : ts2.length = ts1.length := by simpa using (congrArg List.length hts).symm
      obtain ⟨⟨p0, p1, p2, p3⟩, pr, pr2, -⟩ := (hc1 k _ hx).later hbel
      obtain ⟨⟨q0, q1, q2, q3⟩, qr, qr2, -⟩ := (hc2 k _ hy).later hbel
      simp only [] at p0 p1 p2 p3 pr pr2 q0 q1 q2 q3 qr qr2
      rw [hsl] at q2
      rw [htl] at q3
      have l1 := block_lt_of_cell p0
      have l2 := block_lt_of_cell q0
      have i0 : (k : Int) < (n : Int) := by omega
      have HEQ := kide (fun u (hu : Below wr.heap.size wr u) => eqLiteral_same id q sa1 sa2 ta1 ta2 sc1 sc2 tc1 tc2 ss1.length ts1.length ss1 ss2 ts1 ts2 u (pr.later hu) (qr.later hu) (pr2.later hu) (qr2.later hu) hss hts rfl hsl rfl htl)
      clear hc1 hc2 hbel hx hy pr qr pr2 qr2 hss hts hsl htl
      generalize ss1.length = m at *
      generalize ts1.length = m2 at *
      go_wp2_with fail
      go_region_held3 (fun u => u.cell? ⟨b1, o1 + k * 4, none⟩ = some (Value.int .i64 id) ∧ u.cell? ⟨b1, o1 + k * 4 + 1, none⟩ = some (Value.bool q) ∧ u.cell? ⟨b1, o1 + k * 4 + 2, none⟩ = some (Value.slice sa1 m sc1) ∧ u.cell? ⟨b1, o1 + k * 4 + 3, none⟩ = some (Value.slice ta1 m2 tc1) ∧ u.cell? ⟨b2, o2 + k * 4, none⟩ = some (Value.int .i64 id) ∧ u.cell? ⟨b2, o2 + k * 4 + 1, none⟩ = some (Value.bool q) ∧ u.cell? ⟨b2, o2 + k * 4 + 2, none⟩ = some (Value.slice sa2 m sc2) ∧ u.cell? ⟨b2, o2 + k * 4 + 3, none⟩ = some (Value.slice ta2 m2 tc2)) (simp [*])
        ((go_at_call 36; refine Calls.mono (HEQ.out _ ?_) ?_; exact (Below.refl _ _).drew; rintro e w1 ⟨rfl, hb1⟩; replace hb1 := kundrew hb1; have k0 := kcell hb1 b1 (o1 + k * 4) l1; have k1 := kcell hb1 b1 (o1 + k * 4 + 1) l1; have k2 := kcell hb1 b1 (o1 + k * 4 + 2) l1; have k3 := kcell hb1 b1 (o1 + k * 4 + 3) l1; have j0 := kcell hb1 b2 (o2 + k * 4) l2; have j1 := kcell hb1 b2 (o2 + k * 4 + 1) l2; have j2 := kcell hb1 b2 (o2 + k * 4 + 2) l2; have j3 := kcell hb1 b2 (o2 + k * 4 + 3) l2))
      go_wp2_with fail
      go_roundw
      case rel => exact ⟨k + 1, by omega, by go_num, HB.out.trans (hb1.mono HB.out.size)⟩
      case measure => simp [intOf]; omega
    · clear hbel
      go_wp2_with fail
      go_ret
      exact ⟨rfl, HB.out⟩

theorem Tryz.infoLit : (Tryz.prog.info? 62).map (fun i => (i.zero, i.size, i.bytes)) = some (some (.agg #[.int .i64 0, .bool false, .slice none 0 0, .slice none 0 0]), 4, 64) := by kernel_rfl

theorem make_lits (n : Nat) (hn : n ≤ 1048576) (kl kc : IntKind) (w : World) :
    (Instr.makeSlice 31 (.int kl (n : Int)) (.int kc (n : Int))).run Tryz.prog w = .ok (.slice (some ⟨w.heap.size, 0, none⟩) n n) (w.alloc (.cells (madeCells #[.int .i64 0, .bool false, .slice none 0 0, .slice none 0 0] (n * 4)) 62)) := by
  obtain ⟨i0, hi, hz0, hz1, hz2⟩ := info_parts Tryz.infoLit
  have := run_make (P := Tryz.prog) w 31 62 i0 _ Tryz.underlying31 hi hz0 kl kc n n (by omega) (Int.le_refl _) (by rw [hz2]; omega) (by omega)
  rw [hz1] at this
  simp only [Int.toNat_natCast] at this
  exact this

/-- A copied literal: its terms lie behind the row. -/
def LgOwn (w : World) (G : Nat) (f : Nat → Value) (j : Nat) (x : Lg) : Prop :=
  (f (j * 4) = .int .i64 x.id ∧ f (j * 4 + 1) = .bool x.eq ∧ f (j * 4 + 2) = .slice x.sa x.ss.length x.sc ∧ f (j * 4 + 3) = .slice x.ta x.ts.length x.tc) ∧ (RdT w x.sa x.ss ∧ FarT (G + 1) x.sa x.ss) ∧ RdT w x.ta x.ts ∧ FarT (G + 1) x.ta x.ts

theorem LgOwn.later {w w' : World} {G j : Nat} {f : Nat → Value} {x : Lg} (h : LgOwn w G f j x) (hb : Below w.heap.size w w') : LgOwn w' G f j x := ⟨h.1, ⟨h.2.1.1.later hb, h.2.1.2⟩, h.2.2.1.later hb, h.2.2.2⟩

theorem LgOwn.row {w : World} {G j k : Nat} {f f' : Nat → Value} {x : Lg} (h : LgOwn w G f j x) (hf : ∀ i, i < k * 4 → f' i = f i) (hk : j < k) : LgOwn w G f' j x := by
  obtain ⟨⟨h0, h1, h2, h3⟩, h4⟩ := h
  exact ⟨⟨by rw [hf _ (by omega)]; exact h0, by rw [hf _ (by omega)]; exact h1, by rw [hf _ (by omega)]; exact h2, by rw [hf _ (by omega)]; exact h3⟩, h4⟩

theorem LgOwn.set {w : World} {G j : Nat} {f : Nat → Value} {x : Lg} (h : LgOwn w G f j x) (o : Nat) (v : Value) : LgOwn (w.setCell ⟨G, o, none⟩ v) G f j x := ⟨h.1, ⟨h.2.1.1.set h.2.1.2 (by simp) v, h.2.1.2⟩, h.2.2.1.set h.2.2.2 (by simp) v, h.2.2.2⟩

/-- Literals that lie from a block on. -/
def FarL (B : Nat) (a : Option Addr) (xs : List Lg) : Prop := (∀ b o sp, a = some ⟨b, o, sp⟩ → B ≤ b) ∧ ∀ x ∈ xs, FarT B x.sa x.ss ∧ FarT B x.ta x.ts
theorem FarL.mono {B B' : Nat} {a : Option Addr} {xs : List Lg} (h : FarL B a xs) (hB : B' ≤ B) : FarL B' a xs := ⟨fun b o sp e => Nat.le_trans hB (h.1 b o sp e), fun x hx => ⟨(h.2 x hx).1.mono hB, (h.2 x hx).2.mono hB⟩⟩
theorem RdL.set {w : World} {a : Option Addr} {xs : List Lg} (h : RdL w a xs) {B : Nat} (hf : FarL B a xs) {p : Addr} (hp : p.block < B) (v : Value) : RdL (w.setCell p v) a xs := by
  refine ⟨h.1, ?_⟩
  rcases h.2 with h3 | ⟨b, o, rfl, hc⟩
  · exact .inl h3
  · have := hf.1 b o none rfl
    refine .inr ⟨b, o, rfl, fun i n hi => ?_⟩
    obtain ⟨⟨c0, c1, c2, c3⟩, r1, r2, r3⟩ := hc i n hi
    have hn := hf.2 n (List.mem_of_getElem? hi)
    exact ⟨⟨ksetT c0 (by simp; omega), ksetT c1 (by simp; omega), ksetT c2 (by simp; omega), ksetT c3 (by simp; omega)⟩, r1.set hn.1 hp v, r2.set hn.2 hp v, r3⟩

set_option maxHeartbeats 1000000 in
theorem toLiteralS_far (a : Option Addr) (c : Nat) (xs : List Lg) (w : World) (hr : RdL w a xs) :
    Calls Tryz.prog 9 #[.slice a xs.length c] w fun e w' => ∃ ms : List Lg, e = .returned (.slice (some ⟨w.heap.size, 0, none⟩) xs.length xs.length) ∧ ms.map Lg.ct = xs.map Lg.ct ∧ RdL w' (some ⟨w.heap.size, 0, none⟩) ms ∧ FarL w.heap.size (some ⟨w.heap.size, 0, none⟩) ms ∧ Below w.heap.size w w' := by
  have hlen := hr.1
  have hmk := make_lits xs.length hlen
  go_enter Tryz.func9, Tryz.ntmps9
  go_wp2_with fail
  have hrow := krow (heap_alloc_new w (.cells (madeCells #[.int .i64 0, .bool false, .slice none 0 0, .slice none 0 0] (xs.length * 4)) 62))
  rw [size_madeCells] at hrow
  have hb0 : Below w.heap.size w (w.alloc (.cells (madeCells #[.int .i64 0, .bool false, .slice none 0 0, .slice none 0 0] (xs.length * 4)) 62)) := (Below.refl _ _).alloc (Nat.le_refl _) _
  have hs0 : w.heap.size < (w.alloc (.cells (madeCells #[.int .i64 0, .bool false, .slice none 0 0, .slice none 0 0] (xs.length * 4)) 62)).heap.size := by simp
  generalize (w.alloc (.cells (madeCells #[.int .i64 0, .bool false, .slice none 0 0, .slice none 0 0] (xs.length * 4)) 62)) = w0 at *
  go_loopw [4] (fun i wr => ∃ (k : Nat) (f : Nat → Value) (ms : List Lg), k ≤ xs.length ∧ i = .int .i64 k ∧ wr.rowIs w.heap.size 62 (xs.length * 4) f ∧ ms.length = k ∧ ms.map Lg.ct = (xs.take k).map Lg.ct ∧ (∀ j x, ms[j]? = some x → LgOwn wr w.heap.size f j x) ∧ Below w.heap.size w wr ∧ w.heap.size < wr.heap.size) (fun i _ => xs.length - (intOf i).toNat)
  case atStart => exact ⟨0, _, [], Nat.zero_le _, rfl, hrow, rfl, rfl, fun j x h => by simp at h, hb0, hs0⟩
  case round =>
    obtain ⟨k, f, ms, hk, rfl, hrw, hml, hmc, hms, hbel, hsz⟩ := hrel
    clear hrow hb0 hs0
    by_cases hlt : k < xs.length
    · obtain ⟨-, h | ⟨b, o, rfl, hc⟩⟩ := hr
      · subst h; simp at hlt
      obtain ⟨⟨id, q, ss, sa, sc, ts, ta, tc⟩, hx⟩ : ∃ x, xs[k] = x := ⟨_, rfl⟩
      have gx : xs[k]? = some ⟨id, q, ss, sa, sc, ts, ta, tc⟩ := by rw [List.getElem?_eq_getElem hlt, hx]
      obtain ⟨⟨p0, p1, p2, p3⟩, pr, pr2, -⟩ := (hc k _ gx).later hbel
      simp only [] at p0 p1 p2 p3 pr pr2
      clear hx
      have HTO := kide (toLiteral_far ⟨id, q, ss, sa, sc, ts, ta, tc⟩ wr pr pr2)
      simp only [Lg.val] at HTO
      have GX : Hid _ := gx
      have HML : Hid _ := hml
      have HMC : Hid _ := hmc
      have HMS : Hid _ := hms
      have HR : Hid _ := hrw
      have HB : Hid _ := hbel
      have i0 : (k : Int) < (xs.length : Int) := by omega
      clear gx hml hmc hms hc hrw hbel hmk pr pr2
      generalize hsl : ss.length = sl at *
      generalize htl : ts.length = tl at *
      clear hsl htl
      go_wp2_with fail
      refine Calls.mono HTO.out ?_
      rintro e w1 ⟨y, rfl, hct, hrd1, hfar1, hrd2, hfar2, hb1⟩
      have HCT := kide hct
      have HD1 := kide hrd1
      have HF1 := kide hfar1
      have HD2 := kide hrd2
      have HF2 := kide hfar2
      have HB1 := kide hb1
      have hr1 := World.rowIs.of_block HR.out (hb1.block _ hsz)
      obtain ⟨yid, yq, yss, ysa, ysc, yts, yta, ytc⟩ := y
      simp only [] at HCT HD1 HF1 HD2 HF2 ⊢
      have q0 := hr1.cell (i := k * 4) (by omega)
      have q1 := hr1.cell (i := k * 4 + 1) (by omega)
      have q2 := hr1.cell (i := k * 4 + 2) (by omega)
      have q3 := hr1.cell (i := k * 4 + 3) (by omega)
      have r0 := hr1.frozen (k * 4)
      have r1 := hr1.frozen (k * 4 + 1)
      have r2 := hr1.frozen (k * 4 + 2)
      have r3 := hr1.frozen (k * 4 + 3)
      have HR1 : Hid _ := hr1
      clear hr1 hct hrd1 hfar1 hrd2 hfar2 hb1
      go_wp2_with fail
      go_roundw
      case rel =>
        have hl := HML.out
        refine ⟨k + 1, _, ms ++ [⟨yid, yq, yss, ysa, ysc, yts, yta, ytc⟩], by omega, by go_num, World.rowIs.set (World.rowIs.set (World.rowIs.set (World.rowIs.set HR1.out (k * 4) (.int .i64 yid)) (k * 4 + 1) (.bool yq)) (k * 4 + 2) (.slice ysa yss.length ysc)) (k * 4 + 3) (.slice yta yts.length ytc), by simp [hl], ?_, fun j x hj => ?_, ?_, ?_⟩
        · have h := HMC.out
          rw [List.map_append, h, List.take_add_one, GX.out, List.map_append]
          simp only [List.map_cons, List.map_nil, Option.toList_some]
          rw [HCT.out]
        · rw [List.getElem?_append] at hj
          split at hj
          · refine (((((HMS.out j x hj).later HB1.out).set _ _).set _ _).set _ _).set _ _ |>.row (k := k) (fun i hi => ?_) (by omega)
            show (if _ then _ else _) = _
            rw [if_neg (by omega), if_neg (by omega), if_neg (by omega), if_neg (by omega)]
          · have hj2 : j - ms.length = 0 := by
              have := (List.getElem?_eq_some_iff.1 hj).1
              simp at this; exact this
            rw [hj2] at hj
            simp at hj
            subst hj
            have hjk : j = k := by omega
            subst hjk
            have hF : FarT (w.heap.size + 1) ysa yss := HF1.out.mono (by omega)
            have hF2 : FarT (w.heap.size + 1) yta yts := HF2.out.mono (by omega)
            exact ⟨⟨by simp, by simp, by simp, by simp⟩, ⟨(((HD1.out.set hF (by simp) _).set hF (by simp) _).set hF (by simp) _).set hF (by simp) _, hF⟩, (((HD2.out.set hF2 (by simp) _).set hF2 (by simp) _).set hF2 (by simp) _).set hF2 (by simp) _, hF2⟩
        · exact ((((HB.out.trans (HB1.out.mono HB.out.size)).setCell (Nat.le_refl _) _).setCell (Nat.le_refl _) _).setCell (Nat.le_refl _) _).setCell (Nat.le_refl _) _
        · have := HB1.out.size
          simp; omega
      case measure => simp [intOf]; omega
    · have e : k = xs.length := by omega
      have HM : Hid _ := hml
      have HC : Hid _ := hmc
      have HS : Hid _ := hms
      have HR : Hid _ := hrw
      have HB : Hid _ := hbel
      have HE : Hid _ := e
      clear hml hmc hms hrw hbel e hmk
      go_wp2_with fail
      go_ret
      refine ⟨ms, rfl, ?_, ⟨by rw [HM.out]; omega, .inr ⟨_, 0, rfl, fun i x hi => ?_⟩⟩, ⟨fun b o sp e => by cases e; exact Nat.le_refl _, fun x hx => ?_⟩, HB.out⟩
      · have h := HC.out
        rw [HE.out, List.take_length] at h
        exact h
      · obtain ⟨⟨h0, h1, h2, h3⟩, h4, h5⟩ := HS.out i x hi
        have hik : i < k := by have := (List.getElem?_eq_some_iff.1 hi).1; rw [HM.out] at this; exact this
        have hct : ∃ y, xs[i]? = some y ∧ y.ct = x.ct := by
          have h := HC.out
          rw [HE.out, List.take_length] at h
          have h' : (ms.map Lg.ct)[i]? = (xs.map Lg.ct)[i]? := by rw [h]
          rw [List.getElem?_map, List.getElem?_map, hi, Option.map_some] at h'
          cases hy : xs[i]? with
          | none => rw [hy] at h'; cases h'
          | some y => rw [hy] at h'; simp at h'; exact ⟨y, rfl, h'.symm⟩
        obtain ⟨y, hy, hyx⟩ := hct
        obtain ⟨-, hn | ⟨b, o, -, hc⟩⟩ := hr
        · subst hn; simp at hy
        obtain ⟨-, -, -, l3⟩ := hc i y hy
        have e1 : y.id = x.id := congrArg Lc.id hyx
        rw [e1] at l3
        refine ⟨⟨?_, ?_, ?_, ?_⟩, h4.1, h5.1, l3⟩
        · rw [Nat.zero_add]; exact (World.rowIs.cell HR.out (by omega)).trans (congrArg some h0)
        · rw [Nat.zero_add]; exact (World.rowIs.cell HR.out (by omega)).trans (congrArg some h1)
        · rw [Nat.zero_add]; exact (World.rowIs.cell HR.out (by omega)).trans (congrArg some h2)
        · rw [Nat.zero_add]; exact (World.rowIs.cell HR.out (by omega)).trans (congrArg some h3)
      · obtain ⟨i, hi⟩ := List.getElem?_of_mem hx
        obtain ⟨-, ⟨-, h4⟩, -, h5⟩ := HS.out i x hi
        exact ⟨h4.mono (Nat.le_succ _), h5.mono (Nat.le_succ _)⟩

theorem toLiteralS_any (a : Option Addr) (c : Nat) (xs : List Lg) (w : World) (hr : RdL w a xs) :
    Calls Tryz.prog 9 #[.slice a xs.length c] w fun e w' => ∃ ms : List Lg, e = .returned (.slice (some ⟨w.heap.size, 0, none⟩) xs.length xs.length) ∧ ms.map Lg.ct = xs.map Lg.ct ∧ RdL w' (some ⟨w.heap.size, 0, none⟩) ms ∧ Below w.heap.size w w' :=
  (toLiteralS_far a c xs w hr).mono fun e w' ⟨ms, h1, h2, h3, _, h5⟩ => ⟨ms, h1, h2, h3, h5⟩

end Go.Proofs.YtheglnkndjheaaaGreatDoor

/- Owned rows of literals: one more, or a whole row more. -/
namespace Go.Proofs.YtheglnkndjheaaaGreatDoor
set_option linter.unusedVariables false
set_option linter.unusedSimpArgs false
open Go.RowKit

/-- The cells of literals. -/
def lgc : List Lg → List Value
  | [] => []
  | x :: t => .int .i64 x.id :: .bool x.eq :: .slice x.sa x.ss.length x.sc :: .slice x.ta x.ts.length x.tc :: lgc t
theorem lgc_len (l : List Lg) : (lgc l).length = l.length * 4 := by
  induction l with
  | nil => rfl
  | cons x t ih => simp [lgc, ih]; omega
theorem lgc_append (xs ys : List Lg) : lgc (xs ++ ys) = lgc xs ++ lgc ys := by
  induction xs with
  | nil => rfl
  | cons x t ih => simp [lgc, ih]
theorem lgc_get : ∀ {l : List Lg} {i : Nat} {x : Lg}, l[i]? = some x → (lgc l)[i * 4]? = some (.int .i64 x.id) ∧ (lgc l)[i * 4 + 1]? = some (.bool x.eq) ∧ (lgc l)[i * 4 + 2]? = some (.slice x.sa x.ss.length x.sc) ∧ (lgc l)[i * 4 + 3]? = some (.slice x.ta x.ts.length x.tc)
  | y :: t, 0, x, h => by simp at h; subst h; simp [lgc]
  | y :: t, i + 1, x, h => by
    have := lgc_get (l := t) (i := i) (x := x) (by simpa using h)
    rw [show (i + 1) * 4 = i * 4 + 1 + 1 + 1 + 1 by omega]
    simpa [lgc] using this

/-- An owned row of literals. -/
def OL4 (w : World) (B : Nat) (v : Value) (l : List Lg) : Prop := w.ownsRow B 62 4 v l.length (lgc l)

theorem OL4.later {w w' : World} {B : Nat} {v : Value} {l : List Lg} (h : OL4 w B v l) (hb : Below w.heap.size w w') : OL4 w' B v l := World.ownsRow.kept (row := none) h ⟨hb.os, hb.tape, hb.output, hb.size, fun k hk _ => hb.block k hk⟩ (by
  cases h' : v.ownBlock with
  | none => exact .inl rfl
  | some k => exact .inr (by simp))
theorem OL4.lt {w : World} {B : Nat} {v : Value} {l : List Lg} (h : OL4 w B v l) {b : Nat} (hb : v.ownBlock = some b) : B ≤ b ∧ b < w.heap.size := by
  rcases h.2 with ⟨rfl, -⟩ | ⟨g, cap, cur, rfl, hg, hh, -⟩
  · cases hb
  · cases hb
    exact ⟨hg, lt_of_block hh⟩
theorem OL4.nil (w : World) (B : Nat) : OL4 w B (.slice none 0 0) [] := ⟨rfl, .inl ⟨rfl, rfl⟩⟩

/-- What can be read of it. -/
theorem OL4.rd {w : World} {B : Nat} {v : Value} {l : List Lg} (h : OL4 w B v l) (hl : l.length ≤ 1048576) (hx : ∀ x ∈ l, RdT w x.sa x.ss ∧ RdT w x.ta x.ts ∧ in64 x.id) : ∃ a c, v = .slice a l.length c ∧ RdL w a l := by
  rcases h.2 with ⟨rfl, h0⟩ | ⟨g, cap, cur, rfl, hg, hh, hc1, hc2, hsz, hcur⟩
  · have e := List.eq_nil_of_length_eq_zero h0
    subst e
    exact ⟨none, 0, rfl, by simp, .inl rfl⟩
  · refine ⟨some ⟨g, 0, none⟩, cap, rfl, hl, .inr ⟨g, 0, rfl, fun i x hi => ?_⟩⟩
    obtain ⟨e0, e1, e2, e3⟩ := lgc_get hi
    have hil := (List.getElem?_eq_some_iff.1 hi).1
    rw [← hcur] at e0 e1 e2 e3
    rw [List.getElem?_take, if_pos (by omega)] at e0 e1 e2 e3
    simp only [Array.getElem?_toList] at e0 e1 e2 e3
    exact ⟨⟨by rw [Nat.zero_add, cell_of_row w g _ cur _ _ hh]; exact e0, by rw [Nat.zero_add, cell_of_row w g _ cur _ _ hh]; exact e1, by rw [Nat.zero_add, cell_of_row w g _ cur _ _ hh]; exact e2, by rw [Nat.zero_add, cell_of_row w g _ cur _ _ hh]; exact e3⟩, hx x (List.mem_of_getElem? hi)⟩

theorem wpList_appL4 {w : World} {ops : Array Oper} {rest : List Oper} {o : Oper} {a : Act} {Q : Exit → Act → World → Prop} (hgd : o.guard = none) (s x : Operand)
    (ho : o.op = .call { callee := .builtin .append, args := #[s, x], argTypes := #[31, 31] })
    (B : Nat) (v : Value) (l : List Lg) (y : Lg) (hs : a.eval s = v) (hown : OL4 w B v l) (gx : Nat) (hx : a.eval x = .slice (some ⟨gx, 0, none⟩) 1 1)
    (h0 : w.cell? ⟨gx, 0, none⟩ = some (.int .i64 y.id)) (h1 : w.cell? ⟨gx, 1, none⟩ = some (.bool y.eq)) (h2 : w.cell? ⟨gx, 2, none⟩ = some (.slice y.sa y.ss.length y.sc)) (h3 : w.cell? ⟨gx, 3, none⟩ = some (.slice y.ta y.ts.length y.tc)) (hl : l.length ≤ 1073741824) (hB : B ≤ w.heap.size)
    (h : ∀ v' w', OL4 w' B v' (l ++ [y]) → w.grownBy w' v.ownBlock → wpList Tryz.prog ops Q rest (a.put o.dst v') w') : wpList Tryz.prog ops Q (o :: rest) a w := by
  obtain ⟨i0, hi, hz0, hz1, hz2⟩ := info_parts Tryz.infoLit
  refine wpList_append_own_at w hgd s x 31 ho B 62 i0 _ 4 64 Tryz.underlying31 hi hz0 hz1 hz2 rfl (by decide) v l.length (lgc l) hs hown ⟨gx, 0, none⟩ 1 1 (lgc [y]) hx rfl ?_ ?_ (by unfold maxLen; omega) (by omega) hB ?_
  · intro j u hj
    rw [Addr.add_lit]
    match j, hj with
    | 0, hj => simp [lgc] at hj; subst hj; exact h0
    | 1, hj => simp [lgc] at hj; subst hj; exact h1
    | 2, hj => simp [lgc] at hj; subst hj; exact h2
    | 3, hj => simp [lgc] at hj; subst hj; exact h3
    | j + 4, hj => simp [lgc] at hj
  · intro u hu
    simp [lgc] at hu
    rcases hu with rfl | rfl | rfl | rfl <;> rfl
  · intro v' w' h1 h2 _ _
    refine h v' w' ?_ h2
    unfold OL4
    rw [lgc_append, List.length_append]
    exact h1

/-- What stands in the cells of literals. -/
theorem lgc_at {ys : List Lg} {j : Nat} {u : Value} (h : (lgc ys)[j]? = some u) : ∃ i x, ys[i]? = some x ∧ (j = i * 4 ∧ u = .int .i64 x.id ∨ j = i * 4 + 1 ∧ u = .bool x.eq ∨ j = i * 4 + 2 ∧ u = .slice x.sa x.ss.length x.sc ∨ j = i * 4 + 3 ∧ u = .slice x.ta x.ts.length x.tc) := by
  have hj := (List.getElem?_eq_some_iff.1 h).1
  rw [lgc_len] at hj
  have hi : j / 4 < ys.length := by omega
  refine ⟨j / 4, ys[j / 4], List.getElem?_eq_getElem hi, ?_⟩
  obtain ⟨e0, e1, e2, e3⟩ := lgc_get (List.getElem?_eq_getElem hi)
  have hr : j = j / 4 * 4 ∨ j = j / 4 * 4 + 1 ∨ j = j / 4 * 4 + 2 ∨ j = j / 4 * 4 + 3 := by omega
  rcases hr with hr | hr | hr | hr
  · rw [← hr, h] at e0; cases e0; exact .inl ⟨hr, rfl⟩
  · rw [← hr, h] at e1; cases e1; exact .inr (.inl ⟨hr, rfl⟩)
  · rw [← hr, h] at e2; cases e2; exact .inr (.inr (.inl ⟨hr, rfl⟩))
  · rw [← hr, h] at e3; cases e3; exact .inr (.inr (.inr ⟨hr, rfl⟩))

theorem rdL_cells {w : World} {ad : Addr} {ys : List Lg} (hr : RdL w (some ad) ys) : ∀ j u, (lgc ys)[j]? = some u → w.cell? (ad.add j) = some u := by
  intro j u hj
  obtain ⟨i, x, hx, hu⟩ := lgc_at hj
  obtain ⟨-, h | ⟨b, o, e, hc⟩⟩ := hr
  · subst h; simp at hx
  · cases e
    obtain ⟨⟨c0, c1, c2, c3⟩, -⟩ := hc i x hx
    rw [Addr.add_lit]
    rcases hu with ⟨rfl, rfl⟩ | ⟨rfl, rfl⟩ | ⟨rfl, rfl⟩ | ⟨rfl, rfl⟩
    · exact c0
    · exact c1
    · exact c2
    · exact c3

theorem wpList_appLs {w : World} {ops : Array Oper} {rest : List Oper} {o : Oper} {a : Act} {Q : Exit → Act → World → Prop} (hgd : o.guard = none) (s x : Operand)
    (ho : o.op = .call { callee := .builtin .append, args := #[s, x], argTypes := #[31, 31] })
    (B : Nat) (v : Value) (l ys : List Lg) (hs : a.eval s = v) (hown : OL4 w B v l) (ad : Addr) (c n : Nat) (hn : ys.length = n) (hx : a.eval x = .slice (some ad) n c)
    (hr : RdL w (some ad) ys) (hl : l.length + n ≤ 1073741824) (hB : B ≤ w.heap.size)
    (h : ∀ v' w', OL4 w' B v' (l ++ ys) → w.grownBy w' v.ownBlock → wpList Tryz.prog ops Q rest (a.put o.dst v') w') : wpList Tryz.prog ops Q (o :: rest) a w := by
  obtain ⟨i0, hi, hz0, hz1, hz2⟩ := info_parts Tryz.infoLit
  subst hn
  refine wpList_append_own_at w hgd s x 31 ho B 62 i0 _ 4 64 Tryz.underlying31 hi hz0 hz1 hz2 rfl (by decide) v l.length (lgc l) hs hown ad ys.length c (lgc ys) hx (lgc_len ys) (rdL_cells hr) ?_ (by unfold maxLen; omega) (by omega) hB ?_
  · intro u hu
    obtain ⟨j, hj⟩ := List.getElem?_of_mem hu
    obtain ⟨i, x, -, h⟩ := lgc_at hj
    rcases h with ⟨-, rfl⟩ | ⟨-, rfl⟩ | ⟨-, rfl⟩ | ⟨-, rfl⟩ <;> rfl
  · intro v' w' h1 h2 _ _
    refine h v' w' ?_ h2
    unfold OL4
    rw [lgc_append, List.length_append]
    exact h1

end Go.Proofs.YtheglnkndjheaaaGreatDoor
