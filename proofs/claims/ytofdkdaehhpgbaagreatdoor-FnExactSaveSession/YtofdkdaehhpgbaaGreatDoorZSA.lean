/- Several texts in one. -/
import Derived.Test.YtofdkdaehhpgbaaGreatDoorZIA
import Derived.Test.YtofdkdaehhpgbaaGreatDoorZIE
import Derived.Handy

/- Contracts of the laws' own small functions on rows of scopes and on sessions: how long. -/
namespace Go.Proofs.YtofdkdaehhpgbaaGreatDoor
set_option linter.unusedVariables false
set_option linter.unusedSimpArgs false
open Go.RowKit

/-- A scope as it lies, with its literals as they lie. -/
structure Sh where
  d : Int
  la : Option Addr
  ln : Nat
  lc : Nat
  lh : List Lh

def Sh.val (h : Sh) : Value := .agg #[.int .i64 h.d, .slice h.la h.ln h.lc]

def ShAt (w : World) (b o : Nat) (h : Sh) : Prop :=
  w.cell? ⟨b, o, none⟩ = some (.int .i64 h.d) ∧ w.cell? ⟨b, o + 1, none⟩ = some (.slice h.la h.ln h.lc)

theorem ShAt.later {w w' : World} {b o : Nat} {h : Sh} (k : ShAt w b o h) (hb : Below w.heap.size w w') : ShAt w' b o h := by
  obtain ⟨f0, f1⟩ := k
  have l := block_lt_of_cell f0
  exact ⟨by rw [kcell hb _ _ l]; exact f0, by rw [kcell hb _ _ l]; exact f1⟩

/-- A row of literals lies as told. -/
def LsOk (w : World) (a : Option Addr) (n : Nat) (hs : List Lh) : Prop := n ≤ 9223372036854775807 ∧ (n ≤ 1048576 → hs.length = n ∧ RdLh w a hs)
theorem LsOk.later {w w' : World} {a : Option Addr} {n : Nat} {hs : List Lh} (k : LsOk w a n hs) (hb : Below w.heap.size w w') : LsOk w' a n hs := ⟨k.1, fun hn => ⟨(k.2 hn).1, (k.2 hn).2.later hb⟩⟩

def RdSh (w : World) (a : Option Addr) (hs : List Sh) : Prop :=
  hs.length ≤ 1048576 ∧ (hs = [] ∨ ∃ b o, a = some ⟨b, o, none⟩ ∧ ∀ i h, hs[i]? = some h → ShAt w b (o + i * 2) h ∧ LsOk w h.la h.ln h.lh)

theorem RdSh.later {w w' : World} {a : Option Addr} {hs : List Sh} (h : RdSh w a hs) (hb : Below w.heap.size w w') : RdSh w' a hs := by
  refine ⟨h.1, ?_⟩
  rcases h.2 with h | ⟨b, o, rfl, hc⟩
  · exact .inl h
  · exact .inr ⟨b, o, rfl, fun i x hi => ⟨(hc i x hi).1.later hb, (hc i x hi).2.later hb⟩⟩

def szLs (n : Nat) (hs : List Lh) (L : Int) : Int := if (n : Int) ≤ L then szLl hs (L - n) else -1

theorem szLs_range (n : Nat) (hs : List Lh) (L : Int) (hL : 0 ≤ L) : szLs n hs L = -1 ∨ 0 ≤ szLs n hs L ∧ szLs n hs L ≤ L := by
  unfold szLs
  split
  · rcases szLl_range hs (L - n) (by omega) with e | ⟨e1, e2⟩
    · exact .inl e
    · exact .inr ⟨e1, by omega⟩
  · exact .inl rfl

theorem szLits_any (a : Option Addr) (n c : Nat) (hs : List Lh) (L : Int) (w : World) (hL : 0 ≤ L) (hL2 : L ≤ 1048576) (hk : LsOk w a n hs) :
    Calls Tryz.prog 75 #[.slice a n c, .int .i64 L] w fun e w' => e = .returned (.int .i64 (szLs n hs L)) ∧ Below w.heap.size w w' := by
  by_cases hn : (n : Int) ≤ L
  · obtain ⟨e1, e2⟩ := hk.2 (by omega)
    have := szLiteralS_in a c hs L w e2 hL hL2 (by omega)
    rw [e1] at this
    rw [szLs, if_pos hn]
    exact this
  · rw [szLs, if_neg hn]
    exact (szLiteralS_out a n c L w hL hL2 hk.1 hn).mono fun e w' h => ⟨h.1, by rw [h.2]; exact Below.refl _ _⟩

theorem szScope_any (h : Sh) (L : Int) (w : World) (hL : 0 ≤ L) (hL2 : L ≤ 1048576) (hs : LsOk w h.la h.ln h.lh) :
    Calls Tryz.prog 43 #[h.val, .int .i64 L] w fun e w' => e = .returned (.int .i64 (szLs h.ln h.lh L)) ∧ Below w.heap.size w w' := by
  have r1 := szLs_range h.ln h.lh L hL
  have HA := kide (fun u (hu : Below w.heap.size w u) => szLits_any h.la h.ln h.lc h.lh L u hL hL2 (hs.later hu))
  generalize szLs h.ln h.lh L = Q at *
  obtain ⟨d, la, ln, lc, lh⟩ := h
  simp only [Sh.val] at HA ⊢
  have s0 := St.start w (.cells #[Value.int .i64 d, Value.slice la ln lc] 83)
  clear hs
  rcases r1 with rfl | ⟨h1, h2⟩
  all_goals
    go_enter Tryz.func43, Tryz.ntmps43
    go_wp2_with fail
    refine Calls.mono (HA.out _ s0.below) ?_
    rintro e w1 ⟨rfl, hb1⟩
    have s1 := s0.next hb1
    go_wp2_with fail
    go_ret
    exact ⟨rfl, s1.below⟩

/-- What is left of L behind some scopes; -1: nothing. -/
def szSl : List Sh → Int → Int
  | [], L => L
  | h :: t, L => if 0 ≤ szLs h.ln h.lh L then szSl t (szLs h.ln h.lh L) else -1

theorem szSl_range (hs : List Sh) (L : Int) (hL : 0 ≤ L) : szSl hs L = -1 ∨ 0 ≤ szSl hs L ∧ szSl hs L ≤ L := by
  induction hs generalizing L with
  | nil => right; simp [szSl]; exact hL
  | cons h t ih =>
    rw [szSl]
    split
    · rename_i hc
      have := szLs_range h.ln h.lh L hL
      rcases ih (szLs h.ln h.lh L) hc with e | ⟨e1, e2⟩
      · left; exact e
      · right; exact ⟨e1, by omega⟩
    · left; rfl

theorem szLs_sum (n : Nat) (hs : List Lh) (L : Int) (hL : 0 ≤ L) (hz : 0 ≤ szLs n hs L) : szLs n hs L ≤ L - n := by
  unfold szLs at hz ⊢
  split
  · rename_i h
    rcases szLl_range hs (L - n) (by omega) with e | ⟨e1, e2⟩
    · omega
    · omega
  · rename_i h
    rw [if_neg h] at hz
    omega

/-- All literals together are no more than there is room for. -/
theorem szSl_sum (hs : List Sh) (L : Int) (hL : 0 ≤ L) (hz : 0 ≤ szSl hs L) : ((hs.map Sh.ln).sum : Int) ≤ L := by
  induction hs generalizing L with
  | nil => simpa using hL
  | cons h t ih =>
    rw [szSl] at hz
    split at hz
    · rename_i hc
      have h1 := szLs_sum h.ln h.lh L hL hc
      have h2 := ih _ hc hz
      simp only [List.map_cons, List.sum_cons]
      omega
    · omega

/-- Each scope is short enough where all are. -/
theorem szSl_each (hs : List Sh) (L : Int) (hL : 0 ≤ L) (hz : 0 ≤ szSl hs L) : ∀ h ∈ hs, ∃ Q : Int, 0 ≤ Q ∧ Q ≤ L ∧ 0 ≤ szLs h.ln h.lh Q := by
  induction hs generalizing L with
  | nil => simp
  | cons h t ih =>
    rw [szSl] at hz
    split at hz
    · rename_i hc
      have hr := szLs_range h.ln h.lh L hL
      intro x hx
      rcases List.mem_cons.1 hx with rfl | hx
      · exact ⟨L, hL, Int.le_refl _, hc⟩
      · obtain ⟨Q, h1, h2, h3⟩ := ih (szLs h.ln h.lh L) hc hz x hx
        exact ⟨Q, h1, by omega, h3⟩
    · omega

theorem szScopeS_in (a : Option Addr) (c : Nat) (hs : List Sh) (L : Int) (w : World) (hr : RdSh w a hs) (hL : 0 ≤ L) (hL2 : L ≤ 1048576) (h : (hs.length : Int) ≤ L) :
    Calls Tryz.prog 18 #[.slice a hs.length c, .int .i64 L] w fun e w' => e = .returned (.int .i64 (szSl hs (L - hs.length))) ∧ Below w.heap.size w w' := by
  have hlen := hr.1
  generalize hZ : szSl hs (L - hs.length) = Z
  have HZ : Hid (szSl hs (L - hs.length) = Z) := hZ
  clear hZ
  go_enter Tryz.func18, Tryz.ntmps18
  go_wp2_with fail
  go_loopw [1, 5] (fun l i wr => ∃ (k : Nat) (Q : Int), k ≤ hs.length ∧ i = .int .i64 k ∧ l = .int .i64 Q ∧ 0 ≤ Q ∧ Q ≤ 1048576 ∧ szSl (hs.drop k) Q = Z ∧ Below w.heap.size w wr) (fun _ i _ => hs.length - (intOf i).toNat)
  case atStart => exact ⟨0, _, Nat.zero_le _, rfl, rfl, by omega, by omega, by rw [List.drop_zero]; exact HZ.out, Below.refl _ _⟩
  case round =>
    obtain ⟨k, Q, hk, rfl, rfl, hQ0, hQ1, hq, hbel⟩ := hrel
    by_cases hlt : k < hs.length
    · obtain ⟨-, h | ⟨b, o, rfl, hc⟩⟩ := hr
      · subst h; simp at hlt
      obtain ⟨x, hh⟩ : ∃ x, hs[k] = x := ⟨_, rfl⟩
      obtain ⟨f1, f2⟩ := hc k x (by rw [List.getElem?_eq_getElem hlt, hh])
      obtain ⟨g0, g1⟩ := f1.later hbel
      have HCA := kide (szScope_any x Q wr hQ0 hQ1 (f2.later hbel))
      have hrr := szLs_range x.ln x.lh Q hQ0
      rw [List.drop_eq_getElem_cons hlt, hh, szSl] at hq
      generalize szLs x.ln x.lh Q = R at *
      obtain ⟨d, la, ln, lc, lh⟩ := x
      simp only [Sh.val] at g0 g1 HCA
      have HQ : Hid _ := hq
      have HB : Hid _ := hbel
      clear hc hh f1 f2 hbel hq
      rcases hrr with rfl | ⟨hR0, hR1⟩
      · go_wp2_with (go_at_call 43; refine Calls.mono HCA.out ?_; rintro e w1 ⟨rfl, hb1⟩)
        go_ret
        have h := HQ.out
        rw [if_neg (by omega)] at h
        exact ⟨ret_int h, HB.out.trans (hb1.mono HB.out.size)⟩
      · go_wp2_with (go_at_call 43; refine Calls.mono HCA.out ?_; rintro e w1 ⟨rfl, hb1⟩)
        go_roundw
        case rel =>
          have h := HQ.out
          rw [if_pos hR0] at h
          exact ⟨k + 1, _, by omega, by go_num, rfl, by omega, by omega, h, HB.out.trans (hb1.mono HB.out.size)⟩
        case measure => simp [intOf]; omega
    · have e : k = hs.length := by omega
      rw [e, List.drop_length, szSl] at hq
      have HQ : Hid _ := hq
      clear hq
      go_wp2_with fail
      go_ret
      exact ⟨ret_int HQ.out, hbel⟩

theorem szScopeS_out (a : Option Addr) (n c : Nat) (L : Int) (w : World) (hL : 0 ≤ L) (hL2 : L ≤ 1048576) (hn : n ≤ 9223372036854775807) (h : ¬ (n : Int) ≤ L) :
    Calls Tryz.prog 18 #[.slice a n c, .int .i64 L] w fun e w' => e = .returned (.int .i64 (-1)) ∧ w' = w := by
  go_enter Tryz.func18, Tryz.ntmps18
  go_wp2_with fail
  go_ret
  exact ⟨rfl, rfl⟩

/-- The law's own size of a session: by its two rows'. -/
theorem szSession_any (da sa : Option Addr) (dn dc sn sc : Nat) (nx Z Z2 : Int) (w : World)
    (H1 : ∀ u, Below w.heap.size w u → Calls Tryz.prog 17 #[.slice da dn dc, .int .i64 1048576] u fun e w' => e = .returned (.int .i64 Z) ∧ Below u.heap.size u w')
    (H2 : 0 ≤ Z → ∀ u, Below w.heap.size w u → Calls Tryz.prog 18 #[.slice sa sn sc, .int .i64 Z] u fun e w' => e = .returned (.int .i64 Z2) ∧ Below u.heap.size u w') (r1 : Z = -1 ∨ 0 ≤ Z) (r2 : Z2 = -1 ∨ 0 ≤ Z2) :
    Calls Tryz.prog 5 #[.agg #[.slice da dn dc, .slice sa sn sc, .int .i64 nx], .int .i64 1048576] w fun e w' => e = .returned (.int .i64 (if 0 ≤ Z then Z2 else -1)) ∧ Below w.heap.size w w' := by
  have HA := kide H1
  have HB := kide H2
  clear H1 H2
  have s0 := St.start w (.cells #[Value.slice da dn dc, Value.slice sa sn sc, Value.int .i64 nx] 25)
  rcases r1 with rfl | h1
  · rw [if_neg (by omega)]
    go_enter Tryz.func5, Tryz.ntmps5
    go_wp2_with fail
    refine Calls.mono (HA.out _ s0.below) ?_
    rintro e w1 ⟨rfl, hb1⟩
    have s1 := s0.next hb1
    go_wp2_with fail
    go_ret
    exact ⟨rfl, s1.below⟩
  · rw [if_pos h1]
    have HC := kide (fun u hu => HB.out h1 u hu)
    clear HB
    rcases r2 with rfl | h2
    all_goals
      go_enter Tryz.func5, Tryz.ntmps5
      go_wp2_with fail
      refine Calls.mono (HA.out _ s0.below) ?_
      rintro e w1 ⟨rfl, hb1⟩
      have s1 := s0.next hb1
      have c1 := s1.cell 1
      simp at c1
      clear hb1 s0
      go_wp2_with fail
      refine Calls.mono (HC.out _ s1.below) ?_
      rintro e w2 ⟨rfl, hb2⟩
      have s2 := s1.next hb2
      go_wp2_with fail
      go_ret
      exact ⟨rfl, s2.below⟩

end Go.Proofs.YtofdkdaehhpgbaaGreatDoor

/- Contracts of the laws' own small functions on scopes: compared, copied. -/
namespace Go.Proofs.YtofdkdaehhpgbaaGreatDoor
set_option linter.unusedVariables false
set_option linter.unusedSimpArgs false
open Go.RowKit

/-- A scope: how many variables there were, and its literals. -/
structure Sc where
  d : Int
  ls : List Lc

/-- .. as it lies. -/
structure Sg where
  d : Int
  ls : List Lg
  la : Option Addr
  lc : Nat

def Sg.ct (x : Sg) : Sc := ⟨x.d, x.ls.map Lg.ct⟩
def Sg.val (x : Sg) : Value := .agg #[.int .i64 x.d, .slice x.la x.ls.length x.lc]

def SgAt (w : World) (b o : Nat) (x : Sg) : Prop :=
  (w.cell? ⟨b, o, none⟩ = some (.int .i64 x.d) ∧ w.cell? ⟨b, o + 1, none⟩ = some (.slice x.la x.ls.length x.lc)) ∧ RdL w x.la x.ls ∧ in64 x.d

theorem SgAt.later {w w' : World} {b o : Nat} {x : Sg} (h : SgAt w b o x) (hb : Below w.heap.size w w') : SgAt w' b o x := by
  obtain ⟨⟨f0, f1⟩, f2, f3⟩ := h
  have l := block_lt_of_cell f0
  exact ⟨⟨by rw [kcell hb _ _ l]; exact f0, by rw [kcell hb _ _ l]; exact f1⟩, f2.later hb, f3⟩

/-- A slice whose scopes are xs, wherever it lies. -/
def RdS (w : World) (a : Option Addr) (xs : List Sg) : Prop :=
  xs.length ≤ 1048576 ∧ (xs = [] ∨ ∃ b o, a = some ⟨b, o, none⟩ ∧ ∀ i n, xs[i]? = some n → SgAt w b (o + i * 2) n)

theorem RdS.later {w w' : World} {a : Option Addr} {xs : List Sg} (h : RdS w a xs) (hb : Below w.heap.size w w') : RdS w' a xs := by
  refine ⟨h.1, ?_⟩
  rcases h.2 with h | ⟨b, o, rfl, hc⟩
  · exact .inl h
  · exact .inr ⟨b, o, rfl, fun i n hi => (hc i n hi).later hb⟩

def FarS (B : Nat) (a : Option Addr) (xs : List Sg) : Prop := (∀ b o sp, a = some ⟨b, o, sp⟩ → B ≤ b) ∧ ∀ x ∈ xs, FarL B x.la x.ls
theorem FarS.mono {B B' : Nat} {a : Option Addr} {xs : List Sg} (h : FarS B a xs) (hB : B' ≤ B) : FarS B' a xs := ⟨fun b o sp e => Nat.le_trans hB (h.1 b o sp e), fun x hx => (h.2 x hx).mono hB⟩
theorem RdS.set {w : World} {a : Option Addr} {xs : List Sg} (h : RdS w a xs) {B : Nat} (hf : FarS B a xs) {p : Addr} (hp : p.block < B) (v : Value) : RdS (w.setCell p v) a xs := by
  refine ⟨h.1, ?_⟩
  rcases h.2 with h3 | ⟨b, o, rfl, hc⟩
  · exact .inl h3
  · have := hf.1 b o none rfl
    refine .inr ⟨b, o, rfl, fun i n hi => ?_⟩
    obtain ⟨⟨c0, c1⟩, r1, r3⟩ := hc i n hi
    have hn := hf.2 n (List.mem_of_getElem? hi)
    exact ⟨⟨ksetT c0 (by simp; omega), ksetT c1 (by simp; omega)⟩, r1.set hn hp v, r3⟩

theorem eqScope_same (d : Int) (la lb : Option Addr) (lc ld n : Nat) (xs ys : List Lg) (w : World) (h1 : RdL w la xs) (h2 : RdL w lb ys) (e1 : xs.map Lg.ct = ys.map Lg.ct) (l1 : xs.length = n) (l2 : ys.length = n) :
    Calls Tryz.prog 64 #[.agg #[.int .i64 d, .slice la n lc], .agg #[.int .i64 d, .slice lb n ld]] w fun e w' => e = .returned (.bool true) ∧ Below w.heap.size w w' := by
  have hb0 : Below w.heap.size w ((w.alloc (Obj.cells #[Value.int .i64 d, Value.slice la n lc] 63)).alloc (Obj.cells #[Value.int .i64 d, Value.slice lb n ld] 63)) := ((Below.refl _ _).alloc (Nat.le_refl _) _).alloc (by simp) _
  have HA := kide (fun u (hu : Below w.heap.size w u) => eqLiteralS_same la lb lc ld xs ys u (h1.later hu) (h2.later hu) e1 n l1 l2)
  have B2 := kide hb0
  have f0 : (d != d) = false := by simp
  clear h1 h2 e1 l1 l2 hb0
  go_enter Tryz.func64, Tryz.ntmps64
  go_wp2_with fail
  refine Calls.mono (HA.out _ B2.out) ?_
  rintro e w1 ⟨rfl, hb1⟩
  have B3 := kide (B2.out.trans (hb1.mono B2.out.size))
  clear hb1
  go_wp2_with fail
  go_ret
  exact ⟨rfl, B3.out⟩

set_option maxHeartbeats 1000000 in
theorem toScope_far (z : Sg) (w : World) (h1 : RdL w z.la z.ls) :
    Calls Tryz.prog 48 #[z.val] w fun e w' => ∃ y : Sg, e = .returned y.val ∧ y.ct = z.ct ∧ RdL w' y.la y.ls ∧ FarL w.heap.size y.la y.ls ∧ y.la ≠ none ∧ Below w.heap.size w w' := by
  obtain ⟨d, ls, la, lc⟩ := z
  simp only [Sg.val, Sg.ct] at h1 ⊢
  have H1 : Hid (∀ u, Below w.heap.size w u → Calls Tryz.prog 78 #[.slice la ls.length lc] u fun e w' => ∃ g ms, e = .returned (.slice (some ⟨g, 0, none⟩) ls.length ls.length) ∧ ms.map Lg.ct = ls.map Lg.ct ∧ RdL w' (some ⟨g, 0, none⟩) ms ∧ FarL u.heap.size (some ⟨g, 0, none⟩) ms ∧ Below u.heap.size u w') :=
    fun u hu => (toLiteralS_far la lc ls u (h1.later hu)).mono fun e w' ⟨ms, p1, p2, p3, p4, p5⟩ => ⟨_, ms, p1, p2, p3, p4, p5⟩
  clear h1
  have h3 : Below w.heap.size w (((w.alloc (Obj.cells #[Value.int .i64 d, Value.slice la ls.length lc] 83)).alloc (Obj.cells #[Value.int .i64 0, Value.slice none 0 0] 63)).alloc (Obj.cells #[Value.int .i64 d, Value.slice none 0 0] 63)) := (((Below.refl _ _).alloc (Nat.le_refl _) _).alloc (by simp) _).alloc (by simp; omega) _
  have B0 := kide h3
  clear h3
  go_enter Tryz.func48, Tryz.ntmps48
  go_wp2_with fail
  refine Calls.mono (H1.out _ B0.out) ?_
  rintro e w1 ⟨g1, m1, rfl, hm1, r1, f1, hb1⟩
  have hz1 : w.heap.size + 3 ≤ w1.heap.size := by have := hb1.size; simp at this; omega
  have F1 : Hid (FarL (w.heap.size + 3) (some ⟨g1, 0, none⟩) m1) := by have h := f1; simp at h; exact h
  have B1 := kide (B0.out.trans (hb1.mono B0.out.size))
  have R1 := kide r1
  have M1 := kide hm1
  have qa0 : w1.cell? ⟨w.heap.size + 1, 0, none⟩ = some (Value.int .i64 0) := by rw [kcell hb1 _ _ (by first | (simp; done) | (simp; omega))]; simp [go_sem]
  have fa0 : w1.frozen? ⟨w.heap.size + 1, 0, none⟩ = false := by rw [kfrozL hb1 _ _ (by first | (simp; done) | (simp; omega))]; simp [go_sem]
  have qa1 : w1.cell? ⟨w.heap.size + 1, 1, none⟩ = some (Value.slice none 0 0) := by rw [kcell hb1 _ _ (by first | (simp; done) | (simp; omega))]; simp [go_sem]
  have fa1 : w1.frozen? ⟨w.heap.size + 1, 1, none⟩ = false := by rw [kfrozL hb1 _ _ (by first | (simp; done) | (simp; omega))]; simp [go_sem]
  have qb0 : w1.cell? ⟨w.heap.size + 1 + 1, 0, none⟩ = some (Value.int .i64 d) := by rw [kcell hb1 _ _ (by first | (simp; done) | (simp; omega))]; simp [go_sem]
  have fb0 : w1.frozen? ⟨w.heap.size + 1 + 1, 0, none⟩ = false := by rw [kfrozL hb1 _ _ (by first | (simp; done) | (simp; omega))]; simp [go_sem]
  have qb1 : w1.cell? ⟨w.heap.size + 1 + 1, 1, none⟩ = some (Value.slice none 0 0) := by rw [kcell hb1 _ _ (by first | (simp; done) | (simp; omega))]; simp [go_sem]
  have fb1 : w1.frozen? ⟨w.heap.size + 1 + 1, 1, none⟩ = false := by rw [kfrozL hb1 _ _ (by first | (simp; done) | (simp; omega))]; simp [go_sem]
  clear hb1 r1 f1 hm1 H1
  go_wp2_with fail
  refine bodyPost_ret (v := .agg #[.int .i64 d, .slice (some ⟨g1, 0, none⟩) ls.length ls.length]) (by simp [results, Tryz.results48, go_sem, qa0, qa1, qb0, qb1, fa0, fa1, fb0, fb1]) rfl ?_
  have hl1 : m1.length = ls.length := by simpa using congrArg List.length M1.out
  refine ⟨⟨d, m1, some ⟨g1, 0, none⟩, ls.length⟩, by simp [hl1], by simp [M1.out], ?_, F1.out.mono (by omega), by simp, ?_⟩
  · repeat (refine RdL.set ?_ F1.out (by first | (simp; done) | (simp; omega)) _)
    exact R1.out
  · repeat (refine Below.setCell ?_ (by first | (simp; done) | (simp; omega)) _)
    exact B1.out

theorem eqScopeS_same (a b : Option Addr) (c d : Nat) (xs ys : List Sg) (w : World) (hr : RdS w a xs) (hs : RdS w b ys) (he : xs.map Sg.ct = ys.map Sg.ct) (n : Nat) (h1 : xs.length = n) (h2 : ys.length = n) :
    Calls Tryz.prog 31 #[.slice a n c, .slice b n d] w fun e w' => e = .returned (.bool true) ∧ Below w.heap.size w w' := by
  have hlen := hr.1
  rw [h1] at hlen
  have HE := kide he
  have H1 := kide h1
  have H2 := kide h2
  have hnn : ((n : Int) != (n : Int)) = false := by simp
  clear he h1 h2
  go_enter Tryz.func31, Tryz.ntmps31
  go_wp2_with fail
  go_loopw [5] (fun i wr => ∃ k : Nat, k ≤ n ∧ i = .int .i64 k ∧ Below w.heap.size w wr) (fun i _ => n - (intOf i).toNat)
  case atStart => exact ⟨0, Nat.zero_le _, rfl, Below.refl _ _⟩
  case round =>
    obtain ⟨k, hk, rfl, hbel⟩ := hrel
    have HB := kide hbel
    by_cases hlt : k < n
    · obtain ⟨-, h | ⟨b1, o1, rfl, hc1⟩⟩ := hr
      · have := H1.out; subst h; simp at this; omega
      obtain ⟨-, h | ⟨b2, o2, rfl, hc2⟩⟩ := hs
      · have := H2.out; subst h; simp at this; omega
      obtain ⟨⟨d1, ls1, la1, lc1⟩, hx⟩ : ∃ x, xs[k]? = some x := ⟨xs[k]'(by rw [H1.out]; exact hlt), List.getElem?_eq_getElem _⟩
      obtain ⟨⟨d2, ls2, la2, lc2⟩, hy⟩ : ∃ y, ys[k]? = some y := ⟨ys[k]'(by rw [H2.out]; exact hlt), List.getElem?_eq_getElem _⟩
      have hxy : Sg.ct ⟨d1, ls1, la1, lc1⟩ = Sg.ct ⟨d2, ls2, la2, lc2⟩ := by
        have h := congrArg (fun l => l[k]?) HE.out
        simp [hx, hy] at h
        exact h
      simp only [Sg.ct, Sc.mk.injEq] at hxy
      obtain ⟨rfl, hss⟩ := hxy
      have hsl : ls2.length = ls1.length := by simpa using (congrArg List.length hss).symm
      obtain ⟨⟨p0, p1⟩, pr, -⟩ := (hc1 k _ hx).later hbel
      obtain ⟨⟨q0, q1⟩, qr, -⟩ := (hc2 k _ hy).later hbel
      simp only [] at p0 p1 pr q0 q1 qr
      rw [hsl] at q1
      have l1 := block_lt_of_cell p0
      have l2 := block_lt_of_cell q0
      have i0 : (k : Int) < (n : Int) := by omega
      have HEQ := kide (fun u (hu : Below wr.heap.size wr u) => eqScope_same d1 la1 la2 lc1 lc2 ls1.length ls1 ls2 u (pr.later hu) (qr.later hu) hss rfl hsl)
      clear hc1 hc2 hbel hx hy pr qr hss hsl
      generalize ls1.length = m at *
      go_wp2_with fail
      go_region_held3 (fun u => u.cell? ⟨b1, o1 + k * 2, none⟩ = some (Value.int .i64 d1) ∧ u.cell? ⟨b1, o1 + k * 2 + 1, none⟩ = some (Value.slice la1 m lc1) ∧ u.cell? ⟨b2, o2 + k * 2, none⟩ = some (Value.int .i64 d1) ∧ u.cell? ⟨b2, o2 + k * 2 + 1, none⟩ = some (Value.slice la2 m lc2)) (simp [*])
        ((go_at_call 64; refine Calls.mono (HEQ.out _ ?_) ?_; exact (Below.refl _ _).drew; rintro e w1 ⟨rfl, hb1⟩; replace hb1 := kundrew hb1; have k0 := kcell hb1 b1 (o1 + k * 2) l1; have k1 := kcell hb1 b1 (o1 + k * 2 + 1) l1; have j0 := kcell hb1 b2 (o2 + k * 2) l2; have j1 := kcell hb1 b2 (o2 + k * 2 + 1) l2))
      go_wp2_with fail
      go_roundw
      case rel => exact ⟨k + 1, by omega, by go_num, HB.out.trans (hb1.mono HB.out.size)⟩
      case measure => simp [intOf]; omega
    · clear hbel
      go_wp2_with fail
      go_ret
      exact ⟨rfl, HB.out⟩

theorem Tryz.infoScp : (Tryz.prog.info? 63).map (fun i => (i.zero, i.size, i.bytes)) = some (some (.agg #[.int .i64 0, .slice none 0 0]), 2, 32) := by kernel_rfl

theorem make_scopes (n : Nat) (hn : n ≤ 1048576) (kl kc : IntKind) (w : World) :
    (Instr.makeSlice 28 (.int kl (n : Int)) (.int kc (n : Int))).run Tryz.prog w = .ok (.slice (some ⟨w.heap.size, 0, none⟩) n n) (w.alloc (.cells (madeCells #[.int .i64 0, .slice none 0 0] (n * 2)) 63)) := by
  obtain ⟨i0, hi, hz0, hz1, hz2⟩ := info_parts Tryz.infoScp
  have := run_make (P := Tryz.prog) w 28 63 i0 _ Tryz.underlying28 hi hz0 kl kc n n (by omega) (Int.le_refl _) (by rw [hz2]; omega) (by omega)
  rw [hz1] at this
  simp only [Int.toNat_natCast] at this
  exact this

/-- A copied scope: its literals lie behind the row. -/
def SgOwn (w : World) (G : Nat) (f : Nat → Value) (j : Nat) (x : Sg) : Prop :=
  (f (j * 2) = .int .i64 x.d ∧ f (j * 2 + 1) = .slice x.la x.ls.length x.lc) ∧ RdL w x.la x.ls ∧ FarL (G + 1) x.la x.ls ∧ x.la ≠ none

theorem SgOwn.later {w w' : World} {G j : Nat} {f : Nat → Value} {x : Sg} (h : SgOwn w G f j x) (hb : Below w.heap.size w w') : SgOwn w' G f j x := ⟨h.1, h.2.1.later hb, h.2.2⟩

theorem SgOwn.row {w : World} {G j k : Nat} {f f' : Nat → Value} {x : Sg} (h : SgOwn w G f j x) (hf : ∀ i, i < k * 2 → f' i = f i) (hk : j < k) : SgOwn w G f' j x := by
  obtain ⟨⟨h0, h1⟩, h4⟩ := h
  exact ⟨⟨by rw [hf _ (by omega)]; exact h0, by rw [hf _ (by omega)]; exact h1⟩, h4⟩

theorem SgOwn.set {w : World} {G j : Nat} {f : Nat → Value} {x : Sg} (h : SgOwn w G f j x) (o : Nat) (v : Value) : SgOwn (w.setCell ⟨G, o, none⟩ v) G f j x := ⟨h.1, h.2.1.set h.2.2.1 (by simp) v, h.2.2⟩

set_option maxHeartbeats 1000000 in
theorem toScopeS_far (a : Option Addr) (c : Nat) (xs : List Sg) (w : World) (hr : RdS w a xs) :
    Calls Tryz.prog 26 #[.slice a xs.length c] w fun e w' => ∃ ms : List Sg, e = .returned (.slice (some ⟨w.heap.size, 0, none⟩) xs.length xs.length) ∧ ms.map Sg.ct = xs.map Sg.ct ∧ RdS w' (some ⟨w.heap.size, 0, none⟩) ms ∧ FarS w.heap.size (some ⟨w.heap.size, 0, none⟩) ms ∧ (∀ x ∈ ms, x.la ≠ none) ∧ Below w.heap.size w w' := by
  have hlen := hr.1
  have hmk := make_scopes xs.length hlen
  go_enter Tryz.func26, Tryz.ntmps26
  go_wp2_with fail
  have hrow := krow (heap_alloc_new w (.cells (madeCells #[.int .i64 0, .slice none 0 0] (xs.length * 2)) 63))
  rw [size_madeCells] at hrow
  have hb0 : Below w.heap.size w (w.alloc (.cells (madeCells #[.int .i64 0, .slice none 0 0] (xs.length * 2)) 63)) := (Below.refl _ _).alloc (Nat.le_refl _) _
  have hs0 : w.heap.size < (w.alloc (.cells (madeCells #[.int .i64 0, .slice none 0 0] (xs.length * 2)) 63)).heap.size := by simp
  generalize (w.alloc (.cells (madeCells #[.int .i64 0, .slice none 0 0] (xs.length * 2)) 63)) = w0 at *
  go_loopw [4] (fun i wr => ∃ (k : Nat) (f : Nat → Value) (ms : List Sg), k ≤ xs.length ∧ i = .int .i64 k ∧ wr.rowIs w.heap.size 63 (xs.length * 2) f ∧ ms.length = k ∧ ms.map Sg.ct = (xs.take k).map Sg.ct ∧ (∀ j x, ms[j]? = some x → SgOwn wr w.heap.size f j x) ∧ Below w.heap.size w wr ∧ w.heap.size < wr.heap.size) (fun i _ => xs.length - (intOf i).toNat)
  case atStart => exact ⟨0, _, [], Nat.zero_le _, rfl, hrow, rfl, rfl, fun j x h => by simp at h, hb0, hs0⟩
  case round =>
    obtain ⟨k, f, ms, hk, rfl, hrw, hml, hmc, hms, hbel, hsz⟩ := hrel
    clear hrow hb0 hs0
    by_cases hlt : k < xs.length
    · obtain ⟨-, h | ⟨b, o, rfl, hc⟩⟩ := hr
      · subst h; simp at hlt
      obtain ⟨⟨d, ls, la, lc⟩, hx⟩ : ∃ x, xs[k] = x := ⟨_, rfl⟩
      have gx : xs[k]? = some ⟨d, ls, la, lc⟩ := by rw [List.getElem?_eq_getElem hlt, hx]
      obtain ⟨⟨p0, p1⟩, pr, -⟩ := (hc k _ gx).later hbel
      simp only [] at p0 p1 pr
      clear hx
      have HTO := kide (toScope_far ⟨d, ls, la, lc⟩ wr pr)
      simp only [Sg.val] at HTO
      have GX : Hid _ := gx
      have HML : Hid _ := hml
      have HMC : Hid _ := hmc
      have HMS : Hid _ := hms
      have HR : Hid _ := hrw
      have HB : Hid _ := hbel
      have i0 : (k : Int) < (xs.length : Int) := by omega
      clear gx hml hmc hms hc hrw hbel hmk pr
      generalize hsl : ls.length = sl at *
      clear hsl
      go_wp2_with fail
      refine Calls.mono HTO.out ?_
      rintro e w1 ⟨y, rfl, hct, hrd1, hfar1, hnn1, hb1⟩
      have HNN := kide hnn1
      clear hnn1
      have HCT := kide hct
      have HD1 := kide hrd1
      have HF1 := kide hfar1
      have HB1 := kide hb1
      have hr1 := World.rowIs.of_block HR.out (hb1.block _ hsz)
      obtain ⟨yd, yls, yla, ylc⟩ := y
      simp only [] at HCT HD1 HF1 HNN ⊢
      have q0 := hr1.cell (i := k * 2) (by omega)
      have q1 := hr1.cell (i := k * 2 + 1) (by omega)
      have r0 := hr1.frozen (k * 2)
      have r1 := hr1.frozen (k * 2 + 1)
      have HR1 : Hid _ := hr1
      clear hr1 hct hrd1 hfar1 hb1
      go_wp2_with fail
      go_roundw
      case rel =>
        have hl := HML.out
        refine ⟨k + 1, _, ms ++ [⟨yd, yls, yla, ylc⟩], by omega, by go_num, World.rowIs.set (World.rowIs.set HR1.out (k * 2) (.int .i64 yd)) (k * 2 + 1) (.slice yla yls.length ylc), by simp [hl], ?_, fun j x hj => ?_, ?_, ?_⟩
        · have h := HMC.out
          rw [List.map_append, h, List.take_add_one, GX.out, List.map_append]
          simp only [List.map_cons, List.map_nil, Option.toList_some]
          rw [HCT.out]
        · rw [List.getElem?_append] at hj
          split at hj
          · refine (((HMS.out j x hj).later HB1.out).set _ _).set _ _ |>.row (k := k) (fun i hi => ?_) (by omega)
            show (if _ then _ else _) = _
            rw [if_neg (by omega), if_neg (by omega)]
          · have hj2 : j - ms.length = 0 := by
              have := (List.getElem?_eq_some_iff.1 hj).1
              simp at this; exact this
            rw [hj2] at hj
            simp at hj
            subst hj
            have hjk : j = k := by omega
            subst hjk
            have hF : FarL (w.heap.size + 1) yla yls := HF1.out.mono (by omega)
            exact ⟨⟨by simp, by simp⟩, (HD1.out.set hF (by simp) _).set hF (by simp) _, hF, HNN.out⟩
        · exact ((HB.out.trans (HB1.out.mono HB.out.size)).setCell (Nat.le_refl _) _).setCell (Nat.le_refl _) _
        · have := HB1.out.size
          simp; omega
      case measure => simp [intOf]; omega
    · have e : k = xs.length := by omega
      have HM : Hid _ := hml
      have HC : Hid _ := hmc
      have HS : Hid _ := hms
      have HR : Hid _ := hrw
      have HB : Hid _ := hbel
      have HE : Hid _ := e
      clear hml hmc hms hrw hbel e hmk
      go_wp2_with fail
      go_ret
      refine ⟨ms, rfl, ?_, ⟨by rw [HM.out]; omega, .inr ⟨_, 0, rfl, fun i x hi => ?_⟩⟩, ⟨fun b o sp e => by cases e; exact Nat.le_refl _, fun x hx => ?_⟩, fun x hx => ?_, HB.out⟩
      · have h := HC.out
        rw [HE.out, List.take_length] at h
        exact h
      · obtain ⟨⟨h0, h1⟩, h4, h5⟩ := HS.out i x hi
        have hik : i < k := by have := (List.getElem?_eq_some_iff.1 hi).1; rw [HM.out] at this; exact this
        have hct : ∃ y, xs[i]? = some y ∧ y.ct = x.ct := by
          have h := HC.out
          rw [HE.out, List.take_length] at h
          have h' : (ms.map Sg.ct)[i]? = (xs.map Sg.ct)[i]? := by rw [h]
          rw [List.getElem?_map, List.getElem?_map, hi, Option.map_some] at h'
          cases hy : xs[i]? with
          | none => rw [hy] at h'; cases h'
          | some y => rw [hy] at h'; simp at h'; exact ⟨y, rfl, h'.symm⟩
        obtain ⟨y, hy, hyx⟩ := hct
        obtain ⟨-, hn | ⟨b, o, -, hc⟩⟩ := hr
        · subst hn; simp at hy
        obtain ⟨-, -, l3⟩ := hc i y hy
        have e1 : y.d = x.d := congrArg Sc.d hyx
        rw [e1] at l3
        refine ⟨⟨?_, ?_⟩, h4, l3⟩
        · rw [Nat.zero_add]; exact (World.rowIs.cell HR.out (by omega)).trans (congrArg some h0)
        · rw [Nat.zero_add]; exact (World.rowIs.cell HR.out (by omega)).trans (congrArg some h1)
      · obtain ⟨i, hi⟩ := List.getElem?_of_mem hx
        obtain ⟨-, -, h5, -⟩ := HS.out i x hi
        exact h5.mono (Nat.le_succ _)
      · obtain ⟨i, hi⟩ := List.getElem?_of_mem hx
        exact (HS.out i x hi).2.2.2

end Go.Proofs.YtofdkdaehhpgbaaGreatDoor

/- Contracts of the laws' own functions on sessions: compared, copied. -/
namespace Go.Proofs.YtofdkdaehhpgbaaGreatDoor
set_option linter.unusedVariables false
set_option linter.unusedSimpArgs false
open Go.RowKit

theorem RdD.setp {w : World} {a : Option Addr} {ds : List Dc} (h : RdD w a ds) {p : Addr} (hp : ∀ b o sp, a = some ⟨b, o, sp⟩ → b ≠ p.block) (v : Value) : RdD (w.setCell p v) a ds := by
  refine ⟨h.1, h.2.1, ?_⟩
  rcases h.2.2 with h3 | ⟨b, o, rfl, hc⟩
  · exact .inl h3
  · have := hp b o none rfl
    refine .inr ⟨b, o, rfl, fun i n hi => ?_⟩
    obtain ⟨c0, c1⟩ := hc i n hi
    exact ⟨ksetT c0 (by simpa using this), ksetT c1 (by simpa using this)⟩

theorem eqSession_same (nx : Int) (da db sa sb : Option Addr) (dc dd sc sd n : Nat) (ds : List Dc) (xs ys : List Sg) (w : World) (h1 : RdD w da ds) (h2 : RdD w db ds) (h3 : RdS w sa xs) (h4 : RdS w sb ys) (e1 : xs.map Sg.ct = ys.map Sg.ct) (l1 : xs.length = n) (l2 : ys.length = n) :
    Calls Tryz.prog 9 #[.agg #[.slice da ds.length dc, .slice sa n sc, .int .i64 nx], .agg #[.slice db ds.length dd, .slice sb n sd, .int .i64 nx]] w fun e w' => e = .returned (.bool true) ∧ Below w.heap.size w w' := by
  have hb0 : Below w.heap.size w ((w.alloc (Obj.cells #[Value.slice da ds.length dc, Value.slice sa n sc, Value.int .i64 nx] 30)).alloc (Obj.cells #[Value.slice db ds.length dd, Value.slice sb n sd, Value.int .i64 nx] 30)) := ((Below.refl _ _).alloc (Nat.le_refl _) _).alloc (by simp) _
  have HA := kide (fun u (hu : Below w.heap.size w u) => eqDeclS_same da db dc dd ds u (h1.later hu) (h2.later hu))
  have HB := kide (fun u (hu : Below w.heap.size w u) => eqScopeS_same sa sb sc sd xs ys u (h3.later hu) (h4.later hu) e1 n l1 l2)
  have B2 := kide hb0
  have f0 : (nx != nx) = false := by simp
  clear h1 h2 h3 h4 e1 l1 l2 hb0
  generalize ds.length = m at *
  go_enter Tryz.func9, Tryz.ntmps9
  go_wp2_with fail
  refine Calls.mono (HA.out _ B2.out) ?_
  rintro e w1 ⟨rfl, hb1⟩
  have k1 : w1.cell? ⟨w.heap.size, 1, none⟩ = some (Value.slice sa n sc) := by rw [kcell hb1 _ _ (by simp; omega)]; simp [go_sem]
  have k2 : w1.cell? ⟨w.heap.size, 2, none⟩ = some (Value.int .i64 nx) := by rw [kcell hb1 _ _ (by simp; omega)]; simp [go_sem]
  have j1 : w1.cell? ⟨w.heap.size + 1, 1, none⟩ = some (Value.slice sb n sd) := by rw [kcell hb1 _ _ (by simp)]; simp [go_sem]
  have j2 : w1.cell? ⟨w.heap.size + 1, 2, none⟩ = some (Value.int .i64 nx) := by rw [kcell hb1 _ _ (by simp)]; simp [go_sem]
  have hz : w.heap.size + 1 < w1.heap.size := by have := hb1.size; simp at this; omega
  have B3 := kide (B2.out.trans (hb1.mono B2.out.size))
  clear hb1
  go_wp2_with fail
  refine Calls.mono (HB.out _ B3.out) ?_
  rintro e w2 ⟨rfl, hb2⟩
  have k3 := (kcell hb2 w.heap.size 2 (by omega)).trans k2
  have j3 := (kcell hb2 (w.heap.size + 1) 2 hz).trans j2
  have B4 := kide (B3.out.trans (hb2.mono B3.out.size))
  clear hb2
  go_wp2_with fail
  go_ret
  exact ⟨rfl, B4.out⟩

set_option maxHeartbeats 2000000 in
theorem toSession_any (da sa : Option Addr) (dc sc n : Nat) (nx : Int) (ds : List Dc) (xs : List Sg) (w : World) (h1 : RdD w da ds) (h2 : RdS w sa xs) (hn : xs.length = n) :
    Calls Tryz.prog 7 #[.agg #[.slice da ds.length dc, .slice sa n sc, .int .i64 nx]] w fun e w' => ∃ (g1 g2 : Nat) (ms : List Sg), e = .returned (.agg #[.slice (some ⟨g1, 0, none⟩) ds.length ds.length, .slice (some ⟨g2, 0, none⟩) n n, .int .i64 nx]) ∧ ms.map Sg.ct = xs.map Sg.ct ∧ RdD w' (some ⟨g1, 0, none⟩) ds ∧ RdS w' (some ⟨g2, 0, none⟩) ms ∧ (∀ x ∈ ms, x.la ≠ none) ∧ Below w.heap.size w w' := by
  have H1 : Hid (∀ u, Below w.heap.size w u → Calls Tryz.prog 25 #[.slice da ds.length dc] u fun e w' => ∃ g, e = .returned (.slice (some ⟨g, 0, none⟩) ds.length ds.length) ∧ u.heap.size ≤ g ∧ RdD w' (some ⟨g, 0, none⟩) ds ∧ Below u.heap.size u w') :=
    fun u hu => (toDeclS_any da dc ds u (h1.later hu)).mono fun e w' ⟨p1, p2, p3⟩ => ⟨_, p1, Nat.le_refl _, p2, p3⟩
  have H2 : Hid (∀ u, Below w.heap.size w u → Calls Tryz.prog 26 #[.slice sa n sc] u fun e w' => ∃ g ms, e = .returned (.slice (some ⟨g, 0, none⟩) n n) ∧ ms.map Sg.ct = xs.map Sg.ct ∧ RdS w' (some ⟨g, 0, none⟩) ms ∧ FarS u.heap.size (some ⟨g, 0, none⟩) ms ∧ (∀ x ∈ ms, x.la ≠ none) ∧ Below u.heap.size u w') :=
    fun u hu => by
      have := toScopeS_far sa sc xs u (h2.later hu)
      rw [hn] at this
      exact this.mono fun e w' ⟨ms, p1, p2, p3, p4, p5, p6⟩ => ⟨_, ms, p1, p2, p3, p4, p5, p6⟩
  clear h1 h2 hn
  generalize ds.length = m at *
  have h3 : Below w.heap.size w (((w.alloc (Obj.cells #[Value.slice da m dc, Value.slice sa n sc, Value.int .i64 nx] 25)).alloc (Obj.cells #[Value.slice none 0 0, Value.slice none 0 0, Value.int .i64 0] 30)).alloc (Obj.cells #[Value.slice none 0 0, Value.slice none 0 0, Value.int .i64 0] 30)) := (((Below.refl _ _).alloc (Nat.le_refl _) _).alloc (by simp) _).alloc (by simp; omega) _
  have B0 := kide h3
  clear h3
  go_enter Tryz.func7, Tryz.ntmps7
  go_wp2_with fail
  refine Calls.mono (H1.out _ B0.out) ?_
  rintro e w1 ⟨g1, rfl, hg1, r1, hb1⟩
  have hz1 : w.heap.size + 3 ≤ w1.heap.size := by have := hb1.size; simp at this; omega
  have hG1 : w.heap.size + 3 ≤ g1 := by simp at hg1; omega
  have B1 := kide (B0.out.trans (hb1.mono B0.out.size))
  have R1 := kide r1
  have p1 : w1.cell? ⟨w.heap.size, 1, none⟩ = some (Value.slice sa n sc) := by rw [kcell hb1 _ _ (by first | (simp; done) | (simp; omega))]; simp [go_sem]
  have p2 : w1.cell? ⟨w.heap.size, 2, none⟩ = some (Value.int .i64 nx) := by rw [kcell hb1 _ _ (by first | (simp; done) | (simp; omega))]; simp [go_sem]
  have qa0 : w1.cell? ⟨w.heap.size + 1, 0, none⟩ = some (Value.slice none 0 0) := by rw [kcell hb1 _ _ (by first | (simp; done) | (simp; omega))]; simp [go_sem]
  have fa0 : w1.frozen? ⟨w.heap.size + 1, 0, none⟩ = false := by rw [kfrozL hb1 _ _ (by first | (simp; done) | (simp; omega))]; simp [go_sem]
  have qa1 : w1.cell? ⟨w.heap.size + 1, 1, none⟩ = some (Value.slice none 0 0) := by rw [kcell hb1 _ _ (by first | (simp; done) | (simp; omega))]; simp [go_sem]
  have fa1 : w1.frozen? ⟨w.heap.size + 1, 1, none⟩ = false := by rw [kfrozL hb1 _ _ (by first | (simp; done) | (simp; omega))]; simp [go_sem]
  have qa2 : w1.cell? ⟨w.heap.size + 1, 2, none⟩ = some (Value.int .i64 0) := by rw [kcell hb1 _ _ (by first | (simp; done) | (simp; omega))]; simp [go_sem]
  have fa2 : w1.frozen? ⟨w.heap.size + 1, 2, none⟩ = false := by rw [kfrozL hb1 _ _ (by first | (simp; done) | (simp; omega))]; simp [go_sem]
  have qb0 : w1.cell? ⟨w.heap.size + 1 + 1, 0, none⟩ = some (Value.slice none 0 0) := by rw [kcell hb1 _ _ (by first | (simp; done) | (simp; omega))]; simp [go_sem]
  have fb0 : w1.frozen? ⟨w.heap.size + 1 + 1, 0, none⟩ = false := by rw [kfrozL hb1 _ _ (by first | (simp; done) | (simp; omega))]; simp [go_sem]
  have qb1 : w1.cell? ⟨w.heap.size + 1 + 1, 1, none⟩ = some (Value.slice none 0 0) := by rw [kcell hb1 _ _ (by first | (simp; done) | (simp; omega))]; simp [go_sem]
  have fb1 : w1.frozen? ⟨w.heap.size + 1 + 1, 1, none⟩ = false := by rw [kfrozL hb1 _ _ (by first | (simp; done) | (simp; omega))]; simp [go_sem]
  have qb2 : w1.cell? ⟨w.heap.size + 1 + 1, 2, none⟩ = some (Value.int .i64 0) := by rw [kcell hb1 _ _ (by first | (simp; done) | (simp; omega))]; simp [go_sem]
  have fb2 : w1.frozen? ⟨w.heap.size + 1 + 1, 2, none⟩ = false := by rw [kfrozL hb1 _ _ (by first | (simp; done) | (simp; omega))]; simp [go_sem]
  have up1 : (w1.setCell ⟨w.heap.size + 1 + 1, 0, none⟩ (Value.slice (some ⟨g1, 0, none⟩) m m)).cell? ⟨w.heap.size, 1, none⟩ = some (Value.slice sa n sc) := by simp [go_sem, p1, p2, qa0, fa0, qa1, fa1, qa2, fa2, qb0, fb0, qb1, fb1, qb2, fb2]
  have up2 : (w1.setCell ⟨w.heap.size + 1 + 1, 0, none⟩ (Value.slice (some ⟨g1, 0, none⟩) m m)).cell? ⟨w.heap.size, 2, none⟩ = some (Value.int .i64 nx) := by simp [go_sem, p1, p2, qa0, fa0, qa1, fa1, qa2, fa2, qb0, fb0, qb1, fb1, qb2, fb2]
  have uqa0 : (w1.setCell ⟨w.heap.size + 1 + 1, 0, none⟩ (Value.slice (some ⟨g1, 0, none⟩) m m)).cell? ⟨w.heap.size + 1, 0, none⟩ = some (Value.slice none 0 0) := by simp [go_sem, p1, p2, qa0, fa0, qa1, fa1, qa2, fa2, qb0, fb0, qb1, fb1, qb2, fb2]
  have ufa0 : (w1.setCell ⟨w.heap.size + 1 + 1, 0, none⟩ (Value.slice (some ⟨g1, 0, none⟩) m m)).frozen? ⟨w.heap.size + 1, 0, none⟩ = false := by simp [go_sem, p1, p2, qa0, fa0, qa1, fa1, qa2, fa2, qb0, fb0, qb1, fb1, qb2, fb2]
  have uqa1 : (w1.setCell ⟨w.heap.size + 1 + 1, 0, none⟩ (Value.slice (some ⟨g1, 0, none⟩) m m)).cell? ⟨w.heap.size + 1, 1, none⟩ = some (Value.slice none 0 0) := by simp [go_sem, p1, p2, qa0, fa0, qa1, fa1, qa2, fa2, qb0, fb0, qb1, fb1, qb2, fb2]
  have ufa1 : (w1.setCell ⟨w.heap.size + 1 + 1, 0, none⟩ (Value.slice (some ⟨g1, 0, none⟩) m m)).frozen? ⟨w.heap.size + 1, 1, none⟩ = false := by simp [go_sem, p1, p2, qa0, fa0, qa1, fa1, qa2, fa2, qb0, fb0, qb1, fb1, qb2, fb2]
  have uqa2 : (w1.setCell ⟨w.heap.size + 1 + 1, 0, none⟩ (Value.slice (some ⟨g1, 0, none⟩) m m)).cell? ⟨w.heap.size + 1, 2, none⟩ = some (Value.int .i64 0) := by simp [go_sem, p1, p2, qa0, fa0, qa1, fa1, qa2, fa2, qb0, fb0, qb1, fb1, qb2, fb2]
  have ufa2 : (w1.setCell ⟨w.heap.size + 1 + 1, 0, none⟩ (Value.slice (some ⟨g1, 0, none⟩) m m)).frozen? ⟨w.heap.size + 1, 2, none⟩ = false := by simp [go_sem, p1, p2, qa0, fa0, qa1, fa1, qa2, fa2, qb0, fb0, qb1, fb1, qb2, fb2]
  have uqb0 : (w1.setCell ⟨w.heap.size + 1 + 1, 0, none⟩ (Value.slice (some ⟨g1, 0, none⟩) m m)).cell? ⟨w.heap.size + 1 + 1, 0, none⟩ = some (Value.slice (some ⟨g1, 0, none⟩) m m) := by simp [go_sem, p1, p2, qa0, fa0, qa1, fa1, qa2, fa2, qb0, fb0, qb1, fb1, qb2, fb2]
  have ufb0 : (w1.setCell ⟨w.heap.size + 1 + 1, 0, none⟩ (Value.slice (some ⟨g1, 0, none⟩) m m)).frozen? ⟨w.heap.size + 1 + 1, 0, none⟩ = false := by simp [go_sem, p1, p2, qa0, fa0, qa1, fa1, qa2, fa2, qb0, fb0, qb1, fb1, qb2, fb2]
  have uqb1 : (w1.setCell ⟨w.heap.size + 1 + 1, 0, none⟩ (Value.slice (some ⟨g1, 0, none⟩) m m)).cell? ⟨w.heap.size + 1 + 1, 1, none⟩ = some (Value.slice none 0 0) := by simp [go_sem, p1, p2, qa0, fa0, qa1, fa1, qa2, fa2, qb0, fb0, qb1, fb1, qb2, fb2]
  have ufb1 : (w1.setCell ⟨w.heap.size + 1 + 1, 0, none⟩ (Value.slice (some ⟨g1, 0, none⟩) m m)).frozen? ⟨w.heap.size + 1 + 1, 1, none⟩ = false := by simp [go_sem, p1, p2, qa0, fa0, qa1, fa1, qa2, fa2, qb0, fb0, qb1, fb1, qb2, fb2]
  have uqb2 : (w1.setCell ⟨w.heap.size + 1 + 1, 0, none⟩ (Value.slice (some ⟨g1, 0, none⟩) m m)).cell? ⟨w.heap.size + 1 + 1, 2, none⟩ = some (Value.int .i64 0) := by simp [go_sem, p1, p2, qa0, fa0, qa1, fa1, qa2, fa2, qb0, fb0, qb1, fb1, qb2, fb2]
  have ufb2 : (w1.setCell ⟨w.heap.size + 1 + 1, 0, none⟩ (Value.slice (some ⟨g1, 0, none⟩) m m)).frozen? ⟨w.heap.size + 1 + 1, 2, none⟩ = false := by simp [go_sem, p1, p2, qa0, fa0, qa1, fa1, qa2, fa2, qb0, fb0, qb1, fb1, qb2, fb2]
  have BW : Hid (Below w.heap.size w (w1.setCell ⟨w.heap.size + 1 + 1, 0, none⟩ (Value.slice (some ⟨g1, 0, none⟩) m m))) := B1.out.setCell (by first | (simp; done) | (simp; omega)) _
  have RW : Hid (RdD (w1.setCell ⟨w.heap.size + 1 + 1, 0, none⟩ (Value.slice (some ⟨g1, 0, none⟩) m m)) (some ⟨g1, 0, none⟩) ds) := R1.out.setp (fun b o sp e => by cases e; simp; omega) _
  have hzW : w.heap.size + 3 ≤ (w1.setCell ⟨w.heap.size + 1 + 1, 0, none⟩ (Value.slice (some ⟨g1, 0, none⟩) m m)).heap.size := by simp; omega
  clear hb1 r1 hg1 H1 B1 R1 B0
  go_wp2_with fail
  clear p1 p2 qa0 fa0 qa1 fa1 qa2 fa2 qb0 fb0 qb1 fb1 qb2 fb2
  generalize (w1.setCell ⟨w.heap.size + 1 + 1, 0, none⟩ (Value.slice (some ⟨g1, 0, none⟩) m m)) = W1 at *
  refine Calls.mono (H2.out W1 BW.out) ?_
  rintro e w2 ⟨g2, m2, rfl, hm2, r2, f2, hnn, hb2⟩
  have NN := kide hnn
  have BX := kide (BW.out.trans (hb2.mono BW.out.size))
  have RX := kide (RW.out.later hb2)
  have R2 := kide r2
  have F2 : Hid (FarS (w.heap.size + 3) (some ⟨g2, 0, none⟩) m2) := f2.mono hzW
  have M2 := kide hm2
  have hz2 : w.heap.size + 3 ≤ w2.heap.size := Nat.le_trans hzW hb2.size
  have vp2 := (kcell hb2 w.heap.size 2 (by omega)).trans up2
  have vqa0 := (kcell hb2 (w.heap.size + 1) 0 (by omega)).trans uqa0
  have vfa0 := (kfrozL hb2 (w.heap.size + 1) 0 (by omega)).trans ufa0
  have vqa1 := (kcell hb2 (w.heap.size + 1) 1 (by omega)).trans uqa1
  have vfa1 := (kfrozL hb2 (w.heap.size + 1) 1 (by omega)).trans ufa1
  have vqa2 := (kcell hb2 (w.heap.size + 1) 2 (by omega)).trans uqa2
  have vfa2 := (kfrozL hb2 (w.heap.size + 1) 2 (by omega)).trans ufa2
  have vqb0 := (kcell hb2 (w.heap.size + 1 + 1) 0 (by omega)).trans uqb0
  have vfb0 := (kfrozL hb2 (w.heap.size + 1 + 1) 0 (by omega)).trans ufb0
  have vqb1 := (kcell hb2 (w.heap.size + 1 + 1) 1 (by omega)).trans uqb1
  have vfb1 := (kfrozL hb2 (w.heap.size + 1 + 1) 1 (by omega)).trans ufb1
  have vqb2 := (kcell hb2 (w.heap.size + 1 + 1) 2 (by omega)).trans uqb2
  have vfb2 := (kfrozL hb2 (w.heap.size + 1 + 1) 2 (by omega)).trans ufb2
  clear hb2 r2 f2 hm2 hnn up1 up2 uqa0 ufa0 uqa1 ufa1 uqa2 ufa2 uqb0 ufb0 uqb1 ufb1 uqb2 ufb2 BW RW H2
  go_wp2_with fail
  refine bodyPost_ret (v := .agg #[.slice (some ⟨g1, 0, none⟩) m m, .slice (some ⟨g2, 0, none⟩) n n, .int .i64 nx]) (by simp [results, Tryz.results7, go_sem, vp2, vqa0, vfa0, vqa1, vfa1, vqa2, vfa2, vqb0, vfb0, vqb1, vfb1, vqb2, vfb2]) rfl ?_
  refine ⟨g1, g2, m2, rfl, M2.out, ?_, ?_, NN.out, ?_⟩
  · repeat (refine RdD.setp ?_ (fun b o sp e => by cases e; simp; omega) _)
    exact RX.out
  · repeat (refine RdS.set ?_ F2.out (by first | (simp; done) | (simp; omega)) _)
    exact R2.out
  · repeat (refine Below.setCell ?_ (by first | (simp; done) | (simp; omega)) _)
    exact BX.out

end Go.Proofs.YtofdkdaehhpgbaaGreatDoor

/- When a session is right: maths. -/
namespace Go.Proofs.YtofdkdaehhpgbaaGreatDoor
set_option linter.unusedVariables false
set_option linter.unusedSimpArgs false
open Go.RowKit

def scD (ss : List Sc) (i : Nat) : Int := (ss.getD i ⟨0, []⟩).d
def scL (ss : List Sc) (i : Nat) : List Lc := (ss.getD i ⟨0, []⟩).ls
/-- How many variables there are by the end of the scope at a place. -/
def behI (n : Int) (ss : List Sc) (i : Nat) : Int := if i + 1 < ss.length then scD ss (i + 1) else n
def scoR (n : Int) (ss : List Sc) : Bool := (List.range ss.length).all fun i => decide (scD ss i ≤ behI n ss i)
def scpR (n : Int) (ss : List Sc) : Bool := decide (1 ≤ ss.length ∧ ss.length ≤ 20) && decide (scD ss 0 = 0) && scoR n ss
def allL (ss : List Sc) : List Lc := ss.flatMap Sc.ls
def sidI (ds : List Dc) (ss : List Sc) (i : Nat) : Bool := (scL ss i).all (sideR (ds.take (behI ds.length ss i).toNat))
def sidesR (ds : List Dc) (ss : List Sc) : Bool := (List.range ss.length).all (sidI ds ss)
/-- The number of the last literal, or what was ahead. -/
def lastI : Int → List Lc → Int
  | last, [] => last
  | _, l :: t => lastI l.id t

def sesR (ds : List Dc) (ss : List Sc) (nx : Int) : Bool := dclR ds && scpR ds.length ss && decide (1 ≤ nx ∧ nx ≤ 1000000) && idsR (allL ss) && decide (lastI 0 (allL ss) < nx) && sidesR ds ss

theorem scoR_iff {n : Int} {ss : List Sc} : scoR n ss = true ↔ ∀ i, i < ss.length → scD ss i ≤ behI n ss i := by
  simp [scoR]

theorem scpR_iff {n : Int} {ss : List Sc} : scpR n ss = true ↔ (1 ≤ ss.length ∧ ss.length ≤ 20) ∧ scD ss 0 = 0 ∧ ∀ i, i < ss.length → scD ss i ≤ behI n ss i := by
  simp [scpR, scoR_iff, and_assoc]

theorem sidesR_iff {ds : List Dc} {ss : List Sc} : sidesR ds ss = true ↔ ∀ i, i < ss.length → sidI ds ss i = true := by
  simp [sidesR]

theorem beh_step {n : Int} {ss : List Sc} {i : Nat} (h : i + 1 < ss.length) : behI n ss i = scD ss (i + 1) := by rw [behI, if_pos h]
theorem beh_last {n : Int} {ss : List Sc} {i : Nat} (h : ¬ i + 1 < ss.length) : behI n ss i = n := by rw [behI, if_neg h]

/-- In right scopes no number is below that of an earlier one, nor above all variables. -/
theorem scp_up {n : Int} {ss : List Sc} (h : scpR n ss = true) : ∀ i k, i + k < ss.length → scD ss i ≤ scD ss (i + k) := by
  obtain ⟨-, -, h3⟩ := scpR_iff.1 h
  intro i k
  induction k with
  | zero => intro _; exact Int.le_refl _
  | succ k ih =>
    intro hk
    have h1 := ih (by omega)
    have h2 := h3 (i + k) (by omega)
    rw [beh_step (by omega)] at h2
    rw [show i + (k + 1) = i + k + 1 from rfl]
    omega

theorem scp_bounds {n : Int} {ss : List Sc} (h : scpR n ss = true) {i : Nat} (hi : i < ss.length) : 0 ≤ scD ss i ∧ scD ss i ≤ n := by
  obtain ⟨⟨h1, -⟩, h2, h3⟩ := scpR_iff.1 h
  have u1 := scp_up h 0 i (by omega)
  have u2 := scp_up h i (ss.length - 1 - i) (by omega)
  have u3 := h3 (ss.length - 1) (by omega)
  rw [beh_last (by omega)] at u3
  rw [show i + (ss.length - 1 - i) = ss.length - 1 by omega] at u2
  rw [Nat.zero_add] at u1
  omega

theorem beh_bounds {n : Int} {ss : List Sc} (h : scpR n ss = true) (hn : 0 ≤ n) {i : Nat} (hi : i < ss.length) : 0 ≤ behI n ss i ∧ behI n ss i ≤ n := by
  by_cases h1 : i + 1 < ss.length
  · rw [beh_step h1]
    exact scp_bounds h h1
  · rw [beh_last h1]
    omega

/-- A beginning of right variables is right. -/
theorem dclR_take {ds : List Dc} (h : dclR ds = true) (k : Nat) : dclR (ds.take k) = true := by
  obtain ⟨h1, h2, h3, h4⟩ := dclR_iff.1 h
  refine dclR_iff.2 ⟨by rw [List.length_take]; omega, fun d hd => h2 d (List.mem_of_mem_take hd), ?_, ?_⟩
  · have e : ds = ds.take k ++ ds.drop k := (List.take_append_drop k ds).symm
    have hs : sumW ds = sumW (ds.take k) + sumW (ds.drop k) := by
      conv => lhs; rw [e]
      exact sumW_append _ _
    have := (sumW_le (ds := ds.drop k) (fun d hd => h2 d (List.mem_of_mem_drop hd))).1
    omega
  · rw [List.map_take]
    exact h4.sublist (List.take_sublist _ _)

theorem lastI_append (last : Int) (xs ys : List Lc) : lastI last (xs ++ ys) = lastI (lastI last xs) ys := by
  induction xs generalizing last with
  | nil => rfl
  | cons x t ih => exact ih x.id

theorem idR_append (last : Int) (xs ys : List Lc) : idR last (xs ++ ys) = (idR last xs && idR (lastI last xs) ys) := by
  induction xs generalizing last with
  | nil => rw [List.nil_append, idR, Bool.true_and]; rfl
  | cons x t ih => rw [List.cons_append, idR, idR, ih, Bool.and_assoc]; rfl

theorem idR_le {last : Int} {ls : List Lc} (h : idR last ls = true) : ∀ l ∈ ls, l.id ≤ 1000000 := by
  induction ls generalizing last with
  | nil => simp
  | cons x t ih =>
    rw [idR, Bool.and_eq_true, decide_eq_true_eq] at h
    intro l hl
    rcases List.mem_cons.1 hl with rfl | hl
    · exact h.1.2
    · exact ih h.2 l hl

theorem idR_low {a b : Int} {ls : List Lc} (h : idR b ls = true) (hab : a ≤ b) : idR a ls = true := by
  cases ls with
  | nil => rfl
  | cons x t =>
    rw [idR, Bool.and_eq_true, decide_eq_true_eq] at h ⊢
    exact ⟨⟨by omega, h.1.2⟩, h.2⟩

theorem lastI_ge {a : Int} {ls : List Lc} (h : idR a ls = true) : a ≤ lastI a ls := by
  induction ls generalizing a with
  | nil => exact Int.le_refl _
  | cons x t ih =>
    rw [idR, Bool.and_eq_true, decide_eq_true_eq] at h
    have := ih h.2
    show a ≤ lastI x.id t
    omega

theorem lastI_get {last : Int} {ls : List Lc} {k : Nat} {l : Lc} (hk : ls.length = k + 1) (h : ls[k]? = some l) : lastI last ls = l.id := by
  have e : ls = ls.take k ++ [l] := by
    have := List.take_add_one (l := ls) (i := k)
    rw [h] at this
    rw [← hk, List.take_length] at this
    simpa using this
  rw [e, lastI_append]
  rfl

theorem allL_take {ss : List Sc} {i : Nat} (h : i < ss.length) : allL (ss.take (i + 1)) = allL (ss.take i) ++ scL ss i := by
  unfold allL scL
  rw [List.take_add_one, List.flatMap_append, List.getElem?_eq_getElem h]
  simp [List.getD, h]

theorem allL_rest (ss : List Sc) (i : Nat) : allL ss = allL (ss.take i) ++ allL (ss.drop i) := by
  unfold allL
  rw [← List.flatMap_append, List.take_append_drop]

/-- What the first scopes lack all lack. -/
theorem idsR_bad {ss : List Sc} {i : Nat} (h : idR 0 (allL (ss.take i)) = false) : idsR (allL ss) = false := by
  unfold idsR
  rw [allL_rest ss i, idR_append, h]
  simp

theorem idsR_long {ss : List Sc} {i : Nat} (h : 60 < (allL (ss.take i)).length) : idsR (allL ss) = false := by
  unfold idsR
  rw [allL_rest ss i, List.length_append, decide_eq_false (by omega)]
  rfl

end Go.Proofs.YtofdkdaehhpgbaaGreatDoor

/- What the program's listedIn, declsBehind and scopesOk answer. -/
namespace Go.Proofs.YtofdkdaehhpgbaaGreatDoor
set_option linter.unusedVariables false
set_option linter.unusedSimpArgs false
open Go.RowKit

theorem ses_box (w : World) (o : Obj) : Below w.heap.size w (w.alloc o) := (Below.refl _ _).alloc (Nat.le_refl _) _

theorem RdS.at {w : World} {a : Option Addr} {xs : List Sg} (h : RdS w a xs) {k : Nat} {x : Sg} (hx : xs[k]? = some x) : ∃ b o, a = some ⟨b, o, none⟩ ∧ SgAt w b (o + k * 2) x := by
  obtain ⟨-, h | ⟨b, o, e, hc⟩⟩ := h
  · subst h; simp at hx
  · exact ⟨b, o, e, hc k x hx⟩

theorem flat_take {xs : List Sg} {k : Nat} {x : Sg} (h : xs[k]? = some x) : (xs.take (k + 1)).flatMap Sg.ls = (xs.take k).flatMap Sg.ls ++ x.ls := by
  rw [List.take_add_one, h, List.flatMap_append]
  simp

theorem flat_le (xs : List Sg) (k : Nat) : ((xs.take k).flatMap Sg.ls).length ≤ (xs.flatMap Sg.ls).length := by
  conv => rhs; rw [← List.take_append_drop k xs, List.flatMap_append, List.length_append]
  omega

set_option maxHeartbeats 1000000 in
set_option maxRecDepth 100000 in
theorem listedIn_any (da sa : Option Addr) (dn dc n sc : Nat) (nx : Int) (xs : List Sg) (w : World) (hs : RdS w sa xs) (hn : xs.length = n) (hT : (xs.flatMap Sg.ls).length ≤ 1048576) (hN : ∀ x ∈ xs, x.la ≠ none) :
    Calls Tryz.prog 51 #[.agg #[.slice da dn dc, .slice sa n sc, .int .i64 nx]] w fun e w' => ∃ v, e = .returned v ∧ OL4 w' w.heap.size v (xs.flatMap Sg.ls) ∧ Below w.heap.size w w' := by
  have hl := hs.1
  rw [hn] at hl
  have HS := kide (fun u (hu : Below w.heap.size w u) => hs.later hu)
  have HN := kide hn
  have HT := kide hT
  have HNN := kide hN
  have B0 := kide (ses_box w (.cells #[Value.slice da dn dc, Value.slice sa n sc, Value.int .i64 nx] 30))
  clear hs hn hT hN
  go_enter Tryz.func51, Tryz.ntmps51
  go_wp2_with fail
  go_loopw [3, 9] (fun o q wr => ∃ k : Nat, k ≤ n ∧ q = .int .i64 (k : Int) ∧ OL4 wr w.heap.size o ((xs.take k).flatMap Sg.ls) ∧ Below w.heap.size w wr) (fun _ q _ => n - (intOf q).toNat)
  case atStart => exact ⟨0, Nat.zero_le _, rfl, OL4.nil _ _, B0.out⟩
  case round =>
    obtain ⟨k, hk, rfl, how, hb⟩ := hrel
    have HO := kide how
    have HB := kide hb
    clear how
    by_cases hlt : k < n
    · have i0 : (k : Int) < (n : Int) := by omega
      obtain ⟨x, gx⟩ : ∃ x, xs[k]? = some x := ⟨xs[k]'(by rw [HN.out]; exact hlt), List.getElem?_eq_getElem _⟩
      obtain ⟨b3, o3, rfl, ⟨p0, p1⟩, r1, r2⟩ := (HS.out wr hb).at gx
      have hnn := HNN.out x (List.mem_of_getElem? gx)
      have HFT := kide (flat_take gx)
      have hle := flat_le xs (k + 1)
      rw [flat_take gx, List.length_append] at hle
      have hul : ((xs.take k).flatMap Sg.ls).length + x.ls.length ≤ 1073741824 := by have := HT.out; omega
      obtain ⟨d, ls, la, lc⟩ := x
      simp only [] at p0 p1 r1 r2 hnn hul HFT
      obtain ⟨ad, rfl⟩ : ∃ ad, la = some ad := by cases la with | none => exact absurd rfl hnn | some ad => exact ⟨ad, rfl⟩
      have hbx := ses_box wr (.cells #[Value.int .i64 d, Value.slice (some ad) ls.length lc] 63)
      have HBX := kide (hb.trans (hbx.mono hb.size))
      have HOX := kide (HO.out.later hbx)
      have HRX := kide (r1.later hbx)
      have HLN : Hid (∃ m, ls.length = m) := ⟨_, rfl⟩
      obtain ⟨m, hm⟩ := HLN.out
      have HM := kide hm
      rw [hm] at p1 hul HBX HOX HRX
      generalize (xs.take k).flatMap Sg.ls = rs at *
      have hsz := HBX.out.size
      clear gx hnn hle hbx hb HO r1 r2 hm HLN
      go_wp2_with (at_builtin; refine wpList_appLs rfl _ _ rfl w.heap.size _ rs ls rfl HOX.out ad lc m HM.out rfl HRX.out hul hsz ?_)
      intro v7 w7 hos hg
      have B7 := kide (Below.grown HBX.out hg hsz (fun j hj => (HOX.out.lt hj).1))
      have O7 := kide hos
      clear hos hg p0 p1
      go_wp2_with fail
      go_roundw
      case rel => exact ⟨k + 1, by omega, by go_num, by rw [HFT.out]; exact O7.out, B7.out⟩
      case measure => simp [intOf]; omega
    · have hfin : xs.take k = xs := List.take_of_length_le (by rw [HN.out]; omega)
      rw [hfin] at HO
      clear hb hfin
      go_wp2_with fail
      go_ret
      exact ⟨_, rfl, HO.out, HB.out⟩

theorem scD_get {xs : List Sg} {i : Nat} {x : Sg} (h : xs[i]? = some x) : scD (xs.map Sg.ct) i = x.d := by
  unfold scD
  simp [List.getD, h, Sg.ct]

set_option maxHeartbeats 1000000 in
set_option maxRecDepth 100000 in
theorem declsBehind_any (da sa : Option Addr) (dn dc n sc : Nat) (nx : Int) (xs : List Sg) (place : Nat) (w : World) (hs : RdS w sa xs) (hn : xs.length = n) (hp : place < n) (hd : dn ≤ 1048576) :
    Calls Tryz.prog 53 #[.agg #[.slice da dn dc, .slice sa n sc, .int .i64 nx], .int .i64 (place : Int)] w fun e w' => e = .returned (.int .i64 (behI dn (xs.map Sg.ct) place)) ∧ Below w.heap.size w w' := by
  have hl := hs.1
  rw [hn] at hl
  have B0 := kide (ses_box w (.cells #[Value.slice da dn dc, Value.slice sa n sc, Value.int .i64 nx] 30))
  have hs2 := hs.later B0.out
  by_cases h1 : place + 1 < n
  · obtain ⟨x, gx⟩ : ∃ x, xs[place + 1]? = some x := ⟨xs[place + 1]'(by omega), List.getElem?_eq_getElem _⟩
    obtain ⟨b3, o3, rfl, ⟨p0, p1⟩, r1, r2⟩ := hs2.at gx
    have hv : behI dn (xs.map Sg.ct) place = x.d := by rw [beh_step (by simpa [hn] using h1), scD_get gx]
    rw [hv]
    have h1' : (place : Int) + 1 < (n : Int) := by omega
    have h2' : IntKind.i64.wrap ((place : Int) + 1) = ((place + 1 : Nat) : Int) := by rw [IntKind.wrap_i64]; omega
    have l3 := block_lt_of_cell p0
    generalize x.d = dd at *
    clear hs hs2 hn gx hv p1 r1 r2
    go_enter Tryz.func53, Tryz.ntmps53
    go_wp2_with fail
    go_ret
    exact ⟨rfl, B0.out⟩
  · have hv : behI dn (xs.map Sg.ct) place = dn := beh_last (by simpa [hn] using h1)
    rw [hv]
    have h1' : ¬ (place : Int) + 1 < (n : Int) := by omega
    clear hs hs2 hn hv
    go_enter Tryz.func53, Tryz.ntmps53
    go_wp2_with fail
    go_ret
    exact ⟨rfl, B0.out⟩

theorem sco_step {n : Int} {ss : List Sc} {k : Nat} (hk : k < ss.length) : ((List.range ss.length).drop k).all (fun i => decide (scD ss i ≤ behI n ss i)) = (decide (scD ss k ≤ behI n ss k) && ((List.range ss.length).drop (k + 1)).all (fun i => decide (scD ss i ≤ behI n ss i))) := by
  rw [List.drop_eq_getElem_cons (by simpa using hk), List.all_cons, List.getElem_range]

set_option maxHeartbeats 1000000 in
set_option maxRecDepth 100000 in
theorem scopesOk_any (da sa : Option Addr) (dn dc n sc : Nat) (nx : Int) (xs : List Sg) (w : World) (hs : RdS w sa xs) (hn : xs.length = n) (hd : dn ≤ 1048576) :
    Calls Tryz.prog 50 #[.agg #[.slice da dn dc, .slice sa n sc, .int .i64 nx]] w fun e w' => e = .returned (.bool (scpR dn (xs.map Sg.ct))) ∧ Below w.heap.size w w' := by
  have hl := hs.1
  rw [hn] at hl
  have B0 := kide (ses_box w (.cells #[Value.slice da dn dc, Value.slice sa n sc, Value.int .i64 nx] 30))
  have HS := kide (fun u (hu : Below w.heap.size w u) => hs.later hu)
  have HN := kide hn
  have HML : Hid ((xs.map Sg.ct).length = n) := by show _ = _; rw [List.length_map]; exact hn
  have HDB := kide (fun u (hu : Below w.heap.size w u) (place : Nat) (hp : place < n) => declsBehind_any da sa dn dc n sc nx xs place u (hs.later hu) hn hp hd)
  clear hs hn
  by_cases h1 : 1 ≤ n
  · by_cases h2 : n ≤ 20
    · obtain ⟨x0, gx0⟩ : ∃ x, xs[0]? = some x := ⟨xs[0]'(by rw [HN.out]; omega), List.getElem?_eq_getElem _⟩
      obtain ⟨b3, o3, rfl, ⟨p0, p1⟩, r1, r2⟩ := (HS.out _ B0.out).at gx0
      have hs0 := scD_get gx0
      have i1 : ¬ (n : Int) < 1 := by omega
      have i2 : ¬ (20 : Int) < (n : Int) := by omega
      have hi0 : (0 : Int) < (n : Int) := by omega
      have l3 := block_lt_of_cell p0
      rw [Nat.zero_mul, Nat.add_zero] at p0
      by_cases h3 : x0.d = 0
      · have hv : scpR dn (xs.map Sg.ct) = scoR dn (xs.map Sg.ct) := by
          unfold scpR
          rw [decide_eq_true (by rw [HML.out]; omega), decide_eq_true (by rw [hs0]; exact h3)]
          rfl
        rw [hv]
        generalize hZ : scoR dn (xs.map Sg.ct) = Z
        have HZ := kide hZ
        rw [h3] at p0
        clear hZ hv hs0 gx0 p1 r1 r2 h3
        go_enter Tryz.func50, Tryz.ntmps50
        go_wp2_with fail
        have e0 : (w.alloc (.cells #[Value.slice da dn dc, Value.slice (some ⟨b3, o3, none⟩) n sc, Value.int .i64 nx] 30)).cell? ⟨w.heap.size, 0, none⟩ = some (.slice da dn dc) := by simp [go_sem]
        have e1 : (w.alloc (.cells #[Value.slice da dn dc, Value.slice (some ⟨b3, o3, none⟩) n sc, Value.int .i64 nx] 30)).cell? ⟨w.heap.size, 1, none⟩ = some (.slice (some ⟨b3, o3, none⟩) n sc) := by simp [go_sem]
        have e2 : (w.alloc (.cells #[Value.slice da dn dc, Value.slice (some ⟨b3, o3, none⟩) n sc, Value.int .i64 nx] 30)).cell? ⟨w.heap.size, 2, none⟩ = some (.int .i64 nx) := by simp [go_sem]
        have z0 : w.heap.size < (w.alloc (.cells #[Value.slice da dn dc, Value.slice (some ⟨b3, o3, none⟩) n sc, Value.int .i64 nx] 30)).heap.size := by simp
        generalize w.alloc (.cells #[Value.slice da dn dc, Value.slice (some ⟨b3, o3, none⟩) n sc, Value.int .i64 nx] 30) = W0 at *
        go_loopw [26] (fun q wr => ∃ k : Nat, k ≤ n ∧ q = .int .i64 (k : Int) ∧ ((List.range (xs.map Sg.ct).length).drop k).all (fun i => decide (scD (xs.map Sg.ct) i ≤ behI dn (xs.map Sg.ct) i)) = Z ∧ Below W0.heap.size W0 wr) (fun q _ => n - (intOf q).toNat)
        case atStart => exact ⟨0, Nat.zero_le _, rfl, by rw [List.drop_zero]; exact HZ.out, Below.refl _ _⟩
        case round =>
          obtain ⟨k, hk, rfl, hq, hb⟩ := hrel
          have HB := kide hb
          have HBW := kide (B0.out.trans (hb.mono B0.out.size))
          by_cases hlt : k < n
          · have ik : (k : Int) < (n : Int) := by omega
            obtain ⟨x, gx⟩ : ∃ x, xs[k]? = some x := ⟨xs[k]'(by rw [HN.out]; exact hlt), List.getElem?_eq_getElem _⟩
            obtain ⟨b4, o4, e4, ⟨p0', p1'⟩, r1, r2⟩ := (HS.out wr HBW.out).at gx
            cases e4
            have f0 := (kcell hb _ _ z0).trans e0
            have f1 := (kcell hb _ _ z0).trans e1
            have f2 := (kcell hb _ _ z0).trans e2
            have zr : w.heap.size < wr.heap.size := Nat.lt_of_lt_of_le z0 hb.size
            rw [sco_step (by rw [HML.out]; exact hlt), scD_get gx] at hq
            obtain ⟨d, ls, la, lc⟩ := x
            simp only [] at p0' p1' hq
            have hbx := ses_box wr (.cells #[Value.int .i64 d, Value.slice la ls.length lc] 63)
            have HBX := kide (HBW.out.trans (hbx.mono HBW.out.size))
            have HBY := kide (HB.out.trans (hbx.mono HB.out.size))
            have HC := kide (fun u hu => HDB.out u hu k hlt)
            generalize behI dn (xs.map Sg.ct) k = bk at *
            generalize ls.length = ln at *
            have HQ := kide hq
            clear gx r1 r2 hq p0 hbx hb
            by_cases hle : d ≤ bk
            · have hnl : ¬ bk < d := by omega
              go_wp2_with fail
              have g0 : (wr.alloc (.cells #[Value.int .i64 d, Value.slice la ln lc] 63)).cell? ⟨wr.heap.size, 0, none⟩ = some (.int .i64 d) := by simp [go_sem]
              have zg : wr.heap.size < (wr.alloc (.cells #[Value.int .i64 d, Value.slice la ln lc] 63)).heap.size := by simp
              have f0' := (kcell (ses_box wr (.cells #[Value.int .i64 d, Value.slice la ln lc] 63)) _ 0 zr).trans f0
              have f1' := (kcell (ses_box wr (.cells #[Value.int .i64 d, Value.slice la ln lc] 63)) _ 1 zr).trans f1
              have f2' := (kcell (ses_box wr (.cells #[Value.int .i64 d, Value.slice la ln lc] 63)) _ 2 zr).trans f2
              clear f0 f1 f2
              generalize wr.alloc (.cells #[Value.int .i64 d, Value.slice la ln lc] 63) = W2 at *
              have zw : w.heap.size < W2.heap.size := Nat.lt_trans zr zg
              generalize wr.heap.size = Br at *
              go_region_held3 (fun u => u.cell? ⟨Br, 0, none⟩ = some (Value.int .i64 d) ∧ u.cell? ⟨w.heap.size, 0, none⟩ = some (Value.slice da dn dc) ∧ u.cell? ⟨w.heap.size, 1, none⟩ = some (Value.slice (some ⟨b3, o3, none⟩) n sc) ∧ u.cell? ⟨w.heap.size, 2, none⟩ = some (Value.int .i64 nx)) (simp [*])
                ((go_at_call 53; refine Calls.mono (HC.out _ ?_) ?_; exact HBX.out.drew; rintro e w3 ⟨rfl, hb3⟩; replace hb3 := kundrew hb3; have k0 := kcell hb3 Br 0 zg; have k1 := kcell hb3 w.heap.size 0 zw; have k2 := kcell hb3 w.heap.size 1 zw; have k3 := kcell hb3 w.heap.size 2 zw))
              have B3 := kide (HBY.out.trans (hb3.mono HBY.out.size))
              clear hb3 HC k0 k1 k2 k3
              go_wp2_with fail
              go_roundw
              case rel => exact ⟨k + 1, by omega, by go_num, by have := HQ.out; rw [decide_eq_true hle, Bool.true_and] at this; exact this, B3.out⟩
              case measure => simp [intOf]; omega
            · have hnl : bk < d := by omega
              have HF : Hid (Z = false) := by show _ = _; rw [← HQ.out, decide_eq_false hle]; rfl
              go_wp2_with fail
              have g0 : (wr.alloc (.cells #[Value.int .i64 d, Value.slice la ln lc] 63)).cell? ⟨wr.heap.size, 0, none⟩ = some (.int .i64 d) := by simp [go_sem]
              have zg : wr.heap.size < (wr.alloc (.cells #[Value.int .i64 d, Value.slice la ln lc] 63)).heap.size := by simp
              have f0' := (kcell (ses_box wr (.cells #[Value.int .i64 d, Value.slice la ln lc] 63)) _ 0 zr).trans f0
              have f1' := (kcell (ses_box wr (.cells #[Value.int .i64 d, Value.slice la ln lc] 63)) _ 1 zr).trans f1
              have f2' := (kcell (ses_box wr (.cells #[Value.int .i64 d, Value.slice la ln lc] 63)) _ 2 zr).trans f2
              clear f0 f1 f2
              generalize wr.alloc (.cells #[Value.int .i64 d, Value.slice la ln lc] 63) = W2 at *
              have zw : w.heap.size < W2.heap.size := Nat.lt_trans zr zg
              generalize wr.heap.size = Br at *
              go_region_held3 (fun u => u.cell? ⟨Br, 0, none⟩ = some (Value.int .i64 d) ∧ u.cell? ⟨w.heap.size, 0, none⟩ = some (Value.slice da dn dc) ∧ u.cell? ⟨w.heap.size, 1, none⟩ = some (Value.slice (some ⟨b3, o3, none⟩) n sc) ∧ u.cell? ⟨w.heap.size, 2, none⟩ = some (Value.int .i64 nx)) (simp [*])
                ((go_at_call 53; refine Calls.mono (HC.out _ ?_) ?_; exact HBX.out.drew; rintro e w3 ⟨rfl, hb3⟩; replace hb3 := kundrew hb3; have k0 := kcell hb3 Br 0 zg; have k1 := kcell hb3 w.heap.size 0 zw; have k2 := kcell hb3 w.heap.size 1 zw; have k3 := kcell hb3 w.heap.size 2 zw))
              have B3 := kide (HBX.out.trans (hb3.mono HBX.out.size))
              clear hb3 HC k0 k1 k2 k3
              go_wp2_with fail
              go_ret
              exact ⟨ret_bool HF.out.symm, B3.out⟩
          · rw [List.drop_of_length_le (by rw [List.length_range, HML.out]; omega)] at hq
            have HQ := kide hq
            clear hq hb
            go_wp2_with fail
            go_ret
            exact ⟨ret_bool HQ.out, HBW.out⟩
      · have hv : scpR dn (xs.map Sg.ct) = false := by
          unfold scpR
          rw [decide_eq_false (by rw [hs0]; exact h3 : ¬ scD (xs.map Sg.ct) 0 = 0)]
          simp
        rw [hv]
        have h4 : (x0.d != 0) = true := by simpa using h3
        generalize x0.d = dd at *
        clear hv hs0 gx0 p1 r1 r2 h3
        go_enter Tryz.func50, Tryz.ntmps50
        go_wp2_with fail
        go_ret
        exact ⟨rfl, B0.out⟩
    · have hv : scpR dn (xs.map Sg.ct) = false := by
        unfold scpR
        rw [decide_eq_false (by rw [HML.out]; omega)]
        rfl
      rw [hv]
      have i1 : ¬ (n : Int) < 1 := by omega
      have i2 : (20 : Int) < (n : Int) := by omega
      go_enter Tryz.func50, Tryz.ntmps50
      go_wp2_with fail
      go_ret
      exact ⟨rfl, B0.out⟩
  · have hv : scpR dn (xs.map Sg.ct) = false := by
      unfold scpR
      rw [decide_eq_false (by rw [HML.out]; omega)]
      rfl
    rw [hv]
    have i1 : (n : Int) < 1 := by omega
    go_enter Tryz.func50, Tryz.ntmps50
    go_wp2_with fail
    go_ret
    exact ⟨rfl, B0.out⟩

theorem RdD.take {w : World} {a : Option Addr} {ds : List Dc} (h : RdD w a ds) (k : Nat) : RdD w a (ds.take k) := by
  refine ⟨by have := h.1; rw [List.length_take]; omega, fun d hd => h.2.1 d (List.mem_of_mem_take hd), ?_⟩
  rcases h.2.2 with h | ⟨b, o, rfl, hc⟩
  · left; simp [h]
  · right
    refine ⟨b, o, rfl, fun i d hi => hc i d ?_⟩
    rw [List.getElem?_take] at hi
    split at hi
    · exact hi
    · cases hi

end Go.Proofs.YtofdkdaehhpgbaaGreatDoor

/- When a session is right: what the specification asks one by one. -/
namespace Go.Proofs.YtofdkdaehhpgbaaGreatDoor
set_option linter.unusedVariables false
set_option linter.unusedSimpArgs false
open Go.RowKit

theorem scL_get {xs : List Sg} {i : Nat} {x : Sg} (h : xs[i]? = some x) : scL (xs.map Sg.ct) i = x.ls.map Lg.ct := by
  unfold scL
  simp [List.getD, h, Sg.ct]

theorem allL_map (xs : List Sg) : (xs.flatMap Sg.ls).map Lg.ct = allL (xs.map Sg.ct) := by
  induction xs with
  | nil => rfl
  | cons x t ih =>
    rw [List.flatMap_cons, List.map_append, ih]
    rfl

theorem ses_ids {ds : List Dc} {ss : List Sc} {nx : Int} (h : idsR (allL ss) = false) : sesR ds ss nx = false := by
  unfold sesR
  rw [h]
  simp

theorem idR_take {a : Int} {ls : List Lc} {k : Nat} (h : idR a (ls.take k) = false) : idR a ls = false := by
  rw [← List.take_append_drop k ls, idR_append, h]
  rfl

theorem ses_bad_one {ds : List Dc} {ss : List Sc} {nx : Int} {i k : Nat} (hi : i < ss.length) (h : idR (lastI 0 (allL (ss.take i))) ((scL ss i).take k) = false) : sesR ds ss nx = false := by
  refine ses_ids (idsR_bad (i := i + 1) ?_)
  rw [allL_take hi, idR_append, idR_take h, Bool.and_false]

theorem ses_bad_lits {ds : List Dc} {ss : List Sc} {nx : Int} {i : Nat} (hi : i < ss.length) (hd : dclR ds = true) (hid : idR 0 (allL (ss.take i)) = true) (h : litR (ds.take (behI ds.length ss i).toNat) (scL ss i) = false) : sesR ds ss nx = false := by
  rw [litR_eq, dclR_take hd, Bool.true_and, Bool.and_eq_false_iff] at h
  rcases h with h | h
  · unfold idsR at h
    rw [Bool.and_eq_false_iff] at h
    rcases h with h | h
    · refine ses_ids (idsR_long (i := i + 1) ?_)
      rw [allL_take hi, List.length_append]
      have := of_decide_eq_false h
      omega
    · refine ses_bad_one (k := (scL ss i).length) hi ?_
      rw [List.take_length]
      cases e : idR (lastI 0 (allL (ss.take i))) (scL ss i) with
      | false => rfl
      | true =>
        rw [idR_low e (lastI_ge hid)] at h
        cases h
  · have hs : sidesR ds ss = false := by
      cases e : sidesR ds ss with
      | false => rfl
      | true =>
        have := sidesR_iff.1 e i hi
        unfold sidI at this
        rw [this] at h
        cases h
    unfold sesR
    rw [hs, Bool.and_false]

theorem ses_scp {ds : List Dc} {ss : List Sc} {nx : Int} (h : scpR ds.length ss = false) : sesR ds ss nx = false := by
  unfold sesR
  rw [h]
  simp

/-- The specification's first loop: a number that is not where it must be. -/
theorem scp_bad {n : Int} {ss : List Sc} {i : Nat} (hi : i + 1 < ss.length) (h : ¬ (scD ss i ≤ scD ss (i + 1) ∧ scD ss (i + 1) ≤ n)) : scpR n ss = false := by
  cases e : scpR n ss with
  | false => rfl
  | true =>
    have h1 := scp_up e i 1 hi
    have h2 := (scp_bounds e hi).2
    exact absurd ⟨h1, h2⟩ h

theorem scp_good {n : Int} {ss : List Sc} (h1 : 1 ≤ ss.length) (h2 : ss.length ≤ 20) (h0 : scD ss 0 = 0) (hn : 0 ≤ n) (h : ∀ i, i + 1 < ss.length → scD ss i ≤ scD ss (i + 1) ∧ scD ss (i + 1) ≤ n) : scpR n ss = true := by
  refine scpR_iff.2 ⟨⟨h1, h2⟩, h0, fun i hi => ?_⟩
  by_cases h3 : i + 1 < ss.length
  · rw [beh_step h3]
    exact (h i h3).1
  · rw [beh_last h3]
    cases i with
    | zero => rw [h0]; exact hn
    | succ i => exact (h i hi).2

/-- All is asked: what is left. -/
theorem ses_end {ds : List Dc} {ss : List Sc} {nx : Int} (hd : dclR ds = true) (hs : scpR ds.length ss = true) (hx : 1 ≤ nx ∧ nx ≤ 1000000) (hid : idR 0 (allL ss) = true) (hsd : ∀ i, i < ss.length → sidI ds ss i = true) :
    sesR ds ss nx = (decide ((allL ss).length ≤ 60) && decide (lastI 0 (allL ss) < nx)) := by
  unfold sesR idsR
  rw [hd, hs, decide_eq_true hx, hid, sidesR_iff.2 hsd]
  simp

/-- What a scope's literals add. -/
theorem ses_step {ds : List Dc} {ss : List Sc} {i : Nat} (hi : i < ss.length) (hl : litR (ds.take (behI ds.length ss i).toNat) (scL ss i) = true) : sidI ds ss i = true ∧ ∀ l ∈ scL ss i, l.id ≤ 1000000 := by
  rw [litR_eq, Bool.and_eq_true, Bool.and_eq_true] at hl
  obtain ⟨⟨-, h1⟩, h2⟩ := hl
  refine ⟨h2, ?_⟩
  unfold idsR at h1
  rw [Bool.and_eq_true] at h1
  exact idR_le h1.2

theorem idR_more {a : Int} {ls : List Lc} {k : Nat} {l : Lc} (h : ls[k]? = some l) : idR a (ls.take (k + 1)) = (idR a (ls.take k) && decide (lastI a (ls.take k) < l.id ∧ l.id ≤ 1000000)) := by
  rw [List.take_add_one, h, idR_append]
  simp [idR]

theorem lastI_more {a : Int} {ls : List Lc} {k : Nat} {l : Lc} (h : ls[k]? = some l) : lastI a (ls.take (k + 1)) = l.id := by
  rw [List.take_add_one, h, lastI_append]
  rfl

end Go.Proofs.YtofdkdaehhpgbaaGreatDoor
