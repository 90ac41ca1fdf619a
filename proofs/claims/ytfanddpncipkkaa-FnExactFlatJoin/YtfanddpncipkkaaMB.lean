/- Contracts of the laws' own small functions on rows of segments: how long, compared, copied. -/
import Derived.Test.YtfanddpncipkkaaMA
namespace Go.Proofs.Ytfanddpncipkkaa
set_option linter.unusedVariables false
set_option linter.unusedSimpArgs false
open Go.RowKit

/-- What is left of L behind the rows of some segments; -1: nothing. -/
def szSl : List Sh → Int → Int
  | [], L => L
  | h :: t, L => if (h.n : Int) ≤ L then szSl t (L - h.n) else -1

theorem szSl_range (hs : List Sh) (L : Int) (hL : 0 ≤ L) : szSl hs L = -1 ∨ 0 ≤ szSl hs L ∧ szSl hs L ≤ L ∧ ∀ h ∈ hs, (h.n : Int) ≤ L := by
  induction hs generalizing L with
  | nil => right; simp [szSl]; exact hL
  | cons h t ih =>
    rw [szSl]
    split
    · rename_i hc
      rcases ih (L - h.n) (by omega) with e | ⟨e1, e2, e3⟩
      · left; exact e
      · right
        refine ⟨e1, by omega, fun x hx => ?_⟩
        rcases List.mem_cons.1 hx with rfl | hx
        · exact hc
        · have := e3 x hx; omega
    · left; rfl

theorem szSegS_in (a : Option Addr) (c : Nat) (hs : List Sh) (L : Int) (w : World) (hr : RdSh w a hs) (hL : 0 ≤ L) (hL2 : L ≤ 1048576) (h : (hs.length : Int) ≤ L) :
    Calls Try.prog 7 #[.slice a hs.length c, .int .i64 L] w fun e w' => e = .returned (.int .i64 (szSl hs (L - hs.length))) ∧ Below w.heap.size w w' := by
  have hlen := hr.1
  generalize hZ : szSl hs (L - hs.length) = Z
  have HZ : Hid (szSl hs (L - hs.length) = Z) := hZ
  clear hZ
  go_enter Try.func7, Try.ntmps7
  go_wp2_with fail
  go_loopw [1, 5] (fun l i wr => ∃ (k : Nat) (Q : Int), k ≤ hs.length ∧ i = .int .i64 k ∧ l = .int .i64 Q ∧ 0 ≤ Q ∧ Q ≤ 1048576 ∧ szSl (hs.drop k) Q = Z ∧ Below w.heap.size w wr) (fun _ i _ => hs.length - (intOf i).toNat)
  case atStart => exact ⟨0, _, Nat.zero_le _, rfl, rfl, by omega, by omega, by rw [List.drop_zero]; exact HZ.out, Below.refl _ _⟩
  case round =>
    obtain ⟨k, Q, hk, rfl, rfl, hQ0, hQ1, hq, hbel⟩ := hrel
    by_cases hlt : k < hs.length
    · obtain ⟨-, h | ⟨b, o, rfl, hc⟩⟩ := hr
      · subst h; simp at hlt
      obtain ⟨x, hh⟩ : ∃ x, hs[k] = x := ⟨_, rfl⟩
      obtain ⟨f1, f2⟩ := hc k x (by rw [List.getElem?_eq_getElem hlt, hh])
      obtain ⟨g0, g1, g2, g3, g4⟩ := f1.later hbel
      have HCA : Hid (∀ u, Calls Try.prog 23 #[.agg #[.int .i64 x.v, .int .i64 x.lo, .int .i64 x.wd, .int .i64 x.bw, .slice x.a x.n x.c], .int .i64 Q] u fun e w' => e = .returned (.int .i64 (if (x.n : Int) ≤ Q then Q - x.n else -1)) ∧ Below u.heap.size u w') := fun u => szSeg_any x Q u hQ0 hQ1 f2
      rw [List.drop_eq_getElem_cons hlt, hh, szSl] at hq
      obtain ⟨v, lo, wd, bw, a1, n1, c1⟩ := x
      simp only [] at g0 g1 g2 g3 g4 hq f2 HCA
      have HQ : Hid _ := hq
      have HB : Hid _ := hbel
      clear hc hh f1 hbel hq
      by_cases hyes : (n1 : Int) ≤ Q
      · rw [if_pos hyes] at HCA
        go_wp2_with (go_at_call 23; refine Calls.mono (HCA.out _) ?_; rintro e w1 ⟨rfl, hb1⟩)
        go_roundw
        case rel =>
          have h := HQ.out
          rw [if_pos hyes] at h
          exact ⟨k + 1, _, by omega, by go_num, rfl, by omega, by omega, h, HB.out.trans (hb1.mono HB.out.size)⟩
        case measure => simp [intOf]; omega
      · rw [if_neg hyes] at HCA
        go_wp2_with (go_at_call 23; refine Calls.mono (HCA.out _) ?_; rintro e w1 ⟨rfl, hb1⟩)
        go_ret
        have h := HQ.out
        rw [if_neg (by omega)] at h
        exact ⟨ret_int h, HB.out.trans (hb1.mono HB.out.size)⟩
    · have e : k = hs.length := by omega
      rw [e, List.drop_length, szSl] at hq
      have HQ : Hid _ := hq
      clear hq
      go_wp2_with fail
      go_ret
      exact ⟨ret_int HQ.out, hbel⟩

theorem szSegS_out (a : Option Addr) (n c : Nat) (L : Int) (w : World) (hL : 0 ≤ L) (hL2 : L ≤ 1048576) (hn : n ≤ 9223372036854775807) (h : ¬ (n : Int) ≤ L) :
    Calls Try.prog 7 #[.slice a n c, .int .i64 L] w fun e w' => e = .returned (.int .i64 (-1)) ∧ w' = w := by
  go_enter Try.func7, Try.ntmps7
  go_wp2_with fail
  go_ret
  exact ⟨rfl, rfl⟩

/-- A segment: variable, place, width, its word. -/
structure Sc where
  v : Int
  lo : Int
  wd : Int
  bw : Int
  ws : List Nat

/-- .. as it lies. -/
structure Sg where
  ct : Sc
  a : Option Addr
  c : Nat

def Sg.hd (x : Sg) : Sh := ⟨x.ct.v, x.ct.lo, x.ct.wd, x.ct.bw, x.a, x.ct.ws.length, x.c⟩

def SgAt (w : World) (b o : Nat) (x : Sg) : Prop := ShAt w b o x.hd ∧ Rd w x.a x.ct.ws ∧ in64 x.ct.v ∧ in64 x.ct.lo ∧ in64 x.ct.wd ∧ in64 x.ct.bw

theorem SgAt.later {w w' : World} {b o : Nat} {x : Sg} (h : SgAt w b o x) (hb : Below w.heap.size w w') : SgAt w' b o x := ⟨h.1.later hb, h.2.1.later hb, h.2.2⟩

/-- A slice whose segments are xs, wherever it lies. -/
def RdS (w : World) (a : Option Addr) (xs : List Sg) : Prop :=
  xs.length ≤ 1048576 ∧ (xs = [] ∨ ∃ b o, a = some ⟨b, o, none⟩ ∧ ∀ i n, xs[i]? = some n → SgAt w b (o + i * 5) n)

theorem RdS.later {w w' : World} {a : Option Addr} {xs : List Sg} (h : RdS w a xs) (hb : Below w.heap.size w w') : RdS w' a xs := by
  refine ⟨h.1, ?_⟩
  rcases h.2 with h | ⟨b, o, rfl, hc⟩
  · exact .inl h
  · exact .inr ⟨b, o, rfl, fun i n hi => (hc i n hi).later hb⟩

theorem eqSeg_same (s : Sc) (a b : Option Addr) (c d : Nat) (w : World) (hr : Rd w a s.ws) (hs : Rd w b s.ws) :
    Calls Try.prog 34 #[.agg #[.int .i64 s.v, .int .i64 s.lo, .int .i64 s.wd, .int .i64 s.bw, .slice a s.ws.length c], .agg #[.int .i64 s.v, .int .i64 s.lo, .int .i64 s.wd, .int .i64 s.bw, .slice b s.ws.length d]] w fun e w' => e = .returned (.bool true) ∧ Below w.heap.size w w' := by
  obtain ⟨v, lo, wd, bw, ws⟩ := s
  simp only [] at hr hs ⊢
  have h2 : Below w.heap.size w ((w.alloc (Obj.cells #[Value.int .i64 v, Value.int .i64 lo, Value.int .i64 wd, Value.int .i64 bw, Value.slice a ws.length c] 47)).alloc (Obj.cells #[Value.int .i64 v, Value.int .i64 lo, Value.int .i64 wd, Value.int .i64 bw, Value.slice b ws.length d] 47)) := ((Below.refl _ _).alloc (Nat.le_refl _) _).alloc (by simp) _
  have HE : Hid (∀ u, Below w.heap.size w u → Calls Try.prog 60 #[.agg #[.int .i64 bw, .slice a ws.length c], .agg #[.int .i64 bw, .slice b ws.length d]] u fun e w' => e = .returned (.bool true) ∧ Below u.heap.size u w') := fun u hu => by
    have := eqBits_any bw bw a b c d ws ws u (hr.later hu) (hs.later hu)
    simpa using this
  have B2 := kide h2
  have e0 : (v != v) = false := by simp
  have e1 : (lo != lo) = false := by simp
  have e2 : (wd != wd) = false := by simp
  clear hr hs h2
  go_enter Try.func34, Try.ntmps34
  go_wp2_with fail
  refine Calls.mono (HE.out _ B2.out) ?_
  rintro e w1 ⟨rfl, hb1⟩
  go_wp2_with fail
  go_ret
  exact ⟨rfl, B2.out.trans (hb1.mono (by simp; omega))⟩

end Go.Proofs.Ytfanddpncipkkaa
