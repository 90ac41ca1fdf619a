/- Contracts of the laws' own small functions on rows of term nodes: how long. -/
import Derived.Test.YteenmffhbgpahaaDoorKA
import Derived.Test.YteenmffhbgpahaaDoorKE
import Derived.Test.YteenmffhbgpahaaDoorKI
namespace Go.Proofs.YteenmffhbgpahaaDoor
set_option linter.unusedVariables false
set_option linter.unusedSimpArgs false
open Go.RowKit

/-- A node of a term as it lies. -/
structure Th where
  op : Int
  vr : Int
  a : Int
  b : Int
  bw : Int
  wa : Option Addr
  wn : Nat
  wc : Nat
  ka : Option Addr
  kn : Nat
  kc : Nat

def Th.val (h : Th) : Value := .agg #[.int .i64 h.op, .int .i64 h.vr, .int .i64 h.a, .int .i64 h.b, .int .i64 h.bw, .slice h.wa h.wn h.wc, .slice h.ka h.kn h.kc]

def ThAt (w : World) (b o : Nat) (h : Th) : Prop :=
  w.cell? ⟨b, o, none⟩ = some (.int .i64 h.op) ∧ w.cell? ⟨b, o + 1, none⟩ = some (.int .i64 h.vr) ∧ w.cell? ⟨b, o + 2, none⟩ = some (.int .i64 h.a) ∧ w.cell? ⟨b, o + 3, none⟩ = some (.int .i64 h.b) ∧ w.cell? ⟨b, o + 4, none⟩ = some (.int .i64 h.bw) ∧ w.cell? ⟨b, o + 5, none⟩ = some (.slice h.wa h.wn h.wc) ∧ w.cell? ⟨b, o + 6, none⟩ = some (.slice h.ka h.kn h.kc)

theorem ThAt.later {w w' : World} {b o : Nat} {h : Th} (k : ThAt w b o h) (hb : Below w.heap.size w w') : ThAt w' b o h := by
  obtain ⟨f0, f1, f2, f3, f4, f5, f6⟩ := k
  have l := block_lt_of_cell f0
  exact ⟨by rw [kcell hb _ _ l]; exact f0, by rw [kcell hb _ _ l]; exact f1, by rw [kcell hb _ _ l]; exact f2, by rw [kcell hb _ _ l]; exact f3, by rw [kcell hb _ _ l]; exact f4, by rw [kcell hb _ _ l]; exact f5, by rw [kcell hb _ _ l]; exact f6⟩

def RdTh (w : World) (a : Option Addr) (hs : List Th) : Prop :=
  hs.length ≤ 1048576 ∧ (hs = [] ∨ ∃ b o, a = some ⟨b, o, none⟩ ∧ ∀ i h, hs[i]? = some h → ThAt w b (o + i * 7) h ∧ h.wn ≤ 9223372036854775807 ∧ h.kn ≤ 9223372036854775807)

theorem RdTh.later {w w' : World} {a : Option Addr} {hs : List Th} (h : RdTh w a hs) (hb : Below w.heap.size w w') : RdTh w' a hs := by
  refine ⟨h.1, ?_⟩
  rcases h.2 with h | ⟨b, o, rfl, hc⟩
  · exact .inl h
  · exact .inr ⟨b, o, rfl, fun i x hi => ⟨(hc i x hi).1.later hb, (hc i x hi).2⟩⟩

def szT (h : Th) (L : Int) : Int := if (h.wn : Int) ≤ L ∧ (h.kn : Int) ≤ L - h.wn then L - h.wn - h.kn else -1

theorem szTNode_any (h : Th) (L : Int) (w : World) (hL : 0 ≤ L) (hL2 : L ≤ 1048576) (hn : h.wn ≤ 9223372036854775807) (hm : h.kn ≤ 9223372036854775807) :
    Calls Tryd.prog 27 #[h.val, .int .i64 L] w fun e w' => e = .returned (.int .i64 (szT h L)) ∧ Below w.heap.size w w' := by
  obtain ⟨op, vr, a, b, bw, wa, wn, wc, ka, kn, kc⟩ := h
  simp only [Th.val, szT] at hn hm ⊢
  have hb0 : Below w.heap.size w (w.alloc (Obj.cells #[Value.int .i64 op, Value.int .i64 vr, Value.int .i64 a, Value.int .i64 b, Value.int .i64 bw, Value.slice wa wn wc, Value.slice ka kn kc] 71)) := (Below.refl _ _).alloc (Nat.le_refl _) _
  have B0 := kide hb0
  clear hb0
  by_cases h : (wn : Int) ≤ L
  · by_cases h2 : (kn : Int) ≤ L - wn
    · rw [if_pos ⟨h, h2⟩]
      have HY := kide h
      have HZ := kide h2
      go_enter Tryd.func27, Tryd.ntmps27
      go_wp2_with fail
      refine (szBits_yes _ _ _ _ _ _ hL hL2 hn HY.out).mono ?_
      rintro e w1 ⟨rfl, hb1⟩
      have k6 := kcell hb1 w.heap.size 6 (by simp)
      simp at k6
      have B1 := kide (B0.out.trans (hb1.mono (by simp)))
      clear hb1
      go_wp2_with fail
      refine (szInt64S_any _ _ _ _ _ (by omega) (by omega) hm).mono ?_
      rw [if_pos HZ.out]
      rintro e w2 ⟨rfl, rfl⟩
      go_wp2_with fail
      go_ret
      exact ⟨rfl, B1.out⟩
    · rw [if_neg (by omega)]
      have HY := kide h
      have HZ : Hid (¬ (kn : Int) ≤ L - wn) := h2
      clear h2
      go_enter Tryd.func27, Tryd.ntmps27
      go_wp2_with fail
      refine (szBits_yes _ _ _ _ _ _ hL hL2 hn HY.out).mono ?_
      rintro e w1 ⟨rfl, hb1⟩
      have k6 := kcell hb1 w.heap.size 6 (by simp)
      simp at k6
      have B1 := kide (B0.out.trans (hb1.mono (by simp)))
      clear hb1
      go_wp2_with fail
      refine (szInt64S_any _ _ _ _ _ (by omega) (by omega) hm).mono ?_
      rw [if_neg (by have := HZ.out; omega)]
      rintro e w2 ⟨rfl, rfl⟩
      go_wp2_with fail
      go_ret
      exact ⟨rfl, B1.out⟩
  · rw [if_neg (by omega)]
    have HY : Hid (¬ (wn : Int) ≤ L) := h
    go_enter Tryd.func27, Tryd.ntmps27
    go_wp2_with fail
    refine (szBits_no _ _ _ _ _ _ hL hL2 hn (by have := HY.out; omega)).mono ?_
    rintro e w1 ⟨rfl, hb1⟩
    go_wp2_with fail
    go_ret
    exact ⟨rfl, B0.out.trans (hb1.mono (by simp))⟩

/-- What is left of L behind some nodes; -1: nothing. -/
def szTl : List Th → Int → Int
  | [], L => L
  | h :: t, L => if (h.wn : Int) ≤ L ∧ (h.kn : Int) ≤ L - h.wn then szTl t (L - h.wn - h.kn) else -1

theorem szTl_range (hs : List Th) (L : Int) (hL : 0 ≤ L) : szTl hs L = -1 ∨ 0 ≤ szTl hs L ∧ szTl hs L ≤ L ∧ ∀ h ∈ hs, (h.wn : Int) ≤ L ∧ (h.kn : Int) ≤ L := by
  induction hs generalizing L with
  | nil => right; simp [szTl]; exact hL
  | cons h t ih =>
    rw [szTl]
    split
    · rename_i hc
      rcases ih (L - h.wn - h.kn) (by omega) with e | ⟨e1, e2, e3⟩
      · left; exact e
      · right
        refine ⟨e1, by omega, fun x hx => ?_⟩
        rcases List.mem_cons.1 hx with rfl | hx
        · omega
        · have := e3 x hx; omega
    · left; rfl

theorem szTNodeS_in (a : Option Addr) (c : Nat) (hs : List Th) (L : Int) (w : World) (hr : RdTh w a hs) (hL : 0 ≤ L) (hL2 : L ≤ 1048576) (h : (hs.length : Int) ≤ L) :
    Calls Tryd.prog 13 #[.slice a hs.length c, .int .i64 L] w fun e w' => e = .returned (.int .i64 (szTl hs (L - hs.length))) ∧ Below w.heap.size w w' := by
  have hlen := hr.1
  generalize hZ : szTl hs (L - hs.length) = Z
  have HZ : Hid (szTl hs (L - hs.length) = Z) := hZ
  clear hZ
  go_enter Tryd.func13, Tryd.ntmps13
  go_wp2_with fail
  go_loopw [1, 5] (fun l i wr => ∃ (k : Nat) (Q : Int), k ≤ hs.length ∧ i = .int .i64 k ∧ l = .int .i64 Q ∧ 0 ≤ Q ∧ Q ≤ 1048576 ∧ szTl (hs.drop k) Q = Z ∧ Below w.heap.size w wr) (fun _ i _ => hs.length - (intOf i).toNat)
  case atStart => exact ⟨0, _, Nat.zero_le _, rfl, rfl, by omega, by omega, by rw [List.drop_zero]; exact HZ.out, Below.refl _ _⟩
  case round =>
    obtain ⟨k, Q, hk, rfl, rfl, hQ0, hQ1, hq, hbel⟩ := hrel
    by_cases hlt : k < hs.length
    · obtain ⟨-, h | ⟨b, o, rfl, hc⟩⟩ := hr
      · subst h; simp at hlt
      obtain ⟨x, hh⟩ : ∃ x, hs[k] = x := ⟨_, rfl⟩
      obtain ⟨f1, f2, f3⟩ := hc k x (by rw [List.getElem?_eq_getElem hlt, hh])
      obtain ⟨g0, g1, g2, g3, g4, g5, g6⟩ := f1.later hbel
      have HCA := kide (fun u => szTNode_any x Q u hQ0 hQ1 f2 f3)
      rw [List.drop_eq_getElem_cons hlt, hh, szTl] at hq
      obtain ⟨op, vr, a, b', bw, wa, wn, wc, ka, kn, kc⟩ := x
      simp only [Th.val, szT] at g0 g1 g2 g3 g4 g5 g6 hq f2 f3 HCA
      have HQ : Hid _ := hq
      have HB : Hid _ := hbel
      clear hc hh f1 hbel hq
      by_cases hyes : (wn : Int) ≤ Q ∧ (kn : Int) ≤ Q - wn
      · rw [if_pos hyes] at HCA
        go_wp2_with (go_at_call 27; refine Calls.mono (HCA.out _) ?_; rintro e w1 ⟨rfl, hb1⟩)
        go_roundw
        case rel =>
          have h := HQ.out
          rw [if_pos (by omega)] at h
          exact ⟨k + 1, _, by omega, by go_num, rfl, by omega, by omega, h, HB.out.trans (hb1.mono HB.out.size)⟩
        case measure => simp [intOf]; omega
      · rw [if_neg hyes] at HCA
        have HY := kide hyes
        clear hyes
        go_wp2_with (go_at_call 27; refine Calls.mono (HCA.out _) ?_; rintro e w1 ⟨rfl, hb1⟩)
        go_ret
        have h := HQ.out
        rw [if_neg (by have := HY.out; omega)] at h
        exact ⟨ret_int h, HB.out.trans (hb1.mono HB.out.size)⟩
    · have e : k = hs.length := by omega
      rw [e, List.drop_length, szTl] at hq
      have HQ : Hid _ := hq
      clear hq
      go_wp2_with fail
      go_ret
      exact ⟨ret_int HQ.out, hbel⟩

theorem szTNodeS_out (a : Option Addr) (n c : Nat) (L : Int) (w : World) (hL : 0 ≤ L) (hL2 : L ≤ 1048576) (hn : n ≤ 9223372036854775807) (h : ¬ (n : Int) ≤ L) :
    Calls Tryd.prog 13 #[.slice a n c, .int .i64 L] w fun e w' => e = .returned (.int .i64 (-1)) ∧ w' = w := by
  go_enter Tryd.func13, Tryd.ntmps13
  go_wp2_with fail
  go_ret
  exact ⟨rfl, rfl⟩

/-- A node: its numbers, its word, its kids. -/
structure Tc where
  op : Int
  vr : Int
  a : Int
  b : Int
  bw : Int
  ws : List Nat
  ks : List Int

/-- .. as it lies. -/
structure Tg where
  ct : Tc
  wa : Option Addr
  wc : Nat
  ka : Option Addr
  kc : Nat

def Tg.hd (x : Tg) : Th := ⟨x.ct.op, x.ct.vr, x.ct.a, x.ct.b, x.ct.bw, x.wa, x.ct.ws.length, x.wc, x.ka, x.ct.ks.length, x.kc⟩

def TgAt (w : World) (b o : Nat) (x : Tg) : Prop := ThAt w b o x.hd ∧ Rd w x.wa x.ct.ws ∧ RdI w x.ka x.ct.ks ∧ in64 x.ct.op ∧ in64 x.ct.vr ∧ in64 x.ct.a ∧ in64 x.ct.b ∧ in64 x.ct.bw

theorem TgAt.later {w w' : World} {b o : Nat} {x : Tg} (h : TgAt w b o x) (hb : Below w.heap.size w w') : TgAt w' b o x := ⟨h.1.later hb, h.2.1.later hb, h.2.2.1.later hb, h.2.2.2⟩

/-- A slice whose nodes are xs, wherever it lies. -/
def RdT (w : World) (a : Option Addr) (xs : List Tg) : Prop :=
  xs.length ≤ 1048576 ∧ (xs = [] ∨ ∃ b o, a = some ⟨b, o, none⟩ ∧ ∀ i n, xs[i]? = some n → TgAt w b (o + i * 7) n)

theorem RdT.later {w w' : World} {a : Option Addr} {xs : List Tg} (h : RdT w a xs) (hb : Below w.heap.size w w') : RdT w' a xs := by
  refine ⟨h.1, ?_⟩
  rcases h.2 with h | ⟨b, o, rfl, hc⟩
  · exact .inl h
  · exact .inr ⟨b, o, rfl, fun i n hi => (hc i n hi).later hb⟩

theorem szTerm_in (a : Option Addr) (c : Nat) (hs : List Th) (L : Int) (w : World) (hr : RdTh w a hs) (hL : 0 ≤ L) (hL2 : L ≤ 1048576) (h : (hs.length : Int) ≤ L) (n : Nat) (hn : hs.length = n) :
    Calls Tryd.prog 5 #[.agg #[.slice a n c], .int .i64 L] w fun e w' => e = .returned (.int .i64 (szTl hs (L - hs.length))) ∧ Below w.heap.size w w' := by
  subst hn
  have hb0 : Below w.heap.size w (w.alloc (Obj.cells #[Value.slice a hs.length c] 25)) := (Below.refl _ _).alloc (Nat.le_refl _) _
  have HC := kide (szTNodeS_in a c hs L _ (hr.later hb0) hL hL2 h)
  have hz := szTl_range hs (L - hs.length) (by omega)
  generalize szTl hs (L - hs.length) = Z at *
  have B0 := kide hb0
  clear hr hb0
  by_cases hz0 : Z < 0
  · have e : Z = -1 := by omega
    subst e
    go_enter Tryd.func5, Tryd.ntmps5
    go_wp2_with fail
    refine Calls.mono HC.out ?_
    rintro e w1 ⟨rfl, hb1⟩
    go_wp2_with fail
    go_ret
    exact ⟨rfl, B0.out.trans (hb1.mono (by simp))⟩
  · go_enter Tryd.func5, Tryd.ntmps5
    go_wp2_with fail
    refine Calls.mono HC.out ?_
    rintro e w1 ⟨rfl, hb1⟩
    go_wp2_with fail
    go_ret
    exact ⟨rfl, B0.out.trans (hb1.mono (by simp))⟩

theorem szTerm_out (a : Option Addr) (n c : Nat) (L : Int) (w : World) (hL : 0 ≤ L) (hL2 : L ≤ 1048576) (hn : n ≤ 9223372036854775807) (h : ¬ (n : Int) ≤ L) :
    Calls Tryd.prog 5 #[.agg #[.slice a n c], .int .i64 L] w fun e w' => e = .returned (.int .i64 (-1)) ∧ Below w.heap.size w w' := by
  have HH := kide h
  have hb0 : Below w.heap.size w (w.alloc (Obj.cells #[Value.slice a n c] 25)) := (Below.refl _ _).alloc (Nat.le_refl _) _
  go_enter Tryd.func5, Tryd.ntmps5
  go_wp2_with fail
  refine (szTNodeS_out a n c L _ hL hL2 hn (by have := HH.out; omega)).mono ?_
  rintro e w1 ⟨rfl, rfl⟩
  go_wp2_with fail
  go_ret
  exact ⟨rfl, hb0⟩

end Go.Proofs.YteenmffhbgpahaaDoor
