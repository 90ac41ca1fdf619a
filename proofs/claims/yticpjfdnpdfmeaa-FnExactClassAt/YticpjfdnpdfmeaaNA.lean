/- Contracts of the laws' own small functions on rows of classes: how long, compared. -/
import Derived.Test.YticpjfdnpdfmeaaLA
import Derived.Test.YticpjfdnpdfmeaaKE
namespace Go.Proofs.Yticpjfdnpdfmeaa
set_option linter.unusedVariables false
set_option linter.unusedSimpArgs false
open Go.RowKit

/-- A class as it lies. -/
structure Ch where
  sa : Option Addr
  sn : Nat
  sc : Nat
  fx : Bool
  bw : Int
  wa : Option Addr
  wn : Nat
  wc : Nat

def Ch.val (h : Ch) : Value := .agg #[.slice h.sa h.sn h.sc, .bool h.fx, .int .i64 h.bw, .slice h.wa h.wn h.wc]

def ChAt (w : World) (b o : Nat) (h : Ch) : Prop :=
  w.cell? ⟨b, o, none⟩ = some (.slice h.sa h.sn h.sc) ∧ w.cell? ⟨b, o + 1, none⟩ = some (.bool h.fx) ∧ w.cell? ⟨b, o + 2, none⟩ = some (.int .i64 h.bw) ∧ w.cell? ⟨b, o + 3, none⟩ = some (.slice h.wa h.wn h.wc)

theorem ChAt.later {w w' : World} {b o : Nat} {h : Ch} (k : ChAt w b o h) (hb : Below w.heap.size w w') : ChAt w' b o h := by
  obtain ⟨f0, f1, f2, f3⟩ := k
  have l := block_lt_of_cell f0
  exact ⟨by rw [kcell hb _ _ l]; exact f0, by rw [kcell hb _ _ l]; exact f1, by rw [kcell hb _ _ l]; exact f2, by rw [kcell hb _ _ l]; exact f3⟩

def RdCh (w : World) (a : Option Addr) (hs : List Ch) : Prop :=
  hs.length ≤ 1048576 ∧ (hs = [] ∨ ∃ b o, a = some ⟨b, o, none⟩ ∧ ∀ i h, hs[i]? = some h → ChAt w b (o + i * 4) h ∧ h.sn ≤ 9223372036854775807 ∧ h.wn ≤ 9223372036854775807)

theorem RdCh.later {w w' : World} {a : Option Addr} {hs : List Ch} (h : RdCh w a hs) (hb : Below w.heap.size w w') : RdCh w' a hs := by
  refine ⟨h.1, ?_⟩
  rcases h.2 with h | ⟨b, o, rfl, hc⟩
  · exact .inl h
  · exact .inr ⟨b, o, rfl, fun i x hi => ⟨(hc i x hi).1.later hb, (hc i x hi).2⟩⟩

def szC (h : Ch) (L : Int) : Int := if (h.sn : Int) ≤ L ∧ (h.wn : Int) ≤ L - h.sn then L - h.sn - h.wn else -1

theorem szClass_any (h : Ch) (L : Int) (w : World) (hL : 0 ≤ L) (hL2 : L ≤ 1048576) (hn : h.sn ≤ 9223372036854775807) (hm : h.wn ≤ 9223372036854775807) :
    Calls Try.prog 76 #[h.val, .int .i64 L] w fun e w' => e = .returned (.int .i64 (szC h L)) ∧ Below w.heap.size w w' := by
  obtain ⟨sa, sn, sc, fx, bw, wa, wn, wc⟩ := h
  simp only [Ch.val, szC] at hn hm ⊢
  have hb0 : Below w.heap.size w (w.alloc (Obj.cells #[Value.slice sa sn sc, Value.bool fx, Value.int .i64 bw, Value.slice wa wn wc] 113)) := (Below.refl _ _).alloc (Nat.le_refl _) _
  have B0 := kide hb0
  clear hb0
  by_cases h : (sn : Int) ≤ L
  · by_cases h2 : (wn : Int) ≤ L - sn
    · rw [if_pos ⟨h, h2⟩]
      have HY := kide h2
      go_enter Try.func76, Try.ntmps76
      go_wp2_with (first | (go_at_call 53; refine (szInt64S_any _ _ _ _ _ hL hL2 hn).mono ?_; rw [if_pos h]; rintro e w1 ⟨rfl, rfl⟩) | (go_at_call 62; refine (szBits_yes _ _ _ _ _ _ (by omega) (by omega) hm HY.out).mono ?_; rintro e w2 ⟨rfl, hb2⟩))
      go_ret
      exact ⟨rfl, B0.out.trans (hb2.mono (by simp))⟩
    · rw [if_neg (by omega)]
      have HY : Hid (¬ (wn : Int) ≤ L - sn) := h2
      go_enter Try.func76, Try.ntmps76
      go_wp2_with (first | (go_at_call 53; refine (szInt64S_any _ _ _ _ _ hL hL2 hn).mono ?_; rw [if_pos h]; rintro e w1 ⟨rfl, rfl⟩) | (go_at_call 62; refine (szBits_no _ _ _ _ _ _ (by omega) (by omega) hm (by have := HY.out; omega)).mono ?_; rintro e w2 ⟨rfl, hb2⟩))
      go_ret
      exact ⟨rfl, B0.out.trans (hb2.mono (by simp))⟩
  · rw [if_neg (by omega)]
    go_enter Try.func76, Try.ntmps76
    go_wp2_with (go_at_call 53; refine (szInt64S_any _ _ _ _ _ hL hL2 hn).mono ?_; rw [if_neg (by omega)]; rintro e w1 ⟨rfl, rfl⟩)
    go_ret
    exact ⟨rfl, B0.out⟩

/-- What is left of L behind some classes; -1: nothing. -/
def szCl : List Ch → Int → Int
  | [], L => L
  | h :: t, L => if (h.sn : Int) ≤ L ∧ (h.wn : Int) ≤ L - h.sn then szCl t (L - h.sn - h.wn) else -1

theorem szCl_range (hs : List Ch) (L : Int) (hL : 0 ≤ L) : szCl hs L = -1 ∨ 0 ≤ szCl hs L ∧ szCl hs L ≤ L ∧ ∀ h ∈ hs, (h.sn : Int) ≤ L ∧ (h.wn : Int) ≤ L := by
  induction hs generalizing L with
  | nil => right; simp [szCl]; exact hL
  | cons h t ih =>
    rw [szCl]
    split
    · rename_i hc
      rcases ih (L - h.sn - h.wn) (by omega) with e | ⟨e1, e2, e3⟩
      · left; exact e
      · right
        refine ⟨e1, by omega, fun x hx => ?_⟩
        rcases List.mem_cons.1 hx with rfl | hx
        · omega
        · have := e3 x hx; omega
    · left; rfl

theorem szClassS_in (a : Option Addr) (c : Nat) (hs : List Ch) (L : Int) (w : World) (hr : RdCh w a hs) (hL : 0 ≤ L) (hL2 : L ≤ 1048576) (h : (hs.length : Int) ≤ L) :
    Calls Try.prog 52 #[.slice a hs.length c, .int .i64 L] w fun e w' => e = .returned (.int .i64 (szCl hs (L - hs.length))) ∧ Below w.heap.size w w' := by
  have hlen := hr.1
  generalize hZ : szCl hs (L - hs.length) = Z
  have HZ : Hid (szCl hs (L - hs.length) = Z) := hZ
  clear hZ
  go_enter Try.func52, Try.ntmps52
  go_wp2_with fail
  go_loopw [1, 5] (fun l i wr => ∃ (k : Nat) (Q : Int), k ≤ hs.length ∧ i = .int .i64 k ∧ l = .int .i64 Q ∧ 0 ≤ Q ∧ Q ≤ 1048576 ∧ szCl (hs.drop k) Q = Z ∧ Below w.heap.size w wr) (fun _ i _ => hs.length - (intOf i).toNat)
  case atStart => exact ⟨0, _, Nat.zero_le _, rfl, rfl, by omega, by omega, by rw [List.drop_zero]; exact HZ.out, Below.refl _ _⟩
  case round =>
    obtain ⟨k, Q, hk, rfl, rfl, hQ0, hQ1, hq, hbel⟩ := hrel
    by_cases hlt : k < hs.length
    · obtain ⟨-, h | ⟨b, o, rfl, hc⟩⟩ := hr
      · subst h; simp at hlt
      obtain ⟨x, hh⟩ : ∃ x, hs[k] = x := ⟨_, rfl⟩
      obtain ⟨f1, f2, f3⟩ := hc k x (by rw [List.getElem?_eq_getElem hlt, hh])
      obtain ⟨g0, g1, g2, g3⟩ := f1.later hbel
      have HCA := kide (fun u => szClass_any x Q u hQ0 hQ1 f2 f3)
      rw [List.drop_eq_getElem_cons hlt, hh, szCl] at hq
      obtain ⟨sa, sn, sc, fx, bw, wa, wn, wc⟩ := x
      simp only [Ch.val, szC] at g0 g1 g2 g3 hq f2 f3 HCA
      have HQ : Hid _ := hq
      have HB : Hid _ := hbel
      clear hc hh f1 hbel hq
      by_cases hyes : (sn : Int) ≤ Q ∧ (wn : Int) ≤ Q - sn
      · rw [if_pos hyes] at HCA
        go_wp2_with (go_at_call 76; refine Calls.mono (HCA.out _) ?_; rintro e w1 ⟨rfl, hb1⟩)
        go_roundw
        case rel =>
          have h := HQ.out
          rw [if_pos (by omega)] at h
          exact ⟨k + 1, _, by omega, by go_num, rfl, by omega, by omega, h, HB.out.trans (hb1.mono HB.out.size)⟩
        case measure => simp [intOf]; omega
      · rw [if_neg hyes] at HCA
        have HY := kide hyes
        clear hyes
        go_wp2_with (go_at_call 76; refine Calls.mono (HCA.out _) ?_; rintro e w1 ⟨rfl, hb1⟩)
        go_ret
        have h := HQ.out
        rw [if_neg (by have := HY.out; omega)] at h
        exact ⟨ret_int h, HB.out.trans (hb1.mono HB.out.size)⟩
    · have e : k = hs.length := by omega
      rw [e, List.drop_length, szCl] at hq
      have HQ : Hid _ := hq
      clear hq
      go_wp2_with fail
      go_ret
      exact ⟨ret_int HQ.out, hbel⟩

theorem szClassS_out (a : Option Addr) (n c : Nat) (L : Int) (w : World) (hL : 0 ≤ L) (hL2 : L ≤ 1048576) (hn : n ≤ 9223372036854775807) (h : ¬ (n : Int) ≤ L) :
    Calls Try.prog 52 #[.slice a n c, .int .i64 L] w fun e w' => e = .returned (.int .i64 (-1)) ∧ w' = w := by
  go_enter Try.func52, Try.ntmps52
  go_wp2_with fail
  go_ret
  exact ⟨rfl, rfl⟩

/-- A class: slices, flag, word. -/
structure Cc where
  ks : List Int
  fx : Bool
  bw : Int
  ws : List Nat

/-- .. as it lies. -/
structure Cg where
  ct : Cc
  sa : Option Addr
  sc : Nat
  wa : Option Addr
  wc : Nat

def Cg.hd (x : Cg) : Ch := ⟨x.sa, x.ct.ks.length, x.sc, x.ct.fx, x.ct.bw, x.wa, x.ct.ws.length, x.wc⟩

def CgAt (w : World) (b o : Nat) (x : Cg) : Prop := ChAt w b o x.hd ∧ RdI w x.sa x.ct.ks ∧ Rd w x.wa x.ct.ws ∧ in64 x.ct.bw

theorem CgAt.later {w w' : World} {b o : Nat} {x : Cg} (h : CgAt w b o x) (hb : Below w.heap.size w w') : CgAt w' b o x := ⟨h.1.later hb, h.2.1.later hb, h.2.2.1.later hb, h.2.2.2⟩

/-- A slice whose classes are xs, wherever it lies. -/
def RdC (w : World) (a : Option Addr) (xs : List Cg) : Prop :=
  xs.length ≤ 1048576 ∧ (xs = [] ∨ ∃ b o, a = some ⟨b, o, none⟩ ∧ ∀ i n, xs[i]? = some n → CgAt w b (o + i * 4) n)

theorem RdC.later {w w' : World} {a : Option Addr} {xs : List Cg} (h : RdC w a xs) (hb : Below w.heap.size w w') : RdC w' a xs := by
  refine ⟨h.1, ?_⟩
  rcases h.2 with h | ⟨b, o, rfl, hc⟩
  · exact .inl h
  · exact .inr ⟨b, o, rfl, fun i n hi => (hc i n hi).later hb⟩

end Go.Proofs.Yticpjfdnpdfmeaa
