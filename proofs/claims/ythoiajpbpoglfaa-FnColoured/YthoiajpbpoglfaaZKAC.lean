/- Several texts in one. -/
import Derived.Test.YthoiajpbpoglfaaZKAB
import Derived.WalkSpells
import Derived.Deep.QuietTactic
import Derived.BigQuiet
import Derived.Outline
import Derived.WalkSmall
import Derived.Deep.OwnRows
import Derived.Test.YthoiajpbpoglfaaZKAA
import Derived.Deep.RegionHeld3
import Derived.Deep.AppendLies

/- Small lemmas on worlds that every text uses. -/
namespace Go.Proofs.Ythoiajpbpoglfaa
set_option linter.unusedVariables false
set_option linter.unusedSimpArgs false
open Go.RowKit

theorem kide {p : Prop} (h : p) : Hid p := h
/-- Behind a call that lets all old blocks be: all old cells read as before. -/
theorem kcell {W w1 : World} (hb : Below W.heap.size W w1) (b o : Nat) (h : b < W.heap.size) : w1.cell? ⟨b, o, none⟩ = W.cell? ⟨b, o, none⟩ := hb.cell (p := ⟨b, o, none⟩) h
theorem kundrew {B : Nat} {w w' : World} (h : Below B w.drew w') : Below B w w' := ⟨h.os, h.tape, h.output, h.size, h.block⟩
theorem kstr_ne {s t : ByteArray} (h : s ≠ t) : (s.toList == t.toList) = false := by
  rw [ByteArray.toList_eq, ByteArray.toList_eq, beq_eq_false_iff_ne]
  intro e
  exact h (ByteArray.ext (Array.toList_inj.1 e))
theorem krow {w : World} {g : Nat} {c : Array Value} {t : TypeId} (h : w.heap[g]? = some (.cells c t (0, 0))) : w.rowIs g t c.size (fun i => (c[i]?).getD undef) :=
  ⟨c, h, rfl, fun i hi => by simp [hi]⟩

end Go.Proofs.Ythoiajpbpoglfaa

/- Contracts of the laws' own small functions on rows of bars: how long, compared, copied. -/
namespace Go.Proofs.Ythoiajpbpoglfaa
set_option linter.unusedVariables false
set_option linter.unusedSimpArgs false
open Go.RowKit

/-- A bar as it lies. -/
structure Yh where
  v : Int
  lo : Int
  bw : Int
  a : Option Addr
  n : Nat
  c : Nat

def YhAt (w : World) (b o : Nat) (h : Yh) : Prop :=
  w.cell? ⟨b, o, none⟩ = some (.int .i64 h.v) ∧ w.cell? ⟨b, o + 1, none⟩ = some (.int .i64 h.lo) ∧ w.cell? ⟨b, o + 2, none⟩ = some (.int .i64 h.bw) ∧ w.cell? ⟨b, o + 3, none⟩ = some (.slice h.a h.n h.c)

theorem YhAt.later {w w' : World} {b o : Nat} {h : Yh} (k : YhAt w b o h) (hb : Below w.heap.size w w') : YhAt w' b o h := by
  obtain ⟨f0, f1, f2, f3⟩ := k
  have l := block_lt_of_cell f0
  exact ⟨by rw [kcell hb _ _ l]; exact f0, by rw [kcell hb _ _ l]; exact f1, by rw [kcell hb _ _ l]; exact f2, by rw [kcell hb _ _ l]; exact f3⟩

def RdYh (w : World) (a : Option Addr) (hs : List Yh) : Prop :=
  hs.length ≤ 1048576 ∧ (hs = [] ∨ ∃ b o, a = some ⟨b, o, none⟩ ∧ ∀ i h, hs[i]? = some h → YhAt w b (o + i * 4) h ∧ h.n ≤ 9223372036854775807)

theorem RdYh.later {w w' : World} {a : Option Addr} {hs : List Yh} (h : RdYh w a hs) (hb : Below w.heap.size w w') : RdYh w' a hs := by
  refine ⟨h.1, ?_⟩
  rcases h.2 with h | ⟨b, o, rfl, hc⟩
  · exact .inl h
  · exact .inr ⟨b, o, rfl, fun i x hi => ⟨(hc i x hi).1.later hb, (hc i x hi).2⟩⟩

theorem szBar_any (h : Yh) (L : Int) (w : World) (hL : 0 ≤ L) (hL2 : L ≤ 1048576) (hn : h.n ≤ 9223372036854775807) :
    Calls Try.prog 57 #[.agg #[.int .i64 h.v, .int .i64 h.lo, .int .i64 h.bw, .slice h.a h.n h.c], .int .i64 L] w fun e w' => e = .returned (.int .i64 (if (h.n : Int) ≤ L then L - h.n else -1)) ∧ Below w.heap.size w w' := by
  obtain ⟨v, lo, bw, a, n, c⟩ := h
  simp only [] at hn ⊢
  have hb0 : Below w.heap.size w (w.alloc (Obj.cells #[Value.int .i64 v, Value.int .i64 lo, Value.int .i64 bw, Value.slice a n c] 95)) := (Below.refl _ _).alloc (Nat.le_refl _) _
  have B0 := kide hb0
  clear hb0
  by_cases h : (n : Int) ≤ L
  · rw [if_pos h]
    go_enter Try.func57, Try.ntmps57
    go_wp2_with (go_at_call 81; refine (szBits_yes _ _ _ _ _ _ hL hL2 hn h).mono ?_; rintro e w1 ⟨rfl, hb1⟩)
    go_ret
    exact ⟨rfl, B0.out.trans (hb1.mono (by simp))⟩
  · rw [if_neg h]
    have HY := kide h
    go_enter Try.func57, Try.ntmps57
    go_wp2_with (go_at_call 81; refine (szBits_no _ _ _ _ _ _ hL hL2 hn HY.out).mono ?_; rintro e w1 ⟨rfl, hb1⟩)
    go_ret
    exact ⟨rfl, B0.out.trans (hb1.mono (by simp))⟩

end Go.Proofs.Ythoiajpbpoglfaa

/- Contracts of the laws' own small functions on rows of bars: how long, compared, copied. -/
namespace Go.Proofs.Ythoiajpbpoglfaa
set_option linter.unusedVariables false
set_option linter.unusedSimpArgs false
open Go.RowKit

/-- What is left of L behind the rows of some bars; -1: nothing. -/
def szYl : List Yh → Int → Int
  | [], L => L
  | h :: t, L => if (h.n : Int) ≤ L then szYl t (L - h.n) else -1

theorem szYl_range (hs : List Yh) (L : Int) (hL : 0 ≤ L) : szYl hs L = -1 ∨ 0 ≤ szYl hs L ∧ szYl hs L ≤ L ∧ ∀ h ∈ hs, (h.n : Int) ≤ L := by
  induction hs generalizing L with
  | nil => right; simp [szYl]; exact hL
  | cons h t ih =>
    rw [szYl]
    split
    · rename_i hc
      rcases ih (L - h.n) (by omega) with e | ⟨e1, e2, e3⟩
      · left; exact e
      · right
        refine ⟨e1, by omega, fun x hx => ?_⟩
        rcases List.mem_cons.1 hx with rfl | hx
        · exact hc
        · have := e3 x hx; omega
    · left; rfl

theorem szBarS_in (a : Option Addr) (c : Nat) (hs : List Yh) (L : Int) (w : World) (hr : RdYh w a hs) (hL : 0 ≤ L) (hL2 : L ≤ 1048576) (h : (hs.length : Int) ≤ L) :
    Calls Try.prog 25 #[.slice a hs.length c, .int .i64 L] w fun e w' => e = .returned (.int .i64 (szYl hs (L - hs.length))) ∧ Below w.heap.size w w' := by
  have hlen := hr.1
  generalize hZ : szYl hs (L - hs.length) = Z
  have HZ : Hid (szYl hs (L - hs.length) = Z) := hZ
  clear hZ
  go_enter Try.func25, Try.ntmps25
  go_wp2_with fail
  go_loopw [1, 5] (fun l i wr => ∃ (k : Nat) (Q : Int), k ≤ hs.length ∧ i = .int .i64 k ∧ l = .int .i64 Q ∧ 0 ≤ Q ∧ Q ≤ 1048576 ∧ szYl (hs.drop k) Q = Z ∧ Below w.heap.size w wr) (fun _ i _ => hs.length - (intOf i).toNat)
  case atStart => exact ⟨0, _, Nat.zero_le _, rfl, rfl, by omega, by omega, by rw [List.drop_zero]; exact HZ.out, Below.refl _ _⟩
  case round =>
    obtain ⟨k, Q, hk, rfl, rfl, hQ0, hQ1, hq, hbel⟩ := hrel
    by_cases hlt : k < hs.length
    · obtain ⟨-, h | ⟨b, o, rfl, hc⟩⟩ := hr
      · subst h; simp at hlt
      obtain ⟨x, hh⟩ : ∃ x, hs[k] = x := ⟨_, rfl⟩
      obtain ⟨f1, f2⟩ := hc k x (by rw [List.getElem?_eq_getElem hlt, hh])
      obtain ⟨g0, g1, g2, g3⟩ := f1.later hbel
      have HCA : Hid (∀ u, Calls Try.prog 57 #[.agg #[.int .i64 x.v, .int .i64 x.lo, .int .i64 x.bw, .slice x.a x.n x.c], .int .i64 Q] u fun e w' => e = .returned (.int .i64 (if (x.n : Int) ≤ Q then Q - x.n else -1)) ∧ Below u.heap.size u w') := fun u => szBar_any x Q u hQ0 hQ1 f2
      rw [List.drop_eq_getElem_cons hlt, hh, szYl] at hq
      obtain ⟨v, lo, bw, a1, n1, c1⟩ := x
      simp only [] at g0 g1 g2 g3 hq f2 HCA
      have HQ : Hid _ := hq
      have HB : Hid _ := hbel
      clear hc hh f1 hbel hq
      by_cases hyes : (n1 : Int) ≤ Q
      · rw [if_pos hyes] at HCA
        go_wp2_with (go_at_call 57; refine Calls.mono (HCA.out _) ?_; rintro e w1 ⟨rfl, hb1⟩)
        go_roundw
        case rel =>
          have h := HQ.out
          rw [if_pos hyes] at h
          exact ⟨k + 1, _, by omega, by go_num, rfl, by omega, by omega, h, HB.out.trans (hb1.mono HB.out.size)⟩
        case measure => simp [intOf]; omega
      · rw [if_neg hyes] at HCA
        go_wp2_with (go_at_call 57; refine Calls.mono (HCA.out _) ?_; rintro e w1 ⟨rfl, hb1⟩)
        go_ret
        have h := HQ.out
        rw [if_neg (by omega)] at h
        exact ⟨ret_int h, HB.out.trans (hb1.mono HB.out.size)⟩
    · have e : k = hs.length := by omega
      rw [e, List.drop_length, szYl] at hq
      have HQ : Hid _ := hq
      clear hq
      go_wp2_with fail
      go_ret
      exact ⟨ret_int HQ.out, hbel⟩

theorem szBarS_out (a : Option Addr) (n c : Nat) (L : Int) (w : World) (hL : 0 ≤ L) (hL2 : L ≤ 1048576) (hn : n ≤ 9223372036854775807) (h : ¬ (n : Int) ≤ L) :
    Calls Try.prog 25 #[.slice a n c, .int .i64 L] w fun e w' => e = .returned (.int .i64 (-1)) ∧ w' = w := by
  go_enter Try.func25, Try.ntmps25
  go_wp2_with fail
  go_ret
  exact ⟨rfl, rfl⟩

/-- A bar: variable, place, width, its word. -/
structure Yc where
  v : Int
  lo : Int
  bw : Int
  ws : List Nat

/-- .. as it lies. -/
structure Yg where
  ct : Yc
  a : Option Addr
  c : Nat

def Yg.hd (x : Yg) : Yh := ⟨x.ct.v, x.ct.lo, x.ct.bw, x.a, x.ct.ws.length, x.c⟩

def YgAt (w : World) (b o : Nat) (x : Yg) : Prop := YhAt w b o x.hd ∧ Rd w x.a x.ct.ws ∧ in64 x.ct.v ∧ in64 x.ct.lo ∧ in64 x.ct.bw

theorem YgAt.later {w w' : World} {b o : Nat} {x : Yg} (h : YgAt w b o x) (hb : Below w.heap.size w w') : YgAt w' b o x := ⟨h.1.later hb, h.2.1.later hb, h.2.2⟩

/-- A slice whose bars are xs, wherever it lies. -/
def RdBr (w : World) (a : Option Addr) (xs : List Yg) : Prop :=
  xs.length ≤ 1048576 ∧ (xs = [] ∨ ∃ b o, a = some ⟨b, o, none⟩ ∧ ∀ i n, xs[i]? = some n → YgAt w b (o + i * 4) n)

theorem RdBr.later {w w' : World} {a : Option Addr} {xs : List Yg} (h : RdBr w a xs) (hb : Below w.heap.size w w') : RdBr w' a xs := by
  refine ⟨h.1, ?_⟩
  rcases h.2 with h | ⟨b, o, rfl, hc⟩
  · exact .inl h
  · exact .inr ⟨b, o, rfl, fun i n hi => (hc i n hi).later hb⟩

theorem eqBar_same (s : Yc) (a b : Option Addr) (c d : Nat) (w : World) (hr : Rd w a s.ws) (hs : Rd w b s.ws) :
    Calls Try.prog 68 #[.agg #[.int .i64 s.v, .int .i64 s.lo, .int .i64 s.bw, .slice a s.ws.length c], .agg #[.int .i64 s.v, .int .i64 s.lo, .int .i64 s.bw, .slice b s.ws.length d]] w fun e w' => e = .returned (.bool true) ∧ Below w.heap.size w w' := by
  obtain ⟨v, lo, bw, ws⟩ := s
  simp only [] at hr hs ⊢
  have h2 : Below w.heap.size w ((w.alloc (Obj.cells #[Value.int .i64 v, Value.int .i64 lo, Value.int .i64 bw, Value.slice a ws.length c] 86)).alloc (Obj.cells #[Value.int .i64 v, Value.int .i64 lo, Value.int .i64 bw, Value.slice b ws.length d] 86)) := ((Below.refl _ _).alloc (Nat.le_refl _) _).alloc (by simp) _
  have HE : Hid (∀ u, Below w.heap.size w u → Calls Try.prog 38 #[.agg #[.int .i64 bw, .slice a ws.length c], .agg #[.int .i64 bw, .slice b ws.length d]] u fun e w' => e = .returned (.bool true) ∧ Below u.heap.size u w') := fun u hu => by
    have := eqBits_any bw bw a b c d ws ws u (hr.later hu) (hs.later hu)
    simpa using this
  have B2 := kide h2
  have e0 : (v != v) = false := by simp
  have e1 : (lo != lo) = false := by simp
  clear hr hs h2
  go_enter Try.func68, Try.ntmps68
  go_wp2_with fail
  refine Calls.mono (HE.out _ B2.out) ?_
  rintro e w1 ⟨rfl, hb1⟩
  go_wp2_with fail
  go_ret
  exact ⟨rfl, B2.out.trans (hb1.mono (by simp; omega))⟩

end Go.Proofs.Ythoiajpbpoglfaa

/- Contracts of the laws' own small functions on rows of bars: compared, copied. -/
namespace Go.Proofs.Ythoiajpbpoglfaa
set_option linter.unusedVariables false
set_option linter.unusedSimpArgs false
open Go.RowKit

theorem eqBarS_same (a b : Option Addr) (c d : Nat) (xs ys : List Yg) (w : World) (hr : RdBr w a xs) (hs : RdBr w b ys) (he : xs.map Yg.ct = ys.map Yg.ct) (n : Nat) (h1 : xs.length = n) (h2 : ys.length = n) :
    Calls Try.prog 40 #[.slice a n c, .slice b n d] w fun e w' => e = .returned (.bool true) ∧ Below w.heap.size w w' := by
  have hl1 := hr.1
  rw [h1] at hl1
  have hne : ((n : Int) != (n : Int)) = false := by simp
  have H1 := kide h1
  have H2 := kide h2
  have HE := kide he
  clear h1 h2 he
  go_enter Try.func40, Try.ntmps40
  go_wp2_with fail
  clear hne
  go_loopw [5] (fun i wr => ∃ k : Nat, k ≤ n ∧ i = .int .i64 k ∧ Below w.heap.size w wr) (fun i _ => n - (intOf i).toNat)
  case atStart => exact ⟨0, Nat.zero_le _, rfl, Below.refl _ _⟩
  case round =>
    obtain ⟨k, hk, rfl, hbel⟩ := hrel
    have HB := kide hbel
    by_cases hlt : k < n
    · obtain ⟨-, h | ⟨b1, o1, rfl, hc1⟩⟩ := hr
      · have := H1.out; subst h; simp at this; omega
      obtain ⟨-, h | ⟨b2, o2, rfl, hc2⟩⟩ := hs
      · have := H2.out; subst h; simp at this; omega
      obtain ⟨⟨s1, a1, c1⟩, hx⟩ : ∃ x, xs[k]? = some x := ⟨xs[k]'(by rw [H1.out]; exact hlt), List.getElem?_eq_getElem _⟩
      obtain ⟨⟨s2, a2, c2⟩, hy⟩ : ∃ y, ys[k]? = some y := ⟨ys[k]'(by rw [H2.out]; exact hlt), List.getElem?_eq_getElem _⟩
      have hxy : s1 = s2 := by
        have h := congrArg (fun l => l[k]?) HE.out
        simp [hx, hy] at h
        exact h
      subst hxy
      obtain ⟨⟨p0, p1, p2, p3⟩, pr, -⟩ := (hc1 k _ hx).later hbel
      obtain ⟨⟨q0, q1, q2, q3⟩, qr, -⟩ := (hc2 k _ hy).later hbel
      simp only [Yg.hd] at p0 p1 p2 p3 pr q0 q1 q2 q3 qr
      have l1 := block_lt_of_cell p0
      have l2 := block_lt_of_cell q0
      have i0 : (k : Int) < (n : Int) := by omega
      have HEQ := kide (fun u (hu : Below wr.heap.size wr u) => eqBar_same s1 a1 a2 c1 c2 u (pr.later hu) (qr.later hu))
      obtain ⟨v, lo, bw, ws⟩ := s1
      simp only [] at p0 p1 p2 p3 q0 q1 q2 q3 HEQ
      clear hc1 hc2 hbel hx hy pr qr
      go_wp2_with fail
      go_region_held3 (fun u => u.cell? ⟨b1, o1 + k * 4, none⟩ = some (Value.int .i64 v) ∧ u.cell? ⟨b1, o1 + k * 4 + 1, none⟩ = some (Value.int .i64 lo) ∧ u.cell? ⟨b1, o1 + k * 4 + 2, none⟩ = some (Value.int .i64 bw) ∧ u.cell? ⟨b1, o1 + k * 4 + 3, none⟩ = some (Value.slice a1 ws.length c1) ∧ u.cell? ⟨b2, o2 + k * 4, none⟩ = some (Value.int .i64 v) ∧ u.cell? ⟨b2, o2 + k * 4 + 1, none⟩ = some (Value.int .i64 lo) ∧ u.cell? ⟨b2, o2 + k * 4 + 2, none⟩ = some (Value.int .i64 bw) ∧ u.cell? ⟨b2, o2 + k * 4 + 3, none⟩ = some (Value.slice a2 ws.length c2)) (simp [*])
        ((go_at_call 68; refine Calls.mono (HEQ.out _ ?_) ?_; exact (Below.refl _ _).drew; rintro e w1 ⟨rfl, hb1⟩; replace hb1 := kundrew hb1; have k0 := kcell hb1 b1 (o1 + k * 4) l1; have k1 := kcell hb1 b1 (o1 + k * 4 + 1) l1; have k2 := kcell hb1 b1 (o1 + k * 4 + 2) l1; have k3 := kcell hb1 b1 (o1 + k * 4 + 3) l1; have j0 := kcell hb1 b2 (o2 + k * 4) l2; have j1 := kcell hb1 b2 (o2 + k * 4 + 1) l2; have j2 := kcell hb1 b2 (o2 + k * 4 + 2) l2; have j3 := kcell hb1 b2 (o2 + k * 4 + 3) l2))
      go_wp2_with fail
      go_roundw
      case rel => exact ⟨k + 1, by omega, by go_num, HB.out.trans (hb1.mono HB.out.size)⟩
      case measure => simp [intOf]; omega
    · clear hbel
      go_wp2_with fail
      go_ret
      exact ⟨rfl, HB.out⟩

theorem toBar_any (s : Yc) (a : Option Addr) (c : Nat) (w : World) (hr : Rd w a s.ws) :
    Calls Try.prog 62 #[.agg #[.int .i64 s.v, .int .i64 s.lo, .int .i64 s.bw, .slice a s.ws.length c]] w fun e w' => ∃ g, e = .returned (.agg #[.int .i64 s.v, .int .i64 s.lo, .int .i64 s.bw, .slice (some ⟨g, 0, none⟩) s.ws.length s.ws.length]) ∧ w.heap.size ≤ g ∧ Own w' g s.ws ∧ Below w.heap.size w w' := by
  obtain ⟨v, lo, bw, ws⟩ := s
  simp only [] at hr ⊢
  go_enter Try.func62, Try.ntmps62
  go_wp2_with fail
  have h3 : Below w.heap.size w (((w.alloc (Obj.cells #[Value.int .i64 v, Value.int .i64 lo, Value.int .i64 bw, Value.slice a ws.length c] 95)).alloc (Obj.cells #[Value.int .i64 0, Value.int .i64 0, Value.int .i64 0, Value.slice none 0 0] 86)).alloc (Obj.cells #[Value.int .i64 v, Value.int .i64 lo, Value.int .i64 0, Value.slice none 0 0] 86)) := (((Below.refl _ _).alloc (Nat.le_refl _) _).alloc (by simp) _).alloc (by simp; omega) _
  refine (toBits_any bw a c ws _ (hr.later h3)).mono ?_
  rintro e w1 ⟨g, rfl, hg, hown, hb⟩
  obtain ⟨hc, hf⟩ := bcell hb
  have hz : w.heap.size + 1 + 1 < w1.heap.size := by have := hb.size; simp at this; omega
  have hg3 : w.heap.size + 3 ≤ g := by simp at hg; omega
  have HO := kide hown
  have HB := kide (h3.trans (hb.mono h3.size))
  clear hown hb hr h3 hg
  go_wp2_with fail
  refine bodyPost_ret (v := .agg #[.int .i64 v, .int .i64 lo, .int .i64 bw, .slice (some ⟨g, 0, none⟩) ws.length ws.length]) (by simp [results, Try.results62, go_sem, hc]) rfl ⟨g, rfl, by omega, ?_, ?_⟩
  · repeat (refine Own.other ?_ (by simp; omega) _)
    exact HO.out
  · repeat (refine Below.setCell ?_ (by simp <;> omega) _)
    exact HB.out

theorem Try.infoBar : (Try.prog.info? 86).map (fun i => (i.zero, i.size, i.bytes)) = some (some (.agg #[.int .i64 0, .int .i64 0, .int .i64 0, .slice none 0 0]), 4, 48) := by kernel_rfl

theorem make_bars (n : Nat) (hn : n ≤ 1048576) (kl kc : IntKind) (w : World) :
    (Instr.makeSlice 30 (.int kl (n : Int)) (.int kc (n : Int))).run Try.prog w = .ok (.slice (some ⟨w.heap.size, 0, none⟩) n n) (w.alloc (.cells (madeCells #[.int .i64 0, .int .i64 0, .int .i64 0, .slice none 0 0] (n * 4)) 86)) := by
  obtain ⟨i0, hi, hz0, hz1, hz2⟩ := info_parts Try.infoBar
  have := run_make (P := Try.prog) w 30 86 i0 _ Try.underlying30 hi hz0 kl kc n n (by omega) (Int.le_refl _) (by rw [hz2]; omega) (by omega)
  rw [hz1] at this
  simp only [Int.toNat_natCast] at this
  exact this

/-- A copied bar: its bits lie in a block of their own. -/
def YgOwn (w : World) (G : Nat) (f : Nat → Value) (j : Nat) (x : Yg) : Prop :=
  f (j * 4) = .int .i64 x.ct.v ∧ f (j * 4 + 1) = .int .i64 x.ct.lo ∧ f (j * 4 + 2) = .int .i64 x.ct.bw ∧ f (j * 4 + 3) = .slice x.a x.ct.ws.length x.c ∧ ∃ g, x.a = some ⟨g, 0, none⟩ ∧ G < g ∧ Own w g x.ct.ws

theorem YgOwn.later {w w' : World} {G j : Nat} {f : Nat → Value} {x : Yg} (h : YgOwn w G f j x) (hb : Below w.heap.size w w') : YgOwn w' G f j x := by
  obtain ⟨h0, h1, h2, h3, g, h5, h6, h7⟩ := h
  exact ⟨h0, h1, h2, h3, g, h5, h6, h7.later hb h7.lt⟩

theorem YgOwn.put {w w' : World} {G j k : Nat} {f f' : Nat → Value} {x : Yg} (h : YgOwn w G f j x) (hw : ∀ g, G < g → w'.heap[g]? = w.heap[g]?) (hf : ∀ i, i < k * 4 → f' i = f i) (hk : j < k) : YgOwn w' G f' j x := by
  obtain ⟨h0, h1, h2, h3, g, h5, h6, h7⟩ := h
  refine ⟨by rw [hf _ (by omega)]; exact h0, by rw [hf _ (by omega)]; exact h1, by rw [hf _ (by omega)]; exact h2, by rw [hf _ (by omega)]; exact h3, g, h5, h6, ?_⟩
  unfold Own
  rw [hw g h6]; exact h7

theorem ksetB {w : World} {p : Addr} {a : Addr} {v : Value} {x : Value} (h : w.cell? p = some x) (hn : p.block ≠ a.block) : (w.setCell a v).cell? p = some x := by
  rw [World.cell?_setCell_far _ _ _ _ hn.symm]; exact h

theorem RdI.setB {w : World} {a : Option Addr} {ks : List Int} (h : RdI w a ks) {B : Nat} (hf : ∀ b o sp, a = some ⟨b, o, sp⟩ → B ≤ b) {p : Addr} (hp : p.block < B) (v : Value) : RdI (w.setCell p v) a ks := by
  obtain ⟨h1, h2, h3⟩ := h
  refine ⟨h1, h2, ?_⟩
  rcases h3 with h3 | ⟨b, o, rfl, hc⟩
  · exact .inl h3
  · have := hf b o none rfl
    exact .inr ⟨b, o, rfl, fun i hi => ksetB (hc i hi) (by simp; omega)⟩

theorem Rd.setB {w : World} {a : Option Addr} {ks : List Nat} (h : Rd w a ks) {B : Nat} (hf : ∀ b o sp, a = some ⟨b, o, sp⟩ → B ≤ b) {p : Addr} (hp : p.block < B) (v : Value) : Rd (w.setCell p v) a ks := by
  obtain ⟨h1, h2, h3⟩ := h
  refine ⟨h1, h2, ?_⟩
  rcases h3 with h3 | ⟨b, o, rfl, hc⟩
  · exact .inl h3
  · have := hf b o none rfl
    exact .inr ⟨b, o, rfl, fun i hi => ksetB (hc i hi) (by simp; omega)⟩

/-- All of it lies from the block B on. -/
def FarB (B : Nat) (a : Option Addr) (xs : List Yg) : Prop := (∀ b o sp, a = some ⟨b, o, sp⟩ → B ≤ b) ∧ ∀ x ∈ xs, ∀ b o sp, x.a = some ⟨b, o, sp⟩ → B ≤ b
theorem FarB.mono {B B' : Nat} {a : Option Addr} {xs : List Yg} (h : FarB B a xs) (hB : B' ≤ B) : FarB B' a xs := ⟨fun b o sp e => Nat.le_trans hB (h.1 b o sp e), fun x hx b o sp e => Nat.le_trans hB (h.2 x hx b o sp e)⟩

theorem RdBr.set {w : World} {a : Option Addr} {xs : List Yg} (h : RdBr w a xs) {B : Nat} (hf : FarB B a xs) {p : Addr} (hp : p.block < B) (v : Value) : RdBr (w.setCell p v) a xs := by
  refine ⟨h.1, ?_⟩
  rcases h.2 with h3 | ⟨b, o, rfl, hc⟩
  · exact .inl h3
  · have := hf.1 b o none rfl
    refine .inr ⟨b, o, rfl, fun i n hi => ?_⟩
    obtain ⟨⟨c0, c1, c2, c3⟩, r1, r3⟩ := hc i n hi
    have hn := hf.2 n (List.mem_of_getElem? hi)
    exact ⟨⟨ksetB c0 (by simp; omega), ksetB c1 (by simp; omega), ksetB c2 (by simp; omega), ksetB c3 (by simp; omega)⟩, r1.setB hn hp v, r3⟩

set_option maxHeartbeats 1000000 in
theorem toBarS_far (a : Option Addr) (c : Nat) (xs : List Yg) (w : World) (hr : RdBr w a xs) :
    Calls Try.prog 32 #[.slice a xs.length c] w fun e w' => ∃ ms : List Yg, e = .returned (.slice (some ⟨w.heap.size, 0, none⟩) xs.length xs.length) ∧ ms.map Yg.ct = xs.map Yg.ct ∧ RdBr w' (some ⟨w.heap.size, 0, none⟩) ms ∧ FarB w.heap.size (some ⟨w.heap.size, 0, none⟩) ms ∧ Below w.heap.size w w' := by
  have hlen := hr.1
  have hmk := make_bars xs.length hlen
  go_enter Try.func32, Try.ntmps32
  go_wp2_with fail
  have hrow := krow (heap_alloc_new w (.cells (madeCells #[.int .i64 0, .int .i64 0, .int .i64 0, .slice none 0 0] (xs.length * 4)) 86))
  rw [size_madeCells] at hrow
  have hb0 : Below w.heap.size w (w.alloc (.cells (madeCells #[.int .i64 0, .int .i64 0, .int .i64 0, .slice none 0 0] (xs.length * 4)) 86)) := (Below.refl _ _).alloc (Nat.le_refl _) _
  have hs0 : w.heap.size < (w.alloc (.cells (madeCells #[.int .i64 0, .int .i64 0, .int .i64 0, .slice none 0 0] (xs.length * 4)) 86)).heap.size := by simp
  generalize (w.alloc (.cells (madeCells #[.int .i64 0, .int .i64 0, .int .i64 0, .slice none 0 0] (xs.length * 4)) 86)) = w0 at *
  go_loopw [4] (fun i wr => ∃ (k : Nat) (f : Nat → Value) (ms : List Yg), k ≤ xs.length ∧ i = .int .i64 k ∧ wr.rowIs w.heap.size 86 (xs.length * 4) f ∧ ms.length = k ∧ ms.map Yg.ct = (xs.take k).map Yg.ct ∧ (∀ j x, ms[j]? = some x → YgOwn wr w.heap.size f j x) ∧ Below w.heap.size w wr ∧ w.heap.size < wr.heap.size) (fun i _ => xs.length - (intOf i).toNat)
  case atStart => exact ⟨0, _, [], Nat.zero_le _, rfl, hrow, rfl, rfl, fun j x h => by simp at h, hb0, hs0⟩
  case round =>
    obtain ⟨k, f, ms, hk, rfl, hrw, hml, hmc, hms, hbel, hsz⟩ := hrel
    clear hrow hb0 hs0
    by_cases hlt : k < xs.length
    · obtain ⟨-, h | ⟨b, o, rfl, hc⟩⟩ := hr
      · subst h; simp at hlt
      obtain ⟨⟨s1, a1, c1⟩, hx⟩ : ∃ x, xs[k] = x := ⟨_, rfl⟩
      have gx : xs[k]? = some ⟨s1, a1, c1⟩ := by rw [List.getElem?_eq_getElem hlt, hx]
      obtain ⟨⟨p0, p1, p2, p3⟩, pr, -⟩ := (hc k _ gx).later hbel
      simp only [Yg.hd] at p0 p1 p2 p3 pr
      clear hx
      have HTO := kide (toBar_any s1 a1 c1 wr pr)
      have GX : Hid _ := gx
      have HML : Hid _ := hml
      have HMC : Hid _ := hmc
      have HMS : Hid _ := hms
      have HR : Hid _ := hrw
      have HB : Hid _ := hbel
      have i0 : (k : Int) < (xs.length : Int) := by omega
      clear gx hml hmc hms hc hrw hbel hmk pr
      obtain ⟨v, lo, bw, ws⟩ := s1
      simp only [] at p0 p1 p2 p3 HTO
      go_wp2_with fail
      refine Calls.mono HTO.out ?_
      rintro e w1 ⟨g, rfl, hg, hown, hb1⟩
      have hr1 := World.rowIs.of_block HR.out (hb1.block _ hsz)
      have q0 := hr1.cell (i := k * 4) (by omega)
      have q1 := hr1.cell (i := k * 4 + 1) (by omega)
      have q2 := hr1.cell (i := k * 4 + 2) (by omega)
      have q3 := hr1.cell (i := k * 4 + 3) (by omega)
      have r0 := hr1.frozen (k * 4)
      have r1 := hr1.frozen (k * 4 + 1)
      have r2 := hr1.frozen (k * 4 + 2)
      have r3 := hr1.frozen (k * 4 + 3)
      have HR1 : Hid _ := hr1
      clear hr1
      go_wp2_with fail
      go_roundw
      case rel =>
        have hl := HML.out
        have hgk : w.heap.size < g := by omega
        refine ⟨k + 1, _, ms ++ [⟨⟨v, lo, bw, ws⟩, some ⟨g, 0, none⟩, ws.length⟩], by omega, by go_num, World.rowIs.set (World.rowIs.set (World.rowIs.set (World.rowIs.set HR1.out (k * 4) (.int .i64 v)) (k * 4 + 1) (.int .i64 lo)) (k * 4 + 2) (.int .i64 bw)) (k * 4 + 3) (.slice (some ⟨g, 0, none⟩) ws.length ws.length), by simp [hl], ?_, fun j x hj => ?_, ?_, ?_⟩
        · have h := HMC.out
          rw [List.map_append, h, List.take_add_one, GX.out, List.map_append]
          rfl
        · rw [List.getElem?_append] at hj
          split at hj
          · refine ((HMS.out j x hj).later hb1).put (k := k) (fun g' hg' => ?_) (fun i hi => ?_) (by omega)
            · rw [heap_setCell_other _ _ _ _ (by simp; omega), heap_setCell_other _ _ _ _ (by simp; omega), heap_setCell_other _ _ _ _ (by simp; omega), heap_setCell_other _ _ _ _ (by simp; omega)]
            · show (if _ then _ else _) = _
              rw [if_neg (by omega), if_neg (by omega), if_neg (by omega), if_neg (by omega)]
          · have hj2 : j - ms.length = 0 := by
              have := (List.getElem?_eq_some_iff.1 hj).1
              simp at this; exact this
            rw [hj2] at hj
            simp at hj
            subst hj
            have hjk : j = k := by omega
            subst hjk
            refine ⟨by simp, by simp, by simp, by simp, g, rfl, hgk, ?_⟩
            exact (((hown.other (by simp; omega) _).other (by simp; omega) _).other (by simp; omega) _).other (by simp; omega) _
        · exact ((((HB.out.trans (hb1.mono HB.out.size)).setCell (Nat.le_refl _) _).setCell (Nat.le_refl _) _).setCell (Nat.le_refl _) _).setCell (Nat.le_refl _) _
        · have := hb1.size
          simp; omega
      case measure => simp [intOf]; omega
    · have e : k = xs.length := by omega
      have HM : Hid _ := hml
      have HC : Hid _ := hmc
      have HS : Hid _ := hms
      have HR : Hid _ := hrw
      have HB : Hid _ := hbel
      have HE : Hid _ := e
      clear hml hmc hms hrw hbel e hmk
      go_wp2_with fail
      go_ret
      refine ⟨ms, rfl, ?_, ⟨by rw [HM.out]; omega, .inr ⟨_, 0, rfl, fun i x hi => ?_⟩⟩, ⟨fun b o sp h => by cases h; exact Nat.le_refl _, fun x hx b o sp h => ?_⟩, HB.out⟩
      · have h := HC.out
        rw [HE.out, List.take_length] at h
        exact h
      · obtain ⟨h0, h1, h2, h3, g, h5, h6, h7⟩ := HS.out i x hi
        have hik : i < k := by have := (List.getElem?_eq_some_iff.1 hi).1; rw [HM.out] at this; exact this
        have hct : ∃ y, xs[i]? = some y ∧ y.ct = x.ct := by
          have h := HC.out
          rw [HE.out, List.take_length] at h
          have h' : (ms.map Yg.ct)[i]? = (xs.map Yg.ct)[i]? := by rw [h]
          rw [List.getElem?_map, List.getElem?_map, hi, Option.map_some] at h'
          cases hy : xs[i]? with
          | none => rw [hy] at h'; cases h'
          | some y => rw [hy] at h'; simp at h'; exact ⟨y, rfl, h'.symm⟩
        obtain ⟨y, hy, hyx⟩ := hct
        obtain ⟨-, hn | ⟨b, o, -, hc⟩⟩ := hr
        · subst hn; simp at hy
        obtain ⟨-, ⟨l1, l2, -⟩, l3⟩ := hc i y hy
        rw [hyx] at l1 l2 l3
        refine ⟨⟨?_, ?_, ?_, ?_⟩, ?_, l3⟩
        · rw [Nat.zero_add]; exact (World.rowIs.cell HR.out (by omega)).trans (congrArg some h0)
        · rw [Nat.zero_add]; exact (World.rowIs.cell HR.out (by omega)).trans (congrArg some h1)
        · rw [Nat.zero_add]; exact (World.rowIs.cell HR.out (by omega)).trans (congrArg some h2)
        · rw [Nat.zero_add]; exact (World.rowIs.cell HR.out (by omega)).trans (congrArg some h3)
        · rw [h5]
          exact Own.rd h7 l1 l2
      · obtain ⟨i, hi, e⟩ := List.mem_iff_getElem.1 hx
        obtain ⟨-, -, -, -, g, h5, h6, -⟩ := HS.out i x (by rw [List.getElem?_eq_getElem hi, e])
        rw [h5] at h; cases h; omega

end Go.Proofs.Ythoiajpbpoglfaa

/- Contracts of the laws' own functions on graphs: how long, compared, copied. -/
namespace Go.Proofs.Ythoiajpbpoglfaa
set_option linter.unusedVariables false
set_option linter.unusedSimpArgs false
open Go.RowKit

theorem kfrozB {W w1 : World} (hb : Below W.heap.size W w1) (b o : Nat) (h : b < W.heap.size) : w1.frozen? ⟨b, o, none⟩ = W.frozen? ⟨b, o, none⟩ := hb.frozen (p := ⟨b, o, none⟩) h

theorem szGraph_any (a1 a2 : Option Addr) (n1 c1 n2 c2 : Nat) (Z : Int) (w : World) (hn1 : n1 ≤ 9223372036854775807) (hZ : Z = -1 ∨ 0 ≤ Z)
    (H2 : Hid ((n1 : Int) ≤ 1048576 → ∀ u, Below w.heap.size w u → Calls Try.prog 25 #[.slice a2 n2 c2, .int .i64 (1048576 - n1)] u fun e w' => e = .returned (.int .i64 Z) ∧ Below u.heap.size u w')) :
    Calls Try.prog 6 #[.agg #[.slice a1 n1 c1, .slice a2 n2 c2], .int .i64 1048576] w fun e w' => e = .returned (.int .i64 (if (n1 : Int) ≤ 1048576 then Z else -1)) ∧ Below w.heap.size w w' := by
  have hb0 : Below w.heap.size w (w.alloc (Obj.cells #[Value.slice a1 n1 c1, Value.slice a2 n2 c2] 25)) := (Below.refl _ _).alloc (Nat.le_refl _) _
  have B0 := kide hb0
  clear hb0
  have HI := kide (fun u => szInt64S_any a1 n1 c1 1048576 u (by omega) (by omega) hn1)
  by_cases h1 : (n1 : Int) ≤ 1048576
  · rw [if_pos h1]
    rw [if_pos h1] at HI
    have HC := kide (H2.out h1)
    rcases hZ with rfl | hZ
    all_goals
      go_enter Try.func6, Try.ntmps6
      go_wp2_with fail
      refine Calls.mono (HI.out _) ?_
      rintro e wx ⟨rfl, rfl⟩
      go_wp2_with fail
      refine Calls.mono (HC.out _ B0.out) ?_
      rintro e w2 ⟨rfl, hb2⟩
      go_wp2_with fail
      go_ret
      exact ⟨rfl, B0.out.trans (hb2.mono B0.out.size)⟩
  · rw [if_neg h1]
    rw [if_neg h1] at HI
    go_enter Try.func6, Try.ntmps6
    go_wp2_with fail
    refine Calls.mono (HI.out _) ?_
    rintro e wx ⟨rfl, rfl⟩
    go_wp2_with fail
    go_ret
    exact ⟨rfl, B0.out⟩

/-- A graph as it lies: widths, bars. -/
structure Gz where
  a1 : Option Addr
  c1 : Nat
  ks : List Int
  a2 : Option Addr
  c2 : Nat
  bs : List Yg

def Gz.val (z : Gz) : Value := .agg #[.slice z.a1 z.ks.length z.c1, .slice z.a2 z.bs.length z.c2]
def Gz.ct (z : Gz) : List Int × List Yc := (z.ks, z.bs.map Yg.ct)
def RdG (w : World) (z : Gz) : Prop := RdI w z.a1 z.ks ∧ RdBr w z.a2 z.bs
theorem RdG.later {w w' : World} {z : Gz} (h : RdG w z) (hb : Below w.heap.size w w') : RdG w' z := ⟨h.1.later hb, h.2.later hb⟩

theorem eqGraph_same (x y : Gz) (w : World) (hx : RdG w x) (hy : RdG w y) (he : x.ct = y.ct) :
    Calls Try.prog 11 #[x.val, y.val] w fun e w' => e = .returned (.bool true) ∧ Below w.heap.size w w' := by
  obtain ⟨xa1, xc1, xks, xa2, xc2, xbs⟩ := x
  obtain ⟨ya1, yc1, yks, ya2, yc2, ybs⟩ := y
  simp only [Gz.ct, Prod.mk.injEq] at he
  obtain ⟨rfl, he2⟩ := he
  have hl2 : ybs.length = xbs.length := by simpa using (congrArg List.length he2).symm
  simp only [Gz.val, hl2]
  obtain ⟨x1, x2⟩ := hx
  obtain ⟨y1, y2⟩ := hy
  simp only [] at x1 x2 y1 y2
  have H1 : Hid (∀ u, Below w.heap.size w u → Calls Try.prog 39 #[.slice xa1 xks.length xc1, .slice ya1 xks.length yc1] u fun e w' => e = .returned (.bool true) ∧ Below u.heap.size u w') := fun u hu => by
    have := eqInt64S_any xa1 ya1 xc1 yc1 xks xks u (x1.later hu) (y1.later hu)
    simpa using this
  have H2 := kide (fun u (hu : Below w.heap.size w u) => eqBarS_same xa2 ya2 xc2 yc2 xbs ybs u (x2.later hu) (y2.later hu) he2 _ rfl hl2)
  generalize xks.length = n1 at *
  generalize xbs.length = n2 at *
  have h2 : Below w.heap.size w ((w.alloc (Obj.cells #[Value.slice xa1 n1 xc1, Value.slice xa2 n2 xc2] 32)).alloc (Obj.cells #[Value.slice ya1 n1 yc1, Value.slice ya2 n2 yc2] 32)) := ((Below.refl _ _).alloc (Nat.le_refl _) _).alloc (by simp) _
  have B2 := kide h2
  clear x1 x2 y1 y2 he2 hl2 h2
  go_enter Try.func11, Try.ntmps11
  go_wp2_with fail
  refine Calls.mono (H1.out _ B2.out) ?_
  rintro e w1 ⟨rfl, hb1⟩
  have k1 : w1.cell? ⟨w.heap.size, 1, none⟩ = some (Value.slice xa2 n2 xc2) := by rw [kcell hb1 _ _ (by simp; omega)]; simp [go_sem]
  have j1 : w1.cell? ⟨w.heap.size + 1, 1, none⟩ = some (Value.slice ya2 n2 yc2) := by rw [kcell hb1 _ _ (by simp)]; simp [go_sem]
  have B3 := kide (B2.out.trans (hb1.mono B2.out.size))
  clear hb1
  go_wp2_with fail
  refine Calls.mono (H2.out _ B3.out) ?_
  rintro e w2 ⟨rfl, hb2⟩
  go_wp2_with fail
  go_ret
  exact ⟨rfl, B3.out.trans (hb2.mono B3.out.size)⟩

set_option maxHeartbeats 1000000 in
theorem toGraph_any (z : Gz) (w : World) (hz : RdG w z) :
    Calls Try.prog 8 #[z.val] w fun e w' => ∃ y : Gz, e = .returned y.val ∧ y.ct = z.ct ∧ RdG w' y ∧ Below w.heap.size w w' := by
  obtain ⟨a1, c1, ks, a2, c2, bs⟩ := z
  obtain ⟨z1, z2⟩ := hz
  simp only [Gz.val, Gz.ct] at z1 z2 ⊢
  have H1 := kide (fun u (hu : Below w.heap.size w u) => toInt64S_any a1 c1 ks u (z1.later hu))
  have H2 := kide (fun u (hu : Below w.heap.size w u) => toBarS_far a2 c2 bs u (z2.later hu))
  have HK3 := kide (z1.1)
  have HK4 := kide (z1.2.1)
  clear z1 z2
  have h3 : Below w.heap.size w (((w.alloc (Obj.cells #[Value.slice a1 ks.length c1, Value.slice a2 bs.length c2] 25)).alloc (Obj.cells #[Value.slice none 0 0, Value.slice none 0 0] 32)).alloc (Obj.cells #[Value.slice none 0 0, Value.slice none 0 0] 32)) := (((Below.refl _ _).alloc (Nat.le_refl _) _).alloc (by simp) _).alloc (by simp; omega) _
  have B0 := kide h3
  clear h3
  go_enter Try.func8, Try.ntmps8
  go_wp2_with fail
  refine Calls.mono (H1.out _ B0.out) ?_
  rintro e w1 ⟨rfl, hown, hb1⟩
  have hz1 : w.heap.size + 3 ≤ w1.heap.size := by have := hb1.size; simp at this; omega
  have O1 : Hid (OwnI w1 (w.heap.size + 3) ks) := by have h := hown; simp at h; exact h
  have l1 : w.heap.size + 3 < w1.heap.size := O1.out.lt
  have p1 : w1.cell? ⟨w.heap.size, 1, none⟩ = some (Value.slice a2 bs.length c2) := by rw [kcell hb1 _ _ (by first | (simp; done) | (simp; omega))]; simp [go_sem]
  have qa0 : w1.cell? ⟨w.heap.size + 1, 0, none⟩ = some (Value.slice none 0 0) := by rw [kcell hb1 _ _ (by first | (simp; done) | (simp; omega))]; simp [go_sem]
  have qa1 : w1.cell? ⟨w.heap.size + 1, 1, none⟩ = some (Value.slice none 0 0) := by rw [kcell hb1 _ _ (by first | (simp; done) | (simp; omega))]; simp [go_sem]
  have qb0 : w1.cell? ⟨w.heap.size + 1 + 1, 0, none⟩ = some (Value.slice none 0 0) := by rw [kcell hb1 _ _ (by first | (simp; done) | (simp; omega))]; simp [go_sem]
  have qb1 : w1.cell? ⟨w.heap.size + 1 + 1, 1, none⟩ = some (Value.slice none 0 0) := by rw [kcell hb1 _ _ (by first | (simp; done) | (simp; omega))]; simp [go_sem]
  have fa0 : w1.frozen? ⟨w.heap.size + 1, 0, none⟩ = false := by rw [kfrozB hb1 _ _ (by first | (simp; done) | (simp; omega))]; simp [go_sem]
  have fb0 : w1.frozen? ⟨w.heap.size + 1 + 1, 0, none⟩ = false := by rw [kfrozB hb1 _ _ (by first | (simp; done) | (simp; omega))]; simp [go_sem]
  have fa1 : w1.frozen? ⟨w.heap.size + 1, 1, none⟩ = false := by rw [kfrozB hb1 _ _ (by first | (simp; done) | (simp; omega))]; simp [go_sem]
  have fb1 : w1.frozen? ⟨w.heap.size + 1 + 1, 1, none⟩ = false := by rw [kfrozB hb1 _ _ (by first | (simp; done) | (simp; omega))]; simp [go_sem]
  have B1 := kide (B0.out.trans (hb1.mono B0.out.size))
  clear hb1 hown B0 H1
  have uc01 : (w1.setCell ⟨w.heap.size + 1 + 1, 0, none⟩ (Value.slice (some ⟨w.heap.size + 1 + 1 + 1, 0, none⟩) ks.length ks.length)).cell? ⟨w.heap.size, 1, none⟩ = some (Value.slice a2 bs.length c2) := by simp [go_sem, p1, qa0, qa1, qb0, qb1, fa0, fb0, fa1, fb1]
  have uc10 : (w1.setCell ⟨w.heap.size + 1 + 1, 0, none⟩ (Value.slice (some ⟨w.heap.size + 1 + 1 + 1, 0, none⟩) ks.length ks.length)).cell? ⟨w.heap.size + 1, 0, none⟩ = some (Value.slice none 0 0) := by simp [go_sem, p1, qa0, qa1, qb0, qb1, fa0, fb0, fa1, fb1]
  have uc11 : (w1.setCell ⟨w.heap.size + 1 + 1, 0, none⟩ (Value.slice (some ⟨w.heap.size + 1 + 1 + 1, 0, none⟩) ks.length ks.length)).cell? ⟨w.heap.size + 1, 1, none⟩ = some (Value.slice none 0 0) := by simp [go_sem, p1, qa0, qa1, qb0, qb1, fa0, fb0, fa1, fb1]
  have uc20 : (w1.setCell ⟨w.heap.size + 1 + 1, 0, none⟩ (Value.slice (some ⟨w.heap.size + 1 + 1 + 1, 0, none⟩) ks.length ks.length)).cell? ⟨w.heap.size + 1 + 1, 0, none⟩ = some (Value.slice (some ⟨w.heap.size + 1 + 1 + 1, 0, none⟩) ks.length ks.length) := by simp [go_sem, p1, qa0, qa1, qb0, qb1, fa0, fb0, fa1, fb1]
  have uc21 : (w1.setCell ⟨w.heap.size + 1 + 1, 0, none⟩ (Value.slice (some ⟨w.heap.size + 1 + 1 + 1, 0, none⟩) ks.length ks.length)).cell? ⟨w.heap.size + 1 + 1, 1, none⟩ = some (Value.slice none 0 0) := by simp [go_sem, p1, qa0, qa1, qb0, qb1, fa0, fb0, fa1, fb1]
  have uf10 : (w1.setCell ⟨w.heap.size + 1 + 1, 0, none⟩ (Value.slice (some ⟨w.heap.size + 1 + 1 + 1, 0, none⟩) ks.length ks.length)).frozen? ⟨w.heap.size + 1, 0, none⟩ = false := by simp [go_sem, p1, qa0, qa1, qb0, qb1, fa0, fb0, fa1, fb1]
  have uf11 : (w1.setCell ⟨w.heap.size + 1 + 1, 0, none⟩ (Value.slice (some ⟨w.heap.size + 1 + 1 + 1, 0, none⟩) ks.length ks.length)).frozen? ⟨w.heap.size + 1, 1, none⟩ = false := by simp [go_sem, p1, qa0, qa1, qb0, qb1, fa0, fb0, fa1, fb1]
  have uf20 : (w1.setCell ⟨w.heap.size + 1 + 1, 0, none⟩ (Value.slice (some ⟨w.heap.size + 1 + 1 + 1, 0, none⟩) ks.length ks.length)).frozen? ⟨w.heap.size + 1 + 1, 0, none⟩ = false := by simp [go_sem, p1, qa0, qa1, qb0, qb1, fa0, fb0, fa1, fb1]
  have uf21 : (w1.setCell ⟨w.heap.size + 1 + 1, 0, none⟩ (Value.slice (some ⟨w.heap.size + 1 + 1 + 1, 0, none⟩) ks.length ks.length)).frozen? ⟨w.heap.size + 1 + 1, 1, none⟩ = false := by simp [go_sem, p1, qa0, qa1, qb0, qb1, fa0, fb0, fa1, fb1]
  have BW1 : Hid (Below w.heap.size w (w1.setCell ⟨w.heap.size + 1 + 1, 0, none⟩ (Value.slice (some ⟨w.heap.size + 1 + 1 + 1, 0, none⟩) ks.length ks.length))) := B1.out.setCell (by first | (simp; done) | (simp; omega)) _
  have OW1 : Hid (OwnI (w1.setCell ⟨w.heap.size + 1 + 1, 0, none⟩ (Value.slice (some ⟨w.heap.size + 1 + 1 + 1, 0, none⟩) ks.length ks.length)) (w.heap.size + 3) ks) := O1.out.other (by first | (simp; done) | (simp; omega)) _
  have hzW1 : w.heap.size + 3 < (w1.setCell ⟨w.heap.size + 1 + 1, 0, none⟩ (Value.slice (some ⟨w.heap.size + 1 + 1 + 1, 0, none⟩) ks.length ks.length)).heap.size := by simp; omega
  go_wp2_with fail
  clear p1 qa0 qa1 qb0 qb1 fa0 fb0 fa1 fb1
  generalize w1.setCell ⟨w.heap.size + 1 + 1, 0, none⟩ (Value.slice (some ⟨w.heap.size + 1 + 1 + 1, 0, none⟩) ks.length ks.length) = W1 at *
  clear B1 O1 hz1 l1
  refine Calls.mono (H2.out W1 BW1.out) ?_
  rintro e w2 ⟨m2, rfl, hm2, r2, f2, hb2⟩
  have BX2 := kide (BW1.out.trans (hb2.mono BW1.out.size))
  have OX1 := kide (OW1.out.later hb2 hzW1)
  have R2 := kide r2
  have F2 : Hid (FarB (w.heap.size + 3) (some ⟨W1.heap.size, 0, none⟩) m2) := f2.mono (by omega)
  have M2 := kide hm2
  have hz2 : w.heap.size + 3 < w2.heap.size := Nat.lt_of_lt_of_le hzW1 hb2.size
  have vc01 := (kcell hb2 (w.heap.size) 1 (by omega)).trans uc01
  have vc10 := (kcell hb2 (w.heap.size + 1) 0 (by omega)).trans uc10
  have vc11 := (kcell hb2 (w.heap.size + 1) 1 (by omega)).trans uc11
  have vc20 := (kcell hb2 (w.heap.size + 1 + 1) 0 (by omega)).trans uc20
  have vc21 := (kcell hb2 (w.heap.size + 1 + 1) 1 (by omega)).trans uc21
  have vf10 := (kfrozB hb2 (w.heap.size + 1) 0 (by omega)).trans uf10
  have vf11 := (kfrozB hb2 (w.heap.size + 1) 1 (by omega)).trans uf11
  have vf20 := (kfrozB hb2 (w.heap.size + 1 + 1) 0 (by omega)).trans uf20
  have vf21 := (kfrozB hb2 (w.heap.size + 1 + 1) 1 (by omega)).trans uf21
  clear hb2 r2 f2 hm2 uc01 uc10 uc11 uc20 uc21 uf10 uf11 uf20 uf21 BW1 OW1 H2
  go_wp2_with fail
  refine bodyPost_ret (v := .agg #[.slice (some ⟨w.heap.size + 1 + 1 + 1, 0, none⟩) ks.length ks.length, .slice (some ⟨W1.heap.size, 0, none⟩) bs.length bs.length]) (by simp [results, Try.results8, go_sem, vc01, vc10, vc11, vc20, vc21, vf10, vf11, vf20, vf21]) rfl ?_
  have hl : m2.length = bs.length := by simpa using congrArg List.length M2.out
  refine ⟨⟨some ⟨w.heap.size + 3, 0, none⟩, ks.length, ks, some ⟨W1.heap.size, 0, none⟩, bs.length, m2⟩, by simp [hl], by simp [M2.out], ⟨?_, ?_⟩, ?_⟩
  · refine RdI.setB ?_ (B := w.heap.size + 3) (fun b o sp h => by cases h; exact Nat.le_refl _) (by first | (simp; done) | (simp; omega)) _
    refine RdI.setB ?_ (B := w.heap.size + 3) (fun b o sp h => by cases h; exact Nat.le_refl _) (by first | (simp; done) | (simp; omega)) _
    refine RdI.setB ?_ (B := w.heap.size + 3) (fun b o sp h => by cases h; exact Nat.le_refl _) (by first | (simp; done) | (simp; omega)) _
    exact OX1.out.rd HK3.out HK4.out
  · exact (((R2.out.set F2.out (by first | (simp; done) | (simp; omega)) _).set F2.out (by first | (simp; done) | (simp; omega)) _).set F2.out (by first | (simp; done) | (simp; omega)) _)
  · exact (((BX2.out.setCell (by first | (simp; done) | (simp; omega)) _).setCell (by first | (simp; done) | (simp; omega)) _).setCell (by first | (simp; done) | (simp; omega)) _)

end Go.Proofs.Ythoiajpbpoglfaa

/- Right graphs as plain lists; what the program says of one bar. -/
namespace Go.Proofs.Ythoiajpbpoglfaa
set_option linter.unusedVariables false
set_option linter.unusedSimpArgs false
open Go.RowKit

def ndOk (n : Nat) (x : Int) : Bool := decide (0 ≤ x) && decide (x < n)

/-- Is a bar right for nodes of these widths? -/
def brOk (ks : List Int) (s : Yc) : Bool :=
  ndOk ks.length s.v && (if s.lo = -1 then rightB s.bw s.ws && decide (s.bw = ks.getD s.v.toNat 0)
    else ndOk ks.length s.lo && decide (s.lo ≠ s.v) && decide (ks.getD s.lo.toNat 0 = ks.getD s.v.toNat 0) && decide (s.bw = 0) && decide (s.ws.length = 0))

/-- Is a graph right? -/
def graphR (ks : List Int) (bs : List Yc) : Bool := decide (ks.length ≤ 200) && decide (bs.length ≤ 1000) && ks.all wOk && bs.all (brOk ks)

theorem graphR_long {ks : List Int} {bs : List Yc} (h : 200 < ks.length ∨ 1000 < bs.length) : graphR ks bs = false := by
  rw [Bool.eq_false_iff]
  intro h'
  simp only [graphR, Bool.and_eq_true, decide_eq_true_eq] at h'
  omega
theorem graphR_wide {ks : List Int} {bs : List Yc} {k : Nat} (h : k < ks.length) (hb : wOk (ks.getD k 0) = false) : graphR ks bs = false := by
  rw [Bool.eq_false_iff]
  intro h'
  simp only [graphR, Bool.and_eq_true, decide_eq_true_eq, List.all_eq_true] at h'
  have := h'.1.2 _ (List.getElem_mem h)
  simp [List.getD, h] at hb
  rw [hb] at this
  cases this
theorem graphR_bar {ks : List Int} {bs : List Yc} {k : Nat} {s : Yc} (h : bs[k]? = some s) (hb : brOk ks s = false) : graphR ks bs = false := by
  rw [Bool.eq_false_iff]
  intro h'
  simp only [graphR, Bool.and_eq_true, decide_eq_true_eq, List.all_eq_true] at h'
  have := h'.2 _ (List.mem_of_getElem? h)
  rw [hb] at this
  cases this
theorem graphR_good {ks : List Int} {bs : List Yc} (h1 : ks.length ≤ 200) (h2 : bs.length ≤ 1000) (h3 : ∀ k, k < ks.length → wOk (ks.getD k 0) = true) (h4 : ∀ (k : Nat) (s : Yc), bs[k]? = some s → brOk ks s = true) : graphR ks bs = true := by
  simp only [graphR, Bool.and_eq_true, decide_eq_true_eq, List.all_eq_true]
  refine ⟨⟨⟨h1, h2⟩, fun x hx => ?_⟩, fun s hs => ?_⟩
  · obtain ⟨i, hi, e⟩ := List.mem_iff_getElem.1 hx
    have := h3 i hi
    simp [List.getD, hi, e] at this
    exact this
  · obtain ⟨i, hi, e⟩ := List.mem_iff_getElem.1 hs
    exact h4 i s (by rw [List.getElem?_eq_getElem hi, e])

theorem isNode_any (a1 a2 : Option Addr) (n1 c1 n2 c2 : Nat) (x : Int) (w : World) (hn : n1 ≤ 1048576) :
    Calls Try.prog 48 #[.agg #[.slice a1 n1 c1, .slice a2 n2 c2], .int .i64 x] w fun e w' => e = .returned (.bool (ndOk n1 x)) ∧ Below w.heap.size w w' := by
  have hb0 : Below w.heap.size w (w.alloc (Obj.cells #[Value.slice a1 n1 c1, Value.slice a2 n2 c2] 32)) := (Below.refl _ _).alloc (Nat.le_refl _) _
  have B0 := kide hb0
  clear hb0
  by_cases h1 : 0 ≤ x
  · have hR : ndOk n1 x = decide (x < (n1 : Int)) := by simp [ndOk, h1]
    rw [hR]
    clear hR
    go_enter Try.func48, Try.ntmps48
    go_wp2_with fail
    go_ret
    exact ⟨rfl, B0.out⟩
  · have hR : ndOk n1 x = false := by simp [ndOk, h1]
    rw [hR]
    clear hR
    go_enter Try.func48, Try.ntmps48
    go_wp2_with fail
    go_ret
    exact ⟨rfl, B0.out⟩

end Go.Proofs.Ythoiajpbpoglfaa

/- What the program's barOk answers. -/
namespace Go.Proofs.Ythoiajpbpoglfaa
set_option linter.unusedVariables false
set_option linter.unusedSimpArgs false
open Go.RowKit

/-- Two boxes of a call stand. -/
def Bb (w : World) (o1 o2 : Obj) (wk : World) : Prop := Below (w.heap.size + 2) ((w.alloc o1).alloc o2) wk
theorem Bb.start (w : World) (o1 o2 : Obj) : Bb w o1 o2 ((w.alloc o1).alloc o2) := Below.refl _ _
theorem Bb.size {w wk : World} {o1 o2 : Obj} (h : Bb w o1 o2 wk) : w.heap.size + 2 ≤ wk.heap.size := by have := Below.size h; simpa using this
theorem Bb.next {w wk w1 : World} {o1 o2 : Obj} (h : Bb w o1 o2 wk) (hb : Below wk.heap.size wk w1) : Bb w o1 o2 w1 := Below.trans h (hb.mono h.size)
theorem Bb.below {w wk : World} {o1 o2 : Obj} (h : Bb w o1 o2 wk) : Below w.heap.size w wk := Below.trans (Below.alloc (Below.alloc (Below.refl _ _) (Nat.le_refl _) _) (by simp) _) (Below.mono h (by omega))
theorem Bb.one {w wk : World} {cs : Array Value} {t : TypeId} {o2 : Obj} (h : Bb w (.cells cs t) o2 wk) (i : Nat) : wk.cell? ⟨w.heap.size, i, none⟩ = cs[i]? := by
  rw [Below.cell h (by simp)]; simp [go_sem]
theorem Bb.two {w wk : World} {cs : Array Value} {t : TypeId} {o1 : Obj} (h : Bb w o1 (.cells cs t) wk) (i : Nat) : wk.cell? ⟨w.heap.size + 1, i, none⟩ = cs[i]? := by
  rw [Below.cell h (by simp)]; simp [go_sem]

set_option maxHeartbeats 1000000 in
theorem barOk_any (a1 a2 : Option Addr) (c1 n2 c2 : Nat) (ks : List Int) (s : Yc) (a : Option Addr) (c : Nat) (w : World) (hk : RdI w a1 ks) (hr : Rd w a s.ws) :
    Calls Try.prog 64 #[.agg #[.slice a1 ks.length c1, .slice a2 n2 c2], .agg #[.int .i64 s.v, .int .i64 s.lo, .int .i64 s.bw, .slice a s.ws.length c]] w fun e w' => e = .returned (.bool (brOk ks s)) ∧ Below w.heap.size w w' := by
  have hl := hk.1
  have hlw := hr.1
  have HN := kide (fun (x : Int) u => isNode_any a1 a2 ks.length c1 n2 c2 x u hl)
  have HOK := kide (fun u (hu : Below w.heap.size w u) => implOk_any s.bw a c s.ws u (hr.later hu))
  have HRD := kide (fun u (hu : Below w.heap.size w u) => hk.later hu)
  obtain ⟨v, lo, bw, ws⟩ := s
  simp only [brOk] at HOK hlw hr ⊢
  have s0 := Bb.start w (.cells #[Value.slice a1 ks.length c1, Value.slice a2 n2 c2] 32) (.cells #[Value.int .i64 v, Value.int .i64 lo, Value.int .i64 bw, Value.slice a ws.length c] 86)
  clear hk hr
  have HN1 := kide (HN.out v)
  have HN2 := kide (HN.out lo)
  cases h1 : ndOk ks.length v with
  | false =>
    rw [h1] at HN1
    rw [Bool.false_and]
    clear h1
    go_enter Try.func64, Try.ntmps64
    go_wp2_with fail
    refine Calls.mono (HN1.out _) ?_
    rintro e w1 ⟨rfl, hb1⟩
    have s1 := s0.next hb1
    have g0 := s1.one 0
    have g1 := s1.one 1
    have k0 := s1.two 0
    have k1 := s1.two 1
    have k2 := s1.two 2
    have k3 := s1.two 3
    simp at g0 g1 k0 k1 k2 k3
    go_wp2_with fail
    go_ret
    exact ⟨rfl, s1.below⟩
  | true =>
    rw [h1] at HN1
    rw [Bool.true_and]
    obtain ⟨k, rfl, hk2⟩ : ∃ k : Nat, v = (k : Int) ∧ k < ks.length := ⟨v.toNat, by simp [ndOk] at h1; omega, by simp [ndOk] at h1; omega⟩
    have hki : (k : Int) < (ks.length : Int) := by omega
    rw [Int.toNat_natCast]
    obtain ⟨x, hx⟩ : ∃ x, ks.getD k 0 = x := ⟨_, rfl⟩
    rw [hx]
    have HX := kide hx
    clear h1 hx
    by_cases h2 : lo = -1
    · subst h2
      rw [if_pos rfl]
      have hm : ((-1 : Int) == -1) = true := by simp
      cases h3 : rightB bw ws with
      | false =>
        rw [h3] at HOK
        rw [Bool.false_and]
        clear h3
        go_enter Try.func64, Try.ntmps64
        go_wp2_with fail
        refine Calls.mono (HN1.out _) ?_
        rintro e w1 ⟨rfl, hb1⟩
        have s1 := s0.next hb1
        have g0 := s1.one 0
        have g1 := s1.one 1
        have k0 := s1.two 0
        have k1 := s1.two 1
        have k2 := s1.two 2
        have k3 := s1.two 3
        simp at g0 g1 k0 k1 k2 k3
        obtain ⟨-, -, h | ⟨b, o, rfl, hc⟩⟩ := HRD.out w1 s1.below
        · subst h; simp at hk2
        have q0 := hc k hk2
        rw [HX.out] at q0
        clear hc
        clear hb1 s0
        go_wp2_with fail
        refine Calls.mono (HOK.out _ s1.below) ?_
        rintro e w2 ⟨rfl, hb2⟩
        have s2 := s1.next hb2
        have i2 := s2.two 2
        simp at i2
        clear hb2 s1
        go_wp2_with fail
        go_ret
        exact ⟨rfl, s2.below⟩
      | true =>
        rw [h3] at HOK
        rw [Bool.true_and]
        clear h3
        go_enter Try.func64, Try.ntmps64
        go_wp2_with fail
        refine Calls.mono (HN1.out _) ?_
        rintro e w1 ⟨rfl, hb1⟩
        have s1 := s0.next hb1
        have g0 := s1.one 0
        have g1 := s1.one 1
        have k0 := s1.two 0
        have k1 := s1.two 1
        have k2 := s1.two 2
        have k3 := s1.two 3
        simp at g0 g1 k0 k1 k2 k3
        obtain ⟨-, -, h | ⟨b, o, rfl, hc⟩⟩ := HRD.out w1 s1.below
        · subst h; simp at hk2
        have q0 := hc k hk2
        rw [HX.out] at q0
        clear hc
        clear hb1 s0
        go_wp2_with fail
        refine Calls.mono (HOK.out _ s1.below) ?_
        rintro e w2 ⟨rfl, hb2⟩
        have s2 := s1.next hb2
        have i2 := s2.two 2
        simp at i2
        clear hb2 s1
        go_wp2_with fail
        go_ret
        exact ⟨ret_bool (by first | rfl | (by_cases hq : bw = x <;> simp [hq])), s2.below⟩
    · rw [if_neg h2]
      have hm : (lo == -1) = false := by simp [h2]
      clear h2
      cases h3 : ndOk ks.length lo with
      | false =>
        rw [h3] at HN2
        simp only [Bool.false_and]
        clear h3
        go_enter Try.func64, Try.ntmps64
        go_wp2_with fail
        refine Calls.mono (HN1.out _) ?_
        rintro e w1 ⟨rfl, hb1⟩
        have s1 := s0.next hb1
        have g0 := s1.one 0
        have g1 := s1.one 1
        have k0 := s1.two 0
        have k1 := s1.two 1
        have k2 := s1.two 2
        have k3 := s1.two 3
        simp at g0 g1 k0 k1 k2 k3
        obtain ⟨-, -, h | ⟨b, o, rfl, hc⟩⟩ := HRD.out w1 s1.below
        · subst h; simp at hk2
        have q0 := hc k hk2
        rw [HX.out] at q0
        clear hc
        clear hb1 s0
        go_wp2_with fail
        refine Calls.mono (HN2.out _) ?_
        rintro e w2 ⟨rfl, hb2⟩
        have s2 := s1.next hb2
        have f0 := s2.one 0
        have i0 := s2.two 0
        have i1 := s2.two 1
        have i2 := s2.two 2
        have i3 := s2.two 3
        simp at f0 i0 i1 i2 i3
        clear hb2 s1
        go_wp2_with fail
        go_ret
        exact ⟨rfl, s2.below⟩
      | true =>
        rw [h3] at HN2
        obtain ⟨j, rfl, hj2⟩ : ∃ j : Nat, lo = (j : Int) ∧ j < ks.length := ⟨lo.toNat, by simp [ndOk] at h3; omega, by simp [ndOk] at h3; omega⟩
        have hji : (j : Int) < (ks.length : Int) := by omega
        simp only [Bool.true_and, Int.toNat_natCast]
        obtain ⟨y, hy⟩ : ∃ y, ks.getD j 0 = y := ⟨_, rfl⟩
        simp only [hy]
        have HY := kide hy
        clear h3 hy
        by_cases h4 : (j : Int) = k
        · have hR : (decide ((j : Int) ≠ k) && decide (y = x) && decide (bw = 0) && decide (ws.length = 0)) = false := by simp [h4]
          rw [hR]
          have hne : ((j : Int) != (k : Int)) = false := by simp [h4]
          clear hR h4
          go_enter Try.func64, Try.ntmps64
          go_wp2_with fail
          refine Calls.mono (HN1.out _) ?_
          rintro e w1 ⟨rfl, hb1⟩
          have s1 := s0.next hb1
          have g0 := s1.one 0
          have g1 := s1.one 1
          have k0 := s1.two 0
          have k1 := s1.two 1
          have k2 := s1.two 2
          have k3 := s1.two 3
          simp at g0 g1 k0 k1 k2 k3
          obtain ⟨-, -, h | ⟨b, o, rfl, hc⟩⟩ := HRD.out w1 s1.below
          · subst h; simp at hk2
          have q0 := hc k hk2
          rw [HX.out] at q0
          clear hc
          clear hb1 s0
          go_wp2_with fail
          refine Calls.mono (HN2.out _) ?_
          rintro e w2 ⟨rfl, hb2⟩
          have s2 := s1.next hb2
          have f0 := s2.one 0
          have i0 := s2.two 0
          have i1 := s2.two 1
          have i2 := s2.two 2
          have i3 := s2.two 3
          simp at f0 i0 i1 i2 i3
          clear hb2 s1
          go_wp2_with fail
          go_ret
          exact ⟨rfl, s2.below⟩
        · have hne : ((j : Int) != (k : Int)) = true := by simp; omega
          have hd : decide ((j : Int) ≠ k) = true := by simp; omega
          rw [hd, Bool.true_and]
          clear hd h4
          have hC : ∃ E F G : Bool, E = (y == x) ∧ F = (bw == 0) ∧ G = ((ws.length : Int) == 0) := ⟨_, _, _, rfl, rfl, rfl⟩
          obtain ⟨E, F, G, hE, hF, hG⟩ := hC
          have hR : (decide (y = x) && decide (bw = 0) && decide (ws.length = 0)) = (E && F && G) := by
            rw [hE, hF, hG]
            congr 1
            by_cases h : ws.length = 0 <;> simp [h]
          rw [hR]
          clear hR
          have hE' := hE.symm
          have hF' := hF.symm
          have hG' := hG.symm
          clear hE hF hG
          cases E <;> cases F <;> cases G
          all_goals
            go_enter Try.func64, Try.ntmps64
            go_wp2_with fail
            refine Calls.mono (HN1.out _) ?_
            rintro e w1 ⟨rfl, hb1⟩
            have s1 := s0.next hb1
            have g0 := s1.one 0
            have g1 := s1.one 1
            have k0 := s1.two 0
            have k1 := s1.two 1
            have k2 := s1.two 2
            have k3 := s1.two 3
            simp at g0 g1 k0 k1 k2 k3
            obtain ⟨-, -, h | ⟨b, o, rfl, hc⟩⟩ := HRD.out w1 s1.below
            · subst h; simp at hk2
            have q0 := hc k hk2
            rw [HX.out] at q0
            clear hc hb1 s0
            go_wp2_with fail
            refine Calls.mono (HN2.out _) ?_
            rintro e w2 ⟨rfl, hb2⟩
            have s2 := s1.next hb2
            have f0 := s2.one 0
            have i0 := s2.two 0
            have i1 := s2.two 1
            have i2 := s2.two 2
            have i3 := s2.two 3
            simp at f0 i0 i1 i2 i3
            clear hb2 s1
            obtain ⟨-, -, h | ⟨b', o', he, hc2⟩⟩ := HRD.out w2 s2.below
            · subst h; simp at hk2
            cases he
            have q1 := hc2 j hj2
            rw [HY.out] at q1
            clear hc2
            go_wp2_with fail
            go_ret
            exact ⟨rfl, s2.below⟩

end Go.Proofs.Ythoiajpbpoglfaa

/- Rows of numbers of one's own. -/
namespace Go.Proofs.Ythoiajpbpoglfaa
set_option linter.unusedVariables false
set_option linter.unusedSimpArgs false
open Go.RowKit

/-- An owned row of numbers. -/
def OI (w : World) (B : Nat) (v : Value) (l : List Int) : Prop := w.ownsRow B 2 1 v l.length (i64s l).toList
theorem OI.move {w w' : World} {B : Nat} {v : Value} {l : List Int} (h : OI w B v l) (hk : ∀ b, v.ownBlock = some b → w'.heap[b]? = w.heap[b]?) : OI w' B v l := by
  refine ⟨h.1, ?_⟩
  rcases h.2 with h0 | ⟨g, cap, cur, rfl, hg, hh, r⟩
  · exact .inl h0
  · exact .inr ⟨g, cap, cur, rfl, hg, (hk g rfl).trans hh, r⟩
theorem OI.lt {w : World} {B : Nat} {v : Value} {l : List Int} (h : OI w B v l) {b : Nat} (hb : v.ownBlock = some b) : B ≤ b ∧ b < w.heap.size := by
  rcases h.2 with ⟨rfl, -⟩ | ⟨g, cap, cur, rfl, hg, hh, -⟩
  · cases hb
  · cases hb
    exact ⟨hg, lt_of_block hh⟩
theorem OI.later {w w' : World} {B : Nat} {v : Value} {l : List Int} (h : OI w B v l) (hb : Below w.heap.size w w') : OI w' B v l := h.move fun b hb' => hb.block b (h.lt hb').2
theorem OI.empty (w : World) (B : Nat) (h : B ≤ w.heap.size) : OI (w.alloc (.cells #[] 2)) B (.slice (some ⟨w.heap.size, 0, Option.none⟩) 0 0) [] := World.ownsRow_made w #[] 0 h (Nat.zero_le _) (by simp)
theorem OI.rd {w : World} {B : Nat} {v : Value} {l : List Int} (h : OI w B v l) (hl : l.length ≤ 1048576) (hx : ∀ x ∈ l, in64 x) : ∃ a c, v = .slice a l.length c ∧ RdI w a l := by
  rcases h.2 with ⟨rfl, h0⟩ | ⟨g, cap, cur, rfl, hg, hh, hc1, hc2, hsz, hcur⟩
  · have e := List.eq_nil_of_length_eq_zero h0
    subst e
    exact ⟨none, 0, rfl, by simp, by simp, .inl rfl⟩
  · refine ⟨some ⟨g, 0, none⟩, cap, rfl, hl, hx, .inr ⟨g, 0, rfl, fun i hi => ?_⟩⟩
    have h3 : (cur.toList.take (l.length * 1))[i]? = (i64s l).toList[i]? := by rw [hcur]
    rw [List.getElem?_take, if_pos (by omega)] at h3
    simp only [Array.getElem?_toList] at h3
    rw [Nat.zero_add, cell_of_row w g i cur _ _ hh, h3, i64s_get _ _ hi]
theorem wpList_appI {w : World} {ops : Array Oper} {rest : List Oper} {o : Oper} {a : Act} {Q : Exit → Act → World → Prop} (hgd : o.guard = none) (s x : Operand)
    (ho : o.op = .call { callee := .builtin .append, args := #[s, x], argTypes := #[22, 22] })
    (B : Nat) (v : Value) (l : List Int) (y : Int) (hs : a.eval s = v) (hown : OI w B v l) (gx c : Nat) (hx : a.eval x = .slice (some ⟨gx, 0, none⟩) 1 c)
    (h0 : w.cell? ⟨gx, 0, none⟩ = some (.int .i64 y)) (hl : l.length ≤ 1073741824) (hB : B ≤ w.heap.size)
    (h : ∀ g cap w', OI w' B (.slice (some ⟨g, 0, none⟩) (l.length + 1) cap) (l ++ [y]) → w.grownBy w' v.ownBlock → (v.ownBlock = some g ∨ g = w.heap.size) → wpList Try.prog ops Q rest (a.put o.dst (.slice (some ⟨g, 0, none⟩) (l.length + 1) cap)) w') : wpList Try.prog ops Q (o :: rest) a w := by
  obtain ⟨i0, hi, hz0, hz1, hz2⟩ := info_parts Try.infoI64
  refine wpList_append_lies w hgd s x 22 ho B 2 i0 _ 1 8 Try.underlying22 hi hz0 hz1 hz2 rfl (by decide) v l.length (i64s l).toList hs hown ⟨gx, 0, none⟩ 1 c [.int .i64 y] hx rfl ?_ ?_ (by decide) ?_ ?_ hB _ rfl ?_
  · intro j u hj
    rw [Addr.add_lit]
    match j, hj with
    | 0, hj => simp at hj; subst hj; exact h0
    | j + 1, hj => simp at hj
  · intro u hu
    simp at hu
    subst hu
    rfl
  · unfold maxLen; omega
  · omega
  · intro g cap w' h1 h2 h3 _
    refine h g cap w' ?_ h2 h3
    unfold OI
    rw [List.length_append]
    simpa [i64s] using h1

theorem step_appI (w : World) {ops : Array Oper} {o : Oper} {a : Act} {K : Act → World → Prop} {Q : Exit → Act → World → Prop} {E : Prop} (hgd : o.guard = none) (s x : Operand)
    (ho : o.op = .call { callee := .builtin .append, args := #[s, x], argTypes := #[22, 22] })
    (B : Nat) (v : Value) (l : List Int) (y : Int) (hs : a.eval s = v) (hown : OI w B v l) (gx c : Nat) (hx : a.eval x = .slice (some ⟨gx, 0, none⟩) 1 c)
    (h0 : w.cell? ⟨gx, 0, none⟩ = some (.int .i64 y)) (hl : l.length ≤ 1073741824) (hB : B ≤ w.heap.size)
    (h : ∀ g cap w', OI w' B (.slice (some ⟨g, 0, none⟩) (l.length + 1) cap) (l ++ [y]) → w.grownBy w' v.ownBlock → (v.ownBlock = some g ∨ g = w.heap.size) → K (a.put o.dst (.slice (some ⟨g, 0, none⟩) (l.length + 1) cap)) w') :
    if Region.wanted o (yielded ops a.tmps) = true then Oper.wp Try.prog o a w K Q else E := by
  obtain ⟨i0, hi, hz0, hz1, hz2⟩ := info_parts Try.infoI64
  refine step_append_lies w hgd s x 22 ho B 2 i0 _ 1 8 Try.underlying22 hi hz0 hz1 hz2 rfl (by decide) v l.length (i64s l).toList hs hown ⟨gx, 0, none⟩ 1 c [.int .i64 y] hx rfl ?_ ?_ (by decide) ?_ ?_ hB _ rfl ?_
  · intro j u hj
    rw [Addr.add_lit]
    match j, hj with
    | 0, hj => simp at hj; subst hj; exact h0
    | j + 1, hj => simp at hj
  · intro u hu
    simp at hu
    subst hu
    rfl
  · unfold maxLen; omega
  · omega
  · intro g cap w' h1 h2 h3 _
    refine h g cap w' ?_ h2 h3
    unfold OI
    rw [List.length_append]
    simpa [i64s] using h1

end Go.Proofs.Ythoiajpbpoglfaa
