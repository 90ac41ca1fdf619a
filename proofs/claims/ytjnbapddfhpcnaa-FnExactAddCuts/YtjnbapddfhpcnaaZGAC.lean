/- Several texts in one. -/
import Derived.Test.YtjnbapddfhpcnaaZGAB
import Derived.WalkSpells
import Derived.Deep.QuietTactic
import Derived.BigQuiet
import Derived.Outline
import Derived.WalkSmall
import Derived.Deep.OwnRows
import Derived.Test.YtjnbapddfhpcnaaZGAA
import Derived.Deep.RegionHeld3
import Derived.Maps.Own
import Derived.Maps.OwnSet

/- Small lemmas on worlds that every text uses. -/
namespace Go.Proofs.Ytjnbapddfhpcnaa
set_option linter.unusedVariables false
set_option linter.unusedSimpArgs false
open Go.RowKit

theorem kide {p : Prop} (h : p) : Hid p := h
/-- Behind a call that lets all old blocks be: all old cells read as before. -/
theorem kcell {W w1 : World} (hb : Below W.heap.size W w1) (b o : Nat) (h : b < W.heap.size) : w1.cell? ⟨b, o, none⟩ = W.cell? ⟨b, o, none⟩ := hb.cell (p := ⟨b, o, none⟩) h
theorem kundrew {B : Nat} {w w' : World} (h : Below B w.drew w') : Below B w w' := ⟨h.os, h.tape, h.output, h.size, h.block⟩
theorem kstr_ne {s t : ByteArray} (h : s ≠ t) : (s.toList == t.toList) = false := by
  rw [ByteArray.toList_eq, ByteArray.toList_eq, beq_eq_false_iff_ne]
  intro e
  exact h (ByteArray.ext (Array.toList_inj.1 e))
theorem krow {w : World} {g : Nat} {c : Array Value} {t : TypeId} (h : w.heap[g]? = some (.cells c t (0, 0))) : w.rowIs g t c.size (fun i => (c[i]?).getD undef) :=
  ⟨c, h, rfl, fun i hi => by simp [hi]⟩

end Go.Proofs.Ytjnbapddfhpcnaa

/- Contracts of the laws' own small functions on rows of rows of whole numbers: how long, copied, compared. -/
namespace Go.Proofs.Ytjnbapddfhpcnaa
set_option linter.unusedVariables false
set_option linter.unusedSimpArgs false
open Go.RowKit

/-- A row as it lies: where, how long. -/
structure Ih where
  a : Option Addr
  n : Nat
  c : Nat

def RdIh (w : World) (a : Option Addr) (hs : List Ih) : Prop :=
  hs.length ≤ 1048576 ∧ (hs = [] ∨ ∃ b o, a = some ⟨b, o, none⟩ ∧ ∀ i h, hs[i]? = some h → w.cell? ⟨b, o + i, none⟩ = some (.slice h.a h.n h.c) ∧ h.n ≤ 9223372036854775807)

theorem RdIh.later {w w' : World} {a : Option Addr} {hs : List Ih} (h : RdIh w a hs) (hb : Below w.heap.size w w') : RdIh w' a hs := by
  refine ⟨h.1, ?_⟩
  rcases h.2 with h | ⟨b, o, rfl, hc⟩
  · exact .inl h
  · refine .inr ⟨b, o, rfl, fun i x hi => ?_⟩
    obtain ⟨f0, f2⟩ := hc i x hi
    exact ⟨by rw [kcell hb _ _ (block_lt_of_cell f0)]; exact f0, f2⟩

/-- What is left of L behind some rows; -1: nothing. -/
def szIl : List Ih → Int → Int
  | [], L => L
  | h :: t, L => if (h.n : Int) ≤ L then szIl t (L - h.n) else -1

theorem szIl_range (hs : List Ih) (L : Int) (hL : 0 ≤ L) : szIl hs L = -1 ∨ 0 ≤ szIl hs L ∧ szIl hs L ≤ L ∧ ∀ h ∈ hs, (h.n : Int) ≤ L := by
  induction hs generalizing L with
  | nil => right; simp [szIl]; exact hL
  | cons h t ih =>
    rw [szIl]
    split
    · rename_i hc
      rcases ih (L - h.n) (by omega) with e | ⟨e1, e2, e3⟩
      · left; exact e
      · right
        refine ⟨e1, by omega, fun x hx => ?_⟩
        rcases List.mem_cons.1 hx with rfl | hx
        · exact hc
        · have := e3 x hx; omega
    · left; rfl

theorem szInt64SS_in (a : Option Addr) (c : Nat) (hs : List Ih) (L : Int) (w : World) (hr : RdIh w a hs) (hL : 0 ≤ L) (hL2 : L ≤ 1048576) (h : (hs.length : Int) ≤ L) :
    Calls Try.prog 16 #[.slice a hs.length c, .int .i64 L] w fun e w' => e = .returned (.int .i64 (szIl hs (L - hs.length))) ∧ Below w.heap.size w w' := by
  have hlen := hr.1
  generalize hZ : szIl hs (L - hs.length) = Z
  have HZ : Hid (szIl hs (L - hs.length) = Z) := hZ
  clear hZ
  go_enter Try.func16, Try.ntmps16
  go_wp2_with fail
  go_loopw [1, 5] (fun l i wr => ∃ (k : Nat) (Q : Int), k ≤ hs.length ∧ i = .int .i64 k ∧ l = .int .i64 Q ∧ 0 ≤ Q ∧ Q ≤ 1048576 ∧ szIl (hs.drop k) Q = Z ∧ Below w.heap.size w wr) (fun _ i _ => hs.length - (intOf i).toNat)
  case atStart => exact ⟨0, _, Nat.zero_le _, rfl, rfl, by omega, by omega, by rw [List.drop_zero]; exact HZ.out, Below.refl _ _⟩
  case round =>
    obtain ⟨k, Q, hk, rfl, rfl, hQ0, hQ1, hq, hbel⟩ := hrel
    by_cases hlt : k < hs.length
    · obtain ⟨-, h | ⟨b, o, rfl, hc⟩⟩ := hr
      · subst h; simp at hlt
      obtain ⟨⟨a1, n1, c1⟩, hh⟩ : ∃ x, hs[k] = x := ⟨_, rfl⟩
      obtain ⟨f1, f2⟩ := hc k ⟨a1, n1, c1⟩ (by rw [List.getElem?_eq_getElem hlt, hh])
      simp only [] at f1 f2
      have g1 : wr.cell? ⟨b, o + k, none⟩ = some (.slice a1 n1 c1) := by rw [hbel.cell (by exact block_lt_of_cell f1)]; exact f1
      rw [List.drop_eq_getElem_cons hlt, hh, szIl] at hq
      simp only [] at hq
      have HQ : Hid _ := hq
      have HB : Hid _ := hbel
      clear hc hh f1 hbel hq
      by_cases hyes : (n1 : Int) ≤ Q
      · go_wp2_with (go_at_call 30; refine (szInt64S_any _ _ _ _ _ hQ0 hQ1 f2).mono ?_; rw [if_pos hyes]; rintro e w1 ⟨rfl, rfl⟩)
        go_roundw
        case rel =>
          have h := HQ.out
          rw [if_pos hyes] at h
          exact ⟨k + 1, _, by omega, by go_num, rfl, by omega, by omega, h, HB.out⟩
        case measure => simp [intOf]; omega
      · have hyes' : ¬ (n1 : Int) ≤ Q := hyes
        go_wp2_with (go_at_call 30; refine (szInt64S_any _ _ _ _ _ hQ0 hQ1 f2).mono ?_; rw [if_neg (by omega)]; rintro e w1 ⟨rfl, rfl⟩)
        go_ret
        have h := HQ.out
        rw [if_neg (by omega)] at h
        exact ⟨ret_int h, HB.out⟩
    · have e : k = hs.length := by omega
      rw [e, List.drop_length, szIl] at hq
      have HQ : Hid _ := hq
      clear hq
      go_wp2_with fail
      go_ret
      exact ⟨ret_int HQ.out, hbel⟩

theorem szInt64SS_out (a : Option Addr) (n c : Nat) (L : Int) (w : World) (hL : 0 ≤ L) (hL2 : L ≤ 1048576) (hn : n ≤ 9223372036854775807) (h : ¬ (n : Int) ≤ L) :
    Calls Try.prog 16 #[.slice a n c, .int .i64 L] w fun e w' => e = .returned (.int .i64 (-1)) ∧ w' = w := by
  go_enter Try.func16, Try.ntmps16
  go_wp2_with fail
  go_ret
  exact ⟨rfl, rfl⟩

/-- A row: where it lies, its numbers. -/
structure Iw where
  a : Option Addr
  c : Nat
  ks : List Int

def IwAt (w : World) (b o : Nat) (x : Iw) : Prop := w.cell? ⟨b, o, none⟩ = some (.slice x.a x.ks.length x.c) ∧ RdI w x.a x.ks

theorem IwAt.later {w w' : World} {b o : Nat} {x : Iw} (h : IwAt w b o x) (hb : Below w.heap.size w w') : IwAt w' b o x :=
  ⟨by rw [kcell hb _ _ (block_lt_of_cell h.1)]; exact h.1, h.2.later hb⟩

/-- A slice whose rows are xs, wherever it lies. -/
def RdII (w : World) (a : Option Addr) (xs : List Iw) : Prop :=
  xs.length ≤ 1048576 ∧ (xs = [] ∨ ∃ b o, a = some ⟨b, o, none⟩ ∧ ∀ i n, xs[i]? = some n → IwAt w b (o + i) n)

theorem RdII.later {w w' : World} {a : Option Addr} {xs : List Iw} (h : RdII w a xs) (hb : Below w.heap.size w w') : RdII w' a xs := by
  refine ⟨h.1, ?_⟩
  rcases h.2 with h | ⟨b, o, rfl, hc⟩
  · exact .inl h
  · exact .inr ⟨b, o, rfl, fun i n hi => (hc i n hi).later hb⟩

theorem eqInt64SS_same (a b : Option Addr) (c d : Nat) (xs ys : List Iw) (w : World) (hr : RdII w a xs) (hs : RdII w b ys) (he : xs.map Iw.ks = ys.map Iw.ks) (n : Nat) (h1 : xs.length = n) (h2 : ys.length = n) :
    Calls Try.prog 25 #[.slice a n c, .slice b n d] w fun e w' => e = .returned (.bool true) ∧ Below w.heap.size w w' := by
  have hl1 := hr.1
  rw [h1] at hl1
  have hne : ((n : Int) != (n : Int)) = false := by simp
  have H1 := kide h1
  have H2 := kide h2
  have HE := kide he
  clear h1 h2 he
  go_enter Try.func25, Try.ntmps25
  go_wp2_with fail
  clear hne
  go_loopw [5] (fun i wr => ∃ k : Nat, k ≤ n ∧ i = .int .i64 k ∧ Below w.heap.size w wr) (fun i _ => n - (intOf i).toNat)
  case atStart => exact ⟨0, Nat.zero_le _, rfl, Below.refl _ _⟩
  case round =>
    obtain ⟨k, hk, rfl, hbel⟩ := hrel
    have HB := kide hbel
    by_cases hlt : k < n
    · obtain ⟨-, h | ⟨b1, o1, rfl, hc1⟩⟩ := hr
      · have := H1.out; subst h; simp at this; omega
      obtain ⟨-, h | ⟨b2, o2, rfl, hc2⟩⟩ := hs
      · have := H2.out; subst h; simp at this; omega
      obtain ⟨⟨a1, c1, k1⟩, hx⟩ : ∃ x, xs[k]? = some x := ⟨xs[k]'(by rw [H1.out]; exact hlt), List.getElem?_eq_getElem _⟩
      obtain ⟨⟨a2, c2, k2⟩, hy⟩ : ∃ y, ys[k]? = some y := ⟨ys[k]'(by rw [H2.out]; exact hlt), List.getElem?_eq_getElem _⟩
      have hxy : k1 = k2 := by
        have h := congrArg (fun l => l[k]?) HE.out
        simp [hx, hy] at h
        exact h
      obtain rfl := hxy
      obtain ⟨p1, p2⟩ := (hc1 k _ hx).later hbel
      obtain ⟨q1, q2⟩ := (hc2 k _ hy).later hbel
      simp only [] at p1 p2 q1 q2
      have l1 := block_lt_of_cell p1
      have l2 := block_lt_of_cell q1
      have i0 : (k : Int) < (n : Int) := by omega
      have HEQ : Hid (∀ u, Below wr.heap.size wr u → Calls Try.prog 39 #[.slice a1 k1.length c1, .slice a2 k1.length c2] u fun e w' => e = .returned (.bool true) ∧ Below u.heap.size u w') := fun u hu => by
        have := eqInt64S_any a1 a2 c1 c2 k1 k1 u (p2.later hu) (q2.later hu)
        simpa using this
      clear hc1 hc2 hbel hx hy p2 q2
      go_wp2_with fail
      go_region_held3 (fun u => u.cell? ⟨b1, o1 + k, none⟩ = some (Value.slice a1 k1.length c1) ∧ u.cell? ⟨b2, o2 + k, none⟩ = some (Value.slice a2 k1.length c2)) (simp [*])
        ((go_at_call 39; refine Calls.mono (HEQ.out _ ?_) ?_; exact (Below.refl _ _).drew; rintro e w1 ⟨rfl, hb1⟩; replace hb1 := kundrew hb1; have k0 := kcell hb1 b1 (o1 + k) l1; have k2 := kcell hb1 b2 (o2 + k) l2))
      go_wp2_with fail
      go_roundw
      case rel => exact ⟨k + 1, by omega, by go_num, HB.out.trans (hb1.mono HB.out.size)⟩
      case measure => simp [intOf]; omega
    · clear hbel
      go_wp2_with fail
      go_ret
      exact ⟨rfl, HB.out⟩

theorem Try.infoRow : (Try.prog.info? 46).map (fun i => (i.zero, i.size, i.bytes)) = some (some (.slice none 0 0), 1, 24) := by kernel_rfl

theorem toInt64SS_any (a : Option Addr) (c : Nat) (xs : List Iw) (w : World) (hr : RdII w a xs) :
    Calls Try.prog 21 #[.slice a xs.length c] w fun e w' => ∃ ms : List Iw, e = .returned (.slice (some ⟨w.heap.size, 0, none⟩) xs.length xs.length) ∧ ms.map Iw.ks = xs.map Iw.ks ∧ (∀ u : World, (∀ g, w.heap.size ≤ g → u.heap[g]? = w'.heap[g]?) → RdII u (some ⟨w.heap.size, 0, none⟩) ms) ∧ Below w.heap.size w w' := by
  have hlen := hr.1
  have hmk := fun kl kc w => run_make_row' (P := Try.prog) 23 46 (.slice none 0 0) 24 Try.underlying23 Try.infoRow rfl kl kc xs.length (by omega) (by omega) w
  go_enter Try.func21, Try.ntmps21
  go_wp2_with fail
  have hrow := krow (heap_alloc_new w (.cells (madeCells #[.slice none 0 0] xs.length) 46))
  rw [size_madeCells] at hrow
  have hb0 : Below w.heap.size w (w.alloc (.cells (madeCells #[.slice none 0 0] xs.length) 46)) := (Below.refl _ _).alloc (Nat.le_refl _) _
  have hs0 : w.heap.size < (w.alloc (.cells (madeCells #[.slice none 0 0] xs.length) 46)).heap.size := by simp
  generalize (w.alloc (.cells (madeCells #[.slice none 0 0] xs.length) 46)) = w0 at *
  go_loopw [4] (fun i wr => ∃ (k : Nat) (f : Nat → Value) (ms : List Iw), k ≤ xs.length ∧ i = .int .i64 k ∧ wr.rowIs w.heap.size 46 xs.length f ∧ ms.length = k ∧ ms.map Iw.ks = (xs.take k).map Iw.ks ∧ (∀ j x, ms[j]? = some x → f j = .slice x.a x.ks.length x.c ∧ ∃ g, x.a = some ⟨g, 0, none⟩ ∧ w.heap.size < g ∧ OwnI wr g x.ks) ∧ Below w.heap.size w wr ∧ w.heap.size < wr.heap.size) (fun i _ => xs.length - (intOf i).toNat)
  case atStart => exact ⟨0, _, [], Nat.zero_le _, rfl, hrow, rfl, rfl, fun j x h => by simp at h, hb0, hs0⟩
  case round =>
    obtain ⟨k, f, ms, hk, rfl, hrw, hml, hmc, hms, hbel, hsz⟩ := hrel
    clear hrow hb0 hs0
    by_cases hlt : k < xs.length
    · obtain ⟨-, h | ⟨b, o, rfl, hc⟩⟩ := hr
      · subst h; simp at hlt
      obtain ⟨⟨a1, c1, k1⟩, hx⟩ : ∃ x, xs[k] = x := ⟨_, rfl⟩
      have gx : xs[k]? = some ⟨a1, c1, k1⟩ := by rw [List.getElem?_eq_getElem hlt, hx]
      obtain ⟨p1', p2'⟩ := (hc k _ gx).later hbel
      simp only [] at p1' p2'
      clear hx
      have GX : Hid _ := gx
      have HML : Hid _ := hml
      have HMC : Hid _ := hmc
      have HMS : Hid _ := hms
      have HR : Hid _ := hrw
      have HB : Hid _ := hbel
      have i0 : (k : Int) < (xs.length : Int) := by omega
      clear gx hml hmc hms hc hrw hbel hmk
      go_wp2_with fail
      refine (toInt64S_any _ _ _ _ p2').mono ?_
      rintro e w1 ⟨rfl, hown, hb1⟩
      have hr1 := World.rowIs.of_block HR.out (hb1.block _ hsz)
      have q1 := hr1.cell (i := k) (by omega)
      have r1 := hr1.frozen k
      have HR1 : Hid _ := hr1
      clear hr1
      go_wp2_with fail
      go_roundw
      case rel =>
        have hl := HML.out
        refine ⟨k + 1, _, ms ++ [⟨some ⟨wr.heap.size, 0, none⟩, k1.length, k1⟩], by omega, by go_num, World.rowIs.set HR1.out k (.slice (some ⟨wr.heap.size, 0, none⟩) k1.length k1.length), by simp [hl], ?_, fun j x hj => ?_, ?_, ?_⟩
        · have h := HMC.out
          rw [List.map_append, h, List.take_add_one, GX.out, List.map_append]
          rfl
        · rw [List.getElem?_append] at hj
          split at hj
          · obtain ⟨h0, g, h2, h3, h4⟩ := HMS.out j x hj
            refine ⟨?_, g, h2, h3, (h4.later hb1 h4.lt).other (by simp; omega) _⟩
            show (if _ then _ else _) = _
            rw [if_neg (by omega)]; exact h0
          · have hj2 : j - ms.length = 0 := by
              have := (List.getElem?_eq_some_iff.1 hj).1
              simp at this; exact this
            rw [hj2] at hj
            simp at hj
            subst hj
            have hjk : j = k := by omega
            subst hjk
            exact ⟨by simp, _, rfl, hsz, hown.other (by simp; omega) _⟩
        · exact (HB.out.trans (hb1.mono HB.out.size)).setCell (Nat.le_refl _) _
        · have := hb1.size
          simp; omega
      case measure => simp [intOf]; omega
    · have e : k = xs.length := by omega
      have HM : Hid _ := hml
      have HC : Hid _ := hmc
      have HS : Hid _ := hms
      have HR : Hid _ := hrw
      have HB : Hid _ := hbel
      have HE : Hid _ := e
      clear hml hmc hms hrw hbel e hmk
      go_wp2_with fail
      go_ret
      refine ⟨ms, rfl, ?_, fun u hu => ⟨by rw [HM.out]; omega, .inr ⟨_, 0, rfl, fun i x hi => ?_⟩⟩, HB.out⟩
      · have h := HC.out
        rw [HE.out, List.take_length] at h
        exact h
      · obtain ⟨h0, g, h2, h3, h4⟩ := HS.out i x hi
        have hik : i < k := by have := (List.getElem?_eq_some_iff.1 hi).1; rw [HM.out] at this; exact this
        have hct : ∃ y, xs[i]? = some y ∧ y.ks = x.ks := by
          have h := HC.out
          rw [HE.out, List.take_length] at h
          have h' : (ms.map Iw.ks)[i]? = (xs.map Iw.ks)[i]? := by rw [h]
          rw [List.getElem?_map, List.getElem?_map, hi, Option.map_some] at h'
          cases hy : xs[i]? with
          | none => rw [hy] at h'; cases h'
          | some y => rw [hy] at h'; simp at h'; exact ⟨y, rfl, h'.symm⟩
        obtain ⟨y, hy, hyx⟩ := hct
        obtain ⟨-, hn | ⟨b, o, -, hc⟩⟩ := hr
        · subst hn; simp at hy
        obtain ⟨-, ⟨l1, l2, -⟩⟩ := hc i y hy
        rw [hyx] at l1 l2
        refine ⟨?_, ?_⟩
        · rw [Nat.zero_add, ← h0]; exact World.rowIs.cell (World.rowIs.of_block HR.out (hu _ (Nat.le_refl _))) (by omega)
        · rw [h2]
          refine OwnI.rd (w := u) (g := g) ?_ l1 l2
          unfold OwnI
          rw [hu g (by omega)]
          exact h4

theorem kfroz {W w1 : World} (hb : Below W.heap.size W w1) (b o : Nat) (h : b < W.heap.size) : w1.frozen? ⟨b, o, none⟩ = W.frozen? ⟨b, o, none⟩ := hb.frozen (p := ⟨b, o, none⟩) h

end Go.Proofs.Ytjnbapddfhpcnaa

/- Contracts of the laws' own small functions on cuts. -/
namespace Go.Proofs.Ytjnbapddfhpcnaa
set_option linter.unusedVariables false
set_option linter.unusedSimpArgs false
open Go.RowKit

theorem szCuts_any (a : Option Addr) (n c : Nat) (L Z : Int) (w : World) (hZ : Z = -1 ∨ 0 ≤ Z)
    (HC : Hid (∀ u, Below w.heap.size w u → Calls Try.prog 16 #[.slice a n c, .int .i64 L] u fun e w' => e = .returned (.int .i64 Z) ∧ Below u.heap.size u w')) :
    Calls Try.prog 5 #[.agg #[.slice a n c], .int .i64 L] w fun e w' => e = .returned (.int .i64 Z) ∧ Below w.heap.size w w' := by
  have hb0 : Below w.heap.size w (w.alloc (Obj.cells #[Value.slice a n c] 25)) := (Below.refl _ _).alloc (Nat.le_refl _) _
  rcases hZ with rfl | hZ
  · go_enter Try.func5, Try.ntmps5
    go_wp2_with fail
    refine Calls.mono (HC.out _ hb0) ?_
    rintro e w1 ⟨rfl, hb1⟩
    go_wp2_with fail
    go_ret
    exact ⟨rfl, hb0.trans (hb1.mono (by simp))⟩
  · go_enter Try.func5, Try.ntmps5
    go_wp2_with fail
    refine Calls.mono (HC.out _ hb0) ?_
    rintro e w1 ⟨rfl, hb1⟩
    go_wp2_with fail
    go_ret
    exact ⟨rfl, hb0.trans (hb1.mono (by simp))⟩

theorem eqCuts_same (a b : Option Addr) (c d : Nat) (xs ys : List Iw) (w : World) (hr : RdII w a xs) (hs : RdII w b ys) (he : xs.map Iw.ks = ys.map Iw.ks) (n : Nat) (h1 : xs.length = n) (h2 : ys.length = n) :
    Calls Try.prog 10 #[.agg #[.slice a n c], .agg #[.slice b n d]] w fun e w' => e = .returned (.bool true) ∧ Below w.heap.size w w' := by
  have hb2 : Below w.heap.size w ((w.alloc (Obj.cells #[Value.slice a n c] 28)).alloc (Obj.cells #[Value.slice b n d] 28)) := ((Below.refl _ _).alloc (Nat.le_refl _) _).alloc (by simp) _
  have HE := kide (eqInt64SS_same a b c d xs ys _ (hr.later hb2) (hs.later hb2) he n h1 h2)
  clear hr hs he h1 h2
  go_enter Try.func10, Try.ntmps10
  go_wp2_with fail
  refine Calls.mono HE.out ?_
  rintro e w1 ⟨rfl, hb1⟩
  go_wp2_with fail
  go_ret
  exact ⟨rfl, hb2.trans (hb1.mono (by simp; omega))⟩

theorem toCuts_any (a : Option Addr) (c : Nat) (xs : List Iw) (w : World) (hr : RdII w a xs) (n : Nat) (hn : xs.length = n) :
    Calls Try.prog 8 #[.agg #[.slice a n c]] w fun e w' => ∃ (g : Nat) (ms : List Iw), e = .returned (.agg #[.slice (some ⟨g, 0, none⟩) n n]) ∧ ms.map Iw.ks = xs.map Iw.ks ∧ RdII w' (some ⟨g, 0, none⟩) ms ∧ Below w.heap.size w w' := by
  subst hn
  go_enter Try.func8, Try.ntmps8
  go_wp2_with fail
  refine (toInt64SS_any a c xs _ ?_).mono ?_
  · refine hr.later (Below.alloc (Below.alloc (Below.alloc (Below.refl _ _) ?_ _) ?_ _) ?_ _)
    all_goals first | exact Nat.le_refl _ | (simp; done) | (simp; omega)
  rintro e w1 ⟨ms, rfl, hms, hrd, hb⟩
  have hc := kcell hb
  have hz : w.heap.size + 1 + 1 < w1.heap.size := by have := hb.size; simp at this; omega
  have hf := kfroz hb
  have HO := kide hrd
  have HB := kide hb
  have HM := kide hms
  clear hrd hb hr hms
  go_wp2_with fail
  refine bodyPost_ret (v := .agg #[.slice (some ⟨w.heap.size + 1 + 1 + 1, 0, none⟩) xs.length xs.length]) (by simp [results, Try.results8, go_sem, hc]) rfl ⟨_, ms, rfl, HM.out, ?_, ?_⟩
  · have h := HO.out
    simp only [World.size_alloc] at h
    refine h _ fun g hg => ?_
    rw [heap_setCell_other _ _ _ _ (by simp; omega), heap_setCell_other _ _ _ _ (by simp; omega)]
  · have h := HB.out
    have h0 : Below w.heap.size w w1 := by
      refine Below.trans (Below.alloc (Below.alloc (Below.alloc (Below.refl _ _) ?_ _) ?_ _) ?_ _) (h.mono ?_)
      all_goals first | exact Nat.le_refl _ | (simp; done) | (simp; omega)
    exact (h0.setCell (by simp; omega) _).setCell (by simp) _

end Go.Proofs.Ytjnbapddfhpcnaa

/- Contracts of the laws' own small functions on rows of declared variables: how long, copied, compared. -/
namespace Go.Proofs.Ytjnbapddfhpcnaa
set_option linter.unusedVariables false
set_option linter.unusedSimpArgs false
open Go.RowKit

def DcAt (w : World) (b o : Nat) (d : Dc) : Prop := w.cell? ⟨b, o, none⟩ = some (.string d.1) ∧ w.cell? ⟨b, o + 1, none⟩ = some (.int .i64 d.2)

theorem DcAt.later {w w' : World} {b o : Nat} {d : Dc} (h : DcAt w b o d) (hb : Below w.heap.size w w') : DcAt w' b o d :=
  ⟨by rw [kcell hb _ _ (block_lt_of_cell h.1)]; exact h.1, by rw [kcell hb _ _ (block_lt_of_cell h.2)]; exact h.2⟩

/-- A slice whose variables are ds, wherever it lies. -/
def RdD (w : World) (a : Option Addr) (ds : List Dc) : Prop :=
  ds.length ≤ 1048576 ∧ (∀ d ∈ ds, in64 d.2 ∧ d.1.size ≤ 9223372036854775807) ∧ (ds = [] ∨ ∃ b o, a = some ⟨b, o, none⟩ ∧ ∀ i d, ds[i]? = some d → DcAt w b (o + i * 2) d)

theorem RdD.later {w w' : World} {a : Option Addr} {ds : List Dc} (h : RdD w a ds) (hb : Below w.heap.size w w') : RdD w' a ds := by
  refine ⟨h.1, h.2.1, ?_⟩
  rcases h.2.2 with h | ⟨b, o, rfl, hc⟩
  · exact .inl h
  · exact .inr ⟨b, o, rfl, fun i n hi => (hc i n hi).later hb⟩

theorem szDecl_any (s : ByteArray) (x : Int) (L : Int) (w : World) (hL : 0 ≤ L) (hL2 : L ≤ 1048576) (hs : s.size ≤ 9223372036854775807) :
    Calls Try.prog 15 #[.agg #[.string s, .int .i64 x], .int .i64 L] w fun e w' => e = .returned (.int .i64 (if (s.size : Int) ≤ L then L - s.size else -1)) ∧ Below w.heap.size w w' := by
  by_cases h : (s.size : Int) ≤ L
  · rw [if_pos h]
    go_enter Try.func15, Try.ntmps15
    go_wp2_with fail
    go_ret
    exact ⟨rfl, (Below.refl _ _).alloc (Nat.le_refl _) _⟩
  · rw [if_neg h]
    go_enter Try.func15, Try.ntmps15
    go_wp2_with fail
    go_ret
    exact ⟨rfl, (Below.refl _ _).alloc (Nat.le_refl _) _⟩

/-- What is left of L behind the names of some variables; -1: nothing. -/
def szD : List Dc → Int → Int
  | [], L => L
  | d :: t, L => if (d.1.size : Int) ≤ L then szD t (L - d.1.size) else -1

theorem szD_range (ds : List Dc) (L : Int) (hL : 0 ≤ L) : szD ds L = -1 ∨ 0 ≤ szD ds L ∧ szD ds L ≤ L ∧ ∀ d ∈ ds, (d.1.size : Int) ≤ L := by
  induction ds generalizing L with
  | nil => right; simp [szD]; exact hL
  | cons h t ih =>
    rw [szD]
    split
    · rename_i hc
      rcases ih (L - h.1.size) (by omega) with e | ⟨e1, e2, e3⟩
      · left; exact e
      · right
        refine ⟨e1, by omega, fun x hx => ?_⟩
        rcases List.mem_cons.1 hx with rfl | hx
        · exact hc
        · have := e3 x hx; omega
    · left; rfl

theorem szDeclS_in (a : Option Addr) (c : Nat) (ds : List Dc) (L : Int) (w : World) (hr : RdD w a ds) (hL : 0 ≤ L) (hL2 : L ≤ 1048576) (h : (ds.length : Int) ≤ L) :
    Calls Try.prog 4 #[.slice a ds.length c, .int .i64 L] w fun e w' => e = .returned (.int .i64 (szD ds (L - ds.length))) ∧ Below w.heap.size w w' := by
  have hlen := hr.1
  generalize hZ : szD ds (L - ds.length) = Z
  have HZ : Hid (szD ds (L - ds.length) = Z) := hZ
  clear hZ
  go_enter Try.func4, Try.ntmps4
  go_wp2_with fail
  go_loopw [1, 5] (fun l i wr => ∃ (k : Nat) (Q : Int), k ≤ ds.length ∧ i = .int .i64 k ∧ l = .int .i64 Q ∧ 0 ≤ Q ∧ Q ≤ 1048576 ∧ szD (ds.drop k) Q = Z ∧ Below w.heap.size w wr) (fun _ i _ => ds.length - (intOf i).toNat)
  case atStart => exact ⟨0, _, Nat.zero_le _, rfl, rfl, by omega, by omega, by rw [List.drop_zero]; exact HZ.out, Below.refl _ _⟩
  case round =>
    obtain ⟨k, Q, hk, rfl, rfl, hQ0, hQ1, hq, hbel⟩ := hrel
    by_cases hlt : k < ds.length
    · obtain ⟨-, hsz, h | ⟨b, o, rfl, hc⟩⟩ := hr
      · subst h; simp at hlt
      obtain ⟨⟨t, x⟩, hh⟩ : ∃ x, ds[k] = x := ⟨_, rfl⟩
      have gx : ds[k]? = some (t, x) := by rw [List.getElem?_eq_getElem hlt, hh]
      obtain ⟨g0, g1⟩ := (hc k _ gx).later hbel
      simp only [] at g0 g1
      have hts := (hsz _ (List.mem_of_getElem? gx)).2
      simp only [] at hts
      rw [List.drop_eq_getElem_cons hlt, hh, szD] at hq
      simp only [] at hq
      have HQ : Hid _ := hq
      have HB : Hid _ := hbel
      clear hc hh gx hbel hq hsz
      by_cases hyes : (t.size : Int) ≤ Q
      · go_wp2_with (go_at_call 15; refine (szDecl_any _ _ _ _ hQ0 hQ1 hts).mono ?_; rw [if_pos hyes]; rintro e w1 ⟨rfl, hb1⟩)
        go_roundw
        case rel =>
          have h := HQ.out
          rw [if_pos hyes] at h
          exact ⟨k + 1, _, by omega, by go_num, rfl, by omega, by omega, h, HB.out.trans (hb1.mono HB.out.size)⟩
        case measure => simp [intOf]; omega
      · go_wp2_with (go_at_call 15; refine (szDecl_any _ _ _ _ hQ0 hQ1 hts).mono ?_; rw [if_neg hyes]; rintro e w1 ⟨rfl, hb1⟩)
        go_ret
        have h := HQ.out
        rw [if_neg (by omega)] at h
        exact ⟨ret_int h, HB.out.trans (hb1.mono HB.out.size)⟩
    · have e : k = ds.length := by omega
      rw [e, List.drop_length, szD] at hq
      have HQ : Hid _ := hq
      clear hq
      go_wp2_with fail
      go_ret
      exact ⟨ret_int HQ.out, hbel⟩

theorem szDeclS_out (a : Option Addr) (n c : Nat) (L : Int) (w : World) (hL : 0 ≤ L) (hL2 : L ≤ 1048576) (hn : n ≤ 9223372036854775807) (h : ¬ (n : Int) ≤ L) :
    Calls Try.prog 4 #[.slice a n c, .int .i64 L] w fun e w' => e = .returned (.int .i64 (-1)) ∧ w' = w := by
  go_enter Try.func4, Try.ntmps4
  go_wp2_with fail
  go_ret
  exact ⟨rfl, rfl⟩

theorem eqDecl_same (s : ByteArray) (x : Int) (w : World) :
    Calls Try.prog 26 #[.agg #[.string s, .int .i64 x], .agg #[.string s, .int .i64 x]] w fun e w' => e = .returned (.bool true) ∧ Below w.heap.size w w' := by
  have h2 : Below w.heap.size w ((w.alloc (Obj.cells #[Value.string s, Value.int .i64 x] 49)).alloc (Obj.cells #[Value.string s, Value.int .i64 x] 49)) := ((Below.refl _ _).alloc (Nat.le_refl _) _).alloc (by simp) _
  have hx : (x != x) = false := by simp
  go_enter Try.func26, Try.ntmps26
  go_wp2_with fail
  go_ret
  exact ⟨rfl, h2⟩

theorem eqDeclS_same (a b : Option Addr) (c d : Nat) (ds : List Dc) (w : World) (hr : RdD w a ds) (hs : RdD w b ds) :
    Calls Try.prog 11 #[.slice a ds.length c, .slice b ds.length d] w fun e w' => e = .returned (.bool true) ∧ Below w.heap.size w w' := by
  have hl1 := hr.1
  have hne : ((ds.length : Int) != (ds.length : Int)) = false := by simp
  go_enter Try.func11, Try.ntmps11
  go_wp2_with fail
  clear hne
  go_loopw [5] (fun i wr => ∃ k : Nat, k ≤ ds.length ∧ i = .int .i64 k ∧ Below w.heap.size w wr) (fun i _ => ds.length - (intOf i).toNat)
  case atStart => exact ⟨0, Nat.zero_le _, rfl, Below.refl _ _⟩
  case round =>
    obtain ⟨k, hk, rfl, hbel⟩ := hrel
    have HB := kide hbel
    by_cases hlt : k < ds.length
    · obtain ⟨-, -, h | ⟨b1, o1, rfl, hc1⟩⟩ := hr
      · subst h; simp at hlt
      obtain ⟨-, -, h | ⟨b2, o2, rfl, hc2⟩⟩ := hs
      · subst h; simp at hlt
      obtain ⟨⟨t, x⟩, hh⟩ : ∃ x, ds[k] = x := ⟨_, rfl⟩
      have gx : ds[k]? = some (t, x) := by rw [List.getElem?_eq_getElem hlt, hh]
      obtain ⟨p0, p1⟩ := (hc1 k _ gx).later hbel
      obtain ⟨q0, q1⟩ := (hc2 k _ gx).later hbel
      simp only [] at p0 p1 q0 q1
      have l1 := block_lt_of_cell p0
      have l2 := block_lt_of_cell q0
      have i0 : (k : Int) < (ds.length : Int) := by omega
      clear hc1 hc2 hbel hh gx
      go_wp2_with fail
      go_region_held3 (fun u => u.cell? ⟨b1, o1 + k * 2, none⟩ = some (Value.string t) ∧ u.cell? ⟨b1, o1 + k * 2 + 1, none⟩ = some (Value.int .i64 x) ∧ u.cell? ⟨b2, o2 + k * 2, none⟩ = some (Value.string t) ∧ u.cell? ⟨b2, o2 + k * 2 + 1, none⟩ = some (Value.int .i64 x)) (simp [*])
        ((go_at_call 26; refine Calls.mono (eqDecl_same _ _ _) ?_; rintro e w1 ⟨rfl, hb1⟩; replace hb1 := kundrew hb1; have k0 := kcell hb1 b1 (o1 + k * 2) l1; have k1 := kcell hb1 b1 (o1 + k * 2 + 1) l1; have k2 := kcell hb1 b2 (o2 + k * 2) l2; have k3 := kcell hb1 b2 (o2 + k * 2 + 1) l2))
      go_wp2_with fail
      go_roundw
      case rel => exact ⟨k + 1, by omega, by go_num, HB.out.trans (hb1.mono HB.out.size)⟩
      case measure => simp [intOf]; omega
    · clear hbel
      go_wp2_with fail
      go_ret
      exact ⟨rfl, HB.out⟩

theorem Try.infoDecl : (Try.prog.info? 49).map (fun i => (i.zero, i.size, i.bytes)) = some (some (.agg #[.string .empty, .int .i64 0]), 2, 24) := by kernel_rfl

theorem make_decls (n : Nat) (hn : n ≤ 1048576) (kl kc : IntKind) (w : World) :
    (Instr.makeSlice 31 (.int kl (n : Int)) (.int kc (n : Int))).run Try.prog w = .ok (.slice (some ⟨w.heap.size, 0, none⟩) n n) (w.alloc (.cells (madeCells #[.string .empty, .int .i64 0] (n * 2)) 49)) := by
  obtain ⟨i0, hi, hz0, hz1, hz2⟩ := info_parts Try.infoDecl
  have := run_make (P := Try.prog) w 31 49 i0 _ Try.underlying31 hi hz0 kl kc n n (by omega) (Int.le_refl _) (by rw [hz2]; omega) (by omega)
  rw [hz1] at this
  simp only [Int.toNat_natCast] at this
  exact this

theorem toDecl_any (s : ByteArray) (x : Int) (w : World) :
    Calls Try.prog 20 #[.agg #[.string s, .int .i64 x]] w fun e w' => e = .returned (.agg #[.string s, .int .i64 x]) ∧ Below w.heap.size w w' := by
  go_enter Try.func20, Try.ntmps20
  go_wp2_with fail
  refine bodyPost_ret (v := .agg #[.string s, .int .i64 x]) (by simp [results, Try.results20, go_sem]) rfl ⟨rfl, ?_⟩
  exact (((Below.refl _ _).alloc (Nat.le_refl _) _).alloc (by simp) _).alloc (by simp; omega) _

theorem toDeclS_any (a : Option Addr) (c : Nat) (ds : List Dc) (w : World) (hr : RdD w a ds) :
    Calls Try.prog 7 #[.slice a ds.length c] w fun e w' => e = .returned (.slice (some ⟨w.heap.size, 0, none⟩) ds.length ds.length) ∧ RdD w' (some ⟨w.heap.size, 0, none⟩) ds ∧ Below w.heap.size w w' := by
  have hlen := hr.1
  have hmk := make_decls ds.length hlen
  go_enter Try.func7, Try.ntmps7
  go_wp2_with fail
  have hrow := krow (heap_alloc_new w (.cells (madeCells #[.string .empty, .int .i64 0] (ds.length * 2)) 49))
  rw [size_madeCells] at hrow
  have hb0 : Below w.heap.size w (w.alloc (.cells (madeCells #[.string .empty, .int .i64 0] (ds.length * 2)) 49)) := (Below.refl _ _).alloc (Nat.le_refl _) _
  have hs0 : w.heap.size < (w.alloc (.cells (madeCells #[.string .empty, .int .i64 0] (ds.length * 2)) 49)).heap.size := by simp
  generalize (w.alloc (.cells (madeCells #[.string .empty, .int .i64 0] (ds.length * 2)) 49)) = w0 at *
  go_loopw [4] (fun i wr => ∃ (k : Nat) (f : Nat → Value), k ≤ ds.length ∧ i = .int .i64 k ∧ wr.rowIs w.heap.size 49 (ds.length * 2) f ∧ (∀ (j : Nat) (d : Dc), j < k → ds[j]? = some d → f (j * 2) = .string d.1 ∧ f (j * 2 + 1) = .int .i64 d.2) ∧ Below w.heap.size w wr ∧ w.heap.size < wr.heap.size) (fun i _ => ds.length - (intOf i).toNat)
  case atStart => exact ⟨0, _, Nat.zero_le _, rfl, hrow, fun j d h => by omega, hb0, hs0⟩
  case round =>
    obtain ⟨k, f, hk, rfl, hrw, hms, hbel, hsz⟩ := hrel
    clear hrow hb0 hs0
    by_cases hlt : k < ds.length
    · obtain ⟨-, -, h | ⟨b, o, rfl, hc⟩⟩ := hr
      · subst h; simp at hlt
      obtain ⟨⟨t, x⟩, hh⟩ : ∃ x, ds[k] = x := ⟨_, rfl⟩
      have gx : ds[k]? = some (t, x) := by rw [List.getElem?_eq_getElem hlt, hh]
      obtain ⟨p0, p1⟩ := (hc k _ gx).later hbel
      simp only [] at p0 p1
      have GX : Hid _ := gx
      have HMS : Hid _ := hms
      have HR : Hid _ := hrw
      have HB : Hid _ := hbel
      have i0 : (k : Int) < (ds.length : Int) := by omega
      clear gx hms hc hrw hbel hmk hh
      go_wp2_with fail
      refine (toDecl_any _ _ _).mono ?_
      rintro e w1 ⟨rfl, hb1⟩
      have hr1 := World.rowIs.of_block HR.out (hb1.block _ hsz)
      have q0 := hr1.cell (i := k * 2) (by omega)
      have q1 := hr1.cell (i := k * 2 + 1) (by omega)
      have r0 := hr1.frozen (k * 2)
      have r1 := hr1.frozen (k * 2 + 1)
      have HR1 : Hid _ := hr1
      clear hr1
      go_wp2_with fail
      go_roundw
      case rel =>
        refine ⟨k + 1, _, by omega, by go_num, World.rowIs.set (World.rowIs.set HR1.out (k * 2) (.string t)) (k * 2 + 1) (.int .i64 x), fun j d hj hd => ?_, ?_, ?_⟩
        · by_cases hjk : j = k
          · subst hjk
            rw [GX.out] at hd
            cases hd
            exact ⟨by simp, by simp⟩
          · obtain ⟨h0, h1⟩ := HMS.out j d (by omega) hd
            constructor
            · show (if _ then _ else _) = _
              rw [if_neg (by omega), if_neg (by omega)]; exact h0
            · show (if _ then _ else _) = _
              rw [if_neg (by omega), if_neg (by omega)]; exact h1
        · exact ((HB.out.trans (hb1.mono HB.out.size)).setCell (Nat.le_refl _) _).setCell (Nat.le_refl _) _
        · have := hb1.size
          simp; omega
      case measure => simp [intOf]; omega
    · have HS : Hid _ := hms
      have HR : Hid _ := hrw
      have HB : Hid _ := hbel
      clear hms hrw hbel hmk
      go_wp2_with fail
      go_ret
      refine ⟨rfl, ⟨hr.1, hr.2.1, .inr ⟨_, 0, rfl, fun i d hi => ?_⟩⟩, HB.out⟩
      have hil := (List.getElem?_eq_some_iff.1 hi).1
      obtain ⟨h0, h1⟩ := HS.out i d (by omega) hi
      refine ⟨?_, ?_⟩
      · rw [Nat.zero_add, ← h0]; exact World.rowIs.cell HR.out (by omega)
      · rw [Nat.zero_add, ← h1]; exact World.rowIs.cell HR.out (by omega)

end Go.Proofs.Ytjnbapddfhpcnaa

/- What the functions on names answer: both say the same of each text. -/
namespace Go.Proofs.Ytjnbapddfhpcnaa
set_option linter.unusedVariables false
set_option linter.unusedSimpArgs false
open Go.RowKit

theorem letB_cases (c : Nat) : (c < 97 ∧ letB c = false) ∨ (97 ≤ c ∧ 122 < c ∧ letB c = false) ∨ (97 ≤ c ∧ c ≤ 122 ∧ letB c = true) := by
  unfold letB
  by_cases h1 : 97 ≤ c
  · by_cases h2 : c ≤ 122
    · exact .inr (.inr ⟨h1, h2, by simp [h1, h2]⟩)
    · exact .inr (.inl ⟨h1, by omega, by simp [h2]⟩)
  · exact .inl ⟨by omega, by simp [h1]⟩
theorem digB_cases (c : Nat) : (c < 48 ∧ digB c = false) ∨ (48 ≤ c ∧ 57 < c ∧ digB c = false) ∨ (48 ≤ c ∧ c ≤ 57 ∧ digB c = true) := by
  unfold digB
  by_cases h1 : 48 ≤ c
  · by_cases h2 : c ≤ 57
    · exact .inr (.inr ⟨h1, h2, by simp [h1, h2]⟩)
    · exact .inr (.inl ⟨h1, by omega, by simp [h2]⟩)
  · exact .inl ⟨by omega, by simp [h1]⟩

theorem letterByte_any (c : Nat) (hc : c < 256) (w : World) :
    Calls Try.prog 53 #[.int .u8 (c : Int)] w fun e w' => e = .returned (.bool (letB c)) ∧ w' = w := by
  rcases letB_cases c with ⟨h1, h⟩ | ⟨h0, h1, h⟩ | ⟨h0, h1, h⟩
  all_goals
    rw [h]
    clear h
    go_enter Try.func53, Try.ntmps53
    go_wp2
    go_ret
    first | exact ⟨rfl, rfl⟩ | exact ⟨ret_bool (by simp; omega), rfl⟩

theorem digitByte_any (c : Nat) (hc : c < 256) (w : World) :
    Calls Try.prog 54 #[.int .u8 (c : Int)] w fun e w' => e = .returned (.bool (digB c)) ∧ w' = w := by
  rcases digB_cases c with ⟨h1, h⟩ | ⟨h0, h1, h⟩ | ⟨h0, h1, h⟩
  all_goals
    rw [h]
    clear h
    go_enter Try.func54, Try.ntmps54
    go_wp2
    go_ret
    first | exact ⟨rfl, rfl⟩ | exact ⟨ret_bool (by simp; omega), rfl⟩

theorem l1Digit_any (c : Nat) (hc : c < 256) (w : World) :
    Calls Try.prog 52 #[.int .u8 (c : Int)] w fun e w' => e = .returned (.bool (digB c)) ∧ w' = w := by
  rcases digB_cases c with ⟨h1, h⟩ | ⟨h0, h1, h⟩ | ⟨h0, h1, h⟩
  all_goals
    rw [h]
    clear h
    go_enter Try.func52, Try.ntmps52
    go_wp2
    go_ret
    first | exact ⟨rfl, rfl⟩ | exact ⟨ret_bool (by simp; omega), rfl⟩

/-- A text that is too short or too long is no name. -/
theorem nmOk_size {s : ByteArray} (h : s.size < 1 ∨ 12 < s.size) : nmOk s = false := by
  unfold nmOk
  rcases h with h | h
  · rw [show decide (1 ≤ s.size) = false from decide_eq_false (by omega)]; rfl
  · rw [show decide (s.size ≤ 12) = false from decide_eq_false (by omega)]; simp
theorem nmOk_first {s : ByteArray} (h : letB (bn s 0) = false) : nmOk s = false := by simp [nmOk, h]
theorem nmOk_bad {s : ByteArray} {i : Nat} (hi : i < s.size) (h : nmB (bn s i) = false) : nmOk s = false := by
  have : allNm s = false := by
    rw [Bool.eq_false_iff]; intro h'
    have := (allNm_iff s).1 h' i hi
    rw [h] at this; cases this
  simp [nmOk, this]
theorem nmOk_all {s : ByteArray} (h1 : 1 ≤ s.size) (h2 : s.size ≤ 12) (h3 : letB (bn s 0) = true) (h : ∀ i, i < s.size → nmB (bn s i) = true) : nmOk s = true := by
  have := (allNm_iff s).2 h
  simp [nmOk, this, h1, h2, h3]

theorem nameOk_any (s : ByteArray) (hs : s.size ≤ 9223372036854775807) (w : World) :
    Calls Try.prog 43 #[.string s] w fun e w' => e = .returned (.bool (nmOk s)) ∧ w' = w := by
  have HB : Hid _ := get_bn s
  by_cases h1 : s.size < 1
  · rw [nmOk_size (.inl h1)]
    go_enter Try.func43, Try.ntmps43
    go_wp2_with fail
    go_ret
    exact ⟨rfl, rfl⟩
  by_cases h2 : 12 < s.size
  · rw [nmOk_size (.inr h2)]
    go_enter Try.func43, Try.ntmps43
    go_wp2_with fail
    go_ret
    exact ⟨rfl, rfl⟩
  have h0 : 0 < s.size := by omega
  have e1 := HB.out 0 h0
  have hL : ∀ u, Calls Try.prog 53 #[.int .u8 ((s[0]'h0).toNat : Int)] u fun e w' => e = .returned (.bool (letB (bn s 0))) ∧ w' = u := fun u => by
    have := letterByte_any (bn s 0) (bn_lt s 0) u
    rwa [← e1] at this ⊢
  have HL := kide hL
  clear hL e1
  by_cases h3 : letB (bn s 0) = true
  · rw [h3] at HL
    have HO := kide (fun h => nmOk_all (s := s) (by omega) (by omega) h3 h)
    have HN := kide (fun i hi h => nmOk_bad (s := s) (i := i) hi h)
    generalize nmOk s = R at *
    clear h3
    go_enter Try.func43, Try.ntmps43
    go_wp2_with (go_at_call 53; refine Calls.mono (HL.out _) ?_; rintro e w ⟨rfl, rfl⟩)
    clear HL
    go_loop [20] (fun q => ∃ k : Nat, k ≤ s.size ∧ q = .int .i64 (k : Int) ∧ ∀ i, i < k → nmB (bn s i) = true) (fun q => s.size - (intOf q).toNat)
    case atStart => exact ⟨0, Nat.zero_le _, rfl, fun i h => by omega⟩
    case round =>
      obtain ⟨k, hk2, rfl, hr⟩ := hrel
      have HK : Hid _ := hr
      clear hr
      by_cases hlt : k < s.size
      · have e1 := HB.out k hlt
        have hA : ∀ u, Calls Try.prog 53 #[.int .u8 ((s[k]'hlt).toNat : Int)] u fun e w' => e = .returned (.bool (letB (bn s k))) ∧ w' = u := fun u => by
          have := letterByte_any (bn s k) (bn_lt s k) u
          rwa [← e1] at this ⊢
        have hD : ∀ u, Calls Try.prog 54 #[.int .u8 ((s[k]'hlt).toNat : Int)] u fun e w' => e = .returned (.bool (digB (bn s k))) ∧ w' = u := fun u => by
          have := digitByte_any (bn s k) (bn_lt s k) u
          rwa [← e1] at this ⊢
        have HA := kide hA
        have HD := kide hD
        have H1 : Hid (letB (bn s k) = true → nmB (bn s k) = true) := fun h => by simp [nmB, h]
        have H2 : Hid (digB (bn s k) = true → nmB (bn s k) = true) := fun h => by simp [nmB, h]
        have H3 : Hid (letB (bn s k) = false → digB (bn s k) = false → R = false) := fun h h' => HN.out k hlt (by simp [nmB, h, h'])
        clear hA hD e1
        generalize letB (bn s k) = r at *
        generalize digB (bn s k) = r2 at *
        have hki : (k : Int) < (s.size : Int) := by omega
        cases r with
        | true =>
          go_wp2_with (go_at_call 53; refine Calls.mono (HA.out _) ?_; rintro e w ⟨rfl, rfl⟩)
          go_round
          case rel =>
            refine ⟨k + 1, by omega, by go_num, fun i hi => ?_⟩
            by_cases hik : i = k
            · rw [hik]; exact H1.out (by simp)
            · exact HK.out i (by omega)
          case measure => simp [intOf]; omega
        | false =>
          cases r2 with
          | true =>
            go_wp2_with (first | (go_at_call 53; refine Calls.mono (HA.out _) ?_; rintro e w ⟨rfl, rfl⟩) | (go_at_call 54; refine Calls.mono (HD.out _) ?_; rintro e w ⟨rfl, rfl⟩))
            go_round
            case rel =>
              refine ⟨k + 1, by omega, by go_num, fun i hi => ?_⟩
              by_cases hik : i = k
              · rw [hik]; exact H2.out (by simp)
              · exact HK.out i (by omega)
            case measure => simp [intOf]; omega
          | false =>
            go_wp2_with (first | (go_at_call 53; refine Calls.mono (HA.out _) ?_; rintro e w ⟨rfl, rfl⟩) | (go_at_call 54; refine Calls.mono (HD.out _) ?_; rintro e w ⟨rfl, rfl⟩))
            go_ret
            exact ⟨ret_bool (H3.out (by simp) (by simp)).symm, rfl⟩
      · go_wp2_with fail
        go_ret
        exact ⟨ret_bool (HO.out fun i hi => HK.out i (by omega)).symm, rfl⟩
  · rw [Bool.not_eq_true] at h3
    rw [h3] at HL
    rw [nmOk_first h3]
    clear h3
    go_enter Try.func43, Try.ntmps43
    go_wp2_with (go_at_call 53; refine Calls.mono (HL.out _) ?_; rintro e w1 ⟨rfl, rfl⟩)
    go_ret
    exact ⟨rfl, rfl⟩

theorem l1Name_any (s : ByteArray) (hs : s.size ≤ 9223372036854775807) (w : World) :
    Calls Try.prog 42 #[.string s] w fun e w' => e = .returned (.bool (nmOk s)) ∧ w' = w := by
  have HB : Hid _ := get_bn s
  by_cases h1 : s.size < 1
  · rw [nmOk_size (.inl h1)]
    go_enter Try.func42, Try.ntmps42
    go_wp2_with fail
    go_ret
    exact ⟨rfl, rfl⟩
  by_cases h2 : 12 < s.size
  · rw [nmOk_size (.inr h2)]
    go_enter Try.func42, Try.ntmps42
    go_wp2_with fail
    go_ret
    exact ⟨rfl, rfl⟩
  have h0 : 0 < s.size := by omega
  have e1 := HB.out 0 h0
  have hL : ∀ u, Calls Try.prog 52 #[.int .u8 ((s[0]'h0).toNat : Int)] u fun e w' => e = .returned (.bool (digB (bn s 0))) ∧ w' = u := fun u => by
    have := l1Digit_any (bn s 0) (bn_lt s 0) u
    rwa [← e1] at this ⊢
  have HL := kide hL
  clear hL e1
  by_cases h3 : digB (bn s 0) = true
  · rw [h3] at HL
    have h4 : letB (bn s 0) = false := by
      simp [digB] at h3
      simp [letB]; omega
    rw [nmOk_first h4]
    clear h3 h4
    go_enter Try.func42, Try.ntmps42
    go_wp2_with (go_at_call 52; refine Calls.mono (HL.out _) ?_; rintro e w1 ⟨rfl, rfl⟩)
    go_ret
    exact ⟨rfl, rfl⟩
  · rw [Bool.not_eq_true] at h3
    rw [h3] at HL
    have HO : Hid ((∀ i, i < s.size → nmB (bn s i) = true) → nmOk s = true) := fun h => nmOk_all (s := s) (by omega) (by omega) (by have := h 0 h0; simpa [nmB, h3] using this) h
    have HN := kide (fun i hi h => nmOk_bad (s := s) (i := i) hi h)
    generalize nmOk s = R at *
    clear h3
    go_enter Try.func42, Try.ntmps42
    go_wp2_with (go_at_call 52; refine Calls.mono (HL.out _) ?_; rintro e w ⟨rfl, rfl⟩)
    clear HL
    go_loop [3] (fun q => ∃ k : Nat, k ≤ s.size ∧ q = .int .i64 (k : Int) ∧ ∀ i, i < k → nmB (bn s i) = true) (fun q => s.size - (intOf q).toNat)
    case atStart => exact ⟨0, Nat.zero_le _, rfl, fun i h => by omega⟩
    case round =>
      obtain ⟨k, hk2, rfl, hr⟩ := hrel
      have HK : Hid _ := hr
      clear hr
      by_cases hlt : k < s.size
      · have e1 := HB.out k hlt
        have hD : ∀ u, Calls Try.prog 52 #[.int .u8 ((s[k]'hlt).toNat : Int)] u fun e w' => e = .returned (.bool (digB (bn s k))) ∧ w' = u := fun u => by
          have := l1Digit_any (bn s k) (bn_lt s k) u
          rwa [← e1] at this ⊢
        have HD := kide hD
        have hci := letB_cases (bn s k)
        rw [← e1] at hci
        have H1 : Hid (letB (bn s k) = true → nmB (bn s k) = true) := fun h => by simp [nmB, h]
        have H2 : Hid (digB (bn s k) = true → nmB (bn s k) = true) := fun h => by simp [nmB, h]
        have H3 : Hid (letB (bn s k) = false → digB (bn s k) = false → R = false) := fun h h' => HN.out k hlt (by simp [nmB, h, h'])
        have E1 := kide e1
        clear hD e1
        generalize digB (bn s k) = r2 at *
        have hki : (k : Int) < (s.size : Int) := by omega
        cases r2 with
        | true =>
          go_wp2_with (go_at_call 52; refine Calls.mono (HD.out _) ?_; rintro e w ⟨rfl, rfl⟩)
          go_round
          case rel =>
            refine ⟨k + 1, by omega, by go_num, fun i hi => ?_⟩
            by_cases hik : i = k
            · rw [hik]; exact H2.out (by simp)
            · exact HK.out i (by omega)
          case measure => simp [intOf]; omega
        | false =>
          rcases hci with ⟨h1, h⟩ | ⟨h0, h1, h⟩ | ⟨h0, h1, h⟩
          · have H := kide (H3.out (by rw [← E1.out]; exact h) (by simp))
            clear h H1 H3
            go_wp2_with (go_at_call 52; refine Calls.mono (HD.out _) ?_; rintro e w ⟨rfl, rfl⟩)
            go_ret
            exact ⟨ret_bool H.out.symm, rfl⟩
          · have H := kide (H3.out (by rw [← E1.out]; exact h) (by simp))
            clear h H1 H3
            go_wp2_with (go_at_call 52; refine Calls.mono (HD.out _) ?_; rintro e w ⟨rfl, rfl⟩)
            go_ret
            exact ⟨ret_bool H.out.symm, rfl⟩
          · have H := kide (H1.out (by rw [← E1.out]; exact h))
            clear h H1 H3
            go_wp2_with (go_at_call 52; refine Calls.mono (HD.out _) ?_; rintro e w ⟨rfl, rfl⟩)
            go_round
            case rel =>
              refine ⟨k + 1, by omega, by go_num, fun i hi => ?_⟩
              by_cases hik : i = k
              · rw [hik]; exact H.out
              · exact HK.out i (by omega)
            case measure => simp [intOf]; omega
      · go_wp2_with fail
        go_ret
        exact ⟨ret_bool (HO.out fun i hi => HK.out i (by omega)).symm, rfl⟩

end Go.Proofs.Ytjnbapddfhpcnaa

/- What placesOf answers: a map that holds each name once. -/
namespace Go.Proofs.Ytjnbapddfhpcnaa
set_option linter.unusedVariables false
set_option linter.unusedSimpArgs false
open Go.RowKit Go.WideMaps Go.Maps

theorem mlaw : Keyed Try.prog 9 := string_keyed Try.underlying9

theorem make_places (k : IntKind) (n : Int) (w : World) : (Instr.makeMap 78 (some (.int k n))).run Try.prog w = .ok (.map (some w.heap.size)) (w.alloc (.map #[] 0)) := by
  have h := Try.underlying78
  simp [Instr.makeMap, go_sem, h]

/-- The block g is a map that holds the names of ds, each once, with its place. -/
def PlAt (w : World) (g : Nat) (l : List ByteArray) : Prop := ∃ D : DataW Unit, w.ownsMap Try.prog 9 (plainElem Try.prog 2) g l.length D ∧ Pl D l

set_option maxRecDepth 100000 in
theorem placesOf_any (a : Option Addr) (c : Nat) (ds : List Dc) (w : World) (hr : RdD w a ds) (hn : ∀ d ∈ ds, d.1.size ≤ 1048576) :
    Calls Try.prog 46 #[.slice a ds.length c] w fun e w' => e = .returned (.map (some w.heap.size)) ∧ PlAt w' w.heap.size (ds.map Prod.fst) ∧ Below w.heap.size w w' := by
  have hlen := hr.1
  have hmm := make_places
  go_enter Try.func46, Try.ntmps46
  go_wp2_with fail
  go_loopw [11] (fun i wr => ∃ k : Nat, k ≤ ds.length ∧ i = .int .i64 (k : Int) ∧ PlAt wr w.heap.size ((ds.take k).map Prod.fst) ∧ Below w.heap.size w wr) (fun i _ => ds.length - (intOf i).toNat)
  case atStart => exact ⟨0, Nat.zero_le _, rfl, ⟨_, World.ownsMap_made _ _ _ _, Pl.start⟩, (Below.refl _ _).alloc (Nat.le_refl _) _⟩
  case round =>
    obtain ⟨k, hk, rfl, ⟨D, hown, hpl⟩, hbel⟩ := hrel
    clear hmm
    by_cases hlt : k < ds.length
    · obtain ⟨-, -, h | ⟨b, o, rfl, hc⟩⟩ := hr
      · subst h; simp at hlt
      obtain ⟨⟨t, x⟩, hh⟩ : ∃ x, ds[k] = x := ⟨_, rfl⟩
      have gx : ds[k]? = some (t, x) := by rw [List.getElem?_eq_getElem hlt, hh]
      obtain ⟨p0, p1⟩ := (hc k _ gx).later hbel
      simp only [] at p0 p1
      have hts := hn _ (List.mem_of_getElem? gx)
      simp only [] at hts
      have hkey : keyOf Try.prog 9 (.string t) = some (kyOf t) := keyOf_string_mk Try.underlying9 (by unfold maxLen; omega)
      have hml : ((ds.take k).map Prod.fst).length = k := by simp; omega
      rw [hml] at hown
      have hst := hpl.step t trivial
      rw [hml] at hst
      have HST := kide hst
      have HTK : Hid ((ds.take (k + 1)).map Prod.fst = (ds.take k).map Prod.fst ++ [t]) := by
        show _ = _
        rw [List.take_add_one, gx]; simp
      have HB : Hid _ := hbel
      have hsz : w.heap.size < wr.heap.size := hown.lt
      have HOW := kide hown
      have i0 : (k : Int) < (ds.length : Int) := by omega
      clear hc hh gx hbel hpl hst hml hn
      go_wp2_with (first
        | (at_mapUpdate; refine wpList_mapUpdate_own _ rfl _ _ _ 78 rfl 9 2 mlaw Try.underlying78 _ w.heap.size k _ rfl (HOW.out.alloc _) (by unfold maxLen; omega) _ _ _ rfl rfl hkey _ [] (plainElem_int Try.underlying2 (WalkArith.wf_i64 (by omega))) ?_)
        | fail)
      intro w1 hown1 hg1
      have HR1 : Hid _ := hown1
      have HR2 := kide ((HB.out.alloc HB.out.size _).grown hg1 (by have := HB.out.size; simp; omega) (fun j hj => by cases hj; exact Nat.le_refl _))
      clear hown1 hg1 hown
      go_wp2_with fail
      go_roundw
      case rel =>
        refine ⟨k + 1, by omega, by go_num, ⟨_, ?_, by rw [HTK.out]; exact HST.out⟩, HR2.out⟩
        have h := HR1.out
        have e : ((ds.take (k + 1)).map Prod.fst).length = k + 1 := by simp; omega
        rw [e]; exact h
      case measure => simp [intOf]; omega
    · have e : k = ds.length := by omega
      have HB : Hid _ := hbel
      rw [e, List.take_length] at hown hpl
      have HP : Hid (PlAt wr w.heap.size (ds.map Prod.fst)) := ⟨D, hown, hpl⟩
      clear hbel hown hpl e
      go_wp2_with fail
      go_ret
      exact ⟨rfl, HP.out, HB.out⟩

end Go.Proofs.Ytjnbapddfhpcnaa

/- What the given DeclsOk answers. -/
namespace Go.Proofs.Ytjnbapddfhpcnaa
set_option linter.unusedVariables false
set_option linter.unusedSimpArgs false
open Go.RowKit Go.WideMaps Go.Maps

set_option maxHeartbeats 1000000 in
theorem specDecls_any (a : Option Addr) (c : Nat) (ds : List Dc) (w : World) (hr : RdD w a ds) :
    Calls Try.prog 31 #[.slice a ds.length c] w fun e w' => e = .returned (.bool (dclR ds)) ∧ Below w.heap.size w w' := by
  have hlen := hr.1
  by_cases h60 : ds.length ≤ 60
  · go_enter Try.func31, Try.ntmps31
    go_wp2_with fail
    have HLN := kide hlen
    clear hlen
    go_loopw [3, 4] (fun q i wr => ∃ k : Nat, k ≤ ds.length ∧ i = .int .i64 (k : Int) ∧ q = .int .i64 (sumW (ds.take k)) ∧ (∀ d ∈ ds.take k, dcOk d = true) ∧ ((ds.take k).map Prod.fst).Nodup ∧ Below w.heap.size w wr) (fun _ i _ => ds.length - (intOf i).toNat)
    case atStart => exact ⟨0, Nat.zero_le _, rfl, by simp [sumW], by simp, by simp, Below.refl _ _⟩
    case round =>
      obtain ⟨k, hk, rfl, rfl, hok, hnd, hbel⟩ := hrel
      have HB := kide hbel
      by_cases hlt : k < ds.length
      · obtain ⟨-, hsz, h | ⟨b, o, rfl, hc⟩⟩ := hr
        · subst h; simp at hlt
        obtain ⟨⟨t, x⟩, hh⟩ : ∃ x, ds[k] = x := ⟨_, rfl⟩
        have gx : ds[k]? = some (t, x) := by rw [List.getElem?_eq_getElem hlt, hh]
        obtain ⟨p0, p1⟩ := (hc k _ gx).later hbel
        simp only [] at p0 p1
        obtain ⟨hx64, hts⟩ := hsz _ (List.mem_of_getElem? gx)
        simp only [] at hx64 hts
        have i0 : (k : Int) < (ds.length : Int) := by omega
        have HC := kide hc
        have GX := kide gx
        have hsum := sumW_le hok
        have hst := sumW_take gx
        simp only [] at hst
        have htl : (ds.take k).length = k := by simp; omega
        rw [htl] at hsum
        have HST := kide hst
        have HOK := kide hok
        have HND := kide hnd
        have hN : ∀ u, Calls Try.prog 42 #[.string t] u fun e w' => e = .returned (.bool (nmOk t)) ∧ w' = u := fun u => l1Name_any t hts u
        have hW : ∀ u, Calls Try.prog 32 #[.int .i64 x, .int .i64 1, .int .i64 4096] u fun e w' => e = .returned (.bool (wOk x)) ∧ w' = u := fun u => l1In_any x 1 4096 u
        have HN := kide hN
        have HW := kide hW
        have HBAD : Hid (nmOk t = false ∨ wOk x = false → dclR ds = false) := fun h => dclR_bad gx (by rcases h with h | h <;> simp [dcOk, h])
        have HGOOD : Hid (nmOk t = true → wOk x = true → dcOk (t, x) = true) := fun h h' => by simp [dcOk, h, h']
        have hwx : wOk x = true → 1 ≤ x ∧ x ≤ 4096 := fun h => by simpa [wOk] using h
        clear hN hW hc gx hh hsz hok hnd hst htl hbel
        generalize sumW (ds.take k) = Q at *
        generalize nmOk t = r1 at *
        cases r1 with
        | false =>
          have HR := kide (HBAD.out (.inl (by simp)))
          go_wp2_with (go_at_call 42; refine Calls.mono (HN.out _) ?_; rintro e w1 ⟨rfl, rfl⟩)
          go_ret
          exact ⟨ret_bool HR.out.symm, HB.out⟩
        | true =>
          generalize wOk x = r2 at *
          cases r2 with
          | false =>
            have HR := kide (HBAD.out (.inr (by simp)))
            go_wp2_with (first | (go_at_call 42; refine Calls.mono (HN.out _) ?_; rintro e wr ⟨rfl, rfl⟩) | (go_at_call 32; refine Calls.mono (HW.out _) ?_; rintro e wr ⟨rfl, rfl⟩))
            go_ret
            exact ⟨ret_bool HR.out.symm, HB.out⟩
          | true =>
            have hx := hwx (by simp)
            obtain ⟨hx1, hx2⟩ := hx
            have HG := kide (HGOOD.out (by simp) (by simp))
            clear HBAD HGOOD hwx
            go_wp2_with (first | (go_at_call 42; refine Calls.mono (HN.out _) ?_; rintro e wr ⟨rfl, rfl⟩) | (go_at_call 32; refine Calls.mono (HW.out _) ?_; rintro e wr ⟨rfl, rfl⟩))
            obtain ⟨hs1, hs2⟩ := hsum
            have hlk := block_lt_of_cell p0
            rename_i wo
            go_loopw [5] (fun i wr => ∃ j : Nat, j ≤ k ∧ i = .int .i64 (j : Int) ∧ (∀ i d, i < j → ds[i]? = some d → d.1 ≠ t) ∧ Below w.heap.size w wr) (fun i _ => k - (intOf i).toNat)
            case atStart => exact ⟨0, Nat.zero_le _, rfl, fun i d h => by omega, HB.out⟩
            case round =>
              obtain ⟨j, hj, rfl, hne, hbel⟩ := hrel
              clear p0 p1 HB
              obtain ⟨p0, p1⟩ := (HC.out k _ GX.out).later hbel
              simp only [] at p0 p1
              have HB := kide hbel
              have HNE := kide hne
              clear hbel hne
              by_cases hjk : j < k
              · obtain ⟨⟨t2, x2⟩, hh2⟩ : ∃ x, ds[j]'(by omega) = x := ⟨_, rfl⟩
                have gx2 : ds[j]? = some (t2, x2) := by rw [List.getElem?_eq_getElem (by omega), hh2]
                obtain ⟨q0, q1⟩ := (HC.out j _ gx2).later HB.out
                simp only [] at q0 q1
                have GX2 := kide gx2
                have j0 : (j : Int) < (k : Int) := by omega
                have j1 : (j : Int) < (ds.length : Int) := by omega
                clear gx2 hh2
                by_cases ht : t2 = t
                · subst ht
                  have HR : Hid (dclR ds = false) := by
                    show _ = _
                    rw [Bool.eq_false_iff]; intro h'
                    have hnd := (dclR_iff.1 h').2.2.2
                    have h1 : (ds.map Prod.fst)[j]? = some t2 := by simp [GX2.out]
                    have h2 : (ds.map Prod.fst)[k]? = some t2 := by simp [GX.out]
                    have := (List.getElem?_inj (by simp; omega) hnd).1 (h1.trans h2.symm)
                    omega
                  go_wp2_with fail
                  go_quiet (fail)
                  go_wp2_with fail
                  go_ret
                  exact ⟨ret_bool HR.out.symm, below_drewN HB.out _⟩
                · have hne2 := kstr_ne ht
                  have HT := kide ht
                  clear ht
                  go_wp2_with fail
                  go_quiet (fail)
                  go_wp2_with fail
                  go_roundw
                  case rel =>
                    refine ⟨j + 1, by omega, by go_num, fun i d hi hd => ?_, below_drewN HB.out _⟩
                    by_cases hij : i = j
                    · subst hij
                      rw [GX2.out] at hd
                      cases hd
                      exact HT.out
                    · exact HNE.out i d (by omega) hd
                  case measure => simp [intOf]; omega
              · have hjk' : j = k := by omega
                have HJ := kide hjk'
                clear hjk'
                go_wp2_with fail
                go_roundw
                case rel =>
                  refine ⟨k + 1, by omega, by go_num, ?_, ?_, ?_, HB.out⟩
                  · rw [HST.out]
                  · intro d hd
                    rw [List.take_add_one, GX.out] at hd
                    rcases List.mem_append.1 hd with hd | hd
                    · exact HOK.out d hd
                    · simp at hd
                      subst hd
                      exact HG.out
                  · rw [List.take_add_one, GX.out, List.map_append]
                    refine List.nodup_append.2 ⟨HND.out, by simp, fun y hy z hz => ?_⟩
                    simp at hz
                    subst hz
                    obtain ⟨d, hd, rfl⟩ := List.mem_map.1 hy
                    obtain ⟨i, hi, hid⟩ := List.mem_iff_getElem.1 hd
                    simp at hi hid
                    have := HNE.out i d (by rw [HJ.out]; omega) (by rw [List.getElem?_eq_getElem (by omega)]; exact congrArg some hid)
                    exact this
                case measure => simp [intOf]; omega
      · have e : k = ds.length := by omega
        rw [e, List.take_length] at hok hnd
        have hs := sumW_le hok
        have HR : Hid (dclR ds = decide (sumW (ds.take k) ≤ 20000)) := by
          show _ = _
          rw [e, List.take_length]
          rw [Bool.eq_iff_iff, dclR_iff, decide_eq_true_eq]
          exact ⟨fun h => h.2.2.1, fun h => ⟨h60, hok, h, hnd⟩⟩
        generalize sumW (ds.take k) = Q at *
        clear hok hnd hbel hs e
        go_wp2_with fail
        go_ret
        exact ⟨ret_bool HR.out.symm, HB.out⟩
  · rw [dclR_long (by omega)]
    go_enter Try.func31, Try.ntmps31
    go_wp2_with fail
    go_ret
    exact ⟨rfl, Below.refl _ _⟩

end Go.Proofs.Ytjnbapddfhpcnaa
