/- Contracts of the laws' own small functions on rows of rows of whole numbers: how long, copied, compared. -/
import Derived.Test.YtmfamdonbgmjbaaDoorKI
import Derived.Test.YtmfamdonbgmjbaaDoorC
import Derived.WalkSpells
import Derived.Deep.QuietTactic
import Derived.BigQuiet
import Derived.Outline
import Derived.WalkSmall
import Derived.Deep.OwnRows
import Derived.Test.YtmfamdonbgmjbaaDoorKM
import Derived.Deep.RegionHeld3
import Derived.Test.YtmfamdonbgmjbaaDoorK0
namespace Go.Proofs.YtmfamdonbgmjbaaDoor
set_option linter.unusedVariables false
set_option linter.unusedSimpArgs false
open Go.RowKit

/-- A row as it lies: where, how long. -/
structure Ih where
  a : Option Addr
  n : Nat
  c : Nat

def RdIh (w : World) (a : Option Addr) (hs : List Ih) : Prop :=
  hs.length ≤ 1048576 ∧ (hs = [] ∨ ∃ b o, a = some ⟨b, o, none⟩ ∧ ∀ i h, hs[i]? = some h → w.cell? ⟨b, o + i, none⟩ = some (.slice h.a h.n h.c) ∧ h.n ≤ 9223372036854775807)

theorem RdIh.later {w w' : World} {a : Option Addr} {hs : List Ih} (h : RdIh w a hs) (hb : Below w.heap.size w w') : RdIh w' a hs := by
  refine ⟨h.1, ?_⟩
  rcases h.2 with h | ⟨b, o, rfl, hc⟩
  · exact .inl h
  · refine .inr ⟨b, o, rfl, fun i x hi => ?_⟩
    obtain ⟨f0, f2⟩ := hc i x hi
    exact ⟨by rw [kcell hb _ _ (block_lt_of_cell f0)]; exact f0, f2⟩

/-- What is left of L behind some rows; -1: nothing. -/
def szIl : List Ih → Int → Int
  | [], L => L
  | h :: t, L => if (h.n : Int) ≤ L then szIl t (L - h.n) else -1

theorem szIl_range (hs : List Ih) (L : Int) (hL : 0 ≤ L) : szIl hs L = -1 ∨ 0 ≤ szIl hs L ∧ szIl hs L ≤ L ∧ ∀ h ∈ hs, (h.n : Int) ≤ L := by
  induction hs generalizing L with
  | nil => right; simp [szIl]; exact hL
  | cons h t ih =>
    rw [szIl]
    split
    · rename_i hc
      rcases ih (L - h.n) (by omega) with e | ⟨e1, e2, e3⟩
      · left; exact e
      · right
        refine ⟨e1, by omega, fun x hx => ?_⟩
        rcases List.mem_cons.1 hx with rfl | hx
        · exact hc
        · have := e3 x hx; omega
    · left; rfl

theorem szInt64SS_in (a : Option Addr) (c : Nat) (hs : List Ih) (L : Int) (w : World) (hr : RdIh w a hs) (hL : 0 ≤ L) (hL2 : L ≤ 1048576) (h : (hs.length : Int) ≤ L) :
    Calls Tryd.prog 29 #[.slice a hs.length c, .int .i64 L] w fun e w' => e = .returned (.int .i64 (szIl hs (L - hs.length))) ∧ Below w.heap.size w w' := by
  have hlen := hr.1
  generalize hZ : szIl hs (L - hs.length) = Z
  have HZ : Hid (szIl hs (L - hs.length) = Z) := hZ
  clear hZ
  go_enter Tryd.func29, Tryd.ntmps29
  go_wp2_with fail
  go_loopw [1, 5] (fun l i wr => ∃ (k : Nat) (Q : Int), k ≤ hs.length ∧ i = .int .i64 k ∧ l = .int .i64 Q ∧ 0 ≤ Q ∧ Q ≤ 1048576 ∧ szIl (hs.drop k) Q = Z ∧ Below w.heap.size w wr) (fun _ i _ => hs.length - (intOf i).toNat)
  case atStart => exact ⟨0, _, Nat.zero_le _, rfl, rfl, by omega, by omega, by rw [List.drop_zero]; exact HZ.out, Below.refl _ _⟩
  case round =>
    obtain ⟨k, Q, hk, rfl, rfl, hQ0, hQ1, hq, hbel⟩ := hrel
    by_cases hlt : k < hs.length
    · obtain ⟨-, h | ⟨b, o, rfl, hc⟩⟩ := hr
      · subst h; simp at hlt
      obtain ⟨⟨a1, n1, c1⟩, hh⟩ : ∃ x, hs[k] = x := ⟨_, rfl⟩
      obtain ⟨f1, f2⟩ := hc k ⟨a1, n1, c1⟩ (by rw [List.getElem?_eq_getElem hlt, hh])
      simp only [] at f1 f2
      have g1 : wr.cell? ⟨b, o + k, none⟩ = some (.slice a1 n1 c1) := by rw [hbel.cell (by exact block_lt_of_cell f1)]; exact f1
      rw [List.drop_eq_getElem_cons hlt, hh, szIl] at hq
      simp only [] at hq
      have HQ : Hid _ := hq
      have HB : Hid _ := hbel
      clear hc hh f1 hbel hq
      by_cases hyes : (n1 : Int) ≤ Q
      · go_wp2_with (go_at_call 55; refine (szInt64S_any _ _ _ _ _ hQ0 hQ1 f2).mono ?_; rw [if_pos hyes]; rintro e w1 ⟨rfl, rfl⟩)
        go_roundw
        case rel =>
          have h := HQ.out
          rw [if_pos hyes] at h
          exact ⟨k + 1, _, by omega, by go_num, rfl, by omega, by omega, h, HB.out⟩
        case measure => simp [intOf]; omega
      · have hyes' : ¬ (n1 : Int) ≤ Q := hyes
        go_wp2_with (go_at_call 55; refine (szInt64S_any _ _ _ _ _ hQ0 hQ1 f2).mono ?_; rw [if_neg (by omega)]; rintro e w1 ⟨rfl, rfl⟩)
        go_ret
        have h := HQ.out
        rw [if_neg (by omega)] at h
        exact ⟨ret_int h, HB.out⟩
    · have e : k = hs.length := by omega
      rw [e, List.drop_length, szIl] at hq
      have HQ : Hid _ := hq
      clear hq
      go_wp2_with fail
      go_ret
      exact ⟨ret_int HQ.out, hbel⟩

theorem szInt64SS_out (a : Option Addr) (n c : Nat) (L : Int) (w : World) (hL : 0 ≤ L) (hL2 : L ≤ 1048576) (hn : n ≤ 9223372036854775807) (h : ¬ (n : Int) ≤ L) :
    Calls Tryd.prog 29 #[.slice a n c, .int .i64 L] w fun e w' => e = .returned (.int .i64 (-1)) ∧ w' = w := by
  go_enter Tryd.func29, Tryd.ntmps29
  go_wp2_with fail
  go_ret
  exact ⟨rfl, rfl⟩

/-- A row: where it lies, its numbers. -/
structure Iw where
  a : Option Addr
  c : Nat
  ks : List Int

def IwAt (w : World) (b o : Nat) (x : Iw) : Prop := w.cell? ⟨b, o, none⟩ = some (.slice x.a x.ks.length x.c) ∧ RdI w x.a x.ks

theorem IwAt.later {w w' : World} {b o : Nat} {x : Iw} (h : IwAt w b o x) (hb : Below w.heap.size w w') : IwAt w' b o x :=
  ⟨by rw [kcell hb _ _ (block_lt_of_cell h.1)]; exact h.1, h.2.later hb⟩

/-- A slice whose rows are xs, wherever it lies. -/
def RdII (w : World) (a : Option Addr) (xs : List Iw) : Prop :=
  xs.length ≤ 1048576 ∧ (xs = [] ∨ ∃ b o, a = some ⟨b, o, none⟩ ∧ ∀ i n, xs[i]? = some n → IwAt w b (o + i) n)

theorem RdII.later {w w' : World} {a : Option Addr} {xs : List Iw} (h : RdII w a xs) (hb : Below w.heap.size w w') : RdII w' a xs := by
  refine ⟨h.1, ?_⟩
  rcases h.2 with h | ⟨b, o, rfl, hc⟩
  · exact .inl h
  · exact .inr ⟨b, o, rfl, fun i n hi => (hc i n hi).later hb⟩

theorem eqInt64SS_same (a b : Option Addr) (c d : Nat) (xs ys : List Iw) (w : World) (hr : RdII w a xs) (hs : RdII w b ys) (he : xs.map Iw.ks = ys.map Iw.ks) (n : Nat) (h1 : xs.length = n) (h2 : ys.length = n) :
    Calls Tryd.prog 39 #[.slice a n c, .slice b n d] w fun e w' => e = .returned (.bool true) ∧ Below w.heap.size w w' := by
  have hl1 := hr.1
  rw [h1] at hl1
  have hne : ((n : Int) != (n : Int)) = false := by simp
  have H1 := kide h1
  have H2 := kide h2
  have HE := kide he
  clear h1 h2 he
  go_enter Tryd.func39, Tryd.ntmps39
  go_wp2_with fail
  clear hne
  go_loopw [5] (fun i wr => ∃ k : Nat, k ≤ n ∧ i = .int .i64 k ∧ Below w.heap.size w wr) (fun i _ => n - (intOf i).toNat)
  case atStart => exact ⟨0, Nat.zero_le _, rfl, Below.refl _ _⟩
  case round =>
    obtain ⟨k, hk, rfl, hbel⟩ := hrel
    have HB := kide hbel
    by_cases hlt : k < n
    · obtain ⟨-, h | ⟨b1, o1, rfl, hc1⟩⟩ := hr
      · have := H1.out; subst h; simp at this; omega
      obtain ⟨-, h | ⟨b2, o2, rfl, hc2⟩⟩ := hs
      · have := H2.out; subst h; simp at this; omega
      obtain ⟨⟨a1, c1, k1⟩, hx⟩ : ∃ x, xs[k]? = some x := ⟨xs[k]'(by rw [H1.out]; exact hlt), List.getElem?_eq_getElem _⟩
      obtain ⟨⟨a2, c2, k2⟩, hy⟩ : ∃ y, ys[k]? = some y := ⟨ys[k]'(by rw [H2.out]; exact hlt), List.getElem?_eq_getElem _⟩
      have hxy : k1 = k2 := by
        have h := congrArg (fun l => l[k]?) HE.out
        simp [hx, hy] at h
        exact h
      obtain rfl := hxy
      obtain ⟨p1, p2⟩ := (hc1 k _ hx).later hbel
      obtain ⟨q1, q2⟩ := (hc2 k _ hy).later hbel
      simp only [] at p1 p2 q1 q2
      have l1 := block_lt_of_cell p1
      have l2 := block_lt_of_cell q1
      have i0 : (k : Int) < (n : Int) := by omega
      have HEQ : Hid (∀ u, Below wr.heap.size wr u → Calls Tryd.prog 12 #[.slice a1 k1.length c1, .slice a2 k1.length c2] u fun e w' => e = .returned (.bool true) ∧ Below u.heap.size u w') := fun u hu => by
        have := eqInt64S_any a1 a2 c1 c2 k1 k1 u (p2.later hu) (q2.later hu)
        simpa using this
      clear hc1 hc2 hbel hx hy p2 q2
      go_wp2_with fail
      go_region_held3 (fun u => u.cell? ⟨b1, o1 + k, none⟩ = some (Value.slice a1 k1.length c1) ∧ u.cell? ⟨b2, o2 + k, none⟩ = some (Value.slice a2 k1.length c2)) (simp [*])
        ((go_at_call 12; refine Calls.mono (HEQ.out _ ?_) ?_; exact (Below.refl _ _).drew; rintro e w1 ⟨rfl, hb1⟩; replace hb1 := kundrew hb1; have k0 := kcell hb1 b1 (o1 + k) l1; have k2 := kcell hb1 b2 (o2 + k) l2))
      go_wp2_with fail
      go_roundw
      case rel => exact ⟨k + 1, by omega, by go_num, HB.out.trans (hb1.mono HB.out.size)⟩
      case measure => simp [intOf]; omega
    · clear hbel
      go_wp2_with fail
      go_ret
      exact ⟨rfl, HB.out⟩

theorem Tryd.infoRow : (Tryd.prog.info? 25).map (fun i => (i.zero, i.size, i.bytes)) = some (some (.slice none 0 0), 1, 24) := by kernel_rfl

theorem toInt64SS_any (a : Option Addr) (c : Nat) (xs : List Iw) (w : World) (hr : RdII w a xs) :
    Calls Tryd.prog 33 #[.slice a xs.length c] w fun e w' => ∃ ms : List Iw, e = .returned (.slice (some ⟨w.heap.size, 0, none⟩) xs.length xs.length) ∧ ms.map Iw.ks = xs.map Iw.ks ∧ (∀ u : World, (∀ g, w.heap.size ≤ g → u.heap[g]? = w'.heap[g]?) → RdII u (some ⟨w.heap.size, 0, none⟩) ms) ∧ Below w.heap.size w w' := by
  have hlen := hr.1
  have hmk := fun kl kc w => run_make_row' (P := Tryd.prog) 22 25 (.slice none 0 0) 24 Tryd.underlying22 Tryd.infoRow rfl kl kc xs.length (by omega) (by omega) w
  go_enter Tryd.func33, Tryd.ntmps33
  go_wp2_with fail
  have hrow := krow (heap_alloc_new w (.cells (madeCells #[.slice none 0 0] xs.length) 25))
  rw [size_madeCells] at hrow
  have hb0 : Below w.heap.size w (w.alloc (.cells (madeCells #[.slice none 0 0] xs.length) 25)) := (Below.refl _ _).alloc (Nat.le_refl _) _
  have hs0 : w.heap.size < (w.alloc (.cells (madeCells #[.slice none 0 0] xs.length) 25)).heap.size := by simp
  generalize (w.alloc (.cells (madeCells #[.slice none 0 0] xs.length) 25)) = w0 at *
  go_loopw [4] (fun i wr => ∃ (k : Nat) (f : Nat → Value) (ms : List Iw), k ≤ xs.length ∧ i = .int .i64 k ∧ wr.rowIs w.heap.size 25 xs.length f ∧ ms.length = k ∧ ms.map Iw.ks = (xs.take k).map Iw.ks ∧ (∀ j x, ms[j]? = some x → f j = .slice x.a x.ks.length x.c ∧ ∃ g, x.a = some ⟨g, 0, none⟩ ∧ w.heap.size < g ∧ OwnI wr g x.ks) ∧ Below w.heap.size w wr ∧ w.heap.size < wr.heap.size) (fun i _ => xs.length - (intOf i).toNat)
  case atStart => exact ⟨0, _, [], Nat.zero_le _, rfl, hrow, rfl, rfl, fun j x h => by simp at h, hb0, hs0⟩
  case round =>
    obtain ⟨k, f, ms, hk, rfl, hrw, hml, hmc, hms, hbel, hsz⟩ := hrel
    clear hrow hb0 hs0
    by_cases hlt : k < xs.length
    · obtain ⟨-, h | ⟨b, o, rfl, hc⟩⟩ := hr
      · subst h; simp at hlt
      obtain ⟨⟨a1, c1, k1⟩, hx⟩ : ∃ x, xs[k] = x := ⟨_, rfl⟩
      have gx : xs[k]? = some ⟨a1, c1, k1⟩ := by rw [List.getElem?_eq_getElem hlt, hx]
      obtain ⟨p1', p2'⟩ := (hc k _ gx).later hbel
      simp only [] at p1' p2'
      clear hx
      have GX : Hid _ := gx
      have HML : Hid _ := hml
      have HMC : Hid _ := hmc
      have HMS : Hid _ := hms
      have HR : Hid _ := hrw
      have HB : Hid _ := hbel
      have i0 : (k : Int) < (xs.length : Int) := by omega
      clear gx hml hmc hms hc hrw hbel hmk
      go_wp2_with fail
      refine (toInt64S_any _ _ _ _ p2').mono ?_
      rintro e w1 ⟨rfl, hown, hb1⟩
      have hr1 := World.rowIs.of_block HR.out (hb1.block _ hsz)
      have q1 := hr1.cell (i := k) (by omega)
      have r1 := hr1.frozen k
      have HR1 : Hid _ := hr1
      clear hr1
      go_wp2_with fail
      go_roundw
      case rel =>
        have hl := HML.out
        refine ⟨k + 1, _, ms ++ [⟨some ⟨wr.heap.size, 0, none⟩, k1.length, k1⟩], by omega, by go_num, World.rowIs.set HR1.out k (.slice (some ⟨wr.heap.size, 0, none⟩) k1.length k1.length), by simp [hl], ?_, fun j x hj => ?_, ?_, ?_⟩
        · have h := HMC.out
          rw [List.map_append, h, List.take_add_one, GX.out, List.map_append]
          rfl
        · rw [List.getElem?_append] at hj
          split at hj
          · obtain ⟨h0, g, h2, h3, h4⟩ := HMS.out j x hj
            refine ⟨?_, g, h2, h3, (h4.later hb1 h4.lt).other (by simp; omega) _⟩
            show (if _ then _ else _) = _
            rw [if_neg (by omega)]; exact h0
          · have hj2 : j - ms.length = 0 := by
              have := (List.getElem?_eq_some_iff.1 hj).1
              simp at this; exact this
            rw [hj2] at hj
            simp at hj
            subst hj
            have hjk : j = k := by omega
            subst hjk
            exact ⟨by simp, _, rfl, hsz, hown.other (by simp; omega) _⟩
        · exact (HB.out.trans (hb1.mono HB.out.size)).setCell (Nat.le_refl _) _
        · have := hb1.size
          simp; omega
      case measure => simp [intOf]; omega
    · have e : k = xs.length := by omega
      have HM : Hid _ := hml
      have HC : Hid _ := hmc
      have HS : Hid _ := hms
      have HR : Hid _ := hrw
      have HB : Hid _ := hbel
      have HE : Hid _ := e
      clear hml hmc hms hrw hbel e hmk
      go_wp2_with fail
      go_ret
      refine ⟨ms, rfl, ?_, fun u hu => ⟨by rw [HM.out]; omega, .inr ⟨_, 0, rfl, fun i x hi => ?_⟩⟩, HB.out⟩
      · have h := HC.out
        rw [HE.out, List.take_length] at h
        exact h
      · obtain ⟨h0, g, h2, h3, h4⟩ := HS.out i x hi
        have hik : i < k := by have := (List.getElem?_eq_some_iff.1 hi).1; rw [HM.out] at this; exact this
        have hct : ∃ y, xs[i]? = some y ∧ y.ks = x.ks := by
          have h := HC.out
          rw [HE.out, List.take_length] at h
          have h' : (ms.map Iw.ks)[i]? = (xs.map Iw.ks)[i]? := by rw [h]
          rw [List.getElem?_map, List.getElem?_map, hi, Option.map_some] at h'
          cases hy : xs[i]? with
          | none => rw [hy] at h'; cases h'
          | some y => rw [hy] at h'; simp at h'; exact ⟨y, rfl, h'.symm⟩
        obtain ⟨y, hy, hyx⟩ := hct
        obtain ⟨-, hn | ⟨b, o, -, hc⟩⟩ := hr
        · subst hn; simp at hy
        obtain ⟨-, ⟨l1, l2, -⟩⟩ := hc i y hy
        rw [hyx] at l1 l2
        refine ⟨?_, ?_⟩
        · rw [Nat.zero_add, ← h0]; exact World.rowIs.cell (World.rowIs.of_block HR.out (hu _ (Nat.le_refl _))) (by omega)
        · rw [h2]
          refine OwnI.rd (w := u) (g := g) ?_ l1 l2
          unfold OwnI
          rw [hu g (by omega)]
          exact h4

theorem kfroz {W w1 : World} (hb : Below W.heap.size W w1) (b o : Nat) (h : b < W.heap.size) : w1.frozen? ⟨b, o, none⟩ = W.frozen? ⟨b, o, none⟩ := hb.frozen (p := ⟨b, o, none⟩) h

end Go.Proofs.YtmfamdonbgmjbaaDoor
