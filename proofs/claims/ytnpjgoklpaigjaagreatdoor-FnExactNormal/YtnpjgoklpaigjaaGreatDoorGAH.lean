/- Several texts in one. -/
import Derived.Test.YtnpjgoklpaigjaaGreatDoorGAG
import Derived.WalkSpells
import Derived.Deep.QuietTactic
import Derived.BigQuiet
import Derived.Outline
import Derived.WalkSmall
import Derived.Deep.OwnRows
import Derived.Test.YtnpjgoklpaigjaaGreatDoorGAD
import Derived.Deep.RegionHeld3
import Derived.Test.YtnpjgoklpaigjaaGreatDoorGAB
import Derived.Maps.Own
import Derived.Maps.OwnSet
import Derived.Test.YtnpjgoklpaigjaaGreatDoorRX
import Derived.Deep.RegionHeldLaw
import Derived.Deep.AppendLies
namespace Go.Proofs.YtnpjgoklpaigjaaGreatDoor
open Go.RowKit
set_option linter.unusedVariables false
set_option linter.unusedSimpArgs false
theorem kide {p : Prop} (h : p) : Hid p := h
theorem kcell {W w1 : World} (hb : Below W.heap.size W w1) (b o : Nat) (h : b < W.heap.size) : w1.cell? ⟨b, o, none⟩ = W.cell? ⟨b, o, none⟩ := hb.cell (p := ⟨b, o, none⟩) h
theorem kundrew {B : Nat} {w w' : World} (h : Below B w.drew w') : Below B w w' := ⟨h.os, h.tape, h.output, h.size, h.block⟩
theorem kstr_ne {s t : ByteArray} (h : s ≠ t) : (s.toList == t.toList) = false := by
 rw [ByteArray.toList_eq, ByteArray.toList_eq, beq_eq_false_iff_ne]
 intro e
 exact h (ByteArray.ext (Array.toList_inj.1 e))
theorem krow {w : World} {g : Nat} {c : Array Value} {t : TypeId} (h : w.heap[g]? = some (.cells c t (0, 0))) : w.rowIs g t c.size (fun i => (c[i]?).getD undef) :=
 ⟨c, h, rfl, fun i hi => by simp [hi]⟩

def DcAt (w : World) (b o : Nat) (d : Dc) : Prop := w.cell? ⟨b, o, none⟩ = some (.string d.1) ∧ w.cell? ⟨b, o + 1, none⟩ = some (.int .i64 d.2)
theorem DcAt.later {w w' : World} {b o : Nat} {d : Dc} (h : DcAt w b o d) (hb : Below w.heap.size w w') : DcAt w' b o d :=
 ⟨by rw [kcell hb _ _ (block_lt_of_cell h.1)]; exact h.1, by rw [kcell hb _ _ (block_lt_of_cell h.2)]; exact h.2⟩
def RdD (w : World) (a : Option Addr) (ds : List Dc) : Prop :=
 ds.length ≤ 1048576 ∧ (∀ d ∈ ds, in64 d.2 ∧ d.1.size ≤ 9223372036854775807) ∧ (ds = [] ∨ ∃ b o, a = some ⟨b, o, none⟩ ∧ ∀ i d, ds[i]? = some d → DcAt w b (o + i * 2) d)
theorem RdD.later {w w' : World} {a : Option Addr} {ds : List Dc} (h : RdD w a ds) (hb : Below w.heap.size w w') : RdD w' a ds := by
 refine ⟨h.1, h.2.1, ?_⟩
 rcases h.2.2 with h | ⟨b, o, rfl, hc⟩
 ·exact .inl h
 ·exact .inr ⟨b, o, rfl, fun i n hi => (hc i n hi).later hb⟩
theorem szDecl_any (s : ByteArray) (x : Int) (L : Int) (w : World) (hL : 0 ≤ L) (hL2 : L ≤ 1048576) (hs : s.size ≤ 9223372036854775807) :
  Calls Tryz.prog 15 #[.agg #[.string s, .int .i64 x], .int .i64 L] w fun e w' => e = .returned (.int .i64 (if (s.size : Int) ≤ L then L - s.size else -1)) ∧ Below w.heap.size w w' := by
 by_cases h : (s.size : Int) ≤ L
 ·rw [if_pos h]
  go_enter Tryz.func15, Tryz.ntmps15
  go_wp2_with fail
  go_ret
  exact ⟨rfl, blA _ _⟩
 ·rw [if_neg h]
  go_enter Tryz.func15, Tryz.ntmps15
  go_wp2_with fail
  go_ret
  exact ⟨rfl, blA _ _⟩
def szD : List Dc → Int → Int
 | [], L => L
 | d :: t, L => if (d.1.size : Int) ≤ L then szD t (L - d.1.size) else -1
theorem szD_range (ds : List Dc) (L : Int) (hL : 0 ≤ L) : szD ds L = -1 ∨ 0 ≤ szD ds L ∧ szD ds L ≤ L ∧ ∀ d ∈ ds, (d.1.size : Int) ≤ L := by
 induction ds generalizing L with
 | nil => right; simp [szD]; exact hL
 | cons h t ih =>
  rw [szD]
  split
  ·rename_i hc
   rcases ih (L - h.1.size) (by omega) with e | ⟨e1, e2, e3⟩
   ·left; exact e
   ·right
    refine ⟨e1, by omega, fun x hx => ?_⟩
    rcases List.mem_cons.1 hx with rfl | hx
    ·exact hc
    ·have := e3 x hx; omega
  ·left; rfl
theorem szDeclS_in (a : Option Addr) (c : Nat) (ds : List Dc) (L : Int) (w : World) (hr : RdD w a ds) (hL : 0 ≤ L) (hL2 : L ≤ 1048576) (h : (ds.length : Int) ≤ L) :
  Calls Tryz.prog 4 #[.slice a ds.length c, .int .i64 L] w fun e w' => e = .returned (.int .i64 (szD ds (L - ds.length))) ∧ Below w.heap.size w w' := by
 have hlen := hr.1
 generalize hZ : szD ds (L - ds.length) = Z
 have HZ : Hid (szD ds (L - ds.length) = Z) := hZ
 clear hZ
 go_enter Tryz.func4, Tryz.ntmps4
 go_wp2_with fail
 go_loopw [1, 5] (fun l i wr => ∃ (k : Nat) (Q : Int), k ≤ ds.length ∧ i = .int .i64 k ∧ l = .int .i64 Q ∧ 0 ≤ Q ∧ Q ≤ 1048576 ∧ szD (ds.drop k) Q = Z ∧ Below w.heap.size w wr) (fun _ i _ => ds.length - (intOf i).toNat)
 case atStart => exact ⟨0, _, Nat.zero_le _, rfl, rfl, by omega, by omega, by rw [List.drop_zero]; exact HZ.out, Below.refl _ _⟩
 case round =>
  obtain ⟨k, Q, hk, rfl, rfl, hQ0, hQ1, hq, hbel⟩ := hrel
  by_cases hlt : k < ds.length
  ·obtain ⟨-, hsz, h | ⟨b, o, rfl, hc⟩⟩ := hr
   ·subst h; simp at hlt
   obtain ⟨⟨t, x⟩, hh⟩ : ∃ x, ds[k] = x := ⟨_, rfl⟩
   have gx : ds[k]? = some (t, x) := by rw [List.getElem?_eq_getElem hlt, hh]
   obtain ⟨g0, g1⟩ := (hc k _ gx).later hbel
   simp only [] at g0 g1
   have hts := (hsz _ (List.mem_of_getElem? gx)).2
   simp only [] at hts
   rw [List.drop_eq_getElem_cons hlt, hh, szD] at hq
   simp only [] at hq
   have HQ : Hid _ := hq
   have HB : Hid _ := hbel
   clear hc hh gx hbel hq hsz
   by_cases hyes : (t.size : Int) ≤ Q
   ·go_wp2_with (go_at_call 15; refine (szDecl_any _ _ _ _ hQ0 hQ1 hts).mono ?_; rw [if_pos hyes]; rintro e w1 ⟨rfl, hb1⟩)
    go_roundw
    case rel =>
     have h := HQ.out
     rw [if_pos hyes] at h
     exact ⟨k + 1, _, by omega, by go_num, rfl, by omega, by omega, h, HB.out.trans (hb1.mono HB.out.size)⟩
    case measure => simp [intOf]; omega
   ·go_wp2_with (go_at_call 15; refine (szDecl_any _ _ _ _ hQ0 hQ1 hts).mono ?_; rw [if_neg hyes]; rintro e w1 ⟨rfl, hb1⟩)
    go_ret
    have h := HQ.out
    rw [if_neg (by omega)] at h
    exact ⟨ret_int h, HB.out.trans (hb1.mono HB.out.size)⟩
  ·have e : k = ds.length := by omega
   rw [e, List.drop_length, szD] at hq
   have HQ : Hid _ := hq
   clear hq
   go_wp2_with fail
   go_ret
   exact ⟨ret_int HQ.out, hbel⟩
theorem szDeclS_out (a : Option Addr) (n c : Nat) (L : Int) (w : World) (hL : 0 ≤ L) (hL2 : L ≤ 1048576) (hn : n ≤ 9223372036854775807) (h : ¬ (n : Int) ≤ L) :
  Calls Tryz.prog 4 #[.slice a n c, .int .i64 L] w fun e w' => e = .returned (.int .i64 (-1)) ∧ w' = w := by
 go_enter Tryz.func4, Tryz.ntmps4
 go_wp2_with fail
 go_ret
 exact ⟨rfl, rfl⟩
theorem eqDecl_same (s : ByteArray) (x : Int) (w : World) :
  Calls Tryz.prog 24 #[.agg #[.string s, .int .i64 x], .agg #[.string s, .int .i64 x]] w fun e w' => e = .returned (.bool true) ∧ Below w.heap.size w w' := by
 have h2 : Below w.heap.size w ((w.alloc (Obj.cells #[.string s, .int .i64 x] 49)).alloc (Obj.cells #[.string s, .int .i64 x] 49)) := (blA _ _).alloc (by simp) _
 have hx : (x != x) = false := by simp
 go_enter Tryz.func24, Tryz.ntmps24
 go_wp2_with fail
 go_ret
 exact ⟨rfl, h2⟩
theorem eqDeclS_same (a b : Option Addr) (c d : Nat) (ds : List Dc) (w : World) (hr : RdD w a ds) (hs : RdD w b ds) :
  Calls Tryz.prog 11 #[.slice a ds.length c, .slice b ds.length d] w fun e w' => e = .returned (.bool true) ∧ Below w.heap.size w w' := by
 have hl1 := hr.1
 have hne : ((ds.length : Int) != (ds.length : Int)) = false := by simp
 go_enter Tryz.func11, Tryz.ntmps11
 go_wp2_with fail
 clear hne
 go_loopw [5] (fun i wr => ∃ k : Nat, k ≤ ds.length ∧ i = .int .i64 k ∧ Below w.heap.size w wr) (fun i _ => ds.length - (intOf i).toNat)
 case atStart => exact ⟨0, Nat.zero_le _, rfl, Below.refl _ _⟩
 case round =>
  obtain ⟨k, hk, rfl, hbel⟩ := hrel
  have HB := kide hbel
  by_cases hlt : k < ds.length
  ·obtain ⟨-, -, h | ⟨b1, o1, rfl, hc1⟩⟩ := hr
   ·subst h; simp at hlt
   obtain ⟨-, -, h | ⟨b2, o2, rfl, hc2⟩⟩ := hs
   ·subst h; simp at hlt
   obtain ⟨⟨t, x⟩, hh⟩ : ∃ x, ds[k] = x := ⟨_, rfl⟩
   have gx : ds[k]? = some (t, x) := by rw [List.getElem?_eq_getElem hlt, hh]
   obtain ⟨p0, p1⟩ := (hc1 k _ gx).later hbel
   obtain ⟨q0, q1⟩ := (hc2 k _ gx).later hbel
   simp only [] at p0 p1 q0 q1
   have l1 := block_lt_of_cell p0
   have l2 := block_lt_of_cell q0
   have i0 : (k : Int) < (ds.length : Int) := by omega
   clear hc1 hc2 hbel hh gx
   go_wp2_with fail
   go_region_held3 (fun u => u.cell? ⟨b1, o1 + k * 2, none⟩ = some (Value.string t) ∧ u.cell? ⟨b1, o1 + k * 2 + 1, none⟩ = some (Value.int .i64 x) ∧ u.cell? ⟨b2, o2 + k * 2, none⟩ = some (Value.string t) ∧ u.cell? ⟨b2, o2 + k * 2 + 1, none⟩ = some (Value.int .i64 x)) (simp [*])
    ((go_at_call 24; refine Calls.mono (eqDecl_same _ _ _) ?_; rintro e w1 ⟨rfl, hb1⟩; replace hb1 := kundrew hb1; have k0 := kcell hb1 b1 (o1 + k * 2) l1; have k1 := kcell hb1 b1 (o1 + k * 2 + 1) l1; have k2 := kcell hb1 b2 (o2 + k * 2) l2; have k3 := kcell hb1 b2 (o2 + k * 2 + 1) l2))
   go_wp2_with fail
   go_roundw
   case rel => exact ⟨k + 1, by omega, by go_num, HB.out.trans (hb1.mono HB.out.size)⟩
   case measure => simp [intOf]; omega
  ·clear hbel
   go_wp2_with fail
   go_ret
   exact ⟨rfl, HB.out⟩
theorem Tryz.infoDecl : (Tryz.prog.info? 49).map (fun i => (i.zero, i.size, i.bytes)) = some (some (.agg #[.string .empty, .int .i64 0]), 2, 24) := by kernel_rfl
theorem make_decls (n : Nat) (hn : n ≤ 1048576) (kl kc : IntKind) (w : World) :
  (Instr.makeSlice 33 (.int kl (n : Int)) (.int kc (n : Int))).run Tryz.prog w = .ok (.slice (some ⟨w.heap.size, 0, none⟩) n n) (w.alloc (.cells (madeCells #[.string .empty, .int .i64 0] (n * 2)) 49)) := by
 obtain ⟨i0, hi, hz0, hz1, hz2⟩ := info_parts Tryz.infoDecl
 have := run_make (P := Tryz.prog) w 33 49 i0 _ Tryz.underlying33 hi hz0 kl kc n n (by omega) (Int.le_refl _) (by rw [hz2]; omega) (by omega)
 rw [hz1] at this
 simp only [Int.toNat_natCast] at this
 exact this
theorem toDecl_any (s : ByteArray) (x : Int) (w : World) :
  Calls Tryz.prog 19 #[.agg #[.string s, .int .i64 x]] w fun e w' => e = .returned (.agg #[.string s, .int .i64 x]) ∧ Below w.heap.size w w' := by
 go_enter Tryz.func19, Tryz.ntmps19
 go_wp2_with fail
 refine bodyPost_ret (v := .agg #[.string s, .int .i64 x]) (by simp [results, Tryz.results19, go_sem]) rfl ⟨rfl, ?_⟩
 exact ((blA _ _).alloc (by simp) _).alloc (by simp; omega) _


structure Sh where
 v : Int
 lo : Int
 wd : Int
 bw : Int
 a : Option Addr
 n : Nat
 c : Nat
def ShAt (w : World) (b o : Nat) (h : Sh) : Prop :=
 w.cell? ⟨b, o, none⟩ = some (.int .i64 h.v) ∧ w.cell? ⟨b, o + 1, none⟩ = some (.int .i64 h.lo) ∧ w.cell? ⟨b, o + 2, none⟩ = some (.int .i64 h.wd) ∧ w.cell? ⟨b, o + 3, none⟩ = some (.int .i64 h.bw) ∧ w.cell? ⟨b, o + 4, none⟩ = some (.slice h.a h.n h.c)
theorem ShAt.later {w w' : World} {b o : Nat} {h : Sh} (k : ShAt w b o h) (hb : Below w.heap.size w w') : ShAt w' b o h := by
 obtain ⟨f0, f1, f2, f3, f4⟩ := k
 have l := block_lt_of_cell f0
 exact ⟨by rw [kcell hb _ _ l]; exact f0, by rw [kcell hb _ _ l]; exact f1, by rw [kcell hb _ _ l]; exact f2, by rw [kcell hb _ _ l]; exact f3, by rw [kcell hb _ _ l]; exact f4⟩


structure Sc where
 v : Int
 lo : Int
 wd : Int
 bw : Int
 ws : List Nat

structure Sg where
 ct : Sc
 a : Option Addr
 c : Nat
def Sg.hd (x : Sg) : Sh := ⟨x.ct.v, x.ct.lo, x.ct.wd, x.ct.bw, x.a, x.ct.ws.length, x.c⟩
def SgAt (w : World) (b o : Nat) (x : Sg) : Prop := ShAt w b o x.hd ∧ Rd w x.a x.ct.ws ∧ in64 x.ct.v ∧ in64 x.ct.lo ∧ in64 x.ct.wd ∧ in64 x.ct.bw
theorem SgAt.later {w w' : World} {b o : Nat} {x : Sg} (h : SgAt w b o x) (hb : Below w.heap.size w w') : SgAt w' b o x := ⟨h.1.later hb, h.2.1.later hb, h.2.2⟩
def RdS (w : World) (a : Option Addr) (xs : List Sg) : Prop :=
 xs.length ≤ 1048576 ∧ (xs = [] ∨ ∃ b o, a = some ⟨b, o, none⟩ ∧ ∀ i n, xs[i]? = some n → SgAt w b (o + i * 5) n)
theorem RdS.later {w w' : World} {a : Option Addr} {xs : List Sg} (h : RdS w a xs) (hb : Below w.heap.size w w') : RdS w' a xs := by
 refine ⟨h.1, ?_⟩
 rcases h.2 with h | ⟨b, o, rfl, hc⟩
 ·exact .inl h
 ·exact .inr ⟨b, o, rfl, fun i n hi => (hc i n hi).later hb⟩


theorem letB_cases (c : Nat) : (c < 97 ∧ letB c = false) ∨ (97 ≤ c ∧ 122 < c ∧ letB c = false) ∨ (97 ≤ c ∧ c ≤ 122 ∧ letB c = true) := by
 unfold letB
 by_cases h1 : 97 ≤ c
 ·by_cases h2 : c ≤ 122
  ·exact .inr (.inr ⟨h1, h2, by simp [h1, h2]⟩)
  ·exact .inr (.inl ⟨h1, by omega, by simp [h2]⟩)
 ·exact .inl ⟨by omega, by simp [h1]⟩
theorem digB_cases (c : Nat) : (c < 48 ∧ digB c = false) ∨ (48 ≤ c ∧ 57 < c ∧ digB c = false) ∨ (48 ≤ c ∧ c ≤ 57 ∧ digB c = true) := by
 unfold digB
 by_cases h1 : 48 ≤ c
 ·by_cases h2 : c ≤ 57
  ·exact .inr (.inr ⟨h1, h2, by simp [h1, h2]⟩)
  ·exact .inr (.inl ⟨h1, by omega, by simp [h2]⟩)
 ·exact .inl ⟨by omega, by simp [h1]⟩
theorem letterByte_any (c : Nat) (hc : c < 256) (w : World) :
  Calls Tryz.prog 108 #[.int .u8 (c : Int)] w fun e w' => e = .returned (.bool (letB c)) ∧ w' = w := by
 rcases letB_cases c with ⟨h1, h⟩ | ⟨h0, h1, h⟩ | ⟨h0, h1, h⟩
 all_goals
  rw [h]
  clear h
  go_enter Tryz.func108, Tryz.ntmps108
  go_wp2
  go_ret
  first | exact ⟨rfl, rfl⟩ | exact ⟨ret_bool (by simp; omega), rfl⟩
theorem digitByte_any (c : Nat) (hc : c < 256) (w : World) :
  Calls Tryz.prog 109 #[.int .u8 (c : Int)] w fun e w' => e = .returned (.bool (digB c)) ∧ w' = w := by
 rcases digB_cases c with ⟨h1, h⟩ | ⟨h0, h1, h⟩ | ⟨h0, h1, h⟩
 all_goals
  rw [h]
  clear h
  go_enter Tryz.func109, Tryz.ntmps109
  go_wp2
  go_ret
  first | exact ⟨rfl, rfl⟩ | exact ⟨ret_bool (by simp; omega), rfl⟩
theorem l1Digit_any (c : Nat) (hc : c < 256) (w : World) :
  Calls Tryz.prog 107 #[.int .u8 (c : Int)] w fun e w' => e = .returned (.bool (digB c)) ∧ w' = w := by
 rcases digB_cases c with ⟨h1, h⟩ | ⟨h0, h1, h⟩ | ⟨h0, h1, h⟩
 all_goals
  rw [h]
  clear h
  go_enter Tryz.func107, Tryz.ntmps107
  go_wp2
  go_ret
  first | exact ⟨rfl, rfl⟩ | exact ⟨ret_bool (by simp; omega), rfl⟩
theorem nmOk_size {s : ByteArray} (h : s.size < 1 ∨ 12 < s.size) : nmOk s = false := by
 unfold nmOk
 rcases h with h | h
 ·rw [show decide (1 ≤ s.size) = false from decide_eq_false (by omega)]; rfl
 ·rw [show decide (s.size ≤ 12) = false from decide_eq_false (by omega)]; simp
theorem nmOk_first {s : ByteArray} (h : letB (bn s 0) = false) : nmOk s = false := by simp [nmOk, h]
theorem nmOk_bad {s : ByteArray} {i : Nat} (hi : i < s.size) (h : nmB (bn s i) = false) : nmOk s = false := by
 have : allNm s = false := by
  rw [Bool.eq_false_iff]; intro h'
  have := (allNm_iff s).1 h' i hi
  rw [h] at this; cases this
 simp [nmOk, this]
theorem nmOk_all {s : ByteArray} (h1 : 1 ≤ s.size) (h2 : s.size ≤ 12) (h3 : letB (bn s 0) = true) (h : ∀ i, i < s.size → nmB (bn s i) = true) : nmOk s = true := by
 have := (allNm_iff s).2 h
 simp [nmOk, this, h1, h2, h3]
theorem nameOk_any (s : ByteArray) (hs : s.size ≤ 9223372036854775807) (w : World) :
  Calls Tryz.prog 79 #[.string s] w fun e w' => e = .returned (.bool (nmOk s)) ∧ w' = w := by
 have HB : Hid _ := get_bn s
 by_cases h1 : s.size < 1
 ·rw [nmOk_size (.inl h1)]
  go_enter Tryz.func79, Tryz.ntmps79
  go_wp2_with fail
  go_ret
  exact ⟨rfl, rfl⟩
 by_cases h2 : 12 < s.size
 ·rw [nmOk_size (.inr h2)]
  go_enter Tryz.func79, Tryz.ntmps79
  go_wp2_with fail
  go_ret
  exact ⟨rfl, rfl⟩
 have h0 : 0 < s.size := by omega
 have e1 := HB.out 0 h0
 have hL : ∀ u, Calls Tryz.prog 108 #[.int .u8 ((s[0]'h0).toNat : Int)] u fun e w' => e = .returned (.bool (letB (bn s 0))) ∧ w' = u := fun u => by
  have := letterByte_any (bn s 0) (bn_lt s 0) u
  rwa [← e1] at this ⊢
 have HL := kide hL
 clear hL e1
 by_cases h3 : letB (bn s 0) = true
 ·rw [h3] at HL
  have HO := kide (fun h => nmOk_all (s := s) (by omega) (by omega) h3 h)
  have HN := kide (fun i hi h => nmOk_bad (s := s) (i := i) hi h)
  generalize nmOk s = R at *
  clear h3
  go_enter Tryz.func79, Tryz.ntmps79
  go_wp2_with (go_at_call 108; refine Calls.mono (HL.out _) ?_; rintro e w ⟨rfl, rfl⟩)
  clear HL
  go_loop [20] (fun q => ∃ k : Nat, k ≤ s.size ∧ q = .int .i64 (k : Int) ∧ ∀ i, i < k → nmB (bn s i) = true) (fun q => s.size - (intOf q).toNat)
  case atStart => exact ⟨0, Nat.zero_le _, rfl, fun i h => by omega⟩
  case round =>
   obtain ⟨k, hk2, rfl, hr⟩ := hrel
   have HK : Hid _ := hr
   clear hr
   by_cases hlt : k < s.size
   ·have e1 := HB.out k hlt
    have hA : ∀ u, Calls Tryz.prog 108 #[.int .u8 ((s[k]'hlt).toNat : Int)] u fun e w' => e = .returned (.bool (letB (bn s k))) ∧ w' = u := fun u => by
     have := letterByte_any (bn s k) (bn_lt s k) u
     rwa [← e1] at this ⊢
    have hD : ∀ u, Calls Tryz.prog 109 #[.int .u8 ((s[k]'hlt).toNat : Int)] u fun e w' => e = .returned (.bool (digB (bn s k))) ∧ w' = u := fun u => by
     have := digitByte_any (bn s k) (bn_lt s k) u
     rwa [← e1] at this ⊢
    have HA := kide hA
    have HD := kide hD
    have H1 : Hid (letB (bn s k) = true → nmB (bn s k) = true) := fun h => by simp [nmB, h]
    have H2 : Hid (digB (bn s k) = true → nmB (bn s k) = true) := fun h => by simp [nmB, h]
    have H3 : Hid (letB (bn s k) = false → digB (bn s k) = false → R = false) := fun h h' => HN.out k hlt (by simp [nmB, h, h'])
    clear hA hD e1
    generalize letB (bn s k) = r at *
    generalize digB (bn s k) = r2 at *
    have hki : (k : Int) < (s.size : Int) := by omega
    cases r with
    | true =>
     go_wp2_with (go_at_call 108; refine Calls.mono (HA.out _) ?_; rintro e w ⟨rfl, rfl⟩)
     go_round
     case rel =>
      refine ⟨k + 1, by omega, by go_num, fun i hi => ?_⟩
      by_cases hik : i = k
      ·rw [hik]; exact H1.out (by simp)
      ·exact HK.out i (by omega)
     case measure => simp [intOf]; omega
    | false =>
     cases r2 with
     | true =>
      go_wp2_with (first | (go_at_call 108; refine Calls.mono (HA.out _) ?_; rintro e w ⟨rfl, rfl⟩) | (go_at_call 109; refine Calls.mono (HD.out _) ?_; rintro e w ⟨rfl, rfl⟩))
      go_round
      case rel =>
       refine ⟨k + 1, by omega, by go_num, fun i hi => ?_⟩
       by_cases hik : i = k
       ·rw [hik]; exact H2.out (by simp)
       ·exact HK.out i (by omega)
      case measure => simp [intOf]; omega
     | false =>
      go_wp2_with (first | (go_at_call 108; refine Calls.mono (HA.out _) ?_; rintro e w ⟨rfl, rfl⟩) | (go_at_call 109; refine Calls.mono (HD.out _) ?_; rintro e w ⟨rfl, rfl⟩))
      go_ret
      exact ⟨ret_bool (H3.out (by simp) (by simp)).symm, rfl⟩
   ·go_wp2_with fail
    go_ret
    exact ⟨ret_bool (HO.out fun i hi => HK.out i (by omega)).symm, rfl⟩
 ·rw [Bool.not_eq_true] at h3
  rw [h3] at HL
  rw [nmOk_first h3]
  clear h3
  go_enter Tryz.func79, Tryz.ntmps79
  go_wp2_with (go_at_call 108; refine Calls.mono (HL.out _) ?_; rintro e w1 ⟨rfl, rfl⟩)
  go_ret
  exact ⟨rfl, rfl⟩
theorem l1Name_any (s : ByteArray) (hs : s.size ≤ 9223372036854775807) (w : World) :
  Calls Tryz.prog 74 #[.string s] w fun e w' => e = .returned (.bool (nmOk s)) ∧ w' = w := by
 have HB : Hid _ := get_bn s
 by_cases h1 : s.size < 1
 ·rw [nmOk_size (.inl h1)]
  go_enter Tryz.func74, Tryz.ntmps74
  go_wp2_with fail
  go_ret
  exact ⟨rfl, rfl⟩
 by_cases h2 : 12 < s.size
 ·rw [nmOk_size (.inr h2)]
  go_enter Tryz.func74, Tryz.ntmps74
  go_wp2_with fail
  go_ret
  exact ⟨rfl, rfl⟩
 have h0 : 0 < s.size := by omega
 have e1 := HB.out 0 h0
 have hL : ∀ u, Calls Tryz.prog 107 #[.int .u8 ((s[0]'h0).toNat : Int)] u fun e w' => e = .returned (.bool (digB (bn s 0))) ∧ w' = u := fun u => by
  have := l1Digit_any (bn s 0) (bn_lt s 0) u
  rwa [← e1] at this ⊢
 have HL := kide hL
 clear hL e1
 by_cases h3 : digB (bn s 0) = true
 ·rw [h3] at HL
  have h4 : letB (bn s 0) = false := by
   simp [digB] at h3
   simp [letB]; omega
  rw [nmOk_first h4]
  clear h3 h4
  go_enter Tryz.func74, Tryz.ntmps74
  go_wp2_with (go_at_call 107; refine Calls.mono (HL.out _) ?_; rintro e w1 ⟨rfl, rfl⟩)
  go_ret
  exact ⟨rfl, rfl⟩
 ·rw [Bool.not_eq_true] at h3
  rw [h3] at HL
  have HO : Hid ((∀ i, i < s.size → nmB (bn s i) = true) → nmOk s = true) := fun h => nmOk_all (s := s) (by omega) (by omega) (by have := h 0 h0; simpa [nmB, h3] using this) h
  have HN := kide (fun i hi h => nmOk_bad (s := s) (i := i) hi h)
  generalize nmOk s = R at *
  clear h3
  go_enter Tryz.func74, Tryz.ntmps74
  go_wp2_with (go_at_call 107; refine Calls.mono (HL.out _) ?_; rintro e w ⟨rfl, rfl⟩)
  clear HL
  go_loop [3] (fun q => ∃ k : Nat, k ≤ s.size ∧ q = .int .i64 (k : Int) ∧ ∀ i, i < k → nmB (bn s i) = true) (fun q => s.size - (intOf q).toNat)
  case atStart => exact ⟨0, Nat.zero_le _, rfl, fun i h => by omega⟩
  case round =>
   obtain ⟨k, hk2, rfl, hr⟩ := hrel
   have HK : Hid _ := hr
   clear hr
   by_cases hlt : k < s.size
   ·have e1 := HB.out k hlt
    have hD : ∀ u, Calls Tryz.prog 107 #[.int .u8 ((s[k]'hlt).toNat : Int)] u fun e w' => e = .returned (.bool (digB (bn s k))) ∧ w' = u := fun u => by
     have := l1Digit_any (bn s k) (bn_lt s k) u
     rwa [← e1] at this ⊢
    have HD := kide hD
    have hci := letB_cases (bn s k)
    rw [← e1] at hci
    have H1 : Hid (letB (bn s k) = true → nmB (bn s k) = true) := fun h => by simp [nmB, h]
    have H2 : Hid (digB (bn s k) = true → nmB (bn s k) = true) := fun h => by simp [nmB, h]
    have H3 : Hid (letB (bn s k) = false → digB (bn s k) = false → R = false) := fun h h' => HN.out k hlt (by simp [nmB, h, h'])
    have E1 := kide e1
    clear hD e1
    generalize digB (bn s k) = r2 at *
    have hki : (k : Int) < (s.size : Int) := by omega
    cases r2 with
    | true =>
     go_wp2_with (go_at_call 107; refine Calls.mono (HD.out _) ?_; rintro e w ⟨rfl, rfl⟩)
     go_round
     case rel =>
      refine ⟨k + 1, by omega, by go_num, fun i hi => ?_⟩
      by_cases hik : i = k
      ·rw [hik]; exact H2.out (by simp)
      ·exact HK.out i (by omega)
     case measure => simp [intOf]; omega
    | false =>
     rcases hci with ⟨h1, h⟩ | ⟨h0, h1, h⟩ | ⟨h0, h1, h⟩
     ·have H := kide (H3.out (by rw [← E1.out]; exact h) (by simp))
      clear h H1 H3
      go_wp2_with (go_at_call 107; refine Calls.mono (HD.out _) ?_; rintro e w ⟨rfl, rfl⟩)
      go_ret
      exact ⟨ret_bool H.out.symm, rfl⟩
     ·have H := kide (H3.out (by rw [← E1.out]; exact h) (by simp))
      clear h H1 H3
      go_wp2_with (go_at_call 107; refine Calls.mono (HD.out _) ?_; rintro e w ⟨rfl, rfl⟩)
      go_ret
      exact ⟨ret_bool H.out.symm, rfl⟩
     ·have H := kide (H1.out (by rw [← E1.out]; exact h))
      clear h H1 H3
      go_wp2_with (go_at_call 107; refine Calls.mono (HD.out _) ?_; rintro e w ⟨rfl, rfl⟩)
      go_round
      case rel =>
       refine ⟨k + 1, by omega, by go_num, fun i hi => ?_⟩
       by_cases hik : i = k
       ·rw [hik]; exact H.out
       ·exact HK.out i (by omega)
      case measure => simp [intOf]; omega
   ·go_wp2_with fail
    go_ret
    exact ⟨ret_bool (HO.out fun i hi => HK.out i (by omega)).symm, rfl⟩

open Go.RowKit Go.WideMaps Go.Maps
theorem mlaw : Keyed Tryz.prog 9 := string_keyed Tryz.underlying9
theorem make_places (k : IntKind) (n : Int) (w : World) : (Instr.makeMap 129 (some (.int k n))).run Tryz.prog w = .ok (.map (some w.heap.size)) (w.alloc (.map #[] 0)) := by
 have h := Tryz.underlying129
 simp [Instr.makeMap, go_sem, h]
def PlAt (w : World) (g : Nat) (l : List ByteArray) : Prop := ∃ D : DataW Unit, w.ownsMap Tryz.prog 9 (plainElem Tryz.prog 2) g l.length D ∧ Pl D l
set_option maxRecDepth 100000 in
theorem placesOf_any (a : Option Addr) (c : Nat) (ds : List Dc) (w : World) (hr : RdD w a ds) (hn : ∀ d ∈ ds, d.1.size ≤ 1048576) :
  Calls Tryz.prog 82 #[.slice a ds.length c] w fun e w' => e = .returned (.map (some w.heap.size)) ∧ PlAt w' w.heap.size (ds.map Prod.fst) ∧ Below w.heap.size w w' := by
 have hlen := hr.1
 have hmm := make_places
 go_enter Tryz.func82, Tryz.ntmps82
 go_wp2_with fail
 go_loopw [11] (fun i wr => ∃ k : Nat, k ≤ ds.length ∧ i = .int .i64 (k : Int) ∧ PlAt wr w.heap.size ((ds.take k).map Prod.fst) ∧ Below w.heap.size w wr) (fun i _ => ds.length - (intOf i).toNat)
 case atStart => exact ⟨0, Nat.zero_le _, rfl, ⟨_, World.ownsMap_made _ _ _ _, Pl.start⟩, blA _ _⟩
 case round =>
  obtain ⟨k, hk, rfl, ⟨D, hown, hpl⟩, hbel⟩ := hrel
  clear hmm
  by_cases hlt : k < ds.length
  ·obtain ⟨-, -, h | ⟨b, o, rfl, hc⟩⟩ := hr
   ·subst h; simp at hlt
   obtain ⟨⟨t, x⟩, hh⟩ : ∃ x, ds[k] = x := ⟨_, rfl⟩
   have gx : ds[k]? = some (t, x) := by rw [List.getElem?_eq_getElem hlt, hh]
   obtain ⟨p0, p1⟩ := (hc k _ gx).later hbel
   simp only [] at p0 p1
   have hts := hn _ (List.mem_of_getElem? gx)
   simp only [] at hts
   have hkey : keyOf Tryz.prog 9 (.string t) = some (kyOf t) := keyOf_string_mk Tryz.underlying9 (by unfold maxLen; omega)
   have hml : ((ds.take k).map Prod.fst).length = k := by simp; omega
   rw [hml] at hown
   have hst := hpl.step t trivial
   rw [hml] at hst
   have HST := kide hst
   have HTK : Hid ((ds.take (k + 1)).map Prod.fst = (ds.take k).map Prod.fst ++ [t]) := by
    show _ = _
    rw [List.take_add_one, gx]; simp
   have HB : Hid _ := hbel
   have hsz : w.heap.size < wr.heap.size := hown.lt
   have HOW := kide hown
   have i0 : (k : Int) < (ds.length : Int) := by omega
   clear hc hh gx hbel hpl hst hml hn
   go_wp2_with (first
    | (at_mapUpdate; refine wpList_mapUpdate_own _ rfl _ _ _ 129 rfl 9 2 mlaw Tryz.underlying129 _ w.heap.size k _ rfl (HOW.out.alloc _) (by unfold maxLen; omega) _ _ _ rfl rfl hkey _ [] (plainElem_int Tryz.underlying2 (WalkArith.wf_i64 (by omega))) ?_)
    | fail)
   intro w1 hown1 hg1
   have HR1 : Hid _ := hown1
   have HR2 := kide ((HB.out.alloc HB.out.size _).grown hg1 (by have := HB.out.size; simp; omega) (fun j hj => by cases hj; exact Nat.le_refl _))
   clear hown1 hg1 hown
   go_wp2_with fail
   go_roundw
   case rel =>
    refine ⟨k + 1, by omega, by go_num, ⟨_, ?_, by rw [HTK.out]; exact HST.out⟩, HR2.out⟩
    have h := HR1.out
    have e : ((ds.take (k + 1)).map Prod.fst).length = k + 1 := by simp; omega
    rw [e]; exact h
   case measure => simp [intOf]; omega
  ·have e : k = ds.length := by omega
   have HB : Hid _ := hbel
   rw [e, List.take_length] at hown hpl
   have HP : Hid (PlAt wr w.heap.size (ds.map Prod.fst)) := ⟨D, hown, hpl⟩
   clear hbel hown hpl e
   go_wp2_with fail
   go_ret
   exact ⟨rfl, HP.out, HB.out⟩

open Go.RowKit Go.WideMaps Go.Maps
set_option maxHeartbeats 1000000 in
theorem specDecls_any (a : Option Addr) (c : Nat) (ds : List Dc) (w : World) (hr : RdD w a ds) :
  Calls Tryz.prog 53 #[.slice a ds.length c] w fun e w' => e = .returned (.bool (dclR ds)) ∧ Below w.heap.size w w' := by
 have hlen := hr.1
 by_cases h60 : ds.length ≤ 60
 ·go_enter Tryz.func53, Tryz.ntmps53
  go_wp2_with fail
  have HLN := kide hlen
  clear hlen
  go_loopw [3, 4] (fun q i wr => ∃ k : Nat, k ≤ ds.length ∧ i = .int .i64 (k : Int) ∧ q = .int .i64 (sumW (ds.take k)) ∧ (∀ d ∈ ds.take k, dcOk d = true) ∧ ((ds.take k).map Prod.fst).Nodup ∧ Below w.heap.size w wr) (fun _ i _ => ds.length - (intOf i).toNat)
  case atStart => exact ⟨0, Nat.zero_le _, rfl, by simp [sumW], by simp, by simp, Below.refl _ _⟩
  case round =>
   obtain ⟨k, hk, rfl, rfl, hok, hnd, hbel⟩ := hrel
   have HB := kide hbel
   by_cases hlt : k < ds.length
   ·obtain ⟨-, hsz, h | ⟨b, o, rfl, hc⟩⟩ := hr
    ·subst h; simp at hlt
    obtain ⟨⟨t, x⟩, hh⟩ : ∃ x, ds[k] = x := ⟨_, rfl⟩
    have gx : ds[k]? = some (t, x) := by rw [List.getElem?_eq_getElem hlt, hh]
    obtain ⟨p0, p1⟩ := (hc k _ gx).later hbel
    simp only [] at p0 p1
    obtain ⟨hx64, hts⟩ := hsz _ (List.mem_of_getElem? gx)
    simp only [] at hx64 hts
    have i0 : (k : Int) < (ds.length : Int) := by omega
    have HC := kide hc
    have GX := kide gx
    have hsum := sumW_le hok
    have hst := sumW_take gx
    simp only [] at hst
    have htl : (ds.take k).length = k := by simp; omega
    rw [htl] at hsum
    have HST := kide hst
    have HOK := kide hok
    have HND := kide hnd
    have hN : ∀ u, Calls Tryz.prog 74 #[.string t] u fun e w' => e = .returned (.bool (nmOk t)) ∧ w' = u := fun u => l1Name_any t hts u
    have hW : ∀ u, Calls Tryz.prog 73 #[.int .i64 x, .int .i64 1, .int .i64 4096] u fun e w' => e = .returned (.bool (wOk x)) ∧ w' = u := fun u => l1In_any x 1 4096 u
    have HN := kide hN
    have HW := kide hW
    have HBAD : Hid (nmOk t = false ∨ wOk x = false → dclR ds = false) := fun h => dclR_bad gx (by rcases h with h | h <;> simp [dcOk, h])
    have HGOOD : Hid (nmOk t = true → wOk x = true → dcOk (t, x) = true) := fun h h' => by simp [dcOk, h, h']
    have hwx : wOk x = true → 1 ≤ x ∧ x ≤ 4096 := fun h => by simpa [wOk] using h
    clear hN hW hc gx hh hsz hok hnd hst htl hbel
    generalize sumW (ds.take k) = Q at *
    generalize nmOk t = r1 at *
    cases r1 with
    | false =>
     have HR := kide (HBAD.out (.inl (by simp)))
     go_wp2_with (go_at_call 74; refine Calls.mono (HN.out _) ?_; rintro e w1 ⟨rfl, rfl⟩)
     go_ret
     exact ⟨ret_bool HR.out.symm, HB.out⟩
    | true =>
     generalize wOk x = r2 at *
     cases r2 with
     | false =>
      have HR := kide (HBAD.out (.inr (by simp)))
      go_wp2_with (first | (go_at_call 74; refine Calls.mono (HN.out _) ?_; rintro e wr ⟨rfl, rfl⟩) | (go_at_call 73; refine Calls.mono (HW.out _) ?_; rintro e wr ⟨rfl, rfl⟩))
      go_ret
      exact ⟨ret_bool HR.out.symm, HB.out⟩
     | true =>
      have hx := hwx (by simp)
      obtain ⟨hx1, hx2⟩ := hx
      have HG := kide (HGOOD.out (by simp) (by simp))
      clear HBAD HGOOD hwx
      go_wp2_with (first | (go_at_call 74; refine Calls.mono (HN.out _) ?_; rintro e wr ⟨rfl, rfl⟩) | (go_at_call 73; refine Calls.mono (HW.out _) ?_; rintro e wr ⟨rfl, rfl⟩))
      obtain ⟨hs1, hs2⟩ := hsum
      have hlk := block_lt_of_cell p0
      rename_i wo
      go_loopw [5] (fun i wr => ∃ j : Nat, j ≤ k ∧ i = .int .i64 (j : Int) ∧ (∀ i d, i < j → ds[i]? = some d → d.1 ≠ t) ∧ Below w.heap.size w wr) (fun i _ => k - (intOf i).toNat)
      case atStart => exact ⟨0, Nat.zero_le _, rfl, fun i d h => by omega, HB.out⟩
      case round =>
       obtain ⟨j, hj, rfl, hne, hbel⟩ := hrel
       clear p0 p1 HB
       obtain ⟨p0, p1⟩ := (HC.out k _ GX.out).later hbel
       simp only [] at p0 p1
       have HB := kide hbel
       have HNE := kide hne
       clear hbel hne
       by_cases hjk : j < k
       ·obtain ⟨⟨t2, x2⟩, hh2⟩ : ∃ x, ds[j]'(by omega) = x := ⟨_, rfl⟩
        have gx2 : ds[j]? = some (t2, x2) := by rw [List.getElem?_eq_getElem (by omega), hh2]
        obtain ⟨q0, q1⟩ := (HC.out j _ gx2).later HB.out
        simp only [] at q0 q1
        have GX2 := kide gx2
        have j0 : (j : Int) < (k : Int) := by omega
        have j1 : (j : Int) < (ds.length : Int) := by omega
        clear gx2 hh2
        by_cases ht : t2 = t
        ·subst ht
         have HR : Hid (dclR ds = false) := by
          show _ = _
          rw [Bool.eq_false_iff]; intro h'
          have hnd := (dclR_iff.1 h').2.2.2
          have h1 : (ds.map Prod.fst)[j]? = some t2 := by simp [GX2.out]
          have h2 : (ds.map Prod.fst)[k]? = some t2 := by simp [GX.out]
          have := (List.getElem?_inj (by simp; omega) hnd).1 (h1.trans h2.symm)
          omega
         go_wp2_with fail
         go_quiet (fail)
         go_wp2_with fail
         go_ret
         exact ⟨ret_bool HR.out.symm, below_drewN HB.out _⟩
        ·have hne2 := kstr_ne ht
         have HT := kide ht
         clear ht
         go_wp2_with fail
         go_quiet (fail)
         go_wp2_with fail
         go_roundw
         case rel =>
          refine ⟨j + 1, by omega, by go_num, fun i d hi hd => ?_, below_drewN HB.out _⟩
          by_cases hij : i = j
          ·subst hij
           rw [GX2.out] at hd
           cases hd
           exact HT.out
          ·exact HNE.out i d (by omega) hd
         case measure => simp [intOf]; omega
       ·have hjk' : j = k := by omega
        have HJ := kide hjk'
        clear hjk'
        go_wp2_with fail
        go_roundw
        case rel =>
         refine ⟨k + 1, by omega, by go_num, ?_, ?_, ?_, HB.out⟩
         ·rw [HST.out]
         ·intro d hd
          rw [List.take_add_one, GX.out] at hd
          rcases List.mem_append.1 hd with hd | hd
          ·exact HOK.out d hd
          ·simp at hd
           subst hd
           exact HG.out
         ·rw [List.take_add_one, GX.out, List.map_append]
          refine List.nodup_append.2 ⟨HND.out, by simp, fun y hy z hz => ?_⟩
          simp at hz
          subst hz
          obtain ⟨d, hd, rfl⟩ := List.mem_map.1 hy
          obtain ⟨i, hi, hid⟩ := List.mem_iff_getElem.1 hd
          simp at hi hid
          have := HNE.out i d (by rw [HJ.out]; omega) (by rw [List.getElem?_eq_getElem (by omega)]; exact congrArg some hid)
          exact this
        case measure => simp [intOf]; omega
   ·have e : k = ds.length := by omega
    rw [e, List.take_length] at hok hnd
    have hs := sumW_le hok
    have HR : Hid (dclR ds = decide (sumW (ds.take k) ≤ 20000)) := by
     show _ = _
     rw [e, List.take_length]
     rw [Bool.eq_iff_iff, dclR_iff, decide_eq_true_eq]
     exact ⟨fun h => h.2.2.1, fun h => ⟨h60, hok, h, hnd⟩⟩
    generalize sumW (ds.take k) = Q at *
    clear hok hnd hbel hs e
    go_wp2_with fail
    go_ret
    exact ⟨ret_bool HR.out.symm, HB.out⟩
 ·rw [dclR_long (by omega)]
  go_enter Tryz.func53, Tryz.ntmps53
  go_wp2_with fail
  go_ret
  exact ⟨rfl, Below.refl _ _⟩

def Bz (u : World) (b : Nat) (cs : Array Value) (t : TypeId) : Prop := u.heap[b]? = some (.cells cs t (0, 0))
theorem Bz.lt {u : World} {b : Nat} {cs : Array Value} {t : TypeId} (h : Bz u b cs t) : b < u.heap.size := lt_of_block h
theorem Bz.new (u : World) (cs : Array Value) (t : TypeId) : Bz (u.alloc (.cells cs t)) u.heap.size cs t := heap_alloc_new _ _
theorem Bz.set {u : World} {b : Nat} {cs : Array Value} {t : TypeId} (h : Bz u b cs t) (o : Nat) (x : Value) : Bz (u.setCell ⟨b, o, none⟩ x) b (cs.setIfInBounds o x) t := heap_setCell_same u b o _ _ x h
theorem Bz.other {u : World} {b c : Nat} {cs : Array Value} {t : TypeId} (h : Bz u b cs t) (hn : b ≠ c) (o : Nat) (x : Value) : Bz (u.setCell ⟨c, o, none⟩ x) b cs t := by
 unfold Bz; rw [heap_setCell_other _ _ _ _ (by simpa using hn)]; exact h
theorem Bz.cell {u : World} {b : Nat} {cs : Array Value} {t : TypeId} (h : Bz u b cs t) (o : Nat) : u.cell? ⟨b, o, none⟩ = cs[o]? := cell_of_row u b o _ _ _ h
theorem Bz.froz {u : World} {b : Nat} {cs : Array Value} {t : TypeId} (h : Bz u b cs t) (o : Nat) : u.frozen? ⟨b, o, none⟩ = false := frozen_of_row u b o _ _ h
theorem Bz.later {u u' : World} {b : Nat} {cs : Array Value} {t : TypeId} (h : Bz u b cs t) (hb : Below u.heap.size u u') : Bz u' b cs t := by
 unfold Bz; rw [hb.block _ h.lt]; exact h
theorem share2 {F P : World → Nat → Prop} {G : Prop} (main : (∀ v b, F v b → P v b) → G) (key : ∀ v b, F v b → P v b) : G := main key
theorem own_ge {w : World} {B n : Nat} {e : TypeId} {v : Value} {xs : List Value} {b : Nat} (h : w.ownsRow B e 1 v n xs) (hb : v.ownBlock = some b) : B ≤ b := by
 rcases h.2 with ⟨rfl, -⟩ | ⟨g, cap, cur, rfl, hg, hh, -⟩
 ·cases hb
 ·cases hb
  exact hg
def Out (B1 B2 : Nat) (w w' : World) : Prop := w'.os = w.os ∧ w'.tape = w.tape ∧ w'.output = w.output ∧ w.heap.size ≤ w'.heap.size ∧ ∀ k, k < w.heap.size → (k < B1 ∨ B2 ≤ k) → w'.heap[k]? = w.heap[k]?
theorem Out.refl (B1 B2 : Nat) (w : World) : Out B1 B2 w w := ⟨rfl, rfl, rfl, Nat.le_refl _, fun _ _ _ => rfl⟩
theorem Out.trans {B1 B2 : Nat} {w w1 w2 : World} (h : Out B1 B2 w w1) (h' : Out B1 B2 w1 w2) : Out B1 B2 w w2 :=
 ⟨h'.1.trans h.1, h'.2.1.trans h.2.1, h'.2.2.1.trans h.2.2.1, Nat.le_trans h.2.2.2.1 h'.2.2.2.1, fun k hk ho => (h'.2.2.2.2 k (Nat.lt_of_lt_of_le hk h.2.2.2.1) ho).trans (h.2.2.2.2 k hk ho)⟩
theorem Out.grown {B1 B2 g : Nat} {w w' : World} (h : w.grownBy w' (some g)) (h1 : B1 ≤ g) (h2 : g < B2) : Out B1 B2 w w' := ⟨h.os, h.tape, h.output, h.size, fun k hk ho => h.block k hk (fun e => by cases e; omega)⟩
theorem Out.set {B1 B2 g o : Nat} {w w' : World} (h : Out B1 B2 w w') (h1 : B1 ≤ g) (h2 : g < B2) (v : Value) : Out B1 B2 w (w'.setCell ⟨g, o, none⟩ v) := by
 refine ⟨h.1, h.2.1, h.2.2.1, by simpa using h.2.2.2.1, fun k hk ho => ?_⟩
 rw [heap_setCell_other _ _ _ _ (by simp; omega)]
 exact h.2.2.2.2 k hk ho
def alike (v v' : Value) : Prop := v' = v ∨ (∃ k x y, v = .int k x ∧ v' = .int k y) ∨ (∃ x y, v = .string x ∧ v' = .string y) ∨ ∃ x y, v = .bool x ∧ v' = .bool y
theorem alike.trans {a b c : Value} (h : alike a b) (h' : alike b c) : alike a c := by
 rcases h with rfl | ⟨k, x, y, rfl, rfl⟩ | ⟨x, y, rfl, rfl⟩ | ⟨x, y, rfl, rfl⟩
 ·exact h'
 ·rcases h' with rfl | ⟨k', x', y', e, rfl⟩ | ⟨x', y', e, rfl⟩ | ⟨x', y', e, rfl⟩
  ·exact .inr (.inl ⟨k, x, y, rfl, rfl⟩)
  ·cases e
   exact .inr (.inl ⟨k, x, y', rfl, rfl⟩)
  ·cases e
  ·cases e
 ·rcases h' with rfl | ⟨k', x', y', e, rfl⟩ | ⟨x', y', e, rfl⟩ | ⟨x', y', e, rfl⟩
  ·exact .inr (.inr (.inl ⟨x, y, rfl, rfl⟩))
  ·cases e
  ·exact .inr (.inr (.inl ⟨x, y', rfl, rfl⟩))
  ·cases e
 ·rcases h' with rfl | ⟨k', x', y', e, rfl⟩ | ⟨x', y', e, rfl⟩ | ⟨x', y', e, rfl⟩
  ·exact .inr (.inr (.inr ⟨x, y, rfl, rfl⟩))
  ·cases e
  ·cases e
  ·exact .inr (.inr (.inr ⟨x, y', rfl, rfl⟩))
theorem alike.int {k : IntKind} {x : Int} {v : Value} (h : alike (.int k x) v) : ∃ y, v = .int k y := by
 rcases h with rfl | ⟨k', x', y', e, rfl⟩ | ⟨x', y', e, rfl⟩ | ⟨x', y', e, rfl⟩
 ·exact ⟨x, rfl⟩
 ·cases e; exact ⟨y', rfl⟩
 ·cases e
 ·cases e
def Shp (w w' : World) : Prop := ∀ (b : Nat) (cur : Array Value) (t : TypeId), w.heap[b]? = some (.cells cur t (0, 0)) → ∃ cur', w'.heap[b]? = some (.cells cur' t (0, 0)) ∧ ∀ (i : Nat) (v : Value), cur[i]? = some v → ∃ v', cur'[i]? = some v' ∧ alike v v'
theorem Shp.refl (w : World) : Shp w w := fun _ cur _ h => ⟨cur, h, fun _ v hv => ⟨v, hv, .inl rfl⟩⟩
theorem Shp.trans {a b c : World} (h : Shp a b) (h' : Shp b c) : Shp a c := fun k cur t e => by
 obtain ⟨c1, e1, r1⟩ := h k cur t e
 obtain ⟨c2, e2, r2⟩ := h' k c1 t e1
 exact ⟨c2, e2, fun i v hv => by
  obtain ⟨v1, h1, a1⟩ := r1 i v hv
  obtain ⟨v2, h2, a2⟩ := r2 i v1 h1
  exact ⟨v2, h2, a1.trans a2⟩⟩
theorem Shp.put {w : World} {g o : Nat} {x y : Value} (h : w.cell? ⟨g, o, none⟩ = some x) (hxy : alike x y) : Shp w (w.setCell ⟨g, o, none⟩ y) := fun b cur t e => by
 by_cases eb : b = g
 ·subst eb
  refine ⟨cur.setIfInBounds o y, heap_setCell_same w b o _ _ _ e, fun i v hv => ?_⟩
  by_cases ei : i = o
  ·subst ei
   rw [cell_of_row w b i cur _ _ e] at h
   rw [h] at hv
   cases hv
   exact ⟨y, by rw [Array.getElem?_setIfInBounds_self_of_lt (Array.getElem?_eq_some_iff.1 h).1], hxy⟩
  ·exact ⟨v, by rw [Array.getElem?_setIfInBounds_ne (fun h => ei h.symm)]; exact hv, .inl rfl⟩
 ·exact ⟨cur, by rw [heap_setCell_other _ _ _ _ (by simpa using eb)]; exact e, fun i v hv => ⟨v, hv, .inl rfl⟩⟩
theorem Shp.set {w : World} {g o : Nat} {k : IntKind} {x : Int} (h : w.cell? ⟨g, o, none⟩ = some (.int k x)) (y : Int) : Shp w (w.setCell ⟨g, o, none⟩ (.int k y)) := Shp.put h (.inr (.inl ⟨k, x, y, rfl, rfl⟩))
theorem keep_int {cur cur' : Array Value} (r : ∀ (i : Nat) (v : Value), cur[i]? = some v → ∃ v', cur'[i]? = some v' ∧ alike v v') {i : Nat} {k : IntKind} (h : ∃ x : Int, cur[i]? = some (.int k x)) : ∃ x : Int, cur'[i]? = some (.int k x) := by
 obtain ⟨x, hx⟩ := h
 obtain ⟨v', h1, h2⟩ := r i _ hx
 obtain ⟨y, rfl⟩ := h2.int
 exact ⟨y, h1⟩
def OwW (w : World) (base : Nat) (v : Value) (xs : List Nat) : Prop := w.ownsRow base 118 1 v xs.length (u64s xs).toList
theorem OwW.nils (w : World) (base : Nat) : OwW w base (.slice none 0 0) [] := ⟨rfl, .inl ⟨rfl, rfl⟩⟩
theorem OwW.empty (w : World) (base g : Nat) (hg : g = w.heap.size) (h : base ≤ g) : OwW (w.alloc (.cells #[] 118)) base (.slice (some ⟨g, 0, Option.none⟩) 0 0) [] := by
 subst hg
 exact World.ownsRow_made w #[] 0 h (Nat.zero_le _) (by simp)
def Nw (w : World) (lo : Nat) (a : Option Addr) (xs : List Nat) : Prop :=
 (xs = [] ∧ ∀ x, a = some x → lo ≤ x.block ∧ x.off = 0 ∧ ∃ cur, w.heap[x.block]? = some (.cells cur 118 (0, 0))) ∨ ∃ g cur, a = some ⟨g, 0, none⟩ ∧ lo ≤ g ∧ w.heap[g]? = some (.cells cur 118 (0, 0)) ∧ ∀ i, i < xs.length → cur[i]? = some (.int .u64 ((xs.getD i 0 : Nat) : Int))
theorem OwW.shape {w : World} {base : Nat} {v : Value} {xs : List Nat} (h : OwW w base v xs) : ∃ a c, v = .slice a xs.length c ∧ Nw w base a xs := by
 obtain ⟨h1, ⟨rfl, h2⟩ | ⟨g, cap, cur, rfl, hg, hh, hc1, hc2, hsz, hcur⟩⟩ := h
 ·have e := List.eq_nil_of_length_eq_zero h2
  subst e
  exact ⟨none, 0, rfl, .inl ⟨rfl, fun x e => by cases e⟩⟩
 ·refine ⟨some ⟨g, 0, none⟩, cap, rfl, .inr ⟨g, cur, rfl, hg, hh, fun i hi => ?_⟩⟩
  have h3 : (cur.toList.take (xs.length * 1))[i]? = (u64s xs).toList[i]? := by rw [hcur]
  rw [List.getElem?_take, if_pos (by omega)] at h3
  simp only [Array.getElem?_toList] at h3
  rw [h3, u64s_get _ _ hi]
theorem Nw.rd {w : World} {lo : Nat} {a : Option Addr} {xs : List Nat} (h : Nw w lo a xs) (hl : xs.length ≤ 1048576) (hx : ∀ x ∈ xs, x < 18446744073709551616) : Rd w a xs := by
 refine ⟨hl, hx, ?_⟩
 rcases h with ⟨h1, -⟩ | ⟨g, cur, h1, -, h3, h4⟩
 ·exact .inl h1
 ·refine .inr ⟨g, 0, h1, fun i hi => ?_⟩
  rw [Nat.zero_add, cell_of_row w g i cur _ _ h3]
  exact h4 i hi
theorem Nw.mono {w : World} {lo lo' : Nat} {a : Option Addr} {xs : List Nat} (h : Nw w lo a xs) (hl : lo' ≤ lo) : Nw w lo' a xs := by
 rcases h with ⟨h1, h2⟩ | ⟨g, cur, h1, h2, h3, h4⟩
 ·exact .inl ⟨h1, fun x e => ⟨Nat.le_trans hl (h2 x e).1, (h2 x e).2⟩⟩
 ·exact .inr ⟨g, cur, h1, Nat.le_trans hl h2, h3, h4⟩
theorem Nw.kept {w w' : World} {lo : Nat} {a : Option Addr} {xs : List Nat} (h : Nw w lo a xs) (hk : ∀ (k : Nat) (cur : Array Value), w.heap[k]? = some (Obj.cells cur 118 (0, 0)) → w'.heap[k]? = w.heap[k]?) : Nw w' lo a xs := by
 rcases h with ⟨h1, h2⟩ | ⟨g, cur, h1, h2, h3, h4⟩
 ·refine .inl ⟨h1, fun x e => ?_⟩
  obtain ⟨a, b, cur, c⟩ := h2 x e
  exact ⟨a, b, cur, by rw [hk _ _ c]; exact c⟩
 ·exact .inr ⟨g, cur, h1, h2, by rw [hk _ _ h3]; exact h3, h4⟩
theorem Nw.later {w w' : World} {lo : Nat} {a : Option Addr} {xs : List Nat} (h : Nw w lo a xs) (hb : Below w.heap.size w w') : Nw w' lo a xs := Nw.kept h fun k cur hc => hb.block k (lt_of_block hc)
theorem nw_set {w : World} {lo β : Nat} {a : Option Addr} {xs : List Nat} {cs : Array Value} {t : TypeId} (h : Nw w lo a xs) (hB : Bz w β cs t) (ht : t ≠ 118) (i : Nat) (v : Value) : Nw (w.setCell ⟨β, i, none⟩ v) lo a xs :=
 Nw.kept h fun k cur hc => heap_setCell_other _ _ _ _ (fun e => by
  simp only [] at e
  subst e
  unfold Bz at hB
  rw [hB] at hc
  cases hc
  exact ht rfl)
theorem nw_lt {w : World} {lo : Nat} {a : Option Addr} {xs : List Nat} (h : Nw w lo a xs) {p : Addr} (hp : a = some p) : lo ≤ p.block ∧ p.block < w.heap.size := by
 rcases h with ⟨h1, h2⟩ | ⟨g, cur, h1, h2, h3, h4⟩
 ·obtain ⟨k1, -, cur, k2⟩ := h2 p hp
  exact ⟨k1, lt_of_block k2⟩
 ·rw [h1] at hp
  cases hp
  exact ⟨h2, lt_of_block h3⟩

theorem rd_cellsW {w : World} {ad : Addr} {ys : List Nat} (hr : Rd w (some ad) ys) : ∀ j u, (u64s ys).toList[j]? = some u → w.cell? (ad.add j) = some u := by
 intro j u hj
 have hj' : j < ys.length := by
  have := (List.getElem?_eq_some_iff.1 hj).1
  simpa [u64s] using this
 obtain ⟨-, -, h | ⟨b, o, e, hc⟩⟩ := hr
 ·rw [h] at hj'; simp at hj'
 ·cases e
  rw [Addr.add_lit, hc j hj']
  simp [u64s, hj'] at hj
  rw [← hj]
  simp [List.getD, hj']
theorem rd_noneW {w : World} {ys : List Nat} (hr : Rd w none ys) : ys = [] := by
 obtain ⟨-, -, h | ⟨b, o, e, hc⟩⟩ := hr
 ·exact h
 ·cases e
theorem wp_appWr (w : World) {o : Oper} {a : Act} {K : Act → World → Prop} {Q : Exit → Act → World → Prop} (s x : Operand)
  (ho : o.op = .call { callee := .builtin .append, args := #[s, x], argTypes := #[57, 57] })
  (base : Nat) (v : Value) (bs ys : List Nat) (hs : a.eval s = v) (hown : OwW w base v bs) (xa : Option Addr) (c : Nat) (hx : a.eval x = .slice xa ys.length c) (hc0 : xa = none → c = 0)
  (hr : Rd w xa ys) (hl : bs.length + ys.length ≤ 4194304) (hbase : base ≤ w.heap.size)
  (h : ∀ v' w', OwW w' base v' (bs ++ ys) → w.grownBy w' v.ownBlock → K (a.put o.dst v') w') : Oper.wp Tryz.prog o a w K Q := by
 obtain ⟨i0, hi, hz0, hz1, hz2⟩ := info_parts Tryz.infoU64
 cases xa with
 | none =>
  have e := rd_noneW hr
  subst e
  have ec := hc0 rfl
  subst ec
  have hr9 := run_append_owned_none (P := Tryz.prog) (w := w) base 57 o.type 118 i0 1 Tryz.underlying57 hi v bs.length (u64s bs).toList hown
  unfold Oper.wp execOp
  simp only [ho, resolve, invoke, builtin, Sem.run_bind, Sem.run_pure, Result.andThen_ok, List.map_toArray, List.map_cons, List.map_nil, hs, hx, List.length_nil, hr9]
  exact h v w (by rw [List.append_nil]; exact hown) (World.grownBy.refl w _)
 | some ad =>
  refine wp_append_own w s x 57 ho base 118 i0 (.int .u64 0) 1 8 Tryz.underlying57 hi hz0 hz1 hz2 rfl (by decide) v bs.length (u64s bs).toList hs hown ad ys.length c (u64s ys).toList hx (by simp [u64s]) (rd_cellsW hr) ?_ ?_ ?_ hbase ?_
  ·intro u hu
   simp [u64s] at hu
   obtain ⟨_, _, rfl⟩ := hu
   rfl
  ·unfold maxLen; omega
  ·omega
  ·intro v' w' h1 h2 _
   refine h v' w' ?_ h2
   unfold OwW
   simpa [u64s] using h1
theorem step_appWr (w : World) {ops : Array Oper} {o : Oper} {a : Act} {K : Act → World → Prop} {Q : Exit → Act → World → Prop} {E : Prop} (hgd : o.guard = none) (s x : Operand)
  (ho : o.op = .call { callee := .builtin .append, args := #[s, x], argTypes := #[57, 57] })
  (base : Nat) (v : Value) (bs ys : List Nat) (hs : a.eval s = v) (hown : OwW w base v bs) (xa : Option Addr) (c : Nat) (hx : a.eval x = .slice xa ys.length c) (hc0 : xa = none → c = 0)
  (hr : Rd w xa ys) (hl : bs.length + ys.length ≤ 4194304) (hbase : base ≤ w.heap.size)
  (h : ∀ v' w', OwW w' base v' (bs ++ ys) → w.grownBy w' v.ownBlock → K (a.put o.dst v') w') :
  if Region.wanted o (yielded ops a.tmps) = true then Oper.wp Tryz.prog o a w K Q else E := by
 have hw : Region.wanted o (yielded ops a.tmps) = true := by simp [Region.wanted, hgd]
 rw [if_pos hw]
 exact wp_appWr w s x ho base v bs ys hs hown xa c hx hc0 hr hl hbase h
theorem Ba {w wk : World} (h : Below w.heap.size w wk) (o : Obj) : Below w.heap.size w (wk.alloc o) := h.alloc h.size o

def putTo (zs ys : List Nat) (f s : Nat) : Nat → List Nat
 | 0 => zs
 | k + 1 =>
  let z1 := (putTo zs ys f s k).set (f + k) ((putTo zs ys f s k).getD (f + k) 0 ||| ys.getD k 0 * 2 ^ s % 18446744073709551616)
  z1.set (f + k + 1) (z1.getD (f + k + 1) 0 ||| ys.getD k 0 / 2 ^ (64 - s))
theorem putTo_len (zs ys : List Nat) (f s k : Nat) : (putTo zs ys f s k).length = zs.length := by
 induction k with
 | zero => rfl
 | succ k ih => simp [putTo, ih]
theorem set_lt {xs : List Nat} (h : ∀ x ∈ xs, x < 18446744073709551616) (i v : Nat) (hv : v < 18446744073709551616) : ∀ x ∈ xs.set i v, x < 18446744073709551616 := by
 intro x hx
 rcases List.mem_or_eq_of_mem_set hx with h' | h'
 ·exact h x h'
 ·rw [h']; exact hv
theorem putTo_lt (zs ys : List Nat) (f s k : Nat) (hz : ∀ x ∈ zs, x < 18446744073709551616) (hy : ∀ x ∈ ys, x < 18446744073709551616) : ∀ x ∈ putTo zs ys f s k, x < 18446744073709551616 := by
 induction k with
 | zero => exact hz
 | succ k ih =>
  have h1 := set_lt ih (f + k) _ (Nat.or_lt_two_pow (n := 64) (getD_lt ih (f + k)) (Nat.mod_lt (ys.getD k 0 * 2 ^ s) (by decide)))
  exact set_lt h1 _ _ (Nat.or_lt_two_pow (n := 64) (getD_lt h1 _) (Nat.lt_of_le_of_lt (Nat.div_le_self _ _) (getD_lt hy k)))
theorem tb_put (zs ys : List Nat) (f s k : Nat) (hs : s < 64) (hy : ∀ x ∈ ys, x < 18446744073709551616) (hk : ∀ i, i < k → f + i < zs.length ∧ (f + i + 1 < zs.length ∨ ys.getD i 0 / 2 ^ (64 - s) = 0)) (j : Nat) :
  tb (putTo zs ys f s k) j = (tb zs j || (decide (64 * f + s ≤ j) && decide (j < 64 * f + s + 64 * k) && tb ys (j - (64 * f + s)))) := by
 induction k with
 | zero =>
  by_cases h : 64 * f + s ≤ j
  ·simp [putTo, show ¬ j < 64 * f + s by omega]
  ·simp [putTo, h]
 | succ k ih =>
  have ih' := ih fun i hi => hk i (by omega)
  obtain ⟨h1, h2⟩ := hk k (by omega)
  have hlen := putTo_len zs ys f s k
  have hyk := getD_lt hy k
  have key : tb (putTo zs ys f s (k + 1)) j = (tb (putTo zs ys f s k) j || (decide (j / 64 = f + k) && (ys.getD k 0 * 2 ^ s % 18446744073709551616).testBit (j % 64)) || (decide (j / 64 = f + k + 1) && (ys.getD k 0 / 2 ^ (64 - s)).testBit (j % 64))) := by
   simp only [putTo]
   have e1 : tb ((putTo zs ys f s k).set (f + k) ((putTo zs ys f s k).getD (f + k) 0 ||| ys.getD k 0 * 2 ^ s % 18446744073709551616)) j = (tb (putTo zs ys f s k) j || (decide (j / 64 = f + k) && (ys.getD k 0 * 2 ^ s % 18446744073709551616).testBit (j % 64))) := by
    rw [tb_set _ _ _ _ (by omega)]
    by_cases h : j / 64 = f + k
    ·rw [if_pos h, Nat.testBit_or]; unfold tb; rw [h]; simp
    ·rw [if_neg h]; simp [h]
   rcases h2 with h2 | h2
   ·rw [tb_set _ _ _ _ (by simp; omega)]
    by_cases h : j / 64 = f + k + 1
    ·rw [if_pos h, Nat.testBit_or, ← e1]
     have : ((List.set (putTo zs ys f s k) (f + k) ((putTo zs ys f s k).getD (f + k) 0 ||| ys.getD k 0 * 2 ^ s % 18446744073709551616)).getD (f + k + 1) 0).testBit (j % 64) = tb ((putTo zs ys f s k).set (f + k) ((putTo zs ys f s k).getD (f + k) 0 ||| ys.getD k 0 * 2 ^ s % 18446744073709551616)) j := by unfold tb; rw [h]
     rw [this]; simp [h]
    ·rw [if_neg h, e1]; simp [h]
   ·rw [h2, Nat.or_zero]
    have e2 : ∀ (l : List Nat) (i : Nat), l.set i (l.getD i 0) = l := by
     intro l i
     by_cases hi : i < l.length
     ·have : l.getD i 0 = l[i] := by simp [List.getD, hi]
      rw [this, List.set_getElem_self]
     ·exact List.set_eq_of_length_le (by omega)
    rw [e2, e1]; simp
  rw [key, ih']
  have hsp : (18446744073709551616 : Nat) = 2 ^ 64 := by decide
  rw [hsp, Nat.testBit_mod_two_pow, Nat.testBit_mul_two_pow, Nat.testBit_div_two_pow]
  have hlt : j % 64 < 64 := by omega
  by_cases ha : 64 * f + s ≤ j ∧ j < 64 * f + s + 64 * k
  ·-- an earlier word's place: this one's bits do not reach there
   have n1 : ¬ (j / 64 = f + k ∧ s ≤ j % 64) := by omega
   have n2 : ¬ (j / 64 = f + k + 1) := by omega
   have c1 : decide (j < 64 * f + s + 64 * (k + 1)) = true := by simp; omega
   have c2 : decide (64 * f + s ≤ j) = true := by simp; omega
   have c3 : decide (j < 64 * f + s + 64 * k) = true := by simp; omega
   rw [c1, c2, c3]
   by_cases h5 : j / 64 = f + k
   ·have : decide (s ≤ j % 64) = false := by simp; omega
    simp [h5, this]
   ·simp [h5, n2]
  ·by_cases hb : 64 * f + s + 64 * k ≤ j ∧ j < 64 * f + s + 64 * (k + 1)
   ·have c1 : decide (j < 64 * f + s + 64 * (k + 1)) = true := by simp; omega
    have c2 : decide (64 * f + s ≤ j) = true := by simp; omega
    have c3 : decide (j < 64 * f + s + 64 * k) = false := by simp; omega
    rw [c1, c2, c3]
    have e3 : (j - (64 * f + s)) / 64 = k := by omega
    by_cases h5 : j / 64 = f + k
    ·have e4 : (j - (64 * f + s)) % 64 = j % 64 - s := by omega
     unfold tb
     rw [e3, e4]
     simp [h5, hlt, show s ≤ j % 64 by omega]
    ·have h6 : j / 64 = f + k + 1 := by omega
     have e4 : (j - (64 * f + s)) % 64 = j % 64 + (64 - s) := by omega
     unfold tb
     rw [e3, e4]
     simp [h6]
   ·have c1 : (decide (64 * f + s ≤ j) && decide (j < 64 * f + s + 64 * (k + 1))) = false := by simp; omega
    have c2 : (decide (64 * f + s ≤ j) && decide (j < 64 * f + s + 64 * k)) = false := by simp; omega
    rw [c1, c2]
    simp only [Bool.false_and, Bool.or_false]
    by_cases h5 : j / 64 = f + k
    ·have : decide (s ≤ j % 64) = false := by simp; omega
     simp [h5, this]
    ·by_cases h6 : j / 64 = f + k + 1
     ·have : (ys.getD k 0).testBit (j % 64 + (64 - s)) = false := by
       refine Nat.testBit_lt_two_pow (Nat.lt_of_lt_of_le hyk ?_)
       exact (show 2 ^ 64 ≤ 2 ^ (j % 64 + (64 - s)) from Nat.pow_le_pow_right (by omega) (by omega))
      rw [this]
      simp [h5]
     ·simp [h5, h6]

def Owp (N : Nat) (w : World) (g : Nat) (xs : List Nat) : Prop := ∃ cur : Array Value, w.heap[g]? = some (.cells cur 118 (0, 0)) ∧ cur.size = N ∧ xs.length ≤ N ∧ ∀ i, i < xs.length → cur[i]? = some (.int .u64 ((xs.getD i 0 : Nat) : Int))
theorem Owp.cell {w : World} {g : Nat} {N : Nat} {xs : List Nat} (h : Owp N w g xs) {i : Nat} (hi : i < xs.length) : w.cell? ⟨g, i, none⟩ = some (.int .u64 ((xs.getD i 0 : Nat) : Int)) := by
 obtain ⟨cur, h1, -, -, h3⟩ := h
 rw [cell_of_row w g i cur _ _ h1]
 exact h3 i hi
theorem Owp.free {w : World} {g : Nat} {N : Nat} {xs : List Nat} (h : Owp N w g xs) (i : Nat) : w.frozen? ⟨g, i, none⟩ = false := by
 obtain ⟨cur, h1, -⟩ := h
 exact frozen_of_row w g i _ _ h1
theorem Owp.lt {w : World} {g : Nat} {N : Nat} {xs : List Nat} (h : Owp N w g xs) : g < w.heap.size := by
 obtain ⟨cur, h1, -⟩ := h
 exact lt_of_block h1
theorem Owp.put {w : World} {g : Nat} {N : Nat} {xs : List Nat} (h : Owp N w g xs) (i x : Nat) : Owp N (w.setCell ⟨g, i, none⟩ (.int .u64 (x : Int))) g (xs.set i x) := by
 obtain ⟨cur, h1, h0, h2, h3⟩ := h
 refine ⟨cur.setIfInBounds i (.int .u64 (x : Int)), heap_setCell_same w g i _ _ _ h1, by simpa using h0, by simpa using h2, fun k hk => ?_⟩
 rw [List.length_set] at hk
 rw [Array.getElem?_setIfInBounds]
 by_cases e : i = k
 ·subst e
  rw [if_pos rfl, if_pos (by omega)]
  simp [List.getD, hk]
 ·rw [if_neg e, h3 k hk]
  simp only [List.getD, List.getElem?_set_ne e]
theorem Owp.later {w w' : World} {g B : Nat} {N : Nat} {xs : List Nat} (h : Owp N w g xs) (hb : Below B w w') (hg : g < B) : Owp N w' g xs := by
 obtain ⟨cur, h1, h2⟩ := h
 exact ⟨cur, by rw [hb.block g hg]; exact h1, h2⟩
theorem Owp.ofW {w : World} {B g n c : Nat} {xs : List Nat} (h : OwW w B (.slice (some ⟨g, 0, none⟩) n c) xs) : Owp c w g xs ∧ n = xs.length ∧ B ≤ g := by
 rcases h.2 with ⟨e, -⟩ | ⟨g', cap, cur, e, hg, hh, hc1, hc2, hsz, hcur⟩
 ·cases e
 ·cases e
  refine ⟨⟨cur, hh, by omega, by omega, fun i hi => ?_⟩, rfl, hg⟩
  have h9 : (u64s xs).toList[i]? = some (.int .u64 ((xs.getD i 0 : Nat) : Int)) := by
   have := u64s_get xs i hi
   rw [Array.getElem?_toList]
   exact this
  rw [← hcur, List.getElem?_take, if_pos (by omega), Array.getElem?_toList] at h9
  exact h9
theorem OwW.put {w w' : World} {B g n c : Nat} {xs ys : List Nat} (h : OwW w B (.slice (some ⟨g, 0, none⟩) n c) xs) (ho : Owp c w' g ys) (hl : ys.length = xs.length) : OwW w' B (.slice (some ⟨g, 0, none⟩) n c) ys := by
 rcases h.2 with ⟨e, -⟩ | ⟨g', cap, cur, e, hg, hh, hc1, hc2, hsz, hcur⟩
 ·cases e
 ·cases e
  obtain ⟨cur', h1, h0, h2, h3⟩ := ho
  refine ⟨by simp [u64s], .inr ⟨g, c, cur', by rw [hl], hg, h1, by rw [hl]; exact hc1, hc2, by omega, ?_⟩⟩
  apply List.ext_getElem?
  intro i
  rw [List.getElem?_take]
  by_cases hi : i < ys.length
  ·rw [if_pos (by omega), Array.getElem?_toList, h3 i hi, Array.getElem?_toList, u64s_get ys i hi]
  ·rw [if_neg (by omega), List.getElem?_eq_none (by simp [u64s]; omega)]
set_option maxHeartbeats 1000000 in
set_option maxRecDepth 100000 in
theorem putBitsP_any (N : Nat) (Wi Wb : Int) (g ci cb P : Nat) (ab : Option Addr) (zs ys : List Nat) (w : World) (ho : Owp N w g zs) (hr : Rd w ab ys) (hz : ∀ x ∈ zs, x < 18446744073709551616) (hP : P ≤ 4096) (hzl : zs.length ≤ 64) (hyl : ys.length ≤ 64)
  (hk : ∀ i, i < ys.length → P / 64 + i < zs.length ∧ (P / 64 + i + 1 < zs.length ∨ ys.getD i 0 / 2 ^ (64 - P % 64) = 0)) (hab : ∀ x, ab = some x → x.block ≠ g) :
  Calls Tryz.prog 113 #[.agg #[.int .i64 Wi, .slice (some ⟨g, 0, none⟩) zs.length ci], .agg #[.int .i64 Wb, .slice ab ys.length cb], .int .i64 P] w fun e w' => e = .returned (.tuple #[]) ∧ Owp N w' g (putTo zs ys (P / 64) (P % 64) ys.length) ∧ w.grownBy w' (some g) := by
 have hgw := ho.lt
 have hy := hr.2.1
 have hB2 : Below w.heap.size w ((w.alloc (Obj.cells #[.int IntKind.i64 Wi, .slice (some { block := g, off := 0 }) zs.length ci] 65)).alloc (Obj.cells #[.int IntKind.i64 Wb, .slice ab ys.length cb] 65)) := Ba (Ba (Below.refl _ _) _) _
 have ho2 := ho.later hB2 hgw
 have hr2 := hr.later hB2
 have k0 : ((w.alloc (Obj.cells #[.int IntKind.i64 Wi, .slice (some { block := g, off := 0 }) zs.length ci] 65)).alloc (Obj.cells #[.int IntKind.i64 Wb, .slice ab ys.length cb] 65)).cell? ⟨w.heap.size, 1, none⟩ = some (Value.slice (some { block := g, off := 0 }) zs.length ci) := by
  rw [acell _ _ _ (by simp)]; simp
 have hsz : ((w.alloc (Obj.cells #[.int IntKind.i64 Wi, .slice (some { block := g, off := 0 }) zs.length ci] 65)).alloc (Obj.cells #[.int IntKind.i64 Wb, .slice ab ys.length cb] 65)).heap.size = w.heap.size + 2 := by simp
 go_enter Tryz.func113, Tryz.ntmps113
 go_wp2
 generalize ((w.alloc (Obj.cells #[.int IntKind.i64 Wi, .slice (some { block := g, off := 0 }) zs.length ci] 65)).alloc (Obj.cells #[.int IntKind.i64 Wb, .slice ab ys.length cb] 65)) = w2 at *
 clear ho hr
 go_loopw [19] (fun i wr => ∃ k : Nat, k ≤ ys.length ∧ i = .int .i64 k ∧ Owp N wr g (putTo zs ys (P / 64) (P % 64) k) ∧ w2.grownBy wr (some g)) (fun i _ => ys.length - (intOf i).toNat)
 case atStart => exact ⟨0, Nat.zero_le _, rfl, ho2, World.grownBy.refl _ _⟩
 case round =>
  obtain ⟨k, hkl, rfl, hown, hgr⟩ := hrel
  by_cases hlt : k < ys.length
  ·obtain ⟨-, -, hn | ⟨b, o, rfl, hcell⟩⟩ := hr2
   ·subst hn; simp at hlt
   have hbg : b ≠ g := hab _ rfl
   have hbl : b < w2.heap.size := block_lt_of_cell (hcell k hlt)
   have b1 := (gcell hgr 1 (b := w.heap.size) (by omega) (by omega)).trans k0
   have x1 := (gcell hgr _ hbl hbg).trans (hcell k hlt)
   obtain ⟨hf1, hf2⟩ := hk k hlt
   have hlen := putTo_len zs ys (P / 64) (P % 64) k
   have hcg := hown.cell (i := P / 64 + k) (by omega)
   have hfg := hown.free (P / 64 + k)
   have hfg2 := hown.free (P / 64 + k + 1)
   have hplt := putTo_lt zs ys (P / 64) (P % 64) k hz hy
   have hY := getD_lt hy k
   have hZ1 := getD_lt hplt (P / 64 + k)
   have i1 : (P : Int) / 64 + (k : Int) < (zs.length : Int) := by omega
   have i2 : (k : Int) < (ys.length : Int) := by omega
   have hgs : ¬ w.heap.size = g := by omega
   have hstep : putTo zs ys (P / 64) (P % 64) (k + 1) = ((putTo zs ys (P / 64) (P % 64) k).set (P / 64 + k) ((putTo zs ys (P / 64) (P % 64) k).getD (P / 64 + k) 0 ||| ys.getD k 0 * 2 ^ (P % 64) % 18446744073709551616)).set (P / 64 + k + 1) (((putTo zs ys (P / 64) (P % 64) k).set (P / 64 + k) ((putTo zs ys (P / 64) (P % 64) k).getD (P / 64 + k) 0 ||| ys.getD k 0 * 2 ^ (P % 64) % 18446744073709551616)).getD (P / 64 + k + 1) 0 ||| ys.getD k 0 / 2 ^ (64 - P % 64)) := rfl
   have hgd : ((putTo zs ys (P / 64) (P % 64) k).set (P / 64 + k) ((putTo zs ys (P / 64) (P % 64) k).getD (P / 64 + k) 0 ||| ys.getD k 0 * 2 ^ (P % 64) % 18446744073709551616)).getD (P / 64 + k + 1) 0 = (putTo zs ys (P / 64) (P % 64) k).getD (P / 64 + k + 1) 0 := by
    simp [List.getD, List.getElem?_set]
   rw [hgd] at hstep
   by_cases hrest : ys.getD k 0 / 2 ^ (64 - P % 64) = 0
   ·have hstep2 : putTo zs ys (P / 64) (P % 64) (k + 1) = (putTo zs ys (P / 64) (P % 64) k).set (P / 64 + k) ((putTo zs ys (P / 64) (P % 64) k).getD (P / 64 + k) 0 ||| ys.getD k 0 * 2 ^ (P % 64) % 18446744073709551616) := by
     rw [hstep, hrest, Nat.or_zero]
     by_cases hin : P / 64 + k + 1 < (putTo zs ys (P / 64) (P % 64) k).length
     ·have e : (putTo zs ys (P / 64) (P % 64) k).getD (P / 64 + k + 1) 0 = ((putTo zs ys (P / 64) (P % 64) k).set (P / 64 + k) ((putTo zs ys (P / 64) (P % 64) k).getD (P / 64 + k) 0 ||| ys.getD k 0 * 2 ^ (P % 64) % 18446744073709551616))[P / 64 + k + 1]'(by simpa using hin) := by
       simp [List.getD, hin]
      rw [e, List.set_getElem_self]
     ·exact List.set_eq_of_length_le (by simp; omega)
    have hne : ((ys.getD k 0 : Nat) : Int) / 2 ^ (64 - P % 64) = 0 := by rw [castDiv, hrest]; rfl
    have HO : Hid (Owp N (wr.setCell ⟨g, P / 64 + k, none⟩ (.int .u64 (bits BinOp.or IntKind.u64 (((putTo zs ys (P / 64) (P % 64) k).getD (P / 64 + k) 0 : Nat) : Int) (IntKind.u64.wrap (((ys.getD k 0 : Nat) : Int) * 2 ^ (P % 64)))))) g (putTo zs ys (P / 64) (P % 64) (k + 1))) := by
     show Owp N _ _ _
     rw [hstep2, orShift _ _ _ hZ1]
     exact hown.put _ _
    clear hstep hstep2 hgd hown hcell hk hplt hrest hlen
    generalize (putTo zs ys (P / 64) (P % 64) k).getD (P / 64 + k) 0 = z at *
    generalize ys.getD k 0 = y at *
    have hne2 : ((y : Int) / 2 ^ (64 - P % 64) != 0) = false := by simp [hne]
    clear hne
    go_wp2
    go_region
    go_wp2
    go_roundw
    case rel => exact ⟨k + 1, by omega, by go_num, HO.out, grown_drew (grown_set hgr _ _)⟩
    case measure => simp [intOf]; omega
   ·have hin : P / 64 + k + 1 < zs.length := by
     rcases hf2 with h | h
     ·exact h
     ·exact absurd h hrest
    have hcg2 := hown.cell (i := P / 64 + k + 1) (by omega)
    have i3 : (P : Int) / 64 + (k : Int) + 1 < (zs.length : Int) := by omega
    have hZ2 := getD_lt hplt (P / 64 + k + 1)
    have hne2 : (((ys.getD k 0 : Nat) : Int) / 2 ^ (64 - P % 64) != 0) = true := by rw [castDiv]; simp only [bne_iff_ne, ne_eq]; omega
    have HO : Hid (Owp N ((wr.setCell ⟨g, P / 64 + k, none⟩ (.int .u64 (bits BinOp.or IntKind.u64 (((putTo zs ys (P / 64) (P % 64) k).getD (P / 64 + k) 0 : Nat) : Int) (IntKind.u64.wrap (((ys.getD k 0 : Nat) : Int) * 2 ^ (P % 64)))))).setCell ⟨g, P / 64 + k + 1, none⟩ (.int .u64 (bits BinOp.or IntKind.u64 (((putTo zs ys (P / 64) (P % 64) k).getD (P / 64 + k + 1) 0 : Nat) : Int) (((ys.getD k 0 : Nat) : Int) / 2 ^ (64 - P % 64))))) g (putTo zs ys (P / 64) (P % 64) (k + 1))) := by
     show Owp N _ _ _
     rw [hstep, orShift _ _ _ hZ1, castDiv, bits_or_u64_nat _ _ hZ2 (Nat.lt_of_le_of_lt (Nat.div_le_self _ _) hY)]
     exact (hown.put _ _).put _ _
    clear hstep hgd hown hcell hk hplt hrest hlen
    generalize (putTo zs ys (P / 64) (P % 64) k).getD (P / 64 + k) 0 = z at *
    generalize (putTo zs ys (P / 64) (P % 64) k).getD (P / 64 + k + 1) 0 = z2 at *
    generalize ys.getD k 0 = y at *
    go_wp2
    go_region
    go_wp2
    go_roundw
    case rel => exact ⟨k + 1, by omega, by go_num, HO.out, grown_set (grown_drew (grown_set hgr _ _)) _ _⟩
    case measure => simp [intOf]; omega
  ·have e : k = ys.length := by omega
   subst e
   go_wp2
   go_end0
   exact ⟨rfl, hown, ⟨hgr.os.trans hB2.os, hgr.tape.trans hB2.tape, hgr.output.trans hB2.output, Nat.le_trans hB2.size hgr.size, fun j hj hne => (hgr.block j (by omega) hne).trans (hB2.block j hj)⟩⟩


theorem put_fit {V : Nat} {xs : List Nat} (hok : rightB V xs = true) (hx : ∀ x ∈ xs, x < 18446744073709551616) (P N : Nat) (h : P + V ≤ 64 * N) :
  ∀ i, i < xs.length → P / 64 + i < N ∧ (P / 64 + i + 1 < N ∨ xs.getD i 0 / 2 ^ (64 - P % 64) = 0) := by
 intro i hi
 obtain ⟨h1, h2, h3⟩ := right_W hok
 refine ⟨by omega, ?_⟩
 by_cases hN : P / 64 + i + 1 < N
 ·exact .inl hN
 ·right
  refine Nat.eq_of_testBit_eq fun j => ?_
  rw [Nat.testBit_div_two_pow, Nat.zero_testBit]
  by_cases hj : j + (64 - P % 64) < 64
  ·have := tb_out hok (64 * i + (j + (64 - P % 64))) (by omega)
   unfold tb at this
   rw [show (64 * i + (j + (64 - P % 64))) / 64 = i by omega, show (64 * i + (j + (64 - P % 64))) % 64 = j + (64 - P % 64) by omega] at this
   exact this
  ·exact Nat.testBit_lt_two_pow (Nat.lt_of_lt_of_le (getD_lt hx i) (show 2 ^ 64 ≤ 2 ^ (j + (64 - P % 64)) from Nat.pow_le_pow_right (by omega) (by omega)))
theorem tb_put_right {V : Nat} {xs : List Nat} (hok : rightB V xs = true) (hx : ∀ x ∈ xs, x < 18446744073709551616) (zs : List Nat) (P : Nat) (h : P + V ≤ 64 * zs.length) (j : Nat) :
  tb (putTo zs xs (P / 64) (P % 64) xs.length) j = (tb zs j || (decide (P ≤ j) && tb xs (j - P))) := by
 rw [tb_put zs xs _ _ _ (by omega) hx (put_fit hok hx P zs.length h), show 64 * (P / 64) + P % 64 = P by omega]
 by_cases h1 : P ≤ j
 ·by_cases h2 : j < P + 64 * xs.length
  ·simp [h1, h2]
  ·have := right_W hok
   rw [tb_out hok (j - P) (by omega)]; simp
 ·simp [h1]


structure Th where
 op : Int
 vr : Int
 a : Int
 b : Int
 bw : Int
 wa : Option Addr
 wn : Nat
 wc : Nat
 ka : Option Addr
 kn : Nat
 kc : Nat
def Th.val (h : Th) : Value := .agg #[.int .i64 h.op, .int .i64 h.vr, .int .i64 h.a, .int .i64 h.b, .int .i64 h.bw, .slice h.wa h.wn h.wc, .slice h.ka h.kn h.kc]
def ThAt (w : World) (b o : Nat) (h : Th) : Prop :=
 w.cell? ⟨b, o, none⟩ = some (.int .i64 h.op) ∧ w.cell? ⟨b, o + 1, none⟩ = some (.int .i64 h.vr) ∧ w.cell? ⟨b, o + 2, none⟩ = some (.int .i64 h.a) ∧ w.cell? ⟨b, o + 3, none⟩ = some (.int .i64 h.b) ∧ w.cell? ⟨b, o + 4, none⟩ = some (.int .i64 h.bw) ∧ w.cell? ⟨b, o + 5, none⟩ = some (.slice h.wa h.wn h.wc) ∧ w.cell? ⟨b, o + 6, none⟩ = some (.slice h.ka h.kn h.kc)
theorem ThAt.later {w w' : World} {b o : Nat} {h : Th} (k : ThAt w b o h) (hb : Below w.heap.size w w') : ThAt w' b o h := by
 obtain ⟨f0, f1, f2, f3, f4, f5, f6⟩ := k
 have l := block_lt_of_cell f0
 exact ⟨by rw [kcell hb _ _ l]; exact f0, by rw [kcell hb _ _ l]; exact f1, by rw [kcell hb _ _ l]; exact f2, by rw [kcell hb _ _ l]; exact f3, by rw [kcell hb _ _ l]; exact f4, by rw [kcell hb _ _ l]; exact f5, by rw [kcell hb _ _ l]; exact f6⟩
def RdTh (w : World) (a : Option Addr) (hs : List Th) : Prop :=
 hs.length ≤ 1048576 ∧ (hs = [] ∨ ∃ b o, a = some ⟨b, o, none⟩ ∧ ∀ i h, hs[i]? = some h → ThAt w b (o + i * 7) h ∧ h.wn ≤ 9223372036854775807 ∧ h.kn ≤ 9223372036854775807)
theorem RdTh.later {w w' : World} {a : Option Addr} {hs : List Th} (h : RdTh w a hs) (hb : Below w.heap.size w w') : RdTh w' a hs := by
 refine ⟨h.1, ?_⟩
 rcases h.2 with h | ⟨b, o, rfl, hc⟩
 ·exact .inl h
 ·exact .inr ⟨b, o, rfl, fun i x hi => ⟨(hc i x hi).1.later hb, (hc i x hi).2⟩⟩
def szT (h : Th) (L : Int) : Int := if (h.wn : Int) ≤ L ∧ (h.kn : Int) ≤ L - h.wn then L - h.wn - h.kn else -1
theorem szTNode_any (h : Th) (L : Int) (w : World) (hL : 0 ≤ L) (hL2 : L ≤ 1048576) (hn : h.wn ≤ 9223372036854775807) (hm : h.kn ≤ 9223372036854775807) :
  Calls Tryz.prog 28 #[h.val, .int .i64 L] w fun e w' => e = .returned (.int .i64 (szT h L)) ∧ Below w.heap.size w w' := by
 obtain ⟨op, vr, a, b, bw, wa, wn, wc, ka, kn, kc⟩ := h
 simp only [Th.val, szT] at hn hm ⊢
 have hb0 : Below w.heap.size w (w.alloc (Obj.cells #[.int .i64 op, .int .i64 vr, .int .i64 a, .int .i64 b, .int .i64 bw, .slice wa wn wc, .slice ka kn kc] 62)) := blA _ _
 have B0 := kide hb0
 clear hb0
 by_cases h : (wn : Int) ≤ L
 ·by_cases h2 : (kn : Int) ≤ L - wn
  ·rw [if_pos ⟨h, h2⟩]
   have HY := kide h
   have HZ := kide h2
   go_enter Tryz.func28, Tryz.ntmps28
   go_wp2_with fail
   refine (szBits_yes _ _ _ _ _ _ hL hL2 hn HY.out).mono ?_
   rintro e w1 ⟨rfl, hb1⟩
   have k6 := kcell hb1 w.heap.size 6 (by simp)
   simp at k6
   have B1 := kide (B0.out.trans (hb1.mono (by simp)))
   clear hb1
   go_wp2_with fail
   refine (szInt64S_any _ _ _ _ _ (by omega) (by omega) hm).mono ?_
   rw [if_pos HZ.out]
   rintro e w2 ⟨rfl, rfl⟩
   go_wp2_with fail
   go_ret
   exact ⟨rfl, B1.out⟩
  ·rw [if_neg (by omega)]
   have HY := kide h
   have HZ : Hid (¬ (kn : Int) ≤ L - wn) := h2
   clear h2
   go_enter Tryz.func28, Tryz.ntmps28
   go_wp2_with fail
   refine (szBits_yes _ _ _ _ _ _ hL hL2 hn HY.out).mono ?_
   rintro e w1 ⟨rfl, hb1⟩
   have k6 := kcell hb1 w.heap.size 6 (by simp)
   simp at k6
   have B1 := kide (B0.out.trans (hb1.mono (by simp)))
   clear hb1
   go_wp2_with fail
   refine (szInt64S_any _ _ _ _ _ (by omega) (by omega) hm).mono ?_
   rw [if_neg (by have := HZ.out; omega)]
   rintro e w2 ⟨rfl, rfl⟩
   go_wp2_with fail
   go_ret
   exact ⟨rfl, B1.out⟩
 ·rw [if_neg (by omega)]
  have HY : Hid (¬ (wn : Int) ≤ L) := h
  go_enter Tryz.func28, Tryz.ntmps28
  go_wp2_with fail
  refine (szBits_no _ _ _ _ _ _ hL hL2 hn (by have := HY.out; omega)).mono ?_
  rintro e w1 ⟨rfl, hb1⟩
  go_wp2_with fail
  go_ret
  exact ⟨rfl, B0.out.trans (hb1.mono (by simp))⟩
def szTl : List Th → Int → Int
 | [], L => L
 | h :: t, L => if (h.wn : Int) ≤ L ∧ (h.kn : Int) ≤ L - h.wn then szTl t (L - h.wn - h.kn) else -1
theorem szTl_range (hs : List Th) (L : Int) (hL : 0 ≤ L) : szTl hs L = -1 ∨ 0 ≤ szTl hs L ∧ szTl hs L ≤ L ∧ ∀ h ∈ hs, (h.wn : Int) ≤ L ∧ (h.kn : Int) ≤ L := by
 induction hs generalizing L with
 | nil => right; simp [szTl]; exact hL
 | cons h t ih =>
  rw [szTl]
  split
  ·rename_i hc
   rcases ih (L - h.wn - h.kn) (by omega) with e | ⟨e1, e2, e3⟩
   ·left; exact e
   ·right
    refine ⟨e1, by omega, fun x hx => ?_⟩
    rcases List.mem_cons.1 hx with rfl | hx
    ·omega
    ·have := e3 x hx; omega
  ·left; rfl
theorem szTNodeS_in (a : Option Addr) (c : Nat) (hs : List Th) (L : Int) (w : World) (hr : RdTh w a hs) (hL : 0 ≤ L) (hL2 : L ≤ 1048576) (h : (hs.length : Int) ≤ L) :
  Calls Tryz.prog 16 #[.slice a hs.length c, .int .i64 L] w fun e w' => e = .returned (.int .i64 (szTl hs (L - hs.length))) ∧ Below w.heap.size w w' := by
 have hlen := hr.1
 generalize hZ : szTl hs (L - hs.length) = Z
 have HZ : Hid (szTl hs (L - hs.length) = Z) := hZ
 clear hZ
 go_enter Tryz.func16, Tryz.ntmps16
 go_wp2_with fail
 go_loopw [1, 5] (fun l i wr => ∃ (k : Nat) (Q : Int), k ≤ hs.length ∧ i = .int .i64 k ∧ l = .int .i64 Q ∧ 0 ≤ Q ∧ Q ≤ 1048576 ∧ szTl (hs.drop k) Q = Z ∧ Below w.heap.size w wr) (fun _ i _ => hs.length - (intOf i).toNat)
 case atStart => exact ⟨0, _, Nat.zero_le _, rfl, rfl, by omega, by omega, by rw [List.drop_zero]; exact HZ.out, Below.refl _ _⟩
 case round =>
  obtain ⟨k, Q, hk, rfl, rfl, hQ0, hQ1, hq, hbel⟩ := hrel
  by_cases hlt : k < hs.length
  ·obtain ⟨-, h | ⟨b, o, rfl, hc⟩⟩ := hr
   ·subst h; simp at hlt
   obtain ⟨x, hh⟩ : ∃ x, hs[k] = x := ⟨_, rfl⟩
   obtain ⟨f1, f2, f3⟩ := hc k x (by rw [List.getElem?_eq_getElem hlt, hh])
   obtain ⟨g0, g1, g2, g3, g4, g5, g6⟩ := f1.later hbel
   have HCA := kide (fun u => szTNode_any x Q u hQ0 hQ1 f2 f3)
   rw [List.drop_eq_getElem_cons hlt, hh, szTl] at hq
   obtain ⟨op, vr, a, b', bw, wa, wn, wc, ka, kn, kc⟩ := x
   simp only [Th.val, szT] at g0 g1 g2 g3 g4 g5 g6 hq f2 f3 HCA
   have HQ : Hid _ := hq
   have HB : Hid _ := hbel
   clear hc hh f1 hbel hq
   by_cases hyes : (wn : Int) ≤ Q ∧ (kn : Int) ≤ Q - wn
   ·rw [if_pos hyes] at HCA
    go_wp2_with (go_at_call 28; refine Calls.mono (HCA.out _) ?_; rintro e w1 ⟨rfl, hb1⟩)
    go_roundw
    case rel =>
     have h := HQ.out
     rw [if_pos (by omega)] at h
     exact ⟨k + 1, _, by omega, by go_num, rfl, by omega, by omega, h, HB.out.trans (hb1.mono HB.out.size)⟩
    case measure => simp [intOf]; omega
   ·rw [if_neg hyes] at HCA
    have HY := kide hyes
    clear hyes
    go_wp2_with (go_at_call 28; refine Calls.mono (HCA.out _) ?_; rintro e w1 ⟨rfl, hb1⟩)
    go_ret
    have h := HQ.out
    rw [if_neg (by have := HY.out; omega)] at h
    exact ⟨ret_int h, HB.out.trans (hb1.mono HB.out.size)⟩
  ·have e : k = hs.length := by omega
   rw [e, List.drop_length, szTl] at hq
   have HQ : Hid _ := hq
   clear hq
   go_wp2_with fail
   go_ret
   exact ⟨ret_int HQ.out, hbel⟩
theorem szTNodeS_out (a : Option Addr) (n c : Nat) (L : Int) (w : World) (hL : 0 ≤ L) (hL2 : L ≤ 1048576) (hn : n ≤ 9223372036854775807) (h : ¬ (n : Int) ≤ L) :
  Calls Tryz.prog 16 #[.slice a n c, .int .i64 L] w fun e w' => e = .returned (.int .i64 (-1)) ∧ w' = w := by
 go_enter Tryz.func16, Tryz.ntmps16
 go_wp2_with fail
 go_ret
 exact ⟨rfl, rfl⟩

structure Tc where
 op : Int
 vr : Int
 a : Int
 b : Int
 bw : Int
 ws : List Nat
 ks : List Int

structure Tg where
 ct : Tc
 wa : Option Addr
 wc : Nat
 ka : Option Addr
 kc : Nat
def Tg.hd (x : Tg) : Th := ⟨x.ct.op, x.ct.vr, x.ct.a, x.ct.b, x.ct.bw, x.wa, x.ct.ws.length, x.wc, x.ka, x.ct.ks.length, x.kc⟩
def TgAt (w : World) (b o : Nat) (x : Tg) : Prop := ThAt w b o x.hd ∧ Rd w x.wa x.ct.ws ∧ RdI w x.ka x.ct.ks ∧ in64 x.ct.op ∧ in64 x.ct.vr ∧ in64 x.ct.a ∧ in64 x.ct.b ∧ in64 x.ct.bw
theorem TgAt.later {w w' : World} {b o : Nat} {x : Tg} (h : TgAt w b o x) (hb : Below w.heap.size w w') : TgAt w' b o x := ⟨h.1.later hb, h.2.1.later hb, h.2.2.1.later hb, h.2.2.2⟩
def RdT (w : World) (a : Option Addr) (xs : List Tg) : Prop :=
 xs.length ≤ 1048576 ∧ (xs = [] ∨ ∃ b o, a = some ⟨b, o, none⟩ ∧ ∀ i n, xs[i]? = some n → TgAt w b (o + i * 7) n)
theorem RdT.later {w w' : World} {a : Option Addr} {xs : List Tg} (h : RdT w a xs) (hb : Below w.heap.size w w') : RdT w' a xs := by
 refine ⟨h.1, ?_⟩
 rcases h.2 with h | ⟨b, o, rfl, hc⟩
 ·exact .inl h
 ·exact .inr ⟨b, o, rfl, fun i n hi => (hc i n hi).later hb⟩
theorem szTerm_in (a : Option Addr) (c : Nat) (hs : List Th) (L : Int) (w : World) (hr : RdTh w a hs) (hL : 0 ≤ L) (hL2 : L ≤ 1048576) (h : (hs.length : Int) ≤ L) (n : Nat) (hn : hs.length = n) :
  Calls Tryz.prog 5 #[.agg #[.slice a n c], .int .i64 L] w fun e w' => e = .returned (.int .i64 (szTl hs (L - hs.length))) ∧ Below w.heap.size w w' := by
 subst hn
 have hb0 : Below w.heap.size w (w.alloc (Obj.cells #[.slice a hs.length c] 25)) := blA _ _
 have HC := kide (szTNodeS_in a c hs L _ (hr.later hb0) hL hL2 h)
 have hz := szTl_range hs (L - hs.length) (by omega)
 generalize szTl hs (L - hs.length) = Z at *
 have B0 := kide hb0
 clear hr hb0
 by_cases hz0 : Z < 0
 ·have e : Z = -1 := by omega
  subst e
  go_enter Tryz.func5, Tryz.ntmps5
  go_wp2_with fail
  refine Calls.mono HC.out ?_
  rintro e w1 ⟨rfl, hb1⟩
  go_wp2_with fail
  go_ret
  exact ⟨rfl, B0.out.trans (hb1.mono (by simp))⟩
 ·go_enter Tryz.func5, Tryz.ntmps5
  go_wp2_with fail
  refine Calls.mono HC.out ?_
  rintro e w1 ⟨rfl, hb1⟩
  go_wp2_with fail
  go_ret
  exact ⟨rfl, B0.out.trans (hb1.mono (by simp))⟩
theorem szTerm_out (a : Option Addr) (n c : Nat) (L : Int) (w : World) (hL : 0 ≤ L) (hL2 : L ≤ 1048576) (hn : n ≤ 9223372036854775807) (h : ¬ (n : Int) ≤ L) :
  Calls Tryz.prog 5 #[.agg #[.slice a n c], .int .i64 L] w fun e w' => e = .returned (.int .i64 (-1)) ∧ Below w.heap.size w w' := by
 have HH := kide h
 have hb0 : Below w.heap.size w (w.alloc (Obj.cells #[.slice a n c] 25)) := blA _ _
 go_enter Tryz.func5, Tryz.ntmps5
 go_wp2_with fail
 refine (szTNodeS_out a n c L _ hL hL2 hn (by have := HH.out; omega)).mono ?_
 rintro e w1 ⟨rfl, rfl⟩
 go_wp2_with fail
 go_ret
 exact ⟨rfl, hb0⟩

set_option maxHeartbeats 1000000 in
theorem toTNode_any (s : Tc) (wa ka : Option Addr) (c1 c2 : Nat) (w : World) (hr1 : Rd w wa s.ws) (hr2 : RdI w ka s.ks) :
  Calls Tryz.prog 34 #[.agg #[.int .i64 s.op, .int .i64 s.vr, .int .i64 s.a, .int .i64 s.b, .int .i64 s.bw, .slice wa s.ws.length c1, .slice ka s.ks.length c2]] w fun e w' => ∃ g1 g2, e = .returned (.agg #[.int .i64 s.op, .int .i64 s.vr, .int .i64 s.a, .int .i64 s.b, .int .i64 s.bw, .slice (some ⟨g1, 0, none⟩) s.ws.length s.ws.length, .slice (some ⟨g2, 0, none⟩) s.ks.length s.ks.length]) ∧ w.heap.size ≤ g1 ∧ w.heap.size ≤ g2 ∧ Own w' g1 s.ws ∧ OwnI w' g2 s.ks ∧ Below w.heap.size w w' := by
 obtain ⟨op, vr, a, b, bw, ws, ks⟩ := s
 simp only [] at hr1 hr2 ⊢
 go_enter Tryz.func34, Tryz.ntmps34
 go_wp2_with fail
 have h3 : Below w.heap.size w (((w.alloc (Obj.cells #[.int .i64 op, .int .i64 vr, .int .i64 a, .int .i64 b, .int .i64 bw, .slice wa ws.length c1, .slice ka ks.length c2] 62)).alloc (Obj.cells #[.int .i64 0, .int .i64 0, .int .i64 0, .int .i64 0, .int .i64 0, .slice none 0 0, .slice none 0 0] 67)).alloc (Obj.cells #[.int .i64 op, .int .i64 vr, .int .i64 a, .int .i64 b, .int .i64 0, .slice none 0 0, .slice none 0 0] 67)) := ((blA _ _).alloc (by simp) _).alloc (by simp; omega) _
 refine (toBits_any bw wa c1 ws _ (hr1.later h3)).mono ?_
 rintro e w1 ⟨g, rfl, hg, hown, hb⟩
 obtain ⟨hc, hf⟩ := bcell hb
 have hz : w.heap.size + 1 + 1 < w1.heap.size := by have := hb.size; simp at this; omega
 have hg3 : w.heap.size + 3 ≤ g := by simp at hg; omega
 have za0 : w1.cell? ⟨w.heap.size + 1, 0, none⟩ = some (Value.int .i64 0) := by rw [hc _ _ (by first | (simp; done) | (simp; omega))]; simp [go_sem]
 have zb0 : w1.cell? ⟨w.heap.size + 1 + 1, 0, none⟩ = some (Value.int .i64 op) := by rw [hc _ _ (by first | (simp; done) | (simp; omega))]; simp [go_sem]
 have fa0 : w1.frozen? ⟨w.heap.size + 1, 0, none⟩ = false := by rw [hf _ _ (by first | (simp; done) | (simp; omega))]; simp [go_sem]
 have fb0 : w1.frozen? ⟨w.heap.size + 1 + 1, 0, none⟩ = false := by rw [hf _ _ (by first | (simp; done) | (simp; omega))]; simp [go_sem]
 have za1 : w1.cell? ⟨w.heap.size + 1, 1, none⟩ = some (Value.int .i64 0) := by rw [hc _ _ (by first | (simp; done) | (simp; omega))]; simp [go_sem]
 have zb1 : w1.cell? ⟨w.heap.size + 1 + 1, 1, none⟩ = some (Value.int .i64 vr) := by rw [hc _ _ (by first | (simp; done) | (simp; omega))]; simp [go_sem]
 have fa1 : w1.frozen? ⟨w.heap.size + 1, 1, none⟩ = false := by rw [hf _ _ (by first | (simp; done) | (simp; omega))]; simp [go_sem]
 have fb1 : w1.frozen? ⟨w.heap.size + 1 + 1, 1, none⟩ = false := by rw [hf _ _ (by first | (simp; done) | (simp; omega))]; simp [go_sem]
 have za2 : w1.cell? ⟨w.heap.size + 1, 2, none⟩ = some (Value.int .i64 0) := by rw [hc _ _ (by first | (simp; done) | (simp; omega))]; simp [go_sem]
 have zb2 : w1.cell? ⟨w.heap.size + 1 + 1, 2, none⟩ = some (Value.int .i64 a) := by rw [hc _ _ (by first | (simp; done) | (simp; omega))]; simp [go_sem]
 have fa2 : w1.frozen? ⟨w.heap.size + 1, 2, none⟩ = false := by rw [hf _ _ (by first | (simp; done) | (simp; omega))]; simp [go_sem]
 have fb2 : w1.frozen? ⟨w.heap.size + 1 + 1, 2, none⟩ = false := by rw [hf _ _ (by first | (simp; done) | (simp; omega))]; simp [go_sem]
 have za3 : w1.cell? ⟨w.heap.size + 1, 3, none⟩ = some (Value.int .i64 0) := by rw [hc _ _ (by first | (simp; done) | (simp; omega))]; simp [go_sem]
 have zb3 : w1.cell? ⟨w.heap.size + 1 + 1, 3, none⟩ = some (Value.int .i64 b) := by rw [hc _ _ (by first | (simp; done) | (simp; omega))]; simp [go_sem]
 have fa3 : w1.frozen? ⟨w.heap.size + 1, 3, none⟩ = false := by rw [hf _ _ (by first | (simp; done) | (simp; omega))]; simp [go_sem]
 have fb3 : w1.frozen? ⟨w.heap.size + 1 + 1, 3, none⟩ = false := by rw [hf _ _ (by first | (simp; done) | (simp; omega))]; simp [go_sem]
 have za4 : w1.cell? ⟨w.heap.size + 1, 4, none⟩ = some (Value.int .i64 0) := by rw [hc _ _ (by first | (simp; done) | (simp; omega))]; simp [go_sem]
 have zb4 : w1.cell? ⟨w.heap.size + 1 + 1, 4, none⟩ = some (Value.int .i64 0) := by rw [hc _ _ (by first | (simp; done) | (simp; omega))]; simp [go_sem]
 have fa4 : w1.frozen? ⟨w.heap.size + 1, 4, none⟩ = false := by rw [hf _ _ (by first | (simp; done) | (simp; omega))]; simp [go_sem]
 have fb4 : w1.frozen? ⟨w.heap.size + 1 + 1, 4, none⟩ = false := by rw [hf _ _ (by first | (simp; done) | (simp; omega))]; simp [go_sem]
 have za5 : w1.cell? ⟨w.heap.size + 1, 5, none⟩ = some (Value.slice none 0 0) := by rw [hc _ _ (by first | (simp; done) | (simp; omega))]; simp [go_sem]
 have zb5 : w1.cell? ⟨w.heap.size + 1 + 1, 5, none⟩ = some (Value.slice none 0 0) := by rw [hc _ _ (by first | (simp; done) | (simp; omega))]; simp [go_sem]
 have fa5 : w1.frozen? ⟨w.heap.size + 1, 5, none⟩ = false := by rw [hf _ _ (by first | (simp; done) | (simp; omega))]; simp [go_sem]
 have fb5 : w1.frozen? ⟨w.heap.size + 1 + 1, 5, none⟩ = false := by rw [hf _ _ (by first | (simp; done) | (simp; omega))]; simp [go_sem]
 have za6 : w1.cell? ⟨w.heap.size + 1, 6, none⟩ = some (Value.slice none 0 0) := by rw [hc _ _ (by first | (simp; done) | (simp; omega))]; simp [go_sem]
 have zb6 : w1.cell? ⟨w.heap.size + 1 + 1, 6, none⟩ = some (Value.slice none 0 0) := by rw [hc _ _ (by first | (simp; done) | (simp; omega))]; simp [go_sem]
 have fa6 : w1.frozen? ⟨w.heap.size + 1, 6, none⟩ = false := by rw [hf _ _ (by first | (simp; done) | (simp; omega))]; simp [go_sem]
 have fb6 : w1.frozen? ⟨w.heap.size + 1 + 1, 6, none⟩ = false := by rw [hf _ _ (by first | (simp; done) | (simp; omega))]; simp [go_sem]
 have zp : w1.cell? ⟨w.heap.size, 6, none⟩ = some (Value.slice ka ks.length c2) := by rw [hc _ _ (by first | (simp; done) | (simp; omega))]; simp [go_sem]
 have HO := kide hown
 have HB := kide (h3.trans (hb.mono h3.size))
 have HR2 := kide hr2
 have hgl : g < w1.heap.size := hown.lt
 clear hown hb hr1 hr2 h3 hg hc hf
 go_wp2_with fail
 refine (toInt64S_any ka c2 ks _ (HR2.out.later ((HB.out.setCell (by simp; omega) _).setCell (by simp; omega) _))).mono ?_
 rintro e w2 ⟨rfl, hown2, hb2⟩
 obtain ⟨hc2, hf2⟩ := bcell hb2
 have hz2 : w1.heap.size ≤ w2.heap.size := by have := hb2.size; simpa using this
 have HO2 := kide (show OwnI w2 w1.heap.size ks by simpa using hown2)
 have HB2 : Hid (Below w.heap.size w w2) := Below.trans ((HB.out.setCell (by simp; omega) _).setCell (by simp; omega) _) (hb2.mono (by simp; omega))
 have HO1 : Hid (Own w2 g ws) := Own.later ((Own.other HO.out (by simp; omega) _).other (by simp; omega) _) hb2 (by simpa using hgl)
 have ya0 : w2.cell? ⟨w.heap.size + 1, 0, none⟩ = some (Value.int .i64 0) := by rw [hc2 _ _ (by first | (simp; done) | (simp; omega))]; simp [go_sem, za0]
 have yb0 : w2.cell? ⟨w.heap.size + 1 + 1, 0, none⟩ = some (Value.int .i64 op) := by rw [hc2 _ _ (by first | (simp; done) | (simp; omega))]; simp [go_sem, zb0, zb1, zb2, zb3, zb4, zb5, zb6, fb0, fb1, fb2, fb3, fb4, fb5, fb6]
 have ga0 : w2.frozen? ⟨w.heap.size + 1, 0, none⟩ = false := by rw [hf2 _ _ (by first | (simp; done) | (simp; omega))]; simp [go_sem, fa0]
 have gb0 : w2.frozen? ⟨w.heap.size + 1 + 1, 0, none⟩ = false := by rw [hf2 _ _ (by first | (simp; done) | (simp; omega))]; simp [go_sem, fb0]
 have ya1 : w2.cell? ⟨w.heap.size + 1, 1, none⟩ = some (Value.int .i64 0) := by rw [hc2 _ _ (by first | (simp; done) | (simp; omega))]; simp [go_sem, za1]
 have yb1 : w2.cell? ⟨w.heap.size + 1 + 1, 1, none⟩ = some (Value.int .i64 vr) := by rw [hc2 _ _ (by first | (simp; done) | (simp; omega))]; simp [go_sem, zb0, zb1, zb2, zb3, zb4, zb5, zb6, fb0, fb1, fb2, fb3, fb4, fb5, fb6]
 have ga1 : w2.frozen? ⟨w.heap.size + 1, 1, none⟩ = false := by rw [hf2 _ _ (by first | (simp; done) | (simp; omega))]; simp [go_sem, fa1]
 have gb1 : w2.frozen? ⟨w.heap.size + 1 + 1, 1, none⟩ = false := by rw [hf2 _ _ (by first | (simp; done) | (simp; omega))]; simp [go_sem, fb1]
 have ya2 : w2.cell? ⟨w.heap.size + 1, 2, none⟩ = some (Value.int .i64 0) := by rw [hc2 _ _ (by first | (simp; done) | (simp; omega))]; simp [go_sem, za2]
 have yb2 : w2.cell? ⟨w.heap.size + 1 + 1, 2, none⟩ = some (Value.int .i64 a) := by rw [hc2 _ _ (by first | (simp; done) | (simp; omega))]; simp [go_sem, zb0, zb1, zb2, zb3, zb4, zb5, zb6, fb0, fb1, fb2, fb3, fb4, fb5, fb6]
 have ga2 : w2.frozen? ⟨w.heap.size + 1, 2, none⟩ = false := by rw [hf2 _ _ (by first | (simp; done) | (simp; omega))]; simp [go_sem, fa2]
 have gb2 : w2.frozen? ⟨w.heap.size + 1 + 1, 2, none⟩ = false := by rw [hf2 _ _ (by first | (simp; done) | (simp; omega))]; simp [go_sem, fb2]
 have ya3 : w2.cell? ⟨w.heap.size + 1, 3, none⟩ = some (Value.int .i64 0) := by rw [hc2 _ _ (by first | (simp; done) | (simp; omega))]; simp [go_sem, za3]
 have yb3 : w2.cell? ⟨w.heap.size + 1 + 1, 3, none⟩ = some (Value.int .i64 b) := by rw [hc2 _ _ (by first | (simp; done) | (simp; omega))]; simp [go_sem, zb0, zb1, zb2, zb3, zb4, zb5, zb6, fb0, fb1, fb2, fb3, fb4, fb5, fb6]
 have ga3 : w2.frozen? ⟨w.heap.size + 1, 3, none⟩ = false := by rw [hf2 _ _ (by first | (simp; done) | (simp; omega))]; simp [go_sem, fa3]
 have gb3 : w2.frozen? ⟨w.heap.size + 1 + 1, 3, none⟩ = false := by rw [hf2 _ _ (by first | (simp; done) | (simp; omega))]; simp [go_sem, fb3]
 have ya4 : w2.cell? ⟨w.heap.size + 1, 4, none⟩ = some (Value.int .i64 0) := by rw [hc2 _ _ (by first | (simp; done) | (simp; omega))]; simp [go_sem, za4]
 have yb4 : w2.cell? ⟨w.heap.size + 1 + 1, 4, none⟩ = some (Value.int .i64 bw) := by rw [hc2 _ _ (by first | (simp; done) | (simp; omega))]; simp [go_sem, zb0, zb1, zb2, zb3, zb4, zb5, zb6, fb0, fb1, fb2, fb3, fb4, fb5, fb6]
 have ga4 : w2.frozen? ⟨w.heap.size + 1, 4, none⟩ = false := by rw [hf2 _ _ (by first | (simp; done) | (simp; omega))]; simp [go_sem, fa4]
 have gb4 : w2.frozen? ⟨w.heap.size + 1 + 1, 4, none⟩ = false := by rw [hf2 _ _ (by first | (simp; done) | (simp; omega))]; simp [go_sem, fb4]
 have ya5 : w2.cell? ⟨w.heap.size + 1, 5, none⟩ = some (Value.slice none 0 0) := by rw [hc2 _ _ (by first | (simp; done) | (simp; omega))]; simp [go_sem, za5]
 have yb5 : w2.cell? ⟨w.heap.size + 1 + 1, 5, none⟩ = some (Value.slice (some ⟨g, 0, none⟩) ws.length ws.length) := by rw [hc2 _ _ (by first | (simp; done) | (simp; omega))]; simp [go_sem, zb0, zb1, zb2, zb3, zb4, zb5, zb6, fb0, fb1, fb2, fb3, fb4, fb5, fb6]
 have ga5 : w2.frozen? ⟨w.heap.size + 1, 5, none⟩ = false := by rw [hf2 _ _ (by first | (simp; done) | (simp; omega))]; simp [go_sem, fa5]
 have gb5 : w2.frozen? ⟨w.heap.size + 1 + 1, 5, none⟩ = false := by rw [hf2 _ _ (by first | (simp; done) | (simp; omega))]; simp [go_sem, fb5]
 have ya6 : w2.cell? ⟨w.heap.size + 1, 6, none⟩ = some (Value.slice none 0 0) := by rw [hc2 _ _ (by first | (simp; done) | (simp; omega))]; simp [go_sem, za6]
 have yb6 : w2.cell? ⟨w.heap.size + 1 + 1, 6, none⟩ = some (Value.slice none 0 0) := by rw [hc2 _ _ (by first | (simp; done) | (simp; omega))]; simp [go_sem, zb0, zb1, zb2, zb3, zb4, zb5, zb6, fb0, fb1, fb2, fb3, fb4, fb5, fb6]
 have ga6 : w2.frozen? ⟨w.heap.size + 1, 6, none⟩ = false := by rw [hf2 _ _ (by first | (simp; done) | (simp; omega))]; simp [go_sem, fa6]
 have gb6 : w2.frozen? ⟨w.heap.size + 1 + 1, 6, none⟩ = false := by rw [hf2 _ _ (by first | (simp; done) | (simp; omega))]; simp [go_sem, fb6]
 clear hown2 hb2 HO HB HR2 hc2 hf2 zp za0 zb0 fa0 fb0 za1 zb1 fa1 fb1 za2 zb2 fa2 fb2 za3 zb3 fa3 fb3 za4 zb4 fa4 fb4 za5 zb5 fa5 fb5 za6 zb6 fa6 fb6
 go_wp2_with fail
 refine bodyPost_ret (v := .agg #[.int .i64 op, .int .i64 vr, .int .i64 a, .int .i64 b, .int .i64 bw, .slice (some ⟨g, 0, none⟩) ws.length ws.length, .slice (some ⟨w1.heap.size, 0, none⟩) ks.length ks.length]) (by simp [results, Tryz.results34, go_sem, ya0, yb0, ya1, yb1, ya2, yb2, ya3, yb3, ya4, yb4, ya5, yb5, ya6, yb6]) rfl ⟨g, w1.heap.size, rfl, by omega, by omega, ?_, ?_, ?_⟩
 ·repeat (refine Own.other ?_ (by simp; omega) _)
  exact HO1.out
 ·repeat (refine OwnI.other ?_ (by simp; omega) _)
  exact HO2.out
 ·repeat (refine Below.setCell ?_ (by simp <;> omega) _)
  exact HB2.out

theorem ksetT {w : World} {p : Addr} {a : Addr} {v : Value} {x : Value} (h : w.cell? p = some x) (hn : p.block ≠ a.block) : (w.setCell a v).cell? p = some x := by
 rw [World.cell?_setCell_far _ _ _ _ hn.symm]; exact h
theorem RdI.setT {w : World} {a : Option Addr} {ks : List Int} (h : RdI w a ks) {B : Nat} (hf : ∀ b o sp, a = some ⟨b, o, sp⟩ → B ≤ b) {p : Addr} (hp : p.block < B) (v : Value) : RdI (w.setCell p v) a ks := by
 obtain ⟨h1, h2, h3⟩ := h
 refine ⟨h1, h2, ?_⟩
 rcases h3 with h3 | ⟨b, o, rfl, hc⟩
 ·exact .inl h3
 ·have := hf b o none rfl
  exact .inr ⟨b, o, rfl, fun i hi => ksetT (hc i hi) (by simp; omega)⟩
theorem Rd.setT {w : World} {a : Option Addr} {ks : List Nat} (h : Rd w a ks) {B : Nat} (hf : ∀ b o sp, a = some ⟨b, o, sp⟩ → B ≤ b) {p : Addr} (hp : p.block < B) (v : Value) : Rd (w.setCell p v) a ks := by
 obtain ⟨h1, h2, h3⟩ := h
 refine ⟨h1, h2, ?_⟩
 rcases h3 with h3 | ⟨b, o, rfl, hc⟩
 ·exact .inl h3
 ·have := hf b o none rfl
  exact .inr ⟨b, o, rfl, fun i hi => ksetT (hc i hi) (by simp; omega)⟩
def FarT (B : Nat) (a : Option Addr) (xs : List Tg) : Prop := (∀ b o sp, a = some ⟨b, o, sp⟩ → B ≤ b) ∧ ∀ x ∈ xs, (∀ b o sp, x.wa = some ⟨b, o, sp⟩ → B ≤ b) ∧ ∀ b o sp, x.ka = some ⟨b, o, sp⟩ → B ≤ b
theorem FarT.mono {B B' : Nat} {a : Option Addr} {xs : List Tg} (h : FarT B a xs) (hB : B' ≤ B) : FarT B' a xs := ⟨fun b o sp e => Nat.le_trans hB (h.1 b o sp e), fun x hx => ⟨fun b o sp e => Nat.le_trans hB ((h.2 x hx).1 b o sp e), fun b o sp e => Nat.le_trans hB ((h.2 x hx).2 b o sp e)⟩⟩
theorem RdT.set {w : World} {a : Option Addr} {xs : List Tg} (h : RdT w a xs) {B : Nat} (hf : FarT B a xs) {p : Addr} (hp : p.block < B) (v : Value) : RdT (w.setCell p v) a xs := by
 refine ⟨h.1, ?_⟩
 rcases h.2 with h3 | ⟨b, o, rfl, hc⟩
 ·exact .inl h3
 ·have := hf.1 b o none rfl
  refine .inr ⟨b, o, rfl, fun i n hi => ?_⟩
  obtain ⟨⟨c0, c1, c2, c3, c4, c5, c6⟩, r1, r2, r3⟩ := hc i n hi
  have hn := hf.2 n (List.mem_of_getElem? hi)
  exact ⟨⟨ksetT c0 (by simp; omega), ksetT c1 (by simp; omega), ksetT c2 (by simp; omega), ksetT c3 (by simp; omega), ksetT c4 (by simp; omega), ksetT c5 (by simp; omega), ksetT c6 (by simp; omega)⟩, r1.setT hn.1 hp v, r2.setT hn.2 hp v, r3⟩
theorem Tryz.infoTNode : (Tryz.prog.info? 67).map (fun i => (i.zero, i.size, i.bytes)) = some (some (.agg #[.int .i64 0, .int .i64 0, .int .i64 0, .int .i64 0, .int .i64 0, .slice none 0 0, .slice none 0 0]), 7, 88) := by kernel_rfl
theorem make_tnodes (n : Nat) (hn : n ≤ 1048576) (kl kc : IntKind) (w : World) :
  (Instr.makeSlice 28 (.int kl (n : Int)) (.int kc (n : Int))).run Tryz.prog w = .ok (.slice (some ⟨w.heap.size, 0, none⟩) n n) (w.alloc (.cells (madeCells #[.int .i64 0, .int .i64 0, .int .i64 0, .int .i64 0, .int .i64 0, .slice none 0 0, .slice none 0 0] (n * 7)) 67)) := by
 obtain ⟨i0, hi, hz0, hz1, hz2⟩ := info_parts Tryz.infoTNode
 have := run_make (P := Tryz.prog) w 28 67 i0 _ Tryz.underlying28 hi hz0 kl kc n n (by omega) (Int.le_refl _) (by rw [hz2]; omega) (by omega)
 rw [hz1] at this
 simp only [Int.toNat_natCast] at this
 exact this
def TgOwn (w : World) (G : Nat) (f : Nat → Value) (j : Nat) (x : Tg) : Prop :=
 (f (j * 7) = .int .i64 x.ct.op ∧ f (j * 7 + 1) = .int .i64 x.ct.vr ∧ f (j * 7 + 2) = .int .i64 x.ct.a ∧ f (j * 7 + 3) = .int .i64 x.ct.b ∧ f (j * 7 + 4) = .int .i64 x.ct.bw ∧ f (j * 7 + 5) = .slice x.wa x.ct.ws.length x.wc ∧ f (j * 7 + 6) = .slice x.ka x.ct.ks.length x.kc) ∧ (∃ g, x.wa = some ⟨g, 0, none⟩ ∧ G < g ∧ Own w g x.ct.ws) ∧ ∃ g, x.ka = some ⟨g, 0, none⟩ ∧ G < g ∧ OwnI w g x.ct.ks
theorem TgOwn.later {w w' : World} {G j : Nat} {f : Nat → Value} {x : Tg} (h : TgOwn w G f j x) (hb : Below w.heap.size w w') : TgOwn w' G f j x := by
 obtain ⟨h0, ⟨g, h5, h6, h7⟩, g', h8, h9, h10⟩ := h
 exact ⟨h0, ⟨g, h5, h6, h7.later hb h7.lt⟩, g', h8, h9, h10.later hb h10.lt⟩
theorem TgOwn.put {w w' : World} {G j k : Nat} {f f' : Nat → Value} {x : Tg} (h : TgOwn w G f j x) (hw : ∀ g, G < g → w'.heap[g]? = w.heap[g]?) (hf : ∀ i, i < k * 7 → f' i = f i) (hk : j < k) : TgOwn w' G f' j x := by
 obtain ⟨⟨h0, h1, h2, h3, h4, h4', h4''⟩, ⟨g, h5, h6, h7⟩, g', h8, h9, h10⟩ := h
 refine ⟨⟨by rw [hf _ (by omega)]; exact h0, by rw [hf _ (by omega)]; exact h1, by rw [hf _ (by omega)]; exact h2, by rw [hf _ (by omega)]; exact h3, by rw [hf _ (by omega)]; exact h4, by rw [hf _ (by omega)]; exact h4', by rw [hf _ (by omega)]; exact h4''⟩, ⟨g, h5, h6, ?_⟩, g', h8, h9, ?_⟩
 ·unfold Own
  rw [hw g h6]; exact h7
 ·unfold OwnI
  rw [hw g' h9]; exact h10

theorem l3NoBits_any (bw : Int) (a : Option Addr) (n c : Nat) (w : World) (hn : n ≤ 1048576) :
  Calls Tryz.prog 76 #[.agg #[.int .i64 bw, .slice a n c]] w fun e w' => e = .returned (.bool (decide (bw = 0) && decide (n = 0))) ∧ Below w.heap.size w w' := by
 have hb0 : Below w.heap.size w (w.alloc (Obj.cells #[.int .i64 bw, .slice a n c] 65)) := blA _ _
 have B0 := kide hb0
 clear hb0
 by_cases h : bw = 0
 ·subst h
  go_enter Tryz.func76, Tryz.ntmps76
  go_wp2_with fail
  go_ret
  exact ⟨ret_bool (by rw [Bool.eq_iff_iff]; simp), B0.out⟩
 ·have e1 : (bw == 0) = false := by simp [h]
  have hR : (decide (bw = 0) && decide (n = 0)) = false := by simp [h]
  rw [hR]
  clear hR h
  go_enter Tryz.func76, Tryz.ntmps76
  go_wp2_with fail
  go_ret
  exact ⟨rfl, B0.out⟩
def OI (w : World) (B : Nat) (v : Value) (l : List Int) : Prop := w.ownsRow B 2 1 v l.length (i64s l).toList
theorem OI.move {w w' : World} {B : Nat} {v : Value} {l : List Int} (h : OI w B v l) (hk : ∀ b, v.ownBlock = some b → w'.heap[b]? = w.heap[b]?) : OI w' B v l := by
 refine ⟨h.1, ?_⟩
 rcases h.2 with h0 | ⟨g, cap, cur, rfl, hg, hh, r⟩
 ·exact .inl h0
 ·exact .inr ⟨g, cap, cur, rfl, hg, (hk g rfl).trans hh, r⟩
theorem OI.lt {w : World} {B : Nat} {v : Value} {l : List Int} (h : OI w B v l) {b : Nat} (hb : v.ownBlock = some b) : B ≤ b ∧ b < w.heap.size := by
 rcases h.2 with ⟨rfl, -⟩ | ⟨g, cap, cur, rfl, hg, hh, -⟩
 ·cases hb
 ·cases hb
  exact ⟨hg, lt_of_block hh⟩
theorem OI.later {w w' : World} {B : Nat} {v : Value} {l : List Int} (h : OI w B v l) (hb : Below w.heap.size w w') : OI w' B v l := h.move fun b hb' => hb.block b (h.lt hb').2
theorem OI.empty (w : World) (B : Nat) (h : B ≤ w.heap.size) : OI (w.alloc (.cells #[] 2)) B (.slice (some ⟨w.heap.size, 0, Option.none⟩) 0 0) [] := World.ownsRow_made w #[] 0 h (Nat.zero_le _) (by simp)
theorem wpList_appI {w : World} {ops : Array Oper} {rest : List Oper} {o : Oper} {a : Act} {Q : Exit → Act → World → Prop} (hgd : o.guard = none) (s x : Operand)
  (ho : o.op = .call { callee := .builtin .append, args := #[s, x], argTypes := #[60, 60] })
  (B : Nat) (v : Value) (l : List Int) (y : Int) (hs : a.eval s = v) (hown : OI w B v l) (gx c : Nat) (hx : a.eval x = .slice (some ⟨gx, 0, none⟩) 1 c)
  (h0 : w.cell? ⟨gx, 0, none⟩ = some (.int .i64 y)) (hl : l.length ≤ 1073741824) (hB : B ≤ w.heap.size)
  (h : ∀ g cap w', OI w' B (.slice (some ⟨g, 0, none⟩) (l.length + 1) cap) (l ++ [y]) → w.grownBy w' v.ownBlock → (v.ownBlock = some g ∨ g = w.heap.size) → wpList Tryz.prog ops Q rest (a.put o.dst (.slice (some ⟨g, 0, none⟩) (l.length + 1) cap)) w') : wpList Tryz.prog ops Q (o :: rest) a w := by
 obtain ⟨i0, hi, hz0, hz1, hz2⟩ := info_parts Tryz.infoI64
 refine wpList_append_lies w hgd s x 60 ho B 2 i0 _ 1 8 Tryz.underlying60 hi hz0 hz1 hz2 rfl (by decide) v l.length (i64s l).toList hs hown ⟨gx, 0, none⟩ 1 c [.int .i64 y] hx rfl ?_ ?_ (by decide) ?_ ?_ hB _ rfl ?_
 ·intro j u hj
  rw [Addr.add_lit]
  match j, hj with
  | 0, hj => simp at hj; subst hj; exact h0
  | j + 1, hj => simp at hj
 ·intro u hu
  simp at hu
  subst hu
  rfl
 ·unfold maxLen; omega
 ·omega
 ·intro g cap w' h1 h2 h3 _
  refine h g cap w' ?_ h2 h3
  unfold OI
  rw [List.length_append]
  simpa [i64s] using h1

def Bb (w : World) (o1 o2 : Obj) (wk : World) : Prop := Below (w.heap.size + 2) ((w.alloc o1).alloc o2) wk
theorem Bb.start (w : World) (o1 o2 : Obj) : Bb w o1 o2 ((w.alloc o1).alloc o2) := Below.refl _ _
theorem Bb.size {w wk : World} {o1 o2 : Obj} (h : Bb w o1 o2 wk) : w.heap.size + 2 ≤ wk.heap.size := by have := Below.size h; simpa using this
theorem Bb.next {w wk w1 : World} {o1 o2 : Obj} (h : Bb w o1 o2 wk) (hb : Below wk.heap.size wk w1) : Bb w o1 o2 w1 := Below.trans h (hb.mono h.size)
theorem Bb.below {w wk : World} {o1 o2 : Obj} (h : Bb w o1 o2 wk) : Below w.heap.size w wk := Below.trans (Below.alloc (Below.alloc (Below.refl _ _) (Nat.le_refl _) _) (by simp) _) (Below.mono h (by omega))
theorem Bb.one {w wk : World} {cs : Array Value} {t : TypeId} {o2 : Obj} (h : Bb w (.cells cs t) o2 wk) (i : Nat) : wk.cell? ⟨w.heap.size, i, none⟩ = cs[i]? := by
 rw [Below.cell h (by simp)]; simp [go_sem]
theorem Bb.two {w wk : World} {cs : Array Value} {t : TypeId} {o1 : Obj} (h : Bb w o1 (.cells cs t) wk) (i : Nat) : wk.cell? ⟨w.heap.size + 1, i, none⟩ = cs[i]? := by
 rw [Below.cell h (by simp)]; simp [go_sem]
set_option maxHeartbeats 1000000 in
set_option maxRecDepth 100000 in
theorem l3Same_any (W : Int) (a : Option Addr) (c : Nat) (xs : List Nat) (V : Int) (b : Option Addr) (d : Nat) (ys : List Nat) (w : World) (hr : Rd w a xs) (hs : Rd w b ys) :
  Calls Tryz.prog 77 #[.agg #[.int .i64 W, .slice a xs.length c], .agg #[.int .i64 V, .slice b ys.length d]] w fun e w' => e = .returned (.bool (decide (W = V) && decide (xs = ys))) ∧ Below w.heap.size w w' := by
 have s0 := Bb.start w (.cells #[.int .i64 W, .slice a xs.length c] 65) (.cells #[.int .i64 V, .slice b ys.length d] 65)
 have HRA := kide (fun u (hu : Below w.heap.size w u) => hr.later hu)
 have HRB := kide (fun u (hu : Below w.heap.size w u) => hs.later hu)
 have hl1 := hr.1
 have hl2 := hs.1
 clear hr hs
 by_cases hWV : W = V
 ·by_cases hlen : ys.length = xs.length
  ·subst hWV
   have hR : (decide (W = W) && decide (xs = ys)) = decide (xs = ys) := by simp
   rw [hR]
   generalize hZ : decide (xs = ys) = Z
   have HZ := kide hZ
   have HLE := kide hlen
   rw [hlen] at s0
   simp only [hlen]
   have h1 : (W != W) = false := by simp
   have h2 : ((xs.length : Int) != (xs.length : Int)) = false := by simp
   clear hZ hlen hR hl2
   go_enter Tryz.func77, Tryz.ntmps77
   go_wp2_with fail
   clear h1 h2
   go_loopw [5] (fun i wr => ∃ k : Nat, k ≤ xs.length ∧ i = .int .i64 k ∧ (∀ j, j < k → xs.getD j 0 = ys.getD j 0) ∧ Bb w (.cells #[.int .i64 W, .slice a xs.length c] 65) (.cells #[.int .i64 W, .slice b xs.length d] 65) wr) (fun i _ => xs.length - (intOf i).toNat)
   case atStart => exact ⟨0, Nat.zero_le _, rfl, fun j h => by omega, s0⟩
   case round =>
    obtain ⟨k, hk, rfl, heq, s3⟩ := hrel
    have g1 := s3.one 1
    have f1 := s3.two 1
    simp at g1 f1
    by_cases hjx : k < xs.length
    ·have hji : (k : Int) < (xs.length : Int) := by omega
     obtain ⟨-, -, hn | ⟨g, o, rfl, hc⟩⟩ := HRA.out wr s3.below
     ·subst hn; simp at hjx
     obtain ⟨-, -, hn | ⟨g', o', rfl, hc'⟩⟩ := HRB.out wr s3.below
     ·have := HLE.out; subst hn; simp at this; omega
     have hx1 := hc k hjx
     have hy1 := hc' k (by have := HLE.out; omega)
     obtain ⟨x, hx⟩ : ∃ x, xs.getD k 0 = x := ⟨_, rfl⟩
     obtain ⟨y, hy⟩ : ∃ y, ys.getD k 0 = y := ⟨_, rfl⟩
     rw [hx] at hx1
     rw [hy] at hy1
     have HX := kide hx
     have HY := kide hy
     have HEQ := kide heq
     clear hc hc' hx hy heq s0
     by_cases h1 : x = y
     ·subst h1
      have hne : ((x : Int) != (x : Int)) = false := by simp
      go_wp2_with fail
      go_quiet (fail)
      go_wp2_with fail
      go_roundw
      case rel =>
       refine ⟨k + 1, by omega, by go_num, fun i h2 => ?_, s3.next (below_drewN (Below.refl _ _) _)⟩
       by_cases hij : i = k
       ·subst hij
        rw [HX.out, HY.out]
       ·exact HEQ.out i (by omega)
      case measure => first | (simp [intOf]; done) | (simp [intOf]; omega)
     ·have hne : ((x : Int) != (y : Int)) = true := by simp; omega
      have HF : Hid (Z = false) := by
       show _ = _
       rw [← HZ.out]
       simp only [decide_eq_false_iff_not]
       intro he
       apply h1
       rw [← HX.out, ← HY.out, he]
      clear h1
      go_wp2_with fail
      go_quiet (fail)
      go_wp2_with fail
      go_ret
      exact ⟨ret_bool HF.out.symm, s3.below.trans (below_drewN (Below.refl _ _) _)⟩
    ·have HT : Hid (Z = true) := by
      show _ = _
      rw [← HZ.out]
      simp only [decide_eq_true_eq]
      refine List.ext_getElem HLE.out.symm (fun j h1 h2 => ?_)
      have := heq j (by omega)
      simpa [List.getD, h1, h2] using this
     clear heq
     go_wp2_with fail
     go_ret
     exact ⟨ret_bool HT.out.symm, s3.below⟩
  ·have hR : (decide (W = V) && decide (xs = ys)) = false := by
    simp only [Bool.and_eq_false_iff, decide_eq_false_iff_not]
    exact .inr (fun h => hlen (by rw [h]))
   rw [hR]
   have h1 : (W != V) = false := by simp [hWV]
   have h2 : ((xs.length : Int) != (ys.length : Int)) = true := by simp; omega
   clear hR hWV hlen
   go_enter Tryz.func77, Tryz.ntmps77
   go_wp2_with fail
   go_ret
   exact ⟨rfl, s0.below⟩
 ·have hR : (decide (W = V) && decide (xs = ys)) = false := by simp [hWV]
  rw [hR]
  have h1 : (W != V) = true := by simp [hWV]
  clear hR hWV
  go_enter Tryz.func77, Tryz.ntmps77
  go_wp2_with fail
  go_ret
  exact ⟨rfl, s0.below⟩

theorem grow_setT {w wr : World} {g : Nat} (h : w.grownBy wr (some g)) (i : Nat) (v : Value) : w.grownBy (wr.setCell ⟨g, i, none⟩ v) (some g) :=
 ⟨h.os, h.tape, h.output, by simpa using h.size, fun k hk hne => by rw [heap_setCell_other wr ⟨g, i, none⟩ k v (fun e => hne (by simp [e]))]; exact h.block k hk hne⟩
end Go.Proofs.YtnpjgoklpaigjaaGreatDoor
