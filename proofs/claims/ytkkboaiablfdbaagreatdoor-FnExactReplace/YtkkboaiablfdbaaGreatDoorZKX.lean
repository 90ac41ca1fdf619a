/- Several texts in one. -/
import Derived.Test.YtkkboaiablfdbaaGreatDoorZBA
import Derived.WalkSpells
import Derived.Deep.QuietTactic
import Derived.BigQuiet
import Derived.Outline
import Derived.WalkSmall
import Derived.Deep.OwnRows
import Derived.Test.YtkkboaiablfdbaaGreatDoorZBA
import Derived.Deep.RegionHeld3
import Derived.Test.YtkkboaiablfdbaaGreatDoorZBA
import Derived.WalkKit
import Derived.Deep.AppendLies
import Derived.Maps.Own
import Derived.Maps.OwnSet
import Derived.Handy

/- Contracts of the laws' own small functions on rows of declared variables: how long, copied, compared. -/
namespace Go.Proofs.YtkkboaiablfdbaaGreatDoor
set_option linter.unusedVariables false
set_option linter.unusedSimpArgs false
open Go.RowKit

def DcAt (w : World) (b o : Nat) (d : Dc) : Prop := w.cell? ⟨b, o, none⟩ = some (.string d.1) ∧ w.cell? ⟨b, o + 1, none⟩ = some (.int .i64 d.2)

theorem DcAt.later {w w' : World} {b o : Nat} {d : Dc} (h : DcAt w b o d) (hb : Below w.heap.size w w') : DcAt w' b o d :=
  ⟨by rw [kcell hb _ _ (block_lt_of_cell h.1)]; exact h.1, by rw [kcell hb _ _ (block_lt_of_cell h.2)]; exact h.2⟩

/-- A slice whose variables are ds, wherever it lies. -/
def RdD (w : World) (a : Option Addr) (ds : List Dc) : Prop :=
  ds.length ≤ 1048576 ∧ (∀ d ∈ ds, in64 d.2 ∧ d.1.size ≤ 9223372036854775807) ∧ (ds = [] ∨ ∃ b o, a = some ⟨b, o, none⟩ ∧ ∀ i d, ds[i]? = some d → DcAt w b (o + i * 2) d)

theorem RdD.later {w w' : World} {a : Option Addr} {ds : List Dc} (h : RdD w a ds) (hb : Below w.heap.size w w') : RdD w' a ds := by
  refine ⟨h.1, h.2.1, ?_⟩
  rcases h.2.2 with h | ⟨b, o, rfl, hc⟩
  · exact .inl h
  · exact .inr ⟨b, o, rfl, fun i n hi => (hc i n hi).later hb⟩

theorem szDecl_any (s : ByteArray) (x : Int) (L : Int) (w : World) (hL : 0 ≤ L) (hL2 : L ≤ 1048576) (hs : s.size ≤ 9223372036854775807) :
    Calls Tryz.prog 15 #[.agg #[.string s, .int .i64 x], .int .i64 L] w fun e w' => e = .returned (.int .i64 (if (s.size : Int) ≤ L then L - s.size else -1)) ∧ Below w.heap.size w w' := by
  by_cases h : (s.size : Int) ≤ L
  · rw [if_pos h]
    go_enter Tryz.func15, Tryz.ntmps15
    go_wp2_with fail
    go_ret
    exact ⟨rfl, (Below.refl _ _).alloc (Nat.le_refl _) _⟩
  · rw [if_neg h]
    go_enter Tryz.func15, Tryz.ntmps15
    go_wp2_with fail
    go_ret
    exact ⟨rfl, (Below.refl _ _).alloc (Nat.le_refl _) _⟩

/-- What is left of L behind the names of some variables; -1: nothing. -/
def szD : List Dc → Int → Int
  | [], L => L
  | d :: t, L => if (d.1.size : Int) ≤ L then szD t (L - d.1.size) else -1

theorem szD_range (ds : List Dc) (L : Int) (hL : 0 ≤ L) : szD ds L = -1 ∨ 0 ≤ szD ds L ∧ szD ds L ≤ L ∧ ∀ d ∈ ds, (d.1.size : Int) ≤ L := by
  induction ds generalizing L with
  | nil => right; simp [szD]; exact hL
  | cons h t ih =>
    rw [szD]
    split
    · rename_i hc
      rcases ih (L - h.1.size) (by omega) with e | ⟨e1, e2, e3⟩
      · left; exact e
      · right
        refine ⟨e1, by omega, fun x hx => ?_⟩
        rcases List.mem_cons.1 hx with rfl | hx
        · exact hc
        · have := e3 x hx; omega
    · left; rfl

theorem szDeclS_in (a : Option Addr) (c : Nat) (ds : List Dc) (L : Int) (w : World) (hr : RdD w a ds) (hL : 0 ≤ L) (hL2 : L ≤ 1048576) (h : (ds.length : Int) ≤ L) :
    Calls Tryz.prog 4 #[.slice a ds.length c, .int .i64 L] w fun e w' => e = .returned (.int .i64 (szD ds (L - ds.length))) ∧ Below w.heap.size w w' := by
  have hlen := hr.1
  generalize hZ : szD ds (L - ds.length) = Z
  have HZ : Hid (szD ds (L - ds.length) = Z) := hZ
  clear hZ
  go_enter Tryz.func4, Tryz.ntmps4
  go_wp2_with fail
  go_loopw [1, 5] (fun l i wr => ∃ (k : Nat) (Q : Int), k ≤ ds.length ∧ i = .int .i64 k ∧ l = .int .i64 Q ∧ 0 ≤ Q ∧ Q ≤ 1048576 ∧ szD (ds.drop k) Q = Z ∧ Below w.heap.size w wr) (fun _ i _ => ds.length - (intOf i).toNat)
  case atStart => exact ⟨0, _, Nat.zero_le _, rfl, rfl, by omega, by omega, by rw [List.drop_zero]; exact HZ.out, Below.refl _ _⟩
  case round =>
    obtain ⟨k, Q, hk, rfl, rfl, hQ0, hQ1, hq, hbel⟩ := hrel
    by_cases hlt : k < ds.length
    · obtain ⟨-, hsz, h | ⟨b, o, rfl, hc⟩⟩ := hr
      · subst h; simp at hlt
      obtain ⟨⟨t, x⟩, hh⟩ : ∃ x, ds[k] = x := ⟨_, rfl⟩
      have gx : ds[k]? = some (t, x) := by rw [List.getElem?_eq_getElem hlt, hh]
      obtain ⟨g0, g1⟩ := (hc k _ gx).later hbel
      simp only [] at g0 g1
      have hts := (hsz _ (List.mem_of_getElem? gx)).2
      simp only [] at hts
      rw [List.drop_eq_getElem_cons hlt, hh, szD] at hq
      simp only [] at hq
      have HQ : Hid _ := hq
      have HB : Hid _ := hbel
      clear hc hh gx hbel hq hsz
      by_cases hyes : (t.size : Int) ≤ Q
      · go_wp2_with (go_at_call 15; refine (szDecl_any _ _ _ _ hQ0 hQ1 hts).mono ?_; rw [if_pos hyes]; rintro e w1 ⟨rfl, hb1⟩)
        go_roundw
        case rel =>
          have h := HQ.out
          rw [if_pos hyes] at h
          exact ⟨k + 1, _, by omega, by go_num, rfl, by omega, by omega, h, HB.out.trans (hb1.mono HB.out.size)⟩
        case measure => simp [intOf]; omega
      · go_wp2_with (go_at_call 15; refine (szDecl_any _ _ _ _ hQ0 hQ1 hts).mono ?_; rw [if_neg hyes]; rintro e w1 ⟨rfl, hb1⟩)
        go_ret
        have h := HQ.out
        rw [if_neg (by omega)] at h
        exact ⟨ret_int h, HB.out.trans (hb1.mono HB.out.size)⟩
    · have e : k = ds.length := by omega
      rw [e, List.drop_length, szD] at hq
      have HQ : Hid _ := hq
      clear hq
      go_wp2_with fail
      go_ret
      exact ⟨ret_int HQ.out, hbel⟩

theorem szDeclS_out (a : Option Addr) (n c : Nat) (L : Int) (w : World) (hL : 0 ≤ L) (hL2 : L ≤ 1048576) (hn : n ≤ 9223372036854775807) (h : ¬ (n : Int) ≤ L) :
    Calls Tryz.prog 4 #[.slice a n c, .int .i64 L] w fun e w' => e = .returned (.int .i64 (-1)) ∧ w' = w := by
  go_enter Tryz.func4, Tryz.ntmps4
  go_wp2_with fail
  go_ret
  exact ⟨rfl, rfl⟩

theorem eqDecl_same (s : ByteArray) (x : Int) (w : World) :
    Calls Tryz.prog 31 #[.agg #[.string s, .int .i64 x], .agg #[.string s, .int .i64 x]] w fun e w' => e = .returned (.bool true) ∧ Below w.heap.size w w' := by
  have h2 : Below w.heap.size w ((w.alloc (Obj.cells #[Value.string s, Value.int .i64 x] 47)).alloc (Obj.cells #[Value.string s, Value.int .i64 x] 47)) := ((Below.refl _ _).alloc (Nat.le_refl _) _).alloc (by simp) _
  have hx : (x != x) = false := by simp
  go_enter Tryz.func31, Tryz.ntmps31
  go_wp2_with fail
  go_ret
  exact ⟨rfl, h2⟩

theorem eqDeclS_same (a b : Option Addr) (c d : Nat) (ds : List Dc) (w : World) (hr : RdD w a ds) (hs : RdD w b ds) :
    Calls Tryz.prog 11 #[.slice a ds.length c, .slice b ds.length d] w fun e w' => e = .returned (.bool true) ∧ Below w.heap.size w w' := by
  have hl1 := hr.1
  have hne : ((ds.length : Int) != (ds.length : Int)) = false := by simp
  go_enter Tryz.func11, Tryz.ntmps11
  go_wp2_with fail
  clear hne
  go_loopw [5] (fun i wr => ∃ k : Nat, k ≤ ds.length ∧ i = .int .i64 k ∧ Below w.heap.size w wr) (fun i _ => ds.length - (intOf i).toNat)
  case atStart => exact ⟨0, Nat.zero_le _, rfl, Below.refl _ _⟩
  case round =>
    obtain ⟨k, hk, rfl, hbel⟩ := hrel
    have HB := kide hbel
    by_cases hlt : k < ds.length
    · obtain ⟨-, -, h | ⟨b1, o1, rfl, hc1⟩⟩ := hr
      · subst h; simp at hlt
      obtain ⟨-, -, h | ⟨b2, o2, rfl, hc2⟩⟩ := hs
      · subst h; simp at hlt
      obtain ⟨⟨t, x⟩, hh⟩ : ∃ x, ds[k] = x := ⟨_, rfl⟩
      have gx : ds[k]? = some (t, x) := by rw [List.getElem?_eq_getElem hlt, hh]
      obtain ⟨p0, p1⟩ := (hc1 k _ gx).later hbel
      obtain ⟨q0, q1⟩ := (hc2 k _ gx).later hbel
      simp only [] at p0 p1 q0 q1
      have l1 := block_lt_of_cell p0
      have l2 := block_lt_of_cell q0
      have i0 : (k : Int) < (ds.length : Int) := by omega
      clear hc1 hc2 hbel hh gx
      go_wp2_with fail
      go_region_held3 (fun u => u.cell? ⟨b1, o1 + k * 2, none⟩ = some (Value.string t) ∧ u.cell? ⟨b1, o1 + k * 2 + 1, none⟩ = some (Value.int .i64 x) ∧ u.cell? ⟨b2, o2 + k * 2, none⟩ = some (Value.string t) ∧ u.cell? ⟨b2, o2 + k * 2 + 1, none⟩ = some (Value.int .i64 x)) (simp [*])
        ((go_at_call 31; refine Calls.mono (eqDecl_same _ _ _) ?_; rintro e w1 ⟨rfl, hb1⟩; replace hb1 := kundrew hb1; have k0 := kcell hb1 b1 (o1 + k * 2) l1; have k1 := kcell hb1 b1 (o1 + k * 2 + 1) l1; have k2 := kcell hb1 b2 (o2 + k * 2) l2; have k3 := kcell hb1 b2 (o2 + k * 2 + 1) l2))
      go_wp2_with fail
      go_roundw
      case rel => exact ⟨k + 1, by omega, by go_num, HB.out.trans (hb1.mono HB.out.size)⟩
      case measure => simp [intOf]; omega
    · clear hbel
      go_wp2_with fail
      go_ret
      exact ⟨rfl, HB.out⟩

theorem Tryz.infoDecl : (Tryz.prog.info? 47).map (fun i => (i.zero, i.size, i.bytes)) = some (some (.agg #[.string .empty, .int .i64 0]), 2, 24) := by kernel_rfl

theorem make_decls (n : Nat) (hn : n ≤ 1048576) (kl kc : IntKind) (w : World) :
    (Instr.makeSlice 33 (.int kl (n : Int)) (.int kc (n : Int))).run Tryz.prog w = .ok (.slice (some ⟨w.heap.size, 0, none⟩) n n) (w.alloc (.cells (madeCells #[.string .empty, .int .i64 0] (n * 2)) 47)) := by
  obtain ⟨i0, hi, hz0, hz1, hz2⟩ := info_parts Tryz.infoDecl
  have := run_make (P := Tryz.prog) w 33 47 i0 _ Tryz.underlying33 hi hz0 kl kc n n (by omega) (Int.le_refl _) (by rw [hz2]; omega) (by omega)
  rw [hz1] at this
  simp only [Int.toNat_natCast] at this
  exact this

theorem toDecl_any (s : ByteArray) (x : Int) (w : World) :
    Calls Tryz.prog 22 #[.agg #[.string s, .int .i64 x]] w fun e w' => e = .returned (.agg #[.string s, .int .i64 x]) ∧ Below w.heap.size w w' := by
  go_enter Tryz.func22, Tryz.ntmps22
  go_wp2_with fail
  refine bodyPost_ret (v := .agg #[.string s, .int .i64 x]) (by simp [results, Tryz.results22, go_sem]) rfl ⟨rfl, ?_⟩
  exact (((Below.refl _ _).alloc (Nat.le_refl _) _).alloc (by simp) _).alloc (by simp; omega) _

theorem toDeclS_any (a : Option Addr) (c : Nat) (ds : List Dc) (w : World) (hr : RdD w a ds) :
    Calls Tryz.prog 7 #[.slice a ds.length c] w fun e w' => e = .returned (.slice (some ⟨w.heap.size, 0, none⟩) ds.length ds.length) ∧ RdD w' (some ⟨w.heap.size, 0, none⟩) ds ∧ Below w.heap.size w w' := by
  have hlen := hr.1
  have hmk := make_decls ds.length hlen
  go_enter Tryz.func7, Tryz.ntmps7
  go_wp2_with fail
  have hrow := krow (heap_alloc_new w (.cells (madeCells #[.string .empty, .int .i64 0] (ds.length * 2)) 47))
  rw [size_madeCells] at hrow
  have hb0 : Below w.heap.size w (w.alloc (.cells (madeCells #[.string .empty, .int .i64 0] (ds.length * 2)) 47)) := (Below.refl _ _).alloc (Nat.le_refl _) _
  have hs0 : w.heap.size < (w.alloc (.cells (madeCells #[.string .empty, .int .i64 0] (ds.length * 2)) 47)).heap.size := by simp
  generalize (w.alloc (.cells (madeCells #[.string .empty, .int .i64 0] (ds.length * 2)) 47)) = w0 at *
  go_loopw [4] (fun i wr => ∃ (k : Nat) (f : Nat → Value), k ≤ ds.length ∧ i = .int .i64 k ∧ wr.rowIs w.heap.size 47 (ds.length * 2) f ∧ (∀ (j : Nat) (d : Dc), j < k → ds[j]? = some d → f (j * 2) = .string d.1 ∧ f (j * 2 + 1) = .int .i64 d.2) ∧ Below w.heap.size w wr ∧ w.heap.size < wr.heap.size) (fun i _ => ds.length - (intOf i).toNat)
  case atStart => exact ⟨0, _, Nat.zero_le _, rfl, hrow, fun j d h => by omega, hb0, hs0⟩
  case round =>
    obtain ⟨k, f, hk, rfl, hrw, hms, hbel, hsz⟩ := hrel
    clear hrow hb0 hs0
    by_cases hlt : k < ds.length
    · obtain ⟨-, -, h | ⟨b, o, rfl, hc⟩⟩ := hr
      · subst h; simp at hlt
      obtain ⟨⟨t, x⟩, hh⟩ : ∃ x, ds[k] = x := ⟨_, rfl⟩
      have gx : ds[k]? = some (t, x) := by rw [List.getElem?_eq_getElem hlt, hh]
      obtain ⟨p0, p1⟩ := (hc k _ gx).later hbel
      simp only [] at p0 p1
      have GX : Hid _ := gx
      have HMS : Hid _ := hms
      have HR : Hid _ := hrw
      have HB : Hid _ := hbel
      have i0 : (k : Int) < (ds.length : Int) := by omega
      clear gx hms hc hrw hbel hmk hh
      go_wp2_with fail
      refine (toDecl_any _ _ _).mono ?_
      rintro e w1 ⟨rfl, hb1⟩
      have hr1 := World.rowIs.of_block HR.out (hb1.block _ hsz)
      have q0 := hr1.cell (i := k * 2) (by omega)
      have q1 := hr1.cell (i := k * 2 + 1) (by omega)
      have r0 := hr1.frozen (k * 2)
      have r1 := hr1.frozen (k * 2 + 1)
      have HR1 : Hid _ := hr1
      clear hr1
      go_wp2_with fail
      go_roundw
      case rel =>
        refine ⟨k + 1, _, by omega, by go_num, World.rowIs.set (World.rowIs.set HR1.out (k * 2) (.string t)) (k * 2 + 1) (.int .i64 x), fun j d hj hd => ?_, ?_, ?_⟩
        · by_cases hjk : j = k
          · subst hjk
            rw [GX.out] at hd
            cases hd
            exact ⟨by simp, by simp⟩
          · obtain ⟨h0, h1⟩ := HMS.out j d (by omega) hd
            constructor
            · show (if _ then _ else _) = _
              rw [if_neg (by omega), if_neg (by omega)]; exact h0
            · show (if _ then _ else _) = _
              rw [if_neg (by omega), if_neg (by omega)]; exact h1
        · exact ((HB.out.trans (hb1.mono HB.out.size)).setCell (Nat.le_refl _) _).setCell (Nat.le_refl _) _
        · have := hb1.size
          simp; omega
      case measure => simp [intOf]; omega
    · have HS : Hid _ := hms
      have HR : Hid _ := hrw
      have HB : Hid _ := hbel
      clear hms hrw hbel hmk
      go_wp2_with fail
      go_ret
      refine ⟨rfl, ⟨hr.1, hr.2.1, .inr ⟨_, 0, rfl, fun i d hi => ?_⟩⟩, HB.out⟩
      have hil := (List.getElem?_eq_some_iff.1 hi).1
      obtain ⟨h0, h1⟩ := HS.out i d (by omega) hi
      refine ⟨?_, ?_⟩
      · rw [Nat.zero_add, ← h0]; exact World.rowIs.cell HR.out (by omega)
      · rw [Nat.zero_add, ← h1]; exact World.rowIs.cell HR.out (by omega)

end Go.Proofs.YtkkboaiablfdbaaGreatDoor

/- Contracts of the laws' own small functions on rows of whole numbers: how long, copied, compared. -/
namespace Go.Proofs.YtkkboaiablfdbaaGreatDoor
set_option linter.unusedVariables false
set_option linter.unusedSimpArgs false
open Go.RowKit

theorem Tryz.infoI64 : (Tryz.prog.info? 2).map (fun i => (i.zero, i.size, i.bytes)) = some (some (.int .i64 0), 1, 8) := by kernel_rfl


/-- A slice whose numbers are ks, wherever it lies. -/
def RdI (w : World) (a : Option Addr) (ks : List Int) : Prop :=
  ks.length ≤ 1048576 ∧ (∀ k ∈ ks, in64 k) ∧ (ks = [] ∨ ∃ b o, a = some ⟨b, o, none⟩ ∧ ∀ i, i < ks.length → w.cell? ⟨b, o + i, none⟩ = some (.int .i64 (ks.getD i 0)))

theorem RdI.later {w w' : World} {a : Option Addr} {ks : List Int} (h : RdI w a ks) (hb : Below w.heap.size w w') : RdI w' a ks := by
  obtain ⟨h1, h2, h3⟩ := h
  refine ⟨h1, h2, ?_⟩
  rcases h3 with h3 | ⟨b, o, rfl, hc⟩
  · exact .inl h3
  · refine .inr ⟨b, o, rfl, fun i hi => ?_⟩
    have := hc i hi
    rw [hb.cell (p := ⟨b, o + i, none⟩) (by exact block_lt_of_cell this)]
    exact this

def i64s (ks : List Int) : Array Value := (ks.map fun (k : Int) => Value.int .i64 k).toArray

theorem i64s_size (ks : List Int) : (i64s ks).size = ks.length := by simp [i64s]
theorem i64s_get (ks : List Int) (i : Nat) (h : i < ks.length) : (i64s ks)[i]? = some (.int .i64 (ks.getD i 0)) := by simp [i64s, List.getD, h]
theorem i64s_set (ks : List Int) (i : Nat) (k : Int) : (i64s ks).setIfInBounds i (.int .i64 k) = i64s (ks.set i k) := by
  simp [i64s, List.setIfInBounds_toArray, List.map_set]
theorem i64s_made (n : Nat) : madeCells #[Value.int .i64 0] n = i64s (List.replicate n 0) := by
  apply Array.toList_inj.1
  rw [toList_madeCells_one]
  simp [i64s]

/-- The block g holds just the numbers ks, and may be written. -/
def OwnI (w : World) (g : Nat) (ks : List Int) : Prop := w.heap[g]? = some (.cells (i64s ks) 2 (0, 0))

theorem OwnI.cell {w : World} {g : Nat} {ks : List Int} (h : OwnI w g ks) {i : Nat} (hi : i < ks.length) : w.cell? ⟨g, i, none⟩ = some (.int .i64 (ks.getD i 0)) := by
  rw [cell_of_row w g i _ _ _ h, i64s_get _ _ hi]
theorem OwnI.free {w : World} {g : Nat} {ks : List Int} (h : OwnI w g ks) (i : Nat) : w.frozen? ⟨g, i, none⟩ = false := frozen_of_row w g i _ _ h
theorem OwnI.lt {w : World} {g : Nat} {ks : List Int} (h : OwnI w g ks) : g < w.heap.size := lt_of_block h
theorem OwnI.put {w : World} {g : Nat} {ks : List Int} (h : OwnI w g ks) (i : Nat) (k : Int) : OwnI (w.setCell ⟨g, i, none⟩ (.int .i64 k)) g (ks.set i k) := by
  unfold OwnI
  rw [heap_setCell_same w g i _ _ _ h, i64s_set]
theorem OwnI.rd {w : World} {g : Nat} {ks : List Int} (h : OwnI w g ks) (hl : ks.length ≤ 1048576) (hx : ∀ k ∈ ks, in64 k) : RdI w (some ⟨g, 0, none⟩) ks :=
  ⟨hl, hx, .inr ⟨g, 0, rfl, fun i hi => by rw [Nat.zero_add]; exact h.cell hi⟩⟩
theorem OwnI.later {w w' : World} {g B : Nat} {ks : List Int} (h : OwnI w g ks) (hb : Below B w w') (hg : g < B) : OwnI w' g ks := by
  unfold OwnI
  rw [hb.block g hg]; exact h
theorem OwnI.other {w : World} {g : Nat} {ks : List Int} (h : OwnI w g ks) {a : Addr} (ha : g ≠ a.block) (v : Value) : OwnI (w.setCell a v) g ks := by
  unfold OwnI
  rw [heap_setCell_other w a g v ha]; exact h

theorem szInt64S_any (a : Option Addr) (n c : Nat) (L : Int) (w : World) (hL : 0 ≤ L) (hL2 : L ≤ 1048576) (hn : n ≤ 9223372036854775807) :
    Calls Tryz.prog 51 #[.slice a n c, .int .i64 L] w fun e w' => e = .returned (.int .i64 (if (n : Int) ≤ L then L - n else -1)) ∧ w' = w := by
  by_cases h : (n : Int) ≤ L
  · rw [if_pos h]
    go_enter Tryz.func51, Tryz.ntmps51
    go_wp2
    go_ret
    exact ⟨rfl, rfl⟩
  · rw [if_neg h]
    go_enter Tryz.func51, Tryz.ntmps51
    go_wp2
    go_ret
    exact ⟨rfl, rfl⟩

theorem take_setI (xs : List Int) (k : Nat) (h : k < xs.length) :
    (xs.take k ++ List.replicate (xs.length - k) 0).set k (xs.getD k 0) = xs.take (k + 1) ++ List.replicate (xs.length - (k + 1)) 0 := by
  apply List.ext_getElem?
  intro i
  simp only [List.getElem?_set, List.getElem?_append, List.getElem?_take, List.length_take, List.getElem?_replicate, List.length_append, List.length_replicate, List.getD]
  split <;> split <;> split <;> (try split) <;> (try split) <;> (try omega) <;> simp_all <;> (try omega)

theorem toInt64S_any (a : Option Addr) (c : Nat) (xs : List Int) (w : World) (hr : RdI w a xs) :
    Calls Tryz.prog 57 #[.slice a xs.length c] w fun e w' => e = .returned (.slice (some ⟨w.heap.size, 0, none⟩) xs.length xs.length) ∧ OwnI w' w.heap.size xs ∧ Below w.heap.size w w' := by
  have hlen := hr.1
  have hmk := fun kl kc w => run_make_row' (P := Tryz.prog) 48 2 (.int .i64 0) 8 Tryz.underlying48 Tryz.infoI64 rfl kl kc xs.length (by omega) (by omega) w
  go_enter Tryz.func57, Tryz.ntmps57
  go_wp2
  go_loopw [4] (fun i wr => ∃ k : Nat, k ≤ xs.length ∧ i = .int .i64 k ∧ OwnI wr w.heap.size (xs.take k ++ List.replicate (xs.length - k) 0) ∧ Below w.heap.size w wr) (fun i _ => xs.length - (intOf i).toNat)
  case atStart =>
    refine ⟨0, Nat.zero_le _, rfl, ?_, (Below.refl _ _).alloc (Nat.le_refl _) _⟩
    unfold OwnI
    rw [heap_alloc_new, i64s_made]
    rfl
  case round =>
    obtain ⟨k, hk, rfl, hown, hbel⟩ := hrel
    by_cases hlt : k < xs.length
    · obtain ⟨-, -, h | ⟨b, o, rfl, hc⟩⟩ := hr
      · subst h; simp at hlt
      have hcell := hc k hlt
      have hb : b < w.heap.size := block_lt_of_cell hcell
      have hcw : wr.cell? ⟨b, o + k, none⟩ = some (.int .i64 (xs.getD k 0)) := by rw [hbel.cell (by exact hb)]; exact hcell
      have hcg := hown.cell (i := k) (by simp; omega)
      have hfg := hown.free k
      have HO := show Hid _ from hown.put k (xs.getD k 0)
      have HB := show Hid _ from hbel
      generalize (xs.take k ++ List.replicate (xs.length - k) 0).getD k 0 = z at hcg
      have HT := show Hid _ from take_setI xs k hlt
      clear hc hcell hown hbel hmk
      generalize xs.getD k 0 = y at *
      go_wp2
      go_roundw
      case rel =>
        have h := HO.out
        rw [HT.out] at h
        exact ⟨k + 1, by omega, by go_num, h, HB.out.setCell (Nat.le_refl _) _⟩
      case measure => simp [intOf]; omega
    · clear hmk
      go_wp2
      go_ret
      refine ⟨rfl, ?_, hbel⟩
      have e : k = xs.length := by omega
      rw [e] at hown
      simpa using hown

theorem eqInt64S_any (a b : Option Addr) (c d : Nat) (xs ys : List Int) (w : World) (hr : RdI w a xs) (hs : RdI w b ys) :
    Calls Tryz.prog 66 #[.slice a xs.length c, .slice b ys.length d] w fun e w' => e = .returned (.bool (decide (xs = ys))) ∧ Below w.heap.size w w' := by
  have hl1 := hr.1
  have hl2 := hs.1
  by_cases hl : xs.length = ys.length
  · have hne : ((xs.length : Int) != (ys.length : Int)) = false := by simp [hl]
    have HL : Hid (xs.length = ys.length) := hl
    clear hl
    go_enter Tryz.func66, Tryz.ntmps66
    go_wp2
    clear hne
    go_loopw [5] (fun i wr => ∃ k : Nat, k ≤ xs.length ∧ i = .int .i64 k ∧ (∀ j, j < k → xs.getD j 0 = ys.getD j 0) ∧ Below w.heap.size w wr) (fun i _ => xs.length - (intOf i).toNat)
    case atStart => exact ⟨0, Nat.zero_le _, rfl, fun j h => by omega, Below.refl _ _⟩
    case round =>
      obtain ⟨k, hk, rfl, hz, hbel⟩ := hrel
      have HZ := show Hid _ from hz
      have HB := show Hid _ from hbel
      by_cases hlt : k < xs.length
      · obtain ⟨-, -, h | ⟨b1, o1, rfl, hc1⟩⟩ := hr
        · subst h; simp at hlt
        have hlt2 : k < ys.length := by have := HL.out; omega
        obtain ⟨-, -, h | ⟨b2, o2, rfl, hc2⟩⟩ := hs
        · subst h; simp at hlt2
        have e1 := hc1 k hlt
        have e2 := hc2 k hlt2
        have f1 : wr.cell? ⟨b1, o1 + k, none⟩ = some (.int .i64 (xs.getD k 0)) := by rw [hbel.cell (by exact block_lt_of_cell e1)]; exact e1
        have f2 : wr.cell? ⟨b2, o2 + k, none⟩ = some (.int .i64 (ys.getD k 0)) := by rw [hbel.cell (by exact block_lt_of_cell e2)]; exact e2
        have hxe : decide (xs = ys) = false ∨ xs.getD k 0 = ys.getD k 0 := by
          by_cases h : xs = ys
          · exact .inr (by rw [h])
          · exact .inl (by simp [h])
        clear hc1 hc2 hz hbel e1 e2
        have i0 : (k : Int) < (xs.length : Int) := by omega
        have i1 : (k : Int) < (ys.length : Int) := by omega
        generalize hx1 : xs.getD k 0 = x1 at *
        generalize hy1 : ys.getD k 0 = y1 at *
        have HX : Hid (xs.getD k 0 = x1) := hx1
        have HY : Hid (ys.getD k 0 = y1) := hy1
        clear hx1 hy1
        by_cases hxy : x1 = y1
        · have hb : (x1 != y1) = false := by simp [hxy]
          have HE : Hid (x1 = y1) := hxy
          clear hxe hxy
          go_wp2_with fail
          go_quiet (fail)
          go_wp2
          go_roundw
          case rel =>
            refine ⟨k + 1, by omega, by go_num, fun j hj => ?_, below_drewN HB.out _⟩
            by_cases hj' : j = k
            · rw [hj', HX.out, HY.out]; exact HE.out
            · exact HZ.out j (by omega)
          case measure => simp [intOf]; omega
        · have hb : (x1 != y1) = true := by simpa using hxy
          have HE : Hid (decide (xs = ys) = false) := by
            rcases hxe with h | h
            · exact h
            · exact absurd h hxy
          clear hxe hxy
          go_wp2_with fail
          go_quiet (fail)
          go_wp2
          go_ret
          exact ⟨ret_bool HE.out.symm, below_drewN HB.out _⟩
      · clear hz hbel
        go_wp2
        go_ret
        refine ⟨ret_bool ?_, HB.out⟩
        have he : xs = ys := by
          refine List.ext_getElem HL.out fun j h1 h2 => ?_
          have := HZ.out j (by omega)
          simpa [List.getD, h1, h2] using this
        simp [he]
  · have hne : ((xs.length : Int) != (ys.length : Int)) = true := by simp; omega
    have hx : xs ≠ ys := fun h => hl (by rw [h])
    go_enter Tryz.func66, Tryz.ntmps66
    go_wp2
    go_ret
    exact ⟨ret_bool (by simp [hx]), Below.refl _ _⟩

end Go.Proofs.YtkkboaiablfdbaaGreatDoor

/- Contracts of the laws' own small functions on rows of term nodes: how long. -/
namespace Go.Proofs.YtkkboaiablfdbaaGreatDoor
set_option linter.unusedVariables false
set_option linter.unusedSimpArgs false
open Go.RowKit

/-- A node of a term as it lies. -/
structure Th where
  op : Int
  vr : Int
  a : Int
  b : Int
  bw : Int
  wa : Option Addr
  wn : Nat
  wc : Nat
  ka : Option Addr
  kn : Nat
  kc : Nat

def Th.val (h : Th) : Value := .agg #[.int .i64 h.op, .int .i64 h.vr, .int .i64 h.a, .int .i64 h.b, .int .i64 h.bw, .slice h.wa h.wn h.wc, .slice h.ka h.kn h.kc]

def ThAt (w : World) (b o : Nat) (h : Th) : Prop :=
  w.cell? ⟨b, o, none⟩ = some (.int .i64 h.op) ∧ w.cell? ⟨b, o + 1, none⟩ = some (.int .i64 h.vr) ∧ w.cell? ⟨b, o + 2, none⟩ = some (.int .i64 h.a) ∧ w.cell? ⟨b, o + 3, none⟩ = some (.int .i64 h.b) ∧ w.cell? ⟨b, o + 4, none⟩ = some (.int .i64 h.bw) ∧ w.cell? ⟨b, o + 5, none⟩ = some (.slice h.wa h.wn h.wc) ∧ w.cell? ⟨b, o + 6, none⟩ = some (.slice h.ka h.kn h.kc)

theorem ThAt.later {w w' : World} {b o : Nat} {h : Th} (k : ThAt w b o h) (hb : Below w.heap.size w w') : ThAt w' b o h := by
  obtain ⟨f0, f1, f2, f3, f4, f5, f6⟩ := k
  have l := block_lt_of_cell f0
  exact ⟨by rw [kcell hb _ _ l]; exact f0, by rw [kcell hb _ _ l]; exact f1, by rw [kcell hb _ _ l]; exact f2, by rw [kcell hb _ _ l]; exact f3, by rw [kcell hb _ _ l]; exact f4, by rw [kcell hb _ _ l]; exact f5, by rw [kcell hb _ _ l]; exact f6⟩

def RdTh (w : World) (a : Option Addr) (hs : List Th) : Prop :=
  hs.length ≤ 1048576 ∧ (hs = [] ∨ ∃ b o, a = some ⟨b, o, none⟩ ∧ ∀ i h, hs[i]? = some h → ThAt w b (o + i * 7) h ∧ h.wn ≤ 9223372036854775807 ∧ h.kn ≤ 9223372036854775807)

theorem RdTh.later {w w' : World} {a : Option Addr} {hs : List Th} (h : RdTh w a hs) (hb : Below w.heap.size w w') : RdTh w' a hs := by
  refine ⟨h.1, ?_⟩
  rcases h.2 with h | ⟨b, o, rfl, hc⟩
  · exact .inl h
  · exact .inr ⟨b, o, rfl, fun i x hi => ⟨(hc i x hi).1.later hb, (hc i x hi).2⟩⟩

def szT (h : Th) (L : Int) : Int := if (h.wn : Int) ≤ L ∧ (h.kn : Int) ≤ L - h.wn then L - h.wn - h.kn else -1

theorem szTNode_any (h : Th) (L : Int) (w : World) (hL : 0 ≤ L) (hL2 : L ≤ 1048576) (hn : h.wn ≤ 9223372036854775807) (hm : h.kn ≤ 9223372036854775807) :
    Calls Tryz.prog 35 #[h.val, .int .i64 L] w fun e w' => e = .returned (.int .i64 (szT h L)) ∧ Below w.heap.size w w' := by
  obtain ⟨op, vr, a, b, bw, wa, wn, wc, ka, kn, kc⟩ := h
  simp only [Th.val, szT] at hn hm ⊢
  have hb0 : Below w.heap.size w (w.alloc (Obj.cells #[Value.int .i64 op, Value.int .i64 vr, Value.int .i64 a, Value.int .i64 b, Value.int .i64 bw, Value.slice wa wn wc, Value.slice ka kn kc] 76)) := (Below.refl _ _).alloc (Nat.le_refl _) _
  have B0 := kide hb0
  clear hb0
  by_cases h : (wn : Int) ≤ L
  · by_cases h2 : (kn : Int) ≤ L - wn
    · rw [if_pos ⟨h, h2⟩]
      have HY := kide h
      have HZ := kide h2
      go_enter Tryz.func35, Tryz.ntmps35
      go_wp2_with fail
      refine (szBits_yes _ _ _ _ _ _ hL hL2 hn HY.out).mono ?_
      rintro e w1 ⟨rfl, hb1⟩
      have k6 := kcell hb1 w.heap.size 6 (by simp)
      simp at k6
      have B1 := kide (B0.out.trans (hb1.mono (by simp)))
      clear hb1
      go_wp2_with fail
      refine (szInt64S_any _ _ _ _ _ (by omega) (by omega) hm).mono ?_
      rw [if_pos HZ.out]
      rintro e w2 ⟨rfl, rfl⟩
      go_wp2_with fail
      go_ret
      exact ⟨rfl, B1.out⟩
    · rw [if_neg (by omega)]
      have HY := kide h
      have HZ : Hid (¬ (kn : Int) ≤ L - wn) := h2
      clear h2
      go_enter Tryz.func35, Tryz.ntmps35
      go_wp2_with fail
      refine (szBits_yes _ _ _ _ _ _ hL hL2 hn HY.out).mono ?_
      rintro e w1 ⟨rfl, hb1⟩
      have k6 := kcell hb1 w.heap.size 6 (by simp)
      simp at k6
      have B1 := kide (B0.out.trans (hb1.mono (by simp)))
      clear hb1
      go_wp2_with fail
      refine (szInt64S_any _ _ _ _ _ (by omega) (by omega) hm).mono ?_
      rw [if_neg (by have := HZ.out; omega)]
      rintro e w2 ⟨rfl, rfl⟩
      go_wp2_with fail
      go_ret
      exact ⟨rfl, B1.out⟩
  · rw [if_neg (by omega)]
    have HY : Hid (¬ (wn : Int) ≤ L) := h
    go_enter Tryz.func35, Tryz.ntmps35
    go_wp2_with fail
    refine (szBits_no _ _ _ _ _ _ hL hL2 hn (by have := HY.out; omega)).mono ?_
    rintro e w1 ⟨rfl, hb1⟩
    go_wp2_with fail
    go_ret
    exact ⟨rfl, B0.out.trans (hb1.mono (by simp))⟩

/-- What is left of L behind some nodes; -1: nothing. -/
def szTl : List Th → Int → Int
  | [], L => L
  | h :: t, L => if (h.wn : Int) ≤ L ∧ (h.kn : Int) ≤ L - h.wn then szTl t (L - h.wn - h.kn) else -1

theorem szTl_range (hs : List Th) (L : Int) (hL : 0 ≤ L) : szTl hs L = -1 ∨ 0 ≤ szTl hs L ∧ szTl hs L ≤ L ∧ ∀ h ∈ hs, (h.wn : Int) ≤ L ∧ (h.kn : Int) ≤ L := by
  induction hs generalizing L with
  | nil => right; simp [szTl]; exact hL
  | cons h t ih =>
    rw [szTl]
    split
    · rename_i hc
      rcases ih (L - h.wn - h.kn) (by omega) with e | ⟨e1, e2, e3⟩
      · left; exact e
      · right
        refine ⟨e1, by omega, fun x hx => ?_⟩
        rcases List.mem_cons.1 hx with rfl | hx
        · omega
        · have := e3 x hx; omega
    · left; rfl

theorem szTNodeS_in (a : Option Addr) (c : Nat) (hs : List Th) (L : Int) (w : World) (hr : RdTh w a hs) (hL : 0 ≤ L) (hL2 : L ≤ 1048576) (h : (hs.length : Int) ≤ L) :
    Calls Tryz.prog 16 #[.slice a hs.length c, .int .i64 L] w fun e w' => e = .returned (.int .i64 (szTl hs (L - hs.length))) ∧ Below w.heap.size w w' := by
  have hlen := hr.1
  generalize hZ : szTl hs (L - hs.length) = Z
  have HZ : Hid (szTl hs (L - hs.length) = Z) := hZ
  clear hZ
  go_enter Tryz.func16, Tryz.ntmps16
  go_wp2_with fail
  go_loopw [1, 5] (fun l i wr => ∃ (k : Nat) (Q : Int), k ≤ hs.length ∧ i = .int .i64 k ∧ l = .int .i64 Q ∧ 0 ≤ Q ∧ Q ≤ 1048576 ∧ szTl (hs.drop k) Q = Z ∧ Below w.heap.size w wr) (fun _ i _ => hs.length - (intOf i).toNat)
  case atStart => exact ⟨0, _, Nat.zero_le _, rfl, rfl, by omega, by omega, by rw [List.drop_zero]; exact HZ.out, Below.refl _ _⟩
  case round =>
    obtain ⟨k, Q, hk, rfl, rfl, hQ0, hQ1, hq, hbel⟩ := hrel
    by_cases hlt : k < hs.length
    · obtain ⟨-, h | ⟨b, o, rfl, hc⟩⟩ := hr
      · subst h; simp at hlt
      obtain ⟨x, hh⟩ : ∃ x, hs[k] = x := ⟨_, rfl⟩
      obtain ⟨f1, f2, f3⟩ := hc k x (by rw [List.getElem?_eq_getElem hlt, hh])
      obtain ⟨g0, g1, g2, g3, g4, g5, g6⟩ := f1.later hbel
      have HCA := kide (fun u => szTNode_any x Q u hQ0 hQ1 f2 f3)
      rw [List.drop_eq_getElem_cons hlt, hh, szTl] at hq
      obtain ⟨op, vr, a, b', bw, wa, wn, wc, ka, kn, kc⟩ := x
      simp only [Th.val, szT] at g0 g1 g2 g3 g4 g5 g6 hq f2 f3 HCA
      have HQ : Hid _ := hq
      have HB : Hid _ := hbel
      clear hc hh f1 hbel hq
      by_cases hyes : (wn : Int) ≤ Q ∧ (kn : Int) ≤ Q - wn
      · rw [if_pos hyes] at HCA
        go_wp2_with (go_at_call 35; refine Calls.mono (HCA.out _) ?_; rintro e w1 ⟨rfl, hb1⟩)
        go_roundw
        case rel =>
          have h := HQ.out
          rw [if_pos (by omega)] at h
          exact ⟨k + 1, _, by omega, by go_num, rfl, by omega, by omega, h, HB.out.trans (hb1.mono HB.out.size)⟩
        case measure => simp [intOf]; omega
      · rw [if_neg hyes] at HCA
        have HY := kide hyes
        clear hyes
        go_wp2_with (go_at_call 35; refine Calls.mono (HCA.out _) ?_; rintro e w1 ⟨rfl, hb1⟩)
        go_ret
        have h := HQ.out
        rw [if_neg (by have := HY.out; omega)] at h
        exact ⟨ret_int h, HB.out.trans (hb1.mono HB.out.size)⟩
    · have e : k = hs.length := by omega
      rw [e, List.drop_length, szTl] at hq
      have HQ : Hid _ := hq
      clear hq
      go_wp2_with fail
      go_ret
      exact ⟨ret_int HQ.out, hbel⟩

theorem szTNodeS_out (a : Option Addr) (n c : Nat) (L : Int) (w : World) (hL : 0 ≤ L) (hL2 : L ≤ 1048576) (hn : n ≤ 9223372036854775807) (h : ¬ (n : Int) ≤ L) :
    Calls Tryz.prog 16 #[.slice a n c, .int .i64 L] w fun e w' => e = .returned (.int .i64 (-1)) ∧ w' = w := by
  go_enter Tryz.func16, Tryz.ntmps16
  go_wp2_with fail
  go_ret
  exact ⟨rfl, rfl⟩

/-- A node: its numbers, its word, its kids. -/
structure Tc where
  op : Int
  vr : Int
  a : Int
  b : Int
  bw : Int
  ws : List Nat
  ks : List Int

/-- .. as it lies. -/
structure Tg where
  ct : Tc
  wa : Option Addr
  wc : Nat
  ka : Option Addr
  kc : Nat

def Tg.hd (x : Tg) : Th := ⟨x.ct.op, x.ct.vr, x.ct.a, x.ct.b, x.ct.bw, x.wa, x.ct.ws.length, x.wc, x.ka, x.ct.ks.length, x.kc⟩

def TgAt (w : World) (b o : Nat) (x : Tg) : Prop := ThAt w b o x.hd ∧ Rd w x.wa x.ct.ws ∧ RdI w x.ka x.ct.ks ∧ in64 x.ct.op ∧ in64 x.ct.vr ∧ in64 x.ct.a ∧ in64 x.ct.b ∧ in64 x.ct.bw

theorem TgAt.later {w w' : World} {b o : Nat} {x : Tg} (h : TgAt w b o x) (hb : Below w.heap.size w w') : TgAt w' b o x := ⟨h.1.later hb, h.2.1.later hb, h.2.2.1.later hb, h.2.2.2⟩

/-- A slice whose nodes are xs, wherever it lies. -/
def RdT (w : World) (a : Option Addr) (xs : List Tg) : Prop :=
  xs.length ≤ 1048576 ∧ (xs = [] ∨ ∃ b o, a = some ⟨b, o, none⟩ ∧ ∀ i n, xs[i]? = some n → TgAt w b (o + i * 7) n)

theorem RdT.later {w w' : World} {a : Option Addr} {xs : List Tg} (h : RdT w a xs) (hb : Below w.heap.size w w') : RdT w' a xs := by
  refine ⟨h.1, ?_⟩
  rcases h.2 with h | ⟨b, o, rfl, hc⟩
  · exact .inl h
  · exact .inr ⟨b, o, rfl, fun i n hi => (hc i n hi).later hb⟩

theorem szTerm_in (a : Option Addr) (c : Nat) (hs : List Th) (L : Int) (w : World) (hr : RdTh w a hs) (hL : 0 ≤ L) (hL2 : L ≤ 1048576) (h : (hs.length : Int) ≤ L) (n : Nat) (hn : hs.length = n) :
    Calls Tryz.prog 5 #[.agg #[.slice a n c], .int .i64 L] w fun e w' => e = .returned (.int .i64 (szTl hs (L - hs.length))) ∧ Below w.heap.size w w' := by
  subst hn
  have hb0 : Below w.heap.size w (w.alloc (Obj.cells #[Value.slice a hs.length c] 25)) := (Below.refl _ _).alloc (Nat.le_refl _) _
  have HC := kide (szTNodeS_in a c hs L _ (hr.later hb0) hL hL2 h)
  have hz := szTl_range hs (L - hs.length) (by omega)
  generalize szTl hs (L - hs.length) = Z at *
  have B0 := kide hb0
  clear hr hb0
  by_cases hz0 : Z < 0
  · have e : Z = -1 := by omega
    subst e
    go_enter Tryz.func5, Tryz.ntmps5
    go_wp2_with fail
    refine Calls.mono HC.out ?_
    rintro e w1 ⟨rfl, hb1⟩
    go_wp2_with fail
    go_ret
    exact ⟨rfl, B0.out.trans (hb1.mono (by simp))⟩
  · go_enter Tryz.func5, Tryz.ntmps5
    go_wp2_with fail
    refine Calls.mono HC.out ?_
    rintro e w1 ⟨rfl, hb1⟩
    go_wp2_with fail
    go_ret
    exact ⟨rfl, B0.out.trans (hb1.mono (by simp))⟩

theorem szTerm_out (a : Option Addr) (n c : Nat) (L : Int) (w : World) (hL : 0 ≤ L) (hL2 : L ≤ 1048576) (hn : n ≤ 9223372036854775807) (h : ¬ (n : Int) ≤ L) :
    Calls Tryz.prog 5 #[.agg #[.slice a n c], .int .i64 L] w fun e w' => e = .returned (.int .i64 (-1)) ∧ Below w.heap.size w w' := by
  have HH := kide h
  have hb0 : Below w.heap.size w (w.alloc (Obj.cells #[Value.slice a n c] 25)) := (Below.refl _ _).alloc (Nat.le_refl _) _
  go_enter Tryz.func5, Tryz.ntmps5
  go_wp2_with fail
  refine (szTNodeS_out a n c L _ hL hL2 hn (by have := HH.out; omega)).mono ?_
  rintro e w1 ⟨rfl, rfl⟩
  go_wp2_with fail
  go_ret
  exact ⟨rfl, hb0⟩

end Go.Proofs.YtkkboaiablfdbaaGreatDoor

/- A term node copied. -/
namespace Go.Proofs.YtkkboaiablfdbaaGreatDoor
set_option linter.unusedVariables false
set_option linter.unusedSimpArgs false
open Go.RowKit

set_option maxHeartbeats 1000000 in
theorem toTNode_any (s : Tc) (wa ka : Option Addr) (c1 c2 : Nat) (w : World) (hr1 : Rd w wa s.ws) (hr2 : RdI w ka s.ks) :
    Calls Tryz.prog 38 #[.agg #[.int .i64 s.op, .int .i64 s.vr, .int .i64 s.a, .int .i64 s.b, .int .i64 s.bw, .slice wa s.ws.length c1, .slice ka s.ks.length c2]] w fun e w' => ∃ g1 g2, e = .returned (.agg #[.int .i64 s.op, .int .i64 s.vr, .int .i64 s.a, .int .i64 s.b, .int .i64 s.bw, .slice (some ⟨g1, 0, none⟩) s.ws.length s.ws.length, .slice (some ⟨g2, 0, none⟩) s.ks.length s.ks.length]) ∧ w.heap.size ≤ g1 ∧ w.heap.size ≤ g2 ∧ Own w' g1 s.ws ∧ OwnI w' g2 s.ks ∧ Below w.heap.size w w' := by
  obtain ⟨op, vr, a, b, bw, ws, ks⟩ := s
  simp only [] at hr1 hr2 ⊢
  go_enter Tryz.func38, Tryz.ntmps38
  go_wp2_with fail
  have h3 : Below w.heap.size w (((w.alloc (Obj.cells #[Value.int .i64 op, Value.int .i64 vr, Value.int .i64 a, Value.int .i64 b, Value.int .i64 bw, Value.slice wa ws.length c1, Value.slice ka ks.length c2] 76)).alloc (Obj.cells #[Value.int .i64 0, Value.int .i64 0, Value.int .i64 0, Value.int .i64 0, Value.int .i64 0, Value.slice none 0 0, Value.slice none 0 0] 53)).alloc (Obj.cells #[Value.int .i64 op, Value.int .i64 vr, Value.int .i64 a, Value.int .i64 b, Value.int .i64 0, Value.slice none 0 0, Value.slice none 0 0] 53)) := (((Below.refl _ _).alloc (Nat.le_refl _) _).alloc (by simp) _).alloc (by simp; omega) _
  refine (toBits_any bw wa c1 ws _ (hr1.later h3)).mono ?_
  rintro e w1 ⟨g, rfl, hg, hown, hb⟩
  obtain ⟨hc, hf⟩ := bcell hb
  have hz : w.heap.size + 1 + 1 < w1.heap.size := by have := hb.size; simp at this; omega
  have hg3 : w.heap.size + 3 ≤ g := by simp at hg; omega
  have za0 : w1.cell? ⟨w.heap.size + 1, 0, none⟩ = some (Value.int .i64 0) := by rw [hc _ _ (by first | (simp; done) | (simp; omega))]; simp [go_sem]
  have zb0 : w1.cell? ⟨w.heap.size + 1 + 1, 0, none⟩ = some (Value.int .i64 op) := by rw [hc _ _ (by first | (simp; done) | (simp; omega))]; simp [go_sem]
  have fa0 : w1.frozen? ⟨w.heap.size + 1, 0, none⟩ = false := by rw [hf _ _ (by first | (simp; done) | (simp; omega))]; simp [go_sem]
  have fb0 : w1.frozen? ⟨w.heap.size + 1 + 1, 0, none⟩ = false := by rw [hf _ _ (by first | (simp; done) | (simp; omega))]; simp [go_sem]
  have za1 : w1.cell? ⟨w.heap.size + 1, 1, none⟩ = some (Value.int .i64 0) := by rw [hc _ _ (by first | (simp; done) | (simp; omega))]; simp [go_sem]
  have zb1 : w1.cell? ⟨w.heap.size + 1 + 1, 1, none⟩ = some (Value.int .i64 vr) := by rw [hc _ _ (by first | (simp; done) | (simp; omega))]; simp [go_sem]
  have fa1 : w1.frozen? ⟨w.heap.size + 1, 1, none⟩ = false := by rw [hf _ _ (by first | (simp; done) | (simp; omega))]; simp [go_sem]
  have fb1 : w1.frozen? ⟨w.heap.size + 1 + 1, 1, none⟩ = false := by rw [hf _ _ (by first | (simp; done) | (simp; omega))]; simp [go_sem]
  have za2 : w1.cell? ⟨w.heap.size + 1, 2, none⟩ = some (Value.int .i64 0) := by rw [hc _ _ (by first | (simp; done) | (simp; omega))]; simp [go_sem]
  have zb2 : w1.cell? ⟨w.heap.size + 1 + 1, 2, none⟩ = some (Value.int .i64 a) := by rw [hc _ _ (by first | (simp; done) | (simp; omega))]; simp [go_sem]
  have fa2 : w1.frozen? ⟨w.heap.size + 1, 2, none⟩ = false := by rw [hf _ _ (by first | (simp; done) | (simp; omega))]; simp [go_sem]
  have fb2 : w1.frozen? ⟨w.heap.size + 1 + 1, 2, none⟩ = false := by rw [hf _ _ (by first | (simp; done) | (simp; omega))]; simp [go_sem]
  have za3 : w1.cell? ⟨w.heap.size + 1, 3, none⟩ = some (Value.int .i64 0) := by rw [hc _ _ (by first | (simp; done) | (simp; omega))]; simp [go_sem]
  have zb3 : w1.cell? ⟨w.heap.size + 1 + 1, 3, none⟩ = some (Value.int .i64 b) := by rw [hc _ _ (by first | (simp; done) | (simp; omega))]; simp [go_sem]
  have fa3 : w1.frozen? ⟨w.heap.size + 1, 3, none⟩ = false := by rw [hf _ _ (by first | (simp; done) | (simp; omega))]; simp [go_sem]
  have fb3 : w1.frozen? ⟨w.heap.size + 1 + 1, 3, none⟩ = false := by rw [hf _ _ (by first | (simp; done) | (simp; omega))]; simp [go_sem]
  have za4 : w1.cell? ⟨w.heap.size + 1, 4, none⟩ = some (Value.int .i64 0) := by rw [hc _ _ (by first | (simp; done) | (simp; omega))]; simp [go_sem]
  have zb4 : w1.cell? ⟨w.heap.size + 1 + 1, 4, none⟩ = some (Value.int .i64 0) := by rw [hc _ _ (by first | (simp; done) | (simp; omega))]; simp [go_sem]
  have fa4 : w1.frozen? ⟨w.heap.size + 1, 4, none⟩ = false := by rw [hf _ _ (by first | (simp; done) | (simp; omega))]; simp [go_sem]
  have fb4 : w1.frozen? ⟨w.heap.size + 1 + 1, 4, none⟩ = false := by rw [hf _ _ (by first | (simp; done) | (simp; omega))]; simp [go_sem]
  have za5 : w1.cell? ⟨w.heap.size + 1, 5, none⟩ = some (Value.slice none 0 0) := by rw [hc _ _ (by first | (simp; done) | (simp; omega))]; simp [go_sem]
  have zb5 : w1.cell? ⟨w.heap.size + 1 + 1, 5, none⟩ = some (Value.slice none 0 0) := by rw [hc _ _ (by first | (simp; done) | (simp; omega))]; simp [go_sem]
  have fa5 : w1.frozen? ⟨w.heap.size + 1, 5, none⟩ = false := by rw [hf _ _ (by first | (simp; done) | (simp; omega))]; simp [go_sem]
  have fb5 : w1.frozen? ⟨w.heap.size + 1 + 1, 5, none⟩ = false := by rw [hf _ _ (by first | (simp; done) | (simp; omega))]; simp [go_sem]
  have za6 : w1.cell? ⟨w.heap.size + 1, 6, none⟩ = some (Value.slice none 0 0) := by rw [hc _ _ (by first | (simp; done) | (simp; omega))]; simp [go_sem]
  have zb6 : w1.cell? ⟨w.heap.size + 1 + 1, 6, none⟩ = some (Value.slice none 0 0) := by rw [hc _ _ (by first | (simp; done) | (simp; omega))]; simp [go_sem]
  have fa6 : w1.frozen? ⟨w.heap.size + 1, 6, none⟩ = false := by rw [hf _ _ (by first | (simp; done) | (simp; omega))]; simp [go_sem]
  have fb6 : w1.frozen? ⟨w.heap.size + 1 + 1, 6, none⟩ = false := by rw [hf _ _ (by first | (simp; done) | (simp; omega))]; simp [go_sem]
  have zp : w1.cell? ⟨w.heap.size, 6, none⟩ = some (Value.slice ka ks.length c2) := by rw [hc _ _ (by first | (simp; done) | (simp; omega))]; simp [go_sem]
  have HO := kide hown
  have HB := kide (h3.trans (hb.mono h3.size))
  have HR2 := kide hr2
  have hgl : g < w1.heap.size := hown.lt
  clear hown hb hr1 hr2 h3 hg hc hf
  go_wp2_with fail
  refine (toInt64S_any ka c2 ks _ (HR2.out.later ((HB.out.setCell (by simp; omega) _).setCell (by simp; omega) _))).mono ?_
  rintro e w2 ⟨rfl, hown2, hb2⟩
  obtain ⟨hc2, hf2⟩ := bcell hb2
  have hz2 : w1.heap.size ≤ w2.heap.size := by have := hb2.size; simpa using this
  have HO2 := kide (show OwnI w2 w1.heap.size ks by simpa using hown2)
  have HB2 : Hid (Below w.heap.size w w2) := Below.trans ((HB.out.setCell (by simp; omega) _).setCell (by simp; omega) _) (hb2.mono (by simp; omega))
  have HO1 : Hid (Own w2 g ws) := Own.later ((Own.other HO.out (by simp; omega) _).other (by simp; omega) _) hb2 (by simpa using hgl)
  have ya0 : w2.cell? ⟨w.heap.size + 1, 0, none⟩ = some (Value.int .i64 0) := by rw [hc2 _ _ (by first | (simp; done) | (simp; omega))]; simp [go_sem, za0]
  have yb0 : w2.cell? ⟨w.heap.size + 1 + 1, 0, none⟩ = some (Value.int .i64 op) := by rw [hc2 _ _ (by first | (simp; done) | (simp; omega))]; simp [go_sem, zb0, zb1, zb2, zb3, zb4, zb5, zb6, fb0, fb1, fb2, fb3, fb4, fb5, fb6]
  have ga0 : w2.frozen? ⟨w.heap.size + 1, 0, none⟩ = false := by rw [hf2 _ _ (by first | (simp; done) | (simp; omega))]; simp [go_sem, fa0]
  have gb0 : w2.frozen? ⟨w.heap.size + 1 + 1, 0, none⟩ = false := by rw [hf2 _ _ (by first | (simp; done) | (simp; omega))]; simp [go_sem, fb0]
  have ya1 : w2.cell? ⟨w.heap.size + 1, 1, none⟩ = some (Value.int .i64 0) := by rw [hc2 _ _ (by first | (simp; done) | (simp; omega))]; simp [go_sem, za1]
  have yb1 : w2.cell? ⟨w.heap.size + 1 + 1, 1, none⟩ = some (Value.int .i64 vr) := by rw [hc2 _ _ (by first | (simp; done) | (simp; omega))]; simp [go_sem, zb0, zb1, zb2, zb3, zb4, zb5, zb6, fb0, fb1, fb2, fb3, fb4, fb5, fb6]
  have ga1 : w2.frozen? ⟨w.heap.size + 1, 1, none⟩ = false := by rw [hf2 _ _ (by first | (simp; done) | (simp; omega))]; simp [go_sem, fa1]
  have gb1 : w2.frozen? ⟨w.heap.size + 1 + 1, 1, none⟩ = false := by rw [hf2 _ _ (by first | (simp; done) | (simp; omega))]; simp [go_sem, fb1]
  have ya2 : w2.cell? ⟨w.heap.size + 1, 2, none⟩ = some (Value.int .i64 0) := by rw [hc2 _ _ (by first | (simp; done) | (simp; omega))]; simp [go_sem, za2]
  have yb2 : w2.cell? ⟨w.heap.size + 1 + 1, 2, none⟩ = some (Value.int .i64 a) := by rw [hc2 _ _ (by first | (simp; done) | (simp; omega))]; simp [go_sem, zb0, zb1, zb2, zb3, zb4, zb5, zb6, fb0, fb1, fb2, fb3, fb4, fb5, fb6]
  have ga2 : w2.frozen? ⟨w.heap.size + 1, 2, none⟩ = false := by rw [hf2 _ _ (by first | (simp; done) | (simp; omega))]; simp [go_sem, fa2]
  have gb2 : w2.frozen? ⟨w.heap.size + 1 + 1, 2, none⟩ = false := by rw [hf2 _ _ (by first | (simp; done) | (simp; omega))]; simp [go_sem, fb2]
  have ya3 : w2.cell? ⟨w.heap.size + 1, 3, none⟩ = some (Value.int .i64 0) := by rw [hc2 _ _ (by first | (simp; done) | (simp; omega))]; simp [go_sem, za3]
  have yb3 : w2.cell? ⟨w.heap.size + 1 + 1, 3, none⟩ = some (Value.int .i64 b) := by rw [hc2 _ _ (by first | (simp; done) | (simp; omega))]; simp [go_sem, zb0, zb1, zb2, zb3, zb4, zb5, zb6, fb0, fb1, fb2, fb3, fb4, fb5, fb6]
  have ga3 : w2.frozen? ⟨w.heap.size + 1, 3, none⟩ = false := by rw [hf2 _ _ (by first | (simp; done) | (simp; omega))]; simp [go_sem, fa3]
  have gb3 : w2.frozen? ⟨w.heap.size + 1 + 1, 3, none⟩ = false := by rw [hf2 _ _ (by first | (simp; done) | (simp; omega))]; simp [go_sem, fb3]
  have ya4 : w2.cell? ⟨w.heap.size + 1, 4, none⟩ = some (Value.int .i64 0) := by rw [hc2 _ _ (by first | (simp; done) | (simp; omega))]; simp [go_sem, za4]
  have yb4 : w2.cell? ⟨w.heap.size + 1 + 1, 4, none⟩ = some (Value.int .i64 bw) := by rw [hc2 _ _ (by first | (simp; done) | (simp; omega))]; simp [go_sem, zb0, zb1, zb2, zb3, zb4, zb5, zb6, fb0, fb1, fb2, fb3, fb4, fb5, fb6]
  have ga4 : w2.frozen? ⟨w.heap.size + 1, 4, none⟩ = false := by rw [hf2 _ _ (by first | (simp; done) | (simp; omega))]; simp [go_sem, fa4]
  have gb4 : w2.frozen? ⟨w.heap.size + 1 + 1, 4, none⟩ = false := by rw [hf2 _ _ (by first | (simp; done) | (simp; omega))]; simp [go_sem, fb4]
  have ya5 : w2.cell? ⟨w.heap.size + 1, 5, none⟩ = some (Value.slice none 0 0) := by rw [hc2 _ _ (by first | (simp; done) | (simp; omega))]; simp [go_sem, za5]
  have yb5 : w2.cell? ⟨w.heap.size + 1 + 1, 5, none⟩ = some (Value.slice (some ⟨g, 0, none⟩) ws.length ws.length) := by rw [hc2 _ _ (by first | (simp; done) | (simp; omega))]; simp [go_sem, zb0, zb1, zb2, zb3, zb4, zb5, zb6, fb0, fb1, fb2, fb3, fb4, fb5, fb6]
  have ga5 : w2.frozen? ⟨w.heap.size + 1, 5, none⟩ = false := by rw [hf2 _ _ (by first | (simp; done) | (simp; omega))]; simp [go_sem, fa5]
  have gb5 : w2.frozen? ⟨w.heap.size + 1 + 1, 5, none⟩ = false := by rw [hf2 _ _ (by first | (simp; done) | (simp; omega))]; simp [go_sem, fb5]
  have ya6 : w2.cell? ⟨w.heap.size + 1, 6, none⟩ = some (Value.slice none 0 0) := by rw [hc2 _ _ (by first | (simp; done) | (simp; omega))]; simp [go_sem, za6]
  have yb6 : w2.cell? ⟨w.heap.size + 1 + 1, 6, none⟩ = some (Value.slice none 0 0) := by rw [hc2 _ _ (by first | (simp; done) | (simp; omega))]; simp [go_sem, zb0, zb1, zb2, zb3, zb4, zb5, zb6, fb0, fb1, fb2, fb3, fb4, fb5, fb6]
  have ga6 : w2.frozen? ⟨w.heap.size + 1, 6, none⟩ = false := by rw [hf2 _ _ (by first | (simp; done) | (simp; omega))]; simp [go_sem, fa6]
  have gb6 : w2.frozen? ⟨w.heap.size + 1 + 1, 6, none⟩ = false := by rw [hf2 _ _ (by first | (simp; done) | (simp; omega))]; simp [go_sem, fb6]
  clear hown2 hb2 HO HB HR2 hc2 hf2 zp za0 zb0 fa0 fb0 za1 zb1 fa1 fb1 za2 zb2 fa2 fb2 za3 zb3 fa3 fb3 za4 zb4 fa4 fb4 za5 zb5 fa5 fb5 za6 zb6 fa6 fb6
  go_wp2_with fail
  refine bodyPost_ret (v := .agg #[.int .i64 op, .int .i64 vr, .int .i64 a, .int .i64 b, .int .i64 bw, .slice (some ⟨g, 0, none⟩) ws.length ws.length, .slice (some ⟨w1.heap.size, 0, none⟩) ks.length ks.length]) (by simp [results, Tryz.results38, go_sem, ya0, yb0, ya1, yb1, ya2, yb2, ya3, yb3, ya4, yb4, ya5, yb5, ya6, yb6]) rfl ⟨g, w1.heap.size, rfl, by omega, by omega, ?_, ?_, ?_⟩
  · repeat (refine Own.other ?_ (by simp; omega) _)
    exact HO1.out
  · repeat (refine OwnI.other ?_ (by simp; omega) _)
    exact HO2.out
  · repeat (refine Below.setCell ?_ (by simp <;> omega) _)
    exact HB2.out

end Go.Proofs.YtkkboaiablfdbaaGreatDoor

/- Rows of term nodes copied; terms copied. -/
namespace Go.Proofs.YtkkboaiablfdbaaGreatDoor
set_option linter.unusedVariables false
set_option linter.unusedSimpArgs false
open Go.RowKit

theorem ksetT {w : World} {p : Addr} {a : Addr} {v : Value} {x : Value} (h : w.cell? p = some x) (hn : p.block ≠ a.block) : (w.setCell a v).cell? p = some x := by
  rw [World.cell?_setCell_far _ _ _ _ hn.symm]; exact h

theorem RdI.setT {w : World} {a : Option Addr} {ks : List Int} (h : RdI w a ks) {B : Nat} (hf : ∀ b o sp, a = some ⟨b, o, sp⟩ → B ≤ b) {p : Addr} (hp : p.block < B) (v : Value) : RdI (w.setCell p v) a ks := by
  obtain ⟨h1, h2, h3⟩ := h
  refine ⟨h1, h2, ?_⟩
  rcases h3 with h3 | ⟨b, o, rfl, hc⟩
  · exact .inl h3
  · have := hf b o none rfl
    exact .inr ⟨b, o, rfl, fun i hi => ksetT (hc i hi) (by simp; omega)⟩

theorem Rd.setT {w : World} {a : Option Addr} {ks : List Nat} (h : Rd w a ks) {B : Nat} (hf : ∀ b o sp, a = some ⟨b, o, sp⟩ → B ≤ b) {p : Addr} (hp : p.block < B) (v : Value) : Rd (w.setCell p v) a ks := by
  obtain ⟨h1, h2, h3⟩ := h
  refine ⟨h1, h2, ?_⟩
  rcases h3 with h3 | ⟨b, o, rfl, hc⟩
  · exact .inl h3
  · have := hf b o none rfl
    exact .inr ⟨b, o, rfl, fun i hi => ksetT (hc i hi) (by simp; omega)⟩

/-- All of it lies from the block B on. -/
def FarT (B : Nat) (a : Option Addr) (xs : List Tg) : Prop := (∀ b o sp, a = some ⟨b, o, sp⟩ → B ≤ b) ∧ ∀ x ∈ xs, (∀ b o sp, x.wa = some ⟨b, o, sp⟩ → B ≤ b) ∧ ∀ b o sp, x.ka = some ⟨b, o, sp⟩ → B ≤ b
theorem FarT.mono {B B' : Nat} {a : Option Addr} {xs : List Tg} (h : FarT B a xs) (hB : B' ≤ B) : FarT B' a xs := ⟨fun b o sp e => Nat.le_trans hB (h.1 b o sp e), fun x hx => ⟨fun b o sp e => Nat.le_trans hB ((h.2 x hx).1 b o sp e), fun b o sp e => Nat.le_trans hB ((h.2 x hx).2 b o sp e)⟩⟩

theorem RdT.set {w : World} {a : Option Addr} {xs : List Tg} (h : RdT w a xs) {B : Nat} (hf : FarT B a xs) {p : Addr} (hp : p.block < B) (v : Value) : RdT (w.setCell p v) a xs := by
  refine ⟨h.1, ?_⟩
  rcases h.2 with h3 | ⟨b, o, rfl, hc⟩
  · exact .inl h3
  · have := hf.1 b o none rfl
    refine .inr ⟨b, o, rfl, fun i n hi => ?_⟩
    obtain ⟨⟨c0, c1, c2, c3, c4, c5, c6⟩, r1, r2, r3⟩ := hc i n hi
    have hn := hf.2 n (List.mem_of_getElem? hi)
    exact ⟨⟨ksetT c0 (by simp; omega), ksetT c1 (by simp; omega), ksetT c2 (by simp; omega), ksetT c3 (by simp; omega), ksetT c4 (by simp; omega), ksetT c5 (by simp; omega), ksetT c6 (by simp; omega)⟩, r1.setT hn.1 hp v, r2.setT hn.2 hp v, r3⟩

theorem Tryz.infoTNode : (Tryz.prog.info? 53).map (fun i => (i.zero, i.size, i.bytes)) = some (some (.agg #[.int .i64 0, .int .i64 0, .int .i64 0, .int .i64 0, .int .i64 0, .slice none 0 0, .slice none 0 0]), 7, 88) := by kernel_rfl

theorem make_tnodes (n : Nat) (hn : n ≤ 1048576) (kl kc : IntKind) (w : World) :
    (Instr.makeSlice 28 (.int kl (n : Int)) (.int kc (n : Int))).run Tryz.prog w = .ok (.slice (some ⟨w.heap.size, 0, none⟩) n n) (w.alloc (.cells (madeCells #[.int .i64 0, .int .i64 0, .int .i64 0, .int .i64 0, .int .i64 0, .slice none 0 0, .slice none 0 0] (n * 7)) 53)) := by
  obtain ⟨i0, hi, hz0, hz1, hz2⟩ := info_parts Tryz.infoTNode
  have := run_make (P := Tryz.prog) w 28 53 i0 _ Tryz.underlying28 hi hz0 kl kc n n (by omega) (Int.le_refl _) (by rw [hz2]; omega) (by omega)
  rw [hz1] at this
  simp only [Int.toNat_natCast] at this
  exact this

/-- A copied node: its rows lie in blocks of their own. -/
def TgOwn (w : World) (G : Nat) (f : Nat → Value) (j : Nat) (x : Tg) : Prop :=
  (f (j * 7) = .int .i64 x.ct.op ∧ f (j * 7 + 1) = .int .i64 x.ct.vr ∧ f (j * 7 + 2) = .int .i64 x.ct.a ∧ f (j * 7 + 3) = .int .i64 x.ct.b ∧ f (j * 7 + 4) = .int .i64 x.ct.bw ∧ f (j * 7 + 5) = .slice x.wa x.ct.ws.length x.wc ∧ f (j * 7 + 6) = .slice x.ka x.ct.ks.length x.kc) ∧ (∃ g, x.wa = some ⟨g, 0, none⟩ ∧ G < g ∧ Own w g x.ct.ws) ∧ ∃ g, x.ka = some ⟨g, 0, none⟩ ∧ G < g ∧ OwnI w g x.ct.ks

theorem TgOwn.later {w w' : World} {G j : Nat} {f : Nat → Value} {x : Tg} (h : TgOwn w G f j x) (hb : Below w.heap.size w w') : TgOwn w' G f j x := by
  obtain ⟨h0, ⟨g, h5, h6, h7⟩, g', h8, h9, h10⟩ := h
  exact ⟨h0, ⟨g, h5, h6, h7.later hb h7.lt⟩, g', h8, h9, h10.later hb h10.lt⟩

theorem TgOwn.put {w w' : World} {G j k : Nat} {f f' : Nat → Value} {x : Tg} (h : TgOwn w G f j x) (hw : ∀ g, G < g → w'.heap[g]? = w.heap[g]?) (hf : ∀ i, i < k * 7 → f' i = f i) (hk : j < k) : TgOwn w' G f' j x := by
  obtain ⟨⟨h0, h1, h2, h3, h4, h4', h4''⟩, ⟨g, h5, h6, h7⟩, g', h8, h9, h10⟩ := h
  refine ⟨⟨by rw [hf _ (by omega)]; exact h0, by rw [hf _ (by omega)]; exact h1, by rw [hf _ (by omega)]; exact h2, by rw [hf _ (by omega)]; exact h3, by rw [hf _ (by omega)]; exact h4, by rw [hf _ (by omega)]; exact h4', by rw [hf _ (by omega)]; exact h4''⟩, ⟨g, h5, h6, ?_⟩, g', h8, h9, ?_⟩
  · unfold Own
    rw [hw g h6]; exact h7
  · unfold OwnI
    rw [hw g' h9]; exact h10

set_option maxHeartbeats 1000000 in
theorem toTNodeS_far (a : Option Addr) (c : Nat) (xs : List Tg) (w : World) (hr : RdT w a xs) :
    Calls Tryz.prog 23 #[.slice a xs.length c] w fun e w' => ∃ ms : List Tg, e = .returned (.slice (some ⟨w.heap.size, 0, none⟩) xs.length xs.length) ∧ ms.map Tg.ct = xs.map Tg.ct ∧ RdT w' (some ⟨w.heap.size, 0, none⟩) ms ∧ FarT w.heap.size (some ⟨w.heap.size, 0, none⟩) ms ∧ Below w.heap.size w w' := by
  have hlen := hr.1
  have hmk := make_tnodes xs.length hlen
  go_enter Tryz.func23, Tryz.ntmps23
  go_wp2_with fail
  have hrow := krow (heap_alloc_new w (.cells (madeCells #[.int .i64 0, .int .i64 0, .int .i64 0, .int .i64 0, .int .i64 0, .slice none 0 0, .slice none 0 0] (xs.length * 7)) 53))
  rw [size_madeCells] at hrow
  have hb0 : Below w.heap.size w (w.alloc (.cells (madeCells #[.int .i64 0, .int .i64 0, .int .i64 0, .int .i64 0, .int .i64 0, .slice none 0 0, .slice none 0 0] (xs.length * 7)) 53)) := (Below.refl _ _).alloc (Nat.le_refl _) _
  have hs0 : w.heap.size < (w.alloc (.cells (madeCells #[.int .i64 0, .int .i64 0, .int .i64 0, .int .i64 0, .int .i64 0, .slice none 0 0, .slice none 0 0] (xs.length * 7)) 53)).heap.size := by simp
  generalize (w.alloc (.cells (madeCells #[.int .i64 0, .int .i64 0, .int .i64 0, .int .i64 0, .int .i64 0, .slice none 0 0, .slice none 0 0] (xs.length * 7)) 53)) = w0 at *
  go_loopw [4] (fun i wr => ∃ (k : Nat) (f : Nat → Value) (ms : List Tg), k ≤ xs.length ∧ i = .int .i64 k ∧ wr.rowIs w.heap.size 53 (xs.length * 7) f ∧ ms.length = k ∧ ms.map Tg.ct = (xs.take k).map Tg.ct ∧ (∀ j x, ms[j]? = some x → TgOwn wr w.heap.size f j x) ∧ Below w.heap.size w wr ∧ w.heap.size < wr.heap.size) (fun i _ => xs.length - (intOf i).toNat)
  case atStart => exact ⟨0, _, [], Nat.zero_le _, rfl, hrow, rfl, rfl, fun j x h => by simp at h, hb0, hs0⟩
  case round =>
    obtain ⟨k, f, ms, hk, rfl, hrw, hml, hmc, hms, hbel, hsz⟩ := hrel
    clear hrow hb0 hs0
    by_cases hlt : k < xs.length
    · obtain ⟨-, h | ⟨b, o, rfl, hc⟩⟩ := hr
      · subst h; simp at hlt
      obtain ⟨⟨s1, wa, wc, ka, kc⟩, hx⟩ : ∃ x, xs[k] = x := ⟨_, rfl⟩
      have gx : xs[k]? = some ⟨s1, wa, wc, ka, kc⟩ := by rw [List.getElem?_eq_getElem hlt, hx]
      obtain ⟨⟨p0, p1, p2, p3, p4, p5, p6⟩, pr, pi, -⟩ := (hc k _ gx).later hbel
      simp only [Tg.hd] at p0 p1 p2 p3 p4 p5 p6 pi pr
      clear hx
      have HTO := kide (toTNode_any s1 wa ka wc kc wr pr pi)
      have GX : Hid _ := gx
      have HML : Hid _ := hml
      have HMC : Hid _ := hmc
      have HMS : Hid _ := hms
      have HR : Hid _ := hrw
      have HB : Hid _ := hbel
      have i0 : (k : Int) < (xs.length : Int) := by omega
      clear gx hml hmc hms hc hrw hbel hmk pr pi
      obtain ⟨op, vr, aa, bb, bw, ws, ks⟩ := s1
      simp only [] at p0 p1 p2 p3 p4 p5 p6 HTO
      go_wp2_with fail
      refine Calls.mono HTO.out ?_
      rintro e w1 ⟨g, g', rfl, hg, hg', hown, hown', hb1⟩
      have hr1 := World.rowIs.of_block HR.out (hb1.block _ hsz)
      have q0 := hr1.cell (i := k * 7) (by omega)
      have q1 := hr1.cell (i := k * 7 + 1) (by omega)
      have q2 := hr1.cell (i := k * 7 + 2) (by omega)
      have q3 := hr1.cell (i := k * 7 + 3) (by omega)
      have q4 := hr1.cell (i := k * 7 + 4) (by omega)
      have q5 := hr1.cell (i := k * 7 + 5) (by omega)
      have q6 := hr1.cell (i := k * 7 + 6) (by omega)
      have r0 := hr1.frozen (k * 7)
      have r1 := hr1.frozen (k * 7 + 1)
      have r2 := hr1.frozen (k * 7 + 2)
      have r3 := hr1.frozen (k * 7 + 3)
      have r4 := hr1.frozen (k * 7 + 4)
      have r5 := hr1.frozen (k * 7 + 5)
      have r6 := hr1.frozen (k * 7 + 6)
      have HR1 : Hid _ := hr1
      clear hr1
      go_wp2_with fail
      go_roundw
      case rel =>
        have hl := HML.out
        have hgk : w.heap.size < g := by omega
        have hgk' : w.heap.size < g' := by omega
        refine ⟨k + 1, _, ms ++ [⟨⟨op, vr, aa, bb, bw, ws, ks⟩, some ⟨g, 0, none⟩, ws.length, some ⟨g', 0, none⟩, ks.length⟩], by omega, by go_num, (World.rowIs.set (World.rowIs.set (World.rowIs.set (World.rowIs.set (World.rowIs.set (World.rowIs.set (World.rowIs.set HR1.out (k * 7) (.int .i64 op)) (k * 7 + 1) (.int .i64 vr)) (k * 7 + 2) (.int .i64 aa)) (k * 7 + 3) (.int .i64 bb)) (k * 7 + 4) (.int .i64 bw)) (k * 7 + 5) (.slice (some ⟨g, 0, none⟩) ws.length ws.length)) (k * 7 + 6) (.slice (some ⟨g', 0, none⟩) ks.length ks.length)), by simp [hl], ?_, fun j x hj => ?_, ?_, ?_⟩
        · have h := HMC.out
          rw [List.map_append, h, List.take_add_one, GX.out, List.map_append]
          rfl
        · rw [List.getElem?_append] at hj
          split at hj
          · refine ((HMS.out j x hj).later hb1).put (k := k) (fun g' hg' => ?_) (fun i hi => ?_) (by omega)
            · rw [heap_setCell_other _ _ _ _ (by simp; omega), heap_setCell_other _ _ _ _ (by simp; omega), heap_setCell_other _ _ _ _ (by simp; omega), heap_setCell_other _ _ _ _ (by simp; omega), heap_setCell_other _ _ _ _ (by simp; omega), heap_setCell_other _ _ _ _ (by simp; omega), heap_setCell_other _ _ _ _ (by simp; omega)]
            · show (if _ then _ else _) = _
              rw [if_neg (by omega), if_neg (by omega), if_neg (by omega), if_neg (by omega), if_neg (by omega), if_neg (by omega), if_neg (by omega)]
          · have hj2 : j - ms.length = 0 := by
              have := (List.getElem?_eq_some_iff.1 hj).1
              simp at this; exact this
            rw [hj2] at hj
            simp at hj
            subst hj
            have hjk : j = k := by omega
            subst hjk
            refine ⟨⟨by simp, by simp, by simp, by simp, by simp, by simp, by simp⟩, ⟨g, rfl, hgk, ?_⟩, g', rfl, hgk', ?_⟩
            · iterate 7 (refine Own.other ?_ (by simp; omega) _)
              exact hown
            · iterate 7 (refine OwnI.other ?_ (by simp; omega) _)
              exact hown'
        · have hbb := HB.out.trans (hb1.mono HB.out.size)
          exact ((((((hbb.setCell (Nat.le_refl _) _).setCell (Nat.le_refl _) _).setCell (Nat.le_refl _) _).setCell (Nat.le_refl _) _).setCell (Nat.le_refl _) _).setCell (Nat.le_refl _) _).setCell (Nat.le_refl _) _
        · have := hb1.size
          simp; omega
      case measure => simp [intOf]; omega
    · have e : k = xs.length := by omega
      have HM : Hid _ := hml
      have HC : Hid _ := hmc
      have HS : Hid _ := hms
      have HR : Hid _ := hrw
      have HB : Hid _ := hbel
      have HE : Hid _ := e
      clear hml hmc hms hrw hbel e hmk
      go_wp2_with fail
      go_ret
      refine ⟨ms, rfl, ?_, ⟨by rw [HM.out]; omega, .inr ⟨_, 0, rfl, fun i x hi => ?_⟩⟩, ⟨fun b o sp h => by cases h; exact Nat.le_refl _, fun x hx => ?_⟩, HB.out⟩
      · have h := HC.out
        rw [HE.out, List.take_length] at h
        exact h
      · obtain ⟨⟨h0, h1, h2, h3, h4, h4', h4''⟩, ⟨g, h5, h6, h7⟩, g', h8, h9, h10⟩ := HS.out i x hi
        have hik : i < k := by have := (List.getElem?_eq_some_iff.1 hi).1; rw [HM.out] at this; exact this
        have hct : ∃ y, xs[i]? = some y ∧ y.ct = x.ct := by
          have h := HC.out
          rw [HE.out, List.take_length] at h
          have h' : (ms.map Tg.ct)[i]? = (xs.map Tg.ct)[i]? := by rw [h]
          rw [List.getElem?_map, List.getElem?_map, hi, Option.map_some] at h'
          cases hy : xs[i]? with
          | none => rw [hy] at h'; cases h'
          | some y => rw [hy] at h'; simp at h'; exact ⟨y, rfl, h'.symm⟩
        obtain ⟨y, hy, hyx⟩ := hct
        obtain ⟨-, hn | ⟨b, o, -, hc⟩⟩ := hr
        · subst hn; simp at hy
        obtain ⟨-, ⟨l1, l2, -⟩, ⟨m1, m2, -⟩, l3⟩ := hc i y hy
        rw [hyx] at l1 l2 l3 m1 m2
        refine ⟨⟨?_, ?_, ?_, ?_, ?_, ?_, ?_⟩, ?_, ?_, l3⟩
        · rw [Nat.zero_add]; exact (World.rowIs.cell HR.out (by omega)).trans (congrArg some h0)
        · rw [Nat.zero_add]; exact (World.rowIs.cell HR.out (by omega)).trans (congrArg some h1)
        · rw [Nat.zero_add]; exact (World.rowIs.cell HR.out (by omega)).trans (congrArg some h2)
        · rw [Nat.zero_add]; exact (World.rowIs.cell HR.out (by omega)).trans (congrArg some h3)
        · rw [Nat.zero_add]; exact (World.rowIs.cell HR.out (by omega)).trans (congrArg some h4)
        · rw [Nat.zero_add]; exact (World.rowIs.cell HR.out (by omega)).trans (congrArg some h4')
        · rw [Nat.zero_add]; exact (World.rowIs.cell HR.out (by omega)).trans (congrArg some h4'')
        · rw [h5]
          exact Own.rd h7 l1 l2
        · rw [h8]
          exact OwnI.rd h10 m1 m2
      · obtain ⟨i, hi, e⟩ := List.mem_iff_getElem.1 hx
        obtain ⟨-, ⟨g, h5, h6, -⟩, g', h8, h9, -⟩ := HS.out i x (by rw [List.getElem?_eq_getElem hi, e])
        refine ⟨fun b o sp h => ?_, fun b o sp h => ?_⟩
        · rw [h5] at h; cases h; omega
        · rw [h8] at h; cases h; omega

theorem toTerm_far (a : Option Addr) (c : Nat) (xs : List Tg) (w : World) (hr : RdT w a xs) (n : Nat) (hn : xs.length = n) :
    Calls Tryz.prog 8 #[.agg #[.slice a n c]] w fun e w' => ∃ (g : Nat) (ms : List Tg), e = .returned (.agg #[.slice (some ⟨g, 0, none⟩) n n]) ∧ ms.map Tg.ct = xs.map Tg.ct ∧ RdT w' (some ⟨g, 0, none⟩) ms ∧ FarT w.heap.size (some ⟨g, 0, none⟩) ms ∧ Below w.heap.size w w' := by
  subst hn
  go_enter Tryz.func8, Tryz.ntmps8
  go_wp2_with fail
  refine (toTNodeS_far a c xs _ ?_).mono ?_
  · refine hr.later (Below.alloc (Below.alloc (Below.alloc (Below.refl _ _) ?_ _) ?_ _) ?_ _)
    all_goals first | exact Nat.le_refl _ | (simp; done) | (simp; omega)
  rintro e w1 ⟨ms, rfl, hms, hrd, hfar, hb⟩
  have hc := kcell hb
  have hz : w.heap.size + 1 + 1 < w1.heap.size := by have := hb.size; simp at this; omega
  have hf := (bcell hb).2
  have HO := kide hrd
  have HFR := kide hfar
  have HB := kide hb
  have HM := kide hms
  clear hrd hb hr hms hfar
  go_wp2_with fail
  refine bodyPost_ret (v := .agg #[.slice (some ⟨w.heap.size + 1 + 1 + 1, 0, none⟩) xs.length xs.length]) (by simp [results, Tryz.results8, go_sem, hc]) rfl ⟨_, ms, rfl, HM.out, ?_, ?_, ?_⟩
  · have h := HO.out
    have hf2 := HFR.out
    simp only [World.size_alloc] at h hf2
    exact (h.set hf2 (by first | (simp; done) | (simp; omega)) _).set hf2 (by first | (simp; done) | (simp; omega)) _
  · have hf2 := HFR.out
    simp only [World.size_alloc] at hf2
    exact hf2.mono (by omega)
  · have h := HB.out
    have h0 : Below w.heap.size w w1 := by
      refine Below.trans (Below.alloc (Below.alloc (Below.alloc (Below.refl _ _) ?_ _) ?_ _) ?_ _) (h.mono ?_)
      all_goals first | exact Nat.le_refl _ | (simp; done) | (simp; omega)
    exact (h0.setCell (by simp; omega) _).setCell (by simp) _



end Go.Proofs.YtkkboaiablfdbaaGreatDoor

/- Rows of numbers of one's own. -/
namespace Go.Proofs.YtkkboaiablfdbaaGreatDoor
set_option linter.unusedVariables false
set_option linter.unusedSimpArgs false
open Go.RowKit

/-- An owned row of numbers. -/
def OI (w : World) (B : Nat) (v : Value) (l : List Int) : Prop := w.ownsRow B 2 1 v l.length (i64s l).toList
theorem OI.move {w w' : World} {B : Nat} {v : Value} {l : List Int} (h : OI w B v l) (hk : ∀ b, v.ownBlock = some b → w'.heap[b]? = w.heap[b]?) : OI w' B v l := by
  refine ⟨h.1, ?_⟩
  rcases h.2 with h0 | ⟨g, cap, cur, rfl, hg, hh, r⟩
  · exact .inl h0
  · exact .inr ⟨g, cap, cur, rfl, hg, (hk g rfl).trans hh, r⟩
theorem OI.lt {w : World} {B : Nat} {v : Value} {l : List Int} (h : OI w B v l) {b : Nat} (hb : v.ownBlock = some b) : B ≤ b ∧ b < w.heap.size := by
  rcases h.2 with ⟨rfl, -⟩ | ⟨g, cap, cur, rfl, hg, hh, -⟩
  · cases hb
  · cases hb
    exact ⟨hg, lt_of_block hh⟩
theorem OI.later {w w' : World} {B : Nat} {v : Value} {l : List Int} (h : OI w B v l) (hb : Below w.heap.size w w') : OI w' B v l := h.move fun b hb' => hb.block b (h.lt hb').2
theorem OI.empty (w : World) (B : Nat) (h : B ≤ w.heap.size) : OI (w.alloc (.cells #[] 2)) B (.slice (some ⟨w.heap.size, 0, Option.none⟩) 0 0) [] := World.ownsRow_made w #[] 0 h (Nat.zero_le _) (by simp)
theorem OI.rd {w : World} {B : Nat} {v : Value} {l : List Int} (h : OI w B v l) (hl : l.length ≤ 1048576) (hx : ∀ x ∈ l, in64 x) : ∃ a c, v = .slice a l.length c ∧ RdI w a l := by
  rcases h.2 with ⟨rfl, h0⟩ | ⟨g, cap, cur, rfl, hg, hh, hc1, hc2, hsz, hcur⟩
  · have e := List.eq_nil_of_length_eq_zero h0
    subst e
    exact ⟨none, 0, rfl, by simp, by simp, .inl rfl⟩
  · refine ⟨some ⟨g, 0, none⟩, cap, rfl, hl, hx, .inr ⟨g, 0, rfl, fun i hi => ?_⟩⟩
    have h3 : (cur.toList.take (l.length * 1))[i]? = (i64s l).toList[i]? := by rw [hcur]
    rw [List.getElem?_take, if_pos (by omega)] at h3
    simp only [Array.getElem?_toList] at h3
    rw [Nat.zero_add, cell_of_row w g i cur _ _ hh, h3, i64s_get _ _ hi]
theorem wpList_appI {w : World} {ops : Array Oper} {rest : List Oper} {o : Oper} {a : Act} {Q : Exit → Act → World → Prop} (hgd : o.guard = none) (s x : Operand)
    (ho : o.op = .call { callee := .builtin .append, args := #[s, x], argTypes := #[48, 48] })
    (B : Nat) (v : Value) (l : List Int) (y : Int) (hs : a.eval s = v) (hown : OI w B v l) (gx c : Nat) (hx : a.eval x = .slice (some ⟨gx, 0, none⟩) 1 c)
    (h0 : w.cell? ⟨gx, 0, none⟩ = some (.int .i64 y)) (hl : l.length ≤ 1073741824) (hB : B ≤ w.heap.size)
    (h : ∀ g cap w', OI w' B (.slice (some ⟨g, 0, none⟩) (l.length + 1) cap) (l ++ [y]) → w.grownBy w' v.ownBlock → (v.ownBlock = some g ∨ g = w.heap.size) → wpList Tryz.prog ops Q rest (a.put o.dst (.slice (some ⟨g, 0, none⟩) (l.length + 1) cap)) w') : wpList Tryz.prog ops Q (o :: rest) a w := by
  obtain ⟨i0, hi, hz0, hz1, hz2⟩ := info_parts Tryz.infoI64
  refine wpList_append_lies w hgd s x 48 ho B 2 i0 _ 1 8 Tryz.underlying48 hi hz0 hz1 hz2 rfl (by decide) v l.length (i64s l).toList hs hown ⟨gx, 0, none⟩ 1 c [.int .i64 y] hx rfl ?_ ?_ (by decide) ?_ ?_ hB _ rfl ?_
  · intro j u hj
    rw [Addr.add_lit]
    match j, hj with
    | 0, hj => simp at hj; subst hj; exact h0
    | j + 1, hj => simp at hj
  · intro u hu
    simp at hu
    subst hu
    rfl
  · unfold maxLen; omega
  · omega
  · intro g cap w' h1 h2 h3 _
    refine h g cap w' ?_ h2 h3
    unfold OI
    rw [List.length_append]
    simpa [i64s] using h1

theorem step_appI (w : World) {ops : Array Oper} {o : Oper} {a : Act} {K : Act → World → Prop} {Q : Exit → Act → World → Prop} {E : Prop} (hgd : o.guard = none) (s x : Operand)
    (ho : o.op = .call { callee := .builtin .append, args := #[s, x], argTypes := #[48, 48] })
    (B : Nat) (v : Value) (l : List Int) (y : Int) (hs : a.eval s = v) (hown : OI w B v l) (gx c : Nat) (hx : a.eval x = .slice (some ⟨gx, 0, none⟩) 1 c)
    (h0 : w.cell? ⟨gx, 0, none⟩ = some (.int .i64 y)) (hl : l.length ≤ 1073741824) (hB : B ≤ w.heap.size)
    (h : ∀ g cap w', OI w' B (.slice (some ⟨g, 0, none⟩) (l.length + 1) cap) (l ++ [y]) → w.grownBy w' v.ownBlock → (v.ownBlock = some g ∨ g = w.heap.size) → K (a.put o.dst (.slice (some ⟨g, 0, none⟩) (l.length + 1) cap)) w') :
    if Region.wanted o (yielded ops a.tmps) = true then Oper.wp Tryz.prog o a w K Q else E := by
  obtain ⟨i0, hi, hz0, hz1, hz2⟩ := info_parts Tryz.infoI64
  refine step_append_lies w hgd s x 48 ho B 2 i0 _ 1 8 Tryz.underlying48 hi hz0 hz1 hz2 rfl (by decide) v l.length (i64s l).toList hs hown ⟨gx, 0, none⟩ 1 c [.int .i64 y] hx rfl ?_ ?_ (by decide) ?_ ?_ hB _ rfl ?_
  · intro j u hj
    rw [Addr.add_lit]
    match j, hj with
    | 0, hj => simp at hj; subst hj; exact h0
    | j + 1, hj => simp at hj
  · intro u hu
    simp at hu
    subst hu
    rfl
  · unfold maxLen; omega
  · omega
  · intro g cap w' h1 h2 h3 _
    refine h g cap w' ?_ h2 h3
    unfold OI
    rw [List.length_append]
    simpa [i64s] using h1

end Go.Proofs.YtkkboaiablfdbaaGreatDoor

/- What the functions on names answer: both say the same of each text. -/
namespace Go.Proofs.YtkkboaiablfdbaaGreatDoor
set_option linter.unusedVariables false
set_option linter.unusedSimpArgs false
open Go.RowKit

theorem letB_cases (c : Nat) : (c < 97 ∧ letB c = false) ∨ (97 ≤ c ∧ 122 < c ∧ letB c = false) ∨ (97 ≤ c ∧ c ≤ 122 ∧ letB c = true) := by
  unfold letB
  by_cases h1 : 97 ≤ c
  · by_cases h2 : c ≤ 122
    · exact .inr (.inr ⟨h1, h2, by simp [h1, h2]⟩)
    · exact .inr (.inl ⟨h1, by omega, by simp [h2]⟩)
  · exact .inl ⟨by omega, by simp [h1]⟩
theorem digB_cases (c : Nat) : (c < 48 ∧ digB c = false) ∨ (48 ≤ c ∧ 57 < c ∧ digB c = false) ∨ (48 ≤ c ∧ c ≤ 57 ∧ digB c = true) := by
  unfold digB
  by_cases h1 : 48 ≤ c
  · by_cases h2 : c ≤ 57
    · exact .inr (.inr ⟨h1, h2, by simp [h1, h2]⟩)
    · exact .inr (.inl ⟨h1, by omega, by simp [h2]⟩)
  · exact .inl ⟨by omega, by simp [h1]⟩

theorem letterByte_any (c : Nat) (hc : c < 256) (w : World) :
    Calls Tryz.prog 98 #[.int .u8 (c : Int)] w fun e w' => e = .returned (.bool (letB c)) ∧ w' = w := by
  rcases letB_cases c with ⟨h1, h⟩ | ⟨h0, h1, h⟩ | ⟨h0, h1, h⟩
  all_goals
    rw [h]
    clear h
    go_enter Tryz.func98, Tryz.ntmps98
    go_wp2
    go_ret
    first | exact ⟨rfl, rfl⟩ | exact ⟨ret_bool (by simp; omega), rfl⟩

theorem digitByte_any (c : Nat) (hc : c < 256) (w : World) :
    Calls Tryz.prog 99 #[.int .u8 (c : Int)] w fun e w' => e = .returned (.bool (digB c)) ∧ w' = w := by
  rcases digB_cases c with ⟨h1, h⟩ | ⟨h0, h1, h⟩ | ⟨h0, h1, h⟩
  all_goals
    rw [h]
    clear h
    go_enter Tryz.func99, Tryz.ntmps99
    go_wp2
    go_ret
    first | exact ⟨rfl, rfl⟩ | exact ⟨ret_bool (by simp; omega), rfl⟩

theorem l1Digit_any (c : Nat) (hc : c < 256) (w : World) :
    Calls Tryz.prog 96 #[.int .u8 (c : Int)] w fun e w' => e = .returned (.bool (digB c)) ∧ w' = w := by
  rcases digB_cases c with ⟨h1, h⟩ | ⟨h0, h1, h⟩ | ⟨h0, h1, h⟩
  all_goals
    rw [h]
    clear h
    go_enter Tryz.func96, Tryz.ntmps96
    go_wp2
    go_ret
    first | exact ⟨rfl, rfl⟩ | exact ⟨ret_bool (by simp; omega), rfl⟩

/-- A text that is too short or too long is no name. -/
theorem nmOk_size {s : ByteArray} (h : s.size < 1 ∨ 12 < s.size) : nmOk s = false := by
  unfold nmOk
  rcases h with h | h
  · rw [show decide (1 ≤ s.size) = false from decide_eq_false (by omega)]; rfl
  · rw [show decide (s.size ≤ 12) = false from decide_eq_false (by omega)]; simp
theorem nmOk_first {s : ByteArray} (h : letB (bn s 0) = false) : nmOk s = false := by simp [nmOk, h]
theorem nmOk_bad {s : ByteArray} {i : Nat} (hi : i < s.size) (h : nmB (bn s i) = false) : nmOk s = false := by
  have : allNm s = false := by
    rw [Bool.eq_false_iff]; intro h'
    have := (allNm_iff s).1 h' i hi
    rw [h] at this; cases this
  simp [nmOk, this]
theorem nmOk_all {s : ByteArray} (h1 : 1 ≤ s.size) (h2 : s.size ≤ 12) (h3 : letB (bn s 0) = true) (h : ∀ i, i < s.size → nmB (bn s i) = true) : nmOk s = true := by
  have := (allNm_iff s).2 h
  simp [nmOk, this, h1, h2, h3]

theorem nameOk_any (s : ByteArray) (hs : s.size ≤ 9223372036854775807) (w : World) :
    Calls Tryz.prog 73 #[.string s] w fun e w' => e = .returned (.bool (nmOk s)) ∧ w' = w := by
  have HB : Hid _ := get_bn s
  by_cases h1 : s.size < 1
  · rw [nmOk_size (.inl h1)]
    go_enter Tryz.func73, Tryz.ntmps73
    go_wp2_with fail
    go_ret
    exact ⟨rfl, rfl⟩
  by_cases h2 : 12 < s.size
  · rw [nmOk_size (.inr h2)]
    go_enter Tryz.func73, Tryz.ntmps73
    go_wp2_with fail
    go_ret
    exact ⟨rfl, rfl⟩
  have h0 : 0 < s.size := by omega
  have e1 := HB.out 0 h0
  have hL : ∀ u, Calls Tryz.prog 98 #[.int .u8 ((s[0]'h0).toNat : Int)] u fun e w' => e = .returned (.bool (letB (bn s 0))) ∧ w' = u := fun u => by
    have := letterByte_any (bn s 0) (bn_lt s 0) u
    rwa [← e1] at this ⊢
  have HL := kide hL
  clear hL e1
  by_cases h3 : letB (bn s 0) = true
  · rw [h3] at HL
    have HO := kide (fun h => nmOk_all (s := s) (by omega) (by omega) h3 h)
    have HN := kide (fun i hi h => nmOk_bad (s := s) (i := i) hi h)
    generalize nmOk s = R at *
    clear h3
    go_enter Tryz.func73, Tryz.ntmps73
    go_wp2_with (go_at_call 98; refine Calls.mono (HL.out _) ?_; rintro e w ⟨rfl, rfl⟩)
    clear HL
    go_loop [20] (fun q => ∃ k : Nat, k ≤ s.size ∧ q = .int .i64 (k : Int) ∧ ∀ i, i < k → nmB (bn s i) = true) (fun q => s.size - (intOf q).toNat)
    case atStart => exact ⟨0, Nat.zero_le _, rfl, fun i h => by omega⟩
    case round =>
      obtain ⟨k, hk2, rfl, hr⟩ := hrel
      have HK : Hid _ := hr
      clear hr
      by_cases hlt : k < s.size
      · have e1 := HB.out k hlt
        have hA : ∀ u, Calls Tryz.prog 98 #[.int .u8 ((s[k]'hlt).toNat : Int)] u fun e w' => e = .returned (.bool (letB (bn s k))) ∧ w' = u := fun u => by
          have := letterByte_any (bn s k) (bn_lt s k) u
          rwa [← e1] at this ⊢
        have hD : ∀ u, Calls Tryz.prog 99 #[.int .u8 ((s[k]'hlt).toNat : Int)] u fun e w' => e = .returned (.bool (digB (bn s k))) ∧ w' = u := fun u => by
          have := digitByte_any (bn s k) (bn_lt s k) u
          rwa [← e1] at this ⊢
        have HA := kide hA
        have HD := kide hD
        have H1 : Hid (letB (bn s k) = true → nmB (bn s k) = true) := fun h => by simp [nmB, h]
        have H2 : Hid (digB (bn s k) = true → nmB (bn s k) = true) := fun h => by simp [nmB, h]
        have H3 : Hid (letB (bn s k) = false → digB (bn s k) = false → R = false) := fun h h' => HN.out k hlt (by simp [nmB, h, h'])
        clear hA hD e1
        generalize letB (bn s k) = r at *
        generalize digB (bn s k) = r2 at *
        have hki : (k : Int) < (s.size : Int) := by omega
        cases r with
        | true =>
          go_wp2_with (go_at_call 98; refine Calls.mono (HA.out _) ?_; rintro e w ⟨rfl, rfl⟩)
          go_round
          case rel =>
            refine ⟨k + 1, by omega, by go_num, fun i hi => ?_⟩
            by_cases hik : i = k
            · rw [hik]; exact H1.out (by simp)
            · exact HK.out i (by omega)
          case measure => simp [intOf]; omega
        | false =>
          cases r2 with
          | true =>
            go_wp2_with (first | (go_at_call 98; refine Calls.mono (HA.out _) ?_; rintro e w ⟨rfl, rfl⟩) | (go_at_call 99; refine Calls.mono (HD.out _) ?_; rintro e w ⟨rfl, rfl⟩))
            go_round
            case rel =>
              refine ⟨k + 1, by omega, by go_num, fun i hi => ?_⟩
              by_cases hik : i = k
              · rw [hik]; exact H2.out (by simp)
              · exact HK.out i (by omega)
            case measure => simp [intOf]; omega
          | false =>
            go_wp2_with (first | (go_at_call 98; refine Calls.mono (HA.out _) ?_; rintro e w ⟨rfl, rfl⟩) | (go_at_call 99; refine Calls.mono (HD.out _) ?_; rintro e w ⟨rfl, rfl⟩))
            go_ret
            exact ⟨ret_bool (H3.out (by simp) (by simp)).symm, rfl⟩
      · go_wp2_with fail
        go_ret
        exact ⟨ret_bool (HO.out fun i hi => HK.out i (by omega)).symm, rfl⟩
  · rw [Bool.not_eq_true] at h3
    rw [h3] at HL
    rw [nmOk_first h3]
    clear h3
    go_enter Tryz.func73, Tryz.ntmps73
    go_wp2_with (go_at_call 98; refine Calls.mono (HL.out _) ?_; rintro e w1 ⟨rfl, rfl⟩)
    go_ret
    exact ⟨rfl, rfl⟩

theorem l1Name_any (s : ByteArray) (hs : s.size ≤ 9223372036854775807) (w : World) :
    Calls Tryz.prog 68 #[.string s] w fun e w' => e = .returned (.bool (nmOk s)) ∧ w' = w := by
  have HB : Hid _ := get_bn s
  by_cases h1 : s.size < 1
  · rw [nmOk_size (.inl h1)]
    go_enter Tryz.func68, Tryz.ntmps68
    go_wp2_with fail
    go_ret
    exact ⟨rfl, rfl⟩
  by_cases h2 : 12 < s.size
  · rw [nmOk_size (.inr h2)]
    go_enter Tryz.func68, Tryz.ntmps68
    go_wp2_with fail
    go_ret
    exact ⟨rfl, rfl⟩
  have h0 : 0 < s.size := by omega
  have e1 := HB.out 0 h0
  have hL : ∀ u, Calls Tryz.prog 96 #[.int .u8 ((s[0]'h0).toNat : Int)] u fun e w' => e = .returned (.bool (digB (bn s 0))) ∧ w' = u := fun u => by
    have := l1Digit_any (bn s 0) (bn_lt s 0) u
    rwa [← e1] at this ⊢
  have HL := kide hL
  clear hL e1
  by_cases h3 : digB (bn s 0) = true
  · rw [h3] at HL
    have h4 : letB (bn s 0) = false := by
      simp [digB] at h3
      simp [letB]; omega
    rw [nmOk_first h4]
    clear h3 h4
    go_enter Tryz.func68, Tryz.ntmps68
    go_wp2_with (go_at_call 96; refine Calls.mono (HL.out _) ?_; rintro e w1 ⟨rfl, rfl⟩)
    go_ret
    exact ⟨rfl, rfl⟩
  · rw [Bool.not_eq_true] at h3
    rw [h3] at HL
    have HO : Hid ((∀ i, i < s.size → nmB (bn s i) = true) → nmOk s = true) := fun h => nmOk_all (s := s) (by omega) (by omega) (by have := h 0 h0; simpa [nmB, h3] using this) h
    have HN := kide (fun i hi h => nmOk_bad (s := s) (i := i) hi h)
    generalize nmOk s = R at *
    clear h3
    go_enter Tryz.func68, Tryz.ntmps68
    go_wp2_with (go_at_call 96; refine Calls.mono (HL.out _) ?_; rintro e w ⟨rfl, rfl⟩)
    clear HL
    go_loop [3] (fun q => ∃ k : Nat, k ≤ s.size ∧ q = .int .i64 (k : Int) ∧ ∀ i, i < k → nmB (bn s i) = true) (fun q => s.size - (intOf q).toNat)
    case atStart => exact ⟨0, Nat.zero_le _, rfl, fun i h => by omega⟩
    case round =>
      obtain ⟨k, hk2, rfl, hr⟩ := hrel
      have HK : Hid _ := hr
      clear hr
      by_cases hlt : k < s.size
      · have e1 := HB.out k hlt
        have hD : ∀ u, Calls Tryz.prog 96 #[.int .u8 ((s[k]'hlt).toNat : Int)] u fun e w' => e = .returned (.bool (digB (bn s k))) ∧ w' = u := fun u => by
          have := l1Digit_any (bn s k) (bn_lt s k) u
          rwa [← e1] at this ⊢
        have HD := kide hD
        have hci := letB_cases (bn s k)
        rw [← e1] at hci
        have H1 : Hid (letB (bn s k) = true → nmB (bn s k) = true) := fun h => by simp [nmB, h]
        have H2 : Hid (digB (bn s k) = true → nmB (bn s k) = true) := fun h => by simp [nmB, h]
        have H3 : Hid (letB (bn s k) = false → digB (bn s k) = false → R = false) := fun h h' => HN.out k hlt (by simp [nmB, h, h'])
        have E1 := kide e1
        clear hD e1
        generalize digB (bn s k) = r2 at *
        have hki : (k : Int) < (s.size : Int) := by omega
        cases r2 with
        | true =>
          go_wp2_with (go_at_call 96; refine Calls.mono (HD.out _) ?_; rintro e w ⟨rfl, rfl⟩)
          go_round
          case rel =>
            refine ⟨k + 1, by omega, by go_num, fun i hi => ?_⟩
            by_cases hik : i = k
            · rw [hik]; exact H2.out (by simp)
            · exact HK.out i (by omega)
          case measure => simp [intOf]; omega
        | false =>
          rcases hci with ⟨h1, h⟩ | ⟨h0, h1, h⟩ | ⟨h0, h1, h⟩
          · have H := kide (H3.out (by rw [← E1.out]; exact h) (by simp))
            clear h H1 H3
            go_wp2_with (go_at_call 96; refine Calls.mono (HD.out _) ?_; rintro e w ⟨rfl, rfl⟩)
            go_ret
            exact ⟨ret_bool H.out.symm, rfl⟩
          · have H := kide (H3.out (by rw [← E1.out]; exact h) (by simp))
            clear h H1 H3
            go_wp2_with (go_at_call 96; refine Calls.mono (HD.out _) ?_; rintro e w ⟨rfl, rfl⟩)
            go_ret
            exact ⟨ret_bool H.out.symm, rfl⟩
          · have H := kide (H1.out (by rw [← E1.out]; exact h))
            clear h H1 H3
            go_wp2_with (go_at_call 96; refine Calls.mono (HD.out _) ?_; rintro e w ⟨rfl, rfl⟩)
            go_round
            case rel =>
              refine ⟨k + 1, by omega, by go_num, fun i hi => ?_⟩
              by_cases hik : i = k
              · rw [hik]; exact H.out
              · exact HK.out i (by omega)
            case measure => simp [intOf]; omega
      · go_wp2_with fail
        go_ret
        exact ⟨ret_bool (HO.out fun i hi => HK.out i (by omega)).symm, rfl⟩

end Go.Proofs.YtkkboaiablfdbaaGreatDoor

/- What placesOf answers: a map that holds each name once. -/
namespace Go.Proofs.YtkkboaiablfdbaaGreatDoor
set_option linter.unusedVariables false
set_option linter.unusedSimpArgs false
open Go.RowKit Go.WideMaps Go.Maps

theorem mlaw : Keyed Tryz.prog 9 := string_keyed Tryz.underlying9

theorem make_places (k : IntKind) (n : Int) (w : World) : (Instr.makeMap 110 (some (.int k n))).run Tryz.prog w = .ok (.map (some w.heap.size)) (w.alloc (.map #[] 0)) := by
  have h := Tryz.underlying110
  simp [Instr.makeMap, go_sem, h]

/-- The block g is a map that holds the names of ds, each once, with its place. -/
def PlAt (w : World) (g : Nat) (l : List ByteArray) : Prop := ∃ D : DataW Unit, w.ownsMap Tryz.prog 9 (plainElem Tryz.prog 2) g l.length D ∧ Pl D l

set_option maxRecDepth 100000 in
theorem placesOf_any (a : Option Addr) (c : Nat) (ds : List Dc) (w : World) (hr : RdD w a ds) (hn : ∀ d ∈ ds, d.1.size ≤ 1048576) :
    Calls Tryz.prog 76 #[.slice a ds.length c] w fun e w' => e = .returned (.map (some w.heap.size)) ∧ PlAt w' w.heap.size (ds.map Prod.fst) ∧ Below w.heap.size w w' := by
  have hlen := hr.1
  have hmm := make_places
  go_enter Tryz.func76, Tryz.ntmps76
  go_wp2_with fail
  go_loopw [11] (fun i wr => ∃ k : Nat, k ≤ ds.length ∧ i = .int .i64 (k : Int) ∧ PlAt wr w.heap.size ((ds.take k).map Prod.fst) ∧ Below w.heap.size w wr) (fun i _ => ds.length - (intOf i).toNat)
  case atStart => exact ⟨0, Nat.zero_le _, rfl, ⟨_, World.ownsMap_made _ _ _ _, Pl.start⟩, (Below.refl _ _).alloc (Nat.le_refl _) _⟩
  case round =>
    obtain ⟨k, hk, rfl, ⟨D, hown, hpl⟩, hbel⟩ := hrel
    clear hmm
    by_cases hlt : k < ds.length
    · obtain ⟨-, -, h | ⟨b, o, rfl, hc⟩⟩ := hr
      · subst h; simp at hlt
      obtain ⟨⟨t, x⟩, hh⟩ : ∃ x, ds[k] = x := ⟨_, rfl⟩
      have gx : ds[k]? = some (t, x) := by rw [List.getElem?_eq_getElem hlt, hh]
      obtain ⟨p0, p1⟩ := (hc k _ gx).later hbel
      simp only [] at p0 p1
      have hts := hn _ (List.mem_of_getElem? gx)
      simp only [] at hts
      have hkey : keyOf Tryz.prog 9 (.string t) = some (kyOf t) := keyOf_string_mk Tryz.underlying9 (by unfold maxLen; omega)
      have hml : ((ds.take k).map Prod.fst).length = k := by simp; omega
      rw [hml] at hown
      have hst := hpl.step t trivial
      rw [hml] at hst
      have HST := kide hst
      have HTK : Hid ((ds.take (k + 1)).map Prod.fst = (ds.take k).map Prod.fst ++ [t]) := by
        show _ = _
        rw [List.take_add_one, gx]; simp
      have HB : Hid _ := hbel
      have hsz : w.heap.size < wr.heap.size := hown.lt
      have HOW := kide hown
      have i0 : (k : Int) < (ds.length : Int) := by omega
      clear hc hh gx hbel hpl hst hml hn
      go_wp2_with (first
        | (at_mapUpdate; refine wpList_mapUpdate_own _ rfl _ _ _ 110 rfl 9 2 mlaw Tryz.underlying110 _ w.heap.size k _ rfl (HOW.out.alloc _) (by unfold maxLen; omega) _ _ _ rfl rfl hkey _ [] (plainElem_int Tryz.underlying2 (WalkArith.wf_i64 (by omega))) ?_)
        | fail)
      intro w1 hown1 hg1
      have HR1 : Hid _ := hown1
      have HR2 := kide ((HB.out.alloc HB.out.size _).grown hg1 (by have := HB.out.size; simp; omega) (fun j hj => by cases hj; exact Nat.le_refl _))
      clear hown1 hg1 hown
      go_wp2_with fail
      go_roundw
      case rel =>
        refine ⟨k + 1, by omega, by go_num, ⟨_, ?_, by rw [HTK.out]; exact HST.out⟩, HR2.out⟩
        have h := HR1.out
        have e : ((ds.take (k + 1)).map Prod.fst).length = k + 1 := by simp; omega
        rw [e]; exact h
      case measure => simp [intOf]; omega
    · have e : k = ds.length := by omega
      have HB : Hid _ := hbel
      rw [e, List.take_length] at hown hpl
      have HP : Hid (PlAt wr w.heap.size (ds.map Prod.fst)) := ⟨D, hown, hpl⟩
      clear hbel hown hpl e
      go_wp2_with fail
      go_ret
      exact ⟨rfl, HP.out, HB.out⟩

end Go.Proofs.YtkkboaiablfdbaaGreatDoor

/- What the given DeclsOk answers. -/
namespace Go.Proofs.YtkkboaiablfdbaaGreatDoor
set_option linter.unusedVariables false
set_option linter.unusedSimpArgs false
open Go.RowKit Go.WideMaps Go.Maps

set_option maxHeartbeats 1000000 in
theorem specDecls_any (a : Option Addr) (c : Nat) (ds : List Dc) (w : World) (hr : RdD w a ds) :
    Calls Tryz.prog 52 #[.slice a ds.length c] w fun e w' => e = .returned (.bool (dclR ds)) ∧ Below w.heap.size w w' := by
  have hlen := hr.1
  by_cases h60 : ds.length ≤ 60
  · go_enter Tryz.func52, Tryz.ntmps52
    go_wp2_with fail
    have HLN := kide hlen
    clear hlen
    go_loopw [3, 4] (fun q i wr => ∃ k : Nat, k ≤ ds.length ∧ i = .int .i64 (k : Int) ∧ q = .int .i64 (sumW (ds.take k)) ∧ (∀ d ∈ ds.take k, dcOk d = true) ∧ ((ds.take k).map Prod.fst).Nodup ∧ Below w.heap.size w wr) (fun _ i _ => ds.length - (intOf i).toNat)
    case atStart => exact ⟨0, Nat.zero_le _, rfl, by simp [sumW], by simp, by simp, Below.refl _ _⟩
    case round =>
      obtain ⟨k, hk, rfl, rfl, hok, hnd, hbel⟩ := hrel
      have HB := kide hbel
      by_cases hlt : k < ds.length
      · obtain ⟨-, hsz, h | ⟨b, o, rfl, hc⟩⟩ := hr
        · subst h; simp at hlt
        obtain ⟨⟨t, x⟩, hh⟩ : ∃ x, ds[k] = x := ⟨_, rfl⟩
        have gx : ds[k]? = some (t, x) := by rw [List.getElem?_eq_getElem hlt, hh]
        obtain ⟨p0, p1⟩ := (hc k _ gx).later hbel
        simp only [] at p0 p1
        obtain ⟨hx64, hts⟩ := hsz _ (List.mem_of_getElem? gx)
        simp only [] at hx64 hts
        have i0 : (k : Int) < (ds.length : Int) := by omega
        have HC := kide hc
        have GX := kide gx
        have hsum := sumW_le hok
        have hst := sumW_take gx
        simp only [] at hst
        have htl : (ds.take k).length = k := by simp; omega
        rw [htl] at hsum
        have HST := kide hst
        have HOK := kide hok
        have HND := kide hnd
        have hN : ∀ u, Calls Tryz.prog 68 #[.string t] u fun e w' => e = .returned (.bool (nmOk t)) ∧ w' = u := fun u => l1Name_any t hts u
        have hW : ∀ u, Calls Tryz.prog 18 #[.int .i64 x, .int .i64 1, .int .i64 4096] u fun e w' => e = .returned (.bool (wOk x)) ∧ w' = u := fun u => l1In_any x 1 4096 u
        have HN := kide hN
        have HW := kide hW
        have HBAD : Hid (nmOk t = false ∨ wOk x = false → dclR ds = false) := fun h => dclR_bad gx (by rcases h with h | h <;> simp [dcOk, h])
        have HGOOD : Hid (nmOk t = true → wOk x = true → dcOk (t, x) = true) := fun h h' => by simp [dcOk, h, h']
        have hwx : wOk x = true → 1 ≤ x ∧ x ≤ 4096 := fun h => by simpa [wOk] using h
        clear hN hW hc gx hh hsz hok hnd hst htl hbel
        generalize sumW (ds.take k) = Q at *
        generalize nmOk t = r1 at *
        cases r1 with
        | false =>
          have HR := kide (HBAD.out (.inl (by simp)))
          go_wp2_with (go_at_call 68; refine Calls.mono (HN.out _) ?_; rintro e w1 ⟨rfl, rfl⟩)
          go_ret
          exact ⟨ret_bool HR.out.symm, HB.out⟩
        | true =>
          generalize wOk x = r2 at *
          cases r2 with
          | false =>
            have HR := kide (HBAD.out (.inr (by simp)))
            go_wp2_with (first | (go_at_call 68; refine Calls.mono (HN.out _) ?_; rintro e wr ⟨rfl, rfl⟩) | (go_at_call 18; refine Calls.mono (HW.out _) ?_; rintro e wr ⟨rfl, rfl⟩))
            go_ret
            exact ⟨ret_bool HR.out.symm, HB.out⟩
          | true =>
            have hx := hwx (by simp)
            obtain ⟨hx1, hx2⟩ := hx
            have HG := kide (HGOOD.out (by simp) (by simp))
            clear HBAD HGOOD hwx
            go_wp2_with (first | (go_at_call 68; refine Calls.mono (HN.out _) ?_; rintro e wr ⟨rfl, rfl⟩) | (go_at_call 18; refine Calls.mono (HW.out _) ?_; rintro e wr ⟨rfl, rfl⟩))
            obtain ⟨hs1, hs2⟩ := hsum
            have hlk := block_lt_of_cell p0
            rename_i wo
            go_loopw [5] (fun i wr => ∃ j : Nat, j ≤ k ∧ i = .int .i64 (j : Int) ∧ (∀ i d, i < j → ds[i]? = some d → d.1 ≠ t) ∧ Below w.heap.size w wr) (fun i _ => k - (intOf i).toNat)
            case atStart => exact ⟨0, Nat.zero_le _, rfl, fun i d h => by omega, HB.out⟩
            case round =>
              obtain ⟨j, hj, rfl, hne, hbel⟩ := hrel
              clear p0 p1 HB
              obtain ⟨p0, p1⟩ := (HC.out k _ GX.out).later hbel
              simp only [] at p0 p1
              have HB := kide hbel
              have HNE := kide hne
              clear hbel hne
              by_cases hjk : j < k
              · obtain ⟨⟨t2, x2⟩, hh2⟩ : ∃ x, ds[j]'(by omega) = x := ⟨_, rfl⟩
                have gx2 : ds[j]? = some (t2, x2) := by rw [List.getElem?_eq_getElem (by omega), hh2]
                obtain ⟨q0, q1⟩ := (HC.out j _ gx2).later HB.out
                simp only [] at q0 q1
                have GX2 := kide gx2
                have j0 : (j : Int) < (k : Int) := by omega
                have j1 : (j : Int) < (ds.length : Int) := by omega
                clear gx2 hh2
                by_cases ht : t2 = t
                · subst ht
                  have HR : Hid (dclR ds = false) := by
                    show _ = _
                    rw [Bool.eq_false_iff]; intro h'
                    have hnd := (dclR_iff.1 h').2.2.2
                    have h1 : (ds.map Prod.fst)[j]? = some t2 := by simp [GX2.out]
                    have h2 : (ds.map Prod.fst)[k]? = some t2 := by simp [GX.out]
                    have := (List.getElem?_inj (by simp; omega) hnd).1 (h1.trans h2.symm)
                    omega
                  go_wp2_with fail
                  go_quiet (fail)
                  go_wp2_with fail
                  go_ret
                  exact ⟨ret_bool HR.out.symm, below_drewN HB.out _⟩
                · have hne2 := kstr_ne ht
                  have HT := kide ht
                  clear ht
                  go_wp2_with fail
                  go_quiet (fail)
                  go_wp2_with fail
                  go_roundw
                  case rel =>
                    refine ⟨j + 1, by omega, by go_num, fun i d hi hd => ?_, below_drewN HB.out _⟩
                    by_cases hij : i = j
                    · subst hij
                      rw [GX2.out] at hd
                      cases hd
                      exact HT.out
                    · exact HNE.out i d (by omega) hd
                  case measure => simp [intOf]; omega
              · have hjk' : j = k := by omega
                have HJ := kide hjk'
                clear hjk'
                go_wp2_with fail
                go_roundw
                case rel =>
                  refine ⟨k + 1, by omega, by go_num, ?_, ?_, ?_, HB.out⟩
                  · rw [HST.out]
                  · intro d hd
                    rw [List.take_add_one, GX.out] at hd
                    rcases List.mem_append.1 hd with hd | hd
                    · exact HOK.out d hd
                    · simp at hd
                      subst hd
                      exact HG.out
                  · rw [List.take_add_one, GX.out, List.map_append]
                    refine List.nodup_append.2 ⟨HND.out, by simp, fun y hy z hz => ?_⟩
                    simp at hz
                    subst hz
                    obtain ⟨d, hd, rfl⟩ := List.mem_map.1 hy
                    obtain ⟨i, hi, hid⟩ := List.mem_iff_getElem.1 hd
                    simp at hi hid
                    have := HNE.out i d (by rw [HJ.out]; omega) (by rw [List.getElem?_eq_getElem (by omega)]; exact congrArg some hid)
                    exact this
                case measure => simp [intOf]; omega
      · have e : k = ds.length := by omega
        rw [e, List.take_length] at hok hnd
        have hs := sumW_le hok
        have HR : Hid (dclR ds = decide (sumW (ds.take k) ≤ 20000)) := by
          show _ = _
          rw [e, List.take_length]
          rw [Bool.eq_iff_iff, dclR_iff, decide_eq_true_eq]
          exact ⟨fun h => h.2.2.1, fun h => ⟨h60, hok, h, hnd⟩⟩
        generalize sumW (ds.take k) = Q at *
        clear hok hnd hbel hs e
        go_wp2_with fail
        go_ret
        exact ⟨ret_bool HR.out.symm, HB.out⟩
  · rw [dclR_long (by omega)]
    go_enter Tryz.func52, Tryz.ntmps52
    go_wp2_with fail
    go_ret
    exact ⟨rfl, Below.refl _ _⟩

end Go.Proofs.YtkkboaiablfdbaaGreatDoor

/- What the program's DeclsOk answers. -/
namespace Go.Proofs.YtkkboaiablfdbaaGreatDoor
set_option linter.unusedVariables false
set_option linter.unusedSimpArgs false
open Go.RowKit Go.WideMaps Go.Maps

set_option maxHeartbeats 1000000 in
theorem totalWidth_any (a : Option Addr) (c : Nat) (ds : List Dc) (w : World) (hr : RdD w a ds) (h60 : ds.length ≤ 60) (hok : ∀ d ∈ ds, dcOk d = true) :
    Calls Tryz.prog 75 #[.slice a ds.length c] w fun e w' => e = .returned (.int .i64 (sumW ds)) ∧ Below w.heap.size w w' := by
  have HLN := kide hr.1
  have HALL := kide hok
  go_enter Tryz.func75, Tryz.ntmps75
  clear hok
  go_wp2_with fail
  go_loopw [3, 8] (fun q i wr => ∃ k : Nat, k ≤ ds.length ∧ i = .int .i64 (k : Int) ∧ q = .int .i64 (sumW (ds.take k)) ∧ Below w.heap.size w wr) (fun _ i _ => ds.length - (intOf i).toNat)
  case atStart => exact ⟨0, Nat.zero_le _, rfl, by simp [sumW], Below.refl _ _⟩
  case round =>
    obtain ⟨k, hk, rfl, rfl, hbel⟩ := hrel
    have HB := kide hbel
    by_cases hlt : k < ds.length
    · obtain ⟨-, hsz, h | ⟨b, o, rfl, hc⟩⟩ := hr
      · subst h; simp at hlt
      obtain ⟨⟨t, x⟩, hh⟩ : ∃ x, ds[k] = x := ⟨_, rfl⟩
      have gx : ds[k]? = some (t, x) := by rw [List.getElem?_eq_getElem hlt, hh]
      obtain ⟨p0, p1⟩ := (hc k _ gx).later hbel
      simp only [] at p0 p1
      obtain ⟨hx64, hts⟩ := hsz _ (List.mem_of_getElem? gx)
      simp only [] at hx64 hts
      have i0 : (k : Int) < (ds.length : Int) := by omega
      have hsum := sumW_le (fun d hd => HALL.out d (List.mem_of_mem_take hd) : ∀ d ∈ ds.take k, dcOk d = true)
      have hst := sumW_take gx
      simp only [] at hst
      have htl : (ds.take k).length = k := by simp; omega
      rw [htl] at hsum
      have HST := kide hst
      have hx := (dcOk_iff.1 (HALL.out _ (List.mem_of_getElem? gx))).2
      simp [wOk] at hx
      obtain ⟨hx1, hx2⟩ := hx
      obtain ⟨hs1, hs2⟩ := hsum
      have HA := kide ((HB.out.alloc HB.out.size (Obj.cells #[Value.string t, Value.int .i64 x] 47)))
      clear hc gx hh hsz hst htl hbel
      generalize sumW (ds.take k) = Q at *
      go_wp2_with fail
      go_roundw
      case rel =>
        refine ⟨k + 1, by omega, by go_num, ?_, HA.out⟩
        rw [HST.out]
      case measure => simp [intOf]; omega
    · have e : k = ds.length := by omega
      have HE : Hid (sumW (ds.take k) = sumW ds) := by
        show _ = _
        rw [e, List.take_length]
      generalize sumW (ds.take k) = Q at *
      clear hbel e
      go_wp2_with fail
      go_ret
      exact ⟨by rw [HE.out]; rfl, HB.out⟩

set_option maxHeartbeats 1000000 in
theorem implDecls_any (a : Option Addr) (c : Nat) (ds : List Dc) (w : World) (hr : RdD w a ds) :
    Calls Tryz.prog 58 #[.slice a ds.length c] w fun e w' => e = .returned (.bool (dclR ds)) ∧ Below w.heap.size w w' := by
  have hlen := hr.1
  by_cases h60 : ds.length ≤ 60
  · go_enter Tryz.func58, Tryz.ntmps58
    go_wp2_with fail
    have HLN := kide hlen
    clear hlen
    go_loopw [10] (fun i wr => ∃ k : Nat, k ≤ ds.length ∧ i = .int .i64 (k : Int) ∧ (∀ d ∈ ds.take k, dcOk d = true) ∧ Below w.heap.size w wr) (fun i _ => ds.length - (intOf i).toNat)
    case atStart => exact ⟨0, Nat.zero_le _, rfl, by simp, Below.refl _ _⟩
    case round =>
      obtain ⟨k, hk, rfl, hok, hbel⟩ := hrel
      have HB := kide hbel
      by_cases hlt : k < ds.length
      · obtain ⟨-, hsz, h | ⟨b, o, rfl, hc⟩⟩ := hr
        · subst h; simp at hlt
        obtain ⟨⟨t, x⟩, hh⟩ : ∃ x, ds[k] = x := ⟨_, rfl⟩
        have gx : ds[k]? = some (t, x) := by rw [List.getElem?_eq_getElem hlt, hh]
        obtain ⟨p0, p1⟩ := (hc k _ gx).later hbel
        simp only [] at p0 p1
        obtain ⟨hx64, hts⟩ := hsz _ (List.mem_of_getElem? gx)
        simp only [] at hx64 hts
        have i0 : (k : Int) < (ds.length : Int) := by omega
        have GX := kide gx
        have hsum := sumW_le hok
        have hst := sumW_take gx
        simp only [] at hst
        have htl : (ds.take k).length = k := by simp; omega
        rw [htl] at hsum
        have HST := kide hst
        have HOK := kide hok
        have hN : ∀ u, Calls Tryz.prog 73 #[.string t] u fun e w' => e = .returned (.bool (nmOk t)) ∧ w' = u := fun u => nameOk_any t hts u
        have hW : ∀ u, Calls Tryz.prog 74 #[.int .i64 x] u fun e w' => e = .returned (.bool (wOk x)) ∧ w' = u := fun u => widthOk_any x u
        have HN := kide hN
        have HW := kide hW
        have HBAD : Hid (nmOk t = false ∨ wOk x = false → dclR ds = false) := fun h => dclR_bad gx (by rcases h with h | h <;> simp [dcOk, h])
        have HGOOD : Hid (nmOk t = true → wOk x = true → dcOk (t, x) = true) := fun h h' => by simp [dcOk, h, h']
        have hwx : wOk x = true → 1 ≤ x ∧ x ≤ 4096 := fun h => by simpa [wOk] using h
        have HA := kide ((HB.out.alloc HB.out.size (Obj.cells #[Value.string t, Value.int .i64 x] 47)))
        clear hN hW hc gx hh hsz hok hst htl hbel
        generalize sumW (ds.take k) = Q at *
        generalize nmOk t = r1 at *
        cases r1 with
        | false =>
          have HR := kide (HBAD.out (.inl (by simp)))
          go_wp2_with (go_at_call 73; refine Calls.mono (HN.out _) ?_; rintro e w1 ⟨rfl, rfl⟩)
          go_ret
          exact ⟨ret_bool HR.out.symm, HA.out⟩
        | true =>
          generalize wOk x = r2 at *
          cases r2 with
          | false =>
            have HR := kide (HBAD.out (.inr (by simp)))
            go_wp2_with (first | (go_at_call 73; refine Calls.mono (HN.out _) ?_; rintro e w1 ⟨rfl, rfl⟩) | (go_at_call 74; refine Calls.mono (HW.out _) ?_; rintro e w1 ⟨rfl, rfl⟩))
            go_ret
            exact ⟨ret_bool HR.out.symm, HA.out⟩
          | true =>
            have hx := hwx (by simp)
            obtain ⟨hx1, hx2⟩ := hx
            obtain ⟨hs1, hs2⟩ := hsum
            have HG := kide (HGOOD.out (by simp) (by simp))
            clear HBAD HGOOD hwx
            go_wp2_with (first | (go_at_call 73; refine Calls.mono (HN.out _) ?_; rintro e w1 ⟨rfl, rfl⟩) | (go_at_call 74; refine Calls.mono (HW.out _) ?_; rintro e w1 ⟨rfl, rfl⟩))
            go_roundw
            case rel =>
              refine ⟨k + 1, by omega, by go_num, ?_, HA.out⟩
              · intro d hd
                rw [List.take_add_one, GX.out] at hd
                rcases List.mem_append.1 hd with hd | hd
                · exact HOK.out d hd
                · simp at hd
                  subst hd
                  exact HG.out
            case measure => simp [intOf]; omega
      · have e : k = ds.length := by omega
        rw [e, List.take_length] at hok
        have hs := sumW_le hok
        rw [← List.take_length (l := ds), ← e] at hs
        have HR : Hid (dclR ds = (decide (sumW (ds.take k) ≤ 20000) && decide ((ds.map Prod.fst).Nodup))) := by
          show _ = _
          rw [e, List.take_length]
          rw [Bool.eq_iff_iff, dclR_iff, Bool.and_eq_true, decide_eq_true_eq, decide_eq_true_eq]
          exact ⟨fun h => ⟨h.2.2.1, h.2.2.2⟩, fun h => ⟨h60, hok, h.1, h.2⟩⟩
        have hnm : ∀ d ∈ ds, d.1.size ≤ 1048576 := fun d hd => by
          have := (dcOk_iff.1 (hok d hd)).1
          simp [nmOk] at this
          omega
        have HP := kide (fun u (hu : Below w.heap.size w u) => placesOf_any a c ds u (hr.later hu) hnm)
        have HT := kide (totalWidth_any a c ds wr (hr.later hbel) h60 hok)
        rw [e, List.take_length] at HR hs
        generalize sumW ds = Q at *
        clear hok hbel hs e hnm
        go_wp2_with fail
        refine Calls.mono HT.out ?_
        rintro e wt ⟨rfl, hbt⟩
        have HBT := kide (HB.out.trans (hbt.mono HB.out.size))
        clear hbt
        by_cases hq : Q ≤ 20000
        · have HR2 : Hid (dclR ds = decide ((ds.map Prod.fst).Nodup)) := by
            show _ = _
            rw [HR.out, decide_eq_true hq]; rfl
          go_wp2_with (go_at_call 76; refine Calls.mono (HP.out _ HBT.out) ?_; rintro e w1 ⟨rfl, ⟨D, hown, hpl⟩, hb1⟩; have hml := fun ty => hown.len Tryz.underlying110 ty; have HD : Hid (decide ((ds.map Prod.fst).Nodup) = decide (Maps.size D = ds.length)) := (by show _ = _; rw [Bool.eq_iff_iff, decide_eq_true_eq, decide_eq_true_eq, ← hpl.nodup, List.length_map]); have hle := hpl.le; rw [List.length_map] at hle; clear hown hpl; generalize Maps.size D = n at *)
          go_ret
          exact ⟨ret_bool (by rw [HR2.out, HD.out, Bool.eq_iff_iff]; simp; omega), HBT.out.trans (hb1.mono HBT.out.size)⟩
        · have HR2 : Hid (dclR ds = false) := by
            show _ = _
            rw [HR.out, decide_eq_false hq]; rfl
          go_wp2_with fail
          go_ret
          exact ⟨ret_bool HR2.out.symm, HBT.out⟩
  · rw [dclR_long (by omega)]
    go_enter Tryz.func58, Tryz.ntmps58
    go_wp2_with fail
    go_ret
    exact ⟨rfl, Below.refl _ _⟩

end Go.Proofs.YtkkboaiablfdbaaGreatDoor
