/- Several texts in one. -/
import Derived.Test.YtkngpgonmedgpaaGreatDoorGAG
import Derived.Maps.Own
import Derived.Maps.OwnSet
import Derived.Test.YtkngpgonmedgpaaGreatDoorQ
import Derived.Deep.RegionHeld3
import Derived.Deep.AppendLies
import Derived.Test.YtkngpgonmedgpaaGreatDoorGAE
namespace Go.Proofs.YtkngpgonmedgpaaGreatDoor
open Go.RowKit
set_option linter.unusedVariables false
set_option linter.unusedSimpArgs false
open Go.RowKit Go.WideMaps Go.Maps
theorem mlaw : Keyed Tryz.prog 9 := string_keyed Tryz.underlying9
theorem make_places (k : IntKind) (n : Int) (w : World) : (Instr.makeMap 145 (some (.int k n))).run Tryz.prog w = .ok (.map (some w.heap.size)) (w.alloc (.map #[] 0)) := by
 have h := Tryz.underlying145
 simp [Instr.makeMap, go_sem, h]
def PlAt (w : World) (g : Nat) (l : List ByteArray) : Prop := ∃ D : DataW Unit, w.ownsMap Tryz.prog 9 (plainElem Tryz.prog 2) g l.length D ∧ Pl D l
set_option maxRecDepth 100000 in
theorem placesOf_any (a : Option Addr) (c : Nat) (ds : List Dc) (w : World) (hr : RdD w a ds) (hn : ∀ d ∈ ds, d.1.size ≤ 1048576) :
  Calls Tryz.prog 104 #[.slice a ds.length c] w fun e w' => e = .returned (.map (some w.heap.size)) ∧ PlAt w' w.heap.size (ds.map Prod.fst) ∧ Below w.heap.size w w' := by
 have hlen := hr.1
 have hmm := make_places
 go_enter Tryz.func104, Tryz.ntmps104
 go_wp2_with fail
 go_loopw [11] (fun i wr => ∃ k : Nat, k ≤ ds.length ∧ i = .int .i64 (k : Int) ∧ PlAt wr w.heap.size ((ds.take k).map Prod.fst) ∧ Below w.heap.size w wr) (fun i _ => ds.length - (intOf i).toNat)
 case atStart => exact ⟨0, Nat.zero_le _, rfl, ⟨_, World.ownsMap_made _ _ _ _, Pl.start⟩, (Below.refl _ _).alloc (Nat.le_refl _) _⟩
 case round =>
  obtain ⟨k, hk, rfl, ⟨D, hown, hpl⟩, hbel⟩ := hrel
  clear hmm
  by_cases hlt : k < ds.length
  ·obtain ⟨-, -, h | ⟨b, o, rfl, hc⟩⟩ := hr
   ·subst h; simp at hlt
   obtain ⟨⟨t, x⟩, hh⟩ : ∃ x, ds[k] = x := ⟨_, rfl⟩
   have gx : ds[k]? = some (t, x) := by rw [List.getElem?_eq_getElem hlt, hh]
   obtain ⟨p0, p1⟩ := (hc k _ gx).later hbel
   simp only [] at p0 p1
   have hts := hn _ (List.mem_of_getElem? gx)
   simp only [] at hts
   have hkey : keyOf Tryz.prog 9 (.string t) = some (kyOf t) := keyOf_string_mk Tryz.underlying9 (by unfold maxLen; omega)
   have hml : ((ds.take k).map Prod.fst).length = k := by simp; omega
   rw [hml] at hown
   have hst := hpl.step t trivial
   rw [hml] at hst
   have HST := kide hst
   have HTK : Hid ((ds.take (k + 1)).map Prod.fst = (ds.take k).map Prod.fst ++ [t]) := by
    show _ = _
    rw [List.take_add_one, gx]; simp
   have HB : Hid _ := hbel
   have hsz : w.heap.size < wr.heap.size := hown.lt
   have HOW := kide hown
   have i0 : (k : Int) < (ds.length : Int) := by omega
   clear hc hh gx hbel hpl hst hml hn
   go_wp2_with (first
    | (at_mapUpdate; refine wpList_mapUpdate_own _ rfl _ _ _ 145 rfl 9 2 mlaw Tryz.underlying145 _ w.heap.size k _ rfl (HOW.out.alloc _) (by unfold maxLen; omega) _ _ _ rfl rfl hkey _ [] (plainElem_int Tryz.underlying2 (WalkArith.wf_i64 (by omega))) ?_)
    | fail)
   intro w1 hown1 hg1
   have HR1 : Hid _ := hown1
   have HR2 := kide ((HB.out.alloc HB.out.size _).grown hg1 (by have := HB.out.size; simp; omega) (fun j hj => by cases hj; exact Nat.le_refl _))
   clear hown1 hg1 hown
   go_wp2_with fail
   go_roundw
   case rel =>
    refine ⟨k + 1, by omega, by go_num, ⟨_, ?_, by rw [HTK.out]; exact HST.out⟩, HR2.out⟩
    have h := HR1.out
    have e : ((ds.take (k + 1)).map Prod.fst).length = k + 1 := by simp; omega
    rw [e]; exact h
   case measure => simp [intOf]; omega
  ·have e : k = ds.length := by omega
   have HB : Hid _ := hbel
   rw [e, List.take_length] at hown hpl
   have HP : Hid (PlAt wr w.heap.size (ds.map Prod.fst)) := ⟨D, hown, hpl⟩
   clear hbel hown hpl e
   go_wp2_with fail
   go_ret
   exact ⟨rfl, HP.out, HB.out⟩

open Go.RowKit Go.WideMaps Go.Maps
set_option maxHeartbeats 1000000 in
theorem specDecls_any (a : Option Addr) (c : Nat) (ds : List Dc) (w : World) (hr : RdD w a ds) :
  Calls Tryz.prog 70 #[.slice a ds.length c] w fun e w' => e = .returned (.bool (dclR ds)) ∧ Below w.heap.size w w' := by
 have hlen := hr.1
 by_cases h60 : ds.length ≤ 60
 ·go_enter Tryz.func70, Tryz.ntmps70
  go_wp2_with fail
  have HLN := kide hlen
  clear hlen
  go_loopw [3, 4] (fun q i wr => ∃ k : Nat, k ≤ ds.length ∧ i = .int .i64 (k : Int) ∧ q = .int .i64 (sumW (ds.take k)) ∧ (∀ d ∈ ds.take k, dcOk d = true) ∧ ((ds.take k).map Prod.fst).Nodup ∧ Below w.heap.size w wr) (fun _ i _ => ds.length - (intOf i).toNat)
  case atStart => exact ⟨0, Nat.zero_le _, rfl, by simp [sumW], by simp, by simp, Below.refl _ _⟩
  case round =>
   obtain ⟨k, hk, rfl, rfl, hok, hnd, hbel⟩ := hrel
   have HB := kide hbel
   by_cases hlt : k < ds.length
   ·obtain ⟨-, hsz, h | ⟨b, o, rfl, hc⟩⟩ := hr
    ·subst h; simp at hlt
    obtain ⟨⟨t, x⟩, hh⟩ : ∃ x, ds[k] = x := ⟨_, rfl⟩
    have gx : ds[k]? = some (t, x) := by rw [List.getElem?_eq_getElem hlt, hh]
    obtain ⟨p0, p1⟩ := (hc k _ gx).later hbel
    simp only [] at p0 p1
    obtain ⟨hx64, hts⟩ := hsz _ (List.mem_of_getElem? gx)
    simp only [] at hx64 hts
    have i0 : (k : Int) < (ds.length : Int) := by omega
    have HC := kide hc
    have GX := kide gx
    have hsum := sumW_le hok
    have hst := sumW_take gx
    simp only [] at hst
    have htl : (ds.take k).length = k := by simp; omega
    rw [htl] at hsum
    have HST := kide hst
    have HOK := kide hok
    have HND := kide hnd
    have hN : ∀ u, Calls Tryz.prog 93 #[.string t] u fun e w' => e = .returned (.bool (nmOk t)) ∧ w' = u := fun u => l1Name_any t hts u
    have hW : ∀ u, Calls Tryz.prog 73 #[.int .i64 x, .int .i64 1, .int .i64 4096] u fun e w' => e = .returned (.bool (wOk x)) ∧ w' = u := fun u => l1In_any x 1 4096 u
    have HN := kide hN
    have HW := kide hW
    have HBAD : Hid (nmOk t = false ∨ wOk x = false → dclR ds = false) := fun h => dclR_bad gx (by rcases h with h | h <;> simp [dcOk, h])
    have HGOOD : Hid (nmOk t = true → wOk x = true → dcOk (t, x) = true) := fun h h' => by simp [dcOk, h, h']
    have hwx : wOk x = true → 1 ≤ x ∧ x ≤ 4096 := fun h => by simpa [wOk] using h
    clear hN hW hc gx hh hsz hok hnd hst htl hbel
    generalize sumW (ds.take k) = Q at *
    generalize nmOk t = r1 at *
    cases r1 with
    | false =>
     have HR := kide (HBAD.out (.inl (by simp)))
     go_wp2_with (go_at_call 93; refine Calls.mono (HN.out _) ?_; rintro e w1 ⟨rfl, rfl⟩)
     go_ret
     exact ⟨ret_bool HR.out.symm, HB.out⟩
    | true =>
     generalize wOk x = r2 at *
     cases r2 with
     | false =>
      have HR := kide (HBAD.out (.inr (by simp)))
      go_wp2_with (first | (go_at_call 93; refine Calls.mono (HN.out _) ?_; rintro e wr ⟨rfl, rfl⟩) | (go_at_call 73; refine Calls.mono (HW.out _) ?_; rintro e wr ⟨rfl, rfl⟩))
      go_ret
      exact ⟨ret_bool HR.out.symm, HB.out⟩
     | true =>
      have hx := hwx (by simp)
      obtain ⟨hx1, hx2⟩ := hx
      have HG := kide (HGOOD.out (by simp) (by simp))
      clear HBAD HGOOD hwx
      go_wp2_with (first | (go_at_call 93; refine Calls.mono (HN.out _) ?_; rintro e wr ⟨rfl, rfl⟩) | (go_at_call 73; refine Calls.mono (HW.out _) ?_; rintro e wr ⟨rfl, rfl⟩))
      obtain ⟨hs1, hs2⟩ := hsum
      have hlk := block_lt_of_cell p0
      rename_i wo
      go_loopw [5] (fun i wr => ∃ j : Nat, j ≤ k ∧ i = .int .i64 (j : Int) ∧ (∀ i d, i < j → ds[i]? = some d → d.1 ≠ t) ∧ Below w.heap.size w wr) (fun i _ => k - (intOf i).toNat)
      case atStart => exact ⟨0, Nat.zero_le _, rfl, fun i d h => by omega, HB.out⟩
      case round =>
       obtain ⟨j, hj, rfl, hne, hbel⟩ := hrel
       clear p0 p1 HB
       obtain ⟨p0, p1⟩ := (HC.out k _ GX.out).later hbel
       simp only [] at p0 p1
       have HB := kide hbel
       have HNE := kide hne
       clear hbel hne
       by_cases hjk : j < k
       ·obtain ⟨⟨t2, x2⟩, hh2⟩ : ∃ x, ds[j]'(by omega) = x := ⟨_, rfl⟩
        have gx2 : ds[j]? = some (t2, x2) := by rw [List.getElem?_eq_getElem (by omega), hh2]
        obtain ⟨q0, q1⟩ := (HC.out j _ gx2).later HB.out
        simp only [] at q0 q1
        have GX2 := kide gx2
        have j0 : (j : Int) < (k : Int) := by omega
        have j1 : (j : Int) < (ds.length : Int) := by omega
        clear gx2 hh2
        by_cases ht : t2 = t
        ·subst ht
         have HR : Hid (dclR ds = false) := by
          show _ = _
          rw [Bool.eq_false_iff]; intro h'
          have hnd := (dclR_iff.1 h').2.2.2
          have h1 : (ds.map Prod.fst)[j]? = some t2 := by simp [GX2.out]
          have h2 : (ds.map Prod.fst)[k]? = some t2 := by simp [GX.out]
          have := (List.getElem?_inj (by simp; omega) hnd).1 (h1.trans h2.symm)
          omega
         go_wp2_with fail
         go_quiet (fail)
         go_wp2_with fail
         go_ret
         exact ⟨ret_bool HR.out.symm, below_drewN HB.out _⟩
        ·have hne2 := kstr_ne ht
         have HT := kide ht
         clear ht
         go_wp2_with fail
         go_quiet (fail)
         go_wp2_with fail
         go_roundw
         case rel =>
          refine ⟨j + 1, by omega, by go_num, fun i d hi hd => ?_, below_drewN HB.out _⟩
          by_cases hij : i = j
          ·subst hij
           rw [GX2.out] at hd
           cases hd
           exact HT.out
          ·exact HNE.out i d (by omega) hd
         case measure => simp [intOf]; omega
       ·have hjk' : j = k := by omega
        have HJ := kide hjk'
        clear hjk'
        go_wp2_with fail
        go_roundw
        case rel =>
         refine ⟨k + 1, by omega, by go_num, ?_, ?_, ?_, HB.out⟩
         ·rw [HST.out]
         ·intro d hd
          rw [List.take_add_one, GX.out] at hd
          rcases List.mem_append.1 hd with hd | hd
          ·exact HOK.out d hd
          ·simp at hd
           subst hd
           exact HG.out
         ·rw [List.take_add_one, GX.out, List.map_append]
          refine List.nodup_append.2 ⟨HND.out, by simp, fun y hy z hz => ?_⟩
          simp at hz
          subst hz
          obtain ⟨d, hd, rfl⟩ := List.mem_map.1 hy
          obtain ⟨i, hi, hid⟩ := List.mem_iff_getElem.1 hd
          simp at hi hid
          have := HNE.out i d (by rw [HJ.out]; omega) (by rw [List.getElem?_eq_getElem (by omega)]; exact congrArg some hid)
          exact this
        case measure => simp [intOf]; omega
   ·have e : k = ds.length := by omega
    rw [e, List.take_length] at hok hnd
    have hs := sumW_le hok
    have HR : Hid (dclR ds = decide (sumW (ds.take k) ≤ 20000)) := by
     show _ = _
     rw [e, List.take_length]
     rw [Bool.eq_iff_iff, dclR_iff, decide_eq_true_eq]
     exact ⟨fun h => h.2.2.1, fun h => ⟨h60, hok, h, hnd⟩⟩
    generalize sumW (ds.take k) = Q at *
    clear hok hnd hbel hs e
    go_wp2_with fail
    go_ret
    exact ⟨ret_bool HR.out.symm, HB.out⟩
 ·rw [dclR_long (by omega)]
  go_enter Tryz.func70, Tryz.ntmps70
  go_wp2_with fail
  go_ret
  exact ⟨rfl, Below.refl _ _⟩

theorem Ba {w wk : World} (h : Below w.heap.size w wk) (o : Obj) : Below w.heap.size w (wk.alloc o) := h.alloc h.size o
def Blk (w : World) (β : Nat) (x y : Value) (t : TypeId) : Prop := w.heap[β]? = some (.cells #[x, y] t (0, 0))
theorem Blk.cells {w : World} {β : Nat} {x y : Value} {t : TypeId} (h : Blk w β x y t) : w.cell? ⟨β, 0, none⟩ = some x ∧ w.cell? ⟨β, 1, none⟩ = some y :=
 ⟨cell_of_row w β 0 _ _ _ h, cell_of_row w β 1 _ _ _ h⟩
theorem Blk.lt {w : World} {β : Nat} {x y : Value} {t : TypeId} (h : Blk w β x y t) : β < w.heap.size := lt_of_block h
theorem Blk.next {w w' : World} {β : Nat} {x y : Value} {t : TypeId} (h : Blk w β x y t) (hb : Below w.heap.size w w') : Blk w' β x y t := by
 unfold Blk
 rw [hb.block β h.lt]; exact h
theorem Blk.new (w : World) (x y : Value) (t : TypeId) : Blk (w.alloc (.cells #[x, y] t)) w.heap.size x y t := heap_alloc_new _ _
theorem Blk.alloc {w : World} {β : Nat} {x y : Value} {t : TypeId} (h : Blk w β x y t) (o : Obj) : Blk (w.alloc o) β x y t := h.next ((Below.refl _ _).alloc (Nat.le_refl _) _)
def Fr (w : World) (lo hi : Nat) (a : Option Addr) (ys : List Nat) : Prop := (ys = [] ∧ a = none) ∨ ∃ g, a = some ⟨g, 0, none⟩ ∧ lo ≤ g ∧ g < hi ∧ Own w g ys
theorem Fresh.fr {w : World} {lo : Nat} {a : Option Addr} {ys : List Nat} (h : Fresh w lo a ys) : Fr w lo w.heap.size a ys := by
 rcases h with h | ⟨g, rfl, hg, ho⟩
 ·exact .inl h
 ·exact .inr ⟨g, rfl, hg, ho.lt, ho⟩
theorem Own.fr {w : World} {lo g : Nat} {ys : List Nat} (h : Own w g ys) (hg : lo ≤ g) : Fr w lo w.heap.size (some ⟨g, 0, none⟩) ys := .inr ⟨g, rfl, hg, h.lt, h⟩
theorem Fr.next {w w' : World} {lo hi : Nat} {a : Option Addr} {ys : List Nat} (h : Fr w lo hi a ys) (hb : Below w.heap.size w w') : Fr w' lo hi a ys := by
 rcases h with h | ⟨g, rfl, h1, h2, ho⟩
 ·exact .inl h
 ·exact .inr ⟨g, rfl, h1, h2, ho.later hb ho.lt⟩
theorem Fr.alloc {w : World} {lo hi : Nat} {a : Option Addr} {ys : List Nat} (h : Fr w lo hi a ys) (o : Obj) : Fr (w.alloc o) lo hi a ys := h.next ((Below.refl _ _).alloc (Nat.le_refl _) _)
theorem Fr.rd {w : World} {lo hi : Nat} {a : Option Addr} {ys : List Nat} (h : Fr w lo hi a ys) (hl : ys.length ≤ 1048576) (hx : ∀ x ∈ ys, x < 18446744073709551616) : Rd w a ys := by
 rcases h with ⟨rfl, rfl⟩ | ⟨g, rfl, h1, h2, ho⟩
 ·exact ⟨hl, hx, .inl rfl⟩
 ·exact ho.rd hl hx
def Marked (w w' : World) (a : Option Addr) : Prop := w.grownBy w' (a.map Addr.block)
theorem Blk.mark {w w' : World} {β lo hi : Nat} {x y : Value} {t : TypeId} {a : Option Addr} {ys : List Nat} (h : Blk w β x y t) (hf : Fr w lo hi a ys) (hm : Marked w w' a) (ht : t ≠ 109) : Blk w' β x y t := by
 unfold Blk
 rw [World.grownBy.block hm β h.lt ?_]
 ·exact h
 ·rcases hf with ⟨_, rfl⟩ | ⟨g, rfl, _, _, ho⟩
  ·simp
  ·simp only [Option.map_some, ne_eq, Option.some.injEq]
   rintro rfl
   unfold Blk at h
   unfold Own at ho
   rw [h] at ho
   simp at ho
   exact ht ho.2
theorem Marked.below {w0 w w' : World} {lo hi : Nat} {a : Option Addr} {ys : List Nat} (hm : Marked w w' a) (hf : Fr w lo hi a ys) (hb : Below w0.heap.size w0 w) (hl : w0.heap.size ≤ lo) : Below w0.heap.size w0 w' := by
 refine hb.grown hm hb.size ?_
 intro k hk
 rcases hf with ⟨_, rfl⟩ | ⟨g, rfl, k1, k2, _⟩
 ·simp at hk
 ·simp at hk; omega
theorem Marked.size {w w' : World} {a : Option Addr} (h : Marked w w' a) : w.heap.size ≤ w'.heap.size := World.grownBy.size h
theorem RetB.fr {w w' : World} {r : Int × List Nat × Bool} {e : Ending} (h : RetB w r e w') : ∃ a c, e = .returned (.tuple #[.agg #[.int .i64 r.1, .slice a r.2.1.length c], .bool r.2.2]) ∧ Fr w' w.heap.size w'.heap.size a r.2.1 ∧ Below w.heap.size w w' := by
 obtain ⟨a, c, he, hf, hb⟩ := h
 exact ⟨a, c, he, hf.fr, hb⟩

def Rr (w : World) (β : Nat) (a : Option Addr) (c : Nat) (bs : List Nat) : Prop :=
 ∃ p : Nat, p ≤ bs.length ∧ Blk w β (.slice a bs.length c) (.int .i64 p) 104 ∧ RdB w a bs ∧ ∀ x, a = some x → bs ≠ [] → x.block ≠ β
theorem Blk.put1 {w : World} {β : Nat} {x y : Value} {t : TypeId} (h : Blk w β x y t) (u : Value) : Blk (w.setCell ⟨β, 1, none⟩ u) β x u t := by
 unfold Blk
 rw [heap_setCell_same w β 1 _ _ _ h]; rfl
theorem RdB.kept {w w' : World} {a : Option Addr} {bs : List Nat} {row : Option Nat} (h : RdB w a bs) (hg : w.grownBy w' row) (hn : ∀ x, a = some x → bs ≠ [] → row ≠ some x.block) : RdB w' a bs := by
 obtain ⟨h1, h2, h3⟩ := h
 refine ⟨h1, h2, ?_⟩
 rcases h3 with h3 | ⟨b, o, rfl, hc⟩
 ·exact .inl h3
 ·refine .inr ⟨b, o, rfl, fun i hi => ?_⟩
  have h4 := hc i hi
  rw [World.cell?_of_block (hg.block b (block_lt_of_cell h4) (fun e => hn _ rfl (fun h => by subst h; simp at hi) e.symm))]
  exact h4
theorem gsc (w : World) (a : Addr) (u : Value) : w.grownBy (w.setCell a u) (some a.block) :=
 ⟨rfl, rfl, rfl, by simp, fun k _ hk => heap_setCell_other w a k u (fun e => hk (by rw [e]))⟩
def Dw (β : Nat) (w w' : World) : Prop := w.grownBy w' (some β)
theorem Dw.refl (β : Nat) (w : World) : Dw β w w := World.grownBy.refl _ _
theorem Dw.trans {β : Nat} {a b c : World} (h : Dw β a b) (k : Dw β b c) : Dw β a c := World.grownBy.trans h k
theorem Dw.below {β : Nat} {w w' : World} (h : Dw β w w') {B : Nat} (hB : B ≤ β) (hs : B ≤ w.heap.size) : Below B w w' :=
 (Below.refl B w).grown h hs (fun k e => by cases e; exact hB)
theorem Dw.of {β : Nat} {w w' : World} (h : Below w.heap.size w w') : Dw β w w' := ⟨h.os, h.tape, h.output, h.size, fun k hk _ => h.block k hk⟩
theorem Dw.drew {β : Nat} {w w' : World} (h : Dw β w w') : Dw β w w'.drew := ⟨h.os, h.tape, h.output, h.size, h.block⟩
theorem Dw.alloc {β : Nat} {w w' : World} (h : Dw β w w') (o : Obj) : Dw β w (w'.alloc o) := h.trans (World.grownBy_alloc _ _ _)
theorem Rr.later {w w' : World} {β : Nat} {a : Option Addr} {c : Nat} {bs : List Nat} (h : Rr w β a c bs) (hb : Below w.heap.size w w') : Rr w' β a c bs := by
 obtain ⟨p, hp, hk, hr, hn⟩ := h
 exact ⟨p, hp, hk.next hb, hr.later hb, hn⟩
theorem Bd (w : World) (n : Nat) : Below w.heap.size w (w.drewN n) := below_drewN (Below.refl _ _) n
theorem Dw.drewN {β : Nat} {w w' : World} (h : Dw β w w') (n : Nat) : Dw β w (w'.drewN n) := h.trans (Dw.of (Bd _ _))
def Rp (w : World) (β : Nat) (a : Option Addr) (c : Nat) (bs : List Nat) (p : Nat) : Prop :=
 p ≤ bs.length ∧ Blk w β (.slice a bs.length c) (.int .i64 p) 104 ∧ RdB w a bs ∧ ∀ x, a = some x → bs ≠ [] → x.block ≠ β
theorem Rp.later {w w' : World} {β : Nat} {a : Option Addr} {c : Nat} {bs : List Nat} {p : Nat} (h : Rp w β a c bs p) (hb : Below w.heap.size w w') : Rp w' β a c bs p := by
 obtain ⟨hp, hk, hr, hn⟩ := h
 exact ⟨hp, hk.next hb, hr.later hb, hn⟩
theorem Rp.bump {w : World} {β : Nat} {a : Option Addr} {c : Nat} {bs : List Nat} {p : Nat} (h : Rp w β a c bs p) (hp : p < bs.length) : Rr (w.setCell ⟨β, 1, none⟩ (.int .i64 ((p : Int) + 1))) β a c bs := by
 obtain ⟨_, hk, hr, hn⟩ := h
 exact ⟨p + 1, by omega, by have := hk.put1 (.int .i64 ((p : Int) + 1)); simpa using this, hr.kept (gsc w ⟨β, 1, none⟩ _) (fun x e hb h => by cases h; exact hn _ e hb rfl), hn⟩
theorem next_any (β : Nat) (a : Option Addr) (c : Nat) (bs : List Nat) (w : World) (h : Rr w β a c bs) :
  Calls Tryz.prog 87 #[.pointer (some ⟨β, 0, none⟩)] w fun e w' => ∃ x : Nat, e = .returned (.int .i64 x) ∧ x < 256 ∧ Rr w' β a c bs ∧ Dw β w w' := by
 have h' := h
 obtain ⟨p, hp, hk, hr, hn⟩ := h
 have HP : Hid (Rp w β a c bs p) := ⟨hp, hk, hr, hn⟩
 obtain ⟨k0, k1⟩ := hk.cells
 have f1 : w.frozen? ⟨β, 1, none⟩ = false := frozen_of_row w β 1 _ _ hk
 have hl := hr.1
 by_cases hlt : p < bs.length
 ·obtain ⟨-, hby, h | ⟨b, o, rfl, hc⟩⟩ := id hr
  ·subst h; simp at hlt
  have hcell := hc p hlt
  have hbn : b ≠ β := hn _ rfl (fun h => by subst h; simp at hlt)
  have hb8 : bs.getD p 0 < 256 := by
   have e : bs.getD p 0 = bs[p] := by simp [List.getD, hlt]
   rw [e]; exact hby _ (List.getElem_mem _)
  generalize bs.getD p 0 = y at hcell hb8
  clear hc hby hn hr hk h'
  go_enter Tryz.func87, Tryz.ntmps87
  go_wp2
  go_quiet (fail)
  go_wp2
  go_quiet (fail)
  go_wp2
  go_ret
  exact ⟨y, rfl, hb8, ((HP.out.later (Bd _ _)).bump hlt).later (Bd _ _), ((Dw.of (Bd _ _)).trans (gsc _ ⟨β, 1, none⟩ _)).drewN _⟩
 ·clear hr hk hn
  go_enter Tryz.func87, Tryz.ntmps87
  go_wp2
  go_quiet (fail)
  go_wp2
  go_ret
  exact ⟨0, rfl, by omega, h'.later (Bd _ _), Dw.of (Bd _ _)⟩
theorem below_any (n : Nat) (hn : n ≤ 4194304) (β : Nat) (a : Option Addr) (c : Nat) (bs : List Nat) (w : World) (h : Rr w β a c bs) :
  Calls Tryz.prog 61 #[.pointer (some ⟨β, 0, none⟩), .int .i64 n] w fun e w' => ∃ x : Nat, e = .returned (.int .i64 x) ∧ (x = 0 ∨ x < n) ∧ Rr w' β a c bs ∧ Dw β w w' := by
 by_cases h1 : n ≤ 1
 ·have h1i : (n : Int) ≤ 1 := by omega
  go_enter Tryz.func61, Tryz.ntmps61
  go_wp2
  go_ret
  exact ⟨0, rfl, .inl rfl, h, Dw.refl _ _⟩
 ·have h1i : ¬ (n : Int) ≤ 1 := by omega
  by_cases h2 : n ≤ 256
  ·have h2i : (n : Int) ≤ 256 := by omega
   go_enter Tryz.func61, Tryz.ntmps61
   go_wp2_with fail
   refine (next_any β a c bs _ h).mono ?_
   rintro e w1 ⟨x, rfl, hx, hr1, hd1⟩
   have hm : x % n < n := Nat.mod_lt _ (by omega)
   have he : Int.tmod (x : Int) (n : Int) = ((x % n : Nat) : Int) := by rw [Int.tmod_eq_emod_of_nonneg (by omega)]; simp
   go_wp2
   go_ret
   exact ⟨x % n, by first | rfl | simp, .inr hm, hr1, hd1⟩
  ·have h2i : ¬ (n : Int) ≤ 256 := by omega
   go_enter Tryz.func61, Tryz.ntmps61
   go_wp2_with fail
   refine (next_any β a c bs _ h).mono ?_
   rintro e w1 ⟨x, rfl, hx, hr1, hd1⟩
   go_wp2_with fail
   refine (next_any β a c bs _ hr1).mono ?_
   rintro e w2 ⟨y, rfl, hy, hr2, hd2⟩
   have hm : (x * 256 + y) % n < n := Nat.mod_lt _ (by omega)
   go_wp2
   go_ret
   exact ⟨(x * 256 + y) % n, by first | rfl | simp, .inr hm, hr2, hd1.trans hd2⟩
theorem once_any (n : Nat) (h0 : 1 ≤ n) (hn : n ≤ 4194304) (β : Nat) (a : Option Addr) (c : Nat) (bs : List Nat) (w : World) (h : Rr w β a c bs) :
  Calls Tryz.prog 62 #[.pointer (some ⟨β, 0, none⟩), .int .i64 n] w fun e w' => ∃ x : Bool, e = .returned (.bool x) ∧ Rr w' β a c bs ∧ Dw β w w' := by
 go_enter Tryz.func62, Tryz.ntmps62
 go_wp2_with fail
 refine (below_any n hn β a c bs _ h).mono ?_
 rintro e w1 ⟨x, rfl, hx, hr1, hd1⟩
 go_wp2
 go_ret
 exact ⟨_, rfl, hr1, hd1⟩
theorem orByte (x y : Nat) (hy : y < 256) : ∃ z : Nat, z < 18446744073709551616 ∧ bits BinOp.or IntKind.u64 (IntKind.u64.wrap ((x : Int) * 2 ^ 8)) (y : Int) = (z : Int) := by
 have e : IntKind.u64.wrap ((x : Int) * 2 ^ 8) = ((x * 2 ^ 8 % 18446744073709551616 : Nat) : Int) := by
  rw [IntKind.wrap_u64]; simp
 have hlt : x * 2 ^ 8 % 18446744073709551616 < 18446744073709551616 := Nat.mod_lt _ (by decide)
 refine ⟨x * 2 ^ 8 % 18446744073709551616 ||| y, Nat.or_lt_two_pow (n := 64) hlt (by omega), ?_⟩
 rw [e, bits_or_u64_nat _ _ hlt (by omega)]
theorem word_any (β : Nat) (a : Option Addr) (c : Nat) (bs : List Nat) (w : World) (h : Rr w β a c bs) :
  Calls Tryz.prog 65 #[.pointer (some ⟨β, 0, none⟩)] w fun e w' => ∃ x : Nat, e = .returned (.int .u64 x) ∧ x < 18446744073709551616 ∧ Rr w' β a c bs ∧ Dw β w w' := by
 go_enter Tryz.func65, Tryz.ntmps65
 go_wp2
 go_loopw [3, 4] (fun v i wr => ∃ k x : Nat, k ≤ 8 ∧ i = .int .i64 k ∧ v = .int .u64 x ∧ x < 18446744073709551616 ∧ Rr wr β a c bs ∧ Dw β w wr) (fun _ i _ => 8 - (intOf i).toNat)
 case atStart => exact ⟨0, 0, by omega, rfl, rfl, by omega, h, Dw.refl _ _⟩
 case round =>
  obtain ⟨k, x, hk, rfl, rfl, hx, hr, hd⟩ := hrel
  by_cases hlt : k < 8
  ·go_wp2_with fail
   refine (next_any β a c bs _ hr).mono ?_
   rintro e w1 ⟨y, rfl, hy, hr1, hd1⟩
   obtain ⟨z, hz, HZ⟩ := orByte x y hy
   go_wp2
   go_roundw
   case rel => exact ⟨k + 1, z, by omega, by go_num, by rw [show (256 : Int) = 2 ^ 8 from rfl, HZ], hz, hr1, hd.trans hd1⟩
   case measure => simp [intOf]; omega
  ·go_wp2
   go_ret
   exact ⟨x, rfl, hx, hr, hd⟩

def putTo (zs ys : List Nat) (f s : Nat) : Nat → List Nat
 | 0 => zs
 | k + 1 =>
  let z1 := (putTo zs ys f s k).set (f + k) ((putTo zs ys f s k).getD (f + k) 0 ||| ys.getD k 0 * 2 ^ s % 18446744073709551616)
  z1.set (f + k + 1) (z1.getD (f + k + 1) 0 ||| ys.getD k 0 / 2 ^ (64 - s))
theorem putTo_len (zs ys : List Nat) (f s k : Nat) : (putTo zs ys f s k).length = zs.length := by
 induction k with
 | zero => rfl
 | succ k ih => simp [putTo, ih]
theorem set_lt {xs : List Nat} (h : ∀ x ∈ xs, x < 18446744073709551616) (i v : Nat) (hv : v < 18446744073709551616) : ∀ x ∈ xs.set i v, x < 18446744073709551616 := by
 intro x hx
 rcases List.mem_or_eq_of_mem_set hx with h' | h'
 ·exact h x h'
 ·rw [h']; exact hv
theorem putTo_lt (zs ys : List Nat) (f s k : Nat) (hz : ∀ x ∈ zs, x < 18446744073709551616) (hy : ∀ x ∈ ys, x < 18446744073709551616) : ∀ x ∈ putTo zs ys f s k, x < 18446744073709551616 := by
 induction k with
 | zero => exact hz
 | succ k ih =>
  have h1 := set_lt ih (f + k) _ (Nat.or_lt_two_pow (n := 64) (getD_lt ih (f + k)) (Nat.mod_lt (ys.getD k 0 * 2 ^ s) (by decide)))
  exact set_lt h1 _ _ (Nat.or_lt_two_pow (n := 64) (getD_lt h1 _) (Nat.lt_of_le_of_lt (Nat.div_le_self _ _) (getD_lt hy k)))
theorem tb_put (zs ys : List Nat) (f s k : Nat) (hs : s < 64) (hy : ∀ x ∈ ys, x < 18446744073709551616) (hk : ∀ i, i < k → f + i < zs.length ∧ (f + i + 1 < zs.length ∨ ys.getD i 0 / 2 ^ (64 - s) = 0)) (j : Nat) :
  tb (putTo zs ys f s k) j = (tb zs j || (decide (64 * f + s ≤ j) && decide (j < 64 * f + s + 64 * k) && tb ys (j - (64 * f + s)))) := by
 induction k with
 | zero =>
  by_cases h : 64 * f + s ≤ j
  ·simp [putTo, show ¬ j < 64 * f + s by omega]
  ·simp [putTo, h]
 | succ k ih =>
  have ih' := ih fun i hi => hk i (by omega)
  obtain ⟨h1, h2⟩ := hk k (by omega)
  have hlen := putTo_len zs ys f s k
  have hyk := getD_lt hy k
  have key : tb (putTo zs ys f s (k + 1)) j = (tb (putTo zs ys f s k) j || (decide (j / 64 = f + k) && (ys.getD k 0 * 2 ^ s % 18446744073709551616).testBit (j % 64)) || (decide (j / 64 = f + k + 1) && (ys.getD k 0 / 2 ^ (64 - s)).testBit (j % 64))) := by
   simp only [putTo]
   have e1 : tb ((putTo zs ys f s k).set (f + k) ((putTo zs ys f s k).getD (f + k) 0 ||| ys.getD k 0 * 2 ^ s % 18446744073709551616)) j = (tb (putTo zs ys f s k) j || (decide (j / 64 = f + k) && (ys.getD k 0 * 2 ^ s % 18446744073709551616).testBit (j % 64))) := by
    rw [tb_set _ _ _ _ (by omega)]
    by_cases h : j / 64 = f + k
    ·rw [if_pos h, Nat.testBit_or]; unfold tb; rw [h]; simp
    ·rw [if_neg h]; simp [h]
   rcases h2 with h2 | h2
   ·rw [tb_set _ _ _ _ (by simp; omega)]
    by_cases h : j / 64 = f + k + 1
    ·rw [if_pos h, Nat.testBit_or, ← e1]
     have : ((List.set (putTo zs ys f s k) (f + k) ((putTo zs ys f s k).getD (f + k) 0 ||| ys.getD k 0 * 2 ^ s % 18446744073709551616)).getD (f + k + 1) 0).testBit (j % 64) = tb ((putTo zs ys f s k).set (f + k) ((putTo zs ys f s k).getD (f + k) 0 ||| ys.getD k 0 * 2 ^ s % 18446744073709551616)) j := by unfold tb; rw [h]
     rw [this]; simp [h]
    ·rw [if_neg h, e1]; simp [h]
   ·rw [h2, Nat.or_zero]
    have e2 : ∀ (l : List Nat) (i : Nat), l.set i (l.getD i 0) = l := by
     intro l i
     by_cases hi : i < l.length
     ·have : l.getD i 0 = l[i] := by simp [List.getD, hi]
      rw [this, List.set_getElem_self]
     ·exact List.set_eq_of_length_le (by omega)
    rw [e2, e1]; simp
  rw [key, ih']
  have hsp : (18446744073709551616 : Nat) = 2 ^ 64 := by decide
  rw [hsp, Nat.testBit_mod_two_pow, Nat.testBit_mul_two_pow, Nat.testBit_div_two_pow]
  have hlt : j % 64 < 64 := by omega
  by_cases ha : 64 * f + s ≤ j ∧ j < 64 * f + s + 64 * k
  ·-- an earlier word's place: this one's bits do not reach there
   have n1 : ¬ (j / 64 = f + k ∧ s ≤ j % 64) := by omega
   have n2 : ¬ (j / 64 = f + k + 1) := by omega
   have c1 : decide (j < 64 * f + s + 64 * (k + 1)) = true := by simp; omega
   have c2 : decide (64 * f + s ≤ j) = true := by simp; omega
   have c3 : decide (j < 64 * f + s + 64 * k) = true := by simp; omega
   rw [c1, c2, c3]
   by_cases h5 : j / 64 = f + k
   ·have : decide (s ≤ j % 64) = false := by simp; omega
    simp [h5, this]
   ·simp [h5, n2]
  ·by_cases hb : 64 * f + s + 64 * k ≤ j ∧ j < 64 * f + s + 64 * (k + 1)
   ·have c1 : decide (j < 64 * f + s + 64 * (k + 1)) = true := by simp; omega
    have c2 : decide (64 * f + s ≤ j) = true := by simp; omega
    have c3 : decide (j < 64 * f + s + 64 * k) = false := by simp; omega
    rw [c1, c2, c3]
    have e3 : (j - (64 * f + s)) / 64 = k := by omega
    by_cases h5 : j / 64 = f + k
    ·have e4 : (j - (64 * f + s)) % 64 = j % 64 - s := by omega
     unfold tb
     rw [e3, e4]
     simp [h5, hlt, show s ≤ j % 64 by omega]
    ·have h6 : j / 64 = f + k + 1 := by omega
     have e4 : (j - (64 * f + s)) % 64 = j % 64 + (64 - s) := by omega
     unfold tb
     rw [e3, e4]
     simp [h6]
   ·have c1 : (decide (64 * f + s ≤ j) && decide (j < 64 * f + s + 64 * (k + 1))) = false := by simp; omega
    have c2 : (decide (64 * f + s ≤ j) && decide (j < 64 * f + s + 64 * k)) = false := by simp; omega
    rw [c1, c2]
    simp only [Bool.false_and, Bool.or_false]
    by_cases h5 : j / 64 = f + k
    ·have : decide (s ≤ j % 64) = false := by simp; omega
     simp [h5, this]
    ·by_cases h6 : j / 64 = f + k + 1
     ·have : (ys.getD k 0).testBit (j % 64 + (64 - s)) = false := by
       refine Nat.testBit_lt_two_pow (Nat.lt_of_lt_of_le hyk ?_)
       exact (show 2 ^ 64 ≤ 2 ^ (j % 64 + (64 - s)) from Nat.pow_le_pow_right (by omega) (by omega))
      rw [this]
      simp [h5]
     ·simp [h5, h6]
set_option maxHeartbeats 1000000 in
set_option maxRecDepth 100000 in
theorem putBits_any (Wi Wb : Int) (g ci cb P : Nat) (ab : Option Addr) (zs ys : List Nat) (w : World) (ho : Own w g zs) (hr : Rd w ab ys) (hz : ∀ x ∈ zs, x < 18446744073709551616) (hP : P ≤ 4096) (hzl : zs.length ≤ 64) (hyl : ys.length ≤ 64)
  (hk : ∀ i, i < ys.length → P / 64 + i < zs.length ∧ (P / 64 + i + 1 < zs.length ∨ ys.getD i 0 / 2 ^ (64 - P % 64) = 0)) (hab : ∀ x, ab = some x → x.block ≠ g) :
  Calls Tryz.prog 136 #[.agg #[.int .i64 Wi, .slice (some ⟨g, 0, none⟩) zs.length ci], .agg #[.int .i64 Wb, .slice ab ys.length cb], .int .i64 P] w fun e w' => e = .returned (.tuple #[]) ∧ Own w' g (putTo zs ys (P / 64) (P % 64) ys.length) ∧ w.grownBy w' (some g) := by
 have hgw := ho.lt
 have hy := hr.2.1
 have hB2 : Below w.heap.size w ((w.alloc (Obj.cells #[.int IntKind.i64 Wi, .slice (some { block := g, off := 0 }) zs.length ci] 80)).alloc (Obj.cells #[.int IntKind.i64 Wb, .slice ab ys.length cb] 80)) := Ba (Ba (Below.refl _ _) _) _
 have ho2 := ho.later hB2 hgw
 have hr2 := hr.later hB2
 have k0 : ((w.alloc (Obj.cells #[.int IntKind.i64 Wi, .slice (some { block := g, off := 0 }) zs.length ci] 80)).alloc (Obj.cells #[.int IntKind.i64 Wb, .slice ab ys.length cb] 80)).cell? ⟨w.heap.size, 1, none⟩ = some (Value.slice (some { block := g, off := 0 }) zs.length ci) := by
  rw [acell _ _ _ (by simp)]; simp
 have hsz : ((w.alloc (Obj.cells #[.int IntKind.i64 Wi, .slice (some { block := g, off := 0 }) zs.length ci] 80)).alloc (Obj.cells #[.int IntKind.i64 Wb, .slice ab ys.length cb] 80)).heap.size = w.heap.size + 2 := by simp
 go_enter Tryz.func136, Tryz.ntmps136
 go_wp2
 generalize ((w.alloc (Obj.cells #[.int IntKind.i64 Wi, .slice (some { block := g, off := 0 }) zs.length ci] 80)).alloc (Obj.cells #[.int IntKind.i64 Wb, .slice ab ys.length cb] 80)) = w2 at *
 clear ho hr
 go_loopw [19] (fun i wr => ∃ k : Nat, k ≤ ys.length ∧ i = .int .i64 k ∧ Own wr g (putTo zs ys (P / 64) (P % 64) k) ∧ w2.grownBy wr (some g)) (fun i _ => ys.length - (intOf i).toNat)
 case atStart => exact ⟨0, Nat.zero_le _, rfl, ho2, World.grownBy.refl _ _⟩
 case round =>
  obtain ⟨k, hkl, rfl, hown, hgr⟩ := hrel
  by_cases hlt : k < ys.length
  ·obtain ⟨-, -, hn | ⟨b, o, rfl, hcell⟩⟩ := hr2
   ·subst hn; simp at hlt
   have hbg : b ≠ g := hab _ rfl
   have hbl : b < w2.heap.size := block_lt_of_cell (hcell k hlt)
   have b1 := (gcell hgr 1 (b := w.heap.size) (by omega) (by omega)).trans k0
   have x1 := (gcell hgr _ hbl hbg).trans (hcell k hlt)
   obtain ⟨hf1, hf2⟩ := hk k hlt
   have hlen := putTo_len zs ys (P / 64) (P % 64) k
   have hcg := hown.cell (i := P / 64 + k) (by omega)
   have hfg := hown.free (P / 64 + k)
   have hfg2 := hown.free (P / 64 + k + 1)
   have hplt := putTo_lt zs ys (P / 64) (P % 64) k hz hy
   have hY := getD_lt hy k
   have hZ1 := getD_lt hplt (P / 64 + k)
   have i1 : (P : Int) / 64 + (k : Int) < (zs.length : Int) := by omega
   have i2 : (k : Int) < (ys.length : Int) := by omega
   have hgs : ¬ w.heap.size = g := by omega
   have hstep : putTo zs ys (P / 64) (P % 64) (k + 1) = ((putTo zs ys (P / 64) (P % 64) k).set (P / 64 + k) ((putTo zs ys (P / 64) (P % 64) k).getD (P / 64 + k) 0 ||| ys.getD k 0 * 2 ^ (P % 64) % 18446744073709551616)).set (P / 64 + k + 1) (((putTo zs ys (P / 64) (P % 64) k).set (P / 64 + k) ((putTo zs ys (P / 64) (P % 64) k).getD (P / 64 + k) 0 ||| ys.getD k 0 * 2 ^ (P % 64) % 18446744073709551616)).getD (P / 64 + k + 1) 0 ||| ys.getD k 0 / 2 ^ (64 - P % 64)) := rfl
   have hgd : ((putTo zs ys (P / 64) (P % 64) k).set (P / 64 + k) ((putTo zs ys (P / 64) (P % 64) k).getD (P / 64 + k) 0 ||| ys.getD k 0 * 2 ^ (P % 64) % 18446744073709551616)).getD (P / 64 + k + 1) 0 = (putTo zs ys (P / 64) (P % 64) k).getD (P / 64 + k + 1) 0 := by
    simp [List.getD, List.getElem?_set]
   rw [hgd] at hstep
   by_cases hrest : ys.getD k 0 / 2 ^ (64 - P % 64) = 0
   ·have hstep2 : putTo zs ys (P / 64) (P % 64) (k + 1) = (putTo zs ys (P / 64) (P % 64) k).set (P / 64 + k) ((putTo zs ys (P / 64) (P % 64) k).getD (P / 64 + k) 0 ||| ys.getD k 0 * 2 ^ (P % 64) % 18446744073709551616) := by
     rw [hstep, hrest, Nat.or_zero]
     by_cases hin : P / 64 + k + 1 < (putTo zs ys (P / 64) (P % 64) k).length
     ·have e : (putTo zs ys (P / 64) (P % 64) k).getD (P / 64 + k + 1) 0 = ((putTo zs ys (P / 64) (P % 64) k).set (P / 64 + k) ((putTo zs ys (P / 64) (P % 64) k).getD (P / 64 + k) 0 ||| ys.getD k 0 * 2 ^ (P % 64) % 18446744073709551616))[P / 64 + k + 1]'(by simpa using hin) := by
       simp [List.getD, hin]
      rw [e, List.set_getElem_self]
     ·exact List.set_eq_of_length_le (by simp; omega)
    have hne : ((ys.getD k 0 : Nat) : Int) / 2 ^ (64 - P % 64) = 0 := by rw [castDiv, hrest]; rfl
    have HO : Hid (Own (wr.setCell ⟨g, P / 64 + k, none⟩ (.int .u64 (bits BinOp.or IntKind.u64 (((putTo zs ys (P / 64) (P % 64) k).getD (P / 64 + k) 0 : Nat) : Int) (IntKind.u64.wrap (((ys.getD k 0 : Nat) : Int) * 2 ^ (P % 64)))))) g (putTo zs ys (P / 64) (P % 64) (k + 1))) := by
     show Own _ _ _
     rw [hstep2, orShift _ _ _ hZ1]
     exact hown.put _ _
    clear hstep hstep2 hgd hown hcell hk hplt hrest hlen
    generalize (putTo zs ys (P / 64) (P % 64) k).getD (P / 64 + k) 0 = z at *
    generalize ys.getD k 0 = y at *
    have hne2 : ((y : Int) / 2 ^ (64 - P % 64) != 0) = false := by simp [hne]
    clear hne
    go_wp2
    go_region
    go_wp2
    go_roundw
    case rel => exact ⟨k + 1, by omega, by go_num, HO.out, grown_drew (grown_set hgr _ _)⟩
    case measure => simp [intOf]; omega
   ·have hin : P / 64 + k + 1 < zs.length := by
     rcases hf2 with h | h
     ·exact h
     ·exact absurd h hrest
    have hcg2 := hown.cell (i := P / 64 + k + 1) (by omega)
    have i3 : (P : Int) / 64 + (k : Int) + 1 < (zs.length : Int) := by omega
    have hZ2 := getD_lt hplt (P / 64 + k + 1)
    have hne2 : (((ys.getD k 0 : Nat) : Int) / 2 ^ (64 - P % 64) != 0) = true := by rw [castDiv]; simp only [bne_iff_ne, ne_eq]; omega
    have HO : Hid (Own ((wr.setCell ⟨g, P / 64 + k, none⟩ (.int .u64 (bits BinOp.or IntKind.u64 (((putTo zs ys (P / 64) (P % 64) k).getD (P / 64 + k) 0 : Nat) : Int) (IntKind.u64.wrap (((ys.getD k 0 : Nat) : Int) * 2 ^ (P % 64)))))).setCell ⟨g, P / 64 + k + 1, none⟩ (.int .u64 (bits BinOp.or IntKind.u64 (((putTo zs ys (P / 64) (P % 64) k).getD (P / 64 + k + 1) 0 : Nat) : Int) (((ys.getD k 0 : Nat) : Int) / 2 ^ (64 - P % 64))))) g (putTo zs ys (P / 64) (P % 64) (k + 1))) := by
     show Own _ _ _
     rw [hstep, orShift _ _ _ hZ1, castDiv, bits_or_u64_nat _ _ hZ2 (Nat.lt_of_le_of_lt (Nat.div_le_self _ _) hY)]
     exact (hown.put _ _).put _ _
    clear hstep hgd hown hcell hk hplt hrest hlen
    generalize (putTo zs ys (P / 64) (P % 64) k).getD (P / 64 + k) 0 = z at *
    generalize (putTo zs ys (P / 64) (P % 64) k).getD (P / 64 + k + 1) 0 = z2 at *
    generalize ys.getD k 0 = y at *
    go_wp2
    go_region
    go_wp2
    go_roundw
    case rel => exact ⟨k + 1, by omega, by go_num, HO.out, grown_set (grown_drew (grown_set hgr _ _)) _ _⟩
    case measure => simp [intOf]; omega
  ·have e : k = ys.length := by omega
   subst e
   go_wp2
   go_end0
   exact ⟨rfl, hown, ⟨hgr.os.trans hB2.os, hgr.tape.trans hB2.tape, hgr.output.trans hB2.output, Nat.le_trans hB2.size hgr.size, fun j hj hne => (hgr.block j (by omega) hne).trans (hB2.block j hj)⟩⟩

theorem wpList_appBs (w : World) {ops : Array Oper} {rest : List Oper} {o : Oper} {a : Act} {Q : Exit → Act → World → Prop} (hgd : o.guard = none) (s x : Operand)
  (ho : o.op = .call { callee := .builtin .append, args := #[s, x], argTypes := #[22, 22] })
  (base : Nat) (v : Value) (bs ys : List Nat) (hs : a.eval s = v) (hown : OwB w base v bs) (b ob c : Nat) (hx : a.eval x = .slice (some ⟨b, ob, none⟩) ys.length c)
  (hc : ∀ i, i < ys.length → w.cell? ⟨b, ob + i, none⟩ = some (.int .u8 ((ys.getD i 0 : Nat) : Int))) (hl : bs.length + ys.length ≤ 4194304) (hbase : base ≤ w.heap.size)
  (h : ∀ v' w', OwB w' base v' (bs ++ ys) → w.grownBy w' v.ownBlock → wpList Tryz.prog ops Q rest (a.put o.dst v') w') : wpList Tryz.prog ops Q (o :: rest) a w := by
 obtain ⟨i0, hi, hz0, hz1, hz2⟩ := info_parts Tryz.infoU8
 refine wpList_append_own w hgd s x 22 ho base 5 i0 (.int .u8 0) 1 1 Tryz.underlying22 hi hz0 hz1 hz2 rfl (by decide) v bs.length (u8s bs) hs hown ⟨b, ob, none⟩ ys.length c (u8s ys) hx (by simp [u8s]) ?_ ?_ ?_ ?_ hbase ?_
 ·intro j u hj
  have hj' : j < ys.length := by
   have := (List.getElem?_eq_some_iff.1 hj).1
   simpa [u8s] using this
  rw [Addr.add_lit, hc j hj']
  simp [u8s, hj'] at hj
  rw [← hj]
  simp [List.getD, hj']
 ·intro u hu
  obtain ⟨_, _, rfl⟩ := List.mem_map.1 hu
  rfl
 ·unfold maxLen; omega
 ·omega
 ·intro v' w' h1 h2 _
  refine h v' w' ?_ h2
  unfold OwB
  simpa [u8s] using h1
def repList (bs : List Nat) (k : Nat) : List Nat := (List.replicate k bs).flatten
theorem repList_succ (bs : List Nat) (k : Nat) : repList bs (k + 1) = repList bs k ++ bs := by
 unfold repList
 rw [List.replicate_succ', List.flatten_append]; simp
theorem repList_len (bs : List Nat) (k : Nat) : (repList bs k).length = k * bs.length := by
 induction k with
 | zero => simp [repList]
 | succ k ih => rw [repList_succ, List.length_append, ih, Nat.succ_mul]
theorem repList_mem (bs : List Nat) (k x : Nat) (h : x ∈ repList bs k) : x ∈ bs := by
 unfold repList at h
 simp at h
 obtain ⟨l, ⟨_, rfl⟩, hx⟩ := h
 exact hx
def repR (W : Int) (xs : List Nat) (n : Int) : Int × List Nat × Bool :=
 if rightB W xs = true ∧ 1 ≤ n ∧ n ≤ 4096 ∧ W * n ≤ 4096 then (W * n, pack (repList (bitsTo xs W.toNat) n.toNat), true) else noR
set_option maxHeartbeats 1000000 in
set_option maxRecDepth 100000 in
theorem specRep_any (W : Int) (a : Option Addr) (c : Nat) (xs : List Nat) (n : Int) (w : World) (hr : Rd w a xs) :
  Calls Tryz.prog 100 #[.agg #[.int .i64 W, .slice a xs.length c], .int .i64 n] w (RetB w (repR W xs n)) := by
 have h2 : Below w.heap.size w ((w.alloc (Obj.cells #[.int IntKind.i64 W, .slice a xs.length c] 80)).alloc (Obj.cells #[.int IntKind.i64 0, .slice none 0 0] 80)) := ((Below.refl _ _).alloc (Nat.le_refl _) _).alloc (by simp) _
 have hr' := hr.later h2
 by_cases hc : rightB W xs = true ∧ 1 ≤ n ∧ n ≤ 4096 ∧ W * n ≤ 4096
 ·rw [repR, if_pos hc]
  generalize hR : (W * n, pack (repList (bitsTo xs W.toNat) n.toNat), true) = R
  have HR : Hid ((W * n, pack (repList (bitsTo xs W.toNat) n.toNat), true) = R) := hR
  clear hR
  obtain ⟨hok, hn1, hn2, hWn⟩ := hc
  obtain ⟨hW1, hW2, hWl⟩ := right_W hok
  obtain ⟨V, rfl⟩ := Int.eq_ofNat_of_zero_le (show 0 ≤ W by omega)
  obtain ⟨m, rfl⟩ := Int.eq_ofNat_of_zero_le (show 0 ≤ n by omega)
  have hVl : V ≤ 64 * xs.length := by omega
  have hVm : V * m ≤ 4096 := by exact_mod_cast hWn
  have hd : decide (1 ≤ (m : Int) ∧ (m : Int) ≤ 4096) = true := by simp; omega
  have hm1 : 1 ≤ m := by omega
  have HWl : Hid ((xs.length : Int) = ((V : Int) + 63) / 64) := hWl
  clear hWl
  go_enter Tryz.func100, Tryz.ntmps100
  go_wp2_with fail
  refine (specOk_any _ _ _ _ _ hr').mono ?_
  rintro e w1 ⟨rfl, hb1⟩
  have hr1 := hr'.later hb1
  have HB1 := hb1
  obtain ⟨hcc, hff⟩ := bcell hb1
  have hz : w.heap.size + 1 < w1.heap.size := by have := hb1.size; simp at this; omega
  clear hb1
  go_wp2_with (go_at_call 73; refine (l1In_any _ _ _ _).mono ?_; rintro e w' ⟨rfl, rfl⟩)
  refine (l1List_any _ _ _ _ _ hr1 hVl (by omega)).mono ?_
  rintro e w2 ⟨v, rfl, how, hb2⟩
  have hlen := bitsTo_len xs V
  have hle := bitsTo_le xs V
  obtain ⟨a2, c2, rfl, hrb, hc2, hm2⟩ := how.shape (by rw [bitsTo_len]; omega) (fun x hx => by have := hle x hx; omega)
  have HB2 := chain HB1 hb2
  rw [hlen] at hc2 ⊢
  obtain ⟨-, -, hn | ⟨bb, oo, rfl, hcell⟩⟩ := hrb
  ·rw [hn] at hlen; simp at hlen; omega
  have hbb : bb < w2.heap.size := block_lt_of_cell (hcell 0 (by omega))
  clear how hb2 hr hr' hr1 hcc hff hz HB1
  go_wp2_with fail
  have HB3 := Ba HB2 (Obj.cells #[] 5)
  have hB23 : Below w2.heap.size w2 (w2.alloc (Obj.cells #[] 5)) := (Below.refl _ _).alloc (Nat.le_refl _) _
  have hcell3 : ∀ i, i < V → (w2.alloc (Obj.cells #[] 5)).cell? ⟨bb, oo + i, none⟩ = some (.int .u8 (((bitsTo xs V).getD i 0 : Nat) : Int)) := fun i hi => by rw [acell _ _ _ hbb]; exact hcell i (by omega)
  have how3 := OwB.nil w2 w2.heap.size _ rfl (Nat.le_refl _)
  have hs3 : (w2.alloc (Obj.cells #[] 5)).heap.size = w2.heap.size + 1 := by simp
  generalize w2.alloc (Obj.cells #[] 5) = w3 at *
  generalize hbs : bitsTo xs V = bs at *
  have HBS : Hid (bitsTo xs V = bs) := hbs
  clear hbs hcell
  go_loopw [7, 8] (fun v i wr => ∃ k : Nat, k ≤ m ∧ i = .int .i64 k ∧ OwB wr w2.heap.size v (repList bs k) ∧ Below w2.heap.size w3 wr) (fun _ i _ => m - (intOf i).toNat)
  case atStart => exact ⟨0, Nat.zero_le _, rfl, how3, Below.refl _ _⟩
  case round =>
   obtain ⟨k, hk, rfl, hown, hbel⟩ := hrel
   by_cases hlt : k < m
   ·have hrl := repList_len bs k
    rw [hlen] at hrl
    have hkV : k * V ≤ 4096 := by
     have : k * V ≤ m * V := Nat.mul_le_mul_right _ (by omega)
     rw [Nat.mul_comm m V] at this; omega
    have hsz := hbel.size
    have hcr : ∀ i, i < bs.length → wr.cell? ⟨bb, oo + i, none⟩ = some (.int .u8 ((bs.getD i 0 : Nat) : Int)) := fun i hi => by
     rw [hbel.cell (p := ⟨bb, oo + i, none⟩) (by exact hbb)]; exact hcell3 i (by omega)
    have HS : Hid (repList bs (k + 1) = repList bs k ++ bs) := repList_succ bs k
    have hll : (repList bs k).length + bs.length ≤ 4194304 := by rw [hrl, hlen]; omega
    clear hcell3 how3
    generalize repList bs k = rk at *
    go_wp2_with (at_builtin; refine wpList_appBs _ rfl _ _ rfl w2.heap.size _ rk bs rfl hown bb oo c2 (by rw [hlen]; rfl) hcr hll (by omega) ?_)
    intro v' w4 hown4 hgr4
    have hb4 : Below w2.heap.size w3 w4 := hbel.grown hgr4 (by omega) hown.own
    clear hgr4 hown hcr hbel
    go_wp2
    go_roundw
    case rel => exact ⟨k + 1, by omega, by go_num, by rw [HS.out]; exact hown4, hb4⟩
    case measure => simp [intOf]; omega
   ·have e : k = m := by omega
    subst e
    have hrl := repList_len bs k
    rw [hlen] at hrl
    have hkV : k * V ≤ 4096 := by rw [Nat.mul_comm]; exact hVm
    have hkV1 : 1 ≤ k * V := Nat.mul_pos (by omega) (by omega)
    obtain ⟨a4, c4, rfl, hrb4, hc4, hm4⟩ := hown.shape (by rw [hrl]; omega) (fun x hx => by have := hle x (repList_mem _ _ _ hx); omega)
    have HBr := HB3.trans (hbel.mono HB2.size)
    have HQ : Hid ((((repList bs k).length : Int), pack (repList bs k), true) = R) := by
     show _ = _
     rw [← HR.out, Int.toNat_natCast, Int.toNat_natCast, HBS.out, hrl, Nat.mul_comm k V, Int.natCast_mul]
    have hfrom := l1From_yes a4 c4 (repList bs k) wr hrb4 (by omega) (by omega)
    clear hcell3 how3 hown hrb4 hbel HR HBS
    generalize repList bs k = rk at *
    clear hrl
    go_wp2_with fail
    refine hfrom.mono ?_
    rintro e w5 ⟨a5, c5, rfl, hfr, hb5⟩
    have HB5 := chain HBr hb5
    obtain ⟨hcc, hff⟩ := bcell HB5
    have hz5 : w.heap.size + 1 < w5.heap.size := by have := HB5.size; simp at this; omega
    have hzr : w.heap.size + 1 < wr.heap.size := by have := HBr.size; simp at this; omega
    dsimp only at hfr ⊢
    clear hfrom
    go_wp2
    exact bodyPost_ret (by simp [results, Tryz.results100, go_sem, hcc, hz5]; rfl) rfl (RetB.close (r := ((rk.length : Int), pack rk, true)) hfr (by omega) hzr (h2.trans (HB5.mono (by simp; omega))) HQ.out _ _)
 ·rw [repR, if_neg hc]
  have hcase : rightB W xs = false ∨ (rightB W xs = true ∧ decide (1 ≤ n ∧ n ≤ 4096) = false) ∨ (rightB W xs = true ∧ decide (1 ≤ n ∧ n ≤ 4096) = true ∧ 4096 < W * n) := by
   cases hb : rightB W xs with
   | false => exact .inl rfl
   | true =>
    right
    by_cases h : 1 ≤ n ∧ n ≤ 4096
    ·right; simp [hb, h] at hc ⊢; omega
    ·left; simp only [h, decide_false]; simp
  clear hc
  rcases hcase with h | ⟨h, h1⟩ | ⟨h, h1, h3⟩
  ·go_enter Tryz.func100, Tryz.ntmps100
   go_wp2_with fail
   refine (specOk_any _ _ _ _ _ hr').mono ?_
   rintro e w1 ⟨rfl, hb1⟩
   obtain ⟨hcc, hff⟩ := bcell hb1
   have hz : w.heap.size + 1 < w1.heap.size := by have := hb1.size; simp at this; omega
   go_wp2_with (go_at_call 73; refine (l1In_any _ _ _ _).mono ?_; rintro e w' ⟨rfl, rfl⟩)
   exact bodyPost_ret (v := .tuple #[.agg #[.int .i64 0, .slice none 0 0], .bool false]) (by simp [results, Tryz.results100, go_sem, hcc]) rfl (RetB.no (((h2.trans (hb1.mono (by simp; omega))).setCell (by simp) _).setCell (by simp) _))
  ·go_enter Tryz.func100, Tryz.ntmps100
   go_wp2_with fail
   refine (specOk_any _ _ _ _ _ hr').mono ?_
   rintro e w1 ⟨rfl, hb1⟩
   obtain ⟨hcc, hff⟩ := bcell hb1
   have hz : w.heap.size + 1 < w1.heap.size := by have := hb1.size; simp at this; omega
   go_wp2_with (go_at_call 73; refine (l1In_any _ _ _ _).mono ?_; rintro e w' ⟨rfl, rfl⟩)
   exact bodyPost_ret (v := .tuple #[.agg #[.int .i64 0, .slice none 0 0], .bool false]) (by simp [results, Tryz.results100, go_sem, hcc]) rfl (RetB.no (((h2.trans (hb1.mono (by simp; omega))).setCell (by simp) _).setCell (by simp) _))
  ·have hn := of_decide_eq_true h1
   obtain ⟨hW1, hW2, _⟩ := right_W h
   have hmul : W * n ≤ 4096 * 4096 := Int.mul_le_mul hW2 hn.2 (by omega) (by omega)
   go_enter Tryz.func100, Tryz.ntmps100
   go_wp2_with fail
   refine (specOk_any _ _ _ _ _ hr').mono ?_
   rintro e w1 ⟨rfl, hb1⟩
   obtain ⟨hcc, hff⟩ := bcell hb1
   have hz : w.heap.size + 1 < w1.heap.size := by have := hb1.size; simp at this; omega
   go_wp2_with (go_at_call 73; refine (l1In_any _ _ _ _).mono ?_; rintro e w' ⟨rfl, rfl⟩)
   exact bodyPost_ret (v := .tuple #[.agg #[.int .i64 0, .slice none 0 0], .bool false]) (by simp [results, Tryz.results100, go_sem, hcc]) rfl (RetB.no (((h2.trans (hb1.mono (by simp; omega))).setCell (by simp) _).setCell (by simp) _))

def bwc : List Bw → List Value
 | [] => []
 | x :: t => .int .i64 x.wd :: .slice x.a x.ws.length x.c :: bwc t
theorem bwc_len (l : List Bw) : (bwc l).length = l.length * 2 := by
 induction l with
 | nil => rfl
 | cons x t ih => simp [bwc, ih]; omega
theorem bwc_append (l m : List Bw) : bwc (l ++ m) = bwc l ++ bwc m := by
 induction l with
 | nil => rfl
 | cons x t ih => simp [bwc, ih]
theorem bwc_get : ∀ {l : List Bw} {i : Nat} {x : Bw}, l[i]? = some x → (bwc l)[i * 2]? = some (.int .i64 x.wd) ∧ (bwc l)[i * 2 + 1]? = some (.slice x.a x.ws.length x.c)
 | y :: t, 0, x, h => by simp at h; subst h; simp [bwc]
 | y :: t, i + 1, x, h => by
  have := bwc_get (l := t) (i := i) (x := x) (by simpa using h)
  rw [show (i + 1) * 2 = i * 2 + 1 + 1 by omega]
  simpa [bwc] using this
def OB2 (w : World) (B : Nat) (v : Value) (l : List Bw) : Prop := w.ownsRow B 80 2 v l.length (bwc l)
theorem OB2.later {w w' : World} {B : Nat} {v : Value} {l : List Bw} (h : OB2 w B v l) (hb : Below w.heap.size w w') : OB2 w' B v l := World.ownsRow.kept (row := none) h ⟨hb.os, hb.tape, hb.output, hb.size, fun k hk _ => hb.block k hk⟩ (by
 cases h' : v.ownBlock with
 | none => exact .inl rfl
 | some k => exact .inr (by simp))
theorem OB2.lt {w : World} {B : Nat} {v : Value} {l : List Bw} (h : OB2 w B v l) {b : Nat} (hb : v.ownBlock = some b) : B ≤ b ∧ b < w.heap.size := by
 rcases h.2 with ⟨rfl, -⟩ | ⟨g, cap, cur, rfl, hg, hh, -⟩
 ·cases hb
 ·cases hb
  exact ⟨hg, lt_of_block hh⟩
theorem OB2.typed {w : World} {B : Nat} {v : Value} {l : List Bw} (h : OB2 w B v l) {b : Nat} (hb : v.ownBlock = some b) : ∃ cur, w.heap[b]? = some (.cells cur 80 (0, 0)) := by
 rcases h.2 with ⟨rfl, -⟩ | ⟨g, cap, cur, rfl, hg, hh, -⟩
 ·cases hb
 ·cases hb
  exact ⟨cur, hh⟩
theorem OB2.nil (w : World) (B : Nat) : OB2 w B (.slice none 0 0) [] := ⟨rfl, .inl ⟨rfl, rfl⟩⟩
theorem OB2.move {w w' : World} {B : Nat} {v : Value} {l : List Bw} (h : OB2 w B v l) (hk : ∀ b, v.ownBlock = some b → w'.heap[b]? = w.heap[b]?) : OB2 w' B v l := by
 refine ⟨h.1, ?_⟩
 rcases h.2 with h0 | ⟨g, cap, cur, rfl, hg, hh, r⟩
 ·exact .inl h0
 ·exact .inr ⟨g, cap, cur, rfl, hg, (hk g rfl).trans hh, r⟩
theorem OB2.form {w : World} {B : Nat} {v : Value} {l : List Bw} (h : OB2 w B v l) : ∃ a c, v = .slice a l.length c := by
 rcases h.2 with ⟨e, h0⟩ | ⟨g, cap, cur, e, -⟩
 ·exact ⟨none, 0, by rw [e, h0]⟩
 ·exact ⟨_, _, e⟩
theorem OB2.empty (w : World) (B : Nat) (h : B ≤ w.heap.size) : OB2 (w.alloc (.cells #[] 80)) B (.slice (some ⟨w.heap.size, 0, Option.none⟩) 0 0) [] := World.ownsRow_made w #[] 0 h (Nat.zero_le _) (by simp)
theorem OB2.at {w : World} {B : Nat} {v : Value} {l : List Bw} (h : OB2 w B v l) {i : Nat} {x : Bw} (hi : l[i]? = some x) : ∃ g c, v = .slice (some ⟨g, 0, none⟩) l.length c ∧ w.cell? ⟨g, i * 2, none⟩ = some (.int .i64 x.wd) ∧ w.cell? ⟨g, i * 2 + 1, none⟩ = some (.slice x.a x.ws.length x.c) := by
 have hil := (List.getElem?_eq_some_iff.1 hi).1
 rcases h.2 with ⟨-, h0⟩ | ⟨g, cap, cur, rfl, hg, hh, hc1, hc2, hsz, hcur⟩
 ·omega
 ·obtain ⟨e0, e1⟩ := bwc_get hi
  rw [← hcur] at e0 e1
  rw [List.getElem?_take, if_pos (by omega)] at e0 e1
  simp only [Array.getElem?_toList] at e0 e1
  exact ⟨g, cap, rfl, by rw [cell_of_row w g _ cur _ _ hh]; exact e0, by rw [cell_of_row w g _ cur _ _ hh]; exact e1⟩
theorem OB2.rd {w : World} {B : Nat} {v : Value} {l : List Bw} (h : OB2 w B v l) (hl : l.length ≤ 1048576) (hx : ∀ x ∈ l, Rd w x.a x.ws ∧ in64 x.wd) : ∃ a c, v = .slice a l.length c ∧ RdW w a l := by
 by_cases e : l = []
 ·subst e
  obtain ⟨a, c, rfl⟩ := h.form
  exact ⟨a, c, rfl, by simp, .inl rfl⟩
 ·have h0 : 0 < l.length := List.length_pos_iff.2 e
  obtain ⟨g, c, rfl, -⟩ := h.at (List.getElem?_eq_getElem h0)
  refine ⟨_, c, rfl, hl, .inr ⟨g, 0, rfl, fun i x hi => ?_⟩⟩
  obtain ⟨g', c', e', h1, h2⟩ := h.at hi
  cases e'
  obtain ⟨h3, h4⟩ := hx x (List.mem_of_getElem? hi)
  exact ⟨by rw [Nat.zero_add]; exact h1, by rw [Nat.zero_add]; exact h2, h3, h4⟩
theorem step_appB2 (w : World) {ops : Array Oper} {o : Oper} {a : Act} {K : Act → World → Prop} {Q : Exit → Act → World → Prop} {E : Prop} (hgd : o.guard = none) (s x : Operand)
  (ho : o.op = .call { callee := .builtin .append, args := #[s, x], argTypes := #[25, 25] })
  (B : Nat) (v : Value) (l : List Bw) (y : Bw) (hs : a.eval s = v) (hown : OB2 w B v l) (gx c : Nat) (hx : a.eval x = .slice (some ⟨gx, 0, none⟩) 1 c)
  (h0 : w.cell? ⟨gx, 0, none⟩ = some (.int .i64 y.wd)) (h1 : w.cell? ⟨gx, 1, none⟩ = some (.slice y.a y.ws.length y.c)) (hl : l.length ≤ 1073741824) (hB : B ≤ w.heap.size)
  (h : ∀ g cap w', OB2 w' B (.slice (some ⟨g, 0, none⟩) (l.length + 1) cap) (l ++ [y]) → w.grownBy w' v.ownBlock → K (a.put o.dst (.slice (some ⟨g, 0, none⟩) (l.length + 1) cap)) w') :
  if Region.wanted o (yielded ops a.tmps) = true then Oper.wp Tryz.prog o a w K Q else E := by
 obtain ⟨i0, hi, hz0, hz1, hz2⟩ := info_parts Tryz.infoBits
 refine step_append_lies w hgd s x 25 ho B 80 i0 _ 2 32 Tryz.underlying25 hi hz0 hz1 hz2 rfl (by decide) v l.length (bwc l) hs hown ⟨gx, 0, none⟩ 1 c (bwc [y]) hx rfl ?_ ?_ (by decide) ?_ ?_ hB _ rfl ?_
 ·intro j u hj
  rw [Addr.add_lit]
  match j, hj with
  | 0, hj => simp [bwc] at hj; subst hj; exact h0
  | 1, hj => simp [bwc] at hj; subst hj; exact h1
  | j + 2, hj => simp [bwc] at hj
 ·intro u hu
  simp [bwc] at hu
  rcases hu with rfl | rfl <;> rfl
 ·unfold maxLen; omega
 ·omega
 ·intro g cap w' h1 h2 _ _
  refine h g cap w' ?_ h2
  unfold OB2
  rw [bwc_append, List.length_append]
  exact h1
theorem wpList_appB2 {w : World} {ops : Array Oper} {rest : List Oper} {o : Oper} {a : Act} {Q : Exit → Act → World → Prop} (hgd : o.guard = none) (s x : Operand)
  (ho : o.op = .call { callee := .builtin .append, args := #[s, x], argTypes := #[25, 25] })
  (B : Nat) (v : Value) (l : List Bw) (y : Bw) (hs : a.eval s = v) (hown : OB2 w B v l) (gx c : Nat) (hx : a.eval x = .slice (some ⟨gx, 0, none⟩) 1 c)
  (h0 : w.cell? ⟨gx, 0, none⟩ = some (.int .i64 y.wd)) (h1 : w.cell? ⟨gx, 1, none⟩ = some (.slice y.a y.ws.length y.c)) (hl : l.length ≤ 1073741824) (hB : B ≤ w.heap.size)
  (h : ∀ g cap w', OB2 w' B (.slice (some ⟨g, 0, none⟩) (l.length + 1) cap) (l ++ [y]) → w.grownBy w' v.ownBlock → wpList Tryz.prog ops Q rest (a.put o.dst (.slice (some ⟨g, 0, none⟩) (l.length + 1) cap)) w') : wpList Tryz.prog ops Q (o :: rest) a w := by
 obtain ⟨i0, hi, hz0, hz1, hz2⟩ := info_parts Tryz.infoBits
 refine wpList_append_lies w hgd s x 25 ho B 80 i0 _ 2 32 Tryz.underlying25 hi hz0 hz1 hz2 rfl (by decide) v l.length (bwc l) hs hown ⟨gx, 0, none⟩ 1 c (bwc [y]) hx rfl ?_ ?_ (by decide) ?_ ?_ hB _ rfl ?_
 ·intro j u hj
  rw [Addr.add_lit]
  match j, hj with
  | 0, hj => simp [bwc] at hj; subst hj; exact h0
  | 1, hj => simp [bwc] at hj; subst hj; exact h1
  | j + 2, hj => simp [bwc] at hj
 ·intro u hu
  simp [bwc] at hu
  rcases hu with rfl | rfl <;> rfl
 ·unfold maxLen; omega
 ·omega
 ·intro g cap w' h1 h2 _ _
  refine h g cap w' ?_ h2
  unfold OB2
  rw [bwc_append, List.length_append]
  exact h1
def DjB (l : List Bw) : Prop := ∀ (i j : Nat) (x y : Bw), i < j → l[i]? = some x → l[j]? = some y → ∀ p q, x.a = some p → y.a = some q → p.block ≠ q.block
theorem DjB.nil : DjB [] := fun i j x y _ h => by simp at h
theorem DjB.snoc {w : World} {B : Nat} {l : List Bw} {x : Bw} (h : DjB l) (hl : ∀ y ∈ l, Nw w B y.a y.ws) (hx : ∀ p, x.a = some p → w.heap.size ≤ p.block) : DjB (l ++ [x]) := fun i j y z hij hi hj p q hp hq => by
 rw [List.getElem?_append] at hi hj
 split at hj
 ·rename_i hjl
  rw [if_pos (by omega)] at hi
  exact h i j y z hij hi hj p q hp hq
 ·rename_i hjl
  have hj0 : j - l.length = 0 := by have := (List.getElem?_eq_some_iff.1 hj).1; simp at this; omega
  rw [hj0] at hj
  simp at hj
  subst hj
  rw [if_pos (by omega)] at hi
  have h1 := (nw_lt (hl y (List.mem_of_getElem? hi)) hp).2
  have h2 := hx q hq
  omega


structure Lc where
 id : Int
 eq : Bool
 ss : List Tc
 ts : List Tc

structure Lg where
 id : Int
 eq : Bool
 ss : List Tg
 sa : Option Addr
 sc : Nat
 ts : List Tg
 ta : Option Addr
 tc : Nat
def Lg.ct (x : Lg) : Lc := ⟨x.id, x.eq, x.ss.map Tg.ct, x.ts.map Tg.ct⟩
def Lg.val (x : Lg) : Value := .agg #[.int .i64 x.id, .bool x.eq, .slice x.sa x.ss.length x.sc, .slice x.ta x.ts.length x.tc]
def LgAt (w : World) (b o : Nat) (x : Lg) : Prop :=
 (w.cell? ⟨b, o, none⟩ = some (.int .i64 x.id) ∧ w.cell? ⟨b, o + 1, none⟩ = some (.bool x.eq) ∧ w.cell? ⟨b, o + 2, none⟩ = some (.slice x.sa x.ss.length x.sc) ∧ w.cell? ⟨b, o + 3, none⟩ = some (.slice x.ta x.ts.length x.tc)) ∧ RdT w x.sa x.ss ∧ RdT w x.ta x.ts ∧ in64 x.id
theorem LgAt.later {w w' : World} {b o : Nat} {x : Lg} (h : LgAt w b o x) (hb : Below w.heap.size w w') : LgAt w' b o x := by
 obtain ⟨⟨f0, f1, f2, f3⟩, f4, f5, f6⟩ := h
 have l := block_lt_of_cell f0
 exact ⟨⟨by rw [kcell hb _ _ l]; exact f0, by rw [kcell hb _ _ l]; exact f1, by rw [kcell hb _ _ l]; exact f2, by rw [kcell hb _ _ l]; exact f3⟩, f4.later hb, f5.later hb, f6⟩
def RdL (w : World) (a : Option Addr) (xs : List Lg) : Prop :=
 xs.length ≤ 1048576 ∧ (xs = [] ∨ ∃ b o, a = some ⟨b, o, none⟩ ∧ ∀ i n, xs[i]? = some n → LgAt w b (o + i * 4) n)
theorem RdL.later {w w' : World} {a : Option Addr} {xs : List Lg} (h : RdL w a xs) (hb : Below w.heap.size w w') : RdL w' a xs := by
 refine ⟨h.1, ?_⟩
 rcases h.2 with h | ⟨b, o, rfl, hc⟩
 ·exact .inl h
 ·exact .inr ⟨b, o, rfl, fun i n hi => (hc i n hi).later hb⟩

theorem Tryz.infoLit : (Tryz.prog.info? 30).map (fun i => (i.zero, i.size, i.bytes)) = some (some (.agg #[.int .i64 0, .bool false, .slice none 0 0, .slice none 0 0]), 4, 64) := by kernel_rfl

end Go.Proofs.YtkngpgonmedgpaaGreatDoor
