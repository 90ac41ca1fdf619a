/- Several texts in one. -/
import Derived.Test.YtkngpgonmedgpaaGreatDoorGAI
import Derived.Test.YtkngpgonmedgpaaGreatDoorGAJ
import Derived.Test.YtkngpgonmedgpaaGreatDoorGAG
import Derived.Deep.RegionWith
import Derived.Test.YtkngpgonmedgpaaGreatDoorGAE
import Derived.Test.YtkngpgonmedgpaaGreatDoorRX
import Derived.Test.YtkngpgonmedgpaaGreatDoorGAM
import Derived.Test.YtkngpgonmedgpaaGreatDoorGAL
import Derived.Test.YtkngpgonmedgpaaGreatDoorGAO
import Derived.Handy
import Derived.Test.YtkngpgonmedgpaaGreatDoorRows
import Derived.ProofKit
import Derived.LaidMore
import Derived.OpenShut
import Derived.Stop.Joined
import Derived.MakeChecks
import Derived.LaidLaws
import Derived.LaidHandle
namespace Go.Proofs.YtkngpgonmedgpaaGreatDoor
open Go.RowKit
set_option linter.unusedVariables false
set_option linter.unusedSimpArgs false
def valR (ds : List Dc) (vs : List (Int × List Nat)) : Bool :=
 dclR ds && decide (vs.length = ds.length) && (List.range vs.length).all fun i => rightB (vs.getD i (0, [])).1 (vs.getD i (0, [])).2 && decide ((vs.getD i (0, [])).1 = (ds.getD i (.empty, 0)).2)
theorem valR_iff {ds : List Dc} {vs : List (Int × List Nat)} : valR ds vs = true ↔ dclR ds = true ∧ vs.length = ds.length ∧ ∀ i, i < vs.length → rightB (vs.getD i (0, [])).1 (vs.getD i (0, [])).2 = true ∧ (vs.getD i (0, [])).1 = (ds.getD i (.empty, 0)).2 := by
 simp only [valR, Bool.and_eq_true, decide_eq_true_eq, List.all_eq_true, List.mem_range]
 exact ⟨fun h => ⟨h.1.1, h.1.2, h.2⟩, fun h => ⟨⟨h.1, h.2.1⟩, h.2.2⟩⟩
theorem valR_bad {ds : List Dc} {xs : List Bw} {k : Nat} {x : Bw} {d : Dc} (hx : xs[k]? = some x) (hd : ds[k]? = some d) (h : ¬ (rightB x.wd x.ws = true ∧ x.wd = d.2)) : valR ds (xs.map Bw.ct) = false := by
 rw [Bool.eq_false_iff]; intro h'
 have hk := (List.getElem?_eq_some_iff.1 hx).1
 have := (valR_iff.1 h').2.2 k (by simpa using hk)
 simp [List.getD, hx, hd, Bw.ct] at this
 exact h this
theorem valR_good {ds : List Dc} {xs : List Bw} (h1 : dclR ds = true) (h2 : xs.length = ds.length) (h : ∀ (i : Nat) x d, xs[i]? = some x → ds[i]? = some d → rightB x.wd x.ws = true ∧ x.wd = d.2) : valR ds (xs.map Bw.ct) = true := by
 refine valR_iff.2 ⟨h1, by simpa using h2, fun i hi => ?_⟩
 simp at hi
 have := h i xs[i] (ds[i]'(by omega)) (List.getElem?_eq_getElem hi) (List.getElem?_eq_getElem (by omega))
 simp [List.getD, hi, show i < ds.length by omega, Bw.ct]
 exact this
set_option maxHeartbeats 1000000 in
theorem implValues_any (a b : Option Addr) (c c2 : Nat) (ds : List Dc) (xs : List Bw) (w : World) (hr : RdD w a ds) (hs : RdW w b xs) (n : Nat) (hn : xs.length = n) :
  Calls Tryz.prog 42 #[.slice a ds.length c, .slice b n c2] w fun e w' => e = .returned (.bool (valR ds (xs.map Bw.ct))) ∧ Below w.heap.size w w' := by
 have hl1 := hr.1
 have hl2 := hs.1
 have HDC := kide (implDecls_any a c ds w hr)
 cases hD : dclR ds with
 | false =>
  rw [hD] at HDC
  have HR : valR ds (xs.map Bw.ct) = false := by simp [valR, hD]
  rw [HR]
  clear HR hD
  go_enter Tryz.func42, Tryz.ntmps42
  go_wp2_with fail
  refine Calls.mono HDC.out ?_
  rintro e w1 ⟨rfl, hb1⟩
  go_wp2_with fail
  go_ret
  exact ⟨rfl, hb1⟩
 | true =>
  rw [hD] at HDC
  by_cases hnd : n = ds.length
  ·subst hnd
   have HG := kide (fun h => valR_good (xs := xs) hD hn h)
   have HBAD := kide (fun k x d hx hd h => valR_bad (ds := ds) (xs := xs) (k := k) (x := x) (d := d) hx hd h)
   generalize valR ds (xs.map Bw.ct) = R at *
   have HN := kide hn
   have hne : ((ds.length : Int) != (ds.length : Int)) = false := by simp
   clear hD hn hl2
   go_enter Tryz.func42, Tryz.ntmps42
   go_wp2_with fail
   refine Calls.mono HDC.out ?_
   rintro e w1 ⟨rfl, hb1⟩
   have B1 := kide hb1
   clear hb1 HDC
   go_wp2_with fail
   clear hne
   go_loopw [19] (fun i wr => ∃ k : Nat, k ≤ ds.length ∧ i = .int .i64 (k : Int) ∧ (∀ (i : Nat) x d, i < k → xs[i]? = some x → ds[i]? = some d → rightB x.wd x.ws = true ∧ x.wd = d.2) ∧ Below w.heap.size w wr) (fun i _ => ds.length - (intOf i).toNat)
   case atStart => exact ⟨0, Nat.zero_le _, rfl, fun i x d h => by omega, B1.out⟩
   case round =>
    obtain ⟨k, hk, rfl, hz, hbel⟩ := hrel
    have HZ := kide hz
    have HB := kide hbel
    by_cases hlt : k < ds.length
    ·obtain ⟨-, hsz, h | ⟨b1, o1, rfl, hc1⟩⟩ := hr
     ·subst h; simp at hlt
     obtain ⟨-, h | ⟨b2, o2, rfl, hc2⟩⟩ := hs
     ·have := HN.out; subst h; simp at this; omega
     obtain ⟨⟨t, y⟩, gd⟩ : ∃ d, ds[k]? = some d := ⟨ds[k], List.getElem?_eq_getElem hlt⟩
     obtain ⟨⟨s1, a1, c1, k1⟩, gx⟩ : ∃ x, xs[k]? = some x := ⟨xs[k]'(by rw [HN.out]; exact hlt), List.getElem?_eq_getElem _⟩
     obtain ⟨-, q1⟩ := (hc1 k _ gd).later hbel
     obtain ⟨p0, p1, p2, p3⟩ := (hc2 k _ gx).later hbel
     obtain ⟨hy, -⟩ := hsz _ (List.mem_of_getElem? gd)
     simp only [] at q1 p0 p1 p2 p3 hy
     have HBD := kide (fun h => HBAD.out k _ _ gx gd h)
     simp only [] at HBD
     have GX := kide gx
     have GD := kide gd
     have i0 : (k : Int) < (ds.length : Int) := by omega
     have hb0 : Below wr.heap.size wr (wr.alloc (Obj.cells #[.int .i64 s1, .slice a1 k1.length c1] 80)) := (Below.refl _ _).alloc (Nat.le_refl _) _
     have HOK : Hid (∀ u, Below wr.heap.size wr u → Calls Tryz.prog 76 #[.agg #[.int .i64 s1, .slice a1 k1.length c1]] u fun e w' => e = .returned (.bool (rightB s1 k1)) ∧ Below u.heap.size u w') := fun u hu => implOk_any s1 a1 c1 k1 u (p2.later hu)
     have l1 : b1 < wr.heap.size := block_lt_of_cell q1
     have c0 : (wr.alloc (Obj.cells #[.int .i64 s1, .slice a1 k1.length c1] 80)).cell? ⟨wr.heap.size, 0, none⟩ = some (Value.int .i64 s1) := by simp
     have c1' : (wr.alloc (Obj.cells #[.int .i64 s1, .slice a1 k1.length c1] 80)).cell? ⟨wr.heap.size, 1, none⟩ = some (Value.slice a1 k1.length c1) := by simp
     have c2' : (wr.alloc (Obj.cells #[.int .i64 s1, .slice a1 k1.length c1] 80)).cell? ⟨b1, o1 + k * 2 + 1, none⟩ = some (Value.int .i64 y) := by rw [kcell hb0 _ _ l1]; exact q1
     have l0 : wr.heap.size < (wr.alloc (Obj.cells #[.int .i64 s1, .slice a1 k1.length c1] 80)).heap.size := by simp
     have l2 : b1 < (wr.alloc (Obj.cells #[.int .i64 s1, .slice a1 k1.length c1] 80)).heap.size := by simp; omega
     clear hc1 hc2 hsz gx gd hbel hz p2 HBAD
     generalize hrB : rightB s1 k1 = r at *
     have HRB := kide hrB
     clear hrB
     cases r with
     | false =>
      have HF := kide (HBD.out (by simp))
      go_wp2_with fail
      generalize wr.alloc (Obj.cells #[.int .i64 s1, .slice a1 k1.length c1] 80) = w0 at *
      clear q1 p0 p1
      have HB0 := kide hb0
      clear hb0
      first | (go_region_with (go_at_call 76; refine Calls.mono (HOK.out _ ?_) ?_; exact HB0.out.drew; rintro e w3 ⟨rfl, hb3⟩; replace hb3 := kundrew hb3; have k0 := kcell hb3 wr.heap.size 0 l0; have k1' := kcell hb3 wr.heap.size 1 l0; have k2' := kcell hb3 b1 (o1 + k * 2 + 1) l2)) | fail
      all_goals
       go_wp2_with fail
       go_ret
       exact ⟨ret_bool HF.out.symm, HB.out.trans ((HB0.out.trans (hb3.mono HB0.out.size)).mono HB.out.size)⟩
     | true =>
      have HREG := kide hb0
      by_cases hsy : s1 = y
      ·have hne : (s1 != y) = false := by simp [hsy]
       have HSY := kide hsy
       clear hsy
       go_wp2_with fail
       generalize wr.alloc (Obj.cells #[.int .i64 s1, .slice a1 k1.length c1] 80) = w0 at *
       clear q1 p0 p1 hb0
       go_region_held3 (fun u => u.cell? ⟨wr.heap.size, 0, none⟩ = some (Value.int .i64 s1) ∧ u.cell? ⟨wr.heap.size, 1, none⟩ = some (Value.slice a1 k1.length c1) ∧ u.cell? ⟨b1, o1 + k * 2 + 1, none⟩ = some (Value.int .i64 y)) (simp [*])
        ((go_at_call 76; refine Calls.mono (HOK.out _ ?_) ?_; exact HREG.out.drew; rintro e w3 ⟨rfl, hb3⟩; replace hb3 := kundrew hb3; have k0 := kcell hb3 wr.heap.size 0 l0; have k1' := kcell hb3 wr.heap.size 1 l0; have k2' := kcell hb3 b1 (o1 + k * 2 + 1) l2))
       go_wp2_with fail
       go_roundw
       case rel =>
        refine ⟨k + 1, by omega, by go_num, fun i x d hi hx hd => ?_, HB.out.trans ((HREG.out.trans (hb3.mono HREG.out.size)).mono HB.out.size)⟩
        by_cases hik : i = k
        ·subst hik
         rw [GX.out] at hx
         rw [GD.out] at hd
         cases hx
         cases hd
         exact ⟨HRB.out, HSY.out⟩
        ·exact HZ.out i x d (by omega) hx hd
       case measure => simp [intOf]; omega
      ·have hne : (s1 != y) = true := by simp [hsy]
       have HF := kide (HBD.out (fun h => hsy h.2))
       clear hsy
       go_wp2_with fail
       generalize wr.alloc (Obj.cells #[.int .i64 s1, .slice a1 k1.length c1] 80) = w0 at *
       clear q1 p0 p1 hb0
       go_region_held3 (fun u => u.cell? ⟨wr.heap.size, 0, none⟩ = some (Value.int .i64 s1) ∧ u.cell? ⟨wr.heap.size, 1, none⟩ = some (Value.slice a1 k1.length c1) ∧ u.cell? ⟨b1, o1 + k * 2 + 1, none⟩ = some (Value.int .i64 y)) (simp [*])
        ((go_at_call 76; refine Calls.mono (HOK.out _ ?_) ?_; exact HREG.out.drew; rintro e w3 ⟨rfl, hb3⟩; replace hb3 := kundrew hb3; have k0 := kcell hb3 wr.heap.size 0 l0; have k1' := kcell hb3 wr.heap.size 1 l0; have k2' := kcell hb3 b1 (o1 + k * 2 + 1) l2))
       go_wp2_with fail
       go_ret
       exact ⟨ret_bool HF.out.symm, HB.out.trans ((HREG.out.trans (hb3.mono HREG.out.size)).mono HB.out.size)⟩
    ·have e : k = ds.length := by omega
     have HR : Hid (R = true) := HG.out fun i x d hx hd => HZ.out i x d (by have := (List.getElem?_eq_some_iff.1 hd).1; omega) hx hd
     clear hz hbel e
     go_wp2_with fail
     go_ret
     exact ⟨ret_bool HR.out.symm, HB.out⟩
  ·have HR : valR ds (xs.map Bw.ct) = false := by simp [valR, hn, hnd]
   rw [HR]
   have hne : ((n : Int) != (ds.length : Int)) = true := by simp; omega
   rw [hn] at hl2
   clear HR hD hn hnd
   go_enter Tryz.func42, Tryz.ntmps42
   go_wp2_with fail
   refine Calls.mono HDC.out ?_
   rintro e w1 ⟨rfl, hb1⟩
   go_wp2_with fail
   go_ret
   exact ⟨rfl, hb1⟩

theorem bwc_set : ∀ (l : List Bw) (i : Nat) (x : Bw), bwc (l.set i x) = ((bwc l).set (i * 2) (.int .i64 x.wd)).set (i * 2 + 1) (.slice x.a x.ws.length x.c)
 | [], i, x => by simp [bwc]
 | y :: t, 0, x => by simp [bwc]
 | y :: t, i + 1, x => by
  rw [show (i + 1) * 2 = i * 2 + 1 + 1 by omega]
  simp [bwc, bwc_set t i x]
theorem OB2.store {w : World} {B g n c : Nat} {l : List Bw} (h : OB2 w B (.slice (some ⟨g, 0, none⟩) n c) l) (i : Nat) (x : Bw) :
  OB2 ((w.setCell ⟨g, i * 2, none⟩ (.int .i64 x.wd)).setCell ⟨g, i * 2 + 1, none⟩ (.slice x.a x.ws.length x.c)) B (.slice (some ⟨g, 0, none⟩) n c) (l.set i x) := by
 rcases h with ⟨h1, ⟨e, -⟩ | ⟨g', cap, cur, e, hg, hh, hc1, hc2, hsz, hcur⟩⟩
 ·cases e
 ·cases e
  refine ⟨by rw [bwc_len, List.length_set], .inr ⟨g, c, (cur.setIfInBounds (i * 2) (.int .i64 x.wd)).setIfInBounds (i * 2 + 1) (.slice x.a x.ws.length x.c), by rw [List.length_set], hg, ?_, by rw [List.length_set]; exact hc1, hc2, by simpa using hsz, ?_⟩⟩
  ·exact heap_setCell_same _ g _ _ _ _ (heap_setCell_same w g _ _ _ _ hh)
  ·rw [List.length_set, bwc_set, ← hcur]
   simp [List.take_set]
theorem OB2.blk {w : World} {B g n c : Nat} {l : List Bw} (h : OB2 w B (.slice (some ⟨g, 0, none⟩) n c) l) : ∃ cur, Bz w g cur 80 := h.typed rfl
set_option maxHeartbeats 1000000 in
theorem specValues_any (a b : Option Addr) (c c2 : Nat) (ds : List Dc) (xs : List Bw) (w : World) (hr : RdD w a ds) (hs : RdW w b xs) (n : Nat) (hn : xs.length = n) :
  Calls Tryz.prog 38 #[.slice a ds.length c, .slice b n c2] w fun e w' => e = .returned (.bool (valR ds (xs.map Bw.ct))) ∧ Below w.heap.size w w' := by
 have hl1 := hr.1
 have hl2 := hs.1
 have HDC := kide (specDecls_any a c ds w hr)
 cases hD : dclR ds with
 | false =>
  rw [hD] at HDC
  have HR : valR ds (xs.map Bw.ct) = false := by simp [valR, hD]
  rw [HR]
  clear HR hD
  go_enter Tryz.func38, Tryz.ntmps38
  go_wp2_with fail
  refine Calls.mono HDC.out ?_
  rintro e w1 ⟨rfl, hb1⟩
  go_wp2_with fail
  go_ret
  exact ⟨rfl, hb1⟩
 | true =>
  rw [hD] at HDC
  by_cases hnd : n = ds.length
  ·subst hnd
   have HG := kide (fun h => valR_good (xs := xs) hD hn h)
   have HBAD := kide (fun k x d hx hd h => valR_bad (ds := ds) (xs := xs) (k := k) (x := x) (d := d) hx hd h)
   generalize valR ds (xs.map Bw.ct) = R at *
   have HN := kide hn
   have hne : ((ds.length : Int) != (ds.length : Int)) = false := by simp
   clear hD hn hl2
   go_enter Tryz.func38, Tryz.ntmps38
   go_wp2_with fail
   refine Calls.mono HDC.out ?_
   rintro e w1 ⟨rfl, hb1⟩
   have B1 := kide hb1
   clear hb1 HDC
   go_wp2_with fail
   clear hne
   go_loopw [5] (fun i wr => ∃ k : Nat, k ≤ ds.length ∧ i = .int .i64 (k : Int) ∧ (∀ (i : Nat) x d, i < k → xs[i]? = some x → ds[i]? = some d → rightB x.wd x.ws = true ∧ x.wd = d.2) ∧ Below w.heap.size w wr) (fun i _ => ds.length - (intOf i).toNat)
   case atStart => exact ⟨0, Nat.zero_le _, rfl, fun i x d h => by omega, B1.out⟩
   case round =>
    obtain ⟨k, hk, rfl, hz, hbel⟩ := hrel
    have HZ := kide hz
    have HB := kide hbel
    by_cases hlt : k < ds.length
    ·obtain ⟨-, hsz, h | ⟨b1, o1, rfl, hc1⟩⟩ := hr
     ·subst h; simp at hlt
     obtain ⟨-, h | ⟨b2, o2, rfl, hc2⟩⟩ := hs
     ·have := HN.out; subst h; simp at this; omega
     obtain ⟨⟨t, y⟩, gd⟩ : ∃ d, ds[k]? = some d := ⟨ds[k], List.getElem?_eq_getElem hlt⟩
     obtain ⟨⟨s1, a1, c1, k1⟩, gx⟩ : ∃ x, xs[k]? = some x := ⟨xs[k]'(by rw [HN.out]; exact hlt), List.getElem?_eq_getElem _⟩
     obtain ⟨-, q1⟩ := (hc1 k _ gd).later hbel
     obtain ⟨p0, p1, p2, p3⟩ := (hc2 k _ gx).later hbel
     obtain ⟨hy, -⟩ := hsz _ (List.mem_of_getElem? gd)
     simp only [] at q1 p0 p1 p2 p3 hy
     have HBD := kide (fun h => HBAD.out k _ _ gx gd h)
     simp only [] at HBD
     have GX := kide gx
     have GD := kide gd
     have i0 : (k : Int) < (ds.length : Int) := by omega
     have HOK : Hid (∀ u, Below wr.heap.size wr u → Calls Tryz.prog 71 #[.agg #[.int .i64 s1, .slice a1 k1.length c1]] u fun e w' => e = .returned (.bool (rightB s1 k1)) ∧ Below u.heap.size u w') := fun u hu => specOk_any s1 a1 c1 k1 u (p2.later hu)
     have l1 : b1 < wr.heap.size := block_lt_of_cell q1
     have l2 : b2 < wr.heap.size := block_lt_of_cell p0
     clear hc1 hc2 hsz gx gd hbel hz p2 HBAD
     by_cases hsy : s1 = y
     ·have hne : (s1 != y) = false := by simp [hsy]
      have HSY := kide hsy
      generalize hrB : rightB s1 k1 = r at *
      have HRB := kide hrB
      clear hrB hsy
      cases r with
      | false =>
       have HF := kide (HBD.out (by simp))
       go_wp2_with fail
       go_region_held3 (fun u => u.cell? ⟨b2, o2 + k * 2, none⟩ = some (Value.int .i64 s1) ∧ u.cell? ⟨b2, o2 + k * 2 + 1, none⟩ = some (Value.slice a1 k1.length c1) ∧ u.cell? ⟨b1, o1 + k * 2 + 1, none⟩ = some (Value.int .i64 y)) (simp [*])
        ((go_at_call 71; refine Calls.mono (HOK.out _ ?_) ?_; exact (Below.refl _ _).drew; rintro e w3 ⟨rfl, hb3⟩; replace hb3 := kundrew hb3; have k0 := kcell hb3 b2 (o2 + k * 2) l2; have k1' := kcell hb3 b2 (o2 + k * 2 + 1) l2; have k2' := kcell hb3 b1 (o1 + k * 2 + 1) l1))
       go_wp2_with fail
       go_ret
       exact ⟨ret_bool HF.out.symm, HB.out.trans (hb3.mono HB.out.size)⟩
      | true =>
       go_wp2_with fail
       go_region_held3 (fun u => u.cell? ⟨b2, o2 + k * 2, none⟩ = some (Value.int .i64 s1) ∧ u.cell? ⟨b2, o2 + k * 2 + 1, none⟩ = some (Value.slice a1 k1.length c1) ∧ u.cell? ⟨b1, o1 + k * 2 + 1, none⟩ = some (Value.int .i64 y)) (simp [*])
        ((go_at_call 71; refine Calls.mono (HOK.out _ ?_) ?_; exact (Below.refl _ _).drew; rintro e w3 ⟨rfl, hb3⟩; replace hb3 := kundrew hb3; have k0 := kcell hb3 b2 (o2 + k * 2) l2; have k1' := kcell hb3 b2 (o2 + k * 2 + 1) l2; have k2' := kcell hb3 b1 (o1 + k * 2 + 1) l1))
       go_wp2_with fail
       go_roundw
       case rel =>
        refine ⟨k + 1, by omega, by go_num, fun i x d hi hx hd => ?_, HB.out.trans (hb3.mono HB.out.size)⟩
        by_cases hik : i = k
        ·subst hik
         rw [GX.out] at hx
         rw [GD.out] at hd
         cases hx
         cases hd
         exact ⟨HRB.out, HSY.out⟩
        ·exact HZ.out i x d (by omega) hx hd
       case measure => simp [intOf]; omega
     ·have hne : (s1 != y) = true := by simp [hsy]
      have HF := kide (HBD.out (fun h => hsy h.2))
      clear hsy
      go_wp2_with fail
      go_quiet (fail)
      go_wp2_with fail
      go_ret
      exact ⟨ret_bool HF.out.symm, below_drewN HB.out _⟩
    ·have e : k = ds.length := by omega
     have HR : Hid (R = true) := HG.out fun i x d hx hd => HZ.out i x d (by have := (List.getElem?_eq_some_iff.1 hd).1; omega) hx hd
     clear hz hbel e
     go_wp2_with fail
     go_ret
     exact ⟨ret_bool HR.out.symm, HB.out⟩
  ·have HR : valR ds (xs.map Bw.ct) = false := by simp [valR, hn, hnd]
   rw [HR]
   have hne : ((n : Int) != (ds.length : Int)) = true := by simp; omega
   rw [hn] at hl2
   clear HR hD hn hnd
   go_enter Tryz.func38, Tryz.ntmps38
   go_wp2_with fail
   refine Calls.mono HDC.out ?_
   rintro e w1 ⟨rfl, hb1⟩
   go_wp2_with fail
   go_ret
   exact ⟨rfl, hb1⟩

theorem Bs.empty (w : World) (B : Nat) (h : B ≤ w.heap.size) : Bs (w.alloc (.cells #[] 80)) B (.slice (some ⟨w.heap.size, 0, Option.none⟩) 0 0) [] := ⟨OB2.empty w B h, by simp, DjB.nil⟩


theorem oi_low {w : World} {B B' : Nat} {v : Value} {l : List Int} (h : OI w B v l) (hB : B' ≤ B) : OI w B' v l := by
 refine ⟨h.1, ?_⟩
 rcases h.2 with h0 | ⟨g, cap, cur, rfl, hg, r⟩
 ·exact .inl h0
 ·exact .inr ⟨g, cap, cur, rfl, Nat.le_trans hB hg, r⟩
theorem oi_gr {w w' : World} {lo B : Nat} {u v : Value} {xs : List Int} (h : OI w lo u xs) (hw : ∃ ys, OwW w B v ys) (hg : w.grownBy w' v.ownBlock) : OI w' lo u xs :=
 h.move fun k hk => hg.block k (h.lt hk).2 (fun e => by
  obtain ⟨ys, ho⟩ := hw
  rcases ho.2 with ⟨rfl, -⟩ | ⟨g, cap, cur', rfl, -, hh, -⟩
  ·cases e
  ·cases e
   rcases h.2 with ⟨rfl, -⟩ | ⟨g2, cap2, cur2, rfl, -, hh2, -⟩
   ·cases hk
   ·cases hk
    rw [hh2] at hh
    cases hh)
def RetCk (op vr aa bb bw : Int) (ws : List Nat) (ks : List Int) (nw nk : Nat) (w : World) (e : Ending) (w' : World) : Prop := ∃ a1 c1 a2 c2, e = .returned (.agg #[.int .i64 op, .int .i64 vr, .int .i64 aa, .int .i64 bb, .int .i64 bw, .slice a1 nw c1, .slice a2 nk c2]) ∧ Nw w' w.heap.size a1 ws ∧ OI w' w.heap.size (.slice a2 nk c2) ks ∧ ((a1 = none → c1 = 0) ∧ (a2 = none → c2 = 0)) ∧ Below w.heap.size w w'
set_option maxHeartbeats 4000000 in
set_option maxRecDepth 100000 in
theorem l3CopyNodeK_any (x : Tc) (wa ka : Option Addr) (wc kc : Nat) (w : World) (hx : Rd w wa x.ws) (hk : RdI w ka x.ks) (hw0 : wa = none → wc = 0) (hk0 : ka = none → kc = 0) :
  Calls Tryz.prog 144 #[.agg #[.int .i64 x.op, .int .i64 x.vr, .int .i64 x.a, .int .i64 x.b, .int .i64 x.bw, .slice wa x.ws.length wc, .slice ka x.ks.length kc]] w (RetCk x.op x.vr x.a x.b x.bw x.ws x.ks x.ws.length x.ks.length w) := by
 obtain ⟨op, vr, aa, bb, bw, ws, ks⟩ := x
 simp only [] at hx hk ⊢
 obtain ⟨nw, hnw⟩ : ∃ n, ws.length = n := ⟨_, rfl⟩
 obtain ⟨nk, hnk⟩ : ∃ n, ks.length = n := ⟨_, rfl⟩
 simp only [hnw, hnk]
 have HNW := kide hnw
 have HNK := kide hnk
 have hlw := hx.1
 have hlk := hk.1
 rw [hnw] at hlw
 rw [hnk] at hlk
 have hb2 : Below w.heap.size w ((w.alloc (Obj.cells #[.int .i64 op, .int .i64 vr, .int .i64 aa, .int .i64 bb, .int .i64 bw, .slice wa nw wc, .slice ka nk kc] 119)).alloc (Obj.cells #[.int .i64 0, .int .i64 0, .int .i64 0, .int .i64 0, .int .i64 0, .slice none 0 0, .slice none 0 0] 119)) := ((Below.refl _ _).alloc (Nat.le_refl _) _).alloc (by simp) _
 have XP0 := kide (Bz.later (Bz.new w #[.int .i64 op, .int .i64 vr, .int .i64 aa, .int .i64 bb, .int .i64 bw, .slice wa nw wc, .slice ka nk kc] 119) ((Below.refl _ _).alloc (Nat.le_refl _) (Obj.cells #[.int .i64 0, .int .i64 0, .int .i64 0, .int .i64 0, .int .i64 0, .slice none 0 0, .slice none 0 0] 119)))
 have XR0 : Hid (Bz ((w.alloc (Obj.cells #[.int .i64 op, .int .i64 vr, .int .i64 aa, .int .i64 bb, .int .i64 bw, .slice wa nw wc, .slice ka nk kc] 119)).alloc (Obj.cells #[.int .i64 0, .int .i64 0, .int .i64 0, .int .i64 0, .int .i64 0, .slice none 0 0, .slice none 0 0] 119)) (w.heap.size + 1) #[.int .i64 0, .int .i64 0, .int .i64 0, .int .i64 0, .int .i64 0, .slice none 0 0, .slice none 0 0] 119) := by
  have h9 := Bz.new (w.alloc (Obj.cells #[.int .i64 op, .int .i64 vr, .int .i64 aa, .int .i64 bb, .int .i64 bw, .slice wa nw wc, .slice ka nk kc] 119)) #[.int .i64 0, .int .i64 0, .int .i64 0, .int .i64 0, .int .i64 0, .slice none 0 0, .slice none 0 0] 119
  rw [show (w.alloc (Obj.cells #[.int .i64 op, .int .i64 vr, .int .i64 aa, .int .i64 bb, .int .i64 bw, .slice wa nw wc, .slice ka nk kc] 119)).heap.size = w.heap.size + 1 by simp] at h9
  exact h9
 have hsz : ((w.alloc (Obj.cells #[.int .i64 op, .int .i64 vr, .int .i64 aa, .int .i64 bb, .int .i64 bw, .slice wa nw wc, .slice ka nk kc] 119)).alloc (Obj.cells #[.int .i64 0, .int .i64 0, .int .i64 0, .int .i64 0, .int .i64 0, .slice none 0 0, .slice none 0 0] 119)).heap.size = w.heap.size + 1 + 1 := by simp
 obtain ⟨W0, hW0⟩ : ∃ W0, (w.alloc (Obj.cells #[.int .i64 op, .int .i64 vr, .int .i64 aa, .int .i64 bb, .int .i64 bw, .slice wa nw wc, .slice ka nk kc] 119)).alloc (Obj.cells #[.int .i64 0, .int .i64 0, .int .i64 0, .int .i64 0, .int .i64 0, .slice none 0 0, .slice none 0 0] 119) = W0 := ⟨_, rfl⟩
 rw [hW0] at hb2 XP0 XR0 hsz
 have HW0 := kide hW0
 have hb3 : Below W0.heap.size W0 (W0.alloc (Obj.cells #[] 2)) := (Below.refl _ _).alloc (Nat.le_refl _) _
 have OE := kide (OI.empty W0 (w.heap.size + 2) (by omega))
 have XP1 := kide (XP0.out.later hb3)
 have XR1 := kide (XR0.out.later hb3)
 have B1 := kide (hb2.trans (hb3.mono hb2.size))
 have HX := kide (fun u (hu : Below w.heap.size w u) => hx.later hu)
 have HK := kide (fun u (hu : Below w.heap.size w u) => hk.later hu)
 have HSZ := kide hsz
 have HW1 : Hid (w.heap.size + 2 ≤ (W0.alloc (Obj.cells #[] 2)).heap.size) := by show _ ≤ _; simp; omega
 clear hb2 hb3 XP0 XR0 hx hk hnw hnk
 go_enter Tryz.func144, Tryz.ntmps144
 have y6 := XP1.out.cell 6
 simp at y6
 clear hW0 hsz
 go_wp2_with (at_builtin; rw [HW0.out]; refine wpList_appIr _ rfl _ _ rfl (w.heap.size + 2) (.slice (some ⟨W0.heap.size, 0, none⟩) 0 0) [] ks (by first | rfl | (simp [Act.eval, ← HW0.out])) OE.out ka kc (by rw [HNK.out]; first | rfl | simp [Act.eval]) hk0 (HK.out _ B1.out) (by rw [HNK.out]; simp; omega) HW1.out ?_)
 intro v2 w2 ho2 hg2
 try rw [List.nil_append] at ho2
 have XP2 := kide (bz_gr XP1.out (show w.heap.size < w.heap.size + 2 by omega) (fun k hk => (OE.out.lt hk).1) hg2)
 have XR2 := kide (bz_gr XR1.out (show w.heap.size + 1 < w.heap.size + 2 by omega) (fun k hk => (OE.out.lt hk).1) hg2)
 have B2 := kide (Below.grown B1.out hg2 B1.out.size (fun j hj => by have := (OE.out.lt hj).1; omega))
 have HS2 : Hid (w.heap.size + 2 ≤ w2.heap.size) := Nat.le_trans HW1.out hg2.size
 obtain ⟨a5, c5, rfl, hni⟩ := ho2.ni
 have HC5 := kide (cap0 ho2)
 rw [HNK.out]
 have NI2 := kide ho2
 rw [HNK.out] at NI2
 have e6 := XP2.out.cell 6
 have f6 := XP2.out.froz 6
 simp at e6
 clear ho2 hg2 hni OE XP1 XR1 B1 HW1 y6 HSZ HW0
 have XP3 : Hid (Bz (w2.setCell ⟨w.heap.size, 6, none⟩ (Value.slice a5 nk c5)) w.heap.size #[.int .i64 op, .int .i64 vr, .int .i64 aa, .int .i64 bb, .int .i64 bw, .slice wa nw wc, .slice a5 nk c5] 119) := XP2.out.set 6 _
 have XR3 : Hid (Bz (w2.setCell ⟨w.heap.size, 6, none⟩ (Value.slice a5 nk c5)) (w.heap.size + 1) #[.int .i64 0, .int .i64 0, .int .i64 0, .int .i64 0, .int .i64 0, .slice none 0 0, .slice none 0 0] 119) := XR2.out.other (by omega) 6 _
 have NI3 := kide (OI.set_other NI2.out XP2.out (by decide) 6 (Value.slice a5 nk c5))
 have B3 : Hid (Below w.heap.size w (w2.setCell ⟨w.heap.size, 6, none⟩ (Value.slice a5 nk c5))) := B2.out.setCell (Nat.le_refl _) _
 have HS3 : Hid (w.heap.size + 2 ≤ (w2.setCell ⟨w.heap.size, 6, none⟩ (Value.slice a5 nk c5)).heap.size) := by show _ ≤ _; simpa using HS2.out
 clear XP2 XR2 NI2 B2 HS2
 go_wp2_with fail
 generalize w2.setCell ⟨w.heap.size, 6, none⟩ (Value.slice a5 nk c5) = W1 at *
 clear e6 f6
 obtain ⟨b0, hb0⟩ : ∃ b0, w.heap.size = b0 := ⟨_, rfl⟩
 rw [hb0] at XP3 XR3 NI3 HS3
 simp only [hb0]
 have HB0 := kide hb0
 clear hb0
 refine wp_region_x (SA := fun uu => uu.cell? ⟨b0, 4, none⟩ = some (Value.int .i64 bw) ∧ uu.cell? ⟨b0, 5, none⟩ = some (Value.slice wa nw wc)) (SB := fun _ => True) (k := 10) (by kernel_rfl) ?_
 have hbd : Below W1.heap.size W1 W1.drew := (Below.refl _ _).drew
 have XP_0 := kide (XP3.out.later hbd)
 have XR_0 := kide (XR3.out.later hbd)
 have NI_0 := kide (NI3.out.later hbd)
 have B_0 := kide (B3.out.trans (hbd.mono B3.out.size))
 have HS_0 : Hid (b0 + 2 ≤ W1.drew.heap.size) := Nat.le_trans HS3.out hbd.size
 clear hbd XP3 XR3 NI3 B3 HS3
 generalize W1.drew = u0 at *
 have c0_0 : u0.cell? ⟨b0, 4, none⟩ = some (Value.int .i64 bw) := XP_0.out.cell 4
 have c1_0 : u0.cell? ⟨b0, 5, none⟩ = some (Value.slice wa nw wc) := XP_0.out.cell 5
 have hs0 : Hid ((fun uu => uu.cell? ⟨b0, 4, none⟩ = some (Value.int .i64 bw) ∧ uu.cell? ⟨b0, 5, none⟩ = some (Value.slice wa nw wc)) u0) := ⟨c0_0, c1_0⟩
 try go_simp
 refine tkT (i := 0) (v := Value.pointer (some ⟨b0, 4, none⟩)) rfl (by kernel_rfl) (fun _ _ _ h => by first | exact h | exact h.elim) (Sx.before (by kernel_rfl) hs0.out) (Or.inl ⟨by rfl, fun uu hu => by go_simp⟩) ?_
 try go_simp
 refine tkT (i := 1) (v := Value.pointer (some ⟨b0, 4, none⟩)) rfl (by kernel_rfl) (fun _ _ _ h => by first | exact h | exact h.elim) (Sx.before (by kernel_rfl) hs0.out) (Or.inl ⟨by rfl, fun uu hu => by go_simp⟩) ?_
 try go_simp
 refine tkX (i := 2) (v := Value.int .i64 bw) rfl (by kernel_rfl) (fun _ _ _ h => by first | exact h | exact h.elim) hs0.out (Or.inl ⟨by rfl, fun uu hu => by obtain ⟨e0, e1⟩ := hu; go_simp⟩) ?_
 try go_simp
 refine tkT (i := 4) (v := Value.pointer (some ⟨b0, 4, none⟩)) rfl (by kernel_rfl) (fun _ _ _ h => by first | exact h | exact h.elim) (Sx.before (by kernel_rfl) hs0.out) (Or.inl ⟨by rfl, fun uu hu => by go_simp⟩) ?_
 try go_simp
 refine tkT (i := 5) (v := Value.pointer (some ⟨b0, 5, none⟩)) rfl (by kernel_rfl) (fun _ _ _ h => by first | exact h | exact h.elim) (Sx.before (by kernel_rfl) hs0.out) (Or.inl ⟨by rfl, fun uu hu => by go_simp⟩) ?_
 try go_simp
 refine tkX (i := 6) (v := Value.slice wa nw wc) rfl (by kernel_rfl) (fun _ _ _ h => by first | exact h | exact h.elim) hs0.out (Or.inl ⟨by rfl, fun uu hu => by obtain ⟨e0, e1⟩ := hu; go_simp⟩) ?_
 try go_simp
 refine wpAnyX_ready (rs := [3]) (by kernel_rfl) (by simp) (AllX.cons rfl (fun K hK => ?_) AllX.nil)
 go_simp
 have hbx : Below u0.heap.size u0 (u0.alloc (Obj.cells #[] 109)) := (Below.refl _ _).alloc (Nat.le_refl _) _
 have OE_1 : Hid (OwW (u0.alloc (Obj.cells #[] 109)) (b0 + 2) (.slice (some ⟨u0.heap.size, 0, none⟩) 0 0) []) := OwW.empty _ _ _ rfl HS_0.out
 have XP_1 := kide (XP_0.out.later hbx)
 have XR_1 := kide (XR_0.out.later hbx)
 have NI_1 := kide (NI_0.out.later hbx)
 have B_1 := kide (B_0.out.trans (hbx.mono B_0.out.size))
 have HS_1 : Hid (b0 + 2 ≤ (u0.alloc (Obj.cells #[] 109)).heap.size) := Nat.le_trans HS_0.out hbx.size
 obtain ⟨ge, hge⟩ : ∃ z, u0.heap.size = z := ⟨_, rfl⟩
 rw [hge] at OE_1
 simp only [hge]
 clear hge hbx
 generalize u0.alloc (Obj.cells #[] 109) = u1 at *
 have c0_1 : u1.cell? ⟨b0, 4, none⟩ = some (Value.int .i64 bw) := XP_1.out.cell 4
 have c1_1 : u1.cell? ⟨b0, 5, none⟩ = some (Value.slice wa nw wc) := XP_1.out.cell 5
 have hs1 : Hid ((fun uu => uu.cell? ⟨b0, 4, none⟩ = some (Value.int .i64 bw) ∧ uu.cell? ⟨b0, 5, none⟩ = some (Value.slice wa nw wc)) u1) := ⟨c0_1, c1_1⟩
 refine hK _ _ (Sx.before (by kernel_rfl) hs1.out) ?_
 clear hK K
 try go_simp
 refine wpAnyX_ready (rs := [7]) (by kernel_rfl) (by simp) (AllX.cons rfl (fun K hK => ?_) AllX.nil)
 refine step_appWr _ rfl _ _ rfl (b0 + 2) (.slice (some ⟨ge, 0, none⟩) 0 0) [] ws (by first | rfl | simp [Act.eval]) OE_1.out wa wc (by rw [HNW.out]; first | rfl | simp [Act.eval]) hw0 (HX.out _ B_1.out) (by rw [HNW.out]; simp; omega) HS_1.out ?_
 intro v7 u2 ho7 hg7
 try rw [List.nil_append] at ho7
 have XP_2 := kide (bz_gr XP_1.out (show b0 < b0 + 2 by omega) (fun k hk => own_ge OE_1.out hk) hg7)
 have XR_2 := kide (bz_gr XR_1.out (show b0 + 1 < b0 + 2 by omega) (fun k hk => own_ge OE_1.out hk) hg7)
 have NI_2 := kide (oi_gr NI_1.out ⟨_, OE_1.out⟩ hg7)
 have B_2 := kide (Below.grown B_1.out hg7 B_1.out.size (fun j hj => by have := own_ge OE_1.out hj; have := HB0.out; omega))
 have HS_2 : Hid (b0 + 2 ≤ u2.heap.size) := Nat.le_trans HS_1.out hg7.size
 obtain ⟨a7, c7, rfl, hn7⟩ := ho7.shape
 have HC7 := kide (cap0 ho7)
 rw [HNW.out]
 have NW_2 := kide hn7
 clear ho7 hg7 hn7
 have c0_2 : u2.cell? ⟨b0, 4, none⟩ = some (Value.int .i64 bw) := XP_2.out.cell 4
 have c1_2 : u2.cell? ⟨b0, 5, none⟩ = some (Value.slice wa nw wc) := XP_2.out.cell 5
 have hs2 : Hid ((fun uu => uu.cell? ⟨b0, 4, none⟩ = some (Value.int .i64 bw) ∧ uu.cell? ⟨b0, 5, none⟩ = some (Value.slice wa nw wc)) u2) := ⟨c0_2, c1_2⟩
 refine hK _ _ (Sx.before (by kernel_rfl) hs2.out) ?_
 clear hK K
 try go_simp
 refine tkT (i := 8) (v := Value.agg #[.int .i64 bw, .slice a7 nw c7]) rfl (by kernel_rfl) (fun _ _ _ h => by first | exact h | exact h.elim) (Sx.before (by kernel_rfl) hs2.out) (Or.inl ⟨by rfl, fun uu hu => by go_simp⟩) ?_
 try go_simp
 refine tkT (i := 9) (v := Value.pointer (some ⟨b0, 4, none⟩)) rfl (by kernel_rfl) (fun _ _ _ h => by first | exact h | exact h.elim) (Sx.before (by kernel_rfl) hs2.out) (Or.inl ⟨by rfl, fun uu hu => by go_simp⟩) ?_
 try go_simp
 refine wpAnyX_ready (rs := [10]) (by kernel_rfl) (by simp) (AllX.cons rfl (fun K hK => ?_) AllX.nil)
 have e4 := XP_2.out.cell 4
 have e5 := XP_2.out.cell 5
 have f4 := XP_2.out.froz 4
 have f5 := XP_2.out.froz 5
 simp at e4 e5
 go_simp
 have XP_3 : Hid (Bz ((u2.setCell ⟨b0, 4, none⟩ (Value.int .i64 bw)).setCell ⟨b0, 5, none⟩ (Value.slice a7 nw c7)) b0 #[.int .i64 op, .int .i64 vr, .int .i64 aa, .int .i64 bb, .int .i64 bw, .slice a7 nw c7, .slice a5 nk c5] 119) := (XP_2.out.set 4 _).set 5 _
 have XR_3 : Hid (Bz ((u2.setCell ⟨b0, 4, none⟩ (Value.int .i64 bw)).setCell ⟨b0, 5, none⟩ (Value.slice a7 nw c7)) (b0 + 1) #[.int .i64 0, .int .i64 0, .int .i64 0, .int .i64 0, .int .i64 0, .slice none 0 0, .slice none 0 0] 119) := (XR_2.out.other (by omega) 4 _).other (by omega) 5 _
 have NI_3 : Hid (OI ((u2.setCell ⟨b0, 4, none⟩ (Value.int .i64 bw)).setCell ⟨b0, 5, none⟩ (Value.slice a7 nw c7)) (b0 + 2) (.slice a5 nk c5) ks) := OI.set_other (OI.set_other NI_2.out XP_2.out (by decide) 4 _) (XP_2.out.set 4 (Value.int .i64 bw)) (by decide) 5 _
 have NW_3 : Hid (Nw ((u2.setCell ⟨b0, 4, none⟩ (Value.int .i64 bw)).setCell ⟨b0, 5, none⟩ (Value.slice a7 nw c7)) (b0 + 2) a7 ws) := nw_set (nw_set NW_2.out XP_2.out (by decide) 4 _) (XP_2.out.set 4 (Value.int .i64 bw)) (by decide) 5 _
 have B_3 : Hid (Below w.heap.size w ((u2.setCell ⟨b0, 4, none⟩ (Value.int .i64 bw)).setCell ⟨b0, 5, none⟩ (Value.slice a7 nw c7))) := (B_2.out.setCell (by rw [HB0.out]; exact Nat.le_refl _) _).setCell (by rw [HB0.out]; exact Nat.le_refl _) _
 clear e4 e5 f4 f5
 generalize ((u2.setCell ⟨b0, 4, none⟩ (Value.int .i64 bw)).setCell ⟨b0, 5, none⟩ (Value.slice a7 nw c7)) = u3 at *
 refine hK _ _ (Sx.behind (by kernel_rfl) trivial) ?_
 clear hK K
 try go_simp
 refine wpAnyX_done (by kernel_rfl) ?_ _
 have z0 := XP_3.out.cell 0
 have z1 := XP_3.out.cell 1
 have z2 := XP_3.out.cell 2
 have z3 := XP_3.out.cell 3
 have z4 := XP_3.out.cell 4
 have z5 := XP_3.out.cell 5
 have z6 := XP_3.out.cell 6
 have d0 := XR_3.out.cell 0
 have d1 := XR_3.out.cell 1
 have d2 := XR_3.out.cell 2
 have d3 := XR_3.out.cell 3
 have d4 := XR_3.out.cell 4
 have d5 := XR_3.out.cell 5
 have d6 := XR_3.out.cell 6
 have e0 := XR_3.out.froz 0
 have e1 := XR_3.out.froz 1
 have e2 := XR_3.out.froz 2
 have e3 := XR_3.out.froz 3
 have e4 := XR_3.out.froz 4
 have e5 := XR_3.out.froz 5
 have e6 := XR_3.out.froz 6
 simp at z0 d0 z1 d1 z2 d2 z3 d3 z4 d4 z5 d5 z6 d6
 go_wp2_with fail
 have XF : Hid (Bz (((((((u3.setCell ⟨b0 + 1, 0, none⟩ (Value.int .i64 op)).setCell ⟨b0 + 1, 1, none⟩ (Value.int .i64 vr)).setCell ⟨b0 + 1, 2, none⟩ (Value.int .i64 aa)).setCell ⟨b0 + 1, 3, none⟩ (Value.int .i64 bb)).setCell ⟨b0 + 1, 4, none⟩ (Value.int .i64 bw)).setCell ⟨b0 + 1, 5, none⟩ (Value.slice a7 nw c7)).setCell ⟨b0 + 1, 6, none⟩ (Value.slice a5 nk c5)) (b0 + 1) #[.int .i64 op, .int .i64 vr, .int .i64 aa, .int .i64 bb, .int .i64 bw, .slice a7 nw c7, .slice a5 nk c5] 119) := (((((((XR_3.out.set 0 (Value.int .i64 op)).set 1 (Value.int .i64 vr)).set 2 (Value.int .i64 aa)).set 3 (Value.int .i64 bb)).set 4 (Value.int .i64 bw)).set 5 (Value.slice a7 nw c7)).set 6 (Value.slice a5 nk c5))
 have NF := kide (nw_set (nw_set (nw_set (nw_set (nw_set (nw_set (nw_set NW_3.out XR_3.out (by decide) 0 (Value.int .i64 op)) (XR_3.out.set 0 (Value.int .i64 op)) (by decide) 1 (Value.int .i64 vr)) ((XR_3.out.set 0 (Value.int .i64 op)).set 1 (Value.int .i64 vr)) (by decide) 2 (Value.int .i64 aa)) (((XR_3.out.set 0 (Value.int .i64 op)).set 1 (Value.int .i64 vr)).set 2 (Value.int .i64 aa)) (by decide) 3 (Value.int .i64 bb)) ((((XR_3.out.set 0 (Value.int .i64 op)).set 1 (Value.int .i64 vr)).set 2 (Value.int .i64 aa)).set 3 (Value.int .i64 bb)) (by decide) 4 (Value.int .i64 bw)) (((((XR_3.out.set 0 (Value.int .i64 op)).set 1 (Value.int .i64 vr)).set 2 (Value.int .i64 aa)).set 3 (Value.int .i64 bb)).set 4 (Value.int .i64 bw)) (by decide) 5 (Value.slice a7 nw c7)) ((((((XR_3.out.set 0 (Value.int .i64 op)).set 1 (Value.int .i64 vr)).set 2 (Value.int .i64 aa)).set 3 (Value.int .i64 bb)).set 4 (Value.int .i64 bw)).set 5 (Value.slice a7 nw c7)) (by decide) 6 (Value.slice a5 nk c5))
 have IF := kide (OI.set_other (OI.set_other (OI.set_other (OI.set_other (OI.set_other (OI.set_other (OI.set_other NI_3.out XR_3.out (by decide) 0 (Value.int .i64 op)) (XR_3.out.set 0 (Value.int .i64 op)) (by decide) 1 (Value.int .i64 vr)) ((XR_3.out.set 0 (Value.int .i64 op)).set 1 (Value.int .i64 vr)) (by decide) 2 (Value.int .i64 aa)) (((XR_3.out.set 0 (Value.int .i64 op)).set 1 (Value.int .i64 vr)).set 2 (Value.int .i64 aa)) (by decide) 3 (Value.int .i64 bb)) ((((XR_3.out.set 0 (Value.int .i64 op)).set 1 (Value.int .i64 vr)).set 2 (Value.int .i64 aa)).set 3 (Value.int .i64 bb)) (by decide) 4 (Value.int .i64 bw)) (((((XR_3.out.set 0 (Value.int .i64 op)).set 1 (Value.int .i64 vr)).set 2 (Value.int .i64 aa)).set 3 (Value.int .i64 bb)).set 4 (Value.int .i64 bw)) (by decide) 5 (Value.slice a7 nw c7)) ((((((XR_3.out.set 0 (Value.int .i64 op)).set 1 (Value.int .i64 vr)).set 2 (Value.int .i64 aa)).set 3 (Value.int .i64 bb)).set 4 (Value.int .i64 bw)).set 5 (Value.slice a7 nw c7)) (by decide) 6 (Value.slice a5 nk c5))
 have BF : Hid (Below w.heap.size w (((((((u3.setCell ⟨b0 + 1, 0, none⟩ (Value.int .i64 op)).setCell ⟨b0 + 1, 1, none⟩ (Value.int .i64 vr)).setCell ⟨b0 + 1, 2, none⟩ (Value.int .i64 aa)).setCell ⟨b0 + 1, 3, none⟩ (Value.int .i64 bb)).setCell ⟨b0 + 1, 4, none⟩ (Value.int .i64 bw)).setCell ⟨b0 + 1, 5, none⟩ (Value.slice a7 nw c7)).setCell ⟨b0 + 1, 6, none⟩ (Value.slice a5 nk c5))) := (((((((B_3.out.setCell (by rw [HB0.out]; exact Nat.le_succ _) _).setCell (by rw [HB0.out]; exact Nat.le_succ _) _).setCell (by rw [HB0.out]; exact Nat.le_succ _) _).setCell (by rw [HB0.out]; exact Nat.le_succ _) _).setCell (by rw [HB0.out]; exact Nat.le_succ _) _).setCell (by rw [HB0.out]; exact Nat.le_succ _) _).setCell (by rw [HB0.out]; exact Nat.le_succ _) _)
 have q0 := XF.out.cell 0
 have q1 := XF.out.cell 1
 have q2 := XF.out.cell 2
 have q3 := XF.out.cell 3
 have q4 := XF.out.cell 4
 have q5 := XF.out.cell 5
 have q6 := XF.out.cell 6
 clear z0 d0 e0 z1 d1 e1 z2 d2 e2 z3 d3 e3 z4 d4 e4 z5 d5 e5 z6 d6 e6
 generalize (((((((u3.setCell ⟨b0 + 1, 0, none⟩ (Value.int .i64 op)).setCell ⟨b0 + 1, 1, none⟩ (Value.int .i64 vr)).setCell ⟨b0 + 1, 2, none⟩ (Value.int .i64 aa)).setCell ⟨b0 + 1, 3, none⟩ (Value.int .i64 bb)).setCell ⟨b0 + 1, 4, none⟩ (Value.int .i64 bw)).setCell ⟨b0 + 1, 5, none⟩ (Value.slice a7 nw c7)).setCell ⟨b0 + 1, 6, none⟩ (Value.slice a5 nk c5)) = uf at *
 exact bodyPost_ret (v := Value.agg #[.int .i64 op, .int .i64 vr, .int .i64 aa, .int .i64 bb, .int .i64 bw, .slice a7 nw c7, .slice a5 nk c5]) (by simp [results, Tryz.results144, go_sem, q0, q1, q2, q3, q4, q5, q6]) rfl ⟨a7, c7, a5, c5, rfl, Nw.mono NF.out (by have := HB0.out; omega), oi_low IF.out (by have := HB0.out; omega), ⟨HC7.out, HC5.out⟩, BF.out⟩


abbrev Wd := Int × List Nat
theorem op_nine {x : Int} (h1 : 1 ≤ x) (h9 : x ≤ 9) : x = 1 ∨ x = 2 ∨ x = 3 ∨ x = 4 ∨ x = 5 ∨ x = 6 ∨ x = 7 ∨ x = 8 ∨ x = 9 := by omega
def okWd (x : Wd) : Prop := rightB x.1 x.2 = true ∧ ∀ y ∈ x.2, y < 18446744073709551616
def two (r : Int × List Nat × Bool) : Wd := (r.1, r.2.1)
def joinW (x y : Wd) : Wd := two (joinR x.1 x.2 y.1 y.2)
def catS : List Wd → Wd
 | [] => (0, [])
 | k :: t => t.foldl joinW k
def sumV (l : List Wd) : Int := (l.map Prod.fst).sum
def kidsV (all : List Wd) (ks : List Int) : List Wd := ks.map fun k => all.getD k.toNat (0, [])
def opV (op a b : Int) (x : Wd) : Wd :=
 if op = 4 then two (partR x.1 x.2 a b)
 else if op = 5 then two (wdnR x.1 x.2 a false)
 else if op = 6 then two (wdnR x.1 x.2 a true)
 else if op = 7 then two (turnR x.1 x.2 a)
 else if op = 8 then two (turnR x.1 x.2 ((x.1 - a % x.1) % x.1))
 else two (repR x.1 x.2 a)
def nodV (vs all : List Wd) (n : Tc) : Wd :=
 if n.op = 1 then vs.getD n.vr.toNat (0, [])
 else if n.op = 2 then (n.bw, n.ws)
 else if n.op = 3 then catS (kidsV all n.ks)
 else opV n.op n.a n.b (all.getD (n.ks.getD 0 0).toNat (0, []))
def evR (vs : List Wd) (ns : List Tc) : List Wd := ns.foldl (fun all n => all ++ [nodV vs all n]) []
theorem pkW_ok {W : Int} (bs : List Nat) (hb : ∀ x ∈ bs, x ≤ 1) (h1 : 1 ≤ bs.length) (h2 : bs.length ≤ 4096) (hW : W = (bs.length : Int)) : okWd (W, pack bs) := by
 subst hW
 exact ⟨pack_right bs hb h1 h2, pack_lt bs⟩
theorem joinW_ok {x y : Wd} (hx : okWd x) (hy : okWd y) (h : x.1 + y.1 ≤ 4096) : (joinW x y).1 = x.1 + y.1 ∧ okWd (joinW x y) ∧ joinW x y = (x.1 + y.1, pack (joinL x.1 x.2 y.1 y.2)) := by
 have a := right_W hx.1
 have b := right_W hy.1
 have hl : (joinL x.1 x.2 y.1 y.2).length = (x.1 + y.1).toNat := by simp only [joinL, List.length_append, bitsTo_len]; omega
 have hb : ∀ z ∈ joinL x.1 x.2 y.1 y.2, z ≤ 1 := fun z hz => by
  rcases List.mem_append.1 hz with hz | hz
  ·exact bitsTo_le _ _ z hz
  ·exact bitsTo_le _ _ z hz
 have e : joinW x y = (x.1 + y.1, pack (joinL x.1 x.2 y.1 y.2)) := by
  unfold joinW two
  rw [joinR, if_pos ⟨hx.1, hy.1⟩, fromR, if_pos ⟨by omega, by omega⟩]
  simp only [Prod.mk.injEq, and_true]
  omega
 rw [e]
 exact ⟨rfl, pkW_ok _ hb (by omega) (by omega) (by omega), rfl⟩
theorem bitsTo_at (xs : List Nat) (k i : Nat) : (bitsTo xs k).getD i 0 = if i < k then (tb xs i).toNat else 0 := by
 unfold bitsTo
 by_cases h : i < k
 ·simp [List.getD, h]
 ·simp [List.getD, h]
theorem tb_join {x y : Wd} (hx : okWd x) (hy : okWd y) (h : x.1 + y.1 ≤ 4096) (j : Nat) : tb (joinW x y).2 j = (tb y.2 j || (decide (y.1.toNat ≤ j) && tb x.2 (j - y.1.toNat))) := by
 have a := right_W hx.1
 have b := right_W hy.1
 have hb : ∀ z ∈ joinL x.1 x.2 y.1 y.2, z ≤ 1 := fun z hz => by
  rcases List.mem_append.1 hz with hz | hz
  ·exact bitsTo_le _ _ z hz
  ·exact bitsTo_le _ _ z hz
 rw [(joinW_ok hx hy h).2.2, tb_pack _ hb]
 unfold joinL
 by_cases hj : j < y.1.toNat
 ·have e : (bitsTo y.2 y.1.toNat ++ bitsTo x.2 x.1.toNat).getD j 0 = (tb y.2 j).toNat := by
   rw [getD_left _ _ _ _ (by rw [bitsTo_len]; exact hj), bitsTo_at, if_pos hj]
  rw [e]
  have : ¬ y.1.toNat ≤ j := by omega
  cases tb y.2 j <;> simp [this]
 ·have e : (bitsTo y.2 y.1.toNat ++ bitsTo x.2 x.1.toNat).getD j 0 = (bitsTo x.2 x.1.toNat).getD (j - y.1.toNat) 0 := by
   rw [getD_right _ _ _ _ (by rw [bitsTo_len]; omega), bitsTo_len]
  have ho : tb y.2 j = false := tb_out hy.1 j (by omega)
  rw [e, ho, bitsTo_at]
  have : y.1.toNat ≤ j := by omega
  split
  ·cases tb x.2 (j - y.1.toNat) <;> simp [this]
  ·rw [tb_out hx.1 (j - y.1.toNat) (by omega)]; simp
theorem catS_take {l : List Wd} {i : Nat} {y : Wd} (h : l[i]? = some y) : catS (l.take (i + 1)) = if i = 0 then y else joinW (catS (l.take i)) y := by
 match l, i, h with
 | k :: t, 0, h => simp at h; subst h; rfl
 | k :: t, i + 1, h =>
  have h' : t[i]? = some y := by simpa using h
  rw [if_neg (by omega), List.take_succ_cons, List.take_succ_cons]
  show (t.take (i + 1)).foldl joinW k = joinW ((t.take i).foldl joinW k) y
  rw [List.take_add_one, h', List.foldl_append]
  rfl
theorem sumV_take {l : List Wd} {i : Nat} {y : Wd} (h : l[i]? = some y) : sumV (l.take (i + 1)) = sumV (l.take i) + y.1 := by
 unfold sumV
 rw [List.take_add_one, h]
 simp
theorem sumV_nonneg {l : List Wd} (h : ∀ x ∈ l, okWd x) : 0 ≤ sumV l := by
 induction l with
 | nil => simp [sumV]
 | cons x t ih =>
  have a := right_W (h x (by simp)).1
  have b := ih fun y hy => h y (by simp [hy])
  simp only [sumV, List.map_cons, List.sum_cons] at b ⊢
  omega
theorem sumV_split (l : List Wd) (i : Nat) : sumV l = sumV (l.take i) + sumV (l.drop i) := by
 unfold sumV
 rw [← List.sum_append, ← List.map_append, List.take_append_drop]
theorem sumV_take_le {l : List Wd} (h : ∀ x ∈ l, okWd x) (i : Nat) : 0 ≤ sumV (l.take i) ∧ sumV (l.take i) ≤ sumV l := by
 have a := sumV_split l i
 have b := sumV_nonneg (l := l.take i) fun x hx => h x (List.mem_of_mem_take hx)
 have c := sumV_nonneg (l := l.drop i) fun x hx => h x (List.mem_of_mem_drop hx)
 omega
theorem cat_ok {l : List Wd} (h : ∀ x ∈ l, okWd x) (hs : sumV l ≤ 4096) : ∀ i, i < l.length → (catS (l.take (i + 1))).1 = sumV (l.take (i + 1)) ∧ okWd (catS (l.take (i + 1)))
 | 0, hi => by
  have hg : l[0]? = some l[0] := List.getElem?_eq_getElem hi
  rw [catS_take hg, sumV_take hg, if_pos rfl]
  exact ⟨by simp [sumV], h _ (List.getElem_mem hi)⟩
 | i + 1, hi => by
  have hg : l[i + 1]? = some l[i + 1] := List.getElem?_eq_getElem hi
  obtain ⟨h1, h2⟩ := cat_ok h hs i (by omega)
  have hy := h _ (List.getElem_mem hi)
  have hle := (sumV_take_le h (i + 1 + 1)).2
  rw [sumV_take hg] at hle
  rw [catS_take hg, sumV_take hg, if_neg (by omega)]
  obtain ⟨e1, e2, -⟩ := joinW_ok h2 hy (by omega)
  exact ⟨by rw [e1, h1], e2⟩
theorem cat_all {l : List Wd} (h : ∀ x ∈ l, okWd x) (hs : sumV l ≤ 4096) (hl : 1 ≤ l.length) : (catS l).1 = sumV l ∧ okWd (catS l) := by
 have := cat_ok h hs (l.length - 1) (by omega)
 rw [show l.length - 1 + 1 = l.length by omega, List.take_length] at this
 exact this
def catSo (l : List Wd) (i P : Nat) (zs : List Nat) : Prop := ∀ j, tb zs j = (decide (P ≤ j) && tb (catS (l.take i)).2 (j - P))
theorem catSo.step {l : List Wd} {i P V : Nat} {y : Wd} {zs : List Nat} (hz : catSo l i (P + V) zs) (h : ∀ x ∈ l, okWd x) (hs : sumV l ≤ 4096) (hg : l[i]? = some y) (hV : y.1 = (V : Int)) (hroom : P + V ≤ 64 * zs.length) :
  catSo l (i + 1) P (putTo zs y.2 (P / 64) (P % 64) y.2.length) := by
 intro j
 have hy := h y (List.mem_of_getElem? hg)
 have hyr : rightB (V : Int) y.2 = true := by rw [← hV]; exact hy.1
 rw [tb_put_right hyr hy.2 zs P hroom, hz j, catS_take hg]
 by_cases hi : i = 0
 ·subst hi
  rw [if_pos rfl]
  have e : tb (catS (l.take 0)).2 (j - (P + V)) = false := by
   simp [catS, tb]
  rw [e]
  simp
 ·rw [if_neg hi]
  obtain ⟨h1, h2⟩ := cat_ok h hs (i - 1) (by have := (List.getElem?_eq_some_iff.1 hg).1; omega)
  rw [show i - 1 + 1 = i by omega] at h1 h2
  have hle := (sumV_take_le h (i + 1)).2
  rw [sumV_take hg] at hle
  rw [tb_join h2 hy (by omega)]
  have hvn : y.1.toNat = V := by omega
  rw [hvn, show j - P - V = j - (P + V) by omega]
  by_cases c1 : P ≤ j
  ·by_cases c2 : P + V ≤ j
   ·have : V ≤ j - P := by omega
    simp [c1, c2, this, Bool.or_comm]
   ·have : ¬ V ≤ j - P := by omega
    simp [c1, c2, this]
  ·have : ¬ P + V ≤ j := by omega
   simp [c1, this]
theorem catSo.done {l : List Wd} {W : Nat} {zs : List Nat} (hz : catSo l l.length 0 zs) (h : ∀ x ∈ l, okWd x) (hs : sumV l ≤ 4096) (hl : 1 ≤ l.length) (hW : sumV l = (W : Int)) (hzl : zs.length = (W + 63) / 64) (hzb : ∀ x ∈ zs, x < 18446744073709551616) : catS l = ((W : Int), zs) := by
 obtain ⟨h1, h2⟩ := cat_all h hs hl
 have hr := right_W h2.1
 have e : zs = (catS l).2 := by
  refine tb_ext (by omega) hzb h2.2 (fun j _ => ?_)
  rw [hz j, List.take_length]
  simp
 rw [e, ← hW, ← h1]
theorem catSo.start (l : List Wd) (P N : Nat) : catSo l 0 P (List.replicate N 0) := by
 intro j
 rw [tb_zero]
 simp [catS, tb]

def tabR : Nat → Int × Int × Int
 | 3 => (0, 2, 4096)
 | 4 => (2, 1, 1)
 | 5 => (1, 1, 1)
 | 6 => (1, 1, 1)
 | 7 => (1, 1, 1)
 | 8 => (1, 1, 1)
 | 9 => (1, 1, 1)
 | _ => (0, 0, 0)
def GF (w : World) : Prop := ∀ m, m < 10 → (∃ s, w.cell? ⟨0, m * 4, none⟩ = some (.string s)) ∧ w.cell? ⟨0, m * 4 + 1, none⟩ = some (.int .i64 (tabR m).1) ∧ w.cell? ⟨0, m * 4 + 2, none⟩ = some (.int .i64 (tabR m).2.1) ∧ w.cell? ⟨0, m * 4 + 3, none⟩ = some (.int .i64 (tabR m).2.2)
theorem GF.later {w w' : World} (h : GF w) (hb : Below w.heap.size w w') : GF w' := by
 intro m hm
 obtain ⟨⟨s, h0⟩, h1, h2, h3⟩ := h m hm
 have l := block_lt_of_cell h1
 exact ⟨⟨s, by rw [kcell hb _ _ l]; exact h0⟩, by rw [kcell hb _ _ l]; exact h1, by rw [kcell hb _ _ l]; exact h2, by rw [kcell hb _ _ l]; exact h3⟩
def fldT (op vr a b bw : Int) (wl kl : Nat) (N L M : Int) : Bool :=
 !(op != 1 && vr != 0 || decide (N < 1) && a != 0 || decide (N < 2) && b != 0) && !(op != 2 && (bw != 0 || decide (wl ≠ 0))) && (decide (L ≤ (kl : Int)) && decide ((kl : Int) ≤ M))
def fldR (n : Tc) : Bool := decide (1 ≤ n.op ∧ n.op ≤ 9) && fldT n.op n.vr n.a n.b n.bw n.ws.length n.ks.length (tabR n.op.toNat).1 (tabR n.op.toNat).2.1 (tabR n.op.toNat).2.2
set_option maxHeartbeats 2000000 in
theorem fieldsOk_any (n : Tc) (wa ka : Option Addr) (wc kc : Nat) (w : World) (hG : GF w) (hw : n.ws.length ≤ 1048576) (hk : n.ks.length ≤ 1048576) :
  Calls Tryz.prog 129 #[.agg #[.int .i64 n.op, .int .i64 n.vr, .int .i64 n.a, .int .i64 n.b, .int .i64 n.bw, .slice wa n.ws.length wc, .slice ka n.ks.length kc]] w fun e w' => e = .returned (.bool (fldR n)) ∧ Below w.heap.size w w' := by
 generalize hZ : fldR n = Z
 have HZ := kide hZ
 clear hZ
 obtain ⟨op, vr, A, B, bw, ws, ks⟩ := n
 simp only [] at hw hk ⊢
 have hb0 : Below w.heap.size w (w.alloc (Obj.cells #[.int .i64 op, .int .i64 vr, .int .i64 A, .int .i64 B, .int .i64 bw, .slice wa ws.length wc, .slice ka ks.length kc] 119)) := (Below.refl _ _).alloc (Nat.le_refl _) _
 have B0 := kide hb0
 by_cases hr : 1 ≤ op ∧ op ≤ 9
 ·obtain ⟨m, rfl⟩ : ∃ m : Nat, op = (m : Int) := ⟨op.toNat, by omega⟩
  obtain ⟨⟨s, t0⟩, t1, t2, t3⟩ := hG m (by omega)
  have l0 : 0 < w.heap.size := block_lt_of_cell t1
  have hz : fldT (m : Int) vr A B bw ws.length ks.length (tabR m).1 (tabR m).2.1 (tabR m).2.2 = Z := by
   have h := HZ.out
   rw [fldR, decide_eq_true hr, Bool.true_and] at h
   simpa using h
  obtain ⟨NN, hNN⟩ : ∃ x, x = (tabR m).1 := ⟨_, rfl⟩
  obtain ⟨LL, hLL⟩ : ∃ x, x = (tabR m).2.1 := ⟨_, rfl⟩
  obtain ⟨MM, hMM⟩ : ∃ x, x = (tabR m).2.2 := ⟨_, rfl⟩
  rw [← hNN] at t1 hz
  rw [← hLL] at t2 hz
  rw [← hMM] at t3 hz
  have HZ2 := kide hz
  have hm1 : 1 ≤ m := by omega
  have hm9 : m ≤ 9 := by omega
  clear HZ hz hG hb0 hNN hLL hMM hr
  go_enter Tryz.func129, Tryz.ntmps129
  go_wp2_with fail
  all_goals go_ret
  all_goals refine ⟨ret_bool ?_, Below.alloc (Below.alloc (Below.refl _ _) (Nat.le_refl _) _) (by simp) _⟩
  all_goals (have h := HZ2.out; clear HZ2 B0 t0 t1 t2 t3; rw [← h]; clear h; unfold fldT; cases hB : (B != 0) <;> cases hA : (A != 0) <;> cases hV : (vr != 0) <;> cases hM : ((m : Int) != 1) <;> cases hM2 : ((m : Int) != 2) <;> cases hW : (bw != 0) <;> simp_all <;> omega)
 ·have hz := HZ.out
  rw [fldR, decide_eq_false hr, Bool.false_and] at hz
  subst hz
  have hor : op < 1 ∨ 9 < op := by omega
  clear HZ hG hb0 hr
  rcases hor with hor | hor
  ·go_enter Tryz.func129, Tryz.ntmps129
   go_wp2_with fail
   go_ret
   exact ⟨rfl, B0.out⟩
  ·have h1 : ¬ op < 1 := by omega
   go_enter Tryz.func129, Tryz.ntmps129
   go_wp2_with fail
   go_ret
   exact ⟨rfl, B0.out⟩

def bndR (x : Int) : Int × Int := if x < 1 then (0, 15) else if 4096 < x then (0, 16) else (x, 0)
theorem boundWidth_any (x : Int) (w : World) : Calls Tryz.prog 170 #[.int .i64 x] w fun e w' => e = .returned (.tuple #[.int .i64 (bndR x).1, .int .i64 (bndR x).2]) ∧ w' = w := by
 by_cases h1 : x < 1
 ·rw [bndR, if_pos h1]
  go_enter Tryz.func170, Tryz.ntmps170
  go_wp2_with fail
  go_returns
  exact ⟨rfl, rfl⟩
 ·by_cases h2 : 4096 < x
  ·rw [bndR, if_neg h1, if_pos h2]
   go_enter Tryz.func170, Tryz.ntmps170
   go_wp2_with fail
   go_returns
   exact ⟨rfl, rfl⟩
  ·rw [bndR, if_neg h1, if_neg h2]
   go_enter Tryz.func170, Tryz.ntmps170
   go_wp2_with fail
   go_returns
   exact ⟨rfl, rfl⟩
def kwR (wide : List Int) (ks : List Int) : List Int := ks.map fun k => wide.getD k.toNat 0
def sumK : List Int → Int
 | [] => 0
 | x :: t => x + sumK t
def nodR (ds : List Dc) (n : Tc) (ys : List Int) : Int × Int :=
 if n.op = 1 then (if 0 ≤ n.vr ∧ n.vr < ds.length then bndR (ds.getD n.vr.toNat (.empty, 0)).2 else (0, 15))
 else if n.op = 2 then (if rightB n.bw n.ws = true then (n.bw, 0) else (0, 15))
 else if n.op = 3 then bndR (sumK ys)
 else if n.op = 4 then (if n.b < 0 ∨ n.a < n.b ∨ ys.getD 0 0 ≤ n.a then (0, 15) else (n.a - n.b + 1, 0))
 else if n.op = 5 ∨ n.op = 6 then (if 0 ≤ n.a ∧ n.a ≤ 4096 then bndR (ys.getD 0 0 + n.a) else (0, 15))
 else if n.op = 7 ∨ n.op = 8 then (if 0 ≤ n.a ∧ n.a ≤ 4096 then (ys.getD 0 0, 0) else (0, 15))
 else (if 1 ≤ n.a ∧ n.a ≤ 4096 then bndR (ys.getD 0 0 * n.a) else (0, 15))
theorem bndR_spec (x : Int) : (1 ≤ x ∧ x ≤ 4096 → bndR x = (x, 0)) ∧ (¬ (1 ≤ x ∧ x ≤ 4096) → (bndR x).2 ≠ 0) := by
 unfold bndR
 constructor
 ·intro h; rw [if_neg (by omega), if_neg (by omega)]
 ·intro h
  split
  ·simp
  ·split
   ·simp
   ·omega
theorem kids_get {wide ks : List Int} (hw : ∀ x ∈ wide, 1 ≤ x ∧ x ≤ 4096) (hk : kidsR wide.length ks = true) : ∀ k ∈ ks, 1 ≤ wide.getD k.toNat 0 ∧ wide.getD k.toNat 0 ≤ 4096 := by
 intro k hkm
 simp only [kidsR, List.all_eq_true, decide_eq_true_eq] at hk
 have := hk k hkm
 have hl : k.toNat < wide.length := by omega
 have := hw _ (List.getElem_mem hl)
 simp [List.getD, hl]
 omega
theorem sumR_min {wide ks : List Int} (hw : ∀ k ∈ ks, 1 ≤ wide.getD k.toNat 0 ∧ wide.getD k.toNat 0 ≤ 4096) (s : Int) (h0 : 0 ≤ s) (h1 : s ≤ 8192) : sumR wide ks s = min 8192 (s + sumK (kwR wide ks)) ∧ (ks.length : Int) ≤ sumK (kwR wide ks) := by
 induction ks generalizing s with
 | nil => simp [sumR, sumK, kwR]; omega
 | cons k t ih =>
  have hk := hw k (by simp)
  obtain ⟨e1, e2⟩ := ih (fun x hx => hw x (by simp [hx])) (min 8192 (s + wide.getD k.toNat 0)) (by omega) (by omega)
  rw [sumR, e1]
  have e3 : sumK (kwR wide (k :: t)) = wide.getD k.toNat 0 + sumK (kwR wide t) := by simp [kwR, sumK]
  rw [e3]
  refine ⟨by omega, ?_⟩
  simp only [List.length_cons]
  omega

open Go.ChangeShapes Go.WideShapes Go.ChangeAt Go.RowKit
theorem gForms : Tryz.prog.globalNamed "loop.example/g00081/impl.forms" = some 0 := by kernel_rfl
theorem tForms : (Tryz.prog.globals[0]?).map (·.type) = some 177 := by kernel_rfl
theorem forms_at (m : Nat) (hm : m < 10) : ∃ s : List UInt8, (match (Rows.laid_loop_example_g00081_impl_forms : DataW Unit) with | .agg l => l | _ => [])[m]? = some (.agg [.lit (.string s), .lit (.int .i64 (tabR m).1), .lit (.int .i64 (tabR m).2.1), .lit (.int .i64 (tabR m).2.2)]) := by
 match m, hm with
 | 0, _ => exact ⟨_, rfl⟩
 | 1, _ => exact ⟨_, rfl⟩
 | 2, _ => exact ⟨_, rfl⟩
 | 3, _ => exact ⟨_, rfl⟩
 | 4, _ => exact ⟨_, rfl⟩
 | 5, _ => exact ⟨_, rfl⟩
 | 6, _ => exact ⟨_, rfl⟩
 | 7, _ => exact ⟨_, rfl⟩
 | 8, _ => exact ⟨_, rfl⟩
 | 9, _ => exact ⟨_, rfl⟩
set_option maxRecDepth 100000 in
theorem gf_of_laid {W : World} (h : laidMetH Tryz.prog [("loop.example/g00081/impl.forms", Rows.laid_loop_example_g00081_impl_forms)] W) : GF W := by
 rw [MakeChecks.laidMetH_plain _ _ _ (by kernel_rfl)] at h
 obtain ⟨ps, ⟨g0, t0, cs0, f0, p0, q0, hg0, ht0, hv0, hd0, _, _⟩, _, _⟩ := h
 obtain rfl := Option.some.inj (gForms.symm.trans hg0)
 obtain rfl := Option.some.inj (tForms.symm.trans ht0)
 obtain ⟨xs, m1, rfl, hx1, hlen, hn, hel⟩ := DataW.trod_array Tryz.underlying177 hd0
 have cF : Tryz.prog.cellsOf 176 = 4 := by kernel_rfl
 have cS : Tryz.prog.cellsOf 9 = 1 := by kernel_rfl
 have cI : Tryz.prog.cellsOf 3 = 1 := by kernel_rfl
 have cA : Tryz.prog.cellsOf 177 = 40 := by kernel_rfl
 rw [cA] at hlen
 have hcell := fun i => World.var?_cell hg0 hv0 i
 intro m hm
 have h0 := hel m hm
 rw [cF] at h0
 obtain ⟨s, hs⟩ := forms_at m hm
 have hxm : (xs.map (·.1))[m]? = some (.agg [.lit (.string s), .lit (.int .i64 (tabR m).1), .lit (.int .i64 (tabR m).2.1), .lit (.int .i64 (tabR m).2.2)]) := by
  simp only [Prod.mk.injEq] at hx1
  have := hx1.1
  rw [this] at hs
  simpa using hs
 rw [List.getElem?_map] at hxm
 cases hx : xs[m]? with
 | none => rw [hx] at hxm; cases hxm
 | some y =>
  rw [hx] at hxm h0
  have hy : y.1 = .agg [.lit (.string s), .lit (.int .i64 (tabR m).1), .lit (.int .i64 (tabR m).2.1), .lit (.int .i64 (tabR m).2.2)] := by simpa using hxm
  obtain ⟨ys, k, hk, hxy, hl4, hyl, hfd⟩ := DataW.trod_struct Tryz.underlying176 h0
  rw [cF] at hl4
  have g0 := hfd 0 _ rfl
  have g1 := hfd 1 _ rfl
  have g2 := hfd 2 _ rfl
  have g3 := hfd 3 _ rfl
  match ys, hyl with
  | [y0, y1, y2, y3], _ =>
   rw [hxy] at hy
   simp only [DataW.agg.injEq, List.map_cons, List.map_nil, List.cons.injEq] at hy
   obtain ⟨a0, a1, a2, a3, -⟩ := hy
   obtain ⟨s', e0, f0, _⟩ := DataW.trod_string Tryz.underlying9 g0
   obtain ⟨n1, e1, f1, _⟩ := DataW.trod_int Tryz.underlying3 g1
   obtain ⟨n2, e2, f2, _⟩ := DataW.trod_int Tryz.underlying3 g2
   obtain ⟨n3, e3, f3, _⟩ := DataW.trod_int Tryz.underlying3 g3
   rw [f0] at a0
   rw [f1] at a1
   rw [f2] at a2
   rw [f3] at a3
   simp at a1 a2 a3
   have gl : ∀ i, i < 4 → cs0[m * 4 + i]? = ((cs0.toList.drop (m * 4)).take 4)[i]? := fun i hi => by
    rw [List.getElem?_take_of_lt hi, List.getElem?_drop]
    simp
   generalize (cs0.toList.drop (m * 4)).take 4 = L at *
   match L, hl4 with
   | [l0, l1, l2, l3], _ =>
    simp [cS, cI] at e0 e1 e2 e3
    have q0 := (hcell (m * 4 + 0)).trans (gl 0 (by omega))
    have q1 := (hcell (m * 4 + 1)).trans (gl 1 (by omega))
    have q2 := (hcell (m * 4 + 2)).trans (gl 2 (by omega))
    have q3 := (hcell (m * 4 + 3)).trans (gl 3 (by omega))
    simp at q0 q1 q2 q3
    refine ⟨⟨s', ?_⟩, ?_, ?_, ?_⟩
    ·rw [q0, e0]
    ·rw [q1, e1, a1]
    ·rw [q2, e2, a2]
    ·rw [q3, e3, a3]

end Go.Proofs.YtkngpgonmedgpaaGreatDoor
