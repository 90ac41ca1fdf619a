/- Several texts in one. -/
import Derived.Test.YtnpjgoklpaigjaaGreatDoorGAH
import Derived.Handy
import Derived.Test.YtnpjgoklpaigjaaGreatDoorGAB
import Derived.Deep.RegionWith
import Derived.Deep.RegionLaw
import Derived.Deep.AppendLies
import Derived.Test.YtnpjgoklpaigjaaGreatDoorGAG
import Derived.Test.YtnpjgoklpaigjaaGreatDoorRX
namespace Go.Proofs.YtnpjgoklpaigjaaGreatDoor
open Go.RowKit
set_option linter.unusedVariables false
set_option linter.unusedSimpArgs false
open Go.RowKit Go.WideMaps Go.Maps
set_option maxHeartbeats 1000000 in
theorem totalWidth_any (a : Option Addr) (c : Nat) (ds : List Dc) (w : World) (hr : RdD w a ds) (h60 : ds.length ≤ 60) (hok : ∀ d ∈ ds, dcOk d = true) :
  Calls Tryz.prog 81 #[.slice a ds.length c] w fun e w' => e = .returned (.int .i64 (sumW ds)) ∧ Below w.heap.size w w' := by
 have HLN := kide hr.1
 have HALL := kide hok
 go_enter Tryz.func81, Tryz.ntmps81
 clear hok
 go_wp2_with fail
 go_loopw [3, 8] (fun q i wr => ∃ k : Nat, k ≤ ds.length ∧ i = .int .i64 (k : Int) ∧ q = .int .i64 (sumW (ds.take k)) ∧ Below w.heap.size w wr) (fun _ i _ => ds.length - (intOf i).toNat)
 case atStart => exact ⟨0, Nat.zero_le _, rfl, by simp [sumW], Below.refl _ _⟩
 case round =>
  obtain ⟨k, hk, rfl, rfl, hbel⟩ := hrel
  have HB := kide hbel
  by_cases hlt : k < ds.length
  ·obtain ⟨-, hsz, h | ⟨b, o, rfl, hc⟩⟩ := hr
   ·subst h; simp at hlt
   obtain ⟨⟨t, x⟩, hh⟩ : ∃ x, ds[k] = x := ⟨_, rfl⟩
   have gx : ds[k]? = some (t, x) := by rw [List.getElem?_eq_getElem hlt, hh]
   obtain ⟨p0, p1⟩ := (hc k _ gx).later hbel
   simp only [] at p0 p1
   obtain ⟨hx64, hts⟩ := hsz _ (List.mem_of_getElem? gx)
   simp only [] at hx64 hts
   have i0 : (k : Int) < (ds.length : Int) := by omega
   have hsum := sumW_le (fun d hd => HALL.out d (List.mem_of_mem_take hd) : ∀ d ∈ ds.take k, dcOk d = true)
   have hst := sumW_take gx
   simp only [] at hst
   have htl : (ds.take k).length = k := by simp; omega
   rw [htl] at hsum
   have HST := kide hst
   have hx := (dcOk_iff.1 (HALL.out _ (List.mem_of_getElem? gx))).2
   simp [wOk] at hx
   obtain ⟨hx1, hx2⟩ := hx
   obtain ⟨hs1, hs2⟩ := hsum
   have HA := kide ((HB.out.alloc HB.out.size (Obj.cells #[.string t, .int .i64 x] 49)))
   clear hc gx hh hsz hst htl hbel
   generalize sumW (ds.take k) = Q at *
   go_wp2_with fail
   go_roundw
   case rel =>
    refine ⟨k + 1, by omega, by go_num, ?_, HA.out⟩
    rw [HST.out]
   case measure => simp [intOf]; omega
  ·have e : k = ds.length := by omega
   have HE : Hid (sumW (ds.take k) = sumW ds) := by
    show _ = _
    rw [e, List.take_length]
   generalize sumW (ds.take k) = Q at *
   clear hbel e
   go_wp2_with fail
   go_ret
   exact ⟨by rw [HE.out]; rfl, HB.out⟩
set_option maxHeartbeats 1000000 in
theorem implDecls_any (a : Option Addr) (c : Nat) (ds : List Dc) (w : World) (hr : RdD w a ds) :
  Calls Tryz.prog 59 #[.slice a ds.length c] w fun e w' => e = .returned (.bool (dclR ds)) ∧ Below w.heap.size w w' := by
 have hlen := hr.1
 by_cases h60 : ds.length ≤ 60
 ·go_enter Tryz.func59, Tryz.ntmps59
  go_wp2_with fail
  have HLN := kide hlen
  clear hlen
  go_loopw [10] (fun i wr => ∃ k : Nat, k ≤ ds.length ∧ i = .int .i64 (k : Int) ∧ (∀ d ∈ ds.take k, dcOk d = true) ∧ Below w.heap.size w wr) (fun i _ => ds.length - (intOf i).toNat)
  case atStart => exact ⟨0, Nat.zero_le _, rfl, by simp, Below.refl _ _⟩
  case round =>
   obtain ⟨k, hk, rfl, hok, hbel⟩ := hrel
   have HB := kide hbel
   by_cases hlt : k < ds.length
   ·obtain ⟨-, hsz, h | ⟨b, o, rfl, hc⟩⟩ := hr
    ·subst h; simp at hlt
    obtain ⟨⟨t, x⟩, hh⟩ : ∃ x, ds[k] = x := ⟨_, rfl⟩
    have gx : ds[k]? = some (t, x) := by rw [List.getElem?_eq_getElem hlt, hh]
    obtain ⟨p0, p1⟩ := (hc k _ gx).later hbel
    simp only [] at p0 p1
    obtain ⟨hx64, hts⟩ := hsz _ (List.mem_of_getElem? gx)
    simp only [] at hx64 hts
    have i0 : (k : Int) < (ds.length : Int) := by omega
    have GX := kide gx
    have hsum := sumW_le hok
    have hst := sumW_take gx
    simp only [] at hst
    have htl : (ds.take k).length = k := by simp; omega
    rw [htl] at hsum
    have HST := kide hst
    have HOK := kide hok
    have hN : ∀ u, Calls Tryz.prog 79 #[.string t] u fun e w' => e = .returned (.bool (nmOk t)) ∧ w' = u := fun u => nameOk_any t hts u
    have hW : ∀ u, Calls Tryz.prog 80 #[.int .i64 x] u fun e w' => e = .returned (.bool (wOk x)) ∧ w' = u := fun u => widthOk_any x u
    have HN := kide hN
    have HW := kide hW
    have HBAD : Hid (nmOk t = false ∨ wOk x = false → dclR ds = false) := fun h => dclR_bad gx (by rcases h with h | h <;> simp [dcOk, h])
    have HGOOD : Hid (nmOk t = true → wOk x = true → dcOk (t, x) = true) := fun h h' => by simp [dcOk, h, h']
    have hwx : wOk x = true → 1 ≤ x ∧ x ≤ 4096 := fun h => by simpa [wOk] using h
    have HA := kide ((HB.out.alloc HB.out.size (Obj.cells #[.string t, .int .i64 x] 49)))
    clear hN hW hc gx hh hsz hok hst htl hbel
    generalize sumW (ds.take k) = Q at *
    generalize nmOk t = r1 at *
    cases r1 with
    | false =>
     have HR := kide (HBAD.out (.inl (by simp)))
     go_wp2_with (go_at_call 79; refine Calls.mono (HN.out _) ?_; rintro e w1 ⟨rfl, rfl⟩)
     go_ret
     exact ⟨ret_bool HR.out.symm, HA.out⟩
    | true =>
     generalize wOk x = r2 at *
     cases r2 with
     | false =>
      have HR := kide (HBAD.out (.inr (by simp)))
      go_wp2_with (first | (go_at_call 79; refine Calls.mono (HN.out _) ?_; rintro e w1 ⟨rfl, rfl⟩) | (go_at_call 80; refine Calls.mono (HW.out _) ?_; rintro e w1 ⟨rfl, rfl⟩))
      go_ret
      exact ⟨ret_bool HR.out.symm, HA.out⟩
     | true =>
      have hx := hwx (by simp)
      obtain ⟨hx1, hx2⟩ := hx
      obtain ⟨hs1, hs2⟩ := hsum
      have HG := kide (HGOOD.out (by simp) (by simp))
      clear HBAD HGOOD hwx
      go_wp2_with (first | (go_at_call 79; refine Calls.mono (HN.out _) ?_; rintro e w1 ⟨rfl, rfl⟩) | (go_at_call 80; refine Calls.mono (HW.out _) ?_; rintro e w1 ⟨rfl, rfl⟩))
      go_roundw
      case rel =>
       refine ⟨k + 1, by omega, by go_num, ?_, HA.out⟩
       ·intro d hd
        rw [List.take_add_one, GX.out] at hd
        rcases List.mem_append.1 hd with hd | hd
        ·exact HOK.out d hd
        ·simp at hd
         subst hd
         exact HG.out
      case measure => simp [intOf]; omega
   ·have e : k = ds.length := by omega
    rw [e, List.take_length] at hok
    have hs := sumW_le hok
    rw [← List.take_length (l := ds), ← e] at hs
    have HR : Hid (dclR ds = (decide (sumW (ds.take k) ≤ 20000) && decide ((ds.map Prod.fst).Nodup))) := by
     show _ = _
     rw [e, List.take_length]
     rw [Bool.eq_iff_iff, dclR_iff, Bool.and_eq_true, decide_eq_true_eq, decide_eq_true_eq]
     exact ⟨fun h => ⟨h.2.2.1, h.2.2.2⟩, fun h => ⟨h60, hok, h.1, h.2⟩⟩
    have hnm : ∀ d ∈ ds, d.1.size ≤ 1048576 := fun d hd => by
     have := (dcOk_iff.1 (hok d hd)).1
     simp [nmOk] at this
     omega
    have HP := kide (fun u (hu : Below w.heap.size w u) => placesOf_any a c ds u (hr.later hu) hnm)
    have HT := kide (totalWidth_any a c ds wr (hr.later hbel) h60 hok)
    rw [e, List.take_length] at HR hs
    generalize sumW ds = Q at *
    clear hok hbel hs e hnm
    go_wp2_with fail
    refine Calls.mono HT.out ?_
    rintro e wt ⟨rfl, hbt⟩
    have HBT := kide (HB.out.trans (hbt.mono HB.out.size))
    clear hbt
    by_cases hq : Q ≤ 20000
    ·have HR2 : Hid (dclR ds = decide ((ds.map Prod.fst).Nodup)) := by
      show _ = _
      rw [HR.out, decide_eq_true hq]; rfl
     go_wp2_with (go_at_call 82; refine Calls.mono (HP.out _ HBT.out) ?_; rintro e w1 ⟨rfl, ⟨D, hown, hpl⟩, hb1⟩; have hml := fun ty => hown.len Tryz.underlying129 ty; have HD : Hid (decide ((ds.map Prod.fst).Nodup) = decide (Maps.size D = ds.length)) := (by show _ = _; rw [Bool.eq_iff_iff, decide_eq_true_eq, decide_eq_true_eq, ← hpl.nodup, List.length_map]); have hle := hpl.le; rw [List.length_map] at hle; clear hown hpl; generalize Maps.size D = n at *)
     go_ret
     exact ⟨ret_bool (by rw [HR2.out, HD.out, Bool.eq_iff_iff]; simp; omega), HBT.out.trans (hb1.mono HBT.out.size)⟩
    ·have HR2 : Hid (dclR ds = false) := by
      show _ = _
      rw [HR.out, decide_eq_false hq]; rfl
     go_wp2_with fail
     go_ret
     exact ⟨ret_bool HR2.out.symm, HBT.out⟩
 ·rw [dclR_long (by omega)]
  go_enter Tryz.func59, Tryz.ntmps59
  go_wp2_with fail
  go_ret
  exact ⟨rfl, Below.refl _ _⟩

def sgOk (ds : List Dc) (s : Sc) : Bool :=
 if s.v = -1 then decide (s.lo = 0) && decide (s.wd = s.bw) && rightB s.bw s.ws
 else decide (0 ≤ s.v) && decide (s.v < ds.length) && decide (s.bw = 0) && decide (s.ws.length = 0) && decide (1 ≤ s.wd) && decide (0 ≤ s.lo) && decide (s.lo + s.wd ≤ (ds.getD s.v.toNat (.empty, 0)).2)
def oneB (s t : Sc) : Bool := decide (s.v = t.v) && (decide (s.v = -1) || decide (s.lo + s.wd = t.lo))
def flL (ds : List Dc) : Option Sc → List Sc → Bool
 | _, [] => true
 | none, s :: t => sgOk ds s && flL ds (some s) t
 | some q, s :: t => sgOk ds s && !oneB q s && flL ds (some s) t
def sumS : List Sc → Int
 | [] => 0
 | s :: t => s.wd + sumS t
def flatR (ds : List Dc) (fs : List Sc) : Bool := dclR ds && decide (1 ≤ fs.length) && decide (fs.length ≤ 2000) && flL ds none fs && decide (sumS fs ≤ 4096)
theorem rightB_wd {W : Int} {xs : List Nat} (h : rightB W xs = true) : 1 ≤ W ∧ W ≤ 4096 := by
 simp [rightB, wOk] at h
 exact h.1.1
theorem dclR_wd {ds : List Dc} (h : dclR ds = true) {k : Nat} {d : Dc} (hd : ds[k]? = some d) : 1 ≤ d.2 ∧ d.2 ≤ 4096 := (dcOk_iff.1 ((dclR_iff.1 h).2.1 d (List.mem_of_getElem? hd))).2
theorem sgOk_bounds {ds : List Dc} {s : Sc} (hd : dclR ds = true) (h : sgOk ds s = true) : 1 ≤ s.wd ∧ s.wd ≤ 4096 ∧ 0 ≤ s.lo ∧ s.lo ≤ 4096 := by
 unfold sgOk at h
 split at h
 ·simp at h
  have := rightB_wd h.2
  omega
 ·simp at h
  obtain ⟨⟨⟨⟨⟨⟨h1, h2⟩, h3⟩, h4⟩, h5⟩, h6⟩, h7⟩ := h
  have hl : s.v.toNat < ds.length := by omega
  have := dclR_wd hd (List.getElem?_eq_getElem hl)
  rw [List.getElem?_eq_getElem hl, Option.getD_some] at h7
  omega
theorem sgOk_const {ds : List Dc} {s : Sc} (h : s.v = -1) : sgOk ds s = (decide (s.lo = 0) && decide (s.wd = s.bw) && rightB s.bw s.ws) := by rw [sgOk, if_pos h]
theorem sgOk_out {ds : List Dc} {s : Sc} (h : s.v ≠ -1) (h2 : s.v < 0 ∨ (ds.length : Int) ≤ s.v ∨ s.bw ≠ 0 ∨ s.ws.length ≠ 0) : sgOk ds s = false := by
 rw [sgOk, if_neg h, Bool.eq_false_iff]
 intro h'
 simp at h'
 have h8 := h'.1.1.1.2
 rcases h2 with h2 | h2 | h2 | h2
 ·omega
 ·omega
 ·exact h2 h'.1.1.1.1.2
 ·simp [h8] at h2
theorem sgOk_in {ds : List Dc} {s : Sc} {k : Nat} {d : Dc} (hv : s.v = (k : Int)) (hd : ds[k]? = some d) (hb : s.bw = 0) (hw : s.ws.length = 0) : sgOk ds s = (decide (1 ≤ s.wd) && decide (0 ≤ s.lo) && decide (s.lo + s.wd ≤ d.2)) := by
 have hl := (List.getElem?_eq_some_iff.1 hd).1
 rw [sgOk, if_neg (by omega), hv, Int.toNat_natCast]
 have h1 : decide ((0 : Int) ≤ (k : Int)) = true := decide_eq_true (by omega)
 have h2 : decide ((k : Int) < (ds.length : Int)) = true := decide_eq_true (by omega)
 have e : ds.getD k (.empty, 0) = d := by simp [List.getD, hd]
 rw [h1, h2, hb, hw, e]
 simp
set_option maxHeartbeats 1000000 in
theorem segOk_any (s : Sc) (a da : Option Addr) (c dc : Nat) (ds : List Dc) (w : World) (hr : Rd w a s.ws) (hd : RdD w da ds) (hD : dclR ds = true) :
  Calls Tryz.prog 100 #[.slice da ds.length dc, .agg #[.int .i64 s.v, .int .i64 s.lo, .int .i64 s.wd, .int .i64 s.bw, .slice a s.ws.length c]] w fun e w' => e = .returned (.bool (sgOk ds s)) ∧ Below w.heap.size w w' := by
 have hb0 : Below w.heap.size w (w.alloc (Obj.cells #[.int .i64 s.v, .int .i64 s.lo, .int .i64 s.wd, .int .i64 s.bw, .slice a s.ws.length c] 73)) := blA _ _
 have hl1 := hd.1
 have hl2 := hr.1
 by_cases hv : s.v = -1
 ·rw [sgOk_const hv]
  have HOK := kide (fun u (hu : Below w.heap.size w u) => implOk_any s.bw a c s.ws u (hr.later hu))
  obtain ⟨v, lo, wd, bw, ws⟩ := s
  simp only [] at hv hb0 HOK hl2 ⊢
  subst hv
  have B0 := kide hb0
  clear hr hd hb0
  by_cases h1 : lo = 0
  ·subst h1
   by_cases h2 : wd = bw
   ·subst h2
    have hww : (wd == wd) = true := by simp
    go_enter Tryz.func100, Tryz.ntmps100
    go_wp2_with fail
    refine Calls.mono (HOK.out _ B0.out) ?_
    rintro e w1 ⟨rfl, hb1⟩
    go_wp2_with fail
    go_ret
    exact ⟨ret_bool (by simp), B0.out.trans (hb1.mono (by simp))⟩
   ·have hww : (wd == bw) = false := by simp [h2]
    have hR : (decide ((0 : Int) = 0) && decide (wd = bw) && rightB bw ws) = false := by simp [h2]
    rw [hR]
    clear hR h2
    go_enter Tryz.func100, Tryz.ntmps100
    go_wp2_with fail
    go_ret
    exact ⟨rfl, B0.out⟩
  ·have hww : (lo == 0) = false := by simp [h1]
   have hR : (decide (lo = 0) && decide (wd = bw) && rightB bw ws) = false := by simp [h1]
   rw [hR]
   clear hR h1
   go_enter Tryz.func100, Tryz.ntmps100
   go_wp2_with fail
   go_ret
   exact ⟨rfl, B0.out⟩
 ·by_cases hout : s.v < 0 ∨ (ds.length : Int) ≤ s.v ∨ s.bw ≠ 0 ∨ s.ws.length ≠ 0
  ·rw [sgOk_out hv hout]
   obtain ⟨v, lo, wd, bw, ws⟩ := s
   simp only [] at hv hb0 hout hl2 ⊢
   have B0 := kide hb0
   have hvv : (v == -1) = false := by simp [hv]
   clear hr hd hb0 hv
   by_cases h1 : v < 0
   ·clear hout
    go_enter Tryz.func100, Tryz.ntmps100
    go_wp2_with fail
    go_ret
    exact ⟨rfl, B0.out⟩
   by_cases h2 : (ds.length : Int) ≤ v
   ·clear hout
    go_enter Tryz.func100, Tryz.ntmps100
    go_wp2_with fail
    go_ret
    exact ⟨rfl, B0.out⟩
   by_cases h3 : bw = 0
   ·have h4 : ws.length ≠ 0 := by
     rcases hout with h | h | h | h
     ·exact absurd h h1
     ·exact absurd h h2
     ·exact absurd h3 h
     ·exact h
    subst h3
    have h5 : ((ws.length : Int) != 0) = true := by simp; intro h; subst h; simp at h4
    clear hout
    go_enter Tryz.func100, Tryz.ntmps100
    go_wp2_with fail
    go_ret
    exact ⟨rfl, B0.out⟩
   ·have h5 : (bw != 0) = true := by simp [h3]
    clear hout
    go_enter Tryz.func100, Tryz.ntmps100
    go_wp2_with fail
    go_ret
    exact ⟨rfl, B0.out⟩
  ·obtain ⟨k, hk⟩ : ∃ k : Nat, s.v = (k : Int) := ⟨s.v.toNat, by omega⟩
   have hkl : k < ds.length := by omega
   obtain ⟨⟨t, y⟩, gd⟩ : ∃ d, ds[k]? = some d := ⟨ds[k], List.getElem?_eq_getElem hkl⟩
   have hbw : s.bw = 0 := Decidable.byContradiction fun h => hout (.inr (.inr (.inl h)))
   have hws : s.ws.length = 0 := Decidable.byContradiction fun h => hout (.inr (.inr (.inr h)))
   rw [sgOk_in hk gd hbw hws]
   obtain ⟨hy1, hy2⟩ := dclR_wd hD gd
   obtain ⟨-, -, h | ⟨b1, o1, rfl, hc1⟩⟩ := hd
   ·subst h; simp at hkl
   obtain ⟨-, q1⟩ := hc1 k _ gd
   have lb1 : b1 < w.heap.size := block_lt_of_cell q1
   obtain ⟨v, lo, wd, bw, ws⟩ := s
   simp only [] at hv hb0 hout hl2 hk hbw hws hy1 hy2 q1 ⊢
   subst hk
   subst hbw
   have hwl := List.eq_nil_of_length_eq_zero hws
   subst hwl
   have B0 := kide hb0
   have hvv : ((k : Int) == -1) = false := by simp
   have hki : (k : Int) < (ds.length : Int) := by omega
   clear hr hb0 hv hout hc1 gd hD hws
   by_cases h1 : 1 ≤ wd
   ·by_cases h2 : wd ≤ y
    ·by_cases h3 : 0 ≤ lo
     ·by_cases h4 : lo ≤ y - wd
      ·have hR : (decide (1 ≤ wd) && decide (0 ≤ lo) && decide (lo + wd ≤ y)) = true := by simp; omega
       rw [hR]
       clear hR
       go_enter Tryz.func100, Tryz.ntmps100
       go_wp2_with fail
       go_ret
       first | exact ⟨rfl, B0.out⟩ | exact ⟨ret_bool (by simp; omega), B0.out⟩
      ·have hR : (decide (1 ≤ wd) && decide (0 ≤ lo) && decide (lo + wd ≤ y)) = false := by simp; omega
       rw [hR]
       clear hR
       go_enter Tryz.func100, Tryz.ntmps100
       go_wp2_with fail
       go_ret
       first | exact ⟨rfl, B0.out⟩ | exact ⟨ret_bool (by simp; omega), B0.out⟩
     ·have hR : (decide (1 ≤ wd) && decide (0 ≤ lo) && decide (lo + wd ≤ y)) = false := by simp; omega
      rw [hR]
      clear hR
      go_enter Tryz.func100, Tryz.ntmps100
      go_wp2_with fail
      go_ret
      first | exact ⟨rfl, B0.out⟩ | exact ⟨ret_bool (by simp; omega), B0.out⟩
    ·by_cases h3 : 0 ≤ lo
     ·have hR : (decide (1 ≤ wd) && decide (0 ≤ lo) && decide (lo + wd ≤ y)) = false := by simp; omega
      rw [hR]
      clear hR
      go_enter Tryz.func100, Tryz.ntmps100
      go_wp2_with fail
      go_ret
      first | exact ⟨rfl, B0.out⟩ | exact ⟨ret_bool (by simp; omega), B0.out⟩
     ·have hR : (decide (1 ≤ wd) && decide (0 ≤ lo) && decide (lo + wd ≤ y)) = false := by simp; omega
      rw [hR]
      clear hR
      go_enter Tryz.func100, Tryz.ntmps100
      go_wp2_with fail
      go_ret
      first | exact ⟨rfl, B0.out⟩ | exact ⟨ret_bool (by simp; omega), B0.out⟩
   ·have hR : (decide (1 ≤ wd) && decide (0 ≤ lo) && decide (lo + wd ≤ y)) = false := by simp; omega
    rw [hR]
    clear hR
    go_enter Tryz.func100, Tryz.ntmps100
    go_wp2_with fail
    go_ret
    first | exact ⟨rfl, B0.out⟩ | exact ⟨ret_bool (by simp; omega), B0.out⟩

theorem couldBeOne_any (s t : Sc) (a b : Option Addr) (c d : Nat) (w : World) (h1 : 0 ≤ s.lo ∧ s.lo ≤ 4096) (h2 : 0 ≤ s.wd ∧ s.wd ≤ 4096) :
  Calls Tryz.prog 87 #[.agg #[.int .i64 s.v, .int .i64 s.lo, .int .i64 s.wd, .int .i64 s.bw, .slice a s.ws.length c], .agg #[.int .i64 t.v, .int .i64 t.lo, .int .i64 t.wd, .int .i64 t.bw, .slice b t.ws.length d]] w fun e w' => e = .returned (.bool (oneB s t)) ∧ Below w.heap.size w w' := by
 have hb2 : Below w.heap.size w ((w.alloc (Obj.cells #[.int .i64 s.v, .int .i64 s.lo, .int .i64 s.wd, .int .i64 s.bw, .slice a s.ws.length c] 73)).alloc (Obj.cells #[.int .i64 t.v, .int .i64 t.lo, .int .i64 t.wd, .int .i64 t.bw, .slice b t.ws.length d] 73)) := (blA _ _).alloc (by simp) _
 obtain ⟨v, lo, wd, bw, ws⟩ := s
 obtain ⟨v', lo', wd', bw', ws'⟩ := t
 simp only [oneB] at h1 h2 hb2 ⊢
 obtain ⟨l1, l2⟩ := h1
 obtain ⟨l3, l4⟩ := h2
 have B2 := kide hb2
 clear hb2
 by_cases h : v = v'
 ·have e1 : (v == v') = true := by simp [h]
  by_cases hv : v = -1
  ·have e2 : (v == -1) = true := by simp [hv]
   have hR : (decide (v = v') && (decide (v = -1) || decide (lo + wd = lo'))) = true := by simp [← h, hv]
   rw [hR]
   clear hR h hv
   go_enter Tryz.func87, Tryz.ntmps87
   go_wp2_with fail
   first | go_quiet (fail) | skip
   go_wp2_with fail
   go_ret
   exact ⟨rfl, by first | exact B2.out | exact below_drewN B2.out _⟩
  ·have e2 : (v == -1) = false := by simp [hv]
   have hR : (decide (v = v') && (decide (v = -1) || decide (lo + wd = lo'))) = decide (lo + wd = lo') := by simp [← h, hv]
   rw [hR]
   clear hR h hv
   go_enter Tryz.func87, Tryz.ntmps87
   go_wp2_with fail
   first | go_quiet (fail) | skip
   go_wp2_with fail
   go_ret
   exact ⟨ret_bool (by rw [Bool.eq_iff_iff]; simp), by first | exact B2.out | exact below_drewN B2.out _⟩
 ·have e1 : (v == v') = false := by simp [h]
  have hR : (decide (v = v') && (decide (v = -1) || decide (lo + wd = lo'))) = false := by simp [h]
  rw [hR]
  clear hR h
  go_enter Tryz.func87, Tryz.ntmps87
  go_wp2_with fail
  first | go_quiet (fail) | skip
  go_wp2_with fail
  go_ret
  exact ⟨rfl, by first | exact B2.out | exact below_drewN B2.out _⟩
theorem sumS_append (xs ys : List Sc) : sumS (xs ++ ys) = sumS xs + sumS ys := by
 induction xs with
 | nil => simp [sumS]
 | cons x xs ih => simp [sumS, ih]; omega
theorem sumS_take {cs : List Sc} {k : Nat} {c : Sc} (h : cs[k]? = some c) : sumS (cs.take (k + 1)) = sumS (cs.take k) + c.wd := by
 rw [List.take_add_one, h, sumS_append]
 simp [sumS]
theorem formWidth_any (a : Option Addr) (c n : Nat) (xs : List Sg) (w : World) (hr : RdS w a xs) (hn : xs.length = n) (h2000 : n ≤ 2000) (hw : ∀ x ∈ xs, 1 ≤ x.ct.wd ∧ x.ct.wd ≤ 4096) :
  Calls Tryz.prog 92 #[.slice a n c] w fun e w' => e = .returned (.int .i64 (sumS (xs.map Sg.ct))) ∧ Below w.heap.size w w' := by
 have hR : sumS (xs.map Sg.ct) = sumS ((xs.map Sg.ct).take n) := by rw [List.take_of_length_le (by simp [hn])]
 rw [hR]
 have HR := kide hr
 have HN := kide hn
 have HW := kide hw
 clear hr hn hw hR
 go_enter Tryz.func92, Tryz.ntmps92
 go_wp2_with fail
 go_loopw [3, 8] (fun q i wr => ∃ k : Nat, k ≤ n ∧ i = .int .i64 (k : Int) ∧ q = .int .i64 (sumS ((xs.map Sg.ct).take k)) ∧ 0 ≤ sumS ((xs.map Sg.ct).take k) ∧ sumS ((xs.map Sg.ct).take k) ≤ 4096 * (k : Int) ∧ Below w.heap.size w wr) (fun _ i _ => n - (intOf i).toNat)
 case atStart => exact ⟨0, Nat.zero_le _, rfl, by simp [sumS], by simp [sumS], by simp [sumS], Below.refl _ _⟩
 case round =>
  obtain ⟨k, hk, rfl, rfl, hq0, hq1, hbel⟩ := hrel
  have HB := kide hbel
  by_cases hlt : k < n
  ·obtain ⟨-, h | ⟨b2, o2, rfl, hc2⟩⟩ := HR.out
   ·have := HN.out; subst h; simp at this; omega
   obtain ⟨⟨s, a1, c1⟩, gx⟩ : ∃ x, xs[k]? = some x := ⟨xs[k]'(by rw [HN.out]; exact hlt), List.getElem?_eq_getElem _⟩
   obtain ⟨⟨p0, p1, p2, p3, p4⟩, -⟩ := (hc2 k _ gx).later hbel
   have hst := sumS_take (cs := xs.map Sg.ct) (k := k) (c := s) (by rw [List.getElem?_map, gx]; rfl)
   obtain ⟨hw1, hw2⟩ := HW.out _ (List.mem_of_getElem? gx)
   obtain ⟨v, lo, wd, bw, ws⟩ := s
   simp only [Sg.hd] at p0 p1 p2 p3 p4 hst hw1 hw2
   have HST := kide hst
   have HA := kide (HB.out.alloc HB.out.size (Obj.cells #[.int .i64 v, .int .i64 lo, .int .i64 wd, .int .i64 bw, .slice a1 ws.length c1] 73))
   have i0 : (k : Int) < (n : Int) := by omega
   clear hc2 gx hst HR hbel
   generalize sumS ((xs.map Sg.ct).take k) = Q at *
   go_wp2_with fail
   go_roundw
   case rel => exact ⟨k + 1, by omega, by go_num, by rw [HST.out], by rw [HST.out]; omega, by rw [HST.out]; omega, HA.out⟩
   case measure => simp [intOf]; omega
  ·have e : k = n := by omega
   subst e
   clear HR hbel
   generalize hQ : sumS ((xs.map Sg.ct).take k) = Q at *
   have HQ := kide hQ
   clear hQ
   go_wp2_with fail
   go_ret
   exact ⟨ret_int (by rw [HQ.out]), HB.out⟩

theorem kwrap {n : Int} (h : -9223372036854775808 ≤ n ∧ n ≤ 9223372036854775807) : IntKind.i64.wrap n = n := by rw [IntKind.wrap_i64]; omega
def flAt (ds : List Dc) (fs : List Sc) (k : Nat) : Bool := flL ds (if k = 0 then none else fs[k - 1]?) (fs.drop k)
theorem flAt_end {ds : List Dc} {fs : List Sc} : flAt ds fs fs.length = true := by
 unfold flAt
 rw [List.drop_length]
 split <;> rename_i h <;> (try cases h) <;> simp [flL]
theorem flAt_zero {ds : List Dc} {fs : List Sc} {s : Sc} (h : fs[0]? = some s) : flAt ds fs 0 = (sgOk ds s && flAt ds fs 1) := by
 have l := (List.getElem?_eq_some_iff.1 h).1
 unfold flAt
 rw [List.drop_eq_getElem_cons l]
 rw [List.getElem?_eq_getElem l] at h
 cases h
 simp [flL, l]
theorem flAt_succ {ds : List Dc} {fs : List Sc} {k : Nat} {q s : Sc} (hq : fs[k]? = some q) (h : fs[k + 1]? = some s) : flAt ds fs (k + 1) = (sgOk ds s && !oneB q s && flAt ds fs (k + 1 + 1)) := by
 have l := (List.getElem?_eq_some_iff.1 h).1
 unfold flAt
 rw [List.drop_eq_getElem_cons l]
 rw [List.getElem?_eq_getElem l] at h
 cases h
 rw [if_neg (by omega), if_neg (by omega), Nat.add_sub_cancel, Nat.add_sub_cancel, hq, flL, List.getElem?_eq_getElem l]
def formR (ds : List Dc) (fs : List Sc) : Bool := decide (1 ≤ fs.length) && decide (fs.length ≤ 2000) && flAt ds fs 0 && decide (sumS fs ≤ 4096)
theorem flatR_form (ds : List Dc) (fs : List Sc) : flatR ds fs = (dclR ds && formR ds fs) := by
 simp [flatR, formR, flAt, Bool.and_assoc]
set_option maxHeartbeats 1000000 in
theorem formOk_any (a da : Option Addr) (c dc n : Nat) (ds : List Dc) (xs : List Sg) (w : World) (hd : RdD w da ds) (hr : RdS w a xs) (hn : xs.length = n) (hD : dclR ds = true) :
  Calls Tryz.prog 64 #[.slice da ds.length dc, .slice a n c] w fun e w' => e = .returned (.bool (formR ds (xs.map Sg.ct))) ∧ Below w.heap.size w w' := by
 have hl1 := hd.1
 have hl2 := hr.1
 rw [hn] at hl2
 by_cases h1 : n < 1
 ·have hR : formR ds (xs.map Sg.ct) = false := by
   have : xs = [] := List.eq_nil_of_length_eq_zero (by omega)
   simp [formR, this]
  rw [hR]
  clear hR
  go_enter Tryz.func64, Tryz.ntmps64
  go_wp2_with fail
  go_ret
  exact ⟨rfl, Below.refl _ _⟩
 by_cases h2 : 2000 < n
 ·have hR : formR ds (xs.map Sg.ct) = false := by
   have h : decide ((xs.map Sg.ct).length ≤ 2000) = false := decide_eq_false (by simp; omega)
   simp only [formR, h]; simp
  rw [hR]
  clear hR
  go_enter Tryz.func64, Tryz.ntmps64
  go_wp2_with fail
  go_ret
  exact ⟨rfl, Below.refl _ _⟩
 generalize hZ : flAt ds (xs.map Sg.ct) 0 = Z
 have hR : formR ds (xs.map Sg.ct) = (Z && decide (sumS (xs.map Sg.ct) ≤ 4096)) := by
  have e1 : decide (1 ≤ (xs.map Sg.ct).length) = true := decide_eq_true (by simp; omega)
  have e2 : decide ((xs.map Sg.ct).length ≤ 2000) = true := decide_eq_true (by simp; omega)
  simp only [formR, e1, e2, hZ, Bool.true_and]
 rw [hR]
 have HZ := kide hZ
 have HD := kide hd
 have HR := kide hr
 have HN := kide hn
 have HDC := kide hD
 clear hZ hR hd hr hn hD
 go_enter Tryz.func64, Tryz.ntmps64
 go_wp2_with fail
 go_loopw [17] (fun i wr => ∃ k : Nat, k ≤ n ∧ i = .int .i64 (k : Int) ∧ flAt ds (xs.map Sg.ct) k = Z ∧ (∀ (i : Nat) (x : Sg), i < k → xs[i]? = some x → sgOk ds x.ct = true) ∧ Below w.heap.size w wr) (fun i _ => n - (intOf i).toNat)
 case atStart => exact ⟨0, Nat.zero_le _, rfl, HZ.out, fun i x h => by omega, Below.refl _ _⟩
 case round =>
  obtain ⟨k, hk, rfl, hz, hall, hbel⟩ := hrel
  have HB := kide hbel
  have HAL := kide hall
  by_cases hlt : k < n
  ·obtain ⟨-, h | ⟨b2, o2, rfl, hc2⟩⟩ := HR.out
   ·have := HN.out; subst h; simp at this; omega
   obtain ⟨⟨s, a1, c1⟩, gx⟩ : ∃ x, xs[k]? = some x := ⟨xs[k]'(by rw [HN.out]; exact hlt), List.getElem?_eq_getElem _⟩
   obtain ⟨⟨p0, p1, p2, p3, p4⟩, pr, -⟩ := (hc2 k _ gx).later hbel
   simp only [Sg.hd] at p0 p1 p2 p3 p4 pr
   have hb0 : Below wr.heap.size wr (wr.alloc (Obj.cells #[.int .i64 s.v, .int .i64 s.lo, .int .i64 s.wd, .int .i64 s.bw, .slice a1 s.ws.length c1] 73)) := blA _ _
   have HOK := kide (fun u (hu : Below wr.heap.size wr u) => segOk_any s a1 da c1 dc ds u (pr.later hu) ((HD.out.later hbel).later hu) HDC.out)
   have GX := kide gx
   have gct : (xs.map Sg.ct)[k]? = some s := by rw [List.getElem?_map, gx]; rfl
   have i0 : (k : Int) < (n : Int) := by omega
   have c0 : (wr.alloc (Obj.cells #[.int .i64 s.v, .int .i64 s.lo, .int .i64 s.wd, .int .i64 s.bw, .slice a1 s.ws.length c1] 73)).cell? ⟨wr.heap.size, 0, none⟩ = some (Value.int .i64 s.v) := by simp
   have c1' : (wr.alloc (Obj.cells #[.int .i64 s.v, .int .i64 s.lo, .int .i64 s.wd, .int .i64 s.bw, .slice a1 s.ws.length c1] 73)).cell? ⟨wr.heap.size, 1, none⟩ = some (Value.int .i64 s.lo) := by simp
   have c2' : (wr.alloc (Obj.cells #[.int .i64 s.v, .int .i64 s.lo, .int .i64 s.wd, .int .i64 s.bw, .slice a1 s.ws.length c1] 73)).cell? ⟨wr.heap.size, 2, none⟩ = some (Value.int .i64 s.wd) := by simp
   have c3' : (wr.alloc (Obj.cells #[.int .i64 s.v, .int .i64 s.lo, .int .i64 s.wd, .int .i64 s.bw, .slice a1 s.ws.length c1] 73)).cell? ⟨wr.heap.size, 3, none⟩ = some (Value.int .i64 s.bw) := by simp
   have c4' : (wr.alloc (Obj.cells #[.int .i64 s.v, .int .i64 s.lo, .int .i64 s.wd, .int .i64 s.bw, .slice a1 s.ws.length c1] 73)).cell? ⟨wr.heap.size, 4, none⟩ = some (Value.slice a1 s.ws.length c1) := by simp
   have l0 : wr.heap.size < (wr.alloc (Obj.cells #[.int .i64 s.v, .int .i64 s.lo, .int .i64 s.wd, .int .i64 s.bw, .slice a1 s.ws.length c1] 73)).heap.size := by simp
   have B0 := kide hb0
   cases hok : sgOk ds s with
   | false =>
    rw [hok] at HOK
    have HF : Hid (Z = false) := by
     show _ = _
     rw [← hz]
     cases k with
     | zero => rw [flAt_zero gct, hok]; rfl
     | succ k =>
      have hq : (xs.map Sg.ct)[k]? = some _ := List.getElem?_eq_getElem (by simp; have := HN.out; omega)
      rw [flAt_succ hq gct, hok]; rfl
    obtain ⟨v, lo, wd, bw, ws⟩ := s
    simp only [] at p0 p1 p2 p3 p4 c0 c1' c2' c3' c4' l0 HOK B0
    clear hc2 gx gct hz hall hbel HZ pr hb0 hok GX
    go_wp2_with fail
    generalize wr.alloc (Obj.cells #[.int .i64 v, .int .i64 lo, .int .i64 wd, .int .i64 bw, .slice a1 ws.length c1] 73) = w0 at *
    clear p0 p1 p2 p3 p4
    refine wp_region_any (by kernel_rfl) ?_
    try (change wpAny _ _ _ _ _ _ _ (World.drew _))
    refine tkC (i := 0) (v := Value.slice da ds.length dc) rfl ?_
    try go_simp
    refine wpAny_ready (rs := [1]) (by kernel_rfl) (by simp) (AllReady.cons rfl (fun K hK => ?_) AllReady.nil)
    go_simp
    refine hK _ _ ?_
    clear hK K
    refine wpAny_ready (rs := [2]) (by kernel_rfl) (by simp) (AllReady.cons rfl (fun K hK => ?_) AllReady.nil)
    go_simp
    go_wp2_with (go_at_call 100; refine Calls.mono (HOK.out _ ?_) ?_; exact B0.out.drew; rintro e w3 ⟨rfl, hb3⟩; replace hb3 := kundrew hb3)
    refine tkC (i := 3) (v := Value.bool true) rfl ?_
    try go_simp
    refine tkC (i := 4) (v := Value.bool true) rfl ?_
    try go_simp
    refine tkM (i := 5) rfl ?_
    try go_simp
    refine tkM (i := 6) rfl ?_
    try go_simp
    refine tkM (i := 7) rfl ?_
    try go_simp
    refine tkM (i := 8) rfl ?_
    try go_simp
    refine tkM (i := 9) rfl ?_
    try go_simp
    refine tkM (i := 10) rfl ?_
    try go_simp
    refine tkM (i := 11) rfl ?_
    try go_simp
    refine tkM (i := 12) rfl ?_
    try go_simp
    refine tkM (i := 13) rfl ?_
    try go_simp
    refine tkM (i := 14) rfl ?_
    try go_simp
    refine tkM (i := 15) rfl ?_
    try go_simp
    refine tkC (i := 16) (v := Value.bool true) rfl ?_
    try go_simp
    refine wpAny_done (by kernel_rfl) ?_ _
    go_wp2_with fail
    go_ret
    exact ⟨ret_bool (by rw [HF.out]; rfl), HB.out.trans ((B0.out.trans (hb3.mono B0.out.size)).mono HB.out.size)⟩
   | true =>
    rw [hok] at HOK
    cases k with
    | zero =>
     rw [flAt_zero gct, hok, Bool.true_and] at hz
     have HZ1 := kide hz
     have HOKS := kide hok
     rw [Nat.zero_mul, Nat.add_zero] at p0 p1 p2 p3 p4
     obtain ⟨v, lo, wd, bw, ws⟩ := s
     simp only [] at p0 p1 p2 p3 p4 c0 c1' c2' c3' c4' l0 HOK B0
     clear hc2 gx gct hz hall hbel HZ pr hb0 hok
     go_wp2_with fail
     generalize wr.alloc (Obj.cells #[.int .i64 v, .int .i64 lo, .int .i64 wd, .int .i64 bw, .slice a1 ws.length c1] 73) = w0 at *
     clear p0 p1 p2 p3 p4
     refine wp_region_any (by kernel_rfl) ?_
     try (change wpAny _ _ _ _ _ _ _ (World.drew _))
     refine tkC (i := 0) (v := Value.slice da ds.length dc) rfl ?_
     try go_simp
     refine wpAny_ready (rs := [1]) (by kernel_rfl) (by simp) (AllReady.cons rfl (fun K hK => ?_) AllReady.nil)
     go_simp
     refine hK _ _ ?_
     clear hK K
     refine wpAny_ready (rs := [2]) (by kernel_rfl) (by simp) (AllReady.cons rfl (fun K hK => ?_) AllReady.nil)
     go_simp
     go_wp2_with (go_at_call 100; refine Calls.mono (HOK.out _ ?_) ?_; exact B0.out.drew; rintro e w3 ⟨rfl, hb3⟩; replace hb3 := kundrew hb3)
     refine tkC (i := 3) (v := Value.bool false) rfl ?_
     try go_simp
     refine tkC (i := 4) (v := Value.bool false) rfl ?_
     try go_simp
     refine tkC (i := 5) (v := Value.int .i64 0) rfl ?_
     try go_simp
     refine tkC (i := 6) (v := Value.bool false) rfl ?_
     try go_simp
     refine tkC (i := 7) (v := Value.bool false) rfl ?_
     try go_simp
     refine tkM (i := 8) rfl ?_
     try go_simp
     refine tkM (i := 9) rfl ?_
     try go_simp
     refine tkM (i := 10) rfl ?_
     try go_simp
     refine tkM (i := 11) rfl ?_
     try go_simp
     refine tkM (i := 12) rfl ?_
     try go_simp
     refine tkM (i := 13) rfl ?_
     try go_simp
     refine tkM (i := 14) rfl ?_
     try go_simp
     refine tkC (i := 15) (v := Value.bool false) rfl ?_
     try go_simp
     refine tkC (i := 16) (v := Value.bool false) rfl ?_
     try go_simp
     refine wpAny_done (by kernel_rfl) ?_ _
     go_wp2_with fail
     go_roundw
     case rel =>
      refine ⟨1, by omega, by go_num, HZ1.out, fun i x hi hx => ?_, HB.out.trans ((B0.out.trans (hb3.mono B0.out.size)).mono HB.out.size)⟩
      have : i = 0 := by omega
      subst this
      rw [GX.out] at hx
      cases hx
      exact HOKS.out
     case measure => simp [intOf]; omega
    | succ j =>
     obtain ⟨⟨s2, a2, cc2⟩, gx2⟩ : ∃ x, xs[j]? = some x := ⟨xs[j]'(by rw [HN.out]; omega), List.getElem?_eq_getElem _⟩
     obtain ⟨⟨q0, q1, q2, q3, q4⟩, -⟩ := (hc2 j _ gx2).later hbel
     simp only [Sg.hd] at q0 q1 q2 q3 q4
     have gct2 : (xs.map Sg.ct)[j]? = some s2 := by rw [List.getElem?_map, gx2]; rfl
     have hs2 := hall j _ (by omega) gx2
     simp only [] at hs2
     have hbd := sgOk_bounds HDC.out hs2
     have HONE := kide (fun u => couldBeOne_any s2 s a2 a1 cc2 c1 u ⟨hbd.2.2.1, hbd.2.2.2⟩ ⟨by omega, hbd.2.1⟩)
     rw [flAt_succ gct2 gct, hok, Bool.true_and] at hz
     have lb2 : b2 < wr.heap.size := block_lt_of_cell q0
     have lb2' : b2 < (wr.alloc (Obj.cells #[.int .i64 s.v, .int .i64 s.lo, .int .i64 s.wd, .int .i64 s.bw, .slice a1 s.ws.length c1] 73)).heap.size := by simp; omega
     have r0 := (kcell hb0 b2 (o2 + j * 5) lb2).trans q0
     have r1 := (kcell hb0 b2 (o2 + j * 5 + 1) lb2).trans q1
     have r2 := (kcell hb0 b2 (o2 + j * 5 + 2) lb2).trans q2
     have r3 := (kcell hb0 b2 (o2 + j * 5 + 3) lb2).trans q3
     have r4 := (kcell hb0 b2 (o2 + j * 5 + 4) lb2).trans q4
     have HZ1 := kide hz
     have HOKS := kide hok
     have j1 : (j : Int) < (n : Int) := by omega
     have hwr1 : IntKind.i64.wrap (j : Int) = (j : Int) := kwrap (by omega)
     have hwr2 : IntKind.i64.wrap ((j : Int) + 1 - 1) = (j : Int) := (kwrap (by omega)).trans (by omega)
     have hwr3 : IntKind.i64.wrap (((j + 1 : Nat) : Int) - 1) = (j : Int) := (kwrap (by omega)).trans (by omega)
     obtain ⟨v, lo, wd, bw, ws⟩ := s
     obtain ⟨v2, lo2, wd2, bw2, ws2⟩ := s2
     simp only [] at p0 p1 p2 p3 p4 q0 q1 q2 q3 q4 r0 r1 r2 r3 r4 c0 c1' c2' c3' c4' l0 lb2' HOK HONE B0
     generalize hO : oneB ⟨v2, lo2, wd2, bw2, ws2⟩ ⟨v, lo, wd, bw, ws⟩ = O at *
     clear hc2 gx gx2 gct gct2 hz hall hbel HZ pr hb0 hok hs2 hbd hO q0 q1 q2 q3 q4
     cases O with
     | true =>
      have HF : Hid (Z = false) := by have h := HZ1.out; simp at h; exact h
      go_wp2_with fail
      generalize wr.alloc (Obj.cells #[.int .i64 v, .int .i64 lo, .int .i64 wd, .int .i64 bw, .slice a1 ws.length c1] 73) = w0 at *
      clear p0 p1 p2 p3 p4
      go_region_held3 (fun u => u.cell? ⟨wr.heap.size, 0, none⟩ = some (Value.int .i64 v) ∧ u.cell? ⟨wr.heap.size, 1, none⟩ = some (Value.int .i64 lo) ∧ u.cell? ⟨wr.heap.size, 2, none⟩ = some (Value.int .i64 wd) ∧ u.cell? ⟨wr.heap.size, 3, none⟩ = some (Value.int .i64 bw) ∧ u.cell? ⟨wr.heap.size, 4, none⟩ = some (Value.slice a1 ws.length c1) ∧ u.cell? ⟨b2, o2 + j * 5, none⟩ = some (Value.int .i64 v2) ∧ u.cell? ⟨b2, o2 + j * 5 + 1, none⟩ = some (Value.int .i64 lo2) ∧ u.cell? ⟨b2, o2 + j * 5 + 2, none⟩ = some (Value.int .i64 wd2) ∧ u.cell? ⟨b2, o2 + j * 5 + 3, none⟩ = some (Value.int .i64 bw2) ∧ u.cell? ⟨b2, o2 + j * 5 + 4, none⟩ = some (Value.slice a2 ws2.length cc2)) (simp [*])
       (first | (go_at_call 100; refine Calls.mono (HOK.out _ ?_) ?_; exact B0.out.drew; rintro e w3 ⟨rfl, hb3⟩; replace hb3 := kundrew hb3; have x0 := kcell hb3 wr.heap.size (0) l0; have x1 := kcell hb3 wr.heap.size (1) l0; have x2 := kcell hb3 wr.heap.size (2) l0; have x3 := kcell hb3 wr.heap.size (3) l0; have x4 := kcell hb3 wr.heap.size (4) l0; have x5 := kcell hb3 b2 (o2 + j * 5) lb2'; have x6 := kcell hb3 b2 (o2 + j * 5 + 1) lb2'; have x7 := kcell hb3 b2 (o2 + j * 5 + 2) lb2'; have x8 := kcell hb3 b2 (o2 + j * 5 + 3) lb2'; have x9 := kcell hb3 b2 (o2 + j * 5 + 4) lb2'; rw [c0] at x0; rw [c1'] at x1; rw [c2'] at x2; rw [c3'] at x3; rw [c4'] at x4; rw [r0] at x5; rw [r1] at x6; rw [r2] at x7; rw [r3] at x8; rw [r4] at x9; have l0w : wr.heap.size < w3.heap.size := Nat.lt_of_lt_of_le l0 hb3.size; have l2w : b2 < w3.heap.size := Nat.lt_of_lt_of_le lb2' hb3.size) | (go_at_call 87; refine Calls.mono (HONE.out _) ?_; rintro e w4 ⟨rfl, hb4⟩; have y0 := kcell hb4 wr.heap.size (0) l0w; have y1 := kcell hb4 wr.heap.size (1) l0w; have y2 := kcell hb4 wr.heap.size (2) l0w; have y3 := kcell hb4 wr.heap.size (3) l0w; have y4 := kcell hb4 wr.heap.size (4) l0w; have y5 := kcell hb4 b2 (o2 + j * 5) l2w; have y6 := kcell hb4 b2 (o2 + j * 5 + 1) l2w; have y7 := kcell hb4 b2 (o2 + j * 5 + 2) l2w; have y8 := kcell hb4 b2 (o2 + j * 5 + 3) l2w; have y9 := kcell hb4 b2 (o2 + j * 5 + 4) l2w; rw [x0] at y0; rw [x1] at y1; rw [x2] at y2; rw [x3] at y3; rw [x4] at y4; rw [x5] at y5; rw [x6] at y6; rw [x7] at y7; rw [x8] at y8; rw [x9] at y9))
      go_wp2_with fail
      go_ret
      exact ⟨ret_bool (by rw [HF.out]; rfl), HB.out.trans ((B0.out.trans ((hb3.trans (hb4.mono hb3.size)).mono B0.out.size)).mono HB.out.size)⟩
     | false =>
      have HF : Hid (flAt ds (xs.map Sg.ct) (j + 1 + 1) = Z) := by have h := HZ1.out; simp at h; exact h
      go_wp2_with fail
      generalize wr.alloc (Obj.cells #[.int .i64 v, .int .i64 lo, .int .i64 wd, .int .i64 bw, .slice a1 ws.length c1] 73) = w0 at *
      clear p0 p1 p2 p3 p4
      go_region_held3 (fun u => u.cell? ⟨wr.heap.size, 0, none⟩ = some (Value.int .i64 v) ∧ u.cell? ⟨wr.heap.size, 1, none⟩ = some (Value.int .i64 lo) ∧ u.cell? ⟨wr.heap.size, 2, none⟩ = some (Value.int .i64 wd) ∧ u.cell? ⟨wr.heap.size, 3, none⟩ = some (Value.int .i64 bw) ∧ u.cell? ⟨wr.heap.size, 4, none⟩ = some (Value.slice a1 ws.length c1) ∧ u.cell? ⟨b2, o2 + j * 5, none⟩ = some (Value.int .i64 v2) ∧ u.cell? ⟨b2, o2 + j * 5 + 1, none⟩ = some (Value.int .i64 lo2) ∧ u.cell? ⟨b2, o2 + j * 5 + 2, none⟩ = some (Value.int .i64 wd2) ∧ u.cell? ⟨b2, o2 + j * 5 + 3, none⟩ = some (Value.int .i64 bw2) ∧ u.cell? ⟨b2, o2 + j * 5 + 4, none⟩ = some (Value.slice a2 ws2.length cc2)) (simp [*])
       (first | (go_at_call 100; refine Calls.mono (HOK.out _ ?_) ?_; exact B0.out.drew; rintro e w3 ⟨rfl, hb3⟩; replace hb3 := kundrew hb3; have x0 := kcell hb3 wr.heap.size (0) l0; have x1 := kcell hb3 wr.heap.size (1) l0; have x2 := kcell hb3 wr.heap.size (2) l0; have x3 := kcell hb3 wr.heap.size (3) l0; have x4 := kcell hb3 wr.heap.size (4) l0; have x5 := kcell hb3 b2 (o2 + j * 5) lb2'; have x6 := kcell hb3 b2 (o2 + j * 5 + 1) lb2'; have x7 := kcell hb3 b2 (o2 + j * 5 + 2) lb2'; have x8 := kcell hb3 b2 (o2 + j * 5 + 3) lb2'; have x9 := kcell hb3 b2 (o2 + j * 5 + 4) lb2'; rw [c0] at x0; rw [c1'] at x1; rw [c2'] at x2; rw [c3'] at x3; rw [c4'] at x4; rw [r0] at x5; rw [r1] at x6; rw [r2] at x7; rw [r3] at x8; rw [r4] at x9; have l0w : wr.heap.size < w3.heap.size := Nat.lt_of_lt_of_le l0 hb3.size; have l2w : b2 < w3.heap.size := Nat.lt_of_lt_of_le lb2' hb3.size) | (go_at_call 87; refine Calls.mono (HONE.out _) ?_; rintro e w4 ⟨rfl, hb4⟩; have y0 := kcell hb4 wr.heap.size (0) l0w; have y1 := kcell hb4 wr.heap.size (1) l0w; have y2 := kcell hb4 wr.heap.size (2) l0w; have y3 := kcell hb4 wr.heap.size (3) l0w; have y4 := kcell hb4 wr.heap.size (4) l0w; have y5 := kcell hb4 b2 (o2 + j * 5) l2w; have y6 := kcell hb4 b2 (o2 + j * 5 + 1) l2w; have y7 := kcell hb4 b2 (o2 + j * 5 + 2) l2w; have y8 := kcell hb4 b2 (o2 + j * 5 + 3) l2w; have y9 := kcell hb4 b2 (o2 + j * 5 + 4) l2w; rw [x0] at y0; rw [x1] at y1; rw [x2] at y2; rw [x3] at y3; rw [x4] at y4; rw [x5] at y5; rw [x6] at y6; rw [x7] at y7; rw [x8] at y8; rw [x9] at y9))
      go_wp2_with fail
      go_roundw
      case rel =>
       refine ⟨j + 1 + 1, by omega, by go_num, HF.out, fun i x hi hx => ?_, HB.out.trans ((B0.out.trans ((hb3.trans (hb4.mono hb3.size)).mono B0.out.size)).mono HB.out.size)⟩
       by_cases hij : i = j + 1
       ·subst hij
        rw [GX.out] at hx
        cases hx
        exact HOKS.out
       ·exact HAL.out i x (by omega) hx
      case measure => simp [intOf]; omega
  ·have e : k = n := by omega
   have hZt : Z = true := by
    rw [← hz, e, ← HN.out]
    have := flAt_end (ds := ds) (fs := xs.map Sg.ct)
    rwa [List.length_map] at this
   subst hZt
   have HW := kide (formWidth_any a c n xs wr (HR.out.later hbel) HN.out (by omega) (fun x hx => by
    obtain ⟨i, hi, e'⟩ := List.mem_iff_getElem.1 hx
    have h := sgOk_bounds HDC.out (hall i x (by have := HN.out; omega) (by rw [List.getElem?_eq_getElem hi, e']))
    exact ⟨h.1, h.2.1⟩))
   generalize hQ : sumS (xs.map Sg.ct) = Q at *
   have HQ := kide hQ
   clear hz hall hbel HZ hQ
   go_wp2_with fail
   refine Calls.mono HW.out ?_
   rintro e w3 ⟨rfl, hb3⟩
   go_wp2_with fail
   go_ret
   exact ⟨ret_bool (by rw [HQ.out]; simp), HB.out.trans (hb3.mono HB.out.size)⟩

theorem take_sum {fs : List Sc} (h : ∀ s ∈ fs, 1 ≤ s.wd) (k : Nat) : sumS (fs.take k) ≤ sumS fs := by
 have e : sumS fs = sumS (fs.take k) + sumS (fs.drop k) := by rw [← sumS_append, List.take_append_drop]
 have gen : ∀ (l : List Sc), (∀ s ∈ l, 1 ≤ s.wd) → 0 ≤ sumS l := by
  intro l
  induction l with
  | nil => intro _; simp [sumS]
  | cons s t ih =>
   intro hl
   have := ih fun x hx => hl x (List.mem_cons_of_mem _ hx)
   have := hl s (by simp)
   simp only [sumS]
   omega
 have := gen (fs.drop k) fun s hs => h s (List.mem_of_mem_drop hs)
 omega

def ibc : List (Int × Int) → List Value
 | [] => []
 | x :: t => .int .i64 x.1 :: .int .i64 x.2 :: ibc t
theorem ibc_len (l : List (Int × Int)) : (ibc l).length = l.length * 2 := by
 induction l with
 | nil => rfl
 | cons x t ih => simp [ibc, ih]; omega
theorem ibc_append (l m : List (Int × Int)) : ibc (l ++ m) = ibc l ++ ibc m := by
 induction l with
 | nil => rfl
 | cons x t ih => simp [ibc, ih]
theorem ibc_get : ∀ {l : List (Int × Int)} {i : Nat} {x : Int × Int}, l[i]? = some x → (ibc l)[i * 2]? = some (.int .i64 x.1) ∧ (ibc l)[i * 2 + 1]? = some (.int .i64 x.2)
 | y :: t, 0, x, h => by simp at h; subst h; simp [ibc]
 | y :: t, i + 1, x, h => by
  have := ibc_get (l := t) (i := i) (x := x) (by simpa using h)
  rw [show (i + 1) * 2 = i * 2 + 1 + 1 by omega]
  simpa [ibc] using this
def OL5 (w : World) (B : Nat) (v : Value) (l : List (Int × Int)) : Prop := w.ownsRow B 95 2 v l.length (ibc l)
theorem OL5.later {w w' : World} {B : Nat} {v : Value} {l : List (Int × Int)} (h : OL5 w B v l) (hb : Below w.heap.size w w') : OL5 w' B v l := World.ownsRow.kept (row := none) h ⟨hb.os, hb.tape, hb.output, hb.size, fun k hk _ => hb.block k hk⟩ (by
 cases h' : v.ownBlock with
 | none => exact .inl rfl
 | some k => exact .inr (by simp))
theorem OL5.lt {w : World} {B : Nat} {v : Value} {l : List (Int × Int)} (h : OL5 w B v l) {b : Nat} (hb : v.ownBlock = some b) : B ≤ b ∧ b < w.heap.size := by
 rcases h.2 with ⟨rfl, -⟩ | ⟨g, cap, cur, rfl, hg, hh, -⟩
 ·cases hb
 ·cases hb
  exact ⟨hg, lt_of_block hh⟩
theorem OL5.typed {w : World} {B : Nat} {v : Value} {l : List (Int × Int)} (h : OL5 w B v l) {b : Nat} (hb : v.ownBlock = some b) : ∃ cur, w.heap[b]? = some (.cells cur 95 (0, 0)) := by
 rcases h.2 with ⟨rfl, -⟩ | ⟨g, cap, cur, rfl, hg, hh, -⟩
 ·cases hb
 ·cases hb
  exact ⟨cur, hh⟩
theorem OL5.move {w w' : World} {B : Nat} {v : Value} {l : List (Int × Int)} (h : OL5 w B v l) (hk : ∀ b, v.ownBlock = some b → w'.heap[b]? = w.heap[b]?) : OL5 w' B v l := by
 refine ⟨h.1, ?_⟩
 rcases h.2 with h0 | ⟨g, cap, cur, rfl, hg, hh, r⟩
 ·exact .inl h0
 ·exact .inr ⟨g, cap, cur, rfl, hg, (hk g rfl).trans hh, r⟩
theorem OL5.form {w : World} {B : Nat} {v : Value} {l : List (Int × Int)} (h : OL5 w B v l) : ∃ a c, v = .slice a l.length c := by
 rcases h.2 with ⟨e, h0⟩ | ⟨g, cap, cur, e, -⟩
 ·exact ⟨none, 0, by rw [e, h0]⟩
 ·exact ⟨_, _, e⟩
theorem OL5.empty (w : World) (B : Nat) (h : B ≤ w.heap.size) : OL5 (w.alloc (.cells #[] 95)) B (.slice (some ⟨w.heap.size, 0, Option.none⟩) 0 0) [] := World.ownsRow_made w #[] 0 h (Nat.zero_le _) (by simp)
theorem OL5.at {w : World} {B : Nat} {v : Value} {l : List (Int × Int)} (h : OL5 w B v l) {i : Nat} {x : Int × Int} (hi : l[i]? = some x) : ∃ g c, v = .slice (some ⟨g, 0, none⟩) l.length c ∧ w.cell? ⟨g, i * 2, none⟩ = some (.int .i64 x.1) ∧ w.cell? ⟨g, i * 2 + 1, none⟩ = some (.int .i64 x.2) := by
 have hil := (List.getElem?_eq_some_iff.1 hi).1
 rcases h.2 with ⟨-, h0⟩ | ⟨g, cap, cur, rfl, hg, hh, hc1, hc2, hsz, hcur⟩
 ·omega
 ·obtain ⟨e0, e1⟩ := ibc_get hi
  rw [← hcur] at e0 e1
  rw [List.getElem?_take, if_pos (by omega)] at e0 e1
  simp only [Array.getElem?_toList] at e0 e1
  exact ⟨g, cap, rfl, by rw [cell_of_row w g _ cur _ _ hh]; exact e0, by rw [cell_of_row w g _ cur _ _ hh]; exact e1⟩
theorem Tryz.infoL5 : (Tryz.prog.info? 95).map (fun i => (i.zero, i.size, i.bytes)) = some (some (.agg #[.int .i64 0, .int .i64 0]), 2, 16) := by kernel_rfl
theorem step_appL5 (w : World) {ops : Array Oper} {o : Oper} {a : Act} {K : Act → World → Prop} {Q : Exit → Act → World → Prop} {E : Prop} (hgd : o.guard = none) (s x : Operand)
  (ho : o.op = .call { callee := .builtin .append, args := #[s, x], argTypes := #[68, 68] })
  (B : Nat) (v : Value) (l : List (Int × Int)) (y : Int × Int) (hs : a.eval s = v) (hown : OL5 w B v l) (gx c : Nat) (hx : a.eval x = .slice (some ⟨gx, 0, none⟩) 1 c)
  (h0 : w.cell? ⟨gx, 0, none⟩ = some (.int .i64 y.1)) (h1 : w.cell? ⟨gx, 1, none⟩ = some (.int .i64 y.2)) (hl : l.length ≤ 1073741824) (hB : B ≤ w.heap.size)
  (h : ∀ g cap w', OL5 w' B (.slice (some ⟨g, 0, none⟩) (l.length + 1) cap) (l ++ [y]) → w.grownBy w' v.ownBlock → K (a.put o.dst (.slice (some ⟨g, 0, none⟩) (l.length + 1) cap)) w') :
  if Region.wanted o (yielded ops a.tmps) = true then Oper.wp Tryz.prog o a w K Q else E := by
 obtain ⟨i0, hi, hz0, hz1, hz2⟩ := info_parts Tryz.infoL5
 refine step_append_lies w hgd s x 68 ho B 95 i0 _ 2 16 Tryz.underlying68 hi hz0 hz1 hz2 rfl (by decide) v l.length (ibc l) hs hown ⟨gx, 0, none⟩ 1 c (ibc [y]) hx rfl ?_ ?_ (by decide) ?_ ?_ hB _ rfl ?_
 ·intro j u hj
  rw [Addr.add_lit]
  match j, hj with
  | 0, hj => simp [ibc] at hj; subst hj; exact h0
  | 1, hj => simp [ibc] at hj; subst hj; exact h1
  | j + 2, hj => simp [ibc] at hj
 ·intro u hu
  simp [ibc] at hu
  rcases hu with rfl | rfl <;> rfl
 ·unfold maxLen; omega
 ·omega
 ·intro g cap w' h1 h2 _ _
  refine h g cap w' ?_ h2
  unfold OL5
  rw [ibc_append, List.length_append]
  exact h1
theorem wpList_appL5 {w : World} {ops : Array Oper} {rest : List Oper} {o : Oper} {a : Act} {Q : Exit → Act → World → Prop} (hgd : o.guard = none) (s x : Operand)
  (ho : o.op = .call { callee := .builtin .append, args := #[s, x], argTypes := #[68, 68] })
  (B : Nat) (v : Value) (l : List (Int × Int)) (y : Int × Int) (hs : a.eval s = v) (hown : OL5 w B v l) (gx c : Nat) (hx : a.eval x = .slice (some ⟨gx, 0, none⟩) 1 c)
  (h0 : w.cell? ⟨gx, 0, none⟩ = some (.int .i64 y.1)) (h1 : w.cell? ⟨gx, 1, none⟩ = some (.int .i64 y.2)) (hl : l.length ≤ 1073741824) (hB : B ≤ w.heap.size)
  (h : ∀ g cap w', OL5 w' B (.slice (some ⟨g, 0, none⟩) (l.length + 1) cap) (l ++ [y]) → w.grownBy w' v.ownBlock → wpList Tryz.prog ops Q rest (a.put o.dst (.slice (some ⟨g, 0, none⟩) (l.length + 1) cap)) w') : wpList Tryz.prog ops Q (o :: rest) a w := by
 obtain ⟨i0, hi, hz0, hz1, hz2⟩ := info_parts Tryz.infoL5
 refine wpList_append_lies w hgd s x 68 ho B 95 i0 _ 2 16 Tryz.underlying68 hi hz0 hz1 hz2 rfl (by decide) v l.length (ibc l) hs hown ⟨gx, 0, none⟩ 1 c (ibc [y]) hx rfl ?_ ?_ (by decide) ?_ ?_ hB _ rfl ?_
 ·intro j u hj
  rw [Addr.add_lit]
  match j, hj with
  | 0, hj => simp [ibc] at hj; subst hj; exact h0
  | 1, hj => simp [ibc] at hj; subst hj; exact h1
  | j + 2, hj => simp [ibc] at hj
 ·intro u hu
  simp [ibc] at hu
  rcases hu with rfl | rfl <;> rfl
 ·unfold maxLen; omega
 ·omega
 ·intro g cap w' h1 h2 _ _
  refine h g cap w' ?_ h2
  unfold OL5
  rw [ibc_append, List.length_append]
  exact h1

def segP (s : Sc) (k : Nat) : Int × Int := if s.v < 0 then (-1, (((tb s.ws k).toNat : Nat) : Int)) else (s.v, s.lo + (k : Int))
def segPs (s : Sc) (m : Nat) : List (Int × Int) := (List.range m).map (segP s)
def formP (fs : List Sc) : List (Int × Int) := fs.flatMap fun s => segPs s s.wd.toNat
theorem segPs_len (s : Sc) (k : Nat) : (segPs s k).length = k := by simp [segPs]
theorem formP_snoc (fs : List Sc) {k : Nat} {s : Sc} (h : fs[k]? = some s) : formP (fs.take (k + 1)) = formP (fs.take k) ++ segPs s s.wd.toNat := by
 rw [List.take_add_one, h]
 simp [formP]
theorem formP_len (fs : List Sc) (h : ∀ s ∈ fs, 0 ≤ s.wd) : ((formP fs).length : Int) = sumS fs := by
 induction fs with
 | nil => simp [formP, sumS]
 | cons s t ih =>
  have h1 := ih fun x hx => h x (List.mem_cons_of_mem _ hx)
  have h2 := h s (by simp)
  have e : formP (s :: t) = segPs s s.wd.toNat ++ formP t := by simp [formP]
  rw [e, List.length_append, segPs_len, sumS]
  simp
  omega


abbrev Ib := Int × Int
def runC : List Ib → Nat
 | [] => 0
 | p :: t => if p.1 < 0 then runC t + 1 else 0
def runV : Ib → List Ib → Nat
 | _, [] => 0
 | p, q :: t => if q.1 = p.1 ∧ q.2 = p.2 + 1 then runV q t + 1 else 0
def segC (l : List Ib) : Sc := ⟨-1, 0, l.length, l.length, pack (l.map fun p => p.2.toNat)⟩
def segV (p : Ib) (n : Nat) : Sc := ⟨p.1, p.2, n, 0, []⟩
def formF : Nat → List Ib → List Sc
 | 0, _ => []
 | _ + 1, [] => []
 | n + 1, p :: t => if p.1 < 0 then segC ((p :: t).take (runC t + 1)) :: formF n (t.drop (runC t)) else segV p (runV p t + 1) :: formF n (t.drop (runV p t))
def formB (l : List Ib) : List Sc := formF l.length l
theorem runC_le (l : List Ib) : runC l ≤ l.length := by
 induction l with
 | nil => simp [runC]
 | cons p t ih => simp only [runC]; split <;> simp <;> omega
theorem runV_le : ∀ (l : List Ib) (p : Ib), runV p l ≤ l.length
 | [], p => by simp [runV]
 | q :: t, p => by
  have := runV_le t q
  simp only [runV]
  split <;> simp <;> omega
theorem formF_both : ∀ (n m : Nat) (l : List Ib), l.length ≤ n → l.length ≤ m → formF n l = formF m l
 | 0, m, l, h, _ => by
  have : l = [] := List.eq_nil_of_length_eq_zero (by omega)
  subst this
  cases m <;> rfl
 | n + 1, m, [], _, _ => by cases m <;> rfl
 | n + 1, 0, p :: t, _, h => by simp at h
 | n + 1, m + 1, p :: t, h, h2 => by
  have h1 : t.length ≤ n := by simpa using h
  have h3 : t.length ≤ m := by simpa using h2
  simp only [formF]
  split
  ·rw [formF_both n m (t.drop (runC t)) (by simp; omega) (by simp; omega)]
  ·rw [formF_both n m (t.drop (runV p t)) (by simp; omega) (by simp; omega)]
theorem formF_more (n : Nat) (l : List Ib) (h : l.length ≤ n) : formF n l = formF l.length l := formF_both n l.length l h (Nat.le_refl _)
theorem formB_nil : formB [] = [] := rfl
theorem formB_cons (p : Ib) (t : List Ib) : formB (p :: t) = if p.1 < 0 then segC ((p :: t).take (runC t + 1)) :: formB (t.drop (runC t)) else segV p (runV p t + 1) :: formB (t.drop (runV p t)) := by
 unfold formB
 simp only [formF, List.length_cons]
 split
 ·rw [formF_more t.length (t.drop (runC t)) (by simp)]
 ·rw [formF_more t.length (t.drop (runV p t)) (by simp)]
theorem formB_C {ps : List Ib} {i k : Nat} {p : Ib} (hp : ps[i]? = some p) (hv : p.1 < 0) (hk : k = i + 1 + runC (ps.drop (i + 1))) : formB (ps.drop i) = segC ((ps.drop i).take (k - i)) :: formB (ps.drop k) := by
 have hil := (List.getElem?_eq_some_iff.1 hp).1
 have e : ps.drop i = p :: ps.drop (i + 1) := by
  rw [List.drop_eq_getElem_cons hil]
  rw [(List.getElem?_eq_some_iff.1 hp).2]
 rw [e, formB_cons, if_pos hv, List.drop_drop]
 subst hk
 rw [show i + 1 + runC (ps.drop (i + 1)) - i = runC (ps.drop (i + 1)) + 1 by omega]
theorem formB_V {ps : List Ib} {i k : Nat} {p : Ib} (hp : ps[i]? = some p) (hv : ¬ p.1 < 0) (hk : k = i + 1 + runV p (ps.drop (i + 1))) : formB (ps.drop i) = segV p (k - i) :: formB (ps.drop k) := by
 have hil := (List.getElem?_eq_some_iff.1 hp).1
 have e : ps.drop i = p :: ps.drop (i + 1) := by
  rw [List.drop_eq_getElem_cons hil]
  rw [(List.getElem?_eq_some_iff.1 hp).2]
 rw [e, formB_cons, if_neg hv, List.drop_drop]
 subst hk
 rw [show i + 1 + runV p (ps.drop (i + 1)) - i = runV p (ps.drop (i + 1)) + 1 by omega]
theorem runC_drop {ps : List Ib} {k : Nat} {q : Ib} (hq : ps[k]? = some q) : runC (ps.drop k) = if q.1 < 0 then runC (ps.drop (k + 1)) + 1 else 0 := by
 have hil := (List.getElem?_eq_some_iff.1 hq).1
 rw [List.drop_eq_getElem_cons hil, (List.getElem?_eq_some_iff.1 hq).2]
 rfl
theorem runV_drop {ps : List Ib} {k : Nat} {p q : Ib} (hq : ps[k]? = some q) : runV p (ps.drop k) = if q.1 = p.1 ∧ q.2 = p.2 + 1 then runV q (ps.drop (k + 1)) + 1 else 0 := by
 have hil := (List.getElem?_eq_some_iff.1 hq).1
 rw [List.drop_eq_getElem_cons hil, (List.getElem?_eq_some_iff.1 hq).2]
 rfl
def RdP (w : World) (a : Option Addr) (ps : List Ib) : Prop := ps.length ≤ 1048576 ∧ (ps = [] ∨ ∃ b o, a = some ⟨b, o, none⟩ ∧ ∀ i p, ps[i]? = some p → w.cell? ⟨b, o + i * 2, none⟩ = some (.int .i64 p.1) ∧ w.cell? ⟨b, o + i * 2 + 1, none⟩ = some (.int .i64 p.2))
theorem RdP.later {w w' : World} {a : Option Addr} {ps : List Ib} (h : RdP w a ps) (hb : Below w.heap.size w w') : RdP w' a ps := by
 refine ⟨h.1, ?_⟩
 rcases h.2 with h0 | ⟨b, o, e, hc⟩
 ·exact .inl h0
 ·refine .inr ⟨b, o, e, fun i p hi => ?_⟩
  obtain ⟨h1, h2⟩ := hc i p hi
  exact ⟨by rw [hb.cell (p := ⟨b, o + i * 2, none⟩) (block_lt_of_cell h1)]; exact h1, by rw [hb.cell (p := ⟨b, o + i * 2 + 1, none⟩) (block_lt_of_cell h2)]; exact h2⟩
theorem OL5.rdp {w : World} {B : Nat} {v : Value} {l : List Ib} (h : OL5 w B v l) (hl : l.length ≤ 1048576) : ∃ a c, v = .slice a l.length c ∧ RdP w a l := by
 by_cases e : l = []
 ·subst e
  obtain ⟨a, c, rfl⟩ := h.form
  exact ⟨a, c, rfl, by simp, .inl rfl⟩
 ·have h0 : 0 < l.length := List.length_pos_iff.2 e
  obtain ⟨g, c, rfl, -⟩ := h.at (List.getElem?_eq_getElem h0)
  refine ⟨_, c, rfl, hl, .inr ⟨g, 0, rfl, fun i x hi => ?_⟩⟩
  obtain ⟨g', c', e', h1, h2⟩ := h.at hi
  cases e'
  exact ⟨by rw [Nat.zero_add]; exact h1, by rw [Nat.zero_add]; exact h2⟩

theorem cg2 {α β γ : Type} (f : α → β → γ) {a a' : α} {b b' : β} (h : a = a') (k : b = b') : f a b = f a' b' := by rw [h, k]
def okS (s : Sc) : Prop := 1 ≤ s.wd ∧ s.wd ≤ 4096 ∧ (∀ y ∈ s.ws, y < 18446744073709551616) ∧ (s.v = -1 ∧ s.lo = 0 ∧ s.bw = s.wd ∧ rightB s.bw s.ws = true ∨ 0 ≤ s.v ∧ s.bw = 0 ∧ s.ws = [])
structure Nf (F : List Sc) : Prop where
 ok : ∀ s ∈ F, okS s
 ap : ∀ (i : Nat) (s t : Sc), F[i]? = some s → F[i + 1]? = some t → oneB s t = false
theorem Nf.tail {s : Sc} {t : List Sc} (h : Nf (s :: t)) : Nf t := ⟨fun x hx => h.ok x (List.mem_cons_of_mem _ hx), fun i a b ha hb => h.ap (i + 1) a b (by simpa using ha) (by simpa using hb)⟩
theorem formP_cons (s : Sc) (t : List Sc) : formP (s :: t) = segPs s s.wd.toNat ++ formP t := rfl
theorem formP_app (a b : List Sc) : formP (a ++ b) = formP a ++ formP b := by simp [formP]
theorem formP_nil : formP [] = [] := rfl
theorem runC_app {l r : List Ib} (h : ∀ p ∈ l, p.1 < 0) : runC (l ++ r) = l.length + runC r := by
 induction l with
 | nil => simp
 | cons p t ih =>
  rw [List.cons_append, runC, if_pos (h p (by simp)), ih (fun q hq => h q (by simp [hq]))]
  simp; omega
def runL (v a : Int) (m : Nat) : List Ib := (List.range m).map fun (k : Nat) => ((v, a + (k : Int)) : Ib)
theorem runL_succ (v a : Int) (m : Nat) : runL v a (m + 1) = (v, a) :: runL v (a + 1) m := by
 unfold runL
 rw [List.range_succ_eq_map, List.map_cons, List.map_map]
 refine cg2 _ (by simp) (List.map_congr_left fun k _ => ?_)
 show ((v, a + ((k + 1 : Nat) : Int)) : Ib) = (v, a + 1 + (k : Int))
 rw [show a + ((k + 1 : Nat) : Int) = a + 1 + (k : Int) by omega]
theorem runV_app (v : Int) : ∀ (m : Nat) (a : Int) (r : List Ib), runV (v, a) (runL v (a + 1) m ++ r) = m + runV (v, a + (m : Int)) r
 | 0, a, r => by simp [runL]
 | m + 1, a, r => by
  rw [runL_succ, List.cons_append, runV, if_pos ⟨rfl, rfl⟩, runV_app v m (a + 1) r]
  rw [show a + 1 + (m : Int) = a + ((m + 1 : Nat) : Int) by omega]
  omega
theorem segPs_var {s : Sc} (h : 0 ≤ s.v) (m : Nat) : segPs s m = runL s.v s.lo m := by
 unfold segPs runL
 refine List.map_congr_left fun k _ => ?_
 simp [segP, show ¬ s.v < 0 by omega]
theorem segPs_cst {s : Sc} (h : s.v = -1) (m : Nat) : segPs s m = (List.range m).map fun k => (-1, (((tb s.ws k).toNat : Nat) : Int)) := by
 unfold segPs
 refine List.map_congr_left fun k _ => ?_
 simp [segP, h]
theorem bits_getD3 (xs : List Nat) (V i : Nat) (h : i < V) : (bitsTo xs V).getD i 0 = (tb xs i).toNat := by
 simp [bitsTo, List.getD, h]
theorem unpk {V : Nat} {xs : List Nat} (hok : rightB V xs = true) (hx : ∀ x ∈ xs, x < 18446744073709551616) : pack (bitsTo xs V) = xs := by
 have h := right_W hok
 refine (eq_pack (bitsTo_le xs V) (by rw [bitsTo_len]; omega) hx fun i hi => ?_).symm
 by_cases hi' : i < V
 ·rw [bits_getD3 xs V i hi']
  cases tb xs i <;> rfl
 ·rw [tb_out hok i (by omega)]
  simp [List.getD, List.getElem?_eq_none (show (bitsTo xs V).length ≤ i by rw [bitsTo_len]; omega)]
theorem cst_bits (ws : List Nat) (m : Nat) : ((List.range m).map fun k => ((-1, (((tb ws k).toNat : Nat) : Int)) : Ib)).map (fun p => p.2.toNat) = bitsTo ws m := by
 unfold bitsTo
 rw [List.map_map]
 refine List.map_congr_left fun k _ => ?_
 simp
theorem segPs_succ' (s : Sc) (m : Nat) : segPs s (m + 1) = segP s 0 :: (List.range m).map fun k => segP s (k + 1) := by
 unfold segPs
 rw [List.range_succ_eq_map, List.map_cons, List.map_map]
 rfl
theorem formP_head {u : Sc} {t : List Sc} (h : 1 ≤ u.wd) : ∃ r, formP (u :: t) = segP u 0 :: r := by
 obtain ⟨m, hm⟩ : ∃ m, u.wd.toNat = m + 1 := ⟨u.wd.toNat - 1, by omega⟩
 rw [formP_cons, hm, segPs_succ']
 exact ⟨_, rfl⟩
theorem formB_nf : ∀ {F : List Sc}, Nf F → formB (formP F) = F
 | [], _ => rfl
 | s :: t, h => by
  have ih := formB_nf h.tail
  obtain ⟨h1, h2, h3, h4⟩ := h.ok s (by simp)
  obtain ⟨m, hm⟩ : ∃ m, s.wd.toNat = m + 1 := ⟨s.wd.toNat - 1, by omega⟩
  obtain ⟨v, lo, wd, bw, ws⟩ := s
  simp only [] at h1 h2 h3 h4 hm
  have hwd : wd = ((m + 1 : Nat) : Int) := by omega
  rw [formP_cons]
  simp only [hm]
  rcases h4 with ⟨hv, hl, hb, hr⟩ | ⟨hv, hb, hw⟩
  ·subst hv hl hb
   have hn : runC (formP t) = 0 := by
    cases t with
    | nil => rfl
    | cons u r =>
     have hu := h.ap 0 _ u rfl rfl
     have hok := h.ok u (by simp)
     obtain ⟨r', hr'⟩ := formP_head (t := r) hok.1
     rw [hr', runC]
     simp only [oneB, Bool.and_eq_false_iff, decide_eq_false_iff_not, Bool.or_eq_false_iff] at hu
     have huv : 0 ≤ u.v := by
      rcases hok.2.2.2 with h9 | h9
      ·rcases hu with hu | hu
       ·exact absurd h9.1.symm hu
       ·exact absurd trivial hu.1
      ·exact h9.1
     rw [if_neg]
     simp [segP, show ¬ u.v < 0 by omega]
   have hc : ∀ q ∈ (List.range m).map (fun k => segP ⟨-1, 0, bw, bw, ws⟩ (k + 1)), q.1 < 0 := fun q hq => by
    obtain ⟨k, -, rfl⟩ := List.mem_map.1 hq
    simp [segP]
   have hlen : ((List.range m).map (fun k => segP ⟨-1, 0, bw, bw, ws⟩ (k + 1))).length = m := by simp
   have hsp : segPs ⟨-1, 0, bw, bw, ws⟩ (m + 1) = segP ⟨-1, 0, bw, bw, ws⟩ 0 :: (List.range m).map fun k => segP ⟨-1, 0, bw, bw, ws⟩ (k + 1) := segPs_succ' _ m
   rw [hsp, List.cons_append, formB_cons, if_pos (by simp [segP]), runC_app hc, hn, hlen]
   simp only [Nat.add_zero]
   rw [List.drop_left' hlen, ih]
   congr 1
   rw [← List.cons_append, ← hsp, List.take_left' (by rw [segPs_len])]
   unfold segC
   rw [segPs_len, segPs_cst rfl, cst_bits]
   have hr' : rightB ((m + 1 : Nat) : Int) ws = true := by rw [← hwd]; exact hr
   rw [unpk hr' h3, hwd]
  ·subst hb hw
   have hn : runV (v, lo + (m : Int)) (formP t) = 0 := by
    cases t with
    | nil => rfl
    | cons u r =>
     have hu := h.ap 0 _ u rfl rfl
     have hok := h.ok u (by simp)
     obtain ⟨r', hr'⟩ := formP_head (t := r) hok.1
     rw [hr', runV]
     rw [if_neg]
     simp only [oneB, Bool.and_eq_false_iff, decide_eq_false_iff_not, Bool.or_eq_false_iff] at hu
     rcases hok.2.2.2 with h9 | h9
     ·simp only [segP, h9.1]
      intro h8
      have := h8.1
      simp at this
      omega
     ·simp only [segP, show ¬ u.v < 0 by omega, if_false]
      intro h8
      rcases hu with hu | hu
      ·exact hu h8.1.symm
      ·refine hu.2 ?_
       have := h8.2
       simp at this
       omega
   rw [segPs_var hv]
   simp only []
   rw [runL_succ, List.cons_append, formB_cons, if_neg (by simp; omega), runV_app, hn]
   simp only [Nat.add_zero]
   rw [List.drop_left' (by simp [runL]), ih]
   congr 1
   unfold segV
   simp only [hwd]
theorem runC_more {l r : List Ib} (h : runC l < l.length) : runC (l ++ r) = runC l := by
 induction l with
 | nil => simp at h
 | cons p t ih =>
  rw [List.cons_append, runC, runC]
  split
  ·rename_i hp
   rw [runC, if_pos hp] at h
   rw [ih (by simp at h; omega)]
  ·rfl
theorem runV_more {r : List Ib} : ∀ {l : List Ib} {p : Ib}, runV p l < l.length → runV p (l ++ r) = runV p l
 | [], p, h => by simp at h
 | q :: t, p, h => by
  rw [List.cons_append, runV, runV]
  split
  ·rename_i hp
   rw [runV, if_pos hp] at h
   rw [runV_more (by simp at h; omega)]
  ·rfl
theorem formB_mono (r : List Ib) : ∀ (n : Nat) (l : List Ib), l.length ≤ n → (formB l).length ≤ (formB (l ++ r)).length
 | 0, l, h => by
  have : l = [] := List.eq_nil_of_length_eq_zero (by omega)
  subst this
  simp [formB_nil]
 | n + 1, [], h => by simp [formB_nil]
 | n + 1, p :: t, h => by
  simp at h
  rw [List.cons_append, formB_cons, formB_cons]
  have hc := runC_le t
  have hv := runV_le t p
  split
  ·by_cases e : runC t < t.length
   ·rw [runC_more e, List.drop_append_of_le_length (by omega)]
    have := formB_mono r n (t.drop (runC t)) (by simp; omega)
    simp
    exact this
   ·rw [List.drop_eq_nil_of_le (show t.length ≤ runC t by omega)]
    simp [formB_nil]
  ·by_cases e : runV p t < t.length
   ·rw [runV_more e, List.drop_append_of_le_length (by omega)]
    have := formB_mono r n (t.drop (runV p t)) (by simp; omega)
    simp
    exact this
   ·rw [List.drop_eq_nil_of_le (show t.length ≤ runV p t by omega)]
    simp [formB_nil]
def oneS (a b : Sc) : Sc := if a.v = -1 then ⟨-1, 0, a.wd + b.wd, a.wd + b.wd, pack (bitsTo a.ws a.wd.toNat ++ bitsTo b.ws b.wd.toNat)⟩ else ⟨a.v, a.lo, a.wd + b.wd, 0, []⟩
theorem range_add_map {β : Type} (f : Nat → β) (a b : Nat) : (List.range (a + b)).map f = (List.range a).map f ++ (List.range b).map fun k => f (a + k) := by
 rw [List.range_add, List.map_append, List.map_map]
 rfl
theorem tb_join2 (xs ys : List Nat) (a b : Nat) (k : Nat) : tb (pack (bitsTo xs a ++ bitsTo ys b)) k = if k < a then tb xs k else (decide (k < a + b) && tb ys (k - a)) := by
 rw [tb_pack _ (fun x hx => by
  rcases List.mem_append.1 hx with h | h
  ·exact bitsTo_le _ _ x h
  ·exact bitsTo_le _ _ x h)]
 by_cases h : k < a
 ·rw [if_pos h, List.getD, List.getElem?_append_left (by rw [bitsTo_len]; exact h)]
  have := bits_getD3 xs a k h
  simp only [List.getD] at this
  rw [this]
  cases tb xs k <;> rfl
 ·rw [if_neg h, List.getD, List.getElem?_append_right (by rw [bitsTo_len]; omega), bitsTo_len]
  by_cases h2 : k < a + b
  ·have := bits_getD3 ys b (k - a) (by omega)
   simp only [List.getD] at this
   rw [this]
   simp only [h2, decide_true, Bool.true_and]
   cases tb ys (k - a) <;> rfl
  ·rw [List.getElem?_eq_none (by rw [bitsTo_len]; omega)]
   simp [h2]
theorem oneS_P {a b : Sc} (ha : okS a) (hb : okS b) (ho : oneB a b = true) : segPs (oneS a b) (oneS a b).wd.toNat = segPs a a.wd.toNat ++ segPs b b.wd.toNat := by
 have h1 := ha.1
 have h2 := hb.1
 simp only [oneB, Bool.and_eq_true, decide_eq_true_eq, Bool.or_eq_true] at ho
 unfold oneS
 by_cases e : a.v = -1
 ·rw [if_pos e]
  simp only []
  have e2 : b.v = -1 := by rw [← ho.1]; exact e
  rw [segPs_cst rfl, segPs_cst e, segPs_cst e2, show (a.wd + b.wd).toNat = a.wd.toNat + b.wd.toNat by omega, range_add_map]
  refine cg2 _ (List.map_congr_left fun k hk => ?_) (List.map_congr_left fun k hk => ?_)
  ·rw [tb_join2, if_pos (List.mem_range.1 hk)]
  ·have := List.mem_range.1 hk
   rw [tb_join2, if_neg (by omega)]
   simp [show a.wd.toNat + k < a.wd.toNat + b.wd.toNat by omega]
 ·rw [if_neg e]
  simp only []
  have hv : 0 ≤ a.v := by
   rcases ha.2.2.2 with h9 | h9
   ·exact absurd h9.1 e
   ·exact h9.1
  have e2 : a.lo + a.wd = b.lo := by
   rcases ho.2 with h9 | h9
   ·exact absurd h9 e
   ·exact h9
  rw [segPs_var (s := ⟨a.v, a.lo, a.wd + b.wd, 0, []⟩) hv, segPs_var hv, segPs_var (by rw [← ho.1]; exact hv), show (a.wd + b.wd).toNat = a.wd.toNat + b.wd.toNat by omega]
  unfold runL
  rw [range_add_map]
  refine cg2 _ rfl (List.map_congr_left fun k hk => ?_)
  simp only []
  rw [ho.1, ← e2]
  congr 1
  omega
theorem oneS_ok {a b : Sc} (ha : okS a) (hb : okS b) (hs : a.wd + b.wd ≤ 4096) : okS (oneS a b) := by
 have h1 := ha.1
 have h2 := hb.1
 unfold oneS
 split
 ·refine ⟨by simp only []; omega, hs, fun y hy => pack_lt _ y hy, .inl ⟨rfl, rfl, rfl, ?_⟩⟩
  have := pack_right (bitsTo a.ws a.wd.toNat ++ bitsTo b.ws b.wd.toNat) (fun x hx => by
   rcases List.mem_append.1 hx with h | h
   ·exact bitsTo_le _ _ x h
   ·exact bitsTo_le _ _ x h) (by simp [bitsTo_len]; omega) (by simp [bitsTo_len]; omega)
  rw [List.length_append, bitsTo_len, bitsTo_len] at this
  simp only []
  rw [show a.wd + b.wd = ((a.wd.toNat + b.wd.toNat : Nat) : Int) by omega]
  exact this
 ·rename_i e
  have hv : 0 ≤ a.v := by
   rcases ha.2.2.2 with h9 | h9
   ·exact absurd h9.1 e
   ·exact h9.1
  exact ⟨by simp only []; omega, hs, by simp, .inr ⟨hv, rfl, rfl⟩⟩
theorem oneS_on {a b c : Sc} : oneB c (oneS a b) = oneB c a ∨ (a.v = -1 ∧ oneB c (oneS a b) = oneB c a) := by
 left
 unfold oneB oneS
 split
 ·rename_i e
  simp only [e]
  by_cases h : c.v = -1 <;> simp [h]
 ·rfl

theorem wpList_appW1 {w : World} {ops : Array Oper} {rest : List Oper} {o : Oper} {a : Act} {Q : Exit → Act → World → Prop} (hgd : o.guard = none) (s x : Operand)
  (ho : o.op = .call { callee := .builtin .append, args := #[s, x], argTypes := #[57, 57] })
  (B : Nat) (v : Value) (l : List Nat) (y : Nat) (hs : a.eval s = v) (hown : OwW w B v l) (gx c : Nat) (hx : a.eval x = .slice (some ⟨gx, 0, none⟩) 1 c)
  (h0 : w.cell? ⟨gx, 0, none⟩ = some (.int .u64 (y : Int))) (hl : l.length ≤ 1073741824) (hB : B ≤ w.heap.size)
  (h : ∀ g cap w', OwW w' B (.slice (some ⟨g, 0, none⟩) (l.length + 1) cap) (l ++ [y]) → w.grownBy w' v.ownBlock → (v.ownBlock = some g ∨ g = w.heap.size) → wpList Tryz.prog ops Q rest (a.put o.dst (.slice (some ⟨g, 0, none⟩) (l.length + 1) cap)) w') : wpList Tryz.prog ops Q (o :: rest) a w := by
 obtain ⟨i0, hi, hz0, hz1, hz2⟩ := info_parts Tryz.infoU64
 refine wpList_append_lies w hgd s x 57 ho B 118 i0 _ 1 8 Tryz.underlying57 hi hz0 hz1 hz2 rfl (by decide) v l.length (u64s l).toList hs hown ⟨gx, 0, none⟩ 1 c [.int .u64 (y : Int)] hx rfl ?_ ?_ (by decide) ?_ ?_ hB _ rfl ?_
 ·intro j u hj
  rw [Addr.add_lit]
  match j, hj with
  | 0, hj => simp at hj; subst hj; exact h0
  | j + 1, hj => simp at hj
 ·intro u hu
  simp at hu
  subst hu
  rfl
 ·unfold maxLen; omega
 ·omega
 ·intro g cap w' h1 h2 h3 _
  refine h g cap w' ?_ h2 h3
  unfold OwW
  rw [List.length_append]
  simpa [u64s] using h1
theorem tb_more (xs : List Nat) (m j : Nat) : tb (xs ++ List.replicate m 0) j = tb xs j := by
 unfold tb
 congr 1
 simp only [List.getD]
 by_cases h : j / 64 < xs.length
 ·rw [List.getElem?_append_left h]
 ·rw [List.getElem?_append_right (by omega), List.getElem?_eq_none (show xs.length ≤ j / 64 by omega), List.getElem?_replicate]
  split <;> rfl
theorem put_joined {P q m : Nat} {xs ys : List Nat} (hx : rightB P xs = true) (hy : rightB q ys = true) (hxl : ∀ x ∈ xs, x < 18446744073709551616) (hyl : ∀ x ∈ ys, x < 18446744073709551616) (hl : (xs ++ List.replicate m 0).length = (P + q + 63) / 64) :
  putTo (xs ++ List.replicate m 0) ys (P / 64) (P % 64) ys.length = pack (bitsTo xs P ++ bitsTo ys q) := by
 have hz : ∀ x ∈ xs ++ List.replicate m 0, x < 18446744073709551616 := fun x h => by
  rcases List.mem_append.1 h with h | h
  ·exact hxl x h
  ·have := List.eq_of_mem_replicate h; omega
 refine eq_pack (fun x hxm => ?_) (by rw [putTo_len, hl]; simp [bitsTo_len]) (putTo_lt _ _ _ _ _ hz hyl) fun i hi => ?_
 ·rcases List.mem_append.1 hxm with h | h
  ·exact bitsTo_le _ _ x h
  ·exact bitsTo_le _ _ x h
 ·rw [tb_put_right hy hyl _ P (by rw [hl]; omega), tb_more]
  by_cases h1 : i < P
  ·have e : (bitsTo xs P ++ bitsTo ys q).getD i 0 = (tb xs i).toNat := by
    simp only [List.getD]
    rw [List.getElem?_append_left (by rw [bitsTo_len]; exact h1)]
    simp [bitsTo, h1]
   rw [e]
   simp [show ¬ P ≤ i by omega]
  ·rw [tb_out hx i (by omega)]
   by_cases h2 : i - P < q
   ·have e : (bitsTo xs P ++ bitsTo ys q).getD i 0 = (tb ys (i - P)).toNat := by
     simp only [List.getD]
     rw [List.getElem?_append_right (by rw [bitsTo_len]; omega), bitsTo_len]
     simp [bitsTo, h2]
    rw [e]
    simp [show P ≤ i by omega]
   ·have e : (bitsTo xs P ++ bitsTo ys q).getD i 0 = 0 := by
     simp only [List.getD]
     rw [List.getElem?_eq_none (by simp [bitsTo_len]; omega)]
     rfl
    rw [e, tb_out hy (i - P) (by omega)]
    simp
theorem oww_later {w w' : World} {B : Nat} {v : Value} {l : List Nat} (h : OwW w B v l) (hb : Below w.heap.size w w') : OwW w' B v l := World.ownsRow.kept (row := none) h ⟨hb.os, hb.tape, hb.output, hb.size, fun k hk _ => hb.block k hk⟩ (by
 cases h' : v.ownBlock with
 | none => exact .inl rfl
 | some k => exact .inr (by simp))
theorem oww_typed {w : World} {B : Nat} {v : Value} {l : List Nat} (h : OwW w B v l) {b : Nat} (hb : v.ownBlock = some b) : (∃ cur, w.heap[b]? = some (.cells cur 118 (0, 0))) ∧ B ≤ b := by
 rcases h.2 with ⟨rfl, -⟩ | ⟨g, cap, cur, rfl, hg, hh, -⟩
 ·cases hb
 ·cases hb; exact ⟨⟨cur, hh⟩, hg⟩
theorem bz_oww {w w' : World} {b B : Nat} {v : Value} {xs : List Nat} {cs : Array Value} {t : TypeId} (hb : Bz w b cs t) (h : OwW w B v xs) (ht : t ≠ 118) (hg : w.grownBy w' v.ownBlock) : Bz w' b cs t := by
 unfold Bz at hb ⊢
 rw [hg.block b (lt_of_block hb) (fun e => by
  obtain ⟨⟨cur, hc⟩, -⟩ := oww_typed h e.symm
  rw [hb] at hc
  cases hc
  exact ht rfl)]
 exact hb
theorem oww_set {w : World} {B b i : Nat} {v : Value} {xs : List Nat} {cs : Array Value} {t : TypeId} (h : OwW w B v xs) (hb : Bz w b cs t) (ht : t ≠ 118) (u : Value) : OwW (w.setCell ⟨b, i, none⟩ u) B v xs := by
 obtain ⟨h1, h2⟩ := h
 refine ⟨h1, ?_⟩
 rcases h2 with h2 | ⟨g, cap, cur, rfl, hg, hh, r⟩
 ·exact .inl h2
 ·refine .inr ⟨g, cap, cur, rfl, hg, ?_, r⟩
  rw [heap_setCell_other _ _ _ _ (fun e => by
   simp only [] at e
   unfold Bz at hb
   rw [e, hb] at hh
   cases hh
   exact ht rfl)]
  exact hh
theorem gsc3 (w : World) (a : Addr) (u : Value) : w.grownBy (w.setCell a u) (some a.block) :=
 ⟨rfl, rfl, rfl, by simp, fun k _ hk => heap_setCell_other _ _ _ _ (fun e => hk (by rw [e]))⟩
theorem rd_gr {w w' : World} {a : Option Addr} {xs : List Nat} {r : Option Nat} (h : Rd w a xs) (hg : w.grownBy w' r) (hne : ∀ p, a = some p → r ≠ some p.block) : Rd w' a xs := by
 obtain ⟨h1, h2, h3⟩ := h
 refine ⟨h1, h2, ?_⟩
 rcases h3 with h3 | ⟨b, o, rfl, hc⟩
 ·exact .inl h3
 ·refine .inr ⟨b, o, rfl, fun i hi => ?_⟩
  have hl := block_lt_of_cell (hc i hi)
  rw [World.cell?_of_block (a := ⟨b, o + i, none⟩) (hg.block b hl (fun e => hne _ rfl e.symm))]
  exact hc i hi
def lenC (w : World) (b i : Nat) : Nat := match w.cell? ⟨b, i, none⟩ with | some (.slice _ n _) => n | _ => 0
theorem grown_own {w w1 w2 : World} {own : Option Nat} {r : Option Nat} (h : w.grownBy w1 own) (h2 : w1.grownBy w2 r) (hr : ∀ k, r = some k → own = some k ∨ w.heap.size ≤ k) : w.grownBy w2 own :=
 ⟨h2.os.trans h.os, h2.tape.trans h.tape, h2.output.trans h.output, Nat.le_trans h.size h2.size, fun k hk hne => by
  rw [h2.block k (Nat.lt_of_lt_of_le hk h.size) (fun e => by
   rcases hr k e.symm with h9 | h9
   ·exact hne h9.symm
   ·omega)]
  exact h.block k hk hne⟩
def RetO (s t : Sc) (B : Nat) (own : Option Nat) (w : World) (e : Ending) (w' : World) : Prop := ∃ v, e = .returned (.agg #[.int .i64 (oneS s t).v, .int .i64 (oneS s t).lo, .int .i64 (oneS s t).wd, .int .i64 (oneS s t).bw, v]) ∧ OwW w' B v (oneS s t).ws ∧ (∀ k, v.ownBlock = some k → own = some k ∨ w.heap.size ≤ k) ∧ w.grownBy w' own
set_option maxHeartbeats 1000000 in
set_option maxRecDepth 100000 in
theorem oneSeg_any (s t : Sc) (B : Nat) (av bv : Option Addr) (ca cb : Nat) (w : World) (hs : okS s) (ht : okS t) (ho : oneB s t = true) (hsum : s.wd + t.wd ≤ 4096) (hB : B ≤ w.heap.size) (hA : OwW w B (.slice av s.ws.length ca) s.ws) (hT : Rd w bv t.ws) (hne : ∀ p q, av = some p → bv = some q → p.block ≠ q.block) :
  Calls Tryz.prog 88 #[.agg #[.int .i64 s.v, .int .i64 s.lo, .int .i64 s.wd, .int .i64 s.bw, .slice av s.ws.length ca], .agg #[.int .i64 t.v, .int .i64 t.lo, .int .i64 t.wd, .int .i64 t.bw, .slice bv t.ws.length cb]] w (RetO s t B (Value.slice av s.ws.length ca).ownBlock w) := by
 obtain ⟨v, lo, wd, bw, ws⟩ := s
 obtain ⟨v2, lo2, wd2, bw2, ws2⟩ := t
 have HS := kide hs
 have HT := kide ht
 have HO := kide ho
 have h1 := hs.1
 have h2 := ht.1
 simp only [] at hsum hA hT h1 h2 ⊢
 obtain ⟨n, hn⟩ : ∃ n, ws.length = n := ⟨_, rfl⟩
 obtain ⟨n2, hn2⟩ : ∃ n, ws2.length = n := ⟨_, rfl⟩
 rw [hn] at hA ⊢
 rw [hn2]
 have HN := kide hn
 have HN2 := kide hn2
 have HNE := kide hne
 have HA0 := kide hA
 have HT0 := kide hT
 clear hs ht ho hn hn2 hne hA hT
 go_enter Tryz.func88, Tryz.ntmps88
 have hww : IntKind.i64.wrap (wd + wd2) = wd + wd2 := by rw [IntKind.wrap_i64]; first | omega | (unfold wrap64; omega)
 by_cases hv : v = -1
 ·subst hv
  have hv : (-1 : Int) = -1 := rfl
  have hcs : Hid (wd = bw ∧ rightB bw ws = true ∧ lo = 0 ∧ wd2 = bw2 ∧ rightB bw2 ws2 = true) := by
   have h9 := HO.out
   simp only [oneB, Bool.and_eq_true, decide_eq_true_eq] at h9
   have hv2 : v2 = -1 := h9.1.symm
   rcases HS.out.2.2.2 with h3 | h3
   ·rcases HT.out.2.2.2 with h4 | h4
    ·exact ⟨h3.2.2.1.symm, h3.2.2.2, h3.2.1, h4.2.2.1.symm, h4.2.2.2⟩
    ·have := h4.1; simp only [] at this; omega
   ·have := h3.1; simp only [] at this; omega
  have B4 : Hid (Below w.heap.size w (((w.alloc (Obj.cells #[.int .i64 (-1), .int .i64 lo, .int .i64 (wd + wd2), .int .i64 (wd + wd2), .slice av n ca] 73)).alloc (Obj.cells #[.int .i64 v2, .int .i64 lo2, .int .i64 wd2, .int .i64 bw2, .slice bv n2 cb] 73)).alloc (Obj.cells #[.int .i64 0, .int .i64 0, .int .i64 0, .int .i64 0, .slice none 0 0] 73))) := ((blA _ _).alloc (by simp) _).alloc (by simp; omega) _
  have X4 : Hid (Bz (((w.alloc (Obj.cells #[.int .i64 (-1), .int .i64 lo, .int .i64 (wd + wd2), .int .i64 (wd + wd2), .slice av n ca] 73)).alloc (Obj.cells #[.int .i64 v2, .int .i64 lo2, .int .i64 wd2, .int .i64 bw2, .slice bv n2 cb] 73)).alloc (Obj.cells #[.int .i64 0, .int .i64 0, .int .i64 0, .int .i64 0, .slice none 0 0] 73)) w.heap.size #[.int .i64 (-1), .int .i64 lo, .int .i64 (wd + wd2), .int .i64 (wd + wd2), .slice av n ca] 73) := ((Bz.new w #[.int .i64 (-1), .int .i64 lo, .int .i64 (wd + wd2), .int .i64 (wd + wd2), .slice av n ca] 73).later ((blA _ _))).later (blA _ _)
  have Y4 : Hid (Bz (((w.alloc (Obj.cells #[.int .i64 (-1), .int .i64 lo, .int .i64 (wd + wd2), .int .i64 (wd + wd2), .slice av n ca] 73)).alloc (Obj.cells #[.int .i64 v2, .int .i64 lo2, .int .i64 wd2, .int .i64 bw2, .slice bv n2 cb] 73)).alloc (Obj.cells #[.int .i64 0, .int .i64 0, .int .i64 0, .int .i64 0, .slice none 0 0] 73)) (w.heap.size + 1) #[.int .i64 v2, .int .i64 lo2, .int .i64 wd2, .int .i64 bw2, .slice bv n2 cb] 73) := by
   have h9 := (Bz.new (w.alloc (Obj.cells #[.int .i64 (-1), .int .i64 lo, .int .i64 (wd + wd2), .int .i64 (wd + wd2), .slice av n ca] 73)) #[.int .i64 v2, .int .i64 lo2, .int .i64 wd2, .int .i64 bw2, .slice bv n2 cb] 73).later ((Below.refl _ _).alloc (Nat.le_refl _) (Obj.cells #[.int .i64 0, .int .i64 0, .int .i64 0, .int .i64 0, .slice none 0 0] 73))
   rw [World.size_alloc] at h9
   exact h9
  have Z4 : Hid (Bz (((w.alloc (Obj.cells #[.int .i64 (-1), .int .i64 lo, .int .i64 (wd + wd2), .int .i64 (wd + wd2), .slice av n ca] 73)).alloc (Obj.cells #[.int .i64 v2, .int .i64 lo2, .int .i64 wd2, .int .i64 bw2, .slice bv n2 cb] 73)).alloc (Obj.cells #[.int .i64 0, .int .i64 0, .int .i64 0, .int .i64 0, .slice none 0 0] 73)) (w.heap.size + 1 + 1) #[.int .i64 0, .int .i64 0, .int .i64 0, .int .i64 0, .slice none 0 0] 73) := by
   have h9 := Bz.new ((w.alloc (Obj.cells #[.int .i64 (-1), .int .i64 lo, .int .i64 (wd + wd2), .int .i64 (wd + wd2), .slice av n ca] 73)).alloc (Obj.cells #[.int .i64 v2, .int .i64 lo2, .int .i64 wd2, .int .i64 bw2, .slice bv n2 cb] 73)) #[.int .i64 0, .int .i64 0, .int .i64 0, .int .i64 0, .slice none 0 0] 73
   rw [World.size_alloc, World.size_alloc] at h9
   exact h9
  have O4 := kide (oww_later HA0.out B4.out)
  have R4 := kide (HT0.out.later B4.out)
  go_wp2_with fail
  obtain ⟨b0, hb0⟩ : ∃ b0, w.heap.size = b0 := ⟨_, rfl⟩
  rw [hb0] at X4 Y4 Z4
  have HB0 := kide hb0
  simp only [hb0]
  clear hb0
  generalize (((w.alloc (Obj.cells #[.int .i64 (-1), .int .i64 lo, .int .i64 (wd + wd2), .int .i64 (wd + wd2), .slice av n ca] 73)).alloc (Obj.cells #[.int .i64 v2, .int .i64 lo2, .int .i64 wd2, .int .i64 bw2, .slice bv n2 cb] 73)).alloc (Obj.cells #[.int .i64 0, .int .i64 0, .int .i64 0, .int .i64 0, .slice none 0 0] 73)) = w4 at *
  obtain ⟨h31, h32, h33, h34, h35⟩ := hcs.out
  have HR1 := kide h32
  have HR2 := kide h35
  subst h31 h34
  have HLO := kide h33
  clear h33 hcs hv
  have hrw := right_W HR1.out
  have hrw2 := right_W HR2.out
  clear h32 h35
  have hn1 : 1 ≤ n := by have := HN.out; omega
  obtain ⟨gA, rfl⟩ : ∃ g, av = some ⟨g, 0, none⟩ := by
   rcases HA0.out.2 with ⟨e, h9⟩ | ⟨g, cap, cur, e, -⟩
   ·have := HN.out; omega
   ·cases e; exact ⟨g, rfl⟩
  obtain ⟨N, hN⟩ : ∃ N : Nat, (wd + wd2 + 63) / 64 = (N : Int) := ⟨((wd + wd2 + 63) / 64).toNat, by omega⟩
  have hnN : n ≤ N := by have := HN.out; omega
  have hN64 : N ≤ 64 := by omega
  have HWF := kide (fun u => wordsFor_any (wd + wd2) (by omega) hsum u)
  rw [hN] at HWF
  have HG0 : Hid (w.grownBy w4 (some gA)) := ⟨B4.out.os, B4.out.tape, B4.out.output, B4.out.size, fun k hk _ => B4.out.block k hk⟩
  go_loopw [] (fun wr => ∃ (k c g : Nat), n ≤ k ∧ k ≤ N ∧ Bz wr b0 #[.int .i64 (-1), .int .i64 lo, .int .i64 (wd + wd2), .int .i64 (wd + wd2), .slice (some ⟨g, 0, none⟩) k c] 73 ∧ OwW wr B (.slice (some ⟨g, 0, none⟩) k c) (ws ++ List.replicate (k - n) 0) ∧ (g = gA ∨ w.heap.size ≤ g) ∧ Bz wr (b0 + 1) #[.int .i64 v2, .int .i64 lo2, .int .i64 wd2, .int .i64 wd2, .slice bv n2 cb] 73 ∧ Bz wr (b0 + 1 + 1) #[.int .i64 0, .int .i64 0, .int .i64 0, .int .i64 0, .slice none 0 0] 73 ∧ w.grownBy wr (some gA)) (fun wr => 64 - lenC wr b0 4)
  case atStart => exact ⟨n, ca, gA, Nat.le_refl _, hnN, X4.out, by rw [Nat.sub_self]; simpa using O4.out, .inl rfl, Y4.out, Z4.out, HG0.out⟩
  case round =>
   clear X4 Y4 Z4 O4 R4 B4 HG0
   obtain ⟨k, c, g, hnk, hkN, hx, ho, hgl, hy, hz, hgr⟩ := hrel
   have XR := kide hx
   have OR := kide ho
   have YR := kide hy
   have ZR := kide hz
   have GR := kide hgr
   have HGL := kide hgl
   have c2 := hx.cell 2
   have c4 := hx.cell 4
   simp at c2 c4
   clear hx ho hy hz hgr hgl
   go_wp2_with fail
   go_quiet ((go_at_call 112; exact Calls.quiet_of_same (HWF.out _)))
   have hbd := below_drewN (Below.refl wr.heap.size wr) nq
   have X5 := kide (XR.out.later hbd)
   have O5 := kide (oww_later OR.out hbd)
   have Y5 := kide (YR.out.later hbd)
   have Z5 := kide (ZR.out.later hbd)
   have G5 : Hid (w.grownBy (wr.drewN nq) (some gA)) := grown_own GR.out (r := none) ⟨hbd.os, hbd.tape, hbd.output, hbd.size, fun k hk _ => hbd.block k hk⟩ (fun k e => by cases e)
   have hlC : lenC wr b0 4 = k := by
    have := XR.out.cell 4
    unfold lenC
    rw [this]
    rfl
   have HLC := kide hlC
   clear hbd OR YR ZR GR hlC c2 c4
   generalize wr.drewN nq = w5 at *
   have d4 := X5.out.cell 4
   have f4 := X5.out.froz 4
   simp at d4
   have hz5 : b0 < w5.heap.size := X5.out.lt
   by_cases hlt : k < N
   ·have i0 : (k : Int) < (N : Int) := by omega
    have BA : Hid (Below w5.heap.size w5 (w5.alloc (Obj.cells #[.int .u64 0] 118))) := blA _ _
    have OA := kide (oww_later O5.out BA.out)
    have XA := kide (X5.out.later BA.out)
    have YA := kide (Y5.out.later BA.out)
    have ZA := kide (Z5.out.later BA.out)
    have GA : Hid (w.grownBy (w5.alloc (Obj.cells #[.int .u64 0] 118)) (some gA)) := grown_own G5.out (World.grownBy_alloc _ _ none) (fun k e => by cases e)
    obtain ⟨zs, hzs⟩ : ∃ zs, ws ++ List.replicate (k - n) 0 = zs := ⟨_, rfl⟩
    have hzl : zs.length = k := by rw [← hzs, List.length_append, HN.out]; simp; omega
    have hll : zs.length ≤ 1073741824 := by omega
    rw [hzs] at OA
    have HZS := kide hzs
    have HZL := kide hzl
    clear hzs hzl
    have hsz : B ≤ w5.heap.size + 1 := by have := G5.out.size; omega
    have q0 : (w5.alloc (Obj.cells #[.int .u64 0] 118)).cell? ⟨w5.heap.size, 0, none⟩ = some (.int .u64 ((0 : Nat) : Int)) := by simp
    go_wp2_with (at_builtin; refine wpList_appW1 rfl _ _ rfl B _ zs 0 rfl OA.out _ _ rfl q0 hll (by simpa using hsz) ?_)
    intro g6 c6 w6 ho6 hg6 hl6
    rw [HZL.out] at ho6 ⊢
    have X6 := kide (bz_oww XA.out OA.out (by decide) hg6)
    have Y6 := kide (bz_oww YA.out OA.out (by decide) hg6)
    have Z6 := kide (bz_oww ZA.out OA.out (by decide) hg6)
    have G6 : Hid (w.grownBy w6 (some gA)) := grown_own GA.out hg6 (fun q e => by
     cases e
     rcases HGL.out with h9 | h9
     ·exact .inl (by rw [h9])
     ·exact .inr h9)
    have O6 : Hid (OwW w6 B (.slice (some ⟨g6, 0, none⟩) (k + 1) c6) (ws ++ List.replicate (k + 1 - n) 0)) := by
     show OwW _ _ _ _
     rw [show k + 1 - n = k - n + 1 by omega, List.replicate_succ', ← List.append_assoc, HZS.out]
     exact ho6
    have L6 : Hid (g6 = gA ∨ w.heap.size ≤ g6) := by
     rcases hl6 with h9 | h9
     ·cases h9; exact HGL.out
     ·right; rw [h9]; have := G5.out.size; simp; omega
    have e4 := X6.out.cell 4
    have e5 := X6.out.froz 4
    simp at e4
    clear ho6 hg6 hl6 OA XA YA ZA GA BA q0 hll
    go_wp2_with fail
    have X7 := kide (X6.out.set 4 (.slice (some ⟨g6, 0, none⟩) (k + 1) c6))
    go_roundw
    case rel => exact ⟨k + 1, c6, g6, by omega, by omega, X7.out, oww_set O6.out X6.out (by decide) _, L6.out, Y6.out.other (by omega) 4 _, Z6.out.other (by omega) 4 _, grown_own G6.out (gsc3 w6 ⟨b0, 4, none⟩ _) (fun q e => by cases e; right; rw [HB0.out]; exact Nat.le_refl _)⟩
    case measure =>
     have h9 : lenC (w6.setCell ⟨b0, 4, none⟩ (.slice (some ⟨g6, 0, none⟩) (k + 1) c6)) b0 4 = k + 1 := by
      have := X7.out.cell 4
      unfold lenC
      rw [this]
      rfl
     have h8 := HLC.out
     rw [h9, h8]
     omega
   ·obtain rfl : k = N := by omega
    have d0 := X5.out.cell 0
    have d1 := X5.out.cell 1
    have d2 := X5.out.cell 2
    have d3 := X5.out.cell 3
    have y3 := Y5.out.cell 3
    have y4 := Y5.out.cell 4
    simp at d0 d1 d2 d3 y3 y4
    have i0 : ¬ (k : Int) < (k : Int) := by omega
    obtain ⟨zs, hzs⟩ : ∃ zs, ws ++ List.replicate (k - n) 0 = zs := ⟨_, rfl⟩
    have hzl : zs.length = k := by rw [← hzs, List.length_append, HN.out]; simp; omega
    have hws : ∀ x ∈ ws, x < 18446744073709551616 := HS.out.2.2.1
    have hws2 : ∀ x ∈ ws2, x < 18446744073709551616 := HT.out.2.2.1
    obtain ⟨D, hD⟩ : ∃ D : Nat, wd = (D : Int) := ⟨wd.toNat, by omega⟩
    obtain ⟨E, hE⟩ : ∃ E : Nat, wd2 = (E : Int) := ⟨wd2.toNat, by omega⟩
    have hr1 : rightB (D : Int) ws = true := by rw [← hD]; exact HR1.out
    have hr2 : rightB (E : Int) ws2 = true := by rw [← hE]; exact HR2.out
    have hlen : (ws ++ List.replicate (k - n) 0).length = (D + E + 63) / 64 := by rw [hzs, hzl]; omega
    have hpj := put_joined (m := k - n) hr1 hr2 hws hws2 hlen
    rw [hzs] at hpj hlen O5
    have hq : ∀ p, bv = some p → p.block ≠ gA ∧ p.block < w.heap.size := fun p hp => by
     refine ⟨fun e => HNE.out _ p rfl hp e.symm, ?_⟩
     subst hp
     rcases HT0.out.2.2 with h9 | ⟨b, o, e, hc⟩
     ·have h8 := (right_W HR2.out).2.2; rw [h9] at h8; simp at h8; omega
     ·cases e; exact block_lt_of_cell (hc 0 (by have h8 := (right_W HR2.out).2.2; omega))
    have hrd : Rd w5 bv ws2 := rd_gr HT0.out G5.out (fun p hp e => (hq p hp).1 (by cases e; rfl))
    have hpb := putBitsP_any c (wd + wd2) wd2 g c cb D bv zs ws2 w5 (Owp.ofW O5.out).1 hrd (fun x hx => by
     rw [← hzs] at hx
     rcases List.mem_append.1 hx with h9 | h9
     ·exact hws x h9
     ·have := List.eq_of_mem_replicate h9; omega) (by omega) (by omega) (by have := HN2.out; omega) (put_fit hr2 hws2 D zs.length (by omega)) (fun x hx e => by
     have h8 := hq x hx
     rcases HGL.out with h9 | h9
     ·exact h8.1 (by rw [e, h9])
     ·omega)
    rw [hzl, HN2.out, ← hD] at hpb
    rw [HN2.out] at hpj
    have HPB := kide hpb
    have HPJ := kide hpj
    have HZL := kide hzl
    have hDE := kide (And.intro hD hE)
    clear hzs hzl hws hws2 hD hE hr1 hr2 hlen hpj hq hrd hpb
    go_wp2_with fail
    refine Calls.mono HPB.out ?_
    rintro e w6 ⟨rfl, ho6, hg6⟩
    have X6 := kide (bz_oww X5.out O5.out (by decide) hg6)
    have Z6 := kide (bz_oww Z5.out O5.out (by decide) hg6)
    have O6 : Hid (OwW w6 B (.slice (some ⟨g, 0, none⟩) k c) (pack (bitsTo ws D ++ bitsTo ws2 E))) := by
     show OwW _ _ _ _
     rw [← HPJ.out]
     exact OwW.put O5.out ho6 (putTo_len _ _ _ _ _)
    have G6 : Hid (w.grownBy w6 (some gA)) := grown_own G5.out hg6 (fun q e => by
     cases e
     rcases HGL.out with h9 | h9
     ·exact .inl (by rw [h9])
     ·exact .inr h9)
    have r0 := X6.out.cell 0
    have r1 := X6.out.cell 1
    have r2 := X6.out.cell 2
    have r3 := X6.out.cell 3
    have r4 := X6.out.cell 4
    have z0 := Z6.out.cell 0
    have z1 := Z6.out.cell 1
    have z2 := Z6.out.cell 2
    have z3 := Z6.out.cell 3
    have z4 := Z6.out.cell 4
    have s0 := Z6.out.froz 0
    have s1 := Z6.out.froz 1
    have s2 := Z6.out.froz 2
    have s3 := Z6.out.froz 3
    have s4 := Z6.out.froz 4
    simp at r0 r1 r2 r3 r4 z0 z1 z2 z3 z4
    clear ho6 hg6 d0 d1 d2 d3 d4 y3 y4 f4
    go_wp2_with fail
    have XZ := kide ((((((Z6.out.set 0 (.int .i64 (-1))).set 1 (.int .i64 lo)).set 2 (.int .i64 (wd + wd2))).set 3 (.int .i64 (wd + wd2))).set 4 (.slice (some ⟨g, 0, none⟩) k c)))
    have OZ := kide ((oww_set (i := 4) (oww_set (i := 3) (oww_set (i := 2) (oww_set (i := 1) (oww_set (i := 0) O6.out Z6.out (by decide) (.int .i64 (-1))) (Z6.out.set 0 (.int .i64 (-1))) (by decide) (.int .i64 lo)) ((Z6.out.set 0 (.int .i64 (-1))).set 1 (.int .i64 lo)) (by decide) (.int .i64 (wd + wd2))) (((Z6.out.set 0 (.int .i64 (-1))).set 1 (.int .i64 lo)).set 2 (.int .i64 (wd + wd2))) (by decide) (.int .i64 (wd + wd2))) ((((Z6.out.set 0 (.int .i64 (-1))).set 1 (.int .i64 lo)).set 2 (.int .i64 (wd + wd2))).set 3 (.int .i64 (wd + wd2))) (by decide) (.slice (some ⟨g, 0, none⟩) k c)))
    have GZ := kide ((grown_own (grown_own (grown_own (grown_own (grown_own G6.out (gsc3 w6 ⟨b0 + 1 + 1, 0, none⟩ (.int .i64 (-1))) (fun q e => by cases e; right; have := HB0.out; simp only []; omega)) (gsc3 (w6.setCell ⟨b0 + 1 + 1, 0, none⟩ (.int .i64 (-1))) ⟨b0 + 1 + 1, 1, none⟩ (.int .i64 lo)) (fun q e => by cases e; right; have := HB0.out; simp only []; omega)) (gsc3 ((w6.setCell ⟨b0 + 1 + 1, 0, none⟩ (.int .i64 (-1))).setCell ⟨b0 + 1 + 1, 1, none⟩ (.int .i64 lo)) ⟨b0 + 1 + 1, 2, none⟩ (.int .i64 (wd + wd2))) (fun q e => by cases e; right; have := HB0.out; simp only []; omega)) (gsc3 (((w6.setCell ⟨b0 + 1 + 1, 0, none⟩ (.int .i64 (-1))).setCell ⟨b0 + 1 + 1, 1, none⟩ (.int .i64 lo)).setCell ⟨b0 + 1 + 1, 2, none⟩ (.int .i64 (wd + wd2))) ⟨b0 + 1 + 1, 3, none⟩ (.int .i64 (wd + wd2))) (fun q e => by cases e; right; have := HB0.out; simp only []; omega)) (gsc3 ((((w6.setCell ⟨b0 + 1 + 1, 0, none⟩ (.int .i64 (-1))).setCell ⟨b0 + 1 + 1, 1, none⟩ (.int .i64 lo)).setCell ⟨b0 + 1 + 1, 2, none⟩ (.int .i64 (wd + wd2))).setCell ⟨b0 + 1 + 1, 3, none⟩ (.int .i64 (wd + wd2))) ⟨b0 + 1 + 1, 4, none⟩ (.slice (some ⟨g, 0, none⟩) k c)) (fun q e => by cases e; right; have := HB0.out; simp only []; omega)))
    have k0 := XZ.out.cell 0
    have k1 := XZ.out.cell 1
    have k2 := XZ.out.cell 2
    have k3 := XZ.out.cell 3
    have k4 := XZ.out.cell 4
    simp at k0 k1 k2 k3 k4
    have e2 : oneS ⟨-1, lo, wd, wd, ws⟩ ⟨v2, lo2, wd2, wd2, ws2⟩ = ⟨-1, 0, wd + wd2, wd + wd2, pack (bitsTo ws D ++ bitsTo ws2 E)⟩ := by
     obtain ⟨h8, h9⟩ := hDE.out
     unfold oneS
     rw [if_pos rfl, h8, h9]
     simp
    exact bodyPost_ret (v := .agg #[.int .i64 (-1), .int .i64 lo, .int .i64 (wd + wd2), .int .i64 (wd + wd2), .slice (some ⟨g, 0, none⟩) k c]) (by simp [results, Tryz.results88, go_sem, k0, k1, k2, k3, k4]) rfl ⟨.slice (some ⟨g, 0, none⟩) k c, by rw [e2, HLO.out], by rw [e2]; exact OZ.out, fun q e => by
     cases e
     rcases HGL.out with h9 | h9
     ·exact .inl (by rw [h9]; rfl)
     ·exact .inr h9, GZ.out⟩
 ·have e1 : (v == -1) = false := by simp [hv]
  have e2 : oneS ⟨v, lo, wd, bw, ws⟩ ⟨v2, lo2, wd2, bw2, ws2⟩ = ⟨v, lo, wd + wd2, 0, []⟩ := if_neg hv
  have e3 : bw = 0 ∧ ws = [] := by
   rcases HS.out.2.2.2 with h3 | h3
   ·exact absurd h3.1 hv
   ·exact h3.2
  obtain ⟨rfl, rfl⟩ := e3
  have HE2 := kide e2
  clear e2
  go_wp2_with fail
  refine bodyPost_ret (v := .agg #[.int .i64 v, .int .i64 lo, .int .i64 (wd + wd2), .int .i64 0, .slice av n ca]) (by simp [results, Tryz.results88, go_sem]) rfl ⟨.slice av n ca, by rw [HE2.out], ?_, fun k hk => .inl hk, ?_⟩
  ·rw [HE2.out]
   exact oww_later HA0.out (((blA _ _).alloc (by simp) _).alloc (by simp; omega) _)
  ·exact World.grownBy.trans (World.grownBy.trans (World.grownBy_alloc _ _ _) (World.grownBy_alloc _ _ _)) (World.grownBy_alloc _ _ _)

theorem oww_low {w : World} {B B' : Nat} {v : Value} {l : List Nat} (h : OwW w B v l) (hB : B' ≤ B) : OwW w B' v l := by
 obtain ⟨h1, h2⟩ := h
 refine ⟨h1, ?_⟩
 rcases h2 with h2 | ⟨g, cap, cur, rfl, hg, hh, r⟩
 ·exact .inl h2
 ·exact .inr ⟨g, cap, cur, rfl, by omega, hh, r⟩
set_option maxHeartbeats 4000000 in
set_option maxRecDepth 100000 in
theorem copyO (bw : Int) (wa : Option Addr) (c n : Nat) (ws : List Nat) (w : World) (hr : Rd w wa ws) (hn : ws.length = n) (hw0 : wa = none → c = 0) :
  Calls Tryz.prog 61 #[.agg #[.int .i64 bw, .slice wa n c]] w fun e w' => ∃ a2 c2, e = .returned (.agg #[.int .i64 bw, .slice a2 n c2]) ∧ OwW w' w.heap.size (.slice a2 n c2) ws ∧ Below w.heap.size w w' := by
 have hb2 : Below w.heap.size w ((w.alloc (Obj.cells #[.int .i64 bw, .slice wa n c] 65)).alloc (Obj.cells #[.int .i64 0, .slice none 0 0] 65)) := (blA _ _).alloc (by simp) _
 have hr2 := hr.later hb2
 have XP := kide (Bz.later (Bz.new w #[.int .i64 bw, .slice wa n c] 65) ((Below.refl _ _).alloc (Nat.le_refl _) (Obj.cells #[.int .i64 0, .slice none 0 0] 65)))
 have XR : Hid (Bz ((w.alloc (Obj.cells #[.int .i64 bw, .slice wa n c] 65)).alloc (Obj.cells #[.int .i64 0, .slice none 0 0] 65)) (w.heap.size + 1) #[.int .i64 0, .slice none 0 0] 65) := by
  have h9 := Bz.new (w.alloc (Obj.cells #[.int .i64 bw, .slice wa n c] 65)) #[.int .i64 0, .slice none 0 0] 65
  rw [show (w.alloc (Obj.cells #[.int .i64 bw, .slice wa n c] 65)).heap.size = w.heap.size + 1 by simp] at h9
  exact h9
 have hlW : Hid (w.heap.size + 2 ≤ ((w.alloc (Obj.cells #[.int .i64 bw, .slice wa n c] 65)).alloc (Obj.cells #[.int .i64 0, .slice none 0 0] 65)).heap.size) := by show _ ≤ _; simp
 have hl := hr2.1
 have HC := kide (fun u (hu : Below w.heap.size w u) => hr.later hu)
 have HN := kide hn
 have BW := kide hb2
 clear hr hr2 hb2
 go_enter Tryz.func61, Tryz.ntmps61
 go_wp2_with fail
 generalize ((w.alloc (Obj.cells #[.int .i64 bw, .slice wa n c] 65)).alloc (Obj.cells #[.int .i64 0, .slice none 0 0] 65)) = W at *
 obtain ⟨b0, hb0⟩ : ∃ b0, w.heap.size = b0 := ⟨_, rfl⟩
 rw [hb0] at XP XR hlW
 simp only [hb0]
 have HB0 := kide hb0
 clear hb0
 refine wp_region_x (SA := fun _ => False) (SB := fun uu => uu.cell? ⟨b0, 0, none⟩ = some (Value.int .i64 bw) ∧ uu.cell? ⟨b0, 1, none⟩ = some (Value.slice wa n c)) (k := 999) (by kernel_rfl) ?_
 have hbd : Below W.heap.size W W.drew := (Below.refl _ _).drew
 have XP0 := kide (XP.out.later hbd)
 have XR0 := kide (XR.out.later hbd)
 have hu0 := kide hbd
 clear hbd
 generalize W.drew = u0 at *
 have c0_0 : u0.cell? ⟨b0, 0, none⟩ = some (Value.int .i64 bw) := XP0.out.cell 0
 have c1_0 : u0.cell? ⟨b0, 1, none⟩ = some (Value.slice wa n c) := XP0.out.cell 1
 have hs0 : Hid ((fun uu => uu.cell? ⟨b0, 0, none⟩ = some (Value.int .i64 bw) ∧ uu.cell? ⟨b0, 1, none⟩ = some (Value.slice wa n c)) u0) := ⟨c0_0, c1_0⟩
 try go_simp
 refine tkU (i := 0) (v := Value.pointer (some ⟨b0, 0, none⟩)) rfl (Sx.behind (by kernel_rfl) hs0.out) ?_
 try go_simp
 refine tkS (i := 1) (v := Value.int .i64 bw) rfl hs0.out (fun uu hu => by obtain ⟨e0, e1⟩ := hu; go_simp) ?_
 try go_simp
 refine tkU (i := 2) (v := Value.pointer (some ⟨b0, 1, none⟩)) rfl (Sx.behind (by kernel_rfl) hs0.out) ?_
 try go_simp
 refine tkS (i := 3) (v := Value.slice wa n c) rfl hs0.out (fun uu hu => by obtain ⟨e0, e1⟩ := hu; go_simp) ?_
 try go_simp
 refine rdX (rs := [4]) (cnB rfl (fun K hK => ?_) AllX.nil)
 refine step_appWr _ rfl _ _ rfl W.heap.size (.slice none 0 0) [] ws (by first | rfl | simp [Act.eval]) (OwW.nils _ _) wa c (by rw [HN.out]; first | rfl | simp [Act.eval]) hw0 (HC.out _ (BW.out.trans (hu0.out.mono BW.out.size))) (by simp; omega) hu0.out.size ?_
 intro v5 u1 how hgr
 obtain ⟨a5, c5, rfl, hn5⟩ := how.shape
 have hbg : Below W.heap.size u0 u1 := Below.grown (Below.refl _ _) hgr hu0.out.size (fun j hj => by cases hj)
 have NN1 := kide how
 have XP1 : Hid (Bz u1 b0 #[.int .i64 bw, .slice wa n c] 65) := (hbg.block b0 (by have := hlW.out; omega)).trans XP0.out
 have XR1 : Hid (Bz u1 (b0 + 1) #[.int .i64 0, .slice none 0 0] 65) := (hbg.block (b0 + 1) (by have := hlW.out; omega)).trans XR0.out
 have hu1 := kide (hu0.out.trans hbg)
 rw [List.nil_append, HN.out]
 rw [List.nil_append, HN.out] at NN1
 clear how hgr hbg hn5
 have c0_1 : u1.cell? ⟨b0, 0, none⟩ = some (Value.int .i64 bw) := XP1.out.cell 0
 have c1_1 : u1.cell? ⟨b0, 1, none⟩ = some (Value.slice wa n c) := XP1.out.cell 1
 have hs1 : Hid ((fun uu => uu.cell? ⟨b0, 0, none⟩ = some (Value.int .i64 bw) ∧ uu.cell? ⟨b0, 1, none⟩ = some (Value.slice wa n c)) u1) := ⟨c0_1, c1_1⟩
 refine hK _ _ hs1.out ?_
 clear hK K
 try go_simp
 refine tkU (i := 5) (v := Value.agg #[.int .i64 bw, .slice a5 n c5]) rfl (Sx.behind (by kernel_rfl) hs1.out) ?_
 try go_simp
 refine rdX (rs := [6]) (cnB rfl (fun K hK => ?_) AllX.nil)
 have e0 : u1.cell? ⟨b0 + 1, 0, none⟩ = some (Value.int .i64 0) := XR1.out.cell 0
 have e1 : u1.cell? ⟨b0 + 1, 1, none⟩ = some (Value.slice none 0 0) := XR1.out.cell 1
 have f0 := XR1.out.froz 0
 have f1 := XR1.out.froz 1
 go_simp
 have XR2 : Hid (Bz ((u1.setCell ⟨b0 + 1, 0, none⟩ (Value.int .i64 bw)).setCell ⟨b0 + 1, 1, none⟩ (Value.slice a5 n c5)) (b0 + 1) #[.int .i64 bw, .slice a5 n c5] 65) := (XR1.out.set 0 _).set 1 _
 have XP2 : Hid (Bz ((u1.setCell ⟨b0 + 1, 0, none⟩ (Value.int .i64 bw)).setCell ⟨b0 + 1, 1, none⟩ (Value.slice a5 n c5)) b0 #[.int .i64 bw, .slice wa n c] 65) := (XP1.out.other (by omega) 0 _).other (by omega) 1 _
 have NN2 : Hid (OwW ((u1.setCell ⟨b0 + 1, 0, none⟩ (Value.int .i64 bw)).setCell ⟨b0 + 1, 1, none⟩ (Value.slice a5 n c5)) W.heap.size (.slice a5 n c5) ws) := oww_set (i := 1) (oww_set (i := 0) NN1.out XR1.out (by decide) _) (XR1.out.set 0 (Value.int .i64 bw)) (by decide) _
 have BB2 : Hid (Below w.heap.size w ((u1.setCell ⟨b0 + 1, 0, none⟩ (Value.int .i64 bw)).setCell ⟨b0 + 1, 1, none⟩ (Value.slice a5 n c5))) := ((BW.out.trans (hu1.out.mono BW.out.size)).setCell (by rw [HB0.out]; exact Nat.le_succ _) _).setCell (by rw [HB0.out]; exact Nat.le_succ _) _
 clear e0 e1 f0 f1
 generalize (u1.setCell ⟨b0 + 1, 0, none⟩ (Value.int .i64 bw)).setCell ⟨b0 + 1, 1, none⟩ (Value.slice a5 n c5) = u2 at *
 have c0_2 : u2.cell? ⟨b0, 0, none⟩ = some (Value.int .i64 bw) := XP2.out.cell 0
 have c1_2 : u2.cell? ⟨b0, 1, none⟩ = some (Value.slice wa n c) := XP2.out.cell 1
 have hs2 : Hid ((fun uu => uu.cell? ⟨b0, 0, none⟩ = some (Value.int .i64 bw) ∧ uu.cell? ⟨b0, 1, none⟩ = some (Value.slice wa n c)) u2) := ⟨c0_2, c1_2⟩
 refine hK _ _ hs2.out ?_
 clear hK K
 try go_simp
 refine wpAnyX_done (by kernel_rfl) ?_ _
 go_wp2_with fail
 have y0 : u2.cell? ⟨b0 + 1, 0, none⟩ = some (Value.int .i64 bw) := XR2.out.cell 0
 have y1 : u2.cell? ⟨b0 + 1, 1, none⟩ = some (Value.slice a5 n c5) := XR2.out.cell 1
 exact bodyPost_ret (v := Value.agg #[.int .i64 bw, .slice a5 n c5]) (by simp [results, Tryz.results61, go_sem, y0, y1]) rfl ⟨a5, c5, rfl, oww_low NN2.out (by have := hlW.out; have := HB0.out; omega), BB2.out⟩

def sgc : List Sg → List Value
 | [] => []
 | x :: t => .int .i64 x.ct.v :: .int .i64 x.ct.lo :: .int .i64 x.ct.wd :: .int .i64 x.ct.bw :: .slice x.a x.ct.ws.length x.c :: sgc t
theorem sgc_len (l : List Sg) : (sgc l).length = l.length * 5 := by
 induction l with
 | nil => rfl
 | cons x t ih => simp [sgc, ih]; omega
theorem sgc_append (l m : List Sg) : sgc (l ++ m) = sgc l ++ sgc m := by
 induction l with
 | nil => rfl
 | cons x t ih => simp [sgc, ih]
theorem Tryz.infoSeg9 : (Tryz.prog.info? 73).map (fun i => (i.zero, i.size, i.bytes)) = some (some (.agg #[.int .i64 0, .int .i64 0, .int .i64 0, .int .i64 0, .slice none 0 0]), 5, 56) := by kernel_rfl
def OS5 (w : World) (B : Nat) (v : Value) (l : List Sg) : Prop := w.ownsRow B 73 5 v l.length (sgc l)
theorem OS5.later {w w' : World} {B : Nat} {v : Value} {l : List Sg} (h : OS5 w B v l) (hb : Below w.heap.size w w') : OS5 w' B v l := World.ownsRow.kept (row := none) h ⟨hb.os, hb.tape, hb.output, hb.size, fun k hk _ => hb.block k hk⟩ (by
 cases h' : v.ownBlock with
 | none => exact .inl rfl
 | some k => exact .inr (by simp))
theorem OS5.lt {w : World} {B : Nat} {v : Value} {l : List Sg} (h : OS5 w B v l) {b : Nat} (hb : v.ownBlock = some b) : B ≤ b ∧ b < w.heap.size := by
 rcases h.2 with ⟨rfl, -⟩ | ⟨g, cap, cur, rfl, hg, hh, -⟩
 ·cases hb
 ·cases hb
  exact ⟨hg, lt_of_block hh⟩
theorem OS5.typed {w : World} {B : Nat} {v : Value} {l : List Sg} (h : OS5 w B v l) {b : Nat} (hb : v.ownBlock = some b) : ∃ cur, w.heap[b]? = some (.cells cur 73 (0, 0)) := by
 rcases h.2 with ⟨rfl, -⟩ | ⟨g, cap, cur, rfl, hg, hh, -⟩
 ·cases hb
 ·cases hb
  exact ⟨cur, hh⟩
theorem OS5.nil (w : World) (B : Nat) : OS5 w B (.slice none 0 0) [] := ⟨rfl, .inl ⟨rfl, rfl⟩⟩
theorem OS5.move {w w' : World} {B : Nat} {v : Value} {l : List Sg} (h : OS5 w B v l) (hk : ∀ b, v.ownBlock = some b → w'.heap[b]? = w.heap[b]?) : OS5 w' B v l := by
 refine ⟨h.1, ?_⟩
 rcases h.2 with h0 | ⟨g, cap, cur, rfl, hg, hh, r⟩
 ·exact .inl h0
 ·exact .inr ⟨g, cap, cur, rfl, hg, (hk g rfl).trans hh, r⟩
theorem OS5.form {w : World} {B : Nat} {v : Value} {l : List Sg} (h : OS5 w B v l) : ∃ a c, v = .slice a l.length c := by
 rcases h.2 with ⟨e, h0⟩ | ⟨g, cap, cur, e, -⟩
 ·exact ⟨none, 0, by rw [e, h0]⟩
 ·exact ⟨_, _, e⟩
theorem OS5.empty (w : World) (B : Nat) (h : B ≤ w.heap.size) : OS5 (w.alloc (.cells #[] 73)) B (.slice (some ⟨w.heap.size, 0, Option.none⟩) 0 0) [] := World.ownsRow_made w #[] 0 h (Nat.zero_le _) (by simp)
theorem step_appS5 (w : World) {ops : Array Oper} {o : Oper} {a : Act} {K : Act → World → Prop} {Q : Exit → Act → World → Prop} {E : Prop} (hgd : o.guard = none) (s x : Operand)
  (ho : o.op = .call { callee := .builtin .append, args := #[s, x], argTypes := #[45, 45] })
  (B : Nat) (v : Value) (l : List Sg) (y : Sg) (hs : a.eval s = v) (hown : OS5 w B v l) (gx c : Nat) (hx : a.eval x = .slice (some ⟨gx, 0, none⟩) 1 c)
  (h0 : w.cell? ⟨gx, 0, none⟩ = some (.int .i64 y.ct.v)) (h1 : w.cell? ⟨gx, 1, none⟩ = some (.int .i64 y.ct.lo)) (h2 : w.cell? ⟨gx, 2, none⟩ = some (.int .i64 y.ct.wd)) (h3 : w.cell? ⟨gx, 3, none⟩ = some (.int .i64 y.ct.bw)) (h4 : w.cell? ⟨gx, 4, none⟩ = some (.slice y.a y.ct.ws.length y.c)) (hl : l.length ≤ 1073741824) (hB : B ≤ w.heap.size)
  (h : ∀ g cap w', OS5 w' B (.slice (some ⟨g, 0, none⟩) (l.length + 1) cap) (l ++ [y]) → w.grownBy w' v.ownBlock → K (a.put o.dst (.slice (some ⟨g, 0, none⟩) (l.length + 1) cap)) w') :
  if Region.wanted o (yielded ops a.tmps) = true then Oper.wp Tryz.prog o a w K Q else E := by
 obtain ⟨i0, hi, hz0, hz1, hz2⟩ := info_parts Tryz.infoSeg9
 refine step_append_lies w hgd s x 45 ho B 73 i0 _ 5 56 Tryz.underlying45 hi hz0 hz1 hz2 rfl (by decide) v l.length (sgc l) hs hown ⟨gx, 0, none⟩ 1 c (sgc [y]) hx rfl ?_ ?_ (by decide) ?_ ?_ hB _ rfl ?_
 ·intro j u hj
  rw [Addr.add_lit]
  match j, hj with
  | 0, hj => simp [sgc] at hj; subst hj; exact h0
  | 1, hj => simp [sgc] at hj; subst hj; exact h1
  | 2, hj => simp [sgc] at hj; subst hj; exact h2
  | 3, hj => simp [sgc] at hj; subst hj; exact h3
  | 4, hj => simp [sgc] at hj; subst hj; exact h4
  | j + 5, hj => simp [sgc] at hj
 ·intro u hu
  simp [sgc] at hu
  rcases hu with rfl | rfl | rfl | rfl | rfl <;> rfl
 ·unfold maxLen; omega
 ·omega
 ·intro g cap w' h1 h2 _ _
  refine h g cap w' ?_ h2
  unfold OS5
  rw [sgc_append, List.length_append]
  exact h1
theorem wpList_appS5 {w : World} {ops : Array Oper} {rest : List Oper} {o : Oper} {a : Act} {Q : Exit → Act → World → Prop} (hgd : o.guard = none) (s x : Operand)
  (ho : o.op = .call { callee := .builtin .append, args := #[s, x], argTypes := #[45, 45] })
  (B : Nat) (v : Value) (l : List Sg) (y : Sg) (hs : a.eval s = v) (hown : OS5 w B v l) (gx c : Nat) (hx : a.eval x = .slice (some ⟨gx, 0, none⟩) 1 c)
  (h0 : w.cell? ⟨gx, 0, none⟩ = some (.int .i64 y.ct.v)) (h1 : w.cell? ⟨gx, 1, none⟩ = some (.int .i64 y.ct.lo)) (h2 : w.cell? ⟨gx, 2, none⟩ = some (.int .i64 y.ct.wd)) (h3 : w.cell? ⟨gx, 3, none⟩ = some (.int .i64 y.ct.bw)) (h4 : w.cell? ⟨gx, 4, none⟩ = some (.slice y.a y.ct.ws.length y.c)) (hl : l.length ≤ 1073741824) (hB : B ≤ w.heap.size)
  (h : ∀ g cap w', OS5 w' B (.slice (some ⟨g, 0, none⟩) (l.length + 1) cap) (l ++ [y]) → w.grownBy w' v.ownBlock → wpList Tryz.prog ops Q rest (a.put o.dst (.slice (some ⟨g, 0, none⟩) (l.length + 1) cap)) w') : wpList Tryz.prog ops Q (o :: rest) a w := by
 obtain ⟨i0, hi, hz0, hz1, hz2⟩ := info_parts Tryz.infoSeg9
 refine wpList_append_lies w hgd s x 45 ho B 73 i0 _ 5 56 Tryz.underlying45 hi hz0 hz1 hz2 rfl (by decide) v l.length (sgc l) hs hown ⟨gx, 0, none⟩ 1 c (sgc [y]) hx rfl ?_ ?_ (by decide) ?_ ?_ hB _ rfl ?_
 ·intro j u hj
  rw [Addr.add_lit]
  match j, hj with
  | 0, hj => simp [sgc] at hj; subst hj; exact h0
  | 1, hj => simp [sgc] at hj; subst hj; exact h1
  | 2, hj => simp [sgc] at hj; subst hj; exact h2
  | 3, hj => simp [sgc] at hj; subst hj; exact h3
  | 4, hj => simp [sgc] at hj; subst hj; exact h4
  | j + 5, hj => simp [sgc] at hj
 ·intro u hu
  simp [sgc] at hu
  rcases hu with rfl | rfl | rfl | rfl | rfl <;> rfl
 ·unfold maxLen; omega
 ·omega
 ·intro g cap w' h1 h2 _ _
  refine h g cap w' ?_ h2
  unfold OS5
  rw [sgc_append, List.length_append]
  exact h1

theorem take_step {ps : List Ib} {i k : Nat} {q : Ib} (hik : i ≤ k) (hq : ps[k]? = some q) : (ps.drop i).take (k + 1 - i) = (ps.drop i).take (k - i) ++ [q] := by
 rw [show k + 1 - i = (k - i) + 1 by omega, List.take_add_one, List.getElem?_drop, show i + (k - i) = k by omega, hq]
 rfl
def Ss (w : World) (B : Nat) (v : Value) (l : List Sg) : Prop := OS5 w B v l ∧ ∀ x ∈ l, Nw w B x.a x.ct.ws
theorem Ss.later {w w' : World} {B : Nat} {v : Value} {l : List Sg} (h : Ss w B v l) (hb : Below w.heap.size w w') : Ss w' B v l := ⟨h.1.later hb, fun x hx => (h.2 x hx).later hb⟩

theorem ibc_ints : ∀ (l : List (Int × Int)) (u : Value), u ∈ ibc l → ∃ x : Int, u = .int .i64 x
 | [], u, h => by simp [ibc] at h
 | p :: t, u, h => by
  simp [ibc] at h
  rcases h with rfl | rfl | h
  ·exact ⟨_, rfl⟩
  ·exact ⟨_, rfl⟩
  ·exact ibc_ints t u h
end Go.Proofs.YtnpjgoklpaigjaaGreatDoor
