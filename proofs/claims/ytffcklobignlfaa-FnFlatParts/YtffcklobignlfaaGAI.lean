/- Several texts in one. -/
import Derived.Test.YtffcklobignlfaaGAH
import Derived.Handy
import Derived.Test.YtffcklobignlfaaGAF
import Derived.Deep.RegionWith
import Derived.Test.YtffcklobignlfaaRX
import Derived.Deep.RegionLaw
import Derived.Deep.AppendLies
namespace Go.Proofs.Ytffcklobignlfaa
open Go.RowKit
set_option linter.unusedVariables false
set_option linter.unusedSimpArgs false
open Go.RowKit Go.WideMaps Go.Maps
set_option maxHeartbeats 1000000 in
theorem totalWidth_any (a : Option Addr) (c : Nat) (ds : List Dc) (w : World) (hr : RdD w a ds) (h60 : ds.length ≤ 60) (hok : ∀ d ∈ ds, dcOk d = true) :
  Calls Try.prog 59 #[.slice a ds.length c] w fun e w' => e = .returned (.int .i64 (sumW ds)) ∧ Below w.heap.size w w' := by
 have HLN := kide hr.1
 have HALL := kide hok
 go_enter Try.func59, Try.ntmps59
 clear hok
 go_wp2_with fail
 go_loopw [3, 8] (fun q i wr => ∃ k : Nat, k ≤ ds.length ∧ i = .int .i64 (k : Int) ∧ q = .int .i64 (sumW (ds.take k)) ∧ Below w.heap.size w wr) (fun _ i _ => ds.length - (intOf i).toNat)
 case atStart => exact ⟨0, Nat.zero_le _, rfl, by simp [sumW], Below.refl _ _⟩
 case round =>
  obtain ⟨k, hk, rfl, rfl, hbel⟩ := hrel
  have HB := kide hbel
  by_cases hlt : k < ds.length
  ·obtain ⟨-, hsz, h | ⟨b, o, rfl, hc⟩⟩ := hr
   ·subst h; simp at hlt
   obtain ⟨⟨t, x⟩, hh⟩ : ∃ x, ds[k] = x := ⟨_, rfl⟩
   have gx : ds[k]? = some (t, x) := by rw [List.getElem?_eq_getElem hlt, hh]
   obtain ⟨p0, p1⟩ := (hc k _ gx).later hbel
   simp only [] at p0 p1
   obtain ⟨hx64, hts⟩ := hsz _ (List.mem_of_getElem? gx)
   simp only [] at hx64 hts
   have i0 : (k : Int) < (ds.length : Int) := by omega
   have hsum := sumW_le (fun d hd => HALL.out d (List.mem_of_mem_take hd) : ∀ d ∈ ds.take k, dcOk d = true)
   have hst := sumW_take gx
   simp only [] at hst
   have htl : (ds.take k).length = k := by simp; omega
   rw [htl] at hsum
   have HST := kide hst
   have hx := (dcOk_iff.1 (HALL.out _ (List.mem_of_getElem? gx))).2
   simp [wOk] at hx
   obtain ⟨hx1, hx2⟩ := hx
   obtain ⟨hs1, hs2⟩ := hsum
   have HA := kide ((HB.out.alloc HB.out.size (Obj.cells #[.string t, .int .i64 x] 62)))
   clear hc gx hh hsz hst htl hbel
   generalize sumW (ds.take k) = Q at *
   go_wp2_with fail
   go_roundw
   case rel =>
    refine ⟨k + 1, by omega, by go_num, ?_, HA.out⟩
    rw [HST.out]
   case measure => simp [intOf]; omega
  ·have e : k = ds.length := by omega
   have HE : Hid (sumW (ds.take k) = sumW ds) := by
    show _ = _
    rw [e, List.take_length]
   generalize sumW (ds.take k) = Q at *
   clear hbel e
   go_wp2_with fail
   go_ret
   exact ⟨by rw [HE.out]; rfl, HB.out⟩
set_option maxHeartbeats 1000000 in
theorem implDecls_any (a : Option Addr) (c : Nat) (ds : List Dc) (w : World) (hr : RdD w a ds) :
  Calls Try.prog 38 #[.slice a ds.length c] w fun e w' => e = .returned (.bool (dclR ds)) ∧ Below w.heap.size w w' := by
 have hlen := hr.1
 by_cases h60 : ds.length ≤ 60
 ·go_enter Try.func38, Try.ntmps38
  go_wp2_with fail
  have HLN := kide hlen
  clear hlen
  go_loopw [10] (fun i wr => ∃ k : Nat, k ≤ ds.length ∧ i = .int .i64 (k : Int) ∧ (∀ d ∈ ds.take k, dcOk d = true) ∧ Below w.heap.size w wr) (fun i _ => ds.length - (intOf i).toNat)
  case atStart => exact ⟨0, Nat.zero_le _, rfl, by simp, Below.refl _ _⟩
  case round =>
   obtain ⟨k, hk, rfl, hok, hbel⟩ := hrel
   have HB := kide hbel
   by_cases hlt : k < ds.length
   ·obtain ⟨-, hsz, h | ⟨b, o, rfl, hc⟩⟩ := hr
    ·subst h; simp at hlt
    obtain ⟨⟨t, x⟩, hh⟩ : ∃ x, ds[k] = x := ⟨_, rfl⟩
    have gx : ds[k]? = some (t, x) := by rw [List.getElem?_eq_getElem hlt, hh]
    obtain ⟨p0, p1⟩ := (hc k _ gx).later hbel
    simp only [] at p0 p1
    obtain ⟨hx64, hts⟩ := hsz _ (List.mem_of_getElem? gx)
    simp only [] at hx64 hts
    have i0 : (k : Int) < (ds.length : Int) := by omega
    have GX := kide gx
    have hsum := sumW_le hok
    have hst := sumW_take gx
    simp only [] at hst
    have htl : (ds.take k).length = k := by simp; omega
    rw [htl] at hsum
    have HST := kide hst
    have HOK := kide hok
    have hN : ∀ u, Calls Try.prog 57 #[.string t] u fun e w' => e = .returned (.bool (nmOk t)) ∧ w' = u := fun u => nameOk_any t hts u
    have hW : ∀ u, Calls Try.prog 58 #[.int .i64 x] u fun e w' => e = .returned (.bool (wOk x)) ∧ w' = u := fun u => widthOk_any x u
    have HN := kide hN
    have HW := kide hW
    have HBAD : Hid (nmOk t = false ∨ wOk x = false → dclR ds = false) := fun h => dclR_bad gx (by rcases h with h | h <;> simp [dcOk, h])
    have HGOOD : Hid (nmOk t = true → wOk x = true → dcOk (t, x) = true) := fun h h' => by simp [dcOk, h, h']
    have hwx : wOk x = true → 1 ≤ x ∧ x ≤ 4096 := fun h => by simpa [wOk] using h
    have HA := kide ((HB.out.alloc HB.out.size (Obj.cells #[.string t, .int .i64 x] 62)))
    clear hN hW hc gx hh hsz hok hst htl hbel
    generalize sumW (ds.take k) = Q at *
    generalize nmOk t = r1 at *
    cases r1 with
    | false =>
     have HR := kide (HBAD.out (.inl (by simp)))
     go_wp2_with (go_at_call 57; refine Calls.mono (HN.out _) ?_; rintro e w1 ⟨rfl, rfl⟩)
     go_ret
     exact ⟨ret_bool HR.out.symm, HA.out⟩
    | true =>
     generalize wOk x = r2 at *
     cases r2 with
     | false =>
      have HR := kide (HBAD.out (.inr (by simp)))
      go_wp2_with (first | (go_at_call 57; refine Calls.mono (HN.out _) ?_; rintro e w1 ⟨rfl, rfl⟩) | (go_at_call 58; refine Calls.mono (HW.out _) ?_; rintro e w1 ⟨rfl, rfl⟩))
      go_ret
      exact ⟨ret_bool HR.out.symm, HA.out⟩
     | true =>
      have hx := hwx (by simp)
      obtain ⟨hx1, hx2⟩ := hx
      obtain ⟨hs1, hs2⟩ := hsum
      have HG := kide (HGOOD.out (by simp) (by simp))
      clear HBAD HGOOD hwx
      go_wp2_with (first | (go_at_call 57; refine Calls.mono (HN.out _) ?_; rintro e w1 ⟨rfl, rfl⟩) | (go_at_call 58; refine Calls.mono (HW.out _) ?_; rintro e w1 ⟨rfl, rfl⟩))
      go_roundw
      case rel =>
       refine ⟨k + 1, by omega, by go_num, ?_, HA.out⟩
       ·intro d hd
        rw [List.take_add_one, GX.out] at hd
        rcases List.mem_append.1 hd with hd | hd
        ·exact HOK.out d hd
        ·simp at hd
         subst hd
         exact HG.out
      case measure => simp [intOf]; omega
   ·have e : k = ds.length := by omega
    rw [e, List.take_length] at hok
    have hs := sumW_le hok
    rw [← List.take_length (l := ds), ← e] at hs
    have HR : Hid (dclR ds = (decide (sumW (ds.take k) ≤ 20000) && decide ((ds.map Prod.fst).Nodup))) := by
     show _ = _
     rw [e, List.take_length]
     rw [Bool.eq_iff_iff, dclR_iff, Bool.and_eq_true, decide_eq_true_eq, decide_eq_true_eq]
     exact ⟨fun h => ⟨h.2.2.1, h.2.2.2⟩, fun h => ⟨h60, hok, h.1, h.2⟩⟩
    have hnm : ∀ d ∈ ds, d.1.size ≤ 1048576 := fun d hd => by
     have := (dcOk_iff.1 (hok d hd)).1
     simp [nmOk] at this
     omega
    have HP := kide (fun u (hu : Below w.heap.size w u) => placesOf_any a c ds u (hr.later hu) hnm)
    have HT := kide (totalWidth_any a c ds wr (hr.later hbel) h60 hok)
    rw [e, List.take_length] at HR hs
    generalize sumW ds = Q at *
    clear hok hbel hs e hnm
    go_wp2_with fail
    refine Calls.mono HT.out ?_
    rintro e wt ⟨rfl, hbt⟩
    have HBT := kide (HB.out.trans (hbt.mono HB.out.size))
    clear hbt
    by_cases hq : Q ≤ 20000
    ·have HR2 : Hid (dclR ds = decide ((ds.map Prod.fst).Nodup)) := by
      show _ = _
      rw [HR.out, decide_eq_true hq]; rfl
     go_wp2_with (go_at_call 60; refine Calls.mono (HP.out _ HBT.out) ?_; rintro e w1 ⟨rfl, ⟨D, hown, hpl⟩, hb1⟩; have hml := fun ty => hown.len Try.underlying99 ty; have HD : Hid (decide ((ds.map Prod.fst).Nodup) = decide (Maps.size D = ds.length)) := (by show _ = _; rw [Bool.eq_iff_iff, decide_eq_true_eq, decide_eq_true_eq, ← hpl.nodup, List.length_map]); have hle := hpl.le; rw [List.length_map] at hle; clear hown hpl; generalize Maps.size D = n at *)
     go_ret
     exact ⟨ret_bool (by rw [HR2.out, HD.out, Bool.eq_iff_iff]; simp; omega), HBT.out.trans (hb1.mono HBT.out.size)⟩
    ·have HR2 : Hid (dclR ds = false) := by
      show _ = _
      rw [HR.out, decide_eq_false hq]; rfl
     go_wp2_with fail
     go_ret
     exact ⟨ret_bool HR2.out.symm, HBT.out⟩
 ·rw [dclR_long (by omega)]
  go_enter Try.func38, Try.ntmps38
  go_wp2_with fail
  go_ret
  exact ⟨rfl, Below.refl _ _⟩

def sgOk (ds : List Dc) (s : Sc) : Bool :=
 if s.v = -1 then decide (s.lo = 0) && decide (s.wd = s.bw) && rightB s.bw s.ws
 else decide (0 ≤ s.v) && decide (s.v < ds.length) && decide (s.bw = 0) && decide (s.ws.length = 0) && decide (1 ≤ s.wd) && decide (0 ≤ s.lo) && decide (s.lo + s.wd ≤ (ds.getD s.v.toNat (.empty, 0)).2)
def oneB (s t : Sc) : Bool := decide (s.v = t.v) && (decide (s.v = -1) || decide (s.lo + s.wd = t.lo))
def flL (ds : List Dc) : Option Sc → List Sc → Bool
 | _, [] => true
 | none, s :: t => sgOk ds s && flL ds (some s) t
 | some q, s :: t => sgOk ds s && !oneB q s && flL ds (some s) t
def sumS : List Sc → Int
 | [] => 0
 | s :: t => s.wd + sumS t
def flatR (ds : List Dc) (fs : List Sc) : Bool := dclR ds && decide (1 ≤ fs.length) && decide (fs.length ≤ 2000) && flL ds none fs && decide (sumS fs ≤ 4096)
theorem rightB_wd {W : Int} {xs : List Nat} (h : rightB W xs = true) : 1 ≤ W ∧ W ≤ 4096 := by
 simp [rightB, wOk] at h
 exact h.1.1
theorem dclR_wd {ds : List Dc} (h : dclR ds = true) {k : Nat} {d : Dc} (hd : ds[k]? = some d) : 1 ≤ d.2 ∧ d.2 ≤ 4096 := (dcOk_iff.1 ((dclR_iff.1 h).2.1 d (List.mem_of_getElem? hd))).2
theorem sgOk_bounds {ds : List Dc} {s : Sc} (hd : dclR ds = true) (h : sgOk ds s = true) : 1 ≤ s.wd ∧ s.wd ≤ 4096 ∧ 0 ≤ s.lo ∧ s.lo ≤ 4096 := by
 unfold sgOk at h
 split at h
 ·simp at h
  have := rightB_wd h.2
  omega
 ·simp at h
  obtain ⟨⟨⟨⟨⟨⟨h1, h2⟩, h3⟩, h4⟩, h5⟩, h6⟩, h7⟩ := h
  have hl : s.v.toNat < ds.length := by omega
  have := dclR_wd hd (List.getElem?_eq_getElem hl)
  rw [List.getElem?_eq_getElem hl, Option.getD_some] at h7
  omega
theorem sgOk_const {ds : List Dc} {s : Sc} (h : s.v = -1) : sgOk ds s = (decide (s.lo = 0) && decide (s.wd = s.bw) && rightB s.bw s.ws) := by rw [sgOk, if_pos h]
theorem sgOk_out {ds : List Dc} {s : Sc} (h : s.v ≠ -1) (h2 : s.v < 0 ∨ (ds.length : Int) ≤ s.v ∨ s.bw ≠ 0 ∨ s.ws.length ≠ 0) : sgOk ds s = false := by
 rw [sgOk, if_neg h, Bool.eq_false_iff]
 intro h'
 simp at h'
 have h8 := h'.1.1.1.2
 rcases h2 with h2 | h2 | h2 | h2
 ·omega
 ·omega
 ·exact h2 h'.1.1.1.1.2
 ·simp [h8] at h2
theorem sgOk_in {ds : List Dc} {s : Sc} {k : Nat} {d : Dc} (hv : s.v = (k : Int)) (hd : ds[k]? = some d) (hb : s.bw = 0) (hw : s.ws.length = 0) : sgOk ds s = (decide (1 ≤ s.wd) && decide (0 ≤ s.lo) && decide (s.lo + s.wd ≤ d.2)) := by
 have hl := (List.getElem?_eq_some_iff.1 hd).1
 rw [sgOk, if_neg (by omega), hv, Int.toNat_natCast]
 have h1 : decide ((0 : Int) ≤ (k : Int)) = true := decide_eq_true (by omega)
 have h2 : decide ((k : Int) < (ds.length : Int)) = true := decide_eq_true (by omega)
 have e : ds.getD k (.empty, 0) = d := by simp [List.getD, hd]
 rw [h1, h2, hb, hw, e]
 simp
set_option maxHeartbeats 1000000 in
theorem segOk_any (s : Sc) (a da : Option Addr) (c dc : Nat) (ds : List Dc) (w : World) (hr : Rd w a s.ws) (hd : RdD w da ds) (hD : dclR ds = true) :
  Calls Try.prog 44 #[.slice da ds.length dc, .agg #[.int .i64 s.v, .int .i64 s.lo, .int .i64 s.wd, .int .i64 s.bw, .slice a s.ws.length c]] w fun e w' => e = .returned (.bool (sgOk ds s)) ∧ Below w.heap.size w w' := by
 have hb0 : Below w.heap.size w (w.alloc (Obj.cells #[.int .i64 s.v, .int .i64 s.lo, .int .i64 s.wd, .int .i64 s.bw, .slice a s.ws.length c] 34)) := (Below.refl _ _).alloc (Nat.le_refl _) _
 have hl1 := hd.1
 have hl2 := hr.1
 by_cases hv : s.v = -1
 ·rw [sgOk_const hv]
  have HOK := kide (fun u (hu : Below w.heap.size w u) => implOk_any s.bw a c s.ws u (hr.later hu))
  obtain ⟨v, lo, wd, bw, ws⟩ := s
  simp only [] at hv hb0 HOK hl2 ⊢
  subst hv
  have B0 := kide hb0
  clear hr hd hb0
  by_cases h1 : lo = 0
  ·subst h1
   by_cases h2 : wd = bw
   ·subst h2
    have hww : (wd == wd) = true := by simp
    go_enter Try.func44, Try.ntmps44
    go_wp2_with fail
    refine Calls.mono (HOK.out _ B0.out) ?_
    rintro e w1 ⟨rfl, hb1⟩
    go_wp2_with fail
    go_ret
    exact ⟨ret_bool (by simp), B0.out.trans (hb1.mono (by simp))⟩
   ·have hww : (wd == bw) = false := by simp [h2]
    have hR : (decide ((0 : Int) = 0) && decide (wd = bw) && rightB bw ws) = false := by simp [h2]
    rw [hR]
    clear hR h2
    go_enter Try.func44, Try.ntmps44
    go_wp2_with fail
    go_ret
    exact ⟨rfl, B0.out⟩
  ·have hww : (lo == 0) = false := by simp [h1]
   have hR : (decide (lo = 0) && decide (wd = bw) && rightB bw ws) = false := by simp [h1]
   rw [hR]
   clear hR h1
   go_enter Try.func44, Try.ntmps44
   go_wp2_with fail
   go_ret
   exact ⟨rfl, B0.out⟩
 ·by_cases hout : s.v < 0 ∨ (ds.length : Int) ≤ s.v ∨ s.bw ≠ 0 ∨ s.ws.length ≠ 0
  ·rw [sgOk_out hv hout]
   obtain ⟨v, lo, wd, bw, ws⟩ := s
   simp only [] at hv hb0 hout hl2 ⊢
   have B0 := kide hb0
   have hvv : (v == -1) = false := by simp [hv]
   clear hr hd hb0 hv
   by_cases h1 : v < 0
   ·clear hout
    go_enter Try.func44, Try.ntmps44
    go_wp2_with fail
    go_ret
    exact ⟨rfl, B0.out⟩
   by_cases h2 : (ds.length : Int) ≤ v
   ·clear hout
    go_enter Try.func44, Try.ntmps44
    go_wp2_with fail
    go_ret
    exact ⟨rfl, B0.out⟩
   by_cases h3 : bw = 0
   ·have h4 : ws.length ≠ 0 := by
     rcases hout with h | h | h | h
     ·exact absurd h h1
     ·exact absurd h h2
     ·exact absurd h3 h
     ·exact h
    subst h3
    have h5 : ((ws.length : Int) != 0) = true := by simp; intro h; subst h; simp at h4
    clear hout
    go_enter Try.func44, Try.ntmps44
    go_wp2_with fail
    go_ret
    exact ⟨rfl, B0.out⟩
   ·have h5 : (bw != 0) = true := by simp [h3]
    clear hout
    go_enter Try.func44, Try.ntmps44
    go_wp2_with fail
    go_ret
    exact ⟨rfl, B0.out⟩
  ·obtain ⟨k, hk⟩ : ∃ k : Nat, s.v = (k : Int) := ⟨s.v.toNat, by omega⟩
   have hkl : k < ds.length := by omega
   obtain ⟨⟨t, y⟩, gd⟩ : ∃ d, ds[k]? = some d := ⟨ds[k], List.getElem?_eq_getElem hkl⟩
   have hbw : s.bw = 0 := Decidable.byContradiction fun h => hout (.inr (.inr (.inl h)))
   have hws : s.ws.length = 0 := Decidable.byContradiction fun h => hout (.inr (.inr (.inr h)))
   rw [sgOk_in hk gd hbw hws]
   obtain ⟨hy1, hy2⟩ := dclR_wd hD gd
   obtain ⟨-, -, h | ⟨b1, o1, rfl, hc1⟩⟩ := hd
   ·subst h; simp at hkl
   obtain ⟨-, q1⟩ := hc1 k _ gd
   have lb1 : b1 < w.heap.size := block_lt_of_cell q1
   obtain ⟨v, lo, wd, bw, ws⟩ := s
   simp only [] at hv hb0 hout hl2 hk hbw hws hy1 hy2 q1 ⊢
   subst hk
   subst hbw
   have hwl := List.eq_nil_of_length_eq_zero hws
   subst hwl
   have B0 := kide hb0
   have hvv : ((k : Int) == -1) = false := by simp
   have hki : (k : Int) < (ds.length : Int) := by omega
   clear hr hb0 hv hout hc1 gd hD hws
   by_cases h1 : 1 ≤ wd
   ·by_cases h2 : wd ≤ y
    ·by_cases h3 : 0 ≤ lo
     ·by_cases h4 : lo ≤ y - wd
      ·have hR : (decide (1 ≤ wd) && decide (0 ≤ lo) && decide (lo + wd ≤ y)) = true := by simp; omega
       rw [hR]
       clear hR
       go_enter Try.func44, Try.ntmps44
       go_wp2_with fail
       go_ret
       first | exact ⟨rfl, B0.out⟩ | exact ⟨ret_bool (by simp; omega), B0.out⟩
      ·have hR : (decide (1 ≤ wd) && decide (0 ≤ lo) && decide (lo + wd ≤ y)) = false := by simp; omega
       rw [hR]
       clear hR
       go_enter Try.func44, Try.ntmps44
       go_wp2_with fail
       go_ret
       first | exact ⟨rfl, B0.out⟩ | exact ⟨ret_bool (by simp; omega), B0.out⟩
     ·have hR : (decide (1 ≤ wd) && decide (0 ≤ lo) && decide (lo + wd ≤ y)) = false := by simp; omega
      rw [hR]
      clear hR
      go_enter Try.func44, Try.ntmps44
      go_wp2_with fail
      go_ret
      first | exact ⟨rfl, B0.out⟩ | exact ⟨ret_bool (by simp; omega), B0.out⟩
    ·by_cases h3 : 0 ≤ lo
     ·have hR : (decide (1 ≤ wd) && decide (0 ≤ lo) && decide (lo + wd ≤ y)) = false := by simp; omega
      rw [hR]
      clear hR
      go_enter Try.func44, Try.ntmps44
      go_wp2_with fail
      go_ret
      first | exact ⟨rfl, B0.out⟩ | exact ⟨ret_bool (by simp; omega), B0.out⟩
     ·have hR : (decide (1 ≤ wd) && decide (0 ≤ lo) && decide (lo + wd ≤ y)) = false := by simp; omega
      rw [hR]
      clear hR
      go_enter Try.func44, Try.ntmps44
      go_wp2_with fail
      go_ret
      first | exact ⟨rfl, B0.out⟩ | exact ⟨ret_bool (by simp; omega), B0.out⟩
   ·have hR : (decide (1 ≤ wd) && decide (0 ≤ lo) && decide (lo + wd ≤ y)) = false := by simp; omega
    rw [hR]
    clear hR
    go_enter Try.func44, Try.ntmps44
    go_wp2_with fail
    go_ret
    first | exact ⟨rfl, B0.out⟩ | exact ⟨ret_bool (by simp; omega), B0.out⟩

theorem couldBeOne_any (s t : Sc) (a b : Option Addr) (c d : Nat) (w : World) (h1 : 0 ≤ s.lo ∧ s.lo ≤ 4096) (h2 : 0 ≤ s.wd ∧ s.wd ≤ 4096) :
  Calls Try.prog 40 #[.agg #[.int .i64 s.v, .int .i64 s.lo, .int .i64 s.wd, .int .i64 s.bw, .slice a s.ws.length c], .agg #[.int .i64 t.v, .int .i64 t.lo, .int .i64 t.wd, .int .i64 t.bw, .slice b t.ws.length d]] w fun e w' => e = .returned (.bool (oneB s t)) ∧ Below w.heap.size w w' := by
 have hb2 : Below w.heap.size w ((w.alloc (Obj.cells #[.int .i64 s.v, .int .i64 s.lo, .int .i64 s.wd, .int .i64 s.bw, .slice a s.ws.length c] 34)).alloc (Obj.cells #[.int .i64 t.v, .int .i64 t.lo, .int .i64 t.wd, .int .i64 t.bw, .slice b t.ws.length d] 34)) := ((Below.refl _ _).alloc (Nat.le_refl _) _).alloc (by simp) _
 obtain ⟨v, lo, wd, bw, ws⟩ := s
 obtain ⟨v', lo', wd', bw', ws'⟩ := t
 simp only [oneB] at h1 h2 hb2 ⊢
 obtain ⟨l1, l2⟩ := h1
 obtain ⟨l3, l4⟩ := h2
 have B2 := kide hb2
 clear hb2
 by_cases h : v = v'
 ·have e1 : (v == v') = true := by simp [h]
  by_cases hv : v = -1
  ·have e2 : (v == -1) = true := by simp [hv]
   have hR : (decide (v = v') && (decide (v = -1) || decide (lo + wd = lo'))) = true := by simp [← h, hv]
   rw [hR]
   clear hR h hv
   go_enter Try.func40, Try.ntmps40
   go_wp2_with fail
   first | go_quiet (fail) | skip
   go_wp2_with fail
   go_ret
   exact ⟨rfl, by first | exact B2.out | exact below_drewN B2.out _⟩
  ·have e2 : (v == -1) = false := by simp [hv]
   have hR : (decide (v = v') && (decide (v = -1) || decide (lo + wd = lo'))) = decide (lo + wd = lo') := by simp [← h, hv]
   rw [hR]
   clear hR h hv
   go_enter Try.func40, Try.ntmps40
   go_wp2_with fail
   first | go_quiet (fail) | skip
   go_wp2_with fail
   go_ret
   exact ⟨ret_bool (by rw [Bool.eq_iff_iff]; simp), by first | exact B2.out | exact below_drewN B2.out _⟩
 ·have e1 : (v == v') = false := by simp [h]
  have hR : (decide (v = v') && (decide (v = -1) || decide (lo + wd = lo'))) = false := by simp [h]
  rw [hR]
  clear hR h
  go_enter Try.func40, Try.ntmps40
  go_wp2_with fail
  first | go_quiet (fail) | skip
  go_wp2_with fail
  go_ret
  exact ⟨rfl, by first | exact B2.out | exact below_drewN B2.out _⟩
theorem sumS_append (xs ys : List Sc) : sumS (xs ++ ys) = sumS xs + sumS ys := by
 induction xs with
 | nil => simp [sumS]
 | cons x xs ih => simp [sumS, ih]; omega
theorem sumS_take {cs : List Sc} {k : Nat} {c : Sc} (h : cs[k]? = some c) : sumS (cs.take (k + 1)) = sumS (cs.take k) + c.wd := by
 rw [List.take_add_one, h, sumS_append]
 simp [sumS]
theorem formWidth_any (a : Option Addr) (c n : Nat) (xs : List Sg) (w : World) (hr : RdS w a xs) (hn : xs.length = n) (h2000 : n ≤ 2000) (hw : ∀ x ∈ xs, 1 ≤ x.ct.wd ∧ x.ct.wd ≤ 4096) :
  Calls Try.prog 19 #[.slice a n c] w fun e w' => e = .returned (.int .i64 (sumS (xs.map Sg.ct))) ∧ Below w.heap.size w w' := by
 have hR : sumS (xs.map Sg.ct) = sumS ((xs.map Sg.ct).take n) := by rw [List.take_of_length_le (by simp [hn])]
 rw [hR]
 have HR := kide hr
 have HN := kide hn
 have HW := kide hw
 clear hr hn hw hR
 go_enter Try.func19, Try.ntmps19
 go_wp2_with fail
 go_loopw [3, 8] (fun q i wr => ∃ k : Nat, k ≤ n ∧ i = .int .i64 (k : Int) ∧ q = .int .i64 (sumS ((xs.map Sg.ct).take k)) ∧ 0 ≤ sumS ((xs.map Sg.ct).take k) ∧ sumS ((xs.map Sg.ct).take k) ≤ 4096 * (k : Int) ∧ Below w.heap.size w wr) (fun _ i _ => n - (intOf i).toNat)
 case atStart => exact ⟨0, Nat.zero_le _, rfl, by simp [sumS], by simp [sumS], by simp [sumS], Below.refl _ _⟩
 case round =>
  obtain ⟨k, hk, rfl, rfl, hq0, hq1, hbel⟩ := hrel
  have HB := kide hbel
  by_cases hlt : k < n
  ·obtain ⟨-, h | ⟨b2, o2, rfl, hc2⟩⟩ := HR.out
   ·have := HN.out; subst h; simp at this; omega
   obtain ⟨⟨s, a1, c1⟩, gx⟩ : ∃ x, xs[k]? = some x := ⟨xs[k]'(by rw [HN.out]; exact hlt), List.getElem?_eq_getElem _⟩
   obtain ⟨⟨p0, p1, p2, p3, p4⟩, -⟩ := (hc2 k _ gx).later hbel
   have hst := sumS_take (cs := xs.map Sg.ct) (k := k) (c := s) (by rw [List.getElem?_map, gx]; rfl)
   obtain ⟨hw1, hw2⟩ := HW.out _ (List.mem_of_getElem? gx)
   obtain ⟨v, lo, wd, bw, ws⟩ := s
   simp only [Sg.hd] at p0 p1 p2 p3 p4 hst hw1 hw2
   have HST := kide hst
   have HA := kide (HB.out.alloc HB.out.size (Obj.cells #[.int .i64 v, .int .i64 lo, .int .i64 wd, .int .i64 bw, .slice a1 ws.length c1] 34))
   have i0 : (k : Int) < (n : Int) := by omega
   clear hc2 gx hst HR hbel
   generalize sumS ((xs.map Sg.ct).take k) = Q at *
   go_wp2_with fail
   go_roundw
   case rel => exact ⟨k + 1, by omega, by go_num, by rw [HST.out], by rw [HST.out]; omega, by rw [HST.out]; omega, HA.out⟩
   case measure => simp [intOf]; omega
  ·have e : k = n := by omega
   subst e
   clear HR hbel
   generalize hQ : sumS ((xs.map Sg.ct).take k) = Q at *
   have HQ := kide hQ
   clear hQ
   go_wp2_with fail
   go_ret
   exact ⟨ret_int (by rw [HQ.out]), HB.out⟩

theorem kwrap {n : Int} (h : -9223372036854775808 ≤ n ∧ n ≤ 9223372036854775807) : IntKind.i64.wrap n = n := by rw [IntKind.wrap_i64]; omega
def flAt (ds : List Dc) (fs : List Sc) (k : Nat) : Bool := flL ds (if k = 0 then none else fs[k - 1]?) (fs.drop k)
theorem flAt_end {ds : List Dc} {fs : List Sc} : flAt ds fs fs.length = true := by
 unfold flAt
 rw [List.drop_length]
 split <;> rename_i h <;> (try cases h) <;> simp [flL]
theorem flAt_zero {ds : List Dc} {fs : List Sc} {s : Sc} (h : fs[0]? = some s) : flAt ds fs 0 = (sgOk ds s && flAt ds fs 1) := by
 have l := (List.getElem?_eq_some_iff.1 h).1
 unfold flAt
 rw [List.drop_eq_getElem_cons l]
 rw [List.getElem?_eq_getElem l] at h
 cases h
 simp [flL, l]
theorem flAt_succ {ds : List Dc} {fs : List Sc} {k : Nat} {q s : Sc} (hq : fs[k]? = some q) (h : fs[k + 1]? = some s) : flAt ds fs (k + 1) = (sgOk ds s && !oneB q s && flAt ds fs (k + 1 + 1)) := by
 have l := (List.getElem?_eq_some_iff.1 h).1
 unfold flAt
 rw [List.drop_eq_getElem_cons l]
 rw [List.getElem?_eq_getElem l] at h
 cases h
 rw [if_neg (by omega), if_neg (by omega), Nat.add_sub_cancel, Nat.add_sub_cancel, hq, flL, List.getElem?_eq_getElem l]
theorem all_of_flAt {ds : List Dc} {fs : List Sc} : ∀ (k : Nat), (∀ i s, i < k → fs[i]? = some s → sgOk ds s = true) → flAt ds fs k = true → ∀ s ∈ fs, sgOk ds s = true := by
 intro k hk h s hs
 obtain ⟨i, hi, e⟩ := List.mem_iff_getElem.1 hs
 have gen : ∀ (d k : Nat), fs.length - k = d → (∀ (i : Nat) (s : Sc), i < k → fs[i]? = some s → sgOk ds s = true) → flAt ds fs k = true → ∀ (i : Nat) (s : Sc), fs[i]? = some s → sgOk ds s = true := by
  intro d
  induction d with
  | zero =>
   intro k hd hk _ i s hi
   exact hk i s (by have := (List.getElem?_eq_some_iff.1 hi).1; omega) hi
  | succ d ih =>
   intro k hd hk h
   have hkl : k < fs.length := by omega
   have hg := List.getElem?_eq_getElem hkl
   have hok : sgOk ds fs[k] = true ∧ flAt ds fs (k + 1) = true := by
    cases k with
    | zero => rw [flAt_zero hg] at h; simp at h; exact h
    | succ k =>
     rw [flAt_succ (List.getElem?_eq_getElem (by omega)) hg] at h
     simp at h
     exact ⟨h.1.1, h.2⟩
   refine ih (k + 1) (by omega) (fun i s hi hs => ?_) hok.2
   by_cases hik : i = k
   ·subst hik
    rw [hg] at hs
    cases hs
    exact hok.1
   ·exact hk i s (by omega) hs
 exact gen _ k rfl hk h i s (by rw [List.getElem?_eq_getElem hi, e])
def formR (ds : List Dc) (fs : List Sc) : Bool := decide (1 ≤ fs.length) && decide (fs.length ≤ 2000) && flAt ds fs 0 && decide (sumS fs ≤ 4096)
theorem flatR_form (ds : List Dc) (fs : List Sc) : flatR ds fs = (dclR ds && formR ds fs) := by
 simp [flatR, formR, flAt, Bool.and_assoc]
set_option maxHeartbeats 1000000 in
theorem formOk_any (a da : Option Addr) (c dc n : Nat) (ds : List Dc) (xs : List Sg) (w : World) (hd : RdD w da ds) (hr : RdS w a xs) (hn : xs.length = n) (hD : dclR ds = true) :
  Calls Try.prog 24 #[.slice da ds.length dc, .slice a n c] w fun e w' => e = .returned (.bool (formR ds (xs.map Sg.ct))) ∧ Below w.heap.size w w' := by
 have hl1 := hd.1
 have hl2 := hr.1
 rw [hn] at hl2
 by_cases h1 : n < 1
 ·have hR : formR ds (xs.map Sg.ct) = false := by
   have : xs = [] := List.eq_nil_of_length_eq_zero (by omega)
   simp [formR, this]
  rw [hR]
  clear hR
  go_enter Try.func24, Try.ntmps24
  go_wp2_with fail
  go_ret
  exact ⟨rfl, Below.refl _ _⟩
 by_cases h2 : 2000 < n
 ·have hR : formR ds (xs.map Sg.ct) = false := by
   have h : decide ((xs.map Sg.ct).length ≤ 2000) = false := decide_eq_false (by simp; omega)
   simp only [formR, h]; simp
  rw [hR]
  clear hR
  go_enter Try.func24, Try.ntmps24
  go_wp2_with fail
  go_ret
  exact ⟨rfl, Below.refl _ _⟩
 generalize hZ : flAt ds (xs.map Sg.ct) 0 = Z
 have hR : formR ds (xs.map Sg.ct) = (Z && decide (sumS (xs.map Sg.ct) ≤ 4096)) := by
  have e1 : decide (1 ≤ (xs.map Sg.ct).length) = true := decide_eq_true (by simp; omega)
  have e2 : decide ((xs.map Sg.ct).length ≤ 2000) = true := decide_eq_true (by simp; omega)
  simp only [formR, e1, e2, hZ, Bool.true_and]
 rw [hR]
 have HZ := kide hZ
 have HD := kide hd
 have HR := kide hr
 have HN := kide hn
 have HDC := kide hD
 clear hZ hR hd hr hn hD
 go_enter Try.func24, Try.ntmps24
 go_wp2_with fail
 go_loopw [17] (fun i wr => ∃ k : Nat, k ≤ n ∧ i = .int .i64 (k : Int) ∧ flAt ds (xs.map Sg.ct) k = Z ∧ (∀ (i : Nat) (x : Sg), i < k → xs[i]? = some x → sgOk ds x.ct = true) ∧ Below w.heap.size w wr) (fun i _ => n - (intOf i).toNat)
 case atStart => exact ⟨0, Nat.zero_le _, rfl, HZ.out, fun i x h => by omega, Below.refl _ _⟩
 case round =>
  obtain ⟨k, hk, rfl, hz, hall, hbel⟩ := hrel
  have HB := kide hbel
  have HAL := kide hall
  by_cases hlt : k < n
  ·obtain ⟨-, h | ⟨b2, o2, rfl, hc2⟩⟩ := HR.out
   ·have := HN.out; subst h; simp at this; omega
   obtain ⟨⟨s, a1, c1⟩, gx⟩ : ∃ x, xs[k]? = some x := ⟨xs[k]'(by rw [HN.out]; exact hlt), List.getElem?_eq_getElem _⟩
   obtain ⟨⟨p0, p1, p2, p3, p4⟩, pr, -⟩ := (hc2 k _ gx).later hbel
   simp only [Sg.hd] at p0 p1 p2 p3 p4 pr
   have hb0 : Below wr.heap.size wr (wr.alloc (Obj.cells #[.int .i64 s.v, .int .i64 s.lo, .int .i64 s.wd, .int .i64 s.bw, .slice a1 s.ws.length c1] 34)) := (Below.refl _ _).alloc (Nat.le_refl _) _
   have HOK := kide (fun u (hu : Below wr.heap.size wr u) => segOk_any s a1 da c1 dc ds u (pr.later hu) ((HD.out.later hbel).later hu) HDC.out)
   have GX := kide gx
   have gct : (xs.map Sg.ct)[k]? = some s := by rw [List.getElem?_map, gx]; rfl
   have i0 : (k : Int) < (n : Int) := by omega
   have c0 : (wr.alloc (Obj.cells #[.int .i64 s.v, .int .i64 s.lo, .int .i64 s.wd, .int .i64 s.bw, .slice a1 s.ws.length c1] 34)).cell? ⟨wr.heap.size, 0, none⟩ = some (Value.int .i64 s.v) := by simp
   have c1' : (wr.alloc (Obj.cells #[.int .i64 s.v, .int .i64 s.lo, .int .i64 s.wd, .int .i64 s.bw, .slice a1 s.ws.length c1] 34)).cell? ⟨wr.heap.size, 1, none⟩ = some (Value.int .i64 s.lo) := by simp
   have c2' : (wr.alloc (Obj.cells #[.int .i64 s.v, .int .i64 s.lo, .int .i64 s.wd, .int .i64 s.bw, .slice a1 s.ws.length c1] 34)).cell? ⟨wr.heap.size, 2, none⟩ = some (Value.int .i64 s.wd) := by simp
   have c3' : (wr.alloc (Obj.cells #[.int .i64 s.v, .int .i64 s.lo, .int .i64 s.wd, .int .i64 s.bw, .slice a1 s.ws.length c1] 34)).cell? ⟨wr.heap.size, 3, none⟩ = some (Value.int .i64 s.bw) := by simp
   have c4' : (wr.alloc (Obj.cells #[.int .i64 s.v, .int .i64 s.lo, .int .i64 s.wd, .int .i64 s.bw, .slice a1 s.ws.length c1] 34)).cell? ⟨wr.heap.size, 4, none⟩ = some (Value.slice a1 s.ws.length c1) := by simp
   have l0 : wr.heap.size < (wr.alloc (Obj.cells #[.int .i64 s.v, .int .i64 s.lo, .int .i64 s.wd, .int .i64 s.bw, .slice a1 s.ws.length c1] 34)).heap.size := by simp
   have B0 := kide hb0
   cases hok : sgOk ds s with
   | false =>
    rw [hok] at HOK
    have HF : Hid (Z = false) := by
     show _ = _
     rw [← hz]
     cases k with
     | zero => rw [flAt_zero gct, hok]; rfl
     | succ k =>
      have hq : (xs.map Sg.ct)[k]? = some _ := List.getElem?_eq_getElem (by simp; have := HN.out; omega)
      rw [flAt_succ hq gct, hok]; rfl
    obtain ⟨v, lo, wd, bw, ws⟩ := s
    simp only [] at p0 p1 p2 p3 p4 c0 c1' c2' c3' c4' l0 HOK B0
    clear hc2 gx gct hz hall hbel HZ pr hb0 hok GX
    go_wp2_with fail
    generalize wr.alloc (Obj.cells #[.int .i64 v, .int .i64 lo, .int .i64 wd, .int .i64 bw, .slice a1 ws.length c1] 34) = w0 at *
    clear p0 p1 p2 p3 p4
    refine wp_region_any (by kernel_rfl) ?_
    try (change wpAny _ _ _ _ _ _ _ (World.drew _))
    refine tkA (i := 0) (v := Value.slice da ds.length dc) rfl (by kernel_rfl) (fun _ _ _ h => h) (by rfl) (fun w => by go_simp) ?_
    try go_simp
    refine wpAny_ready (rs := [1]) (by kernel_rfl) (by simp) (AllReady.cons rfl (fun K hK => ?_) AllReady.nil)
    go_simp
    refine hK _ _ ?_
    clear hK K
    refine wpAny_ready (rs := [2]) (by kernel_rfl) (by simp) (AllReady.cons rfl (fun K hK => ?_) AllReady.nil)
    go_simp
    go_wp2_with (go_at_call 44; refine Calls.mono (HOK.out _ ?_) ?_; exact B0.out.drew; rintro e w3 ⟨rfl, hb3⟩; replace hb3 := kundrew hb3)
    refine tkA (i := 3) (v := Value.bool true) rfl (by kernel_rfl) (fun _ _ _ h => h) (by rfl) (fun w => by go_simp) ?_
    try go_simp
    refine tkA (i := 4) (v := Value.bool true) rfl (by kernel_rfl) (fun _ _ _ h => h) (by rfl) (fun w => by go_simp) ?_
    try go_simp
    refine tkN (i := 5) rfl (by kernel_rfl) (fun _ _ _ h => h) (by rfl) ?_
    try go_simp
    refine tkN (i := 6) rfl (by kernel_rfl) (fun _ _ _ h => h) (by rfl) ?_
    try go_simp
    refine tkN (i := 7) rfl (by kernel_rfl) (fun _ _ _ h => h) (by rfl) ?_
    try go_simp
    refine tkN (i := 8) rfl (by kernel_rfl) (fun _ _ _ h => h) (by rfl) ?_
    try go_simp
    refine tkN (i := 9) rfl (by kernel_rfl) (fun _ _ _ h => h) (by rfl) ?_
    try go_simp
    refine tkN (i := 10) rfl (by kernel_rfl) (fun _ _ _ h => h) (by rfl) ?_
    try go_simp
    refine tkN (i := 11) rfl (by kernel_rfl) (fun _ _ _ h => h) (by rfl) ?_
    try go_simp
    refine tkN (i := 12) rfl (by kernel_rfl) (fun _ _ _ h => h) (by rfl) ?_
    try go_simp
    refine tkN (i := 13) rfl (by kernel_rfl) (fun _ _ _ h => h) (by rfl) ?_
    try go_simp
    refine tkN (i := 14) rfl (by kernel_rfl) (fun _ _ _ h => h) (by rfl) ?_
    try go_simp
    refine tkN (i := 15) rfl (by kernel_rfl) (fun _ _ _ h => h) (by rfl) ?_
    try go_simp
    refine tkA (i := 16) (v := Value.bool true) rfl (by kernel_rfl) (fun _ _ _ h => h) (by rfl) (fun w => by go_simp) ?_
    try go_simp
    refine wpAny_done (by kernel_rfl) ?_ _
    go_wp2_with fail
    go_ret
    exact ⟨ret_bool (by rw [HF.out]; rfl), HB.out.trans ((B0.out.trans (hb3.mono B0.out.size)).mono HB.out.size)⟩
   | true =>
    rw [hok] at HOK
    cases k with
    | zero =>
     rw [flAt_zero gct, hok, Bool.true_and] at hz
     have HZ1 := kide hz
     have HOKS := kide hok
     rw [Nat.zero_mul, Nat.add_zero] at p0 p1 p2 p3 p4
     obtain ⟨v, lo, wd, bw, ws⟩ := s
     simp only [] at p0 p1 p2 p3 p4 c0 c1' c2' c3' c4' l0 HOK B0
     clear hc2 gx gct hz hall hbel HZ pr hb0 hok
     go_wp2_with fail
     generalize wr.alloc (Obj.cells #[.int .i64 v, .int .i64 lo, .int .i64 wd, .int .i64 bw, .slice a1 ws.length c1] 34) = w0 at *
     clear p0 p1 p2 p3 p4
     refine wp_region_any (by kernel_rfl) ?_
     try (change wpAny _ _ _ _ _ _ _ (World.drew _))
     refine tkA (i := 0) (v := Value.slice da ds.length dc) rfl (by kernel_rfl) (fun _ _ _ h => h) (by rfl) (fun w => by go_simp) ?_
     try go_simp
     refine wpAny_ready (rs := [1]) (by kernel_rfl) (by simp) (AllReady.cons rfl (fun K hK => ?_) AllReady.nil)
     go_simp
     refine hK _ _ ?_
     clear hK K
     refine wpAny_ready (rs := [2]) (by kernel_rfl) (by simp) (AllReady.cons rfl (fun K hK => ?_) AllReady.nil)
     go_simp
     go_wp2_with (go_at_call 44; refine Calls.mono (HOK.out _ ?_) ?_; exact B0.out.drew; rintro e w3 ⟨rfl, hb3⟩; replace hb3 := kundrew hb3)
     refine tkA (i := 3) (v := Value.bool false) rfl (by kernel_rfl) (fun _ _ _ h => h) (by rfl) (fun w => by go_simp) ?_
     try go_simp
     refine tkA (i := 4) (v := Value.bool false) rfl (by kernel_rfl) (fun _ _ _ h => h) (by rfl) (fun w => by go_simp) ?_
     try go_simp
     refine tkA (i := 5) (v := Value.int .i64 0) rfl (by kernel_rfl) (fun _ _ _ h => h) (by rfl) (fun w => by go_simp) ?_
     try go_simp
     refine tkA (i := 6) (v := Value.bool false) rfl (by kernel_rfl) (fun _ _ _ h => h) (by rfl) (fun w => by go_simp) ?_
     try go_simp
     refine tkA (i := 7) (v := Value.bool false) rfl (by kernel_rfl) (fun _ _ _ h => h) (by rfl) (fun w => by go_simp) ?_
     try go_simp
     refine tkN (i := 8) rfl (by kernel_rfl) (fun _ _ _ h => h) (by rfl) ?_
     try go_simp
     refine tkN (i := 9) rfl (by kernel_rfl) (fun _ _ _ h => h) (by rfl) ?_
     try go_simp
     refine tkN (i := 10) rfl (by kernel_rfl) (fun _ _ _ h => h) (by rfl) ?_
     try go_simp
     refine tkN (i := 11) rfl (by kernel_rfl) (fun _ _ _ h => h) (by rfl) ?_
     try go_simp
     refine tkN (i := 12) rfl (by kernel_rfl) (fun _ _ _ h => h) (by rfl) ?_
     try go_simp
     refine tkN (i := 13) rfl (by kernel_rfl) (fun _ _ _ h => h) (by rfl) ?_
     try go_simp
     refine tkN (i := 14) rfl (by kernel_rfl) (fun _ _ _ h => h) (by rfl) ?_
     try go_simp
     refine tkA (i := 15) (v := Value.bool false) rfl (by kernel_rfl) (fun _ _ _ h => h) (by rfl) (fun w => by go_simp) ?_
     try go_simp
     refine tkA (i := 16) (v := Value.bool false) rfl (by kernel_rfl) (fun _ _ _ h => h) (by rfl) (fun w => by go_simp) ?_
     try go_simp
     refine wpAny_done (by kernel_rfl) ?_ _
     go_wp2_with fail
     go_roundw
     case rel =>
      refine ⟨1, by omega, by go_num, HZ1.out, fun i x hi hx => ?_, HB.out.trans ((B0.out.trans (hb3.mono B0.out.size)).mono HB.out.size)⟩
      have : i = 0 := by omega
      subst this
      rw [GX.out] at hx
      cases hx
      exact HOKS.out
     case measure => simp [intOf]; omega
    | succ j =>
     obtain ⟨⟨s2, a2, cc2⟩, gx2⟩ : ∃ x, xs[j]? = some x := ⟨xs[j]'(by rw [HN.out]; omega), List.getElem?_eq_getElem _⟩
     obtain ⟨⟨q0, q1, q2, q3, q4⟩, -⟩ := (hc2 j _ gx2).later hbel
     simp only [Sg.hd] at q0 q1 q2 q3 q4
     have gct2 : (xs.map Sg.ct)[j]? = some s2 := by rw [List.getElem?_map, gx2]; rfl
     have hs2 := hall j _ (by omega) gx2
     simp only [] at hs2
     have hbd := sgOk_bounds HDC.out hs2
     have HONE := kide (fun u => couldBeOne_any s2 s a2 a1 cc2 c1 u ⟨hbd.2.2.1, hbd.2.2.2⟩ ⟨by omega, hbd.2.1⟩)
     rw [flAt_succ gct2 gct, hok, Bool.true_and] at hz
     have lb2 : b2 < wr.heap.size := block_lt_of_cell q0
     have lb2' : b2 < (wr.alloc (Obj.cells #[.int .i64 s.v, .int .i64 s.lo, .int .i64 s.wd, .int .i64 s.bw, .slice a1 s.ws.length c1] 34)).heap.size := by simp; omega
     have r0 := (kcell hb0 b2 (o2 + j * 5) lb2).trans q0
     have r1 := (kcell hb0 b2 (o2 + j * 5 + 1) lb2).trans q1
     have r2 := (kcell hb0 b2 (o2 + j * 5 + 2) lb2).trans q2
     have r3 := (kcell hb0 b2 (o2 + j * 5 + 3) lb2).trans q3
     have r4 := (kcell hb0 b2 (o2 + j * 5 + 4) lb2).trans q4
     have HZ1 := kide hz
     have HOKS := kide hok
     have j1 : (j : Int) < (n : Int) := by omega
     have hwr1 : IntKind.i64.wrap (j : Int) = (j : Int) := kwrap (by omega)
     have hwr2 : IntKind.i64.wrap ((j : Int) + 1 - 1) = (j : Int) := (kwrap (by omega)).trans (by omega)
     have hwr3 : IntKind.i64.wrap (((j + 1 : Nat) : Int) - 1) = (j : Int) := (kwrap (by omega)).trans (by omega)
     obtain ⟨v, lo, wd, bw, ws⟩ := s
     obtain ⟨v2, lo2, wd2, bw2, ws2⟩ := s2
     simp only [] at p0 p1 p2 p3 p4 q0 q1 q2 q3 q4 r0 r1 r2 r3 r4 c0 c1' c2' c3' c4' l0 lb2' HOK HONE B0
     generalize hO : oneB ⟨v2, lo2, wd2, bw2, ws2⟩ ⟨v, lo, wd, bw, ws⟩ = O at *
     clear hc2 gx gx2 gct gct2 hz hall hbel HZ pr hb0 hok hs2 hbd hO q0 q1 q2 q3 q4
     cases O with
     | true =>
      have HF : Hid (Z = false) := by have h := HZ1.out; simp at h; exact h
      go_wp2_with fail
      generalize wr.alloc (Obj.cells #[.int .i64 v, .int .i64 lo, .int .i64 wd, .int .i64 bw, .slice a1 ws.length c1] 34) = w0 at *
      clear p0 p1 p2 p3 p4
      go_region_held3 (fun u => u.cell? ⟨wr.heap.size, 0, none⟩ = some (Value.int .i64 v) ∧ u.cell? ⟨wr.heap.size, 1, none⟩ = some (Value.int .i64 lo) ∧ u.cell? ⟨wr.heap.size, 2, none⟩ = some (Value.int .i64 wd) ∧ u.cell? ⟨wr.heap.size, 3, none⟩ = some (Value.int .i64 bw) ∧ u.cell? ⟨wr.heap.size, 4, none⟩ = some (Value.slice a1 ws.length c1) ∧ u.cell? ⟨b2, o2 + j * 5, none⟩ = some (Value.int .i64 v2) ∧ u.cell? ⟨b2, o2 + j * 5 + 1, none⟩ = some (Value.int .i64 lo2) ∧ u.cell? ⟨b2, o2 + j * 5 + 2, none⟩ = some (Value.int .i64 wd2) ∧ u.cell? ⟨b2, o2 + j * 5 + 3, none⟩ = some (Value.int .i64 bw2) ∧ u.cell? ⟨b2, o2 + j * 5 + 4, none⟩ = some (Value.slice a2 ws2.length cc2)) (simp [*])
       (first | (go_at_call 44; refine Calls.mono (HOK.out _ ?_) ?_; exact B0.out.drew; rintro e w3 ⟨rfl, hb3⟩; replace hb3 := kundrew hb3; have x0 := kcell hb3 wr.heap.size (0) l0; have x1 := kcell hb3 wr.heap.size (1) l0; have x2 := kcell hb3 wr.heap.size (2) l0; have x3 := kcell hb3 wr.heap.size (3) l0; have x4 := kcell hb3 wr.heap.size (4) l0; have x5 := kcell hb3 b2 (o2 + j * 5) lb2'; have x6 := kcell hb3 b2 (o2 + j * 5 + 1) lb2'; have x7 := kcell hb3 b2 (o2 + j * 5 + 2) lb2'; have x8 := kcell hb3 b2 (o2 + j * 5 + 3) lb2'; have x9 := kcell hb3 b2 (o2 + j * 5 + 4) lb2'; rw [c0] at x0; rw [c1'] at x1; rw [c2'] at x2; rw [c3'] at x3; rw [c4'] at x4; rw [r0] at x5; rw [r1] at x6; rw [r2] at x7; rw [r3] at x8; rw [r4] at x9; have l0w : wr.heap.size < w3.heap.size := Nat.lt_of_lt_of_le l0 hb3.size; have l2w : b2 < w3.heap.size := Nat.lt_of_lt_of_le lb2' hb3.size) | (go_at_call 40; refine Calls.mono (HONE.out _) ?_; rintro e w4 ⟨rfl, hb4⟩; have y0 := kcell hb4 wr.heap.size (0) l0w; have y1 := kcell hb4 wr.heap.size (1) l0w; have y2 := kcell hb4 wr.heap.size (2) l0w; have y3 := kcell hb4 wr.heap.size (3) l0w; have y4 := kcell hb4 wr.heap.size (4) l0w; have y5 := kcell hb4 b2 (o2 + j * 5) l2w; have y6 := kcell hb4 b2 (o2 + j * 5 + 1) l2w; have y7 := kcell hb4 b2 (o2 + j * 5 + 2) l2w; have y8 := kcell hb4 b2 (o2 + j * 5 + 3) l2w; have y9 := kcell hb4 b2 (o2 + j * 5 + 4) l2w; rw [x0] at y0; rw [x1] at y1; rw [x2] at y2; rw [x3] at y3; rw [x4] at y4; rw [x5] at y5; rw [x6] at y6; rw [x7] at y7; rw [x8] at y8; rw [x9] at y9))
      go_wp2_with fail
      go_ret
      exact ⟨ret_bool (by rw [HF.out]; rfl), HB.out.trans ((B0.out.trans ((hb3.trans (hb4.mono hb3.size)).mono B0.out.size)).mono HB.out.size)⟩
     | false =>
      have HF : Hid (flAt ds (xs.map Sg.ct) (j + 1 + 1) = Z) := by have h := HZ1.out; simp at h; exact h
      go_wp2_with fail
      generalize wr.alloc (Obj.cells #[.int .i64 v, .int .i64 lo, .int .i64 wd, .int .i64 bw, .slice a1 ws.length c1] 34) = w0 at *
      clear p0 p1 p2 p3 p4
      go_region_held3 (fun u => u.cell? ⟨wr.heap.size, 0, none⟩ = some (Value.int .i64 v) ∧ u.cell? ⟨wr.heap.size, 1, none⟩ = some (Value.int .i64 lo) ∧ u.cell? ⟨wr.heap.size, 2, none⟩ = some (Value.int .i64 wd) ∧ u.cell? ⟨wr.heap.size, 3, none⟩ = some (Value.int .i64 bw) ∧ u.cell? ⟨wr.heap.size, 4, none⟩ = some (Value.slice a1 ws.length c1) ∧ u.cell? ⟨b2, o2 + j * 5, none⟩ = some (Value.int .i64 v2) ∧ u.cell? ⟨b2, o2 + j * 5 + 1, none⟩ = some (Value.int .i64 lo2) ∧ u.cell? ⟨b2, o2 + j * 5 + 2, none⟩ = some (Value.int .i64 wd2) ∧ u.cell? ⟨b2, o2 + j * 5 + 3, none⟩ = some (Value.int .i64 bw2) ∧ u.cell? ⟨b2, o2 + j * 5 + 4, none⟩ = some (Value.slice a2 ws2.length cc2)) (simp [*])
       (first | (go_at_call 44; refine Calls.mono (HOK.out _ ?_) ?_; exact B0.out.drew; rintro e w3 ⟨rfl, hb3⟩; replace hb3 := kundrew hb3; have x0 := kcell hb3 wr.heap.size (0) l0; have x1 := kcell hb3 wr.heap.size (1) l0; have x2 := kcell hb3 wr.heap.size (2) l0; have x3 := kcell hb3 wr.heap.size (3) l0; have x4 := kcell hb3 wr.heap.size (4) l0; have x5 := kcell hb3 b2 (o2 + j * 5) lb2'; have x6 := kcell hb3 b2 (o2 + j * 5 + 1) lb2'; have x7 := kcell hb3 b2 (o2 + j * 5 + 2) lb2'; have x8 := kcell hb3 b2 (o2 + j * 5 + 3) lb2'; have x9 := kcell hb3 b2 (o2 + j * 5 + 4) lb2'; rw [c0] at x0; rw [c1'] at x1; rw [c2'] at x2; rw [c3'] at x3; rw [c4'] at x4; rw [r0] at x5; rw [r1] at x6; rw [r2] at x7; rw [r3] at x8; rw [r4] at x9; have l0w : wr.heap.size < w3.heap.size := Nat.lt_of_lt_of_le l0 hb3.size; have l2w : b2 < w3.heap.size := Nat.lt_of_lt_of_le lb2' hb3.size) | (go_at_call 40; refine Calls.mono (HONE.out _) ?_; rintro e w4 ⟨rfl, hb4⟩; have y0 := kcell hb4 wr.heap.size (0) l0w; have y1 := kcell hb4 wr.heap.size (1) l0w; have y2 := kcell hb4 wr.heap.size (2) l0w; have y3 := kcell hb4 wr.heap.size (3) l0w; have y4 := kcell hb4 wr.heap.size (4) l0w; have y5 := kcell hb4 b2 (o2 + j * 5) l2w; have y6 := kcell hb4 b2 (o2 + j * 5 + 1) l2w; have y7 := kcell hb4 b2 (o2 + j * 5 + 2) l2w; have y8 := kcell hb4 b2 (o2 + j * 5 + 3) l2w; have y9 := kcell hb4 b2 (o2 + j * 5 + 4) l2w; rw [x0] at y0; rw [x1] at y1; rw [x2] at y2; rw [x3] at y3; rw [x4] at y4; rw [x5] at y5; rw [x6] at y6; rw [x7] at y7; rw [x8] at y8; rw [x9] at y9))
      go_wp2_with fail
      go_roundw
      case rel =>
       refine ⟨j + 1 + 1, by omega, by go_num, HF.out, fun i x hi hx => ?_, HB.out.trans ((B0.out.trans ((hb3.trans (hb4.mono hb3.size)).mono B0.out.size)).mono HB.out.size)⟩
       by_cases hij : i = j + 1
       ·subst hij
        rw [GX.out] at hx
        cases hx
        exact HOKS.out
       ·exact HAL.out i x (by omega) hx
      case measure => simp [intOf]; omega
  ·have e : k = n := by omega
   have hZt : Z = true := by
    rw [← hz, e, ← HN.out]
    have := flAt_end (ds := ds) (fs := xs.map Sg.ct)
    rwa [List.length_map] at this
   subst hZt
   have HW := kide (formWidth_any a c n xs wr (HR.out.later hbel) HN.out (by omega) (fun x hx => by
    obtain ⟨i, hi, e'⟩ := List.mem_iff_getElem.1 hx
    have h := sgOk_bounds HDC.out (hall i x (by have := HN.out; omega) (by rw [List.getElem?_eq_getElem hi, e']))
    exact ⟨h.1, h.2.1⟩))
   generalize hQ : sumS (xs.map Sg.ct) = Q at *
   have HQ := kide hQ
   clear hz hall hbel HZ hQ
   go_wp2_with fail
   refine Calls.mono HW.out ?_
   rintro e w3 ⟨rfl, hb3⟩
   go_wp2_with fail
   go_ret
   exact ⟨ret_bool (by rw [HQ.out]; simp), HB.out.trans (hb3.mono HB.out.size)⟩

theorem sgOk_cst {ds : List Dc} {s : Sc} (h : sgOk ds s = true) (hv : s.v = -1) : s.lo = 0 ∧ s.wd = s.bw ∧ rightB s.bw s.ws = true := by
 rw [sgOk, if_pos hv] at h
 simp only [Bool.and_eq_true, decide_eq_true_eq] at h
 exact ⟨h.1.1, h.1.2, h.2⟩
theorem sgOk_vr {ds : List Dc} {s : Sc} (h : sgOk ds s = true) (hv : s.v ≠ -1) : 0 ≤ s.v ∧ s.v < ds.length ∧ 1 ≤ s.wd ∧ 0 ≤ s.lo ∧ s.lo + s.wd ≤ (ds.getD s.v.toNat (.empty, 0)).2 := by
 rw [sgOk, if_neg hv] at h
 simp only [Bool.and_eq_true, decide_eq_true_eq] at h
 exact ⟨h.1.1.1.1.1.1, h.1.1.1.1.1.2, h.1.1.2, h.1.2, h.2⟩
theorem sgOk_wdt {ds : List Dc} {s : Sc} (hD : dclR ds = true) (h : sgOk ds s = true) : 1 ≤ s.wd ∧ s.wd ≤ 4096 := by
 by_cases hv : s.v = -1
 ·obtain ⟨-, h2, h3⟩ := sgOk_cst h hv
  have := rightB_wd h3
  omega
 ·obtain ⟨h1, h2, h3, h4, h5⟩ := sgOk_vr h hv
  have hk : s.v.toNat < ds.length := by omega
  have e : ds.getD s.v.toNat (.empty, 0) = ds[s.v.toNat] := by simp [List.getD, hk]
  rw [e] at h5
  have := dclR_wd hD (List.getElem?_eq_getElem hk)
  omega
theorem formR_sum {ds : List Dc} {fs : List Sc} (hD : dclR ds = true) (h : formR ds fs = true) : (∀ s ∈ fs, sgOk ds s = true ∧ 1 ≤ s.wd ∧ s.wd ≤ 4096) ∧ 1 ≤ sumS fs ∧ sumS fs ≤ 4096 ∧ fs.length ≤ 2000 := by
 simp only [formR, Bool.and_eq_true, decide_eq_true_eq] at h
 obtain ⟨⟨⟨h1, h2⟩, h3⟩, h4⟩ := h
 have ha := all_of_flAt (ds := ds) (fs := fs) 0 (fun i s hi => by omega) h3
 have hb : ∀ s ∈ fs, sgOk ds s = true ∧ 1 ≤ s.wd ∧ s.wd ≤ 4096 := fun s hs => ⟨ha s hs, sgOk_wdt hD (ha s hs)⟩
 refine ⟨hb, ?_, h4, h2⟩
 have gen : ∀ (l : List Sc), (∀ s ∈ l, 1 ≤ s.wd) → (l.length : Int) ≤ sumS l := by
  intro l
  induction l with
  | nil => intro _; simp [sumS]
  | cons s t ih =>
   intro hl
   have := ih fun x hx => hl x (List.mem_cons_of_mem _ hx)
   have := hl s (by simp)
   simp only [sumS, List.length_cons]
   omega
 have := gen fs fun s hs => (hb s hs).2.1
 omega
theorem take_sum {fs : List Sc} (h : ∀ s ∈ fs, 1 ≤ s.wd) (k : Nat) : sumS (fs.take k) ≤ sumS fs := by
 have e : sumS fs = sumS (fs.take k) + sumS (fs.drop k) := by rw [← sumS_append, List.take_append_drop]
 have gen : ∀ (l : List Sc), (∀ s ∈ l, 1 ≤ s.wd) → 0 ≤ sumS l := by
  intro l
  induction l with
  | nil => intro _; simp [sumS]
  | cons s t ih =>
   intro hl
   have := ih fun x hx => hl x (List.mem_cons_of_mem _ hx)
   have := hl s (by simp)
   simp only [sumS]
   omega
 have := gen (fs.drop k) fun s hs => h s (List.mem_of_mem_drop hs)
 omega

def ibc : List (Int × Int) → List Value
 | [] => []
 | x :: t => .int .i64 x.1 :: .int .i64 x.2 :: ibc t
theorem ibc_len (l : List (Int × Int)) : (ibc l).length = l.length * 2 := by
 induction l with
 | nil => rfl
 | cons x t ih => simp [ibc, ih]; omega
theorem ibc_append (l m : List (Int × Int)) : ibc (l ++ m) = ibc l ++ ibc m := by
 induction l with
 | nil => rfl
 | cons x t ih => simp [ibc, ih]
theorem ibc_get : ∀ {l : List (Int × Int)} {i : Nat} {x : Int × Int}, l[i]? = some x → (ibc l)[i * 2]? = some (.int .i64 x.1) ∧ (ibc l)[i * 2 + 1]? = some (.int .i64 x.2)
 | y :: t, 0, x, h => by simp at h; subst h; simp [ibc]
 | y :: t, i + 1, x, h => by
  have := ibc_get (l := t) (i := i) (x := x) (by simpa using h)
  rw [show (i + 1) * 2 = i * 2 + 1 + 1 by omega]
  simpa [ibc] using this
def OL5 (w : World) (B : Nat) (v : Value) (l : List (Int × Int)) : Prop := w.ownsRow B 74 2 v l.length (ibc l)
theorem OL5.later {w w' : World} {B : Nat} {v : Value} {l : List (Int × Int)} (h : OL5 w B v l) (hb : Below w.heap.size w w') : OL5 w' B v l := World.ownsRow.kept (row := none) h ⟨hb.os, hb.tape, hb.output, hb.size, fun k hk _ => hb.block k hk⟩ (by
 cases h' : v.ownBlock with
 | none => exact .inl rfl
 | some k => exact .inr (by simp))
theorem OL5.lt {w : World} {B : Nat} {v : Value} {l : List (Int × Int)} (h : OL5 w B v l) {b : Nat} (hb : v.ownBlock = some b) : B ≤ b ∧ b < w.heap.size := by
 rcases h.2 with ⟨rfl, -⟩ | ⟨g, cap, cur, rfl, hg, hh, -⟩
 ·cases hb
 ·cases hb
  exact ⟨hg, lt_of_block hh⟩
theorem OL5.typed {w : World} {B : Nat} {v : Value} {l : List (Int × Int)} (h : OL5 w B v l) {b : Nat} (hb : v.ownBlock = some b) : ∃ cur, w.heap[b]? = some (.cells cur 74 (0, 0)) := by
 rcases h.2 with ⟨rfl, -⟩ | ⟨g, cap, cur, rfl, hg, hh, -⟩
 ·cases hb
 ·cases hb
  exact ⟨cur, hh⟩
theorem OL5.move {w w' : World} {B : Nat} {v : Value} {l : List (Int × Int)} (h : OL5 w B v l) (hk : ∀ b, v.ownBlock = some b → w'.heap[b]? = w.heap[b]?) : OL5 w' B v l := by
 refine ⟨h.1, ?_⟩
 rcases h.2 with h0 | ⟨g, cap, cur, rfl, hg, hh, r⟩
 ·exact .inl h0
 ·exact .inr ⟨g, cap, cur, rfl, hg, (hk g rfl).trans hh, r⟩
theorem OL5.form {w : World} {B : Nat} {v : Value} {l : List (Int × Int)} (h : OL5 w B v l) : ∃ a c, v = .slice a l.length c := by
 rcases h.2 with ⟨e, h0⟩ | ⟨g, cap, cur, e, -⟩
 ·exact ⟨none, 0, by rw [e, h0]⟩
 ·exact ⟨_, _, e⟩
theorem OL5.empty (w : World) (B : Nat) (h : B ≤ w.heap.size) : OL5 (w.alloc (.cells #[] 74)) B (.slice (some ⟨w.heap.size, 0, Option.none⟩) 0 0) [] := World.ownsRow_made w #[] 0 h (Nat.zero_le _) (by simp)
theorem OL5.at {w : World} {B : Nat} {v : Value} {l : List (Int × Int)} (h : OL5 w B v l) {i : Nat} {x : Int × Int} (hi : l[i]? = some x) : ∃ g c, v = .slice (some ⟨g, 0, none⟩) l.length c ∧ w.cell? ⟨g, i * 2, none⟩ = some (.int .i64 x.1) ∧ w.cell? ⟨g, i * 2 + 1, none⟩ = some (.int .i64 x.2) := by
 have hil := (List.getElem?_eq_some_iff.1 hi).1
 rcases h.2 with ⟨-, h0⟩ | ⟨g, cap, cur, rfl, hg, hh, hc1, hc2, hsz, hcur⟩
 ·omega
 ·obtain ⟨e0, e1⟩ := ibc_get hi
  rw [← hcur] at e0 e1
  rw [List.getElem?_take, if_pos (by omega)] at e0 e1
  simp only [Array.getElem?_toList] at e0 e1
  exact ⟨g, cap, rfl, by rw [cell_of_row w g _ cur _ _ hh]; exact e0, by rw [cell_of_row w g _ cur _ _ hh]; exact e1⟩
theorem Try.infoL5 : (Try.prog.info? 74).map (fun i => (i.zero, i.size, i.bytes)) = some (some (.agg #[.int .i64 0, .int .i64 0]), 2, 16) := by kernel_rfl
theorem step_appL5 (w : World) {ops : Array Oper} {o : Oper} {a : Act} {K : Act → World → Prop} {Q : Exit → Act → World → Prop} {E : Prop} (hgd : o.guard = none) (s x : Operand)
  (ho : o.op = .call { callee := .builtin .append, args := #[s, x], argTypes := #[44, 44] })
  (B : Nat) (v : Value) (l : List (Int × Int)) (y : Int × Int) (hs : a.eval s = v) (hown : OL5 w B v l) (gx c : Nat) (hx : a.eval x = .slice (some ⟨gx, 0, none⟩) 1 c)
  (h0 : w.cell? ⟨gx, 0, none⟩ = some (.int .i64 y.1)) (h1 : w.cell? ⟨gx, 1, none⟩ = some (.int .i64 y.2)) (hl : l.length ≤ 1073741824) (hB : B ≤ w.heap.size)
  (h : ∀ g cap w', OL5 w' B (.slice (some ⟨g, 0, none⟩) (l.length + 1) cap) (l ++ [y]) → w.grownBy w' v.ownBlock → K (a.put o.dst (.slice (some ⟨g, 0, none⟩) (l.length + 1) cap)) w') :
  if Region.wanted o (yielded ops a.tmps) = true then Oper.wp Try.prog o a w K Q else E := by
 obtain ⟨i0, hi, hz0, hz1, hz2⟩ := info_parts Try.infoL5
 refine step_append_lies w hgd s x 44 ho B 74 i0 _ 2 16 Try.underlying44 hi hz0 hz1 hz2 rfl (by decide) v l.length (ibc l) hs hown ⟨gx, 0, none⟩ 1 c (ibc [y]) hx rfl ?_ ?_ (by decide) ?_ ?_ hB _ rfl ?_
 ·intro j u hj
  rw [Addr.add_lit]
  match j, hj with
  | 0, hj => simp [ibc] at hj; subst hj; exact h0
  | 1, hj => simp [ibc] at hj; subst hj; exact h1
  | j + 2, hj => simp [ibc] at hj
 ·intro u hu
  simp [ibc] at hu
  rcases hu with rfl | rfl <;> rfl
 ·unfold maxLen; omega
 ·omega
 ·intro g cap w' h1 h2 _ _
  refine h g cap w' ?_ h2
  unfold OL5
  rw [ibc_append, List.length_append]
  exact h1
theorem wpList_appL5 {w : World} {ops : Array Oper} {rest : List Oper} {o : Oper} {a : Act} {Q : Exit → Act → World → Prop} (hgd : o.guard = none) (s x : Operand)
  (ho : o.op = .call { callee := .builtin .append, args := #[s, x], argTypes := #[44, 44] })
  (B : Nat) (v : Value) (l : List (Int × Int)) (y : Int × Int) (hs : a.eval s = v) (hown : OL5 w B v l) (gx c : Nat) (hx : a.eval x = .slice (some ⟨gx, 0, none⟩) 1 c)
  (h0 : w.cell? ⟨gx, 0, none⟩ = some (.int .i64 y.1)) (h1 : w.cell? ⟨gx, 1, none⟩ = some (.int .i64 y.2)) (hl : l.length ≤ 1073741824) (hB : B ≤ w.heap.size)
  (h : ∀ g cap w', OL5 w' B (.slice (some ⟨g, 0, none⟩) (l.length + 1) cap) (l ++ [y]) → w.grownBy w' v.ownBlock → wpList Try.prog ops Q rest (a.put o.dst (.slice (some ⟨g, 0, none⟩) (l.length + 1) cap)) w') : wpList Try.prog ops Q (o :: rest) a w := by
 obtain ⟨i0, hi, hz0, hz1, hz2⟩ := info_parts Try.infoL5
 refine wpList_append_lies w hgd s x 44 ho B 74 i0 _ 2 16 Try.underlying44 hi hz0 hz1 hz2 rfl (by decide) v l.length (ibc l) hs hown ⟨gx, 0, none⟩ 1 c (ibc [y]) hx rfl ?_ ?_ (by decide) ?_ ?_ hB _ rfl ?_
 ·intro j u hj
  rw [Addr.add_lit]
  match j, hj with
  | 0, hj => simp [ibc] at hj; subst hj; exact h0
  | 1, hj => simp [ibc] at hj; subst hj; exact h1
  | j + 2, hj => simp [ibc] at hj
 ·intro u hu
  simp [ibc] at hu
  rcases hu with rfl | rfl <;> rfl
 ·unfold maxLen; omega
 ·omega
 ·intro g cap w' h1 h2 _ _
  refine h g cap w' ?_ h2
  unfold OL5
  rw [ibc_append, List.length_append]
  exact h1

theorem ibc_ints : ∀ (l : List (Int × Int)) (u : Value), u ∈ ibc l → ∃ x : Int, u = .int .i64 x
 | [], u, h => by simp [ibc] at h
 | p :: t, u, h => by
  simp [ibc] at h
  rcases h with rfl | rfl | h
  ·exact ⟨_, rfl⟩
  ·exact ⟨_, rfl⟩
  ·exact ibc_ints t u h

theorem OI.set_other {w : World} {B β : Nat} {v : Value} {xs : List Int} {cs : Array Value} {t : TypeId} (h : OI w B v xs) (hb : Bz w β cs t) (ht : t ≠ 2) (i : Nat) (u : Value) : OI (w.setCell ⟨β, i, none⟩ u) B v xs :=
 h.move fun b hb' => heap_setCell_other _ _ _ _ (fun e => by
  simp only [] at e
  subst e
  rcases h.2 with ⟨rfl, -⟩ | ⟨g, cap, cur, rfl, hg, hh, -⟩
  ·cases hb'
  ·cases hb'
   unfold Bz at hb
   rw [hb] at hh
   cases hh
   exact ht rfl)
theorem bz_gr {w w' : World} {b B : Nat} {cs : Array Value} {t : TypeId} {v : Value} (h : Bz w b cs t) (hb : b < B) (hv : ∀ k, v.ownBlock = some k → B ≤ k) (hg : w.grownBy w' v.ownBlock) : Bz w' b cs t := by
 unfold Bz
 rw [hg.block b h.lt (fun e => by have := hv b e.symm; omega)]
 exact h
theorem cap0 {w : World} {B n c m k : Nat} {a : Option Addr} {t : TypeId} {xs : List Value} (h : w.ownsRow B t k (.slice a n c) m xs) : a = none → c = 0 := fun ha => by
 subst ha
 rcases h.2 with ⟨e, -⟩ | ⟨g, cap, cur, e, -⟩
 ·simp only [Value.slice.injEq] at e
  exact e.2.2
 ·simp only [Value.slice.injEq] at e
  exact absurd e.1 (by simp)

def Sn (xs : List Tg) : Prop := ∀ x ∈ xs, (x.wa = none → x.wc = 0) ∧ (x.ka = none → x.kc = 0)
theorem OI.typed9 {w : World} {B : Nat} {v : Value} {l : List Int} (h : OI w B v l) {b : Nat} (hb : v.ownBlock = some b) : ∃ cur, w.heap[b]? = some (.cells cur 2 (0, 0)) := by
 rcases h.2 with ⟨rfl, -⟩ | ⟨g, cap, cur, rfl, hg, hh, -⟩
 ·cases hb
 ·cases hb; exact ⟨_, hh⟩
theorem Ni.cell {w : World} {lo g j : Nat} {xs : List Int} (h : Ni w lo (some ⟨g, 0, none⟩) xs) (hj : j < xs.length) : w.cell? ⟨g, j, none⟩ = some (.int .i64 (xs.getD j 0)) ∧ w.frozen? ⟨g, j, none⟩ = false := by
 rcases h with ⟨h1, -⟩ | ⟨g', cur, h1, h2, h3, h4⟩
 ·rw [h1] at hj; simp at hj
 ·cases h1
  exact ⟨by rw [cell_of_row w g j _ _ _ h3]; exact h4 j hj, frozen_of_row w g j _ _ h3⟩
def mvK (to ks : List Int) (j : Nat) : List Int := (ks.take j).map (fun k => to.getD k.toNat 0) ++ ks.drop j
theorem mvK_len (to ks : List Int) (j : Nat) : (mvK to ks j).length = ks.length := by simp [mvK]; omega
theorem mvK_get (to ks : List Int) {j i : Nat} (h : j ≤ i) : (mvK to ks j).getD i 0 = ks.getD i 0 := by
 simp only [mvK, List.getD_eq_getElem?_getD]
 by_cases hj : j ≤ ks.length
 ·rw [List.getElem?_append_right (by simp; omega), List.getElem?_drop]
  simp
  rw [Nat.min_eq_left hj, show j + (i - j) = i by omega]
 ·rw [List.getElem?_eq_none (by simp; omega), List.getElem?_eq_none (by omega)]
theorem mvK_step (to ks : List Int) {j : Nat} (h : j < ks.length) : (mvK to ks j).set j (to.getD (ks.getD j 0).toNat 0) = mvK to ks (j + 1) := by
 have e : ks.getD j 0 = ks[j] := by simp [List.getD, h]
 have e1 : ks.drop j = ks[j] :: ks.drop (j + 1) := List.drop_eq_getElem_cons h
 have e2 : ks.take (j + 1) = ks.take j ++ [ks[j]] := by rw [List.take_add_one, List.getElem?_eq_getElem h]; rfl
 rw [e]
 simp only [mvK]
 rw [e1, e2, List.map_append, List.set_append_right _ _ (by simp; omega)]
 simp [Nat.min_eq_left (Nat.le_of_lt h)]
 rw [e1]
 rfl
theorem mvK_all (to ks : List Int) : mvK to ks ks.length = ks.map fun k => to.getD k.toNat 0 := by simp [mvK]

end Go.Proofs.Ytffcklobignlfaa
