/- Several texts in one. -/
import Derived.Test.YtckidgpopbpagaaGreatDoorZGAC
import Derived.Handy
import Derived.Deep.RegionWith
import Derived.Deep.RegionLaw

/- What the program's DeclsOk answers. -/
namespace Go.Proofs.YtckidgpopbpagaaGreatDoor
set_option linter.unusedVariables false
set_option linter.unusedSimpArgs false
open Go.RowKit Go.WideMaps Go.Maps

set_option maxHeartbeats 1000000 in
theorem totalWidth_any (a : Option Addr) (c : Nat) (ds : List Dc) (w : World) (hr : RdD w a ds) (h60 : ds.length ≤ 60) (hok : ∀ d ∈ ds, dcOk d = true) :
    Calls Tryz.prog 57 #[.slice a ds.length c] w fun e w' => e = .returned (.int .i64 (sumW ds)) ∧ Below w.heap.size w w' := by
  have HLN := kide hr.1
  have HALL := kide hok
  go_enter Tryz.func57, Tryz.ntmps57
  clear hok
  go_wp2_with fail
  go_loopw [3, 8] (fun q i wr => ∃ k : Nat, k ≤ ds.length ∧ i = .int .i64 (k : Int) ∧ q = .int .i64 (sumW (ds.take k)) ∧ Below w.heap.size w wr) (fun _ i _ => ds.length - (intOf i).toNat)
  case atStart => exact ⟨0, Nat.zero_le _, rfl, by simp [sumW], Below.refl _ _⟩
  case round =>
    obtain ⟨k, hk, rfl, rfl, hbel⟩ := hrel
    have HB := kide hbel
    by_cases hlt : k < ds.length
    · obtain ⟨-, hsz, h | ⟨b, o, rfl, hc⟩⟩ := hr
      · subst h; simp at hlt
      obtain ⟨⟨t, x⟩, hh⟩ : ∃ x, ds[k] = x := ⟨_, rfl⟩
      have gx : ds[k]? = some (t, x) := by rw [List.getElem?_eq_getElem hlt, hh]
      obtain ⟨p0, p1⟩ := (hc k _ gx).later hbel
      simp only [] at p0 p1
      obtain ⟨hx64, hts⟩ := hsz _ (List.mem_of_getElem? gx)
      simp only [] at hx64 hts
      have i0 : (k : Int) < (ds.length : Int) := by omega
      have hsum := sumW_le (fun d hd => HALL.out d (List.mem_of_mem_take hd) : ∀ d ∈ ds.take k, dcOk d = true)
      have hst := sumW_take gx
      simp only [] at hst
      have htl : (ds.take k).length = k := by simp; omega
      rw [htl] at hsum
      have HST := kide hst
      have hx := (dcOk_iff.1 (HALL.out _ (List.mem_of_getElem? gx))).2
      simp [wOk] at hx
      obtain ⟨hx1, hx2⟩ := hx
      obtain ⟨hs1, hs2⟩ := hsum
      have HA := kide ((HB.out.alloc HB.out.size (Obj.cells #[Value.string t, Value.int .i64 x] 46)))
      clear hc gx hh hsz hst htl hbel
      generalize sumW (ds.take k) = Q at *
      go_wp2_with fail
      go_roundw
      case rel =>
        refine ⟨k + 1, by omega, by go_num, ?_, HA.out⟩
        rw [HST.out]
      case measure => simp [intOf]; omega
    · have e : k = ds.length := by omega
      have HE : Hid (sumW (ds.take k) = sumW ds) := by
        show _ = _
        rw [e, List.take_length]
      generalize sumW (ds.take k) = Q at *
      clear hbel e
      go_wp2_with fail
      go_ret
      exact ⟨by rw [HE.out]; rfl, HB.out⟩

set_option maxHeartbeats 1000000 in
theorem implDecls_any (a : Option Addr) (c : Nat) (ds : List Dc) (w : World) (hr : RdD w a ds) :
    Calls Tryz.prog 41 #[.slice a ds.length c] w fun e w' => e = .returned (.bool (dclR ds)) ∧ Below w.heap.size w w' := by
  have hlen := hr.1
  by_cases h60 : ds.length ≤ 60
  · go_enter Tryz.func41, Tryz.ntmps41
    go_wp2_with fail
    have HLN := kide hlen
    clear hlen
    go_loopw [10] (fun i wr => ∃ k : Nat, k ≤ ds.length ∧ i = .int .i64 (k : Int) ∧ (∀ d ∈ ds.take k, dcOk d = true) ∧ Below w.heap.size w wr) (fun i _ => ds.length - (intOf i).toNat)
    case atStart => exact ⟨0, Nat.zero_le _, rfl, by simp, Below.refl _ _⟩
    case round =>
      obtain ⟨k, hk, rfl, hok, hbel⟩ := hrel
      have HB := kide hbel
      by_cases hlt : k < ds.length
      · obtain ⟨-, hsz, h | ⟨b, o, rfl, hc⟩⟩ := hr
        · subst h; simp at hlt
        obtain ⟨⟨t, x⟩, hh⟩ : ∃ x, ds[k] = x := ⟨_, rfl⟩
        have gx : ds[k]? = some (t, x) := by rw [List.getElem?_eq_getElem hlt, hh]
        obtain ⟨p0, p1⟩ := (hc k _ gx).later hbel
        simp only [] at p0 p1
        obtain ⟨hx64, hts⟩ := hsz _ (List.mem_of_getElem? gx)
        simp only [] at hx64 hts
        have i0 : (k : Int) < (ds.length : Int) := by omega
        have GX := kide gx
        have hsum := sumW_le hok
        have hst := sumW_take gx
        simp only [] at hst
        have htl : (ds.take k).length = k := by simp; omega
        rw [htl] at hsum
        have HST := kide hst
        have HOK := kide hok
        have hN : ∀ u, Calls Tryz.prog 55 #[.string t] u fun e w' => e = .returned (.bool (nmOk t)) ∧ w' = u := fun u => nameOk_any t hts u
        have hW : ∀ u, Calls Tryz.prog 56 #[.int .i64 x] u fun e w' => e = .returned (.bool (wOk x)) ∧ w' = u := fun u => widthOk_any x u
        have HN := kide hN
        have HW := kide hW
        have HBAD : Hid (nmOk t = false ∨ wOk x = false → dclR ds = false) := fun h => dclR_bad gx (by rcases h with h | h <;> simp [dcOk, h])
        have HGOOD : Hid (nmOk t = true → wOk x = true → dcOk (t, x) = true) := fun h h' => by simp [dcOk, h, h']
        have hwx : wOk x = true → 1 ≤ x ∧ x ≤ 4096 := fun h => by simpa [wOk] using h
        have HA := kide ((HB.out.alloc HB.out.size (Obj.cells #[Value.string t, Value.int .i64 x] 46)))
        clear hN hW hc gx hh hsz hok hst htl hbel
        generalize sumW (ds.take k) = Q at *
        generalize nmOk t = r1 at *
        cases r1 with
        | false =>
          have HR := kide (HBAD.out (.inl (by simp)))
          go_wp2_with (go_at_call 55; refine Calls.mono (HN.out _) ?_; rintro e w1 ⟨rfl, rfl⟩)
          go_ret
          exact ⟨ret_bool HR.out.symm, HA.out⟩
        | true =>
          generalize wOk x = r2 at *
          cases r2 with
          | false =>
            have HR := kide (HBAD.out (.inr (by simp)))
            go_wp2_with (first | (go_at_call 55; refine Calls.mono (HN.out _) ?_; rintro e w1 ⟨rfl, rfl⟩) | (go_at_call 56; refine Calls.mono (HW.out _) ?_; rintro e w1 ⟨rfl, rfl⟩))
            go_ret
            exact ⟨ret_bool HR.out.symm, HA.out⟩
          | true =>
            have hx := hwx (by simp)
            obtain ⟨hx1, hx2⟩ := hx
            obtain ⟨hs1, hs2⟩ := hsum
            have HG := kide (HGOOD.out (by simp) (by simp))
            clear HBAD HGOOD hwx
            go_wp2_with (first | (go_at_call 55; refine Calls.mono (HN.out _) ?_; rintro e w1 ⟨rfl, rfl⟩) | (go_at_call 56; refine Calls.mono (HW.out _) ?_; rintro e w1 ⟨rfl, rfl⟩))
            go_roundw
            case rel =>
              refine ⟨k + 1, by omega, by go_num, ?_, HA.out⟩
              · intro d hd
                rw [List.take_add_one, GX.out] at hd
                rcases List.mem_append.1 hd with hd | hd
                · exact HOK.out d hd
                · simp at hd
                  subst hd
                  exact HG.out
            case measure => simp [intOf]; omega
      · have e : k = ds.length := by omega
        rw [e, List.take_length] at hok
        have hs := sumW_le hok
        rw [← List.take_length (l := ds), ← e] at hs
        have HR : Hid (dclR ds = (decide (sumW (ds.take k) ≤ 20000) && decide ((ds.map Prod.fst).Nodup))) := by
          show _ = _
          rw [e, List.take_length]
          rw [Bool.eq_iff_iff, dclR_iff, Bool.and_eq_true, decide_eq_true_eq, decide_eq_true_eq]
          exact ⟨fun h => ⟨h.2.2.1, h.2.2.2⟩, fun h => ⟨h60, hok, h.1, h.2⟩⟩
        have hnm : ∀ d ∈ ds, d.1.size ≤ 1048576 := fun d hd => by
          have := (dcOk_iff.1 (hok d hd)).1
          simp [nmOk] at this
          omega
        have HP := kide (fun u (hu : Below w.heap.size w u) => placesOf_any a c ds u (hr.later hu) hnm)
        have HT := kide (totalWidth_any a c ds wr (hr.later hbel) h60 hok)
        rw [e, List.take_length] at HR hs
        generalize sumW ds = Q at *
        clear hok hbel hs e hnm
        go_wp2_with fail
        refine Calls.mono HT.out ?_
        rintro e wt ⟨rfl, hbt⟩
        have HBT := kide (HB.out.trans (hbt.mono HB.out.size))
        clear hbt
        by_cases hq : Q ≤ 20000
        · have HR2 : Hid (dclR ds = decide ((ds.map Prod.fst).Nodup)) := by
            show _ = _
            rw [HR.out, decide_eq_true hq]; rfl
          go_wp2_with (go_at_call 58; refine Calls.mono (HP.out _ HBT.out) ?_; rintro e w1 ⟨rfl, ⟨D, hown, hpl⟩, hb1⟩; have hml := fun ty => hown.len Tryz.underlying105 ty; have HD : Hid (decide ((ds.map Prod.fst).Nodup) = decide (Maps.size D = ds.length)) := (by show _ = _; rw [Bool.eq_iff_iff, decide_eq_true_eq, decide_eq_true_eq, ← hpl.nodup, List.length_map]); have hle := hpl.le; rw [List.length_map] at hle; clear hown hpl; generalize Maps.size D = n at *)
          go_ret
          exact ⟨ret_bool (by rw [HR2.out, HD.out, Bool.eq_iff_iff]; simp; omega), HBT.out.trans (hb1.mono HBT.out.size)⟩
        · have HR2 : Hid (dclR ds = false) := by
            show _ = _
            rw [HR.out, decide_eq_false hq]; rfl
          go_wp2_with fail
          go_ret
          exact ⟨ret_bool HR2.out.symm, HBT.out⟩
  · rw [dclR_long (by omega)]
    go_enter Tryz.func41, Tryz.ntmps41
    go_wp2_with fail
    go_ret
    exact ⟨rfl, Below.refl _ _⟩

end Go.Proofs.YtckidgpopbpagaaGreatDoor

/- Right forms as plain lists of segments; and what the program says of one segment. -/
namespace Go.Proofs.YtckidgpopbpagaaGreatDoor
set_option linter.unusedVariables false
set_option linter.unusedSimpArgs false
open Go.RowKit

/-- Is a segment right for the variables? -/
def sgOk (ds : List Dc) (s : Sc) : Bool :=
  if s.v = -1 then decide (s.lo = 0) && decide (s.wd = s.bw) && rightB s.bw s.ws
  else decide (0 ≤ s.v) && decide (s.v < ds.length) && decide (s.bw = 0) && decide (s.ws.length = 0) && decide (1 ≤ s.wd) && decide (0 ≤ s.lo) && decide (s.lo + s.wd ≤ (ds.getD s.v.toNat (.empty, 0)).2)

/-- Could two neighbours be one? -/
def oneB (s t : Sc) : Bool := decide (s.v = t.v) && (decide (s.v = -1) || decide (s.lo + s.wd = t.lo))

def flL (ds : List Dc) : Option Sc → List Sc → Bool
  | _, [] => true
  | none, s :: t => sgOk ds s && flL ds (some s) t
  | some q, s :: t => sgOk ds s && !oneB q s && flL ds (some s) t

def sumS : List Sc → Int
  | [] => 0
  | s :: t => s.wd + sumS t

/-- Is a form right? -/
def flatR (ds : List Dc) (fs : List Sc) : Bool := dclR ds && decide (1 ≤ fs.length) && decide (fs.length ≤ 2000) && flL ds none fs && decide (sumS fs ≤ 4096)

theorem rightB_wd {W : Int} {xs : List Nat} (h : rightB W xs = true) : 1 ≤ W ∧ W ≤ 4096 := by
  simp [rightB, wOk] at h
  exact h.1.1

theorem dclR_wd {ds : List Dc} (h : dclR ds = true) {k : Nat} {d : Dc} (hd : ds[k]? = some d) : 1 ≤ d.2 ∧ d.2 ≤ 4096 := (dcOk_iff.1 ((dclR_iff.1 h).2.1 d (List.mem_of_getElem? hd))).2

theorem sgOk_bounds {ds : List Dc} {s : Sc} (hd : dclR ds = true) (h : sgOk ds s = true) : 1 ≤ s.wd ∧ s.wd ≤ 4096 ∧ 0 ≤ s.lo ∧ s.lo ≤ 4096 := by
  unfold sgOk at h
  split at h
  · simp at h
    have := rightB_wd h.2
    omega
  · simp at h
    obtain ⟨⟨⟨⟨⟨⟨h1, h2⟩, h3⟩, h4⟩, h5⟩, h6⟩, h7⟩ := h
    have hl : s.v.toNat < ds.length := by omega
    have := dclR_wd hd (List.getElem?_eq_getElem hl)
    rw [List.getElem?_eq_getElem hl, Option.getD_some] at h7
    omega

theorem sgOk_const {ds : List Dc} {s : Sc} (h : s.v = -1) : sgOk ds s = (decide (s.lo = 0) && decide (s.wd = s.bw) && rightB s.bw s.ws) := by rw [sgOk, if_pos h]
theorem sgOk_out {ds : List Dc} {s : Sc} (h : s.v ≠ -1) (h2 : s.v < 0 ∨ (ds.length : Int) ≤ s.v ∨ s.bw ≠ 0 ∨ s.ws.length ≠ 0) : sgOk ds s = false := by
  rw [sgOk, if_neg h, Bool.eq_false_iff]
  intro h'
  simp at h'
  have h8 := h'.1.1.1.2
  rcases h2 with h2 | h2 | h2 | h2
  · omega
  · omega
  · exact h2 h'.1.1.1.1.2
  · simp [h8] at h2
theorem sgOk_in {ds : List Dc} {s : Sc} {k : Nat} {d : Dc} (hv : s.v = (k : Int)) (hd : ds[k]? = some d) (hb : s.bw = 0) (hw : s.ws.length = 0) : sgOk ds s = (decide (1 ≤ s.wd) && decide (0 ≤ s.lo) && decide (s.lo + s.wd ≤ d.2)) := by
  have hl := (List.getElem?_eq_some_iff.1 hd).1
  rw [sgOk, if_neg (by omega), hv, Int.toNat_natCast]
  have h1 : decide ((0 : Int) ≤ (k : Int)) = true := decide_eq_true (by omega)
  have h2 : decide ((k : Int) < (ds.length : Int)) = true := decide_eq_true (by omega)
  have e : ds.getD k (.empty, 0) = d := by simp [List.getD, hd]
  rw [h1, h2, hb, hw, e]
  simp


end Go.Proofs.YtckidgpopbpagaaGreatDoor

/- What the program's FlatOk answers. -/
namespace Go.Proofs.YtckidgpopbpagaaGreatDoor
set_option linter.unusedVariables false
set_option linter.unusedSimpArgs false
open Go.RowKit

theorem couldBeOne_any (s t : Sc) (a b : Option Addr) (c d : Nat) (w : World) (h1 : 0 ≤ s.lo ∧ s.lo ≤ 4096) (h2 : 0 ≤ s.wd ∧ s.wd ≤ 4096) :
    Calls Tryz.prog 63 #[.agg #[.int .i64 s.v, .int .i64 s.lo, .int .i64 s.wd, .int .i64 s.bw, .slice a s.ws.length c], .agg #[.int .i64 t.v, .int .i64 t.lo, .int .i64 t.wd, .int .i64 t.bw, .slice b t.ws.length d]] w fun e w' => e = .returned (.bool (oneB s t)) ∧ Below w.heap.size w w' := by
  have hb2 : Below w.heap.size w ((w.alloc (Obj.cells #[Value.int .i64 s.v, Value.int .i64 s.lo, Value.int .i64 s.wd, Value.int .i64 s.bw, Value.slice a s.ws.length c] 67)).alloc (Obj.cells #[Value.int .i64 t.v, Value.int .i64 t.lo, Value.int .i64 t.wd, Value.int .i64 t.bw, Value.slice b t.ws.length d] 67)) := ((Below.refl _ _).alloc (Nat.le_refl _) _).alloc (by simp) _
  obtain ⟨v, lo, wd, bw, ws⟩ := s
  obtain ⟨v', lo', wd', bw', ws'⟩ := t
  simp only [oneB] at h1 h2 hb2 ⊢
  obtain ⟨l1, l2⟩ := h1
  obtain ⟨l3, l4⟩ := h2
  have B2 := kide hb2
  clear hb2
  by_cases h : v = v'
  · have e1 : (v == v') = true := by simp [h]
    by_cases hv : v = -1
    · have e2 : (v == -1) = true := by simp [hv]
      have hR : (decide (v = v') && (decide (v = -1) || decide (lo + wd = lo'))) = true := by simp [← h, hv]
      rw [hR]
      clear hR h hv
      go_enter Tryz.func63, Tryz.ntmps63
      go_wp2_with fail
      first | go_quiet (fail) | skip
      go_wp2_with fail
      go_ret
      exact ⟨rfl, by first | exact B2.out | exact below_drewN B2.out _⟩
    · have e2 : (v == -1) = false := by simp [hv]
      have hR : (decide (v = v') && (decide (v = -1) || decide (lo + wd = lo'))) = decide (lo + wd = lo') := by simp [← h, hv]
      rw [hR]
      clear hR h hv
      go_enter Tryz.func63, Tryz.ntmps63
      go_wp2_with fail
      first | go_quiet (fail) | skip
      go_wp2_with fail
      go_ret
      exact ⟨ret_bool (by rw [Bool.eq_iff_iff]; simp), by first | exact B2.out | exact below_drewN B2.out _⟩
  · have e1 : (v == v') = false := by simp [h]
    have hR : (decide (v = v') && (decide (v = -1) || decide (lo + wd = lo'))) = false := by simp [h]
    rw [hR]
    clear hR h
    go_enter Tryz.func63, Tryz.ntmps63
    go_wp2_with fail
    first | go_quiet (fail) | skip
    go_wp2_with fail
    go_ret
    exact ⟨rfl, by first | exact B2.out | exact below_drewN B2.out _⟩

theorem sumS_append (xs ys : List Sc) : sumS (xs ++ ys) = sumS xs + sumS ys := by
  induction xs with
  | nil => simp [sumS]
  | cons x xs ih => simp [sumS, ih]; omega
theorem sumS_take {cs : List Sc} {k : Nat} {c : Sc} (h : cs[k]? = some c) : sumS (cs.take (k + 1)) = sumS (cs.take k) + c.wd := by
  rw [List.take_add_one, h, sumS_append]
  simp [sumS]

theorem formWidth_any (a : Option Addr) (c n : Nat) (xs : List Sg) (w : World) (hr : RdS w a xs) (hn : xs.length = n) (h2000 : n ≤ 2000) (hw : ∀ x ∈ xs, 1 ≤ x.ct.wd ∧ x.ct.wd ≤ 4096) :
    Calls Tryz.prog 68 #[.slice a n c] w fun e w' => e = .returned (.int .i64 (sumS (xs.map Sg.ct))) ∧ Below w.heap.size w w' := by
  have hR : sumS (xs.map Sg.ct) = sumS ((xs.map Sg.ct).take n) := by rw [List.take_of_length_le (by simp [hn])]
  rw [hR]
  have HR := kide hr
  have HN := kide hn
  have HW := kide hw
  clear hr hn hw hR
  go_enter Tryz.func68, Tryz.ntmps68
  go_wp2_with fail
  go_loopw [3, 8] (fun q i wr => ∃ k : Nat, k ≤ n ∧ i = .int .i64 (k : Int) ∧ q = .int .i64 (sumS ((xs.map Sg.ct).take k)) ∧ 0 ≤ sumS ((xs.map Sg.ct).take k) ∧ sumS ((xs.map Sg.ct).take k) ≤ 4096 * (k : Int) ∧ Below w.heap.size w wr) (fun _ i _ => n - (intOf i).toNat)
  case atStart => exact ⟨0, Nat.zero_le _, rfl, by simp [sumS], by simp [sumS], by simp [sumS], Below.refl _ _⟩
  case round =>
    obtain ⟨k, hk, rfl, rfl, hq0, hq1, hbel⟩ := hrel
    have HB := kide hbel
    by_cases hlt : k < n
    · obtain ⟨-, h | ⟨b2, o2, rfl, hc2⟩⟩ := HR.out
      · have := HN.out; subst h; simp at this; omega
      obtain ⟨⟨s, a1, c1⟩, gx⟩ : ∃ x, xs[k]? = some x := ⟨xs[k]'(by rw [HN.out]; exact hlt), List.getElem?_eq_getElem _⟩
      obtain ⟨⟨p0, p1, p2, p3, p4⟩, -⟩ := (hc2 k _ gx).later hbel
      have hst := sumS_take (cs := xs.map Sg.ct) (k := k) (c := s) (by rw [List.getElem?_map, gx]; rfl)
      obtain ⟨hw1, hw2⟩ := HW.out _ (List.mem_of_getElem? gx)
      obtain ⟨v, lo, wd, bw, ws⟩ := s
      simp only [Sg.hd] at p0 p1 p2 p3 p4 hst hw1 hw2
      have HST := kide hst
      have HA := kide (HB.out.alloc HB.out.size (Obj.cells #[Value.int .i64 v, Value.int .i64 lo, Value.int .i64 wd, Value.int .i64 bw, Value.slice a1 ws.length c1] 67))
      have i0 : (k : Int) < (n : Int) := by omega
      clear hc2 gx hst HR hbel
      generalize sumS ((xs.map Sg.ct).take k) = Q at *
      go_wp2_with fail
      go_roundw
      case rel => exact ⟨k + 1, by omega, by go_num, by rw [HST.out], by rw [HST.out]; omega, by rw [HST.out]; omega, HA.out⟩
      case measure => simp [intOf]; omega
    · have e : k = n := by omega
      subst e
      clear HR hbel
      generalize hQ : sumS ((xs.map Sg.ct).take k) = Q at *
      have HQ := kide hQ
      clear hQ
      go_wp2_with fail
      go_ret
      exact ⟨ret_int (by rw [HQ.out]), HB.out⟩

end Go.Proofs.YtckidgpopbpagaaGreatDoor

/- What the program's FlatOk answers: the whole of it. -/
namespace Go.Proofs.YtckidgpopbpagaaGreatDoor
set_option linter.unusedVariables false
set_option linter.unusedSimpArgs false
open Go.RowKit

theorem kwrap {n : Int} (h : -9223372036854775808 ≤ n ∧ n ≤ 9223372036854775807) : IntKind.i64.wrap n = n := by rw [IntKind.wrap_i64]; omega

/-- How a form is looked at, segment by segment: k of them are done. -/
def flAt (ds : List Dc) (fs : List Sc) (k : Nat) : Bool := flL ds (if k = 0 then none else fs[k - 1]?) (fs.drop k)

theorem flAt_end {ds : List Dc} {fs : List Sc} : flAt ds fs fs.length = true := by
  unfold flAt
  rw [List.drop_length]
  split <;> rename_i h <;> (try cases h) <;> simp [flL]

theorem flAt_zero {ds : List Dc} {fs : List Sc} {s : Sc} (h : fs[0]? = some s) : flAt ds fs 0 = (sgOk ds s && flAt ds fs 1) := by
  have l := (List.getElem?_eq_some_iff.1 h).1
  unfold flAt
  rw [List.drop_eq_getElem_cons l]
  rw [List.getElem?_eq_getElem l] at h
  cases h
  simp [flL, l]
theorem flAt_succ {ds : List Dc} {fs : List Sc} {k : Nat} {q s : Sc} (hq : fs[k]? = some q) (h : fs[k + 1]? = some s) : flAt ds fs (k + 1) = (sgOk ds s && !oneB q s && flAt ds fs (k + 1 + 1)) := by
  have l := (List.getElem?_eq_some_iff.1 h).1
  unfold flAt
  rw [List.drop_eq_getElem_cons l]
  rw [List.getElem?_eq_getElem l] at h
  cases h
  rw [if_neg (by omega), if_neg (by omega), Nat.add_sub_cancel, Nat.add_sub_cancel, hq, flL, List.getElem?_eq_getElem l]

theorem all_of_flAt {ds : List Dc} {fs : List Sc} : ∀ (k : Nat), (∀ i s, i < k → fs[i]? = some s → sgOk ds s = true) → flAt ds fs k = true → ∀ s ∈ fs, sgOk ds s = true := by
  intro k hk h s hs
  obtain ⟨i, hi, e⟩ := List.mem_iff_getElem.1 hs
  have gen : ∀ (d k : Nat), fs.length - k = d → (∀ (i : Nat) (s : Sc), i < k → fs[i]? = some s → sgOk ds s = true) → flAt ds fs k = true → ∀ (i : Nat) (s : Sc), fs[i]? = some s → sgOk ds s = true := by
    intro d
    induction d with
    | zero =>
      intro k hd hk _ i s hi
      exact hk i s (by have := (List.getElem?_eq_some_iff.1 hi).1; omega) hi
    | succ d ih =>
      intro k hd hk h
      have hkl : k < fs.length := by omega
      have hg := List.getElem?_eq_getElem hkl
      have hok : sgOk ds fs[k] = true ∧ flAt ds fs (k + 1) = true := by
        cases k with
        | zero => rw [flAt_zero hg] at h; simp at h; exact h
        | succ k =>
          rw [flAt_succ (List.getElem?_eq_getElem (by omega)) hg] at h
          simp at h
          exact ⟨h.1.1, h.2⟩
      refine ih (k + 1) (by omega) (fun i s hi hs => ?_) hok.2
      by_cases hik : i = k
      · subst hik
        rw [hg] at hs
        cases hs
        exact hok.1
      · exact hk i s (by omega) hs
  exact gen _ k rfl hk h i s (by rw [List.getElem?_eq_getElem hi, e])

/-- What is asked of a form where the variables are right. -/
def formR (ds : List Dc) (fs : List Sc) : Bool := decide (1 ≤ fs.length) && decide (fs.length ≤ 2000) && flAt ds fs 0 && decide (sumS fs ≤ 4096)

theorem flatR_form (ds : List Dc) (fs : List Sc) : flatR ds fs = (dclR ds && formR ds fs) := by
  simp [flatR, formR, flAt, Bool.and_assoc]


end Go.Proofs.YtckidgpopbpagaaGreatDoor

/- What a form is by values: plainly. -/
namespace Go.Proofs.YtckidgpopbpagaaGreatDoor
set_option linter.unusedVariables false
set_option linter.unusedSimpArgs false
open Go.RowKit

abbrev Wr := Int × List Nat
/-- The bit k of a segment by values. -/
def segB (vs : List Wr) (s : Sc) (k : Nat) : Bool := if s.v = -1 then tb s.ws k else tb (vs.getD s.v.toNat (0, [])).2 (s.lo.toNat + k)
def segL (vs : List Wr) (s : Sc) : List Nat := (List.range s.wd.toNat).map fun k => (segB vs s k).toNat
def flatL (vs : List Wr) (fs : List Sc) : List Nat := fs.flatMap (segL vs)
theorem segL_len (vs : List Wr) (s : Sc) : (segL vs s).length = s.wd.toNat := by simp [segL]
theorem segL_le (vs : List Wr) (s : Sc) : ∀ x ∈ segL vs s, x ≤ 1 := by
  intro x hx
  obtain ⟨k, -, rfl⟩ := List.mem_map.1 hx
  cases segB vs s k <;> simp
theorem flatL_le (vs : List Wr) (fs : List Sc) : ∀ x ∈ flatL vs fs, x ≤ 1 := by
  intro x hx
  obtain ⟨s, -, h⟩ := List.mem_flatMap.1 hx
  exact segL_le vs s x h
theorem flatL_len (vs : List Wr) (fs : List Sc) (h : ∀ s ∈ fs, 0 ≤ s.wd) : ((flatL vs fs).length : Int) = sumS fs := by
  induction fs with
  | nil => simp [flatL, sumS]
  | cons s t ih =>
    have h1 := ih fun x hx => h x (List.mem_cons_of_mem _ hx)
    have h2 := h s (by simp)
    have e : flatL vs (s :: t) = segL vs s ++ flatL vs t := by simp [flatL]
    rw [e, List.length_append, segL_len, sumS]
    simp
    omega
theorem flatL_snoc (vs : List Wr) (fs : List Sc) {k : Nat} {s : Sc} (h : fs[k]? = some s) : flatL vs (fs.take (k + 1)) = flatL vs (fs.take k) ++ segL vs s := by
  rw [List.take_add_one, h]
  simp [flatL]

/-- What right segments are. -/
theorem sgOk_cst {ds : List Dc} {s : Sc} (h : sgOk ds s = true) (hv : s.v = -1) : s.lo = 0 ∧ s.wd = s.bw ∧ rightB s.bw s.ws = true := by
  rw [sgOk, if_pos hv] at h
  simp only [Bool.and_eq_true, decide_eq_true_eq] at h
  exact ⟨h.1.1, h.1.2, h.2⟩
theorem sgOk_vr {ds : List Dc} {s : Sc} (h : sgOk ds s = true) (hv : s.v ≠ -1) : 0 ≤ s.v ∧ s.v < ds.length ∧ 1 ≤ s.wd ∧ 0 ≤ s.lo ∧ s.lo + s.wd ≤ (ds.getD s.v.toNat (.empty, 0)).2 := by
  rw [sgOk, if_neg hv] at h
  simp only [Bool.and_eq_true, decide_eq_true_eq] at h
  exact ⟨h.1.1.1.1.1.1, h.1.1.1.1.1.2, h.1.1.2, h.1.2, h.2⟩
theorem sgOk_wdt {ds : List Dc} {s : Sc} (hD : dclR ds = true) (h : sgOk ds s = true) : 1 ≤ s.wd ∧ s.wd ≤ 4096 := by
  by_cases hv : s.v = -1
  · obtain ⟨-, h2, h3⟩ := sgOk_cst h hv
    have := rightB_wd h3
    omega
  · obtain ⟨h1, h2, h3, h4, h5⟩ := sgOk_vr h hv
    have hk : s.v.toNat < ds.length := by omega
    have e : ds.getD s.v.toNat (.empty, 0) = ds[s.v.toNat] := by simp [List.getD, hk]
    rw [e] at h5
    have := dclR_wd hD (List.getElem?_eq_getElem hk)
    omega

theorem formR_sum {ds : List Dc} {fs : List Sc} (hD : dclR ds = true) (h : formR ds fs = true) : (∀ s ∈ fs, sgOk ds s = true ∧ 1 ≤ s.wd ∧ s.wd ≤ 4096) ∧ 1 ≤ sumS fs ∧ sumS fs ≤ 4096 ∧ fs.length ≤ 2000 := by
  simp only [formR, Bool.and_eq_true, decide_eq_true_eq] at h
  obtain ⟨⟨⟨h1, h2⟩, h3⟩, h4⟩ := h
  have ha := all_of_flAt (ds := ds) (fs := fs) 0 (fun i s hi => by omega) h3
  have hb : ∀ s ∈ fs, sgOk ds s = true ∧ 1 ≤ s.wd ∧ s.wd ≤ 4096 := fun s hs => ⟨ha s hs, sgOk_wdt hD (ha s hs)⟩
  refine ⟨hb, ?_, h4, h2⟩
  have gen : ∀ (l : List Sc), (∀ s ∈ l, 1 ≤ s.wd) → (l.length : Int) ≤ sumS l := by
    intro l
    induction l with
    | nil => intro _; simp [sumS]
    | cons s t ih =>
      intro hl
      have := ih fun x hx => hl x (List.mem_cons_of_mem _ hx)
      have := hl s (by simp)
      simp only [sumS, List.length_cons]
      omega
  have := gen fs fun s hs => (hb s hs).2.1
  omega
theorem take_sum {fs : List Sc} (h : ∀ s ∈ fs, 1 ≤ s.wd) (k : Nat) : sumS (fs.take k) ≤ sumS fs := by
  have e : sumS fs = sumS (fs.take k) + sumS (fs.drop k) := by rw [← sumS_append, List.take_append_drop]
  have gen : ∀ (l : List Sc), (∀ s ∈ l, 1 ≤ s.wd) → 0 ≤ sumS l := by
    intro l
    induction l with
    | nil => intro _; simp [sumS]
    | cons s t ih =>
      intro hl
      have := ih fun x hx => hl x (List.mem_cons_of_mem _ hx)
      have := hl s (by simp)
      simp only [sumS]
      omega
  have := gen (fs.drop k) fun s hs => h s (List.mem_of_mem_drop hs)
  omega

end Go.Proofs.YtckidgpopbpagaaGreatDoor
