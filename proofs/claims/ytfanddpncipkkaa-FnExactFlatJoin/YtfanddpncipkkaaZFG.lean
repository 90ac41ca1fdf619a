/- Several texts in one. -/
import Derived.Test.YtfanddpncipkkaaZFF
import Derived.Handy
import Derived.Deep.RegionWith

/- What the given DeclsOk answers. -/
namespace Go.Proofs.Ytfanddpncipkkaa
set_option linter.unusedVariables false
set_option linter.unusedSimpArgs false
open Go.RowKit Go.WideMaps Go.Maps

set_option maxHeartbeats 1000000 in
theorem specDecls_any (a : Option Addr) (c : Nat) (ds : List Dc) (w : World) (hr : RdD w a ds) :
    Calls Try.prog 49 #[.slice a ds.length c] w fun e w' => e = .returned (.bool (dclR ds)) ∧ Below w.heap.size w w' := by
  have hlen := hr.1
  by_cases h60 : ds.length ≤ 60
  · go_enter Try.func49, Try.ntmps49
    go_wp2_with fail
    have HLN := kide hlen
    clear hlen
    go_loopw [3, 4] (fun q i wr => ∃ k : Nat, k ≤ ds.length ∧ i = .int .i64 (k : Int) ∧ q = .int .i64 (sumW (ds.take k)) ∧ (∀ d ∈ ds.take k, dcOk d = true) ∧ ((ds.take k).map Prod.fst).Nodup ∧ Below w.heap.size w wr) (fun _ i _ => ds.length - (intOf i).toNat)
    case atStart => exact ⟨0, Nat.zero_le _, rfl, by simp [sumW], by simp, by simp, Below.refl _ _⟩
    case round =>
      obtain ⟨k, hk, rfl, rfl, hok, hnd, hbel⟩ := hrel
      have HB := kide hbel
      by_cases hlt : k < ds.length
      · obtain ⟨-, hsz, h | ⟨b, o, rfl, hc⟩⟩ := hr
        · subst h; simp at hlt
        obtain ⟨⟨t, x⟩, hh⟩ : ∃ x, ds[k] = x := ⟨_, rfl⟩
        have gx : ds[k]? = some (t, x) := by rw [List.getElem?_eq_getElem hlt, hh]
        obtain ⟨p0, p1⟩ := (hc k _ gx).later hbel
        simp only [] at p0 p1
        obtain ⟨hx64, hts⟩ := hsz _ (List.mem_of_getElem? gx)
        simp only [] at hx64 hts
        have i0 : (k : Int) < (ds.length : Int) := by omega
        have HC := kide hc
        have GX := kide gx
        have hsum := sumW_le hok
        have hst := sumW_take gx
        simp only [] at hst
        have htl : (ds.take k).length = k := by simp; omega
        rw [htl] at hsum
        have HST := kide hst
        have HOK := kide hok
        have HND := kide hnd
        have hN : ∀ u, Calls Try.prog 72 #[.string t] u fun e w' => e = .returned (.bool (nmOk t)) ∧ w' = u := fun u => l1Name_any t hts u
        have hW : ∀ u, Calls Try.prog 70 #[.int .i64 x, .int .i64 1, .int .i64 4096] u fun e w' => e = .returned (.bool (wOk x)) ∧ w' = u := fun u => l1In_any x 1 4096 u
        have HN := kide hN
        have HW := kide hW
        have HBAD : Hid (nmOk t = false ∨ wOk x = false → dclR ds = false) := fun h => dclR_bad gx (by rcases h with h | h <;> simp [dcOk, h])
        have HGOOD : Hid (nmOk t = true → wOk x = true → dcOk (t, x) = true) := fun h h' => by simp [dcOk, h, h']
        have hwx : wOk x = true → 1 ≤ x ∧ x ≤ 4096 := fun h => by simpa [wOk] using h
        clear hN hW hc gx hh hsz hok hnd hst htl hbel
        generalize sumW (ds.take k) = Q at *
        generalize nmOk t = r1 at *
        cases r1 with
        | false =>
          have HR := kide (HBAD.out (.inl (by simp)))
          go_wp2_with (go_at_call 72; refine Calls.mono (HN.out _) ?_; rintro e w1 ⟨rfl, rfl⟩)
          go_ret
          exact ⟨ret_bool HR.out.symm, HB.out⟩
        | true =>
          generalize wOk x = r2 at *
          cases r2 with
          | false =>
            have HR := kide (HBAD.out (.inr (by simp)))
            go_wp2_with (first | (go_at_call 72; refine Calls.mono (HN.out _) ?_; rintro e wr ⟨rfl, rfl⟩) | (go_at_call 70; refine Calls.mono (HW.out _) ?_; rintro e wr ⟨rfl, rfl⟩))
            go_ret
            exact ⟨ret_bool HR.out.symm, HB.out⟩
          | true =>
            have hx := hwx (by simp)
            obtain ⟨hx1, hx2⟩ := hx
            have HG := kide (HGOOD.out (by simp) (by simp))
            clear HBAD HGOOD hwx
            go_wp2_with (first | (go_at_call 72; refine Calls.mono (HN.out _) ?_; rintro e wr ⟨rfl, rfl⟩) | (go_at_call 70; refine Calls.mono (HW.out _) ?_; rintro e wr ⟨rfl, rfl⟩))
            obtain ⟨hs1, hs2⟩ := hsum
            have hlk := block_lt_of_cell p0
            rename_i wo
            go_loopw [5] (fun i wr => ∃ j : Nat, j ≤ k ∧ i = .int .i64 (j : Int) ∧ (∀ i d, i < j → ds[i]? = some d → d.1 ≠ t) ∧ Below w.heap.size w wr) (fun i _ => k - (intOf i).toNat)
            case atStart => exact ⟨0, Nat.zero_le _, rfl, fun i d h => by omega, HB.out⟩
            case round =>
              obtain ⟨j, hj, rfl, hne, hbel⟩ := hrel
              clear p0 p1 HB
              obtain ⟨p0, p1⟩ := (HC.out k _ GX.out).later hbel
              simp only [] at p0 p1
              have HB := kide hbel
              have HNE := kide hne
              clear hbel hne
              by_cases hjk : j < k
              · obtain ⟨⟨t2, x2⟩, hh2⟩ : ∃ x, ds[j]'(by omega) = x := ⟨_, rfl⟩
                have gx2 : ds[j]? = some (t2, x2) := by rw [List.getElem?_eq_getElem (by omega), hh2]
                obtain ⟨q0, q1⟩ := (HC.out j _ gx2).later HB.out
                simp only [] at q0 q1
                have GX2 := kide gx2
                have j0 : (j : Int) < (k : Int) := by omega
                have j1 : (j : Int) < (ds.length : Int) := by omega
                clear gx2 hh2
                by_cases ht : t2 = t
                · subst ht
                  have HR : Hid (dclR ds = false) := by
                    show _ = _
                    rw [Bool.eq_false_iff]; intro h'
                    have hnd := (dclR_iff.1 h').2.2.2
                    have h1 : (ds.map Prod.fst)[j]? = some t2 := by simp [GX2.out]
                    have h2 : (ds.map Prod.fst)[k]? = some t2 := by simp [GX.out]
                    have := (List.getElem?_inj (by simp; omega) hnd).1 (h1.trans h2.symm)
                    omega
                  go_wp2_with fail
                  go_quiet (fail)
                  go_wp2_with fail
                  go_ret
                  exact ⟨ret_bool HR.out.symm, below_drewN HB.out _⟩
                · have hne2 := kstr_ne ht
                  have HT := kide ht
                  clear ht
                  go_wp2_with fail
                  go_quiet (fail)
                  go_wp2_with fail
                  go_roundw
                  case rel =>
                    refine ⟨j + 1, by omega, by go_num, fun i d hi hd => ?_, below_drewN HB.out _⟩
                    by_cases hij : i = j
                    · subst hij
                      rw [GX2.out] at hd
                      cases hd
                      exact HT.out
                    · exact HNE.out i d (by omega) hd
                  case measure => simp [intOf]; omega
              · have hjk' : j = k := by omega
                have HJ := kide hjk'
                clear hjk'
                go_wp2_with fail
                go_roundw
                case rel =>
                  refine ⟨k + 1, by omega, by go_num, ?_, ?_, ?_, HB.out⟩
                  · rw [HST.out]
                  · intro d hd
                    rw [List.take_add_one, GX.out] at hd
                    rcases List.mem_append.1 hd with hd | hd
                    · exact HOK.out d hd
                    · simp at hd
                      subst hd
                      exact HG.out
                  · rw [List.take_add_one, GX.out, List.map_append]
                    refine List.nodup_append.2 ⟨HND.out, by simp, fun y hy z hz => ?_⟩
                    simp at hz
                    subst hz
                    obtain ⟨d, hd, rfl⟩ := List.mem_map.1 hy
                    obtain ⟨i, hi, hid⟩ := List.mem_iff_getElem.1 hd
                    simp at hi hid
                    have := HNE.out i d (by rw [HJ.out]; omega) (by rw [List.getElem?_eq_getElem (by omega)]; exact congrArg some hid)
                    exact this
                case measure => simp [intOf]; omega
      · have e : k = ds.length := by omega
        rw [e, List.take_length] at hok hnd
        have hs := sumW_le hok
        have HR : Hid (dclR ds = decide (sumW (ds.take k) ≤ 20000)) := by
          show _ = _
          rw [e, List.take_length]
          rw [Bool.eq_iff_iff, dclR_iff, decide_eq_true_eq]
          exact ⟨fun h => h.2.2.1, fun h => ⟨h60, hok, h, hnd⟩⟩
        generalize sumW (ds.take k) = Q at *
        clear hok hnd hbel hs e
        go_wp2_with fail
        go_ret
        exact ⟨ret_bool HR.out.symm, HB.out⟩
  · rw [dclR_long (by omega)]
    go_enter Try.func49, Try.ntmps49
    go_wp2_with fail
    go_ret
    exact ⟨rfl, Below.refl _ _⟩

end Go.Proofs.Ytfanddpncipkkaa

/- What the program's DeclsOk answers. -/
namespace Go.Proofs.Ytfanddpncipkkaa
set_option linter.unusedVariables false
set_option linter.unusedSimpArgs false
open Go.RowKit Go.WideMaps Go.Maps

set_option maxHeartbeats 1000000 in
theorem totalWidth_any (a : Option Addr) (c : Nat) (ds : List Dc) (w : World) (hr : RdD w a ds) (h60 : ds.length ≤ 60) (hok : ∀ d ∈ ds, dcOk d = true) :
    Calls Try.prog 78 #[.slice a ds.length c] w fun e w' => e = .returned (.int .i64 (sumW ds)) ∧ Below w.heap.size w w' := by
  have HLN := kide hr.1
  have HALL := kide hok
  go_enter Try.func78, Try.ntmps78
  clear hok
  go_wp2_with fail
  go_loopw [3, 8] (fun q i wr => ∃ k : Nat, k ≤ ds.length ∧ i = .int .i64 (k : Int) ∧ q = .int .i64 (sumW (ds.take k)) ∧ Below w.heap.size w wr) (fun _ i _ => ds.length - (intOf i).toNat)
  case atStart => exact ⟨0, Nat.zero_le _, rfl, by simp [sumW], Below.refl _ _⟩
  case round =>
    obtain ⟨k, hk, rfl, rfl, hbel⟩ := hrel
    have HB := kide hbel
    by_cases hlt : k < ds.length
    · obtain ⟨-, hsz, h | ⟨b, o, rfl, hc⟩⟩ := hr
      · subst h; simp at hlt
      obtain ⟨⟨t, x⟩, hh⟩ : ∃ x, ds[k] = x := ⟨_, rfl⟩
      have gx : ds[k]? = some (t, x) := by rw [List.getElem?_eq_getElem hlt, hh]
      obtain ⟨p0, p1⟩ := (hc k _ gx).later hbel
      simp only [] at p0 p1
      obtain ⟨hx64, hts⟩ := hsz _ (List.mem_of_getElem? gx)
      simp only [] at hx64 hts
      have i0 : (k : Int) < (ds.length : Int) := by omega
      have hsum := sumW_le (fun d hd => HALL.out d (List.mem_of_mem_take hd) : ∀ d ∈ ds.take k, dcOk d = true)
      have hst := sumW_take gx
      simp only [] at hst
      have htl : (ds.take k).length = k := by simp; omega
      rw [htl] at hsum
      have HST := kide hst
      have hx := (dcOk_iff.1 (HALL.out _ (List.mem_of_getElem? gx))).2
      simp [wOk] at hx
      obtain ⟨hx1, hx2⟩ := hx
      obtain ⟨hs1, hs2⟩ := hsum
      have HA := kide ((HB.out.alloc HB.out.size (Obj.cells #[Value.string t, Value.int .i64 x] 59)))
      clear hc gx hh hsz hst htl hbel
      generalize sumW (ds.take k) = Q at *
      go_wp2_with fail
      go_roundw
      case rel =>
        refine ⟨k + 1, by omega, by go_num, ?_, HA.out⟩
        rw [HST.out]
      case measure => simp [intOf]; omega
    · have e : k = ds.length := by omega
      have HE : Hid (sumW (ds.take k) = sumW ds) := by
        show _ = _
        rw [e, List.take_length]
      generalize sumW (ds.take k) = Q at *
      clear hbel e
      go_wp2_with fail
      go_ret
      exact ⟨by rw [HE.out]; rfl, HB.out⟩

set_option maxHeartbeats 1000000 in
theorem implDecls_any (a : Option Addr) (c : Nat) (ds : List Dc) (w : World) (hr : RdD w a ds) :
    Calls Try.prog 54 #[.slice a ds.length c] w fun e w' => e = .returned (.bool (dclR ds)) ∧ Below w.heap.size w w' := by
  have hlen := hr.1
  by_cases h60 : ds.length ≤ 60
  · go_enter Try.func54, Try.ntmps54
    go_wp2_with fail
    have HLN := kide hlen
    clear hlen
    go_loopw [10] (fun i wr => ∃ k : Nat, k ≤ ds.length ∧ i = .int .i64 (k : Int) ∧ (∀ d ∈ ds.take k, dcOk d = true) ∧ Below w.heap.size w wr) (fun i _ => ds.length - (intOf i).toNat)
    case atStart => exact ⟨0, Nat.zero_le _, rfl, by simp, Below.refl _ _⟩
    case round =>
      obtain ⟨k, hk, rfl, hok, hbel⟩ := hrel
      have HB := kide hbel
      by_cases hlt : k < ds.length
      · obtain ⟨-, hsz, h | ⟨b, o, rfl, hc⟩⟩ := hr
        · subst h; simp at hlt
        obtain ⟨⟨t, x⟩, hh⟩ : ∃ x, ds[k] = x := ⟨_, rfl⟩
        have gx : ds[k]? = some (t, x) := by rw [List.getElem?_eq_getElem hlt, hh]
        obtain ⟨p0, p1⟩ := (hc k _ gx).later hbel
        simp only [] at p0 p1
        obtain ⟨hx64, hts⟩ := hsz _ (List.mem_of_getElem? gx)
        simp only [] at hx64 hts
        have i0 : (k : Int) < (ds.length : Int) := by omega
        have GX := kide gx
        have hsum := sumW_le hok
        have hst := sumW_take gx
        simp only [] at hst
        have htl : (ds.take k).length = k := by simp; omega
        rw [htl] at hsum
        have HST := kide hst
        have HOK := kide hok
        have hN : ∀ u, Calls Try.prog 76 #[.string t] u fun e w' => e = .returned (.bool (nmOk t)) ∧ w' = u := fun u => nameOk_any t hts u
        have hW : ∀ u, Calls Try.prog 77 #[.int .i64 x] u fun e w' => e = .returned (.bool (wOk x)) ∧ w' = u := fun u => widthOk_any x u
        have HN := kide hN
        have HW := kide hW
        have HBAD : Hid (nmOk t = false ∨ wOk x = false → dclR ds = false) := fun h => dclR_bad gx (by rcases h with h | h <;> simp [dcOk, h])
        have HGOOD : Hid (nmOk t = true → wOk x = true → dcOk (t, x) = true) := fun h h' => by simp [dcOk, h, h']
        have hwx : wOk x = true → 1 ≤ x ∧ x ≤ 4096 := fun h => by simpa [wOk] using h
        have HA := kide ((HB.out.alloc HB.out.size (Obj.cells #[Value.string t, Value.int .i64 x] 59)))
        clear hN hW hc gx hh hsz hok hst htl hbel
        generalize sumW (ds.take k) = Q at *
        generalize nmOk t = r1 at *
        cases r1 with
        | false =>
          have HR := kide (HBAD.out (.inl (by simp)))
          go_wp2_with (go_at_call 76; refine Calls.mono (HN.out _) ?_; rintro e w1 ⟨rfl, rfl⟩)
          go_ret
          exact ⟨ret_bool HR.out.symm, HA.out⟩
        | true =>
          generalize wOk x = r2 at *
          cases r2 with
          | false =>
            have HR := kide (HBAD.out (.inr (by simp)))
            go_wp2_with (first | (go_at_call 76; refine Calls.mono (HN.out _) ?_; rintro e w1 ⟨rfl, rfl⟩) | (go_at_call 77; refine Calls.mono (HW.out _) ?_; rintro e w1 ⟨rfl, rfl⟩))
            go_ret
            exact ⟨ret_bool HR.out.symm, HA.out⟩
          | true =>
            have hx := hwx (by simp)
            obtain ⟨hx1, hx2⟩ := hx
            obtain ⟨hs1, hs2⟩ := hsum
            have HG := kide (HGOOD.out (by simp) (by simp))
            clear HBAD HGOOD hwx
            go_wp2_with (first | (go_at_call 76; refine Calls.mono (HN.out _) ?_; rintro e w1 ⟨rfl, rfl⟩) | (go_at_call 77; refine Calls.mono (HW.out _) ?_; rintro e w1 ⟨rfl, rfl⟩))
            go_roundw
            case rel =>
              refine ⟨k + 1, by omega, by go_num, ?_, HA.out⟩
              · intro d hd
                rw [List.take_add_one, GX.out] at hd
                rcases List.mem_append.1 hd with hd | hd
                · exact HOK.out d hd
                · simp at hd
                  subst hd
                  exact HG.out
            case measure => simp [intOf]; omega
      · have e : k = ds.length := by omega
        rw [e, List.take_length] at hok
        have hs := sumW_le hok
        rw [← List.take_length (l := ds), ← e] at hs
        have HR : Hid (dclR ds = (decide (sumW (ds.take k) ≤ 20000) && decide ((ds.map Prod.fst).Nodup))) := by
          show _ = _
          rw [e, List.take_length]
          rw [Bool.eq_iff_iff, dclR_iff, Bool.and_eq_true, decide_eq_true_eq, decide_eq_true_eq]
          exact ⟨fun h => ⟨h.2.2.1, h.2.2.2⟩, fun h => ⟨h60, hok, h.1, h.2⟩⟩
        have hnm : ∀ d ∈ ds, d.1.size ≤ 1048576 := fun d hd => by
          have := (dcOk_iff.1 (hok d hd)).1
          simp [nmOk] at this
          omega
        have HP := kide (fun u (hu : Below w.heap.size w u) => placesOf_any a c ds u (hr.later hu) hnm)
        have HT := kide (totalWidth_any a c ds wr (hr.later hbel) h60 hok)
        rw [e, List.take_length] at HR hs
        generalize sumW ds = Q at *
        clear hok hbel hs e hnm
        go_wp2_with fail
        refine Calls.mono HT.out ?_
        rintro e wt ⟨rfl, hbt⟩
        have HBT := kide (HB.out.trans (hbt.mono HB.out.size))
        clear hbt
        by_cases hq : Q ≤ 20000
        · have HR2 : Hid (dclR ds = decide ((ds.map Prod.fst).Nodup)) := by
            show _ = _
            rw [HR.out, decide_eq_true hq]; rfl
          go_wp2_with (go_at_call 79; refine Calls.mono (HP.out _ HBT.out) ?_; rintro e w1 ⟨rfl, ⟨D, hown, hpl⟩, hb1⟩; have hml := fun ty => hown.len Try.underlying114 ty; have HD : Hid (decide ((ds.map Prod.fst).Nodup) = decide (Maps.size D = ds.length)) := (by show _ = _; rw [Bool.eq_iff_iff, decide_eq_true_eq, decide_eq_true_eq, ← hpl.nodup, List.length_map]); have hle := hpl.le; rw [List.length_map] at hle; clear hown hpl; generalize Maps.size D = n at *)
          go_ret
          exact ⟨ret_bool (by rw [HR2.out, HD.out, Bool.eq_iff_iff]; simp; omega), HBT.out.trans (hb1.mono HBT.out.size)⟩
        · have HR2 : Hid (dclR ds = false) := by
            show _ = _
            rw [HR.out, decide_eq_false hq]; rfl
          go_wp2_with fail
          go_ret
          exact ⟨ret_bool HR2.out.symm, HBT.out⟩
  · rw [dclR_long (by omega)]
    go_enter Try.func54, Try.ntmps54
    go_wp2_with fail
    go_ret
    exact ⟨rfl, Below.refl _ _⟩

end Go.Proofs.Ytfanddpncipkkaa

/- Right forms as plain lists of segments; and what the program says of one segment. -/
namespace Go.Proofs.Ytfanddpncipkkaa
set_option linter.unusedVariables false
set_option linter.unusedSimpArgs false
open Go.RowKit

/-- Is a segment right for the variables? -/
def sgOk (ds : List Dc) (s : Sc) : Bool :=
  if s.v = -1 then decide (s.lo = 0) && decide (s.wd = s.bw) && rightB s.bw s.ws
  else decide (0 ≤ s.v) && decide (s.v < ds.length) && decide (s.bw = 0) && decide (s.ws.length = 0) && decide (1 ≤ s.wd) && decide (0 ≤ s.lo) && decide (s.lo + s.wd ≤ (ds.getD s.v.toNat (.empty, 0)).2)

/-- Could two neighbours be one? -/
def oneB (s t : Sc) : Bool := decide (s.v = t.v) && (decide (s.v = -1) || decide (s.lo + s.wd = t.lo))

def flL (ds : List Dc) : Option Sc → List Sc → Bool
  | _, [] => true
  | none, s :: t => sgOk ds s && flL ds (some s) t
  | some q, s :: t => sgOk ds s && !oneB q s && flL ds (some s) t

def sumS : List Sc → Int
  | [] => 0
  | s :: t => s.wd + sumS t

/-- Is a form right? -/
def flatR (ds : List Dc) (fs : List Sc) : Bool := dclR ds && decide (1 ≤ fs.length) && decide (fs.length ≤ 2000) && flL ds none fs && decide (sumS fs ≤ 4096)

theorem rightB_wd {W : Int} {xs : List Nat} (h : rightB W xs = true) : 1 ≤ W ∧ W ≤ 4096 := by
  simp [rightB, wOk] at h
  exact h.1.1

theorem dclR_wd {ds : List Dc} (h : dclR ds = true) {k : Nat} {d : Dc} (hd : ds[k]? = some d) : 1 ≤ d.2 ∧ d.2 ≤ 4096 := (dcOk_iff.1 ((dclR_iff.1 h).2.1 d (List.mem_of_getElem? hd))).2

theorem sgOk_bounds {ds : List Dc} {s : Sc} (hd : dclR ds = true) (h : sgOk ds s = true) : 1 ≤ s.wd ∧ s.wd ≤ 4096 ∧ 0 ≤ s.lo ∧ s.lo ≤ 4096 := by
  unfold sgOk at h
  split at h
  · simp at h
    have := rightB_wd h.2
    omega
  · simp at h
    obtain ⟨⟨⟨⟨⟨⟨h1, h2⟩, h3⟩, h4⟩, h5⟩, h6⟩, h7⟩ := h
    have hl : s.v.toNat < ds.length := by omega
    have := dclR_wd hd (List.getElem?_eq_getElem hl)
    rw [List.getElem?_eq_getElem hl, Option.getD_some] at h7
    omega

theorem sgOk_const {ds : List Dc} {s : Sc} (h : s.v = -1) : sgOk ds s = (decide (s.lo = 0) && decide (s.wd = s.bw) && rightB s.bw s.ws) := by rw [sgOk, if_pos h]
theorem sgOk_out {ds : List Dc} {s : Sc} (h : s.v ≠ -1) (h2 : s.v < 0 ∨ (ds.length : Int) ≤ s.v ∨ s.bw ≠ 0 ∨ s.ws.length ≠ 0) : sgOk ds s = false := by
  rw [sgOk, if_neg h, Bool.eq_false_iff]
  intro h'
  simp at h'
  have h8 := h'.1.1.1.2
  rcases h2 with h2 | h2 | h2 | h2
  · omega
  · omega
  · exact h2 h'.1.1.1.1.2
  · simp [h8] at h2
theorem sgOk_in {ds : List Dc} {s : Sc} {k : Nat} {d : Dc} (hv : s.v = (k : Int)) (hd : ds[k]? = some d) (hb : s.bw = 0) (hw : s.ws.length = 0) : sgOk ds s = (decide (1 ≤ s.wd) && decide (0 ≤ s.lo) && decide (s.lo + s.wd ≤ d.2)) := by
  have hl := (List.getElem?_eq_some_iff.1 hd).1
  rw [sgOk, if_neg (by omega), hv, Int.toNat_natCast]
  have h1 : decide ((0 : Int) ≤ (k : Int)) = true := decide_eq_true (by omega)
  have h2 : decide ((k : Int) < (ds.length : Int)) = true := decide_eq_true (by omega)
  have e : ds.getD k (.empty, 0) = d := by simp [List.getD, hd]
  rw [h1, h2, hb, hw, e]
  simp

set_option maxHeartbeats 1000000 in
theorem segOk_any (s : Sc) (a da : Option Addr) (c dc : Nat) (ds : List Dc) (w : World) (hr : Rd w a s.ws) (hd : RdD w da ds) (hD : dclR ds = true) :
    Calls Try.prog 61 #[.slice da ds.length dc, .agg #[.int .i64 s.v, .int .i64 s.lo, .int .i64 s.wd, .int .i64 s.bw, .slice a s.ws.length c]] w fun e w' => e = .returned (.bool (sgOk ds s)) ∧ Below w.heap.size w w' := by
  have hb0 : Below w.heap.size w (w.alloc (Obj.cells #[Value.int .i64 s.v, Value.int .i64 s.lo, Value.int .i64 s.wd, Value.int .i64 s.bw, Value.slice a s.ws.length c] 47)) := (Below.refl _ _).alloc (Nat.le_refl _) _
  have hl1 := hd.1
  have hl2 := hr.1
  by_cases hv : s.v = -1
  · rw [sgOk_const hv]
    have HOK := kide (fun u (hu : Below w.heap.size w u) => implOk_any s.bw a c s.ws u (hr.later hu))
    obtain ⟨v, lo, wd, bw, ws⟩ := s
    simp only [] at hv hb0 HOK hl2 ⊢
    subst hv
    have B0 := kide hb0
    clear hr hd hb0
    by_cases h1 : lo = 0
    · subst h1
      by_cases h2 : wd = bw
      · subst h2
        have hww : (wd == wd) = true := by simp
        go_enter Try.func61, Try.ntmps61
        go_wp2_with fail
        refine Calls.mono (HOK.out _ B0.out) ?_
        rintro e w1 ⟨rfl, hb1⟩
        go_wp2_with fail
        go_ret
        exact ⟨ret_bool (by simp), B0.out.trans (hb1.mono (by simp))⟩
      · have hww : (wd == bw) = false := by simp [h2]
        have hR : (decide ((0 : Int) = 0) && decide (wd = bw) && rightB bw ws) = false := by simp [h2]
        rw [hR]
        clear hR h2
        go_enter Try.func61, Try.ntmps61
        go_wp2_with fail
        go_ret
        exact ⟨rfl, B0.out⟩
    · have hww : (lo == 0) = false := by simp [h1]
      have hR : (decide (lo = 0) && decide (wd = bw) && rightB bw ws) = false := by simp [h1]
      rw [hR]
      clear hR h1
      go_enter Try.func61, Try.ntmps61
      go_wp2_with fail
      go_ret
      exact ⟨rfl, B0.out⟩
  · by_cases hout : s.v < 0 ∨ (ds.length : Int) ≤ s.v ∨ s.bw ≠ 0 ∨ s.ws.length ≠ 0
    · rw [sgOk_out hv hout]
      obtain ⟨v, lo, wd, bw, ws⟩ := s
      simp only [] at hv hb0 hout hl2 ⊢
      have B0 := kide hb0
      have hvv : (v == -1) = false := by simp [hv]
      clear hr hd hb0 hv
      by_cases h1 : v < 0
      · clear hout
        go_enter Try.func61, Try.ntmps61
        go_wp2_with fail
        go_ret
        exact ⟨rfl, B0.out⟩
      by_cases h2 : (ds.length : Int) ≤ v
      · clear hout
        go_enter Try.func61, Try.ntmps61
        go_wp2_with fail
        go_ret
        exact ⟨rfl, B0.out⟩
      by_cases h3 : bw = 0
      · have h4 : ws.length ≠ 0 := by
          rcases hout with h | h | h | h
          · exact absurd h h1
          · exact absurd h h2
          · exact absurd h3 h
          · exact h
        subst h3
        have h5 : ((ws.length : Int) != 0) = true := by simp; intro h; subst h; simp at h4
        clear hout
        go_enter Try.func61, Try.ntmps61
        go_wp2_with fail
        go_ret
        exact ⟨rfl, B0.out⟩
      · have h5 : (bw != 0) = true := by simp [h3]
        clear hout
        go_enter Try.func61, Try.ntmps61
        go_wp2_with fail
        go_ret
        exact ⟨rfl, B0.out⟩
    · obtain ⟨k, hk⟩ : ∃ k : Nat, s.v = (k : Int) := ⟨s.v.toNat, by omega⟩
      have hkl : k < ds.length := by omega
      obtain ⟨⟨t, y⟩, gd⟩ : ∃ d, ds[k]? = some d := ⟨ds[k], List.getElem?_eq_getElem hkl⟩
      have hbw : s.bw = 0 := Decidable.byContradiction fun h => hout (.inr (.inr (.inl h)))
      have hws : s.ws.length = 0 := Decidable.byContradiction fun h => hout (.inr (.inr (.inr h)))
      rw [sgOk_in hk gd hbw hws]
      obtain ⟨hy1, hy2⟩ := dclR_wd hD gd
      obtain ⟨-, -, h | ⟨b1, o1, rfl, hc1⟩⟩ := hd
      · subst h; simp at hkl
      obtain ⟨-, q1⟩ := hc1 k _ gd
      have lb1 : b1 < w.heap.size := block_lt_of_cell q1
      obtain ⟨v, lo, wd, bw, ws⟩ := s
      simp only [] at hv hb0 hout hl2 hk hbw hws hy1 hy2 q1 ⊢
      subst hk
      subst hbw
      have hwl := List.eq_nil_of_length_eq_zero hws
      subst hwl
      have B0 := kide hb0
      have hvv : ((k : Int) == -1) = false := by simp
      have hki : (k : Int) < (ds.length : Int) := by omega
      clear hr hb0 hv hout hc1 gd hD hws
      by_cases h1 : 1 ≤ wd
      · by_cases h2 : wd ≤ y
        · by_cases h3 : 0 ≤ lo
          · by_cases h4 : lo ≤ y - wd
            · have hR : (decide (1 ≤ wd) && decide (0 ≤ lo) && decide (lo + wd ≤ y)) = true := by simp; omega
              rw [hR]
              clear hR
              go_enter Try.func61, Try.ntmps61
              go_wp2_with fail
              go_ret
              first | exact ⟨rfl, B0.out⟩ | exact ⟨ret_bool (by simp; omega), B0.out⟩
            · have hR : (decide (1 ≤ wd) && decide (0 ≤ lo) && decide (lo + wd ≤ y)) = false := by simp; omega
              rw [hR]
              clear hR
              go_enter Try.func61, Try.ntmps61
              go_wp2_with fail
              go_ret
              first | exact ⟨rfl, B0.out⟩ | exact ⟨ret_bool (by simp; omega), B0.out⟩
          · have hR : (decide (1 ≤ wd) && decide (0 ≤ lo) && decide (lo + wd ≤ y)) = false := by simp; omega
            rw [hR]
            clear hR
            go_enter Try.func61, Try.ntmps61
            go_wp2_with fail
            go_ret
            first | exact ⟨rfl, B0.out⟩ | exact ⟨ret_bool (by simp; omega), B0.out⟩
        · by_cases h3 : 0 ≤ lo
          · have hR : (decide (1 ≤ wd) && decide (0 ≤ lo) && decide (lo + wd ≤ y)) = false := by simp; omega
            rw [hR]
            clear hR
            go_enter Try.func61, Try.ntmps61
            go_wp2_with fail
            go_ret
            first | exact ⟨rfl, B0.out⟩ | exact ⟨ret_bool (by simp; omega), B0.out⟩
          · have hR : (decide (1 ≤ wd) && decide (0 ≤ lo) && decide (lo + wd ≤ y)) = false := by simp; omega
            rw [hR]
            clear hR
            go_enter Try.func61, Try.ntmps61
            go_wp2_with fail
            go_ret
            first | exact ⟨rfl, B0.out⟩ | exact ⟨ret_bool (by simp; omega), B0.out⟩
      · have hR : (decide (1 ≤ wd) && decide (0 ≤ lo) && decide (lo + wd ≤ y)) = false := by simp; omega
        rw [hR]
        clear hR
        go_enter Try.func61, Try.ntmps61
        go_wp2_with fail
        go_ret
        first | exact ⟨rfl, B0.out⟩ | exact ⟨ret_bool (by simp; omega), B0.out⟩

end Go.Proofs.Ytfanddpncipkkaa

/- What the given FlatOk answers. -/
namespace Go.Proofs.Ytfanddpncipkkaa
set_option linter.unusedVariables false
set_option linter.unusedSimpArgs false
open Go.RowKit

theorem l3NoBits_any (bw : Int) (a : Option Addr) (n c : Nat) (w : World) (hn : n ≤ 1048576) :
    Calls Try.prog 74 #[.agg #[.int .i64 bw, .slice a n c]] w fun e w' => e = .returned (.bool (decide (bw = 0) && decide (n = 0))) ∧ Below w.heap.size w w' := by
  have hb0 : Below w.heap.size w (w.alloc (Obj.cells #[Value.int .i64 bw, Value.slice a n c] 45)) := (Below.refl _ _).alloc (Nat.le_refl _) _
  have B0 := kide hb0
  clear hb0
  by_cases h : bw = 0
  · subst h
    go_enter Try.func74, Try.ntmps74
    go_wp2_with fail
    go_ret
    exact ⟨ret_bool (by rw [Bool.eq_iff_iff]; simp), B0.out⟩
  · have e1 : (bw == 0) = false := by simp [h]
    have hR : (decide (bw = 0) && decide (n = 0)) = false := by simp [h]
    rw [hR]
    clear hR h
    go_enter Try.func74, Try.ntmps74
    go_wp2_with fail
    go_ret
    exact ⟨rfl, B0.out⟩

set_option maxHeartbeats 1000000 in
theorem l5Seg_any (s : Sc) (a da : Option Addr) (c dc : Nat) (ds : List Dc) (w : World) (hr : Rd w a s.ws) (hd : RdD w da ds) (hD : dclR ds = true) :
    Calls Try.prog 50 #[.slice da ds.length dc, .agg #[.int .i64 s.v, .int .i64 s.lo, .int .i64 s.wd, .int .i64 s.bw, .slice a s.ws.length c]] w fun e w' => e = .returned (.bool (sgOk ds s)) ∧ Below w.heap.size w w' := by
  have hb0 : Below w.heap.size w (w.alloc (Obj.cells #[Value.int .i64 s.v, Value.int .i64 s.lo, Value.int .i64 s.wd, Value.int .i64 s.bw, Value.slice a s.ws.length c] 47)) := (Below.refl _ _).alloc (Nat.le_refl _) _
  have hl1 := hd.1
  have hl2 := hr.1
  by_cases hv : s.v = -1
  · rw [sgOk_const hv]
    have HOK := kide (fun u (hu : Below w.heap.size w u) => specOk_any s.bw a c s.ws u (hr.later hu))
    obtain ⟨v, lo, wd, bw, ws⟩ := s
    simp only [] at hv hb0 HOK hl2 ⊢
    subst hv
    have B0 := kide hb0
    clear hr hd hb0
    by_cases h1 : lo = 0
    · subst h1
      generalize rightB bw ws = r at *
      cases r with
      | true =>
        go_enter Try.func50, Try.ntmps50
        go_wp2_with fail
        refine Calls.mono (HOK.out _ B0.out) ?_
        rintro e w1 ⟨rfl, hb1⟩
        have k3 := kcell hb1 w.heap.size 3 (by simp)
        have k2 := kcell hb1 w.heap.size 2 (by simp)
        have B1 := kide (B0.out.trans (hb1.mono B0.out.size))
        simp at k2 k3
        clear hb1
        go_wp2_with fail
        go_ret
        exact ⟨ret_bool (by rw [Bool.eq_iff_iff]; simp; exact eq_comm), B1.out⟩
      | false =>
        go_enter Try.func50, Try.ntmps50
        go_wp2_with fail
        refine Calls.mono (HOK.out _ B0.out) ?_
        rintro e w1 ⟨rfl, hb1⟩
        go_wp2_with fail
        go_ret
        exact ⟨ret_bool (by simp), B0.out.trans (hb1.mono B0.out.size)⟩
    · have hww : (lo == 0) = false := by simp [h1]
      have hR : (decide (lo = 0) && decide (wd = bw) && rightB bw ws) = false := by simp [h1]
      rw [hR]
      clear hR h1
      go_enter Try.func50, Try.ntmps50
      go_wp2_with fail
      go_ret
      exact ⟨rfl, B0.out⟩
  · have HNB := kide (fun u => l3NoBits_any s.bw a s.ws.length c u hl2)
    have HI0 := kide (fun u => l1In_any s.v 0 ((ds.length : Int) - 1) u)
    by_cases hin : 0 ≤ s.v ∧ s.v ≤ (ds.length : Int) - 1
    · rw [decide_eq_true hin] at HI0
      by_cases hbn : s.bw = 0 ∧ s.ws.length = 0
      · obtain ⟨k, hk⟩ : ∃ k : Nat, s.v = (k : Int) := ⟨s.v.toNat, by omega⟩
        have hkl : k < ds.length := by omega
        obtain ⟨⟨t, y⟩, gd⟩ : ∃ d, ds[k]? = some d := ⟨ds[k], List.getElem?_eq_getElem hkl⟩
        rw [sgOk_in hk gd hbn.1 hbn.2]
        obtain ⟨hy1, hy2⟩ := dclR_wd hD gd
        obtain ⟨-, -, h | ⟨b1, o1, rfl, hc1⟩⟩ := hd
        · subst h; simp at hkl
        obtain ⟨-, q1⟩ := hc1 k _ gd
        have lb1 : b1 < w.heap.size := block_lt_of_cell q1
        have hnb : (decide (s.bw = 0) && decide (s.ws.length = 0)) = true := by simp [hbn.1]; exact List.eq_nil_of_length_eq_zero hbn.2
        rw [hnb] at HNB
        obtain ⟨v, lo, wd, bw, ws⟩ := s
        simp only [] at hv hb0 hl2 hk hy1 hy2 q1 HNB HI0 ⊢
        subst hk
        have B0 := kide hb0
        have hvv : ((k : Int) == -1) = false := by simp
        have hki : (k : Int) < (ds.length : Int) := by omega
        have HL := kide (fun u => l1In_any lo 0 (y - 1) u)
        clear hr hb0 hv hc1 gd hD hnb hin hbn
        by_cases hlo : 0 ≤ lo ∧ lo ≤ y - 1
        · have HWD := kide (fun u => l1In_any wd 1 (y - lo) u)
          rw [decide_eq_true hlo] at HL
          have hR : (decide (1 ≤ wd) && decide (0 ≤ lo) && decide (lo + wd ≤ y)) = decide (1 ≤ wd ∧ wd ≤ y - lo) := by rw [Bool.eq_iff_iff]; simp; omega
          rw [hR]
          obtain ⟨hlo1, hlo2⟩ := hlo
          clear hR
          generalize decide (1 ≤ wd ∧ wd ≤ y - lo) = r at *
          go_enter Try.func50, Try.ntmps50
          go_wp2_with fail
          refine Calls.mono (HI0.out _) ?_
          rintro e wx ⟨rfl, rfl⟩
          go_wp2_with fail
          refine Calls.mono (HNB.out _) ?_
          rintro e w1 ⟨rfl, hb1⟩
          have k0 := kcell hb1 w.heap.size 0 (by simp)
          have k1 := kcell hb1 w.heap.size 1 (by simp)
          have k2 := kcell hb1 w.heap.size 2 (by simp)
          have k5 := (kcell hb1 b1 (o1 + k * 2 + 1) (by simp; omega)).trans ((kcell B0.out b1 (o1 + k * 2 + 1) lb1).trans q1)
          have B1 := kide (B0.out.trans (hb1.mono B0.out.size))
          simp at k0 k1 k2
          clear hb1 q1
          go_wp2_with fail
          refine Calls.mono (HL.out _) ?_
          rintro e wx ⟨rfl, rfl⟩
          go_wp2_with fail
          refine Calls.mono (HWD.out _) ?_
          rintro e wx ⟨rfl, rfl⟩
          go_wp2_with fail
          go_ret
          exact ⟨rfl, B1.out⟩
        · rw [decide_eq_false hlo] at HL
          have hR : (decide (1 ≤ wd) && decide (0 ≤ lo) && decide (lo + wd ≤ y)) = false := by simp; omega
          rw [hR]
          clear hR hlo
          go_enter Try.func50, Try.ntmps50
          go_wp2_with fail
          refine Calls.mono (HI0.out _) ?_
          rintro e wx ⟨rfl, rfl⟩
          go_wp2_with fail
          refine Calls.mono (HNB.out _) ?_
          rintro e w1 ⟨rfl, hb1⟩
          have k0 := kcell hb1 w.heap.size 0 (by simp)
          have k1 := kcell hb1 w.heap.size 1 (by simp)
          have k2 := kcell hb1 w.heap.size 2 (by simp)
          have k5 := (kcell hb1 b1 (o1 + k * 2 + 1) (by simp; omega)).trans ((kcell B0.out b1 (o1 + k * 2 + 1) lb1).trans q1)
          have B1 := kide (B0.out.trans (hb1.mono B0.out.size))
          simp at k0 k1 k2
          clear hb1 q1
          go_wp2_with fail
          refine Calls.mono (HL.out _) ?_
          rintro e wx ⟨rfl, rfl⟩
          go_wp2_with fail
          go_ret
          exact ⟨rfl, B1.out⟩
      · rw [sgOk_out hv (by
          by_cases h : s.bw = 0
          · exact .inr (.inr (.inr fun h' => hbn ⟨h, h'⟩))
          · exact .inr (.inr (.inl h)))]
        have hnb : (decide (s.bw = 0) && decide (s.ws.length = 0)) = false := by
          rw [Bool.eq_false_iff]
          intro h
          rw [Bool.and_eq_true, decide_eq_true_eq, decide_eq_true_eq] at h
          exact hbn h
        rw [hnb] at HNB
        obtain ⟨v, lo, wd, bw, ws⟩ := s
        simp only [] at hv hb0 hl2 HNB HI0 hin ⊢
        have B0 := kide hb0
        have hvv : (v == -1) = false := by simp [hv]
        clear hr hd hb0 hv hnb hbn
        go_enter Try.func50, Try.ntmps50
        go_wp2_with fail
        refine Calls.mono (HI0.out _) ?_
        rintro e wx ⟨rfl, rfl⟩
        go_wp2_with fail
        refine Calls.mono (HNB.out _) ?_
        rintro e w1 ⟨rfl, hb1⟩
        go_wp2_with fail
        go_ret
        exact ⟨rfl, B0.out.trans (hb1.mono B0.out.size)⟩
    · rw [sgOk_out hv (by omega)]
      rw [decide_eq_false hin] at HI0
      obtain ⟨v, lo, wd, bw, ws⟩ := s
      simp only [] at hv hb0 hl2 HI0 ⊢
      have B0 := kide hb0
      have hvv : (v == -1) = false := by simp [hv]
      clear hr hd hb0 hv hin
      go_enter Try.func50, Try.ntmps50
      go_wp2_with fail
      refine Calls.mono (HI0.out _) ?_
      rintro e wx ⟨rfl, rfl⟩
      go_wp2_with fail
      go_ret
      exact ⟨rfl, B0.out⟩

end Go.Proofs.Ytfanddpncipkkaa

/- What the program's FlatOk answers. -/
namespace Go.Proofs.Ytfanddpncipkkaa
set_option linter.unusedVariables false
set_option linter.unusedSimpArgs false
open Go.RowKit

theorem couldBeOne_any (s t : Sc) (a b : Option Addr) (c d : Nat) (w : World) (h1 : 0 ≤ s.lo ∧ s.lo ≤ 4096) (h2 : 0 ≤ s.wd ∧ s.wd ≤ 4096) :
    Calls Try.prog 56 #[.agg #[.int .i64 s.v, .int .i64 s.lo, .int .i64 s.wd, .int .i64 s.bw, .slice a s.ws.length c], .agg #[.int .i64 t.v, .int .i64 t.lo, .int .i64 t.wd, .int .i64 t.bw, .slice b t.ws.length d]] w fun e w' => e = .returned (.bool (oneB s t)) ∧ Below w.heap.size w w' := by
  have hb2 : Below w.heap.size w ((w.alloc (Obj.cells #[Value.int .i64 s.v, Value.int .i64 s.lo, Value.int .i64 s.wd, Value.int .i64 s.bw, Value.slice a s.ws.length c] 47)).alloc (Obj.cells #[Value.int .i64 t.v, Value.int .i64 t.lo, Value.int .i64 t.wd, Value.int .i64 t.bw, Value.slice b t.ws.length d] 47)) := ((Below.refl _ _).alloc (Nat.le_refl _) _).alloc (by simp) _
  obtain ⟨v, lo, wd, bw, ws⟩ := s
  obtain ⟨v', lo', wd', bw', ws'⟩ := t
  simp only [oneB] at h1 h2 hb2 ⊢
  obtain ⟨l1, l2⟩ := h1
  obtain ⟨l3, l4⟩ := h2
  have B2 := kide hb2
  clear hb2
  by_cases h : v = v'
  · have e1 : (v == v') = true := by simp [h]
    by_cases hv : v = -1
    · have e2 : (v == -1) = true := by simp [hv]
      have hR : (decide (v = v') && (decide (v = -1) || decide (lo + wd = lo'))) = true := by simp [← h, hv]
      rw [hR]
      clear hR h hv
      go_enter Try.func56, Try.ntmps56
      go_wp2_with fail
      first | go_quiet (fail) | skip
      go_wp2_with fail
      go_ret
      exact ⟨rfl, by first | exact B2.out | exact below_drewN B2.out _⟩
    · have e2 : (v == -1) = false := by simp [hv]
      have hR : (decide (v = v') && (decide (v = -1) || decide (lo + wd = lo'))) = decide (lo + wd = lo') := by simp [← h, hv]
      rw [hR]
      clear hR h hv
      go_enter Try.func56, Try.ntmps56
      go_wp2_with fail
      first | go_quiet (fail) | skip
      go_wp2_with fail
      go_ret
      exact ⟨ret_bool (by rw [Bool.eq_iff_iff]; simp), by first | exact B2.out | exact below_drewN B2.out _⟩
  · have e1 : (v == v') = false := by simp [h]
    have hR : (decide (v = v') && (decide (v = -1) || decide (lo + wd = lo'))) = false := by simp [h]
    rw [hR]
    clear hR h
    go_enter Try.func56, Try.ntmps56
    go_wp2_with fail
    first | go_quiet (fail) | skip
    go_wp2_with fail
    go_ret
    exact ⟨rfl, by first | exact B2.out | exact below_drewN B2.out _⟩

theorem sumS_append (xs ys : List Sc) : sumS (xs ++ ys) = sumS xs + sumS ys := by
  induction xs with
  | nil => simp [sumS]
  | cons x xs ih => simp [sumS, ih]; omega
theorem sumS_take {cs : List Sc} {k : Nat} {c : Sc} (h : cs[k]? = some c) : sumS (cs.take (k + 1)) = sumS (cs.take k) + c.wd := by
  rw [List.take_add_one, h, sumS_append]
  simp [sumS]

theorem formWidth_any (a : Option Addr) (c n : Nat) (xs : List Sg) (w : World) (hr : RdS w a xs) (hn : xs.length = n) (h2000 : n ≤ 2000) (hw : ∀ x ∈ xs, 1 ≤ x.ct.wd ∧ x.ct.wd ≤ 4096) :
    Calls Try.prog 30 #[.slice a n c] w fun e w' => e = .returned (.int .i64 (sumS (xs.map Sg.ct))) ∧ Below w.heap.size w w' := by
  have hR : sumS (xs.map Sg.ct) = sumS ((xs.map Sg.ct).take n) := by rw [List.take_of_length_le (by simp [hn])]
  rw [hR]
  have HR := kide hr
  have HN := kide hn
  have HW := kide hw
  clear hr hn hw hR
  go_enter Try.func30, Try.ntmps30
  go_wp2_with fail
  go_loopw [3, 8] (fun q i wr => ∃ k : Nat, k ≤ n ∧ i = .int .i64 (k : Int) ∧ q = .int .i64 (sumS ((xs.map Sg.ct).take k)) ∧ 0 ≤ sumS ((xs.map Sg.ct).take k) ∧ sumS ((xs.map Sg.ct).take k) ≤ 4096 * (k : Int) ∧ Below w.heap.size w wr) (fun _ i _ => n - (intOf i).toNat)
  case atStart => exact ⟨0, Nat.zero_le _, rfl, by simp [sumS], by simp [sumS], by simp [sumS], Below.refl _ _⟩
  case round =>
    obtain ⟨k, hk, rfl, rfl, hq0, hq1, hbel⟩ := hrel
    have HB := kide hbel
    by_cases hlt : k < n
    · obtain ⟨-, h | ⟨b2, o2, rfl, hc2⟩⟩ := HR.out
      · have := HN.out; subst h; simp at this; omega
      obtain ⟨⟨s, a1, c1⟩, gx⟩ : ∃ x, xs[k]? = some x := ⟨xs[k]'(by rw [HN.out]; exact hlt), List.getElem?_eq_getElem _⟩
      obtain ⟨⟨p0, p1, p2, p3, p4⟩, -⟩ := (hc2 k _ gx).later hbel
      have hst := sumS_take (cs := xs.map Sg.ct) (k := k) (c := s) (by rw [List.getElem?_map, gx]; rfl)
      obtain ⟨hw1, hw2⟩ := HW.out _ (List.mem_of_getElem? gx)
      obtain ⟨v, lo, wd, bw, ws⟩ := s
      simp only [Sg.hd] at p0 p1 p2 p3 p4 hst hw1 hw2
      have HST := kide hst
      have HA := kide (HB.out.alloc HB.out.size (Obj.cells #[Value.int .i64 v, Value.int .i64 lo, Value.int .i64 wd, Value.int .i64 bw, Value.slice a1 ws.length c1] 47))
      have i0 : (k : Int) < (n : Int) := by omega
      clear hc2 gx hst HR hbel
      generalize sumS ((xs.map Sg.ct).take k) = Q at *
      go_wp2_with fail
      go_roundw
      case rel => exact ⟨k + 1, by omega, by go_num, by rw [HST.out], by rw [HST.out]; omega, by rw [HST.out]; omega, HA.out⟩
      case measure => simp [intOf]; omega
    · have e : k = n := by omega
      subst e
      clear HR hbel
      generalize hQ : sumS ((xs.map Sg.ct).take k) = Q at *
      have HQ := kide hQ
      clear hQ
      go_wp2_with fail
      go_ret
      exact ⟨ret_int (by rw [HQ.out]), HB.out⟩

end Go.Proofs.Ytfanddpncipkkaa
