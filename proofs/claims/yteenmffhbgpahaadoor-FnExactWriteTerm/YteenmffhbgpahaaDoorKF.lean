/- What the program's DeclsOk answers. -/
import Derived.Test.YteenmffhbgpahaaDoorKC
import Derived.Handy
namespace Go.Proofs.YteenmffhbgpahaaDoor
set_option linter.unusedVariables false
set_option linter.unusedSimpArgs false
open Go.RowKit Go.WideMaps Go.Maps

set_option maxHeartbeats 1000000 in
theorem totalWidth_any (a : Option Addr) (c : Nat) (ds : List Dc) (w : World) (hr : RdD w a ds) (h60 : ds.length ≤ 60) (hok : ∀ d ∈ ds, dcOk d = true) :
    Calls Tryd.prog 54 #[.slice a ds.length c] w fun e w' => e = .returned (.int .i64 (sumW ds)) ∧ Below w.heap.size w w' := by
  have HLN := kide hr.1
  have HALL := kide hok
  go_enter Tryd.func54, Tryd.ntmps54
  clear hok
  go_wp2_with fail
  go_loopw [3, 8] (fun q i wr => ∃ k : Nat, k ≤ ds.length ∧ i = .int .i64 (k : Int) ∧ q = .int .i64 (sumW (ds.take k)) ∧ Below w.heap.size w wr) (fun _ i _ => ds.length - (intOf i).toNat)
  case atStart => exact ⟨0, Nat.zero_le _, rfl, by simp [sumW], Below.refl _ _⟩
  case round =>
    obtain ⟨k, hk, rfl, rfl, hbel⟩ := hrel
    have HB := kide hbel
    by_cases hlt : k < ds.length
    · obtain ⟨-, hsz, h | ⟨b, o, rfl, hc⟩⟩ := hr
      · subst h; simp at hlt
      obtain ⟨⟨t, x⟩, hh⟩ : ∃ x, ds[k] = x := ⟨_, rfl⟩
      have gx : ds[k]? = some (t, x) := by rw [List.getElem?_eq_getElem hlt, hh]
      obtain ⟨p0, p1⟩ := (hc k _ gx).later hbel
      simp only [] at p0 p1
      obtain ⟨hx64, hts⟩ := hsz _ (List.mem_of_getElem? gx)
      simp only [] at hx64 hts
      have i0 : (k : Int) < (ds.length : Int) := by omega
      have hsum := sumW_le (fun d hd => HALL.out d (List.mem_of_mem_take hd) : ∀ d ∈ ds.take k, dcOk d = true)
      have hst := sumW_take gx
      simp only [] at hst
      have htl : (ds.take k).length = k := by simp; omega
      rw [htl] at hsum
      have HST := kide hst
      have hx := (dcOk_iff.1 (HALL.out _ (List.mem_of_getElem? gx))).2
      simp [wOk] at hx
      obtain ⟨hx1, hx2⟩ := hx
      obtain ⟨hs1, hs2⟩ := hsum
      have HA := kide ((HB.out.alloc HB.out.size (Obj.cells #[Value.string t, Value.int .i64 x] 46)))
      clear hc gx hh hsz hst htl hbel
      generalize sumW (ds.take k) = Q at *
      go_wp2_with fail
      go_roundw
      case rel =>
        refine ⟨k + 1, by omega, by go_num, ?_, HA.out⟩
        rw [HST.out]
      case measure => simp [intOf]; omega
    · have e : k = ds.length := by omega
      have HE : Hid (sumW (ds.take k) = sumW ds) := by
        show _ = _
        rw [e, List.take_length]
      generalize sumW (ds.take k) = Q at *
      clear hbel e
      go_wp2_with fail
      go_ret
      exact ⟨by rw [HE.out]; rfl, HB.out⟩

set_option maxHeartbeats 1000000 in
theorem implDecls_any (a : Option Addr) (c : Nat) (ds : List Dc) (w : World) (hr : RdD w a ds) :
    Calls Tryd.prog 34 #[.slice a ds.length c] w fun e w' => e = .returned (.bool (dclR ds)) ∧ Below w.heap.size w w' := by
  have hlen := hr.1
  by_cases h60 : ds.length ≤ 60
  · go_enter Tryd.func34, Tryd.ntmps34
    go_wp2_with fail
    have HLN := kide hlen
    clear hlen
    go_loopw [10] (fun i wr => ∃ k : Nat, k ≤ ds.length ∧ i = .int .i64 (k : Int) ∧ (∀ d ∈ ds.take k, dcOk d = true) ∧ Below w.heap.size w wr) (fun i _ => ds.length - (intOf i).toNat)
    case atStart => exact ⟨0, Nat.zero_le _, rfl, by simp, Below.refl _ _⟩
    case round =>
      obtain ⟨k, hk, rfl, hok, hbel⟩ := hrel
      have HB := kide hbel
      by_cases hlt : k < ds.length
      · obtain ⟨-, hsz, h | ⟨b, o, rfl, hc⟩⟩ := hr
        · subst h; simp at hlt
        obtain ⟨⟨t, x⟩, hh⟩ : ∃ x, ds[k] = x := ⟨_, rfl⟩
        have gx : ds[k]? = some (t, x) := by rw [List.getElem?_eq_getElem hlt, hh]
        obtain ⟨p0, p1⟩ := (hc k _ gx).later hbel
        simp only [] at p0 p1
        obtain ⟨hx64, hts⟩ := hsz _ (List.mem_of_getElem? gx)
        simp only [] at hx64 hts
        have i0 : (k : Int) < (ds.length : Int) := by omega
        have GX := kide gx
        have hsum := sumW_le hok
        have hst := sumW_take gx
        simp only [] at hst
        have htl : (ds.take k).length = k := by simp; omega
        rw [htl] at hsum
        have HST := kide hst
        have HOK := kide hok
        have hN : ∀ u, Calls Tryd.prog 52 #[.string t] u fun e w' => e = .returned (.bool (nmOk t)) ∧ w' = u := fun u => nameOk_any t hts u
        have hW : ∀ u, Calls Tryd.prog 53 #[.int .i64 x] u fun e w' => e = .returned (.bool (wOk x)) ∧ w' = u := fun u => widthOk_any x u
        have HN := kide hN
        have HW := kide hW
        have HBAD : Hid (nmOk t = false ∨ wOk x = false → dclR ds = false) := fun h => dclR_bad gx (by rcases h with h | h <;> simp [dcOk, h])
        have HGOOD : Hid (nmOk t = true → wOk x = true → dcOk (t, x) = true) := fun h h' => by simp [dcOk, h, h']
        have hwx : wOk x = true → 1 ≤ x ∧ x ≤ 4096 := fun h => by simpa [wOk] using h
        have HA := kide ((HB.out.alloc HB.out.size (Obj.cells #[Value.string t, Value.int .i64 x] 46)))
        clear hN hW hc gx hh hsz hok hst htl hbel
        generalize sumW (ds.take k) = Q at *
        generalize nmOk t = r1 at *
        cases r1 with
        | false =>
          have HR := kide (HBAD.out (.inl (by simp)))
          go_wp2_with (go_at_call 52; refine Calls.mono (HN.out _) ?_; rintro e w1 ⟨rfl, rfl⟩)
          go_ret
          exact ⟨ret_bool HR.out.symm, HA.out⟩
        | true =>
          generalize wOk x = r2 at *
          cases r2 with
          | false =>
            have HR := kide (HBAD.out (.inr (by simp)))
            go_wp2_with (first | (go_at_call 52; refine Calls.mono (HN.out _) ?_; rintro e w1 ⟨rfl, rfl⟩) | (go_at_call 53; refine Calls.mono (HW.out _) ?_; rintro e w1 ⟨rfl, rfl⟩))
            go_ret
            exact ⟨ret_bool HR.out.symm, HA.out⟩
          | true =>
            have hx := hwx (by simp)
            obtain ⟨hx1, hx2⟩ := hx
            obtain ⟨hs1, hs2⟩ := hsum
            have HG := kide (HGOOD.out (by simp) (by simp))
            clear HBAD HGOOD hwx
            go_wp2_with (first | (go_at_call 52; refine Calls.mono (HN.out _) ?_; rintro e w1 ⟨rfl, rfl⟩) | (go_at_call 53; refine Calls.mono (HW.out _) ?_; rintro e w1 ⟨rfl, rfl⟩))
            go_roundw
            case rel =>
              refine ⟨k + 1, by omega, by go_num, ?_, HA.out⟩
              · intro d hd
                rw [List.take_add_one, GX.out] at hd
                rcases List.mem_append.1 hd with hd | hd
                · exact HOK.out d hd
                · simp at hd
                  subst hd
                  exact HG.out
            case measure => simp [intOf]; omega
      · have e : k = ds.length := by omega
        rw [e, List.take_length] at hok
        have hs := sumW_le hok
        rw [← List.take_length (l := ds), ← e] at hs
        have HR : Hid (dclR ds = (decide (sumW (ds.take k) ≤ 20000) && decide ((ds.map Prod.fst).Nodup))) := by
          show _ = _
          rw [e, List.take_length]
          rw [Bool.eq_iff_iff, dclR_iff, Bool.and_eq_true, decide_eq_true_eq, decide_eq_true_eq]
          exact ⟨fun h => ⟨h.2.2.1, h.2.2.2⟩, fun h => ⟨h60, hok, h.1, h.2⟩⟩
        have hnm : ∀ d ∈ ds, d.1.size ≤ 1048576 := fun d hd => by
          have := (dcOk_iff.1 (hok d hd)).1
          simp [nmOk] at this
          omega
        have HP := kide (fun u (hu : Below w.heap.size w u) => placesOf_any a c ds u (hr.later hu) hnm)
        have HT := kide (totalWidth_any a c ds wr (hr.later hbel) h60 hok)
        rw [e, List.take_length] at HR hs
        generalize sumW ds = Q at *
        clear hok hbel hs e hnm
        go_wp2_with fail
        refine Calls.mono HT.out ?_
        rintro e wt ⟨rfl, hbt⟩
        have HBT := kide (HB.out.trans (hbt.mono HB.out.size))
        clear hbt
        by_cases hq : Q ≤ 20000
        · have HR2 : Hid (dclR ds = decide ((ds.map Prod.fst).Nodup)) := by
            show _ = _
            rw [HR.out, decide_eq_true hq]; rfl
          go_wp2_with (go_at_call 55; refine Calls.mono (HP.out _ HBT.out) ?_; rintro e w1 ⟨rfl, ⟨D, hown, hpl⟩, hb1⟩; have hml := fun ty => hown.len Tryd.underlying116 ty; have HD : Hid (decide ((ds.map Prod.fst).Nodup) = decide (Maps.size D = ds.length)) := (by show _ = _; rw [Bool.eq_iff_iff, decide_eq_true_eq, decide_eq_true_eq, ← hpl.nodup, List.length_map]); have hle := hpl.le; rw [List.length_map] at hle; clear hown hpl; generalize Maps.size D = n at *)
          go_ret
          exact ⟨ret_bool (by rw [HR2.out, HD.out, Bool.eq_iff_iff]; simp; omega), HBT.out.trans (hb1.mono HBT.out.size)⟩
        · have HR2 : Hid (dclR ds = false) := by
            show _ = _
            rw [HR.out, decide_eq_false hq]; rfl
          go_wp2_with fail
          go_ret
          exact ⟨ret_bool HR2.out.symm, HBT.out⟩
  · rw [dclR_long (by omega)]
    go_enter Tryd.func34, Tryd.ntmps34
    go_wp2_with fail
    go_ret
    exact ⟨rfl, Below.refl _ _⟩

end Go.Proofs.YteenmffhbgpahaaDoor
