/- What the given DeclsOk answers. -/
import Derived.Test.YteenmffhbgpahaaDoorKC
namespace Go.Proofs.YteenmffhbgpahaaDoor
set_option linter.unusedVariables false
set_option linter.unusedSimpArgs false
open Go.RowKit Go.WideMaps Go.Maps

set_option maxHeartbeats 1000000 in
theorem specDecls_any (a : Option Addr) (c : Nat) (ds : List Dc) (w : World) (hr : RdD w a ds) :
    Calls Tryd.prog 43 #[.slice a ds.length c] w fun e w' => e = .returned (.bool (dclR ds)) ∧ Below w.heap.size w w' := by
  have hlen := hr.1
  by_cases h60 : ds.length ≤ 60
  · go_enter Tryd.func43, Tryd.ntmps43
    go_wp2_with fail
    have HLN := kide hlen
    clear hlen
    go_loopw [3, 4] (fun q i wr => ∃ k : Nat, k ≤ ds.length ∧ i = .int .i64 (k : Int) ∧ q = .int .i64 (sumW (ds.take k)) ∧ (∀ d ∈ ds.take k, dcOk d = true) ∧ ((ds.take k).map Prod.fst).Nodup ∧ Below w.heap.size w wr) (fun _ i _ => ds.length - (intOf i).toNat)
    case atStart => exact ⟨0, Nat.zero_le _, rfl, by simp [sumW], by simp, by simp, Below.refl _ _⟩
    case round =>
      obtain ⟨k, hk, rfl, rfl, hok, hnd, hbel⟩ := hrel
      have HB := kide hbel
      by_cases hlt : k < ds.length
      · obtain ⟨-, hsz, h | ⟨b, o, rfl, hc⟩⟩ := hr
        · subst h; simp at hlt
        obtain ⟨⟨t, x⟩, hh⟩ : ∃ x, ds[k] = x := ⟨_, rfl⟩
        have gx : ds[k]? = some (t, x) := by rw [List.getElem?_eq_getElem hlt, hh]
        obtain ⟨p0, p1⟩ := (hc k _ gx).later hbel
        simp only [] at p0 p1
        obtain ⟨hx64, hts⟩ := hsz _ (List.mem_of_getElem? gx)
        simp only [] at hx64 hts
        have i0 : (k : Int) < (ds.length : Int) := by omega
        have HC := kide hc
        have GX := kide gx
        have hsum := sumW_le hok
        have hst := sumW_take gx
        simp only [] at hst
        have htl : (ds.take k).length = k := by simp; omega
        rw [htl] at hsum
        have HST := kide hst
        have HOK := kide hok
        have HND := kide hnd
        have hN : ∀ u, Calls Tryd.prog 66 #[.string t] u fun e w' => e = .returned (.bool (nmOk t)) ∧ w' = u := fun u => l1Name_any t hts u
        have hW : ∀ u, Calls Tryd.prog 46 #[.int .i64 x, .int .i64 1, .int .i64 4096] u fun e w' => e = .returned (.bool (wOk x)) ∧ w' = u := fun u => l1In_any x 1 4096 u
        have HN := kide hN
        have HW := kide hW
        have HBAD : Hid (nmOk t = false ∨ wOk x = false → dclR ds = false) := fun h => dclR_bad gx (by rcases h with h | h <;> simp [dcOk, h])
        have HGOOD : Hid (nmOk t = true → wOk x = true → dcOk (t, x) = true) := fun h h' => by simp [dcOk, h, h']
        have hwx : wOk x = true → 1 ≤ x ∧ x ≤ 4096 := fun h => by simpa [wOk] using h
        clear hN hW hc gx hh hsz hok hnd hst htl hbel
        generalize sumW (ds.take k) = Q at *
        generalize nmOk t = r1 at *
        cases r1 with
        | false =>
          have HR := kide (HBAD.out (.inl (by simp)))
          go_wp2_with (go_at_call 66; refine Calls.mono (HN.out _) ?_; rintro e w1 ⟨rfl, rfl⟩)
          go_ret
          exact ⟨ret_bool HR.out.symm, HB.out⟩
        | true =>
          generalize wOk x = r2 at *
          cases r2 with
          | false =>
            have HR := kide (HBAD.out (.inr (by simp)))
            go_wp2_with (first | (go_at_call 66; refine Calls.mono (HN.out _) ?_; rintro e wr ⟨rfl, rfl⟩) | (go_at_call 46; refine Calls.mono (HW.out _) ?_; rintro e wr ⟨rfl, rfl⟩))
            go_ret
            exact ⟨ret_bool HR.out.symm, HB.out⟩
          | true =>
            have hx := hwx (by simp)
            obtain ⟨hx1, hx2⟩ := hx
            have HG := kide (HGOOD.out (by simp) (by simp))
            clear HBAD HGOOD hwx
            go_wp2_with (first | (go_at_call 66; refine Calls.mono (HN.out _) ?_; rintro e wr ⟨rfl, rfl⟩) | (go_at_call 46; refine Calls.mono (HW.out _) ?_; rintro e wr ⟨rfl, rfl⟩))
            obtain ⟨hs1, hs2⟩ := hsum
            have hlk := block_lt_of_cell p0
            rename_i wo
            go_loopw [5] (fun i wr => ∃ j : Nat, j ≤ k ∧ i = .int .i64 (j : Int) ∧ (∀ i d, i < j → ds[i]? = some d → d.1 ≠ t) ∧ Below w.heap.size w wr) (fun i _ => k - (intOf i).toNat)
            case atStart => exact ⟨0, Nat.zero_le _, rfl, fun i d h => by omega, HB.out⟩
            case round =>
              obtain ⟨j, hj, rfl, hne, hbel⟩ := hrel
              clear p0 p1 HB
              obtain ⟨p0, p1⟩ := (HC.out k _ GX.out).later hbel
              simp only [] at p0 p1
              have HB := kide hbel
              have HNE := kide hne
              clear hbel hne
              by_cases hjk : j < k
              · obtain ⟨⟨t2, x2⟩, hh2⟩ : ∃ x, ds[j]'(by omega) = x := ⟨_, rfl⟩
                have gx2 : ds[j]? = some (t2, x2) := by rw [List.getElem?_eq_getElem (by omega), hh2]
                obtain ⟨q0, q1⟩ := (HC.out j _ gx2).later HB.out
                simp only [] at q0 q1
                have GX2 := kide gx2
                have j0 : (j : Int) < (k : Int) := by omega
                have j1 : (j : Int) < (ds.length : Int) := by omega
                clear gx2 hh2
                by_cases ht : t2 = t
                · subst ht
                  have HR : Hid (dclR ds = false) := by
                    show _ = _
                    rw [Bool.eq_false_iff]; intro h'
                    have hnd := (dclR_iff.1 h').2.2.2
                    have h1 : (ds.map Prod.fst)[j]? = some t2 := by simp [GX2.out]
                    have h2 : (ds.map Prod.fst)[k]? = some t2 := by simp [GX.out]
                    have := (List.getElem?_inj (by simp; omega) hnd).1 (h1.trans h2.symm)
                    omega
                  go_wp2_with fail
                  go_quiet (fail)
                  go_wp2_with fail
                  go_ret
                  exact ⟨ret_bool HR.out.symm, below_drewN HB.out _⟩
                · have hne2 := kstr_ne ht
                  have HT := kide ht
                  clear ht
                  go_wp2_with fail
                  go_quiet (fail)
                  go_wp2_with fail
                  go_roundw
                  case rel =>
                    refine ⟨j + 1, by omega, by go_num, fun i d hi hd => ?_, below_drewN HB.out _⟩
                    by_cases hij : i = j
                    · subst hij
                      rw [GX2.out] at hd
                      cases hd
                      exact HT.out
                    · exact HNE.out i d (by omega) hd
                  case measure => simp [intOf]; omega
              · have hjk' : j = k := by omega
                have HJ := kide hjk'
                clear hjk'
                go_wp2_with fail
                go_roundw
                case rel =>
                  refine ⟨k + 1, by omega, by go_num, ?_, ?_, ?_, HB.out⟩
                  · rw [HST.out]
                  · intro d hd
                    rw [List.take_add_one, GX.out] at hd
                    rcases List.mem_append.1 hd with hd | hd
                    · exact HOK.out d hd
                    · simp at hd
                      subst hd
                      exact HG.out
                  · rw [List.take_add_one, GX.out, List.map_append]
                    refine List.nodup_append.2 ⟨HND.out, by simp, fun y hy z hz => ?_⟩
                    simp at hz
                    subst hz
                    obtain ⟨d, hd, rfl⟩ := List.mem_map.1 hy
                    obtain ⟨i, hi, hid⟩ := List.mem_iff_getElem.1 hd
                    simp at hi hid
                    have := HNE.out i d (by rw [HJ.out]; omega) (by rw [List.getElem?_eq_getElem (by omega)]; exact congrArg some hid)
                    exact this
                case measure => simp [intOf]; omega
      · have e : k = ds.length := by omega
        rw [e, List.take_length] at hok hnd
        have hs := sumW_le hok
        have HR : Hid (dclR ds = decide (sumW (ds.take k) ≤ 20000)) := by
          show _ = _
          rw [e, List.take_length]
          rw [Bool.eq_iff_iff, dclR_iff, decide_eq_true_eq]
          exact ⟨fun h => h.2.2.1, fun h => ⟨h60, hok, h, hnd⟩⟩
        generalize sumW (ds.take k) = Q at *
        clear hok hnd hbel hs e
        go_wp2_with fail
        go_ret
        exact ⟨ret_bool HR.out.symm, HB.out⟩
  · rw [dclR_long (by omega)]
    go_enter Tryd.func43, Tryd.ntmps43
    go_wp2_with fail
    go_ret
    exact ⟨rfl, Below.refl _ _⟩

end Go.Proofs.YteenmffhbgpahaaDoor
