/- Several texts in one. -/
import Derived.Test.YtjnbapddfhpcnaaZGAC
import Derived.Handy

/- What the program's DeclsOk answers. -/
namespace Go.Proofs.Ytjnbapddfhpcnaa
set_option linter.unusedVariables false
set_option linter.unusedSimpArgs false
open Go.RowKit Go.WideMaps Go.Maps

set_option maxHeartbeats 1000000 in
theorem totalWidth_any (a : Option Addr) (c : Nat) (ds : List Dc) (w : World) (hr : RdD w a ds) (h60 : ds.length ≤ 60) (hok : ∀ d ∈ ds, dcOk d = true) :
    Calls Try.prog 45 #[.slice a ds.length c] w fun e w' => e = .returned (.int .i64 (sumW ds)) ∧ Below w.heap.size w w' := by
  have HLN := kide hr.1
  have HALL := kide hok
  go_enter Try.func45, Try.ntmps45
  clear hok
  go_wp2_with fail
  go_loopw [3, 8] (fun q i wr => ∃ k : Nat, k ≤ ds.length ∧ i = .int .i64 (k : Int) ∧ q = .int .i64 (sumW (ds.take k)) ∧ Below w.heap.size w wr) (fun _ i _ => ds.length - (intOf i).toNat)
  case atStart => exact ⟨0, Nat.zero_le _, rfl, by simp [sumW], Below.refl _ _⟩
  case round =>
    obtain ⟨k, hk, rfl, rfl, hbel⟩ := hrel
    have HB := kide hbel
    by_cases hlt : k < ds.length
    · obtain ⟨-, hsz, h | ⟨b, o, rfl, hc⟩⟩ := hr
      · subst h; simp at hlt
      obtain ⟨⟨t, x⟩, hh⟩ : ∃ x, ds[k] = x := ⟨_, rfl⟩
      have gx : ds[k]? = some (t, x) := by rw [List.getElem?_eq_getElem hlt, hh]
      obtain ⟨p0, p1⟩ := (hc k _ gx).later hbel
      simp only [] at p0 p1
      obtain ⟨hx64, hts⟩ := hsz _ (List.mem_of_getElem? gx)
      simp only [] at hx64 hts
      have i0 : (k : Int) < (ds.length : Int) := by omega
      have hsum := sumW_le (fun d hd => HALL.out d (List.mem_of_mem_take hd) : ∀ d ∈ ds.take k, dcOk d = true)
      have hst := sumW_take gx
      simp only [] at hst
      have htl : (ds.take k).length = k := by simp; omega
      rw [htl] at hsum
      have HST := kide hst
      have hx := (dcOk_iff.1 (HALL.out _ (List.mem_of_getElem? gx))).2
      simp [wOk] at hx
      obtain ⟨hx1, hx2⟩ := hx
      obtain ⟨hs1, hs2⟩ := hsum
      have HA := kide ((HB.out.alloc HB.out.size (Obj.cells #[Value.string t, Value.int .i64 x] 49)))
      clear hc gx hh hsz hst htl hbel
      generalize sumW (ds.take k) = Q at *
      go_wp2_with fail
      go_roundw
      case rel =>
        refine ⟨k + 1, by omega, by go_num, ?_, HA.out⟩
        rw [HST.out]
      case measure => simp [intOf]; omega
    · have e : k = ds.length := by omega
      have HE : Hid (sumW (ds.take k) = sumW ds) := by
        show _ = _
        rw [e, List.take_length]
      generalize sumW (ds.take k) = Q at *
      clear hbel e
      go_wp2_with fail
      go_ret
      exact ⟨by rw [HE.out]; rfl, HB.out⟩

set_option maxHeartbeats 1000000 in
theorem implDecls_any (a : Option Addr) (c : Nat) (ds : List Dc) (w : World) (hr : RdD w a ds) :
    Calls Try.prog 34 #[.slice a ds.length c] w fun e w' => e = .returned (.bool (dclR ds)) ∧ Below w.heap.size w w' := by
  have hlen := hr.1
  by_cases h60 : ds.length ≤ 60
  · go_enter Try.func34, Try.ntmps34
    go_wp2_with fail
    have HLN := kide hlen
    clear hlen
    go_loopw [10] (fun i wr => ∃ k : Nat, k ≤ ds.length ∧ i = .int .i64 (k : Int) ∧ (∀ d ∈ ds.take k, dcOk d = true) ∧ Below w.heap.size w wr) (fun i _ => ds.length - (intOf i).toNat)
    case atStart => exact ⟨0, Nat.zero_le _, rfl, by simp, Below.refl _ _⟩
    case round =>
      obtain ⟨k, hk, rfl, hok, hbel⟩ := hrel
      have HB := kide hbel
      by_cases hlt : k < ds.length
      · obtain ⟨-, hsz, h | ⟨b, o, rfl, hc⟩⟩ := hr
        · subst h; simp at hlt
        obtain ⟨⟨t, x⟩, hh⟩ : ∃ x, ds[k] = x := ⟨_, rfl⟩
        have gx : ds[k]? = some (t, x) := by rw [List.getElem?_eq_getElem hlt, hh]
        obtain ⟨p0, p1⟩ := (hc k _ gx).later hbel
        simp only [] at p0 p1
        obtain ⟨hx64, hts⟩ := hsz _ (List.mem_of_getElem? gx)
        simp only [] at hx64 hts
        have i0 : (k : Int) < (ds.length : Int) := by omega
        have GX := kide gx
        have hsum := sumW_le hok
        have hst := sumW_take gx
        simp only [] at hst
        have htl : (ds.take k).length = k := by simp; omega
        rw [htl] at hsum
        have HST := kide hst
        have HOK := kide hok
        have hN : ∀ u, Calls Try.prog 43 #[.string t] u fun e w' => e = .returned (.bool (nmOk t)) ∧ w' = u := fun u => nameOk_any t hts u
        have hW : ∀ u, Calls Try.prog 44 #[.int .i64 x] u fun e w' => e = .returned (.bool (wOk x)) ∧ w' = u := fun u => widthOk_any x u
        have HN := kide hN
        have HW := kide hW
        have HBAD : Hid (nmOk t = false ∨ wOk x = false → dclR ds = false) := fun h => dclR_bad gx (by rcases h with h | h <;> simp [dcOk, h])
        have HGOOD : Hid (nmOk t = true → wOk x = true → dcOk (t, x) = true) := fun h h' => by simp [dcOk, h, h']
        have hwx : wOk x = true → 1 ≤ x ∧ x ≤ 4096 := fun h => by simpa [wOk] using h
        have HA := kide ((HB.out.alloc HB.out.size (Obj.cells #[Value.string t, Value.int .i64 x] 49)))
        clear hN hW hc gx hh hsz hok hst htl hbel
        generalize sumW (ds.take k) = Q at *
        generalize nmOk t = r1 at *
        cases r1 with
        | false =>
          have HR := kide (HBAD.out (.inl (by simp)))
          go_wp2_with (go_at_call 43; refine Calls.mono (HN.out _) ?_; rintro e w1 ⟨rfl, rfl⟩)
          go_ret
          exact ⟨ret_bool HR.out.symm, HA.out⟩
        | true =>
          generalize wOk x = r2 at *
          cases r2 with
          | false =>
            have HR := kide (HBAD.out (.inr (by simp)))
            go_wp2_with (first | (go_at_call 43; refine Calls.mono (HN.out _) ?_; rintro e w1 ⟨rfl, rfl⟩) | (go_at_call 44; refine Calls.mono (HW.out _) ?_; rintro e w1 ⟨rfl, rfl⟩))
            go_ret
            exact ⟨ret_bool HR.out.symm, HA.out⟩
          | true =>
            have hx := hwx (by simp)
            obtain ⟨hx1, hx2⟩ := hx
            obtain ⟨hs1, hs2⟩ := hsum
            have HG := kide (HGOOD.out (by simp) (by simp))
            clear HBAD HGOOD hwx
            go_wp2_with (first | (go_at_call 43; refine Calls.mono (HN.out _) ?_; rintro e w1 ⟨rfl, rfl⟩) | (go_at_call 44; refine Calls.mono (HW.out _) ?_; rintro e w1 ⟨rfl, rfl⟩))
            go_roundw
            case rel =>
              refine ⟨k + 1, by omega, by go_num, ?_, HA.out⟩
              · intro d hd
                rw [List.take_add_one, GX.out] at hd
                rcases List.mem_append.1 hd with hd | hd
                · exact HOK.out d hd
                · simp at hd
                  subst hd
                  exact HG.out
            case measure => simp [intOf]; omega
      · have e : k = ds.length := by omega
        rw [e, List.take_length] at hok
        have hs := sumW_le hok
        rw [← List.take_length (l := ds), ← e] at hs
        have HR : Hid (dclR ds = (decide (sumW (ds.take k) ≤ 20000) && decide ((ds.map Prod.fst).Nodup))) := by
          show _ = _
          rw [e, List.take_length]
          rw [Bool.eq_iff_iff, dclR_iff, Bool.and_eq_true, decide_eq_true_eq, decide_eq_true_eq]
          exact ⟨fun h => ⟨h.2.2.1, h.2.2.2⟩, fun h => ⟨h60, hok, h.1, h.2⟩⟩
        have hnm : ∀ d ∈ ds, d.1.size ≤ 1048576 := fun d hd => by
          have := (dcOk_iff.1 (hok d hd)).1
          simp [nmOk] at this
          omega
        have HP := kide (fun u (hu : Below w.heap.size w u) => placesOf_any a c ds u (hr.later hu) hnm)
        have HT := kide (totalWidth_any a c ds wr (hr.later hbel) h60 hok)
        rw [e, List.take_length] at HR hs
        generalize sumW ds = Q at *
        clear hok hbel hs e hnm
        go_wp2_with fail
        refine Calls.mono HT.out ?_
        rintro e wt ⟨rfl, hbt⟩
        have HBT := kide (HB.out.trans (hbt.mono HB.out.size))
        clear hbt
        by_cases hq : Q ≤ 20000
        · have HR2 : Hid (dclR ds = decide ((ds.map Prod.fst).Nodup)) := by
            show _ = _
            rw [HR.out, decide_eq_true hq]; rfl
          go_wp2_with (go_at_call 46; refine Calls.mono (HP.out _ HBT.out) ?_; rintro e w1 ⟨rfl, ⟨D, hown, hpl⟩, hb1⟩; have hml := fun ty => hown.len Try.underlying78 ty; have HD : Hid (decide ((ds.map Prod.fst).Nodup) = decide (Maps.size D = ds.length)) := (by show _ = _; rw [Bool.eq_iff_iff, decide_eq_true_eq, decide_eq_true_eq, ← hpl.nodup, List.length_map]); have hle := hpl.le; rw [List.length_map] at hle; clear hown hpl; generalize Maps.size D = n at *)
          go_ret
          exact ⟨ret_bool (by rw [HR2.out, HD.out, Bool.eq_iff_iff]; simp; omega), HBT.out.trans (hb1.mono HBT.out.size)⟩
        · have HR2 : Hid (dclR ds = false) := by
            show _ = _
            rw [HR.out, decide_eq_false hq]; rfl
          go_wp2_with fail
          go_ret
          exact ⟨ret_bool HR2.out.symm, HBT.out⟩
  · rw [dclR_long (by omega)]
    go_enter Try.func34, Try.ntmps34
    go_wp2_with fail
    go_ret
    exact ⟨rfl, Below.refl _ _⟩

end Go.Proofs.Ytjnbapddfhpcnaa

/- What the program's CutsOk answers. -/
namespace Go.Proofs.Ytjnbapddfhpcnaa
set_option linter.unusedVariables false
set_option linter.unusedSimpArgs false
open Go.RowKit

/-- Does a row rise from behind last to ahead of W? -/
def risR (W : Int) : Int → List Int → Bool
  | _, [] => true
  | last, x :: t => decide (last < x) && decide (x < W) && risR W x t

/-- .. each row, for its variable. -/
def cutL : List Dc → List (List Int) → Bool
  | [], [] => true
  | d :: ds, c :: cs => risR d.2 0 c && cutL ds cs
  | _, _ => false

def cutR (ds : List Dc) (cs : List (List Int)) : Bool := dclR ds && decide (cs.length = ds.length) && cutL ds cs

theorem cutL_step {ds : List Dc} {cs : List (List Int)} {k : Nat} {d : Dc} {c : List Int} (h1 : ds[k]? = some d) (h2 : cs[k]? = some c) :
    cutL (ds.drop k) (cs.drop k) = (risR d.2 0 c && cutL (ds.drop (k + 1)) (cs.drop (k + 1))) := by
  have l1 := (List.getElem?_eq_some_iff.1 h1).1
  have l2 := (List.getElem?_eq_some_iff.1 h2).1
  rw [List.drop_eq_getElem_cons l1, List.drop_eq_getElem_cons l2, cutL]
  rw [List.getElem?_eq_getElem l1] at h1
  rw [List.getElem?_eq_getElem l2] at h2
  cases h1
  cases h2
  rfl

theorem risR_step {W last : Int} {ks : List Int} {j : Nat} (h : j < ks.length) : risR W last (ks.drop j) = (decide (last < ks.getD j 0) && decide (ks.getD j 0 < W) && risR W (ks.getD j 0) (ks.drop (j + 1))) := by
  rw [List.drop_eq_getElem_cons h, risR]
  simp [List.getD, h]

set_option maxHeartbeats 1000000 in
theorem implCuts_any (a b : Option Addr) (c c2 n : Nat) (ds : List Dc) (xs : List Iw) (w : World) (hr : RdD w a ds) (hs : RdII w b xs) (hn : xs.length = n) :
    Calls Try.prog 22 #[.slice a ds.length c, .agg #[.slice b n c2]] w fun e w' => e = .returned (.bool (cutR ds (xs.map Iw.ks))) ∧ Below w.heap.size w w' := by
  have hl1 := hr.1
  have hl2 := hs.1
  have hb0 : Below w.heap.size w (w.alloc (Obj.cells #[Value.slice b n c2] 28)) := (Below.refl _ _).alloc (Nat.le_refl _) _
  have HDC := kide (implDecls_any a c ds _ (hr.later hb0))
  have B0 := kide hb0
  cases hD : dclR ds with
  | false =>
    rw [hD] at HDC
    have HR : cutR ds (xs.map Iw.ks) = false := by simp [cutR, hD]
    rw [HR]
    clear HR hD hb0
    go_enter Try.func22, Try.ntmps22
    go_wp2_with fail
    refine Calls.mono HDC.out ?_
    rintro e w1 ⟨rfl, hb1⟩
    go_wp2_with fail
    go_ret
    exact ⟨rfl, B0.out.trans (hb1.mono B0.out.size)⟩
  | true =>
    rw [hD] at HDC
    have c0 : (w.alloc (Obj.cells #[Value.slice b n c2] 28)).cell? ⟨w.heap.size, 0, none⟩ = some (Value.slice b n c2) := by simp
    have l0 : w.heap.size < (w.alloc (Obj.cells #[Value.slice b n c2] 28)).heap.size := by simp
    by_cases hnd : n = ds.length
    · subst hnd
      have hZ : cutR ds (xs.map Iw.ks) = cutL ds (xs.map Iw.ks) := by simp [cutR, hD, hn]
      rw [hZ]
      have hdw := fun d hd => (dcOk_iff.1 ((dclR_iff.1 hD).2.1 d hd)).2
      have HDW := kide hdw
      have HN := kide hn
      have hne : ((ds.length : Int) != (ds.length : Int)) = false := by simp
      generalize hzz : cutL ds (xs.map Iw.ks) = Z
      have HZ := kide hzz
      clear hD hn hl2 hZ hb0 hzz hdw
      go_enter Try.func22, Try.ntmps22
      go_wp2_with fail
      refine Calls.mono HDC.out ?_
      rintro e w1 ⟨rfl, hb1⟩
      have k0 := kcell hb1 w.heap.size 0 l0
      rw [c0] at k0
      have B1 := kide (B0.out.trans (hb1.mono B0.out.size))
      have L1 : w.heap.size < w1.heap.size := Nat.lt_of_lt_of_le l0 hb1.size
      clear hb1 HDC c0 l0
      go_wp2_with fail
      clear hne
      go_loop [24] (fun i => ∃ k : Nat, k ≤ ds.length ∧ i = .int .i64 (k : Int) ∧ cutL (ds.drop k) ((xs.map Iw.ks).drop k) = Z) (fun i => ds.length - (intOf i).toNat)
      case atStart => exact ⟨0, Nat.zero_le _, rfl, by simpa using HZ.out⟩
      case round =>
        obtain ⟨k, hk, rfl, hz⟩ := hrel
        by_cases hlt : k < ds.length
        · obtain ⟨-, hsz, h | ⟨b1, o1, rfl, hc1⟩⟩ := hr
          · subst h; simp at hlt
          obtain ⟨-, h | ⟨b2, o2, rfl, hc2⟩⟩ := hs
          · have := HN.out; subst h; simp at this; omega
          obtain ⟨⟨t, y⟩, gd⟩ : ∃ d, ds[k]? = some d := ⟨ds[k], List.getElem?_eq_getElem hlt⟩
          obtain ⟨⟨a1, c1, k1⟩, gx⟩ : ∃ x, xs[k]? = some x := ⟨xs[k]'(by rw [HN.out]; exact hlt), List.getElem?_eq_getElem _⟩
          obtain ⟨-, q1⟩ := (hc1 k _ gd).later B1.out
          obtain ⟨p1, p2⟩ := (hc2 k _ gx).later B1.out
          obtain ⟨hy1, hy2⟩ := HDW.out _ (List.mem_of_getElem? gd)
          simp only [] at q1 p1 p2 hy1 hy2
          rw [cutL_step gd (by rw [List.getElem?_map, gx]; rfl)] at hz
          simp only [] at hz
          have i0 : (k : Int) < (ds.length : Int) := by omega
          have HRZ := kide hz
          have hkl := p2.1
          clear hc1 hc2 hsz gx gd hz
          generalize hg : cutL (ds.drop (k + 1)) ((xs.map Iw.ks).drop (k + 1)) = Z2 at *
          have HG := kide hg
          clear hg
          go_wp2_with fail
          go_loop [7, 31] (fun l i => ∃ (j : Nat) (last : Int), j ≤ k1.length ∧ i = .int .i64 (j : Int) ∧ l = .int .i64 last ∧ (risR y last (k1.drop j) && Z2) = Z) (fun _ i => k1.length - (intOf i).toNat)
          case atStart => exact ⟨0, 0, Nat.zero_le _, rfl, rfl, by simpa using HRZ.out⟩
          case round =>
            obtain ⟨j, last, hj, rfl, rfl, hz⟩ := hrel
            by_cases hjl : j < k1.length
            · obtain ⟨-, hi64, h | ⟨b3, o3, rfl, hc3⟩⟩ := p2
              · subst h; simp at hjl
              have e3 := hc3 j hjl
              rw [risR_step hjl] at hz
              generalize k1.getD j 0 = x at *
              have j0 : (j : Int) < (k1.length : Int) := by omega
              have HZJ := kide hz
              clear hc3 hi64 hz
              by_cases h1 : last < x
              · by_cases h2 : x < y
                · go_wp2_with fail
                  go_round
                  case rel => exact ⟨j + 1, x, by omega, by go_num, rfl, by have h := HZJ.out; simpa [h1, h2] using h⟩
                  case measure => simp [intOf]; omega
                · have HF : Hid (Z = false) := by have h := HZJ.out; simp [h2] at h; exact h
                  go_wp2_with fail
                  go_ret
                  exact ⟨ret_bool HF.out.symm, B1.out⟩
              · have HF : Hid (Z = false) := by have h := HZJ.out; simp [h1] at h; exact h
                go_wp2_with fail
                go_ret
                exact ⟨ret_bool HF.out.symm, B1.out⟩
            · have e : j = k1.length := by omega
              rw [e, List.drop_length, risR, Bool.true_and] at hz
              have HZJ := kide hz
              clear hz e
              go_wp2_with fail
              go_round
              case rel => exact ⟨k + 1, by omega, by go_num, HG.out.trans HZJ.out⟩
              case measure => simp [intOf]; omega
        · have e : k = ds.length := by omega
          have HZT : Hid (Z = true) := by
            show _ = _
            rw [← hz, e, List.drop_length, List.drop_eq_nil_of_le (by rw [List.length_map, HN.out]; omega)]
            rfl
          clear hz e
          go_wp2_with fail
          go_ret
          exact ⟨ret_bool HZT.out.symm, B1.out⟩
    · have HR : cutR ds (xs.map Iw.ks) = false := by simp [cutR, hn, hnd]
      rw [HR]
      have hne : ((n : Int) != (ds.length : Int)) = true := by simp; omega
      rw [hn] at hl2
      clear HR hD hn hnd hb0
      go_enter Try.func22, Try.ntmps22
      go_wp2_with fail
      refine Calls.mono HDC.out ?_
      rintro e w1 ⟨rfl, hb1⟩
      have k0 := kcell hb1 w.heap.size 0 l0
      rw [c0] at k0
      have B1 := kide (B0.out.trans (hb1.mono B0.out.size))
      clear hb1
      go_wp2_with fail
      go_ret
      exact ⟨rfl, B1.out⟩

end Go.Proofs.Ytjnbapddfhpcnaa

/- What the given CutsOk answers. -/
namespace Go.Proofs.Ytjnbapddfhpcnaa
set_option linter.unusedVariables false
set_option linter.unusedSimpArgs false
open Go.RowKit

set_option maxHeartbeats 1000000 in
theorem specCuts_any (a b : Option Addr) (c c2 n : Nat) (ds : List Dc) (xs : List Iw) (w : World) (hr : RdD w a ds) (hs : RdII w b xs) (hn : xs.length = n) :
    Calls Try.prog 17 #[.slice a ds.length c, .agg #[.slice b n c2]] w fun e w' => e = .returned (.bool (cutR ds (xs.map Iw.ks))) ∧ Below w.heap.size w w' := by
  have hl1 := hr.1
  have hl2 := hs.1
  have hb0 : Below w.heap.size w (w.alloc (Obj.cells #[Value.slice b n c2] 28)) := (Below.refl _ _).alloc (Nat.le_refl _) _
  have HDC := kide (specDecls_any a c ds _ (hr.later hb0))
  have B0 := kide hb0
  cases hD : dclR ds with
  | false =>
    rw [hD] at HDC
    have HR : cutR ds (xs.map Iw.ks) = false := by simp [cutR, hD]
    rw [HR]
    clear HR hD hb0
    go_enter Try.func17, Try.ntmps17
    go_wp2_with fail
    refine Calls.mono HDC.out ?_
    rintro e w1 ⟨rfl, hb1⟩
    go_wp2_with fail
    go_ret
    exact ⟨rfl, B0.out.trans (hb1.mono B0.out.size)⟩
  | true =>
    rw [hD] at HDC
    have c0 : (w.alloc (Obj.cells #[Value.slice b n c2] 28)).cell? ⟨w.heap.size, 0, none⟩ = some (Value.slice b n c2) := by simp
    have l0 : w.heap.size < (w.alloc (Obj.cells #[Value.slice b n c2] 28)).heap.size := by simp
    by_cases hnd : n = ds.length
    · subst hnd
      have hZ : cutR ds (xs.map Iw.ks) = cutL ds (xs.map Iw.ks) := by simp [cutR, hD, hn]
      rw [hZ]
      have hdw := fun d hd => (dcOk_iff.1 ((dclR_iff.1 hD).2.1 d hd)).2
      have HDW := kide hdw
      have HN := kide hn
      have hne : ((ds.length : Int) != (ds.length : Int)) = false := by simp
      generalize hzz : cutL ds (xs.map Iw.ks) = Z
      have HZ := kide hzz
      clear hD hn hl2 hZ hb0 hzz hdw
      go_enter Try.func17, Try.ntmps17
      go_wp2_with fail
      refine Calls.mono HDC.out ?_
      rintro e w1 ⟨rfl, hb1⟩
      have k0 := kcell hb1 w.heap.size 0 l0
      rw [c0] at k0
      have B1 := kide (B0.out.trans (hb1.mono B0.out.size))
      have L1 : w.heap.size < w1.heap.size := Nat.lt_of_lt_of_le l0 hb1.size
      clear hb1 HDC c0 l0
      go_wp2_with fail
      clear hne
      go_loopw [5] (fun i wr => ∃ k : Nat, k ≤ ds.length ∧ i = .int .i64 (k : Int) ∧ cutL (ds.drop k) ((xs.map Iw.ks).drop k) = Z ∧ Below w1.heap.size w1 wr) (fun i _ => ds.length - (intOf i).toNat)
      case atStart => exact ⟨0, Nat.zero_le _, rfl, by simpa using HZ.out, Below.refl _ _⟩
      case round =>
        obtain ⟨k, hk, rfl, hz, hbel⟩ := hrel
        have HBK := kide hbel
        by_cases hlt : k < ds.length
        · obtain ⟨-, hsz, h | ⟨b1, o1, rfl, hc1⟩⟩ := hr
          · subst h; simp at hlt
          obtain ⟨-, h | ⟨b2, o2, rfl, hc2⟩⟩ := hs
          · have := HN.out; subst h; simp at this; omega
          obtain ⟨⟨t, y⟩, gd⟩ : ∃ d, ds[k]? = some d := ⟨ds[k], List.getElem?_eq_getElem hlt⟩
          obtain ⟨⟨a1, c1, k1⟩, gx⟩ : ∃ x, xs[k]? = some x := ⟨xs[k]'(by rw [HN.out]; exact hlt), List.getElem?_eq_getElem _⟩
          have HQ1 := kide ((hc1 k _ gd).later B1.out)
          have HP1 := kide ((hc2 k _ gx).later B1.out)
          obtain ⟨hy1, hy2⟩ := HDW.out _ (List.mem_of_getElem? gd)
          simp only [] at hy1 hy2
          rw [cutL_step gd (by rw [List.getElem?_map, gx]; rfl)] at hz
          simp only [] at hz
          have i0 : (k : Int) < (ds.length : Int) := by omega
          have HRZ := kide hz
          have hkl := HP1.out.2.1
          simp only [] at hkl
          clear hc1 hc2 hsz gx gd hz
          generalize hg : cutL (ds.drop (k + 1)) ((xs.map Iw.ks).drop (k + 1)) = Z2 at *
          have HG := kide hg
          have K0 := kide k0
          have d0 := kcell hbel w.heap.size 0 L1
          rw [k0] at d0
          clear hg hbel k0
          go_wp2_with fail
          clear d0
          go_loopw [6] (fun i wr => ∃ (j : Nat) (last : Int), j ≤ k1.length ∧ i = .int .i64 (j : Int) ∧ 0 ≤ last ∧ (j = 0 → last = 0) ∧ (0 < j → last = k1.getD (j - 1) 0) ∧ (risR y last (k1.drop j) && Z2) = Z ∧ Below w1.heap.size w1 wr) (fun i _ => k1.length - (intOf i).toNat)
          case atStart => exact ⟨0, 0, Nat.zero_le _, rfl, Int.le_refl _, fun _ => rfl, fun h => by omega, by simpa using HRZ.out, HBK.out⟩
          case round =>
            obtain ⟨j, last, hj, rfl, hl0, hj0, hjs, hz, hbel⟩ := hrel
            have HB := kide hbel
            obtain ⟨-, q1⟩ := HQ1.out.later hbel
            obtain ⟨p1, p2⟩ := HP1.out.later hbel
            have d0 := kcell hbel w.heap.size 0 L1
            rw [K0.out] at d0
            simp only [] at q1 p1 p2
            by_cases hjl : j < k1.length
            · obtain ⟨-, hi64, h | ⟨b3, o3, rfl, hc3⟩⟩ := p2
              · subst h; simp at hjl
              have e3 := hc3 j hjl
              rw [risR_step hjl] at hz
              have hprev : 0 < j → _ := fun h => hc3 (j - 1) (by omega)
              generalize hx : k1.getD j 0 = x at *
              have HX := kide hx
              have j0 : (j : Int) < (k1.length : Int) := by omega
              have HZJ := kide hz
              have HIN := kide (fun u => l1In_any x 1 (y - 1) u)
              have HD : decide (1 ≤ x ∧ x ≤ y - 1) = true ∨ decide (1 ≤ x ∧ x ≤ y - 1) = false := by cases decide (1 ≤ x ∧ x ≤ y - 1) <;> simp
              clear hc3 hi64 hz hx hbel
              rcases HD with hd | hd
              · rw [hd] at HIN
                have hin := of_decide_eq_true hd
                obtain ⟨hx1, hx2⟩ := hin
                clear hd
                cases j with
                | zero =>
                  have hl := hj0 rfl
                  subst hl
                  have HNX : Hid ((risR y x (k1.drop 1) && Z2) = Z) := by
                    show _ = _
                    have h := HZJ.out
                    simpa [show (0 : Int) < x by omega, show x < y by omega] using h
                  clear hprev hj0 hjs
                  rw [Nat.add_zero] at e3
                  go_wp2_with fail
                  go_quiet ((go_at_call 32; exact Calls.quiet_of_same (HIN.out _)))
                  go_wp2_with fail
                  go_roundw
                  case rel => exact ⟨1, x, by omega, by go_num, by omega, fun h => by omega, fun _ => by simpa using HX.out.symm, HNX.out, below_drewN HB.out _⟩
                  case measure => simp [intOf]; omega
                | succ j =>
                  have hl := hjs (by omega)
                  have e4 := hprev (by omega)
                  simp only [Nat.add_sub_cancel] at hl e4
                  rw [← hl] at e4
                  have j1 : (j : Int) < (k1.length : Int) := by omega
                  clear hprev hj0 hjs hl
                  by_cases hlx : last < x
                  · have HNX : Hid ((risR y x (k1.drop (j + 1 + 1)) && Z2) = Z) := by
                      show _ = _
                      have h := HZJ.out
                      simpa [hlx, show x < y by omega] using h
                    go_wp2_with fail
                    go_quiet ((go_at_call 32; exact Calls.quiet_of_same (HIN.out _)))
                    go_wp2_with fail
                    go_roundw
                    case rel => exact ⟨j + 1 + 1, x, by omega, by go_num, by omega, fun h => by omega, fun _ => by simpa using HX.out.symm, HNX.out, below_drewN HB.out _⟩
                    case measure => simp [intOf]; omega
                  · have HF : Hid (Z = false) := by have h := HZJ.out; simp [hlx] at h; exact h
                    go_wp2_with fail
                    go_quiet ((go_at_call 32; exact Calls.quiet_of_same (HIN.out _)))
                    go_wp2_with fail
                    go_ret
                    exact ⟨ret_bool HF.out.symm, B1.out.trans ((below_drewN HB.out _).mono B1.out.size)⟩
              · rw [hd] at HIN
                have hin := of_decide_eq_false hd
                have HF : Hid (Z = false) := by
                  have h := HZJ.out
                  by_cases h1 : last < x
                  · have h2 : ¬ x < y := by omega
                    simp [h2] at h; exact h
                  · simp [h1] at h; exact h
                clear hd hprev hj0 hjs hin
                go_wp2_with fail
                go_quiet ((go_at_call 32; exact Calls.quiet_of_same (HIN.out _)))
                go_wp2_with fail
                go_ret
                exact ⟨ret_bool HF.out.symm, B1.out.trans ((below_drewN HB.out _).mono B1.out.size)⟩
            · have e : j = k1.length := by omega
              rw [e, List.drop_length, risR, Bool.true_and] at hz
              have HZJ := kide hz
              clear hz e hj0 hjs hbel p2
              go_wp2_with fail
              go_roundw
              case rel => exact ⟨k + 1, by omega, by go_num, HG.out.trans HZJ.out, HB.out⟩
              case measure => simp [intOf]; omega
        · have e : k = ds.length := by omega
          have HZT : Hid (Z = true) := by
            show _ = _
            rw [← hz, e, List.drop_length, List.drop_eq_nil_of_le (by rw [List.length_map, HN.out]; omega)]
            rfl
          have d0 := kcell hbel w.heap.size 0 L1
          rw [k0] at d0
          clear hz e hbel
          go_wp2_with fail
          go_ret
          exact ⟨ret_bool HZT.out.symm, B1.out.trans (HBK.out.mono B1.out.size)⟩
    · have HR : cutR ds (xs.map Iw.ks) = false := by simp [cutR, hn, hnd]
      rw [HR]
      have hne : ((n : Int) != (ds.length : Int)) = true := by simp; omega
      rw [hn] at hl2
      clear HR hD hn hnd hb0
      go_enter Try.func17, Try.ntmps17
      go_wp2_with fail
      refine Calls.mono HDC.out ?_
      rintro e w1 ⟨rfl, hb1⟩
      have k0 := kcell hb1 w.heap.size 0 l0
      rw [c0] at k0
      have B1 := kide (B0.out.trans (hb1.mono B0.out.size))
      clear hb1
      go_wp2_with fail
      go_ret
      exact ⟨rfl, B1.out⟩

end Go.Proofs.Ytjnbapddfhpcnaa
