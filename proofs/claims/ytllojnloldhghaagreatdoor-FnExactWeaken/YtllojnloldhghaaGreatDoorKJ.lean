/- What the given ValuesOk answers. -/
import Derived.Test.YtllojnloldhghaaGreatDoorZKG
namespace Go.Proofs.YtllojnloldhghaaGreatDoor
set_option linter.unusedVariables false
set_option linter.unusedSimpArgs false
open Go.RowKit

set_option maxHeartbeats 1000000 in
theorem specValues_any (a b : Option Addr) (c c2 : Nat) (ds : List Dc) (xs : List Bw) (w : World) (hr : RdD w a ds) (hs : RdW w b xs) (n : Nat) (hn : xs.length = n) :
    Calls Tryz.prog 37 #[.slice a ds.length c, .slice b n c2] w fun e w' => e = .returned (.bool (valR ds (xs.map Bw.ct))) ∧ Below w.heap.size w w' := by
  have hl1 := hr.1
  have hl2 := hs.1
  have HDC := kide (specDecls_any a c ds w hr)
  cases hD : dclR ds with
  | false =>
    rw [hD] at HDC
    have HR : valR ds (xs.map Bw.ct) = false := by simp [valR, hD]
    rw [HR]
    clear HR hD
    go_enter Tryz.func37, Tryz.ntmps37
    go_wp2_with fail
    refine Calls.mono HDC.out ?_
    rintro e w1 ⟨rfl, hb1⟩
    go_wp2_with fail
    go_ret
    exact ⟨rfl, hb1⟩
  | true =>
    rw [hD] at HDC
    by_cases hnd : n = ds.length
    · subst hnd
      have HG := kide (fun h => valR_good (xs := xs) hD hn h)
      have HBAD := kide (fun k x d hx hd h => valR_bad (ds := ds) (xs := xs) (k := k) (x := x) (d := d) hx hd h)
      generalize valR ds (xs.map Bw.ct) = R at *
      have HN := kide hn
      have hne : ((ds.length : Int) != (ds.length : Int)) = false := by simp
      clear hD hn hl2
      go_enter Tryz.func37, Tryz.ntmps37
      go_wp2_with fail
      refine Calls.mono HDC.out ?_
      rintro e w1 ⟨rfl, hb1⟩
      have B1 := kide hb1
      clear hb1 HDC
      go_wp2_with fail
      clear hne
      go_loopw [5] (fun i wr => ∃ k : Nat, k ≤ ds.length ∧ i = .int .i64 (k : Int) ∧ (∀ (i : Nat) x d, i < k → xs[i]? = some x → ds[i]? = some d → rightB x.wd x.ws = true ∧ x.wd = d.2) ∧ Below w.heap.size w wr) (fun i _ => ds.length - (intOf i).toNat)
      case atStart => exact ⟨0, Nat.zero_le _, rfl, fun i x d h => by omega, B1.out⟩
      case round =>
        obtain ⟨k, hk, rfl, hz, hbel⟩ := hrel
        have HZ := kide hz
        have HB := kide hbel
        by_cases hlt : k < ds.length
        · obtain ⟨-, hsz, h | ⟨b1, o1, rfl, hc1⟩⟩ := hr
          · subst h; simp at hlt
          obtain ⟨-, h | ⟨b2, o2, rfl, hc2⟩⟩ := hs
          · have := HN.out; subst h; simp at this; omega
          obtain ⟨⟨t, y⟩, gd⟩ : ∃ d, ds[k]? = some d := ⟨ds[k], List.getElem?_eq_getElem hlt⟩
          obtain ⟨⟨s1, a1, c1, k1⟩, gx⟩ : ∃ x, xs[k]? = some x := ⟨xs[k]'(by rw [HN.out]; exact hlt), List.getElem?_eq_getElem _⟩
          obtain ⟨-, q1⟩ := (hc1 k _ gd).later hbel
          obtain ⟨p0, p1, p2, p3⟩ := (hc2 k _ gx).later hbel
          obtain ⟨hy, -⟩ := hsz _ (List.mem_of_getElem? gd)
          simp only [] at q1 p0 p1 p2 p3 hy
          have HBD := kide (fun h => HBAD.out k _ _ gx gd h)
          simp only [] at HBD
          have GX := kide gx
          have GD := kide gd
          have i0 : (k : Int) < (ds.length : Int) := by omega
          have HOK : Hid (∀ u, Below wr.heap.size wr u → Calls Tryz.prog 68 #[.agg #[.int .i64 s1, .slice a1 k1.length c1]] u fun e w' => e = .returned (.bool (rightB s1 k1)) ∧ Below u.heap.size u w') := fun u hu => specOk_any s1 a1 c1 k1 u (p2.later hu)
          have l1 : b1 < wr.heap.size := block_lt_of_cell q1
          have l2 : b2 < wr.heap.size := block_lt_of_cell p0
          clear hc1 hc2 hsz gx gd hbel hz p2 HBAD
          by_cases hsy : s1 = y
          · have hne : (s1 != y) = false := by simp [hsy]
            have HSY := kide hsy
            generalize hrB : rightB s1 k1 = r at *
            have HRB := kide hrB
            clear hrB hsy
            cases r with
            | false =>
              have HF := kide (HBD.out (by simp))
              go_wp2_with fail
              go_region_held3 (fun u => u.cell? ⟨b2, o2 + k * 2, none⟩ = some (Value.int .i64 s1) ∧ u.cell? ⟨b2, o2 + k * 2 + 1, none⟩ = some (Value.slice a1 k1.length c1) ∧ u.cell? ⟨b1, o1 + k * 2 + 1, none⟩ = some (Value.int .i64 y)) (simp [*])
                ((go_at_call 68; refine Calls.mono (HOK.out _ ?_) ?_; exact (Below.refl _ _).drew; rintro e w3 ⟨rfl, hb3⟩; replace hb3 := kundrew hb3; have k0 := kcell hb3 b2 (o2 + k * 2) l2; have k1' := kcell hb3 b2 (o2 + k * 2 + 1) l2; have k2' := kcell hb3 b1 (o1 + k * 2 + 1) l1))
              go_wp2_with fail
              go_ret
              exact ⟨ret_bool HF.out.symm, HB.out.trans (hb3.mono HB.out.size)⟩
            | true =>
              go_wp2_with fail
              go_region_held3 (fun u => u.cell? ⟨b2, o2 + k * 2, none⟩ = some (Value.int .i64 s1) ∧ u.cell? ⟨b2, o2 + k * 2 + 1, none⟩ = some (Value.slice a1 k1.length c1) ∧ u.cell? ⟨b1, o1 + k * 2 + 1, none⟩ = some (Value.int .i64 y)) (simp [*])
                ((go_at_call 68; refine Calls.mono (HOK.out _ ?_) ?_; exact (Below.refl _ _).drew; rintro e w3 ⟨rfl, hb3⟩; replace hb3 := kundrew hb3; have k0 := kcell hb3 b2 (o2 + k * 2) l2; have k1' := kcell hb3 b2 (o2 + k * 2 + 1) l2; have k2' := kcell hb3 b1 (o1 + k * 2 + 1) l1))
              go_wp2_with fail
              go_roundw
              case rel =>
                refine ⟨k + 1, by omega, by go_num, fun i x d hi hx hd => ?_, HB.out.trans (hb3.mono HB.out.size)⟩
                by_cases hik : i = k
                · subst hik
                  rw [GX.out] at hx
                  rw [GD.out] at hd
                  cases hx
                  cases hd
                  exact ⟨HRB.out, HSY.out⟩
                · exact HZ.out i x d (by omega) hx hd
              case measure => simp [intOf]; omega
          · have hne : (s1 != y) = true := by simp [hsy]
            have HF := kide (HBD.out (fun h => hsy h.2))
            clear hsy
            go_wp2_with fail
            go_quiet (fail)
            go_wp2_with fail
            go_ret
            exact ⟨ret_bool HF.out.symm, below_drewN HB.out _⟩
        · have e : k = ds.length := by omega
          have HR : Hid (R = true) := HG.out fun i x d hx hd => HZ.out i x d (by have := (List.getElem?_eq_some_iff.1 hd).1; omega) hx hd
          clear hz hbel e
          go_wp2_with fail
          go_ret
          exact ⟨ret_bool HR.out.symm, HB.out⟩
    · have HR : valR ds (xs.map Bw.ct) = false := by simp [valR, hn, hnd]
      rw [HR]
      have hne : ((n : Int) != (ds.length : Int)) = true := by simp; omega
      rw [hn] at hl2
      clear HR hD hn hnd
      go_enter Tryz.func37, Tryz.ntmps37
      go_wp2_with fail
      refine Calls.mono HDC.out ?_
      rintro e w1 ⟨rfl, hb1⟩
      go_wp2_with fail
      go_ret
      exact ⟨rfl, hb1⟩

end Go.Proofs.YtllojnloldhghaaGreatDoor
