/- What both ValuesOk answer. -/
import Derived.Test.YtpmpipcpifmncaaKD
import Derived.Test.YtpmpipcpifmncaaKF
import Derived.Test.YtpmpipcpifmncaaKG
import Derived.Deep.RegionWith
namespace Go.Proofs.Ytpmpipcpifmncaa
set_option linter.unusedVariables false
set_option linter.unusedSimpArgs false
open Go.RowKit

/-- Are the words right for the variables? -/
def valR (ds : List Dc) (vs : List (Int × List Nat)) : Bool :=
  dclR ds && decide (vs.length = ds.length) && (List.range vs.length).all fun i => rightB (vs.getD i (0, [])).1 (vs.getD i (0, [])).2 && decide ((vs.getD i (0, [])).1 = (ds.getD i (.empty, 0)).2)

theorem valR_iff {ds : List Dc} {vs : List (Int × List Nat)} : valR ds vs = true ↔ dclR ds = true ∧ vs.length = ds.length ∧ ∀ i, i < vs.length → rightB (vs.getD i (0, [])).1 (vs.getD i (0, [])).2 = true ∧ (vs.getD i (0, [])).1 = (ds.getD i (.empty, 0)).2 := by
  simp only [valR, Bool.and_eq_true, decide_eq_true_eq, List.all_eq_true, List.mem_range]
  exact ⟨fun h => ⟨h.1.1, h.1.2, h.2⟩, fun h => ⟨⟨h.1, h.2.1⟩, h.2.2⟩⟩

theorem valR_bad {ds : List Dc} {xs : List Bw} {k : Nat} {x : Bw} {d : Dc} (hx : xs[k]? = some x) (hd : ds[k]? = some d) (h : ¬ (rightB x.wd x.ws = true ∧ x.wd = d.2)) : valR ds (xs.map Bw.ct) = false := by
  rw [Bool.eq_false_iff]; intro h'
  have hk := (List.getElem?_eq_some_iff.1 hx).1
  have := (valR_iff.1 h').2.2 k (by simpa using hk)
  simp [List.getD, hx, hd, Bw.ct] at this
  exact h this

theorem valR_good {ds : List Dc} {xs : List Bw} (h1 : dclR ds = true) (h2 : xs.length = ds.length) (h : ∀ (i : Nat) x d, xs[i]? = some x → ds[i]? = some d → rightB x.wd x.ws = true ∧ x.wd = d.2) : valR ds (xs.map Bw.ct) = true := by
  refine valR_iff.2 ⟨h1, by simpa using h2, fun i hi => ?_⟩
  simp at hi
  have := h i xs[i] (ds[i]'(by omega)) (List.getElem?_eq_getElem hi) (List.getElem?_eq_getElem (by omega))
  simp [List.getD, hi, show i < ds.length by omega, Bw.ct]
  exact this

set_option maxHeartbeats 1000000 in
theorem implValues_any (a b : Option Addr) (c c2 : Nat) (ds : List Dc) (xs : List Bw) (w : World) (hr : RdD w a ds) (hs : RdW w b xs) (n : Nat) (hn : xs.length = n) :
    Calls Try.prog 45 #[.slice a ds.length c, .slice b n c2] w fun e w' => e = .returned (.bool (valR ds (xs.map Bw.ct))) ∧ Below w.heap.size w w' := by
  have hl1 := hr.1
  have hl2 := hs.1
  have HDC := kide (implDecls_any a c ds w hr)
  cases hD : dclR ds with
  | false =>
    rw [hD] at HDC
    have HR : valR ds (xs.map Bw.ct) = false := by simp [valR, hD]
    rw [HR]
    clear HR hD
    go_enter Try.func45, Try.ntmps45
    go_wp2_with fail
    refine Calls.mono HDC.out ?_
    rintro e w1 ⟨rfl, hb1⟩
    go_wp2_with fail
    go_ret
    exact ⟨rfl, hb1⟩
  | true =>
    rw [hD] at HDC
    by_cases hnd : n = ds.length
    · subst hnd
      have HG := kide (fun h => valR_good (xs := xs) hD hn h)
      have HBAD := kide (fun k x d hx hd h => valR_bad (ds := ds) (xs := xs) (k := k) (x := x) (d := d) hx hd h)
      generalize valR ds (xs.map Bw.ct) = R at *
      have HN := kide hn
      have hne : ((ds.length : Int) != (ds.length : Int)) = false := by simp
      clear hD hn hl2
      go_enter Try.func45, Try.ntmps45
      go_wp2_with fail
      refine Calls.mono HDC.out ?_
      rintro e w1 ⟨rfl, hb1⟩
      have B1 := kide hb1
      clear hb1 HDC
      go_wp2_with fail
      clear hne
      go_loopw [19] (fun i wr => ∃ k : Nat, k ≤ ds.length ∧ i = .int .i64 (k : Int) ∧ (∀ (i : Nat) x d, i < k → xs[i]? = some x → ds[i]? = some d → rightB x.wd x.ws = true ∧ x.wd = d.2) ∧ Below w.heap.size w wr) (fun i _ => ds.length - (intOf i).toNat)
      case atStart => exact ⟨0, Nat.zero_le _, rfl, fun i x d h => by omega, B1.out⟩
      case round =>
        obtain ⟨k, hk, rfl, hz, hbel⟩ := hrel
        have HZ := kide hz
        have HB := kide hbel
        by_cases hlt : k < ds.length
        · obtain ⟨-, hsz, h | ⟨b1, o1, rfl, hc1⟩⟩ := hr
          · subst h; simp at hlt
          obtain ⟨-, h | ⟨b2, o2, rfl, hc2⟩⟩ := hs
          · have := HN.out; subst h; simp at this; omega
          obtain ⟨⟨t, y⟩, gd⟩ : ∃ d, ds[k]? = some d := ⟨ds[k], List.getElem?_eq_getElem hlt⟩
          obtain ⟨⟨s1, a1, c1, k1⟩, gx⟩ : ∃ x, xs[k]? = some x := ⟨xs[k]'(by rw [HN.out]; exact hlt), List.getElem?_eq_getElem _⟩
          obtain ⟨-, q1⟩ := (hc1 k _ gd).later hbel
          obtain ⟨p0, p1, p2, p3⟩ := (hc2 k _ gx).later hbel
          obtain ⟨hy, -⟩ := hsz _ (List.mem_of_getElem? gd)
          simp only [] at q1 p0 p1 p2 p3 hy
          have HBD := kide (fun h => HBAD.out k _ _ gx gd h)
          simp only [] at HBD
          have GX := kide gx
          have GD := kide gd
          have i0 : (k : Int) < (ds.length : Int) := by omega
          have hb0 : Below wr.heap.size wr (wr.alloc (Obj.cells #[Value.int .i64 s1, Value.slice a1 k1.length c1] 30)) := (Below.refl _ _).alloc (Nat.le_refl _) _
          have HOK : Hid (∀ u, Below wr.heap.size wr u → Calls Try.prog 74 #[.agg #[.int .i64 s1, .slice a1 k1.length c1]] u fun e w' => e = .returned (.bool (rightB s1 k1)) ∧ Below u.heap.size u w') := fun u hu => implOk_any s1 a1 c1 k1 u (p2.later hu)
          have l1 : b1 < wr.heap.size := block_lt_of_cell q1
          have c0 : (wr.alloc (Obj.cells #[Value.int .i64 s1, Value.slice a1 k1.length c1] 30)).cell? ⟨wr.heap.size, 0, none⟩ = some (Value.int .i64 s1) := by simp
          have c1' : (wr.alloc (Obj.cells #[Value.int .i64 s1, Value.slice a1 k1.length c1] 30)).cell? ⟨wr.heap.size, 1, none⟩ = some (Value.slice a1 k1.length c1) := by simp
          have c2' : (wr.alloc (Obj.cells #[Value.int .i64 s1, Value.slice a1 k1.length c1] 30)).cell? ⟨b1, o1 + k * 2 + 1, none⟩ = some (Value.int .i64 y) := by rw [kcell hb0 _ _ l1]; exact q1
          have l0 : wr.heap.size < (wr.alloc (Obj.cells #[Value.int .i64 s1, Value.slice a1 k1.length c1] 30)).heap.size := by simp
          have l2 : b1 < (wr.alloc (Obj.cells #[Value.int .i64 s1, Value.slice a1 k1.length c1] 30)).heap.size := by simp; omega
          clear hc1 hc2 hsz gx gd hbel hz p2 HBAD
          generalize hrB : rightB s1 k1 = r at *
          have HRB := kide hrB
          clear hrB
          cases r with
          | false =>
            have HF := kide (HBD.out (by simp))
            go_wp2_with fail
            generalize wr.alloc (Obj.cells #[Value.int .i64 s1, Value.slice a1 k1.length c1] 30) = w0 at *
            clear q1 p0 p1
            have HB0 := kide hb0
            clear hb0
            first | (go_region_with (go_at_call 74; refine Calls.mono (HOK.out _ ?_) ?_; exact HB0.out.drew; rintro e w3 ⟨rfl, hb3⟩; replace hb3 := kundrew hb3; have k0 := kcell hb3 wr.heap.size 0 l0; have k1' := kcell hb3 wr.heap.size 1 l0; have k2' := kcell hb3 b1 (o1 + k * 2 + 1) l2)) | fail
            all_goals
              go_wp2_with fail
              go_ret
              exact ⟨ret_bool HF.out.symm, HB.out.trans ((HB0.out.trans (hb3.mono HB0.out.size)).mono HB.out.size)⟩
          | true =>
            have HREG := kide hb0
            by_cases hsy : s1 = y
            · have hne : (s1 != y) = false := by simp [hsy]
              have HSY := kide hsy
              clear hsy
              go_wp2_with fail
              generalize wr.alloc (Obj.cells #[Value.int .i64 s1, Value.slice a1 k1.length c1] 30) = w0 at *
              clear q1 p0 p1 hb0
              go_region_held3 (fun u => u.cell? ⟨wr.heap.size, 0, none⟩ = some (Value.int .i64 s1) ∧ u.cell? ⟨wr.heap.size, 1, none⟩ = some (Value.slice a1 k1.length c1) ∧ u.cell? ⟨b1, o1 + k * 2 + 1, none⟩ = some (Value.int .i64 y)) (simp [*])
                ((go_at_call 74; refine Calls.mono (HOK.out _ ?_) ?_; exact HREG.out.drew; rintro e w3 ⟨rfl, hb3⟩; replace hb3 := kundrew hb3; have k0 := kcell hb3 wr.heap.size 0 l0; have k1' := kcell hb3 wr.heap.size 1 l0; have k2' := kcell hb3 b1 (o1 + k * 2 + 1) l2))
              go_wp2_with fail
              go_roundw
              case rel =>
                refine ⟨k + 1, by omega, by go_num, fun i x d hi hx hd => ?_, HB.out.trans ((HREG.out.trans (hb3.mono HREG.out.size)).mono HB.out.size)⟩
                by_cases hik : i = k
                · subst hik
                  rw [GX.out] at hx
                  rw [GD.out] at hd
                  cases hx
                  cases hd
                  exact ⟨HRB.out, HSY.out⟩
                · exact HZ.out i x d (by omega) hx hd
              case measure => simp [intOf]; omega
            · have hne : (s1 != y) = true := by simp [hsy]
              have HF := kide (HBD.out (fun h => hsy h.2))
              clear hsy
              go_wp2_with fail
              generalize wr.alloc (Obj.cells #[Value.int .i64 s1, Value.slice a1 k1.length c1] 30) = w0 at *
              clear q1 p0 p1 hb0
              go_region_held3 (fun u => u.cell? ⟨wr.heap.size, 0, none⟩ = some (Value.int .i64 s1) ∧ u.cell? ⟨wr.heap.size, 1, none⟩ = some (Value.slice a1 k1.length c1) ∧ u.cell? ⟨b1, o1 + k * 2 + 1, none⟩ = some (Value.int .i64 y)) (simp [*])
                ((go_at_call 74; refine Calls.mono (HOK.out _ ?_) ?_; exact HREG.out.drew; rintro e w3 ⟨rfl, hb3⟩; replace hb3 := kundrew hb3; have k0 := kcell hb3 wr.heap.size 0 l0; have k1' := kcell hb3 wr.heap.size 1 l0; have k2' := kcell hb3 b1 (o1 + k * 2 + 1) l2))
              go_wp2_with fail
              go_ret
              exact ⟨ret_bool HF.out.symm, HB.out.trans ((HREG.out.trans (hb3.mono HREG.out.size)).mono HB.out.size)⟩
        · have e : k = ds.length := by omega
          have HR : Hid (R = true) := HG.out fun i x d hx hd => HZ.out i x d (by have := (List.getElem?_eq_some_iff.1 hd).1; omega) hx hd
          clear hz hbel e
          go_wp2_with fail
          go_ret
          exact ⟨ret_bool HR.out.symm, HB.out⟩
    · have HR : valR ds (xs.map Bw.ct) = false := by simp [valR, hn, hnd]
      rw [HR]
      have hne : ((n : Int) != (ds.length : Int)) = true := by simp; omega
      rw [hn] at hl2
      clear HR hD hn hnd
      go_enter Try.func45, Try.ntmps45
      go_wp2_with fail
      refine Calls.mono HDC.out ?_
      rintro e w1 ⟨rfl, hb1⟩
      go_wp2_with fail
      go_ret
      exact ⟨rfl, hb1⟩

end Go.Proofs.Ytpmpipcpifmncaa
