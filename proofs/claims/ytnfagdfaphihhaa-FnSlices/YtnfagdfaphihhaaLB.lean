/- What the program's CutsOk answers. -/
import Derived.Test.YtnfagdfaphihhaaLA
import Derived.Test.YtnfagdfaphihhaaKD
import Derived.Test.YtnfagdfaphihhaaKF
namespace Go.Proofs.Ytnfagdfaphihhaa
set_option linter.unusedVariables false
set_option linter.unusedSimpArgs false
open Go.RowKit

/-- Does a row rise from behind last to ahead of W? -/
def risR (W : Int) : Int → List Int → Bool
  | _, [] => true
  | last, x :: t => decide (last < x) && decide (x < W) && risR W x t

/-- .. each row, for its variable. -/
def cutL : List Dc → List (List Int) → Bool
  | [], [] => true
  | d :: ds, c :: cs => risR d.2 0 c && cutL ds cs
  | _, _ => false

def cutR (ds : List Dc) (cs : List (List Int)) : Bool := dclR ds && decide (cs.length = ds.length) && cutL ds cs

theorem cutL_step {ds : List Dc} {cs : List (List Int)} {k : Nat} {d : Dc} {c : List Int} (h1 : ds[k]? = some d) (h2 : cs[k]? = some c) :
    cutL (ds.drop k) (cs.drop k) = (risR d.2 0 c && cutL (ds.drop (k + 1)) (cs.drop (k + 1))) := by
  have l1 := (List.getElem?_eq_some_iff.1 h1).1
  have l2 := (List.getElem?_eq_some_iff.1 h2).1
  rw [List.drop_eq_getElem_cons l1, List.drop_eq_getElem_cons l2, cutL]
  rw [List.getElem?_eq_getElem l1] at h1
  rw [List.getElem?_eq_getElem l2] at h2
  cases h1
  cases h2
  rfl

theorem risR_step {W last : Int} {ks : List Int} {j : Nat} (h : j < ks.length) : risR W last (ks.drop j) = (decide (last < ks.getD j 0) && decide (ks.getD j 0 < W) && risR W (ks.getD j 0) (ks.drop (j + 1))) := by
  rw [List.drop_eq_getElem_cons h, risR]
  simp [List.getD, h]

set_option maxHeartbeats 1000000 in
theorem implCuts_any (a b : Option Addr) (c c2 n : Nat) (ds : List Dc) (xs : List Iw) (w : World) (hr : RdD w a ds) (hs : RdII w b xs) (hn : xs.length = n) :
    Calls Try.prog 23 #[.slice a ds.length c, .agg #[.slice b n c2]] w fun e w' => e = .returned (.bool (cutR ds (xs.map Iw.ks))) ∧ Below w.heap.size w w' := by
  have hl1 := hr.1
  have hl2 := hs.1
  have hb0 : Below w.heap.size w (w.alloc (Obj.cells #[Value.slice b n c2] 27)) := (Below.refl _ _).alloc (Nat.le_refl _) _
  have HDC := kide (implDecls_any a c ds _ (hr.later hb0))
  have B0 := kide hb0
  cases hD : dclR ds with
  | false =>
    rw [hD] at HDC
    have HR : cutR ds (xs.map Iw.ks) = false := by simp [cutR, hD]
    rw [HR]
    clear HR hD hb0
    go_enter Try.func23, Try.ntmps23
    go_wp2_with fail
    refine Calls.mono HDC.out ?_
    rintro e w1 ⟨rfl, hb1⟩
    go_wp2_with fail
    go_ret
    exact ⟨rfl, B0.out.trans (hb1.mono B0.out.size)⟩
  | true =>
    rw [hD] at HDC
    have c0 : (w.alloc (Obj.cells #[Value.slice b n c2] 27)).cell? ⟨w.heap.size, 0, none⟩ = some (Value.slice b n c2) := by simp
    have l0 : w.heap.size < (w.alloc (Obj.cells #[Value.slice b n c2] 27)).heap.size := by simp
    by_cases hnd : n = ds.length
    · subst hnd
      have hZ : cutR ds (xs.map Iw.ks) = cutL ds (xs.map Iw.ks) := by simp [cutR, hD, hn]
      rw [hZ]
      have hdw := fun d hd => (dcOk_iff.1 ((dclR_iff.1 hD).2.1 d hd)).2
      have HDW := kide hdw
      have HN := kide hn
      have hne : ((ds.length : Int) != (ds.length : Int)) = false := by simp
      generalize hzz : cutL ds (xs.map Iw.ks) = Z
      have HZ := kide hzz
      clear hD hn hl2 hZ hb0 hzz hdw
      go_enter Try.func23, Try.ntmps23
      go_wp2_with fail
      refine Calls.mono HDC.out ?_
      rintro e w1 ⟨rfl, hb1⟩
      have k0 := kcell hb1 w.heap.size 0 l0
      rw [c0] at k0
      have B1 := kide (B0.out.trans (hb1.mono B0.out.size))
      have L1 : w.heap.size < w1.heap.size := Nat.lt_of_lt_of_le l0 hb1.size
      clear hb1 HDC c0 l0
      go_wp2_with fail
      clear hne
      go_loop [24] (fun i => ∃ k : Nat, k ≤ ds.length ∧ i = .int .i64 (k : Int) ∧ cutL (ds.drop k) ((xs.map Iw.ks).drop k) = Z) (fun i => ds.length - (intOf i).toNat)
      case atStart => exact ⟨0, Nat.zero_le _, rfl, by simpa using HZ.out⟩
      case round =>
        obtain ⟨k, hk, rfl, hz⟩ := hrel
        by_cases hlt : k < ds.length
        · obtain ⟨-, hsz, h | ⟨b1, o1, rfl, hc1⟩⟩ := hr
          · subst h; simp at hlt
          obtain ⟨-, h | ⟨b2, o2, rfl, hc2⟩⟩ := hs
          · have := HN.out; subst h; simp at this; omega
          obtain ⟨⟨t, y⟩, gd⟩ : ∃ d, ds[k]? = some d := ⟨ds[k], List.getElem?_eq_getElem hlt⟩
          obtain ⟨⟨a1, c1, k1⟩, gx⟩ : ∃ x, xs[k]? = some x := ⟨xs[k]'(by rw [HN.out]; exact hlt), List.getElem?_eq_getElem _⟩
          obtain ⟨-, q1⟩ := (hc1 k _ gd).later B1.out
          obtain ⟨p1, p2⟩ := (hc2 k _ gx).later B1.out
          obtain ⟨hy1, hy2⟩ := HDW.out _ (List.mem_of_getElem? gd)
          simp only [] at q1 p1 p2 hy1 hy2
          rw [cutL_step gd (by rw [List.getElem?_map, gx]; rfl)] at hz
          simp only [] at hz
          have i0 : (k : Int) < (ds.length : Int) := by omega
          have HRZ := kide hz
          have hkl := p2.1
          clear hc1 hc2 hsz gx gd hz
          generalize hg : cutL (ds.drop (k + 1)) ((xs.map Iw.ks).drop (k + 1)) = Z2 at *
          have HG := kide hg
          clear hg
          go_wp2_with fail
          go_loop [7, 31] (fun l i => ∃ (j : Nat) (last : Int), j ≤ k1.length ∧ i = .int .i64 (j : Int) ∧ l = .int .i64 last ∧ (risR y last (k1.drop j) && Z2) = Z) (fun _ i => k1.length - (intOf i).toNat)
          case atStart => exact ⟨0, 0, Nat.zero_le _, rfl, rfl, by simpa using HRZ.out⟩
          case round =>
            obtain ⟨j, last, hj, rfl, rfl, hz⟩ := hrel
            by_cases hjl : j < k1.length
            · obtain ⟨-, hi64, h | ⟨b3, o3, rfl, hc3⟩⟩ := p2
              · subst h; simp at hjl
              have e3 := hc3 j hjl
              rw [risR_step hjl] at hz
              generalize k1.getD j 0 = x at *
              have j0 : (j : Int) < (k1.length : Int) := by omega
              have HZJ := kide hz
              clear hc3 hi64 hz
              by_cases h1 : last < x
              · by_cases h2 : x < y
                · go_wp2_with fail
                  go_round
                  case rel => exact ⟨j + 1, x, by omega, by go_num, rfl, by have h := HZJ.out; simpa [h1, h2] using h⟩
                  case measure => simp [intOf]; omega
                · have HF : Hid (Z = false) := by have h := HZJ.out; simp [h2] at h; exact h
                  go_wp2_with fail
                  go_ret
                  exact ⟨ret_bool HF.out.symm, B1.out⟩
              · have HF : Hid (Z = false) := by have h := HZJ.out; simp [h1] at h; exact h
                go_wp2_with fail
                go_ret
                exact ⟨ret_bool HF.out.symm, B1.out⟩
            · have e : j = k1.length := by omega
              rw [e, List.drop_length, risR, Bool.true_and] at hz
              have HZJ := kide hz
              clear hz e
              go_wp2_with fail
              go_round
              case rel => exact ⟨k + 1, by omega, by go_num, HG.out.trans HZJ.out⟩
              case measure => simp [intOf]; omega
        · have e : k = ds.length := by omega
          have HZT : Hid (Z = true) := by
            show _ = _
            rw [← hz, e, List.drop_length, List.drop_eq_nil_of_le (by rw [List.length_map, HN.out]; omega)]
            rfl
          clear hz e
          go_wp2_with fail
          go_ret
          exact ⟨ret_bool HZT.out.symm, B1.out⟩
    · have HR : cutR ds (xs.map Iw.ks) = false := by simp [cutR, hn, hnd]
      rw [HR]
      have hne : ((n : Int) != (ds.length : Int)) = true := by simp; omega
      rw [hn] at hl2
      clear HR hD hn hnd hb0
      go_enter Try.func23, Try.ntmps23
      go_wp2_with fail
      refine Calls.mono HDC.out ?_
      rintro e w1 ⟨rfl, hb1⟩
      have k0 := kcell hb1 w.heap.size 0 l0
      rw [c0] at k0
      have B1 := kide (B0.out.trans (hb1.mono B0.out.size))
      clear hb1
      go_wp2_with fail
      go_ret
      exact ⟨rfl, B1.out⟩

end Go.Proofs.Ytnfagdfaphihhaa
