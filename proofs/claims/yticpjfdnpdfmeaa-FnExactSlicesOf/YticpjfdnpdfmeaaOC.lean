/- What the given SlicesOf answers. -/
import Derived.Test.YticpjfdnpdfmeaaOA
namespace Go.Proofs.Yticpjfdnpdfmeaa
set_option linter.unusedVariables false
set_option linter.unusedSimpArgs false
open Go.RowKit

theorem kgrown {w w' : World} (h : Below w.heap.size w w') : w.grownBy w' none := ⟨h.os, h.tape, h.output, h.size, fun k hk _ => h.block k hk⟩

set_option maxHeartbeats 1000000 in
theorem specSlices_any (a b : Option Addr) (c c2 n : Nat) (ds : List Dc) (xs : List Iw) (w : World) (hr : RdD w a ds) (hs : RdII w b xs) (hn : xs.length = n) :
    Calls Try.prog 23 #[.slice a ds.length c, .agg #[.slice b n c2]] w fun e w' => ∃ v, e = .returned v ∧ OS w' (w.heap.size + 1) v (if cutR ds (xs.map Iw.ks) = true then slR ds (xs.map Iw.ks) 0 else []) ∧ Below w.heap.size w w' := by
  have s0 := Bq.start w (.slice b n c2) 39
  have hl1 := hr.1
  have hl2 := hs.1
  rw [hn] at hl2
  have HR := kide hr
  have HS := kide hs
  have HN := kide hn
  have c0 := s0.cell
  clear hr hs hn
  have hb2 : Below (w.alloc (Obj.cells #[Value.slice b n c2] 39)).heap.size (w.alloc (Obj.cells #[Value.slice b n c2] 39)) ((w.alloc (Obj.cells #[Value.slice b n c2] 39)).alloc (Obj.cells #[] 86)) := (Below.refl _ _).alloc (Nat.le_refl _) _
  have hos : OS ((w.alloc (Obj.cells #[Value.slice b n c2] 39)).alloc (Obj.cells #[] 86)) (w.heap.size + 1) (.slice (some ⟨w.heap.size + 1, 0, none⟩) 0 0) [] := by
    have := World.ownsRow_made (base := w.heap.size + 1) (e := 86) (size := 3) (w.alloc (Obj.cells #[Value.slice b n c2] 39)) #[] 0 (by simp) (Nat.zero_le _) (by simp)
    unfold OS
    simpa [scs] using this
  have s0' := s0.next hb2
  have HCC := kide (specCuts_any a b c c2 n ds xs _ (HR.out.later s0'.below) (HS.out.later s0'.below) HN.out)
  have HOS0 := kide hos
  clear hos hb2
  cases hC : cutR ds (xs.map Iw.ks) with
  | false =>
    rw [hC] at HCC
    clear hC
    go_enter Try.func23, Try.ntmps23
    go_wp2_with fail
    refine Calls.mono HCC.out ?_
    rintro e w1 ⟨rfl, hb1⟩
    have s1 := s0'.next hb1
    have HO1 : Hid (OS w1 (w.heap.size + 1) (.slice (some ⟨w.heap.size + 1, 0, none⟩) 0 0) []) := World.ownsRow.kept HOS0.out (kgrown hb1) (.inr (by simp [Value.ownBlock]))
    go_wp2_with fail
    go_ret
    exact ⟨_, rfl, HO1.out, s1.below⟩
  | true =>
    obtain ⟨h60, hll⟩ : ds.length ≤ 60 ∧ n = ds.length := by
      simp only [cutR, Bool.and_eq_true, decide_eq_true_eq] at hC
      exact ⟨(dclR_iff.1 hC.1.1).1, by have := hC.1.2; have h2 := HN.out; simp at this; omega⟩
    rw [hC] at HCC
    simp only [if_true]
    have HLL := kide hll
    have HCL : Hid (cutL (ds.drop 0) ((xs.map Iw.ks).drop 0) = true) := by simp only [cutR, Bool.and_eq_true] at hC; exact (by simpa using hC.2 : cutL (ds.drop 0) ((xs.map Iw.ks).drop 0) = true)
    have HDC : Hid (dclR ds = true) := by simp only [cutR, Bool.and_eq_true] at hC; exact hC.1.1
    clear hC hll
    go_enter Try.func23, Try.ntmps23
    go_wp2_with fail
    refine Calls.mono HCC.out ?_
    rintro e w1 ⟨rfl, hb1⟩
    have s1 := s0'.next hb1
    have c1 := s1.cell
    have HO1 : Hid (OS w1 (w.heap.size + 1) (.slice (some ⟨w.heap.size + 1, 0, none⟩) 0 0) []) := World.ownsRow.kept HOS0.out (kgrown hb1) (.inr (by simp [Value.ownBlock]))
    clear hb1 s0 s0' c0 HOS0
    go_wp2_with fail
    generalize hZZ : slR ds (xs.map Iw.ks) 0 = Z
    have HZ := kide hZZ
    have hZl : Z.length ≤ 64000000 := by
      rw [← hZZ]
      have hm : ∀ c ∈ xs.map Iw.ks, c.length + 1 ≤ 1048577 := by
        intro c hc
        obtain ⟨x, hx, rfl⟩ := List.mem_map.1 hc
        obtain ⟨i, hi', e⟩ := List.mem_iff_getElem.1 hx
        obtain ⟨-, h | ⟨b2, o2, -, hc2⟩⟩ := HS.out
        · subst h; simp at hx
        · have := (hc2 i x (by rw [List.getElem?_eq_getElem hi', e])).2.1
          omega
      have h1 := slR_len ds (xs.map Iw.ks) 0 1048577 hm
      have h2 : ds.length * 1048577 ≤ 60 * 1048577 := Nat.mul_le_mul_right _ h60
      exact Nat.le_trans h1 (Nat.le_trans h2 (by decide))
    clear hZZ
    go_loopw [5, 6] (fun l i wr => ∃ (k : Nat) (ss : List Sl), k ≤ ds.length ∧ i = .int .i64 (k : Int) ∧ OS wr (w.heap.size + 1) l ss ∧ ss ++ slR (ds.drop k) ((xs.map Iw.ks).drop k) k = Z ∧ cutL (ds.drop k) ((xs.map Iw.ks).drop k) = true ∧ Bq w (.slice b n c2) 39 wr) (fun _ i _ => ds.length - (intOf i).toNat)
    case atStart => exact ⟨0, [], Nat.zero_le _, rfl, HO1.out, by simpa using HZ.out, HCL.out, s1⟩
    case round =>
      obtain ⟨k, ss, hk, rfl, hown, hz, hcl, hbq⟩ := hrel
      by_cases hlt : k < ds.length
      · obtain ⟨-, -, h | ⟨b1, o1, rfl, hc1⟩⟩ := HR.out
        · subst h; simp at hlt
        obtain ⟨-, h | ⟨b2, o2, rfl, hc2⟩⟩ := HS.out
        · have h1 := HN.out; have h2 := HLL.out; subst h; simp at h1; omega
        obtain ⟨⟨t, y⟩, gd⟩ : ∃ d, ds[k]? = some d := ⟨ds[k], List.getElem?_eq_getElem hlt⟩
        obtain ⟨⟨a1, c1', k1⟩, gx⟩ : ∃ x, xs[k]? = some x := ⟨xs[k]'(by rw [HN.out, HLL.out]; exact hlt), List.getElem?_eq_getElem _⟩
        have gct : (xs.map Iw.ks)[k]? = some k1 := by rw [List.getElem?_map, gx]; rfl
        obtain ⟨hy1, hy2⟩ := (dcOk_iff.1 ((dclR_iff.1 HDC.out).2.1 _ (List.mem_of_getElem? gd))).2
        simp only [] at hy1 hy2
        rw [slR_step gd gct] at hz
        rw [cutL_step gd gct, Bool.and_eq_true] at hcl
        obtain ⟨hcl1, hcl2⟩ := hcl
        simp only [] at hz hcl1
        have HCL2 := kide hcl2
        have HKL := kide (hc2 k _ gx)
        have HDL := kide (hc1 k _ gd)
        have hkl := (hc2 k _ gx).2.1
        simp only [] at hkl
        have i0 : (k : Int) < (ds.length : Int) := by omega
        have i1 : (k : Int) < (n : Int) := by have := HLL.out; omega
        generalize hg : slR (ds.drop (k + 1)) ((xs.map Iw.ks).drop (k + 1)) (k + 1) = Z2 at *
        have HG := kide hg
        have HBQ := kide hbq
        have HOW := kide hown
        have HZK := kide hz
        have HCK := kide hcl1
        clear hc1 hc2 gx gd gct hg hbq hown hz hcl1 hcl2 HCC s1 c1
        go_wp2_with fail
        obtain ⟨wo, hwo⟩ : ∃ wo, wo = wr := ⟨_, rfl⟩
        subst hwo
        go_loopw [5, 7, 8] (fun l q i wi => ∃ (j : Nat) (lo : Int) (rs : List Sl), j ≤ k1.length + 1 ∧ i = .int .i64 (j : Int) ∧ q = .int .i64 lo ∧ 0 ≤ lo ∧ lo ≤ 4096 ∧ OS wi (w.heap.size + 1) l rs ∧ (j ≤ k1.length → rs ++ (slV k y lo (k1.drop j) ++ Z2) = Z ∧ risR y lo (k1.drop j) = true) ∧ (k1.length < j → rs ++ Z2 = Z) ∧ Bq w (.slice (some ⟨b2, o2, none⟩) n c2) 39 wi) (fun _ _ i _ => k1.length + 1 - (intOf i).toNat)
        case atStart => exact ⟨0, 0, ss, Nat.zero_le _, rfl, rfl, by omega, by omega, HOW.out, fun _ => ⟨by simpa using HZK.out, by simpa using HCK.out⟩, fun h => by omega, HBQ.out⟩
        case round =>
          obtain ⟨j, lo, rs, hj, rfl, rfl, hlo0, hlo1, hown, hzl, hzr, hbq⟩ := hrel
          obtain ⟨p1, p2⟩ := HKL.out.later hbq.below
          obtain ⟨-, q1⟩ := HDL.out.later hbq.below
          have cb := hbq.cell
          simp only [] at p1 p2 q1
          have HBQ2 := kide hbq
          have HOW2 := kide hown
          have hszi : w.heap.size + 1 ≤ wr.heap.size := hbq.size
          have lsz : w.heap.size < wr.heap.size := hszi
          have lb1 := block_lt_of_cell q1
          have lb2 := block_lt_of_cell p1
          by_cases hjl : j ≤ k1.length
          · obtain ⟨hz, hris⟩ := hzl hjl
            have hrl : rs.length ≤ 1073741824 := by
              have h1 := congrArg List.length hz
              rw [List.length_append] at h1
              omega
            by_cases hjlt : j < k1.length
            · obtain ⟨-, hi64, h | ⟨b3, o3, rfl, hc3⟩⟩ := p2
              · subst h; simp at hjlt
              have e3 := hc3 j hjlt
              have l3 := block_lt_of_cell e3
              rw [slV_step hjlt] at hz
              rw [risR_step hjlt, Bool.and_eq_true, Bool.and_eq_true, decide_eq_true_eq, decide_eq_true_eq] at hris
              generalize k1.getD j 0 = x at *
              obtain ⟨⟨hx1, hx2⟩, hris2⟩ := hris
              have HRI := kide hris2
              have HZJ := kide hz
              have j0 : (j : Int) < (k1.length : Int) := by omega
              clear hc3 hi64 hz hbq hown hris2 hzl hzr
              go_wp2_with (at_builtin; refine wpList_appS rfl _ _ rfl (w.heap.size + 1) _ rs ((k : Int), lo, x - lo) rfl (World.ownsRow.alloc HOW2.out _) wr.heap.size rfl (by simp) (by simp) (by simp) hrl (by simp; omega) ?_)
              intro v' w2 hos hg
              have HOS := kide hos
              have HNX : Hid (Bq w (.slice (some ⟨b2, o2, none⟩) n c2) 39 w2) := Below.grown (Below.alloc HBQ2.out (by simpa using hszi) _) hg (by simp; omega) (fun q hq => (World.ownsRow.lt HOW2.out q hq).1)
              clear hos hg e3 p1 q1 cb
              go_wp2_with fail
              go_roundw
              case rel => exact ⟨j + 1, x, rs ++ [((k : Int), lo, x - lo)], by omega, by go_num, rfl, by omega, by omega, HOS.out, fun _ => ⟨by rw [List.append_assoc]; exact HZJ.out, HRI.out⟩, fun h => by omega, HNX.out⟩
              case measure => first | (simp [intOf]; done) | (simp [intOf]; omega)
            · have e : j = k1.length := by omega
              subst e
              rw [List.drop_length, slV] at hz
              have HZJ := kide hz
              have j0 : ¬ (k1.length : Int) < (k1.length : Int) := by omega
              clear hz hbq hown hris hzl hzr p2
              go_wp2_with (at_builtin; refine wpList_appS rfl _ _ rfl (w.heap.size + 1) _ rs ((k : Int), lo, y - lo) rfl (World.ownsRow.alloc HOW2.out _) wr.heap.size rfl (by simp) (by simp) (by simp) hrl (by simp; omega) ?_)
              intro v' w2 hos hg
              have HOS := kide hos
              have HNX : Hid (Bq w (.slice (some ⟨b2, o2, none⟩) n c2) 39 w2) := Below.grown (Below.alloc HBQ2.out (by simpa using hszi) _) hg (by simp; omega) (fun q hq => (World.ownsRow.lt HOW2.out q hq).1)
              clear hos hg p1 q1 cb
              go_wp2_with fail
              go_roundw
              case rel => exact ⟨k1.length + 1, y, rs ++ [((k : Int), lo, y - lo)], by omega, by go_num, rfl, by omega, by omega, HOS.out, fun h => by omega, fun _ => by rw [List.append_assoc]; exact HZJ.out, HNX.out⟩
              case measure => first | (simp [intOf]; done) | (simp [intOf]; omega)
          · have hz := hzr (by omega)
            have HZJ := kide hz
            have j0 : (k1.length : Int) < (j : Int) := by omega
            clear hz hzl hzr hbq hown p2
            go_wp2_with fail
            go_roundw
            case rel => exact ⟨k + 1, rs, by omega, by go_num, HOW2.out, by rw [HG.out]; exact HZJ.out, HCL2.out, HBQ2.out⟩
            case measure => first | (simp [intOf]; done) | (simp [intOf]; omega)
      · have e : k = ds.length := by omega
        have HZE : Hid (ss = Z) := by
          show _ = _
          rw [← hz, e, List.drop_length, slR]
          · simp
          · simp
        have HBQ := kide hbq
        have HOW := kide hown
        clear hz hcl hbq hown e
        go_wp2_with fail
        go_ret
        exact ⟨_, rfl, by rw [HZ.out, ← HZE.out]; exact HOW.out, Bq.below HBQ.out⟩

end Go.Proofs.Yticpjfdnpdfmeaa
