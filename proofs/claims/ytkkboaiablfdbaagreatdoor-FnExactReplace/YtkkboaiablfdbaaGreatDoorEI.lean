/- What the program's VarsOf answers. -/
import Derived.Test.YtkkboaiablfdbaaGreatDoorQV
import Derived.Test.YtkkboaiablfdbaaGreatDoorZEC
namespace Go.Proofs.YtkkboaiablfdbaaGreatDoor
set_option linter.unusedVariables false
set_option linter.unusedSimpArgs false
open Go.RowKit Go.Lib

theorem OW.nil (w : World) (B : Nat) : OW w B (.slice none 0 0) [] := ⟨rfl, .inl ⟨rfl, rfl⟩⟩

set_option maxHeartbeats 1000000 in
set_option maxRecDepth 100000 in
theorem implVars_any (a b : Option Addr) (c c2 n : Nat) (ds : List Dc) (xs : List Tg) (w : World) (hr : RdD w a ds) (hs : RdT w b xs) (hn : xs.length = n) (hG : GF w) :
    Calls Tryz.prog 26 #[.slice a ds.length c, .agg #[.slice b n c2]] w fun e w' => ∃ v, e = .returned v ∧ OW w' (w.heap.size + 1) v (varsR ds (xs.map Tg.ct)) ∧ Below w.heap.size w w' := by
  have s0 := St.start w (.cells #[.slice b n c2] 30)
  have HW := kide (rightWidths_any a b c c2 n ds xs _ (hr.later s0.below) (hs.later s0.below) hn (hG.later s0.below))
  have hn2 : n ≤ 1048576 := by rw [← hn]; exact hs.1
  have HS := kide hs
  have HN := kide hn
  by_cases h0 : (widthsR ds (xs.map Tg.ct)).length = 0
  · have hv : varsR ds (xs.map Tg.ct) = [] := by unfold varsR; rw [if_pos h0]
    have hR : widthsR ds (xs.map Tg.ct) = [] := List.eq_nil_of_length_eq_zero h0
    rw [hv]
    rw [hR] at HW
    clear hr hs hn hv h0 hR hG
    go_enter Tryz.func26, Tryz.ntmps26
    go_wp2_with fail
    refine Calls.mono HW.out ?_
    rintro e w2 ⟨a2, c3, rfl, hr2, hnl, hb2⟩
    have hn0 := hnl rfl
    subst hn0
    have s2 := s0.next hb2
    clear hb2 HW hnl hr2
    have heq : ∀ u, (binOp .eql 48 (.slice none (([] : List Int).length) c3) (.slice none 0 0)).run Tryz.prog u = .ok (.bool true) u := fun u => by rw [Lib.run_eql_slice_nil u 48 2 none _ c3 0 0 Tryz.underlying48]; rfl
    simp only [List.length_nil] at heq ⊢
    go_wp2_with fail
    go_ret
    exact ⟨_, rfl, OW.nil _ _, s2.below⟩
  · have hv : varsR ds (xs.map Tg.ct) = compact ((varL (xs.map Tg.ct)).mergeSort fun x y => decide (x ≤ y)) := by unfold varsR; rw [if_neg h0, vars_eq h0]
    rw [hv]
    generalize widthsR ds (xs.map Tg.ct) = R at HW h0
    obtain ⟨ns, hns⟩ : ∃ ns, xs.map Tg.ct = ns := ⟨_, rfl⟩
    rw [hns]
    have HNS := kide hns
    clear hr hs hn hv hns hG
    go_enter Tryz.func26, Tryz.ntmps26
    go_wp2_with fail
    refine Calls.mono HW.out ?_
    rintro e w2 ⟨a2, c3, rfl, hr2, hnl, hb2⟩
    obtain ⟨b2, o2, rfl⟩ : ∃ b2 o2, a2 = some ⟨b2, o2, none⟩ := by
      obtain ⟨-, -, h | ⟨b2, o2, h, -⟩⟩ := hr2
      · subst h; simp at h0
      · exact ⟨b2, o2, h⟩
    have s2 := s0.next hb2
    have g0 := s2.cell 0
    simp at g0
    have S2 := kide s2
    clear hb2 HW hnl hr2 h0 s0 s2
    generalize R.length = rl at *
    have heq : ∀ u, (binOp .eql 48 (.slice (some ⟨b2, o2, none⟩) rl c3) (.slice none 0 0)).run Tryz.prog u = .ok (.bool false) u := fun u => by rw [Lib.run_eql_slice_nil u 48 2 (some ⟨b2, o2, none⟩) rl c3 0 0 Tryz.underlying48]; rfl
    go_wp2_with fail
    have S2' := S2
    go_loopw [5, 15] (fun o q wr => ∃ k : Nat, k ≤ n ∧ q = .int .i64 (k : Int) ∧ OW wr (w.heap.size + 1) o (varL (ns.take k)) ∧ St w (.cells #[.slice b n c2] 30) wr) (fun _ q _ => n - (intOf q).toNat)
    case atStart => exact ⟨0, Nat.zero_le _, rfl, by simpa [varL] using OW.nil _ _, S2.out⟩
    case round =>
      obtain ⟨k, hk, rfl, hown, hst⟩ := hrel
      have HO := kide hown
      have HST := kide hst
      clear hown hst S2 S2' g0 heq
      have hln : Hid (ns.length = n) := by show _ = _; rw [← HNS.out]; simpa using HN.out
      by_cases hlt : k < n
      · have i0 : (k : Int) < (n : Int) := by omega
        obtain ⟨⟨s1, wa, wc, ka, kc⟩, gx⟩ : ∃ x, xs[k]? = some x := ⟨xs[k]'(by rw [HN.out]; exact hlt), List.getElem?_eq_getElem _⟩
        have gn : ns[k]? = some s1 := by rw [← HNS.out, List.getElem?_map, gx]; rfl
        obtain ⟨-, h | ⟨b3, o3, rfl, hc⟩⟩ := HS.out.later HST.out.below
        · rw [h] at gx; simp at gx
        obtain ⟨⟨p0, p1, p2, p3, p4, p5, p6⟩, -⟩ := hc k _ gx
        simp only [Tg.hd] at p0 p1 p2 p3 p4 p5 p6
        have HX := kide (varL_take gn)
        obtain ⟨op, vr, aa, bb, bw, ws, ks⟩ := s1
        simp only [] at p0 p1 p2 p3 p4 p5 p6 HX
        have hul : (varL (ns.take k)).length ≤ 1073741824 := by have h1 := varL_len (ns.take k); have h2 := List.length_take_le k ns; omega
        have hsz := HST.out.size
        have hbn : Below wr.heap.size wr (wr.alloc (Obj.cells #[.int .i64 op, .int .i64 vr, .int .i64 aa, .int .i64 bb, .int .i64 bw, .slice wa ws.length wc, .slice ka ks.length kc] 53)) := (Below.refl _ _).alloc (Nat.le_refl _) _
        have S3 := kide (HST.out.next hbn)
        have O3 := kide (HO.out.later hbn)
        clear hc gx gn hbn
        by_cases hop : op = 1
        · subst hop
          rw [if_pos rfl] at HX
          go_wp2_with (at_builtin; refine wpList_appW rfl _ _ rfl (w.heap.size + 1) _ (varL (ns.take k)) vr rfl (World.ownsRow.alloc O3.out _) _ rfl (by simp) hul (by simp; omega) ?_)
          intro v7 w7 hos hg
          have S7 := kide ((S3.out.next ((Below.refl _ _).alloc (Nat.le_refl _) (Obj.cells #[Value.int .i64 vr] 2))).grown (World.ownsRow.alloc O3.out _) hg)
          have O7 := kide hos
          clear hos hg p0 p1 p2 p3 p4 p5 p6
          go_wp2_with fail
          go_roundw
          case rel => exact ⟨k + 1, by omega, by go_num, by rw [HX.out]; exact O7.out, S7.out⟩
          case measure => simp [intOf]; omega
        · have he : (op == 1) = false := by simpa using hop
          rw [if_neg hop, List.append_nil] at HX
          clear hop
          go_wp2_with fail
          go_roundw
          case rel => exact ⟨k + 1, by omega, by go_num, by rw [HX.out]; exact O3.out, S3.out⟩
          case measure => simp [intOf]; omega
      · have hfin : Hid (varL (ns.take k) = varL ns) := by show _ = _; rw [List.take_of_length_le (by rw [hln.out]; omega)]
        have hvl : (varL ns).length ≤ 1048576 := by have := varL_len ns; have := hln.out; omega
        rw [hfin.out] at HO
        go_wp2_with fail
        refine Calls.mono (sort_own _ _ _ _ HO.out hvl) ?_
        rintro e w3 ⟨rfl, ho3, hg3⟩
        have S3 := kide (HST.out.grown HO.out hg3)
        have O3 := kide ho3
        clear ho3 hg3 HO HST
        go_wp2_with fail
        refine Calls.mono (compact_own _ _ _ _ O3.out (by rw [List.length_mergeSort]; exact hvl)) ?_
        rintro e w4 ⟨v4, rfl, ho4, hg4⟩
        have S4 := kide (S3.out.grown O3.out hg4)
        have O4 := kide ho4
        clear ho4 hg4 O3 S3
        go_wp2_with fail
        go_ret
        exact ⟨_, rfl, O4.out, S4.out.below⟩

end Go.Proofs.YtkkboaiablfdbaaGreatDoor
