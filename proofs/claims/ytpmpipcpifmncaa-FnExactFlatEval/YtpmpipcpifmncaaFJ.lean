/- Segments that are copied and marked. -/
import Derived.Test.YtpmpipcpifmncaaZMC
import Derived.Test.YtpmpipcpifmncaaMC
namespace Go.Proofs.Ytpmpipcpifmncaa
set_option linter.unusedVariables false
set_option linter.unusedSimpArgs false
open Go.RowKit

set_option maxHeartbeats 1000000 in
theorem toSegS_own (a : Option Addr) (c : Nat) (xs : List Sg) (w : World) (hr : RdS w a xs) :
    Calls Try.prog 12 #[.slice a xs.length c] w fun e w' => ∃ ms : List Sg, e = .returned (.slice (some ⟨w.heap.size, 0, none⟩) xs.length xs.length) ∧ ms.map Sg.ct = xs.map Sg.ct ∧ RdS w' (some ⟨w.heap.size, 0, none⟩) ms ∧ (∃ f, w'.rowIs w.heap.size 80 (xs.length * 5) f ∧ ∀ j x, ms[j]? = some x → SgOwn w' w.heap.size f j x) ∧ Below w.heap.size w w' := by
  have hlen := hr.1
  have hmk := make_segs xs.length hlen
  go_enter Try.func12, Try.ntmps12
  go_wp2_with fail
  have hrow := krow (heap_alloc_new w (.cells (madeCells #[.int .i64 0, .int .i64 0, .int .i64 0, .int .i64 0, .slice none 0 0] (xs.length * 5)) 80))
  rw [size_madeCells] at hrow
  have hb0 : Below w.heap.size w (w.alloc (.cells (madeCells #[.int .i64 0, .int .i64 0, .int .i64 0, .int .i64 0, .slice none 0 0] (xs.length * 5)) 80)) := (Below.refl _ _).alloc (Nat.le_refl _) _
  have hs0 : w.heap.size < (w.alloc (.cells (madeCells #[.int .i64 0, .int .i64 0, .int .i64 0, .int .i64 0, .slice none 0 0] (xs.length * 5)) 80)).heap.size := by simp
  generalize (w.alloc (.cells (madeCells #[.int .i64 0, .int .i64 0, .int .i64 0, .int .i64 0, .slice none 0 0] (xs.length * 5)) 80)) = w0 at *
  go_loopw [4] (fun i wr => ∃ (k : Nat) (f : Nat → Value) (ms : List Sg), k ≤ xs.length ∧ i = .int .i64 k ∧ wr.rowIs w.heap.size 80 (xs.length * 5) f ∧ ms.length = k ∧ ms.map Sg.ct = (xs.take k).map Sg.ct ∧ (∀ j x, ms[j]? = some x → SgOwn wr w.heap.size f j x) ∧ Below w.heap.size w wr ∧ w.heap.size < wr.heap.size) (fun i _ => xs.length - (intOf i).toNat)
  case atStart => exact ⟨0, _, [], Nat.zero_le _, rfl, hrow, rfl, rfl, fun j x h => by simp at h, hb0, hs0⟩
  case round =>
    obtain ⟨k, f, ms, hk, rfl, hrw, hml, hmc, hms, hbel, hsz⟩ := hrel
    clear hrow hb0 hs0
    by_cases hlt : k < xs.length
    · obtain ⟨-, h | ⟨b, o, rfl, hc⟩⟩ := hr
      · subst h; simp at hlt
      obtain ⟨⟨s1, a1, c1⟩, hx⟩ : ∃ x, xs[k] = x := ⟨_, rfl⟩
      have gx : xs[k]? = some ⟨s1, a1, c1⟩ := by rw [List.getElem?_eq_getElem hlt, hx]
      obtain ⟨⟨p0, p1, p2, p3, p4⟩, pr, -⟩ := (hc k _ gx).later hbel
      simp only [Sg.hd] at p0 p1 p2 p3 p4 pr
      clear hx
      have HTO := kide (toSeg_any s1 a1 c1 wr pr)
      have GX : Hid _ := gx
      have HML : Hid _ := hml
      have HMC : Hid _ := hmc
      have HMS : Hid _ := hms
      have HR : Hid _ := hrw
      have HB : Hid _ := hbel
      have i0 : (k : Int) < (xs.length : Int) := by omega
      clear gx hml hmc hms hc hrw hbel hmk pr
      obtain ⟨v, lo, wd, bw, ws⟩ := s1
      simp only [] at p0 p1 p2 p3 p4 HTO
      go_wp2_with fail
      refine Calls.mono HTO.out ?_
      rintro e w1 ⟨g, rfl, hg, hown, hb1⟩
      have hr1 := World.rowIs.of_block HR.out (hb1.block _ hsz)
      have q0 := hr1.cell (i := k * 5) (by omega)
      have q1 := hr1.cell (i := k * 5 + 1) (by omega)
      have q2 := hr1.cell (i := k * 5 + 2) (by omega)
      have q3 := hr1.cell (i := k * 5 + 3) (by omega)
      have q4 := hr1.cell (i := k * 5 + 4) (by omega)
      have r0 := hr1.frozen (k * 5)
      have r1 := hr1.frozen (k * 5 + 1)
      have r2 := hr1.frozen (k * 5 + 2)
      have r3 := hr1.frozen (k * 5 + 3)
      have r4 := hr1.frozen (k * 5 + 4)
      have HR1 : Hid _ := hr1
      clear hr1
      go_wp2_with fail
      go_roundw
      case rel =>
        have hl := HML.out
        have hgk : w.heap.size < g := by omega
        refine ⟨k + 1, _, ms ++ [⟨⟨v, lo, wd, bw, ws⟩, some ⟨g, 0, none⟩, ws.length⟩], by omega, by go_num, World.rowIs.set (World.rowIs.set (World.rowIs.set (World.rowIs.set (World.rowIs.set HR1.out (k * 5) (.int .i64 v)) (k * 5 + 1) (.int .i64 lo)) (k * 5 + 2) (.int .i64 wd)) (k * 5 + 3) (.int .i64 bw)) (k * 5 + 4) (.slice (some ⟨g, 0, none⟩) ws.length ws.length), by simp [hl], ?_, fun j x hj => ?_, ?_, ?_⟩
        · have h := HMC.out
          rw [List.map_append, h, List.take_add_one, GX.out, List.map_append]
          rfl
        · rw [List.getElem?_append] at hj
          split at hj
          · refine ((HMS.out j x hj).later hb1).put (k := k) (fun g' hg' => ?_) (fun i hi => ?_) (by omega)
            · rw [heap_setCell_other _ _ _ _ (by simp; omega), heap_setCell_other _ _ _ _ (by simp; omega), heap_setCell_other _ _ _ _ (by simp; omega), heap_setCell_other _ _ _ _ (by simp; omega), heap_setCell_other _ _ _ _ (by simp; omega)]
            · show (if _ then _ else _) = _
              rw [if_neg (by omega), if_neg (by omega), if_neg (by omega), if_neg (by omega), if_neg (by omega)]
          · have hj2 : j - ms.length = 0 := by
              have := (List.getElem?_eq_some_iff.1 hj).1
              simp at this; exact this
            rw [hj2] at hj
            simp at hj
            subst hj
            have hjk : j = k := by omega
            subst hjk
            refine ⟨by simp, by simp, by simp, by simp, by simp, g, rfl, hgk, ?_⟩
            exact ((((hown.other (by simp; omega) _).other (by simp; omega) _).other (by simp; omega) _).other (by simp; omega) _).other (by simp; omega) _
        · exact (((((HB.out.trans (hb1.mono HB.out.size)).setCell (Nat.le_refl _) _).setCell (Nat.le_refl _) _).setCell (Nat.le_refl _) _).setCell (Nat.le_refl _) _).setCell (Nat.le_refl _) _
        · have := hb1.size
          simp; omega
      case measure => simp [intOf]; omega
    · have e : k = xs.length := by omega
      have HM : Hid _ := hml
      have HC : Hid _ := hmc
      have HS : Hid _ := hms
      have HR : Hid _ := hrw
      have HB : Hid _ := hbel
      have HE : Hid _ := e
      clear hml hmc hms hrw hbel e hmk
      go_wp2_with fail
      go_ret
      refine ⟨ms, rfl, ?_, ⟨by rw [HM.out]; omega, .inr ⟨_, 0, rfl, fun i x hi => ?_⟩⟩, ⟨f, HR.out, HS.out⟩, HB.out⟩
      · have h := HC.out
        rw [HE.out, List.take_length] at h
        exact h
      · obtain ⟨h0, h1, h2, h3, h4, g, h5, h6, h7⟩ := HS.out i x hi
        have hik : i < k := by have := (List.getElem?_eq_some_iff.1 hi).1; rw [HM.out] at this; exact this
        have hct : ∃ y, xs[i]? = some y ∧ y.ct = x.ct := by
          have h := HC.out
          rw [HE.out, List.take_length] at h
          have h' : (ms.map Sg.ct)[i]? = (xs.map Sg.ct)[i]? := by rw [h]
          rw [List.getElem?_map, List.getElem?_map, hi, Option.map_some] at h'
          cases hy : xs[i]? with
          | none => rw [hy] at h'; cases h'
          | some y => rw [hy] at h'; simp at h'; exact ⟨y, rfl, h'.symm⟩
        obtain ⟨y, hy, hyx⟩ := hct
        obtain ⟨-, hn | ⟨b, o, -, hc⟩⟩ := hr
        · subst hn; simp at hy
        obtain ⟨-, ⟨l1, l2, -⟩, l3⟩ := hc i y hy
        rw [hyx] at l1 l2 l3
        refine ⟨⟨?_, ?_, ?_, ?_, ?_⟩, ?_, l3⟩
        · rw [Nat.zero_add]; exact (World.rowIs.cell HR.out (by omega)).trans (congrArg some h0)
        · rw [Nat.zero_add]; exact (World.rowIs.cell HR.out (by omega)).trans (congrArg some h1)
        · rw [Nat.zero_add]; exact (World.rowIs.cell HR.out (by omega)).trans (congrArg some h2)
        · rw [Nat.zero_add]; exact (World.rowIs.cell HR.out (by omega)).trans (congrArg some h3)
        · rw [Nat.zero_add]; exact (World.rowIs.cell HR.out (by omega)).trans (congrArg some h4)
        · rw [h5]
          exact Own.rd h7 l1 l2

/-- A row of n segments in a block of them. -/
def TySg (w : World) (lo hi : Nat) (a : Option Addr) (n : Nat) : Prop := n ≤ 1048576 ∧ ∃ h cur, a = some ⟨h, 0, none⟩ ∧ lo ≤ h ∧ h < hi ∧ w.heap[h]? = some (.cells cur 80 (0, 0)) ∧ ∀ i, i < n → (∃ x : Int, cur[i * 5]? = some (.int .i64 x)) ∧ (∃ x : Int, cur[i * 5 + 1]? = some (.int .i64 x)) ∧ (∃ x : Int, cur[i * 5 + 2]? = some (.int .i64 x)) ∧ (∃ x : Int, cur[i * 5 + 3]? = some (.int .i64 x)) ∧ ∃ a' m c, cur[i * 5 + 4]? = some (.slice a' m c) ∧ TyW w lo hi a' m
theorem TySg.shp {w w' : World} {lo hi n : Nat} {a : Option Addr} (h : TySg w lo hi a n) (hs : Shp w w') : TySg w' lo hi a n := by
  obtain ⟨h0, g, cur, e, h1, h2, h3, h4⟩ := h
  obtain ⟨cur', e', r⟩ := hs g cur _ h3
  refine ⟨h0, g, cur', e, h1, h2, e', fun i hi => ?_⟩
  obtain ⟨i1, i2, i3, i6, a', m, c, i4, i5⟩ := h4 i hi
  obtain ⟨v', j1, j2⟩ := r _ _ i4
  exact ⟨keep_int r i1, keep_int r i2, keep_int r i3, keep_int r i6, a', m, c, by rw [← j2.slice]; exact j1, i5.shp hs⟩
theorem TySg.of {w : World} {G n : Nat} {f : Nat → Value} {ms : List Sg} (hr : w.rowIs G 80 (n * 5) f) (hn : ms.length = n) (hn2 : n ≤ 1048576) (h : ∀ j x, ms[j]? = some x → SgOwn w G f j x) (hw : ∀ x ∈ ms, x.ct.ws.length ≤ 1048576) : TySg w G w.heap.size (some ⟨G, 0, none⟩) n := by
  obtain ⟨cur, h1, h2, h3⟩ := hr
  refine ⟨hn2, G, cur, rfl, Nat.le_refl _, lt_of_block h1, h1, fun i hi => ?_⟩
  obtain ⟨x, gx⟩ : ∃ x, ms[i]? = some x := ⟨ms[i]'(by omega), List.getElem?_eq_getElem _⟩
  obtain ⟨k0, k1, k2, k3, k4, g, k5, k6, k7⟩ := h i x gx
  exact ⟨⟨_, by rw [h3 _ (by omega), k0]⟩, ⟨_, by rw [h3 _ (by omega), k1]⟩, ⟨_, by rw [h3 _ (by omega), k2]⟩, ⟨_, by rw [h3 _ (by omega), k3]⟩, _, _, _, by rw [h3 _ (by omega), k4], hw x (List.mem_of_getElem? gx), g, u64s x.ct.ws, k5, by omega, k7.lt, k7, fun j hj => ⟨_, u64s_get _ _ hj⟩⟩
theorem TySg.out {w w' : World} {lo hi n B1 B2 : Nat} {a : Option Addr} (h : TySg w lo hi a n) (ho : Out B1 B2 w w') (hd : hi ≤ B1 ∨ B2 ≤ lo) : TySg w' lo hi a n := by
  obtain ⟨h0, g, cur, e, h1, h2, h3, h4⟩ := h
  refine ⟨h0, g, cur, e, h1, h2, (ho.2.2.2.2 g (lt_of_block h3) (by omega)).trans h3, fun i hi' => ?_⟩
  obtain ⟨i1, i2, i3, i6, a', m, c, i4, i5⟩ := h4 i hi'
  exact ⟨i1, i2, i3, i6, a', m, c, i4, i5.out ho hd⟩

theorem toSegS_ty (a : Option Addr) (c n : Nat) (xs : List Sg) (w : World) (hr : RdS w a xs) (hn : xs.length = n) :
    Calls Try.prog 12 #[.slice a n c] w fun e w' => ∃ ms : List Sg, e = .returned (.slice (some ⟨w.heap.size, 0, none⟩) n n) ∧ ms.map Sg.ct = xs.map Sg.ct ∧ RdS w' (some ⟨w.heap.size, 0, none⟩) ms ∧ TySg w' w.heap.size w'.heap.size (some ⟨w.heap.size, 0, none⟩) n ∧ Below w.heap.size w w' := by
  subst hn
  refine (toSegS_own a c xs w hr).mono ?_
  rintro e w' ⟨ms, rfl, hm, hrd, ⟨f, hf, ho⟩, hb⟩
  have hl : ms.length = xs.length := by have := congrArg List.length hm; simpa using this
  refine ⟨ms, rfl, hm, hrd, TySg.of hf hl hr.1 ho fun x hx => ?_, hb⟩
  obtain ⟨i, hi, e⟩ := List.getElem_of_mem hx
  rcases hrd.2 with h0 | ⟨b, o, -, hc⟩
  · rw [h0] at hi; simp at hi
  · exact (hc i x (by rw [List.getElem?_eq_getElem hi, e])).2.1.1

set_option maxHeartbeats 2000000 in
theorem markSegS_ty (lo hi c n k : Nat) (a : Option Addr) (w : World) (h : TySg w lo hi a n) (hk : k ≤ 1000000000000000000) :
    Calls Try.prog 20 #[.slice a n c, .int .i64 (k : Int)] w fun e w' => ∃ K : Nat, e = .returned (.int .i64 (K : Int)) ∧ K ≤ k + n * 1048580 ∧ Shp w w' ∧ Out lo hi w w' := by
  obtain ⟨hn, g, cur, rfl, hl, hh, hc, hi'⟩ := h
  have H := kide (show TySg w lo hi (some ⟨g, 0, none⟩) n from ⟨hn, g, cur, rfl, hl, hh, hc, hi'⟩)
  clear hc hi'
  go_enter Try.func20, Try.ntmps20
  go_wp2_with fail
  go_loopw [1, 5] (fun q i wr => ∃ (j K : Nat), j ≤ n ∧ i = .int .i64 (j : Int) ∧ q = .int .i64 (K : Int) ∧ K ≤ k + j * 1048580 ∧ Shp w wr ∧ Out lo hi w wr) (fun _ i _ => n - (intOf i).toNat)
  case atStart => exact ⟨0, k, Nat.zero_le _, rfl, rfl, by omega, Shp.refl _, Out.refl _ _ _⟩
  case round =>
    obtain ⟨j, K, hj, rfl, rfl, hK, hs, ho⟩ := hrel
    have HS := kide hs
    have HO := kide ho
    by_cases hlt : j < n
    · obtain ⟨-, g', cu, e', -, -, hg, hc⟩ := H.out.shp hs
      cases e'
      obtain ⟨⟨y0, hy0⟩, ⟨y1, hy1⟩, ⟨y2, hy2⟩, ⟨y3, hy3⟩, a', m, c', q4', hty⟩ := hc j hlt
      have q0 : wr.cell? ⟨g, j * 5, none⟩ = some (.int .i64 y0) := by rw [cell_of_row wr g _ _ _ _ hg]; exact hy0
      have q1 : wr.cell? ⟨g, j * 5 + 1, none⟩ = some (.int .i64 y1) := by rw [cell_of_row wr g _ _ _ _ hg]; exact hy1
      have q2 : wr.cell? ⟨g, j * 5 + 2, none⟩ = some (.int .i64 y2) := by rw [cell_of_row wr g _ _ _ _ hg]; exact hy2
      have q3 : wr.cell? ⟨g, j * 5 + 3, none⟩ = some (.int .i64 y3) := by rw [cell_of_row wr g _ _ _ _ hg]; exact hy3
      have q4 : wr.cell? ⟨g, j * 5 + 4, none⟩ = some (.slice a' m c') := by rw [cell_of_row wr g _ _ _ _ hg]; exact q4'
      have r0 := frozen_of_row wr g (j * 5) _ _ hg
      have r1 := frozen_of_row wr g (j * 5 + 1) _ _ hg
      have r2 := frozen_of_row wr g (j * 5 + 2) _ _ hg
      have r3 := frozen_of_row wr g (j * 5 + 3) _ _ hg
      have hm := hty.1
      have hKb : K + 4 + m ≤ 9000000000000000000 := by omega
      have i0 : (j : Int) < (n : Int) := by omega
      have S1 := Shp.set q0 (K : Int)
      have S2 := Shp.set (w := wr.setCell ⟨g, j * 5, none⟩ (.int .i64 (K : Int))) (show (wr.setCell ⟨g, j * 5, none⟩ (.int .i64 (K : Int))).cell? ⟨g, j * 5 + 1, none⟩ = some (.int .i64 y1) by rw [World.cell?_setCell_other _ _ _ _ (by simp)]; exact q1) ((K : Int) + 1)
      have S3 := Shp.set (w := (wr.setCell ⟨g, j * 5, none⟩ (.int .i64 (K : Int))).setCell ⟨g, j * 5 + 1, none⟩ (.int .i64 ((K : Int) + 1))) (show ((wr.setCell ⟨g, j * 5, none⟩ (.int .i64 (K : Int))).setCell ⟨g, j * 5 + 1, none⟩ (.int .i64 ((K : Int) + 1))).cell? ⟨g, j * 5 + 2, none⟩ = some (.int .i64 y2) by rw [World.cell?_setCell_other _ _ _ _ (by simp), World.cell?_setCell_other _ _ _ _ (by simp)]; exact q2) ((K : Int) + 1 + 1)
      have S4 := Shp.set (w := ((wr.setCell ⟨g, j * 5, none⟩ (.int .i64 (K : Int))).setCell ⟨g, j * 5 + 1, none⟩ (.int .i64 ((K : Int) + 1))).setCell ⟨g, j * 5 + 2, none⟩ (.int .i64 ((K : Int) + 1 + 1))) (show (((wr.setCell ⟨g, j * 5, none⟩ (.int .i64 (K : Int))).setCell ⟨g, j * 5 + 1, none⟩ (.int .i64 ((K : Int) + 1))).setCell ⟨g, j * 5 + 2, none⟩ (.int .i64 ((K : Int) + 1 + 1))).cell? ⟨g, j * 5 + 3, none⟩ = some (.int .i64 y3) by rw [World.cell?_setCell_other _ _ _ _ (by simp), World.cell?_setCell_other _ _ _ _ (by simp), World.cell?_setCell_other _ _ _ _ (by simp)]; exact q3) ((K : Int) + 1 + 1 + 1)
      have SS := S1.trans (S2.trans (S3.trans S4))
      have HS2 := kide (hs.trans SS)
      have HO2 := kide ((((ho.set hl hh (.int .i64 (K : Int)) (o := j * 5)).set hl hh (.int .i64 ((K : Int) + 1)) (o := j * 5 + 1)).set hl hh (.int .i64 ((K : Int) + 1 + 1)) (o := j * 5 + 2)).set hl hh (.int .i64 ((K : Int) + 1 + 1 + 1)) (o := j * 5 + 3))
      have hM := markU_ty lo hi c' m (K + 4) a' _ (hty.shp SS) hKb
      rw [show ((K + 4 : Nat) : Int) = (K : Int) + 1 + 1 + 1 + 1 by omega] at hM
      have HM := kide hM
      have hK2 := hK
      clear hc hs ho hy0 hy1 hy2 hy3 q4' hg hty S1 S2 S3 S4 SS hM
      go_wp2_with fail
      refine Calls.mono HM.out ?_
      rintro e w3 ⟨rfl, hs3, ho3⟩
      have HS3 := kide (HS2.out.trans hs3)
      have HO3 := kide (HO2.out.trans ho3)
      clear hs3 ho3
      go_wp2_with fail
      go_roundw
      case rel => exact ⟨j + 1, K + 4 + m, by omega, by go_num, by first | rfl | (congr 1; omega), by omega, HS3.out, HO3.out⟩
      case measure => simp [intOf]; omega
    · have e : j = n := by omega
      subst e
      clear hs ho
      go_wp2_with fail
      go_ret
      exact ⟨K, rfl, hK, HS.out, HO.out⟩

end Go.Proofs.Ytpmpipcpifmncaa
