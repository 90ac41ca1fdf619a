/- Several texts in one. -/
import Derived.Test.YtckidgpopbpagaaGreatDoorZGAI
import Derived.Test.YtckidgpopbpagaaGreatDoorZGAS
import Derived.Test.YtckidgpopbpagaaGreatDoorZGAE

/- Marks of declared variables and of rows of whole numbers and of words. -/
namespace Go.Proofs.YtckidgpopbpagaaGreatDoor
set_option linter.unusedVariables false
set_option linter.unusedSimpArgs false
open Go.RowKit

theorem grow_set {w wr : World} {g : Nat} (h : w.grownBy wr (some g)) (i : Nat) (v : Value) : w.grownBy (wr.setCell ⟨g, i, none⟩ v) (some g) :=
  ⟨h.os, h.tape, h.output, by simpa using h.size, fun k hk hne => by rw [heap_setCell_other wr ⟨g, i, none⟩ k v (fun e => hne (by simp [e]))]; exact h.block k hk hne⟩

theorem Out.ofB {B1 B2 : Nat} {w w' : World} (h : Below w.heap.size w w') : Out B1 B2 w w' := ⟨h.os, h.tape, h.output, h.size, fun k hk _ => h.block k hk⟩
theorem Out.cell {B1 B2 : Nat} {w w' : World} (h : Out B1 B2 w w') {b o : Nat} (hb : b < w.heap.size) (ho : b < B1 ∨ B2 ≤ b) : w'.cell? ⟨b, o, none⟩ = w.cell? ⟨b, o, none⟩ := World.cell?_of_block (w := w) (a := ⟨b, o, none⟩) (h.2.2.2.2 b hb ho)

theorem toDeclS_row (a : Option Addr) (c : Nat) (ds : List Dc) (w : World) (hr : RdD w a ds) :
    Calls Tryz.prog 7 #[.slice a ds.length c] w fun e w' => e = .returned (.slice (some ⟨w.heap.size, 0, none⟩) ds.length ds.length) ∧ RdD w' (some ⟨w.heap.size, 0, none⟩) ds ∧ (∃ f, w'.rowIs w.heap.size 46 (ds.length * 2) f) ∧ Below w.heap.size w w' := by
  have hlen := hr.1
  have hmk := make_decls ds.length hlen
  go_enter Tryz.func7, Tryz.ntmps7
  go_wp2_with fail
  have hrow := krow (heap_alloc_new w (.cells (madeCells #[.string .empty, .int .i64 0] (ds.length * 2)) 46))
  rw [size_madeCells] at hrow
  have hb0 : Below w.heap.size w (w.alloc (.cells (madeCells #[.string .empty, .int .i64 0] (ds.length * 2)) 46)) := (Below.refl _ _).alloc (Nat.le_refl _) _
  have hs0 : w.heap.size < (w.alloc (.cells (madeCells #[.string .empty, .int .i64 0] (ds.length * 2)) 46)).heap.size := by simp
  generalize (w.alloc (.cells (madeCells #[.string .empty, .int .i64 0] (ds.length * 2)) 46)) = w0 at *
  go_loopw [4] (fun i wr => ∃ (k : Nat) (f : Nat → Value), k ≤ ds.length ∧ i = .int .i64 k ∧ wr.rowIs w.heap.size 46 (ds.length * 2) f ∧ (∀ (j : Nat) (d : Dc), j < k → ds[j]? = some d → f (j * 2) = .string d.1 ∧ f (j * 2 + 1) = .int .i64 d.2) ∧ Below w.heap.size w wr ∧ w.heap.size < wr.heap.size) (fun i _ => ds.length - (intOf i).toNat)
  case atStart => exact ⟨0, _, Nat.zero_le _, rfl, hrow, fun j d h => by omega, hb0, hs0⟩
  case round =>
    obtain ⟨k, f, hk, rfl, hrw, hms, hbel, hsz⟩ := hrel
    clear hrow hb0 hs0
    by_cases hlt : k < ds.length
    · obtain ⟨-, -, h | ⟨b, o, rfl, hc⟩⟩ := hr
      · subst h; simp at hlt
      obtain ⟨⟨t, x⟩, hh⟩ : ∃ x, ds[k] = x := ⟨_, rfl⟩
      have gx : ds[k]? = some (t, x) := by rw [List.getElem?_eq_getElem hlt, hh]
      obtain ⟨p0, p1⟩ := (hc k _ gx).later hbel
      simp only [] at p0 p1
      have GX : Hid _ := gx
      have HMS : Hid _ := hms
      have HR : Hid _ := hrw
      have HB : Hid _ := hbel
      have i0 : (k : Int) < (ds.length : Int) := by omega
      clear gx hms hc hrw hbel hmk hh
      go_wp2_with fail
      refine (toDecl_any _ _ _).mono ?_
      rintro e w1 ⟨rfl, hb1⟩
      have hr1 := World.rowIs.of_block HR.out (hb1.block _ hsz)
      have q0 := hr1.cell (i := k * 2) (by omega)
      have q1 := hr1.cell (i := k * 2 + 1) (by omega)
      have r0 := hr1.frozen (k * 2)
      have r1 := hr1.frozen (k * 2 + 1)
      have HR1 : Hid _ := hr1
      clear hr1
      go_wp2_with fail
      go_roundw
      case rel =>
        refine ⟨k + 1, _, by omega, by go_num, World.rowIs.set (World.rowIs.set HR1.out (k * 2) (.string t)) (k * 2 + 1) (.int .i64 x), fun j d hj hd => ?_, ?_, ?_⟩
        · by_cases hjk : j = k
          · subst hjk
            rw [GX.out] at hd
            cases hd
            exact ⟨by simp, by simp⟩
          · obtain ⟨h0, h1⟩ := HMS.out j d (by omega) hd
            constructor
            · show (if _ then _ else _) = _
              rw [if_neg (by omega), if_neg (by omega)]; exact h0
            · show (if _ then _ else _) = _
              rw [if_neg (by omega), if_neg (by omega)]; exact h1
        · exact ((HB.out.trans (hb1.mono HB.out.size)).setCell (Nat.le_refl _) _).setCell (Nat.le_refl _) _
        · have := hb1.size
          simp; omega
      case measure => simp [intOf]; omega
    · have HS : Hid _ := hms
      have HR : Hid _ := hrw
      have HB : Hid _ := hbel
      clear hms hrw hbel hmk
      go_wp2_with fail
      go_ret
      refine ⟨rfl, ⟨hr.1, hr.2.1, .inr ⟨_, 0, rfl, fun i d hi => ?_⟩⟩, ⟨f, HR.out⟩, HB.out⟩
      have hil := (List.getElem?_eq_some_iff.1 hi).1
      obtain ⟨h0, h1⟩ := HS.out i d (by omega) hi
      refine ⟨?_, ?_⟩
      · rw [Nat.zero_add, ← h0]; exact World.rowIs.cell HR.out (by omega)
      · rw [Nat.zero_add, ← h1]; exact World.rowIs.cell HR.out (by omega)





theorem Bq.out {w wk w' : World} {v : Value} {t : TypeId} {B1 B2 : Nat} (h : Bq w v t wk) (ho : Out B1 B2 wk w') (h1 : w.heap.size + 1 ≤ B1) : Bq w v t w' :=
  Below.trans h ⟨ho.1, ho.2.1, ho.2.2.1, ho.2.2.2.1, fun k hk => ho.2.2.2.2 k (Nat.lt_of_lt_of_le hk h.size) (.inl (Nat.lt_of_lt_of_le hk h1))⟩



end Go.Proofs.YtckidgpopbpagaaGreatDoor

/- Terms that are copied into rows of their own, and marked. -/
namespace Go.Proofs.YtckidgpopbpagaaGreatDoor
set_option linter.unusedVariables false
set_option linter.unusedSimpArgs false
open Go.RowKit

set_option maxHeartbeats 1000000 in
theorem toTNodeS_own (a : Option Addr) (c : Nat) (xs : List Tg) (w : World) (hr : RdT w a xs) :
    Calls Tryz.prog 17 #[.slice a xs.length c] w fun e w' => ∃ ms : List Tg, e = .returned (.slice (some ⟨w.heap.size, 0, none⟩) xs.length xs.length) ∧ ms.map Tg.ct = xs.map Tg.ct ∧ RdT w' (some ⟨w.heap.size, 0, none⟩) ms ∧ FarT w.heap.size (some ⟨w.heap.size, 0, none⟩) ms ∧ (∃ f, w'.rowIs w.heap.size 62 (xs.length * 7) f ∧ ∀ j x, ms[j]? = some x → TgOwn w' w.heap.size f j x) ∧ Below w.heap.size w w' := by
  have hlen := hr.1
  have hmk := make_tnodes xs.length hlen
  go_enter Tryz.func17, Tryz.ntmps17
  go_wp2_with fail
  have hrow := krow (heap_alloc_new w (.cells (madeCells #[.int .i64 0, .int .i64 0, .int .i64 0, .int .i64 0, .int .i64 0, .slice none 0 0, .slice none 0 0] (xs.length * 7)) 62))
  rw [size_madeCells] at hrow
  have hb0 : Below w.heap.size w (w.alloc (.cells (madeCells #[.int .i64 0, .int .i64 0, .int .i64 0, .int .i64 0, .int .i64 0, .slice none 0 0, .slice none 0 0] (xs.length * 7)) 62)) := (Below.refl _ _).alloc (Nat.le_refl _) _
  have hs0 : w.heap.size < (w.alloc (.cells (madeCells #[.int .i64 0, .int .i64 0, .int .i64 0, .int .i64 0, .int .i64 0, .slice none 0 0, .slice none 0 0] (xs.length * 7)) 62)).heap.size := by simp
  generalize (w.alloc (.cells (madeCells #[.int .i64 0, .int .i64 0, .int .i64 0, .int .i64 0, .int .i64 0, .slice none 0 0, .slice none 0 0] (xs.length * 7)) 62)) = w0 at *
  go_loopw [4] (fun i wr => ∃ (k : Nat) (f : Nat → Value) (ms : List Tg), k ≤ xs.length ∧ i = .int .i64 k ∧ wr.rowIs w.heap.size 62 (xs.length * 7) f ∧ ms.length = k ∧ ms.map Tg.ct = (xs.take k).map Tg.ct ∧ (∀ j x, ms[j]? = some x → TgOwn wr w.heap.size f j x) ∧ Below w.heap.size w wr ∧ w.heap.size < wr.heap.size) (fun i _ => xs.length - (intOf i).toNat)
  case atStart => exact ⟨0, _, [], Nat.zero_le _, rfl, hrow, rfl, rfl, fun j x h => by simp at h, hb0, hs0⟩
  case round =>
    obtain ⟨k, f, ms, hk, rfl, hrw, hml, hmc, hms, hbel, hsz⟩ := hrel
    clear hrow hb0 hs0
    by_cases hlt : k < xs.length
    · obtain ⟨-, h | ⟨b, o, rfl, hc⟩⟩ := hr
      · subst h; simp at hlt
      obtain ⟨⟨s1, wa, wc, ka, kc⟩, hx⟩ : ∃ x, xs[k] = x := ⟨_, rfl⟩
      have gx : xs[k]? = some ⟨s1, wa, wc, ka, kc⟩ := by rw [List.getElem?_eq_getElem hlt, hx]
      obtain ⟨⟨p0, p1, p2, p3, p4, p5, p6⟩, pr, pi, -⟩ := (hc k _ gx).later hbel
      simp only [Tg.hd] at p0 p1 p2 p3 p4 p5 p6 pi pr
      clear hx
      have HTO := kide (toTNode_any s1 wa ka wc kc wr pr pi)
      have GX : Hid _ := gx
      have HML : Hid _ := hml
      have HMC : Hid _ := hmc
      have HMS : Hid _ := hms
      have HR : Hid _ := hrw
      have HB : Hid _ := hbel
      have i0 : (k : Int) < (xs.length : Int) := by omega
      clear gx hml hmc hms hc hrw hbel hmk pr pi
      obtain ⟨op, vr, aa, bb, bw, ws, ks⟩ := s1
      simp only [] at p0 p1 p2 p3 p4 p5 p6 HTO
      go_wp2_with fail
      refine Calls.mono HTO.out ?_
      rintro e w1 ⟨g, g', rfl, hg, hg', hown, hown', hb1⟩
      have hr1 := World.rowIs.of_block HR.out (hb1.block _ hsz)
      have q0 := hr1.cell (i := k * 7) (by omega)
      have q1 := hr1.cell (i := k * 7 + 1) (by omega)
      have q2 := hr1.cell (i := k * 7 + 2) (by omega)
      have q3 := hr1.cell (i := k * 7 + 3) (by omega)
      have q4 := hr1.cell (i := k * 7 + 4) (by omega)
      have q5 := hr1.cell (i := k * 7 + 5) (by omega)
      have q6 := hr1.cell (i := k * 7 + 6) (by omega)
      have r0 := hr1.frozen (k * 7)
      have r1 := hr1.frozen (k * 7 + 1)
      have r2 := hr1.frozen (k * 7 + 2)
      have r3 := hr1.frozen (k * 7 + 3)
      have r4 := hr1.frozen (k * 7 + 4)
      have r5 := hr1.frozen (k * 7 + 5)
      have r6 := hr1.frozen (k * 7 + 6)
      have HR1 : Hid _ := hr1
      clear hr1
      go_wp2_with fail
      go_roundw
      case rel =>
        have hl := HML.out
        have hgk : w.heap.size < g := by omega
        have hgk' : w.heap.size < g' := by omega
        refine ⟨k + 1, _, ms ++ [⟨⟨op, vr, aa, bb, bw, ws, ks⟩, some ⟨g, 0, none⟩, ws.length, some ⟨g', 0, none⟩, ks.length⟩], by omega, by go_num, (World.rowIs.set (World.rowIs.set (World.rowIs.set (World.rowIs.set (World.rowIs.set (World.rowIs.set (World.rowIs.set HR1.out (k * 7) (.int .i64 op)) (k * 7 + 1) (.int .i64 vr)) (k * 7 + 2) (.int .i64 aa)) (k * 7 + 3) (.int .i64 bb)) (k * 7 + 4) (.int .i64 bw)) (k * 7 + 5) (.slice (some ⟨g, 0, none⟩) ws.length ws.length)) (k * 7 + 6) (.slice (some ⟨g', 0, none⟩) ks.length ks.length)), by simp [hl], ?_, fun j x hj => ?_, ?_, ?_⟩
        · have h := HMC.out
          rw [List.map_append, h, List.take_add_one, GX.out, List.map_append]
          rfl
        · rw [List.getElem?_append] at hj
          split at hj
          · refine ((HMS.out j x hj).later hb1).put (k := k) (fun g' hg' => ?_) (fun i hi => ?_) (by omega)
            · rw [heap_setCell_other _ _ _ _ (by simp; omega), heap_setCell_other _ _ _ _ (by simp; omega), heap_setCell_other _ _ _ _ (by simp; omega), heap_setCell_other _ _ _ _ (by simp; omega), heap_setCell_other _ _ _ _ (by simp; omega), heap_setCell_other _ _ _ _ (by simp; omega), heap_setCell_other _ _ _ _ (by simp; omega)]
            · show (if _ then _ else _) = _
              rw [if_neg (by omega), if_neg (by omega), if_neg (by omega), if_neg (by omega), if_neg (by omega), if_neg (by omega), if_neg (by omega)]
          · have hj2 : j - ms.length = 0 := by
              have := (List.getElem?_eq_some_iff.1 hj).1
              simp at this; exact this
            rw [hj2] at hj
            simp at hj
            subst hj
            have hjk : j = k := by omega
            subst hjk
            refine ⟨⟨by simp, by simp, by simp, by simp, by simp, by simp, by simp⟩, ⟨g, rfl, hgk, ?_⟩, g', rfl, hgk', ?_⟩
            · iterate 7 (refine Own.other ?_ (by simp; omega) _)
              exact hown
            · iterate 7 (refine OwnI.other ?_ (by simp; omega) _)
              exact hown'
        · have hbb := HB.out.trans (hb1.mono HB.out.size)
          exact ((((((hbb.setCell (Nat.le_refl _) _).setCell (Nat.le_refl _) _).setCell (Nat.le_refl _) _).setCell (Nat.le_refl _) _).setCell (Nat.le_refl _) _).setCell (Nat.le_refl _) _).setCell (Nat.le_refl _) _
        · have := hb1.size
          simp; omega
      case measure => simp [intOf]; omega
    · have e : k = xs.length := by omega
      have HM : Hid _ := hml
      have HC : Hid _ := hmc
      have HS : Hid _ := hms
      have HR : Hid _ := hrw
      have HB : Hid _ := hbel
      have HE : Hid _ := e
      clear hml hmc hms hrw hbel e hmk
      go_wp2_with fail
      go_ret
      refine ⟨ms, rfl, ?_, ⟨by rw [HM.out]; omega, .inr ⟨_, 0, rfl, fun i x hi => ?_⟩⟩, ⟨fun b o sp h => by cases h; exact Nat.le_refl _, fun x hx => ?_⟩, ⟨f, HR.out, HS.out⟩, HB.out⟩
      · have h := HC.out
        rw [HE.out, List.take_length] at h
        exact h
      · obtain ⟨⟨h0, h1, h2, h3, h4, h4', h4''⟩, ⟨g, h5, h6, h7⟩, g', h8, h9, h10⟩ := HS.out i x hi
        have hik : i < k := by have := (List.getElem?_eq_some_iff.1 hi).1; rw [HM.out] at this; exact this
        have hct : ∃ y, xs[i]? = some y ∧ y.ct = x.ct := by
          have h := HC.out
          rw [HE.out, List.take_length] at h
          have h' : (ms.map Tg.ct)[i]? = (xs.map Tg.ct)[i]? := by rw [h]
          rw [List.getElem?_map, List.getElem?_map, hi, Option.map_some] at h'
          cases hy : xs[i]? with
          | none => rw [hy] at h'; cases h'
          | some y => rw [hy] at h'; simp at h'; exact ⟨y, rfl, h'.symm⟩
        obtain ⟨y, hy, hyx⟩ := hct
        obtain ⟨-, hn | ⟨b, o, -, hc⟩⟩ := hr
        · subst hn; simp at hy
        obtain ⟨-, ⟨l1, l2, -⟩, ⟨m1, m2, -⟩, l3⟩ := hc i y hy
        rw [hyx] at l1 l2 l3 m1 m2
        refine ⟨⟨?_, ?_, ?_, ?_, ?_, ?_, ?_⟩, ?_, ?_, l3⟩
        · rw [Nat.zero_add]; exact (World.rowIs.cell HR.out (by omega)).trans (congrArg some h0)
        · rw [Nat.zero_add]; exact (World.rowIs.cell HR.out (by omega)).trans (congrArg some h1)
        · rw [Nat.zero_add]; exact (World.rowIs.cell HR.out (by omega)).trans (congrArg some h2)
        · rw [Nat.zero_add]; exact (World.rowIs.cell HR.out (by omega)).trans (congrArg some h3)
        · rw [Nat.zero_add]; exact (World.rowIs.cell HR.out (by omega)).trans (congrArg some h4)
        · rw [Nat.zero_add]; exact (World.rowIs.cell HR.out (by omega)).trans (congrArg some h4')
        · rw [Nat.zero_add]; exact (World.rowIs.cell HR.out (by omega)).trans (congrArg some h4'')
        · rw [h5]
          exact Own.rd h7 l1 l2
        · rw [h8]
          exact OwnI.rd h10 m1 m2
      · obtain ⟨i, hi, e⟩ := List.mem_iff_getElem.1 hx
        obtain ⟨-, ⟨g, h5, h6, -⟩, g', h8, h9, -⟩ := HS.out i x (by rw [List.getElem?_eq_getElem hi, e])
        refine ⟨fun b o sp h => ?_, fun b o sp h => ?_⟩
        · rw [h5] at h; cases h; omega
        · rw [h8] at h; cases h; omega

theorem toTerm_own (a : Option Addr) (c : Nat) (xs : List Tg) (w : World) (hr : RdT w a xs) (n : Nat) (hn : xs.length = n) :
    Calls Tryz.prog 8 #[.agg #[.slice a n c]] w fun e w' => ∃ (g : Nat) (ms : List Tg), e = .returned (.agg #[.slice (some ⟨g, 0, none⟩) n n]) ∧ ms.map Tg.ct = xs.map Tg.ct ∧ RdT w' (some ⟨g, 0, none⟩) ms ∧ FarT w.heap.size (some ⟨g, 0, none⟩) ms ∧ w.heap.size ≤ g ∧ (∃ f, w'.rowIs g 62 (n * 7) f ∧ ∀ j x, ms[j]? = some x → TgOwn w' g f j x) ∧ Below w.heap.size w w' := by
  subst hn
  go_enter Tryz.func8, Tryz.ntmps8
  go_wp2_with fail
  refine (toTNodeS_own a c xs _ ?_).mono ?_
  · refine hr.later (Below.alloc (Below.alloc (Below.alloc (Below.refl _ _) ?_ _) ?_ _) ?_ _)
    all_goals first | exact Nat.le_refl _ | (simp; done) | (simp; omega)
  rintro e w1 ⟨ms, rfl, hms, hrd, hfar, ⟨f, hrow, hown⟩, hb⟩
  have hc := kcell hb
  have hz : w.heap.size + 1 + 1 < w1.heap.size := by have := hb.size; simp at this; omega
  have hf := (bcell hb).2
  have HO := kide hrd
  have HFR := kide hfar
  have HB := kide hb
  have HM := kide hms
  have HRW := kide hrow
  have HWN := kide hown
  clear hrd hb hr hms hfar hrow hown
  go_wp2_with fail
  refine bodyPost_ret (v := .agg #[.slice (some ⟨w.heap.size + 1 + 1 + 1, 0, none⟩) xs.length xs.length]) (by simp [results, Tryz.results8, go_sem, hc]) rfl ⟨_, ms, rfl, HM.out, ?_, ?_, by omega, ?_, ?_⟩
  · have h := HO.out
    have hf2 := HFR.out
    simp only [World.size_alloc] at h hf2
    exact (h.set hf2 (by first | (simp; done) | (simp; omega)) _).set hf2 (by first | (simp; done) | (simp; omega)) _
  · have hf2 := HFR.out
    simp only [World.size_alloc] at hf2
    exact hf2.mono (by omega)
  · have h := HRW.out
    have h2 := HWN.out
    simp only [World.size_alloc] at h h2
    refine ⟨f, World.rowIs.of_block h (by rw [heap_setCell_other _ _ _ _ (by simp; omega), heap_setCell_other _ _ _ _ (by simp)]), fun j x hj => ?_⟩
    obtain ⟨h0, ⟨g, h5, h6, h7⟩, g', h8, h9, h10⟩ := h2 j x hj
    exact ⟨h0, ⟨g, h5, h6, (h7.other (by simp; omega) _).other (by simp; omega) _⟩, g', h8, h9, (h10.other (by simp; omega) _).other (by simp; omega) _⟩
  · have h := HB.out
    have h0 : Below w.heap.size w w1 := by
      refine Below.trans (Below.alloc (Below.alloc (Below.alloc (Below.refl _ _) ?_ _) ?_ _) ?_ _) (h.mono ?_)
      all_goals first | exact Nat.le_refl _ | (simp; done) | (simp; omega)
    exact (h0.setCell (by simp; omega) _).setCell (by simp) _



/-- A node's rows may be written, between two blocks. -/
def WrT (w : World) (B1 B2 : Nat) (x : Tg) : Prop := (∃ g zs, x.wa = some ⟨g, 0, none⟩ ∧ B1 ≤ g ∧ g < B2 ∧ Own w g zs ∧ zs.length = x.ct.ws.length) ∧ ∃ g zs, x.ka = some ⟨g, 0, none⟩ ∧ B1 ≤ g ∧ g < B2 ∧ OwnI w g zs ∧ zs.length = x.ct.ks.length

theorem u64s_len {xs ys : List Nat} (h : u64s xs = u64s ys) : xs.length = ys.length := by
  have := congrArg Array.size h
  simpa [u64s] using this

theorem i64s_len {xs ys : List Int} (h : i64s xs = i64s ys) : xs.length = ys.length := by
  have := congrArg Array.size h
  simpa [i64s] using this

theorem own_len {w : World} {g : Nat} {xs ys : List Nat} (h : Own w g xs) (h' : Own w g ys) : xs.length = ys.length := by
  unfold Own at h h'
  rw [h] at h'
  simp only [Option.some.injEq, Obj.cells.injEq, and_true] at h'
  exact u64s_len h'

theorem ownI_len {w : World} {g : Nat} {xs ys : List Int} (h : OwnI w g xs) (h' : OwnI w g ys) : xs.length = ys.length := by
  unfold OwnI at h h'
  rw [h] at h'
  simp only [Option.some.injEq, Obj.cells.injEq, and_true] at h'
  exact i64s_len h'

theorem own_ne {w : World} {g g' : Nat} {xs : List Nat} {ys : List Int} (h : Own w g xs) (h' : OwnI w g' ys) : g ≠ g' := by
  rintro rfl
  unfold Own at h
  unfold OwnI at h'
  rw [h] at h'
  simp only [Option.some.injEq, Obj.cells.injEq] at h'
  exact absurd h'.2.1 (by decide)

theorem WrT.words {w w' : World} {B1 B2 g : Nat} {x : Tg} (h : WrT w B1 B2 x) (hg : w.grownBy w' (some g)) {zs zs' : List Nat} (ho : Own w g zs) (ho' : Own w' g zs') (hl : zs'.length = zs.length) : WrT w' B1 B2 x := by
  obtain ⟨⟨g1, y1, a1, a2, a3, a4, a5⟩, g2, y2, b1, b2, b3, b4, b5⟩ := h
  have hn := own_ne ho b4
  refine ⟨?_, g2, y2, b1, b2, b3, ?_, b5⟩
  · by_cases e : g1 = g
    · subst e
      exact ⟨g1, zs', a1, a2, a3, ho', by rw [hl, ← a5]; exact own_len ho a4⟩
    · refine ⟨g1, y1, a1, a2, a3, ?_, a5⟩
      unfold Own
      rw [hg.block g1 a4.lt (fun e' => e (by cases e'; rfl))]
      exact a4
  · unfold OwnI
    rw [hg.block g2 b4.lt (fun e' => hn (by cases e'; rfl))]
    exact b4

theorem WrT.kids {w w' : World} {B1 B2 g : Nat} {x : Tg} (h : WrT w B1 B2 x) (hg : w.grownBy w' (some g)) {zs zs' : List Int} (ho : OwnI w g zs) (ho' : OwnI w' g zs') (hl : zs'.length = zs.length) : WrT w' B1 B2 x := by
  obtain ⟨⟨g1, y1, a1, a2, a3, a4, a5⟩, g2, y2, b1, b2, b3, b4, b5⟩ := h
  have hn := own_ne a4 ho
  refine ⟨⟨g1, y1, a1, a2, a3, ?_, a5⟩, ?_⟩
  · unfold Own
    rw [hg.block g1 a4.lt (fun e' => hn (by cases e'; rfl))]
    exact a4
  · by_cases e : g2 = g
    · subst e
      exact ⟨g2, zs', b1, b2, b3, ho', by rw [hl, ← b5]; exact ownI_len ho b4⟩
    · refine ⟨g2, y2, b1, b2, b3, ?_, b5⟩
      unfold OwnI
      rw [hg.block g2 b4.lt (fun e' => e (by cases e'; rfl))]
      exact b4

theorem WrT.row {w w' : World} {B1 B2 g N : Nat} {x : Tg} {f : Nat → Value} (h : WrT w B1 B2 x) (hr : w.rowIs g 62 N f) (hg : w.grownBy w' (some g)) : WrT w' B1 B2 x := by
  obtain ⟨⟨g1, y1, a1, a2, a3, a4, a5⟩, g2, y2, b1, b2, b3, b4, b5⟩ := h
  obtain ⟨cc, hh, -⟩ := hr
  refine ⟨⟨g1, y1, a1, a2, a3, ?_, a5⟩, g2, y2, b1, b2, b3, ?_, b5⟩
  · unfold Own
    rw [hg.block g1 a4.lt (fun e' => by
      cases e'
      unfold Own at a4
      rw [hh] at a4
      cases a4)]
    exact a4
  · unfold OwnI
    rw [hg.block g2 b4.lt (fun e' => by
      cases e'
      unfold OwnI at b4
      rw [hh] at b4
      cases b4)]
    exact b4

theorem WrT.out {w w' : World} {B1 B2 C1 C2 : Nat} {x : Tg} (h : WrT w B1 B2 x) (ho : Out C1 C2 w w') (hd : C2 ≤ B1 ∨ B2 ≤ C1) : WrT w' B1 B2 x := by
  obtain ⟨⟨g1, y1, a1, a2, a3, a4, a5⟩, g2, y2, b1, b2, b3, b4, b5⟩ := h
  refine ⟨⟨g1, y1, a1, a2, a3, ?_, a5⟩, g2, y2, b1, b2, b3, ?_, b5⟩
  · unfold Own
    rw [ho.2.2.2.2 g1 a4.lt (by omega)]
    exact a4
  · unfold OwnI
    rw [ho.2.2.2.2 g2 b4.lt (by omega)]
    exact b4

theorem TgOwn.wr {w : World} {G j B1 : Nat} {f : Nat → Value} {x : Tg} (h : TgOwn w G f j x) (hB : B1 ≤ G) : WrT w B1 w.heap.size x := by
  obtain ⟨-, ⟨g, h5, h6, h7⟩, g', h8, h9, h10⟩ := h
  exact ⟨⟨g, x.ct.ws, h5, by omega, h7.lt, h7, rfl⟩, g', x.ct.ks, h8, by omega, h10.lt, h10, rfl⟩

/-- Of a row of nodes only the slices count here. -/
def TnF (f : Nat → Value) (xs : List Tg) : Prop := ∀ i x, xs[i]? = some x → (∃ k0 k1 k2 k3 k4 : Int, f (i * 7) = .int .i64 k0 ∧ f (i * 7 + 1) = .int .i64 k1 ∧ f (i * 7 + 2) = .int .i64 k2 ∧ f (i * 7 + 3) = .int .i64 k3 ∧ f (i * 7 + 4) = .int .i64 k4) ∧ f (i * 7 + 5) = .slice x.wa x.ct.ws.length x.wc ∧ f (i * 7 + 6) = .slice x.ka x.ct.ks.length x.kc

theorem TgOwn.tnf {w : World} {G : Nat} {f : Nat → Value} {xs : List Tg} (h : ∀ j x, xs[j]? = some x → TgOwn w G f j x) : TnF f xs := fun i x hi => by
  obtain ⟨⟨h0, h1, h2, h3, h4, h5, h6⟩, -⟩ := h i x hi
  exact ⟨⟨_, _, _, _, _, h0, h1, h2, h3, h4⟩, h5, h6⟩

theorem World.grownBy.more {w wr w1 : World} {g : Nat} (h : w.grownBy wr (some g)) (hb : wr.grownBy w1 (some g)) : w.grownBy w1 (some g) := ⟨hb.os.trans h.os, hb.tape.trans h.tape, hb.output.trans h.output, Nat.le_trans h.size hb.size, fun q hq hne => (hb.block q (Nat.lt_of_lt_of_le hq h.size) hne).trans (h.block q hq hne)⟩



/-- A copied term, as the law carries it. -/
theorem toTerm_wr (a : Option Addr) (c : Nat) (xs : List Tg) (w : World) (hr : RdT w a xs) (n : Nat) (hn : xs.length = n) :
    Calls Tryz.prog 8 #[.agg #[.slice a n c]] w fun e w' => ∃ (g : Nat) (ms : List Tg), e = .returned (.agg #[.slice (some ⟨g, 0, none⟩) n n]) ∧ ms.map Tg.ct = xs.map Tg.ct ∧ w.heap.size ≤ g ∧ RdT w' (some ⟨g, 0, none⟩) ms ∧ (∃ f, w'.rowIs g 62 (n * 7) f ∧ TnF f ms) ∧ (∀ x ∈ ms, WrT w' w.heap.size w'.heap.size x ∧ x.ct.ws.length ≤ 1048576 ∧ x.ct.ks.length ≤ 1048576) ∧ Below w.heap.size w w' := by
  refine Calls.mono (toTerm_own a c xs w hr n hn) ?_
  rintro e w' ⟨g, ms, h1, h2, h3, h4, h5, ⟨f, h6, h7⟩, h8⟩
  refine ⟨g, ms, h1, h2, h5, h3, ⟨f, h6, TgOwn.tnf h7⟩, fun x hx => ?_, h8⟩
  obtain ⟨i, hi, e⟩ := List.mem_iff_getElem.1 hx
  have hi' : ms[i]? = some x := by rw [List.getElem?_eq_getElem hi, e]
  refine ⟨(h7 i x hi').wr h5, ?_⟩
  obtain ⟨-, h | ⟨b, o, -, hc⟩⟩ := h3
  · subst h; simp at hx
  · obtain ⟨-, r1, r2, -⟩ := hc i x hi'
    exact ⟨r1.1, r2.1⟩

end Go.Proofs.YtckidgpopbpagaaGreatDoor
