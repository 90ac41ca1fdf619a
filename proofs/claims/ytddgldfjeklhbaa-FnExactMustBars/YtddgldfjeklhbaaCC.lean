/- Splits that are copied lie in memory of their kind. -/
import Derived.Test.YtddgldfjeklhbaaCB
namespace Go.Proofs.Ytddgldfjeklhbaa
set_option linter.unusedVariables false
set_option linter.unusedSimpArgs false
open Go.RowKit

theorem rowIs_parts {w : World} {g N : Nat} {t : TypeId} {f : Nat → Value} (h : w.rowIs g t N f) : ∃ cc, w.heap[g]? = some (.cells cc t (0, 0)) ∧ cc.size = N ∧ ∀ i, i < N → cc[i]? = some (f i) := by
  obtain ⟨cc, hh, r1, r2⟩ := h
  exact ⟨cc, hh, r1, fun i hi => r2 i hi⟩

theorem TyW.far {w w' : World} {lo hi n : Nat} {a : Option Addr} (h : TyW w lo hi a n) (hk : ∀ b, lo ≤ b → b < hi → w'.heap[b]? = w.heap[b]?) : TyW w' lo hi a n := by
  obtain ⟨h0, g, cur, e, h1, h2, h3, h4⟩ := h
  exact ⟨h0, g, cur, e, h1, h2, (hk g h1 h2).trans h3, h4⟩
theorem TyB.far {w w' : World} {lo hi n : Nat} {a : Option Addr} (h : TyB w lo hi a n) (hk : ∀ b, lo ≤ b → b < hi → w'.heap[b]? = w.heap[b]?) : TyB w' lo hi a n := by
  obtain ⟨h0, g, cur, e, h1, h2, h3, h4⟩ := h
  refine ⟨h0, g, cur, e, h1, h2, (hk g h1 h2).trans h3, fun i hi => ?_⟩
  obtain ⟨i1, i2, i3, a', m, c, i4, i5⟩ := h4 i hi
  exact ⟨i1, i2, i3, a', m, c, i4, i5.far hk⟩
theorem TyW.mono {w : World} {lo hi lo' hi' n : Nat} {a : Option Addr} (h : TyW w lo hi a n) (h1 : lo' ≤ lo) (h2 : hi ≤ hi') : TyW w lo' hi' a n := by
  obtain ⟨h0, g, cur, e, k1, k2, h3, h4⟩ := h
  exact ⟨h0, g, cur, e, by omega, by omega, h3, h4⟩
theorem TyB.mono {w : World} {lo hi lo' hi' n : Nat} {a : Option Addr} (h : TyB w lo hi a n) (h1 : lo' ≤ lo) (h2 : hi ≤ hi') : TyB w lo' hi' a n := by
  obtain ⟨h0, g, cur, e, k1, k2, h3, h4⟩ := h
  refine ⟨h0, g, cur, e, by omega, by omega, h3, fun i hi => ?_⟩
  obtain ⟨i1, i2, i3, a', m, c, i4, i5⟩ := h4 i hi
  exact ⟨i1, i2, i3, a', m, c, i4, i5.mono h1 h2⟩

set_option maxHeartbeats 1000000 in
theorem toBarS_ty (a : Option Addr) (c : Nat) (xs : List Yg) (w : World) (hr : RdBr w a xs) :
    Calls Try.prog 35 #[.slice a xs.length c] w fun e w' => ∃ ms : List Yg, e = .returned (.slice (some ⟨w.heap.size, 0, none⟩) xs.length xs.length) ∧ ms.map Yg.ct = xs.map Yg.ct ∧ RdBr w' (some ⟨w.heap.size, 0, none⟩) ms ∧ FarB w.heap.size (some ⟨w.heap.size, 0, none⟩) ms ∧ TyB w' w.heap.size w'.heap.size (some ⟨w.heap.size, 0, none⟩) xs.length ∧ Below w.heap.size w w' := by
  have hlen := hr.1
  have hmk := make_bars xs.length hlen
  go_enter Try.func35, Try.ntmps35
  go_wp2_with fail
  have hrow := krow (heap_alloc_new w (.cells (madeCells #[.int .i64 0, .int .i64 0, .int .i64 0, .slice none 0 0] (xs.length * 4)) 54))
  rw [size_madeCells] at hrow
  have hb0 : Below w.heap.size w (w.alloc (.cells (madeCells #[.int .i64 0, .int .i64 0, .int .i64 0, .slice none 0 0] (xs.length * 4)) 54)) := (Below.refl _ _).alloc (Nat.le_refl _) _
  have hs0 : w.heap.size < (w.alloc (.cells (madeCells #[.int .i64 0, .int .i64 0, .int .i64 0, .slice none 0 0] (xs.length * 4)) 54)).heap.size := by simp
  generalize (w.alloc (.cells (madeCells #[.int .i64 0, .int .i64 0, .int .i64 0, .slice none 0 0] (xs.length * 4)) 54)) = w0 at *
  go_loopw [4] (fun i wr => ∃ (k : Nat) (f : Nat → Value) (ms : List Yg), k ≤ xs.length ∧ i = .int .i64 k ∧ wr.rowIs w.heap.size 54 (xs.length * 4) f ∧ ms.length = k ∧ ms.map Yg.ct = (xs.take k).map Yg.ct ∧ (∀ j x, ms[j]? = some x → YgOwn wr w.heap.size f j x) ∧ Below w.heap.size w wr ∧ w.heap.size < wr.heap.size) (fun i _ => xs.length - (intOf i).toNat)
  case atStart => exact ⟨0, _, [], Nat.zero_le _, rfl, hrow, rfl, rfl, fun j x h => by simp at h, hb0, hs0⟩
  case round =>
    obtain ⟨k, f, ms, hk, rfl, hrw, hml, hmc, hms, hbel, hsz⟩ := hrel
    clear hrow hb0 hs0
    by_cases hlt : k < xs.length
    · obtain ⟨-, h | ⟨b, o, rfl, hc⟩⟩ := hr
      · subst h; simp at hlt
      obtain ⟨⟨s1, a1, c1⟩, hx⟩ : ∃ x, xs[k] = x := ⟨_, rfl⟩
      have gx : xs[k]? = some ⟨s1, a1, c1⟩ := by rw [List.getElem?_eq_getElem hlt, hx]
      obtain ⟨⟨p0, p1, p2, p3⟩, pr, -⟩ := (hc k _ gx).later hbel
      simp only [Yg.hd] at p0 p1 p2 p3 pr
      clear hx
      have HTO := kide (toBar_any s1 a1 c1 wr pr)
      have GX : Hid _ := gx
      have HML : Hid _ := hml
      have HMC : Hid _ := hmc
      have HMS : Hid _ := hms
      have HR : Hid _ := hrw
      have HB : Hid _ := hbel
      have i0 : (k : Int) < (xs.length : Int) := by omega
      clear gx hml hmc hms hc hrw hbel hmk pr
      obtain ⟨v, lo, bw, ws⟩ := s1
      simp only [] at p0 p1 p2 p3 HTO
      go_wp2_with fail
      refine Calls.mono HTO.out ?_
      rintro e w1 ⟨g, rfl, hg, hown, hb1⟩
      have hr1 := World.rowIs.of_block HR.out (hb1.block _ hsz)
      have q0 := hr1.cell (i := k * 4) (by omega)
      have q1 := hr1.cell (i := k * 4 + 1) (by omega)
      have q2 := hr1.cell (i := k * 4 + 2) (by omega)
      have q3 := hr1.cell (i := k * 4 + 3) (by omega)
      have r0 := hr1.frozen (k * 4)
      have r1 := hr1.frozen (k * 4 + 1)
      have r2 := hr1.frozen (k * 4 + 2)
      have r3 := hr1.frozen (k * 4 + 3)
      have HR1 : Hid _ := hr1
      clear hr1
      go_wp2_with fail
      go_roundw
      case rel =>
        have hl := HML.out
        have hgk : w.heap.size < g := by omega
        refine ⟨k + 1, _, ms ++ [⟨⟨v, lo, bw, ws⟩, some ⟨g, 0, none⟩, ws.length⟩], by omega, by go_num, World.rowIs.set (World.rowIs.set (World.rowIs.set (World.rowIs.set HR1.out (k * 4) (.int .i64 v)) (k * 4 + 1) (.int .i64 lo)) (k * 4 + 2) (.int .i64 bw)) (k * 4 + 3) (.slice (some ⟨g, 0, none⟩) ws.length ws.length), by simp [hl], ?_, fun j x hj => ?_, ?_, ?_⟩
        · have h := HMC.out
          rw [List.map_append, h, List.take_add_one, GX.out, List.map_append]
          rfl
        · rw [List.getElem?_append] at hj
          split at hj
          · refine ((HMS.out j x hj).later hb1).put (k := k) (fun g' hg' => ?_) (fun i hi => ?_) (by omega)
            · rw [heap_setCell_other _ _ _ _ (by simp; omega), heap_setCell_other _ _ _ _ (by simp; omega), heap_setCell_other _ _ _ _ (by simp; omega), heap_setCell_other _ _ _ _ (by simp; omega)]
            · show (if _ then _ else _) = _
              rw [if_neg (by omega), if_neg (by omega), if_neg (by omega), if_neg (by omega)]
          · have hj2 : j - ms.length = 0 := by
              have := (List.getElem?_eq_some_iff.1 hj).1
              simp at this; exact this
            rw [hj2] at hj
            simp at hj
            subst hj
            have hjk : j = k := by omega
            subst hjk
            refine ⟨by simp, by simp, by simp, by simp, g, rfl, hgk, ?_⟩
            exact (((hown.other (by simp; omega) _).other (by simp; omega) _).other (by simp; omega) _).other (by simp; omega) _
        · exact ((((HB.out.trans (hb1.mono HB.out.size)).setCell (Nat.le_refl _) _).setCell (Nat.le_refl _) _).setCell (Nat.le_refl _) _).setCell (Nat.le_refl _) _
        · have := hb1.size
          simp; omega
      case measure => simp [intOf]; omega
    · have e : k = xs.length := by omega
      have HM : Hid _ := hml
      have HC : Hid _ := hmc
      have HS : Hid _ := hms
      have HR : Hid _ := hrw
      have HB : Hid _ := hbel
      have HE : Hid _ := e
      clear hml hmc hms hrw hbel e hmk
      go_wp2_with fail
      go_ret
      refine ⟨ms, rfl, ?_, ⟨by rw [HM.out]; omega, .inr ⟨_, 0, rfl, fun i x hi => ?_⟩⟩, ⟨fun b o sp h => by cases h; exact Nat.le_refl _, fun x hx b o sp h => ?_⟩, ?_, HB.out⟩
      · have h := HC.out
        rw [HE.out, List.take_length] at h
        exact h
      · obtain ⟨h0, h1, h2, h3, g, h5, h6, h7⟩ := HS.out i x hi
        have hik : i < k := by have := (List.getElem?_eq_some_iff.1 hi).1; rw [HM.out] at this; exact this
        have hct : ∃ y, xs[i]? = some y ∧ y.ct = x.ct := by
          have h := HC.out
          rw [HE.out, List.take_length] at h
          have h' : (ms.map Yg.ct)[i]? = (xs.map Yg.ct)[i]? := by rw [h]
          rw [List.getElem?_map, List.getElem?_map, hi, Option.map_some] at h'
          cases hy : xs[i]? with
          | none => rw [hy] at h'; cases h'
          | some y => rw [hy] at h'; simp at h'; exact ⟨y, rfl, h'.symm⟩
        obtain ⟨y, hy, hyx⟩ := hct
        obtain ⟨-, hn | ⟨b, o, -, hc⟩⟩ := hr
        · subst hn; simp at hy
        obtain ⟨-, ⟨l1, l2, -⟩, l3⟩ := hc i y hy
        rw [hyx] at l1 l2 l3
        refine ⟨⟨?_, ?_, ?_, ?_⟩, ?_, l3⟩
        · rw [Nat.zero_add]; exact (World.rowIs.cell HR.out (by omega)).trans (congrArg some h0)
        · rw [Nat.zero_add]; exact (World.rowIs.cell HR.out (by omega)).trans (congrArg some h1)
        · rw [Nat.zero_add]; exact (World.rowIs.cell HR.out (by omega)).trans (congrArg some h2)
        · rw [Nat.zero_add]; exact (World.rowIs.cell HR.out (by omega)).trans (congrArg some h3)
        · rw [h5]
          exact Own.rd h7 l1 l2
      · obtain ⟨i, hi, e⟩ := List.mem_iff_getElem.1 hx
        obtain ⟨-, -, -, -, g, h5, h6, -⟩ := HS.out i x (by rw [List.getElem?_eq_getElem hi, e])
        rw [h5] at h; cases h; omega
      · obtain ⟨cc, hh, hsz9, hcc⟩ := rowIs_parts HR.out
        refine ⟨hlen, w.heap.size, cc, rfl, Nat.le_refl _, lt_of_block hh, hh, fun i hi => ?_⟩
        obtain ⟨x, hx⟩ : ∃ x, ms[i]? = some x := ⟨ms[i]'(by rw [HM.out]; omega), List.getElem?_eq_getElem _⟩
        obtain ⟨h0, h1, h2, h3, g, h5, h6, h7⟩ := HS.out i x hx
        obtain ⟨y, hy, hyx⟩ : ∃ y, xs[i]? = some y ∧ y.ct = x.ct := by
          have h := HC.out
          rw [HE.out, List.take_length] at h
          have h' : (ms.map Yg.ct)[i]? = (xs.map Yg.ct)[i]? := by rw [h]
          rw [List.getElem?_map, List.getElem?_map, hx, Option.map_some] at h'
          cases hy : xs[i]? with
          | none => rw [hy] at h'; cases h'
          | some y => rw [hy] at h'; simp at h'; exact ⟨y, rfl, h'.symm⟩
        obtain ⟨-, hn | ⟨b, o, -, hc⟩⟩ := hr
        · subst hn; simp at hy
        obtain ⟨-, ⟨l1, l2, -⟩, l3⟩ := hc i y hy
        rw [hyx] at l1
        exact ⟨⟨_, (hcc (i * 4) (by omega)).trans (congrArg some h0)⟩, ⟨_, (hcc (i * 4 + 1) (by omega)).trans (congrArg some h1)⟩, ⟨_, (hcc (i * 4 + 2) (by omega)).trans (congrArg some h2)⟩, x.a, x.ct.ws.length, x.c, (hcc (i * 4 + 3) (by omega)).trans (congrArg some h3), l1, g, u64s x.ct.ws, h5, Nat.le_of_lt h6, h7.lt, h7, fun j hj => ⟨_, u64s_get _ _ hj⟩⟩

theorem toSplit_ty (id st : Int) (a : Option Addr) (c : Nat) (bs : List Yg) (w : World) (hr : RdBr w a bs) :
    Calls Try.prog 21 #[.agg #[.int .i64 id, .int .i64 st, .slice a bs.length c]] w fun e w' => ∃ (g : Nat) (ms : List Yg), e = .returned (.agg #[.int .i64 id, .int .i64 st, .slice (some ⟨g, 0, none⟩) bs.length bs.length]) ∧ ms.map Yg.ct = bs.map Yg.ct ∧ RdBr w' (some ⟨g, 0, none⟩) ms ∧ FarB w.heap.size (some ⟨g, 0, none⟩) ms ∧ TyB w' w.heap.size w'.heap.size (some ⟨g, 0, none⟩) bs.length ∧ Below w.heap.size w w' := by
  go_enter Try.func21, Try.ntmps21
  go_wp2_with fail
  have h3 : Below w.heap.size w (((w.alloc (Obj.cells #[Value.int .i64 id, Value.int .i64 st, Value.slice a bs.length c] 46)).alloc (Obj.cells #[Value.int .i64 0, Value.int .i64 0, Value.slice none 0 0] 48)).alloc (Obj.cells #[Value.int .i64 id, Value.int .i64 st, Value.slice none 0 0] 48)) := (((Below.refl _ _).alloc (Nat.le_refl _) _).alloc (by simp) _).alloc (by simp; omega) _
  refine (toBarS_ty a c bs _ (hr.later h3)).mono ?_
  rintro e w1 ⟨ms, rfl, hms, hrd, hfar, hty, hb⟩
  have HTY : Hid (TyB w1 (w.heap.size + 3) w1.heap.size (some ⟨w.heap.size + 3, 0, none⟩) bs.length) := by have h := hty; simp at h; exact h
  obtain ⟨hc, hf⟩ := bcell hb
  have hz : w.heap.size + 1 + 1 < w1.heap.size := by have := hb.size; simp at this; omega
  have HO := kide hrd
  have HFR : Hid (FarB (w.heap.size + 3) (some ⟨w.heap.size + 3, 0, none⟩) ms) := by have h := hfar; simp at h; exact h
  have HB := kide (h3.trans (hb.mono h3.size))
  have HM := kide hms
  clear hrd hb hr h3 hms hfar hty
  go_wp2_with fail
  refine bodyPost_ret (v := .agg #[.int .i64 id, .int .i64 st, .slice (some ⟨w.heap.size + 1 + 1 + 1, 0, none⟩) bs.length bs.length]) (by simp [results, Try.results21, go_sem, hc]) rfl ⟨_, ms, rfl, HM.out, ?_, ?_, ?_, ?_⟩
  · have h := HO.out
    simp only [World.size_alloc] at h
    repeat (refine RdBr.set ?_ HFR.out (by first | (simp; done) | (simp; omega)) _)
    exact h
  · exact FarB.mono HFR.out (by omega)
  · refine TyB.mono (lo := w.heap.size + 3) (hi := w1.heap.size) ?_ (by omega) (by simp)
    refine TyB.far HTY.out (fun b h1 h2 => ?_)
    repeat (rw [heap_setCell_other _ _ _ _ (by simp; omega)])
  · repeat (refine Below.setCell ?_ (by first | (simp; done) | (simp; omega)) _)
    exact HB.out

def PgOwn' (w : World) (G : Nat) (f : Nat → Value) (j : Nat) (x : Pg) : Prop := PgOwn w G f j x ∧ TyB w (G + 1) w.heap.size x.a x.bs.length
theorem PgOwn'.later {w w' : World} {G j : Nat} {f : Nat → Value} {x : Pg} (h : PgOwn' w G f j x) (hb : Below w.heap.size w w') : PgOwn' w' G f j x := ⟨h.1.later hb, (h.2.far (fun b _ hb' => hb.block b hb')).mono (Nat.le_refl _) hb.size⟩
theorem PgOwn'.row {w : World} {G j k : Nat} {f f' : Nat → Value} {x : Pg} (h : PgOwn' w G f j x) (hf : ∀ i, i < k * 3 → f' i = f i) (hk : j < k) : PgOwn' w G f' j x := ⟨h.1.row hf hk, h.2⟩
theorem PgOwn'.set {w : World} {G j : Nat} {f : Nat → Value} {x : Pg} (h : PgOwn' w G f j x) (o : Nat) (v : Value) : PgOwn' (w.setCell ⟨G, o, none⟩ v) G f j x := ⟨h.1.set o v, (h.2.far (fun b hb _ => heap_setCell_other _ _ _ _ (by simp; omega))).mono (Nat.le_refl _) (by simp)⟩

set_option maxHeartbeats 1000000 in
theorem toSplitS_ty (a : Option Addr) (c : Nat) (xs : List Pg) (w : World) (hr : RdP w a xs) :
    Calls Try.prog 7 #[.slice a xs.length c] w fun e w' => ∃ ms : List Pg, e = .returned (.slice (some ⟨w.heap.size, 0, none⟩) xs.length xs.length) ∧ ms.map Pg.ct = xs.map Pg.ct ∧ RdP w' (some ⟨w.heap.size, 0, none⟩) ms ∧ TyS w' w.heap.size w'.heap.size (some ⟨w.heap.size, 0, none⟩) xs.length ∧ Below w.heap.size w w' := by
  have hlen := hr.1
  have hmk := make_splits xs.length hlen
  go_enter Try.func7, Try.ntmps7
  go_wp2_with fail
  have hrow := krow (heap_alloc_new w (.cells (madeCells #[.int .i64 0, .int .i64 0, .slice none 0 0] (xs.length * 3)) 48))
  rw [size_madeCells] at hrow
  have hb0 : Below w.heap.size w (w.alloc (.cells (madeCells #[.int .i64 0, .int .i64 0, .slice none 0 0] (xs.length * 3)) 48)) := (Below.refl _ _).alloc (Nat.le_refl _) _
  have hs0 : w.heap.size < (w.alloc (.cells (madeCells #[.int .i64 0, .int .i64 0, .slice none 0 0] (xs.length * 3)) 48)).heap.size := by simp
  generalize (w.alloc (.cells (madeCells #[.int .i64 0, .int .i64 0, .slice none 0 0] (xs.length * 3)) 48)) = w0 at *
  go_loopw [4] (fun i wr => ∃ (k : Nat) (f : Nat → Value) (ms : List Pg), k ≤ xs.length ∧ i = .int .i64 k ∧ wr.rowIs w.heap.size 48 (xs.length * 3) f ∧ ms.length = k ∧ ms.map Pg.ct = (xs.take k).map Pg.ct ∧ (∀ j x, ms[j]? = some x → PgOwn' wr w.heap.size f j x) ∧ Below w.heap.size w wr ∧ w.heap.size < wr.heap.size) (fun i _ => xs.length - (intOf i).toNat)
  case atStart => exact ⟨0, _, [], Nat.zero_le _, rfl, hrow, rfl, rfl, fun j x h => by simp at h, hb0, hs0⟩
  case round =>
    obtain ⟨k, f, ms, hk, rfl, hrw, hml, hmc, hms, hbel, hsz⟩ := hrel
    clear hrow hb0 hs0
    by_cases hlt : k < xs.length
    · obtain ⟨-, h | ⟨b, o, rfl, hc⟩⟩ := hr
      · subst h; simp at hlt
      obtain ⟨⟨id, st, bs, a1, c1⟩, hx⟩ : ∃ x, xs[k] = x := ⟨_, rfl⟩
      have gx : xs[k]? = some ⟨id, st, bs, a1, c1⟩ := by rw [List.getElem?_eq_getElem hlt, hx]
      obtain ⟨⟨p0, p1, p2⟩, pr, -⟩ := (hc k _ gx).later hbel
      simp only [] at p0 p1 p2 pr
      clear hx
      have HTO := kide (toSplit_ty id st a1 c1 bs wr pr)
      have GX : Hid _ := gx
      have HML : Hid _ := hml
      have HMC : Hid _ := hmc
      have HMS : Hid _ := hms
      have HR : Hid _ := hrw
      have HB : Hid _ := hbel
      have i0 : (k : Int) < (xs.length : Int) := by omega
      clear gx hml hmc hms hc hrw hbel hmk pr
      generalize hbl : bs.length = bl at *
      have HBL := kide hbl
      clear hbl
      go_wp2_with fail
      refine Calls.mono HTO.out ?_
      rintro e w1 ⟨g, m1, rfl, hm1, hrd1, hfar1, hty1, hb1⟩
      have HTY := kide hty1
      have hr1 := World.rowIs.of_block HR.out (hb1.block _ hsz)
      have q0 := hr1.cell (i := k * 3) (by omega)
      have q1 := hr1.cell (i := k * 3 + 1) (by omega)
      have q2 := hr1.cell (i := k * 3 + 2) (by omega)
      have r0 := hr1.frozen (k * 3)
      have r1 := hr1.frozen (k * 3 + 1)
      have r2 := hr1.frozen (k * 3 + 2)
      have HR1 : Hid _ := hr1
      have HM1 := kide hm1
      have HD1 := kide hrd1
      have HF1 := kide hfar1
      have HB1 := kide hb1
      clear hr1 hm1 hrd1 hfar1 hb1 hty1
      go_wp2_with fail
      go_roundw
      case rel =>
        have hl := HML.out
        have hm1l : m1.length = bl := by rw [← HBL.out]; simpa using congrArg List.length HM1.out
        refine ⟨k + 1, _, ms ++ [⟨id, st, m1, some ⟨g, 0, none⟩, bl⟩], by omega, by go_num, World.rowIs.set (World.rowIs.set (World.rowIs.set HR1.out (k * 3) (.int .i64 id)) (k * 3 + 1) (.int .i64 st)) (k * 3 + 2) (.slice (some ⟨g, 0, none⟩) bl bl), by simp [hl], ?_, fun j x hj => ?_, ?_, ?_⟩
        · have h := HMC.out
          rw [List.map_append, h, List.take_add_one, GX.out, List.map_append]
          simp [Pg.ct, HM1.out]
        · rw [List.getElem?_append] at hj
          split at hj
          · refine ((((HMS.out j x hj).later HB1.out).set _ _).set _ _).set _ _ |>.row (k := k) (fun i hi => ?_) (by omega)
            show (if _ then _ else _) = _
            rw [if_neg (by omega), if_neg (by omega), if_neg (by omega)]
          · have hj2 : j - ms.length = 0 := by
              have := (List.getElem?_eq_some_iff.1 hj).1
              simp at this; exact this
            rw [hj2] at hj
            simp at hj
            subst hj
            have hjk : j = k := by omega
            subst hjk
            refine ⟨⟨⟨by simp, by simp, by simp [hm1l]⟩, ?_, HF1.out.mono (by omega)⟩, ?_⟩
            rotate_left
            · simp only []
              rw [hm1l]
              refine TyB.mono (lo := wr.heap.size) (hi := w1.heap.size) ?_ (by omega) (by simp)
              refine TyB.far HTY.out (fun b h1 h2 => ?_)
              repeat (rw [heap_setCell_other _ _ _ _ (by simp; omega)])
            have hF : FarB (w.heap.size + 1) (some ⟨g, 0, none⟩) m1 := HF1.out.mono (by omega)
            exact (((HD1.out.set hF (by simp) _).set hF (by simp) _).set hF (by simp) _)
        · exact (((HB.out.trans (HB1.out.mono HB.out.size)).setCell (Nat.le_refl _) _).setCell (Nat.le_refl _) _).setCell (Nat.le_refl _) _
        · have := HB1.out.size
          simp; omega
      case measure => simp [intOf]; omega
    · have e : k = xs.length := by omega
      have HM : Hid _ := hml
      have HC : Hid _ := hmc
      have HS : Hid _ := hms
      have HR : Hid _ := hrw
      have HB : Hid _ := hbel
      have HE : Hid _ := e
      clear hml hmc hms hrw hbel e hmk
      go_wp2_with fail
      go_ret
      refine ⟨ms, rfl, ?_, ⟨by rw [HM.out]; omega, .inr ⟨_, 0, rfl, fun i x hi => ?_⟩⟩, ?_, HB.out⟩
      · have h := HC.out
        rw [HE.out, List.take_length] at h
        exact h
      · obtain ⟨⟨⟨h0, h1, h2⟩, h3, h4⟩, -⟩ := HS.out i x hi
        have hik : i < k := by have := (List.getElem?_eq_some_iff.1 hi).1; rw [HM.out] at this; exact this
        have hct : ∃ y, xs[i]? = some y ∧ y.ct = x.ct := by
          have h := HC.out
          rw [HE.out, List.take_length] at h
          have h' : (ms.map Pg.ct)[i]? = (xs.map Pg.ct)[i]? := by rw [h]
          rw [List.getElem?_map, List.getElem?_map, hi, Option.map_some] at h'
          cases hy : xs[i]? with
          | none => rw [hy] at h'; cases h'
          | some y => rw [hy] at h'; simp at h'; exact ⟨y, rfl, h'.symm⟩
        obtain ⟨y, hy, hyx⟩ := hct
        obtain ⟨-, hn | ⟨b, o, -, hc⟩⟩ := hr
        · subst hn; simp at hy
        obtain ⟨-, -, l3⟩ := hc i y hy
        have e1 : y.id = x.id := congrArg Pc.id hyx
        have e2 : y.st = x.st := congrArg Pc.st hyx
        rw [e1, e2] at l3
        refine ⟨⟨?_, ?_, ?_⟩, h3, l3⟩
        · rw [Nat.zero_add]; exact (World.rowIs.cell HR.out (by omega)).trans (congrArg some h0)
        · rw [Nat.zero_add]; exact (World.rowIs.cell HR.out (by omega)).trans (congrArg some h1)
        · rw [Nat.zero_add]; exact (World.rowIs.cell HR.out (by omega)).trans (congrArg some h2)
      · obtain ⟨cc, hh, hsz9, hcc⟩ := rowIs_parts HR.out
        refine ⟨hlen, w.heap.size, cc, rfl, Nat.le_refl _, lt_of_block hh, hh, fun i hi => ?_⟩
        obtain ⟨x, hx⟩ : ∃ x, ms[i]? = some x := ⟨ms[i]'(by rw [HM.out]; omega), List.getElem?_eq_getElem _⟩
        obtain ⟨⟨⟨h0, h1, h2⟩, h3, h4⟩, h5⟩ := HS.out i x hx
        exact ⟨⟨_, (hcc (i * 3) (by omega)).trans (congrArg some h0)⟩, ⟨_, (hcc (i * 3 + 1) (by omega)).trans (congrArg some h1)⟩, x.a, x.bs.length, x.c, (hcc (i * 3 + 2) (by omega)).trans (congrArg some h2), h5.mono (by omega) (Nat.le_refl _)⟩

end Go.Proofs.Ytddgldfjeklhbaa
