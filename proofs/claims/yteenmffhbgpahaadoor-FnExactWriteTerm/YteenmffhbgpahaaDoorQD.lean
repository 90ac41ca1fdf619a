/- Rows of term nodes copied; terms copied. -/
import Derived.Test.YteenmffhbgpahaaDoorQC
namespace Go.Proofs.YteenmffhbgpahaaDoor
set_option linter.unusedVariables false
set_option linter.unusedSimpArgs false
open Go.RowKit

theorem ksetT {w : World} {p : Addr} {a : Addr} {v : Value} {x : Value} (h : w.cell? p = some x) (hn : p.block ≠ a.block) : (w.setCell a v).cell? p = some x := by
  rw [World.cell?_setCell_far _ _ _ _ hn.symm]; exact h

theorem RdI.setT {w : World} {a : Option Addr} {ks : List Int} (h : RdI w a ks) {B : Nat} (hf : ∀ b o sp, a = some ⟨b, o, sp⟩ → B ≤ b) {p : Addr} (hp : p.block < B) (v : Value) : RdI (w.setCell p v) a ks := by
  obtain ⟨h1, h2, h3⟩ := h
  refine ⟨h1, h2, ?_⟩
  rcases h3 with h3 | ⟨b, o, rfl, hc⟩
  · exact .inl h3
  · have := hf b o none rfl
    exact .inr ⟨b, o, rfl, fun i hi => ksetT (hc i hi) (by simp; omega)⟩

theorem Rd.setT {w : World} {a : Option Addr} {ks : List Nat} (h : Rd w a ks) {B : Nat} (hf : ∀ b o sp, a = some ⟨b, o, sp⟩ → B ≤ b) {p : Addr} (hp : p.block < B) (v : Value) : Rd (w.setCell p v) a ks := by
  obtain ⟨h1, h2, h3⟩ := h
  refine ⟨h1, h2, ?_⟩
  rcases h3 with h3 | ⟨b, o, rfl, hc⟩
  · exact .inl h3
  · have := hf b o none rfl
    exact .inr ⟨b, o, rfl, fun i hi => ksetT (hc i hi) (by simp; omega)⟩

/-- All of it lies from the block B on. -/
def FarT (B : Nat) (a : Option Addr) (xs : List Tg) : Prop := (∀ b o sp, a = some ⟨b, o, sp⟩ → B ≤ b) ∧ ∀ x ∈ xs, (∀ b o sp, x.wa = some ⟨b, o, sp⟩ → B ≤ b) ∧ ∀ b o sp, x.ka = some ⟨b, o, sp⟩ → B ≤ b
theorem FarT.mono {B B' : Nat} {a : Option Addr} {xs : List Tg} (h : FarT B a xs) (hB : B' ≤ B) : FarT B' a xs := ⟨fun b o sp e => Nat.le_trans hB (h.1 b o sp e), fun x hx => ⟨fun b o sp e => Nat.le_trans hB ((h.2 x hx).1 b o sp e), fun b o sp e => Nat.le_trans hB ((h.2 x hx).2 b o sp e)⟩⟩

theorem RdT.set {w : World} {a : Option Addr} {xs : List Tg} (h : RdT w a xs) {B : Nat} (hf : FarT B a xs) {p : Addr} (hp : p.block < B) (v : Value) : RdT (w.setCell p v) a xs := by
  refine ⟨h.1, ?_⟩
  rcases h.2 with h3 | ⟨b, o, rfl, hc⟩
  · exact .inl h3
  · have := hf.1 b o none rfl
    refine .inr ⟨b, o, rfl, fun i n hi => ?_⟩
    obtain ⟨⟨c0, c1, c2, c3, c4, c5, c6⟩, r1, r2, r3⟩ := hc i n hi
    have hn := hf.2 n (List.mem_of_getElem? hi)
    exact ⟨⟨ksetT c0 (by simp; omega), ksetT c1 (by simp; omega), ksetT c2 (by simp; omega), ksetT c3 (by simp; omega), ksetT c4 (by simp; omega), ksetT c5 (by simp; omega), ksetT c6 (by simp; omega)⟩, r1.setT hn.1 hp v, r2.setT hn.2 hp v, r3⟩

theorem Tryd.infoTNode : (Tryd.prog.info? 54).map (fun i => (i.zero, i.size, i.bytes)) = some (some (.agg #[.int .i64 0, .int .i64 0, .int .i64 0, .int .i64 0, .int .i64 0, .slice none 0 0, .slice none 0 0]), 7, 88) := by kernel_rfl

theorem make_tnodes (n : Nat) (hn : n ≤ 1048576) (kl kc : IntKind) (w : World) :
    (Instr.makeSlice 31 (.int kl (n : Int)) (.int kc (n : Int))).run Tryd.prog w = .ok (.slice (some ⟨w.heap.size, 0, none⟩) n n) (w.alloc (.cells (madeCells #[.int .i64 0, .int .i64 0, .int .i64 0, .int .i64 0, .int .i64 0, .slice none 0 0, .slice none 0 0] (n * 7)) 54)) := by
  obtain ⟨i0, hi, hz0, hz1, hz2⟩ := info_parts Tryd.infoTNode
  have := run_make (P := Tryd.prog) w 31 54 i0 _ Tryd.underlying31 hi hz0 kl kc n n (by omega) (Int.le_refl _) (by rw [hz2]; omega) (by omega)
  rw [hz1] at this
  simp only [Int.toNat_natCast] at this
  exact this

/-- A copied node: its rows lie in blocks of their own. -/
def TgOwn (w : World) (G : Nat) (f : Nat → Value) (j : Nat) (x : Tg) : Prop :=
  (f (j * 7) = .int .i64 x.ct.op ∧ f (j * 7 + 1) = .int .i64 x.ct.vr ∧ f (j * 7 + 2) = .int .i64 x.ct.a ∧ f (j * 7 + 3) = .int .i64 x.ct.b ∧ f (j * 7 + 4) = .int .i64 x.ct.bw ∧ f (j * 7 + 5) = .slice x.wa x.ct.ws.length x.wc ∧ f (j * 7 + 6) = .slice x.ka x.ct.ks.length x.kc) ∧ (∃ g, x.wa = some ⟨g, 0, none⟩ ∧ G < g ∧ Own w g x.ct.ws) ∧ ∃ g, x.ka = some ⟨g, 0, none⟩ ∧ G < g ∧ OwnI w g x.ct.ks

theorem TgOwn.later {w w' : World} {G j : Nat} {f : Nat → Value} {x : Tg} (h : TgOwn w G f j x) (hb : Below w.heap.size w w') : TgOwn w' G f j x := by
  obtain ⟨h0, ⟨g, h5, h6, h7⟩, g', h8, h9, h10⟩ := h
  exact ⟨h0, ⟨g, h5, h6, h7.later hb h7.lt⟩, g', h8, h9, h10.later hb h10.lt⟩

theorem TgOwn.put {w w' : World} {G j k : Nat} {f f' : Nat → Value} {x : Tg} (h : TgOwn w G f j x) (hw : ∀ g, G < g → w'.heap[g]? = w.heap[g]?) (hf : ∀ i, i < k * 7 → f' i = f i) (hk : j < k) : TgOwn w' G f' j x := by
  obtain ⟨⟨h0, h1, h2, h3, h4, h4', h4''⟩, ⟨g, h5, h6, h7⟩, g', h8, h9, h10⟩ := h
  refine ⟨⟨by rw [hf _ (by omega)]; exact h0, by rw [hf _ (by omega)]; exact h1, by rw [hf _ (by omega)]; exact h2, by rw [hf _ (by omega)]; exact h3, by rw [hf _ (by omega)]; exact h4, by rw [hf _ (by omega)]; exact h4', by rw [hf _ (by omega)]; exact h4''⟩, ⟨g, h5, h6, ?_⟩, g', h8, h9, ?_⟩
  · unfold Own
    rw [hw g h6]; exact h7
  · unfold OwnI
    rw [hw g' h9]; exact h10

set_option maxHeartbeats 1000000 in
theorem toTNodeS_far (a : Option Addr) (c : Nat) (xs : List Tg) (w : World) (hr : RdT w a xs) :
    Calls Tryd.prog 18 #[.slice a xs.length c] w fun e w' => ∃ ms : List Tg, e = .returned (.slice (some ⟨w.heap.size, 0, none⟩) xs.length xs.length) ∧ ms.map Tg.ct = xs.map Tg.ct ∧ RdT w' (some ⟨w.heap.size, 0, none⟩) ms ∧ FarT w.heap.size (some ⟨w.heap.size, 0, none⟩) ms ∧ Below w.heap.size w w' := by
  have hlen := hr.1
  have hmk := make_tnodes xs.length hlen
  go_enter Tryd.func18, Tryd.ntmps18
  go_wp2_with fail
  have hrow := krow (heap_alloc_new w (.cells (madeCells #[.int .i64 0, .int .i64 0, .int .i64 0, .int .i64 0, .int .i64 0, .slice none 0 0, .slice none 0 0] (xs.length * 7)) 54))
  rw [size_madeCells] at hrow
  have hb0 : Below w.heap.size w (w.alloc (.cells (madeCells #[.int .i64 0, .int .i64 0, .int .i64 0, .int .i64 0, .int .i64 0, .slice none 0 0, .slice none 0 0] (xs.length * 7)) 54)) := (Below.refl _ _).alloc (Nat.le_refl _) _
  have hs0 : w.heap.size < (w.alloc (.cells (madeCells #[.int .i64 0, .int .i64 0, .int .i64 0, .int .i64 0, .int .i64 0, .slice none 0 0, .slice none 0 0] (xs.length * 7)) 54)).heap.size := by simp
  generalize (w.alloc (.cells (madeCells #[.int .i64 0, .int .i64 0, .int .i64 0, .int .i64 0, .int .i64 0, .slice none 0 0, .slice none 0 0] (xs.length * 7)) 54)) = w0 at *
  go_loopw [4] (fun i wr => ∃ (k : Nat) (f : Nat → Value) (ms : List Tg), k ≤ xs.length ∧ i = .int .i64 k ∧ wr.rowIs w.heap.size 54 (xs.length * 7) f ∧ ms.length = k ∧ ms.map Tg.ct = (xs.take k).map Tg.ct ∧ (∀ j x, ms[j]? = some x → TgOwn wr w.heap.size f j x) ∧ Below w.heap.size w wr ∧ w.heap.size < wr.heap.size) (fun i _ => xs.length - (intOf i).toNat)
  case atStart => exact ⟨0, _, [], Nat.zero_le _, rfl, hrow, rfl, rfl, fun j x h => by simp at h, hb0, hs0⟩
  case round =>
    obtain ⟨k, f, ms, hk, rfl, hrw, hml, hmc, hms, hbel, hsz⟩ := hrel
    clear hrow hb0 hs0
    by_cases hlt : k < xs.length
    · obtain ⟨-, h | ⟨b, o, rfl, hc⟩⟩ := hr
      · subst h; simp at hlt
      obtain ⟨⟨s1, wa, wc, ka, kc⟩, hx⟩ : ∃ x, xs[k] = x := ⟨_, rfl⟩
      have gx : xs[k]? = some ⟨s1, wa, wc, ka, kc⟩ := by rw [List.getElem?_eq_getElem hlt, hx]
      obtain ⟨⟨p0, p1, p2, p3, p4, p5, p6⟩, pr, pi, -⟩ := (hc k _ gx).later hbel
      simp only [Tg.hd] at p0 p1 p2 p3 p4 p5 p6 pi pr
      clear hx
      have HTO := kide (toTNode_any s1 wa ka wc kc wr pr pi)
      have GX : Hid _ := gx
      have HML : Hid _ := hml
      have HMC : Hid _ := hmc
      have HMS : Hid _ := hms
      have HR : Hid _ := hrw
      have HB : Hid _ := hbel
      have i0 : (k : Int) < (xs.length : Int) := by omega
      clear gx hml hmc hms hc hrw hbel hmk pr pi
      obtain ⟨op, vr, aa, bb, bw, ws, ks⟩ := s1
      simp only [] at p0 p1 p2 p3 p4 p5 p6 HTO
      go_wp2_with fail
      refine Calls.mono HTO.out ?_
      rintro e w1 ⟨g, g', rfl, hg, hg', hown, hown', hb1⟩
      have hr1 := World.rowIs.of_block HR.out (hb1.block _ hsz)
      have q0 := hr1.cell (i := k * 7) (by omega)
      have q1 := hr1.cell (i := k * 7 + 1) (by omega)
      have q2 := hr1.cell (i := k * 7 + 2) (by omega)
      have q3 := hr1.cell (i := k * 7 + 3) (by omega)
      have q4 := hr1.cell (i := k * 7 + 4) (by omega)
      have q5 := hr1.cell (i := k * 7 + 5) (by omega)
      have q6 := hr1.cell (i := k * 7 + 6) (by omega)
      have r0 := hr1.frozen (k * 7)
      have r1 := hr1.frozen (k * 7 + 1)
      have r2 := hr1.frozen (k * 7 + 2)
      have r3 := hr1.frozen (k * 7 + 3)
      have r4 := hr1.frozen (k * 7 + 4)
      have r5 := hr1.frozen (k * 7 + 5)
      have r6 := hr1.frozen (k * 7 + 6)
      have HR1 : Hid _ := hr1
      clear hr1
      go_wp2_with fail
      go_roundw
      case rel =>
        have hl := HML.out
        have hgk : w.heap.size < g := by omega
        have hgk' : w.heap.size < g' := by omega
        refine ⟨k + 1, _, ms ++ [⟨⟨op, vr, aa, bb, bw, ws, ks⟩, some ⟨g, 0, none⟩, ws.length, some ⟨g', 0, none⟩, ks.length⟩], by omega, by go_num, (World.rowIs.set (World.rowIs.set (World.rowIs.set (World.rowIs.set (World.rowIs.set (World.rowIs.set (World.rowIs.set HR1.out (k * 7) (.int .i64 op)) (k * 7 + 1) (.int .i64 vr)) (k * 7 + 2) (.int .i64 aa)) (k * 7 + 3) (.int .i64 bb)) (k * 7 + 4) (.int .i64 bw)) (k * 7 + 5) (.slice (some ⟨g, 0, none⟩) ws.length ws.length)) (k * 7 + 6) (.slice (some ⟨g', 0, none⟩) ks.length ks.length)), by simp [hl], ?_, fun j x hj => ?_, ?_, ?_⟩
        · have h := HMC.out
          rw [List.map_append, h, List.take_add_one, GX.out, List.map_append]
          rfl
        · rw [List.getElem?_append] at hj
          split at hj
          · refine ((HMS.out j x hj).later hb1).put (k := k) (fun g' hg' => ?_) (fun i hi => ?_) (by omega)
            · rw [heap_setCell_other _ _ _ _ (by simp; omega), heap_setCell_other _ _ _ _ (by simp; omega), heap_setCell_other _ _ _ _ (by simp; omega), heap_setCell_other _ _ _ _ (by simp; omega), heap_setCell_other _ _ _ _ (by simp; omega), heap_setCell_other _ _ _ _ (by simp; omega), heap_setCell_other _ _ _ _ (by simp; omega)]
            · show (if _ then _ else _) = _
              rw [if_neg (by omega), if_neg (by omega), if_neg (by omega), if_neg (by omega), if_neg (by omega), if_neg (by omega), if_neg (by omega)]
          · have hj2 : j - ms.length = 0 := by
              have := (List.getElem?_eq_some_iff.1 hj).1
              simp at this; exact this
            rw [hj2] at hj
            simp at hj
            subst hj
            have hjk : j = k := by omega
            subst hjk
            refine ⟨⟨by simp, by simp, by simp, by simp, by simp, by simp, by simp⟩, ⟨g, rfl, hgk, ?_⟩, g', rfl, hgk', ?_⟩
            · iterate 7 (refine Own.other ?_ (by simp; omega) _)
              exact hown
            · iterate 7 (refine OwnI.other ?_ (by simp; omega) _)
              exact hown'
        · have hbb := HB.out.trans (hb1.mono HB.out.size)
          exact ((((((hbb.setCell (Nat.le_refl _) _).setCell (Nat.le_refl _) _).setCell (Nat.le_refl _) _).setCell (Nat.le_refl _) _).setCell (Nat.le_refl _) _).setCell (Nat.le_refl _) _).setCell (Nat.le_refl _) _
        · have := hb1.size
          simp; omega
      case measure => simp [intOf]; omega
    · have e : k = xs.length := by omega
      have HM : Hid _ := hml
      have HC : Hid _ := hmc
      have HS : Hid _ := hms
      have HR : Hid _ := hrw
      have HB : Hid _ := hbel
      have HE : Hid _ := e
      clear hml hmc hms hrw hbel e hmk
      go_wp2_with fail
      go_ret
      refine ⟨ms, rfl, ?_, ⟨by rw [HM.out]; omega, .inr ⟨_, 0, rfl, fun i x hi => ?_⟩⟩, ⟨fun b o sp h => by cases h; exact Nat.le_refl _, fun x hx => ?_⟩, HB.out⟩
      · have h := HC.out
        rw [HE.out, List.take_length] at h
        exact h
      · obtain ⟨⟨h0, h1, h2, h3, h4, h4', h4''⟩, ⟨g, h5, h6, h7⟩, g', h8, h9, h10⟩ := HS.out i x hi
        have hik : i < k := by have := (List.getElem?_eq_some_iff.1 hi).1; rw [HM.out] at this; exact this
        have hct : ∃ y, xs[i]? = some y ∧ y.ct = x.ct := by
          have h := HC.out
          rw [HE.out, List.take_length] at h
          have h' : (ms.map Tg.ct)[i]? = (xs.map Tg.ct)[i]? := by rw [h]
          rw [List.getElem?_map, List.getElem?_map, hi, Option.map_some] at h'
          cases hy : xs[i]? with
          | none => rw [hy] at h'; cases h'
          | some y => rw [hy] at h'; simp at h'; exact ⟨y, rfl, h'.symm⟩
        obtain ⟨y, hy, hyx⟩ := hct
        obtain ⟨-, hn | ⟨b, o, -, hc⟩⟩ := hr
        · subst hn; simp at hy
        obtain ⟨-, ⟨l1, l2, -⟩, ⟨m1, m2, -⟩, l3⟩ := hc i y hy
        rw [hyx] at l1 l2 l3 m1 m2
        refine ⟨⟨?_, ?_, ?_, ?_, ?_, ?_, ?_⟩, ?_, ?_, l3⟩
        · rw [Nat.zero_add]; exact (World.rowIs.cell HR.out (by omega)).trans (congrArg some h0)
        · rw [Nat.zero_add]; exact (World.rowIs.cell HR.out (by omega)).trans (congrArg some h1)
        · rw [Nat.zero_add]; exact (World.rowIs.cell HR.out (by omega)).trans (congrArg some h2)
        · rw [Nat.zero_add]; exact (World.rowIs.cell HR.out (by omega)).trans (congrArg some h3)
        · rw [Nat.zero_add]; exact (World.rowIs.cell HR.out (by omega)).trans (congrArg some h4)
        · rw [Nat.zero_add]; exact (World.rowIs.cell HR.out (by omega)).trans (congrArg some h4')
        · rw [Nat.zero_add]; exact (World.rowIs.cell HR.out (by omega)).trans (congrArg some h4'')
        · rw [h5]
          exact Own.rd h7 l1 l2
        · rw [h8]
          exact OwnI.rd h10 m1 m2
      · obtain ⟨i, hi, e⟩ := List.mem_iff_getElem.1 hx
        obtain ⟨-, ⟨g, h5, h6, -⟩, g', h8, h9, -⟩ := HS.out i x (by rw [List.getElem?_eq_getElem hi, e])
        refine ⟨fun b o sp h => ?_, fun b o sp h => ?_⟩
        · rw [h5] at h; cases h; omega
        · rw [h8] at h; cases h; omega

theorem toTerm_far (a : Option Addr) (c : Nat) (xs : List Tg) (w : World) (hr : RdT w a xs) (n : Nat) (hn : xs.length = n) :
    Calls Tryd.prog 8 #[.agg #[.slice a n c]] w fun e w' => ∃ (g : Nat) (ms : List Tg), e = .returned (.agg #[.slice (some ⟨g, 0, none⟩) n n]) ∧ ms.map Tg.ct = xs.map Tg.ct ∧ RdT w' (some ⟨g, 0, none⟩) ms ∧ FarT w.heap.size (some ⟨g, 0, none⟩) ms ∧ Below w.heap.size w w' := by
  subst hn
  go_enter Tryd.func8, Tryd.ntmps8
  go_wp2_with fail
  refine (toTNodeS_far a c xs _ ?_).mono ?_
  · refine hr.later (Below.alloc (Below.alloc (Below.alloc (Below.refl _ _) ?_ _) ?_ _) ?_ _)
    all_goals first | exact Nat.le_refl _ | (simp; done) | (simp; omega)
  rintro e w1 ⟨ms, rfl, hms, hrd, hfar, hb⟩
  have hc := kcell hb
  have hz : w.heap.size + 1 + 1 < w1.heap.size := by have := hb.size; simp at this; omega
  have hf := (bcell hb).2
  have HO := kide hrd
  have HFR := kide hfar
  have HB := kide hb
  have HM := kide hms
  clear hrd hb hr hms hfar
  go_wp2_with fail
  refine bodyPost_ret (v := .agg #[.slice (some ⟨w.heap.size + 1 + 1 + 1, 0, none⟩) xs.length xs.length]) (by simp [results, Tryd.results8, go_sem, hc]) rfl ⟨_, ms, rfl, HM.out, ?_, ?_, ?_⟩
  · have h := HO.out
    have hf2 := HFR.out
    simp only [World.size_alloc] at h hf2
    exact (h.set hf2 (by first | (simp; done) | (simp; omega)) _).set hf2 (by first | (simp; done) | (simp; omega)) _
  · have hf2 := HFR.out
    simp only [World.size_alloc] at hf2
    exact hf2.mono (by omega)
  · have h := HB.out
    have h0 : Below w.heap.size w w1 := by
      refine Below.trans (Below.alloc (Below.alloc (Below.alloc (Below.refl _ _) ?_ _) ?_ _) ?_ _) (h.mono ?_)
      all_goals first | exact Nat.le_refl _ | (simp; done) | (simp; omega)
    exact (h0.setCell (by simp; omega) _).setCell (by simp) _



end Go.Proofs.YteenmffhbgpahaaDoor
