/- Contracts of the laws' own small functions on rows of segments: compared, copied. -/
import Derived.Test.YtpmpipcpifmncaaMB
namespace Go.Proofs.Ytpmpipcpifmncaa
set_option linter.unusedVariables false
set_option linter.unusedSimpArgs false
open Go.RowKit

theorem eqSegS_same (a b : Option Addr) (c d : Nat) (xs ys : List Sg) (w : World) (hr : RdS w a xs) (hs : RdS w b ys) (he : xs.map Sg.ct = ys.map Sg.ct) (n : Nat) (h1 : xs.length = n) (h2 : ys.length = n) :
    Calls Try.prog 17 #[.slice a n c, .slice b n d] w fun e w' => e = .returned (.bool true) ∧ Below w.heap.size w w' := by
  have hl1 := hr.1
  rw [h1] at hl1
  have hne : ((n : Int) != (n : Int)) = false := by simp
  have H1 := kide h1
  have H2 := kide h2
  have HE := kide he
  clear h1 h2 he
  go_enter Try.func17, Try.ntmps17
  go_wp2_with fail
  clear hne
  go_loopw [5] (fun i wr => ∃ k : Nat, k ≤ n ∧ i = .int .i64 k ∧ Below w.heap.size w wr) (fun i _ => n - (intOf i).toNat)
  case atStart => exact ⟨0, Nat.zero_le _, rfl, Below.refl _ _⟩
  case round =>
    obtain ⟨k, hk, rfl, hbel⟩ := hrel
    have HB := kide hbel
    by_cases hlt : k < n
    · obtain ⟨-, h | ⟨b1, o1, rfl, hc1⟩⟩ := hr
      · have := H1.out; subst h; simp at this; omega
      obtain ⟨-, h | ⟨b2, o2, rfl, hc2⟩⟩ := hs
      · have := H2.out; subst h; simp at this; omega
      obtain ⟨⟨s1, a1, c1⟩, hx⟩ : ∃ x, xs[k]? = some x := ⟨xs[k]'(by rw [H1.out]; exact hlt), List.getElem?_eq_getElem _⟩
      obtain ⟨⟨s2, a2, c2⟩, hy⟩ : ∃ y, ys[k]? = some y := ⟨ys[k]'(by rw [H2.out]; exact hlt), List.getElem?_eq_getElem _⟩
      have hxy : s1 = s2 := by
        have h := congrArg (fun l => l[k]?) HE.out
        simp [hx, hy] at h
        exact h
      subst hxy
      obtain ⟨⟨p0, p1, p2, p3, p4⟩, pr, -⟩ := (hc1 k _ hx).later hbel
      obtain ⟨⟨q0, q1, q2, q3, q4⟩, qr, -⟩ := (hc2 k _ hy).later hbel
      simp only [Sg.hd] at p0 p1 p2 p3 p4 pr q0 q1 q2 q3 q4 qr
      have l1 := block_lt_of_cell p0
      have l2 := block_lt_of_cell q0
      have i0 : (k : Int) < (n : Int) := by omega
      have HEQ := kide (fun u (hu : Below wr.heap.size wr u) => eqSeg_same s1 a1 a2 c1 c2 u (pr.later hu) (qr.later hu))
      obtain ⟨v, lo, wd, bw, ws⟩ := s1
      simp only [] at p0 p1 p2 p3 p4 q0 q1 q2 q3 q4 HEQ
      clear hc1 hc2 hbel hx hy pr qr
      go_wp2_with fail
      go_region_held3 (fun u => u.cell? ⟨b1, o1 + k * 5, none⟩ = some (Value.int .i64 v) ∧ u.cell? ⟨b1, o1 + k * 5 + 1, none⟩ = some (Value.int .i64 lo) ∧ u.cell? ⟨b1, o1 + k * 5 + 2, none⟩ = some (Value.int .i64 wd) ∧ u.cell? ⟨b1, o1 + k * 5 + 3, none⟩ = some (Value.int .i64 bw) ∧ u.cell? ⟨b1, o1 + k * 5 + 4, none⟩ = some (Value.slice a1 ws.length c1) ∧ u.cell? ⟨b2, o2 + k * 5, none⟩ = some (Value.int .i64 v) ∧ u.cell? ⟨b2, o2 + k * 5 + 1, none⟩ = some (Value.int .i64 lo) ∧ u.cell? ⟨b2, o2 + k * 5 + 2, none⟩ = some (Value.int .i64 wd) ∧ u.cell? ⟨b2, o2 + k * 5 + 3, none⟩ = some (Value.int .i64 bw) ∧ u.cell? ⟨b2, o2 + k * 5 + 4, none⟩ = some (Value.slice a2 ws.length c2)) (simp [*])
        ((go_at_call 53; refine Calls.mono (HEQ.out _ ?_) ?_; exact (Below.refl _ _).drew; rintro e w1 ⟨rfl, hb1⟩; replace hb1 := kundrew hb1; have k0 := kcell hb1 b1 (o1 + k * 5) l1; have k1 := kcell hb1 b1 (o1 + k * 5 + 1) l1; have k2 := kcell hb1 b1 (o1 + k * 5 + 2) l1; have k3 := kcell hb1 b1 (o1 + k * 5 + 3) l1; have k4 := kcell hb1 b1 (o1 + k * 5 + 4) l1; have j0 := kcell hb1 b2 (o2 + k * 5) l2; have j1 := kcell hb1 b2 (o2 + k * 5 + 1) l2; have j2 := kcell hb1 b2 (o2 + k * 5 + 2) l2; have j3 := kcell hb1 b2 (o2 + k * 5 + 3) l2; have j4 := kcell hb1 b2 (o2 + k * 5 + 4) l2))
      go_wp2_with fail
      go_roundw
      case rel => exact ⟨k + 1, by omega, by go_num, HB.out.trans (hb1.mono HB.out.size)⟩
      case measure => simp [intOf]; omega
    · clear hbel
      go_wp2_with fail
      go_ret
      exact ⟨rfl, HB.out⟩

theorem toSeg_any (s : Sc) (a : Option Addr) (c : Nat) (w : World) (hr : Rd w a s.ws) :
    Calls Try.prog 44 #[.agg #[.int .i64 s.v, .int .i64 s.lo, .int .i64 s.wd, .int .i64 s.bw, .slice a s.ws.length c]] w fun e w' => ∃ g, e = .returned (.agg #[.int .i64 s.v, .int .i64 s.lo, .int .i64 s.wd, .int .i64 s.bw, .slice (some ⟨g, 0, none⟩) s.ws.length s.ws.length]) ∧ w.heap.size ≤ g ∧ Own w' g s.ws ∧ Below w.heap.size w w' := by
  obtain ⟨v, lo, wd, bw, ws⟩ := s
  simp only [] at hr ⊢
  go_enter Try.func44, Try.ntmps44
  go_wp2_with fail
  have h3 : Below w.heap.size w (((w.alloc (Obj.cells #[Value.int .i64 v, Value.int .i64 lo, Value.int .i64 wd, Value.int .i64 bw, Value.slice a ws.length c] 67)).alloc (Obj.cells #[Value.int .i64 0, Value.int .i64 0, Value.int .i64 0, Value.int .i64 0, Value.slice none 0 0] 80)).alloc (Obj.cells #[Value.int .i64 v, Value.int .i64 lo, Value.int .i64 wd, Value.int .i64 0, Value.slice none 0 0] 80)) := (((Below.refl _ _).alloc (Nat.le_refl _) _).alloc (by simp) _).alloc (by simp; omega) _
  refine (toBits_any bw a c ws _ (hr.later h3)).mono ?_
  rintro e w1 ⟨g, rfl, hg, hown, hb⟩
  obtain ⟨hc, hf⟩ := bcell hb
  have hz : w.heap.size + 1 + 1 < w1.heap.size := by have := hb.size; simp at this; omega
  have hg3 : w.heap.size + 3 ≤ g := by simp at hg; omega
  have HO := kide hown
  have HB := kide (h3.trans (hb.mono h3.size))
  clear hown hb hr h3 hg
  go_wp2_with fail
  refine bodyPost_ret (v := .agg #[.int .i64 v, .int .i64 lo, .int .i64 wd, .int .i64 bw, .slice (some ⟨g, 0, none⟩) ws.length ws.length]) (by simp [results, Try.results44, go_sem, hc]) rfl ⟨g, rfl, by omega, ?_, ?_⟩
  · repeat (refine Own.other ?_ (by simp; omega) _)
    exact HO.out
  · repeat (refine Below.setCell ?_ (by simp <;> omega) _)
    exact HB.out

theorem Try.infoSeg : (Try.prog.info? 80).map (fun i => (i.zero, i.size, i.bytes)) = some (some (.agg #[.int .i64 0, .int .i64 0, .int .i64 0, .int .i64 0, .slice none 0 0]), 5, 56) := by kernel_rfl

theorem make_segs (n : Nat) (hn : n ≤ 1048576) (kl kc : IntKind) (w : World) :
    (Instr.makeSlice 37 (.int kl (n : Int)) (.int kc (n : Int))).run Try.prog w = .ok (.slice (some ⟨w.heap.size, 0, none⟩) n n) (w.alloc (.cells (madeCells #[.int .i64 0, .int .i64 0, .int .i64 0, .int .i64 0, .slice none 0 0] (n * 5)) 80)) := by
  obtain ⟨i0, hi, hz0, hz1, hz2⟩ := info_parts Try.infoSeg
  have := run_make (P := Try.prog) w 37 80 i0 _ Try.underlying37 hi hz0 kl kc n n (by omega) (Int.le_refl _) (by rw [hz2]; omega) (by omega)
  rw [hz1] at this
  simp only [Int.toNat_natCast] at this
  exact this

/-- A copied segment: its bits lie in a block of their own. -/
def SgOwn (w : World) (G : Nat) (f : Nat → Value) (j : Nat) (x : Sg) : Prop :=
  f (j * 5) = .int .i64 x.ct.v ∧ f (j * 5 + 1) = .int .i64 x.ct.lo ∧ f (j * 5 + 2) = .int .i64 x.ct.wd ∧ f (j * 5 + 3) = .int .i64 x.ct.bw ∧ f (j * 5 + 4) = .slice x.a x.ct.ws.length x.c ∧ ∃ g, x.a = some ⟨g, 0, none⟩ ∧ G < g ∧ Own w g x.ct.ws

theorem SgOwn.later {w w' : World} {G j : Nat} {f : Nat → Value} {x : Sg} (h : SgOwn w G f j x) (hb : Below w.heap.size w w') : SgOwn w' G f j x := by
  obtain ⟨h0, h1, h2, h3, h4, g, h5, h6, h7⟩ := h
  exact ⟨h0, h1, h2, h3, h4, g, h5, h6, h7.later hb h7.lt⟩

theorem SgOwn.put {w w' : World} {G j k : Nat} {f f' : Nat → Value} {x : Sg} (h : SgOwn w G f j x) (hw : ∀ g, G < g → w'.heap[g]? = w.heap[g]?) (hf : ∀ i, i < k * 5 → f' i = f i) (hk : j < k) : SgOwn w' G f' j x := by
  obtain ⟨h0, h1, h2, h3, h4, g, h5, h6, h7⟩ := h
  refine ⟨by rw [hf _ (by omega)]; exact h0, by rw [hf _ (by omega)]; exact h1, by rw [hf _ (by omega)]; exact h2, by rw [hf _ (by omega)]; exact h3, by rw [hf _ (by omega)]; exact h4, g, h5, h6, ?_⟩
  unfold Own
  rw [hw g h6]; exact h7

set_option maxHeartbeats 1000000 in
theorem toSegS_any (a : Option Addr) (c : Nat) (xs : List Sg) (w : World) (hr : RdS w a xs) :
    Calls Try.prog 12 #[.slice a xs.length c] w fun e w' => ∃ ms : List Sg, e = .returned (.slice (some ⟨w.heap.size, 0, none⟩) xs.length xs.length) ∧ ms.map Sg.ct = xs.map Sg.ct ∧ RdS w' (some ⟨w.heap.size, 0, none⟩) ms ∧ Below w.heap.size w w' := by
  have hlen := hr.1
  have hmk := make_segs xs.length hlen
  go_enter Try.func12, Try.ntmps12
  go_wp2_with fail
  have hrow := krow (heap_alloc_new w (.cells (madeCells #[.int .i64 0, .int .i64 0, .int .i64 0, .int .i64 0, .slice none 0 0] (xs.length * 5)) 80))
  rw [size_madeCells] at hrow
  have hb0 : Below w.heap.size w (w.alloc (.cells (madeCells #[.int .i64 0, .int .i64 0, .int .i64 0, .int .i64 0, .slice none 0 0] (xs.length * 5)) 80)) := (Below.refl _ _).alloc (Nat.le_refl _) _
  have hs0 : w.heap.size < (w.alloc (.cells (madeCells #[.int .i64 0, .int .i64 0, .int .i64 0, .int .i64 0, .slice none 0 0] (xs.length * 5)) 80)).heap.size := by simp
  generalize (w.alloc (.cells (madeCells #[.int .i64 0, .int .i64 0, .int .i64 0, .int .i64 0, .slice none 0 0] (xs.length * 5)) 80)) = w0 at *
  go_loopw [4] (fun i wr => ∃ (k : Nat) (f : Nat → Value) (ms : List Sg), k ≤ xs.length ∧ i = .int .i64 k ∧ wr.rowIs w.heap.size 80 (xs.length * 5) f ∧ ms.length = k ∧ ms.map Sg.ct = (xs.take k).map Sg.ct ∧ (∀ j x, ms[j]? = some x → SgOwn wr w.heap.size f j x) ∧ Below w.heap.size w wr ∧ w.heap.size < wr.heap.size) (fun i _ => xs.length - (intOf i).toNat)
  case atStart => exact ⟨0, _, [], Nat.zero_le _, rfl, hrow, rfl, rfl, fun j x h => by simp at h, hb0, hs0⟩
  case round =>
    obtain ⟨k, f, ms, hk, rfl, hrw, hml, hmc, hms, hbel, hsz⟩ := hrel
    clear hrow hb0 hs0
    by_cases hlt : k < xs.length
    · obtain ⟨-, h | ⟨b, o, rfl, hc⟩⟩ := hr
      · subst h; simp at hlt
      obtain ⟨⟨s1, a1, c1⟩, hx⟩ : ∃ x, xs[k] = x := ⟨_, rfl⟩
      have gx : xs[k]? = some ⟨s1, a1, c1⟩ := by rw [List.getElem?_eq_getElem hlt, hx]
      obtain ⟨⟨p0, p1, p2, p3, p4⟩, pr, -⟩ := (hc k _ gx).later hbel
      simp only [Sg.hd] at p0 p1 p2 p3 p4 pr
      clear hx
      have HTO := kide (toSeg_any s1 a1 c1 wr pr)
      have GX : Hid _ := gx
      have HML : Hid _ := hml
      have HMC : Hid _ := hmc
      have HMS : Hid _ := hms
      have HR : Hid _ := hrw
      have HB : Hid _ := hbel
      have i0 : (k : Int) < (xs.length : Int) := by omega
      clear gx hml hmc hms hc hrw hbel hmk pr
      obtain ⟨v, lo, wd, bw, ws⟩ := s1
      simp only [] at p0 p1 p2 p3 p4 HTO
      go_wp2_with fail
      refine Calls.mono HTO.out ?_
      rintro e w1 ⟨g, rfl, hg, hown, hb1⟩
      have hr1 := World.rowIs.of_block HR.out (hb1.block _ hsz)
      have q0 := hr1.cell (i := k * 5) (by omega)
      have q1 := hr1.cell (i := k * 5 + 1) (by omega)
      have q2 := hr1.cell (i := k * 5 + 2) (by omega)
      have q3 := hr1.cell (i := k * 5 + 3) (by omega)
      have q4 := hr1.cell (i := k * 5 + 4) (by omega)
      have r0 := hr1.frozen (k * 5)
      have r1 := hr1.frozen (k * 5 + 1)
      have r2 := hr1.frozen (k * 5 + 2)
      have r3 := hr1.frozen (k * 5 + 3)
      have r4 := hr1.frozen (k * 5 + 4)
      have HR1 : Hid _ := hr1
      clear hr1
      go_wp2_with fail
      go_roundw
      case rel =>
        have hl := HML.out
        have hgk : w.heap.size < g := by omega
        refine ⟨k + 1, _, ms ++ [⟨⟨v, lo, wd, bw, ws⟩, some ⟨g, 0, none⟩, ws.length⟩], by omega, by go_num, World.rowIs.set (World.rowIs.set (World.rowIs.set (World.rowIs.set (World.rowIs.set HR1.out (k * 5) (.int .i64 v)) (k * 5 + 1) (.int .i64 lo)) (k * 5 + 2) (.int .i64 wd)) (k * 5 + 3) (.int .i64 bw)) (k * 5 + 4) (.slice (some ⟨g, 0, none⟩) ws.length ws.length), by simp [hl], ?_, fun j x hj => ?_, ?_, ?_⟩
        · have h := HMC.out
          rw [List.map_append, h, List.take_add_one, GX.out, List.map_append]
          rfl
        · rw [List.getElem?_append] at hj
          split at hj
          · refine ((HMS.out j x hj).later hb1).put (k := k) (fun g' hg' => ?_) (fun i hi => ?_) (by omega)
            · rw [heap_setCell_other _ _ _ _ (by simp; omega), heap_setCell_other _ _ _ _ (by simp; omega), heap_setCell_other _ _ _ _ (by simp; omega), heap_setCell_other _ _ _ _ (by simp; omega), heap_setCell_other _ _ _ _ (by simp; omega)]
            · show (if _ then _ else _) = _
              rw [if_neg (by omega), if_neg (by omega), if_neg (by omega), if_neg (by omega), if_neg (by omega)]
          · have hj2 : j - ms.length = 0 := by
              have := (List.getElem?_eq_some_iff.1 hj).1
              simp at this; exact this
            rw [hj2] at hj
            simp at hj
            subst hj
            have hjk : j = k := by omega
            subst hjk
            refine ⟨by simp, by simp, by simp, by simp, by simp, g, rfl, hgk, ?_⟩
            exact ((((hown.other (by simp; omega) _).other (by simp; omega) _).other (by simp; omega) _).other (by simp; omega) _).other (by simp; omega) _
        · exact (((((HB.out.trans (hb1.mono HB.out.size)).setCell (Nat.le_refl _) _).setCell (Nat.le_refl _) _).setCell (Nat.le_refl _) _).setCell (Nat.le_refl _) _).setCell (Nat.le_refl _) _
        · have := hb1.size
          simp; omega
      case measure => simp [intOf]; omega
    · have e : k = xs.length := by omega
      have HM : Hid _ := hml
      have HC : Hid _ := hmc
      have HS : Hid _ := hms
      have HR : Hid _ := hrw
      have HB : Hid _ := hbel
      have HE : Hid _ := e
      clear hml hmc hms hrw hbel e hmk
      go_wp2_with fail
      go_ret
      refine ⟨ms, rfl, ?_, ⟨by rw [HM.out]; omega, .inr ⟨_, 0, rfl, fun i x hi => ?_⟩⟩, HB.out⟩
      · have h := HC.out
        rw [HE.out, List.take_length] at h
        exact h
      · obtain ⟨h0, h1, h2, h3, h4, g, h5, h6, h7⟩ := HS.out i x hi
        have hik : i < k := by have := (List.getElem?_eq_some_iff.1 hi).1; rw [HM.out] at this; exact this
        have hct : ∃ y, xs[i]? = some y ∧ y.ct = x.ct := by
          have h := HC.out
          rw [HE.out, List.take_length] at h
          have h' : (ms.map Sg.ct)[i]? = (xs.map Sg.ct)[i]? := by rw [h]
          rw [List.getElem?_map, List.getElem?_map, hi, Option.map_some] at h'
          cases hy : xs[i]? with
          | none => rw [hy] at h'; cases h'
          | some y => rw [hy] at h'; simp at h'; exact ⟨y, rfl, h'.symm⟩
        obtain ⟨y, hy, hyx⟩ := hct
        obtain ⟨-, hn | ⟨b, o, -, hc⟩⟩ := hr
        · subst hn; simp at hy
        obtain ⟨-, ⟨l1, l2, -⟩, l3⟩ := hc i y hy
        rw [hyx] at l1 l2 l3
        refine ⟨⟨?_, ?_, ?_, ?_, ?_⟩, ?_, l3⟩
        · rw [Nat.zero_add]; exact (World.rowIs.cell HR.out (by omega)).trans (congrArg some h0)
        · rw [Nat.zero_add]; exact (World.rowIs.cell HR.out (by omega)).trans (congrArg some h1)
        · rw [Nat.zero_add]; exact (World.rowIs.cell HR.out (by omega)).trans (congrArg some h2)
        · rw [Nat.zero_add]; exact (World.rowIs.cell HR.out (by omega)).trans (congrArg some h3)
        · rw [Nat.zero_add]; exact (World.rowIs.cell HR.out (by omega)).trans (congrArg some h4)
        · rw [h5]
          exact Own.rd h7 l1 l2

end Go.Proofs.Ytpmpipcpifmncaa
