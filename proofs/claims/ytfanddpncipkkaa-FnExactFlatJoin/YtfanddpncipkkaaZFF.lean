/- Several texts in one. -/
import Derived.Test.YtfanddpncipkkaaMB
import Derived.Test.YtfanddpncipkkaaKA
import Derived.Maps.Own
import Derived.Maps.OwnSet

/- Contracts of the laws' own small functions on rows of segments: compared, copied. -/
namespace Go.Proofs.Ytfanddpncipkkaa
set_option linter.unusedVariables false
set_option linter.unusedSimpArgs false
open Go.RowKit

theorem eqSegS_same (a b : Option Addr) (c d : Nat) (xs ys : List Sg) (w : World) (hr : RdS w a xs) (hs : RdS w b ys) (he : xs.map Sg.ct = ys.map Sg.ct) (n : Nat) (h1 : xs.length = n) (h2 : ys.length = n) :
    Calls Try.prog 12 #[.slice a n c, .slice b n d] w fun e w' => e = .returned (.bool true) ∧ Below w.heap.size w w' := by
  have hl1 := hr.1
  rw [h1] at hl1
  have hne : ((n : Int) != (n : Int)) = false := by simp
  have H1 := kide h1
  have H2 := kide h2
  have HE := kide he
  clear h1 h2 he
  go_enter Try.func12, Try.ntmps12
  go_wp2_with fail
  clear hne
  go_loopw [5] (fun i wr => ∃ k : Nat, k ≤ n ∧ i = .int .i64 k ∧ Below w.heap.size w wr) (fun i _ => n - (intOf i).toNat)
  case atStart => exact ⟨0, Nat.zero_le _, rfl, Below.refl _ _⟩
  case round =>
    obtain ⟨k, hk, rfl, hbel⟩ := hrel
    have HB := kide hbel
    by_cases hlt : k < n
    · obtain ⟨-, h | ⟨b1, o1, rfl, hc1⟩⟩ := hr
      · have := H1.out; subst h; simp at this; omega
      obtain ⟨-, h | ⟨b2, o2, rfl, hc2⟩⟩ := hs
      · have := H2.out; subst h; simp at this; omega
      obtain ⟨⟨s1, a1, c1⟩, hx⟩ : ∃ x, xs[k]? = some x := ⟨xs[k]'(by rw [H1.out]; exact hlt), List.getElem?_eq_getElem _⟩
      obtain ⟨⟨s2, a2, c2⟩, hy⟩ : ∃ y, ys[k]? = some y := ⟨ys[k]'(by rw [H2.out]; exact hlt), List.getElem?_eq_getElem _⟩
      have hxy : s1 = s2 := by
        have h := congrArg (fun l => l[k]?) HE.out
        simp [hx, hy] at h
        exact h
      subst hxy
      obtain ⟨⟨p0, p1, p2, p3, p4⟩, pr, -⟩ := (hc1 k _ hx).later hbel
      obtain ⟨⟨q0, q1, q2, q3, q4⟩, qr, -⟩ := (hc2 k _ hy).later hbel
      simp only [Sg.hd] at p0 p1 p2 p3 p4 pr q0 q1 q2 q3 q4 qr
      have l1 := block_lt_of_cell p0
      have l2 := block_lt_of_cell q0
      have i0 : (k : Int) < (n : Int) := by omega
      have HEQ := kide (fun u (hu : Below wr.heap.size wr u) => eqSeg_same s1 a1 a2 c1 c2 u (pr.later hu) (qr.later hu))
      obtain ⟨v, lo, wd, bw, ws⟩ := s1
      simp only [] at p0 p1 p2 p3 p4 q0 q1 q2 q3 q4 HEQ
      clear hc1 hc2 hbel hx hy pr qr
      go_wp2_with fail
      go_region_held3 (fun u => u.cell? ⟨b1, o1 + k * 5, none⟩ = some (Value.int .i64 v) ∧ u.cell? ⟨b1, o1 + k * 5 + 1, none⟩ = some (Value.int .i64 lo) ∧ u.cell? ⟨b1, o1 + k * 5 + 2, none⟩ = some (Value.int .i64 wd) ∧ u.cell? ⟨b1, o1 + k * 5 + 3, none⟩ = some (Value.int .i64 bw) ∧ u.cell? ⟨b1, o1 + k * 5 + 4, none⟩ = some (Value.slice a1 ws.length c1) ∧ u.cell? ⟨b2, o2 + k * 5, none⟩ = some (Value.int .i64 v) ∧ u.cell? ⟨b2, o2 + k * 5 + 1, none⟩ = some (Value.int .i64 lo) ∧ u.cell? ⟨b2, o2 + k * 5 + 2, none⟩ = some (Value.int .i64 wd) ∧ u.cell? ⟨b2, o2 + k * 5 + 3, none⟩ = some (Value.int .i64 bw) ∧ u.cell? ⟨b2, o2 + k * 5 + 4, none⟩ = some (Value.slice a2 ws.length c2)) (simp [*])
        ((go_at_call 34; refine Calls.mono (HEQ.out _ ?_) ?_; exact (Below.refl _ _).drew; rintro e w1 ⟨rfl, hb1⟩; replace hb1 := kundrew hb1; have k0 := kcell hb1 b1 (o1 + k * 5) l1; have k1 := kcell hb1 b1 (o1 + k * 5 + 1) l1; have k2 := kcell hb1 b1 (o1 + k * 5 + 2) l1; have k3 := kcell hb1 b1 (o1 + k * 5 + 3) l1; have k4 := kcell hb1 b1 (o1 + k * 5 + 4) l1; have j0 := kcell hb1 b2 (o2 + k * 5) l2; have j1 := kcell hb1 b2 (o2 + k * 5 + 1) l2; have j2 := kcell hb1 b2 (o2 + k * 5 + 2) l2; have j3 := kcell hb1 b2 (o2 + k * 5 + 3) l2; have j4 := kcell hb1 b2 (o2 + k * 5 + 4) l2))
      go_wp2_with fail
      go_roundw
      case rel => exact ⟨k + 1, by omega, by go_num, HB.out.trans (hb1.mono HB.out.size)⟩
      case measure => simp [intOf]; omega
    · clear hbel
      go_wp2_with fail
      go_ret
      exact ⟨rfl, HB.out⟩

theorem toSeg_any (s : Sc) (a : Option Addr) (c : Nat) (w : World) (hr : Rd w a s.ws) :
    Calls Try.prog 28 #[.agg #[.int .i64 s.v, .int .i64 s.lo, .int .i64 s.wd, .int .i64 s.bw, .slice a s.ws.length c]] w fun e w' => ∃ g, e = .returned (.agg #[.int .i64 s.v, .int .i64 s.lo, .int .i64 s.wd, .int .i64 s.bw, .slice (some ⟨g, 0, none⟩) s.ws.length s.ws.length]) ∧ w.heap.size ≤ g ∧ Own w' g s.ws ∧ Below w.heap.size w w' := by
  obtain ⟨v, lo, wd, bw, ws⟩ := s
  simp only [] at hr ⊢
  go_enter Try.func28, Try.ntmps28
  go_wp2_with fail
  have h3 : Below w.heap.size w (((w.alloc (Obj.cells #[Value.int .i64 v, Value.int .i64 lo, Value.int .i64 wd, Value.int .i64 bw, Value.slice a ws.length c] 54)).alloc (Obj.cells #[Value.int .i64 0, Value.int .i64 0, Value.int .i64 0, Value.int .i64 0, Value.slice none 0 0] 47)).alloc (Obj.cells #[Value.int .i64 v, Value.int .i64 lo, Value.int .i64 wd, Value.int .i64 0, Value.slice none 0 0] 47)) := (((Below.refl _ _).alloc (Nat.le_refl _) _).alloc (by simp) _).alloc (by simp; omega) _
  refine (toBits_any bw a c ws _ (hr.later h3)).mono ?_
  rintro e w1 ⟨g, rfl, hg, hown, hb⟩
  obtain ⟨hc, hf⟩ := bcell hb
  have hz : w.heap.size + 1 + 1 < w1.heap.size := by have := hb.size; simp at this; omega
  have hg3 : w.heap.size + 3 ≤ g := by simp at hg; omega
  have HO := kide hown
  have HB := kide (h3.trans (hb.mono h3.size))
  clear hown hb hr h3 hg
  go_wp2_with fail
  refine bodyPost_ret (v := .agg #[.int .i64 v, .int .i64 lo, .int .i64 wd, .int .i64 bw, .slice (some ⟨g, 0, none⟩) ws.length ws.length]) (by simp [results, Try.results28, go_sem, hc]) rfl ⟨g, rfl, by omega, ?_, ?_⟩
  · repeat (refine Own.other ?_ (by simp; omega) _)
    exact HO.out
  · repeat (refine Below.setCell ?_ (by simp <;> omega) _)
    exact HB.out

theorem Try.infoSeg : (Try.prog.info? 47).map (fun i => (i.zero, i.size, i.bytes)) = some (some (.agg #[.int .i64 0, .int .i64 0, .int .i64 0, .int .i64 0, .slice none 0 0]), 5, 56) := by kernel_rfl

theorem make_segs (n : Nat) (hn : n ≤ 1048576) (kl kc : IntKind) (w : World) :
    (Instr.makeSlice 26 (.int kl (n : Int)) (.int kc (n : Int))).run Try.prog w = .ok (.slice (some ⟨w.heap.size, 0, none⟩) n n) (w.alloc (.cells (madeCells #[.int .i64 0, .int .i64 0, .int .i64 0, .int .i64 0, .slice none 0 0] (n * 5)) 47)) := by
  obtain ⟨i0, hi, hz0, hz1, hz2⟩ := info_parts Try.infoSeg
  have := run_make (P := Try.prog) w 26 47 i0 _ Try.underlying26 hi hz0 kl kc n n (by omega) (Int.le_refl _) (by rw [hz2]; omega) (by omega)
  rw [hz1] at this
  simp only [Int.toNat_natCast] at this
  exact this

/-- A copied segment: its bits lie in a block of their own. -/
def SgOwn (w : World) (G : Nat) (f : Nat → Value) (j : Nat) (x : Sg) : Prop :=
  f (j * 5) = .int .i64 x.ct.v ∧ f (j * 5 + 1) = .int .i64 x.ct.lo ∧ f (j * 5 + 2) = .int .i64 x.ct.wd ∧ f (j * 5 + 3) = .int .i64 x.ct.bw ∧ f (j * 5 + 4) = .slice x.a x.ct.ws.length x.c ∧ ∃ g, x.a = some ⟨g, 0, none⟩ ∧ G < g ∧ Own w g x.ct.ws

theorem SgOwn.later {w w' : World} {G j : Nat} {f : Nat → Value} {x : Sg} (h : SgOwn w G f j x) (hb : Below w.heap.size w w') : SgOwn w' G f j x := by
  obtain ⟨h0, h1, h2, h3, h4, g, h5, h6, h7⟩ := h
  exact ⟨h0, h1, h2, h3, h4, g, h5, h6, h7.later hb h7.lt⟩

theorem SgOwn.put {w w' : World} {G j k : Nat} {f f' : Nat → Value} {x : Sg} (h : SgOwn w G f j x) (hw : ∀ g, G < g → w'.heap[g]? = w.heap[g]?) (hf : ∀ i, i < k * 5 → f' i = f i) (hk : j < k) : SgOwn w' G f' j x := by
  obtain ⟨h0, h1, h2, h3, h4, g, h5, h6, h7⟩ := h
  refine ⟨by rw [hf _ (by omega)]; exact h0, by rw [hf _ (by omega)]; exact h1, by rw [hf _ (by omega)]; exact h2, by rw [hf _ (by omega)]; exact h3, by rw [hf _ (by omega)]; exact h4, g, h5, h6, ?_⟩
  unfold Own
  rw [hw g h6]; exact h7

set_option maxHeartbeats 1000000 in
theorem toSegS_any (a : Option Addr) (c : Nat) (xs : List Sg) (w : World) (hr : RdS w a xs) :
    Calls Try.prog 10 #[.slice a xs.length c] w fun e w' => ∃ ms : List Sg, e = .returned (.slice (some ⟨w.heap.size, 0, none⟩) xs.length xs.length) ∧ ms.map Sg.ct = xs.map Sg.ct ∧ RdS w' (some ⟨w.heap.size, 0, none⟩) ms ∧ Below w.heap.size w w' := by
  have hlen := hr.1
  have hmk := make_segs xs.length hlen
  go_enter Try.func10, Try.ntmps10
  go_wp2_with fail
  have hrow := krow (heap_alloc_new w (.cells (madeCells #[.int .i64 0, .int .i64 0, .int .i64 0, .int .i64 0, .slice none 0 0] (xs.length * 5)) 47))
  rw [size_madeCells] at hrow
  have hb0 : Below w.heap.size w (w.alloc (.cells (madeCells #[.int .i64 0, .int .i64 0, .int .i64 0, .int .i64 0, .slice none 0 0] (xs.length * 5)) 47)) := (Below.refl _ _).alloc (Nat.le_refl _) _
  have hs0 : w.heap.size < (w.alloc (.cells (madeCells #[.int .i64 0, .int .i64 0, .int .i64 0, .int .i64 0, .slice none 0 0] (xs.length * 5)) 47)).heap.size := by simp
  generalize (w.alloc (.cells (madeCells #[.int .i64 0, .int .i64 0, .int .i64 0, .int .i64 0, .slice none 0 0] (xs.length * 5)) 47)) = w0 at *
  go_loopw [4] (fun i wr => ∃ (k : Nat) (f : Nat → Value) (ms : List Sg), k ≤ xs.length ∧ i = .int .i64 k ∧ wr.rowIs w.heap.size 47 (xs.length * 5) f ∧ ms.length = k ∧ ms.map Sg.ct = (xs.take k).map Sg.ct ∧ (∀ j x, ms[j]? = some x → SgOwn wr w.heap.size f j x) ∧ Below w.heap.size w wr ∧ w.heap.size < wr.heap.size) (fun i _ => xs.length - (intOf i).toNat)
  case atStart => exact ⟨0, _, [], Nat.zero_le _, rfl, hrow, rfl, rfl, fun j x h => by simp at h, hb0, hs0⟩
  case round =>
    obtain ⟨k, f, ms, hk, rfl, hrw, hml, hmc, hms, hbel, hsz⟩ := hrel
    clear hrow hb0 hs0
    by_cases hlt : k < xs.length
    · obtain ⟨-, h | ⟨b, o, rfl, hc⟩⟩ := hr
      · subst h; simp at hlt
      obtain ⟨⟨s1, a1, c1⟩, hx⟩ : ∃ x, xs[k] = x := ⟨_, rfl⟩
      have gx : xs[k]? = some ⟨s1, a1, c1⟩ := by rw [List.getElem?_eq_getElem hlt, hx]
      obtain ⟨⟨p0, p1, p2, p3, p4⟩, pr, -⟩ := (hc k _ gx).later hbel
      simp only [Sg.hd] at p0 p1 p2 p3 p4 pr
      clear hx
      have HTO := kide (toSeg_any s1 a1 c1 wr pr)
      have GX : Hid _ := gx
      have HML : Hid _ := hml
      have HMC : Hid _ := hmc
      have HMS : Hid _ := hms
      have HR : Hid _ := hrw
      have HB : Hid _ := hbel
      have i0 : (k : Int) < (xs.length : Int) := by omega
      clear gx hml hmc hms hc hrw hbel hmk pr
      obtain ⟨v, lo, wd, bw, ws⟩ := s1
      simp only [] at p0 p1 p2 p3 p4 HTO
      go_wp2_with fail
      refine Calls.mono HTO.out ?_
      rintro e w1 ⟨g, rfl, hg, hown, hb1⟩
      have hr1 := World.rowIs.of_block HR.out (hb1.block _ hsz)
      have q0 := hr1.cell (i := k * 5) (by omega)
      have q1 := hr1.cell (i := k * 5 + 1) (by omega)
      have q2 := hr1.cell (i := k * 5 + 2) (by omega)
      have q3 := hr1.cell (i := k * 5 + 3) (by omega)
      have q4 := hr1.cell (i := k * 5 + 4) (by omega)
      have r0 := hr1.frozen (k * 5)
      have r1 := hr1.frozen (k * 5 + 1)
      have r2 := hr1.frozen (k * 5 + 2)
      have r3 := hr1.frozen (k * 5 + 3)
      have r4 := hr1.frozen (k * 5 + 4)
      have HR1 : Hid _ := hr1
      clear hr1
      go_wp2_with fail
      go_roundw
      case rel =>
        have hl := HML.out
        have hgk : w.heap.size < g := by omega
        refine ⟨k + 1, _, ms ++ [⟨⟨v, lo, wd, bw, ws⟩, some ⟨g, 0, none⟩, ws.length⟩], by omega, by go_num, World.rowIs.set (World.rowIs.set (World.rowIs.set (World.rowIs.set (World.rowIs.set HR1.out (k * 5) (.int .i64 v)) (k * 5 + 1) (.int .i64 lo)) (k * 5 + 2) (.int .i64 wd)) (k * 5 + 3) (.int .i64 bw)) (k * 5 + 4) (.slice (some ⟨g, 0, none⟩) ws.length ws.length), by simp [hl], ?_, fun j x hj => ?_, ?_, ?_⟩
        · have h := HMC.out
          rw [List.map_append, h, List.take_add_one, GX.out, List.map_append]
          rfl
        · rw [List.getElem?_append] at hj
          split at hj
          · refine ((HMS.out j x hj).later hb1).put (k := k) (fun g' hg' => ?_) (fun i hi => ?_) (by omega)
            · rw [heap_setCell_other _ _ _ _ (by simp; omega), heap_setCell_other _ _ _ _ (by simp; omega), heap_setCell_other _ _ _ _ (by simp; omega), heap_setCell_other _ _ _ _ (by simp; omega), heap_setCell_other _ _ _ _ (by simp; omega)]
            · show (if _ then _ else _) = _
              rw [if_neg (by omega), if_neg (by omega), if_neg (by omega), if_neg (by omega), if_neg (by omega)]
          · have hj2 : j - ms.length = 0 := by
              have := (List.getElem?_eq_some_iff.1 hj).1
              simp at this; exact this
            rw [hj2] at hj
            simp at hj
            subst hj
            have hjk : j = k := by omega
            subst hjk
            refine ⟨by simp, by simp, by simp, by simp, by simp, g, rfl, hgk, ?_⟩
            exact ((((hown.other (by simp; omega) _).other (by simp; omega) _).other (by simp; omega) _).other (by simp; omega) _).other (by simp; omega) _
        · exact (((((HB.out.trans (hb1.mono HB.out.size)).setCell (Nat.le_refl _) _).setCell (Nat.le_refl _) _).setCell (Nat.le_refl _) _).setCell (Nat.le_refl _) _).setCell (Nat.le_refl _) _
        · have := hb1.size
          simp; omega
      case measure => simp [intOf]; omega
    · have e : k = xs.length := by omega
      have HM : Hid _ := hml
      have HC : Hid _ := hmc
      have HS : Hid _ := hms
      have HR : Hid _ := hrw
      have HB : Hid _ := hbel
      have HE : Hid _ := e
      clear hml hmc hms hrw hbel e hmk
      go_wp2_with fail
      go_ret
      refine ⟨ms, rfl, ?_, ⟨by rw [HM.out]; omega, .inr ⟨_, 0, rfl, fun i x hi => ?_⟩⟩, HB.out⟩
      · have h := HC.out
        rw [HE.out, List.take_length] at h
        exact h
      · obtain ⟨h0, h1, h2, h3, h4, g, h5, h6, h7⟩ := HS.out i x hi
        have hik : i < k := by have := (List.getElem?_eq_some_iff.1 hi).1; rw [HM.out] at this; exact this
        have hct : ∃ y, xs[i]? = some y ∧ y.ct = x.ct := by
          have h := HC.out
          rw [HE.out, List.take_length] at h
          have h' : (ms.map Sg.ct)[i]? = (xs.map Sg.ct)[i]? := by rw [h]
          rw [List.getElem?_map, List.getElem?_map, hi, Option.map_some] at h'
          cases hy : xs[i]? with
          | none => rw [hy] at h'; cases h'
          | some y => rw [hy] at h'; simp at h'; exact ⟨y, rfl, h'.symm⟩
        obtain ⟨y, hy, hyx⟩ := hct
        obtain ⟨-, hn | ⟨b, o, -, hc⟩⟩ := hr
        · subst hn; simp at hy
        obtain ⟨-, ⟨l1, l2, -⟩, l3⟩ := hc i y hy
        rw [hyx] at l1 l2 l3
        refine ⟨⟨?_, ?_, ?_, ?_, ?_⟩, ?_, l3⟩
        · rw [Nat.zero_add]; exact (World.rowIs.cell HR.out (by omega)).trans (congrArg some h0)
        · rw [Nat.zero_add]; exact (World.rowIs.cell HR.out (by omega)).trans (congrArg some h1)
        · rw [Nat.zero_add]; exact (World.rowIs.cell HR.out (by omega)).trans (congrArg some h2)
        · rw [Nat.zero_add]; exact (World.rowIs.cell HR.out (by omega)).trans (congrArg some h3)
        · rw [Nat.zero_add]; exact (World.rowIs.cell HR.out (by omega)).trans (congrArg some h4)
        · rw [h5]
          exact Own.rd h7 l1 l2

end Go.Proofs.Ytfanddpncipkkaa

/- What the functions on names answer: both say the same of each text. -/
namespace Go.Proofs.Ytfanddpncipkkaa
set_option linter.unusedVariables false
set_option linter.unusedSimpArgs false
open Go.RowKit

theorem letB_cases (c : Nat) : (c < 97 ∧ letB c = false) ∨ (97 ≤ c ∧ 122 < c ∧ letB c = false) ∨ (97 ≤ c ∧ c ≤ 122 ∧ letB c = true) := by
  unfold letB
  by_cases h1 : 97 ≤ c
  · by_cases h2 : c ≤ 122
    · exact .inr (.inr ⟨h1, h2, by simp [h1, h2]⟩)
    · exact .inr (.inl ⟨h1, by omega, by simp [h2]⟩)
  · exact .inl ⟨by omega, by simp [h1]⟩
theorem digB_cases (c : Nat) : (c < 48 ∧ digB c = false) ∨ (48 ≤ c ∧ 57 < c ∧ digB c = false) ∨ (48 ≤ c ∧ c ≤ 57 ∧ digB c = true) := by
  unfold digB
  by_cases h1 : 48 ≤ c
  · by_cases h2 : c ≤ 57
    · exact .inr (.inr ⟨h1, h2, by simp [h1, h2]⟩)
    · exact .inr (.inl ⟨h1, by omega, by simp [h2]⟩)
  · exact .inl ⟨by omega, by simp [h1]⟩

theorem letterByte_any (c : Nat) (hc : c < 256) (w : World) :
    Calls Try.prog 94 #[.int .u8 (c : Int)] w fun e w' => e = .returned (.bool (letB c)) ∧ w' = w := by
  rcases letB_cases c with ⟨h1, h⟩ | ⟨h0, h1, h⟩ | ⟨h0, h1, h⟩
  all_goals
    rw [h]
    clear h
    go_enter Try.func94, Try.ntmps94
    go_wp2
    go_ret
    first | exact ⟨rfl, rfl⟩ | exact ⟨ret_bool (by simp; omega), rfl⟩

theorem digitByte_any (c : Nat) (hc : c < 256) (w : World) :
    Calls Try.prog 95 #[.int .u8 (c : Int)] w fun e w' => e = .returned (.bool (digB c)) ∧ w' = w := by
  rcases digB_cases c with ⟨h1, h⟩ | ⟨h0, h1, h⟩ | ⟨h0, h1, h⟩
  all_goals
    rw [h]
    clear h
    go_enter Try.func95, Try.ntmps95
    go_wp2
    go_ret
    first | exact ⟨rfl, rfl⟩ | exact ⟨ret_bool (by simp; omega), rfl⟩

theorem l1Digit_any (c : Nat) (hc : c < 256) (w : World) :
    Calls Try.prog 93 #[.int .u8 (c : Int)] w fun e w' => e = .returned (.bool (digB c)) ∧ w' = w := by
  rcases digB_cases c with ⟨h1, h⟩ | ⟨h0, h1, h⟩ | ⟨h0, h1, h⟩
  all_goals
    rw [h]
    clear h
    go_enter Try.func93, Try.ntmps93
    go_wp2
    go_ret
    first | exact ⟨rfl, rfl⟩ | exact ⟨ret_bool (by simp; omega), rfl⟩

/-- A text that is too short or too long is no name. -/
theorem nmOk_size {s : ByteArray} (h : s.size < 1 ∨ 12 < s.size) : nmOk s = false := by
  unfold nmOk
  rcases h with h | h
  · rw [show decide (1 ≤ s.size) = false from decide_eq_false (by omega)]; rfl
  · rw [show decide (s.size ≤ 12) = false from decide_eq_false (by omega)]; simp
theorem nmOk_first {s : ByteArray} (h : letB (bn s 0) = false) : nmOk s = false := by simp [nmOk, h]
theorem nmOk_bad {s : ByteArray} {i : Nat} (hi : i < s.size) (h : nmB (bn s i) = false) : nmOk s = false := by
  have : allNm s = false := by
    rw [Bool.eq_false_iff]; intro h'
    have := (allNm_iff s).1 h' i hi
    rw [h] at this; cases this
  simp [nmOk, this]
theorem nmOk_all {s : ByteArray} (h1 : 1 ≤ s.size) (h2 : s.size ≤ 12) (h3 : letB (bn s 0) = true) (h : ∀ i, i < s.size → nmB (bn s i) = true) : nmOk s = true := by
  have := (allNm_iff s).2 h
  simp [nmOk, this, h1, h2, h3]

theorem nameOk_any (s : ByteArray) (hs : s.size ≤ 9223372036854775807) (w : World) :
    Calls Try.prog 76 #[.string s] w fun e w' => e = .returned (.bool (nmOk s)) ∧ w' = w := by
  have HB : Hid _ := get_bn s
  by_cases h1 : s.size < 1
  · rw [nmOk_size (.inl h1)]
    go_enter Try.func76, Try.ntmps76
    go_wp2_with fail
    go_ret
    exact ⟨rfl, rfl⟩
  by_cases h2 : 12 < s.size
  · rw [nmOk_size (.inr h2)]
    go_enter Try.func76, Try.ntmps76
    go_wp2_with fail
    go_ret
    exact ⟨rfl, rfl⟩
  have h0 : 0 < s.size := by omega
  have e1 := HB.out 0 h0
  have hL : ∀ u, Calls Try.prog 94 #[.int .u8 ((s[0]'h0).toNat : Int)] u fun e w' => e = .returned (.bool (letB (bn s 0))) ∧ w' = u := fun u => by
    have := letterByte_any (bn s 0) (bn_lt s 0) u
    rwa [← e1] at this ⊢
  have HL := kide hL
  clear hL e1
  by_cases h3 : letB (bn s 0) = true
  · rw [h3] at HL
    have HO := kide (fun h => nmOk_all (s := s) (by omega) (by omega) h3 h)
    have HN := kide (fun i hi h => nmOk_bad (s := s) (i := i) hi h)
    generalize nmOk s = R at *
    clear h3
    go_enter Try.func76, Try.ntmps76
    go_wp2_with (go_at_call 94; refine Calls.mono (HL.out _) ?_; rintro e w ⟨rfl, rfl⟩)
    clear HL
    go_loop [20] (fun q => ∃ k : Nat, k ≤ s.size ∧ q = .int .i64 (k : Int) ∧ ∀ i, i < k → nmB (bn s i) = true) (fun q => s.size - (intOf q).toNat)
    case atStart => exact ⟨0, Nat.zero_le _, rfl, fun i h => by omega⟩
    case round =>
      obtain ⟨k, hk2, rfl, hr⟩ := hrel
      have HK : Hid _ := hr
      clear hr
      by_cases hlt : k < s.size
      · have e1 := HB.out k hlt
        have hA : ∀ u, Calls Try.prog 94 #[.int .u8 ((s[k]'hlt).toNat : Int)] u fun e w' => e = .returned (.bool (letB (bn s k))) ∧ w' = u := fun u => by
          have := letterByte_any (bn s k) (bn_lt s k) u
          rwa [← e1] at this ⊢
        have hD : ∀ u, Calls Try.prog 95 #[.int .u8 ((s[k]'hlt).toNat : Int)] u fun e w' => e = .returned (.bool (digB (bn s k))) ∧ w' = u := fun u => by
          have := digitByte_any (bn s k) (bn_lt s k) u
          rwa [← e1] at this ⊢
        have HA := kide hA
        have HD := kide hD
        have H1 : Hid (letB (bn s k) = true → nmB (bn s k) = true) := fun h => by simp [nmB, h]
        have H2 : Hid (digB (bn s k) = true → nmB (bn s k) = true) := fun h => by simp [nmB, h]
        have H3 : Hid (letB (bn s k) = false → digB (bn s k) = false → R = false) := fun h h' => HN.out k hlt (by simp [nmB, h, h'])
        clear hA hD e1
        generalize letB (bn s k) = r at *
        generalize digB (bn s k) = r2 at *
        have hki : (k : Int) < (s.size : Int) := by omega
        cases r with
        | true =>
          go_wp2_with (go_at_call 94; refine Calls.mono (HA.out _) ?_; rintro e w ⟨rfl, rfl⟩)
          go_round
          case rel =>
            refine ⟨k + 1, by omega, by go_num, fun i hi => ?_⟩
            by_cases hik : i = k
            · rw [hik]; exact H1.out (by simp)
            · exact HK.out i (by omega)
          case measure => simp [intOf]; omega
        | false =>
          cases r2 with
          | true =>
            go_wp2_with (first | (go_at_call 94; refine Calls.mono (HA.out _) ?_; rintro e w ⟨rfl, rfl⟩) | (go_at_call 95; refine Calls.mono (HD.out _) ?_; rintro e w ⟨rfl, rfl⟩))
            go_round
            case rel =>
              refine ⟨k + 1, by omega, by go_num, fun i hi => ?_⟩
              by_cases hik : i = k
              · rw [hik]; exact H2.out (by simp)
              · exact HK.out i (by omega)
            case measure => simp [intOf]; omega
          | false =>
            go_wp2_with (first | (go_at_call 94; refine Calls.mono (HA.out _) ?_; rintro e w ⟨rfl, rfl⟩) | (go_at_call 95; refine Calls.mono (HD.out _) ?_; rintro e w ⟨rfl, rfl⟩))
            go_ret
            exact ⟨ret_bool (H3.out (by simp) (by simp)).symm, rfl⟩
      · go_wp2_with fail
        go_ret
        exact ⟨ret_bool (HO.out fun i hi => HK.out i (by omega)).symm, rfl⟩
  · rw [Bool.not_eq_true] at h3
    rw [h3] at HL
    rw [nmOk_first h3]
    clear h3
    go_enter Try.func76, Try.ntmps76
    go_wp2_with (go_at_call 94; refine Calls.mono (HL.out _) ?_; rintro e w1 ⟨rfl, rfl⟩)
    go_ret
    exact ⟨rfl, rfl⟩

theorem l1Name_any (s : ByteArray) (hs : s.size ≤ 9223372036854775807) (w : World) :
    Calls Try.prog 72 #[.string s] w fun e w' => e = .returned (.bool (nmOk s)) ∧ w' = w := by
  have HB : Hid _ := get_bn s
  by_cases h1 : s.size < 1
  · rw [nmOk_size (.inl h1)]
    go_enter Try.func72, Try.ntmps72
    go_wp2_with fail
    go_ret
    exact ⟨rfl, rfl⟩
  by_cases h2 : 12 < s.size
  · rw [nmOk_size (.inr h2)]
    go_enter Try.func72, Try.ntmps72
    go_wp2_with fail
    go_ret
    exact ⟨rfl, rfl⟩
  have h0 : 0 < s.size := by omega
  have e1 := HB.out 0 h0
  have hL : ∀ u, Calls Try.prog 93 #[.int .u8 ((s[0]'h0).toNat : Int)] u fun e w' => e = .returned (.bool (digB (bn s 0))) ∧ w' = u := fun u => by
    have := l1Digit_any (bn s 0) (bn_lt s 0) u
    rwa [← e1] at this ⊢
  have HL := kide hL
  clear hL e1
  by_cases h3 : digB (bn s 0) = true
  · rw [h3] at HL
    have h4 : letB (bn s 0) = false := by
      simp [digB] at h3
      simp [letB]; omega
    rw [nmOk_first h4]
    clear h3 h4
    go_enter Try.func72, Try.ntmps72
    go_wp2_with (go_at_call 93; refine Calls.mono (HL.out _) ?_; rintro e w1 ⟨rfl, rfl⟩)
    go_ret
    exact ⟨rfl, rfl⟩
  · rw [Bool.not_eq_true] at h3
    rw [h3] at HL
    have HO : Hid ((∀ i, i < s.size → nmB (bn s i) = true) → nmOk s = true) := fun h => nmOk_all (s := s) (by omega) (by omega) (by have := h 0 h0; simpa [nmB, h3] using this) h
    have HN := kide (fun i hi h => nmOk_bad (s := s) (i := i) hi h)
    generalize nmOk s = R at *
    clear h3
    go_enter Try.func72, Try.ntmps72
    go_wp2_with (go_at_call 93; refine Calls.mono (HL.out _) ?_; rintro e w ⟨rfl, rfl⟩)
    clear HL
    go_loop [3] (fun q => ∃ k : Nat, k ≤ s.size ∧ q = .int .i64 (k : Int) ∧ ∀ i, i < k → nmB (bn s i) = true) (fun q => s.size - (intOf q).toNat)
    case atStart => exact ⟨0, Nat.zero_le _, rfl, fun i h => by omega⟩
    case round =>
      obtain ⟨k, hk2, rfl, hr⟩ := hrel
      have HK : Hid _ := hr
      clear hr
      by_cases hlt : k < s.size
      · have e1 := HB.out k hlt
        have hD : ∀ u, Calls Try.prog 93 #[.int .u8 ((s[k]'hlt).toNat : Int)] u fun e w' => e = .returned (.bool (digB (bn s k))) ∧ w' = u := fun u => by
          have := l1Digit_any (bn s k) (bn_lt s k) u
          rwa [← e1] at this ⊢
        have HD := kide hD
        have hci := letB_cases (bn s k)
        rw [← e1] at hci
        have H1 : Hid (letB (bn s k) = true → nmB (bn s k) = true) := fun h => by simp [nmB, h]
        have H2 : Hid (digB (bn s k) = true → nmB (bn s k) = true) := fun h => by simp [nmB, h]
        have H3 : Hid (letB (bn s k) = false → digB (bn s k) = false → R = false) := fun h h' => HN.out k hlt (by simp [nmB, h, h'])
        have E1 := kide e1
        clear hD e1
        generalize digB (bn s k) = r2 at *
        have hki : (k : Int) < (s.size : Int) := by omega
        cases r2 with
        | true =>
          go_wp2_with (go_at_call 93; refine Calls.mono (HD.out _) ?_; rintro e w ⟨rfl, rfl⟩)
          go_round
          case rel =>
            refine ⟨k + 1, by omega, by go_num, fun i hi => ?_⟩
            by_cases hik : i = k
            · rw [hik]; exact H2.out (by simp)
            · exact HK.out i (by omega)
          case measure => simp [intOf]; omega
        | false =>
          rcases hci with ⟨h1, h⟩ | ⟨h0, h1, h⟩ | ⟨h0, h1, h⟩
          · have H := kide (H3.out (by rw [← E1.out]; exact h) (by simp))
            clear h H1 H3
            go_wp2_with (go_at_call 93; refine Calls.mono (HD.out _) ?_; rintro e w ⟨rfl, rfl⟩)
            go_ret
            exact ⟨ret_bool H.out.symm, rfl⟩
          · have H := kide (H3.out (by rw [← E1.out]; exact h) (by simp))
            clear h H1 H3
            go_wp2_with (go_at_call 93; refine Calls.mono (HD.out _) ?_; rintro e w ⟨rfl, rfl⟩)
            go_ret
            exact ⟨ret_bool H.out.symm, rfl⟩
          · have H := kide (H1.out (by rw [← E1.out]; exact h))
            clear h H1 H3
            go_wp2_with (go_at_call 93; refine Calls.mono (HD.out _) ?_; rintro e w ⟨rfl, rfl⟩)
            go_round
            case rel =>
              refine ⟨k + 1, by omega, by go_num, fun i hi => ?_⟩
              by_cases hik : i = k
              · rw [hik]; exact H.out
              · exact HK.out i (by omega)
            case measure => simp [intOf]; omega
      · go_wp2_with fail
        go_ret
        exact ⟨ret_bool (HO.out fun i hi => HK.out i (by omega)).symm, rfl⟩

end Go.Proofs.Ytfanddpncipkkaa

/- What placesOf answers: a map that holds each name once. -/
namespace Go.Proofs.Ytfanddpncipkkaa
set_option linter.unusedVariables false
set_option linter.unusedSimpArgs false
open Go.RowKit Go.WideMaps Go.Maps

theorem mlaw : Keyed Try.prog 9 := string_keyed Try.underlying9

theorem make_places (k : IntKind) (n : Int) (w : World) : (Instr.makeMap 114 (some (.int k n))).run Try.prog w = .ok (.map (some w.heap.size)) (w.alloc (.map #[] 0)) := by
  have h := Try.underlying114
  simp [Instr.makeMap, go_sem, h]

/-- The block g is a map that holds the names of ds, each once, with its place. -/
def PlAt (w : World) (g : Nat) (l : List ByteArray) : Prop := ∃ D : DataW Unit, w.ownsMap Try.prog 9 (plainElem Try.prog 2) g l.length D ∧ Pl D l

set_option maxRecDepth 100000 in
theorem placesOf_any (a : Option Addr) (c : Nat) (ds : List Dc) (w : World) (hr : RdD w a ds) (hn : ∀ d ∈ ds, d.1.size ≤ 1048576) :
    Calls Try.prog 79 #[.slice a ds.length c] w fun e w' => e = .returned (.map (some w.heap.size)) ∧ PlAt w' w.heap.size (ds.map Prod.fst) ∧ Below w.heap.size w w' := by
  have hlen := hr.1
  have hmm := make_places
  go_enter Try.func79, Try.ntmps79
  go_wp2_with fail
  go_loopw [11] (fun i wr => ∃ k : Nat, k ≤ ds.length ∧ i = .int .i64 (k : Int) ∧ PlAt wr w.heap.size ((ds.take k).map Prod.fst) ∧ Below w.heap.size w wr) (fun i _ => ds.length - (intOf i).toNat)
  case atStart => exact ⟨0, Nat.zero_le _, rfl, ⟨_, World.ownsMap_made _ _ _ _, Pl.start⟩, (Below.refl _ _).alloc (Nat.le_refl _) _⟩
  case round =>
    obtain ⟨k, hk, rfl, ⟨D, hown, hpl⟩, hbel⟩ := hrel
    clear hmm
    by_cases hlt : k < ds.length
    · obtain ⟨-, -, h | ⟨b, o, rfl, hc⟩⟩ := hr
      · subst h; simp at hlt
      obtain ⟨⟨t, x⟩, hh⟩ : ∃ x, ds[k] = x := ⟨_, rfl⟩
      have gx : ds[k]? = some (t, x) := by rw [List.getElem?_eq_getElem hlt, hh]
      obtain ⟨p0, p1⟩ := (hc k _ gx).later hbel
      simp only [] at p0 p1
      have hts := hn _ (List.mem_of_getElem? gx)
      simp only [] at hts
      have hkey : keyOf Try.prog 9 (.string t) = some (kyOf t) := keyOf_string_mk Try.underlying9 (by unfold maxLen; omega)
      have hml : ((ds.take k).map Prod.fst).length = k := by simp; omega
      rw [hml] at hown
      have hst := hpl.step t trivial
      rw [hml] at hst
      have HST := kide hst
      have HTK : Hid ((ds.take (k + 1)).map Prod.fst = (ds.take k).map Prod.fst ++ [t]) := by
        show _ = _
        rw [List.take_add_one, gx]; simp
      have HB : Hid _ := hbel
      have hsz : w.heap.size < wr.heap.size := hown.lt
      have HOW := kide hown
      have i0 : (k : Int) < (ds.length : Int) := by omega
      clear hc hh gx hbel hpl hst hml hn
      go_wp2_with (first
        | (at_mapUpdate; refine wpList_mapUpdate_own _ rfl _ _ _ 114 rfl 9 2 mlaw Try.underlying114 _ w.heap.size k _ rfl (HOW.out.alloc _) (by unfold maxLen; omega) _ _ _ rfl rfl hkey _ [] (plainElem_int Try.underlying2 (WalkArith.wf_i64 (by omega))) ?_)
        | fail)
      intro w1 hown1 hg1
      have HR1 : Hid _ := hown1
      have HR2 := kide ((HB.out.alloc HB.out.size _).grown hg1 (by have := HB.out.size; simp; omega) (fun j hj => by cases hj; exact Nat.le_refl _))
      clear hown1 hg1 hown
      go_wp2_with fail
      go_roundw
      case rel =>
        refine ⟨k + 1, by omega, by go_num, ⟨_, ?_, by rw [HTK.out]; exact HST.out⟩, HR2.out⟩
        have h := HR1.out
        have e : ((ds.take (k + 1)).map Prod.fst).length = k + 1 := by simp; omega
        rw [e]; exact h
      case measure => simp [intOf]; omega
    · have e : k = ds.length := by omega
      have HB : Hid _ := hbel
      rw [e, List.take_length] at hown hpl
      have HP : Hid (PlAt wr w.heap.size (ds.map Prod.fst)) := ⟨D, hown, hpl⟩
      clear hbel hown hpl e
      go_wp2_with fail
      go_ret
      exact ⟨rfl, HP.out, HB.out⟩

end Go.Proofs.Ytfanddpncipkkaa
