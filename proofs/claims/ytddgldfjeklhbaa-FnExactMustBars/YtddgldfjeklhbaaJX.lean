/- Rows of splits copied. -/
import Derived.Test.YtddgldfjeklhbaaJW
namespace Go.Proofs.Ytddgldfjeklhbaa
set_option linter.unusedVariables false
set_option linter.unusedSimpArgs false
open Go.RowKit

theorem Try.infoSplit : (Try.prog.info? 48).map (fun i => (i.zero, i.size, i.bytes)) = some (some (.agg #[.int .i64 0, .int .i64 0, .slice none 0 0]), 3, 40) := by kernel_rfl

theorem make_splits (n : Nat) (hn : n ≤ 1048576) (kl kc : IntKind) (w : World) :
    (Instr.makeSlice 26 (.int kl (n : Int)) (.int kc (n : Int))).run Try.prog w = .ok (.slice (some ⟨w.heap.size, 0, none⟩) n n) (w.alloc (.cells (madeCells #[.int .i64 0, .int .i64 0, .slice none 0 0] (n * 3)) 48)) := by
  obtain ⟨i0, hi, hz0, hz1, hz2⟩ := info_parts Try.infoSplit
  have := run_make (P := Try.prog) w 26 48 i0 _ Try.underlying26 hi hz0 kl kc n n (by omega) (Int.le_refl _) (by rw [hz2]; omega) (by omega)
  rw [hz1] at this
  simp only [Int.toNat_natCast] at this
  exact this

/-- A copied split: its bars lie behind the row. -/
def PgOwn (w : World) (G : Nat) (f : Nat → Value) (j : Nat) (x : Pg) : Prop :=
  (f (j * 3) = .int .i64 x.id ∧ f (j * 3 + 1) = .int .i64 x.st ∧ f (j * 3 + 2) = .slice x.a x.bs.length x.c) ∧ RdBr w x.a x.bs ∧ FarB (G + 1) x.a x.bs

theorem PgOwn.later {w w' : World} {G j : Nat} {f : Nat → Value} {x : Pg} (h : PgOwn w G f j x) (hb : Below w.heap.size w w') : PgOwn w' G f j x := ⟨h.1, h.2.1.later hb, h.2.2⟩

theorem PgOwn.row {w : World} {G j k : Nat} {f f' : Nat → Value} {x : Pg} (h : PgOwn w G f j x) (hf : ∀ i, i < k * 3 → f' i = f i) (hk : j < k) : PgOwn w G f' j x := by
  obtain ⟨⟨h0, h1, h2⟩, h3, h4⟩ := h
  exact ⟨⟨by rw [hf _ (by omega)]; exact h0, by rw [hf _ (by omega)]; exact h1, by rw [hf _ (by omega)]; exact h2⟩, h3, h4⟩

theorem PgOwn.set {w : World} {G j : Nat} {f : Nat → Value} {x : Pg} (h : PgOwn w G f j x) (o : Nat) (v : Value) : PgOwn (w.setCell ⟨G, o, none⟩ v) G f j x := ⟨h.1, h.2.1.set h.2.2 (by simp) v, h.2.2⟩

set_option maxHeartbeats 1000000 in
theorem toSplitS_any (a : Option Addr) (c : Nat) (xs : List Pg) (w : World) (hr : RdP w a xs) :
    Calls Try.prog 7 #[.slice a xs.length c] w fun e w' => ∃ ms : List Pg, e = .returned (.slice (some ⟨w.heap.size, 0, none⟩) xs.length xs.length) ∧ ms.map Pg.ct = xs.map Pg.ct ∧ RdP w' (some ⟨w.heap.size, 0, none⟩) ms ∧ Below w.heap.size w w' := by
  have hlen := hr.1
  have hmk := make_splits xs.length hlen
  go_enter Try.func7, Try.ntmps7
  go_wp2_with fail
  have hrow := krow (heap_alloc_new w (.cells (madeCells #[.int .i64 0, .int .i64 0, .slice none 0 0] (xs.length * 3)) 48))
  rw [size_madeCells] at hrow
  have hb0 : Below w.heap.size w (w.alloc (.cells (madeCells #[.int .i64 0, .int .i64 0, .slice none 0 0] (xs.length * 3)) 48)) := (Below.refl _ _).alloc (Nat.le_refl _) _
  have hs0 : w.heap.size < (w.alloc (.cells (madeCells #[.int .i64 0, .int .i64 0, .slice none 0 0] (xs.length * 3)) 48)).heap.size := by simp
  generalize (w.alloc (.cells (madeCells #[.int .i64 0, .int .i64 0, .slice none 0 0] (xs.length * 3)) 48)) = w0 at *
  go_loopw [4] (fun i wr => ∃ (k : Nat) (f : Nat → Value) (ms : List Pg), k ≤ xs.length ∧ i = .int .i64 k ∧ wr.rowIs w.heap.size 48 (xs.length * 3) f ∧ ms.length = k ∧ ms.map Pg.ct = (xs.take k).map Pg.ct ∧ (∀ j x, ms[j]? = some x → PgOwn wr w.heap.size f j x) ∧ Below w.heap.size w wr ∧ w.heap.size < wr.heap.size) (fun i _ => xs.length - (intOf i).toNat)
  case atStart => exact ⟨0, _, [], Nat.zero_le _, rfl, hrow, rfl, rfl, fun j x h => by simp at h, hb0, hs0⟩
  case round =>
    obtain ⟨k, f, ms, hk, rfl, hrw, hml, hmc, hms, hbel, hsz⟩ := hrel
    clear hrow hb0 hs0
    by_cases hlt : k < xs.length
    · obtain ⟨-, h | ⟨b, o, rfl, hc⟩⟩ := hr
      · subst h; simp at hlt
      obtain ⟨⟨id, st, bs, a1, c1⟩, hx⟩ : ∃ x, xs[k] = x := ⟨_, rfl⟩
      have gx : xs[k]? = some ⟨id, st, bs, a1, c1⟩ := by rw [List.getElem?_eq_getElem hlt, hx]
      obtain ⟨⟨p0, p1, p2⟩, pr, -⟩ := (hc k _ gx).later hbel
      simp only [] at p0 p1 p2 pr
      clear hx
      have HTO := kide (toSplit_far id st a1 c1 bs wr pr)
      have GX : Hid _ := gx
      have HML : Hid _ := hml
      have HMC : Hid _ := hmc
      have HMS : Hid _ := hms
      have HR : Hid _ := hrw
      have HB : Hid _ := hbel
      have i0 : (k : Int) < (xs.length : Int) := by omega
      clear gx hml hmc hms hc hrw hbel hmk pr
      generalize hbl : bs.length = bl at *
      have HBL := kide hbl
      clear hbl
      go_wp2_with fail
      refine Calls.mono HTO.out ?_
      rintro e w1 ⟨g, m1, rfl, hm1, hrd1, hfar1, hb1⟩
      have hr1 := World.rowIs.of_block HR.out (hb1.block _ hsz)
      have q0 := hr1.cell (i := k * 3) (by omega)
      have q1 := hr1.cell (i := k * 3 + 1) (by omega)
      have q2 := hr1.cell (i := k * 3 + 2) (by omega)
      have r0 := hr1.frozen (k * 3)
      have r1 := hr1.frozen (k * 3 + 1)
      have r2 := hr1.frozen (k * 3 + 2)
      have HR1 : Hid _ := hr1
      have HM1 := kide hm1
      have HD1 := kide hrd1
      have HF1 := kide hfar1
      have HB1 := kide hb1
      clear hr1 hm1 hrd1 hfar1 hb1
      go_wp2_with fail
      go_roundw
      case rel =>
        have hl := HML.out
        have hm1l : m1.length = bl := by rw [← HBL.out]; simpa using congrArg List.length HM1.out
        refine ⟨k + 1, _, ms ++ [⟨id, st, m1, some ⟨g, 0, none⟩, bl⟩], by omega, by go_num, World.rowIs.set (World.rowIs.set (World.rowIs.set HR1.out (k * 3) (.int .i64 id)) (k * 3 + 1) (.int .i64 st)) (k * 3 + 2) (.slice (some ⟨g, 0, none⟩) bl bl), by simp [hl], ?_, fun j x hj => ?_, ?_, ?_⟩
        · have h := HMC.out
          rw [List.map_append, h, List.take_add_one, GX.out, List.map_append]
          simp [Pg.ct, HM1.out]
        · rw [List.getElem?_append] at hj
          split at hj
          · refine ((((HMS.out j x hj).later HB1.out).set _ _).set _ _).set _ _ |>.row (k := k) (fun i hi => ?_) (by omega)
            show (if _ then _ else _) = _
            rw [if_neg (by omega), if_neg (by omega), if_neg (by omega)]
          · have hj2 : j - ms.length = 0 := by
              have := (List.getElem?_eq_some_iff.1 hj).1
              simp at this; exact this
            rw [hj2] at hj
            simp at hj
            subst hj
            have hjk : j = k := by omega
            subst hjk
            refine ⟨⟨by simp, by simp, by simp [hm1l]⟩, ?_, HF1.out.mono (by omega)⟩
            have hF : FarB (w.heap.size + 1) (some ⟨g, 0, none⟩) m1 := HF1.out.mono (by omega)
            exact (((HD1.out.set hF (by simp) _).set hF (by simp) _).set hF (by simp) _)
        · exact (((HB.out.trans (HB1.out.mono HB.out.size)).setCell (Nat.le_refl _) _).setCell (Nat.le_refl _) _).setCell (Nat.le_refl _) _
        · have := HB1.out.size
          simp; omega
      case measure => simp [intOf]; omega
    · have e : k = xs.length := by omega
      have HM : Hid _ := hml
      have HC : Hid _ := hmc
      have HS : Hid _ := hms
      have HR : Hid _ := hrw
      have HB : Hid _ := hbel
      have HE : Hid _ := e
      clear hml hmc hms hrw hbel e hmk
      go_wp2_with fail
      go_ret
      refine ⟨ms, rfl, ?_, ⟨by rw [HM.out]; omega, .inr ⟨_, 0, rfl, fun i x hi => ?_⟩⟩, HB.out⟩
      · have h := HC.out
        rw [HE.out, List.take_length] at h
        exact h
      · obtain ⟨⟨h0, h1, h2⟩, h3, h4⟩ := HS.out i x hi
        have hik : i < k := by have := (List.getElem?_eq_some_iff.1 hi).1; rw [HM.out] at this; exact this
        have hct : ∃ y, xs[i]? = some y ∧ y.ct = x.ct := by
          have h := HC.out
          rw [HE.out, List.take_length] at h
          have h' : (ms.map Pg.ct)[i]? = (xs.map Pg.ct)[i]? := by rw [h]
          rw [List.getElem?_map, List.getElem?_map, hi, Option.map_some] at h'
          cases hy : xs[i]? with
          | none => rw [hy] at h'; cases h'
          | some y => rw [hy] at h'; simp at h'; exact ⟨y, rfl, h'.symm⟩
        obtain ⟨y, hy, hyx⟩ := hct
        obtain ⟨-, hn | ⟨b, o, -, hc⟩⟩ := hr
        · subst hn; simp at hy
        obtain ⟨-, -, l3⟩ := hc i y hy
        have e1 : y.id = x.id := congrArg Pc.id hyx
        have e2 : y.st = x.st := congrArg Pc.st hyx
        rw [e1, e2] at l3
        refine ⟨⟨?_, ?_, ?_⟩, h3, l3⟩
        · rw [Nat.zero_add]; exact (World.rowIs.cell HR.out (by omega)).trans (congrArg some h0)
        · rw [Nat.zero_add]; exact (World.rowIs.cell HR.out (by omega)).trans (congrArg some h1)
        · rw [Nat.zero_add]; exact (World.rowIs.cell HR.out (by omega)).trans (congrArg some h2)

end Go.Proofs.Ytddgldfjeklhbaa
