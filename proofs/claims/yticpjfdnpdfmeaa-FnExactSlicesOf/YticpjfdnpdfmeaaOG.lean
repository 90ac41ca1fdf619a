/- Cuts marked: only what lies between two blocks turns. -/
import Derived.Test.YticpjfdnpdfmeaaOF
import Derived.Test.YticpjfdnpdfmeaaNC
namespace Go.Proofs.Yticpjfdnpdfmeaa
set_option linter.unusedVariables false
set_option linter.unusedSimpArgs false
open Go.RowKit

/-- Outside of the blocks B1 .. B2 - 1 nothing has turned. -/
def Out (B1 B2 : Nat) (w w' : World) : Prop := w'.os = w.os ∧ w'.tape = w.tape ∧ w'.output = w.output ∧ w.heap.size ≤ w'.heap.size ∧ ∀ k, k < w.heap.size → (k < B1 ∨ B2 ≤ k) → w'.heap[k]? = w.heap[k]?
theorem Out.refl (B1 B2 : Nat) (w : World) : Out B1 B2 w w := ⟨rfl, rfl, rfl, Nat.le_refl _, fun _ _ _ => rfl⟩
theorem Out.trans {B1 B2 : Nat} {w w1 w2 : World} (h : Out B1 B2 w w1) (h' : Out B1 B2 w1 w2) : Out B1 B2 w w2 :=
  ⟨h'.1.trans h.1, h'.2.1.trans h.2.1, h'.2.2.1.trans h.2.2.1, Nat.le_trans h.2.2.2.1 h'.2.2.2.1, fun k hk ho => (h'.2.2.2.2 k (Nat.lt_of_lt_of_le hk h.2.2.2.1) ho).trans (h.2.2.2.2 k hk ho)⟩
theorem Out.grown {B1 B2 g : Nat} {w w' : World} (h : w.grownBy w' (some g)) (h1 : B1 ≤ g) (h2 : g < B2) : Out B1 B2 w w' :=
  ⟨h.os, h.tape, h.output, h.size, fun k hk ho => h.block k hk (fun e => by cases e; omega)⟩
theorem Out.below {B1 B2 : Nat} {w w' : World} (h : Below w.heap.size w w') : Out B1 B2 w w' := ⟨h.os, h.tape, h.output, h.size, fun k hk _ => h.block k hk⟩
theorem Out.cell {B1 B2 : Nat} {w w' : World} (h : Out B1 B2 w w') {b o : Nat} (hb : b < w.heap.size) (ho : b < B1 ∨ B2 ≤ b) : w'.cell? ⟨b, o, none⟩ = w.cell? ⟨b, o, none⟩ := World.cell?_of_block (w := w) (a := ⟨b, o, none⟩) (h.2.2.2.2 b hb ho)

/-- A row of numbers that may be written, between two blocks. -/
def WrI (w : World) (B1 B2 : Nat) (x : Iw) : Prop := x.ks = [] ∨ ∃ g zs, x.a = some ⟨g, 0, none⟩ ∧ B1 ≤ g ∧ g < B2 ∧ OwnI w g zs ∧ zs.length = x.ks.length

theorem markInt64S_any (g c n k : Nat) (zs : List Int) (w : World) (ho : OwnI w g zs) (hz : zs.length = n) (hn : n ≤ 1048576) (hk : k ≤ 2199023255552) :
    Calls Try.prog 75 #[.slice (some ⟨g, 0, none⟩) n c, .int .i64 (k : Int)] w fun e w' => e = .returned (.int .i64 ((k + n : Nat) : Int)) ∧ (∃ zs', OwnI w' g zs' ∧ zs'.length = n) ∧ w.grownBy w' (some g) := by
  go_enter Try.func75, Try.ntmps75
  go_wp2_with fail
  go_loopw [1, 5] (fun q i wr => ∃ (j : Nat) (ys : List Int), j ≤ n ∧ i = .int .i64 (j : Int) ∧ q = .int .i64 ((k + j : Nat) : Int) ∧ OwnI wr g ys ∧ ys.length = n ∧ w.grownBy wr (some g)) (fun _ i _ => n - (intOf i).toNat)
  case atStart => exact ⟨0, zs, Nat.zero_le _, rfl, by simp, ho, hz, ⟨rfl, rfl, rfl, Nat.le_refl _, fun _ _ _ => rfl⟩⟩
  case round =>
    obtain ⟨j, ys, hj, rfl, rfl, hown, hl, hg⟩ := hrel
    have HG := kide hg
    by_cases hlt : j < n
    · have q0 := hown.cell (i := j) (by omega)
      have r0 := hown.free j
      generalize ys.getD j 0 = y0 at q0
      generalize hK : k + j = K at *
      have HK := kide hK
      have hKb : K ≤ 4398046511104 := by omega
      have i0 : (j : Int) < (n : Int) := by omega
      have HO := kide hown
      have HL := kide hl
      clear hown hl hg hK
      go_wp2_with fail
      go_roundw
      case rel => exact ⟨j + 1, ys.set j (K : Int), by omega, by go_num, by rw [show k + (j + 1) = K + 1 by have := HK.out; omega]; first | go_num | (simp; done), HO.out.put j _, by rw [List.length_set]; exact HL.out, grow_set HG.out j _⟩
      case measure => simp [intOf]; omega
    · have e : j = n := by omega
      subst e
      have HO := kide hown
      have HL := kide hl
      clear hown hl hg
      go_wp2_with fail
      go_ret
      exact ⟨rfl, ⟨ys, HO.out, HL.out⟩, HG.out⟩

theorem WrI.grown {w w' : World} {B1 B2 g : Nat} {x : Iw} (h : WrI w B1 B2 x) (hg : w.grownBy w' (some g)) {zs zs' : List Int} (ho : OwnI w g zs) (ho' : OwnI w' g zs') (hl : zs'.length = zs.length) : WrI w' B1 B2 x := by
  rcases h with h | ⟨g2, ys, h1, h2, h3, h4, h5⟩
  · exact .inl h
  · refine .inr ?_
    by_cases e : g2 = g
    · subst e
      have h6 : i64s ys = i64s zs := by
        have a1 := h4
        unfold OwnI at a1 ho
        rw [a1] at ho
        simp only [Option.some.injEq, Obj.cells.injEq, and_true] at ho
        exact ho
      have h7 : ys.length = zs.length := by rw [← i64s_size ys, ← i64s_size zs, h6]
      exact ⟨g2, zs', h1, h2, h3, ho', by omega⟩
    · refine ⟨g2, ys, h1, h2, h3, ?_, h5⟩
      unfold OwnI
      rw [hg.block g2 h4.lt (fun e' => e (by cases e'; rfl))]
      exact h4

theorem markInt64SS_any (g c n k B1 B2 : Nat) (xs : List Iw) (w : World) (f : Nat → Value) (hr : w.rowIs g 51 n f) (hf : ∀ i x, xs[i]? = some x → f i = .slice x.a x.ks.length x.c) (hx : ∀ x ∈ xs, WrI w B1 B2 x ∧ x.ks.length ≤ 1048576) (hn : xs.length = n) (hn2 : n ≤ 1048576) (hk : k ≤ 4194304) :
    Calls Try.prog 51 #[.slice (some ⟨g, 0, none⟩) n c, .int .i64 (k : Int)] w fun e w' => (∃ r : Int, 0 ≤ r ∧ e = .returned (.int .i64 r)) ∧ Out B1 B2 w w' := by
  have HN := kide hn
  have HF := kide hf
  clear hn hf
  go_enter Try.func51, Try.ntmps51
  go_wp2_with fail
  go_loopw [1, 5] (fun q i wr => ∃ (j K : Nat), j ≤ n ∧ i = .int .i64 (j : Int) ∧ q = .int .i64 (K : Int) ∧ K ≤ 4194304 + j * 1048576 ∧ wr.rowIs g 51 n f ∧ (∀ x ∈ xs, WrI wr B1 B2 x ∧ x.ks.length ≤ 1048576) ∧ Out B1 B2 w wr) (fun _ i _ => n - (intOf i).toNat)
  case atStart => exact ⟨0, k, Nat.zero_le _, rfl, rfl, by omega, hr, hx, Out.refl _ _ _⟩
  case round =>
    obtain ⟨j, K, hj, rfl, rfl, hK, hrow, hxs, hout⟩ := hrel
    have HO := kide hout
    have HRW := kide hrow
    have HXS := kide hxs
    by_cases hlt : j < n
    · have q0 := hrow.cell (i := j) (by omega)
      obtain ⟨⟨a1, c1, ks⟩, gx⟩ : ∃ x, xs[j]? = some x := ⟨xs[j]'(by rw [HN.out]; exact hlt), List.getElem?_eq_getElem _⟩
      rw [HF.out j _ gx] at q0
      obtain ⟨hw, hkl⟩ := hxs _ (List.mem_of_getElem? gx)
      simp only [] at q0 hkl
      have hKb : K ≤ 2199023255552 := by
        have : j * 1048576 ≤ 1048576 * 1048576 := Nat.mul_le_mul_right _ (by omega)
        omega
      have i0 : (j : Int) < (n : Int) := by omega
      have hKn : ∀ m : Nat, m ≤ 1048576 → K + m ≤ 4194304 + (j + 1) * 1048576 := by
        intro m hm
        rw [Nat.succ_mul]
        omega
      have HKN := kide hKn
      have HWX := kide hw
      clear hout hrow hxs gx hw hK hKn
      rcases HWX.out with h | ⟨g2, zs, h1, h2, h3, h4, h5⟩
      · simp only [] at h
        subst h
        have HMN : Hid (∀ u, Calls Try.prog 75 #[.slice a1 0 c1, .int .i64 (K : Int)] u fun e w' => e = .returned (.int .i64 (K : Int)) ∧ w' = u) := fun u => by
          go_enter Try.func75, Try.ntmps75
          go_wp2_with fail
          refine wp_loop_rounds 1 ?_; rw [rounds_succ]
          go_wp2_with fail
          go_ret
          exact ⟨rfl, rfl⟩
        go_wp2_with fail
        refine Calls.mono (HMN.out _) ?_
        rintro e w1 ⟨rfl, rfl⟩
        go_wp2_with fail
        go_roundw
        case rel => exact ⟨j + 1, K, by omega, by go_num, rfl, by have := HKN.out 0 (by omega); omega, HRW.out, HXS.out, HO.out⟩
        case measure => simp [intOf]; omega
      · simp only [] at h1 h5
        subst h1
        have HMN := kide (markInt64S_any g2 c1 ks.length K zs wr h4 h5 hkl hKb)
        have H4 := kide h4
        have H5 := kide h5
        have hgne : g ≠ g2 := by
          intro e
          subst e
          obtain ⟨cc, hh, -⟩ := HRW.out
          have h4' := H4.out
          unfold OwnI at h4'
          rw [hh] at h4'
          cases h4'
        clear h4 h5
        go_wp2_with fail
        refine Calls.mono HMN.out ?_
        rintro e w1 ⟨rfl, ⟨zs', ho', hl'⟩, hg1⟩
        have HR1 : Hid (w1.rowIs g 51 n f) := World.rowIs.of_block HRW.out (hg1.block g (by obtain ⟨cc, hh, -⟩ := HRW.out; exact lt_of_block hh) (fun e => hgne (by cases e; rfl)))
        have HX1 : Hid (∀ x ∈ xs, WrI w1 B1 B2 x ∧ x.ks.length ≤ 1048576) := fun x hx => ⟨(HXS.out x hx).1.grown hg1 H4.out ho' (by have := H5.out; omega), (HXS.out x hx).2⟩
        have HO1 := kide (HO.out.trans (Out.grown hg1 h2 h3))
        clear ho' hl' hg1
        go_wp2_with fail
        go_roundw
        case rel => exact ⟨j + 1, K + ks.length, by omega, by go_num, rfl, HKN.out _ hkl, HR1.out, HX1.out, HO1.out⟩
        case measure => simp [intOf]; omega
    · have e : j = n := by omega
      clear hout hrow hxs
      go_wp2_with fail
      go_ret
      exact ⟨⟨_, by omega, rfl⟩, HO.out⟩

theorem toInt64SS_own (a : Option Addr) (c : Nat) (xs : List Iw) (w : World) (hr : RdII w a xs) :
    Calls Try.prog 47 #[.slice a xs.length c] w fun e w' => ∃ ms : List Iw, e = .returned (.slice (some ⟨w.heap.size, 0, none⟩) xs.length xs.length) ∧ ms.map Iw.ks = xs.map Iw.ks ∧ RdII w' (some ⟨w.heap.size, 0, none⟩) ms ∧ (∃ f, w'.rowIs w.heap.size 51 xs.length f ∧ ∀ i x, ms[i]? = some x → f i = .slice x.a x.ks.length x.c) ∧ (∀ x ∈ ms, WrI w' w.heap.size w'.heap.size x ∧ x.ks.length ≤ 1048576) ∧ Below w.heap.size w w' := by
  have hlen := hr.1
  have hmk := fun kl kc w => run_make_row' (P := Try.prog) 34 51 (.slice none 0 0) 24 Try.underlying34 Try.infoRow rfl kl kc xs.length (by omega) (by omega) w
  go_enter Try.func47, Try.ntmps47
  go_wp2_with fail
  have hrow := krow (heap_alloc_new w (.cells (madeCells #[.slice none 0 0] xs.length) 51))
  rw [size_madeCells] at hrow
  have hb0 : Below w.heap.size w (w.alloc (.cells (madeCells #[.slice none 0 0] xs.length) 51)) := (Below.refl _ _).alloc (Nat.le_refl _) _
  have hs0 : w.heap.size < (w.alloc (.cells (madeCells #[.slice none 0 0] xs.length) 51)).heap.size := by simp
  generalize (w.alloc (.cells (madeCells #[.slice none 0 0] xs.length) 51)) = w0 at *
  go_loopw [4] (fun i wr => ∃ (k : Nat) (f : Nat → Value) (ms : List Iw), k ≤ xs.length ∧ i = .int .i64 k ∧ wr.rowIs w.heap.size 51 xs.length f ∧ ms.length = k ∧ ms.map Iw.ks = (xs.take k).map Iw.ks ∧ (∀ j x, ms[j]? = some x → f j = .slice x.a x.ks.length x.c ∧ ∃ g, x.a = some ⟨g, 0, none⟩ ∧ w.heap.size < g ∧ OwnI wr g x.ks) ∧ Below w.heap.size w wr ∧ w.heap.size < wr.heap.size) (fun i _ => xs.length - (intOf i).toNat)
  case atStart => exact ⟨0, _, [], Nat.zero_le _, rfl, hrow, rfl, rfl, fun j x h => by simp at h, hb0, hs0⟩
  case round =>
    obtain ⟨k, f, ms, hk, rfl, hrw, hml, hmc, hms, hbel, hsz⟩ := hrel
    clear hrow hb0 hs0
    by_cases hlt : k < xs.length
    · obtain ⟨-, h | ⟨b, o, rfl, hc⟩⟩ := hr
      · subst h; simp at hlt
      obtain ⟨⟨a1, c1, k1⟩, hx⟩ : ∃ x, xs[k] = x := ⟨_, rfl⟩
      have gx : xs[k]? = some ⟨a1, c1, k1⟩ := by rw [List.getElem?_eq_getElem hlt, hx]
      obtain ⟨p1', p2'⟩ := (hc k _ gx).later hbel
      simp only [] at p1' p2'
      clear hx
      have GX : Hid _ := gx
      have HML : Hid _ := hml
      have HMC : Hid _ := hmc
      have HMS : Hid _ := hms
      have HR : Hid _ := hrw
      have HB : Hid _ := hbel
      have i0 : (k : Int) < (xs.length : Int) := by omega
      clear gx hml hmc hms hc hrw hbel hmk
      go_wp2_with fail
      refine (toInt64S_any _ _ _ _ p2').mono ?_
      rintro e w1 ⟨rfl, hown, hb1⟩
      have hr1 := World.rowIs.of_block HR.out (hb1.block _ hsz)
      have q1 := hr1.cell (i := k) (by omega)
      have r1 := hr1.frozen k
      have HR1 : Hid _ := hr1
      clear hr1
      go_wp2_with fail
      go_roundw
      case rel =>
        have hl := HML.out
        refine ⟨k + 1, _, ms ++ [⟨some ⟨wr.heap.size, 0, none⟩, k1.length, k1⟩], by omega, by go_num, World.rowIs.set HR1.out k (.slice (some ⟨wr.heap.size, 0, none⟩) k1.length k1.length), by simp [hl], ?_, fun j x hj => ?_, ?_, ?_⟩
        · have h := HMC.out
          rw [List.map_append, h, List.take_add_one, GX.out, List.map_append]
          rfl
        · rw [List.getElem?_append] at hj
          split at hj
          · obtain ⟨h0, g, h2, h3, h4⟩ := HMS.out j x hj
            refine ⟨?_, g, h2, h3, (h4.later hb1 h4.lt).other (by simp; omega) _⟩
            show (if _ then _ else _) = _
            rw [if_neg (by omega)]; exact h0
          · have hj2 : j - ms.length = 0 := by
              have := (List.getElem?_eq_some_iff.1 hj).1
              simp at this; exact this
            rw [hj2] at hj
            simp at hj
            subst hj
            have hjk : j = k := by omega
            subst hjk
            exact ⟨by simp, _, rfl, hsz, hown.other (by simp; omega) _⟩
        · exact (HB.out.trans (hb1.mono HB.out.size)).setCell (Nat.le_refl _) _
        · have := hb1.size
          simp; omega
      case measure => simp [intOf]; omega
    · have e : k = xs.length := by omega
      have HM : Hid _ := hml
      have HC : Hid _ := hmc
      have HS : Hid _ := hms
      have HR : Hid _ := hrw
      have HB : Hid _ := hbel
      have HE : Hid _ := e
      clear hml hmc hms hrw hbel e hmk
      go_wp2_with fail
      go_ret
      refine ⟨ms, rfl, ?_, ⟨by rw [HM.out]; omega, .inr ⟨_, 0, rfl, fun i x hi => ?_⟩⟩, ⟨f, HR.out, fun i x hi => (HS.out i x hi).1⟩, fun x hx => ?_, HB.out⟩
      · have h := HC.out
        rw [HE.out, List.take_length] at h
        exact h
      · obtain ⟨h0, g, h2, h3, h4⟩ := HS.out i x hi
        have hik : i < k := by have := (List.getElem?_eq_some_iff.1 hi).1; rw [HM.out] at this; exact this
        have hct : ∃ y, xs[i]? = some y ∧ y.ks = x.ks := by
          have h := HC.out
          rw [HE.out, List.take_length] at h
          have h' : (ms.map Iw.ks)[i]? = (xs.map Iw.ks)[i]? := by rw [h]
          rw [List.getElem?_map, List.getElem?_map, hi, Option.map_some] at h'
          cases hy : xs[i]? with
          | none => rw [hy] at h'; cases h'
          | some y => rw [hy] at h'; simp at h'; exact ⟨y, rfl, h'.symm⟩
        obtain ⟨y, hy, hyx⟩ := hct
        obtain ⟨-, hn | ⟨b, o, -, hc⟩⟩ := hr
        · subst hn; simp at hy
        obtain ⟨-, ⟨l1, l2, -⟩⟩ := hc i y hy
        rw [hyx] at l1 l2
        refine ⟨?_, ?_⟩
        · rw [Nat.zero_add, ← h0]; exact World.rowIs.cell HR.out (by omega)
        · rw [h2]
          exact OwnI.rd h4 l1 l2
      · obtain ⟨i, hi, e⟩ := List.mem_iff_getElem.1 hx
        obtain ⟨-, g, h2, h3, h4⟩ := HS.out i x (by rw [List.getElem?_eq_getElem hi, e])
        refine ⟨.inr ⟨g, x.ks, h2, by omega, h4.lt, h4, rfl⟩, ?_⟩
        have hct : ∃ y, xs[i]? = some y ∧ y.ks = x.ks := by
          have h := HC.out
          rw [HE.out, List.take_length] at h
          have h' : (ms.map Iw.ks)[i]? = (xs.map Iw.ks)[i]? := by rw [h]
          rw [List.getElem?_map, List.getElem?_map, List.getElem?_eq_getElem hi, e, Option.map_some] at h'
          cases hy : xs[i]? with
          | none => rw [hy] at h'; cases h'
          | some y => rw [hy] at h'; simp at h'; exact ⟨y, rfl, h'.symm⟩
        obtain ⟨y, hy, hyx⟩ := hct
        obtain ⟨-, hn | ⟨b, o, -, hc⟩⟩ := hr
        · subst hn; simp at hy
        obtain ⟨-, ⟨l1, -⟩⟩ := hc i y hy
        rw [hyx] at l1
        exact l1

theorem toCuts_own (a : Option Addr) (c : Nat) (xs : List Iw) (w : World) (hr : RdII w a xs) (n : Nat) (hn : xs.length = n) :
    Calls Try.prog 18 #[.agg #[.slice a n c]] w fun e w' => ∃ (g : Nat) (ms : List Iw), e = .returned (.agg #[.slice (some ⟨g, 0, none⟩) n n]) ∧ ms.map Iw.ks = xs.map Iw.ks ∧ w.heap.size ≤ g ∧ RdII w' (some ⟨g, 0, none⟩) ms ∧ (∃ f, w'.rowIs g 51 n f ∧ ∀ i x, ms[i]? = some x → f i = .slice x.a x.ks.length x.c) ∧ (∀ x ∈ ms, WrI w' w.heap.size w'.heap.size x ∧ x.ks.length ≤ 1048576) ∧ Below w.heap.size w w' := by
  subst hn
  go_enter Try.func18, Try.ntmps18
  go_wp2_with fail
  refine (toInt64SS_own a c xs _ ?_).mono ?_
  · refine hr.later (Below.alloc (Below.alloc (Below.alloc (Below.refl _ _) ?_ _) ?_ _) ?_ _)
    all_goals first | exact Nat.le_refl _ | (simp; done) | (simp; omega)
  rintro e w1 ⟨ms, rfl, hms, hrd, ⟨f, hrow, hff⟩, hwr, hb⟩
  have hc := kcell hb
  have hz : w.heap.size + 1 + 1 < w1.heap.size := by have := hb.size; simp at this; omega
  have hf := kfroz hb
  have HO := kide hrd
  have HRW := kide hrow
  have HFF := kide hff
  have HWR := kide hwr
  have HB := kide hb
  have HM := kide hms
  clear hrd hb hr hms hrow hff hwr
  go_wp2_with fail
  refine bodyPost_ret (v := .agg #[.slice (some ⟨w.heap.size + 1 + 1 + 1, 0, none⟩) xs.length xs.length]) (by simp [results, Try.results18, go_sem, hc]) rfl ⟨_, ms, rfl, HM.out, by omega, ?_, ?_, ?_, ?_⟩
  · have h := HO.out
    simp only [World.size_alloc] at h
    rcases h with ⟨hl, h | ⟨b, o, hbo, hc⟩⟩
    · exact ⟨hl, .inl h⟩
    · have hbb : b = w.heap.size + 1 + 1 + 1 := by injection hbo with e; injection e with e1 _ _; exact e1.symm
      subst hbb
      refine ⟨hl, .inr ⟨_, o, hbo, fun i x hi => ?_⟩⟩
      obtain ⟨p1, p2⟩ := hc i x hi
      have hwx := (HWR.out x (List.mem_of_getElem? hi)).1
      have hfar : x.ks = [] ∨ ∀ b o sp, x.a = some ⟨b, o, sp⟩ → w.heap.size + 3 ≤ b := by
        rcases hwx with h | ⟨g, zs, h1, h2, -⟩
        · exact .inl h
        · refine .inr fun b o sp e => ?_
          rw [h1] at e
          cases e
          simp at h2
          omega
      refine ⟨kset (kset p1 (by simp)) (by simp; omega), ?_⟩
      rcases hfar with h | h
      · rw [h] at p2 ⊢
        exact ⟨by simp, by simp, .inl rfl⟩
      · exact (p2.set h (by first | (simp; done) | (simp; omega)) _).set h (by first | (simp; done) | (simp; omega)) _
  · have h := HRW.out
    simp only [World.size_alloc] at h
    exact ⟨f, World.rowIs.of_block h (by rw [heap_setCell_other _ _ _ _ (by simp; omega), heap_setCell_other _ _ _ _ (by simp)]), HFF.out⟩
  · intro x hx
    obtain ⟨h, hl⟩ := HWR.out x hx
    refine ⟨?_, hl⟩
    rcases h with h | ⟨g, zs, h1, h2, h3, h4, h5⟩
    · exact .inl h
    · simp only [World.size_alloc] at h2
      exact .inr ⟨g, zs, h1, by omega, by simpa using h3, (h4.other (by simp; omega) _).other (by simp; omega) _, h5⟩
  · have h := HB.out
    have h0 : Below w.heap.size w w1 := by
      refine Below.trans (Below.alloc (Below.alloc (Below.alloc (Below.refl _ _) ?_ _) ?_ _) ?_ _) (h.mono ?_)
      all_goals first | exact Nat.le_refl _ | (simp; done) | (simp; omega)
    exact (h0.setCell (by simp; omega) _).setCell (by simp) _



theorem markCuts_any (g c n k B1 B2 : Nat) (xs : List Iw) (w : World) (f : Nat → Value) (hr : w.rowIs g 51 n f) (hf : ∀ i x, xs[i]? = some x → f i = .slice x.a x.ks.length x.c) (hx : ∀ x ∈ xs, WrI w B1 B2 x ∧ x.ks.length ≤ 1048576) (hn : xs.length = n) (hn2 : n ≤ 1048576) (hk : k ≤ 4194304) :
    Calls Try.prog 27 #[.agg #[.slice (some ⟨g, 0, none⟩) n c], .int .i64 (k : Int)] w fun e w' => (∃ r : Int, 0 ≤ r ∧ e = .returned (.int .i64 r)) ∧ Out B1 B2 w w' := by
  have hb0 : Below w.heap.size w (w.alloc (Obj.cells #[Value.slice (some ⟨g, 0, none⟩) n c] 39)) := (Below.refl _ _).alloc (Nat.le_refl _) _
  have hgl : g < w.heap.size := by obtain ⟨cc, hh, -⟩ := hr; exact lt_of_block hh
  have HC := kide (markInt64SS_any g c n k B1 B2 xs _ f (World.rowIs.of_block hr (hb0.block g hgl)) hf (fun x hx' => ⟨by
    rcases (hx x hx').1 with h | ⟨g2, zs, h1, h2, h3, h4, h5⟩
    · exact .inl h
    · exact .inr ⟨g2, zs, h1, h2, h3, h4.later hb0 h4.lt, h5⟩, (hx x hx').2⟩) hn hn2 hk)
  have B0 := kide hb0
  clear hr hf hx hn hb0
  go_enter Try.func27, Try.ntmps27
  go_wp2_with fail
  refine Calls.mono HC.out ?_
  rintro e w1 ⟨⟨r, hr, rfl⟩, ho⟩
  have HO := kide ((Out.below B0.out).trans ho)
  clear ho
  go_wp2_with fail
  go_ret
  exact ⟨⟨r, hr, rfl⟩, HO.out⟩

end Go.Proofs.Yticpjfdnpdfmeaa
