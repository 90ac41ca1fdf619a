/- Rows of numbers, rows of rows and clauses: marked, held. -/
import Derived.Test.YtmfamdonbgmjbaaDoorZGAC
import Derived.Test.YtmfamdonbgmjbaaDoorZGAD
namespace Go.Proofs.YtmfamdonbgmjbaaDoor
set_option linter.unusedVariables false
set_option linter.unusedSimpArgs false
open Go.RowKit

theorem Out.ofB {B1 B2 : Nat} {w w' : World} (h : Below w.heap.size w w') : Out B1 B2 w w' := ⟨h.os, h.tape, h.output, h.size, fun k hk _ => h.block k hk⟩
theorem Out.cell {B1 B2 : Nat} {w w' : World} (h : Out B1 B2 w w') {b o : Nat} (hb : b < w.heap.size) (ho : b < B1 ∨ B2 ≤ b) : w'.cell? ⟨b, o, none⟩ = w.cell? ⟨b, o, none⟩ := World.cell?_of_block (w := w) (a := ⟨b, o, none⟩) (h.2.2.2.2 b hb ho)
theorem bz_out {w w' : World} {b B1 B2 : Nat} {cs : Array Value} {t : TypeId} (h : Bz w b cs t) (ho : Out B1 B2 w w') (hd : b < B1 ∨ B2 ≤ b) : Bz w' b cs t := (ho.2.2.2.2 b h.lt hd).trans h
theorem Out.bel {w v v' : World} {B1 B2 : Nat} (h : Below w.heap.size w v) (ho : Out B1 B2 v v') (h1 : w.heap.size ≤ B1) : Below w.heap.size w v' :=
  h.trans (ho.below h1 h.size)
theorem grow_set {w wr : World} {g : Nat} (h : w.grownBy wr (some g)) (i : Nat) (v : Value) : w.grownBy (wr.setCell ⟨g, i, none⟩ v) (some g) :=
  ⟨h.os, h.tape, h.output, by simpa using h.size, fun k hk hne => by rw [heap_setCell_other wr ⟨g, i, none⟩ k v (fun e => hne (by simp [e]))]; exact h.block k hk hne⟩

/-- A row of numbers that may be written, between two blocks. -/
def WrI (w : World) (B1 B2 : Nat) (x : Iw) : Prop := x.ks = [] ∨ ∃ g zs, x.a = some ⟨g, 0, none⟩ ∧ B1 ≤ g ∧ g < B2 ∧ OwnI w g zs ∧ zs.length = x.ks.length

theorem markInt64S_any (g c n k : Nat) (zs : List Int) (w : World) (ho : OwnI w g zs) (hz : zs.length = n) (hn : n ≤ 1048576) (hk : k ≤ 2199023255552) :
    Calls Tryd.prog 15 #[.slice (some ⟨g, 0, none⟩) n c, .int .i64 (k : Int)] w fun e w' => e = .returned (.int .i64 ((k + n : Nat) : Int)) ∧ (∃ zs', OwnI w' g zs' ∧ zs'.length = n) ∧ w.grownBy w' (some g) := by
  go_enter Tryd.func15, Tryd.ntmps15
  go_wp2_with fail
  go_loopw [1, 5] (fun q i wr => ∃ (j : Nat) (ys : List Int), j ≤ n ∧ i = .int .i64 (j : Int) ∧ q = .int .i64 ((k + j : Nat) : Int) ∧ OwnI wr g ys ∧ ys.length = n ∧ w.grownBy wr (some g)) (fun _ i _ => n - (intOf i).toNat)
  case atStart => exact ⟨0, zs, Nat.zero_le _, rfl, by simp, ho, hz, ⟨rfl, rfl, rfl, Nat.le_refl _, fun _ _ _ => rfl⟩⟩
  case round =>
    obtain ⟨j, ys, hj, rfl, rfl, hown, hl, hg⟩ := hrel
    have HG := kide hg
    by_cases hlt : j < n
    · have q0 := hown.cell (i := j) (by omega)
      have r0 := hown.free j
      generalize ys.getD j 0 = y0 at q0
      generalize hK : k + j = K at *
      have HK := kide hK
      have hKb : K ≤ 4398046511104 := by omega
      have i0 : (j : Int) < (n : Int) := by omega
      have HO := kide hown
      have HL := kide hl
      clear hown hl hg hK
      go_wp2_with fail
      go_roundw
      case rel => exact ⟨j + 1, ys.set j (K : Int), by omega, by go_num, by rw [show k + (j + 1) = K + 1 by have := HK.out; omega]; first | go_num | (simp; done), HO.out.put j _, by rw [List.length_set]; exact HL.out, grow_set HG.out j _⟩
      case measure => simp [intOf]; omega
    · have e : j = n := by omega
      subst e
      have HO := kide hown
      have HL := kide hl
      clear hown hl hg
      go_wp2_with fail
      go_ret
      exact ⟨rfl, ⟨ys, HO.out, HL.out⟩, HG.out⟩

theorem WrI.grown {w w' : World} {B1 B2 g : Nat} {x : Iw} (h : WrI w B1 B2 x) (hg : w.grownBy w' (some g)) {zs zs' : List Int} (ho : OwnI w g zs) (ho' : OwnI w' g zs') (hl : zs'.length = zs.length) : WrI w' B1 B2 x := by
  rcases h with h | ⟨g2, ys, h1, h2, h3, h4, h5⟩
  · exact .inl h
  · refine .inr ?_
    by_cases e : g2 = g
    · subst e
      have h6 : i64s ys = i64s zs := by
        have a1 := h4
        unfold OwnI at a1 ho
        rw [a1] at ho
        simp only [Option.some.injEq, Obj.cells.injEq, and_true] at ho
        exact ho
      have h7 : ys.length = zs.length := by rw [← i64s_size ys, ← i64s_size zs, h6]
      exact ⟨g2, zs', h1, h2, h3, ho', by omega⟩
    · refine ⟨g2, ys, h1, h2, h3, ?_, h5⟩
      unfold OwnI
      rw [hg.block g2 h4.lt (fun e' => e (by cases e'; rfl))]
      exact h4

theorem markInt64SS_any (g c n k B1 B2 : Nat) (xs : List Iw) (w : World) (f : Nat → Value) (hr : w.rowIs g 25 n f) (hf : ∀ i x, xs[i]? = some x → f i = .slice x.a x.ks.length x.c) (hx : ∀ x ∈ xs, WrI w B1 B2 x ∧ x.ks.length ≤ 1048576) (hn : xs.length = n) (hn2 : n ≤ 1048576) (hk : k ≤ 4194304) :
    Calls Tryd.prog 40 #[.slice (some ⟨g, 0, none⟩) n c, .int .i64 (k : Int)] w fun e w' => (∃ r : Nat, r ≤ 2199023255552 ∧ e = .returned (.int .i64 (r : Int))) ∧ Out B1 B2 w w' := by
  have HN := kide hn
  have HF := kide hf
  clear hn hf
  go_enter Tryd.func40, Tryd.ntmps40
  go_wp2_with fail
  go_loopw [1, 5] (fun q i wr => ∃ (j K : Nat), j ≤ n ∧ i = .int .i64 (j : Int) ∧ q = .int .i64 (K : Int) ∧ K ≤ 4194304 + j * 1048576 ∧ wr.rowIs g 25 n f ∧ (∀ x ∈ xs, WrI wr B1 B2 x ∧ x.ks.length ≤ 1048576) ∧ Out B1 B2 w wr) (fun _ i _ => n - (intOf i).toNat)
  case atStart => exact ⟨0, k, Nat.zero_le _, rfl, rfl, by omega, hr, hx, Out.refl _ _ _⟩
  case round =>
    obtain ⟨j, K, hj, rfl, rfl, hK, hrow, hxs, hout⟩ := hrel
    have HO := kide hout
    have HRW := kide hrow
    have HXS := kide hxs
    by_cases hlt : j < n
    · have q0 := hrow.cell (i := j) (by omega)
      obtain ⟨⟨a1, c1, ks⟩, gx⟩ : ∃ x, xs[j]? = some x := ⟨xs[j]'(by rw [HN.out]; exact hlt), List.getElem?_eq_getElem _⟩
      rw [HF.out j _ gx] at q0
      obtain ⟨hw, hkl⟩ := hxs _ (List.mem_of_getElem? gx)
      simp only [] at q0 hkl
      have hKb : K ≤ 2199023255552 := by
        have : j * 1048576 ≤ 1048576 * 1048576 := Nat.mul_le_mul_right _ (by omega)
        omega
      have i0 : (j : Int) < (n : Int) := by omega
      have hKn : ∀ m : Nat, m ≤ 1048576 → K + m ≤ 4194304 + (j + 1) * 1048576 := by
        intro m hm
        rw [Nat.succ_mul]
        omega
      have HKN := kide hKn
      have HWX := kide hw
      clear hout hrow hxs gx hw hK hKn
      rcases HWX.out with h | ⟨g2, zs, h1, h2, h3, h4, h5⟩
      · simp only [] at h
        subst h
        have HMN : Hid (∀ u, Calls Tryd.prog 15 #[.slice a1 0 c1, .int .i64 (K : Int)] u fun e w' => e = .returned (.int .i64 (K : Int)) ∧ w' = u) := fun u => by
          go_enter Tryd.func15, Tryd.ntmps15
          go_wp2_with fail
          refine wp_loop_rounds 1 ?_; rw [rounds_succ]
          go_wp2_with fail
          go_ret
          exact ⟨rfl, rfl⟩
        go_wp2_with fail
        refine Calls.mono (HMN.out _) ?_
        rintro e w1 ⟨rfl, rfl⟩
        go_wp2_with fail
        go_roundw
        case rel => exact ⟨j + 1, K, by omega, by go_num, rfl, by have := HKN.out 0 (by omega); omega, HRW.out, HXS.out, HO.out⟩
        case measure => simp [intOf]; omega
      · simp only [] at h1 h5
        subst h1
        have HMN := kide (markInt64S_any g2 c1 ks.length K zs wr h4 h5 hkl hKb)
        have H4 := kide h4
        have H5 := kide h5
        have hgne : g ≠ g2 := by
          intro e
          subst e
          obtain ⟨cc, hh, -⟩ := HRW.out
          have h4' := H4.out
          unfold OwnI at h4'
          rw [hh] at h4'
          cases h4'
        clear h4 h5
        go_wp2_with fail
        refine Calls.mono HMN.out ?_
        rintro e w1 ⟨rfl, ⟨zs', ho', hl'⟩, hg1⟩
        have HR1 : Hid (w1.rowIs g 25 n f) := World.rowIs.of_block HRW.out (hg1.block g (by obtain ⟨cc, hh, -⟩ := HRW.out; exact lt_of_block hh) (fun e => hgne (by cases e; rfl)))
        have HX1 : Hid (∀ x ∈ xs, WrI w1 B1 B2 x ∧ x.ks.length ≤ 1048576) := fun x hx => ⟨(HXS.out x hx).1.grown hg1 H4.out ho' (by have := H5.out; omega), (HXS.out x hx).2⟩
        have HO1 := kide (HO.out.trans (Out.grown hg1 h2 h3))
        clear ho' hl' hg1
        go_wp2_with fail
        go_roundw
        case rel => exact ⟨j + 1, K + ks.length, by omega, by go_num, rfl, HKN.out _ hkl, HR1.out, HX1.out, HO1.out⟩
        case measure => simp [intOf]; omega
    · have e : j = n := by omega
      clear hout hrow hxs
      go_wp2_with fail
      go_ret
      exact ⟨⟨K, by have : j * 1048576 ≤ 1048576 * 1048576 := Nat.mul_le_mul_right _ (by omega); omega, rfl⟩, HO.out⟩

theorem toInt64SS_own (a : Option Addr) (c : Nat) (xs : List Iw) (w : World) (hr : RdII w a xs) :
    Calls Tryd.prog 33 #[.slice a xs.length c] w fun e w' => ∃ ms : List Iw, e = .returned (.slice (some ⟨w.heap.size, 0, none⟩) xs.length xs.length) ∧ ms.map Iw.ks = xs.map Iw.ks ∧ RdII w' (some ⟨w.heap.size, 0, none⟩) ms ∧ (∃ f, w'.rowIs w.heap.size 25 xs.length f ∧ ∀ i x, ms[i]? = some x → f i = .slice x.a x.ks.length x.c) ∧ (∀ x ∈ ms, WrI w' w.heap.size w'.heap.size x ∧ x.ks.length ≤ 1048576 ∧ x.ks.length ≤ x.c) ∧ Below w.heap.size w w' := by
  have hlen := hr.1
  have hmk := fun kl kc w => run_make_row' (P := Tryd.prog) 22 25 (.slice none 0 0) 24 Tryd.underlying22 Tryd.infoRow rfl kl kc xs.length (by omega) (by omega) w
  go_enter Tryd.func33, Tryd.ntmps33
  go_wp2_with fail
  have hrow := krow (heap_alloc_new w (.cells (madeCells #[.slice none 0 0] xs.length) 25))
  rw [size_madeCells] at hrow
  have hb0 : Below w.heap.size w (w.alloc (.cells (madeCells #[.slice none 0 0] xs.length) 25)) := (Below.refl _ _).alloc (Nat.le_refl _) _
  have hs0 : w.heap.size < (w.alloc (.cells (madeCells #[.slice none 0 0] xs.length) 25)).heap.size := by simp
  generalize (w.alloc (.cells (madeCells #[.slice none 0 0] xs.length) 25)) = w0 at *
  go_loopw [4] (fun i wr => ∃ (k : Nat) (f : Nat → Value) (ms : List Iw), k ≤ xs.length ∧ i = .int .i64 k ∧ wr.rowIs w.heap.size 25 xs.length f ∧ ms.length = k ∧ ms.map Iw.ks = (xs.take k).map Iw.ks ∧ (∀ j x, ms[j]? = some x → f j = .slice x.a x.ks.length x.c ∧ ∃ g, x.a = some ⟨g, 0, none⟩ ∧ w.heap.size < g ∧ OwnI wr g x.ks ∧ x.ks.length ≤ x.c) ∧ Below w.heap.size w wr ∧ w.heap.size < wr.heap.size) (fun i _ => xs.length - (intOf i).toNat)
  case atStart => exact ⟨0, _, [], Nat.zero_le _, rfl, hrow, rfl, rfl, fun j x h => by simp at h, hb0, hs0⟩
  case round =>
    obtain ⟨k, f, ms, hk, rfl, hrw, hml, hmc, hms, hbel, hsz⟩ := hrel
    clear hrow hb0 hs0
    by_cases hlt : k < xs.length
    · obtain ⟨-, h | ⟨b, o, rfl, hc⟩⟩ := hr
      · subst h; simp at hlt
      obtain ⟨⟨a1, c1, k1⟩, hx⟩ : ∃ x, xs[k] = x := ⟨_, rfl⟩
      have gx : xs[k]? = some ⟨a1, c1, k1⟩ := by rw [List.getElem?_eq_getElem hlt, hx]
      obtain ⟨p1', p2'⟩ := (hc k _ gx).later hbel
      simp only [] at p1' p2'
      clear hx
      have GX : Hid _ := gx
      have HML : Hid _ := hml
      have HMC : Hid _ := hmc
      have HMS : Hid _ := hms
      have HR : Hid _ := hrw
      have HB : Hid _ := hbel
      have i0 : (k : Int) < (xs.length : Int) := by omega
      clear gx hml hmc hms hc hrw hbel hmk
      go_wp2_with fail
      refine (toInt64S_any _ _ _ _ p2').mono ?_
      rintro e w1 ⟨rfl, hown, hb1⟩
      have hr1 := World.rowIs.of_block HR.out (hb1.block _ hsz)
      have q1 := hr1.cell (i := k) (by omega)
      have r1 := hr1.frozen k
      have HR1 : Hid _ := hr1
      clear hr1
      go_wp2_with fail
      go_roundw
      case rel =>
        have hl := HML.out
        refine ⟨k + 1, _, ms ++ [⟨some ⟨wr.heap.size, 0, none⟩, k1.length, k1⟩], by omega, by go_num, World.rowIs.set HR1.out k (.slice (some ⟨wr.heap.size, 0, none⟩) k1.length k1.length), by simp [hl], ?_, fun j x hj => ?_, ?_, ?_⟩
        · have h := HMC.out
          rw [List.map_append, h, List.take_add_one, GX.out, List.map_append]
          rfl
        · rw [List.getElem?_append] at hj
          split at hj
          · obtain ⟨h0, g, h2, h3, h4, h9⟩ := HMS.out j x hj
            refine ⟨?_, g, h2, h3, (h4.later hb1 h4.lt).other (by simp; omega) _, h9⟩
            show (if _ then _ else _) = _
            rw [if_neg (by omega)]; exact h0
          · have hj2 : j - ms.length = 0 := by
              have := (List.getElem?_eq_some_iff.1 hj).1
              simp at this; exact this
            rw [hj2] at hj
            simp at hj
            subst hj
            have hjk : j = k := by omega
            subst hjk
            exact ⟨by simp, _, rfl, hsz, hown.other (by simp; omega) _, Nat.le_refl _⟩
        · exact (HB.out.trans (hb1.mono HB.out.size)).setCell (Nat.le_refl _) _
        · have := hb1.size
          simp; omega
      case measure => simp [intOf]; omega
    · have e : k = xs.length := by omega
      have HM : Hid _ := hml
      have HC : Hid _ := hmc
      have HS : Hid _ := hms
      have HR : Hid _ := hrw
      have HB : Hid _ := hbel
      have HE : Hid _ := e
      clear hml hmc hms hrw hbel e hmk
      go_wp2_with fail
      go_ret
      refine ⟨ms, rfl, ?_, ⟨by rw [HM.out]; omega, .inr ⟨_, 0, rfl, fun i x hi => ?_⟩⟩, ⟨f, HR.out, fun i x hi => (HS.out i x hi).1⟩, fun x hx => ?_, HB.out⟩
      · have h := HC.out
        rw [HE.out, List.take_length] at h
        exact h
      · obtain ⟨h0, g, h2, h3, h4, h9⟩ := HS.out i x hi
        have hik : i < k := by have := (List.getElem?_eq_some_iff.1 hi).1; rw [HM.out] at this; exact this
        have hct : ∃ y, xs[i]? = some y ∧ y.ks = x.ks := by
          have h := HC.out
          rw [HE.out, List.take_length] at h
          have h' : (ms.map Iw.ks)[i]? = (xs.map Iw.ks)[i]? := by rw [h]
          rw [List.getElem?_map, List.getElem?_map, hi, Option.map_some] at h'
          cases hy : xs[i]? with
          | none => rw [hy] at h'; cases h'
          | some y => rw [hy] at h'; simp at h'; exact ⟨y, rfl, h'.symm⟩
        obtain ⟨y, hy, hyx⟩ := hct
        obtain ⟨-, hn | ⟨b, o, -, hc⟩⟩ := hr
        · subst hn; simp at hy
        obtain ⟨-, ⟨l1, l2, -⟩⟩ := hc i y hy
        rw [hyx] at l1 l2
        refine ⟨?_, ?_⟩
        · rw [Nat.zero_add, ← h0]; exact World.rowIs.cell HR.out (by omega)
        · rw [h2]
          exact OwnI.rd h4 l1 l2
      · obtain ⟨i, hi, e⟩ := List.mem_iff_getElem.1 hx
        obtain ⟨-, g, h2, h3, h4, h9⟩ := HS.out i x (by rw [List.getElem?_eq_getElem hi, e])
        refine ⟨.inr ⟨g, x.ks, h2, by omega, h4.lt, h4, rfl⟩, ?_, h9⟩
        have hct : ∃ y, xs[i]? = some y ∧ y.ks = x.ks := by
          have h := HC.out
          rw [HE.out, List.take_length] at h
          have h' : (ms.map Iw.ks)[i]? = (xs.map Iw.ks)[i]? := by rw [h]
          rw [List.getElem?_map, List.getElem?_map, List.getElem?_eq_getElem hi, e, Option.map_some] at h'
          cases hy : xs[i]? with
          | none => rw [hy] at h'; cases h'
          | some y => rw [hy] at h'; simp at h'; exact ⟨y, rfl, h'.symm⟩
        obtain ⟨y, hy, hyx⟩ := hct
        obtain ⟨-, hn | ⟨b, o, -, hc⟩⟩ := hr
        · subst hn; simp at hy
        obtain ⟨-, ⟨l1, -⟩⟩ := hc i y hy
        rw [hyx] at l1
        exact l1

theorem WrI.out {w w' : World} {B1 B2 C1 C2 : Nat} {x : Iw} (h : WrI w B1 B2 x) (ho : Out C1 C2 w w') (hd : C2 ≤ B1 ∨ B2 ≤ C1) : WrI w' B1 B2 x := by
  rcases h with h | ⟨g2, ys, h1, h2, h3, h4, h5⟩
  · exact .inl h
  · refine .inr ⟨g2, ys, h1, h2, h3, ?_, h5⟩
    unfold OwnI
    rw [ho.2.2.2.2 g2 h4.lt (by omega)]
    exact h4

/-- The row bears the marks from 1 on. -/
def MkI (w : World) (a : Option Addr) (n : Nat) : Prop := n = 0 ∨ ∃ g, a = some ⟨g, 0, none⟩ ∧ ∀ i, i < n → w.cell? ⟨g, i, none⟩ = some (.int .i64 ((1 + i : Nat) : Int))

theorem MkI.later {w w' : World} {a : Option Addr} {n : Nat} (h : MkI w a n) (hb : Below w.heap.size w w') : MkI w' a n := by
  rcases h with h | ⟨g, rfl, hc⟩
  · exact .inl h
  · exact .inr ⟨g, rfl, fun i hi => by rw [kcell hb _ _ (block_lt_of_cell (hc i hi))]; exact hc i hi⟩

theorem heldInt64S_mk (a : Option Addr) (c n : Nat) (w : World) (hm : MkI w a n) (hn : n ≤ 64000000) :
    Calls Tryd.prog 16 #[.slice a n c, .int .i64 1] w fun e w' => e = .returned (.int .i64 ((1 + n : Nat) : Int)) ∧ w' = w := by
  go_enter Tryd.func16, Tryd.ntmps16
  go_wp2_with fail
  go_loop [1, 5] (fun q i => ∃ j : Nat, j ≤ n ∧ i = .int .i64 (j : Int) ∧ q = .int .i64 ((1 + j : Nat) : Int)) (fun _ i => n - (intOf i).toNat)
  case atStart => exact ⟨0, Nat.zero_le _, rfl, by simp⟩
  case round =>
    obtain ⟨j, hj, rfl, rfl⟩ := hrel
    by_cases hlt : j < n
    · rcases hm with h | ⟨g, rfl, hc⟩
      · omega
      have e0 := hc j (by omega)
      generalize hK : 1 + j = K at *
      have HK := kide hK
      have hKb : K ≤ 300000000 := by omega
      have n0 : ((K : Int) != (K : Int)) = false := by simp
      have i0 : (j : Int) < (n : Int) := by omega
      clear hc hK
      go_wp2_with fail
      go_round
      case rel => exact ⟨j + 1, by omega, by go_num, by rw [show 1 + (j + 1) = K + 1 by have := HK.out; omega]; first | go_num | (congr 1; push_cast; omega) | (simp; omega)⟩
      case measure => simp [intOf]; omega
    · have e : j = n := by omega
      subst e
      clear hm
      go_wp2_with fail
      go_ret
      exact ⟨rfl, rfl⟩

theorem markInt64S_row (g c n N : Nat) (f : Nat → Value) (w : World) (hr : w.rowIs g 2 N f) (hN : n ≤ N) (hn : n ≤ 64000000) :
    Calls Tryd.prog 15 #[.slice (some ⟨g, 0, none⟩) n c, .int .i64 1] w fun e w' => e = .returned (.int .i64 ((1 + n : Nat) : Int)) ∧ MkI w' (some ⟨g, 0, none⟩) n ∧ w.grownBy w' (some g) := by
  go_enter Tryd.func15, Tryd.ntmps15
  go_wp2_with fail
  go_loopw [1, 5] (fun q i wr => ∃ (j : Nat) (f' : Nat → Value), j ≤ n ∧ i = .int .i64 (j : Int) ∧ q = .int .i64 ((1 + j : Nat) : Int) ∧ wr.rowIs g 2 N f' ∧ (∀ i, i < j → f' i = .int .i64 ((1 + i : Nat) : Int)) ∧ w.grownBy wr (some g)) (fun _ i _ => n - (intOf i).toNat)
  case atStart => exact ⟨0, f, Nat.zero_le _, rfl, by simp, hr, fun i h => by omega, ⟨rfl, rfl, rfl, Nat.le_refl _, fun _ _ _ => rfl⟩⟩
  case round =>
    obtain ⟨j, f', hj, rfl, rfl, hrow, hf, hg⟩ := hrel
    by_cases hlt : j < n
    · have q0 := hrow.cell (i := j) (by omega)
      have r0 := hrow.frozen j
      generalize hK : 1 + j = K at *
      have HK := kide hK
      have hKb : K ≤ 300000000 := by omega
      have i0 : (j : Int) < (n : Int) := by omega
      have HRW := kide hrow
      have HF := kide hf
      have HG := kide hg
      clear hrow hf hg hK
      go_wp2_with fail
      go_roundw
      case rel =>
        refine ⟨j + 1, _, by omega, by go_num, ?_, World.rowIs.set HRW.out j (.int .i64 (K : Int)), fun i hi => ?_, ?_⟩
        · rw [show 1 + (j + 1) = K + 1 by have := HK.out; omega]
          first | go_num | (congr 1; push_cast; omega) | (simp; omega)
        · show (if _ then _ else _) = _
          have hKK := HK.out
          by_cases h0 : i = j
          · rw [if_pos h0]
            congr 1
            omega
          · rw [if_neg h0]
            exact HF.out i (by omega)
        · exact grow_set HG.out j _
      case measure => simp [intOf]; omega
    · have e : j = n := by omega
      subst e
      have HRW := kide hrow
      have HF := kide hf
      have HG := kide hg
      clear hrow hf hg
      go_wp2_with fail
      go_ret
      exact ⟨rfl, .inr ⟨g, rfl, fun i hi => by rw [← HF.out i hi]; exact World.rowIs.cell HRW.out (by omega)⟩, HG.out⟩

/-- The row lies between two blocks, and may be written. -/
def HoldI (w : World) (lo hi : Nat) (a : Option Addr) (n : Nat) (ss : List Int) : Prop := ss.length = n ∧ n ≤ 1048576 ∧ (∀ x ∈ ss, in64 x) ∧ (n = 0 ∨ ∃ g N f, a = some ⟨g, 0, none⟩ ∧ lo ≤ g ∧ g < hi ∧ g < w.heap.size ∧ n ≤ N ∧ w.rowIs g 2 N f ∧ ∀ i, i < n → w.cell? ⟨g, i, none⟩ = some (.int .i64 (ss.getD i 0)))

theorem OI.hold {w : World} {B : Nat} {v : Value} {ss : List Int} (h : OI w B v ss) (hl : ss.length ≤ 1048576) (hx : ∀ x ∈ ss, in64 x) : ∃ a c, v = .slice a ss.length c ∧ HoldI w B w.heap.size a ss.length ss := by
  have hcells := fun g hg => World.ownsRow.cells h (g := g) hg
  rcases h.2 with ⟨rfl, hn⟩ | ⟨g, cap, cur, rfl, hB, hh, hcap, -, hsz, -⟩
  · exact ⟨none, 0, by rw [hn], rfl, hl, hx, .inl hn⟩
  · have hlt : g < w.heap.size := lt_of_block hh
    refine ⟨some ⟨g, 0, none⟩, cap, rfl, rfl, hl, hx, .inr ⟨g, cap * 1, fun i => cur.getD i (.int .i64 0), rfl, hB, hlt, hlt, by omega, ⟨cur, hh, hsz, fun i hi => ?_⟩, fun i hi => ?_⟩⟩
    · have hi' : i < cur.size := by omega
      rw [Array.getElem?_eq_getElem hi']
      simp [Array.getD, hi']
    · have c0 := hcells g rfl i (.int .i64 (ss.getD i 0)) (by simp [i64s, List.getD, hi])
      rw [Addr.add_lit] at c0
      simpa using c0

theorem HoldI.rd {w : World} {lo hi n : Nat} {a : Option Addr} {ss : List Int} (h : HoldI w lo hi a n ss) : RdI w a ss := by
  obtain ⟨h1, h2, hx, h3⟩ := h
  refine ⟨by omega, hx, ?_⟩
  rcases h3 with h3 | ⟨g, N, f, rfl, -, -, -, -, -, h⟩
  · exact .inl (List.eq_nil_of_length_eq_zero (by omega))
  · exact .inr ⟨g, 0, rfl, fun i hi => by have := h i (by omega); simpa using this⟩

theorem HoldI.out {w w' : World} {lo hi n B1 B2 : Nat} {a : Option Addr} {ss : List Int} (h : HoldI w lo hi a n ss) (ho : Out B1 B2 w w') (hd : hi ≤ B1 ∨ B2 ≤ lo) : HoldI w' lo hi a n ss := by
  obtain ⟨h1, h2, hx, h3⟩ := h
  refine ⟨h1, h2, hx, ?_⟩
  rcases h3 with h3 | ⟨g, N, f, rfl, q1, q2, q3, q4, q5, q6⟩
  · exact .inl h3
  · have hk : g < B1 ∨ B2 ≤ g := by omega
    exact .inr ⟨g, N, f, rfl, q1, q2, Nat.lt_of_lt_of_le q3 ho.2.2.2.1, q4, World.rowIs.of_block q5 (ho.2.2.2.2 g q3 hk), fun i hi => by rw [ho.cell q3 hk]; exact q6 i hi⟩

theorem HoldI.later {w w' : World} {lo hi n : Nat} {a : Option Addr} {ss : List Int} (h : HoldI w lo hi a n ss) (hb : Below w.heap.size w w') : HoldI w' lo hi a n ss := h.out (Out.ofB (B1 := hi) (B2 := hi) hb) (.inl (Nat.le_refl _))

theorem eqInt64S_hold (a b : Option Addr) (c d n lo hi lo' hi' : Nat) (ss : List Int) (w : World) (hr : HoldI w lo hi a n ss) (hs : HoldI w lo' hi' b n ss) :
    Calls Tryd.prog 12 #[.slice a n c, .slice b n d] w fun e w' => e = .returned (.bool true) ∧ Below w.heap.size w w' := by
  have h := eqInt64S_any a b c d ss ss w hr.rd hs.rd
  rw [hr.1] at h
  simpa using h

theorem markInt64S_nil (a : Option Addr) (c : Nat) (w : World) :
    Calls Tryd.prog 15 #[.slice a 0 c, .int .i64 1] w fun e w' => e = .returned (.int .i64 1) ∧ w' = w := by
  go_enter Tryd.func15, Tryd.ntmps15
  go_wp2_with fail
  go_loopw [1, 5] (fun q i wr => q = .int .i64 1 ∧ i = .int .i64 0 ∧ wr = w) (fun _ _ _ => 0)
  case atStart => exact ⟨rfl, rfl, rfl⟩
  case round =>
    obtain ⟨rfl, rfl, rfl⟩ := hrel
    go_wp2_with fail
    go_ret
    exact ⟨rfl, rfl⟩

theorem markInt64S_hold (a : Option Addr) (c n lo hi : Nat) (ss : List Int) (w : World) (hr : HoldI w lo hi a n ss) :
    Calls Tryd.prog 15 #[.slice a n c, .int .i64 1] w fun e w' => e = .returned (.int .i64 ((1 + n : Nat) : Int)) ∧ MkI w' a n ∧ Out lo hi w w' := by
  obtain ⟨h1, h2, -, h3⟩ := hr
  rcases h3 with rfl | ⟨g, N, f, rfl, q1, q2, q3, q4, q5, q6⟩
  · refine Calls.mono (markInt64S_nil a c w) ?_
    rintro e w' ⟨rfl, rfl⟩
    exact ⟨rfl, .inl rfl, Out.refl _ _ _⟩
  · refine Calls.mono (markInt64S_row g c n N f w q5 q4 (by omega)) ?_
    rintro e w' ⟨rfl, hm, hg⟩
    exact ⟨rfl, hm, Out.grown hg q1 q2⟩

/-- A row of numbers, in a block from lo on below hi. -/
def Ti (w : World) (lo hi : Nat) (a : Option Addr) (n : Nat) : Prop := ∃ g zs, a = some ⟨g, 0, none⟩ ∧ lo ≤ g ∧ g < hi ∧ OwnI w g zs ∧ zs.length = n
theorem Ti.out {w w' : World} {lo hi B1 B2 n : Nat} {a : Option Addr} (h : Ti w lo hi a n) (ho : Out B1 B2 w w') (hd : hi ≤ B1 ∨ B2 ≤ lo) : Ti w' lo hi a n := by
  obtain ⟨g, zs, e, h1, h2, h3, h4⟩ := h
  refine ⟨g, zs, e, h1, h2, ?_, h4⟩
  unfold OwnI
  rw [ho.2.2.2.2 g h3.lt (by omega)]
  exact h3
theorem rowIs_out {w w' : World} {g N B1 B2 : Nat} {t : TypeId} {f : Nat → Value} (h : w.rowIs g t N f) (ho : Out B1 B2 w w') (hd : g < B1 ∨ B2 ≤ g) : w'.rowIs g t N f := by
  obtain ⟨cc, hh, r⟩ := h
  exact World.rowIs.of_block ⟨cc, hh, r⟩ (ho.2.2.2.2 g (lt_of_block hh) hd)
theorem toInt64S_ti (a : Option Addr) (c n : Nat) (xs : List Int) (w : World) (hr : RdI w a xs) (hn : xs.length = n) :
    Calls Tryd.prog 10 #[.slice a n c] w fun e w' => e = .returned (.slice (some ⟨w.heap.size, 0, none⟩) n n) ∧ RdI w' (some ⟨w.heap.size, 0, none⟩) xs ∧ Ti w' w.heap.size w'.heap.size (some ⟨w.heap.size, 0, none⟩) n ∧ Below w.heap.size w w' := by
  subst hn
  refine (toInt64S_any a c xs w hr).mono ?_
  rintro e w' ⟨rfl, ho, hb⟩
  exact ⟨rfl, ho.rd hr.1 hr.2.1, ⟨_, xs, rfl, Nat.le_refl _, ho.lt, ho, rfl⟩, hb⟩
theorem markInt64S_ti (lo hi c n k : Nat) (a : Option Addr) (w : World) (h : Ti w lo hi a n) (hn : n ≤ 1048576) (hk : k ≤ 2199023255552) :
    Calls Tryd.prog 15 #[.slice a n c, .int .i64 (k : Int)] w fun e w' => e = .returned (.int .i64 ((k + n : Nat) : Int)) ∧ Out lo hi w w' := by
  obtain ⟨g, zs, rfl, h1, h2, h3, h4⟩ := h
  refine (markInt64S_any g c n k zs w h3 h4 hn hk).mono ?_
  intro e w' h
  exact ⟨h.1, Out.grown h.2.2 h1 h2⟩
/-- Clauses that were copied, between two blocks. -/
structure TyC (w : World) (lo hi g n : Nat) (ms : List Iw) : Prop where
  l0 : lo ≤ g
  h0 : g < hi
  row : ∃ f, w.rowIs g 25 n f ∧ ∀ i x, ms[i]? = some x → f i = .slice x.a x.ks.length x.c
  wr : ∀ x ∈ ms, WrI w lo hi x ∧ x.ks.length ≤ 1048576
theorem TyC.out {w w' : World} {lo hi g n B1 B2 : Nat} {ms : List Iw} (h : TyC w lo hi g n ms) (ho : Out B1 B2 w w') (hd : hi ≤ B1 ∨ B2 ≤ lo) : TyC w' lo hi g n ms := by
  refine ⟨h.l0, h.h0, ?_, fun x hx => ⟨(h.wr x hx).1.out ho (by omega), (h.wr x hx).2⟩⟩
  obtain ⟨f, h1, h2⟩ := h.row
  exact ⟨f, rowIs_out h1 ho (by have := h.l0; have := h.h0; omega), h2⟩
theorem TyC.later {w w' : World} {lo hi g n : Nat} {ms : List Iw} (h : TyC w lo hi g n ms) (hb : Below w.heap.size w w') : TyC w' lo hi g n ms := h.out (Out.ofB (B1 := hi) (B2 := hi) hb) (.inl (Nat.le_refl _))
theorem RdI.moved {w w' : World} {a : Option Addr} {ks : List Int} (h : RdI w a ks) (hb : ∀ b o sp, a = some ⟨b, o, sp⟩ → w'.heap[b]? = w.heap[b]?) : RdI w' a ks := by
  obtain ⟨h1, h2, h3⟩ := h
  refine ⟨h1, h2, ?_⟩
  rcases h3 with h3 | ⟨b, o, rfl, h3⟩
  · exact .inl h3
  · exact .inr ⟨b, o, rfl, fun i hi => (World.cell?_of_block (w := w) (a := ⟨b, o + i, none⟩) (hb b o none rfl)).trans (h3 i hi)⟩
theorem RdII.moved {w w' : World} {g L : Nat} {ms : List Iw} (h : RdII w (some ⟨g, 0, none⟩) ms) (hg : L ≤ g) (hx : ∀ x ∈ ms, WrI w L w.heap.size x) (hk : ∀ k, L ≤ k → w'.heap[k]? = w.heap[k]?) : RdII w' (some ⟨g, 0, none⟩) ms := by
  refine ⟨h.1, ?_⟩
  rcases h.2 with h0 | ⟨b, o, hbo, h1⟩
  · exact .inl h0
  · cases hbo
    refine .inr ⟨g, 0, rfl, fun i x hi => ⟨(World.cell?_of_block (w := w) (a := ⟨g, 0 + i, none⟩) (hk g hg)).trans (h1 i x hi).1, ?_⟩⟩
    have h2 := (h1 i x hi).2
    rcases hx x (List.mem_of_getElem? hi) with h3 | ⟨g2, zs, h3, h4, -⟩
    · rw [h3] at h2 ⊢
      exact ⟨by simp, by simp, .inl rfl⟩
    · refine h2.moved fun b o sp e => ?_
      rw [h3] at e
      cases e
      exact hk g2 h4
theorem toCnf_own (S : Int) (a : Option Addr) (c : Nat) (xs : List Iw) (w : World) (hr : RdII w a xs) (n : Nat) (hn : xs.length = n) :
    Calls Tryd.prog 9 #[.agg #[.int .i64 S, .slice a n c]] w fun e w' => ∃ (g : Nat) (ms : List Iw), e = .returned (.agg #[.int .i64 S, .slice (some ⟨g, 0, none⟩) n n]) ∧ ms.map Iw.ks = xs.map Iw.ks ∧ RdII w' (some ⟨g, 0, none⟩) ms ∧ TyC w' w.heap.size w'.heap.size g n ms ∧ (∀ x ∈ ms, x.ks.length ≤ x.c) ∧ Below w.heap.size w w' := by
  subst hn
  go_enter Tryd.func9, Tryd.ntmps9
  go_wp2_with fail
  refine (toInt64SS_own a c xs _ ?_).mono ?_
  · refine hr.later (Below.alloc (Below.alloc (Below.alloc (Below.refl _ _) ?_ _) ?_ _) ?_ _)
    all_goals first | exact Nat.le_refl _ | (simp; done) | (simp; omega)
  rintro e w1 ⟨ms, rfl, hms, hrd, hrow, hwr, hb⟩
  have hc := kcell hb
  have hz : w.heap.size + 1 + 1 < w1.heap.size := by have := hb.size; simp at this; omega
  have hf := kfroz hb
  have HO := kide hrd
  have HB := kide hb
  have HM := kide hms
  have HRW := kide hrow
  have HWR := kide hwr
  clear hrd hb hr hms hrow hwr
  go_wp2_with fail
  have HK : ∀ (v1 v2 v3 : Value) (o1 o2 o3 p1 p2 p3 : Nat), p1 < w.heap.size + 3 → p2 < w.heap.size + 3 → p3 < w.heap.size + 3 → ∀ k, w.heap.size + 3 ≤ k → (((w1.setCell ⟨p1, o1, none⟩ v1).setCell ⟨p2, o2, none⟩ v2).setCell ⟨p3, o3, none⟩ v3).heap[k]? = w1.heap[k]? := fun v1 v2 v3 o1 o2 o3 p1 p2 p3 h1 h2 h3 k hk => by
    rw [heap_setCell_other _ _ _ _ (by show k ≠ p3; omega), heap_setCell_other _ _ _ _ (by show k ≠ p2; omega), heap_setCell_other _ _ _ _ (by show k ≠ p1; omega)]
  have hb0 : Below w.heap.size w w1 := by
    refine Below.trans (Below.alloc (Below.alloc (Below.alloc (Below.refl _ _) ?_ _) ?_ _) ?_ _) (HB.out.mono ?_)
    all_goals first | exact Nat.le_refl _ | (simp; done) | (simp; omega)
  have h1 := HO.out
  have h2 := HRW.out
  have h3 := HWR.out
  simp only [World.size_alloc] at h1 h2 h3
  have hgl : w.heap.size + 1 + 1 + 1 < w1.heap.size := by obtain ⟨f, ⟨cc, hh, -⟩, -⟩ := h2; exact lt_of_block hh
  refine bodyPost_ret (v := .agg #[.int .i64 S, .slice (some ⟨w.heap.size + 1 + 1 + 1, 0, none⟩) xs.length xs.length]) (by simp [results, Tryd.results9, go_sem, hc]) rfl ⟨_, ms, rfl, HM.out, h1.moved (L := w.heap.size + 3) (by omega) (fun x hx => (h3 x hx).1) (HK _ _ _ _ _ _ _ _ _ (by omega) (by omega) (by omega)), ⟨by omega, by simpa using hgl, ?_, ?_⟩, fun x hx => (h3 x hx).2.2, ?_⟩
  · obtain ⟨f, hf, hff⟩ := h2
    exact ⟨f, World.rowIs.of_block hf (HK _ _ _ _ _ _ _ _ _ (by omega) (by omega) (by omega) _ (by omega)), hff⟩
  · intro x hx
    obtain ⟨h4, h5, -⟩ := h3 x hx
    refine ⟨?_, h5⟩
    rcases h4 with h4 | ⟨g2, zs, e1, e2, e3, e4, e5⟩
    · exact .inl h4
    · refine .inr ⟨g2, zs, e1, by omega, by simpa using e3, ?_, e5⟩
      unfold OwnI
      rw [HK _ _ _ _ _ _ _ _ _ (by omega) (by omega) (by omega) _ (by omega)]
      exact e4
  · exact ((hb0.setCell (by simp; omega) _).setCell (by simp) _).setCell (by simp) _
theorem markCnf_ty (S : Int) (lo hi g c n k : Nat) (ms : List Iw) (w : World) (h : TyC w lo hi g n ms) (hn : ms.length = n) (hn2 : n ≤ 1048576) (hk : k ≤ 4194304) :
    Calls Tryd.prog 14 #[.agg #[.int .i64 S, .slice (some ⟨g, 0, none⟩) n c], .int .i64 (k : Int)] w fun e w' => (∃ r : Nat, r ≤ 2199023255552 ∧ e = .returned (.int .i64 (r : Int))) ∧ Out lo hi w w' := by
  have hb0 : Below w.heap.size w (w.alloc (Obj.cells #[Value.int .i64 S, Value.slice (some ⟨g, 0, none⟩) n c] 29)) := (Below.refl _ _).alloc (Nat.le_refl _) _
  have h' := h.later hb0
  obtain ⟨f, hf, hff⟩ := h'.row
  have HC := kide (markInt64SS_any g c n k lo hi ms _ f hf hff h'.wr hn hn2 hk)
  have B0 := kide hb0
  clear h h' hf hff hb0 hn
  go_enter Tryd.func14, Tryd.ntmps14
  go_wp2_with fail
  refine Calls.mono HC.out ?_
  rintro e w1 ⟨⟨r, hr, rfl⟩, ho⟩
  have HO := kide ((Out.ofB B0.out).trans ho)
  clear ho
  go_wp2_with fail
  go_ret
  exact ⟨⟨r, hr, rfl⟩, HO.out⟩
end Go.Proofs.YtmfamdonbgmjbaaDoor
