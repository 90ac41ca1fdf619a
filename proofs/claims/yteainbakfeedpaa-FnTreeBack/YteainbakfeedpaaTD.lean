/- Contracts of the laws' own small functions on rows of nodes: copied; trees compared, copied. -/
import Derived.Test.YteainbakfeedpaaTC
namespace Go.Proofs.Yteainbakfeedpaa
set_option linter.unusedVariables false
set_option linter.unusedSimpArgs false
open Go.RowKit

theorem Try.infoNode : (Try.prog.info? 59).map (fun i => (i.zero, i.size, i.bytes)) = some (some (.agg #[.string .empty, .slice none 0 0]), 2, 40) := by kernel_rfl

theorem make_nodes (n : Nat) (hn : n ≤ 1048576) (kl kc : IntKind) (w : World) :
    (Instr.makeSlice 24 (.int kl (n : Int)) (.int kc (n : Int))).run Try.prog w = .ok (.slice (some ⟨w.heap.size, 0, none⟩) n n) (w.alloc (.cells (madeCells #[.string .empty, .slice none 0 0] (n * 2)) 59)) := by
  obtain ⟨i0, hi, hz0, hz1, hz2⟩ := info_parts Try.infoNode
  have := run_make (P := Try.prog) w 24 59 i0 _ Try.underlying24 hi hz0 kl kc n n (by omega) (Int.le_refl _) (by rw [hz2]; omega) (by omega)
  rw [hz1] at this
  simp only [Int.toNat_natCast] at this
  exact this

theorem toNode_any (s : ByteArray) (a : Option Addr) (c : Nat) (xs : List Int) (w : World) (hr : RdI w a xs) :
    Calls Try.prog 67 #[.agg #[.string s, .slice a xs.length c]] w fun e w' => ∃ g, e = .returned (.agg #[.string s, .slice (some ⟨g, 0, none⟩) xs.length xs.length]) ∧ w.heap.size ≤ g ∧ OwnI w' g xs ∧ Below w.heap.size w w' := by
  go_enter Try.func67, Try.ntmps67
  go_wp2_with fail
  refine (toInt64S_any a c xs _ ?_).mono ?_
  · refine hr.later (Below.alloc (Below.alloc (Below.alloc (Below.refl _ _) ?_ _) ?_ _) ?_ _)
    all_goals first | exact Nat.le_refl _ | (simp; done) | (simp; omega)
  rintro e w1 ⟨rfl, hown, hb⟩
  obtain ⟨hc, hf⟩ := bcell hb
  have hz : w.heap.size + 1 + 1 < w1.heap.size := by have := hb.size; simp at this; omega
  have HO := show Hid _ from hown
  have HB := show Hid _ from hb
  clear hown hb hr
  go_wp2_with fail
  refine bodyPost_ret (v := .agg #[.string s, .slice (some ⟨w.heap.size + 1 + 1 + 1, 0, none⟩) xs.length xs.length]) (by simp [results, Try.results67, go_sem, hc]) rfl ⟨_, rfl, by omega, ?_, ?_⟩
  · have h := HO.out
    simp only [World.size_alloc] at h
    exact ((OwnI.other h (by simp) _).other (by simp; omega) _).other (by simp; omega) _
  · have h := HB.out
    have h0 : Below w.heap.size w w1 := by
      refine Below.trans (Below.alloc (Below.alloc (Below.alloc (Below.refl _ _) ?_ _) ?_ _) ?_ _) (h.mono ?_)
      all_goals first | exact Nat.le_refl _ | (simp; done) | (simp; omega)
    exact ((h0.setCell (by simp; omega) _).setCell (by simp) _).setCell (by simp) _

theorem rowIs_of {w : World} {g : Nat} {c : Array Value} {t : TypeId} (h : w.heap[g]? = some (.cells c t (0, 0))) : w.rowIs g t c.size (fun i => (c[i]?).getD undef) :=
  ⟨c, h, rfl, fun i hi => by simp [hi]⟩

/-- A copied node: its kids lie in a block of their own. -/
def NdOwn (w : World) (G : Nat) (f : Nat → Value) (j : Nat) (x : Nd) : Prop :=
  f (j * 2) = .string x.txt ∧ f (j * 2 + 1) = .slice x.a x.ks.length x.c ∧ ∃ g, x.a = some ⟨g, 0, none⟩ ∧ G < g ∧ OwnI w g x.ks

theorem NdOwn.later {w w' : World} {G j : Nat} {f : Nat → Value} {x : Nd} (h : NdOwn w G f j x) (hb : Below w.heap.size w w') : NdOwn w' G f j x := by
  obtain ⟨h0, h1, g, h2, h3, h4⟩ := h
  exact ⟨h0, h1, g, h2, h3, h4.later hb h4.lt⟩

theorem NdOwn.put {w : World} {G j k : Nat} {f : Nat → Value} {x : Nd} (h : NdOwn w G f j x) (u v : Value) (hk : j < k) :
    NdOwn ((w.setCell ⟨G, k * 2, none⟩ u).setCell ⟨G, k * 2 + 1, none⟩ v) G (fun i => if i = k * 2 + 1 then v else if i = k * 2 then u else f i) j x := by
  obtain ⟨h0, h1, g, h2, h3, h4⟩ := h
  refine ⟨?_, ?_, g, h2, h3, (h4.other (by simp; omega) _).other (by simp; omega) _⟩
  · show (if _ then _ else _) = _
    rw [if_neg (by omega), if_neg (by omega)]; exact h0
  · show (if _ then _ else _) = _
    rw [if_neg (by omega), if_neg (by omega)]; exact h1

theorem toNodeS_any (a : Option Addr) (c : Nat) (ns : List Nd) (w : World) (hr : RdN w a ns) :
    Calls Try.prog 45 #[.slice a ns.length c] w fun e w' => ∃ ms : List Nd, e = .returned (.slice (some ⟨w.heap.size, 0, none⟩) ns.length ns.length) ∧ ms.map Nd.ct = ns.map Nd.ct ∧ (∀ u : World, (∀ g, w.heap.size ≤ g → u.heap[g]? = w'.heap[g]?) → RdN u (some ⟨w.heap.size, 0, none⟩) ms) ∧ Below w.heap.size w w' := by
  have hlen := hr.1
  have hmk := make_nodes ns.length hlen
  go_enter Try.func45, Try.ntmps45
  go_wp2_with fail
  have hrow := rowIs_of (heap_alloc_new w (.cells (madeCells #[.string .empty, .slice none 0 0] (ns.length * 2)) 59))
  rw [size_madeCells] at hrow
  have hb0 : Below w.heap.size w (w.alloc (.cells (madeCells #[.string .empty, .slice none 0 0] (ns.length * 2)) 59)) := (Below.refl _ _).alloc (Nat.le_refl _) _
  have hs0 : w.heap.size < (w.alloc (.cells (madeCells #[.string .empty, .slice none 0 0] (ns.length * 2)) 59)).heap.size := by simp
  generalize (w.alloc (.cells (madeCells #[.string .empty, .slice none 0 0] (ns.length * 2)) 59)) = w0 at *
  go_loopw [4] (fun i wr => ∃ (k : Nat) (f : Nat → Value) (ms : List Nd), k ≤ ns.length ∧ i = .int .i64 k ∧ wr.rowIs w.heap.size 59 (ns.length * 2) f ∧ ms.length = k ∧ ms.map Nd.ct = (ns.take k).map Nd.ct ∧ (∀ j x, ms[j]? = some x → NdOwn wr w.heap.size f j x) ∧ Below w.heap.size w wr ∧ w.heap.size < wr.heap.size) (fun i _ => ns.length - (intOf i).toNat)
  case atStart => exact ⟨0, _, [], Nat.zero_le _, rfl, hrow, rfl, rfl, fun j x h => by simp at h, hb0, hs0⟩
  case round =>
    obtain ⟨k, f, ms, hk, rfl, hrw, hml, hmc, hms, hbel, hsz⟩ := hrel
    clear hrow hb0 hs0
    by_cases hlt : k < ns.length
    · obtain ⟨-, h | ⟨b, o, rfl, hc⟩⟩ := hr
      · subst h; simp at hlt
      obtain ⟨⟨s1, a1, c1, k1⟩, hx⟩ : ∃ x, ns[k] = x := ⟨_, rfl⟩
      have gx : ns[k]? = some ⟨s1, a1, c1, k1⟩ := by rw [List.getElem?_eq_getElem hlt, hx]
      obtain ⟨p0, p1, p2, p3⟩ := hc k _ gx
      have p0' : wr.cell? ⟨b, o + k * 2, none⟩ = some (.string s1) := by rw [hbel.cell (by exact block_lt_of_cell p0)]; exact p0
      have p1' : wr.cell? ⟨b, o + k * 2 + 1, none⟩ = some (.slice a1 k1.length c1) := by rw [hbel.cell (by exact block_lt_of_cell p1)]; exact p1
      have p2' : RdI wr a1 k1 := p2.later hbel
      clear p0 p1 p2 p3 hx
      have GX : Hid _ := gx
      have HML : Hid _ := hml
      have HMC : Hid _ := hmc
      have HMS : Hid _ := hms
      have HR : Hid _ := hrw
      have HB : Hid _ := hbel
      have i0 : (k : Int) < (ns.length : Int) := by omega
      clear gx hml hmc hms hc hrw hbel hmk
      go_wp2_with fail
      refine (toNode_any _ _ _ _ _ p2').mono ?_
      rintro e w1 ⟨g, rfl, hg, hown, hb1⟩
      have hr1 := World.rowIs.of_block HR.out (hb1.block _ hsz)
      have q0 := hr1.cell (i := k * 2) (by omega)
      have q1 := hr1.cell (i := k * 2 + 1) (by omega)
      have r0 := hr1.frozen (k * 2)
      have r1 := hr1.frozen (k * 2 + 1)
      have HR1 : Hid _ := hr1
      clear hr1
      go_wp2_with fail
      go_roundw
      case rel =>
        have hl := HML.out
        have hgk : w.heap.size < g := by omega
        refine ⟨k + 1, _, ms ++ [⟨s1, some ⟨g, 0, none⟩, k1.length, k1⟩], by omega, by go_num, World.rowIs.set (World.rowIs.set HR1.out (k * 2) (.string s1)) (k * 2 + 1) (.slice (some ⟨g, 0, none⟩) k1.length k1.length), by simp [hl], ?_, fun j x hj => ?_, ?_, ?_⟩
        · have h := HMC.out
          rw [List.map_append, h, List.take_add_one, GX.out, List.map_append]
          rfl
        · rw [List.getElem?_append] at hj
          split at hj
          · exact ((HMS.out j x hj).later hb1).put _ _ (by omega)
          · have hj2 : j - ms.length = 0 := by
              have := (List.getElem?_eq_some_iff.1 hj).1
              simp at this; exact this
            rw [hj2] at hj
            simp at hj
            subst hj
            have hjk : j = k := by omega
            subst hjk
            refine ⟨by simp, by simp, g, rfl, hgk, ?_⟩
            exact (hown.other (by simp; omega) _).other (by simp; omega) _
        · exact ((HB.out.trans (hb1.mono HB.out.size)).setCell (Nat.le_refl _) _).setCell (Nat.le_refl _) _
        · have := hb1.size
          simp; omega
      case measure => simp [intOf]; omega
    · have e : k = ns.length := by omega
      have HM : Hid _ := hml
      have HC : Hid _ := hmc
      have HS : Hid _ := hms
      have HR : Hid _ := hrw
      have HB : Hid _ := hbel
      have HE : Hid _ := e
      clear hml hmc hms hrw hbel e hmk
      go_wp2_with fail
      go_ret
      refine ⟨ms, rfl, ?_, fun u hu => ⟨by rw [HM.out]; omega, .inr ⟨_, 0, rfl, fun i x hi => ?_⟩⟩, HB.out⟩
      · have h := HC.out
        rw [HE.out, List.take_length] at h
        exact h
      · obtain ⟨h0, h1, g, h2, h3, h4⟩ := HS.out i x hi
        have hik : i < k := by have := (List.getElem?_eq_some_iff.1 hi).1; rw [HM.out] at this; exact this
        have hct : ∃ y, ns[i]? = some y ∧ y.ct = x.ct := by
          have h := HC.out
          rw [HE.out, List.take_length] at h
          have h' : (ms.map Nd.ct)[i]? = (ns.map Nd.ct)[i]? := by rw [h]
          rw [List.getElem?_map, List.getElem?_map, hi, Option.map_some] at h'
          cases hy : ns[i]? with
          | none => rw [hy] at h'; cases h'
          | some y => rw [hy] at h'; simp at h'; exact ⟨y, rfl, h'.symm⟩
        obtain ⟨y, hy, hyx⟩ := hct
        obtain ⟨-, hn | ⟨b, o, -, hc⟩⟩ := hr
        · subst hn; simp at hy
        obtain ⟨-, -, ⟨l1, l2, -⟩, l3⟩ := hc i y hy
        simp [Nd.ct] at hyx
        rw [hyx.2] at l1 l2
        rw [hyx.1] at l3
        refine ⟨?_, ?_, ?_, l3⟩
        · rw [Nat.zero_add, ← h0]; exact (World.rowIs.of_block HR.out (hu _ (Nat.le_refl _))).cell (by omega)
        · rw [Nat.zero_add, ← h1]; exact (World.rowIs.of_block HR.out (hu _ (Nat.le_refl _))).cell (by omega)
        · rw [h2]
          refine OwnI.rd (w := u) (g := g) ?_ l1 l2
          unfold OwnI
          rw [hu g (by omega)]
          exact h4

theorem eqTree_any (a b : Option Addr) (c d : Nat) (xs ys : List Nd) (w : World) (hr : RdN w a xs) (hs : RdN w b ys) :
    Calls Try.prog 21 #[.agg #[.slice a xs.length c], .agg #[.slice b ys.length d]] w fun e w' => e = .returned (.bool (decide (xs.map Nd.ct = ys.map Nd.ct))) ∧ Below w.heap.size w w' := by
  have h2 : Below w.heap.size w ((w.alloc (Obj.cells #[Value.slice a xs.length c] 26)).alloc (Obj.cells #[Value.slice b ys.length d] 26)) := ((Below.refl _ _).alloc (Nat.le_refl _) _).alloc (by simp) _
  have HE := show Hid _ from eqNodeS_any a b c d xs ys _ (hr.later h2) (hs.later h2)
  generalize decide (xs.map Nd.ct = ys.map Nd.ct) = r at HE ⊢
  have hl1 := hr.1
  have hl2 := hs.1
  clear hr hs
  cases r with
  | true =>
    go_enter Try.func21, Try.ntmps21
    go_wp2_with fail
    refine Calls.mono HE.out ?_
    rintro e w1 ⟨rfl, hb1⟩
    go_wp2_with fail
    go_ret
    exact ⟨rfl, h2.trans (hb1.mono (by simp; omega))⟩
  | false =>
    go_enter Try.func21, Try.ntmps21
    go_wp2_with fail
    refine Calls.mono HE.out ?_
    rintro e w1 ⟨rfl, hb1⟩
    go_wp2_with fail
    go_ret
    exact ⟨rfl, h2.trans (hb1.mono (by simp; omega))⟩

theorem toTree_any (a : Option Addr) (c : Nat) (ns : List Nd) (w : World) (hr : RdN w a ns) :
    Calls Try.prog 20 #[.agg #[.slice a ns.length c]] w fun e w' => ∃ (g : Nat) (ms : List Nd), e = .returned (.agg #[.slice (some ⟨g, 0, none⟩) ns.length ns.length]) ∧ ms.map Nd.ct = ns.map Nd.ct ∧ RdN w' (some ⟨g, 0, none⟩) ms ∧ Below w.heap.size w w' := by
  go_enter Try.func20, Try.ntmps20
  go_wp2_with fail
  refine (toNodeS_any a c ns _ ?_).mono ?_
  · refine hr.later (Below.alloc (Below.alloc (Below.alloc (Below.refl _ _) ?_ _) ?_ _) ?_ _)
    all_goals first | exact Nat.le_refl _ | (simp; done) | (simp; omega)
  rintro e w1 ⟨ms, rfl, hms, hrd, hb⟩
  obtain ⟨hc, hf⟩ := bcell hb
  have hz : w.heap.size + 1 + 1 < w1.heap.size := by have := hb.size; simp at this; omega
  have HO := show Hid _ from hrd
  have HB := show Hid _ from hb
  have HM := show Hid _ from hms
  clear hrd hb hr hms
  go_wp2_with fail
  refine bodyPost_ret (v := .agg #[.slice (some ⟨w.heap.size + 1 + 1 + 1, 0, none⟩) ns.length ns.length]) (by simp [results, Try.results20, go_sem, hc]) rfl ⟨_, ms, rfl, HM.out, ?_, ?_⟩
  · have h := HO.out
    simp only [World.size_alloc] at h
    refine h _ fun g hg => ?_
    rw [heap_setCell_other _ _ _ _ (by simp; omega), heap_setCell_other _ _ _ _ (by simp; omega)]
  · have h := HB.out
    have h0 : Below w.heap.size w w1 := by
      refine Below.trans (Below.alloc (Below.alloc (Below.alloc (Below.refl _ _) ?_ _) ?_ _) ?_ _) (h.mono ?_)
      all_goals first | exact Nat.le_refl _ | (simp; done) | (simp; omega)
    exact (h0.setCell (by simp; omega) _).setCell (by simp) _

end Go.Proofs.Yteainbakfeedpaa
