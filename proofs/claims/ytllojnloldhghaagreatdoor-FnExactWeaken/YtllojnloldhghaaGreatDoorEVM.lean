/- Words that are marked: rows of them, and one that is an answer. -/
import Derived.Test.YtllojnloldhghaaGreatDoorEB
import Derived.Test.YtllojnloldhghaaGreatDoorZKG
import Derived.Test.YtllojnloldhghaaGreatDoorZBB
namespace Go.Proofs.YtllojnloldhghaaGreatDoor
set_option linter.unusedVariables false
set_option linter.unusedSimpArgs false
open Go.RowKit


theorem toBitsS_own (a : Option Addr) (c : Nat) (xs : List Bw) (w : World) (hr : RdW w a xs) :
    Calls Tryz.prog 13 #[.slice a xs.length c] w fun e w' => ∃ ms : List Bw, e = .returned (.slice (some ⟨w.heap.size, 0, none⟩) xs.length xs.length) ∧ ms.map Bw.ct = xs.map Bw.ct ∧ RdW w' (some ⟨w.heap.size, 0, none⟩) ms ∧ (∃ f, w'.rowIs w.heap.size 82 (xs.length * 2) f ∧ ∀ j x, ms[j]? = some x → BwOwn w' w.heap.size f j x) ∧ Below w.heap.size w w' := by
  have hlen := hr.1
  have hmk := make_words xs.length hlen
  go_enter Tryz.func13, Tryz.ntmps13
  go_wp2_with fail
  have hrow := krow (heap_alloc_new w (.cells (madeCells #[.int .i64 0, .slice none 0 0] (xs.length * 2)) 82))
  rw [size_madeCells] at hrow
  have hb0 : Below w.heap.size w (w.alloc (.cells (madeCells #[.int .i64 0, .slice none 0 0] (xs.length * 2)) 82)) := (Below.refl _ _).alloc (Nat.le_refl _) _
  have hs0 : w.heap.size < (w.alloc (.cells (madeCells #[.int .i64 0, .slice none 0 0] (xs.length * 2)) 82)).heap.size := by simp
  generalize (w.alloc (.cells (madeCells #[.int .i64 0, .slice none 0 0] (xs.length * 2)) 82)) = w0 at *
  go_loopw [4] (fun i wr => ∃ (k : Nat) (f : Nat → Value) (ms : List Bw), k ≤ xs.length ∧ i = .int .i64 k ∧ wr.rowIs w.heap.size 82 (xs.length * 2) f ∧ ms.length = k ∧ ms.map Bw.ct = (xs.take k).map Bw.ct ∧ (∀ j x, ms[j]? = some x → BwOwn wr w.heap.size f j x) ∧ Below w.heap.size w wr ∧ w.heap.size < wr.heap.size) (fun i _ => xs.length - (intOf i).toNat)
  case atStart => exact ⟨0, _, [], Nat.zero_le _, rfl, hrow, rfl, rfl, fun j x h => by simp at h, hb0, hs0⟩
  case round =>
    obtain ⟨k, f, ms, hk, rfl, hrw, hml, hmc, hms, hbel, hsz⟩ := hrel
    clear hrow hb0 hs0
    by_cases hlt : k < xs.length
    · obtain ⟨-, h | ⟨b, o, rfl, hc⟩⟩ := hr
      · subst h; simp at hlt
      obtain ⟨⟨s1, a1, c1, k1⟩, hx⟩ : ∃ x, xs[k] = x := ⟨_, rfl⟩
      have gx : xs[k]? = some ⟨s1, a1, c1, k1⟩ := by rw [List.getElem?_eq_getElem hlt, hx]
      obtain ⟨p0', p1', p2', p3'⟩ := (hc k _ gx).later hbel
      simp only [] at p0' p1' p2' p3'
      clear hx
      have GX : Hid _ := gx
      have HML : Hid _ := hml
      have HMC : Hid _ := hmc
      have HMS : Hid _ := hms
      have HR : Hid _ := hrw
      have HB : Hid _ := hbel
      have i0 : (k : Int) < (xs.length : Int) := by omega
      clear gx hml hmc hms hc hrw hbel hmk p3'
      go_wp2_with fail
      refine (toBits_any _ _ _ _ _ p2').mono ?_
      rintro e w1 ⟨g, rfl, hg, hown, hb1⟩
      have hr1 := World.rowIs.of_block HR.out (hb1.block _ hsz)
      have q0 := hr1.cell (i := k * 2) (by omega)
      have q1 := hr1.cell (i := k * 2 + 1) (by omega)
      have r0 := hr1.frozen (k * 2)
      have r1 := hr1.frozen (k * 2 + 1)
      have HR1 : Hid _ := hr1
      clear hr1
      go_wp2_with fail
      go_roundw
      case rel =>
        have hl := HML.out
        have hgk : w.heap.size < g := by omega
        refine ⟨k + 1, _, ms ++ [⟨s1, some ⟨g, 0, none⟩, k1.length, k1⟩], by omega, by go_num, World.rowIs.set (World.rowIs.set HR1.out (k * 2) (.int .i64 s1)) (k * 2 + 1) (.slice (some ⟨g, 0, none⟩) k1.length k1.length), by simp [hl], ?_, fun j x hj => ?_, ?_, ?_⟩
        · have h := HMC.out
          rw [List.map_append, h, List.take_add_one, GX.out, List.map_append]
          rfl
        · rw [List.getElem?_append] at hj
          split at hj
          · exact ((HMS.out j x hj).later hb1).put _ _ (by omega)
          · have hj2 : j - ms.length = 0 := by
              have := (List.getElem?_eq_some_iff.1 hj).1
              simp at this; exact this
            rw [hj2] at hj
            simp at hj
            subst hj
            have hjk : j = k := by omega
            subst hjk
            refine ⟨by simp, by simp, g, rfl, hgk, ?_⟩
            exact (hown.other (by simp; omega) _).other (by simp; omega) _
        · exact ((HB.out.trans (hb1.mono HB.out.size)).setCell (Nat.le_refl _) _).setCell (Nat.le_refl _) _
        · have := hb1.size
          simp; omega
      case measure => simp [intOf]; omega
    · have e : k = xs.length := by omega
      have HM : Hid _ := hml
      have HC : Hid _ := hmc
      have HS : Hid _ := hms
      have HR : Hid _ := hrw
      have HB : Hid _ := hbel
      have HE : Hid _ := e
      clear hml hmc hms hrw hbel e hmk
      go_wp2_with fail
      go_ret
      refine ⟨ms, rfl, ?_, ⟨by rw [HM.out]; omega, .inr ⟨_, 0, rfl, fun i x hi => ?_⟩⟩, ⟨f, HR.out, HS.out⟩, HB.out⟩
      · have h := HC.out
        rw [HE.out, List.take_length] at h
        exact h
      · obtain ⟨h0, h1, g, h2, h3, h4⟩ := HS.out i x hi
        have hik : i < k := by have := (List.getElem?_eq_some_iff.1 hi).1; rw [HM.out] at this; exact this
        have hct : ∃ y, xs[i]? = some y ∧ y.ct = x.ct := by
          have h := HC.out
          rw [HE.out, List.take_length] at h
          have h' : (ms.map Bw.ct)[i]? = (xs.map Bw.ct)[i]? := by rw [h]
          rw [List.getElem?_map, List.getElem?_map, hi, Option.map_some] at h'
          cases hy : xs[i]? with
          | none => rw [hy] at h'; cases h'
          | some y => rw [hy] at h'; simp at h'; exact ⟨y, rfl, h'.symm⟩
        obtain ⟨y, hy, hyx⟩ := hct
        obtain ⟨-, hn | ⟨b, o, -, hc⟩⟩ := hr
        · subst hn; simp at hy
        obtain ⟨-, -, ⟨l1, l2, -⟩, l3⟩ := hc i y hy
        simp [Bw.ct] at hyx
        rw [hyx.2] at l1 l2
        rw [hyx.1] at l3
        refine ⟨?_, ?_, ?_, l3⟩
        · rw [Nat.zero_add, ← h0]; exact World.rowIs.cell HR.out (by omega)
        · rw [Nat.zero_add, ← h1]; exact World.rowIs.cell HR.out (by omega)
        · rw [h2]
          exact Own.rd h4 l1 l2


def WrB (w : World) (B1 B2 : Nat) (x : Bw) : Prop := ∃ g zs, x.a = some ⟨g, 0, none⟩ ∧ B1 ≤ g ∧ g < B2 ∧ Own w g zs ∧ zs.length = x.ws.length

theorem WrB.words {w w' : World} {B1 B2 g : Nat} {x : Bw} (h : WrB w B1 B2 x) (hg : w.grownBy w' (some g)) {zs zs' : List Nat} (ho : Own w g zs) (ho' : Own w' g zs') (hl : zs'.length = zs.length) : WrB w' B1 B2 x := by
  obtain ⟨g0, z0, e, b1, b2, o, l⟩ := h
  by_cases hgg : g0 = g
  · subst hgg
    exact ⟨g0, zs', e, b1, b2, ho', by rw [hl, own_len ho o]; exact l⟩
  · refine ⟨g0, z0, e, b1, b2, ?_, l⟩
    unfold Own
    rw [hg.block g0 o.lt (by simpa using hgg)]
    exact o

theorem WrB.set {w : World} {B1 B2 g N : Nat} {x : Bw} {f : Nat → Value} (h : WrB w B1 B2 x) (hr : w.rowIs g 82 N f) (i : Nat) (v : Value) : WrB (w.setCell ⟨g, i, none⟩ v) B1 B2 x := by
  obtain ⟨g0, z0, e, b1, b2, o, l⟩ := h
  refine ⟨g0, z0, e, b1, b2, ?_, l⟩
  have hne : g0 ≠ g := fun hh => by
    subst hh
    obtain ⟨cc, h1, -⟩ := hr
    unfold Own at o
    rw [h1] at o
    cases o
  exact o.other (by simpa using hne) v

theorem WrB.out {w w' : World} {B1 B2 C1 C2 : Nat} {x : Bw} (h : WrB w B1 B2 x) (ho : Out C1 C2 w w') (hd : C2 ≤ B1 ∨ B2 ≤ C1) : WrB w' B1 B2 x := by
  obtain ⟨g0, z0, e, b1, b2, o, l⟩ := h
  refine ⟨g0, z0, e, b1, b2, ?_, l⟩
  unfold Own
  rw [ho.2.2.2.2 g0 o.lt (by omega)]
  exact o

def BwF (f : Nat → Value) (xs : List Bw) : Prop := ∀ i x, xs[i]? = some x → (∃ k0 : Int, f (i * 2) = .int .i64 k0) ∧ f (i * 2 + 1) = .slice x.a x.ws.length x.c

def sumB (xs : List Bw) : Nat := (xs.map fun x => x.ws.length).sum

theorem sumB_take {xs : List Bw} {i : Nat} {x : Bw} (h : xs[i]? = some x) : sumB (xs.take (i + 1)) = sumB (xs.take i) + x.ws.length := by
  simp [sumB, List.take_add_one, h]

theorem sumB_le (xs : List Bw) (i : Nat) : sumB (xs.take i) ≤ sumB xs := by
  have : sumB xs = sumB (xs.take i) + sumB (xs.drop i) := by
    unfold sumB
    rw [← List.sum_append, ← List.map_append, List.take_append_drop]
  omega

end Go.Proofs.YtllojnloldhghaaGreatDoor
