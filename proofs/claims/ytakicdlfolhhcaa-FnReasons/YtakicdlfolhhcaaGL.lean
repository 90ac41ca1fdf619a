/- A forest copied. -/
import Derived.Test.YtakicdlfolhhcaaGK
namespace Go.Proofs.Ytakicdlfolhhcaa
set_option linter.unusedVariables false
set_option linter.unusedSimpArgs false
open Go.RowKit

theorem Try.infoLink : (Try.prog.info? 55).map (fun i => (i.zero, i.size, i.bytes)) = some (some (.agg #[.int .i64 0, .int .i64 0, .int .i64 0]), 3, 24) := by kernel_rfl

theorem make_links (n : Nat) (hn : n ≤ 1048576) (kl kc : IntKind) (w : World) :
    (Instr.makeSlice 27 (.int kl (n : Int)) (.int kc (n : Int))).run Try.prog w = .ok (.slice (some ⟨w.heap.size, 0, none⟩) n n) (w.alloc (.cells (madeCells #[.int .i64 0, .int .i64 0, .int .i64 0] (n * 3)) 55)) := by
  obtain ⟨i0, hi, hz0, hz1, hz2⟩ := info_parts Try.infoLink
  have := run_make (P := Try.prog) w 27 55 i0 _ Try.underlying27 hi hz0 kl kc n n (by omega) (Int.le_refl _) (by rw [hz2]; omega) (by omega)
  rw [hz1] at this
  simp only [Int.toNat_natCast] at this
  exact this

theorem toLinkS_row (a : Option Addr) (c : Nat) (ls : List Lk) (w : World) (hr : RdK w a ls) :
    Calls Try.prog 42 #[.slice a ls.length c] w fun e w' => e = .returned (.slice (some ⟨w.heap.size, 0, none⟩) ls.length ls.length) ∧ RdK w' (some ⟨w.heap.size, 0, none⟩) ls ∧ (∃ f, w'.rowIs w.heap.size 55 (ls.length * 3) f) ∧ Below w.heap.size w w' := by
  have hlen := hr.1
  have hmk := make_links ls.length hlen
  go_enter Try.func42, Try.ntmps42
  go_wp2_with fail
  have hrow := krow (heap_alloc_new w (.cells (madeCells #[.int .i64 0, .int .i64 0, .int .i64 0] (ls.length * 3)) 55))
  rw [size_madeCells] at hrow
  have hb0 : Below w.heap.size w (w.alloc (.cells (madeCells #[.int .i64 0, .int .i64 0, .int .i64 0] (ls.length * 3)) 55)) := (Below.refl _ _).alloc (Nat.le_refl _) _
  have hs0 : w.heap.size < (w.alloc (.cells (madeCells #[.int .i64 0, .int .i64 0, .int .i64 0] (ls.length * 3)) 55)).heap.size := by simp
  generalize (w.alloc (.cells (madeCells #[.int .i64 0, .int .i64 0, .int .i64 0] (ls.length * 3)) 55)) = w0 at *
  go_loopw [4] (fun i wr => ∃ (k : Nat) (f : Nat → Value), k ≤ ls.length ∧ i = .int .i64 k ∧ wr.rowIs w.heap.size 55 (ls.length * 3) f ∧ (∀ (j : Nat) (d : Lk), j < k → ls[j]? = some d → f (j * 3) = .int .i64 d.1 ∧ f (j * 3 + 1) = .int .i64 d.2.1 ∧ f (j * 3 + 2) = .int .i64 d.2.2) ∧ Below w.heap.size w wr ∧ w.heap.size < wr.heap.size) (fun i _ => ls.length - (intOf i).toNat)
  case atStart => exact ⟨0, _, Nat.zero_le _, rfl, hrow, fun j d h => by omega, hb0, hs0⟩
  case round =>
    obtain ⟨k, f, hk, rfl, hrw, hms, hbel, hsz⟩ := hrel
    clear hrow hb0 hs0
    by_cases hlt : k < ls.length
    · obtain ⟨-, -, h | ⟨b, o, rfl, hc⟩⟩ := hr
      · subst h; simp at hlt
      obtain ⟨⟨x, y, z⟩, hh⟩ : ∃ x, ls[k] = x := ⟨_, rfl⟩
      have gx : ls[k]? = some (x, y, z) := by rw [List.getElem?_eq_getElem hlt, hh]
      obtain ⟨p0, p1, p2⟩ := (hc k _ gx).later hbel
      simp only [] at p0 p1 p2
      have GX : Hid _ := gx
      have HMS : Hid _ := hms
      have HR : Hid _ := hrw
      have HB : Hid _ := hbel
      have i0 : (k : Int) < (ls.length : Int) := by omega
      clear gx hms hc hrw hbel hmk hh
      go_wp2_with fail
      refine (toLink_any _ _ _ _).mono ?_
      rintro e w1 ⟨rfl, hb1⟩
      have hr1 := World.rowIs.of_block HR.out (hb1.block _ hsz)
      have q0 := hr1.cell (i := k * 3) (by omega)
      have q1 := hr1.cell (i := k * 3 + 1) (by omega)
      have q2 := hr1.cell (i := k * 3 + 2) (by omega)
      have r0 := hr1.frozen (k * 3)
      have r1 := hr1.frozen (k * 3 + 1)
      have r2 := hr1.frozen (k * 3 + 2)
      have HR1 : Hid _ := hr1
      clear hr1
      go_wp2_with fail
      go_roundw
      case rel =>
        refine ⟨k + 1, _, by omega, by go_num, World.rowIs.set (World.rowIs.set (World.rowIs.set HR1.out (k * 3) (.int .i64 x)) (k * 3 + 1) (.int .i64 y)) (k * 3 + 2) (.int .i64 z), fun j d hj hd => ?_, ?_, ?_⟩
        · by_cases hjk : j = k
          · subst hjk
            rw [GX.out] at hd
            cases hd
            exact ⟨by simp, by simp, by simp⟩
          · obtain ⟨h0, h1, h2⟩ := HMS.out j d (by omega) hd
            refine ⟨?_, ?_, ?_⟩
            · show (if _ then _ else _) = _
              rw [if_neg (by omega), if_neg (by omega), if_neg (by omega)]; exact h0
            · show (if _ then _ else _) = _
              rw [if_neg (by omega), if_neg (by omega), if_neg (by omega)]; exact h1
            · show (if _ then _ else _) = _
              rw [if_neg (by omega), if_neg (by omega), if_neg (by omega)]; exact h2
        · exact (((HB.out.trans (hb1.mono HB.out.size)).setCell (Nat.le_refl _) _).setCell (Nat.le_refl _) _).setCell (Nat.le_refl _) _
        · have := hb1.size
          simp; omega
      case measure => simp [intOf]; omega
    · have HS : Hid _ := hms
      have HR : Hid _ := hrw
      have HB : Hid _ := hbel
      clear hms hrw hbel hmk
      go_wp2_with fail
      go_ret
      refine ⟨rfl, ⟨hr.1, hr.2.1, .inr ⟨_, 0, rfl, fun i d hi => ?_⟩⟩, ⟨f, HR.out⟩, HB.out⟩
      have hil := (List.getElem?_eq_some_iff.1 hi).1
      obtain ⟨h0, h1, h2⟩ := HS.out i d (by omega) hi
      refine ⟨?_, ?_, ?_⟩
      · rw [Nat.zero_add, ← h0]; exact World.rowIs.cell HR.out (by omega)
      · rw [Nat.zero_add, ← h1]; exact World.rowIs.cell HR.out (by omega)
      · rw [Nat.zero_add, ← h2]; exact World.rowIs.cell HR.out (by omega)

theorem RdK.set {w : World} {b : Nat} {ls : List Lk} (h : RdK w (some ⟨b, 0, none⟩) ls) {p : Addr} (hp : b ≠ p.block) (v : Value) : RdK (w.setCell p v) (some ⟨b, 0, none⟩) ls := by
  obtain ⟨h1, h2, h3⟩ := h
  refine ⟨h1, h2, ?_⟩
  rcases h3 with h3 | ⟨b', o, e, hc⟩
  · exact .inl h3
  · cases e
    refine .inr ⟨b, 0, rfl, fun i l hi => ?_⟩
    obtain ⟨c0, c1, c2⟩ := hc i l hi
    exact ⟨by rw [World.cell?_setCell_far _ _ _ _ (Ne.symm hp)]; exact c0, by rw [World.cell?_setCell_far _ _ _ _ (Ne.symm hp)]; exact c1, by rw [World.cell?_setCell_far _ _ _ _ (Ne.symm hp)]; exact c2⟩

theorem toForest_any (z : Int) (a : Option Addr) (c : Nat) (ls : List Lk) (w : World) (hr : RdK w a ls) (n : Nat) (hn : ls.length = n) :
    Calls Try.prog 13 #[.agg #[.int .i64 z, .slice a n c]] w fun e w' => ∃ g, e = .returned (.agg #[.int .i64 z, .slice (some ⟨g, 0, none⟩) n n]) ∧ w.heap.size ≤ g ∧ RdK w' (some ⟨g, 0, none⟩) ls ∧ Below w.heap.size w w' := by
  subst hn
  go_enter Try.func13, Try.ntmps13
  go_wp2_with fail
  refine (toLinkS_row a c ls _ ?_).mono ?_
  · refine hr.later (Below.alloc (Below.alloc (Below.alloc (Below.refl _ _) ?_ _) ?_ _) ?_ _)
    all_goals first | exact Nat.le_refl _ | (simp; done) | (simp; omega)
  rintro e w1 ⟨rfl, hrd, -, hb⟩
  have hc := kcell hb
  have hz : w.heap.size + 1 + 1 < w1.heap.size := by have := hb.size; simp at this; omega
  have hf := kfrozK hb
  have HO := kide hrd
  have HB := kide hb
  clear hrd hb hr
  go_wp2_with fail
  refine bodyPost_ret (v := .agg #[.int .i64 z, .slice (some ⟨w.heap.size + 1 + 1 + 1, 0, none⟩) ls.length ls.length]) (by simp [results, Try.results13, go_sem, hc]) rfl ⟨_, rfl, by omega, ?_, ?_⟩
  · have h := HO.out
    simp only [World.size_alloc] at h
    iterate 2 (refine RdK.set ?_ (by simp; try omega) _)
    all_goals first | exact h | skip
    all_goals (refine RdK.set ?_ (by simp; try omega) _)
    all_goals first | exact h | skip
    all_goals (refine RdK.set ?_ (by simp; try omega) _)
    all_goals exact h
  · have h := HB.out
    have h0 : Below w.heap.size w w1 := by
      refine Below.trans (Below.alloc (Below.alloc (Below.alloc (Below.refl _ _) ?_ _) ?_ _) ?_ _) (h.mono ?_)
      all_goals first | exact Nat.le_refl _ | (simp; done) | (simp; omega)
    first
      | exact (h0.setCell (by simp; omega) _).setCell (by simp) _
      | exact ((h0.setCell (by simp; try omega) _).setCell (by simp; try omega) _).setCell (by simp; try omega) _
      | exact (((h0.setCell (by simp; try omega) _).setCell (by simp; try omega) _).setCell (by simp; try omega) _).setCell (by simp; try omega) _

end Go.Proofs.Ytakicdlfolhhcaa
