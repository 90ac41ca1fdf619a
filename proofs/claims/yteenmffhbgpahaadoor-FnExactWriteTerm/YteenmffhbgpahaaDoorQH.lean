/- The given l3Widths, where it refuses at once. (The rest, l3Widths_yes, goes on behind the same head: then hmk := run_make_row' of []bool, two allocs, the loop with slots wide 6, used 7, i 8: carry in a bundle the box and the empty row `none` as heap facts, the row of bools as rowIs U, wide as OW with base w1.heap.size.) -/
import Derived.Test.YteenmffhbgpahaaDoorQG
namespace Go.Proofs.YteenmffhbgpahaaDoor
set_option linter.unusedVariables false
set_option linter.unusedSimpArgs false
open Go.RowKit

theorem OW.fresh (w : World) (B : Nat) (hB : B ≤ w.heap.size) : OW (w.alloc (Obj.cells #[] 2)) B (.slice (some ⟨w.heap.size, 0, none⟩) 0 0) [] :=
  ⟨rfl, .inr ⟨w.heap.size, 0, #[], rfl, hB, heap_alloc_new _ _, Nat.le_refl _, by unfold maxLen; omega, rfl, rfl⟩⟩

theorem Tryd.infoBool : (Tryd.prog.info? 4).map (fun i => (i.zero, i.size, i.bytes)) = some (some (.bool false), 1, 1) := by kernel_rfl

set_option maxHeartbeats 1000000 in
theorem l3Widths_no (a b : Option Addr) (c c2 n : Nat) (ds : List Dc) (xs : List Tg) (w : World) (hr : RdD w a ds) (hs : RdT w b xs) (hn : xs.length = n) (hok : ¬ (dclR ds = true ∧ 1 ≤ n ∧ n ≤ 400)) :
    Calls Tryd.prog 28 #[.slice a ds.length c, .agg #[.slice b n c2]] w fun e w' => ∃ v, e = .returned v ∧ OW w' (w.heap.size + 1) v (widthsR ds (xs.map Tg.ct)) ∧ Below w.heap.size w w' := by
  have hl1 := hr.1
  have hl2 := hs.1
  rw [hn] at hl2
  have HR := kide hr
  have HS := kide hs
  have HN := kide hn
  have hb1 : Below w.heap.size w (w.alloc (Obj.cells #[Value.slice b n c2] 33)) := (Below.refl _ _).alloc (Nat.le_refl _) _
  have hb2 : Below w.heap.size w ((w.alloc (Obj.cells #[Value.slice b n c2] 33)).alloc (Obj.cells #[] 2)) := hb1.alloc (by simp) _
  have B2 := kide hb2
  have HDK := kide (fun u (hu : Below w.heap.size w u) => specDecls_any a c ds u (hr.later hu))
  generalize hZ : widthsR ds (xs.map Tg.ct) = Z
  have HZ := kide hZ
  clear hr hs hn hb1 hb2 hZ
  go_enter Tryd.func28, Tryd.ntmps28
  go_wp2_with fail
  refine Calls.mono (HDK.out _ B2.out) ?_
  rintro e w1 ⟨rfl, hb1⟩
  have c1 := kcell hb1 w.heap.size 0 (by simp; omega)
  have n1 : w1.heap[w.heap.size + 1]? = some (.cells #[] 2 (0, 0)) := by
    rw [hb1.block _ (by simp)]
    have h := heap_alloc_new (w.alloc (Obj.cells #[Value.slice b n c2] 33)) (Obj.cells #[] 2)
    simpa using h
  have B1 := kide (B2.out.trans (hb1.mono B2.out.size))
  have z1 : w.heap.size + 1 < w1.heap.size := lt_of_block n1
  have zz : w.heap.size < w1.heap.size := by omega
  simp at c1
  clear hb1 B2
  have ON1 : Hid (OW w1 (w.heap.size + 1) (.slice (some ⟨w.heap.size + 1, 0, none⟩) 0 0) []) := ⟨rfl, .inr ⟨w.heap.size + 1, 0, #[], rfl, Nat.le_refl _, n1, Nat.le_refl _, by unfold maxLen; omega, rfl, rfl⟩⟩
  have hZ0 : Z = [] := by
    rw [← HZ.out, widthsR, if_neg]
    have := HN.out
    simp only [Bool.and_eq_true, decide_eq_true_eq, List.length_map, this]
    rintro ⟨⟨h1, h2⟩, h3⟩
    exact hok ⟨h1, h2, h3⟩
  subst hZ0
  cases hd : dclR ds with
  | false =>
    clear HZ HDK hok
    go_wp2_with fail
    go_ret
    exact ⟨_, rfl, ON1.out, B1.out⟩
  | true =>
    have hor : n < 1 ∨ 400 < n := by rw [hd] at hok; simp at hok; omega
    rcases hor with hor | hor
    · have : n = 0 := by omega
      subst this
      clear HZ HDK hok
      go_wp2_with fail
      go_ret
      exact ⟨_, rfl, ON1.out, B1.out⟩
    · clear HZ HDK hok
      go_wp2_with fail
      go_ret
      exact ⟨_, rfl, ON1.out, B1.out⟩

end Go.Proofs.YteenmffhbgpahaaDoor
