/- What the program's CnfOk answers: the whole. -/
import Derived.Test.YtpajfeboaeoclaaCN
import Derived.Test.YtpajfeboaeoclaaCNA
namespace Go.Proofs.Ytpajfeboaeoclaa
set_option linter.unusedVariables false
set_option linter.unusedSimpArgs false
open Go.RowKit

theorem not_any_not {α : Type} (p : α → Bool) (l : List α) : (!l.any fun x => !p x) = l.all p := by
  induction l with
  | nil => rfl
  | cons x t ih => rw [List.any_cons, List.all_cons, ← ih]; cases p x <;> simp

theorem implCnf_any (S : Int) (a : Option Addr) (c n : Nat) (xs : List Iw) (w : World) (hs : RdII w a xs) (hn : xs.length = n) :
    Calls Try.prog 9 #[.agg #[.int .i64 S, .slice a n c]] w fun e w' => e = .returned (.bool (cnfR S (xs.map Iw.ks))) ∧ Below w.heap.size w w' := by
  have hl2 := hs.1
  rw [hn] at hl2
  have hb0 : Below w.heap.size w (w.alloc (Obj.cells #[Value.int .i64 S, Value.slice a n c] 27)) := (Below.refl _ _).alloc (Nat.le_refl _) _
  have B0 := kide hb0
  by_cases h0 : 0 ≤ S
  · by_cases h1 : S ≤ 400
    · by_cases h4 : n ≤ 4000
      · have c0 : (w.alloc (Obj.cells #[Value.int .i64 S, Value.slice a n c] 27)).cell? ⟨w.heap.size, 0, none⟩ = some (Value.int .i64 S) := by simp
        have c1 : (w.alloc (Obj.cells #[Value.int .i64 S, Value.slice a n c] 27)).cell? ⟨w.heap.size, 1, none⟩ = some (Value.slice a n c) := by simp
        have l0 : w.heap.size < (w.alloc (Obj.cells #[Value.int .i64 S, Value.slice a n c] 27)).heap.size := by simp
        have HZ : Hid (cnfR S (xs.map Iw.ks) = !(xs.map Iw.ks).any fun k => !claR S k) := by
          show _ = _
          rw [not_any_not]
          exact cnfR_yes (decide_eq_true ⟨h0, h1⟩) (by rw [List.length_map, hn]; exact h4)
        have HC := kide (ContainsSS_any 33 enter_CnfOk1 (.pointer (some ⟨w.heap.size, 0, none⟩)) (fun k => !claR S k) a c n xs _ (hs.later hb0) hn
          (fun u hu x hx => by
            refine wrong_any S ⟨h0, h1⟩ (.slice a n c) x.a x.c x.ks w.heap.size u ?_ ((kcell hu _ _ l0).trans c0) ((kcell hu _ _ l0).trans c1)
            obtain ⟨i, hi⟩ := List.getElem?_of_mem hx
            rcases (hs.later hb0).2 with h | ⟨b, o, -, hc⟩
            · subst h; simp at hi
            · exact (hc i x hi).2.later hu))
        generalize (xs.map Iw.ks).any (fun k => !claR S k) = Z at *
        generalize cnfR S (xs.map Iw.ks) = V at *
        clear hs hn hb0 c0 c1 l0
        go_enter Try.func9, Try.ntmps9
        go_wp2_with fail
        refine Calls.mono HC.out ?_
        rintro e w1 ⟨rfl, hb1⟩
        go_wp2_with fail
        go_ret
        exact ⟨ret_bool HZ.out.symm, B0.out.trans (hb1.mono B0.out.size)⟩
      · rw [cnfR_no2 (by rw [List.length_map, hn]; exact h4)]
        clear hs hn hb0
        go_enter Try.func9, Try.ntmps9
        go_wp2_with fail
        go_ret
        exact ⟨rfl, B0.out⟩
    · rw [cnfR_no1 (decide_eq_false (by omega))]
      clear hs hn hb0
      go_enter Try.func9, Try.ntmps9
      go_wp2_with fail
      go_ret
      exact ⟨rfl, B0.out⟩
  · rw [cnfR_no1 (decide_eq_false (by omega))]
    clear hs hn hb0
    go_enter Try.func9, Try.ntmps9
    go_wp2_with fail
    go_ret
    exact ⟨rfl, B0.out⟩

end Go.Proofs.Ytpajfeboaeoclaa
