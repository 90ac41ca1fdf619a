/- SaveSession, by the program. -/
import Derived.Test.YtofdkdaehhpgbaaGreatDoorVSH
import Derived.Test.YtofdkdaehhpgbaaGreatDoorSSK
import Derived.Lib.SliceRun
namespace Go.Proofs.YtofdkdaehhpgbaaGreatDoor
set_option linter.unusedVariables false
set_option linter.unusedSimpArgs false
open Go.RowKit

/-- Bytes that can be read, appended to a row of the call's own. -/
theorem wpList_appBr (w : World) {ops : Array Oper} {rest : List Oper} {o : Oper} {a : Act} {Q : Exit → Act → World → Prop} (hgd : o.guard = none) (s x : Operand)
    (ho : o.op = .call { callee := .builtin .append, args := #[s, x], argTypes := #[37, 37] })
    (base : Nat) (v : Value) (bs ys : List Nat) (hs : a.eval s = v) (hown : OwB w base v bs) (b o' m c : Nat) (hx : a.eval x = .slice (some ⟨b, o', none⟩) m c) (hm : ys.length = m)
    (hr : RdB w (some ⟨b, o', none⟩) ys) (hl : bs.length + m ≤ 1099511627776) (hbase : base ≤ w.heap.size)
    (h : ∀ v' w', OwB w' base v' (bs ++ ys) → w.grownBy w' v.ownBlock → wpList Tryz.prog ops Q rest (a.put o.dst v') w') : wpList Tryz.prog ops Q (o :: rest) a w := by
  obtain ⟨i0, hi, hz0, hz1, hz2⟩ := info_parts Tryz.infoU8
  refine wpList_append_own w hgd s x 37 ho base 5 i0 (.int .u8 0) 1 1 Tryz.underlying37 hi hz0 hz1 hz2 rfl (by decide) v bs.length (u8s bs) hs hown ⟨b, o', none⟩ m c (u8s ys) hx (by rw [u8s_len, hm, Nat.mul_one]) ?_ (u8s_one ys) ?_ ?_ hbase ?_
  · intro j u hj
    rcases hr with rfl | ⟨b2, o2, e, hc⟩
    · simp [u8s] at hj
    · cases e
      rw [Addr.add_lit]
      exact hc j u hj
  · unfold maxLen; omega
  · omega
  · intro v' w' h1 h2 _
    refine h v' w' ?_ h2
    unfold OwB
    rw [u8s_app, List.length_append, hm]
    exact h1

theorem clone_any (b o m c : Nat) (ys : List Nat) (w : World) (hr : RdB w (some ⟨b, o, none⟩) ys) (hm : ys.length = m) (hm2 : m ≤ 1048576) :
    Calls Tryz.prog 41 #[.slice (some ⟨b, o, none⟩) m c] w fun e w' => ∃ v, e = .returned v ∧ OwB w' w.heap.size v ys ∧ Below w.heap.size w w' := by
  have hbx : Below w.heap.size w (w.alloc (.cells #[] 5)) := (Below.refl _ _).alloc (Nat.le_refl _) _
  have HR := kide (hr.later hbx)
  have HO := kide (OwB.empty w w.heap.size (Nat.le_refl _))
  have HB := kide hbx
  have HM := kide hm
  have hnil := fun (u : World) => Lib.run_eql_slice_nil (P := Tryz.prog) u 37 5 (some ⟨b, o, none⟩) m c 0 0 Tryz.underlying37
  clear hr hbx hm
  go_enter Tryz.func41, Tryz.ntmps41
  go_wp2_with (at_builtin; refine wpList_appBr _ rfl _ _ rfl w.heap.size _ [] ys rfl HO.out b o m c rfl HM.out HR.out (by simp; omega) HB.out.size ?_; intro v2 w2 q1 q2)
  go_ret
  exact ⟨v2, rfl, q1, HB.out.trans (HO.out.bel q2 HB.out.size)⟩

end Go.Proofs.YtofdkdaehhpgbaaGreatDoor
