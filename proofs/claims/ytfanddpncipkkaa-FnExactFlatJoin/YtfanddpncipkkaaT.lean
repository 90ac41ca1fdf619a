/- What the given functions on words answer: RepeatBits, WidenBits. -/
import Derived.Test.YtfanddpncipkkaaS
namespace Go.Proofs.Ytfanddpncipkkaa
set_option linter.unusedVariables false
set_option linter.unusedSimpArgs false
open Go.RowKit

/-- 'append(out, list...)', out the call's own, list not empty. -/
theorem wpList_appBs (w : World) {ops : Array Oper} {rest : List Oper} {o : Oper} {a : Act} {Q : Exit → Act → World → Prop} (hgd : o.guard = none) (s x : Operand)
    (ho : o.op = .call { callee := .builtin .append, args := #[s, x], argTypes := #[39, 39] })
    (base : Nat) (v : Value) (bs ys : List Nat) (hs : a.eval s = v) (hown : OwB w base v bs) (b ob c : Nat) (hx : a.eval x = .slice (some ⟨b, ob, none⟩) ys.length c)
    (hc : ∀ i, i < ys.length → w.cell? ⟨b, ob + i, none⟩ = some (.int .u8 ((ys.getD i 0 : Nat) : Int))) (hl : bs.length + ys.length ≤ 4194304) (hbase : base ≤ w.heap.size)
    (h : ∀ v' w', OwB w' base v' (bs ++ ys) → w.grownBy w' v.ownBlock → wpList Try.prog ops Q rest (a.put o.dst v') w') : wpList Try.prog ops Q (o :: rest) a w := by
  obtain ⟨i0, hi, hz0, hz1, hz2⟩ := info_parts Try.infoU8
  refine wpList_append_own w hgd s x 39 ho base 5 i0 (.int .u8 0) 1 1 Try.underlying39 hi hz0 hz1 hz2 rfl (by decide) v bs.length (u8s bs) hs hown ⟨b, ob, none⟩ ys.length c (u8s ys) hx (by simp [u8s]) ?_ ?_ ?_ ?_ hbase ?_
  · intro j u hj
    have hj' : j < ys.length := by
      have := (List.getElem?_eq_some_iff.1 hj).1
      simpa [u8s] using this
    rw [Addr.add_lit, hc j hj']
    simp [u8s, hj'] at hj
    rw [← hj]
    simp [List.getD, hj']
  · intro u hu
    obtain ⟨_, _, rfl⟩ := List.mem_map.1 hu
    rfl
  · unfold maxLen; omega
  · omega
  · intro v' w' h1 h2 _
    refine h v' w' ?_ h2
    unfold OwB
    simpa [u8s] using h1

def repList (bs : List Nat) (k : Nat) : List Nat := (List.replicate k bs).flatten
theorem repList_succ (bs : List Nat) (k : Nat) : repList bs (k + 1) = repList bs k ++ bs := by
  unfold repList
  rw [List.replicate_succ', List.flatten_append]; simp
theorem repList_len (bs : List Nat) (k : Nat) : (repList bs k).length = k * bs.length := by
  induction k with
  | zero => simp [repList]
  | succ k ih => rw [repList_succ, List.length_append, ih, Nat.succ_mul]
theorem repList_mem (bs : List Nat) (k x : Nat) (h : x ∈ repList bs k) : x ∈ bs := by
  unfold repList at h
  simp at h
  obtain ⟨l, ⟨_, rfl⟩, hx⟩ := h
  exact hx

def repR (W : Int) (xs : List Nat) (n : Int) : Int × List Nat × Bool :=
  if rightB W xs = true ∧ 1 ≤ n ∧ n ≤ 4096 ∧ W * n ≤ 4096 then (W * n, pack (repList (bitsTo xs W.toNat) n.toNat), true) else noR


end Go.Proofs.Ytfanddpncipkkaa
