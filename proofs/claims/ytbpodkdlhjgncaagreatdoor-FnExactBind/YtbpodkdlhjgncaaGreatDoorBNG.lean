/- slices.Backward of bindings: what a loop over it may rely on. -/
import Derived.RangeFuncBox
import Derived.RangeFuncLeaves
import Derived.Shelf.Abstract
import Derived.WalkKit
import Derived.OwnWalkIn
import Derived.TacticsInMore
import Derived.LoopNIn
import Derived.LoopIn
import Derived.Test.YtbpodkdlhjgncaaGreatDoorZVK
namespace Go.Proofs.YtbpodkdlhjgncaaGreatDoor
set_option linter.unusedVariables false
set_option linter.unusedSimpArgs false
open Go.RowKit Go.Shelf
attribute [local go_sem] Oper.semAt_some

/-- The binding at a place. -/
def vgN (xs : List Vg) (k : Nat) : Vg := xs.getD k ⟨0, [], none, 0⟩
/-- .. as it lies. -/
def VsAt (w : World) (b o : Nat) (x : Vg) : Prop := w.cell? ⟨b, o, none⟩ = some (.int .i64 x.v) ∧ w.cell? ⟨b, o + 1, none⟩ = some (.slice x.ta x.ts.length x.tc)
/-- What has come when k rounds are over: the places n - 1, n - 2, .. -/
def bwd (n : Nat) (h : 0 < n) (k : Nat) : List (Fin n) := (List.range k).map fun j => ⟨n - 1 - j, by omega⟩
theorem bwd_succ (n : Nat) (h : 0 < n) (k : Nat) : bwd n h (k + 1) = bwd n h k ++ [⟨n - 1 - k, by omega⟩] := by simp [bwd, List.range_succ]
theorem bwd_length (n : Nat) (h : 0 < n) (k : Nat) : (bwd n h k).length = k := by simp [bwd]

/-- What a round must leave: what lay below n₀, and the box of the slice. -/
def KpB (n₀ Bs : Nat) (W W' : World) : Prop := Below n₀ W W' ∧ W'.heap[Bs]? = W.heap[Bs]?
theorem KpB.trans {n₀ Bs : Nat} {A B C : World} (h : KpB n₀ Bs A B) (h2 : KpB n₀ Bs B C) : KpB n₀ Bs A C := ⟨h.1.trans h2.1, h2.2.trans h.2⟩
theorem KpB.refl (n₀ Bs : Nat) (A : World) : KpB n₀ Bs A A := ⟨Below.refl _ _, rfl⟩
theorem KpB.put {n₀ Bs B : Nat} (h1 : n₀ ≤ B) (h2 : Bs < B) (W : World) (l : Nat) (o o' : Obj) (hl : B ≤ l) (ho : W.heap[l]? = some o) (hc : o.isCells = false) (hw : o.isWalk = false) : KpB n₀ Bs W (W.putObj l o') :=
  ⟨⟨rfl, rfl, rfl, by simp, fun k hk => World.putObj_heap_other (fun e => by omega)⟩, World.putObj_heap_other (fun e => by omega)⟩

set_option maxRecDepth 100000 in
set_option maxHeartbeats 2000000 in
theorem backward1_in (F : Fence) (n : Nat) (h7 : F.fn 57) (hro : F.round = none) (hn : 1 ≤ n) (l Bs n₀ b off len cap : Nat) (xs : List Vg) (hl : xs.length = len) (h0l : 0 < len) (hl2 : len ≤ 1048576) (hb : b < n₀) (J Jx : List (Fin len) → World → Prop)
    (hY : ∀ (pre : List (Fin len)) (x : Fin len) (W : World), J pre W → pre.length < len → YieldAt F (n - 1) Tryz.prog l #[.int .i64 ((x : Nat) : Int), (vgN xs x).val] W fun e W' =>
      (e = .returned (.bool true) ∧ J (pre ++ [x]) W' ∧ KpB n₀ Bs W W') ∨ (e = .returned (.bool false) ∧ Jx (pre ++ [x]) W'))
    (W : World) (hBs : W.cell? ⟨Bs, 0, none⟩ = some (.slice (some ⟨b, off, none⟩) len cap)) (hBn : ∃ o, W.heap[Bs]? = some o) (hc : ∀ j, j < len → VsAt W b (off + j * 2) (vgN xs j)) (h0 : J [] W) :
    CallsIn F n Tryz.prog 57 #[.func (.yield l) #[] #[], .pointer (some ⟨Bs, 0, none⟩)] W fun e W' => (∃ v, e = .returned v) ∧
      ((∃ ys, ys = bwd len h0l len ∧ J ys W') ∨ (∃ pre, (∃ k, k ≤ len ∧ pre = bwd len h0l k) ∧ Jx pre W')) := by
  have hw1 : wrap64 ((len : Int) - 1) = (len : Int) - 1 := by unfold wrap64; omega
  have HW1 := kide hw1
  have HL2 := kide hl2
  clear hw1 hl2
  refine callsIn_of_wp Tryz.func57 rfl h7 ?_ hro
  simp only [Tryz.ntmps57, List.size_toArray, List.length_cons, List.length_nil, Nat.reduceAdd, Nat.reduceSub, Array.replicate_succ, Array.replicate_zero, List.push_toArray, List.append_toArray, List.nil_append, List.cons_append]
  gi_wp2
  rw [HW1.out]
  gi_loopw [3] (fun i wr => ∃ k : Nat, k ≤ len ∧ i = .int .i64 ((len : Int) - 1 - (k : Int)) ∧ J (bwd len h0l k) wr ∧ KpB n₀ Bs W wr) (fun i _ => (intOf i + 1).toNat)
  case atStart => exact ⟨0, Nat.zero_le _, by simp, h0, KpB.refl _ _ _⟩
  case round =>
    obtain ⟨k, hk, rfl, hJs, hnx⟩ := hrel
    have hcB : wr.cell? ⟨Bs, 0, none⟩ = some (.slice (some ⟨b, off, none⟩) len cap) := by
      have h9 := hBs
      simp only [World.cell?] at h9 ⊢
      rw [hnx.2]
      exact h9
    by_cases hlt : k < len
    · obtain ⟨q, hq⟩ : ∃ q : Nat, len - 1 - k = q := ⟨_, rfl⟩
      have eq : (len : Int) - 1 - (k : Int) = (q : Int) := by omega
      rw [eq]
      have hqw : wrap64 ((q : Int) - 1) = (q : Int) - 1 := by unfold wrap64; have := HL2.out; omega
      have HQW := kide hqw
      obtain ⟨p0, p1⟩ := hc q (by omega)
      replace p0 := (hnx.1.cell (p := ⟨b, off + q * 2, none⟩) hb).trans p0
      replace p1 := (hnx.1.cell (p := ⟨b, off + q * 2 + 1, none⟩) hb).trans p1
      have hql : q < len := by omega
      have hb1 : bwd len h0l (k + 1) = bwd len h0l k ++ [⟨q, hql⟩] := by
        rw [bwd_succ]
        congr 2
        exact Fin.ext hq
      have HB1 := kide hb1
      obtain ⟨fn, tmps, assign, body, hy, hR⟩ := hY _ ⟨q, hql⟩ wr hJs (by rw [bwd_length]; exact hlt)
      dsimp only at hy
      unfold Vg.val at hy
      generalize vgN xs q = x at *
      have q0 : (q : Int) ≥ 0 := by omega
      have q1 : (q : Int) < (len : Int) := by omega
      clear hqw hb1 hq
      gi_wp2
      refine hR.mono ?_
      rintro e W3 (⟨rfl, hJ3, hk3⟩ | ⟨rfl, hJx3⟩)
      · gi_wp2
        rw [HQW.out]
        go_roundw
        case rel => exact ⟨k + 1, by omega, by congr 1; push_cast; omega, by rw [HB1.out]; exact hJ3, hnx.trans hk3⟩
        case measure => simp only [intOf]; omega
      · gi_wp2
        refine bodyPost_ret (results_none rfl _ _ _) rfl ?_
        exact ⟨⟨_, rfl⟩, .inr ⟨_, ⟨k + 1, by omega, HB1.out.symm⟩, hJx3⟩⟩
    · have hkl : k = len := by omega
      subst hkl
      have eq : (k : Int) - 1 - (k : Int) = -1 := by omega
      rw [eq]
      gi_wp2
      go_end0
      exact ⟨⟨_, rfl⟩, .inl ⟨_, rfl, hJs⟩⟩

set_option maxHeartbeats 1000000 in
/-- slices.Backward(s): the slice is boxed; the function value has caught the box. -/
theorem backward_in (F : Fence) (n : Nat) (h5 : F.fn 34) (hro : F.round = none) (a : Option Addr) (len cap : Nat) (w : World) :
    CallsIn F n Tryz.prog 34 #[.slice a len cap] w fun e w' => e = .returned (.func (.func 57) #[] #[.pointer (some ⟨w.heap.size, 0, none⟩)]) ∧ w' = w.alloc (.cells #[.slice a len cap] 33) := by
  refine callsIn_of_wp Tryz.func34 rfl h5 ?_ hro
  simp only [Tryz.ntmps34, List.size_toArray, List.length_cons, List.length_nil, Nat.reduceAdd, Nat.reduceSub, Array.replicate_succ, Array.replicate_zero, List.push_toArray, List.append_toArray, List.nil_append, List.cons_append]
  gi_wp2
  go_ret
  exact ⟨rfl, rfl⟩

/-- .. and it keeps to the contract of an iterator: all places from the last one on, or a part of them. -/
theorem backward_stops (F : Fence) (n : Nat) (h7 : F.fn 57) (hro : F.round = none) (hn : 1 ≤ n) (Bs n₀ b off len cap : Nat) (xs : List Vg) (hl : xs.length = len) (h0l : 0 < len) (hl2 : len ≤ 1048576) (w : World) (hBs : Bs < w.heap.size) (hn₀ : n₀ ≤ w.heap.size) (hb : b < n₀)
    (hc : w.cell? ⟨Bs, 0, none⟩ = some (.slice (some ⟨b, off, none⟩) len cap)) (hI : ∀ j, j < len → VsAt w b (off + j * 2) (vgN xs j)) :
    SeqStopsK F n Tryz.prog 57 #[.pointer (some ⟨Bs, 0, none⟩)] (fun x : Fin len => #[Value.int .i64 ((x : Nat) : Int), (vgN xs x).val]) (KpB n₀ Bs) (fun ys => ys = bwd len h0l len) (fun pre => ∃ k, k ≤ len ∧ pre = bwd len h0l k) len w := fun l J Jx W hW _ _ hY h0 => by
  have hW2 : Below n₀ w W := hW.mono hn₀
  have hc' := (hW.cell (p := ⟨Bs, 0, none⟩) hBs).trans hc
  have hI' : ∀ j, j < len → VsAt W b (off + j * 2) (vgN xs j) := fun j hj => by
    obtain ⟨p0, p1⟩ := hI j hj
    exact ⟨(hW2.cell (p := ⟨b, off + j * 2, none⟩) hb).trans p0, (hW2.cell (p := ⟨b, off + j * 2 + 1, none⟩) hb).trans p1⟩
  exact backward1_in F n h7 hro hn l Bs n₀ b off len cap xs hl h0l hl2 hb J Jx hY W hc' ⟨_, Array.getElem?_eq_getElem (Nat.lt_of_lt_of_le hBs hW.size)⟩ hI' h0

end Go.Proofs.YtbpodkdlhjgncaaGreatDoor
