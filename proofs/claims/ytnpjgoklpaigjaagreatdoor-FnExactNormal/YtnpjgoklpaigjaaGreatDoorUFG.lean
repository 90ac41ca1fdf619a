/- slices.Backward of segments: what a loop over it may rely on. -/
import Derived.RangeFuncBox
import Derived.RangeFuncLeaves
import Derived.Shelf.Abstract
import Derived.WalkKit
import Derived.OwnWalkIn
import Derived.TacticsInMore
import Derived.LoopNIn
import Derived.LoopIn
import Derived.Test.YtnpjgoklpaigjaaGreatDoorGAH
namespace Go.Proofs.YtnpjgoklpaigjaaGreatDoor
set_option linter.unusedVariables false
set_option linter.unusedSimpArgs false
open Go.RowKit Go.Shelf
attribute [local go_sem] Oper.semAt_some
def sgN (xs : List Sg) (k : Nat) : Sg := xs.getD k ⟨⟨0, 0, 0, 0, []⟩, none, 0⟩
def segVU (x : Sg) : Value := .agg #[.int .i64 x.ct.v, .int .i64 x.ct.lo, .int .i64 x.ct.wd, .int .i64 x.ct.bw, .slice x.a x.ct.ws.length x.c]
def bwd (n : Nat) (h : 0 < n) (k : Nat) : List (Fin n) := (List.range k).map fun j => ⟨n - 1 - j, by omega⟩
theorem bwd_succ (n : Nat) (h : 0 < n) (k : Nat) : bwd n h (k + 1) = bwd n h k ++ [⟨n - 1 - k, by omega⟩] := by simp [bwd, List.range_succ]
theorem bwd_length (n : Nat) (h : 0 < n) (k : Nat) : (bwd n h k).length = k := by simp [bwd]
def KpB (n₀ Bs : Nat) (W W' : World) : Prop := Below n₀ W W' ∧ W'.heap[Bs]? = W.heap[Bs]?
theorem KpB.trans {n₀ Bs : Nat} {A B C : World} (h : KpB n₀ Bs A B) (h2 : KpB n₀ Bs B C) : KpB n₀ Bs A C := ⟨h.1.trans h2.1, h2.2.trans h.2⟩
theorem KpB.refl (n₀ Bs : Nat) (A : World) : KpB n₀ Bs A A := ⟨Below.refl _ _, rfl⟩
theorem KpB.put {n₀ Bs B : Nat} (h1 : n₀ ≤ B) (h2 : Bs < B) (W : World) (l : Nat) (o o' : Obj) (hl : B ≤ l) (ho : W.heap[l]? = some o) (hc : o.isCells = false) (hw : o.isWalk = false) : KpB n₀ Bs W (W.putObj l o') :=
 ⟨⟨rfl, rfl, rfl, by simp, fun k hk => World.putObj_heap_other (fun e => by omega)⟩, World.putObj_heap_other (fun e => by omega)⟩
set_option maxRecDepth 100000 in
set_option maxHeartbeats 2000000 in
theorem backward1_in (F : Fence) (n : Nat) (h7 : F.fn 65) (hro : F.round = none) (hn : 1 ≤ n) (l Bs n₀ b off len cap : Nat) (xs : List Sg) (hl : xs.length = len) (h0l : 0 < len) (hl2 : len ≤ 1048576) (hb : b < n₀) (J Jx : List (Fin len) → World → Prop)
  (hY : ∀ (pre : List (Fin len)) (x : Fin len) (W : World), J pre W → pre.length < len → YieldAt F (n - 1) Tryz.prog l #[.int .i64 ((x : Nat) : Int), segVU (sgN xs x)] W fun e W' =>
   (e = .returned (.bool true) ∧ J (pre ++ [x]) W' ∧ KpB n₀ Bs W W') ∨ (e = .returned (.bool false) ∧ Jx (pre ++ [x]) W'))
  (W : World) (hBs : W.cell? ⟨Bs, 0, none⟩ = some (.slice (some ⟨b, off, none⟩) len cap)) (hBn : ∃ o, W.heap[Bs]? = some o) (hc : ∀ j, j < len → ShAt W b (off + j * 5) (sgN xs j).hd) (h0 : J [] W) :
  CallsIn F n Tryz.prog 65 #[.func (.yield l) #[] #[], .pointer (some ⟨Bs, 0, none⟩)] W fun e W' => (∃ v, e = .returned v) ∧
   ((∃ ys, ys = bwd len h0l len ∧ J ys W') ∨ (∃ pre, (∃ k, k ≤ len ∧ pre = bwd len h0l k) ∧ Jx pre W')) := by
 have hw1 : wrap64 ((len : Int) - 1) = (len : Int) - 1 := by unfold wrap64; omega
 have HW1 := kide hw1
 have HL2 := kide hl2
 clear hw1 hl2
 refine callsIn_of_wp Tryz.func65 rfl h7 ?_ hro
 simp only [Tryz.ntmps65, List.size_toArray, List.length_cons, List.length_nil, Nat.reduceAdd, Nat.reduceSub, Array.replicate_succ, Array.replicate_zero, List.push_toArray, List.append_toArray, List.nil_append, List.cons_append]
 gi_wp2
 rw [HW1.out]
 gi_loopw [3] (fun i wr => ∃ k : Nat, k ≤ len ∧ i = .int .i64 ((len : Int) - 1 - (k : Int)) ∧ J (bwd len h0l k) wr ∧ KpB n₀ Bs W wr) (fun i _ => (intOf i + 1).toNat)
 case atStart => exact ⟨0, Nat.zero_le _, by simp, h0, KpB.refl _ _ _⟩
 case round =>
  obtain ⟨k, hk, rfl, hJs, hnx⟩ := hrel
  have hcB : wr.cell? ⟨Bs, 0, none⟩ = some (.slice (some ⟨b, off, none⟩) len cap) := by
   have h9 := hBs
   simp only [World.cell?] at h9 ⊢
   rw [hnx.2]
   exact h9
  by_cases hlt : k < len
  ·obtain ⟨q, hq⟩ : ∃ q : Nat, len - 1 - k = q := ⟨_, rfl⟩
   have eq : (len : Int) - 1 - (k : Int) = (q : Int) := by omega
   rw [eq]
   have hqw : wrap64 ((q : Int) - 1) = (q : Int) - 1 := by unfold wrap64; have := HL2.out; omega
   have HQW := kide hqw
   obtain ⟨p0, p1, p2, p3, p4⟩ := hc q (by omega)
   simp only [Sg.hd] at p0 p1 p2 p3 p4
   replace p0 := (hnx.1.cell (p := ⟨b, off + q * 5, none⟩) hb).trans p0
   replace p1 := (hnx.1.cell (p := ⟨b, off + q * 5 + 1, none⟩) hb).trans p1
   replace p2 := (hnx.1.cell (p := ⟨b, off + q * 5 + 2, none⟩) hb).trans p2
   replace p3 := (hnx.1.cell (p := ⟨b, off + q * 5 + 3, none⟩) hb).trans p3
   replace p4 := (hnx.1.cell (p := ⟨b, off + q * 5 + 4, none⟩) hb).trans p4
   have hql : q < len := by omega
   have hb1 : bwd len h0l (k + 1) = bwd len h0l k ++ [⟨q, hql⟩] := by
    rw [bwd_succ]
    congr 2
    exact Fin.ext hq
   have HB1 := kide hb1
   obtain ⟨fn, tmps, assign, body, hy, hR⟩ := hY _ ⟨q, hql⟩ wr hJs (by rw [bwd_length]; exact hlt)
   dsimp only at hy
   unfold segVU at hy
   generalize sgN xs q = x at *
   have q0 : (q : Int) ≥ 0 := by omega
   have q1 : (q : Int) < (len : Int) := by omega
   clear hqw hb1 hq
   gi_wp2
   refine hR.mono ?_
   rintro e W3 (⟨rfl, hJ3, hk3⟩ | ⟨rfl, hJx3⟩)
   ·gi_wp2
    rw [HQW.out]
    go_roundw
    case rel => exact ⟨k + 1, by omega, by congr 1; push_cast; omega, by rw [HB1.out]; exact hJ3, hnx.trans hk3⟩
    case measure => simp only [intOf]; omega
   ·gi_wp2
    refine bodyPost_ret (results_none rfl _ _ _) rfl ?_
    exact ⟨⟨_, rfl⟩, .inr ⟨_, ⟨k + 1, by omega, HB1.out.symm⟩, hJx3⟩⟩
  ·have hkl : k = len := by omega
   subst hkl
   have eq : (k : Int) - 1 - (k : Int) = -1 := by omega
   rw [eq]
   gi_wp2
   go_end0
   exact ⟨⟨_, rfl⟩, .inl ⟨_, rfl, hJs⟩⟩
set_option maxHeartbeats 1000000 in
theorem backward_in (F : Fence) (n : Nat) (h5 : F.fn 40) (hro : F.round = none) (a : Option Addr) (len cap : Nat) (w : World) :
  CallsIn F n Tryz.prog 40 #[.slice a len cap] w fun e w' => e = .returned (.func (.func 65) #[] #[.pointer (some ⟨w.heap.size, 0, none⟩)]) ∧ w' = w.alloc (.cells #[.slice a len cap] 45) := by
 refine callsIn_of_wp Tryz.func40 rfl h5 ?_ hro
 simp only [Tryz.ntmps40, List.size_toArray, List.length_cons, List.length_nil, Nat.reduceAdd, Nat.reduceSub, Array.replicate_succ, Array.replicate_zero, List.push_toArray, List.append_toArray, List.nil_append, List.cons_append]
 gi_wp2
 go_ret
 exact ⟨rfl, rfl⟩
theorem backward_stops (F : Fence) (n : Nat) (h7 : F.fn 65) (hro : F.round = none) (hn : 1 ≤ n) (Bs n₀ b off len cap : Nat) (xs : List Sg) (hl : xs.length = len) (h0l : 0 < len) (hl2 : len ≤ 1048576) (w : World) (hBs : Bs < w.heap.size) (hn₀ : n₀ ≤ w.heap.size) (hb : b < n₀)
  (hc : w.cell? ⟨Bs, 0, none⟩ = some (.slice (some ⟨b, off, none⟩) len cap)) (hI : ∀ j, j < len → ShAt w b (off + j * 5) (sgN xs j).hd) :
  SeqStopsK F n Tryz.prog 65 #[.pointer (some ⟨Bs, 0, none⟩)] (fun x : Fin len => #[.int .i64 ((x : Nat) : Int), segVU (sgN xs x)]) (KpB n₀ Bs) (fun ys => ys = bwd len h0l len) (fun pre => ∃ k, k ≤ len ∧ pre = bwd len h0l k) len w := fun l J Jx W hW _ _ hY h0 => by
 have hW2 : Below n₀ w W := hW.mono hn₀
 have hc' := (hW.cell (p := ⟨Bs, 0, none⟩) hBs).trans hc
 have hI' : ∀ j, j < len → ShAt W b (off + j * 5) (sgN xs j).hd := fun j hj => by
  obtain ⟨p0, p1, p2, p3, p4⟩ := hI j hj
  exact ⟨(hW2.cell (p := ⟨b, off + j * 5, none⟩) hb).trans p0, (hW2.cell (p := ⟨b, off + j * 5 + 1, none⟩) hb).trans p1, (hW2.cell (p := ⟨b, off + j * 5 + 2, none⟩) hb).trans p2, (hW2.cell (p := ⟨b, off + j * 5 + 3, none⟩) hb).trans p3, (hW2.cell (p := ⟨b, off + j * 5 + 4, none⟩) hb).trans p4⟩
 exact backward1_in F n h7 hro hn l Bs n₀ b off len cap xs hl h0l hl2 hb J Jx hY W hc' ⟨_, Array.getElem?_eq_getElem (Nat.lt_of_lt_of_le hBs hW.size)⟩ hI' h0

end Go.Proofs.YtnpjgoklpaigjaaGreatDoor
