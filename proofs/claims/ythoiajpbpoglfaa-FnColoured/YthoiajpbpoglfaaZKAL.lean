/- Several texts in one. -/
import Derived.RangeFuncBox
import Derived.RangeFuncLeaves
import Derived.RangeFuncNested
import Derived.RangeFuncWrites
import Derived.Shelf.Abstract
import Derived.WalkKit
import Derived.OwnWalkIn
import Derived.TacticsInMore
import Derived.LoopNIn
import Derived.LoopIn
import Derived.Scope
import Derived.RegionIn
import Derived.Test.YthoiajpbpoglfaaZKAI
import Derived.Handy

/- The words that are free at a node without bars, as an iterator. -/
namespace Go.Proofs.Ythoiajpbpoglfaa
set_option linter.unusedVariables false
set_option linter.unusedSimpArgs false
open Go.RowKit Go.Shelf
attribute [local go_sem] Oper.semAt_some

/-- The first k of them. -/
def upTo (M : Nat) (h : 0 < M) (k : Nat) : List (Fin M) := (List.range k).map fun j => ⟨if j < M then j else 0, by split <;> omega⟩
theorem upTo_succ (M : Nat) (h : 0 < M) (k : Nat) (hk : k < M) : upTo M h (k + 1) = upTo M h k ++ [⟨k, hk⟩] := by simp [upTo, List.range_succ, hk]
theorem upTo_length (M : Nat) (h : 0 < M) (k : Nat) : (upTo M h k).length = k := by simp [upTo]
/-- What a round must leave: boxes of hedges. -/
def KpA (W W' : World) : Prop := ∀ b cs, Bz W b cs 83 → Bz W' b cs 83

theorem look_nilmap (u : World) (k : Int) : (Instr.lookup 81 (.map none) (.int .i64 k) true).run Try.prog u = .ok (.tuple #[.agg #[], .bool false]) u := by
  have h1 : Instr.findNow (.int .i64) (.int .i64 k) ([] : List MapEntry) 0 = some none := rfl
  simp [Instr.lookup, run_underlying Try.underlying81, MapKept.run_checkKey (k := .int .i64 k) Try.underlying2 rfl, MapKept.run_findKey Try.underlying2 h1, Try.zeroUnit u, Result.andThen]

/-- A scope in which nothing jumps, in a fence. -/
theorem wpIn_scope_straight {F : Fence} {n : Nat} {P : Program} {Q : Exit → Act → World → Prop} {a : Act} {w : World} {c : Code} (h : c.wpIn F n P (Exit.noGoto Q) a w) : (Code.scope c).wpIn F n P Q a w := by
  intro b k cs hro hb hr
  have h0 : (lone (b.atR a (.code (.scope c) :: k)) cs w).fenced P F := fenced_calm hb hr rfl
  have st : step P (lone (b.atR a (.code (.scope c) :: k)) cs w) = .next (lone (b.atR a (.code c :: .inScope c :: k)) cs w) := step_lone_go (by simp [stepG, stepG.exec, Frame.atR])
  obtain ⟨e, a₁, w₁, hq, harr⟩ := h b (.inScope c :: k) cs hro hb hr
  have st2 : step P (lone (b.atR a₁ (.inScope c :: k)) cs w₁) = .next (lone (b.atR a₁ k) cs w₁) := step_lone_go (by simp [stepG, stepG.exec, Frame.atR])
  cases e with
  | normal => exact ⟨.normal, a₁, w₁, hq, .head h0 st (StepsIn.trans harr (.one (fenced_calm hb hr rfl) st2))⟩
  | exit id =>
    have hx : exitTo id (.inScope c :: k) = exitTo id k := by simp [exitTo]
    exact ⟨.exit id, a₁, w₁, hq, fun k' hk => .head h0 st (harr.1 k' (by rw [hx]; exact hk)), fun hr' hk => let ⟨k₁, h1, h2⟩ := harr.2 hr' (by rw [hx]; exact hk); ⟨k₁, h1, .head h0 st h2⟩⟩
  | goto l => exact hq.elim
  | ret => exact ⟨_, a₁, w₁, hq, .of_steps (.one h0 st) harr⟩
  | panic ch => exact ⟨_, a₁, w₁, hq, .of_steps (.one h0 st) harr⟩
  | outgrown => exact ⟨_, a₁, w₁, hq, .of_steps (.one h0 st) harr⟩

set_option maxRecDepth 100000 in
set_option maxHeartbeats 2000000 in
theorem free1_in (F : Fence) (n : Nat) (h7 : F.fn 86) (hro : F.round = none) (hn : 1 ≤ n) (l Bp Bn P0 H N M b o vc : Nat) (x : Int) (hx : 1 ≤ x ∧ x ≤ 4096) (h0M : 0 < M) (hM : M = 2 ^ (min x 10).toNat) (q : Nat) (hq : q < N) (hN : N ≤ 200) (J Jx : List (Fin M) → World → Prop)
    (W : World) (hJ : AbidesFrom W.heap.size J)
    (hY : ∀ (pre : List (Fin M)) (y : Fin M) (W : World), J pre W → pre.length < M → YieldAt F (n - 1) Try.prog l #[.int .i64 ((y : Nat) : Int)] W fun e W' =>
      (e = .returned (.bool true) ∧ J (pre ++ [y]) W' ∧ KpA W W') ∨ (e = .returned (.bool false) ∧ Jx (pre ++ [y]) W'))
    (hBp : W.cell? ⟨Bp, 0, none⟩ = some (.pointer (some ⟨P0, 0, none⟩))) (hBn : W.cell? ⟨Bn, 0, none⟩ = some (.int .i64 (q : Int)))
    (hp0 : W.cell? ⟨P0, 0, none⟩ = some (.slice (some ⟨b, o, none⟩) N vc)) (hp1 : W.cell? ⟨P0, 1, none⟩ = some (.slice (some ⟨H, 0, none⟩) N N)) (hc : W.cell? ⟨b, o + q, none⟩ = some (.int .i64 x))
    (hh0 : W.cell? ⟨H, q * 3, none⟩ = some (.slice none 0 0)) (hh1 : W.cell? ⟨H, q * 3 + 1, none⟩ = some (.map none)) (hh2 : W.cell? ⟨H, q * 3 + 2, none⟩ = some (.int .i64 0)) (h0 : J [] W) :
    CallsIn F n Try.prog 86 #[.func (.yield l) #[] #[], .pointer (some ⟨Bp, 0, none⟩), .pointer (some ⟨Bn, 0, none⟩)] W fun e W' => (∃ v, e = .returned v) ∧
      ((∃ ys, ys = upTo M h0M M ∧ J ys W') ∨ (∃ pre, (∃ k, k ≤ M ∧ pre = upTo M h0M k) ∧ Jx pre W')) := by
  have hM2 : M ≤ 1024 := by
    rw [hM]
    exact Nat.le_trans (Nat.pow_le_pow_right (by omega) (show (min x 10).toNat ≤ 10 by omega)) (by decide)
  have hsh : IntKind.i64.wrap (2 ^ (min x 10).toNat) = (M : Int) := by
    rw [show (2 : Int) ^ (min x 10).toNat = ((2 ^ (min x 10).toNat : Nat) : Int) by push_cast; rfl, ← hM, IntKind.wrap_i64]
    omega
  have HSH := kide hsh
  have HJB : ∀ (s : List (Fin M)) (A A' : World), W.heap.size ≤ A.heap.size → Below A.heap.size A A' → J s A → J s A' := fun s A A' _ hb h => hJ s A A' none h ⟨hb.os, hb.tape, hb.output, hb.size, fun k hk _ => hb.block k hk⟩ (fun r e => by cases e)
  clear hM hsh
  have q0 : (q : Int) ≥ 0 := by omega
  have q1 : (q : Int) < (N : Int) := by omega
  refine callsIn_of_wp Try.func86 rfl h7 ?_ hro
  simp only [Try.ntmps86, List.size_toArray, List.length_cons, List.length_nil, Nat.reduceAdd, Nat.reduceSub, Array.replicate_succ, Array.replicate_zero, List.push_toArray, List.append_toArray, List.nil_append, List.cons_append]
  have lBp := block_lt_of_cell hBp
  have lBn := block_lt_of_cell hBn
  have lP0 := block_lt_of_cell hp0
  have lH := block_lt_of_cell hh0
  have lb := block_lt_of_cell hc
  simp only [] at lBp lBn lP0 lH lb
  gi_wp2
  refine wpIn_scope_straight ?_
  refine wpIn_seq ?_
  refine wpIn_mono (Q := fun e a' w' => e = Exit.normal ∧ a' = { tmps := #[Value.func (Fn.yield l) #[] #[], Value.pointer (some ⟨Bp, 0, none⟩), Value.pointer (some ⟨Bn, 0, none⟩), undef, Value.pointer (some ⟨W.heap.size, 0, none⟩), undef, undef, undef, undef, undef, Value.pointer (some ⟨P0, 0, none⟩), Value.pointer (some ⟨P0, 0, none⟩), Value.pointer (some ⟨P0, 1, none⟩), Value.slice (some ⟨H, 0, none⟩) N N, Value.int .i64 (q : Int), Value.pointer (some ⟨H, q * 3, none⟩), Value.agg #[Value.slice none 0 0, Value.map none, Value.int .i64 0], undef, undef, undef, undef, undef, undef, undef, undef, undef, undef, undef, undef, undef, undef, undef, undef, undef, undef, undef, undef, undef, undef, undef, undef, undef, undef, undef, undef, undef, undef, undef, undef, undef, undef, undef, undef, undef, undef, undef, undef, undef, undef], defers := [] } ∧ w' = (W.alloc (Obj.cells #[Value.slice none 0 0, Value.map none, Value.int .i64 0] 83)).drew) ?_ ?_
  · gi_region
    all_goals exact ⟨rfl, rfl, rfl⟩
  rintro e a' w' ⟨rfl, rfl, rfl⟩
  have hba : Below W.heap.size W (W.alloc (Obj.cells #[Value.slice none 0 0, Value.map none, Value.int .i64 0] 83)).drew := ((Below.refl _ _).alloc (Nat.le_refl _) _).drew
  have BX : Bz (W.alloc (Obj.cells #[Value.slice none 0 0, Value.map none, Value.int .i64 0] 83)).drew W.heap.size #[Value.slice none 0 0, Value.map none, Value.int .i64 0] 83 := Bz.new W _ _
  have h0' := HJB _ _ _ (Nat.le_refl _) hba h0
  have HY := kide hY
  have HJJ := kide HJB
  clear hY HJB hJ hh0 hh1 hh2 h0
  replace hBp := (kcell hba _ _ lBp).trans hBp
  replace hBn := (kcell hba _ _ lBn).trans hBn
  replace hp0 := (kcell hba _ _ lP0).trans hp0
  replace hp1 := (kcell hba _ _ lP0).trans hp1
  replace hc := (kcell hba _ _ lb).trans hc
  have z : ∀ k, k < W.heap.size → k < (W.alloc (Obj.cells #[Value.slice none 0 0, Value.map none, Value.int .i64 0] 83)).drew.heap.size := fun k hk => Nat.lt_of_lt_of_le hk hba.size
  replace lBp := z _ lBp
  replace lBn := z _ lBn
  replace lP0 := z _ lP0
  replace lb := z _ lb
  obtain ⟨B, hB⟩ : ∃ B, W.heap.size = B := ⟨_, rfl⟩
  clear z lH
  generalize (W.alloc (Obj.cells #[Value.slice none 0 0, Value.map none, Value.int .i64 0] 83)).drew = V at *
  simp only [hB] at BX ⊢
  gi_wp2
  refine wpIn_label ?_
  gi_wp2
  refine wpIn_mono (Q := fun e a' w' => e = Exit.normal ∧ a' = { tmps := #[Value.func (Fn.yield l) #[] #[], Value.pointer (some ⟨Bp, 0, none⟩), Value.pointer (some ⟨Bn, 0, none⟩), undef, Value.pointer (some ⟨B, 0, none⟩), undef, undef, undef, undef, undef, Value.pointer (some ⟨P0, 0, none⟩), Value.pointer (some ⟨P0, 0, none⟩), Value.pointer (some ⟨P0, 1, none⟩), Value.slice (some ⟨H, 0, none⟩) N N, Value.int .i64 (q : Int), Value.pointer (some ⟨H, q * 3, none⟩), Value.agg #[Value.slice none 0 0, Value.map none, Value.int .i64 0], Value.pointer (some ⟨P0, 0, none⟩), Value.pointer (some ⟨P0, 0, none⟩), Value.pointer (some ⟨P0, 0, none⟩), Value.slice (some ⟨b, o, none⟩) N vc, Value.int .i64 (q : Int), Value.pointer (some ⟨b, o + q, none⟩), Value.int .i64 x, Value.int .i64 (min x 10), Value.int .i64 (M : Int), Value.int .i64 0, undef, undef, undef, undef, undef, undef, undef, undef, undef, undef, undef, undef, undef, undef, undef, undef, undef, undef, undef, undef, undef, undef, undef, undef, undef, undef, undef, undef, undef, undef, undef, undef], defers := [] } ∧ w' = V.drew) ?_ ?_
  · gi_region
    all_goals exact ⟨rfl, by rw [← HSH.out], rfl⟩
  rintro e a' w' ⟨rfl, rfl, rfl⟩
  have hbd : Below V.heap.size V V.drew := (Below.refl _ _).drew
  have h1 := HJJ.out _ _ _ hba.size hbd h0'
  have BX1 := BX.later hbd
  have hs1 : W.heap.size ≤ V.drew.heap.size := Nat.le_trans hba.size hbd.size
  clear hbd hba h0' BX hBp hBn hp0 hp1 hc lBp lBn lP0 lb q0 q1
  generalize V.drew = U at *
  gi_wp2
  gi_loopw [26] (fun i wr => ∃ k : Nat, k ≤ M ∧ i = .int .i64 (k : Int) ∧ J (upTo M h0M k) wr ∧ Bz wr B #[Value.slice none 0 0, Value.map none, Value.int .i64 0] 83 ∧ W.heap.size ≤ wr.heap.size) (fun i _ => M - (intOf i).toNat)
  case atStart => exact ⟨0, Nat.zero_le _, rfl, h1, BX1, hs1⟩
  case round =>
    obtain ⟨k, hk, rfl, hj, hbx, hsz⟩ := hrel
    by_cases hkM : k < M
    · have k1 : (k : Int) < (M : Int) := by omega
      have c0 := hbx.cell 0
      have c1 := hbx.cell 1
      have lB := hbx.lt
      simp at c0 c1
      have hlk := fun u => look_nilmap u (k : Int)
      clear h1 BX1 hs1
      have hb1 : Below wr.heap.size wr (wr.alloc (.cells #[] 126)) := (Below.refl _ _).alloc (Nat.le_refl _) _
      have hj1 := HJJ.out _ _ _ hsz hb1 hj
      have hbx1 := hbx.later hb1
      have hsz1 : W.heap.size ≤ (wr.alloc (.cells #[] 126)).heap.size := Nat.le_trans hsz hb1.size
      clear hj hbx hsz hb1
      gi_wp2
      gi_loopw [40] (fun i wr2 => i = .int .i64 0 ∧ wr2 = wr.alloc (.cells #[] 126)) (fun _ _ => 0)
      case atStart => exact ⟨rfl, rfl⟩
      case round =>
        obtain ⟨rfl, he9⟩ := hrel
        obtain rfl := he9.symm
        clear he9
        obtain ⟨fn, tmps, assign, body, hy, hR⟩ := HY.out _ ⟨k, hkM⟩ _ hj1 (by rw [upTo_length]; exact hkM)
        dsimp only at hy
        have HUP := kide (upTo_succ M h0M k hkM)
        have HKM := kide hkM
        gi_wp2
        refine hR.mono ?_
        rintro e W3 (⟨rfl, hJ3, hk3⟩ | ⟨rfl, hJx3⟩)
        · have hbx3 := hk3 _ _ hbx1
          gi_wp2
          have hkw : IntKind.i64.wrap ((k : Int) + 1) = (k : Int) + 1 := by rw [IntKind.wrap_i64]; have := HKM.out; omega
          refine ⟨⟨k + 1, HKM.out, by go_num, by rw [HUP.out]; exact hJ3, hbx3, by have := hbx3.lt; omega⟩, ?_⟩
          have := HKM.out
          simp only [intOf]
          omega
        · gi_wp2
          simp only [Exit.noGoto]
          try gi_wp2
          refine bodyPost_ret (results_none rfl _ _ _) rfl ?_
          exact ⟨⟨_, rfl⟩, .inr ⟨_, ⟨k + 1, HKM.out, HUP.out.symm⟩, hJx3⟩⟩
    · have e9 : k = M := by omega
      subst e9
      clear h1 BX1 hs1
      gi_wp2
      simp only [Exit.noGoto]
      try gi_wp2
      refine bodyPost_end (results_none rfl _ _ _) rfl ?_
      exact ⟨⟨_, rfl⟩, .inl ⟨_, rfl, hj⟩⟩

set_option maxHeartbeats 1000000 in
/-- free(node): the boxes of both are caught. -/
theorem free_in (F : Fence) (n : Nat) (h5 : F.fn 65) (hro : F.round = none) (P0 : Nat) (q : Int) (w : World) :
    CallsIn F n Try.prog 65 #[.pointer (some ⟨P0, 0, none⟩), .int .i64 q] w fun e w' => e = .returned (.func (.func 86) #[] #[.pointer (some ⟨w.heap.size, 0, none⟩), .pointer (some ⟨w.heap.size + 1, 0, none⟩)]) ∧ w' = (w.alloc (.cells #[.pointer (some ⟨P0, 0, none⟩)] 64)).alloc (.cells #[.int .i64 q] 2) := by
  refine callsIn_of_wp Try.func65 rfl h5 ?_ hro
  simp only [Try.ntmps65, List.size_toArray, List.length_cons, List.length_nil, Nat.reduceAdd, Nat.reduceSub, Array.replicate_succ, Array.replicate_zero, List.push_toArray, List.append_toArray, List.nil_append, List.cons_append]
  gi_wp2
  go_ret
  exact ⟨rfl, rfl⟩

/-- .. and it keeps to the contract of an iterator. -/
theorem free_stops (F : Fence) (n : Nat) (h7 : F.fn 86) (hro : F.round = none) (hn : 1 ≤ n) (Bp Bn P0 H N M b o vc : Nat) (x : Int) (hx : 1 ≤ x ∧ x ≤ 4096) (h0M : 0 < M) (hM : M = 2 ^ (min x 10).toNat) (q : Nat) (hq : q < N) (hN : N ≤ 200)
    (w : World) (hBp : w.cell? ⟨Bp, 0, none⟩ = some (.pointer (some ⟨P0, 0, none⟩))) (hBn : w.cell? ⟨Bn, 0, none⟩ = some (.int .i64 (q : Int)))
    (hp0 : w.cell? ⟨P0, 0, none⟩ = some (.slice (some ⟨b, o, none⟩) N vc)) (hp1 : w.cell? ⟨P0, 1, none⟩ = some (.slice (some ⟨H, 0, none⟩) N N)) (hc : w.cell? ⟨b, o + q, none⟩ = some (.int .i64 x))
    (hh0 : w.cell? ⟨H, q * 3, none⟩ = some (.slice none 0 0)) (hh1 : w.cell? ⟨H, q * 3 + 1, none⟩ = some (.map none)) (hh2 : w.cell? ⟨H, q * 3 + 2, none⟩ = some (.int .i64 0)) :
    SeqStopsK F n Try.prog 86 #[.pointer (some ⟨Bp, 0, none⟩), .pointer (some ⟨Bn, 0, none⟩)] (fun y : Fin M => #[Value.int .i64 ((y : Nat) : Int)]) KpA (fun ys => ys = upTo M h0M M) (fun pre => ∃ k, k ≤ M ∧ pre = upTo M h0M k) M w := fun l J Jx W hW hJ hJx hY h0 =>
  free1_in F n h7 hro hn l Bp Bn P0 H N M b o vc x hx h0M hM q hq hN J Jx W hJ hY ((hW.cell (p := ⟨Bp, 0, none⟩) (block_lt_of_cell hBp)).trans hBp) ((hW.cell (p := ⟨Bn, 0, none⟩) (block_lt_of_cell hBn)).trans hBn)
    ((hW.cell (p := ⟨P0, 0, none⟩) (block_lt_of_cell hp0)).trans hp0) ((hW.cell (p := ⟨P0, 1, none⟩) (block_lt_of_cell hp1)).trans hp1) ((hW.cell (p := ⟨b, o + q, none⟩) (block_lt_of_cell hc)).trans hc)
    ((hW.cell (p := ⟨H, q * 3, none⟩) (block_lt_of_cell hh0)).trans hh0) ((hW.cell (p := ⟨H, q * 3 + 1, none⟩) (block_lt_of_cell hh1)).trans hh1) ((hW.cell (p := ⟨H, q * 3 + 2, none⟩) (block_lt_of_cell hh2)).trans hh2) h0

end Go.Proofs.Ythoiajpbpoglfaa

/- The painter's fill: where nothing is barred, each node gets the word 0. -/
namespace Go.Proofs.Ythoiajpbpoglfaa
set_option linter.unusedVariables false
set_option linter.unusedSimpArgs false
open Go.RowKit Go.Shelf
attribute [local go_sem] Oper.semAt_some

theorem Pn.put {w0 u : World} {P0 H n vc g m cp i : Nat} {va : Option Addr} {ls : List Int} (h : Pn w0 u P0 H va n vc (.slice (some ⟨g, 0, none⟩) m cp) ls) (hi : i < ls.length) (y : Int) :
    Pn w0 (u.setCell ⟨g, i, none⟩ (.int .i64 y)) P0 H va n vc (.slice (some ⟨g, 0, none⟩) m cp) (ls.set i y) := by
  have hg := gsc u ⟨g, i, none⟩ (.int .i64 y)
  exact ⟨bz_grown h.px hg (bz_typed h.px (fun k e => by cases e; exact h.row.typedG rfl) (by decide)), bz_grown h.hx hg (bz_typed h.hx (fun k e => by cases e; exact h.row.typedG rfl) (by decide)), h.row.setO hi y, h.bel.setCell (show w0.heap.size ≤ g from (h.row.lt rfl).1) _, h.lo⟩

/-- k nodes have got their word. -/
def fil (n k : Nat) : List Int := List.replicate k 0 ++ List.replicate (n - k) (-1)
theorem fil_len {n k : Nat} (h : k ≤ n) : (fil n k).length = n := by unfold fil; rw [List.length_append, List.length_replicate, List.length_replicate]; omega
theorem fil_get {n k : Nat} (h : k < n) : (fil n k).getD k 0 = -1 := by
  unfold fil
  rw [List.getD, List.getElem?_append_right (by simp), List.length_replicate, Nat.sub_self, List.getElem?_replicate, if_pos (by omega)]
  rfl
theorem fil_set {n k : Nat} (h : k < n) : (fil n k).set k 0 = fil n (k + 1) := by
  unfold fil
  rw [List.set_append_right _ _ (by simp), List.length_replicate, Nat.sub_self, show n - k = (n - (k + 1)) + 1 by omega, List.replicate_succ, List.set_cons_zero, List.replicate_succ', List.append_assoc]
  rfl

theorem upTo_one {M : Nat} {h : 0 < M} {j : Nat} {y : Fin M} (e : [y] = upTo M h j) : (y : Nat) = 0 := by
  have hl := congrArg List.length e
  rw [upTo_length] at hl
  simp at hl
  subst hl
  simp [upTo] at e
  rw [e]
theorem KpA.trans {A B C : World} (h : KpA A B) (k : KpA B C) : KpA A C := fun b cs hb => k b cs (h b cs hb)
theorem KpA.put {W : World} {l : Nat} {o o' : Obj} (ho : W.heap[l]? = some o) (hc : o.isCells = false) : KpA W (W.putObj l o') := fun b cs hb => by
  refine (World.putObj_heap_other (fun e => ?_)).trans hb
  subst e
  rw [show W.heap[_]? = _ from hb] at ho
  cases ho
  cases hc
theorem bz_ownA {W W' : World} {b : Nat} {cs : Array Value} {t : TypeId} {row : Option Nat} (h : Bz W b cs t) (hg : W.grownBy W' row) (hr : ∀ r, row = some r → ∃ o : Obj, W.heap[r]? = some o ∧ o.isCells = false) : Bz W' b cs t := by
  unfold Bz at h ⊢
  rw [hg.block b (lt_of_block h) (fun e => ?_)]
  · exact h
  · obtain ⟨o, h1, h2⟩ := hr b e.symm
    rw [h] at h1
    cases h1
    cases h2
def mrk (Ds : List Nat) : List Deferred := Ds.map fun D => { target := .collected D, args := #[] }
theorem leaves_mrk {F : Fence} {n : Nat} {P : Program} {fn : Func} {tmps : Array Value} {R : Ending → World → Prop} (Q : World → Prop) (B : Nat) (hQ : ∀ w D, B ≤ D → w.heap[D]? = some (.deferred (some [])) → Q w → Q (w.putObj D (.deferred none)))
    (hfin : ∀ w, Q w → LeavesIn F n P fn tmps R [] .returning w) : ∀ (Ds : List Nat) (w : World), Ds.Nodup → (∀ D ∈ Ds, B ≤ D ∧ w.heap[D]? = some (.deferred (some []))) → Q w → LeavesInM F n P fn tmps R (mrk Ds) .returning w
  | [], w, _, _, hq => hfin w hq
  | D :: Ds, w, hn, hd, hq => by
    obtain ⟨h1, h2⟩ := hd D (by simp)
    refine ⟨by simp, .inl ⟨D, _, rfl, run_takeDeferred h2, leaves_mrk Q B hQ hfin Ds _ (List.nodup_cons.1 hn).2 (fun E hE => ?_) (hQ w D h1 h2 hq)⟩⟩
    obtain ⟨h3, h4⟩ := hd E (by simp [hE])
    exact ⟨h3, by rw [World.putObj_heap_other (fun e => (List.nodup_cons.1 hn).1 (by rw [← e]; exact hE))]; exact h4⟩

/-- What lies between two rounds. -/
structure Fs (w0 : World) (P0 H : Nat) (va : Option Addr) (n vc g cp A : Nat) (Ds : List Nat) (ls : List Int) (W : World) : Prop where
  pn : Pn w0 W P0 H va n vc (.slice (some ⟨g, 0, none⟩) n cp) ls
  bx : Bz W A #[.pointer (some ⟨P0, 0, none⟩)] 64
  ds : ∀ D ∈ Ds, A ≤ D ∧ W.heap[D]? = some (.deferred (some []))
theorem Fs.later {w0 W W' : World} {P0 H n vc g cp A : Nat} {va : Option Addr} {Ds : List Nat} {ls : List Int} (h : Fs w0 P0 H va n vc g cp A Ds ls W) (hb : Below W.heap.size W W') : Fs w0 P0 H va n vc g cp A Ds ls W' :=
  ⟨h.pn.later hb, h.bx.later hb, fun D hD => ⟨(h.ds D hD).1, (hb.block D (lt_of_block (h.ds D hD).2)).trans (h.ds D hD).2⟩⟩
theorem Pn.own {w0 W W' : World} {P0 H n vc : Nat} {va : Option Addr} {wv : Value} {ls : List Int} {row : Option Nat} (h : Pn w0 W P0 H va n vc wv ls) (hg : W.grownBy W' row) (hr : ∀ r, row = some r → w0.heap.size ≤ r ∧ ∃ o : Obj, W.heap[r]? = some o ∧ o.isCells = false) : Pn w0 W' P0 H va n vc wv ls := by
  have key : ∀ b cur (t : TypeId) fr, W.heap[b]? = some (.cells cur t fr) → some b ≠ row := fun b cur t fr hh e => by
    obtain ⟨-, o, h1, h2⟩ := hr b e.symm
    rw [hh] at h1
    cases h1
    cases h2
  refine ⟨bz_grown h.px hg (key _ _ _ _ h.px), bz_grown h.hx hg (key _ _ _ _ h.hx), h.row.move fun b hb => ?_, h.bel.grown hg h.bel.size (fun k e => (hr k e).1), h.lo⟩
  obtain ⟨cur, hh⟩ := h.row.typedG hb
  exact hg.block b (lt_of_block hh) (key _ _ _ _ hh)
theorem Fs.own {w0 W W' : World} {P0 H n vc g cp A : Nat} {va : Option Addr} {Ds : List Nat} {ls : List Int} {row : Option Nat} {Z : Nat} (h : Fs w0 P0 H va n vc g cp A Ds ls W) (hg : W.grownBy W' row) (hr : ∀ r, row = some r → Z ≤ r ∧ ∃ o : Obj, W.heap[r]? = some o ∧ o.isCells = false) (hZ : w0.heap.size ≤ Z) (hD : ∀ D ∈ Ds, D < Z) : Fs w0 P0 H va n vc g cp A Ds ls W' := by
  refine ⟨h.pn.own hg (fun r e => ⟨Nat.le_trans hZ (hr r e).1, (hr r e).2⟩), bz_grown h.bx hg (fun e => ?_), fun D hd => ⟨(h.ds D hd).1, (hg.block D (lt_of_block (h.ds D hd).2) (fun e => ?_)).trans (h.ds D hd).2⟩⟩
  · obtain ⟨-, o, h1, h2⟩ := hr A e.symm
    rw [show W.heap[A]? = _ from h.bx] at h1
    cases h1
    cases h2
  · have := (hr D e.symm).1
    have := hD D hd
    omega
theorem Fs.put {w0 W : World} {P0 H n vc g cp A i : Nat} {va : Option Addr} {Ds : List Nat} {ls : List Int} (h : Fs w0 P0 H va n vc g cp A Ds ls W) (hi : i < ls.length) (y : Int) : Fs w0 P0 H va n vc g cp A Ds (ls.set i y) (W.setCell ⟨g, i, none⟩ (.int .i64 y)) := by
  have hg := gsc W ⟨g, i, none⟩ (.int .i64 y)
  obtain ⟨cur, hh⟩ := h.pn.row.typedG (b := g) rfl
  refine ⟨h.pn.put hi y, bz_grown h.bx hg (fun e => ?_), fun D hd => ⟨(h.ds D hd).1, (hg.block D (lt_of_block (h.ds D hd).2) (fun e => ?_)).trans (h.ds D hd).2⟩⟩
  · have h8 : W.heap[A]? = _ := h.bx
    cases e
    have h9 := h8.symm.trans hh
    simp at h9
  · cases e
    have h9 := (h.ds g hd).2.symm.trans hh
    simp at h9

set_option maxHeartbeats 4000000 in
set_option maxRecDepth 100000 in
theorem fill_any {w0 w : World} {P0 H n vc : Nat} {va : Option Addr} {wv : Value} (ks : List Int) (hn : ks.length = n) (hn1 : 1 ≤ n) (hn2 : n ≤ 200) (hk : ∀ x ∈ ks, 1 ≤ x ∧ x ≤ 4096) (hr : RdI w0 va ks) (h : Pn w0 w P0 H va n vc wv (List.replicate n (-1))) :
    Calls Try.prog 36 #[.pointer (some ⟨P0, 0, none⟩)] w fun e w' => e = .returned (.tuple #[]) ∧ Pn w0 w' P0 H va n vc wv (List.replicate n 0) := by
  obtain ⟨g, cp, rfl⟩ : ∃ g cp, wv = .slice (some ⟨g, 0, none⟩) n cp := by
    have h9 := h.row.formP (by rw [List.length_replicate]; exact hn1)
    rw [List.length_replicate] at h9
    exact h9
  obtain ⟨-, -, h9 | ⟨b, o, rfl, hc0⟩⟩ := hr
  · rw [h9] at hn; simp at hn; omega
  have h0 : Pn w0 w P0 H (some ⟨b, o, none⟩) n vc (.slice (some ⟨g, 0, none⟩) n cp) (fil n 0) := h
  have hba : Below w.heap.size w (w.alloc (Obj.cells #[.pointer (some ⟨P0, 0, none⟩)] 64)) := (Below.refl _ _).alloc (Nat.le_refl _) _
  have F0 : Hid (Fs w0 P0 H (some ⟨b, o, none⟩) n vc g cp w.heap.size [] (fil n 0) (w.alloc (Obj.cells #[.pointer (some ⟨P0, 0, none⟩)] 64))) := ⟨h0.later hba, Bz.new w _ _, fun D hD => by cases hD⟩
  have p3 := h.px.cell 3
  simp at p3
  have lp := h.px.lt
  have HC := kide hc0
  have HKS := kide (And.intro hn hk)
  have hww : w0.heap.size ≤ w.heap.size := h.bel.size
  clear hk h h0 hba hc0 hn
  refine callsIn_wide.1 (callsIn_of_wp_marks (n := 8) Try.func36 rfl trivial ?_ rfl)
  simp only [Try.ntmps36, List.size_toArray, List.length_cons, List.length_nil, Nat.reduceAdd, Nat.reduceSub, Array.replicate_succ, Array.replicate_zero, List.push_toArray, List.append_toArray, List.nil_append, List.cons_append]
  gi_wp2
  refine wpIn_loop (fun a wr => ∃ (k : Nat) (Ds : List Nat) (u2 u3 u10 u11 u12 u13 u14 u15 u16 u17 u18 u19 u20 u21 u22 u23 u24 u25 u26 u27 u28 u29 u30 u31 : Value), k ≤ n ∧ a = { tmps := #[Value.pointer (some ⟨P0, 0, none⟩), Value.pointer (some ⟨w.heap.size, 0, none⟩), u2, u3, Value.pointer (some ⟨P0, 0, none⟩), Value.pointer (some ⟨P0, 0, none⟩), Value.pointer (some ⟨P0, 3, none⟩), Value.slice (some ⟨g, 0, none⟩) n cp, Value.int .i64 (n : Int), Value.int .i64 (k : Int), u10, u11, u12, u13, u14, u15, u16, u17, u18, u19, u20, u21, u22, u23, u24, u25, u26, u27, u28, u29, u30, u31], defers := mrk Ds } ∧ Ds.Nodup ∧ Fs w0 P0 H (some ⟨b, o, none⟩) n vc g cp w.heap.size Ds (fil n k) wr)
    (fun a _ => n - (intOf (a.tmps.getD 9 undef)).toNat) ⟨0, [], _, _, _, _, _, _, _, _, _, _, _, _, _, _, _, _, _, _, _, _, _, _, _, _, Nat.zero_le _, rfl, List.nodup_nil, F0.out⟩ ?_
  rintro a wr ⟨k, Ds, u2, u3, u10, u11, u12, u13, u14, u15, u16, u17, u18, u19, u20, u21, u22, u23, u24, u25, u26, u27, u28, u29, u30, u31, hk, rfl, hnd, hF⟩
  clear F0 p3 lp
  by_cases hkn : k < n
  · have k1 : (k : Int) < (n : Int) := by omega
    have k0 : (k : Int) ≥ 0 := by omega
    have HF := kide hF
    have HND := kide hnd
    obtain ⟨Bn, HBN⟩ : ∃ Bn, Hid (wr.heap.size = Bn) := ⟨_, rfl⟩
    have hb1 : Below wr.heap.size wr (wr.alloc (Obj.cells #[.int .i64 (k : Int)] 3)) := (Below.refl _ _).alloc (Nat.le_refl _) _
    have hF1 := hF.later hb1
    have XN := Bz.new wr #[.int .i64 (k : Int)] 3
    have c1 := hF1.bx.cell 0
    have c2 := hF1.pn.px.cell 3
    have c4 := hF1.pn.row.cellO (i := k) (by rw [fil_len hk]; exact hkn)
    rw [fil_get hkn] at c4
    simp at c1 c2
    have hwr : w.heap.size < wr.heap.size := hF.bx.lt
    clear hF hnd
    gi_wp2
    refine wpIn_mono (Q := fun e a' w' => e = Exit.normal ∧ a' = { tmps := #[Value.pointer (some ⟨P0, 0, none⟩), Value.pointer (some ⟨w.heap.size, 0, none⟩), Value.pointer (some ⟨wr.heap.size, 0, none⟩), u3, Value.pointer (some ⟨P0, 0, none⟩), Value.pointer (some ⟨P0, 0, none⟩), Value.pointer (some ⟨P0, 3, none⟩), Value.slice (some ⟨g, 0, none⟩) n cp, Value.int .i64 (n : Int), Value.int .i64 (k : Int), Value.bool true, Value.int .i64 (k : Int), Value.pointer (some ⟨P0, 0, none⟩), Value.pointer (some ⟨P0, 0, none⟩), Value.pointer (some ⟨P0, 3, none⟩), Value.slice (some ⟨g, 0, none⟩) n cp, Value.int .i64 (k : Int), Value.pointer (some ⟨g, k, none⟩), Value.int .i64 (-1), Value.bool false, u20, u21, u22, u23, u24, u25, u26, u27, u28, u29, u30, u31], defers := mrk Ds } ∧ w' = (wr.alloc (Obj.cells #[Value.int .i64 (k : Int)] 3)).drew) ?_ ?_
    · gi_region
      all_goals exact ⟨rfl, rfl, rfl⟩
    rintro e a' w' ⟨rfl, rfl, rfl⟩
    have hbd : Below (wr.alloc (Obj.cells #[Value.int .i64 (k : Int)] 3)).heap.size (wr.alloc (Obj.cells #[Value.int .i64 (k : Int)] 3)) (wr.alloc (Obj.cells #[Value.int .i64 (k : Int)] 3)).drew := (Below.refl _ _).drew
    have HF2 := kide (hF1.later hbd)
    have XN2 := kide (XN.later hbd)
    replace XN2 := XN2.out
    rw [HBN.out] at XN2
    replace XN2 := kide XN2
    clear hF1 XN c1 c2 c4 hb1 hbd
    try simp only [HBN.out]
    generalize (wr.alloc (Obj.cells #[Value.int .i64 (k : Int)] 3)).drew = V at *
    have c1 := HF2.out.bx.cell 0
    have c3 := XN2.out.cell 0
    simp at c1 c3
    have lb1 := HF2.out.bx.lt
    have lb2 := XN2.out.lt
    gi_wp2
    refine ⟨trivial, (free_in Fence.wide 7 trivial rfl P0 (k : Int) V).mono ?_⟩
    rintro e U ⟨rfl, hU⟩
    have hbU : Below V.heap.size V U := by
      rw [hU]
      exact ((Below.refl _ _).alloc (Nat.le_refl _) _).alloc (by simp) _
    have XZ0 : Bz U V.heap.size #[.pointer (some ⟨P0, 0, none⟩)] 64 := by
      rw [hU]
      exact (Bz.new V _ _).later ((Below.refl _ _).alloc (Nat.le_refl _) _)
    have XZ1 : Bz U (V.heap.size + 1) #[.int .i64 (k : Int)] 2 := by
      rw [hU]
      have h9 := Bz.new (V.alloc (Obj.cells #[.pointer (some ⟨P0, 0, none⟩)] 64)) #[.int .i64 (k : Int)] 2
      rwa [World.size_alloc] at h9
    have HF3 := kide (HF2.out.later hbU)
    have XN3 := kide (XN2.out.later hbU)
    clear hU hbU c1 c3 lb1 lb2 HF2 XN2
    obtain ⟨Z, HZ⟩ : ∃ Z, Hid (V.heap.size = Z) := ⟨_, rfl⟩
    rw [HZ.out] at XZ0 XZ1
    simp only [HZ.out]
    gi_wp2
    have bz0 := XZ0.cell 0
    have bz1 := XZ1.cell 0
    have p0 := HF3.out.pn.px.cell 0
    have p1 := HF3.out.pn.px.cell 1
    have hh0 : U.cell? ⟨H, k * 3, none⟩ = some (.slice none 0 0) := by
      have h9 := HF3.out.pn.hx.cell (k * 3)
      rw [h9]
      have e2 : (k * 3) % 3 = 0 := by omega
      simp [madeCells, e2, show k * 3 < n * 3 by omega]
    have hh1 : U.cell? ⟨H, k * 3 + 1, none⟩ = some (.map none) := by
      have h9 := HF3.out.pn.hx.cell (k * 3 + 1)
      rw [h9]
      have e2 : (k * 3 + 1) % 3 = 1 := by omega
      simp [madeCells, e2, show k * 3 + 1 < n * 3 by omega]
    have hh2 : U.cell? ⟨H, k * 3 + 2, none⟩ = some (.int .i64 0) := by
      have h9 := HF3.out.pn.hx.cell (k * 3 + 2)
      rw [h9]
      have e2 : (k * 3 + 2) % 3 = 2 := by omega
      simp [madeCells, e2, show k * 3 + 2 < n * 3 by omega]
    simp at bz0 bz1 p0 p1
    have hcx : U.cell? ⟨b, o + k, none⟩ = some (.int .i64 (ks.getD k 0)) := by
      have h9 := HC.out k (by rw [HKS.out.1]; exact hkn)
      exact (HF3.out.pn.bel.cell (p := ⟨b, o + k, none⟩) (block_lt_of_cell h9)).trans h9
    have hx1 := HKS.out.2 (ks.getD k 0) (by rw [List.getD, List.getElem?_eq_getElem (by rw [HKS.out.1]; exact hkn)]; exact List.getElem_mem _)
    generalize ks.getD k 0 = x at *
    obtain ⟨M, hM⟩ : ∃ M : Nat, M = 2 ^ (min x 10).toNat := ⟨_, rfl⟩
    have h0M : 0 < M := by rw [hM]; exact Nat.two_pow_pos _
    have hDU : ∀ D ∈ Ds, D < U.heap.size := fun D hD => lt_of_block (HF3.out.ds D hD).2
    have hwU : w0.heap.size ≤ U.heap.size := HF3.out.pn.bel.size
    have hwU2 : w.heap.size < U.heap.size := HF3.out.bx.lt
    have hnx : Bn < U.heap.size := XN3.out.lt
    refine wpIn_rangeFunc_ownH rfl (by omega) (gf := 86) (lb := #[.pointer (some ⟨Z, 0, none⟩), .pointer (some ⟨Z + 1, 0, none⟩)]) rfl trivial (enters_of Try.func86 (by kernel_rfl) rfl)
      (free_stops Fence.wide 7 trivial rfl (by omega) Z (Z + 1) P0 H n M b o vc x hx1 h0M hM k hkn hn2 U bz0 bz1 p0 p1 hcx hh0 hh1 hh2)
      KpA.trans (fun W l o o' _ ho hc _ => KpA.put ho hc) (Below.refl _ _) (fun _ => rfl)
      (fun pre W => pre = [] ∧ Fs w0 P0 H (some ⟨b, o, none⟩) n vc g cp w.heap.size Ds (fil n k) W ∧ Bz W Bn #[.int .i64 (k : Int)] 3)
      (fun c pre W => c = Code.exit 2 ∧ ∃ y : Fin M, pre = [y] ∧ Fs w0 P0 H (some ⟨b, o, none⟩) n vc g cp w.heap.size Ds ((fil n k).set k ((y : Nat) : Int)) W)
      (fun s A B row hs hg hr => ⟨hs.1, hs.2.1.own hg hr hwU hDU, bz_ownA hs.2.2 hg (fun r e => (hr r e).2)⟩) (fun c s A B row hs hg hr => ⟨hs.1, by obtain ⟨y, h1, h2⟩ := hs.2; exact ⟨y, h1, h2.own hg hr hwU hDU⟩⟩)
      ⟨rfl, HF3.out, XN3.out⟩
      (fun y a' _ => a' = { tmps := #[Value.pointer (some ⟨P0, 0, none⟩), Value.pointer (some ⟨w.heap.size, 0, none⟩), Value.pointer (some ⟨Bn, 0, none⟩), Value.int .i64 ((y : Nat) : Int), Value.pointer (some ⟨P0, 0, none⟩), Value.pointer (some ⟨P0, 0, none⟩), Value.pointer (some ⟨P0, 3, none⟩), Value.slice (some ⟨g, 0, none⟩) n cp, Value.int .i64 (n : Int), Value.int .i64 (k : Int), Value.bool true, Value.int .i64 (k : Int), Value.pointer (some ⟨P0, 0, none⟩), Value.pointer (some ⟨P0, 0, none⟩), Value.pointer (some ⟨P0, 3, none⟩), Value.slice (some ⟨g, 0, none⟩) n cp, Value.int .i64 (k : Int), Value.pointer (some ⟨g, k, none⟩), Value.int .i64 (-1), Value.bool false, Value.pointer (some ⟨P0, 0, none⟩), Value.int .i64 (k : Int), Value.func (Fn.func 86) #[] #[Value.pointer (some ⟨Z, 0, none⟩), Value.pointer (some ⟨Z + 1, 0, none⟩)], Value.int .i64 ((y : Nat) : Int), u24, u25, u26, u27, u28, u29, u30, u31], defers := [] }) (fun _ _ _ _ _ _ h _ _ => h)
      ?assign ?body ?done ?stop
    case assign =>
      rintro l pre y W K hU hK
      have HK := kide hK
      have HU := kide hU
      clear hK hU
      gi_wp2
      exact HK.out _ _ (KeepsFrom.refl _ _) (fun b cs h => h) HU.out rfl
    case body =>
      rintro l pre y a' W hl hrec ⟨rfl, hF, hX⟩ rfl hpN
      have HF := kide hF
      have HX := kide hX
      have d1 := hF.bx.cell 0
      have d2 := hF.pn.px.cell 3
      have d3 := hX.cell 0
      have d4 := hF.pn.row.cellO (i := k) (by rw [fil_len hk]; exact hkn)
      have d5 := hF.pn.row.frozO k
      simp at d1 d2 d3
      clear hF hX
      gi_wp2
      refine wpIn_mono (Q := fun e _ w' => e = Exit.normal ∧ w' = W.drew.setCell ⟨g, k, none⟩ (.int .i64 ((y : Nat) : Int))) ?_ ?_
      · gi_region
        all_goals exact ⟨rfl, rfl⟩
      rintro e a' w' ⟨rfl, rfl⟩
      gi_wp2
      exact ⟨((KeepsOthers.drew W).trans (KeepsOthers.setCell _ _ _)).from _, rfl, y, rfl, (HF.out.later ((Below.refl _ _).drew)).put (by rw [fil_len hk]; exact hkn) _⟩
    case done =>
      rintro D xs W hD hS ⟨hn9, -⟩ hdf
      rw [hn9] at hS
      have h9 := congrArg List.length hS
      rw [upTo_length] at h9
      simp at h9
      omega
    case stop =>
      rintro D c pre W hD ⟨j, hj, hpre⟩ ⟨rfl, y, rfl, hF⟩ hdf
      have hy := upTo_one hpre
      rw [hy, show ((0 : Nat) : Int) = 0 from rfl, fil_set hkn] at hF
      have NF : Hid (Fs w0 P0 H (some ⟨b, o, none⟩) n vc g cp w.heap.size (D :: Ds) (fil n (k + 1)) W) := ⟨hF.pn, hF.bx, fun E hE => by
        rcases List.mem_cons.1 hE with rfl | hE
        · exact ⟨by omega, hdf⟩
        · exact hF.ds E hE⟩
      have NN : Hid ((D :: Ds).Nodup) := List.nodup_cons.2 ⟨fun h9 => by have := hDU D h9; omega, HND.out⟩
      have hkw : IntKind.i64.wrap ((k : Int) + 1) = (k : Int) + 1 := by rw [IntKind.wrap_i64]; omega
      clear hF hdf
      gi_wp2
      refine ⟨⟨k + 1, D :: Ds, _, _, _, _, _, _, _, _, _, _, _, _, _, _, _, _, _, _, _, _, _, _, _, _, by omega, rfl, NN.out, NF.out⟩, ?_⟩
      simp [intOf]
      omega
  · have e9 : k = n := by omega
    subst e9
    have e8 : fil k k = List.replicate k 0 := by simp [fil]
    rw [e8] at hF
    clear e8
    gi_wp2
    refine leaves_mrk (fun u => Pn w0 u P0 H (some ⟨b, o, none⟩) k vc (.slice (some ⟨g, 0, none⟩) k cp) (List.replicate k 0)) w.heap.size (fun u D hD hd hq => ?_) (fun u hq => ⟨_, results_none rfl _ _ _, rfl, hq⟩) Ds wr hnd hF.ds hF.pn
    exact hq.own (row := some D) (grownBy_putObj' u D _) (fun r e => by cases e; exact ⟨by omega, _, hd, rfl⟩)

end Go.Proofs.Ythoiajpbpoglfaa
