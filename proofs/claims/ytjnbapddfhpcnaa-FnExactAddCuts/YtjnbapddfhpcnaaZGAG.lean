/- Several texts in one. -/
import Derived.RangeFuncBox
import Derived.RangeFuncLeaves
import Derived.RangeFuncNested
import Derived.RangeFuncWrites
import Derived.Shelf.Abstract
import Derived.WalkKit
import Derived.OwnWalkIn
import Derived.TacticsInMore
import Derived.LoopNIn
import Derived.LoopIn
import Derived.Scope
import Derived.RegionIn
import Derived.Test.YtjnbapddfhpcnaaZGAF
import Derived.Sort.MapsRangeIn
import Derived.Sort.KeysCollected
import Derived.Handy

/- The places of cuts, told one behind the other. -/
namespace Go.Proofs.Ytjnbapddfhpcnaa
set_option linter.unusedVariables false
set_option linter.unusedSimpArgs false
open Go.RowKit Go.Shelf
attribute [local go_sem] Oper.semAt_some

/-- The places of the first v variables. -/
def plT (ks : List (List Int)) (v : Nat) : List Cp := (List.range v).flatMap fun i => (ks.getD i []).map fun a => ((i : Int), a)
theorem plT_succ (ks : List (List Int)) (v : Nat) : plT ks (v + 1) = plT ks v ++ (ks.getD v []).map fun a => ((v : Int), a) := by simp [plT, List.range_succ]

theorem plT_add (ks : List (List Int)) (v d : Nat) : (plT ks v).length ≤ (plT ks (v + d)).length := by
  induction d with
  | zero => exact Nat.le_refl _
  | succ d ih =>
    rw [show v + (d + 1) = v + d + 1 by omega, plT_succ, List.length_append]
    omega
theorem plT_le (ks : List (List Int)) {v N : Nat} (h : v ≤ N) : (plT ks v).length ≤ (plT ks N).length := by
  obtain ⟨d, rfl⟩ : ∃ d, N = v + d := ⟨N - v, by omega⟩
  exact plT_add ks v d

/-- Blocks of cells stay. -/
def KpC (W W' : World) : Prop := ∀ (b : Nat) (o : Obj), W.heap[b]? = some o → o.isCells = true → W'.heap[b]? = some o
theorem KpC.trans {A B C : World} (h : KpC A B) (k : KpC B C) : KpC A C := fun b o hb hc => k b o (h b o hb hc) hc
theorem KpC.cell {A B : World} (h : KpC A B) {a : Addr} {v : Value} (hc : A.cell? a = some v) : B.cell? a = some v := by
  unfold World.cell? at hc ⊢
  split at hc
  · rename_i cs t fr he
    rw [h _ _ he rfl]
    exact hc
  · cases hc

set_option maxRecDepth 100000 in
set_option maxHeartbeats 2000000 in
theorem places1_in (F : Fence) (n : Nat) (h7 : F.fn 35) (hro : F.round = none) (hn : 1 ≤ n) (l Bc N cc : Nat) (ca : Option Addr) (xs : List Iw) (hN : xs.length = N) (J Jx : List Cp → World → Prop)
    (W : World) (hJ : AbidesFrom W.heap.size J)
    (M : Nat) (hM : (plT (xs.map Iw.ks) N).length ≤ M)
    (hY : ∀ (pre : List Cp) (y : Cp) (W : World), J pre W → pre.length < M → okP y → YieldAt F (n - 1) Try.prog l #[pv y] W fun e W' =>
      (e = .returned (.bool true) ∧ J (pre ++ [y]) W' ∧ KpC W W') ∨ (e = .returned (.bool false) ∧ Jx (pre ++ [y]) W'))
    (hBc : W.cell? ⟨Bc, 0, none⟩ = some (.slice ca N cc)) (hs : RdII W ca xs) (h0 : J [] W) :
    CallsIn F n Try.prog 35 #[.func (.yield l) #[] #[], .pointer (some ⟨Bc, 0, none⟩)] W fun e W' => (∃ v, e = .returned v) ∧
      ((∃ ys, ys = plT (xs.map Iw.ks) N ∧ J ys W') ∨ (∃ pre, True ∧ Jx pre W')) := by
  refine callsIn_of_wp Try.func35 rfl h7 ?_ hro
  simp only [Try.ntmps35, List.size_toArray, List.length_cons, List.length_nil, Nat.reduceAdd, Nat.reduceSub, Array.replicate_succ, Array.replicate_zero, List.push_toArray, List.append_toArray, List.nil_append, List.cons_append]
  have lBc := block_lt_of_cell hBc
  simp only [] at lBc
  have hlN : N ≤ 1048576 := by rw [← hN]; exact hs.1
  have HS := kide hs
  have HNX := kide hN
  have HY := kide hY
  have HM := kide hM
  gi_wp2
  clear hs hN hY hM
  gi_loopw [10] (fun i wr => ∃ v : Nat, v ≤ N ∧ i = .int .i64 (v : Int) ∧ J (plT (xs.map Iw.ks) v) wr ∧ KpC W wr) (fun i _ => N - (intOf i).toNat)
  case atStart => exact ⟨0, Nat.zero_le _, rfl, h0, fun _ _ h _ => h⟩
  case round =>
    obtain ⟨v, hv, rfl, hj, hkc⟩ := hrel
    by_cases hvN : v < N
    · have i0 : (v : Int) < (N : Int) := by omega
      have i1 : (v : Int) ≥ 0 := by omega
      obtain ⟨-, h9 | ⟨b, o, rfl, hc⟩⟩ := HS.out
      · have := HNX.out; rw [h9] at this; simp at this; omega
      obtain ⟨x, hx⟩ : ∃ x, xs[v]? = some x := ⟨xs[v]'(by rw [HNX.out]; exact hvN), List.getElem?_eq_getElem _⟩
      have hgx : (xs.map Iw.ks).getD v [] = x.ks := by simp [List.getD, hx]
      have HSU := kide (plT_succ (xs.map Iw.ks) v)
      rw [hgx] at HSU
      obtain ⟨c0, c1, c2⟩ := hc v x hx
      replace c0 := hkc.cell c0
      obtain ⟨xa, xc, xk⟩ := x
      simp only [] at c0 c1 c2 HSU
      have HJ := kide hj
      have HKC := kide hkc
      have HVN := kide hvN
      clear hc hj hkc hvN hgx hx
      gi_wp2
      gi_loopw [17] (fun i wr2 => ∃ k : Nat, k ≤ xk.length ∧ i = .int .i64 (k : Int) ∧ J (plT (xs.map Iw.ks) v ++ (xk.take k).map fun a => ((v : Int), a)) wr2 ∧ KpC W wr2) (fun i _ => xk.length - (intOf i).toNat)
      case atStart => exact ⟨0, Nat.zero_le _, rfl, by simpa using HJ.out, HKC.out⟩
      case round =>
        obtain ⟨k, hk, rfl, hj2, hkc2⟩ := hrel
        by_cases hkl : k < xk.length
        · have j0 : (k : Int) < (xk.length : Int) := by omega
          have j1 : (k : Int) ≥ 0 := by omega
          obtain ⟨c2in, h9 | ⟨b2, o2, rfl, hc2⟩⟩ := c2
          · rw [h9] at hkl; simp at hkl
          have d0 := hkc2.cell (hc2 k hkl)
          have hyk : in64 (xk.getD k 0) := c2in _ (by rw [List.getD, List.getElem?_eq_getElem hkl]; exact List.getElem_mem _)
          have HTK : Hid (xk.take (k + 1) = xk.take k ++ [xk.getD k 0]) := by
            show _ = _
            rw [List.take_add_one, List.getElem?_eq_getElem hkl, Option.toList_some, List.getD, List.getElem?_eq_getElem hkl]
            rfl
          generalize xk.getD k 0 = y at *
          obtain ⟨fn, tmps, assign, body, hy, hR⟩ := HY.out _ ((v : Int), y) _ hj2 (by
            have h7 := plT_le (xs.map Iw.ks) HVN.out
            rw [HSU.out] at h7
            have h8 := HM.out
            simp at h7 h8 ⊢
            omega) ⟨⟨by have := HVN.out; omega, by have := HVN.out; omega⟩, hyk⟩
          dsimp only [pv] at hy
          have HKL := kide hkl
          have HKC2 := kide hkc2
          clear hc2 hj2 hkc2 hkl HJ HKC c0
          gi_wp2
          refine hR.mono ?_
          rintro e W3 (⟨rfl, hJ3, hk3⟩ | ⟨rfl, hJx3⟩)
          · gi_wp2
            have hkw : IntKind.i64.wrap ((k : Int) + 1) = (k : Int) + 1 := by rw [IntKind.wrap_i64]; have := HKL.out; omega
            refine ⟨⟨k + 1, HKL.out, by go_num, by rw [HTK.out, List.map_append, ← List.append_assoc]; exact hJ3, HKC2.out.trans hk3⟩, ?_⟩
            have := HKL.out
            simp only [intOf]
            omega
          · gi_wp2
            refine bodyPost_ret (results_none rfl _ _ _) rfl ?_
            exact ⟨⟨_, rfl⟩, .inr ⟨_, trivial, hJx3⟩⟩
        · have e9 : k = xk.length := by omega
          subst e9
          rw [List.take_of_length_le (Nat.le_refl _), ← HSU.out] at hj2
          clear hkl HJ HKC
          gi_wp2
          have hkw : IntKind.i64.wrap ((v : Int) + 1) = (v : Int) + 1 := by rw [IntKind.wrap_i64]; have := HVN.out; omega
          refine ⟨⟨v + 1, HVN.out, by go_num, hj2, hkc2⟩, ?_⟩
          have := HVN.out
          simp only [intOf]
          omega
    · have e9 : v = N := by omega
      subst e9
      gi_wp2
      refine bodyPost_end (results_none rfl _ _ _) rfl ?_
      exact ⟨⟨_, rfl⟩, .inl ⟨_, rfl, hj⟩⟩

theorem RdII.kept {W W' : World} {a : Option Addr} {xs : List Iw} (h : RdII W a xs) (hb : Below W.heap.size W W') : RdII W' a xs := h.later hb

/-- placesIn(c): the box of its cuts is caught. -/
theorem placesIn_in (F : Fence) (n : Nat) (h5 : F.fn 23) (hro : F.round = none) (ca : Option Addr) (N cc : Nat) (w : World) :
    CallsIn F n Try.prog 23 #[.agg #[.slice ca N cc]] w fun e w' => e = .returned (.func (.func 35) #[] #[.pointer (some ⟨w.heap.size, 0, none⟩)]) ∧ w' = w.alloc (.cells #[.slice ca N cc] 28) := by
  refine callsIn_of_wp Try.func23 rfl h5 ?_ hro
  simp only [Try.ntmps23, List.size_toArray, List.length_cons, List.length_nil, Nat.reduceAdd, Nat.reduceSub, Array.replicate_succ, Array.replicate_zero, List.push_toArray, List.append_toArray, List.nil_append, List.cons_append]
  gi_wp2
  go_ret
  exact ⟨rfl, rfl⟩

/-- A place that a key can be made of. -/
abbrev OkC := { p : Cp // okP p }

theorem places_stops (F : Fence) (n : Nat) (h7 : F.fn 35) (hro : F.round = none) (hn : 1 ≤ n) (Bc N cc : Nat) (ca : Option Addr) (xs : List Iw) (hN : xs.length = N) (M : Nat) (hM : (plT (xs.map Iw.ks) N).length ≤ M)
    (w : World) (hBc : w.cell? ⟨Bc, 0, none⟩ = some (.slice ca N cc)) (hs : RdII w ca xs) :
    SeqStopsK F n Try.prog 35 #[.pointer (some ⟨Bc, 0, none⟩)] (fun p : OkC => #[pv p.1]) KpC (fun ys => ys.map Subtype.val = plT (xs.map Iw.ks) N) (fun _ => True) M w := fun l J Jx W hW hJ hJx hY h0 => by
  refine (places1_in F n h7 hro hn l Bc N cc ca xs hN (fun s W => ∃ s' : List OkC, s'.map Subtype.val = s ∧ J s' W) (fun s W => ∃ s' : List OkC, s'.map Subtype.val = s ∧ Jx s' W) W (fun s X Y row hs hg hr => ?_) M hM ?_ ((hW.cell (p := ⟨Bc, 0, none⟩) (block_lt_of_cell hBc)).trans hBc) (hs.kept hW) ⟨[], rfl, h0⟩).mono ?_
  · obtain ⟨s', h1, h2⟩ := hs
    exact ⟨s', h1, hJ s' X Y row h2 hg hr⟩
  · rintro pre y W1 ⟨s', h1, h2⟩ hlen hok
    subst h1
    have h9 := hY s' ⟨y, hok⟩ W1 h2 (by simpa using hlen)
    obtain ⟨fn, tmps, assign, body, hy, hR⟩ := h9
    refine ⟨fn, tmps, assign, body, hy, hR.mono ?_⟩
    rintro e W3 (⟨rfl, hJ3, hk3⟩ | ⟨rfl, hJx3⟩)
    · exact .inl ⟨rfl, ⟨_, by simp, hJ3⟩, hk3⟩
    · exact .inr ⟨rfl, _, by simp, hJx3⟩
  · rintro e W' ⟨h1, ⟨ys, h2, s', h3, h4⟩ | ⟨pre, -, s', h3, h4⟩⟩
    · exact ⟨h1, .inl ⟨s', h3.trans h2, h4⟩⟩
    · exact ⟨h1, .inr ⟨s', trivial, h4⟩⟩

end Go.Proofs.Ytjnbapddfhpcnaa

/- The keys of a set of places, told in any order, each once. -/
namespace Go.Proofs.Ytjnbapddfhpcnaa
set_option linter.unusedVariables false
set_option linter.unusedSimpArgs false
open Go.RowKit Go.Shelf Go.Maps
attribute [local go_sem] Oper.semAt_some

theorem unit_inv {v : Value} {y : DataW Unit × List MemPlace} (h : unitElem v = some y) : ∃ c : Unit, v = (fun _ => Value.agg #[]) c := ⟨(), (unitElem_inv h).1⟩

set_option maxRecDepth 100000 in
set_option maxHeartbeats 1000000 in
theorem keys1_in (F : Fence) (n : Nat) (h10 : F.fn 49) (hro : F.round = none) (hn : 1 ≤ n) (l Bm b nn : Nat) (D0 : DataW Unit) (J Jx : List Cp → World → Prop)
    (hY : ∀ pre x W, J pre W → pre.length < Maps.size D0 → okP x → YieldAt F (n - 1) Try.prog l #[pv x] W fun e W' =>
      (e = .returned (.bool true) ∧ J (pre ++ [x]) W' ∧ KeepsWalks W W') ∨ (e = .returned (.bool false) ∧ Jx (pre ++ [x]) W'))
    (W : World) (hJ : AbidesFrom W.heap.size J) (hm : W.cell? ⟨Bm, 0, none⟩ = some (.map (some b))) (hown : W.ownsMap Try.prog 58 unitElem b nn D0) (h0 : J [] W) :
    CallsIn F n Try.prog 49 #[.func (.yield l) #[] #[], .pointer (some ⟨Bm, 0, none⟩)] W fun e W' => (∃ v, e = .returned v) ∧ ((∃ ss, (Col D0 (fun _ => false) ss ∧ ss.length ≤ Maps.size D0) ∧ J ss W') ∨ (∃ pre, True ∧ Jx pre W')) := by
  refine callsIn_of_wp Try.func49 rfl h10 ?_ hro
  simp only [Try.ntmps49, List.size_toArray, List.length_cons, List.length_nil, Nat.reduceAdd, Nat.reduceSub, Array.replicate_succ, Array.replicate_zero, List.push_toArray, List.append_toArray, List.nil_append, List.cons_append]
  gi_wp2_with (first
    | (gi_at_range; refine wpListIn_range_own _ rfl _ 52 rfl 58 59 cutKeyed Try.underlying52 _ b nn _ rfl hown ?_; intro w0 hrg0 hg0 hs0)
    | gi_in)
  go_frame
  gi_loopw [3] (fun _ wr => ∃ (left : Lit → Bool) (cnt : Nat) (ss : List Cp), wr.ranges Try.prog 58 unitElem b W.heap.size nn D0 left cnt ∧ ss.length + cnt ≤ Maps.size D0 ∧ Col D0 left ss ∧ J ss wr)
    (fun _ wr => wr.rangeLeft b W.heap.size)
  case atStart =>
    exact ⟨_, _, [], hrg0, by simp, Col.start D0, hJ [] W w0 none h0 hg0 (fun r e => by cases e)⟩
  case round =>
    obtain ⟨left, cnt, ss, hrg, hcs, hC, hJs⟩ := hrel
    gi_wp2_with (first
      | (gi_at_next; refine wpListIn_next_ranges _ rfl _ rfl 58 cutKeyed unitElem pv (fun _ : Unit => Value.agg #[]) (fun key kl hk => by obtain ⟨x, hx, _⟩ := keyOf_pl_inv hk; exact ⟨x, hx⟩) (fun v y h => unit_inv h) b W.heap.size nn _ _ _ rfl hrg ?_ ?_)
      | gi_in)
    · -- nothing is left
      intro hc0 hl0
      gi_wp2
      go_end0
      have hle : left = fun _ => false := funext hl0
      rw [hle] at hC
      exact ⟨⟨_, rfl⟩, .inl ⟨ss, ⟨hC, by omega⟩, hJs⟩⟩
    · -- an entry has come
      intro x1 x2 kl yd yp w2 cnt2 hkey hlk hv hat hrg2 hlt hg2 hs2 hen
      obtain ⟨x', ex, hok⟩ := keyOf_pl_inv hkey
      obtain rfl : (x1, x2) = x' := by
        have h9 := hkey
        rw [ex] at h9
        exact pv_inj hkey h9
      have hJ2 : J ss w2 := hJ ss wr w2 (some W.heap.size) hJs hg2 (fun r e => by cases e; exact ⟨Nat.le_refl _, hrg.iter_walk⟩)
      have hJ3 : J ss (w2.alloc (Obj.cells #[Value.int .i64 x1, Value.int .i64 x2] 58)) := hJ ss w2 _ none hJ2 (World.grownBy_alloc _ _ _) (fun r e => by cases e)
      have hrg3 := hrg2.of_walks (KeepsWalks.alloc w2 (Obj.cells #[Value.int .i64 x1, Value.int .i64 x2] 58))
      obtain ⟨fn, tmps, assign, body, hy, hR⟩ := hY ss (x1, x2) _ hJ3 (by omega) hok
      dsimp only [pv] at hy hen
      unfold pv
      clear hs2
      gi_wp2
      refine hR.mono ?_
      rintro e W3 (⟨rfl, hJ4, hk3⟩ | ⟨rfl, hJx3⟩)
      · gi_wp2
        have hrg4 := hrg3.of_walks hk3
        go_roundw
        case rel => exact ⟨_, cnt2, ss ++ [(x1, x2)], hrg4, by simp; omega, hC.step hok hkey hlk hat, hJ4⟩
        case measure => rw [hrg4.left_eq, hrg.left_eq]; exact hlt
      · gi_wp2
        refine bodyPost_ret (results_none rfl _ _ _) rfl ?_
        exact ⟨⟨_, rfl⟩, .inr ⟨_, trivial, hJx3⟩⟩

theorem own_belowU {P : Program} {k : TypeId} {R : Value → Option (DataW Unit × List MemPlace)} {w w' : World} {b n : Nat} {D : DataW Unit} (h : w.ownsMap P k R b n D) (hk : b < w.heap.size → w'.heap[b]? = w.heap[b]?) : w'.ownsMap P k R b n D := by
  obtain ⟨es, clock, hb, r⟩ := h
  exact ⟨es, clock, (hk (lt_of_block hb)).trans hb, r⟩

/-- maps.Keys(m): the map's box is caught. -/
theorem keysC_in (F : Fence) (n : Nat) (h7 : F.fn 37) (hro : F.round = none) (b : Nat) (w : World) :
    CallsIn F n Try.prog 37 #[.map (some b)] w fun e w' => e = .returned (.func (.func 49) #[] #[.pointer (some ⟨w.heap.size, 0, none⟩)]) ∧ w' = w.alloc (.cells #[.map (some b)] 52) := by
  refine callsIn_of_wp Try.func37 rfl h7 ?_ hro
  simp only [Try.ntmps37, List.size_toArray, List.length_cons, List.length_nil, Nat.reduceAdd, Nat.reduceSub, Array.replicate_succ, Array.replicate_zero, List.push_toArray, List.append_toArray, List.nil_append, List.cons_append]
  gi_wp2
  go_ret
  exact ⟨rfl, rfl⟩

theorem keys_stops (F : Fence) (n : Nat) (h10 : F.fn 49) (hro : F.round = none) (hn : 1 ≤ n) (Bm b nn : Nat) (D0 : DataW Unit) (w : World) (hm : w.cell? ⟨Bm, 0, none⟩ = some (.map (some b))) (hown : w.ownsMap Try.prog 58 unitElem b nn D0) :
    SeqStopsK F n Try.prog 49 #[.pointer (some ⟨Bm, 0, none⟩)] (fun p : Cp => #[pv p]) KeepsWalks (fun ss => Col D0 (fun _ => false) ss ∧ ss.length ≤ Maps.size D0) (fun _ => True) (Maps.size D0) w := fun l J Jx W hW hJ hJx hY h0 =>
  keys1_in F n h10 hro hn l Bm b nn D0 J Jx (fun pre x W h1 h2 _ => hY pre x W h1 h2) W hJ ((hW.cell (p := ⟨Bm, 0, none⟩) (block_lt_of_cell hm)).trans hm) (own_belowU hown fun hb => hW.block b hb) h0

end Go.Proofs.Ytjnbapddfhpcnaa

/- slices.Collect of the keys. -/
namespace Go.Proofs.Ytjnbapddfhpcnaa
set_option linter.unusedVariables false
set_option linter.unusedSimpArgs false
open Go.RowKit Go.Shelf Go.Maps
attribute [local go_sem] Oper.semAt_some

theorem Try.infoPlace : (Try.prog.info? 58).map (fun i => (i.zero, i.size, i.bytes)) = some (some (.agg #[.int .i64 0, .int .i64 0]), 2, 16) := by kernel_rfl

def plc : List Cp → List Value
  | [] => []
  | p :: t => .int .i64 p.1 :: .int .i64 p.2 :: plc t
theorem plc_len (l : List Cp) : (plc l).length = l.length * 2 := by
  induction l with
  | nil => rfl
  | cons x t ih => simp [plc, ih]; omega
theorem plc_append (l m : List Cp) : plc (l ++ m) = plc l ++ plc m := by
  induction l with
  | nil => rfl
  | cons x t ih => simp [plc, ih]
theorem plc_get : ∀ {l : List Cp} {i : Nat} {x : Cp}, l[i]? = some x → (plc l)[i * 2]? = some (.int .i64 x.1) ∧ (plc l)[i * 2 + 1]? = some (.int .i64 x.2)
  | y :: t, 0, x, h => by simp at h; subst h; simp [plc]
  | y :: t, i + 1, x, h => by
    have := plc_get (l := t) (i := i) (x := x) (by simpa using h)
    rw [show (i + 1) * 2 = i * 2 + 1 + 1 by omega]
    simpa [plc] using this

/-- An owned row of places. -/
def OP2 (w : World) (B : Nat) (v : Value) (l : List Cp) : Prop := w.ownsRow B 58 2 v l.length (plc l)
theorem OP2.grown {w w' : World} {B : Nat} {v : Value} {l : List Cp} {row : Option Nat} (h : OP2 w B v l) (hg : w.grownBy w' row) (hr : ∀ r, row = some r → ∃ o : Obj, w.heap[r]? = some o ∧ ∀ cur, o ≠ .cells cur 58 (0, 0)) : OP2 w' B v l := World.ownsRow.kept h hg (by
  rcases h.2 with ⟨rfl, -⟩ | ⟨g, cap, cur, rfl, hgB, hh, -⟩
  · exact .inl rfl
  · refine .inr fun e => ?_
    obtain ⟨o, h1, h2⟩ := hr g e.symm
    rw [hh] at h1
    cases h1
    exact h2 cur rfl)
theorem OP2.later {w w' : World} {B : Nat} {v : Value} {l : List Cp} (h : OP2 w B v l) (hb : Below w.heap.size w w') : OP2 w' B v l := h.grown (row := none) ⟨hb.os, hb.tape, hb.output, hb.size, fun k hk _ => hb.block k hk⟩ (fun r e => by cases e)
theorem OP2.lt {w : World} {B : Nat} {v : Value} {l : List Cp} (h : OP2 w B v l) {b : Nat} (hb : v.ownBlock = some b) : B ≤ b ∧ b < w.heap.size := by
  rcases h.2 with ⟨rfl, -⟩ | ⟨g, cap, cur, rfl, hg, hh, -⟩
  · cases hb
  · cases hb
    exact ⟨hg, lt_of_block hh⟩
theorem OP2.typed {w : World} {B : Nat} {v : Value} {l : List Cp} (h : OP2 w B v l) {b : Nat} (hb : v.ownBlock = some b) : ∃ cur, w.heap[b]? = some (.cells cur 58 (0, 0)) := by
  rcases h.2 with ⟨rfl, -⟩ | ⟨g, cap, cur, rfl, hg, hh, -⟩
  · cases hb
  · cases hb
    exact ⟨cur, hh⟩
theorem OP2.nil (w : World) (B : Nat) : OP2 w B (.slice none 0 0) [] := ⟨rfl, .inl ⟨rfl, rfl⟩⟩
theorem OP2.form {w : World} {B : Nat} {v : Value} {l : List Cp} (h : OP2 w B v l) : ∃ a c, v = .slice a l.length c := by
  rcases h.2 with ⟨e, h0⟩ | ⟨g, cap, cur, e, -⟩
  · exact ⟨none, 0, by rw [e, h0]⟩
  · exact ⟨_, _, e⟩

theorem wpListIn_appP {F : Fence} {n : Nat} {w : World} {ops : Array Oper} {rest : List Oper} {o : Oper} {a : Act} {Q : Exit → Act → World → Prop} (hgd : o.guard = none) (s x : Operand)
    (ho : o.op = .call { callee := .builtin .append, args := #[s, x], argTypes := #[69, 69] })
    (B : Nat) (v : Value) (l : List Cp) (y : Cp) (hs : a.eval s = v) (hown : OP2 w B v l) (gx c : Nat) (hx : a.eval x = .slice (some ⟨gx, 0, none⟩) 1 c)
    (h0 : w.cell? ⟨gx, 0, none⟩ = some (.int .i64 y.1)) (h1 : w.cell? ⟨gx, 1, none⟩ = some (.int .i64 y.2)) (hl : l.length ≤ 1073741824) (hB : B ≤ w.heap.size)
    (h : ∀ g cap w', OP2 w' B (.slice (some ⟨g, 0, none⟩) (l.length + 1) cap) (l ++ [y]) → w.grownBy w' v.ownBlock → wpListIn F n Try.prog ops Q rest (a.put o.dst (.slice (some ⟨g, 0, none⟩) (l.length + 1) cap)) w') : wpListIn F n Try.prog ops Q (o :: rest) a w := by
  obtain ⟨i0, hi, hz0, hz1, hz2⟩ := info_parts Try.infoPlace
  refine wpListIn_append_own w hgd s x 69 ho B 58 i0 _ 2 16 Try.underlying69 hi hz0 hz1 hz2 rfl (by decide) v l.length (plc l) hs hown ⟨gx, 0, none⟩ 1 c (plc [y]) hx rfl ?_ ?_ ?_ ?_ hB ?_
  · intro j u hj
    rw [Addr.add_lit]
    match j, hj with
    | 0, hj => simp [plc] at hj; subst hj; exact h0
    | 1, hj => simp [plc] at hj; subst hj; exact h1
    | j + 2, hj => simp [plc] at hj
  · intro u hu
    simp [plc] at hu
    rcases hu with rfl | rfl <;> rfl
  · unfold maxLen; omega
  · omega
  · intro v' w' h1 h2 _
    rw [← plc_append] at h1
    obtain ⟨g, cap, rfl⟩ : ∃ g cap, v' = .slice (some ⟨g, 0, none⟩) (l.length + 1) cap := by
      rcases h1.2 with ⟨-, h9⟩ | ⟨g, cap, cur, e, -⟩
      · omega
      · exact ⟨g, cap, e⟩
    exact h g cap w' (by unfold OP2; rw [List.length_append]; exact h1) h2

theorem bz_ownC {W W' : World} {b : Nat} {cs : Array Value} {t : TypeId} {row : Option Nat} (h : W.heap[b]? = some (.cells cs t (0, 0))) (hg : W.grownBy W' row) (hr : ∀ r, row = some r → ∃ o : Obj, W.heap[r]? = some o ∧ o ≠ .cells cs t (0, 0)) : W'.heap[b]? = some (.cells cs t (0, 0)) := by
  rw [hg.block b (lt_of_block h) (fun e => ?_)]
  · exact h
  · obtain ⟨o, h1, h2⟩ := hr b e.symm
    rw [h] at h1
    cases h1
    exact h2 rfl

def mk1 (D : Nat) : Deferred := { target := .collected D, args := #[] }
theorem leaves_one {F : Fence} {n : Nat} {P : Program} {fn : Func} {tmps : Array Value} {R : Ending → World → Prop} (D : Nat) (w : World) (hd : w.heap[D]? = some (.deferred (some []))) (h : LeavesIn F n P fn tmps R [] .returning (w.putObj D (.deferred none))) : LeavesInM F n P fn tmps R [mk1 D] .returning w :=
  ⟨by simp, .inl ⟨D, _, rfl, run_takeDeferred hd, h⟩⟩

def Bq0 (W : World) (b : Nat) (v : Value) : Prop := W.heap[b]? = some (.cells #[v] 69 (0, 0))
/-- What lies between two rounds of AppendSeq. -/
structure Ap (w : World) (pre : List Cp) (W : World) : Prop where
  bx : ∃ v, Bq0 W w.heap.size v ∧ OP2 W w.heap.size v pre
  bel : Below w.heap.size w W
set_option maxRecDepth 100000 in
set_option maxHeartbeats 2000000 in
theorem appendSeq_in (n : Nat) (hn : 3 ≤ n) (gf : Nat) (lb : Array Value) (eg : ∀ args w, (callFunc gf args).run Try.prog w = .ok (.enter gf args) w) (S Sp : List Cp → Prop) (N : Nat) (hN : N ≤ 1048576) (w : World)
    (hseq : SeqStopsK Fence.wide (n - 1) Try.prog gf lb (fun p : Cp => #[pv p]) KeepsWalks S Sp N w) :
    CallsIn Fence.wide n Try.prog 55 #[.slice none 0 0, .func (.func gf) #[] lb] w fun e w' => ∃ (v : Value) (ss : List Cp), e = .returned v ∧ S ss ∧ OP2 w' w.heap.size v ss ∧ Below w.heap.size w w' := by
  refine callsIn_of_wp_marks Try.func55 rfl trivial ?_ rfl
  simp only [Try.ntmps55, List.size_toArray, List.length_cons, List.length_nil, Nat.reduceAdd, Nat.reduceSub, Array.replicate_succ, Array.replicate_zero, List.push_toArray, List.append_toArray, List.nil_append, List.cons_append]
  gi_wp2
  have A0 : Ap w [] (w.alloc (Obj.cells #[Value.slice none 0 0] 69)) := ⟨⟨_, heap_alloc_new _ _, OP2.nil _ _⟩, (Below.refl _ _).alloc (Nat.le_refl _) _⟩
  have hU : w.heap.size < (w.alloc (Obj.cells #[Value.slice none 0 0] 69)).heap.size := by simp
  have hbU : Below w.heap.size w (w.alloc (Obj.cells #[Value.slice none 0 0] 69)) := (Below.refl _ _).alloc (Nat.le_refl _) _
  generalize w.alloc (Obj.cells #[Value.slice none 0 0] 69) = U at *
  refine wpIn_rangeFunc_ownH rfl (by omega) (gf := gf) (lb := lb) rfl trivial eg hseq
    (fun h k => h.trans k) (fun W l o o' _ ho _ hw => KeepsWalks.putObj _ ho hw) hbU (fun _ => rfl)
    (fun pre W => Ap w pre W) (fun _ _ _ => False)
    (fun s X Y row hs hg hr => ?own) (fun _ _ _ _ _ hs _ _ => hs) A0
    (fun x a' W => ∃ Bx, W.heap[Bx]? = some (.cells #[.int .i64 x.1, .int .i64 x.2] 58 (0, 0)) ∧ a' = { tmps := #[Value.slice none 0 0, Value.func (Fn.func gf) #[] lb, Value.pointer (some ⟨w.heap.size, 0, none⟩), undef, Value.slice none 0 0, Value.pointer (some ⟨Bx, 0, none⟩), Value.func (Fn.func gf) #[] lb, pv x, undef, undef, undef, undef, undef], defers := [] })
    (fun x a' _ X Y row hs hg hr => by
      obtain ⟨Bx, h1, h3⟩ := hs
      exact ⟨Bx, bz_ownC h1 hg (fun r e => by obtain ⟨-, o, h4, h5⟩ := hr r e; exact ⟨o, h4, fun e => by subst e; cases h5⟩), h3⟩)
    ?assign ?body ?done ?stop
  case own =>
    obtain ⟨⟨v, h1, h2⟩, h3⟩ := hs
    exact ⟨⟨v, bz_ownC h1 hg (fun r e => by obtain ⟨-, o, h4, h5⟩ := hr r e; exact ⟨o, h4, fun e => by subst e; cases h5⟩), h2.grown hg (fun r e => by obtain ⟨-, o, h4, h5⟩ := hr r e; exact ⟨o, h4, fun cur e => by subst e; cases h5⟩)⟩, h3.grown hg h3.size (fun r e => by have := (hr r e).1; omega)⟩
  case stop => exact fun _ _ _ _ _ _ h _ => h.elim
  case assign =>
    rintro l pre ⟨x1, x2⟩ W K hA hK
    have HK := kide hK
    have HA := kide hA
    clear hK hA
    unfold pv
    gi_wp2
    have hba : Below W.heap.size W (W.alloc (Obj.cells #[Value.int .i64 x1, Value.int .i64 x2] 58)) := (Below.refl _ _).alloc (Nat.le_refl _) _
    obtain ⟨⟨v, h1, h2⟩, h3⟩ := HA.out
    exact HK.out _ _ ((KeepsOthers.alloc _ _).from _) (KeepsWalks.alloc _ _) ⟨⟨v, (hba.block _ (lt_of_block h1)).trans h1, h2.later hba⟩, h3.trans (hba.mono h3.size)⟩ ⟨W.heap.size, heap_alloc_new _ _, rfl⟩
  case body =>
    rintro l pre ⟨x1, x2⟩ a' W hl hrec hA ⟨Bx, hX, rfl⟩ hpN
    obtain ⟨⟨v, h1, h2⟩, h3⟩ := hA
    obtain ⟨va, vc, rfl⟩ := h2.form
    have c1 : W.cell? ⟨w.heap.size, 0, none⟩ = some (.slice va pre.length vc) := cell_of_row W _ 0 _ _ _ h1
    have d1 : W.cell? ⟨Bx, 0, none⟩ = some (.int .i64 x1) := cell_of_row W _ 0 _ _ _ hX
    have d2 : W.cell? ⟨Bx, 1, none⟩ = some (.int .i64 x2) := cell_of_row W _ 1 _ _ _ hX
    have lb := lt_of_block h1
    have lx := lt_of_block hX
    have hba : Below W.heap.size W (W.alloc (Obj.cells #[Value.int .i64 x1, Value.int .i64 x2] 58)) := (Below.refl _ _).alloc (Nat.le_refl _) _
    have H1 := kide (show Bq0 (W.alloc (Obj.cells #[Value.int .i64 x1, Value.int .i64 x2] 58)) w.heap.size _ from (hba.block _ lb).trans h1)
    have H2 := kide (h2.later hba)
    have H3 := kide (h3.trans (hba.mono h3.size))
    have hpl : pre.length ≤ 1073741824 := by omega
    have hsz : w.heap.size ≤ (W.alloc (Obj.cells #[Value.int .i64 x1, Value.int .i64 x2] 58)).heap.size := H3.out.size
    clear h1 h2 h3 hX hba hrec
    gi_wp2_with (gi_at_builtin; refine wpListIn_appP rfl _ _ rfl w.heap.size _ pre (x1, x2) rfl H2.out _ 1 rfl (by simp) (by simp) hpl hsz ?_)
    intro g5 cap5 w5 ho5 hg5
    have ht : ∀ r, (Value.slice va pre.length vc).ownBlock = some r → ∃ o : Obj, (W.alloc (Obj.cells #[Value.int .i64 x1, Value.int .i64 x2] 58)).heap[r]? = some o ∧ o ≠ .cells #[Value.slice va pre.length vc] 69 (0, 0) := fun r e => by
      obtain ⟨cur, h9⟩ := H2.out.typed e
      exact ⟨_, h9, fun e => by simp at e⟩
    have hB5 : Bq0 w5 w.heap.size (.slice va pre.length vc) := bz_ownC H1.out hg5 ht
    have e1 := frozen_of_row w5 _ 0 _ _ hB5
    have e0 : w5.cell? ⟨w.heap.size, 0, none⟩ = some (.slice va pre.length vc) := cell_of_row w5 _ 0 _ _ _ hB5
    have KO := kide (((KeepsOthers.alloc W (Obj.cells #[Value.int .i64 x1, Value.int .i64 x2] 58)).trans (KeepsOthers.of_grownBy hg5 (fun j o e ho => by obtain ⟨cur, h9⟩ := H2.out.typed e; rw [h9] at ho; cases ho; rfl))).trans (KeepsOthers.setCell w5 ⟨w.heap.size, 0, none⟩ (.slice (some ⟨g5, 0, none⟩) (pre.length + 1) cap5)))
    have AP : Hid (Ap w (pre ++ [(x1, x2)]) (w5.setCell ⟨w.heap.size, 0, none⟩ (.slice (some ⟨g5, 0, none⟩) (pre.length + 1) cap5))) := by
      refine ⟨⟨_, heap_setCell_same w5 _ 0 _ _ _ hB5, ho5.grown (row := some w.heap.size) ⟨rfl, rfl, rfl, by simp, fun k _ hk => heap_setCell_other _ _ _ _ (fun e => hk (by rw [e]))⟩ (fun r e => by cases e; exact ⟨_, hB5, fun cur e => by simp at e⟩)⟩, (H3.out.grown hg5 H3.out.size (fun r e => (H2.out.lt e).1)).setCell (Nat.le_refl _) _⟩
    clear ho5 hg5 ht hB5 c1 d1 d2 hpl hsz
    gi_wp2
    exact ⟨KO.out.from _, KO.out.walks, AP.out⟩
  case done =>
    rintro D xs W hD hS hA hdf
    obtain ⟨⟨v, h1, h2⟩, h3⟩ := hA
    have c1 : W.cell? ⟨w.heap.size, 0, none⟩ = some v := cell_of_row W _ 0 _ _ _ h1
    have lb := lt_of_block h1
    gi_wp2
    refine leaves_one D W hdf ⟨_, results_tmp rfl _ _ _, v, xs, rfl, hS, ?_, ?_⟩
    · exact h2.grown (row := some D) (grownBy_putObj' W D _) (fun r e => by cases e; exact ⟨_, hdf, fun cur e => by cases e⟩)
    · exact h3.grown (grownBy_putObj' W D _) h3.size (fun r e => by cases e; omega)

end Go.Proofs.Ytjnbapddfhpcnaa
