/- Several texts in one. -/
import Derived.Shelf.SlSortCmp.NoneTotal
import Derived.Shelf.Lay
import Derived.Shelf.SlGeneric
import Derived.Ground.SlsfProg
import Derived.Test.YtjnbapddfhpcnaaZGAG
import Derived.Test.YtjnbapddfhpcnaaZGAF
import Derived.Test.YtjnbapddfhpcnaaRX

/- Places sorted: comparePlaces, slices.SortFunc laid here. -/
namespace Go.Proofs.Ytjnbapddfhpcnaa
set_option linter.unusedVariables false
set_option linter.unusedSimpArgs false
open Go.RowKit Go.Shelf Go.Lib Go.Sort

shelf_lay_g SlLaysF0.n6 Slsf 6 at Try 48 as Try.sortP

def c1 (x y : Int) : Int := if x < y then -1 else if y < x then 1 else 0
def orR (x y : Int) : Int := if x = 0 then y else x
def cfP (x y : Cp) : Int := orR (c1 x.1 y.1) (c1 x.2 y.2)

theorem nan_any (x : Int) (W : World) : Calls Try.prog 58 #[.int .i64 x] W fun e w' => e = .returned (.bool false) ∧ w' = W := by
  have hxx : (x != x) = false := by simp
  go_enter Try.func58, Try.ntmps58
  go_wp2_with fail
  go_ret
  simp

set_option maxHeartbeats 1000000 in
theorem cmp_any (x y : Int) (W : World) : Calls Try.prog 51 #[.int .i64 x, .int .i64 y] W fun e w' => e = .returned (.int .i64 (c1 x y)) ∧ w' = W := by
  by_cases h1 : x < y
  · have e : c1 x y = -1 := by simp [c1, h1]
    rw [e]
    go_enter Try.func51, Try.ntmps51
    go_wp2_with (go_at_call 58; refine (nan_any _ _).mono ?_; rintro e w' ⟨rfl, rfl⟩)
    go_ret
    exact ⟨rfl, rfl⟩
  · by_cases h2 : y < x
    · have e : c1 x y = 1 := by simp [c1, h1, h2]
      rw [e]
      have h3 : x > y := h2
      go_enter Try.func51, Try.ntmps51
      go_wp2_with (go_at_call 58; refine (nan_any _ _).mono ?_; rintro e w' ⟨rfl, rfl⟩)
      go_ret
      exact ⟨rfl, rfl⟩
    · have e : c1 x y = 0 := by simp [c1, h1, h2]
      rw [e]
      have h3 : ¬ x > y := h2
      go_enter Try.func51, Try.ntmps51
      go_wp2_with (go_at_call 58; refine (nan_any _ _).mono ?_; rintro e w' ⟨rfl, rfl⟩)
      go_ret
      exact ⟨rfl, rfl⟩

set_option maxHeartbeats 1000000 in
theorem or_any (x y : Int) (b : Nat) (W : World) (h0 : W.cell? ⟨b, 0, none⟩ = some (.int .i64 x)) (h1 : W.cell? ⟨b, 1, none⟩ = some (.int .i64 y)) : Calls Try.prog 50 #[.slice (some ⟨b, 0, none⟩) 2 2] W fun e w' => e = .returned (.int .i64 (orR x y)) ∧ w' = W := by
  unfold orR
  by_cases hx : x = 0
  · subst hx
    by_cases hy : y = 0
    · subst hy
      go_enter Try.func50, Try.ntmps50
      go_wp2_with fail
      refine wp_loop_rounds 3 ?_
      rw [rounds_succ]
      go_wp2_with fail
      rw [rounds_succ]
      go_wp2_with fail
      rw [rounds_succ]
      go_wp2_with fail
      go_ret
      exact ⟨rfl, rfl⟩
    · have hyb : (y != 0) = true := by simp [hy]
      go_enter Try.func50, Try.ntmps50
      go_wp2_with fail
      refine wp_loop_rounds 2 ?_
      rw [rounds_succ]
      go_wp2_with fail
      rw [rounds_succ]
      go_wp2_with fail
      go_ret
      exact ⟨rfl, rfl⟩
  · have hxb : (x != 0) = true := by simp [hx]
    rw [if_neg hx]
    go_enter Try.func50, Try.ntmps50
    go_wp2_with fail
    refine wp_loop_rounds 1 ?_
    rw [rounds_succ]
    go_wp2_with fail
    go_ret
    exact ⟨rfl, rfl⟩

set_option maxHeartbeats 1000000 in
theorem comparePlaces_any (x y : Cp) (W : World) : Calls Try.prog 38 #[pv x, pv y] W fun e w' => e = .returned (.int .i64 (cfP x y)) ∧ ∃ q os', w' = grow (W.drewN q) os' := by
  obtain ⟨x1, x2⟩ := x
  obtain ⟨y1, y2⟩ := y
  unfold pv
  have hcf : cfP (x1, x2) (y1, y2) = orR (c1 x1 y1) (c1 x2 y2) := rfl
  rw [hcf]
  have HCC := kide (fun (x y : Int) (u : World) => cmp_any x y u)
  have HOR := kide (fun (x y : Int) (b : Nat) (u : World) h0 h1 => or_any x y b u h0 h1)
  generalize orR = oo at *
  generalize c1 = cc at *
  have hb1 : Below (W.alloc (Obj.cells #[Value.int .i64 x1, Value.int .i64 x2] 58)).heap.size (W.alloc (Obj.cells #[Value.int .i64 x1, Value.int .i64 x2] 58)) ((W.alloc (Obj.cells #[Value.int .i64 x1, Value.int .i64 x2] 58)).alloc (Obj.cells #[Value.int .i64 y1, Value.int .i64 y2] 58)) := (Below.refl _ _).alloc (Nat.le_refl _) _
  have ha : ((W.alloc (Obj.cells #[Value.int .i64 x1, Value.int .i64 x2] 58)).alloc (Obj.cells #[Value.int .i64 y1, Value.int .i64 y2] 58)).heap[W.heap.size]? = some (.cells #[Value.int .i64 x1, Value.int .i64 x2] 58 (0, 0)) := (hb1.block _ (by simp)).trans (heap_alloc_new _ _)
  have hb : ((W.alloc (Obj.cells #[Value.int .i64 x1, Value.int .i64 x2] 58)).alloc (Obj.cells #[Value.int .i64 y1, Value.int .i64 y2] 58)).heap[W.heap.size + 1]? = some (.cells #[Value.int .i64 y1, Value.int .i64 y2] 58 (0, 0)) := by
    have h9 := heap_alloc_new (W.alloc (Obj.cells #[Value.int .i64 x1, Value.int .i64 x2] 58)) (Obj.cells #[Value.int .i64 y1, Value.int .i64 y2] 58)
    rwa [World.size_alloc] at h9
  have HG : Hid (∃ os, (W.alloc (Obj.cells #[Value.int .i64 x1, Value.int .i64 x2] 58)).alloc (Obj.cells #[Value.int .i64 y1, Value.int .i64 y2] 58) = grow W os) := ⟨_, by rw [alloc_eq_grow, alloc_eq_grow, grow_grow]⟩
  clear hb1
  go_enter Try.func38, Try.ntmps38
  go_wp2_with fail
  generalize (W.alloc (Obj.cells #[Value.int .i64 x1, Value.int .i64 x2] 58)).alloc (Obj.cells #[Value.int .i64 y1, Value.int .i64 y2] 58) = V at *
  have e0 : V.cell? ⟨W.heap.size, 0, none⟩ = some (Value.int .i64 x1) := cell_of_row V _ 0 _ _ _ ha
  have e1 : V.cell? ⟨W.heap.size, 1, none⟩ = some (Value.int .i64 x2) := cell_of_row V _ 1 _ _ _ ha
  have e2 : V.cell? ⟨W.heap.size + 1, 0, none⟩ = some (Value.int .i64 y1) := cell_of_row V _ 0 _ _ _ hb
  have e3 : V.cell? ⟨W.heap.size + 1, 1, none⟩ = some (Value.int .i64 y2) := cell_of_row V _ 1 _ _ _ hb
  have la := lt_of_block ha
  have lb := lt_of_block hb
  clear ha hb
  generalize W.heap.size + 1 = B at *
  generalize W.heap.size = A at *
  go_region_held3 (fun u => u.cell? ⟨A, 0, none⟩ = some (Value.int .i64 x1) ∧ u.cell? ⟨A, 1, none⟩ = some (Value.int .i64 x2) ∧ u.cell? ⟨B, 0, none⟩ = some (Value.int .i64 y1) ∧ u.cell? ⟨B, 1, none⟩ = some (Value.int .i64 y2)) (first | (simp [*]; done) | exact ⟨(kcell (((Below.refl _ _).alloc (Nat.le_refl _) _).drew) _ _ la).trans e0, (kcell (((Below.refl _ _).alloc (Nat.le_refl _) _).drew) _ _ la).trans e1, (kcell (((Below.refl _ _).alloc (Nat.le_refl _) _).drew) _ _ lb).trans e2, (kcell (((Below.refl _ _).alloc (Nat.le_refl _) _).drew) _ _ lb).trans e3⟩)
    (first
      | (go_at_call 51; refine Calls.mono (HCC.out _ _ _) ?_; rintro e w5 ⟨rfl, he5⟩; rw [he5]; clear he5 w5)
      | (go_at_call 50; refine Calls.mono (HOR.out (cc x1 y1) (cc x2 y2) _ _ (by simp) (by simp)) ?_; rintro e w5 ⟨rfl, he5⟩; rw [he5]; clear he5 w5))
  all_goals
    go_wp2_with fail
    go_ret
    obtain ⟨os, hV⟩ := HG.out
    refine ⟨rfl, 1, os ++ #[Obj.cells #[Value.int .i64 (cc x1 y1), Value.int .i64 (cc x2 y2)] 3], ?_⟩
    rw [hV, alloc_eq_grow, grow_grow]
    rfl

/-- The order of places. -/
def ltP (x y : Cp) : Bool := decide (x.1 < y.1) || (decide (x.1 = y.1) && decide (x.2 < y.2))
theorem lt_cfP (x y : Cp) : ltOf cfP x y = ltP x y := by
  unfold ltOf cfP orR c1 ltP
  by_cases h1 : x.1 < y.1
  · simp [h1]
  · by_cases h2 : y.1 < x.1
    · have h3 : ¬ x.1 = y.1 := by omega
      simp [h1, h2, h3]
    · have h3 : x.1 = y.1 := by omega
      by_cases h4 : x.2 < y.2
      · simp [h3, h4]
      · by_cases h5 : y.2 < x.2 <;> simp [h3, h4, h5]
theorem swoP : SWO (ltOf cfP) where
  irrefl x := by rw [lt_cfP]; simp [ltP]
  trans x y z h1 h2 := by rw [lt_cfP] at *; simp [ltP] at *; omega
  ntrans x y z h1 h2 := by rw [lt_cfP] at *; simp [ltP] at *; omega
theorem totP (x y : Cp) (h1 : ltOf cfP x y = false) (h2 : ltOf cfP y x = false) : x = y := by
  rw [lt_cfP] at *
  simp [ltP] at *
  exact Prod.ext (by omega) (by omega)

def encP (p : Cp) : List Value := [.int .i64 p.1, .int .i64 p.2]
theorem cmpLaysP (blk off size : Nat) (w : World) : CmpLays Try.prog 38 #[] encP 2 cfP blk off size w := fun _ _ _ _ x y => comparePlaces_any x y _

/-- The places, sorted. -/
def srtP (l : List Cp) : List Cp := l.mergeSort fun x y => !ltP y x
theorem sortFunc_any (blk off cap : Nat) (d : Array Cp) (w : World) (hH : HoldsK encP 2 w blk off d) (hblk : blk < w.heap.size) (hsz : d.size < 4611686018427387904) :
    Calls Try.prog 48 #[.slice (some ⟨blk, off, none⟩) d.size cap, .func (.func 38) #[] #[]] w fun e w' =>
      e = .returned (.tuple #[]) ∧ ∃ n os, w' = sortWorldK encP 2 w blk off n (srtP d.toList).toArray os := by
  have eg : ∀ args w, (callFunc 38 args).run Try.prog w = .ok (.enter 38 args) w := enters_of Try.func38 (by kernel_rfl) rfl
  have h := AnyQ.slices_SortFunc_total Try.sortP 2 Try.isAgg58 Try.sizeOf58 encP (fun _ => rfl) (fun x v hv => by simp [encP] at hv; rcases hv with rfl | rfl <;> rfl) cfP swoP 38 #[] blk off cap d w eg (cmpLaysP blk off d.size w) hH hblk hsz totP
  have e : (fun x y : Cp => !(ltOf cfP) y x) = fun x y => !ltP y x := by funext x y; rw [lt_cfP]
  rw [e] at h
  exact h

end Go.Proofs.Ytjnbapddfhpcnaa

/- slices.SortedFunc of the keys. -/
namespace Go.Proofs.Ytjnbapddfhpcnaa
set_option linter.unusedVariables false
set_option linter.unusedSimpArgs false
open Go.RowKit Go.Shelf Go.Lib Go.Sort
attribute [local go_sem] Oper.semAt_some

theorem flatP (l : List Cp) : (flatK encP 2 l.toArray).toList = plc l := by
  refine List.ext_getElem (by rw [Array.length_toList, size_flatK, plc_len]; simp) fun j h1 h2 => ?_
  have hj : j < l.length * 2 := by rw [plc_len] at h2; exact h2
  have hi : j / 2 < l.length := by omega
  have hg := plc_get (l := l) (List.getElem?_eq_getElem hi)
  have h3 := get_flatK encP 2 l.toArray j (by simpa using hj)
  rw [Array.getElem_toList]
  have h4 : (flatK encP 2 l.toArray)[j]! = (flatK encP 2 l.toArray)[j]'(by rw [size_flatK]; simpa using hj) := getElem!_pos _ _ _
  rw [← h4, h3]
  have h5 : l.toArray[j / 2]! = l[j / 2] := by rw [getElem!_pos l.toArray (j / 2) (by simpa using hi)]; simp
  rw [h5]
  rcases (show j % 2 = 0 ∨ j % 2 = 1 by omega) with e | e
  · have e2 : j = j / 2 * 2 := by omega
    rw [e]
    have h6 := hg.1
    rw [← e2] at h6
    rw [List.getElem?_eq_getElem h2] at h6
    simp at h6
    rw [h6]
    simp [encP]
  · have e2 : j = j / 2 * 2 + 1 := by omega
    rw [e]
    have h6 := hg.2
    rw [← e2] at h6
    rw [List.getElem?_eq_getElem h2] at h6
    simp at h6
    rw [h6]
    simp [encP]

theorem holdsP {w : World} {g : Nat} {cur : Array Value} {e : TypeId} {l : List Cp} (hb : w.heap[g]? = some (.cells cur e (0, 0))) (ht : cur.toList.take (l.length * 2) = plc l) : HoldsK encP 2 w g 0 l.toArray := by
  intro j hj
  rw [size_flatK] at hj
  have hj' : j < l.length * 2 := by simpa using hj
  refine ⟨?_, by simp [World.frozen?, hb]⟩
  have h1 : (cur.toList.take (l.length * 2))[j]? = (plc l)[j]? := by rw [ht]
  rw [List.getElem?_take_of_lt hj'] at h1
  simp only [World.cell?, hb, Nat.zero_add]
  simp only [Option.isSome_none, Bool.false_eq_true, if_false]
  rw [← Array.getElem?_toList, h1, ← flatP, Array.getElem?_toList]
  rw [Array.getElem?_eq_getElem (by rw [size_flatK]; exact hj), getElem!_pos _ _ (by rw [size_flatK]; exact hj)]
  rfl

theorem heap_sortedP {w : World} {g n : Nat} {os : Array Obj} {cur : Array Value} {e : TypeId} {fr : Nat × Nat} (F : Array Value) (hb : w.heap[g]? = some (.cells cur e fr)) :
    (grow (putRow id (Sort.ahead w n) g 0 F) os).heap[g]? = some (.cells (putCells id 0 F cur) e fr) := by
  have hg : g < w.heap.size := (Array.getElem?_eq_some_iff.1 hb).1
  rw [heap_grow_old _ _ (by simpa using hg)]
  simp [putRow, mapBlock, Sort.ahead, Array.getElem?_modify, hb, onCells]
theorem grownBy_sortedP {w : World} {g n : Nat} {os : Array Obj} (F : Array Value) : w.grownBy (grow (putRow id (Sort.ahead w n) g 0 F) os) (some g) := by
  refine ⟨rfl, rfl, rfl, by simp, fun k hk hne => ?_⟩
  rw [heap_grow_old _ _ (by simpa using hk)]
  have : g ≠ k := fun e => hne (by rw [e])
  simp [putRow, mapBlock, Sort.ahead, Array.getElem?_modify, this]
theorem take_putCellsP (cur F : Array Value) (h : F.size ≤ cur.size) : (putCells id 0 F cur).toList.take F.size = F.toList := by
  apply List.ext_getElem?
  intro j
  by_cases hj : j < F.size
  · rw [List.getElem?_take_of_lt hj, Array.getElem?_toList]
    simp [putCells, hj, show j < cur.size by omega]
  · rw [List.getElem?_take_eq_none (by omega), List.getElem?_eq_none (by simp; omega)]

theorem srtP_len (l : List Cp) : (srtP l).length = l.length := List.length_mergeSort l

theorem sortP_own (w : World) (B : Nat) (v : Value) (xs : List Cp) (h : OP2 w B v xs) (hl : xs.length ≤ 1048576) :
    Calls Try.prog 48 #[v, .func (.func 38) #[] #[]] w fun e w' => e = .returned (.tuple #[]) ∧ OP2 w' B v (srtP xs) ∧ w.grownBy w' v.ownBlock := by
  rcases h.2 with ⟨rfl, hn⟩ | ⟨g, cap, cur, rfl, hB, hh, hcap, hmx, hsz, htk⟩
  · have e : xs = [] := List.eq_nil_of_length_eq_zero hn
    subst e
    refine Calls.mono (AnyF.slices_SortFunc_none Try.sortP none 0 _ w) ?_
    rintro e w' ⟨rfl, rfl⟩
    exact ⟨rfl, by simpa [srtP] using h, World.grownBy.refl _ _⟩
  · have hH := holdsP hh htk
    have hc := sortFunc_any g 0 cap xs.toArray w hH (lt_of_block hh) (by simp; omega)
    rw [List.size_toArray] at hc
    refine Calls.mono hc ?_
    rintro e w' ⟨rfl, n, os, rfl⟩
    refine ⟨rfl, ?_, grownBy_sortedP _⟩
    have hF : (flatK encP 2 (srtP xs).toArray).size = xs.length * 2 := by rw [size_flatK]; simp [srtP_len]
    refine ⟨by rw [plc_len], .inr ⟨g, cap, _, by rw [srtP_len], hB, heap_sortedP _ hh, by rw [srtP_len]; exact hcap, hmx, by simp [putCells, hsz], ?_⟩⟩
    rw [srtP_len, ← hF, take_putCellsP cur _ (by rw [hF, hsz]; omega)]
    exact flatP _

theorem collect_in (n : Nat) (hn : 4 ≤ n) (gf : Nat) (lb : Array Value) (eg : ∀ args w, (callFunc gf args).run Try.prog w = .ok (.enter gf args) w) (S Sp : List Cp → Prop) (N : Nat) (hN : N ≤ 1048576) (w : World)
    (hseq : SeqStopsK Fence.wide (n - 2) Try.prog gf lb (fun p : Cp => #[pv p]) KeepsWalks S Sp N w) :
    CallsIn Fence.wide n Try.prog 47 #[.func (.func gf) #[] lb] w fun e w' => ∃ (v : Value) (ss : List Cp), e = .returned v ∧ S ss ∧ OP2 w' w.heap.size v ss ∧ Below w.heap.size w w' := by
  have HA := kide (appendSeq_in (n - 1) (by omega) gf lb eg S Sp N hN w hseq)
  refine callsIn_of_wp Try.func47 rfl trivial ?_ rfl
  simp only [Try.ntmps47, List.size_toArray, List.length_cons, List.length_nil, Nat.reduceAdd, Nat.reduceSub, Array.replicate_succ, Array.replicate_zero, List.push_toArray, List.append_toArray, List.nil_append, List.cons_append]
  gi_wp2
  refine ⟨trivial, (fun _ => by omega), HA.out.mono ?_⟩
  rintro e w1 ⟨v, ss, rfl, hS, ho, hb⟩
  gi_wp2
  refine bodyPost_ret (results_tmp rfl _ _ _) rfl ?_
  exact ⟨v, ss, rfl, hS, ho, hb⟩

set_option maxHeartbeats 1000000 in
theorem sortedFunc_in (n : Nat) (hn : 5 ≤ n) (gf : Nat) (lb : Array Value) (eg : ∀ args w, (callFunc gf args).run Try.prog w = .ok (.enter gf args) w) (S Sp : List Cp → Prop) (N : Nat) (hN : N ≤ 1048576) (hSN : ∀ ss, S ss → ss.length ≤ 1048576) (w : World)
    (hseq : SeqStopsK Fence.wide (n - 3) Try.prog gf lb (fun p : Cp => #[pv p]) KeepsWalks S Sp N w) :
    CallsIn Fence.wide n Try.prog 36 #[.func (.func gf) #[] lb, .func (.func 38) #[] #[]] w fun e w' => ∃ (v : Value) (ss : List Cp), e = .returned v ∧ S ss ∧ OP2 w' w.heap.size v (srtP ss) ∧ Go.RowKit.Below w.heap.size w w' := by
  have HA := kide (collect_in (n - 1) (by omega) gf lb eg S Sp N hN w hseq)
  refine callsIn_of_wp Try.func36 rfl trivial ?_ rfl
  simp only [Try.ntmps36, List.size_toArray, List.length_cons, List.length_nil, Nat.reduceAdd, Nat.reduceSub, Array.replicate_succ, Array.replicate_zero, List.push_toArray, List.append_toArray, List.nil_append, List.cons_append]
  gi_wp2
  refine ⟨trivial, (fun _ => by omega), HA.out.mono ?_⟩
  rintro e w1 ⟨v, ss, rfl, hS, ho, hb⟩
  have HS := kide (callsIn_wide.2 (sortP_own w1 w.heap.size v ss ho (hSN ss hS)) : CallsIn Fence.wide (n - 1) Try.prog _ _ _ _)
  have HO := kide ho
  have HB := kide hb
  have HSS := kide hS
  clear ho hb hS
  gi_wp2
  refine ⟨trivial, (fun _ => by omega), HS.out.mono ?_⟩
  rintro e w2 ⟨rfl, ho2, hg2⟩
  gi_wp2
  refine bodyPost_ret (results_tmp rfl _ _ _) rfl ?_
  exact ⟨v, ss, rfl, HSS.out, ho2, HB.out.grown hg2 HB.out.size (fun r e => (HO.out.lt e).1)⟩

end Go.Proofs.Ytjnbapddfhpcnaa

/- Owned rows of numbers, rows of them. -/
namespace Go.Proofs.Ytjnbapddfhpcnaa
set_option linter.unusedVariables false
set_option linter.unusedSimpArgs false
open Go.RowKit

theorem own_typed {w : World} {B n : Nat} {e t : TypeId} {v : Value} {xs : List Value} {b : Nat} {cs : Array Value} {fr : Nat × Nat} (h : w.ownsRow B e 1 v n xs) (hb : w.heap[b]? = some (.cells cs t fr)) (ht : t ≠ e) : some b ≠ v.ownBlock := fun hk => by
  rcases h.2 with ⟨rfl, -⟩ | ⟨g, cap, cur, rfl, hg, hh, -⟩
  · cases hk
  · cases hk
    rw [hb] at hh
    cases hh
    exact ht rfl

theorem own_lt {w : World} {B n : Nat} {e : TypeId} {v : Value} {xs : List Value} {b : Nat} (h : w.ownsRow B e 1 v n xs) (hb : v.ownBlock = some b) : B ≤ b ∧ b < w.heap.size := by
  rcases h.2 with ⟨rfl, -⟩ | ⟨g, cap, cur, rfl, hg, hh, -⟩
  · cases hb
  · cases hb
    exact ⟨hg, lt_of_block hh⟩

theorem own_later {w w' : World} {B n : Nat} {e : TypeId} {v : Value} {xs : List Value} (h : w.ownsRow B e 1 v n xs) (hb : Below w.heap.size w w') : w'.ownsRow B e 1 v n xs := World.ownsRow.kept (row := none) h ⟨hb.os, hb.tape, hb.output, hb.size, fun k hk _ => hb.block k hk⟩ (by
  cases h' : v.ownBlock with
  | none => exact .inl rfl
  | some k => exact .inr (by simp))

theorem own_kept {w w' : World} {B n : Nat} {e : TypeId} {v : Value} {xs : List Value} {r : Option Nat} (h : w.ownsRow B e 1 v n xs) (hg : w.grownBy w' r) (hn : ∀ b, v.ownBlock = some b → r ≠ some b) : w'.ownsRow B e 1 v n xs := World.ownsRow.kept h hg (by
  cases h' : v.ownBlock with
  | none => exact .inl rfl
  | some k => exact .inr (fun e => hn k h' e.symm))

/-- A row whose block a write does not touch. -/
theorem own_set {w : World} {B n : Nat} {e t : TypeId} {v : Value} {xs : List Value} {b o : Nat} {cs : Array Value} {fr : Nat × Nat} (h : w.ownsRow B e 1 v n xs) (hb : w.heap[b]? = some (.cells cs t fr)) (ht : t ≠ e) (x : Value) : (w.setCell ⟨b, o, none⟩ x).ownsRow B e 1 v n xs := by
  have hne := own_typed h hb ht
  refine ⟨h.1, ?_⟩
  rcases h.2 with hn | ⟨g, cap, cur, rfl, hg, hh, rest⟩
  · exact .inl hn
  · refine .inr ⟨g, cap, cur, rfl, hg, ?_, rest⟩
    rw [heap_setCell_other _ _ _ _ (fun e => hne (by simp [Value.ownBlock, e]))]
    exact hh

/-- A row of whole numbers that is the owner's own. -/
def OW (w : World) (B : Nat) (v : Value) (xs : List Int) : Prop := w.ownsRow B 2 1 v xs.length (xs.map (Value.int .i64))

theorem OW.cell {w : World} {B g cap n : Nat} {xs : List Int} (h : OW w B (.slice (some ⟨g, 0, none⟩) n cap) xs) {i : Nat} {x : Int} (hi : xs[i]? = some x) : w.cell? ⟨g, i, none⟩ = some (.int .i64 x) ∧ w.frozen? ⟨g, i, none⟩ = false := by
  have hcells := World.ownsRow.cells h (g := g) rfl i (.int .i64 x) (by rw [List.getElem?_map, hi]; rfl)
  rw [Addr.add_lit] at hcells
  obtain ⟨h1, h2⟩ := h
  rcases h2 with ⟨h0, -⟩ | ⟨g', cap', cur, e, hB, hh, -⟩
  · cases h0
  · cases e
    exact ⟨by simpa using hcells, frozen_of_row w g i _ _ hh⟩

/-- Rows of numbers, each its own, no two of them in one block. -/
structure Rws (w : World) (B : Nat) (vs : List Value) (xss : List (List Int)) : Prop where
  len : vs.length = xss.length
  own : ∀ (i : Nat) (v : Value) (xs : List Int), vs[i]? = some v → xss[i]? = some xs → OW w B v xs
  dj : ∀ (i j : Nat) (v v' : Value), vs[i]? = some v → vs[j]? = some v' → i ≠ j → ∀ b, v.ownBlock = some b → v'.ownBlock ≠ some b

theorem Rws.nil (w : World) (B : Nat) : Rws w B [] [] := ⟨rfl, fun i v xs h => by simp at h, fun i j v v' h => by simp at h⟩

theorem Rws.later {w w' : World} {B : Nat} {vs : List Value} {xss : List (List Int)} (h : Rws w B vs xss) (hb : Below w.heap.size w w') : Rws w' B vs xss :=
  ⟨h.len, fun i v xs h1 h2 => own_later (h.own i v xs h1 h2) hb, h.dj⟩

/-- A row of another type has grown. -/
theorem Rws.grown {w w' : World} {B B' n : Nat} {vs : List Value} {xss : List (List Int)} {v0 : Value} {cs : List Value} {e : TypeId} (h : Rws w B vs xss) (ho : w.ownsRow B' e 1 v0 n cs) (he : e ≠ 2) (hg : w.grownBy w' v0.ownBlock) : Rws w' B vs xss :=
  ⟨h.len, fun i v xs h1 h2 => own_kept (h.own i v xs h1 h2) hg (fun b hb e' => by
    rcases (h.own i v xs h1 h2).2 with ⟨rfl, -⟩ | ⟨g, cap, cur, rfl, -, hh, -⟩
    · cases hb
    · cases hb
      exact own_typed ho hh (Ne.symm he) e'.symm), h.dj⟩

/-- A cell of a block of another type is written. -/
theorem Rws.set {w : World} {B b o : Nat} {vs : List Value} {xss : List (List Int)} {cs : Array Value} {t : TypeId} {fr : Nat × Nat} (h : Rws w B vs xss) (hb : w.heap[b]? = some (.cells cs t fr)) (ht : t ≠ 2) (x : Value) : Rws (w.setCell ⟨b, o, none⟩ x) B vs xss :=
  ⟨h.len, fun i v xs h1 h2 => own_set (h.own i v xs h1 h2) hb ht x, h.dj⟩

/-- One row more has come, of a block that none of them has. -/
theorem Rws.push {w : World} {B : Nat} {vs : List Value} {xss : List (List Int)} {v : Value} {xs : List Int} (h : Rws w B vs xss) (ho : OW w B v xs) (hd : ∀ (i : Nat) (u : Value), vs[i]? = some u → ∀ b, u.ownBlock = some b → v.ownBlock ≠ some b) : Rws w B (vs ++ [v]) (xss ++ [xs]) := by
  have hl := h.len
  have last : ∀ {α : Type} {l : List α} {x y : α} {i : Nat}, (l ++ [x])[i]? = some y → i < l.length ∧ l[i]? = some y ∨ i = l.length ∧ y = x := by
    intro α l x y i hi
    by_cases h1 : i < l.length
    · rw [List.getElem?_append_left h1] at hi; exact .inl ⟨h1, hi⟩
    · rw [List.getElem?_append_right (by omega)] at hi
      have h2 : i - l.length = 0 := by
        have := (List.getElem?_eq_some_iff.1 hi).1
        simp at this; omega
      rw [h2] at hi
      simp at hi
      exact .inr ⟨by omega, hi.symm⟩
  refine ⟨by simp [hl], fun i u ys h1 h2 => ?_, fun i j u u' h1 h2 hne b hb hb' => ?_⟩
  · rcases last h1 with ⟨a1, a2⟩ | ⟨a1, rfl⟩
    · rcases last h2 with ⟨c1, c2⟩ | ⟨c1, rfl⟩
      · exact h.own i u ys a2 c2
      · omega
    · rcases last h2 with ⟨c1, c2⟩ | ⟨c1, rfl⟩
      · omega
      · exact ho
  · rcases last h1 with ⟨a1, a2⟩ | ⟨a1, rfl⟩
    · rcases last h2 with ⟨c1, c2⟩ | ⟨c1, rfl⟩
      · exact h.dj i j u u' a2 c2 hne b hb hb'
      · exact hd i u a2 b hb hb'
    · rcases last h2 with ⟨c1, c2⟩ | ⟨c1, rfl⟩
      · exact hd j u' c2 b hb' hb
      · omega

/-- The sets under way: a row of n rows, the row of k the nodes of that name. -/
structure Sets (w : World) (B g n : Nat) (f : Nat → Value) (xs : Nat → List Int) : Prop where
  lo : B ≤ g
  row : w.rowIs g 46 n f
  own : ∀ i, i < n → OW w B (f i) (xs i)
  dj : ∀ i j, i < n → j < n → i ≠ j → ∀ b, (f i).ownBlock = some b → (f j).ownBlock ≠ some b

theorem Sets.later {w w' : World} {B g n : Nat} {f : Nat → Value} {xs : Nat → List Int} (h : Sets w B g n f xs) (hb : Below w.heap.size w w') : Sets w' B g n f xs :=
  ⟨h.lo, World.rowIs.of_block h.row (hb.block g (by obtain ⟨cc, hh, -⟩ := h.row; exact lt_of_block hh)), fun i hi => own_later (h.own i hi) hb, h.dj⟩

theorem Sets.step {w w' : World} {B g n k : Nat} {f : Nat → Value} {xs : Nat → List Int} (h : Sets w B g n f xs) (hk : k < n) {v : Value} {ys : List Int} (ho : OW w' B v ys) (hg : w.grownBy w' (f k).ownBlock) (hat : v.ownBlock = (f k).ownBlock ∨ v.ownBlock = some w.heap.size) :
    Sets (w'.setCell ⟨g, k, none⟩ v) B g n (fun i => if i = k then v else f i) (fun i => if i = k then ys else xs i) := by
  obtain ⟨cc, hh, hrest⟩ := h.row
  have hne : some g ≠ (f k).ownBlock := own_typed (h.own k hk) hh (by decide)
  have hh' : w'.heap[g]? = some (.cells cc 46 (0, 0)) := by rw [hg.block g (lt_of_block hh) hne]; exact hh
  have hr' : w'.rowIs g 46 n f := ⟨cc, hh', hrest⟩
  refine ⟨h.lo, World.rowIs.set hr' k v, fun i hi => ?_, fun i j hi hj hij b hb hb' => ?_⟩
  · show OW _ B (if i = k then v else f i) (if i = k then ys else xs i)
    by_cases e : i = k
    · rw [if_pos e, if_pos e]; exact own_set ho hh' (by decide) v
    · rw [if_neg e, if_neg e]
      exact own_set (own_kept (h.own i hi) hg (fun b hb e' => h.dj i k hi hk e b hb e')) hh' (by decide) v
  · replace hb : (if i = k then v else f i).ownBlock = some b := hb
    replace hb' : (if j = k then v else f j).ownBlock = some b := hb'
    by_cases e : i = k
    · subst e
      rw [if_pos rfl] at hb
      rw [if_neg (Ne.symm hij)] at hb'
      rcases hat with e' | e'
      · rw [e'] at hb; exact h.dj i j hi hj hij b hb hb'
      · rw [hb] at e'
        cases e'
        have := (own_lt (h.own j hj) hb').2
        omega
    · rw [if_neg e] at hb
      by_cases e2 : j = k
      · subst e2
        rw [if_pos rfl] at hb'
        rcases hat with e' | e'
        · rw [e'] at hb'; exact h.dj i j hi hj hij b hb hb'
        · rw [hb'] at e'
          cases e'
          have := (own_lt (h.own i hi) hb).2
          omega
      · rw [if_neg e2] at hb'
        exact h.dj i j hi hj hij b hb hb'

theorem wpList_appWl {w : World} {ops : Array Oper} {rest : List Oper} {o : Oper} {a : Act} {Q : Exit → Act → World → Prop} (hgd : o.guard = none) (s x : Operand)
    (ho : o.op = .call { callee := .builtin .append, args := #[s, x], argTypes := #[46, 46] })
    (B : Nat) (v : Value) (xs : List Int) (y : Int) (hs : a.eval s = v) (hown : OW w B v xs) (gx : Nat) (hx : a.eval x = .slice (some ⟨gx, 0, none⟩) 1 1)
    (h0 : w.cell? ⟨gx, 0, none⟩ = some (.int .i64 y)) (hl : xs.length ≤ 1073741824) (hB : B ≤ w.heap.size)
    (h : ∀ v' w', OW w' B v' (xs ++ [y]) → w.grownBy w' v.ownBlock → (v'.ownBlock = v.ownBlock ∨ v'.ownBlock = some w.heap.size) → wpList Try.prog ops Q rest (a.put o.dst v') w') : wpList Try.prog ops Q (o :: rest) a w := by
  obtain ⟨i0, hi, hz0, hz1, hz2⟩ := info_parts Try.infoI64
  refine wpList_append_own_at w hgd s x 46 ho B 2 i0 _ 1 8 Try.underlying46 hi hz0 hz1 hz2 rfl (by decide) v xs.length (xs.map (Value.int .i64)) hs hown ⟨gx, 0, none⟩ 1 1 [.int .i64 y] hx rfl ?_ ?_ (by unfold maxLen; omega) (by omega) hB ?_
  · intro j u hj
    rw [Addr.add_lit]
    match j, hj with
    | 0, hj => simp at hj; subst hj; exact h0
    | j + 1, hj => simp at hj
  · intro u hu
    simp at hu
    subst hu
    rfl
  · intro v' w' ho' hg _ hat
    refine h v' w' ?_ hg hat
    unfold OW
    rw [List.map_append, List.length_append]
    exact ho'

end Go.Proofs.Ytjnbapddfhpcnaa

/- cutsAt: the places of a set, sorted, variable by variable. -/
namespace Go.Proofs.Ytjnbapddfhpcnaa
set_option linter.unusedVariables false
set_option linter.unusedSimpArgs false
open Go.RowKit Go.Maps

/-- The places of variable v among those of l. -/
def atV (l : List Cp) (v : Nat) : List Int := (l.filter fun p => decide (p.1 = (v : Int))).map Prod.snd
theorem atV_snoc (l : List Cp) (p : Cp) (v : Nat) : atV (l ++ [p]) v = if p.1 = (v : Int) then atV l v ++ [p.2] else atV l v := by
  unfold atV
  rw [List.filter_append, List.map_append]
  by_cases h : p.1 = (v : Int) <;> simp [h]
theorem atV_len (l : List Cp) (v : Nat) : (atV l v).length ≤ l.length := by
  unfold atV
  rw [List.length_map]
  exact List.length_filter_le _ _

theorem make_rows (n : Nat) (hn : n ≤ 1048576) (kl kc : IntKind) (w : World) :
    (Instr.makeSlice 23 (.int kl (n : Int)) (.int kc (n : Int))).run Try.prog w = .ok (.slice (some ⟨w.heap.size, 0, none⟩) n n) (w.alloc (.cells (madeCells #[.slice none 0 0] (n * 1)) 46)) := by
  obtain ⟨i0, hi, hz0, hz1, hz2⟩ := info_parts Try.infoRow
  have := run_make (P := Try.prog) w 23 46 i0 _ Try.underlying23 hi hz0 kl kc n n (by omega) (Int.le_refl _) (by rw [hz2]; omega) (by omega)
  rw [this, hz1]
  rfl

/-- What cutsAt answers. -/
def RetCu (w : World) (count : Nat) (l : List Cp) (e : Ending) (w' : World) : Prop :=
  ∃ A f, e = .returned (.agg #[.slice (some ⟨A, 0, none⟩) count count]) ∧ Sets w' w.heap.size A count f (atV l) ∧ Below w.heap.size w w'

theorem col_mem {D : DataW Unit} {l ss : List Cp} (hs : Sk D l) (hc : Col D (fun _ => false) ss) (p : Cp) : p ∈ ss ↔ p ∈ l := by
  constructor
  · intro h
    have ho := hc.ok p h
    obtain ⟨kl, hk⟩ := keyOf_pl ho
    exact (hs.has p kl ho hk).1 ((hc.mem p kl ho hk).1 h).1
  · intro h
    have ho := hs.ok p h
    obtain ⟨kl, hk⟩ := keyOf_pl ho
    exact (hc.mem p kl ho hk).2 ⟨(hs.has p kl ho hk).2 h, rfl⟩

theorem ltP_of {x y : Cp} (h : (!ltP y x) = true) (hne : x ≠ y) : ltP x y = true := by
  have h1 : ltP y x = false := by simpa using h
  cases h2 : ltP x y with
  | true => rfl
  | false => exact absurd (totP x y (by rw [lt_cfP]; exact h2) (by rw [lt_cfP]; exact h1)) hne
theorem srtP_sorted {ss : List Cp} (hn : ss.Nodup) : (srtP ss).Pairwise (fun x y => ltP x y = true) := by
  have h1 : (srtP ss).Pairwise fun x y => (!ltP y x) = true := List.pairwise_mergeSort (le := fun x y => !ltP y x) (fun a b c h1 h2 => by simp [ltP] at *; omega) (fun a b => by simp [ltP]; omega) ss
  have h2 : (srtP ss).Pairwise (fun x y => x ≠ y) := (List.mergeSort_perm ss _).nodup_iff.2 hn
  exact (h1.and h2).imp fun h => ltP_of h.1 h.2
theorem srtP_mem {ss : List Cp} {p : Cp} : p ∈ srtP ss ↔ p ∈ ss := List.mem_mergeSort

/-- A block of cells, as it lies. -/
def Bz (u : World) (b : Nat) (cs : Array Value) (t : TypeId) : Prop := u.heap[b]? = some (.cells cs t (0, 0))
theorem Bz.lt {u : World} {b : Nat} {cs : Array Value} {t : TypeId} (h : Bz u b cs t) : b < u.heap.size := lt_of_block h
theorem Bz.new (u : World) (cs : Array Value) (t : TypeId) : Bz (u.alloc (.cells cs t)) u.heap.size cs t := heap_alloc_new _ _
theorem Bz.set {u : World} {b : Nat} {cs : Array Value} {t : TypeId} (h : Bz u b cs t) (o : Nat) (x : Value) : Bz (u.setCell ⟨b, o, none⟩ x) b (cs.setIfInBounds o x) t := heap_setCell_same u b o _ _ x h
theorem Bz.cell {u : World} {b : Nat} {cs : Array Value} {t : TypeId} (h : Bz u b cs t) (o : Nat) : u.cell? ⟨b, o, none⟩ = cs[o]? := cell_of_row u b o _ _ _ h
theorem Bz.froz {u : World} {b : Nat} {cs : Array Value} {t : TypeId} (h : Bz u b cs t) (o : Nat) : u.frozen? ⟨b, o, none⟩ = false := frozen_of_row u b o _ _ h
theorem Bz.later {u u' : World} {b : Nat} {cs : Array Value} {t : TypeId} (h : Bz u b cs t) (hb : Below u.heap.size u u') : Bz u' b cs t := (hb.block b h.lt).trans h
theorem Bz.grown {u u' : World} {o : Option Nat} {b : Nat} {cs : Array Value} {t : TypeId} (h : Bz u b cs t) (hg : u.grownBy u' o) (ho : some b ≠ o) : Bz u' b cs t := (hg.block b h.lt ho).trans h
theorem gsc (w : World) (a : Addr) (u : Value) : w.grownBy (w.setCell a u) (some a.block) :=
  ⟨rfl, rfl, rfl, by simp, fun k _ hk => heap_setCell_other w a k u (fun e => hk (by rw [e]))⟩

theorem step_appIl (w : World) {ops : Array Oper} {o : Oper} {a : Act} {K : Act → World → Prop} {Q : Exit → Act → World → Prop} {E : Prop} (hgd : o.guard = none) (s x : Operand)
    (ho : o.op = .call { callee := .builtin .append, args := #[s, x], argTypes := #[46, 46] })
    (B : Nat) (v : Value) (xs : List Int) (y : Int) (hs : a.eval s = v) (hown : OW w B v xs) (gx c : Nat) (hx : a.eval x = .slice (some ⟨gx, 0, none⟩) 1 c)
    (h0 : w.cell? ⟨gx, 0, none⟩ = some (.int .i64 y)) (hl : xs.length ≤ 1073741824) (hB : B ≤ w.heap.size)
    (h : ∀ g cap w', OW w' B (.slice (some ⟨g, 0, none⟩) (xs.length + 1) cap) (xs ++ [y]) → w.grownBy w' v.ownBlock → (v.ownBlock = some g ∨ g = w.heap.size) → K (a.put o.dst (.slice (some ⟨g, 0, none⟩) (xs.length + 1) cap)) w') :
    if Region.wanted o (yielded ops a.tmps) = true then Oper.wp Try.prog o a w K Q else E := by
  obtain ⟨i0, hi, hz0, hz1, hz2⟩ := info_parts Try.infoI64
  refine step_append_lies w hgd s x 46 ho B 2 i0 _ 1 8 Try.underlying46 hi hz0 hz1 hz2 rfl (by decide) v xs.length (xs.map (Value.int .i64)) hs hown ⟨gx, 0, none⟩ 1 c [.int .i64 y] hx rfl ?_ ?_ (by decide) ?_ ?_ hB _ rfl ?_
  · intro j u hj
    rw [Addr.add_lit]
    match j, hj with
    | 0, hj => simp at hj; subst hj; exact h0
    | j + 1, hj => simp at hj
  · intro u hu
    simp at hu
    subst hu
    rfl
  · unfold maxLen; omega
  · omega
  · intro g cap w' h1 h2 h3 h4
    refine h g cap w' ?_ h2 h3
    unfold OW
    rw [List.map_append, List.length_append]
    exact h1

theorem own_cells {w : World} {B n : Nat} {e : TypeId} {v : Value} {xs : List Value} {b : Nat} (h : w.ownsRow B e 1 v n xs) (hb : v.ownBlock = some b) : ∃ cur, w.heap[b]? = some (.cells cur e (0, 0)) := by
  rcases h.2 with ⟨rfl, -⟩ | ⟨g, cap, cur, rfl, hg, hh, -⟩
  · cases hb
  · cases hb
    exact ⟨cur, hh⟩

theorem Sets.far {w : World} {B g n b i : Nat} {f : Nat → Value} {xs : Nat → List Int} {cs : Array Value} {t : TypeId} {x : Value} (h : Sets w B g n f xs) (hb : Bz w b cs t) (ht : t ≠ 2) (hn : g ≠ b) : Sets (w.setCell ⟨b, i, none⟩ x) B g n f xs :=
  ⟨h.lo, World.rowIs.of_block h.row ((gsc w ⟨b, i, none⟩ x).block g (by obtain ⟨cc, hh, -⟩ := h.row; exact lt_of_block hh) (fun e => hn (by cases e; rfl))), fun j hj => own_set (h.own j hj) hb ht x, h.dj⟩

/-- What lies between two rounds. -/
structure Cs (w : World) (C R A count : Nat) (f : Nat → Value) (T : List Cp) (k : Nat) (v : Value) (B : Nat) (wr : World) : Prop where
  sets : Sets wr w.heap.size A count f (atV (T.take k))
  bc : Bz wr C #[.slice (some ⟨A, 0, none⟩) count count] 28
  br : Bz wr R #[.slice none 0 0] 28
  row : OP2 wr B v T
  bel : Below w.heap.size w wr
theorem Cs.later {w : World} {C R A count : Nat} {f : Nat → Value} {T : List Cp} {k : Nat} {v : Value} {B : Nat} {wr wr' : World} (h : Cs w C R A count f T k v B wr) (hb : Below wr.heap.size wr wr') : Cs w C R A count f T k v B wr' :=
  ⟨h.sets.later hb, h.bc.later hb, h.br.later hb, h.row.later hb, h.bel.trans (hb.mono h.bel.size)⟩

theorem op2_at {w : World} {B : Nat} {v : Value} {l : List Cp} (h : OP2 w B v l) {i : Nat} {x : Cp} (hi : l[i]? = some x) : ∃ g c, v = .slice (some ⟨g, 0, none⟩) l.length c ∧ w.cell? ⟨g, i * 2, none⟩ = some (.int .i64 x.1) ∧ w.cell? ⟨g, i * 2 + 1, none⟩ = some (.int .i64 x.2) := by
  have hil := (List.getElem?_eq_some_iff.1 hi).1
  rcases h.2 with ⟨-, h0⟩ | ⟨g, cap, cur, rfl, hg, hh, hc1, hc2, hsz, hcur⟩
  · omega
  · obtain ⟨e0, e1⟩ := plc_get hi
    rw [← hcur] at e0 e1
    rw [List.getElem?_take, if_pos (by omega)] at e0 e1
    simp only [Array.getElem?_toList] at e0 e1
    exact ⟨g, cap, rfl, by rw [cell_of_row w g _ cur _ _ hh]; exact e0, by rw [cell_of_row w g _ cur _ _ hh]; exact e1⟩

set_option maxHeartbeats 1000000 in
set_option maxRecDepth 100000 in
theorem cutsAt_any (count : Nat) (hc : count ≤ 1000) (g nn : Nat) (hnn : nn ≤ 1048576) (D : DataW Unit) (l : List Cp) (w : World) (hown : w.ownsMap Try.prog 58 unitElem g nn D) (hsk : Sk D l) (hl : ∀ p ∈ l, 0 ≤ p.1 ∧ p.1 < (count : Int)) :
    Calls Try.prog 24 #[.int .i64 (count : Int), .map (some g)] w fun e w' => ∃ T : List Cp, T.Pairwise (fun x y => ltP x y = true) ∧ (∀ p, p ∈ T ↔ p ∈ l) ∧ RetCu w count T e w' := by
  have hmk := fun kl kc u => make_rows count (by omega) kl kc u
  have hsz := hown.size_le
  have HOWN := kide (fun (u : World) (hb : Below w.heap.size w u) => own_belowU hown (fun h => hb.block g h))
  have HSK := kide hsk
  have HL := kide hl
  clear hown hsk hl
  have hb1 : Below w.heap.size w (((w.alloc (Obj.cells #[Value.slice none 0 0] 28)).alloc (Obj.cells (madeCells #[Value.slice none 0 0] count) 46)).alloc (Obj.cells #[Value.slice (some ⟨w.heap.size + 1, 0, none⟩) count count] 28)) := (((Below.refl _ _).alloc (Nat.le_refl _) _).alloc (by simp) _).alloc (by simp; omega) _
  have hb2 : Below (w.alloc (Obj.cells #[Value.slice none 0 0] 28)).heap.size (w.alloc (Obj.cells #[Value.slice none 0 0] 28)) (((w.alloc (Obj.cells #[Value.slice none 0 0] 28)).alloc (Obj.cells (madeCells #[Value.slice none 0 0] count) 46)).alloc (Obj.cells #[Value.slice (some ⟨w.heap.size + 1, 0, none⟩) count count] 28)) := ((Below.refl _ _).alloc (Nat.le_refl _) _).alloc (by simp) _
  have hb3 : Below ((w.alloc (Obj.cells #[Value.slice none 0 0] 28)).alloc (Obj.cells (madeCells #[Value.slice none 0 0] count) 46)).heap.size ((w.alloc (Obj.cells #[Value.slice none 0 0] 28)).alloc (Obj.cells (madeCells #[Value.slice none 0 0] count) 46)) (((w.alloc (Obj.cells #[Value.slice none 0 0] 28)).alloc (Obj.cells (madeCells #[Value.slice none 0 0] count) 46)).alloc (Obj.cells #[Value.slice (some ⟨w.heap.size + 1, 0, none⟩) count count] 28)) := (Below.refl _ _).alloc (Nat.le_refl _) _
  have x1 := (Bz.new w #[Value.slice none 0 0] 28).later hb2
  have x2 := (Bz.new (w.alloc (Obj.cells #[Value.slice none 0 0] 28)) (madeCells #[Value.slice none 0 0] count) 46).later hb3
  have x3 := Bz.new ((w.alloc (Obj.cells #[Value.slice none 0 0] 28)).alloc (Obj.cells (madeCells #[Value.slice none 0 0] count) 46)) #[Value.slice (some ⟨w.heap.size + 1, 0, none⟩) count count] 28
  simp only [World.size_alloc] at x2 x3
  have HB1 := kide hb1
  have X1 := kide x1
  have X2 := kide x2
  have X3 := kide x3
  clear hb1 hb2 hb3 x1 x2 x3
  go_enter Try.func24, Try.ntmps24
  go_wp2_with fail
  generalize ((w.alloc (Obj.cells #[Value.slice none 0 0] 28)).alloc (Obj.cells (madeCells #[Value.slice none 0 0] count) 46)).alloc (Obj.cells #[Value.slice (some ⟨w.heap.size + 1, 0, none⟩) count count] 28) = U at *
  clear hmk
  refine Calls.mono (callsIn_wide.1 (keysC_in Fence.wide 1 trivial rfl g U)) ?_
  rintro e w1 ⟨rfl, hw1⟩
  have hbu : Below U.heap.size U w1 := by rw [hw1]; exact (Below.refl _ _).alloc (Nat.le_refl _) _
  have XM : Bz w1 U.heap.size #[.map (some g)] 52 := by rw [hw1]; exact Bz.new _ _ _
  have HB2 := kide (HB1.out.trans (hbu.mono HB1.out.size))
  have X11 := kide (X1.out.later hbu)
  have X21 := kide (X2.out.later hbu)
  have X31 := kide (X3.out.later hbu)
  clear hw1 hbu
  have hsf := callsIn_wide.1 (sortedFunc_in 8 (by omega) 49 #[.pointer (some ⟨U.heap.size, 0, none⟩)] (enters_of Try.func49 (by kernel_rfl) rfl) (fun ss => Col D (fun _ => false) ss ∧ ss.length ≤ Maps.size D) (fun _ => True) (Maps.size D) (by omega) (fun ss h => by have := h.2; omega) w1
    (keys_stops Fence.wide 5 trivial rfl (by omega) U.heap.size g nn D w1 (XM.cell 0) (HOWN.out _ HB2.out)))
  have HSF := kide hsf
  clear hsf XM
  go_wp2_with fail
  refine Calls.mono HSF.out ?_
  rintro e w2 ⟨v, ss, rfl, ⟨hcol, hsl⟩, hrow, hbw⟩
  obtain ⟨T, hT⟩ : ∃ T, srtP ss = T := ⟨_, rfl⟩
  rw [hT] at hrow
  have HT1 : Hid (T.Pairwise fun x y => ltP x y = true) := by rw [← hT]; exact srtP_sorted hcol.nd
  have HT2 : Hid (∀ p, p ∈ T ↔ p ∈ l) := fun p => by rw [← hT, srtP_mem]; exact col_mem HSK.out hcol p
  have hTl : T.length ≤ 1048576 := by rw [← hT, srtP_len]; omega
  have HB3 := kide (HB2.out.trans (hbw.mono HB2.out.size))
  have S0 : Hid (Sets w2 w.heap.size (w.heap.size + 1) count (fun _ => .slice none 0 0) (atV (T.take 0))) := by
    have x9 := X21.out.later hbw
    refine ⟨by omega, ?_, fun i hi => ?_, fun i j _ _ _ b hb => by cases hb⟩
    · refine ⟨_, x9, by simp [madeCells], fun i hi => ?_⟩
      have : i < count := hi
      have h1 : i % 1 = 0 := by omega
      simp [madeCells, this, h1]
    · exact ⟨by simp [atV], .inl ⟨rfl, by simp [atV]⟩⟩
  have C0 := kide (Cs.mk S0.out (X31.out.later hbw) (X11.out.later hbw) hrow HB3.out)
  obtain ⟨B, hB⟩ : ∃ B, w1.heap.size = B := ⟨_, rfl⟩
  rw [hB] at C0
  clear HSF hbw hrow hcol hsl hT HB1 X1 X2 X3 HB2 X11 X21 X31 S0 HB3 hB HSK
  obtain ⟨va, vc, rfl⟩ := C0.out.row.form
  go_wp2_with fail
  have hRA : w.heap.size < w.heap.size + 1 := by omega
  generalize w.heap.size + 1 = A at *
  obtain ⟨R, hR⟩ : ∃ R, w.heap.size = R := ⟨_, rfl⟩
  have HR := kide hR
  rw [hR] at hRA
  simp only [hR] at C0 ⊢
  clear hR HOWN hsz
  go_loopw [15] (fun i wr => ∃ (k : Nat) (f : Nat → Value), k ≤ T.length ∧ i = .int .i64 (k : Int) ∧ Cs w (A + 1) R A count f T k (.slice va T.length vc) B wr) (fun i _ => T.length - (intOf i).toNat)
  case atStart => exact ⟨0, _, Nat.zero_le _, rfl, C0.out⟩
  case round =>
    obtain ⟨k, f, hk, rfl, hcs⟩ := hrel
    by_cases hlt : k < T.length
    · have i0 : (k : Int) < (T.length : Int) := by omega
      have i1 : (k : Int) ≥ 0 := by omega
      obtain ⟨p, hp⟩ : ∃ p, T[k]? = some p := ⟨T[k], List.getElem?_eq_getElem hlt⟩
      obtain ⟨tg, tc, hv, t0, t1⟩ := op2_at hcs.row hp
      cases hv
      have hpm := HL.out p ((HT2.out p).1 (List.mem_of_getElem? hp))
      have HTS : Hid (T.take (k + 1) = T.take k ++ [p]) := by
        show _ = _
        rw [List.take_add_one, hp]
        rfl
      obtain ⟨px, y⟩ := p
      simp only [] at t0 t1 hpm
      obtain ⟨v, hv⟩ : ∃ v : Nat, px = (v : Int) := ⟨px.toNat, by omega⟩
      subst hv
      have hvc : v < count := by omega
      have v0 : (v : Int) ≥ 0 := by omega
      have v1 : (v : Int) < (count : Int) := by omega
      obtain ⟨ra, rc, hf⟩ : ∃ ra rc, f v = .slice ra (atV (T.take k) v).length rc := by
        rcases (hcs.sets.own v hvc).2 with ⟨e, h0⟩ | ⟨g, cap, cur, e, -⟩
        · exact ⟨none, 0, by rw [e, h0]⟩
        · exact ⟨_, _, e⟩
      have HCS := kide hcs
      have HLT := kide hlt
      have HVC := kide hvc
      have HF := kide hf
      clear hcs hp hlt hf hvc hpm C0
      go_wp2_with fail
      have hba : Below wr.heap.size wr (wr.alloc (Obj.cells #[Value.int .i64 (v : Int), Value.int .i64 y] 58)) := (Below.refl _ _).alloc (Nat.le_refl _) _
      have C1 := kide (HCS.out.later hba)
      have XP := kide (Bz.new wr #[Value.int .i64 (v : Int), Value.int .i64 y] 58)
      obtain ⟨P, hP⟩ : ∃ P, wr.heap.size = P := ⟨_, rfl⟩
      rw [hP] at XP
      simp only [hP]
      generalize wr.alloc (Obj.cells #[Value.int .i64 (v : Int), Value.int .i64 y] 58) = V at *
      clear hba hP t0 t1
      refine wp_region_x (SA := fun uu => uu.cell? ⟨A + 1, 0, none⟩ = some (Value.slice (some ⟨A, 0, none⟩) count count) ∧ uu.cell? ⟨P, 0, none⟩ = some (Value.int .i64 (v : Int)) ∧ uu.cell? ⟨P, 1, none⟩ = some (Value.int .i64 y) ∧ uu.cell? ⟨A, v, none⟩ = some (Value.slice ra (atV (T.take k) v).length rc)) (SB := fun _ => True) (k := 15) (by kernel_rfl) ?_
      have hbd : Below V.heap.size V V.drew := (Below.refl _ _).drew
      have C2 := kide (C1.out.later hbd)
      have XP2 := kide (XP.out.later hbd)
      clear C1 XP hbd
      generalize V.drew = m0 at *
      have c0 : m0.cell? ⟨A + 1, 0, none⟩ = some (Value.slice (some ⟨A, 0, none⟩) count count) := C2.out.bc.cell 0
      have c1 : m0.cell? ⟨P, 0, none⟩ = some (Value.int .i64 (v : Int)) := XP2.out.cell 0
      have c2 : m0.cell? ⟨P, 1, none⟩ = some (Value.int .i64 y) := XP2.out.cell 1
      have c3 : m0.cell? ⟨A, v, none⟩ = some (Value.slice ra (atV (T.take k) v).length rc) := by rw [← HF.out]; exact C2.out.sets.row.cell HVC.out
      have hs0 : Hid ((fun uu : World => uu.cell? ⟨A + 1, 0, none⟩ = some (Value.slice (some ⟨A, 0, none⟩) count count) ∧ uu.cell? ⟨P, 0, none⟩ = some (Value.int .i64 (v : Int)) ∧ uu.cell? ⟨P, 1, none⟩ = some (Value.int .i64 y) ∧ uu.cell? ⟨A, v, none⟩ = some (Value.slice ra (atV (T.take k) v).length rc)) m0) := ⟨c0, c1, c2, c3⟩
      try go_simp
      refine wpAnyX_take (i := 0) (v := Value.pointer (some ⟨A + 1, 0, none⟩)) rfl (by kernel_rfl) (by kernel_rfl) (by kernel_rfl) (fun _ _ _ h => by first | exact h | exact h.elim) (by decide) (by kernel_rfl) (by kernel_rfl) hs0.out (Or.inl ⟨by rfl, fun uu hu => by obtain ⟨e0, e1, e2, e3⟩ := hu; go_simp⟩) ?_
      try go_simp
      refine wpAnyX_take (i := 1) (v := Value.slice (some ⟨A, 0, none⟩) count count) rfl (by kernel_rfl) (by kernel_rfl) (by kernel_rfl) (fun _ _ _ h => by first | exact h | exact h.elim) (by decide) (by kernel_rfl) (by kernel_rfl) hs0.out (Or.inl ⟨by rfl, fun uu hu => by obtain ⟨e0, e1, e2, e3⟩ := hu; go_simp⟩) ?_
      try go_simp
      refine wpAnyX_take (i := 2) (v := Value.pointer (some ⟨P, 0, none⟩)) rfl (by kernel_rfl) (by kernel_rfl) (by kernel_rfl) (fun _ _ _ h => by first | exact h | exact h.elim) (by decide) (by kernel_rfl) (by kernel_rfl) hs0.out (Or.inl ⟨by rfl, fun uu hu => by obtain ⟨e0, e1, e2, e3⟩ := hu; go_simp⟩) ?_
      try go_simp
      refine wpAnyX_take (i := 3) (v := Value.int .i64 (v : Int)) rfl (by kernel_rfl) (by kernel_rfl) (by kernel_rfl) (fun _ _ _ h => by first | exact h | exact h.elim) (by decide) (by kernel_rfl) (by kernel_rfl) hs0.out (Or.inl ⟨by rfl, fun uu hu => by obtain ⟨e0, e1, e2, e3⟩ := hu; go_simp⟩) ?_
      try go_simp
      refine wpAnyX_take (i := 4) (v := Value.pointer (some ⟨A + 1, 0, none⟩)) rfl (by kernel_rfl) (by kernel_rfl) (by kernel_rfl) (fun _ _ _ h => by first | exact h | exact h.elim) (by decide) (by kernel_rfl) (by kernel_rfl) hs0.out (Or.inl ⟨by rfl, fun uu hu => by obtain ⟨e0, e1, e2, e3⟩ := hu; go_simp⟩) ?_
      try go_simp
      refine wpAnyX_take (i := 5) (v := Value.slice (some ⟨A, 0, none⟩) count count) rfl (by kernel_rfl) (by kernel_rfl) (by kernel_rfl) (fun _ _ _ h => by first | exact h | exact h.elim) (by decide) (by kernel_rfl) (by kernel_rfl) hs0.out (Or.inl ⟨by rfl, fun uu hu => by obtain ⟨e0, e1, e2, e3⟩ := hu; go_simp⟩) ?_
      try go_simp
      refine wpAnyX_take (i := 6) (v := Value.pointer (some ⟨P, 0, none⟩)) rfl (by kernel_rfl) (by kernel_rfl) (by kernel_rfl) (fun _ _ _ h => by first | exact h | exact h.elim) (by decide) (by kernel_rfl) (by kernel_rfl) hs0.out (Or.inl ⟨by rfl, fun uu hu => by obtain ⟨e0, e1, e2, e3⟩ := hu; go_simp⟩) ?_
      try go_simp
      refine wpAnyX_take (i := 7) (v := Value.int .i64 (v : Int)) rfl (by kernel_rfl) (by kernel_rfl) (by kernel_rfl) (fun _ _ _ h => by first | exact h | exact h.elim) (by decide) (by kernel_rfl) (by kernel_rfl) hs0.out (Or.inl ⟨by rfl, fun uu hu => by obtain ⟨e0, e1, e2, e3⟩ := hu; go_simp⟩) ?_
      try go_simp
      refine wpAnyX_take (i := 8) (v := Value.pointer (some ⟨A, v, none⟩)) rfl (by kernel_rfl) (by kernel_rfl) (by kernel_rfl) (fun _ _ _ h => by first | exact h | exact h.elim) (by decide) (by kernel_rfl) (by kernel_rfl) hs0.out (Or.inl ⟨by rfl, fun uu hu => by obtain ⟨e0, e1, e2, e3⟩ := hu; go_simp⟩) ?_
      try go_simp
      refine wpAnyX_take (i := 9) (v := Value.slice ra (atV (T.take k) v).length rc) rfl (by kernel_rfl) (by kernel_rfl) (by kernel_rfl) (fun _ _ _ h => by first | exact h | exact h.elim) (by decide) (by kernel_rfl) (by kernel_rfl) hs0.out (Or.inl ⟨by rfl, fun uu hu => by obtain ⟨e0, e1, e2, e3⟩ := hu; go_simp⟩) ?_
      try go_simp
      refine wpAnyX_take (i := 10) (v := Value.pointer (some ⟨P, 1, none⟩)) rfl (by kernel_rfl) (by kernel_rfl) (by kernel_rfl) (fun _ _ _ h => by first | exact h | exact h.elim) (by decide) (by kernel_rfl) (by kernel_rfl) hs0.out (Or.inl ⟨by rfl, fun uu hu => by obtain ⟨e0, e1, e2, e3⟩ := hu; go_simp⟩) ?_
      try go_simp
      refine wpAnyX_take (i := 11) (v := Value.int .i64 y) rfl (by kernel_rfl) (by kernel_rfl) (by kernel_rfl) (fun _ _ _ h => by first | exact h | exact h.elim) (by decide) (by kernel_rfl) (by kernel_rfl) hs0.out (Or.inl ⟨by rfl, fun uu hu => by obtain ⟨e0, e1, e2, e3⟩ := hu; go_simp⟩) ?_
      try go_simp
      refine wpAnyX_ready (rs := [12]) (by kernel_rfl) (by simp) (AllX.cons rfl (fun K hK => ?_) AllX.nil)
      go_simp
      have hbb : Below m0.heap.size m0 (m0.alloc (Obj.cells #[Value.int .i64 y] 2)) := (Below.refl _ _).alloc (Nat.le_refl _) _
      have C3 := kide (C2.out.later hbb)
      have XP3 := kide (XP2.out.later hbb)
      have XY := kide (Bz.new m0 #[Value.int .i64 y] 2)
      obtain ⟨Y, hY⟩ : ∃ Y, m0.heap.size = Y := ⟨_, rfl⟩
      rw [hY] at XY
      simp only [hY]
      generalize m0.alloc (Obj.cells #[Value.int .i64 y] 2) = m1 at *
      clear hbb hY C2 XP2 c0 c1 c2 c3 hs0
      have c0 : m1.cell? ⟨A + 1, 0, none⟩ = some (Value.slice (some ⟨A, 0, none⟩) count count) := C3.out.bc.cell 0
      have c1 : m1.cell? ⟨P, 0, none⟩ = some (Value.int .i64 (v : Int)) := XP3.out.cell 0
      have c2 : m1.cell? ⟨P, 1, none⟩ = some (Value.int .i64 y) := XP3.out.cell 1
      have c3 : m1.cell? ⟨A, v, none⟩ = some (Value.slice ra (atV (T.take k) v).length rc) := by rw [← HF.out]; exact C3.out.sets.row.cell HVC.out
      refine hK _ _ (Sx.before (by kernel_rfl) ⟨c0, c1, c2, c3⟩) ?_
      clear hK K
      try go_simp
      refine wpAnyX_ready (rs := [13]) (by kernel_rfl) (by simp) (AllX.cons rfl (fun K hK => ?_) AllX.nil)
      have hown : OW m1 w.heap.size (Value.slice ra (atV (T.take k) v).length rc) (atV (T.take k) v) := by rw [← HF.out]; exact C3.out.sets.own v HVC.out
      have hll : (atV (T.take k) v).length ≤ 1073741824 := by
        have h1 := atV_len (T.take k) v
        rw [List.length_take] at h1
        omega
      have hszz : w.heap.size ≤ m1.heap.size := C3.out.bel.size
      refine step_appIl m1 rfl _ _ rfl w.heap.size _ (atV (T.take k) v) y rfl hown Y 1 rfl (XY.out.cell 0) hll hszz ?_
      intro g6 cap6 m2 ho6 hg6 hat
      have hty : ∀ b, (Value.slice ra (atV (T.take k) v).length rc).ownBlock = some b → ∃ cur, m1.heap[b]? = some (.cells cur 2 (0, 0)) := fun b hb => own_cells hown hb
      have hne : ∀ {b : Nat} {cs : Array Value} {t : TypeId}, Bz m1 b cs t → t ≠ 2 → some b ≠ (Value.slice ra (atV (T.take k) v).length rc).ownBlock := fun hb ht => own_typed hown hb ht
      have B3 := C3.out.bc.grown hg6 (hne C3.out.bc (by decide))
      have R3 := C3.out.br.grown hg6 (hne C3.out.br (by decide))
      have P3 := XP3.out.grown hg6 (hne XP3.out (by decide))
      obtain ⟨cc, hcc, hcr⟩ := C3.out.sets.row
      have hAr : m2.rowIs A 46 count f := ⟨cc, (hg6.block A (lt_of_block hcc) (own_typed hown hcc (by decide))).trans hcc, hcr⟩
      have d0 : m2.cell? ⟨A + 1, 0, none⟩ = some (Value.slice (some ⟨A, 0, none⟩) count count) := B3.cell 0
      have d1 : m2.cell? ⟨P, 0, none⟩ = some (Value.int .i64 (v : Int)) := P3.cell 0
      have d2 : m2.cell? ⟨P, 1, none⟩ = some (Value.int .i64 y) := P3.cell 1
      have d3 : m2.cell? ⟨A, v, none⟩ = some (Value.slice ra (atV (T.take k) v).length rc) := by rw [← HF.out]; exact hAr.cell HVC.out
      have d4 : m2.frozen? ⟨A, v, none⟩ = false := by obtain ⟨c9, h9, -⟩ := hAr; exact frozen_of_row m2 A v _ _ h9
      have hst := C3.out.sets.step HVC.out ho6 (by rw [HF.out]; exact hg6) (by rw [HF.out]; rcases hat with e | e; exact .inl e.symm; exact .inr (by rw [e]; rfl))
      have hRow := C3.out.row.grown hg6 (fun r e => by obtain ⟨cur, h9⟩ := hty r e; exact ⟨_, h9, fun cur e => by simp at e⟩)
      have CE : Hid (Cs w (A + 1) R A count (fun i => if i = v then .slice (some ⟨g6, 0, none⟩) ((atV (T.take k) v).length + 1) cap6 else f i) T (k + 1) (.slice (some ⟨tg, 0, none⟩) T.length vc) B (m2.setCell ⟨A, v, none⟩ (.slice (some ⟨g6, 0, none⟩) ((atV (T.take k) v).length + 1) cap6))) := by
        refine ⟨?_, B3.grown (gsc _ _ _) (by simp), R3.grown (gsc _ _ _) (by simp; omega), hRow.grown (gsc _ _ _) (fun r e => by cases e; obtain ⟨c9, h9, -⟩ := hAr; exact ⟨_, h9, fun cur e => by simp at e⟩), (C3.out.bel.grown hg6 hszz (fun r e => (own_lt hown e).1)).setCell C3.out.sets.lo _⟩
        have hxs : (fun i => if i = v then atV (T.take k) v ++ [y] else atV (T.take k) i) = atV (T.take (k + 1)) := by
          funext i
          rw [HTS.out, atV_snoc]
          by_cases e : i = v
          · subst e; simp
          · have e2 : ¬ ((v : Int) = (i : Int)) := by omega
            simp [e, e2]
        rw [← hxs]
        exact hst
      have hs2 : Hid ((fun uu : World => uu.cell? ⟨A + 1, 0, none⟩ = some (Value.slice (some ⟨A, 0, none⟩) count count) ∧ uu.cell? ⟨P, 0, none⟩ = some (Value.int .i64 (v : Int)) ∧ uu.cell? ⟨P, 1, none⟩ = some (Value.int .i64 y) ∧ uu.cell? ⟨A, v, none⟩ = some (Value.slice ra (atV (T.take k) v).length rc)) m2) := ⟨d0, d1, d2, d3⟩
      refine hK _ _ (Sx.before (by kernel_rfl) hs2.out) ?_
      clear hK K hst hRow ho6 hg6 hat hty hne B3 R3 P3 hcc hcr hAr hown hll hszz c0 c1 c2 c3 C3 XP3 XY
      try go_simp
      refine wpAnyX_take (i := 14) (v := Value.pointer (some ⟨A, v, none⟩)) rfl (by kernel_rfl) (by kernel_rfl) (by kernel_rfl) (fun _ _ _ h => by first | exact h | exact h.elim) (by decide) (by kernel_rfl) (by kernel_rfl) hs2.out (Or.inl ⟨by rfl, fun uu hu => by obtain ⟨e0, e1, e2, e3⟩ := hu; go_simp⟩) ?_
      try go_simp
      refine wpAnyX_ready (rs := [15]) (by kernel_rfl) (by simp) (AllX.cons rfl (fun K hK => ?_) AllX.nil)
      go_simp
      refine hK _ _ (Sx.behind (by kernel_rfl) trivial) ?_
      clear hK K
      try go_simp
      refine wpAnyX_done (by kernel_rfl) ?_ _
      generalize m2.setCell ⟨A, v, none⟩ (.slice (some ⟨g6, 0, none⟩) ((atV (T.take k) v).length + 1) cap6) = m3 at *
      clear d0 d1 d2 d3 d4 hs2
      go_wp2_with fail
      go_roundw
      case rel => exact ⟨k + 1, _, HLT.out, by go_num, CE.out⟩
      case measure => have := HLT.out; simp only [intOf]; omega
    · have e9 : k = T.length := by omega
      subst e9
      have b0 := hcs.bc.cell 0
      have r0 := hcs.br.cell 0
      have f0 := hcs.br.froz 0
      simp at b0 r0
      have HCS := kide hcs
      clear hcs C0
      go_wp2_with fail
      have XR := HCS.out.br.set 0 (.slice (some ⟨A, 0, none⟩) count count)
      have r1 := XR.cell 0
      simp at r1
      have hs9 := HCS.out.sets.far (x := .slice (some ⟨A, 0, none⟩) count count) (i := 0) HCS.out.br (by decide) (by omega)
      rw [List.take_of_length_le (Nat.le_refl _)] at hs9
      refine bodyPost_ret (v := .agg #[.slice (some ⟨A, 0, none⟩) count count]) (by simp [results, Try.results24, go_sem, r1]) rfl ?_
      exact ⟨T, HT1.out, HT2.out, A, f, rfl, hs9, HCS.out.bel.setCell (by rw [HR.out]; exact Nat.le_refl _) _⟩

end Go.Proofs.Ytjnbapddfhpcnaa
