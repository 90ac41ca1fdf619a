/- Several texts in one. -/
import Derived.RangeFuncNested
import Derived.Test.YtnpjgoklpaigjaaGreatDoorUFG
import Derived.Test.YtnpjgoklpaigjaaGreatDoorGAZ
import Derived.Test.YtnpjgoklpaigjaaGreatDoorGAT
import Derived.Test.YtnpjgoklpaigjaaGreatDoorGAB
import Derived.OwnWalkIn
import Derived.Deep.AppendLies
namespace Go.Proofs.YtnpjgoklpaigjaaGreatDoor
open Go.RowKit
set_option linter.unusedVariables false
set_option linter.unusedSimpArgs false
open Go.RowKit Go.Shelf Go.WideMaps Go.Maps Go.MapKept Go.ChangeMaps
def cmS (xs : List Sg) {n : Nat} (pre : List (Fin n)) : List Sc := (pre.map fun x : Fin n => (sgN xs x).ct).reverse
theorem cmS_snoc (xs : List Sg) {n : Nat} (pre : List (Fin n)) (x : Fin n) : cmS xs (pre ++ [x]) = (sgN xs x).ct :: cmS xs pre := by simp [cmS]
theorem cmS_len (xs : List Sg) {n : Nat} (pre : List (Fin n)) : (cmS xs pre).length = pre.length := by simp [cmS]
theorem cmS_all {xs : List Sg} {n : Nat} (hl : xs.length = n) (h0 : 0 < n) : cmS xs (bwd n h0 n) = xs.map Sg.ct := by
 apply List.ext_getElem?
 intro i
 unfold cmS bwd
 by_cases hi : i < n
 ·rw [List.getElem?_reverse (by simpa using hi)]
  simp only [List.length_map, List.length_range, List.map_map, List.getElem?_map, List.getElem?_range (show n - 1 - i < n by omega), Option.map_some, Function.comp]
  rw [show n - 1 - (n - 1 - i) = i by omega]
  have hx : xs[i]? = some (xs[i]'(by omega)) := List.getElem?_eq_getElem (by omega)
  rw [hx]
  simp [sgN, List.getD, hx]
 ·rw [List.getElem?_eq_none (by simp; omega), List.getElem?_eq_none (by simp; omega)]
def ndS (ds : List Dc) (xs : List Sg) {n : Nat} (pre : List (Fin n)) : List Tc := (unfTo ds (cmS xs pre)).1
def kdS (ds : List Dc) (xs : List Sg) {n : Nat} (pre : List (Fin n)) : List Int := (unfTo ds (cmS xs pre)).2.map fun i => (shAll (ndS ds xs pre)).2.getD i.toNat 0
theorem ndS_snoc (ds : List Dc) (xs : List Sg) {n : Nat} (pre : List (Fin n)) (x : Fin n) : ndS ds xs (pre ++ [x]) = ndS ds xs pre ++ unf1 ds (ndS ds xs pre).length (sgN xs x).ct := by
 unfold ndS
 rw [cmS_snoc, unfTo]
theorem shAll_ext (ns ms : List Tc) (h : aheadT (ns ++ ms)) : ∀ i, i < ns.length → (shAll (ns ++ ms)).2.getD i 0 = (shAll ns).2.getD i 0 := by
 intro i hi
 have key : ∀ k, ns.length ≤ k → k ≤ (ns ++ ms).length → (shTo (ns ++ ms) k).2.getD i 0 = (shTo ns ns.length).2.getD i 0 := by
  intro k hk
  induction k with
  | zero => omega
  | succ k ih =>
   intro hkl
   by_cases e : ns.length = k + 1
   ·rw [← e, shTo_app ns ms _ (Nat.le_refl _)]
   ·have hk2 : (ns ++ ms)[k]? = some ((ns ++ ms)[k]'(by omega)) := List.getElem?_eq_getElem (by omega)
    rw [shTo_succ hk2, shStep_to, ← ih (by omega) (by omega)]
    have hl := (shTo_f h k (by omega)).l2
    rw [List.getD_eq_getElem?_getD, List.getD_eq_getElem?_getD, List.getElem?_append_left (by omega)]
 exact key _ (by simp) (Nat.le_refl _)
theorem kdS_snoc (ds : List Dc) (xs : List Sg) {n : Nat} (pre : List (Fin n)) (x : Fin n) {i : Nat} (hi : (shAll (ndS ds xs (pre ++ [x]))).2.getLast? = some (i : Int)) : kdS ds xs (pre ++ [x]) = kdS ds xs pre ++ [(i : Int)] := by
 have hah : aheadT (ndS ds xs (pre ++ [x])) := unfTo_ahead ds _
 have hkd := unfTo_kids ds (cmS xs pre)
 have hl := (len_shAll hah).2.1
 have hnd := ndS_snoc ds xs pre x
 have e2 : (unfTo ds (cmS xs (pre ++ [x]))).2 = (unfTo ds (cmS xs pre)).2 ++ [((ndS ds xs (pre ++ [x])).length : Int) - 1] := by
  have : (unfTo ds (cmS xs (pre ++ [x]))).1 = ndS ds xs (pre ++ [x]) := rfl
  rw [← this, cmS_snoc, unfTo]
 have h1 := unf1_len ds (ndS ds xs pre).length (sgN xs x).ct
 unfold kdS
 rw [e2, List.map_append]
 congr 1
 ·refine List.map_congr_left fun z hz => ?_
  have h9 := hkd z hz
  rw [hnd]
  rw [hnd] at hah
  exact shAll_ext _ _ hah _ (by unfold ndS; omega)
 ·simp only [List.map_cons, List.map_nil]
  congr 1
  rw [List.getLast?_eq_getElem?, hl] at hi
  rw [List.getD_eq_getElem?_getD, show (((ndS ds xs (pre ++ [x])).length : Int) - 1).toNat = (ndS ds xs (pre ++ [x])).length - 1 by omega, hi]
  rfl

structure UnS (w1 : World) (b0 A s g L0 : Nat) (da : Option Addr) (dn dc : Nat) (ds : List Dc) (xs : List Sg) {n : Nat} (pre : List (Fin n)) (W : World) : Prop where
 xd : Bz W b0 #[.slice da dn dc] 33
 xr : Bz W (b0 + 1) #[.slice none 0 0] 30
 xa : Bz W A #[.pointer (some ⟨s, 0, none⟩)] 79
 xb : ∃ sv, Bz W (A + 2) #[sv] 45
 tk : ∃ v D l ka kc, Ar W w1.heap.size s g v D l ∧ l.map Tg.ct = (shAll (ndS ds xs pre)).1 ∧ Bz W (A + 1) #[.slice ka pre.length kc] 60 ∧ OI W L0 (.slice ka pre.length kc) (kdS ds xs pre) ∧ ∀ y ∈ l, ∀ p, y.ka = some p → (Value.slice ka pre.length kc).ownBlock ≠ some p.block
 bl : Below w1.heap.size w1 W
 sz : L0 ≤ W.heap.size
theorem bz_own {W W' : World} {b : Nat} {cs : Array Value} {t : TypeId} {row : Option Nat} (h : Bz W b cs t) (hg : W.grownBy W' row) (hr : ∀ r, row = some r → ∃ o : Obj, W.heap[r]? = some o ∧ o.isCells = false) : Bz W' b cs t := by
 unfold Bz at h ⊢
 rw [hg.block b (lt_of_block h) (fun e => ?_)]
 ·exact h
 ·obtain ⟨o, h1, h2⟩ := hr b e.symm
  rw [h] at h1
  cases h1
  cases h2
theorem UnS.own {w1 : World} {b0 A s g L0 : Nat} {da : Option Addr} {dn dc : Nat} {ds : List Dc} {xs : List Sg} {n : Nat} (hg0 : g < L0) (h1 : w1.heap.size ≤ L0) : OwnFrom L0 (fun (pre : List (Fin n)) W => UnS w1 b0 A s g L0 da dn dc ds xs pre W) := by
 intro pre W W' row h hg hr
 have hr2 : ∀ r, row = some r → ∃ o : Obj, W.heap[r]? = some o ∧ o.isCells = false := fun r e => (hr r e).2
 have keepC : ∀ (k : Nat) (cur : Array Value) (t : TypeId) (fz : Nat × Nat), W.heap[k]? = some (.cells cur t fz) → W'.heap[k]? = W.heap[k]? := fun k cur t fz hc => hg.block k (lt_of_block hc) (fun e => by
  obtain ⟨o, h8, h9⟩ := hr2 k e.symm
  rw [hc] at h8
  cases h8
  cases h9)
 obtain ⟨v, D, l, ka, kc, ha, he, hk1, hk2, hk3⟩ := h.tk
 obtain ⟨sv, hxb⟩ := h.xb
 refine ⟨bz_own h.xd hg hr2, bz_own h.xr hg hr2, bz_own h.xa hg hr2, ⟨sv, bz_own hxb hg hr2⟩, ⟨v, D, l, ka, kc, ⟨⟨ha.ts.row.move fun b hb => ?_, fun x hx => (ha.ts.wn x hx).kept fun k cur hc => keepC k cur _ _ hc, fun x hx => (ha.ts.kn x hx).kept fun k cur hc => keepC k cur _ _ hc, ha.ts.wd, ha.ts.kd⟩, bz_own ha.box hg hr2, own_belowN ha.mp fun hgl => hg.block g hgl (fun e => by have := (hr g e.symm).1; omega), ha.ak, ha.le⟩, he, bz_own hk1 hg hr2, hk2.move fun b hb => ?_, hk3⟩, h.bl.grown hg h.bl.size (fun k e => by have := (hr k e).1; omega), Nat.le_trans h.sz hg.size⟩
 ·obtain ⟨c, hc⟩ := ha.ts.row.typed hb
  exact keepC b c _ _ hc
 ·obtain ⟨c, hc⟩ := hk2.typed9 hb
  exact keepC b c _ _ hc
theorem UnS.later {w1 : World} {b0 A s g L0 : Nat} {da : Option Addr} {dn dc : Nat} {ds : List Dc} {xs : List Sg} {n : Nat} {pre : List (Fin n)} {W W' : World} (h : UnS w1 b0 A s g L0 da dn dc ds xs pre W) (hb : Below W.heap.size W W') : UnS w1 b0 A s g L0 da dn dc ds xs pre W' := by
 obtain ⟨v, D, l, ka, kc, ha, he, hk1, hk2, hk3⟩ := h.tk
 obtain ⟨sv, hxb⟩ := h.xb
 exact ⟨h.xd.later hb, h.xr.later hb, h.xa.later hb, ⟨sv, hxb.later hb⟩, ⟨v, D, l, ka, kc, ha.later hb, he, hk1.later hb, hk2.later hb, hk3⟩, h.bl.trans (hb.mono h.bl.size), Nat.le_trans h.sz hb.size⟩

open Go.RowKit Go.Shelf Go.WideMaps Go.Maps Go.MapKept Go.ChangeMaps
theorem stepIn_appI {F : Fence} {nn : Nat} (w : World) {ops : Array Oper} {o : Oper} {a : Act} {K : Act → World → Prop} {Q : Exit → Act → World → Prop} {E : Prop} (hgd : o.guard = none) (s x : Operand)
  (ho : o.op = .call { callee := .builtin .append, args := #[s, x], argTypes := #[60, 60] })
  (B : Nat) (v : Value) (l : List Int) (y : Int) (hs : a.eval s = v) (hown : OI w B v l) (gx c : Nat) (hx : a.eval x = .slice (some ⟨gx, 0, none⟩) 1 c)
  (h0 : w.cell? ⟨gx, 0, none⟩ = some (.int .i64 y)) (hl : l.length ≤ 1073741824) (hB : B ≤ w.heap.size)
  (h : ∀ g cap w', OI w' B (.slice (some ⟨g, 0, none⟩) (l.length + 1) cap) (l ++ [y]) → w.grownBy w' v.ownBlock → (v.ownBlock = some g ∨ g = w.heap.size) → K (a.put o.dst (.slice (some ⟨g, 0, none⟩) (l.length + 1) cap)) w') :
  if Region.wanted o (yielded ops a.tmps) = true then Oper.wpIn F nn Tryz.prog o a w K Q else E := by
 obtain ⟨i0, hi, hz0, hz1, hz2⟩ := info_parts Tryz.infoI64
 have hwd : Region.wanted o (yielded ops a.tmps) = true := by simp [Region.wanted, hgd]
 rw [if_pos hwd]
 obtain ⟨g, cap, w', hrun, h1, h2, h3, _⟩ := run_append_lies (P := Tryz.prog) w 60 o.type B 2 i0 _ 1 8 Tryz.underlying60 hi hz0 hz1 hz2 rfl (by decide) v l.length (i64s l).toList hown ⟨gx, 0, none⟩ 1 c [.int .i64 y] rfl (by
  intro j u hj
  rw [Addr.add_lit]
  match j, hj with
  | 0, hj => simp at hj; subst hj; exact h0
  | j + 1, hj => simp at hj) (by
  intro u hu
  simp at hu
  subst hu
  rfl) (by decide) (by unfold maxLen; omega) (by omega) hB _ rfl
 have h1' : OI w' B (.slice (some ⟨g, 0, none⟩) (l.length + 1) cap) (l ++ [y]) := by
  unfold OI
  rw [List.length_append]
  simpa [i64s] using h1
 unfold Oper.wpIn
 refine ⟨?_, ?_⟩
 ·simp [Oper.about, ho, resolve, Target.leads, Sem.run_pure]
 ·rw [Oper.semAt_plain F _ _ (by rw [ho]; intro c hc'; cases hc')]
  simp [execOp, ho, resolve, invoke, builtin, hs, hx, hrun, Result.andThen]
  exact h g cap w' h1' h2 h3
theorem un_end {w w1 : World} {b0 A s g : Nat} {da : Option Addr} {dn dc : Nat} {ds : List Dc} {xs : List Sg} {n : Nat} {pre : List (Fin n)} {x : Fin n} {W w3 w4 : World} {ka : Option Addr} {kc gg cap i3 : Nat} {v3 : Value} {D3 : DataW Unit} {l l3 : List Tg}
  (hww : w.heap.size ≤ w1.heap.size) (h1A : w1.heap.size ≤ A) (hgA : g < A + 3) (hbA : b0 + 1 < w1.heap.size) (HU : UnS w1 b0 A s g (A + 3) da dn dc ds xs pre W)
  (hkb : Bz W (A + 1) #[.slice ka pre.length kc] 60) (hko : OI W (A + 3) (.slice ka pre.length kc) (kdS ds xs pre)) (hkl : ∀ y ∈ l, ∀ p, y.ka = some p → (Value.slice ka pre.length kc).ownBlock ≠ some p.block)
  (har3 : Ar w3 w1.heap.size s g v3 D3 l3) (hl3 : l3.map Tg.ct = (shAll (ndS ds xs (pre ++ [x]))).1) (hi3 : (shAll (ndS ds xs (pre ++ [x]))).2.getLast? = some (i3 : Int)) (hb3 : Below w1.heap.size w1 w3) (hk3 : KpT g W.drew w3) (hnw : ∀ y ∈ l3, y ∈ l ∨ ∀ p, y.ka = some p → W.heap.size ≤ p.block)
  (ho4 : OI w4 (A + 3) (.slice (some ⟨gg, 0, none⟩) (pre.length + 1) cap) (kdS ds xs pre ++ [(i3 : Int)])) (hg4 : (w3.alloc (Obj.cells #[.int .i64 (i3 : Int)] 2)).grownBy w4 (Value.slice ka pre.length kc).ownBlock) (hgg : (Value.slice ka pre.length kc).ownBlock = some gg ∨ gg = (w3.alloc (Obj.cells #[.int .i64 (i3 : Int)] 2)).heap.size) :
  KeepsFrom (A + 3) W (w4.setCell ⟨A + 1, 0, none⟩ (.slice (some ⟨gg, 0, none⟩) (pre.length + 1) cap)) ∧ KpB w.heap.size (A + 2) W (w4.setCell ⟨A + 1, 0, none⟩ (.slice (some ⟨gg, 0, none⟩) (pre.length + 1) cap)) ∧ UnS w1 b0 A s g (A + 3) da dn dc ds xs (pre ++ [x]) (w4.setCell ⟨A + 1, 0, none⟩ (.slice (some ⟨gg, 0, none⟩) (pre.length + 1) cap)) := by
 obtain ⟨w5, hw5⟩ : ∃ w5, w3.alloc (Obj.cells #[.int .i64 (i3 : Int)] 2) = w5 := ⟨_, rfl⟩
 have hb5 : Below w3.heap.size w3 w5 := by rw [← hw5]; exact blA _ _
 rw [hw5] at hg4 hgg
 have har5 := har3.later hb5
 have hsW := HU.sz
 have hs3 : W.heap.size ≤ w3.heap.size := hk3.2.2
 have hs5 := hb5.size
 -- the row's own block: numbers, new since the loop began
 have hob : ∀ b, (Value.slice ka pre.length kc).ownBlock = some b → A + 3 ≤ b ∧ b < W.heap.size ∧ ∃ cur, W.heap[b]? = some (.cells cur 2) := fun b hb => ⟨(hko.lt hb).1, (hko.lt hb).2, hko.typed9 hb⟩
 have c5 : ∀ (b : Nat) (cur : Array Value) (t : TypeId) (fz : Nat × Nat), t ≠ 88 → t ≠ 67 → W.heap[b]? = some (.cells cur t fz) → w5.heap[b]? = some (.cells cur t fz) := fun b cur t fz h1 h2 hb => (hb5.block b (by have := lt_of_block hb; omega)).trans ((hk3.1 b cur t fz h1 h2 hb).trans hb)
 -- what is no cell of numbers stays through the append
 have st4 : ∀ (b : Nat) (o : Obj), w5.heap[b]? = some o → (∀ cur, o ≠ .cells cur 2) → w4.heap[b]? = some o := fun b o hb hno => (hg4.block b (Array.getElem?_eq_some_iff.1 hb).1 (fun e => by
  obtain ⟨_, _, cur, hc⟩ := hob b e.symm
  have h9 := c5 b cur _ _ (by decide) (by decide) hc
  rw [hb] at h9
  exact hno cur (Option.some.inj h9))).trans hb
 have lo4 : ∀ b, b < A + 3 → b < w5.heap.size → w4.heap[b]? = w5.heap[b]? := fun b h1 h2 => hg4.block b h2 (fun e => by have := (hob b e.symm).1; omega)
 have hkb5 : w5.heap[A + 1]? = some (.cells #[.slice ka pre.length kc] 60) := c5 _ _ _ _ (by decide) (by decide) hkb
 have hkb4 : Bz w4 (A + 1) #[.slice ka pre.length kc] 60 := st4 _ _ hkb5 (fun cur e => by cases e)
 obtain ⟨nv, hnv⟩ : ∃ nv, Value.slice (some ⟨gg, 0, none⟩) (pre.length + 1) cap = nv := ⟨_, rfl⟩
 obtain ⟨W', hW'⟩ : ∃ W', w4.setCell ⟨A + 1, 0, none⟩ nv = W' := ⟨_, rfl⟩
 have ot : ∀ b, b ≠ A + 1 → W'.heap[b]? = w4.heap[b]? := fun b hb => by rw [← hW']; exact heap_setCell_other _ _ _ _ (fun e => by simp only [] at e; omega)
 have stW : ∀ (b : Nat) (o : Obj), w5.heap[b]? = some o → (∀ cur, o ≠ .cells cur 2) → (∀ cur, o ≠ .cells cur 60) → W'.heap[b]? = some o := fun b o hb h1 h2 => (ot b (fun e => by
  subst e
  rw [hkb5] at hb
  exact h2 _ (Option.some.inj hb).symm)).trans (st4 b o hb h1)
 have bzW : ∀ (b : Nat) (cs : Array Value) (t : TypeId), t ≠ 88 → t ≠ 67 → t ≠ 2 → t ≠ 60 → Bz W b cs t → Bz W' b cs t := fun b cs t h1 h2 h3 h4 hb => stW b _ (c5 b cs t _ h1 h2 hb) (fun cur e => by cases e; exact h3 rfl) (fun cur e => by cases e; exact h4 rfl)
 have kst : ∀ y ∈ l3, ∀ z, y.ka = some z → ∀ cur, w5.heap[z.block]? = some (.cells cur 2) → W'.heap[z.block]? = some (.cells cur 2) := fun y hy z hz cur hc => (ot _ (fun e => by
  rw [e, hkb5] at hc
  cases hc)).trans ((hg4.block _ (lt_of_block hc) (fun e => by
  rcases hnw y hy with h9 | h9
  ·exact hkl y h9 z hz e.symm
  ·have := (hob _ e.symm).2.1
   have := h9 z hz
   omega)).trans hc)
 have bw : Below w1.heap.size w1 W' := by
  rw [← hW']
  have q1 : Below w1.heap.size w1 w5 := hb3.trans (hb5.mono hb3.size)
  exact (q1.grown hg4 q1.size (fun k e => by have := (hob k e).1; omega)).setCell (by simp only []; omega) _
 have hsz4 : w5.heap.size ≤ W'.heap.size := by rw [← hW']; simpa using hg4.size
 have hbl := HU.bl.size
 have har9 : Ar W' w1.heap.size s g v3 D3 l3 := by
  refine ⟨⟨har5.ts.row.move fun b hb => ?_, fun y hy => (har5.ts.wn y hy).kept fun k cur' hc' => ?_, fun y hy => ?_, har5.ts.wd, har5.ts.kd⟩, ?_, own_belowN har5.mp fun hg => ?_, har5.ak, har5.le⟩
  ·obtain ⟨c, hc⟩ := har5.ts.row.typed hb
   exact (stW _ _ hc (fun cur e => by cases e) (fun cur e => by cases e)).trans hc.symm
  ·exact (stW _ _ hc' (fun cur e => by cases e) (fun cur e => by cases e)).trans hc'.symm
  ·rcases har5.ts.kn y hy with ⟨k1, k2⟩ | ⟨g', cur', k1, k2, k3, k4⟩
   ·refine .inl ⟨k1, fun z e => ?_⟩
    obtain ⟨q1, q2, cur', q3⟩ := k2 z e
    exact ⟨q1, q2, cur', kst y hy z e _ q3⟩
   ·exact .inr ⟨g', cur', k1, k2, kst y hy _ k1 _ k3, k4⟩
  ·exact stW _ _ har5.box (fun cur e => by cases e) (fun cur e => by cases e)
  ·obtain ⟨es, ck, h9⟩ := own_isMapN har5.mp
   exact (stW _ _ h9 (fun cur e => by cases e) (fun cur e => by cases e)).trans h9.symm
 obtain ⟨sv, hxb⟩ := HU.xb
 have hxb9 := bzW _ _ _ (by decide) (by decide) (by decide) (by decide) hxb
 have hkbW : Bz W' (A + 1) #[nv] 60 := by
  have h9 := hkb4.set 0 nv
  rw [hW'] at h9
  exact h9
 rw [hnv] at ho4
 have hoW : OI W' (A + 3) nv (kdS ds xs (pre ++ [x])) := by
  rw [kdS_snoc ds xs pre x hi3]
  exact ho4.move fun b hb => ot b (fun e => by have := (ho4.lt hb).1; omega)
 have hlp : (pre ++ [x]).length = pre.length + 1 := by simp
 rw [hnv, hW']
 refine ⟨⟨by omega, fun k o hB hk ho => ?_⟩, ⟨⟨bw.os.trans HU.bl.os.symm, bw.tape.trans HU.bl.tape.symm, bw.output.trans HU.bl.output.symm, by omega, fun k hk => (bw.block k (by omega)).trans (HU.bl.block k (by omega)).symm⟩, hxb9.trans hxb.symm⟩, ⟨bzW _ _ _ (by decide) (by decide) (by decide) (by decide) HU.xd, bzW _ _ _ (by decide) (by decide) (by decide) (by decide) HU.xr, bzW _ _ _ (by decide) (by decide) (by decide) (by decide) HU.xa, ⟨sv, hxb9⟩, ⟨v3, D3, l3, some ⟨gg, 0, none⟩, cap, har9, hl3, by rw [hlp, hnv]; exact hkbW, by rw [hlp, hnv]; exact hoW, fun y hy p hp e => ?_⟩, bw, by omega⟩⟩
 ·have h3 := hk3.2.1 k o ho (by omega) hk
  have h5 := (hb5.block k (Array.getElem?_eq_some_iff.1 h3).1).trans h3
  exact stW k o h5 (fun cur e => by subst e; cases ho) (fun cur e => by subst e; cases ho)
 ·have e9 : gg = p.block := by simpa [Value.ownBlock] using e
  rcases hgg with h9 | h9
  ·rcases hnw y hy with h8 | h8
   ·exact hkl y h8 p hp (by rw [h9, e9])
   ·have := (hob _ h9).2.1
    have := h8 p hp
    omega
  ·have := (har5.ts.below y hy).2 p hp
   omega

end Go.Proofs.YtnpjgoklpaigjaaGreatDoor
