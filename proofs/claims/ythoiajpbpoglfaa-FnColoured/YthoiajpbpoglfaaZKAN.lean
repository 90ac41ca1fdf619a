/- Several texts in one. -/
import Derived.Test.YthoiajpbpoglfaaHTJ
import Derived.Test.YthoiajpbpoglfaaZKAI
import Derived.Test.YthoiajpbpoglfaaZKAM
import Derived.Test.YthoiajpbpoglfaaZKAL

/- The search, word by word; the words as a row. No program in sight. -/
namespace Go.Proofs.Ythoiajpbpoglfaa
set_option linter.unusedVariables false
set_option linter.unusedSimpArgs false
open Go.RowKit

/-- The words of n nodes as a row. -/
def lsOf (σ : Nat → Int) (n : Nat) : List Int := (List.range n).map σ
theorem lsOf_len (σ : Nat → Int) (n : Nat) : (lsOf σ n).length = n := by simp [lsOf]
theorem lsOf_get {σ : Nat → Int} {n i : Nat} (h : i < n) : (lsOf σ n).getD i 0 = σ i := by simp [lsOf, List.getD, h]
theorem lsOf_set {σ : Nat → Int} {n i : Nat} (y : Int) : (lsOf σ n).set i y = lsOf (upd σ i y) n := by
  refine List.ext_getElem (by simp [lsOf]) fun j h1 h2 => ?_
  simp only [lsOf, List.length_map, List.length_range, List.length_set] at h1 h2
  rw [List.getElem_set]
  simp only [lsOf, List.getElem_map, List.getElem_range, upd]
  by_cases e : i = j
  · subst e; simp
  · rw [if_neg e, if_neg (fun e2 => e e2.symm)]
theorem lsOf_none (n : Nat) : List.replicate n (-1 : Int) = lsOf (fun _ => -1) n := by
  refine List.ext_getElem (by simp [lsOf]) fun j h1 h2 => ?_
  simp [lsOf]
theorem lsOf_congr {σ τ : Nat → Int} {n : Nat} (h : ∀ i, i < n → σ i = τ i) : lsOf σ n = lsOf τ n := List.map_congr_left fun i hi => h i (List.mem_range.1 hi)

section
variable {rec : (Nat → Int) → Nat → Nat × (Nat → Int) × Nat} {v : Nat}
/-- Where the search stands behind words that have failed. -/
def stT (rec : (Nat → Int) → Nat → Nat × (Nat → Int) × Nat) (v : Nat) : List Int → (Nat → Int) → Nat → (Nat → Int) × Nat
  | [], σ, m => (σ, m)
  | x :: xs, σ, m => stT rec v xs (rec (upd σ v x) m).2.1 (rec (upd σ v x) m).2.2
/-- All of them have failed. -/
def noT (rec : (Nat → Int) → Nat → Nat × (Nat → Int) × Nat) (v : Nat) : List Int → (Nat → Int) → Nat → Prop
  | [], _, _ => True
  | x :: xs, σ, m => (rec (upd σ v x) m).1 = 2 ∧ noT rec v xs (rec (upd σ v x) m).2.1 (rec (upd σ v x) m).2.2
theorem stT_snoc : ∀ (l : List Int) (x : Int) (σ : Nat → Int) (m : Nat), stT rec v (l ++ [x]) σ m = ((rec (upd (stT rec v l σ m).1 v x) (stT rec v l σ m).2).2.1, (rec (upd (stT rec v l σ m).1 v x) (stT rec v l σ m).2).2.2)
  | [], x, σ, m => rfl
  | y :: l, x, σ, m => stT_snoc l x _ _
theorem noT_snoc : ∀ (l : List Int) (x : Int) (σ : Nat → Int) (m : Nat), noT rec v l σ m → (rec (upd (stT rec v l σ m).1 v x) (stT rec v l σ m).2).1 = 2 → noT rec v (l ++ [x]) σ m
  | [], x, σ, m, _, h => ⟨h, trivial⟩
  | y :: l, x, σ, m, h1, h2 => ⟨h1.1, noT_snoc l x _ _ h1.2 h2⟩
theorem tryF_done : ∀ (l : List Int) (σ : Nat → Int) (m : Nat), noT rec v l σ m → tryF rec v l σ m = (2, upd (stT rec v l σ m).1 v (-1), (stT rec v l σ m).2)
  | [], σ, m, _ => rfl
  | x :: l, σ, m, h => by
    unfold tryF
    rw [if_pos h.1]
    exact tryF_done l _ _ h.2
theorem tryF_stop : ∀ (l : List Int) (x : Int) (rest : List Int) (σ : Nat → Int) (m : Nat), noT rec v l σ m → (rec (upd (stT rec v l σ m).1 v x) (stT rec v l σ m).2).1 ≠ 2 → tryF rec v (l ++ x :: rest) σ m = rec (upd (stT rec v l σ m).1 v x) (stT rec v l σ m).2
  | [], x, rest, σ, m, _, h => by
    show tryF rec v (x :: rest) σ m = _
    unfold tryF
    rw [if_neg (show ¬ (rec (upd σ v x) m).1 = 2 from h)]
    rfl
  | y :: l, x, rest, σ, m, h1, h2 => by
    show tryF rec v (y :: (l ++ x :: rest)) σ m = _
    unfold tryF
    rw [if_pos h1.1]
    exact tryF_stop l x rest _ _ h1.2 h2
/-- The others' words are as they were behind words that have failed. -/
theorem stT_far (I : (Nat → Int) → Prop) (hI : ∀ σ x, I σ → I (upd σ v x)) (hr : ∀ σ m, I σ → (rec σ m).1 = 2 → (rec σ m).2.1 = σ) : ∀ (l : List Int) (σ : Nat → Int) (m : Nat), I σ → noT rec v l σ m → ∀ u, u ≠ v → (stT rec v l σ m).1 u = σ u
  | [], σ, m, _, _, u, _ => rfl
  | x :: l, σ, m, hi, h, u, hu => by
    have h1 := hr _ _ (hI σ x hi) h.1
    have h2 := h.2
    unfold stT
    rw [h1] at h2 ⊢
    rw [stT_far I hI hr l _ _ (hI σ x hi) h2 u hu, upd_ne _ _ hu]
end

/-- The free words of a node, of M words. -/
def fwN (M : Nat) (xs bd : List Int) (σ : Nat → Int) : List Int := ((List.range M).filter fun x => frW xs bd σ x).map fun (x : Nat) => (x : Int)
def vl {M : Nat} (l : List (Fin M)) : List Int := l.map fun (y : Fin M) => ((y.1 : Nat) : Int)
theorem frT_vl (M : Nat) (h : 0 < M) (xs bd : List Int) (σ : Nat → Int) : ∀ k, k ≤ M → vl (frT M h xs bd σ k) = ((List.range k).filter fun x => frW xs bd σ x).map fun (x : Nat) => (x : Int)
  | 0, _ => by simp [vl, frT, upTo]
  | k + 1, hk => by
    have h1 := frT_vl M h xs bd σ k (by omega)
    rw [frT_succ M h xs bd σ k (by omega), List.range_succ, List.filter_append, List.map_append, ← h1]
    by_cases e : frW xs bd σ k = true
    · rw [if_pos e]; simp [vl, e]
    · rw [if_neg e]; simp [vl, e]
theorem frT_all (M : Nat) (h : 0 < M) (xs bd : List Int) (σ : Nat → Int) : vl (frT M h xs bd σ M) = fwN M xs bd σ := frT_vl M h xs bd σ M (Nat.le_refl _)
/-- What has been told is the beginning of all. -/
theorem frT_pre (M : Nat) (h : 0 < M) (xs bd : List Int) (σ : Nat → Int) {k : Nat} (hk : k ≤ M) : ∃ rest, fwN M xs bd σ = vl (frT M h xs bd σ k) ++ rest := by
  rw [frT_vl M h xs bd σ k hk]
  obtain ⟨d, rfl⟩ : ∃ d, M = k + d := ⟨M - k, by omega⟩
  unfold fwN
  rw [List.range_add, List.filter_append, List.map_append]
  exact ⟨_, rfl⟩
/-- Only the others' words matter. -/
theorem frW_congr {xs bd : List Int} {σ τ : Nat → Int} (h : ∀ y ∈ xs, σ y.toNat = τ y.toNat) (x : Nat) : frW xs bd σ x = frW xs bd τ x := by
  unfold frW
  congr 1
  rw [Bool.eq_iff_iff, List.all_eq_true, List.all_eq_true]
  constructor
  · intro h1 y hy
    rw [← h y hy]
    exact h1 y hy
  · intro h1 y hy
    rw [h y hy]
    exact h1 y hy

end Go.Proofs.Ythoiajpbpoglfaa

/- visit: the search for words. -/
namespace Go.Proofs.Ythoiajpbpoglfaa
set_option linter.unusedVariables false
set_option linter.unusedSimpArgs false
open Go.RowKit Go.Shelf

/-- What a visit leaves: all blocks but the painter's and its words'. -/
def Stay (P0 g : Nat) (w w' : World) : Prop := ∀ (b : Nat) (o : Obj), w.heap[b]? = some o → b ≠ P0 → b ≠ g → w'.heap[b]? = some o
theorem Stay.trans {P0 g : Nat} {a b c : World} (h : Stay P0 g a b) (k : Stay P0 g b c) : Stay P0 g a c := fun x o h1 h2 h3 => k x o (h x o h1 h2 h3) h2 h3
theorem Stay.of {P0 g : Nat} {a b : World} (h : Below a.heap.size a b) : Stay P0 g a b := fun x o h1 _ _ => (h.block x (Array.getElem?_eq_some_iff.1 h1).1).trans h1

/-- How a visit ends: its code, the words, the visits. -/
def RetV (w0 w : World) (P0 H K : Nat) (va : Option Addr) (n vc : Nat) (nv : Value) (g cp : Nat) (nr : List Int) (most : Nat) (ov mv : Nat → Value) (cr : Nat → Int) (xo bd : Nat → List Int) (r : Nat × (Nat → Int) × Nat) (e : Ending) (w' : World) : Prop :=
  e = .returned (.int .i64 (r.1 : Int)) ∧ Pt w0 w' P0 H K va n vc nv (.slice (some ⟨g, 0, none⟩) n cp) nr (lsOf r.2.1 n) (r.2.2 : Int) (most : Int) ov mv cr xo bd ∧ Stay P0 g w w'

theorem RetV.of {w0 w w' : World} {P0 H K n vc g cp c : Nat} {va : Option Addr} {nv : Value} {nr : List Int} {σ : Nat → Int} {vis most : Nat} {ov mv : Nat → Value} {cr : Nat → Int} {xo bd : Nat → List Int}
    (h : Pt w0 w P0 H K va n vc nv (.slice (some ⟨g, 0, none⟩) n cp) nr (lsOf σ n) (vis : Int) (most : Int) ov mv cr xo bd) (hb : Below w.heap.size w w') : RetV w0 w P0 H K va n vc nv g cp nr most ov mv cr xo bd (c, σ, vis) (.returned (.int .i64 (c : Int))) w' :=
  ⟨rfl, h.later hb, Stay.of hb⟩

set_option maxHeartbeats 2000000 in
set_option maxRecDepth 100000 in
/-- No node is left. -/
theorem visit_end {w0 w : World} {P0 H K n vc g cp m nc : Nat} {va na : Option Addr} {nr : List Int} {σ : Nat → Int} {vis most : Nat} {ov mv : Nat → Value} {cr : Nat → Int} {xo bd : Nat → List Int} (hm : m ≤ 1048576)
    (h : Pt w0 w P0 H K va n vc (.slice na m nc) (.slice (some ⟨g, 0, none⟩) n cp) nr (lsOf σ n) (vis : Int) (most : Int) ov mv cr xo bd) :
    Calls Try.prog 35 #[.pointer (some ⟨P0, 0, none⟩), .int .i64 (m : Int)] w (RetV w0 w P0 H K va n vc (.slice na m nc) g cp nr most ov mv cr xo bd (0, σ, vis)) := by
  have p2 := h.px.cell 2
  simp at p2
  have lp := h.px.lt
  have HP := kide h
  clear h
  have lp1 : P0 < w.heap.size + 1 := by omega
  have lp2 : P0 < w.heap.size + 1 + 1 := by omega
  have lp3 : P0 < w.heap.size + 1 + 1 + 1 := by omega
  have hb : Below w.heap.size w (((w.alloc (.cells #[.pointer (some ⟨P0, 0, none⟩)] 64)).alloc (.cells #[.int .i64 (m : Int)] 3)).alloc (.cells #[.int .i64 0] 2)) := ((((Below.refl _ _).alloc (Nat.le_refl _) _).alloc (by simp) _).alloc (by simp; omega) _)
  have HB := kide hb
  clear hb
  go_enter Try.func35, Try.ntmps35
  go_wp2_with fail
  go_quiet (fail)
  go_wp2_with fail
  refine bodyPost_ret (v := .int .i64 0) (by simp [results, Try.results35, go_sem]) rfl ?_
  refine RetV.of (c := 0) HP.out ?_
  first | exact below_drewN HB.out _ | exact (below_drewN HB.out _).setCell (by simp; try omega) _

set_option maxHeartbeats 2000000 in
set_option maxRecDepth 100000 in
/-- Too many visits. -/
theorem visit_many {w0 w : World} {P0 H K n vc g cp m nc k : Nat} {va na : Option Addr} {nr : List Int} {σ : Nat → Int} {vis : Nat} {ov mv : Nat → Value} {cr : Nat → Int} {xo bd : Nat → List Int} (hm : m ≤ 1048576) (hk : k < m) (hvm : vis ≤ 20000)
    (h : Pt w0 w P0 H K va n vc (.slice na m nc) (.slice (some ⟨g, 0, none⟩) n cp) nr (lsOf σ n) (vis : Int) (vis : Int) ov mv cr xo bd) :
    Calls Try.prog 35 #[.pointer (some ⟨P0, 0, none⟩), .int .i64 (k : Int)] w (RetV w0 w P0 H K va n vc (.slice na m nc) g cp nr vis ov mv cr xo bd (3, σ, vis)) := by
  have p2 := h.px.cell 2
  have p4 := h.px.cell 4
  have p5 := h.px.cell 5
  simp at p2 p4 p5
  have lp := h.px.lt
  have HP := kide h
  clear h
  have lp1 : P0 < w.heap.size + 1 := by omega
  have lp2 : P0 < w.heap.size + 1 + 1 := by omega
  have lp3 : P0 < w.heap.size + 1 + 1 + 1 := by omega
  have hkm : ((k : Int) == (m : Int)) = false := by simp; omega
  have hb : Below w.heap.size w (((w.alloc (.cells #[.pointer (some ⟨P0, 0, none⟩)] 64)).alloc (.cells #[.int .i64 (k : Int)] 3)).alloc (.cells #[.int .i64 0] 2)) := ((((Below.refl _ _).alloc (Nat.le_refl _) _).alloc (by simp) _).alloc (by simp; omega) _)
  have HB := kide hb
  clear hb
  go_enter Try.func35, Try.ntmps35
  go_wp2_with fail
  go_quiet (fail)
  go_wp2_with fail
  go_quiet (fail)
  go_wp2_with fail
  refine bodyPost_ret (v := .int .i64 3) (by simp [results, Try.results35, go_sem]) rfl ?_
  refine RetV.of (c := 3) HP.out ?_
  first | exact below_drewN HB.out _ | exact (below_drewN HB.out _).setCell (by simp; try omega) _

end Go.Proofs.Ythoiajpbpoglfaa

/- A painter between two rounds: what marks of iterators leave; what a round must leave. -/
namespace Go.Proofs.Ythoiajpbpoglfaa
set_option linter.unusedVariables false
set_option linter.unusedSimpArgs false
open Go.RowKit Go.WideMaps Go.Maps Go.MapKept Go.ChangeMaps

section
variable {w0 u v : World} {P0 H K n vc : Nat} {va : Option Addr} {nv wv : Value} {nr ls : List Int} {vis most : Int} {ov mv : Nat → Value} {cr : Nat → Int} {xo bd : Nat → List Int}
/-- What is no cells has turned, behind the painter. -/
theorem Pt.own {row : Option Nat} (h : Pt w0 u P0 H K va n vc nv wv nr ls vis most ov mv cr xo bd) (hg : u.grownBy v row) (hr : ∀ r, row = some r → P0 < r ∧ ∃ o : Obj, u.heap[r]? = some o ∧ o.isCells = false) : Pt w0 v P0 H K va n vc nv wv nr ls vis most ov mv cr xo bd := by
  have key : ∀ b cur (t : TypeId) fr, u.heap[b]? = some (.cells cur t fr) → some b ≠ row := fun b cur t fr hh e => by
    obtain ⟨-, o, h1, h2⟩ := hr b e.symm
    rw [hh] at h1
    cases h1
    cases h2
  have mv : ∀ {y : Value} {ys : List Int}, OI u P0 y ys → OI v P0 y ys := fun hy => hy.move fun b hb => by
    obtain ⟨cur, hh⟩ := hy.typedG hb
    exact hg.block b (lt_of_block hh) (key _ _ _ _ hh)
  have hw0 : w0.heap.size ≤ P0 := Nat.le_trans h.lo (Nat.le_of_lt h.hP)
  exact ⟨bz_grown h.px hg (key _ _ _ _ h.px), h.ht.low (P := P0) (fun k hk hl => hg.block k hl (fun e => by have := (hr k e.symm).1; omega)) h.hP h.zo h.zm, h.hP, mv h.row, mv h.nar, h.dj, h.zo, h.zm, h.bel.grown hg h.bel.size (fun k e => by have := (hr k e).1; omega), h.lo⟩

/-- The others of a node can be read. -/
theorem Pt.others (h : Pt w0 u P0 H K va n vc nv wv nr ls vis most ov mv cr xo bd) {i : Nat} (hi : i < n) (hK : K ≤ 1048576) (hx : ∀ y ∈ xo i, in64 y) : ∃ oa oc, ov i = .slice oa (xo i).length oc ∧ RdI u oa (xo i) ∧ ∀ xb xq sp, oa = some ⟨xb, xq, sp⟩ → xb < P0 := by
  have ho : OI u H (ov i) (xo i) := by
    have h1 := (h.ht.ot i hi).1
    unfold OI
    rw [List.length_map] at h1
    have e : (i64s (xo i)).toList = (xo i).map (Value.int .i64) := by simp [i64s]
    rw [e]
    exact h1
  obtain ⟨oa, oc, e, hr⟩ := ho.rd (Nat.le_trans (h.ht.ot i hi).2 hK) hx
  refine ⟨oa, oc, e, hr, fun xb xq sp e2 => ?_⟩
  have hz := h.zo i hi
  rw [e, e2] at hz
  exact hz xb (by
    rw [e2] at e
    rcases ho.2 with ⟨e3, -⟩ | ⟨g, cap, cur, e3, -⟩
    · rw [e] at e3; simp at e3
    · rw [e] at e3
      injection e3 with e4
      injection e4 with e5
      injection e5 with e6 e7 e8
      subst e7
      subst e8
      rfl)

/-- The map of a node can be asked, as long as what lies below the painter stays. -/
theorem Pt.look {g q : Nat} (h : Pt w0 u P0 H K va n vc nv wv nr ls vis most ov mv cr xo bd) {i : Nat} (hi : i < n) (hgP : P0 ≤ g) : ∃ mr, mv i = .map mr ∧ ∀ z, KpF P0 g q P0 n u z → ∀ k : Nat, k < 1024 → (Instr.lookup 81 (.map mr) (.int .i64 (k : Int)) true).run Try.prog z = .ok (.tuple #[.agg #[], .bool (decide ((k : Int) ∈ bd i))]) z := by
  rcases h.ht.mt i hi with ⟨e, e2⟩ | ⟨g', m, D, e, ho, hm, hB, hs⟩
  · exact ⟨none, e, fun z _ k hk => look_told (.inl ⟨rfl, e2⟩) k hk⟩
  · have hg' := h.zm i hi g' e
    refine ⟨some g', e, fun z hz k hk => look_told (.inr ⟨g', m, D, rfl, own_below ho (fun hl => ?_), hs⟩) k hk⟩
    obtain ⟨es, ck, hc⟩ := own_isMap ho
    rw [hz.blk g' _ hc (by omega) (by omega) (.inr hg'), hc]
end

/-- What a round must leave is left where the visits behind it leave what they must. -/
theorem KpF.round {w0 u v : World} {P0 H K n vc g cp q : Nat} {va : Option Addr} {nv : Value} {nr : List Int} {σ τ : Nat → Int} {a b most : Int} {ov mv : Nat → Value} {cr : Nat → Int} {xo bd : Nat → List Int}
    (h : Pt w0 u P0 H K va n vc nv (.slice (some ⟨g, 0, none⟩) n cp) nr (lsOf σ n) a most ov mv cr xo bd) (h' : Pt w0 v P0 H K va n vc nv (.slice (some ⟨g, 0, none⟩) n cp) nr (lsOf τ n) b most ov mv cr xo bd)
    (hs : Stay P0 g u v) (hσ : ∀ j, j ≠ q → σ j = τ j) : KpF P0 g q P0 n u v where
  blk := fun b o h1 h2 h3 _ => hs b o h1 h2 h3
  px := fun j hj x hx => by
    rw [h.px.cell j] at hx
    rw [h'.px.cell j]
    match j, hj with
    | 0, _ => exact hx
    | 1, _ => exact hx
    | 2, _ => exact hx
    | 3, _ => exact hx
    | 5, _ => exact hx
    | k + 6, _ => simp at hx
  ws := fun j e hj x hx => by
    rw [h.row.cellO (by rw [lsOf_len]; exact e), lsOf_get e] at hx
    rw [h'.row.cellO (by rw [lsOf_len]; exact e), lsOf_get e, ← hσ j hj]
    exact hx

end Go.Proofs.Ythoiajpbpoglfaa

/- visit between two rounds. -/
namespace Go.Proofs.Ythoiajpbpoglfaa
set_option linter.unusedVariables false
set_option linter.unusedSimpArgs false
open Go.RowKit Go.Shelf

/-- What lies between two rounds of a visit that began in w: A the boxes of its parameters and its answer, Nb the node's. -/
structure Vs (w0 w : World) (P0 H K : Nat) (va : Option Addr) (n vc : Nat) (nv : Value) (g cp : Nat) (nr : List Int) (most : Nat) (ov mv : Nat → Value) (cr : Nat → Int) (xo bd : Nat → List Int) (A Nb k v : Nat) (res : Value) (τ : Nat → Int) (q : Nat) (W : World) : Prop where
  pt : Pt w0 W P0 H K va n vc nv (.slice (some ⟨g, 0, none⟩) n cp) nr (lsOf τ n) (q : Int) (most : Int) ov mv cr xo bd
  st : Stay P0 g w W
  ba : Bz W A #[.pointer (some ⟨P0, 0, none⟩)] 64
  bb : Bz W (A + 1) #[.int .i64 (k : Int)] 3
  bc : Bz W (A + 1 + 1) #[res] 2
  bn : Bz W Nb #[.int .i64 (v : Int)] 2

/-- A mark of an iterator is put. -/
theorem KpF.put {P0 g q n : Nat} {W : World} {l : Nat} {o o' : Obj} (ho : W.heap[l]? = some o) (hc : o.isCells = false) (hl : P0 < l) : KpF P0 g q P0 n W (W.putObj l o') := by
  have kc : ∀ {b j : Nat} {x : Value}, W.cell? ⟨b, j, none⟩ = some x → (W.putObj l o').cell? ⟨b, j, none⟩ = some x := fun {b j x} hx => by
    have hx' := hx
    unfold World.cell? at hx ⊢
    split at hx
    · rename_i cs t fr he
      rw [World.putObj_heap_other (fun e => ?_), he]
      · exact hx
      · simp only [] at e he
        subst e
        rw [he] at ho
        cases ho
        cases hc
    · cases hx
  refine ⟨fun b o1 h1 h2 h3 h4 => ?_, fun j _ x hx => kc hx, fun j _ _ x hx => kc hx⟩
  rw [World.putObj_heap_other (fun e => ?_)]
  · exact h1
  · subst e
    rw [ho] at h1
    cases h1
    rcases h4 with h4 | h4
    · rw [hc] at h4; cases h4
    · omega

section
variable {w0 w W W' : World} {P0 H K n vc g cp A Nb k v q : Nat} {va : Option Addr} {nv res : Value} {nr : List Int} {most : Nat} {ov mv : Nat → Value} {cr : Nat → Int} {xo bd : Nat → List Int} {τ : Nat → Int}

theorem Vs.later (h : Vs w0 w P0 H K va n vc nv g cp nr most ov mv cr xo bd A Nb k v res τ q W) (hb : Below W.heap.size W W') : Vs w0 w P0 H K va n vc nv g cp nr most ov mv cr xo bd A Nb k v res τ q W' :=
  ⟨h.pt.later hb, h.st.trans (Stay.of hb), h.ba.later hb, h.bb.later hb, h.bc.later hb, h.bn.later hb⟩

/-- Marks of iterators come and go. -/
theorem Vs.own (h : Vs w0 w P0 H K va n vc nv g cp nr most ov mv cr xo bd A Nb k v res τ q W) {row : Option Nat} {Z : Nat} (hg : W.grownBy W' row) (hr : ∀ r, row = some r → Z ≤ r ∧ ∃ o : Obj, W.heap[r]? = some o ∧ o.isCells = false) (hZ : w.heap.size ≤ Z) (hP : P0 < Z) : Vs w0 w P0 H K va n vc nv g cp nr most ov mv cr xo bd A Nb k v res τ q W' := by
  have bz : ∀ {b : Nat} {cs : Array Value} {t : TypeId}, Bz W b cs t → Bz W' b cs t := fun hb => bz_ownA hb hg (fun r e => (hr r e).2)
  refine ⟨h.pt.own hg (fun r e => ⟨by have := (hr r e).1; omega, (hr r e).2⟩), fun b o h1 h2 h3 => ?_, bz h.ba, bz h.bb, bz h.bc, bz h.bn⟩
  have h4 := h.st b o h1 h2 h3
  rw [hg.block b (Array.getElem?_eq_some_iff.1 h4).1 (fun e => ?_)]
  · exact h4
  · have h5 := (hr b e.symm).1
    have h6 := (Array.getElem?_eq_some_iff.1 h1).1
    omega

/-- The node gets a word. -/
theorem Vs.put (h : Vs w0 w P0 H K va n vc nv g cp nr most ov mv cr xo bd A Nb k v res τ q W) {i : Nat} (hi : i < n) (y : Int) (hne : A ≠ g ∧ A + 1 ≠ g ∧ A + 1 + 1 ≠ g ∧ Nb ≠ g) : Vs w0 w P0 H K va n vc nv g cp nr most ov mv cr xo bd A Nb k v res (upd τ i y) q (W.setCell ⟨g, i, none⟩ (.int .i64 y)) := by
  have h1 := h.pt.put (i := i) (by rw [lsOf_len]; exact hi) y
  rw [lsOf_set] at h1
  refine ⟨h1, fun b o h2 h3 h4 => ?_, h.ba.other hne.1 _ _, h.bb.other hne.2.1 _ _, h.bc.other hne.2.2.1 _ _, h.bn.other hne.2.2.2 _ _⟩
  rw [heap_setCell_other _ _ _ _ (fun e => h4 (by simpa using e))]
  exact h.st b o h2 h3 h4

/-- A visit behind it has come back. -/
theorem Vs.back (h : Vs w0 w P0 H K va n vc nv g cp nr most ov mv cr xo bd A Nb k v res τ q W) {r : Nat × (Nat → Int) × Nat} {e : Ending} (hr : RetV w0 W P0 H K va n vc nv g cp nr most ov mv cr xo bd r e W') (hne : A ≠ g ∧ A + 1 ≠ g ∧ A + 1 + 1 ≠ g ∧ Nb ≠ g) (hnP : A ≠ P0 ∧ A + 1 ≠ P0 ∧ A + 1 + 1 ≠ P0 ∧ Nb ≠ P0) : Vs w0 w P0 H K va n vc nv g cp nr most ov mv cr xo bd A Nb k v res r.2.1 r.2.2 W' :=
  ⟨hr.2.1, h.st.trans hr.2.2, hr.2.2 _ _ h.ba hnP.1 hne.1, hr.2.2 _ _ h.bb hnP.2.1 hne.2.1, hr.2.2 _ _ h.bc hnP.2.2.1 hne.2.2.1, hr.2.2 _ _ h.bn hnP.2.2.2 hne.2.2.2⟩

/-- The answer is written. -/
theorem Vs.told (h : Vs w0 w P0 H K va n vc nv g cp nr most ov mv cr xo bd A Nb k v res τ q W) (hA : w.heap.size ≤ A) (hP : P0 < w.heap.size) (hNb : Nb ≠ A + 1 + 1) (hg : g ≠ A + 1 + 1) (x : Value) (hnv : ∀ b, nv.ownBlock = some b → b ≠ A + 1 + 1) (hw0 : w0.heap.size ≤ w.heap.size) : Vs w0 w P0 H K va n vc nv g cp nr most ov mv cr xo bd A Nb k v x τ q (W.setCell ⟨A + 1 + 1, 0, none⟩ x) := by
  have hg' := gsc W ⟨A + 1 + 1, 0, none⟩ x
  have other : ∀ {b : Nat}, b ≠ A + 1 + 1 → (W.setCell ⟨A + 1 + 1, 0, none⟩ x).heap[b]? = W.heap[b]? := fun {b} hb => heap_setCell_other _ _ _ _ (fun e => hb (by simpa using e))
  refine ⟨⟨(other (by omega)).trans h.pt.px, h.pt.ht.low (P := P0) (fun j hj _ => other (by omega)) h.pt.hP h.pt.zo h.pt.zm, h.pt.hP, h.pt.row.move fun b hb => other (by cases hb; exact hg), h.pt.nar.move fun b hb => other (hnv b hb), h.pt.dj, h.pt.zo, h.pt.zm, h.pt.bel.setCell (show w0.heap.size ≤ A + 1 + 1 by omega) _, h.pt.lo⟩, fun b o h1 h2 h3 => ?_, (other (by omega)).trans h.ba, (other (by omega)).trans h.bb, h.bc.set 0 x, (other hNb).trans h.bn⟩
  have h6 := (Array.getElem?_eq_some_iff.1 h1).1
  rw [other (by omega)]
  exact h.st b o h1 h2 h3
end

end Go.Proofs.Ythoiajpbpoglfaa
