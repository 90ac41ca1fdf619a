/- Several texts in one. -/
import Derived.Test.YtkkboaiablfdbaaGreatDoorTSI
import Derived.Test.YtkkboaiablfdbaaGreatDoorQK
import Derived.Test.YtkkboaiablfdbaaGreatDoorTSA0

/- What a table keeps while nodes are put into it. -/
namespace Go.Proofs.YtkkboaiablfdbaaGreatDoor
set_option linter.unusedVariables false
set_option linter.unusedSimpArgs false
open Go.RowKit Go.WideMaps Go.Maps Go.MapKept Go.ChangeMaps

theorem Ni.fr {u u' : World} {lo B s g : Nat} {v : Value} {D : DataW Unit} {l : List Tg} {a : Option Addr} {xs : List Int} (h : Ni u lo a xs) (ha : Ar u B s g v D l) (hf : FrA s g v u u') : Ni u' lo a xs :=
  h.kept fun k cur hc => hf.2.2.2.2 k (lt_of_block hc) (fun e => by
      subst e
      have h9 := ha.box
      unfold Bz at h9
      rw [hc] at h9
      cases h9) (fun e => by
      subst e
      obtain ⟨es, ck, h9⟩ := own_isMapN ha.mp
      rw [hc] at h9
      cases h9) (fun e => by
      obtain ⟨cur', h9⟩ := ha.ts.row.typed e
      rw [hc] at h9
      cases h9)
theorem Bz.fr {u u' : World} {B s g b : Nat} {v : Value} {D : DataW Unit} {l : List Tg} {cs : Array Value} {t : TypeId} (h : Bz u b cs t) (ht : t ≠ 68) (ha : Ar u B s g v D l) (hv : v.ownBlock ≠ some b) (hf : FrA s g v u u') : Bz u' b cs t :=
  (hf.2.2.2.2 b h.lt (fun e => by
      subst e
      have h9 := ha.box
      unfold Bz at h9 h
      rw [h] at h9
      cases h9
      exact ht rfl) (fun e => by
      subst e
      obtain ⟨es, ck, h9⟩ := own_isMapN ha.mp
      unfold Bz at h
      rw [h] at h9
      cases h9) hv).trans h
theorem Below.fr {w0 u u' : World} {B s g : Nat} {v : Value} {D : DataW Unit} {l : List Tg} (h : Below B w0 u) (hB : B ≤ u.heap.size) (ha : Ar u B s g v D l) (hf : FrA s g v u u') : Below B w0 u' :=
  ⟨hf.1.trans h.os, hf.2.1.trans h.tape, hf.2.2.1.trans h.output, Nat.le_trans h.size hf.2.2.2.1, fun k hk => (hf.2.2.2.2 k (by omega) (fun e => by have := ha.le; omega) (fun e => by have := ha.le; omega) (fun e => by have := (ha.ts.row.lt e).1; omega)).trans (h.block k hk)⟩
theorem Ar.out {u : World} {B s g gp lo j : Nat} {v x : Value} {D : DataW Unit} {l : List Tg} {xs : List Int} (h : Ar u B s g v D l) (hp : Ni u lo (some ⟨gp, 0, none⟩) xs) (hx : xs ≠ []) (hk : ∀ y ∈ l, ∀ p, y.ka = some p → gp < p.block) : Ar (u.setCell ⟨gp, j, none⟩ x) B s g v D l := by
  rcases hp with ⟨h1, -⟩ | ⟨gp', cur, e, -, hc, -⟩
  · exact absurd h1 hx
  cases e
  have ot : ∀ (k : Nat) (cs : Array Value) (t : TypeId) (fz : Nat × Nat), t ≠ 2 → u.heap[k]? = some (.cells cs t fz) → (u.setCell ⟨gp, j, none⟩ x).heap[k]? = u.heap[k]? := fun k cs t fz ht hkk => heap_setCell_other _ _ _ _ (fun e => by
    simp only [] at e
    subst e
    rw [hc] at hkk
    cases hkk
    exact ht rfl)
  refine ⟨⟨h.ts.row.move fun b hb => ?_, fun y hy => (h.ts.wn y hy).kept fun k cur' hc' => ot k _ _ _ (by decide) hc', fun y hy => ?_, h.ts.wd, h.ts.kd⟩, ?_, own_belowN h.mp fun hg => ?_, h.ak, h.le⟩
  · obtain ⟨c, hc'⟩ := h.ts.row.typed hb
    exact ot _ _ _ _ (by decide) hc'
  · rcases h.ts.kn y hy with ⟨k1, k2⟩ | ⟨g', cur', k1, k2, k3, k4⟩
    · refine .inl ⟨k1, fun z e => ?_⟩
      obtain ⟨q1, q2, cur', q3⟩ := k2 z e
      exact ⟨q1, q2, cur', (heap_setCell_other _ _ _ _ (fun e' => by have := hk y hy z e; simp only [] at e'; omega)).trans q3⟩
    · exact .inr ⟨g', cur', k1, k2, (heap_setCell_other _ _ _ _ (fun e' => by have := hk y hy _ k1; simp only [] at e' this; omega)).trans k3, k4⟩
  · exact (ot _ _ _ _ (by decide) h.box).trans h.box
  · refine heap_setCell_other _ _ _ _ (fun e => ?_)
    simp only [] at e
    subst e
    obtain ⟨es, ck, h9⟩ := own_isMapN h.mp
    rw [hc] at h9
    cases h9

theorem mvT_rep {to : List Int} {m k : Nat} {n : Tc} (hl : to.length = k) (hk : ∀ j ∈ n.ks, 0 ≤ j ∧ j < (k : Int)) : (⟨n.op, n.vr, n.a, n.b, n.bw, n.ws, n.ks.map fun j => (to ++ List.replicate m 0).getD j.toNat 0⟩ : Tc) = mvT to n := by
  unfold mvT
  congr 1
  refine List.map_congr_left fun j hj => ?_
  have := hk j hj
  simp only [List.getD_eq_getElem?_getD]
  rw [List.getElem?_append_left (by omega)]
theorem put_rep {to : List Int} {m : Nat} {y : Int} : (to ++ List.replicate (m + 1) 0).set to.length y = (to ++ [y]) ++ List.replicate m 0 := by
  rw [List.set_append_right _ _ (Nat.le_refl _)]
  simp [List.replicate_succ]

end Go.Proofs.YtkkboaiablfdbaaGreatDoor

/- How many leaves the tree of a term has: plain facts. No program in sight. -/
namespace Go.Proofs.YtkkboaiablfdbaaGreatDoor
set_option linter.unusedVariables false
set_option linter.unusedSimpArgs false
open Go.RowKit

theorem getD_left {α : Type} (l m : List α) (i : Nat) (d : α) (h : i < l.length) : (l ++ m).getD i d = l.getD i d := by simp [List.getD, List.getElem?_append, h]
theorem getD_right {α : Type} (l m : List α) (i : Nat) (d : α) (h : l.length ≤ i) : (l ++ m).getD i d = m.getD (i - l.length) d := by simp [List.getD, List.getElem?_append, Nat.not_lt.2 h]

/-- What Kids have together. -/
def sK (ls : List Int) (ks : List Int) : Int := (ks.map fun k => ls.getD k.toNat 0).sum

/-- The leaves of a node by those of the nodes ahead of it. -/
def lvN (ls : List Int) (ks : List Int) : Int := min 1000000 ((if ks.length = 0 then 1 else 0) + sK ls ks)

def lvsR (ns : List Tc) : List Int := ns.foldl (fun ls n => ls ++ [lvN ls n.ks]) []

def leavesR (ds : List Dc) (ns : List Tc) : Int := if (widthsR ds ns).length = 0 then -1 else (lvsR ns).getD (ns.length - 1) 0

theorem lvs_take {ns : List Tc} {k : Nat} {n : Tc} (h : ns[k]? = some n) : lvsR (ns.take (k + 1)) = lvsR (ns.take k) ++ [lvN (lvsR (ns.take k)) n.ks] := by
  unfold lvsR
  rw [List.take_add_one, h, List.foldl_append]
  simp

theorem fold_len (ns : List Tc) : ∀ ls : List Int, (ns.foldl (fun ls n => ls ++ [lvN ls n.ks]) ls).length = ls.length + ns.length := by
  induction ns with
  | nil => simp
  | cons n t ih => intro ls; rw [List.foldl_cons, ih]; simp; omega

theorem lvs_len (ns : List Tc) : (lvsR ns).length = ns.length := by
  have := fold_len ns []
  simpa [lvsR] using this

theorem getD_range {ls : List Int} (h : ∀ x ∈ ls, 0 ≤ x ∧ x ≤ 1000000) (i : Nat) : 0 ≤ ls.getD i 0 ∧ ls.getD i 0 ≤ 1000000 := by
  by_cases hi : i < ls.length
  · have e : ls.getD i 0 = ls[i] := by simp [List.getD, hi]
    rw [e]; exact h _ (List.getElem_mem hi)
  · have e : ls.getD i 0 = 0 := by simp [List.getD, hi]
    omega

theorem sK_range {ls : List Int} (h : ∀ x ∈ ls, 0 ≤ x ∧ x ≤ 1000000) (ks : List Int) : 0 ≤ sK ls ks ∧ sK ls ks ≤ 1000000 * (ks.length : Int) := by
  induction ks with
  | nil => simp [sK]
  | cons k t ih =>
    have := getD_range h k.toNat
    simp only [sK, List.map_cons, List.sum_cons, List.length_cons] at ih ⊢
    omega

theorem lvN_range {ls : List Int} (h : ∀ x ∈ ls, 0 ≤ x ∧ x ≤ 1000000) (ks : List Int) : 0 ≤ lvN ls ks ∧ lvN ls ks ≤ 1000000 := by
  have := sK_range h ks
  unfold lvN
  split <;> omega

theorem fold_range (ns : List Tc) : ∀ ls : List Int, (∀ x ∈ ls, 0 ≤ x ∧ x ≤ 1000000) → ∀ x ∈ ns.foldl (fun ls n => ls ++ [lvN ls n.ks]) ls, 0 ≤ x ∧ x ≤ 1000000 := by
  induction ns with
  | nil => intro ls h; simpa using h
  | cons n t ih =>
    intro ls h
    rw [List.foldl_cons]
    refine ih _ (fun x hx => ?_)
    rcases List.mem_append.1 hx with hx | hx
    · exact h x hx
    · rw [List.mem_singleton.1 hx]; exact lvN_range h _

theorem lvs_range (ns : List Tc) : ∀ x ∈ lvsR ns, 0 ≤ x ∧ x ≤ 1000000 := fold_range ns [] (by simp)

theorem sK_take {ls ks : List Int} {i : Nat} {k : Int} (h : ks[i]? = some k) : sK ls (ks.take (i + 1)) = sK ls (ks.take i) + ls.getD k.toNat 0 := by
  unfold sK
  rw [List.take_add_one, h]
  simp

theorem goR_kids {ds : List Dc} : ∀ (ns : List Tc) (wide r : List Int), goR ds wide ns = some r → ∀ (k : Nat) (n : Tc), ns[k]? = some n → kidsR (wide.length + k) n.ks = true
  | [], _, _, _ => by simp
  | m :: t, wide, r, h => by
    rw [goR] at h
    cases hst : stepR ds wide m with
    | none => rw [hst] at h; cases h
    | some v =>
      rw [hst] at h
      intro k n hk
      cases k with
      | zero =>
        simp at hk
        subst hk
        have := stepR_kids hst
        simp only [Bool.and_eq_true] at this
        exact this.1.1
      | succ k =>
        have := goR_kids t _ r h k n (by simpa using hk)
        rw [show wide.length + (k + 1) = (wide ++ [v]).length + k by simp; omega]
        exact this

/-- In a right term Kids are ahead. -/
theorem right_kids {ds : List Dc} {ns : List Tc} (h : ¬ (widthsR ds ns).length = 0) : 1 ≤ ns.length ∧ ns.length ≤ 400 ∧ (widthsR ds ns).length = ns.length ∧ ∀ (k : Nat) (n : Tc), ns[k]? = some n → ∀ j ∈ n.ks, 0 ≤ j ∧ j < (k : Int) := by
  unfold widthsR at h ⊢
  split at h
  · rename_i hc
    simp only [Bool.and_eq_true, decide_eq_true_eq] at hc
    rw [if_pos (by simp [hc])]
    cases hg : goR ds [] ns with
    | none => rw [hg] at h; simp at h
    | some wide =>
      rw [hg] at h
      simp only [] at h ⊢
      split at h
      · rename_i hu
        rw [if_pos hu]
        refine ⟨hc.1.2, hc.2, by simpa using (goR_len hg).1, fun k n hk j hj => ?_⟩
        have := goR_kids ns [] wide hg k n hk
        simp only [List.length_nil, Nat.zero_add] at this
        unfold kidsR at this
        rw [List.all_eq_true] at this
        have := this j hj
        simp only [decide_eq_true_eq] at this
        omega
      · simp at h
  · simp at h

end Go.Proofs.YtkkboaiablfdbaaGreatDoor

/- What a table keeps while a term is put into it. -/
namespace Go.Proofs.YtkkboaiablfdbaaGreatDoor
set_option linter.unusedVariables false
set_option linter.unusedSimpArgs false
open Go.RowKit Go.WideMaps Go.Maps Go.MapKept Go.ChangeMaps

theorem goR_node {ds : List Dc} : ∀ (ns : List Tc) (wide r : List Int), goR ds wide ns = some r → ∀ n ∈ ns, fieldR n = true ∧ manyR ds.length n = true
  | [], _, _, _ => by simp
  | m :: t, wide, r, h => by
    rw [goR] at h
    cases hst : stepR ds wide m with
    | none => rw [hst] at h; cases h
    | some v =>
      rw [hst] at h
      intro n hn
      rcases List.mem_cons.1 hn with rfl | hn
      · have := stepR_kids hst
        simp only [Bool.and_eq_true] at this
        exact ⟨this.1.2, this.2⟩
      · exact goR_node t _ r h n hn
theorem right_node {ds : List Dc} {ns : List Tc} (h : ¬ (widthsR ds ns).length = 0) : ∀ n ∈ ns, fieldR n = true ∧ manyR ds.length n = true := by
  unfold widthsR at h
  split at h
  · cases hg : goR ds [] ns with
    | none => rw [hg] at h; simp at h
    | some wide => exact goR_node ns [] wide hg
  · simp at h
theorem node_okV {nd : Nat} {n : Tc} (h1 : fieldR n = true) (h2 : manyR nd n = true) (h3 : okT n) : okV n.bw n.ws := by
  refine ⟨?_, h3.2.2.2.2.2.2.1⟩
  by_cases e : n.op = 2
  · left
    unfold manyR at h2
    rw [if_neg (by omega), if_pos e] at h2
    simp only [Bool.and_eq_true] at h2
    exact h2.2
  · right
    unfold fieldR at h1
    simp [e] at h1
    obtain ⟨⟨⟨-, h4, h5⟩, -⟩, -⟩ := h1
    exact ⟨h4, h5⟩
theorem node_vr {nd : Nat} {n : Tc} (h2 : manyR nd n = true) (e : n.op = 1) : ¬ n.vr = -1 := by
  unfold manyR at h2
  rw [if_pos e] at h2
  simp only [Bool.and_eq_true, decide_eq_true_eq] at h2
  omega

end Go.Proofs.YtkkboaiablfdbaaGreatDoor

/- What Share is to answer. -/
namespace Go.Proofs.YtkkboaiablfdbaaGreatDoor
set_option linter.unusedVariables false
set_option linter.unusedSimpArgs false

def shR (ds : List Dc) (ns : List Tc) : List Tc := if (widthsR ds ns).length = 0 then [] else (shTo ns ns.length).1

end Go.Proofs.YtkkboaiablfdbaaGreatDoor
