/- What a table keeps while a term is put into it. -/
import Derived.Test.YtemdnbldeeifnaaDoorTSI
namespace Go.Proofs.YtemdnbldeeifnaaDoor
set_option linter.unusedVariables false
set_option linter.unusedSimpArgs false
open Go.RowKit Go.WideMaps Go.Maps Go.MapKept Go.ChangeMaps

theorem goR_node {ds : List Dc} : ∀ (ns : List Tc) (wide r : List Int), goR ds wide ns = some r → ∀ n ∈ ns, fieldR n = true ∧ manyR ds.length n = true
  | [], _, _, _ => by simp
  | m :: t, wide, r, h => by
    rw [goR] at h
    cases hst : stepR ds wide m with
    | none => rw [hst] at h; cases h
    | some v =>
      rw [hst] at h
      intro n hn
      rcases List.mem_cons.1 hn with rfl | hn
      · have := stepR_kids hst
        simp only [Bool.and_eq_true] at this
        exact ⟨this.1.2, this.2⟩
      · exact goR_node t _ r h n hn
theorem right_node {ds : List Dc} {ns : List Tc} (h : ¬ (widthsR ds ns).length = 0) : ∀ n ∈ ns, fieldR n = true ∧ manyR ds.length n = true := by
  unfold widthsR at h
  split at h
  · cases hg : goR ds [] ns with
    | none => rw [hg] at h; simp at h
    | some wide => exact goR_node ns [] wide hg
  · simp at h
theorem node_okV {nd : Nat} {n : Tc} (h1 : fieldR n = true) (h2 : manyR nd n = true) (h3 : okT n) : okV n.bw n.ws := by
  refine ⟨?_, h3.2.2.2.2.2.2.1⟩
  by_cases e : n.op = 2
  · left
    unfold manyR at h2
    rw [if_neg (by omega), if_pos e] at h2
    simp only [Bool.and_eq_true] at h2
    exact h2.2
  · right
    unfold fieldR at h1
    simp [e] at h1
    obtain ⟨⟨⟨-, h4, h5⟩, -⟩, -⟩ := h1
    exact ⟨h4, h5⟩
theorem node_vr {nd : Nat} {n : Tc} (h2 : manyR nd n = true) (e : n.op = 1) : ¬ n.vr = -1 := by
  unfold manyR at h2
  rw [if_pos e] at h2
  simp only [Bool.and_eq_true, decide_eq_true_eq] at h2
  omega

theorem Ni.fr {u u' : World} {lo B s g : Nat} {v : Value} {D : DataW Unit} {l : List Tg} {a : Option Addr} {xs : List Int} (h : Ni u lo a xs) (ha : Ar u B s g v D l) (hf : FrA s g v u u') : Ni u' lo a xs :=
  h.kept fun k cur hc => hf.2.2.2.2 k (lt_of_block hc) (fun e => by
      subst e
      have h9 := ha.box
      unfold Bz at h9
      rw [hc] at h9
      cases h9) (fun e => by
      subst e
      obtain ⟨es, ck, h9⟩ := own_isMapN ha.mp
      rw [hc] at h9
      cases h9) (fun e => by
      obtain ⟨cur', h9⟩ := ha.ts.row.typed e
      rw [hc] at h9
      cases h9)
theorem Bz.fr {u u' : World} {B s g b : Nat} {v : Value} {D : DataW Unit} {l : List Tg} {cs : Array Value} {t : TypeId} (h : Bz u b cs t) (ht : t ≠ 57) (ha : Ar u B s g v D l) (hv : v.ownBlock ≠ some b) (hf : FrA s g v u u') : Bz u' b cs t :=
  (hf.2.2.2.2 b h.lt (fun e => by
      subst e
      have h9 := ha.box
      unfold Bz at h9 h
      rw [h] at h9
      cases h9
      exact ht rfl) (fun e => by
      subst e
      obtain ⟨es, ck, h9⟩ := own_isMapN ha.mp
      unfold Bz at h
      rw [h] at h9
      cases h9) hv).trans h
theorem Below.fr {w0 u u' : World} {B s g : Nat} {v : Value} {D : DataW Unit} {l : List Tg} (h : Below B w0 u) (hB : B ≤ u.heap.size) (ha : Ar u B s g v D l) (hf : FrA s g v u u') : Below B w0 u' :=
  ⟨hf.1.trans h.os, hf.2.1.trans h.tape, hf.2.2.1.trans h.output, Nat.le_trans h.size hf.2.2.2.1, fun k hk => (hf.2.2.2.2 k (by omega) (fun e => by have := ha.le; omega) (fun e => by have := ha.le; omega) (fun e => by have := (ha.ts.row.lt e).1; omega)).trans (h.block k hk)⟩
theorem Ar.out {u : World} {B s g gp lo j : Nat} {v x : Value} {D : DataW Unit} {l : List Tg} {xs : List Int} (h : Ar u B s g v D l) (hp : Ni u lo (some ⟨gp, 0, none⟩) xs) (hx : xs ≠ []) (hk : ∀ y ∈ l, ∀ p, y.ka = some p → gp < p.block) : Ar (u.setCell ⟨gp, j, none⟩ x) B s g v D l := by
  rcases hp with ⟨h1, -⟩ | ⟨gp', cur, e, -, hc, -⟩
  · exact absurd h1 hx
  cases e
  have ot : ∀ (k : Nat) (cs : Array Value) (t : TypeId) (fz : Nat × Nat), t ≠ 2 → u.heap[k]? = some (.cells cs t fz) → (u.setCell ⟨gp, j, none⟩ x).heap[k]? = u.heap[k]? := fun k cs t fz ht hkk => heap_setCell_other _ _ _ _ (fun e => by
    simp only [] at e
    subst e
    rw [hc] at hkk
    cases hkk
    exact ht rfl)
  refine ⟨⟨h.ts.row.move fun b hb => ?_, fun y hy => (h.ts.wn y hy).kept fun k cur' hc' => ot k _ _ _ (by decide) hc', fun y hy => ?_, h.ts.wd, h.ts.kd⟩, ?_, own_belowN h.mp fun hg => ?_, h.ak, h.le⟩
  · obtain ⟨c, hc'⟩ := h.ts.row.typed hb
    exact ot _ _ _ _ (by decide) hc'
  · rcases h.ts.kn y hy with ⟨k1, k2⟩ | ⟨g', cur', k1, k2, k3, k4⟩
    · refine .inl ⟨k1, fun z e => ?_⟩
      obtain ⟨q1, q2, cur', q3⟩ := k2 z e
      exact ⟨q1, q2, cur', (heap_setCell_other _ _ _ _ (fun e' => by have := hk y hy z e; simp only [] at e'; omega)).trans q3⟩
    · exact .inr ⟨g', cur', k1, k2, (heap_setCell_other _ _ _ _ (fun e' => by have := hk y hy _ k1; simp only [] at e' this; omega)).trans k3, k4⟩
  · exact (ot _ _ _ _ (by decide) h.box).trans h.box
  · refine heap_setCell_other _ _ _ _ (fun e => ?_)
    simp only [] at e
    subst e
    obtain ⟨es, ck, h9⟩ := own_isMapN h.mp
    rw [hc] at h9
    cases h9

theorem mvT_rep {to : List Int} {m k : Nat} {n : Tc} (hl : to.length = k) (hk : ∀ j ∈ n.ks, 0 ≤ j ∧ j < (k : Int)) : (⟨n.op, n.vr, n.a, n.b, n.bw, n.ws, n.ks.map fun j => (to ++ List.replicate m 0).getD j.toNat 0⟩ : Tc) = mvT to n := by
  unfold mvT
  congr 1
  refine List.map_congr_left fun j hj => ?_
  have := hk j hj
  simp only [List.getD_eq_getElem?_getD]
  rw [List.getElem?_append_left (by omega)]
theorem put_rep {to : List Int} {m : Nat} {y : Int} : (to ++ List.replicate (m + 1) 0).set to.length y = (to ++ [y]) ++ List.replicate m 0 := by
  rw [List.set_append_right _ _ (Nat.le_refl _)]
  simp [List.replicate_succ]

end Go.Proofs.YtemdnbldeeifnaaDoor
