/- Ways from a node: what is known while they are looked for. Nothing of any program. -/
import Derived.Test.YtakicdlfolhhcaaREA
namespace Go.Proofs.Ytakicdlfolhhcaa
set_option linter.unusedVariables false
set_option linter.unusedSimpArgs false
open Go.RowKit

/-- The link t has these ends. -/
def Ends (ls : List Lk) (t v u : Nat) : Prop := ∃ l, ls[t]? = some l ∧ (l.1.toNat = v ∧ l.2.1.toNat = u ∨ l.2.1.toNat = v ∧ l.1.toNat = u)
theorem Ends.symm {ls : List Lk} {t v u : Nat} (h : Ends ls t v u) : Ends ls t u v := by
  obtain ⟨l, hl, h | h⟩ := h
  · exact ⟨l, hl, .inr ⟨h.2, h.1⟩⟩
  · exact ⟨l, hl, .inl ⟨h.2, h.1⟩⟩
theorem Ends.uniq {ls : List Lk} {t v u u' : Nat} (h : Ends ls t v u) (h' : Ends ls t v u') : u = u' := by
  obtain ⟨l, hl, h⟩ := h
  obtain ⟨l', hl', h'⟩ := h'
  rw [hl] at hl'
  cases hl'
  omega
theorem Ends.pair {ls : List Lk} {t v u v' u' : Nat} (h : Ends ls t v u) (h' : Ends ls t v' u') : v = v' ∧ u = u' ∨ v = u' ∧ u = v' := by
  obtain ⟨l, hl, h⟩ := h
  obtain ⟨l', hl', h'⟩ := h'
  rw [hl] at hl'
  cases hl'
  omega

def setC (came : Nat → Option Nat) (v t : Nat) : Nat → Option Nat := fun x => if x = v then some t else came x
/-- How many of the first n were not come to. -/
def und (came : Nat → Option Nat) (a : Nat) : Nat → Nat
  | 0 => 0
  | n + 1 => und came a n + (if n = a ∨ (came n).isSome = true then 0 else 1)
theorem und_set_ge {came : Nat → Option Nat} {a v t : Nat} : ∀ n, n ≤ v → und (setC came v t) a n = und came a n
  | 0, _ => rfl
  | n + 1, h => by
    unfold und
    rw [und_set_ge n (by omega)]
    have : setC came v t n = came n := by unfold setC; rw [if_neg (by omega)]
    rw [this]
theorem und_set {came : Nat → Option Nat} {a v t : Nat} (hc : came v = none) (ha : v ≠ a) : ∀ n, v < n → und (setC came v t) a n + 1 = und came a n
  | 0, h => by omega
  | n + 1, h => by
    unfold und
    by_cases e : v = n
    · subst e
      rw [und_set_ge v (Nat.le_refl _)]
      have : setC came v t v = some t := by unfold setC; rw [if_pos rfl]
      rw [this, hc]
      simp [ha]
    · have ih := und_set (t := t) hc ha n (by omega)
      have : setC came v t n = came n := by unfold setC; rw [if_neg (Ne.symm e)]
      rw [this]
      omega
theorem und_le (came : Nat → Option Nat) (a : Nat) : ∀ n, und came a n ≤ n
  | 0 => Nat.le_refl _
  | n + 1 => by
    have := und_le came a n
    unfold und
    split <;> omega
theorem und_lt (came : Nat → Option Nat) {a : Nat} : ∀ n, a < n → und came a n + 1 ≤ n
  | 0, h => by omega
  | n + 1, h => by
    unfold und
    by_cases e : n = a
    · rw [if_pos (.inl e)]
      have := und_le came a n
      omega
    · have := und_lt came (a := a) n (by omega)
      split <;> omega

/-- What is known: by which link each node was come to, when, and which links of which nodes are done; k: a node that is being done. -/
structure Cw (ls : List Lk) (n a : Nat) (came : Nat → Option Nat) (rk : Nat → Nat) (m : Nat) (H : Nat → Nat → Bool) (op : List Nat) (k : Option Nat) : Prop where
  an : a < n
  ca : came a = none
  lt : ∀ v t, came v = some t → v < n
  k1 : ∀ v t, came v = some t → ∃ u, Ends ls t v u ∧ (u = a ∨ came u ≠ none) ∧ rk u < rk v ∧ H u t = true
  rm : ∀ v, (v = a ∨ came v ≠ none) → rk v < m
  k2 : ∀ v t u, H v t = true → Ends ls t v u → came v = some t ∨ came u = some t
  k3 : ∀ v, (v = a ∨ came v ≠ none) → v ∉ op → k ≠ some v → ∀ t u, Ends ls t v u → H v t = true
  k4 : ∀ v ∈ op, (v = a ∨ came v ≠ none) ∧ k ≠ some v ∧ ∀ t, H v t = false
  k5 : ∀ v t, H v t = true → (v = a ∨ came v ≠ none)
  nd : op.Nodup
  kk : ∀ v, k = some v → (v = a ∨ came v ≠ none)
  mm : und came a n + m ≤ n

theorem Cw.start (ls : List Lk) {n a : Nat} (h : a < n) : Cw ls n a (fun _ => none) (fun _ => 0) 1 (fun _ _ => false) [a] none where
  an := h
  ca := rfl
  lt := fun v t e => by cases e
  k1 := fun v t e => by cases e
  rm := fun v _ => by simp
  k2 := fun v t u e => by cases e
  k3 := fun v hv hn => by
    rcases hv with rfl | hv
    · simp at hn
    · exact absurd rfl hv
  k4 := fun v hv => by simp at hv; exact ⟨.inl hv, by simp, fun _ => rfl⟩
  k5 := fun v t e => by cases e
  nd := by simp
  kk := fun v e => by cases e
  mm := und_lt _ n h

/-- One is taken off the stack. -/
theorem Cw.pop {ls : List Lk} {n a : Nat} {came : Nat → Option Nat} {rk : Nat → Nat} {m k : Nat} {H : Nat → Nat → Bool} {op : List Nat} (h : Cw ls n a came rk m H (op ++ [k]) none) : Cw ls n a came rk m H op (some k) ∧ ∀ t, H k t = false := by
  have hk := h.k4 k (by simp)
  have hnd := List.nodup_append.1 h.nd
  refine ⟨⟨h.an, h.ca, h.lt, h.k1, h.rm, h.k2, fun v hv hn hne => h.k3 v hv (fun hm => ?_) (by simp), fun v hv => ?_, h.k5, hnd.1, fun v e => ?_, h.mm⟩, hk.2.2⟩
  · rcases List.mem_append.1 hm with hm | hm
    · exact hn hm
    · simp at hm; exact hne (by rw [hm])
  · obtain ⟨h1, -, h3⟩ := h.k4 v (List.mem_append_left _ hv)
    refine ⟨h1, fun e => ?_, h3⟩
    cases e
    exact hnd.2.2 k hv k (by simp) rfl
  · cases e; exact hk.1

/-- What is come to from the node that is being done was not come to. -/
theorem Cw.fresh {ls : List Lk} {n a : Nat} {came : Nat → Option Nat} {rk : Nat → Nat} {m k t nx : Nat} {H : Nat → Nat → Bool} {op : List Nat} {L : Nat → Nat} (h : Cw ls n a came rk m H op (some k)) (hg : goF n id ls = some L) (hH : H k t = false) (hc : came k ≠ some t) (he : Ends ls t k nx) : came nx = none ∧ nx ≠ a := by
  obtain ⟨l, hl, hls⟩ := he
  have he : Ends ls t k nx := ⟨l, hl, hls⟩
  obtain ⟨S, h1, h2⟩ := goF_cut hg t l hl
  have hno : ∀ v, came v ≠ some t := fun v hv => by
    obtain ⟨u, e1, -, -, e4⟩ := h.k1 v t hv
    rcases e1.pair he with ⟨q1, q2⟩ | ⟨q1, q2⟩
    · exact hc (q1 ▸ hv)
    · rw [q2] at e4; rw [hH] at e4; cases e4
  have hS : ∀ r v, rk v = r → (v = a ∨ came v ≠ none) → S v = S a := by
    intro r
    induction r using Nat.strongRecOn with
    | ind r ih =>
      intro v hr hv
      rcases hv with rfl | hv
      · rfl
      · cases hcv : came v with
        | none => exact absurd hcv hv
        | some t' =>
          obtain ⟨u, ⟨l', hl', e1⟩, e2, e3, -⟩ := h.k1 v t' hcv
          have hne : t' ≠ t := fun e => hno v (e ▸ hcv)
          have hs := h2 t' l' hl' hne
          have : S v = S u := by
            rcases e1 with ⟨q1, q2⟩ | ⟨q1, q2⟩
            · rw [← q1, ← q2]; exact hs
            · rw [← q1, ← q2]; exact hs.symm
          rw [this]
          exact ih (rk u) (by omega) u rfl e2
  have hne : S k ≠ S nx := by
    rcases hls with ⟨q1, q2⟩ | ⟨q1, q2⟩
    · rw [← q1, ← q2]; exact h1
    · rw [← q1, ← q2]; exact Ne.symm h1
  have hnv : ¬ (nx = a ∨ came nx ≠ none) := fun hv => hne (by rw [hS _ k rfl (h.kk k rfl), hS _ nx rfl hv])
  refine ⟨?_, fun e => hnv (.inl e)⟩
  cases e : came nx with
  | none => rfl
  | some x => exact absurd (.inr (by rw [e]; simp)) hnv

def setH (H : Nat → Nat → Bool) (k t : Nat) : Nat → Nat → Bool := fun v x => if v = k ∧ x = t then true else H v x
theorem setH_at (H : Nat → Nat → Bool) (k t : Nat) : setH H k t k t = true := by simp [setH]
theorem setH_up {H : Nat → Nat → Bool} {k t v x : Nat} (h : H v x = true) : setH H k t v x = true := by unfold setH; split; rfl; exact h
theorem setH_or {H : Nat → Nat → Bool} {k t v x : Nat} (h : setH H k t v x = true) : (v = k ∧ x = t) ∨ H v x = true := by
  unfold setH at h
  split at h
  · rename_i e; exact .inl e
  · exact .inr h
theorem setH_other {H : Nat → Nat → Bool} {k t v x : Nat} (h : v ≠ k) : setH H k t v x = H v x := by unfold setH; rw [if_neg (fun e => h e.1)]

/-- The link by which the node was come to. -/
theorem Cw.back {ls : List Lk} {n a : Nat} {came : Nat → Option Nat} {rk : Nat → Nat} {m k t : Nat} {H : Nat → Nat → Bool} {op : List Nat} (h : Cw ls n a came rk m H op (some k)) (hc : came k = some t) : Cw ls n a came rk m (setH H k t) op (some k) where
  an := h.an
  ca := h.ca
  lt := h.lt
  k1 := fun v x e => by
    obtain ⟨u, e1, e2, e3, e4⟩ := h.k1 v x e
    exact ⟨u, e1, e2, e3, setH_up e4⟩
  rm := h.rm
  k2 := fun v x u e he => by
    rcases setH_or e with ⟨rfl, rfl⟩ | e
    · exact .inl hc
    · exact h.k2 v x u e he
  k3 := fun v hv hn hne x u he => setH_up (h.k3 v hv hn hne x u he)
  k4 := fun v hv => by
    obtain ⟨h1, h2, h3⟩ := h.k4 v hv
    exact ⟨h1, h2, fun x => by rw [setH_other (fun e => h2 (by rw [e]))]; exact h3 x⟩
  k5 := fun v x e => by
    rcases setH_or e with ⟨rfl, rfl⟩ | e
    · exact h.kk v rfl
    · exact h.k5 v x e
  nd := h.nd
  kk := h.kk
  mm := h.mm

def setK' (rk : Nat → Nat) (v m : Nat) : Nat → Nat := fun x => if x = v then m else rk x

/-- A node is come to. -/
theorem Cw.come {ls : List Lk} {n a : Nat} {came : Nat → Option Nat} {rk : Nat → Nat} {m k t nx : Nat} {H : Nat → Nat → Bool} {op : List Nat} (h : Cw ls n a came rk m H op (some k)) (he : Ends ls t k nx) (hn : came nx = none) (ha : nx ≠ a) (hx : nx < n) : Cw ls n a (setC came nx t) (setK' rk nx m) (m + 1) (setH H k t) (op ++ [nx]) (some k) := by
  have hkv := h.kk k rfl
  have hnv : ¬ (nx = a ∨ came nx ≠ none) := by rintro (e | e); exact ha e; exact e hn
  have hkn : k ≠ nx := fun e => hnv (e ▸ hkv)
  have cO : ∀ v, v ≠ nx → setC came nx t v = came v := fun v hv => by unfold setC; rw [if_neg hv]
  have cN : setC came nx t nx = some t := by unfold setC; rw [if_pos rfl]
  have rO : ∀ v, v ≠ nx → setK' rk nx m v = rk v := fun v hv => by unfold setK'; rw [if_neg hv]
  have rN : setK' rk nx m nx = m := by unfold setK'; rw [if_pos rfl]
  have vO : ∀ v, v ≠ nx → ((v = a ∨ setC came nx t v ≠ none) ↔ (v = a ∨ came v ≠ none)) := fun v hv => by rw [cO v hv]
  have vU : ∀ v, (v = a ∨ came v ≠ none) → v ≠ nx := fun v hv e => hnv (e ▸ hv)
  have hop : nx ∉ op := fun hm => hnv (h.k4 nx hm).1
  refine ⟨h.an, by rw [cO a (Ne.symm ha)]; exact h.ca, fun v x e => ?_, fun v x e => ?_, fun v hv => ?_, fun v x u e hE => ?_, fun v hv hnm hne x u hE => ?_, fun v hv => ?_, fun v x e => ?_, ?_, fun v e => ?_, by have := und_set (t := t) hn ha n hx; have := h.mm; omega⟩
  · by_cases q : v = nx
    · rw [q]; exact hx
    · rw [cO v q] at e; exact h.lt v x e
  · by_cases q : v = nx
    · subst q
      rw [cN] at e
      cases e
      refine ⟨k, he.symm, (vO k hkn).2 hkv, ?_, setH_at _ _ _⟩
      rw [rN, rO k hkn]
      exact h.rm k hkv
    · rw [cO v q] at e
      obtain ⟨u, e1, e2, e3, e4⟩ := h.k1 v x e
      have hu := vU u e2
      exact ⟨u, e1, (vO u hu).2 e2, by rw [rO u hu, rO v q]; exact e3, setH_up e4⟩
  · by_cases q : v = nx
    · rw [q, rN]; omega
    · have := h.rm v ((vO v q).1 hv)
      rw [rO v q]; omega
  · rcases setH_or e with ⟨q1, q2⟩ | e
    · subst q1
      subst q2
      have : u = nx := hE.uniq he
      rw [this]
      exact .inr cN
    · rcases h.k2 v x u e hE with q | q
      · exact .inl (by rw [cO v (vU v (.inr (by rw [q]; simp)))]; exact q)
      · exact .inr (by rw [cO u (vU u (.inr (by rw [q]; simp)))]; exact q)
  · have q : v ≠ nx := fun e => hnm (by simp [e])
    exact setH_up (h.k3 v ((vO v q).1 hv) (fun hm => hnm (List.mem_append_left _ hm)) hne x u hE)
  · rcases List.mem_append.1 hv with hv | hv
    · obtain ⟨h1, h2, h3⟩ := h.k4 v hv
      have q := vU v h1
      exact ⟨(vO v q).2 h1, h2, fun x => by rw [setH_other (fun e => h2 (by rw [e]))]; exact h3 x⟩
    · simp at hv
      subst hv
      refine ⟨.inr (by rw [cN]; simp), fun e => hkn (Option.some.inj e), fun x => ?_⟩
      rw [setH_other (Ne.symm hkn)]
      cases e : H v x with
      | false => rfl
      | true => exact absurd (h.k5 v x e) hnv
  · rcases setH_or e with ⟨q1, q2⟩ | e
    · subst q1
      exact (vO v hkn).2 hkv
    · have q := h.k5 v x e
      exact (vO v (vU v q)).2 q
  · rw [List.nodup_append]
    exact ⟨h.nd, by simp, fun x hx y hy => by simp at hy; rw [hy]; exact fun e => hop (e ▸ hx)⟩
  · cases e
    exact (vO k hkn).2 hkv

/-- All links of the node are done. -/
theorem Cw.done {ls : List Lk} {n a : Nat} {came : Nat → Option Nat} {rk : Nat → Nat} {m k : Nat} {H : Nat → Nat → Bool} {op : List Nat} (h : Cw ls n a came rk m H op (some k)) (hd : ∀ t u, Ends ls t k u → H k t = true) : Cw ls n a came rk m H op none where
  an := h.an
  ca := h.ca
  lt := h.lt
  k1 := h.k1
  rm := h.rm
  k2 := h.k2
  k3 := fun v hv hn _ t u he => by
    by_cases e : v = k
    · subst e; exact hd t u he
    · exact h.k3 v hv hn (fun q => e (Option.some.inj q).symm) t u he
  k4 := fun v hv => ⟨(h.k4 v hv).1, by simp, (h.k4 v hv).2.2⟩
  k5 := h.k5
  nd := h.nd
  kk := fun v e => by cases e
  mm := h.mm

/-- In the end all that are joined with the node were come to. -/
theorem Cw.all {ls : List Lk} {n a b : Nat} {came : Nat → Option Nat} {rk : Nat → Nat} {m : Nat} {H : Nat → Nat → Bool} {L : Nat → Nat} (h : Cw ls n a came rk m H [] none) (hg : goF n id ls = some L) (hL : L a = L b) : b = a ∨ came b ≠ none := by
  have key : ∀ t v u, Ends ls t v u → (v = a ∨ came v ≠ none) → (u = a ∨ came u ≠ none) := fun t v u he hv => by
    have hh := h.k3 v hv (by simp) (by simp) t u he
    rcases h.k2 v t u hh he with q | q
    · obtain ⟨u', e1, e2, -⟩ := h.k1 v t q
      rw [he.uniq e1]; exact e2
    · exact .inr (by rw [q]; simp)
  have := goF_closed hg (fun v => decide (v = a ∨ came v ≠ none)) (fun l hl => by
    obtain ⟨i, hi⟩ := List.getElem?_of_mem hl
    have e1 : Ends ls i l.1.toNat l.2.1.toNat := ⟨l, hi, .inl ⟨rfl, rfl⟩⟩
    exact decide_eq_decide.2 ⟨key i _ _ e1, key i _ _ e1.symm⟩) a b hL
  have h2 := decide_eq_decide.1 this
  exact h2.1 (.inl rfl)

/-- Links by which nodes were come to are different. -/
theorem Cw.inj {ls : List Lk} {n a : Nat} {came : Nat → Option Nat} {rk : Nat → Nat} {m : Nat} {H : Nat → Nat → Bool} {op : List Nat} {k : Option Nat} (h : Cw ls n a came rk m H op k) {v v' t : Nat} (h1 : came v = some t) (h2 : came v' = some t) : v = v' := by
  obtain ⟨u, e1, -, e3, -⟩ := h.k1 v t h1
  obtain ⟨u', e1', -, e3', -⟩ := h.k1 v' t h2
  rcases e1.pair e1' with ⟨q, -⟩ | ⟨q1, q2⟩
  · exact q
  · subst q1; subst q2; omega

theorem Wk.snoc {ls : List Lk} : ∀ {a b c : Nat} {p : List Nat} {t : Nat}, Wk ls a p b → Ends ls t b c → Wk ls a (p ++ [t]) c
  | a, b, c, [], t, h, he => by
    obtain ⟨l, hl, he⟩ := he
    have e : a = b := h
    refine ⟨l, hl, ?_⟩
    rw [e]
    rcases he with ⟨h1, h2⟩ | ⟨h1, h2⟩
    · exact .inl ⟨h1, h2⟩
    · exact .inr ⟨h1, h2⟩
  | a, b, c, k :: p, t, h, he => by
    obtain ⟨l, hl, h⟩ := h
    refine ⟨l, hl, ?_⟩
    rcases h with ⟨h1, h2⟩ | ⟨h1, h2⟩
    · exact .inl ⟨h1, h2.snoc he⟩
    · exact .inr ⟨h1, h2.snoc he⟩

/-- The way back so far: from b to v. -/
structure Bk (ls : List Lk) (came : Nat → Option Nat) (rk : Nat → Nat) (b v : Nat) (p : List Nat) : Prop where
  wk : Wk ls b p v
  nd : p.Nodup
  up : ∀ t ∈ p, ∃ x, came x = some t ∧ rk v < rk x

theorem Bk.start (ls : List Lk) (came : Nat → Option Nat) (rk : Nat → Nat) (b : Nat) : Bk ls came rk b b [] := ⟨rfl, by simp, by simp⟩
theorem Bk.step {ls : List Lk} {n a b v t u : Nat} {came : Nat → Option Nat} {rk : Nat → Nat} {m : Nat} {H : Nat → Nat → Bool} {p : List Nat} (h : Cw ls n a came rk m H [] none) (hb : Bk ls came rk b v p) (hc : came v = some t) (he : Ends ls t v u) : Bk ls came rk b u (p ++ [t]) ∧ rk u < rk v ∧ (u = a ∨ came u ≠ none) := by
  obtain ⟨u', e1, e2, e3, -⟩ := h.k1 v t hc
  have : u = u' := he.uniq e1
  subst this
  refine ⟨⟨hb.wk.snoc he, ?_, fun x hx => ?_⟩, e3, e2⟩
  · rw [List.nodup_append]
    refine ⟨hb.nd, by simp, fun x hx y hy => ?_⟩
    simp at hy
    subst hy
    rintro rfl
    obtain ⟨z, h1, h2⟩ := hb.up x hx
    have := h.inj h1 hc
    subst this
    omega
  · rcases List.mem_append.1 hx with hx | hx
    · obtain ⟨z, h1, h2⟩ := hb.up x hx
      exact ⟨z, h1, by omega⟩
    · simp at hx
      subst hx
      exact ⟨v, hc, e3⟩

end Go.Proofs.Ytakicdlfolhhcaa
