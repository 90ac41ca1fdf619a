/- Ways between nodes of a forest: each link parts it, so that a way without a link twice has the links that part its ends, and no others. Nothing of any program. -/
import Derived.Test.YtakicdlfolhhcaaGM
namespace Go.Proofs.Ytakicdlfolhhcaa
set_option linter.unusedVariables false
set_option linter.unusedSimpArgs false
open Go.RowKit

theorem mrg_same {L : Nat → Nat} {a b i j : Nat} (h : L i = L j) : mrg L a b i = mrg L a b j := by unfold mrg; rw [h]
theorem mrg_ab (L : Nat → Nat) (a b : Nat) : mrg L a b a = mrg L a b b := by
  rw [(mrg_min a).2 (.inl rfl), (mrg_min b).2 (.inr rfl)]

theorem goF_pre {n : Nat} {L : Nat → Nat} {ls : List Lk} (h : goF n id ls = some L) (k : Nat) : ∃ L', goF n id (ls.take k) = some L' := by
  cases e : goF n id (ls.take k) with
  | none => rw [goF_none e] at h; cases h
  | some L' => exact ⟨L', rfl⟩

theorem goF_at {n k : Nat} {L : Nat → Nat} {ls : List Lk} {l : Lk} (h : goF n id ls = some L) (hl : ls[k]? = some l) : ∃ L', goF n id (ls.take k) = some L' ∧ lkOk n L' l = true ∧ goF n id (ls.take (k + 1)) = some (mrg L' l.1.toNat l.2.1.toNat) := by
  obtain ⟨L', h'⟩ := goF_pre h k
  obtain ⟨L2, h2⟩ := goF_pre h (k + 1)
  have h3 := goF_take h' hl
  by_cases hc : lkOk n L' l = true
  · rw [if_pos hc] at h3
    exact ⟨L', h', hc, h3⟩
  · rw [if_neg hc, h2] at h3
    cases h3

theorem goF_all {n : Nat} {L : Nat → Nat} {ls : List Lk} (h : goF n id ls = some L) (P : Nat → (Nat → Nat) → Prop) (h0 : P 0 id) (hs : ∀ k l L', ls[k]? = some l → goF n id (ls.take k) = some L' → lkOk n L' l = true → P k L' → P (k + 1) (mrg L' l.1.toNat l.2.1.toNat)) : P ls.length L := by
  have key : ∀ k, k ≤ ls.length → ∃ L', goF n id (ls.take k) = some L' ∧ P k L' := by
    intro k
    induction k with
    | zero => intro _; exact ⟨id, rfl, h0⟩
    | succ k ih =>
      intro hk
      obtain ⟨L1, e1, p1⟩ := ih (by omega)
      have hl := List.getElem?_eq_getElem (show k < ls.length by omega)
      obtain ⟨L2, e2, hok, e3⟩ := goF_at h hl
      rw [e1] at e2
      cases e2
      exact ⟨_, e3, hs k _ L1 hl e1 hok p1⟩
  obtain ⟨L', e, p⟩ := key ls.length (Nat.le_refl _)
  rw [List.take_length, h] at e
  cases e
  exact p

/-- What all links leave alone is alike of all that are joined. -/
theorem goF_closed {n : Nat} {L : Nat → Nat} {ls : List Lk} (h : goF n id ls = some L) (S : Nat → Bool) (hS : ∀ l ∈ ls, S l.1.toNat = S l.2.1.toNat) : ∀ i j, L i = L j → S i = S j := by
  refine goF_all h (fun _ L => ∀ i j, L i = L j → S i = S j) (fun i j e => by rw [show i = j from e]) ?_
  intro k l L' hl _ _ ih i j e
  have hm := hS l (List.mem_of_getElem? hl)
  have side : ∀ x, mrg L' l.1.toNat l.2.1.toNat x = min (L' l.1.toNat) (L' l.2.1.toNat) → S x = S l.1.toNat := fun x hx => by
    rcases (mrg_min x).1 hx with q | q
    · exact ih _ _ q
    · rw [hm]; exact ih _ _ q
  by_cases q : mrg L' l.1.toNat l.2.1.toNat i = min (L' l.1.toNat) (L' l.2.1.toNat)
  · rw [side i q, side j (e ▸ q)]
  · have q2 : ¬ mrg L' l.1.toNat l.2.1.toNat j = min (L' l.1.toNat) (L' l.2.1.toNat) := fun x => q (e.trans x)
    rw [mrg_other (fun x => q ((mrg_min i).2 x)), mrg_other (fun x => q2 ((mrg_min j).2 x))] at e
    exact ih _ _ e

/-- The ends of each link are joined. -/
theorem goF_joins {n : Nat} {L : Nat → Nat} {ls : List Lk} (h : goF n id ls = some L) : ∀ (i : Nat) (l : Lk), ls[i]? = some l → L l.1.toNat = L l.2.1.toNat := by
  have := goF_all h (fun k L => ∀ (i : Nat) (l : Lk), i < k → ls[i]? = some l → L l.1.toNat = L l.2.1.toNat) (fun i l hi => by omega) (by
    intro k l L' hl _ _ ih i m hi hm
    by_cases e : i = k
    · subst e
      rw [hl] at hm
      cases hm
      exact mrg_ab _ _ _
    · exact mrg_same (ih i m (by omega) hm))
  exact fun i l hl => this i l (List.getElem?_eq_some_iff.1 hl).1 hl

/-- Each link parts the forest: two colours that it alone does not keep. -/
theorem goF_cut {n : Nat} {L : Nat → Nat} {ls : List Lk} (h : goF n id ls = some L) : ∀ (i : Nat) (l : Lk), ls[i]? = some l → ∃ S : Nat → Bool, S l.1.toNat ≠ S l.2.1.toNat ∧ ∀ (j : Nat) (m : Lk), ls[j]? = some m → j ≠ i → S m.1.toNat = S m.2.1.toNat := by
  have := goF_all h (fun k _ => ∀ (i : Nat) (l : Lk), i < k → ls[i]? = some l → ∃ S : Nat → Bool, S l.1.toNat ≠ S l.2.1.toNat ∧ ∀ (j : Nat) (m : Lk), j < k → ls[j]? = some m → j ≠ i → S m.1.toNat = S m.2.1.toNat) (fun i l hi => by omega) (by
    intro k l L' hl hgo hok ih i m hi hm
    have hjo : ∀ j x, j < k → ls[j]? = some x → L' x.1.toNat = L' x.2.1.toNat := fun j x hj hx => goF_joins hgo j x (by rw [List.getElem?_take, if_pos hj]; exact hx)
    have hne := (lkOk_iff.1 hok).2.2.2
    by_cases e : i = k
    · subst e
      rw [hl] at hm
      cases hm
      refine ⟨fun x => decide (L' x = L' l.1.toNat), ?_, fun j m hj hm hne => ?_⟩
      · simp only [decide_true]
        rw [decide_eq_false (Ne.symm hne)]
        simp
      · simp only []
        rw [hjo j m (by omega) hm]
    · obtain ⟨S, h1, h2⟩ := ih i m (by omega) hm
      by_cases hs : S l.1.toNat = S l.2.1.toNat
      · refine ⟨S, h1, fun j x hj hx hji => ?_⟩
        by_cases ej : j = k
        · subst ej; rw [hl] at hx; cases hx; exact hs
        · exact h2 j x (by omega) hx hji
      · refine ⟨fun x => if L' x = L' l.2.1.toNat then !S x else S x, ?_, fun j x hj hx hji => ?_⟩
        · simp only []
          rw [hjo i m (by omega) hm]
          split
          · intro q; exact h1 (by simpa using q)
          · exact h1
        · simp only []
          by_cases ej : j = k
          · subst ej
            rw [hl] at hx
            cases hx
            rw [if_neg hne, if_pos rfl]
            cases q1 : S l.1.toNat <;> cases q2 : S l.2.1.toNat <;> simp_all
          · rw [hjo j x (by omega) hx, h2 j x (by omega) hx hji])
  intro i l hl
  obtain ⟨S, h1, h2⟩ := this i l (List.getElem?_eq_some_iff.1 hl).1 hl
  exact ⟨S, h1, fun j m hm hj => h2 j m (List.getElem?_eq_some_iff.1 hm).1 hm hj⟩

/-- A way over links, by their places. -/
def Wk (ls : List Lk) : Nat → List Nat → Nat → Prop
  | a, [], b => a = b
  | a, k :: p, b => ∃ l, ls[k]? = some l ∧ ((l.1.toNat = a ∧ Wk ls l.2.1.toNat p b) ∨ (l.2.1.toNat = a ∧ Wk ls l.1.toNat p b))

theorem Wk.in {ls : List Lk} : ∀ {a b : Nat} {p : List Nat}, Wk ls a p b → ∀ i ∈ p, ∃ l, ls[i]? = some l
  | a, b, [], _, i, hi => by simp at hi
  | a, b, k :: p, h, i, hi => by
    obtain ⟨l, hl, h⟩ := h
    rcases List.mem_cons.1 hi with rfl | hi
    · exact ⟨l, hl⟩
    · rcases h with ⟨-, h⟩ | ⟨-, h⟩ <;> exact Wk.in h i hi

theorem Wk.cut {ls : List Lk} {i : Nat} {l : Lk} {S : Nat → Bool} (hi : ls[i]? = some l) (h1 : S l.1.toNat ≠ S l.2.1.toNat) (h2 : ∀ (j : Nat) (m : Lk), ls[j]? = some m → j ≠ i → S m.1.toNat = S m.2.1.toNat) : ∀ {a b : Nat} {p : List Nat}, Wk ls a p b → p.Nodup → (i ∈ p ↔ S a ≠ S b)
  | a, b, [], h, _ => by
    have e : a = b := h
    simp [e]
  | a, b, k :: p, h, hd => by
    obtain ⟨m, hm, h⟩ := h
    have hk : k ∉ p := (List.nodup_cons.1 hd).1
    have hp : p.Nodup := (List.nodup_cons.1 hd).2
    have go : ∀ x, Wk ls x p b → (k = i → S a ≠ S x) → (k ≠ i → S a = S x) → (i ∈ k :: p ↔ S a ≠ S b) := fun x hx g1 g2 => by
      have ih := Wk.cut hi h1 h2 hx hp
      by_cases e : k = i
      · have q1 := g1 e
        have q2 : S x = S b := by
          by_cases q : S x = S b
          · exact q
          · exact absurd (ih.2 q) (e ▸ hk)
        rw [e, ← q2]
        simp [q1]
      · rw [g2 e, ← ih]
        simp [Ne.symm e]
    rcases h with ⟨ha, h⟩ | ⟨ha, h⟩
    · refine go _ h (fun e => ?_) (fun e => ?_)
      · subst e; rw [hi] at hm; cases hm; rw [← ha]; exact h1
      · rw [← ha]; exact h2 k m hm e
    · refine go _ h (fun e => ?_) (fun e => ?_)
      · subst e; rw [hi] at hm; cases hm; rw [← ha]; exact Ne.symm h1
      · rw [← ha]; exact (h2 k m hm e).symm

/-- Two ways between the same nodes, whichever way round, have the same links. -/
theorem Wk.same {n : Nat} {L : Nat → Nat} {ls : List Lk} (h : goF n id ls = some L) {a b : Nat} {p q : List Nat} (hp : Wk ls a p b) (hq : Wk ls b q a) (dp : p.Nodup) (dq : q.Nodup) (i : Nat) : i ∈ p ↔ i ∈ q := by
  have key : ∀ l, ls[i]? = some l → (i ∈ p ↔ i ∈ q) := fun l hl => by
    obtain ⟨S, h1, h2⟩ := goF_cut h i l hl
    rw [Wk.cut hl h1 h2 hp dp, Wk.cut hl h1 h2 hq dq]
    exact ⟨Ne.symm, Ne.symm⟩
  constructor
  · intro hi
    obtain ⟨l, hl⟩ := hp.in i hi
    exact (key l hl).1 hi
  · intro hi
    obtain ⟨l, hl⟩ := hq.in i hi
    exact (key l hl).2 hi

theorem Wk.alike {n : Nat} {L : Nat → Nat} {ls : List Lk} (h : goF n id ls = some L) {a b : Nat} {p q : List Nat} (hp : Wk ls a p b ∨ Wk ls b p a) (hq : Wk ls a q b ∨ Wk ls b q a) (dp : p.Nodup) (dq : q.Nodup) (i : Nat) : i ∈ p ↔ i ∈ q := by
  have key : ∀ l, ls[i]? = some l → (i ∈ p ↔ i ∈ q) := fun l hl => by
    obtain ⟨S, h1, h2⟩ := goF_cut h i l hl
    have one : ∀ r, (Wk ls a r b ∨ Wk ls b r a) → r.Nodup → (i ∈ r ↔ S a ≠ S b) := fun r hr dr => by
      rcases hr with hr | hr
      · exact Wk.cut hl h1 h2 hr dr
      · rw [Wk.cut hl h1 h2 hr dr]; exact ⟨Ne.symm, Ne.symm⟩
    rw [one p hp dp, one q hq dq]
  have inn : ∀ r, (Wk ls a r b ∨ Wk ls b r a) → i ∈ r → ∃ l, ls[i]? = some l := fun r hr hi => by
    rcases hr with hr | hr
    · exact hr.in i hi
    · exact hr.in i hi
  constructor
  · intro hi
    obtain ⟨l, hl⟩ := inn p hp hi
    exact (key l hl).1 hi
  · intro hi
    obtain ⟨l, hl⟩ := inn q hq hi
    exact (key l hl).2 hi

/-- A way joins. -/
theorem Wk.joins {n : Nat} {L : Nat → Nat} {ls : List Lk} (h : goF n id ls = some L) : ∀ {a b : Nat} {p : List Nat}, Wk ls a p b → L a = L b
  | a, b, [], hp => by rw [show a = b from hp]
  | a, b, k :: p, hp => by
    obtain ⟨l, hl, hp⟩ := hp
    have hj := goF_joins h k l hl
    rcases hp with ⟨ha, hp⟩ | ⟨ha, hp⟩
    · rw [← ha, hj]; exact Wk.joins h hp
    · rw [← ha, ← hj]; exact Wk.joins h hp

/-- The reasons of a way. -/
def whyL (ls : List Lk) (p : List Nat) : List Int := p.map fun k => (ls.getD k (0, 0, 0)).2.2

theorem whyL_mem {ls : List Lk} {p q : List Nat} (h : ∀ i, i ∈ p ↔ i ∈ q) (x : Int) : x ∈ whyL ls p ↔ x ∈ whyL ls q := by
  unfold whyL
  rw [List.mem_map, List.mem_map]
  exact ⟨fun ⟨k, h1, h2⟩ => ⟨k, (h k).1 h1, h2⟩, fun ⟨k, h1, h2⟩ => ⟨k, (h k).2 h1, h2⟩⟩

/-- What is told of a search that finds nothing: all that it came to, whose links are all used now. -/
structure Nf (ls : List Lk) (us us' : Nat → Bool) (a b : Nat) (S : Nat → Bool) : Prop where
  isa : S a = true
  isb : S b = false
  up : ∀ i, us i = true → us' i = true
  all : ∀ (i : Nat) (l : Lk), ls[i]? = some l → (S l.1.toNat = true ∨ S l.2.1.toNat = true) → us' i = true
  new : ∀ (i : Nat) (l : Lk), ls[i]? = some l → us i = false → us' i = true → S l.1.toNat = true ∧ S l.2.1.toNat = true

/-- Where nothing was used ahead of it: they are not joined. -/
theorem Nf.apart {n : Nat} {L : Nat → Nat} {ls : List Lk} (h : goF n id ls = some L) {us us' : Nat → Bool} {a b : Nat} {S : Nat → Bool} (hf : Nf ls us us' a b S) (h0 : ∀ (i : Nat) (l : Lk), ls[i]? = some l → us i = false) : L a ≠ L b := fun e => by
  have := goF_closed h S (fun l hl => by
    obtain ⟨i, hi⟩ := List.getElem?_of_mem hl
    by_cases q : S l.1.toNat = true ∨ S l.2.1.toNat = true
    · obtain ⟨q1, q2⟩ := hf.new i l hi (h0 i l hi) (hf.all i l hi q)
      rw [q1, q2]
    · have q1 : S l.1.toNat = false := by cases e : S l.1.toNat; rfl; exact absurd (.inl e) q
      have q2 : S l.2.1.toNat = false := by cases e : S l.2.1.toNat; rfl; exact absurd (.inr e) q
      rw [q1, q2]) a b e
  rw [hf.isa, hf.isb] at this
  cases this

/-- .. while the links at a node are gone through, up to the k-th. -/
structure Nk (ls : List Lk) (us us' : Nat → Bool) (a b k : Nat) (S : Nat → Bool) : Prop where
  isa : S a = true
  isb : S b = false
  up : ∀ i, us i = true → us' i = true
  all : ∀ (i : Nat) (l : Lk), ls[i]? = some l → (∃ v, v ≠ a ∧ S v = true ∧ (l.1.toNat = v ∨ l.2.1.toNat = v)) → us' i = true
  at' : ∀ (i : Nat) (l : Lk), i < k → ls[i]? = some l → (l.1.toNat = a ∨ l.2.1.toNat = a) → us' i = true
  new : ∀ (i : Nat) (l : Lk), ls[i]? = some l → us i = false → us' i = true → S l.1.toNat = true ∧ S l.2.1.toNat = true

theorem Nk.start (ls : List Lk) (us : Nat → Bool) {a b : Nat} (h : a ≠ b) : Nk ls us us a b 0 (fun v => decide (v = a)) where
  isa := by simp
  isb := by simp [Ne.symm h]
  up := fun _ h => h
  all := fun i l _ ⟨v, h1, h2, _⟩ => by simp at h2; exact absurd h2 h1
  at' := fun i l hi => by omega
  new := fun i l _ h1 h2 => by rw [h1] at h2; cases h2

theorem Nk.skip {ls : List Lk} {us us' : Nat → Bool} {a b k : Nat} {S : Nat → Bool} {l : Lk} (h : Nk ls us us' a b k S) (hl : ls[k]? = some l) (hc : us' k = true ∨ ¬ (l.1.toNat = a ∨ l.2.1.toNat = a)) : Nk ls us us' a b (k + 1) S :=
  ⟨h.isa, h.isb, h.up, h.all, fun i m hi hm hx => by
    by_cases e : i = k
    · subst e
      rw [hl] at hm
      cases hm
      rcases hc with hc | hc
      · exact hc
      · exact absurd hx hc
    · exact h.at' i m (by omega) hm hx, h.new⟩

theorem Nk.step {ls : List Lk} {us us1 us2 us3 : Nat → Bool} {a b k nx : Nat} {S T : Nat → Bool} {l : Lk} (h : Nk ls us us1 a b k S) (hl : ls[k]? = some l) (hend : l.1.toNat = a ∧ l.2.1.toNat = nx ∨ l.2.1.toNat = a ∧ l.1.toNat = nx) (h2 : ∀ i, us2 i = (if i = k then true else us1 i)) (hf : Nf ls us2 us3 nx b T) : Nk ls us us3 a b (k + 1) (fun v => S v || T v) where
  isa := by simp [h.isa]
  isb := by simp [h.isb, hf.isb]
  up := fun i hi => hf.up i (by rw [h2]; split; rfl; exact h.up i hi)
  all := fun i m hm ⟨v, h1, h3, h4⟩ => by
    rcases (by simpa using h3 : S v = true ∨ T v = true) with q | q
    · exact hf.up i (by rw [h2]; split; rfl; exact h.all i m hm ⟨v, h1, q, h4⟩)
    · refine hf.all i m hm ?_
      rcases h4 with h4 | h4
      · exact .inl (by rw [h4]; exact q)
      · exact .inr (by rw [h4]; exact q)
  at' := fun i m hi hm hx => hf.up i (by
    rw [h2]
    split
    · rfl
    · rename_i e
      exact h.at' i m (by omega) hm hx)
  new := fun i m hm h1 h3 => by
    by_cases e : i = k
    · subst e
      rw [hl] at hm
      cases hm
      have qa := h.isa
      have qb := hf.isa
      rcases hend with ⟨e1, e2⟩ | ⟨e1, e2⟩
      · rw [e1, e2]; simp [qa, qb]
      · rw [e1, e2]; simp [qa, qb]
    · by_cases q : us1 i = true
      · obtain ⟨q1, q2⟩ := h.new i m hm h1 q
        simp [q1, q2]
      · obtain ⟨q1, q2⟩ := hf.new i m hm (by rw [h2, if_neg e]; simpa using q) h3
        simp [q1, q2]

theorem Nk.end {ls : List Lk} {us us' : Nat → Bool} {a b : Nat} {S : Nat → Bool} (h : Nk ls us us' a b ls.length S) : Nf ls us us' a b S :=
  ⟨h.isa, h.isb, h.up, fun i l hl hx => by
    have hi := (List.getElem?_eq_some_iff.1 hl).1
    by_cases e : l.1.toNat = a ∨ l.2.1.toNat = a
    · exact h.at' i l hi hl e
    · rcases hx with hx | hx
      · exact h.all i l hl ⟨l.1.toNat, fun q => e (.inl q), hx, .inl rfl⟩
      · exact h.all i l hl ⟨l.2.1.toNat, fun q => e (.inr q), hx, .inr rfl⟩, h.new⟩

end Go.Proofs.Ytakicdlfolhhcaa
