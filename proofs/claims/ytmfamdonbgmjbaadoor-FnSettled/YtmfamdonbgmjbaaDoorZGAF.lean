/- Several texts in one. -/
import Derived.Test.YtmfamdonbgmjbaaDoorZGAC

/- Clauses that are watched by two of their numbers. No program in sight. -/
namespace Go.Proofs.YtmfamdonbgmjbaaDoor
set_option linter.unusedVariables false
set_option linter.unusedSimpArgs false
open Go.RowKit

/-- One of the two that watch. -/
def eyeN (cl : List Int) (e : Nat × Nat) (n : Int) : Prop := cl[e.1]? = some n ∨ cl[e.2]? = some n
def okE (T : List Int) (ey : Nat → Nat × Nat) (du : Nat → Bool) (p : Nat) (cl : List Int) : Prop := du p = true ∨ metB T cl = true ∨ (2 ≤ cl.length ∧ ∀ n, eyeN cl (ey p) n → -n ∉ T)
/-- An eye that cannot stand was left so when it had to be: the clause was met, or had at most one open. -/
def Ey (cs : List (List Int)) (T : List Int) (ey : Nat → Nat × Nat) : Prop := ∀ (p : Nat) cl, cs[p]? = some cl → 2 ≤ cl.length → ∀ k T1 T2, eyeN cl (ey p) k → T = T1 ++ -k :: T2 → metB (T1 ++ [-k]) cl = true ∨ (opn (T1 ++ [-k]) cl).length ≤ 1
/-- What holds of the watches between two puts. -/
structure Wi (cs : List (List Int)) (T : List Int) (ey : Nat → Nat × Nat) (wt : Int → List Nat) (du : Nat → Bool) : Prop where
  a : ∀ (p : Nat) cl, cs[p]? = some cl → 2 ≤ cl.length → (ey p).1 < cl.length ∧ (ey p).2 < cl.length ∧ (ey p).1 ≠ (ey p).2
  b : ∀ n p, p ∈ wt n ↔ ∃ cl, cs[p]? = some cl ∧ 2 ≤ cl.length ∧ eyeN cl (ey p) n
  nd : ∀ n, (wt n).Nodup
  c : ∀ (p : Nat) cl, cs[p]? = some cl → okE T ey du p cl
  d : ∀ (p : Nat) cl, cs[p]? = some cl → du p = true → metB T cl = true ∨ (opn T cl).length ≤ 1
  r : ∀ p, du p = true → p < cs.length
  e : Ey cs T ey
theorem getE {cl : List Int} {i : Nat} (h : i < cl.length) : ∃ n, cl[i]? = some n := ⟨cl[i], List.getElem?_eq_getElem h⟩
theorem met_no {T cl : List Int} (h : metB T cl = false) {n : Int} (hn : n ∈ cl) : n ∉ T := fun hm => by
  have := metB_iff.2 ⟨n, hn, hm⟩
  rw [h] at this
  cases this
/-- A clause that is not due need not be looked at. -/
theorem Wi.not {cs : List (List Int)} {T : List Int} {ey : Nat → Nat × Nat} {wt : Int → List Nat} {du : Nat → Bool} (h : Wi cs T ey wt du) (hc : ∀ cl ∈ cs, Cd cl) {p : Nat} {cl : List Int} (hp : cs[p]? = some cl) (hd : du p = false) : dueB T cl = false := by
  unfold dueB
  cases hm : metB T cl with
  | true => rfl
  | false =>
    rcases h.c p cl hp with h1 | h1 | ⟨h1, h2⟩
    · rw [hd] at h1; cases h1
    · rw [hm] at h1; cases h1
    · obtain ⟨a1, a2, a3⟩ := h.a p cl hp h1
      obtain ⟨x, hx⟩ := getE a1
      obtain ⟨y, hy⟩ := getE a2
      have h9 := opn_two (hc cl (List.mem_of_getElem? hp)) a3 hx hy ⟨met_no hm (List.mem_of_getElem? hx), h2 x (.inl hx)⟩ ⟨met_no hm (List.mem_of_getElem? hy), h2 y (.inr hy)⟩
      rw [decide_eq_false (by omega)]
      rfl
theorem Wi.none {cs : List (List Int)} {T : List Int} {ey : Nat → Nat × Nat} {wt : Int → List Nat} {du : Nat → Bool} (h : Wi cs T ey wt du) (hc : ∀ cl ∈ cs, Cd cl) (hd : ∀ p, du p = false) : cs.find? (dueB T) = Option.none := find_no fun j c hj => h.not hc hj (hd j)
theorem Wi.first {cs : List (List Int)} {T : List Int} {ey : Nat → Nat × Nat} {wt : Int → List Nat} {du : Nat → Bool} (h : Wi cs T ey wt du) (hc : ∀ cl ∈ cs, Cd cl) {p : Nat} {cl : List Int} (hp : cs[p]? = some cl) (hd : du p = true) (hl : ∀ q, q < p → du q = false) (hm : metB T cl = false) : cs.find? (dueB T) = some cl := by
  refine find_first hp ?_ (fun j c hj hjc => h.not hc hjc (hl j hj))
  unfold dueB
  rw [hm]
  rcases h.d p cl hp hd with h1 | h1
  · rw [hm] at h1; cases h1
  · rw [decide_eq_true h1]; rfl
/-- A clause that is met is due no more. -/
theorem Wi.drop {cs : List (List Int)} {T : List Int} {ey : Nat → Nat × Nat} {wt : Int → List Nat} {du du' : Nat → Bool} (h : Wi cs T ey wt du) {p : Nat} {cl : List Int} (hp : cs[p]? = some cl) (hm : metB T cl = true) (h1 : du' p = false) (h2 : ∀ q, q ≠ p → du' q = du q) : Wi cs T ey wt du' := by
  refine ⟨h.a, h.b, h.nd, fun q c hq => ?_, fun q c hq hd => ?_, fun q hd => ?_, ?_⟩
  · by_cases e : q = p
    · subst e
      rw [hp] at hq
      cases hq
      exact .inr (.inl hm)
    · rcases h.c q c hq with h3 | h3
      · exact .inl (by rw [h2 q e]; exact h3)
      · exact .inr h3
  · by_cases e : q = p
    · subst e; rw [h1] at hd; cases hd
    · exact h.d q c hq (by rw [← h2 q e]; exact hd)
  · by_cases e : q = p
    · subst e; rw [h1] at hd; cases hd
    · exact h.r q (by rw [← h2 q e]; exact hd)
  · exact h.e

/-- What holds while those that watched the opposite of n are gone through: j of the row are done, kept are those that stay. -/
structure Wj (cs : List (List Int)) (T : List Int) (n : Int) (row : List Nat) (j : Nat) (kept : List Nat) (ey : Nat → Nat × Nat) (wt : Int → List Nat) (du : Nat → Bool) : Prop where
  a : ∀ (p : Nat) cl, cs[p]? = some cl → 2 ≤ cl.length → (ey p).1 < cl.length ∧ (ey p).2 < cl.length ∧ (ey p).1 ≠ (ey p).2
  b : ∀ k, k ≠ -n → ∀ p, p ∈ wt k ↔ ∃ cl, cs[p]? = some cl ∧ 2 ≤ cl.length ∧ eyeN cl (ey p) k
  b0 : ∀ p, p ∈ kept ++ row.drop j ↔ ∃ cl, cs[p]? = some cl ∧ 2 ≤ cl.length ∧ eyeN cl (ey p) (-n)
  nd : ∀ k, k ≠ -n → (wt k).Nodup
  nd0 : (kept ++ row.drop j).Nodup
  c : ∀ (p : Nat) cl, cs[p]? = some cl → p ∈ row.drop j ∨ okE (T ++ [n]) ey du p cl
  o : ∀ (p : Nat) cl, cs[p]? = some cl → p ∈ row.drop j → okE T ey du p cl
  d : ∀ (p : Nat) cl, cs[p]? = some cl → du p = true → metB (T ++ [n]) cl = true ∨ (opn (T ++ [n]) cl).length ≤ 1
  r : ∀ p, du p = true → p < cs.length
  e : Ey cs T ey
  e1 : ∀ (p : Nat) cl, cs[p]? = some cl → 2 ≤ cl.length → eyeN cl (ey p) (-n) → p ∈ row.drop j ∨ metB (T ++ [n]) cl = true ∨ (opn (T ++ [n]) cl).length ≤ 1
theorem Wi.begin {cs : List (List Int)} {T : List Int} {ey : Nat → Nat × Nat} {wt : Int → List Nat} {du : Nat → Bool} (h : Wi cs T ey wt du) (n : Int) : Wj cs T n (wt (-n)) 0 [] ey wt du := by
  refine ⟨h.a, fun k _ => h.b k, fun p => by simpa using h.b (-n) p, fun k _ => h.nd k, by simpa using h.nd (-n), fun p cl hp => ?_, fun p cl hp _ => h.c p cl hp, fun p cl hp hd => ?_, h.r, h.e, fun p cl hp h2 he => .inl (by rw [List.drop_zero]; exact (h.b (-n) p).2 ⟨cl, hp, h2, he⟩)⟩
  · rw [List.drop_zero]
    rcases h.c p cl hp with h1 | h1 | ⟨h1, h2⟩
    · exact .inr (.inl h1)
    · exact .inr (.inr (.inl (metB_mono h1)))
    · by_cases e : eyeN cl (ey p) (-n)
      · exact .inl ((h.b (-n) p).2 ⟨cl, hp, h1, e⟩)
      · refine .inr (.inr (.inr ⟨h1, fun k hk hm => ?_⟩))
        rcases List.mem_append.1 hm with hm | hm
        · exact h2 k hk hm
        · rw [List.mem_singleton] at hm
          exact e (by rw [← hm, Int.neg_neg]; exact hk)
  · rcases h.d p cl hp hd with h1 | h1
    · exact .inl (metB_mono h1)
    · exact .inr (Nat.le_trans opn_le h1)
theorem Wj.end {cs : List (List Int)} {T : List Int} {n : Int} {row : List Nat} {kept : List Nat} {ey : Nat → Nat × Nat} {wt wt' : Int → List Nat} {du : Nat → Bool} {j : Nat} (h : Wj cs T n row j kept ey wt du) (hj : row.length ≤ j) (h1 : wt' (-n) = kept) (h2 : ∀ k, k ≠ -n → wt' k = wt k) : Wi cs (T ++ [n]) ey wt' du := by
  have hd : row.drop j = [] := List.drop_eq_nil_of_le hj
  have hb0 := h.b0
  have hn0 := h.nd0
  rw [hd, List.append_nil] at hb0 hn0
  refine ⟨h.a, fun k p => ?_, fun k => ?_, fun p cl hp => ?_, h.d, h.r, fun p cl hp h2 k T1 T2 he hT => ?_⟩
  · by_cases e : k = -n
    · subst e; rw [h1]; exact hb0 p
    · rw [h2 k e]; exact h.b k e p
  · by_cases e : k = -n
    · subst e; rw [h1]; exact hn0
    · rw [h2 k e]; exact h.nd k e
  · rcases h.c p cl hp with h9 | h9
    · rw [hd] at h9; cases h9
    · exact h9
  · rcases List.eq_nil_or_concat T2 with rfl | ⟨T3, x, rfl⟩
    · obtain ⟨e1, e2⟩ := List.append_inj' hT rfl
      obtain ⟨e2, -⟩ := List.cons.inj e2
      subst e1
      have hk : k = -n := by omega
      subst hk
      rcases h.e1 p cl hp h2 he with h9 | h9
      · rw [hd] at h9; cases h9
      · rwa [Int.neg_neg]
    · rw [List.concat_eq_append, ← List.cons_append, ← List.append_assoc] at hT
      obtain ⟨e1, -⟩ := List.append_inj' hT rfl
      exact h.e p cl hp h2 k T1 T3 he e1
theorem drop_at {row : List Nat} {j p : Nat} (h : row[j]? = some p) : row.drop j = p :: row.drop (j + 1) := by
  obtain ⟨h1, rfl⟩ := List.getElem?_eq_some_iff.1 h
  exact List.drop_eq_getElem_cons h1
/-- It stays with the one that it has: it is met, or is due now. -/
theorem Wj.keep {cs : List (List Int)} {T : List Int} {n : Int} {row kept : List Nat} {ey : Nat → Nat × Nat} {wt : Int → List Nat} {du du' : Nat → Bool} {j p : Nat} {cl : List Int} (h : Wj cs T n row j kept ey wt du) (hr : row[j]? = some p) (hp : cs[p]? = some cl) (h1 : ∀ q, q ≠ p → du' q = du q) (h2 : du p = true → du' p = true) (h3 : du' p = true ∨ metB (T ++ [n]) cl = true) (h4 : du' p = true → metB (T ++ [n]) cl = true ∨ (opn (T ++ [n]) cl).length ≤ 1) : Wj cs T n row (j + 1) (kept ++ [p]) ey wt du' := by
  have hd := drop_at hr
  have hb0 := h.b0
  have hn0 := h.nd0
  rw [hd, show kept ++ p :: row.drop (j + 1) = (kept ++ [p]) ++ row.drop (j + 1) by simp] at hb0 hn0
  have hup : ∀ q, du q = true → du' q = true := fun q hq => by
    by_cases e : q = p
    · subst e; exact h2 hq
    · rw [h1 q e]; exact hq
  refine ⟨h.a, h.b, hb0, h.nd, hn0, fun q c hq => ?_, fun q c hq hm => ?_, fun q c hq hdq => ?_, fun q hdq => ?_, h.e, fun q c hq h2 he => ?_⟩
  · by_cases e : q = p
    · subst e
      rw [hp] at hq
      cases hq
      exact .inr (h3.imp id .inl)
    · rcases h.c q c hq with h9 | h9
      · rw [hd] at h9
        rcases List.mem_cons.1 h9 with h9 | h9
        · exact absurd h9 e
        · exact .inl h9
      · exact .inr (h9.imp (hup q) id)
  · exact (h.o q c hq (by rw [hd]; exact List.mem_cons_of_mem _ hm)).imp (hup q) id
  · by_cases e : q = p
    · subst e
      rw [hp] at hq
      cases hq
      exact h4 hdq
    · exact h.d q c hq (by rw [← h1 q e]; exact hdq)
  · by_cases e : q = p
    · subst e; exact (List.getElem?_eq_some_iff.1 hp).1
    · exact h.r q (by rw [← h1 q e]; exact hdq)
  · by_cases e : q = p
    · subst e
      rw [hp] at hq
      cases hq
      exact .inr (h3.elim h4 .inl)
    · rcases h.e1 q c hq h2 he with h9 | h9
      · rw [hd] at h9
        rcases List.mem_cons.1 h9 with h9 | h9
        · exact absurd h9 e
        · exact .inl h9
      · exact .inr h9
/-- Another number watches it. -/
theorem Wj.pass {cs : List (List Int)} {T : List Int} {n : Int} {row kept : List Nat} {ey ey' : Nat → Nat × Nat} {wt wt' : Int → List Nat} {du : Nat → Bool} {j p : Nat} {cl : List Int} {i : Nat} {k x : Int} (h : Wj cs T n row j kept ey wt du) (hc : Cd cl) (hr : row[j]? = some p) (hp : cs[p]? = some cl)
    (hi : cl[i]? = some k) (hk : -k ∉ T ++ [n]) (hx : eyeN cl (ey p) (-n))
    (hy1 : ∀ q, q ≠ p → ey' q = ey q) (hy2 : (ey' p = (i, (ey p).2) ∧ cl[(ey p).1]? = some (-n) ∧ i ≠ (ey p).2 ∧ cl[(ey p).2]? = some x) ∨ (ey' p = ((ey p).1, i) ∧ cl[(ey p).2]? = some (-n) ∧ i ≠ (ey p).1 ∧ cl[(ey p).1]? = some x))
    (hw1 : wt' k = wt k ++ [p]) (hw2 : ∀ q, q ≠ k → wt' q = wt q) : Wj cs T n row (j + 1) kept ey' wt' du := by
  have hd := drop_at hr
  have hkn : k ≠ -n := fun e => hk (by rw [e]; simp)
  have hmem : p ∈ row.drop j := by rw [hd]; exact List.mem_cons_self
  obtain ⟨cl', hp', h2l, -⟩ := (h.b0 p).1 (List.mem_append.2 (.inr hmem))
  rw [hp] at hp'
  cases hp'
  have hil := (List.getElem?_eq_some_iff.1 hi).1
  obtain ⟨a1, a2, a3⟩ := h.a p cl hp h2l
  -- who watches now
  have hnow : ∀ m, eyeN cl (ey' p) m ↔ m = k ∨ m = x := fun m => by
    unfold eyeN
    rcases hy2 with ⟨e, -, -, e3⟩ | ⟨e, -, -, e3⟩ <;> rw [e] <;> simp only [hi, e3, Option.some.injEq] <;> constructor <;> (rintro (h | h)) <;> simp_all
  have hwas : ∀ m, eyeN cl (ey p) m ↔ m = -n ∨ m = x := fun m => by
    unfold eyeN
    rcases hy2 with ⟨-, e2, -, e3⟩ | ⟨-, e2, -, e3⟩ <;> simp only [e2, e3, Option.some.injEq] <;> constructor <;> (rintro (h | h)) <;> simp_all
  have hxn : x ≠ -n := fun e => by
    rcases hy2 with ⟨-, e2, -, e3⟩ | ⟨-, e2, -, e3⟩
    · exact a3 (hc.inj e2 e3 (.inl e.symm))
    · exact a3 (hc.inj e3 e2 (.inl e))
  have hxk : x ≠ k := fun e => by
    rcases hy2 with ⟨-, -, e4, e3⟩ | ⟨-, -, e4, e3⟩ <;> exact e4 (hc.inj hi e3 (.inl e.symm))
  have hn0 := h.nd0
  have hb0 := h.b0
  rw [hd] at hn0 hb0
  have hpk : p ∉ kept ++ row.drop (j + 1) := by
    rw [List.nodup_append] at hn0
    obtain ⟨-, h2, h3⟩ := hn0
    rw [List.nodup_cons] at h2
    intro hm
    rcases List.mem_append.1 hm with hm | hm
    · exact h3 p hm p List.mem_cons_self rfl
    · exact h2.1 hm
  have hn1 : (kept ++ row.drop (j + 1)).Nodup := by
    rw [List.nodup_append] at hn0 ⊢
    obtain ⟨h1, h2, h3⟩ := hn0
    rw [List.nodup_cons] at h2
    exact ⟨h1, h2.2, fun a ha b hb => h3 a ha b (List.mem_cons_of_mem _ hb)⟩
  have hpw : p ∉ wt k := fun hm => by
    obtain ⟨c', h1, -, h3⟩ := (h.b k hkn p).1 hm
    rw [hp] at h1
    cases h1
    rcases (hwas k).1 h3 with e | e
    · exact hkn e
    · exact hxk e.symm
  refine ⟨fun q c hq h2 => ?_, fun m hm q => ?_, fun q => ?_, fun m hm => ?_, hn1, fun q c hq => ?_, fun q c hq hm => ?_, h.d, h.r, fun q c hq h2 m T1 T2 he hT => ?_, fun q c hq h2 he => ?_⟩
  · by_cases e : q = p
    · subst e
      rw [hp] at hq
      cases hq
      rcases hy2 with ⟨e, -, e4, -⟩ | ⟨e, -, e4, -⟩ <;> rw [e]
      · exact ⟨hil, a2, e4⟩
      · exact ⟨a1, hil, fun e9 => e4 e9.symm⟩
    · rw [hy1 q e]; exact h.a q c hq h2
  · by_cases e : q = p
    · subst e
      constructor
      · intro hq
        refine ⟨cl, hp, h2l, (hnow m).2 ?_⟩
        by_cases em : m = k
        · exact .inl em
        · rw [hw2 m em] at hq
          obtain ⟨c', h1, -, h3⟩ := (h.b m hm q).1 hq
          rw [hp] at h1
          cases h1
          rcases (hwas m).1 h3 with e | e
          · exact absurd e hm
          · exact .inr e
      · rintro ⟨c', h1, -, h3⟩
        rw [hp] at h1
        cases h1
        rcases (hnow m).1 h3 with e | e
        · subst e; rw [hw1]; simp
        · subst e
          rw [hw2 m hxk]
          exact (h.b m hm q).2 ⟨cl, hp, h2l, (hwas m).2 (.inr rfl)⟩
    · rw [hy1 q e]
      by_cases em : m = k
      · subst em
        rw [hw1, List.mem_append, List.mem_singleton]
        constructor
        · rintro (h9 | h9)
          · exact (h.b m hm q).1 h9
          · exact absurd h9 e
        · intro h9; exact .inl ((h.b m hm q).2 h9)
      · rw [hw2 m em]; exact h.b m hm q
  · by_cases e : q = p
    · subst e
      constructor
      · intro hm; exact absurd hm hpk
      · rintro ⟨c', h1, -, h3⟩
        rw [hp] at h1
        cases h1
        rcases (hnow (-n)).1 h3 with e | e
        · exact absurd e.symm hkn
        · exact absurd e.symm hxn
    · rw [hy1 q e, ← hb0 q, List.mem_append, List.mem_append, List.mem_cons]
      constructor
      · rintro (h9 | h9)
        · exact .inl h9
        · exact .inr (.inr h9)
      · rintro (h9 | h9 | h9)
        · exact .inl h9
        · exact absurd h9 e
        · exact .inr h9
  · by_cases em : m = k
    · subst em
      rw [hw1, List.nodup_append]
      exact ⟨h.nd m hm, by simp, fun a ha b hb e => hpw (by rw [List.mem_singleton] at hb; rw [← hb, ← e]; exact ha)⟩
    · rw [hw2 m em]; exact h.nd m hm
  · by_cases e : q = p
    · subst e
      rw [hp] at hq
      cases hq
      right
      rcases h.o q cl hp hmem with h1 | h1 | ⟨h1, h3⟩
      · exact .inl h1
      · exact .inr (.inl (metB_mono h1))
      · refine .inr (.inr ⟨h2l, fun m hm hT => ?_⟩)
        rcases (hnow m).1 hm with e | e
        · subst e; exact hk hT
        · subst e
          rcases List.mem_append.1 hT with hT | hT
          · exact h3 m ((hwas m).2 (.inr rfl)) hT
          · rw [List.mem_singleton] at hT
            exact hxn (by rw [← hT, Int.neg_neg])
    · rcases h.c q c hq with h9 | h9
      · rw [hd] at h9
        rcases List.mem_cons.1 h9 with h9 | h9
        · exact absurd h9 e
        · exact .inl h9
      · unfold okE at h9 ⊢
        rw [hy1 q e]
        exact .inr h9
  · have e : q ≠ p := fun e => by
      subst e
      exact hpk (List.mem_append.2 (.inr hm))
    have h9 := h.o q c hq (by rw [hd]; exact List.mem_cons_of_mem _ hm)
    unfold okE at h9 ⊢
    rw [hy1 q e]
    exact h9
  · by_cases e : q = p
    · subst e
      rw [hp] at hq
      cases hq
      rcases (hnow m).1 he with e | e
      · subst e
        exact absurd (by rw [hT]; simp) hk
      · exact h.e q cl hp h2 m T1 T2 ((hwas m).2 (.inr e)) hT
    · rw [hy1 q e] at he
      exact h.e q c hq h2 m T1 T2 he hT
  · by_cases e : q = p
    · subst e
      rw [hp] at hq
      cases hq
      rcases (hnow (-n)).1 he with e | e
      · exact absurd e.symm hkn
      · exact absurd e.symm hxn
    · rw [hy1 q e] at he
      rcases h.e1 q c hq h2 he with h9 | h9
      · rw [hd] at h9
        rcases List.mem_cons.1 h9 with h9 | h9
        · exact absurd h9 e
        · exact .inl h9
      · exact .inr h9
/-- All but one are refuted. -/
theorem opn_one {T cl : List Int} (hc : Cd cl) {o : Nat} (h : ∀ (i : Nat) m, i ≠ o → cl[i]? = some m → -m ∈ T) : (opn T cl).length ≤ 1 := by
  rcases Nat.lt_or_ge 1 (opn T cl).length with h1 | h1
  · exfalso
    have hs : (opn T cl).Sublist cl := List.filter_sublist
    match hl : opn T cl, h1 with
    | [], h1 => simp at h1
    | [x], h1 => simp at h1
    | x :: y :: t, _ =>
      have hx : x ∈ opn T cl := by rw [hl]; simp
      have hy : y ∈ opn T cl := by rw [hl]; simp
      obtain ⟨x1, -, x3⟩ := opn_mem.1 hx
      obtain ⟨y1, -, y3⟩ := opn_mem.1 hy
      obtain ⟨i, hi⟩ := List.getElem?_of_mem x1
      obtain ⟨k, hk⟩ := List.getElem?_of_mem y1
      have ei : i = o := Classical.byContradiction fun e => x3 (h i x e hi)
      have ek : k = o := Classical.byContradiction fun e => y3 (h k y e hk)
      subst ei
      subst ek
      rw [hi] at hk
      cases hk
      rw [hl] at hs
      have hnd : cl.Nodup := by
        rw [List.nodup_iff_pairwise_ne, List.pairwise_iff_getElem]
        intro i j hi hj hij e
        exact hc i j _ _ hij (List.getElem?_eq_getElem hi) (List.getElem?_eq_getElem hj) (by rw [e])
      have := hs.nodup hnd
      simp at this
  · exact h1
/-- Taken back to where nothing was due. -/
theorem Wi.undo {cs : List (List Int)} {T T1 : List Int} {ey : Nat → Nat × Nat} {wt : Int → List Nat} {du du' : Nat → Bool} (h : Wi cs (T ++ T1) ey wt du) (hn : cs.find? (dueB T) = Option.none) (hd : ∀ p, du' p = false) : Wi cs T ey wt du' := by
  have hnd : ∀ (p : Nat) cl, cs[p]? = some cl → metB T cl = true ∨ 2 ≤ (opn T cl).length := fun p cl hp => by
    have h1 := List.find?_eq_none.1 hn cl (List.mem_of_getElem? hp)
    cases hm : metB T cl with
    | true => exact .inl rfl
    | false =>
      refine .inr ?_
      unfold dueB at h1
      rw [hm] at h1
      simp at h1
      omega
  have hey : ∀ (p : Nat) cl, cs[p]? = some cl → 2 ≤ cl.length → ∀ k, eyeN cl (ey p) k → -k ∈ T → metB T cl = true := fun p cl hp h2 k hk hm => by
    obtain ⟨A, B, rfl⟩ := List.append_of_mem hm
    have h3 := h.e p cl hp h2 k A (B ++ T1) hk (by simp)
    have e4 : A ++ -k :: B = (A ++ [-k]) ++ B := by simp
    have hmono : ∀ (X Y : List Int), metB X cl = true → metB (X ++ Y) cl = true := fun X Y hx => by
      obtain ⟨n, h1, h2⟩ := metB_iff.1 hx
      exact metB_iff.2 ⟨n, h1, List.mem_append.2 (.inl h2)⟩
    have hle : ∀ (Y X : List Int), (opn (X ++ Y) cl).length ≤ (opn X cl).length := fun Y => by
      induction Y with
      | nil => intro X; rw [List.append_nil]; exact Nat.le_refl _
      | cons y t ih =>
        intro X
        rw [show X ++ y :: t = (X ++ [y]) ++ t by simp]
        exact Nat.le_trans (ih _) opn_le
    rcases h3 with h3 | h3
    · rw [e4]; exact hmono _ _ h3
    · rcases hnd p cl hp with h5 | h5
      · exact h5
      · exfalso
        have := hle B (A ++ [-k])
        rw [← e4] at this
        omega
  refine ⟨h.a, h.b, h.nd, fun p cl hp => ?_, fun p cl hp h1 => absurd h1 (by rw [hd p]; decide), fun p h1 => absurd h1 (by rw [hd p]; decide), fun p cl hp h2 k A B hk hT => ?_⟩
  · by_cases hm : metB T cl = true
    · exact .inr (.inl hm)
    · have h5 : 2 ≤ (opn T cl).length := (hnd p cl hp).resolve_left hm
      have h6 : (opn T cl).length ≤ cl.length := List.length_filter_le _ _
      have h7 : 2 ≤ cl.length := by omega
      exact .inr (.inr ⟨h7, fun k hk hx => hm (hey p cl hp h7 k hk hx)⟩)
  · exact h.e p cl hp h2 k A (B ++ T1) hk (by rw [hT]; simp)
end Go.Proofs.YtmfamdonbgmjbaaDoor

/- 'append(out, list...)' of words and of numbers, the list wherever it lies, also where there is none. -/
namespace Go.Proofs.YtmfamdonbgmjbaaDoor
set_option linter.unusedVariables false
set_option linter.unusedSimpArgs false
open Go.RowKit

theorem rd_cellsI {w : World} {ad : Addr} {ys : List Int} (hr : RdI w (some ad) ys) : ∀ j u, (i64s ys).toList[j]? = some u → w.cell? (ad.add j) = some u := by
  intro j u hj
  have hj' : j < ys.length := by
    have := (List.getElem?_eq_some_iff.1 hj).1
    simpa [i64s] using this
  obtain ⟨-, -, h | ⟨b, o, e, hc⟩⟩ := hr
  · rw [h] at hj'; simp at hj'
  · cases e
    rw [Addr.add_lit, hc j hj']
    simp [i64s, hj'] at hj
    rw [← hj]
    simp [List.getD, hj']
theorem rd_noneI {w : World} {ys : List Int} (hr : RdI w none ys) : ys = [] := by
  obtain ⟨-, -, h | ⟨b, o, e, hc⟩⟩ := hr
  · exact h
  · cases e

theorem wp_appIr (w : World) {o : Oper} {a : Act} {K : Act → World → Prop} {Q : Exit → Act → World → Prop} (s x : Operand)
    (ho : o.op = .call { callee := .builtin .append, args := #[s, x], argTypes := #[25, 25] })
    (base : Nat) (v : Value) (bs ys : List Int) (hs : a.eval s = v) (hown : OI w base v bs) (xa : Option Addr) (c : Nat) (hx : a.eval x = .slice xa ys.length c) (hc0 : xa = none → c = 0)
    (hr : RdI w xa ys) (hl : bs.length + ys.length ≤ 4194304) (hbase : base ≤ w.heap.size)
    (h : ∀ v' w', OI w' base v' (bs ++ ys) → w.grownBy w' v.ownBlock → K (a.put o.dst v') w') : Oper.wp Tryd.prog o a w K Q := by
  obtain ⟨i0, hi, hz0, hz1, hz2⟩ := info_parts Tryd.infoI64
  cases xa with
  | none =>
    have e := rd_noneI hr
    subst e
    have ec := hc0 rfl
    subst ec
    have hr9 := run_append_owned_none (P := Tryd.prog) (w := w) base 25 o.type 2 i0 1 Tryd.underlying25 hi v bs.length (i64s bs).toList hown
    unfold Oper.wp execOp
    simp only [ho, resolve, invoke, builtin, Sem.run_bind, Sem.run_pure, Result.andThen_ok, List.map_toArray, List.map_cons, List.map_nil, hs, hx, List.length_nil, hr9]
    exact h v w (by rw [List.append_nil]; exact hown) (World.grownBy.refl w _)
  | some ad =>
    refine wp_append_own w s x 25 ho base 2 i0 (.int .i64 0) 1 8 Tryd.underlying25 hi hz0 hz1 hz2 rfl (by decide) v bs.length (i64s bs).toList hs hown ad ys.length c (i64s ys).toList hx (by simp [i64s]) (rd_cellsI hr) ?_ ?_ ?_ hbase ?_
    · intro u hu
      simp [i64s] at hu
      obtain ⟨_, _, rfl⟩ := hu
      rfl
    · unfold maxLen; omega
    · omega
    · intro v' w' h1 h2 _
      refine h v' w' ?_ h2
      unfold OI
      simpa [i64s] using h1
theorem step_appIr (w : World) {ops : Array Oper} {o : Oper} {a : Act} {K : Act → World → Prop} {Q : Exit → Act → World → Prop} {E : Prop} (hgd : o.guard = none) (s x : Operand)
    (ho : o.op = .call { callee := .builtin .append, args := #[s, x], argTypes := #[25, 25] })
    (base : Nat) (v : Value) (bs ys : List Int) (hs : a.eval s = v) (hown : OI w base v bs) (xa : Option Addr) (c : Nat) (hx : a.eval x = .slice xa ys.length c) (hc0 : xa = none → c = 0)
    (hr : RdI w xa ys) (hl : bs.length + ys.length ≤ 4194304) (hbase : base ≤ w.heap.size)
    (h : ∀ v' w', OI w' base v' (bs ++ ys) → w.grownBy w' v.ownBlock → K (a.put o.dst v') w') :
    if Region.wanted o (yielded ops a.tmps) = true then Oper.wp Tryd.prog o a w K Q else E := by
  have hw : Region.wanted o (yielded ops a.tmps) = true := by simp [Region.wanted, hgd]
  rw [if_pos hw]
  exact wp_appIr w s x ho base v bs ys hs hown xa c hx hc0 hr hl hbase h
theorem wpList_appIr (w : World) {ops : Array Oper} {rest : List Oper} {o : Oper} {a : Act} {Q : Exit → Act → World → Prop} (hgd : o.guard = none) (s x : Operand)
    (ho : o.op = .call { callee := .builtin .append, args := #[s, x], argTypes := #[25, 25] })
    (base : Nat) (v : Value) (bs ys : List Int) (hs : a.eval s = v) (hown : OI w base v bs) (xa : Option Addr) (c : Nat) (hx : a.eval x = .slice xa ys.length c) (hc0 : xa = none → c = 0)
    (hr : RdI w xa ys) (hl : bs.length + ys.length ≤ 4194304) (hbase : base ≤ w.heap.size)
    (h : ∀ v' w', OI w' base v' (bs ++ ys) → w.grownBy w' v.ownBlock → wpList Tryd.prog ops Q rest (a.put o.dst v') w') : wpList Tryd.prog ops Q (o :: rest) a w :=
  wpList_plain hgd fun _ hK => wp_appIr w s x ho base v bs ys hs hown xa c hx hc0 hr hl hbase fun v' w' h2 h3 => hK _ _ (h v' w' h2 h3)

end Go.Proofs.YtmfamdonbgmjbaaDoor

/- What the given CnfOk answers. -/
namespace Go.Proofs.YtmfamdonbgmjbaaDoor
set_option linter.unusedVariables false
set_option linter.unusedSimpArgs false
open Go.RowKit

theorem cnfR_no1 {S : Int} {cs : List (List Int)} (h : decide (0 ≤ S ∧ S ≤ 400) = false) : cnfR S cs = false := by unfold cnfR; rw [h]; rfl
theorem cnfR_no2 {S : Int} {cs : List (List Int)} (h : ¬ cs.length ≤ 4000) : cnfR S cs = false := by unfold cnfR; rw [decide_eq_false h]; simp
theorem cnfR_yes {S : Int} {cs : List (List Int)} (h : decide (0 ≤ S ∧ S ≤ 400) = true) (h2 : cs.length ≤ 4000) : cnfR S cs = cs.all (claR S) := by unfold cnfR; rw [h, decide_eq_true h2]; rfl

set_option maxHeartbeats 1000000 in
theorem specCnf_any (S : Int) (a : Option Addr) (c n : Nat) (xs : List Iw) (w : World) (hs : RdII w a xs) (hn : xs.length = n) :
    Calls Tryd.prog 25 #[.agg #[.int .i64 S, .slice a n c]] w fun e w' => e = .returned (.bool (cnfR S (xs.map Iw.ks))) ∧ Below w.heap.size w w' := by
  have hl2 := hs.1
  rw [hn] at hl2
  have hb0 : Below w.heap.size w (w.alloc (Obj.cells #[Value.int .i64 S, Value.slice a n c] 29)) := (Below.refl _ _).alloc (Nat.le_refl _) _
  have B0 := kide hb0
  have c0 : (w.alloc (Obj.cells #[Value.int .i64 S, Value.slice a n c] 29)).cell? ⟨w.heap.size, 0, none⟩ = some (Value.int .i64 S) := by simp
  have c1 : (w.alloc (Obj.cells #[Value.int .i64 S, Value.slice a n c] 29)).cell? ⟨w.heap.size, 1, none⟩ = some (Value.slice a n c) := by simp
  have l0 : w.heap.size < (w.alloc (Obj.cells #[Value.int .i64 S, Value.slice a n c] 29)).heap.size := by simp
  have HI := kide (fun u => l1In_any S 0 400 u)
  have HXS := kide (hs.later hb0)
  cases hd : decide (0 ≤ S ∧ S ≤ 400) with
  | false =>
    rw [cnfR_no1 hd]
    rw [hd] at HI
    clear hd hb0 hs hn HXS
    go_enter Tryd.func25, Tryd.ntmps25
    go_wp2_with fail
    generalize (w.alloc (Obj.cells #[Value.int .i64 S, Value.slice a n c] 29)) = w0 at *
    refine Calls.mono (HI.out _) ?_
    rintro e w0 ⟨rfl, rfl⟩
    go_wp2_with fail
    go_ret
    exact ⟨rfl, B0.out⟩
  | true =>
    rw [hd] at HI
    by_cases h4 : n ≤ 4000
    · have hn4 : (xs.map Iw.ks).length ≤ 4000 := by rw [List.length_map, hn]; exact h4
      rw [cnfR_yes hd hn4]
      obtain ⟨hS0, hS1⟩ := of_decide_eq_true hd
      generalize hzz : (xs.map Iw.ks).all (claR S) = Z
      have HZ := kide hzz
      have HN := kide hn
      clear hd hb0 hs hn hn4 hzz
      go_enter Tryd.func25, Tryd.ntmps25
      go_wp2_with fail
      generalize (w.alloc (Obj.cells #[Value.int .i64 S, Value.slice a n c] 29)) = w0 at *
      refine Calls.mono (HI.out _) ?_
      rintro e w0 ⟨rfl, rfl⟩
      go_wp2_with fail
      go_loopw [3] (fun i wr => ∃ k : Nat, k ≤ n ∧ i = .int .i64 (k : Int) ∧ ((xs.map Iw.ks).drop k).all (claR S) = Z ∧ Below w0.heap.size w0 wr) (fun i _ => n - (intOf i).toNat)
      case atStart => exact ⟨0, Nat.zero_le _, rfl, by simpa using HZ.out, Below.refl _ _⟩
      case round =>
        obtain ⟨k, hk, rfl, hz, hbel⟩ := hrel
        have HBK := kide hbel
        have d0 := kcell hbel w.heap.size 0 l0
        have d1 := kcell hbel w.heap.size 1 l0
        rw [c0] at d0
        rw [c1] at d1
        by_cases hlt : k < n
        · obtain ⟨-, h | ⟨b2, o2, rfl, hc2⟩⟩ := HXS.out
          · have := HN.out; subst h; simp at this; omega
          obtain ⟨⟨a1, cc1, k1⟩, gx⟩ : ∃ x, xs[k]? = some x := ⟨xs[k]'(by rw [HN.out]; exact hlt), List.getElem?_eq_getElem _⟩
          have HP1 := kide (hc2 k _ gx)
          obtain ⟨f1, f2⟩ := (hc2 k _ gx).later hbel
          simp only [] at f1 f2
          rw [all_step (x := k1) (by rw [List.getElem?_map, gx]; rfl)] at hz
          have i0 : (k : Int) < (n : Int) := by omega
          have hkl := f2.1
          generalize hg : ((xs.map Iw.ks).drop (k + 1)).all (claR S) = Z2 at *
          have HG := kide hg
          clear hc2 gx hg hbel f2
          by_cases h400 : k1.length ≤ 400
          · have HRZ : Hid ((clR S 0 k1 && Z2) = Z) := by show _ = _; rw [← hz, claR, decide_eq_true h400]; rfl
            clear hz
            go_wp2_with fail
            clear d0 d1 f1
            obtain ⟨wo, hwo⟩ : ∃ wo, wo = wr := ⟨_, rfl⟩
            subst hwo
            go_loopw [4] (fun i wr => ∃ (j : Nat) (last : Int), j ≤ k1.length ∧ i = .int .i64 (j : Int) ∧ (j = 0 → last = 0) ∧ (0 < j → ∃ p, last = absI p ∧ p = k1.getD (j - 1) 0 ∧ -400 ≤ p ∧ p ≤ 400) ∧ (clR S last (k1.drop j) && Z2) = Z ∧ Below w0.heap.size w0 wr) (fun i _ => k1.length - (intOf i).toNat)
            case atStart => exact ⟨0, 0, Nat.zero_le _, rfl, fun _ => rfl, fun h => by omega, by simpa using HRZ.out, HBK.out⟩
            case round =>
              obtain ⟨j, last, hj, rfl, hj0, hjs, hz, hbel⟩ := hrel
              have HB := kide hbel
              have d0 := kcell hbel w.heap.size 0 l0
              have d1 := kcell hbel w.heap.size 1 l0
              rw [c0] at d0
              rw [c1] at d1
              obtain ⟨p1, p2⟩ := HP1.out.later hbel
              simp only [] at p1 p2
              by_cases hjl : j < k1.length
              · obtain ⟨-, hi64, h | ⟨b3, o3, rfl, hc3⟩⟩ := p2
                · subst h; simp at hjl
                have e3 := hc3 j hjl
                rw [clR_step hjl] at hz
                have hprev : 0 < j → _ := fun h => hc3 (j - 1) (by omega)
                generalize hx : k1.getD j 0 = x at *
                have HX := kide hx
                have j0 : (j : Int) < (k1.length : Int) := by omega
                have HZJ := kide hz
                have HIN := kide (fun u => l1In_any x (-S) S u)
                clear hc3 hi64 hz hx hbel
                by_cases hx0 : x = 0
                · have q0 : (x == 0) = true := by simp [hx0]
                  have HF : Hid (Z = false) := by have h := HZJ.out; simp [hx0, numR] at h; exact h
                  clear hx0 hprev hj0 hjs
                  go_wp2_with fail
                  go_quiet ((first | (go_at_call 30; exact Calls.quiet_of_same (HIN.out _)) | fail))
                  go_wp2_with fail
                  go_ret
                  exact ⟨ret_bool HF.out.symm, B0.out.trans ((below_drewN HB.out _).mono B0.out.size)⟩
                have q0 : (x == 0) = false := by simp [hx0]
                cases hdd : decide (-S ≤ x ∧ x ≤ S) with
                | false =>
                  rw [hdd] at HIN
                  have HF : Hid (Z = false) := by have h := HZJ.out; simp [numR, hdd] at h; exact h
                  clear hx0 hprev hj0 hjs hdd
                  go_wp2_with fail
                  go_quiet ((first | (go_at_call 30; exact Calls.quiet_of_same (HIN.out _)) | fail))
                  go_wp2_with fail
                  go_ret
                  exact ⟨ret_bool HF.out.symm, B0.out.trans ((below_drewN HB.out _).mono B0.out.size)⟩
                | true =>
                  rw [hdd] at HIN
                  have hxx := of_decide_eq_true hdd
                  have HNU : Hid (numR S x = true) := by show _ = _; simp [numR, hx0, hxx]
                  obtain ⟨hx1, hx2⟩ := hxx
                  have HA := kide (fun u => l18Abs_any x (by omega) u)
                  clear hdd
                  cases j with
                  | zero =>
                    have hl := hj0 rfl
                    subst hl
                    have HNX : Hid ((clR S (absI x) (k1.drop 1) && Z2) = Z) := by
                      show _ = _
                      have h := HZJ.out
                      have ha : (0 : Int) < absI x := by rw [absI_def]; split <;> omega
                      rw [HNU.out, decide_eq_true ha] at h
                      simpa using h
                    clear hprev hj0 hjs hx0
                    rw [Nat.add_zero] at e3
                    go_wp2_with fail
                    go_quiet ((first | (go_at_call 30; exact Calls.quiet_of_same (HIN.out _)) | (go_at_call 49; exact Calls.quiet_of_same (HA.out _))))
                    go_wp2_with fail
                    go_roundw
                    case rel => exact ⟨1, absI x, by omega, by go_num, fun h => by omega, fun _ => ⟨x, rfl, by simpa using HX.out.symm, by omega, by omega⟩, HNX.out, below_drewN HB.out _⟩
                    case measure => simp [intOf]; omega
                  | succ j =>
                    obtain ⟨y, rfl, hy, hy1, hy2⟩ := hjs (by omega)
                    have e4 := hprev (by omega)
                    simp only [Nat.add_sub_cancel] at hy e4
                    rw [← hy] at e4
                    have HY := kide (fun u => l18Abs_any y (by omega) u)
                    have j1 : (j : Int) < (k1.length : Int) := by omega
                    clear hprev hj0 hjs hy hx0
                    by_cases hlx : absI y < absI x
                    · have HNX : Hid ((clR S (absI x) (k1.drop (j + 1 + 1)) && Z2) = Z) := by
                        show _ = _
                        have h := HZJ.out
                        rw [HNU.out, decide_eq_true hlx] at h
                        simpa using h
                      go_wp2_with fail
                      go_quiet ((first | (go_at_call 30; exact Calls.quiet_of_same (HIN.out _)) | (go_at_call 49; exact Calls.quiet_of_same (l18Abs_any _ (by omega) _))))
                      go_wp2_with fail
                      go_roundw
                      case rel => exact ⟨j + 1 + 1, absI x, by omega, by go_num, fun h => by omega, fun _ => ⟨x, rfl, by simpa using HX.out.symm, by omega, by omega⟩, HNX.out, below_drewN HB.out _⟩
                      case measure => simp [intOf]; omega
                    · have HF : Hid (Z = false) := by have h := HZJ.out; rw [decide_eq_false hlx] at h; simp at h; exact h
                      go_wp2_with fail
                      go_quiet ((first | (go_at_call 30; exact Calls.quiet_of_same (HIN.out _)) | (go_at_call 49; exact Calls.quiet_of_same (l18Abs_any _ (by omega) _))))
                      go_wp2_with fail
                      go_ret
                      exact ⟨ret_bool HF.out.symm, B0.out.trans ((below_drewN HB.out _).mono B0.out.size)⟩
              · have e : j = k1.length := by omega
                rw [e, List.drop_length, clR, Bool.true_and] at hz
                have HZJ := kide hz
                clear hz e hj0 hjs hbel p2
                go_wp2_with fail
                go_roundw
                case rel => exact ⟨k + 1, by omega, by go_num, HG.out.trans HZJ.out, HB.out⟩
                case measure => simp [intOf]; omega
          · have HF : Hid (Z = false) := by show _ = _; rw [← hz, claR, decide_eq_false h400]; rfl
            clear hz
            go_wp2_with fail
            go_ret
            exact ⟨ret_bool HF.out.symm, B0.out.trans (HBK.out.mono B0.out.size)⟩
        · have HZT : Hid (Z = true) := by
            show _ = _
            rw [← hz, List.drop_eq_nil_of_le (by rw [List.length_map, HN.out]; omega)]
            rfl
          clear hz hbel
          go_wp2_with fail
          go_ret
          exact ⟨ret_bool HZT.out.symm, B0.out.trans (HBK.out.mono B0.out.size)⟩
    · rw [cnfR_no2 (by rw [List.length_map, hn]; exact h4)]
      clear hd hb0 hs hn HXS
      go_enter Tryd.func25, Tryd.ntmps25
      go_wp2_with fail
      generalize (w.alloc (Obj.cells #[Value.int .i64 S, Value.slice a n c] 29)) = w0 at *
      refine Calls.mono (HI.out _) ?_
      rintro e w0 ⟨rfl, rfl⟩
      go_wp2_with fail
      go_ret
      exact ⟨rfl, B0.out⟩

end Go.Proofs.YtmfamdonbgmjbaaDoor

/- A new watcher: what holds while the clauses are gone through. No program in sight. -/
namespace Go.Proofs.YtmfamdonbgmjbaaDoor
set_option linter.unusedVariables false
set_option linter.unusedSimpArgs false
open Go.RowKit

/-- The clauses ahead of t are watched, of the one at t s numbers watch it. -/
structure Wn (cs : List (List Int)) (t s : Nat) (ey : Nat → Nat × Nat) (wt : Int → List Nat) (du : Nat → Bool) : Prop where
  a : ∀ (p : Nat) cl, cs[p]? = some cl → 2 ≤ cl.length → p < t → ey p = (0, 1)
  b : ∀ n p, p ∈ wt n ↔ ∃ cl i, cs[p]? = some cl ∧ 2 ≤ cl.length ∧ i < 2 ∧ cl[i]? = some n ∧ (p < t ∨ p = t ∧ i < s)
  nd : ∀ n, (wt n).Nodup
  d : ∀ p, du p = true ↔ p < t ∧ ∃ cl, cs[p]? = some cl ∧ cl.length < 2
theorem Wn.begin (cs : List (List Int)) {ey : Nat → Nat × Nat} {wt : Int → List Nat} {du : Nat → Bool} (hw : ∀ n, wt n = []) (hd : ∀ p, du p = false) : Wn cs 0 0 ey wt du := by
  refine ⟨fun p cl _ _ h => absurd h (by omega), fun n p => ?_, fun n => by rw [hw n]; exact List.nodup_nil, fun p => ?_⟩
  · rw [hw n]
    constructor
    · intro h; cases h
    · rintro ⟨cl, i, -, -, -, -, h | h⟩ <;> omega
  · rw [hd p]
    constructor
    · intro h; cases h
    · rintro ⟨h, -⟩; omega
/-- A narrow clause is due. -/
theorem Wn.narrow {cs : List (List Int)} {t : Nat} {ey : Nat → Nat × Nat} {wt : Int → List Nat} {du du' : Nat → Bool} {cl : List Int} (h : Wn cs t 0 ey wt du) (hc : cs[t]? = some cl) (hl : cl.length < 2) (hd : ∀ q, du' q = (du q || decide (q = t))) : Wn cs (t + 1) 0 ey wt du' := by
  refine ⟨fun p c hp h2 hlt => ?_, fun n p => ?_, h.nd, fun p => ?_⟩
  · by_cases e : p = t
    · subst e; rw [hc] at hp; cases hp; omega
    · exact h.a p c hp h2 (by omega)
  · rw [h.b n p]
    constructor
    · rintro ⟨c, i, h1, h2, h3, h4, h5 | h5⟩
      · exact ⟨c, i, h1, h2, h3, h4, .inl (by omega)⟩
      · omega
    · rintro ⟨c, i, h1, h2, h3, h4, h5 | h5⟩
      · by_cases e : p = t
        · subst e; rw [hc] at h1; cases h1; omega
        · exact ⟨c, i, h1, h2, h3, h4, .inl (by omega)⟩
      · omega
  · rw [hd p, Bool.or_eq_true, h.d p, decide_eq_true_eq]
    constructor
    · rintro (⟨h1, h2⟩ | h1)
      · exact ⟨by omega, h2⟩
      · subst h1; exact ⟨by omega, cl, hc, hl⟩
    · rintro ⟨h1, h2⟩
      by_cases e : p = t
      · exact .inr e
      · exact .inl ⟨by omega, h2⟩
/-- One more number watches. -/
theorem Wn.watch {cs : List (List Int)} {t s : Nat} {ey : Nat → Nat × Nat} {wt wt' : Int → List Nat} {du : Nat → Bool} {cl : List Int} {k : Int} (h : Wn cs t s ey wt du) (hc : cs[t]? = some cl) (hcd : Cd cl) (hl : 2 ≤ cl.length) (hs : s < 2) (hk : cl[s]? = some k) (hw1 : wt' k = wt k ++ [t]) (hw2 : ∀ n, n ≠ k → wt' n = wt n) : Wn cs t (s + 1) ey wt' du := by
  refine ⟨h.a, fun n p => ?_, fun n => ?_, h.d⟩
  · have hn : p ∈ wt' n ↔ p ∈ wt n ∨ (n = k ∧ p = t) := by
      by_cases e : n = k
      · subst e; rw [hw1, List.mem_append, List.mem_singleton]; simp
      · rw [hw2 n e]; simp [e]
    rw [hn, h.b n p]
    constructor
    · rintro (⟨c, i, h1, h2, h3, h4, h5⟩ | ⟨rfl, rfl⟩)
      · exact ⟨c, i, h1, h2, h3, h4, by omega⟩
      · exact ⟨cl, s, hc, hl, hs, hk, .inr ⟨rfl, by omega⟩⟩
    · rintro ⟨c, i, h1, h2, h3, h4, h5 | ⟨h5, h6⟩⟩
      · exact .inl ⟨c, i, h1, h2, h3, h4, .inl h5⟩
      · by_cases e : i = s
        · subst e h5
          rw [hc] at h1
          cases h1
          rw [hk] at h4
          exact .inr ⟨(Option.some.inj h4).symm, rfl⟩
        · exact .inl ⟨c, i, h1, h2, h3, h4, .inr ⟨h5, by omega⟩⟩
  · by_cases e : n = k
    · subst e
      rw [hw1, List.nodup_append]
      refine ⟨h.nd n, by simp, fun a ha b hb e => ?_⟩
      rw [List.mem_singleton] at hb
      subst e hb
      obtain ⟨c, i, h1, h2, h3, h4, h5⟩ := (h.b n a).1 ha
      rcases h5 with h5 | ⟨-, h5⟩
      · omega
      · rw [hc] at h1
        cases h1
        have := hcd.inj h4 hk (.inl rfl)
        omega
    · rw [hw2 n e]; exact h.nd n
/-- The eyes of a clause are laid. -/
theorem Wn.eyes {cs : List (List Int)} {t s : Nat} {ey ey' : Nat → Nat × Nat} {wt : Int → List Nat} {du : Nat → Bool} (h : Wn cs t s ey wt du) (he : ∀ q, q ≠ t → ey' q = ey q) : Wn cs t s ey' wt du :=
  ⟨fun p cl h1 h2 h3 => by rw [he p (by omega)]; exact h.a p cl h1 h2 h3, h.b, h.nd, h.d⟩
theorem Wn.next {cs : List (List Int)} {t : Nat} {ey : Nat → Nat × Nat} {wt : Int → List Nat} {du : Nat → Bool} {cl : List Int} (h : Wn cs t 2 ey wt du) (hc : cs[t]? = some cl) (hl : 2 ≤ cl.length) (he : ey t = (0, 1)) : Wn cs (t + 1) 0 ey wt du := by
  refine ⟨fun p c hp h2 hlt => ?_, fun n p => ?_, h.nd, fun p => ?_⟩
  · by_cases e : p = t
    · subst e; exact he
    · exact h.a p c hp h2 (by omega)
  · rw [h.b n p]
    constructor
    · rintro ⟨c, i, h1, h2, h3, h4, h5⟩
      exact ⟨c, i, h1, h2, h3, h4, .inl (by omega)⟩
    · rintro ⟨c, i, h1, h2, h3, h4, h5⟩
      exact ⟨c, i, h1, h2, h3, h4, by omega⟩
  · rw [h.d p]
    constructor
    · rintro ⟨h1, h2⟩; exact ⟨by omega, h2⟩
    · rintro ⟨h1, c, h2, h3⟩
      by_cases e : p = t
      · subst e; rw [hc] at h2; cases h2; omega
      · exact ⟨by omega, c, h2, h3⟩
theorem Wn.end {cs : List (List Int)} {t : Nat} {ey : Nat → Nat × Nat} {wt : Int → List Nat} {du : Nat → Bool} (h : Wn cs t 0 ey wt du) (ht : cs.length ≤ t) : Wi cs [] ey wt du := by
  have hlt : ∀ (p : Nat) cl, cs[p]? = some cl → p < t := fun p cl hp => Nat.lt_of_lt_of_le (List.getElem?_eq_some_iff.1 hp).1 ht
  refine ⟨fun p cl hp h2 => ?_, fun n p => ?_, h.nd, fun p cl hp => ?_, fun p cl hp hd => ?_, fun p hd => ?_, fun p cl hp h2 k T1 T2 he hT => ?_⟩
  · rw [h.a p cl hp h2 (hlt p cl hp)]
    exact ⟨by show 0 < _; omega, by show 1 < _; omega, by decide⟩
  · rw [h.b n p]
    constructor
    · rintro ⟨cl, i, h1, h2, h3, h4, h5⟩
      refine ⟨cl, h1, h2, ?_⟩
      unfold eyeN
      rw [h.a p cl h1 h2 (hlt p cl h1)]
      obtain rfl | rfl : i = 0 ∨ i = 1 := by omega
      · exact .inl h4
      · exact .inr h4
    · rintro ⟨cl, h1, h2, h3⟩
      unfold eyeN at h3
      rw [h.a p cl h1 h2 (hlt p cl h1)] at h3
      rcases h3 with h3 | h3
      · exact ⟨cl, 0, h1, h2, by omega, h3, .inl (hlt p cl h1)⟩
      · exact ⟨cl, 1, h1, h2, by omega, h3, .inl (hlt p cl h1)⟩
  · by_cases h2 : 2 ≤ cl.length
    · exact .inr (.inr ⟨h2, fun n _ => by simp⟩)
    · exact .inl ((h.d p).2 ⟨hlt p cl hp, cl, hp, by omega⟩)
  · obtain ⟨-, c, h1, h2⟩ := (h.d p).1 hd
    rw [hp] at h1
    cases h1
    have h6 : (opn [] cl).length ≤ cl.length := List.length_filter_le _ _
    exact .inr (by omega)
  · obtain ⟨-, c, h1, h2⟩ := (h.d p).1 hd
    exact (List.getElem?_eq_some_iff.1 h1).1
  · cases T1 <;> cases hT
end Go.Proofs.YtmfamdonbgmjbaaDoor
