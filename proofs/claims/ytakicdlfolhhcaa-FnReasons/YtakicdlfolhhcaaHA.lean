/- Sets of nodes by their names; rows of rows of numbers that are the owner's own. -/
import Derived.Test.YtakicdlfolhhcaaGI
namespace Go.Proofs.Ytakicdlfolhhcaa
set_option linter.unusedVariables false
set_option linter.unusedSimpArgs false
open Go.RowKit

theorem grow_set {w wr : World} {g : Nat} (h : w.grownBy wr (some g)) (i : Nat) (v : Value) : w.grownBy (wr.setCell ⟨g, i, none⟩ v) (some g) :=
  ⟨h.os, h.tape, h.output, by simpa using h.size, fun k hk hne => by rw [heap_setCell_other wr ⟨g, i, none⟩ k v (fun e => hne (by simp [e]))]; exact h.block k hk hne⟩

/-- Outside of the blocks B1 .. B2 - 1 nothing has turned. -/
def Out (B1 B2 : Nat) (w w' : World) : Prop := w'.os = w.os ∧ w'.tape = w.tape ∧ w'.output = w.output ∧ w.heap.size ≤ w'.heap.size ∧ ∀ k, k < w.heap.size → (k < B1 ∨ B2 ≤ k) → w'.heap[k]? = w.heap[k]?
theorem Out.refl (B1 B2 : Nat) (w : World) : Out B1 B2 w w := ⟨rfl, rfl, rfl, Nat.le_refl _, fun _ _ _ => rfl⟩
theorem Out.trans {B1 B2 : Nat} {w w1 w2 : World} (h : Out B1 B2 w w1) (h' : Out B1 B2 w1 w2) : Out B1 B2 w w2 :=
  ⟨h'.1.trans h.1, h'.2.1.trans h.2.1, h'.2.2.1.trans h.2.2.1, Nat.le_trans h.2.2.2.1 h'.2.2.2.1, fun k hk ho => (h'.2.2.2.2 k (Nat.lt_of_lt_of_le hk h.2.2.2.1) ho).trans (h.2.2.2.2 k hk ho)⟩
theorem Out.grown {B1 B2 g : Nat} {w w' : World} (h : w.grownBy w' (some g)) (h1 : B1 ≤ g) (h2 : g < B2) : Out B1 B2 w w' :=
  ⟨h.os, h.tape, h.output, h.size, fun k hk ho => h.block k hk (fun e => by cases e; omega)⟩
theorem Out.below {B1 B2 : Nat} {w w' : World} (h : Below w.heap.size w w') : Out B1 B2 w w' := ⟨h.os, h.tape, h.output, h.size, fun k hk _ => h.block k hk⟩
theorem Out.cell {B1 B2 : Nat} {w w' : World} (h : Out B1 B2 w w') {b o : Nat} (hb : b < w.heap.size) (ho : b < B1 ∨ B2 ≤ b) : w'.cell? ⟨b, o, none⟩ = w.cell? ⟨b, o, none⟩ := World.cell?_of_block (w := w) (a := ⟨b, o, none⟩) (h.2.2.2.2 b hb ho)

/-- The first j nodes whose name is k. -/
def setR (L : Nat → Nat) (k : Nat) : Nat → List Int
  | 0 => []
  | j + 1 => setR L k j ++ (if L j = k then [(j : Int)] else [])

/-- The sets of at least two, of the first m names. -/
def grpR (L : Nat → Nat) (n : Nat) : Nat → List (List Int)
  | 0 => []
  | k + 1 => grpR L n k ++ (if 1 < (setR L k n).length then [setR L k n] else [])

theorem setR_len (L : Nat → Nat) (k : Nat) : ∀ j, (setR L k j).length ≤ j
  | 0 => Nat.le_refl _
  | j + 1 => by
    have := setR_len L k j
    unfold setR
    split <;> simp <;> omega

theorem setR_in (L : Nat → Nat) (k : Nat) : ∀ j, ∀ x ∈ setR L k j, 0 ≤ x ∧ x < (j : Int)
  | 0, x, h => by simp [setR] at h
  | j + 1, x, h => by
    unfold setR at h
    rcases List.mem_append.1 h with h | h
    · have := setR_in L k j x h; omega
    · split at h
      · simp at h; omega
      · simp at h

theorem setR_none {L : Nat → Nat} {k : Nat} : ∀ j, (∀ b, b < j → L b ≠ k) → setR L k j = []
  | 0, _ => rfl
  | j + 1, h => by
    unfold setR
    rw [setR_none j (fun b hb => h b (by omega)), if_neg (h j (by omega))]
    rfl

theorem setR_yes {L : Nat → Nat} {k j : Nat} (h : L j = k) : setR L k (j + 1) = setR L k j ++ [(j : Int)] := by
  rw [setR, if_pos h]
theorem setR_no {L : Nat → Nat} {k j : Nat} (h : L j ≠ k) : setR L k (j + 1) = setR L k j := by
  rw [setR, if_neg h]; simp

theorem grpR_len (L : Nat → Nat) (n : Nat) : ∀ m, (grpR L n m).length ≤ m
  | 0 => Nat.le_refl _
  | m + 1 => by
    have := grpR_len L n m
    unfold grpR
    split <;> simp <;> omega

theorem grpR_in (L : Nat → Nat) (n : Nat) : ∀ m, ∀ xs ∈ grpR L n m, xs.length ≤ n ∧ ∀ x ∈ xs, 0 ≤ x ∧ x < (n : Int)
  | 0, xs, h => by simp [grpR] at h
  | m + 1, xs, h => by
    unfold grpR at h
    rcases List.mem_append.1 h with h | h
    · exact grpR_in L n m xs h
    · split at h
      · simp at h
        subst h
        exact ⟨setR_len L m n, setR_in L m n⟩
      · simp at h

theorem grpR_yes {L : Nat → Nat} {n k : Nat} (h : 1 < (setR L k n).length) : grpR L n (k + 1) = grpR L n k ++ [setR L k n] := by
  rw [grpR, if_pos h]
theorem grpR_no {L : Nat → Nat} {n k : Nat} (h : ¬ 1 < (setR L k n).length) : grpR L n (k + 1) = grpR L n k := by
  rw [grpR, if_neg h]; simp

/-- Names are not greater than those that bear them. -/
theorem goF_le {n : Nat} : ∀ {L L' : Nat → Nat} {ls : List Lk}, (∀ i, i < n → L i ≤ i) → goF n L ls = some L' → ∀ i, i < n → L' i ≤ i
  | L, L', [], h, e => by simp only [goF, Option.some.injEq] at e; subst e; exact h
  | L, L', l :: t, h, e => by
    rw [goF] at e
    split at e
    · refine goF_le (fun i hi => ?_) e
      have := h i hi
      unfold mrg
      split <;> omega
    · cases e

/-- Rows of numbers, each its own, no two of them in one block. -/
structure Rws (w : World) (B : Nat) (vs : List Value) (xss : List (List Int)) : Prop where
  len : vs.length = xss.length
  own : ∀ (i : Nat) (v : Value) (xs : List Int), vs[i]? = some v → xss[i]? = some xs → OW w B v xs
  dj : ∀ (i j : Nat) (v v' : Value), vs[i]? = some v → vs[j]? = some v' → i ≠ j → ∀ b, v.ownBlock = some b → v'.ownBlock ≠ some b

theorem Rws.nil (w : World) (B : Nat) : Rws w B [] [] := ⟨rfl, fun i v xs h => by simp at h, fun i j v v' h => by simp at h⟩

theorem Rws.later {w w' : World} {B : Nat} {vs : List Value} {xss : List (List Int)} (h : Rws w B vs xss) (hb : Below w.heap.size w w') : Rws w' B vs xss :=
  ⟨h.len, fun i v xs h1 h2 => own_later (h.own i v xs h1 h2) hb, h.dj⟩

/-- A row of another type has grown. -/
theorem Rws.grown {w w' : World} {B B' n : Nat} {vs : List Value} {xss : List (List Int)} {v0 : Value} {cs : List Value} {e : TypeId} (h : Rws w B vs xss) (ho : w.ownsRow B' e 1 v0 n cs) (he : e ≠ 2) (hg : w.grownBy w' v0.ownBlock) : Rws w' B vs xss :=
  ⟨h.len, fun i v xs h1 h2 => own_kept (h.own i v xs h1 h2) hg (fun b hb e' => by
    rcases (h.own i v xs h1 h2).2 with ⟨rfl, -⟩ | ⟨g, cap, cur, rfl, -, hh, -⟩
    · cases hb
    · cases hb
      exact own_typed ho hh (Ne.symm he) e'.symm), h.dj⟩

/-- A cell of a block of another type is written. -/
theorem Rws.set {w : World} {B b o : Nat} {vs : List Value} {xss : List (List Int)} {cs : Array Value} {t : TypeId} {fr : Nat × Nat} (h : Rws w B vs xss) (hb : w.heap[b]? = some (.cells cs t fr)) (ht : t ≠ 2) (x : Value) : Rws (w.setCell ⟨b, o, none⟩ x) B vs xss :=
  ⟨h.len, fun i v xs h1 h2 => own_set (h.own i v xs h1 h2) hb ht x, h.dj⟩

/-- One row more has come, of a block that none of them has. -/
theorem Rws.push {w : World} {B : Nat} {vs : List Value} {xss : List (List Int)} {v : Value} {xs : List Int} (h : Rws w B vs xss) (ho : OW w B v xs) (hd : ∀ (i : Nat) (u : Value), vs[i]? = some u → ∀ b, u.ownBlock = some b → v.ownBlock ≠ some b) : Rws w B (vs ++ [v]) (xss ++ [xs]) := by
  have hl := h.len
  have last : ∀ {α : Type} {l : List α} {x y : α} {i : Nat}, (l ++ [x])[i]? = some y → i < l.length ∧ l[i]? = some y ∨ i = l.length ∧ y = x := by
    intro α l x y i hi
    by_cases h1 : i < l.length
    · rw [List.getElem?_append_left h1] at hi; exact .inl ⟨h1, hi⟩
    · rw [List.getElem?_append_right (by omega)] at hi
      have h2 : i - l.length = 0 := by
        have := (List.getElem?_eq_some_iff.1 hi).1
        simp at this; omega
      rw [h2] at hi
      simp at hi
      exact .inr ⟨by omega, hi.symm⟩
  refine ⟨by simp [hl], fun i u ys h1 h2 => ?_, fun i j u u' h1 h2 hne b hb hb' => ?_⟩
  · rcases last h1 with ⟨a1, a2⟩ | ⟨a1, rfl⟩
    · rcases last h2 with ⟨c1, c2⟩ | ⟨c1, rfl⟩
      · exact h.own i u ys a2 c2
      · omega
    · rcases last h2 with ⟨c1, c2⟩ | ⟨c1, rfl⟩
      · omega
      · exact ho
  · rcases last h1 with ⟨a1, a2⟩ | ⟨a1, rfl⟩
    · rcases last h2 with ⟨c1, c2⟩ | ⟨c1, rfl⟩
      · exact h.dj i j u u' a2 c2 hne b hb hb'
      · exact hd i u a2 b hb hb'
    · rcases last h2 with ⟨c1, c2⟩ | ⟨c1, rfl⟩
      · exact hd j u' c2 b hb' hb
      · omega

/-- The sets under way: a row of n rows, the row of k the nodes of that name. -/
structure Sets (w : World) (B g n : Nat) (f : Nat → Value) (xs : Nat → List Int) : Prop where
  lo : B ≤ g
  row : w.rowIs g 44 n f
  own : ∀ i, i < n → OW w B (f i) (xs i)
  dj : ∀ i j, i < n → j < n → i ≠ j → ∀ b, (f i).ownBlock = some b → (f j).ownBlock ≠ some b

theorem Sets.later {w w' : World} {B g n : Nat} {f : Nat → Value} {xs : Nat → List Int} (h : Sets w B g n f xs) (hb : Below w.heap.size w w') : Sets w' B g n f xs :=
  ⟨h.lo, World.rowIs.of_block h.row (hb.block g (by obtain ⟨cc, hh, -⟩ := h.row; exact lt_of_block hh)), fun i hi => own_later (h.own i hi) hb, h.dj⟩

theorem Sets.step {w w' : World} {B g n k : Nat} {f : Nat → Value} {xs : Nat → List Int} (h : Sets w B g n f xs) (hk : k < n) {v : Value} {ys : List Int} (ho : OW w' B v ys) (hg : w.grownBy w' (f k).ownBlock) (hat : v.ownBlock = (f k).ownBlock ∨ v.ownBlock = some w.heap.size) :
    Sets (w'.setCell ⟨g, k, none⟩ v) B g n (fun i => if i = k then v else f i) (fun i => if i = k then ys else xs i) := by
  obtain ⟨cc, hh, hrest⟩ := h.row
  have hne : some g ≠ (f k).ownBlock := own_typed (h.own k hk) hh (by decide)
  have hh' : w'.heap[g]? = some (.cells cc 44 (0, 0)) := by rw [hg.block g (lt_of_block hh) hne]; exact hh
  have hr' : w'.rowIs g 44 n f := ⟨cc, hh', hrest⟩
  refine ⟨h.lo, World.rowIs.set hr' k v, fun i hi => ?_, fun i j hi hj hij b hb hb' => ?_⟩
  · show OW _ B (if i = k then v else f i) (if i = k then ys else xs i)
    by_cases e : i = k
    · rw [if_pos e, if_pos e]; exact own_set ho hh' (by decide) v
    · rw [if_neg e, if_neg e]
      exact own_set (own_kept (h.own i hi) hg (fun b hb e' => h.dj i k hi hk e b hb e')) hh' (by decide) v
  · replace hb : (if i = k then v else f i).ownBlock = some b := hb
    replace hb' : (if j = k then v else f j).ownBlock = some b := hb'
    by_cases e : i = k
    · subst e
      rw [if_pos rfl] at hb
      rw [if_neg (Ne.symm hij)] at hb'
      rcases hat with e' | e'
      · rw [e'] at hb; exact h.dj i j hi hj hij b hb hb'
      · rw [hb] at e'
        cases e'
        have := (own_lt (h.own j hj) hb').2
        omega
    · rw [if_neg e] at hb
      by_cases e2 : j = k
      · subst e2
        rw [if_pos rfl] at hb'
        rcases hat with e' | e'
        · rw [e'] at hb'; exact h.dj i j hi hj hij b hb hb'
        · rw [hb'] at e'
          cases e'
          have := (own_lt (h.own i hi) hb).2
          omega
      · rw [if_neg e2] at hb'
        exact h.dj i j hi hj hij b hb hb'

end Go.Proofs.Ytakicdlfolhhcaa
