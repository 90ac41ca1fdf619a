/- The variables of a term: sorted, each once; or one by one. -/
import Derived.Lib.SlicesCompact
import Derived.Test.YtheglnkndjheaaaGreatDoorZQF
namespace Go.Proofs.YtheglnkndjheaaaGreatDoor
set_option linter.unusedVariables false
set_option linter.unusedSimpArgs false
open Go.RowKit Go.Lib

theorem rise_ext : ∀ l1 l2 : List Int, l1.Pairwise (· < ·) → l2.Pairwise (· < ·) → (∀ x, x ∈ l1 ↔ x ∈ l2) → l1 = l2
  | [], [], _, _, _ => rfl
  | [], y :: t, _, _, h => by have := (h y).2 (by simp); simp at this
  | x :: s, [], _, _, h => by have := (h x).1 (by simp); simp at this
  | x :: s, y :: t, h1, h2, h => by
    rw [List.pairwise_cons] at h1 h2
    have e : x = y := by
      rcases List.mem_cons.1 ((h x).1 (by simp)) with e | e
      · exact e
      · rcases List.mem_cons.1 ((h y).2 (by simp)) with e' | e'
        · exact e'.symm
        · have a := h2.1 x e
          have b := h1.1 y e'
          omega
    subst e
    congr 1
    refine rise_ext s t h1.2 h2.2 (fun z => ⟨fun hz => ?_, fun hz => ?_⟩)
    · rcases List.mem_cons.1 ((h z).1 (by simp [hz])) with e | e
      · have := h1.1 z hz; omega
      · exact e
    · rcases List.mem_cons.1 ((h z).2 (by simp [hz])) with e | e
      · have := h2.1 z hz; omega
      · exact e

theorem compact_facts (d : Array Int) (hs : ∀ i, i + 1 < d.size → d[i]! ≤ d[i + 1]!) : ∀ m, m ≤ d.size → (compactUpTo d m).Pairwise (· < ·) ∧ (∀ x, x ∈ compactUpTo d m ↔ ∃ j, j < m ∧ d[j]! = x) ∧ (0 < m → ∀ x ∈ compactUpTo d m, x ≤ d[m - 1]!)
  | 0, _ => ⟨by simp [compactUpTo], by simp [compactUpTo], by omega⟩
  | m + 1, hm => by
    obtain ⟨h1, h2, h3⟩ := compact_facts d hs m (by omega)
    rw [compactUpTo_succ]
    by_cases hk : keeps d m = true
    · rw [if_pos hk]
      have hall : ∀ x ∈ compactUpTo d m, x < d[m]! := by
        intro x hx
        by_cases h0 : m = 0
        · subst h0; simp [compactUpTo] at hx
        · have a := h3 (by omega) x hx
          have b := hs (m - 1) (by omega)
          rw [show m - 1 + 1 = m by omega] at b
          simp [keeps, h0] at hk
          omega
      refine ⟨?_, fun x => ?_, fun _ x hx => ?_⟩
      · rw [List.pairwise_append]
        refine ⟨h1, by simp, fun a ha b hb => ?_⟩
        simp at hb
        subst hb
        exact hall a ha
      · rw [List.mem_append, h2 x]
        simp
        constructor
        · rintro (⟨j, hj, e⟩ | e)
          · exact ⟨j, by omega, e⟩
          · exact ⟨m, by omega, e.symm⟩
        · rintro ⟨j, hj, e⟩
          by_cases hjm : j = m
          · subst hjm; exact .inr e.symm
          · exact .inl ⟨j, by omega, e⟩
      · simp at hx ⊢
        rcases hx with hx | rfl
        · exact Int.le_of_lt (hall x hx)
        · exact Int.le_refl _
    · rw [if_neg hk, List.append_nil]
      have h0 : m ≠ 0 := fun h => hk (by subst h; simp [keeps])
      have he : d[m]! = d[m - 1]! := by
        have := hk
        simp [keeps, h0] at this
        exact this
      refine ⟨h1, fun x => ?_, fun _ x hx => ?_⟩
      · rw [h2 x]
        constructor
        · rintro ⟨j, hj, e⟩
          exact ⟨j, by omega, e⟩
        · rintro ⟨j, hj, e⟩
          by_cases hjm : j = m
          · subst hjm; exact ⟨j - 1, by omega, by rw [← he]; exact e⟩
          · exact ⟨j, by omega, e⟩
      · have := h3 (by omega) x hx
        simp
        rw [he]
        exact this

theorem sort_compact (zs : List Int) : (compact (zs.mergeSort fun x y => decide (x ≤ y))).Pairwise (· < ·) ∧ ∀ x, x ∈ compact (zs.mergeSort fun x y => decide (x ≤ y)) ↔ x ∈ zs := by
  have hso : (zs.mergeSort fun x y => decide (x ≤ y)).Pairwise (fun x y => decide (x ≤ y) = true) := List.pairwise_mergeSort (le := fun x y : Int => decide (x ≤ y)) (by intro a b c; simp; omega) (by intro a b; simp; omega) zs
  have hmem : ∀ x, x ∈ (zs.mergeSort fun x y => decide (x ≤ y)) ↔ x ∈ zs := fun x => List.mem_mergeSort
  generalize (zs.mergeSort fun x y => decide (x ≤ y)) = ys at hso hmem
  have hs : ∀ i, i + 1 < ys.toArray.size → ys.toArray[i]! ≤ ys.toArray[i + 1]! := by
    intro i hi
    have hi' : i + 1 < ys.length := by simpa using hi
    have := (List.pairwise_iff_getElem.1 hso) i (i + 1) (by omega) hi' (by omega)
    simp at this
    rw [getElem!_pos _ i (by simp; omega), getElem!_pos _ (i + 1) (by simp; omega)]
    simpa using this
  obtain ⟨h1, h2, -⟩ := compact_facts ys.toArray hs ys.length (by simp)
  refine ⟨h1, fun x => ?_⟩
  rw [← hmem x]
  show x ∈ compactUpTo _ _ ↔ _
  rw [h2 x]
  constructor
  · rintro ⟨j, hj, e⟩
    rw [getElem!_pos _ j (by simpa using hj)] at e
    subst e
    simp
  · intro hx
    obtain ⟨j, hj, e⟩ := List.mem_iff_getElem.1 hx
    exact ⟨j, hj, by rw [getElem!_pos _ j (by simpa using hj)]; simpa using e⟩
/-- The places that nodes of variables name, in their order. -/
def varL (ns : List Tc) : List Int := ns.filterMap (fun n => if n.op = 1 then some n.vr else none)

/-- Is v named? -/
def hasV (ns : List Tc) (v : Nat) : Bool := ns.any (fun n => decide (n.op = 1) && decide (n.vr = (v : Int)))

/-- Those of the first m variables that are named. -/
def upV (ns : List Tc) (m : Nat) : List Int := ((List.range m).filter (hasV ns)).map (fun v : Nat => (v : Int))

def varsR (ds : List Dc) (ns : List Tc) : List Int := if (widthsR ds ns).length = 0 then [] else upV ns ds.length

theorem upV_succ (ns : List Tc) (m : Nat) : upV ns (m + 1) = upV ns m ++ (if hasV ns m = true then [(m : Int)] else []) := by
  unfold upV
  rw [List.range_succ, List.filter_append, List.map_append]
  congr 1
  by_cases h : hasV ns m = true <;> simp [h]

theorem upV_len (ns : List Tc) (m : Nat) : (upV ns m).length ≤ m := by
  unfold upV
  rw [List.length_map]
  exact Nat.le_trans (List.length_filter_le _ _) (by simp)

theorem upV_mem (ns : List Tc) (m : Nat) (x : Int) : x ∈ upV ns m ↔ ∃ v : Nat, v < m ∧ hasV ns v = true ∧ (v : Int) = x := by
  unfold upV
  simp [List.mem_filter, List.mem_map]
  constructor
  · rintro ⟨v, ⟨h1, h2⟩, h3⟩; exact ⟨v, h1, h2, h3⟩
  · rintro ⟨v, h1, h2, h3⟩; exact ⟨v, ⟨h1, h2⟩, h3⟩

theorem upV_rise (ns : List Tc) : ∀ m, (upV ns m).Pairwise (· < ·)
  | 0 => by simp [upV]
  | m + 1 => by
    rw [upV_succ, List.pairwise_append]
    refine ⟨upV_rise ns m, by split <;> simp, fun a ha b hb => ?_⟩
    obtain ⟨v, h1, -, rfl⟩ := (upV_mem ns m a).1 ha
    split at hb
    · simp at hb; omega
    · simp at hb

theorem goR_many {ds : List Dc} : ∀ (ns : List Tc) (wide r : List Int), goR ds wide ns = some r → ∀ n ∈ ns, manyR ds.length n = true
  | [], _, _, _, n, hn => by simp at hn
  | m :: t, wide, r, h, n, hn => by
    rw [goR] at h
    cases hs : stepR ds wide m with
    | none => rw [hs] at h; cases h
    | some v =>
      rw [hs] at h
      rcases List.mem_cons.1 hn with rfl | hn
      · have := stepR_kids hs
        simp at this
        exact this.2
      · exact goR_many t _ r h n hn

theorem widthsR_many {ds : List Dc} {ns : List Tc} (h : ¬ (widthsR ds ns).length = 0) : ∀ n ∈ ns, manyR ds.length n = true := by
  unfold widthsR at h
  split at h
  · cases hg : goR ds [] ns with
    | none => rw [hg] at h; simp at h
    | some r => exact goR_many ns [] r hg
  · simp at h

theorem varL_mem (ns : List Tc) (x : Int) : x ∈ varL ns ↔ ∃ n ∈ ns, n.op = 1 ∧ n.vr = x := by
  unfold varL
  rw [List.mem_filterMap]
  constructor
  · rintro ⟨n, h1, h2⟩
    split at h2
    · cases h2; exact ⟨n, h1, by assumption, rfl⟩
    · cases h2
  · rintro ⟨n, h1, h2, h3⟩
    exact ⟨n, h1, by rw [if_pos h2, h3]⟩

theorem hasV_iff (ns : List Tc) (v : Nat) : hasV ns v = true ↔ ∃ n ∈ ns, n.op = 1 ∧ n.vr = (v : Int) := by
  unfold hasV
  simp [List.any_eq_true]

theorem vars_eq {ds : List Dc} {ns : List Tc} (h : ¬ (widthsR ds ns).length = 0) : compact ((varL ns).mergeSort fun x y => decide (x ≤ y)) = upV ns ds.length := by
  obtain ⟨h1, h2⟩ := sort_compact (varL ns)
  refine rise_ext _ _ h1 (upV_rise _ _) (fun x => ?_)
  rw [h2 x, varL_mem, upV_mem]
  constructor
  · rintro ⟨n, hn, ho, rfl⟩
    have hm := manyR_var (widthsR_many h n hn) ho
    obtain ⟨v, hv⟩ : ∃ v : Nat, (v : Int) = n.vr := ⟨n.vr.toNat, by omega⟩
    exact ⟨v, by omega, (hasV_iff ns v).2 ⟨n, hn, ho, hv.symm⟩, hv⟩
  · rintro ⟨v, hv, hh, rfl⟩
    obtain ⟨n, hn, ho, e⟩ := (hasV_iff ns v).1 hh
    exact ⟨n, hn, ho, e⟩

theorem varL_take {ns : List Tc} {k : Nat} {n : Tc} (h : ns[k]? = some n) : varL (ns.take (k + 1)) = varL (ns.take k) ++ (if n.op = 1 then [n.vr] else []) := by
  unfold varL
  rw [List.take_add_one, h, List.filterMap_append]
  congr 1
  by_cases e : n.op = 1 <;> simp [e]

theorem varL_len (ns : List Tc) : (varL ns).length ≤ ns.length := List.length_filterMap_le _ _

end Go.Proofs.YtheglnkndjheaaaGreatDoor
