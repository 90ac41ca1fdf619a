/- Several texts in one. -/
import Derived.Test.YtheglnkndjheaaaGreatDoorGM
import Derived.Test.YtheglnkndjheaaaGreatDoorZFA

/- Literals joined by common variables, and literals joined with their variables: the same sets. Nothing of any program. -/
namespace Go.Proofs.YtheglnkndjheaaaGreatDoor
set_option linter.unusedVariables false
set_option linter.unusedSimpArgs false
open Go.RowKit

/-- Sets behind joins, one behind the other. -/
def mrgs (L : Nat → Nat) (ps : List (Nat × Nat)) : Nat → Nat := ps.foldl (fun L p => mrg L p.1 p.2) L

theorem mrgs_cons (L : Nat → Nat) (p : Nat × Nat) (t : List (Nat × Nat)) : mrgs L (p :: t) = mrgs (mrg L p.1 p.2) t := rfl
theorem mrgs_app (L : Nat → Nat) (s t : List (Nat × Nat)) : mrgs L (s ++ t) = mrgs (mrgs L s) t := by
  unfold mrgs
  rw [List.foldl_append]
/-- Nodes of one set: no join turns anything. -/
theorem mrg_same {L : Nat → Nat} {a b : Nat} (h : L a = L b) : mrg L a b = L := by
  funext i
  unfold mrg
  split
  · omega
  · rfl
theorem mrg_eq {L : Nat → Nat} {a b x y : Nat} (h : L x = L y) : mrg L a b x = mrg L a b y := by
  unfold mrg
  rw [h]
theorem mrgs_eq {x y : Nat} : ∀ (ps : List (Nat × Nat)) {L : Nat → Nat}, L x = L y → mrgs L ps x = mrgs L ps y
  | [], _, h => h
  | p :: t, L, h => by
    rw [mrgs_cons]
    exact mrgs_eq t (mrg_eq h)
/-- What is joined is in one set. -/
theorem mrgs_in {a b : Nat} : ∀ (ps : List (Nat × Nat)) (L : Nat → Nat), (a, b) ∈ ps → mrgs L ps a = mrgs L ps b
  | [], _, h => by cases h
  | p :: t, L, h => by
    rw [mrgs_cons]
    rcases List.mem_cons.1 h with e | h
    · subst e
      refine mrgs_eq t ?_
      show mrg L a b a = mrg L a b b
      unfold mrg
      split <;> split <;> omega
    · exact mrgs_in t _ h
theorem mrg_le {L : Nat → Nat} {a b : Nat} (h : ∀ i, L i ≤ i) (i : Nat) : mrg L a b i ≤ i := by
  have := h i
  unfold mrg
  split <;> omega
theorem mrgs_le : ∀ (ps : List (Nat × Nat)) {L : Nat → Nat}, (∀ i, L i ≤ i) → ∀ i, mrgs L ps i ≤ i
  | [], _, h => h
  | p :: t, L, h => by
    rw [mrgs_cons]
    exact mrgs_le t (mrg_le h)
/-- What is the same of all that are joined is the same of a node and the least of its set. -/
theorem mrgs_inv {g : Nat → Nat} : ∀ (ps : List (Nat × Nat)) {L : Nat → Nat}, (∀ i, g (L i) = g i) → (∀ p ∈ ps, g p.1 = g p.2) → ∀ i, g (mrgs L ps i) = g i
  | [], _, h, _ => h
  | p :: t, L, h, hp => by
    rw [mrgs_cons]
    refine mrgs_inv t (fun i => ?_) fun q hq => hp q (List.mem_cons_of_mem _ hq)
    have h0 := hp p (List.mem_cons_self ..)
    have ha := h p.1
    have hb := h p.2
    have hi := h i
    unfold mrg
    split
    · rename_i e
      rcases Nat.le_total (L p.1) (L p.2) with q | q
      · rw [Nat.min_eq_left q, ha]
        rw [Nat.max_eq_right q] at e
        rw [e] at hi
        rw [← hi, hb, h0]
      · rw [Nat.min_eq_right q, hb]
        rw [Nat.max_eq_left q] at e
        rw [e] at hi
        rw [← hi, ha, h0]
    · exact hi

/-- Literals that have a variable in common. -/
def meetP (n : Nat) (V : Nat → List Nat) (S : List (Nat × Nat)) : Prop := (∀ p ∈ S, p.1 < n ∧ p.2 < n ∧ ∃ v ∈ V p.1, v ∈ V p.2) ∧ ∀ i, i < n → ∀ k, k < i → (∃ v ∈ V i, v ∈ V k) → (i, k) ∈ S
/-- Literals and their variables. -/
def haveP (n : Nat) (V : Nat → List Nat) (I : List (Nat × Nat)) : Prop := (∀ p ∈ I, p.1 < n ∧ ∃ v ∈ V p.1, p.2 = n + v) ∧ ∀ i, i < n → ∀ v ∈ V i, (i, n + v) ∈ I

/-- The least literal of each literal's part. -/
theorem parts_same {n : Nat} {V : Nat → List Nat} {S I : List (Nat × Nat)} (hS : meetP n V S) (hI : haveP n V I) : ∀ i, i < n → mrgs id S i = mrgs id I i := by
  have cS := mrgs_le S (L := id) (fun _ => Nat.le_refl _)
  have cI := mrgs_le I (L := id) (fun _ => Nat.le_refl _)
  have one : ∀ i k, i < n → k < n → (∃ v ∈ V i, v ∈ V k) → mrgs id S i = mrgs id S k := by
    intro i k hi hk hv
    rcases Nat.lt_trichotomy i k with h | h | h
    · obtain ⟨v, h1, h2⟩ := hv
      exact (mrgs_in S id (hS.2 k hk i h ⟨v, h2, h1⟩)).symm
    · rw [h]
    · exact mrgs_in S id (hS.2 i hi k h hv)
  have a1 : ∀ i, mrgs id I (mrgs id S i) = mrgs id I i := mrgs_inv S (fun _ => rfl) fun p hp => by
    obtain ⟨h1, h2, v, h3, h4⟩ := hS.1 p hp
    rw [mrgs_in I id (hI.2 _ h1 v h3), mrgs_in I id (hI.2 _ h2 v h4)]
  let g : Nat → Nat := fun x => if x < n then mrgs id S x else match (List.range n).find? (fun k => decide (x - n ∈ V k)) with
    | some k => mrgs id S k
    | none => x
  have a2 : ∀ i, g (mrgs id I i) = g i := mrgs_inv I (fun _ => rfl) fun p hp => by
    obtain ⟨h1, v, h3, h4⟩ := hI.1 p hp
    show (if p.1 < n then _ else _) = (if p.2 < n then _ else _)
    rw [if_pos h1, if_neg (by omega), h4, show n + v - n = v by omega]
    cases hf : (List.range n).find? (fun k => decide (v ∈ V k)) with
    | none =>
      have := List.find?_eq_none.1 hf p.1 (List.mem_range.2 h1)
      simp [h3] at this
    | some k =>
      have hk := List.find?_some hf
      have hkn := List.mem_range.1 (List.mem_of_find?_eq_some hf)
      simp only [decide_eq_true_eq] at hk
      exact one p.1 k h1 hkn ⟨v, h3, hk⟩
  intro i hi
  have e1 := a1 i
  have e2 := a2 i
  have l1 := cI (mrgs id S i)
  have l2 := cI i
  have e3 : g i = mrgs id S i := if_pos hi
  have e4 : g (mrgs id I i) = mrgs id S (mrgs id I i) := if_pos (by omega)
  have l3 := cS (mrgs id I i)
  rw [e3, e4] at e2
  omega

end Go.Proofs.YtheglnkndjheaaaGreatDoor

/- The parts of a list of literals, plainly. -/
namespace Go.Proofs.YtheglnkndjheaaaGreatDoor
set_option linter.unusedVariables false
set_option linter.unusedSimpArgs false
open Go.RowKit

def mtB (V : Nat → List Nat) (i k : Nat) : Bool := (V i).any fun v => decide (v ∈ V k)
theorem mtB_iff {V : Nat → List Nat} {i k : Nat} : mtB V i k = true ↔ ∃ v ∈ V i, v ∈ V k := by simp [mtB]
/-- Which of the first k literals the i-th meets. -/
def meetI (V : Nat → List Nat) (i : Nat) : Nat → List (Nat × Nat)
  | 0 => []
  | k + 1 => meetI V i k ++ (if mtB V i k = true then [(i, k)] else [])
def meetL (V : Nat → List Nat) : Nat → List (Nat × Nat)
  | 0 => []
  | i + 1 => meetL V i ++ meetI V i i
/-- The first n literals and their variables, which stand behind m literals. -/
def haveL (V : Nat → List Nat) (m : Nat) : Nat → List (Nat × Nat)
  | 0 => []
  | i + 1 => haveL V m i ++ (V i).map fun v => (i, m + v)
theorem meetI_mem {V : Nat → List Nat} {i : Nat} {p : Nat × Nat} : ∀ {k : Nat}, p ∈ meetI V i k ↔ p.1 = i ∧ p.2 < k ∧ mtB V i p.2 = true
  | 0 => by simp [meetI]
  | k + 1 => by
    unfold meetI
    rw [List.mem_append, meetI_mem (k := k)]
    constructor
    · rintro (⟨h1, h2, h3⟩ | h)
      · exact ⟨h1, by omega, h3⟩
      · split at h
        · rename_i hm
          simp at h
          subst h
          exact ⟨rfl, by simp, hm⟩
        · cases h
    · rintro ⟨h1, h2, h3⟩
      by_cases e : p.2 < k
      · exact .inl ⟨h1, e, h3⟩
      · have e2 : p.2 = k := by omega
        rw [e2] at h3
        refine .inr ?_
        rw [if_pos h3]
        obtain ⟨a, b⟩ := p
        simp only [] at h1 e2
        subst h1 e2
        simp
theorem meetL_mem {V : Nat → List Nat} {p : Nat × Nat} : ∀ {n : Nat}, p ∈ meetL V n ↔ p.1 < n ∧ p.2 < p.1 ∧ mtB V p.1 p.2 = true
  | 0 => by simp [meetL]
  | n + 1 => by
    unfold meetL
    rw [List.mem_append, meetL_mem (n := n), meetI_mem]
    constructor
    · rintro (⟨h1, h2, h3⟩ | ⟨h1, h2, h3⟩)
      · exact ⟨by omega, h2, h3⟩
      · exact ⟨by omega, by omega, by rw [h1]; exact h3⟩
    · rintro ⟨h1, h2, h3⟩
      by_cases e : p.1 < n
      · exact .inl ⟨e, h2, h3⟩
      · have e2 : p.1 = n := by omega
        exact .inr ⟨e2, by omega, by rw [← e2]; exact h3⟩
theorem haveL_mem {V : Nat → List Nat} {m : Nat} {p : Nat × Nat} : ∀ {n : Nat}, p ∈ haveL V m n ↔ p.1 < n ∧ ∃ v ∈ V p.1, p.2 = m + v
  | 0 => by simp [haveL]
  | n + 1 => by
    unfold haveL
    rw [List.mem_append, haveL_mem (n := n), List.mem_map]
    constructor
    · rintro (⟨h1, h2⟩ | ⟨v, hv, rfl⟩)
      · exact ⟨by omega, h2⟩
      · exact ⟨by simp, v, hv, rfl⟩
    · rintro ⟨h1, v, hv, h2⟩
      by_cases e : p.1 < n
      · exact .inl ⟨e, v, hv, h2⟩
      · have e2 : p.1 = n := by omega
        refine .inr ⟨v, by rw [← e2]; exact hv, ?_⟩
        obtain ⟨a, b⟩ := p
        simp only [] at e2 h2
        subst e2 h2
        rfl
theorem meetL_ok (V : Nat → List Nat) (n : Nat) : meetP n V (meetL V n) := by
  refine ⟨fun p hp => ?_, fun i hi k hk hv => ?_⟩
  · obtain ⟨h1, h2, h3⟩ := meetL_mem.1 hp
    exact ⟨h1, by omega, mtB_iff.1 h3⟩
  · exact meetL_mem.2 ⟨hi, hk, mtB_iff.2 hv⟩
theorem haveL_ok (V : Nat → List Nat) (n : Nat) : haveP n V (haveL V n n) :=
  ⟨fun _ hp => haveL_mem.1 hp, fun i hi v hv => haveL_mem.2 ⟨hi, v, hv, rfl⟩⟩
/-- Both sides name the parts alike. -/
theorem names_same (V : Nat → List Nat) (n : Nat) : ∀ i, i < n → mrgs id (meetL V n) i = mrgs id (haveL V n n) i := parts_same (meetL_ok V n) (haveL_ok V n)

/-- The sets, each as the Ids of its literals. -/
def idsP (ids : List Int) (s : List Int) : List Int := s.map fun x => ids.getD x.toNat 0
def prtR (ids : List Int) (L : Nat → Nat) (n : Nat) : Nat → List (List Int)
  | 0 => []
  | k + 1 => prtR ids L n k ++ (if Fo.setR L k n = [] then [] else [idsP ids (Fo.setR L k n)])
def partsR (ids : List Int) (V : Nat → List Nat) : List (List Int) := prtR ids (mrgs id (meetL V ids.length)) ids.length ids.length

theorem setR_same {L L' : Nat → Nat} {k : Nat} : ∀ j, (∀ i, i < j → L i = L' i) → Fo.setR L k j = Fo.setR L' k j
  | 0, _ => rfl
  | j + 1, h => by
    unfold Fo.setR
    rw [setR_same j fun i hi => h i (by omega), h j (by omega)]
theorem prtR_same {ids : List Int} {L L' : Nat → Nat} {n : Nat} (h : ∀ i, i < n → L i = L' i) : ∀ k, prtR ids L n k = prtR ids L' n k
  | 0 => rfl
  | k + 1 => by
    unfold prtR
    rw [prtR_same h k, setR_same n h]
/-- The program's answer is the given text's. -/
theorem parts_impl (ids : List Int) (V : Nat → List Nat) : prtR ids (mrgs id (haveL V ids.length ids.length)) ids.length ids.length = partsR ids V :=
  (prtR_same (fun i hi => names_same V ids.length i hi) _).symm

theorem mrgs_nm {n : Nat} : ∀ (ps : List (Nat × Nat)) {L : Nat → Nat}, Nm n L → (∀ p ∈ ps, p.1 < n ∧ p.2 < n) → Nm n (mrgs L ps)
  | [], _, h, _ => h
  | p :: t, L, h, hp => by
    have h0 := hp p (List.mem_cons_self ..)
    exact mrgs_nm t (h.mrg h0.1 h0.2) fun q hq => hp q (List.mem_cons_of_mem _ hq)
/-- No literal ahead of the least of a set is in it. -/
theorem setR_ahead {L : Nat → Nat} (h : ∀ i, L i ≤ i) {k : Nat} : ∀ j, j ≤ k → Fo.setR L k j = []
  | 0, _ => rfl
  | j + 1, hj => by
    unfold Fo.setR
    have := h j
    rw [setR_ahead h j (by omega), if_neg (by omega)]
    rfl
/-- What is no name has no set. -/
theorem setR_nil {n : Nat} {L : Nat → Nat} (h : Nm n L) {k : Nat} (hk : L k ≠ k) : ∀ j, j ≤ n → Fo.setR L k j = []
  | 0, _ => rfl
  | j + 1, hj => by
    unfold Fo.setR
    rw [setR_nil h hk j (by omega), if_neg fun e => hk (by have := h.same j (by omega); rw [e] at this; exact this)]
    rfl

end Go.Proofs.YtheglnkndjheaaaGreatDoor
