/- Touching: maths: the literals of ids, and their numbers. -/
import Derived.Test.YtheglnkndjheaaaGreatDoorTQE
namespace Go.Proofs.YtheglnkndjheaaaGreatDoor
set_option linter.unusedVariables false
set_option linter.unusedSimpArgs false
open Go.RowKit

/-- The literals of one id; of ids, in turn. -/
def pkC (ls : List Lc) (z : Int) : List Lc := ls.filter fun l => decide (l.id = z)
def smO (ls : List Lc) (ks : List Int) : List Lc := ks.flatMap (pkC ls)
def smB (ls : List Lc) (ks : List Int) : Bool := decide (∀ i, i < ks.length → (i = 0 ∨ ks.getD (i - 1) 0 < ks.getD i 0) ∧ (smO ls (ks.take (i + 1))).length = i + 1)

def RisC (ls : List Lc) : Prop := ls.Pairwise fun a b => a.id < b.id

theorem key_ext : ∀ l1 l2 : List Lc, RisC l1 → RisC l2 → (∀ x, x ∈ l1 ↔ x ∈ l2) → l1 = l2
  | [], [], _, _, _ => rfl
  | [], y :: t, _, _, h => by have := (h y).2 (by simp); simp at this
  | x :: s, [], _, _, h => by have := (h x).1 (by simp); simp at this
  | x :: s, y :: t, h1, h2, h => by
    obtain ⟨a1, a2⟩ := List.pairwise_cons.1 h1
    obtain ⟨b1, b2⟩ := List.pairwise_cons.1 h2
    have e : x = y := by
      rcases List.mem_cons.1 ((h x).1 (by simp)) with e | e
      · exact e
      · rcases List.mem_cons.1 ((h y).2 (by simp)) with e' | e'
        · exact e'.symm
        · have := a1 _ e'
          have := b1 _ e
          omega
    subst e
    rw [key_ext s t a2 b2 fun z => ?_]
    constructor
    · intro hz
      rcases List.mem_cons.1 ((h z).1 (List.mem_cons_of_mem _ hz)) with e | e
      · subst e; have := a1 _ hz; omega
      · exact e
    · intro hz
      rcases List.mem_cons.1 ((h z).2 (List.mem_cons_of_mem _ hz)) with e | e
      · subst e; have := b1 _ hz; omega
      · exact e

theorem pkC_mem {ls : List Lc} {z : Int} {l : Lc} : l ∈ pkC ls z ↔ l ∈ ls ∧ l.id = z := by simp [pkC]

theorem pkC_one {ls : List Lc} (h : RisC ls) (z : Int) : (pkC ls z).length ≤ 1 := by
  have hp : RisC (pkC ls z) := List.Pairwise.filter _ h
  have hm : ∀ l ∈ pkC ls z, l.id = z := fun l hl => (pkC_mem.1 hl).2
  match pkC ls z, hp, hm with
  | [], _, _ => simp
  | [a], _, _ => simp
  | a :: b :: t, hp, hm =>
    have h1 := (List.pairwise_cons.1 hp).1 b (by simp)
    have h2 := hm a (by simp)
    have h3 := hm b (by simp)
    omega

theorem smO_mem {ls : List Lc} {ks : List Int} {l : Lc} : l ∈ smO ls ks ↔ l ∈ ls ∧ l.id ∈ ks := by
  unfold smO
  rw [List.mem_flatMap]
  constructor
  · rintro ⟨z, hz, hl⟩
    obtain ⟨h1, rfl⟩ := pkC_mem.1 hl
    exact ⟨h1, hz⟩
  · rintro ⟨h1, h2⟩
    exact ⟨_, h2, pkC_mem.2 ⟨h1, rfl⟩⟩

theorem smO_len {ls : List Lc} : ∀ {ks : List Int}, (∀ z ∈ ks, (pkC ls z).length = 1) → (smO ls ks).length = ks.length
  | [], _ => rfl
  | z :: t, h => by
    have h1 := smO_len (ks := t) (fun y hy => h y (List.mem_cons_of_mem _ hy))
    have h2 := h z (by simp)
    unfold smO at h1 ⊢
    rw [List.flatMap_cons, List.length_append, h1, h2, List.length_cons]
    omega

theorem smO_ids {ls : List Lc} : ∀ {ks : List Int}, (∀ z ∈ ks, (pkC ls z).length = 1) → (smO ls ks).map Lc.id = ks
  | [], _ => rfl
  | z :: t, h => by
    have h1 := smO_ids (ks := t) (fun y hy => h y (List.mem_cons_of_mem _ hy))
    have h2 := h z (by simp)
    have e : (pkC ls z).map Lc.id = [z] := by
      obtain ⟨a, ha⟩ := List.length_eq_one_iff.1 h2
      have : a ∈ pkC ls z := by rw [ha]; simp
      rw [ha, List.map_cons, List.map_nil, (pkC_mem.1 this).2]
    unfold smO at h1 ⊢
    rw [List.flatMap_cons, List.map_append, h1, e]
    rfl

theorem smO_take {ls : List Lc} {ks : List Int} {k : Nat} {z : Int} (h : ks[k]? = some z) : smO ls (ks.take (k + 1)) = smO ls (ks.take k) ++ pkC ls z := by
  unfold smO
  rw [List.take_add_one, h]
  simp

theorem adj_rise {ks : List Int} (h : ∀ i, i < ks.length → i = 0 ∨ ks.getD (i - 1) 0 < ks.getD i 0) : ks.Pairwise (· < ·) := by
  rw [List.pairwise_iff_getElem]
  have step : ∀ d i, i + d + 1 < ks.length → ks.getD i 0 < ks.getD (i + d + 1) 0 := by
    intro d
    induction d with
    | zero => intro i hi; rcases h (i + 1) hi with h0 | h0
              · omega
              · simpa using h0
    | succ d ih => intro i hi
                   have h1 := ih i (by omega)
                   rcases h (i + (d + 1) + 1) hi with h0 | h0
                   · omega
                   · rw [show i + (d + 1) + 1 - 1 = i + d + 1 by omega] at h0
                     omega
  intro i j hi hj hij
  have := step (j - i - 1) i (by omega)
  rw [show i + (j - i - 1) + 1 = j by omega] at this
  rw [List.getD_eq_getElem?_getD, List.getD_eq_getElem?_getD, List.getElem?_eq_getElem hi, List.getElem?_eq_getElem hj] at this
  exact this

theorem rise_adj {ks : List Int} (h : ks.Pairwise (· < ·)) {i : Nat} (hi : i < ks.length) : i = 0 ∨ ks.getD (i - 1) 0 < ks.getD i 0 := by
  by_cases h0 : i = 0
  · exact .inl h0
  · have := List.pairwise_iff_getElem.1 h (i - 1) i (by omega) hi (by omega)
    rw [List.getD_eq_getElem?_getD, List.getD_eq_getElem?_getD, List.getElem?_eq_getElem hi, List.getElem?_eq_getElem (by omega : i - 1 < ks.length)]
    exact .inr this

theorem sm_some {ls : List Lc} {ks : List Int} (hl : RisC ls) (h : smB ls ks = true) : smO ls ks = ls.filter (fun l => decide (l.id ∈ ks)) ∧ (ls.filter fun l => decide (l.id ∈ ks)).map Lc.id = ks := by
  have h := of_decide_eq_true h
  have hk : ks.Pairwise (· < ·) := adj_rise fun i hi => (h i hi).1
  have hone : ∀ z ∈ ks, (pkC ls z).length = 1 := fun z hz => by
    obtain ⟨i, hi, e⟩ := List.mem_iff_getElem.1 hz
    have h1 := (h i hi).2
    rw [smO_take (by rw [List.getElem?_eq_getElem hi, e]), List.length_append] at h1
    have h2 : (smO ls (ks.take i)).length = i := by
      by_cases h0 : i = 0
      · subst h0; rfl
      · have := (h (i - 1) (by omega)).2
        rw [show i - 1 + 1 = i by omega] at this
        exact this
    omega
  have hids := smO_ids hone
  have hr : RisC (smO ls ks) := by
    rw [← hids, List.pairwise_map] at hk
    exact hk
  have e : smO ls ks = ls.filter (fun l => decide (l.id ∈ ks)) := key_ext _ _ hr (List.Pairwise.filter _ hl) fun x => by rw [smO_mem]; simp
  exact ⟨e, by rw [← e]; exact hids⟩

theorem sm_iff {ls : List Lc} {ks : List Int} (hl : RisC ls) : smB ls ks = decide ((ls.filter fun l => decide (l.id ∈ ks)).map Lc.id = ks) := by
  by_cases h : (ls.filter fun l => decide (l.id ∈ ks)).map Lc.id = ks
  · rw [decide_eq_true h]
    have hk : ks.Pairwise (· < ·) := by
      rw [← h, List.pairwise_map]
      exact List.Pairwise.filter _ hl
    have hone : ∀ z ∈ ks, (pkC ls z).length = 1 := fun z hz => by
      have hz2 := hz
      rw [← h] at hz2
      obtain ⟨l, hl2, e⟩ := List.mem_map.1 hz2
      have : l ∈ pkC ls z := pkC_mem.2 ⟨(List.mem_filter.1 hl2).1, e⟩
      have h1 := List.length_pos_of_mem this
      have h2 := pkC_one hl z
      omega
    refine decide_eq_true fun i hi => ⟨rise_adj hk hi, ?_⟩
    rw [smO_len fun z hz => hone z (List.mem_of_mem_take hz), List.length_take]
    omega
  · rw [decide_eq_false h]
    cases hb : smB ls ks with
    | false => rfl
    | true => exact absurd (sm_some hl hb).2 h

end Go.Proofs.YtheglnkndjheaaaGreatDoor
