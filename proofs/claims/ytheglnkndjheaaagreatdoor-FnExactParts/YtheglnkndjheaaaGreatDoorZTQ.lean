/- Several texts in one. -/
import Derived.Test.YtheglnkndjheaaaGreatDoorTQD

/- Touching: maths: what l7Rising makes rises; it is what Sort and Compact make of the same numbers. -/
namespace Go.Proofs.YtheglnkndjheaaaGreatDoor
set_option linter.unusedVariables false
set_option linter.unusedSimpArgs false
open Go.RowKit

theorem posI_above (out : List Int) (x : Int) : ∀ n j, posI out x n ≤ j → j < n → x < out.getD j 0
  | 0, j, _, h => by omega
  | n + 1, j, h1, h2 => by
    unfold posI at h1
    split at h1
    · rename_i h
      by_cases e : j = n
      · subst e; exact h
      · exact posI_above out x n j h1 (by omega)
    · omega

theorem posI_last (out : List Int) (x : Int) : ∀ n, posI out x n = 0 ∨ out.getD (posI out x n - 1) 0 ≤ x
  | 0 => .inl rfl
  | n + 1 => by
    unfold posI
    split
    · exact posI_last out x n
    · rename_i h
      refine .inr ?_
      rw [Nat.add_sub_cancel]
      omega

theorem insI_rise {out : List Int} {x : Int} (h : out.Pairwise (· < ·)) (hx : x ∉ out) : (insI out x).Pairwise (· < ·) := by
  have hab := posI_above out x out.length
  have hla := posI_last out x out.length
  have hle := posI_le out x out.length
  unfold insI
  generalize posI out x out.length = p at *
  have hup : ∀ y ∈ out.drop p, x < y := fun y hy => by
    obtain ⟨j, hj, e⟩ := List.mem_iff_getElem.1 hy
    have h1 : p + j < out.length := by simp at hj; omega
    have h2 := hab (p + j) (by omega) h1
    rw [List.getElem_drop] at e
    rw [List.getD_eq_getElem?_getD, List.getElem?_eq_getElem h1, Option.getD_some, e] at h2
    exact h2
  have hdn : ∀ y ∈ out.take p, y < x := fun y hy => by
    have hym := List.mem_of_mem_take hy
    obtain ⟨j, hj, e⟩ := List.mem_iff_getElem.1 hy
    rw [List.getElem_take] at e
    have hj2 : j < p := by simp at hj; omega
    have hp : p - 1 < out.length := by omega
    have h2 : out[p - 1] ≤ x := by
      rcases hla with h0 | h0
      · omega
      · rw [List.getD_eq_getElem?_getD, List.getElem?_eq_getElem hp, Option.getD_some] at h0
        exact h0
    have h3 : y ≤ out[p - 1] := by
      by_cases ej : j = p - 1
      · subst ej; omega
      · have := (List.pairwise_iff_getElem.1 h) j (p - 1) (by omega) hp (by omega)
        omega
    have h4 : y ≠ x := fun e => hx (e ▸ hym)
    omega
  refine List.pairwise_append.2 ⟨h.sublist (List.take_sublist _ _), List.pairwise_cons.2 ⟨hup, h.sublist (List.drop_sublist _ _)⟩, fun a ha b hb => ?_⟩
  rcases List.mem_cons.1 hb with rfl | hb
  · exact hdn a ha
  · have := hdn a ha
    have := hup b hb
    omega

theorem risI_rise : ∀ (xs out : List Int), out.Pairwise (· < ·) → (risI out xs).Pairwise (· < ·)
  | [], _, h => h
  | x :: t, out, h => by
    rw [risI]
    by_cases e : x ∈ out
    · rw [if_pos e]; exact risI_rise t out h
    · rw [if_neg e]; exact risI_rise t _ (insI_rise h e)

theorem ris_eq {xs ys : List Int} (h : ∀ x, x ∈ xs ↔ x ∈ ys) : risI [] xs = risL ys := by
  refine rise_ext _ _ (risI_rise xs [] List.Pairwise.nil) (sort_compact ys).1 fun x => ?_
  rw [risI_mem]
  unfold risL
  rw [(sort_compact ys).2 x, ← h x]
  simp

end Go.Proofs.YtheglnkndjheaaaGreatDoor

/- Touching: maths: the literals of ids, and their numbers. -/
namespace Go.Proofs.YtheglnkndjheaaaGreatDoor
set_option linter.unusedVariables false
set_option linter.unusedSimpArgs false
open Go.RowKit

/-- The literals of one id; of ids, in turn. -/
def pkC (ls : List Lc) (z : Int) : List Lc := ls.filter fun l => decide (l.id = z)
def smO (ls : List Lc) (ks : List Int) : List Lc := ks.flatMap (pkC ls)
def smB (ls : List Lc) (ks : List Int) : Bool := decide (∀ i, i < ks.length → (i = 0 ∨ ks.getD (i - 1) 0 < ks.getD i 0) ∧ (smO ls (ks.take (i + 1))).length = i + 1)

def RisC (ls : List Lc) : Prop := ls.Pairwise fun a b => a.id < b.id

theorem key_ext : ∀ l1 l2 : List Lc, RisC l1 → RisC l2 → (∀ x, x ∈ l1 ↔ x ∈ l2) → l1 = l2
  | [], [], _, _, _ => rfl
  | [], y :: t, _, _, h => by have := (h y).2 (by simp); simp at this
  | x :: s, [], _, _, h => by have := (h x).1 (by simp); simp at this
  | x :: s, y :: t, h1, h2, h => by
    obtain ⟨a1, a2⟩ := List.pairwise_cons.1 h1
    obtain ⟨b1, b2⟩ := List.pairwise_cons.1 h2
    have e : x = y := by
      rcases List.mem_cons.1 ((h x).1 (by simp)) with e | e
      · exact e
      · rcases List.mem_cons.1 ((h y).2 (by simp)) with e' | e'
        · exact e'.symm
        · have := a1 _ e'
          have := b1 _ e
          omega
    subst e
    rw [key_ext s t a2 b2 fun z => ?_]
    constructor
    · intro hz
      rcases List.mem_cons.1 ((h z).1 (List.mem_cons_of_mem _ hz)) with e | e
      · subst e; have := a1 _ hz; omega
      · exact e
    · intro hz
      rcases List.mem_cons.1 ((h z).2 (List.mem_cons_of_mem _ hz)) with e | e
      · subst e; have := b1 _ hz; omega
      · exact e

theorem pkC_mem {ls : List Lc} {z : Int} {l : Lc} : l ∈ pkC ls z ↔ l ∈ ls ∧ l.id = z := by simp [pkC]

theorem pkC_one {ls : List Lc} (h : RisC ls) (z : Int) : (pkC ls z).length ≤ 1 := by
  have hp : RisC (pkC ls z) := List.Pairwise.filter _ h
  have hm : ∀ l ∈ pkC ls z, l.id = z := fun l hl => (pkC_mem.1 hl).2
  match pkC ls z, hp, hm with
  | [], _, _ => simp
  | [a], _, _ => simp
  | a :: b :: t, hp, hm =>
    have h1 := (List.pairwise_cons.1 hp).1 b (by simp)
    have h2 := hm a (by simp)
    have h3 := hm b (by simp)
    omega

theorem smO_mem {ls : List Lc} {ks : List Int} {l : Lc} : l ∈ smO ls ks ↔ l ∈ ls ∧ l.id ∈ ks := by
  unfold smO
  rw [List.mem_flatMap]
  constructor
  · rintro ⟨z, hz, hl⟩
    obtain ⟨h1, rfl⟩ := pkC_mem.1 hl
    exact ⟨h1, hz⟩
  · rintro ⟨h1, h2⟩
    exact ⟨_, h2, pkC_mem.2 ⟨h1, rfl⟩⟩

theorem smO_len {ls : List Lc} : ∀ {ks : List Int}, (∀ z ∈ ks, (pkC ls z).length = 1) → (smO ls ks).length = ks.length
  | [], _ => rfl
  | z :: t, h => by
    have h1 := smO_len (ks := t) (fun y hy => h y (List.mem_cons_of_mem _ hy))
    have h2 := h z (by simp)
    unfold smO at h1 ⊢
    rw [List.flatMap_cons, List.length_append, h1, h2, List.length_cons]
    omega

theorem smO_ids {ls : List Lc} : ∀ {ks : List Int}, (∀ z ∈ ks, (pkC ls z).length = 1) → (smO ls ks).map Lc.id = ks
  | [], _ => rfl
  | z :: t, h => by
    have h1 := smO_ids (ks := t) (fun y hy => h y (List.mem_cons_of_mem _ hy))
    have h2 := h z (by simp)
    have e : (pkC ls z).map Lc.id = [z] := by
      obtain ⟨a, ha⟩ := List.length_eq_one_iff.1 h2
      have : a ∈ pkC ls z := by rw [ha]; simp
      rw [ha, List.map_cons, List.map_nil, (pkC_mem.1 this).2]
    unfold smO at h1 ⊢
    rw [List.flatMap_cons, List.map_append, h1, e]
    rfl

theorem smO_take {ls : List Lc} {ks : List Int} {k : Nat} {z : Int} (h : ks[k]? = some z) : smO ls (ks.take (k + 1)) = smO ls (ks.take k) ++ pkC ls z := by
  unfold smO
  rw [List.take_add_one, h]
  simp

theorem adj_rise {ks : List Int} (h : ∀ i, i < ks.length → i = 0 ∨ ks.getD (i - 1) 0 < ks.getD i 0) : ks.Pairwise (· < ·) := by
  rw [List.pairwise_iff_getElem]
  have step : ∀ d i, i + d + 1 < ks.length → ks.getD i 0 < ks.getD (i + d + 1) 0 := by
    intro d
    induction d with
    | zero => intro i hi; rcases h (i + 1) hi with h0 | h0
              · omega
              · simpa using h0
    | succ d ih => intro i hi
                   have h1 := ih i (by omega)
                   rcases h (i + (d + 1) + 1) hi with h0 | h0
                   · omega
                   · rw [show i + (d + 1) + 1 - 1 = i + d + 1 by omega] at h0
                     omega
  intro i j hi hj hij
  have := step (j - i - 1) i (by omega)
  rw [show i + (j - i - 1) + 1 = j by omega] at this
  rw [List.getD_eq_getElem?_getD, List.getD_eq_getElem?_getD, List.getElem?_eq_getElem hi, List.getElem?_eq_getElem hj] at this
  exact this

theorem rise_adj {ks : List Int} (h : ks.Pairwise (· < ·)) {i : Nat} (hi : i < ks.length) : i = 0 ∨ ks.getD (i - 1) 0 < ks.getD i 0 := by
  by_cases h0 : i = 0
  · exact .inl h0
  · have := List.pairwise_iff_getElem.1 h (i - 1) i (by omega) hi (by omega)
    rw [List.getD_eq_getElem?_getD, List.getD_eq_getElem?_getD, List.getElem?_eq_getElem hi, List.getElem?_eq_getElem (by omega : i - 1 < ks.length)]
    exact .inr this

theorem sm_some {ls : List Lc} {ks : List Int} (hl : RisC ls) (h : smB ls ks = true) : smO ls ks = ls.filter (fun l => decide (l.id ∈ ks)) ∧ (ls.filter fun l => decide (l.id ∈ ks)).map Lc.id = ks := by
  have h := of_decide_eq_true h
  have hk : ks.Pairwise (· < ·) := adj_rise fun i hi => (h i hi).1
  have hone : ∀ z ∈ ks, (pkC ls z).length = 1 := fun z hz => by
    obtain ⟨i, hi, e⟩ := List.mem_iff_getElem.1 hz
    have h1 := (h i hi).2
    rw [smO_take (by rw [List.getElem?_eq_getElem hi, e]), List.length_append] at h1
    have h2 : (smO ls (ks.take i)).length = i := by
      by_cases h0 : i = 0
      · subst h0; rfl
      · have := (h (i - 1) (by omega)).2
        rw [show i - 1 + 1 = i by omega] at this
        exact this
    omega
  have hids := smO_ids hone
  have hr : RisC (smO ls ks) := by
    rw [← hids, List.pairwise_map] at hk
    exact hk
  have e : smO ls ks = ls.filter (fun l => decide (l.id ∈ ks)) := key_ext _ _ hr (List.Pairwise.filter _ hl) fun x => by rw [smO_mem]; simp
  exact ⟨e, by rw [← e]; exact hids⟩

theorem sm_iff {ls : List Lc} {ks : List Int} (hl : RisC ls) : smB ls ks = decide ((ls.filter fun l => decide (l.id ∈ ks)).map Lc.id = ks) := by
  by_cases h : (ls.filter fun l => decide (l.id ∈ ks)).map Lc.id = ks
  · rw [decide_eq_true h]
    have hk : ks.Pairwise (· < ·) := by
      rw [← h, List.pairwise_map]
      exact List.Pairwise.filter _ hl
    have hone : ∀ z ∈ ks, (pkC ls z).length = 1 := fun z hz => by
      have hz2 := hz
      rw [← h] at hz2
      obtain ⟨l, hl2, e⟩ := List.mem_map.1 hz2
      have : l ∈ pkC ls z := pkC_mem.2 ⟨(List.mem_filter.1 hl2).1, e⟩
      have h1 := List.length_pos_of_mem this
      have h2 := pkC_one hl z
      omega
    refine decide_eq_true fun i hi => ⟨rise_adj hk hi, ?_⟩
    rw [smO_len fun z hz => hone z (List.mem_of_mem_take hz), List.length_take]
    omega
  · rw [decide_eq_false h]
    cases hb : smB ls ks with
    | false => rfl
    | true => exact absurd (sm_some hl hb).2 h

end Go.Proofs.YtheglnkndjheaaaGreatDoor

/- Touching: maths: the given side's answer is the program's. -/
namespace Go.Proofs.YtheglnkndjheaaaGreatDoor
set_option linter.unusedVariables false
set_option linter.unusedSimpArgs false
open Go.RowKit

theorem idR_ris : ∀ (ls : List Lc) (last : Int), idR last ls = true → RisC ls ∧ ∀ l ∈ ls, last < l.id
  | [], _, _ => ⟨List.Pairwise.nil, by simp⟩
  | l :: t, last, h => by
    rw [idR] at h
    simp only [Bool.and_eq_true, decide_eq_true_eq] at h
    obtain ⟨h1, h2⟩ := idR_ris t l.id h.2
    refine ⟨List.pairwise_cons.2 ⟨h2, h1⟩, fun x hx => ?_⟩
    rcases List.mem_cons.1 hx with rfl | hx
    · exact h.1.1
    · have := h2 x hx
      have := h.1.1
      omega

theorem lit_ris {ds : List Dc} {ls : List Lc} (h : litR ds ls = true) : RisC ls := by
  rw [litR_eq] at h
  simp only [idsR, Bool.and_eq_true, decide_eq_true_eq] at h
  exact (idR_ris ls 0 h.1.2.2).1

/-- What the given side gathers. -/
def lvR (ds : List Dc) (l : Lc) : List Int := risI [] (varsR ds l.ss ++ varsR ds l.ts)
def gvL (ds : List Dc) (ls : List Lc) : List Int := ls.flatMap (lvR ds)

theorem varsR_mem {ds : List Dc} {ns : List Tc} (h : 0 ≤ widR ds ns) (x : Int) : x ∈ varsR ds ns ↔ x ∈ varL ns := by
  have h0 : ¬ (widthsR ds ns).length = 0 := fun e => by
    unfold widR at h
    rw [if_pos e] at h
    omega
  unfold varsR
  rw [if_neg h0, ← vars_eq h0]
  exact (sort_compact _).2 x

theorem gv_mem {ds : List Dc} {ls : List Lc} (h : ∀ l ∈ ls, sideR ds l = true) (x : Int) : x ∈ gvL ds ls ↔ x ∈ varL (nodC ls) := by
  induction ls with
  | nil => simp [gvL, nodC, varL]
  | cons l t ih =>
    have ih := ih fun l hl => h l (List.mem_cons_of_mem _ hl)
    have hs := h l (by simp)
    simp only [sideR, Bool.and_eq_true, decide_eq_true_eq] at hs
    have e1 : gvL ds (l :: t) = lvR ds l ++ gvL ds t := rfl
    have e2 : nodC (l :: t) = (l.ss ++ l.ts) ++ nodC t := rfl
    rw [e1, e2, varL_append, varL_append, List.mem_append, List.mem_append, List.mem_append, ih, lvR, risI_mem, List.mem_append, varsR_mem hs.1, varsR_mem (ds := ds) (ns := l.ts) (by omega)]
    simp

def touG (ds : List Dc) (ls : List Lc) (ks : List Int) : List Int × Bool :=
  if litR ds ls = true then if smB ls ks = true then (risI [] (gvL ds (smO ls ks)), true) else ([], false) else ([], false)

theorem tou_eq (ds : List Dc) (ls : List Lc) (ks : List Int) : touG ds ls ks = touR ds ls ks := by
  unfold touG touR
  by_cases hL : litR ds ls = true
  · rw [if_pos hL, if_pos hL]
    have hr := lit_ris hL
    by_cases hS : smB ls ks = true
    · obtain ⟨e1, e2⟩ := sm_some hr hS
      rw [if_pos hS, if_pos e2, e1, ris_eq (gv_mem fun l hl => ?_)]
      rw [litR_eq] at hL
      simp only [Bool.and_eq_true, List.all_eq_true] at hL
      exact hL.2 l (List.mem_filter.1 hl).1
    · rw [if_neg hS, if_neg]
      intro e
      rw [sm_iff hr] at hS
      exact hS (decide_eq_true e)
  · rw [if_neg hL, if_neg hL]

end Go.Proofs.YtheglnkndjheaaaGreatDoor
