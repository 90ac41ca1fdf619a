/- Unit: numbers that may be put; the answer. -/
import Derived.Test.YtmfamdonbgmjbaaDoorUND
import Derived.Test.YtmfamdonbgmjbaaDoorCM
import Derived.Handy
namespace Go.Proofs.YtmfamdonbgmjbaaDoor
set_option linter.unusedVariables false
set_option linter.unusedSimpArgs false
open Go.RowKit

/-- Numbers that may be put: in bounds, none twice, none and its opposite. -/
def setR (S : Int) (set : List Int) : Bool := set.all (numR S) && decide ((set.map absI).Nodup)
def unitR (S : Int) (cs : List (List Int)) (set : List Int) : List Int × Bool := if cnfR S cs = true ∧ setR S set = true then unF (S.toNat + 1) cs set else ([], false)
theorem setR_tk {S : Nat} {set : List Int} : setR (S : Int) set = true ↔ Tk S set := by
  unfold setR
  rw [Bool.and_eq_true, List.all_eq_true, decide_eq_true_eq]
  constructor
  · rintro ⟨h1, h2⟩; exact ⟨fun n hn => numR_iff.1 (h1 n hn), h2⟩
  · intro h; exact ⟨fun n hn => numR_iff.2 (h.num n hn), h.nd⟩
/-- A number that may not be put. -/
theorem setR_no {S : Int} {set : List Int} {k : Nat} {x : Int} (hx : set[k]? = some x) (h : numR S x = false ∨ x ∈ set.take k ∨ -x ∈ set.take k) : setR S set = false := by
  cases hs : setR S set with
  | false => rfl
  | true =>
    exfalso
    unfold setR at hs
    rw [Bool.and_eq_true, List.all_eq_true, decide_eq_true_eq] at hs
    rcases h with h | h
    · have := hs.1 x (List.mem_of_getElem? hx)
      rw [h] at this
      cases this
    · have h2 := hs.2
      obtain ⟨hk, rfl⟩ := List.getElem?_eq_some_iff.1 hx
      rw [← List.take_append_drop k set, List.drop_eq_getElem_cons hk, List.map_append, List.map_cons, List.nodup_append] at h2
      have key : ∀ y ∈ set.take k, absI y ≠ absI set[k] := fun y hy => h2.2.2 (absI y) (List.mem_map_of_mem hy) (absI set[k]) List.mem_cons_self
      rcases h with h | h
      · exact key _ h rfl
      · exact key _ h (absI_neg _)
theorem setR_yes {S : Int} {set : List Int} (h : ∀ (k : Nat) x, set[k]? = some x → numR S x = true ∧ x ∉ set.take k ∧ -x ∉ set.take k) : setR S set = true := by
  unfold setR
  rw [Bool.and_eq_true, List.all_eq_true, decide_eq_true_eq]
  refine ⟨fun n hn => ?_, ?_⟩
  · obtain ⟨k, hk⟩ := List.getElem?_of_mem hn
    exact (h k n hk).1
  · rw [List.nodup_iff_pairwise_ne, List.pairwise_map, List.pairwise_iff_getElem]
    intro i j hi hj hij e
    obtain ⟨-, h2, h3⟩ := h j set[j] (List.getElem?_eq_getElem hj)
    have hm : set[i] ∈ set.take j := by
      rw [List.mem_take_iff_getElem]
      exact ⟨i, by omega, rfl⟩
    rcases absI_eq e with e | e
    · exact h2 (e ▸ hm)
    · exact h3 (by rw [← e]; exact hm)
theorem RdI.takeP {w : World} {a : Option Addr} {ks : List Int} (h : RdI w a ks) (n : Nat) : RdI w a (ks.take n) := by
  obtain ⟨h1, h2, h3⟩ := h
  refine ⟨by rw [List.length_take]; omega, fun k hk => h2 k (List.mem_of_mem_take hk), ?_⟩
  rcases h3 with h3 | ⟨b, o, e, hc⟩
  · left; rw [h3]; simp
  · refine .inr ⟨b, o, e, fun i hi => ?_⟩
    rw [List.length_take] at hi
    rw [hc i (by omega)]
    congr 2
    simp [List.getD, List.getElem?_take, show i < n by omega]
end Go.Proofs.YtmfamdonbgmjbaaDoor
