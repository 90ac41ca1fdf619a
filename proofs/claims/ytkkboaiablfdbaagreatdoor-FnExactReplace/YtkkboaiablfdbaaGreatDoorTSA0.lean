/- Nodes shared: alike ones once, and where each went. -/
import Derived.Test.YtkkboaiablfdbaaGreatDoorTNA
namespace Go.Proofs.YtkkboaiablfdbaaGreatDoor
set_option linter.unusedVariables false
set_option linter.unusedSimpArgs false
open Go.RowKit

def tcEq (x y : Tc) : Bool := decide (x.op = y.op) && decide (x.vr = y.vr) && decide (x.a = y.a) && decide (x.b = y.b) && decide (x.bw = y.bw) && decide (x.ws = y.ws) && decide (x.ks = y.ks)
theorem tcEq_iff {x y : Tc} : tcEq x y = true ↔ x = y := by
  constructor
  · intro h
    simp only [tcEq, Bool.and_eq_true, decide_eq_true_eq] at h
    obtain ⟨⟨⟨⟨⟨⟨h1, h2⟩, h3⟩, h4⟩, h5⟩, h6⟩, h7⟩ := h
    cases x; cases y
    simp only at h1 h2 h3 h4 h5 h6 h7
    subst h1; subst h2; subst h3; subst h4; subst h5; subst h6; subst h7
    rfl
  · rintro rfl
    simp [tcEq]

/-- A node whose kids are where they went. -/
def mvT (to : List Int) (n : Tc) : Tc := ⟨n.op, n.vr, n.a, n.b, n.bw, n.ws, n.ks.map fun k => to.getD k.toNat 0⟩
/-- Where the first one is that is alike. -/
def fndT (out : List Tc) (m : Tc) : Option Nat := out.findIdx? (fun y => tcEq y m)
theorem fndT_some {out : List Tc} {m : Tc} {i : Nat} (h : fndT out m = some i) : out[i]? = some m ∧ ∀ j, j < i → out[j]? ≠ some m := by
  unfold fndT at h
  rw [List.findIdx?_eq_some_iff_getElem] at h
  obtain ⟨hi, h1, h2⟩ := h
  refine ⟨by rw [List.getElem?_eq_getElem hi, tcEq_iff.1 h1], fun j hj e => ?_⟩
  have hjl := (List.getElem?_eq_some_iff.1 e).1
  have := h2 j hj
  rw [List.getElem?_eq_getElem hjl] at e
  cases e
  exact this (tcEq_iff.2 rfl)
theorem fndT_none {out : List Tc} {m : Tc} (h : fndT out m = none) : m ∉ out := by
  unfold fndT at h
  rw [List.findIdx?_eq_none_iff] at h
  intro hm
  have := h m hm
  rw [tcEq_iff.2 rfl] at this
  cases this
theorem fndT_of {out : List Tc} {m : Tc} {i : Nat} (h : out[i]? = some m) (hf : ∀ j, j < i → out[j]? ≠ some m) : fndT out m = some i := by
  cases e : fndT out m with
  | none => exact absurd (List.mem_of_getElem? h) (fndT_none e)
  | some j =>
    obtain ⟨h1, h2⟩ := fndT_some e
    by_cases hji : j < i
    · exact absurd h1 (hf j hji)
    · by_cases hij : i < j
      · exact absurd h (h2 i hij)
      · rw [show j = i by omega]
theorem fndT_not {out : List Tc} {m : Tc} (h : m ∉ out) : fndT out m = none := by
  cases e : fndT out m with
  | none => rfl
  | some j => exact absurd (List.mem_of_getElem? (fndT_some e).1) h

def shStep (st : List Tc × List Int) (n : Tc) : List Tc × List Int :=
  match fndT st.1 (mvT st.2 n) with
  | some i => (st.1, st.2 ++ [(i : Int)])
  | none => (st.1 ++ [mvT st.2 n], st.2 ++ [(st.1.length : Int)])
def shTo (ns : List Tc) : Nat → List Tc × List Int
  | 0 => ([], [])
  | k + 1 => match ns[k]? with
    | some n => shStep (shTo ns k) n
    | none => shTo ns k
theorem shTo_succ {ns : List Tc} {k : Nat} {n : Tc} (h : ns[k]? = some n) : shTo ns (k + 1) = shStep (shTo ns k) n := by
  rw [shTo, h]

/-- But for its kids it is one of the nodes. -/
def Fm (ns : List Tc) (y : Tc) : Prop := ∃ n ∈ ns, y.op = n.op ∧ y.vr = n.vr ∧ y.a = n.a ∧ y.b = n.b ∧ y.bw = n.bw ∧ y.ws = n.ws ∧ y.ks.length = n.ks.length
structure ShF (ns : List Tc) (k : Nat) (st : List Tc × List Int) : Prop where
  l2 : st.2.length = k
  l1 : st.1.length ≤ k
  rg : ∀ x ∈ st.2, 0 ≤ x ∧ x < (st.1.length : Int)
  fm : ∀ y ∈ st.1, Fm ns y
  ks : ∀ y ∈ st.1, ∀ j ∈ y.ks, 0 ≤ j ∧ j < (st.1.length : Int)
  nd : st.1.Nodup
theorem ShF.step {ns : List Tc} {k : Nat} {st : List Tc × List Int} {n : Tc} (h : ShF ns k st) (hn : n ∈ ns) (hk : ∀ j ∈ n.ks, 0 ≤ j ∧ j < (k : Int)) : ShF ns (k + 1) (shStep st n) := by
  unfold shStep
  split
  · rename_i i e
    obtain ⟨h1, -⟩ := fndT_some e
    have hi := (List.getElem?_eq_some_iff.1 h1).1
    refine ⟨by simp [h.l2], by have := h.l1; simp only; omega, fun x hx => ?_, h.fm, h.ks, h.nd⟩
    rcases List.mem_append.1 hx with hx | hx
    · exact h.rg x hx
    · simp at hx
      subst hx
      simp only
      omega
  · rename_i e
    have hnm := fndT_none e
    have hkid : ∀ j ∈ (mvT st.2 n).ks, 0 ≤ j ∧ j < (st.1.length : Int) := fun j hj => by
      obtain ⟨q, hq, rfl⟩ := List.mem_map.1 hj
      obtain ⟨q0, q1⟩ := hk q hq
      have hl := h.l2
      have e1 : st.2.getD q.toNat 0 = st.2[q.toNat]'(by omega) := by
        rw [List.getD_eq_getElem?_getD, List.getElem?_eq_getElem (show q.toNat < st.2.length by omega)]
        rfl
      rw [e1]
      exact h.rg _ (List.getElem_mem _)
    refine ⟨by simp [h.l2], by have := h.l1; simp; omega, fun x hx => ?_, fun y hy => ?_, fun y hy j hj => ?_, ?_⟩
    · rcases List.mem_append.1 hx with hx | hx
      · have := h.rg x hx
        simp only [List.length_append, List.length_cons, List.length_nil]
        omega
      · simp at hx
        subst hx
        simp only [List.length_append, List.length_cons, List.length_nil]
        omega
    · rcases List.mem_append.1 hy with hy | hy
      · exact h.fm y hy
      · simp at hy
        subst hy
        exact ⟨n, hn, rfl, rfl, rfl, rfl, rfl, rfl, by simp [mvT]⟩
    · have key : 0 ≤ j ∧ j < (st.1.length : Int) := by
        rcases List.mem_append.1 hy with hy | hy
        · exact h.ks y hy j hj
        · simp at hy
          subst hy
          exact hkid j hj
      simp only [List.length_append, List.length_cons, List.length_nil]
      omega
    · refine List.nodup_append.2 ⟨h.nd, by simp, fun a ha b hb e => ?_⟩
      simp at hb
      subst hb
      subst e
      exact hnm ha
theorem shTo_f {ns : List Tc} (hk : ∀ (k : Nat) (n : Tc), ns[k]? = some n → ∀ j ∈ n.ks, 0 ≤ j ∧ j < (k : Int)) : ∀ k, k ≤ ns.length → ShF ns k (shTo ns k)
  | 0, _ => ⟨rfl, Nat.le_refl _, by simp [shTo], by simp [shTo], by simp [shTo], by simp [shTo]⟩
  | k + 1, h => by
    have hk2 : ns[k]? = some (ns[k]'(by omega)) := List.getElem?_eq_getElem (by omega)
    rw [shTo_succ hk2]
    exact (shTo_f hk k (by omega)).step (List.getElem_mem _) (hk k _ hk2)

/-- What may stand in the shared nodes. -/
theorem fm_ok {ns : List Tc} {y : Tc} (h : Fm ns y) (hns : ∀ n ∈ ns, okT n) {N : Nat} (hN : N ≤ 1048576) (hk : ∀ j ∈ y.ks, 0 ≤ j ∧ j < (N : Int)) : okT y := by
  obtain ⟨n, hn, e1, e2, e3, e4, e5, e6, e7⟩ := h
  obtain ⟨k1, k2, k3, k4, k5, k6, k7, k8, k9⟩ := hns n hn
  exact ⟨by rw [e1]; exact k1, by rw [e2]; exact k2, by rw [e3]; exact k3, by rw [e4]; exact k4, by rw [e5]; exact k5, by rw [e6]; exact k6, by rw [e6]; exact k7, by rw [e7]; exact k8, fun j hj => by have := hk j hj; exact ⟨by omega, by omega⟩⟩
theorem RdT.ok {w : World} {a : Option Addr} {xs : List Tg} (h : RdT w a xs) : ∀ n ∈ xs.map Tg.ct, okT n := by
  intro n hn
  obtain ⟨x, hx, rfl⟩ := List.mem_map.1 hn
  obtain ⟨i, hi⟩ := List.mem_iff_getElem?.1 hx
  rcases h.2 with h0 | ⟨b, o, -, hc⟩
  · rw [h0] at hx; cases hx
  · obtain ⟨-, h1, h2, k1, k2, k3, k4, k5⟩ := hc i x hi
    exact ⟨k1, k2, k3, k4, k5, h1.1, h1.2.1, h2.1, h2.2.1⟩

end Go.Proofs.YtkkboaiablfdbaaGreatDoor
