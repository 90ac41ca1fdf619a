/- Parts: what the law asks of contents. -/
import Derived.Test.YtheglnkndjheaaaGreatDoorPTF
import Derived.Test.YtheglnkndjheaaaGreatDoorZPG
import Derived.Test.YtheglnkndjheaaaGreatDoorZFB
import Derived.Test.YtheglnkndjheaaaGreatDoorID
import Derived.Test.YtheglnkndjheaaaGreatDoorZWK
import Derived.Test.YtheglnkndjheaaaGreatDoorZTN
namespace Go.Proofs.YtheglnkndjheaaaGreatDoor
set_option linter.unusedVariables false
set_option linter.unusedSimpArgs false
open Go.RowKit

theorem lits_le {w : World} {b : Option Addr} {xs : List Lg} (hs : RdL w b xs) : ∀ x ∈ xs, x.ss.length ≤ 1048576 ∧ x.ts.length ≤ 1048576 := fun x hx => by
  obtain ⟨i, hi⟩ := List.getElem?_of_mem hx
  obtain ⟨b3, o3, -, -, r1, r2, -⟩ := hs.at hi
  exact ⟨r1.1, r2.1⟩

theorem prtR_in (ids : List Int) (L : Nat → Nat) (n : Nat) : ∀ k, ∀ xs ∈ prtR ids L n k, 0 < xs.length ∧ xs.length ≤ n
  | 0, xs, h => by simp [prtR] at h
  | k + 1, xs, h => by
    unfold prtR at h
    rcases List.mem_append.1 h with h | h
    · exact prtR_in ids L n k xs h
    · split at h
      · simp at h
      · rename_i hne
        simp at h
        subst h
        rw [idsP_len]
        exact ⟨List.length_pos_iff.2 hne, Fo.setR_len L k n⟩

theorem pt_bounds (ds : List Dc) (ls : List Lc) : (ptR ds ls).1.length ≤ 60 ∧ ∀ xs ∈ (ptR ds ls).1, 0 < xs.length ∧ xs.length ≤ 60 := by
  unfold ptR
  by_cases hL : litR ds ls = true
  · rw [if_pos hL]
    have h := (lit_len hL).1
    unfold partsR
    have hl : (ls.map Lc.id).length = ls.length := List.length_map ..
    refine ⟨Nat.le_trans (prtR_len _ _ _ _) (by omega), fun xs hx => ?_⟩
    have h9 := prtR_in _ _ _ _ xs hx
    omega
  · rw [if_neg hL]; simp

theorem tot_60 : ∀ {xss : List (List Int)}, (∀ xs ∈ xss, xs.length ≤ 60) → Fo.tot xss ≤ xss.length * 60
  | [], _ => by simp [Fo.tot]
  | x :: t, h => by
    have ih := tot_60 (xss := t) fun y hy => h y (List.mem_cons_of_mem _ hy)
    have h1 := h x (List.mem_cons_self ..)
    have e : Fo.tot (x :: t) = x.length + Fo.tot t := rfl
    rw [e, List.length_cons, Nat.succ_mul]
    omega

theorem Cq.hold {w : World} {B : Nat} {v : Value} {vs : List Value} {xss : List (List Int)} (h : Cq w B v vs xss) (h1 : xss.length ≤ 60) (h2 : ∀ xs ∈ xss, 0 < xs.length ∧ xs.length ≤ 60) : ∃ a c, v = .slice a xss.length c ∧ Fo.HoldR w B w.heap.size a vs xss := by
  obtain ⟨a, c, rfl⟩ := row_slice h.row
  rw [h.len]
  refine ⟨a, c, rfl, ⟨h.len, by omega, fun xs hx => by have := (h2 xs hx).2; omega, ?_, fun i v xs hv hx => Fo.OW.at (ow_of (h.own i v xs hv hx)) (h2 xs (List.mem_of_getElem? hx)).1, h.dj⟩⟩
  have hcells := fun g hg => World.ownsRow.cells h.row (g := g) hg
  rcases h.row.2 with ⟨-, hn⟩ | ⟨g, cap, cur, e, hB, hh, hcap, -, hsz, -⟩
  · exact .inl (List.eq_nil_of_length_eq_zero (by have := h.len; omega))
  · cases e
    have hlt : g < w.heap.size := lt_of_block hh
    have hrow : w.rowIs g 40 c (fun i => cur.getD i (.int .i64 0)) := ⟨cur, hh, by simpa using hsz, fun i hi => by
      have hi' : i < cur.size := by omega
      rw [Array.getElem?_eq_getElem hi']
      simp [Array.getD, hi']⟩
    refine .inr ⟨g, c, _, rfl, hB, hlt, by have := h.len; omega, hrow, fun i v hv => ?_⟩
    have hil := (List.getElem?_eq_some_iff.1 hv).1
    have c0 := hcells g rfl i v hv
    rw [Addr.add_lit] at c0
    simp only [Nat.zero_add] at c0
    rw [hrow.cell (by omega)] at c0
    exact Option.some.inj c0

end Go.Proofs.YtheglnkndjheaaaGreatDoor
