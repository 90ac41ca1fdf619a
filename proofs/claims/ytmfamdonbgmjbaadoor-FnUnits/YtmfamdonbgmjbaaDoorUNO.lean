/- From what handsOver leaves to the watches. -/
import Derived.Test.YtmfamdonbgmjbaaDoorUNN
namespace Go.Proofs.YtmfamdonbgmjbaaDoor
set_option linter.unusedVariables false
set_option linter.unusedSimpArgs false
open Go.RowKit

def eyF (eyl : List (Nat × Nat)) (p : Nat) : Nat × Nat := eyl.getD p (0, 0)
/-- The clauses that a number watches, by its seat. -/
def wtF (S : Nat) (rows : List (Value × List Nat)) (n : Int) : List Nat := if -(S : Int) ≤ n ∧ n ≤ (S : Int) then (rows.getD ((S : Int) + n).toNat (undef, [])).2 else []
theorem eyF_set {eyl : List (Nat × Nat)} {p : Nat} {e x : Nat × Nat} (h : eyl[p]? = some e) (q : Nat) : eyF (eyl.set p x) q = if q = p then x else eyF eyl q := by
  unfold eyF
  rw [List.getD_eq_getElem?_getD, List.getElem?_set]
  by_cases e : p = q
  · subst e
    have := (List.getElem?_eq_some_iff.1 h).1
    simp [this]
  · rw [if_neg e, if_neg (fun h => e h.symm), ← List.getD_eq_getElem?_getD]
theorem wtF_set {S : Nat} {rows : List (Value × List Nat)} {j : Nat} {r x : Value × List Nat} (h : rows[j]? = some r) {k : Int} (hk : (S : Int) + k = (j : Int)) (hb : -(S : Int) ≤ k ∧ k ≤ (S : Int)) (q : Int) : wtF S (rows.set j x) q = if q = k then x.2 else wtF S rows q := by
  unfold wtF
  by_cases e : q = k
  · subst e
    rw [if_pos hb, if_pos rfl, hk, Int.toNat_natCast, List.getD_eq_getElem?_getD, List.getElem?_set_self (List.getElem?_eq_some_iff.1 h).1, Option.getD_some]
  · rw [if_neg e]
    by_cases hq : -(S : Int) ≤ q ∧ q ≤ (S : Int)
    · rw [if_pos hq, if_pos hq, List.getD_eq_getElem?_getD, List.getElem?_set_ne (by omega), ← List.getD_eq_getElem?_getD]
    · rw [if_neg hq, if_neg hq]
theorem wtF_at {S : Nat} {rows : List (Value × List Nat)} {j : Nat} {r : Value × List Nat} (h : rows[j]? = some r) {k : Int} (hk : (S : Int) + k = (j : Int)) (hb : -(S : Int) ≤ k ∧ k ≤ (S : Int)) : wtF S rows k = r.2 := by
  unfold wtF
  rw [if_pos hb, hk, Int.toNat_natCast, List.getD_eq_getElem?_getD, h, Option.getD_some]
/-- What the row that is gone through holds is no matter. -/
theorem Wj.wtO {cs : List (List Int)} {T : List Int} {n : Int} {row kept : List Nat} {ey : Nat → Nat × Nat} {wt wt' : Int → List Nat} {du : Nat → Bool} {j : Nat} (h : Wj cs T n row j kept ey wt du) (hw : ∀ k, k ≠ -n → wt' k = wt k) : Wj cs T n row j kept ey wt' du :=
  ⟨h.a, fun k hk p => by rw [hw k hk]; exact h.b k hk p, h.b0, fun k hk => by rw [hw k hk]; exact h.nd k hk, h.nd0, h.c, h.o, h.d, h.r, h.e, h.e1⟩
/-- Places that are due, and some more. -/
def plX (ex : Nat → Bool) (ws : List Nat) (q : Nat) : Bool := plB ws q || ex q
theorem plX_none (ws : List Nat) : plX (fun _ => false) ws = plB ws := funext fun q => by unfold plX; rw [Bool.or_false]
theorem Wi.dropX {cs : List (List Int)} {T : List Int} {ey : Nat → Nat × Nat} {wt : Int → List Nat} {ex : Nat → Bool} {ws : List Nat} (h : Wi cs T ey wt (plX ex ws)) (hx : ∀ q, ex q = true → ∀ cl, cs[q]? = some cl → metB T cl = true) : Wi cs T ey wt (plB ws) := by
  have hup : ∀ q, plB ws q = true → plX ex ws q = true := fun q hq => by unfold plX; rw [hq]; rfl
  refine ⟨h.a, h.b, h.nd, fun q c hq => ?_, fun q c hq hd => h.d q c hq (hup q hd), fun q hd => h.r q (hup q hd), h.e⟩
  rcases h.c q c hq with h1 | h1
  · unfold plX at h1
    rw [Bool.or_eq_true] at h1
    rcases h1 with h2 | h2
    · exact .inl h2
    · exact .inr (.inl (hx q h2 c hq))
  · exact .inr h1
/-- One of the row is done. -/
theorem Wj.hands {ex : Nat → Bool} {w u : World} {M : Wb} {S N : Nat} {ca : Option Addr} {nc cc : Nat} {tv : Value} {eyl : List (Nat × Nat)} {rows : List (Value × List Nat)} {ws : List Nat} {cs : List (List Int)} {T : List Int} {n : Int} {row kept : List Nat} {j p e0 e1 : Nat} {cl : List Int} {e : Ending} {w' : World}
    (h : Wj cs T n row j kept (eyF eyl) (wtF S rows) (plX ex ws)) (hcd : Cd cl) (hcn : ∀ x ∈ cl, -(S : Int) ≤ x ∧ x ≤ (S : Int)) (hr : row[j]? = some p) (hp : cs[p]? = some cl) (hey : eyl[p]? = some (e0, e1)) (hl : e0 < cl.length ∧ e1 < cl.length) (hx : eyeN cl (e0, e1) (-n))
    (hret : RetHn w u M S N ca nc cc tv eyl rows (T ++ [n]) ws cl p (-n) e0 e1 e w') :
    ∃ f eyl' rows' ws', e = .returned (.bool f) ∧ Wm w' w.heap.size M S N ca nc cc tv eyl' rows' (T ++ [n]) ws' ∧ Below w.heap.size u w' ∧ ws'.length = ws.length ∧
      (∀ (k0 : Nat) r, (S : Int) + -n = (k0 : Int) → rows[k0]? = some r → rows'[k0]? = some r) ∧
      Wj cs T n row (j + 1) (if f = true then kept else kept ++ [p]) (eyF eyl') (wtF S rows') (plX ex ws') := by
  have hE : eyF eyl p = (e0, e1) := by unfold eyF; rw [List.getD_eq_getElem?_getD, hey]; rfl
  obtain ⟨f, eyl', rows', ws', he, hm, hb, hc⟩ := hret
  refine ⟨f, eyl', rows', ws', he, hm, hb, ?_⟩
  rcases hc with ⟨rfl, rfl, rfl, rfl, h1⟩ | ⟨rfl, rfl, rfl, h1, h2, h3⟩ | ⟨rfl, rfl, i, k, j2, r, v', h1, h2, h3, h4, rfl, h5⟩
  · exact ⟨rfl, fun _ _ _ h => h, by rw [if_neg (by decide)]; exact h.keep hr hp (fun _ _ => rfl) (fun h => h) (.inr h1) (fun _ => .inl h1)⟩
  · refine ⟨h1, fun _ _ _ h => h, ?_⟩
    rw [if_neg (by decide)]
    refine h.keep hr hp (fun q hq => by unfold plX; rw [h2 q, decide_eq_false hq, Bool.or_false]) (fun _ => by unfold plX; rw [h2 p]; simp) (.inl (by unfold plX; rw [h2 p]; simp)) (fun _ => .inr h3)
  · have hkb := hcn k (List.mem_of_getElem? h1)
    have hkn : k ≠ -n := fun e => h2 (by rw [e, Int.neg_neg]; simp)
    refine ⟨rfl, fun k0 s hk0 hs => ?_, ?_⟩
    · rw [List.getElem?_set_ne (by omega)]
      exact hs
    · rw [if_pos rfl]
      obtain ⟨y0, hy0⟩ : ∃ y, cl[e0]? = some y := ⟨_, List.getElem?_eq_getElem hl.1⟩
      obtain ⟨y1, hy1⟩ : ∃ y, cl[e1]? = some y := ⟨_, List.getElem?_eq_getElem hl.2⟩
      have hw1 : wtF S (rows.set j2 (v', r.2 ++ [p])) k = wtF S rows k ++ [p] := by rw [wtF_set h4 h3 hkb, if_pos rfl, wtF_at h4 h3 hkb]
      have hw2 : ∀ q, q ≠ k → wtF S (rows.set j2 (v', r.2 ++ [p])) q = wtF S rows q := fun q hq => by rw [wtF_set h4 h3 hkb, if_neg hq]
      rcases h5 with ⟨g1, g2, rfl⟩ | ⟨g1, g2, rfl⟩
      · exact h.pass (x := y1) hcd hr hp h1 h2 (by rw [hE]; exact hx) (fun q hq => by rw [eyF_set hey, if_neg hq]) (.inl ⟨by rw [eyF_set hey, if_pos rfl, hE], by rw [hE]; exact g1, by rw [hE]; exact g2, by rw [hE]; exact hy1⟩) hw1 hw2
      · exact h.pass (x := y0) hcd hr hp h1 h2 (by rw [hE]; exact hx) (fun q hq => by rw [eyF_set hey, if_neg hq]) (.inr ⟨by rw [eyF_set hey, if_pos rfl, hE], by rw [hE]; exact g1, by rw [hE]; exact g2, by rw [hE]; exact hy0⟩) hw1 hw2
end Go.Proofs.YtmfamdonbgmjbaaDoor
