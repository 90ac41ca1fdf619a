/- What the given functions on words answer: PartOf, BitsOf. -/
import Derived.Test.YtobkemdffhhlfaaI
import Derived.Test.YtobkemdffhhlfaaK
namespace Go.Proofs.Ytobkemdffhhlfaa
set_option linter.unusedVariables false
set_option linter.unusedSimpArgs false
open Go.RowKit

def noR : Int × List Nat × Bool := (0, [], false)

theorem RetB.no {w w' : World} (hb : Below w.heap.size w w') : RetB w noR (.returned (.tuple #[.agg #[.int .i64 0, .slice none 0 0], .bool false])) w' :=
  ⟨none, 0, rfl, .inl ⟨rfl, rfl⟩, hb⟩

theorem chain {W w1 w2 : World} (h : Below W.heap.size W w1) (k : Below w1.heap.size w1 w2) : Below W.heap.size W w2 := h.trans (k.mono h.size)

theorem Fresh.set2 {w : World} {lo lo' : Nat} {a : Option Addr} {ys : List Nat} (h : Fresh w lo a ys) {g : Nat} (hg : g < lo) (hl : lo' ≤ lo) (i j : Nat) (u v : Value) : Fresh ((w.setCell ⟨g, i, none⟩ u).setCell ⟨g, j, none⟩ v) lo' a ys := by
  rcases h with h | ⟨b, rfl, hb, ho⟩
  · exact .inl h
  · exact .inr ⟨b, rfl, by omega, (ho.other (by simp; omega) _).other (by simp; omega) _⟩

/-- How a function ends that gives back what l1From gave: the answer is stored in its own block, the flag behind it. -/
theorem RetB.close {w w2 w3 : World} {r r' : Int × List Nat × Bool} {a3 : Option Addr} {c3 g : Nat} (hfr : Fresh w3 w2.heap.size a3 r.2.1) (hg : w.heap.size ≤ g) (hg2 : g < w2.heap.size)
    (hb : Below w.heap.size w w3) (he : r = r') (u v : Value) :
    RetB w r' (.returned (.tuple #[.agg #[.int .i64 r.1, .slice a3 r.2.1.length c3], .bool r.2.2])) ((w3.setCell ⟨g, 0, none⟩ u).setCell ⟨g, 1, none⟩ v) := by
  subst he
  exact ⟨a3, c3, rfl, hfr.set2 hg2 (by omega) 0 1 u v, (hb.setCell hg _).setCell hg _⟩

def partR (W : Int) (xs : List Nat) (hi lo : Int) : Int × List Nat × Bool :=
  if rightB W xs = true ∧ 0 ≤ lo ∧ lo ≤ hi ∧ hi < W then (hi - lo + 1, pack (((bitsTo xs W.toNat).drop lo.toNat).take (hi - lo + 1).toNat), true) else noR

theorem specPart_any (W : Int) (a : Option Addr) (c : Nat) (xs : List Nat) (hi lo : Int) (w : World) (hr : Rd w a xs) (h64 : (Lit.int .i64 hi).wf = true) :
    Calls Try.prog 50 #[.agg #[.int .i64 W, .slice a xs.length c], .int .i64 hi, .int .i64 lo] w (RetB w (partR W xs hi lo)) := by
  have h2 : Below w.heap.size w ((w.alloc (Obj.cells #[Value.int IntKind.i64 W, Value.slice a xs.length c] 26)).alloc (Obj.cells #[Value.int IntKind.i64 0, Value.slice none 0 0] 26)) := ((Below.refl _ _).alloc (Nat.le_refl _) _).alloc (by simp) _
  have hr' := hr.later h2
  by_cases hc : rightB W xs = true ∧ 0 ≤ lo ∧ lo ≤ hi ∧ hi < W
  · rw [partR, if_pos hc]
    generalize hR : (hi - lo + 1, pack (((bitsTo xs W.toNat).drop lo.toNat).take (hi - lo + 1).toNat), true) = R
    have HR : Hid ((hi - lo + 1, pack (((bitsTo xs W.toNat).drop lo.toNat).take (hi - lo + 1).toNat), true) = R) := hR
    clear hR
    obtain ⟨hok, h0, h1, h3⟩ := hc
    go_enter Try.func50, Try.ntmps50
    go_wp2_with fail
    refine (specOk_any _ _ _ _ _ hr').mono ?_
    rintro e w1 ⟨rfl, hb1⟩
    have hr1 := hr'.later hb1
    obtain ⟨hcc, hff⟩ := bcell hb1
    have hz : w.heap.size + 1 < w1.heap.size := by have := hb1.size; simp at this; omega
    obtain ⟨hW1, hW2, hWl⟩ := right_W hok
    obtain ⟨V, rfl⟩ := Int.eq_ofNat_of_zero_le (show 0 ≤ W by omega)
    obtain ⟨p, rfl⟩ := Int.eq_ofNat_of_zero_le h0
    obtain ⟨q, rfl⟩ := Int.eq_ofNat_of_zero_le (show 0 ≤ hi by omega)
    have hVl : V ≤ 64 * xs.length := by omega
    have HWl : Hid ((xs.length : Int) = ((V : Int) + 63) / 64) := hWl
    clear hWl
    go_wp2_with fail
    refine (l1List_any _ _ _ _ _ hr1 hVl (by omega)).mono ?_
    rintro e w2 ⟨v, rfl, how, hb2⟩
    have hlen := bitsTo_len xs V
    have hle := bitsTo_le xs V
    obtain ⟨a2, c2, rfl, hrb, hc2, hm2⟩ := how.shape (by rw [bitsTo_len]; omega) (fun x hx => by have := hle x hx; omega)
    have hb3 := chain hb1 hb2
    have HB3 := hb3
    obtain ⟨hcc, hff⟩ := bcell hb3
    have hz : w.heap.size + 1 < w2.heap.size := by have := hb3.size; simp at this; omega
    rw [hlen] at hc2 ⊢
    obtain ⟨-, -, hn | ⟨bb, oo, rfl, hcell⟩⟩ := hrb
    · rw [hn] at hlen; simp at hlen; omega
    unfold maxLen at hm2
    have hca : ¬ c2 = p := by omega
    clear how hb1 hb2 hr hr' hr1 hb3
    go_wp2_with fail
    have hbl : (((bitsTo xs V).drop p).take (q - p + 1)).length = q + 1 - p := by simp [hlen]; omega
    have hrd : RdB w2 (some ⟨bb, oo + p, none⟩) (((bitsTo xs V).drop p).take (q - p + 1)) := by
      refine ⟨by omega, fun x hx => ?_, .inr ⟨bb, oo + p, rfl, fun i hi => ?_⟩⟩
      · have := hle x (List.mem_of_mem_drop (List.mem_of_mem_take hx)); omega
      · have := hcell (p + i) (by omega)
        rw [← Nat.add_assoc] at this
        rw [this]
        have hi' : i < q - p + 1 := by omega
        simp [List.getD, hi']
    have hfrom := l1From_yes _ (c2 - p) _ w2 hrd (by omega) (by omega)
    rw [hbl] at hfrom
    refine hfrom.mono ?_
    have HQ : Hid ((((q + 1 - p : Nat) : Int), pack (((bitsTo xs V).drop p).take (q - p + 1)), true) = R) := by
      show _ = _
      rw [← HR.out, show ((q : Int) - p + 1).toNat = q - p + 1 by omega, Int.toNat_natCast, Int.toNat_natCast, show (((q + 1 - p : Nat) : Int)) = (q : Int) - p + 1 by omega]
    clear HR
    generalize (((bitsTo xs V).drop p).take (q - p + 1)) = bs at *
    clear hfrom hrd hcell
    rintro e w3 ⟨a3, c3, rfl, hfr, hb4⟩
    have HB4 := chain HB3 hb4
    obtain ⟨hcc, hff⟩ := bcell HB4
    have hz3 : w.heap.size + 1 < w3.heap.size := by have := HB4.size; simp at this; omega
    dsimp only at hfr ⊢
    go_wp2
    exact bodyPost_ret (by simp [results, Try.results50, go_sem, hcc, hz3]; rfl) rfl (RetB.close (r := (((q + 1 - p : Nat) : Int), pack bs, true)) hfr (by omega) (by omega) (h2.trans (HB4.mono (by simp; omega))) HQ.out _ _)
  · rw [partR, if_neg hc]
    have hcase : rightB W xs = false ∨ (rightB W xs = true ∧ lo < 0) ∨ (rightB W xs = true ∧ 0 ≤ lo ∧ hi < lo) ∨ (rightB W xs = true ∧ 0 ≤ lo ∧ lo ≤ hi ∧ W ≤ hi) := by
      cases hb : rightB W xs with
      | false => exact .inl rfl
      | true => simp [hb] at hc ⊢; omega
    clear hc
    rcases hcase with h | ⟨h, h1⟩ | ⟨h, h1, h3⟩ | ⟨h, h1, h3, h4⟩
    all_goals
      go_enter Try.func50, Try.ntmps50
      go_wp2_with fail
      refine (specOk_any _ _ _ _ _ hr').mono ?_
      rintro e w1 ⟨rfl, hb1⟩
      obtain ⟨hcc, hff⟩ := bcell hb1
      have hz : w.heap.size + 1 < w1.heap.size := by have := hb1.size; simp at this; omega
      go_wp2
      exact bodyPost_ret (v := .tuple #[.agg #[.int .i64 0, .slice none 0 0], .bool false]) (by simp [results, Try.results50, go_sem, hcc]) rfl (RetB.no (((h2.trans (hb1.mono (by simp; omega))).setCell (by simp) _).setCell (by simp) _))

end Go.Proofs.Ytobkemdffhhlfaa
