/- The watcher's functions beside a settler. -/
import Derived.Test.YtmfamdonbgmjbaaDoorSVC
namespace Go.Proofs.YtmfamdonbgmjbaaDoor
set_option linter.unusedVariables false
set_option linter.unusedSimpArgs false
open Go.RowKit
/-- What stays all the way. -/
structure Cnx (w : World) (S nc nw : Nat) (ca : Option Addr) (xs : List Iw) : Prop where
  rc : RdII w ca xs
  xl : xs.length = nc
  n4 : nc ≤ 4000
  S4 : S ≤ 400
  cs : ∀ cl ∈ xs.map Iw.ks, Cd cl ∧ cl.length ≤ 400 ∧ ∀ x ∈ cl, x ≠ 0 ∧ -(S : Int) ≤ x ∧ x ≤ (S : Int)
  pw : ∀ p, p < nc → p / 64 < nw
  nw9 : nw ≤ 4000
  tab : TabAt 0 Lib.deBruijn64tab w
  pos : 0 < w.heap.size
/-- The watcher with what stands. -/
def Ws (w u : World) (M : Wb) (S N : Nat) (ca : Option Addr) (nc cc nw : Nat) (cs : List (List Int)) (T : List Int) (live : Bool) : Prop := ∃ tv eyl rows ws du, Wm u w.heap.size M S N ca nc cc tv eyl rows T ws ∧ Wi cs T (eyF eyl) (wtF S rows) du ∧ ws.length = nw ∧ (live = true → du = plB ws)
theorem Ws.later {w u u' : World} {M : Wb} {S N : Nat} {ca : Option Addr} {nc cc nw : Nat} {cs : List (List Int)} {T : List Int} {live : Bool} (h : Ws w u M S N ca nc cc nw cs T live) (hb : Below u.heap.size u u') : Ws w u' M S N ca nc cc nw cs T live := by
  obtain ⟨tv, eyl, rows, ws, du, h1, h2⟩ := h
  exact ⟨tv, eyl, rows, ws, du, h1.later hb, h2⟩
theorem Ws.ft {w u u' : World} {M : Wb} {S N : Nat} {ca : Option Addr} {nc cc nw : Nat} {cs : List (List Int)} {T : List Int} {live : Bool} (h : Ws w u M S N ca nc cc nw cs T live) (hx : M.ex = []) (hf : Ft u u') : Ws w u' M S N ca nc cc nw cs T live := by
  obtain ⟨tv, eyl, rows, ws, du, h1, h2⟩ := h
  exact ⟨tv, eyl, rows, ws, du, h1.ft hx hf, h2⟩
theorem put_se {w u : World} {M : Wb} {S N : Nat} {ca : Option Addr} {nc cc nw sb : Nat} {xs : List Iw} {T : List Int} {v : Value} {K : List Fr} {vis most : Nat} (hx : Cnx w S nc nw ca xs) (h : Ws w u M S N ca nc cc nw (xs.map Iw.ks) T true) (hs : Se u w.heap.size sb M.bx v K vis most) (hbl : Below w.heap.size w u) (hTl : T.length ≤ 4000) (n : Int) (hn : -(S : Int) ≤ n ∧ n ≤ (S : Int)) :
    Calls Tryd.prog 37 #[.pointer (some ⟨M.bx, 0, none⟩), .int .i64 n] u fun e w' => e = .returned (.tuple #[]) ∧ Ws w w' M S N ca nc cc nw (xs.map Iw.ks) (T ++ [n]) true ∧ Se w' w.heap.size sb M.bx v K vis most ∧ Below w.heap.size u w' := by
  obtain ⟨tv, eyl, rows, ws, du, h1, h2, h3, h4⟩ := h
  obtain ⟨l, hl, hback⟩ := hs.ex
  rw [h4 rfl] at h2
  refine (put_any (M := M.withs l) (ex := fun _ => false) xs (h1.withs hl) (by rw [plX_none]; exact h2) hx.rc hx.xl hx.n4 hbl hx.S4 (fun c hc => ⟨(hx.cs c hc).1, (hx.cs c hc).2.1, fun z hz => ((hx.cs c hc).2.2 z hz).2⟩) (fun p hp => by rw [h3]; exact hx.pw p hp) hTl n hn).mono ?_
  rintro e w' ⟨rfl, tv', eyl', rows', ws', g1, g2, g3, g4⟩
  rw [plX_none] at g2
  obtain ⟨g5, g6⟩ := g1.without
  exact ⟨rfl, ⟨tv', eyl', rows', ws', _, g5, g2, g3.trans h3, fun _ => rfl⟩, hback _ g6, g4⟩
theorem follow_se {w u : World} {M : Wb} {S N : Nat} {ca : Option Addr} {nc cc nw sb : Nat} {xs : List Iw} {T : List Int} {v : Value} {K : List Fr} {vis most : Nat} (hx : Cnx w S nc nw ca xs) (h : Ws w u M S N ca nc cc nw (xs.map Iw.ks) T true) (hs : Se u w.heap.size sb M.bx v K vis most) (hbl : Below w.heap.size w u) (hT : Tk S T) (R : List Int × Bool) (hR : unF (S + 1) (xs.map Iw.ks) T = R) :
    Calls Tryd.prog 38 #[.pointer (some ⟨M.bx, 0, none⟩)] u fun e w' => e = .returned (.bool R.2) ∧ Ws w w' M S N ca nc cc nw (xs.map Iw.ks) R.1 R.2 ∧ (R.2 = true → (xs.map Iw.ks).find? (dueB R.1) = none) ∧ Tk S R.1 ∧ Se w' w.heap.size sb M.bx v K vis most ∧ Below w.heap.size u w' := by
  obtain ⟨tv, eyl, rows, ws, du, h1, h2, h3, h4⟩ := h
  obtain ⟨l, hl, hback⟩ := hs.ex
  rw [h4 rfl] at h2
  have hU : Uq S (xs.map Iw.ks) T R := by rw [← hR]; exact Uq.start S _ _
  refine (follow_any (M := M.withs l) R xs (h1.withs hl) h2 hT hU hx.rc hx.xl hx.n4 hbl hx.S4 hx.cs (fun p hp => by rw [h3]; exact hx.pw p hp) (by rw [h3]; exact hx.nw9) hx.tab hx.pos).mono ?_
  rintro e w' ⟨rfl, tv', eyl', rows', ws', du', g1, g2, g3, g4, g5, g6⟩
  obtain ⟨g7, g8⟩ := g1.without
  exact ⟨rfl, ⟨tv', eyl', rows', ws', du', g7, g2, g4.trans h3, fun h => (g5 h).1⟩, fun h => (g5 h).2, g3, hback _ g8, g6⟩
theorem undo_se {w u : World} {M : Wb} {S N : Nat} {ca : Option Addr} {nc cc nw sb : Nat} {xs : List Iw} {T T1 : List Int} {live : Bool} {v : Value} {K : List Fr} {vis most : Nat} (hx : Cnx w S nc nw ca xs) (h : Ws w u M S N ca nc cc nw (xs.map Iw.ks) (T ++ T1) live) (hs : Se u w.heap.size sb M.bx v K vis most) (hbl : Below w.heap.size w u) (hT : Tk S (T ++ T1)) (hf : (xs.map Iw.ks).find? (dueB T) = none) (tn : Nat) (htn : T.length = tn) :
    Calls Tryd.prog 80 #[.pointer (some ⟨M.bx, 0, none⟩), .int .i64 (tn : Int)] u fun e w' => e = .returned (.tuple #[]) ∧ Ws w w' M S N ca nc cc nw (xs.map Iw.ks) T true ∧ Se w' w.heap.size sb M.bx v K vis most ∧ Below w.heap.size u w' := by
  obtain ⟨tv, eyl, rows, ws, du, h1, h2, h3, h4⟩ := h
  obtain ⟨l, hl, hback⟩ := hs.ex
  refine (undo_any (M := M.withs l) (h1.withs hl) hT hx.S4 hbl (by rw [h3]; exact hx.nw9) tn htn).mono ?_
  rintro e w' ⟨rfl, tv', g1, g2⟩
  obtain ⟨g3, g4⟩ := g1.without
  have hz : ∀ p, plB (List.replicate ws.length 0) p = false := fun p => plB_none (fun j _ => by rw [List.getD_eq_getElem?_getD, List.getElem?_replicate]; split <;> rfl) p
  exact ⟨rfl, ⟨tv', eyl, rows, _, _, g3, h2.undo hf hz, by rw [List.length_replicate]; exact h3, fun _ => rfl⟩, hback _ g4, g2⟩
theorem isSo_se {w u : World} {M : Wb} {S N : Nat} {ca : Option Addr} {nc cc nw : Nat} {cs : List (List Int)} {T : List Int} {live : Bool} (h : Ws w u M S N ca nc cc nw cs T live) (hS : S ≤ 400) (n : Int) (hn : -(S : Int) ≤ n ∧ n ≤ (S : Int)) :
    Calls Tryd.prog 65 #[.pointer (some ⟨M.bx, 0, none⟩), .int .i64 n] u fun e w' => e = .returned (.bool (decide (n ∈ T))) ∧ Below u.heap.size u w' := by
  obtain ⟨tv, eyl, rows, ws, du, h1, -⟩ := h
  exact isSo_any h1 hS n hn
theorem Ws.trail {w u : World} {M : Wb} {S N : Nat} {ca : Option Addr} {nc cc nw : Nat} {cs : List (List Int)} {T : List Int} {live : Bool} (h : Ws w u M S N ca nc cc nw cs T live) : ∃ a c ds, Bz u M.bx ds 68 ∧ ds[5]? = some (.slice a T.length c) ∧ ds[0]? = some (.int .i64 (S : Int)) ∧ OI u w.heap.size (.slice a T.length c) T := by
  obtain ⟨tv, eyl, rows, ws, du, h1, -⟩ := h
  rcases h1.tr.2 with ⟨e, h0⟩ | ⟨g, cap, cur, e, -⟩
  · refine ⟨none, 0, _, h1.bx, ?_, rfl, ?_⟩
    · rw [h0, ← e]; rfl
    · rw [h0, ← e]; exact h1.tr
  · refine ⟨some ⟨g, 0, none⟩, cap, _, h1.bx, ?_, rfl, ?_⟩
    · rw [← e]; rfl
    · rw [← e]; exact h1.tr
end Go.Proofs.YtmfamdonbgmjbaaDoor
