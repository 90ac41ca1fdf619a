/- Rows of bars as they are told: marked, held, read. -/
import Derived.Test.YtddgldfjeklhbaaCH
namespace Go.Proofs.Ytddgldfjeklhbaa
set_option linter.unusedVariables false
set_option linter.unusedSimpArgs false
open Go.RowKit

/-- A row of bars that holds its marks. -/
def HeldV (w : World) (v : Value) (l : List Yg) (k : Nat) : Prop := l = [] ∨ ∃ g n c, v = .slice (some ⟨g, 0, none⟩) n c ∧ HeldB w g l k
theorem HeldV.later {w w' : World} {v : Value} {l : List Yg} {k : Nat} (h : HeldV w v l k) (hb : Below w.heap.size w w') : HeldV w' v l k := by
  rcases h with h | ⟨g, n, c, e, h⟩
  · exact .inl h
  · exact .inr ⟨g, n, c, e, h.later hb⟩

theorem markB_nil (a : Option Addr) (c k : Nat) (w : World) : Calls Try.prog 12 #[.slice a 0 c, .int .i64 (k : Int)] w fun e w' => e = .returned (.int .i64 (k : Int)) ∧ w' = w := by
  go_enter Try.func12, Try.ntmps12
  go_wp2_with fail
  go_loop [1, 5] (fun q i => q = .int .i64 (k : Int) ∧ i = .int .i64 0) (fun _ _ => 0)
  case atStart => exact ⟨rfl, rfl⟩
  case round =>
    obtain ⟨rfl, rfl⟩ := hrel
    go_wp2_with fail
    go_ret
    exact ⟨rfl, rfl⟩
theorem heldB_nil (a : Option Addr) (c k : Nat) (w : World) : Calls Try.prog 13 #[.slice a 0 c, .int .i64 (k : Int)] w fun e w' => e = .returned (.int .i64 (k : Int)) ∧ w' = w := by
  go_enter Try.func13, Try.ntmps13
  go_wp2_with fail
  go_loop [1, 5] (fun q i => q = .int .i64 (k : Int) ∧ i = .int .i64 0) (fun _ _ => 0)
  case atStart => exact ⟨rfl, rfl⟩
  case round =>
    obtain ⟨rfl, rfl⟩ := hrel
    go_wp2_with fail
    go_ret
    exact ⟨rfl, rfl⟩

theorem markV_any (B hi n c : Nat) (a : Option Addr) (l : List Yg) (w : World) (ho : OB4 w B (.slice a n c) l) (hw : ∀ x ∈ l, Nw w B x.a x.ct.ws ∧ okY x.ct) (hd : Dj l) (hn : l.length = n) (hn2 : n ≤ 1048576) (hh : w.heap.size ≤ hi) :
    Calls Try.prog 12 #[.slice a n c, .int .i64 1] w fun e w' => e = .returned (.int .i64 (mkAt l 1 l.length : Int)) ∧ HeldV w' (.slice a n c) l 1 ∧ Out B hi w w' := by
  by_cases e : l = []
  · subst e
    subst hn
    refine (markB_nil a c 1 w).mono (fun e w' h => ⟨h.1, .inl rfl, ?_⟩)
    rw [h.2]
    exact Out.refl _ _ _
  · obtain ⟨g, rfl⟩ : ∃ g, a = some ⟨g, 0, none⟩ := by
      rcases ho.2 with ⟨-, h0⟩ | ⟨g, cap, cur, e', -⟩
      · exact absurd (List.eq_nil_of_length_eq_zero h0) e
      · cases e'; exact ⟨g, rfl⟩
    obtain ⟨hr, h1, h2⟩ := RowSh.of ho
    refine (markB_own B hi g c n 1 l w hr h1 (by omega) (fun x hx => ⟨WSh.of (hw x hx).1 hh, (hw x hx).2.2.2.2.2⟩) hd hn hn2 (Nat.le_refl _)).mono (fun e w' h => ⟨h.1, .inr ⟨g, n, c, rfl, h.2.1⟩, h.2.2⟩)

theorem heldV_any (n c : Nat) (a : Option Addr) (l : List Yg) (w : World) (h : HeldV w (.slice a n c) l 1) (hw : ∀ x ∈ l, x.ct.ws.length ≤ 1048576) (hn : l.length = n) (hn2 : n ≤ 1048576) :
    Calls Try.prog 13 #[.slice a n c, .int .i64 1] w fun e w' => e = .returned (.int .i64 (mkAt l 1 l.length : Int)) ∧ w' = w := by
  rcases h with rfl | ⟨g, n', c', e, h⟩
  · subst hn
    exact heldB_nil a c 1 w
  · cases e
    exact heldB_any g c n 1 l w h hw hn hn2 (Nat.le_refl _)

/-- The words of copied splits lie somewhere. -/
theorem lie_of {w : World} {lo hi g : Nat} {xs : List Pg} (hr : RdP w (some ⟨g, 0, none⟩) xs) (ht : TyS w lo hi (some ⟨g, 0, none⟩) xs.length) : Lie xs := fun p hp y hy => by
  obtain ⟨i, hi', e⟩ := List.mem_iff_getElem.1 hp
  have gi : xs[i]? = some p := by rw [List.getElem?_eq_getElem hi', e]
  obtain ⟨-, h | ⟨b, o, e1, hc⟩⟩ := hr
  · rw [h] at hp; cases hp
  cases e1
  obtain ⟨⟨-, -, c2⟩, hb, -⟩ := hc i p gi
  obtain ⟨-, g', cur, e2, -, -, hg, r⟩ := ht
  cases e2
  obtain ⟨-, -, a', m, c', q2, htb⟩ := r i hi'
  rw [Nat.zero_add, cell_of_row w g _ cur _ _ hg, q2] at c2
  cases c2
  obtain ⟨j, hj, e3⟩ := List.mem_iff_getElem.1 hy
  have gj : p.bs[j]? = some y := by rw [List.getElem?_eq_getElem hj, e3]
  obtain ⟨-, h | ⟨b4, o4, e4, hc4⟩⟩ := hb
  · rw [h] at hy; cases hy
  obtain ⟨⟨-, -, -, d3⟩, -⟩ := hc4 j y gj
  obtain ⟨-, g5, cur5, e5, -, -, hg5, r5⟩ := htb
  rw [e4] at e5
  cases e5
  obtain ⟨-, -, -, a6, m6, c6, q6, htw⟩ := r5 j hj
  rw [Nat.zero_add, cell_of_row w _ _ cur5 _ _ hg5, q6] at d3
  simp only [Yg.hd] at d3
  cases d3
  obtain ⟨-, h6, cur6, e6, -⟩ := htw
  exact ⟨h6, 0, e6⟩

end Go.Proofs.Ytddgldfjeklhbaa
