/- Nodes that hold their marks are told so; a term in new memory is marked, and holds its marks. -/
import Derived.Test.YtheglnkndjheaaaGreatDoorTNB
namespace Go.Proofs.YtheglnkndjheaaaGreatDoor
set_option linter.unusedVariables false
set_option linter.unusedSimpArgs false
open Go.RowKit


theorem markT_nil (a : Option Addr) (c k : Nat) (w : World) : Calls Tryz.prog 38 #[.slice a 0 c, .int .i64 (k : Int)] w fun e w' => e = .returned (.int .i64 (k : Int)) ∧ w' = w := by
  go_enter Tryz.func38, Tryz.ntmps38
  go_wp2_with fail
  go_loopw [1, 5] (fun q i wr => q = .int .i64 (k : Int) ∧ i = .int .i64 0 ∧ wr = w) (fun _ _ _ => 0)
  case atStart => exact ⟨rfl, rfl, rfl⟩
  case round =>
    obtain ⟨rfl, rfl, rfl⟩ := hrel
    go_wp2_with fail
    go_ret
    exact ⟨rfl, rfl⟩

/-- A row of nodes that holds its marks. -/
def HeldTv (w : World) (v : Value) (l : List Tg) (k : Nat) : Prop := l = [] ∨ ∃ g n c N, v = .slice (some ⟨g, 0, none⟩) n c ∧ n * 7 ≤ N ∧ HeldT w g N l k
theorem HeldTv.later {w w' : World} {v : Value} {l : List Tg} {k : Nat} (h : HeldTv w v l k) (hb : Below w.heap.size w w') : HeldTv w' v l k := by
  rcases h with h | ⟨g, n, c, N, e, hn, h⟩
  · exact .inl h
  · exact .inr ⟨g, n, c, N, e, hn, h.later hb⟩

theorem OT.tn {w : World} {B g n c : Nat} {l : List Tg} (h : OT w B (.slice (some ⟨g, 0, none⟩) n c) l) : ∃ N f, n * 7 ≤ N ∧ w.rowIs g 104 N f ∧ TnS f l ∧ B ≤ g ∧ g < w.heap.size := by
  have hlt := h.lt rfl
  have hat := fun i x (hi : l[i]? = some x) => h.at hi
  rcases h.2 with ⟨e, -⟩ | ⟨g', cap, cur, e, hg, hh, hc1, hc2, hsz, hcur⟩
  · cases e
  · cases e
    refine ⟨c * 7, fun i => cur.getD i (.int .i64 0), by omega, ⟨cur, hh, hsz, fun i hi => ?_⟩, fun i x hi => ?_, hlt⟩
    · have hi' : i < cur.size := by omega
      rw [Array.getElem?_eq_getElem hi']
      simp [Array.getD, hi']
    · obtain ⟨g', c', e', f0, f1, f2, f3, f4, f5, f6⟩ := hat i x hi
      cases e'
      have key : ∀ o u, w.cell? ⟨g, o, none⟩ = some u → cur.getD o (.int .i64 0) = u := fun o u hu => by
        rw [cell_of_row w g o cur _ _ hh] at hu
        rw [Array.getD_eq_getD_getElem?, hu]
        rfl
      exact ⟨⟨_, _, _, _, _, key _ _ f0, key _ _ f1, key _ _ f2, key _ _ f3, key _ _ f4⟩, key _ _ f5, key _ _ f6⟩

/-- A row of nodes of one's own is marked. -/
theorem markTs_any (B hi n c k : Nat) (a : Option Addr) (l : List Tg) (w : World) (hts : Ts w B (.slice a n c) l) (hl : shT l) (hn : l.length = n) (hn2 : n ≤ 1048576) (hh : w.heap.size ≤ hi) (hk : k ≤ 4000000000000000000) :
    Calls Tryz.prog 38 #[.slice a n c, .int .i64 (k : Int)] w fun e w' => e = .returned (.int .i64 (mkT l k l.length : Int)) ∧ HeldTv w' (.slice a n c) l k ∧ Out B hi w w' := by
  by_cases e : l = []
  · subst e
    subst hn
    refine (markT_nil a c k w).mono (fun e w' h => ⟨h.1, .inl rfl, ?_⟩)
    rw [h.2]
    exact Out.refl _ _ _
  · obtain ⟨g, rfl⟩ : ∃ g, a = some ⟨g, 0, none⟩ := by
      rcases hts.row.2 with ⟨-, h0⟩ | ⟨g, cap, cur, e', -⟩
      · exact absurd (List.eq_nil_of_length_eq_zero h0) e
      · cases e'; exact ⟨g, rfl⟩
    obtain ⟨N, f, h0, hr, hf, h1, h2⟩ := hts.row.tn
    refine (markT_own B hi g c n k N l w f hr h0 hf h1 (by omega) (fun x hx => ⟨RSh.of_nw (hts.wn x hx) hh, RSh.of_ni (hts.kn x hx) hh⟩) hl hts.wd hts.kd hn hn2 hk).mono (fun e w' h => ⟨h.1, .inr ⟨g, n, c, N, rfl, h0, h.2.1⟩, h.2.2.1⟩)


end Go.Proofs.YtheglnkndjheaaaGreatDoor
