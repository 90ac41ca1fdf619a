/- The groups of a forest as rows that are held; what the law carries. -/
import Derived.Test.YtelndjdbfapahaaHF
import Derived.Test.YtelndjdbfapahaaGS
namespace Go.Proofs.Ytelndjdbfapahaa
set_option linter.unusedVariables false
set_option linter.unusedSimpArgs false
open Go.RowKit

theorem grpR_two (L : Nat → Nat) (n : Nat) : ∀ m, ∀ xs ∈ grpR L n m, 0 < xs.length
  | 0, xs, h => by simp [grpR] at h
  | m + 1, xs, h => by
    unfold grpR at h
    rcases List.mem_append.1 h with h | h
    · exact grpR_two L n m xs h
    · split at h
      · rename_i h1
        simp at h
        subst h
        omega
      · simp at h

theorem grpZ_ok (z : Int) (ls : List Lk) : (grpZ z ls).length ≤ 1000 ∧ ∀ xs ∈ grpZ z ls, 0 < xs.length ∧ xs.length ≤ 1000 := by
  unfold grpZ
  cases hf : forR z ls with
  | none => exact ⟨by simp, by simp⟩
  | some L =>
    have hz := (forR_len hf).1
    refine ⟨Nat.le_trans (grpR_len L _ _) (by omega), fun xs hx => ⟨grpR_two L _ _ xs hx, Nat.le_trans (grpR_in L _ _ xs hx).1 (by omega)⟩⟩

theorem RetRR.hold {w w' : World} {xss : List (List Int)} {e : Ending} (h : RetRR w xss e w') (h1 : xss.length ≤ 1000) (h2 : ∀ xs ∈ xss, 0 < xs.length ∧ xs.length ≤ 1000) :
    ∃ a c vs, e = .returned (.slice a xss.length c) ∧ HoldR w' w.heap.size w'.heap.size a vs xss ∧ Below w.heap.size w w' := by
  obtain ⟨v, vs, rfl, ho, hr, hb⟩ := h
  obtain ⟨a, c, rfl⟩ := own_slice ho
  rw [hr.len]
  refine ⟨a, c, vs, rfl, ⟨hr.len, h1, fun xs hx => (h2 xs hx).2, ?_, fun i v xs hv hx => OW.at (hr.own i v xs hv hx) (h2 xs (List.mem_of_getElem? hx)).1, hr.dj⟩, hb⟩
  have hcells := fun g hg => World.ownsRow.cells ho (g := g) hg
  rcases ho.2 with ⟨-, hn⟩ | ⟨g, cap, cur, e, hB, hh, hcap, -, hsz, -⟩
  · exact .inl (List.eq_nil_of_length_eq_zero (by have := hr.len; omega))
  · cases e
    have hlt : g < w'.heap.size := lt_of_block hh
    have hrow : w'.rowIs g 44 c (fun i => cur.getD i (.int .i64 0)) := ⟨cur, hh, by simpa using hsz, fun i hi => by
      have hi' : i < cur.size := by omega
      rw [Array.getElem?_eq_getElem hi']
      simp [Array.getD, hi']⟩
    refine .inr ⟨g, c, _, rfl, hB, hlt, by have := hr.len; omega, hrow, fun i v hv => ?_⟩
    have hil := (List.getElem?_eq_some_iff.1 hv).1
    have c0 := hcells g rfl i v hv
    rw [Addr.add_lit] at c0
    simp only [Nat.zero_add] at c0
    rw [hrow.cell (by omega)] at c0
    exact Option.some.inj c0

/-- What holds of all that the law carries, in a world u. -/
structure Cg (w : World) (F BX : Nat) (z : Int) (a : Option Addr) (n c : Nat) (a3 a5 : Option Addr) (gx Lw Hw Lg Hg : Nat) (ls : List Lk) (v3 v5 : List Value) (ZL : List (List Int)) (u : World) : Prop where
  s : Bx u F #[.int .i64 z, .slice a n c] 24
  xx : Bx u BX #[.int .i64 z, .slice (some ⟨gx, 0, none⟩) n n] 29
  hw : HoldR u Lw Hw a3 v3 ZL
  hx : HoldK u gx (gx + 1) (some ⟨gx, 0, none⟩) n ls
  hg : HoldR u Lg Hg a5 v5 ZL
  bl : Below w.heap.size w u

theorem Cg.later {w : World} {F BX : Nat} {z : Int} {a : Option Addr} {n c : Nat} {a3 a5 : Option Addr} {gx Lw Hw Lg Hg : Nat} {ls : List Lk} {v3 v5 : List Value} {ZL : List (List Int)} {u u' : World}
    (h : Cg w F BX z a n c a3 a5 gx Lw Hw Lg Hg ls v3 v5 ZL u) (hb : Below u.heap.size u u') : Cg w F BX z a n c a3 a5 gx Lw Hw Lg Hg ls v3 v5 ZL u' :=
  ⟨h.s.later hb, h.xx.later hb, h.hw.later hb, h.hx.later hb, h.hg.later hb, h.bl.trans (hb.mono h.bl.size)⟩

end Go.Proofs.Ytelndjdbfapahaa
