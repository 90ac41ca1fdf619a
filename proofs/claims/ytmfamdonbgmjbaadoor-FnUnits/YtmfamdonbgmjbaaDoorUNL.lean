/- The watcher in memory; seat, isSo. -/
import Derived.Test.YtmfamdonbgmjbaaDoorUNJ
import Derived.Test.YtmfamdonbgmjbaaDoorUNK
import Derived.Test.YtmfamdonbgmjbaaDoorUNF
import Derived.Test.YtmfamdonbgmjbaaDoorUNB
namespace Go.Proofs.YtmfamdonbgmjbaaDoor
set_option linter.unusedVariables false
set_option linter.unusedSimpArgs false
open Go.RowKit

/-- The blocks of a watcher. -/
structure Wb where
  ex : List (Nat × Array Value × TypeId)
  bx : Nat
  ey : Nat
  wt : Nat
  st : Nat
  du : Nat
/-- What stands, by seats. -/
def seL (S N : Nat) (T : List Int) : List Value := (List.range N).map fun (i : Nat) => .bool (decide ((i : Int) - (S : Int) ∈ T))
theorem seL_len (S N : Nat) (T : List Int) : (seL S N T).length = N := by simp [seL]
theorem seL_at {S N : Nat} {T : List Int} {i : Nat} (h : i < N) : (seL S N T)[i]? = some (.bool (decide ((i : Int) - (S : Int) ∈ T))) := by simp [seL, h]
theorem seL_nil (S N : Nat) : seL S N [] = mtL N [] := by simp [seL, mtL]
theorem seL_snoc {S N : Nat} {T : List Int} {x : Int} {j : Nat} (hx : (S : Int) + x = (j : Int)) : (seL S N T).set j (.bool true) = seL S N (T ++ [x]) := by
  apply List.ext_getElem?
  intro i
  rw [List.getElem?_set, seL_len]
  by_cases h : i < N
  · rw [seL_at h, seL_at h]
    by_cases e : j = i
    · subst e
      have : (j : Int) - (S : Int) = x := by omega
      simp [h, this]
    · rw [if_neg e]
      congr 2
      have : ((i : Int) - (S : Int) = x) = False := by simp; omega
      simp [List.mem_append, this]
  · rw [List.getElem?_eq_none (l := seL S N (T ++ [x])) (by rw [seL_len]; omega)]
    split
    · rw [if_neg (by omega)]
    · exact List.getElem?_eq_none (by rw [seL_len]; omega)
/-- The places of the eyes, two for a clause. -/
def eyV (l : List (Nat × Nat)) : Array Value := (l.flatMap fun e => [Value.int .i64 (e.1 : Int), Value.int .i64 (e.2 : Int)]).toArray
/-- The watcher's own cells. -/
def wbV (M : Wb) (S N : Nat) (ca : Option Addr) (nc cc nw : Nat) (tv : Value) : Array Value := #[.int .i64 (S : Int), .slice ca nc cc, .slice (some ⟨M.ey, 0, none⟩) nc nc, .slice (some ⟨M.wt, 0, none⟩) N N, .slice (some ⟨M.st, 0, none⟩) N N, tv, .slice (some ⟨M.du, 0, none⟩) nw nw]
/-- Blocks of a type that no watcher has. -/
def okX (t : TypeId) : Prop := t ≠ 68 ∧ t ≠ 96 ∧ t ≠ 97 ∧ t ≠ 4 ∧ t ≠ 108 ∧ t ≠ 2 ∧ t ≠ 3
/-- The watcher as it lies; B: from where on its blocks are. -/
structure Wm (u : World) (B : Nat) (M : Wb) (S N : Nat) (ca : Option Addr) (nc cc : Nat) (tv : Value) (eyl : List (Nat × Nat)) (rows : List (Value × List Nat)) (T : List Int) (ws : List Nat) : Prop where
  bx : Bz u M.bx (wbV M S N ca nc cc ws.length tv) 68
  ey : Bz u M.ey (eyV eyl) 96
  wt : Bz u M.wt (rows.map Prod.fst).toArray 97
  st : Bz u M.st (seL S N T).toArray 4
  du : Bz u M.du (wsV ws) 108
  tr : OI u B tv T
  rw : ∀ (k : Nat) r, rows[k]? = some r → OJ u B r.1 (r.2.map fun (p : Nat) => (p : Int))
  ap : ∀ (k k' : Nat) r r' b, rows[k]? = some r → rows[k']? = some r' → r.1.ownBlock = some b → r'.1.ownBlock = some b → k = k'
  lo : B ≤ M.bx ∧ B ≤ M.ey ∧ B ≤ M.wt ∧ B ≤ M.st ∧ B ≤ M.du
  ne : eyl.length = nc
  nr : rows.length = N
  wl : ∀ i, ws.getD i 0 < 18446744073709551616
  sz : N = 2 * S + 1
  xx : ∀ x ∈ M.ex, Bz u x.1 x.2.1 x.2.2 ∧ okX x.2.2
theorem Wm.later {u u' : World} {B : Nat} {M : Wb} {S N : Nat} {ca : Option Addr} {nc cc : Nat} {tv : Value} {eyl : List (Nat × Nat)} {rows : List (Value × List Nat)} {T : List Int} {ws : List Nat} (h : Wm u B M S N ca nc cc tv eyl rows T ws) (hb : Below u.heap.size u u') : Wm u' B M S N ca nc cc tv eyl rows T ws :=
  ⟨h.bx.later hb, h.ey.later hb, h.wt.later hb, h.st.later hb, h.du.later hb, h.tr.later hb, fun k r hk => (h.rw k r hk).later hb, h.ap, h.lo, h.ne, h.nr, h.wl, h.sz, fun x hx => ⟨(h.xx x hx).1.later hb, (h.xx x hx).2⟩⟩

set_option maxHeartbeats 1000000 in
theorem seat_any {b S : Nat} {t : TypeId} {cs : Array Value} (n : Int) (w : World) (hb : Bz w b cs t) (h0 : cs[0]? = some (.int .i64 (S : Int))) (hS : S ≤ 400) (hn : -400 ≤ n ∧ n ≤ 400) :
    Calls Tryd.prog 62 #[.pointer (some ⟨b, 0, none⟩), .int .i64 n] w fun e w' => e = .returned (.int .i64 ((S : Int) + n)) ∧ w' = w := by
  have d0 := hb.cell 0
  rw [h0] at d0
  obtain ⟨h1, h2⟩ := hn
  clear hb h0
  go_enter Tryd.func62, Tryd.ntmps62
  go_wp2_with fail
  go_ret
  exact ⟨rfl, rfl⟩
set_option maxHeartbeats 1000000 in
theorem isSo_any {u : World} {B : Nat} {M : Wb} {S N : Nat} {ca : Option Addr} {nc cc : Nat} {tv : Value} {eyl : List (Nat × Nat)} {rows : List (Value × List Nat)} {T : List Int} {ws : List Nat} (h : Wm u B M S N ca nc cc tv eyl rows T ws) (hS : S ≤ 400) (n : Int) (hn : -(S : Int) ≤ n ∧ n ≤ (S : Int)) :
    Calls Tryd.prog 65 #[.pointer (some ⟨M.bx, 0, none⟩), .int .i64 n] u fun e w' => e = .returned (.bool (decide (n ∈ T))) ∧ Below u.heap.size u w' := by
  have HSE := kide (fun k => seat_any n (u.drewN k) (h.bx.later (below_drewN (Below.refl _ _) k)) rfl hS (by omega))
  have d4 : u.cell? ⟨M.bx, 4, none⟩ = some (.slice (some ⟨M.st, 0, none⟩) N N) := h.bx.cell 4
  obtain ⟨j, hj⟩ : ∃ j : Nat, (S : Int) + n = (j : Int) := ⟨((S : Int) + n).toNat, by omega⟩
  have hjN : j < N := by have := h.sz; omega
  have d5 := h.st.cell j
  rw [List.getElem?_toArray, seL_at hjN, show (j : Int) - (S : Int) = n by omega] at d5
  rw [hj] at HSE
  have k1 : (j : Int) < (N : Int) := by omega
  clear hj hn h
  go_enter Tryd.func65, Tryd.ntmps65
  go_wp2_with fail
  go_quiet ((go_at_call 62; exact Calls.quiet_of_same (HSE.out _)))
  go_wp2_with fail
  go_ret
  exact ⟨rfl, below_drewN (Below.refl _ _) _⟩
end Go.Proofs.YtmfamdonbgmjbaaDoor
