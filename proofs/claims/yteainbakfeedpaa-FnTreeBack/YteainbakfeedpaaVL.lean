/- Contracts of the laws' own small functions that mark what an answer owns, and look at the marks: rows of whole numbers. -/
import Derived.Test.YteainbakfeedpaaVB
namespace Go.Proofs.Yteainbakfeedpaa
set_option linter.unusedVariables false
set_option linter.unusedSimpArgs false
open Go.RowKit

theorem hidL {p : Prop} (h : p) : Hid p := h

/-- The marks of a row. -/
def mks (k n : Nat) : List Int := (List.range n).map fun (i : Nat) => ((k + i : Nat) : Int)
theorem mks_len (k n : Nat) : (mks k n).length = n := by simp [mks]
theorem mks_get (k n i : Nat) (hi : i < n) : (mks k n).getD i 0 = ((k + i : Nat) : Int) := by simp [mks, List.getD, hi]
theorem mks_mem (k n : Nat) (hk : k + n ≤ 1000000000) : ∀ x ∈ mks k n, in64 x := by
  intro x hx
  obtain ⟨i, hi, rfl⟩ := List.mem_map.1 hx
  have := List.mem_range.1 hi
  exact ⟨by omega, by omega⟩

/-- The first j of a row marked. -/
def mkd (k : Nat) (ks : List Int) (j : Nat) : List Int := mks k j ++ ks.drop j
theorem mkd_len (k : Nat) (ks : List Int) (j : Nat) (h : j ≤ ks.length) : (mkd k ks j).length = ks.length := by simp [mkd, mks_len]; omega
theorem mkd_set (k : Nat) (ks : List Int) (j : Nat) (h : j < ks.length) : (mkd k ks j).set j ((k + j : Nat) : Int) = mkd k ks (j + 1) := by
  unfold mkd
  rw [List.set_append_right _ _ (by rw [mks_len]; omega), mks_len, Nat.sub_self, List.drop_eq_getElem_cons h, List.set_cons_zero]
  simp [mks, List.range_succ]

theorem RowI.cellAt {w : World} {B g n c : Nat} {ks : List Int} (h : RowI w B (.slice (some ⟨g, 0, none⟩) n c) ks) {i : Nat} (hi : i < ks.length) : w.cell? ⟨g, i, none⟩ = some (.int .i64 (ks.getD i 0)) ∧ w.frozen? ⟨g, i, none⟩ = false := by
  have hn : n = ks.length := by
    rcases h.2 with ⟨h', -⟩ | ⟨g', cap', cur, h', -⟩
    · cases h'
    · cases h'; rfl
  subst hn
  refine ⟨?_, World.ownsRow.frozenAt h i⟩
  rw [World.ownsRow.cellAt h i (by omega)]
  simp [ints, List.getD, hi]

theorem RowI.put {w : World} {B g c : Nat} {ks : List Int} (h : RowI w B (.slice (some ⟨g, 0, none⟩) ks.length c) ks) (i : Nat) (k : Int) : RowI (w.setCell ⟨g, i, none⟩ (.int .i64 k)) B (.slice (some ⟨g, 0, none⟩) ks.length c) (ks.set i k) := by
  have := (World.ownsRow.stored h i (.int .i64 k)).1
  unfold RowI
  rw [List.length_set]
  have e : (ints ks).set i (.int .i64 k) = ints (ks.set i k) := by simp [ints, List.map_set]
  rw [e] at this
  exact this

theorem gTrans {w w1 w2 : World} {r : Option Nat} (h : w.grownBy w1 r) (k : w1.grownBy w2 r) : w.grownBy w2 r :=
  ⟨k.os.trans h.os, k.tape.trans h.tape, k.output.trans h.output, Nat.le_trans h.size k.size, fun b hb hne => (k.block b (Nat.lt_of_lt_of_le hb h.size) hne).trans (h.block b hb hne)⟩
theorem gRefl (w : World) (r : Option Nat) : w.grownBy w r := ⟨rfl, rfl, rfl, Nat.le_refl _, fun _ _ _ => rfl⟩

set_option maxHeartbeats 1000000 in
theorem markInt64S_any (w : World) (B : Nat) (v : Value) (ks : List Int) (k : Nat) (h : RowI w B v ks) (hl : ks.length ≤ 2000) (hk : k ≤ 90000000) :
    Calls Try.prog 70 #[v, .int .i64 (k : Int)] w fun e w' => e = .returned (.int .i64 ((k + ks.length : Nat) : Int)) ∧ RowI w' B v (mks k ks.length) ∧ w.grownBy w' v.ownBlock := by
  obtain ⟨ao, c, hv, -⟩ : ∃ ao c, v = .slice ao ks.length c ∧ True := by
    rcases h.2 with ⟨rfl, h'⟩ | ⟨g, cap, cur, rfl, -⟩
    · exact ⟨none, 0, by rw [h'], trivial⟩
    · exact ⟨_, _, rfl, trivial⟩
  subst hv
  have HH := hidL h
  clear h
  go_enter Try.func70, Try.ntmps70
  go_wp2_with fail
  go_loopw [1, 5] (fun q i wr => ∃ j : Nat, j ≤ ks.length ∧ i = .int .i64 (j : Int) ∧ q = .int .i64 ((k + j : Nat) : Int) ∧ RowI wr B (.slice ao ks.length c) (mkd k ks j) ∧ w.grownBy wr (Value.slice ao ks.length c).ownBlock) (fun _ i _ => ks.length - (intOf i).toNat)
  case atStart => exact ⟨0, Nat.zero_le _, rfl, rfl, by simpa [mkd, mks] using HH.out, gRefl _ _⟩
  case round =>
    obtain ⟨j, hj, rfl, rfl, hrow, hgr⟩ := hrel
    by_cases hlt : j < ks.length
    · have hml := mkd_len k ks j hj
      obtain ⟨g, c', hv, -, -⟩ := World.ownsRow.form hrow (by omega)
      rw [hml] at hv
      cases hv
      obtain ⟨e0, e1⟩ := RowI.cellAt (w := wr) hrow (i := j) (by omega)
      have hput : RowI (wr.setCell ⟨g, j, none⟩ (.int .i64 ((k + j : Nat) : Int))) B (.slice (some ⟨g, 0, none⟩) ks.length c) (mkd k ks (j + 1)) := by
        have h1 : RowI wr B (.slice (some ⟨g, 0, none⟩) (mkd k ks j).length c) (mkd k ks j) := by rw [hml]; exact hrow
        have h2 := RowI.put h1 j ((k + j : Nat) : Int)
        rw [mkd_set k ks j hlt, hml] at h2
        exact h2
      have HP := hidL hput
      have HG := hidL hgr
      have i0 : (j : Int) < (ks.length : Int) := by omega
      clear hrow hput hgr hml
      generalize (mkd k ks j).getD j 0 = z at *
      go_wp2_with fail
      go_roundw
      case rel =>
        refine ⟨j + 1, by omega, by go_num, by go_num, ?_, gTrans HG.out ?_⟩
        · have h := HP.out
          simpa using h
        · exact grown_set
      case measure => simp [intOf]; omega
    · have e : j = ks.length := by omega
      have HE := hidL e
      have HR := hidL hrow
      have HG := hidL hgr
      clear e hrow hgr
      go_wp2_with fail
      go_ret
      refine ⟨?_, ?_, HG.out⟩
      · show Ending.returned (.int .i64 ((k + j : Nat) : Int)) = _
        rw [HE.out]
      · have h := HR.out
        rw [HE.out] at h
        simpa [mkd] using h

set_option maxHeartbeats 1000000 in
theorem heldInt64S_any (w : World) (a : Option Addr) (c n k : Nat) (h : RdI w a (mks k n)) (hl : n ≤ 2000) (hk : k ≤ 90000000) :
    Calls Try.prog 71 #[.slice a n c, .int .i64 (k : Int)] w fun e w' => e = .returned (.int .i64 ((k + n : Nat) : Int)) ∧ Below w.heap.size w w' := by
  go_enter Try.func71, Try.ntmps71
  go_wp2_with fail
  go_loopw [1, 5] (fun q i wr => ∃ j : Nat, j ≤ n ∧ i = .int .i64 (j : Int) ∧ q = .int .i64 ((k + j : Nat) : Int) ∧ Below w.heap.size w wr) (fun _ i _ => n - (intOf i).toNat)
  case atStart => exact ⟨0, Nat.zero_le _, rfl, rfl, Below.refl _ _⟩
  case round =>
    obtain ⟨j, hj, rfl, rfl, hbel⟩ := hrel
    by_cases hlt : j < n
    · obtain ⟨-, -, h' | ⟨b, o, rfl, hc⟩⟩ := h
      · have := congrArg List.length h'; rw [mks_len] at this; simp at this; omega
      have e0 := hc j (by rw [mks_len]; exact hlt)
      rw [mks_get k n j hlt] at e0
      have e1 : wr.cell? ⟨b, o + j, none⟩ = some (.int .i64 ((k + j : Nat) : Int)) := by rw [hbel.cell (by exact block_lt_of_cell e0)]; exact e0
      have i0 : (j : Int) < (n : Int) := by omega
      have HB := hidL hbel
      clear hc e0 hbel
      have i1 : ((k : Int) + (j : Int) != (k : Int) + (j : Int)) = false := by simp
      go_wp2_with fail
      go_roundw
      case rel => exact ⟨j + 1, by omega, by go_num, by go_num, HB.out⟩
      case measure => simp [intOf]; omega
    · have e : j = n := by omega
      subst e
      go_wp2_with fail
      go_ret
      exact ⟨rfl, hbel⟩

end Go.Proofs.Yteainbakfeedpaa
