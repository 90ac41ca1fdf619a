/- flags. -/
import Derived.Test.YtmfamdonbgmjbaaDoorSVG
import Derived.Test.YtmfamdonbgmjbaaDoorZHAB
import Derived.Test.YtmfamdonbgmjbaaDoorZGAG
namespace Go.Proofs.YtmfamdonbgmjbaaDoor
set_option linter.unusedVariables false
set_option linter.unusedSimpArgs false
open Go.RowKit
/-- Which switches are on. -/
def flV (S : Nat) (T : List Int) : List Bool := (List.range S).map fun (i : Nat) => decide (((i : Int) + 1) ∈ T)
theorem flV_len (S : Nat) (T : List Int) : (flV S T).length = S := by simp [flV]
theorem flV_snoc {S : Nat} {T : List Int} {x : Int} {j : Nat} (h2 : x ∉ T) (h3 : -x ∉ T) (h0 : x ≠ 0) (hj : absI x = (j : Int) + 1) : flV S (T ++ [x]) = (flV S T).set j (decide (x > 0)) := by
  rw [absI_def] at hj
  refine List.ext_getElem? fun i => ?_
  rw [List.getElem?_set]
  unfold flV
  rw [List.length_map, List.length_range]
  by_cases hij : j = i
  · subst hij
    rw [if_pos rfl]
    by_cases hS : j < S
    · rw [if_pos hS, List.getElem?_map, List.getElem?_range hS]
      simp only [Option.map_some, Option.some.injEq, decide_eq_decide, List.mem_append, List.mem_singleton]
      split at hj
      · constructor
        · intro _; omega
        · intro _; exact .inr (by omega)
      · constructor
        · rintro (h | h)
          · exact absurd (by rw [show -x = (j : Int) + 1 from hj]; exact h) h3
          · omega
        · intro h; omega
    · rw [if_neg hS, List.getElem?_eq_none (by simp; omega)]
  · rw [if_neg hij, List.getElem?_map, List.getElem?_map]
    by_cases hS : i < S
    · rw [List.getElem?_range hS]
      simp only [Option.map_some, Option.some.injEq, decide_eq_decide, List.mem_append, List.mem_singleton]
      constructor
      · rintro (h | h)
        · exact h
        · exfalso; split at hj <;> omega
      · exact .inl
    · rw [List.getElem?_eq_none (by simp; omega)]; rfl
theorem flV_nil (S : Nat) : flV S [] = List.replicate S false := by
  unfold flV
  refine List.ext_getElem? fun i => ?_
  rw [List.getElem?_map, List.getElem?_replicate]
  by_cases h : i < S
  · rw [if_pos h, List.getElem?_range h]; simp
  · rw [if_neg h, List.getElem?_eq_none (by simp; omega)]; rfl
theorem OwF.ofBz {w : World} {B g n : Nat} {l : List Bool} (h : Bz w g (fls l).toArray 4) (hB : B ≤ g) (hl : l.length = n) (hn : n ≤ 4194304) : OwF w B (.slice (some ⟨g, 0, none⟩) n n) l := by
  subst hl
  have e : (fls l).length = l.length := by simp [fls]
  refine ⟨by rw [e, Nat.mul_one], .inr ⟨g, l.length, _, rfl, hB, h, Nat.le_refl _, by unfold maxLen; omega, by simp [e], ?_⟩⟩
  rw [Nat.mul_one]
  exact List.take_of_length_le (by rw [e]; exact Nat.le_refl _)
set_option maxHeartbeats 4000000 in
set_option maxRecDepth 100000 in
theorem flags_any {w u : World} {M : Wb} {S N : Nat} {ca : Option Addr} {nc cc nw sb : Nat} {cs : List (List Int)} {T : List Int} {live : Bool} {v : Value} {KL : List Fr} {vis most : Nat} (h : Ws w u M S N ca nc cc nw cs T live) (hs : Se u w.heap.size sb M.bx v KL vis most) (hT : Tk S T) (hS : S ≤ 400) :
    Calls Tryd.prog 43 #[.pointer (some ⟨sb, 0, none⟩)] u fun e w' => ∃ v', e = .returned v' ∧ OwF w' u.heap.size v' (flV S T) ∧ Below u.heap.size u w' := by
  obtain ⟨ta, tc, ds, t1, t2, t3, t4⟩ := h.trail
  have hlT := hT.len
  obtain ⟨tl, htl⟩ : ∃ tl, T.length = tl := ⟨_, rfl⟩
  rw [htl] at t2 hlT
  have hmk : ∀ (kl kc : IntKind) (u : World), (Instr.makeSlice 37 (.int kl (S : Int)) (.int kc (S : Int))).run Tryd.prog u = .ok (.slice (some ⟨u.heap.size, 0, none⟩) S S) (u.alloc (.cells (madeCells #[.bool false] S) 4)) := fun kl kc u => make_bools S (by omega) kl kc u
  have d0 : u.cell? ⟨sb, 0, none⟩ = some (.pointer (some ⟨M.bx, 0, none⟩)) := hs.box.cell 0
  have d1 : u.cell? ⟨M.bx, 0, none⟩ = some (.int .i64 (S : Int)) := (t1.cell 0).trans t3
  have d2 : u.cell? ⟨M.bx, 5, none⟩ = some (.slice ta tl tc) := (t1.cell 5).trans t2
  have HRD := kide t4
  have HTK := kide hT
  have HTL := kide htl
  obtain ⟨u1, hu1⟩ : ∃ u1, u.alloc (.cells (madeCells #[.bool false] S) 4) = u1 := ⟨_, rfl⟩
  have hb1 : Below u.heap.size u u1 := by rw [← hu1]; exact (Below.refl _ _).alloc (Nat.le_refl _) _
  have e0 : u1.cell? ⟨sb, 0, none⟩ = some (.pointer (some ⟨M.bx, 0, none⟩)) := by rw [kcell hb1 _ _ (block_lt_of_cell d0)]; exact d0
  have e2 : u1.cell? ⟨M.bx, 5, none⟩ = some (.slice ta tl tc) := by rw [kcell hb1 _ _ (block_lt_of_cell d2)]; exact d2
  have Z1 : Hid (Bz u1 u.heap.size (fls (flV S [])).toArray 4) := by
    rw [← hu1, flV_nil]
    have e : madeCells #[Value.bool false] S = (fls (List.replicate S false)).toArray := by
      apply Array.ext'
      rw [toList_madeCells_one]
      simp [fls]
    rw [e]
    exact Bz.new _ _ _
  have B1 := kide hb1
  clear h hs hT t1 t2 t3 t4 hb1 htl
  go_enter Tryd.func43, Tryd.ntmps43
  go_wp2_with fail
  go_loopw [22] (fun i wr => ∃ k : Nat, k ≤ tl ∧ i = .int .i64 (k : Int) ∧ Bz wr u.heap.size (fls (flV S (T.take k))).toArray 4 ∧ Below u.heap.size u wr) (fun i _ => tl - (intOf i).toNat)
  case atStart => exact ⟨0, Nat.zero_le _, rfl, Z1.out, B1.out⟩
  case round =>
    obtain ⟨k, hk, rfl, hz, hb⟩ := hrel
    have HZ := kide hz
    have HB := kide hb
    clear hz hb hu1 d0 d1 d2 e0 e2 hmk
    by_cases hlt : k < tl
    · obtain ⟨x, hx⟩ : ∃ x, T[k]? = some x := ⟨_, List.getElem?_eq_getElem (show k < T.length by rw [HTL.out]; exact hlt)⟩
      obtain ⟨g, hg⟩ : ∃ g, ta = some ⟨g, 0, none⟩ := by
        rcases HRD.out.2 with ⟨e, h0⟩ | ⟨g, cap, cur, e, -⟩
        · rw [HTL.out] at h0; omega
        · cases e; exact ⟨g, rfl⟩
      subst hg
      have d5 := HRD.out.cellO (i := k) (by rw [HTL.out]; exact hlt)
      rw [show T.getD k 0 = x by rw [List.getD_eq_getElem?_getD, hx]; rfl] at d5
      rw [← kcell HB.out _ _ (block_lt_of_cell d5)] at d5
      have hn := HTK.out.num x (List.mem_of_getElem? hx)
      obtain ⟨j, hj, hjS⟩ : ∃ j : Nat, absI x = (j : Int) + 1 ∧ j < S := by
        refine ⟨(absI x - 1).toNat, ?_, ?_⟩ <;> rw [absI_def] <;> split <;> omega
      have j0 : (j : Int) < (S : Int) := by omega
      have k0 : (k : Int) < (tl : Int) := by omega
      have k2 : IntKind.i64.wrap ((k : Int) + 1) = (k : Int) + 1 := by rw [IntKind.wrap_i64]; omega
      have HSW := kide (fun q => switchOf_any x (by omega) q)
      rw [hj] at HSW
      have hj9 : IntKind.i64.wrap (j : Int) = (j : Int) := by rw [IntKind.wrap_i64]; omega
      have q4 : wr.frozen? ⟨u.heap.size, j, none⟩ = false := HZ.out.froz _
      have q5 : wr.cell? ⟨u.heap.size, j, none⟩ = some (.bool ((flV S (T.take k)).getD j false)) := by
        rw [HZ.out.cell j]
        simp only [fls, List.getElem?_toArray, List.getElem?_map, List.getD_eq_getElem?_getD]
        rw [List.getElem?_eq_getElem (show j < (flV S (T.take k)).length by rw [flV_len]; exact hjS)]
        rfl
      have ZN : Hid (∀ b, b = decide (x > 0) → Bz (wr.setCell ⟨u.heap.size, j, none⟩ (.bool b)) u.heap.size (fls (flV S (T.take (k + 1)))).toArray 4) := fun b hb => by
        obtain ⟨n1, n2⟩ := HTK.out.next hx
        have h1 := HZ.out.set j (.bool b)
        rw [List.take_add_one, hx, Option.toList_some, flV_snoc n1 n2 hn.1 hj, ← hb]
        rw [show (fls ((flV S (T.take k)).set j b)).toArray = (fls (flV S (T.take k))).toArray.setIfInBounds j (.bool b) from by simp [fls, List.map_set]]
        exact h1
      clear hx hn hj hjS hlT
      go_wp2_with fail
      refine Calls.mono (HSW.out _) ?_
      rintro e w2 ⟨rfl, hw2⟩
      obtain rfl := hw2.symm
      clear hw2
      go_wp2_with fail
      go_roundw
      case rel => exact ⟨k + 1, by omega, by go_num, ZN.out _ (by simp), HB.out.setCell (p := ⟨u.heap.size, j, none⟩) (Nat.le_refl _) _⟩
      case measure => simp only [intOf]; omega
    · obtain rfl : k = tl := by omega
      have et : T.take k = T := List.take_of_length_le (by rw [HTL.out]; exact Nat.le_refl _)
      rw [et] at HZ
      clear et
      go_wp2_with fail
      go_ret
      refine ⟨_, rfl, ?_, HB.out⟩
      exact OwF.ofBz HZ.out (Nat.le_refl _) (flV_len _ _) (by omega)
end Go.Proofs.YtmfamdonbgmjbaaDoor
