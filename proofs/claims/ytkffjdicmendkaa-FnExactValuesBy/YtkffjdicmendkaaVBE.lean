/- Copied flags, to be marked; what ValuesBy tells may stand in a row of words. -/
import Derived.Test.YtkffjdicmendkaaVBB
import Derived.Test.YtkffjdicmendkaaVBD
import Derived.Test.YtkffjdicmendkaaSK
namespace Go.Proofs.Ytkffjdicmendkaa
set_option linter.unusedVariables false
set_option linter.unusedSimpArgs false
open Go.RowKit

def Tf (w : World) (lo hi : Nat) (a : Option Addr) (n : Nat) : Prop := ∃ g zs, a = some ⟨g, 0, none⟩ ∧ lo ≤ g ∧ g < hi ∧ OwnFl w g zs ∧ zs.length = n
theorem Tf.out {w w' : World} {lo hi B1 B2 n : Nat} {a : Option Addr} (h : Tf w lo hi a n) (ho : Out B1 B2 w w') (hd : hi ≤ B1 ∨ B2 ≤ lo) : Tf w' lo hi a n := by
  obtain ⟨g, zs, e, h1, h2, h3, h4⟩ := h
  refine ⟨g, zs, e, h1, h2, ?_, h4⟩
  unfold OwnFl
  rw [ho.2.2.2.2 g h3.lt (by omega)]
  exact h3
theorem toBoolS_tf (a : Option Addr) (c n : Nat) (xs : List Bool) (w : World) (hr : RdFl w a xs) (hn : xs.length = n) :
    Calls Try.prog 20 #[.slice a n c] w fun e w' => e = .returned (.slice (some ⟨w.heap.size, 0, none⟩) n n) ∧ RdFl w' (some ⟨w.heap.size, 0, none⟩) xs ∧ Tf w' w.heap.size w'.heap.size (some ⟨w.heap.size, 0, none⟩) n ∧ Below w.heap.size w w' := by
  subst hn
  refine (toBoolS_any a c xs w hr).mono ?_
  rintro e w' ⟨rfl, ho, hb⟩
  exact ⟨rfl, ho.rd hr.1, ⟨_, xs, rfl, Nat.le_refl _, ho.lt, ho, rfl⟩, hb⟩

theorem markBoolS_own (g c n k : Nat) (zs : List Bool) (w : World) (ho : OwnFl w g zs) (hz : zs.length = n) (hn : n ≤ 1048576) (hk : k ≤ 8000000000000000000) :
    Calls Try.prog 17 #[.slice (some ⟨g, 0, none⟩) n c, .int .i64 (k : Int)] w fun e w' => e = .returned (.int .i64 ((k + n : Nat) : Int)) ∧ w.grownBy w' (some g) := by
  go_enter Try.func17, Try.ntmps17
  go_wp2_with fail
  go_loopw [1, 5] (fun q i wr => ∃ (j : Nat) (zs' : List Bool), j ≤ n ∧ i = .int .i64 (j : Int) ∧ q = .int .i64 ((k + j : Nat) : Int) ∧ OwnFl wr g zs' ∧ zs'.length = n ∧ w.grownBy wr (some g)) (fun _ i _ => n - (intOf i).toNat)
  case atStart => exact ⟨0, zs, Nat.zero_le _, rfl, by simp, ho, hz, ⟨rfl, rfl, rfl, Nat.le_refl _, fun _ _ _ => rfl⟩⟩
  case round =>
    obtain ⟨j, zs', hj, rfl, rfl, hrow, hzl, hg⟩ := hrel
    by_cases hlt : j < n
    · have q0 := hrow.cell (i := j) (by omega)
      have r0 := hrow.free j
      generalize hK : k + j = K at *
      have HK := kide hK
      have hKb : K ≤ 8100000000000000000 := by omega
      have i0 : (j : Int) < (n : Int) := by omega
      have HRW := kide hrow
      have HZL := kide hzl
      have HG := kide hg
      clear hrow hg hK hzl
      go_wp2_with fail
      go_roundw
      case rel =>
        refine ⟨j + 1, zs'.set j _, by omega, by go_num, ?_, HRW.out.put j _, by rw [List.length_set]; exact HZL.out, grow_set HG.out j _⟩
        rw [show k + (j + 1) = K + 1 by have := HK.out; omega]
        first | go_num | (congr 1; push_cast; omega) | (simp; omega)
      case measure => simp [intOf]; omega
    · have e : j = n := by omega
      subst e
      have HG := kide hg
      clear hrow hg hzl
      go_wp2_with fail
      go_ret
      exact ⟨rfl, HG.out⟩
theorem markBoolS_tf (lo hi c n k : Nat) (a : Option Addr) (w : World) (h : Tf w lo hi a n) (hn : n ≤ 1048576) (hk : k ≤ 8000000000000000000) :
    Calls Try.prog 17 #[.slice a n c, .int .i64 (k : Int)] w fun e w' => e = .returned (.int .i64 ((k + n : Nat) : Int)) ∧ Out lo hi w w' := by
  obtain ⟨g, zs, rfl, h1, h2, h3, h4⟩ := h
  refine (markBoolS_own g c n k zs w h3 h4 hn hk).mono ?_
  intro e w' h
  exact ⟨h.1, Out.grown h.2 h1 h2⟩

theorem okW_vb (ds : List Dc) (on : List Bool) : okW (vbR ds on).1 := by
  unfold vbR
  split
  · rename_i h
    obtain ⟨h60, hall, -, -⟩ := dclR_iff.1 h.1
    refine ⟨by simp [vbL]; omega, fun x hx => ?_⟩
    obtain ⟨v, hv, rfl⟩ := List.mem_map.1 hx
    have hv2 := List.mem_range.1 hv
    have hd : ds.getD v (.empty, 0) ∈ ds := by
      have e : ds.getD v (.empty, 0) = ds[v] := by simp [List.getD, hv2]
      rw [e]; exact List.getElem_mem _
    obtain ⟨h1, h2⟩ := (dcOk_iff.1 (hall _ hd)).2
    refine ⟨⟨by simp only [vbE]; omega, by simp only [vbE]; omega⟩, ?_, pack_lt _⟩
    simp only [vbE]
    rw [pack_len]
    have : (flB on (sumW (ds.take v)).toNat (ds.getD v (.empty, 0)).2.toNat).length ≤ (ds.getD v (.empty, 0)).2.toNat := by simp [flB]; omega
    omega
  · exact ⟨by simp, by simp⟩

end Go.Proofs.Ytkffjdicmendkaa
