/- What putBits does: the words of a row are put into another one from a place on. -/
import Derived.Test.YtfanddpncipkkaaR
namespace Go.Proofs.Ytfanddpncipkkaa
set_option linter.unusedVariables false
set_option linter.unusedSimpArgs false
open Go.RowKit

def putTo (zs ys : List Nat) (f s : Nat) : Nat → List Nat
  | 0 => zs
  | k + 1 =>
    let z1 := (putTo zs ys f s k).set (f + k) ((putTo zs ys f s k).getD (f + k) 0 ||| ys.getD k 0 * 2 ^ s % 18446744073709551616)
    z1.set (f + k + 1) (z1.getD (f + k + 1) 0 ||| ys.getD k 0 / 2 ^ (64 - s))

theorem putTo_len (zs ys : List Nat) (f s k : Nat) : (putTo zs ys f s k).length = zs.length := by
  induction k with
  | zero => rfl
  | succ k ih => simp [putTo, ih]

theorem set_lt {xs : List Nat} (h : ∀ x ∈ xs, x < 18446744073709551616) (i v : Nat) (hv : v < 18446744073709551616) : ∀ x ∈ xs.set i v, x < 18446744073709551616 := by
  intro x hx
  rcases List.mem_or_eq_of_mem_set hx with h' | h'
  · exact h x h'
  · rw [h']; exact hv

theorem putTo_lt (zs ys : List Nat) (f s k : Nat) (hz : ∀ x ∈ zs, x < 18446744073709551616) (hy : ∀ x ∈ ys, x < 18446744073709551616) : ∀ x ∈ putTo zs ys f s k, x < 18446744073709551616 := by
  induction k with
  | zero => exact hz
  | succ k ih =>
    have h1 := set_lt ih (f + k) _ (Nat.or_lt_two_pow (n := 64) (getD_lt ih (f + k)) (Nat.mod_lt (ys.getD k 0 * 2 ^ s) (by decide)))
    exact set_lt h1 _ _ (Nat.or_lt_two_pow (n := 64) (getD_lt h1 _) (Nat.lt_of_le_of_lt (Nat.div_le_self _ _) (getD_lt hy k)))

theorem tb_put (zs ys : List Nat) (f s k : Nat) (hs : s < 64) (hy : ∀ x ∈ ys, x < 18446744073709551616) (hk : ∀ i, i < k → f + i < zs.length ∧ (f + i + 1 < zs.length ∨ ys.getD i 0 / 2 ^ (64 - s) = 0)) (j : Nat) :
    tb (putTo zs ys f s k) j = (tb zs j || (decide (64 * f + s ≤ j) && decide (j < 64 * f + s + 64 * k) && tb ys (j - (64 * f + s)))) := by
  induction k with
  | zero =>
    by_cases h : 64 * f + s ≤ j
    · simp [putTo, show ¬ j < 64 * f + s by omega]
    · simp [putTo, h]
  | succ k ih =>
    have ih' := ih fun i hi => hk i (by omega)
    obtain ⟨h1, h2⟩ := hk k (by omega)
    have hlen := putTo_len zs ys f s k
    have hyk := getD_lt hy k
    have key : tb (putTo zs ys f s (k + 1)) j = (tb (putTo zs ys f s k) j || (decide (j / 64 = f + k) && (ys.getD k 0 * 2 ^ s % 18446744073709551616).testBit (j % 64)) || (decide (j / 64 = f + k + 1) && (ys.getD k 0 / 2 ^ (64 - s)).testBit (j % 64))) := by
      simp only [putTo]
      have e1 : tb ((putTo zs ys f s k).set (f + k) ((putTo zs ys f s k).getD (f + k) 0 ||| ys.getD k 0 * 2 ^ s % 18446744073709551616)) j = (tb (putTo zs ys f s k) j || (decide (j / 64 = f + k) && (ys.getD k 0 * 2 ^ s % 18446744073709551616).testBit (j % 64))) := by
        rw [tb_set _ _ _ _ (by omega)]
        by_cases h : j / 64 = f + k
        · rw [if_pos h, Nat.testBit_or]; unfold tb; rw [h]; simp
        · rw [if_neg h]; simp [h]
      rcases h2 with h2 | h2
      · rw [tb_set _ _ _ _ (by simp; omega)]
        by_cases h : j / 64 = f + k + 1
        · rw [if_pos h, Nat.testBit_or, ← e1]
          have : ((List.set (putTo zs ys f s k) (f + k) ((putTo zs ys f s k).getD (f + k) 0 ||| ys.getD k 0 * 2 ^ s % 18446744073709551616)).getD (f + k + 1) 0).testBit (j % 64) = tb ((putTo zs ys f s k).set (f + k) ((putTo zs ys f s k).getD (f + k) 0 ||| ys.getD k 0 * 2 ^ s % 18446744073709551616)) j := by unfold tb; rw [h]
          rw [this]; simp [h]
        · rw [if_neg h, e1]; simp [h]
      · rw [h2, Nat.or_zero]
        have e2 : ∀ (l : List Nat) (i : Nat), l.set i (l.getD i 0) = l := by
          intro l i
          by_cases hi : i < l.length
          · have : l.getD i 0 = l[i] := by simp [List.getD, hi]
            rw [this, List.set_getElem_self]
          · exact List.set_eq_of_length_le (by omega)
        rw [e2, e1]; simp
    rw [key, ih']
    have hsp : (18446744073709551616 : Nat) = 2 ^ 64 := by decide
    rw [hsp, Nat.testBit_mod_two_pow, Nat.testBit_mul_two_pow, Nat.testBit_div_two_pow]
    have hlt : j % 64 < 64 := by omega
    by_cases ha : 64 * f + s ≤ j ∧ j < 64 * f + s + 64 * k
    · -- an earlier word's place: this one's bits do not reach there
      have n1 : ¬ (j / 64 = f + k ∧ s ≤ j % 64) := by omega
      have n2 : ¬ (j / 64 = f + k + 1) := by omega
      have c1 : decide (j < 64 * f + s + 64 * (k + 1)) = true := by simp; omega
      have c2 : decide (64 * f + s ≤ j) = true := by simp; omega
      have c3 : decide (j < 64 * f + s + 64 * k) = true := by simp; omega
      rw [c1, c2, c3]
      by_cases h5 : j / 64 = f + k
      · have : decide (s ≤ j % 64) = false := by simp; omega
        simp [h5, this]
      · simp [h5, n2]
    · by_cases hb : 64 * f + s + 64 * k ≤ j ∧ j < 64 * f + s + 64 * (k + 1)
      · have c1 : decide (j < 64 * f + s + 64 * (k + 1)) = true := by simp; omega
        have c2 : decide (64 * f + s ≤ j) = true := by simp; omega
        have c3 : decide (j < 64 * f + s + 64 * k) = false := by simp; omega
        rw [c1, c2, c3]
        have e3 : (j - (64 * f + s)) / 64 = k := by omega
        by_cases h5 : j / 64 = f + k
        · have e4 : (j - (64 * f + s)) % 64 = j % 64 - s := by omega
          unfold tb
          rw [e3, e4]
          simp [h5, hlt, show s ≤ j % 64 by omega]
        · have h6 : j / 64 = f + k + 1 := by omega
          have e4 : (j - (64 * f + s)) % 64 = j % 64 + (64 - s) := by omega
          unfold tb
          rw [e3, e4]
          simp [h6]
      · have c1 : (decide (64 * f + s ≤ j) && decide (j < 64 * f + s + 64 * (k + 1))) = false := by simp; omega
        have c2 : (decide (64 * f + s ≤ j) && decide (j < 64 * f + s + 64 * k)) = false := by simp; omega
        rw [c1, c2]
        simp only [Bool.false_and, Bool.or_false]
        by_cases h5 : j / 64 = f + k
        · have : decide (s ≤ j % 64) = false := by simp; omega
          simp [h5, this]
        · by_cases h6 : j / 64 = f + k + 1
          · have : (ys.getD k 0).testBit (j % 64 + (64 - s)) = false := by
              refine Nat.testBit_lt_two_pow (Nat.lt_of_lt_of_le hyk ?_)
              exact (show 2 ^ 64 ≤ 2 ^ (j % 64 + (64 - s)) from Nat.pow_le_pow_right (by omega) (by omega))
            rw [this]
            simp [h5]
          · simp [h5, h6]

set_option maxHeartbeats 1000000 in
set_option maxRecDepth 100000 in
theorem putBits_any (Wi Wb : Int) (g ci cb P : Nat) (ab : Option Addr) (zs ys : List Nat) (w : World) (ho : Own w g zs) (hr : Rd w ab ys) (hz : ∀ x ∈ zs, x < 18446744073709551616) (hP : P ≤ 4096) (hzl : zs.length ≤ 64) (hyl : ys.length ≤ 64)
    (hk : ∀ i, i < ys.length → P / 64 + i < zs.length ∧ (P / 64 + i + 1 < zs.length ∨ ys.getD i 0 / 2 ^ (64 - P % 64) = 0)) (hab : ∀ x, ab = some x → x.block ≠ g) :
    Calls Try.prog 81 #[.agg #[.int .i64 Wi, .slice (some ⟨g, 0, none⟩) zs.length ci], .agg #[.int .i64 Wb, .slice ab ys.length cb], .int .i64 P] w fun e w' => e = .returned (.tuple #[]) ∧ Own w' g (putTo zs ys (P / 64) (P % 64) ys.length) ∧ w.grownBy w' (some g) := by
  have hgw := ho.lt
  have hy := hr.2.1
  have hB2 : Below w.heap.size w ((w.alloc (Obj.cells #[Value.int IntKind.i64 Wi, Value.slice (some { block := g, off := 0 }) zs.length ci] 45)).alloc (Obj.cells #[Value.int IntKind.i64 Wb, Value.slice ab ys.length cb] 45)) := Ba (Ba (Below.refl _ _) _) _
  have ho2 := ho.later hB2 hgw
  have hr2 := hr.later hB2
  have k0 : ((w.alloc (Obj.cells #[Value.int IntKind.i64 Wi, Value.slice (some { block := g, off := 0 }) zs.length ci] 45)).alloc (Obj.cells #[Value.int IntKind.i64 Wb, Value.slice ab ys.length cb] 45)).cell? ⟨w.heap.size, 1, none⟩ = some (Value.slice (some { block := g, off := 0 }) zs.length ci) := by
    rw [acell _ _ _ (by simp)]; simp
  have hsz : ((w.alloc (Obj.cells #[Value.int IntKind.i64 Wi, Value.slice (some { block := g, off := 0 }) zs.length ci] 45)).alloc (Obj.cells #[Value.int IntKind.i64 Wb, Value.slice ab ys.length cb] 45)).heap.size = w.heap.size + 2 := by simp
  go_enter Try.func81, Try.ntmps81
  go_wp2
  generalize ((w.alloc (Obj.cells #[Value.int IntKind.i64 Wi, Value.slice (some { block := g, off := 0 }) zs.length ci] 45)).alloc (Obj.cells #[Value.int IntKind.i64 Wb, Value.slice ab ys.length cb] 45)) = w2 at *
  clear ho hr
  go_loopw [19] (fun i wr => ∃ k : Nat, k ≤ ys.length ∧ i = .int .i64 k ∧ Own wr g (putTo zs ys (P / 64) (P % 64) k) ∧ w2.grownBy wr (some g)) (fun i _ => ys.length - (intOf i).toNat)
  case atStart => exact ⟨0, Nat.zero_le _, rfl, ho2, World.grownBy.refl _ _⟩
  case round =>
    obtain ⟨k, hkl, rfl, hown, hgr⟩ := hrel
    by_cases hlt : k < ys.length
    · obtain ⟨-, -, hn | ⟨b, o, rfl, hcell⟩⟩ := hr2
      · subst hn; simp at hlt
      have hbg : b ≠ g := hab _ rfl
      have hbl : b < w2.heap.size := block_lt_of_cell (hcell k hlt)
      have b1 := (gcell hgr 1 (b := w.heap.size) (by omega) (by omega)).trans k0
      have x1 := (gcell hgr _ hbl hbg).trans (hcell k hlt)
      obtain ⟨hf1, hf2⟩ := hk k hlt
      have hlen := putTo_len zs ys (P / 64) (P % 64) k
      have hcg := hown.cell (i := P / 64 + k) (by omega)
      have hfg := hown.free (P / 64 + k)
      have hfg2 := hown.free (P / 64 + k + 1)
      have hplt := putTo_lt zs ys (P / 64) (P % 64) k hz hy
      have hY := getD_lt hy k
      have hZ1 := getD_lt hplt (P / 64 + k)
      have i1 : (P : Int) / 64 + (k : Int) < (zs.length : Int) := by omega
      have i2 : (k : Int) < (ys.length : Int) := by omega
      have hgs : ¬ w.heap.size = g := by omega
      have hstep : putTo zs ys (P / 64) (P % 64) (k + 1) = ((putTo zs ys (P / 64) (P % 64) k).set (P / 64 + k) ((putTo zs ys (P / 64) (P % 64) k).getD (P / 64 + k) 0 ||| ys.getD k 0 * 2 ^ (P % 64) % 18446744073709551616)).set (P / 64 + k + 1) (((putTo zs ys (P / 64) (P % 64) k).set (P / 64 + k) ((putTo zs ys (P / 64) (P % 64) k).getD (P / 64 + k) 0 ||| ys.getD k 0 * 2 ^ (P % 64) % 18446744073709551616)).getD (P / 64 + k + 1) 0 ||| ys.getD k 0 / 2 ^ (64 - P % 64)) := rfl
      have hgd : ((putTo zs ys (P / 64) (P % 64) k).set (P / 64 + k) ((putTo zs ys (P / 64) (P % 64) k).getD (P / 64 + k) 0 ||| ys.getD k 0 * 2 ^ (P % 64) % 18446744073709551616)).getD (P / 64 + k + 1) 0 = (putTo zs ys (P / 64) (P % 64) k).getD (P / 64 + k + 1) 0 := by
        simp [List.getD, List.getElem?_set]
      rw [hgd] at hstep
      by_cases hrest : ys.getD k 0 / 2 ^ (64 - P % 64) = 0
      · have hstep2 : putTo zs ys (P / 64) (P % 64) (k + 1) = (putTo zs ys (P / 64) (P % 64) k).set (P / 64 + k) ((putTo zs ys (P / 64) (P % 64) k).getD (P / 64 + k) 0 ||| ys.getD k 0 * 2 ^ (P % 64) % 18446744073709551616) := by
          rw [hstep, hrest, Nat.or_zero]
          by_cases hin : P / 64 + k + 1 < (putTo zs ys (P / 64) (P % 64) k).length
          · have e : (putTo zs ys (P / 64) (P % 64) k).getD (P / 64 + k + 1) 0 = ((putTo zs ys (P / 64) (P % 64) k).set (P / 64 + k) ((putTo zs ys (P / 64) (P % 64) k).getD (P / 64 + k) 0 ||| ys.getD k 0 * 2 ^ (P % 64) % 18446744073709551616))[P / 64 + k + 1]'(by simpa using hin) := by
              simp [List.getD, hin]
            rw [e, List.set_getElem_self]
          · exact List.set_eq_of_length_le (by simp; omega)
        have hne : ((ys.getD k 0 : Nat) : Int) / 2 ^ (64 - P % 64) = 0 := by rw [castDiv, hrest]; rfl
        have HO : Hid (Own (wr.setCell ⟨g, P / 64 + k, none⟩ (.int .u64 (bits BinOp.or IntKind.u64 (((putTo zs ys (P / 64) (P % 64) k).getD (P / 64 + k) 0 : Nat) : Int) (IntKind.u64.wrap (((ys.getD k 0 : Nat) : Int) * 2 ^ (P % 64)))))) g (putTo zs ys (P / 64) (P % 64) (k + 1))) := by
          show Own _ _ _
          rw [hstep2, orShift _ _ _ hZ1]
          exact hown.put _ _
        clear hstep hstep2 hgd hown hcell hk hplt hrest hlen
        generalize (putTo zs ys (P / 64) (P % 64) k).getD (P / 64 + k) 0 = z at *
        generalize ys.getD k 0 = y at *
        have hne2 : ((y : Int) / 2 ^ (64 - P % 64) != 0) = false := by simp [hne]
        clear hne
        go_wp2
        go_region
        go_wp2
        go_roundw
        case rel => exact ⟨k + 1, by omega, by go_num, HO.out, grown_drew (grown_set hgr _ _)⟩
        case measure => simp [intOf]; omega
      · have hin : P / 64 + k + 1 < zs.length := by
          rcases hf2 with h | h
          · exact h
          · exact absurd h hrest
        have hcg2 := hown.cell (i := P / 64 + k + 1) (by omega)
        have i3 : (P : Int) / 64 + (k : Int) + 1 < (zs.length : Int) := by omega
        have hZ2 := getD_lt hplt (P / 64 + k + 1)
        have hne2 : (((ys.getD k 0 : Nat) : Int) / 2 ^ (64 - P % 64) != 0) = true := by rw [castDiv]; simp only [bne_iff_ne, ne_eq]; omega
        have HO : Hid (Own ((wr.setCell ⟨g, P / 64 + k, none⟩ (.int .u64 (bits BinOp.or IntKind.u64 (((putTo zs ys (P / 64) (P % 64) k).getD (P / 64 + k) 0 : Nat) : Int) (IntKind.u64.wrap (((ys.getD k 0 : Nat) : Int) * 2 ^ (P % 64)))))).setCell ⟨g, P / 64 + k + 1, none⟩ (.int .u64 (bits BinOp.or IntKind.u64 (((putTo zs ys (P / 64) (P % 64) k).getD (P / 64 + k + 1) 0 : Nat) : Int) (((ys.getD k 0 : Nat) : Int) / 2 ^ (64 - P % 64))))) g (putTo zs ys (P / 64) (P % 64) (k + 1))) := by
          show Own _ _ _
          rw [hstep, orShift _ _ _ hZ1, castDiv, bits_or_u64_nat _ _ hZ2 (Nat.lt_of_le_of_lt (Nat.div_le_self _ _) hY)]
          exact (hown.put _ _).put _ _
        clear hstep hgd hown hcell hk hplt hrest hlen
        generalize (putTo zs ys (P / 64) (P % 64) k).getD (P / 64 + k) 0 = z at *
        generalize (putTo zs ys (P / 64) (P % 64) k).getD (P / 64 + k + 1) 0 = z2 at *
        generalize ys.getD k 0 = y at *
        go_wp2
        go_region
        go_wp2
        go_roundw
        case rel => exact ⟨k + 1, by omega, by go_num, HO.out, grown_set (grown_drew (grown_set hgr _ _)) _ _⟩
        case measure => simp [intOf]; omega
    · have e : k = ys.length := by omega
      subst e
      go_wp2
      go_end0
      exact ⟨rfl, hown, ⟨hgr.os.trans hB2.os, hgr.tape.trans hB2.tape, hgr.output.trans hB2.output, Nat.le_trans hB2.size hgr.size, fun j hj hne => (hgr.block j (by omega) hne).trans (hB2.block j hj)⟩⟩

end Go.Proofs.Ytfanddpncipkkaa
