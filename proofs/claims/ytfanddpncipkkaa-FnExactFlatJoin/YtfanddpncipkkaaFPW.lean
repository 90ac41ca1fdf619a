/- putBits where the words may have room behind them. -/
import Derived.Test.YtfanddpncipkkaaS
import Derived.Test.YtfanddpncipkkaaSA
namespace Go.Proofs.Ytfanddpncipkkaa
set_option linter.unusedVariables false
set_option linter.unusedSimpArgs false
open Go.RowKit

/-- The words at the head of a block. -/
def Owp (N : Nat) (w : World) (g : Nat) (xs : List Nat) : Prop := ∃ cur : Array Value, w.heap[g]? = some (.cells cur 94 (0, 0)) ∧ cur.size = N ∧ xs.length ≤ N ∧ ∀ i, i < xs.length → cur[i]? = some (.int .u64 ((xs.getD i 0 : Nat) : Int))
theorem Owp.cell {w : World} {g : Nat} {N : Nat} {xs : List Nat} (h : Owp N w g xs) {i : Nat} (hi : i < xs.length) : w.cell? ⟨g, i, none⟩ = some (.int .u64 ((xs.getD i 0 : Nat) : Int)) := by
  obtain ⟨cur, h1, -, -, h3⟩ := h
  rw [cell_of_row w g i cur _ _ h1]
  exact h3 i hi
theorem Owp.free {w : World} {g : Nat} {N : Nat} {xs : List Nat} (h : Owp N w g xs) (i : Nat) : w.frozen? ⟨g, i, none⟩ = false := by
  obtain ⟨cur, h1, -⟩ := h
  exact frozen_of_row w g i _ _ h1
theorem Owp.lt {w : World} {g : Nat} {N : Nat} {xs : List Nat} (h : Owp N w g xs) : g < w.heap.size := by
  obtain ⟨cur, h1, -⟩ := h
  exact lt_of_block h1
theorem Owp.put {w : World} {g : Nat} {N : Nat} {xs : List Nat} (h : Owp N w g xs) (i x : Nat) : Owp N (w.setCell ⟨g, i, none⟩ (.int .u64 (x : Int))) g (xs.set i x) := by
  obtain ⟨cur, h1, h0, h2, h3⟩ := h
  refine ⟨cur.setIfInBounds i (.int .u64 (x : Int)), heap_setCell_same w g i _ _ _ h1, by simpa using h0, by simpa using h2, fun k hk => ?_⟩
  rw [List.length_set] at hk
  rw [Array.getElem?_setIfInBounds]
  by_cases e : i = k
  · subst e
    rw [if_pos rfl, if_pos (by omega)]
    simp [List.getD, hk]
  · rw [if_neg e, h3 k hk]
    simp only [List.getD, List.getElem?_set_ne e]
theorem Owp.later {w w' : World} {g B : Nat} {N : Nat} {xs : List Nat} (h : Owp N w g xs) (hb : Below B w w') (hg : g < B) : Owp N w' g xs := by
  obtain ⟨cur, h1, h2⟩ := h
  exact ⟨cur, by rw [hb.block g hg]; exact h1, h2⟩
theorem Owp.ofW {w : World} {B g n c : Nat} {xs : List Nat} (h : OwW w B (.slice (some ⟨g, 0, none⟩) n c) xs) : Owp c w g xs ∧ n = xs.length ∧ B ≤ g := by
  rcases h.2 with ⟨e, -⟩ | ⟨g', cap, cur, e, hg, hh, hc1, hc2, hsz, hcur⟩
  · cases e
  · cases e
    refine ⟨⟨cur, hh, by omega, by omega, fun i hi => ?_⟩, rfl, hg⟩
    have h9 : (u64s xs).toList[i]? = some (.int .u64 ((xs.getD i 0 : Nat) : Int)) := by
      have := u64s_get xs i hi
      rw [Array.getElem?_toList]
      exact this
    rw [← hcur, List.getElem?_take, if_pos (by omega), Array.getElem?_toList] at h9
    exact h9
/-- .. and back: the block is written to, not moved. -/
theorem OwW.put {w w' : World} {B g n c : Nat} {xs ys : List Nat} (h : OwW w B (.slice (some ⟨g, 0, none⟩) n c) xs) (ho : Owp c w' g ys) (hl : ys.length = xs.length) : OwW w' B (.slice (some ⟨g, 0, none⟩) n c) ys := by
  rcases h.2 with ⟨e, -⟩ | ⟨g', cap, cur, e, hg, hh, hc1, hc2, hsz, hcur⟩
  · cases e
  · cases e
    obtain ⟨cur', h1, h0, h2, h3⟩ := ho
    refine ⟨by simp [u64s], .inr ⟨g, c, cur', by rw [hl], hg, h1, by rw [hl]; exact hc1, hc2, by omega, ?_⟩⟩
    apply List.ext_getElem?
    intro i
    rw [List.getElem?_take]
    by_cases hi : i < ys.length
    · rw [if_pos (by omega), Array.getElem?_toList, h3 i hi, Array.getElem?_toList, u64s_get ys i hi]
    · rw [if_neg (by omega), List.getElem?_eq_none (by simp [u64s]; omega)]

set_option maxHeartbeats 1000000 in
set_option maxRecDepth 100000 in
theorem putBitsP_any (N : Nat) (Wi Wb : Int) (g ci cb P : Nat) (ab : Option Addr) (zs ys : List Nat) (w : World) (ho : Owp N w g zs) (hr : Rd w ab ys) (hz : ∀ x ∈ zs, x < 18446744073709551616) (hP : P ≤ 4096) (hzl : zs.length ≤ 64) (hyl : ys.length ≤ 64)
    (hk : ∀ i, i < ys.length → P / 64 + i < zs.length ∧ (P / 64 + i + 1 < zs.length ∨ ys.getD i 0 / 2 ^ (64 - P % 64) = 0)) (hab : ∀ x, ab = some x → x.block ≠ g) :
    Calls Try.prog 81 #[.agg #[.int .i64 Wi, .slice (some ⟨g, 0, none⟩) zs.length ci], .agg #[.int .i64 Wb, .slice ab ys.length cb], .int .i64 P] w fun e w' => e = .returned (.tuple #[]) ∧ Owp N w' g (putTo zs ys (P / 64) (P % 64) ys.length) ∧ w.grownBy w' (some g) := by
  have hgw := ho.lt
  have hy := hr.2.1
  have hB2 : Below w.heap.size w ((w.alloc (Obj.cells #[Value.int IntKind.i64 Wi, Value.slice (some { block := g, off := 0 }) zs.length ci] 45)).alloc (Obj.cells #[Value.int IntKind.i64 Wb, Value.slice ab ys.length cb] 45)) := Ba (Ba (Below.refl _ _) _) _
  have ho2 := ho.later hB2 hgw
  have hr2 := hr.later hB2
  have k0 : ((w.alloc (Obj.cells #[Value.int IntKind.i64 Wi, Value.slice (some { block := g, off := 0 }) zs.length ci] 45)).alloc (Obj.cells #[Value.int IntKind.i64 Wb, Value.slice ab ys.length cb] 45)).cell? ⟨w.heap.size, 1, none⟩ = some (Value.slice (some { block := g, off := 0 }) zs.length ci) := by
    rw [acell _ _ _ (by simp)]; simp
  have hsz : ((w.alloc (Obj.cells #[Value.int IntKind.i64 Wi, Value.slice (some { block := g, off := 0 }) zs.length ci] 45)).alloc (Obj.cells #[Value.int IntKind.i64 Wb, Value.slice ab ys.length cb] 45)).heap.size = w.heap.size + 2 := by simp
  go_enter Try.func81, Try.ntmps81
  go_wp2
  generalize ((w.alloc (Obj.cells #[Value.int IntKind.i64 Wi, Value.slice (some { block := g, off := 0 }) zs.length ci] 45)).alloc (Obj.cells #[Value.int IntKind.i64 Wb, Value.slice ab ys.length cb] 45)) = w2 at *
  clear ho hr
  go_loopw [19] (fun i wr => ∃ k : Nat, k ≤ ys.length ∧ i = .int .i64 k ∧ Owp N wr g (putTo zs ys (P / 64) (P % 64) k) ∧ w2.grownBy wr (some g)) (fun i _ => ys.length - (intOf i).toNat)
  case atStart => exact ⟨0, Nat.zero_le _, rfl, ho2, World.grownBy.refl _ _⟩
  case round =>
    obtain ⟨k, hkl, rfl, hown, hgr⟩ := hrel
    by_cases hlt : k < ys.length
    · obtain ⟨-, -, hn | ⟨b, o, rfl, hcell⟩⟩ := hr2
      · subst hn; simp at hlt
      have hbg : b ≠ g := hab _ rfl
      have hbl : b < w2.heap.size := block_lt_of_cell (hcell k hlt)
      have b1 := (gcell hgr 1 (b := w.heap.size) (by omega) (by omega)).trans k0
      have x1 := (gcell hgr _ hbl hbg).trans (hcell k hlt)
      obtain ⟨hf1, hf2⟩ := hk k hlt
      have hlen := putTo_len zs ys (P / 64) (P % 64) k
      have hcg := hown.cell (i := P / 64 + k) (by omega)
      have hfg := hown.free (P / 64 + k)
      have hfg2 := hown.free (P / 64 + k + 1)
      have hplt := putTo_lt zs ys (P / 64) (P % 64) k hz hy
      have hY := getD_lt hy k
      have hZ1 := getD_lt hplt (P / 64 + k)
      have i1 : (P : Int) / 64 + (k : Int) < (zs.length : Int) := by omega
      have i2 : (k : Int) < (ys.length : Int) := by omega
      have hgs : ¬ w.heap.size = g := by omega
      have hstep : putTo zs ys (P / 64) (P % 64) (k + 1) = ((putTo zs ys (P / 64) (P % 64) k).set (P / 64 + k) ((putTo zs ys (P / 64) (P % 64) k).getD (P / 64 + k) 0 ||| ys.getD k 0 * 2 ^ (P % 64) % 18446744073709551616)).set (P / 64 + k + 1) (((putTo zs ys (P / 64) (P % 64) k).set (P / 64 + k) ((putTo zs ys (P / 64) (P % 64) k).getD (P / 64 + k) 0 ||| ys.getD k 0 * 2 ^ (P % 64) % 18446744073709551616)).getD (P / 64 + k + 1) 0 ||| ys.getD k 0 / 2 ^ (64 - P % 64)) := rfl
      have hgd : ((putTo zs ys (P / 64) (P % 64) k).set (P / 64 + k) ((putTo zs ys (P / 64) (P % 64) k).getD (P / 64 + k) 0 ||| ys.getD k 0 * 2 ^ (P % 64) % 18446744073709551616)).getD (P / 64 + k + 1) 0 = (putTo zs ys (P / 64) (P % 64) k).getD (P / 64 + k + 1) 0 := by
        simp [List.getD, List.getElem?_set]
      rw [hgd] at hstep
      by_cases hrest : ys.getD k 0 / 2 ^ (64 - P % 64) = 0
      · have hstep2 : putTo zs ys (P / 64) (P % 64) (k + 1) = (putTo zs ys (P / 64) (P % 64) k).set (P / 64 + k) ((putTo zs ys (P / 64) (P % 64) k).getD (P / 64 + k) 0 ||| ys.getD k 0 * 2 ^ (P % 64) % 18446744073709551616) := by
          rw [hstep, hrest, Nat.or_zero]
          by_cases hin : P / 64 + k + 1 < (putTo zs ys (P / 64) (P % 64) k).length
          · have e : (putTo zs ys (P / 64) (P % 64) k).getD (P / 64 + k + 1) 0 = ((putTo zs ys (P / 64) (P % 64) k).set (P / 64 + k) ((putTo zs ys (P / 64) (P % 64) k).getD (P / 64 + k) 0 ||| ys.getD k 0 * 2 ^ (P % 64) % 18446744073709551616))[P / 64 + k + 1]'(by simpa using hin) := by
              simp [List.getD, hin]
            rw [e, List.set_getElem_self]
          · exact List.set_eq_of_length_le (by simp; omega)
        have hne : ((ys.getD k 0 : Nat) : Int) / 2 ^ (64 - P % 64) = 0 := by rw [castDiv, hrest]; rfl
        have HO : Hid (Owp N (wr.setCell ⟨g, P / 64 + k, none⟩ (.int .u64 (bits BinOp.or IntKind.u64 (((putTo zs ys (P / 64) (P % 64) k).getD (P / 64 + k) 0 : Nat) : Int) (IntKind.u64.wrap (((ys.getD k 0 : Nat) : Int) * 2 ^ (P % 64)))))) g (putTo zs ys (P / 64) (P % 64) (k + 1))) := by
          show Owp N _ _ _
          rw [hstep2, orShift _ _ _ hZ1]
          exact hown.put _ _
        clear hstep hstep2 hgd hown hcell hk hplt hrest hlen
        generalize (putTo zs ys (P / 64) (P % 64) k).getD (P / 64 + k) 0 = z at *
        generalize ys.getD k 0 = y at *
        have hne2 : ((y : Int) / 2 ^ (64 - P % 64) != 0) = false := by simp [hne]
        clear hne
        go_wp2
        go_region
        go_wp2
        go_roundw
        case rel => exact ⟨k + 1, by omega, by go_num, HO.out, grown_drew (grown_set hgr _ _)⟩
        case measure => simp [intOf]; omega
      · have hin : P / 64 + k + 1 < zs.length := by
          rcases hf2 with h | h
          · exact h
          · exact absurd h hrest
        have hcg2 := hown.cell (i := P / 64 + k + 1) (by omega)
        have i3 : (P : Int) / 64 + (k : Int) + 1 < (zs.length : Int) := by omega
        have hZ2 := getD_lt hplt (P / 64 + k + 1)
        have hne2 : (((ys.getD k 0 : Nat) : Int) / 2 ^ (64 - P % 64) != 0) = true := by rw [castDiv]; simp only [bne_iff_ne, ne_eq]; omega
        have HO : Hid (Owp N ((wr.setCell ⟨g, P / 64 + k, none⟩ (.int .u64 (bits BinOp.or IntKind.u64 (((putTo zs ys (P / 64) (P % 64) k).getD (P / 64 + k) 0 : Nat) : Int) (IntKind.u64.wrap (((ys.getD k 0 : Nat) : Int) * 2 ^ (P % 64)))))).setCell ⟨g, P / 64 + k + 1, none⟩ (.int .u64 (bits BinOp.or IntKind.u64 (((putTo zs ys (P / 64) (P % 64) k).getD (P / 64 + k + 1) 0 : Nat) : Int) (((ys.getD k 0 : Nat) : Int) / 2 ^ (64 - P % 64))))) g (putTo zs ys (P / 64) (P % 64) (k + 1))) := by
          show Owp N _ _ _
          rw [hstep, orShift _ _ _ hZ1, castDiv, bits_or_u64_nat _ _ hZ2 (Nat.lt_of_le_of_lt (Nat.div_le_self _ _) hY)]
          exact (hown.put _ _).put _ _
        clear hstep hgd hown hcell hk hplt hrest hlen
        generalize (putTo zs ys (P / 64) (P % 64) k).getD (P / 64 + k) 0 = z at *
        generalize (putTo zs ys (P / 64) (P % 64) k).getD (P / 64 + k + 1) 0 = z2 at *
        generalize ys.getD k 0 = y at *
        go_wp2
        go_region
        go_wp2
        go_roundw
        case rel => exact ⟨k + 1, by omega, by go_num, HO.out, grown_set (grown_drew (grown_set hgr _ _)) _ _⟩
        case measure => simp [intOf]; omega
    · have e : k = ys.length := by omega
      subst e
      go_wp2
      go_end0
      exact ⟨rfl, hown, ⟨hgr.os.trans hB2.os, hgr.tape.trans hB2.tape, hgr.output.trans hB2.output, Nat.le_trans hB2.size hgr.size, fun j hj hne => (hgr.block j (by omega) hne).trans (hB2.block j hj)⟩⟩

end Go.Proofs.Ytfanddpncipkkaa
