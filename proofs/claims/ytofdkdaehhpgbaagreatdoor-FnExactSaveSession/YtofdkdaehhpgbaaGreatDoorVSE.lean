/- The writer that SaveSession fills: words. -/
import Derived.Test.YtofdkdaehhpgbaaGreatDoorVSD
import Derived.Test.YtofdkdaehhpgbaaGreatDoorZQA
namespace Go.Proofs.YtofdkdaehhpgbaaGreatDoor
set_option linter.unusedVariables false
set_option linter.unusedSimpArgs false
open Go.RowKit

/-- A word's bytes, the lowest first. -/
def byt (xs : List Nat) (i : Nat) : Nat := xs.getD (i / 8) 0 / 2 ^ (i % 8 * 8) % 256
def rowB (xs : List Nat) (n : Nat) : List Nat := (List.range n).map (byt xs)
def bitsB (W : Nat) (xs : List Nat) : List Nat := numB W ++ rowB xs ((W + 7) / 8)
theorem rowB_len (xs : List Nat) (n : Nat) : (rowB xs n).length = n := by simp [rowB]

theorem bytesFor_any (K : Nat) (hK : K ≤ 1048576) (w : World) : Calls Tryz.prog 129 #[.int .i64 (K : Int)] w fun e w' => e = .returned (.int .i64 (((K + 7) / 8 : Nat) : Int)) ∧ w' = w := by
  have t1 : wrap64 ((K : Int) + 8) = (K : Int) + 8 := by unfold wrap64; omega
  have t2 : (K : Int) + 8 - 1 = ((K + 7 : Nat) : Int) := by omega
  have t3 : Int.tdiv ((K + 7 : Nat) : Int) 8 = (((K + 7) / 8 : Nat) : Int) := by rw [Int.tdiv_eq_ediv_of_nonneg (by omega)]; simp
  have t4 : wrap64 (((K + 7) / 8 : Nat) : Int) = (((K + 7) / 8 : Nat) : Int) := by unfold wrap64; omega
  generalize (K + 7) / 8 = D at *
  generalize K + 7 = E at *
  go_enter Tryz.func129, Tryz.ntmps129
  go_wp2_with fail
  rw [t4]
  go_ret
  exact ⟨rfl, rfl⟩
theorem make_u8s (n : Nat) (hn : n ≤ 1048576) (kl kc : IntKind) (w : World) :
    (Instr.makeSlice 37 (.int kl (n : Int)) (.int kc (n : Int))).run Tryz.prog w = .ok (.slice (some ⟨w.heap.size, 0, none⟩) n n) (w.alloc (.cells (madeCells #[.int .u8 0] n) 5)) := by
  obtain ⟨i0, hi, hz0, hz1, hz2⟩ := info_parts Tryz.infoU8
  have := run_make (P := Tryz.prog) w 37 5 i0 _ Tryz.underlying37 hi hz0 kl kc n n (by omega) (Int.le_refl _) (by rw [hz2]; omega) (by omega)
  rw [hz1, Nat.mul_one] at this
  simp only [Int.toNat_natCast, Nat.mul_one] at this
  exact this

theorem stay {w0 w w' : World} {G : Nat} (hb : Below w0.heap.size w0 w) (ho : Out G (G + 2) w w') (hG : w0.heap.size ≤ G) : Below w0.heap.size w0 w' := hb.trans (ho.bel2 hG hb.size)
theorem wrap_small {k : Nat} (h : k ≤ 1000000) : wrap64 (k : Int) = (k : Int) := by unfold wrap64; omega
theorem q_nat (k : Nat) : Int.tdiv (k : Int) 8 = ((k / 8 : Nat) : Int) := by rw [Int.tdiv_eq_ediv_of_nonneg (by omega)]; simp
theorem r_nat (k : Nat) : Int.tmod (k : Int) 8 = ((k % 8 : Nat) : Int) := by rw [Int.tmod_eq_emod_of_nonneg (by omega)]; simp

set_option maxHeartbeats 1000000 in
theorem bits_any (G K wn wc : Nat) (a : Option Addr) (xs : List Nat) (st : Option (List Nat)) (w0 w : World) (h : Wst G st w) (hK : K ≤ 4096) (hb : Below w0.heap.size w0 w) (hG : w0.heap.size ≤ G) (hr : Rd w0 a xs) (hwn : xs.length = wn) (hl : wn = (K + 63) / 64) :
    Calls Tryz.prog 120 #[.pointer (some ⟨G + 1, 0, none⟩), .agg #[.int .i64 (K : Int), .slice a wn wc]] w (RetW G (putS st (bitsB K xs)) w) := by
  have hbx : Below w.heap.size w (w.alloc (.cells #[Value.int .i64 (K : Int), Value.slice a wn wc] 105)) := (Below.refl _ _).alloc (Nat.le_refl _) _
  have X0 := kide (Bz.new w #[Value.int .i64 (K : Int), Value.slice a wn wc] 105)
  have HN := kide (number_any G (K : Int) st _ (h.later hbx) ⟨by omega, by omega⟩)
  have HB := kide (outB (B1 := G) (B2 := G + 2) hbx)
  have HR := kide (fun u (hu : Below w0.heap.size w0 u) => hr.later hu)
  have HW0 := kide (hb.trans (hbx.mono hb.size))
  have e : bitsB K xs = numB K ++ rowB xs ((K + 7) / 8) := rfl
  rw [e, ← putS_two]
  have HLT := kide h.lt
  have HWN := kide hwn
  obtain ⟨n, hn⟩ : ∃ n, (K + 7) / 8 = n := ⟨_, rfl⟩
  have HBF := kide (fun u => bytesFor_any K (by omega) u)
  rw [hn] at HBF
  rw [hn]
  have HQ : Hid (∀ k, k < n → k / 8 < wn) := fun k hk => by omega
  have HNN : Hid (n ≤ 512) := by show _ ≤ _; omega
  have HMK := kide (fun kl kc u => make_u8s n (by omega) kl kc u)
  clear e h hbx hr hb hl hwn hn
  go_enter Tryz.func120, Tryz.ntmps120
  go_wp2_with fail
  generalize w.alloc (.cells #[Value.int .i64 (K : Int), Value.slice a wn wc] 105) = W at *
  refine Calls.mono HN.out ?_
  rintro e w1 ⟨rfl, h1, h2⟩
  have X1 := kide (X0.out.outs h2 (.inr HLT.out))
  have W1 := kide h1
  have O1 := kide (HB.out.trans h2)
  have B1 := kide (stay HW0.out h2 hG)
  clear h1 h2 HN HB HW0 X0
  have x0 := X1.out.cell 0
  simp at x0
  go_wp2_with fail
  refine Calls.mono (HBF.out _) ?_
  rintro e w2 ⟨rfl, hw⟩
  obtain rfl := hw.symm
  clear hw HBF x0
  have hmk := fun kl kc => HMK.out kl kc w1
  go_wp2_with fail
  have hbm : Below w1.heap.size w1 (w1.alloc (.cells (madeCells #[Value.int .u8 0] n) 5)) := (Below.refl _ _).alloc (Nat.le_refl _) _
  have Y0 := kide (Bz.new w1 (madeCells #[Value.int .u8 0] n) 5)
  have HXL : Hid (w.heap.size < w1.heap.size) := X1.out.lt
  have X2 := kide (X1.out.later hbm)
  have W2 := kide (W1.out.later hbm)
  have O2 := kide (O1.out.trans (outB (B1 := G) (B2 := G + 2) hbm))
  have B2 := kide (B1.out.trans (hbm.mono B1.out.size))
  have HZ1 : Hid (w0.heap.size ≤ w1.heap.size) := B1.out.size
  obtain ⟨g, hg⟩ : ∃ g, w1.heap.size = g := ⟨_, rfl⟩
  rw [hg] at Y0 HXL HZ1
  simp only [hg]
  have HGG : Hid (G + 1 < g) := by show _ < _; rw [← hg]; exact W1.out.lt
  have hsz : (madeCells #[Value.int .u8 0] n).size = n := by simp [size_madeCells]
  have HSZ := kide hsz
  generalize (w1.alloc (.cells (madeCells #[Value.int .u8 0] n) 5)) = V at *
  generalize madeCells #[Value.int .u8 0] n = C at *
  clear hbm hmk X1 W1 O1 B1 hg hsz HMK
  go_loopw [16] (fun i wr => ∃ (k : Nat) (cs : Array Value), k ≤ n ∧ i = .int .i64 (k : Int) ∧ Bz wr g cs 5 ∧ cs.size = n ∧ (∀ j, j < k → cs[j]? = some (.int .u8 (byt xs j : Int))) ∧ Out g (g + 1) V wr) (fun i _ => n - (intOf i).toNat)
  case atStart => exact ⟨0, C, Nat.zero_le _, rfl, Y0.out, HSZ.out, (fun j hj => by omega), Out.refl _ _ _⟩
  case round =>
    obtain ⟨k, cs, hk, rfl, hy, hcs, hall, hou⟩ := hrel
    have HY := kide hy
    have HCS := kide hcs
    have HAL := kide hall
    have HOU := kide hou
    clear hy hcs hall hou
    by_cases hlt : k < n
    · have x1 := (X2.out.outs HOU.out (.inl HXL.out)).cell 1
      simp at x1
      obtain ⟨-, hx64, hnil | ⟨b, o, rfl, hcell⟩⟩ := HR.out wr (B2.out.trans (HOU.out.bel2 HZ1.out (by have := B2.out.size; exact this)))
      · have := HQ.out k hlt; have := HWN.out; rw [hnil] at this; simp at this; omega
      have hq := HQ.out k hlt
      have cq := hcell (k / 8) (by rw [HWN.out]; exact hq)
      have hxr := hx64 (xs.getD (k / 8) 0) (by rw [List.getD_eq_getElem?_getD, List.getElem?_eq_getElem (by rw [HWN.out]; exact hq)]; exact List.getElem_mem _)
      obtain ⟨vk, hvk⟩ : ∃ vk, cs[k]? = some vk := ⟨cs[k]'(by rw [HCS.out]; exact hlt), Array.getElem?_eq_getElem _⟩
      have ck := (HY.out.cell k).trans hvk
      have fk := HY.out.froz k
      have t1 := q_nat k
      have t2 := r_nat k
      have HBY : Hid (byt xs k = xs.getD (k / 8) 0 / 2 ^ (k % 8 * 8) % 256) := rfl
      obtain ⟨q, hqq⟩ : ∃ q, k / 8 = q := ⟨_, rfl⟩
      obtain ⟨r, hrr⟩ : ∃ r, k % 8 = r := ⟨_, rfl⟩
      have hr8 : r < 8 := by omega
      rw [hqq] at t1 cq hq hxr HBY
      rw [hrr] at t2 HBY
      generalize xs.getD q 0 = X at *
      obtain ⟨Y, hYY⟩ : ∃ Y, byt xs k = Y := ⟨_, rfl⟩
      rw [hYY] at HBY
      have HBYK := kide hYY
      clear hYY
      have iq : (q : Int) < (wn : Int) := by omega
      have ik : (k : Int) < (n : Int) := by omega
      obtain ⟨s8, hs8⟩ : ∃ s8, r * 8 = s8 := ⟨_, rfl⟩
      have t5 : wrap64 (q : Int) = (q : Int) := wrap_small (by have := HNN.out; omega)
      have t6 : wrap64 ((r : Int) * 8) = (s8 : Int) := by rw [show (r : Int) * 8 = (s8 : Int) by omega]; exact wrap_small (by omega)
      have HS8 : Hid (s8 < 64) := by show _ < _; omega
      clear hcell hx64 hqq hrr hs8
      go_wp2_with fail
      have hyv : (X : Int) / 2 ^ (r * 8) % 256 = (Y : Int) := by rw [HBY.out]; simp
      have t7 : wrap64 ((k : Int) + 1) = ((k + 1 : Nat) : Int) := by rw [show (k : Int) + 1 = ((k + 1 : Nat) : Int) by omega]; exact wrap_small (by have := HNN.out; omega)
      rw [hyv, t7]
      clear t7
      clear t1 t2 t5 t6 x1 cq ck fk hyv
      go_roundw
      case rel =>
        refine ⟨k + 1, cs.setIfInBounds k (.int .u8 (Y : Int)), by omega, rfl, HY.out.set k _, by rw [Array.size_setIfInBounds]; exact HCS.out, fun j hj => ?_, HOU.out.trans (Out.setc wr g k _)⟩
        by_cases hjk : j = k
        · subst hjk
          rw [Array.getElem?_setIfInBounds_self_of_lt (by rw [HCS.out]; exact hlt), HBYK.out]
        · rw [Array.getElem?_setIfInBounds_ne (by omega)]
          exact HAL.out j (by omega)
      case measure => simp only [intOf, Int.toNat_natCast]; omega
    · obtain rfl : k = n := by omega
      have HRB : Hid (RdB wr (some ⟨g, 0, none⟩) (rowB xs k)) := .inr ⟨g, 0, rfl, fun j u hj => by
        have hjl := (List.getElem?_eq_some_iff.1 hj).1
        rw [u8s_len, rowB_len] at hjl
        rw [Nat.zero_add, HY.out.cell, HAL.out j hjl]
        simp [u8s, rowB, hjl] at hj
        rw [← hj]⟩
      have W3 : Hid (Wst G (putS st (numB (K : Int))) wr) := by
        obtain ⟨p, code, buf, q1, q2, q3⟩ := W2.out
        exact ⟨p, code, buf, q1.outs HOU.out (.inl HGG.out), q2.outs HOU.out (.inl (by have := HGG.out; omega)), q3⟩
      have HP := kide (put_any G k k _ (rowB xs k) _ wr W3.out HRB.out (rowB_len xs k) (by have := HNN.out; omega))
      have O3 : Hid (Out G (G + 2) w wr) := by
        refine ⟨HOU.out.1.trans O2.out.1, HOU.out.2.1.trans O2.out.2.1, HOU.out.2.2.1.trans O2.out.2.2.1, Nat.le_trans O2.out.2.2.2.1 HOU.out.2.2.2.1, fun j hj hd => ?_⟩
        rw [← O2.out.2.2.2.2 j hj hd]
        exact HOU.out.2.2.2.2 j (Nat.lt_of_lt_of_le hj O2.out.2.2.2.1) (.inl (by have := HXL.out; omega))
      go_wp2_with fail
      refine Calls.mono HP.out ?_
      rintro e w3 ⟨rfl, h1, h2⟩
      go_wp2_with fail
      exact bodyPost_end (v := .tuple #[]) (by simp [results, Tryz.results120, go_sem]) rfl ⟨rfl, h1, O3.out.trans h2⟩

end Go.Proofs.YtofdkdaehhpgbaaGreatDoor
