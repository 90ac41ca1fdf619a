/- SaveSession, on the given side: texts and words put behind a row of bytes. -/
import Derived.Test.YtofdkdaehhpgbaaGreatDoorVSK
import Derived.Test.YtofdkdaehhpgbaaGreatDoorZA
import Derived.Laws.BitsAllLaws
namespace Go.Proofs.YtofdkdaehhpgbaaGreatDoor
set_option linter.unusedVariables false
set_option linter.unusedSimpArgs false
open Go.RowKit

theorem strCells_bl (s : ByteArray) : Lib.strCells s = u8s (bl s) := by simp [Lib.strCells, u8s, bl]
theorem wpList_appT (w : World) {ops : Array Oper} {rest : List Oper} {o : Oper} {a : Act} {Q : Exit → Act → World → Prop} (hgd : o.guard = none) (s x : Operand)
    (ho : o.op = .call { callee := .builtin .append, args := #[s, x], argTypes := #[37, 9] })
    (base : Nat) (v : Value) (bs : List Nat) (t : ByteArray) (hs : a.eval s = v) (hown : OwB w base v bs) (hx : a.eval x = .string t) (hl : bs.length + t.size ≤ 100000000000000) (hbase : base ≤ w.heap.size)
    (h : ∀ v' w', OwB w' base v' (bs ++ bl t) → Ky base w w' → wpList Tryz.prog ops Q rest (a.put o.dst v') w') : wpList Tryz.prog ops Q (o :: rest) a w := by
  obtain ⟨i0, hi, hz0, hz1, hz2⟩ := info_parts Tryz.infoU8
  refine Lib.wpList_append_own_string w hgd s x 37 9 ho base 5 i0 Tryz.underlying37 Tryz.underlying9 hi hz0 hz1 hz2 v bs.length (u8s bs) hs hown t hx (by unfold maxLen; omega) (by omega) hbase ?_
  intro v' w' h1 h2 _
  refine h v' w' ?_ (Ky.app hown h2 hbase)
  unfold OwB
  rw [strCells_bl] at h1
  simpa [u8s, bl_len] using h1

theorem l22Text_any (B : Nat) (v : Value) (bs : List Nat) (s : ByteArray) (w : World) (h : OwB w B v bs) (hB : B ≤ w.heap.size) (hs : s.size ≤ 1048576) (hl : bs.length ≤ 98000000000000) :
    Calls Tryz.prog 37 #[v, .string s] w (RetO B (bs ++ nameB s) w) := by
  have HC := kide (l22Put_any B v bs (s.size : Int) w h hB ⟨by omega, by omega⟩ (by omega))
  have HLE := kide (numB_le (n := (s.size : Int)) ⟨by omega, by omega⟩)
  have e : bs ++ nameB s = (bs ++ numB s.size) ++ bl s := by rw [List.append_assoc]; rfl
  rw [e]
  have HLL : Hid ((bs ++ numB (s.size : Int)).length + s.size ≤ 100000000000000) := by show _ ≤ _; rw [List.length_append]; have := HLE.out; omega
  generalize bs ++ numB (s.size : Int) = cs at *
  clear h e
  go_enter Tryz.func37, Tryz.ntmps37
  go_wp2_with fail
  refine Calls.mono HC.out ?_
  rintro e w1 ⟨v1, rfl, h1, h2⟩
  have HO := kide h1
  have HK := kide h2
  have HS : Hid (B ≤ w1.heap.size) := Nat.le_trans hB h2.1.size
  clear h1 h2 HC
  go_wp2_with (at_builtin; refine wpList_appT _ rfl _ _ rfl B v1 cs s (by first | rfl | simp [Act.eval]) HO.out (by first | rfl | simp [Act.eval]) HLL.out HS.out ?_)
  intro v2 w2 q1 q2
  go_wp2_with fail
  go_ret
  exact ⟨v2, rfl, q1, HK.out.trans q2⟩

/-- Bits from a place on, as a number. -/
theorem tb_at (xs : List Nat) (i k : Nat) (h8 : i % 8 = 0) (hk : k < 8) : tb xs (i + k) = (xs.getD (i / 64) 0 / 2 ^ (i % 64)).testBit k := by
  unfold tb
  rw [show (i + k) / 64 = i / 64 by omega, show (i + k) % 64 = k + i % 64 by omega, Nat.testBit_div_two_pow]
theorem acc_step (x k : Nat) : x % 2 ^ k ||| ((x.testBit k).toNat <<< k) = x % 2 ^ (k + 1) := by
  apply Nat.eq_of_testBit_eq
  intro j
  rw [Nat.testBit_or, Nat.testBit_mod_two_pow, Nat.testBit_mod_two_pow, Nat.testBit_shiftLeft]
  by_cases h1 : j < k
  · simp [h1, show j < k + 1 by omega, show ¬ k ≤ j by omega]
  · by_cases h2 : j = k
    · subst h2
      cases hb : x.testBit j <;> simp
    · have h3 : ¬ j < k + 1 := by omega
      have h4 : j - k ≠ 0 := by omega
      cases hb : x.testBit k
      · simp [h1, h3]
      · simp [h1, h3]
        intro _
        exact Nat.testBit_lt_two_pow (Nat.one_lt_two_pow h4)
theorem acc_more (x k : Nat) (hk : k ≤ 8) (h : ∀ j, k ≤ j → j < 8 → x.testBit j = false) : x % 2 ^ k = x % 256 := by
  rw [show (256 : Nat) = 2 ^ 8 from rfl]
  apply Nat.eq_of_testBit_eq
  intro j
  rw [Nat.testBit_mod_two_pow, Nat.testBit_mod_two_pow]
  by_cases h1 : j < k
  · simp [h1, show j < 8 by omega]
  · by_cases h2 : j < 8
    · rw [h j (by omega) h2]; simp
    · simp [h1, h2]
theorem byt_at (xs : List Nat) (i : Nat) (h8 : i % 8 = 0) : byt xs (i / 8) = xs.getD (i / 64) 0 / 2 ^ (i % 64) % 256 := by
  unfold byt
  rw [show i / 8 / 8 = i / 64 by omega, show i / 8 % 8 * 8 = i % 64 by omega]

theorem or_acc {X j Y Z : Nat} (hj : j < 8) (hZ : X % 2 ^ j = Z) (hY : (X.testBit j).toNat = Y) : bits BinOp.or IntKind.u8 (Z : Int) ((Y : Int) * 2 ^ j % 256) = ((X % 2 ^ (j + 1) : Nat) : Int) := by
  have h1 : 2 ^ j ≤ 128 := by
    have : 2 ^ j ≤ 2 ^ 7 := Nat.pow_le_pow_right (by decide) (by omega)
    simpa using this
  have hY1 : Y ≤ 1 := by rw [← hY]; cases X.testBit j <;> simp
  have h2 : Y * 2 ^ j < 256 := by
    have : Y * 2 ^ j ≤ 1 * 2 ^ j := Nat.mul_le_mul_right _ hY1
    omega
  have h3 : Z < 256 := by rw [← hZ]; have := Nat.mod_lt X (Nat.two_pow_pos j); omega
  have e : (Y : Int) * 2 ^ j % 256 = ((Y * 2 ^ j : Nat) : Int) := by
    rw [show (Y : Int) * 2 ^ j = ((Y * 2 ^ j : Nat) : Int) by simp]
    omega
  rw [e, u8_or_nat _ _ h3 h2, ← acc_step, hY, hZ, Nat.shiftLeft_eq]
theorem wrap_eight {i k : Nat} (h : 8 * k = i) (hk : k ≤ 1000) : wrap64 ((i : Int) + 8) = ((8 * (k + 1) : Nat) : Int) := by
  rw [show (i : Int) + 8 = ((8 * (k + 1) : Nat) : Int) by omega]
  exact wrap_small (by omega)
theorem rowB_succ (xs : List Nat) (k : Nat) : rowB xs (k + 1) = rowB xs k ++ [byt xs k] := by simp [rowB, List.range_succ]

set_option maxHeartbeats 400000 in
theorem l22Bits_any (B : Nat) (v : Value) (bs : List Nat) (K wn wc : Nat) (a : Option Addr) (xs : List Nat) (w0 w : World) (h : OwB w B v bs) (hB : B ≤ w.heap.size) (hb : Below w0.heap.size w0 w) (hB0 : w0.heap.size ≤ B) (hr : Rd w0 a xs) (hwn : xs.length = wn) (hK : K ≤ 4096) (hl64 : wn = (K + 63) / 64) (hcl : ∀ j, K ≤ j → tb xs j = false) (hl : bs.length ≤ 97000000000000) :
    Calls Tryz.prog 68 #[v, .agg #[.int .i64 (K : Int), .slice a wn wc]] w (RetO B (bs ++ bitsB K xs) w) := by
  have hbx : Below w.heap.size w (w.alloc (.cells #[Value.int .i64 (K : Int), Value.slice a wn wc] 105)) := (Below.refl _ _).alloc (Nat.le_refl _) _
  have X0 := kide (Bz.new w #[Value.int .i64 (K : Int), Value.slice a wn wc] 105)
  have HC := kide (l22Put_any B v bs (K : Int) _ (h.later hbx) (Nat.le_trans hB hbx.size) ⟨by omega, by omega⟩ (by omega))
  have K0 := kide (Ky.ofB hbx hB)
  have HLE := kide (numB_le (n := (K : Int)) ⟨by omega, by omega⟩)
  have e : bs ++ bitsB K xs = (bs ++ numB K) ++ rowB xs ((K + 7) / 8) := by rw [List.append_assoc]; rfl
  rw [e]
  have HLL : Hid ((bs ++ numB (K : Int)).length ≤ 98000000000000) := by show _ ≤ _; rw [List.length_append]; have := HLE.out; omega
  generalize bs ++ numB (K : Int) = cs at *
  have HRD := kide (fun u (hu : Below w0.heap.size w0 u) => hr.later hu)
  have HBI : Hid (∀ u (j : Nat), Below w0.heap.size w0 u → j < K → Calls Tryz.prog 91 #[.agg #[.int .i64 (K : Int), .slice a wn wc], .int .i64 (j : Int)] u fun e w' => e = .returned (.int .u8 (((tb xs j).toNat : Nat) : Int)) ∧ Below u.heap.size u w') := fun u j hu hj => by
    have := l1Bit_any (K : Int) a wc xs j u (hr.later hu) (by omega)
    rw [hwn] at this
    exact this
  have HW0 := kide hb
  have HCL := kide hcl
  obtain ⟨n, hn⟩ : ∃ n, (K + 7) / 8 = n := ⟨_, rfl⟩
  rw [hn]
  have HN := kide hn
  clear h hbx e hr hwn hl64 hb hcl hn hl
  go_enter Tryz.func68, Tryz.ntmps68
  go_wp2_with fail
  generalize w.alloc (.cells #[Value.int .i64 (K : Int), Value.slice a wn wc] 105) = W at *
  refine Calls.mono HC.out ?_
  rintro e w1 ⟨v1, rfl, h1, h2⟩
  have O1 := kide h1
  have K1 := kide (K0.out.trans h2)
  have X1 := kide (X0.out.ky h2 (by decide))
  have HXL : Hid (w.heap.size < w1.heap.size) := X1.out.lt
  clear h1 h2 HC K0 X0
  go_wp2_with fail
  go_loopw [0, 5] (fun v i wr => ∃ k : Nat, k ≤ n ∧ i = .int .i64 ((8 * k : Nat) : Int) ∧ OwB wr B v (cs ++ rowB xs k) ∧ Ky B w wr ∧ Bz wr w.heap.size #[Value.int .i64 (K : Int), Value.slice a wn wc] 105) (fun _ i _ => 8 * n - (intOf i).toNat)
  case atStart => exact ⟨0, Nat.zero_le _, rfl, by simpa [rowB] using O1.out, K1.out, X1.out⟩
  case round =>
    obtain ⟨k, hk, rfl, ho, hky, hx⟩ := hrel
    have HO := kide ho
    have HKY := kide hky
    have HX := kide hx
    have x0 := hx.cell 0
    simp at x0
    have hxl := hx.lt
    clear ho hky hx
    obtain ⟨i, hi⟩ : ∃ i, 8 * k = i := ⟨_, rfl⟩
    have HI := kide hi
    simp only [hi]
    clear hi
    by_cases hlt : i < K
    · have i0 : (i : Int) < (K : Int) := by omega
      obtain ⟨wo, hwo⟩ : ∃ wo, wo = wr := ⟨_, rfl⟩
      subst hwo
      have h8 : i % 8 = 0 := by have := HI.out; omega
      have HTB := kide (fun j (hj : j < 8) => tb_at xs i j h8 hj)
      have HBY := kide (byt_at xs i h8)
      have HB8 := kide h8
      generalize xs.getD (i / 64) 0 / 2 ^ (i % 64) = X at *
      clear h8
      have HBO : Hid (Below w0.heap.size w0 wo) := HW0.out.trans (HKY.out.1.mono hB0)
      go_wp2_with fail
      clear x0
      go_loopw [6, 7] (fun z q wq => ∃ j : Nat, j ≤ 8 ∧ q = .int .i64 (j : Int) ∧ z = .int .u8 ((X % 2 ^ j : Nat) : Int) ∧ Below wo.heap.size wo wq ∧ i + j ≤ K) (fun _ q _ => 8 - (intOf q).toNat)
      case atStart => exact ⟨0, by omega, rfl, by simp [Nat.mod_one], Below.refl _ _, by omega⟩
      case round =>
        obtain ⟨j, hj, rfl, rfl, hbq, hij⟩ := hrel
        have HQ := kide hbq
        have BQ := kide (HBO.out.trans (hbq.mono HBO.out.size))
        have HXQ := kide (HX.out.later hbq)
        have y0 := HXQ.out.cell 0
        have y1 := HXQ.out.cell 1
        simp at y0 y1
        clear hbq
        by_cases hc : j < 8 ∧ i + j < K
        · obtain ⟨hj8, hjK⟩ := hc
          obtain ⟨m, hm⟩ : ∃ m, i + j = m := ⟨_, rfl⟩
          have hm6 : m ≤ 1000000 := by omega
          have hmK : m < K := by omega
          have i1 : (j : Int) < 8 := Int.ofNat_lt.2 hj8
          have i2 : (m : Int) < (K : Int) := Int.ofNat_lt.2 hmK
          have t1 : (i : Int) + (j : Int) = (m : Int) := by rw [← hm]; simp
          have HTJ := kide (HTB.out j hj8)
          rw [hm] at HTJ
          have HCC := kide (HBI.out _ m BQ.out hmK)
          rw [HTJ.out] at HCC
          have HM := kide hm
          obtain ⟨Y, hY⟩ : ∃ Y, (X.testBit j).toNat = Y := ⟨_, rfl⟩
          rw [hY] at HCC
          have HY := kide hY
          have t2 : wrap64 (m : Int) = (m : Int) := wrap_small hm6
          have HHK := kide hK
          have HHL := kide hlt
          have HHKN := kide hk
          have HJ8 := kide hj8
          have HMK := kide hmK
          clear hm hY hm6 hmK hj hij hj8 hjK hK hlt hk
          generalize hZ : X % 2 ^ j = Z
          have HZ := kide hZ
          clear hZ
          go_wp2_with fail
          refine Calls.mono HCC.out ?_
          rintro e w2 ⟨rfl, hb2⟩
          have HQ2 := kide (HQ.out.trans (hb2.mono HQ.out.size))
          clear hb2 HCC y0 y1
          go_wp2_with fail
          have hor := or_acc HJ8.out HZ.out HY.out
          rw [hor]
          clear hor t1 t2
          go_roundw
          case rel => exact ⟨j + 1, by have := HJ8.out; omega, by simp, rfl, HQ2.out, by have := HM.out; have := HMK.out; omega⟩
          case measure => have := HJ8.out; simp [intOf]; omega
        · have HNK : Hid (k ≤ 100000000) := by show _ ≤ _; have := HI.out; omega
          have HNK2 : Hid (k ≤ 1000) := by show _ ≤ _; have := HI.out; omega
          have HNK3 : Hid (k + 1 ≤ n) := by show _ ≤ _; have := HI.out; have := HN.out; omega
          by_cases hj8 : j = 8
          · have HZK : Hid (X % 2 ^ j = byt xs k) := by
              show _ = _
              subst hj8
              rw [show byt xs k = X % 256 by rw [← HBY.out, ← HI.out]; congr 1; omega]
            have i1 : ¬ (j : Int) < 8 := by omega
            clear hc hj hij hj8 hK hlt hk
            generalize hZ : X % 2 ^ j = Z
            have HZB : Hid (Z = byt xs k) := hZ.symm.trans HZK.out
            have hbx : Below wr.heap.size wr (wr.alloc (.cells #[Value.int .u8 (Z : Int)] 5)) := (Below.refl _ _).alloc (Nat.le_refl _) _
            have HSW : Hid (B ≤ wr.heap.size) := Nat.le_trans (Nat.le_trans hB HKY.out.1.size) HQ.out.size
            have HL2 := kide ((HO.out.later HQ.out).later hbx)
            have HN2 : Hid ((wr.alloc (.cells #[Value.int .u8 (Z : Int)] 5)).cell? ⟨wr.heap.size, 0, none⟩ = some (.int .u8 (Z : Int))) := (Bz.new wr #[Value.int .u8 (Z : Int)] 5).cell 0
            have HK2 := kide ((HKY.out.trans (Ky.ofB HQ.out (Nat.le_trans hB HKY.out.1.size))).trans (Ky.ofB hbx HSW.out))
            have HS2 : Hid (B ≤ (wr.alloc (.cells #[Value.int .u8 (Z : Int)] 5)).heap.size) := Nat.le_trans hB HK2.out.1.size
            have HX2 := kide (HXQ.out.later hbx)
            clear hbx hZ
            go_wp2_with (at_builtin; refine wpList_appC _ rfl _ _ rfl B _ (cs ++ rowB xs k) Z (by first | rfl | simp [Act.eval]) HL2.out wr.heap.size (by first | rfl | simp [Act.eval]) HN2.out (by rw [List.length_append, rowB_len]; have := HLL.out; have := HNK.out; omega) HS2.out ?_)
            intro v2 w2 q1 q2
            have HQ1 : Hid (OwB w2 B v2 (cs ++ rowB xs (k + 1))) := by
              show OwB _ _ _ _
              rw [rowB_succ, ← HZB.out]
              simpa [List.append_assoc] using q1
            have HK3 := kide (HK2.out.trans q2)
            have HX3 := kide (HX2.out.ky q2 (by decide))
            have t9 : wrap64 ((i : Int) + 8) = ((8 * (k + 1) : Nat) : Int) := wrap_eight HI.out HNK2.out
            clear q1 q2
            go_wp2_with fail
            rw [t9]
            clear t9
            go_roundw
            case rel => exact ⟨k + 1, HNK3.out, rfl, HQ1.out, HK3.out, HX3.out⟩
            case measure => simp only [intOf, Int.toNat_natCast]; have := HI.out; have := HNK3.out; omega
          · have hm : i + j = K := by omega
            have HZK : Hid (X % 2 ^ j = byt xs k) := by
              show _ = _
              rw [show byt xs k = X % 256 by rw [← HBY.out, ← HI.out]; congr 1; omega]
              refine acc_more X j hj (fun q h1 h2 => ?_)
              rw [← HTB.out q h2]
              exact HCL.out _ (by omega)
            have i1 : (j : Int) < 8 := by omega
            have t1 : (i : Int) + (j : Int) = (K : Int) := by rw [← hm]; simp
            have t2 : wrap64 (K : Int) = (K : Int) := wrap_small (by omega)
            clear hc hj hij hj8 hm hK hlt hk
            generalize hZ : X % 2 ^ j = Z
            have HZB : Hid (Z = byt xs k) := hZ.symm.trans HZK.out
            have hbx : Below wr.heap.size wr (wr.alloc (.cells #[Value.int .u8 (Z : Int)] 5)) := (Below.refl _ _).alloc (Nat.le_refl _) _
            have HSW : Hid (B ≤ wr.heap.size) := Nat.le_trans (Nat.le_trans hB HKY.out.1.size) HQ.out.size
            have HL2 := kide ((HO.out.later HQ.out).later hbx)
            have HN2 : Hid ((wr.alloc (.cells #[Value.int .u8 (Z : Int)] 5)).cell? ⟨wr.heap.size, 0, none⟩ = some (.int .u8 (Z : Int))) := (Bz.new wr #[Value.int .u8 (Z : Int)] 5).cell 0
            have HK2 := kide ((HKY.out.trans (Ky.ofB HQ.out (Nat.le_trans hB HKY.out.1.size))).trans (Ky.ofB hbx HSW.out))
            have HS2 : Hid (B ≤ (wr.alloc (.cells #[Value.int .u8 (Z : Int)] 5)).heap.size) := Nat.le_trans hB HK2.out.1.size
            have HX2 := kide (HXQ.out.later hbx)
            clear hbx hZ
            go_wp2_with (at_builtin; refine wpList_appC _ rfl _ _ rfl B _ (cs ++ rowB xs k) Z (by first | rfl | simp [Act.eval]) HL2.out wr.heap.size (by first | rfl | simp [Act.eval]) HN2.out (by rw [List.length_append, rowB_len]; have := HLL.out; have := HNK.out; omega) HS2.out ?_)
            intro v2 w2 q1 q2
            have HQ1 : Hid (OwB w2 B v2 (cs ++ rowB xs (k + 1))) := by
              show OwB _ _ _ _
              rw [rowB_succ, ← HZB.out]
              simpa [List.append_assoc] using q1
            have HK3 := kide (HK2.out.trans q2)
            have HX3 := kide (HX2.out.ky q2 (by decide))
            have t9 : wrap64 ((i : Int) + 8) = ((8 * (k + 1) : Nat) : Int) := wrap_eight HI.out HNK2.out
            clear q1 q2
            go_wp2_with fail
            rw [t9]
            clear t9
            go_roundw
            case rel => exact ⟨k + 1, HNK3.out, rfl, HQ1.out, HK3.out, HX3.out⟩
            case measure => simp only [intOf, Int.toNat_natCast]; have := HI.out; have := HNK3.out; omega
    · have hkn : k = n := by have := HI.out; have := HN.out; omega
      have i0 : ¬ (i : Int) < (K : Int) := by omega
      have HKN := kide hkn
      clear hkn hlt hK hk
      go_wp2_with fail
      go_ret
      exact ⟨_, rfl, by rw [← HKN.out]; exact HO.out, HKY.out⟩

end Go.Proofs.YtofdkdaehhpgbaaGreatDoor
