/- What the program's ReadBits answers: the whole of it. -/
import Derived.Test.YtiaoncdnkemokaaRI
import Derived.Test.YtiaoncdnkemokaaF4
namespace Go.Proofs.Ytiaoncdnkemokaa
set_option linter.unusedVariables false
set_option linter.unusedSimpArgs false
open Go.RowKit

theorem perS_yes {s : ByteArray} {x : Bool} (h2 : 2 ≤ s.size) (e0 : bn s 0 = 35) (e1 : bn s 1 = if x then 120 else 98) : perS s = perOf x := by
  cases x with
  | true => simp at e1; rw [perS, if_neg (by omega), if_pos ⟨h2, e0, e1⟩]; rfl
  | false => simp at e1; rw [perS, if_pos ⟨h2, e0, e1⟩]; rfl

theorem readR_x {s : ByteArray} {x : Bool} (h3 : 3 ≤ s.size) (h4 : s.size - 2 ≤ 4096 / perOf x) (e0 : bn s 0 = 35) (e1 : bn s 1 = if x then 120 else 98) :
    readR s = match readTo x s (s.size - 2) with | none => noR | some l => fromR l.reverse := by
  have h5 : s.size ≤ 4098 := by cases x <;> simp [perOf] at h4 <;> omega
  have e2 : (bn s 1 == 120) = x := by rw [e1]; cases x <;> rfl
  rw [readR, if_pos ⟨h3, h5, e0, by cases x <;> simp at e1 <;> omega⟩, e2]
  rfl

theorem readR_big {s : ByteArray} {x : Bool} (h4 : 4096 / perOf x < s.size - 2) (e0 : bn s 0 = 35) (e1 : bn s 1 = if x then 120 else 98) : readR s = noR := by
  rw [readR]
  split
  · rename_i h
    have e2 : (bn s 1 == 120) = x := by rw [e1]; cases x <;> rfl
    rw [e2]
    cases hr : readTo x s (s.size - 2) with
    | none => rfl
    | some l =>
      have hl := readTo_full hr
      show fromR l.reverse = noR
      rw [fromR, if_neg]
      · rfl
      · rw [List.length_reverse, hl]
        cases x <;> simp [perOf] at h4 <;> simp [perOf] <;> omega
  · rfl

theorem readR_none {s : ByteArray} (h : perS s = 0) : readR s = noR := by
  unfold perS at h
  split at h
  · omega
  · split at h
    · omega
    · rw [readR, if_neg (by omega)]

theorem perS_cases (s : ByteArray) : perS s = 0 ∨ ∃ x : Bool, 2 ≤ s.size ∧ bn s 0 = 35 ∧ bn s 1 = (if x then 120 else 98) := by
  unfold perS
  split
  · rename_i h; exact .inr ⟨false, h.1, h.2.1, h.2.2⟩
  · split
    · rename_i h; exact .inr ⟨true, h.1, h.2.1, h.2.2⟩
    · exact .inl rfl

set_option maxHeartbeats 2000000 in
set_option maxRecDepth 100000 in
theorem implRead_x (s : ByteArray) (w : World) (hs : s.size ≤ 9223372036854775807) (g2 : 2 ≤ s.size) (e0 : bn s 0 = 35) (e1 : bn s 1 = if true then 120 else 98) : Calls Try.prog 22 #[.string s] w (RetB w (readR s)) := by
  have h2 : Below w.heap.size w (w.alloc (Obj.cells #[Value.int IntKind.i64 0, Value.slice none 0 0] 26)) := Ba (Below.refl _ _) _
  have bR0 := Blk.new w (Value.int IntKind.i64 0) (Value.slice none 0 0) 26
  have hD : ∀ u : World, Calls Try.prog 57 #[.string s] u fun e w' => e = .returned (.int .i64 4) ∧ w' = u := fun u => by
    have h := digitBits_any s u
    rwa [perS_yes g2 e0 e1] at h
  have HD : Hid _ := hD
  clear hD
  have hRb := @readR_big s true
  have hRx := @readR_x s true
  change 1024 < s.size - 2 → _ at hRb
  change _ → s.size - 2 ≤ 1024 → _ at hRx
  have E0 : Hid _ := e0
  have E1 : Hid _ := e1
  have i2 : (2 : Int) ≤ (s.size : Int) := by omega
  have i3 : (0 : Int) ≤ (s.size : Int) - 2 := by omega
  have HB : Hid _ := get_bn s
  clear e0 e1
  by_cases hz : s.size = 2
  · have hR : readR s = noR := by rw [readR, if_neg (by omega)]
    rw [hR]
    clear hRb hRx
    have hzi : (s.size : Int) = 2 := by omega
    go_enter Try.func22, Try.ntmps22
    go_wp2_with fail
    refine (HD.out _).mono ?_
    rintro e w1 ⟨rfl, rfl⟩
    go_wp2
    exact bodyPost_ret (v := .tuple #[.agg #[.int .i64 0, .slice none 0 0], .bool false]) (by simp [results, Try.results22, go_sem]) rfl (RetB.no h2)
  · by_cases hg : 1024 < s.size - 2
    · have hR : readR s = noR := hRb hg E0.out E1.out
      rw [hR]
      clear hRb hRx
      have hzi : ¬ (s.size : Int) - 2 = 0 := by omega
      have hzg : (1024 : Int) < (s.size : Int) - 2 := by omega
      go_enter Try.func22, Try.ntmps22
      go_wp2_with fail
      refine (HD.out _).mono ?_
      rintro e w1 ⟨rfl, rfl⟩
      go_wp2
      exact bodyPost_ret (v := .tuple #[.agg #[.int .i64 0, .slice none 0 0], .bool false]) (by simp [results, Try.results22, go_sem]) rfl (RetB.no h2)
    · have hR := hRx (by omega) (by omega) E0.out E1.out
      have HR : Hid _ := hR
      clear hRb hRx hR
      generalize readR s = R at *
      have hzi : (((s.size - 2 : Nat) : Int) == 0) = false := by simp; omega
      have hzg : ¬ (1024 : Int) < ((s.size - 2 : Nat) : Int) := by omega
      have HBY : Hid (∀ k (h : k < (s.extract 2 s.size).size), ((s.extract 2 s.size)[k]'h).toNat = bn s (k + 2)) := fun k h => by
        have h' : k + 2 < s.size := by simp at h; omega
        rw [← get_bn s (k + 2) h']
        simp [ByteArray.getElem_extract, Nat.add_comm]
      have hby : (s.extract 2 s.size).size = s.size - 2 := by simp
      have HSZ : Hid _ := hby
      clear hby
      go_enter Try.func22, Try.ntmps22
      go_wp2_with fail
      refine (HD.out _).mono ?_
      rintro e w1 ⟨rfl, rfl⟩
      go_wp2_with fail
      generalize hbd : s.extract 2 s.size = body at *
      have hc1 : 1 ≤ s.size - 2 := by omega
      have hc2 : s.size - 2 ≤ 1024 := by omega
      generalize hcc : s.size - 2 = c at *
      clear hbd hcc hzi hzg hz hg i2 i3 g2 hs
      have hZ : ∀ u : World, Calls Try.prog 58 #[.int .i64 ((c : Int) * 4)] u fun e w' => ∃ g, e = .returned (.agg #[.int .i64 ((c : Int) * 4), .slice (some ⟨g, 0, none⟩) ((c * 4 + 63) / 64) ((c * 4 + 63) / 64)]) ∧ u.heap.size ≤ g ∧ Own w' g (List.replicate ((c * 4 + 63) / 64) 0) ∧ Below u.heap.size u w' := fun u => by
        have h := zeroBits_any (c * 4) u (by omega) (by omega)
        have e : ((c * 4 : Nat) : Int) = ((c : Int) * 4) := by omega
        rwa [e] at h
      refine (hZ _).mono ?_
      rintro e w2 ⟨g, rfl, hg1, ho2, hb2⟩
      clear hZ HD
      have B2 := chain h2 hb2
      have bR2 := bR0.next hb2
      have gR : w.heap.size < g := by simp at hg1; omega
      clear bR0 h2 hb2 hg1
      generalize hN : (c * 4 + 63) / 64 = N at *
      have HN : Hid _ := hN
      clear hN
      go_wp2
      have bB3 := Blk.new w2 (Value.int IntKind.i64 ((c : Int) * 4)) (Value.slice (some { block := g, off := 0 }) N N) 26
      have bR3 := bR2.alloc (Obj.cells #[Value.int IntKind.i64 ((c : Int) * 4), Value.slice (some { block := g, off := 0 }) N N] 26)
      have ho3 := ho2.alloc (Obj.cells #[Value.int IntKind.i64 ((c : Int) * 4), Value.slice (some { block := g, off := 0 }) N N] 26)
      have B3 := Ba B2 (Obj.cells #[Value.int IntKind.i64 ((c : Int) * 4), Value.slice (some { block := g, off := 0 }) N N] 26)
      have gB : g < w2.heap.size := ho2.lt
      have rB : w.heap.size < w2.heap.size := bR2.lt
      clear bR2 ho2 B2
      generalize w2.alloc (Obj.cells #[Value.int IntKind.i64 ((c : Int) * 4), Value.slice (some { block := g, off := 0 }) N N] 26) = w3 at *
      generalize w2.heap.size = β at *
      go_loopw [34] (fun i wr => ∃ (k : Nat) (zs : List Nat), k ≤ c ∧ i = .int .i64 k ∧ (∀ j, j < k → okDig true (hexI (bn s (c - 1 - j + 2))) = true) ∧ zs.length = N ∧ (∀ x ∈ zs, x < 18446744073709551616) ∧ (∀ q, tb zs q = decide ((lo true s c k).getD q 0 = 1)) ∧ Own wr g zs ∧ Blk wr w.heap.size (Value.int IntKind.i64 0) (Value.slice none 0 0) 26 ∧ Blk wr β (Value.int IntKind.i64 ((c : Int) * 4)) (Value.slice (some { block := g, off := 0 }) N N) 26 ∧ Below w.heap.size w wr) (fun i _ => c - (intOf i).toNat)
      case atStart =>
        refine ⟨0, List.replicate N 0, Nat.zero_le _, rfl, fun j h => by omega, by simp, fun x hx => by simp at hx; omega, fun q => ?_, ho3, bR3, bB3, B3⟩
        have e : (List.replicate N 0).getD (q / 64) 0 = 0 := by
          simp only [List.getD, List.getElem?_replicate]; split <;> rfl
        unfold tb
        rw [e]
        simp [lo]
      case round =>
        clear ho3 bR3 bB3 B3
        obtain ⟨k, zs, hk, rfl, hok, hzl, hzx, hzt, hown, bR, bB, B⟩ := hrel
        obtain ⟨r0, r1⟩ := bR.cells
        obtain ⟨b0, b1⟩ := bB.cells
        have lB := bB.lt
        have lR := bR.lt
        by_cases hlt : k < c
        · obtain ⟨j, hj⟩ : ∃ j : Nat, c = k + 1 + j := ⟨c - 1 - k, by omega⟩
          have hji : (c : Int) - 1 - (k : Int) = (j : Int) := by omega
          have hjc : (j : Int) < (body.size : Int) := by rw [HSZ.out]; omega
          have hjn : j < body.size := by rw [HSZ.out]; omega
          have hbb := HBY.out j hjn
          have hj0 : (0 : Int) ≤ (j : Int) := by omega
          have HJ : Hid _ := hj
          clear hj
          have hLS : ByteArray.size { data := #[48, 49, 50, 51, 52, 53, 54, 55, 56, 57, 97, 98, 99, 100, 101, 102] } = 16 := rfl
          have hLS2 : ((16 : Nat) : Int) ≤ ((ByteArray.size { data := #[48, 49, 50, 51, 52, 53, 54, 55, 56, 57, 97, 98, 99, 100, 101, 102] } : Nat) : Int) := by rw [hLS]; omega
          have hbl := bn_lt s (j + 2)
          have hIX : ∀ u : World, Calls Try.prog 59 #[.string (ByteArray.extract { data := #[48, 49, 50, 51, 52, 53, 54, 55, 56, 57, 97, 98, 99, 100, 101, 102] } 0 16), .int .u8 ((bn s (j + 2) : Nat) : Int)] u fun e w' => e = .returned (.int .i64 (if okDig true (hexI (bn s (j + 2))) = true then hexI (bn s (j + 2)) else -1)) ∧ w' = u := fun u => by
            have h := Try.strings_IndexByte (ByteArray.extract { data := #[48, 49, 50, 51, 52, 53, 54, 55, 56, 57, 97, 98, 99, 100, 101, 102] } 0 16) ((bn s (j + 2) : Nat) : Int) u
            have e : (ByteArray.extract { data := #[48, 49, 50, 51, 52, 53, 54, 55, 56, 57, 97, 98, 99, 100, 101, 102] } 0 16).data.toList = [48, 49, 50, 51, 52, 53, 54, 55, 56, 57, 97, 98, 99, 100, 101, 102] := by decide +kernel
            rw [e, Int.toNat_natCast] at h
            have e2 := idx_hex (bn s (j + 2)) hbl
            change Lib.indexByte _ (Nat.toUInt8 (bn s (j + 2))) = _ at e2
            rwa [e2] at h
          cases hd : okDig true (hexI (bn s (j + 2))) with
          | false =>
            rw [hd] at hIX
            have HIX : Hid _ := hIX
            have HND : Hid _ := hd
            have hRn : R = noR := by rw [HR.out, readTo_bad (k := j) (by have := HJ.out; omega) hd]
            have HRN : Hid _ := hRn
            clear hIX hd hRn
            have f0 := frozen_of_row wr _ 0 _ _ bR
            have f1 := frozen_of_row wr _ 1 _ _ bR
            go_wp2_with fail
            go_quiet ((go_at_call 59; exact Calls.quiet_of_same (HIX.out _)))
            go_wp2
            have Bq := below_drewN (Below.refl wr.heap.size wr) nq
            have bR' := bR.next Bq
            obtain ⟨d0, d1⟩ := ((bR'.put0 (Value.int IntKind.i64 0)).put1 (Value.slice none 0 0)).cells
            have BF := ((B.trans (Bq.mono B.size)).setCell (p := ⟨w.heap.size, 0, none⟩) (Nat.le_refl _) (Value.int IntKind.i64 0)).setCell (p := ⟨w.heap.size, 1, none⟩) (Nat.le_refl _) (Value.slice none 0 0)
            rw [HRN.out]
            exact bodyPost_ret (v := .tuple #[.agg #[.int .i64 0, .slice none 0 0], .bool false]) (by simp [results, Try.results22, go_sem, d0, d1]) rfl (RetB.no BF)
          | true =>
            rw [hd] at hIX
            obtain ⟨n, hn⟩ : ∃ n : Nat, hexI (bn s (j + 2)) = (n : Int) := ⟨(hexI (bn s (j + 2))).toNat, by simp [okDig] at hd; omega⟩
            have hn2 : n < 2 ^ perOf true := by
              have h := hexI_le (bn s (j + 2))
              rw [hn] at h hd
              simp [okDig] at hd
              simp [perOf]
              omega
            simp only [if_true, hn] at hIX
            have HIX : Hid _ := hIX
            have HD : Hid _ := hd
            have HNN : Hid _ := hn
            clear hIX hd hn
            have hkN : k * 4 / 64 < N := by have := HN.out; omega
            have hcg := hown.cell (i := k * 4 / 64) (by omega)
            have hfg := hown.free (k * 4 / 64)
            have hzx' := getD_lt hzx (k * 4 / 64)
            have ep : k * perOf true = k * 4 := by simp [perOf]
            have hPUT := put_digit (x := true) (n := n) hn2 hzt k (by rw [lo_len]) (by rw [ep]; omega)
            rw [ep] at hPUT
            have HPUT : Hid _ := hPUT
            have HZ : Hid _ := orShift (zs.getD (k * 4 / 64) 0) n (k * 4 % 64) hzx'
            have HZ6 : Hid _ := hzx'
            have HZL : Hid _ := hzl
            have HZX : Hid _ := hzx
            have HOK : Hid _ := hok
            clear hPUT ep hzx' hzx
            generalize zs.getD (k * 4 / 64) 0 = z at *
            clear hzt hok hzl
            have hn3 : n < 16 := by simp [perOf] at hn2; omega
            go_wp2_with fail
            have hkNi : (k : Int) * 4 / 64 < (N : Int) := by omega
            go_quiet ((go_at_call 59; exact Calls.quiet_of_same (HIX.out _)))
            go_wp2
            go_region
            go_wp2
            go_roundw
            case rel =>
              have Bq := below_drewN (Below.refl wr.heap.size wr) (nq + 1)
              have ho := (hown.later Bq hown.lt).put (k * 4 / 64) (z ||| n * 2 ^ (k * 4 % 64) % 18446744073709551616)
              rw [← HZ.out] at ho
              have gS : Dw g (wr.drewN (nq + 1)) ((wr.drewN (nq + 1)).setCell ⟨g, k * 4 / 64, none⟩ (Value.int IntKind.u64 (bits BinOp.or IntKind.u64 (z : Int) (IntKind.u64.wrap ((n : Int) * 2 ^ (k * 4 % 64)))))) := gsc _ _ _
              refine ⟨k + 1, zs.set (k * 4 / 64) (z ||| n * 2 ^ (k * 4 % 64) % 18446744073709551616), by omega, by go_num, ?_, by rw [List.length_set]; exact HZL.out, ?_, ?_, ho, (bR.next Bq).far gS (by omega), (bB.next Bq).far gS (by omega), (B.trans (Bq.mono B.size)).setCell (by simp; omega) _⟩
              · intro j' hj'
                by_cases h : j' = k
                · rw [h, show c - 1 - k + 2 = j + 2 by have := HJ.out; omega]; exact HD.out
                · exact HOK.out j' (by omega)
              · intro y hy
                rcases List.mem_or_eq_of_mem_set hy with h | h
                · exact HZX.out y h
                · rw [h]
                  exact Nat.or_lt_two_pow (n := 64) HZ6.out (Nat.mod_lt _ (by decide))
              · intro q
                rw [HPUT.out q, lo, show c - 1 - k + 2 = j + 2 by have := HJ.out; omega, HNN.out, Int.toNat_natCast]
            case measure => simp [intOf]; omega
        · have ek : k = c := by omega
          have HZT : Hid _ := hzt
          have HOK : Hid _ := hok
          have HOW : Hid (Own wr g zs) := hown
          have HZL : Hid _ := hzl
          have HZX : Hid _ := hzx
          have HEK : Hid _ := ek
          clear hzt hok hown hzl hzx ek
          have f0 := frozen_of_row wr _ 0 _ _ bR
          have f1 := frozen_of_row wr _ 1 _ _ bR
          go_wp2
          have hg : ∃ l, readTo true s c = some l := readTo_good (fun i hi => by
            have h := HOK.out (c - 1 - i) (by have := HEK.out; omega)
            rwa [show c - 1 - (c - 1 - i) + 2 = i + 2 by omega] at h)
          obtain ⟨l, hl⟩ := hg
          have hlo := lo_all hl
          have hlen := readTo_full hl
          have hl1 := (readTo_len hl).2
          have hz : zs = pack l.reverse := by
            refine eq_pack (fun x hx => hl1 x (List.mem_reverse.1 hx)) ?_ HZX.out (fun q _ => ?_)
            · rw [HZL.out, List.length_reverse, hlen, ← HN.out]; rfl
            · rw [HZT.out q, HEK.out, hlo]
          have hR : R = (((c : Int) * 4), zs, true) := by
            rw [HR.out, hl]
            show fromR l.reverse = _
            rw [fromR, List.length_reverse, hlen, if_pos (by simp [perOf]; omega), hz]
            simp [perOf]
          obtain ⟨d0, d1⟩ := ((bR.put0 (Value.int IntKind.i64 ((c : Int) * 4))).put1 (Value.slice (some ⟨g, 0, none⟩) N N)).cells
          rw [hR]
          refine bodyPost_ret (v := .tuple #[.agg #[.int .i64 ((c : Int) * 4), .slice (some ⟨g, 0, none⟩) N N], .bool true]) (by simp [results, Try.results22, go_sem, d0, d1]) rfl ?_
          exact ⟨some ⟨g, 0, none⟩, N, by show _ = Ending.returned (.tuple #[.agg #[.int .i64 ((c : Int) * 4), .slice (some ⟨g, 0, none⟩) zs.length N], .bool true]); rw [HZL.out], .inr ⟨g, rfl, Nat.le_of_lt gR, (Own.other (show Own wr g zs from HOW.out) (by simp; omega) _).other (by simp; omega) _⟩, (B.setCell (Nat.le_refl _) _).setCell (Nat.le_refl _) _⟩
set_option maxHeartbeats 2000000 in
set_option maxRecDepth 100000 in
theorem implRead_b (s : ByteArray) (w : World) (hs : s.size ≤ 9223372036854775807) (g2 : 2 ≤ s.size) (e0 : bn s 0 = 35) (e1 : bn s 1 = if false then 120 else 98) : Calls Try.prog 22 #[.string s] w (RetB w (readR s)) := by
  have h2 : Below w.heap.size w (w.alloc (Obj.cells #[Value.int IntKind.i64 0, Value.slice none 0 0] 26)) := Ba (Below.refl _ _) _
  have bR0 := Blk.new w (Value.int IntKind.i64 0) (Value.slice none 0 0) 26
  have hD : ∀ u : World, Calls Try.prog 57 #[.string s] u fun e w' => e = .returned (.int .i64 1) ∧ w' = u := fun u => by
    have h := digitBits_any s u
    rwa [perS_yes g2 e0 e1] at h
  have HD : Hid _ := hD
  clear hD
  have hRb := @readR_big s false
  have hRx := @readR_x s false
  change 4096 < s.size - 2 → _ at hRb
  change _ → s.size - 2 ≤ 4096 → _ at hRx
  have E0 : Hid _ := e0
  have E1 : Hid _ := e1
  have i2 : (2 : Int) ≤ (s.size : Int) := by omega
  have i3 : (0 : Int) ≤ (s.size : Int) - 2 := by omega
  have HB : Hid _ := get_bn s
  clear e0 e1
  by_cases hz : s.size = 2
  · have hR : readR s = noR := by rw [readR, if_neg (by omega)]
    rw [hR]
    clear hRb hRx
    have hzi : (s.size : Int) = 2 := by omega
    go_enter Try.func22, Try.ntmps22
    go_wp2_with fail
    refine (HD.out _).mono ?_
    rintro e w1 ⟨rfl, rfl⟩
    go_wp2
    exact bodyPost_ret (v := .tuple #[.agg #[.int .i64 0, .slice none 0 0], .bool false]) (by simp [results, Try.results22, go_sem]) rfl (RetB.no h2)
  · by_cases hg : 4096 < s.size - 2
    · have hR : readR s = noR := hRb hg E0.out E1.out
      rw [hR]
      clear hRb hRx
      have hzi : ¬ (s.size : Int) - 2 = 0 := by omega
      have hzg : (4096 : Int) < (s.size : Int) - 2 := by omega
      go_enter Try.func22, Try.ntmps22
      go_wp2_with fail
      refine (HD.out _).mono ?_
      rintro e w1 ⟨rfl, rfl⟩
      go_wp2
      exact bodyPost_ret (v := .tuple #[.agg #[.int .i64 0, .slice none 0 0], .bool false]) (by simp [results, Try.results22, go_sem]) rfl (RetB.no h2)
    · have hR := hRx (by omega) (by omega) E0.out E1.out
      have HR : Hid _ := hR
      clear hRb hRx hR
      generalize readR s = R at *
      have hzi : (((s.size - 2 : Nat) : Int) == 0) = false := by simp; omega
      have hzg : ¬ (4096 : Int) < ((s.size - 2 : Nat) : Int) := by omega
      have HBY : Hid (∀ k (h : k < (s.extract 2 s.size).size), ((s.extract 2 s.size)[k]'h).toNat = bn s (k + 2)) := fun k h => by
        have h' : k + 2 < s.size := by simp at h; omega
        rw [← get_bn s (k + 2) h']
        simp [ByteArray.getElem_extract, Nat.add_comm]
      have hby : (s.extract 2 s.size).size = s.size - 2 := by simp
      have HSZ : Hid _ := hby
      clear hby
      go_enter Try.func22, Try.ntmps22
      go_wp2_with fail
      refine (HD.out _).mono ?_
      rintro e w1 ⟨rfl, rfl⟩
      go_wp2_with fail
      generalize hbd : s.extract 2 s.size = body at *
      have hc1 : 1 ≤ s.size - 2 := by omega
      have hc2 : s.size - 2 ≤ 4096 := by omega
      generalize hcc : s.size - 2 = c at *
      clear hbd hcc hzi hzg hz hg i2 i3 g2 hs
      have hZ : ∀ u : World, Calls Try.prog 58 #[.int .i64 (c : Int)] u fun e w' => ∃ g, e = .returned (.agg #[.int .i64 (c : Int), .slice (some ⟨g, 0, none⟩) ((c * 1 + 63) / 64) ((c * 1 + 63) / 64)]) ∧ u.heap.size ≤ g ∧ Own w' g (List.replicate ((c * 1 + 63) / 64) 0) ∧ Below u.heap.size u w' := fun u => by
        have h := zeroBits_any (c * 1) u (by omega) (by omega)
        have e : ((c * 1 : Nat) : Int) = (c : Int) := by omega
        rwa [e] at h
      refine (hZ _).mono ?_
      rintro e w2 ⟨g, rfl, hg1, ho2, hb2⟩
      clear hZ HD
      have B2 := chain h2 hb2
      have bR2 := bR0.next hb2
      have gR : w.heap.size < g := by simp at hg1; omega
      clear bR0 h2 hb2 hg1
      generalize hN : (c * 1 + 63) / 64 = N at *
      have HN : Hid _ := hN
      clear hN
      go_wp2
      have bB3 := Blk.new w2 (Value.int IntKind.i64 (c : Int)) (Value.slice (some { block := g, off := 0 }) N N) 26
      have bR3 := bR2.alloc (Obj.cells #[Value.int IntKind.i64 (c : Int), Value.slice (some { block := g, off := 0 }) N N] 26)
      have ho3 := ho2.alloc (Obj.cells #[Value.int IntKind.i64 (c : Int), Value.slice (some { block := g, off := 0 }) N N] 26)
      have B3 := Ba B2 (Obj.cells #[Value.int IntKind.i64 (c : Int), Value.slice (some { block := g, off := 0 }) N N] 26)
      have gB : g < w2.heap.size := ho2.lt
      have rB : w.heap.size < w2.heap.size := bR2.lt
      clear bR2 ho2 B2
      generalize w2.alloc (Obj.cells #[Value.int IntKind.i64 (c : Int), Value.slice (some { block := g, off := 0 }) N N] 26) = w3 at *
      generalize w2.heap.size = β at *
      go_loopw [34] (fun i wr => ∃ (k : Nat) (zs : List Nat), k ≤ c ∧ i = .int .i64 k ∧ (∀ j, j < k → okDig false (hexI (bn s (c - 1 - j + 2))) = true) ∧ zs.length = N ∧ (∀ x ∈ zs, x < 18446744073709551616) ∧ (∀ q, tb zs q = decide ((lo false s c k).getD q 0 = 1)) ∧ Own wr g zs ∧ Blk wr w.heap.size (Value.int IntKind.i64 0) (Value.slice none 0 0) 26 ∧ Blk wr β (Value.int IntKind.i64 (c : Int)) (Value.slice (some { block := g, off := 0 }) N N) 26 ∧ Below w.heap.size w wr) (fun i _ => c - (intOf i).toNat)
      case atStart =>
        refine ⟨0, List.replicate N 0, Nat.zero_le _, rfl, fun j h => by omega, by simp, fun x hx => by simp at hx; omega, fun q => ?_, ho3, bR3, bB3, B3⟩
        have e : (List.replicate N 0).getD (q / 64) 0 = 0 := by
          simp only [List.getD, List.getElem?_replicate]; split <;> rfl
        unfold tb
        rw [e]
        simp [lo]
      case round =>
        clear ho3 bR3 bB3 B3
        obtain ⟨k, zs, hk, rfl, hok, hzl, hzx, hzt, hown, bR, bB, B⟩ := hrel
        obtain ⟨r0, r1⟩ := bR.cells
        obtain ⟨b0, b1⟩ := bB.cells
        have lB := bB.lt
        have lR := bR.lt
        by_cases hlt : k < c
        · obtain ⟨j, hj⟩ : ∃ j : Nat, c = k + 1 + j := ⟨c - 1 - k, by omega⟩
          have hji : (c : Int) - 1 - (k : Int) = (j : Int) := by omega
          have hjc : (j : Int) < (body.size : Int) := by rw [HSZ.out]; omega
          have hjn : j < body.size := by rw [HSZ.out]; omega
          have hbb := HBY.out j hjn
          have hj0 : (0 : Int) ≤ (j : Int) := by omega
          have HJ : Hid _ := hj
          clear hj
          have hLS : ByteArray.size { data := #[48, 49, 50, 51, 52, 53, 54, 55, 56, 57, 97, 98, 99, 100, 101, 102] } = 16 := rfl
          have hLS2 : ((2 : Nat) : Int) ≤ ((ByteArray.size { data := #[48, 49, 50, 51, 52, 53, 54, 55, 56, 57, 97, 98, 99, 100, 101, 102] } : Nat) : Int) := by rw [hLS]; omega
          have hbl := bn_lt s (j + 2)
          have hIX : ∀ u : World, Calls Try.prog 59 #[.string (ByteArray.extract { data := #[48, 49, 50, 51, 52, 53, 54, 55, 56, 57, 97, 98, 99, 100, 101, 102] } 0 2), .int .u8 ((bn s (j + 2) : Nat) : Int)] u fun e w' => e = .returned (.int .i64 (if okDig false (hexI (bn s (j + 2))) = true then hexI (bn s (j + 2)) else -1)) ∧ w' = u := fun u => by
            have h := Try.strings_IndexByte (ByteArray.extract { data := #[48, 49, 50, 51, 52, 53, 54, 55, 56, 57, 97, 98, 99, 100, 101, 102] } 0 2) ((bn s (j + 2) : Nat) : Int) u
            have e : (ByteArray.extract { data := #[48, 49, 50, 51, 52, 53, 54, 55, 56, 57, 97, 98, 99, 100, 101, 102] } 0 2).data.toList = [48, 49] := by decide +kernel
            rw [e, Int.toNat_natCast] at h
            have e2 := idx_bin (bn s (j + 2)) hbl
            change Lib.indexByte _ (Nat.toUInt8 (bn s (j + 2))) = _ at e2
            rwa [e2] at h
          cases hd : okDig false (hexI (bn s (j + 2))) with
          | false =>
            rw [hd] at hIX
            have HIX : Hid _ := hIX
            have HND : Hid _ := hd
            have hRn : R = noR := by rw [HR.out, readTo_bad (k := j) (by have := HJ.out; omega) hd]
            have HRN : Hid _ := hRn
            clear hIX hd hRn
            have f0 := frozen_of_row wr _ 0 _ _ bR
            have f1 := frozen_of_row wr _ 1 _ _ bR
            go_wp2_with fail
            go_quiet ((go_at_call 59; exact Calls.quiet_of_same (HIX.out _)))
            go_wp2
            have Bq := below_drewN (Below.refl wr.heap.size wr) nq
            have bR' := bR.next Bq
            obtain ⟨d0, d1⟩ := ((bR'.put0 (Value.int IntKind.i64 0)).put1 (Value.slice none 0 0)).cells
            have BF := ((B.trans (Bq.mono B.size)).setCell (p := ⟨w.heap.size, 0, none⟩) (Nat.le_refl _) (Value.int IntKind.i64 0)).setCell (p := ⟨w.heap.size, 1, none⟩) (Nat.le_refl _) (Value.slice none 0 0)
            rw [HRN.out]
            exact bodyPost_ret (v := .tuple #[.agg #[.int .i64 0, .slice none 0 0], .bool false]) (by simp [results, Try.results22, go_sem, d0, d1]) rfl (RetB.no BF)
          | true =>
            rw [hd] at hIX
            obtain ⟨n, hn⟩ : ∃ n : Nat, hexI (bn s (j + 2)) = (n : Int) := ⟨(hexI (bn s (j + 2))).toNat, by simp [okDig] at hd; omega⟩
            have hn2 : n < 2 ^ perOf false := by
              have h := hexI_le (bn s (j + 2))
              rw [hn] at h hd
              simp [okDig] at hd
              simp [perOf]
              omega
            simp only [if_true, hn] at hIX
            have HIX : Hid _ := hIX
            have HD : Hid _ := hd
            have HNN : Hid _ := hn
            clear hIX hd hn
            have hkN : k / 64 < N := by have := HN.out; omega
            have hcg := hown.cell (i := k / 64) (by omega)
            have hfg := hown.free (k / 64)
            have hzx' := getD_lt hzx (k / 64)
            have ep : k * perOf false = k := by simp [perOf]
            have hPUT := put_digit (x := false) (n := n) hn2 hzt k (by rw [lo_len]) (by rw [ep]; omega)
            rw [ep] at hPUT
            have HPUT : Hid _ := hPUT
            have HZ : Hid _ := orShift (zs.getD (k / 64) 0) n (k % 64) hzx'
            have HZ6 : Hid _ := hzx'
            have HZL : Hid _ := hzl
            have HZX : Hid _ := hzx
            have HOK : Hid _ := hok
            clear hPUT ep hzx' hzx
            generalize zs.getD (k / 64) 0 = z at *
            clear hzt hok hzl
            have hn3 : n < 16 := by simp [perOf] at hn2; omega
            go_wp2_with fail
            have hkNi : (k : Int) / 64 < (N : Int) := by omega
            go_quiet ((go_at_call 59; exact Calls.quiet_of_same (HIX.out _)))
            go_wp2
            go_region
            go_wp2
            go_roundw
            case rel =>
              have Bq := below_drewN (Below.refl wr.heap.size wr) (nq + 1)
              have ho := (hown.later Bq hown.lt).put (k / 64) (z ||| n * 2 ^ (k % 64) % 18446744073709551616)
              rw [← HZ.out] at ho
              have gS : Dw g (wr.drewN (nq + 1)) ((wr.drewN (nq + 1)).setCell ⟨g, k / 64, none⟩ (Value.int IntKind.u64 (bits BinOp.or IntKind.u64 (z : Int) (IntKind.u64.wrap ((n : Int) * 2 ^ (k % 64)))))) := gsc _ _ _
              refine ⟨k + 1, zs.set (k / 64) (z ||| n * 2 ^ (k % 64) % 18446744073709551616), by omega, by go_num, ?_, by rw [List.length_set]; exact HZL.out, ?_, ?_, ho, (bR.next Bq).far gS (by omega), (bB.next Bq).far gS (by omega), (B.trans (Bq.mono B.size)).setCell (by simp; omega) _⟩
              · intro j' hj'
                by_cases h : j' = k
                · rw [h, show c - 1 - k + 2 = j + 2 by have := HJ.out; omega]; exact HD.out
                · exact HOK.out j' (by omega)
              · intro y hy
                rcases List.mem_or_eq_of_mem_set hy with h | h
                · exact HZX.out y h
                · rw [h]
                  exact Nat.or_lt_two_pow (n := 64) HZ6.out (Nat.mod_lt _ (by decide))
              · intro q
                rw [HPUT.out q, lo, show c - 1 - k + 2 = j + 2 by have := HJ.out; omega, HNN.out, Int.toNat_natCast]
            case measure => simp [intOf]; omega
        · have ek : k = c := by omega
          have HZT : Hid _ := hzt
          have HOK : Hid _ := hok
          have HOW : Hid (Own wr g zs) := hown
          have HZL : Hid _ := hzl
          have HZX : Hid _ := hzx
          have HEK : Hid _ := ek
          clear hzt hok hown hzl hzx ek
          have f0 := frozen_of_row wr _ 0 _ _ bR
          have f1 := frozen_of_row wr _ 1 _ _ bR
          go_wp2
          have hg : ∃ l, readTo false s c = some l := readTo_good (fun i hi => by
            have h := HOK.out (c - 1 - i) (by have := HEK.out; omega)
            rwa [show c - 1 - (c - 1 - i) + 2 = i + 2 by omega] at h)
          obtain ⟨l, hl⟩ := hg
          have hlo := lo_all hl
          have hlen := readTo_full hl
          have hl1 := (readTo_len hl).2
          have hz : zs = pack l.reverse := by
            refine eq_pack (fun x hx => hl1 x (List.mem_reverse.1 hx)) ?_ HZX.out (fun q _ => ?_)
            · rw [HZL.out, List.length_reverse, hlen, ← HN.out]; rfl
            · rw [HZT.out q, HEK.out, hlo]
          have hR : R = ((c : Int), zs, true) := by
            rw [HR.out, hl]
            show fromR l.reverse = _
            rw [fromR, List.length_reverse, hlen, if_pos (by simp [perOf]; omega), hz]
            simp [perOf]
          obtain ⟨d0, d1⟩ := ((bR.put0 (Value.int IntKind.i64 (c : Int))).put1 (Value.slice (some ⟨g, 0, none⟩) N N)).cells
          rw [hR]
          refine bodyPost_ret (v := .tuple #[.agg #[.int .i64 (c : Int), .slice (some ⟨g, 0, none⟩) N N], .bool true]) (by simp [results, Try.results22, go_sem, d0, d1]) rfl ?_
          exact ⟨some ⟨g, 0, none⟩, N, by show _ = Ending.returned (.tuple #[.agg #[.int .i64 (c : Int), .slice (some ⟨g, 0, none⟩) zs.length N], .bool true]); rw [HZL.out], .inr ⟨g, rfl, Nat.le_of_lt gR, (Own.other (show Own wr g zs from HOW.out) (by simp; omega) _).other (by simp; omega) _⟩, (B.setCell (Nat.le_refl _) _).setCell (Nat.le_refl _) _⟩
theorem implRead_any (s : ByteArray) (w : World) (hs : s.size ≤ 9223372036854775807) : Calls Try.prog 22 #[.string s] w (RetB w (readR s)) := by
  rcases perS_cases s with h0 | ⟨x, g2, e0, e1⟩
  · rw [readR_none h0]
    have h2 : Below w.heap.size w (w.alloc (Obj.cells #[Value.int IntKind.i64 0, Value.slice none 0 0] 26)) := Ba (Below.refl _ _) _
    have hD : ∀ u : World, Calls Try.prog 57 #[.string s] u fun e w' => e = .returned (.int .i64 0) ∧ w' = u := fun u => by
      have h := digitBits_any s u
      rwa [h0] at h
    have HD : Hid _ := hD
    clear hD
    go_enter Try.func22, Try.ntmps22
    go_wp2_with fail
    refine (HD.out _).mono ?_
    rintro e w1 ⟨rfl, rfl⟩
    go_wp2
    exact bodyPost_ret (v := .tuple #[.agg #[.int .i64 0, .slice none 0 0], .bool false]) (by simp [results, Try.results22, go_sem]) rfl (RetB.no h2)
  · cases x with
    | true => exact implRead_x s w hs g2 e0 e1
    | false => exact implRead_b s w hs g2 e0 e1

end Go.Proofs.Ytiaoncdnkemokaa
