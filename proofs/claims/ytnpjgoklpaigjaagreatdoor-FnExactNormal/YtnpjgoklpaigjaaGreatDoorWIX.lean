/- What the program's WriteBits answers, where words are written alone. -/
import Derived.Test.YtnpjgoklpaigjaaGreatDoorGAG
import Derived.Test.YtnpjgoklpaigjaaGreatDoorSBG
import Derived.Deep.RegionHeld3
namespace Go.Proofs.YtnpjgoklpaigjaaGreatDoor
set_option linter.unusedVariables false
set_option linter.unusedSimpArgs false
open Go.RowKit
theorem BaX {w wk : World} (h : Below w.heap.size w wk) (o : Obj) : Below w.heap.size w (wk.alloc o) := h.alloc h.size o
def BlkX (w : World) (β : Nat) (x y : Value) (t : TypeId) : Prop := w.heap[β]? = some (.cells #[x, y] t (0, 0))
theorem BlkX.cells {w : World} {β : Nat} {x y : Value} {t : TypeId} (h : BlkX w β x y t) : w.cell? ⟨β, 0, none⟩ = some x ∧ w.cell? ⟨β, 1, none⟩ = some y :=
 ⟨cell_of_row w β 0 _ _ _ h, cell_of_row w β 1 _ _ _ h⟩
theorem BlkX.lt {w : World} {β : Nat} {x y : Value} {t : TypeId} (h : BlkX w β x y t) : β < w.heap.size := lt_of_block h
theorem BlkX.next {w w' : World} {β : Nat} {x y : Value} {t : TypeId} (h : BlkX w β x y t) (hb : Below w.heap.size w w') : BlkX w' β x y t := by
 unfold BlkX
 rw [hb.block β h.lt]; exact h
theorem BlkX.new (w : World) (x y : Value) (t : TypeId) : BlkX (w.alloc (.cells #[x, y] t)) w.heap.size x y t := heap_alloc_new _ _
theorem cells_of (l : List Nat) (h : ∀ x ∈ l, x < 256) : Lib.byteCells (l.map UInt8.ofNat) = u8s l := by
 unfold Lib.byteCells u8s
 rw [List.map_map]
 refine List.map_congr_left fun x hx => ?_
 have := h x hx
 simp [Nat.mod_eq_of_lt this]
theorem sig_at (n : Nat) (hn : n < 16) {h : n < ByteArray.size { data := #[48, 49, 50, 51, 52, 53, 54, 55, 56, 57, 97, 98, 99, 100, 101, 102] }} : (({ data := #[48, 49, 50, 51, 52, 53, 54, 55, 56, 57, 97, 98, 99, 100, 101, 102] } : ByteArray)[n]'h).toNat = sig n := by
 have : ∀ n, (hn : n < 16) → (({ data := #[48, 49, 50, 51, 52, 53, 54, 55, 56, 57, 97, 98, 99, 100, 101, 102] } : ByteArray)[n]'hn).toNat = sig n := by decide
 exact this n hn
set_option maxHeartbeats 2000000 in
set_option maxRecDepth 100000 in
theorem implWrite_x (V : Nat) (a : Option Addr) (c : Nat) (xs : List Nat) (w : World) (hr : Rd w a xs) (hok : rightB V xs = true) (h4 : V % 4 = 0) :
  Calls Tryz.prog 66 #[.agg #[.int .i64 V, .slice a xs.length c]] w fun e w' => e = .returned (.string (txt (writeL V xs))) ∧ Below w.heap.size w w' := by
 obtain ⟨hV1, hV2, hVl⟩ := right_W hok
 have hxl : V ≤ 64 * xs.length := by omega
 have hx := hr.2.1
 obtain ⟨C, hC⟩ : ∃ C : Nat, V = C * 4 := ⟨V / 4, by omega⟩
 have hR : writeL V xs = [35, 120] ++ wTo true xs C C := by rw [writeL, if_pos h4, show V / 4 = C by omega]
 rw [hR]
 have HC : Hid _ := hC
 clear hC
 have bA0 := BlkX.new w (Value.int IntKind.i64 V) (Value.slice a xs.length c) 65
 have B0 : Below w.heap.size w (w.alloc (Obj.cells #[.int IntKind.i64 V, .slice a xs.length c] 65)) := BaX (Below.refl _ _) _
 have hok0 := implOk_any V a c xs _ (hr.later B0)
 rw [hok] at hok0
 have hm : ((V : Int) % 4 == 0) = true := by simp; omega
 clear hR hok
 go_enter Tryz.func66, Tryz.ntmps66
 go_wp2_with fail
 refine hok0.mono ?_
 rintro e w1 ⟨rfl, hb1⟩
 have bA1 := bA0.next hb1
 have B1 := chain B0 hb1
 clear hok0 hb1 bA0 B0
 obtain ⟨k0, k1⟩ := bA1.cells
 have l1 := bA1.lt
 go_wp2_with fail
 refine (wStr_fresh w1.heap.size w1.heap.size { data := #[35, 120] } [35, 120] _ rfl (by decide) (Nat.le_refl _) (by simp) (heap_alloc_new _ _)).mono ?_
 rintro e w2 ⟨rfl, hbd, hb2⟩
 have hb2' : Below w1.heap.size w1 w2 := (BaX (Below.refl _ _) _).trans hb2
 have bA2 := bA1.next hb2'
 have B2 := chain B1 hb2'
 have hs2 := hb2'.size
 clear hb2 k0 k1 l1
 obtain ⟨k0, k1⟩ := bA2.cells
 have l2 := bA2.lt
 have hAβ : w.heap.size < w1.heap.size := bA1.lt
 clear bA1 B1 hb2'
 generalize w1.heap.size = β at *
 go_wp2_with fail
 clear h4 hm
 go_loopw [6] (fun i wr => ∃ (m : Nat) (t : Int), m ≤ C ∧ i = .int .i64 t ∧ t = (m : Int) * 4 - 4 ∧ Bd2 β β ([35, 120] ++ wTo true xs C (C - m)) wr ∧ BlkX wr w.heap.size (Value.int IntKind.i64 V) (Value.slice a xs.length c) 65 ∧ Below w.heap.size w wr ∧ β ≤ wr.heap.size) (fun i _ => (intOf i + 4).toNat)
 case atStart => exact ⟨C, (V : Int) - 4, Nat.le_refl _, rfl, by rw [HC.out]; omega, by rw [Nat.sub_self]; exact hbd, bA2, B2, hs2⟩
 case round =>
  clear hbd bA2 B2 hs2 k0 k1 l2
  obtain ⟨m, t, hm, rfl, ht, hbd, bA, B, hβw⟩ := hrel
  obtain ⟨k0, k1⟩ := bA.cells
  have lA := bA.lt
  have hrr := hr.later B
  by_cases h0 : m = 0
  ·subst h0
   obtain rfl : t = -4 := by omega
   clear ht
   have hall : ∀ y ∈ [35, 120] ++ wTo true xs C C, y < 256 := fun y hy => by
    rcases List.mem_append.1 hy with h | h
    ·simp at h; omega
    ·exact wTo_lt _ _ _ _ y h
   have hbc := cells_of _ hall
   have hSt := Tryz.Builder_String_any β β (([35, 120] ++ wTo true xs C C).map UInt8.ofNat) wr (by rw [hbc]; exact .inr hbd) hβw
   clear hbc hall
   go_wp2_with fail
   refine hSt.mono ?_
   rintro e w5 ⟨rfl, hb5⟩
   have B5 : Below w.heap.size w w5 := B.trans (hb5.mono (Nat.le_of_lt hAβ))
   clear hSt hb5 hbd
   go_wp2
   go_ret
   exact ⟨rfl, B5⟩
  ·obtain ⟨m', rfl⟩ : ∃ m', m = m' + 1 := ⟨m - 1, by omega⟩
   obtain ⟨T, rfl⟩ : ∃ T : Nat, t = (T : Int) := ⟨m' * 4, by omega⟩
   have hT : T = m' * 4 := by omega
   have HT : Hid _ := hT
   have hTV : T + 4 ≤ V := by have := HC.out; omega
   have hTl : T / 64 < xs.length := by omega
   obtain ⟨-, -, h | ⟨ba, oa, rfl, hca⟩⟩ := hrr
   ·subst h; simp at hTl
   have hcell := hca (T / 64) hTl
   have hxv : xs.getD (T / 64) 0 < 18446744073709551616 := getD_lt hx _
   have hTli : (T : Int) / 64 < (xs.length : Int) := by omega
   generalize hy : xs.getD (T / 64) 0 = y at hcell hxv
   have HY : Hid _ := hy
   have hTs : T ≤ 4096 := by omega
   have hdw := dig_word true xs m' T (by simpa using hT)
   have hdl := dig_lt true xs m' T (by simpa using hT)
   simp only [if_true, hy] at hdw
   have hAND : bits BinOp.and IntKind.u64 ((y : Int) / 2 ^ (T % 64)) 15 = ((dig true xs T : Nat) : Int) := by
    have e : ((y : Int) / 2 ^ (T % 64)) = ((y / 2 ^ (T % 64) : Nat) : Int) := by simp
    have hlt : y / 2 ^ (T % 64) < 18446744073709551616 := Nat.lt_of_le_of_lt (Nat.div_le_self _ _) hxv
    rw [e, show (15 : Int) = ((15 : Nat) : Int) from rfl, bits_and_u64_nat _ _ hlt (by decide), hdw]
    rw [show (15 : Nat) = 2 ^ 4 - 1 from rfl, Nat.and_two_pow_sub_one_eq_mod]
   generalize hdd : dig true xs T = n at *
   have HDD : Hid _ := hdd
   clear hca hT ht hy hdw hdd
   go_wp2_with fail
   go_quiet (fail)
   go_wp2_with fail
   have Bq := below_drewN (Below.refl wr.heap.size wr) nq
   refine (wByte_any β β _ _ _ (hbd.next Bq) (by rw [List.length_append, wTo_len]; simp; have := HC.out; omega) (Nat.le_trans hβw Bq.size)).mono ?_
   rintro e w5 ⟨rfl, hbd5, hb5⟩
   rw [sig_at n hdl] at hbd5
   have bA5 : BlkX w5 w.heap.size (Value.int IntKind.i64 V) (Value.slice (some ⟨ba, oa, none⟩) xs.length c) 65 := by
    unfold BlkX
    rw [hb5.block _ hAβ]; exact bA.next Bq
   have B5 : Below w.heap.size w w5 := (B.trans (Bq.mono B.size)).trans (hb5.mono (Nat.le_of_lt hAβ))
   have hβ5 : β ≤ w5.heap.size := Nat.le_trans (Nat.le_trans hβw Bq.size) hb5.size
   have HBD : Hid _ := hbd5
   have HM : Hid (m' + 1 ≤ C) := hm
   clear hbd5 hb5 hbd
   go_wp2
   go_roundw
   case rel =>
    refine ⟨m', (T : Int) - 4, by omega, by first | rfl | go_num, by have := HT.out; omega, ?_, bA5, B5, hβ5⟩
    have e : C - m' = (C - (m' + 1)) + 1 := by omega
    have h := HBD.out
    rw [List.append_assoc] at h
    rw [e, wTo, show C - 1 - (C - (m' + 1)) = m' by omega]
    have e2 : m' * (if true = true then 4 else 1) = T := by have := HT.out; simp; omega
    rw [e2, HDD.out]
    exact h
   case measure => simp [intOf] <;> omega
set_option maxHeartbeats 2000000 in
set_option maxRecDepth 100000 in
theorem implWrite_b (V : Nat) (a : Option Addr) (c : Nat) (xs : List Nat) (w : World) (hr : Rd w a xs) (hok : rightB V xs = true) (h4 : ¬ V % 4 = 0) :
  Calls Tryz.prog 66 #[.agg #[.int .i64 V, .slice a xs.length c]] w fun e w' => e = .returned (.string (txt (writeL V xs))) ∧ Below w.heap.size w w' := by
 obtain ⟨hV1, hV2, hVl⟩ := right_W hok
 have hxl : V ≤ 64 * xs.length := by omega
 have hx := hr.2.1
 obtain ⟨C, hC⟩ : ∃ C : Nat, V = C * 1 := ⟨V / 1, by omega⟩
 have hR : writeL V xs = [35, 98] ++ wTo false xs C C := by rw [writeL, if_neg h4, show V = C by omega]
 rw [hR]
 have HC : Hid _ := hC
 clear hC
 have bA0 := BlkX.new w (Value.int IntKind.i64 V) (Value.slice a xs.length c) 65
 have B0 : Below w.heap.size w (w.alloc (Obj.cells #[.int IntKind.i64 V, .slice a xs.length c] 65)) := BaX (Below.refl _ _) _
 have hok0 := implOk_any V a c xs _ (hr.later B0)
 rw [hok] at hok0
 have hm : ((V : Int) % 4 == 0) = false := by simp; omega
 clear hR hok
 go_enter Tryz.func66, Tryz.ntmps66
 go_wp2_with fail
 refine hok0.mono ?_
 rintro e w1 ⟨rfl, hb1⟩
 have bA1 := bA0.next hb1
 have B1 := chain B0 hb1
 clear hok0 hb1 bA0 B0
 obtain ⟨k0, k1⟩ := bA1.cells
 have l1 := bA1.lt
 go_wp2_with fail
 refine (wStr_fresh w1.heap.size w1.heap.size { data := #[35, 98] } [35, 98] _ rfl (by decide) (Nat.le_refl _) (by simp) (heap_alloc_new _ _)).mono ?_
 rintro e w2 ⟨rfl, hbd, hb2⟩
 have hb2' : Below w1.heap.size w1 w2 := (BaX (Below.refl _ _) _).trans hb2
 have bA2 := bA1.next hb2'
 have B2 := chain B1 hb2'
 have hs2 := hb2'.size
 clear hb2 k0 k1 l1
 obtain ⟨k0, k1⟩ := bA2.cells
 have l2 := bA2.lt
 have hAβ : w.heap.size < w1.heap.size := bA1.lt
 clear bA1 B1 hb2'
 generalize w1.heap.size = β at *
 go_wp2_with fail
 clear h4 hm
 go_loopw [6] (fun i wr => ∃ (m : Nat) (t : Int), m ≤ C ∧ i = .int .i64 t ∧ t = (m : Int) * 1 - 1 ∧ Bd2 β β ([35, 98] ++ wTo false xs C (C - m)) wr ∧ BlkX wr w.heap.size (Value.int IntKind.i64 V) (Value.slice a xs.length c) 65 ∧ Below w.heap.size w wr ∧ β ≤ wr.heap.size) (fun i _ => (intOf i + 1).toNat)
 case atStart => exact ⟨C, (V : Int) - 1, Nat.le_refl _, rfl, by rw [HC.out]; omega, by rw [Nat.sub_self]; exact hbd, bA2, B2, hs2⟩
 case round =>
  clear hbd bA2 B2 hs2 k0 k1 l2
  obtain ⟨m, t, hm, rfl, ht, hbd, bA, B, hβw⟩ := hrel
  obtain ⟨k0, k1⟩ := bA.cells
  have lA := bA.lt
  have hrr := hr.later B
  by_cases h0 : m = 0
  ·subst h0
   obtain rfl : t = -1 := by omega
   clear ht
   have hall : ∀ y ∈ [35, 98] ++ wTo false xs C C, y < 256 := fun y hy => by
    rcases List.mem_append.1 hy with h | h
    ·simp at h; omega
    ·exact wTo_lt _ _ _ _ y h
   have hbc := cells_of _ hall
   have hSt := Tryz.Builder_String_any β β (([35, 98] ++ wTo false xs C C).map UInt8.ofNat) wr (by rw [hbc]; exact .inr hbd) hβw
   clear hbc hall
   go_wp2_with fail
   refine hSt.mono ?_
   rintro e w5 ⟨rfl, hb5⟩
   have B5 : Below w.heap.size w w5 := B.trans (hb5.mono (Nat.le_of_lt hAβ))
   clear hSt hb5 hbd
   go_wp2
   go_ret
   exact ⟨rfl, B5⟩
  ·obtain ⟨m', rfl⟩ : ∃ m', m = m' + 1 := ⟨m - 1, by omega⟩
   obtain ⟨T, rfl⟩ : ∃ T : Nat, t = (T : Int) := ⟨m' * 1, by omega⟩
   have hT : T = m' * 1 := by omega
   have HT : Hid _ := hT
   have hTV : T + 1 ≤ V := by have := HC.out; omega
   have hTl : T / 64 < xs.length := by omega
   obtain ⟨-, -, h | ⟨ba, oa, rfl, hca⟩⟩ := hrr
   ·subst h; simp at hTl
   have hcell := hca (T / 64) hTl
   have hxv : xs.getD (T / 64) 0 < 18446744073709551616 := getD_lt hx _
   have hTli : (T : Int) / 64 < (xs.length : Int) := by omega
   generalize hy : xs.getD (T / 64) 0 = y at hcell hxv
   have HY : Hid _ := hy
   have hTs : T ≤ 4096 := by omega
   have hdw := dig_word false xs m' T (by simpa using hT)
   have hdl := dig_lt false xs m' T (by simpa using hT)
   simp only [Bool.false_eq_true, if_false, hy] at hdw
   have hAND : bits BinOp.and IntKind.u64 ((y : Int) / 2 ^ (T % 64)) 1 = ((dig false xs T : Nat) : Int) := by
    have e : ((y : Int) / 2 ^ (T % 64)) = ((y / 2 ^ (T % 64) : Nat) : Int) := by simp
    have hlt : y / 2 ^ (T % 64) < 18446744073709551616 := Nat.lt_of_le_of_lt (Nat.div_le_self _ _) hxv
    rw [e, show (1 : Int) = ((1 : Nat) : Int) from rfl, bits_and_u64_nat _ _ hlt (by decide), hdw]
    rw [show (1 : Nat) = 2 ^ 1 - 1 from rfl, Nat.and_two_pow_sub_one_eq_mod]
   generalize hdd : dig false xs T = n at *
   have HDD : Hid _ := hdd
   clear hca hT ht hy hdw hdd
   go_wp2_with fail
   go_quiet (fail)
   go_wp2_with fail
   have Bq := below_drewN (Below.refl wr.heap.size wr) nq
   refine (wByte_any β β _ _ _ (hbd.next Bq) (by rw [List.length_append, wTo_len]; simp; have := HC.out; omega) (Nat.le_trans hβw Bq.size)).mono ?_
   rintro e w5 ⟨rfl, hbd5, hb5⟩
   rw [sig_at n hdl] at hbd5
   have bA5 : BlkX w5 w.heap.size (Value.int IntKind.i64 V) (Value.slice (some ⟨ba, oa, none⟩) xs.length c) 65 := by
    unfold BlkX
    rw [hb5.block _ hAβ]; exact bA.next Bq
   have B5 : Below w.heap.size w w5 := (B.trans (Bq.mono B.size)).trans (hb5.mono (Nat.le_of_lt hAβ))
   have hβ5 : β ≤ w5.heap.size := Nat.le_trans (Nat.le_trans hβw Bq.size) hb5.size
   have HBD : Hid _ := hbd5
   have HM : Hid (m' + 1 ≤ C) := hm
   clear hbd5 hb5 hbd
   go_wp2
   go_roundw
   case rel =>
    refine ⟨m', (T : Int) - 1, by omega, by first | rfl | go_num, by have := HT.out; omega, ?_, bA5, B5, hβ5⟩
    have e : C - m' = (C - (m' + 1)) + 1 := by omega
    have h := HBD.out
    rw [List.append_assoc] at h
    rw [e, wTo, show C - 1 - (C - (m' + 1)) = m' by omega]
    have e2 : m' * (if false = true then 4 else 1) = T := by have := HT.out; simp; omega
    rw [e2, HDD.out]
    exact h
   case measure => simp [intOf] <;> omega
theorem implWrite_any (W : Int) (a : Option Addr) (c : Nat) (xs : List Nat) (w : World) (hr : Rd w a xs) :
  Calls Tryz.prog 66 #[.agg #[.int .i64 W, .slice a xs.length c]] w fun e w' => e = .returned (.string (txt (writeR W xs))) ∧ Below w.heap.size w w' := by
 cases hok : rightB W xs with
 | true =>
  rw [writeR, if_pos hok]
  obtain ⟨hW1, hW2, _⟩ := right_W hok
  obtain ⟨V, rfl⟩ := Int.eq_ofNat_of_zero_le (show 0 ≤ W by omega)
  rw [Int.toNat_natCast]
  by_cases h4 : V % 4 = 0
  ·exact implWrite_x V a c xs w hr hok h4
  ·exact implWrite_b V a c xs w hr hok h4
 | false =>
  rw [writeR, if_neg (by simp [hok])]
  have B0 : Below w.heap.size w (w.alloc (Obj.cells #[.int IntKind.i64 W, .slice a xs.length c] 65)) := BaX (Below.refl _ _) _
  have hok0 := implOk_any W a c xs _ (hr.later B0)
  rw [hok] at hok0
  go_enter Tryz.func66, Tryz.ntmps66
  go_wp2_with fail
  refine hok0.mono ?_
  rintro e w1 ⟨rfl, hb1⟩
  have B1 := chain B0 hb1
  clear hok0
  go_wp2
  go_ret
  exact ⟨rfl, B1⟩

end Go.Proofs.YtnpjgoklpaigjaaGreatDoor
