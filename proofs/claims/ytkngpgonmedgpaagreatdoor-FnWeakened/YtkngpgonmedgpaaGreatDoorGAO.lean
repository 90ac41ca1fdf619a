/- Several texts in one. -/
import Derived.Test.YtkngpgonmedgpaaGreatDoorGAL
import Derived.Test.YtkngpgonmedgpaaGreatDoorGAK
import Derived.Test.YtkngpgonmedgpaaGreatDoorGAG
import Derived.Test.YtkngpgonmedgpaaGreatDoorGAE
import Derived.Deep.RegionHeld3
import Derived.Deep.RegionWith
namespace Go.Proofs.YtkngpgonmedgpaaGreatDoor
open Go.RowKit
set_option linter.unusedVariables false
set_option linter.unusedSimpArgs false
theorem bitsTo_pack (bs : List Nat) (hb : ∀ x ∈ bs, x ≤ 1) : bitsTo (pack bs) bs.length = bs := by
  refine List.ext_getElem? fun i => ?_
  by_cases h : i < bs.length
  · have hx := hb _ (List.getElem_mem h)
    have e : bs.getD i 0 = bs[i] := by simp [List.getD, h]
    simp only [bitsTo, List.getElem?_map, List.getElem?_range h, Option.map_some, tb_pack bs hb, e, List.getElem?_eq_getElem h]
    congr 1
    generalize bs[i] = x at *
    have : x = 0 ∨ x = 1 := by omega
    rcases this with rfl | rfl <;> rfl
  · rw [List.getElem?_eq_none (by rw [bitsTo_len]; omega), List.getElem?_eq_none (by omega)]
def turnL (L : List Nat) (r : Nat) : List Nat := L.drop (L.length - r) ++ L.take (L.length - r)
theorem turnL_len (L : List Nat) (r : Nat) : (turnL L r).length = L.length := by simp [turnL]
theorem turnL_mem (L : List Nat) (r x : Nat) (h : x ∈ turnL L r) : x ∈ L := by
  rcases List.mem_append.1 h with h | h
  · exact List.mem_of_mem_drop h
  · exact List.mem_of_mem_take h
def turnR (W : Int) (xs : List Nat) (n : Int) : Int × List Nat × Bool :=
  if rightB W xs = true ∧ 0 ≤ n ∧ n ≤ 4096 then (W, pack (turnL (bitsTo xs W.toNat) (n.toNat % W.toNat)), true) else noR
theorem part_low {V : Nat} {xs : List Nat} (hok : rightB V xs = true) (r : Nat) (h1 : r < V) : partR V xs ((V : Int) - 1 - r) 0 = (((V - r : Nat) : Int), pack ((bitsTo xs V).take (V - r)), true) := by
  rw [partR, if_pos ⟨hok, by omega, by omega, by omega⟩]
  rw [show (V : Int) - 1 - r - 0 + 1 = ((V - r : Nat) : Int) by omega, Int.toNat_natCast, Int.toNat_natCast]
  rfl
theorem part_high {V : Nat} {xs : List Nat} (hok : rightB V xs = true) (r : Nat) (h0 : 0 < r) (h1 : r < V) : partR V xs ((V : Int) - 1) ((V : Int) - r) = ((r : Int), pack ((bitsTo xs V).drop (V - r)), true) := by
  rw [partR, if_pos ⟨hok, by omega, by omega, by omega⟩]
  rw [show (V : Int) - 1 - ((V : Int) - r) + 1 = (r : Int) by omega, Int.toNat_natCast, Int.toNat_natCast, show ((V : Int) - r).toNat = V - r by omega]
  rw [List.take_of_length_le (by simp [bitsTo_len]; omega)]
theorem join_turn {V : Nat} {xs : List Nat} (hok : rightB V xs = true) (r : Nat) (h0 : 0 < r) (h1 : r < V) :
    joinR ((V - r : Nat) : Int) (pack ((bitsTo xs V).take (V - r))) (r : Int) (pack ((bitsTo xs V).drop (V - r))) = ((V : Int), pack (turnL (bitsTo xs V) r), true) := by
  have hV := right_W hok
  have hle := bitsTo_le xs V
  have hl := bitsTo_len xs V
  have ha : ∀ x ∈ (bitsTo xs V).take (V - r), x ≤ 1 := fun x hx => hle x (List.mem_of_mem_take hx)
  have hb : ∀ x ∈ (bitsTo xs V).drop (V - r), x ≤ 1 := fun x hx => hle x (List.mem_of_mem_drop hx)
  have hal : ((bitsTo xs V).take (V - r)).length = V - r := by rw [List.length_take, hl]; omega
  have hbl : ((bitsTo xs V).drop (V - r)).length = r := by rw [List.length_drop, hl]; omega
  have ra := pack_right _ ha (by omega) (by omega)
  have rb := pack_right _ hb (by omega) (by omega)
  rw [hal] at ra
  rw [hbl] at rb
  have ea := bitsTo_pack _ ha
  have eb := bitsTo_pack _ hb
  rw [hal] at ea
  rw [hbl] at eb
  rw [joinR, if_pos ⟨ra, rb⟩, joinL, Int.toNat_natCast, Int.toNat_natCast, ea, eb]
  have e : (bitsTo xs V).drop (V - r) ++ (bitsTo xs V).take (V - r) = turnL (bitsTo xs V) r := by unfold turnL; rw [hl]
  rw [e, fromR, turnL_len, hl, if_pos ⟨by omega, by omega⟩]
theorem part_all {V : Nat} {xs : List Nat} (hok : rightB V xs = true) (h1 : 1 ≤ V) : partR V xs ((V : Int) - 1) 0 = ((V : Int), pack (turnL (bitsTo xs V) 0), true) := by
  rw [partR, if_pos ⟨hok, by omega, by omega, by omega⟩]
  rw [show (V : Int) - 1 - 0 + 1 = (V : Int) by omega, Int.toNat_natCast]
  have hl := bitsTo_len xs V
  unfold turnL
  rw [hl, Nat.sub_zero, show List.drop V (bitsTo xs V) = [] from List.drop_of_length_le (by omega)]
  rfl
theorem wf_small (x : Int) (h0 : 0 ≤ x) (h1 : x ≤ 4096) : (Lit.int .i64 x).wf = true := by
  have a1 : IntKind.i64.min ≤ x := by have : IntKind.i64.min = -9223372036854775808 := by decide
                                      omega
  have a2 : x ≤ IntKind.i64.max := by have : IntKind.i64.max = 9223372036854775807 := by decide
                                      omega
  simp only [Lit.wf, a1, a2, decide_true, Bool.and_self]
set_option maxHeartbeats 2000000 in
set_option maxRecDepth 100000 in
theorem implTurn_any (W : Int) (a : Option Addr) (c : Nat) (xs : List Nat) (n : Int) (w : World) (hr : Rd w a xs) :
    Calls Tryz.prog 140 #[.agg #[.int .i64 W, .slice a xs.length c], .int .i64 n] w (RetB w (turnR W xs n)) := by
  have h2 : Below w.heap.size w ((w.alloc (Obj.cells #[.int IntKind.i64 W, .slice a xs.length c] 80)).alloc (Obj.cells #[.int IntKind.i64 0, .slice none 0 0] 80)) := Ba (Ba (Below.refl _ _) _) _
  have hr' := hr.later h2
  have bR0 := Blk.new1 w (Obj.cells #[.int IntKind.i64 W, .slice a xs.length c] 80) (Value.int IntKind.i64 0) (Value.slice none 0 0) 80
  have bA0 := (Blk.new w (Value.int IntKind.i64 W) (Value.slice a xs.length c) 80).alloc (Obj.cells #[.int IntKind.i64 0, .slice none 0 0] 80)
  have hOk : ∀ (u : World), Rd u a xs → Calls Tryz.prog 76 #[.agg #[.int .i64 W, .slice a xs.length c]] u fun e w' => e = .returned (.bool (rightB W xs)) ∧ Below u.heap.size u w' := fun u hu => implOk_any W a c xs u hu
  have HOK : Hid _ := hOk
  clear hOk
  by_cases hc : rightB W xs = true ∧ 0 ≤ n ∧ n ≤ 4096
  · rw [turnR, if_pos hc]
    obtain ⟨hok, hn1, hn2⟩ := hc
    rw [hok] at HOK
    obtain ⟨hW1, hW2, hWl⟩ := right_W hok
    obtain ⟨V, rfl⟩ := Int.eq_ofNat_of_zero_le (show 0 ≤ W by omega)
    obtain ⟨m, rfl⟩ := Int.eq_ofNat_of_zero_le hn1
    rw [Int.toNat_natCast, Int.toNat_natCast]
    have hV0 : ¬ (V : Int) = 0 := by omega
    have hrV : m % V < V := Nat.mod_lt _ (by omega)
    have hmod : (m : Int) % (V : Int) = ((m % V : Nat) : Int) := rfl
    generalize m % V = r at *
    have hP : ∀ (u : World) (hi lo : Int) (R : Int × List Nat × Bool), Rd u a xs → partR V xs hi lo = R → 0 ≤ hi → hi ≤ 4096 → Calls Tryz.prog 137 #[.agg #[.int .i64 V, .slice a xs.length c], .int .i64 hi, .int .i64 lo] u (RetB u R) := fun u hi lo R hu h g1 g2 => by
      rw [← h]; exact implPart_any V a c xs hi lo u hu (wf_small _ g1 g2)
    have HP : Hid _ := hP
    have H0 : Hid _ := part_all hok (by omega)
    have H1 : Hid _ := fun h0 : 0 < r => part_high hok r h0 hrV
    have H2 : Hid _ := part_low hok r hrV
    have H3 : Hid _ := fun h0 : 0 < r => join_turn hok r h0 hrV
    have hlb := bitsTo_len xs V
    have hle := bitsTo_le xs V
    generalize bitsTo xs V = bs at *
    have HLB : Hid (bs.length = V) := hlb
    clear hWl hP hlb
    by_cases hr0 : r = 0
    · subst hr0
      simp only [Int.natCast_zero] at hmod
      clear H1 H2 H3
      go_enter Tryz.func140, Tryz.ntmps140
      go_wp2_with fail
      refine (HOK.out _ hr').mono ?_
      rintro e w1 ⟨rfl, hb1⟩
      have B1 := chain h2 hb1
      have bA1 := bA0.next hb1
      have bR1 := bR0.next hb1
      obtain ⟨c0, c1⟩ := bA1.cells
      clear hb1 bA0 bR0 hr' h2 HOK
      go_wp2_with fail
      refine (HP.out _ _ _ _ (hr.later B1) H0.out (by omega) (by omega)).mono ?_
      rintro e w5 ⟨a5, c5, rfl, hfr, hb5⟩
      have B5 := chain B1 hb5
      have bR5 := bR1.next hb5
      have hz := bR1.lt
      obtain ⟨r0, r1⟩ := bR5.cells
      have f0 := bR5.free 0
      have f1 := bR5.free 1
      dsimp only at hfr ⊢
      clear HP H0
      generalize turnL bs 0 = T at *
      go_wp2
      exact bodyPost_ret (by simp [results, Tryz.results140, go_sem, r0, r1]; rfl) rfl (RetB.close (r := ((V : Int), pack T, true)) hfr (by omega) hz B5 rfl _ _)
    · have hr1 : 0 < r := by omega
      have hmz : ¬ (r : Int) = 0 := by omega
      have HA := H1.out hr1
      have HB := H3.out hr1
      have HA' : Hid _ := HA
      have HB' : Hid _ := HB
      have hpa : (bs.take (V - r)).length = V - r := by rw [List.length_take, HLB.out]; omega
      have hpb : (bs.drop (V - r)).length = r := by rw [List.length_drop, HLB.out]; omega
      have hla : (pack (bs.take (V - r))).length ≤ 1048576 := by rw [pack_len, hpa]; omega
      have hlb : (pack (bs.drop (V - r))).length ≤ 1048576 := by rw [pack_len, hpb]; omega
      have hxa := pack_lt (bs.take (V - r))
      have hxb := pack_lt (bs.drop (V - r))
      clear H0 H1 H3 HA HB hpa hpb HLB
      generalize pack (bs.take (V - r)) = pa at *
      generalize pack (bs.drop (V - r)) = pb at *
      generalize turnL bs r = T at *
      have hVr : ((V - r : Nat) : Int) = (V : Int) - r := by omega
      have HVr : Hid _ := hVr
      clear hVr
      go_enter Tryz.func140, Tryz.ntmps140
      go_wp2_with fail
      refine (HOK.out _ hr').mono ?_
      rintro e w1 ⟨rfl, hb1⟩
      have B1 := chain h2 hb1
      have bA1 := bA0.next hb1
      have bR1 := bR0.next hb1
      obtain ⟨c0, c1⟩ := bA1.cells
      clear hb1 bA0 bR0 hr' h2 HOK
      go_wp2_with fail
      refine (HP.out _ _ _ _ (hr.later B1) H2.out (by omega) (by omega)).mono ?_
      intro e w2 hret
      obtain ⟨as_, cs, rfl, fs2, hb2⟩ := hret.fr
      have B2 := chain B1 hb2
      have bA2 := bA1.next hb2
      have bR2 := bR1.next hb2
      dsimp only at fs2 ⊢
      have lA2 := bA2.lt
      clear hret hb2 B1 bA1 bR1 c0 c1 H2
      obtain ⟨c0, c1⟩ := bA2.cells
      go_wp2_with fail
      refine (HP.out _ _ _ _ (hr.later (Ba B2 _)) HA'.out (by omega) (by omega)).mono ?_
      intro e w3 hret
      obtain ⟨ao, co, rfl, fo3, hb3⟩ := hret.fr
      have B3 := chain (Ba B2 _) hb3
      have bR3 := (bR2.alloc _).next hb3
      have bS3 := (Blk.new w2 _ _ _).next hb3
      have fs3 := (fs2.alloc _).next hb3
      dsimp only at fo3 ⊢
      have lS3 := bS3.lt
      clear hret hb3 B2 bA2 bR2 c0 c1 fs2
      obtain ⟨c0, c1⟩ := bS3.cells
      go_wp2_with fail
      have hj := implJoin_any ((V - r : Nat) : Int) as_ cs pa (r : Int) ao co pb _ ((fs3.alloc (Obj.cells #[.int IntKind.i64 r, .slice ao pb.length co] 80)).rd hla hxa) ((fo3.alloc (Obj.cells #[.int IntKind.i64 r, .slice ao pb.length co] 80)).rd hlb hxb)
      rw [HB'.out] at hj
      refine hj.mono ?_
      rintro e w5 ⟨a5, c5, rfl, hfr, hb5⟩
      have B5 := chain (Ba B3 _) hb5
      have bR5 := (bR3.alloc _).next hb5
      have hz := (bR3.alloc (Obj.cells #[.int IntKind.i64 r, .slice ao pb.length co] 80)).lt
      obtain ⟨r0, r1⟩ := bR5.cells
      have f0 := bR5.free 0
      have f1 := bR5.free 1
      dsimp only at hfr ⊢
      clear HP HA' HB' hj
      go_wp2
      exact bodyPost_ret (by simp [results, Tryz.results140, go_sem, r0, r1]; rfl) rfl (RetB.close (r := ((V : Int), pack T, true)) hfr (by omega) hz B5 rfl _ _)
  · rw [turnR, if_neg hc]
    have hcase : rightB W xs = false ∨ (rightB W xs = true ∧ (n < 0 ∨ 4096 < n)) := by
      cases hb : rightB W xs with
      | false => exact .inl rfl
      | true => right; refine ⟨rfl, ?_⟩; simp [hb] at hc; omega
    clear hc
    rcases hcase with h | ⟨h, h1⟩
    · rw [h] at HOK
      go_enter Tryz.func140, Tryz.ntmps140
      go_wp2_with fail
      refine (HOK.out _ hr').mono ?_
      rintro e w1 ⟨rfl, hb1⟩
      have B1 := chain h2 hb1
      have bR1 := bR0.next hb1
      obtain ⟨r0, r1⟩ := bR1.cells
      have f0 := bR1.free 0
      have f1 := bR1.free 1
      go_wp2
      exact bodyPost_ret (v := .tuple #[.agg #[.int .i64 0, .slice none 0 0], .bool false]) (by simp [results, Tryz.results140, go_sem, r0, r1]) rfl (RetB.no ((B1.setCell (by simp) _).setCell (by simp) _))
    · rw [h] at HOK
      rcases h1 with h1 | h1
      · go_enter Tryz.func140, Tryz.ntmps140
        go_wp2_with fail
        refine (HOK.out _ hr').mono ?_
        rintro e w1 ⟨rfl, hb1⟩
        have B1 := chain h2 hb1
        have bR1 := bR0.next hb1
        obtain ⟨r0, r1⟩ := bR1.cells
        have f0 := bR1.free 0
        have f1 := bR1.free 1
        go_wp2
        exact bodyPost_ret (v := .tuple #[.agg #[.int .i64 0, .slice none 0 0], .bool false]) (by simp [results, Tryz.results140, go_sem, r0, r1]) rfl (RetB.no ((B1.setCell (by simp) _).setCell (by simp) _))
      · have h2' : ¬ n < 0 := by omega
        go_enter Tryz.func140, Tryz.ntmps140
        go_wp2_with fail
        refine (HOK.out _ hr').mono ?_
        rintro e w1 ⟨rfl, hb1⟩
        have B1 := chain h2 hb1
        have bR1 := bR0.next hb1
        obtain ⟨r0, r1⟩ := bR1.cells
        have f0 := bR1.free 0
        have f1 := bR1.free 1
        go_wp2
        exact bodyPost_ret (v := .tuple #[.agg #[.int .i64 0, .slice none 0 0], .bool false]) (by simp [results, Tryz.results140, go_sem, r0, r1]) rfl (RetB.no ((B1.setCell (by simp) _).setCell (by simp) _))

theorem andOne64 (y k : Nat) (h : y < 18446744073709551616) : bits BinOp.and IntKind.u64 ((y : Int) / 2 ^ k) 1 = ((y / 2 ^ k % 2 : Nat) : Int) := by
  have e : ((y : Int) / 2 ^ k) = ((y / 2 ^ k : Nat) : Int) := by simp
  have hlt : y / 2 ^ k < 18446744073709551616 := Nat.lt_of_le_of_lt (Nat.div_le_self _ _) h
  rw [e, and_one_u64 _ (Int.natCast_nonneg _) (by omega)]
  omega
theorem bitAt_any (W : Int) (U : Nat) (a : Option Addr) (c : Nat) (xs : List Nat) (w : World) (hr : Rd w a xs) (hU : U < 64 * xs.length) :
    Calls Tryz.prog 153 #[.agg #[.int .i64 W, .slice a xs.length c], .int .i64 (U : Int)] w fun e w' => e = .returned (.int .u64 (((tb xs U).toNat : Nat) : Int)) ∧ Below w.heap.size w w' := by
  obtain ⟨hl, hx, h | ⟨b, o, rfl, hc⟩⟩ := hr
  · subst h; simp at hU
  have hcell := hc (U / 64) (by omega)
  have hb : b < w.heap.size := block_lt_of_cell hcell
  have htb := tb_div xs U
  have hlt := getD_lt hx (U / 64)
  generalize hy : xs.getD (U / 64) 0 = y at hcell htb hlt
  generalize (tb xs U).toNat = t at htb ⊢
  have Hb : Hid (bits BinOp.and IntKind.u64 ((y : Int) / 2 ^ (U % 64)) 1 = (t : Int)) := by rw [andOne64 y _ hlt, htb]; rfl
  have hlx : U / 64 < xs.length := by omega
  have hlxi : (U : Int) / 64 < (xs.length : Int) := by omega
  clear hc hx hy hlt htb
  go_enter Tryz.func153, Tryz.ntmps153
  go_wp2
  go_ret
  exact ⟨by simp [Hb.out], (Below.refl _ _).alloc (Nat.le_refl _) _⟩
theorem topBit_any (U : Nat) (a : Option Addr) (c : Nat) (xs : List Nat) (w : World) (hr : Rd w a xs) (hU : U < 64 * xs.length) :
    Calls Tryz.prog 150 #[.agg #[.int .i64 ((U + 1 : Nat) : Int), .slice a xs.length c]] w fun e w' => e = .returned (.int .u64 (((tb xs U).toNat : Nat) : Int)) ∧ Below w.heap.size w w' := by
  obtain ⟨W, hW⟩ : ∃ W : Int, ((U + 1 : Nat) : Int) = W := ⟨_, rfl⟩
  have hl := hr.1
  have h2 : Below w.heap.size w (w.alloc (Obj.cells #[.int .i64 W, .slice a xs.length c] 80)) := (Below.refl _ _).alloc (Nat.le_refl _) _
  have HB : Hid (∀ u, Below w.heap.size w u → Calls Tryz.prog 153 #[.agg #[.int .i64 W, .slice a xs.length c], .int .i64 (U : Int)] u fun e w' => e = .returned (.int .u64 (((tb xs U).toNat : Nat) : Int)) ∧ Below u.heap.size u w') := fun u hu => bitAt_any W U a c xs u (hr.later hu) hU
  have hW1 : W - 1 = (U : Int) := by omega
  have hWw : IntKind.i64.wrap (U : Int) = (U : Int) := by rw [IntKind.wrap_i64]; omega
  have H2 : Hid (Below w.heap.size w (w.alloc (Obj.cells #[.int .i64 W, .slice a xs.length c] 80))) := h2
  rw [hW]
  generalize (tb xs U).toNat = t at HB ⊢
  clear hr h2 hW
  go_enter Tryz.func150, Tryz.ntmps150
  go_wp2_with fail
  first
    | (refine Calls.mono (HB.out _ H2.out) ?_
       rintro e w1 ⟨rfl, hb1⟩
       have B1 : Hid (Below w.heap.size w w1) := H2.out.trans (hb1.mono H2.out.size)
       clear hb1
       go_wp2_with fail
       go_ret
       exact ⟨rfl, B1.out⟩)
    | (go_region_held3 (fun u => u.cell? ⟨w.heap.size, 0, none⟩ = some (Value.int .i64 W) ∧ u.cell? ⟨w.heap.size, 1, none⟩ = some (Value.slice a xs.length c)) (simp [*])
         ((go_at_call 153; refine Calls.mono (HB.out _ H2.out.drew) ?_; rintro e w1 ⟨rfl, hb1⟩; have k0 := hb1.cell (p := ⟨w.heap.size, 0, none⟩) (by simp); have k1 := hb1.cell (p := ⟨w.heap.size, 1, none⟩) (by simp); simp at k0 k1))
       have B1 : Hid (Below w.heap.size w w1) := H2.out.drew.trans (hb1.mono H2.out.drew.size)
       clear hb1
       go_wp2_with fail
       go_ret
       exact ⟨rfl, B1.out⟩)
def onesTo (N k : Nat) : List Nat := List.replicate k 18446744073709551615 ++ List.replicate (N - k) 0
theorem onesTo_len (N k : Nat) (h : k ≤ N) : (onesTo N k).length = N := by simp [onesTo]; omega
theorem onesTo_set (N k : Nat) (h : k < N) : (onesTo N k).set k 18446744073709551615 = onesTo N (k + 1) := by
  unfold onesTo
  rw [List.set_append_right _ _ (by simp)]
  simp only [List.length_replicate, Nat.sub_self]
  obtain ⟨m, hm⟩ : ∃ m, N - k = m + 1 := ⟨N - k - 1, by omega⟩
  rw [hm, List.replicate_succ, List.set_cons_zero, show N - (k + 1) = m by omega, List.replicate_succ', List.append_assoc]
  rfl
def onesRow (n : Nat) : List Nat := clr n (List.replicate ((n + 63) / 64) 18446744073709551615)
theorem onesRow_len (n : Nat) : (onesRow n).length = (n + 63) / 64 := by simp [onesRow, clr_len]
theorem onesRow_lt (n : Nat) : ∀ x ∈ onesRow n, x < 18446744073709551616 := clr_lt _ _ (fun x h => by have := List.eq_of_mem_replicate h; omega)
theorem tb_ones (n : Nat) (h1 : 1 ≤ n) (i : Nat) (hi : i < 64 * ((n + 63) / 64)) : tb (onesRow n) i = decide (i < n) := by
  unfold onesRow
  rw [tb_clr _ _ (by simp; omega) (by simp; omega) (by simp; omega) i (by simpa using hi)]
  have : tb (List.replicate ((n + 63) / 64) 18446744073709551615) i = true := by
    unfold tb
    have e : (List.replicate ((n + 63) / 64) 18446744073709551615).getD (i / 64) 0 = 18446744073709551615 := by
      simp [List.getD, List.getElem?_replicate, show i / 64 < (n + 63) / 64 by omega]
    rw [e, show (18446744073709551615 : Nat) = 2 ^ 64 - 1 by decide, Nat.testBit_two_pow_sub_one]
    simp; omega
  rw [this]; simp
theorem onesRow_right (n : Nat) (h1 : 1 ≤ n) (h2 : n ≤ 4096) : rightB n (onesRow n) = true := by
  rw [rightB_clear (by simp [wOk]; omega) (by rw [onesRow_len]; omega), clear_iff]
  intro i hi hl
  rw [onesRow_len] at hl
  rw [tb_ones n h1 i hl]
  simp; omega
set_option maxHeartbeats 1000000 in
set_option maxRecDepth 100000 in
theorem onesOf_any (n : Nat) (w : World) (h1 : 1 ≤ n) (h2 : n ≤ 4096) :
    Calls Tryz.prog 151 #[.int .i64 n] w fun e w' => ∃ g, e = .returned (.agg #[.int .i64 n, .slice (some ⟨g, 0, none⟩) ((n + 63) / 64) ((n + 63) / 64)]) ∧ w.heap.size ≤ g ∧ Own w' g (onesRow n) ∧ Below w.heap.size w w' := by
  go_enter Tryz.func151, Tryz.ntmps151
  go_wp2_with fail
  refine (zeroBits_any n _ h1 h2).mono ?_
  rintro e w2 ⟨g, rfl, hg, hown, hb2⟩
  have B2 := chain (Ba (Below.refl _ w) _) hb2
  have bR2 := (Blk.new w _ _ _).next hb2
  rw [World.size_alloc] at hg
  generalize hN : (n + 63) / 64 = N at *
  have HN : Hid ((n + 63) / 64 = N) := hN
  have hN64 : N ≤ 64 := by omega
  clear hN hb2
  have hgl := hown.lt
  go_wp2_with fail
  have bO3 := Blk.new w2 (Value.int IntKind.i64 n) (Value.slice (some ⟨g, 0, none⟩) N N) 80
  have bR3 := bR2.alloc (Obj.cells #[.int IntKind.i64 n, .slice (some ⟨g, 0, none⟩) N N] 80)
  have B3 := Ba B2 (Obj.cells #[.int IntKind.i64 n, .slice (some ⟨g, 0, none⟩) N N] 80)
  have ho3 := hown.alloc (Obj.cells #[.int IntKind.i64 n, .slice (some ⟨g, 0, none⟩) N N] 80)
  generalize w2.alloc (Obj.cells #[.int IntKind.i64 n, .slice (some ⟨g, 0, none⟩) N N] 80) = w3 at *
  go_loopw [10] (fun i wr => ∃ k : Nat, k ≤ N ∧ i = .int .i64 k ∧ Own wr g (onesTo N k) ∧ Blk wr w2.heap.size (Value.int IntKind.i64 n) (Value.slice (some ⟨g, 0, none⟩) N N) 80 ∧ Blk wr w.heap.size (Value.int IntKind.i64 0) (Value.slice none 0 0) 80 ∧ Below w.heap.size w wr) (fun i _ => N - (intOf i).toNat)
  case atStart => exact ⟨0, Nat.zero_le _, rfl, by simpa [onesTo] using ho3, bO3, bR3, B3⟩
  case round =>
    obtain ⟨k, hk, rfl, hownk, bO, bR, B⟩ := hrel
    obtain ⟨d0, d1⟩ := bO.cells
    by_cases hlt : k < N
    · have hcg := hownk.cell (i := k) (by rw [onesTo_len _ _ hk]; exact hlt)
      have hfg := hownk.free k
      have HP : Hid _ := hownk.put k 18446744073709551615
      have HT : Hid _ := onesTo_set N k hlt
      have hne1 : w2.heap.size ≠ g := by omega
      have hne2 : w.heap.size ≠ g := by omega
      have bO4 : Blk (wr.setCell ⟨g, k, none⟩ (.int .u64 ((18446744073709551615 : Nat) : Int))) w2.heap.size (Value.int IntKind.i64 n) (Value.slice (some ⟨g, 0, none⟩) N N) 80 := by
        unfold Blk; rw [heap_setCell_other _ _ _ _ (by simpa using hne1)]; exact bO
      have bR4 : Blk (wr.setCell ⟨g, k, none⟩ (.int .u64 ((18446744073709551615 : Nat) : Int))) w.heap.size (Value.int IntKind.i64 0) (Value.slice none 0 0) 80 := by
        unfold Blk; rw [heap_setCell_other _ _ _ _ (by simpa using hne2)]; exact bR
      generalize (onesTo N k).getD k 0 = z at hcg
      clear hownk
      go_wp2
      go_roundw
      case rel =>
        have h := HP.out
        rw [HT.out] at h
        exact ⟨k + 1, by omega, by go_num, h, bO4, bR4, B.setCell (by simp; omega) _⟩
      case measure => simp [intOf]; omega
    · have e : k = N := by omega
      subst e
      go_wp2_with fail
      obtain ⟨m, hm⟩ : ∃ m, k = m + 1 := ⟨k - 1, by have := HN.out; omega⟩
      have hlk : (onesTo k k).length = m + 1 := by rw [onesTo_len _ _ (Nat.le_refl _)]; exact hm
      have hNn := HN.out
      have hcl := clearAbove_any n g k m _ wr hownk hlk (by omega) (fun x hx => by simp [onesTo] at hx; omega) (by omega) (by omega)
      rw [← hm] at hcl
      refine hcl.mono ?_
      rintro e w4 ⟨rfl, hown4, hgr4⟩
      have f4 := hownk.fr (Nat.le_refl g)
      have m4 : Marked wr w4 (some ⟨g, 0, none⟩) := hgr4
      have bO4 := bO.mark f4 m4 (by decide)
      have bR4 := bR.mark f4 m4 (by decide)
      have B4 := m4.below f4 B (by omega)
      have HE : Hid (Own w4 g (onesRow n)) := by
        show Own _ _ _
        rw [show onesRow n = clr n (List.replicate k 18446744073709551615) by unfold onesRow; rw [hNn]]
        have h := hown4
        rw [show onesTo k k = List.replicate k 18446744073709551615 by simp [onesTo]] at h
        exact h
      obtain ⟨e0, e1⟩ := bO4.cells
      obtain ⟨r0, r1⟩ := bR4.cells
      have f0 := bR4.free 0
      have f1 := bR4.free 1
      clear hcl hownk bO bR B d0 d1 f4 m4 hgr4 bO3 bR3 B3 ho3 hm hlk hNn
      go_wp2
      refine bodyPost_ret (v := .agg #[.int .i64 n, .slice (some ⟨g, 0, none⟩) k k]) (by simp [results, Tryz.results151, go_sem, r0, r1]) rfl ⟨g, by rw [HN.out], by omega, ?_, (B4.setCell (Nat.le_refl _) _).setCell (Nat.le_refl _) _⟩
      exact (HE.out.other (a := ⟨w.heap.size, 0, none⟩) (by simp; omega) _).other (a := ⟨w.heap.size, 1, none⟩) (by simp; omega) _
theorem wid_pack {V : Nat} {xs : List Nat} (hok : rightB V xs = true) (hx : ∀ x ∈ xs, x < 18446744073709551616) (m t : Nat) (ht : t ≤ 1) (ys : List Nat) (hl : ys.length = (V + m + 63) / 64) (hy : ∀ x ∈ ys, x < 18446744073709551616)
    (h : ∀ j, j < 64 * ys.length → tb ys j = (tb xs j || (decide (V ≤ j) && decide (j < V + m) && decide (t = 1)))) : ys = pack (bitsTo xs V ++ List.replicate m t) := by
  refine eq_pack (fun x hxm => ?_) (by simp [hl, bitsTo_len]) hy fun i hi => ?_
  · rcases List.mem_append.1 hxm with h | h
    · exact bitsTo_le xs V x h
    · have := List.eq_of_mem_replicate h; omega
  · rw [h i hi]
    by_cases h1 : i < V
    · have e : (bitsTo xs V ++ List.replicate m t).getD i 0 = (tb xs i).toNat := by
        simp only [List.getD]
        rw [List.getElem?_append_left (by rw [bitsTo_len]; exact h1)]
        simp [bitsTo, h1]
      rw [e]
      simp [show ¬ V ≤ i by omega]
    · rw [tb_out hok i (by omega)]
      by_cases h2 : i < V + m
      · have e : (bitsTo xs V ++ List.replicate m t).getD i 0 = t := by
          simp only [List.getD]
          rw [List.getElem?_append_right (by rw [bitsTo_len]; omega), bitsTo_len]
          simp [List.getElem?_replicate, show i - V < m by omega]
        rw [e]
        simp [h2, show V ≤ i by omega]
      · have e : (bitsTo xs V ++ List.replicate m t).getD i 0 = 0 := by
          simp only [List.getD]
          rw [List.getElem?_eq_none (by simp [bitsTo_len]; omega)]
          rfl
        rw [e]
        simp [h2]
set_option maxHeartbeats 2000000 in
set_option maxRecDepth 100000 in
theorem implWid_any (W : Int) (a : Option Addr) (c : Nat) (xs : List Nat) (n : Int) (sign : Bool) (w : World) (hr : Rd w a xs) :
    Calls Tryz.prog 139 #[.agg #[.int .i64 W, .slice a xs.length c], .int .i64 n, .bool sign] w (RetB w (wdnR W xs n sign)) := by
  have h2 : Below w.heap.size w ((w.alloc (Obj.cells #[.int IntKind.i64 W, .slice a xs.length c] 80)).alloc (Obj.cells #[.int IntKind.i64 0, .slice none 0 0] 80)) := ((Below.refl _ _).alloc (Nat.le_refl _) _).alloc (by simp) _
  have hr' := hr.later h2
  by_cases hc : rightB W xs = true ∧ 0 ≤ n ∧ n ≤ 4096 ∧ W + n ≤ 4096
  · rw [wdnR, if_pos hc]
    generalize hR : (W + n, pack (bitsTo xs W.toNat ++ List.replicate n.toNat (topOf W.toNat xs sign)), true) = R
    have HR : Hid ((W + n, pack (bitsTo xs W.toNat ++ List.replicate n.toNat (topOf W.toNat xs sign)), true) = R) := hR
    clear hR
    obtain ⟨hok, hn1, hn2, hWn⟩ := hc
    obtain ⟨hW1, hW2, hWl⟩ := right_W hok
    obtain ⟨V, rfl⟩ := Int.eq_ofNat_of_zero_le (show 0 ≤ W by omega)
    obtain ⟨m, rfl⟩ := Int.eq_ofNat_of_zero_le hn1
    have hxx := hr.2.1
    have hab := hr.lt (by omega)
    have hVl : V ≤ 64 * xs.length := by omega
    have hl64 : xs.length ≤ 64 := by omega
    have bA0 := (Blk.new w (Value.int IntKind.i64 V) (Value.slice a xs.length c) 80).alloc (Obj.cells #[.int IntKind.i64 0, .slice none 0 0] 80)
    have bR0 := Blk.new1 w (Obj.cells #[.int IntKind.i64 V, .slice a xs.length c] 80) (Value.int IntKind.i64 0) (Value.slice none 0 0) 80
    have HWl : Hid ((xs.length : Int) = ((V : Int) + 63) / 64) := hWl
    clear hWl
    go_enter Tryz.func139, Tryz.ntmps139
    go_wp2_with fail
    refine (implOk_any _ _ _ _ _ hr').mono ?_
    rintro e w1 ⟨rfl, hb1⟩
    have B1 := h2.trans (hb1.mono (by simp; omega))
    have bA1 := bA0.next hb1
    have bR1 := bR0.next hb1
    obtain ⟨c0, c1⟩ := bA1.cells
    clear hb1 bA0 bR0 hr' h2
    go_wp2_with fail
    rw [← Int.natCast_add]
    generalize hq : V + m = q at *
    refine (zeroBits_any q _ (by omega) (by omega)).mono ?_
    rintro e w2 ⟨g, rfl, hg, hown, hb2⟩
    generalize hN : (q + 63) / 64 = N at *
    have B2 := chain B1 hb2
    have bA2 := bA1.next hb2
    have bR2 := bR1.next hb2
    have HN : Hid ((q + 63) / 64 = N) := hN
    have Hq : Hid (V + m = q) := hq
    have hN64 : N ≤ 64 := by omega
    have hgr := bR1.lt
    have hgl := hown.lt
    clear hN hq hb2 B1 bA1 bR1 c0 c1
    obtain ⟨c0, c1⟩ := bA2.cells
    have hlA := bA2.lt
    go_wp2_with fail
    have hfit : V ≤ 64 * N := by have := HN.out; have := Hq.out; omega
    have hput := putBits_any (q : Int) (V : Int) g N c 0 a (List.replicate N 0) xs _ (hown.alloc (Obj.cells #[.int IntKind.i64 q, .slice (some ⟨g, 0, none⟩) N N] 80)) (hr.later (Ba B2 _)) (fun x hx => by have := List.eq_of_mem_replicate hx; omega) (by omega) (by simp; omega) hl64 (by rw [List.length_replicate]; exact put_fit hok hxx 0 N (by omega)) (fun x hx => by have := hab x hx; omega)
    rw [List.length_replicate] at hput
    refine hput.mono ?_
    rintro e w4 ⟨rfl, hown4, hgr4⟩
    have bO3 := Blk.new w2 (Value.int IntKind.i64 q) (Value.slice (some ⟨g, 0, none⟩) N N) 80
    have bA3 := bA2.alloc (Obj.cells #[.int IntKind.i64 q, .slice (some ⟨g, 0, none⟩) N N] 80)
    have bR3 := bR2.alloc (Obj.cells #[.int IntKind.i64 q, .slice (some ⟨g, 0, none⟩) N N] 80)
    have B3 := Ba B2 (Obj.cells #[.int IntKind.i64 q, .slice (some ⟨g, 0, none⟩) N N] 80)
    have ho3 := hown.alloc (Obj.cells #[.int IntKind.i64 q, .slice (some ⟨g, 0, none⟩) N N] 80)
    have f3 := ho3.fr (Nat.le_refl g)
    have m4 : Marked _ w4 (some ⟨g, 0, none⟩) := hgr4
    have bO4 := bO3.mark f3 m4 (by decide)
    have bA4 := bA3.mark f3 m4 (by decide)
    have bR4 := bR3.mark f3 m4 (by decide)
    have B4 := m4.below f3 B3 (by omega)
    have s4 := m4.size
    rw [World.size_alloc] at s4
    have hlen4 : (putTo (List.replicate N 0) xs (0 / 64) (0 % 64) xs.length).length = N := by rw [putTo_len, List.length_replicate]
    have hlt4 := putTo_lt (List.replicate N 0) xs (0 / 64) (0 % 64) xs.length (fun x hx => by have := List.eq_of_mem_replicate hx; omega) hxx
    have htb4 : ∀ j, tb (putTo (List.replicate N 0) xs (0 / 64) (0 % 64) xs.length) j = tb xs j := fun j => by
      rw [tb_put_right hok hxx _ 0 (by simp; omega), tb_zero]; simp
    generalize putTo (List.replicate N 0) xs (0 / 64) (0 % 64) xs.length = y4 at *
    clear hput bO3 bA3 bR3 B3 ho3 f3 m4 hgr4 B2 bA2 bR2 hown c0 c1
    obtain ⟨c0, c1⟩ := bA4.cells
    obtain ⟨d0, d1⟩ := bO4.cells
    have htop : ∀ u : World, Rd u a xs → Calls Tryz.prog 150 #[.agg #[.int .i64 V, .slice a xs.length c]] u fun e w' => e = .returned (.int .u64 (((tb xs (V - 1)).toNat : Nat) : Int)) ∧ Below u.heap.size u w' := fun u hu => by
      have := topBit_any (V - 1) a c xs u hu (by omega)
      rwa [show V - 1 + 1 = V by omega] at this
    have HTOP : Hid _ := htop
    have r4 := hr.later B4
    clear htop
    by_cases hone : sign = true ∧ 0 < m ∧ tb xs (V - 1) = true
    · obtain ⟨rfl, hm0, ht1⟩ := hone
      have hm0i : (0 : Int) < (m : Int) := by omega
      go_wp2_with (go_at_call 150; refine (HTOP.out _ r4).mono ?_; rintro e w5 ⟨rfl, hb5⟩; have bA5 := bA4.next hb5; have bO5 := bO4.next hb5; obtain ⟨c0, c1⟩ := bA5.cells; obtain ⟨d0, d1⟩ := bO5.cells)
      have B5 := chain B4 hb5
      have bR5 := bR4.next hb5
      have hown5 := hown4.later hb5 hown4.lt
      have s5 := hb5.size
      have hfit2 : V + m ≤ 64 * N := by have := HN.out; have := Hq.out; omega
      have hputO : ∀ (u : World) (go : Nat), Own u g y4 → Own u go (onesRow m) → go ≠ g → Calls Tryz.prog 136 #[.agg #[.int .i64 q, .slice (some ⟨g, 0, none⟩) N N], .agg #[.int .i64 m, .slice (some ⟨go, 0, none⟩) ((m + 63) / 64) ((m + 63) / 64)], .int .i64 V] u fun e w' => e = .returned (.tuple #[]) ∧ Own w' g (putTo y4 (onesRow m) (V / 64) (V % 64) ((m + 63) / 64)) ∧ u.grownBy w' (some g) := fun u go k1 k2 k3 => by
        have := putBits_any (q : Int) (m : Int) g N ((m + 63) / 64) V (some ⟨go, 0, none⟩) y4 (onesRow m) u k1 (k2.rd (by rw [onesRow_len]; omega) (onesRow_lt m)) hlt4 (by omega) (by rw [hlen4]; exact hN64) (by rw [onesRow_len]; omega) (by rw [hlen4]; exact put_fit (onesRow_right m hm0 (by omega)) (onesRow_lt m) V N hfit2) (fun x hx => by simp at hx; subst hx; exact k3)
        rw [hlen4, onesRow_len] at this
        exact this
      have HPO : Hid _ := hputO
      clear hputO
      go_region_held3 (fun u => u.cell? ⟨w.heap.size, 0, none⟩ = some (Value.int IntKind.i64 V) ∧ u.cell? ⟨w2.heap.size, 0, none⟩ = some (Value.int IntKind.i64 q) ∧ u.cell? ⟨w2.heap.size, 1, none⟩ = some (Value.slice (some ⟨g, 0, none⟩) N N)) (simp [*])
        (first | (go_at_call 151; refine (onesOf_any m _ (by omega) (by omega)).mono ?_; rintro e w6 ⟨go, rfl, hgo, hoo, hb6⟩; replace hb6 := undrew hb6; have bA6 := Blk.next (w := w5) bA5 hb6; have bO6 := Blk.next (w := w5) bO5 hb6; have hown6 := Own.later (w := w5) hown5 hb6 hown5.lt; obtain ⟨k0, k1⟩ := bA6.cells; obtain ⟨m0, m1⟩ := bO6.cells) | (go_at_call 136; refine (HPO.out w6 go hown6 hoo (by have h9 : w5.heap.size ≤ go := hgo; have := hown5.lt; omega)).mono ?_; rintro e w7 ⟨rfl, hown7, hgr7⟩; have f6 := hown6.fr (Nat.le_refl g); have m7 : Marked w6 w7 (some ⟨g, 0, none⟩) := hgr7; have bA7 := bA6.mark f6 m7 (by decide); have bO7 := bO6.mark f6 m7 (by decide); obtain ⟨k0, k1⟩ := bA7.cells; obtain ⟨m0, m1⟩ := bO7.cells))
      have bR7 := (bR5.next hb6).mark f6 m7 (by decide)
      have B7 := m7.below f6 (chain B5 hb6) (by omega)
      have hlen7 : (putTo y4 (onesRow m) (V / 64) (V % 64) ((m + 63) / 64)).length = N := by rw [putTo_len, hlen4]
      have HQ : Hid (((q : Int), putTo y4 (onesRow m) (V / 64) (V % 64) ((m + 63) / 64), true) = R) := by
        show _ = _
        rw [← HR.out, Int.toNat_natCast, Int.toNat_natCast, ← Hq.out, Int.natCast_add]
        congr 2
        have htt : topOf V xs true = 1 := by unfold topOf; rw [ht1]; rfl
        rw [htt]
        refine wid_pack hok hxx m 1 (Nat.le_refl _) _ (by rw [hlen7, ← HN.out, Hq.out]) (putTo_lt _ _ _ _ _ hlt4 (onesRow_lt m)) fun j hj => ?_
        have hor := onesRow_right m hm0 (by omega)
        rw [← onesRow_len m, tb_put_right hor (onesRow_lt m) y4 V (by rw [hlen4]; exact hfit2), htb4 j]
        by_cases h5 : V ≤ j
        · by_cases h6 : j - V < m
          · rw [tb_ones m hm0 (j - V) (by omega)]
            simp [h5, h6, show j < V + m by omega]
          · rw [tb_out hor (j - V) (by omega)]
            simp [show ¬ j < V + m by omega]
        · simp [h5]
      generalize putTo y4 (onesRow m) (V / 64) (V % 64) ((m + 63) / 64) = y7 at *
      clear HTOP HPO HR hlt4 htb4 hlen4 bA5 bO5 bR5 bA6 bO6 f6 m7 hgr7 hown5 hown6 hoo c0 c1 d0 d1
      obtain ⟨r0, r1⟩ := bR7.cells
      have fr0 := bR7.free 0
      have fr1 := bR7.free 1
      clear bO7 bA7 bR7
      go_wp2
      have hm := RetB.made (w := w) (r := ((q : Int), y7, true)) (c := N) hown7 (by omega) (β := w.heap.size + 1) (by omega) (by omega) B7 HQ.out (Value.int IntKind.i64 q) (Value.slice (some ⟨g, 0, none⟩) N N)
      dsimp only at hm
      rw [hlen7] at hm
      exact bodyPost_ret (by simp [results, Tryz.results139, go_sem, r0, r1]) rfl hm
    · have HQ : Hid (((q : Int), y4, true) = R) := by
        show _ = _
        rw [← HR.out, Int.toNat_natCast, Int.toNat_natCast, ← Hq.out, Int.natCast_add]
        congr 2
        refine wid_pack hok hxx m _ (topOf_le V xs sign) y4 (by rw [hlen4, ← HN.out, Hq.out]) hlt4 fun j hj => ?_
        rw [htb4 j]
        have : (decide (V ≤ j) && decide (j < V + m) && decide (topOf V xs sign = 1)) = false := by
          by_cases h1 : V ≤ j ∧ j < V + m
          · have h3 : topOf V xs sign = 0 := by
              unfold topOf
              cases sign with
              | false => rfl
              | true =>
                cases ht : tb xs (V - 1) with
                | false => simp
                | true => exact absurd ⟨rfl, by omega, ht⟩ hone
            simp [h3]
          · simp; omega
        rw [this]; simp
      have hcase : sign = false ∨ (sign = true ∧ m = 0) ∨ (sign = true ∧ 0 < m ∧ tb xs (V - 1) = false) := by
        cases sign with
        | false => exact .inl rfl
        | true =>
          rcases Nat.eq_zero_or_pos m with h | h
          · exact .inr (.inl ⟨rfl, h⟩)
          · cases ht : tb xs (V - 1) with
            | false => exact .inr (.inr ⟨rfl, h, rfl⟩)
            | true => exact absurd ⟨rfl, h, ht⟩ hone
      clear hone HR hlt4 htb4
      rcases hcase with rfl | ⟨rfl, rfl⟩ | ⟨rfl, hm0, ht0⟩
      · clear HTOP
        obtain ⟨r0, r1⟩ := bR4.cells
        have fr0 := bR4.free 0
        have fr1 := bR4.free 1
        clear bO4 bA4 bR4
        go_wp2
        have hm := RetB.made (w := w) (r := ((q : Int), y4, true)) (c := N) hown4 (by omega) (β := w.heap.size + 1) (by omega) (by omega) B4 HQ.out (Value.int IntKind.i64 q) (Value.slice (some ⟨g, 0, none⟩) N N)
        dsimp only at hm
        rw [hlen4] at hm
        exact bodyPost_ret (by simp [results, Tryz.results139, go_sem, r0, r1]) rfl hm
      · clear HTOP
        obtain ⟨r0, r1⟩ := bR4.cells
        have fr0 := bR4.free 0
        have fr1 := bR4.free 1
        clear bO4 bA4 bR4
        go_wp2
        have hm := RetB.made (w := w) (r := ((q : Int), y4, true)) (c := N) hown4 (by omega) (β := w.heap.size + 1) (by omega) (by omega) B4 HQ.out (Value.int IntKind.i64 q) (Value.slice (some ⟨g, 0, none⟩) N N)
        dsimp only at hm
        rw [hlen4] at hm
        exact bodyPost_ret (by simp [results, Tryz.results139, go_sem, r0, r1]) rfl hm
      · have hm0i : (0 : Int) < (m : Int) := by omega
        go_wp2_with fail
        refine (HTOP.out _ r4).mono ?_
        rintro e w5 ⟨rfl, hb5⟩
        rw [ht0]
        have bA5 := bA4.next hb5
        have bO5 := bO4.next hb5
        have bR5 := bR4.next hb5
        have B5 := chain B4 hb5
        have hown5 := hown4.later hb5 hown4.lt
        clear c0 c1 d0 d1
        obtain ⟨c0, c1⟩ := bA5.cells
        obtain ⟨d0, d1⟩ := bO5.cells
        obtain ⟨r0, r1⟩ := bR5.cells
        have fr0 := bR5.free 0
        have fr1 := bR5.free 1
        clear bO5 bA5 bR5
        go_wp2
        have hm := RetB.made (w := w) (r := ((q : Int), y4, true)) (c := N) hown5 (by omega) (β := w.heap.size + 1) (by omega) (by omega) B5 HQ.out (Value.int IntKind.i64 q) (Value.slice (some ⟨g, 0, none⟩) N N)
        dsimp only at hm
        rw [hlen4] at hm
        exact bodyPost_ret (by simp [results, Tryz.results139, go_sem, r0, r1]) rfl hm
  · rw [wdnR, if_neg hc]
    have hcase : rightB W xs = false ∨ (rightB W xs = true ∧ n < 0) ∨ (rightB W xs = true ∧ 0 ≤ n ∧ 4096 < n) ∨ (rightB W xs = true ∧ 0 ≤ n ∧ n ≤ 4096 ∧ 4096 < W + n ∧ W ≤ 4096) := by
      cases hb : rightB W xs with
      | false => exact .inl rfl
      | true =>
        have hw4 := right_W hb
        simp [hb] at hc ⊢; omega
    clear hc
    rcases hcase with h | ⟨h, h1⟩ | ⟨h, h1, h3⟩ | ⟨h, h1, h3, h4, h5⟩
    all_goals
      go_enter Tryz.func139, Tryz.ntmps139
      go_wp2_with fail
      refine (implOk_any _ _ _ _ _ hr').mono ?_
      rintro e w1 ⟨rfl, hb1⟩
      obtain ⟨hcc, hff⟩ := bcell hb1
      have hz : w.heap.size + 1 < w1.heap.size := by have := hb1.size; simp at this; omega
      go_wp2
      exact bodyPost_ret (v := .tuple #[.agg #[.int .i64 0, .slice none 0 0], .bool false]) (by simp [results, Tryz.results139, go_sem, hcc]) rfl (RetB.no (((h2.trans (hb1.mono (by simp; omega))).setCell (by simp) _).setCell (by simp) _))

theorem OwB.made (w : World) (base n : Nat) (h : base ≤ w.heap.size) (hn : n ≤ 4194304) : OwB (w.alloc (.cells (madeCells #[.int .u8 0] n) 5)) base (.slice (some ⟨w.heap.size, 0, none⟩) n n) (List.replicate n 0) := by
 refine ⟨by simp [u8s], .inr ⟨w.heap.size, n, madeCells #[.int .u8 0] n, by simp, h, heap_alloc_new _ _, by simp, by unfold maxLen; omega, ?_, ?_⟩⟩
 ·rw [← Array.length_toList, toList_madeCells_one]; simp
 ·rw [toList_madeCells_one]; simp [u8s]
def tuTo (L : List Nat) (m : Nat) : Nat → List Nat
 | 0 => List.replicate L.length 0
 | k + 1 => (tuTo L m k).set ((k + m) % L.length) (L.getD k 0)
theorem tuTo_len (L : List Nat) (m k : Nat) : (tuTo L m k).length = L.length := by
 induction k with
 | zero => simp [tuTo]
 | succ k ih => rw [tuTo, List.length_set, ih]
theorem getD_mem_le {L : List Nat} (h : ∀ x ∈ L, x ≤ 1) (i : Nat) : L.getD i 0 ≤ 1 := by
 by_cases hi : i < L.length
 ·have : L.getD i 0 = L[i] := by simp [List.getD, hi]
  rw [this]; exact h _ (List.getElem_mem hi)
 ·have : L.getD i 0 = 0 := by simp [List.getD, hi]
  omega
theorem tuTo_le (L : List Nat) (h : ∀ x ∈ L, x ≤ 1) (m k : Nat) : ∀ x ∈ tuTo L m k, x ≤ 1 := by
 induction k with
 | zero => intro x hx; have := List.eq_of_mem_replicate hx; omega
 | succ k ih =>
  intro x hx
  rcases List.mem_or_eq_of_mem_set hx with h' | h'
  ·exact ih x h'
  ·rw [h']; exact getD_mem_le h k
theorem add_mod_case (k m V : Nat) (hk : k < V) : (k + m) % V = if k + m % V < V then k + m % V else k + m % V - V := by
 have hr : m % V < V := Nat.mod_lt _ (by omega)
 rw [← Nat.add_mod_mod]
 split
 ·exact Nat.mod_eq_of_lt (by assumption)
 ·rw [Nat.mod_eq_sub_mod (by omega), Nat.mod_eq_of_lt (by omega)]
theorem tuTo_get (L : List Nat) (m k j : Nat) (hk : k ≤ L.length) (hj : j < L.length) :
  (tuTo L m k).getD j 0 = if (if j < m % L.length then j + L.length - m % L.length else j - m % L.length) < k then L.getD (if j < m % L.length then j + L.length - m % L.length else j - m % L.length) 0 else 0 := by
 have hr : m % L.length < L.length := Nat.mod_lt _ (by omega)
 induction k with
 | zero => simp [tuTo, List.getD, hj]
 | succ k ih =>
  have ih := ih (by omega)
  have hp := add_mod_case k m L.length (by omega)
  have hlen := tuTo_len L m k
  rw [tuTo, hp]
  generalize m % L.length = r at *
  generalize hq : (if k + r < L.length then k + r else k + r - L.length) = q
  generalize hs : (if j < r then j + L.length - r else j - r) = s at *
  have hqs : q = j ↔ s = k := by
   rw [← hq, ← hs]
   split <;> split <;> omega
  by_cases e : s = k
  ·have e2 := hqs.2 e
   subst e2
   rw [if_pos (by omega), e]
   simp [List.getD, hlen, hj]
  ·have e2 : q ≠ j := fun h => e (hqs.1 h)
   have e3 : ((tuTo L m k).set q (L.getD k 0)).getD j 0 = (tuTo L m k).getD j 0 := by
    simp only [List.getD]
    rw [List.getElem?_set_ne e2]
   rw [e3, ih]
   by_cases h5 : s < k
   ·rw [if_pos h5, if_pos (by omega)]
   ·rw [if_neg h5, if_neg (by omega)]
theorem tuTo_all (L : List Nat) (m : Nat) (hp : 0 < L.length) : tuTo L m L.length = turnL L (m % L.length) := by
 have hr : m % L.length < L.length := Nat.mod_lt _ hp
 refine List.ext_getElem? fun j => ?_
 by_cases hj : j < L.length
 ·have h := tuTo_get L m L.length j (Nat.le_refl _) hj
  have h1 : (tuTo L m L.length)[j]? = some ((tuTo L m L.length).getD j 0) := by
   simp [List.getD, tuTo_len, hj]
  have h2 : (turnL L (m % L.length))[j]? = some ((turnL L (m % L.length)).getD j 0) := by
   simp [List.getD, turnL_len, hj]
  rw [h1, h2, h]
  congr 1
  generalize m % L.length = r at *
  unfold turnL
  by_cases c : j < r
  ·rw [if_pos c, if_pos (by omega)]
   simp only [List.getD]
   rw [List.getElem?_append_left (by simp; omega), List.getElem?_drop]
   congr 2
   omega
  ·rw [if_neg c, if_pos (by omega)]
   simp only [List.getD]
   rw [List.getElem?_append_right (by simp; omega), List.length_drop, List.getElem?_take_of_lt (by omega)]
   congr 2
   omega
 ·rw [List.getElem?_eq_none (by rw [tuTo_len]; omega), List.getElem?_eq_none (by rw [turnL_len]; omega)]

set_option maxHeartbeats 2000000 in
set_option maxRecDepth 100000 in
theorem specTurn_any (W : Int) (a : Option Addr) (c : Nat) (xs : List Nat) (n : Int) (w : World) (hr : Rd w a xs) :
  Calls Tryz.prog 99 #[.agg #[.int .i64 W, .slice a xs.length c], .int .i64 n] w (RetB w (turnR W xs n)) := by
 have h2 : Below w.heap.size w ((w.alloc (Obj.cells #[.int IntKind.i64 W, .slice a xs.length c] 80)).alloc (Obj.cells #[.int IntKind.i64 0, .slice none 0 0] 80)) := Ba (Ba (Below.refl _ _) _) _
 have hr' := hr.later h2
 have bR0 := Blk.new1 w (Obj.cells #[.int IntKind.i64 W, .slice a xs.length c] 80) (Value.int IntKind.i64 0) (Value.slice none 0 0) 80
 have bA0 := (Blk.new w (Value.int IntKind.i64 W) (Value.slice a xs.length c) 80).alloc (Obj.cells #[.int IntKind.i64 0, .slice none 0 0] 80)
 by_cases hc : rightB W xs = true ∧ 0 ≤ n ∧ n ≤ 4096
 ·rw [turnR, if_pos hc]
  generalize hR : (W, pack (turnL (bitsTo xs W.toNat) (n.toNat % W.toNat)), true) = R
  have HR : Hid ((W, pack (turnL (bitsTo xs W.toNat) (n.toNat % W.toNat)), true) = R) := hR
  clear hR
  obtain ⟨hok, hn1, hn2⟩ := hc
  obtain ⟨hW1, hW2, hWl⟩ := right_W hok
  obtain ⟨V, rfl⟩ := Int.eq_ofNat_of_zero_le (show 0 ≤ W by omega)
  obtain ⟨m, rfl⟩ := Int.eq_ofNat_of_zero_le hn1
  have hVl : V ≤ 64 * xs.length := by omega
  have hd : decide (0 ≤ (m : Int) ∧ (m : Int) ≤ 4096) = true := by simp; omega
  have hV0 : ¬ (V : Int) = 0 := by omega
  have hVp : 0 < V := by omega
  have hmk := fun kl kc w => run_make_row' (P := Tryz.prog) 22 5 (.int .u8 0) 1 Tryz.underlying22 Tryz.infoU8 rfl kl kc V (by omega) (by omega) w
  clear hWl
  go_enter Tryz.func99, Tryz.ntmps99
  go_wp2_with fail
  refine (specOk_any _ _ _ _ _ hr').mono ?_
  rintro e w1 ⟨rfl, hb1⟩
  have hr1 := hr'.later hb1
  have B1 := chain h2 hb1
  have bR1 := bR0.next hb1
  have bA1 := bA0.next hb1
  obtain ⟨c0, c1⟩ := bA1.cells
  clear hb1 bR0 bA0
  go_wp2_with (go_at_call 73; refine (l1In_any _ _ _ _).mono ?_; rintro e w' ⟨rfl, rfl⟩)
  refine (l1List_any _ _ _ _ _ hr1 hVl (by omega)).mono ?_
  rintro e w2 ⟨v, rfl, how, hb2⟩
  have hlen := bitsTo_len xs V
  have hle := bitsTo_le xs V
  obtain ⟨a2, c2, rfl, hrb, -, -⟩ := how.shape (by rw [hlen]; omega) (fun x hx => by have := hle x hx; omega)
  obtain ⟨bb, oo, rfl, hcell⟩ := hrb.2.2.resolve_left (fun h => by rw [h] at hlen; simp at hlen; omega)
  have B2 := chain B1 hb2
  have bR2 := bR1.next hb2
  have hbb : bb < w2.heap.size := block_lt_of_cell (hcell 0 (by omega))
  have hR2 := bR2.lt
  generalize hbs : bitsTo xs V = bs at *
  have HBS : Hid (bitsTo xs V = bs) := hbs
  have HLN : Hid (bs.length = V) := hlen
  rw [hlen]
  clear hbs hb2 hr hr' hr1 B1 bR1 bA1 c0 c1 h2 how hrb
  go_wp2_with fail
  have ho3 := OwB.made w2 w2.heap.size V (Nat.le_refl _) (by omega)
  have b3 : Below w2.heap.size w2 (w2.alloc (.cells (madeCells #[.int .u8 0] V) 5)) := Ba (Below.refl _ _) _
  have HO : Hid (tuTo bs m 0 = List.replicate V 0) := by show _ = _; rw [tuTo, hlen]
  clear hlen hmk
  generalize w2.alloc (.cells (madeCells #[.int .u8 0] V) 5) = w3 at *
  go_loopw [8] (fun i wr => ∃ k : Nat, k ≤ V ∧ i = .int .i64 k ∧ OwB wr w2.heap.size (.slice (some ⟨w2.heap.size, 0, none⟩) V V) (tuTo bs m k) ∧ Below w2.heap.size w2 wr) (fun i _ => V - (intOf i).toNat)
  case atStart => exact ⟨0, Nat.zero_le _, rfl, by rw [HO.out]; exact ho3, b3⟩
  case round =>
   obtain ⟨k, hk, rfl, hown, hbel⟩ := hrel
   have hlk : (tuTo bs m k).length = V := by rw [tuTo_len, HLN.out]
   have hown' : OwB wr w2.heap.size (.slice (some ⟨w2.heap.size, 0, none⟩) (tuTo bs m k).length V) (tuTo bs m k) := by rw [hlk]; exact hown
   clear HO ho3 b3 hown
   by_cases hlt : k < V
   ·have hp : (k + m) % V < V := Nat.mod_lt _ hVp
    have hmod : ((k : Int) + (m : Int)) % (V : Int) = (((k + m) % V : Nat) : Int) := rfl
    have hck : wr.cell? ⟨bb, oo + k, none⟩ = some (.int .u8 ((bs.getD k 0 : Nat) : Int)) := by
     rw [hbel.cell (p := ⟨bb, oo + k, none⟩) (by exact hbb)]; exact hcell k (by rw [HLN.out]; exact hlt)
    have hg := hown'.cellAt ((k + m) % V) (by omega)
    have hf := hown'.freeAt ((k + m) % V)
    have hput := OwB.put hown' ((k + m) % V) (bs.getD k 0)
    have HT : Hid (tuTo bs m (k + 1) = (tuTo bs m k).set ((k + m) % V) (bs.getD k 0)) := by show _ = _; rw [tuTo, HLN.out]
    rw [hlk, ← HT.out] at hput
    have HPUT : Hid _ := hput
    have hy1 : bs.getD k 0 ≤ 1 := getD_mem_le hle k
    have hki : (k : Int) < (V : Int) := by omega
    clear hput hown' hlk hcell HT
    generalize (tuTo bs m k).getD ((k + m) % V) 0 = z at *
    generalize (k + m) % V = p at *
    generalize bs.getD k 0 = y at *
    have hpi : (p : Int) < (V : Int) := by omega
    go_wp2
    go_region
    go_wp2
    exact ⟨⟨k + 1, by omega, by go_num, HPUT.out, (hbel.setCell (Nat.le_refl _) _).drew⟩, by simp [intOf]; omega⟩
   ·have e : k = V := by omega
    subst e
    have HQ : Hid ((((tuTo bs m k).length : Int), pack (tuTo bs m k), true) = R) := by
     show _ = _
     have ht := tuTo_all bs m (by rw [HLN.out]; exact hVp)
     rw [HLN.out] at ht
     rw [← HR.out, Int.toNat_natCast, Int.toNat_natCast, HBS.out, ht, turnL_len, HLN.out]
    obtain ⟨a5, c5, hv5, hrb5, -, -⟩ := hown'.shape (by omega) (fun x hx => by have := tuTo_le bs hle m k x hx; omega)
    have hfrom := l1From_yes a5 c5 _ _ hrb5 (by omega) (by omega)
    rw [← hv5, hlk] at hfrom
    rw [hlk] at HQ
    have bR3 := bR2.next hbel
    have B3 := chain B2 hbel
    have hzr := bR3.lt
    clear hown' hrb5 hv5 HR HBS bR2 B2 hbel hcell hlk
    generalize tuTo bs m k = T at *
    go_wp2_with fail
    refine hfrom.mono ?_
    rintro e w5 ⟨a6, c6, rfl, hfr, hb5⟩
    have bR5 := bR3.next hb5
    have B5 := chain B3 hb5
    obtain ⟨r0, r1⟩ := bR5.cells
    have f0 := bR5.free 0
    have f1 := bR5.free 1
    dsimp only at hfr ⊢
    clear hfrom
    go_wp2
    exact bodyPost_ret (by simp [results, Tryz.results99, go_sem, r0, r1]; rfl) rfl (RetB.close (r := ((k : Int), pack T, true)) hfr (by omega) hzr B5 HQ.out _ _)
 ·rw [turnR, if_neg hc]
  have hcase : rightB W xs = false ∨ (rightB W xs = true ∧ decide (0 ≤ n ∧ n ≤ 4096) = false) := by
   cases hb : rightB W xs with
   | false => exact .inl rfl
   | true =>
    right
    refine ⟨rfl, ?_⟩
    simp only [hb, true_and] at hc
    simp [hc]
  clear hc
  rcases hcase with h | ⟨h, h1⟩
  ·go_enter Tryz.func99, Tryz.ntmps99
   go_wp2_with fail
   refine (specOk_any _ _ _ _ _ hr').mono ?_
   rintro e w1 ⟨rfl, hb1⟩
   have B1 := chain h2 hb1
   have bR1 := bR0.next hb1
   obtain ⟨r0, r1⟩ := bR1.cells
   have f0 := bR1.free 0
   have f1 := bR1.free 1
   go_wp2_with (go_at_call 73; refine (l1In_any _ _ _ _).mono ?_; rintro e w' ⟨rfl, rfl⟩)
   exact bodyPost_ret (v := .tuple #[.agg #[.int .i64 0, .slice none 0 0], .bool false]) (by simp [results, Tryz.results99, go_sem, r0, r1]) rfl (RetB.no ((B1.setCell (by simp) _).setCell (by simp) _))
  ·go_enter Tryz.func99, Tryz.ntmps99
   go_wp2_with fail
   refine (specOk_any _ _ _ _ _ hr').mono ?_
   rintro e w1 ⟨rfl, hb1⟩
   have B1 := chain h2 hb1
   have bR1 := bR0.next hb1
   obtain ⟨r0, r1⟩ := bR1.cells
   have f0 := bR1.free 0
   have f1 := bR1.free 1
   go_wp2_with (go_at_call 73; refine (l1In_any _ _ _ _).mono ?_; rintro e w' ⟨rfl, rfl⟩)
   exact bodyPost_ret (v := .tuple #[.agg #[.int .i64 0, .slice none 0 0], .bool false]) (by simp [results, Tryz.results99, go_sem, r0, r1]) rfl (RetB.no ((B1.setCell (by simp) _).setCell (by simp) _))

def cmpW (x y : Nat) : Int := if x < y then -1 else if y < x then 1 else 0
theorem cmpW_any (x y : Nat) (w : World) :
  Calls Tryz.prog 108 #[.int .u64 x, .int .u64 y] w fun e w' => e = .returned (.int .i64 (cmpW x y)) ∧ w' = w := by
 unfold cmpW
 rcases Nat.lt_trichotomy x y with h | h | h
 ·rw [if_pos h]
  go_enter Tryz.func108, Tryz.ntmps108
  go_wp2
  go_ret
  exact ⟨rfl, rfl⟩
 ·subst h
  rw [if_neg (by omega), if_neg (by omega)]
  go_enter Tryz.func108, Tryz.ntmps108
  go_wp2
  go_ret
  exact ⟨rfl, rfl⟩
 ·rw [if_neg (by omega), if_pos h]
  go_enter Tryz.func108, Tryz.ntmps108
  go_wp2
  go_ret
  exact ⟨rfl, rfl⟩
def sameB (W : Int) (xs : List Nat) (V : Int) (ys : List Nat) : Bool := rightB W xs && rightB V ys && decide (W = V) && decide (xs = ys)
def RetZ (u : World) (R : Bool) (e : Ending) (w' : World) : Prop := ∃ k : Int, e = .returned (.int .i64 k) ∧ ((k == 0) = R) ∧ Below u.heap.size u w'
set_option maxHeartbeats 2000000 in
set_option maxRecDepth 100000 in
theorem implSame_any (W : Int) (a : Option Addr) (c : Nat) (xs : List Nat) (V : Int) (b : Option Addr) (d : Nat) (ys : List Nat) (w : World) (hr : Rd w a xs) (hs : Rd w b ys) :
  Calls Tryz.prog 79 #[.agg #[.int .i64 W, .slice a xs.length c], .agg #[.int .i64 V, .slice b ys.length d]] w (RetZ w (sameB W xs V ys)) := by
 have s0 := Bb.start w (.cells #[.int .i64 W, .slice a xs.length c] 80) (.cells #[.int .i64 V, .slice b ys.length d] 80)
 have HOA := kide (fun u (hu : Below w.heap.size w u) => implOk_any W a c xs u (hr.later hu))
 have HOB := kide (fun u (hu : Below w.heap.size w u) => implOk_any V b d ys u (hs.later hu))
 have HRA := kide (fun u (hu : Below w.heap.size w u) => hr.later hu)
 have HRB := kide (fun u (hu : Below w.heap.size w u) => hs.later hu)
 have hl1 := hr.1
 have hl2 := hs.1
 clear hr hs
 cases hoa : rightB W xs with
 | false =>
  have hR : sameB W xs V ys = false := by simp [sameB, hoa]
  rw [hR]
  rw [hoa] at HOA
  clear hR hoa
  go_enter Tryz.func79, Tryz.ntmps79
  go_wp2_with fail
  refine Calls.mono (HOA.out _ s0.below) ?_
  rintro e w1 ⟨rfl, hb1⟩
  have s1 := s0.next hb1
  go_wp2_with fail
  go_ret
  exact ⟨-2, rfl, rfl, s1.below⟩
 | true =>
  rw [hoa] at HOA
  cases hob : rightB V ys with
  | false =>
   have hR : sameB W xs V ys = false := by simp [sameB, hob]
   rw [hR]
   rw [hob] at HOB
   clear hR hoa hob
   go_enter Tryz.func79, Tryz.ntmps79
   go_wp2_with fail
   refine Calls.mono (HOA.out _ s0.below) ?_
   rintro e w1 ⟨rfl, hb1⟩
   have s1 := s0.next hb1
   have k0 := s1.two 0
   have k1 := s1.two 1
   simp at k0 k1
   clear hb1 s0
   go_wp2_with fail
   refine Calls.mono (HOB.out _ s1.below) ?_
   rintro e w2 ⟨rfl, hb2⟩
   have s2 := s1.next hb2
   go_wp2_with fail
   go_ret
   exact ⟨-2, rfl, rfl, s2.below⟩
  | true =>
   rw [hob] at HOB
   have hwl1 : (xs.length : Int) ≤ 64 := by
    simp [rightB, wOk] at hoa
    omega
   by_cases hWV : W = V
   ·subst hWV
    have hlen : ys.length = xs.length := by
     simp [rightB] at hoa hob
     omega
    have hR : sameB W xs W ys = decide (xs = ys) := by simp [sameB, hoa, hob]
    rw [hR]
    rw [hlen] at HOB s0
    simp only [hlen]
    have hWW : (W != W) = false := by simp
    have HLE := kide hlen
    clear hR hoa hob hlen hl2
    generalize hZ : decide (xs = ys) = Z
    have HZ := kide hZ
    clear hZ
    go_enter Tryz.func79, Tryz.ntmps79
    go_wp2_with fail
    refine Calls.mono (HOA.out _ s0.below) ?_
    rintro e w1 ⟨rfl, hb1⟩
    have s1 := s0.next hb1
    have k0 := s1.two 0
    have k1 := s1.two 1
    simp at k0 k1
    clear hb1 s0
    go_wp2_with fail
    refine Calls.mono (HOB.out _ s1.below) ?_
    rintro e w2 ⟨rfl, hb2⟩
    have s2 := s1.next hb2
    have g0 := s2.one 0
    have g1 := s2.one 1
    have f0 := s2.two 0
    have f1 := s2.two 1
    simp at g0 g1 f0 f1
    clear hb2 s1 k0 k1
    go_wp2_with fail
    clear hWW g0 g1 f0 f1
    go_loopw [5] (fun i wr => ∃ k : Nat, k ≤ xs.length ∧ i = .int .i64 ((k : Int) - 1) ∧ (∀ j, k ≤ j → j < xs.length → xs.getD j 0 = ys.getD j 0) ∧ Bb w (.cells #[.int .i64 W, .slice a xs.length c] 80) (.cells #[.int .i64 W, .slice b xs.length d] 80) wr) (fun i _ => ((intOf i) + 1).toNat)
    case atStart => exact ⟨xs.length, Nat.le_refl _, rfl, fun j h1 h2 => by omega, s2⟩
    case round =>
     obtain ⟨k, hk, rfl, heq, s3⟩ := hrel
     have g0 := s3.one 0
     have g1 := s3.one 1
     have f0 := s3.two 0
     have f1 := s3.two 1
     simp at g0 g1 f0 f1
     cases k with
     | zero =>
      have HT : Hid (Z = true) := by
       show _ = _
       rw [← HZ.out]
       simp only [decide_eq_true_eq]
       refine List.ext_getElem HLE.out.symm (fun j h1 h2 => ?_)
       have := heq j (Nat.zero_le _) h1
       simpa [List.getD, h1, h2] using this
      clear heq
      go_wp2_with fail
      go_ret
      exact ⟨0, rfl, HT.out.symm, s3.below⟩
     | succ j =>
      rw [show (((j + 1 : Nat) : Int) - 1) = (j : Int) by omega]
      have hjx : j < xs.length := by omega
      have hji : (j : Int) < (xs.length : Int) := by omega
      obtain ⟨-, hxx, hn | ⟨g, o, rfl, hc⟩⟩ := HRA.out wr s3.below
      ·subst hn; simp at hjx
      obtain ⟨-, hyy, hn | ⟨g', o', rfl, hc'⟩⟩ := HRB.out wr s3.below
      ·have := HLE.out; subst hn; simp at this; omega
      have hx1 := hc j hjx
      have hy1 := hc' j (by have := HLE.out; omega)
      have hjw : ((j : Int) - 1 + 1) = (j : Int) := by omega
      obtain ⟨x, hx⟩ : ∃ x, xs.getD j 0 = x := ⟨_, rfl⟩
      obtain ⟨y, hy⟩ : ∃ y, ys.getD j 0 = y := ⟨_, rfl⟩
      rw [hx] at hx1
      rw [hy] at hy1
      have HX := kide hx
      have HY := kide hy
      have HEQ := kide heq
      have HC := kide (fun u => cmpW_any x y u)
      clear hc hc' hx hy heq hxx hyy s2
      by_cases h1 : x = y
      ·subst h1
       have h0 : cmpW x x = 0 := by simp [cmpW]
       rw [h0] at HC
       clear h0
       go_wp2_with fail
       go_quiet ((go_at_call 108; exact Calls.quiet_of_same (HC.out _)))
       go_wp2_with fail
       go_roundw
       case rel =>
        refine ⟨j, by omega, by go_num, fun i h1 h2 => ?_, s3.next (below_drewN (Below.refl _ _) _)⟩
        by_cases hij : i = j
        ·subst hij
         rw [HX.out, HY.out]
        ·exact HEQ.out i (by omega) h2
       case measure => first | (simp [intOf]; done) | (simp [intOf]; omega)
      ·have h0 : cmpW x y ≠ 0 := by unfold cmpW; split <;> (try split) <;> omega
       have HF : Hid (Z = false) := by
        show _ = _
        rw [← HZ.out]
        simp only [decide_eq_false_iff_not]
        intro he
        apply h1
        rw [← HX.out, ← HY.out, he]
       generalize cmpW x y = q at *
       have hq : (q != 0) = true := by simp [h0]
       have hq2 : (q == 0) = false := by simp [h0]
       have HQ := kide hq2
       clear h1 h0 hq2
       go_wp2_with fail
       go_quiet ((go_at_call 108; exact Calls.quiet_of_same (HC.out _)))
       go_wp2_with fail
       go_ret
       exact ⟨q, rfl, HQ.out.trans HF.out.symm, s3.below.trans (below_drewN (Below.refl _ _) _)⟩
   ·have hR : sameB W xs V ys = false := by simp [sameB, hWV]
    rw [hR]
    have hWW : (W != V) = true := by simp [hWV]
    clear hR hoa hob hWV
    go_enter Tryz.func79, Tryz.ntmps79
    go_wp2_with fail
    refine Calls.mono (HOA.out _ s0.below) ?_
    rintro e w1 ⟨rfl, hb1⟩
    have s1 := s0.next hb1
    have k0 := s1.two 0
    have k1 := s1.two 1
    simp at k0 k1
    clear hb1 s0
    go_wp2_with fail
    refine Calls.mono (HOB.out _ s1.below) ?_
    rintro e w2 ⟨rfl, hb2⟩
    have s2 := s1.next hb2
    have g0 := s2.one 0
    have f0 := s2.two 0
    simp at g0 f0
    clear hb2 s1 k0 k1
    go_wp2_with fail
    go_ret
    exact ⟨-2, rfl, rfl, s2.below⟩

end Go.Proofs.YtkngpgonmedgpaaGreatDoor
