/- What the program's TurnBits answers. -/
import Derived.Test.YtobkemdffhhlfaaG2
namespace Go.Proofs.Ytobkemdffhhlfaa
set_option linter.unusedVariables false
set_option linter.unusedSimpArgs false
open Go.RowKit

theorem bitsTo_pack (bs : List Nat) (hb : ∀ x ∈ bs, x ≤ 1) : bitsTo (pack bs) bs.length = bs := by
  refine List.ext_getElem? fun i => ?_
  by_cases h : i < bs.length
  · have hx := hb _ (List.getElem_mem h)
    have e : bs.getD i 0 = bs[i] := by simp [List.getD, h]
    simp only [bitsTo, List.getElem?_map, List.getElem?_range h, Option.map_some, tb_pack bs hb, e, List.getElem?_eq_getElem h]
    congr 1
    generalize bs[i] = x at *
    have : x = 0 ∨ x = 1 := by omega
    rcases this with rfl | rfl <;> rfl
  · rw [List.getElem?_eq_none (by rw [bitsTo_len]; omega), List.getElem?_eq_none (by omega)]

/-- A list of bits turned by r places to the higher ones, r less than its length. -/
def turnL (L : List Nat) (r : Nat) : List Nat := L.drop (L.length - r) ++ L.take (L.length - r)

theorem turnL_len (L : List Nat) (r : Nat) : (turnL L r).length = L.length := by simp [turnL]

theorem turnL_mem (L : List Nat) (r x : Nat) (h : x ∈ turnL L r) : x ∈ L := by
  rcases List.mem_append.1 h with h | h
  · exact List.mem_of_mem_drop h
  · exact List.mem_of_mem_take h

def turnR (W : Int) (xs : List Nat) (n : Int) : Int × List Nat × Bool :=
  if rightB W xs = true ∧ 0 ≤ n ∧ n ≤ 4096 then (W, pack (turnL (bitsTo xs W.toNat) (n.toNat % W.toNat)), true) else noR

theorem part_low {V : Nat} {xs : List Nat} (hok : rightB V xs = true) (r : Nat) (h1 : r < V) : partR V xs ((V : Int) - 1 - r) 0 = (((V - r : Nat) : Int), pack ((bitsTo xs V).take (V - r)), true) := by
  rw [partR, if_pos ⟨hok, by omega, by omega, by omega⟩]
  rw [show (V : Int) - 1 - r - 0 + 1 = ((V - r : Nat) : Int) by omega, Int.toNat_natCast, Int.toNat_natCast]
  rfl

theorem part_high {V : Nat} {xs : List Nat} (hok : rightB V xs = true) (r : Nat) (h0 : 0 < r) (h1 : r < V) : partR V xs ((V : Int) - 1) ((V : Int) - r) = ((r : Int), pack ((bitsTo xs V).drop (V - r)), true) := by
  rw [partR, if_pos ⟨hok, by omega, by omega, by omega⟩]
  rw [show (V : Int) - 1 - ((V : Int) - r) + 1 = (r : Int) by omega, Int.toNat_natCast, Int.toNat_natCast, show ((V : Int) - r).toNat = V - r by omega]
  rw [List.take_of_length_le (by simp [bitsTo_len]; omega)]

theorem join_turn {V : Nat} {xs : List Nat} (hok : rightB V xs = true) (r : Nat) (h0 : 0 < r) (h1 : r < V) :
    joinR ((V - r : Nat) : Int) (pack ((bitsTo xs V).take (V - r))) (r : Int) (pack ((bitsTo xs V).drop (V - r))) = ((V : Int), pack (turnL (bitsTo xs V) r), true) := by
  have hV := right_W hok
  have hle := bitsTo_le xs V
  have hl := bitsTo_len xs V
  have ha : ∀ x ∈ (bitsTo xs V).take (V - r), x ≤ 1 := fun x hx => hle x (List.mem_of_mem_take hx)
  have hb : ∀ x ∈ (bitsTo xs V).drop (V - r), x ≤ 1 := fun x hx => hle x (List.mem_of_mem_drop hx)
  have hal : ((bitsTo xs V).take (V - r)).length = V - r := by rw [List.length_take, hl]; omega
  have hbl : ((bitsTo xs V).drop (V - r)).length = r := by rw [List.length_drop, hl]; omega
  have ra := pack_right _ ha (by omega) (by omega)
  have rb := pack_right _ hb (by omega) (by omega)
  rw [hal] at ra
  rw [hbl] at rb
  have ea := bitsTo_pack _ ha
  have eb := bitsTo_pack _ hb
  rw [hal] at ea
  rw [hbl] at eb
  rw [joinR, if_pos ⟨ra, rb⟩, joinL, Int.toNat_natCast, Int.toNat_natCast, ea, eb]
  have e : (bitsTo xs V).drop (V - r) ++ (bitsTo xs V).take (V - r) = turnL (bitsTo xs V) r := by unfold turnL; rw [hl]
  rw [e, fromR, turnL_len, hl, if_pos ⟨by omega, by omega⟩]

theorem part_all {V : Nat} {xs : List Nat} (hok : rightB V xs = true) (h1 : 1 ≤ V) : partR V xs ((V : Int) - 1) 0 = ((V : Int), pack (turnL (bitsTo xs V) 0), true) := by
  rw [partR, if_pos ⟨hok, by omega, by omega, by omega⟩]
  rw [show (V : Int) - 1 - 0 + 1 = (V : Int) by omega, Int.toNat_natCast]
  have hl := bitsTo_len xs V
  unfold turnL
  rw [hl, Nat.sub_zero, show List.drop V (bitsTo xs V) = [] from List.drop_of_length_le (by omega)]
  rfl

theorem wf_small (x : Int) (h0 : 0 ≤ x) (h1 : x ≤ 4096) : (Lit.int .i64 x).wf = true := by
  have a1 : IntKind.i64.min ≤ x := by have : IntKind.i64.min = -9223372036854775808 := by decide
                                      omega
  have a2 : x ≤ IntKind.i64.max := by have : IntKind.i64.max = 9223372036854775807 := by decide
                                      omega
  simp only [Lit.wf, a1, a2, decide_true, Bool.and_self]

set_option maxHeartbeats 2000000 in
set_option maxRecDepth 100000 in
theorem implTurn_any (W : Int) (a : Option Addr) (c : Nat) (xs : List Nat) (n : Int) (w : World) (hr : Rd w a xs) :
    Calls Try.prog 34 #[.agg #[.int .i64 W, .slice a xs.length c], .int .i64 n] w (RetB w (turnR W xs n)) := by
  have h2 : Below w.heap.size w ((w.alloc (Obj.cells #[Value.int IntKind.i64 W, Value.slice a xs.length c] 26)).alloc (Obj.cells #[Value.int IntKind.i64 0, Value.slice none 0 0] 26)) := Ba (Ba (Below.refl _ _) _) _
  have hr' := hr.later h2
  have bR0 := Blk.new1 w (Obj.cells #[Value.int IntKind.i64 W, Value.slice a xs.length c] 26) (Value.int IntKind.i64 0) (Value.slice none 0 0) 26
  have bA0 := (Blk.new w (Value.int IntKind.i64 W) (Value.slice a xs.length c) 26).alloc (Obj.cells #[Value.int IntKind.i64 0, Value.slice none 0 0] 26)
  have hOk : ∀ (u : World), Rd u a xs → Calls Try.prog 28 #[.agg #[.int .i64 W, .slice a xs.length c]] u fun e w' => e = .returned (.bool (rightB W xs)) ∧ Below u.heap.size u w' := fun u hu => implOk_any W a c xs u hu
  have HOK : Hid _ := hOk
  clear hOk
  by_cases hc : rightB W xs = true ∧ 0 ≤ n ∧ n ≤ 4096
  · rw [turnR, if_pos hc]
    obtain ⟨hok, hn1, hn2⟩ := hc
    rw [hok] at HOK
    obtain ⟨hW1, hW2, hWl⟩ := right_W hok
    obtain ⟨V, rfl⟩ := Int.eq_ofNat_of_zero_le (show 0 ≤ W by omega)
    obtain ⟨m, rfl⟩ := Int.eq_ofNat_of_zero_le hn1
    rw [Int.toNat_natCast, Int.toNat_natCast]
    have hV0 : ¬ (V : Int) = 0 := by omega
    have hrV : m % V < V := Nat.mod_lt _ (by omega)
    have hmod : (m : Int) % (V : Int) = ((m % V : Nat) : Int) := rfl
    generalize m % V = r at *
    have hP : ∀ (u : World) (hi lo : Int) (R : Int × List Nat × Bool), Rd u a xs → partR V xs hi lo = R → 0 ≤ hi → hi ≤ 4096 → Calls Try.prog 29 #[.agg #[.int .i64 V, .slice a xs.length c], .int .i64 hi, .int .i64 lo] u (RetB u R) := fun u hi lo R hu h g1 g2 => by
      rw [← h]; exact implPart_any V a c xs hi lo u hu (wf_small _ g1 g2)
    have HP : Hid _ := hP
    have H0 : Hid _ := part_all hok (by omega)
    have H1 : Hid _ := fun h0 : 0 < r => part_high hok r h0 hrV
    have H2 : Hid _ := part_low hok r hrV
    have H3 : Hid _ := fun h0 : 0 < r => join_turn hok r h0 hrV
    have hlb := bitsTo_len xs V
    have hle := bitsTo_le xs V
    generalize bitsTo xs V = bs at *
    have HLB : Hid (bs.length = V) := hlb
    clear hWl hP hlb
    by_cases hr0 : r = 0
    · subst hr0
      simp only [Int.natCast_zero] at hmod
      clear H1 H2 H3
      go_enter Try.func34, Try.ntmps34
      go_wp2_with fail
      refine (HOK.out _ hr').mono ?_
      rintro e w1 ⟨rfl, hb1⟩
      have B1 := chain h2 hb1
      have bA1 := bA0.next hb1
      have bR1 := bR0.next hb1
      obtain ⟨c0, c1⟩ := bA1.cells
      clear hb1 bA0 bR0 hr' h2 HOK
      go_wp2_with fail
      refine (HP.out _ _ _ _ (hr.later B1) H0.out (by omega) (by omega)).mono ?_
      rintro e w5 ⟨a5, c5, rfl, hfr, hb5⟩
      have B5 := chain B1 hb5
      have bR5 := bR1.next hb5
      have hz := bR1.lt
      obtain ⟨r0, r1⟩ := bR5.cells
      have f0 := bR5.free 0
      have f1 := bR5.free 1
      dsimp only at hfr ⊢
      clear HP H0
      generalize turnL bs 0 = T at *
      go_wp2
      exact bodyPost_ret (by simp [results, Try.results34, go_sem, r0, r1]; rfl) rfl (RetB.close (r := ((V : Int), pack T, true)) hfr (by omega) hz B5 rfl _ _)
    · have hr1 : 0 < r := by omega
      have hmz : ¬ (r : Int) = 0 := by omega
      have HA := H1.out hr1
      have HB := H3.out hr1
      have HA' : Hid _ := HA
      have HB' : Hid _ := HB
      have hpa : (bs.take (V - r)).length = V - r := by rw [List.length_take, HLB.out]; omega
      have hpb : (bs.drop (V - r)).length = r := by rw [List.length_drop, HLB.out]; omega
      have hla : (pack (bs.take (V - r))).length ≤ 1048576 := by rw [pack_len, hpa]; omega
      have hlb : (pack (bs.drop (V - r))).length ≤ 1048576 := by rw [pack_len, hpb]; omega
      have hxa := pack_lt (bs.take (V - r))
      have hxb := pack_lt (bs.drop (V - r))
      clear H0 H1 H3 HA HB hpa hpb HLB
      generalize pack (bs.take (V - r)) = pa at *
      generalize pack (bs.drop (V - r)) = pb at *
      generalize turnL bs r = T at *
      have hVr : ((V - r : Nat) : Int) = (V : Int) - r := by omega
      have HVr : Hid _ := hVr
      clear hVr
      go_enter Try.func34, Try.ntmps34
      go_wp2_with fail
      refine (HOK.out _ hr').mono ?_
      rintro e w1 ⟨rfl, hb1⟩
      have B1 := chain h2 hb1
      have bA1 := bA0.next hb1
      have bR1 := bR0.next hb1
      obtain ⟨c0, c1⟩ := bA1.cells
      clear hb1 bA0 bR0 hr' h2 HOK
      go_wp2_with fail
      refine (HP.out _ _ _ _ (hr.later B1) H2.out (by omega) (by omega)).mono ?_
      intro e w2 hret
      obtain ⟨as_, cs, rfl, fs2, hb2⟩ := hret.fr
      have B2 := chain B1 hb2
      have bA2 := bA1.next hb2
      have bR2 := bR1.next hb2
      dsimp only at fs2 ⊢
      have lA2 := bA2.lt
      clear hret hb2 B1 bA1 bR1 c0 c1 H2
      obtain ⟨c0, c1⟩ := bA2.cells
      go_wp2_with fail
      refine (HP.out _ _ _ _ (hr.later (Ba B2 _)) HA'.out (by omega) (by omega)).mono ?_
      intro e w3 hret
      obtain ⟨ao, co, rfl, fo3, hb3⟩ := hret.fr
      have B3 := chain (Ba B2 _) hb3
      have bR3 := (bR2.alloc _).next hb3
      have bS3 := (Blk.new w2 _ _ _).next hb3
      have fs3 := (fs2.alloc _).next hb3
      dsimp only at fo3 ⊢
      have lS3 := bS3.lt
      clear hret hb3 B2 bA2 bR2 c0 c1 fs2
      obtain ⟨c0, c1⟩ := bS3.cells
      go_wp2_with fail
      have hj := implJoin_any ((V - r : Nat) : Int) as_ cs pa (r : Int) ao co pb _ ((fs3.alloc (Obj.cells #[Value.int IntKind.i64 r, Value.slice ao pb.length co] 26)).rd hla hxa) ((fo3.alloc (Obj.cells #[Value.int IntKind.i64 r, Value.slice ao pb.length co] 26)).rd hlb hxb)
      rw [HB'.out] at hj
      refine hj.mono ?_
      rintro e w5 ⟨a5, c5, rfl, hfr, hb5⟩
      have B5 := chain (Ba B3 _) hb5
      have bR5 := (bR3.alloc _).next hb5
      have hz := (bR3.alloc (Obj.cells #[Value.int IntKind.i64 r, Value.slice ao pb.length co] 26)).lt
      obtain ⟨r0, r1⟩ := bR5.cells
      have f0 := bR5.free 0
      have f1 := bR5.free 1
      dsimp only at hfr ⊢
      clear HP HA' HB' hj
      go_wp2
      exact bodyPost_ret (by simp [results, Try.results34, go_sem, r0, r1]; rfl) rfl (RetB.close (r := ((V : Int), pack T, true)) hfr (by omega) hz B5 rfl _ _)
  · rw [turnR, if_neg hc]
    have hcase : rightB W xs = false ∨ (rightB W xs = true ∧ (n < 0 ∨ 4096 < n)) := by
      cases hb : rightB W xs with
      | false => exact .inl rfl
      | true => right; refine ⟨rfl, ?_⟩; simp [hb] at hc; omega
    clear hc
    rcases hcase with h | ⟨h, h1⟩
    · rw [h] at HOK
      go_enter Try.func34, Try.ntmps34
      go_wp2_with fail
      refine (HOK.out _ hr').mono ?_
      rintro e w1 ⟨rfl, hb1⟩
      have B1 := chain h2 hb1
      have bR1 := bR0.next hb1
      obtain ⟨r0, r1⟩ := bR1.cells
      have f0 := bR1.free 0
      have f1 := bR1.free 1
      go_wp2
      exact bodyPost_ret (v := .tuple #[.agg #[.int .i64 0, .slice none 0 0], .bool false]) (by simp [results, Try.results34, go_sem, r0, r1]) rfl (RetB.no ((B1.setCell (by simp) _).setCell (by simp) _))
    · rw [h] at HOK
      rcases h1 with h1 | h1
      · go_enter Try.func34, Try.ntmps34
        go_wp2_with fail
        refine (HOK.out _ hr').mono ?_
        rintro e w1 ⟨rfl, hb1⟩
        have B1 := chain h2 hb1
        have bR1 := bR0.next hb1
        obtain ⟨r0, r1⟩ := bR1.cells
        have f0 := bR1.free 0
        have f1 := bR1.free 1
        go_wp2
        exact bodyPost_ret (v := .tuple #[.agg #[.int .i64 0, .slice none 0 0], .bool false]) (by simp [results, Try.results34, go_sem, r0, r1]) rfl (RetB.no ((B1.setCell (by simp) _).setCell (by simp) _))
      · have h2' : ¬ n < 0 := by omega
        go_enter Try.func34, Try.ntmps34
        go_wp2_with fail
        refine (HOK.out _ hr').mono ?_
        rintro e w1 ⟨rfl, hb1⟩
        have B1 := chain h2 hb1
        have bR1 := bR0.next hb1
        obtain ⟨r0, r1⟩ := bR1.cells
        have f0 := bR1.free 0
        have f1 := bR1.free 1
        go_wp2
        exact bodyPost_ret (v := .tuple #[.agg #[.int .i64 0, .slice none 0 0], .bool false]) (by simp [results, Try.results34, go_sem, r0, r1]) rfl (RetB.no ((B1.setCell (by simp) _).setCell (by simp) _))

end Go.Proofs.Ytobkemdffhhlfaa
