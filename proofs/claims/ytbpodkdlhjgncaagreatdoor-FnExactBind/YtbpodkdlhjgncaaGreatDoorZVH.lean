/- Several texts in one. -/
import Derived.Test.YtbpodkdlhjgncaaGreatDoorZVG
import Derived.Deep.RegionHeldLaw
import Derived.Deep.RegionHeld3
import Derived.Test.YtbpodkdlhjgncaaGreatDoorZVE
import Derived.Test.YtbpodkdlhjgncaaGreatDoorZVE

/- What the given JoinBits answers. -/
namespace Go.Proofs.YtbpodkdlhjgncaaGreatDoor
set_option linter.unusedVariables false
set_option linter.unusedSimpArgs false
open Go.RowKit

theorem l1From_any (a : Option Addr) (c : Nat) (bs : List Nat) (w : World) (hr : RdB w a bs) :
    Calls Tryz.prog 99 #[.slice a bs.length c] w (RetB w (fromR bs)) := by
  by_cases h : 1 ≤ bs.length ∧ bs.length ≤ 4096
  · rw [fromR, if_pos h]; exact l1From_yes a c bs w hr h.1 h.2
  · rw [fromR, if_neg h]
    refine (l1From_no a bs.length c w (by omega) hr.1).mono ?_
    rintro e w' ⟨rfl, hb⟩
    exact RetB.no hb

/-- The bits of two rows, the lower one's first. -/
def joinL (W : Int) (xs : List Nat) (V : Int) (ys : List Nat) : List Nat := bitsTo ys V.toNat ++ bitsTo xs W.toNat

def joinR (W : Int) (xs : List Nat) (V : Int) (ys : List Nat) : Int × List Nat × Bool :=
  if rightB W xs = true ∧ rightB V ys = true then fromR (joinL W xs V ys) else noR

/-- 'append(out, list...)' at a step of a region that draws its order. -/
theorem step_appBs (w : World) {ops : Array Oper} {o : Oper} {a : Act} {K : Act → World → Prop} {Q : Exit → Act → World → Prop} {E : Prop} (hgd : o.guard = none) (s x : Operand)
    (ho : o.op = .call { callee := .builtin .append, args := #[s, x], argTypes := #[101, 101] })
    (base : Nat) (v : Value) (bs ys : List Nat) (hs : a.eval s = v) (hown : OwB w base v bs) (b ob c : Nat) (hx : a.eval x = .slice (some ⟨b, ob, none⟩) ys.length c)
    (hc : ∀ i, i < ys.length → w.cell? ⟨b, ob + i, none⟩ = some (.int .u8 ((ys.getD i 0 : Nat) : Int))) (hl : bs.length + ys.length ≤ 4194304) (hbase : base ≤ w.heap.size)
    (h : ∀ v' w', OwB w' base v' (bs ++ ys) → w.grownBy w' v.ownBlock → K (a.put o.dst v') w') :
    if Region.wanted o (yielded ops a.tmps) = true then Oper.wp Tryz.prog o a w K Q else E := by
  have hw : Region.wanted o (yielded ops a.tmps) = true := by simp [Region.wanted, hgd]
  rw [if_pos hw]
  obtain ⟨i0, hi, hz0, hz1, hz2⟩ := info_parts Tryz.infoU8
  refine wp_append_own w s x 101 ho base 5 i0 (.int .u8 0) 1 1 Tryz.underlying101 hi hz0 hz1 hz2 rfl (by decide) v bs.length (u8s bs) hs hown ⟨b, ob, none⟩ ys.length c (u8s ys) hx (by simp [u8s]) ?_ ?_ ?_ ?_ hbase ?_
  · intro j u hj
    have hj' : j < ys.length := by
      have := (List.getElem?_eq_some_iff.1 hj).1
      simpa [u8s] using this
    rw [Addr.add_lit, hc j hj']
    simp [u8s, hj'] at hj
    rw [← hj]
    simp [List.getD, hj']
  · intro u hu
    obtain ⟨_, _, rfl⟩ := List.mem_map.1 hu
    rfl
  · unfold maxLen; omega
  · omega
  · intro v' w' h1 h2 _
    refine h v' w' ?_ h2
    unfold OwB
    simpa [u8s] using h1

theorem undrewG {w w' : World} (h : Below w.drew.heap.size w.drew w') : Below w.heap.size w w' := ⟨h.os, h.tape, h.output, h.size, h.block⟩
theorem OwB.undrew {w w' : World} {v : Value} {bs : List Nat} (h : OwB w' (w.drew.heap.size + 1) v bs) : OwB w' (w.heap.size + 1) v bs := h

set_option maxHeartbeats 2000000 in
set_option maxRecDepth 100000 in
theorem specJoin_any (W : Int) (a : Option Addr) (c : Nat) (xs : List Nat) (V : Int) (b : Option Addr) (d : Nat) (ys : List Nat) (w : World) (hr : Rd w a xs) (hs : Rd w b ys) :
    Calls Tryz.prog 74 #[.agg #[.int .i64 W, .slice a xs.length c], .agg #[.int .i64 V, .slice b ys.length d]] w (RetB w (joinR W xs V ys)) := by
  have h3 : Below w.heap.size w (((w.alloc (Obj.cells #[Value.int IntKind.i64 W, Value.slice a xs.length c] 63)).alloc (Obj.cells #[Value.int IntKind.i64 V, Value.slice b ys.length d] 63)).alloc (Obj.cells #[Value.int IntKind.i64 0, Value.slice none 0 0] 63)) := Ba (Ba (Ba (Below.refl _ _) _) _) _
  have hr' := hr.later h3
  have hs' := hs.later h3
  have bR0 := Blk.new2 w (Obj.cells #[Value.int IntKind.i64 W, Value.slice a xs.length c] 63) (Obj.cells #[Value.int IntKind.i64 V, Value.slice b ys.length d] 63) (Value.int IntKind.i64 0) (Value.slice none 0 0) 63
  have bB0 := (Blk.new1 w (Obj.cells #[Value.int IntKind.i64 W, Value.slice a xs.length c] 63) (Value.int IntKind.i64 V) (Value.slice b ys.length d) 63).alloc (Obj.cells #[Value.int IntKind.i64 0, Value.slice none 0 0] 63)
  have bA0 := ((Blk.new w (Value.int IntKind.i64 W) (Value.slice a xs.length c) 63).alloc (Obj.cells #[Value.int IntKind.i64 V, Value.slice b ys.length d] 63)).alloc (Obj.cells #[Value.int IntKind.i64 0, Value.slice none 0 0] 63)
  have hOk : ∀ (W : Int) (a : Option Addr) (c : Nat) (xs : List Nat) (u : World) (r : Bool), rightB W xs = r → Rd u a xs → Calls Tryz.prog 46 #[.agg #[.int .i64 W, .slice a xs.length c]] u fun e w' => e = .returned (.bool r) ∧ Below u.heap.size u w' := fun W a c xs u r h hu => by
    have := specOk_any W a c xs u hu
    rwa [h] at this
  have HOK : Hid _ := hOk
  clear hOk
  cases hoa : rightB W xs with
  | false =>
    have hc : joinR W xs V ys = noR := by unfold joinR; simp [hoa]
    rw [hc]
    go_enter Tryz.func74, Tryz.ntmps74
    go_wp2_with fail
    refine (HOK.out _ _ _ _ _ _ hoa hr').mono ?_
    rintro e w3 ⟨rfl, hb3⟩
    have B3 := chain h3 hb3
    have bR3 := bR0.next hb3
    obtain ⟨r0, r1⟩ := bR3.cells
    have f0 := bR3.free 0
    have f1 := bR3.free 1
    go_wp2
    exact bodyPost_ret (v := .tuple #[.agg #[.int .i64 0, .slice none 0 0], .bool false]) (by simp [results, Tryz.results74, go_sem, r0, r1]) rfl (RetB.no ((B3.setCell (by simp; omega) _).setCell (by simp; omega) _))
  | true =>
    obtain ⟨c0, c1⟩ := bA0.cells
    obtain ⟨d0, d1⟩ := bB0.cells
    cases hob : rightB V ys with
    | false =>
      have hc : joinR W xs V ys = noR := by unfold joinR; simp [hob]
      rw [hc]
      go_enter Tryz.func74, Tryz.ntmps74
      go_wp2_with fail
      refine (HOK.out _ _ _ _ _ _ hoa hr').mono ?_
      rintro e w3 ⟨rfl, hb3⟩
      have B3 := chain h3 hb3
      have bB3 := bB0.next hb3
      obtain ⟨l0, l1⟩ := bB3.cells
      go_wp2_with fail
      refine (HOK.out _ _ _ _ _ _ hob (hs'.later hb3)).mono ?_
      rintro e w4 ⟨rfl, hb4⟩
      have B4 := chain B3 hb4
      have bR4 := (bR0.next hb3).next hb4
      obtain ⟨r0, r1⟩ := bR4.cells
      have f0 := bR4.free 0
      have f1 := bR4.free 1
      go_wp2
      exact bodyPost_ret (v := .tuple #[.agg #[.int .i64 0, .slice none 0 0], .bool false]) (by simp [results, Tryz.results74, go_sem, r0, r1]) rfl (RetB.no ((B4.setCell (by simp; omega) _).setCell (by simp; omega) _))
    | true =>
      have hc : joinR W xs V ys = fromR (joinL W xs V ys) := by unfold joinR; simp [hoa, hob]
      rw [hc]
      clear hc
      obtain ⟨hW1, hW2, hWl⟩ := right_W hoa
      obtain ⟨hV1, hV2, hVl⟩ := right_W hob
      obtain ⟨P, rfl⟩ := Int.eq_ofNat_of_zero_le (show 0 ≤ W by omega)
      obtain ⟨q, rfl⟩ := Int.eq_ofNat_of_zero_le (show 0 ≤ V by omega)
      have hPl : P ≤ 64 * xs.length := by omega
      have hql : q ≤ 64 * ys.length := by omega
      clear hWl hVl
      have HJ : Hid (joinL (P : Int) xs (q : Int) ys = bitsTo ys q ++ bitsTo xs P) := rfl
      have hlx := bitsTo_len xs P
      have hly := bitsTo_len ys q
      have hbx := bitsTo_le xs P
      have hby := bitsTo_le ys q
      generalize joinL (P : Int) xs (q : Int) ys = J at *
      have hLX : ∀ u : World, Rd u a xs → Calls Tryz.prog 100 #[.agg #[.int .i64 P, .slice a xs.length c]] u fun e w' => ∃ v, e = .returned v ∧ OwB w' (u.heap.size + 1) v (bitsTo xs P) ∧ Below u.heap.size u w' := fun u hu => l1List_any P a c xs u hu hPl (by omega)
      have hLY : ∀ u : World, Rd u b ys → Calls Tryz.prog 100 #[.agg #[.int .i64 q, .slice b ys.length d]] u fun e w' => ∃ v, e = .returned v ∧ OwB w' (u.heap.size + 1) v (bitsTo ys q) ∧ Below u.heap.size u w' := fun u hu => l1List_any q b d ys u hu hql (by omega)
      have HLX : Hid _ := hLX
      have HLY : Hid _ := hLY
      clear hLX hLY
      go_enter Tryz.func74, Tryz.ntmps74
      go_wp2_with fail
      refine (HOK.out _ _ _ _ _ _ hoa hr').mono ?_
      rintro e w3 ⟨rfl, hb3⟩
      have B3 := chain h3 hb3
      have bB3 := bB0.next hb3
      obtain ⟨l0, l1⟩ := bB3.cells
      go_wp2_with fail
      refine (HOK.out _ _ _ _ _ _ hob (hs'.later hb3)).mono ?_
      rintro e w4 ⟨rfl, hb4⟩
      have B4 := chain B3 hb4
      have bA4 := (bA0.next hb3).next hb4
      have bB4 := (bB0.next hb3).next hb4
      have bR4 := (bR0.next hb3).next hb4
      clear hb3 hb4 B3 bB3 l0 l1 c0 c1 d0 d1 bA0 bB0 bR0 h3 hr' hs' HOK
      obtain ⟨k0, k1⟩ := bA4.cells
      obtain ⟨l0, l1⟩ := bB4.cells
      have r4 := hr.later B4
      have s4 := hs.later B4
      generalize bitsTo xs P = bx at *
      generalize bitsTo ys q = by_ at *
      have hxp : 0 < bx.length := by omega
      have hll : by_.length + bx.length ≤ 4194304 := by omega
      have hbb : ∀ x ∈ by_ ++ bx, x < 256 := fun x hx => by rcases List.mem_append.1 hx with h | h; · have := hby x h; omega
                                                            · have := hbx x h; omega
      have hJl : J.length ≤ 4194304 := by rw [HJ.out, List.length_append]; exact hll
      have hJb : ∀ x ∈ J, x < 256 := by rw [HJ.out]; exact hbb
      clear hlx hly hbb
      go_wp2_with fail
      go_region_held_law (fun u => u.cell? ⟨w.heap.size, 0, none⟩ = some (Value.int IntKind.i64 P) ∧ u.cell? ⟨w.heap.size, 1, none⟩ = some (Value.slice a xs.length c) ∧ u.cell? ⟨w.heap.size + 1, 0, none⟩ = some (Value.int IntKind.i64 q) ∧ u.cell? ⟨w.heap.size + 1, 1, none⟩ = some (Value.slice b ys.length d)) (first | (simp [*]; done) | (refine ⟨?_, ?_, ?_, ?_⟩ <;> rw [World.cell?_setCell_far _ _ _ _ (by simp <;> omega), World.cell?_setCell_far _ _ _ _ (by simp <;> omega)] <;> assumption))
        (first
          | (go_at_call_of 100 ys; refine (HLY.out _ ?_).mono ?_; exact s4; rintro e w5 ⟨v5, rfl, how5, hb5⟩; replace hb5 := undrewG hb5; replace how5 := OwB.undrew how5; have bA5 := bA4.next hb5; have bB5 := bB4.next hb5; obtain ⟨m0, m1⟩ := bA5.cells; obtain ⟨n0, n1⟩ := bB5.cells)
          | (go_at_call_of 100 xs; refine (HLX.out _ (r4.later hb5)).mono ?_; rintro e w6 ⟨v6, rfl, how6, hb6⟩; have bA6 := bA5.next hb6; have bB6 := bB5.next hb6; obtain ⟨p0, p1⟩ := bA6.cells; obtain ⟨q0, q1⟩ := bB6.cells; obtain ⟨a6, c6, rfl, hrb6, -, -⟩ := how6.shape (by have := hxp; omega) (fun x hx => by have := hbx x hx; omega); obtain ⟨bb, oo, rfl, hcell⟩ := hrb6.2.2.resolve_left (fun h => by rw [h] at hxp; simp at hxp))
          | (go_at_call 99; refine (l1From_any _ _ _ _ hrb7).mono ?_; rintro e w8 ⟨a8, c8, rfl, hfr8, hb8⟩; have hb9 := chain hb7 hb8; have bR8 := bR4.next hb9; obtain ⟨r0, r1⟩ := bR8.cells; have f0 := bR8.free 0; have f1 := bR8.free 1; have bA8 := bA4.next hb9; have bB8 := bB4.next hb9; obtain ⟨u0, u1⟩ := bA8.cells; obtain ⟨v0, v1⟩ := bB8.cells)
          | (refine step_appBs _ rfl _ _ rfl (w4.heap.size + 1) _ by_ bx rfl (how5.kept hb6) bb oo c6 rfl hcell hll (by have h1 := how6.own bb rfl; have h2 := block_lt_of_cell (hcell 0 hxp); have h3 := hb5.size; simp at h2; omega) ?_; intro v7 w7 how7 hgr7; rw [← HJ.out] at how7; have hb7 : Below w4.heap.size w4 w7 := (chain hb5 hb6).grown hgr7 (chain hb5 hb6).size (fun k hk => by have := how5.own k hk; omega); have bA7 := bA4.next hb7; have bB7 := bB4.next hb7; obtain ⟨s0, s1⟩ := bA7.cells; obtain ⟨t0, t1⟩ := bB7.cells; obtain ⟨a7, c7, rfl, hrb7, -, -⟩ := how7.shape hJl hJb))
      have B8 := chain B4 hb9
      have s4 := bR4.lt
      have s7 := hb7.size
      go_wp2
      exact bodyPost_ret (by simp [results, Tryz.results74, go_sem, r0, r1]; rfl) rfl (RetB.close (r := fromR J) hfr8 (by omega) (by omega) B8 rfl _ _)

end Go.Proofs.YtbpodkdlhjgncaaGreatDoor

/- What the program's JoinBits answers. -/
namespace Go.Proofs.YtbpodkdlhjgncaaGreatDoor
set_option linter.unusedVariables false
set_option linter.unusedSimpArgs false
open Go.RowKit

theorem join_pack {P q : Nat} {xs ys : List Nat} (hx : rightB P xs = true) (hy : rightB q ys = true) (zs : List Nat) (hl : zs.length = (q + P + 63) / 64) (hz : ∀ x ∈ zs, x < 18446744073709551616)
    (h : ∀ j, j < 64 * zs.length → tb zs j = (tb ys j || (decide (q ≤ j) && tb xs (j - q)))) : zs = pack (bitsTo ys q ++ bitsTo xs P) := by
  refine eq_pack (fun x hxm => ?_) (by simp [hl, bitsTo_len]) hz fun i hi => ?_
  · rcases List.mem_append.1 hxm with h | h
    · exact bitsTo_le ys q x h
    · exact bitsTo_le xs P x h
  · rw [h i hi]
    by_cases h1 : i < q
    · have e : (bitsTo ys q ++ bitsTo xs P).getD i 0 = (tb ys i).toNat := by
        simp only [List.getD]
        rw [List.getElem?_append_left (by rw [bitsTo_len]; exact h1)]
        simp [bitsTo, h1]
      rw [e]
      simp [show ¬ q ≤ i by omega]
    · rw [tb_out hy i (by omega)]
      by_cases h2 : i - q < P
      · have e : (bitsTo ys q ++ bitsTo xs P).getD i 0 = (tb xs (i - q)).toNat := by
          simp only [List.getD]
          rw [List.getElem?_append_right (by rw [bitsTo_len]; omega), bitsTo_len]
          simp [bitsTo, h2]
        rw [e]
        simp [show q ≤ i by omega]
      · have e : (bitsTo ys q ++ bitsTo xs P).getD i 0 = 0 := by
          simp only [List.getD]
          rw [List.getElem?_eq_none (by simp [bitsTo_len]; omega)]
          rfl
        rw [e, tb_out hx (i - q) (by omega)]
        simp

set_option maxHeartbeats 2000000 in
set_option maxRecDepth 100000 in
theorem implJoin_any (W : Int) (a : Option Addr) (c : Nat) (xs : List Nat) (V : Int) (b : Option Addr) (d : Nat) (ys : List Nat) (w : World) (hr : Rd w a xs) (hs : Rd w b ys) :
    Calls Tryz.prog 108 #[.agg #[.int .i64 W, .slice a xs.length c], .agg #[.int .i64 V, .slice b ys.length d]] w (RetB w (joinR W xs V ys)) := by
  have h3 : Below w.heap.size w (((w.alloc (Obj.cells #[Value.int IntKind.i64 W, Value.slice a xs.length c] 63)).alloc (Obj.cells #[Value.int IntKind.i64 V, Value.slice b ys.length d] 63)).alloc (Obj.cells #[Value.int IntKind.i64 0, Value.slice none 0 0] 63)) := Ba (Ba (Ba (Below.refl _ _) _) _) _
  have hr' := hr.later h3
  have hs' := hs.later h3
  have bR0 := Blk.new2 w (Obj.cells #[Value.int IntKind.i64 W, Value.slice a xs.length c] 63) (Obj.cells #[Value.int IntKind.i64 V, Value.slice b ys.length d] 63) (Value.int IntKind.i64 0) (Value.slice none 0 0) 63
  have bB0 := (Blk.new1 w (Obj.cells #[Value.int IntKind.i64 W, Value.slice a xs.length c] 63) (Value.int IntKind.i64 V) (Value.slice b ys.length d) 63).alloc (Obj.cells #[Value.int IntKind.i64 0, Value.slice none 0 0] 63)
  have bA0 := ((Blk.new w (Value.int IntKind.i64 W) (Value.slice a xs.length c) 63).alloc (Obj.cells #[Value.int IntKind.i64 V, Value.slice b ys.length d] 63)).alloc (Obj.cells #[Value.int IntKind.i64 0, Value.slice none 0 0] 63)
  have hOk : ∀ (W : Int) (a : Option Addr) (c : Nat) (xs : List Nat) (u : World) (r : Bool), rightB W xs = r → Rd u a xs → Calls Tryz.prog 53 #[.agg #[.int .i64 W, .slice a xs.length c]] u fun e w' => e = .returned (.bool r) ∧ Below u.heap.size u w' := fun W a c xs u r h hu => by
    have := implOk_any W a c xs u hu
    rwa [h] at this
  have HOK : Hid _ := hOk
  clear hOk
  cases hoa : rightB W xs with
  | false =>
    have hc : joinR W xs V ys = noR := by unfold joinR; simp [hoa]
    rw [hc]
    go_enter Tryz.func108, Tryz.ntmps108
    go_wp2_with fail
    refine (HOK.out _ _ _ _ _ _ hoa hr').mono ?_
    rintro e w3 ⟨rfl, hb3⟩
    have B3 := chain h3 hb3
    have bR3 := bR0.next hb3
    obtain ⟨r0, r1⟩ := bR3.cells
    have f0 := bR3.free 0
    have f1 := bR3.free 1
    go_wp2
    exact bodyPost_ret (v := .tuple #[.agg #[.int .i64 0, .slice none 0 0], .bool false]) (by simp [results, Tryz.results108, go_sem, r0, r1]) rfl (RetB.no ((B3.setCell (by simp; omega) _).setCell (by simp; omega) _))
  | true =>
    obtain ⟨c0, c1⟩ := bA0.cells
    obtain ⟨d0, d1⟩ := bB0.cells
    cases hob : rightB V ys with
    | false =>
      have hc : joinR W xs V ys = noR := by unfold joinR; simp [hob]
      rw [hc]
      go_enter Tryz.func108, Tryz.ntmps108
      go_wp2_with fail
      refine (HOK.out _ _ _ _ _ _ hoa hr').mono ?_
      rintro e w3 ⟨rfl, hb3⟩
      have B3 := chain h3 hb3
      have bB3 := bB0.next hb3
      obtain ⟨l0, l1⟩ := bB3.cells
      go_wp2_with fail
      refine (HOK.out _ _ _ _ _ _ hob (hs'.later hb3)).mono ?_
      rintro e w4 ⟨rfl, hb4⟩
      have B4 := chain B3 hb4
      have bR4 := (bR0.next hb3).next hb4
      obtain ⟨r0, r1⟩ := bR4.cells
      have f0 := bR4.free 0
      have f1 := bR4.free 1
      go_wp2
      exact bodyPost_ret (v := .tuple #[.agg #[.int .i64 0, .slice none 0 0], .bool false]) (by simp [results, Tryz.results108, go_sem, r0, r1]) rfl (RetB.no ((B4.setCell (by simp; omega) _).setCell (by simp; omega) _))
    | true =>
      have hc : joinR W xs V ys = fromR (joinL W xs V ys) := by unfold joinR; simp [hoa, hob]
      rw [hc]
      clear hc
      obtain ⟨hW1, hW2, hWl⟩ := right_W hoa
      obtain ⟨hV1, hV2, hVl⟩ := right_W hob
      obtain ⟨P, rfl⟩ := Int.eq_ofNat_of_zero_le (show 0 ≤ W by omega)
      obtain ⟨q, rfl⟩ := Int.eq_ofNat_of_zero_le (show 0 ≤ V by omega)
      have hxx := hr.2.1
      have hyy := hs.2.1
      have hx64 : xs.length ≤ 64 := by omega
      have hy64 : ys.length ≤ 64 := by omega
      have hab := hr.lt (by omega)
      have hbb := hs.lt (by omega)
      clear hWl hVl
      generalize hR : fromR (joinL (P : Int) xs (q : Int) ys) = R
      have HR : Hid (fromR (bitsTo ys q ++ bitsTo xs P) = R) := hR
      clear hR
      go_enter Tryz.func108, Tryz.ntmps108
      go_wp2_with fail
      refine (HOK.out _ _ _ _ _ _ hoa hr').mono ?_
      rintro e w3 ⟨rfl, hb3⟩
      have B3 := chain h3 hb3
      have bB3 := bB0.next hb3
      obtain ⟨l0, l1⟩ := bB3.cells
      go_wp2_with fail
      refine (HOK.out _ _ _ _ _ _ hob (hs'.later hb3)).mono ?_
      rintro e w4 ⟨rfl, hb4⟩
      have B4 := chain B3 hb4
      have bA4 := (bA0.next hb3).next hb4
      have bB4 := (bB0.next hb3).next hb4
      have bR4 := (bR0.next hb3).next hb4
      clear hb3 hb4 B3 bB3 l0 l1 c0 c1 d0 d1 bA0 bB0 bR0 h3 hr' hs' HOK
      obtain ⟨k0, k1⟩ := bA4.cells
      obtain ⟨l0, l1⟩ := bB4.cells
      by_cases hPq : (P : Int) + q ≤ 4096
      · go_wp2_with fail
        rw [← Int.natCast_add]
        generalize hq : P + q = m at *
        refine (zeroBits_any m _ (by omega) (by omega)).mono ?_
        rintro e w5 ⟨g, rfl, hg, hown, hb5⟩
        generalize hN : (m + 63) / 64 = N at *
        have HN : Hid ((m + 63) / 64 = N) := hN
        have Hq : Hid (P + q = m) := hq
        have hm1 : 1 ≤ m := by omega
        have hm2 : m ≤ 4096 := by omega
        have hN64 : N ≤ 64 := by omega
        have hfit : m ≤ 64 * N := by omega
        have B5 := chain B4 hb5
        have bA5 := bA4.next hb5
        have bB5 := bB4.next hb5
        have bR5 := bR4.next hb5
        have hgr := bR4.lt
        have hgl := hown.lt
        clear hN hq hb5 B4 bA4 bB4 bR4 k0 k1 l0 l1
        obtain ⟨l0, l1⟩ := bB5.cells
        have hlR := bR5.lt
        have hlB := bB5.lt
        have hlA := bA5.lt
        go_wp2_with fail
        have hput := putBits_any (m : Int) (q : Int) g N d 0 b (List.replicate N 0) ys _ (hown.alloc (Obj.cells #[Value.int IntKind.i64 m, Value.slice (some ⟨g, 0, none⟩) N N] 63)) (hs.later (Ba B5 _)) (fun x hx => by have := List.eq_of_mem_replicate hx; omega) (by omega) (by simp; omega) hy64 (by rw [List.length_replicate]; exact put_fit hob hyy 0 N (by have := Hq.out; omega)) (fun x hx => by have := hbb x hx; omega)
        rw [List.length_replicate] at hput
        refine hput.mono ?_
        rintro e w6 ⟨rfl, hown6, hgr6⟩
        have bO3 := Blk.new w5 (Value.int IntKind.i64 m) (Value.slice (some ⟨g, 0, none⟩) N N) 63
        have bA3 := bA5.alloc (Obj.cells #[Value.int IntKind.i64 m, Value.slice (some ⟨g, 0, none⟩) N N] 63)
        have bB3 := bB5.alloc (Obj.cells #[Value.int IntKind.i64 m, Value.slice (some ⟨g, 0, none⟩) N N] 63)
        have bR3 := bR5.alloc (Obj.cells #[Value.int IntKind.i64 m, Value.slice (some ⟨g, 0, none⟩) N N] 63)
        have B3 := Ba B5 (Obj.cells #[Value.int IntKind.i64 m, Value.slice (some ⟨g, 0, none⟩) N N] 63)
        have ho3 := hown.alloc (Obj.cells #[Value.int IntKind.i64 m, Value.slice (some ⟨g, 0, none⟩) N N] 63)
        have f3 := ho3.fr (Nat.le_refl g)
        have m6 : Marked _ w6 (some ⟨g, 0, none⟩) := hgr6
        have bO6 := bO3.mark f3 m6 (by decide)
        have bA6 := bA3.mark f3 m6 (by decide)
        have bB6 := bB3.mark f3 m6 (by decide)
        have bR6 := bR3.mark f3 m6 (by decide)
        have B6 := m6.below f3 B3 (by omega)
        have hlen6 : (putTo (List.replicate N 0) ys (0 / 64) (0 % 64) ys.length).length = N := by rw [putTo_len, List.length_replicate]
        have hlt6 := putTo_lt (List.replicate N 0) ys (0 / 64) (0 % 64) ys.length (fun x hx => by have := List.eq_of_mem_replicate hx; omega) hyy
        have htb6 : ∀ j, tb (putTo (List.replicate N 0) ys (0 / 64) (0 % 64) ys.length) j = tb ys j := fun j => by
          rw [tb_put_right hob hyy _ 0 (by have := Hq.out; simp; omega), tb_zero]; simp
        generalize putTo (List.replicate N 0) ys (0 / 64) (0 % 64) ys.length = y6 at *
        have HL6 : Hid (y6.length = N) := hlen6
        clear hput bO3 bA3 bB3 bR3 B3 ho3 f3 m6 hgr6 B5 bA5 bB5 bR5 hown l0 l1 hlen6
        obtain ⟨k0, k1⟩ := bA6.cells
        obtain ⟨l0, l1⟩ := bB6.cells
        obtain ⟨o0, o1⟩ := bO6.cells
        go_wp2_with fail
        have hput := putBits_any (m : Int) (P : Int) g N c q a y6 xs w6 hown6 (hr.later B6) hlt6 (by omega) (by rw [HL6.out]; exact hN64) hx64 (by rw [HL6.out]; exact put_fit hoa hxx q N (by have := Hq.out; omega)) (fun x hx => by have := hab x hx; omega)
        rw [HL6.out] at hput
        refine hput.mono ?_
        rintro e w7 ⟨rfl, hown7, hgr7⟩
        have f6 := hown6.fr (Nat.le_refl g)
        have m7 : Marked w6 w7 (some ⟨g, 0, none⟩) := hgr7
        have bO7 := bO6.mark f6 m7 (by decide)
        have bR7 := bR6.mark f6 m7 (by decide)
        have B7 := m7.below f6 B6 (by omega)
        have HL7 : Hid ((putTo y6 xs (q / 64) (q % 64) xs.length).length = N) := by show _ = _; rw [putTo_len, HL6.out]
        have HQ : Hid (((m : Int), putTo y6 xs (q / 64) (q % 64) xs.length, true) = R) := by
          show _ = _
          have hln : (bitsTo ys q ++ bitsTo xs P).length = m := by rw [List.length_append, bitsTo_len, bitsTo_len, ← Hq.out]; omega
          rw [← HR.out, fromR, if_pos (by rw [hln]; exact ⟨hm1, hm2⟩), hln]
          congr 2
          refine join_pack hoa hob _ (by rw [HL7.out, ← HN.out, ← Hq.out, Nat.add_comm P q]) (putTo_lt _ _ _ _ _ hlt6 hxx) fun j hj => ?_
          rw [tb_put_right hoa hxx y6 q (by rw [HL6.out]; have := Hq.out; omega), htb6 j]
        generalize putTo y6 xs (q / 64) (q % 64) xs.length = y7 at *
        clear hput HR hlt6 htb6 bA6 bB6 bO6 bR6 f6 m7 hgr7 hown6 k0 k1 l0 l1 o0 o1 B6
        obtain ⟨o0, o1⟩ := bO7.cells
        obtain ⟨r0, r1⟩ := bR7.cells
        have fr0 := bR7.free 0
        have fr1 := bR7.free 1
        clear bO7 bR7
        go_wp2
        have hm := RetB.made (w := w) (r := ((m : Int), y7, true)) (c := N) hown7 (by omega) (β := w.heap.size + 1 + 1) (by omega) (by omega) B7 HQ.out (Value.int IntKind.i64 m) (Value.slice (some ⟨g, 0, none⟩) N N)
        dsimp only at hm
        rw [HL7.out] at hm
        exact bodyPost_ret (by simp [results, Tryz.results108, go_sem, r0, r1]) rfl hm
      · have HQ : Hid (noR = R) := by
          show _ = _
          rw [← HR.out, fromR, if_neg (by simp only [List.length_append, bitsTo_len]; omega)]
          rfl
        obtain ⟨r0, r1⟩ := bR4.cells
        have f0 := bR4.free 0
        have f1 := bR4.free 1
        clear HR
        go_wp2
        refine bodyPost_ret (v := .tuple #[.agg #[.int .i64 0, .slice none 0 0], .bool false]) (by simp [results, Tryz.results108, go_sem, r0, r1]) rfl ?_
        rw [← HQ.out]
        exact RetB.no ((B4.setCell (by simp; omega) _).setCell (by simp; omega) _)

end Go.Proofs.YtbpodkdlhjgncaaGreatDoor

/- What the program's TurnBits answers. -/
namespace Go.Proofs.YtbpodkdlhjgncaaGreatDoor
set_option linter.unusedVariables false
set_option linter.unusedSimpArgs false
open Go.RowKit

theorem bitsTo_pack (bs : List Nat) (hb : ∀ x ∈ bs, x ≤ 1) : bitsTo (pack bs) bs.length = bs := by
  refine List.ext_getElem? fun i => ?_
  by_cases h : i < bs.length
  · have hx := hb _ (List.getElem_mem h)
    have e : bs.getD i 0 = bs[i] := by simp [List.getD, h]
    simp only [bitsTo, List.getElem?_map, List.getElem?_range h, Option.map_some, tb_pack bs hb, e, List.getElem?_eq_getElem h]
    congr 1
    generalize bs[i] = x at *
    have : x = 0 ∨ x = 1 := by omega
    rcases this with rfl | rfl <;> rfl
  · rw [List.getElem?_eq_none (by rw [bitsTo_len]; omega), List.getElem?_eq_none (by omega)]

/-- A list of bits turned by r places to the higher ones, r less than its length. -/
def turnL (L : List Nat) (r : Nat) : List Nat := L.drop (L.length - r) ++ L.take (L.length - r)

theorem turnL_len (L : List Nat) (r : Nat) : (turnL L r).length = L.length := by simp [turnL]

theorem turnL_mem (L : List Nat) (r x : Nat) (h : x ∈ turnL L r) : x ∈ L := by
  rcases List.mem_append.1 h with h | h
  · exact List.mem_of_mem_drop h
  · exact List.mem_of_mem_take h

def turnR (W : Int) (xs : List Nat) (n : Int) : Int × List Nat × Bool :=
  if rightB W xs = true ∧ 0 ≤ n ∧ n ≤ 4096 then (W, pack (turnL (bitsTo xs W.toNat) (n.toNat % W.toNat)), true) else noR

theorem part_low {V : Nat} {xs : List Nat} (hok : rightB V xs = true) (r : Nat) (h1 : r < V) : partR V xs ((V : Int) - 1 - r) 0 = (((V - r : Nat) : Int), pack ((bitsTo xs V).take (V - r)), true) := by
  rw [partR, if_pos ⟨hok, by omega, by omega, by omega⟩]
  rw [show (V : Int) - 1 - r - 0 + 1 = ((V - r : Nat) : Int) by omega, Int.toNat_natCast, Int.toNat_natCast]
  rfl

theorem part_high {V : Nat} {xs : List Nat} (hok : rightB V xs = true) (r : Nat) (h0 : 0 < r) (h1 : r < V) : partR V xs ((V : Int) - 1) ((V : Int) - r) = ((r : Int), pack ((bitsTo xs V).drop (V - r)), true) := by
  rw [partR, if_pos ⟨hok, by omega, by omega, by omega⟩]
  rw [show (V : Int) - 1 - ((V : Int) - r) + 1 = (r : Int) by omega, Int.toNat_natCast, Int.toNat_natCast, show ((V : Int) - r).toNat = V - r by omega]
  rw [List.take_of_length_le (by simp [bitsTo_len]; omega)]

theorem join_turn {V : Nat} {xs : List Nat} (hok : rightB V xs = true) (r : Nat) (h0 : 0 < r) (h1 : r < V) :
    joinR ((V - r : Nat) : Int) (pack ((bitsTo xs V).take (V - r))) (r : Int) (pack ((bitsTo xs V).drop (V - r))) = ((V : Int), pack (turnL (bitsTo xs V) r), true) := by
  have hV := right_W hok
  have hle := bitsTo_le xs V
  have hl := bitsTo_len xs V
  have ha : ∀ x ∈ (bitsTo xs V).take (V - r), x ≤ 1 := fun x hx => hle x (List.mem_of_mem_take hx)
  have hb : ∀ x ∈ (bitsTo xs V).drop (V - r), x ≤ 1 := fun x hx => hle x (List.mem_of_mem_drop hx)
  have hal : ((bitsTo xs V).take (V - r)).length = V - r := by rw [List.length_take, hl]; omega
  have hbl : ((bitsTo xs V).drop (V - r)).length = r := by rw [List.length_drop, hl]; omega
  have ra := pack_right _ ha (by omega) (by omega)
  have rb := pack_right _ hb (by omega) (by omega)
  rw [hal] at ra
  rw [hbl] at rb
  have ea := bitsTo_pack _ ha
  have eb := bitsTo_pack _ hb
  rw [hal] at ea
  rw [hbl] at eb
  rw [joinR, if_pos ⟨ra, rb⟩, joinL, Int.toNat_natCast, Int.toNat_natCast, ea, eb]
  have e : (bitsTo xs V).drop (V - r) ++ (bitsTo xs V).take (V - r) = turnL (bitsTo xs V) r := by unfold turnL; rw [hl]
  rw [e, fromR, turnL_len, hl, if_pos ⟨by omega, by omega⟩]

theorem part_all {V : Nat} {xs : List Nat} (hok : rightB V xs = true) (h1 : 1 ≤ V) : partR V xs ((V : Int) - 1) 0 = ((V : Int), pack (turnL (bitsTo xs V) 0), true) := by
  rw [partR, if_pos ⟨hok, by omega, by omega, by omega⟩]
  rw [show (V : Int) - 1 - 0 + 1 = (V : Int) by omega, Int.toNat_natCast]
  have hl := bitsTo_len xs V
  unfold turnL
  rw [hl, Nat.sub_zero, show List.drop V (bitsTo xs V) = [] from List.drop_of_length_le (by omega)]
  rfl

theorem wf_small (x : Int) (h0 : 0 ≤ x) (h1 : x ≤ 4096) : (Lit.int .i64 x).wf = true := by
  have a1 : IntKind.i64.min ≤ x := by have : IntKind.i64.min = -9223372036854775808 := by decide
                                      omega
  have a2 : x ≤ IntKind.i64.max := by have : IntKind.i64.max = 9223372036854775807 := by decide
                                      omega
  simp only [Lit.wf, a1, a2, decide_true, Bool.and_self]

set_option maxHeartbeats 2000000 in
set_option maxRecDepth 100000 in
theorem implTurn_any (W : Int) (a : Option Addr) (c : Nat) (xs : List Nat) (n : Int) (w : World) (hr : Rd w a xs) :
    Calls Tryz.prog 92 #[.agg #[.int .i64 W, .slice a xs.length c], .int .i64 n] w (RetB w (turnR W xs n)) := by
  have h2 : Below w.heap.size w ((w.alloc (Obj.cells #[Value.int IntKind.i64 W, Value.slice a xs.length c] 63)).alloc (Obj.cells #[Value.int IntKind.i64 0, Value.slice none 0 0] 63)) := Ba (Ba (Below.refl _ _) _) _
  have hr' := hr.later h2
  have bR0 := Blk.new1 w (Obj.cells #[Value.int IntKind.i64 W, Value.slice a xs.length c] 63) (Value.int IntKind.i64 0) (Value.slice none 0 0) 63
  have bA0 := (Blk.new w (Value.int IntKind.i64 W) (Value.slice a xs.length c) 63).alloc (Obj.cells #[Value.int IntKind.i64 0, Value.slice none 0 0] 63)
  have hOk : ∀ (u : World), Rd u a xs → Calls Tryz.prog 53 #[.agg #[.int .i64 W, .slice a xs.length c]] u fun e w' => e = .returned (.bool (rightB W xs)) ∧ Below u.heap.size u w' := fun u hu => implOk_any W a c xs u hu
  have HOK : Hid _ := hOk
  clear hOk
  by_cases hc : rightB W xs = true ∧ 0 ≤ n ∧ n ≤ 4096
  · rw [turnR, if_pos hc]
    obtain ⟨hok, hn1, hn2⟩ := hc
    rw [hok] at HOK
    obtain ⟨hW1, hW2, hWl⟩ := right_W hok
    obtain ⟨V, rfl⟩ := Int.eq_ofNat_of_zero_le (show 0 ≤ W by omega)
    obtain ⟨m, rfl⟩ := Int.eq_ofNat_of_zero_le hn1
    rw [Int.toNat_natCast, Int.toNat_natCast]
    have hV0 : ¬ (V : Int) = 0 := by omega
    have hrV : m % V < V := Nat.mod_lt _ (by omega)
    have hmod : (m : Int) % (V : Int) = ((m % V : Nat) : Int) := rfl
    generalize m % V = r at *
    have hP : ∀ (u : World) (hi lo : Int) (R : Int × List Nat × Bool), Rd u a xs → partR V xs hi lo = R → 0 ≤ hi → hi ≤ 4096 → Calls Tryz.prog 89 #[.agg #[.int .i64 V, .slice a xs.length c], .int .i64 hi, .int .i64 lo] u (RetB u R) := fun u hi lo R hu h g1 g2 => by
      rw [← h]; exact implPart_any V a c xs hi lo u hu (wf_small _ g1 g2)
    have HP : Hid _ := hP
    have H0 : Hid _ := part_all hok (by omega)
    have H1 : Hid _ := fun h0 : 0 < r => part_high hok r h0 hrV
    have H2 : Hid _ := part_low hok r hrV
    have H3 : Hid _ := fun h0 : 0 < r => join_turn hok r h0 hrV
    have hlb := bitsTo_len xs V
    have hle := bitsTo_le xs V
    generalize bitsTo xs V = bs at *
    have HLB : Hid (bs.length = V) := hlb
    clear hWl hP hlb
    by_cases hr0 : r = 0
    · subst hr0
      simp only [Int.natCast_zero] at hmod
      clear H1 H2 H3
      go_enter Tryz.func92, Tryz.ntmps92
      go_wp2_with fail
      refine (HOK.out _ hr').mono ?_
      rintro e w1 ⟨rfl, hb1⟩
      have B1 := chain h2 hb1
      have bA1 := bA0.next hb1
      have bR1 := bR0.next hb1
      obtain ⟨c0, c1⟩ := bA1.cells
      clear hb1 bA0 bR0 hr' h2 HOK
      go_wp2_with fail
      refine (HP.out _ _ _ _ (hr.later B1) H0.out (by omega) (by omega)).mono ?_
      rintro e w5 ⟨a5, c5, rfl, hfr, hb5⟩
      have B5 := chain B1 hb5
      have bR5 := bR1.next hb5
      have hz := bR1.lt
      obtain ⟨r0, r1⟩ := bR5.cells
      have f0 := bR5.free 0
      have f1 := bR5.free 1
      dsimp only at hfr ⊢
      clear HP H0
      generalize turnL bs 0 = T at *
      go_wp2
      exact bodyPost_ret (by simp [results, Tryz.results92, go_sem, r0, r1]; rfl) rfl (RetB.close (r := ((V : Int), pack T, true)) hfr (by omega) hz B5 rfl _ _)
    · have hr1 : 0 < r := by omega
      have hmz : ¬ (r : Int) = 0 := by omega
      have HA := H1.out hr1
      have HB := H3.out hr1
      have HA' : Hid _ := HA
      have HB' : Hid _ := HB
      have hpa : (bs.take (V - r)).length = V - r := by rw [List.length_take, HLB.out]; omega
      have hpb : (bs.drop (V - r)).length = r := by rw [List.length_drop, HLB.out]; omega
      have hla : (pack (bs.take (V - r))).length ≤ 1048576 := by rw [pack_len, hpa]; omega
      have hlb : (pack (bs.drop (V - r))).length ≤ 1048576 := by rw [pack_len, hpb]; omega
      have hxa := pack_lt (bs.take (V - r))
      have hxb := pack_lt (bs.drop (V - r))
      clear H0 H1 H3 HA HB hpa hpb HLB
      generalize pack (bs.take (V - r)) = pa at *
      generalize pack (bs.drop (V - r)) = pb at *
      generalize turnL bs r = T at *
      have hVr : ((V - r : Nat) : Int) = (V : Int) - r := by omega
      have HVr : Hid _ := hVr
      clear hVr
      go_enter Tryz.func92, Tryz.ntmps92
      go_wp2_with fail
      refine (HOK.out _ hr').mono ?_
      rintro e w1 ⟨rfl, hb1⟩
      have B1 := chain h2 hb1
      have bA1 := bA0.next hb1
      have bR1 := bR0.next hb1
      obtain ⟨c0, c1⟩ := bA1.cells
      clear hb1 bA0 bR0 hr' h2 HOK
      go_wp2_with fail
      refine (HP.out _ _ _ _ (hr.later B1) H2.out (by omega) (by omega)).mono ?_
      intro e w2 hret
      obtain ⟨as_, cs, rfl, fs2, hb2⟩ := hret.fr
      have B2 := chain B1 hb2
      have bA2 := bA1.next hb2
      have bR2 := bR1.next hb2
      dsimp only at fs2 ⊢
      have lA2 := bA2.lt
      clear hret hb2 B1 bA1 bR1 c0 c1 H2
      obtain ⟨c0, c1⟩ := bA2.cells
      go_wp2_with fail
      refine (HP.out _ _ _ _ (hr.later (Ba B2 _)) HA'.out (by omega) (by omega)).mono ?_
      intro e w3 hret
      obtain ⟨ao, co, rfl, fo3, hb3⟩ := hret.fr
      have B3 := chain (Ba B2 _) hb3
      have bR3 := (bR2.alloc _).next hb3
      have bS3 := (Blk.new w2 _ _ _).next hb3
      have fs3 := (fs2.alloc _).next hb3
      dsimp only at fo3 ⊢
      have lS3 := bS3.lt
      clear hret hb3 B2 bA2 bR2 c0 c1 fs2
      obtain ⟨c0, c1⟩ := bS3.cells
      go_wp2_with fail
      have hj := implJoin_any ((V - r : Nat) : Int) as_ cs pa (r : Int) ao co pb _ ((fs3.alloc (Obj.cells #[Value.int IntKind.i64 r, Value.slice ao pb.length co] 63)).rd hla hxa) ((fo3.alloc (Obj.cells #[Value.int IntKind.i64 r, Value.slice ao pb.length co] 63)).rd hlb hxb)
      rw [HB'.out] at hj
      refine hj.mono ?_
      rintro e w5 ⟨a5, c5, rfl, hfr, hb5⟩
      have B5 := chain (Ba B3 _) hb5
      have bR5 := (bR3.alloc _).next hb5
      have hz := (bR3.alloc (Obj.cells #[Value.int IntKind.i64 r, Value.slice ao pb.length co] 63)).lt
      obtain ⟨r0, r1⟩ := bR5.cells
      have f0 := bR5.free 0
      have f1 := bR5.free 1
      dsimp only at hfr ⊢
      clear HP HA' HB' hj
      go_wp2
      exact bodyPost_ret (by simp [results, Tryz.results92, go_sem, r0, r1]; rfl) rfl (RetB.close (r := ((V : Int), pack T, true)) hfr (by omega) hz B5 rfl _ _)
  · rw [turnR, if_neg hc]
    have hcase : rightB W xs = false ∨ (rightB W xs = true ∧ (n < 0 ∨ 4096 < n)) := by
      cases hb : rightB W xs with
      | false => exact .inl rfl
      | true => right; refine ⟨rfl, ?_⟩; simp [hb] at hc; omega
    clear hc
    rcases hcase with h | ⟨h, h1⟩
    · rw [h] at HOK
      go_enter Tryz.func92, Tryz.ntmps92
      go_wp2_with fail
      refine (HOK.out _ hr').mono ?_
      rintro e w1 ⟨rfl, hb1⟩
      have B1 := chain h2 hb1
      have bR1 := bR0.next hb1
      obtain ⟨r0, r1⟩ := bR1.cells
      have f0 := bR1.free 0
      have f1 := bR1.free 1
      go_wp2
      exact bodyPost_ret (v := .tuple #[.agg #[.int .i64 0, .slice none 0 0], .bool false]) (by simp [results, Tryz.results92, go_sem, r0, r1]) rfl (RetB.no ((B1.setCell (by simp) _).setCell (by simp) _))
    · rw [h] at HOK
      rcases h1 with h1 | h1
      · go_enter Tryz.func92, Tryz.ntmps92
        go_wp2_with fail
        refine (HOK.out _ hr').mono ?_
        rintro e w1 ⟨rfl, hb1⟩
        have B1 := chain h2 hb1
        have bR1 := bR0.next hb1
        obtain ⟨r0, r1⟩ := bR1.cells
        have f0 := bR1.free 0
        have f1 := bR1.free 1
        go_wp2
        exact bodyPost_ret (v := .tuple #[.agg #[.int .i64 0, .slice none 0 0], .bool false]) (by simp [results, Tryz.results92, go_sem, r0, r1]) rfl (RetB.no ((B1.setCell (by simp) _).setCell (by simp) _))
      · have h2' : ¬ n < 0 := by omega
        go_enter Tryz.func92, Tryz.ntmps92
        go_wp2_with fail
        refine (HOK.out _ hr').mono ?_
        rintro e w1 ⟨rfl, hb1⟩
        have B1 := chain h2 hb1
        have bR1 := bR0.next hb1
        obtain ⟨r0, r1⟩ := bR1.cells
        have f0 := bR1.free 0
        have f1 := bR1.free 1
        go_wp2
        exact bodyPost_ret (v := .tuple #[.agg #[.int .i64 0, .slice none 0 0], .bool false]) (by simp [results, Tryz.results92, go_sem, r0, r1]) rfl (RetB.no ((B1.setCell (by simp) _).setCell (by simp) _))

end Go.Proofs.YtbpodkdlhjgncaaGreatDoor

/- What a term is by values: plain facts. No program in sight. -/
namespace Go.Proofs.YtbpodkdlhjgncaaGreatDoor
set_option linter.unusedVariables false
set_option linter.unusedSimpArgs false
open Go.RowKit

abbrev Wd := Int × List Nat

theorem op_nine {x : Int} (h1 : 1 ≤ x) (h9 : x ≤ 9) : x = 1 ∨ x = 2 ∨ x = 3 ∨ x = 4 ∨ x = 5 ∨ x = 6 ∨ x = 7 ∨ x = 8 ∨ x = 9 := by omega

def okWd (x : Wd) : Prop := rightB x.1 x.2 = true ∧ ∀ y ∈ x.2, y < 18446744073709551616

def two (r : Int × List Nat × Bool) : Wd := (r.1, r.2.1)

def joinW (x y : Wd) : Wd := two (joinR x.1 x.2 y.1 y.2)

/-- Words put into one, the highest bits first. -/
def catS : List Wd → Wd
  | [] => (0, [])
  | k :: t => t.foldl joinW k

def sumV (l : List Wd) : Int := (l.map Prod.fst).sum

def kidsV (all : List Wd) (ks : List Int) : List Wd := ks.map fun k => all.getD k.toNat (0, [])

/-- What a node with one Kid is. -/
def opV (op a b : Int) (x : Wd) : Wd :=
  if op = 4 then two (partR x.1 x.2 a b)
  else if op = 5 then two (wdnR x.1 x.2 a false)
  else if op = 6 then two (wdnR x.1 x.2 a true)
  else if op = 7 then two (turnR x.1 x.2 a)
  else if op = 8 then two (turnR x.1 x.2 ((x.1 - a % x.1) % x.1))
  else two (repR x.1 x.2 a)

def nodV (vs all : List Wd) (n : Tc) : Wd :=
  if n.op = 1 then vs.getD n.vr.toNat (0, [])
  else if n.op = 2 then (n.bw, n.ws)
  else if n.op = 3 then catS (kidsV all n.ks)
  else opV n.op n.a n.b (all.getD (n.ks.getD 0 0).toNat (0, []))

/-- What all nodes are, one behind the other. -/
def evR (vs : List Wd) (ns : List Tc) : List Wd := ns.foldl (fun all n => all ++ [nodV vs all n]) []

theorem pk_ok {W : Int} (bs : List Nat) (hb : ∀ x ∈ bs, x ≤ 1) (h1 : 1 ≤ bs.length) (h2 : bs.length ≤ 4096) (hW : W = (bs.length : Int)) : okWd (W, pack bs) := by
  subst hW
  exact ⟨pack_right bs hb h1 h2, pack_lt bs⟩

theorem joinW_ok {x y : Wd} (hx : okWd x) (hy : okWd y) (h : x.1 + y.1 ≤ 4096) : (joinW x y).1 = x.1 + y.1 ∧ okWd (joinW x y) ∧ joinW x y = (x.1 + y.1, pack (joinL x.1 x.2 y.1 y.2)) := by
  have a := right_W hx.1
  have b := right_W hy.1
  have hl : (joinL x.1 x.2 y.1 y.2).length = (x.1 + y.1).toNat := by simp only [joinL, List.length_append, bitsTo_len]; omega
  have hb : ∀ z ∈ joinL x.1 x.2 y.1 y.2, z ≤ 1 := fun z hz => by
    rcases List.mem_append.1 hz with hz | hz
    · exact bitsTo_le _ _ z hz
    · exact bitsTo_le _ _ z hz
  have e : joinW x y = (x.1 + y.1, pack (joinL x.1 x.2 y.1 y.2)) := by
    unfold joinW two
    rw [joinR, if_pos ⟨hx.1, hy.1⟩, fromR, if_pos ⟨by omega, by omega⟩]
    simp only [Prod.mk.injEq, and_true]
    omega
  rw [e]
  exact ⟨rfl, pk_ok _ hb (by omega) (by omega) (by omega), rfl⟩

theorem bitsTo_at (xs : List Nat) (k i : Nat) : (bitsTo xs k).getD i 0 = if i < k then (tb xs i).toNat else 0 := by
  unfold bitsTo
  by_cases h : i < k
  · simp [List.getD, h]
  · simp [List.getD, h]

theorem tb_join {x y : Wd} (hx : okWd x) (hy : okWd y) (h : x.1 + y.1 ≤ 4096) (j : Nat) : tb (joinW x y).2 j = (tb y.2 j || (decide (y.1.toNat ≤ j) && tb x.2 (j - y.1.toNat))) := by
  have a := right_W hx.1
  have b := right_W hy.1
  have hb : ∀ z ∈ joinL x.1 x.2 y.1 y.2, z ≤ 1 := fun z hz => by
    rcases List.mem_append.1 hz with hz | hz
    · exact bitsTo_le _ _ z hz
    · exact bitsTo_le _ _ z hz
  rw [(joinW_ok hx hy h).2.2, tb_pack _ hb]
  unfold joinL
  by_cases hj : j < y.1.toNat
  · have e : (bitsTo y.2 y.1.toNat ++ bitsTo x.2 x.1.toNat).getD j 0 = (tb y.2 j).toNat := by
      rw [getD_left _ _ _ _ (by rw [bitsTo_len]; exact hj), bitsTo_at, if_pos hj]
    rw [e]
    have : ¬ y.1.toNat ≤ j := by omega
    cases tb y.2 j <;> simp [this]
  · have e : (bitsTo y.2 y.1.toNat ++ bitsTo x.2 x.1.toNat).getD j 0 = (bitsTo x.2 x.1.toNat).getD (j - y.1.toNat) 0 := by
      rw [getD_right _ _ _ _ (by rw [bitsTo_len]; omega), bitsTo_len]
    have ho : tb y.2 j = false := tb_out hy.1 j (by omega)
    rw [e, ho, bitsTo_at]
    have : y.1.toNat ≤ j := by omega
    split
    · cases tb x.2 (j - y.1.toNat) <;> simp [this]
    · rw [tb_out hx.1 (j - y.1.toNat) (by omega)]; simp

theorem catS_take {l : List Wd} {i : Nat} {y : Wd} (h : l[i]? = some y) : catS (l.take (i + 1)) = if i = 0 then y else joinW (catS (l.take i)) y := by
  match l, i, h with
  | k :: t, 0, h => simp at h; subst h; rfl
  | k :: t, i + 1, h =>
    have h' : t[i]? = some y := by simpa using h
    rw [if_neg (by omega), List.take_succ_cons, List.take_succ_cons]
    show (t.take (i + 1)).foldl joinW k = joinW ((t.take i).foldl joinW k) y
    rw [List.take_add_one, h', List.foldl_append]
    rfl

theorem sumV_take {l : List Wd} {i : Nat} {y : Wd} (h : l[i]? = some y) : sumV (l.take (i + 1)) = sumV (l.take i) + y.1 := by
  unfold sumV
  rw [List.take_add_one, h]
  simp

theorem sumV_nonneg {l : List Wd} (h : ∀ x ∈ l, okWd x) : 0 ≤ sumV l := by
  induction l with
  | nil => simp [sumV]
  | cons x t ih =>
    have a := right_W (h x (by simp)).1
    have b := ih fun y hy => h y (by simp [hy])
    simp only [sumV, List.map_cons, List.sum_cons] at b ⊢
    omega

theorem sumV_split (l : List Wd) (i : Nat) : sumV l = sumV (l.take i) + sumV (l.drop i) := by
  unfold sumV
  rw [← List.sum_append, ← List.map_append, List.take_append_drop]

theorem sumV_take_le {l : List Wd} (h : ∀ x ∈ l, okWd x) (i : Nat) : 0 ≤ sumV (l.take i) ∧ sumV (l.take i) ≤ sumV l := by
  have a := sumV_split l i
  have b := sumV_nonneg (l := l.take i) fun x hx => h x (List.mem_of_mem_take hx)
  have c := sumV_nonneg (l := l.drop i) fun x hx => h x (List.mem_of_mem_drop hx)
  omega

theorem cat_ok {l : List Wd} (h : ∀ x ∈ l, okWd x) (hs : sumV l ≤ 4096) : ∀ i, i < l.length → (catS (l.take (i + 1))).1 = sumV (l.take (i + 1)) ∧ okWd (catS (l.take (i + 1)))
  | 0, hi => by
    have hg : l[0]? = some l[0] := List.getElem?_eq_getElem hi
    rw [catS_take hg, sumV_take hg, if_pos rfl]
    exact ⟨by simp [sumV], h _ (List.getElem_mem hi)⟩
  | i + 1, hi => by
    have hg : l[i + 1]? = some l[i + 1] := List.getElem?_eq_getElem hi
    obtain ⟨h1, h2⟩ := cat_ok h hs i (by omega)
    have hy := h _ (List.getElem_mem hi)
    have hle := (sumV_take_le h (i + 1 + 1)).2
    rw [sumV_take hg] at hle
    rw [catS_take hg, sumV_take hg, if_neg (by omega)]
    obtain ⟨e1, e2, -⟩ := joinW_ok h2 hy (by omega)
    exact ⟨by rw [e1, h1], e2⟩

theorem cat_all {l : List Wd} (h : ∀ x ∈ l, okWd x) (hs : sumV l ≤ 4096) (hl : 1 ≤ l.length) : (catS l).1 = sumV l ∧ okWd (catS l) := by
  have := cat_ok h hs (l.length - 1) (by omega)
  rw [show l.length - 1 + 1 = l.length by omega, List.take_length] at this
  exact this

/-- What has come in so far of a row that is put together from its highest bits on. -/
def catSo (l : List Wd) (i P : Nat) (zs : List Nat) : Prop := ∀ j, tb zs j = (decide (P ≤ j) && tb (catS (l.take i)).2 (j - P))

theorem catSo.step {l : List Wd} {i P V : Nat} {y : Wd} {zs : List Nat} (hz : catSo l i (P + V) zs) (h : ∀ x ∈ l, okWd x) (hs : sumV l ≤ 4096) (hg : l[i]? = some y) (hV : y.1 = (V : Int)) (hroom : P + V ≤ 64 * zs.length) :
    catSo l (i + 1) P (putTo zs y.2 (P / 64) (P % 64) y.2.length) := by
  intro j
  have hy := h y (List.mem_of_getElem? hg)
  have hyr : rightB (V : Int) y.2 = true := by rw [← hV]; exact hy.1
  rw [tb_put_right hyr hy.2 zs P hroom, hz j, catS_take hg]
  by_cases hi : i = 0
  · subst hi
    rw [if_pos rfl]
    have e : tb (catS (l.take 0)).2 (j - (P + V)) = false := by
      simp [catS, tb]
    rw [e]
    simp
  · rw [if_neg hi]
    obtain ⟨h1, h2⟩ := cat_ok h hs (i - 1) (by have := (List.getElem?_eq_some_iff.1 hg).1; omega)
    rw [show i - 1 + 1 = i by omega] at h1 h2
    have hle := (sumV_take_le h (i + 1)).2
    rw [sumV_take hg] at hle
    rw [tb_join h2 hy (by omega)]
    have hvn : y.1.toNat = V := by omega
    rw [hvn, show j - P - V = j - (P + V) by omega]
    by_cases c1 : P ≤ j
    · by_cases c2 : P + V ≤ j
      · have : V ≤ j - P := by omega
        simp [c1, c2, this, Bool.or_comm]
      · have : ¬ V ≤ j - P := by omega
        simp [c1, c2, this]
    · have : ¬ P + V ≤ j := by omega
      simp [c1, this]

theorem catSo.done {l : List Wd} {W : Nat} {zs : List Nat} (hz : catSo l l.length 0 zs) (h : ∀ x ∈ l, okWd x) (hs : sumV l ≤ 4096) (hl : 1 ≤ l.length) (hW : sumV l = (W : Int)) (hzl : zs.length = (W + 63) / 64) (hzb : ∀ x ∈ zs, x < 18446744073709551616) : catS l = ((W : Int), zs) := by
  obtain ⟨h1, h2⟩ := cat_all h hs hl
  have hr := right_W h2.1
  have e : zs = (catS l).2 := by
    refine tb_ext (by omega) hzb h2.2 (fun j _ => ?_)
    rw [hz j, List.take_length]
    simp
  rw [e, ← hW, ← h1]

theorem catSo.start (l : List Wd) (P N : Nat) : catSo l 0 P (List.replicate N 0) := by
  intro j
  rw [tb_zero]
  simp [catS, tb]

end Go.Proofs.YtbpodkdlhjgncaaGreatDoor
