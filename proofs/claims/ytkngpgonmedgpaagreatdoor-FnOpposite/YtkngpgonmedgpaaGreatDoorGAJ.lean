/- Several texts in one. -/
import Derived.Test.YtkngpgonmedgpaaGreatDoorGAI
import Derived.Deep.RegionHeldLaw
import Derived.Deep.RegionHeld3
import Derived.Test.YtkngpgonmedgpaaGreatDoorGAF
import Derived.Test.YtkngpgonmedgpaaGreatDoorGAG
namespace Go.Proofs.YtkngpgonmedgpaaGreatDoor
open Go.RowKit
set_option linter.unusedVariables false
set_option linter.unusedSimpArgs false
theorem l1From_any (a : Option Addr) (c : Nat) (bs : List Nat) (w : World) (hr : RdB w a bs) :
    Calls Tryz.prog 88 #[.slice a bs.length c] w (RetB w (fromR bs)) := by
  by_cases h : 1 ≤ bs.length ∧ bs.length ≤ 4096
  · rw [fromR, if_pos h]; exact l1From_yes a c bs w hr h.1 h.2
  · rw [fromR, if_neg h]
    refine (l1From_no a bs.length c w (by omega) hr.1).mono ?_
    rintro e w' ⟨rfl, hb⟩
    exact RetB.no hb
def joinL (W : Int) (xs : List Nat) (V : Int) (ys : List Nat) : List Nat := bitsTo ys V.toNat ++ bitsTo xs W.toNat
def joinR (W : Int) (xs : List Nat) (V : Int) (ys : List Nat) : Int × List Nat × Bool :=
  if rightB W xs = true ∧ rightB V ys = true then fromR (joinL W xs V ys) else noR
theorem step_appBs (w : World) {ops : Array Oper} {o : Oper} {a : Act} {K : Act → World → Prop} {Q : Exit → Act → World → Prop} {E : Prop} (hgd : o.guard = none) (s x : Operand)
    (ho : o.op = .call { callee := .builtin .append, args := #[s, x], argTypes := #[22, 22] })
    (base : Nat) (v : Value) (bs ys : List Nat) (hs : a.eval s = v) (hown : OwB w base v bs) (b ob c : Nat) (hx : a.eval x = .slice (some ⟨b, ob, none⟩) ys.length c)
    (hc : ∀ i, i < ys.length → w.cell? ⟨b, ob + i, none⟩ = some (.int .u8 ((ys.getD i 0 : Nat) : Int))) (hl : bs.length + ys.length ≤ 4194304) (hbase : base ≤ w.heap.size)
    (h : ∀ v' w', OwB w' base v' (bs ++ ys) → w.grownBy w' v.ownBlock → K (a.put o.dst v') w') :
    if Region.wanted o (yielded ops a.tmps) = true then Oper.wp Tryz.prog o a w K Q else E := by
  have hw : Region.wanted o (yielded ops a.tmps) = true := by simp [Region.wanted, hgd]
  rw [if_pos hw]
  obtain ⟨i0, hi, hz0, hz1, hz2⟩ := info_parts Tryz.infoU8
  refine wp_append_own w s x 22 ho base 5 i0 (.int .u8 0) 1 1 Tryz.underlying22 hi hz0 hz1 hz2 rfl (by decide) v bs.length (u8s bs) hs hown ⟨b, ob, none⟩ ys.length c (u8s ys) hx (by simp [u8s]) ?_ ?_ ?_ ?_ hbase ?_
  · intro j u hj
    have hj' : j < ys.length := by
      have := (List.getElem?_eq_some_iff.1 hj).1
      simpa [u8s] using this
    rw [Addr.add_lit, hc j hj']
    simp [u8s, hj'] at hj
    rw [← hj]
    simp [List.getD, hj']
  · intro u hu
    obtain ⟨_, _, rfl⟩ := List.mem_map.1 hu
    rfl
  · unfold maxLen; omega
  · omega
  · intro v' w' h1 h2 _
    refine h v' w' ?_ h2
    unfold OwB
    simpa [u8s] using h1
theorem undrewG {w w' : World} (h : Below w.drew.heap.size w.drew w') : Below w.heap.size w w' := ⟨h.os, h.tape, h.output, h.size, h.block⟩
theorem OwB.undrew {w w' : World} {v : Value} {bs : List Nat} (h : OwB w' (w.drew.heap.size + 1) v bs) : OwB w' (w.heap.size + 1) v bs := h
set_option maxHeartbeats 2000000 in
set_option maxRecDepth 100000 in
theorem specJoin_any (W : Int) (a : Option Addr) (c : Nat) (xs : List Nat) (V : Int) (b : Option Addr) (d : Nat) (ys : List Nat) (w : World) (hr : Rd w a xs) (hs : Rd w b ys) :
    Calls Tryz.prog 96 #[.agg #[.int .i64 W, .slice a xs.length c], .agg #[.int .i64 V, .slice b ys.length d]] w (RetB w (joinR W xs V ys)) := by
  have h3 : Below w.heap.size w (((w.alloc (Obj.cells #[.int IntKind.i64 W, .slice a xs.length c] 80)).alloc (Obj.cells #[.int IntKind.i64 V, .slice b ys.length d] 80)).alloc (Obj.cells #[.int IntKind.i64 0, .slice none 0 0] 80)) := Ba (Ba (Ba (Below.refl _ _) _) _) _
  have hr' := hr.later h3
  have hs' := hs.later h3
  have bR0 := Blk.new2 w (Obj.cells #[.int IntKind.i64 W, .slice a xs.length c] 80) (Obj.cells #[.int IntKind.i64 V, .slice b ys.length d] 80) (Value.int IntKind.i64 0) (Value.slice none 0 0) 80
  have bB0 := (Blk.new1 w (Obj.cells #[.int IntKind.i64 W, .slice a xs.length c] 80) (Value.int IntKind.i64 V) (Value.slice b ys.length d) 80).alloc (Obj.cells #[.int IntKind.i64 0, .slice none 0 0] 80)
  have bA0 := ((Blk.new w (Value.int IntKind.i64 W) (Value.slice a xs.length c) 80).alloc (Obj.cells #[.int IntKind.i64 V, .slice b ys.length d] 80)).alloc (Obj.cells #[.int IntKind.i64 0, .slice none 0 0] 80)
  have hOk : ∀ (W : Int) (a : Option Addr) (c : Nat) (xs : List Nat) (u : World) (r : Bool), rightB W xs = r → Rd u a xs → Calls Tryz.prog 71 #[.agg #[.int .i64 W, .slice a xs.length c]] u fun e w' => e = .returned (.bool r) ∧ Below u.heap.size u w' := fun W a c xs u r h hu => by
    have := specOk_any W a c xs u hu
    rwa [h] at this
  have HOK : Hid _ := hOk
  clear hOk
  cases hoa : rightB W xs with
  | false =>
    have hc : joinR W xs V ys = noR := by unfold joinR; simp [hoa]
    rw [hc]
    go_enter Tryz.func96, Tryz.ntmps96
    go_wp2_with fail
    refine (HOK.out _ _ _ _ _ _ hoa hr').mono ?_
    rintro e w3 ⟨rfl, hb3⟩
    have B3 := chain h3 hb3
    have bR3 := bR0.next hb3
    obtain ⟨r0, r1⟩ := bR3.cells
    have f0 := bR3.free 0
    have f1 := bR3.free 1
    go_wp2
    exact bodyPost_ret (v := .tuple #[.agg #[.int .i64 0, .slice none 0 0], .bool false]) (by simp [results, Tryz.results96, go_sem, r0, r1]) rfl (RetB.no ((B3.setCell (by simp; omega) _).setCell (by simp; omega) _))
  | true =>
    obtain ⟨c0, c1⟩ := bA0.cells
    obtain ⟨d0, d1⟩ := bB0.cells
    cases hob : rightB V ys with
    | false =>
      have hc : joinR W xs V ys = noR := by unfold joinR; simp [hob]
      rw [hc]
      go_enter Tryz.func96, Tryz.ntmps96
      go_wp2_with fail
      refine (HOK.out _ _ _ _ _ _ hoa hr').mono ?_
      rintro e w3 ⟨rfl, hb3⟩
      have B3 := chain h3 hb3
      have bB3 := bB0.next hb3
      obtain ⟨l0, l1⟩ := bB3.cells
      go_wp2_with fail
      refine (HOK.out _ _ _ _ _ _ hob (hs'.later hb3)).mono ?_
      rintro e w4 ⟨rfl, hb4⟩
      have B4 := chain B3 hb4
      have bR4 := (bR0.next hb3).next hb4
      obtain ⟨r0, r1⟩ := bR4.cells
      have f0 := bR4.free 0
      have f1 := bR4.free 1
      go_wp2
      exact bodyPost_ret (v := .tuple #[.agg #[.int .i64 0, .slice none 0 0], .bool false]) (by simp [results, Tryz.results96, go_sem, r0, r1]) rfl (RetB.no ((B4.setCell (by simp; omega) _).setCell (by simp; omega) _))
    | true =>
      have hc : joinR W xs V ys = fromR (joinL W xs V ys) := by unfold joinR; simp [hoa, hob]
      rw [hc]
      clear hc
      obtain ⟨hW1, hW2, hWl⟩ := right_W hoa
      obtain ⟨hV1, hV2, hVl⟩ := right_W hob
      obtain ⟨P, rfl⟩ := Int.eq_ofNat_of_zero_le (show 0 ≤ W by omega)
      obtain ⟨q, rfl⟩ := Int.eq_ofNat_of_zero_le (show 0 ≤ V by omega)
      have hPl : P ≤ 64 * xs.length := by omega
      have hql : q ≤ 64 * ys.length := by omega
      clear hWl hVl
      have HJ : Hid (joinL (P : Int) xs (q : Int) ys = bitsTo ys q ++ bitsTo xs P) := rfl
      have hlx := bitsTo_len xs P
      have hly := bitsTo_len ys q
      have hbx := bitsTo_le xs P
      have hby := bitsTo_le ys q
      generalize joinL (P : Int) xs (q : Int) ys = J at *
      have hLX : ∀ u : World, Rd u a xs → Calls Tryz.prog 126 #[.agg #[.int .i64 P, .slice a xs.length c]] u fun e w' => ∃ v, e = .returned v ∧ OwB w' (u.heap.size + 1) v (bitsTo xs P) ∧ Below u.heap.size u w' := fun u hu => l1List_any P a c xs u hu hPl (by omega)
      have hLY : ∀ u : World, Rd u b ys → Calls Tryz.prog 126 #[.agg #[.int .i64 q, .slice b ys.length d]] u fun e w' => ∃ v, e = .returned v ∧ OwB w' (u.heap.size + 1) v (bitsTo ys q) ∧ Below u.heap.size u w' := fun u hu => l1List_any q b d ys u hu hql (by omega)
      have HLX : Hid _ := hLX
      have HLY : Hid _ := hLY
      clear hLX hLY
      go_enter Tryz.func96, Tryz.ntmps96
      go_wp2_with fail
      refine (HOK.out _ _ _ _ _ _ hoa hr').mono ?_
      rintro e w3 ⟨rfl, hb3⟩
      have B3 := chain h3 hb3
      have bB3 := bB0.next hb3
      obtain ⟨l0, l1⟩ := bB3.cells
      go_wp2_with fail
      refine (HOK.out _ _ _ _ _ _ hob (hs'.later hb3)).mono ?_
      rintro e w4 ⟨rfl, hb4⟩
      have B4 := chain B3 hb4
      have bA4 := (bA0.next hb3).next hb4
      have bB4 := (bB0.next hb3).next hb4
      have bR4 := (bR0.next hb3).next hb4
      clear hb3 hb4 B3 bB3 l0 l1 c0 c1 d0 d1 bA0 bB0 bR0 h3 hr' hs' HOK
      obtain ⟨k0, k1⟩ := bA4.cells
      obtain ⟨l0, l1⟩ := bB4.cells
      have r4 := hr.later B4
      have s4 := hs.later B4
      generalize bitsTo xs P = bx at *
      generalize bitsTo ys q = by_ at *
      have hxp : 0 < bx.length := by omega
      have hll : by_.length + bx.length ≤ 4194304 := by omega
      have hbb : ∀ x ∈ by_ ++ bx, x < 256 := fun x hx => by rcases List.mem_append.1 hx with h | h; · have := hby x h; omega
                                                            · have := hbx x h; omega
      have hJl : J.length ≤ 4194304 := by rw [HJ.out, List.length_append]; exact hll
      have hJb : ∀ x ∈ J, x < 256 := by rw [HJ.out]; exact hbb
      clear hlx hly hbb
      go_wp2_with fail
      go_region_held_law (fun u => u.cell? ⟨w.heap.size, 0, none⟩ = some (Value.int IntKind.i64 P) ∧ u.cell? ⟨w.heap.size, 1, none⟩ = some (Value.slice a xs.length c) ∧ u.cell? ⟨w.heap.size + 1, 0, none⟩ = some (Value.int IntKind.i64 q) ∧ u.cell? ⟨w.heap.size + 1, 1, none⟩ = some (Value.slice b ys.length d)) (first | (simp [*]; done) | (refine ⟨?_, ?_, ?_, ?_⟩ <;> rw [World.cell?_setCell_far _ _ _ _ (by simp <;> omega), World.cell?_setCell_far _ _ _ _ (by simp <;> omega)] <;> assumption))
        (first
          | (go_at_call_of 126 ys; refine (HLY.out _ ?_).mono ?_; exact s4; rintro e w5 ⟨v5, rfl, how5, hb5⟩; replace hb5 := undrewG hb5; replace how5 := OwB.undrew how5; have bA5 := bA4.next hb5; have bB5 := bB4.next hb5; obtain ⟨m0, m1⟩ := bA5.cells; obtain ⟨n0, n1⟩ := bB5.cells)
          | (go_at_call_of 126 xs; refine (HLX.out _ (r4.later hb5)).mono ?_; rintro e w6 ⟨v6, rfl, how6, hb6⟩; have bA6 := bA5.next hb6; have bB6 := bB5.next hb6; obtain ⟨p0, p1⟩ := bA6.cells; obtain ⟨q0, q1⟩ := bB6.cells; obtain ⟨a6, c6, rfl, hrb6, -, -⟩ := how6.shape (by have := hxp; omega) (fun x hx => by have := hbx x hx; omega); obtain ⟨bb, oo, rfl, hcell⟩ := hrb6.2.2.resolve_left (fun h => by rw [h] at hxp; simp at hxp))
          | (go_at_call 88; refine (l1From_any _ _ _ _ hrb7).mono ?_; rintro e w8 ⟨a8, c8, rfl, hfr8, hb8⟩; have hb9 := chain hb7 hb8; have bR8 := bR4.next hb9; obtain ⟨r0, r1⟩ := bR8.cells; have f0 := bR8.free 0; have f1 := bR8.free 1; have bA8 := bA4.next hb9; have bB8 := bB4.next hb9; obtain ⟨u0, u1⟩ := bA8.cells; obtain ⟨v0, v1⟩ := bB8.cells)
          | (refine step_appBs _ rfl _ _ rfl (w4.heap.size + 1) _ by_ bx rfl (how5.kept hb6) bb oo c6 rfl hcell hll (by have h1 := how6.own bb rfl; have h2 := block_lt_of_cell (hcell 0 hxp); have h3 := hb5.size; simp at h2; omega) ?_; intro v7 w7 how7 hgr7; rw [← HJ.out] at how7; have hb7 : Below w4.heap.size w4 w7 := (chain hb5 hb6).grown hgr7 (chain hb5 hb6).size (fun k hk => by have := how5.own k hk; omega); have bA7 := bA4.next hb7; have bB7 := bB4.next hb7; obtain ⟨s0, s1⟩ := bA7.cells; obtain ⟨t0, t1⟩ := bB7.cells; obtain ⟨a7, c7, rfl, hrb7, -, -⟩ := how7.shape hJl hJb))
      have B8 := chain B4 hb9
      have s4 := bR4.lt
      have s7 := hb7.size
      go_wp2
      exact bodyPost_ret (by simp [results, Tryz.results96, go_sem, r0, r1]; rfl) rfl (RetB.close (r := fromR J) hfr8 (by omega) (by omega) B8 rfl _ _)

theorem Dw.row {β : Nat} {w1 w2 : World} {o : Obj} (h : Dw β (w1.alloc o) w2) (hβ : β < w1.heap.size) : w2.heap[w1.heap.size]? = some o := by
 rw [World.grownBy.block h w1.heap.size (by simp) (by simp; omega), heap_alloc_new]
theorem wrap64_of {x : Int} (h1 : -9223372036854775808 ≤ x) (h2 : x ≤ 9223372036854775807) : wrap64 x = x := by
 unfold wrap64; omega
theorem near_any (l h : Nat) (hlh : l ≤ h) (hh : h ≤ 4194304) (β : Nat) (a : Option Addr) (c : Nat) (bs : List Nat) (w : World) (hr : Rr w β a c bs) :
  Calls Tryz.prog 91 #[.pointer (some ⟨β, 0, none⟩), .int .i64 l, .int .i64 h] w fun e w' => ∃ x : Nat, e = .returned (.int .i64 x) ∧ l ≤ x ∧ x ≤ h ∧ Rr w' β a c bs ∧ Dw β w w' := by
 go_enter Tryz.func91, Tryz.ntmps91
 go_wp2_with fail
 refine (below_any 8 (by omega) β a c bs _ hr).mono ?_
 rintro e w1 ⟨x, rfl, hx, hr1, hd1⟩
 rcases Nat.lt_or_ge 1 x with h1 | h1
 ·have n0 : ¬ x = 0 := by omega
  have n1 : ¬ x = 1 := by omega
  have n0i : ¬ (x : Int) = 0 := by omega
  have n1i : ¬ (x : Int) = 1 := by omega
  have n2i : ¬ (h : Int) < (l : Int) := by omega
  go_wp2_with fail
  refine (word_any β a c bs _ hr1).mono ?_
  rintro e w2 ⟨y, rfl, hy, hr2, hd2⟩
  have hm : y / 2 % (h - l + 1) < h - l + 1 := Nat.mod_lt _ (by omega)
  have e1 : ((y : Int) / 2 % ((h : Int) - (l : Int) + 1)) = ((y / 2 % (h - l + 1) : Nat) : Int) := by
   rw [Int.natCast_emod, Int.natCast_ediv]; congr 1; omega
  generalize hz : y / 2 % (h - l + 1) = z at *
  have E1 : Hid ((y : Int) / 2 % ((h : Int) - (l : Int) + 1) = (z : Int)) := e1
  clear e1 hz
  go_wp2
  go_ret
  refine ⟨l + z, ?_, by omega, by omega, hr2, hd1.trans hd2⟩
  rw [E1.out, wrap64_of (show -9223372036854775808 ≤ (z : Int) by omega) (by omega), wrap64_of (by omega) (by omega)]
  simp
 ·obtain rfl | rfl : x = 0 ∨ x = 1 := by omega
  ·go_wp2
   go_ret
   exact ⟨l, rfl, Nat.le_refl _, hlh, hr1, hd1⟩
  ·go_wp2
   go_ret
   exact ⟨h, rfl, hlh, Nat.le_refl _, hr1, hd1⟩
theorem off_any (l h : Nat) (hlh : l ≤ h) (hh : h ≤ 4194304) (β : Nat) (a : Option Addr) (c : Nat) (bs : List Nat) (w : World) (hr : Rr w β a c bs) :
  Calls Tryz.prog 68 #[.pointer (some ⟨β, 0, none⟩), .int .i64 l, .int .i64 h] w fun e w' => ∃ x : Int, e = .returned (.int .i64 x) ∧ -9223372036854775808 ≤ x ∧ x ≤ 9223372036854775807 ∧ Rr w' β a c bs ∧ Dw β w w' := by
 go_enter Tryz.func68, Tryz.ntmps68
 go_wp2_with fail
 refine (once_any 24 (by omega) (by omega) β a c bs _ hr).mono ?_
 rintro e w1 ⟨x, rfl, hr1, hd1⟩
 cases x with
 | true =>
  have hβ : β < w1.heap.size := by obtain ⟨p, _, hk, _⟩ := hr1; exact hk.lt
  go_wp2_with fail
  refine (below_any 4 (by omega) β a c bs _ (hr1.later ((Below.refl _ _).alloc (Nat.le_refl _) _))).mono ?_
  rintro e w2 ⟨y, rfl, hy, hr2, hd2⟩
  have hrow := hd2.row hβ
  have hy4 : y < 4 := by omega
  obtain ⟨z, hz1, hz2, hcell⟩ : ∃ z : Int, -9223372036854775808 ≤ z ∧ z ≤ 9223372036854775807 ∧ w2.cell? ⟨w1.heap.size, y, none⟩ = some (.int .i64 z) := by
   rw [cell_of_row w2 _ y _ _ _ hrow]
   match y, hy4 with
   | 0, _ => exact ⟨(l : Int) - 1, by omega, by omega, rfl⟩
   | 1, _ => exact ⟨(h : Int) + 1, by omega, by omega, rfl⟩
   | 2, _ => exact ⟨-9223372036854775808, by omega, by omega, rfl⟩
   | 3, _ => exact ⟨9223372036854775807, by omega, by omega, rfl⟩
  have hd := hd1.trans ((Dw.of ((Below.refl _ _).alloc (Nat.le_refl _) _)).trans hd2)
  clear hrow hd2
  go_wp2
  go_ret
  exact ⟨z, rfl, hz1, hz2, hr2, hd⟩
 | false =>
  go_wp2_with fail
  refine (near_any l h hlh hh β a c bs _ hr1).mono ?_
  rintro e w2 ⟨y, rfl, hy1, hy2, hr2, hd2⟩
  go_wp2
  go_ret
  exact ⟨y, rfl, by omega, by omega, hr2, hd1.trans hd2⟩
theorem wide_any (β : Nat) (a : Option Addr) (c : Nat) (bs : List Nat) (w : World) (hr : Rr w β a c bs) :
  Calls Tryz.prog 63 #[.pointer (some ⟨β, 0, none⟩)] w fun e w' => ∃ x : Nat, e = .returned (.int .i64 x) ∧ 1 ≤ x ∧ x ≤ 200 ∧ Rr w' β a c bs ∧ Dw β w w' := by
 go_enter Tryz.func63, Tryz.ntmps63
 go_wp2_with fail
 refine (below_any 10 (by omega) β a c bs _ hr).mono ?_
 rintro e w1 ⟨x, rfl, hx, hr1, hd1⟩
 rcases Nat.lt_or_ge 1 x with h1 | h1
 ·have n0 : ¬ x = 0 := by omega
  have n1 : ¬ x = 1 := by omega
  have n0i : ¬ (x : Int) = 0 := by omega
  have n1i : ¬ (x : Int) = 1 := by omega
  go_wp2_with fail
  refine (below_any 12 (by omega) β a c bs _ hr1).mono ?_
  rintro e w2 ⟨y, rfl, hy, hr2, hd2⟩
  go_wp2
  go_ret
  exact ⟨1 + y, by simp, by omega, by omega, hr2, hd1.trans hd2⟩
 ·obtain rfl | rfl : x = 0 ∨ x = 1 := by omega
  ·have hβ : β < w1.heap.size := by obtain ⟨p, _, hk, _⟩ := hr1; exact hk.lt
   go_wp2_with fail
   refine (below_any 7 (by omega) β a c bs _ (hr1.later ((Below.refl _ _).alloc (Nat.le_refl _) _))).mono ?_
   rintro e w2 ⟨y, rfl, hy, hr2, hd2⟩
   have hrow := hd2.row hβ
   have hy7 : y < 7 := by omega
   obtain ⟨z, hz1, hz2, hcell⟩ : ∃ z : Nat, 1 ≤ z ∧ z ≤ 200 ∧ w2.cell? ⟨w1.heap.size, y, none⟩ = some (.int .i64 z) := by
    rw [cell_of_row w2 _ y _ _ _ hrow]
    match y, hy7 with
    | 0, _ => exact ⟨63, by omega, by omega, rfl⟩
    | 1, _ => exact ⟨64, by omega, by omega, rfl⟩
    | 2, _ => exact ⟨65, by omega, by omega, rfl⟩
    | 3, _ => exact ⟨127, by omega, by omega, rfl⟩
    | 4, _ => exact ⟨128, by omega, by omega, rfl⟩
    | 5, _ => exact ⟨129, by omega, by omega, rfl⟩
    | 6, _ => exact ⟨200, by omega, by omega, rfl⟩
   have hd := hd1.trans ((Dw.of ((Below.refl _ _).alloc (Nat.le_refl _) _)).trans hd2)
   clear hrow hd2
   go_wp2
   go_ret
   exact ⟨z, rfl, hz1, hz2, hr2, hd⟩
  ·go_wp2_with fail
   refine (below_any 40 (by omega) β a c bs _ hr1).mono ?_
   rintro e w2 ⟨y, rfl, hy, hr2, hd2⟩
   go_wp2
   go_ret
   exact ⟨1 + y, by simp, by omega, by omega, hr2, hd1.trans hd2⟩

theorem Blk.put0 {w : World} {β : Nat} {x y : Value} {t : TypeId} (h : Blk w β x y t) (u : Value) : Blk (w.setCell ⟨β, 0, none⟩ u) β u y t := by
  unfold Blk
  rw [heap_setCell_same w β 0 _ _ _ h]; rfl
theorem Rr.lt {w : World} {β : Nat} {a : Option Addr} {c : Nat} {bs : List Nat} (h : Rr w β a c bs) : β < w.heap.size := by
  obtain ⟨p, _, hk, _⟩ := h; exact hk.lt
theorem Rr.far {w0 w w' : World} {β : Nat} {a : Option Addr} {c : Nat} {bs : List Nat} {row : Option Nat} (h0 : Rr w0 β a c bs) (h : Rr w β a c bs) (hg : w.grownBy w' row) (hrow : ∀ k, row = some k → w0.heap.size ≤ k) : Rr w' β a c bs := by
  have hβ := h0.lt
  obtain ⟨_, _, _, ⟨_, _, h3⟩, _⟩ := h0
  obtain ⟨p, hp, hk, hr, hn⟩ := h
  refine ⟨p, hp, ?_, ?_, hn⟩
  · unfold Blk
    rw [hg.block β hk.lt (fun e => by have := hrow β e.symm; omega)]; exact hk
  · rcases h3 with h3 | ⟨b, o, rfl, hc⟩
    · subst h3; exact ⟨by simp, by simp, .inl rfl⟩
    · by_cases he : bs = []
      · subst he; exact ⟨by simp, by simp, .inl rfl⟩
      · have hb : b < w0.heap.size := block_lt_of_cell (hc 0 (List.length_pos_iff.2 he))
        exact hr.kept hg (fun x e _ h => by cases e; have := hrow _ h; simp at this; omega)
theorem Dw.own {β : Nat} {w0 w w' : World} {row : Option Nat} (h : Dw β w0 w) (hg : w.grownBy w' row) (hrow : ∀ k, row = some k → w0.heap.size ≤ k) : Dw β w0 w' :=
  ⟨hg.os.trans h.os, hg.tape.trans h.tape, hg.output.trans h.output, Nat.le_trans h.size hg.size, fun k hk hne => by
    rw [hg.block k (Nat.lt_of_lt_of_le hk h.size) (fun e => by have := hrow k e.symm; omega)]; exact h.block k hk hne⟩
theorem OwB.far {w w' : World} {base : Nat} {v : Value} {bs : List Nat} {β : Nat} (h : OwB w base v bs) (hd : Dw β w w') (hβ : β < base) : OwB w' base v bs := by
  obtain ⟨h1, h2⟩ := h
  refine ⟨h1, ?_⟩
  rcases h2 with h2 | ⟨g, cap, cur, rfl, hg, hh, r⟩
  · exact .inl h2
  · exact .inr ⟨g, cap, cur, rfl, hg, by rw [World.grownBy.block hd g (lt_of_block hh) (by simp; omega)]; exact hh, r⟩
set_option maxHeartbeats 1000000 in
set_option maxRecDepth 100000 in
theorem bits_any (V : Nat) (h1 : 1 ≤ V) (h2 : V ≤ 4096) (β : Nat) (a : Option Addr) (c : Nat) (bs : List Nat) (w : World) (hr : Rr w β a c bs) :
    Calls Tryz.prog 64 #[.pointer (some ⟨β, 0, none⟩), .int .i64 V] w fun e w' => ∃ a' l, l.length = V ∧ (∀ x ∈ l, x ≤ 1) ∧
      e = .returned (.agg #[.int .i64 V, .slice a' (pack l).length (pack l).length]) ∧ Fresh w' w.heap.size a' (pack l) ∧ Rr w' β a c bs ∧ Dw β w w' := by
  go_enter Tryz.func64, Tryz.ntmps64
  go_wp2_with fail
  have hb2 : Below w.heap.size w ((w.alloc (Obj.cells #[.int IntKind.i64 0, .slice none 0 0] 80)).alloc (Obj.cells #[] 5)) := Ba (Ba (Below.refl _ _) _) _
  have hβ := hr.lt
  refine (word_any β a c bs _ (hr.later hb2)).mono ?_
  rintro e w1 ⟨y, rfl, hy, hr1, hd1⟩
  go_wp2_with fail
  refine (below_any 4 (by omega) β a c bs _ hr1).mono ?_
  rintro e w2 ⟨m, rfl, hm, hr2, hd2⟩
  have hd12 := hd1.trans hd2
  have ho2 : OwB w2 (w.heap.size + 1) (.slice (some ⟨w.heap.size + 1, 0, none⟩) 0 0) [] := OwB.far (OwB.nil _ _ _ (by simp) (Nat.le_refl _)) hd12 (by omega)
  have hk2 : Blk w2 w.heap.size (.int .i64 0) (.slice none 0 0) 80 := by
    unfold Blk
    rw [World.grownBy.block hd12 w.heap.size (by simp; omega) (by simp; omega), heap_alloc_old _ _ (by simp), heap_alloc_new]
  have hd : Dw β w w2 := (Dw.of hb2).trans hd12
  clear hb2 hd1 hd2 hd12 hr1
  go_wp2
  go_loopw [5, 8] (fun v i wr => ∃ (k : Nat) (l : List Nat), k ≤ V ∧ i = .int .i64 k ∧ l.length = k ∧ (∀ x ∈ l, x ≤ 1) ∧ OwB wr (w.heap.size + 1) v l ∧ Blk wr w.heap.size (.int .i64 0) (.slice none 0 0) 80 ∧ Rr wr β a c bs ∧ Dw β w wr) (fun _ i _ => V - (intOf i).toNat)
  case atStart => exact ⟨0, [], Nat.zero_le _, rfl, rfl, by simp, ho2, hk2, hr2, hd⟩
  case round =>
    clear ho2 hk2 hr2 hd
    obtain ⟨k, l, hk, rfl, hlk, hl1, hown, hbk, hrr, hdd⟩ := hrel
    by_cases hlt : k < V
    · have hsz : w.heap.size < wr.heap.size := hbk.lt
      have hbl : l.length ≤ 4194304 := by omega
      have HLK : Hid (l.length = k) := hlk
      have HL1 : Hid (∀ x ∈ l, x ≤ 1) := hl1
      clear hlk hl1
      obtain ⟨t, ht, HC⟩ : ∃ t : Nat, t ≤ 1 ∧ Hid (bits BinOp.and IntKind.u64 ((y : Int) / 2 ^ (k * 7 % 64)) 1 % 256 = (t : Int)) := ⟨_, by omega, andOne y _ hy⟩
      by_cases m0 : m = 0
      · have e0 : ((m : Int) == 0) = true := by simp [m0]
        have e1 : ((m : Int) == 1) = false := by simp [m0]
        clear m0
        go_wp2_with (at_builtin; refine wpList_appB _ rfl _ _ rfl (w.heap.size + 1) _ l 0 rfl (hown.alloc _) wr.heap.size rfl (by simp) hbl (by simp; omega) ?_)
        intro v' w3 hown3 hgr
        have hgo : ∀ q, (Value.ownBlock u5) = some q → w.heap.size ≤ q := fun q hq => by have := hown.own q hq; omega
        have hd3 := (hdd.alloc _).own hgr hgo
        have hr3 := hr.far (hrr.later ((Below.refl _ _).alloc (Nat.le_refl _) _)) hgr hgo
        have hk3 : Blk w3 w.heap.size (.int .i64 0) (.slice none 0 0) 80 := by
          unfold Blk
          rw [hgr.block w.heap.size (by simp; omega) (fun e => by have := hown.own _ e.symm; omega)]
          exact hbk.alloc _
        clear hgr hown hdd hrr hbk hgo
        go_wp2
        go_roundw
        case rel => exact ⟨k + 1, l ++ [0], by omega, by go_num, by simp [HLK.out], fun x hx => by
                      rcases List.mem_append.1 hx with h | h
                      · exact HL1.out x h
                      · simp at h; omega, hown3, hk3, hr3, hd3⟩
        case measure => simp [intOf]; omega
      · have m0i : ¬ (m : Int) = 0 := by omega
        by_cases m1 : m = 1
        · have e0 : ((m : Int) == 0) = false := by simp [m1]
          have e1 : ((m : Int) == 1) = true := by simp [m1]
          clear m1 m0 m0i
          go_wp2_with (at_builtin; refine wpList_appB _ rfl _ _ rfl (w.heap.size + 1) _ l 1 rfl (hown.alloc _) wr.heap.size rfl (by simp) hbl (by simp; omega) ?_)
          intro v' w3 hown3 hgr
          have hgo : ∀ q, (Value.ownBlock u5) = some q → w.heap.size ≤ q := fun q hq => by have := hown.own q hq; omega
          have hd3 := (hdd.alloc _).own hgr hgo
          have hr3 := hr.far (hrr.later ((Below.refl _ _).alloc (Nat.le_refl _) _)) hgr hgo
          have hk3 : Blk w3 w.heap.size (.int .i64 0) (.slice none 0 0) 80 := by
            unfold Blk
            rw [hgr.block w.heap.size (by simp; omega) (fun e => by have := hown.own _ e.symm; omega)]
            exact hbk.alloc _
          clear hgr hown hdd hrr hbk hgo
          go_wp2
          go_roundw
          case rel => exact ⟨k + 1, l ++ [1], by omega, by go_num, by simp [HLK.out], fun x hx => by
                        rcases List.mem_append.1 hx with h | h
                        · exact HL1.out x h
                        · simp at h; omega, hown3, hk3, hr3, hd3⟩
          case measure => simp [intOf]; omega
        · have e0 : ((m : Int) == 0) = false := by simp [m0]
          have e1 : ((m : Int) == 1) = false := by simp; omega
          clear m1 m0 m0i
          go_wp2_with (at_builtin; refine wpList_appB _ rfl _ _ rfl (w.heap.size + 1) _ l t rfl (hown.alloc _) wr.heap.size rfl (by simp [HC.out]) hbl (by simp; omega) ?_)
          intro v' w3 hown3 hgr
          have hgo : ∀ q, (Value.ownBlock u5) = some q → w.heap.size ≤ q := fun q hq => by have := hown.own q hq; omega
          have hd3 := (hdd.alloc _).own hgr hgo
          have hr3 := hr.far (hrr.later ((Below.refl _ _).alloc (Nat.le_refl _) _)) hgr hgo
          have hk3 : Blk w3 w.heap.size (.int .i64 0) (.slice none 0 0) 80 := by
            unfold Blk
            rw [hgr.block w.heap.size (by simp; omega) (fun e => by have := hown.own _ e.symm; omega)]
            exact hbk.alloc _
          clear hgr hown hdd hrr hbk hgo
          go_wp2
          go_roundw
          case rel => exact ⟨k + 1, l ++ [t], by omega, by go_num, by simp [HLK.out], fun x hx => by
                        rcases List.mem_append.1 hx with h | h
                        · exact HL1.out x h
                        · simp at h; omega, hown3, hk3, hr3, hd3⟩
          case measure => simp [intOf]; omega
    · have HLK : Hid (l.length = k) := hlk
      have HL1 : Hid (∀ x ∈ l, x ≤ 1) := hl1
      have ek : k = V := by omega
      subst ek
      have hbl : l.length ≤ 4194304 := by omega
      obtain ⟨a', c', rfl, hrd, -, -⟩ := hown.shape hbl (fun x hx => by have := hl1 x hx; omega)
      have g1 : 1 ≤ l.length := by omega
      have g2 : l.length ≤ 4096 := by omega
      clear hl1 hlk
      go_wp2_with fail
      refine (l1From_cap _ _ _ _ hrd g1 g2).mono ?_
      rintro e w4 ⟨a4, rfl, hf, hb4⟩
      have hk4 := hbk.next hb4
      have hr4 := hrr.later hb4
      have hd4 := hdd.trans (Dw.of hb4)
      obtain ⟨c0, c1⟩ := hk4.cells
      have f0 : w4.frozen? ⟨w.heap.size, 0, none⟩ = false := frozen_of_row w4 _ 0 _ _ hk4
      have f1 : w4.frozen? ⟨w.heap.size, 1, none⟩ = false := frozen_of_row w4 _ 1 _ _ hk4
      have HF : Hid _ := hf
      have HB4 : Hid _ := hb4
      have hltr : w.heap.size < wr.heap.size := hbk.lt
      have hlt4 : w.heap.size < w4.heap.size := hk4.lt
      clear hown hbk hrr hdd hrd hb4 hf
      go_wp2
      obtain ⟨d0, d1⟩ := (((hk4.put0 (Value.int IntKind.i64 l.length)).put1 (Value.slice a4 (pack l).length (pack l).length)).alloc (Obj.cells #[.int IntKind.i64 l.length, .slice a4 (pack l).length (pack l).length] 80)).cells
      refine bodyPost_ret (v := .agg #[.int .i64 l.length, .slice a4 (pack l).length (pack l).length]) (by simp [results, Tryz.results64, go_sem, d0, d1]) rfl ?_
      have gw := (gsc w4 ⟨w.heap.size, 0, none⟩ (Value.int IntKind.i64 l.length)).trans (gsc _ ⟨w.heap.size, 1, none⟩ (Value.slice a4 (pack l).length (pack l).length))
      have gh : ∀ q, some w.heap.size = some q → w.heap.size ≤ q := fun q e => by cases e; exact Nat.le_refl _
      refine ⟨a4, l, HLK.out, HL1.out, by rw [HLK.out], ?_, (hr.far hr4 gw gh).later ((Below.refl _ _).alloc (Nat.le_refl _) _), (hd4.own gw gh).alloc _⟩
      rcases HF.out with h | ⟨g, rfl, hg, ho⟩
      · exact .inl h
      · refine .inr ⟨g, rfl, by omega, ?_⟩
        have ho2 := (ho.other (a := ⟨w.heap.size, 0, none⟩) (show g ≠ w.heap.size by omega) (Value.int IntKind.i64 l.length)).other (a := ⟨w.heap.size, 1, none⟩) (show g ≠ w.heap.size by omega) (Value.slice (some ⟨g, 0, none⟩) (pack l).length (pack l).length)
        exact ho2.later ((Below.refl _ _).alloc (Nat.le_refl _) _) ho2.lt

def Got (w : World) (lo : Nat) (a : Option Addr) (xs : List Nat) : Prop := Rd w a xs ∧ ∀ x, a = some x → lo ≤ x.block
theorem Got.far {w w' : World} {lo : Nat} {a : Option Addr} {xs : List Nat} {β : Nat} (h : Got w lo a xs) (hd : Dw β w w') (hβ : β < lo) : Got w' lo a xs := by
 obtain ⟨⟨h1, h2, h3⟩, h4⟩ := h
 refine ⟨⟨h1, h2, ?_⟩, h4⟩
 rcases h3 with h3 | ⟨b, o, rfl, hc⟩
 ·exact .inl h3
 ·refine .inr ⟨b, o, rfl, fun i hi => ?_⟩
  have h5 := hc i hi
  have := h4 _ rfl
  simp only at this
  rw [World.cell?_of_block (World.grownBy.block hd b (block_lt_of_cell h5) (by simp; omega))]
  exact h5
theorem Got.farNe {w w' : World} {lo : Nat} {a : Option Addr} {xs : List Nat} {β : Nat} (h : Got w lo a xs) (hd : Dw β w w') (hn : ∀ x, a = some x → x.block ≠ β) : Got w' lo a xs := by
 obtain ⟨⟨h1, h2, h3⟩, h4⟩ := h
 refine ⟨⟨h1, h2, ?_⟩, h4⟩
 rcases h3 with h3 | ⟨b, o, rfl, hc⟩
 ·exact .inl h3
 ·refine .inr ⟨b, o, rfl, fun i hi => ?_⟩
  have h5 := hc i hi
  have := hn _ rfl
  simp only at this
  rw [World.cell?_of_block (World.grownBy.block hd b (block_lt_of_cell h5) (by simpa using this))]
  exact h5
theorem Dw.undrew {β : Nat} {w w' : World} (h : Dw β w.drew w') : Dw β w w' := ⟨h.os, h.tape, h.output, h.size, h.block⟩
theorem Got.mono {w : World} {lo lo' : Nat} {a : Option Addr} {xs : List Nat} (h : Got w lo a xs) (hl : lo' ≤ lo) : Got w lo' a xs := ⟨h.1, fun x e => Nat.le_trans hl (h.2 x e)⟩
theorem Blk.far {w w' : World} {γ β : Nat} {x y : Value} {t : TypeId} (h : Blk w γ x y t) (hd : Dw β w w') (hn : γ ≠ β) : Blk w' γ x y t := by
 unfold Blk
 rw [World.grownBy.block hd γ h.lt (by simpa using hn)]; exact h
theorem Own.far {w w' : World} {g β : Nat} {xs : List Nat} (h : Own w g xs) (hd : Dw β w w') (hn : g ≠ β) : Own w' g xs := by
 unfold Own
 rw [World.grownBy.block hd g h.lt (by simpa using hn)]; exact h
def OwU (w : World) (base : Nat) (v : Value) (xs : List Nat) : Prop := w.ownsRow base 109 1 v xs.length (u64s xs).toList
theorem Own.owU {w : World} {g base : Nat} {xs : List Nat} (h : Own w g xs) (hb : base ≤ g) (hl : xs.length ≤ 1048576) : OwU w base (.slice (some ⟨g, 0, none⟩) xs.length xs.length) xs :=
 ⟨by simp [u64s], .inr ⟨g, xs.length, u64s xs, rfl, hb, h, Nat.le_refl _, by unfold maxLen; omega, by simp [u64s], by simp [u64s, List.take_of_length_le]⟩⟩
theorem OwU.shape {w : World} {base : Nat} {v : Value} {xs : List Nat} (h : OwU w base v xs) (hl : xs.length ≤ 1048576) (hx : ∀ x ∈ xs, x < 18446744073709551616) :
  ∃ a c, v = .slice a xs.length c ∧ Got w base a xs ∧ ∀ x, a = some x → ∃ cur, w.heap[x.block]? = some (.cells cur 109 (0, 0)) := by
 obtain ⟨h1, ⟨rfl, h2⟩ | ⟨g, cap, cur, rfl, hg, hh, hc1, hc2, hsz, hcur⟩⟩ := h
 ·have e := List.eq_nil_of_length_eq_zero h2
  subst e
  exact ⟨none, 0, rfl, ⟨⟨hl, hx, .inl rfl⟩, fun x e => by cases e⟩, fun x e => by cases e⟩
 ·refine ⟨some ⟨g, 0, none⟩, cap, rfl, ⟨⟨hl, hx, .inr ⟨g, 0, rfl, fun i hi => ?_⟩⟩, fun x e => by cases e; exact hg⟩, fun x e => by cases e; exact ⟨cur, hh⟩⟩
  rw [Nat.zero_add, cell_of_row w g i cur _ _ hh]
  have h3 : (cur.toList.take (xs.length * 1))[i]? = (u64s xs).toList[i]? := by rw [hcur]
  rw [List.getElem?_take, if_pos (by omega)] at h3
  simp only [Array.getElem?_toList] at h3
  rw [h3, u64s_get _ _ hi]
theorem wpList_appU (w : World) {ops : Array Oper} {rest : List Oper} {o : Oper} {a : Act} {Q : Exit → Act → World → Prop} (hgd : o.guard = none) (s x : Operand)
  (ho : o.op = .call { callee := .builtin .append, args := #[s, x], argTypes := #[78, 78] })
  (base : Nat) (v : Value) (xs : List Nat) (y : Nat) (hs : a.eval s = v) (hown : OwU w base v xs) (g : Nat) (hx : a.eval x = .slice (some ⟨g, 0, none⟩) 1 1)
  (hnew : w.cell? ⟨g, 0, none⟩ = some (.int .u64 (y : Int))) (hl : xs.length ≤ 1048576) (hbase : base ≤ w.heap.size)
  (h : ∀ v' w', OwU w' base v' (xs ++ [y]) → w.grownBy w' v.ownBlock → wpList Tryz.prog ops Q rest (a.put o.dst v') w') : wpList Tryz.prog ops Q (o :: rest) a w := by
 obtain ⟨i0, hi, hz0, hz1, hz2⟩ := info_parts Tryz.infoU64
 refine wpList_append_own w hgd s x 78 ho base 109 i0 (.int .u64 0) 1 8 Tryz.underlying78 hi hz0 hz1 hz2 rfl (by decide) v xs.length (u64s xs).toList hs hown ⟨g, 0, none⟩ 1 1 [.int .u64 (y : Int)] hx rfl ?_ ?_ ?_ ?_ hbase ?_
 ·intro j u hj
  match j, hj with
  | 0, hj => simp at hj; subst hj; simpa [Addr.add] using hnew
 ·intro u hu; simp at hu; subst hu; rfl
 ·unfold maxLen; omega
 ·omega
 ·intro v' w' h1 h2 _
  refine h v' w' ?_ h2
  unfold OwU
  simpa [u64s] using h1
theorem wrap_small (y : Nat) (h : y = 0 ∨ y < 2) : IntKind.i64.wrap (4096 + (y : Int)) = 4096 + (y : Int) := by
 obtain rfl | rfl : y = 0 ∨ y = 1 := by omega
 ·rfl
 ·rfl
set_option maxHeartbeats 2000000 in
set_option maxRecDepth 100000 in
theorem odd_any (β : Nat) (a : Option Addr) (c : Nat) (bs : List Nat) (w : World) (hr : Rr w β a c bs) :
  Calls Tryz.prog 66 #[.pointer (some ⟨β, 0, none⟩)] w fun e w' => ∃ a' c' W xs,
   e = .returned (.agg #[.int .i64 W, .slice a' xs.length c']) ∧ 1 ≤ xs.length ∧ -9223372036854775808 ≤ W ∧ W ≤ 9223372036854775807 ∧ Got w' w.heap.size a' xs ∧ Rr w' β a c bs ∧ Dw β w w' := by
 go_enter Tryz.func66, Tryz.ntmps66
 go_wp2_with fail
 have hb1 : Below w.heap.size w (w.alloc (Obj.cells #[.int IntKind.i64 0, .slice none 0 0] 80)) := Ba (Below.refl _ _) _
 have hβ := hr.lt
 refine (wide_any β a c bs _ (hr.later hb1)).mono ?_
 rintro e w1 ⟨V, rfl, hV1, hV2, hr1, hd1⟩
 go_wp2_with fail
 refine (bits_any V hV1 (by omega) β a c bs _ hr1).mono ?_
 rintro e w2 ⟨a2, l, hl, hl1, rfl, hf2, hr2, hd2⟩
 have hd12 := hd1.trans hd2
 have hk2 : Blk w2 w.heap.size (.int .i64 0) (.slice none 0 0) 80 := by
  unfold Blk
  rw [World.grownBy.block hd12 w.heap.size (by simp) (by simp; omega), heap_alloc_new]
 have hd : Dw β w w2 := (Dw.of hb1).trans hd12
 have hpl : (pack l).length = (V + 63) / 64 := by rw [pack_len, hl]
 have hplt := pack_lt l
 generalize pack l = xs at *
 obtain ⟨g, rfl, hg1, ho2⟩ : ∃ g, a2 = some ⟨g, 0, none⟩ ∧ w.heap.size < g ∧ Own w2 g xs := by
  rcases hf2 with ⟨h, _⟩ | ⟨g, h1, hg, ho⟩
  ·subst h; simp at hpl; omega
  ·exact ⟨g, h1, by have := hd1.size; simp at this; omega, ho⟩
 have hgl := ho2.lt
 have HPL : Hid (xs.length = (V + 63) / 64) := hpl
 have n1 : 1 ≤ xs.length := by omega
 have n2 : xs.length ≤ 4 := by omega
 clear hf2 hb1 hd1 hd2 hd12 hr1 hl hl1 hpl
 go_wp2_with fail
 refine (below_any 30 (by omega) β a c bs _ (hr2.later ((Below.refl _ _).alloc (Nat.le_refl _) _))).mono ?_
 rintro e w3 ⟨m, rfl, hm, hr3, hd3⟩
 have hB3 : Blk w3 w2.heap.size (.int .i64 V) (.slice (some ⟨g, 0, none⟩) xs.length xs.length) 80 := hd3.row hr2.lt
 have hR3 : Blk w3 w.heap.size (.int .i64 0) (.slice none 0 0) 80 := (hk2.alloc _).far hd3 (by omega)
 have ho3 : Own w3 g xs := (ho2.later ((Below.refl _ _).alloc (Nat.le_refl _) _) hgl).far hd3 (by omega)
 have hd' : Dw β w w3 := (hd.alloc _).trans hd3
 have hRB : w.heap.size < w2.heap.size := hk2.lt
 have hB3l : w2.heap.size < w3.heap.size := hB3.lt
 clear hd hd3 ho2 hk2 hr2
 generalize w2.heap.size = B at *
 obtain ⟨b0, b1⟩ := hB3.cells
 obtain ⟨r0, r1⟩ := hR3.cells
 have fb0 : w3.frozen? ⟨B, 0, none⟩ = false := frozen_of_row w3 _ 0 _ _ hB3
 have fb1 : w3.frozen? ⟨B, 1, none⟩ = false := frozen_of_row w3 _ 1 _ _ hB3
 have fr0 : w3.frozen? ⟨w.heap.size, 0, none⟩ = false := frozen_of_row w3 _ 0 _ _ hR3
 have fr1 : w3.frozen? ⟨w.heap.size, 1, none⟩ = false := frozen_of_row w3 _ 1 _ _ hR3
 have hRl : w.heap.size < w3.heap.size := hR3.lt
 have hgB : ∀ (u : World), Own u g xs → Got u (w.heap.size + 1) (some ⟨g, 0, none⟩) xs := fun u hu => ⟨hu.rd (by omega) hplt, fun x e => by cases e; exact hg1⟩
 have HG : Hid _ := hgB
 clear hgB
 by_cases m0 : m = 0
 ·
  have e0 : ((m : Int) == 0) = true := by simp [m0]
  have e1 : ((m : Int) == 1) = false := by simp [m0]
  have e2 : ((m : Int) == 2) = false := by simp [m0]
  have e3 : ((m : Int) == 3) = false := by simp [m0]
  have e4 : ((m : Int) == 4) = false := by simp [m0]
  clear m0 hm
  go_wp2
  have gB : Dw B w3 (w3.setCell ⟨B, 0, none⟩ (Value.int IntKind.i64 ((V : Int) + 1))) := gsc _ _ _
  have gw : Dw w.heap.size (w3.setCell ⟨B, 0, none⟩ (Value.int IntKind.i64 ((V : Int) + 1))) (((w3.setCell ⟨B, 0, none⟩ (Value.int IntKind.i64 ((V : Int) + 1))).setCell ⟨w.heap.size, 0, none⟩ (.int .i64 ((V : Int) + 1))).setCell ⟨w.heap.size, 1, none⟩ (.slice (some ⟨g, 0, none⟩) xs.length xs.length)) := (gsc _ ⟨w.heap.size, 0, none⟩ _).trans (gsc _ ⟨w.heap.size, 1, none⟩ _)
  have gh : ∀ q, some w.heap.size = some q → w.heap.size ≤ q := fun q e => by cases e; exact Nat.le_refl _
  obtain ⟨d0, d1⟩ := ((hR3.far gB (by omega)).put0 (Value.int IntKind.i64 ((V : Int) + 1)) |>.put1 (Value.slice (some ⟨g, 0, none⟩) xs.length xs.length)).cells
  exact bodyPost_ret (v := .agg #[.int .i64 ((V : Int) + 1), .slice (some ⟨g, 0, none⟩) xs.length xs.length]) (by simp [results, Tryz.results66, go_sem, d0, d1]) rfl ⟨_, _, ((V : Int) + 1), xs, rfl, n1, by omega, by omega, ((HG.out _ (ho3.far gB (by omega))).far gw (Nat.lt_succ_self _)).mono (Nat.le_succ _), hr.far (hr.far hr3 gB (fun q e => by cases e; omega)) gw gh, (hd'.own gB (fun q e => by cases e; omega)).own gw gh⟩
 by_cases m1 : m = 1
 ·
  have e0 : ((m : Int) == 0) = false := by simp [m1]
  have e1 : ((m : Int) == 1) = true := by simp [m1]
  have e2 : ((m : Int) == 2) = false := by simp [m1]
  have e3 : ((m : Int) == 3) = false := by simp [m1]
  have e4 : ((m : Int) == 4) = false := by simp [m1]
  clear m0 m1 hm
  have hou := ho3.owU (base := w.heap.size + 1) hg1 (by omega)
  go_wp2_with (at_builtin; refine wpList_appU _ rfl _ _ rfl (w.heap.size + 1) _ xs 0 rfl (World.ownsRow.alloc hou _) w3.heap.size rfl (by simp) (by omega) (by simp; omega) ?_)
  intro v4 w4 hou4 hgr4
  replace hgr4 : Dw g (w3.alloc (Obj.cells #[.int IntKind.u64 0] 109)) w4 := hgr4
  have hB4 := (hB3.alloc _).far hgr4 (by omega)
  have hR4 := (hR3.alloc _).far hgr4 (by omega)
  have hr4 := hr.far (hr3.later ((Below.refl _ _).alloc (Nat.le_refl _) _)) hgr4 (fun q e => by cases e; omega)
  have hdd := (hd'.alloc _).own hgr4 (fun q e => by cases e; omega)
  obtain ⟨a4, c4, rfl, hgot, hty⟩ := hou4.shape (by simp; omega) (fun x hx => by
   rcases List.mem_append.1 hx with h | h
   ·exact hplt x h
   ·simp at h; omega)
  have hne : ∀ x, a4 = some x → x.block ≠ B := fun x e he => by
   obtain ⟨cur, hc⟩ := hty x e
   unfold Blk at hB4
   rw [he, hB4] at hc
   simp at hc
  have hl4 : B < w4.heap.size := hB4.lt
  have hRl4 : w.heap.size < w4.heap.size := hR4.lt
  clear b0 b1 r0 r1 fb0 fb1 fr0 fr1 hB3 hR3 ho3 hr3 hd' hgr4 hou hou4 hty hB3l hRl
  obtain ⟨b0, b1⟩ := hB4.cells
  obtain ⟨r0, r1⟩ := hR4.cells
  have fb1 : w4.frozen? ⟨B, 1, none⟩ = false := frozen_of_row w4 _ 1 _ _ hB4
  have fr0 : w4.frozen? ⟨w.heap.size, 0, none⟩ = false := frozen_of_row w4 _ 0 _ _ hR4
  have fr1 : w4.frozen? ⟨w.heap.size, 1, none⟩ = false := frozen_of_row w4 _ 1 _ _ hR4
  generalize hzs : xs ++ [0] = zs at *
  have hzl : 1 ≤ zs.length := by rw [← hzs]; simp
  clear hzs
  go_wp2
  have gB : Dw B w4 (w4.setCell ⟨B, 1, none⟩ (Value.slice a4 zs.length c4)) := gsc _ _ _
  have gw : Dw w.heap.size (w4.setCell ⟨B, 1, none⟩ (Value.slice a4 zs.length c4)) (((w4.setCell ⟨B, 1, none⟩ (Value.slice a4 zs.length c4)).setCell ⟨w.heap.size, 0, none⟩ (.int .i64 (V : Int))).setCell ⟨w.heap.size, 1, none⟩ (.slice a4 zs.length c4)) := (gsc _ ⟨w.heap.size, 0, none⟩ _).trans (gsc _ ⟨w.heap.size, 1, none⟩ _)
  have gh : ∀ q, some w.heap.size = some q → w.heap.size ≤ q := fun q e => by cases e; exact Nat.le_refl _
  obtain ⟨d0, d1⟩ := ((hR4.far gB (by omega)).put0 (Value.int IntKind.i64 (V : Int)) |>.put1 (Value.slice a4 zs.length c4)).cells
  exact bodyPost_ret (v := .agg #[.int .i64 (V : Int), .slice a4 zs.length c4]) (by simp [results, Tryz.results66, go_sem, d0, d1]) rfl ⟨_, _, (V : Int), zs, rfl, hzl, by omega, by omega, ((hgot.farNe gB hne).far gw (Nat.lt_succ_self _)).mono (Nat.le_succ _), hr.far (hr.far hr4 gB (fun q e => by cases e; omega)) gw gh, (hdd.own gB (fun q e => by cases e; omega)).own gw gh⟩
 by_cases m2 : m = 2
 ·
  have e0 : ((m : Int) == 0) = false := by simp [m2]
  have e1 : ((m : Int) == 1) = false := by simp [m2]
  have e2 : ((m : Int) == 2) = true := by simp [m2]
  have e3 : ((m : Int) == 3) = false := by simp [m2]
  have e4 : ((m : Int) == 4) = false := by simp [m2]
  clear m0 m1 m2 hm
  obtain ⟨n, hn⟩ : ∃ n, xs.length = n + 1 := ⟨xs.length - 1, by omega⟩
  have hn3 : n ≤ 3 := by omega
  have hwr : IntKind.i64.wrap (n : Int) = (n : Int) := by
   match n, hn3 with
   | 0, _ => rfl
   | 1, _ => rfl
   | 2, _ => rfl
   | 3, _ => rfl
  have hi0 : (0 : Int) ≤ (n : Int) := by omega
  have hi1 : (n : Int) < (n : Int) + 1 := by omega
  go_wp2_with fail
  go_region_held3 (fun u => u.cell? ⟨B, 1, none⟩ = some (Value.slice (some { block := g, off := 0 }) (n + 1) (n + 1))) (first | assumption | (rw [World.cell?_setCell_far _ _ _ _ (by simp <;> omega)]; assumption) | simp [*])
   ((go_at_call 65; refine (word_any β a c bs _ ?_).mono ?_; exact hr3; rintro e w4 ⟨y, rfl, hy, hr4, hd4⟩; replace hd4 := hd4.undrew; have hB4 := hB3.far hd4 (by omega); have hR4 := hR3.far hd4 (by omega); have ho4 := ho3.far hd4 (by omega); obtain ⟨b40, b41⟩ := hB4.cells; obtain ⟨r40, r41⟩ := hR4.cells; have hc4 := ho4.cell (i := n) (by omega); have hf4 := ho4.free n; generalize xs.getD n 0 = x0 at hc4; have fr40 : w4.frozen? ⟨w.heap.size, 0, none⟩ = false := frozen_of_row w4 _ 0 _ _ hR4; have fr41 : w4.frozen? ⟨w.heap.size, 1, none⟩ = false := frozen_of_row w4 _ 1 _ _ hR4))
  have hdd := hd'.trans hd4
  go_wp2
  have gB : Dw g w4 (w4.setCell ⟨g, n, none⟩ (Value.int IntKind.u64 y)) := gsc _ _ _
  have hgo : Got (w4.setCell ⟨g, n, none⟩ (Value.int IntKind.u64 y)) (w.heap.size + 1) (some ⟨g, 0, none⟩) (xs.set n y) := ⟨(ho4.put n y).rd (by simp; omega) (fun x hx => by
   rcases List.mem_or_eq_of_mem_set hx with h | h
   ·exact hplt x h
   ·rw [h]; exact hy), fun x e => by cases e; exact hg1⟩
  have gw : Dw w.heap.size (w4.setCell ⟨g, n, none⟩ (Value.int IntKind.u64 y)) (((w4.setCell ⟨g, n, none⟩ (Value.int IntKind.u64 y)).setCell ⟨w.heap.size, 0, none⟩ (.int .i64 (V : Int))).setCell ⟨w.heap.size, 1, none⟩ (.slice (some ⟨g, 0, none⟩) (n + 1) (n + 1))) := (gsc _ ⟨w.heap.size, 0, none⟩ _).trans (gsc _ ⟨w.heap.size, 1, none⟩ _)
  have gh : ∀ q, some w.heap.size = some q → w.heap.size ≤ q := fun q e => by cases e; exact Nat.le_refl _
  obtain ⟨d0, d1⟩ := ((hR4.far gB (by omega)).put0 (Value.int IntKind.i64 (V : Int)) |>.put1 (Value.slice (some ⟨g, 0, none⟩) (n + 1) (n + 1))).cells
  exact bodyPost_ret (v := .agg #[.int .i64 (V : Int), .slice (some ⟨g, 0, none⟩) (n + 1) (n + 1)]) (by simp [results, Tryz.results66, go_sem, d0, d1]) rfl ⟨_, _, (V : Int), xs.set n y, by rw [List.length_set, hn], by rw [List.length_set]; exact n1, by omega, by omega, ((hgo).far gw (Nat.lt_succ_self _)).mono (Nat.le_succ _), hr.far (hr.far hr4 gB (fun q e => by cases e; omega)) gw gh, (hdd.own gB (fun q e => by cases e; omega)).own gw gh⟩
 by_cases m3 : m = 3
 ·
  have e0 : ((m : Int) == 0) = false := by simp [m3]
  have e1 : ((m : Int) == 1) = false := by simp [m3]
  have e2 : ((m : Int) == 2) = false := by simp [m3]
  have e3 : ((m : Int) == 3) = true := by simp [m3]
  have e4 : ((m : Int) == 4) = false := by simp [m3]
  clear m0 m1 m2 m3 hm
  go_wp2_with fail
  refine (off_any 0 4096 (by omega) (by omega) β a c bs _ hr3).mono ?_
  rintro e w4 ⟨y, rfl, hy1, hy2, hr4, hd4⟩
  have hB4 := hB3.far hd4 (by omega)
  have hR4 := hR3.far hd4 (by omega)
  have ho4 := ho3.far hd4 (by omega)
  have hdd := hd'.trans hd4
  clear b0 b1 r0 r1 fb0 fb1 fr0 fr1 hB3 hR3 ho3 hr3 hd' hd4
  obtain ⟨b0, b1⟩ := hB4.cells
  obtain ⟨r0, r1⟩ := hR4.cells
  have fb0 : w4.frozen? ⟨B, 0, none⟩ = false := frozen_of_row w4 _ 0 _ _ hB4
  have fr0 : w4.frozen? ⟨w.heap.size, 0, none⟩ = false := frozen_of_row w4 _ 0 _ _ hR4
  have fr1 : w4.frozen? ⟨w.heap.size, 1, none⟩ = false := frozen_of_row w4 _ 1 _ _ hR4
  go_wp2
  have gB : Dw B w4 (w4.setCell ⟨B, 0, none⟩ (Value.int IntKind.i64 y)) := gsc _ _ _
  have gw : Dw w.heap.size (w4.setCell ⟨B, 0, none⟩ (Value.int IntKind.i64 y)) (((w4.setCell ⟨B, 0, none⟩ (Value.int IntKind.i64 y)).setCell ⟨w.heap.size, 0, none⟩ (.int .i64 y)).setCell ⟨w.heap.size, 1, none⟩ (.slice (some ⟨g, 0, none⟩) xs.length xs.length)) := (gsc _ ⟨w.heap.size, 0, none⟩ _).trans (gsc _ ⟨w.heap.size, 1, none⟩ _)
  have gh : ∀ q, some w.heap.size = some q → w.heap.size ≤ q := fun q e => by cases e; exact Nat.le_refl _
  obtain ⟨d0, d1⟩ := ((hR4.far gB (by omega)).put0 (Value.int IntKind.i64 y) |>.put1 (Value.slice (some ⟨g, 0, none⟩) xs.length xs.length)).cells
  exact bodyPost_ret (v := .agg #[.int .i64 y, .slice (some ⟨g, 0, none⟩) xs.length xs.length]) (by simp [results, Tryz.results66, go_sem, d0, d1]) rfl ⟨_, _, y, xs, rfl, n1, by omega, by omega, ((HG.out _ (ho4.far gB (by omega))).far gw (Nat.lt_succ_self _)).mono (Nat.le_succ _), hr.far (hr.far hr4 gB (fun q e => by cases e; omega)) gw gh, (hdd.own gB (fun q e => by cases e; omega)).own gw gh⟩
 by_cases m4 : m = 4
 ·
  have e0 : ((m : Int) == 0) = false := by simp [m4]
  have e1 : ((m : Int) == 1) = false := by simp [m4]
  have e2 : ((m : Int) == 2) = false := by simp [m4]
  have e3 : ((m : Int) == 3) = false := by simp [m4]
  have e4 : ((m : Int) == 4) = true := by simp [m4]
  clear m0 m1 m2 m3 m4 hm
  have hmk := fun kl kc w => run_make_row' (P := Tryz.prog) 78 109 (.int .u64 0) 8 Tryz.underlying78 Tryz.infoU64 rfl kl kc 64 (by omega) (by omega) w
  change ∀ kl kc w, Sem.run Tryz.prog (Instr.makeSlice 78 (.int kl 64) (.int kc 64)) w = _ at hmk
  go_wp2_with fail
  have hr3d : Rr w3.drew β a c bs := hr3
  have hB3d : Blk w3.drew B (Value.int IntKind.i64 V) (Value.slice (some ⟨g, 0, none⟩) xs.length xs.length) 80 := hB3
  have hR3d : Blk w3.drew w.heap.size (Value.int IntKind.i64 0) (Value.slice none 0 0) 80 := hR3
  have hdd : Dw β w w3.drew := hd'.drew
  go_region_with (first
   | (go_at_call 61; refine (below_any 2 (by omega) β a c bs _ ?_).mono ?_; exact hr3d; rintro e w4 ⟨y, rfl, hy, hr4, hd4⟩; have hB4 := hB3d.far hd4 (by omega); have hR4 := hR3d.far hd4 (by omega); obtain ⟨b40, b41⟩ := hB4.cells; obtain ⟨r40, r41⟩ := hR4.cells; have fb40 : w4.frozen? ⟨B, 0, none⟩ = false := frozen_of_row w4 _ 0 _ _ hB4; have fb41 : w4.frozen? ⟨B, 1, none⟩ = false := frozen_of_row w4 _ 1 _ _ hB4; have fr40 : w4.frozen? ⟨w.heap.size, 0, none⟩ = false := frozen_of_row w4 _ 0 _ _ hR4; have fr41 : w4.frozen? ⟨w.heap.size, 1, none⟩ = false := frozen_of_row w4 _ 1 _ _ hR4; have lB4 := hB4.lt; have lR4 := hR4.lt; have hwy := wrap_small y hy)
   | (go_at_call 61; refine (below_any 2 (by omega) β a c bs _ ?_).mono ?_; exact hr3d.later ((Below.refl _ _).alloc (Nat.le_refl _) _); rintro e w4 ⟨y, rfl, hy, hr4, hd4⟩; have hB4 := (hB3d.alloc _).far hd4 (by omega); have hR4 := (hR3d.alloc _).far hd4 (by omega); obtain ⟨b40, b41⟩ := hB4.cells; obtain ⟨r40, r41⟩ := hR4.cells; have fb40 : w4.frozen? ⟨B, 0, none⟩ = false := frozen_of_row w4 _ 0 _ _ hB4; have fb41 : w4.frozen? ⟨B, 1, none⟩ = false := frozen_of_row w4 _ 1 _ _ hB4; have fr40 : w4.frozen? ⟨w.heap.size, 0, none⟩ = false := frozen_of_row w4 _ 0 _ _ hR4; have fr41 : w4.frozen? ⟨w.heap.size, 1, none⟩ = false := frozen_of_row w4 _ 1 _ _ hR4; have lB4 := hB4.lt; have lR4 := hR4.lt; have hwy := wrap_small y hy))
  all_goals clear hmk b0 b1 r0 r1 fb0 fb1 fr0 fr1
  ·-- the draw first
   have gB : Dw B w4 ((w4.setCell ⟨B, 0, none⟩ (Value.int IntKind.i64 (4096 + (y : Int)))).setCell ⟨B, 1, none⟩ (Value.slice (some ⟨w4.heap.size, 0, none⟩) 64 64)) := (gsc _ ⟨B, 0, none⟩ _).trans (gsc _ ⟨B, 1, none⟩ _)
   have gw : Dw w.heap.size ((w4.setCell ⟨B, 0, none⟩ (Value.int IntKind.i64 (4096 + (y : Int)))).setCell ⟨B, 1, none⟩ (Value.slice (some ⟨w4.heap.size, 0, none⟩) 64 64)) ((((w4.setCell ⟨B, 0, none⟩ (Value.int IntKind.i64 (4096 + (y : Int)))).setCell ⟨B, 1, none⟩ (Value.slice (some ⟨w4.heap.size, 0, none⟩) 64 64)).setCell ⟨w.heap.size, 0, none⟩ (.int .i64 (4096 + (y : Int)))).setCell ⟨w.heap.size, 1, none⟩ (.slice (some ⟨w4.heap.size, 0, none⟩) 64 64)) := (gsc _ ⟨w.heap.size, 0, none⟩ _).trans (gsc _ ⟨w.heap.size, 1, none⟩ _)
   have gh : ∀ q, some w.heap.size = some q → w.heap.size ≤ q := fun q e => by cases e; exact Nat.le_refl _
   have hRX := ((((hR4.far gB (by omega)).put0 (Value.int IntKind.i64 (4096 + (y : Int)))).put1 (Value.slice (some ⟨w4.heap.size, 0, none⟩) 64 64)).alloc (Obj.cells (madeCells #[.int IntKind.u64 0] 64) 109)).cells
   have hrX := (hr.far (hr.far hr4 gB (fun q e => by cases e; omega)) gw gh).later ((Below.refl _ _).alloc (Nat.le_refl _) (Obj.cells (madeCells #[.int IntKind.u64 0] 64) 109))
   have hdX := (((hdd.trans hd4).own gB (fun q e => by cases e; omega)).own gw gh).alloc (Obj.cells (madeCells #[.int IntKind.u64 0] 64) 109)
   have ho4 : Own (((((w4.setCell ⟨B, 0, none⟩ (Value.int IntKind.i64 (4096 + (y : Int)))).setCell ⟨B, 1, none⟩ (Value.slice (some ⟨w4.heap.size, 0, none⟩) 64 64)).setCell ⟨w.heap.size, 0, none⟩ (.int .i64 (4096 + (y : Int)))).setCell ⟨w.heap.size, 1, none⟩ (.slice (some ⟨w4.heap.size, 0, none⟩) 64 64)).alloc (Obj.cells (madeCells #[.int IntKind.u64 0] 64) 109)) w4.heap.size (List.replicate 64 0) := by
    unfold Own
    rw [← u64s_made]
    have h := heap_alloc_new ((((w4.setCell ⟨B, 0, none⟩ (Value.int IntKind.i64 (4096 + (y : Int)))).setCell ⟨B, 1, none⟩ (Value.slice (some ⟨w4.heap.size, 0, none⟩) 64 64)).setCell ⟨w.heap.size, 0, none⟩ (.int .i64 (4096 + (y : Int)))).setCell ⟨w.heap.size, 1, none⟩ (.slice (some ⟨w4.heap.size, 0, none⟩) 64 64)) (Obj.cells (madeCells #[.int IntKind.u64 0] 64) 109)
    simpa using h
   have hgo : Got (((((w4.setCell ⟨B, 0, none⟩ (Value.int IntKind.i64 (4096 + (y : Int)))).setCell ⟨B, 1, none⟩ (Value.slice (some ⟨w4.heap.size, 0, none⟩) 64 64)).setCell ⟨w.heap.size, 0, none⟩ (.int .i64 (4096 + (y : Int)))).setCell ⟨w.heap.size, 1, none⟩ (.slice (some ⟨w4.heap.size, 0, none⟩) 64 64)).alloc (Obj.cells (madeCells #[.int IntKind.u64 0] 64) 109)) w.heap.size (some ⟨w4.heap.size, 0, none⟩) (List.replicate 64 0) := ⟨ho4.rd (by simp) (fun x hx => by simp at hx; omega), fun x e => by cases e; exact Nat.le_of_lt lR4⟩
   obtain ⟨d0, d1⟩ := hRX
   have HD0 : Hid _ := d0
   have HD1 : Hid _ := d1
   have HX : Hid (_ ∧ _ ∧ _) := ⟨hgo, hrX, hdX⟩
   clear hgo hrX hdX ho4 gB gw d0 d1 hd4 hr4 hdd hd'
   go_wp2
   have d0 := HD0.out
   have d1 := HD1.out
   exact bodyPost_ret (v := .agg #[.int .i64 (4096 + (y : Int)), .slice (some ⟨w4.heap.size, 0, none⟩) 64 64]) (by simp [results, Tryz.results66, go_sem, d0, d1]) rfl ⟨_, 64, (4096 + (y : Int)), List.replicate 64 0, by simp, by simp, by omega, by omega, HX.out⟩
  ·-- the row first
   have ho4 : Own w4 w3.heap.size (List.replicate 64 0) := by
    unfold Own
    rw [← u64s_made]; exact hd4.undrew.row hr3.lt
   have gB : Dw B w4 ((w4.setCell ⟨B, 0, none⟩ (Value.int IntKind.i64 (4096 + (y : Int)))).setCell ⟨B, 1, none⟩ (Value.slice (some ⟨w3.heap.size, 0, none⟩) 64 64)) := (gsc _ ⟨B, 0, none⟩ _).trans (gsc _ ⟨B, 1, none⟩ _)
   have hgo : Got ((w4.setCell ⟨B, 0, none⟩ (Value.int IntKind.i64 (4096 + (y : Int)))).setCell ⟨B, 1, none⟩ (Value.slice (some ⟨w3.heap.size, 0, none⟩) 64 64)) (w.heap.size + 1) (some ⟨w3.heap.size, 0, none⟩) (List.replicate 64 0) := ⟨(ho4.far gB (by omega)).rd (by simp) (fun x hx => by simp at hx; omega), fun x e => by cases e; exact hRl⟩
   have hRX := hR4.far gB (by omega)
   have hrX := hr.far hr4 gB (fun q e => by cases e; omega)
   have hdX := ((hd'.alloc _).trans hd4.undrew).own gB (fun q e => by cases e; omega)
   go_wp2
   have gw : Dw w.heap.size ((w4.setCell ⟨B, 0, none⟩ (Value.int IntKind.i64 (4096 + (y : Int)))).setCell ⟨B, 1, none⟩ (Value.slice (some ⟨w3.heap.size, 0, none⟩) 64 64)) ((((w4.setCell ⟨B, 0, none⟩ (Value.int IntKind.i64 (4096 + (y : Int)))).setCell ⟨B, 1, none⟩ (Value.slice (some ⟨w3.heap.size, 0, none⟩) 64 64)).setCell ⟨w.heap.size, 0, none⟩ (.int .i64 (4096 + (y : Int)))).setCell ⟨w.heap.size, 1, none⟩ (.slice (some ⟨w3.heap.size, 0, none⟩) 64 64)) := (gsc _ ⟨w.heap.size, 0, none⟩ _).trans (gsc _ ⟨w.heap.size, 1, none⟩ _)
   have gh : ∀ q, some w.heap.size = some q → w.heap.size ≤ q := fun q e => by cases e; exact Nat.le_refl _
   obtain ⟨d0, d1⟩ := ((hRX).put0 (Value.int IntKind.i64 (4096 + (y : Int))) |>.put1 (Value.slice (some ⟨w3.heap.size, 0, none⟩) 64 64)).cells
   exact bodyPost_ret (v := .agg #[.int .i64 (4096 + (y : Int)), .slice (some ⟨w3.heap.size, 0, none⟩) 64 64]) (by simp [results, Tryz.results66, go_sem, d0, d1]) rfl ⟨_, 64, (4096 + (y : Int)), List.replicate 64 0, by simp, by simp, by omega, by omega, ((hgo).far gw (Nat.lt_succ_self _)).mono (Nat.le_succ _), hr.far (hrX) gw gh, (hdX).own gw gh⟩
 have e0 : ((m : Int) == 0) = false := by simp; omega
 have e1 : ((m : Int) == 1) = false := by simp; omega
 have e2 : ((m : Int) == 2) = false := by simp; omega
 have e3 : ((m : Int) == 3) = false := by simp; omega
 have e4 : ((m : Int) == 4) = false := by simp; omega
 clear m0 m1 m2 m3 m4 hm
 go_wp2
 have gw : Dw w.heap.size (w3) (((w3).setCell ⟨w.heap.size, 0, none⟩ (.int .i64 (V : Int))).setCell ⟨w.heap.size, 1, none⟩ (.slice (some ⟨g, 0, none⟩) xs.length xs.length)) := (gsc _ ⟨w.heap.size, 0, none⟩ _).trans (gsc _ ⟨w.heap.size, 1, none⟩ _)
 have gh : ∀ q, some w.heap.size = some q → w.heap.size ≤ q := fun q e => by cases e; exact Nat.le_refl _
 obtain ⟨d0, d1⟩ := ((hR3).put0 (Value.int IntKind.i64 (V : Int)) |>.put1 (Value.slice (some ⟨g, 0, none⟩) xs.length xs.length)).cells
 exact bodyPost_ret (v := .agg #[.int .i64 (V : Int), .slice (some ⟨g, 0, none⟩) xs.length xs.length]) (by simp [results, Tryz.results66, go_sem, d0, d1]) rfl ⟨_, _, (V : Int), xs, rfl, n1, by omega, by omega, ((HG.out _ ho3).far gw (Nat.lt_succ_self _)).mono (Nat.le_succ _), hr.far (hr3) gw gh, (hd').own gw gh⟩

theorem open_any (a : Option Addr) (c : Nat) (bs : List Nat) (w : World) (h : RdB w a bs) :
  Calls Tryz.prog 34 #[.slice a bs.length c] w fun e w' => ∃ β, e = .returned (.pointer (some ⟨β, 0, none⟩)) ∧ w.heap.size ≤ β ∧ Rr w' β a c bs ∧ Below w.heap.size w w' := by
 have hl := h.1
 go_enter Tryz.func34, Tryz.ntmps34
 go_wp2
 go_ret
 refine ⟨w.heap.size, rfl, Nat.le_refl _, ⟨0, Nat.zero_le _, Blk.new _ _ _ _, h.later (Ba (Below.refl _ _) _), fun x e hb => ?_⟩, Ba (Below.refl _ _) _⟩
 obtain ⟨-, -, h | ⟨b, o, rfl, hc⟩⟩ := h
 ·exact absurd h hb
 ·cases e
  have := block_lt_of_cell (hc 0 (List.length_pos_iff.2 hb))
  simp at this ⊢
  omega


structure Bw where
 wd : Int
 a : Option Addr
 c : Nat
 ws : List Nat
def Bw.ct (x : Bw) : Int × List Nat := (x.wd, x.ws)
def BwAt (w : World) (b o : Nat) (x : Bw) : Prop :=
 w.cell? ⟨b, o, none⟩ = some (.int .i64 x.wd) ∧ w.cell? ⟨b, o + 1, none⟩ = some (.slice x.a x.ws.length x.c) ∧ Rd w x.a x.ws ∧ in64 x.wd
theorem BwAt.later {w w' : World} {b o : Nat} {x : Bw} (h : BwAt w b o x) (hb : Below w.heap.size w w') : BwAt w' b o x := by
 obtain ⟨f0, f1, f2, f3⟩ := h
 exact ⟨by rw [kcell hb _ _ (block_lt_of_cell f0)]; exact f0, by rw [kcell hb _ _ (block_lt_of_cell f1)]; exact f1, f2.later hb, f3⟩
def RdW (w : World) (a : Option Addr) (xs : List Bw) : Prop :=
 xs.length ≤ 1048576 ∧ (xs = [] ∨ ∃ b o, a = some ⟨b, o, none⟩ ∧ ∀ i n, xs[i]? = some n → BwAt w b (o + i * 2) n)
theorem RdW.later {w w' : World} {a : Option Addr} {xs : List Bw} (h : RdW w a xs) (hb : Below w.heap.size w w') : RdW w' a xs := by
 refine ⟨h.1, ?_⟩
 rcases h.2 with h | ⟨b, o, rfl, hc⟩
 ·exact .inl h
 ·exact .inr ⟨b, o, rfl, fun i n hi => (hc i n hi).later hb⟩
theorem Tryz.infoBits : (Tryz.prog.info? 80).map (fun i => (i.zero, i.size, i.bytes)) = some (some (.agg #[.int .i64 0, .slice none 0 0]), 2, 32) := by kernel_rfl


end Go.Proofs.YtkngpgonmedgpaaGreatDoor
