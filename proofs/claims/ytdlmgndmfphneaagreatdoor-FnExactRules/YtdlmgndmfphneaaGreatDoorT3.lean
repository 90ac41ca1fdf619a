/- What the given TurnBits answers. -/
import Derived.Test.YtdlmgndmfphneaaGreatDoorZGAO
namespace Go.Proofs.YtdlmgndmfphneaaGreatDoor
set_option linter.unusedVariables false
set_option linter.unusedSimpArgs false
open Go.RowKit

set_option maxHeartbeats 2000000 in
set_option maxRecDepth 100000 in
theorem specTurn_any (W : Int) (a : Option Addr) (c : Nat) (xs : List Nat) (n : Int) (w : World) (hr : Rd w a xs) :
    Calls Tryz.prog 113 #[.agg #[.int .i64 W, .slice a xs.length c], .int .i64 n] w (RetB w (turnR W xs n)) := by
  have h2 : Below w.heap.size w ((w.alloc (Obj.cells #[Value.int IntKind.i64 W, Value.slice a xs.length c] 61)).alloc (Obj.cells #[Value.int IntKind.i64 0, Value.slice none 0 0] 61)) := Ba (Ba (Below.refl _ _) _) _
  have hr' := hr.later h2
  have bR0 := Blk.new1 w (Obj.cells #[Value.int IntKind.i64 W, Value.slice a xs.length c] 61) (Value.int IntKind.i64 0) (Value.slice none 0 0) 61
  have bA0 := (Blk.new w (Value.int IntKind.i64 W) (Value.slice a xs.length c) 61).alloc (Obj.cells #[Value.int IntKind.i64 0, Value.slice none 0 0] 61)
  by_cases hc : rightB W xs = true ∧ 0 ≤ n ∧ n ≤ 4096
  · rw [turnR, if_pos hc]
    generalize hR : (W, pack (turnL (bitsTo xs W.toNat) (n.toNat % W.toNat)), true) = R
    have HR : Hid ((W, pack (turnL (bitsTo xs W.toNat) (n.toNat % W.toNat)), true) = R) := hR
    clear hR
    obtain ⟨hok, hn1, hn2⟩ := hc
    obtain ⟨hW1, hW2, hWl⟩ := right_W hok
    obtain ⟨V, rfl⟩ := Int.eq_ofNat_of_zero_le (show 0 ≤ W by omega)
    obtain ⟨m, rfl⟩ := Int.eq_ofNat_of_zero_le hn1
    have hVl : V ≤ 64 * xs.length := by omega
    have hd : decide (0 ≤ (m : Int) ∧ (m : Int) ≤ 4096) = true := by simp; omega
    have hV0 : ¬ (V : Int) = 0 := by omega
    have hVp : 0 < V := by omega
    have hmk := fun kl kc w => run_make_row' (P := Tryz.prog) 104 5 (.int .u8 0) 1 Tryz.underlying104 Tryz.infoU8 rfl kl kc V (by omega) (by omega) w
    clear hWl
    go_enter Tryz.func113, Tryz.ntmps113
    go_wp2_with fail
    refine (specOk_any _ _ _ _ _ hr').mono ?_
    rintro e w1 ⟨rfl, hb1⟩
    have hr1 := hr'.later hb1
    have B1 := chain h2 hb1
    have bR1 := bR0.next hb1
    have bA1 := bA0.next hb1
    obtain ⟨c0, c1⟩ := bA1.cells
    clear hb1 bR0 bA0
    go_wp2_with (go_at_call 24; refine (l1In_any _ _ _ _).mono ?_; rintro e w' ⟨rfl, rfl⟩)
    refine (l1List_any _ _ _ _ _ hr1 hVl (by omega)).mono ?_
    rintro e w2 ⟨v, rfl, how, hb2⟩
    have hlen := bitsTo_len xs V
    have hle := bitsTo_le xs V
    obtain ⟨a2, c2, rfl, hrb, -, -⟩ := how.shape (by rw [hlen]; omega) (fun x hx => by have := hle x hx; omega)
    obtain ⟨bb, oo, rfl, hcell⟩ := hrb.2.2.resolve_left (fun h => by rw [h] at hlen; simp at hlen; omega)
    have B2 := chain B1 hb2
    have bR2 := bR1.next hb2
    have hbb : bb < w2.heap.size := block_lt_of_cell (hcell 0 (by omega))
    have hR2 := bR2.lt
    generalize hbs : bitsTo xs V = bs at *
    have HBS : Hid (bitsTo xs V = bs) := hbs
    have HLN : Hid (bs.length = V) := hlen
    rw [hlen]
    clear hbs hb2 hr hr' hr1 B1 bR1 bA1 c0 c1 h2 how hrb
    go_wp2_with fail
    have ho3 := OwB.made w2 w2.heap.size V (Nat.le_refl _) (by omega)
    have b3 : Below w2.heap.size w2 (w2.alloc (.cells (madeCells #[.int .u8 0] V) 5)) := Ba (Below.refl _ _) _
    have HO : Hid (tuTo bs m 0 = List.replicate V 0) := by show _ = _; rw [tuTo, hlen]
    clear hlen hmk
    generalize w2.alloc (.cells (madeCells #[.int .u8 0] V) 5) = w3 at *
    go_loopw [8] (fun i wr => ∃ k : Nat, k ≤ V ∧ i = .int .i64 k ∧ OwB wr w2.heap.size (.slice (some ⟨w2.heap.size, 0, none⟩) V V) (tuTo bs m k) ∧ Below w2.heap.size w2 wr) (fun i _ => V - (intOf i).toNat)
    case atStart => exact ⟨0, Nat.zero_le _, rfl, by rw [HO.out]; exact ho3, b3⟩
    case round =>
      obtain ⟨k, hk, rfl, hown, hbel⟩ := hrel
      have hlk : (tuTo bs m k).length = V := by rw [tuTo_len, HLN.out]
      have hown' : OwB wr w2.heap.size (.slice (some ⟨w2.heap.size, 0, none⟩) (tuTo bs m k).length V) (tuTo bs m k) := by rw [hlk]; exact hown
      clear HO ho3 b3 hown
      by_cases hlt : k < V
      · have hp : (k + m) % V < V := Nat.mod_lt _ hVp
        have hmod : ((k : Int) + (m : Int)) % (V : Int) = (((k + m) % V : Nat) : Int) := rfl
        have hck : wr.cell? ⟨bb, oo + k, none⟩ = some (.int .u8 ((bs.getD k 0 : Nat) : Int)) := by
          rw [hbel.cell (p := ⟨bb, oo + k, none⟩) (by exact hbb)]; exact hcell k (by rw [HLN.out]; exact hlt)
        have hg := hown'.cellAt ((k + m) % V) (by omega)
        have hf := hown'.freeAt ((k + m) % V)
        have hput := OwB.put hown' ((k + m) % V) (bs.getD k 0)
        have HT : Hid (tuTo bs m (k + 1) = (tuTo bs m k).set ((k + m) % V) (bs.getD k 0)) := by show _ = _; rw [tuTo, HLN.out]
        rw [hlk, ← HT.out] at hput
        have HPUT : Hid _ := hput
        have hy1 : bs.getD k 0 ≤ 1 := getD_mem_le hle k
        have hki : (k : Int) < (V : Int) := by omega
        clear hput hown' hlk hcell HT
        generalize (tuTo bs m k).getD ((k + m) % V) 0 = z at *
        generalize (k + m) % V = p at *
        generalize bs.getD k 0 = y at *
        have hpi : (p : Int) < (V : Int) := by omega
        go_wp2
        go_region
        go_wp2
        exact ⟨⟨k + 1, by omega, by go_num, HPUT.out, (hbel.setCell (Nat.le_refl _) _).drew⟩, by simp [intOf]; omega⟩
      · have e : k = V := by omega
        subst e
        have HQ : Hid ((((tuTo bs m k).length : Int), pack (tuTo bs m k), true) = R) := by
          show _ = _
          have ht := tuTo_all bs m (by rw [HLN.out]; exact hVp)
          rw [HLN.out] at ht
          rw [← HR.out, Int.toNat_natCast, Int.toNat_natCast, HBS.out, ht, turnL_len, HLN.out]
        obtain ⟨a5, c5, hv5, hrb5, -, -⟩ := hown'.shape (by omega) (fun x hx => by have := tuTo_le bs hle m k x hx; omega)
        have hfrom := l1From_yes a5 c5 _ _ hrb5 (by omega) (by omega)
        rw [← hv5, hlk] at hfrom
        rw [hlk] at HQ
        have bR3 := bR2.next hbel
        have B3 := chain B2 hbel
        have hzr := bR3.lt
        clear hown' hrb5 hv5 HR HBS bR2 B2 hbel hcell hlk
        generalize tuTo bs m k = T at *
        go_wp2_with fail
        refine hfrom.mono ?_
        rintro e w5 ⟨a6, c6, rfl, hfr, hb5⟩
        have bR5 := bR3.next hb5
        have B5 := chain B3 hb5
        obtain ⟨r0, r1⟩ := bR5.cells
        have f0 := bR5.free 0
        have f1 := bR5.free 1
        dsimp only at hfr ⊢
        clear hfrom
        go_wp2
        exact bodyPost_ret (by simp [results, Tryz.results113, go_sem, r0, r1]; rfl) rfl (RetB.close (r := ((k : Int), pack T, true)) hfr (by omega) hzr B5 HQ.out _ _)
  · rw [turnR, if_neg hc]
    have hcase : rightB W xs = false ∨ (rightB W xs = true ∧ decide (0 ≤ n ∧ n ≤ 4096) = false) := by
      cases hb : rightB W xs with
      | false => exact .inl rfl
      | true =>
        right
        refine ⟨rfl, ?_⟩
        simp only [hb, true_and] at hc
        simp [hc]
    clear hc
    rcases hcase with h | ⟨h, h1⟩
    · go_enter Tryz.func113, Tryz.ntmps113
      go_wp2_with fail
      refine (specOk_any _ _ _ _ _ hr').mono ?_
      rintro e w1 ⟨rfl, hb1⟩
      have B1 := chain h2 hb1
      have bR1 := bR0.next hb1
      obtain ⟨r0, r1⟩ := bR1.cells
      have f0 := bR1.free 0
      have f1 := bR1.free 1
      go_wp2_with (go_at_call 24; refine (l1In_any _ _ _ _).mono ?_; rintro e w' ⟨rfl, rfl⟩)
      exact bodyPost_ret (v := .tuple #[.agg #[.int .i64 0, .slice none 0 0], .bool false]) (by simp [results, Tryz.results113, go_sem, r0, r1]) rfl (RetB.no ((B1.setCell (by simp) _).setCell (by simp) _))
    · go_enter Tryz.func113, Tryz.ntmps113
      go_wp2_with fail
      refine (specOk_any _ _ _ _ _ hr').mono ?_
      rintro e w1 ⟨rfl, hb1⟩
      have B1 := chain h2 hb1
      have bR1 := bR0.next hb1
      obtain ⟨r0, r1⟩ := bR1.cells
      have f0 := bR1.free 0
      have f1 := bR1.free 1
      go_wp2_with (go_at_call 24; refine (l1In_any _ _ _ _).mono ?_; rintro e w' ⟨rfl, rfl⟩)
      exact bodyPost_ret (v := .tuple #[.agg #[.int .i64 0, .slice none 0 0], .bool false]) (by simp [results, Tryz.results113, go_sem, r0, r1]) rfl (RetB.no ((B1.setCell (by simp) _).setCell (by simp) _))

end Go.Proofs.YtdlmgndmfphneaaGreatDoor
