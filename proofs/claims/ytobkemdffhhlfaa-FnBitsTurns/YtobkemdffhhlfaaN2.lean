/- What the two NextBits answer. -/
import Derived.Test.YtobkemdffhhlfaaN1
import Derived.Deep.RegionWith
namespace Go.Proofs.Ytobkemdffhhlfaa
set_option linter.unusedVariables false
set_option linter.unusedSimpArgs false
open Go.RowKit

theorem add64_run (x c : Nat) (hx : x < 18446744073709551616) (hc : c ≤ 1) (w : World) : (callFunc 83 #[.int .u64 x, .int .u64 0, .int .u64 c]).run Try.prog w =
    .ok (.value (.tuple #[.int .u64 (((x + c) % 18446744073709551616 : Nat) : Int), .int .u64 (((x + c) / 18446744073709551616 : Nat) : Int)])) w := by
  rw [run_callFunc_extern Try.func83 (by kernel_rfl) (by kernel_rfl) (by kernel_rfl) (e := add64Entry) (by kernel_rfl), run_add64 x 0 c (by omega) (by omega) (by omega) (by omega)]
  simp only [Result.andThen]
  congr 5 <;> omega

theorem OwB.put {w : World} {base g cap : Nat} {bs : List Nat} (h : OwB w base (.slice (some ⟨g, 0, none⟩) bs.length cap) bs) (j y : Nat) : OwB (w.setCell ⟨g, j, none⟩ (.int .u8 (y : Int))) base (.slice (some ⟨g, 0, none⟩) bs.length cap) (bs.set j y) := by
  have := (World.ownsRow.stored h j (.int .u8 (y : Int))).1
  unfold OwB
  rw [List.length_set]
  have e : (u8s bs).set j (.int .u8 (y : Int)) = u8s (bs.set j y) := by simp [u8s, List.map_set]
  rw [e] at this
  exact this

theorem OwB.block {w : World} {base : Nat} {v : Value} {bs : List Nat} (h : OwB w base v bs) (hp : 0 < bs.length) : ∃ g cap, v = .slice (some ⟨g, 0, none⟩) bs.length cap ∧ base ≤ g ∧ g < w.heap.size ∧ bs.length ≤ cap := by
  obtain ⟨h1, ⟨rfl, h2⟩ | ⟨g, cap, cur, rfl, hg, hh, hc1, hc2, hsz, hcur⟩⟩ := h
  · omega
  · exact ⟨g, cap, rfl, hg, lt_of_block hh, hc1⟩

theorem OwB.cellAt {w : World} {base g cap : Nat} {bs : List Nat} (h : OwB w base (.slice (some ⟨g, 0, none⟩) bs.length cap) bs) (j : Nat) (hj : j < bs.length) : w.cell? ⟨g, j, none⟩ = some (.int .u8 ((bs.getD j 0 : Nat) : Int)) := by
  rw [World.ownsRow.cellAt h j (by omega)]
  simp [u8s, List.getD, hj]
theorem OwB.freeAt {w : World} {base g cap : Nat} {bs : List Nat} (h : OwB w base (.slice (some ⟨g, 0, none⟩) bs.length cap) bs) (j : Nat) : w.frozen? ⟨g, j, none⟩ = false := World.ownsRow.frozenAt h j

theorem flip_set (bs : List Nat) (k y : Nat) (h : k < bs.length) : (List.replicate k 0 ++ bs.drop k).set k y = List.replicate k 0 ++ y :: bs.drop (k + 1) := by
  rw [List.set_append_right _ _ (by simp)]
  simp only [List.length_replicate, Nat.sub_self]
  rw [List.drop_eq_getElem_cons h, List.set_cons_zero]

set_option maxHeartbeats 1000000 in
set_option maxRecDepth 100000 in
theorem specNext_any (W : Int) (a : Option Addr) (c : Nat) (xs : List Nat) (w : World) (hr : Rd w a xs) :
    Calls Try.prog 40 #[.agg #[.int .i64 W, .slice a xs.length c]] w (RetB w (nextR W xs)) := by
  have h2 : Below w.heap.size w ((w.alloc (Obj.cells #[Value.int IntKind.i64 W, Value.slice a xs.length c] 26)).alloc (Obj.cells #[Value.int IntKind.i64 0, Value.slice none 0 0] 26)) := ((Below.refl _ _).alloc (Nat.le_refl _) _).alloc (by simp) _
  have hr' := hr.later h2
  by_cases hok : rightB W xs = true
  · have hRR : nextR W xs = if fz xs W.toNat < W.toNat then (W, pack (nxtList (bitsTo xs W.toNat) (fz xs W.toNat)), true) else noR := by unfold nextR; simp [hok]
    rw [hRR]
    generalize hR : (if fz xs W.toNat < W.toNat then (W, pack (nxtList (bitsTo xs W.toNat) (fz xs W.toNat)), true) else noR) = R
    have HR : Hid ((if fz xs W.toNat < W.toNat then (W, pack (nxtList (bitsTo xs W.toNat) (fz xs W.toNat)), true) else noR) = R) := hR
    clear hR hRR
    obtain ⟨hW1, hW2, hWl⟩ := right_W hok
    obtain ⟨V, rfl⟩ := Int.eq_ofNat_of_zero_le (show 0 ≤ W by omega)
    have hVl : V ≤ 64 * xs.length := by omega
    clear hWl
    have bR0 := Blk.new1 w (Obj.cells #[Value.int IntKind.i64 V, Value.slice a xs.length c] 26) (Value.int IntKind.i64 0) (Value.slice none 0 0) 26
    have bA0 := (Blk.new w (Value.int IntKind.i64 V) (Value.slice a xs.length c) 26).alloc (Obj.cells #[Value.int IntKind.i64 0, Value.slice none 0 0] 26)
    go_enter Try.func40, Try.ntmps40
    go_wp2_with fail
    refine (specOk_any _ _ _ _ _ hr').mono ?_
    rintro e w1 ⟨rfl, hb1⟩
    have hr1 := hr'.later hb1
    have B1 := h2.trans (hb1.mono (by simp; omega))
    have bR1 := bR0.next hb1
    have bA1 := bA0.next hb1
    obtain ⟨c0, c1⟩ := bA1.cells
    clear hb1 bR0 bA0
    go_wp2_with fail
    refine (l1List_any _ _ _ _ _ hr1 hVl (by omega)).mono ?_
    rintro e w2 ⟨v, rfl, how, hb2⟩
    have hlen := bitsTo_len xs V
    have hle := bitsTo_le xs V
    have hbit : ∀ k, k < V → (bitsTo xs V).getD k 0 = (tb xs k).toNat := fun k hk => by simp [List.getD, bitsTo, hk]
    obtain ⟨g, cap, rfl, hg, hgl, hcap⟩ := how.block (by omega)
    have B2 := chain B1 hb2
    have bR2 := bR1.next hb2
    have s2 := hb2.size
    have hRl := bR1.lt
    generalize hbs : bitsTo xs V = bs at *
    have HBS : Hid (bitsTo xs V = bs) := hbs
    clear hbs hb2 hr hr' hr1 B1 bR1 bA1 c0 c1 h2
    rw [hlen]
    rw [hlen] at how
    go_wp2_with fail
    go_loopw [5] (fun i wr => ∃ k : Nat, k ≤ V ∧ i = .int .i64 k ∧ OwB wr (w1.heap.size + 1) (.slice (some ⟨g, 0, none⟩) V cap) (List.replicate k 0 ++ bs.drop k) ∧ (∀ j, j < k → tb xs j = true) ∧ Blk wr (w.heap.size + 1) (Value.int IntKind.i64 0) (Value.slice none 0 0) 26 ∧ Below w.heap.size w wr ∧ wr.heap.size = w2.heap.size) (fun i _ => V - (intOf i).toNat)
    case atStart => exact ⟨0, Nat.zero_le _, rfl, by simpa using how, fun j hj => by omega, bR2, B2, rfl⟩
    case round =>
      obtain ⟨k, hk, rfl, hown, hall, bR, B, hsz⟩ := hrel
      have HALL : Hid _ := hall
      clear hall
      obtain ⟨r0, r1⟩ := bR.cells
      have f0 := bR.free 0
      have f1 := bR.free 1
      by_cases hlt : k < V
      · have hl1 : (List.replicate k 0 ++ bs.drop k).length = V := by simp [hlen]; omega
        have hown' : OwB wr (w1.heap.size + 1) (.slice (some ⟨g, 0, none⟩) (List.replicate k 0 ++ bs.drop k).length cap) (List.replicate k 0 ++ bs.drop k) := by rw [hl1]; exact hown
        have hcell := hown'.cellAt k (by omega)
        have hfree := hown'.freeAt k
        have hgd : (List.replicate k 0 ++ bs.drop k).getD k 0 = (tb xs k).toNat := by
          rw [← hbit k hlt]
          simp only [List.getD]
          rw [List.getElem?_append_right (by simp)]
          simp
        rw [hgd] at hcell
        have hki : (k : Int) < (V : Int) := by omega
        have hneR : ¬ w.heap.size + 1 = g := by omega
        cases ht : tb xs k with
        | true =>
          rw [ht] at hcell
          have hst := hown'.put k 0
          rw [hl1, flip_set bs k 0 (by omega)] at hst
          have HST : Hid _ := hst
          have bR4 : Blk (wr.setCell ⟨g, k, none⟩ (.int .u8 ((0 : Nat) : Int))) (w.heap.size + 1) (Value.int IntKind.i64 0) (Value.slice none 0 0) 26 := by
            unfold Blk; rw [heap_setCell_other _ _ _ _ (by simpa using hneR)]; exact bR
          clear hst hown hown' hgd hl1 r0 r1 f0 f1 bR how bR2
          go_wp2
          go_roundw
          case rel =>
            refine ⟨k + 1, by omega, by go_num, ?_, fun j hj => ?_, bR4, B.setCell (by simp; omega) _, by simpa using hsz⟩
            · have h := HST.out
              rw [List.replicate_succ', List.append_assoc]
              exact h
            · by_cases e : j = k
              · rw [e]; exact ht
              · exact HALL.out j (by omega)
          case measure => simp [intOf]; omega
        | false =>
          rw [ht] at hcell
          have hst : OwB (wr.setCell ⟨g, k, none⟩ (.int .u8 1)) (w1.heap.size + 1) (.slice (some ⟨g, 0, none⟩) (List.replicate k 0 ++ bs.drop k).length cap) ((List.replicate k 0 ++ bs.drop k).set k 1) := hown'.put k 1
          rw [hl1, flip_set bs k 1 (by omega)] at hst
          have hl2 : (List.replicate k 0 ++ 1 :: bs.drop (k + 1)).length = V := by simp [hlen]; omega
          have hfz : fz xs V = k := fzFrom_eq xs V 0 k (Nat.zero_le _) (by omega) (fun j _ hj => HALL.out j hj) ht
          have HQ : Hid (((V : Int), pack (List.replicate k 0 ++ 1 :: bs.drop (k + 1)), true) = R) := by
            show _ = _
            rw [← HR.out, Int.toNat_natCast, hfz, if_pos hlt, HBS.out]
            rfl
          have hst' : OwB (wr.setCell ⟨g, k, none⟩ (.int .u8 1)) (w1.heap.size + 1) (.slice (some ⟨g, 0, none⟩) (List.replicate k 0 ++ 1 :: bs.drop (k + 1)).length cap) (List.replicate k 0 ++ 1 :: bs.drop (k + 1)) := by rw [hl2]; exact hst
          obtain ⟨a5, c5, hv5, hrb5, _, _⟩ := hst'.shape (by omega) (fun x hx => by
            rcases List.mem_append.1 hx with h | h
            · have := List.eq_of_mem_replicate h; omega
            · rcases List.mem_cons.1 h with h | h
              · omega
              · have := hle x (List.mem_of_mem_drop h); omega)
          have hfrom := l1From_yes a5 c5 _ _ hrb5 (by omega) (by omega)
          rw [← hv5, hl2] at hfrom
          have bR4 : Blk (wr.setCell ⟨g, k, none⟩ (.int .u8 1)) (w.heap.size + 1) (Value.int IntKind.i64 0) (Value.slice none 0 0) 26 := by
            unfold Blk; rw [heap_setCell_other _ _ _ _ (by simpa using hneR)]; exact bR
          have B4 : Below w.heap.size w (wr.setCell ⟨g, k, none⟩ (.int .u8 1)) := B.setCell (by simp; omega) _
          clear hst hst' hown hown' hgd hl1 how bR2 hv5 hrb5 HR HBS
          generalize List.replicate k 0 ++ 1 :: bs.drop (k + 1) = rk at *
          go_wp2_with fail
          refine hfrom.mono ?_
          rintro e w5 ⟨a6, c6, rfl, hfr, hb5⟩
          have bR5 := bR4.next hb5
          have B5 := chain B4 hb5
          have hzr : w.heap.size + 1 < (wr.setCell ⟨g, k, none⟩ (.int .u8 1)).heap.size := bR4.lt
          clear r0 r1 f0 f1 bR
          obtain ⟨r0, r1⟩ := bR5.cells
          have f0 := bR5.free 0
          have f1 := bR5.free 1
          dsimp only at hfr ⊢
          clear hfrom
          go_wp2
          exact bodyPost_ret (by simp [results, Try.results40, go_sem, r0, r1]; rfl) rfl (RetB.close (r := ((V : Int), pack rk, true)) hfr (by omega) hzr B5 HQ.out _ _)
      · have e : k = V := by omega
        subst e
        have hfz : fz xs k = k := by
          have := fzFrom_all xs k 0 (fun j _ hj => HALL.out j (by omega))
          unfold fz; omega
        have HQ : Hid (noR = R) := by show _ = _; rw [← HR.out, Int.toNat_natCast, hfz, if_neg (by omega)]
        clear hown how HR HBS
        go_wp2
        refine bodyPost_ret (v := .tuple #[.agg #[.int .i64 0, .slice none 0 0], .bool false]) (by simp [results, Try.results40, go_sem, r0, r1]) rfl ?_
        rw [← HQ.out]
        exact RetB.no ((B.setCell (by simp) _).setCell (by simp) _)
  · have hf : rightB W xs = false := by simpa using hok
    have hnR : nextR W xs = noR := by unfold nextR; simp [hf]
    rw [hnR]
    go_enter Try.func40, Try.ntmps40
    go_wp2_with fail
    refine (specOk_any _ _ _ _ _ hr').mono ?_
    rintro e w1 ⟨rfl, hb1⟩
    obtain ⟨hcc, hff⟩ := bcell hb1
    have hz : w.heap.size + 1 < w1.heap.size := by have := hb1.size; simp at this; omega
    go_wp2
    exact bodyPost_ret (v := .tuple #[.agg #[.int .i64 0, .slice none 0 0], .bool false]) (by simp [results, Try.results40, go_sem, hcc]) rfl (RetB.no (((h2.trans (hb1.mono (by simp; omega))).setCell (by simp) _).setCell (by simp) _))

theorem undrew2 {w w' : World} (h : Below w.drew.heap.size w.drew w') : Below w.heap.size w w' := ⟨h.os, h.tape, h.output, h.size, h.block⟩

set_option maxHeartbeats 2000000 in
set_option maxRecDepth 100000 in
theorem implNext_any (W : Int) (a : Option Addr) (c : Nat) (xs : List Nat) (w : World) (hr : Rd w a xs) :
    Calls Try.prog 41 #[.agg #[.int .i64 W, .slice a xs.length c]] w (RetB w (nextR W xs)) := by
  have h2 : Below w.heap.size w ((w.alloc (Obj.cells #[Value.int IntKind.i64 W, Value.slice a xs.length c] 26)).alloc (Obj.cells #[Value.int IntKind.i64 0, Value.slice none 0 0] 26)) := ((Below.refl _ _).alloc (Nat.le_refl _) _).alloc (by simp) _
  have hr' := hr.later h2
  have bR0 := Blk.new1 w (Obj.cells #[Value.int IntKind.i64 W, Value.slice a xs.length c] 26) (Value.int IntKind.i64 0) (Value.slice none 0 0) 26
  have bA0 := (Blk.new w (Value.int IntKind.i64 W) (Value.slice a xs.length c) 26).alloc (Obj.cells #[Value.int IntKind.i64 0, Value.slice none 0 0] 26)
  have hoI : rightB W xs = true → onesI W xs = ((ones xs W.toNat : Nat) : Int) := fun h => by rw [onesI, if_pos h]
  cases hok : rightB W xs with
  | true =>
    have hRR : nextR W xs = if fz xs W.toNat < W.toNat then (W, pack (nxtList (bitsTo xs W.toNat) (fz xs W.toNat)), true) else noR := by unfold nextR; simp [hok]
    rw [hRR]
    generalize hR : (if fz xs W.toNat < W.toNat then (W, pack (nxtList (bitsTo xs W.toNat) (fz xs W.toNat)), true) else noR) = R
    have HR : Hid ((if fz xs W.toNat < W.toNat then (W, pack (nxtList (bitsTo xs W.toNat) (fz xs W.toNat)), true) else noR) = R) := hR
    clear hR hRR
    obtain ⟨hW1, hW2, hWl⟩ := right_W hok
    obtain ⟨V, rfl⟩ := Int.eq_ofNat_of_zero_le (show 0 ≤ W by omega)
    have hoi := hoI hok
    rw [Int.toNat_natCast] at hoi
    have HOI : Hid _ := hoi
    obtain ⟨c0, c1⟩ := bA0.cells
    have hxx := hr.2.1
    have hl64 : xs.length ≤ 64 := by omega
    have HWl : Hid ((xs.length : Int) = ((V : Int) + 63) / 64) := hWl
    clear hoi hoI hWl
    cases hfull : decide (ones xs V = V) with
    | true =>
      have hf : ones xs V = V := by simpa using hfull
      have hall := (ones_full xs V).1 hf
      have hfz : fz xs V = V := by
        have := fzFrom_all xs V 0 (fun j _ hj => hall j (by omega))
        unfold fz; omega
      have HQ : Hid (noR = R) := by show _ = _; rw [← HR.out, Int.toNat_natCast, hfz, if_neg (by omega)]
      have heq : onesI (V : Int) xs = (V : Int) := by rw [HOI.out, hf]
      have heqb : ((V : Int) == (V : Int)) = true := by simp
      clear hall hf hfull HR hfz HOI
      go_enter Try.func41, Try.ntmps41
      go_wp2_with fail
      go_region_held3 (fun u => u.cell? ⟨w.heap.size, 0, none⟩ = some (Value.int IntKind.i64 V) ∧ u.cell? ⟨w.heap.size, 1, none⟩ = some (Value.slice a xs.length c)) (simp [*])
        (first | (go_at_call 28; refine (implOk_any _ _ _ _ _ ?_).mono ?_; exact hr'; rintro e w3 ⟨rfl, hb3⟩; replace hb3 := undrew2 hb3; have bA3 := bA0.next hb3; obtain ⟨k0, k1⟩ := bA3.cells) | (go_at_call 31; refine (implOnes_any _ _ _ _ _ (hr'.later hb3)).mono ?_; rintro e w4 ⟨rfl, hb4⟩; have hb5 := chain hb3 hb4; have bA4 := bA0.next hb5; obtain ⟨k0, k1⟩ := bA4.cells))
      have bR5 := bR0.next hb5
      have B5 := h2.trans (hb5.mono (by simp; omega))
      obtain ⟨r0, r1⟩ := bR5.cells
      have f0 := bR5.free 0
      have f1 := bR5.free 1
      clear bA0 bR0 bA3 bA4 hb3 hb4 hb5 h2 hr hr'
      go_wp2
      refine bodyPost_ret (v := .tuple #[.agg #[.int .i64 0, .slice none 0 0], .bool false]) (by simp [results, Try.results41, go_sem, r0, r1]) rfl ?_
      rw [← HQ.out]
      exact RetB.no ((B5.setCell (by simp) _).setCell (by simp) _)
    | false =>
      have hf : ¬ ones xs V = V := by simpa using hfull
      have hfzl : fz xs V < V := by
        rcases Nat.lt_or_ge (fz xs V) V with h | h
        · exact h
        · exfalso
          refine hf ((ones_full xs V).2 fun i hi => ?_)
          cases hb : tb xs i with
          | true => rfl
          | false =>
            exfalso
            have hmin : ∃ p, p ≤ i ∧ tb xs p = false ∧ ∀ j, j < p → tb xs j = true := by
              clear h hf hfull
              induction i using Nat.strongRecOn with
              | ind i ih =>
                by_cases h1 : ∃ j, j < i ∧ tb xs j = false
                · obtain ⟨j, hj, hjf⟩ := h1
                  obtain ⟨p, hp1, hp2, hp3⟩ := ih j hj (by omega) hjf
                  exact ⟨p, by omega, hp2, hp3⟩
                · refine ⟨i, Nat.le_refl _, hb, fun j hj => ?_⟩
                  cases hbj : tb xs j with
                  | true => rfl
                  | false => exact absurd ⟨j, hj, hbj⟩ h1
            obtain ⟨p, hp1, hp2, hp3⟩ := hmin
            have := fzFrom_eq xs V 0 p (Nat.zero_le _) (by omega) (fun j _ hj => hp3 j hj) hp2
            unfold fz at h; omega
      obtain ⟨hz0, hall0⟩ := fzFrom_lt xs V 0 (by unfold fz at hfzl; omega)
      have HQ : Hid (((V : Int), nxTo xs ((V + 63) / 64) ((V + 63) / 64), true) = R) := by
        show _ = _
        rw [← HR.out, Int.toNat_natCast, if_pos hfzl, next_pack hok hxx (fz xs V) _ rfl (fun i hi => hall0 i (Nat.zero_le _) hi) hz0 hfzl]
      have hnn : (onesI (V : Int) xs == (V : Int)) = false := by rw [HOI.out]; simp only [beq_eq_false_iff_ne, ne_eq]; omega
      have hNl : (V + 63) / 64 = xs.length := by have := HWl.out; omega
      rw [hNl] at HQ
      have hcrl := cr_le xs hxx
      clear hfull hf HR HOI hz0 hall0 hfzl
      go_enter Try.func41, Try.ntmps41
      go_wp2_with fail
      go_region_held3 (fun u => u.cell? ⟨w.heap.size, 0, none⟩ = some (Value.int IntKind.i64 V) ∧ u.cell? ⟨w.heap.size, 1, none⟩ = some (Value.slice a xs.length c)) (simp [*])
        (first | (go_at_call 28; refine (implOk_any _ _ _ _ _ ?_).mono ?_; exact hr'; rintro e w3 ⟨rfl, hb3⟩; replace hb3 := undrew2 hb3; have bA3 := bA0.next hb3; obtain ⟨k0, k1⟩ := bA3.cells) | (go_at_call 31; refine (implOnes_any _ _ _ _ _ (hr'.later hb3)).mono ?_; rintro e w4 ⟨rfl, hb4⟩; have hb5 := chain hb3 hb4; have bA4 := bA0.next hb5; obtain ⟨k0, k1⟩ := bA4.cells))
      have bR4 := bR0.next hb5
      have B4 := h2.trans (hb5.mono (by simp; omega))
      clear c0 c1 bA0 bR0 bA3 hb3 hb4 hb5 h2 hr'
      go_wp2_with fail
      refine (zeroBits_any V _ (by omega) (by omega)).mono ?_
      rintro e w6 ⟨g, rfl, hg, hown, hb6⟩
      rw [hNl] at hown ⊢
      have B6 := chain B4 hb6
      have bA6 := bA4.next hb6
      have bR6 := bR4.next hb6
      have hRl := bR4.lt
      have hgl := hown.lt
      clear hb6 B4 bA4 bR4 k0 k1 hNl
      obtain ⟨k0, k1⟩ := bA6.cells
      have hAl := bA6.lt
      go_wp2_with fail
      have bO7 := Blk.new w6 (Value.int IntKind.i64 V) (Value.slice (some ⟨g, 0, none⟩) xs.length xs.length) 26
      have bA7 := bA6.alloc (Obj.cells #[Value.int IntKind.i64 V, Value.slice (some ⟨g, 0, none⟩) xs.length xs.length] 26)
      have bR7 := bR6.alloc (Obj.cells #[Value.int IntKind.i64 V, Value.slice (some ⟨g, 0, none⟩) xs.length xs.length] 26)
      have B7 := Ba B6 (Obj.cells #[Value.int IntKind.i64 V, Value.slice (some ⟨g, 0, none⟩) xs.length xs.length] 26)
      have ho7 := hown.alloc (Obj.cells #[Value.int IntKind.i64 V, Value.slice (some ⟨g, 0, none⟩) xs.length xs.length] 26)
      generalize w6.alloc (Obj.cells #[Value.int IntKind.i64 V, Value.slice (some ⟨g, 0, none⟩) xs.length xs.length] 26) = w7 at *
      go_loopw [5, 24] (fun q i wr => ∃ k : Nat, k ≤ xs.length ∧ i = .int .i64 k ∧ q = .int .u64 ((cr xs k : Nat) : Int) ∧ Own wr g (nxTo xs xs.length k) ∧ Blk wr w6.heap.size (Value.int IntKind.i64 V) (Value.slice (some ⟨g, 0, none⟩) xs.length xs.length) 26 ∧ Blk wr w.heap.size (Value.int IntKind.i64 V) (Value.slice a xs.length c) 26 ∧ Blk wr (w.heap.size + 1) (Value.int IntKind.i64 0) (Value.slice none 0 0) 26 ∧ Below w.heap.size w wr) (fun _ i _ => xs.length - (intOf i).toNat)
      case atStart => exact ⟨0, Nat.zero_le _, rfl, rfl, by simpa [nxTo] using ho7, bO7, bA7, bR7, B7⟩
      case round =>
        obtain ⟨k, hk, rfl, rfl, hownk, bO, bA, bR, B⟩ := hrel
        clear bO7 bA7 bR7 B7 ho7 k0 k1 B6 bA6 bR6 hown
        obtain ⟨k0, k1⟩ := bA.cells
        obtain ⟨d0, d1⟩ := bO.cells
        by_cases hlt : k < xs.length
        · have hrr := hr.later B
          obtain ⟨-, -, hn | ⟨b, o, rfl, hcl⟩⟩ := hrr
          · subst hn; simp at hlt
          have hx1 := hcl k hlt
          have hbl : b < w.heap.size := hr.lt (by omega) _ rfl
          have hcg := hownk.cell (i := k) (by rw [nxTo_len _ _ _ hk]; exact hlt)
          have hfg := hownk.free k
          have hy := getD_lt hxx k
          have hc1 := hcrl k
          have HC : Hid (cr xs (k + 1) = (xs.getD k 0 + cr xs k) / 18446744073709551616) := rfl
          have hki : (k : Int) < (xs.length : Int) := by omega
          have hadd := fun u => add64_run (xs.getD k 0) (cr xs k) hy hc1 u
          have hpt := hownk.put k (nxWord xs k)
          rw [nxTo_set xs xs.length k hlt, nxWord] at hpt
          have HPT : Hid _ := hpt
          have f4 := hownk.fr (Nat.le_refl g)
          have m4 : Marked wr (wr.setCell ⟨g, k, none⟩ (.int .u64 (((xs.getD k 0 + cr xs k) % 18446744073709551616 : Nat) : Int))) (some ⟨g, 0, none⟩) := grown_set (World.grownBy.refl _ _) _ _
          have bO4 := bO.mark f4 m4 (by decide)
          have bA4 := bA.mark f4 m4 (by decide)
          have bR4 := bR.mark f4 m4 (by decide)
          have B4 := m4.below f4 B (by omega)
          clear hpt hcl hownk bO bA bR B f4 m4 hcrl
          generalize (nxTo xs xs.length k).getD k 0 = z at hcg
          generalize xs.getD k 0 = y at *
          generalize cr xs k = cc at *
          generalize hs : (y + cc) % 18446744073709551616 = sm at *
          generalize hd : (y + cc) / 18446744073709551616 = cd at *
          clear hs hd
          go_wp2
          go_region
          go_wp2
          go_roundw
          case rel => exact ⟨k + 1, by omega, by go_num, by rw [HC.out], HPT.out, bO4, bA4, bR4, B4.drew⟩
          case measure => simp [intOf]; omega
        · have e : k = xs.length := by omega
          subst e
          obtain ⟨r0, r1⟩ := bR.cells
          have f0 := bR.free 0
          have f1 := bR.free 1
          have HL : Hid ((nxTo xs xs.length xs.length).length = xs.length) := nxTo_len _ _ _ (Nat.le_refl _)
          generalize nxTo xs xs.length xs.length = ys at *
          clear bO bA bR hcrl
          go_wp2
          have hm := RetB.made (w := w) (r := ((V : Int), ys, true)) (c := xs.length) hownk (by omega) (β := w.heap.size + 1) (by omega) (by omega) B HQ.out (Value.int IntKind.i64 V) (Value.slice (some ⟨g, 0, none⟩) xs.length xs.length)
          dsimp only at hm
          rw [HL.out] at hm
          exact bodyPost_ret (by simp [results, Try.results41, go_sem, r0, r1]) rfl hm
  | false =>
    have hnR : nextR W xs = noR := by unfold nextR; simp [hok]
    rw [hnR]
    obtain ⟨c0, c1⟩ := bA0.cells
    go_enter Try.func41, Try.ntmps41
    go_wp2_with fail
    have hIO : ∀ u : World, Rd u a xs → Calls Try.prog 28 #[.agg #[.int .i64 W, .slice a xs.length c]] u fun e w' => e = .returned (.bool false) ∧ Below u.heap.size u w' := fun u hu => by
      have := implOk_any W a c xs u hu
      rwa [hok] at this
    have HIO : Hid _ := hIO
    clear hIO
    first | (go_region_with (go_at_call 28; refine (HIO.out _ ?_).mono ?_; exact hr'; rintro e w3 ⟨rfl, hb3⟩; replace hb3 := undrew2 hb3; have bA3 := bA0.next hb3; have bR3 := bR0.next hb3; obtain ⟨k0, k1⟩ := bA3.cells)) | fail
    all_goals (
      have B3 := h2.trans (hb3.mono (by simp; omega))
      obtain ⟨r0, r1⟩ := bR3.cells
      have f0 := bR3.free 0
      have f1 := bR3.free 1
      go_wp2
      exact bodyPost_ret (v := .tuple #[.agg #[.int .i64 0, .slice none 0 0], .bool false]) (by simp [results, Try.results41, go_sem, r0, r1]) rfl (RetB.no ((B3.setCell (by simp) _).setCell (by simp) _)))

end Go.Proofs.Ytobkemdffhhlfaa
