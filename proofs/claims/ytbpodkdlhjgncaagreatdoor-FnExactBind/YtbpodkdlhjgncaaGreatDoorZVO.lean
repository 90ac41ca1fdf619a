/- Several texts in one. -/
import Derived.Test.YtbpodkdlhjgncaaGreatDoorZVI
import Derived.Test.YtbpodkdlhjgncaaGreatDoorZVB
import Derived.Test.YtbpodkdlhjgncaaGreatDoorZVA
import Derived.Test.YtbpodkdlhjgncaaGreatDoorZVG
import Derived.Deep.RegionHeldLaw
import Derived.Deep.RegionWith
import Derived.Test.YtbpodkdlhjgncaaGreatDoorZVH
import Derived.Test.YtbpodkdlhjgncaaGreatDoorER
import Derived.Test.YtbpodkdlhjgncaaGreatDoorZVF

/- Rows of words of one's own; a word copied. -/
namespace Go.Proofs.YtbpodkdlhjgncaaGreatDoor
set_option linter.unusedVariables false
set_option linter.unusedSimpArgs false
open Go.RowKit

theorem Fresh.nw {w : World} {lo : Nat} {a : Option Addr} {xs : List Nat} (h : Fresh w lo a xs) : Nw w lo a xs := by
  rcases h with ⟨h1, h2⟩ | ⟨g, h1, h2, h3⟩
  · exact .inl ⟨h1, fun x e => by rw [h2] at e; cases e⟩
  · exact .inr ⟨g, u64s xs, h1, h2, h3, fun i hi => u64s_get _ _ hi⟩

theorem Nw.put {w : World} {lo β : Nat} {a : Option Addr} {xs : List Nat} {x y : Value} {t : TypeId} (h : Nw w lo a xs) (hB : Blk w β x y t) (ht : t ≠ 103) (i : Nat) (v : Value) : Nw (w.setCell ⟨β, i, none⟩ v) lo a xs :=
  Nw.kept h fun k cur hc => heap_setCell_other _ _ _ _ (fun e => by
    simp only [] at e
    subst e
    rw [hB] at hc
    cases hc
    exact ht rfl)

/-- An answer that is a word in new memory. -/
def RetV (u : World) (X : Int × List Nat) (e : Ending) (w' : World) : Prop := ∃ a c, e = .returned (.agg #[.int .i64 X.1, .slice a X.2.length c]) ∧ Nw w' u.heap.size a X.2 ∧ Below u.heap.size u w'

theorem Blk.put0' {w : World} {β : Nat} {x y : Value} {t : TypeId} (h : Blk w β x y t) (u : Value) : Blk (w.setCell ⟨β, 0, none⟩ u) β u y t := by
  unfold Blk
  rw [heap_setCell_same w β 0 _ _ _ h]; rfl
theorem Blk.put1' {w : World} {β : Nat} {x y : Value} {t : TypeId} (h : Blk w β x y t) (u : Value) : Blk (w.setCell ⟨β, 1, none⟩ u) β x u t := by
  unfold Blk
  rw [heap_setCell_same w β 1 _ _ _ h]; rfl

theorem set2_far (w : World) (β : Nat) (x y : Value) (a : Addr) (h : a.block ≠ β) : ((w.setCell ⟨β, 0, none⟩ x).setCell ⟨β, 1, none⟩ y).cell? a = w.cell? a := by
  rw [World.cell?_setCell_far _ _ _ _ (fun e => h e.symm), World.cell?_setCell_far _ _ _ _ (fun e => h e.symm)]
theorem drew2_far (w : World) (β : Nat) (x y : Value) (a : Addr) (h : a.block ≠ β) : ((w.setCell ⟨β, 0, none⟩ x).setCell ⟨β, 1, none⟩ y).drew.cell? a = w.cell? a := set2_far w β x y a h
theorem drew_is (w : World) (a : Addr) : w.drew.cell? a = w.cell? a := rfl

/-- A word that is put into the answer's box. -/
theorem RetV.box {u w5 : World} {ρ lo c : Nat} {W : Int} {a : Option Addr} {xs : List Nat} {x y : Value} (hB : Blk w5 ρ x y 63) (hn : Nw w5 lo a xs) (hlo : u.heap.size ≤ lo) (hρ : u.heap.size ≤ ρ) (hb : Below u.heap.size u w5) :
    RetV u (W, xs) (.returned (.agg #[.int .i64 W, .slice a xs.length c])) ((w5.setCell ⟨ρ, 0, none⟩ (.int .i64 W)).setCell ⟨ρ, 1, none⟩ (.slice a xs.length c)) :=
  ⟨a, c, rfl, ((hn.mono hlo).put hB (by decide) 0 _).put (hB.put0' _) (by decide) 1 _, (hb.setCell hρ _).setCell hρ _⟩

set_option maxHeartbeats 1000000 in
theorem copyBits_any (W : Int) (a : Option Addr) (c : Nat) (xs : List Nat) (w : World) (hr : Rd w a xs) (hx : 1 ≤ xs.length) :
    Calls Tryz.prog 56 #[.agg #[.int .i64 W, .slice a xs.length c]] w (RetV w (W, xs)) := by
  have s0 := St.start w (.cells #[.int .i64 W, .slice a xs.length c] 63)
  have hb1 : Below w.heap.size w ((w.alloc (Obj.cells #[Value.int .i64 W, Value.slice a xs.length c] 63)).alloc (Obj.cells #[Value.int .i64 0, Value.slice none 0 0] 63)) := Ba (Ba (Below.refl _ _) _) _
  have hA := (Blk.new w (.int .i64 W) (.slice a xs.length c) 63).alloc (Obj.cells #[Value.int .i64 0, Value.slice none 0 0] 63)
  have hR := Blk.new1 w (Obj.cells #[Value.int .i64 W, Value.slice a xs.length c] 63) (.int .i64 0) (.slice none 0 0) 63
  have hs1 : ((w.alloc (Obj.cells #[Value.int .i64 W, Value.slice a xs.length c] 63)).alloc (Obj.cells #[Value.int .i64 0, Value.slice none 0 0] 63)).heap.size = w.heap.size + 2 := by simp
  obtain ⟨hl, hx2, h | ⟨b, o, rfl, hc⟩⟩ := hr.later hb1
  · rw [h] at hx; simp at hx
  obtain ⟨a0, a1⟩ := hA.cells
  have HC := kide hc
  have HX := kide hx2
  go_enter Tryz.func56, Tryz.ntmps56
  go_wp2_with fail
  generalize ((w.alloc (Obj.cells #[Value.int .i64 W, Value.slice (some ⟨b, o, none⟩) xs.length c] 63)).alloc (Obj.cells #[Value.int .i64 0, Value.slice none 0 0] 63)) = w1 at *
  clear hc hx2 hr s0
  go_region_held_law (fun u => u.cell? ⟨w.heap.size, 0, none⟩ = some (Value.int IntKind.i64 W) ∧ u.cell? ⟨w.heap.size, 1, none⟩ = some (Value.slice (some { block := b, off := o }) xs.length c))
    (first | (refine ⟨?_, ?_⟩ <;> assumption) | (refine ⟨?_, ?_⟩ <;> (rw [World.cell?_setCell_far _ _ _ _ (by simp <;> omega), World.cell?_setCell_far _ _ _ _ (by simp <;> omega)]; assumption)))
    (first
      | (refine step_appWs _ rfl _ _ rfl w1.heap.size (.slice none 0 0) [] xs rfl (OwW.nils _ _) b o c rfl HC.out (by simp; omega) (Nat.le_refl _) ?_; intro v5 w5 how5 hgr5; have hb5 : Below w1.heap.size w1 w5 := kundrew ⟨hgr5.os, hgr5.tape, hgr5.output, hgr5.size, fun k hk => hgr5.block k hk (by simp [Value.ownBlock])⟩; rw [List.nil_append] at how5; obtain ⟨a5, c5, rfl, hn5⟩ := how5.shape; have hA5 := hA.next hb5; have hR5 := hR.next hb5; obtain ⟨a50, a51⟩ := hA5.cells; obtain ⟨r50, r51⟩ := hR5.cells; have f50 := frozen_of_row w5 _ 0 _ _ hR5; have f51 := frozen_of_row w5 _ 1 _ _ hR5))
  go_wp2
  obtain ⟨q0, q1⟩ := ((hR5.put0' (.int .i64 W)).put1' (.slice a5 xs.length c5)).cells
  exact bodyPost_ret (v := .agg #[.int .i64 W, .slice a5 xs.length c5]) (by simp [results, Tryz.results56, go_sem, q0, q1]) rfl (RetV.box hR5 hn5 (by omega) (by omega) (hb1.trans (hb5.mono (by omega))))

end Go.Proofs.YtbpodkdlhjgncaaGreatDoor

/- What the program's WidenBits answers: what the given one does. -/
namespace Go.Proofs.YtbpodkdlhjgncaaGreatDoor
set_option linter.unusedVariables false
set_option linter.unusedSimpArgs false
open Go.RowKit

theorem andOne64 (y k : Nat) (h : y < 18446744073709551616) : bits BinOp.and IntKind.u64 ((y : Int) / 2 ^ k) 1 = ((y / 2 ^ k % 2 : Nat) : Int) := by
  have e : ((y : Int) / 2 ^ k) = ((y / 2 ^ k : Nat) : Int) := by simp
  have hlt : y / 2 ^ k < 18446744073709551616 := Nat.lt_of_le_of_lt (Nat.div_le_self _ _) h
  rw [e, and_one_u64 _ (Int.natCast_nonneg _) (by omega)]
  omega

theorem bitAt_any (W : Int) (U : Nat) (a : Option Addr) (c : Nat) (xs : List Nat) (w : World) (hr : Rd w a xs) (hU : U < 64 * xs.length) :
    Calls Tryz.prog 118 #[.agg #[.int .i64 W, .slice a xs.length c], .int .i64 (U : Int)] w fun e w' => e = .returned (.int .u64 (((tb xs U).toNat : Nat) : Int)) ∧ Below w.heap.size w w' := by
  obtain ⟨hl, hx, h | ⟨b, o, rfl, hc⟩⟩ := hr
  · subst h; simp at hU
  have hcell := hc (U / 64) (by omega)
  have hb : b < w.heap.size := block_lt_of_cell hcell
  have htb := tb_div xs U
  have hlt := getD_lt hx (U / 64)
  generalize hy : xs.getD (U / 64) 0 = y at hcell htb hlt
  generalize (tb xs U).toNat = t at htb ⊢
  have Hb : Hid (bits BinOp.and IntKind.u64 ((y : Int) / 2 ^ (U % 64)) 1 = (t : Int)) := by rw [andOne64 y _ hlt, htb]; rfl
  have hlx : U / 64 < xs.length := by omega
  have hlxi : (U : Int) / 64 < (xs.length : Int) := by omega
  clear hc hx hy hlt htb
  go_enter Tryz.func118, Tryz.ntmps118
  go_wp2
  go_ret
  exact ⟨by simp [Hb.out], (Below.refl _ _).alloc (Nat.le_refl _) _⟩

theorem topBit_any (U : Nat) (a : Option Addr) (c : Nat) (xs : List Nat) (w : World) (hr : Rd w a xs) (hU : U < 64 * xs.length) :
    Calls Tryz.prog 106 #[.agg #[.int .i64 ((U + 1 : Nat) : Int), .slice a xs.length c]] w fun e w' => e = .returned (.int .u64 (((tb xs U).toNat : Nat) : Int)) ∧ Below w.heap.size w w' := by
  obtain ⟨W, hW⟩ : ∃ W : Int, ((U + 1 : Nat) : Int) = W := ⟨_, rfl⟩
  have hl := hr.1
  have h2 : Below w.heap.size w (w.alloc (Obj.cells #[.int .i64 W, .slice a xs.length c] 63)) := (Below.refl _ _).alloc (Nat.le_refl _) _
  have HB : Hid (∀ u, Below w.heap.size w u → Calls Tryz.prog 118 #[.agg #[.int .i64 W, .slice a xs.length c], .int .i64 (U : Int)] u fun e w' => e = .returned (.int .u64 (((tb xs U).toNat : Nat) : Int)) ∧ Below u.heap.size u w') := fun u hu => bitAt_any W U a c xs u (hr.later hu) hU
  have hW1 : W - 1 = (U : Int) := by omega
  have hWw : IntKind.i64.wrap (U : Int) = (U : Int) := by rw [IntKind.wrap_i64]; omega
  have H2 : Hid (Below w.heap.size w (w.alloc (Obj.cells #[.int .i64 W, .slice a xs.length c] 63))) := h2
  rw [hW]
  generalize (tb xs U).toNat = t at HB ⊢
  clear hr h2 hW
  go_enter Tryz.func106, Tryz.ntmps106
  go_wp2_with fail
  first
    | (refine Calls.mono (HB.out _ H2.out) ?_
       rintro e w1 ⟨rfl, hb1⟩
       have B1 : Hid (Below w.heap.size w w1) := H2.out.trans (hb1.mono H2.out.size)
       clear hb1
       go_wp2_with fail
       go_ret
       exact ⟨rfl, B1.out⟩)
    | (go_region_held3 (fun u => u.cell? ⟨w.heap.size, 0, none⟩ = some (Value.int .i64 W) ∧ u.cell? ⟨w.heap.size, 1, none⟩ = some (Value.slice a xs.length c)) (simp [*])
         ((go_at_call 118; refine Calls.mono (HB.out _ H2.out.drew) ?_; rintro e w1 ⟨rfl, hb1⟩; have k0 := hb1.cell (p := ⟨w.heap.size, 0, none⟩) (by simp); have k1 := hb1.cell (p := ⟨w.heap.size, 1, none⟩) (by simp); simp at k0 k1))
       have B1 : Hid (Below w.heap.size w w1) := H2.out.drew.trans (hb1.mono H2.out.drew.size)
       clear hb1
       go_wp2_with fail
       go_ret
       exact ⟨rfl, B1.out⟩)

def onesTo (N k : Nat) : List Nat := List.replicate k 18446744073709551615 ++ List.replicate (N - k) 0
theorem onesTo_len (N k : Nat) (h : k ≤ N) : (onesTo N k).length = N := by simp [onesTo]; omega
theorem onesTo_set (N k : Nat) (h : k < N) : (onesTo N k).set k 18446744073709551615 = onesTo N (k + 1) := by
  unfold onesTo
  rw [List.set_append_right _ _ (by simp)]
  simp only [List.length_replicate, Nat.sub_self]
  obtain ⟨m, hm⟩ : ∃ m, N - k = m + 1 := ⟨N - k - 1, by omega⟩
  rw [hm, List.replicate_succ, List.set_cons_zero, show N - (k + 1) = m by omega, List.replicate_succ', List.append_assoc]
  rfl

def onesRow (n : Nat) : List Nat := clr n (List.replicate ((n + 63) / 64) 18446744073709551615)
theorem onesRow_len (n : Nat) : (onesRow n).length = (n + 63) / 64 := by simp [onesRow, clr_len]
theorem onesRow_lt (n : Nat) : ∀ x ∈ onesRow n, x < 18446744073709551616 := clr_lt _ _ (fun x h => by have := List.eq_of_mem_replicate h; omega)
theorem tb_ones (n : Nat) (h1 : 1 ≤ n) (i : Nat) (hi : i < 64 * ((n + 63) / 64)) : tb (onesRow n) i = decide (i < n) := by
  unfold onesRow
  rw [tb_clr _ _ (by simp; omega) (by simp; omega) (by simp; omega) i (by simpa using hi)]
  have : tb (List.replicate ((n + 63) / 64) 18446744073709551615) i = true := by
    unfold tb
    have e : (List.replicate ((n + 63) / 64) 18446744073709551615).getD (i / 64) 0 = 18446744073709551615 := by
      simp [List.getD, List.getElem?_replicate, show i / 64 < (n + 63) / 64 by omega]
    rw [e, show (18446744073709551615 : Nat) = 2 ^ 64 - 1 by decide, Nat.testBit_two_pow_sub_one]
    simp; omega
  rw [this]; simp
theorem onesRow_right (n : Nat) (h1 : 1 ≤ n) (h2 : n ≤ 4096) : rightB n (onesRow n) = true := by
  rw [rightB_clear (by simp [wOk]; omega) (by rw [onesRow_len]; omega), clear_iff]
  intro i hi hl
  rw [onesRow_len] at hl
  rw [tb_ones n h1 i hl]
  simp; omega

set_option maxHeartbeats 1000000 in
set_option maxRecDepth 100000 in
theorem onesOf_any (n : Nat) (w : World) (h1 : 1 ≤ n) (h2 : n ≤ 4096) :
    Calls Tryz.prog 107 #[.int .i64 n] w fun e w' => ∃ g, e = .returned (.agg #[.int .i64 n, .slice (some ⟨g, 0, none⟩) ((n + 63) / 64) ((n + 63) / 64)]) ∧ w.heap.size ≤ g ∧ Own w' g (onesRow n) ∧ Below w.heap.size w w' := by
  go_enter Tryz.func107, Tryz.ntmps107
  go_wp2_with fail
  refine (zeroBits_any n _ h1 h2).mono ?_
  rintro e w2 ⟨g, rfl, hg, hown, hb2⟩
  have B2 := chain (Ba (Below.refl _ w) _) hb2
  have bR2 := (Blk.new w _ _ _).next hb2
  rw [World.size_alloc] at hg
  generalize hN : (n + 63) / 64 = N at *
  have HN : Hid ((n + 63) / 64 = N) := hN
  have hN64 : N ≤ 64 := by omega
  clear hN hb2
  have hgl := hown.lt
  go_wp2_with fail
  have bO3 := Blk.new w2 (Value.int IntKind.i64 n) (Value.slice (some ⟨g, 0, none⟩) N N) 63
  have bR3 := bR2.alloc (Obj.cells #[Value.int IntKind.i64 n, Value.slice (some ⟨g, 0, none⟩) N N] 63)
  have B3 := Ba B2 (Obj.cells #[Value.int IntKind.i64 n, Value.slice (some ⟨g, 0, none⟩) N N] 63)
  have ho3 := hown.alloc (Obj.cells #[Value.int IntKind.i64 n, Value.slice (some ⟨g, 0, none⟩) N N] 63)
  generalize w2.alloc (Obj.cells #[Value.int IntKind.i64 n, Value.slice (some ⟨g, 0, none⟩) N N] 63) = w3 at *
  go_loopw [10] (fun i wr => ∃ k : Nat, k ≤ N ∧ i = .int .i64 k ∧ Own wr g (onesTo N k) ∧ Blk wr w2.heap.size (Value.int IntKind.i64 n) (Value.slice (some ⟨g, 0, none⟩) N N) 63 ∧ Blk wr w.heap.size (Value.int IntKind.i64 0) (Value.slice none 0 0) 63 ∧ Below w.heap.size w wr) (fun i _ => N - (intOf i).toNat)
  case atStart => exact ⟨0, Nat.zero_le _, rfl, by simpa [onesTo] using ho3, bO3, bR3, B3⟩
  case round =>
    obtain ⟨k, hk, rfl, hownk, bO, bR, B⟩ := hrel
    obtain ⟨d0, d1⟩ := bO.cells
    by_cases hlt : k < N
    · have hcg := hownk.cell (i := k) (by rw [onesTo_len _ _ hk]; exact hlt)
      have hfg := hownk.free k
      have HP : Hid _ := hownk.put k 18446744073709551615
      have HT : Hid _ := onesTo_set N k hlt
      have hne1 : w2.heap.size ≠ g := by omega
      have hne2 : w.heap.size ≠ g := by omega
      have bO4 : Blk (wr.setCell ⟨g, k, none⟩ (.int .u64 ((18446744073709551615 : Nat) : Int))) w2.heap.size (Value.int IntKind.i64 n) (Value.slice (some ⟨g, 0, none⟩) N N) 63 := by
        unfold Blk; rw [heap_setCell_other _ _ _ _ (by simpa using hne1)]; exact bO
      have bR4 : Blk (wr.setCell ⟨g, k, none⟩ (.int .u64 ((18446744073709551615 : Nat) : Int))) w.heap.size (Value.int IntKind.i64 0) (Value.slice none 0 0) 63 := by
        unfold Blk; rw [heap_setCell_other _ _ _ _ (by simpa using hne2)]; exact bR
      generalize (onesTo N k).getD k 0 = z at hcg
      clear hownk
      go_wp2
      go_roundw
      case rel =>
        have h := HP.out
        rw [HT.out] at h
        exact ⟨k + 1, by omega, by go_num, h, bO4, bR4, B.setCell (by simp; omega) _⟩
      case measure => simp [intOf]; omega
    · have e : k = N := by omega
      subst e
      go_wp2_with fail
      obtain ⟨m, hm⟩ : ∃ m, k = m + 1 := ⟨k - 1, by have := HN.out; omega⟩
      have hlk : (onesTo k k).length = m + 1 := by rw [onesTo_len _ _ (Nat.le_refl _)]; exact hm
      have hNn := HN.out
      have hcl := clearAbove_any n g k m _ wr hownk hlk (by omega) (fun x hx => by simp [onesTo] at hx; omega) (by omega) (by omega)
      rw [← hm] at hcl
      refine hcl.mono ?_
      rintro e w4 ⟨rfl, hown4, hgr4⟩
      have f4 := hownk.fr (Nat.le_refl g)
      have m4 : Marked wr w4 (some ⟨g, 0, none⟩) := hgr4
      have bO4 := bO.mark f4 m4 (by decide)
      have bR4 := bR.mark f4 m4 (by decide)
      have B4 := m4.below f4 B (by omega)
      have HE : Hid (Own w4 g (onesRow n)) := by
        show Own _ _ _
        rw [show onesRow n = clr n (List.replicate k 18446744073709551615) by unfold onesRow; rw [hNn]]
        have h := hown4
        rw [show onesTo k k = List.replicate k 18446744073709551615 by simp [onesTo]] at h
        exact h
      obtain ⟨e0, e1⟩ := bO4.cells
      obtain ⟨r0, r1⟩ := bR4.cells
      have f0 := bR4.free 0
      have f1 := bR4.free 1
      clear hcl hownk bO bR B d0 d1 f4 m4 hgr4 bO3 bR3 B3 ho3 hm hlk hNn
      go_wp2
      refine bodyPost_ret (v := .agg #[.int .i64 n, .slice (some ⟨g, 0, none⟩) k k]) (by simp [results, Tryz.results107, go_sem, r0, r1]) rfl ⟨g, by rw [HN.out], by omega, ?_, (B4.setCell (Nat.le_refl _) _).setCell (Nat.le_refl _) _⟩
      exact (HE.out.other (a := ⟨w.heap.size, 0, none⟩) (by simp; omega) _).other (a := ⟨w.heap.size, 1, none⟩) (by simp; omega) _

/-- Widened rows, told by their bits. -/
theorem wid_pack {V : Nat} {xs : List Nat} (hok : rightB V xs = true) (hx : ∀ x ∈ xs, x < 18446744073709551616) (m t : Nat) (ht : t ≤ 1) (ys : List Nat) (hl : ys.length = (V + m + 63) / 64) (hy : ∀ x ∈ ys, x < 18446744073709551616)
    (h : ∀ j, j < 64 * ys.length → tb ys j = (tb xs j || (decide (V ≤ j) && decide (j < V + m) && decide (t = 1)))) : ys = pack (bitsTo xs V ++ List.replicate m t) := by
  refine eq_pack (fun x hxm => ?_) (by simp [hl, bitsTo_len]) hy fun i hi => ?_
  · rcases List.mem_append.1 hxm with h | h
    · exact bitsTo_le xs V x h
    · have := List.eq_of_mem_replicate h; omega
  · rw [h i hi]
    by_cases h1 : i < V
    · have e : (bitsTo xs V ++ List.replicate m t).getD i 0 = (tb xs i).toNat := by
        simp only [List.getD]
        rw [List.getElem?_append_left (by rw [bitsTo_len]; exact h1)]
        simp [bitsTo, h1]
      rw [e]
      simp [show ¬ V ≤ i by omega]
    · rw [tb_out hok i (by omega)]
      by_cases h2 : i < V + m
      · have e : (bitsTo xs V ++ List.replicate m t).getD i 0 = t := by
          simp only [List.getD]
          rw [List.getElem?_append_right (by rw [bitsTo_len]; omega), bitsTo_len]
          simp [List.getElem?_replicate, show i - V < m by omega]
        rw [e]
        simp [h2, show V ≤ i by omega]
      · have e : (bitsTo xs V ++ List.replicate m t).getD i 0 = 0 := by
          simp only [List.getD]
          rw [List.getElem?_eq_none (by simp [bitsTo_len]; omega)]
          rfl
        rw [e]
        simp [h2]

set_option maxHeartbeats 2000000 in
set_option maxRecDepth 100000 in
theorem implWid_any (W : Int) (a : Option Addr) (c : Nat) (xs : List Nat) (n : Int) (sign : Bool) (w : World) (hr : Rd w a xs) :
    Calls Tryz.prog 91 #[.agg #[.int .i64 W, .slice a xs.length c], .int .i64 n, .bool sign] w (RetB w (wdnR W xs n sign)) := by
  have h2 : Below w.heap.size w ((w.alloc (Obj.cells #[Value.int IntKind.i64 W, Value.slice a xs.length c] 63)).alloc (Obj.cells #[Value.int IntKind.i64 0, Value.slice none 0 0] 63)) := ((Below.refl _ _).alloc (Nat.le_refl _) _).alloc (by simp) _
  have hr' := hr.later h2
  by_cases hc : rightB W xs = true ∧ 0 ≤ n ∧ n ≤ 4096 ∧ W + n ≤ 4096
  · rw [wdnR, if_pos hc]
    generalize hR : (W + n, pack (bitsTo xs W.toNat ++ List.replicate n.toNat (topOf W.toNat xs sign)), true) = R
    have HR : Hid ((W + n, pack (bitsTo xs W.toNat ++ List.replicate n.toNat (topOf W.toNat xs sign)), true) = R) := hR
    clear hR
    obtain ⟨hok, hn1, hn2, hWn⟩ := hc
    obtain ⟨hW1, hW2, hWl⟩ := right_W hok
    obtain ⟨V, rfl⟩ := Int.eq_ofNat_of_zero_le (show 0 ≤ W by omega)
    obtain ⟨m, rfl⟩ := Int.eq_ofNat_of_zero_le hn1
    have hxx := hr.2.1
    have hab := hr.lt (by omega)
    have hVl : V ≤ 64 * xs.length := by omega
    have hl64 : xs.length ≤ 64 := by omega
    have bA0 := (Blk.new w (Value.int IntKind.i64 V) (Value.slice a xs.length c) 63).alloc (Obj.cells #[Value.int IntKind.i64 0, Value.slice none 0 0] 63)
    have bR0 := Blk.new1 w (Obj.cells #[Value.int IntKind.i64 V, Value.slice a xs.length c] 63) (Value.int IntKind.i64 0) (Value.slice none 0 0) 63
    have HWl : Hid ((xs.length : Int) = ((V : Int) + 63) / 64) := hWl
    clear hWl
    go_enter Tryz.func91, Tryz.ntmps91
    go_wp2_with fail
    refine (implOk_any _ _ _ _ _ hr').mono ?_
    rintro e w1 ⟨rfl, hb1⟩
    have B1 := h2.trans (hb1.mono (by simp; omega))
    have bA1 := bA0.next hb1
    have bR1 := bR0.next hb1
    obtain ⟨c0, c1⟩ := bA1.cells
    clear hb1 bA0 bR0 hr' h2
    go_wp2_with fail
    rw [← Int.natCast_add]
    generalize hq : V + m = q at *
    refine (zeroBits_any q _ (by omega) (by omega)).mono ?_
    rintro e w2 ⟨g, rfl, hg, hown, hb2⟩
    generalize hN : (q + 63) / 64 = N at *
    have B2 := chain B1 hb2
    have bA2 := bA1.next hb2
    have bR2 := bR1.next hb2
    have HN : Hid ((q + 63) / 64 = N) := hN
    have Hq : Hid (V + m = q) := hq
    have hN64 : N ≤ 64 := by omega
    have hgr := bR1.lt
    have hgl := hown.lt
    clear hN hq hb2 B1 bA1 bR1 c0 c1
    obtain ⟨c0, c1⟩ := bA2.cells
    have hlA := bA2.lt
    go_wp2_with fail
    have hfit : V ≤ 64 * N := by have := HN.out; have := Hq.out; omega
    have hput := putBits_any (q : Int) (V : Int) g N c 0 a (List.replicate N 0) xs _ (hown.alloc (Obj.cells #[Value.int IntKind.i64 q, Value.slice (some ⟨g, 0, none⟩) N N] 63)) (hr.later (Ba B2 _)) (fun x hx => by have := List.eq_of_mem_replicate hx; omega) (by omega) (by simp; omega) hl64 (by rw [List.length_replicate]; exact put_fit hok hxx 0 N (by omega)) (fun x hx => by have := hab x hx; omega)
    rw [List.length_replicate] at hput
    refine hput.mono ?_
    rintro e w4 ⟨rfl, hown4, hgr4⟩
    have bO3 := Blk.new w2 (Value.int IntKind.i64 q) (Value.slice (some ⟨g, 0, none⟩) N N) 63
    have bA3 := bA2.alloc (Obj.cells #[Value.int IntKind.i64 q, Value.slice (some ⟨g, 0, none⟩) N N] 63)
    have bR3 := bR2.alloc (Obj.cells #[Value.int IntKind.i64 q, Value.slice (some ⟨g, 0, none⟩) N N] 63)
    have B3 := Ba B2 (Obj.cells #[Value.int IntKind.i64 q, Value.slice (some ⟨g, 0, none⟩) N N] 63)
    have ho3 := hown.alloc (Obj.cells #[Value.int IntKind.i64 q, Value.slice (some ⟨g, 0, none⟩) N N] 63)
    have f3 := ho3.fr (Nat.le_refl g)
    have m4 : Marked _ w4 (some ⟨g, 0, none⟩) := hgr4
    have bO4 := bO3.mark f3 m4 (by decide)
    have bA4 := bA3.mark f3 m4 (by decide)
    have bR4 := bR3.mark f3 m4 (by decide)
    have B4 := m4.below f3 B3 (by omega)
    have s4 := m4.size
    rw [World.size_alloc] at s4
    have hlen4 : (putTo (List.replicate N 0) xs (0 / 64) (0 % 64) xs.length).length = N := by rw [putTo_len, List.length_replicate]
    have hlt4 := putTo_lt (List.replicate N 0) xs (0 / 64) (0 % 64) xs.length (fun x hx => by have := List.eq_of_mem_replicate hx; omega) hxx
    have htb4 : ∀ j, tb (putTo (List.replicate N 0) xs (0 / 64) (0 % 64) xs.length) j = tb xs j := fun j => by
      rw [tb_put_right hok hxx _ 0 (by simp; omega), tb_zero]; simp
    generalize putTo (List.replicate N 0) xs (0 / 64) (0 % 64) xs.length = y4 at *
    clear hput bO3 bA3 bR3 B3 ho3 f3 m4 hgr4 B2 bA2 bR2 hown c0 c1
    obtain ⟨c0, c1⟩ := bA4.cells
    obtain ⟨d0, d1⟩ := bO4.cells
    have htop : ∀ u : World, Rd u a xs → Calls Tryz.prog 106 #[.agg #[.int .i64 V, .slice a xs.length c]] u fun e w' => e = .returned (.int .u64 (((tb xs (V - 1)).toNat : Nat) : Int)) ∧ Below u.heap.size u w' := fun u hu => by
      have := topBit_any (V - 1) a c xs u hu (by omega)
      rwa [show V - 1 + 1 = V by omega] at this
    have HTOP : Hid _ := htop
    have r4 := hr.later B4
    clear htop
    by_cases hone : sign = true ∧ 0 < m ∧ tb xs (V - 1) = true
    · obtain ⟨rfl, hm0, ht1⟩ := hone
      have hm0i : (0 : Int) < (m : Int) := by omega
      go_wp2_with (go_at_call 106; refine (HTOP.out _ r4).mono ?_; rintro e w5 ⟨rfl, hb5⟩; have bA5 := bA4.next hb5; have bO5 := bO4.next hb5; obtain ⟨c0, c1⟩ := bA5.cells; obtain ⟨d0, d1⟩ := bO5.cells)
      have B5 := chain B4 hb5
      have bR5 := bR4.next hb5
      have hown5 := hown4.later hb5 hown4.lt
      have s5 := hb5.size
      have hfit2 : V + m ≤ 64 * N := by have := HN.out; have := Hq.out; omega
      have hputO : ∀ (u : World) (go : Nat), Own u g y4 → Own u go (onesRow m) → go ≠ g → Calls Tryz.prog 88 #[.agg #[.int .i64 q, .slice (some ⟨g, 0, none⟩) N N], .agg #[.int .i64 m, .slice (some ⟨go, 0, none⟩) ((m + 63) / 64) ((m + 63) / 64)], .int .i64 V] u fun e w' => e = .returned (.tuple #[]) ∧ Own w' g (putTo y4 (onesRow m) (V / 64) (V % 64) ((m + 63) / 64)) ∧ u.grownBy w' (some g) := fun u go k1 k2 k3 => by
        have := putBits_any (q : Int) (m : Int) g N ((m + 63) / 64) V (some ⟨go, 0, none⟩) y4 (onesRow m) u k1 (k2.rd (by rw [onesRow_len]; omega) (onesRow_lt m)) hlt4 (by omega) (by rw [hlen4]; exact hN64) (by rw [onesRow_len]; omega) (by rw [hlen4]; exact put_fit (onesRow_right m hm0 (by omega)) (onesRow_lt m) V N hfit2) (fun x hx => by simp at hx; subst hx; exact k3)
        rw [hlen4, onesRow_len] at this
        exact this
      have HPO : Hid _ := hputO
      clear hputO
      go_region_held3 (fun u => u.cell? ⟨w.heap.size, 0, none⟩ = some (Value.int IntKind.i64 V) ∧ u.cell? ⟨w2.heap.size, 0, none⟩ = some (Value.int IntKind.i64 q) ∧ u.cell? ⟨w2.heap.size, 1, none⟩ = some (Value.slice (some ⟨g, 0, none⟩) N N)) (simp [*])
        (first | (go_at_call 107; refine (onesOf_any m _ (by omega) (by omega)).mono ?_; rintro e w6 ⟨go, rfl, hgo, hoo, hb6⟩; replace hb6 := undrew hb6; have bA6 := Blk.next (w := w5) bA5 hb6; have bO6 := Blk.next (w := w5) bO5 hb6; have hown6 := Own.later (w := w5) hown5 hb6 hown5.lt; obtain ⟨k0, k1⟩ := bA6.cells; obtain ⟨m0, m1⟩ := bO6.cells) | (go_at_call 88; refine (HPO.out w6 go hown6 hoo (by have h9 : w5.heap.size ≤ go := hgo; have := hown5.lt; omega)).mono ?_; rintro e w7 ⟨rfl, hown7, hgr7⟩; have f6 := hown6.fr (Nat.le_refl g); have m7 : Marked w6 w7 (some ⟨g, 0, none⟩) := hgr7; have bA7 := bA6.mark f6 m7 (by decide); have bO7 := bO6.mark f6 m7 (by decide); obtain ⟨k0, k1⟩ := bA7.cells; obtain ⟨m0, m1⟩ := bO7.cells))
      have bR7 := (bR5.next hb6).mark f6 m7 (by decide)
      have B7 := m7.below f6 (chain B5 hb6) (by omega)
      have hlen7 : (putTo y4 (onesRow m) (V / 64) (V % 64) ((m + 63) / 64)).length = N := by rw [putTo_len, hlen4]
      have HQ : Hid (((q : Int), putTo y4 (onesRow m) (V / 64) (V % 64) ((m + 63) / 64), true) = R) := by
        show _ = _
        rw [← HR.out, Int.toNat_natCast, Int.toNat_natCast, ← Hq.out, Int.natCast_add]
        congr 2
        have htt : topOf V xs true = 1 := by unfold topOf; rw [ht1]; rfl
        rw [htt]
        refine wid_pack hok hxx m 1 (Nat.le_refl _) _ (by rw [hlen7, ← HN.out, Hq.out]) (putTo_lt _ _ _ _ _ hlt4 (onesRow_lt m)) fun j hj => ?_
        have hor := onesRow_right m hm0 (by omega)
        rw [← onesRow_len m, tb_put_right hor (onesRow_lt m) y4 V (by rw [hlen4]; exact hfit2), htb4 j]
        by_cases h5 : V ≤ j
        · by_cases h6 : j - V < m
          · rw [tb_ones m hm0 (j - V) (by omega)]
            simp [h5, h6, show j < V + m by omega]
          · rw [tb_out hor (j - V) (by omega)]
            simp [show ¬ j < V + m by omega]
        · simp [h5]
      generalize putTo y4 (onesRow m) (V / 64) (V % 64) ((m + 63) / 64) = y7 at *
      clear HTOP HPO HR hlt4 htb4 hlen4 bA5 bO5 bR5 bA6 bO6 f6 m7 hgr7 hown5 hown6 hoo c0 c1 d0 d1
      obtain ⟨r0, r1⟩ := bR7.cells
      have fr0 := bR7.free 0
      have fr1 := bR7.free 1
      clear bO7 bA7 bR7
      go_wp2
      have hm := RetB.made (w := w) (r := ((q : Int), y7, true)) (c := N) hown7 (by omega) (β := w.heap.size + 1) (by omega) (by omega) B7 HQ.out (Value.int IntKind.i64 q) (Value.slice (some ⟨g, 0, none⟩) N N)
      dsimp only at hm
      rw [hlen7] at hm
      exact bodyPost_ret (by simp [results, Tryz.results91, go_sem, r0, r1]) rfl hm
    · have HQ : Hid (((q : Int), y4, true) = R) := by
        show _ = _
        rw [← HR.out, Int.toNat_natCast, Int.toNat_natCast, ← Hq.out, Int.natCast_add]
        congr 2
        refine wid_pack hok hxx m _ (topOf_le V xs sign) y4 (by rw [hlen4, ← HN.out, Hq.out]) hlt4 fun j hj => ?_
        rw [htb4 j]
        have : (decide (V ≤ j) && decide (j < V + m) && decide (topOf V xs sign = 1)) = false := by
          by_cases h1 : V ≤ j ∧ j < V + m
          · have h3 : topOf V xs sign = 0 := by
              unfold topOf
              cases sign with
              | false => rfl
              | true =>
                cases ht : tb xs (V - 1) with
                | false => simp
                | true => exact absurd ⟨rfl, by omega, ht⟩ hone
            simp [h3]
          · simp; omega
        rw [this]; simp
      have hcase : sign = false ∨ (sign = true ∧ m = 0) ∨ (sign = true ∧ 0 < m ∧ tb xs (V - 1) = false) := by
        cases sign with
        | false => exact .inl rfl
        | true =>
          rcases Nat.eq_zero_or_pos m with h | h
          · exact .inr (.inl ⟨rfl, h⟩)
          · cases ht : tb xs (V - 1) with
            | false => exact .inr (.inr ⟨rfl, h, rfl⟩)
            | true => exact absurd ⟨rfl, h, ht⟩ hone
      clear hone HR hlt4 htb4
      rcases hcase with rfl | ⟨rfl, rfl⟩ | ⟨rfl, hm0, ht0⟩
      · clear HTOP
        obtain ⟨r0, r1⟩ := bR4.cells
        have fr0 := bR4.free 0
        have fr1 := bR4.free 1
        clear bO4 bA4 bR4
        go_wp2
        have hm := RetB.made (w := w) (r := ((q : Int), y4, true)) (c := N) hown4 (by omega) (β := w.heap.size + 1) (by omega) (by omega) B4 HQ.out (Value.int IntKind.i64 q) (Value.slice (some ⟨g, 0, none⟩) N N)
        dsimp only at hm
        rw [hlen4] at hm
        exact bodyPost_ret (by simp [results, Tryz.results91, go_sem, r0, r1]) rfl hm
      · clear HTOP
        obtain ⟨r0, r1⟩ := bR4.cells
        have fr0 := bR4.free 0
        have fr1 := bR4.free 1
        clear bO4 bA4 bR4
        go_wp2
        have hm := RetB.made (w := w) (r := ((q : Int), y4, true)) (c := N) hown4 (by omega) (β := w.heap.size + 1) (by omega) (by omega) B4 HQ.out (Value.int IntKind.i64 q) (Value.slice (some ⟨g, 0, none⟩) N N)
        dsimp only at hm
        rw [hlen4] at hm
        exact bodyPost_ret (by simp [results, Tryz.results91, go_sem, r0, r1]) rfl hm
      · have hm0i : (0 : Int) < (m : Int) := by omega
        go_wp2_with fail
        refine (HTOP.out _ r4).mono ?_
        rintro e w5 ⟨rfl, hb5⟩
        rw [ht0]
        have bA5 := bA4.next hb5
        have bO5 := bO4.next hb5
        have bR5 := bR4.next hb5
        have B5 := chain B4 hb5
        have hown5 := hown4.later hb5 hown4.lt
        clear c0 c1 d0 d1
        obtain ⟨c0, c1⟩ := bA5.cells
        obtain ⟨d0, d1⟩ := bO5.cells
        obtain ⟨r0, r1⟩ := bR5.cells
        have fr0 := bR5.free 0
        have fr1 := bR5.free 1
        clear bO5 bA5 bR5
        go_wp2
        have hm := RetB.made (w := w) (r := ((q : Int), y4, true)) (c := N) hown5 (by omega) (β := w.heap.size + 1) (by omega) (by omega) B5 HQ.out (Value.int IntKind.i64 q) (Value.slice (some ⟨g, 0, none⟩) N N)
        dsimp only at hm
        rw [hlen4] at hm
        exact bodyPost_ret (by simp [results, Tryz.results91, go_sem, r0, r1]) rfl hm
  · rw [wdnR, if_neg hc]
    have hcase : rightB W xs = false ∨ (rightB W xs = true ∧ n < 0) ∨ (rightB W xs = true ∧ 0 ≤ n ∧ 4096 < n) ∨ (rightB W xs = true ∧ 0 ≤ n ∧ n ≤ 4096 ∧ 4096 < W + n ∧ W ≤ 4096) := by
      cases hb : rightB W xs with
      | false => exact .inl rfl
      | true =>
        have hw4 := right_W hb
        simp [hb] at hc ⊢; omega
    clear hc
    rcases hcase with h | ⟨h, h1⟩ | ⟨h, h1, h3⟩ | ⟨h, h1, h3, h4, h5⟩
    all_goals
      go_enter Tryz.func91, Tryz.ntmps91
      go_wp2_with fail
      refine (implOk_any _ _ _ _ _ hr').mono ?_
      rintro e w1 ⟨rfl, hb1⟩
      obtain ⟨hcc, hff⟩ := bcell hb1
      have hz : w.heap.size + 1 < w1.heap.size := by have := hb1.size; simp at this; omega
      go_wp2
      exact bodyPost_ret (v := .tuple #[.agg #[.int .i64 0, .slice none 0 0], .bool false]) (by simp [results, Tryz.results91, go_sem, hcc]) rfl (RetB.no (((h2.trans (hb1.mono (by simp; omega))).setCell (by simp) _).setCell (by simp) _))

end Go.Proofs.YtbpodkdlhjgncaaGreatDoor

/- A row of bytes of one's own: written, read; small lemmas. -/
namespace Go.Proofs.YtbpodkdlhjgncaaGreatDoor
set_option linter.unusedVariables false
set_option linter.unusedSimpArgs false
open Go.RowKit

theorem OwB.put {w : World} {base g cap : Nat} {bs : List Nat} (h : OwB w base (.slice (some ⟨g, 0, none⟩) bs.length cap) bs) (j y : Nat) : OwB (w.setCell ⟨g, j, none⟩ (.int .u8 (y : Int))) base (.slice (some ⟨g, 0, none⟩) bs.length cap) (bs.set j y) := by
  have := (World.ownsRow.stored h j (.int .u8 (y : Int))).1
  unfold OwB
  rw [List.length_set]
  have e : (u8s bs).set j (.int .u8 (y : Int)) = u8s (bs.set j y) := by simp [u8s, List.map_set]
  rw [e] at this
  exact this

theorem OwB.block {w : World} {base : Nat} {v : Value} {bs : List Nat} (h : OwB w base v bs) (hp : 0 < bs.length) : ∃ g cap, v = .slice (some ⟨g, 0, none⟩) bs.length cap ∧ base ≤ g ∧ g < w.heap.size ∧ bs.length ≤ cap := by
  obtain ⟨h1, ⟨rfl, h2⟩ | ⟨g, cap, cur, rfl, hg, hh, hc1, hc2, hsz, hcur⟩⟩ := h
  · omega
  · exact ⟨g, cap, rfl, hg, lt_of_block hh, hc1⟩

theorem OwB.cellAt {w : World} {base g cap : Nat} {bs : List Nat} (h : OwB w base (.slice (some ⟨g, 0, none⟩) bs.length cap) bs) (j : Nat) (hj : j < bs.length) : w.cell? ⟨g, j, none⟩ = some (.int .u8 ((bs.getD j 0 : Nat) : Int)) := by
  rw [World.ownsRow.cellAt h j (by omega)]
  simp [u8s, List.getD, hj]
theorem OwB.freeAt {w : World} {base g cap : Nat} {bs : List Nat} (h : OwB w base (.slice (some ⟨g, 0, none⟩) bs.length cap) bs) (j : Nat) : w.frozen? ⟨g, j, none⟩ = false := World.ownsRow.frozenAt h j

end Go.Proofs.YtbpodkdlhjgncaaGreatDoor

/- What the given TurnBits answers. -/
namespace Go.Proofs.YtbpodkdlhjgncaaGreatDoor
set_option linter.unusedVariables false
set_option linter.unusedSimpArgs false
open Go.RowKit

theorem OwB.made (w : World) (base n : Nat) (h : base ≤ w.heap.size) (hn : n ≤ 4194304) : OwB (w.alloc (.cells (madeCells #[.int .u8 0] n) 5)) base (.slice (some ⟨w.heap.size, 0, none⟩) n n) (List.replicate n 0) := by
  refine ⟨by simp [u8s], .inr ⟨w.heap.size, n, madeCells #[.int .u8 0] n, by simp, h, heap_alloc_new _ _, by simp, by unfold maxLen; omega, ?_, ?_⟩⟩
  · rw [← Array.length_toList, toList_madeCells_one]; simp
  · rw [toList_madeCells_one]; simp [u8s]

def tuTo (L : List Nat) (m : Nat) : Nat → List Nat
  | 0 => List.replicate L.length 0
  | k + 1 => (tuTo L m k).set ((k + m) % L.length) (L.getD k 0)

theorem tuTo_len (L : List Nat) (m k : Nat) : (tuTo L m k).length = L.length := by
  induction k with
  | zero => simp [tuTo]
  | succ k ih => rw [tuTo, List.length_set, ih]

theorem getD_mem_le {L : List Nat} (h : ∀ x ∈ L, x ≤ 1) (i : Nat) : L.getD i 0 ≤ 1 := by
  by_cases hi : i < L.length
  · have : L.getD i 0 = L[i] := by simp [List.getD, hi]
    rw [this]; exact h _ (List.getElem_mem hi)
  · have : L.getD i 0 = 0 := by simp [List.getD, hi]
    omega

theorem tuTo_le (L : List Nat) (h : ∀ x ∈ L, x ≤ 1) (m k : Nat) : ∀ x ∈ tuTo L m k, x ≤ 1 := by
  induction k with
  | zero => intro x hx; have := List.eq_of_mem_replicate hx; omega
  | succ k ih =>
    intro x hx
    rcases List.mem_or_eq_of_mem_set hx with h' | h'
    · exact ih x h'
    · rw [h']; exact getD_mem_le h k

theorem add_mod_case (k m V : Nat) (hk : k < V) : (k + m) % V = if k + m % V < V then k + m % V else k + m % V - V := by
  have hr : m % V < V := Nat.mod_lt _ (by omega)
  rw [← Nat.add_mod_mod]
  split
  · exact Nat.mod_eq_of_lt (by assumption)
  · rw [Nat.mod_eq_sub_mod (by omega), Nat.mod_eq_of_lt (by omega)]

theorem tuTo_get (L : List Nat) (m k j : Nat) (hk : k ≤ L.length) (hj : j < L.length) :
    (tuTo L m k).getD j 0 = if (if j < m % L.length then j + L.length - m % L.length else j - m % L.length) < k then L.getD (if j < m % L.length then j + L.length - m % L.length else j - m % L.length) 0 else 0 := by
  have hr : m % L.length < L.length := Nat.mod_lt _ (by omega)
  induction k with
  | zero => simp [tuTo, List.getD, hj]
  | succ k ih =>
    have ih := ih (by omega)
    have hp := add_mod_case k m L.length (by omega)
    have hlen := tuTo_len L m k
    rw [tuTo, hp]
    generalize m % L.length = r at *
    generalize hq : (if k + r < L.length then k + r else k + r - L.length) = q
    generalize hs : (if j < r then j + L.length - r else j - r) = s at *
    have hqs : q = j ↔ s = k := by
      rw [← hq, ← hs]
      split <;> split <;> omega
    by_cases e : s = k
    · have e2 := hqs.2 e
      subst e2
      rw [if_pos (by omega), e]
      simp [List.getD, hlen, hj]
    · have e2 : q ≠ j := fun h => e (hqs.1 h)
      have e3 : ((tuTo L m k).set q (L.getD k 0)).getD j 0 = (tuTo L m k).getD j 0 := by
        simp only [List.getD]
        rw [List.getElem?_set_ne e2]
      rw [e3, ih]
      by_cases h5 : s < k
      · rw [if_pos h5, if_pos (by omega)]
      · rw [if_neg h5, if_neg (by omega)]

theorem tuTo_all (L : List Nat) (m : Nat) (hp : 0 < L.length) : tuTo L m L.length = turnL L (m % L.length) := by
  have hr : m % L.length < L.length := Nat.mod_lt _ hp
  refine List.ext_getElem? fun j => ?_
  by_cases hj : j < L.length
  · have h := tuTo_get L m L.length j (Nat.le_refl _) hj
    have h1 : (tuTo L m L.length)[j]? = some ((tuTo L m L.length).getD j 0) := by
      simp [List.getD, tuTo_len, hj]
    have h2 : (turnL L (m % L.length))[j]? = some ((turnL L (m % L.length)).getD j 0) := by
      simp [List.getD, turnL_len, hj]
    rw [h1, h2, h]
    congr 1
    generalize m % L.length = r at *
    unfold turnL
    by_cases c : j < r
    · rw [if_pos c, if_pos (by omega)]
      simp only [List.getD]
      rw [List.getElem?_append_left (by simp; omega), List.getElem?_drop]
      congr 2
      omega
    · rw [if_neg c, if_pos (by omega)]
      simp only [List.getD]
      rw [List.getElem?_append_right (by simp; omega), List.length_drop, List.getElem?_take_of_lt (by omega)]
      congr 2
      omega
  · rw [List.getElem?_eq_none (by rw [tuTo_len]; omega), List.getElem?_eq_none (by rw [turnL_len]; omega)]

end Go.Proofs.YtbpodkdlhjgncaaGreatDoor

/- What the given TurnBits answers. -/
namespace Go.Proofs.YtbpodkdlhjgncaaGreatDoor
set_option linter.unusedVariables false
set_option linter.unusedSimpArgs false
open Go.RowKit

set_option maxHeartbeats 2000000 in
set_option maxRecDepth 100000 in
theorem specTurn_any (W : Int) (a : Option Addr) (c : Nat) (xs : List Nat) (n : Int) (w : World) (hr : Rd w a xs) :
    Calls Tryz.prog 77 #[.agg #[.int .i64 W, .slice a xs.length c], .int .i64 n] w (RetB w (turnR W xs n)) := by
  have h2 : Below w.heap.size w ((w.alloc (Obj.cells #[Value.int IntKind.i64 W, Value.slice a xs.length c] 63)).alloc (Obj.cells #[Value.int IntKind.i64 0, Value.slice none 0 0] 63)) := Ba (Ba (Below.refl _ _) _) _
  have hr' := hr.later h2
  have bR0 := Blk.new1 w (Obj.cells #[Value.int IntKind.i64 W, Value.slice a xs.length c] 63) (Value.int IntKind.i64 0) (Value.slice none 0 0) 63
  have bA0 := (Blk.new w (Value.int IntKind.i64 W) (Value.slice a xs.length c) 63).alloc (Obj.cells #[Value.int IntKind.i64 0, Value.slice none 0 0] 63)
  by_cases hc : rightB W xs = true ∧ 0 ≤ n ∧ n ≤ 4096
  · rw [turnR, if_pos hc]
    generalize hR : (W, pack (turnL (bitsTo xs W.toNat) (n.toNat % W.toNat)), true) = R
    have HR : Hid ((W, pack (turnL (bitsTo xs W.toNat) (n.toNat % W.toNat)), true) = R) := hR
    clear hR
    obtain ⟨hok, hn1, hn2⟩ := hc
    obtain ⟨hW1, hW2, hWl⟩ := right_W hok
    obtain ⟨V, rfl⟩ := Int.eq_ofNat_of_zero_le (show 0 ≤ W by omega)
    obtain ⟨m, rfl⟩ := Int.eq_ofNat_of_zero_le hn1
    have hVl : V ≤ 64 * xs.length := by omega
    have hd : decide (0 ≤ (m : Int) ∧ (m : Int) ≤ 4096) = true := by simp; omega
    have hV0 : ¬ (V : Int) = 0 := by omega
    have hVp : 0 < V := by omega
    have hmk := fun kl kc w => run_make_row' (P := Tryz.prog) 101 5 (.int .u8 0) 1 Tryz.underlying101 Tryz.infoU8 rfl kl kc V (by omega) (by omega) w
    clear hWl
    go_enter Tryz.func77, Tryz.ntmps77
    go_wp2_with fail
    refine (specOk_any _ _ _ _ _ hr').mono ?_
    rintro e w1 ⟨rfl, hb1⟩
    have hr1 := hr'.later hb1
    have B1 := chain h2 hb1
    have bR1 := bR0.next hb1
    have bA1 := bA0.next hb1
    obtain ⟨c0, c1⟩ := bA1.cells
    clear hb1 bR0 bA0
    go_wp2_with (go_at_call 47; refine (l1In_any _ _ _ _).mono ?_; rintro e w' ⟨rfl, rfl⟩)
    refine (l1List_any _ _ _ _ _ hr1 hVl (by omega)).mono ?_
    rintro e w2 ⟨v, rfl, how, hb2⟩
    have hlen := bitsTo_len xs V
    have hle := bitsTo_le xs V
    obtain ⟨a2, c2, rfl, hrb, -, -⟩ := how.shape (by rw [hlen]; omega) (fun x hx => by have := hle x hx; omega)
    obtain ⟨bb, oo, rfl, hcell⟩ := hrb.2.2.resolve_left (fun h => by rw [h] at hlen; simp at hlen; omega)
    have B2 := chain B1 hb2
    have bR2 := bR1.next hb2
    have hbb : bb < w2.heap.size := block_lt_of_cell (hcell 0 (by omega))
    have hR2 := bR2.lt
    generalize hbs : bitsTo xs V = bs at *
    have HBS : Hid (bitsTo xs V = bs) := hbs
    have HLN : Hid (bs.length = V) := hlen
    rw [hlen]
    clear hbs hb2 hr hr' hr1 B1 bR1 bA1 c0 c1 h2 how hrb
    go_wp2_with fail
    have ho3 := OwB.made w2 w2.heap.size V (Nat.le_refl _) (by omega)
    have b3 : Below w2.heap.size w2 (w2.alloc (.cells (madeCells #[.int .u8 0] V) 5)) := Ba (Below.refl _ _) _
    have HO : Hid (tuTo bs m 0 = List.replicate V 0) := by show _ = _; rw [tuTo, hlen]
    clear hlen hmk
    generalize w2.alloc (.cells (madeCells #[.int .u8 0] V) 5) = w3 at *
    go_loopw [8] (fun i wr => ∃ k : Nat, k ≤ V ∧ i = .int .i64 k ∧ OwB wr w2.heap.size (.slice (some ⟨w2.heap.size, 0, none⟩) V V) (tuTo bs m k) ∧ Below w2.heap.size w2 wr) (fun i _ => V - (intOf i).toNat)
    case atStart => exact ⟨0, Nat.zero_le _, rfl, by rw [HO.out]; exact ho3, b3⟩
    case round =>
      obtain ⟨k, hk, rfl, hown, hbel⟩ := hrel
      have hlk : (tuTo bs m k).length = V := by rw [tuTo_len, HLN.out]
      have hown' : OwB wr w2.heap.size (.slice (some ⟨w2.heap.size, 0, none⟩) (tuTo bs m k).length V) (tuTo bs m k) := by rw [hlk]; exact hown
      clear HO ho3 b3 hown
      by_cases hlt : k < V
      · have hp : (k + m) % V < V := Nat.mod_lt _ hVp
        have hmod : ((k : Int) + (m : Int)) % (V : Int) = (((k + m) % V : Nat) : Int) := rfl
        have hck : wr.cell? ⟨bb, oo + k, none⟩ = some (.int .u8 ((bs.getD k 0 : Nat) : Int)) := by
          rw [hbel.cell (p := ⟨bb, oo + k, none⟩) (by exact hbb)]; exact hcell k (by rw [HLN.out]; exact hlt)
        have hg := hown'.cellAt ((k + m) % V) (by omega)
        have hf := hown'.freeAt ((k + m) % V)
        have hput := OwB.put hown' ((k + m) % V) (bs.getD k 0)
        have HT : Hid (tuTo bs m (k + 1) = (tuTo bs m k).set ((k + m) % V) (bs.getD k 0)) := by show _ = _; rw [tuTo, HLN.out]
        rw [hlk, ← HT.out] at hput
        have HPUT : Hid _ := hput
        have hy1 : bs.getD k 0 ≤ 1 := getD_mem_le hle k
        have hki : (k : Int) < (V : Int) := by omega
        clear hput hown' hlk hcell HT
        generalize (tuTo bs m k).getD ((k + m) % V) 0 = z at *
        generalize (k + m) % V = p at *
        generalize bs.getD k 0 = y at *
        have hpi : (p : Int) < (V : Int) := by omega
        go_wp2
        go_region
        go_wp2
        exact ⟨⟨k + 1, by omega, by go_num, HPUT.out, (hbel.setCell (Nat.le_refl _) _).drew⟩, by simp [intOf]; omega⟩
      · have e : k = V := by omega
        subst e
        have HQ : Hid ((((tuTo bs m k).length : Int), pack (tuTo bs m k), true) = R) := by
          show _ = _
          have ht := tuTo_all bs m (by rw [HLN.out]; exact hVp)
          rw [HLN.out] at ht
          rw [← HR.out, Int.toNat_natCast, Int.toNat_natCast, HBS.out, ht, turnL_len, HLN.out]
        obtain ⟨a5, c5, hv5, hrb5, -, -⟩ := hown'.shape (by omega) (fun x hx => by have := tuTo_le bs hle m k x hx; omega)
        have hfrom := l1From_yes a5 c5 _ _ hrb5 (by omega) (by omega)
        rw [← hv5, hlk] at hfrom
        rw [hlk] at HQ
        have bR3 := bR2.next hbel
        have B3 := chain B2 hbel
        have hzr := bR3.lt
        clear hown' hrb5 hv5 HR HBS bR2 B2 hbel hcell hlk
        generalize tuTo bs m k = T at *
        go_wp2_with fail
        refine hfrom.mono ?_
        rintro e w5 ⟨a6, c6, rfl, hfr, hb5⟩
        have bR5 := bR3.next hb5
        have B5 := chain B3 hb5
        obtain ⟨r0, r1⟩ := bR5.cells
        have f0 := bR5.free 0
        have f1 := bR5.free 1
        dsimp only at hfr ⊢
        clear hfrom
        go_wp2
        exact bodyPost_ret (by simp [results, Tryz.results77, go_sem, r0, r1]; rfl) rfl (RetB.close (r := ((k : Int), pack T, true)) hfr (by omega) hzr B5 HQ.out _ _)
  · rw [turnR, if_neg hc]
    have hcase : rightB W xs = false ∨ (rightB W xs = true ∧ decide (0 ≤ n ∧ n ≤ 4096) = false) := by
      cases hb : rightB W xs with
      | false => exact .inl rfl
      | true =>
        right
        refine ⟨rfl, ?_⟩
        simp only [hb, true_and] at hc
        simp [hc]
    clear hc
    rcases hcase with h | ⟨h, h1⟩
    · go_enter Tryz.func77, Tryz.ntmps77
      go_wp2_with fail
      refine (specOk_any _ _ _ _ _ hr').mono ?_
      rintro e w1 ⟨rfl, hb1⟩
      have B1 := chain h2 hb1
      have bR1 := bR0.next hb1
      obtain ⟨r0, r1⟩ := bR1.cells
      have f0 := bR1.free 0
      have f1 := bR1.free 1
      go_wp2_with (go_at_call 47; refine (l1In_any _ _ _ _).mono ?_; rintro e w' ⟨rfl, rfl⟩)
      exact bodyPost_ret (v := .tuple #[.agg #[.int .i64 0, .slice none 0 0], .bool false]) (by simp [results, Tryz.results77, go_sem, r0, r1]) rfl (RetB.no ((B1.setCell (by simp) _).setCell (by simp) _))
    · go_enter Tryz.func77, Tryz.ntmps77
      go_wp2_with fail
      refine (specOk_any _ _ _ _ _ hr').mono ?_
      rintro e w1 ⟨rfl, hb1⟩
      have B1 := chain h2 hb1
      have bR1 := bR0.next hb1
      obtain ⟨r0, r1⟩ := bR1.cells
      have f0 := bR1.free 0
      have f1 := bR1.free 1
      go_wp2_with (go_at_call 47; refine (l1In_any _ _ _ _).mono ?_; rintro e w' ⟨rfl, rfl⟩)
      exact bodyPost_ret (v := .tuple #[.agg #[.int .i64 0, .slice none 0 0], .bool false]) (by simp [results, Tryz.results77, go_sem, r0, r1]) rfl (RetB.no ((B1.setCell (by simp) _).setCell (by simp) _))

end Go.Proofs.YtbpodkdlhjgncaaGreatDoor

/- The methods by which the program's evaluator goes through a term. -/
namespace Go.Proofs.YtbpodkdlhjgncaaGreatDoor
set_option linter.unusedVariables false
set_option linter.unusedSimpArgs false
open Go.RowKit

/-- A node as it is handed over. -/
abbrev nodA (n : Tc) (wa ka : Option Addr) (wc kc : Nat) : Value := .agg #[.int .i64 n.op, .int .i64 n.vr, .int .i64 n.a, .int .i64 n.b, .int .i64 n.bw, .slice wa n.ws.length wc, .slice ka n.ks.length kc]

/-- The evaluator: the values, and what the nodes ahead are. -/
structure Evl (u : World) (eb : Nat) (vs l : List Bw) : Prop where
  vals : ∃ va vc, u.cell? ⟨eb, 0, none⟩ = some (.slice va vs.length vc) ∧ RdW u va vs
  ahd : ∃ aa ac, u.cell? ⟨eb, 1, none⟩ = some (.slice aa l.length ac) ∧ RdW u aa l

theorem Evl.later {u u' : World} {eb : Nat} {vs l : List Bw} (h : Evl u eb vs l) (hb : Below u.heap.size u u') : Evl u' eb vs l := by
  obtain ⟨⟨va, vc, h1, h2⟩, ⟨aa, ac, h3, h4⟩⟩ := h
  exact ⟨⟨va, vc, by rw [kcell hb _ _ (block_lt_of_cell h1)]; exact h1, h2.later hb⟩, ⟨aa, ac, by rw [kcell hb _ _ (block_lt_of_cell h3)]; exact h3, h4.later hb⟩⟩

set_option maxHeartbeats 1000000 in
theorem kid_any (eb : Nat) (vs l : List Bw) (n : Tc) (wa ka : Option Addr) (wc kc : Nat) (u : World) (hE : Evl u eb vs l) (hk : RdI u ka n.ks) (h1 : n.ks.length = 1) (j : Nat) (x : Bw) (hj : n.ks.getD 0 0 = (j : Int)) (hx : l[j]? = some x) :
    Calls Tryz.prog 90 #[.pointer (some ⟨eb, 0, none⟩), nodA n wa ka wc kc] u fun e w' => e = .returned (.agg #[.int .i64 x.wd, .slice x.a x.ws.length x.c]) ∧ Below u.heap.size u w' := by
  obtain ⟨-, ⟨aa, ac, c1, ha⟩⟩ := hE
  have hjl := (List.getElem?_eq_some_iff.1 hx).1
  have hla := ha.1
  obtain ⟨-, -, h | ⟨kb, ko, rfl, hkc⟩⟩ := hk
  · rw [h] at h1; simp at h1
  have q0 := hkc 0 (by omega)
  rw [hj, Nat.add_zero] at q0
  obtain ⟨-, h | ⟨ab, ao, rfl, hac⟩⟩ := ha
  · rw [h] at hjl; simp at hjl
  obtain ⟨p0, p1, -, -⟩ := hac j x hx
  have l0 := block_lt_of_cell c1
  have l1 := block_lt_of_cell q0
  have l2 := block_lt_of_cell p0
  have l3 := block_lt_of_cell p1
  obtain ⟨op, vr, A, B, bw, ws, ks⟩ := n
  obtain ⟨wd, xa, xc, xs⟩ := x
  simp only [nodA] at *
  rw [h1]
  have hb1 : Below u.heap.size u ((u.alloc (Obj.cells #[Value.int .i64 op, Value.int .i64 vr, Value.int .i64 A, Value.int .i64 B, Value.int .i64 bw, Value.slice wa ws.length wc, Value.slice (some ⟨kb, ko, none⟩) 1 kc] 89)).alloc (Obj.cells #[Value.int .i64 0, Value.slice none 0 0] 63)) := Ba (Ba (Below.refl _ _) _) _
  have hR := Blk.new1 u (Obj.cells #[Value.int .i64 op, Value.int .i64 vr, Value.int .i64 A, Value.int .i64 B, Value.int .i64 bw, Value.slice wa ws.length wc, Value.slice (some ⟨kb, ko, none⟩) 1 kc] 89) (.int .i64 0) (.slice none 0 0) 63
  have t6 : ((u.alloc (Obj.cells #[Value.int .i64 op, Value.int .i64 vr, Value.int .i64 A, Value.int .i64 B, Value.int .i64 bw, Value.slice wa ws.length wc, Value.slice (some ⟨kb, ko, none⟩) 1 kc] 89)).alloc (Obj.cells #[Value.int .i64 0, Value.slice none 0 0] 63)).cell? ⟨u.heap.size, 6, none⟩ = some (.slice (some ⟨kb, ko, none⟩) 1 kc) := by
    rw [acell _ _ _ (by simp)]; simp
  have d1 := (kcell hb1 _ _ l0).trans c1
  have d2 := (kcell hb1 _ _ l1).trans q0
  have d3 := (kcell hb1 _ _ l2).trans p0
  have d4 := (kcell hb1 _ _ l3).trans p1
  have f50 := frozen_of_row _ _ 0 _ _ hR
  have f51 := frozen_of_row _ _ 1 _ _ hR
  obtain ⟨r0, r1⟩ := hR.cells
  have hjl' : (j : Int) < (l.length : Int) := by omega
  try simp only [] at l0 l1 l2 l3
  clear c1 q0 p0 p1 hkc hac hx hj
  go_enter Tryz.func90, Tryz.ntmps90
  go_wp2_with fail
  generalize ((u.alloc (Obj.cells #[Value.int .i64 op, Value.int .i64 vr, Value.int .i64 A, Value.int .i64 B, Value.int .i64 bw, Value.slice wa ws.length wc, Value.slice (some ⟨kb, ko, none⟩) 1 kc] 89)).alloc (Obj.cells #[Value.int .i64 0, Value.slice none 0 0] 63)) = w1 at *
  go_region_held_law (fun v => v.cell? ⟨eb, 1, none⟩ = some (.slice (some ⟨ab, ao, none⟩) l.length ac) ∧ v.cell? ⟨u.heap.size, 6, none⟩ = some (.slice (some ⟨kb, ko, none⟩) 1 kc) ∧ v.cell? ⟨kb, ko, none⟩ = some (.int .i64 (j : Int)) ∧ v.cell? ⟨ab, ao + j * 2, none⟩ = some (.int .i64 wd) ∧ v.cell? ⟨ab, ao + j * 2 + 1, none⟩ = some (.slice xa xs.length xc))
    (first | (refine ⟨?_, ?_, ?_, ?_, ?_⟩ <;> assumption) | (refine ⟨?_, ?_, ?_, ?_, ?_⟩ <;> ((first | rw [set2_far _ _ _ _ _ (by simp only []; omega)] | rw [drew2_far _ _ _ _ _ (by simp only []; omega)]); assumption)))
    (fail)
  go_wp2
  obtain ⟨q0, q1⟩ := ((hR.put0' (.int .i64 wd)).put1' (.slice xa xs.length xc)).cells
  exact bodyPost_ret (v := .agg #[.int .i64 wd, .slice xa xs.length xc]) (by simp [results, Tryz.results90, go_sem, q0, q1]) rfl ⟨rfl, ((hb1.setCell (Nat.le_succ _) _).setCell (Nat.le_succ _) _).drew⟩

end Go.Proofs.YtbpodkdlhjgncaaGreatDoor
