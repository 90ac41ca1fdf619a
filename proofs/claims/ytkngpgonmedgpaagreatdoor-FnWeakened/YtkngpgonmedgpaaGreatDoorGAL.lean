/- Several texts in one. -/
import Derived.Test.YtkngpgonmedgpaaGreatDoorGAK
namespace Go.Proofs.YtkngpgonmedgpaaGreatDoor
open Go.RowKit
set_option linter.unusedVariables false
set_option linter.unusedSimpArgs false
def Got (w : World) (lo : Nat) (a : Option Addr) (xs : List Nat) : Prop := Rd w a xs ∧ ∀ x, a = some x → lo ≤ x.block
theorem Got.far {w w' : World} {lo : Nat} {a : Option Addr} {xs : List Nat} {β : Nat} (h : Got w lo a xs) (hd : Dw β w w') (hβ : β < lo) : Got w' lo a xs := by
 obtain ⟨⟨h1, h2, h3⟩, h4⟩ := h
 refine ⟨⟨h1, h2, ?_⟩, h4⟩
 rcases h3 with h3 | ⟨b, o, rfl, hc⟩
 ·exact .inl h3
 ·refine .inr ⟨b, o, rfl, fun i hi => ?_⟩
  have h5 := hc i hi
  have := h4 _ rfl
  simp only at this
  rw [World.cell?_of_block (World.grownBy.block hd b (block_lt_of_cell h5) (by simp; omega))]
  exact h5
theorem Got.farNe {w w' : World} {lo : Nat} {a : Option Addr} {xs : List Nat} {β : Nat} (h : Got w lo a xs) (hd : Dw β w w') (hn : ∀ x, a = some x → x.block ≠ β) : Got w' lo a xs := by
 obtain ⟨⟨h1, h2, h3⟩, h4⟩ := h
 refine ⟨⟨h1, h2, ?_⟩, h4⟩
 rcases h3 with h3 | ⟨b, o, rfl, hc⟩
 ·exact .inl h3
 ·refine .inr ⟨b, o, rfl, fun i hi => ?_⟩
  have h5 := hc i hi
  have := hn _ rfl
  simp only at this
  rw [World.cell?_of_block (World.grownBy.block hd b (block_lt_of_cell h5) (by simpa using this))]
  exact h5
theorem Dw.undrew {β : Nat} {w w' : World} (h : Dw β w.drew w') : Dw β w w' := ⟨h.os, h.tape, h.output, h.size, h.block⟩
theorem Got.mono {w : World} {lo lo' : Nat} {a : Option Addr} {xs : List Nat} (h : Got w lo a xs) (hl : lo' ≤ lo) : Got w lo' a xs := ⟨h.1, fun x e => Nat.le_trans hl (h.2 x e)⟩
theorem Blk.far {w w' : World} {γ β : Nat} {x y : Value} {t : TypeId} (h : Blk w γ x y t) (hd : Dw β w w') (hn : γ ≠ β) : Blk w' γ x y t := by
 unfold Blk
 rw [World.grownBy.block hd γ h.lt (by simpa using hn)]; exact h
theorem Own.far {w w' : World} {g β : Nat} {xs : List Nat} (h : Own w g xs) (hd : Dw β w w') (hn : g ≠ β) : Own w' g xs := by
 unfold Own
 rw [World.grownBy.block hd g h.lt (by simpa using hn)]; exact h
def OwU (w : World) (base : Nat) (v : Value) (xs : List Nat) : Prop := w.ownsRow base 109 1 v xs.length (u64s xs).toList
theorem Own.owU {w : World} {g base : Nat} {xs : List Nat} (h : Own w g xs) (hb : base ≤ g) (hl : xs.length ≤ 1048576) : OwU w base (.slice (some ⟨g, 0, none⟩) xs.length xs.length) xs :=
 ⟨by simp [u64s], .inr ⟨g, xs.length, u64s xs, rfl, hb, h, Nat.le_refl _, by unfold maxLen; omega, by simp [u64s], by simp [u64s, List.take_of_length_le]⟩⟩
theorem OwU.shape {w : World} {base : Nat} {v : Value} {xs : List Nat} (h : OwU w base v xs) (hl : xs.length ≤ 1048576) (hx : ∀ x ∈ xs, x < 18446744073709551616) :
  ∃ a c, v = .slice a xs.length c ∧ Got w base a xs ∧ ∀ x, a = some x → ∃ cur, w.heap[x.block]? = some (.cells cur 109 (0, 0)) := by
 obtain ⟨h1, ⟨rfl, h2⟩ | ⟨g, cap, cur, rfl, hg, hh, hc1, hc2, hsz, hcur⟩⟩ := h
 ·have e := List.eq_nil_of_length_eq_zero h2
  subst e
  exact ⟨none, 0, rfl, ⟨⟨hl, hx, .inl rfl⟩, fun x e => by cases e⟩, fun x e => by cases e⟩
 ·refine ⟨some ⟨g, 0, none⟩, cap, rfl, ⟨⟨hl, hx, .inr ⟨g, 0, rfl, fun i hi => ?_⟩⟩, fun x e => by cases e; exact hg⟩, fun x e => by cases e; exact ⟨cur, hh⟩⟩
  rw [Nat.zero_add, cell_of_row w g i cur _ _ hh]
  have h3 : (cur.toList.take (xs.length * 1))[i]? = (u64s xs).toList[i]? := by rw [hcur]
  rw [List.getElem?_take, if_pos (by omega)] at h3
  simp only [Array.getElem?_toList] at h3
  rw [h3, u64s_get _ _ hi]
theorem wpList_appU (w : World) {ops : Array Oper} {rest : List Oper} {o : Oper} {a : Act} {Q : Exit → Act → World → Prop} (hgd : o.guard = none) (s x : Operand)
  (ho : o.op = .call { callee := .builtin .append, args := #[s, x], argTypes := #[78, 78] })
  (base : Nat) (v : Value) (xs : List Nat) (y : Nat) (hs : a.eval s = v) (hown : OwU w base v xs) (g : Nat) (hx : a.eval x = .slice (some ⟨g, 0, none⟩) 1 1)
  (hnew : w.cell? ⟨g, 0, none⟩ = some (.int .u64 (y : Int))) (hl : xs.length ≤ 1048576) (hbase : base ≤ w.heap.size)
  (h : ∀ v' w', OwU w' base v' (xs ++ [y]) → w.grownBy w' v.ownBlock → wpList Tryz.prog ops Q rest (a.put o.dst v') w') : wpList Tryz.prog ops Q (o :: rest) a w := by
 obtain ⟨i0, hi, hz0, hz1, hz2⟩ := info_parts Tryz.infoU64
 refine wpList_append_own w hgd s x 78 ho base 109 i0 (.int .u64 0) 1 8 Tryz.underlying78 hi hz0 hz1 hz2 rfl (by decide) v xs.length (u64s xs).toList hs hown ⟨g, 0, none⟩ 1 1 [.int .u64 (y : Int)] hx rfl ?_ ?_ ?_ ?_ hbase ?_
 ·intro j u hj
  match j, hj with
  | 0, hj => simp at hj; subst hj; simpa [Addr.add] using hnew
 ·intro u hu; simp at hu; subst hu; rfl
 ·unfold maxLen; omega
 ·omega
 ·intro v' w' h1 h2 _
  refine h v' w' ?_ h2
  unfold OwU
  simpa [u64s] using h1
theorem wrap_small (y : Nat) (h : y = 0 ∨ y < 2) : IntKind.i64.wrap (4096 + (y : Int)) = 4096 + (y : Int) := by
 obtain rfl | rfl : y = 0 ∨ y = 1 := by omega
 ·rfl
 ·rfl
set_option maxHeartbeats 2000000 in
set_option maxRecDepth 100000 in
theorem odd_any (β : Nat) (a : Option Addr) (c : Nat) (bs : List Nat) (w : World) (hr : Rr w β a c bs) :
  Calls Tryz.prog 66 #[.pointer (some ⟨β, 0, none⟩)] w fun e w' => ∃ a' c' W xs,
   e = .returned (.agg #[.int .i64 W, .slice a' xs.length c']) ∧ 1 ≤ xs.length ∧ -9223372036854775808 ≤ W ∧ W ≤ 9223372036854775807 ∧ Got w' w.heap.size a' xs ∧ Rr w' β a c bs ∧ Dw β w w' := by
 go_enter Tryz.func66, Tryz.ntmps66
 go_wp2_with fail
 have hb1 : Below w.heap.size w (w.alloc (Obj.cells #[.int IntKind.i64 0, .slice none 0 0] 80)) := Ba (Below.refl _ _) _
 have hβ := hr.lt
 refine (wide_any β a c bs _ (hr.later hb1)).mono ?_
 rintro e w1 ⟨V, rfl, hV1, hV2, hr1, hd1⟩
 go_wp2_with fail
 refine (bits_any V hV1 (by omega) β a c bs _ hr1).mono ?_
 rintro e w2 ⟨a2, l, hl, hl1, rfl, hf2, hr2, hd2⟩
 have hd12 := hd1.trans hd2
 have hk2 : Blk w2 w.heap.size (.int .i64 0) (.slice none 0 0) 80 := by
  unfold Blk
  rw [World.grownBy.block hd12 w.heap.size (by simp) (by simp; omega), heap_alloc_new]
 have hd : Dw β w w2 := (Dw.of hb1).trans hd12
 have hpl : (pack l).length = (V + 63) / 64 := by rw [pack_len, hl]
 have hplt := pack_lt l
 generalize pack l = xs at *
 obtain ⟨g, rfl, hg1, ho2⟩ : ∃ g, a2 = some ⟨g, 0, none⟩ ∧ w.heap.size < g ∧ Own w2 g xs := by
  rcases hf2 with ⟨h, _⟩ | ⟨g, h1, hg, ho⟩
  ·subst h; simp at hpl; omega
  ·exact ⟨g, h1, by have := hd1.size; simp at this; omega, ho⟩
 have hgl := ho2.lt
 have HPL : Hid (xs.length = (V + 63) / 64) := hpl
 have n1 : 1 ≤ xs.length := by omega
 have n2 : xs.length ≤ 4 := by omega
 clear hf2 hb1 hd1 hd2 hd12 hr1 hl hl1 hpl
 go_wp2_with fail
 refine (below_any 30 (by omega) β a c bs _ (hr2.later ((Below.refl _ _).alloc (Nat.le_refl _) _))).mono ?_
 rintro e w3 ⟨m, rfl, hm, hr3, hd3⟩
 have hB3 : Blk w3 w2.heap.size (.int .i64 V) (.slice (some ⟨g, 0, none⟩) xs.length xs.length) 80 := hd3.row hr2.lt
 have hR3 : Blk w3 w.heap.size (.int .i64 0) (.slice none 0 0) 80 := (hk2.alloc _).far hd3 (by omega)
 have ho3 : Own w3 g xs := (ho2.later ((Below.refl _ _).alloc (Nat.le_refl _) _) hgl).far hd3 (by omega)
 have hd' : Dw β w w3 := (hd.alloc _).trans hd3
 have hRB : w.heap.size < w2.heap.size := hk2.lt
 have hB3l : w2.heap.size < w3.heap.size := hB3.lt
 clear hd hd3 ho2 hk2 hr2
 generalize w2.heap.size = B at *
 obtain ⟨b0, b1⟩ := hB3.cells
 obtain ⟨r0, r1⟩ := hR3.cells
 have fb0 : w3.frozen? ⟨B, 0, none⟩ = false := frozen_of_row w3 _ 0 _ _ hB3
 have fb1 : w3.frozen? ⟨B, 1, none⟩ = false := frozen_of_row w3 _ 1 _ _ hB3
 have fr0 : w3.frozen? ⟨w.heap.size, 0, none⟩ = false := frozen_of_row w3 _ 0 _ _ hR3
 have fr1 : w3.frozen? ⟨w.heap.size, 1, none⟩ = false := frozen_of_row w3 _ 1 _ _ hR3
 have hRl : w.heap.size < w3.heap.size := hR3.lt
 have hgB : ∀ (u : World), Own u g xs → Got u (w.heap.size + 1) (some ⟨g, 0, none⟩) xs := fun u hu => ⟨hu.rd (by omega) hplt, fun x e => by cases e; exact hg1⟩
 have HG : Hid _ := hgB
 clear hgB
 by_cases m0 : m = 0
 ·
  have e0 : ((m : Int) == 0) = true := by simp [m0]
  have e1 : ((m : Int) == 1) = false := by simp [m0]
  have e2 : ((m : Int) == 2) = false := by simp [m0]
  have e3 : ((m : Int) == 3) = false := by simp [m0]
  have e4 : ((m : Int) == 4) = false := by simp [m0]
  clear m0 hm
  go_wp2
  have gB : Dw B w3 (w3.setCell ⟨B, 0, none⟩ (Value.int IntKind.i64 ((V : Int) + 1))) := gsc _ _ _
  have gw : Dw w.heap.size (w3.setCell ⟨B, 0, none⟩ (Value.int IntKind.i64 ((V : Int) + 1))) (((w3.setCell ⟨B, 0, none⟩ (Value.int IntKind.i64 ((V : Int) + 1))).setCell ⟨w.heap.size, 0, none⟩ (.int .i64 ((V : Int) + 1))).setCell ⟨w.heap.size, 1, none⟩ (.slice (some ⟨g, 0, none⟩) xs.length xs.length)) := (gsc _ ⟨w.heap.size, 0, none⟩ _).trans (gsc _ ⟨w.heap.size, 1, none⟩ _)
  have gh : ∀ q, some w.heap.size = some q → w.heap.size ≤ q := fun q e => by cases e; exact Nat.le_refl _
  obtain ⟨d0, d1⟩ := ((hR3.far gB (by omega)).put0 (Value.int IntKind.i64 ((V : Int) + 1)) |>.put1 (Value.slice (some ⟨g, 0, none⟩) xs.length xs.length)).cells
  exact bodyPost_ret (v := .agg #[.int .i64 ((V : Int) + 1), .slice (some ⟨g, 0, none⟩) xs.length xs.length]) (by simp [results, Tryz.results66, go_sem, d0, d1]) rfl ⟨_, _, ((V : Int) + 1), xs, rfl, n1, by omega, by omega, ((HG.out _ (ho3.far gB (by omega))).far gw (Nat.lt_succ_self _)).mono (Nat.le_succ _), hr.far (hr.far hr3 gB (fun q e => by cases e; omega)) gw gh, (hd'.own gB (fun q e => by cases e; omega)).own gw gh⟩
 by_cases m1 : m = 1
 ·
  have e0 : ((m : Int) == 0) = false := by simp [m1]
  have e1 : ((m : Int) == 1) = true := by simp [m1]
  have e2 : ((m : Int) == 2) = false := by simp [m1]
  have e3 : ((m : Int) == 3) = false := by simp [m1]
  have e4 : ((m : Int) == 4) = false := by simp [m1]
  clear m0 m1 hm
  have hou := ho3.owU (base := w.heap.size + 1) hg1 (by omega)
  go_wp2_with (at_builtin; refine wpList_appU _ rfl _ _ rfl (w.heap.size + 1) _ xs 0 rfl (World.ownsRow.alloc hou _) w3.heap.size rfl (by simp) (by omega) (by simp; omega) ?_)
  intro v4 w4 hou4 hgr4
  replace hgr4 : Dw g (w3.alloc (Obj.cells #[.int IntKind.u64 0] 109)) w4 := hgr4
  have hB4 := (hB3.alloc _).far hgr4 (by omega)
  have hR4 := (hR3.alloc _).far hgr4 (by omega)
  have hr4 := hr.far (hr3.later ((Below.refl _ _).alloc (Nat.le_refl _) _)) hgr4 (fun q e => by cases e; omega)
  have hdd := (hd'.alloc _).own hgr4 (fun q e => by cases e; omega)
  obtain ⟨a4, c4, rfl, hgot, hty⟩ := hou4.shape (by simp; omega) (fun x hx => by
   rcases List.mem_append.1 hx with h | h
   ·exact hplt x h
   ·simp at h; omega)
  have hne : ∀ x, a4 = some x → x.block ≠ B := fun x e he => by
   obtain ⟨cur, hc⟩ := hty x e
   unfold Blk at hB4
   rw [he, hB4] at hc
   simp at hc
  have hl4 : B < w4.heap.size := hB4.lt
  have hRl4 : w.heap.size < w4.heap.size := hR4.lt
  clear b0 b1 r0 r1 fb0 fb1 fr0 fr1 hB3 hR3 ho3 hr3 hd' hgr4 hou hou4 hty hB3l hRl
  obtain ⟨b0, b1⟩ := hB4.cells
  obtain ⟨r0, r1⟩ := hR4.cells
  have fb1 : w4.frozen? ⟨B, 1, none⟩ = false := frozen_of_row w4 _ 1 _ _ hB4
  have fr0 : w4.frozen? ⟨w.heap.size, 0, none⟩ = false := frozen_of_row w4 _ 0 _ _ hR4
  have fr1 : w4.frozen? ⟨w.heap.size, 1, none⟩ = false := frozen_of_row w4 _ 1 _ _ hR4
  generalize hzs : xs ++ [0] = zs at *
  have hzl : 1 ≤ zs.length := by rw [← hzs]; simp
  clear hzs
  go_wp2
  have gB : Dw B w4 (w4.setCell ⟨B, 1, none⟩ (Value.slice a4 zs.length c4)) := gsc _ _ _
  have gw : Dw w.heap.size (w4.setCell ⟨B, 1, none⟩ (Value.slice a4 zs.length c4)) (((w4.setCell ⟨B, 1, none⟩ (Value.slice a4 zs.length c4)).setCell ⟨w.heap.size, 0, none⟩ (.int .i64 (V : Int))).setCell ⟨w.heap.size, 1, none⟩ (.slice a4 zs.length c4)) := (gsc _ ⟨w.heap.size, 0, none⟩ _).trans (gsc _ ⟨w.heap.size, 1, none⟩ _)
  have gh : ∀ q, some w.heap.size = some q → w.heap.size ≤ q := fun q e => by cases e; exact Nat.le_refl _
  obtain ⟨d0, d1⟩ := ((hR4.far gB (by omega)).put0 (Value.int IntKind.i64 (V : Int)) |>.put1 (Value.slice a4 zs.length c4)).cells
  exact bodyPost_ret (v := .agg #[.int .i64 (V : Int), .slice a4 zs.length c4]) (by simp [results, Tryz.results66, go_sem, d0, d1]) rfl ⟨_, _, (V : Int), zs, rfl, hzl, by omega, by omega, ((hgot.farNe gB hne).far gw (Nat.lt_succ_self _)).mono (Nat.le_succ _), hr.far (hr.far hr4 gB (fun q e => by cases e; omega)) gw gh, (hdd.own gB (fun q e => by cases e; omega)).own gw gh⟩
 by_cases m2 : m = 2
 ·
  have e0 : ((m : Int) == 0) = false := by simp [m2]
  have e1 : ((m : Int) == 1) = false := by simp [m2]
  have e2 : ((m : Int) == 2) = true := by simp [m2]
  have e3 : ((m : Int) == 3) = false := by simp [m2]
  have e4 : ((m : Int) == 4) = false := by simp [m2]
  clear m0 m1 m2 hm
  obtain ⟨n, hn⟩ : ∃ n, xs.length = n + 1 := ⟨xs.length - 1, by omega⟩
  have hn3 : n ≤ 3 := by omega
  have hwr : IntKind.i64.wrap (n : Int) = (n : Int) := by
   match n, hn3 with
   | 0, _ => rfl
   | 1, _ => rfl
   | 2, _ => rfl
   | 3, _ => rfl
  have hi0 : (0 : Int) ≤ (n : Int) := by omega
  have hi1 : (n : Int) < (n : Int) + 1 := by omega
  go_wp2_with fail
  go_region_held3 (fun u => u.cell? ⟨B, 1, none⟩ = some (Value.slice (some { block := g, off := 0 }) (n + 1) (n + 1))) (first | assumption | (rw [World.cell?_setCell_far _ _ _ _ (by simp <;> omega)]; assumption) | simp [*])
   ((go_at_call 65; refine (word_any β a c bs _ ?_).mono ?_; exact hr3; rintro e w4 ⟨y, rfl, hy, hr4, hd4⟩; replace hd4 := hd4.undrew; have hB4 := hB3.far hd4 (by omega); have hR4 := hR3.far hd4 (by omega); have ho4 := ho3.far hd4 (by omega); obtain ⟨b40, b41⟩ := hB4.cells; obtain ⟨r40, r41⟩ := hR4.cells; have hc4 := ho4.cell (i := n) (by omega); have hf4 := ho4.free n; generalize xs.getD n 0 = x0 at hc4; have fr40 : w4.frozen? ⟨w.heap.size, 0, none⟩ = false := frozen_of_row w4 _ 0 _ _ hR4; have fr41 : w4.frozen? ⟨w.heap.size, 1, none⟩ = false := frozen_of_row w4 _ 1 _ _ hR4))
  have hdd := hd'.trans hd4
  go_wp2
  have gB : Dw g w4 (w4.setCell ⟨g, n, none⟩ (Value.int IntKind.u64 y)) := gsc _ _ _
  have hgo : Got (w4.setCell ⟨g, n, none⟩ (Value.int IntKind.u64 y)) (w.heap.size + 1) (some ⟨g, 0, none⟩) (xs.set n y) := ⟨(ho4.put n y).rd (by simp; omega) (fun x hx => by
   rcases List.mem_or_eq_of_mem_set hx with h | h
   ·exact hplt x h
   ·rw [h]; exact hy), fun x e => by cases e; exact hg1⟩
  have gw : Dw w.heap.size (w4.setCell ⟨g, n, none⟩ (Value.int IntKind.u64 y)) (((w4.setCell ⟨g, n, none⟩ (Value.int IntKind.u64 y)).setCell ⟨w.heap.size, 0, none⟩ (.int .i64 (V : Int))).setCell ⟨w.heap.size, 1, none⟩ (.slice (some ⟨g, 0, none⟩) (n + 1) (n + 1))) := (gsc _ ⟨w.heap.size, 0, none⟩ _).trans (gsc _ ⟨w.heap.size, 1, none⟩ _)
  have gh : ∀ q, some w.heap.size = some q → w.heap.size ≤ q := fun q e => by cases e; exact Nat.le_refl _
  obtain ⟨d0, d1⟩ := ((hR4.far gB (by omega)).put0 (Value.int IntKind.i64 (V : Int)) |>.put1 (Value.slice (some ⟨g, 0, none⟩) (n + 1) (n + 1))).cells
  exact bodyPost_ret (v := .agg #[.int .i64 (V : Int), .slice (some ⟨g, 0, none⟩) (n + 1) (n + 1)]) (by simp [results, Tryz.results66, go_sem, d0, d1]) rfl ⟨_, _, (V : Int), xs.set n y, by rw [List.length_set, hn], by rw [List.length_set]; exact n1, by omega, by omega, ((hgo).far gw (Nat.lt_succ_self _)).mono (Nat.le_succ _), hr.far (hr.far hr4 gB (fun q e => by cases e; omega)) gw gh, (hdd.own gB (fun q e => by cases e; omega)).own gw gh⟩
 by_cases m3 : m = 3
 ·
  have e0 : ((m : Int) == 0) = false := by simp [m3]
  have e1 : ((m : Int) == 1) = false := by simp [m3]
  have e2 : ((m : Int) == 2) = false := by simp [m3]
  have e3 : ((m : Int) == 3) = true := by simp [m3]
  have e4 : ((m : Int) == 4) = false := by simp [m3]
  clear m0 m1 m2 m3 hm
  go_wp2_with fail
  refine (off_any 0 4096 (by omega) (by omega) β a c bs _ hr3).mono ?_
  rintro e w4 ⟨y, rfl, hy1, hy2, hr4, hd4⟩
  have hB4 := hB3.far hd4 (by omega)
  have hR4 := hR3.far hd4 (by omega)
  have ho4 := ho3.far hd4 (by omega)
  have hdd := hd'.trans hd4
  clear b0 b1 r0 r1 fb0 fb1 fr0 fr1 hB3 hR3 ho3 hr3 hd' hd4
  obtain ⟨b0, b1⟩ := hB4.cells
  obtain ⟨r0, r1⟩ := hR4.cells
  have fb0 : w4.frozen? ⟨B, 0, none⟩ = false := frozen_of_row w4 _ 0 _ _ hB4
  have fr0 : w4.frozen? ⟨w.heap.size, 0, none⟩ = false := frozen_of_row w4 _ 0 _ _ hR4
  have fr1 : w4.frozen? ⟨w.heap.size, 1, none⟩ = false := frozen_of_row w4 _ 1 _ _ hR4
  go_wp2
  have gB : Dw B w4 (w4.setCell ⟨B, 0, none⟩ (Value.int IntKind.i64 y)) := gsc _ _ _
  have gw : Dw w.heap.size (w4.setCell ⟨B, 0, none⟩ (Value.int IntKind.i64 y)) (((w4.setCell ⟨B, 0, none⟩ (Value.int IntKind.i64 y)).setCell ⟨w.heap.size, 0, none⟩ (.int .i64 y)).setCell ⟨w.heap.size, 1, none⟩ (.slice (some ⟨g, 0, none⟩) xs.length xs.length)) := (gsc _ ⟨w.heap.size, 0, none⟩ _).trans (gsc _ ⟨w.heap.size, 1, none⟩ _)
  have gh : ∀ q, some w.heap.size = some q → w.heap.size ≤ q := fun q e => by cases e; exact Nat.le_refl _
  obtain ⟨d0, d1⟩ := ((hR4.far gB (by omega)).put0 (Value.int IntKind.i64 y) |>.put1 (Value.slice (some ⟨g, 0, none⟩) xs.length xs.length)).cells
  exact bodyPost_ret (v := .agg #[.int .i64 y, .slice (some ⟨g, 0, none⟩) xs.length xs.length]) (by simp [results, Tryz.results66, go_sem, d0, d1]) rfl ⟨_, _, y, xs, rfl, n1, by omega, by omega, ((HG.out _ (ho4.far gB (by omega))).far gw (Nat.lt_succ_self _)).mono (Nat.le_succ _), hr.far (hr.far hr4 gB (fun q e => by cases e; omega)) gw gh, (hdd.own gB (fun q e => by cases e; omega)).own gw gh⟩
 by_cases m4 : m = 4
 ·
  have e0 : ((m : Int) == 0) = false := by simp [m4]
  have e1 : ((m : Int) == 1) = false := by simp [m4]
  have e2 : ((m : Int) == 2) = false := by simp [m4]
  have e3 : ((m : Int) == 3) = false := by simp [m4]
  have e4 : ((m : Int) == 4) = true := by simp [m4]
  clear m0 m1 m2 m3 m4 hm
  have hmk := fun kl kc w => run_make_row' (P := Tryz.prog) 78 109 (.int .u64 0) 8 Tryz.underlying78 Tryz.infoU64 rfl kl kc 64 (by omega) (by omega) w
  change ∀ kl kc w, Sem.run Tryz.prog (Instr.makeSlice 78 (.int kl 64) (.int kc 64)) w = _ at hmk
  go_wp2_with fail
  have hr3d : Rr w3.drew β a c bs := hr3
  have hB3d : Blk w3.drew B (Value.int IntKind.i64 V) (Value.slice (some ⟨g, 0, none⟩) xs.length xs.length) 80 := hB3
  have hR3d : Blk w3.drew w.heap.size (Value.int IntKind.i64 0) (Value.slice none 0 0) 80 := hR3
  have hdd : Dw β w w3.drew := hd'.drew
  go_region_with (first
   | (go_at_call 61; refine (below_any 2 (by omega) β a c bs _ ?_).mono ?_; exact hr3d; rintro e w4 ⟨y, rfl, hy, hr4, hd4⟩; have hB4 := hB3d.far hd4 (by omega); have hR4 := hR3d.far hd4 (by omega); obtain ⟨b40, b41⟩ := hB4.cells; obtain ⟨r40, r41⟩ := hR4.cells; have fb40 : w4.frozen? ⟨B, 0, none⟩ = false := frozen_of_row w4 _ 0 _ _ hB4; have fb41 : w4.frozen? ⟨B, 1, none⟩ = false := frozen_of_row w4 _ 1 _ _ hB4; have fr40 : w4.frozen? ⟨w.heap.size, 0, none⟩ = false := frozen_of_row w4 _ 0 _ _ hR4; have fr41 : w4.frozen? ⟨w.heap.size, 1, none⟩ = false := frozen_of_row w4 _ 1 _ _ hR4; have lB4 := hB4.lt; have lR4 := hR4.lt; have hwy := wrap_small y hy)
   | (go_at_call 61; refine (below_any 2 (by omega) β a c bs _ ?_).mono ?_; exact hr3d.later ((Below.refl _ _).alloc (Nat.le_refl _) _); rintro e w4 ⟨y, rfl, hy, hr4, hd4⟩; have hB4 := (hB3d.alloc _).far hd4 (by omega); have hR4 := (hR3d.alloc _).far hd4 (by omega); obtain ⟨b40, b41⟩ := hB4.cells; obtain ⟨r40, r41⟩ := hR4.cells; have fb40 : w4.frozen? ⟨B, 0, none⟩ = false := frozen_of_row w4 _ 0 _ _ hB4; have fb41 : w4.frozen? ⟨B, 1, none⟩ = false := frozen_of_row w4 _ 1 _ _ hB4; have fr40 : w4.frozen? ⟨w.heap.size, 0, none⟩ = false := frozen_of_row w4 _ 0 _ _ hR4; have fr41 : w4.frozen? ⟨w.heap.size, 1, none⟩ = false := frozen_of_row w4 _ 1 _ _ hR4; have lB4 := hB4.lt; have lR4 := hR4.lt; have hwy := wrap_small y hy))
  all_goals clear hmk b0 b1 r0 r1 fb0 fb1 fr0 fr1
  ·-- the draw first
   have gB : Dw B w4 ((w4.setCell ⟨B, 0, none⟩ (Value.int IntKind.i64 (4096 + (y : Int)))).setCell ⟨B, 1, none⟩ (Value.slice (some ⟨w4.heap.size, 0, none⟩) 64 64)) := (gsc _ ⟨B, 0, none⟩ _).trans (gsc _ ⟨B, 1, none⟩ _)
   have gw : Dw w.heap.size ((w4.setCell ⟨B, 0, none⟩ (Value.int IntKind.i64 (4096 + (y : Int)))).setCell ⟨B, 1, none⟩ (Value.slice (some ⟨w4.heap.size, 0, none⟩) 64 64)) ((((w4.setCell ⟨B, 0, none⟩ (Value.int IntKind.i64 (4096 + (y : Int)))).setCell ⟨B, 1, none⟩ (Value.slice (some ⟨w4.heap.size, 0, none⟩) 64 64)).setCell ⟨w.heap.size, 0, none⟩ (.int .i64 (4096 + (y : Int)))).setCell ⟨w.heap.size, 1, none⟩ (.slice (some ⟨w4.heap.size, 0, none⟩) 64 64)) := (gsc _ ⟨w.heap.size, 0, none⟩ _).trans (gsc _ ⟨w.heap.size, 1, none⟩ _)
   have gh : ∀ q, some w.heap.size = some q → w.heap.size ≤ q := fun q e => by cases e; exact Nat.le_refl _
   have hRX := ((((hR4.far gB (by omega)).put0 (Value.int IntKind.i64 (4096 + (y : Int)))).put1 (Value.slice (some ⟨w4.heap.size, 0, none⟩) 64 64)).alloc (Obj.cells (madeCells #[.int IntKind.u64 0] 64) 109)).cells
   have hrX := (hr.far (hr.far hr4 gB (fun q e => by cases e; omega)) gw gh).later ((Below.refl _ _).alloc (Nat.le_refl _) (Obj.cells (madeCells #[.int IntKind.u64 0] 64) 109))
   have hdX := (((hdd.trans hd4).own gB (fun q e => by cases e; omega)).own gw gh).alloc (Obj.cells (madeCells #[.int IntKind.u64 0] 64) 109)
   have ho4 : Own (((((w4.setCell ⟨B, 0, none⟩ (Value.int IntKind.i64 (4096 + (y : Int)))).setCell ⟨B, 1, none⟩ (Value.slice (some ⟨w4.heap.size, 0, none⟩) 64 64)).setCell ⟨w.heap.size, 0, none⟩ (.int .i64 (4096 + (y : Int)))).setCell ⟨w.heap.size, 1, none⟩ (.slice (some ⟨w4.heap.size, 0, none⟩) 64 64)).alloc (Obj.cells (madeCells #[.int IntKind.u64 0] 64) 109)) w4.heap.size (List.replicate 64 0) := by
    unfold Own
    rw [← u64s_made]
    have h := heap_alloc_new ((((w4.setCell ⟨B, 0, none⟩ (Value.int IntKind.i64 (4096 + (y : Int)))).setCell ⟨B, 1, none⟩ (Value.slice (some ⟨w4.heap.size, 0, none⟩) 64 64)).setCell ⟨w.heap.size, 0, none⟩ (.int .i64 (4096 + (y : Int)))).setCell ⟨w.heap.size, 1, none⟩ (.slice (some ⟨w4.heap.size, 0, none⟩) 64 64)) (Obj.cells (madeCells #[.int IntKind.u64 0] 64) 109)
    simpa using h
   have hgo : Got (((((w4.setCell ⟨B, 0, none⟩ (Value.int IntKind.i64 (4096 + (y : Int)))).setCell ⟨B, 1, none⟩ (Value.slice (some ⟨w4.heap.size, 0, none⟩) 64 64)).setCell ⟨w.heap.size, 0, none⟩ (.int .i64 (4096 + (y : Int)))).setCell ⟨w.heap.size, 1, none⟩ (.slice (some ⟨w4.heap.size, 0, none⟩) 64 64)).alloc (Obj.cells (madeCells #[.int IntKind.u64 0] 64) 109)) w.heap.size (some ⟨w4.heap.size, 0, none⟩) (List.replicate 64 0) := ⟨ho4.rd (by simp) (fun x hx => by simp at hx; omega), fun x e => by cases e; exact Nat.le_of_lt lR4⟩
   obtain ⟨d0, d1⟩ := hRX
   have HD0 : Hid _ := d0
   have HD1 : Hid _ := d1
   have HX : Hid (_ ∧ _ ∧ _) := ⟨hgo, hrX, hdX⟩
   clear hgo hrX hdX ho4 gB gw d0 d1 hd4 hr4 hdd hd'
   go_wp2
   have d0 := HD0.out
   have d1 := HD1.out
   exact bodyPost_ret (v := .agg #[.int .i64 (4096 + (y : Int)), .slice (some ⟨w4.heap.size, 0, none⟩) 64 64]) (by simp [results, Tryz.results66, go_sem, d0, d1]) rfl ⟨_, 64, (4096 + (y : Int)), List.replicate 64 0, by simp, by simp, by omega, by omega, HX.out⟩
  ·-- the row first
   have ho4 : Own w4 w3.heap.size (List.replicate 64 0) := by
    unfold Own
    rw [← u64s_made]; exact hd4.undrew.row hr3.lt
   have gB : Dw B w4 ((w4.setCell ⟨B, 0, none⟩ (Value.int IntKind.i64 (4096 + (y : Int)))).setCell ⟨B, 1, none⟩ (Value.slice (some ⟨w3.heap.size, 0, none⟩) 64 64)) := (gsc _ ⟨B, 0, none⟩ _).trans (gsc _ ⟨B, 1, none⟩ _)
   have hgo : Got ((w4.setCell ⟨B, 0, none⟩ (Value.int IntKind.i64 (4096 + (y : Int)))).setCell ⟨B, 1, none⟩ (Value.slice (some ⟨w3.heap.size, 0, none⟩) 64 64)) (w.heap.size + 1) (some ⟨w3.heap.size, 0, none⟩) (List.replicate 64 0) := ⟨(ho4.far gB (by omega)).rd (by simp) (fun x hx => by simp at hx; omega), fun x e => by cases e; exact hRl⟩
   have hRX := hR4.far gB (by omega)
   have hrX := hr.far hr4 gB (fun q e => by cases e; omega)
   have hdX := ((hd'.alloc _).trans hd4.undrew).own gB (fun q e => by cases e; omega)
   go_wp2
   have gw : Dw w.heap.size ((w4.setCell ⟨B, 0, none⟩ (Value.int IntKind.i64 (4096 + (y : Int)))).setCell ⟨B, 1, none⟩ (Value.slice (some ⟨w3.heap.size, 0, none⟩) 64 64)) ((((w4.setCell ⟨B, 0, none⟩ (Value.int IntKind.i64 (4096 + (y : Int)))).setCell ⟨B, 1, none⟩ (Value.slice (some ⟨w3.heap.size, 0, none⟩) 64 64)).setCell ⟨w.heap.size, 0, none⟩ (.int .i64 (4096 + (y : Int)))).setCell ⟨w.heap.size, 1, none⟩ (.slice (some ⟨w3.heap.size, 0, none⟩) 64 64)) := (gsc _ ⟨w.heap.size, 0, none⟩ _).trans (gsc _ ⟨w.heap.size, 1, none⟩ _)
   have gh : ∀ q, some w.heap.size = some q → w.heap.size ≤ q := fun q e => by cases e; exact Nat.le_refl _
   obtain ⟨d0, d1⟩ := ((hRX).put0 (Value.int IntKind.i64 (4096 + (y : Int))) |>.put1 (Value.slice (some ⟨w3.heap.size, 0, none⟩) 64 64)).cells
   exact bodyPost_ret (v := .agg #[.int .i64 (4096 + (y : Int)), .slice (some ⟨w3.heap.size, 0, none⟩) 64 64]) (by simp [results, Tryz.results66, go_sem, d0, d1]) rfl ⟨_, 64, (4096 + (y : Int)), List.replicate 64 0, by simp, by simp, by omega, by omega, ((hgo).far gw (Nat.lt_succ_self _)).mono (Nat.le_succ _), hr.far (hrX) gw gh, (hdX).own gw gh⟩
 have e0 : ((m : Int) == 0) = false := by simp; omega
 have e1 : ((m : Int) == 1) = false := by simp; omega
 have e2 : ((m : Int) == 2) = false := by simp; omega
 have e3 : ((m : Int) == 3) = false := by simp; omega
 have e4 : ((m : Int) == 4) = false := by simp; omega
 clear m0 m1 m2 m3 m4 hm
 go_wp2
 have gw : Dw w.heap.size (w3) (((w3).setCell ⟨w.heap.size, 0, none⟩ (.int .i64 (V : Int))).setCell ⟨w.heap.size, 1, none⟩ (.slice (some ⟨g, 0, none⟩) xs.length xs.length)) := (gsc _ ⟨w.heap.size, 0, none⟩ _).trans (gsc _ ⟨w.heap.size, 1, none⟩ _)
 have gh : ∀ q, some w.heap.size = some q → w.heap.size ≤ q := fun q e => by cases e; exact Nat.le_refl _
 obtain ⟨d0, d1⟩ := ((hR3).put0 (Value.int IntKind.i64 (V : Int)) |>.put1 (Value.slice (some ⟨g, 0, none⟩) xs.length xs.length)).cells
 exact bodyPost_ret (v := .agg #[.int .i64 (V : Int), .slice (some ⟨g, 0, none⟩) xs.length xs.length]) (by simp [results, Tryz.results66, go_sem, d0, d1]) rfl ⟨_, _, (V : Int), xs, rfl, n1, by omega, by omega, ((HG.out _ ho3).far gw (Nat.lt_succ_self _)).mono (Nat.le_succ _), hr.far (hr3) gw gh, (hd').own gw gh⟩

theorem open_any (a : Option Addr) (c : Nat) (bs : List Nat) (w : World) (h : RdB w a bs) :
  Calls Tryz.prog 34 #[.slice a bs.length c] w fun e w' => ∃ β, e = .returned (.pointer (some ⟨β, 0, none⟩)) ∧ w.heap.size ≤ β ∧ Rr w' β a c bs ∧ Below w.heap.size w w' := by
 have hl := h.1
 go_enter Tryz.func34, Tryz.ntmps34
 go_wp2
 go_ret
 refine ⟨w.heap.size, rfl, Nat.le_refl _, ⟨0, Nat.zero_le _, Blk.new _ _ _ _, h.later (Ba (Below.refl _ _) _), fun x e hb => ?_⟩, Ba (Below.refl _ _) _⟩
 obtain ⟨-, -, h | ⟨b, o, rfl, hc⟩⟩ := h
 ·exact absurd h hb
 ·cases e
  have := block_lt_of_cell (hc 0 (List.length_pos_iff.2 hb))
  simp at this ⊢
  omega

def topOf (V : Nat) (xs : List Nat) (sign : Bool) : Nat := if sign then (tb xs (V - 1)).toNat else 0
theorem topOf_le (V : Nat) (xs : List Nat) (sign : Bool) : topOf V xs sign ≤ 1 := by
 unfold topOf
 split
 ·cases tb xs (V - 1) <;> decide
 ·omega
def wdnR (W : Int) (xs : List Nat) (n : Int) (sign : Bool) : Int × List Nat × Bool :=
 if rightB W xs = true ∧ 0 ≤ n ∧ n ≤ 4096 ∧ W + n ≤ 4096 then (W + n, pack (bitsTo xs W.toNat ++ List.replicate n.toNat (topOf W.toNat xs sign)), true) else noR
set_option maxHeartbeats 1000000 in
set_option maxRecDepth 100000 in
theorem specWid_any (W : Int) (a : Option Addr) (c : Nat) (xs : List Nat) (n : Int) (sign : Bool) (w : World) (hr : Rd w a xs) :
  Calls Tryz.prog 98 #[.agg #[.int .i64 W, .slice a xs.length c], .int .i64 n, .bool sign] w (RetB w (wdnR W xs n sign)) := by
 have h2 : Below w.heap.size w ((w.alloc (Obj.cells #[.int IntKind.i64 W, .slice a xs.length c] 80)).alloc (Obj.cells #[.int IntKind.i64 0, .slice none 0 0] 80)) := ((Below.refl _ _).alloc (Nat.le_refl _) _).alloc (by simp) _
 have hr' := hr.later h2
 by_cases hc : rightB W xs = true ∧ 0 ≤ n ∧ n ≤ 4096
 ·obtain ⟨hok, hn1, hn2⟩ := hc
  have hRR : wdnR W xs n sign = if W + n ≤ 4096 then (W + n, pack (bitsTo xs W.toNat ++ List.replicate n.toNat (topOf W.toNat xs sign)), true) else noR := by
   unfold wdnR; simp [hok, hn1, hn2]
  rw [hRR]
  generalize hR : (if W + n ≤ 4096 then (W + n, pack (bitsTo xs W.toNat ++ List.replicate n.toNat (topOf W.toNat xs sign)), true) else noR) = R
  have HR : Hid ((if W + n ≤ 4096 then (W + n, pack (bitsTo xs W.toNat ++ List.replicate n.toNat (topOf W.toNat xs sign)), true) else noR) = R) := hR
  clear hR hRR
  obtain ⟨hW1, hW2, hWl⟩ := right_W hok
  obtain ⟨V, rfl⟩ := Int.eq_ofNat_of_zero_le (show 0 ≤ W by omega)
  obtain ⟨m, rfl⟩ := Int.eq_ofNat_of_zero_le hn1
  have hVl : V ≤ 64 * xs.length := by omega
  have hd : decide (0 ≤ (m : Int) ∧ (m : Int) ≤ 4096) = true := by simp; omega
  have HWl : Hid ((xs.length : Int) = ((V : Int) + 63) / 64) := hWl
  clear hWl
  have ht := topOf_le V xs sign
  have hv0 : (0 : Int) ≤ (V : Int) - 1 := by omega
  have hv1 : (V : Int) - 1 < (V : Int) := by omega
  go_enter Tryz.func98, Tryz.ntmps98
  go_wp2_with fail
  refine (specOk_any _ _ _ _ _ hr').mono ?_
  rintro e w1 ⟨rfl, hb1⟩
  have hr1 := hr'.later hb1
  have HB1 := hb1
  obtain ⟨hcc, hff⟩ := bcell hb1
  have hz : w.heap.size + 1 < w1.heap.size := by have := hb1.size; simp at this; omega
  clear hb1
  go_wp2_with (go_at_call 73; refine (l1In_any _ _ _ _).mono ?_; rintro e w' ⟨rfl, rfl⟩)
  refine (l1List_any _ _ _ _ _ hr1 hVl (by omega)).mono ?_
  rintro e w2 ⟨v, rfl, how, hb2⟩
  have hlen := bitsTo_len xs V
  have hle := bitsTo_le xs V
  obtain ⟨a2, c2, rfl, hrb, hc2, hm2⟩ := how.shape (by rw [bitsTo_len]; omega) (fun x hx => by have := hle x hx; omega)
  have HB2 := chain HB1 hb2
  have hsz2 := hb2.size
  rw [hlen] at hc2 how ⊢
  obtain ⟨-, -, hn | ⟨bb, oo, rfl, hcell⟩⟩ := hrb
  ·rw [hn] at hlen; simp at hlen; omega
  have htop : w2.cell? ⟨bb, oo + (V - 1), none⟩ = some (.int .u8 ((((tb xs (V - 1)).toNat : Nat)) : Int)) := by
   rw [hcell (V - 1) (by omega)]
   simp [List.getD, bitsTo, show V - 1 < V by omega]
  generalize hbs : bitsTo xs V = bs at *
  have HBS : Hid (bitsTo xs V = bs) := hbs
  have hbase : w'.heap.size + 1 ≤ w2.heap.size := by
   have := how.own bb rfl
   have hbb : bb < w2.heap.size := block_lt_of_cell htop
   omega
  have HB1s := HB1.size
  clear hbs hcell hb2 hr hr' hr1 hcc hff hz HB1
  cases sign with
  | false =>
   have HT : Hid (topOf V xs false = 0) := rfl
   go_wp2_with fail
   go_loopw [8, 10] (fun v i wr => ∃ k : Nat, k ≤ m ∧ i = .int .i64 k ∧ OwB wr (w'.heap.size + 1) v (bs ++ List.replicate k 0) ∧ Below (w'.heap.size + 1) w2 wr) (fun _ i _ => m - (intOf i).toNat)
   case atStart => exact ⟨0, Nat.zero_le _, rfl, by rw [List.replicate_zero, List.append_nil]; unfold OwB; rw [hlen]; unfold OwB at how; rw [hlen] at how; exact how, Below.refl _ _⟩
   case round =>
    obtain ⟨k, hk, rfl, hown, hbel⟩ := hrel
    by_cases hlt : k < m
    ·have hsz := hbel.size
     have HS : Hid (bs ++ List.replicate (k + 1) 0 = (bs ++ List.replicate k 0) ++ [0]) := by show _ = _; rw [List.replicate_succ', List.append_assoc]
     have hll : (bs ++ List.replicate k 0).length ≤ 4194304 := by simp [hlen]; omega
     generalize bs ++ List.replicate k 0 = rk at *
     clear how htop
     go_wp2_with (at_builtin; refine wpList_appB _ rfl _ _ rfl (w'.heap.size + 1) _ rk 0 rfl (hown.alloc _) wr.heap.size rfl (by simp) hll (by simp; omega) ?_)
     intro v' w4 hown4 hgr4
     have hb4 : Below (w'.heap.size + 1) w2 w4 := (hbel.alloc (by omega) _).grown hgr4 (by simp; omega) hown.own
     clear hgr4 hown hbel
     go_wp2
     go_roundw
     case rel => exact ⟨k + 1, by omega, by go_num, by rw [HS.out]; exact hown4, hb4⟩
     case measure => simp [intOf]; omega
    ·have e : k = m := by omega
     subst e
     have hrl : (bs ++ List.replicate k 0).length = V + k := by simp [hlen]
     have HBr := HB2.trans (hbel.mono (show _ ≤ w'.heap.size + 1 by have := HB1s; omega))
     obtain ⟨a4, c4, rfl, hrb4, hc4, hm4⟩ := hown.shape (by rw [hrl]; omega) (fun x hx => by
      rcases List.mem_append.1 hx with h | h
      ·have := hle x h; omega
      ·have := List.eq_of_mem_replicate h; rw [HT.out] at ht; omega)
     by_cases hVk : V + k ≤ 4096
     ·have HQ : Hid ((((bs ++ List.replicate k 0).length : Int), pack (bs ++ List.replicate k 0), true) = R) := by
       show _ = _
       rw [← HR.out, if_pos (by omega), Int.toNat_natCast, Int.toNat_natCast, HBS.out, HT.out, hrl, Int.natCast_add]
      have hfrom := l1From_yes a4 c4 (bs ++ List.replicate k 0) wr hrb4 (by omega) (by omega)
      clear how hown hrb4 hbel HR HBS htop
      generalize bs ++ List.replicate k 0 = rk at *
      clear hrl
      go_wp2_with fail
      refine hfrom.mono ?_
      rintro e w5 ⟨a5, c5, rfl, hfr, hb5⟩
      have HB5 := chain HBr hb5
      obtain ⟨hcc, hff⟩ := bcell HB5
      have hz5 : w.heap.size + 1 < w5.heap.size := by have := HB5.size; simp at this; omega
      have hzr : w.heap.size + 1 < wr.heap.size := by have := HBr.size; simp at this; omega
      dsimp only at hfr ⊢
      clear hfrom
      go_wp2
      exact bodyPost_ret (by simp [results, Tryz.results98, go_sem, hcc, hz5]; rfl) rfl (RetB.close (r := ((rk.length : Int), pack rk, true)) hfr (by omega) hzr (h2.trans (HB5.mono (by simp; omega))) HQ.out _ _)
     ·have HQ : Hid (noR = R) := by show _ = _; rw [← HR.out, if_neg (by omega)]
      have hfrom := l1From_no a4 (bs ++ List.replicate k 0).length c4 wr (.inr (by omega)) (by omega)
      clear how hown hrb4 hbel HR HBS htop
      generalize bs ++ List.replicate k 0 = rk at *
      clear hrl
      go_wp2_with fail
      refine hfrom.mono ?_
      rintro e w5 ⟨rfl, hb5⟩
      have HB5 := chain HBr hb5
      obtain ⟨hcc, hff⟩ := bcell HB5
      have hz5 : w.heap.size + 1 < w5.heap.size := by have := HB5.size; simp at this; omega
      clear hfrom
      go_wp2
      refine bodyPost_ret (v := .tuple #[.agg #[.int .i64 0, .slice none 0 0], .bool false]) (by simp [results, Tryz.results98, go_sem, hcc]) rfl ?_
      rw [← HQ.out]
      exact RetB.no (((h2.trans (HB5.mono (by simp; omega))).setCell (by simp) _).setCell (by simp) _)
  | true =>
   have HT : Hid (topOf V xs true = (tb xs (V - 1)).toNat) := rfl
   generalize (tb xs (V - 1)).toNat = t at *
   go_wp2_with fail
   go_loopw [8, 10] (fun v i wr => ∃ k : Nat, k ≤ m ∧ i = .int .i64 k ∧ OwB wr (w'.heap.size + 1) v (bs ++ List.replicate k t) ∧ Below (w'.heap.size + 1) w2 wr) (fun _ i _ => m - (intOf i).toNat)
   case atStart => exact ⟨0, Nat.zero_le _, rfl, by rw [List.replicate_zero, List.append_nil]; unfold OwB; rw [hlen]; unfold OwB at how; rw [hlen] at how; exact how, Below.refl _ _⟩
   case round =>
    obtain ⟨k, hk, rfl, hown, hbel⟩ := hrel
    by_cases hlt : k < m
    ·have hsz := hbel.size
     have HS : Hid (bs ++ List.replicate (k + 1) t = (bs ++ List.replicate k t) ++ [t]) := by show _ = _; rw [List.replicate_succ', List.append_assoc]
     have hll : (bs ++ List.replicate k t).length ≤ 4194304 := by simp [hlen]; omega
     generalize bs ++ List.replicate k t = rk at *
     clear how htop
     go_wp2_with (at_builtin; refine wpList_appB _ rfl _ _ rfl (w'.heap.size + 1) _ rk t rfl (hown.alloc _) wr.heap.size rfl (by simp) hll (by simp; omega) ?_)
     intro v' w4 hown4 hgr4
     have hb4 : Below (w'.heap.size + 1) w2 w4 := (hbel.alloc (by omega) _).grown hgr4 (by simp; omega) hown.own
     clear hgr4 hown hbel
     go_wp2
     go_roundw
     case rel => exact ⟨k + 1, by omega, by go_num, by rw [HS.out]; exact hown4, hb4⟩
     case measure => simp [intOf]; omega
    ·have e : k = m := by omega
     subst e
     have hrl : (bs ++ List.replicate k t).length = V + k := by simp [hlen]
     have HBr := HB2.trans (hbel.mono (show _ ≤ w'.heap.size + 1 by have := HB1s; omega))
     obtain ⟨a4, c4, rfl, hrb4, hc4, hm4⟩ := hown.shape (by rw [hrl]; omega) (fun x hx => by
      rcases List.mem_append.1 hx with h | h
      ·have := hle x h; omega
      ·have := List.eq_of_mem_replicate h; rw [HT.out] at ht; omega)
     by_cases hVk : V + k ≤ 4096
     ·have HQ : Hid ((((bs ++ List.replicate k t).length : Int), pack (bs ++ List.replicate k t), true) = R) := by
       show _ = _
       rw [← HR.out, if_pos (by omega), Int.toNat_natCast, Int.toNat_natCast, HBS.out, HT.out, hrl, Int.natCast_add]
      have hfrom := l1From_yes a4 c4 (bs ++ List.replicate k t) wr hrb4 (by omega) (by omega)
      clear how hown hrb4 hbel HR HBS htop
      generalize bs ++ List.replicate k t = rk at *
      clear hrl
      go_wp2_with fail
      refine hfrom.mono ?_
      rintro e w5 ⟨a5, c5, rfl, hfr, hb5⟩
      have HB5 := chain HBr hb5
      obtain ⟨hcc, hff⟩ := bcell HB5
      have hz5 : w.heap.size + 1 < w5.heap.size := by have := HB5.size; simp at this; omega
      have hzr : w.heap.size + 1 < wr.heap.size := by have := HBr.size; simp at this; omega
      dsimp only at hfr ⊢
      clear hfrom
      go_wp2
      exact bodyPost_ret (by simp [results, Tryz.results98, go_sem, hcc, hz5]; rfl) rfl (RetB.close (r := ((rk.length : Int), pack rk, true)) hfr (by omega) hzr (h2.trans (HB5.mono (by simp; omega))) HQ.out _ _)
     ·have HQ : Hid (noR = R) := by show _ = _; rw [← HR.out, if_neg (by omega)]
      have hfrom := l1From_no a4 (bs ++ List.replicate k t).length c4 wr (.inr (by omega)) (by omega)
      clear how hown hrb4 hbel HR HBS htop
      generalize bs ++ List.replicate k t = rk at *
      clear hrl
      go_wp2_with fail
      refine hfrom.mono ?_
      rintro e w5 ⟨rfl, hb5⟩
      have HB5 := chain HBr hb5
      obtain ⟨hcc, hff⟩ := bcell HB5
      have hz5 : w.heap.size + 1 < w5.heap.size := by have := HB5.size; simp at this; omega
      clear hfrom
      go_wp2
      refine bodyPost_ret (v := .tuple #[.agg #[.int .i64 0, .slice none 0 0], .bool false]) (by simp [results, Tryz.results98, go_sem, hcc]) rfl ?_
      rw [← HQ.out]
      exact RetB.no (((h2.trans (HB5.mono (by simp; omega))).setCell (by simp) _).setCell (by simp) _)
 ·have hnR : wdnR W xs n sign = noR := by
   unfold wdnR
   rw [if_neg]
   rintro ⟨h1, h3, h4, _⟩
   exact hc ⟨h1, h3, h4⟩
  rw [hnR]
  have hcase : rightB W xs = false ∨ (rightB W xs = true ∧ decide (0 ≤ n ∧ n ≤ 4096) = false) := by
   cases hb : rightB W xs with
   | false => exact .inl rfl
   | true =>
    right
    refine ⟨rfl, ?_⟩
    by_cases h : 0 ≤ n ∧ n ≤ 4096
    ·exact absurd ⟨hb, h.1, h.2⟩ hc
    ·simp only [h, decide_false]
  clear hc hnR
  rcases hcase with h | ⟨h, h1⟩
  ·go_enter Tryz.func98, Tryz.ntmps98
   go_wp2_with fail
   refine (specOk_any _ _ _ _ _ hr').mono ?_
   rintro e w1 ⟨rfl, hb1⟩
   obtain ⟨hcc, hff⟩ := bcell hb1
   have hz : w.heap.size + 1 < w1.heap.size := by have := hb1.size; simp at this; omega
   go_wp2_with (go_at_call 73; refine (l1In_any _ _ _ _).mono ?_; rintro e w' ⟨rfl, rfl⟩)
   exact bodyPost_ret (v := .tuple #[.agg #[.int .i64 0, .slice none 0 0], .bool false]) (by simp [results, Tryz.results98, go_sem, hcc]) rfl (RetB.no (((h2.trans (hb1.mono (by simp; omega))).setCell (by simp) _).setCell (by simp) _))
  ·go_enter Tryz.func98, Tryz.ntmps98
   go_wp2_with fail
   refine (specOk_any _ _ _ _ _ hr').mono ?_
   rintro e w1 ⟨rfl, hb1⟩
   obtain ⟨hcc, hff⟩ := bcell hb1
   have hz : w.heap.size + 1 < w1.heap.size := by have := hb1.size; simp at this; omega
   go_wp2_with (go_at_call 73; refine (l1In_any _ _ _ _).mono ?_; rintro e w' ⟨rfl, rfl⟩)
   exact bodyPost_ret (v := .tuple #[.agg #[.int .i64 0, .slice none 0 0], .bool false]) (by simp [results, Tryz.results98, go_sem, hcc]) rfl (RetB.no (((h2.trans (hb1.mono (by simp; omega))).setCell (by simp) _).setCell (by simp) _))

theorem join_pack {P q : Nat} {xs ys : List Nat} (hx : rightB P xs = true) (hy : rightB q ys = true) (zs : List Nat) (hl : zs.length = (q + P + 63) / 64) (hz : ∀ x ∈ zs, x < 18446744073709551616)
  (h : ∀ j, j < 64 * zs.length → tb zs j = (tb ys j || (decide (q ≤ j) && tb xs (j - q)))) : zs = pack (bitsTo ys q ++ bitsTo xs P) := by
 refine eq_pack (fun x hxm => ?_) (by simp [hl, bitsTo_len]) hz fun i hi => ?_
 ·rcases List.mem_append.1 hxm with h | h
  ·exact bitsTo_le ys q x h
  ·exact bitsTo_le xs P x h
 ·rw [h i hi]
  by_cases h1 : i < q
  ·have e : (bitsTo ys q ++ bitsTo xs P).getD i 0 = (tb ys i).toNat := by
    simp only [List.getD]
    rw [List.getElem?_append_left (by rw [bitsTo_len]; exact h1)]
    simp [bitsTo, h1]
   rw [e]
   simp [show ¬ q ≤ i by omega]
  ·rw [tb_out hy i (by omega)]
   by_cases h2 : i - q < P
   ·have e : (bitsTo ys q ++ bitsTo xs P).getD i 0 = (tb xs (i - q)).toNat := by
     simp only [List.getD]
     rw [List.getElem?_append_right (by rw [bitsTo_len]; omega), bitsTo_len]
     simp [bitsTo, h2]
    rw [e]
    simp [show q ≤ i by omega]
   ·have e : (bitsTo ys q ++ bitsTo xs P).getD i 0 = 0 := by
     simp only [List.getD]
     rw [List.getElem?_eq_none (by simp [bitsTo_len]; omega)]
     rfl
    rw [e, tb_out hx (i - q) (by omega)]
    simp
set_option maxHeartbeats 2000000 in
set_option maxRecDepth 100000 in
theorem implJoin_any (W : Int) (a : Option Addr) (c : Nat) (xs : List Nat) (V : Int) (b : Option Addr) (d : Nat) (ys : List Nat) (w : World) (hr : Rd w a xs) (hs : Rd w b ys) :
  Calls Tryz.prog 152 #[.agg #[.int .i64 W, .slice a xs.length c], .agg #[.int .i64 V, .slice b ys.length d]] w (RetB w (joinR W xs V ys)) := by
 have h3 : Below w.heap.size w (((w.alloc (Obj.cells #[.int IntKind.i64 W, .slice a xs.length c] 80)).alloc (Obj.cells #[.int IntKind.i64 V, .slice b ys.length d] 80)).alloc (Obj.cells #[.int IntKind.i64 0, .slice none 0 0] 80)) := Ba (Ba (Ba (Below.refl _ _) _) _) _
 have hr' := hr.later h3
 have hs' := hs.later h3
 have bR0 := Blk.new2 w (Obj.cells #[.int IntKind.i64 W, .slice a xs.length c] 80) (Obj.cells #[.int IntKind.i64 V, .slice b ys.length d] 80) (Value.int IntKind.i64 0) (Value.slice none 0 0) 80
 have bB0 := (Blk.new1 w (Obj.cells #[.int IntKind.i64 W, .slice a xs.length c] 80) (Value.int IntKind.i64 V) (Value.slice b ys.length d) 80).alloc (Obj.cells #[.int IntKind.i64 0, .slice none 0 0] 80)
 have bA0 := ((Blk.new w (Value.int IntKind.i64 W) (Value.slice a xs.length c) 80).alloc (Obj.cells #[.int IntKind.i64 V, .slice b ys.length d] 80)).alloc (Obj.cells #[.int IntKind.i64 0, .slice none 0 0] 80)
 have hOk : ∀ (W : Int) (a : Option Addr) (c : Nat) (xs : List Nat) (u : World) (r : Bool), rightB W xs = r → Rd u a xs → Calls Tryz.prog 76 #[.agg #[.int .i64 W, .slice a xs.length c]] u fun e w' => e = .returned (.bool r) ∧ Below u.heap.size u w' := fun W a c xs u r h hu => by
  have := implOk_any W a c xs u hu
  rwa [h] at this
 have HOK : Hid _ := hOk
 clear hOk
 cases hoa : rightB W xs with
 | false =>
  have hc : joinR W xs V ys = noR := by unfold joinR; simp [hoa]
  rw [hc]
  go_enter Tryz.func152, Tryz.ntmps152
  go_wp2_with fail
  refine (HOK.out _ _ _ _ _ _ hoa hr').mono ?_
  rintro e w3 ⟨rfl, hb3⟩
  have B3 := chain h3 hb3
  have bR3 := bR0.next hb3
  obtain ⟨r0, r1⟩ := bR3.cells
  have f0 := bR3.free 0
  have f1 := bR3.free 1
  go_wp2
  exact bodyPost_ret (v := .tuple #[.agg #[.int .i64 0, .slice none 0 0], .bool false]) (by simp [results, Tryz.results152, go_sem, r0, r1]) rfl (RetB.no ((B3.setCell (by simp; omega) _).setCell (by simp; omega) _))
 | true =>
  obtain ⟨c0, c1⟩ := bA0.cells
  obtain ⟨d0, d1⟩ := bB0.cells
  cases hob : rightB V ys with
  | false =>
   have hc : joinR W xs V ys = noR := by unfold joinR; simp [hob]
   rw [hc]
   go_enter Tryz.func152, Tryz.ntmps152
   go_wp2_with fail
   refine (HOK.out _ _ _ _ _ _ hoa hr').mono ?_
   rintro e w3 ⟨rfl, hb3⟩
   have B3 := chain h3 hb3
   have bB3 := bB0.next hb3
   obtain ⟨l0, l1⟩ := bB3.cells
   go_wp2_with fail
   refine (HOK.out _ _ _ _ _ _ hob (hs'.later hb3)).mono ?_
   rintro e w4 ⟨rfl, hb4⟩
   have B4 := chain B3 hb4
   have bR4 := (bR0.next hb3).next hb4
   obtain ⟨r0, r1⟩ := bR4.cells
   have f0 := bR4.free 0
   have f1 := bR4.free 1
   go_wp2
   exact bodyPost_ret (v := .tuple #[.agg #[.int .i64 0, .slice none 0 0], .bool false]) (by simp [results, Tryz.results152, go_sem, r0, r1]) rfl (RetB.no ((B4.setCell (by simp; omega) _).setCell (by simp; omega) _))
  | true =>
   have hc : joinR W xs V ys = fromR (joinL W xs V ys) := by unfold joinR; simp [hoa, hob]
   rw [hc]
   clear hc
   obtain ⟨hW1, hW2, hWl⟩ := right_W hoa
   obtain ⟨hV1, hV2, hVl⟩ := right_W hob
   obtain ⟨P, rfl⟩ := Int.eq_ofNat_of_zero_le (show 0 ≤ W by omega)
   obtain ⟨q, rfl⟩ := Int.eq_ofNat_of_zero_le (show 0 ≤ V by omega)
   have hxx := hr.2.1
   have hyy := hs.2.1
   have hx64 : xs.length ≤ 64 := by omega
   have hy64 : ys.length ≤ 64 := by omega
   have hab := hr.lt (by omega)
   have hbb := hs.lt (by omega)
   clear hWl hVl
   generalize hR : fromR (joinL (P : Int) xs (q : Int) ys) = R
   have HR : Hid (fromR (bitsTo ys q ++ bitsTo xs P) = R) := hR
   clear hR
   go_enter Tryz.func152, Tryz.ntmps152
   go_wp2_with fail
   refine (HOK.out _ _ _ _ _ _ hoa hr').mono ?_
   rintro e w3 ⟨rfl, hb3⟩
   have B3 := chain h3 hb3
   have bB3 := bB0.next hb3
   obtain ⟨l0, l1⟩ := bB3.cells
   go_wp2_with fail
   refine (HOK.out _ _ _ _ _ _ hob (hs'.later hb3)).mono ?_
   rintro e w4 ⟨rfl, hb4⟩
   have B4 := chain B3 hb4
   have bA4 := (bA0.next hb3).next hb4
   have bB4 := (bB0.next hb3).next hb4
   have bR4 := (bR0.next hb3).next hb4
   clear hb3 hb4 B3 bB3 l0 l1 c0 c1 d0 d1 bA0 bB0 bR0 h3 hr' hs' HOK
   obtain ⟨k0, k1⟩ := bA4.cells
   obtain ⟨l0, l1⟩ := bB4.cells
   by_cases hPq : (P : Int) + q ≤ 4096
   ·go_wp2_with fail
    rw [← Int.natCast_add]
    generalize hq : P + q = m at *
    refine (zeroBits_any m _ (by omega) (by omega)).mono ?_
    rintro e w5 ⟨g, rfl, hg, hown, hb5⟩
    generalize hN : (m + 63) / 64 = N at *
    have HN : Hid ((m + 63) / 64 = N) := hN
    have Hq : Hid (P + q = m) := hq
    have hm1 : 1 ≤ m := by omega
    have hm2 : m ≤ 4096 := by omega
    have hN64 : N ≤ 64 := by omega
    have hfit : m ≤ 64 * N := by omega
    have B5 := chain B4 hb5
    have bA5 := bA4.next hb5
    have bB5 := bB4.next hb5
    have bR5 := bR4.next hb5
    have hgr := bR4.lt
    have hgl := hown.lt
    clear hN hq hb5 B4 bA4 bB4 bR4 k0 k1 l0 l1
    obtain ⟨l0, l1⟩ := bB5.cells
    have hlR := bR5.lt
    have hlB := bB5.lt
    have hlA := bA5.lt
    go_wp2_with fail
    have hput := putBits_any (m : Int) (q : Int) g N d 0 b (List.replicate N 0) ys _ (hown.alloc (Obj.cells #[.int IntKind.i64 m, .slice (some ⟨g, 0, none⟩) N N] 80)) (hs.later (Ba B5 _)) (fun x hx => by have := List.eq_of_mem_replicate hx; omega) (by omega) (by simp; omega) hy64 (by rw [List.length_replicate]; exact put_fit hob hyy 0 N (by have := Hq.out; omega)) (fun x hx => by have := hbb x hx; omega)
    rw [List.length_replicate] at hput
    refine hput.mono ?_
    rintro e w6 ⟨rfl, hown6, hgr6⟩
    have bO3 := Blk.new w5 (Value.int IntKind.i64 m) (Value.slice (some ⟨g, 0, none⟩) N N) 80
    have bA3 := bA5.alloc (Obj.cells #[.int IntKind.i64 m, .slice (some ⟨g, 0, none⟩) N N] 80)
    have bB3 := bB5.alloc (Obj.cells #[.int IntKind.i64 m, .slice (some ⟨g, 0, none⟩) N N] 80)
    have bR3 := bR5.alloc (Obj.cells #[.int IntKind.i64 m, .slice (some ⟨g, 0, none⟩) N N] 80)
    have B3 := Ba B5 (Obj.cells #[.int IntKind.i64 m, .slice (some ⟨g, 0, none⟩) N N] 80)
    have ho3 := hown.alloc (Obj.cells #[.int IntKind.i64 m, .slice (some ⟨g, 0, none⟩) N N] 80)
    have f3 := ho3.fr (Nat.le_refl g)
    have m6 : Marked _ w6 (some ⟨g, 0, none⟩) := hgr6
    have bO6 := bO3.mark f3 m6 (by decide)
    have bA6 := bA3.mark f3 m6 (by decide)
    have bB6 := bB3.mark f3 m6 (by decide)
    have bR6 := bR3.mark f3 m6 (by decide)
    have B6 := m6.below f3 B3 (by omega)
    have hlen6 : (putTo (List.replicate N 0) ys (0 / 64) (0 % 64) ys.length).length = N := by rw [putTo_len, List.length_replicate]
    have hlt6 := putTo_lt (List.replicate N 0) ys (0 / 64) (0 % 64) ys.length (fun x hx => by have := List.eq_of_mem_replicate hx; omega) hyy
    have htb6 : ∀ j, tb (putTo (List.replicate N 0) ys (0 / 64) (0 % 64) ys.length) j = tb ys j := fun j => by
     rw [tb_put_right hob hyy _ 0 (by have := Hq.out; simp; omega), tb_zero]; simp
    generalize putTo (List.replicate N 0) ys (0 / 64) (0 % 64) ys.length = y6 at *
    have HL6 : Hid (y6.length = N) := hlen6
    clear hput bO3 bA3 bB3 bR3 B3 ho3 f3 m6 hgr6 B5 bA5 bB5 bR5 hown l0 l1 hlen6
    obtain ⟨k0, k1⟩ := bA6.cells
    obtain ⟨l0, l1⟩ := bB6.cells
    obtain ⟨o0, o1⟩ := bO6.cells
    go_wp2_with fail
    have hput := putBits_any (m : Int) (P : Int) g N c q a y6 xs w6 hown6 (hr.later B6) hlt6 (by omega) (by rw [HL6.out]; exact hN64) hx64 (by rw [HL6.out]; exact put_fit hoa hxx q N (by have := Hq.out; omega)) (fun x hx => by have := hab x hx; omega)
    rw [HL6.out] at hput
    refine hput.mono ?_
    rintro e w7 ⟨rfl, hown7, hgr7⟩
    have f6 := hown6.fr (Nat.le_refl g)
    have m7 : Marked w6 w7 (some ⟨g, 0, none⟩) := hgr7
    have bO7 := bO6.mark f6 m7 (by decide)
    have bR7 := bR6.mark f6 m7 (by decide)
    have B7 := m7.below f6 B6 (by omega)
    have HL7 : Hid ((putTo y6 xs (q / 64) (q % 64) xs.length).length = N) := by show _ = _; rw [putTo_len, HL6.out]
    have HQ : Hid (((m : Int), putTo y6 xs (q / 64) (q % 64) xs.length, true) = R) := by
     show _ = _
     have hln : (bitsTo ys q ++ bitsTo xs P).length = m := by rw [List.length_append, bitsTo_len, bitsTo_len, ← Hq.out]; omega
     rw [← HR.out, fromR, if_pos (by rw [hln]; exact ⟨hm1, hm2⟩), hln]
     congr 2
     refine join_pack hoa hob _ (by rw [HL7.out, ← HN.out, ← Hq.out, Nat.add_comm P q]) (putTo_lt _ _ _ _ _ hlt6 hxx) fun j hj => ?_
     rw [tb_put_right hoa hxx y6 q (by rw [HL6.out]; have := Hq.out; omega), htb6 j]
    generalize putTo y6 xs (q / 64) (q % 64) xs.length = y7 at *
    clear hput HR hlt6 htb6 bA6 bB6 bO6 bR6 f6 m7 hgr7 hown6 k0 k1 l0 l1 o0 o1 B6
    obtain ⟨o0, o1⟩ := bO7.cells
    obtain ⟨r0, r1⟩ := bR7.cells
    have fr0 := bR7.free 0
    have fr1 := bR7.free 1
    clear bO7 bR7
    go_wp2
    have hm := RetB.made (w := w) (r := ((m : Int), y7, true)) (c := N) hown7 (by omega) (β := w.heap.size + 1 + 1) (by omega) (by omega) B7 HQ.out (Value.int IntKind.i64 m) (Value.slice (some ⟨g, 0, none⟩) N N)
    dsimp only at hm
    rw [HL7.out] at hm
    exact bodyPost_ret (by simp [results, Tryz.results152, go_sem, r0, r1]) rfl hm
   ·have HQ : Hid (noR = R) := by
     show _ = _
     rw [← HR.out, fromR, if_neg (by simp only [List.length_append, bitsTo_len]; omega)]
     rfl
    obtain ⟨r0, r1⟩ := bR4.cells
    have f0 := bR4.free 0
    have f1 := bR4.free 1
    clear HR
    go_wp2
    refine bodyPost_ret (v := .tuple #[.agg #[.int .i64 0, .slice none 0 0], .bool false]) (by simp [results, Tryz.results152, go_sem, r0, r1]) rfl ?_
    rw [← HQ.out]
    exact RetB.no ((B4.setCell (by simp; omega) _).setCell (by simp; omega) _)

end Go.Proofs.YtkngpgonmedgpaaGreatDoor
