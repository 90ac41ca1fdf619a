/- A row of bars of one's own is marked; a row that holds its marks is told so. -/
import Derived.Test.YtddgldfjeklhbaaCG
namespace Go.Proofs.Ytddgldfjeklhbaa
set_option linter.unusedVariables false
set_option linter.unusedSimpArgs false
open Go.RowKit

/-- The row itself, in a block of bars. -/
def RowSh (w : World) (g : Nat) (l : List Yg) : Prop := ∃ cur, w.heap[g]? = some (.cells cur 54 (0, 0)) ∧ ∀ i x, l[i]? = some x → (∃ y : Int, cur[i * 4]? = some (.int .i64 y)) ∧ (∃ y : Int, cur[i * 4 + 1]? = some (.int .i64 y)) ∧ (∃ y : Int, cur[i * 4 + 2]? = some (.int .i64 y)) ∧ cur[i * 4 + 3]? = some (.slice x.a x.ct.ws.length x.c)
theorem RowSh.shp {w w' : World} {g : Nat} {l : List Yg} (h : RowSh w g l) (hs : Shp w w') : RowSh w' g l := by
  obtain ⟨cur, hg, r⟩ := h
  obtain ⟨cur', e', r'⟩ := hs g cur _ hg
  refine ⟨cur', e', fun i x hi => ?_⟩
  obtain ⟨h1, h2, h3, h4⟩ := r i x hi
  obtain ⟨v', j1, j2⟩ := r' _ _ h4
  exact ⟨keep_int r' h1, keep_int r' h2, keep_int r' h3, by rw [← j2.slice]; exact j1⟩

def RetMk (w : World) (lo hi g : Nat) (l : List Yg) (k : Nat) (e : Ending) (w' : World) : Prop := e = .returned (.int .i64 (mkAt l k l.length : Int)) ∧ HeldB w' g l k ∧ Out lo hi w w'

set_option maxHeartbeats 4000000 in
theorem markB_own (lo hi g c n k : Nat) (l : List Yg) (w : World) (hrow : RowSh w g l) (hg1 : lo ≤ g) (hg2 : g < hi) (hws : ∀ x ∈ l, WSh w lo hi x ∧ x.ct.ws.length ≤ 1048576) (hdj : Dj l) (hn : l.length = n) (hn2 : n ≤ 1048576) (hk : k ≤ 1) :
    Calls Try.prog 12 #[.slice (some ⟨g, 0, none⟩) n c, .int .i64 (k : Int)] w (RetMk w lo hi g l k) := by
  have HROW := kide hrow
  have HWS := kide hws
  have HDJ := kide hdj
  have HN := kide hn
  have HLE := kide (fun i => mkAt_le (k := k) (fun x hx => (hws x hx).2) i)
  clear hrow hws hdj hn
  go_enter Try.func12, Try.ntmps12
  go_wp2_with fail
  go_loopw [1, 5] (fun q i wr => ∃ (j : Nat), j ≤ n ∧ i = .int .i64 (j : Int) ∧ q = .int .i64 (mkAt l k j : Int) ∧ Shp w wr ∧ Out lo hi w wr ∧ (∀ i x, i < j → l[i]? = some x → HeldOne wr g i x (mkAt l k i))) (fun _ i _ => n - (intOf i).toNat)
  case atStart => exact ⟨0, Nat.zero_le _, rfl, rfl, Shp.refl _, Out.refl _ _ _, fun i x h => by omega⟩
  case round =>
    obtain ⟨j, hj, rfl, rfl, hs, ho, hh⟩ := hrel
    have HS := kide hs
    have HO := kide ho
    have HH := kide hh
    by_cases hlt : j < n
    · obtain ⟨x, gx⟩ : ∃ x, l[j]? = some x := ⟨l[j]'(by rw [HN.out]; exact hlt), List.getElem?_eq_getElem _⟩
      obtain ⟨cu, hg, r⟩ := HROW.out.shp hs
      obtain ⟨⟨x0, q0⟩, ⟨x1, q1⟩, ⟨x2, q2⟩, q3⟩ := r j x gx
      obtain ⟨hwx, hlx⟩ := HWS.out x (List.mem_of_getElem? gx)
      have hKb := HLE.out j
      have hst : mkAt l k (j + 1) = mkAt l k j + 3 + x.ct.ws.length := by simp [mkAt, lnAt, gx]
      have HST := kide hst
      have HME := kide (fun i => HLE.out i)
      generalize hKK : mkAt l k j = K at *
      have HKK := kide hKK
      have hKb2 : K ≤ 8000000000000000000 := by omega
      have cell := fun o => cell_of_row wr g o cu _ _ hg
      have p0 : wr.cell? ⟨g, j * 4, none⟩ = some (.int .i64 x0) := by rw [cell]; exact q0
      have p1 : wr.cell? ⟨g, j * 4 + 1, none⟩ = some (.int .i64 x1) := by rw [cell]; exact q1
      have p2 : wr.cell? ⟨g, j * 4 + 2, none⟩ = some (.int .i64 x2) := by rw [cell]; exact q2
      have p3 : wr.cell? ⟨g, j * 4 + 3, none⟩ = some (.slice x.a x.ct.ws.length x.c) := by rw [cell]; exact q3
      have r0 := frozen_of_row wr g (j * 4) _ _ hg
      have r1 := frozen_of_row wr g (j * 4 + 1) _ _ hg
      have r2 := frozen_of_row wr g (j * 4 + 2) _ _ hg
      have i0 : (j : Int) < (n : Int) := by omega
      have s1 := Shp.set p0 (K : Int)
      have hgA := heap_setCell_same wr g (j * 4) _ _ (.int .i64 (K : Int)) hg
      have p1' : (wr.setCell ⟨g, j * 4, none⟩ (.int .i64 (K : Int))).cell? ⟨g, j * 4 + 1, none⟩ = some (.int .i64 x1) := by rw [cell_ne hg _ (by omega)]; exact p1
      have s2 := s1.trans (Shp.set p1' ((K : Int) + 1))
      have hgB := heap_setCell_same _ g (j * 4 + 1) _ _ (.int .i64 ((K : Int) + 1)) hgA
      have p2' : ((wr.setCell ⟨g, j * 4, none⟩ (.int .i64 (K : Int))).setCell ⟨g, j * 4 + 1, none⟩ (.int .i64 ((K : Int) + 1))).cell? ⟨g, j * 4 + 2, none⟩ = some (.int .i64 x2) := by rw [cell_ne hgA _ (by omega), cell_ne hg _ (by omega)]; exact p2
      have s3 := s2.trans (Shp.set p2' ((K : Int) + 1 + 1))
      have hgC := heap_setCell_same _ g (j * 4 + 2) _ _ (.int .i64 ((K : Int) + 1 + 1)) hgB
      have S3 := kide (hs.trans s3)
      have O3 := kide (((ho.set hg1 hg2 (.int .i64 (K : Int)) (o := j * 4)).set hg1 hg2 (.int .i64 ((K : Int) + 1)) (o := j * 4 + 1)).set hg1 hg2 (.int .i64 ((K : Int) + 1 + 1)) (o := j * 4 + 2))
      have hM := markU_ex lo hi x.c (K + 3) x _ (hwx.shp S3.out) hlx (by omega)
      rw [show ((K + 3 : Nat) : Int) = (K : Int) + 1 + 1 + 1 by omega] at hM
      have HM := kide hM
      -- what the three writes leave
      have C3 : Hid (∀ o, o ≠ j * 4 → o ≠ j * 4 + 1 → o ≠ j * 4 + 2 → (((wr.setCell ⟨g, j * 4, none⟩ (.int .i64 (K : Int))).setCell ⟨g, j * 4 + 1, none⟩ (.int .i64 ((K : Int) + 1))).setCell ⟨g, j * 4 + 2, none⟩ (.int .i64 ((K : Int) + 1 + 1))).cell? ⟨g, o, none⟩ = wr.cell? ⟨g, o, none⟩) := fun o h0 h1 h2 => by
        rw [cell_ne hgB _ (Ne.symm h2), cell_ne hgA _ (Ne.symm h1), cell_ne hg _ (Ne.symm h0)]
      have D3 : Hid (∀ b, b ≠ g → (((wr.setCell ⟨g, j * 4, none⟩ (.int .i64 (K : Int))).setCell ⟨g, j * 4 + 1, none⟩ (.int .i64 ((K : Int) + 1))).setCell ⟨g, j * 4 + 2, none⟩ (.int .i64 ((K : Int) + 1 + 1))).heap[b]? = wr.heap[b]?) := fun b hb => by
        rw [heap_setCell_other _ _ _ _ (by simpa using hb), heap_setCell_other _ _ _ _ (by simpa using hb), heap_setCell_other _ _ _ _ (by simpa using hb)]
      have E3 : Hid ((((wr.setCell ⟨g, j * 4, none⟩ (.int .i64 (K : Int))).setCell ⟨g, j * 4 + 1, none⟩ (.int .i64 ((K : Int) + 1))).setCell ⟨g, j * 4 + 2, none⟩ (.int .i64 ((K : Int) + 1 + 1))).cell? ⟨g, j * 4, none⟩ = some (.int .i64 (K : Int)) ∧ (((wr.setCell ⟨g, j * 4, none⟩ (.int .i64 (K : Int))).setCell ⟨g, j * 4 + 1, none⟩ (.int .i64 ((K : Int) + 1))).setCell ⟨g, j * 4 + 2, none⟩ (.int .i64 ((K : Int) + 1 + 1))).cell? ⟨g, j * 4 + 1, none⟩ = some (.int .i64 ((K : Int) + 1)) ∧ (((wr.setCell ⟨g, j * 4, none⟩ (.int .i64 (K : Int))).setCell ⟨g, j * 4 + 1, none⟩ (.int .i64 ((K : Int) + 1))).setCell ⟨g, j * 4 + 2, none⟩ (.int .i64 ((K : Int) + 1 + 1))).cell? ⟨g, j * 4 + 2, none⟩ = some (.int .i64 ((K : Int) + 1 + 1))) := by
        have z0 := (Array.getElem?_eq_some_iff.1 q0).1
        have z1 := (Array.getElem?_eq_some_iff.1 q1).1
        have z2 := (Array.getElem?_eq_some_iff.1 q2).1
        refine ⟨?_, ?_, ?_⟩
        · rw [cell_ne hgB _ (by omega), cell_ne hgA _ (by omega), cell_of_row _ g _ _ _ _ hgA, Array.getElem?_setIfInBounds_self_of_lt z0]
        · rw [cell_ne hgB _ (by omega), cell_of_row _ g _ _ _ _ hgB, Array.getElem?_setIfInBounds_self_of_lt (by simpa using z1)]
        · rw [cell_of_row _ g _ _ _ _ hgC, Array.getElem?_setIfInBounds_self_of_lt (by simpa using z2)]
      have NG : Hid (∀ (i : Nat) (y : Yg) (p : Addr), l[i]? = some y → y.ct.ws.length ≠ 0 → y.a = some p → p.block ≠ g) := fun i y p hi h0 hp e => by
        rcases (HWS.out y (List.mem_of_getElem? hi)).1.shp hs with h9 | ⟨h9, cur9, e9, -, -, k9, -⟩
        · exact h0 h9
        · rw [e9] at hp
          cases hp
          simp only [] at e
          subst e
          rw [hg] at k9
          cases k9
      have GX := kide gx
      have PP3 := kide p3
      clear hs ho hh r q0 q1 q2 q3 cell s1 s2 s3 p1' p2' hgA hgB hgC hM gx hwx hst hKK
      go_wp2_with fail
      refine Calls.mono HM.out ?_
      rintro e w5 ⟨rfl, hs5, ho5, hm5, hb5⟩
      have S5 := kide (S3.out.trans hs5)
      have O5 := kide (O3.out.trans ho5)
      have M5 := kide hm5
      have B5 := kide hb5
      clear hs5 ho5 hm5 hb5 HM
      go_wp2_with fail
      go_roundw
      case rel =>
        refine ⟨j + 1, by omega, by go_num, by rw [HST.out]; congr 1, S5.out, O5.out, fun i y hi hy => ?_⟩
        have hgk : w5.heap[g]? = _ := B5.out g (fun p h0 hp => NG.out j x p GX.out h0 hp)
        by_cases hij : i = j
        · subst hij
          rw [GX.out] at hy
          cases hy
          rw [HKK.out]
          refine ⟨(World.cell?_of_block hgk).trans E3.out.1, (World.cell?_of_block hgk).trans (by rw [E3.out.2.1]; congr 2), (World.cell?_of_block hgk).trans (by rw [E3.out.2.2]; congr 2), (World.cell?_of_block hgk).trans ((C3.out _ (by omega) (by omega) (by omega)).trans PP3.out), fun t ht => ?_⟩
          obtain ⟨h, e, hc⟩ := M5.out t ht
          exact ⟨h, e, hc⟩
        · refine (HH.out i y (by omega) hy).keep (fun o h1 h2 => (World.cell?_of_block hgk).trans (C3.out o (by omega) (by omega) (by omega))) (fun p h0 hp => ?_)
          rw [B5.out p.block (fun q h0' hq e => HDJ.out i j y x (by omega) hy GX.out p q hp hq e.symm), D3.out _ (NG.out i y p hy h0 hp)]
      case measure => simp [intOf]; omega
    · have e : j = n := by omega
      subst e
      clear hs ho hh
      go_wp2_with fail
      go_ret
      exact ⟨by rw [HN.out]; rfl, fun i x hi => HH.out i x (by have := (List.getElem?_eq_some_iff.1 hi).1; rw [HN.out] at this; exact this) hi, HO.out⟩

theorem RowSh.of {w : World} {B g n c : Nat} {l : List Yg} (h : OB4 w B (.slice (some ⟨g, 0, none⟩) n c) l) : RowSh w g l ∧ B ≤ g ∧ g < w.heap.size := by
  rcases h.2 with ⟨e, -⟩ | ⟨g', cap, cur, e, hg, hh, hc1, hc2, hsz, hcur⟩
  · cases e
  · cases e
    refine ⟨⟨cur, hh, fun i x hi => ?_⟩, hg, lt_of_block hh⟩
    have hil := (List.getElem?_eq_some_iff.1 hi).1
    obtain ⟨e0, e1, e2, e3⟩ := ygc_get hi
    rw [← hcur] at e0 e1 e2 e3
    rw [List.getElem?_take, if_pos (by omega)] at e0 e1 e2 e3
    simp only [Array.getElem?_toList] at e0 e1 e2 e3
    exact ⟨⟨_, e0⟩, ⟨_, e1⟩, ⟨_, e2⟩, e3⟩

theorem heldU_ex (c k : Nat) (x : Yg) (w : World) (hk : k ≤ 8000000000000000000) (hn : x.ct.ws.length ≤ 1048576) (h : ∀ t, t < x.ct.ws.length → ∃ h, x.a = some ⟨h, 0, none⟩ ∧ w.cell? ⟨h, t, none⟩ = some (.int .u64 ((k + t : Nat) : Int))) :
    Calls Try.prog 28 #[.slice x.a x.ct.ws.length c, .int .i64 (k : Int)] w fun e w' => e = .returned (.int .i64 ((k + x.ct.ws.length : Nat) : Int)) ∧ w' = w := by
  have H := kide h
  clear h
  generalize x.ct.ws.length = n at *
  go_enter Try.func28, Try.ntmps28
  go_wp2_with fail
  go_loop [1, 5] (fun q i => ∃ j : Nat, j ≤ n ∧ i = .int .i64 j ∧ q = .int .i64 ((k + j : Nat) : Int)) (fun _ i => n - (intOf i).toNat)
  case atStart => exact ⟨0, Nat.zero_le _, rfl, rfl⟩
  case round =>
    obtain ⟨j, hj, rfl, rfl⟩ := hrel
    by_cases hlt : j < n
    · obtain ⟨h, e, hcell⟩ := H.out j hlt
      rw [e]
      obtain ⟨K, hK⟩ : ∃ K, k + j = K := ⟨_, rfl⟩
      rw [hK] at hcell ⊢
      have HK := kide hK
      have hKb : K < 9000000000000000000 := by omega
      have hne : ((K : Int) != (K : Int)) = false := by simp
      have i0 : (j : Int) < (n : Int) := by omega
      clear hK
      go_wp2_with fail
      go_round
      case rel => exact ⟨j + 1, by omega, by go_num, by rw [show k + (j + 1) = K + 1 by have := HK.out; omega]; first | go_num | (simp; done)⟩
      case measure => simp [intOf]; omega
    · have e : j = n := by omega
      subst e
      go_wp2_with fail
      go_ret
      exact ⟨rfl, rfl⟩

set_option maxHeartbeats 1000000 in
theorem heldB_any (g c n k : Nat) (l : List Yg) (w : World) (h : HeldB w g l k) (hws : ∀ x ∈ l, x.ct.ws.length ≤ 1048576) (hn : l.length = n) (hn2 : n ≤ 1048576) (hk : k ≤ 1) :
    Calls Try.prog 13 #[.slice (some ⟨g, 0, none⟩) n c, .int .i64 (k : Int)] w fun e w' => e = .returned (.int .i64 (mkAt l k l.length : Int)) ∧ w' = w := by
  have H := kide h
  have HN := kide hn
  have HW := kide hws
  have HLE := kide (fun i => mkAt_le (k := k) hws i)
  clear h hws hn
  go_enter Try.func13, Try.ntmps13
  go_wp2_with fail
  go_loop [1, 5] (fun q i => ∃ j : Nat, j ≤ n ∧ i = .int .i64 j ∧ q = .int .i64 (mkAt l k j : Int)) (fun _ i => n - (intOf i).toNat)
  case atStart => exact ⟨0, Nat.zero_le _, rfl, rfl⟩
  case round =>
    obtain ⟨j, hj, rfl, rfl⟩ := hrel
    by_cases hlt : j < n
    · obtain ⟨x, gx⟩ : ∃ x, l[j]? = some x := ⟨l[j]'(by rw [HN.out]; exact hlt), List.getElem?_eq_getElem _⟩
      obtain ⟨p0, p1, p2, p3, p4⟩ := H.out j x gx
      have hKb := HLE.out j
      have hst : mkAt l k (j + 1) = mkAt l k j + 3 + x.ct.ws.length := by simp [mkAt, lnAt, gx]
      have HST := kide hst
      generalize hKK : mkAt l k j = K at *
      have hKb2 : K ≤ 7000000000000000000 := by omega
      have hU := heldU_ex x.c (K + 3) x w (by omega) (HW.out x (List.mem_of_getElem? gx)) (fun t ht => p4 t ht)
      rw [show ((K + 3 : Nat) : Int) = (K : Int) + 1 + 1 + 1 by omega] at hU
      have HU := kide hU
      rw [show ((K + 1 : Nat) : Int) = (K : Int) + 1 by omega] at p1
      rw [show ((K + 2 : Nat) : Int) = (K : Int) + 1 + 1 by omega] at p2
      have n0 : ((K : Int) != (K : Int)) = false := by simp
      have n1 : ((K : Int) + 1 != (K : Int) + 1) = false := by simp
      have n2 : ((K : Int) + 1 + 1 != (K : Int) + 1 + 1) = false := by simp
      have i0 : (j : Int) < (n : Int) := by omega
      have hp : 0 ≤ (((K + 3 + x.ct.ws.length : Nat) : Int)) := by omega
      clear p4 hU gx hst hKK
      go_wp2_with fail
      refine Calls.mono HU.out ?_
      rintro e w3 ⟨rfl, hw3⟩
      obtain rfl := hw3.symm
      go_wp2_with fail
      go_round
      case rel => exact ⟨j + 1, by omega, by go_num, by rw [HST.out]; first | (congr 1; omega) | rfl⟩
      case measure => simp [intOf]; omega
    · have e : j = n := by omega
      subst e
      go_wp2_with fail
      go_ret
      exact ⟨by rw [HN.out]; rfl, rfl⟩

end Go.Proofs.Ytddgldfjeklhbaa
