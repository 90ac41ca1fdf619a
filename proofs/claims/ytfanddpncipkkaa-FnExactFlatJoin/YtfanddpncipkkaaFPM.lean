/- Segments of one's own are marked, and hold their marks. -/
import Derived.Test.YtfanddpncipkkaaFPK
import Derived.Test.YtfanddpncipkkaaSA
namespace Go.Proofs.Ytfanddpncipkkaa
set_option linter.unusedVariables false
set_option linter.unusedSimpArgs false
open Go.RowKit

def lnAt (l : List Sg) (i : Nat) : Nat := match l[i]? with | some x => x.ct.ws.length | none => 0
/-- The mark at which the i-th begins. -/
def mkAt (l : List Sg) (k : Nat) : Nat → Nat
  | 0 => k
  | i + 1 => mkAt l k i + 4 + lnAt l i
theorem mkAt_le {l : List Sg} {k : Nat} (h : ∀ x ∈ l, x.ct.ws.length ≤ 1048576) : ∀ i, mkAt l k i ≤ k + i * 1048580
  | 0 => by simp [mkAt]
  | i + 1 => by
    have h1 := mkAt_le (k := k) h i
    have h2 : lnAt l i ≤ 1048576 := by
      unfold lnAt
      cases e : l[i]? with
      | none => simp
      | some x => exact h x (List.mem_of_getElem? e)
    unfold mkAt
    omega

/-- Words in a block of words, or none. -/
def WSh (w : World) (lo hi : Nat) (x : Sg) : Prop := x.ct.ws.length = 0 ∨ ∃ h cur, x.a = some ⟨h, 0, none⟩ ∧ lo ≤ h ∧ h < hi ∧ w.heap[h]? = some (.cells cur 94 (0, 0)) ∧ ∀ t, t < x.ct.ws.length → ∃ y : Int, cur[t]? = some (.int .u64 y)
theorem WSh.of {w : World} {lo hi : Nat} {x : Sg} (h : Nw w lo x.a x.ct.ws) (hh : w.heap.size ≤ hi) : WSh w lo hi x := by
  rcases h with ⟨h1, -⟩ | ⟨g, cur, h1, h2, h3, h4⟩
  · exact .inl (by rw [h1]; rfl)
  · exact .inr ⟨g, cur, h1, h2, Nat.lt_of_lt_of_le (lt_of_block h3) hh, h3, fun t ht => ⟨_, h4 t ht⟩⟩
theorem WSh.shp {w w' : World} {lo hi : Nat} {x : Sg} (h : WSh w lo hi x) (hs : Shp w w') : WSh w' lo hi x := by
  rcases h with h | ⟨g, cur, h1, h2, h3, h4, h5⟩
  · exact .inl h
  · obtain ⟨cur', e', r⟩ := hs g cur _ h4
    exact .inr ⟨g, cur', h1, h2, h3, e', fun t ht => keep_int r (h5 t ht)⟩

/-- The i-th holds its marks. -/
def HeldOne (w : World) (g i : Nat) (x : Sg) (K : Nat) : Prop :=
  w.cell? ⟨g, i * 5, none⟩ = some (.int .i64 (K : Int)) ∧ w.cell? ⟨g, i * 5 + 1, none⟩ = some (.int .i64 ((K + 1 : Nat) : Int)) ∧ w.cell? ⟨g, i * 5 + 2, none⟩ = some (.int .i64 ((K + 2 : Nat) : Int)) ∧ w.cell? ⟨g, i * 5 + 3, none⟩ = some (.int .i64 ((K + 3 : Nat) : Int)) ∧ w.cell? ⟨g, i * 5 + 4, none⟩ = some (.slice x.a x.ct.ws.length x.c) ∧
  (∀ t, t < x.ct.ws.length → ∃ h, x.a = some ⟨h, 0, none⟩ ∧ w.cell? ⟨h, t, none⟩ = some (.int .u64 ((K + 4 + t : Nat) : Int)))
theorem HeldOne.keep {w w' : World} {g i K : Nat} {x : Sg} (h : HeldOne w g i x K) (hr : ∀ o, i * 5 ≤ o → o < i * 5 + 5 → w'.cell? ⟨g, o, none⟩ = w.cell? ⟨g, o, none⟩) (hw : ∀ p, x.ct.ws.length ≠ 0 → x.a = some p → w'.heap[p.block]? = w.heap[p.block]?) : HeldOne w' g i x K := by
  obtain ⟨h0, h1, h2, h3, h5, h4⟩ := h
  refine ⟨by rw [hr _ (by omega) (by omega)]; exact h0, by rw [hr _ (by omega) (by omega)]; exact h1, by rw [hr _ (by omega) (by omega)]; exact h2, by rw [hr _ (by omega) (by omega)]; exact h3, by rw [hr _ (by omega) (by omega)]; exact h5, fun t ht => ?_⟩
  obtain ⟨b, e, hc⟩ := h4 t ht
  exact ⟨b, e, (World.cell?_of_block (a := ⟨b, t, none⟩) (show w'.heap[b]? = w.heap[b]? from hw ⟨b, 0, none⟩ (by omega) e)).trans hc⟩
def HeldB (w : World) (g : Nat) (l : List Sg) (k : Nat) : Prop := ∀ i x, l[i]? = some x → HeldOne w g i x (mkAt l k i)
theorem HeldB.later {w w' : World} {g k : Nat} {l : List Sg} (h : HeldB w g l k) (hb : Below w.heap.size w w') : HeldB w' g l k := fun i x hi => by
  have h1 := h i x hi
  refine h1.keep (fun o _ _ => kcell hb g o (block_lt_of_cell h1.1)) (fun p hp e => ?_)
  obtain ⟨b, e', hc⟩ := h1.2.2.2.2.2 0 (by omega)
  rw [e'] at e
  cases e
  exact hb.block _ (block_lt_of_cell hc)
theorem cell_ne {w : World} {g o o' : Nat} {cur : Array Value} {t : TypeId} (hg : w.heap[g]? = some (.cells cur t (0, 0))) (v : Value) (h : o ≠ o') : (w.setCell ⟨g, o, none⟩ v).cell? ⟨g, o', none⟩ = w.cell? ⟨g, o', none⟩ := by
  rw [cell_of_row _ g o' _ _ _ (heap_setCell_same w g o _ _ v hg), cell_of_row w g o' _ _ _ hg, Array.getElem?_setIfInBounds_ne h]

set_option maxHeartbeats 1000000 in
theorem markU_ex (lo hi c k : Nat) (x : Sg) (w : World) (h : WSh w lo hi x) (hn : x.ct.ws.length ≤ 1048576) (hk : k ≤ 8000000000000000000) :
    Calls Try.prog 37 #[.slice x.a x.ct.ws.length c, .int .i64 (k : Int)] w fun e w' => e = .returned (.int .i64 ((k + x.ct.ws.length : Nat) : Int)) ∧ Shp w w' ∧ Out lo hi w w' ∧ (∀ t, t < x.ct.ws.length → ∃ h, x.a = some ⟨h, 0, none⟩ ∧ w'.cell? ⟨h, t, none⟩ = some (.int .u64 ((k + t : Nat) : Int))) ∧ (∀ b, (∀ p, x.ct.ws.length ≠ 0 → x.a = some p → p.block ≠ b) → w'.heap[b]? = w.heap[b]?) := by
  have H := kide h
  clear h
  obtain ⟨n, hnn⟩ : ∃ n, x.ct.ws.length = n := ⟨_, rfl⟩
  rw [hnn]
  rw [hnn] at hn
  have HNN := kide hnn
  clear hnn
  go_enter Try.func37, Try.ntmps37
  go_wp2_with fail
  go_loopw [1, 5] (fun q i wr => ∃ (j : Nat), j ≤ n ∧ i = .int .i64 (j : Int) ∧ q = .int .i64 ((k + j : Nat) : Int) ∧ Shp w wr ∧ Out lo hi w wr ∧ (∀ t, t < j → ∃ h, x.a = some ⟨h, 0, none⟩ ∧ wr.cell? ⟨h, t, none⟩ = some (.int .u64 ((k + t : Nat) : Int))) ∧ (∀ b, (∀ p, n ≠ 0 → x.a = some p → p.block ≠ b) → wr.heap[b]? = w.heap[b]?)) (fun _ i _ => n - (intOf i).toNat)
  case atStart => exact ⟨0, Nat.zero_le _, rfl, rfl, Shp.refl _, Out.refl _ _ _, fun t h => by omega, fun _ _ => rfl⟩
  case round =>
    obtain ⟨j, hj, rfl, rfl, hs, ho, hm, hb⟩ := hrel
    have HS := kide hs
    have HO := kide ho
    have HM := kide hm
    have HB := kide hb
    by_cases hlt : j < n
    · have hsh := H.out.shp hs
      rcases hsh with h0 | ⟨g, cu, e', hl, hh, hg, hc⟩
      · have := HNN.out; omega
      obtain ⟨y0, hy0⟩ := hc j (by rw [HNN.out]; exact hlt)
      have q0 : wr.cell? ⟨g, j, none⟩ = some (.int .u64 y0) := by rw [cell_of_row wr g j _ _ _ hg]; exact hy0
      have r0 := frozen_of_row wr g j _ _ hg
      obtain ⟨K, hK⟩ : ∃ K, k + j = K := ⟨_, rfl⟩
      rw [hK]
      have HK := kide hK
      have hKb : K < 9000000000000000000 := by omega
      have i0 : (j : Int) < (n : Int) := by omega
      have HS2 := kide (hs.trans (Shp.set q0 (K : Int)))
      have HO2 := kide (ho.set hl hh (.int .u64 (K : Int)) (o := j))
      have HM2 : Hid (∀ t, t < j + 1 → ∃ h, x.a = some ⟨h, 0, none⟩ ∧ (wr.setCell ⟨g, j, none⟩ (.int .u64 (K : Int))).cell? ⟨h, t, none⟩ = some (.int .u64 ((k + t : Nat) : Int))) := fun t ht => by
        by_cases et : t = j
        · subst et
          refine ⟨g, e', ?_⟩
          rw [cell_of_row _ g t _ _ _ (heap_setCell_same wr g t _ _ _ hg), Array.getElem?_setIfInBounds_self_of_lt (Array.getElem?_eq_some_iff.1 hy0).1, HK.out]
        · obtain ⟨h, e, hc'⟩ := hm t (by omega)
          rw [e'] at e
          cases e
          exact ⟨g, e', by rw [cell_ne hg _ (fun h => et h.symm)]; exact hc'⟩
      have HB2 : Hid (∀ b, (∀ p, n ≠ 0 → x.a = some p → p.block ≠ b) → (wr.setCell ⟨g, j, none⟩ (.int .u64 (K : Int))).heap[b]? = w.heap[b]?) := fun b h => by
        rw [heap_setCell_other _ _ _ _ (by simpa using (h _ (by omega) e').symm)]
        exact hb b h
      rw [e'] at HM2 HB2
      rw [e']
      clear hc hs ho hK hy0 hg hm hb
      go_wp2_with fail
      go_roundw
      case rel => exact ⟨j + 1, by omega, by go_num, by rw [show k + (j + 1) = K + 1 by have := HK.out; omega]; first | go_num | (simp; done), HS2.out, HO2.out, HM2.out, HB2.out⟩
      case measure => simp [intOf]; omega
    · have e : j = n := by omega
      subst e
      clear hs ho hm hb
      go_wp2_with fail
      go_ret
      exact ⟨rfl, HS.out, HO.out, HM.out, HB.out⟩

/-- The row itself, in a block of segments. -/
def RowSh (w : World) (g : Nat) (l : List Sg) : Prop := ∃ cur, w.heap[g]? = some (.cells cur 47 (0, 0)) ∧ ∀ i x, l[i]? = some x → (∃ y : Int, cur[i * 5]? = some (.int .i64 y)) ∧ (∃ y : Int, cur[i * 5 + 1]? = some (.int .i64 y)) ∧ (∃ y : Int, cur[i * 5 + 2]? = some (.int .i64 y)) ∧ (∃ y : Int, cur[i * 5 + 3]? = some (.int .i64 y)) ∧ cur[i * 5 + 4]? = some (.slice x.a x.ct.ws.length x.c)
theorem RowSh.shp {w w' : World} {g : Nat} {l : List Sg} (h : RowSh w g l) (hs : Shp w w') : RowSh w' g l := by
  obtain ⟨cur, hg, r⟩ := h
  obtain ⟨cur', e', r'⟩ := hs g cur _ hg
  refine ⟨cur', e', fun i x hi => ?_⟩
  obtain ⟨h1, h2, h3, h5, h4⟩ := r i x hi
  obtain ⟨v', j1, j2⟩ := r' _ _ h4
  exact ⟨keep_int r' h1, keep_int r' h2, keep_int r' h3, keep_int r' h5, by rw [← j2.slice]; exact j1⟩

def RetMk (w : World) (lo hi g : Nat) (l : List Sg) (k : Nat) (e : Ending) (w' : World) : Prop := e = .returned (.int .i64 (mkAt l k l.length : Int)) ∧ HeldB w' g l k ∧ Out lo hi w w'

set_option maxHeartbeats 4000000 in
theorem markB_own (lo hi g c n k : Nat) (l : List Sg) (w : World) (hrow : RowSh w g l) (hg1 : lo ≤ g) (hg2 : g < hi) (hws : ∀ x ∈ l, WSh w lo hi x ∧ x.ct.ws.length ≤ 1048576) (hdj : Dj l) (hn : l.length = n) (hn2 : n ≤ 1048576) (hk : k ≤ 1) :
    Calls Try.prog 15 #[.slice (some ⟨g, 0, none⟩) n c, .int .i64 (k : Int)] w (RetMk w lo hi g l k) := by
  have HROW := kide hrow
  have HWS := kide hws
  have HDJ := kide hdj
  have HN := kide hn
  have HLE := kide (fun i => mkAt_le (k := k) (fun x hx => (hws x hx).2) i)
  clear hrow hws hdj hn
  go_enter Try.func15, Try.ntmps15
  go_wp2_with fail
  go_loopw [1, 5] (fun q i wr => ∃ (j : Nat), j ≤ n ∧ i = .int .i64 (j : Int) ∧ q = .int .i64 (mkAt l k j : Int) ∧ Shp w wr ∧ Out lo hi w wr ∧ (∀ i x, i < j → l[i]? = some x → HeldOne wr g i x (mkAt l k i))) (fun _ i _ => n - (intOf i).toNat)
  case atStart => exact ⟨0, Nat.zero_le _, rfl, rfl, Shp.refl _, Out.refl _ _ _, fun i x h => by omega⟩
  case round =>
    obtain ⟨j, hj, rfl, rfl, hs, ho, hh⟩ := hrel
    have HS := kide hs
    have HO := kide ho
    have HH := kide hh
    by_cases hlt : j < n
    · obtain ⟨x, gx⟩ : ∃ x, l[j]? = some x := ⟨l[j]'(by rw [HN.out]; exact hlt), List.getElem?_eq_getElem _⟩
      obtain ⟨cu, hg, r⟩ := HROW.out.shp hs
      obtain ⟨⟨x0, q0⟩, ⟨x1, q1⟩, ⟨x2, q2⟩, ⟨x3, q3⟩, q4⟩ := r j x gx
      obtain ⟨hwx, hlx⟩ := HWS.out x (List.mem_of_getElem? gx)
      have hKb := HLE.out j
      have hst : mkAt l k (j + 1) = mkAt l k j + 4 + x.ct.ws.length := by simp [mkAt, lnAt, gx]
      have HST := kide hst
      have HME := kide (fun i => HLE.out i)
      generalize hKK : mkAt l k j = K at *
      have HKK := kide hKK
      have hKb2 : K ≤ 8000000000000000000 := by omega
      have cell := fun o => cell_of_row wr g o cu _ _ hg
      have p0 : wr.cell? ⟨g, j * 5, none⟩ = some (.int .i64 x0) := by rw [cell]; exact q0
      have p1 : wr.cell? ⟨g, j * 5 + 1, none⟩ = some (.int .i64 x1) := by rw [cell]; exact q1
      have p2 : wr.cell? ⟨g, j * 5 + 2, none⟩ = some (.int .i64 x2) := by rw [cell]; exact q2
      have p3 : wr.cell? ⟨g, j * 5 + 3, none⟩ = some (.int .i64 x3) := by rw [cell]; exact q3
      have p4 : wr.cell? ⟨g, j * 5 + 4, none⟩ = some (.slice x.a x.ct.ws.length x.c) := by rw [cell]; exact q4
      have r0 := frozen_of_row wr g (j * 5) _ _ hg
      have r1 := frozen_of_row wr g (j * 5 + 1) _ _ hg
      have r2 := frozen_of_row wr g (j * 5 + 2) _ _ hg
      have r3 := frozen_of_row wr g (j * 5 + 3) _ _ hg
      have i0 : (j : Int) < (n : Int) := by omega
      have s1 := Shp.set p0 (K : Int)
      have hgA := heap_setCell_same wr g (j * 5) _ _ (.int .i64 (K : Int)) hg
      have p1' : (wr.setCell ⟨g, j * 5, none⟩ (.int .i64 (K : Int))).cell? ⟨g, j * 5 + 1, none⟩ = some (.int .i64 x1) := by rw [cell_ne hg _ (by omega)]; exact p1
      have s2 := s1.trans (Shp.set p1' ((K : Int) + 1))
      have hgB := heap_setCell_same _ g (j * 5 + 1) _ _ (.int .i64 ((K : Int) + 1)) hgA
      have p2' : ((wr.setCell ⟨g, j * 5, none⟩ (.int .i64 (K : Int))).setCell ⟨g, j * 5 + 1, none⟩ (.int .i64 ((K : Int) + 1))).cell? ⟨g, j * 5 + 2, none⟩ = some (.int .i64 x2) := by rw [cell_ne hgA _ (by omega), cell_ne hg _ (by omega)]; exact p2
      have s3 := s2.trans (Shp.set p2' ((K : Int) + 1 + 1))
      have hgC := heap_setCell_same _ g (j * 5 + 2) _ _ (.int .i64 ((K : Int) + 1 + 1)) hgB
      have p3' : (((wr.setCell ⟨g, j * 5, none⟩ (.int .i64 (K : Int))).setCell ⟨g, j * 5 + 1, none⟩ (.int .i64 ((K : Int) + 1))).setCell ⟨g, j * 5 + 2, none⟩ (.int .i64 ((K : Int) + 1 + 1))).cell? ⟨g, j * 5 + 3, none⟩ = some (.int .i64 x3) := by rw [cell_ne hgB _ (by omega), cell_ne hgA _ (by omega), cell_ne hg _ (by omega)]; exact p3
      have s4 := s3.trans (Shp.set p3' ((K : Int) + 1 + 1 + 1))
      have hgD := heap_setCell_same _ g (j * 5 + 3) _ _ (.int .i64 ((K : Int) + 1 + 1 + 1)) hgC
      have S3 := kide (hs.trans s4)
      have O3 := kide ((((ho.set hg1 hg2 (.int .i64 (K : Int)) (o := j * 5)).set hg1 hg2 (.int .i64 ((K : Int) + 1)) (o := j * 5 + 1)).set hg1 hg2 (.int .i64 ((K : Int) + 1 + 1)) (o := j * 5 + 2)).set hg1 hg2 (.int .i64 ((K : Int) + 1 + 1 + 1)) (o := j * 5 + 3))
      have hM := markU_ex lo hi x.c (K + 4) x _ (hwx.shp S3.out) hlx (by omega)
      rw [show ((K + 4 : Nat) : Int) = (K : Int) + 1 + 1 + 1 + 1 by omega] at hM
      have HM := kide hM
      have C3 : Hid (∀ o, o ≠ j * 5 → o ≠ j * 5 + 1 → o ≠ j * 5 + 2 → o ≠ j * 5 + 3 → ((((wr.setCell ⟨g, j * 5, none⟩ (.int .i64 (K : Int))).setCell ⟨g, j * 5 + 1, none⟩ (.int .i64 ((K : Int) + 1))).setCell ⟨g, j * 5 + 2, none⟩ (.int .i64 ((K : Int) + 1 + 1))).setCell ⟨g, j * 5 + 3, none⟩ (.int .i64 ((K : Int) + 1 + 1 + 1))).cell? ⟨g, o, none⟩ = wr.cell? ⟨g, o, none⟩) := fun o h0 h1 h2 h3 => by
        rw [cell_ne hgC _ (Ne.symm h3), cell_ne hgB _ (Ne.symm h2), cell_ne hgA _ (Ne.symm h1), cell_ne hg _ (Ne.symm h0)]
      have D3 : Hid (∀ b, b ≠ g → ((((wr.setCell ⟨g, j * 5, none⟩ (.int .i64 (K : Int))).setCell ⟨g, j * 5 + 1, none⟩ (.int .i64 ((K : Int) + 1))).setCell ⟨g, j * 5 + 2, none⟩ (.int .i64 ((K : Int) + 1 + 1))).setCell ⟨g, j * 5 + 3, none⟩ (.int .i64 ((K : Int) + 1 + 1 + 1))).heap[b]? = wr.heap[b]?) := fun b hb => by
        rw [heap_setCell_other _ _ _ _ (by simpa using hb), heap_setCell_other _ _ _ _ (by simpa using hb), heap_setCell_other _ _ _ _ (by simpa using hb), heap_setCell_other _ _ _ _ (by simpa using hb)]
      have E3 : Hid (((((wr.setCell ⟨g, j * 5, none⟩ (.int .i64 (K : Int))).setCell ⟨g, j * 5 + 1, none⟩ (.int .i64 ((K : Int) + 1))).setCell ⟨g, j * 5 + 2, none⟩ (.int .i64 ((K : Int) + 1 + 1))).setCell ⟨g, j * 5 + 3, none⟩ (.int .i64 ((K : Int) + 1 + 1 + 1))).cell? ⟨g, j * 5, none⟩ = some (.int .i64 (K : Int)) ∧ ((((wr.setCell ⟨g, j * 5, none⟩ (.int .i64 (K : Int))).setCell ⟨g, j * 5 + 1, none⟩ (.int .i64 ((K : Int) + 1))).setCell ⟨g, j * 5 + 2, none⟩ (.int .i64 ((K : Int) + 1 + 1))).setCell ⟨g, j * 5 + 3, none⟩ (.int .i64 ((K : Int) + 1 + 1 + 1))).cell? ⟨g, j * 5 + 1, none⟩ = some (.int .i64 ((K : Int) + 1)) ∧ ((((wr.setCell ⟨g, j * 5, none⟩ (.int .i64 (K : Int))).setCell ⟨g, j * 5 + 1, none⟩ (.int .i64 ((K : Int) + 1))).setCell ⟨g, j * 5 + 2, none⟩ (.int .i64 ((K : Int) + 1 + 1))).setCell ⟨g, j * 5 + 3, none⟩ (.int .i64 ((K : Int) + 1 + 1 + 1))).cell? ⟨g, j * 5 + 2, none⟩ = some (.int .i64 ((K : Int) + 1 + 1)) ∧ ((((wr.setCell ⟨g, j * 5, none⟩ (.int .i64 (K : Int))).setCell ⟨g, j * 5 + 1, none⟩ (.int .i64 ((K : Int) + 1))).setCell ⟨g, j * 5 + 2, none⟩ (.int .i64 ((K : Int) + 1 + 1))).setCell ⟨g, j * 5 + 3, none⟩ (.int .i64 ((K : Int) + 1 + 1 + 1))).cell? ⟨g, j * 5 + 3, none⟩ = some (.int .i64 ((K : Int) + 1 + 1 + 1))) := by
        have z0 := (Array.getElem?_eq_some_iff.1 q0).1
        have z1 := (Array.getElem?_eq_some_iff.1 q1).1
        have z2 := (Array.getElem?_eq_some_iff.1 q2).1
        have z3 := (Array.getElem?_eq_some_iff.1 q3).1
        refine ⟨?_, ?_, ?_, ?_⟩
        · rw [cell_ne hgC _ (by omega), cell_ne hgB _ (by omega), cell_ne hgA _ (by omega), cell_of_row _ g _ _ _ _ hgA, Array.getElem?_setIfInBounds_self_of_lt (z0)]
        · rw [cell_ne hgC _ (by omega), cell_ne hgB _ (by omega), cell_of_row _ g _ _ _ _ hgB, Array.getElem?_setIfInBounds_self_of_lt (by simpa using z1)]
        · rw [cell_ne hgC _ (by omega), cell_of_row _ g _ _ _ _ hgC, Array.getElem?_setIfInBounds_self_of_lt (by simpa using z2)]
        · rw [cell_of_row _ g _ _ _ _ hgD, Array.getElem?_setIfInBounds_self_of_lt (by simpa using z3)]
      have NG : Hid (∀ (i : Nat) (y : Sg) (p : Addr), l[i]? = some y → y.ct.ws.length ≠ 0 → y.a = some p → p.block ≠ g) := fun i y p hi h0 hp e => by
        rcases (HWS.out y (List.mem_of_getElem? hi)).1.shp hs with h9 | ⟨h9, cur9, e9, -, -, k9, -⟩
        · exact h0 h9
        · rw [e9] at hp
          cases hp
          simp only [] at e
          subst e
          rw [hg] at k9
          cases k9
      have GX := kide gx
      have PP3 := kide p4
      clear hs ho hh r q0 q1 q2 q3 q4 cell s1 s2 s3 s4 p1' p2' p3' hgA hgB hgC hgD hM gx hwx hst hKK
      go_wp2_with fail
      refine Calls.mono HM.out ?_
      rintro e w5 ⟨rfl, hs5, ho5, hm5, hb5⟩
      have S5 := kide (S3.out.trans hs5)
      have O5 := kide (O3.out.trans ho5)
      have M5 := kide hm5
      have B5 := kide hb5
      clear hs5 ho5 hm5 hb5 HM
      go_wp2_with fail
      go_roundw
      case rel =>
        refine ⟨j + 1, by omega, by go_num, by rw [HST.out]; congr 1, S5.out, O5.out, fun i y hi hy => ?_⟩
        have hgk : w5.heap[g]? = _ := B5.out g (fun p h0 hp => NG.out j x p GX.out h0 hp)
        by_cases hij : i = j
        · subst hij
          rw [GX.out] at hy
          cases hy
          rw [HKK.out]
          refine ⟨(World.cell?_of_block hgk).trans E3.out.1, (World.cell?_of_block hgk).trans (by rw [E3.out.2.1]; congr 2), (World.cell?_of_block hgk).trans (by rw [E3.out.2.2.1]; congr 2), (World.cell?_of_block hgk).trans (by rw [E3.out.2.2.2]; congr 2), (World.cell?_of_block hgk).trans ((C3.out _ (by omega) (by omega) (by omega) (by omega)).trans PP3.out), fun t ht => ?_⟩
          obtain ⟨h, e, hc⟩ := M5.out t ht
          exact ⟨h, e, hc⟩
        · refine (HH.out i y (by omega) hy).keep (fun o h1 h2 => (World.cell?_of_block hgk).trans (C3.out o (by omega) (by omega) (by omega) (by omega))) (fun p h0 hp => ?_)
          rw [B5.out p.block (fun q h0' hq e => HDJ.out i j y x (by omega) hy GX.out p q hp hq e.symm), D3.out _ (NG.out i y p hy h0 hp)]
      case measure => simp [intOf]; omega
    · have e : j = n := by omega
      subst e
      clear hs ho hh
      go_wp2_with fail
      go_ret
      exact ⟨by rw [HN.out]; rfl, fun i x hi => HH.out i x (by have := (List.getElem?_eq_some_iff.1 hi).1; rw [HN.out] at this; exact this) hi, HO.out⟩

theorem sgc_get : ∀ {l : List Sg} {i : Nat} {x : Sg}, l[i]? = some x → (sgc l)[i * 5]? = some (.int .i64 x.ct.v) ∧ (sgc l)[i * 5 + 1]? = some (.int .i64 x.ct.lo) ∧ (sgc l)[i * 5 + 2]? = some (.int .i64 x.ct.wd) ∧ (sgc l)[i * 5 + 3]? = some (.int .i64 x.ct.bw) ∧ (sgc l)[i * 5 + 4]? = some (.slice x.a x.ct.ws.length x.c)
  | [], i, x, h => by simp at h
  | y :: t, 0, x, h => by simp at h; subst h; simp [sgc]
  | y :: t, i + 1, x, h => by
    simp only [List.getElem?_cons_succ] at h
    have := sgc_get h
    rw [show (i + 1) * 5 = i * 5 + 5 by omega, show i * 5 + 5 + 1 = (i * 5 + 1) + 5 by omega, show i * 5 + 5 + 2 = (i * 5 + 2) + 5 by omega, show i * 5 + 5 + 3 = (i * 5 + 3) + 5 by omega, show i * 5 + 5 + 4 = (i * 5 + 4) + 5 by omega]
    simpa [sgc] using this
theorem RowSh.of {w : World} {B g n c : Nat} {l : List Sg} (h : OS5 w B (.slice (some ⟨g, 0, none⟩) n c) l) : RowSh w g l ∧ B ≤ g ∧ g < w.heap.size := by
  rcases h.2 with ⟨e, -⟩ | ⟨g', cap, cur, e, hg, hh, hc1, hc2, hsz, hcur⟩
  · cases e
  · cases e
    refine ⟨⟨cur, hh, fun i x hi => ?_⟩, hg, lt_of_block hh⟩
    have hil := (List.getElem?_eq_some_iff.1 hi).1
    obtain ⟨e0, e1, e2, e3, e4⟩ := sgc_get hi
    rw [← hcur] at e0 e1 e2 e3 e4
    rw [List.getElem?_take, if_pos (by omega)] at e0 e1 e2 e3 e4
    simp only [Array.getElem?_toList] at e0 e1 e2 e3 e4
    exact ⟨⟨_, e0⟩, ⟨_, e1⟩, ⟨_, e2⟩, ⟨_, e3⟩, e4⟩

theorem heldU_ex (c k : Nat) (x : Sg) (w : World) (hk : k ≤ 8000000000000000000) (hn : x.ct.ws.length ≤ 1048576) (h : ∀ t, t < x.ct.ws.length → ∃ h, x.a = some ⟨h, 0, none⟩ ∧ w.cell? ⟨h, t, none⟩ = some (.int .u64 ((k + t : Nat) : Int))) :
    Calls Try.prog 38 #[.slice x.a x.ct.ws.length c, .int .i64 (k : Int)] w fun e w' => e = .returned (.int .i64 ((k + x.ct.ws.length : Nat) : Int)) ∧ w' = w := by
  have H := kide h
  clear h
  generalize x.ct.ws.length = n at *
  go_enter Try.func38, Try.ntmps38
  go_wp2_with fail
  go_loop [1, 5] (fun q i => ∃ j : Nat, j ≤ n ∧ i = .int .i64 j ∧ q = .int .i64 ((k + j : Nat) : Int)) (fun _ i => n - (intOf i).toNat)
  case atStart => exact ⟨0, Nat.zero_le _, rfl, rfl⟩
  case round =>
    obtain ⟨j, hj, rfl, rfl⟩ := hrel
    by_cases hlt : j < n
    · obtain ⟨h, e, hcell⟩ := H.out j hlt
      rw [e]
      obtain ⟨K, hK⟩ : ∃ K, k + j = K := ⟨_, rfl⟩
      rw [hK] at hcell ⊢
      have HK := kide hK
      have hKb : K < 9000000000000000000 := by omega
      have hne : ((K : Int) != (K : Int)) = false := by simp
      have i0 : (j : Int) < (n : Int) := by omega
      clear hK
      go_wp2_with fail
      go_round
      case rel => exact ⟨j + 1, by omega, by go_num, by rw [show k + (j + 1) = K + 1 by have := HK.out; omega]; first | go_num | (simp; done)⟩
      case measure => simp [intOf]; omega
    · have e : j = n := by omega
      subst e
      go_wp2_with fail
      go_ret
      exact ⟨rfl, rfl⟩

set_option maxHeartbeats 1000000 in
theorem heldB_any (g c n k : Nat) (l : List Sg) (w : World) (h : HeldB w g l k) (hws : ∀ x ∈ l, x.ct.ws.length ≤ 1048576) (hn : l.length = n) (hn2 : n ≤ 1048576) (hk : k ≤ 1) :
    Calls Try.prog 16 #[.slice (some ⟨g, 0, none⟩) n c, .int .i64 (k : Int)] w fun e w' => e = .returned (.int .i64 (mkAt l k l.length : Int)) ∧ w' = w := by
  have H := kide h
  have HN := kide hn
  have HW := kide hws
  have HLE := kide (fun i => mkAt_le (k := k) hws i)
  clear h hws hn
  go_enter Try.func16, Try.ntmps16
  go_wp2_with fail
  go_loop [1, 5] (fun q i => ∃ j : Nat, j ≤ n ∧ i = .int .i64 j ∧ q = .int .i64 (mkAt l k j : Int)) (fun _ i => n - (intOf i).toNat)
  case atStart => exact ⟨0, Nat.zero_le _, rfl, rfl⟩
  case round =>
    obtain ⟨j, hj, rfl, rfl⟩ := hrel
    by_cases hlt : j < n
    · obtain ⟨x, gx⟩ : ∃ x, l[j]? = some x := ⟨l[j]'(by rw [HN.out]; exact hlt), List.getElem?_eq_getElem _⟩
      obtain ⟨p0, p1, p2, p3, p5, p4⟩ := H.out j x gx
      have hKb := HLE.out j
      have hst : mkAt l k (j + 1) = mkAt l k j + 4 + x.ct.ws.length := by simp [mkAt, lnAt, gx]
      have HST := kide hst
      generalize hKK : mkAt l k j = K at *
      have hKb2 : K ≤ 7000000000000000000 := by omega
      have hU := heldU_ex x.c (K + 4) x w (by omega) (HW.out x (List.mem_of_getElem? gx)) (fun t ht => p4 t ht)
      rw [show ((K + 4 : Nat) : Int) = (K : Int) + 1 + 1 + 1 + 1 by omega] at hU
      have HU := kide hU
      rw [show ((K + 1 : Nat) : Int) = (K : Int) + 1 by omega] at p1
      rw [show ((K + 2 : Nat) : Int) = (K : Int) + 1 + 1 by omega] at p2
      rw [show ((K + 3 : Nat) : Int) = (K : Int) + 1 + 1 + 1 by omega] at p3
      have n3 : ((K : Int) + 1 + 1 + 1 != (K : Int) + 1 + 1 + 1) = false := by simp
      have n0 : ((K : Int) != (K : Int)) = false := by simp
      have n1 : ((K : Int) + 1 != (K : Int) + 1) = false := by simp
      have n2 : ((K : Int) + 1 + 1 != (K : Int) + 1 + 1) = false := by simp
      have i0 : (j : Int) < (n : Int) := by omega
      have hp : 0 ≤ (((K + 4 + x.ct.ws.length : Nat) : Int)) := by omega
      clear p4 hU gx hst hKK
      go_wp2_with fail
      refine Calls.mono HU.out ?_
      rintro e w3 ⟨rfl, hw3⟩
      obtain rfl := hw3.symm
      go_wp2_with fail
      go_round
      case rel => exact ⟨j + 1, by omega, by go_num, by rw [HST.out]; first | (congr 1; omega) | rfl⟩
      case measure => simp [intOf]; omega
    · have e : j = n := by omega
      subst e
      go_wp2_with fail
      go_ret
      exact ⟨by rw [HN.out]; rfl, rfl⟩

/-- A row of segments that holds its marks. -/
def HeldV (w : World) (v : Value) (l : List Sg) (k : Nat) : Prop := l = [] ∨ ∃ g n c, v = .slice (some ⟨g, 0, none⟩) n c ∧ HeldB w g l k
theorem HeldV.later {w w' : World} {v : Value} {l : List Sg} {k : Nat} (h : HeldV w v l k) (hb : Below w.heap.size w w') : HeldV w' v l k := by
  rcases h with h | ⟨g, n, c, e, h⟩
  · exact .inl h
  · exact .inr ⟨g, n, c, e, h.later hb⟩

theorem markB_nil (a : Option Addr) (c k : Nat) (w : World) : Calls Try.prog 15 #[.slice a 0 c, .int .i64 (k : Int)] w fun e w' => e = .returned (.int .i64 (k : Int)) ∧ w' = w := by
  go_enter Try.func15, Try.ntmps15
  go_wp2_with fail
  go_loop [1, 5] (fun q i => q = .int .i64 (k : Int) ∧ i = .int .i64 0) (fun _ _ => 0)
  case atStart => exact ⟨rfl, rfl⟩
  case round =>
    obtain ⟨rfl, rfl⟩ := hrel
    go_wp2_with fail
    go_ret
    exact ⟨rfl, rfl⟩
theorem heldB_nil (a : Option Addr) (c k : Nat) (w : World) : Calls Try.prog 16 #[.slice a 0 c, .int .i64 (k : Int)] w fun e w' => e = .returned (.int .i64 (k : Int)) ∧ w' = w := by
  go_enter Try.func16, Try.ntmps16
  go_wp2_with fail
  go_loop [1, 5] (fun q i => q = .int .i64 (k : Int) ∧ i = .int .i64 0) (fun _ _ => 0)
  case atStart => exact ⟨rfl, rfl⟩
  case round =>
    obtain ⟨rfl, rfl⟩ := hrel
    go_wp2_with fail
    go_ret
    exact ⟨rfl, rfl⟩

theorem markV_any (B hi n c : Nat) (a : Option Addr) (l : List Sg) (w : World) (ho : OS5 w B (.slice a n c) l) (hw : ∀ x ∈ l, Nw w B x.a x.ct.ws ∧ x.ct.ws.length ≤ 1048576) (hd : Dj l) (hn : l.length = n) (hn2 : n ≤ 1048576) (hh : w.heap.size ≤ hi) :
    Calls Try.prog 15 #[.slice a n c, .int .i64 1] w fun e w' => e = .returned (.int .i64 (mkAt l 1 l.length : Int)) ∧ HeldV w' (.slice a n c) l 1 ∧ Out B hi w w' := by
  by_cases e : l = []
  · subst e
    subst hn
    refine (markB_nil a c 1 w).mono (fun e w' h => ⟨h.1, .inl rfl, ?_⟩)
    rw [h.2]
    exact Out.refl _ _ _
  · obtain ⟨g, rfl⟩ : ∃ g, a = some ⟨g, 0, none⟩ := by
      rcases ho.2 with ⟨-, h0⟩ | ⟨g, cap, cur, e', -⟩
      · exact absurd (List.eq_nil_of_length_eq_zero h0) e
      · cases e'; exact ⟨g, rfl⟩
    obtain ⟨hr, h1, h2⟩ := RowSh.of ho
    refine (markB_own B hi g c n 1 l w hr h1 (by omega) (fun x hx => ⟨WSh.of (hw x hx).1 hh, (hw x hx).2⟩) hd hn hn2 (Nat.le_refl _)).mono (fun e w' h => ⟨h.1, .inr ⟨g, n, c, rfl, h.2.1⟩, h.2.2⟩)

theorem heldV_any (n c : Nat) (a : Option Addr) (l : List Sg) (w : World) (h : HeldV w (.slice a n c) l 1) (hw : ∀ x ∈ l, x.ct.ws.length ≤ 1048576) (hn : l.length = n) (hn2 : n ≤ 1048576) :
    Calls Try.prog 16 #[.slice a n c, .int .i64 1] w fun e w' => e = .returned (.int .i64 (mkAt l 1 l.length : Int)) ∧ w' = w := by
  rcases h with rfl | ⟨g, n', c', e, h⟩
  · subst hn
    exact heldB_nil a c 1 w
  · cases e
    exact heldB_any g c n 1 l w h hw hn hn2 (Nat.le_refl _)

end Go.Proofs.Ytfanddpncipkkaa
