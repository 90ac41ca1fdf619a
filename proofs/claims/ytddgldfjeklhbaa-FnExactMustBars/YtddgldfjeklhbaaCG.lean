/- Bars of one's own are marked, and hold their marks. -/
import Derived.Test.YtddgldfjeklhbaaCF
namespace Go.Proofs.Ytddgldfjeklhbaa
set_option linter.unusedVariables false
set_option linter.unusedSimpArgs false
open Go.RowKit

def lnAt (l : List Yg) (i : Nat) : Nat := match l[i]? with | some x => x.ct.ws.length | none => 0
/-- The mark at which the i-th begins. -/
def mkAt (l : List Yg) (k : Nat) : Nat → Nat
  | 0 => k
  | i + 1 => mkAt l k i + 3 + lnAt l i
theorem mkAt_le {l : List Yg} {k : Nat} (h : ∀ x ∈ l, x.ct.ws.length ≤ 1048576) : ∀ i, mkAt l k i ≤ k + i * 1048579
  | 0 => by simp [mkAt]
  | i + 1 => by
    have h1 := mkAt_le (k := k) h i
    have h2 : lnAt l i ≤ 1048576 := by
      unfold lnAt
      cases e : l[i]? with
      | none => simp
      | some x => exact h x (List.mem_of_getElem? e)
    unfold mkAt
    omega

/-- Words in a block of words, or none. -/
def WSh (w : World) (lo hi : Nat) (x : Yg) : Prop := x.ct.ws.length = 0 ∨ ∃ h cur, x.a = some ⟨h, 0, none⟩ ∧ lo ≤ h ∧ h < hi ∧ w.heap[h]? = some (.cells cur 80 (0, 0)) ∧ ∀ t, t < x.ct.ws.length → ∃ y : Int, cur[t]? = some (.int .u64 y)
theorem WSh.of {w : World} {lo hi : Nat} {x : Yg} (h : Nw w lo x.a x.ct.ws) (hh : w.heap.size ≤ hi) : WSh w lo hi x := by
  rcases h with ⟨h1, -⟩ | ⟨g, cur, h1, h2, h3, h4⟩
  · exact .inl (by rw [h1]; rfl)
  · exact .inr ⟨g, cur, h1, h2, Nat.lt_of_lt_of_le (lt_of_block h3) hh, h3, fun t ht => ⟨_, h4 t ht⟩⟩
theorem WSh.shp {w w' : World} {lo hi : Nat} {x : Yg} (h : WSh w lo hi x) (hs : Shp w w') : WSh w' lo hi x := by
  rcases h with h | ⟨g, cur, h1, h2, h3, h4, h5⟩
  · exact .inl h
  · obtain ⟨cur', e', r⟩ := hs g cur _ h4
    exact .inr ⟨g, cur', h1, h2, h3, e', fun t ht => keep_int r (h5 t ht)⟩

/-- The i-th bar holds its marks. -/
def HeldOne (w : World) (g i : Nat) (x : Yg) (K : Nat) : Prop :=
  w.cell? ⟨g, i * 4, none⟩ = some (.int .i64 (K : Int)) ∧ w.cell? ⟨g, i * 4 + 1, none⟩ = some (.int .i64 ((K + 1 : Nat) : Int)) ∧ w.cell? ⟨g, i * 4 + 2, none⟩ = some (.int .i64 ((K + 2 : Nat) : Int)) ∧ w.cell? ⟨g, i * 4 + 3, none⟩ = some (.slice x.a x.ct.ws.length x.c) ∧
  (∀ t, t < x.ct.ws.length → ∃ h, x.a = some ⟨h, 0, none⟩ ∧ w.cell? ⟨h, t, none⟩ = some (.int .u64 ((K + 3 + t : Nat) : Int)))
theorem HeldOne.keep {w w' : World} {g i K : Nat} {x : Yg} (h : HeldOne w g i x K) (hr : ∀ o, i * 4 ≤ o → o < i * 4 + 4 → w'.cell? ⟨g, o, none⟩ = w.cell? ⟨g, o, none⟩) (hw : ∀ p, x.ct.ws.length ≠ 0 → x.a = some p → w'.heap[p.block]? = w.heap[p.block]?) : HeldOne w' g i x K := by
  obtain ⟨h0, h1, h2, h3, h4⟩ := h
  refine ⟨by rw [hr _ (by omega) (by omega)]; exact h0, by rw [hr _ (by omega) (by omega)]; exact h1, by rw [hr _ (by omega) (by omega)]; exact h2, by rw [hr _ (by omega) (by omega)]; exact h3, fun t ht => ?_⟩
  obtain ⟨b, e, hc⟩ := h4 t ht
  exact ⟨b, e, (World.cell?_of_block (a := ⟨b, t, none⟩) (show w'.heap[b]? = w.heap[b]? from hw ⟨b, 0, none⟩ (by omega) e)).trans hc⟩
def HeldB (w : World) (g : Nat) (l : List Yg) (k : Nat) : Prop := ∀ i x, l[i]? = some x → HeldOne w g i x (mkAt l k i)
theorem HeldB.later {w w' : World} {g k : Nat} {l : List Yg} (h : HeldB w g l k) (hb : Below w.heap.size w w') : HeldB w' g l k := fun i x hi => by
  have h1 := h i x hi
  refine h1.keep (fun o _ _ => kcell hb g o (block_lt_of_cell h1.1)) (fun p hp e => ?_)
  obtain ⟨b, e', hc⟩ := h1.2.2.2.2 0 (by omega)
  rw [e'] at e
  cases e
  exact hb.block _ (block_lt_of_cell hc)

theorem cell_ne {w : World} {g o o' : Nat} {cur : Array Value} {t : TypeId} (hg : w.heap[g]? = some (.cells cur t (0, 0))) (v : Value) (h : o ≠ o') : (w.setCell ⟨g, o, none⟩ v).cell? ⟨g, o', none⟩ = w.cell? ⟨g, o', none⟩ := by
  rw [cell_of_row _ g o' _ _ _ (heap_setCell_same w g o _ _ v hg), cell_of_row w g o' _ _ _ hg, Array.getElem?_setIfInBounds_ne h]

set_option maxHeartbeats 1000000 in
theorem markU_ex (lo hi c k : Nat) (x : Yg) (w : World) (h : WSh w lo hi x) (hn : x.ct.ws.length ≤ 1048576) (hk : k ≤ 8000000000000000000) :
    Calls Try.prog 27 #[.slice x.a x.ct.ws.length c, .int .i64 (k : Int)] w fun e w' => e = .returned (.int .i64 ((k + x.ct.ws.length : Nat) : Int)) ∧ Shp w w' ∧ Out lo hi w w' ∧ (∀ t, t < x.ct.ws.length → ∃ h, x.a = some ⟨h, 0, none⟩ ∧ w'.cell? ⟨h, t, none⟩ = some (.int .u64 ((k + t : Nat) : Int))) ∧ (∀ b, (∀ p, x.ct.ws.length ≠ 0 → x.a = some p → p.block ≠ b) → w'.heap[b]? = w.heap[b]?) := by
  have H := kide h
  clear h
  obtain ⟨n, hnn⟩ : ∃ n, x.ct.ws.length = n := ⟨_, rfl⟩
  rw [hnn]
  rw [hnn] at hn
  have HNN := kide hnn
  clear hnn
  go_enter Try.func27, Try.ntmps27
  go_wp2_with fail
  go_loopw [1, 5] (fun q i wr => ∃ (j : Nat), j ≤ n ∧ i = .int .i64 (j : Int) ∧ q = .int .i64 ((k + j : Nat) : Int) ∧ Shp w wr ∧ Out lo hi w wr ∧ (∀ t, t < j → ∃ h, x.a = some ⟨h, 0, none⟩ ∧ wr.cell? ⟨h, t, none⟩ = some (.int .u64 ((k + t : Nat) : Int))) ∧ (∀ b, (∀ p, n ≠ 0 → x.a = some p → p.block ≠ b) → wr.heap[b]? = w.heap[b]?)) (fun _ i _ => n - (intOf i).toNat)
  case atStart => exact ⟨0, Nat.zero_le _, rfl, rfl, Shp.refl _, Out.refl _ _ _, fun t h => by omega, fun _ _ => rfl⟩
  case round =>
    obtain ⟨j, hj, rfl, rfl, hs, ho, hm, hb⟩ := hrel
    have HS := kide hs
    have HO := kide ho
    have HM := kide hm
    have HB := kide hb
    by_cases hlt : j < n
    · have hsh := H.out.shp hs
      rcases hsh with h0 | ⟨g, cu, e', hl, hh, hg, hc⟩
      · have := HNN.out; omega
      obtain ⟨y0, hy0⟩ := hc j (by rw [HNN.out]; exact hlt)
      have q0 : wr.cell? ⟨g, j, none⟩ = some (.int .u64 y0) := by rw [cell_of_row wr g j _ _ _ hg]; exact hy0
      have r0 := frozen_of_row wr g j _ _ hg
      obtain ⟨K, hK⟩ : ∃ K, k + j = K := ⟨_, rfl⟩
      rw [hK]
      have HK := kide hK
      have hKb : K < 9000000000000000000 := by omega
      have i0 : (j : Int) < (n : Int) := by omega
      have HS2 := kide (hs.trans (Shp.set q0 (K : Int)))
      have HO2 := kide (ho.set hl hh (.int .u64 (K : Int)) (o := j))
      have HM2 : Hid (∀ t, t < j + 1 → ∃ h, x.a = some ⟨h, 0, none⟩ ∧ (wr.setCell ⟨g, j, none⟩ (.int .u64 (K : Int))).cell? ⟨h, t, none⟩ = some (.int .u64 ((k + t : Nat) : Int))) := fun t ht => by
        by_cases et : t = j
        · subst et
          refine ⟨g, e', ?_⟩
          rw [cell_of_row _ g t _ _ _ (heap_setCell_same wr g t _ _ _ hg), Array.getElem?_setIfInBounds_self_of_lt (Array.getElem?_eq_some_iff.1 hy0).1, HK.out]
        · obtain ⟨h, e, hc'⟩ := hm t (by omega)
          rw [e'] at e
          cases e
          exact ⟨g, e', by rw [cell_ne hg _ (fun h => et h.symm)]; exact hc'⟩
      have HB2 : Hid (∀ b, (∀ p, n ≠ 0 → x.a = some p → p.block ≠ b) → (wr.setCell ⟨g, j, none⟩ (.int .u64 (K : Int))).heap[b]? = w.heap[b]?) := fun b h => by
        rw [heap_setCell_other _ _ _ _ (by simpa using (h _ (by omega) e').symm)]
        exact hb b h
      rw [e'] at HM2 HB2
      rw [e']
      clear hc hs ho hK hy0 hg hm hb
      go_wp2_with fail
      go_roundw
      case rel => exact ⟨j + 1, by omega, by go_num, by rw [show k + (j + 1) = K + 1 by have := HK.out; omega]; first | go_num | (simp; done), HS2.out, HO2.out, HM2.out, HB2.out⟩
      case measure => simp [intOf]; omega
    · have e : j = n := by omega
      subst e
      clear hs ho hm hb
      go_wp2_with fail
      go_ret
      exact ⟨rfl, HS.out, HO.out, HM.out, HB.out⟩

end Go.Proofs.Ytddgldfjeklhbaa
