/- Rows of splits in memory of their own kind: what may be written there leaves their shape. -/
import Derived.Test.YtddgldfjeklhbaaJX
import Derived.Test.YtddgldfjeklhbaaBM
namespace Go.Proofs.Ytddgldfjeklhbaa
set_option linter.unusedVariables false
set_option linter.unusedSimpArgs false
open Go.RowKit

/-- But for the blocks from B1 on below B2 nothing has changed. -/
def Out (B1 B2 : Nat) (w w' : World) : Prop := w'.os = w.os ∧ w'.tape = w.tape ∧ w'.output = w.output ∧ w.heap.size ≤ w'.heap.size ∧ ∀ k, k < w.heap.size → (k < B1 ∨ B2 ≤ k) → w'.heap[k]? = w.heap[k]?
theorem Out.refl (B1 B2 : Nat) (w : World) : Out B1 B2 w w := ⟨rfl, rfl, rfl, Nat.le_refl _, fun _ _ _ => rfl⟩
theorem Out.trans {B1 B2 : Nat} {w w1 w2 : World} (h : Out B1 B2 w w1) (h' : Out B1 B2 w1 w2) : Out B1 B2 w w2 :=
  ⟨h'.1.trans h.1, h'.2.1.trans h.2.1, h'.2.2.1.trans h.2.2.1, Nat.le_trans h.2.2.2.1 h'.2.2.2.1, fun k hk ho => (h'.2.2.2.2 k (Nat.lt_of_lt_of_le hk h.2.2.2.1) ho).trans (h.2.2.2.2 k hk ho)⟩
theorem Out.grown {B1 B2 g : Nat} {w w' : World} (h : w.grownBy w' (some g)) (h1 : B1 ≤ g) (h2 : g < B2) : Out B1 B2 w w' := ⟨h.os, h.tape, h.output, h.size, fun k hk ho => h.block k hk (fun e => by cases e; omega)⟩
theorem Out.set {B1 B2 g o : Nat} {w w' : World} (h : Out B1 B2 w w') (h1 : B1 ≤ g) (h2 : g < B2) (v : Value) : Out B1 B2 w (w'.setCell ⟨g, o, none⟩ v) := by
  refine ⟨h.1, h.2.1, h.2.2.1, by simpa using h.2.2.2.1, fun k hk ho => ?_⟩
  rw [heap_setCell_other _ _ _ _ (by simp; omega)]
  exact h.2.2.2.2 k hk ho
theorem Out.below {B B1 B2 : Nat} {w w' : World} (h : Out B1 B2 w w') (hB : B ≤ B1) (hs : B ≤ w.heap.size) : Below B w w' := ⟨h.1, h.2.1, h.2.2.1, h.2.2.2.1, fun k hk => h.2.2.2.2 k (by omega) (.inl (by omega))⟩

def alike (v v' : Value) : Prop := v' = v ∨ ∃ k x y, v = .int k x ∧ v' = .int k y
theorem alike.trans {a b c : Value} (h : alike a b) (h' : alike b c) : alike a c := by
  rcases h with rfl | ⟨k, x, y, rfl, rfl⟩
  · exact h'
  · rcases h' with rfl | ⟨k', x', y', e, rfl⟩
    · exact .inr ⟨k, x, y, rfl, rfl⟩
    · cases e
      exact .inr ⟨k, x, y', rfl, rfl⟩
theorem alike.int {k : IntKind} {x : Int} {v : Value} (h : alike (.int k x) v) : ∃ y, v = .int k y := by
  rcases h with rfl | ⟨k', x', y', e, rfl⟩
  · exact ⟨x, rfl⟩
  · cases e; exact ⟨y', rfl⟩
theorem alike.slice {a : Option Addr} {n c : Nat} {v : Value} (h : alike (.slice a n c) v) : v = .slice a n c := by
  rcases h with rfl | ⟨k', x', y', e, rfl⟩
  · rfl
  · cases e

/-- Numbers alone have changed. -/
def Shp (w w' : World) : Prop := ∀ (b : Nat) (cur : Array Value) (t : TypeId), w.heap[b]? = some (.cells cur t (0, 0)) → ∃ cur', w'.heap[b]? = some (.cells cur' t (0, 0)) ∧ ∀ (i : Nat) (v : Value), cur[i]? = some v → ∃ v', cur'[i]? = some v' ∧ alike v v'
theorem Shp.refl (w : World) : Shp w w := fun _ cur _ h => ⟨cur, h, fun _ v hv => ⟨v, hv, .inl rfl⟩⟩
theorem Shp.trans {a b c : World} (h : Shp a b) (h' : Shp b c) : Shp a c := fun k cur t e => by
  obtain ⟨c1, e1, r1⟩ := h k cur t e
  obtain ⟨c2, e2, r2⟩ := h' k c1 t e1
  exact ⟨c2, e2, fun i v hv => by
    obtain ⟨v1, h1, a1⟩ := r1 i v hv
    obtain ⟨v2, h2, a2⟩ := r2 i v1 h1
    exact ⟨v2, h2, a1.trans a2⟩⟩
theorem Shp.set {w : World} {g o : Nat} {k : IntKind} {x : Int} (h : w.cell? ⟨g, o, none⟩ = some (.int k x)) (y : Int) : Shp w (w.setCell ⟨g, o, none⟩ (.int k y)) := fun b cur t e => by
  by_cases eb : b = g
  · subst eb
    refine ⟨cur.setIfInBounds o (.int k y), heap_setCell_same w b o _ _ _ e, fun i v hv => ?_⟩
    by_cases ei : i = o
    · subst ei
      rw [cell_of_row w b i cur _ _ e] at h
      rw [h] at hv
      cases hv
      exact ⟨.int k y, by rw [Array.getElem?_setIfInBounds_self_of_lt (Array.getElem?_eq_some_iff.1 h).1], .inr ⟨k, x, y, rfl, rfl⟩⟩
    · exact ⟨v, by rw [Array.getElem?_setIfInBounds_ne (fun h => ei h.symm)]; exact hv, .inl rfl⟩
  · exact ⟨cur, by rw [heap_setCell_other _ _ _ _ (by simpa using eb)]; exact e, fun i v hv => ⟨v, hv, .inl rfl⟩⟩

/-- A row of n words in a block of words. -/
def TyW (w : World) (lo hi : Nat) (a : Option Addr) (n : Nat) : Prop := n ≤ 1048576 ∧ ∃ h cur, a = some ⟨h, 0, none⟩ ∧ lo ≤ h ∧ h < hi ∧ w.heap[h]? = some (.cells cur 80 (0, 0)) ∧ ∀ i, i < n → ∃ y : Int, cur[i]? = some (.int .u64 y)
/-- A row of n bars in a block of bars. -/
def TyB (w : World) (lo hi : Nat) (a : Option Addr) (n : Nat) : Prop := n ≤ 1048576 ∧ ∃ h cur, a = some ⟨h, 0, none⟩ ∧ lo ≤ h ∧ h < hi ∧ w.heap[h]? = some (.cells cur 54 (0, 0)) ∧ ∀ i, i < n → (∃ x : Int, cur[i * 4]? = some (.int .i64 x)) ∧ (∃ x : Int, cur[i * 4 + 1]? = some (.int .i64 x)) ∧ (∃ x : Int, cur[i * 4 + 2]? = some (.int .i64 x)) ∧ ∃ a' m c, cur[i * 4 + 3]? = some (.slice a' m c) ∧ TyW w lo hi a' m
/-- A row of n splits in a block of splits. -/
def TyS (w : World) (lo hi : Nat) (a : Option Addr) (n : Nat) : Prop := n ≤ 1048576 ∧ ∃ h cur, a = some ⟨h, 0, none⟩ ∧ lo ≤ h ∧ h < hi ∧ w.heap[h]? = some (.cells cur 48 (0, 0)) ∧ ∀ i, i < n → (∃ x : Int, cur[i * 3]? = some (.int .i64 x)) ∧ (∃ x : Int, cur[i * 3 + 1]? = some (.int .i64 x)) ∧ ∃ a' m c, cur[i * 3 + 2]? = some (.slice a' m c) ∧ TyB w lo hi a' m

theorem keep_int {cur cur' : Array Value} (r : ∀ (i : Nat) (v : Value), cur[i]? = some v → ∃ v', cur'[i]? = some v' ∧ alike v v') {i : Nat} {k : IntKind} (h : ∃ x : Int, cur[i]? = some (.int k x)) : ∃ x : Int, cur'[i]? = some (.int k x) := by
  obtain ⟨x, hx⟩ := h
  obtain ⟨v', h1, h2⟩ := r i _ hx
  obtain ⟨y, rfl⟩ := h2.int
  exact ⟨y, h1⟩
theorem TyW.shp {w w' : World} {lo hi n : Nat} {a : Option Addr} (h : TyW w lo hi a n) (hs : Shp w w') : TyW w' lo hi a n := by
  obtain ⟨h0, g, cur, e, h1, h2, h3, h4⟩ := h
  obtain ⟨cur', e', r⟩ := hs g cur _ h3
  exact ⟨h0, g, cur', e, h1, h2, e', fun i hi => keep_int r (h4 i hi)⟩
theorem TyB.shp {w w' : World} {lo hi n : Nat} {a : Option Addr} (h : TyB w lo hi a n) (hs : Shp w w') : TyB w' lo hi a n := by
  obtain ⟨h0, g, cur, e, h1, h2, h3, h4⟩ := h
  obtain ⟨cur', e', r⟩ := hs g cur _ h3
  refine ⟨h0, g, cur', e, h1, h2, e', fun i hi => ?_⟩
  obtain ⟨i1, i2, i3, a', m, c, i4, i5⟩ := h4 i hi
  obtain ⟨v', j1, j2⟩ := r _ _ i4
  exact ⟨keep_int r i1, keep_int r i2, keep_int r i3, a', m, c, by rw [← j2.slice]; exact j1, i5.shp hs⟩
theorem TyS.shp {w w' : World} {lo hi n : Nat} {a : Option Addr} (h : TyS w lo hi a n) (hs : Shp w w') : TyS w' lo hi a n := by
  obtain ⟨h0, g, cur, e, h1, h2, h3, h4⟩ := h
  obtain ⟨cur', e', r⟩ := hs g cur _ h3
  refine ⟨h0, g, cur', e, h1, h2, e', fun i hi => ?_⟩
  obtain ⟨i1, i2, a', m, c, i4, i5⟩ := h4 i hi
  obtain ⟨v', j1, j2⟩ := r _ _ i4
  exact ⟨keep_int r i1, keep_int r i2, a', m, c, by rw [← j2.slice]; exact j1, i5.shp hs⟩
theorem Shp.of {w w' : World} (hb : Below w.heap.size w w') : Shp w w' := fun b cur t e => ⟨cur, (hb.block b (lt_of_block e)).trans e, fun i v hv => ⟨v, hv, .inl rfl⟩⟩

set_option maxHeartbeats 1000000 in
/-- Words are marked, in memory of that kind. -/
theorem markU_ty (lo hi c n k : Nat) (a : Option Addr) (w : World) (h : TyW w lo hi a n) (hk : k + n ≤ 9000000000000000000) :
    Calls Try.prog 27 #[.slice a n c, .int .i64 (k : Int)] w fun e w' => e = .returned (.int .i64 ((k + n : Nat) : Int)) ∧ Shp w w' ∧ Out lo hi w w' := by
  obtain ⟨hn, g, cur, rfl, hl, hh, hc, hi'⟩ := h
  have H := kide (show TyW w lo hi (some ⟨g, 0, none⟩) n from ⟨hn, g, cur, rfl, hl, hh, hc, hi'⟩)
  clear hc hi'
  go_enter Try.func27, Try.ntmps27
  go_wp2_with fail
  go_loopw [1, 5] (fun q i wr => ∃ (j : Nat), j ≤ n ∧ i = .int .i64 (j : Int) ∧ q = .int .i64 ((k + j : Nat) : Int) ∧ Shp w wr ∧ Out lo hi w wr) (fun _ i _ => n - (intOf i).toNat)
  case atStart => exact ⟨0, Nat.zero_le _, rfl, rfl, Shp.refl _, Out.refl _ _ _⟩
  case round =>
    obtain ⟨j, hj, rfl, rfl, hs, ho⟩ := hrel
    have HS := kide hs
    have HO := kide ho
    by_cases hlt : j < n
    · obtain ⟨-, g', cu, e', -, -, hg, hc⟩ := H.out.shp hs
      cases e'
      obtain ⟨y0, hy0⟩ := hc j hlt
      have q0 : wr.cell? ⟨g, j, none⟩ = some (.int .u64 y0) := by rw [cell_of_row wr g j _ _ _ hg]; exact hy0
      have r0 := frozen_of_row wr g j _ _ hg
      obtain ⟨K, hK⟩ : ∃ K, k + j = K := ⟨_, rfl⟩
      rw [hK]
      have HK := kide hK
      have hKb : K < 9000000000000000000 := by omega
      have i0 : (j : Int) < (n : Int) := by omega
      have HS2 := kide (hs.trans (Shp.set q0 (K : Int)))
      have HO2 := kide (ho.set hl hh (.int .u64 (K : Int)) (o := j))
      clear hc hs ho hK hy0 hg
      go_wp2_with fail
      go_roundw
      case rel => exact ⟨j + 1, by omega, by go_num, by rw [show k + (j + 1) = K + 1 by have := HK.out; omega]; first | go_num | (simp; done), HS2.out, HO2.out⟩
      case measure => simp [intOf]; omega
    · have e : j = n := by omega
      subst e
      clear hs ho
      go_wp2_with fail
      go_ret
      exact ⟨rfl, HS.out, HO.out⟩

end Go.Proofs.Ytddgldfjeklhbaa
