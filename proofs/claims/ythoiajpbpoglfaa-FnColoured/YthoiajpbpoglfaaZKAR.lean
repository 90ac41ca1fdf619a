/- Several texts in one. -/
import Derived.Test.YthoiajpbpoglfaaZKAI

/- A row of words of one's own is marked; a row that holds its marks is told so. -/
namespace Go.Proofs.Ythoiajpbpoglfaa
set_option linter.unusedVariables false
set_option linter.unusedSimpArgs false
open Go.RowKit

def lnAt (l : List Bw) (i : Nat) : Nat := match l[i]? with | some x => x.ws.length | none => 0
/-- The mark at which the i-th begins. -/
def mkAt (l : List Bw) (k : Nat) : Nat → Nat
  | 0 => k
  | i + 1 => mkAt l k i + 1 + lnAt l i
theorem mkAt_le {l : List Bw} {k : Nat} (h : ∀ x ∈ l, x.ws.length ≤ 1048576) : ∀ i, mkAt l k i ≤ k + i * 1048577
  | 0 => by simp [mkAt]
  | i + 1 => by
    have h1 := mkAt_le (k := k) h i
    have h2 : lnAt l i ≤ 1048576 := by
      unfold lnAt
      cases e : l[i]? with
      | none => simp
      | some x => exact h x (List.mem_of_getElem? e)
    unfold mkAt
    omega

/-- Words in a block of words, or none. -/
def WSh (w : World) (lo hi : Nat) (x : Bw) : Prop := x.ws.length = 0 ∨ ∃ h cur, x.a = some ⟨h, 0, none⟩ ∧ lo ≤ h ∧ h < hi ∧ w.heap[h]? = some (.cells cur 88 (0, 0)) ∧ ∀ t, t < x.ws.length → ∃ y : Int, cur[t]? = some (.int .u64 y)
theorem WSh.of {w : World} {lo hi : Nat} {x : Bw} (h : Nw w lo x.a x.ws) (hh : w.heap.size ≤ hi) : WSh w lo hi x := by
  rcases h with ⟨h1, -⟩ | ⟨g, cur, h1, h2, h3, h4⟩
  · exact .inl (by rw [h1]; rfl)
  · exact .inr ⟨g, cur, h1, h2, Nat.lt_of_lt_of_le (lt_of_block h3) hh, h3, fun t ht => ⟨_, h4 t ht⟩⟩
theorem WSh.shp {w w' : World} {lo hi : Nat} {x : Bw} (h : WSh w lo hi x) (hs : Shp w w') : WSh w' lo hi x := by
  rcases h with h | ⟨g, cur, h1, h2, h3, h4, h5⟩
  · exact .inl h
  · obtain ⟨cur', e', r⟩ := hs g cur _ h4
    exact .inr ⟨g, cur', h1, h2, h3, e', fun t ht => keep_int r (h5 t ht)⟩

/-- The i-th word holds its marks. -/
def HeldOne (w : World) (g i : Nat) (x : Bw) (K : Nat) : Prop :=
  w.cell? ⟨g, i * 2, none⟩ = some (.int .i64 (K : Int)) ∧ w.cell? ⟨g, i * 2 + 1, none⟩ = some (.slice x.a x.ws.length x.c) ∧
  (∀ t, t < x.ws.length → ∃ h, x.a = some ⟨h, 0, none⟩ ∧ w.cell? ⟨h, t, none⟩ = some (.int .u64 ((K + 1 + t : Nat) : Int)))
theorem HeldOne.keep {w w' : World} {g i K : Nat} {x : Bw} (h : HeldOne w g i x K) (hr : ∀ o, i * 2 ≤ o → o < i * 2 + 2 → w'.cell? ⟨g, o, none⟩ = w.cell? ⟨g, o, none⟩) (hw : ∀ p, x.ws.length ≠ 0 → x.a = some p → w'.heap[p.block]? = w.heap[p.block]?) : HeldOne w' g i x K := by
  obtain ⟨h0, h3, h4⟩ := h
  refine ⟨by rw [hr _ (by omega) (by omega)]; exact h0, by rw [hr _ (by omega) (by omega)]; exact h3, fun t ht => ?_⟩
  obtain ⟨b, e, hc⟩ := h4 t ht
  exact ⟨b, e, (World.cell?_of_block (a := ⟨b, t, none⟩) (show w'.heap[b]? = w.heap[b]? from hw ⟨b, 0, none⟩ (by omega) e)).trans hc⟩
def HeldB (w : World) (g : Nat) (l : List Bw) (k : Nat) : Prop := ∀ i x, l[i]? = some x → HeldOne w g i x (mkAt l k i)
theorem HeldB.later {w w' : World} {g k : Nat} {l : List Bw} (h : HeldB w g l k) (hb : Below w.heap.size w w') : HeldB w' g l k := fun i x hi => by
  have h1 := h i x hi
  refine h1.keep (fun o _ _ => kcell hb g o (block_lt_of_cell h1.1)) (fun p hp e => ?_)
  obtain ⟨b, e', hc⟩ := h1.2.2 0 (by omega)
  rw [e'] at e
  cases e
  exact hb.block _ (block_lt_of_cell hc)

theorem cell_ne {w : World} {g o o' : Nat} {cur : Array Value} {t : TypeId} (hg : w.heap[g]? = some (.cells cur t (0, 0))) (v : Value) (h : o ≠ o') : (w.setCell ⟨g, o, none⟩ v).cell? ⟨g, o', none⟩ = w.cell? ⟨g, o', none⟩ := by
  rw [cell_of_row _ g o' _ _ _ (heap_setCell_same w g o _ _ v hg), cell_of_row w g o' _ _ _ hg, Array.getElem?_setIfInBounds_ne h]

set_option maxHeartbeats 1000000 in
theorem markU_ex (lo hi c k : Nat) (x : Bw) (w : World) (h : WSh w lo hi x) (hn : x.ws.length ≤ 1048576) (hk : k ≤ 8000000000000000000) :
    Calls Try.prog 43 #[.slice x.a x.ws.length c, .int .i64 (k : Int)] w fun e w' => e = .returned (.int .i64 ((k + x.ws.length : Nat) : Int)) ∧ Shp w w' ∧ Out lo hi w w' ∧ (∀ t, t < x.ws.length → ∃ h, x.a = some ⟨h, 0, none⟩ ∧ w'.cell? ⟨h, t, none⟩ = some (.int .u64 ((k + t : Nat) : Int))) ∧ (∀ b, (∀ p, x.ws.length ≠ 0 → x.a = some p → p.block ≠ b) → w'.heap[b]? = w.heap[b]?) := by
  have H := kide h
  clear h
  obtain ⟨n, hnn⟩ : ∃ n, x.ws.length = n := ⟨_, rfl⟩
  rw [hnn]
  rw [hnn] at hn
  have HNN := kide hnn
  clear hnn
  go_enter Try.func43, Try.ntmps43
  go_wp2_with fail
  go_loopw [1, 5] (fun q i wr => ∃ (j : Nat), j ≤ n ∧ i = .int .i64 (j : Int) ∧ q = .int .i64 ((k + j : Nat) : Int) ∧ Shp w wr ∧ Out lo hi w wr ∧ (∀ t, t < j → ∃ h, x.a = some ⟨h, 0, none⟩ ∧ wr.cell? ⟨h, t, none⟩ = some (.int .u64 ((k + t : Nat) : Int))) ∧ (∀ b, (∀ p, n ≠ 0 → x.a = some p → p.block ≠ b) → wr.heap[b]? = w.heap[b]?)) (fun _ i _ => n - (intOf i).toNat)
  case atStart => exact ⟨0, Nat.zero_le _, rfl, rfl, Shp.refl _, Out.refl _ _ _, fun t h => by omega, fun _ _ => rfl⟩
  case round =>
    obtain ⟨j, hj, rfl, rfl, hs, ho, hm, hb⟩ := hrel
    have HS := kide hs
    have HO := kide ho
    have HM := kide hm
    have HB := kide hb
    by_cases hlt : j < n
    · have hsh := H.out.shp hs
      rcases hsh with h0 | ⟨g, cu, e', hl, hh, hg, hc⟩
      · have := HNN.out; omega
      obtain ⟨y0, hy0⟩ := hc j (by rw [HNN.out]; exact hlt)
      have q0 : wr.cell? ⟨g, j, none⟩ = some (.int .u64 y0) := by rw [cell_of_row wr g j _ _ _ hg]; exact hy0
      have r0 := frozen_of_row wr g j _ _ hg
      obtain ⟨K, hK⟩ : ∃ K, k + j = K := ⟨_, rfl⟩
      rw [hK]
      have HK := kide hK
      have hKb : K < 9000000000000000000 := by omega
      have i0 : (j : Int) < (n : Int) := by omega
      have HS2 := kide (hs.trans (Shp.set q0 (K : Int)))
      have HO2 := kide (ho.set hl hh (.int .u64 (K : Int)) (o := j))
      have HM2 : Hid (∀ t, t < j + 1 → ∃ h, x.a = some ⟨h, 0, none⟩ ∧ (wr.setCell ⟨g, j, none⟩ (.int .u64 (K : Int))).cell? ⟨h, t, none⟩ = some (.int .u64 ((k + t : Nat) : Int))) := fun t ht => by
        by_cases et : t = j
        · subst et
          refine ⟨g, e', ?_⟩
          rw [cell_of_row _ g t _ _ _ (heap_setCell_same wr g t _ _ _ hg), Array.getElem?_setIfInBounds_self_of_lt (Array.getElem?_eq_some_iff.1 hy0).1, HK.out]
        · obtain ⟨h, e, hc'⟩ := hm t (by omega)
          rw [e'] at e
          cases e
          exact ⟨g, e', by rw [cell_ne hg _ (fun h => et h.symm)]; exact hc'⟩
      have HB2 : Hid (∀ b, (∀ p, n ≠ 0 → x.a = some p → p.block ≠ b) → (wr.setCell ⟨g, j, none⟩ (.int .u64 (K : Int))).heap[b]? = w.heap[b]?) := fun b h => by
        rw [heap_setCell_other _ _ _ _ (by simpa using (h _ (by omega) e').symm)]
        exact hb b h
      rw [e'] at HM2 HB2
      rw [e']
      clear hc hs ho hK hy0 hg hm hb
      go_wp2_with fail
      go_roundw
      case rel => exact ⟨j + 1, by omega, by go_num, by rw [show k + (j + 1) = K + 1 by have := HK.out; omega]; first | go_num | (simp; done), HS2.out, HO2.out, HM2.out, HB2.out⟩
      case measure => simp [intOf]; omega
    · have e : j = n := by omega
      subst e
      clear hs ho hm hb
      go_wp2_with fail
      go_ret
      exact ⟨rfl, HS.out, HO.out, HM.out, HB.out⟩

/-- The row itself, in a block of words. -/
def RowSh (w : World) (g : Nat) (l : List Bw) : Prop := ∃ cur, w.heap[g]? = some (.cells cur 48 (0, 0)) ∧ ∀ i x, l[i]? = some x → (∃ y : Int, cur[i * 2]? = some (.int .i64 y)) ∧ cur[i * 2 + 1]? = some (.slice x.a x.ws.length x.c)
theorem RowSh.shp {w w' : World} {g : Nat} {l : List Bw} (h : RowSh w g l) (hs : Shp w w') : RowSh w' g l := by
  obtain ⟨cur, hg, r⟩ := h
  obtain ⟨cur', e', r'⟩ := hs g cur _ hg
  refine ⟨cur', e', fun i x hi => ?_⟩
  obtain ⟨h1, h4⟩ := r i x hi
  obtain ⟨v', j1, j2⟩ := r' _ _ h4
  exact ⟨keep_int r' h1, by rw [← j2.slice]; exact j1⟩

def RetMk (w : World) (lo hi g : Nat) (l : List Bw) (k : Nat) (e : Ending) (w' : World) : Prop := e = .returned (.int .i64 (mkAt l k l.length : Int)) ∧ HeldB w' g l k ∧ Out lo hi w w'

set_option maxHeartbeats 4000000 in
theorem markB_own (lo hi g c n k : Nat) (l : List Bw) (w : World) (hrow : RowSh w g l) (hg1 : lo ≤ g) (hg2 : g < hi) (hws : ∀ x ∈ l, WSh w lo hi x ∧ x.ws.length ≤ 1048576) (hdj : DjB l) (hn : l.length = n) (hn2 : n ≤ 1048576) (hk : k ≤ 1) :
    Calls Try.prog 13 #[.slice (some ⟨g, 0, none⟩) n c, .int .i64 (k : Int)] w (RetMk w lo hi g l k) := by
  have HROW := kide hrow
  have HWS := kide hws
  have HDJ := kide hdj
  have HN := kide hn
  have HLE := kide (fun i => mkAt_le (k := k) (fun x hx => (hws x hx).2) i)
  clear hrow hws hdj hn
  go_enter Try.func13, Try.ntmps13
  go_wp2_with fail
  go_loopw [1, 5] (fun q i wr => ∃ (j : Nat), j ≤ n ∧ i = .int .i64 (j : Int) ∧ q = .int .i64 (mkAt l k j : Int) ∧ Shp w wr ∧ Out lo hi w wr ∧ (∀ i x, i < j → l[i]? = some x → HeldOne wr g i x (mkAt l k i))) (fun _ i _ => n - (intOf i).toNat)
  case atStart => exact ⟨0, Nat.zero_le _, rfl, rfl, Shp.refl _, Out.refl _ _ _, fun i x h => by omega⟩
  case round =>
    obtain ⟨j, hj, rfl, rfl, hs, ho, hh⟩ := hrel
    have HS := kide hs
    have HO := kide ho
    have HH := kide hh
    by_cases hlt : j < n
    · obtain ⟨x, gx⟩ : ∃ x, l[j]? = some x := ⟨l[j]'(by rw [HN.out]; exact hlt), List.getElem?_eq_getElem _⟩
      obtain ⟨cu, hg, r⟩ := HROW.out.shp hs
      obtain ⟨⟨x0, q0⟩, q3⟩ := r j x gx
      obtain ⟨hwx, hlx⟩ := HWS.out x (List.mem_of_getElem? gx)
      have hKb := HLE.out j
      have hst : mkAt l k (j + 1) = mkAt l k j + 1 + x.ws.length := by simp [mkAt, lnAt, gx]
      have HST := kide hst
      have HME := kide (fun i => HLE.out i)
      generalize hKK : mkAt l k j = K at *
      have HKK := kide hKK
      have hKb2 : K ≤ 8000000000000000000 := by omega
      have cell := fun o => cell_of_row wr g o cu _ _ hg
      have p0 : wr.cell? ⟨g, j * 2, none⟩ = some (.int .i64 x0) := by rw [cell]; exact q0
      have p3 : wr.cell? ⟨g, j * 2 + 1, none⟩ = some (.slice x.a x.ws.length x.c) := by rw [cell]; exact q3
      have r0 := frozen_of_row wr g (j * 2) _ _ hg
      have i0 : (j : Int) < (n : Int) := by omega
      have s1 := Shp.set p0 (K : Int)
      have hgA := heap_setCell_same wr g (j * 2) _ _ (.int .i64 (K : Int)) hg
      have S3 := kide (hs.trans s1)
      have O3 := kide (ho.set hg1 hg2 (.int .i64 (K : Int)) (o := j * 2))
      have hM := markU_ex lo hi x.c (K + 1) x _ (hwx.shp S3.out) hlx (by omega)
      rw [show ((K + 1 : Nat) : Int) = (K : Int) + 1 by omega] at hM
      have HM := kide hM
      have C3 : Hid (∀ o, o ≠ j * 2 → (wr.setCell ⟨g, j * 2, none⟩ (.int .i64 (K : Int))).cell? ⟨g, o, none⟩ = wr.cell? ⟨g, o, none⟩) := fun o h0 => by
        rw [cell_ne hg _ (Ne.symm h0)]
      have D3 : Hid (∀ b, b ≠ g → (wr.setCell ⟨g, j * 2, none⟩ (.int .i64 (K : Int))).heap[b]? = wr.heap[b]?) := fun b hb => by
        rw [heap_setCell_other _ _ _ _ (by simpa using hb)]
      have E3 : Hid ((wr.setCell ⟨g, j * 2, none⟩ (.int .i64 (K : Int))).cell? ⟨g, j * 2, none⟩ = some (.int .i64 (K : Int))) := by
        have z0 := (Array.getElem?_eq_some_iff.1 q0).1
        show _ = _
        rw [cell_of_row _ g _ _ _ _ hgA, Array.getElem?_setIfInBounds_self_of_lt z0]
      have NG : Hid (∀ (i : Nat) (y : Bw) (p : Addr), l[i]? = some y → y.ws.length ≠ 0 → y.a = some p → p.block ≠ g) := fun i y p hi h0 hp e => by
        rcases (HWS.out y (List.mem_of_getElem? hi)).1.shp hs with h9 | ⟨h9, cur9, e9, -, -, k9, -⟩
        · exact h0 h9
        · rw [e9] at hp
          cases hp
          simp only [] at e
          subst e
          rw [hg] at k9
          cases k9
      have GX := kide gx
      have PP3 := kide p3
      clear hs ho hh r q0 q3 cell s1 hgA hM gx hwx hst hKK
      go_wp2_with fail
      refine Calls.mono HM.out ?_
      rintro e w5 ⟨rfl, hs5, ho5, hm5, hb5⟩
      have S5 := kide (S3.out.trans hs5)
      have O5 := kide (O3.out.trans ho5)
      have M5 := kide hm5
      have B5 := kide hb5
      clear hs5 ho5 hm5 hb5 HM
      go_wp2_with fail
      go_roundw
      case rel =>
        refine ⟨j + 1, by omega, by go_num, by rw [HST.out]; congr 1, S5.out, O5.out, fun i y hi hy => ?_⟩
        have hgk : w5.heap[g]? = _ := B5.out g (fun p h0 hp => NG.out j x p GX.out h0 hp)
        by_cases hij : i = j
        · subst hij
          rw [GX.out] at hy
          cases hy
          rw [HKK.out]
          refine ⟨(World.cell?_of_block hgk).trans E3.out, (World.cell?_of_block hgk).trans ((C3.out _ (by omega)).trans PP3.out), fun t ht => ?_⟩
          obtain ⟨h, e, hc⟩ := M5.out t ht
          exact ⟨h, e, hc⟩
        · refine (HH.out i y (by omega) hy).keep (fun o h1 h2 => (World.cell?_of_block hgk).trans (C3.out o (by omega))) (fun p h0 hp => ?_)
          rw [B5.out p.block (fun q h0' hq e => HDJ.out i j y x (by omega) hy GX.out p q hp hq e.symm), D3.out _ (NG.out i y p hy h0 hp)]
      case measure => simp [intOf]; omega
    · have e : j = n := by omega
      subst e
      clear hs ho hh
      go_wp2_with fail
      go_ret
      exact ⟨by rw [HN.out]; rfl, fun i x hi => HH.out i x (by have := (List.getElem?_eq_some_iff.1 hi).1; rw [HN.out] at this; exact this) hi, HO.out⟩

theorem RowSh.of {w : World} {B g n c : Nat} {l : List Bw} (h : OB2 w B (.slice (some ⟨g, 0, none⟩) n c) l) : RowSh w g l ∧ B ≤ g ∧ g < w.heap.size := by
  obtain ⟨cur, hc⟩ := h.typed rfl
  refine ⟨⟨cur, hc, fun i x hi => ?_⟩, (h.lt rfl).1, (h.lt rfl).2⟩
  obtain ⟨g', c', e, h1, h2⟩ := h.at hi
  cases e
  rw [cell_of_row w g _ cur _ _ hc] at h1 h2
  exact ⟨⟨_, h1⟩, h2⟩

theorem heldU_ex (c k : Nat) (x : Bw) (w : World) (hk : k ≤ 8000000000000000000) (hn : x.ws.length ≤ 1048576) (h : ∀ t, t < x.ws.length → ∃ h, x.a = some ⟨h, 0, none⟩ ∧ w.cell? ⟨h, t, none⟩ = some (.int .u64 ((k + t : Nat) : Int))) :
    Calls Try.prog 44 #[.slice x.a x.ws.length c, .int .i64 (k : Int)] w fun e w' => e = .returned (.int .i64 ((k + x.ws.length : Nat) : Int)) ∧ w' = w := by
  have H := kide h
  clear h
  generalize x.ws.length = n at *
  go_enter Try.func44, Try.ntmps44
  go_wp2_with fail
  go_loop [1, 5] (fun q i => ∃ j : Nat, j ≤ n ∧ i = .int .i64 j ∧ q = .int .i64 ((k + j : Nat) : Int)) (fun _ i => n - (intOf i).toNat)
  case atStart => exact ⟨0, Nat.zero_le _, rfl, rfl⟩
  case round =>
    obtain ⟨j, hj, rfl, rfl⟩ := hrel
    by_cases hlt : j < n
    · obtain ⟨h, e, hcell⟩ := H.out j hlt
      rw [e]
      obtain ⟨K, hK⟩ : ∃ K, k + j = K := ⟨_, rfl⟩
      rw [hK] at hcell ⊢
      have HK := kide hK
      have hKb : K < 9000000000000000000 := by omega
      have hne : ((K : Int) != (K : Int)) = false := by simp
      have i0 : (j : Int) < (n : Int) := by omega
      clear hK
      go_wp2_with fail
      go_round
      case rel => exact ⟨j + 1, by omega, by go_num, by rw [show k + (j + 1) = K + 1 by have := HK.out; omega]; first | go_num | (simp; done)⟩
      case measure => simp [intOf]; omega
    · have e : j = n := by omega
      subst e
      go_wp2_with fail
      go_ret
      exact ⟨rfl, rfl⟩

set_option maxHeartbeats 1000000 in
theorem heldB_any (g c n k : Nat) (l : List Bw) (w : World) (h : HeldB w g l k) (hws : ∀ x ∈ l, x.ws.length ≤ 1048576) (hn : l.length = n) (hn2 : n ≤ 1048576) (hk : k ≤ 1) :
    Calls Try.prog 14 #[.slice (some ⟨g, 0, none⟩) n c, .int .i64 (k : Int)] w fun e w' => e = .returned (.int .i64 (mkAt l k l.length : Int)) ∧ w' = w := by
  have H := kide h
  have HN := kide hn
  have HW := kide hws
  have HLE := kide (fun i => mkAt_le (k := k) hws i)
  clear h hws hn
  go_enter Try.func14, Try.ntmps14
  go_wp2_with fail
  go_loop [1, 5] (fun q i => ∃ j : Nat, j ≤ n ∧ i = .int .i64 j ∧ q = .int .i64 (mkAt l k j : Int)) (fun _ i => n - (intOf i).toNat)
  case atStart => exact ⟨0, Nat.zero_le _, rfl, rfl⟩
  case round =>
    obtain ⟨j, hj, rfl, rfl⟩ := hrel
    by_cases hlt : j < n
    · obtain ⟨x, gx⟩ : ∃ x, l[j]? = some x := ⟨l[j]'(by rw [HN.out]; exact hlt), List.getElem?_eq_getElem _⟩
      obtain ⟨p0, p3, p4⟩ := H.out j x gx
      have hKb := HLE.out j
      have hst : mkAt l k (j + 1) = mkAt l k j + 1 + x.ws.length := by simp [mkAt, lnAt, gx]
      have HST := kide hst
      generalize hKK : mkAt l k j = K at *
      have hKb2 : K ≤ 7000000000000000000 := by omega
      have hU := heldU_ex x.c (K + 1) x w (by omega) (HW.out x (List.mem_of_getElem? gx)) (fun t ht => p4 t ht)
      rw [show ((K + 1 : Nat) : Int) = (K : Int) + 1 by omega] at hU
      have HU := kide hU
      have n0 : ((K : Int) != (K : Int)) = false := by simp
      have i0 : (j : Int) < (n : Int) := by omega
      have hp : 0 ≤ (((K + 1 + x.ws.length : Nat) : Int)) := by omega
      clear p4 hU gx hst hKK
      go_wp2_with fail
      refine Calls.mono HU.out ?_
      rintro e w3 ⟨rfl, hw3⟩
      obtain rfl := hw3.symm
      go_wp2_with fail
      go_round
      case rel => exact ⟨j + 1, by omega, by go_num, by rw [HST.out]; first | (congr 1; omega) | rfl⟩
      case measure => simp [intOf]; omega
    · have e : j = n := by omega
      subst e
      go_wp2_with fail
      go_ret
      exact ⟨by rw [HN.out]; rfl, rfl⟩

/-- A row of bars that holds its marks. -/
def HeldV (w : World) (v : Value) (l : List Bw) (k : Nat) : Prop := l = [] ∨ ∃ g n c, v = .slice (some ⟨g, 0, none⟩) n c ∧ HeldB w g l k
theorem HeldV.later {w w' : World} {v : Value} {l : List Bw} {k : Nat} (h : HeldV w v l k) (hb : Below w.heap.size w w') : HeldV w' v l k := by
  rcases h with h | ⟨g, n, c, e, h⟩
  · exact .inl h
  · exact .inr ⟨g, n, c, e, h.later hb⟩

theorem markB_nil (a : Option Addr) (c k : Nat) (w : World) : Calls Try.prog 13 #[.slice a 0 c, .int .i64 (k : Int)] w fun e w' => e = .returned (.int .i64 (k : Int)) ∧ w' = w := by
  go_enter Try.func13, Try.ntmps13
  go_wp2_with fail
  go_loop [1, 5] (fun q i => q = .int .i64 (k : Int) ∧ i = .int .i64 0) (fun _ _ => 0)
  case atStart => exact ⟨rfl, rfl⟩
  case round =>
    obtain ⟨rfl, rfl⟩ := hrel
    go_wp2_with fail
    go_ret
    exact ⟨rfl, rfl⟩
theorem heldB_nil (a : Option Addr) (c k : Nat) (w : World) : Calls Try.prog 14 #[.slice a 0 c, .int .i64 (k : Int)] w fun e w' => e = .returned (.int .i64 (k : Int)) ∧ w' = w := by
  go_enter Try.func14, Try.ntmps14
  go_wp2_with fail
  go_loop [1, 5] (fun q i => q = .int .i64 (k : Int) ∧ i = .int .i64 0) (fun _ _ => 0)
  case atStart => exact ⟨rfl, rfl⟩
  case round =>
    obtain ⟨rfl, rfl⟩ := hrel
    go_wp2_with fail
    go_ret
    exact ⟨rfl, rfl⟩

theorem markV_any (B hi n c : Nat) (a : Option Addr) (l : List Bw) (w : World) (hbs : Bs w B (.slice a n c) l) (hw : ∀ x ∈ l, x.ws.length ≤ 1048576) (hn : l.length = n) (hn2 : n ≤ 1048576) (hh : w.heap.size ≤ hi) :
    Calls Try.prog 13 #[.slice a n c, .int .i64 1] w fun e w' => e = .returned (.int .i64 (mkAt l 1 l.length : Int)) ∧ HeldV w' (.slice a n c) l 1 ∧ Out B hi w w' := by
  by_cases e : l = []
  · subst e
    subst hn
    refine (markB_nil a c 1 w).mono (fun e w' h => ⟨h.1, .inl rfl, ?_⟩)
    rw [h.2]
    exact Out.refl _ _ _
  · obtain ⟨g, rfl⟩ : ∃ g, a = some ⟨g, 0, none⟩ := by
      rcases hbs.row.2 with ⟨-, h0⟩ | ⟨g, cap, cur, e', -⟩
      · exact absurd (List.eq_nil_of_length_eq_zero h0) e
      · cases e'; exact ⟨g, rfl⟩
    obtain ⟨hr, h1, h2⟩ := RowSh.of hbs.row
    refine (markB_own B hi g c n 1 l w hr h1 (by omega) (fun x hx => ⟨WSh.of (hbs.nw x hx) hh, hw x hx⟩) hbs.dj hn hn2 (Nat.le_refl _)).mono (fun e w' h => ⟨h.1, .inr ⟨g, n, c, rfl, h.2.1⟩, h.2.2⟩)

theorem heldV_any (n c : Nat) (a : Option Addr) (l : List Bw) (w : World) (h : HeldV w (.slice a n c) l 1) (hw : ∀ x ∈ l, x.ws.length ≤ 1048576) (hn : l.length = n) (hn2 : n ≤ 1048576) :
    Calls Try.prog 14 #[.slice a n c, .int .i64 1] w fun e w' => e = .returned (.int .i64 (mkAt l 1 l.length : Int)) ∧ w' = w := by
  rcases h with rfl | ⟨g, n', c', e, h⟩
  · subst hn
    exact heldB_nil a c 1 w
  · cases e
    exact heldB_any g c n 1 l w h hw hn hn2 (Nat.le_refl _)

end Go.Proofs.Ythoiajpbpoglfaa

/- What the laws carry along: rows of words between two blocks, copied arguments, how long arguments are. -/
namespace Go.Proofs.Ythoiajpbpoglfaa
set_option linter.unusedVariables false
set_option linter.unusedSimpArgs false
open Go.RowKit

theorem nw_move {w w' : World} {lo : Nat} {a : Option Addr} {xs : List Nat} (h : Nw w lo a xs) (hk : ∀ p, a = some p → w'.heap[p.block]? = w.heap[p.block]?) : Nw w' lo a xs := by
  rcases h with ⟨h1, h2⟩ | ⟨g, cur, h1, h2, h3, h4⟩
  · refine .inl ⟨h1, fun x e => ?_⟩
    obtain ⟨a', b, cur, c⟩ := h2 x e
    exact ⟨a', b, cur, by rw [hk _ e]; exact c⟩
  · exact .inr ⟨g, cur, h1, h2, by rw [hk ⟨g, 0, none⟩ h1]; exact h3, h4⟩

/-- A row of words of one's own, from a block on, below another. -/
structure Tb (w : World) (lo hi : Nat) (v : Value) (l : List Bw) : Prop where
  bs : Bs w lo v l
  top : ∀ b, v.ownBlock = some b → b < hi
  tops : ∀ x ∈ l, ∀ p, x.a = some p → p.block < hi
theorem Tb.of {w : World} {lo : Nat} {v : Value} {l : List Bw} (h : Bs w lo v l) : Tb w lo w.heap.size v l := ⟨h, fun b hb => (h.row.lt hb).2, fun x hx p hp => (nw_lt (h.nw x hx) hp).2⟩
theorem Tb.keep {w w' : World} {lo hi B1 B2 : Nat} {v : Value} {l : List Bw} (h : Tb w lo hi v l) (ho : Out B1 B2 w w') (hd : hi ≤ B1 ∨ B2 ≤ lo) : Tb w' lo hi v l where
  bs := ⟨h.bs.row.move fun b hb => by
      have h1 := h.bs.row.lt hb
      have h2 := h.top b hb
      exact ho.2.2.2.2 b h1.2 (by omega), fun x hx => nw_move (h.bs.nw x hx) fun p hp => by
      have h1 := nw_lt (h.bs.nw x hx) hp
      have h2 := h.tops x hx p hp
      exact ho.2.2.2.2 p.block h1.2 (by omega), h.bs.dj⟩
  top := h.top
  tops := h.tops
theorem Tb.later {w w' : World} {lo hi : Nat} {v : Value} {l : List Bw} (h : Tb w lo hi v l) (hb : Below w.heap.size w w') : Tb w' lo hi v l := ⟨h.bs.later hb, h.top, h.tops⟩

/-- What may stand in a row of words. -/
def okW (X : List (Int × List Nat)) : Prop := X.length ≤ 1048576 ∧ ∀ x ∈ X, in64 x.1 ∧ x.2.length ≤ 1048576 ∧ ∀ y ∈ x.2, y < 18446744073709551616
theorem okW.of {w : World} {a : Option Addr} {xs : List Bw} (h : RdW w a xs) : okW (xs.map Bw.ct) := by
  refine ⟨by simpa using h.1, fun x hx => ?_⟩
  obtain ⟨y, hy, rfl⟩ := List.mem_map.1 hx
  obtain ⟨i, hi, e⟩ := List.mem_iff_getElem.1 hy
  rcases h.2 with h0 | ⟨b, o, -, hc⟩
  · subst h0; simp at hy
  · obtain ⟨-, -, h3, h4⟩ := hc i y (by rw [List.getElem?_eq_getElem hi, e])
    exact ⟨h4, h3.1, h3.2.1⟩
theorem Bs.rd {w : World} {lo : Nat} {v : Value} {l : List Bw} (h : Bs w lo v l) (hX : okW (l.map Bw.ct)) : ∃ a c, v = .slice a l.length c ∧ RdW w a l :=
  h.row.rd (by simpa using hX.1) fun x hx => by
    obtain ⟨h1, h2, h3⟩ := hX.2 x.ct (List.mem_map_of_mem hx)
    exact ⟨(h.nw x hx).rd h2 h3, h1⟩

/-- Two such rows that say the same are told to be the same. -/
theorem eqBs {w : World} {lo lo' : Nat} {v v' : Value} {l l' : List Bw} (h : Bs w lo v l) (h' : Bs w lo' v' l') (hX : okW (l.map Bw.ct)) (he : l'.map Bw.ct = l.map Bw.ct) :
    Calls Try.prog 10 #[v, v'] w fun e w' => e = .returned (.bool true) ∧ Below w.heap.size w w' := by
  obtain ⟨a, c, rfl, hr⟩ := h.rd hX
  obtain ⟨a', c', rfl, hr'⟩ := h'.rd (by rw [he]; exact hX)
  have hl : l'.length = l.length := by have := congrArg List.length he; simpa using this
  rw [hl]
  exact eqBitsS_same a a' c c' l l' w hr hr' he.symm l.length rfl hl

theorem Out.bel {w v v' : World} {B1 B2 : Nat} (h : Below w.heap.size w v) (ho : Out B1 B2 v v') (h1 : w.heap.size ≤ B1) : Below w.heap.size w v' :=
  h.trans (ho.below h1 h.size)

end Go.Proofs.Ythoiajpbpoglfaa
