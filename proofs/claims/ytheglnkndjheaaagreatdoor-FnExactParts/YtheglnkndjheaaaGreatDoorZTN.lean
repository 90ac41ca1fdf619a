/- Several texts in one. -/
import Derived.Test.YtheglnkndjheaaaGreatDoorZA
import Derived.Test.YtheglnkndjheaaaGreatDoorTNA
import Derived.Test.YtheglnkndjheaaaGreatDoorZQA
import Derived.Test.YtheglnkndjheaaaGreatDoorZQA

/- A store into a row that may be turned. -/
namespace Go.Proofs.YtheglnkndjheaaaGreatDoor
set_option linter.unusedVariables false
set_option linter.unusedSimpArgs false
open Go.RowKit
theorem grow_setT {w wr : World} {g : Nat} (h : w.grownBy wr (some g)) (i : Nat) (v : Value) : w.grownBy (wr.setCell ⟨g, i, none⟩ v) (some g) :=
  ⟨h.os, h.tape, h.output, by simpa using h.size, fun k hk hne => by rw [heap_setCell_other wr ⟨g, i, none⟩ k v (fun e => hne (by simp [e]))]; exact h.block k hk hne⟩
end Go.Proofs.YtheglnkndjheaaaGreatDoor

/- A row of nodes of one's own is marked; a row that holds its marks is told so. -/
namespace Go.Proofs.YtheglnkndjheaaaGreatDoor
set_option linter.unusedVariables false
set_option linter.unusedSimpArgs false
open Go.RowKit

/-- A row of numbers of one kind, or none: to be marked. -/
def RSh (t : TypeId) (kd : IntKind) (w : World) (lo hi : Nat) (a : Option Addr) (n : Nat) : Prop := n = 0 ∨ ∃ h cur, a = some ⟨h, 0, none⟩ ∧ lo ≤ h ∧ h < hi ∧ w.heap[h]? = some (.cells cur t (0, 0)) ∧ ∀ i, i < n → ∃ y : Int, cur[i]? = some (.int kd y)
theorem RSh.shp {t : TypeId} {kd : IntKind} {w w' : World} {lo hi n : Nat} {a : Option Addr} (h : RSh t kd w lo hi a n) (hs : Shp w w') : RSh t kd w' lo hi a n := by
  rcases h with h | ⟨g, cur, h1, h2, h3, h4, h5⟩
  · exact .inl h
  · obtain ⟨cur', e', r⟩ := hs g cur _ h4
    exact .inr ⟨g, cur', h1, h2, h3, e', fun i hi => keep_int r (h5 i hi)⟩
theorem RSh.of_nw {w : World} {lo hi : Nat} {a : Option Addr} {xs : List Nat} (h : Nw w lo a xs) (hh : w.heap.size ≤ hi) : RSh 123 .u64 w lo hi a xs.length := by
  rcases h with ⟨h1, -⟩ | ⟨g, cur, h1, h2, h3, h4⟩
  · exact .inl (by rw [h1]; rfl)
  · exact .inr ⟨g, cur, h1, h2, Nat.lt_of_lt_of_le (lt_of_block h3) hh, h3, fun t ht => ⟨_, h4 t ht⟩⟩
theorem RSh.of_ni {w : World} {lo hi : Nat} {a : Option Addr} {xs : List Int} (h : Ni w lo a xs) (hh : w.heap.size ≤ hi) : RSh 2 .i64 w lo hi a xs.length := by
  rcases h with ⟨h1, -⟩ | ⟨g, cur, h1, h2, h3, h4⟩
  · exact .inl (by rw [h1]; rfl)
  · exact .inr ⟨g, cur, h1, h2, Nat.lt_of_lt_of_le (lt_of_block h3) hh, h3, fun t ht => ⟨_, h4 t ht⟩⟩
/-- It holds the marks from k on. -/
def Mkd (kd : IntKind) (w : World) (a : Option Addr) (n k : Nat) : Prop := ∀ t, t < n → ∃ h, a = some ⟨h, 0, none⟩ ∧ w.cell? ⟨h, t, none⟩ = some (.int kd ((k + t : Nat) : Int))
theorem Mkd.keep {kd : IntKind} {w w' : World} {a : Option Addr} {n k : Nat} (h : Mkd kd w a n k) (hk : ∀ p, n ≠ 0 → a = some p → w'.heap[p.block]? = w.heap[p.block]?) : Mkd kd w' a n k := fun t ht => by
  obtain ⟨b, e, hc⟩ := h t ht
  exact ⟨b, e, (World.cell?_of_block (a := ⟨b, t, none⟩) (show w'.heap[b]? = w.heap[b]? from hk ⟨b, 0, none⟩ (by omega) e)).trans hc⟩
theorem Mkd.lt {kd : IntKind} {w : World} {a : Option Addr} {n k : Nat} (h : Mkd kd w a n k) {p : Addr} (hn : n ≠ 0) (hp : a = some p) : p.block < w.heap.size := by
  obtain ⟨b, e, hc⟩ := h 0 (by omega)
  rw [e] at hp
  cases hp
  exact block_lt_of_cell hc

theorem cell_neT {w : World} {g o o' : Nat} {cur : Array Value} {t : TypeId} (hg : w.heap[g]? = some (.cells cur t (0, 0))) (v : Value) (h : o ≠ o') : (w.setCell ⟨g, o, none⟩ v).cell? ⟨g, o', none⟩ = w.cell? ⟨g, o', none⟩ := by
  rw [cell_of_row _ g o' _ _ _ (heap_setCell_same w g o _ _ v hg), cell_of_row w g o' _ _ _ hg, Array.getElem?_setIfInBounds_ne h]

set_option maxHeartbeats 1000000 in
theorem markU_ra (lo hi c k n : Nat) (a : Option Addr) (w : World) (h : RSh 123 .u64 w lo hi a n) (hn : n ≤ 1048576) (hk : k ≤ 8000000000000000000) :
    Calls Tryz.prog 60 #[.slice a n c, .int .i64 (k : Int)] w fun e w' => e = .returned (.int .i64 ((k + n : Nat) : Int)) ∧ Shp w w' ∧ Out lo hi w w' ∧ Mkd .u64 w' a n k ∧ (∀ b, (∀ p, n ≠ 0 → a = some p → p.block ≠ b) → w'.heap[b]? = w.heap[b]?) := by
  have H := kide h
  clear h
  go_enter Tryz.func60, Tryz.ntmps60
  go_wp2_with fail
  go_loopw [1, 5] (fun q i wr => ∃ (j : Nat), j ≤ n ∧ i = .int .i64 (j : Int) ∧ q = .int .i64 ((k + j : Nat) : Int) ∧ Shp w wr ∧ Out lo hi w wr ∧ Mkd .u64 wr a j k ∧ (∀ b, (∀ p, n ≠ 0 → a = some p → p.block ≠ b) → wr.heap[b]? = w.heap[b]?)) (fun _ i _ => n - (intOf i).toNat)
  case atStart => exact ⟨0, Nat.zero_le _, rfl, rfl, Shp.refl _, Out.refl _ _ _, fun t h => by omega, fun _ _ => rfl⟩
  case round =>
    obtain ⟨j, hj, rfl, rfl, hs, ho, hm, hb⟩ := hrel
    have HS := kide hs
    have HO := kide ho
    have HM := kide hm
    have HB := kide hb
    by_cases hlt : j < n
    · have hsh := H.out.shp hs
      rcases hsh with h0 | ⟨g, cu, e', hl, hh, hg, hc⟩
      · omega
      obtain ⟨y0, hy0⟩ := hc j hlt
      have q0 : wr.cell? ⟨g, j, none⟩ = some (.int .u64 y0) := by rw [cell_of_row wr g j _ _ _ hg]; exact hy0
      have r0 := frozen_of_row wr g j _ _ hg
      obtain ⟨K, hK⟩ : ∃ K, k + j = K := ⟨_, rfl⟩
      rw [hK]
      have HK := kide hK
      have hKb : K < 9000000000000000000 := by omega
      have i0 : (j : Int) < (n : Int) := by omega
      have HS2 := kide (hs.trans (Shp.set q0 (K : Int)))
      have HO2 := kide (ho.set hl hh (.int .u64 (K : Int)) (o := j))
      have HM2 : Hid (∀ t, t < j + 1 → ∃ h, a = some ⟨h, 0, none⟩ ∧ (wr.setCell ⟨g, j, none⟩ (.int .u64 (K : Int))).cell? ⟨h, t, none⟩ = some (.int .u64 ((k + t : Nat) : Int))) := fun t ht => by
        by_cases et : t = j
        · subst et
          refine ⟨g, e', ?_⟩
          rw [cell_of_row _ g t _ _ _ (heap_setCell_same wr g t _ _ _ hg), Array.getElem?_setIfInBounds_self_of_lt (Array.getElem?_eq_some_iff.1 hy0).1, HK.out]
        · obtain ⟨h, e, hc'⟩ := hm t (by omega)
          rw [e'] at e
          cases e
          exact ⟨g, e', by rw [cell_neT hg _ (fun h => et h.symm)]; exact hc'⟩
      have HB2 : Hid (∀ b, (∀ p, n ≠ 0 → a = some p → p.block ≠ b) → (wr.setCell ⟨g, j, none⟩ (.int .u64 (K : Int))).heap[b]? = w.heap[b]?) := fun b h => by
        rw [heap_setCell_other _ _ _ _ (by simpa using (h _ (by omega) e').symm)]
        exact hb b h
      rw [e'] at HM2 HB2
      rw [e']
      clear hc hs ho hK hy0 hg hm hb
      go_wp2_with fail
      go_roundw
      case rel => exact ⟨j + 1, by omega, by go_num, by rw [show k + (j + 1) = K + 1 by have := HK.out; omega]; first | go_num | (simp; done), HS2.out, HO2.out, HM2.out, HB2.out⟩
      case measure => simp [intOf]; omega
    · have e : j = n := by omega
      subst e
      clear hs ho hm hb
      go_wp2_with fail
      go_ret
      exact ⟨rfl, HS.out, HO.out, HM.out, HB.out⟩


set_option maxHeartbeats 1000000 in
theorem markI_ra (lo hi c k n : Nat) (a : Option Addr) (w : World) (h : RSh 2 .i64 w lo hi a n) (hn : n ≤ 1048576) (hk : k ≤ 8000000000000000000) :
    Calls Tryz.prog 22 #[.slice a n c, .int .i64 (k : Int)] w fun e w' => e = .returned (.int .i64 ((k + n : Nat) : Int)) ∧ Shp w w' ∧ Out lo hi w w' ∧ Mkd .i64 w' a n k ∧ (∀ b, (∀ p, n ≠ 0 → a = some p → p.block ≠ b) → w'.heap[b]? = w.heap[b]?) := by
  have H := kide h
  clear h
  go_enter Tryz.func22, Tryz.ntmps22
  go_wp2_with fail
  go_loopw [1, 5] (fun q i wr => ∃ (j : Nat), j ≤ n ∧ i = .int .i64 (j : Int) ∧ q = .int .i64 ((k + j : Nat) : Int) ∧ Shp w wr ∧ Out lo hi w wr ∧ Mkd .i64 wr a j k ∧ (∀ b, (∀ p, n ≠ 0 → a = some p → p.block ≠ b) → wr.heap[b]? = w.heap[b]?)) (fun _ i _ => n - (intOf i).toNat)
  case atStart => exact ⟨0, Nat.zero_le _, rfl, rfl, Shp.refl _, Out.refl _ _ _, fun t h => by omega, fun _ _ => rfl⟩
  case round =>
    obtain ⟨j, hj, rfl, rfl, hs, ho, hm, hb⟩ := hrel
    have HS := kide hs
    have HO := kide ho
    have HM := kide hm
    have HB := kide hb
    by_cases hlt : j < n
    · have hsh := H.out.shp hs
      rcases hsh with h0 | ⟨g, cu, e', hl, hh, hg, hc⟩
      · omega
      obtain ⟨y0, hy0⟩ := hc j hlt
      have q0 : wr.cell? ⟨g, j, none⟩ = some (.int .i64 y0) := by rw [cell_of_row wr g j _ _ _ hg]; exact hy0
      have r0 := frozen_of_row wr g j _ _ hg
      obtain ⟨K, hK⟩ : ∃ K, k + j = K := ⟨_, rfl⟩
      rw [hK]
      have HK := kide hK
      have hKb : K < 9000000000000000000 := by omega
      have i0 : (j : Int) < (n : Int) := by omega
      have HS2 := kide (hs.trans (Shp.set q0 (K : Int)))
      have HO2 := kide (ho.set hl hh (.int .i64 (K : Int)) (o := j))
      have HM2 : Hid (∀ t, t < j + 1 → ∃ h, a = some ⟨h, 0, none⟩ ∧ (wr.setCell ⟨g, j, none⟩ (.int .i64 (K : Int))).cell? ⟨h, t, none⟩ = some (.int .i64 ((k + t : Nat) : Int))) := fun t ht => by
        by_cases et : t = j
        · subst et
          refine ⟨g, e', ?_⟩
          rw [cell_of_row _ g t _ _ _ (heap_setCell_same wr g t _ _ _ hg), Array.getElem?_setIfInBounds_self_of_lt (Array.getElem?_eq_some_iff.1 hy0).1, HK.out]
        · obtain ⟨h, e, hc'⟩ := hm t (by omega)
          rw [e'] at e
          cases e
          exact ⟨g, e', by rw [cell_neT hg _ (fun h => et h.symm)]; exact hc'⟩
      have HB2 : Hid (∀ b, (∀ p, n ≠ 0 → a = some p → p.block ≠ b) → (wr.setCell ⟨g, j, none⟩ (.int .i64 (K : Int))).heap[b]? = w.heap[b]?) := fun b h => by
        rw [heap_setCell_other _ _ _ _ (by simpa using (h _ (by omega) e').symm)]
        exact hb b h
      rw [e'] at HM2 HB2
      rw [e']
      clear hc hs ho hK hy0 hg hm hb
      go_wp2_with fail
      go_roundw
      case rel => exact ⟨j + 1, by omega, by go_num, by rw [show k + (j + 1) = K + 1 by have := HK.out; omega]; first | go_num | (simp; done), HS2.out, HO2.out, HM2.out, HB2.out⟩
      case measure => simp [intOf]; omega
    · have e : j = n := by omega
      subst e
      clear hs ho hm hb
      go_wp2_with fail
      go_ret
      exact ⟨rfl, HS.out, HO.out, HM.out, HB.out⟩

theorem heldI_ra (c k n : Nat) (a : Option Addr) (w : World) (hk : k ≤ 8000000000000000000) (hn : n ≤ 1048576) (h : Mkd .i64 w a n k) :
    Calls Tryz.prog 23 #[.slice a n c, .int .i64 (k : Int)] w fun e w' => e = .returned (.int .i64 ((k + n : Nat) : Int)) ∧ w' = w := by
  have H := kide h
  clear h
  go_enter Tryz.func23, Tryz.ntmps23
  go_wp2_with fail
  go_loop [1, 5] (fun q i => ∃ j : Nat, j ≤ n ∧ i = .int .i64 j ∧ q = .int .i64 ((k + j : Nat) : Int)) (fun _ i => n - (intOf i).toNat)
  case atStart => exact ⟨0, Nat.zero_le _, rfl, rfl⟩
  case round =>
    obtain ⟨j, hj, rfl, rfl⟩ := hrel
    by_cases hlt : j < n
    · obtain ⟨h, e, hcell⟩ := H.out j hlt
      rw [e]
      obtain ⟨K, hK⟩ : ∃ K, k + j = K := ⟨_, rfl⟩
      rw [hK] at hcell ⊢
      have HK := kide hK
      have hKb : K < 9000000000000000000 := by omega
      have hne : ((K : Int) != (K : Int)) = false := by simp
      have i0 : (j : Int) < (n : Int) := by omega
      clear hK
      go_wp2_with fail
      go_round
      case rel => exact ⟨j + 1, by omega, by go_num, by rw [show k + (j + 1) = K + 1 by have := HK.out; omega]; first | go_num | (simp; done)⟩
      case measure => simp [intOf]; omega
    · have e : j = n := by omega
      subst e
      go_wp2_with fail
      go_ret
      exact ⟨rfl, rfl⟩

/-- The mark at which the i-th node begins. -/
def lnT (l : List Tg) (i : Nat) : Nat := match l[i]? with | some x => x.ct.ws.length + x.ct.ks.length | none => 0
def mkT (l : List Tg) (k : Nat) : Nat → Nat
  | 0 => k
  | i + 1 => mkT l k i + 5 + lnT l i
def shT (l : List Tg) : Prop := ∀ x ∈ l, x.ct.ws.length ≤ 1048576 ∧ x.ct.ks.length ≤ 1048576
theorem mkT_le {l : List Tg} {k : Nat} (h : shT l) : ∀ i, mkT l k i ≤ k + i * 2097157
  | 0 => by simp [mkT]
  | i + 1 => by
    have h1 := mkT_le (k := k) h i
    have h2 : lnT l i ≤ 2097152 := by
      unfold lnT
      cases e : l[i]? with
      | none => simp
      | some x => have := h x (List.mem_of_getElem? e); simp only; omega
    unfold mkT
    omega
theorem mkT_ge (l : List Tg) (k : Nat) : ∀ i, k ≤ mkT l k i
  | 0 => Nat.le_refl _
  | i + 1 => by have := mkT_ge l k i; unfold mkT; omega

/-- What the row says of the places of words and kids; the five numbers of a node. -/
def TnS (f : Nat → Value) (l : List Tg) : Prop := ∀ i x, l[i]? = some x → (∃ y0 y1 y2 y3 y4 : Int, f (i * 7) = .int .i64 y0 ∧ f (i * 7 + 1) = .int .i64 y1 ∧ f (i * 7 + 2) = .int .i64 y2 ∧ f (i * 7 + 3) = .int .i64 y3 ∧ f (i * 7 + 4) = .int .i64 y4) ∧ f (i * 7 + 5) = .slice x.wa x.ct.ws.length x.wc ∧ f (i * 7 + 6) = .slice x.ka x.ct.ks.length x.kc
def FvK (f : Nat → Value) (i K : Nat) : Prop := f (i * 7) = .int .i64 (K : Int) ∧ f (i * 7 + 1) = .int .i64 ((K : Int) + 1) ∧ f (i * 7 + 2) = .int .i64 ((K : Int) + 1 + 1) ∧ f (i * 7 + 3) = .int .i64 ((K : Int) + 1 + 1 + 1) ∧ f (i * 7 + 4) = .int .i64 ((K : Int) + 1 + 1 + 1 + 1)

/-- Each node holds its marks: its words and kids do. -/
def SubT (w : World) (x : Tg) (K : Nat) : Prop := Mkd .u64 w x.wa x.ct.ws.length (K + 5) ∧ Mkd .i64 w x.ka x.ct.ks.length (K + 5 + x.ct.ws.length)
def HeldT (w : World) (g N : Nat) (l : List Tg) (k : Nat) : Prop := ∃ f, w.rowIs g 104 N f ∧ TnS f l ∧ ∀ i x, l[i]? = some x → FvK f i (mkT l k i) ∧ SubT w x (mkT l k i)
theorem HeldT.keep {w w' : World} {g N k : Nat} {l : List Tg} (h : HeldT w g N l k) (hg : w'.heap[g]? = w.heap[g]?) (hw : ∀ x ∈ l, ∀ p, x.ct.ws.length ≠ 0 → x.wa = some p → w'.heap[p.block]? = w.heap[p.block]?) (hk : ∀ x ∈ l, ∀ p, x.ct.ks.length ≠ 0 → x.ka = some p → w'.heap[p.block]? = w.heap[p.block]?) : HeldT w' g N l k := by
  obtain ⟨f, hr, ht, hh⟩ := h
  refine ⟨f, World.rowIs.of_block hr hg, ht, fun i x hi => ?_⟩
  obtain ⟨h1, h2, h3⟩ := hh i x hi
  have hm := List.mem_of_getElem? hi
  exact ⟨h1, h2.keep (hw x hm), h3.keep (hk x hm)⟩
theorem HeldT.later {w w' : World} {g N k : Nat} {l : List Tg} (h : HeldT w g N l k) (hb : Below w.heap.size w w') : HeldT w' g N l k := by
  obtain ⟨f, hr, ht, hh⟩ := id h
  refine h.keep (hb.block g (by obtain ⟨cc, h9, -⟩ := hr; exact lt_of_block h9)) (fun x hx p hn hp => ?_) (fun x hx p hn hp => ?_)
  · obtain ⟨i, hi⟩ := List.mem_iff_getElem?.1 hx
    exact hb.block _ ((hh i x hi).2.1.lt hn hp)
  · obtain ⟨i, hi⟩ := List.mem_iff_getElem?.1 hx
    exact hb.block _ ((hh i x hi).2.2.lt hn hp)

def RetMkT (w : World) (lo hi g N : Nat) (l : List Tg) (k : Nat) (e : Ending) (w' : World) : Prop := e = .returned (.int .i64 (mkT l k l.length : Int)) ∧ HeldT w' g N l k ∧ Out lo hi w w' ∧ Shp w w' ∧ ∀ b, b ≠ g → (∀ x ∈ l, ∀ p, x.ct.ws.length ≠ 0 → x.wa = some p → p.block ≠ b) → (∀ x ∈ l, ∀ p, x.ct.ks.length ≠ 0 → x.ka = some p → p.block ≠ b) → w'.heap[b]? = w.heap[b]?

theorem shp_row {w : World} {g N o : Nat} {f : Nat → Value} (h : w.rowIs g 104 N f) (ho : o < N) {y : Int} (hy : f o = .int .i64 y) (z : Int) : Shp w (w.setCell ⟨g, o, none⟩ (.int .i64 z)) := Shp.set (x := y) (by rw [h.cell ho, hy]) z

set_option maxHeartbeats 8000000 in
set_option maxRecDepth 100000 in
theorem markT_own (lo hi g c n k N : Nat) (l : List Tg) (w : World) (f0 : Nat → Value) (hrow : w.rowIs g 104 N f0) (hN : n * 7 ≤ N) (hf : TnS f0 l) (hg1 : lo ≤ g) (hg2 : g < hi)
    (hsh : ∀ x ∈ l, RSh 123 .u64 w lo hi x.wa x.ct.ws.length ∧ RSh 2 .i64 w lo hi x.ka x.ct.ks.length) (hl : shT l) (hwd : DjN Tg.wa l) (hkd : DjN Tg.ka l) (hn : l.length = n) (hn2 : n ≤ 1048576) (hk : k ≤ 4000000000000000000) :
    Calls Tryz.prog 38 #[.slice (some ⟨g, 0, none⟩) n c, .int .i64 (k : Int)] w (RetMkT w lo hi g N l k) := by
  have HSH := kide hsh
  have HSL := kide hl
  have HWD := kide hwd
  have HKD := kide hkd
  have HN := kide hn
  have HLE := kide (fun i => mkT_le (k := k) hl i)
  have HNN := kide hN
  have HF0 := kide hf
  have HR0 := kide hrow
  clear hsh hl hwd hkd hn hf hrow
  go_enter Tryz.func38, Tryz.ntmps38
  go_wp2_with fail
  go_loopw [1, 5] (fun q i wr => ∃ (j : Nat) (f : Nat → Value), j ≤ n ∧ i = .int .i64 (j : Int) ∧ q = .int .i64 (mkT l k j : Int) ∧ wr.rowIs g 104 N f ∧ TnS f l ∧ Shp w wr ∧ Out lo hi w wr ∧ (∀ i x, i < j → l[i]? = some x → FvK f i (mkT l k i) ∧ SubT wr x (mkT l k i)) ∧ (∀ b, b ≠ g → (∀ x ∈ l, ∀ p, x.ct.ws.length ≠ 0 → x.wa = some p → p.block ≠ b) → (∀ x ∈ l, ∀ p, x.ct.ks.length ≠ 0 → x.ka = some p → p.block ≠ b) → wr.heap[b]? = w.heap[b]?)) (fun _ i _ => n - (intOf i).toNat)
  case atStart => exact ⟨0, f0, Nat.zero_le _, rfl, rfl, HR0.out, HF0.out, Shp.refl _, Out.refl _ _ _, fun i x h => by omega, fun _ _ _ _ => rfl⟩
  case round =>
    clear HF0 HR0
    obtain ⟨j, f, hj, rfl, rfl, hrow, hf, hs, ho, hh, hb⟩ := hrel
    have HRW := kide hrow
    have HF := kide hf
    have HS := kide hs
    have HO := kide ho
    have HH := kide hh
    have HB := kide hb
    by_cases hlt : j < n
    · obtain ⟨x, gx⟩ : ∃ x, l[j]? = some x := ⟨l[j]'(by rw [HN.out]; exact hlt), List.getElem?_eq_getElem _⟩
      obtain ⟨⟨y0, y1, y2, y3, y4, e0, e1, e2, e3, e4⟩, e5, e6⟩ := hf j x gx
      have hxm := List.mem_of_getElem? gx
      obtain ⟨hrw, hrk⟩ := HSH.out x hxm
      obtain ⟨hlw, hlk⟩ := HSL.out x hxm
      have hKb := HLE.out j
      have HST : Hid (mkT l k (j + 1) = mkT l k j + 5 + (x.ct.ws.length + x.ct.ks.length)) := by show _ = _; simp [mkT, lnT, gx]
      generalize hKK : mkT l k j = K at *
      have HKK := kide hKK
      have hjN : j * 7 + 7 ≤ N := by omega
      have hKb2 : K ≤ 5000000000000000000 := by
        have : j * 2097157 ≤ 1048576 * 2097157 := Nat.mul_le_mul_right _ (by omega)
        omega
      have q0 := hrow.cell (i := j * 7) (by omega)
      have q1 := hrow.cell (i := j * 7 + 1) (by omega)
      have q2 := hrow.cell (i := j * 7 + 2) (by omega)
      have q3 := hrow.cell (i := j * 7 + 3) (by omega)
      have q4 := hrow.cell (i := j * 7 + 4) (by omega)
      have q5 := hrow.cell (i := j * 7 + 5) (by omega)
      have q6 := hrow.cell (i := j * 7 + 6) (by omega)
      rw [e0] at q0
      rw [e1] at q1
      rw [e2] at q2
      rw [e3] at q3
      rw [e4] at q4
      rw [e5] at q5
      rw [e6] at q6
      have r0 := hrow.frozen (j * 7)
      have r1 := hrow.frozen (j * 7 + 1)
      have r2 := hrow.frozen (j * 7 + 2)
      have r3 := hrow.frozen (j * 7 + 3)
      have r4 := hrow.frozen (j * 7 + 4)
      have i0 : (j : Int) < (n : Int) := by omega
      -- the five stores
      have P1 := kide (World.rowIs.set HRW.out (j * 7) (.int .i64 (K : Int)))
      have S1 := kide (hs.trans (shp_row hrow (by omega) e0 (K : Int)))
      have P2 := kide (World.rowIs.set P1.out (j * 7 + 1) (.int .i64 ((K : Int) + 1)))
      have S2 := kide (S1.out.trans (shp_row P1.out (o := j * 7 + 1) (by omega) (y := y1) (by show (if _ then _ else _) = _; rw [if_neg (by omega)]; exact e1) ((K : Int) + 1)))
      have P3 := kide (World.rowIs.set P2.out (j * 7 + 2) (.int .i64 ((K : Int) + 1 + 1)))
      have S3 := kide (S2.out.trans (shp_row P2.out (o := j * 7 + 2) (by omega) (y := y2) (by show (if _ then _ else _) = _; rw [if_neg (by omega)]; show (if _ then _ else _) = _; rw [if_neg (by omega)]; exact e2) ((K : Int) + 1 + 1)))
      have P4 := kide (World.rowIs.set P3.out (j * 7 + 3) (.int .i64 ((K : Int) + 1 + 1 + 1)))
      have S4 := kide (S3.out.trans (shp_row P3.out (o := j * 7 + 3) (by omega) (y := y3) (by show (if _ then _ else _) = _; rw [if_neg (by omega)]; show (if _ then _ else _) = _; rw [if_neg (by omega)]; show (if _ then _ else _) = _; rw [if_neg (by omega)]; exact e3) ((K : Int) + 1 + 1 + 1)))
      have P5 := kide (World.rowIs.set P4.out (j * 7 + 4) (.int .i64 ((K : Int) + 1 + 1 + 1 + 1)))
      have S5 := kide (S4.out.trans (shp_row P4.out (o := j * 7 + 4) (by omega) (y := y4) (by show (if _ then _ else _) = _; rw [if_neg (by omega)]; show (if _ then _ else _) = _; rw [if_neg (by omega)]; show (if _ then _ else _) = _; rw [if_neg (by omega)]; show (if _ then _ else _) = _; rw [if_neg (by omega)]; exact e4) ((K : Int) + 1 + 1 + 1 + 1)))
      have G5 := kide (grow_setT (grow_setT (grow_setT (grow_setT (grow_setT (World.grownBy.refl wr (some g)) (j * 7) (.int .i64 (K : Int))) (j * 7 + 1) (.int .i64 ((K : Int) + 1))) (j * 7 + 2) (.int .i64 ((K : Int) + 1 + 1))) (j * 7 + 3) (.int .i64 ((K : Int) + 1 + 1 + 1))) (j * 7 + 4) (.int .i64 ((K : Int) + 1 + 1 + 1 + 1)))
      have O5 := kide (HO.out.trans (Out.grown G5.out hg1 hg2))
      have FX : Hid (∀ o, o ≠ j * 7 → o ≠ j * 7 + 1 → o ≠ j * 7 + 2 → o ≠ j * 7 + 3 → o ≠ j * 7 + 4 → (fun i => if i = j * 7 + 4 then Value.int .i64 ((K : Int) + 1 + 1 + 1 + 1) else (fun i => if i = j * 7 + 3 then Value.int .i64 ((K : Int) + 1 + 1 + 1) else (fun i => if i = j * 7 + 2 then Value.int .i64 ((K : Int) + 1 + 1) else (fun i => if i = j * 7 + 1 then Value.int .i64 ((K : Int) + 1) else (fun i => if i = j * 7 then Value.int .i64 (K : Int) else f i) i) i) i) i) o = f o) := fun o h0 h1 h2 h3 h4 => by
        show (if _ then _ else _) = _
        rw [if_neg h4]
        show (if _ then _ else _) = _
        rw [if_neg h3]
        show (if _ then _ else _) = _
        rw [if_neg h2]
        show (if _ then _ else _) = _
        rw [if_neg h1]
        show (if _ then _ else _) = _
        rw [if_neg h0]
      have F5 : ∃ f5, (((((wr.setCell ⟨g, j * 7, none⟩ (.int .i64 (K : Int))).setCell ⟨g, j * 7 + 1, none⟩ (.int .i64 ((K : Int) + 1))).setCell ⟨g, j * 7 + 2, none⟩ (.int .i64 ((K : Int) + 1 + 1))).setCell ⟨g, j * 7 + 3, none⟩ (.int .i64 ((K : Int) + 1 + 1 + 1))).setCell ⟨g, j * 7 + 4, none⟩ (.int .i64 ((K : Int) + 1 + 1 + 1 + 1))).rowIs g 104 N f5 ∧ FvK f5 j K ∧ (∀ o, o ≠ j * 7 → o ≠ j * 7 + 1 → o ≠ j * 7 + 2 → o ≠ j * 7 + 3 → o ≠ j * 7 + 4 → f5 o = f o) := by
        refine ⟨_, P5.out, ⟨?_, ?_, ?_, ?_, ?_⟩, FX.out⟩
        all_goals simp
      have HZ : Hid ((((((wr.setCell ⟨g, j * 7, none⟩ (.int .i64 (K : Int))).setCell ⟨g, j * 7 + 1, none⟩ (.int .i64 ((K : Int) + 1))).setCell ⟨g, j * 7 + 2, none⟩ (.int .i64 ((K : Int) + 1 + 1))).setCell ⟨g, j * 7 + 3, none⟩ (.int .i64 ((K : Int) + 1 + 1 + 1))).setCell ⟨g, j * 7 + 4, none⟩ (.int .i64 ((K : Int) + 1 + 1 + 1 + 1))).heap.size = wr.heap.size) := by show _ = _; simp
      clear P1 P2 P3 P4 P5 S1 S2 S3 S4 FX
      obtain ⟨f5, hP5, hv5, hx5⟩ := F5
      have P5 := kide hP5
      have V5 := kide hv5
      have X5 := kide hx5
      have HRk := kide hrk
      have HMW := kide (markU_ra lo hi x.wc (K + 5) x.ct.ws.length x.wa _ (hrw.shp S5.out) hlw (by omega))
      have E5 := kide e5
      have E6 := kide e6
      have GX := kide gx
      have HLK := kide hlk
      have HLW := kide hlw
      clear hP5 hv5 hx5 hrow hf hs ho hh hb hrw hrk gx hKK hlw hlk hxm e0 e1 e2 e3 e4 e5 e6
      go_wp2_with fail
      generalize (((((wr.setCell ⟨g, j * 7, none⟩ (.int .i64 (K : Int))).setCell ⟨g, j * 7 + 1, none⟩ (.int .i64 ((K : Int) + 1))).setCell ⟨g, j * 7 + 2, none⟩ (.int .i64 ((K : Int) + 1 + 1))).setCell ⟨g, j * 7 + 3, none⟩ (.int .i64 ((K : Int) + 1 + 1 + 1))).setCell ⟨g, j * 7 + 4, none⟩ (.int .i64 ((K : Int) + 1 + 1 + 1 + 1))) = w1 at *
      clear q0 q1 q2 q3 q4 q5 q6 r0 r1 r2 r3 r4
      obtain ⟨K5, hK5⟩ : ∃ K5 : Nat, K + 5 = K5 := ⟨_, rfl⟩
      have hKe : (K : Int) + 1 + 1 + 1 + 1 + 1 = (K5 : Int) := by omega
      rw [hKe]
      rw [hK5] at HMW
      have HK5 := kide hK5
      have hKb5 : K5 ≤ 5100000000000000000 := by omega
      clear hK5 hKe
      refine Calls.mono HMW.out ?_
      rintro e w2 ⟨rfl, hs2, ho2, hm2, hb2⟩
      have S6 := kide (S5.out.trans hs2)
      have O6 := kide (O5.out.trans ho2)
      have M6 := kide hm2
      have B6 := kide hb2
      obtain ⟨K6, hK6⟩ : ∃ K6 : Nat, K5 + x.ct.ws.length = K6 := ⟨_, rfl⟩
      rw [hK6]
      have HK6 := kide hK6
      have hKb6 : K6 ≤ 5200000000000000000 := by have := HLW.out; omega
      have NGW : Hid (∀ y ∈ l, ∀ p, y.ct.ws.length ≠ 0 → y.wa = some p → p.block ≠ g) := fun y hy p h0 hp e => by
        rcases ((HSH.out y hy).1).shp S5.out with h9 | ⟨h9, cur9, e9, -, -, k9, -⟩
        · exact h0 h9
        · rw [e9] at hp
          cases hp
          obtain ⟨cc, hh, -⟩ := P5.out
          simp only [] at e
          subst e
          rw [hh] at k9
          cases k9
      have NGK : Hid (∀ y ∈ l, ∀ p, y.ct.ks.length ≠ 0 → y.ka = some p → p.block ≠ g) := fun y hy p h0 hp e => by
        rcases ((HSH.out y hy).2).shp S5.out with h9 | ⟨h9, cur9, e9, -, -, k9, -⟩
        · exact h0 h9
        · rw [e9] at hp
          cases hp
          obtain ⟨cc, hh, -⟩ := P5.out
          simp only [] at e
          subst e
          rw [hh] at k9
          cases k9
      have NWK : Hid (∀ y ∈ l, ∀ z ∈ l, ∀ p q, y.ct.ws.length ≠ 0 → y.wa = some p → z.ct.ks.length ≠ 0 → z.ka = some q → p.block ≠ q.block) := fun y hy z hz p q h0 hp h1 hq e => by
        rcases ((HSH.out y hy).1).shp S5.out with h9 | ⟨h9, cur9, e9, -, -, k9, -⟩
        · exact h0 h9
        rcases ((HSH.out z hz).2).shp S5.out with h8 | ⟨h8, cur8, e8, -, -, k8, -⟩
        · exact h1 h8
        rw [e9] at hp
        cases hp
        rw [e8] at hq
        cases hq
        simp only [] at e
        subst e
        rw [k9] at k8
        cases k8
      have hxm := List.mem_of_getElem? GX.out
      have P6 := kide (World.rowIs.of_block P5.out (hb2 g (fun p h0 hp => NGW.out x hxm p h0 hp)))
      have c6 := P6.out.cell (i := j * 7 + 6) (by omega)
      rw [X5.out _ (by omega) (by omega) (by omega) (by omega) (by omega), E6.out] at c6
      have HMK := kide (markI_ra lo hi x.kc K6 x.ct.ks.length x.ka w2 (HRk.out.shp S6.out) HLK.out (by omega))
      clear hs2 ho2 hm2 hb2 hK6 hxm
      go_wp2_with fail
      refine Calls.mono HMK.out ?_
      rintro e w3 ⟨rfl, hs3, ho3, hm3, hb3⟩
      have S7 := kide (S6.out.trans hs3)
      have O7 := kide (O6.out.trans ho3)
      have M7 := kide hm3
      have B7 := kide hb3
      clear hs3 ho3 hm3 hb3 c6
      go_wp2_with fail
      go_roundw
      case rel =>
        have hxm := List.mem_of_getElem? GX.out
        have hg6 : w2.heap[g]? = w1.heap[g]? := B6.out g (fun p h0 hp => NGW.out x hxm p h0 hp)
        have hg7 : w3.heap[g]? = w2.heap[g]? := B7.out g (fun p h0 hp => NGK.out x hxm p h0 hp)
        refine ⟨j + 1, f5, by omega, by go_num, ?_, World.rowIs.of_block P6.out hg7, ?_, S7.out, O7.out, ?_, ?_⟩
        · rw [HST.out]
          congr 1
          have := HK5.out
          have := HK6.out
          omega
        · intro i y hi
          obtain ⟨⟨z0, z1, z2, z3, z4, a0, a1, a2, a3, a4⟩, a5, a6⟩ := HF.out i y hi
          refine ⟨?_, by rw [X5.out _ (by omega) (by omega) (by omega) (by omega) (by omega)]; exact a5, by rw [X5.out _ (by omega) (by omega) (by omega) (by omega) (by omega)]; exact a6⟩
          by_cases hij : i = j
          · subst hij
            obtain ⟨v0, v1, v2, v3, v4⟩ := V5.out
            exact ⟨_, _, _, _, _, v0, v1, v2, v3, v4⟩
          · refine ⟨z0, z1, z2, z3, z4, ?_, ?_, ?_, ?_, ?_⟩
            · rw [X5.out _ (by omega) (by omega) (by omega) (by omega) (by omega)]; exact a0
            · rw [X5.out _ (by omega) (by omega) (by omega) (by omega) (by omega)]; exact a1
            · rw [X5.out _ (by omega) (by omega) (by omega) (by omega) (by omega)]; exact a2
            · rw [X5.out _ (by omega) (by omega) (by omega) (by omega) (by omega)]; exact a3
            · rw [X5.out _ (by omega) (by omega) (by omega) (by omega) (by omega)]; exact a4
        · intro i y hi hy
          by_cases hij : i = j
          · subst hij
            rw [GX.out] at hy
            cases hy
            rw [HKK.out]
            refine ⟨V5.out, ?_, ?_⟩
            · rw [HK5.out]
              exact M6.out.keep fun p h0 hp => B7.out p.block (fun q h1 hq e => NWK.out x hxm x hxm p q h0 hp h1 hq e.symm)
            · rw [HK5.out, HK6.out]
              exact M7.out
          · obtain ⟨⟨v0, v1, v2, v3, v4⟩, m1, m2⟩ := HH.out i y (by omega) hy
            have hym := List.mem_of_getElem? hy
            have key : ∀ b, b ≠ g → (∀ p, x.ct.ws.length ≠ 0 → x.wa = some p → p.block ≠ b) → (∀ p, x.ct.ks.length ≠ 0 → x.ka = some p → p.block ≠ b) → w3.heap[b]? = wr.heap[b]? := fun b h0 h1 h2 => by
              rw [B7.out b h2, B6.out b h1]
              by_cases hbl : b < wr.heap.size
              · exact G5.out.block b hbl (fun e => h0 (by cases e; rfl))
              · have hz : w1.heap.size = wr.heap.size := HZ.out
                rw [Array.getElem?_eq_none (by omega), Array.getElem?_eq_none (by omega)]
            refine ⟨⟨?_, ?_, ?_, ?_, ?_⟩, m1.keep fun p h0 hp => ?_, m2.keep fun p h0 hp => ?_⟩
            · rw [X5.out _ (by omega) (by omega) (by omega) (by omega) (by omega)]; exact v0
            · rw [X5.out _ (by omega) (by omega) (by omega) (by omega) (by omega)]; exact v1
            · rw [X5.out _ (by omega) (by omega) (by omega) (by omega) (by omega)]; exact v2
            · rw [X5.out _ (by omega) (by omega) (by omega) (by omega) (by omega)]; exact v3
            · rw [X5.out _ (by omega) (by omega) (by omega) (by omega) (by omega)]; exact v4
            · exact key _ (NGW.out y hym p h0 hp) (fun q h1 hq e => HWD.out i j y x (by omega) hy GX.out p q hp hq e.symm) (fun q h1 hq e => NWK.out y hym x hxm p q h0 hp h1 hq e.symm)
            · exact key _ (NGK.out y hym p h0 hp) (fun q h1 hq e => NWK.out x hxm y hym q p h1 hq h0 hp e) (fun q h1 hq e => HKD.out i j y x (by omega) hy GX.out p q hp hq e.symm)
        · intro b h0 h1 h2
          rw [B7.out b (fun p hn hp => h2 x hxm p hn hp), B6.out b (fun p hn hp => h1 x hxm p hn hp)]
          refine Eq.trans ?_ (HB.out b h0 h1 h2)
          by_cases hbl : b < wr.heap.size
          · exact G5.out.block b hbl (fun e => h0 (by cases e; rfl))
          · have hz : w1.heap.size = wr.heap.size := HZ.out
            rw [Array.getElem?_eq_none (by omega), Array.getElem?_eq_none (by omega)]
      case measure => simp [intOf]; omega
    · have e : j = n := by omega
      subst e
      clear hrow hf hs ho hh hb
      go_wp2_with fail
      go_ret
      exact ⟨by rw [HN.out]; rfl, ⟨f, HRW.out, HF.out, fun i x hi => HH.out i x (by have := (List.getElem?_eq_some_iff.1 hi).1; rw [HN.out] at this; exact this) hi⟩, HO.out, HS.out, HB.out⟩

end Go.Proofs.YtheglnkndjheaaaGreatDoor

/- Nodes that hold their marks are told so; a term in new memory is marked, and holds its marks. -/
namespace Go.Proofs.YtheglnkndjheaaaGreatDoor
set_option linter.unusedVariables false
set_option linter.unusedSimpArgs false
open Go.RowKit


theorem markT_nil (a : Option Addr) (c k : Nat) (w : World) : Calls Tryz.prog 38 #[.slice a 0 c, .int .i64 (k : Int)] w fun e w' => e = .returned (.int .i64 (k : Int)) ∧ w' = w := by
  go_enter Tryz.func38, Tryz.ntmps38
  go_wp2_with fail
  go_loopw [1, 5] (fun q i wr => q = .int .i64 (k : Int) ∧ i = .int .i64 0 ∧ wr = w) (fun _ _ _ => 0)
  case atStart => exact ⟨rfl, rfl, rfl⟩
  case round =>
    obtain ⟨rfl, rfl, rfl⟩ := hrel
    go_wp2_with fail
    go_ret
    exact ⟨rfl, rfl⟩

/-- A row of nodes that holds its marks. -/
def HeldTv (w : World) (v : Value) (l : List Tg) (k : Nat) : Prop := l = [] ∨ ∃ g n c N, v = .slice (some ⟨g, 0, none⟩) n c ∧ n * 7 ≤ N ∧ HeldT w g N l k
theorem HeldTv.later {w w' : World} {v : Value} {l : List Tg} {k : Nat} (h : HeldTv w v l k) (hb : Below w.heap.size w w') : HeldTv w' v l k := by
  rcases h with h | ⟨g, n, c, N, e, hn, h⟩
  · exact .inl h
  · exact .inr ⟨g, n, c, N, e, hn, h.later hb⟩

theorem OT.tn {w : World} {B g n c : Nat} {l : List Tg} (h : OT w B (.slice (some ⟨g, 0, none⟩) n c) l) : ∃ N f, n * 7 ≤ N ∧ w.rowIs g 104 N f ∧ TnS f l ∧ B ≤ g ∧ g < w.heap.size := by
  have hlt := h.lt rfl
  have hat := fun i x (hi : l[i]? = some x) => h.at hi
  rcases h.2 with ⟨e, -⟩ | ⟨g', cap, cur, e, hg, hh, hc1, hc2, hsz, hcur⟩
  · cases e
  · cases e
    refine ⟨c * 7, fun i => cur.getD i (.int .i64 0), by omega, ⟨cur, hh, hsz, fun i hi => ?_⟩, fun i x hi => ?_, hlt⟩
    · have hi' : i < cur.size := by omega
      rw [Array.getElem?_eq_getElem hi']
      simp [Array.getD, hi']
    · obtain ⟨g', c', e', f0, f1, f2, f3, f4, f5, f6⟩ := hat i x hi
      cases e'
      have key : ∀ o u, w.cell? ⟨g, o, none⟩ = some u → cur.getD o (.int .i64 0) = u := fun o u hu => by
        rw [cell_of_row w g o cur _ _ hh] at hu
        rw [Array.getD_eq_getD_getElem?, hu]
        rfl
      exact ⟨⟨_, _, _, _, _, key _ _ f0, key _ _ f1, key _ _ f2, key _ _ f3, key _ _ f4⟩, key _ _ f5, key _ _ f6⟩

/-- A row of nodes of one's own is marked. -/
theorem markTs_any (B hi n c k : Nat) (a : Option Addr) (l : List Tg) (w : World) (hts : Ts w B (.slice a n c) l) (hl : shT l) (hn : l.length = n) (hn2 : n ≤ 1048576) (hh : w.heap.size ≤ hi) (hk : k ≤ 4000000000000000000) :
    Calls Tryz.prog 38 #[.slice a n c, .int .i64 (k : Int)] w fun e w' => e = .returned (.int .i64 (mkT l k l.length : Int)) ∧ HeldTv w' (.slice a n c) l k ∧ Out B hi w w' := by
  by_cases e : l = []
  · subst e
    subst hn
    refine (markT_nil a c k w).mono (fun e w' h => ⟨h.1, .inl rfl, ?_⟩)
    rw [h.2]
    exact Out.refl _ _ _
  · obtain ⟨g, rfl⟩ : ∃ g, a = some ⟨g, 0, none⟩ := by
      rcases hts.row.2 with ⟨-, h0⟩ | ⟨g, cap, cur, e', -⟩
      · exact absurd (List.eq_nil_of_length_eq_zero h0) e
      · cases e'; exact ⟨g, rfl⟩
    obtain ⟨N, f, h0, hr, hf, h1, h2⟩ := hts.row.tn
    refine (markT_own B hi g c n k N l w f hr h0 hf h1 (by omega) (fun x hx => ⟨RSh.of_nw (hts.wn x hx) hh, RSh.of_ni (hts.kn x hx) hh⟩) hl hts.wd hts.kd hn hn2 hk).mono (fun e w' h => ⟨h.1, .inr ⟨g, n, c, N, rfl, h0, h.2.1⟩, h.2.2.1⟩)


end Go.Proofs.YtheglnkndjheaaaGreatDoor

/- A term in new memory, between two blocks: kept, compared, marked. -/
namespace Go.Proofs.YtheglnkndjheaaaGreatDoor
set_option linter.unusedVariables false
set_option linter.unusedSimpArgs false
open Go.RowKit

theorem nw_own {w w' : World} {lo : Nat} {a : Option Addr} {xs : List Nat} (h : Nw w lo a xs) (hk : ∀ p, a = some p → w'.heap[p.block]? = w.heap[p.block]?) : Nw w' lo a xs := by
  rcases h with ⟨k1, k2⟩ | ⟨g', cur, k1, k2, k3, k4⟩
  · refine .inl ⟨k1, fun z e => ?_⟩
    obtain ⟨q1, q2, cur, q3⟩ := k2 z e
    exact ⟨q1, q2, cur, (hk z e).trans q3⟩
  · exact .inr ⟨g', cur, k1, k2, (hk _ k1).trans k3, k4⟩
theorem ni_own {w w' : World} {lo : Nat} {a : Option Addr} {xs : List Int} (h : Ni w lo a xs) (hk : ∀ p, a = some p → w'.heap[p.block]? = w.heap[p.block]?) : Ni w' lo a xs := by
  rcases h with ⟨k1, k2⟩ | ⟨g', cur, k1, k2, k3, k4⟩
  · refine .inl ⟨k1, fun z e => ?_⟩
    obtain ⟨q1, q2, cur, q3⟩ := k2 z e
    exact ⟨q1, q2, cur, (hk z e).trans q3⟩
  · exact .inr ⟨g', cur, k1, k2, (hk _ k1).trans k3, k4⟩
theorem Ts.mono {w : World} {lo lo' : Nat} {v : Value} {l : List Tg} (h : Ts w lo v l) (hl : lo' ≤ lo) : Ts w lo' v l :=
  ⟨⟨h.row.1, by
      rcases h.row.2 with h0 | ⟨g, cap, cur, e, hg, r⟩
      · exact .inl h0
      · exact .inr ⟨g, cap, cur, e, by omega, r⟩⟩, fun x hx => (h.wn x hx).mono hl, fun x hx => (h.kn x hx).mono hl, h.wd, h.kd⟩

/-- All of it lies from lo on, ahead of hi. -/
structure Tt (lo hi : Nat) (v : Value) (l : List Tg) (w : World) : Prop where
  ts : Ts w lo v l
  rb : ∀ b, v.ownBlock = some b → b < hi
  wb : ∀ x ∈ l, ∀ p, x.wa = some p → p.block < hi
  kb : ∀ x ∈ l, ∀ p, x.ka = some p → p.block < hi
theorem Tt.of {w : World} {lo : Nat} {v : Value} {l : List Tg} (h : Ts w lo v l) : Tt lo w.heap.size v l w := ⟨h, fun b hb => (h.row.lt hb).2, fun x hx => (h.below x hx).1, fun x hx => (h.below x hx).2⟩
theorem Tt.later {w w' : World} {lo hi : Nat} {v : Value} {l : List Tg} (h : Tt lo hi v l w) (hb : Below w.heap.size w w') : Tt lo hi v l w' := ⟨h.ts.later hb, h.rb, h.wb, h.kb⟩
theorem Tt.out {w w' : World} {lo hi B1 B2 : Nat} {v : Value} {l : List Tg} (h : Tt lo hi v l w) (ho : Out B1 B2 w w') (hd : hi ≤ B1 ∨ B2 ≤ lo) : Tt lo hi v l w' where
  ts := ⟨h.ts.row.move fun b hb => ho.2.2.2.2 b (h.ts.row.lt hb).2 (by have := h.rb b hb; have := (h.ts.row.lt hb).1; omega), fun x hx => nw_own (h.ts.wn x hx) fun p hp => ho.2.2.2.2 _ (nw_lt (h.ts.wn x hx) hp).2 (by have := h.wb x hx p hp; have := (nw_lt (h.ts.wn x hx) hp).1; omega), fun x hx => ni_own (h.ts.kn x hx) fun p hp => ho.2.2.2.2 _ (ni_lt (h.ts.kn x hx) hp).2 (by have := h.kb x hx p hp; have := (ni_lt (h.ts.kn x hx) hp).1; omega), h.ts.wd, h.ts.kd⟩
  rb := h.rb
  wb := h.wb
  kb := h.kb


theorem ok_map {l : List Tg} {X : List Tc} (e : l.map Tg.ct = X) (hX : ∀ y ∈ X, okT y) : ∀ x ∈ l, okT x.ct := fun x hx => hX _ (by rw [← e]; exact List.mem_map_of_mem hx)
theorem sh_map {l : List Tg} {X : List Tc} (e : l.map Tg.ct = X) (hX : ∀ y ∈ X, okT y) : shT l := fun x hx => by
  obtain ⟨-, -, -, -, -, h1, -, h2, -⟩ := ok_map e hX x hx
  exact ⟨h1, h2⟩
theorem len_map {l : List Tg} {X : List Tc} {n : Nat} (e : l.map Tg.ct = X) (hn : X.length = n) : l.length = n := by rw [← hn, ← e]; simp
theorem eqTerm_tt {lo hi lo' hi' : Nat} {a b : Option Addr} {c c' n : Nat} {l m : List Tg} {X : List Tc} {w : World} (h : Tt lo hi (.slice a n c) l w) (h' : Tt lo' hi' (.slice b n c') m w) (e : l.map Tg.ct = X) (e' : m.map Tg.ct = X) (hX : ∀ y ∈ X, okT y) (hn : X.length = n) (hn2 : n ≤ 1048576) :
    Calls Tryz.prog 59 #[.agg #[.slice a n c], .agg #[.slice b n c']] w fun e w' => e = .returned (.bool true) ∧ Below w.heap.size w w' := by
  obtain ⟨a1, c1, e1, r1⟩ := h.ts.rd (by rw [len_map e hn]; exact hn2) (ok_map e hX)
  obtain ⟨a2, c2, e2, r2⟩ := h'.ts.rd (by rw [len_map e' hn]; exact hn2) (ok_map e' hX)
  rw [len_map e hn] at e1
  rw [len_map e' hn] at e2
  cases e1
  cases e2
  exact eqTerm_same a b c c' l m w r1 r2 (e.trans e'.symm) n (len_map e hn) (len_map e' hn)
theorem share5 {F P : World → Nat → Option Addr → Nat → List Tg → Nat → Nat → Prop} {G : Prop} (main : (∀ v b a c l x y, F v b a c l x y → P v b a c l x y) → G) (key : ∀ v b a c l x y, F v b a c l x y → P v b a c l x y) : G := main key
theorem Bz.out {u u' : World} {b B1 B2 : Nat} {cs : Array Value} {t : TypeId} (h : Bz u b cs t) (ho : Out B1 B2 u u') (hd : b < B1 ∨ B2 ≤ b) : Bz u' b cs t := by
  unfold Bz; rw [ho.2.2.2.2 b h.lt hd]; exact h
theorem rowIs_later {w w' : World} {g N : Nat} {t : TypeId} {f : Nat → Value} (h : w.rowIs g t N f) (hb : Below w.heap.size w w') : w'.rowIs g t N f := by
  obtain ⟨cc, hh, r⟩ := h
  exact World.rowIs.of_block ⟨cc, hh, r⟩ (hb.block g (lt_of_block hh))
theorem rowIs_out {w w' : World} {g N B1 B2 : Nat} {t : TypeId} {f : Nat → Value} (h : w.rowIs g t N f) (ho : Out B1 B2 w w') (hd : g < B1 ∨ B2 ≤ g) : w'.rowIs g t N f := by
  obtain ⟨cc, hh, r⟩ := h
  exact World.rowIs.of_block ⟨cc, hh, r⟩ (ho.2.2.2.2 g (lt_of_block hh) hd)
theorem rowIs_lt {w : World} {g N : Nat} {t : TypeId} {f : Nat → Value} (h : w.rowIs g t N f) : g < w.heap.size := by
  obtain ⟨cc, hh, -⟩ := h
  exact lt_of_block hh
theorem Out.bel {w v v' : World} {B1 B2 : Nat} (h : Below w.heap.size w v) (ho : Out B1 B2 v v') (h1 : w.heap.size ≤ B1) : Below w.heap.size w v' :=
  ⟨ho.1.trans h.os, ho.2.1.trans h.tape, ho.2.2.1.trans h.output, Nat.le_trans h.size ho.2.2.2.1, fun k hk => (ho.2.2.2.2 k (Nat.lt_of_lt_of_le hk h.size) (.inl (by omega))).trans (h.block k hk)⟩

end Go.Proofs.YtheglnkndjheaaaGreatDoor
