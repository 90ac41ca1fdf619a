/- Several texts in one. -/
import Derived.Test.YtbpodkdlhjgncaaGreatDoorZVB
import Derived.Test.YtbpodkdlhjgncaaGreatDoorZVA
import Derived.Test.YtbpodkdlhjgncaaGreatDoorRX
import Derived.Deep.OwnRows
import Derived.Deep.RegionHeldLaw
import Derived.Test.YtbpodkdlhjgncaaGreatDoorZVE
import Derived.Deep.AppendLies
import Derived.Handy

/- Blocks of memory: what stays, what may change in its kind alone; words in new memory. -/
namespace Go.Proofs.YtbpodkdlhjgncaaGreatDoor
set_option linter.unusedVariables false
set_option linter.unusedSimpArgs false
open Go.RowKit

def Bz (u : World) (b : Nat) (cs : Array Value) (t : TypeId) : Prop := u.heap[b]? = some (.cells cs t (0, 0))
theorem Bz.lt {u : World} {b : Nat} {cs : Array Value} {t : TypeId} (h : Bz u b cs t) : b < u.heap.size := lt_of_block h
theorem Bz.new (u : World) (cs : Array Value) (t : TypeId) : Bz (u.alloc (.cells cs t)) u.heap.size cs t := heap_alloc_new _ _
theorem Bz.set {u : World} {b : Nat} {cs : Array Value} {t : TypeId} (h : Bz u b cs t) (o : Nat) (x : Value) : Bz (u.setCell ⟨b, o, none⟩ x) b (cs.setIfInBounds o x) t := heap_setCell_same u b o _ _ x h
theorem Bz.other {u : World} {b c : Nat} {cs : Array Value} {t : TypeId} (h : Bz u b cs t) (hn : b ≠ c) (o : Nat) (x : Value) : Bz (u.setCell ⟨c, o, none⟩ x) b cs t := by
  unfold Bz; rw [heap_setCell_other _ _ _ _ (by simpa using hn)]; exact h
theorem Bz.cell {u : World} {b : Nat} {cs : Array Value} {t : TypeId} (h : Bz u b cs t) (o : Nat) : u.cell? ⟨b, o, none⟩ = cs[o]? := cell_of_row u b o _ _ _ h
theorem Bz.froz {u : World} {b : Nat} {cs : Array Value} {t : TypeId} (h : Bz u b cs t) (o : Nat) : u.frozen? ⟨b, o, none⟩ = false := frozen_of_row u b o _ _ h
theorem Bz.later {u u' : World} {b : Nat} {cs : Array Value} {t : TypeId} (h : Bz u b cs t) (hb : Below u.heap.size u u') : Bz u' b cs t := by
  unfold Bz; rw [hb.block _ h.lt]; exact h

theorem own_ge {w : World} {B n : Nat} {e : TypeId} {v : Value} {xs : List Value} {b : Nat} (h : w.ownsRow B e 1 v n xs) (hb : v.ownBlock = some b) : B ≤ b := by
  rcases h.2 with ⟨rfl, -⟩ | ⟨g, cap, cur, rfl, hg, hh, -⟩
  · cases hb
  · cases hb
    exact hg

/-- But for the blocks from B1 on below B2 nothing has changed. -/
def Out (B1 B2 : Nat) (w w' : World) : Prop := w'.os = w.os ∧ w'.tape = w.tape ∧ w'.output = w.output ∧ w.heap.size ≤ w'.heap.size ∧ ∀ k, k < w.heap.size → (k < B1 ∨ B2 ≤ k) → w'.heap[k]? = w.heap[k]?
theorem Out.refl (B1 B2 : Nat) (w : World) : Out B1 B2 w w := ⟨rfl, rfl, rfl, Nat.le_refl _, fun _ _ _ => rfl⟩
theorem Out.trans {B1 B2 : Nat} {w w1 w2 : World} (h : Out B1 B2 w w1) (h' : Out B1 B2 w1 w2) : Out B1 B2 w w2 :=
  ⟨h'.1.trans h.1, h'.2.1.trans h.2.1, h'.2.2.1.trans h.2.2.1, Nat.le_trans h.2.2.2.1 h'.2.2.2.1, fun k hk ho => (h'.2.2.2.2 k (Nat.lt_of_lt_of_le hk h.2.2.2.1) ho).trans (h.2.2.2.2 k hk ho)⟩
theorem Out.grown {B1 B2 g : Nat} {w w' : World} (h : w.grownBy w' (some g)) (h1 : B1 ≤ g) (h2 : g < B2) : Out B1 B2 w w' := ⟨h.os, h.tape, h.output, h.size, fun k hk ho => h.block k hk (fun e => by cases e; omega)⟩
theorem Out.set {B1 B2 g o : Nat} {w w' : World} (h : Out B1 B2 w w') (h1 : B1 ≤ g) (h2 : g < B2) (v : Value) : Out B1 B2 w (w'.setCell ⟨g, o, none⟩ v) := by
  refine ⟨h.1, h.2.1, h.2.2.1, by simpa using h.2.2.2.1, fun k hk ho => ?_⟩
  rw [heap_setCell_other _ _ _ _ (by simp; omega)]
  exact h.2.2.2.2 k hk ho
theorem Out.below {B B1 B2 : Nat} {w w' : World} (h : Out B1 B2 w w') (hB : B ≤ B1) (hs : B ≤ w.heap.size) : Below B w w' := ⟨h.1, h.2.1, h.2.2.1, h.2.2.2.1, fun k hk => h.2.2.2.2 k (by omega) (.inl (by omega))⟩

/-- Of the same kind: numbers, texts and flags may be others. -/
def alike (v v' : Value) : Prop := v' = v ∨ (∃ k x y, v = .int k x ∧ v' = .int k y) ∨ (∃ x y, v = .string x ∧ v' = .string y) ∨ ∃ x y, v = .bool x ∧ v' = .bool y
theorem alike.trans {a b c : Value} (h : alike a b) (h' : alike b c) : alike a c := by
  rcases h with rfl | ⟨k, x, y, rfl, rfl⟩ | ⟨x, y, rfl, rfl⟩ | ⟨x, y, rfl, rfl⟩
  · exact h'
  · rcases h' with rfl | ⟨k', x', y', e, rfl⟩ | ⟨x', y', e, rfl⟩ | ⟨x', y', e, rfl⟩
    · exact .inr (.inl ⟨k, x, y, rfl, rfl⟩)
    · cases e
      exact .inr (.inl ⟨k, x, y', rfl, rfl⟩)
    · cases e
    · cases e
  · rcases h' with rfl | ⟨k', x', y', e, rfl⟩ | ⟨x', y', e, rfl⟩ | ⟨x', y', e, rfl⟩
    · exact .inr (.inr (.inl ⟨x, y, rfl, rfl⟩))
    · cases e
    · exact .inr (.inr (.inl ⟨x, y', rfl, rfl⟩))
    · cases e
  · rcases h' with rfl | ⟨k', x', y', e, rfl⟩ | ⟨x', y', e, rfl⟩ | ⟨x', y', e, rfl⟩
    · exact .inr (.inr (.inr ⟨x, y, rfl, rfl⟩))
    · cases e
    · cases e
    · exact .inr (.inr (.inr ⟨x, y', rfl, rfl⟩))
theorem alike.int {k : IntKind} {x : Int} {v : Value} (h : alike (.int k x) v) : ∃ y, v = .int k y := by
  rcases h with rfl | ⟨k', x', y', e, rfl⟩ | ⟨x', y', e, rfl⟩ | ⟨x', y', e, rfl⟩
  · exact ⟨x, rfl⟩
  · cases e; exact ⟨y', rfl⟩
  · cases e
  · cases e
theorem alike.str {x : ByteArray} {v : Value} (h : alike (.string x) v) : ∃ y, v = .string y := by
  rcases h with rfl | ⟨k', x', y', e, rfl⟩ | ⟨x', y', e, rfl⟩ | ⟨x', y', e, rfl⟩
  · exact ⟨x, rfl⟩
  · cases e
  · exact ⟨y', rfl⟩
  · cases e
theorem alike.slice {a : Option Addr} {n c : Nat} {v : Value} (h : alike (.slice a n c) v) : v = .slice a n c := by
  rcases h with rfl | ⟨k', x', y', e, rfl⟩ | ⟨x', y', e, rfl⟩ | ⟨x', y', e, rfl⟩
  · rfl
  · cases e
  · cases e
  · cases e

/-- Numbers alone have changed. -/
def Shp (w w' : World) : Prop := ∀ (b : Nat) (cur : Array Value) (t : TypeId), w.heap[b]? = some (.cells cur t (0, 0)) → ∃ cur', w'.heap[b]? = some (.cells cur' t (0, 0)) ∧ ∀ (i : Nat) (v : Value), cur[i]? = some v → ∃ v', cur'[i]? = some v' ∧ alike v v'
theorem Shp.refl (w : World) : Shp w w := fun _ cur _ h => ⟨cur, h, fun _ v hv => ⟨v, hv, .inl rfl⟩⟩
theorem Shp.trans {a b c : World} (h : Shp a b) (h' : Shp b c) : Shp a c := fun k cur t e => by
  obtain ⟨c1, e1, r1⟩ := h k cur t e
  obtain ⟨c2, e2, r2⟩ := h' k c1 t e1
  exact ⟨c2, e2, fun i v hv => by
    obtain ⟨v1, h1, a1⟩ := r1 i v hv
    obtain ⟨v2, h2, a2⟩ := r2 i v1 h1
    exact ⟨v2, h2, a1.trans a2⟩⟩
theorem Shp.put {w : World} {g o : Nat} {x y : Value} (h : w.cell? ⟨g, o, none⟩ = some x) (hxy : alike x y) : Shp w (w.setCell ⟨g, o, none⟩ y) := fun b cur t e => by
  by_cases eb : b = g
  · subst eb
    refine ⟨cur.setIfInBounds o y, heap_setCell_same w b o _ _ _ e, fun i v hv => ?_⟩
    by_cases ei : i = o
    · subst ei
      rw [cell_of_row w b i cur _ _ e] at h
      rw [h] at hv
      cases hv
      exact ⟨y, by rw [Array.getElem?_setIfInBounds_self_of_lt (Array.getElem?_eq_some_iff.1 h).1], hxy⟩
    · exact ⟨v, by rw [Array.getElem?_setIfInBounds_ne (fun h => ei h.symm)]; exact hv, .inl rfl⟩
  · exact ⟨cur, by rw [heap_setCell_other _ _ _ _ (by simpa using eb)]; exact e, fun i v hv => ⟨v, hv, .inl rfl⟩⟩
theorem Shp.set {w : World} {g o : Nat} {k : IntKind} {x : Int} (h : w.cell? ⟨g, o, none⟩ = some (.int k x)) (y : Int) : Shp w (w.setCell ⟨g, o, none⟩ (.int k y)) := Shp.put h (.inr (.inl ⟨k, x, y, rfl, rfl⟩))

/-- A row of n words in a block of words. -/
def TyW (w : World) (lo hi : Nat) (a : Option Addr) (n : Nat) : Prop := n ≤ 1048576 ∧ ∃ h cur, a = some ⟨h, 0, none⟩ ∧ lo ≤ h ∧ h < hi ∧ w.heap[h]? = some (.cells cur 103 (0, 0)) ∧ ∀ i, i < n → ∃ y : Int, cur[i]? = some (.int .u64 y)

theorem keep_int {cur cur' : Array Value} (r : ∀ (i : Nat) (v : Value), cur[i]? = some v → ∃ v', cur'[i]? = some v' ∧ alike v v') {i : Nat} {k : IntKind} (h : ∃ x : Int, cur[i]? = some (.int k x)) : ∃ x : Int, cur'[i]? = some (.int k x) := by
  obtain ⟨x, hx⟩ := h
  obtain ⟨v', h1, h2⟩ := r i _ hx
  obtain ⟨y, rfl⟩ := h2.int
  exact ⟨y, h1⟩
theorem TyW.shp {w w' : World} {lo hi n : Nat} {a : Option Addr} (h : TyW w lo hi a n) (hs : Shp w w') : TyW w' lo hi a n := by
  obtain ⟨h0, g, cur, e, h1, h2, h3, h4⟩ := h
  obtain ⟨cur', e', r⟩ := hs g cur _ h3
  exact ⟨h0, g, cur', e, h1, h2, e', fun i hi => keep_int r (h4 i hi)⟩

theorem keep_str {cur cur' : Array Value} (r : ∀ (i : Nat) (v : Value), cur[i]? = some v → ∃ v', cur'[i]? = some v' ∧ alike v v') {i : Nat} (h : ∃ x : ByteArray, cur[i]? = some (.string x)) : ∃ x : ByteArray, cur'[i]? = some (.string x) := by
  obtain ⟨x, hx⟩ := h
  obtain ⟨v', h1, h2⟩ := r i _ hx
  obtain ⟨y, rfl⟩ := h2.str
  exact ⟨y, h1⟩
theorem Shp.of {w w' : World} (hb : Below w.heap.size w w') : Shp w w' := fun b cur t e => ⟨cur, (hb.block b (lt_of_block e)).trans e, fun i v hv => ⟨v, hv, .inl rfl⟩⟩

set_option maxHeartbeats 1000000 in
/-- Words are marked, in memory of that kind. -/
theorem markU_ty (lo hi c n k : Nat) (a : Option Addr) (w : World) (h : TyW w lo hi a n) (hk : k + n ≤ 9000000000000000000) :
    Calls Tryz.prog 41 #[.slice a n c, .int .i64 (k : Int)] w fun e w' => e = .returned (.int .i64 ((k + n : Nat) : Int)) ∧ Shp w w' ∧ Out lo hi w w' := by
  obtain ⟨hn, g, cur, rfl, hl, hh, hc, hi'⟩ := h
  have H := kide (show TyW w lo hi (some ⟨g, 0, none⟩) n from ⟨hn, g, cur, rfl, hl, hh, hc, hi'⟩)
  clear hc hi'
  go_enter Tryz.func41, Tryz.ntmps41
  go_wp2_with fail
  go_loopw [1, 5] (fun q i wr => ∃ (j : Nat), j ≤ n ∧ i = .int .i64 (j : Int) ∧ q = .int .i64 ((k + j : Nat) : Int) ∧ Shp w wr ∧ Out lo hi w wr) (fun _ i _ => n - (intOf i).toNat)
  case atStart => exact ⟨0, Nat.zero_le _, rfl, rfl, Shp.refl _, Out.refl _ _ _⟩
  case round =>
    obtain ⟨j, hj, rfl, rfl, hs, ho⟩ := hrel
    have HS := kide hs
    have HO := kide ho
    by_cases hlt : j < n
    · obtain ⟨-, g', cu, e', -, -, hg, hc⟩ := H.out.shp hs
      cases e'
      obtain ⟨y0, hy0⟩ := hc j hlt
      have q0 : wr.cell? ⟨g, j, none⟩ = some (.int .u64 y0) := by rw [cell_of_row wr g j _ _ _ hg]; exact hy0
      have r0 := frozen_of_row wr g j _ _ hg
      obtain ⟨K, hK⟩ : ∃ K, k + j = K := ⟨_, rfl⟩
      rw [hK]
      have HK := kide hK
      have hKb : K < 9000000000000000000 := by omega
      have i0 : (j : Int) < (n : Int) := by omega
      have HS2 := kide (hs.trans (Shp.set q0 (K : Int)))
      have HO2 := kide (ho.set hl hh (.int .u64 (K : Int)) (o := j))
      clear hc hs ho hK hy0 hg
      go_wp2_with fail
      go_roundw
      case rel => exact ⟨j + 1, by omega, by go_num, by rw [show k + (j + 1) = K + 1 by have := HK.out; omega]; first | go_num | (simp; done), HS2.out, HO2.out⟩
      case measure => simp [intOf]; omega
    · have e : j = n := by omega
      subst e
      clear hs ho
      go_wp2_with fail
      go_ret
      exact ⟨rfl, HS.out, HO.out⟩

def OwW (w : World) (base : Nat) (v : Value) (xs : List Nat) : Prop := w.ownsRow base 103 1 v xs.length (u64s xs).toList

theorem OwW.nils (w : World) (base : Nat) : OwW w base (.slice none 0 0) [] := ⟨rfl, .inl ⟨rfl, rfl⟩⟩
theorem OwW.empty (w : World) (base g : Nat) (hg : g = w.heap.size) (h : base ≤ g) : OwW (w.alloc (.cells #[] 103)) base (.slice (some ⟨g, 0, Option.none⟩) 0 0) [] := by
  subst hg
  exact World.ownsRow_made w #[] 0 h (Nat.zero_le _) (by simp)

/-- A word's bits in new memory: a block of words whose first ones they are. -/
def Nw (w : World) (lo : Nat) (a : Option Addr) (xs : List Nat) : Prop :=
  (xs = [] ∧ ∀ x, a = some x → lo ≤ x.block ∧ x.off = 0 ∧ ∃ cur, w.heap[x.block]? = some (.cells cur 103 (0, 0))) ∨ ∃ g cur, a = some ⟨g, 0, none⟩ ∧ lo ≤ g ∧ w.heap[g]? = some (.cells cur 103 (0, 0)) ∧ ∀ i, i < xs.length → cur[i]? = some (.int .u64 ((xs.getD i 0 : Nat) : Int))

theorem OwW.shape {w : World} {base : Nat} {v : Value} {xs : List Nat} (h : OwW w base v xs) : ∃ a c, v = .slice a xs.length c ∧ Nw w base a xs := by
  obtain ⟨h1, ⟨rfl, h2⟩ | ⟨g, cap, cur, rfl, hg, hh, hc1, hc2, hsz, hcur⟩⟩ := h
  · have e := List.eq_nil_of_length_eq_zero h2
    subst e
    exact ⟨none, 0, rfl, .inl ⟨rfl, fun x e => by cases e⟩⟩
  · refine ⟨some ⟨g, 0, none⟩, cap, rfl, .inr ⟨g, cur, rfl, hg, hh, fun i hi => ?_⟩⟩
    have h3 : (cur.toList.take (xs.length * 1))[i]? = (u64s xs).toList[i]? := by rw [hcur]
    rw [List.getElem?_take, if_pos (by omega)] at h3
    simp only [Array.getElem?_toList] at h3
    rw [h3, u64s_get _ _ hi]

theorem Own.nw {w : World} {lo g : Nat} {xs : List Nat} (h : Own w g xs) (hg : lo ≤ g) : Nw w lo (some ⟨g, 0, none⟩) xs := .inr ⟨g, u64s xs, rfl, hg, h, fun i hi => u64s_get _ _ hi⟩

theorem Nw.rd {w : World} {lo : Nat} {a : Option Addr} {xs : List Nat} (h : Nw w lo a xs) (hl : xs.length ≤ 1048576) (hx : ∀ x ∈ xs, x < 18446744073709551616) : Rd w a xs := by
  refine ⟨hl, hx, ?_⟩
  rcases h with ⟨h1, -⟩ | ⟨g, cur, h1, -, h3, h4⟩
  · exact .inl h1
  · refine .inr ⟨g, 0, h1, fun i hi => ?_⟩
    rw [Nat.zero_add, cell_of_row w g i cur _ _ h3]
    exact h4 i hi

theorem Nw.mono {w : World} {lo lo' : Nat} {a : Option Addr} {xs : List Nat} (h : Nw w lo a xs) (hl : lo' ≤ lo) : Nw w lo' a xs := by
  rcases h with ⟨h1, h2⟩ | ⟨g, cur, h1, h2, h3, h4⟩
  · exact .inl ⟨h1, fun x e => ⟨Nat.le_trans hl (h2 x e).1, (h2 x e).2⟩⟩
  · exact .inr ⟨g, cur, h1, Nat.le_trans hl h2, h3, h4⟩

theorem Nw.kept {w w' : World} {lo : Nat} {a : Option Addr} {xs : List Nat} (h : Nw w lo a xs) (hk : ∀ (k : Nat) (cur : Array Value), w.heap[k]? = some (Obj.cells cur 103 (0, 0)) → w'.heap[k]? = w.heap[k]?) : Nw w' lo a xs := by
  rcases h with ⟨h1, h2⟩ | ⟨g, cur, h1, h2, h3, h4⟩
  · refine .inl ⟨h1, fun x e => ?_⟩
    obtain ⟨a, b, cur, c⟩ := h2 x e
    exact ⟨a, b, cur, by rw [hk _ _ c]; exact c⟩
  · exact .inr ⟨g, cur, h1, h2, by rw [hk _ _ h3]; exact h3, h4⟩

theorem Nw.later {w w' : World} {lo : Nat} {a : Option Addr} {xs : List Nat} (h : Nw w lo a xs) (hb : Below w.heap.size w w') : Nw w' lo a xs := Nw.kept h fun k cur hc => hb.block k (lt_of_block hc)

/-- 'append(out, list...)' of words at a step of a region that draws its order. -/
theorem step_appWs (w : World) {ops : Array Oper} {o : Oper} {a : Act} {K : Act → World → Prop} {Q : Exit → Act → World → Prop} {E : Prop} (hgd : o.guard = none) (s x : Operand)
    (ho : o.op = .call { callee := .builtin .append, args := #[s, x], argTypes := #[53, 53] })
    (base : Nat) (v : Value) (bs ys : List Nat) (hs : a.eval s = v) (hown : OwW w base v bs) (b ob c : Nat) (hx : a.eval x = .slice (some ⟨b, ob, none⟩) ys.length c)
    (hc : ∀ i, i < ys.length → w.cell? ⟨b, ob + i, none⟩ = some (.int .u64 ((ys.getD i 0 : Nat) : Int))) (hl : bs.length + ys.length ≤ 4194304) (hbase : base ≤ w.heap.size)
    (h : ∀ v' w', OwW w' base v' (bs ++ ys) → w.grownBy w' v.ownBlock → K (a.put o.dst v') w') :
    if Region.wanted o (yielded ops a.tmps) = true then Oper.wp Tryz.prog o a w K Q else E := by
  have hw : Region.wanted o (yielded ops a.tmps) = true := by simp [Region.wanted, hgd]
  rw [if_pos hw]
  obtain ⟨i0, hi, hz0, hz1, hz2⟩ := info_parts Tryz.infoU64
  refine wp_append_own w s x 53 ho base 103 i0 (.int .u64 0) 1 8 Tryz.underlying53 hi hz0 hz1 hz2 rfl (by decide) v bs.length (u64s bs).toList hs hown ⟨b, ob, none⟩ ys.length c (u64s ys).toList hx (by simp [u64s]) ?_ ?_ ?_ ?_ hbase ?_
  · intro j u hj
    have hj' : j < ys.length := by
      have := (List.getElem?_eq_some_iff.1 hj).1
      simpa [u64s] using this
    rw [Addr.add_lit, hc j hj']
    simp [u64s, hj'] at hj
    rw [← hj]
    simp [List.getD, hj']
  · intro u hu
    simp [u64s] at hu
    obtain ⟨_, _, rfl⟩ := hu
    rfl
  · unfold maxLen; omega
  · omega
  · intro v' w' h1 h2 _
    refine h v' w' ?_ h2
    unfold OwW
    simpa [u64s] using h1

theorem nw_set {w : World} {lo β : Nat} {a : Option Addr} {xs : List Nat} {cs : Array Value} {t : TypeId} (h : Nw w lo a xs) (hB : Bz w β cs t) (ht : t ≠ 103) (i : Nat) (v : Value) : Nw (w.setCell ⟨β, i, none⟩ v) lo a xs :=
  Nw.kept h fun k cur hc => heap_setCell_other _ _ _ _ (fun e => by
    simp only [] at e
    subst e
    unfold Bz at hB
    rw [hB] at hc
    cases hc
    exact ht rfl)

theorem nw_lt {w : World} {lo : Nat} {a : Option Addr} {xs : List Nat} (h : Nw w lo a xs) {p : Addr} (hp : a = some p) : lo ≤ p.block ∧ p.block < w.heap.size := by
  rcases h with ⟨h1, h2⟩ | ⟨g, cur, h1, h2, h3, h4⟩
  · obtain ⟨k1, -, cur, k2⟩ := h2 p hp
    exact ⟨k1, lt_of_block k2⟩
  · rw [h1] at hp
    cases hp
    exact ⟨h2, lt_of_block h3⟩

end Go.Proofs.YtbpodkdlhjgncaaGreatDoor

/- Rows of words of one's own: read, told. -/
namespace Go.Proofs.YtbpodkdlhjgncaaGreatDoor
set_option linter.unusedVariables false
set_option linter.unusedSimpArgs false
open Go.RowKit

def bwc : List Bw → List Value
  | [] => []
  | x :: t => .int .i64 x.wd :: .slice x.a x.ws.length x.c :: bwc t
theorem bwc_len (l : List Bw) : (bwc l).length = l.length * 2 := by
  induction l with
  | nil => rfl
  | cons x t ih => simp [bwc, ih]; omega
theorem bwc_append (l m : List Bw) : bwc (l ++ m) = bwc l ++ bwc m := by
  induction l with
  | nil => rfl
  | cons x t ih => simp [bwc, ih]
theorem bwc_get : ∀ {l : List Bw} {i : Nat} {x : Bw}, l[i]? = some x → (bwc l)[i * 2]? = some (.int .i64 x.wd) ∧ (bwc l)[i * 2 + 1]? = some (.slice x.a x.ws.length x.c)
  | y :: t, 0, x, h => by simp at h; subst h; simp [bwc]
  | y :: t, i + 1, x, h => by
    have := bwc_get (l := t) (i := i) (x := x) (by simpa using h)
    rw [show (i + 1) * 2 = i * 2 + 1 + 1 by omega]
    simpa [bwc] using this
theorem bwc_plain (l : List Bw) : ∀ v ∈ bwc l, (∃ x, v = .int .i64 x) ∨ ∃ a n c, v = .slice a n c := by
  induction l with
  | nil => simp [bwc]
  | cons x t ih =>
    intro v hv
    simp [bwc] at hv
    rcases hv with rfl | rfl | hv
    · exact .inl ⟨_, rfl⟩
    · exact .inr ⟨_, _, _, rfl⟩
    · exact ih v hv

/-- An owned row of words. -/
def OB2 (w : World) (B : Nat) (v : Value) (l : List Bw) : Prop := w.ownsRow B 63 2 v l.length (bwc l)

theorem OB2.later {w w' : World} {B : Nat} {v : Value} {l : List Bw} (h : OB2 w B v l) (hb : Below w.heap.size w w') : OB2 w' B v l := World.ownsRow.kept (row := none) h ⟨hb.os, hb.tape, hb.output, hb.size, fun k hk _ => hb.block k hk⟩ (by
  cases h' : v.ownBlock with
  | none => exact .inl rfl
  | some k => exact .inr (by simp))
theorem OB2.lt {w : World} {B : Nat} {v : Value} {l : List Bw} (h : OB2 w B v l) {b : Nat} (hb : v.ownBlock = some b) : B ≤ b ∧ b < w.heap.size := by
  rcases h.2 with ⟨rfl, -⟩ | ⟨g, cap, cur, rfl, hg, hh, -⟩
  · cases hb
  · cases hb
    exact ⟨hg, lt_of_block hh⟩
theorem OB2.typed {w : World} {B : Nat} {v : Value} {l : List Bw} (h : OB2 w B v l) {b : Nat} (hb : v.ownBlock = some b) : ∃ cur, w.heap[b]? = some (.cells cur 63 (0, 0)) := by
  rcases h.2 with ⟨rfl, -⟩ | ⟨g, cap, cur, rfl, hg, hh, -⟩
  · cases hb
  · cases hb
    exact ⟨cur, hh⟩
theorem OB2.nil (w : World) (B : Nat) : OB2 w B (.slice none 0 0) [] := ⟨rfl, .inl ⟨rfl, rfl⟩⟩
theorem OB2.move {w w' : World} {B : Nat} {v : Value} {l : List Bw} (h : OB2 w B v l) (hk : ∀ b, v.ownBlock = some b → w'.heap[b]? = w.heap[b]?) : OB2 w' B v l := by
  refine ⟨h.1, ?_⟩
  rcases h.2 with h0 | ⟨g, cap, cur, rfl, hg, hh, r⟩
  · exact .inl h0
  · exact .inr ⟨g, cap, cur, rfl, hg, (hk g rfl).trans hh, r⟩

theorem OB2.form {w : World} {B : Nat} {v : Value} {l : List Bw} (h : OB2 w B v l) : ∃ a c, v = .slice a l.length c := by
  rcases h.2 with ⟨e, h0⟩ | ⟨g, cap, cur, e, -⟩
  · exact ⟨none, 0, by rw [e, h0]⟩
  · exact ⟨_, _, e⟩

theorem OB2.empty (w : World) (B : Nat) (h : B ≤ w.heap.size) : OB2 (w.alloc (.cells #[] 63)) B (.slice (some ⟨w.heap.size, 0, Option.none⟩) 0 0) [] := World.ownsRow_made w #[] 0 h (Nat.zero_le _) (by simp)
theorem OB2.at {w : World} {B : Nat} {v : Value} {l : List Bw} (h : OB2 w B v l) {i : Nat} {x : Bw} (hi : l[i]? = some x) : ∃ g c, v = .slice (some ⟨g, 0, none⟩) l.length c ∧ w.cell? ⟨g, i * 2, none⟩ = some (.int .i64 x.wd) ∧ w.cell? ⟨g, i * 2 + 1, none⟩ = some (.slice x.a x.ws.length x.c) := by
  have hil := (List.getElem?_eq_some_iff.1 hi).1
  rcases h.2 with ⟨-, h0⟩ | ⟨g, cap, cur, rfl, hg, hh, hc1, hc2, hsz, hcur⟩
  · omega
  · obtain ⟨e0, e1⟩ := bwc_get hi
    rw [← hcur] at e0 e1
    rw [List.getElem?_take, if_pos (by omega)] at e0 e1
    simp only [Array.getElem?_toList] at e0 e1
    exact ⟨g, cap, rfl, by rw [cell_of_row w g _ cur _ _ hh]; exact e0, by rw [cell_of_row w g _ cur _ _ hh]; exact e1⟩
/-- What can be read of it. -/
theorem OB2.rd {w : World} {B : Nat} {v : Value} {l : List Bw} (h : OB2 w B v l) (hl : l.length ≤ 1048576) (hx : ∀ x ∈ l, Rd w x.a x.ws ∧ in64 x.wd) : ∃ a c, v = .slice a l.length c ∧ RdW w a l := by
  by_cases e : l = []
  · subst e
    obtain ⟨a, c, rfl⟩ := h.form
    exact ⟨a, c, rfl, by simp, .inl rfl⟩
  · have h0 : 0 < l.length := List.length_pos_iff.2 e
    obtain ⟨g, c, rfl, -⟩ := h.at (List.getElem?_eq_getElem h0)
    refine ⟨_, c, rfl, hl, .inr ⟨g, 0, rfl, fun i x hi => ?_⟩⟩
    obtain ⟨g', c', e', h1, h2⟩ := h.at hi
    cases e'
    obtain ⟨h3, h4⟩ := hx x (List.mem_of_getElem? hi)
    exact ⟨by rw [Nat.zero_add]; exact h1, by rw [Nat.zero_add]; exact h2, h3, h4⟩

/-- 'append(list, x)' at a step of a region that draws its order; and in a row of operations. -/
theorem step_appB2 (w : World) {ops : Array Oper} {o : Oper} {a : Act} {K : Act → World → Prop} {Q : Exit → Act → World → Prop} {E : Prop} (hgd : o.guard = none) (s x : Operand)
    (ho : o.op = .call { callee := .builtin .append, args := #[s, x], argTypes := #[28, 28] })
    (B : Nat) (v : Value) (l : List Bw) (y : Bw) (hs : a.eval s = v) (hown : OB2 w B v l) (gx c : Nat) (hx : a.eval x = .slice (some ⟨gx, 0, none⟩) 1 c)
    (h0 : w.cell? ⟨gx, 0, none⟩ = some (.int .i64 y.wd)) (h1 : w.cell? ⟨gx, 1, none⟩ = some (.slice y.a y.ws.length y.c)) (hl : l.length ≤ 1073741824) (hB : B ≤ w.heap.size)
    (h : ∀ g cap w', OB2 w' B (.slice (some ⟨g, 0, none⟩) (l.length + 1) cap) (l ++ [y]) → w.grownBy w' v.ownBlock → K (a.put o.dst (.slice (some ⟨g, 0, none⟩) (l.length + 1) cap)) w') :
    if Region.wanted o (yielded ops a.tmps) = true then Oper.wp Tryz.prog o a w K Q else E := by
  obtain ⟨i0, hi, hz0, hz1, hz2⟩ := info_parts Tryz.infoBits
  refine step_append_lies w hgd s x 28 ho B 63 i0 _ 2 32 Tryz.underlying28 hi hz0 hz1 hz2 rfl (by decide) v l.length (bwc l) hs hown ⟨gx, 0, none⟩ 1 c (bwc [y]) hx rfl ?_ ?_ (by decide) ?_ ?_ hB _ rfl ?_
  · intro j u hj
    rw [Addr.add_lit]
    match j, hj with
    | 0, hj => simp [bwc] at hj; subst hj; exact h0
    | 1, hj => simp [bwc] at hj; subst hj; exact h1
    | j + 2, hj => simp [bwc] at hj
  · intro u hu
    simp [bwc] at hu
    rcases hu with rfl | rfl <;> rfl
  · unfold maxLen; omega
  · omega
  · intro g cap w' h1 h2 _ _
    refine h g cap w' ?_ h2
    unfold OB2
    rw [bwc_append, List.length_append]
    exact h1

theorem wpList_appB2 {w : World} {ops : Array Oper} {rest : List Oper} {o : Oper} {a : Act} {Q : Exit → Act → World → Prop} (hgd : o.guard = none) (s x : Operand)
    (ho : o.op = .call { callee := .builtin .append, args := #[s, x], argTypes := #[28, 28] })
    (B : Nat) (v : Value) (l : List Bw) (y : Bw) (hs : a.eval s = v) (hown : OB2 w B v l) (gx c : Nat) (hx : a.eval x = .slice (some ⟨gx, 0, none⟩) 1 c)
    (h0 : w.cell? ⟨gx, 0, none⟩ = some (.int .i64 y.wd)) (h1 : w.cell? ⟨gx, 1, none⟩ = some (.slice y.a y.ws.length y.c)) (hl : l.length ≤ 1073741824) (hB : B ≤ w.heap.size)
    (h : ∀ g cap w', OB2 w' B (.slice (some ⟨g, 0, none⟩) (l.length + 1) cap) (l ++ [y]) → w.grownBy w' v.ownBlock → wpList Tryz.prog ops Q rest (a.put o.dst (.slice (some ⟨g, 0, none⟩) (l.length + 1) cap)) w') : wpList Tryz.prog ops Q (o :: rest) a w := by
  obtain ⟨i0, hi, hz0, hz1, hz2⟩ := info_parts Tryz.infoBits
  refine wpList_append_lies w hgd s x 28 ho B 63 i0 _ 2 32 Tryz.underlying28 hi hz0 hz1 hz2 rfl (by decide) v l.length (bwc l) hs hown ⟨gx, 0, none⟩ 1 c (bwc [y]) hx rfl ?_ ?_ (by decide) ?_ ?_ hB _ rfl ?_
  · intro j u hj
    rw [Addr.add_lit]
    match j, hj with
    | 0, hj => simp [bwc] at hj; subst hj; exact h0
    | 1, hj => simp [bwc] at hj; subst hj; exact h1
    | j + 2, hj => simp [bwc] at hj
  · intro u hu
    simp [bwc] at hu
    rcases hu with rfl | rfl <;> rfl
  · unfold maxLen; omega
  · omega
  · intro g cap w' h1 h2 _ _
    refine h g cap w' ?_ h2
    unfold OB2
    rw [bwc_append, List.length_append]
    exact h1

/-- No two have a block in common. -/
def DjB (l : List Bw) : Prop := ∀ (i j : Nat) (x y : Bw), i < j → l[i]? = some x → l[j]? = some y → ∀ p q, x.a = some p → y.a = some q → p.block ≠ q.block
theorem DjB.nil : DjB [] := fun i j x y _ h => by simp at h
theorem DjB.snoc {w : World} {B : Nat} {l : List Bw} {x : Bw} (h : DjB l) (hl : ∀ y ∈ l, Nw w B y.a y.ws) (hx : ∀ p, x.a = some p → w.heap.size ≤ p.block) : DjB (l ++ [x]) := fun i j y z hij hi hj p q hp hq => by
  rw [List.getElem?_append] at hi hj
  split at hj
  · rename_i hjl
    rw [if_pos (by omega)] at hi
    exact h i j y z hij hi hj p q hp hq
  · rename_i hjl
    have hj0 : j - l.length = 0 := by have := (List.getElem?_eq_some_iff.1 hj).1; simp at this; omega
    rw [hj0] at hj
    simp at hj
    subst hj
    rw [if_pos (by omega)] at hi
    have h1 := (nw_lt (hl y (List.mem_of_getElem? hi)) hp).2
    have h2 := hx q hq
    omega
theorem DjB.set {w : World} {B k : Nat} {l : List Bw} {x : Bw} (h : DjB l) (hl : ∀ y ∈ l, Nw w B y.a y.ws) (hx : ∀ p, x.a = some p → w.heap.size ≤ p.block) : DjB (l.set k x) := fun i j y z hij hi hj p q hp hq => by
  rw [List.getElem?_set] at hi hj
  split at hi
  · split at hi
    · simp at hi
      subst hi
      split at hj
      · omega
      · have h1 := (nw_lt (hl z (List.mem_of_getElem? hj)) hq).2
        have h2 := hx p hp
        omega
    · cases hi
  · split at hj
    · split at hj
      · simp at hj
        subst hj
        have h1 := (nw_lt (hl y (List.mem_of_getElem? hi)) hp).2
        have h2 := hx q hq
        omega
      · cases hj
    · exact h i j y z hij hi hj p q hp hq

end Go.Proofs.YtbpodkdlhjgncaaGreatDoor

/- Words that are copied, also where there are none. -/
namespace Go.Proofs.YtbpodkdlhjgncaaGreatDoor
set_option linter.unusedVariables false
set_option linter.unusedSimpArgs false
open Go.RowKit

set_option maxHeartbeats 2000000 in
set_option maxRecDepth 100000 in
theorem l8CopyG (bw : Int) (b o : Nat) (c n : Nat) (ws : List Nat) (w : World) (hr : Rd w (some ⟨b, o, none⟩) ws) (hn : ws.length = n) :
    Calls Tryz.prog 24 #[.agg #[.int .i64 bw, .slice (some ⟨b, o, none⟩) n c]] w fun e w' => ∃ a2 c2, e = .returned (.agg #[.int .i64 bw, .slice a2 n c2]) ∧ Nw w' w.heap.size a2 ws ∧ Below w.heap.size w w' := by
  have hb2 : Below w.heap.size w ((w.alloc (Obj.cells #[Value.int .i64 bw, Value.slice (some ⟨b, o, none⟩) n c] 63)).alloc (Obj.cells #[Value.int .i64 0, Value.slice none 0 0] 63)) := ((Below.refl _ _).alloc (Nat.le_refl _) _).alloc (by simp) _
  have hr2 := hr.later hb2
  have XP := kide (Bz.later (Bz.new w #[Value.int .i64 bw, Value.slice (some ⟨b, o, none⟩) n c] 63) ((Below.refl _ _).alloc (Nat.le_refl _) (Obj.cells #[Value.int .i64 0, Value.slice none 0 0] 63)))
  have XR : Hid (Bz ((w.alloc (Obj.cells #[Value.int .i64 bw, Value.slice (some ⟨b, o, none⟩) n c] 63)).alloc (Obj.cells #[Value.int .i64 0, Value.slice none 0 0] 63)) (w.heap.size + 1) #[Value.int .i64 0, Value.slice none 0 0] 63) := by
    have h9 := Bz.new (w.alloc (Obj.cells #[Value.int .i64 bw, Value.slice (some ⟨b, o, none⟩) n c] 63)) #[Value.int .i64 0, Value.slice none 0 0] 63
    rw [show (w.alloc (Obj.cells #[Value.int .i64 bw, Value.slice (some ⟨b, o, none⟩) n c] 63)).heap.size = w.heap.size + 1 by simp] at h9
    exact h9
  have hlW : Hid (w.heap.size + 2 ≤ ((w.alloc (Obj.cells #[Value.int .i64 bw, Value.slice (some ⟨b, o, none⟩) n c] 63)).alloc (Obj.cells #[Value.int .i64 0, Value.slice none 0 0] 63)).heap.size) := by show _ ≤ _; simp
  have hl := hr2.1
  have hc : ∀ i, i < ws.length → ((w.alloc (Obj.cells #[Value.int .i64 bw, Value.slice (some ⟨b, o, none⟩) n c] 63)).alloc (Obj.cells #[Value.int .i64 0, Value.slice none 0 0] 63)).cell? ⟨b, o + i, none⟩ = some (.int .u64 ((ws.getD i 0 : Nat) : Int)) := fun i hi => by
    obtain ⟨-, -, h | ⟨b', o', e', hc⟩⟩ := hr2
    · rw [h] at hi; simp at hi
    · cases e'; exact hc i hi
  have HC := kide hc
  have HN := kide hn
  have BW := kide hb2
  clear hr hr2 hc hb2
  go_enter Tryz.func24, Tryz.ntmps24
  go_wp2_with fail
  generalize ((w.alloc (Obj.cells #[Value.int .i64 bw, Value.slice (some ⟨b, o, none⟩) n c] 63)).alloc (Obj.cells #[Value.int .i64 0, Value.slice none 0 0] 63)) = W at *
  obtain ⟨b0, hb0⟩ : ∃ b0, w.heap.size = b0 := ⟨_, rfl⟩
  rw [hb0] at XP XR hlW
  simp only [hb0]
  have HB0 := kide hb0
  clear hb0
  refine wp_region_x (SA := fun _ => False) (SB := fun uu => uu.cell? ⟨b0, 0, none⟩ = some (Value.int .i64 bw) ∧ uu.cell? ⟨b0, 1, none⟩ = some (Value.slice (some ⟨b, o, none⟩) n c)) (k := 999) (by kernel_rfl) ?_
  have hbd : Below W.heap.size W W.drew := (Below.refl _ _).drew
  have XP0 := kide (XP.out.later hbd)
  have XR0 := kide (XR.out.later hbd)
  have hu0 := kide hbd
  clear hbd
  generalize W.drew = u0 at *
  have c0_0 : u0.cell? ⟨b0, 0, none⟩ = some (Value.int .i64 bw) := XP0.out.cell 0
  have c1_0 : u0.cell? ⟨b0, 1, none⟩ = some (Value.slice (some ⟨b, o, none⟩) n c) := XP0.out.cell 1
  have hs0 : Hid ((fun uu => uu.cell? ⟨b0, 0, none⟩ = some (Value.int .i64 bw) ∧ uu.cell? ⟨b0, 1, none⟩ = some (Value.slice (some ⟨b, o, none⟩) n c)) u0) := ⟨c0_0, c1_0⟩
  try go_simp
  refine wpAnyX_both (T := (fun _ => True)) (i := 0) (v := Value.pointer (some ⟨b0, 0, none⟩)) rfl (by kernel_rfl) (by kernel_rfl) (by kernel_rfl) (fun _ _ _ h => by first | exact h | exact h.elim) (by decide) (fun _ _ => trivial) (fun _ _ => trivial) (Sx.behind (by kernel_rfl) hs0.out) (Or.inl ⟨by rfl, fun uu hu => by go_simp⟩) ?_
  try go_simp
  refine wpAnyX_both (T := (fun uu => uu.cell? ⟨b0, 0, none⟩ = some (Value.int .i64 bw) ∧ uu.cell? ⟨b0, 1, none⟩ = some (Value.slice (some ⟨b, o, none⟩) n c))) (i := 1) (v := Value.int .i64 bw) rfl (by kernel_rfl) (by kernel_rfl) (by kernel_rfl) (fun _ _ _ h => by first | exact h | exact h.elim) (by decide) (fun _ h => h.elim) (fun _ h => h) (Sx.behind (by kernel_rfl) hs0.out) (Or.inl ⟨by rfl, fun uu hu => by obtain ⟨e0, e1⟩ := hu; go_simp⟩) ?_
  try go_simp
  refine wpAnyX_both (T := (fun _ => True)) (i := 3) (v := Value.pointer (some ⟨b0, 1, none⟩)) rfl (by kernel_rfl) (by kernel_rfl) (by kernel_rfl) (fun _ _ _ h => by first | exact h | exact h.elim) (by decide) (fun _ _ => trivial) (fun _ _ => trivial) (Sx.behind (by kernel_rfl) hs0.out) (Or.inl ⟨by rfl, fun uu hu => by go_simp⟩) ?_
  try go_simp
  refine wpAnyX_both (T := (fun uu => uu.cell? ⟨b0, 0, none⟩ = some (Value.int .i64 bw) ∧ uu.cell? ⟨b0, 1, none⟩ = some (Value.slice (some ⟨b, o, none⟩) n c))) (i := 4) (v := Value.slice (some ⟨b, o, none⟩) n c) rfl (by kernel_rfl) (by kernel_rfl) (by kernel_rfl) (fun _ _ _ h => by first | exact h | exact h.elim) (by decide) (fun _ h => h.elim) (fun _ h => h) (Sx.behind (by kernel_rfl) hs0.out) (Or.inl ⟨by rfl, fun uu hu => by obtain ⟨e0, e1⟩ := hu; go_simp⟩) ?_
  try go_simp
  refine wpAnyX_ready (rs := [2]) (by kernel_rfl) (by simp) (AllX.cons rfl (fun K hK => ?_) AllX.nil)
  go_simp
  have hbx : Below u0.heap.size u0 (u0.alloc (Obj.cells #[] 103)) := (Below.refl _ _).alloc (Nat.le_refl _) _
  have OE1 : Hid (OwW (u0.alloc (Obj.cells #[] 103)) W.heap.size (.slice (some ⟨u0.heap.size, 0, none⟩) 0 0) []) := OwW.empty _ _ _ rfl hu0.out.size
  have XP1 := kide (XP0.out.later hbx)
  have XR1 := kide (XR0.out.later hbx)
  have hu1 : Hid (Below W.heap.size W (u0.alloc (Obj.cells #[] 103))) := hu0.out.alloc hu0.out.size _
  obtain ⟨ge, hge⟩ : ∃ x, u0.heap.size = x := ⟨_, rfl⟩
  rw [hge] at OE1
  simp only [hge]
  clear hge hbx
  generalize u0.alloc (Obj.cells #[] 103) = u1 at *
  have c0_1 : u1.cell? ⟨b0, 0, none⟩ = some (Value.int .i64 bw) := XP1.out.cell 0
  have c1_1 : u1.cell? ⟨b0, 1, none⟩ = some (Value.slice (some ⟨b, o, none⟩) n c) := XP1.out.cell 1
  have hs1 : Hid ((fun uu => uu.cell? ⟨b0, 0, none⟩ = some (Value.int .i64 bw) ∧ uu.cell? ⟨b0, 1, none⟩ = some (Value.slice (some ⟨b, o, none⟩) n c)) u1) := ⟨c0_1, c1_1⟩
  refine hK _ _ (Sx.behind (by kernel_rfl) hs1.out) ?_
  clear hK K
  try go_simp
  refine wpAnyX_ready (rs := [5]) (by kernel_rfl) (by simp) (AllX.cons rfl (fun K hK => ?_) AllX.nil)
  refine step_appWs _ rfl _ _ rfl W.heap.size (.slice (some ⟨ge, 0, none⟩) 0 0) [] ws (by first | rfl | simp [Act.eval]) OE1.out b o c (by rw [HN.out]; first | rfl | simp [Act.eval]) (fun i hi => (hu1.out.cell (p := ⟨b, o + i, none⟩) (block_lt_of_cell (HC.out i hi))).trans (HC.out i hi)) (by simp; omega) hu1.out.size ?_
  intro v5 u2 how hgr
  obtain ⟨a5, c5, rfl, hn5⟩ := how.shape
  have hbg : Below W.heap.size u1 u2 := Below.grown (Below.refl _ _) hgr hu1.out.size (fun j hj => (own_ge OE1.out hj))
  have NN2 := kide hn5
  have XP2 : Hid (Bz u2 b0 #[Value.int .i64 bw, Value.slice (some ⟨b, o, none⟩) n c] 63) := (hbg.block b0 (by have := hlW.out; omega)).trans XP1.out
  have XR2 : Hid (Bz u2 (b0 + 1) #[Value.int .i64 0, Value.slice none 0 0] 63) := (hbg.block (b0 + 1) (by have := hlW.out; omega)).trans XR1.out
  have hu2 := kide (hu1.out.trans hbg)
  rw [List.nil_append, HN.out]
  rw [List.nil_append] at NN2
  clear how hgr hbg hn5
  have c0_2 : u2.cell? ⟨b0, 0, none⟩ = some (Value.int .i64 bw) := XP2.out.cell 0
  have c1_2 : u2.cell? ⟨b0, 1, none⟩ = some (Value.slice (some ⟨b, o, none⟩) n c) := XP2.out.cell 1
  have hs2 : Hid ((fun uu => uu.cell? ⟨b0, 0, none⟩ = some (Value.int .i64 bw) ∧ uu.cell? ⟨b0, 1, none⟩ = some (Value.slice (some ⟨b, o, none⟩) n c)) u2) := ⟨c0_2, c1_2⟩
  refine hK _ _ (Sx.behind (by kernel_rfl) hs2.out) ?_
  clear hK K
  try go_simp
  refine wpAnyX_both (T := (fun _ => True)) (i := 6) (v := Value.agg #[Value.int .i64 bw, Value.slice a5 n c5]) rfl (by kernel_rfl) (by kernel_rfl) (by kernel_rfl) (fun _ _ _ h => by first | exact h | exact h.elim) (by decide) (fun _ _ => trivial) (fun _ _ => trivial) (Sx.behind (by kernel_rfl) hs2.out) (Or.inl ⟨by rfl, fun uu hu => by go_simp⟩) ?_
  try go_simp
  refine wpAnyX_ready (rs := [7]) (by kernel_rfl) (by simp) (AllX.cons rfl (fun K hK => ?_) AllX.nil)
  have e0 : u2.cell? ⟨b0 + 1, 0, none⟩ = some (Value.int .i64 0) := XR2.out.cell 0
  have e1 : u2.cell? ⟨b0 + 1, 1, none⟩ = some (Value.slice none 0 0) := XR2.out.cell 1
  have f0 := XR2.out.froz 0
  have f1 := XR2.out.froz 1
  go_simp
  have XR3 : Hid (Bz ((u2.setCell ⟨b0 + 1, 0, none⟩ (Value.int .i64 bw)).setCell ⟨b0 + 1, 1, none⟩ (Value.slice a5 n c5)) (b0 + 1) #[Value.int .i64 bw, Value.slice a5 n c5] 63) := (XR2.out.set 0 _).set 1 _
  have XP3 : Hid (Bz ((u2.setCell ⟨b0 + 1, 0, none⟩ (Value.int .i64 bw)).setCell ⟨b0 + 1, 1, none⟩ (Value.slice a5 n c5)) b0 #[Value.int .i64 bw, Value.slice (some ⟨b, o, none⟩) n c] 63) := (XP2.out.other (by omega) 0 _).other (by omega) 1 _
  have NN3 : Hid (Nw ((u2.setCell ⟨b0 + 1, 0, none⟩ (Value.int .i64 bw)).setCell ⟨b0 + 1, 1, none⟩ (Value.slice a5 n c5)) W.heap.size a5 ws) := nw_set (nw_set NN2.out XR2.out (by decide) 0 _) (XR2.out.set 0 (Value.int .i64 bw)) (by decide) 1 _
  have BB3 : Hid (Below w.heap.size w ((u2.setCell ⟨b0 + 1, 0, none⟩ (Value.int .i64 bw)).setCell ⟨b0 + 1, 1, none⟩ (Value.slice a5 n c5))) := ((BW.out.trans (hu2.out.mono BW.out.size)).setCell (by rw [HB0.out]; exact Nat.le_succ _) _).setCell (by rw [HB0.out]; exact Nat.le_succ _) _
  clear e0 e1 f0 f1
  generalize (u2.setCell ⟨b0 + 1, 0, none⟩ (Value.int .i64 bw)).setCell ⟨b0 + 1, 1, none⟩ (Value.slice a5 n c5) = u3 at *
  have c0_3 : u3.cell? ⟨b0, 0, none⟩ = some (Value.int .i64 bw) := XP3.out.cell 0
  have c1_3 : u3.cell? ⟨b0, 1, none⟩ = some (Value.slice (some ⟨b, o, none⟩) n c) := XP3.out.cell 1
  have hs3 : Hid ((fun uu => uu.cell? ⟨b0, 0, none⟩ = some (Value.int .i64 bw) ∧ uu.cell? ⟨b0, 1, none⟩ = some (Value.slice (some ⟨b, o, none⟩) n c)) u3) := ⟨c0_3, c1_3⟩
  refine hK _ _ (Sx.behind (by kernel_rfl) hs3.out) ?_
  clear hK K
  try go_simp
  refine wpAnyX_done (by kernel_rfl) ?_ _
  go_wp2_with fail
  have y0 : u3.cell? ⟨b0 + 1, 0, none⟩ = some (Value.int .i64 bw) := XR3.out.cell 0
  have y1 : u3.cell? ⟨b0 + 1, 1, none⟩ = some (Value.slice a5 n c5) := XR3.out.cell 1
  exact bodyPost_ret (v := Value.agg #[Value.int .i64 bw, Value.slice a5 n c5]) (by simp [results, Tryz.results24, go_sem, y0, y1]) rfl ⟨a5, ⟨c5, rfl⟩, Nw.mono NN3.out (by have := hlW.out; have := HB0.out; omega), BB3.out⟩

set_option maxHeartbeats 2000000 in
set_option maxRecDepth 100000 in
theorem copyG (bw : Int) (b o : Nat) (c n : Nat) (ws : List Nat) (w : World) (hr : Rd w (some ⟨b, o, none⟩) ws) (hn : ws.length = n) :
    Calls Tryz.prog 56 #[.agg #[.int .i64 bw, .slice (some ⟨b, o, none⟩) n c]] w fun e w' => ∃ a2 c2, e = .returned (.agg #[.int .i64 bw, .slice a2 n c2]) ∧ Nw w' w.heap.size a2 ws ∧ Below w.heap.size w w' := by
  have hb2 : Below w.heap.size w ((w.alloc (Obj.cells #[Value.int .i64 bw, Value.slice (some ⟨b, o, none⟩) n c] 63)).alloc (Obj.cells #[Value.int .i64 0, Value.slice none 0 0] 63)) := ((Below.refl _ _).alloc (Nat.le_refl _) _).alloc (by simp) _
  have hr2 := hr.later hb2
  have XP := kide (Bz.later (Bz.new w #[Value.int .i64 bw, Value.slice (some ⟨b, o, none⟩) n c] 63) ((Below.refl _ _).alloc (Nat.le_refl _) (Obj.cells #[Value.int .i64 0, Value.slice none 0 0] 63)))
  have XR : Hid (Bz ((w.alloc (Obj.cells #[Value.int .i64 bw, Value.slice (some ⟨b, o, none⟩) n c] 63)).alloc (Obj.cells #[Value.int .i64 0, Value.slice none 0 0] 63)) (w.heap.size + 1) #[Value.int .i64 0, Value.slice none 0 0] 63) := by
    have h9 := Bz.new (w.alloc (Obj.cells #[Value.int .i64 bw, Value.slice (some ⟨b, o, none⟩) n c] 63)) #[Value.int .i64 0, Value.slice none 0 0] 63
    rw [show (w.alloc (Obj.cells #[Value.int .i64 bw, Value.slice (some ⟨b, o, none⟩) n c] 63)).heap.size = w.heap.size + 1 by simp] at h9
    exact h9
  have hlW : Hid (w.heap.size + 2 ≤ ((w.alloc (Obj.cells #[Value.int .i64 bw, Value.slice (some ⟨b, o, none⟩) n c] 63)).alloc (Obj.cells #[Value.int .i64 0, Value.slice none 0 0] 63)).heap.size) := by show _ ≤ _; simp
  have hl := hr2.1
  have hc : ∀ i, i < ws.length → ((w.alloc (Obj.cells #[Value.int .i64 bw, Value.slice (some ⟨b, o, none⟩) n c] 63)).alloc (Obj.cells #[Value.int .i64 0, Value.slice none 0 0] 63)).cell? ⟨b, o + i, none⟩ = some (.int .u64 ((ws.getD i 0 : Nat) : Int)) := fun i hi => by
    obtain ⟨-, -, h | ⟨b', o', e', hc⟩⟩ := hr2
    · rw [h] at hi; simp at hi
    · cases e'; exact hc i hi
  have HC := kide hc
  have HN := kide hn
  have BW := kide hb2
  clear hr hr2 hc hb2
  go_enter Tryz.func56, Tryz.ntmps56
  go_wp2_with fail
  generalize ((w.alloc (Obj.cells #[Value.int .i64 bw, Value.slice (some ⟨b, o, none⟩) n c] 63)).alloc (Obj.cells #[Value.int .i64 0, Value.slice none 0 0] 63)) = W at *
  obtain ⟨b0, hb0⟩ : ∃ b0, w.heap.size = b0 := ⟨_, rfl⟩
  rw [hb0] at XP XR hlW
  simp only [hb0]
  have HB0 := kide hb0
  clear hb0
  refine wp_region_x (SA := fun _ => False) (SB := fun uu => uu.cell? ⟨b0, 0, none⟩ = some (Value.int .i64 bw) ∧ uu.cell? ⟨b0, 1, none⟩ = some (Value.slice (some ⟨b, o, none⟩) n c)) (k := 999) (by kernel_rfl) ?_
  have hbd : Below W.heap.size W W.drew := (Below.refl _ _).drew
  have XP0 := kide (XP.out.later hbd)
  have XR0 := kide (XR.out.later hbd)
  have hu0 := kide hbd
  clear hbd
  generalize W.drew = u0 at *
  have c0_0 : u0.cell? ⟨b0, 0, none⟩ = some (Value.int .i64 bw) := XP0.out.cell 0
  have c1_0 : u0.cell? ⟨b0, 1, none⟩ = some (Value.slice (some ⟨b, o, none⟩) n c) := XP0.out.cell 1
  have hs0 : Hid ((fun uu => uu.cell? ⟨b0, 0, none⟩ = some (Value.int .i64 bw) ∧ uu.cell? ⟨b0, 1, none⟩ = some (Value.slice (some ⟨b, o, none⟩) n c)) u0) := ⟨c0_0, c1_0⟩
  try go_simp
  refine wpAnyX_both (T := (fun _ => True)) (i := 0) (v := Value.pointer (some ⟨b0, 0, none⟩)) rfl (by kernel_rfl) (by kernel_rfl) (by kernel_rfl) (fun _ _ _ h => by first | exact h | exact h.elim) (by decide) (fun _ _ => trivial) (fun _ _ => trivial) (Sx.behind (by kernel_rfl) hs0.out) (Or.inl ⟨by rfl, fun uu hu => by go_simp⟩) ?_
  try go_simp
  refine wpAnyX_both (T := (fun uu => uu.cell? ⟨b0, 0, none⟩ = some (Value.int .i64 bw) ∧ uu.cell? ⟨b0, 1, none⟩ = some (Value.slice (some ⟨b, o, none⟩) n c))) (i := 1) (v := Value.int .i64 bw) rfl (by kernel_rfl) (by kernel_rfl) (by kernel_rfl) (fun _ _ _ h => by first | exact h | exact h.elim) (by decide) (fun _ h => h.elim) (fun _ h => h) (Sx.behind (by kernel_rfl) hs0.out) (Or.inl ⟨by rfl, fun uu hu => by obtain ⟨e0, e1⟩ := hu; go_simp⟩) ?_
  try go_simp
  refine wpAnyX_both (T := (fun _ => True)) (i := 2) (v := Value.pointer (some ⟨b0, 1, none⟩)) rfl (by kernel_rfl) (by kernel_rfl) (by kernel_rfl) (fun _ _ _ h => by first | exact h | exact h.elim) (by decide) (fun _ _ => trivial) (fun _ _ => trivial) (Sx.behind (by kernel_rfl) hs0.out) (Or.inl ⟨by rfl, fun uu hu => by go_simp⟩) ?_
  try go_simp
  refine wpAnyX_both (T := (fun uu => uu.cell? ⟨b0, 0, none⟩ = some (Value.int .i64 bw) ∧ uu.cell? ⟨b0, 1, none⟩ = some (Value.slice (some ⟨b, o, none⟩) n c))) (i := 3) (v := Value.slice (some ⟨b, o, none⟩) n c) rfl (by kernel_rfl) (by kernel_rfl) (by kernel_rfl) (fun _ _ _ h => by first | exact h | exact h.elim) (by decide) (fun _ h => h.elim) (fun _ h => h) (Sx.behind (by kernel_rfl) hs0.out) (Or.inl ⟨by rfl, fun uu hu => by obtain ⟨e0, e1⟩ := hu; go_simp⟩) ?_
  try go_simp
  refine wpAnyX_ready (rs := [4]) (by kernel_rfl) (by simp) (AllX.cons rfl (fun K hK => ?_) AllX.nil)
  refine step_appWs _ rfl _ _ rfl W.heap.size (.slice none 0 0) [] ws (by first | rfl | simp [Act.eval]) (OwW.nils _ _) b o c (by rw [HN.out]; first | rfl | simp [Act.eval]) (fun i hi => (hu0.out.cell (p := ⟨b, o + i, none⟩) (block_lt_of_cell (HC.out i hi))).trans (HC.out i hi)) (by simp; omega) hu0.out.size ?_
  intro v5 u1 how hgr
  obtain ⟨a5, c5, rfl, hn5⟩ := how.shape
  have hbg : Below W.heap.size u0 u1 := Below.grown (Below.refl _ _) hgr hu0.out.size (fun j hj => by cases hj)
  have NN1 := kide hn5
  have XP1 : Hid (Bz u1 b0 #[Value.int .i64 bw, Value.slice (some ⟨b, o, none⟩) n c] 63) := (hbg.block b0 (by have := hlW.out; omega)).trans XP0.out
  have XR1 : Hid (Bz u1 (b0 + 1) #[Value.int .i64 0, Value.slice none 0 0] 63) := (hbg.block (b0 + 1) (by have := hlW.out; omega)).trans XR0.out
  have hu1 := kide (hu0.out.trans hbg)
  rw [List.nil_append, HN.out]
  rw [List.nil_append] at NN1
  clear how hgr hbg hn5
  have c0_1 : u1.cell? ⟨b0, 0, none⟩ = some (Value.int .i64 bw) := XP1.out.cell 0
  have c1_1 : u1.cell? ⟨b0, 1, none⟩ = some (Value.slice (some ⟨b, o, none⟩) n c) := XP1.out.cell 1
  have hs1 : Hid ((fun uu => uu.cell? ⟨b0, 0, none⟩ = some (Value.int .i64 bw) ∧ uu.cell? ⟨b0, 1, none⟩ = some (Value.slice (some ⟨b, o, none⟩) n c)) u1) := ⟨c0_1, c1_1⟩
  refine hK _ _ (Sx.behind (by kernel_rfl) hs1.out) ?_
  clear hK K
  try go_simp
  refine wpAnyX_both (T := (fun _ => True)) (i := 5) (v := Value.agg #[Value.int .i64 bw, Value.slice a5 n c5]) rfl (by kernel_rfl) (by kernel_rfl) (by kernel_rfl) (fun _ _ _ h => by first | exact h | exact h.elim) (by decide) (fun _ _ => trivial) (fun _ _ => trivial) (Sx.behind (by kernel_rfl) hs1.out) (Or.inl ⟨by rfl, fun uu hu => by go_simp⟩) ?_
  try go_simp
  refine wpAnyX_ready (rs := [6]) (by kernel_rfl) (by simp) (AllX.cons rfl (fun K hK => ?_) AllX.nil)
  have e0 : u1.cell? ⟨b0 + 1, 0, none⟩ = some (Value.int .i64 0) := XR1.out.cell 0
  have e1 : u1.cell? ⟨b0 + 1, 1, none⟩ = some (Value.slice none 0 0) := XR1.out.cell 1
  have f0 := XR1.out.froz 0
  have f1 := XR1.out.froz 1
  go_simp
  have XR2 : Hid (Bz ((u1.setCell ⟨b0 + 1, 0, none⟩ (Value.int .i64 bw)).setCell ⟨b0 + 1, 1, none⟩ (Value.slice a5 n c5)) (b0 + 1) #[Value.int .i64 bw, Value.slice a5 n c5] 63) := (XR1.out.set 0 _).set 1 _
  have XP2 : Hid (Bz ((u1.setCell ⟨b0 + 1, 0, none⟩ (Value.int .i64 bw)).setCell ⟨b0 + 1, 1, none⟩ (Value.slice a5 n c5)) b0 #[Value.int .i64 bw, Value.slice (some ⟨b, o, none⟩) n c] 63) := (XP1.out.other (by omega) 0 _).other (by omega) 1 _
  have NN2 : Hid (Nw ((u1.setCell ⟨b0 + 1, 0, none⟩ (Value.int .i64 bw)).setCell ⟨b0 + 1, 1, none⟩ (Value.slice a5 n c5)) W.heap.size a5 ws) := nw_set (nw_set NN1.out XR1.out (by decide) 0 _) (XR1.out.set 0 (Value.int .i64 bw)) (by decide) 1 _
  have BB2 : Hid (Below w.heap.size w ((u1.setCell ⟨b0 + 1, 0, none⟩ (Value.int .i64 bw)).setCell ⟨b0 + 1, 1, none⟩ (Value.slice a5 n c5))) := ((BW.out.trans (hu1.out.mono BW.out.size)).setCell (by rw [HB0.out]; exact Nat.le_succ _) _).setCell (by rw [HB0.out]; exact Nat.le_succ _) _
  clear e0 e1 f0 f1
  generalize (u1.setCell ⟨b0 + 1, 0, none⟩ (Value.int .i64 bw)).setCell ⟨b0 + 1, 1, none⟩ (Value.slice a5 n c5) = u2 at *
  have c0_2 : u2.cell? ⟨b0, 0, none⟩ = some (Value.int .i64 bw) := XP2.out.cell 0
  have c1_2 : u2.cell? ⟨b0, 1, none⟩ = some (Value.slice (some ⟨b, o, none⟩) n c) := XP2.out.cell 1
  have hs2 : Hid ((fun uu => uu.cell? ⟨b0, 0, none⟩ = some (Value.int .i64 bw) ∧ uu.cell? ⟨b0, 1, none⟩ = some (Value.slice (some ⟨b, o, none⟩) n c)) u2) := ⟨c0_2, c1_2⟩
  refine hK _ _ (Sx.behind (by kernel_rfl) hs2.out) ?_
  clear hK K
  try go_simp
  refine wpAnyX_done (by kernel_rfl) ?_ _
  go_wp2_with fail
  have y0 : u2.cell? ⟨b0 + 1, 0, none⟩ = some (Value.int .i64 bw) := XR2.out.cell 0
  have y1 : u2.cell? ⟨b0 + 1, 1, none⟩ = some (Value.slice a5 n c5) := XR2.out.cell 1
  exact bodyPost_ret (v := Value.agg #[Value.int .i64 bw, Value.slice a5 n c5]) (by simp [results, Tryz.results56, go_sem, y0, y1]) rfl ⟨a5, ⟨c5, rfl⟩, Nw.mono NN2.out (by have := hlW.out; have := HB0.out; omega), BB2.out⟩

end Go.Proofs.YtbpodkdlhjgncaaGreatDoor

/- Values copied. -/
namespace Go.Proofs.YtbpodkdlhjgncaaGreatDoor
set_option linter.unusedVariables false
set_option linter.unusedSimpArgs false
open Go.RowKit

/-- A row of words of one's own, each in memory of its own. -/
structure Bs (w : World) (B : Nat) (v : Value) (l : List Bw) : Prop where
  row : OB2 w B v l
  nw : ∀ x ∈ l, Nw w B x.a x.ws
  dj : DjB l

theorem Bs.later {w w' : World} {B : Nat} {v : Value} {l : List Bw} (h : Bs w B v l) (hb : Below w.heap.size w w') : Bs w' B v l := ⟨h.row.later hb, fun x hx => (h.nw x hx).later hb, h.dj⟩
theorem Bs.nil (w : World) (B : Nat) : Bs w B (.slice none 0 0) [] := ⟨OB2.nil w B, by simp, DjB.nil⟩
theorem Bs.form {w : World} {B : Nat} {v : Value} {l : List Bw} (h : Bs w B v l) : ∃ a c, v = .slice a l.length c := h.row.form
/-- Words stay where the row of them grows. -/
theorem nw_row {w w' : World} {B C : Nat} {v : Value} {l : List Bw} {a : Option Addr} {xs : List Nat} (h : Nw w C a xs) (ho : OB2 w B v l) (hg : w.grownBy w' v.ownBlock) : Nw w' C a xs :=
  h.kept fun k cur hc => hg.block k (lt_of_block hc) (fun e => by
    obtain ⟨cur', h'⟩ := ho.typed e.symm
    rw [hc] at h'
    cases h')
theorem Bs.app {w w1 w2 : World} {B : Nat} {v v' : Value} {l : List Bw} {y : Bw} (h : Bs w B v l) (hb : Below w.heap.size w w1) (hB : B ≤ w.heap.size) (hy : Nw w1 w.heap.size y.a y.ws) (hg : w1.grownBy w2 v.ownBlock) (ho : OB2 w2 B v' (l ++ [y])) : Bs w2 B v' (l ++ [y]) where
  row := ho
  nw := fun x hx => by
    rcases List.mem_append.1 hx with hx | hx
    · exact nw_row ((h.nw x hx).later hb) (h.row.later hb) hg
    · simp at hx
      subst hx
      exact (nw_row hy (h.row.later hb) hg).mono hB
  dj := h.dj.snoc h.nw fun p hp => (nw_lt hy hp).1

/-- What a call tells that has made a row of words. -/
def RetBs (w : World) (X : List (Int × List Nat)) (e : Ending) (w' : World) : Prop := ∃ v l, e = .returned v ∧ Bs w' w.heap.size v l ∧ l.map Bw.ct = X ∧ Below w.heap.size w w'

theorem copyValues_any (a : Option Addr) (c n : Nat) (xs : List Bw) (w : World) (hr : RdW w a xs) (hn : xs.length = n) (hne : ∀ x ∈ xs, 0 < x.ws.length) :
    Calls Tryz.prog 33 #[.slice a n c] w (RetBs w (xs.map Bw.ct)) := by
  have hlen := hr.1
  rw [hn] at hlen
  have HN := kide hn
  have HNE := kide hne
  clear hn hne
  go_enter Tryz.func33, Tryz.ntmps33
  go_wp2_with fail
  go_loopw [3, 8] (fun v q wr => ∃ (k : Nat) (l : List Bw), k ≤ n ∧ q = .int .i64 (k : Int) ∧ Bs wr w.heap.size v l ∧ l.map Bw.ct = (xs.take k).map Bw.ct ∧ Below w.heap.size w wr) (fun _ q _ => n - (intOf q).toNat)
  case atStart => exact ⟨0, [], Nat.zero_le _, rfl, Bs.nil _ _, rfl, Below.refl _ _⟩
  case round =>
    rename_i v3
    obtain ⟨k, l, hk, rfl, hbs, hct, hbel⟩ := hrel
    have HB := kide hbel
    have HBS := kide hbs
    have HCT := kide hct
    by_cases hlt : k < n
    · obtain ⟨-, h | ⟨b, o, rfl, hc⟩⟩ := hr.later hbel
      · have := HN.out; subst h; simp at this; omega
      obtain ⟨x, gx⟩ : ∃ y, xs[k]? = some y := ⟨xs[k]'(by rw [HN.out]; exact hlt), List.getElem?_eq_getElem _⟩
      obtain ⟨p0, p1, p2, p3⟩ := hc k x gx
      have hx0 := HNE.out x (List.mem_of_getElem? gx)
      have GX := kide gx
      obtain ⟨wd, xa, xc, ws⟩ := x
      simp only [] at p0 p1 p2 p3 hx0
      obtain ⟨-, -, h | ⟨xb, xo, rfl, -⟩⟩ := id p2
      · rw [h] at hx0; simp at hx0
      have i0 : (k : Int) < (n : Int) := by omega
      have P2 := kide p2
      obtain ⟨m, hm⟩ : ∃ m, ws.length = m := ⟨_, rfl⟩
      rw [hm] at p1
      have HM := kide hm
      have lb := block_lt_of_cell p0
      clear hc gx p2 hbs hct hbel hm
      go_wp2_with fail
      have hba : Below wr.heap.size wr (wr.alloc (Obj.cells #[Value.int .i64 wd, Value.slice (some ⟨xb, xo, none⟩) m xc] 63)) := (Below.refl _ _).alloc (Nat.le_refl _) _
      refine Calls.mono (copyG wd xb xo xc m ws _ (P2.out.later hba) HM.out) ?_
      rintro e w1 ⟨a2, c2, rfl, hn2, hb2⟩
      have HW1 := kide (hba.trans (hb2.mono hba.size))
      have HN2 := kide (hn2.mono hba.size)
      clear hn2 hb2 hba
      have hb3 : Below w1.heap.size w1 (w1.alloc (Obj.cells #[Value.int .i64 wd, Value.slice a2 m c2] 63)) := (Below.refl _ _).alloc (Nat.le_refl _) _
      have q0 : (w1.alloc (Obj.cells #[Value.int .i64 wd, Value.slice a2 m c2] 63)).cell? ⟨w1.heap.size, 0, none⟩ = some (.int .i64 wd) := by simp
      have q1 : (w1.alloc (Obj.cells #[Value.int .i64 wd, Value.slice a2 m c2] 63)).cell? ⟨w1.heap.size, 1, none⟩ = some (.slice a2 m c2) := by simp
      have HW3 := kide (HW1.out.trans (hb3.mono HW1.out.size))
      have HN3 := kide (HN2.out.later hb3)
      have hll : l.length ≤ 1073741824 := by
        have h := congrArg List.length HCT.out
        simp at h
        omega
      go_wp2_with (at_builtin; refine wpList_appB2 rfl _ _ rfl w.heap.size u3 l ⟨wd, a2, c2, ws⟩ (by first | rfl | simp [Act.eval]) (HBS.out.row.later HW3.out) w1.heap.size 1 (by first | rfl | simp [Act.eval]) q0 (by rw [HM.out]; exact q1) hll (Nat.le_trans HB.out.size HW3.out.size) ?_)
      intro g cap w4 ho4 hg4
      have HBS4 := kide (HBS.out.app HW3.out HB.out.size (y := ⟨wd, a2, c2, ws⟩) HN3.out hg4 ho4)
      have HB4 : Hid (Below w.heap.size w w4) := Below.grown (HB.out.trans (HW3.out.mono HB.out.size)) hg4 (Nat.le_trans HB.out.size HW3.out.size) (fun j hj => (HBS.out.row.lt hj).1)
      clear ho4 hg4 q0 q1 hb3
      go_wp2_with fail
      go_roundw
      case rel =>
        refine ⟨k + 1, l ++ [⟨wd, a2, c2, ws⟩], by omega, by go_num, ?_, ?_, HB4.out⟩
        · exact HBS4.out
        · rw [List.map_append, HCT.out, List.take_add_one, GX.out, List.map_append]
          rfl
      case measure => simp [intOf]; omega
    · have hkn : k = n := by omega
      have HE : Hid (l.map Bw.ct = xs.map Bw.ct) := by
        show _ = _
        rw [hct, hkn, ← HN.out, List.take_length]
      clear hbs hct hbel
      go_wp2_with fail
      go_ret
      exact ⟨_, l, rfl, HBS.out, HE.out, HB.out⟩

end Go.Proofs.YtbpodkdlhjgncaaGreatDoor

/- A row of words of one's own: a place is given another word. -/
namespace Go.Proofs.YtbpodkdlhjgncaaGreatDoor
set_option linter.unusedVariables false
set_option linter.unusedSimpArgs false
open Go.RowKit

theorem valR_pos {ds : List Dc} {xs : List Bw} (h : valR ds (xs.map Bw.ct) = true) : ds.length ≤ 60 ∧ xs.length = ds.length ∧ ∀ x ∈ xs, 0 < x.ws.length := by
  obtain ⟨h1, h2, h3⟩ := valR_iff.1 h
  refine ⟨(dclR_iff.1 h1).1, by simpa using h2, fun x hx => ?_⟩
  obtain ⟨i, hi, e⟩ := List.mem_iff_getElem.1 hx
  have h4 := (h3 i (by simpa using hi)).1
  have e2 : (xs.map Bw.ct).getD i (0, []) = x.ct := by simp [List.getD, hi, e]
  rw [e2] at h4
  replace h4 : rightB x.wd x.ws = true := h4
  simp only [rightB, Bool.and_eq_true, decide_eq_true_eq] at h4
  have h5 := h4.1.1
  simp [wOk] at h5
  have h6 := h4.1.2
  omega
theorem bwc_set : ∀ (l : List Bw) (i : Nat) (x : Bw), bwc (l.set i x) = ((bwc l).set (i * 2) (.int .i64 x.wd)).set (i * 2 + 1) (.slice x.a x.ws.length x.c)
  | [], i, x => by simp [bwc]
  | y :: t, 0, x => by simp [bwc]
  | y :: t, i + 1, x => by
    rw [show (i + 1) * 2 = i * 2 + 1 + 1 by omega]
    simp [bwc, bwc_set t i x]
theorem OB2.store {w : World} {B g n c : Nat} {l : List Bw} (h : OB2 w B (.slice (some ⟨g, 0, none⟩) n c) l) (i : Nat) (x : Bw) :
    OB2 ((w.setCell ⟨g, i * 2, none⟩ (.int .i64 x.wd)).setCell ⟨g, i * 2 + 1, none⟩ (.slice x.a x.ws.length x.c)) B (.slice (some ⟨g, 0, none⟩) n c) (l.set i x) := by
  rcases h with ⟨h1, ⟨e, -⟩ | ⟨g', cap, cur, e, hg, hh, hc1, hc2, hsz, hcur⟩⟩
  · cases e
  · cases e
    refine ⟨by rw [bwc_len, List.length_set], .inr ⟨g, c, (cur.setIfInBounds (i * 2) (.int .i64 x.wd)).setIfInBounds (i * 2 + 1) (.slice x.a x.ws.length x.c), by rw [List.length_set], hg, ?_, by rw [List.length_set]; exact hc1, hc2, by simpa using hsz, ?_⟩⟩
    · exact heap_setCell_same _ g _ _ _ _ (heap_setCell_same w g _ _ _ _ hh)
    · rw [List.length_set, bwc_set, ← hcur]
      simp [List.take_set]
theorem OB2.blk {w : World} {B g n c : Nat} {l : List Bw} (h : OB2 w B (.slice (some ⟨g, 0, none⟩) n c) l) : ∃ cur, Bz w g cur 63 := h.typed rfl
theorem Bs.store {w w1 : World} {B g n c i : Nat} {l : List Bw} {x : Bw} (h : Bs w B (.slice (some ⟨g, 0, none⟩) n c) l) (hb : Below w.heap.size w w1) (hB : B ≤ w.heap.size) (hx : Nw w1 w.heap.size x.a x.ws) :
    Bs ((w1.setCell ⟨g, i * 2, none⟩ (.int .i64 x.wd)).setCell ⟨g, i * 2 + 1, none⟩ (.slice x.a x.ws.length x.c)) B (.slice (some ⟨g, 0, none⟩) n c) (l.set i x) where
  row := (h.row.later hb).store i x
  nw := fun y hy => by
    obtain ⟨cur, hc⟩ := (h.row.later hb).blk
    rcases List.mem_or_eq_of_mem_set hy with hy | rfl
    · exact nw_set (nw_set ((h.nw y hy).later hb) hc (by decide) _ _) (hc.set _ _) (by decide) _ _
    · exact (nw_set (nw_set hx hc (by decide) _ _) (hc.set _ _) (by decide) _ _).mono hB
  dj := h.dj.set h.nw fun p hp => (nw_lt hx hp).1
theorem Bs.mono {w : World} {B B' : Nat} {v : Value} {l : List Bw} (h : Bs w B v l) (hB : B' ≤ B) : Bs w B' v l := by
  refine ⟨⟨h.row.1, ?_⟩, fun x hx => (h.nw x hx).mono hB, h.dj⟩
  rcases h.row.2 with h0 | ⟨g, cap, cur, e, hg, r⟩
  · exact .inl h0
  · exact .inr ⟨g, cap, cur, e, Nat.le_trans hB hg, r⟩

end Go.Proofs.YtbpodkdlhjgncaaGreatDoor
