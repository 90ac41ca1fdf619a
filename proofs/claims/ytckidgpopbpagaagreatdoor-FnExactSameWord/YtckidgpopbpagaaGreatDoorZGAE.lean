/- Several texts in one. -/
import Derived.Test.YtckidgpopbpagaaGreatDoorZGAB
import Derived.Test.YtckidgpopbpagaaGreatDoorZGAC
import Derived.Test.YtckidgpopbpagaaGreatDoorRX
import Derived.Deep.OwnRows
import Derived.Deep.RegionHeldLaw
import Derived.Deep.AppendLies

/- Blocks of memory: what stays, what may change in its kind alone; words in new memory. -/
namespace Go.Proofs.YtckidgpopbpagaaGreatDoor
set_option linter.unusedVariables false
set_option linter.unusedSimpArgs false
open Go.RowKit

def Bz (u : World) (b : Nat) (cs : Array Value) (t : TypeId) : Prop := u.heap[b]? = some (.cells cs t (0, 0))
theorem Bz.lt {u : World} {b : Nat} {cs : Array Value} {t : TypeId} (h : Bz u b cs t) : b < u.heap.size := lt_of_block h
theorem Bz.new (u : World) (cs : Array Value) (t : TypeId) : Bz (u.alloc (.cells cs t)) u.heap.size cs t := heap_alloc_new _ _
theorem Bz.set {u : World} {b : Nat} {cs : Array Value} {t : TypeId} (h : Bz u b cs t) (o : Nat) (x : Value) : Bz (u.setCell ⟨b, o, none⟩ x) b (cs.setIfInBounds o x) t := heap_setCell_same u b o _ _ x h
theorem Bz.other {u : World} {b c : Nat} {cs : Array Value} {t : TypeId} (h : Bz u b cs t) (hn : b ≠ c) (o : Nat) (x : Value) : Bz (u.setCell ⟨c, o, none⟩ x) b cs t := by
  unfold Bz; rw [heap_setCell_other _ _ _ _ (by simpa using hn)]; exact h
theorem Bz.cell {u : World} {b : Nat} {cs : Array Value} {t : TypeId} (h : Bz u b cs t) (o : Nat) : u.cell? ⟨b, o, none⟩ = cs[o]? := cell_of_row u b o _ _ _ h
theorem Bz.froz {u : World} {b : Nat} {cs : Array Value} {t : TypeId} (h : Bz u b cs t) (o : Nat) : u.frozen? ⟨b, o, none⟩ = false := frozen_of_row u b o _ _ h
theorem Bz.later {u u' : World} {b : Nat} {cs : Array Value} {t : TypeId} (h : Bz u b cs t) (hb : Below u.heap.size u u') : Bz u' b cs t := by
  unfold Bz; rw [hb.block _ h.lt]; exact h

theorem share2 {F P : World → Nat → Prop} {G : Prop} (main : (∀ v b, F v b → P v b) → G) (key : ∀ v b, F v b → P v b) : G := main key

theorem own_ge {w : World} {B n : Nat} {e : TypeId} {v : Value} {xs : List Value} {b : Nat} (h : w.ownsRow B e 1 v n xs) (hb : v.ownBlock = some b) : B ≤ b := by
  rcases h.2 with ⟨rfl, -⟩ | ⟨g, cap, cur, rfl, hg, hh, -⟩
  · cases hb
  · cases hb
    exact hg

/-- But for the blocks from B1 on below B2 nothing has changed. -/
def Out (B1 B2 : Nat) (w w' : World) : Prop := w'.os = w.os ∧ w'.tape = w.tape ∧ w'.output = w.output ∧ w.heap.size ≤ w'.heap.size ∧ ∀ k, k < w.heap.size → (k < B1 ∨ B2 ≤ k) → w'.heap[k]? = w.heap[k]?
theorem Out.refl (B1 B2 : Nat) (w : World) : Out B1 B2 w w := ⟨rfl, rfl, rfl, Nat.le_refl _, fun _ _ _ => rfl⟩
theorem Out.trans {B1 B2 : Nat} {w w1 w2 : World} (h : Out B1 B2 w w1) (h' : Out B1 B2 w1 w2) : Out B1 B2 w w2 :=
  ⟨h'.1.trans h.1, h'.2.1.trans h.2.1, h'.2.2.1.trans h.2.2.1, Nat.le_trans h.2.2.2.1 h'.2.2.2.1, fun k hk ho => (h'.2.2.2.2 k (Nat.lt_of_lt_of_le hk h.2.2.2.1) ho).trans (h.2.2.2.2 k hk ho)⟩
theorem Out.grown {B1 B2 g : Nat} {w w' : World} (h : w.grownBy w' (some g)) (h1 : B1 ≤ g) (h2 : g < B2) : Out B1 B2 w w' := ⟨h.os, h.tape, h.output, h.size, fun k hk ho => h.block k hk (fun e => by cases e; omega)⟩
theorem Out.set {B1 B2 g o : Nat} {w w' : World} (h : Out B1 B2 w w') (h1 : B1 ≤ g) (h2 : g < B2) (v : Value) : Out B1 B2 w (w'.setCell ⟨g, o, none⟩ v) := by
  refine ⟨h.1, h.2.1, h.2.2.1, by simpa using h.2.2.2.1, fun k hk ho => ?_⟩
  rw [heap_setCell_other _ _ _ _ (by simp; omega)]
  exact h.2.2.2.2 k hk ho
theorem Out.below {B B1 B2 : Nat} {w w' : World} (h : Out B1 B2 w w') (hB : B ≤ B1) (hs : B ≤ w.heap.size) : Below B w w' := ⟨h.1, h.2.1, h.2.2.1, h.2.2.2.1, fun k hk => h.2.2.2.2 k (by omega) (.inl (by omega))⟩

/-- Of the same kind: numbers, texts and flags may be others. -/
def alike (v v' : Value) : Prop := v' = v ∨ (∃ k x y, v = .int k x ∧ v' = .int k y) ∨ (∃ x y, v = .string x ∧ v' = .string y) ∨ ∃ x y, v = .bool x ∧ v' = .bool y
theorem alike.trans {a b c : Value} (h : alike a b) (h' : alike b c) : alike a c := by
  rcases h with rfl | ⟨k, x, y, rfl, rfl⟩ | ⟨x, y, rfl, rfl⟩ | ⟨x, y, rfl, rfl⟩
  · exact h'
  · rcases h' with rfl | ⟨k', x', y', e, rfl⟩ | ⟨x', y', e, rfl⟩ | ⟨x', y', e, rfl⟩
    · exact .inr (.inl ⟨k, x, y, rfl, rfl⟩)
    · cases e
      exact .inr (.inl ⟨k, x, y', rfl, rfl⟩)
    · cases e
    · cases e
  · rcases h' with rfl | ⟨k', x', y', e, rfl⟩ | ⟨x', y', e, rfl⟩ | ⟨x', y', e, rfl⟩
    · exact .inr (.inr (.inl ⟨x, y, rfl, rfl⟩))
    · cases e
    · exact .inr (.inr (.inl ⟨x, y', rfl, rfl⟩))
    · cases e
  · rcases h' with rfl | ⟨k', x', y', e, rfl⟩ | ⟨x', y', e, rfl⟩ | ⟨x', y', e, rfl⟩
    · exact .inr (.inr (.inr ⟨x, y, rfl, rfl⟩))
    · cases e
    · cases e
    · exact .inr (.inr (.inr ⟨x, y', rfl, rfl⟩))
theorem alike.int {k : IntKind} {x : Int} {v : Value} (h : alike (.int k x) v) : ∃ y, v = .int k y := by
  rcases h with rfl | ⟨k', x', y', e, rfl⟩ | ⟨x', y', e, rfl⟩ | ⟨x', y', e, rfl⟩
  · exact ⟨x, rfl⟩
  · cases e; exact ⟨y', rfl⟩
  · cases e
  · cases e
theorem alike.str {x : ByteArray} {v : Value} (h : alike (.string x) v) : ∃ y, v = .string y := by
  rcases h with rfl | ⟨k', x', y', e, rfl⟩ | ⟨x', y', e, rfl⟩ | ⟨x', y', e, rfl⟩
  · exact ⟨x, rfl⟩
  · cases e
  · exact ⟨y', rfl⟩
  · cases e
theorem alike.slice {a : Option Addr} {n c : Nat} {v : Value} (h : alike (.slice a n c) v) : v = .slice a n c := by
  rcases h with rfl | ⟨k', x', y', e, rfl⟩ | ⟨x', y', e, rfl⟩ | ⟨x', y', e, rfl⟩
  · rfl
  · cases e
  · cases e
  · cases e

/-- Numbers alone have changed. -/
def Shp (w w' : World) : Prop := ∀ (b : Nat) (cur : Array Value) (t : TypeId), w.heap[b]? = some (.cells cur t (0, 0)) → ∃ cur', w'.heap[b]? = some (.cells cur' t (0, 0)) ∧ ∀ (i : Nat) (v : Value), cur[i]? = some v → ∃ v', cur'[i]? = some v' ∧ alike v v'
theorem Shp.refl (w : World) : Shp w w := fun _ cur _ h => ⟨cur, h, fun _ v hv => ⟨v, hv, .inl rfl⟩⟩
theorem Shp.trans {a b c : World} (h : Shp a b) (h' : Shp b c) : Shp a c := fun k cur t e => by
  obtain ⟨c1, e1, r1⟩ := h k cur t e
  obtain ⟨c2, e2, r2⟩ := h' k c1 t e1
  exact ⟨c2, e2, fun i v hv => by
    obtain ⟨v1, h1, a1⟩ := r1 i v hv
    obtain ⟨v2, h2, a2⟩ := r2 i v1 h1
    exact ⟨v2, h2, a1.trans a2⟩⟩
theorem Shp.put {w : World} {g o : Nat} {x y : Value} (h : w.cell? ⟨g, o, none⟩ = some x) (hxy : alike x y) : Shp w (w.setCell ⟨g, o, none⟩ y) := fun b cur t e => by
  by_cases eb : b = g
  · subst eb
    refine ⟨cur.setIfInBounds o y, heap_setCell_same w b o _ _ _ e, fun i v hv => ?_⟩
    by_cases ei : i = o
    · subst ei
      rw [cell_of_row w b i cur _ _ e] at h
      rw [h] at hv
      cases hv
      exact ⟨y, by rw [Array.getElem?_setIfInBounds_self_of_lt (Array.getElem?_eq_some_iff.1 h).1], hxy⟩
    · exact ⟨v, by rw [Array.getElem?_setIfInBounds_ne (fun h => ei h.symm)]; exact hv, .inl rfl⟩
  · exact ⟨cur, by rw [heap_setCell_other _ _ _ _ (by simpa using eb)]; exact e, fun i v hv => ⟨v, hv, .inl rfl⟩⟩
theorem Shp.set {w : World} {g o : Nat} {k : IntKind} {x : Int} (h : w.cell? ⟨g, o, none⟩ = some (.int k x)) (y : Int) : Shp w (w.setCell ⟨g, o, none⟩ (.int k y)) := Shp.put h (.inr (.inl ⟨k, x, y, rfl, rfl⟩))

/-- A row of n words in a block of words. -/
def TyW (w : World) (lo hi : Nat) (a : Option Addr) (n : Nat) : Prop := n ≤ 1048576 ∧ ∃ h cur, a = some ⟨h, 0, none⟩ ∧ lo ≤ h ∧ h < hi ∧ w.heap[h]? = some (.cells cur 83 (0, 0)) ∧ ∀ i, i < n → ∃ y : Int, cur[i]? = some (.int .u64 y)

theorem keep_int {cur cur' : Array Value} (r : ∀ (i : Nat) (v : Value), cur[i]? = some v → ∃ v', cur'[i]? = some v' ∧ alike v v') {i : Nat} {k : IntKind} (h : ∃ x : Int, cur[i]? = some (.int k x)) : ∃ x : Int, cur'[i]? = some (.int k x) := by
  obtain ⟨x, hx⟩ := h
  obtain ⟨v', h1, h2⟩ := r i _ hx
  obtain ⟨y, rfl⟩ := h2.int
  exact ⟨y, h1⟩
theorem TyW.shp {w w' : World} {lo hi n : Nat} {a : Option Addr} (h : TyW w lo hi a n) (hs : Shp w w') : TyW w' lo hi a n := by
  obtain ⟨h0, g, cur, e, h1, h2, h3, h4⟩ := h
  obtain ⟨cur', e', r⟩ := hs g cur _ h3
  exact ⟨h0, g, cur', e, h1, h2, e', fun i hi => keep_int r (h4 i hi)⟩

theorem keep_str {cur cur' : Array Value} (r : ∀ (i : Nat) (v : Value), cur[i]? = some v → ∃ v', cur'[i]? = some v' ∧ alike v v') {i : Nat} (h : ∃ x : ByteArray, cur[i]? = some (.string x)) : ∃ x : ByteArray, cur'[i]? = some (.string x) := by
  obtain ⟨x, hx⟩ := h
  obtain ⟨v', h1, h2⟩ := r i _ hx
  obtain ⟨y, rfl⟩ := h2.str
  exact ⟨y, h1⟩
theorem Shp.of {w w' : World} (hb : Below w.heap.size w w') : Shp w w' := fun b cur t e => ⟨cur, (hb.block b (lt_of_block e)).trans e, fun i v hv => ⟨v, hv, .inl rfl⟩⟩


def OwW (w : World) (base : Nat) (v : Value) (xs : List Nat) : Prop := w.ownsRow base 83 1 v xs.length (u64s xs).toList

theorem OwW.nils (w : World) (base : Nat) : OwW w base (.slice none 0 0) [] := ⟨rfl, .inl ⟨rfl, rfl⟩⟩
theorem OwW.empty (w : World) (base g : Nat) (hg : g = w.heap.size) (h : base ≤ g) : OwW (w.alloc (.cells #[] 83)) base (.slice (some ⟨g, 0, Option.none⟩) 0 0) [] := by
  subst hg
  exact World.ownsRow_made w #[] 0 h (Nat.zero_le _) (by simp)

/-- A word's bits in new memory: a block of words whose first ones they are. -/
def Nw (w : World) (lo : Nat) (a : Option Addr) (xs : List Nat) : Prop :=
  (xs = [] ∧ ∀ x, a = some x → lo ≤ x.block ∧ x.off = 0 ∧ ∃ cur, w.heap[x.block]? = some (.cells cur 83 (0, 0))) ∨ ∃ g cur, a = some ⟨g, 0, none⟩ ∧ lo ≤ g ∧ w.heap[g]? = some (.cells cur 83 (0, 0)) ∧ ∀ i, i < xs.length → cur[i]? = some (.int .u64 ((xs.getD i 0 : Nat) : Int))

theorem OwW.shape {w : World} {base : Nat} {v : Value} {xs : List Nat} (h : OwW w base v xs) : ∃ a c, v = .slice a xs.length c ∧ Nw w base a xs := by
  obtain ⟨h1, ⟨rfl, h2⟩ | ⟨g, cap, cur, rfl, hg, hh, hc1, hc2, hsz, hcur⟩⟩ := h
  · have e := List.eq_nil_of_length_eq_zero h2
    subst e
    exact ⟨none, 0, rfl, .inl ⟨rfl, fun x e => by cases e⟩⟩
  · refine ⟨some ⟨g, 0, none⟩, cap, rfl, .inr ⟨g, cur, rfl, hg, hh, fun i hi => ?_⟩⟩
    have h3 : (cur.toList.take (xs.length * 1))[i]? = (u64s xs).toList[i]? := by rw [hcur]
    rw [List.getElem?_take, if_pos (by omega)] at h3
    simp only [Array.getElem?_toList] at h3
    rw [h3, u64s_get _ _ hi]

theorem Own.nw {w : World} {lo g : Nat} {xs : List Nat} (h : Own w g xs) (hg : lo ≤ g) : Nw w lo (some ⟨g, 0, none⟩) xs := .inr ⟨g, u64s xs, rfl, hg, h, fun i hi => u64s_get _ _ hi⟩

theorem Nw.rd {w : World} {lo : Nat} {a : Option Addr} {xs : List Nat} (h : Nw w lo a xs) (hl : xs.length ≤ 1048576) (hx : ∀ x ∈ xs, x < 18446744073709551616) : Rd w a xs := by
  refine ⟨hl, hx, ?_⟩
  rcases h with ⟨h1, -⟩ | ⟨g, cur, h1, -, h3, h4⟩
  · exact .inl h1
  · refine .inr ⟨g, 0, h1, fun i hi => ?_⟩
    rw [Nat.zero_add, cell_of_row w g i cur _ _ h3]
    exact h4 i hi

theorem Nw.mono {w : World} {lo lo' : Nat} {a : Option Addr} {xs : List Nat} (h : Nw w lo a xs) (hl : lo' ≤ lo) : Nw w lo' a xs := by
  rcases h with ⟨h1, h2⟩ | ⟨g, cur, h1, h2, h3, h4⟩
  · exact .inl ⟨h1, fun x e => ⟨Nat.le_trans hl (h2 x e).1, (h2 x e).2⟩⟩
  · exact .inr ⟨g, cur, h1, Nat.le_trans hl h2, h3, h4⟩

theorem Nw.kept {w w' : World} {lo : Nat} {a : Option Addr} {xs : List Nat} (h : Nw w lo a xs) (hk : ∀ (k : Nat) (cur : Array Value), w.heap[k]? = some (Obj.cells cur 83 (0, 0)) → w'.heap[k]? = w.heap[k]?) : Nw w' lo a xs := by
  rcases h with ⟨h1, h2⟩ | ⟨g, cur, h1, h2, h3, h4⟩
  · refine .inl ⟨h1, fun x e => ?_⟩
    obtain ⟨a, b, cur, c⟩ := h2 x e
    exact ⟨a, b, cur, by rw [hk _ _ c]; exact c⟩
  · exact .inr ⟨g, cur, h1, h2, by rw [hk _ _ h3]; exact h3, h4⟩

theorem Nw.later {w w' : World} {lo : Nat} {a : Option Addr} {xs : List Nat} (h : Nw w lo a xs) (hb : Below w.heap.size w w') : Nw w' lo a xs := Nw.kept h fun k cur hc => hb.block k (lt_of_block hc)

/-- 'append(out, list...)' of words at a step of a region that draws its order. -/
theorem step_appWs (w : World) {ops : Array Oper} {o : Oper} {a : Act} {K : Act → World → Prop} {Q : Exit → Act → World → Prop} {E : Prop} (hgd : o.guard = none) (s x : Operand)
    (ho : o.op = .call { callee := .builtin .append, args := #[s, x], argTypes := #[52, 52] })
    (base : Nat) (v : Value) (bs ys : List Nat) (hs : a.eval s = v) (hown : OwW w base v bs) (b ob c : Nat) (hx : a.eval x = .slice (some ⟨b, ob, none⟩) ys.length c)
    (hc : ∀ i, i < ys.length → w.cell? ⟨b, ob + i, none⟩ = some (.int .u64 ((ys.getD i 0 : Nat) : Int))) (hl : bs.length + ys.length ≤ 4194304) (hbase : base ≤ w.heap.size)
    (h : ∀ v' w', OwW w' base v' (bs ++ ys) → w.grownBy w' v.ownBlock → K (a.put o.dst v') w') :
    if Region.wanted o (yielded ops a.tmps) = true then Oper.wp Tryz.prog o a w K Q else E := by
  have hw : Region.wanted o (yielded ops a.tmps) = true := by simp [Region.wanted, hgd]
  rw [if_pos hw]
  obtain ⟨i0, hi, hz0, hz1, hz2⟩ := info_parts Tryz.infoU64
  refine wp_append_own w s x 52 ho base 83 i0 (.int .u64 0) 1 8 Tryz.underlying52 hi hz0 hz1 hz2 rfl (by decide) v bs.length (u64s bs).toList hs hown ⟨b, ob, none⟩ ys.length c (u64s ys).toList hx (by simp [u64s]) ?_ ?_ ?_ ?_ hbase ?_
  · intro j u hj
    have hj' : j < ys.length := by
      have := (List.getElem?_eq_some_iff.1 hj).1
      simpa [u64s] using this
    rw [Addr.add_lit, hc j hj']
    simp [u64s, hj'] at hj
    rw [← hj]
    simp [List.getD, hj']
  · intro u hu
    simp [u64s] at hu
    obtain ⟨_, _, rfl⟩ := hu
    rfl
  · unfold maxLen; omega
  · omega
  · intro v' w' h1 h2 _
    refine h v' w' ?_ h2
    unfold OwW
    simpa [u64s] using h1

theorem nw_set {w : World} {lo β : Nat} {a : Option Addr} {xs : List Nat} {cs : Array Value} {t : TypeId} (h : Nw w lo a xs) (hB : Bz w β cs t) (ht : t ≠ 83) (i : Nat) (v : Value) : Nw (w.setCell ⟨β, i, none⟩ v) lo a xs :=
  Nw.kept h fun k cur hc => heap_setCell_other _ _ _ _ (fun e => by
    simp only [] at e
    subst e
    unfold Bz at hB
    rw [hB] at hc
    cases hc
    exact ht rfl)

theorem nw_lt {w : World} {lo : Nat} {a : Option Addr} {xs : List Nat} (h : Nw w lo a xs) {p : Addr} (hp : a = some p) : lo ≤ p.block ∧ p.block < w.heap.size := by
  rcases h with ⟨h1, h2⟩ | ⟨g, cur, h1, h2, h3, h4⟩
  · obtain ⟨k1, -, cur, k2⟩ := h2 p hp
    exact ⟨k1, lt_of_block k2⟩
  · rw [h1] at hp
    cases hp
    exact ⟨h2, lt_of_block h3⟩

end Go.Proofs.YtckidgpopbpagaaGreatDoor

/- append(list...) of words, also of none. -/
namespace Go.Proofs.YtckidgpopbpagaaGreatDoor
set_option linter.unusedVariables false
set_option linter.unusedSimpArgs false
open Go.RowKit


theorem rd_cellsW {w : World} {ad : Addr} {ys : List Nat} (hr : Rd w (some ad) ys) : ∀ j u, (u64s ys).toList[j]? = some u → w.cell? (ad.add j) = some u := by
  intro j u hj
  have hj' : j < ys.length := by
    have := (List.getElem?_eq_some_iff.1 hj).1
    simpa [u64s] using this
  obtain ⟨-, -, h | ⟨b, o, e, hc⟩⟩ := hr
  · rw [h] at hj'; simp at hj'
  · cases e
    rw [Addr.add_lit, hc j hj']
    simp [u64s, hj'] at hj
    rw [← hj]
    simp [List.getD, hj']
theorem rd_noneW {w : World} {ys : List Nat} (hr : Rd w none ys) : ys = [] := by
  obtain ⟨-, -, h | ⟨b, o, e, hc⟩⟩ := hr
  · exact h
  · cases e

theorem wp_appWr (w : World) {o : Oper} {a : Act} {K : Act → World → Prop} {Q : Exit → Act → World → Prop} (s x : Operand)
    (ho : o.op = .call { callee := .builtin .append, args := #[s, x], argTypes := #[52, 52] })
    (base : Nat) (v : Value) (bs ys : List Nat) (hs : a.eval s = v) (hown : OwW w base v bs) (xa : Option Addr) (c : Nat) (hx : a.eval x = .slice xa ys.length c) (hc0 : xa = none → c = 0)
    (hr : Rd w xa ys) (hl : bs.length + ys.length ≤ 4194304) (hbase : base ≤ w.heap.size)
    (h : ∀ v' w', OwW w' base v' (bs ++ ys) → w.grownBy w' v.ownBlock → K (a.put o.dst v') w') : Oper.wp Tryz.prog o a w K Q := by
  obtain ⟨i0, hi, hz0, hz1, hz2⟩ := info_parts Tryz.infoU64
  cases xa with
  | none =>
    have e := rd_noneW hr
    subst e
    have ec := hc0 rfl
    subst ec
    have hr9 := run_append_owned_none (P := Tryz.prog) (w := w) base 52 o.type 83 i0 1 Tryz.underlying52 hi v bs.length (u64s bs).toList hown
    unfold Oper.wp execOp
    simp only [ho, resolve, invoke, builtin, Sem.run_bind, Sem.run_pure, Result.andThen_ok, List.map_toArray, List.map_cons, List.map_nil, hs, hx, List.length_nil, hr9]
    exact h v w (by rw [List.append_nil]; exact hown) (World.grownBy.refl w _)
  | some ad =>
    refine wp_append_own w s x 52 ho base 83 i0 (.int .u64 0) 1 8 Tryz.underlying52 hi hz0 hz1 hz2 rfl (by decide) v bs.length (u64s bs).toList hs hown ad ys.length c (u64s ys).toList hx (by simp [u64s]) (rd_cellsW hr) ?_ ?_ ?_ hbase ?_
    · intro u hu
      simp [u64s] at hu
      obtain ⟨_, _, rfl⟩ := hu
      rfl
    · unfold maxLen; omega
    · omega
    · intro v' w' h1 h2 _
      refine h v' w' ?_ h2
      unfold OwW
      simpa [u64s] using h1
theorem step_appWr (w : World) {ops : Array Oper} {o : Oper} {a : Act} {K : Act → World → Prop} {Q : Exit → Act → World → Prop} {E : Prop} (hgd : o.guard = none) (s x : Operand)
    (ho : o.op = .call { callee := .builtin .append, args := #[s, x], argTypes := #[52, 52] })
    (base : Nat) (v : Value) (bs ys : List Nat) (hs : a.eval s = v) (hown : OwW w base v bs) (xa : Option Addr) (c : Nat) (hx : a.eval x = .slice xa ys.length c) (hc0 : xa = none → c = 0)
    (hr : Rd w xa ys) (hl : bs.length + ys.length ≤ 4194304) (hbase : base ≤ w.heap.size)
    (h : ∀ v' w', OwW w' base v' (bs ++ ys) → w.grownBy w' v.ownBlock → K (a.put o.dst v') w') :
    if Region.wanted o (yielded ops a.tmps) = true then Oper.wp Tryz.prog o a w K Q else E := by
  have hw : Region.wanted o (yielded ops a.tmps) = true := by simp [Region.wanted, hgd]
  rw [if_pos hw]
  exact wp_appWr w s x ho base v bs ys hs hown xa c hx hc0 hr hl hbase h
theorem wpList_appWr (w : World) {ops : Array Oper} {rest : List Oper} {o : Oper} {a : Act} {Q : Exit → Act → World → Prop} (hgd : o.guard = none) (s x : Operand)
    (ho : o.op = .call { callee := .builtin .append, args := #[s, x], argTypes := #[52, 52] })
    (base : Nat) (v : Value) (bs ys : List Nat) (hs : a.eval s = v) (hown : OwW w base v bs) (xa : Option Addr) (c : Nat) (hx : a.eval x = .slice xa ys.length c) (hc0 : xa = none → c = 0)
    (hr : Rd w xa ys) (hl : bs.length + ys.length ≤ 4194304) (hbase : base ≤ w.heap.size)
    (h : ∀ v' w', OwW w' base v' (bs ++ ys) → w.grownBy w' v.ownBlock → wpList Tryz.prog ops Q rest (a.put o.dst v') w') : wpList Tryz.prog ops Q (o :: rest) a w :=
  wpList_plain hgd fun _ hK => wp_appWr w s x ho base v bs ys hs hown xa c hx hc0 hr hl hbase fun v' w' h2 h3 => hK _ _ (h v' w' h2 h3)

end Go.Proofs.YtckidgpopbpagaaGreatDoor

/- What putBits does: the words of a row are put into another one from a place on. -/
namespace Go.Proofs.YtckidgpopbpagaaGreatDoor
set_option linter.unusedVariables false
set_option linter.unusedSimpArgs false
open Go.RowKit

def putTo (zs ys : List Nat) (f s : Nat) : Nat → List Nat
  | 0 => zs
  | k + 1 =>
    let z1 := (putTo zs ys f s k).set (f + k) ((putTo zs ys f s k).getD (f + k) 0 ||| ys.getD k 0 * 2 ^ s % 18446744073709551616)
    z1.set (f + k + 1) (z1.getD (f + k + 1) 0 ||| ys.getD k 0 / 2 ^ (64 - s))

theorem putTo_len (zs ys : List Nat) (f s k : Nat) : (putTo zs ys f s k).length = zs.length := by
  induction k with
  | zero => rfl
  | succ k ih => simp [putTo, ih]

theorem set_lt {xs : List Nat} (h : ∀ x ∈ xs, x < 18446744073709551616) (i v : Nat) (hv : v < 18446744073709551616) : ∀ x ∈ xs.set i v, x < 18446744073709551616 := by
  intro x hx
  rcases List.mem_or_eq_of_mem_set hx with h' | h'
  · exact h x h'
  · rw [h']; exact hv

theorem putTo_lt (zs ys : List Nat) (f s k : Nat) (hz : ∀ x ∈ zs, x < 18446744073709551616) (hy : ∀ x ∈ ys, x < 18446744073709551616) : ∀ x ∈ putTo zs ys f s k, x < 18446744073709551616 := by
  induction k with
  | zero => exact hz
  | succ k ih =>
    have h1 := set_lt ih (f + k) _ (Nat.or_lt_two_pow (n := 64) (getD_lt ih (f + k)) (Nat.mod_lt (ys.getD k 0 * 2 ^ s) (by decide)))
    exact set_lt h1 _ _ (Nat.or_lt_two_pow (n := 64) (getD_lt h1 _) (Nat.lt_of_le_of_lt (Nat.div_le_self _ _) (getD_lt hy k)))

theorem tb_put (zs ys : List Nat) (f s k : Nat) (hs : s < 64) (hy : ∀ x ∈ ys, x < 18446744073709551616) (hk : ∀ i, i < k → f + i < zs.length ∧ (f + i + 1 < zs.length ∨ ys.getD i 0 / 2 ^ (64 - s) = 0)) (j : Nat) :
    tb (putTo zs ys f s k) j = (tb zs j || (decide (64 * f + s ≤ j) && decide (j < 64 * f + s + 64 * k) && tb ys (j - (64 * f + s)))) := by
  induction k with
  | zero =>
    by_cases h : 64 * f + s ≤ j
    · simp [putTo, show ¬ j < 64 * f + s by omega]
    · simp [putTo, h]
  | succ k ih =>
    have ih' := ih fun i hi => hk i (by omega)
    obtain ⟨h1, h2⟩ := hk k (by omega)
    have hlen := putTo_len zs ys f s k
    have hyk := getD_lt hy k
    have key : tb (putTo zs ys f s (k + 1)) j = (tb (putTo zs ys f s k) j || (decide (j / 64 = f + k) && (ys.getD k 0 * 2 ^ s % 18446744073709551616).testBit (j % 64)) || (decide (j / 64 = f + k + 1) && (ys.getD k 0 / 2 ^ (64 - s)).testBit (j % 64))) := by
      simp only [putTo]
      have e1 : tb ((putTo zs ys f s k).set (f + k) ((putTo zs ys f s k).getD (f + k) 0 ||| ys.getD k 0 * 2 ^ s % 18446744073709551616)) j = (tb (putTo zs ys f s k) j || (decide (j / 64 = f + k) && (ys.getD k 0 * 2 ^ s % 18446744073709551616).testBit (j % 64))) := by
        rw [tb_set _ _ _ _ (by omega)]
        by_cases h : j / 64 = f + k
        · rw [if_pos h, Nat.testBit_or]; unfold tb; rw [h]; simp
        · rw [if_neg h]; simp [h]
      rcases h2 with h2 | h2
      · rw [tb_set _ _ _ _ (by simp; omega)]
        by_cases h : j / 64 = f + k + 1
        · rw [if_pos h, Nat.testBit_or, ← e1]
          have : ((List.set (putTo zs ys f s k) (f + k) ((putTo zs ys f s k).getD (f + k) 0 ||| ys.getD k 0 * 2 ^ s % 18446744073709551616)).getD (f + k + 1) 0).testBit (j % 64) = tb ((putTo zs ys f s k).set (f + k) ((putTo zs ys f s k).getD (f + k) 0 ||| ys.getD k 0 * 2 ^ s % 18446744073709551616)) j := by unfold tb; rw [h]
          rw [this]; simp [h]
        · rw [if_neg h, e1]; simp [h]
      · rw [h2, Nat.or_zero]
        have e2 : ∀ (l : List Nat) (i : Nat), l.set i (l.getD i 0) = l := by
          intro l i
          by_cases hi : i < l.length
          · have : l.getD i 0 = l[i] := by simp [List.getD, hi]
            rw [this, List.set_getElem_self]
          · exact List.set_eq_of_length_le (by omega)
        rw [e2, e1]; simp
    rw [key, ih']
    have hsp : (18446744073709551616 : Nat) = 2 ^ 64 := by decide
    rw [hsp, Nat.testBit_mod_two_pow, Nat.testBit_mul_two_pow, Nat.testBit_div_two_pow]
    have hlt : j % 64 < 64 := by omega
    by_cases ha : 64 * f + s ≤ j ∧ j < 64 * f + s + 64 * k
    · -- an earlier word's place: this one's bits do not reach there
      have n1 : ¬ (j / 64 = f + k ∧ s ≤ j % 64) := by omega
      have n2 : ¬ (j / 64 = f + k + 1) := by omega
      have c1 : decide (j < 64 * f + s + 64 * (k + 1)) = true := by simp; omega
      have c2 : decide (64 * f + s ≤ j) = true := by simp; omega
      have c3 : decide (j < 64 * f + s + 64 * k) = true := by simp; omega
      rw [c1, c2, c3]
      by_cases h5 : j / 64 = f + k
      · have : decide (s ≤ j % 64) = false := by simp; omega
        simp [h5, this]
      · simp [h5, n2]
    · by_cases hb : 64 * f + s + 64 * k ≤ j ∧ j < 64 * f + s + 64 * (k + 1)
      · have c1 : decide (j < 64 * f + s + 64 * (k + 1)) = true := by simp; omega
        have c2 : decide (64 * f + s ≤ j) = true := by simp; omega
        have c3 : decide (j < 64 * f + s + 64 * k) = false := by simp; omega
        rw [c1, c2, c3]
        have e3 : (j - (64 * f + s)) / 64 = k := by omega
        by_cases h5 : j / 64 = f + k
        · have e4 : (j - (64 * f + s)) % 64 = j % 64 - s := by omega
          unfold tb
          rw [e3, e4]
          simp [h5, hlt, show s ≤ j % 64 by omega]
        · have h6 : j / 64 = f + k + 1 := by omega
          have e4 : (j - (64 * f + s)) % 64 = j % 64 + (64 - s) := by omega
          unfold tb
          rw [e3, e4]
          simp [h6]
      · have c1 : (decide (64 * f + s ≤ j) && decide (j < 64 * f + s + 64 * (k + 1))) = false := by simp; omega
        have c2 : (decide (64 * f + s ≤ j) && decide (j < 64 * f + s + 64 * k)) = false := by simp; omega
        rw [c1, c2]
        simp only [Bool.false_and, Bool.or_false]
        by_cases h5 : j / 64 = f + k
        · have : decide (s ≤ j % 64) = false := by simp; omega
          simp [h5, this]
        · by_cases h6 : j / 64 = f + k + 1
          · have : (ys.getD k 0).testBit (j % 64 + (64 - s)) = false := by
              refine Nat.testBit_lt_two_pow (Nat.lt_of_lt_of_le hyk ?_)
              exact (show 2 ^ 64 ≤ 2 ^ (j % 64 + (64 - s)) from Nat.pow_le_pow_right (by omega) (by omega))
            rw [this]
            simp [h5]
          · simp [h5, h6]

set_option maxHeartbeats 1000000 in
set_option maxRecDepth 100000 in
theorem putBits_any (Wi Wb : Int) (g ci cb P : Nat) (ab : Option Addr) (zs ys : List Nat) (w : World) (ho : Own w g zs) (hr : Rd w ab ys) (hz : ∀ x ∈ zs, x < 18446744073709551616) (hP : P ≤ 4096) (hzl : zs.length ≤ 64) (hyl : ys.length ≤ 64)
    (hk : ∀ i, i < ys.length → P / 64 + i < zs.length ∧ (P / 64 + i + 1 < zs.length ∨ ys.getD i 0 / 2 ^ (64 - P % 64) = 0)) (hab : ∀ x, ab = some x → x.block ≠ g) :
    Calls Tryz.prog 86 #[.agg #[.int .i64 Wi, .slice (some ⟨g, 0, none⟩) zs.length ci], .agg #[.int .i64 Wb, .slice ab ys.length cb], .int .i64 P] w fun e w' => e = .returned (.tuple #[]) ∧ Own w' g (putTo zs ys (P / 64) (P % 64) ys.length) ∧ w.grownBy w' (some g) := by
  have hgw := ho.lt
  have hy := hr.2.1
  have hB2 : Below w.heap.size w ((w.alloc (Obj.cells #[Value.int IntKind.i64 Wi, Value.slice (some { block := g, off := 0 }) zs.length ci] 60)).alloc (Obj.cells #[Value.int IntKind.i64 Wb, Value.slice ab ys.length cb] 60)) := Ba (Ba (Below.refl _ _) _) _
  have ho2 := ho.later hB2 hgw
  have hr2 := hr.later hB2
  have k0 : ((w.alloc (Obj.cells #[Value.int IntKind.i64 Wi, Value.slice (some { block := g, off := 0 }) zs.length ci] 60)).alloc (Obj.cells #[Value.int IntKind.i64 Wb, Value.slice ab ys.length cb] 60)).cell? ⟨w.heap.size, 1, none⟩ = some (Value.slice (some { block := g, off := 0 }) zs.length ci) := by
    rw [acell _ _ _ (by simp)]; simp
  have hsz : ((w.alloc (Obj.cells #[Value.int IntKind.i64 Wi, Value.slice (some { block := g, off := 0 }) zs.length ci] 60)).alloc (Obj.cells #[Value.int IntKind.i64 Wb, Value.slice ab ys.length cb] 60)).heap.size = w.heap.size + 2 := by simp
  go_enter Tryz.func86, Tryz.ntmps86
  go_wp2
  generalize ((w.alloc (Obj.cells #[Value.int IntKind.i64 Wi, Value.slice (some { block := g, off := 0 }) zs.length ci] 60)).alloc (Obj.cells #[Value.int IntKind.i64 Wb, Value.slice ab ys.length cb] 60)) = w2 at *
  clear ho hr
  go_loopw [19] (fun i wr => ∃ k : Nat, k ≤ ys.length ∧ i = .int .i64 k ∧ Own wr g (putTo zs ys (P / 64) (P % 64) k) ∧ w2.grownBy wr (some g)) (fun i _ => ys.length - (intOf i).toNat)
  case atStart => exact ⟨0, Nat.zero_le _, rfl, ho2, World.grownBy.refl _ _⟩
  case round =>
    obtain ⟨k, hkl, rfl, hown, hgr⟩ := hrel
    by_cases hlt : k < ys.length
    · obtain ⟨-, -, hn | ⟨b, o, rfl, hcell⟩⟩ := hr2
      · subst hn; simp at hlt
      have hbg : b ≠ g := hab _ rfl
      have hbl : b < w2.heap.size := block_lt_of_cell (hcell k hlt)
      have b1 := (gcell hgr 1 (b := w.heap.size) (by omega) (by omega)).trans k0
      have x1 := (gcell hgr _ hbl hbg).trans (hcell k hlt)
      obtain ⟨hf1, hf2⟩ := hk k hlt
      have hlen := putTo_len zs ys (P / 64) (P % 64) k
      have hcg := hown.cell (i := P / 64 + k) (by omega)
      have hfg := hown.free (P / 64 + k)
      have hfg2 := hown.free (P / 64 + k + 1)
      have hplt := putTo_lt zs ys (P / 64) (P % 64) k hz hy
      have hY := getD_lt hy k
      have hZ1 := getD_lt hplt (P / 64 + k)
      have i1 : (P : Int) / 64 + (k : Int) < (zs.length : Int) := by omega
      have i2 : (k : Int) < (ys.length : Int) := by omega
      have hgs : ¬ w.heap.size = g := by omega
      have hstep : putTo zs ys (P / 64) (P % 64) (k + 1) = ((putTo zs ys (P / 64) (P % 64) k).set (P / 64 + k) ((putTo zs ys (P / 64) (P % 64) k).getD (P / 64 + k) 0 ||| ys.getD k 0 * 2 ^ (P % 64) % 18446744073709551616)).set (P / 64 + k + 1) (((putTo zs ys (P / 64) (P % 64) k).set (P / 64 + k) ((putTo zs ys (P / 64) (P % 64) k).getD (P / 64 + k) 0 ||| ys.getD k 0 * 2 ^ (P % 64) % 18446744073709551616)).getD (P / 64 + k + 1) 0 ||| ys.getD k 0 / 2 ^ (64 - P % 64)) := rfl
      have hgd : ((putTo zs ys (P / 64) (P % 64) k).set (P / 64 + k) ((putTo zs ys (P / 64) (P % 64) k).getD (P / 64 + k) 0 ||| ys.getD k 0 * 2 ^ (P % 64) % 18446744073709551616)).getD (P / 64 + k + 1) 0 = (putTo zs ys (P / 64) (P % 64) k).getD (P / 64 + k + 1) 0 := by
        simp [List.getD, List.getElem?_set]
      rw [hgd] at hstep
      by_cases hrest : ys.getD k 0 / 2 ^ (64 - P % 64) = 0
      · have hstep2 : putTo zs ys (P / 64) (P % 64) (k + 1) = (putTo zs ys (P / 64) (P % 64) k).set (P / 64 + k) ((putTo zs ys (P / 64) (P % 64) k).getD (P / 64 + k) 0 ||| ys.getD k 0 * 2 ^ (P % 64) % 18446744073709551616) := by
          rw [hstep, hrest, Nat.or_zero]
          by_cases hin : P / 64 + k + 1 < (putTo zs ys (P / 64) (P % 64) k).length
          · have e : (putTo zs ys (P / 64) (P % 64) k).getD (P / 64 + k + 1) 0 = ((putTo zs ys (P / 64) (P % 64) k).set (P / 64 + k) ((putTo zs ys (P / 64) (P % 64) k).getD (P / 64 + k) 0 ||| ys.getD k 0 * 2 ^ (P % 64) % 18446744073709551616))[P / 64 + k + 1]'(by simpa using hin) := by
              simp [List.getD, hin]
            rw [e, List.set_getElem_self]
          · exact List.set_eq_of_length_le (by simp; omega)
        have hne : ((ys.getD k 0 : Nat) : Int) / 2 ^ (64 - P % 64) = 0 := by rw [castDiv, hrest]; rfl
        have HO : Hid (Own (wr.setCell ⟨g, P / 64 + k, none⟩ (.int .u64 (bits BinOp.or IntKind.u64 (((putTo zs ys (P / 64) (P % 64) k).getD (P / 64 + k) 0 : Nat) : Int) (IntKind.u64.wrap (((ys.getD k 0 : Nat) : Int) * 2 ^ (P % 64)))))) g (putTo zs ys (P / 64) (P % 64) (k + 1))) := by
          show Own _ _ _
          rw [hstep2, orShift _ _ _ hZ1]
          exact hown.put _ _
        clear hstep hstep2 hgd hown hcell hk hplt hrest hlen
        generalize (putTo zs ys (P / 64) (P % 64) k).getD (P / 64 + k) 0 = z at *
        generalize ys.getD k 0 = y at *
        have hne2 : ((y : Int) / 2 ^ (64 - P % 64) != 0) = false := by simp [hne]
        clear hne
        go_wp2
        go_region
        go_wp2
        go_roundw
        case rel => exact ⟨k + 1, by omega, by go_num, HO.out, grown_drew (grown_set hgr _ _)⟩
        case measure => simp [intOf]; omega
      · have hin : P / 64 + k + 1 < zs.length := by
          rcases hf2 with h | h
          · exact h
          · exact absurd h hrest
        have hcg2 := hown.cell (i := P / 64 + k + 1) (by omega)
        have i3 : (P : Int) / 64 + (k : Int) + 1 < (zs.length : Int) := by omega
        have hZ2 := getD_lt hplt (P / 64 + k + 1)
        have hne2 : (((ys.getD k 0 : Nat) : Int) / 2 ^ (64 - P % 64) != 0) = true := by rw [castDiv]; simp only [bne_iff_ne, ne_eq]; omega
        have HO : Hid (Own ((wr.setCell ⟨g, P / 64 + k, none⟩ (.int .u64 (bits BinOp.or IntKind.u64 (((putTo zs ys (P / 64) (P % 64) k).getD (P / 64 + k) 0 : Nat) : Int) (IntKind.u64.wrap (((ys.getD k 0 : Nat) : Int) * 2 ^ (P % 64)))))).setCell ⟨g, P / 64 + k + 1, none⟩ (.int .u64 (bits BinOp.or IntKind.u64 (((putTo zs ys (P / 64) (P % 64) k).getD (P / 64 + k + 1) 0 : Nat) : Int) (((ys.getD k 0 : Nat) : Int) / 2 ^ (64 - P % 64))))) g (putTo zs ys (P / 64) (P % 64) (k + 1))) := by
          show Own _ _ _
          rw [hstep, orShift _ _ _ hZ1, castDiv, bits_or_u64_nat _ _ hZ2 (Nat.lt_of_le_of_lt (Nat.div_le_self _ _) hY)]
          exact (hown.put _ _).put _ _
        clear hstep hgd hown hcell hk hplt hrest hlen
        generalize (putTo zs ys (P / 64) (P % 64) k).getD (P / 64 + k) 0 = z at *
        generalize (putTo zs ys (P / 64) (P % 64) k).getD (P / 64 + k + 1) 0 = z2 at *
        generalize ys.getD k 0 = y at *
        go_wp2
        go_region
        go_wp2
        go_roundw
        case rel => exact ⟨k + 1, by omega, by go_num, HO.out, grown_set (grown_drew (grown_set hgr _ _)) _ _⟩
        case measure => simp [intOf]; omega
    · have e : k = ys.length := by omega
      subst e
      go_wp2
      go_end0
      exact ⟨rfl, hown, ⟨hgr.os.trans hB2.os, hgr.tape.trans hB2.tape, hgr.output.trans hB2.output, Nat.le_trans hB2.size hgr.size, fun j hj hne => (hgr.block j (by omega) hne).trans (hB2.block j hj)⟩⟩

end Go.Proofs.YtckidgpopbpagaaGreatDoor

/- putBits where the words may have room behind them. -/
namespace Go.Proofs.YtckidgpopbpagaaGreatDoor
set_option linter.unusedVariables false
set_option linter.unusedSimpArgs false
open Go.RowKit

/-- The words at the head of a block. -/
def Owp (N : Nat) (w : World) (g : Nat) (xs : List Nat) : Prop := ∃ cur : Array Value, w.heap[g]? = some (.cells cur 83 (0, 0)) ∧ cur.size = N ∧ xs.length ≤ N ∧ ∀ i, i < xs.length → cur[i]? = some (.int .u64 ((xs.getD i 0 : Nat) : Int))
theorem Owp.cell {w : World} {g : Nat} {N : Nat} {xs : List Nat} (h : Owp N w g xs) {i : Nat} (hi : i < xs.length) : w.cell? ⟨g, i, none⟩ = some (.int .u64 ((xs.getD i 0 : Nat) : Int)) := by
  obtain ⟨cur, h1, -, -, h3⟩ := h
  rw [cell_of_row w g i cur _ _ h1]
  exact h3 i hi
theorem Owp.free {w : World} {g : Nat} {N : Nat} {xs : List Nat} (h : Owp N w g xs) (i : Nat) : w.frozen? ⟨g, i, none⟩ = false := by
  obtain ⟨cur, h1, -⟩ := h
  exact frozen_of_row w g i _ _ h1
theorem Owp.lt {w : World} {g : Nat} {N : Nat} {xs : List Nat} (h : Owp N w g xs) : g < w.heap.size := by
  obtain ⟨cur, h1, -⟩ := h
  exact lt_of_block h1
theorem Owp.put {w : World} {g : Nat} {N : Nat} {xs : List Nat} (h : Owp N w g xs) (i x : Nat) : Owp N (w.setCell ⟨g, i, none⟩ (.int .u64 (x : Int))) g (xs.set i x) := by
  obtain ⟨cur, h1, h0, h2, h3⟩ := h
  refine ⟨cur.setIfInBounds i (.int .u64 (x : Int)), heap_setCell_same w g i _ _ _ h1, by simpa using h0, by simpa using h2, fun k hk => ?_⟩
  rw [List.length_set] at hk
  rw [Array.getElem?_setIfInBounds]
  by_cases e : i = k
  · subst e
    rw [if_pos rfl, if_pos (by omega)]
    simp [List.getD, hk]
  · rw [if_neg e, h3 k hk]
    simp only [List.getD, List.getElem?_set_ne e]
theorem Owp.later {w w' : World} {g B : Nat} {N : Nat} {xs : List Nat} (h : Owp N w g xs) (hb : Below B w w') (hg : g < B) : Owp N w' g xs := by
  obtain ⟨cur, h1, h2⟩ := h
  exact ⟨cur, by rw [hb.block g hg]; exact h1, h2⟩
theorem Owp.ofW {w : World} {B g n c : Nat} {xs : List Nat} (h : OwW w B (.slice (some ⟨g, 0, none⟩) n c) xs) : Owp c w g xs ∧ n = xs.length ∧ B ≤ g := by
  rcases h.2 with ⟨e, -⟩ | ⟨g', cap, cur, e, hg, hh, hc1, hc2, hsz, hcur⟩
  · cases e
  · cases e
    refine ⟨⟨cur, hh, by omega, by omega, fun i hi => ?_⟩, rfl, hg⟩
    have h9 : (u64s xs).toList[i]? = some (.int .u64 ((xs.getD i 0 : Nat) : Int)) := by
      have := u64s_get xs i hi
      rw [Array.getElem?_toList]
      exact this
    rw [← hcur, List.getElem?_take, if_pos (by omega), Array.getElem?_toList] at h9
    exact h9
/-- .. and back: the block is written to, not moved. -/
theorem OwW.put {w w' : World} {B g n c : Nat} {xs ys : List Nat} (h : OwW w B (.slice (some ⟨g, 0, none⟩) n c) xs) (ho : Owp c w' g ys) (hl : ys.length = xs.length) : OwW w' B (.slice (some ⟨g, 0, none⟩) n c) ys := by
  rcases h.2 with ⟨e, -⟩ | ⟨g', cap, cur, e, hg, hh, hc1, hc2, hsz, hcur⟩
  · cases e
  · cases e
    obtain ⟨cur', h1, h0, h2, h3⟩ := ho
    refine ⟨by simp [u64s], .inr ⟨g, c, cur', by rw [hl], hg, h1, by rw [hl]; exact hc1, hc2, by omega, ?_⟩⟩
    apply List.ext_getElem?
    intro i
    rw [List.getElem?_take]
    by_cases hi : i < ys.length
    · rw [if_pos (by omega), Array.getElem?_toList, h3 i hi, Array.getElem?_toList, u64s_get ys i hi]
    · rw [if_neg (by omega), List.getElem?_eq_none (by simp [u64s]; omega)]

set_option maxHeartbeats 1000000 in
set_option maxRecDepth 100000 in
theorem putBitsP_any (N : Nat) (Wi Wb : Int) (g ci cb P : Nat) (ab : Option Addr) (zs ys : List Nat) (w : World) (ho : Owp N w g zs) (hr : Rd w ab ys) (hz : ∀ x ∈ zs, x < 18446744073709551616) (hP : P ≤ 4096) (hzl : zs.length ≤ 64) (hyl : ys.length ≤ 64)
    (hk : ∀ i, i < ys.length → P / 64 + i < zs.length ∧ (P / 64 + i + 1 < zs.length ∨ ys.getD i 0 / 2 ^ (64 - P % 64) = 0)) (hab : ∀ x, ab = some x → x.block ≠ g) :
    Calls Tryz.prog 86 #[.agg #[.int .i64 Wi, .slice (some ⟨g, 0, none⟩) zs.length ci], .agg #[.int .i64 Wb, .slice ab ys.length cb], .int .i64 P] w fun e w' => e = .returned (.tuple #[]) ∧ Owp N w' g (putTo zs ys (P / 64) (P % 64) ys.length) ∧ w.grownBy w' (some g) := by
  have hgw := ho.lt
  have hy := hr.2.1
  have hB2 : Below w.heap.size w ((w.alloc (Obj.cells #[Value.int IntKind.i64 Wi, Value.slice (some { block := g, off := 0 }) zs.length ci] 60)).alloc (Obj.cells #[Value.int IntKind.i64 Wb, Value.slice ab ys.length cb] 60)) := Ba (Ba (Below.refl _ _) _) _
  have ho2 := ho.later hB2 hgw
  have hr2 := hr.later hB2
  have k0 : ((w.alloc (Obj.cells #[Value.int IntKind.i64 Wi, Value.slice (some { block := g, off := 0 }) zs.length ci] 60)).alloc (Obj.cells #[Value.int IntKind.i64 Wb, Value.slice ab ys.length cb] 60)).cell? ⟨w.heap.size, 1, none⟩ = some (Value.slice (some { block := g, off := 0 }) zs.length ci) := by
    rw [acell _ _ _ (by simp)]; simp
  have hsz : ((w.alloc (Obj.cells #[Value.int IntKind.i64 Wi, Value.slice (some { block := g, off := 0 }) zs.length ci] 60)).alloc (Obj.cells #[Value.int IntKind.i64 Wb, Value.slice ab ys.length cb] 60)).heap.size = w.heap.size + 2 := by simp
  go_enter Tryz.func86, Tryz.ntmps86
  go_wp2
  generalize ((w.alloc (Obj.cells #[Value.int IntKind.i64 Wi, Value.slice (some { block := g, off := 0 }) zs.length ci] 60)).alloc (Obj.cells #[Value.int IntKind.i64 Wb, Value.slice ab ys.length cb] 60)) = w2 at *
  clear ho hr
  go_loopw [19] (fun i wr => ∃ k : Nat, k ≤ ys.length ∧ i = .int .i64 k ∧ Owp N wr g (putTo zs ys (P / 64) (P % 64) k) ∧ w2.grownBy wr (some g)) (fun i _ => ys.length - (intOf i).toNat)
  case atStart => exact ⟨0, Nat.zero_le _, rfl, ho2, World.grownBy.refl _ _⟩
  case round =>
    obtain ⟨k, hkl, rfl, hown, hgr⟩ := hrel
    by_cases hlt : k < ys.length
    · obtain ⟨-, -, hn | ⟨b, o, rfl, hcell⟩⟩ := hr2
      · subst hn; simp at hlt
      have hbg : b ≠ g := hab _ rfl
      have hbl : b < w2.heap.size := block_lt_of_cell (hcell k hlt)
      have b1 := (gcell hgr 1 (b := w.heap.size) (by omega) (by omega)).trans k0
      have x1 := (gcell hgr _ hbl hbg).trans (hcell k hlt)
      obtain ⟨hf1, hf2⟩ := hk k hlt
      have hlen := putTo_len zs ys (P / 64) (P % 64) k
      have hcg := hown.cell (i := P / 64 + k) (by omega)
      have hfg := hown.free (P / 64 + k)
      have hfg2 := hown.free (P / 64 + k + 1)
      have hplt := putTo_lt zs ys (P / 64) (P % 64) k hz hy
      have hY := getD_lt hy k
      have hZ1 := getD_lt hplt (P / 64 + k)
      have i1 : (P : Int) / 64 + (k : Int) < (zs.length : Int) := by omega
      have i2 : (k : Int) < (ys.length : Int) := by omega
      have hgs : ¬ w.heap.size = g := by omega
      have hstep : putTo zs ys (P / 64) (P % 64) (k + 1) = ((putTo zs ys (P / 64) (P % 64) k).set (P / 64 + k) ((putTo zs ys (P / 64) (P % 64) k).getD (P / 64 + k) 0 ||| ys.getD k 0 * 2 ^ (P % 64) % 18446744073709551616)).set (P / 64 + k + 1) (((putTo zs ys (P / 64) (P % 64) k).set (P / 64 + k) ((putTo zs ys (P / 64) (P % 64) k).getD (P / 64 + k) 0 ||| ys.getD k 0 * 2 ^ (P % 64) % 18446744073709551616)).getD (P / 64 + k + 1) 0 ||| ys.getD k 0 / 2 ^ (64 - P % 64)) := rfl
      have hgd : ((putTo zs ys (P / 64) (P % 64) k).set (P / 64 + k) ((putTo zs ys (P / 64) (P % 64) k).getD (P / 64 + k) 0 ||| ys.getD k 0 * 2 ^ (P % 64) % 18446744073709551616)).getD (P / 64 + k + 1) 0 = (putTo zs ys (P / 64) (P % 64) k).getD (P / 64 + k + 1) 0 := by
        simp [List.getD, List.getElem?_set]
      rw [hgd] at hstep
      by_cases hrest : ys.getD k 0 / 2 ^ (64 - P % 64) = 0
      · have hstep2 : putTo zs ys (P / 64) (P % 64) (k + 1) = (putTo zs ys (P / 64) (P % 64) k).set (P / 64 + k) ((putTo zs ys (P / 64) (P % 64) k).getD (P / 64 + k) 0 ||| ys.getD k 0 * 2 ^ (P % 64) % 18446744073709551616) := by
          rw [hstep, hrest, Nat.or_zero]
          by_cases hin : P / 64 + k + 1 < (putTo zs ys (P / 64) (P % 64) k).length
          · have e : (putTo zs ys (P / 64) (P % 64) k).getD (P / 64 + k + 1) 0 = ((putTo zs ys (P / 64) (P % 64) k).set (P / 64 + k) ((putTo zs ys (P / 64) (P % 64) k).getD (P / 64 + k) 0 ||| ys.getD k 0 * 2 ^ (P % 64) % 18446744073709551616))[P / 64 + k + 1]'(by simpa using hin) := by
              simp [List.getD, hin]
            rw [e, List.set_getElem_self]
          · exact List.set_eq_of_length_le (by simp; omega)
        have hne : ((ys.getD k 0 : Nat) : Int) / 2 ^ (64 - P % 64) = 0 := by rw [castDiv, hrest]; rfl
        have HO : Hid (Owp N (wr.setCell ⟨g, P / 64 + k, none⟩ (.int .u64 (bits BinOp.or IntKind.u64 (((putTo zs ys (P / 64) (P % 64) k).getD (P / 64 + k) 0 : Nat) : Int) (IntKind.u64.wrap (((ys.getD k 0 : Nat) : Int) * 2 ^ (P % 64)))))) g (putTo zs ys (P / 64) (P % 64) (k + 1))) := by
          show Owp N _ _ _
          rw [hstep2, orShift _ _ _ hZ1]
          exact hown.put _ _
        clear hstep hstep2 hgd hown hcell hk hplt hrest hlen
        generalize (putTo zs ys (P / 64) (P % 64) k).getD (P / 64 + k) 0 = z at *
        generalize ys.getD k 0 = y at *
        have hne2 : ((y : Int) / 2 ^ (64 - P % 64) != 0) = false := by simp [hne]
        clear hne
        go_wp2
        go_region
        go_wp2
        go_roundw
        case rel => exact ⟨k + 1, by omega, by go_num, HO.out, grown_drew (grown_set hgr _ _)⟩
        case measure => simp [intOf]; omega
      · have hin : P / 64 + k + 1 < zs.length := by
          rcases hf2 with h | h
          · exact h
          · exact absurd h hrest
        have hcg2 := hown.cell (i := P / 64 + k + 1) (by omega)
        have i3 : (P : Int) / 64 + (k : Int) + 1 < (zs.length : Int) := by omega
        have hZ2 := getD_lt hplt (P / 64 + k + 1)
        have hne2 : (((ys.getD k 0 : Nat) : Int) / 2 ^ (64 - P % 64) != 0) = true := by rw [castDiv]; simp only [bne_iff_ne, ne_eq]; omega
        have HO : Hid (Owp N ((wr.setCell ⟨g, P / 64 + k, none⟩ (.int .u64 (bits BinOp.or IntKind.u64 (((putTo zs ys (P / 64) (P % 64) k).getD (P / 64 + k) 0 : Nat) : Int) (IntKind.u64.wrap (((ys.getD k 0 : Nat) : Int) * 2 ^ (P % 64)))))).setCell ⟨g, P / 64 + k + 1, none⟩ (.int .u64 (bits BinOp.or IntKind.u64 (((putTo zs ys (P / 64) (P % 64) k).getD (P / 64 + k + 1) 0 : Nat) : Int) (((ys.getD k 0 : Nat) : Int) / 2 ^ (64 - P % 64))))) g (putTo zs ys (P / 64) (P % 64) (k + 1))) := by
          show Owp N _ _ _
          rw [hstep, orShift _ _ _ hZ1, castDiv, bits_or_u64_nat _ _ hZ2 (Nat.lt_of_le_of_lt (Nat.div_le_self _ _) hY)]
          exact (hown.put _ _).put _ _
        clear hstep hgd hown hcell hk hplt hrest hlen
        generalize (putTo zs ys (P / 64) (P % 64) k).getD (P / 64 + k) 0 = z at *
        generalize (putTo zs ys (P / 64) (P % 64) k).getD (P / 64 + k + 1) 0 = z2 at *
        generalize ys.getD k 0 = y at *
        go_wp2
        go_region
        go_wp2
        go_roundw
        case rel => exact ⟨k + 1, by omega, by go_num, HO.out, grown_set (grown_drew (grown_set hgr _ _)) _ _⟩
        case measure => simp [intOf]; omega
    · have e : k = ys.length := by omega
      subst e
      go_wp2
      go_end0
      exact ⟨rfl, hown, ⟨hgr.os.trans hB2.os, hgr.tape.trans hB2.tape, hgr.output.trans hB2.output, Nat.le_trans hB2.size hgr.size, fun j hj hne => (hgr.block j (by omega) hne).trans (hB2.block j hj)⟩⟩

end Go.Proofs.YtckidgpopbpagaaGreatDoor

/- What the given functions on words answer: RepeatBits, WidenBits. -/
namespace Go.Proofs.YtckidgpopbpagaaGreatDoor
set_option linter.unusedVariables false
set_option linter.unusedSimpArgs false
open Go.RowKit

/-- 'append(out, list...)', out the call's own, list not empty. -/
theorem wpList_appBs (w : World) {ops : Array Oper} {rest : List Oper} {o : Oper} {a : Act} {Q : Exit → Act → World → Prop} (hgd : o.guard = none) (s x : Operand)
    (ho : o.op = .call { callee := .builtin .append, args := #[s, x], argTypes := #[80, 80] })
    (base : Nat) (v : Value) (bs ys : List Nat) (hs : a.eval s = v) (hown : OwB w base v bs) (b ob c : Nat) (hx : a.eval x = .slice (some ⟨b, ob, none⟩) ys.length c)
    (hc : ∀ i, i < ys.length → w.cell? ⟨b, ob + i, none⟩ = some (.int .u8 ((ys.getD i 0 : Nat) : Int))) (hl : bs.length + ys.length ≤ 4194304) (hbase : base ≤ w.heap.size)
    (h : ∀ v' w', OwB w' base v' (bs ++ ys) → w.grownBy w' v.ownBlock → wpList Tryz.prog ops Q rest (a.put o.dst v') w') : wpList Tryz.prog ops Q (o :: rest) a w := by
  obtain ⟨i0, hi, hz0, hz1, hz2⟩ := info_parts Tryz.infoU8
  refine wpList_append_own w hgd s x 80 ho base 5 i0 (.int .u8 0) 1 1 Tryz.underlying80 hi hz0 hz1 hz2 rfl (by decide) v bs.length (u8s bs) hs hown ⟨b, ob, none⟩ ys.length c (u8s ys) hx (by simp [u8s]) ?_ ?_ ?_ ?_ hbase ?_
  · intro j u hj
    have hj' : j < ys.length := by
      have := (List.getElem?_eq_some_iff.1 hj).1
      simpa [u8s] using this
    rw [Addr.add_lit, hc j hj']
    simp [u8s, hj'] at hj
    rw [← hj]
    simp [List.getD, hj']
  · intro u hu
    obtain ⟨_, _, rfl⟩ := List.mem_map.1 hu
    rfl
  · unfold maxLen; omega
  · omega
  · intro v' w' h1 h2 _
    refine h v' w' ?_ h2
    unfold OwB
    simpa [u8s] using h1

def repList (bs : List Nat) (k : Nat) : List Nat := (List.replicate k bs).flatten
theorem repList_succ (bs : List Nat) (k : Nat) : repList bs (k + 1) = repList bs k ++ bs := by
  unfold repList
  rw [List.replicate_succ', List.flatten_append]; simp
theorem repList_len (bs : List Nat) (k : Nat) : (repList bs k).length = k * bs.length := by
  induction k with
  | zero => simp [repList]
  | succ k ih => rw [repList_succ, List.length_append, ih, Nat.succ_mul]
theorem repList_mem (bs : List Nat) (k x : Nat) (h : x ∈ repList bs k) : x ∈ bs := by
  unfold repList at h
  simp at h
  obtain ⟨l, ⟨_, rfl⟩, hx⟩ := h
  exact hx

def repR (W : Int) (xs : List Nat) (n : Int) : Int × List Nat × Bool :=
  if rightB W xs = true ∧ 1 ≤ n ∧ n ≤ 4096 ∧ W * n ≤ 4096 then (W * n, pack (repList (bitsTo xs W.toNat) n.toNat), true) else noR


end Go.Proofs.YtckidgpopbpagaaGreatDoor
