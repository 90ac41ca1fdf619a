/- Blocks of memory: what stays, what may change in its kind alone; words in new memory. -/
import Derived.Test.YtmfamdonbgmjbaaDoorKE
import Derived.Test.YtmfamdonbgmjbaaDoorK0
import Derived.Test.YtmfamdonbgmjbaaDoorRX
import Derived.Deep.OwnRows
import Derived.Deep.RegionHeldLaw
namespace Go.Proofs.YtmfamdonbgmjbaaDoor
set_option linter.unusedVariables false
set_option linter.unusedSimpArgs false
open Go.RowKit

def Bz (u : World) (b : Nat) (cs : Array Value) (t : TypeId) : Prop := u.heap[b]? = some (.cells cs t (0, 0))
theorem Bz.lt {u : World} {b : Nat} {cs : Array Value} {t : TypeId} (h : Bz u b cs t) : b < u.heap.size := lt_of_block h
theorem Bz.new (u : World) (cs : Array Value) (t : TypeId) : Bz (u.alloc (.cells cs t)) u.heap.size cs t := heap_alloc_new _ _
theorem Bz.set {u : World} {b : Nat} {cs : Array Value} {t : TypeId} (h : Bz u b cs t) (o : Nat) (x : Value) : Bz (u.setCell ⟨b, o, none⟩ x) b (cs.setIfInBounds o x) t := heap_setCell_same u b o _ _ x h
theorem Bz.other {u : World} {b c : Nat} {cs : Array Value} {t : TypeId} (h : Bz u b cs t) (hn : b ≠ c) (o : Nat) (x : Value) : Bz (u.setCell ⟨c, o, none⟩ x) b cs t := by
  unfold Bz; rw [heap_setCell_other _ _ _ _ (by simpa using hn)]; exact h
theorem Bz.cell {u : World} {b : Nat} {cs : Array Value} {t : TypeId} (h : Bz u b cs t) (o : Nat) : u.cell? ⟨b, o, none⟩ = cs[o]? := cell_of_row u b o _ _ _ h
theorem Bz.froz {u : World} {b : Nat} {cs : Array Value} {t : TypeId} (h : Bz u b cs t) (o : Nat) : u.frozen? ⟨b, o, none⟩ = false := frozen_of_row u b o _ _ h
theorem Bz.later {u u' : World} {b : Nat} {cs : Array Value} {t : TypeId} (h : Bz u b cs t) (hb : Below u.heap.size u u') : Bz u' b cs t := by
  unfold Bz; rw [hb.block _ h.lt]; exact h

theorem share2 {F P : World → Nat → Prop} {G : Prop} (main : (∀ v b, F v b → P v b) → G) (key : ∀ v b, F v b → P v b) : G := main key

theorem own_ge {w : World} {B n : Nat} {e : TypeId} {v : Value} {xs : List Value} {b : Nat} (h : w.ownsRow B e 1 v n xs) (hb : v.ownBlock = some b) : B ≤ b := by
  rcases h.2 with ⟨rfl, -⟩ | ⟨g, cap, cur, rfl, hg, hh, -⟩
  · cases hb
  · cases hb
    exact hg

/-- But for the blocks from B1 on below B2 nothing has changed. -/
def Out (B1 B2 : Nat) (w w' : World) : Prop := w'.os = w.os ∧ w'.tape = w.tape ∧ w'.output = w.output ∧ w.heap.size ≤ w'.heap.size ∧ ∀ k, k < w.heap.size → (k < B1 ∨ B2 ≤ k) → w'.heap[k]? = w.heap[k]?
theorem Out.refl (B1 B2 : Nat) (w : World) : Out B1 B2 w w := ⟨rfl, rfl, rfl, Nat.le_refl _, fun _ _ _ => rfl⟩
theorem Out.trans {B1 B2 : Nat} {w w1 w2 : World} (h : Out B1 B2 w w1) (h' : Out B1 B2 w1 w2) : Out B1 B2 w w2 :=
  ⟨h'.1.trans h.1, h'.2.1.trans h.2.1, h'.2.2.1.trans h.2.2.1, Nat.le_trans h.2.2.2.1 h'.2.2.2.1, fun k hk ho => (h'.2.2.2.2 k (Nat.lt_of_lt_of_le hk h.2.2.2.1) ho).trans (h.2.2.2.2 k hk ho)⟩
theorem Out.grown {B1 B2 g : Nat} {w w' : World} (h : w.grownBy w' (some g)) (h1 : B1 ≤ g) (h2 : g < B2) : Out B1 B2 w w' := ⟨h.os, h.tape, h.output, h.size, fun k hk ho => h.block k hk (fun e => by cases e; omega)⟩
theorem Out.set {B1 B2 g o : Nat} {w w' : World} (h : Out B1 B2 w w') (h1 : B1 ≤ g) (h2 : g < B2) (v : Value) : Out B1 B2 w (w'.setCell ⟨g, o, none⟩ v) := by
  refine ⟨h.1, h.2.1, h.2.2.1, by simpa using h.2.2.2.1, fun k hk ho => ?_⟩
  rw [heap_setCell_other _ _ _ _ (by simp; omega)]
  exact h.2.2.2.2 k hk ho
theorem Out.below {B B1 B2 : Nat} {w w' : World} (h : Out B1 B2 w w') (hB : B ≤ B1) (hs : B ≤ w.heap.size) : Below B w w' := ⟨h.1, h.2.1, h.2.2.1, h.2.2.2.1, fun k hk => h.2.2.2.2 k (by omega) (.inl (by omega))⟩

/-- Of the same kind: numbers, texts and flags may be others. -/
def alike (v v' : Value) : Prop := v' = v ∨ (∃ k x y, v = .int k x ∧ v' = .int k y) ∨ (∃ x y, v = .string x ∧ v' = .string y) ∨ ∃ x y, v = .bool x ∧ v' = .bool y
theorem alike.trans {a b c : Value} (h : alike a b) (h' : alike b c) : alike a c := by
  rcases h with rfl | ⟨k, x, y, rfl, rfl⟩ | ⟨x, y, rfl, rfl⟩ | ⟨x, y, rfl, rfl⟩
  · exact h'
  · rcases h' with rfl | ⟨k', x', y', e, rfl⟩ | ⟨x', y', e, rfl⟩ | ⟨x', y', e, rfl⟩
    · exact .inr (.inl ⟨k, x, y, rfl, rfl⟩)
    · cases e
      exact .inr (.inl ⟨k, x, y', rfl, rfl⟩)
    · cases e
    · cases e
  · rcases h' with rfl | ⟨k', x', y', e, rfl⟩ | ⟨x', y', e, rfl⟩ | ⟨x', y', e, rfl⟩
    · exact .inr (.inr (.inl ⟨x, y, rfl, rfl⟩))
    · cases e
    · exact .inr (.inr (.inl ⟨x, y', rfl, rfl⟩))
    · cases e
  · rcases h' with rfl | ⟨k', x', y', e, rfl⟩ | ⟨x', y', e, rfl⟩ | ⟨x', y', e, rfl⟩
    · exact .inr (.inr (.inr ⟨x, y, rfl, rfl⟩))
    · cases e
    · cases e
    · exact .inr (.inr (.inr ⟨x, y', rfl, rfl⟩))
theorem alike.int {k : IntKind} {x : Int} {v : Value} (h : alike (.int k x) v) : ∃ y, v = .int k y := by
  rcases h with rfl | ⟨k', x', y', e, rfl⟩ | ⟨x', y', e, rfl⟩ | ⟨x', y', e, rfl⟩
  · exact ⟨x, rfl⟩
  · cases e; exact ⟨y', rfl⟩
  · cases e
  · cases e
theorem alike.str {x : ByteArray} {v : Value} (h : alike (.string x) v) : ∃ y, v = .string y := by
  rcases h with rfl | ⟨k', x', y', e, rfl⟩ | ⟨x', y', e, rfl⟩ | ⟨x', y', e, rfl⟩
  · exact ⟨x, rfl⟩
  · cases e
  · exact ⟨y', rfl⟩
  · cases e
theorem alike.slice {a : Option Addr} {n c : Nat} {v : Value} (h : alike (.slice a n c) v) : v = .slice a n c := by
  rcases h with rfl | ⟨k', x', y', e, rfl⟩ | ⟨x', y', e, rfl⟩ | ⟨x', y', e, rfl⟩
  · rfl
  · cases e
  · cases e
  · cases e

/-- Numbers alone have changed. -/
def Shp (w w' : World) : Prop := ∀ (b : Nat) (cur : Array Value) (t : TypeId), w.heap[b]? = some (.cells cur t (0, 0)) → ∃ cur', w'.heap[b]? = some (.cells cur' t (0, 0)) ∧ ∀ (i : Nat) (v : Value), cur[i]? = some v → ∃ v', cur'[i]? = some v' ∧ alike v v'
theorem Shp.refl (w : World) : Shp w w := fun _ cur _ h => ⟨cur, h, fun _ v hv => ⟨v, hv, .inl rfl⟩⟩
theorem Shp.trans {a b c : World} (h : Shp a b) (h' : Shp b c) : Shp a c := fun k cur t e => by
  obtain ⟨c1, e1, r1⟩ := h k cur t e
  obtain ⟨c2, e2, r2⟩ := h' k c1 t e1
  exact ⟨c2, e2, fun i v hv => by
    obtain ⟨v1, h1, a1⟩ := r1 i v hv
    obtain ⟨v2, h2, a2⟩ := r2 i v1 h1
    exact ⟨v2, h2, a1.trans a2⟩⟩
theorem Shp.put {w : World} {g o : Nat} {x y : Value} (h : w.cell? ⟨g, o, none⟩ = some x) (hxy : alike x y) : Shp w (w.setCell ⟨g, o, none⟩ y) := fun b cur t e => by
  by_cases eb : b = g
  · subst eb
    refine ⟨cur.setIfInBounds o y, heap_setCell_same w b o _ _ _ e, fun i v hv => ?_⟩
    by_cases ei : i = o
    · subst ei
      rw [cell_of_row w b i cur _ _ e] at h
      rw [h] at hv
      cases hv
      exact ⟨y, by rw [Array.getElem?_setIfInBounds_self_of_lt (Array.getElem?_eq_some_iff.1 h).1], hxy⟩
    · exact ⟨v, by rw [Array.getElem?_setIfInBounds_ne (fun h => ei h.symm)]; exact hv, .inl rfl⟩
  · exact ⟨cur, by rw [heap_setCell_other _ _ _ _ (by simpa using eb)]; exact e, fun i v hv => ⟨v, hv, .inl rfl⟩⟩
theorem Shp.set {w : World} {g o : Nat} {k : IntKind} {x : Int} (h : w.cell? ⟨g, o, none⟩ = some (.int k x)) (y : Int) : Shp w (w.setCell ⟨g, o, none⟩ (.int k y)) := Shp.put h (.inr (.inl ⟨k, x, y, rfl, rfl⟩))

/-- A row of n words in a block of words. -/
def TyW (w : World) (lo hi : Nat) (a : Option Addr) (n : Nat) : Prop := n ≤ 1048576 ∧ ∃ h cur, a = some ⟨h, 0, none⟩ ∧ lo ≤ h ∧ h < hi ∧ w.heap[h]? = some (.cells cur 108 (0, 0)) ∧ ∀ i, i < n → ∃ y : Int, cur[i]? = some (.int .u64 y)

theorem keep_int {cur cur' : Array Value} (r : ∀ (i : Nat) (v : Value), cur[i]? = some v → ∃ v', cur'[i]? = some v' ∧ alike v v') {i : Nat} {k : IntKind} (h : ∃ x : Int, cur[i]? = some (.int k x)) : ∃ x : Int, cur'[i]? = some (.int k x) := by
  obtain ⟨x, hx⟩ := h
  obtain ⟨v', h1, h2⟩ := r i _ hx
  obtain ⟨y, rfl⟩ := h2.int
  exact ⟨y, h1⟩
theorem TyW.shp {w w' : World} {lo hi n : Nat} {a : Option Addr} (h : TyW w lo hi a n) (hs : Shp w w') : TyW w' lo hi a n := by
  obtain ⟨h0, g, cur, e, h1, h2, h3, h4⟩ := h
  obtain ⟨cur', e', r⟩ := hs g cur _ h3
  exact ⟨h0, g, cur', e, h1, h2, e', fun i hi => keep_int r (h4 i hi)⟩

theorem keep_str {cur cur' : Array Value} (r : ∀ (i : Nat) (v : Value), cur[i]? = some v → ∃ v', cur'[i]? = some v' ∧ alike v v') {i : Nat} (h : ∃ x : ByteArray, cur[i]? = some (.string x)) : ∃ x : ByteArray, cur'[i]? = some (.string x) := by
  obtain ⟨x, hx⟩ := h
  obtain ⟨v', h1, h2⟩ := r i _ hx
  obtain ⟨y, rfl⟩ := h2.str
  exact ⟨y, h1⟩
theorem Shp.of {w w' : World} (hb : Below w.heap.size w w') : Shp w w' := fun b cur t e => ⟨cur, (hb.block b (lt_of_block e)).trans e, fun i v hv => ⟨v, hv, .inl rfl⟩⟩


def OwW (w : World) (base : Nat) (v : Value) (xs : List Nat) : Prop := w.ownsRow base 108 1 v xs.length (u64s xs).toList

theorem OwW.nils (w : World) (base : Nat) : OwW w base (.slice none 0 0) [] := ⟨rfl, .inl ⟨rfl, rfl⟩⟩
theorem OwW.empty (w : World) (base g : Nat) (hg : g = w.heap.size) (h : base ≤ g) : OwW (w.alloc (.cells #[] 108)) base (.slice (some ⟨g, 0, Option.none⟩) 0 0) [] := by
  subst hg
  exact World.ownsRow_made w #[] 0 h (Nat.zero_le _) (by simp)

/-- A word's bits in new memory: a block of words whose first ones they are. -/
def Nw (w : World) (lo : Nat) (a : Option Addr) (xs : List Nat) : Prop :=
  (xs = [] ∧ ∀ x, a = some x → lo ≤ x.block ∧ x.off = 0 ∧ ∃ cur, w.heap[x.block]? = some (.cells cur 108 (0, 0))) ∨ ∃ g cur, a = some ⟨g, 0, none⟩ ∧ lo ≤ g ∧ w.heap[g]? = some (.cells cur 108 (0, 0)) ∧ ∀ i, i < xs.length → cur[i]? = some (.int .u64 ((xs.getD i 0 : Nat) : Int))

theorem OwW.shape {w : World} {base : Nat} {v : Value} {xs : List Nat} (h : OwW w base v xs) : ∃ a c, v = .slice a xs.length c ∧ Nw w base a xs := by
  obtain ⟨h1, ⟨rfl, h2⟩ | ⟨g, cap, cur, rfl, hg, hh, hc1, hc2, hsz, hcur⟩⟩ := h
  · have e := List.eq_nil_of_length_eq_zero h2
    subst e
    exact ⟨none, 0, rfl, .inl ⟨rfl, fun x e => by cases e⟩⟩
  · refine ⟨some ⟨g, 0, none⟩, cap, rfl, .inr ⟨g, cur, rfl, hg, hh, fun i hi => ?_⟩⟩
    have h3 : (cur.toList.take (xs.length * 1))[i]? = (u64s xs).toList[i]? := by rw [hcur]
    rw [List.getElem?_take, if_pos (by omega)] at h3
    simp only [Array.getElem?_toList] at h3
    rw [h3, u64s_get _ _ hi]

theorem Own.nw {w : World} {lo g : Nat} {xs : List Nat} (h : Own w g xs) (hg : lo ≤ g) : Nw w lo (some ⟨g, 0, none⟩) xs := .inr ⟨g, u64s xs, rfl, hg, h, fun i hi => u64s_get _ _ hi⟩

theorem Nw.rd {w : World} {lo : Nat} {a : Option Addr} {xs : List Nat} (h : Nw w lo a xs) (hl : xs.length ≤ 1048576) (hx : ∀ x ∈ xs, x < 18446744073709551616) : Rd w a xs := by
  refine ⟨hl, hx, ?_⟩
  rcases h with ⟨h1, -⟩ | ⟨g, cur, h1, -, h3, h4⟩
  · exact .inl h1
  · refine .inr ⟨g, 0, h1, fun i hi => ?_⟩
    rw [Nat.zero_add, cell_of_row w g i cur _ _ h3]
    exact h4 i hi

theorem Nw.mono {w : World} {lo lo' : Nat} {a : Option Addr} {xs : List Nat} (h : Nw w lo a xs) (hl : lo' ≤ lo) : Nw w lo' a xs := by
  rcases h with ⟨h1, h2⟩ | ⟨g, cur, h1, h2, h3, h4⟩
  · exact .inl ⟨h1, fun x e => ⟨Nat.le_trans hl (h2 x e).1, (h2 x e).2⟩⟩
  · exact .inr ⟨g, cur, h1, Nat.le_trans hl h2, h3, h4⟩

theorem Nw.kept {w w' : World} {lo : Nat} {a : Option Addr} {xs : List Nat} (h : Nw w lo a xs) (hk : ∀ (k : Nat) (cur : Array Value), w.heap[k]? = some (Obj.cells cur 108 (0, 0)) → w'.heap[k]? = w.heap[k]?) : Nw w' lo a xs := by
  rcases h with ⟨h1, h2⟩ | ⟨g, cur, h1, h2, h3, h4⟩
  · refine .inl ⟨h1, fun x e => ?_⟩
    obtain ⟨a, b, cur, c⟩ := h2 x e
    exact ⟨a, b, cur, by rw [hk _ _ c]; exact c⟩
  · exact .inr ⟨g, cur, h1, h2, by rw [hk _ _ h3]; exact h3, h4⟩

theorem Nw.later {w w' : World} {lo : Nat} {a : Option Addr} {xs : List Nat} (h : Nw w lo a xs) (hb : Below w.heap.size w w') : Nw w' lo a xs := Nw.kept h fun k cur hc => hb.block k (lt_of_block hc)

/-- 'append(out, list...)' of words at a step of a region that draws its order. -/
theorem step_appWs (w : World) {ops : Array Oper} {o : Oper} {a : Act} {K : Act → World → Prop} {Q : Exit → Act → World → Prop} {E : Prop} (hgd : o.guard = none) (s x : Operand)
    (ho : o.op = .call { callee := .builtin .append, args := #[s, x], argTypes := #[64, 64] })
    (base : Nat) (v : Value) (bs ys : List Nat) (hs : a.eval s = v) (hown : OwW w base v bs) (b ob c : Nat) (hx : a.eval x = .slice (some ⟨b, ob, none⟩) ys.length c)
    (hc : ∀ i, i < ys.length → w.cell? ⟨b, ob + i, none⟩ = some (.int .u64 ((ys.getD i 0 : Nat) : Int))) (hl : bs.length + ys.length ≤ 4194304) (hbase : base ≤ w.heap.size)
    (h : ∀ v' w', OwW w' base v' (bs ++ ys) → w.grownBy w' v.ownBlock → K (a.put o.dst v') w') :
    if Region.wanted o (yielded ops a.tmps) = true then Oper.wp Tryd.prog o a w K Q else E := by
  have hw : Region.wanted o (yielded ops a.tmps) = true := by simp [Region.wanted, hgd]
  rw [if_pos hw]
  obtain ⟨i0, hi, hz0, hz1, hz2⟩ := info_parts Tryd.infoU64
  refine wp_append_own w s x 64 ho base 108 i0 (.int .u64 0) 1 8 Tryd.underlying64 hi hz0 hz1 hz2 rfl (by decide) v bs.length (u64s bs).toList hs hown ⟨b, ob, none⟩ ys.length c (u64s ys).toList hx (by simp [u64s]) ?_ ?_ ?_ ?_ hbase ?_
  · intro j u hj
    have hj' : j < ys.length := by
      have := (List.getElem?_eq_some_iff.1 hj).1
      simpa [u64s] using this
    rw [Addr.add_lit, hc j hj']
    simp [u64s, hj'] at hj
    rw [← hj]
    simp [List.getD, hj']
  · intro u hu
    simp [u64s] at hu
    obtain ⟨_, _, rfl⟩ := hu
    rfl
  · unfold maxLen; omega
  · omega
  · intro v' w' h1 h2 _
    refine h v' w' ?_ h2
    unfold OwW
    simpa [u64s] using h1

theorem nw_set {w : World} {lo β : Nat} {a : Option Addr} {xs : List Nat} {cs : Array Value} {t : TypeId} (h : Nw w lo a xs) (hB : Bz w β cs t) (ht : t ≠ 108) (i : Nat) (v : Value) : Nw (w.setCell ⟨β, i, none⟩ v) lo a xs :=
  Nw.kept h fun k cur hc => heap_setCell_other _ _ _ _ (fun e => by
    simp only [] at e
    subst e
    unfold Bz at hB
    rw [hB] at hc
    cases hc
    exact ht rfl)

theorem nw_lt {w : World} {lo : Nat} {a : Option Addr} {xs : List Nat} (h : Nw w lo a xs) {p : Addr} (hp : a = some p) : lo ≤ p.block ∧ p.block < w.heap.size := by
  rcases h with ⟨h1, h2⟩ | ⟨g, cur, h1, h2, h3, h4⟩
  · obtain ⟨k1, -, cur, k2⟩ := h2 p hp
    exact ⟨k1, lt_of_block k2⟩
  · rw [h1] at hp
    cases hp
    exact ⟨h2, lt_of_block h3⟩

end Go.Proofs.YtmfamdonbgmjbaaDoor
