/- Several texts in one. -/
import Derived.Test.YtkngpgonmedgpaaGreatDoorGAE
import Derived.WalkSpells
import Derived.Deep.QuietTactic
import Derived.BigQuiet
import Derived.Outline
import Derived.WalkSmall
import Derived.Deep.OwnRows
import Derived.Test.YtkngpgonmedgpaaGreatDoorGAB
import Derived.Deep.RegionHeld3
import Derived.Test.YtkngpgonmedgpaaGreatDoorRX
import Derived.Deep.RegionHeldLaw
import Derived.Deep.AppendLies
namespace Go.Proofs.YtkngpgonmedgpaaGreatDoor
open Go.RowKit
set_option linter.unusedVariables false
set_option linter.unusedSimpArgs false
theorem kide {p : Prop} (h : p) : Hid p := h
theorem kcell {W w1 : World} (hb : Below W.heap.size W w1) (b o : Nat) (h : b < W.heap.size) : w1.cell? ⟨b, o, none⟩ = W.cell? ⟨b, o, none⟩ := hb.cell (p := ⟨b, o, none⟩) h
theorem kundrew {B : Nat} {w w' : World} (h : Below B w.drew w') : Below B w w' := ⟨h.os, h.tape, h.output, h.size, h.block⟩
theorem kstr_ne {s t : ByteArray} (h : s ≠ t) : (s.toList == t.toList) = false := by
 rw [ByteArray.toList_eq, ByteArray.toList_eq, beq_eq_false_iff_ne]
 intro e
 exact h (ByteArray.ext (Array.toList_inj.1 e))
theorem krow {w : World} {g : Nat} {c : Array Value} {t : TypeId} (h : w.heap[g]? = some (.cells c t (0, 0))) : w.rowIs g t c.size (fun i => (c[i]?).getD undef) :=
 ⟨c, h, rfl, fun i hi => by simp [hi]⟩

def Bb (w : World) (o1 o2 : Obj) (wk : World) : Prop := Below (w.heap.size + 2) ((w.alloc o1).alloc o2) wk
theorem Bb.start (w : World) (o1 o2 : Obj) : Bb w o1 o2 ((w.alloc o1).alloc o2) := Below.refl _ _
theorem Bb.size {w wk : World} {o1 o2 : Obj} (h : Bb w o1 o2 wk) : w.heap.size + 2 ≤ wk.heap.size := by have := Below.size h; simpa using this
theorem Bb.next {w wk w1 : World} {o1 o2 : Obj} (h : Bb w o1 o2 wk) (hb : Below wk.heap.size wk w1) : Bb w o1 o2 w1 := Below.trans h (hb.mono h.size)
theorem Bb.below {w wk : World} {o1 o2 : Obj} (h : Bb w o1 o2 wk) : Below w.heap.size w wk := Below.trans (Below.alloc (Below.alloc (Below.refl _ _) (Nat.le_refl _) _) (by simp) _) (Below.mono h (by omega))
theorem Bb.one {w wk : World} {cs : Array Value} {t : TypeId} {o2 : Obj} (h : Bb w (.cells cs t) o2 wk) (i : Nat) : wk.cell? ⟨w.heap.size, i, none⟩ = cs[i]? := by
 rw [Below.cell h (by simp)]; simp [go_sem]
theorem Bb.two {w wk : World} {cs : Array Value} {t : TypeId} {o1 : Obj} (h : Bb w o1 (.cells cs t) wk) (i : Nat) : wk.cell? ⟨w.heap.size + 1, i, none⟩ = cs[i]? := by
 rw [Below.cell h (by simp)]; simp [go_sem]
set_option maxHeartbeats 1000000 in
set_option maxRecDepth 100000 in
theorem l3Same_any (W : Int) (a : Option Addr) (c : Nat) (xs : List Nat) (V : Int) (b : Option Addr) (d : Nat) (ys : List Nat) (w : World) (hr : Rd w a xs) (hs : Rd w b ys) :
  Calls Tryz.prog 40 #[.agg #[.int .i64 W, .slice a xs.length c], .agg #[.int .i64 V, .slice b ys.length d]] w fun e w' => e = .returned (.bool (decide (W = V) && decide (xs = ys))) ∧ Below w.heap.size w w' := by
 have s0 := Bb.start w (.cells #[.int .i64 W, .slice a xs.length c] 80) (.cells #[.int .i64 V, .slice b ys.length d] 80)
 have HRA := kide (fun u (hu : Below w.heap.size w u) => hr.later hu)
 have HRB := kide (fun u (hu : Below w.heap.size w u) => hs.later hu)
 have hl1 := hr.1
 have hl2 := hs.1
 clear hr hs
 by_cases hWV : W = V
 ·by_cases hlen : ys.length = xs.length
  ·subst hWV
   have hR : (decide (W = W) && decide (xs = ys)) = decide (xs = ys) := by simp
   rw [hR]
   generalize hZ : decide (xs = ys) = Z
   have HZ := kide hZ
   have HLE := kide hlen
   rw [hlen] at s0
   simp only [hlen]
   have h1 : (W != W) = false := by simp
   have h2 : ((xs.length : Int) != (xs.length : Int)) = false := by simp
   clear hZ hlen hR hl2
   go_enter Tryz.func40, Tryz.ntmps40
   go_wp2_with fail
   clear h1 h2
   go_loopw [5] (fun i wr => ∃ k : Nat, k ≤ xs.length ∧ i = .int .i64 k ∧ (∀ j, j < k → xs.getD j 0 = ys.getD j 0) ∧ Bb w (.cells #[.int .i64 W, .slice a xs.length c] 80) (.cells #[.int .i64 W, .slice b xs.length d] 80) wr) (fun i _ => xs.length - (intOf i).toNat)
   case atStart => exact ⟨0, Nat.zero_le _, rfl, fun j h => by omega, s0⟩
   case round =>
    obtain ⟨k, hk, rfl, heq, s3⟩ := hrel
    have g1 := s3.one 1
    have f1 := s3.two 1
    simp at g1 f1
    by_cases hjx : k < xs.length
    ·have hji : (k : Int) < (xs.length : Int) := by omega
     obtain ⟨-, -, hn | ⟨g, o, rfl, hc⟩⟩ := HRA.out wr s3.below
     ·subst hn; simp at hjx
     obtain ⟨-, -, hn | ⟨g', o', rfl, hc'⟩⟩ := HRB.out wr s3.below
     ·have := HLE.out; subst hn; simp at this; omega
     have hx1 := hc k hjx
     have hy1 := hc' k (by have := HLE.out; omega)
     obtain ⟨x, hx⟩ : ∃ x, xs.getD k 0 = x := ⟨_, rfl⟩
     obtain ⟨y, hy⟩ : ∃ y, ys.getD k 0 = y := ⟨_, rfl⟩
     rw [hx] at hx1
     rw [hy] at hy1
     have HX := kide hx
     have HY := kide hy
     have HEQ := kide heq
     clear hc hc' hx hy heq s0
     by_cases h1 : x = y
     ·subst h1
      have hne : ((x : Int) != (x : Int)) = false := by simp
      go_wp2_with fail
      go_quiet (fail)
      go_wp2_with fail
      go_roundw
      case rel =>
       refine ⟨k + 1, by omega, by go_num, fun i h2 => ?_, s3.next (below_drewN (Below.refl _ _) _)⟩
       by_cases hij : i = k
       ·subst hij
        rw [HX.out, HY.out]
       ·exact HEQ.out i (by omega)
      case measure => first | (simp [intOf]; done) | (simp [intOf]; omega)
     ·have hne : ((x : Int) != (y : Int)) = true := by simp; omega
      have HF : Hid (Z = false) := by
       show _ = _
       rw [← HZ.out]
       simp only [decide_eq_false_iff_not]
       intro he
       apply h1
       rw [← HX.out, ← HY.out, he]
      clear h1
      go_wp2_with fail
      go_quiet (fail)
      go_wp2_with fail
      go_ret
      exact ⟨ret_bool HF.out.symm, s3.below.trans (below_drewN (Below.refl _ _) _)⟩
    ·have HT : Hid (Z = true) := by
      show _ = _
      rw [← HZ.out]
      simp only [decide_eq_true_eq]
      refine List.ext_getElem HLE.out.symm (fun j h1 h2 => ?_)
      have := heq j (by omega)
      simpa [List.getD, h1, h2] using this
     clear heq
     go_wp2_with fail
     go_ret
     exact ⟨ret_bool HT.out.symm, s3.below⟩
  ·have hR : (decide (W = V) && decide (xs = ys)) = false := by
    simp only [Bool.and_eq_false_iff, decide_eq_false_iff_not]
    exact .inr (fun h => hlen (by rw [h]))
   rw [hR]
   have h1 : (W != V) = false := by simp [hWV]
   have h2 : ((xs.length : Int) != (ys.length : Int)) = true := by simp; omega
   clear hR hWV hlen
   go_enter Tryz.func40, Tryz.ntmps40
   go_wp2_with fail
   go_ret
   exact ⟨rfl, s0.below⟩
 ·have hR : (decide (W = V) && decide (xs = ys)) = false := by simp [hWV]
  rw [hR]
  have h1 : (W != V) = true := by simp [hWV]
  clear hR hWV
  go_enter Tryz.func40, Tryz.ntmps40
  go_wp2_with fail
  go_ret
  exact ⟨rfl, s0.below⟩

def Bz (u : World) (b : Nat) (cs : Array Value) (t : TypeId) : Prop := u.heap[b]? = some (.cells cs t (0, 0))
theorem Bz.lt {u : World} {b : Nat} {cs : Array Value} {t : TypeId} (h : Bz u b cs t) : b < u.heap.size := lt_of_block h
theorem Bz.new (u : World) (cs : Array Value) (t : TypeId) : Bz (u.alloc (.cells cs t)) u.heap.size cs t := heap_alloc_new _ _
theorem Bz.set {u : World} {b : Nat} {cs : Array Value} {t : TypeId} (h : Bz u b cs t) (o : Nat) (x : Value) : Bz (u.setCell ⟨b, o, none⟩ x) b (cs.setIfInBounds o x) t := heap_setCell_same u b o _ _ x h
theorem Bz.other {u : World} {b c : Nat} {cs : Array Value} {t : TypeId} (h : Bz u b cs t) (hn : b ≠ c) (o : Nat) (x : Value) : Bz (u.setCell ⟨c, o, none⟩ x) b cs t := by
 unfold Bz; rw [heap_setCell_other _ _ _ _ (by simpa using hn)]; exact h
theorem Bz.cell {u : World} {b : Nat} {cs : Array Value} {t : TypeId} (h : Bz u b cs t) (o : Nat) : u.cell? ⟨b, o, none⟩ = cs[o]? := cell_of_row u b o _ _ _ h
theorem Bz.froz {u : World} {b : Nat} {cs : Array Value} {t : TypeId} (h : Bz u b cs t) (o : Nat) : u.frozen? ⟨b, o, none⟩ = false := frozen_of_row u b o _ _ h
theorem Bz.later {u u' : World} {b : Nat} {cs : Array Value} {t : TypeId} (h : Bz u b cs t) (hb : Below u.heap.size u u') : Bz u' b cs t := by
 unfold Bz; rw [hb.block _ h.lt]; exact h
theorem own_ge {w : World} {B n : Nat} {e : TypeId} {v : Value} {xs : List Value} {b : Nat} (h : w.ownsRow B e 1 v n xs) (hb : v.ownBlock = some b) : B ≤ b := by
 rcases h.2 with ⟨rfl, -⟩ | ⟨g, cap, cur, rfl, hg, hh, -⟩
 ·cases hb
 ·cases hb
  exact hg
def alike (v v' : Value) : Prop := v' = v ∨ (∃ k x y, v = .int k x ∧ v' = .int k y) ∨ (∃ x y, v = .string x ∧ v' = .string y) ∨ ∃ x y, v = .bool x ∧ v' = .bool y
def OwW (w : World) (base : Nat) (v : Value) (xs : List Nat) : Prop := w.ownsRow base 109 1 v xs.length (u64s xs).toList
theorem OwW.nils (w : World) (base : Nat) : OwW w base (.slice none 0 0) [] := ⟨rfl, .inl ⟨rfl, rfl⟩⟩
theorem OwW.empty (w : World) (base g : Nat) (hg : g = w.heap.size) (h : base ≤ g) : OwW (w.alloc (.cells #[] 109)) base (.slice (some ⟨g, 0, Option.none⟩) 0 0) [] := by
 subst hg
 exact World.ownsRow_made w #[] 0 h (Nat.zero_le _) (by simp)
def Nw (w : World) (lo : Nat) (a : Option Addr) (xs : List Nat) : Prop :=
 (xs = [] ∧ ∀ x, a = some x → lo ≤ x.block ∧ x.off = 0 ∧ ∃ cur, w.heap[x.block]? = some (.cells cur 109 (0, 0))) ∨ ∃ g cur, a = some ⟨g, 0, none⟩ ∧ lo ≤ g ∧ w.heap[g]? = some (.cells cur 109 (0, 0)) ∧ ∀ i, i < xs.length → cur[i]? = some (.int .u64 ((xs.getD i 0 : Nat) : Int))
theorem OwW.shape {w : World} {base : Nat} {v : Value} {xs : List Nat} (h : OwW w base v xs) : ∃ a c, v = .slice a xs.length c ∧ Nw w base a xs := by
 obtain ⟨h1, ⟨rfl, h2⟩ | ⟨g, cap, cur, rfl, hg, hh, hc1, hc2, hsz, hcur⟩⟩ := h
 ·have e := List.eq_nil_of_length_eq_zero h2
  subst e
  exact ⟨none, 0, rfl, .inl ⟨rfl, fun x e => by cases e⟩⟩
 ·refine ⟨some ⟨g, 0, none⟩, cap, rfl, .inr ⟨g, cur, rfl, hg, hh, fun i hi => ?_⟩⟩
  have h3 : (cur.toList.take (xs.length * 1))[i]? = (u64s xs).toList[i]? := by rw [hcur]
  rw [List.getElem?_take, if_pos (by omega)] at h3
  simp only [Array.getElem?_toList] at h3
  rw [h3, u64s_get _ _ hi]
theorem Own.nw {w : World} {lo g : Nat} {xs : List Nat} (h : Own w g xs) (hg : lo ≤ g) : Nw w lo (some ⟨g, 0, none⟩) xs := .inr ⟨g, u64s xs, rfl, hg, h, fun i hi => u64s_get _ _ hi⟩
theorem Nw.rd {w : World} {lo : Nat} {a : Option Addr} {xs : List Nat} (h : Nw w lo a xs) (hl : xs.length ≤ 1048576) (hx : ∀ x ∈ xs, x < 18446744073709551616) : Rd w a xs := by
 refine ⟨hl, hx, ?_⟩
 rcases h with ⟨h1, -⟩ | ⟨g, cur, h1, -, h3, h4⟩
 ·exact .inl h1
 ·refine .inr ⟨g, 0, h1, fun i hi => ?_⟩
  rw [Nat.zero_add, cell_of_row w g i cur _ _ h3]
  exact h4 i hi
theorem Nw.mono {w : World} {lo lo' : Nat} {a : Option Addr} {xs : List Nat} (h : Nw w lo a xs) (hl : lo' ≤ lo) : Nw w lo' a xs := by
 rcases h with ⟨h1, h2⟩ | ⟨g, cur, h1, h2, h3, h4⟩
 ·exact .inl ⟨h1, fun x e => ⟨Nat.le_trans hl (h2 x e).1, (h2 x e).2⟩⟩
 ·exact .inr ⟨g, cur, h1, Nat.le_trans hl h2, h3, h4⟩
theorem Nw.kept {w w' : World} {lo : Nat} {a : Option Addr} {xs : List Nat} (h : Nw w lo a xs) (hk : ∀ (k : Nat) (cur : Array Value), w.heap[k]? = some (Obj.cells cur 109 (0, 0)) → w'.heap[k]? = w.heap[k]?) : Nw w' lo a xs := by
 rcases h with ⟨h1, h2⟩ | ⟨g, cur, h1, h2, h3, h4⟩
 ·refine .inl ⟨h1, fun x e => ?_⟩
  obtain ⟨a, b, cur, c⟩ := h2 x e
  exact ⟨a, b, cur, by rw [hk _ _ c]; exact c⟩
 ·exact .inr ⟨g, cur, h1, h2, by rw [hk _ _ h3]; exact h3, h4⟩
theorem Nw.later {w w' : World} {lo : Nat} {a : Option Addr} {xs : List Nat} (h : Nw w lo a xs) (hb : Below w.heap.size w w') : Nw w' lo a xs := Nw.kept h fun k cur hc => hb.block k (lt_of_block hc)
theorem step_appWs (w : World) {ops : Array Oper} {o : Oper} {a : Act} {K : Act → World → Prop} {Q : Exit → Act → World → Prop} {E : Prop} (hgd : o.guard = none) (s x : Operand)
  (ho : o.op = .call { callee := .builtin .append, args := #[s, x], argTypes := #[78, 78] })
  (base : Nat) (v : Value) (bs ys : List Nat) (hs : a.eval s = v) (hown : OwW w base v bs) (b ob c : Nat) (hx : a.eval x = .slice (some ⟨b, ob, none⟩) ys.length c)
  (hc : ∀ i, i < ys.length → w.cell? ⟨b, ob + i, none⟩ = some (.int .u64 ((ys.getD i 0 : Nat) : Int))) (hl : bs.length + ys.length ≤ 4194304) (hbase : base ≤ w.heap.size)
  (h : ∀ v' w', OwW w' base v' (bs ++ ys) → w.grownBy w' v.ownBlock → K (a.put o.dst v') w') :
  if Region.wanted o (yielded ops a.tmps) = true then Oper.wp Tryz.prog o a w K Q else E := by
 have hw : Region.wanted o (yielded ops a.tmps) = true := by simp [Region.wanted, hgd]
 rw [if_pos hw]
 obtain ⟨i0, hi, hz0, hz1, hz2⟩ := info_parts Tryz.infoU64
 refine wp_append_own w s x 78 ho base 109 i0 (.int .u64 0) 1 8 Tryz.underlying78 hi hz0 hz1 hz2 rfl (by decide) v bs.length (u64s bs).toList hs hown ⟨b, ob, none⟩ ys.length c (u64s ys).toList hx (by simp [u64s]) ?_ ?_ ?_ ?_ hbase ?_
 ·intro j u hj
  have hj' : j < ys.length := by
   have := (List.getElem?_eq_some_iff.1 hj).1
   simpa [u64s] using this
  rw [Addr.add_lit, hc j hj']
  simp [u64s, hj'] at hj
  rw [← hj]
  simp [List.getD, hj']
 ·intro u hu
  simp [u64s] at hu
  obtain ⟨_, _, rfl⟩ := hu
  rfl
 ·unfold maxLen; omega
 ·omega
 ·intro v' w' h1 h2 _
  refine h v' w' ?_ h2
  unfold OwW
  simpa [u64s] using h1
theorem nw_set {w : World} {lo β : Nat} {a : Option Addr} {xs : List Nat} {cs : Array Value} {t : TypeId} (h : Nw w lo a xs) (hB : Bz w β cs t) (ht : t ≠ 109) (i : Nat) (v : Value) : Nw (w.setCell ⟨β, i, none⟩ v) lo a xs :=
 Nw.kept h fun k cur hc => heap_setCell_other _ _ _ _ (fun e => by
  simp only [] at e
  subst e
  unfold Bz at hB
  rw [hB] at hc
  cases hc
  exact ht rfl)
theorem nw_lt {w : World} {lo : Nat} {a : Option Addr} {xs : List Nat} (h : Nw w lo a xs) {p : Addr} (hp : a = some p) : lo ≤ p.block ∧ p.block < w.heap.size := by
 rcases h with ⟨h1, h2⟩ | ⟨g, cur, h1, h2, h3, h4⟩
 ·obtain ⟨k1, -, cur, k2⟩ := h2 p hp
  exact ⟨k1, lt_of_block k2⟩
 ·rw [h1] at hp
  cases hp
  exact ⟨h2, lt_of_block h3⟩

def DcAt (w : World) (b o : Nat) (d : Dc) : Prop := w.cell? ⟨b, o, none⟩ = some (.string d.1) ∧ w.cell? ⟨b, o + 1, none⟩ = some (.int .i64 d.2)
theorem DcAt.later {w w' : World} {b o : Nat} {d : Dc} (h : DcAt w b o d) (hb : Below w.heap.size w w') : DcAt w' b o d :=
 ⟨by rw [kcell hb _ _ (block_lt_of_cell h.1)]; exact h.1, by rw [kcell hb _ _ (block_lt_of_cell h.2)]; exact h.2⟩
def RdD (w : World) (a : Option Addr) (ds : List Dc) : Prop :=
 ds.length ≤ 1048576 ∧ (∀ d ∈ ds, in64 d.2 ∧ d.1.size ≤ 9223372036854775807) ∧ (ds = [] ∨ ∃ b o, a = some ⟨b, o, none⟩ ∧ ∀ i d, ds[i]? = some d → DcAt w b (o + i * 2) d)
theorem RdD.later {w w' : World} {a : Option Addr} {ds : List Dc} (h : RdD w a ds) (hb : Below w.heap.size w w') : RdD w' a ds := by
 refine ⟨h.1, h.2.1, ?_⟩
 rcases h.2.2 with h | ⟨b, o, rfl, hc⟩
 ·exact .inl h
 ·exact .inr ⟨b, o, rfl, fun i n hi => (hc i n hi).later hb⟩
theorem Tryz.infoDecl : (Tryz.prog.info? 94).map (fun i => (i.zero, i.size, i.bytes)) = some (some (.agg #[.string .empty, .int .i64 0]), 2, 24) := by kernel_rfl


structure Th where
 op : Int
 vr : Int
 a : Int
 b : Int
 bw : Int
 wa : Option Addr
 wn : Nat
 wc : Nat
 ka : Option Addr
 kn : Nat
 kc : Nat
def ThAt (w : World) (b o : Nat) (h : Th) : Prop :=
 w.cell? ⟨b, o, none⟩ = some (.int .i64 h.op) ∧ w.cell? ⟨b, o + 1, none⟩ = some (.int .i64 h.vr) ∧ w.cell? ⟨b, o + 2, none⟩ = some (.int .i64 h.a) ∧ w.cell? ⟨b, o + 3, none⟩ = some (.int .i64 h.b) ∧ w.cell? ⟨b, o + 4, none⟩ = some (.int .i64 h.bw) ∧ w.cell? ⟨b, o + 5, none⟩ = some (.slice h.wa h.wn h.wc) ∧ w.cell? ⟨b, o + 6, none⟩ = some (.slice h.ka h.kn h.kc)
theorem ThAt.later {w w' : World} {b o : Nat} {h : Th} (k : ThAt w b o h) (hb : Below w.heap.size w w') : ThAt w' b o h := by
 obtain ⟨f0, f1, f2, f3, f4, f5, f6⟩ := k
 have l := block_lt_of_cell f0
 exact ⟨by rw [kcell hb _ _ l]; exact f0, by rw [kcell hb _ _ l]; exact f1, by rw [kcell hb _ _ l]; exact f2, by rw [kcell hb _ _ l]; exact f3, by rw [kcell hb _ _ l]; exact f4, by rw [kcell hb _ _ l]; exact f5, by rw [kcell hb _ _ l]; exact f6⟩

structure Tc where
 op : Int
 vr : Int
 a : Int
 b : Int
 bw : Int
 ws : List Nat
 ks : List Int

structure Tg where
 ct : Tc
 wa : Option Addr
 wc : Nat
 ka : Option Addr
 kc : Nat
def Tg.hd (x : Tg) : Th := ⟨x.ct.op, x.ct.vr, x.ct.a, x.ct.b, x.ct.bw, x.wa, x.ct.ws.length, x.wc, x.ka, x.ct.ks.length, x.kc⟩
def TgAt (w : World) (b o : Nat) (x : Tg) : Prop := ThAt w b o x.hd ∧ Rd w x.wa x.ct.ws ∧ RdI w x.ka x.ct.ks ∧ in64 x.ct.op ∧ in64 x.ct.vr ∧ in64 x.ct.a ∧ in64 x.ct.b ∧ in64 x.ct.bw
theorem TgAt.later {w w' : World} {b o : Nat} {x : Tg} (h : TgAt w b o x) (hb : Below w.heap.size w w') : TgAt w' b o x := ⟨h.1.later hb, h.2.1.later hb, h.2.2.1.later hb, h.2.2.2⟩
def RdT (w : World) (a : Option Addr) (xs : List Tg) : Prop :=
 xs.length ≤ 1048576 ∧ (xs = [] ∨ ∃ b o, a = some ⟨b, o, none⟩ ∧ ∀ i n, xs[i]? = some n → TgAt w b (o + i * 7) n)
theorem RdT.later {w w' : World} {a : Option Addr} {xs : List Tg} (h : RdT w a xs) (hb : Below w.heap.size w w') : RdT w' a xs := by
 refine ⟨h.1, ?_⟩
 rcases h.2 with h | ⟨b, o, rfl, hc⟩
 ·exact .inl h
 ·exact .inr ⟨b, o, rfl, fun i n hi => (hc i n hi).later hb⟩


theorem Tryz.infoTNode : (Tryz.prog.info? 119).map (fun i => (i.zero, i.size, i.bytes)) = some (some (.agg #[.int .i64 0, .int .i64 0, .int .i64 0, .int .i64 0, .int .i64 0, .slice none 0 0, .slice none 0 0]), 7, 88) := by kernel_rfl

def OI (w : World) (B : Nat) (v : Value) (l : List Int) : Prop := w.ownsRow B 2 1 v l.length (i64s l).toList
theorem OI.move {w w' : World} {B : Nat} {v : Value} {l : List Int} (h : OI w B v l) (hk : ∀ b, v.ownBlock = some b → w'.heap[b]? = w.heap[b]?) : OI w' B v l := by
 refine ⟨h.1, ?_⟩
 rcases h.2 with h0 | ⟨g, cap, cur, rfl, hg, hh, r⟩
 ·exact .inl h0
 ·exact .inr ⟨g, cap, cur, rfl, hg, (hk g rfl).trans hh, r⟩
theorem OI.lt {w : World} {B : Nat} {v : Value} {l : List Int} (h : OI w B v l) {b : Nat} (hb : v.ownBlock = some b) : B ≤ b ∧ b < w.heap.size := by
 rcases h.2 with ⟨rfl, -⟩ | ⟨g, cap, cur, rfl, hg, hh, -⟩
 ·cases hb
 ·cases hb
  exact ⟨hg, lt_of_block hh⟩
theorem OI.later {w w' : World} {B : Nat} {v : Value} {l : List Int} (h : OI w B v l) (hb : Below w.heap.size w w') : OI w' B v l := h.move fun b hb' => hb.block b (h.lt hb').2
theorem OI.empty (w : World) (B : Nat) (h : B ≤ w.heap.size) : OI (w.alloc (.cells #[] 2)) B (.slice (some ⟨w.heap.size, 0, Option.none⟩) 0 0) [] := World.ownsRow_made w #[] 0 h (Nat.zero_le _) (by simp)
theorem OI.rd {w : World} {B : Nat} {v : Value} {l : List Int} (h : OI w B v l) (hl : l.length ≤ 1048576) (hx : ∀ x ∈ l, in64 x) : ∃ a c, v = .slice a l.length c ∧ RdI w a l := by
 rcases h.2 with ⟨rfl, h0⟩ | ⟨g, cap, cur, rfl, hg, hh, hc1, hc2, hsz, hcur⟩
 ·have e := List.eq_nil_of_length_eq_zero h0
  subst e
  exact ⟨none, 0, rfl, by simp, by simp, .inl rfl⟩
 ·refine ⟨some ⟨g, 0, none⟩, cap, rfl, hl, hx, .inr ⟨g, 0, rfl, fun i hi => ?_⟩⟩
  have h3 : (cur.toList.take (l.length * 1))[i]? = (i64s l).toList[i]? := by rw [hcur]
  rw [List.getElem?_take, if_pos (by omega)] at h3
  simp only [Array.getElem?_toList] at h3
  rw [Nat.zero_add, cell_of_row w g i cur _ _ hh, h3, i64s_get _ _ hi]
theorem wpList_appI {w : World} {ops : Array Oper} {rest : List Oper} {o : Oper} {a : Act} {Q : Exit → Act → World → Prop} (hgd : o.guard = none) (s x : Operand)
  (ho : o.op = .call { callee := .builtin .append, args := #[s, x], argTypes := #[39, 39] })
  (B : Nat) (v : Value) (l : List Int) (y : Int) (hs : a.eval s = v) (hown : OI w B v l) (gx c : Nat) (hx : a.eval x = .slice (some ⟨gx, 0, none⟩) 1 c)
  (h0 : w.cell? ⟨gx, 0, none⟩ = some (.int .i64 y)) (hl : l.length ≤ 1073741824) (hB : B ≤ w.heap.size)
  (h : ∀ g cap w', OI w' B (.slice (some ⟨g, 0, none⟩) (l.length + 1) cap) (l ++ [y]) → w.grownBy w' v.ownBlock → (v.ownBlock = some g ∨ g = w.heap.size) → wpList Tryz.prog ops Q rest (a.put o.dst (.slice (some ⟨g, 0, none⟩) (l.length + 1) cap)) w') : wpList Tryz.prog ops Q (o :: rest) a w := by
 obtain ⟨i0, hi, hz0, hz1, hz2⟩ := info_parts Tryz.infoI64
 refine wpList_append_lies w hgd s x 39 ho B 2 i0 _ 1 8 Tryz.underlying39 hi hz0 hz1 hz2 rfl (by decide) v l.length (i64s l).toList hs hown ⟨gx, 0, none⟩ 1 c [.int .i64 y] hx rfl ?_ ?_ (by decide) ?_ ?_ hB _ rfl ?_
 ·intro j u hj
  rw [Addr.add_lit]
  match j, hj with
  | 0, hj => simp at hj; subst hj; exact h0
  | j + 1, hj => simp at hj
 ·intro u hu
  simp at hu
  subst hu
  rfl
 ·unfold maxLen; omega
 ·omega
 ·intro g cap w' h1 h2 h3 _
  refine h g cap w' ?_ h2 h3
  unfold OI
  rw [List.length_append]
  simpa [i64s] using h1
theorem step_appI (w : World) {ops : Array Oper} {o : Oper} {a : Act} {K : Act → World → Prop} {Q : Exit → Act → World → Prop} {E : Prop} (hgd : o.guard = none) (s x : Operand)
  (ho : o.op = .call { callee := .builtin .append, args := #[s, x], argTypes := #[39, 39] })
  (B : Nat) (v : Value) (l : List Int) (y : Int) (hs : a.eval s = v) (hown : OI w B v l) (gx c : Nat) (hx : a.eval x = .slice (some ⟨gx, 0, none⟩) 1 c)
  (h0 : w.cell? ⟨gx, 0, none⟩ = some (.int .i64 y)) (hl : l.length ≤ 1073741824) (hB : B ≤ w.heap.size)
  (h : ∀ g cap w', OI w' B (.slice (some ⟨g, 0, none⟩) (l.length + 1) cap) (l ++ [y]) → w.grownBy w' v.ownBlock → (v.ownBlock = some g ∨ g = w.heap.size) → K (a.put o.dst (.slice (some ⟨g, 0, none⟩) (l.length + 1) cap)) w') :
  if Region.wanted o (yielded ops a.tmps) = true then Oper.wp Tryz.prog o a w K Q else E := by
 obtain ⟨i0, hi, hz0, hz1, hz2⟩ := info_parts Tryz.infoI64
 refine step_append_lies w hgd s x 39 ho B 2 i0 _ 1 8 Tryz.underlying39 hi hz0 hz1 hz2 rfl (by decide) v l.length (i64s l).toList hs hown ⟨gx, 0, none⟩ 1 c [.int .i64 y] hx rfl ?_ ?_ (by decide) ?_ ?_ hB _ rfl ?_
 ·intro j u hj
  rw [Addr.add_lit]
  match j, hj with
  | 0, hj => simp at hj; subst hj; exact h0
  | j + 1, hj => simp at hj
 ·intro u hu
  simp at hu
  subst hu
  rfl
 ·unfold maxLen; omega
 ·omega
 ·intro g cap w' h1 h2 h3 _
  refine h g cap w' ?_ h2 h3
  unfold OI
  rw [List.length_append]
  simpa [i64s] using h1

def Ni (w : World) (lo : Nat) (a : Option Addr) (xs : List Int) : Prop :=
 (xs = [] ∧ ∀ x, a = some x → lo ≤ x.block ∧ x.off = 0 ∧ ∃ cur, w.heap[x.block]? = some (.cells cur 2 (0, 0))) ∨ ∃ g cur, a = some ⟨g, 0, none⟩ ∧ lo ≤ g ∧ w.heap[g]? = some (.cells cur 2 (0, 0)) ∧ ∀ i, i < xs.length → cur[i]? = some (.int .i64 (xs.getD i 0))
theorem Ni.rd {w : World} {lo : Nat} {a : Option Addr} {xs : List Int} (h : Ni w lo a xs) (hl : xs.length ≤ 1048576) (hx : ∀ x ∈ xs, in64 x) : RdI w a xs := by
 refine ⟨hl, hx, ?_⟩
 rcases h with ⟨h1, -⟩ | ⟨g, cur, h1, -, h3, h4⟩
 ·exact .inl h1
 ·refine .inr ⟨g, 0, h1, fun i hi => ?_⟩
  rw [Nat.zero_add, cell_of_row w g i cur _ _ h3]
  exact h4 i hi
theorem Ni.mono {w : World} {lo lo' : Nat} {a : Option Addr} {xs : List Int} (h : Ni w lo a xs) (hl : lo' ≤ lo) : Ni w lo' a xs := by
 rcases h with ⟨h1, h2⟩ | ⟨g, cur, h1, h2, h3, h4⟩
 ·exact .inl ⟨h1, fun x e => ⟨Nat.le_trans hl (h2 x e).1, (h2 x e).2⟩⟩
 ·exact .inr ⟨g, cur, h1, Nat.le_trans hl h2, h3, h4⟩
theorem Ni.kept {w w' : World} {lo : Nat} {a : Option Addr} {xs : List Int} (h : Ni w lo a xs) (hk : ∀ (k : Nat) (cur : Array Value), w.heap[k]? = some (Obj.cells cur 2 (0, 0)) → w'.heap[k]? = w.heap[k]?) : Ni w' lo a xs := by
 rcases h with ⟨h1, h2⟩ | ⟨g, cur, h1, h2, h3, h4⟩
 ·refine .inl ⟨h1, fun x e => ?_⟩
  obtain ⟨a, b, cur, c⟩ := h2 x e
  exact ⟨a, b, cur, by rw [hk _ _ c]; exact c⟩
 ·exact .inr ⟨g, cur, h1, h2, by rw [hk _ _ h3]; exact h3, h4⟩
theorem Ni.later {w w' : World} {lo : Nat} {a : Option Addr} {xs : List Int} (h : Ni w lo a xs) (hb : Below w.heap.size w w') : Ni w' lo a xs := Ni.kept h fun k cur hc => hb.block k (lt_of_block hc)
theorem ni_lt {w : World} {lo : Nat} {a : Option Addr} {xs : List Int} (h : Ni w lo a xs) {p : Addr} (hp : a = some p) : lo ≤ p.block ∧ p.block < w.heap.size := by
 rcases h with ⟨h1, h2⟩ | ⟨g, cur, h1, h2, h3, h4⟩
 ·obtain ⟨k1, -, cur, k2⟩ := h2 p hp
  exact ⟨k1, lt_of_block k2⟩
 ·rw [h1] at hp
  cases hp
  exact ⟨h2, lt_of_block h3⟩
theorem OI.ni {w : World} {B : Nat} {v : Value} {xs : List Int} (h : OI w B v xs) : ∃ a c, v = .slice a xs.length c ∧ Ni w B a xs := by
 obtain ⟨h1, ⟨rfl, h2⟩ | ⟨g, cap, cur, rfl, hg, hh, hc1, hc2, hsz, hcur⟩⟩ := h
 ·have e := List.eq_nil_of_length_eq_zero h2
  subst e
  exact ⟨none, 0, rfl, .inl ⟨rfl, fun x e => by cases e⟩⟩
 ·refine ⟨some ⟨g, 0, none⟩, cap, rfl, .inr ⟨g, cur, rfl, hg, hh, fun i hi => ?_⟩⟩
  have h3 : (cur.toList.take (xs.length * 1))[i]? = (i64s xs).toList[i]? := by rw [hcur]
  rw [List.getElem?_take, if_pos (by omega)] at h3
  simp only [Array.getElem?_toList] at h3
  rw [h3, i64s_get _ _ hi]
def tgv (x : Tg) : List Value := [.int .i64 x.ct.op, .int .i64 x.ct.vr, .int .i64 x.ct.a, .int .i64 x.ct.b, .int .i64 x.ct.bw, .slice x.wa x.ct.ws.length x.wc, .slice x.ka x.ct.ks.length x.kc]
def tgc : List Tg → List Value
 | [] => []
 | x :: t => tgv x ++ tgc t
theorem tgc_len (l : List Tg) : (tgc l).length = l.length * 7 := by
 induction l with
 | nil => rfl
 | cons x t ih => simp [tgc, tgv, ih]; omega
theorem tgc_append (l m : List Tg) : tgc (l ++ m) = tgc l ++ tgc m := by
 induction l with
 | nil => rfl
 | cons x t ih => simp [tgc, ih]
theorem tgc_get : ∀ {l : List Tg} {i : Nat} {x : Tg} (j : Nat), j < 7 → l[i]? = some x → (tgc l)[i * 7 + j]? = (tgv x)[j]?
 | y :: t, 0, x, j, hj, h => by
  simp at h; subst h
  rw [Nat.zero_mul, Nat.zero_add, tgc, List.getElem?_append_left (by simpa [tgv] using hj)]
 | y :: t, i + 1, x, j, hj, h => by
  have := tgc_get (l := t) (i := i) (x := x) j hj (by simpa using h)
  rw [tgc, List.getElem?_append_right (by simp [tgv]; omega)]
  simp only [tgv, List.length_cons, List.length_nil]
  rw [show (i + 1) * 7 + j - (0 + 1 + 1 + 1 + 1 + 1 + 1 + 1) = i * 7 + j by omega]
  exact this
def OT (w : World) (B : Nat) (v : Value) (l : List Tg) : Prop := w.ownsRow B 119 7 v l.length (tgc l)
theorem OT.later {w w' : World} {B : Nat} {v : Value} {l : List Tg} (h : OT w B v l) (hb : Below w.heap.size w w') : OT w' B v l := World.ownsRow.kept (row := none) h ⟨hb.os, hb.tape, hb.output, hb.size, fun k hk _ => hb.block k hk⟩ (by
 cases h' : v.ownBlock with
 | none => exact .inl rfl
 | some k => exact .inr (by simp))
theorem OT.lt {w : World} {B : Nat} {v : Value} {l : List Tg} (h : OT w B v l) {b : Nat} (hb : v.ownBlock = some b) : B ≤ b ∧ b < w.heap.size := by
 rcases h.2 with ⟨rfl, -⟩ | ⟨g, cap, cur, rfl, hg, hh, -⟩
 ·cases hb
 ·cases hb
  exact ⟨hg, lt_of_block hh⟩
theorem OT.typed {w : World} {B : Nat} {v : Value} {l : List Tg} (h : OT w B v l) {b : Nat} (hb : v.ownBlock = some b) : ∃ cur, w.heap[b]? = some (.cells cur 119 (0, 0)) := by
 rcases h.2 with ⟨rfl, -⟩ | ⟨g, cap, cur, rfl, hg, hh, -⟩
 ·cases hb
 ·cases hb
  exact ⟨cur, hh⟩
theorem OT.move {w w' : World} {B : Nat} {v : Value} {l : List Tg} (h : OT w B v l) (hk : ∀ b, v.ownBlock = some b → w'.heap[b]? = w.heap[b]?) : OT w' B v l := by
 refine ⟨h.1, ?_⟩
 rcases h.2 with h0 | ⟨g, cap, cur, rfl, hg, hh, r⟩
 ·exact .inl h0
 ·exact .inr ⟨g, cap, cur, rfl, hg, (hk g rfl).trans hh, r⟩
theorem OT.form {w : World} {B : Nat} {v : Value} {l : List Tg} (h : OT w B v l) : ∃ a c, v = .slice a l.length c := by
 rcases h.2 with ⟨e, h0⟩ | ⟨g, cap, cur, e, -⟩
 ·exact ⟨none, 0, by rw [e, h0]⟩
 ·exact ⟨_, _, e⟩
theorem OT.empty (w : World) (B : Nat) (h : B ≤ w.heap.size) : OT (w.alloc (.cells #[] 119)) B (.slice (some ⟨w.heap.size, 0, Option.none⟩) 0 0) [] := World.ownsRow_made w #[] 0 h (Nat.zero_le _) (by simp)
theorem OT.at {w : World} {B : Nat} {v : Value} {l : List Tg} (h : OT w B v l) {i : Nat} {x : Tg} (hi : l[i]? = some x) : ∃ g c, v = .slice (some ⟨g, 0, none⟩) l.length c ∧ ThAt w g (i * 7) x.hd := by
 have hil := (List.getElem?_eq_some_iff.1 hi).1
 rcases h.2 with ⟨-, h0⟩ | ⟨g, cap, cur, rfl, hg, hh, hc1, hc2, hsz, hcur⟩
 ·omega
 ·refine ⟨g, cap, rfl, ?_⟩
  have key : ∀ j u, j < 7 → (tgv x)[j]? = some u → w.cell? ⟨g, i * 7 + j, none⟩ = some u := fun j u hj hu => by
   have e := tgc_get j hj hi
   rw [hu, ← hcur, List.getElem?_take, if_pos (by omega)] at e
   simp only [Array.getElem?_toList] at e
   rw [cell_of_row w g _ cur _ _ hh]
   exact e
  exact ⟨key 0 _ (by omega) rfl, key 1 _ (by omega) rfl, key 2 _ (by omega) rfl, key 3 _ (by omega) rfl, key 4 _ (by omega) rfl, key 5 _ (by omega) rfl, key 6 _ (by omega) rfl⟩
def okT (x : Tc) : Prop := in64 x.op ∧ in64 x.vr ∧ in64 x.a ∧ in64 x.b ∧ in64 x.bw ∧ x.ws.length ≤ 1048576 ∧ (∀ y ∈ x.ws, y < 18446744073709551616) ∧ x.ks.length ≤ 1048576 ∧ ∀ y ∈ x.ks, in64 y
theorem step_appT7 (w : World) {ops : Array Oper} {o : Oper} {a : Act} {K : Act → World → Prop} {Q : Exit → Act → World → Prop} {E : Prop} (hgd : o.guard = none) (s x : Operand)
  (ho : o.op = .call { callee := .builtin .append, args := #[s, x], argTypes := #[26, 26] })
  (B : Nat) (v : Value) (l : List Tg) (y : Tg) (hs : a.eval s = v) (hown : OT w B v l) (gx c : Nat) (hx : a.eval x = .slice (some ⟨gx, 0, none⟩) 1 c)
  (h0 : ThAt w gx 0 y.hd) (hl : l.length ≤ 1048576) (hB : B ≤ w.heap.size)
  (h : ∀ g cap w', OT w' B (.slice (some ⟨g, 0, none⟩) (l.length + 1) cap) (l ++ [y]) → w.grownBy w' v.ownBlock → (v.ownBlock = some g ∨ g = w.heap.size) → K (a.put o.dst (.slice (some ⟨g, 0, none⟩) (l.length + 1) cap)) w') :
  if Region.wanted o (yielded ops a.tmps) = true then Oper.wp Tryz.prog o a w K Q else E := by
 obtain ⟨i0, hi, hz0, hz1, hz2⟩ := info_parts Tryz.infoTNode
 refine step_append_lies w hgd s x 26 ho B 119 i0 _ 7 88 Tryz.underlying26 hi hz0 hz1 hz2 rfl (by decide) v l.length (tgc l) hs hown ⟨gx, 0, none⟩ 1 c (tgv y) hx rfl ?_ ?_ (by decide) ?_ ?_ hB _ rfl ?_
 ·intro j u hj
  rw [Addr.add_lit]
  obtain ⟨f0, f1, f2, f3, f4, f5, f6⟩ := h0
  match j, hj with
  | 0, hj => simp [tgv] at hj; subst hj; exact f0
  | 1, hj => simp [tgv] at hj; subst hj; exact f1
  | 2, hj => simp [tgv] at hj; subst hj; exact f2
  | 3, hj => simp [tgv] at hj; subst hj; exact f3
  | 4, hj => simp [tgv] at hj; subst hj; exact f4
  | 5, hj => simp [tgv] at hj; subst hj; exact f5
  | 6, hj => simp [tgv] at hj; subst hj; exact f6
  | j + 7, hj => simp [tgv] at hj
 ·intro u hu
  simp [tgv] at hu
  rcases hu with rfl | rfl | rfl | rfl | rfl | rfl | rfl <;> rfl
 ·unfold maxLen; omega
 ·omega
 ·intro g cap w' h1 h2 h3 _
  refine h g cap w' ?_ h2 h3
  unfold OT
  rw [tgc_append, List.length_append]
  simpa [tgc] using h1
theorem wpList_appT7 {w : World} {ops : Array Oper} {rest : List Oper} {o : Oper} {a : Act} {Q : Exit → Act → World → Prop} (hgd : o.guard = none) (s x : Operand)
  (ho : o.op = .call { callee := .builtin .append, args := #[s, x], argTypes := #[26, 26] })
  (B : Nat) (v : Value) (l : List Tg) (y : Tg) (hs : a.eval s = v) (hown : OT w B v l) (gx c : Nat) (hx : a.eval x = .slice (some ⟨gx, 0, none⟩) 1 c)
  (h0 : ThAt w gx 0 y.hd) (hl : l.length ≤ 1048576) (hB : B ≤ w.heap.size)
  (h : ∀ g cap w', OT w' B (.slice (some ⟨g, 0, none⟩) (l.length + 1) cap) (l ++ [y]) → w.grownBy w' v.ownBlock → (v.ownBlock = some g ∨ g = w.heap.size) → wpList Tryz.prog ops Q rest (a.put o.dst (.slice (some ⟨g, 0, none⟩) (l.length + 1) cap)) w') : wpList Tryz.prog ops Q (o :: rest) a w := by
 obtain ⟨i0, hi, hz0, hz1, hz2⟩ := info_parts Tryz.infoTNode
 refine wpList_append_lies w hgd s x 26 ho B 119 i0 _ 7 88 Tryz.underlying26 hi hz0 hz1 hz2 rfl (by decide) v l.length (tgc l) hs hown ⟨gx, 0, none⟩ 1 c (tgv y) hx rfl ?_ ?_ (by decide) ?_ ?_ hB _ rfl ?_
 ·intro j u hj
  rw [Addr.add_lit]
  obtain ⟨f0, f1, f2, f3, f4, f5, f6⟩ := h0
  match j, hj with
  | 0, hj => simp [tgv] at hj; subst hj; exact f0
  | 1, hj => simp [tgv] at hj; subst hj; exact f1
  | 2, hj => simp [tgv] at hj; subst hj; exact f2
  | 3, hj => simp [tgv] at hj; subst hj; exact f3
  | 4, hj => simp [tgv] at hj; subst hj; exact f4
  | 5, hj => simp [tgv] at hj; subst hj; exact f5
  | 6, hj => simp [tgv] at hj; subst hj; exact f6
  | j + 7, hj => simp [tgv] at hj
 ·intro u hu
  simp [tgv] at hu
  rcases hu with rfl | rfl | rfl | rfl | rfl | rfl | rfl <;> rfl
 ·unfold maxLen; omega
 ·omega
 ·intro g cap w' h1 h2 h3 _
  refine h g cap w' ?_ h2 h3
  unfold OT
  rw [tgc_append, List.length_append]
  simpa [tgc] using h1
theorem nw_rowT {w w' : World} {B C : Nat} {v : Value} {l : List Tg} {a : Option Addr} {xs : List Nat} (h : Nw w C a xs) (ho : OT w B v l) (hg : w.grownBy w' v.ownBlock) : Nw w' C a xs :=
 h.kept fun k cur hc => hg.block k (lt_of_block hc) (fun e => by
  obtain ⟨cur', h'⟩ := ho.typed e.symm
  rw [hc] at h'
  cases h')
theorem ni_rowT {w w' : World} {B C : Nat} {v : Value} {l : List Tg} {a : Option Addr} {xs : List Int} (h : Ni w C a xs) (ho : OT w B v l) (hg : w.grownBy w' v.ownBlock) : Ni w' C a xs :=
 h.kept fun k cur hc => hg.block k (lt_of_block hc) (fun e => by
  obtain ⟨cur', h'⟩ := ho.typed e.symm
  rw [hc] at h'
  cases h')
def mvT (to : List Int) (n : Tc) : Tc := ⟨n.op, n.vr, n.a, n.b, n.bw, n.ws, n.ks.map fun k => to.getD k.toNat 0⟩
theorem RdT.ok {w : World} {a : Option Addr} {xs : List Tg} (h : RdT w a xs) : ∀ n ∈ xs.map Tg.ct, okT n := by
 intro n hn
 obtain ⟨x, hx, rfl⟩ := List.mem_map.1 hn
 obtain ⟨i, hi⟩ := List.mem_iff_getElem?.1 hx
 rcases h.2 with h0 | ⟨b, o, -, hc⟩
 ·rw [h0] at hx; cases hx
 ·obtain ⟨-, h1, h2, k1, k2, k3, k4, k5⟩ := hc i x hi
  exact ⟨k1, k2, k3, k4, k5, h1.1, h1.2.1, h2.1, h2.2.1⟩

theorem rd_cellsW {w : World} {ad : Addr} {ys : List Nat} (hr : Rd w (some ad) ys) : ∀ j u, (u64s ys).toList[j]? = some u → w.cell? (ad.add j) = some u := by
 intro j u hj
 have hj' : j < ys.length := by
  have := (List.getElem?_eq_some_iff.1 hj).1
  simpa [u64s] using this
 obtain ⟨-, -, h | ⟨b, o, e, hc⟩⟩ := hr
 ·rw [h] at hj'; simp at hj'
 ·cases e
  rw [Addr.add_lit, hc j hj']
  simp [u64s, hj'] at hj
  rw [← hj]
  simp [List.getD, hj']
theorem rd_noneW {w : World} {ys : List Nat} (hr : Rd w none ys) : ys = [] := by
 obtain ⟨-, -, h | ⟨b, o, e, hc⟩⟩ := hr
 ·exact h
 ·cases e
theorem wp_appWr (w : World) {o : Oper} {a : Act} {K : Act → World → Prop} {Q : Exit → Act → World → Prop} (s x : Operand)
  (ho : o.op = .call { callee := .builtin .append, args := #[s, x], argTypes := #[78, 78] })
  (base : Nat) (v : Value) (bs ys : List Nat) (hs : a.eval s = v) (hown : OwW w base v bs) (xa : Option Addr) (c : Nat) (hx : a.eval x = .slice xa ys.length c) (hc0 : xa = none → c = 0)
  (hr : Rd w xa ys) (hl : bs.length + ys.length ≤ 4194304) (hbase : base ≤ w.heap.size)
  (h : ∀ v' w', OwW w' base v' (bs ++ ys) → w.grownBy w' v.ownBlock → K (a.put o.dst v') w') : Oper.wp Tryz.prog o a w K Q := by
 obtain ⟨i0, hi, hz0, hz1, hz2⟩ := info_parts Tryz.infoU64
 cases xa with
 | none =>
  have e := rd_noneW hr
  subst e
  have ec := hc0 rfl
  subst ec
  have hr9 := run_append_owned_none (P := Tryz.prog) (w := w) base 78 o.type 109 i0 1 Tryz.underlying78 hi v bs.length (u64s bs).toList hown
  unfold Oper.wp execOp
  simp only [ho, resolve, invoke, builtin, Sem.run_bind, Sem.run_pure, Result.andThen_ok, List.map_toArray, List.map_cons, List.map_nil, hs, hx, List.length_nil, hr9]
  exact h v w (by rw [List.append_nil]; exact hown) (World.grownBy.refl w _)
 | some ad =>
  refine wp_append_own w s x 78 ho base 109 i0 (.int .u64 0) 1 8 Tryz.underlying78 hi hz0 hz1 hz2 rfl (by decide) v bs.length (u64s bs).toList hs hown ad ys.length c (u64s ys).toList hx (by simp [u64s]) (rd_cellsW hr) ?_ ?_ ?_ hbase ?_
  ·intro u hu
   simp [u64s] at hu
   obtain ⟨_, _, rfl⟩ := hu
   rfl
  ·unfold maxLen; omega
  ·omega
  ·intro v' w' h1 h2 _
   refine h v' w' ?_ h2
   unfold OwW
   simpa [u64s] using h1
theorem step_appWr (w : World) {ops : Array Oper} {o : Oper} {a : Act} {K : Act → World → Prop} {Q : Exit → Act → World → Prop} {E : Prop} (hgd : o.guard = none) (s x : Operand)
  (ho : o.op = .call { callee := .builtin .append, args := #[s, x], argTypes := #[78, 78] })
  (base : Nat) (v : Value) (bs ys : List Nat) (hs : a.eval s = v) (hown : OwW w base v bs) (xa : Option Addr) (c : Nat) (hx : a.eval x = .slice xa ys.length c) (hc0 : xa = none → c = 0)
  (hr : Rd w xa ys) (hl : bs.length + ys.length ≤ 4194304) (hbase : base ≤ w.heap.size)
  (h : ∀ v' w', OwW w' base v' (bs ++ ys) → w.grownBy w' v.ownBlock → K (a.put o.dst v') w') :
  if Region.wanted o (yielded ops a.tmps) = true then Oper.wp Tryz.prog o a w K Q else E := by
 have hw : Region.wanted o (yielded ops a.tmps) = true := by simp [Region.wanted, hgd]
 rw [if_pos hw]
 exact wp_appWr w s x ho base v bs ys hs hown xa c hx hc0 hr hl hbase h
theorem rd_cellsI {w : World} {ad : Addr} {ys : List Int} (hr : RdI w (some ad) ys) : ∀ j u, (i64s ys).toList[j]? = some u → w.cell? (ad.add j) = some u := by
 intro j u hj
 have hj' : j < ys.length := by
  have := (List.getElem?_eq_some_iff.1 hj).1
  simpa [i64s] using this
 obtain ⟨-, -, h | ⟨b, o, e, hc⟩⟩ := hr
 ·rw [h] at hj'; simp at hj'
 ·cases e
  rw [Addr.add_lit, hc j hj']
  simp [i64s, hj'] at hj
  rw [← hj]
  simp [List.getD, hj']
theorem rd_noneI {w : World} {ys : List Int} (hr : RdI w none ys) : ys = [] := by
 obtain ⟨-, -, h | ⟨b, o, e, hc⟩⟩ := hr
 ·exact h
 ·cases e
theorem wp_appIr (w : World) {o : Oper} {a : Act} {K : Act → World → Prop} {Q : Exit → Act → World → Prop} (s x : Operand)
  (ho : o.op = .call { callee := .builtin .append, args := #[s, x], argTypes := #[39, 39] })
  (base : Nat) (v : Value) (bs ys : List Int) (hs : a.eval s = v) (hown : OI w base v bs) (xa : Option Addr) (c : Nat) (hx : a.eval x = .slice xa ys.length c) (hc0 : xa = none → c = 0)
  (hr : RdI w xa ys) (hl : bs.length + ys.length ≤ 4194304) (hbase : base ≤ w.heap.size)
  (h : ∀ v' w', OI w' base v' (bs ++ ys) → w.grownBy w' v.ownBlock → K (a.put o.dst v') w') : Oper.wp Tryz.prog o a w K Q := by
 obtain ⟨i0, hi, hz0, hz1, hz2⟩ := info_parts Tryz.infoI64
 cases xa with
 | none =>
  have e := rd_noneI hr
  subst e
  have ec := hc0 rfl
  subst ec
  have hr9 := run_append_owned_none (P := Tryz.prog) (w := w) base 39 o.type 2 i0 1 Tryz.underlying39 hi v bs.length (i64s bs).toList hown
  unfold Oper.wp execOp
  simp only [ho, resolve, invoke, builtin, Sem.run_bind, Sem.run_pure, Result.andThen_ok, List.map_toArray, List.map_cons, List.map_nil, hs, hx, List.length_nil, hr9]
  exact h v w (by rw [List.append_nil]; exact hown) (World.grownBy.refl w _)
 | some ad =>
  refine wp_append_own w s x 39 ho base 2 i0 (.int .i64 0) 1 8 Tryz.underlying39 hi hz0 hz1 hz2 rfl (by decide) v bs.length (i64s bs).toList hs hown ad ys.length c (i64s ys).toList hx (by simp [i64s]) (rd_cellsI hr) ?_ ?_ ?_ hbase ?_
  ·intro u hu
   simp [i64s] at hu
   obtain ⟨_, _, rfl⟩ := hu
   rfl
  ·unfold maxLen; omega
  ·omega
  ·intro v' w' h1 h2 _
   refine h v' w' ?_ h2
   unfold OI
   simpa [i64s] using h1
theorem wpList_appIr (w : World) {ops : Array Oper} {rest : List Oper} {o : Oper} {a : Act} {Q : Exit → Act → World → Prop} (hgd : o.guard = none) (s x : Operand)
  (ho : o.op = .call { callee := .builtin .append, args := #[s, x], argTypes := #[39, 39] })
  (base : Nat) (v : Value) (bs ys : List Int) (hs : a.eval s = v) (hown : OI w base v bs) (xa : Option Addr) (c : Nat) (hx : a.eval x = .slice xa ys.length c) (hc0 : xa = none → c = 0)
  (hr : RdI w xa ys) (hl : bs.length + ys.length ≤ 4194304) (hbase : base ≤ w.heap.size)
  (h : ∀ v' w', OI w' base v' (bs ++ ys) → w.grownBy w' v.ownBlock → wpList Tryz.prog ops Q rest (a.put o.dst v') w') : wpList Tryz.prog ops Q (o :: rest) a w :=
 wpList_plain hgd fun _ hK => wp_appIr w s x ho base v bs ys hs hown xa c hx hc0 hr hl hbase fun v' w' h2 h3 => hK _ _ (h v' w' h2 h3)

theorem grow_setT {w wr : World} {g : Nat} (h : w.grownBy wr (some g)) (i : Nat) (v : Value) : w.grownBy (wr.setCell ⟨g, i, none⟩ v) (some g) :=
 ⟨h.os, h.tape, h.output, by simpa using h.size, fun k hk hne => by rw [heap_setCell_other wr ⟨g, i, none⟩ k v (fun e => hne (by simp [e]))]; exact h.block k hk hne⟩
theorem letB_cases (c : Nat) : (c < 97 ∧ letB c = false) ∨ (97 ≤ c ∧ 122 < c ∧ letB c = false) ∨ (97 ≤ c ∧ c ≤ 122 ∧ letB c = true) := by
 unfold letB
 by_cases h1 : 97 ≤ c
 ·by_cases h2 : c ≤ 122
  ·exact .inr (.inr ⟨h1, h2, by simp [h1, h2]⟩)
  ·exact .inr (.inl ⟨h1, by omega, by simp [h2]⟩)
 ·exact .inl ⟨by omega, by simp [h1]⟩
theorem digB_cases (c : Nat) : (c < 48 ∧ digB c = false) ∨ (48 ≤ c ∧ 57 < c ∧ digB c = false) ∨ (48 ≤ c ∧ c ≤ 57 ∧ digB c = true) := by
 unfold digB
 by_cases h1 : 48 ≤ c
 ·by_cases h2 : c ≤ 57
  ·exact .inr (.inr ⟨h1, h2, by simp [h1, h2]⟩)
  ·exact .inr (.inl ⟨h1, by omega, by simp [h2]⟩)
 ·exact .inl ⟨by omega, by simp [h1]⟩
theorem letterByte_any (c : Nat) (hc : c < 256) (w : World) :
  Calls Tryz.prog 127 #[.int .u8 (c : Int)] w fun e w' => e = .returned (.bool (letB c)) ∧ w' = w := by
 rcases letB_cases c with ⟨h1, h⟩ | ⟨h0, h1, h⟩ | ⟨h0, h1, h⟩
 all_goals
  rw [h]
  clear h
  go_enter Tryz.func127, Tryz.ntmps127
  go_wp2
  go_ret
  first | exact ⟨rfl, rfl⟩ | exact ⟨ret_bool (by simp; omega), rfl⟩
theorem digitByte_any (c : Nat) (hc : c < 256) (w : World) :
  Calls Tryz.prog 128 #[.int .u8 (c : Int)] w fun e w' => e = .returned (.bool (digB c)) ∧ w' = w := by
 rcases digB_cases c with ⟨h1, h⟩ | ⟨h0, h1, h⟩ | ⟨h0, h1, h⟩
 all_goals
  rw [h]
  clear h
  go_enter Tryz.func128, Tryz.ntmps128
  go_wp2
  go_ret
  first | exact ⟨rfl, rfl⟩ | exact ⟨ret_bool (by simp; omega), rfl⟩
theorem l1Digit_any (c : Nat) (hc : c < 256) (w : World) :
  Calls Tryz.prog 123 #[.int .u8 (c : Int)] w fun e w' => e = .returned (.bool (digB c)) ∧ w' = w := by
 rcases digB_cases c with ⟨h1, h⟩ | ⟨h0, h1, h⟩ | ⟨h0, h1, h⟩
 all_goals
  rw [h]
  clear h
  go_enter Tryz.func123, Tryz.ntmps123
  go_wp2
  go_ret
  first | exact ⟨rfl, rfl⟩ | exact ⟨ret_bool (by simp; omega), rfl⟩
theorem nmOk_size {s : ByteArray} (h : s.size < 1 ∨ 12 < s.size) : nmOk s = false := by
 unfold nmOk
 rcases h with h | h
 ·rw [show decide (1 ≤ s.size) = false from decide_eq_false (by omega)]; rfl
 ·rw [show decide (s.size ≤ 12) = false from decide_eq_false (by omega)]; simp
theorem nmOk_first {s : ByteArray} (h : letB (bn s 0) = false) : nmOk s = false := by simp [nmOk, h]
theorem nmOk_bad {s : ByteArray} {i : Nat} (hi : i < s.size) (h : nmB (bn s i) = false) : nmOk s = false := by
 have : allNm s = false := by
  rw [Bool.eq_false_iff]; intro h'
  have := (allNm_iff s).1 h' i hi
  rw [h] at this; cases this
 simp [nmOk, this]
theorem nmOk_all {s : ByteArray} (h1 : 1 ≤ s.size) (h2 : s.size ≤ 12) (h3 : letB (bn s 0) = true) (h : ∀ i, i < s.size → nmB (bn s i) = true) : nmOk s = true := by
 have := (allNm_iff s).2 h
 simp [nmOk, this, h1, h2, h3]
theorem nameOk_any (s : ByteArray) (hs : s.size ≤ 9223372036854775807) (w : World) :
  Calls Tryz.prog 101 #[.string s] w fun e w' => e = .returned (.bool (nmOk s)) ∧ w' = w := by
 have HB : Hid _ := get_bn s
 by_cases h1 : s.size < 1
 ·rw [nmOk_size (.inl h1)]
  go_enter Tryz.func101, Tryz.ntmps101
  go_wp2_with fail
  go_ret
  exact ⟨rfl, rfl⟩
 by_cases h2 : 12 < s.size
 ·rw [nmOk_size (.inr h2)]
  go_enter Tryz.func101, Tryz.ntmps101
  go_wp2_with fail
  go_ret
  exact ⟨rfl, rfl⟩
 have h0 : 0 < s.size := by omega
 have e1 := HB.out 0 h0
 have hL : ∀ u, Calls Tryz.prog 127 #[.int .u8 ((s[0]'h0).toNat : Int)] u fun e w' => e = .returned (.bool (letB (bn s 0))) ∧ w' = u := fun u => by
  have := letterByte_any (bn s 0) (bn_lt s 0) u
  rwa [← e1] at this ⊢
 have HL := kide hL
 clear hL e1
 by_cases h3 : letB (bn s 0) = true
 ·rw [h3] at HL
  have HO := kide (fun h => nmOk_all (s := s) (by omega) (by omega) h3 h)
  have HN := kide (fun i hi h => nmOk_bad (s := s) (i := i) hi h)
  generalize nmOk s = R at *
  clear h3
  go_enter Tryz.func101, Tryz.ntmps101
  go_wp2_with (go_at_call 127; refine Calls.mono (HL.out _) ?_; rintro e w ⟨rfl, rfl⟩)
  clear HL
  go_loop [20] (fun q => ∃ k : Nat, k ≤ s.size ∧ q = .int .i64 (k : Int) ∧ ∀ i, i < k → nmB (bn s i) = true) (fun q => s.size - (intOf q).toNat)
  case atStart => exact ⟨0, Nat.zero_le _, rfl, fun i h => by omega⟩
  case round =>
   obtain ⟨k, hk2, rfl, hr⟩ := hrel
   have HK : Hid _ := hr
   clear hr
   by_cases hlt : k < s.size
   ·have e1 := HB.out k hlt
    have hA : ∀ u, Calls Tryz.prog 127 #[.int .u8 ((s[k]'hlt).toNat : Int)] u fun e w' => e = .returned (.bool (letB (bn s k))) ∧ w' = u := fun u => by
     have := letterByte_any (bn s k) (bn_lt s k) u
     rwa [← e1] at this ⊢
    have hD : ∀ u, Calls Tryz.prog 128 #[.int .u8 ((s[k]'hlt).toNat : Int)] u fun e w' => e = .returned (.bool (digB (bn s k))) ∧ w' = u := fun u => by
     have := digitByte_any (bn s k) (bn_lt s k) u
     rwa [← e1] at this ⊢
    have HA := kide hA
    have HD := kide hD
    have H1 : Hid (letB (bn s k) = true → nmB (bn s k) = true) := fun h => by simp [nmB, h]
    have H2 : Hid (digB (bn s k) = true → nmB (bn s k) = true) := fun h => by simp [nmB, h]
    have H3 : Hid (letB (bn s k) = false → digB (bn s k) = false → R = false) := fun h h' => HN.out k hlt (by simp [nmB, h, h'])
    clear hA hD e1
    generalize letB (bn s k) = r at *
    generalize digB (bn s k) = r2 at *
    have hki : (k : Int) < (s.size : Int) := by omega
    cases r with
    | true =>
     go_wp2_with (go_at_call 127; refine Calls.mono (HA.out _) ?_; rintro e w ⟨rfl, rfl⟩)
     go_round
     case rel =>
      refine ⟨k + 1, by omega, by go_num, fun i hi => ?_⟩
      by_cases hik : i = k
      ·rw [hik]; exact H1.out (by simp)
      ·exact HK.out i (by omega)
     case measure => simp [intOf]; omega
    | false =>
     cases r2 with
     | true =>
      go_wp2_with (first | (go_at_call 127; refine Calls.mono (HA.out _) ?_; rintro e w ⟨rfl, rfl⟩) | (go_at_call 128; refine Calls.mono (HD.out _) ?_; rintro e w ⟨rfl, rfl⟩))
      go_round
      case rel =>
       refine ⟨k + 1, by omega, by go_num, fun i hi => ?_⟩
       by_cases hik : i = k
       ·rw [hik]; exact H2.out (by simp)
       ·exact HK.out i (by omega)
      case measure => simp [intOf]; omega
     | false =>
      go_wp2_with (first | (go_at_call 127; refine Calls.mono (HA.out _) ?_; rintro e w ⟨rfl, rfl⟩) | (go_at_call 128; refine Calls.mono (HD.out _) ?_; rintro e w ⟨rfl, rfl⟩))
      go_ret
      exact ⟨ret_bool (H3.out (by simp) (by simp)).symm, rfl⟩
   ·go_wp2_with fail
    go_ret
    exact ⟨ret_bool (HO.out fun i hi => HK.out i (by omega)).symm, rfl⟩
 ·rw [Bool.not_eq_true] at h3
  rw [h3] at HL
  rw [nmOk_first h3]
  clear h3
  go_enter Tryz.func101, Tryz.ntmps101
  go_wp2_with (go_at_call 127; refine Calls.mono (HL.out _) ?_; rintro e w1 ⟨rfl, rfl⟩)
  go_ret
  exact ⟨rfl, rfl⟩
theorem l1Name_any (s : ByteArray) (hs : s.size ≤ 9223372036854775807) (w : World) :
  Calls Tryz.prog 93 #[.string s] w fun e w' => e = .returned (.bool (nmOk s)) ∧ w' = w := by
 have HB : Hid _ := get_bn s
 by_cases h1 : s.size < 1
 ·rw [nmOk_size (.inl h1)]
  go_enter Tryz.func93, Tryz.ntmps93
  go_wp2_with fail
  go_ret
  exact ⟨rfl, rfl⟩
 by_cases h2 : 12 < s.size
 ·rw [nmOk_size (.inr h2)]
  go_enter Tryz.func93, Tryz.ntmps93
  go_wp2_with fail
  go_ret
  exact ⟨rfl, rfl⟩
 have h0 : 0 < s.size := by omega
 have e1 := HB.out 0 h0
 have hL : ∀ u, Calls Tryz.prog 123 #[.int .u8 ((s[0]'h0).toNat : Int)] u fun e w' => e = .returned (.bool (digB (bn s 0))) ∧ w' = u := fun u => by
  have := l1Digit_any (bn s 0) (bn_lt s 0) u
  rwa [← e1] at this ⊢
 have HL := kide hL
 clear hL e1
 by_cases h3 : digB (bn s 0) = true
 ·rw [h3] at HL
  have h4 : letB (bn s 0) = false := by
   simp [digB] at h3
   simp [letB]; omega
  rw [nmOk_first h4]
  clear h3 h4
  go_enter Tryz.func93, Tryz.ntmps93
  go_wp2_with (go_at_call 123; refine Calls.mono (HL.out _) ?_; rintro e w1 ⟨rfl, rfl⟩)
  go_ret
  exact ⟨rfl, rfl⟩
 ·rw [Bool.not_eq_true] at h3
  rw [h3] at HL
  have HO : Hid ((∀ i, i < s.size → nmB (bn s i) = true) → nmOk s = true) := fun h => nmOk_all (s := s) (by omega) (by omega) (by have := h 0 h0; simpa [nmB, h3] using this) h
  have HN := kide (fun i hi h => nmOk_bad (s := s) (i := i) hi h)
  generalize nmOk s = R at *
  clear h3
  go_enter Tryz.func93, Tryz.ntmps93
  go_wp2_with (go_at_call 123; refine Calls.mono (HL.out _) ?_; rintro e w ⟨rfl, rfl⟩)
  clear HL
  go_loop [3] (fun q => ∃ k : Nat, k ≤ s.size ∧ q = .int .i64 (k : Int) ∧ ∀ i, i < k → nmB (bn s i) = true) (fun q => s.size - (intOf q).toNat)
  case atStart => exact ⟨0, Nat.zero_le _, rfl, fun i h => by omega⟩
  case round =>
   obtain ⟨k, hk2, rfl, hr⟩ := hrel
   have HK : Hid _ := hr
   clear hr
   by_cases hlt : k < s.size
   ·have e1 := HB.out k hlt
    have hD : ∀ u, Calls Tryz.prog 123 #[.int .u8 ((s[k]'hlt).toNat : Int)] u fun e w' => e = .returned (.bool (digB (bn s k))) ∧ w' = u := fun u => by
     have := l1Digit_any (bn s k) (bn_lt s k) u
     rwa [← e1] at this ⊢
    have HD := kide hD
    have hci := letB_cases (bn s k)
    rw [← e1] at hci
    have H1 : Hid (letB (bn s k) = true → nmB (bn s k) = true) := fun h => by simp [nmB, h]
    have H2 : Hid (digB (bn s k) = true → nmB (bn s k) = true) := fun h => by simp [nmB, h]
    have H3 : Hid (letB (bn s k) = false → digB (bn s k) = false → R = false) := fun h h' => HN.out k hlt (by simp [nmB, h, h'])
    have E1 := kide e1
    clear hD e1
    generalize digB (bn s k) = r2 at *
    have hki : (k : Int) < (s.size : Int) := by omega
    cases r2 with
    | true =>
     go_wp2_with (go_at_call 123; refine Calls.mono (HD.out _) ?_; rintro e w ⟨rfl, rfl⟩)
     go_round
     case rel =>
      refine ⟨k + 1, by omega, by go_num, fun i hi => ?_⟩
      by_cases hik : i = k
      ·rw [hik]; exact H2.out (by simp)
      ·exact HK.out i (by omega)
     case measure => simp [intOf]; omega
    | false =>
     rcases hci with ⟨h1, h⟩ | ⟨h0, h1, h⟩ | ⟨h0, h1, h⟩
     ·have H := kide (H3.out (by rw [← E1.out]; exact h) (by simp))
      clear h H1 H3
      go_wp2_with (go_at_call 123; refine Calls.mono (HD.out _) ?_; rintro e w ⟨rfl, rfl⟩)
      go_ret
      exact ⟨ret_bool H.out.symm, rfl⟩
     ·have H := kide (H3.out (by rw [← E1.out]; exact h) (by simp))
      clear h H1 H3
      go_wp2_with (go_at_call 123; refine Calls.mono (HD.out _) ?_; rintro e w ⟨rfl, rfl⟩)
      go_ret
      exact ⟨ret_bool H.out.symm, rfl⟩
     ·have H := kide (H1.out (by rw [← E1.out]; exact h))
      clear h H1 H3
      go_wp2_with (go_at_call 123; refine Calls.mono (HD.out _) ?_; rintro e w ⟨rfl, rfl⟩)
      go_round
      case rel =>
       refine ⟨k + 1, by omega, by go_num, fun i hi => ?_⟩
       by_cases hik : i = k
       ·rw [hik]; exact H.out
       ·exact HK.out i (by omega)
      case measure => simp [intOf]; omega
   ·go_wp2_with fail
    go_ret
    exact ⟨ret_bool (HO.out fun i hi => HK.out i (by omega)).symm, rfl⟩


structure Bw where
 wd : Int
 a : Option Addr
 c : Nat
 ws : List Nat
def Bw.ct (x : Bw) : Int × List Nat := (x.wd, x.ws)
def BwAt (w : World) (b o : Nat) (x : Bw) : Prop :=
 w.cell? ⟨b, o, none⟩ = some (.int .i64 x.wd) ∧ w.cell? ⟨b, o + 1, none⟩ = some (.slice x.a x.ws.length x.c) ∧ Rd w x.a x.ws ∧ in64 x.wd
theorem BwAt.later {w w' : World} {b o : Nat} {x : Bw} (h : BwAt w b o x) (hb : Below w.heap.size w w') : BwAt w' b o x := by
 obtain ⟨f0, f1, f2, f3⟩ := h
 exact ⟨by rw [kcell hb _ _ (block_lt_of_cell f0)]; exact f0, by rw [kcell hb _ _ (block_lt_of_cell f1)]; exact f1, f2.later hb, f3⟩
def RdW (w : World) (a : Option Addr) (xs : List Bw) : Prop :=
 xs.length ≤ 1048576 ∧ (xs = [] ∨ ∃ b o, a = some ⟨b, o, none⟩ ∧ ∀ i n, xs[i]? = some n → BwAt w b (o + i * 2) n)
theorem RdW.later {w w' : World} {a : Option Addr} {xs : List Bw} (h : RdW w a xs) (hb : Below w.heap.size w w') : RdW w' a xs := by
 refine ⟨h.1, ?_⟩
 rcases h.2 with h | ⟨b, o, rfl, hc⟩
 ·exact .inl h
 ·exact .inr ⟨b, o, rfl, fun i n hi => (hc i n hi).later hb⟩
theorem Tryz.infoBits : (Tryz.prog.info? 80).map (fun i => (i.zero, i.size, i.bytes)) = some (some (.agg #[.int .i64 0, .slice none 0 0]), 2, 32) := by kernel_rfl




end Go.Proofs.YtkngpgonmedgpaaGreatDoor
