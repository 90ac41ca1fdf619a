/- Several texts in one. -/
import Derived.Test.YtkngpgonmedgpaaGreatDoorGAR
import Derived.Test.YtkngpgonmedgpaaGreatDoorGAK
import Derived.Handy
namespace Go.Proofs.YtkngpgonmedgpaaGreatDoor
open Go.RowKit
set_option linter.unusedVariables false
set_option linter.unusedSimpArgs false
theorem ol4_move {w w' : World} {B : Nat} {v : Value} {l : List Lg} (h : OL4 w B v l) (hk : ∀ b, v.ownBlock = some b → w'.heap[b]? = w.heap[b]?) : OL4 w' B v l := by
 obtain ⟨h1, h2⟩ := h
 refine ⟨h1, ?_⟩
 rcases h2 with h2 | ⟨g, cap, cur, rfl, hg, hh, r⟩
 ·exact .inl h2
 ·exact .inr ⟨g, cap, cur, rfl, hg, by rw [hk g rfl]; exact hh, r⟩
theorem ol4_typed {w : World} {B : Nat} {v : Value} {l : List Lg} (h : OL4 w B v l) {b : Nat} (hb : v.ownBlock = some b) : ∃ cur, w.heap[b]? = some (.cells cur 30 (0, 0)) := by
 rcases h.2 with ⟨rfl, -⟩ | ⟨g, cap, cur, rfl, hg, hh, -⟩
 ·cases hb
 ·cases hb; exact ⟨cur, hh⟩
theorem ol4_form {w : World} {B : Nat} {v : Value} {l : List Lg} (h : OL4 w B v l) : ∃ a c, v = .slice a l.length c := by
 rcases h.2 with ⟨rfl, h0⟩ | ⟨g, cap, cur, rfl, -⟩
 ·exact ⟨none, 0, by rw [h0]⟩
 ·exact ⟨_, _, rfl⟩
theorem OL4.empty (w : World) (B : Nat) (h : B ≤ w.heap.size) : OL4 (w.alloc (.cells #[] 30)) B (.slice (some ⟨w.heap.size, 0, Option.none⟩) 0 0) [] := World.ownsRow_made w #[] 0 h (Nat.zero_le _) (by simp)
theorem Tq.kept {w w' : World} {B : Nat} {v : Value} {l : List Tg} (h : Tq w B v l) (hk : ∀ (k : Nat) (cur : Array Value) (t : TypeId), w.heap[k]? = some (.cells cur t (0, 0)) → t ≠ 30 → w'.heap[k]? = w.heap[k]?) : Tq w' B v l :=
 ⟨h.row.move fun b hb => by
  obtain ⟨cur, hc⟩ := h.row.typed hb
  exact hk b cur _ hc (by decide), fun x hx => nw_blk (h.wn x hx) fun p hp => by
  obtain ⟨cur, hc⟩ := nw_typed (h.wn x hx) hp
  exact hk _ cur _ hc (by decide), fun x hx => ni_blk (h.kn x hx) fun p hp => by
  obtain ⟨cur, hc⟩ := ni_typed (h.kn x hx) hp
  exact hk _ cur _ hc (by decide), h.sn⟩

structure Lq (w : World) (lo : Nat) (x : Lg) : Prop where
 s : Tq w lo (.slice x.sa x.ss.length x.sc) x.ss
 t : Tq w lo (.slice x.ta x.ts.length x.tc) x.ts
 so : ∀ y ∈ x.ss, okT y.ct
 to : ∀ y ∈ x.ts, okT y.ct
 sl : x.ss.length ≤ 500
 tl : x.ts.length ≤ 500
 id : in64 x.id
theorem Lq.later {w w' : World} {lo : Nat} {x : Lg} (h : Lq w lo x) (hb : Below w.heap.size w w') : Lq w' lo x := ⟨h.s.later hb, h.t.later hb, h.so, h.to, h.sl, h.tl, h.id⟩
theorem Lq.far {w w' : World} {lo β : Nat} {x : Lg} (h : Lq w lo x) (hd : Dw β w w') (hβ : β < lo) : Lq w' lo x := ⟨h.s.far hd hβ, h.t.far hd hβ, h.so, h.to, h.sl, h.tl, h.id⟩
theorem Lq.low {w : World} {lo lo' : Nat} {x : Lg} (h : Lq w lo x) (hB : lo' ≤ lo) : Lq w lo' x := ⟨h.s.low hB, h.t.low hB, h.so, h.to, h.sl, h.tl, h.id⟩
theorem Lq.kept {w w' : World} {lo : Nat} {x : Lg} (h : Lq w lo x) (hk : ∀ (k : Nat) (cur : Array Value) (t : TypeId), w.heap[k]? = some (.cells cur t (0, 0)) → t ≠ 30 → w'.heap[k]? = w.heap[k]?) : Lq w' lo x := ⟨h.s.kept hk, h.t.kept hk, h.so, h.to, h.sl, h.tl, h.id⟩
theorem Lq.rd {w : World} {lo : Nat} {x : Lg} (h : Lq w lo x) : RdT w x.sa x.ss ∧ RdT w x.ta x.ts ∧ in64 x.id := by
 obtain ⟨a1, c1, e1, r1⟩ := h.s.rd (by have := h.sl; omega) h.so
 obtain ⟨a2, c2, e2, r2⟩ := h.t.rd (by have := h.tl; omega) h.to
 injection e1 with e1
 injection e2 with e2
 rw [e1, e2]
 exact ⟨r1, r2, h.id⟩

structure Lr (w : World) (lo : Nat) (v : Value) (l : List Lg) : Prop where
 row : OL4 w lo v l
 all : ∀ x ∈ l, Lq w lo x
theorem Lr.later {w w' : World} {lo : Nat} {v : Value} {l : List Lg} (h : Lr w lo v l) (hb : Below w.heap.size w w') : Lr w' lo v l := ⟨h.row.later hb, fun x hx => (h.all x hx).later hb⟩
theorem Lr.far {w w' : World} {lo β : Nat} {v : Value} {l : List Lg} (h : Lr w lo v l) (hd : Dw β w w') (hβ : β < lo) : Lr w' lo v l :=
 ⟨ol4_move h.row fun b hb => hd.block b (h.row.lt hb).2 (fun e => by cases e; have := (h.row.lt hb).1; omega), fun x hx => (h.all x hx).far hd hβ⟩
theorem Lr.empty (w : World) (lo : Nat) (h : lo ≤ w.heap.size) : Lr (w.alloc (.cells #[] 30)) lo (.slice (some ⟨w.heap.size, 0, Option.none⟩) 0 0) [] := ⟨OL4.empty w lo h, by simp⟩
theorem keptL {w w' : World} {lo : Nat} {v : Value} {l : List Lg} (h : OL4 w lo v l) (hg : w.grownBy w' v.ownBlock) : ∀ (k : Nat) (cur : Array Value) (t : TypeId), w.heap[k]? = some (.cells cur t (0, 0)) → t ≠ 30 → w'.heap[k]? = w.heap[k]? := fun k cur t hk ht =>
 hg.block k (lt_of_block hk) (fun e => by
  obtain ⟨c2, hc⟩ := ol4_typed h e.symm
  rw [hk] at hc
  cases hc
  exact ht rfl)
theorem Lr.push {w w' : World} {lo : Nat} {v v' : Value} {l : List Lg} {y : Lg} (h : Lr w lo v l) (hy : Lq w lo y) (hg : w.grownBy w' v.ownBlock) (ho : OL4 w' lo v' (l ++ [y])) : Lr w' lo v' (l ++ [y]) :=
 ⟨ho, fun x hx => by
  rcases List.mem_append.1 hx with hx | hx
  ·exact (h.all x hx).kept (keptL h.row hg)
  ·simp at hx; subst hx; exact hy.kept (keptL h.row hg)⟩
theorem Lr.rd {w : World} {lo : Nat} {v : Value} {l : List Lg} (h : Lr w lo v l) (hl : l.length ≤ 1048576) : ∃ a c, v = .slice a l.length c ∧ RdL w a l := h.row.rd hl fun x hx => (h.all x hx).rd

structure Dl (w0 u : World) (β : Nat) (a : Option Addr) (c : Nat) (bs : List Nat) (da : Option Addr) (ds : List Dc) : Prop where
 r0 : Rr w0 β a c bs
 rr : Rr u β a c bs
 dw : Dw β w0 u
 dd : RdD u da ds
 hβ : β < w0.heap.size
 hd : ∀ p, da = some p → p.block ≠ β ∧ p.block < w0.heap.size
theorem Dl.draw {w0 u u' : World} {β : Nat} {a : Option Addr} {c : Nat} {bs : List Nat} {da : Option Addr} {ds : List Dc} (h : Dl w0 u β a c bs da ds) (hr : Rr u' β a c bs) (hd : Dw β u u') : Dl w0 u' β a c bs da ds :=
 ⟨h.r0, hr, h.dw.trans hd, h.dd.farB hd fun p hp => (h.hd p hp).1, h.hβ, h.hd⟩
theorem Dl.later {w0 u u' : World} {β : Nat} {a : Option Addr} {c : Nat} {bs : List Nat} {da : Option Addr} {ds : List Dc} (h : Dl w0 u β a c bs da ds) (hb : Below u.heap.size u u') : Dl w0 u' β a c bs da ds :=
 ⟨h.r0, h.rr.later hb, h.dw.trans (Dw.of hb), h.dd.later hb, h.hβ, h.hd⟩
theorem Dl.own {w0 u u' : World} {β : Nat} {a : Option Addr} {c : Nat} {bs : List Nat} {da : Option Addr} {ds : List Dc} {r : Option Nat} (h : Dl w0 u β a c bs da ds) (hg : u.grownBy u' r) (hr : ∀ k, r = some k → w0.heap.size ≤ k) : Dl w0 u' β a c bs da ds :=
 ⟨h.r0, Rr.far h.r0 h.rr hg hr, h.dw.own hg hr, rdd_own h.dd hg hr (fun p hp => (h.hd p hp).2) h.dw.size, h.hβ, h.hd⟩
theorem Dl.size {w0 u : World} {β : Nat} {a : Option Addr} {c : Nat} {bs : List Nat} {da : Option Addr} {ds : List Dc} (h : Dl w0 u β a c bs da ds) : w0.heap.size ≤ u.heap.size := h.dw.size
theorem Gr.dl {w0 u : World} {β : Nat} {a : Option Addr} {c : Nat} {bs : List Nat} {da : Option Addr} {ds : List Dc} {v : Value} {l : List Tg} (h : Gr w0 u β a c bs da ds v l) : Dl w0 u β a c bs da ds := ⟨h.r0, h.rr, h.dw, h.dd, h.hβ, h.hd⟩
theorem Dl.gr {w0 u : World} {β : Nat} {a : Option Addr} {c : Nat} {bs : List Nat} {da : Option Addr} {ds : List Dc} {v : Value} {l : List Tg} (h : Dl w0 u β a c bs da ds) (ht : Tq u w0.heap.size v l) : Gr w0 u β a c bs da ds v l := ⟨h.r0, h.rr, h.dw, h.dd, ht, h.hβ, h.hd⟩
theorem Dl.at {w0 u : World} {β : Nat} {a : Option Addr} {c : Nat} {bs : List Nat} {da : Option Addr} {ds : List Dc} (h : Dl w0 u β a c bs da ds) : ∀ p, da = some p → p.block ≠ β ∧ p.block < u.heap.size := fun p hp => ⟨(h.hd p hp).1, Nat.lt_of_lt_of_le (h.hd p hp).2 h.size⟩
theorem Dl.grow (HG : GrowAny) {w0 u : World} {β : Nat} {a : Option Addr} {c : Nat} {bs : List Nat} {da : Option Addr} {ds : List Dc} (h : Dl w0 u β a c bs da ds) (dc n : Nat) (want : Int) (hn : ds.length = n) (h1 : 1 ≤ n) (h6 : n ≤ 6) (hw : ∀ x ∈ ds, 1 ≤ x.2 ∧ x.2 ≤ 200) (hv1 : -5000 ≤ want) (hv2 : want ≤ 5000) :
  Calls Tryz.prog 92 #[.pointer (some ⟨β, 0, none⟩), .slice da n dc, .int .i64 want] u fun e u' => ∃ tv l, e = .returned (.agg #[tv]) ∧ Dl w0 u' β a c bs da ds ∧ Tq u' u.heap.size tv l ∧ 1 ≤ l.length ∧ l.length ≤ 20 ∧ (∀ x ∈ l, okT x.ct) ∧ Dw β u u' := by
 refine (HG β a c bs da dc n ds want u h.rr h.dd h.at hn h1 h6 hw hv1 hv2).mono ?_
 rintro e u' ⟨v, l, rfl, h2, h3, h4, h5, h7, h8, -⟩
 exact ⟨v, l, rfl, h.draw h7 h8, h2, h3, h4, fun x hx => (h5 x hx).1, h8⟩
theorem Dl.growK (HG : GrowAny) {w0 u : World} {β : Nat} {a : Option Addr} {c : Nat} {bs : List Nat} {da : Option Addr} {ds : List Dc} (h : Dl w0 u β a c bs da ds) (dc n : Nat) (want : Int) (hn : ds.length = n) (h1 : 1 ≤ n) (h6 : n ≤ 6) (hw : ∀ x ∈ ds, 1 ≤ x.2 ∧ x.2 ≤ 200) (hv1 : -5000 ≤ want) (hv2 : want ≤ 5000) :
  Calls Tryz.prog 92 #[.pointer (some ⟨β, 0, none⟩), .slice da n dc, .int .i64 want] u fun e u' => ∃ tv l, e = .returned (.agg #[tv]) ∧ Dl w0 u' β a c bs da ds ∧ Tq u' u.heap.size tv l ∧ 1 ≤ l.length ∧ l.length ≤ 20 ∧ (∀ x ∈ l, okQ x.ct) ∧ Dw β u u' ∧ Ko u' u.heap.size l := by
 refine (HG β a c bs da dc n ds want u h.rr h.dd h.at hn h1 h6 hw hv1 hv2).mono ?_
 rintro e u' ⟨v, l, rfl, h2, h3, h4, h5, h7, h8, h9⟩
 exact ⟨v, l, rfl, h.draw h7 h8, h2, h3, h4, h5, h8, h9⟩

def RetL4 (w0 : World) (β : Nat) (a : Option Addr) (c : Nat) (bs : List Nat) (da : Option Addr) (ds : List Dc) (id : Int) (u : World) (e : Ending) (u' : World) : Prop := ∃ x : Lg, e = .returned x.val ∧ x.id = id ∧ Lq u' u.heap.size x ∧ Dl w0 u' β a c bs da ds ∧ Dw β u u'
def LS (w1 : World) (β : Nat) (a : Option Addr) (c : Nat) (bs : List Nat) (da : Option Addr) (ds : List Dc) (dc n : Nat) (id : Int) (rb sb : Nat) (a' : Act) (w' : World) : Prop := ∃ (ta : Option Addr) (tc m : Nat) (l : List Tg) (wd : Int), (∃ u : Nat → Value, a' = ({ tmps := #[.pointer (some ⟨β, 0, none⟩), .slice da n dc, .int .i64 id, undef, undef, undef, .pointer (some ⟨rb, 0, none⟩), .pointer (some ⟨sb, 0, none⟩), .int .i64 wd, u 9, u 10, u 11, u 12, u 13, u 14, u 15, u 16, u 17, u 18, u 19, u 20, u 21, u 22, u 23, u 24, u 25, u 26, u 27, u 28, u 29, u 30, u 31, u 32, u 33, u 34, u 35, u 36, u 37, u 38, u 39, u 40, u 41, u 42, u 43, u 44, u 45, u 46, u 47, u 48, u 49, u 50, u 51], defers := [] } : Act)) ∧ Gr w1 w' β a c bs da ds (.slice ta m tc) l ∧ Bz w' sb #[.slice ta m tc] 28 ∧ l.length = m ∧ 1 ≤ m ∧ m ≤ 30 ∧ (∀ x ∈ l, okT x.ct) ∧ -1 ≤ wd ∧ wd ≤ 4096
theorem OT.one (w : World) (B : Nat) (v : Int) (hB : B ≤ w.heap.size) : OT (w.alloc (.cells #[.int .i64 1, .int .i64 v, .int .i64 0, .int .i64 0, .int .i64 0, .slice none 0 0, .slice none 0 0] 119)) B (.slice (some ⟨w.heap.size, 0, none⟩) 1 1) [nodK 1 v 0 0 [] none 0] :=
 ⟨rfl, .inr ⟨w.heap.size, 1, _, rfl, hB, heap_alloc_new _ _, Nat.le_refl _, by unfold maxLen; omega, rfl, rfl⟩⟩
def put4 (w : World) (b : Nat) (a0 a1 a2 a3 : Value) : World := (((w.setCell ⟨b, 0, none⟩ a0).setCell ⟨b, 1, none⟩ a1).setCell ⟨b, 2, none⟩ a2).setCell ⟨b, 3, none⟩ a3
theorem put4_box {w : World} {b : Nat} {x0 x1 x2 x3 : Value} (h : Bz w b #[x0, x1, x2, x3] 30) (a0 a1 a2 a3 : Value) : Bz (put4 w b a0 a1 a2 a3) b #[a0, a1, a2, a3] 30 := by
 have b4 := (((h.set 0 a0).set 1 a1).set 2 a2).set 3 a3
 have e : ((((#[x0, x1, x2, x3] : Array Value).setIfInBounds 0 a0).setIfInBounds 1 a1).setIfInBounds 2 a2).setIfInBounds 3 a3 = #[a0, a1, a2, a3] := by simp [List.setIfInBounds_toArray]
 rw [e] at b4
 exact b4
theorem put4_kept {w : World} {b : Nat} {cs : Array Value} (h : Bz w b cs 30) (a0 a1 a2 a3 : Value) : ∀ (k : Nat) (cur : Array Value) (t : TypeId), w.heap[k]? = some (.cells cur t (0, 0)) → t ≠ 30 → (put4 w b a0 a1 a2 a3).heap[k]? = w.heap[k]? := fun k cur t hk ht => by
 have hne : k ≠ b := fun e => by
  subst e
  unfold Bz at h
  rw [h] at hk
  cases hk
  exact ht rfl
 unfold put4
 rw [heap_setCell_other _ _ _ _ hne, heap_setCell_other _ _ _ _ hne, heap_setCell_other _ _ _ _ hne, heap_setCell_other _ _ _ _ hne]
theorem put4_grown (w : World) (b : Nat) (a0 a1 a2 a3 : Value) : w.grownBy (put4 w b a0 a1 a2 a3) (some b) :=
 World.grownBy.trans (World.grownBy.trans (World.grownBy.trans (gsc w ⟨b, 0, none⟩ a0) (gsc _ ⟨b, 1, none⟩ a1)) (gsc _ ⟨b, 2, none⟩ a2)) (gsc _ ⟨b, 3, none⟩ a3)
set_option maxHeartbeats 1000000 in
set_option maxRecDepth 100000 in
theorem l4Literal_any (HGR : GrowAny) (w0 w : World) (β : Nat) (a : Option Addr) (c : Nat) (bs : List Nat) (da : Option Addr) (ds : List Dc) (dc n : Nat) (id : Int) (h : Dl w0 w β a c bs da ds) (hn : ds.length = n) (h1 : 1 ≤ n) (h6 : n ≤ 6) (hw : ∀ x ∈ ds, 1 ≤ x.2 ∧ x.2 ≤ 200) (hid : in64 id) :
  Calls Tryz.prog 90 #[.pointer (some ⟨β, 0, none⟩), .slice da n dc, .int .i64 id] w (RetL4 w0 β a c bs da ds id w) := by
 have HD := kide h
 have HN := kide hn
 have HW := kide hw
 have HID := kide hid
 have HG := kide HGR
 clear h hn hw hid HGR
 have hb0 : Below w.heap.size w (w.alloc (Obj.cells #[.int .i64 0, .bool false, .slice none 0 0, .slice none 0 0] 30)) := (Below.refl _ _).alloc (Nat.le_refl _) _
 have X1 := kide (Bz.new w #[.int .i64 0, .bool false, .slice none 0 0, .slice none 0 0] 30)
 have W1 : Hid (Dw β w (w.alloc (Obj.cells #[.int .i64 0, .bool false, .slice none 0 0, .slice none 0 0] 30))) := Dw.of hb0
 have hβ : β < w.heap.size := Nat.lt_of_lt_of_le HD.out.hβ HD.out.size
 have D1 : Hid (Dl (w.alloc (Obj.cells #[.int .i64 0, .bool false, .slice none 0 0, .slice none 0 0] 30)) (w.alloc (Obj.cells #[.int .i64 0, .bool false, .slice none 0 0, .slice none 0 0] 30)) β a c bs da ds) := by
  have h := HD.out.later hb0
  exact ⟨h.rr, h.rr, Dw.refl _ _, h.dd, Nat.lt_of_lt_of_le hβ hb0.size, h.at⟩
 have HW2 := kide (fun (u : World) (l2 : List Tg) (ta2 : Option Addr) (c2 m2 : Nat) (h9 : RdD u da ds) (h8 : RdT u ta2 l2) (h7 : l2.length = m2) => by
  have h := specWidth_any da ta2 dc c2 m2 ds l2 u h9 h8 h7
  rwa [HN.out] at h)
 clear hb0
 go_enter Tryz.func90, Tryz.ntmps90
 go_wp2_with fail
 obtain ⟨rb, hrb⟩ : ∃ rb, w.heap.size = rb := ⟨_, rfl⟩
 rw [hrb] at X1 ⊢
 generalize w.alloc (Obj.cells #[.int .i64 0, .bool false, .slice none 0 0, .slice none 0 0] 30) = w1 at *
 refine Calls.mono (D1.out.grow HG.out dc n 0 HN.out h1 h6 HW.out (by omega) (by omega)) ?_
 rintro e w2 ⟨tv, l, rfl, hd2, ht2, hl2, hl2', hok2, hw2⟩
 have hz1 : rb < w1.heap.size := X1.out.lt
 have hba : Below w2.heap.size w2 (w2.alloc (Obj.cells #[tv] 28)) := (Below.refl _ _).alloc (Nat.le_refl _) _
 have S3 := kide (Bz.new w2 #[tv] 28)
 have G3 := kide ((hd2.gr ht2).later hba)
 have OK3' := kide hok2
 obtain ⟨ta, tc, rfl, hrt⟩ := G3.out.tq.rd (by omega) hok2
 obtain ⟨m, hm⟩ : ∃ m, l.length = m := ⟨_, rfl⟩
 rw [hm] at hrt S3 G3 hl2 hl2' hba
 have RT := kide hrt
 have hz2 : w1.heap.size ≤ w2.heap.size := hd2.size
 clear hd2 ht2 hok2 hw2 hba D1 hrt
 rw [hm]
 go_wp2_with fail
 obtain ⟨sb, hsb⟩ : ∃ sb, w2.heap.size = sb := ⟨_, rfl⟩
 rw [hsb] at S3 hz2 ⊢
 generalize w2.alloc (Obj.cells #[.slice ta m tc] 28) = w3 at *
 refine Calls.mono (HW2.out w3 l ta tc m G3.out.dd RT.out hm) ?_
 have hwb := wid_bounds ds (l.map Tg.ct)
 generalize widR ds (l.map Tg.ct) = wd at *
 rintro e w4 ⟨rfl, hb4⟩
 have G4 := kide (G3.out.later hb4)
 have S4 := kide (S3.out.later hb4)
 clear hb4 G3 S3 RT
 go_wp2_with fail
 refine Calls.mono (once_any 2 (by omega) (by omega) β a c bs _ G4.out.rr) ?_
 rintro e w5 ⟨ob, rfl, hr5, hd5⟩
 have G5 := kide (G4.out.draw hr5 hd5)
 have S5 : Hid (Bz w5 sb #[.slice ta m tc] 28) := S4.out.far hd5 (by omega)
 clear hr5 hd5 G4 S4
 simp only []
 iterate 4 go_step
 refine code_cut (LS w1 β a c bs da ds dc n id rb sb) ?_ ?_
 ·cases ob with
  | false =>
   go_wp2_with fail
   exact ⟨ta, tc, m, l, wd, act_u (by kernel_rfl), G5.out, S5.out, hm, hl2, by omega, OK3'.out, hwb.1, hwb.2⟩
  | true =>
   go_wp2_with fail
   refine Calls.mono (below_any n (by omega) β a c bs _ G5.out.rr) ?_
   rintro e w6 ⟨vx, rfl, hvx, hr6, hd6⟩
   have G6 := kide (G5.out.draw hr6 hd6)
   have S6 : Hid (Bz w6 sb #[.slice ta m tc] 28) := S5.out.far hd6 (by omega)
   have hvn : vx < n := by omega
   have i1 : (vx : Int) < (n : Int) := by omega
   obtain ⟨d, gd⟩ : ∃ d, ds[vx]? = some d := ⟨ds[vx]'(by rw [HN.out]; exact hvn), List.getElem?_eq_getElem _⟩
   have hdw := HW.out d (List.mem_of_getElem? gd)
   have hba : Below w6.heap.size w6 (w6.alloc (Obj.cells #[.int .i64 1, .int .i64 (vx : Int), .int .i64 0, .int .i64 0, .int .i64 0, .slice none 0 0, .slice none 0 0] 119)) := (Below.refl _ _).alloc (Nat.le_refl _) _
   have hz6 : w1.heap.size ≤ w6.heap.size := G6.out.size
   have D7 := kide (G6.out.dl.later hba)
   have S7 := kide (S6.out.later hba)
   have T7 : Hid (Tq (w6.alloc (Obj.cells #[.int .i64 1, .int .i64 (vx : Int), .int .i64 0, .int .i64 0, .int .i64 0, .slice none 0 0, .slice none 0 0] 119)) w1.heap.size (.slice (some ⟨w6.heap.size, 0, none⟩) 1 1) [nodK 1 (vx : Int) 0 0 [] none 0]) := ⟨OT.one w6 w1.heap.size (vx : Int) hz6, fun x hx => by simp at hx; subst hx; exact nw_none _ _, fun x hx => by simp at hx; subst hx; exact ni_none _ _, fun x hx => by simp at hx; subst hx; exact ⟨fun _ => rfl, fun _ => rfl⟩⟩
   have G7 := kide (D7.out.gr T7.out)
   have G8 := kide (G7.out.cellT (o := 0) S7.out hz2 (.slice (some ⟨w6.heap.size, 0, none⟩) 1 1))
   have S8 := kide (S7.out.set 0 (.slice (some ⟨w6.heap.size, 0, none⟩) 1 1))
   have k0 := S7.out.cell 0
   have k1 := S7.out.froz 0
   simp at k0
   obtain ⟨db, do', hda, dq0, dq1⟩ : ∃ db do', da = some ⟨db, do', none⟩ ∧ w6.cell? ⟨db, do' + vx * 2, none⟩ = some (.string d.1) ∧ w6.cell? ⟨db, do' + vx * 2 + 1, none⟩ = some (.int .i64 d.2) := by
    obtain ⟨-, -, h | ⟨db, do', e, hc⟩⟩ := G6.out.dd
    ·rw [h] at gd; simp at gd
    ·exact ⟨db, do', e, hc vx d gd⟩
   subst hda
   have hsl : sb < w6.heap.size := S6.out.lt
   have dq2 : ((w6.alloc (Obj.cells #[.int .i64 1, .int .i64 (vx : Int), .int .i64 0, .int .i64 0, .int .i64 0, .slice none 0 0, .slice none 0 0] 119)).setCell ⟨sb, 0, none⟩ (.slice (some ⟨w6.heap.size, 0, none⟩) 1 1)).cell? ⟨db, do' + vx * 2 + 1, none⟩ = some (.int .i64 d.2) := by
    obtain ⟨-, -, h | ⟨db2, do2, e, hc⟩⟩ := G8.out.dd
    ·rw [h] at gd; simp at gd
    ·cases e
     exact (hc vx d gd).2
   have OK8 : Hid (∀ x ∈ [nodK 1 (vx : Int) 0 0 [] none 0], okT x.ct) := fun x hx => by
    simp at hx
    subst hx
    refine ⟨?_, ?_, ?_, ?_, ?_, ?_, ?_, ?_, ?_⟩ <;> simp [nodK, in64] <;> omega
   have e9 : (w6.alloc (Obj.cells #[.int .i64 1, .int .i64 (vx : Int), .int .i64 0, .int .i64 0, .int .i64 0, .slice none 0 0, .slice none 0 0] 119)).setCell ⟨sb, 0, none⟩ (.slice (some ⟨w6.heap.size, 0, none⟩) 1 1) = (w6.setCell ⟨sb, 0, none⟩ (.slice (some ⟨w6.heap.size, 0, none⟩) 1 1)).alloc (Obj.cells #[.int .i64 1, .int .i64 (vx : Int), .int .i64 0, .int .i64 0, .int .i64 0, .slice none 0 0, .slice none 0 0] 119) := World.setCell_alloc_past _ sb 0 _ hsl
   rw [e9] at dq2 G8 S8
   clear e9
   clear hr6 hd6 hvx gd hba D7 T7 G6 S6 G5 S5
   go_wp2_with fail
   exact ⟨some ⟨w6.heap.size, 0, none⟩, 1, 1, _, d.2, act_u (by kernel_rfl), G8.out, S8.out, rfl, by omega, by omega, OK8.out, by omega, by omega⟩
 ·clear G5 S5 OK3' hm hl2 hl2' hwb
  clear ta tc m l wd
  rintro a' w6 ⟨ta, tc, m, l, wd, ⟨u, rfl⟩, hg6, hs6, hm6, h16, h30, hok6, hwd1, hwd2⟩
  have G6 := kide hg6
  have S6 := kide hs6
  have OK6 := kide hok6
  clear hg6 hs6 hok6
  have k0 := S6.out.cell 0
  have k1 := S6.out.froz 0
  simp at k0
  by_cases hwd : wd > 40
  ·go_wp2_with fail
   refine Calls.mono (l3Fit_any w1 w6 β a c bs da ds _ l ((m : Int) - 1) wd 12 G6.out (by omega) (by unfold in64; omega) (by omega) (by omega) (by omega) (by omega)) ?_
   rintro e w7 ⟨v7, l7, rfl, hg7, hl7, hk7, -⟩
   obtain ⟨a7, c7, hv7⟩ := hg7.bel
   subst hv7
   have S7 := kide (hk7 _ _ S6.out)
   have G8 := kide (hg7.cellT (o := 0) S7.out hz2 (.slice a7 l7.length c7))
   have S8 := kide (S7.out.set 0 (.slice a7 l7.length c7))
   have OK8 : Hid (l7.length ≤ 31 ∧ ∀ x ∈ l7, okT x.ct) := by
    rcases hl7 with rfl | ⟨y, rfl, hy⟩
    ·exact ⟨by omega, OK6.out⟩
    ·refine ⟨by simp; omega, fun x hx => ?_⟩
     rcases List.mem_append.1 hx with hx | hx
     ·exact OK6.out x hx
     ·simp at hx; subst hx; exact hy.1
   have p0 := S7.out.cell 0
   have p1 := S7.out.froz 0
   simp at p0
   clear hg7 hl7 hk7 k0 k1
   go_wp2_with fail
   obtain ⟨m7, hm7⟩ : ∃ m7, l7.length = m7 := ⟨_, rfl⟩
   have hml : l7.length ≤ 31 := OK8.out.1
   rw [hm7] at G8 S8 ⊢
   generalize w7.setCell ⟨sb, 0, none⟩ (.slice a7 m7 c7) = w8 at *
   have X9 : Hid (Bz w8 rb #[.int .i64 0, .bool false, .slice none 0 0, .slice none 0 0] 30) := X1.out.far G8.out.dw (by omega)
   have q0 := S8.out.cell 0
   simp at q0
   have hsr : sb ≠ rb := by omega
   have q0d : w8.drew.cell? ⟨sb, 0, none⟩ = some (Value.slice a7 m7 c7) := q0
   go_region_held3 (fun u => u.cell? ⟨sb, 0, none⟩ = some (Value.slice a7 m7 c7)) (first | assumption | fail)
    (first
     | (go_at_call 92; refine Calls.mono (DA.out.grow HG.out dc n 12 HN.out h1 h6 HW.out (by omega) (by omega)) ?_; rintro e wb ⟨tv, lb, rfl, hdb, htb, hlb, hlb', hokb, hwb⟩; obtain ⟨ab, cb, htv⟩ := htb.form; subst htv; have GB := kide (GA.out.draw hdb.rr hwb); have XB : Hid (Bz wb rb _ 30) := XA.out.far hwb (by omega); have SB : Hid (Bz wb sb #[.slice a7 m7 c7] 28) := SA.out.far hwb (by omega); have qb := SB.out.cell 0; have x0 := XB.out.cell 0; have x1 := XB.out.cell 1; have x2 := XB.out.cell 2; have x3 := XB.out.cell 3; have y0 := XB.out.froz 0; have y1 := XB.out.froz 1; have y2 := XB.out.froz 2; have y3 := XB.out.froz 3; simp at qb x0 x1 x2 x3; have qf : ((((wb.setCell ⟨rb, 0, none⟩ (.int .i64 id)).setCell ⟨rb, 1, none⟩ (.bool (!oq))).setCell ⟨rb, 2, none⟩ (.slice a7 m7 c7)).setCell ⟨rb, 3, none⟩ (.slice ab lb.length cb)).cell? ⟨sb, 0, none⟩ = some (Value.slice a7 m7 c7) := ((((SB.out.other hsr 0 _).other hsr 1 _).other hsr 2 _).other hsr 3 _).cell 0; have TB := kide htb; have OKB := kide hokb; have hzb : w1.heap.size ≤ wa.heap.size := GA.out.size)
     | (go_at_call 62; refine Calls.mono (once_any 3 (by omega) (by omega) β a c bs _ (G8.out.rr.later (Below.refl _ _).drew)) ?_; rintro e wa ⟨oq, rfl, hra, hda⟩; have GA := kide ((G8.out.later (Below.refl _ _).drew).draw hra hda); have DA := kide GA.out.dl; have XA : Hid (Bz wa rb _ 30) := (X9.out.later (Below.refl _ _).drew).far hda (by omega); have SA : Hid (Bz wa sb #[.slice a7 m7 c7] 28) := (S8.out.later (Below.refl _ _).drew).far hda (by omega); have qa := SA.out.cell 0; simp at qa; clear hra hda))
   have FX : Hid (∀ (Y : World) (hY : Y = put4 wb rb (.int .i64 id) (.bool (!oq)) (.slice a7 m7 c7) (.slice ab lb.length cb)), RetL4 w0 β a c bs da ds id w (.returned (.agg #[.int .i64 id, .bool (!oq), .slice a7 m7 c7, .slice ab lb.length cb])) Y ∧ Bz Y rb #[.int .i64 id, .bool (!oq), .slice a7 m7 c7, .slice ab lb.length cb] 30) := fun Y hY => by
    subst hY
    have hDW : Dw β w wb := W1.out.trans GB.out.dw
    have hk := put4_kept XB.out (.int .i64 id) (.bool (!oq)) (.slice a7 m7 c7) (.slice ab lb.length cb)
    have hg := put4_grown wb rb (.int .i64 id) (.bool (!oq)) (.slice a7 m7 c7) (.slice ab lb.length cb)
    have hw0 := HD.out.size
    refine ⟨⟨⟨id, !oq, l7, a7, c7, lb, ab, cb⟩, by simp only [Lg.val, hm7], rfl, ⟨?_, ?_, OK8.out.2, OKB.out, by first | omega | (simp only []; omega), by simp only []; omega, HID.out⟩, (HD.out.draw GB.out.rr hDW).own hg (fun k e => by cases e; omega), hDW.own hg (fun k e => by cases e; omega)⟩, put4_box XB.out _ _ _ _⟩
    ·show Tq _ _ (.slice a7 l7.length c7) l7
     rw [hm7]
     exact (GB.out.tq.low (by omega)).kept hk
    ·exact (TB.out.low (by omega)).kept hk
   clear hdb htb hlb' hokb hwb
   go_wp2_with fail
   obtain ⟨hret, hbox⟩ := FX.out _ rfl
   have z0 := hbox.cell 0
   have z1 := hbox.cell 1
   have z2 := hbox.cell 2
   have z3 := hbox.cell 3
   unfold put4 at hret z0 z1 z2 z3
   simp only [List.getElem?_toArray, List.getElem?_cons_zero, List.getElem?_cons_succ] at z0 z1 z2 z3
   exact bodyPost_ret (v := .agg #[.int .i64 id, .bool (!oq), .slice a7 m7 c7, .slice ab lb.length cb]) (by simp [results, Tryz.results90, go_sem, z0, z1, z2, z3]) rfl hret
  ·go_wp2_with fail
   have X9 : Hid (Bz w6 rb #[.int .i64 0, .bool false, .slice none 0 0, .slice none 0 0] 30) := X1.out.far G6.out.dw (by omega)
   have q0 := S6.out.cell 0
   simp at q0
   have hsr : sb ≠ rb := by omega
   have q0d : w6.drew.cell? ⟨sb, 0, none⟩ = some (Value.slice ta m tc) := q0
   go_region_held3 (fun u => u.cell? ⟨sb, 0, none⟩ = some (Value.slice ta m tc)) (first | assumption | fail)
    (first
     | (go_at_call 92; refine Calls.mono (DA.out.grow HG.out dc n wd HN.out h1 h6 HW.out (by omega) (by omega)) ?_; rintro e wb ⟨tv, lb, rfl, hdb, htb, hlb, hlb', hokb, hwb⟩; obtain ⟨ab, cb, htv⟩ := htb.form; subst htv; have GB := kide (GA.out.draw hdb.rr hwb); have XB : Hid (Bz wb rb _ 30) := XA.out.far hwb (by omega); have SB : Hid (Bz wb sb #[.slice ta m tc] 28) := SA.out.far hwb (by omega); have qb := SB.out.cell 0; have x0 := XB.out.cell 0; have x1 := XB.out.cell 1; have x2 := XB.out.cell 2; have x3 := XB.out.cell 3; have y0 := XB.out.froz 0; have y1 := XB.out.froz 1; have y2 := XB.out.froz 2; have y3 := XB.out.froz 3; simp at qb x0 x1 x2 x3; have qf : ((((wb.setCell ⟨rb, 0, none⟩ (.int .i64 id)).setCell ⟨rb, 1, none⟩ (.bool (!oq))).setCell ⟨rb, 2, none⟩ (.slice ta m tc)).setCell ⟨rb, 3, none⟩ (.slice ab lb.length cb)).cell? ⟨sb, 0, none⟩ = some (Value.slice ta m tc) := ((((SB.out.other hsr 0 _).other hsr 1 _).other hsr 2 _).other hsr 3 _).cell 0; have TB := kide htb; have OKB := kide hokb; have hzb : w1.heap.size ≤ wa.heap.size := GA.out.size)
     | (go_at_call 62; refine Calls.mono (once_any 3 (by omega) (by omega) β a c bs _ (G6.out.rr.later (Below.refl _ _).drew)) ?_; rintro e wa ⟨oq, rfl, hra, hda⟩; have GA := kide ((G6.out.later (Below.refl _ _).drew).draw hra hda); have DA := kide GA.out.dl; have XA : Hid (Bz wa rb _ 30) := (X9.out.later (Below.refl _ _).drew).far hda (by omega); have SA : Hid (Bz wa sb #[.slice ta m tc] 28) := (S6.out.later (Below.refl _ _).drew).far hda (by omega); have qa := SA.out.cell 0; simp at qa; clear hra hda))
   have FX : Hid (∀ (Y : World) (hY : Y = put4 wb rb (.int .i64 id) (.bool (!oq)) (.slice ta m tc) (.slice ab lb.length cb)), RetL4 w0 β a c bs da ds id w (.returned (.agg #[.int .i64 id, .bool (!oq), .slice ta m tc, .slice ab lb.length cb])) Y ∧ Bz Y rb #[.int .i64 id, .bool (!oq), .slice ta m tc, .slice ab lb.length cb] 30) := fun Y hY => by
    subst hY
    have hDW : Dw β w wb := W1.out.trans GB.out.dw
    have hk := put4_kept XB.out (.int .i64 id) (.bool (!oq)) (.slice ta m tc) (.slice ab lb.length cb)
    have hg := put4_grown wb rb (.int .i64 id) (.bool (!oq)) (.slice ta m tc) (.slice ab lb.length cb)
    have hw0 := HD.out.size
    refine ⟨⟨⟨id, !oq, l, ta, tc, lb, ab, cb⟩, by simp only [Lg.val, hm6], rfl, ⟨?_, ?_, OK6.out, OKB.out, by first | omega | (simp only []; omega), by simp only []; omega, HID.out⟩, (HD.out.draw GB.out.rr hDW).own hg (fun k e => by cases e; omega), hDW.own hg (fun k e => by cases e; omega)⟩, put4_box XB.out _ _ _ _⟩
    ·show Tq _ _ (.slice ta l.length tc) l
     rw [hm6]
     exact (GB.out.tq.low (by omega)).kept hk
    ·exact (TB.out.low (by omega)).kept hk
   clear hdb htb hlb' hokb hwb
   go_wp2_with fail
   obtain ⟨hret, hbox⟩ := FX.out _ rfl
   have z0 := hbox.cell 0
   have z1 := hbox.cell 1
   have z2 := hbox.cell 2
   have z3 := hbox.cell 3
   unfold put4 at hret z0 z1 z2 z3
   simp only [List.getElem?_toArray, List.getElem?_cons_zero, List.getElem?_cons_succ] at z0 z1 z2 z3
   exact bodyPost_ret (v := .agg #[.int .i64 id, .bool (!oq), .slice ta m tc, .slice ab lb.length cb]) (by simp [results, Tryz.results90, go_sem, z0, z1, z2, z3]) rfl hret

def RetLs (w0 : World) (β : Nat) (a : Option Addr) (c : Nat) (bs : List Nat) (da : Option Addr) (ds : List Dc) (most : Nat) (u : World) (e : Ending) (u' : World) : Prop := ∃ v l, e = .returned v ∧ Lr u' u.heap.size v l ∧ 1 ≤ l.length ∧ l.length ≤ most ∧ (∀ x ∈ l, 0 ≤ x.id ∧ x.id ≤ 1000) ∧ Dl w0 u' β a c bs da ds ∧ Dw β u u'
set_option maxHeartbeats 1000000 in
set_option maxRecDepth 100000 in
theorem literals_any (HGR : GrowAny) (w0 w : World) (β : Nat) (a : Option Addr) (c : Nat) (bs : List Nat) (da : Option Addr) (ds : List Dc) (dc n most : Nat) (h : Dl w0 w β a c bs da ds) (hn : ds.length = n) (h1 : 1 ≤ n) (h6 : n ≤ 6) (hw : ∀ x ∈ ds, 1 ≤ x.2 ∧ x.2 ≤ 200) (hm1 : 1 ≤ most) (hm2 : most ≤ 60) :
  Calls Tryz.prog 67 #[.pointer (some ⟨β, 0, none⟩), .slice da n dc, .int .i64 (most : Int)] w (RetLs w0 β a c bs da ds most w) := by
 have hb0 : Below w.heap.size w (w.alloc (Obj.cells #[] 30)) := (Below.refl _ _).alloc (Nat.le_refl _) _
 have D1 := kide (h.later hb0)
 have L1 := kide (Lr.empty w w.heap.size (Nat.le_refl _))
 have W1 : Hid (Dw β w (w.alloc (Obj.cells #[] 30))) := Dw.of hb0
 have hβ : β < w.heap.size := Nat.lt_of_lt_of_le h.hβ h.size
 have hw0 := h.size
 have HD := kide h
 have HL4 := kide (fun (u : World) (hu : Dl w0 u β a c bs da ds) (i : Int) (hi : in64 i) => l4Literal_any HGR w0 u β a c bs da ds dc n i hu hn h1 h6 hw hi)
 clear h hn hw HGR hb0
 go_enter Tryz.func67, Tryz.ntmps67
 go_wp2_with fail
 generalize hw1 : w.alloc (Obj.cells #[] 30) = w1 at *
 refine Calls.mono (size_any 14 most (by omega) (by omega) hm1 (by omega) β a c bs _ D1.out.rr) ?_
 rintro e w2 ⟨K, rfl, hK1, hK2, hr2, hd2⟩
 have D2 := kide (D1.out.draw hr2 hd2)
 have L2 := kide (L1.out.far hd2 hβ)
 have W2 := kide (W1.out.trans hd2)
 clear hr2 hd2 D1 L1 W1 hw1
 go_wp2_with fail
 go_loopw [7, 8, 9] (fun v q r wr => ∃ (k : Nat) (i : Int) (l : List Lg), r = .int .i64 (k : Int) ∧ q = .int .i64 i ∧ l.length + k = K ∧ 0 ≤ i ∧ i ≤ 3 * (l.length : Int) ∧ Lr wr w.heap.size v l ∧ (∀ x ∈ l, 0 ≤ x.id ∧ x.id ≤ 1000) ∧ Dl w0 wr β a c bs da ds ∧ Dw β w wr) (fun _ _ r _ => (intOf r).toNat)
 case atStart => exact ⟨K, 0, [], rfl, rfl, by simp, by omega, by simp, L2.out, by simp, D2.out, W2.out⟩
 case round =>
  obtain ⟨k, i, l, rfl, rfl, hlk, hi0, hi1, hlr, hid, hdl, hdw⟩ := hrel
  obtain ⟨av, cv, hv⟩ := ol4_form hlr.row
  subst hv
  have LR := kide hlr
  have DL := kide hdl
  have DW := kide hdw
  have HID := kide hid
  have HLK := kide hlk
  have HI1 := kide hi1
  clear hlr hdl hdw hid L2 D2 W2 hlk hi1
  by_cases hk : k = 0
  ·subst hk
   have i0 : ¬ ((0 : Nat) : Int) > 0 := by omega
   go_wp2_with fail
   go_ret
   exact ⟨_, l, rfl, LR.out, by have := HLK.out; omega, by have := HLK.out; omega, HID.out, DL.out, DW.out⟩
  ·obtain ⟨k', rfl⟩ : ∃ k', k = k' + 1 := ⟨k - 1, by omega⟩
   have i0 : ((k' + 1 : Nat) : Int) > 0 := by omega
   have hkb : (k' : Int) ≤ 60 := by have := HLK.out; omega
   have hib : i ≤ 180 := by have h1 := HLK.out; have h2 := HI1.out; omega
   go_wp2_with fail
   refine Calls.mono (below_any 3 (by omega) β a c bs wr DL.out.rr) ?_
   rintro e w3 ⟨x, rfl, hx, hr3, hd3⟩
   have D3 := kide (DL.out.draw hr3 hd3)
   have L3 := kide (LR.out.far hd3 hβ)
   have W3 := kide (DW.out.trans hd3)
   have hx3 : (x : Int) ≤ 2 := by omega
   clear hr3 hd3 DL LR DW hx
   go_wp2_with fail
   refine Calls.mono (HL4.out w3 D3.out (i + 1 + (x : Int)) (by unfold in64; omega)) ?_
   rintro e w4 ⟨y, rfl, hy, hlq, hd4, hw4⟩
   have hz3 := W3.out.size
   have L4 := kide (L3.out.far hw4 hβ)
   have Q4 := kide (hlq.low (show w.heap.size ≤ w3.heap.size from hz3))
   have W4 := kide (W3.out.trans hw4)
   have D4 := kide hd4
   have hyd : Hid (0 ≤ y.id ∧ y.id ≤ 1000) := by rw [hy]; exact ⟨by omega, by omega⟩
   have hy1 : Hid (y.id ≤ 3 * ((l.length : Int) + 1)) := by have h2 := HI1.out; show _ ≤ _; rw [hy]; omega
   have hba : Hid (Below w4.heap.size w4 (w4.alloc (Obj.cells #[.int .i64 y.id, .bool y.eq, .slice y.sa y.ss.length y.sc, .slice y.ta y.ts.length y.tc] 30))) := (Below.refl _ _).alloc (Nat.le_refl _) _
   have L5 := kide (L4.out.later hba.out)
   have Q5 := kide (Q4.out.later hba.out)
   have W5 : Hid (Dw β w (w4.alloc (Obj.cells #[.int .i64 y.id, .bool y.eq, .slice y.sa y.ss.length y.sc, .slice y.ta y.ts.length y.tc] 30))) := W4.out.trans (Dw.of hba.out)
   have D5 := kide (D4.out.later hba.out)
   have hll : l.length ≤ 1073741824 := by have := HLK.out; omega
   have hz4 : w.heap.size ≤ w4.heap.size + 1 := by have := W4.out.size; omega
   have HY := kide hy
   clear hlq hd4 hw4 hy L3 D3 W3
   unfold Lg.val
   go_wp2_with (at_builtin; refine wpList_appL4 rfl _ _ rfl w.heap.size _ l y rfl L5.out.row _ rfl (by simp) (by simp) (by simp) (by simp) hll (by simpa using hz4) ?_)
   intro v6 w6 ho6 hg6
   have hr6 : ∀ k, (Value.slice av l.length cv).ownBlock = some k → w.heap.size ≤ k := fun k e => (L5.out.row.lt e).1
   have L6 := kide (L5.out.push Q5.out hg6 ho6)
   have D6 := kide (D5.out.own hg6 (fun k e => Nat.le_trans hw0 (hr6 k e)))
   have W6 := kide (W5.out.own hg6 hr6)
   clear ho6 hg6 L5 D5 W5 Q5
   go_wp2_with fail
   go_roundw
   case rel => exact ⟨k', i + 1 + (x : Int), l ++ [y], by first | rfl | go_num | (rw [show wrap64 (k' : Int) = (k' : Int) by unfold wrap64; omega]), rfl, by have := HLK.out; simp; omega, by omega, by rw [List.length_append]; simp; have := hy1.out; rw [HY.out] at this; omega, L6.out, fun x hx => by
    rcases List.mem_append.1 hx with hx | hx
    ·exact HID.out x hx
    ·simp at hx; subst hx; exact hyd.out, D6.out, W6.out⟩
   case measure => first | (rw [show wrap64 (k' : Int) = (k' : Int) by unfold wrap64; omega]; simp only [intOf, Int.toNat_natCast]; omega) | (simp [intOf]; done) | (simp [intOf]; omega)

def lgv (x : Lg) : List Value := [.int .i64 x.id, .bool x.eq, .slice x.sa x.ss.length x.sc, .slice x.ta x.ts.length x.tc]
theorem lgv_len (x : Lg) : (lgv x).length = 4 := rfl
theorem lgc_set {j : Nat} {x x' : Lg} {u : Value} (hj : j < 4) (e : lgv x' = (lgv x).set j u) : ∀ (l : List Lg) (i : Nat), l[i]? = some x → lgc (l.set i x') = (lgc l).set (i * 4 + j) u
 | [], i, h => by simp at h
 | y :: t, 0, h => by
  have hy : y = x := by simpa using h
  rw [hy, List.set_cons_zero]
  show lgv x' ++ lgc t = (lgv x ++ lgc t).set (0 * 4 + j) u
  rw [e, Nat.zero_mul, Nat.zero_add, List.set_append_left _ _ (by rw [lgv_len]; exact hj)]
 | y :: t, i + 1, h => by
  have ih := lgc_set hj e t i (by simpa using h)
  rw [List.set_cons_succ]
  show lgv y ++ lgc (t.set i x') = (lgv y ++ lgc t).set ((i + 1) * 4 + j) u
  rw [ih, List.set_append_right _ _ (by rw [lgv_len]; omega), lgv_len, show (i + 1) * 4 + j - 4 = i * 4 + j by omega]
theorem OL4.put {w : World} {B g n c i j : Nat} {l : List Lg} {x x' : Lg} {u : Value} (h : OL4 w B (.slice (some ⟨g, 0, none⟩) n c) l) (hi : l[i]? = some x) (hj : j < 4) (e : lgv x' = (lgv x).set j u) : OL4 (w.setCell ⟨g, i * 4 + j, none⟩ u) B (.slice (some ⟨g, 0, none⟩) n c) (l.set i x') := by
 rcases h.2 with ⟨e', -⟩ | ⟨g', cap, cur, e', hg, hh, hc1, hc2, hsz, hcur⟩
 ·cases e'
 ·cases e'
  refine ⟨by rw [lgc_len], .inr ⟨g, c, cur.setIfInBounds (i * 4 + j) u, by rw [List.length_set], hg, heap_setCell_same w g (i * 4 + j) _ _ _ hh, by rw [List.length_set]; exact hc1, hc2, by simpa using hsz, ?_⟩⟩
  rw [List.length_set, Array.toList_setIfInBounds, List.take_set, hcur, lgc_set hj e l i hi]
theorem OL4.froz {w : World} {B g n c : Nat} {l : List Lg} (h : OL4 w B (.slice (some ⟨g, 0, none⟩) n c) l) (o : Nat) : w.frozen? ⟨g, o, none⟩ = false := by
 rcases h.2 with ⟨e', -⟩ | ⟨g', cap, cur, e', hg, hh, -⟩
 ·cases e'
 ·cases e'; exact frozen_of_row w g o _ _ hh
theorem OL4.none {w : World} {B g n c : Nat} {l : List Lg} (h : OL4 w B (.slice (some ⟨g, 0, Option.none⟩) n c) l) : OL4 w B (.slice (some ⟨g, 0, Option.none⟩) 0 c) [] := by
 rcases h.2 with ⟨e', -⟩ | ⟨g', cap, cur, e', hg, hh, hc1, hc2, hsz, hcur⟩
 ·cases e'
 ·cases e'
  exact ⟨rfl, .inr ⟨g, c, cur, rfl, hg, hh, Nat.zero_le _, hc2, hsz, by simp [lgc]⟩⟩
theorem OL4.cellJ {w : World} {B g n c i : Nat} {l : List Lg} {x : Lg} (h : OL4 w B (.slice (some ⟨g, 0, Option.none⟩) n c) l) (hi : l[i]? = some x) : w.cell? ⟨g, i * 4, Option.none⟩ = some (.int .i64 x.id) ∧ w.cell? ⟨g, i * 4 + 1, Option.none⟩ = some (.bool x.eq) ∧ w.cell? ⟨g, i * 4 + 2, Option.none⟩ = some (.slice x.sa x.ss.length x.sc) ∧ w.cell? ⟨g, i * 4 + 3, Option.none⟩ = some (.slice x.ta x.ts.length x.tc) := by
 obtain ⟨e0, e1, e2, e3⟩ := lgc_get hi
 have key : ∀ (j : Nat) (u : Value), (lgc l)[j]? = some u → w.cell? ⟨g, j, Option.none⟩ = some u := fun j u hj => by
  have hc := World.ownsRow.cells h (g := g) rfl j u hj
  rw [Addr.add_lit] at hc
  simpa using hc
 exact ⟨key _ _ e0, key _ _ e1, key _ _ e2, key _ _ e3⟩
theorem Lr.put {w : World} {lo g n c i j : Nat} {l : List Lg} {x x' : Lg} {u : Value} (h : Lr w lo (.slice (some ⟨g, 0, none⟩) n c) l) (hi : l[i]? = some x) (hj : j < 4) (e : lgv x' = (lgv x).set j u) (hx : Lq w lo x') : Lr (w.setCell ⟨g, i * 4 + j, none⟩ u) lo (.slice (some ⟨g, 0, none⟩) n c) (l.set i x') := by
 obtain ⟨cur, hc⟩ := ol4_typed h.row (b := g) rfl
 have hk : ∀ (k : Nat) (cur : Array Value) (t : TypeId), w.heap[k]? = some (.cells cur t (0, 0)) → t ≠ 30 → (w.setCell ⟨g, i * 4 + j, none⟩ u).heap[k]? = w.heap[k]? := fun k cur t hk ht => heap_setCell_other _ _ _ _ (fun e9 => by
  simp only [] at e9
  rw [e9, hc] at hk
  cases hk
  exact ht rfl)
 refine ⟨h.row.put hi hj e, fun y hy => ?_⟩
 rcases List.mem_or_eq_of_mem_set hy with h9 | h9
 ·exact (h.all y h9).kept hk
 ·rw [h9]; exact hx.kept hk
theorem Lr.cut {w : World} {lo g n c : Nat} {l : List Lg} (h : Lr w lo (.slice (some ⟨g, 0, Option.none⟩) n c) l) : Lr w lo (.slice (some ⟨g, 0, Option.none⟩) 0 c) [] := ⟨h.row.none, by simp⟩
theorem Lr.at {w : World} {lo n c : Nat} {a : Option Addr} {l : List Lg} (h : Lr w lo (.slice a n c) l) (h1 : 1 ≤ l.length) : ∃ g, a = some ⟨g, 0, none⟩ := by
 rcases h.row.2 with ⟨e, h0⟩ | ⟨g, cap, cur, e, -⟩
 ·omega
 ·cases e; exact ⟨g, rfl⟩
theorem Lq.withId {w : World} {lo : Nat} {x : Lg} (h : Lq w lo x) {i : Int} (hi : in64 i) : Lq w lo { x with id := i } := ⟨h.s, h.t, h.so, h.to, h.sl, h.tl, hi⟩
theorem Lq.withS {w : World} {lo : Nat} {x : Lg} {v : Value} {l : List Tg} (h : Lq w lo x) (hs : Tq w lo v l) (ho : ∀ y ∈ l, okT y.ct) (hl : l.length ≤ 500) : ∃ a c, v = .slice a l.length c ∧ Lq w lo { x with ss := l, sa := a, sc := c } := by
 obtain ⟨a, c, rfl⟩ := hs.form
 exact ⟨a, c, rfl, hs, h.t, ho, h.to, hl, h.tl, h.id⟩

def RetG4 (w0 : World) (β : Nat) (a : Option Addr) (c : Nat) (bs : List Nat) (da : Option Addr) (ds : List Dc) (u : World) (e : Ending) (u' : World) : Prop := ∃ v l, e = .returned (.agg #[v]) ∧ Tq u' u.heap.size v l ∧ l.length ≤ 500 ∧ (∀ x ∈ l, okT x.ct) ∧ Dl w0 u' β a c bs da ds ∧ Dw β u u'
def OddTermAny : Prop := ∀ (w0 w : World) (β : Nat) (a : Option Addr) (c : Nat) (bs : List Nat) (da : Option Addr) (ds : List Dc) (dc n : Nat) (want : Int), Dl w0 w β a c bs da ds → ds.length = n → 1 ≤ n → n ≤ 6 → (∀ x ∈ ds, 1 ≤ x.2 ∧ x.2 ≤ 200) → -5000 ≤ want → want ≤ 5000 →
  Calls Tryz.prog 69 #[.pointer (some ⟨β, 0, none⟩), .slice da n dc, .int .i64 want] w (RetG4 w0 β a c bs da ds w)

def RetLo (w0 : World) (β : Nat) (a : Option Addr) (c : Nat) (bs : List Nat) (da : Option Addr) (ds : List Dc) (u : World) (e : Ending) (u' : World) : Prop := ∃ v l, e = .returned v ∧ Lr u' u.heap.size v l ∧ l.length ≤ 61 ∧ Dl w0 u' β a c bs da ds ∧ Dw β u u'
def lenS : Value → Nat
 | .slice _ n _ => n
 | _ => 0
set_option maxHeartbeats 1000000 in
set_option maxRecDepth 100000 in
theorem oddLiterals_any (HGR : GrowAny) (HOD : OddTermAny) (w0 w : World) (β : Nat) (a : Option Addr) (c : Nat) (bs : List Nat) (da : Option Addr) (ds : List Dc) (dc n most : Nat) (h : Dl w0 w β a c bs da ds) (hn : ds.length = n) (h1 : 1 ≤ n) (h6 : n ≤ 6) (hw : ∀ x ∈ ds, 1 ≤ x.2 ∧ x.2 ≤ 200) (hm1 : 1 ≤ most) (hm2 : most ≤ 60) :
  Calls Tryz.prog 37 #[.pointer (some ⟨β, 0, none⟩), .slice da n dc, .int .i64 (most : Int)] w (RetLo w0 β a c bs da ds w) := by
 have HLI := kide (literals_any HGR w0 w β a c bs da ds dc n most h hn h1 h6 hw hm1 hm2)
 have HOT := kide (fun (u : World) (hu : Dl w0 u β a c bs da ds) => HOD w0 u β a c bs da ds dc n 0 hu hn h1 h6 hw (by omega) (by omega))
 have hβ : β < w.heap.size := Nat.lt_of_lt_of_le h.hβ h.size
 have hw0 := h.size
 clear h hn hw HGR HOD
 go_enter Tryz.func37, Tryz.ntmps37
 go_wp2_with fail
 refine Calls.mono HLI.out ?_
 rintro e w2 ⟨v, l, rfl, hlr, hl1, hl2, hid, hd2, hw2⟩
 obtain ⟨av, cv, hv⟩ := ol4_form hlr.row
 subst hv
 obtain ⟨g, rfl⟩ := hlr.at hl1
 obtain ⟨m, hm⟩ : ∃ m, l.length = m := ⟨_, rfl⟩
 rw [hm] at hlr hl1 hl2 ⊢
 have HM := kide hm
 have L2 := kide hlr
 have D2 := kide hd2
 have W2 := kide hw2
 have HID := kide hid
 have hm60 : m ≤ 60 := by omega
 clear hlr hd2 hw2 hid hm HLI
 go_wp2_with fail
 refine Calls.mono (below_any m (by omega) β a c bs _ D2.out.rr) ?_
 rintro e w4 ⟨i, rfl, hi, hr4, hd4⟩
 have D4 := kide (D2.out.draw hr4 hd4)
 have L4 := kide (L2.out.far hd4 hβ)
 have W4 := kide (W2.out.trans hd4)
 have him : i < m := by omega
 clear hr4 hd4 D2 L2 W2 hi
 go_wp2_with fail
 refine Calls.mono (below_any 40 (by omega) β a c bs _ D4.out.rr) ?_
 rintro e w5 ⟨q, rfl, hq, hr5, hd5⟩
 have D5 := kide (D4.out.draw hr5 hd5)
 have L5 := kide (L4.out.far hd5 hβ)
 have W5 := kide (W4.out.trans hd5)
 clear hr5 hd5 D4 L4 W4
 obtain ⟨x, hx⟩ : ∃ x, l[i]? = some x := ⟨_, List.getElem?_eq_getElem (show i < l.length by rw [HM.out]; exact him)⟩
 obtain ⟨y, hy0⟩ : ∃ y : Int, (q : Int) = y := ⟨_, rfl⟩
 rw [hy0]
 clear hy0 hq
 have iL : (i : Int) < (m : Int) := by omega
 rcases (show y = 0 ∨ ¬ y = 0 by omega) with hq0 | hq0
 ·subst hq0
  go_wp2_with fail
  refine Calls.mono (off_any 1 1000000 (by omega) (by omega) β a c bs w5 D5.out.rr) ?_
  rintro e w6 ⟨z, rfl, hz1, hz2, hr6, hd6⟩
  have D6 := kide (D5.out.draw hr6 hd6)
  have L6 := kide (L5.out.far hd6 hβ)
  have W6 := kide (W5.out.trans hd6)
  have cc := (L6.out.row.cellJ hx).1
  have ff := L6.out.row.froz (i * 4)
  have hgw := (L6.out.row.lt (b := g) rfl).1
  clear hr6 hd6
  go_wp2_with fail
  go_ret
  exact ⟨_, l.set i { x with id := z }, rfl, L6.out.put (j := 0) hx (by omega) rfl ((L6.out.all x (List.mem_of_getElem? hx)).withId ⟨hz1, hz2⟩), by rw [List.length_set, HM.out]; omega, D6.out.own (gsc w6 ⟨g, i * 4, none⟩ _) (fun k e => by cases e; exact Nat.le_trans hw0 hgw), W6.out.own (gsc w6 ⟨g, i * 4, none⟩ _) (fun k e => by cases e; exact hgw)⟩
 have hqi0 : (y == 0) = false := by simp; omega
 rcases (show y = 1 ∨ ¬ y = 1 by omega) with hq1 | hq1
 ·subst hq1
  go_wp2_with fail
  refine Calls.mono (HOT.out w5 D5.out) ?_
  rintro e w6 ⟨v6, l6, rfl, ht6, hl6, hok6, hd6, hw6⟩
  have hz5 : w.heap.size ≤ w5.heap.size := W5.out.size
  have L6 := kide (L5.out.far hw6 hβ)
  have W6 := kide (W5.out.trans hw6)
  have D6 := kide hd6
  obtain ⟨sa, sc, rfl, hlq⟩ := (L6.out.all x (List.mem_of_getElem? hx)).withS (ht6.low hz5) hok6 hl6
  have LQ := kide hlq
  have cc := (L6.out.row.cellJ hx).2.2.1
  have ff := L6.out.row.froz (i * 4 + 2)
  have hgw := (L6.out.row.lt (b := g) rfl).1
  clear ht6 hl6 hok6 hd6 hw6 hlq
  go_wp2_with fail
  go_ret
  exact ⟨_, l.set i { x with ss := l6, sa := sa, sc := sc }, rfl, L6.out.put (j := 2) hx (by omega) rfl LQ.out, by rw [List.length_set, HM.out]; omega, D6.out.own (gsc w6 ⟨g, i * 4 + 2, none⟩ _) (fun k e => by cases e; exact Nat.le_trans hw0 hgw), W6.out.own (gsc w6 ⟨g, i * 4 + 2, none⟩ _) (fun k e => by cases e; exact hgw)⟩
 have hqi1 : (y == 1) = false := by simp; omega
 rcases (show y = 2 ∨ ¬ y = 2 by omega) with hq2 | hq2
 ·subst hq2
  go_wp2_with fail
  go_loopw [7] (fun v wr => ∃ (sa : Nat) (sc k : Nat) (l : List Lg), v = .slice (some ⟨sa, 0, none⟩) k sc ∧ l.length = k ∧ 1 ≤ k ∧ k ≤ 61 ∧ Lr wr w.heap.size (.slice (some ⟨sa, 0, none⟩) k sc) l ∧ (∀ x ∈ l, 0 ≤ x.id ∧ x.id ≤ 1000 + k) ∧ Dl w0 wr β a c bs da ds ∧ Dw β w wr) (fun v _ => 100 - lenS v)
  case atStart => exact ⟨g, cv, m, l, rfl, HM.out, by omega, by omega, L5.out, fun x hx => by have := HID.out x hx; omega, D5.out, W5.out⟩
  case round =>
   clear D5 L5 W5 hx HM HID iL him hl1 hl2 hm60
   clear x l
   obtain ⟨g2, cv2, k, l, rfl, hlk, hk1, hk61, hlr, hid, hdl, hdw⟩ := hrel
   have LR := kide hlr
   have DL := kide hdl
   have DW := kide hdw
   have HID := kide hid
   have HLK := kide hlk
   clear hlr hdl hdw hid hlk
   go_wp2_with fail
   refine Calls.mono (below_any 2 (by omega) β a c bs wr DL.out.rr) ?_
   rintro e wz ⟨z, rfl, hz, hrz, hdz⟩
   have DZ := kide (DL.out.draw hrz hdz)
   have LZ := kide (LR.out.far hdz hβ)
   have WZ := kide (DW.out.trans hdz)
   have hz1 : (z : Int) ≤ 1 := by omega
   clear hrz hdz DL LR DW hz
   by_cases hlt : (k : Int) < 60 + (z : Int)
   ·obtain ⟨x, hx⟩ : ∃ x, l[0]? = some x := ⟨_, List.getElem?_eq_getElem (by rw [HLK.out]; omega)⟩
    obtain ⟨j, hj⟩ : ∃ j, k = j + 1 := ⟨k - 1, by omega⟩
    obtain ⟨y, hy⟩ : ∃ y, l[j]? = some y := ⟨_, List.getElem?_eq_getElem (by rw [HLK.out]; omega)⟩
    obtain ⟨p0, p1, p2, p3⟩ := LZ.out.row.cellJ hx
    have r0 := (LZ.out.row.cellJ hy).1
    simp only [Nat.zero_mul, Nat.zero_add] at p0 p1 p2 p3
    have hgl := (LZ.out.row.lt (b := g2) rfl).2
    have hgw := (LZ.out.row.lt (b := g2) rfl).1
    have hyi := HID.out y (List.mem_of_getElem? hy)
    have hkj : (k : Int) - 1 = (j : Int) := by omega
    have hjl : (j : Int) < (k : Int) := by omega
    have hkp : (0 : Int) < (k : Int) := by omega
    have hjw : IntKind.i64.wrap (j : Int) = (j : Int) := by rw [IntKind.wrap_i64]; first | omega | (unfold wrap64; omega)
    have hyw : IntKind.i64.wrap (y.id + 1) = y.id + 1 := by rw [IntKind.wrap_i64]; first | omega | (unfold wrap64; omega)
    have HJ := kide hj
    have HYI := kide hyi
    clear hj hyi
    have BA : Hid (Below wz.heap.size wz ((wz.alloc (Obj.cells #[.int .i64 (y.id + 1), .bool x.eq, .slice x.sa x.ss.length x.sc, .slice x.ta x.ts.length x.tc] 30)).alloc (Obj.cells #[.int .i64 (y.id + 1), .bool x.eq, .slice x.sa x.ss.length x.sc, .slice x.ta x.ts.length x.tc] 30))) := ((Below.refl _ _).alloc (Nat.le_refl _) _).alloc (by simp) _
    have LA := kide (LZ.out.later BA.out)
    have QA : Hid (Lq ((wz.alloc (Obj.cells #[.int .i64 (y.id + 1), .bool x.eq, .slice x.sa x.ss.length x.sc, .slice x.ta x.ts.length x.tc] 30)).alloc (Obj.cells #[.int .i64 (y.id + 1), .bool x.eq, .slice x.sa x.ss.length x.sc, .slice x.ta x.ts.length x.tc] 30)) w.heap.size { x with id := y.id + 1 }) := ((LZ.out.all x (List.mem_of_getElem? hx)).withId (by have := HYI.out; unfold in64; omega)).later BA.out
    have DA := kide (DZ.out.later BA.out)
    have WA : Hid (Dw β w ((wz.alloc (Obj.cells #[.int .i64 (y.id + 1), .bool x.eq, .slice x.sa x.ss.length x.sc, .slice x.ta x.ts.length x.tc] 30)).alloc (Obj.cells #[.int .i64 (y.id + 1), .bool x.eq, .slice x.sa x.ss.length x.sc, .slice x.ta x.ts.length x.tc] 30))) := WZ.out.trans (Dw.of BA.out)
    have hll : l.length ≤ 1073741824 := by rw [HLK.out]; omega
    have hsw : w.heap.size ≤ wz.heap.size + 1 + 1 := by have := WZ.out.size; omega
    go_wp2_with (at_builtin; refine wpList_appL4 rfl _ _ rfl w.heap.size _ l { x with id := y.id + 1 } rfl LA.out.row _ rfl (by simp) (by simp) (by simp) (by simp) hll (by simpa using hsw) ?_)
    intro v6 w6 ho6 hg6
    have hr6 : ∀ q, (Value.slice (some ⟨g2, 0, none⟩) k cv2).ownBlock = some q → w.heap.size ≤ q := fun q e => (LA.out.row.lt e).1
    have L6 := kide (LA.out.push QA.out hg6 ho6)
    have D6 := kide (DA.out.own hg6 (fun q e => Nat.le_trans hw0 (hr6 q e)))
    have W6 := kide (WA.out.own hg6 hr6)
    have hL1 : (l ++ [{ x with id := y.id + 1 }]).length = k + 1 := by simp [HLK.out]
    obtain ⟨a6, c6, hv6⟩ := ol4_form ho6
    subst hv6
    rw [hL1] at L6 ⊢
    obtain ⟨g6, rfl⟩ := L6.out.at (by rw [hL1]; omega)
    have HL1 := kide hL1
    clear ho6 hg6 LA DA WA QA BA hL1
    go_wp2_with fail
    go_roundw
    case rel => exact ⟨g6, c6, k + 1, _, rfl, HL1.out, by omega, by omega, L6.out, fun u hu => by
     rcases List.mem_append.1 hu with h9 | h9
     ·have := HID.out u h9; omega
     ·rw [List.mem_singleton.1 h9]; have := HYI.out; simp only []; omega, D6.out, W6.out⟩
    case measure => simp only [lenS]; omega
   ·go_wp2_with fail
    go_ret
    exact ⟨_, l, rfl, LZ.out, by rw [HLK.out]; omega, DZ.out, WZ.out⟩
 have hqi2 : (y == 2) = false := by simp; omega
 rcases (show y = 3 ∨ ¬ y = 3 by omega) with hq3 | hq3
 ·subst hq3
  go_wp2_with fail
  go_ret
  exact ⟨_, [], rfl, L5.out.cut, by simp, D5.out, W5.out⟩
 have hqi3 : (y == 3) = false := by simp; omega
 go_wp2_with fail
 go_ret
 exact ⟨_, l, rfl, L5.out, by rw [HM.out]; omega, D5.out, W5.out⟩

def OddLitAny : Prop := ∀ (w0 w : World) (β : Nat) (a : Option Addr) (c : Nat) (bs : List Nat) (da : Option Addr) (ds : List Dc) (dc n most : Nat), Dl w0 w β a c bs da ds → ds.length = n → 1 ≤ n → n ≤ 6 → (∀ x ∈ ds, 1 ≤ x.2 ∧ x.2 ≤ 200) → 1 ≤ most → most ≤ 60 →
  Calls Tryz.prog 37 #[.pointer (some ⟨β, 0, none⟩), .slice da n dc, .int .i64 (most : Int)] w (RetLo w0 β a c bs da ds w)
def RetDF (w : World) (e : Ending) (w' : World) : Prop := ∃ a1 c1 ds a2 c2 xs a3 c3 ls, e = .returned (.tuple #[.slice a1 ds.length c1, .slice a2 xs.length c2, .slice a3 ls.length c3]) ∧ RdD w' a1 ds ∧ RdW w' a2 xs ∧ RdL w' a3 ls ∧ ls.length ≤ 61 ∧ Below w.heap.size w w'
def RetDK (w : World) (e : Ending) (w' : World) : Prop := ∃ a1 c1 ds a2 c2 xs a3 c3 ls, e = .returned (.tuple #[.slice a1 ds.length c1, .slice a3 ls.length c3, .slice a2 xs.length c2]) ∧ RdD w' a1 ds ∧ RdW w' a2 xs ∧ RdL w' a3 ls ∧ ls.length ≤ 61 ∧ Below w.heap.size w w'
set_option maxHeartbeats 1000000 in
theorem drawFirst_any (HO2 : OddLitAny) (a : Option Addr) (c : Nat) (bs : List Nat) (w : World) (h : RdB w a bs) :
  Calls Tryz.prog 45 #[.slice a bs.length c] w (RetDF w) := by
 have HO := kide (open_any a c bs w h)
 have HOL := kide HO2
 have hlb := h.1
 generalize bs.length = bn at *
 clear h HO2
 go_enter Tryz.func45, Tryz.ntmps45
 go_wp2_with fail
 refine Calls.mono HO.out ?_
 rintro e w1 ⟨β, rfl, hβ, r1, hb1⟩
 have R1 := kide r1
 have B1 := kide hb1
 clear r1 hb1
 go_wp2_with fail
 refine Calls.mono (decls_any β a c bs w1 R1.out) ?_
 rintro e w2 ⟨v2, ds, rfl, o2, hd1, hd6, hdx, r2, d2⟩
 have R2 := kide r2
 have D2 := kide d2
 have HL1 := R1.out.lt
 obtain ⟨a1, c1, rfl, hrd⟩ := o2.rd (by omega) (fun x hx => ⟨by have := hdx x hx; unfold in64; omega, by have := (hdx x hx).2.2; omega⟩)
 have O2 := kide o2
 have RD2 := kide hrd
 have HDX := kide hdx
 have HA1 : Hid (∀ p, a1 = some p → p.block ≠ β ∧ p.block < w2.heap.size) := fun p hp => by
  subst hp
  have := (o2.lt (b := p.block) (by rcases o2.2 with ⟨e', -⟩ | ⟨g, cap, cur, e', -⟩ <;> cases e'; rfl))
  exact ⟨by omega, this.2⟩
 have HL2 : β < w2.heap.size := Nat.lt_of_lt_of_le HL1 D2.out.size
 clear r2 d2 o2 hrd hdx
 have HVL := kide (values_any β a c bs a1 c1 ds w2 R2.out RD2.out (fun p hp => (HA1.out p hp).1) hd1 hd6 (fun x hx => ⟨(HDX.out x hx).1, (HDX.out x hx).2.1⟩))
 obtain ⟨n, hn⟩ : ∃ n, ds.length = n := ⟨_, rfl⟩
 have HN := kide hn
 rw [hn] at hd1 hd6 HVL ⊢
 clear hn
 go_wp2_with fail
 refine Calls.mono HVL.out ?_
 rintro e w3 ⟨a2, c2, xs, rfl, hx6, g3, r3, d3⟩
 have G3 := kide g3
 have D3 := kide d3
 have DL : Hid (Dl w3 w3 β a c bs a1 ds) := ⟨r3, r3, Dw.refl _ _, RD2.out.farB d3 (fun p hp => (HA1.out p hp).1), Nat.lt_of_lt_of_le HL2 d3.size, fun p hp => ⟨(HA1.out p hp).1, Nat.lt_of_lt_of_le (HA1.out p hp).2 d3.size⟩⟩
 obtain ⟨nx, hnx⟩ : ∃ nx, xs.length = nx := ⟨_, rfl⟩
 have HNX := kide hnx
 rw [hnx]
 clear g3 r3 d3 HVL hnx
 go_wp2_with fail
 refine Calls.mono (HOL.out w3 w3 β a c bs a1 ds c1 n 6 DL.out HN.out hd1 hd6 (fun x hx => ⟨(HDX.out x hx).1, (HDX.out x hx).2.1⟩) (by omega) (by omega)) ?_
 rintro e w4 ⟨v4, ls, rfl, hlr, hl61, hdl, hdw⟩
 obtain ⟨a3, c3, rfl, hrl⟩ := hlr.rd (by omega)
 have HF : Hid (RdD w4 a1 ds ∧ RdW w4 a2 xs ∧ RdL w4 a3 ls ∧ ls.length ≤ 61 ∧ Below w.heap.size w w4) := ⟨hdl.dd, (G3.out.far hdw HL2).1, hrl, hl61, (B1.out.trans ((D2.out.below hβ B1.out.size))).trans (((D3.out.trans hdw).below hβ (Nat.le_trans B1.out.size D2.out.size)))⟩
 clear hlr hdl hdw hrl DL
 go_wp2_with fail
 go_returns
 exact ⟨a1, c1, ds, a2, c2, xs, a3, c3, ls, by rw [HN.out, HNX.out]; rfl, HF.out⟩
set_option maxHeartbeats 1000000 in
theorem drawWeaken_any (HO2 : OddLitAny) (a : Option Addr) (c : Nat) (bs : List Nat) (w : World) (h : RdB w a bs) :
  Calls Tryz.prog 12 #[.slice a bs.length c] w (RetDK w) := by
 have HO := kide (drawFirst_any HO2 a c bs w h)
 generalize bs.length = bn at *
 clear h HO2
 go_enter Tryz.func12, Tryz.ntmps12
 go_wp2_with fail
 refine Calls.mono HO.out ?_
 rintro e w4 ⟨a1, c1, ds, a2, c2, xs, a3, c3, ls, rfl, HF⟩
 have HF := kide HF
 obtain ⟨nx, hnx⟩ : ∃ nx, xs.length = nx := ⟨_, rfl⟩
 obtain ⟨nd, hnd⟩ : ∃ nx, ds.length = nx := ⟨_, rfl⟩
 obtain ⟨nl, hnl⟩ : ∃ nx, ls.length = nx := ⟨_, rfl⟩
 have HNX := kide hnx
 have HND := kide hnd
 have HNL := kide hnl
 rw [hnx, hnd, hnl]
 clear hnx hnd hnl
 go_wp2_with fail
 go_returns
 exact ⟨a1, c1, ds, a2, c2, xs, a3, c3, ls, by rw [HND.out, HNX.out, HNL.out]; rfl, HF.out⟩

theorem big_any (a : Option Addr) (n c : Nat) (w : World) (hn : n ≤ 9223372036854775807) :
  Calls Tryz.prog 7 #[.slice a n c] w fun e w' => e = .returned (.bool (decide (1048576 < n))) ∧ w' = w := by
 by_cases h : 1048576 < n
 ·have hi : (1048576 : Int) < (n : Int) := by omega
  go_enter Tryz.func7, Tryz.ntmps7
  go_wp2
  go_ret
  exact ⟨by simp [h], rfl⟩
 ·have hi : ¬ (1048576 : Int) < (n : Int) := by omega
  go_enter Tryz.func7, Tryz.ntmps7
  go_wp2
  go_ret
  exact ⟨by simp [h], rfl⟩
theorem has_any (a : Option Addr) (c : Nat) (ks : List Int) (x : Int) (w : World) (hr : RdI w a ks) :
  Calls Tryz.prog 15 #[.slice a ks.length c, .int .i64 x] w fun e w' => e = .returned (.bool (decide (x ∈ ks))) ∧ w' = w := by
 have hlen := hr.1
 go_enter Tryz.func15, Tryz.ntmps15
 go_wp2_with fail
 go_loop [5] (fun i => ∃ k : Nat, k ≤ ks.length ∧ i = .int .i64 (k : Int) ∧ ∀ j, j < k → ks.getD j 0 ≠ x) (fun i => ks.length - (intOf i).toNat)
 case atStart => exact ⟨0, Nat.zero_le _, rfl, fun j h => by omega⟩
 case round =>
  obtain ⟨k, hk, rfl, hz⟩ := hrel
  have HZ := kide hz
  by_cases hlt : k < ks.length
  ·obtain ⟨-, -, h | ⟨b, o, rfl, hc⟩⟩ := hr
   ·subst h; simp at hlt
   have e0 := hc k hlt
   have hmem : ks.getD k 0 ∈ ks := by simp [List.getD, hlt]
   generalize hy : ks.getD k 0 = y at *
   have HY := kide hy
   have i0 : (k : Int) < (ks.length : Int) := by omega
   clear hc hz hy
   by_cases hxy : y = x
   ·have e1 : (y == x) = true := by simp [hxy]
    have HR : Hid (decide (x ∈ ks) = true) := decide_eq_true (by rw [← hxy]; exact hmem)
    clear hxy hmem
    go_wp2_with fail
    go_ret
    exact ⟨ret_bool HR.out.symm, rfl⟩
   ·have e1 : (y == x) = false := by simp [hxy]
    have HX := kide hxy
    clear hxy hmem
    go_wp2_with fail
    go_round
    case rel =>
     refine ⟨k + 1, by omega, by go_num, fun j hj => ?_⟩
     by_cases hjk : j = k
     ·rw [hjk, HY.out]; exact HX.out
     ·exact HZ.out j (by omega)
    case measure => simp [intOf]; omega
  ·have HR : Hid (decide (x ∈ ks) = false) := decide_eq_false (fun h => by
    obtain ⟨j, hj, e⟩ := List.mem_iff_getElem.1 h
    exact hz j (by omega) (by simp [List.getD, hj, e]))
   clear hz
   go_wp2_with fail
   go_ret
   exact ⟨ret_bool HR.out.symm, rfl⟩

end Go.Proofs.YtkngpgonmedgpaaGreatDoor
