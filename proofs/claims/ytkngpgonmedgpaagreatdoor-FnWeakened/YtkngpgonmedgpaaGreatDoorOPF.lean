/- Drawn terms, some of them wrong. -/
import Derived.Test.YtkngpgonmedgpaaGreatDoorRX
import Derived.Test.YtkngpgonmedgpaaGreatDoorGAS
import Derived.Test.YtkngpgonmedgpaaGreatDoorTAP
import Derived.Handy
namespace Go.Proofs.YtkngpgonmedgpaaGreatDoor
set_option linter.unusedVariables false
set_option linter.unusedSimpArgs false
open Go.RowKit
def LT (w1 : World) (β : Nat) (a : Option Addr) (c : Nat) (bs : List Nat) (da : Option Addr) (ds : List Dc) (dc n : Nat) (want : Int) (rb tb : Nat) (a' : Act) (w' : World) : Prop := ∃ (ta : Option Addr) (tc m : Nat) (l : List Tg), (∃ u : Nat → Value, a' = ({ tmps := #[.pointer (some ⟨β, 0, none⟩), .slice da n dc, .int .i64 want, undef, undef, undef, .pointer (some ⟨rb, 0, none⟩), .pointer (some ⟨tb, 0, none⟩), u 8, u 9, u 10, u 11, u 12, u 13, u 14, u 15, u 16, u 17, u 18, u 19, u 20, u 21, u 22, u 23, u 24, u 25, u 26, u 27, u 28, u 29, u 30, u 31, u 32, u 33, u 34, u 35, u 36, u 37, u 38, u 39, u 40, u 41, u 42, u 43, u 44, u 45, u 46, u 47, u 48, u 49, u 50, u 51, u 52, u 53, u 54, u 55, u 56, u 57, u 58, u 59, u 60, u 61, u 62, u 63, u 64, u 65, u 66, u 67, u 68, u 69, u 70, u 71, u 72, u 73, u 74, u 75, u 76, u 77, u 78, u 79, u 80, u 81, u 82, u 83, u 84, u 85, u 86, u 87, u 88, u 89, u 90, u 91, u 92, u 93, u 94, u 95, u 96, u 97, u 98, u 99, u 100, u 101, u 102, u 103, u 104, u 105, u 106, u 107, u 108, u 109, u 110, u 111, u 112, u 113, u 114, u 115, u 116, u 117, u 118, u 119, u 120, u 121, u 122, u 123, u 124, u 125, u 126, u 127, u 128, u 129, u 130, u 131, u 132, u 133, u 134, u 135, u 136, u 137, u 138, u 139, u 140, u 141, u 142, u 143, u 144], defers := [] } : Act)) ∧ Gr w1 w' β a c bs da ds (.slice ta m tc) l ∧ Bz w' tb #[.slice ta m tc] 28 ∧ l.length = m ∧ m ≤ 500 ∧ (∀ x ∈ l, okT x.ct)
theorem Bz.apartT {w : World} {b g n c B : Nat} {cs : Array Value} {l : List Tg} (h : Bz w b cs 28) (ho : OT w B (.slice (some ⟨g, 0, none⟩) n c) l) : b ≠ g := fun e => by
 obtain ⟨cur, hc⟩ := ho.typed (b := g) rfl
 unfold Bz at h
 rw [e, hc] at h
 cases h
theorem OT.cellJ {w : World} {B g n c i j : Nat} {l : List Tg} {x : Tg} {u : Value} (h : OT w B (.slice (some ⟨g, 0, none⟩) n c) l) (hi : l[i]? = some x) (hj : j < 7) (hu : (tgv x)[j]? = some u) : w.cell? ⟨g, i * 7 + j, none⟩ = some u := by
 have hc := World.ownsRow.cells h (g := g) rfl (i * 7 + j) u (by rw [tgc_get j hj hi]; exact hu)
 rw [Addr.add_lit] at hc
 simpa using hc
theorem Gr.putN {w0 w : World} {β g n c' i j : Nat} {a : Option Addr} {c : Nat} {bs : List Nat} {da : Option Addr} {ds : List Dc} {l : List Tg} {x x' : Tg} {u : Value} (h : Gr w0 w β a c bs da ds (.slice (some ⟨g, 0, none⟩) n c') l) (hi : l[i]? = some x) (hj : j < 7) (e : tgv x' = (tgv x).set j u) (e1 : x'.wa = x.wa) (e2 : x'.ct.ws = x.ct.ws) (e3 : x'.ka = x.ka) (e4 : x'.ct.ks = x.ct.ks) (e5 : x'.wc = x.wc) (e6 : x'.kc = x.kc) : Gr w0 (w.setCell ⟨g, i * 7 + j, none⟩ u) β a c bs da ds (.slice (some ⟨g, 0, none⟩) n c') (l.set i x') := by
 have hm := List.mem_of_getElem? hi
 have hg : w.grownBy (w.setCell ⟨g, i * 7 + j, none⟩ u) (some g) := gsc w ⟨g, i * 7 + j, none⟩ u
 have hr : ∀ k, some g = some k → w0.heap.size ≤ k := fun k e => by cases e; exact (h.tq.row.lt (b := g) rfl).1
 exact ⟨h.r0, Rr.far h.r0 h.rr hg hr, h.dw.own hg hr, rdd_own h.dd hg hr (fun p hp => (h.hd p hp).2) h.dw.size, h.tq.put hi hj e (by rw [e1, e2]; exact h.tq.wn x hm) (by rw [e3, e4]; exact h.tq.kn x hm) (by rw [e1, e3, e5, e6]; exact h.tq.sn x hm), h.hβ, h.hd⟩
theorem Tq.pushs {w w' : World} {B : Nat} {v v' : Value} {l ys : List Tg} (h : Tq w B v l) (hy : ∀ y ∈ ys, Nw w B y.wa y.ct.ws ∧ Ni w B y.ka y.ct.ks ∧ (y.wa = none → y.wc = 0) ∧ (y.ka = none → y.kc = 0)) (hg : w.grownBy w' v.ownBlock) (ho : OT w' B v' (l ++ ys)) : Tq w' B v' (l ++ ys) where
 row := ho
 wn := fun x hx => by
  rcases List.mem_append.1 hx with hx | hx
  ·exact nw_rowT (h.wn x hx) h.row hg
  ·exact nw_rowT (hy x hx).1 h.row hg
 kn := fun x hx => by
  rcases List.mem_append.1 hx with hx | hx
  ·exact ni_rowT (h.kn x hx) h.row hg
  ·exact ni_rowT (hy x hx).2.1 h.row hg
 sn := fun x hx => by
  rcases List.mem_append.1 hx with hx | hx
  ·exact h.sn x hx
  ·exact (hy x hx).2.2
theorem Gr.pushs {w0 u u' : World} {β : Nat} {a : Option Addr} {c : Nat} {bs : List Nat} {da : Option Addr} {ds : List Dc} {v v' : Value} {l ys : List Tg} (h : Gr w0 u β a c bs da ds v l) (hy : ∀ y ∈ ys, Nw u w0.heap.size y.wa y.ct.ws ∧ Ni u w0.heap.size y.ka y.ct.ks ∧ (y.wa = none → y.wc = 0) ∧ (y.ka = none → y.kc = 0)) (hg : u.grownBy u' v.ownBlock) (ho : OT u' w0.heap.size v' (l ++ ys)) : Gr w0 u' β a c bs da ds v' (l ++ ys) :=
 have hr : ∀ k, v.ownBlock = some k → w0.heap.size ≤ k := fun k e => (h.tq.row.lt e).1
 ⟨h.r0, Rr.far h.r0 h.rr hg hr, h.dw.own hg hr, rdd_own h.dd hg hr (fun p hp => (h.hd p hp).2) h.dw.size, h.tq.pushs hy hg ho, h.hβ, h.hd⟩
def lenAt (w : World) (b : Nat) : Nat := match w.cell? ⟨b, 0, none⟩ with | some (.slice _ n _) => n | _ => 0
theorem lenAt_of {w : World} {b n c : Nat} {a : Option Addr} {t : TypeId} (h : Bz w b #[.slice a n c] t) : lenAt w b = n := by
 have e := h.cell 0
 unfold lenAt
 rw [e]
 rfl
theorem Tq.cellT {w : World} {B b o : Nat} {v : Value} {l : List Tg} {cs : Array Value} (h : Tq w B v l) (hb : Bz w b cs 28) (x : Value) : Tq (w.setCell ⟨b, o, none⟩ x) B v l := by
 have hg : w.grownBy (w.setCell ⟨b, o, none⟩ x) (some b) := gsc w ⟨b, o, none⟩ x
 unfold Bz at hb
 refine ⟨h.row.move fun k hk => hg.block k (h.row.lt hk).2 (fun e => ?_), fun y hy => nw_blk (h.wn y hy) fun p hp => hg.block _ (nw_ltB (h.wn y hy) hp).2 (fun e => ?_), fun y hy => ni_blk (h.kn y hy) fun p hp => hg.block _ (ni_lt (h.kn y hy) hp).2 (fun e => ?_), h.sn⟩
 ·obtain ⟨c2, k2⟩ := h.row.typed hk
  have e9 := Option.some.inj e
  rw [e9, hb] at k2
  cases k2
 ·obtain ⟨c2, k2⟩ := nw_typed (h.wn y hy) hp
  have e9 := Option.some.inj e
  rw [e9, hb] at k2
  cases k2
 ·obtain ⟨c2, k2⟩ := ni_typed (h.kn y hy) hp
  have e9 := Option.some.inj e
  rw [e9, hb] at k2
  cases k2
theorem own_blk {a : Option Addr} {n c k : Nat} (h : (Value.slice a n c).ownBlock = some k) : ∃ p, a = some p ∧ p.block = k := by
 cases a with
 | none => cases h
 | some p => cases h; exact ⟨p, rfl, rfl⟩
theorem kept_oi {w w' : World} {B n c : Nat} {a : Option Addr} {xs : List Int} (h : OI w B (.slice a n c) xs) (hg : w.grownBy w' (Value.slice a n c).ownBlock) {k : Nat} {cur : Array Value} {t : TypeId} (hc : w.heap[k]? = some (.cells cur t (0, 0))) (ht : t ≠ 2) : w'.heap[k]? = w.heap[k]? :=
 hg.block k (lt_of_block hc) (fun e => by
  obtain ⟨p, hp, hk⟩ := own_blk e.symm
  obtain ⟨⟨c2, k2⟩, -⟩ := oi_typ h hp
  rw [hk, hc] at k2
  cases k2
  exact ht rfl)
theorem bz_oi {w w' : World} {b B n c : Nat} {a : Option Addr} {xs : List Int} {cs : Array Value} {t : TypeId} (hb : Bz w b cs t) (h : OI w B (.slice a n c) xs) (ht : t ≠ 2) (hg : w.grownBy w' (Value.slice a n c).ownBlock) : Bz w' b cs t := by
 unfold Bz at hb ⊢
 rw [kept_oi h hg hb ht]
 exact hb
theorem ot_oi {w w' : World} {B n c B' : Nat} {a : Option Addr} {xs : List Int} {v : Value} {l : List Tg} (ho : OT w B' v l) (h : OI w B (.slice a n c) xs) (hg : w.grownBy w' (Value.slice a n c).ownBlock) : OT w' B' v l := ho.move fun k hk => by
 obtain ⟨cur, hc⟩ := ho.typed hk
 exact kept_oi h hg hc (by decide)
theorem OI.ni1 {w : World} {B g n c : Nat} {xs : List Int} (h : OI w B (.slice (some ⟨g, 0, none⟩) n c) xs) : Ni w B (some ⟨g, 0, none⟩) xs := by
 obtain ⟨a, c', e, hn⟩ := h.ni
 cases e
 exact hn
theorem Tq.kids {w w' : World} {B g n c i : Nat} {l : List Tg} {x x' : Tg} {v : Value} (h : Tq w B (.slice (some ⟨g, 0, none⟩) n c) l) (hk : Ko w B l) (hi : l[i]? = some x) (hg : w.grownBy w' (Value.slice x.ka x.ct.ks.length x.kc).ownBlock) (e : tgv x' = (tgv x).set 6 v) (e1 : x'.wa = x.wa) (e2 : x'.ct.ws = x.ct.ws) (e3 : x'.wc = x.wc) (hn : Ni w' B x'.ka x'.ct.ks) (hs : x'.ka = none → x'.kc = 0) : Tq (w'.setCell ⟨g, i * 7 + 6, none⟩ v) B (.slice (some ⟨g, 0, none⟩) n c) (l.set i x') := by
 have hm := List.mem_of_getElem? hi
 have ho := hk.oi x hm
 have hr := ot_oi h.row ho hg
 obtain ⟨cur, hc⟩ := hr.typed (b := g) rfl
 have kw : ∀ y ∈ l, Nw (w'.setCell ⟨g, i * 7 + 6, none⟩ v) B y.wa y.ct.ws := fun y hy => by
  have h1 : Nw w' B y.wa y.ct.ws := nw_blk (h.wn y hy) fun p hp => by
   obtain ⟨c2, k2⟩ := nw_typed (h.wn y hy) hp
   exact kept_oi ho hg k2 (by decide)
  exact nw_blk h1 fun p hp => heap_setCell_other _ _ _ _ (fun e9 => by
   obtain ⟨c2, k2⟩ := nw_typed h1 hp
   simp only [] at e9
   rw [e9, hc] at k2
   cases k2)
 have kk : ∀ y : Tg, Ni w' B y.ka y.ct.ks → Ni (w'.setCell ⟨g, i * 7 + 6, none⟩ v) B y.ka y.ct.ks := fun y hy => ni_blk hy fun p hp => heap_setCell_other _ _ _ _ (fun e9 => by
  obtain ⟨c2, k2⟩ := ni_typed hy hp
  simp only [] at e9
  rw [e9, hc] at k2
  cases k2)
 refine ⟨hr.put hi (by omega) e, fun y hy => ?_, fun y hy => ?_, fun y hy => ?_⟩
 ·rcases List.mem_or_eq_of_mem_set hy with h9 | h9
  ·exact kw y h9
  ·rw [h9, e1, e2]; exact kw x hm
 ·obtain ⟨j, hj⟩ := List.getElem?_of_mem hy
  by_cases hji : i = j
  ·subst hji
   have hl : i < l.length := (List.getElem?_eq_some_iff.1 hi).1
   rw [List.getElem?_set_self hl] at hj
   cases hj
   exact kk x' hn
  ·rw [List.getElem?_set_ne hji] at hj
   have hy' := List.mem_of_getElem? hj
   refine kk y (ni_blk (h.kn y hy') fun p hp => hg.block _ (ni_lt (h.kn y hy') hp).2 (fun e9 => ?_))
   obtain ⟨q, hq, hqb⟩ := own_blk e9.symm
   exact hk.dj i j x y q p hi hj hji hq hp hqb
 ·rcases List.mem_or_eq_of_mem_set hy with h9 | h9
  ·exact h.sn y h9
  ·rw [h9]; exact ⟨fun e9 => by rw [e3]; exact (h.sn x hm).1 (by rw [← e1]; exact e9), hs⟩
theorem Gr.kids {w0 w w' : World} {β g n c' i : Nat} {a : Option Addr} {c : Nat} {bs : List Nat} {da : Option Addr} {ds : List Dc} {l : List Tg} {x x' : Tg} {v : Value} (h : Gr w0 w β a c bs da ds (.slice (some ⟨g, 0, none⟩) n c') l) (hk : Ko w w0.heap.size l) (hi : l[i]? = some x) (hg : w.grownBy w' (Value.slice x.ka x.ct.ks.length x.kc).ownBlock) (e : tgv x' = (tgv x).set 6 v) (e1 : x'.wa = x.wa) (e2 : x'.ct.ws = x.ct.ws) (e3 : x'.wc = x.wc) (hn : Ni w' w0.heap.size x'.ka x'.ct.ks) (hs : x'.ka = none → x'.kc = 0) : Gr w0 (w'.setCell ⟨g, i * 7 + 6, none⟩ v) β a c bs da ds (.slice (some ⟨g, 0, none⟩) n c') (l.set i x') := by
 have hr : ∀ k, (Value.slice x.ka x.ct.ks.length x.kc).ownBlock = some k → w0.heap.size ≤ k := fun k e => by
  obtain ⟨p, hp, rfl⟩ := own_blk e
  exact (oi_typ (hk.oi x (List.mem_of_getElem? hi)) hp).2.1
 have hg2 : w'.grownBy (w'.setCell ⟨g, i * 7 + 6, none⟩ v) (some g) := gsc w' ⟨g, i * 7 + 6, none⟩ v
 have hr2 : ∀ k, some g = some k → w0.heap.size ≤ k := fun k e => by cases e; exact (h.tq.row.lt (b := g) rfl).1
 have hdw := h.dw.own hg hr
 exact ⟨h.r0, Rr.far h.r0 (Rr.far h.r0 h.rr hg hr) hg2 hr2, hdw.own hg2 hr2, rdd_own (rdd_own h.dd hg hr (fun p hp => (h.hd p hp).2) h.dw.size) hg2 hr2 (fun p hp => (h.hd p hp).2) hdw.size, h.tq.kids hk hi hg e e1 e2 e3 hn hs, h.hβ, h.hd⟩
set_option maxHeartbeats 1000000 in
set_option maxRecDepth 100000 in
theorem oddTerm_any (HGR : GrowAny) (w0 w : World) (β : Nat) (a : Option Addr) (c : Nat) (bs : List Nat) (da : Option Addr) (ds : List Dc) (dc n : Nat) (want : Int) (h : Dl w0 w β a c bs da ds) (hn : ds.length = n) (h1 : 1 ≤ n) (h6 : n ≤ 6) (hw : ∀ x ∈ ds, 1 ≤ x.2 ∧ x.2 ≤ 200) (hv1 : -5000 ≤ want) (hv2 : want ≤ 5000) :
  Calls Tryz.prog 69 #[.pointer (some ⟨β, 0, none⟩), .slice da n dc, .int .i64 want] w (RetG4 w0 β a c bs da ds w) := by
 have hb0 : Below w.heap.size w (w.alloc (Obj.cells #[.slice none 0 0] 28)) := (Below.refl _ _).alloc (Nat.le_refl _) _
 have X1 := kide (Bz.new w #[.slice none 0 0] 28)
 have W1 : Hid (Dw β w (w.alloc (Obj.cells #[.slice none 0 0] 28))) := Dw.of hb0
 have hβ : β < w.heap.size := Nat.lt_of_lt_of_le h.hβ h.size
 have D1 : Hid (Dl (w.alloc (Obj.cells #[.slice none 0 0] 28)) (w.alloc (Obj.cells #[.slice none 0 0] 28)) β a c bs da ds) := by
  have h := h.later hb0
  exact ⟨h.rr, h.rr, Dw.refl _ _, h.dd, Nat.lt_of_lt_of_le hβ hb0.size, h.at⟩
 have HD := kide h
 have HN := kide hn
 have HW := kide hw
 have HG := kide HGR
 clear h hn hw HGR hb0
 go_enter Tryz.func69, Tryz.ntmps69
 go_wp2_with fail
 obtain ⟨rb, hrb⟩ : ∃ rb, w.heap.size = rb := ⟨_, rfl⟩
 rw [hrb] at X1 ⊢
 generalize w.alloc (Obj.cells #[.slice none 0 0] 28) = w1 at *
 refine Calls.mono (D1.out.growK HG.out dc n want HN.out h1 h6 HW.out hv1 hv2) ?_
 rintro e w2 ⟨tv, l, rfl, hd2, ht2, hl2, hl2', hok2, hw2, hko2⟩
 have hz1 : rb < w1.heap.size := X1.out.lt
 have hz2 : w1.heap.size ≤ w2.heap.size := hd2.size
 have hba : Below w2.heap.size w2 (w2.alloc (Obj.cells #[tv] 28)) := (Below.refl _ _).alloc (Nat.le_refl _) _
 have S3 := kide (Bz.new w2 #[tv] 28)
 have G3 := kide ((hd2.gr ht2).later hba)
 have K3 := kide (hko2.later hba)
 have OKL : Hid (∀ x ∈ l, okT x.ct) := fun x hx => (hok2 x hx).1
 have OKN : Hid (∀ x ∈ l, x.ct.ks.length ≤ 1000) := fun x hx => (hok2 x hx).2
 obtain ⟨ta, tc, rfl⟩ := ht2.form
 obtain ⟨m, hm⟩ : ∃ m, l.length = m := ⟨_, rfl⟩
 rw [hm] at S3 G3 K3 hl2 hl2' hba
 clear hd2 ht2 hok2 hw2 hba D1 hko2
 rw [hm]
 go_wp2_with fail
 obtain ⟨tb, htb⟩ : ∃ tb, w2.heap.size = tb := ⟨_, rfl⟩
 rw [htb] at S3 hz2 ⊢
 generalize w2.alloc (Obj.cells #[.slice ta m tc] 28) = w3 at *
 refine Calls.mono (below_any m (by omega) β a c bs _ G3.out.rr) ?_
 rintro e w4 ⟨i, rfl, hi, hr4, hd4⟩
 have G4 := kide (G3.out.draw hr4 hd4)
 have K4 := kide (K3.out.far hd4 (by omega))
 have S4 : Hid (Bz w4 tb #[.slice ta m tc] 28) := S3.out.far hd4 (by omega)
 have him : i < m := by omega
 clear hr4 hd4 G3 S3 K3 hi
 go_wp2_with fail
 refine Calls.mono (below_any 40 (by omega) β a c bs _ G4.out.rr) ?_
 rintro e w5 ⟨q, rfl, hq, hr5, hd5⟩
 have G5 := kide (G4.out.draw hr5 hd5)
 have K5 := kide (K4.out.far hd5 (by omega))
 have S5 : Hid (Bz w5 tb #[.slice ta m tc] 28) := S4.out.far hd5 (by omega)
 clear hr5 hd5 G4 S4 K4
 simp only []
 iterate 4 go_step
 obtain ⟨x, hx⟩ : ∃ x, l[i]? = some x := ⟨_, List.getElem?_eq_getElem (show i < l.length by rw [hm]; exact him)⟩
 refine code_cut (LT w1 β a c bs da ds dc n want rb tb) ?_ ?_
 ·skip
  obtain ⟨y, hy0⟩ : ∃ y : Int, (q : Int) = y := ⟨_, rfl⟩
  rw [hy0]
  clear hy0 hq
  rcases (show y = 0 ∨ ¬ y = 0 by omega) with hq0 | hq0
  ·subst hq0
   obtain ⟨g, rfl⟩ : ∃ g, ta = some ⟨g, 0, none⟩ := by
    obtain ⟨g, c9, e9, -⟩ := G5.out.tq.row.at hx
    injection e9 with e9
    exact ⟨g, e9⟩
   have iL : (i : Int) < (m : Int) := by omega
   have q0 : w5.drew.cell? ⟨tb, 0, none⟩ = some (Value.slice (some ⟨g, 0, none⟩) m tc) := by have := S5.out.cell 0; simp at this; exact this
   have hgt : tb ≠ g := S5.out.apartT G5.out.tq.row
   go_wp2_with fail
   go_region_held3 (fun u => u.cell? ⟨tb, 0, none⟩ = some (Value.slice (some ⟨g, 0, none⟩) m tc)) (first | assumption | fail)
    ((go_at_call 68; refine Calls.mono (off_any 1 9 (by omega) (by omega) β a c bs _ (G5.out.rr.later (Below.refl _ _).drew)) ?_; rintro e w6 ⟨y, rfl, hy1, hy2, hr6, hd6⟩; have G6 := kide ((G5.out.later (Below.refl _ _).drew).draw hr6 hd6); have S6 : Hid (Bz w6 tb #[.slice (some ⟨g, 0, none⟩) m tc] 28) := (S5.out.later (Below.refl _ _).drew).far hd6 (by omega); have q6 := S6.out.cell 0; have c6 := G6.out.tq.row.cellJ hx (j := 0) (by omega) rfl; have f6 := G6.out.tq.row.froz (i * 7 + 0); have q7 : (w6.setCell ⟨g, i * 7 + 0, none⟩ (.int .i64 y)).cell? ⟨tb, 0, none⟩ = some (Value.slice (some ⟨g, 0, none⟩) m tc) := (by have := (S6.out.other hgt (i * 7 + 0) (.int .i64 y)).cell 0; simp at this; exact this); simp at q6 c6; try simp only [Nat.add_zero] at f6 q7; clear hr6 hd6))
   have hyi : in64 y := ⟨hy1, hy2⟩
   have G7 := kide (G6.out.putN (j := 0) (u := .int .i64 y) (x' := { x with ct := { x.ct with op := y } }) hx (by omega) rfl rfl rfl rfl rfl rfl rfl)
   have S7 := kide (S6.out.other hgt (i * 7 + 0) (.int .i64 y))
   have OK7 : Hid (∀ z ∈ l.set i { x with ct := { x.ct with op := y } }, okT z.ct) := fun z hz => by
    rcases List.mem_or_eq_of_mem_set hz with h9 | h9
    ·exact OKL.out z h9
    ·rw [h9]
     obtain ⟨k1, k2, k3, k4, k5, k6, k7, k8, k9⟩ := OKL.out x (List.mem_of_getElem? hx)
     exact ⟨hyi, k2, k3, k4, k5, k6, k7, k8, k9⟩
   go_wp2_with fail
   exact ⟨some ⟨g, 0, none⟩, tc, m, _, act_u (by kernel_rfl), G7.out, S7.out, by rw [List.length_set]; exact hm, by omega, OK7.out⟩
  have hqi0 : (y == 0) = false := by simp; omega
  rcases (show y = 1 ∨ ¬ y = 1 by omega) with hq1 | hq1
  ·subst hq1
   obtain ⟨g, rfl⟩ : ∃ g, ta = some ⟨g, 0, none⟩ := by
    obtain ⟨g, c9, e9, -⟩ := G5.out.tq.row.at hx
    injection e9 with e9
    exact ⟨g, e9⟩
   have iL : (i : Int) < (m : Int) := by omega
   have q0 : w5.drew.cell? ⟨tb, 0, none⟩ = some (Value.slice (some ⟨g, 0, none⟩) m tc) := by have := S5.out.cell 0; simp at this; exact this
   have hgt : tb ≠ g := S5.out.apartT G5.out.tq.row
   go_wp2_with fail
   go_region_held3 (fun u => u.cell? ⟨tb, 0, none⟩ = some (Value.slice (some ⟨g, 0, none⟩) m tc)) (first | assumption | fail)
    ((go_at_call 68; refine Calls.mono (off_any 0 9 (by omega) (by omega) β a c bs _ (G5.out.rr.later (Below.refl _ _).drew)) ?_; rintro e w6 ⟨y, rfl, hy1, hy2, hr6, hd6⟩; have G6 := kide ((G5.out.later (Below.refl _ _).drew).draw hr6 hd6); have S6 : Hid (Bz w6 tb #[.slice (some ⟨g, 0, none⟩) m tc] 28) := (S5.out.later (Below.refl _ _).drew).far hd6 (by omega); have q6 := S6.out.cell 0; have c6 := G6.out.tq.row.cellJ hx (j := 2) (by omega) rfl; have f6 := G6.out.tq.row.froz (i * 7 + 2); have q7 : (w6.setCell ⟨g, i * 7 + 2, none⟩ (.int .i64 y)).cell? ⟨tb, 0, none⟩ = some (Value.slice (some ⟨g, 0, none⟩) m tc) := (by have := (S6.out.other hgt (i * 7 + 2) (.int .i64 y)).cell 0; simp at this; exact this); simp at q6 c6; try simp only [Nat.add_zero] at f6 q7; clear hr6 hd6))
   have hyi : in64 y := ⟨hy1, hy2⟩
   have G7 := kide (G6.out.putN (j := 2) (u := .int .i64 y) (x' := { x with ct := { x.ct with a := y } }) hx (by omega) rfl rfl rfl rfl rfl rfl rfl)
   have S7 := kide (S6.out.other hgt (i * 7 + 2) (.int .i64 y))
   have OK7 : Hid (∀ z ∈ l.set i { x with ct := { x.ct with a := y } }, okT z.ct) := fun z hz => by
    rcases List.mem_or_eq_of_mem_set hz with h9 | h9
    ·exact OKL.out z h9
    ·rw [h9]
     obtain ⟨k1, k2, k3, k4, k5, k6, k7, k8, k9⟩ := OKL.out x (List.mem_of_getElem? hx)
     exact ⟨k1, k2, hyi, k4, k5, k6, k7, k8, k9⟩
   go_wp2_with fail
   exact ⟨some ⟨g, 0, none⟩, tc, m, _, act_u (by kernel_rfl), G7.out, S7.out, by rw [List.length_set]; exact hm, by omega, OK7.out⟩
  have hqi1 : (y == 1) = false := by simp; omega
  rcases (show y = 2 ∨ ¬ y = 2 by omega) with hq2 | hq2
  ·subst hq2
   obtain ⟨g, rfl⟩ : ∃ g, ta = some ⟨g, 0, none⟩ := by
    obtain ⟨g, c9, e9, -⟩ := G5.out.tq.row.at hx
    injection e9 with e9
    exact ⟨g, e9⟩
   have iL : (i : Int) < (m : Int) := by omega
   have q0 : w5.drew.cell? ⟨tb, 0, none⟩ = some (Value.slice (some ⟨g, 0, none⟩) m tc) := by have := S5.out.cell 0; simp at this; exact this
   have hgt : tb ≠ g := S5.out.apartT G5.out.tq.row
   go_wp2_with fail
   go_region_held3 (fun u => u.cell? ⟨tb, 0, none⟩ = some (Value.slice (some ⟨g, 0, none⟩) m tc)) (first | assumption | fail)
    ((go_at_call 68; refine Calls.mono (off_any 0 9 (by omega) (by omega) β a c bs _ (G5.out.rr.later (Below.refl _ _).drew)) ?_; rintro e w6 ⟨y, rfl, hy1, hy2, hr6, hd6⟩; have G6 := kide ((G5.out.later (Below.refl _ _).drew).draw hr6 hd6); have S6 : Hid (Bz w6 tb #[.slice (some ⟨g, 0, none⟩) m tc] 28) := (S5.out.later (Below.refl _ _).drew).far hd6 (by omega); have q6 := S6.out.cell 0; have c6 := G6.out.tq.row.cellJ hx (j := 3) (by omega) rfl; have f6 := G6.out.tq.row.froz (i * 7 + 3); have q7 : (w6.setCell ⟨g, i * 7 + 3, none⟩ (.int .i64 y)).cell? ⟨tb, 0, none⟩ = some (Value.slice (some ⟨g, 0, none⟩) m tc) := (by have := (S6.out.other hgt (i * 7 + 3) (.int .i64 y)).cell 0; simp at this; exact this); simp at q6 c6; try simp only [Nat.add_zero] at f6 q7; clear hr6 hd6))
   have hyi : in64 y := ⟨hy1, hy2⟩
   have G7 := kide (G6.out.putN (j := 3) (u := .int .i64 y) (x' := { x with ct := { x.ct with b := y } }) hx (by omega) rfl rfl rfl rfl rfl rfl rfl)
   have S7 := kide (S6.out.other hgt (i * 7 + 3) (.int .i64 y))
   have OK7 : Hid (∀ z ∈ l.set i { x with ct := { x.ct with b := y } }, okT z.ct) := fun z hz => by
    rcases List.mem_or_eq_of_mem_set hz with h9 | h9
    ·exact OKL.out z h9
    ·rw [h9]
     obtain ⟨k1, k2, k3, k4, k5, k6, k7, k8, k9⟩ := OKL.out x (List.mem_of_getElem? hx)
     exact ⟨k1, k2, k3, hyi, k5, k6, k7, k8, k9⟩
   go_wp2_with fail
   exact ⟨some ⟨g, 0, none⟩, tc, m, _, act_u (by kernel_rfl), G7.out, S7.out, by rw [List.length_set]; exact hm, by omega, OK7.out⟩
  have hqi2 : (y == 2) = false := by simp; omega
  rcases (show y = 3 ∨ ¬ y = 3 by omega) with hq3 | hq3
  ·subst hq3
   obtain ⟨g, rfl⟩ : ∃ g, ta = some ⟨g, 0, none⟩ := by
    obtain ⟨g, c9, e9, -⟩ := G5.out.tq.row.at hx
    injection e9 with e9
    exact ⟨g, e9⟩
   have iL : (i : Int) < (m : Int) := by omega
   have q0 : w5.drew.cell? ⟨tb, 0, none⟩ = some (Value.slice (some ⟨g, 0, none⟩) m tc) := by have := S5.out.cell 0; simp at this; exact this
   have hgt : tb ≠ g := S5.out.apartT G5.out.tq.row
   go_wp2_with fail
   go_region_held3 (fun u => u.cell? ⟨tb, 0, none⟩ = some (Value.slice (some ⟨g, 0, none⟩) m tc)) (first | assumption | fail)
    ((go_at_call 68; refine Calls.mono (off_any 0 n (by omega) (by omega) β a c bs _ (G5.out.rr.later (Below.refl _ _).drew)) ?_; rintro e w6 ⟨y, rfl, hy1, hy2, hr6, hd6⟩; have G6 := kide ((G5.out.later (Below.refl _ _).drew).draw hr6 hd6); have S6 : Hid (Bz w6 tb #[.slice (some ⟨g, 0, none⟩) m tc] 28) := (S5.out.later (Below.refl _ _).drew).far hd6 (by omega); have q6 := S6.out.cell 0; have c6 := G6.out.tq.row.cellJ hx (j := 1) (by omega) rfl; have f6 := G6.out.tq.row.froz (i * 7 + 1); have q7 : (w6.setCell ⟨g, i * 7 + 1, none⟩ (.int .i64 y)).cell? ⟨tb, 0, none⟩ = some (Value.slice (some ⟨g, 0, none⟩) m tc) := (by have := (S6.out.other hgt (i * 7 + 1) (.int .i64 y)).cell 0; simp at this; exact this); simp at q6 c6; try simp only [Nat.add_zero] at f6 q7; clear hr6 hd6))
   have hyi : in64 y := ⟨hy1, hy2⟩
   have G7 := kide (G6.out.putN (j := 1) (u := .int .i64 y) (x' := { x with ct := { x.ct with vr := y } }) hx (by omega) rfl rfl rfl rfl rfl rfl rfl)
   have S7 := kide (S6.out.other hgt (i * 7 + 1) (.int .i64 y))
   have OK7 : Hid (∀ z ∈ l.set i { x with ct := { x.ct with vr := y } }, okT z.ct) := fun z hz => by
    rcases List.mem_or_eq_of_mem_set hz with h9 | h9
    ·exact OKL.out z h9
    ·rw [h9]
     obtain ⟨k1, k2, k3, k4, k5, k6, k7, k8, k9⟩ := OKL.out x (List.mem_of_getElem? hx)
     exact ⟨k1, hyi, k3, k4, k5, k6, k7, k8, k9⟩
   go_wp2_with fail
   exact ⟨some ⟨g, 0, none⟩, tc, m, _, act_u (by kernel_rfl), G7.out, S7.out, by rw [List.length_set]; exact hm, by omega, OK7.out⟩
  have hqi3 : (y == 3) = false := by simp; omega
  rcases (show y = 4 ∨ ¬ y = 4 by omega) with hq4 | hq4
  ·subst hq4
   obtain ⟨g, rfl⟩ : ∃ g, ta = some ⟨g, 0, none⟩ := by
    obtain ⟨g, c9, e9, -⟩ := G5.out.tq.row.at hx
    injection e9 with e9
    exact ⟨g, e9⟩
   have iL : (i : Int) < (m : Int) := by omega
   have hgt : tb ≠ g := S5.out.apartT G5.out.tq.row
   go_wp2_with fail
   refine wp_region_x (SA := fun uu => uu.cell? ⟨tb, 0, none⟩ = some (Value.slice (some ⟨g, 0, none⟩) m tc) ∧ uu.cell? ⟨g, i * 7 + 6, none⟩ = some (Value.slice x.ka x.ct.ks.length x.kc)) (SB := fun _ => True) (k := 18) (by kernel_rfl) ?_
   have hbd : Below w5.heap.size w5 w5.drew := (Below.refl _ _).drew
   have GG_0 := kide (G5.out.later hbd)
   have SS_0 := kide (S5.out.later hbd)
   have KK_0 := kide (K5.out.later hbd)
   have RW_0 := kide GG_0.out.tq.row
   clear hbd G5 S5 K5
   generalize w5.drew = u0 at *
   have c0_0 : u0.cell? ⟨tb, 0, none⟩ = some (Value.slice (some ⟨g, 0, none⟩) m tc) := SS_0.out.cell 0
   have c1_0 : u0.cell? ⟨g, i * 7 + 6, none⟩ = some (Value.slice x.ka x.ct.ks.length x.kc) := RW_0.out.cellJ hx (j := 6) (by omega) rfl
   have hs0 : Hid ((fun uu => uu.cell? ⟨tb, 0, none⟩ = some (Value.slice (some ⟨g, 0, none⟩) m tc) ∧ uu.cell? ⟨g, i * 7 + 6, none⟩ = some (Value.slice x.ka x.ct.ks.length x.kc)) u0) := ⟨c0_0, c1_0⟩
   try go_simp
   refine tkT (i := 0) (v := Value.pointer (some ⟨tb, 0, none⟩)) rfl (by kernel_rfl) (fun _ _ _ h => by first | exact h | exact absurd h.1 (fun e9 => by cases e9)) (Sx.before (by kernel_rfl) hs0.out) (Or.inl ⟨by rfl, fun uu hu => by go_simp⟩) ?_
   try go_simp
   refine tkX (i := 1) (v := Value.slice (some ⟨g, 0, none⟩) m tc) rfl (by kernel_rfl) (fun _ _ _ h => by first | exact h | exact absurd h.1 (fun e9 => by cases e9)) hs0.out (Or.inl ⟨by rfl, fun uu hu => by obtain ⟨e0, e1⟩ := hu; go_simp⟩) ?_
   try go_simp
   refine tkT (i := 2) (v := Value.int .i64 (i : Int)) rfl (by kernel_rfl) (fun _ _ _ h => by first | exact h | exact absurd h.1 (fun e9 => by cases e9)) (Sx.before (by kernel_rfl) hs0.out) (Or.inl ⟨by rfl, fun uu hu => by go_simp⟩) ?_
   try go_simp
   refine tkT (i := 3) (v := Value.pointer (some ⟨tb, 0, none⟩)) rfl (by kernel_rfl) (fun _ _ _ h => by first | exact h | exact absurd h.1 (fun e9 => by cases e9)) (Sx.before (by kernel_rfl) hs0.out) (Or.inl ⟨by rfl, fun uu hu => by go_simp⟩) ?_
   try go_simp
   refine tkX (i := 4) (v := Value.slice (some ⟨g, 0, none⟩) m tc) rfl (by kernel_rfl) (fun _ _ _ h => by first | exact h | exact absurd h.1 (fun e9 => by cases e9)) hs0.out (Or.inl ⟨by rfl, fun uu hu => by obtain ⟨e0, e1⟩ := hu; go_simp⟩) ?_
   try go_simp
   refine tkT (i := 5) (v := Value.int .i64 (i : Int)) rfl (by kernel_rfl) (fun _ _ _ h => by first | exact h | exact absurd h.1 (fun e9 => by cases e9)) (Sx.before (by kernel_rfl) hs0.out) (Or.inl ⟨by rfl, fun uu hu => by go_simp⟩) ?_
   try go_simp
   refine tkT (i := 6) (v := Value.pointer (some ⟨g, i * 7, none⟩)) rfl (by kernel_rfl) (fun _ _ _ h => by first | exact h | exact absurd h.1 (fun e9 => by cases e9)) (Sx.before (by kernel_rfl) hs0.out) (Or.inl ⟨by rfl, fun uu hu => by go_simp⟩) ?_
   try go_simp
   refine tkT (i := 7) (v := Value.pointer (some ⟨g, i * 7 + 6, none⟩)) rfl (by kernel_rfl) (fun _ _ _ h => by first | exact h | exact absurd h.1 (fun e9 => by cases e9)) (Sx.before (by kernel_rfl) hs0.out) (Or.inl ⟨by rfl, fun uu hu => by go_simp⟩) ?_
   try go_simp
   refine tkX (i := 8) (v := Value.slice x.ka x.ct.ks.length x.kc) rfl (by kernel_rfl) (fun _ _ _ h => by first | exact h | exact absurd h.1 (fun e9 => by cases e9)) hs0.out (Or.inl ⟨by rfl, fun uu hu => by obtain ⟨e0, e1⟩ := hu; go_simp⟩) ?_
   try go_simp
   refine tkT (i := 9) (v := Value.pointer (some ⟨β, 0, none⟩)) rfl (by kernel_rfl) (fun _ _ _ h => by first | exact h | exact absurd h.1 (fun e9 => by cases e9)) (Sx.before (by kernel_rfl) hs0.out) (Or.inl ⟨by rfl, fun uu hu => by go_simp⟩) ?_
   try go_simp
   refine tkT (i := 10) (v := Value.pointer (some ⟨tb, 0, none⟩)) rfl (by kernel_rfl) (fun _ _ _ h => by first | exact h | exact absurd h.1 (fun e9 => by cases e9)) (Sx.before (by kernel_rfl) hs0.out) (Or.inl ⟨by rfl, fun uu hu => by go_simp⟩) ?_
   try go_simp
   refine tkX (i := 11) (v := Value.slice (some ⟨g, 0, none⟩) m tc) rfl (by kernel_rfl) (fun _ _ _ h => by first | exact h | exact absurd h.1 (fun e9 => by cases e9)) hs0.out (Or.inl ⟨by rfl, fun uu hu => by obtain ⟨e0, e1⟩ := hu; go_simp⟩) ?_
   try go_simp
   refine tkT (i := 12) (v := Value.int .i64 (m : Int)) rfl (by kernel_rfl) (fun _ _ _ h => by first | exact h | exact absurd h.1 (fun e9 => by cases e9)) (Sx.before (by kernel_rfl) hs0.out) (Or.inl ⟨by rfl, fun uu hu => by go_simp⟩) ?_
   try go_simp
   refine wpAnyX_ready (rs := [13]) (by kernel_rfl) (by simp) (AllX.cons rfl (fun K hK => ?_) AllX.nil)
   go_simp
   refine Calls.mono (off_any 0 m (by omega) (by omega) β a c bs _ GG_0.out.rr) ?_
   rintro e u1 ⟨y, rfl, hy1, hy2, hr6, hd6⟩
   have GG_1 := kide (GG_0.out.draw hr6 hd6)
   have SS_1 : Hid (Bz u1 tb #[.slice (some ⟨g, 0, none⟩) m tc] 28) := SS_0.out.far hd6 (by omega)
   have KK_1 := kide (KK_0.out.far hd6 (by omega))
   have RW_1 := kide GG_1.out.tq.row
   clear hr6 hd6
   have c0_1 : u1.cell? ⟨tb, 0, none⟩ = some (Value.slice (some ⟨g, 0, none⟩) m tc) := SS_1.out.cell 0
   have c1_1 : u1.cell? ⟨g, i * 7 + 6, none⟩ = some (Value.slice x.ka x.ct.ks.length x.kc) := RW_1.out.cellJ hx (j := 6) (by omega) rfl
   have hs1 : Hid ((fun uu => uu.cell? ⟨tb, 0, none⟩ = some (Value.slice (some ⟨g, 0, none⟩) m tc) ∧ uu.cell? ⟨g, i * 7 + 6, none⟩ = some (Value.slice x.ka x.ct.ks.length x.kc)) u1) := ⟨c0_1, c1_1⟩
   refine hK _ _ (Sx.before (by kernel_rfl) hs1.out) ?_
   clear hK K
   try go_simp
   refine wpAnyX_ready (rs := [14]) (by kernel_rfl) (by simp) (AllX.cons rfl (fun K hK => ?_) AllX.nil)
   go_simp
   have hbx : Below u1.heap.size u1 (u1.alloc (Obj.cells #[.int .i64 y] 2)) := (Below.refl _ _).alloc (Nat.le_refl _) _
   have q0 : (u1.alloc (Obj.cells #[.int .i64 y] 2)).cell? ⟨u1.heap.size, 0, none⟩ = some (.int .i64 y) := by simp
   have GG_2 := kide (GG_1.out.later hbx)
   have SS_2 := kide (SS_1.out.later hbx)
   have KK_2 := kide (KK_1.out.later hbx)
   have RW_2 := kide GG_2.out.tq.row
   obtain ⟨ge, hge⟩ : ∃ z, u1.heap.size = z := ⟨_, rfl⟩
   rw [hge] at q0
   simp only [hge]
   clear hge hbx
   generalize u1.alloc (Obj.cells #[.int .i64 y] 2) = u2 at *
   have Q0 := kide q0
   clear q0
   have c0_2 : u2.cell? ⟨tb, 0, none⟩ = some (Value.slice (some ⟨g, 0, none⟩) m tc) := SS_2.out.cell 0
   have c1_2 : u2.cell? ⟨g, i * 7 + 6, none⟩ = some (Value.slice x.ka x.ct.ks.length x.kc) := RW_2.out.cellJ hx (j := 6) (by omega) rfl
   have hs2 : Hid ((fun uu => uu.cell? ⟨tb, 0, none⟩ = some (Value.slice (some ⟨g, 0, none⟩) m tc) ∧ uu.cell? ⟨g, i * 7 + 6, none⟩ = some (Value.slice x.ka x.ct.ks.length x.kc)) u2) := ⟨c0_2, c1_2⟩
   refine hK _ _ (Sx.before (by kernel_rfl) hs2.out) ?_
   clear hK K
   try go_simp
   refine wpAnyX_ready (rs := [15]) (by kernel_rfl) (by simp) (AllX.cons rfl (fun K hK => ?_) AllX.nil)
   have hzz : w1.heap.size ≤ u2.heap.size := GG_2.out.size
   refine step_appI _ rfl _ _ rfl w1.heap.size (Value.slice x.ka x.ct.ks.length x.kc) x.ct.ks y (by first | rfl | simp [Act.eval]) (KK_2.out.oi x (List.mem_of_getElem? hx)) ge 1 (by first | rfl | simp [Act.eval]) Q0.out (by have := (OKL.out x (List.mem_of_getElem? hx)).2.2.2.2.2.2.2.1; omega) hzz ?_
   intro g6 cap6 u3 ho6 hg6 _
   have SS_3 : Hid (Bz u3 tb #[.slice (some ⟨g, 0, none⟩) m tc] 28) := bz_oi SS_2.out (KK_2.out.oi x (List.mem_of_getElem? hx)) (by decide) hg6
   have RW_3 : Hid (OT u3 w1.heap.size (.slice (some ⟨g, 0, none⟩) m tc) l) := ot_oi GG_2.out.tq.row (KK_2.out.oi x (List.mem_of_getElem? hx)) hg6
   have HO6 := kide ho6
   have HG6 := kide hg6
   clear ho6 hg6 hzz
   have c0_3 : u3.cell? ⟨tb, 0, none⟩ = some (Value.slice (some ⟨g, 0, none⟩) m tc) := SS_3.out.cell 0
   have c1_3 : u3.cell? ⟨g, i * 7 + 6, none⟩ = some (Value.slice x.ka x.ct.ks.length x.kc) := RW_3.out.cellJ hx (j := 6) (by omega) rfl
   have hs3 : Hid ((fun uu => uu.cell? ⟨tb, 0, none⟩ = some (Value.slice (some ⟨g, 0, none⟩) m tc) ∧ uu.cell? ⟨g, i * 7 + 6, none⟩ = some (Value.slice x.ka x.ct.ks.length x.kc)) u3) := ⟨c0_3, c1_3⟩
   refine hK _ _ (Sx.before (by kernel_rfl) hs3.out) ?_
   clear hK K
   try go_simp
   refine tkT (i := 16) (v := Value.pointer (some ⟨g, i * 7, none⟩)) rfl (by kernel_rfl) (fun _ _ _ h => by first | exact h | exact absurd h.1 (fun e9 => by cases e9)) (Sx.before (by kernel_rfl) hs3.out) (Or.inl ⟨by rfl, fun uu hu => by go_simp⟩) ?_
   try go_simp
   refine tkT (i := 17) (v := Value.pointer (some ⟨g, i * 7 + 6, none⟩)) rfl (by kernel_rfl) (fun _ _ _ h => by first | exact h | exact absurd h.1 (fun e9 => by cases e9)) (Sx.before (by kernel_rfl) hs3.out) (Or.inl ⟨by rfl, fun uu hu => by go_simp⟩) ?_
   try go_simp
   refine wpAnyX_ready (rs := [18]) (by kernel_rfl) (by simp) (AllX.cons rfl (fun K hK => ?_) AllX.nil)
   have e0 := c1_3
   have f0 := RW_3.out.froz (i * 7 + 6)
   go_simp
   have GF_ : Hid (Gr w1 (u3.setCell ⟨g, i * 7 + 6, none⟩ (Value.slice (some ⟨g6, 0, none⟩) (x.ct.ks.length + 1) cap6)) β a c bs da ds (.slice (some ⟨g, 0, none⟩) m tc) (l.set i { x with ct := { x.ct with ks := x.ct.ks ++ [y] }, ka := some ⟨g6, 0, none⟩, kc := cap6 })) := GG_2.out.kids KK_2.out hx HG6.out (by simp [tgv]) rfl rfl rfl HO6.out.ni1 (fun e => by cases e)
   have SF_ := kide (SS_3.out.other hgt (i * 7 + 6) (Value.slice (some ⟨g6, 0, none⟩) (x.ct.ks.length + 1) cap6))
   clear e0 f0
   generalize (u3.setCell ⟨g, i * 7 + 6, none⟩ (Value.slice (some ⟨g6, 0, none⟩) (x.ct.ks.length + 1) cap6)) = u4 at *
   refine hK _ _ (Sx.behind (by kernel_rfl) trivial) ?_
   clear hK K
   try go_simp
   refine wpAnyX_done (by kernel_rfl) ?_ _
   have hyi : in64 y := ⟨hy1, hy2⟩
   have OK7 : Hid (∀ z ∈ l.set i { x with ct := { x.ct with ks := x.ct.ks ++ [y] }, ka := some ⟨g6, 0, none⟩, kc := cap6 }, okT z.ct) := fun z hz => by
    rcases List.mem_or_eq_of_mem_set hz with h9 | h9
    ·exact OKL.out z h9
    ·rw [h9]
     obtain ⟨k1, k2, k3, k4, k5, k6, k7, k8, k9⟩ := OKL.out x (List.mem_of_getElem? hx)
     exact ⟨k1, k2, k3, k4, k5, k6, k7, by have := OKN.out x (List.mem_of_getElem? hx); simp; omega, fun z hz => by
      rcases List.mem_append.1 hz with h8 | h8
      ·exact k9 z h8
      ·rw [List.mem_singleton.1 h8]; exact hyi⟩
   go_wp2_with fail
   exact ⟨some ⟨g, 0, none⟩, tc, m, _, act_u (by kernel_rfl), GF_.out, SF_.out, by rw [List.length_set]; exact hm, by omega, OK7.out⟩
  have hqi4 : (y == 4) = false := by simp; omega
  rcases (show y = 5 ∨ ¬ y = 5 by omega) with hq5 | hq5
  ·subst hq5
   have q0 := S5.out.cell 0
   simp at q0
   have Ba : Hid (Below w5.heap.size w5 (w5.alloc (Obj.cells #[.int .i64 1, .int .i64 0, .int .i64 0, .int .i64 0, .int .i64 0, .slice none 0 0, .slice none 0 0] 119))) := (Below.refl _ _).alloc (Nat.le_refl _) _
   have GA := kide (G5.out.later Ba.out)
   have SA := kide (S5.out.later Ba.out)
   have hz5 : w1.heap.size ≤ w5.heap.size := G5.out.size
   have hll : l.length ≤ 1048576 := by omega
   have hsz2 : w1.heap.size ≤ w5.heap.size + 1 := by omega
   go_wp2_with (at_builtin; refine wpList_appT7 rfl _ _ rfl w1.heap.size _ l (nodK 1 0 0 0 [] none 0) rfl GA.out.tq.row _ _ rfl (by simp [ThAt, Tg.hd, nodK]) hll (by simpa using hsz2) ?_)
   intro g cap w6 ho hg _
   have G6 := kide (GA.out.push (nw_none _ _) (ni_none _ _) ⟨fun _ => rfl, fun _ => rfl⟩ hg ho)
   have S6 := kide (GA.out.bz SA.out hg)
   have s0 := S6.out.cell 0
   have s1 := S6.out.froz 0
   simp at s0
   have hlm : l.length + 1 = m + 1 := by omega
   clear ho hg GA SA Ba
   go_wp2_with fail
   trace_state
   exact ⟨some ⟨g, 0, none⟩, cap, m + 1, _, act_u (by kernel_rfl), G6.out.cellT S6.out (by omega) _, S6.out.set 0 _, by simp; omega, by omega, fun z hz => by
    rcases List.mem_append.1 hz with h9 | h9
    ·exact OKL.out z h9
    ·cases List.mem_singleton.1 h9
     refine ⟨?_, ?_, ?_, ?_, ?_, ?_, ?_, ?_, ?_⟩ <;> simp [nodK, in64]⟩
  have hqi5 : (y == 5) = false := by simp; omega
  rcases (show y = 6 ∨ ¬ y = 6 by omega) with hq6 | hq6
  ·subst hq6
   go_wp2_with fail
   go_loopw [] (fun wr => ∃ (ta : Option Addr) (tc m : Nat) (l : List Tg), Gr w1 wr β a c bs da ds (.slice ta m tc) l ∧ Bz wr tb #[.slice ta m tc] 28 ∧ l.length = m ∧ 1 ≤ m ∧ m ≤ 500 ∧ ∀ x ∈ l, okT x.ct) (fun wr => 500 - lenAt wr tb)
   case atStart => exact ⟨ta, tc, m, l, G5.out, S5.out, hm, by omega, by omega, OKL.out⟩
   case round =>
    clear G5 S5 K5 OKL OKN hx hm him hl2 hl2'
    clear l x
    obtain ⟨sa, sc, k, l, hg, hs, hm, hm1, hm2, hok⟩ := hrel
    have GR := kide hg
    have SR := kide hs
    have OKR := kide hok
    have q0 : wr.drew.cell? ⟨tb, 0, none⟩ = some (Value.slice sa k sc) := by have := hs.cell 0; simp at this; exact this
    clear hg hs hok
    go_wp2_with fail
    go_region_held3 (fun u => u.cell? ⟨tb, 0, none⟩ = some (Value.slice sa k sc)) (first | assumption | fail)
     ((go_at_call 61; refine Calls.mono (below_any 2 (by omega) β a c bs _ (GR.out.rr.later (Below.refl _ _).drew)) ?_; rintro e wz ⟨z, rfl, hz, hrz, hdz⟩; have GZ := kide ((GR.out.later (Below.refl _ _).drew).draw hrz hdz); have SZ : Hid (Bz wz tb #[.slice sa k sc] 28) := (SR.out.later (Below.refl _ _).drew).far hdz (by omega); have qz := SZ.out.cell 0; simp at qz; have hz1 : (z : Int) ≤ 1 := (by omega); have hzw : IntKind.i64.wrap (400 + (z : Int)) = 400 + (z : Int) := (by rw [IntKind.wrap_i64]; first | omega | (unfold wrap64; omega)); clear hrz hdz))
    by_cases hlt : (k : Int) < 400 + (z : Int)
    ·have Ba : Hid (Below wz.heap.size wz ((wz.alloc (Obj.cells #[.int .i64 ((k : Int) - 1)] 2)).alloc (Obj.cells #[.int .i64 7, .int .i64 0, .int .i64 1, .int .i64 0, .int .i64 0, .slice none 0 0, .slice (some ⟨wz.heap.size, 0, none⟩) 1 1] 119))) := ((Below.refl _ _).alloc (Nat.le_refl _) _).alloc (by simp) _
     have GA := kide (GZ.out.later Ba.out)
     have SA := kide (SZ.out.later Ba.out)
     have hz5 : w1.heap.size ≤ wz.heap.size := GZ.out.size
     have HK : Hid (Ni ((wz.alloc (Obj.cells #[.int .i64 ((k : Int) - 1)] 2)).alloc (Obj.cells #[.int .i64 7, .int .i64 0, .int .i64 1, .int .i64 0, .int .i64 0, .slice none 0 0, .slice (some ⟨wz.heap.size, 0, none⟩) 1 1] 119)) w1.heap.size (some ⟨wz.heap.size, 0, none⟩) [(k : Int) - 1]) := (ni_new wz w1.heap.size [(k : Int) - 1] hz5).later ((Below.refl _ _).alloc (Nat.le_refl _) _)
     have hll : l.length ≤ 1048576 := by omega
     have hsz2 : w1.heap.size ≤ wz.heap.size + 1 + 1 := by omega
     have hk1 : (k : Int) - 1 ≤ 500 := by omega
     go_wp2_with (at_builtin; refine wpList_appT7 rfl _ _ rfl w1.heap.size _ l (nodK 7 0 1 0 [(k : Int) - 1] (some ⟨wz.heap.size, 0, none⟩) 1) rfl GA.out.tq.row _ _ rfl (by simp [ThAt, Tg.hd, nodK]) hll (by simpa using hsz2) ?_)
     intro g cap w6 ho hg _
     have G6 := kide (GA.out.push (nw_none _ _) HK.out ⟨fun _ => rfl, fun e => by cases e⟩ hg ho)
     have S6 := kide (GA.out.bz SA.out hg)
     have s0 := S6.out.cell 0
     have s1 := S6.out.froz 0
     simp at s0
     have hlm : l.length + 1 = k + 1 := by omega
     clear ho hg GA SA Ba HK
     go_wp2_with fail
     have S7 := kide (S6.out.set 0 (.slice (some ⟨g, 0, none⟩) (k + 1) cap))
     go_roundw
     case rel => exact ⟨some ⟨g, 0, none⟩, cap, k + 1, _, G6.out.cellT S6.out (by omega) _, S7.out, by simp; omega, by omega, by omega, fun z hz => by
      rcases List.mem_append.1 hz with h9 | h9
      ·exact OKR.out z h9
      ·cases List.mem_singleton.1 h9
       refine ⟨?_, ?_, ?_, ?_, ?_, ?_, ?_, ?_, ?_⟩ <;> simp [nodK, in64] <;> omega⟩
     case measure =>
      have e1 := lenAt_of S7.out
      have e2 := lenAt_of SR.out
      rw [e1, e2]
      omega
    ·go_wp2_with fail
     exact ⟨sa, sc, k, l, act_u (by kernel_rfl), GZ.out, SZ.out, hm, by omega, OKR.out⟩
  have hqi6 : (y == 6) = false := by simp; omega
  rcases (show y = 7 ∨ ¬ y = 7 by omega) with hq7 | hq7
  ·subst hq7
   go_wp2_with fail
   go_loopw [9] (fun kv wr => ∃ (j : Nat) (ta : Option Addr) (tc m : Nat) (l : List Tg), kv = .int .i64 (j : Int) ∧ j ≤ 40 ∧ Gr w1 wr β a c bs da ds (.slice ta m tc) l ∧ Bz wr tb #[.slice ta m tc] 28 ∧ l.length = m ∧ 1 ≤ m ∧ m ≤ 20 + 2 * j ∧ ∀ x ∈ l, okT x.ct) (fun kv wr => 40 - (intOf kv).toNat)
   case atStart => exact ⟨0, ta, tc, m, l, rfl, by omega, G5.out, S5.out, hm, by omega, by omega, OKL.out⟩
   case round =>
    clear G5 S5 K5 OKL OKN hx hm him hl2 hl2'
    clear l x
    obtain ⟨j, sa, sc, k, l, rfl, hj, hg, hs, hm, hm1, hm2, hok⟩ := hrel
    have GR := kide hg
    have SR := kide hs
    have OKR := kide hok
    have q0 := hs.cell 0
    simp at q0
    clear hg hs hok
    by_cases hjl : (j : Int) < 40
    ·obtain ⟨a9, c9, e9, hrd⟩ := GR.out.tq.rd (by omega) OKR.out
     injection e9 with e9 e11 e10
     clear e11
     subst e9 e10
     have HWO : Hid (Calls Tryz.prog 72 #[.slice da n dc, .agg #[.slice sa k sc]] wr fun e w' => e = .returned (.int .i64 (widR ds (l.map Tg.ct))) ∧ Below wr.heap.size wr w') := by
      have h := specWidth_any da sa dc sc k ds l _ GR.out.dd hrd hm
      rw [HN.out] at h
      exact h
     obtain ⟨hb1, hb2⟩ := wid_bounds ds (l.map Tg.ct)
     generalize widR ds (l.map Tg.ct) = wd at *
     have hk1 : (k : Int) - 1 ≤ 500 := by omega
     clear hrd
     go_wp2_with fail
     refine Calls.mono HWO.out ?_
     rintro e wz ⟨rfl, hbz⟩
     have GZ := kide (GR.out.later hbz)
     have SZ := kide (SR.out.later hbz)
     have qz := SZ.out.cell 0
     simp at qz
     clear hbz HWO
     by_cases hw1 : wd < 1
     ·go_wp2_with fail
      exact ⟨sa, sc, k, l, act_u (by kernel_rfl), GZ.out, SZ.out, hm, by omega, OKR.out⟩
     by_cases hw2 : 2 * wd > 4096
     ·go_wp2_with fail
      exact ⟨sa, sc, k, l, act_u (by kernel_rfl), GZ.out, SZ.out, hm, by omega, OKR.out⟩
     have Ba : Hid (Below wz.heap.size wz (((wz.alloc (Obj.cells #[.int .i64 ((k : Int) - 1), .int .i64 ((k : Int) - 1)] 2)).alloc (Obj.cells #[.int .i64 (k : Int)] 2)).alloc (Obj.cells #[.int .i64 3, .int .i64 0, .int .i64 0, .int .i64 0, .int .i64 0, .slice none 0 0, .slice (some ⟨wz.heap.size, 0, none⟩) 2 2, .int .i64 4, .int .i64 0, .int .i64 (wd - 1), .int .i64 0, .int .i64 0, .slice none 0 0, .slice (some ⟨wz.heap.size + 1, 0, none⟩) 1 1] 119))) := (((Below.refl _ _).alloc (Nat.le_refl _) _).alloc (by simp) _).alloc (by simp; omega) _
     have GA := kide (GZ.out.later Ba.out)
     have SA := kide (SZ.out.later Ba.out)
     have hz5 : w1.heap.size ≤ wz.heap.size := GZ.out.size
     have HK1 : Hid (Ni (((wz.alloc (Obj.cells #[.int .i64 ((k : Int) - 1), .int .i64 ((k : Int) - 1)] 2)).alloc (Obj.cells #[.int .i64 (k : Int)] 2)).alloc (Obj.cells #[.int .i64 3, .int .i64 0, .int .i64 0, .int .i64 0, .int .i64 0, .slice none 0 0, .slice (some ⟨wz.heap.size, 0, none⟩) 2 2, .int .i64 4, .int .i64 0, .int .i64 (wd - 1), .int .i64 0, .int .i64 0, .slice none 0 0, .slice (some ⟨wz.heap.size + 1, 0, none⟩) 1 1] 119)) w1.heap.size (some ⟨wz.heap.size, 0, none⟩) [(k : Int) - 1, (k : Int) - 1]) := (ni_new wz w1.heap.size [(k : Int) - 1, (k : Int) - 1] hz5).later (((Below.refl _ _).alloc (Nat.le_refl _) _).alloc (by simp) _)
     have HK2 : Hid (Ni (((wz.alloc (Obj.cells #[.int .i64 ((k : Int) - 1), .int .i64 ((k : Int) - 1)] 2)).alloc (Obj.cells #[.int .i64 (k : Int)] 2)).alloc (Obj.cells #[.int .i64 3, .int .i64 0, .int .i64 0, .int .i64 0, .int .i64 0, .slice none 0 0, .slice (some ⟨wz.heap.size, 0, none⟩) 2 2, .int .i64 4, .int .i64 0, .int .i64 (wd - 1), .int .i64 0, .int .i64 0, .slice none 0 0, .slice (some ⟨wz.heap.size + 1, 0, none⟩) 1 1] 119)) w1.heap.size (some ⟨wz.heap.size + 1, 0, none⟩) [(k : Int)]) := by
      have h := (ni_new (wz.alloc (Obj.cells #[.int .i64 ((k : Int) - 1), .int .i64 ((k : Int) - 1)] 2)) w1.heap.size [(k : Int)] (by simp; omega)).later ((Below.refl _ _).alloc (Nat.le_refl _) (Obj.cells #[.int .i64 3, .int .i64 0, .int .i64 0, .int .i64 0, .int .i64 0, .slice none 0 0, .slice (some ⟨wz.heap.size, 0, none⟩) 2 2, .int .i64 4, .int .i64 0, .int .i64 (wd - 1), .int .i64 0, .int .i64 0, .slice none 0 0, .slice (some ⟨wz.heap.size + 1, 0, none⟩) 1 1] 119))
      exact kide (by simpa [i64s] using h)
     have OK7 : Hid (∀ z ∈ [nodK 3 0 0 0 [(k : Int) - 1, (k : Int) - 1] (some ⟨wz.heap.size, 0, none⟩) 2, nodK 4 0 (wd - 1) 0 [(k : Int)] (some ⟨wz.heap.size + 1, 0, none⟩) 1], okT z.ct) := fun z hz => by
      simp only [List.mem_cons, List.not_mem_nil, or_false] at hz
      rcases hz with rfl | rfl <;> refine ⟨?_, ?_, ?_, ?_, ?_, ?_, ?_, ?_, ?_⟩ <;> simp [nodK, in64] <;> omega
     have HR : Hid (RdT (((wz.alloc (Obj.cells #[.int .i64 ((k : Int) - 1), .int .i64 ((k : Int) - 1)] 2)).alloc (Obj.cells #[.int .i64 (k : Int)] 2)).alloc (Obj.cells #[.int .i64 3, .int .i64 0, .int .i64 0, .int .i64 0, .int .i64 0, .slice none 0 0, .slice (some ⟨wz.heap.size, 0, none⟩) 2 2, .int .i64 4, .int .i64 0, .int .i64 (wd - 1), .int .i64 0, .int .i64 0, .slice none 0 0, .slice (some ⟨wz.heap.size + 1, 0, none⟩) 1 1] 119)) (some ⟨wz.heap.size + 1 + 1, 0, none⟩) [nodK 3 0 0 0 [(k : Int) - 1, (k : Int) - 1] (some ⟨wz.heap.size, 0, none⟩) 2, nodK 4 0 (wd - 1) 0 [(k : Int)] (some ⟨wz.heap.size + 1, 0, none⟩) 1]) := by
      have BB := Bz.new ((wz.alloc (Obj.cells #[.int .i64 ((k : Int) - 1), .int .i64 ((k : Int) - 1)] 2)).alloc (Obj.cells #[.int .i64 (k : Int)] 2)) #[.int .i64 3, .int .i64 0, .int .i64 0, .int .i64 0, .int .i64 0, .slice none 0 0, .slice (some ⟨wz.heap.size, 0, none⟩) 2 2, .int .i64 4, .int .i64 0, .int .i64 (wd - 1), .int .i64 0, .int .i64 0, .slice none 0 0, .slice (some ⟨wz.heap.size + 1, 0, none⟩) 1 1] 119
      rw [show ((wz.alloc (Obj.cells #[.int .i64 ((k : Int) - 1), .int .i64 ((k : Int) - 1)] 2)).alloc (Obj.cells #[.int .i64 (k : Int)] 2)).heap.size = wz.heap.size + 1 + 1 by simp] at BB
      refine ⟨by simp, .inr ⟨_, _, rfl, ?_⟩⟩
      intro q y hy
      obtain ⟨k1, k2, k3, k4, k5, k6, k7, k8, k9⟩ := OK7.out y (List.mem_of_getElem? hy)
      match q, hy with
      | 0, hy =>
       obtain rfl : nodK 3 0 0 0 [(k : Int) - 1, (k : Int) - 1] (some ⟨wz.heap.size, 0, none⟩) 2 = y := by simpa using hy
       exact ⟨⟨BB.cell 0, BB.cell 1, BB.cell 2, BB.cell 3, BB.cell 4, BB.cell 5, BB.cell 6⟩, (nw_none (((wz.alloc (Obj.cells #[.int .i64 ((k : Int) - 1), .int .i64 ((k : Int) - 1)] 2)).alloc (Obj.cells #[.int .i64 (k : Int)] 2)).alloc (Obj.cells #[.int .i64 3, .int .i64 0, .int .i64 0, .int .i64 0, .int .i64 0, .slice none 0 0, .slice (some ⟨wz.heap.size, 0, none⟩) 2 2, .int .i64 4, .int .i64 0, .int .i64 (wd - 1), .int .i64 0, .int .i64 0, .slice none 0 0, .slice (some ⟨wz.heap.size + 1, 0, none⟩) 1 1] 119)) w1.heap.size).rd k6 k7, HK1.out.rd k8 k9, k1, k2, k3, k4, k5⟩
      | 1, hy =>
       obtain rfl : nodK 4 0 (wd - 1) 0 [(k : Int)] (some ⟨wz.heap.size + 1, 0, none⟩) 1 = y := by simpa using hy
       exact ⟨⟨BB.cell 7, BB.cell 8, BB.cell 9, BB.cell 10, BB.cell 11, BB.cell 12, BB.cell 13⟩, (nw_none (((wz.alloc (Obj.cells #[.int .i64 ((k : Int) - 1), .int .i64 ((k : Int) - 1)] 2)).alloc (Obj.cells #[.int .i64 (k : Int)] 2)).alloc (Obj.cells #[.int .i64 3, .int .i64 0, .int .i64 0, .int .i64 0, .int .i64 0, .slice none 0 0, .slice (some ⟨wz.heap.size, 0, none⟩) 2 2, .int .i64 4, .int .i64 0, .int .i64 (wd - 1), .int .i64 0, .int .i64 0, .slice none 0 0, .slice (some ⟨wz.heap.size + 1, 0, none⟩) 1 1] 119)) w1.heap.size).rd k6 k7, HK2.out.rd k8 k9, k1, k2, k3, k4, k5⟩
      | q + 2, hy => simp at hy
     have hll : l.length + 2 ≤ 1073741824 := by omega
     have hsz2 : w1.heap.size ≤ wz.heap.size + 1 + 1 + 1 := by omega
     go_wp2_with (at_builtin; refine wpList_appTs _ rfl _ _ rfl w1.heap.size _ l [nodK 3 0 0 0 [(k : Int) - 1, (k : Int) - 1] (some ⟨wz.heap.size, 0, none⟩) 2, nodK 4 0 (wd - 1) 0 [(k : Int)] (some ⟨wz.heap.size + 1, 0, none⟩) 1] rfl GA.out.tq.row _ _ 2 _ rfl rfl HR.out hll (by simpa using hsz2) ?_)
     intro v6 w6 ho hg
     have G6 := kide (GA.out.pushs (ys := [nodK 3 0 0 0 [(k : Int) - 1, (k : Int) - 1] (some ⟨wz.heap.size, 0, none⟩) 2, nodK 4 0 (wd - 1) 0 [(k : Int)] (some ⟨wz.heap.size + 1, 0, none⟩) 1]) (fun y hy => by
      simp only [List.mem_cons, List.not_mem_nil, or_false] at hy
      rcases hy with rfl | rfl
      ·exact ⟨nw_none _ _, HK1.out, fun _ => rfl, fun e => by cases e⟩
      ·exact ⟨nw_none _ _, HK2.out, fun _ => rfl, fun e => by cases e⟩) hg ho)
     have S6 := kide (GA.out.bz SA.out hg)
     obtain ⟨a6, c6, e6⟩ := G6.out.tq.form
     subst e6
     have e7 : (l ++ [nodK 3 0 0 0 [(k : Int) - 1, (k : Int) - 1] (some ⟨wz.heap.size, 0, none⟩) 2, nodK 4 0 (wd - 1) 0 [(k : Int)] (some ⟨wz.heap.size + 1, 0, none⟩) 1]).length = k + 2 := by simp; omega
     rw [e7] at G6
     have s0 := S6.out.cell 0
     have s1 := S6.out.froz 0
     simp at s0
     clear ho hg GA SA Ba HK1 HK2 HR
     rw [e7]
     go_wp2_with fail
     have S7 := kide (S6.out.set 0 (.slice a6 (k + 2) c6))
     go_roundw
     case rel => exact ⟨j + 1, a6, c6, k + 2, _, by first | rfl | go_num, by omega, G6.out.cellT S6.out (by omega) _, S7.out, e7, by omega, by omega, fun z hz => by
      rcases List.mem_append.1 hz with h9 | h9
      ·exact OKR.out z h9
      ·exact OK7.out z h9⟩
     case measure => first | (simp [intOf]; omega) | omega
    ·go_wp2_with fail
     exact ⟨sa, sc, k, l, act_u (by kernel_rfl), GR.out, SR.out, hm, by omega, OKR.out⟩
  have hqi7 : (y == 7) = false := by simp; omega
  go_wp2_with fail
  exact ⟨ta, tc, m, l, act_u (by kernel_rfl), G5.out, S5.out, hm, by omega, OKL.out⟩
 ·clear G5 S5 K5 OKL OKN hx hm him hl2 hl2'
  clear ta tc m l x
  rintro a' w6 ⟨ta, tc, m, l, ⟨u, rfl⟩, hg6, hs6, hm6, h30, hok6⟩
  have G6 := kide hg6
  have S6 := kide hs6
  have OK6 := kide hok6
  have X6 : Hid (Bz w6 rb #[.slice none 0 0] 28) := X1.out.far hg6.dw (by omega)
  have hrt : rb ≠ tb := by omega
  have k0 := S6.out.cell 0
  have x0 := X6.out.cell 0
  have x1 := X6.out.froz 0
  simp at k0 x0
  have T7 := kide ((hg6.tq.low (B' := w.heap.size) (by omega)).cellT (o := 0) X6.out (.slice ta m tc))
  have H7 : Hid (Dl w0 (w6.setCell ⟨rb, 0, none⟩ (.slice ta m tc)) β a c bs da ds) := (HD.out.draw hg6.rr (W1.out.trans hg6.dw)).own (gsc w6 ⟨rb, 0, none⟩ _) (fun k e => by cases e; have := HD.out.size; simp only []; omega)
  have W7 : Hid (Dw β w (w6.setCell ⟨rb, 0, none⟩ (.slice ta m tc))) := (W1.out.trans hg6.dw).own (gsc w6 ⟨rb, 0, none⟩ _) (fun k e => by cases e; simp only []; omega)
  have Y7 := kide (X6.out.set 0 (.slice ta m tc))
  have y0 := Y7.out.cell 0
  simp at y0
  clear hg6 hs6 hok6
  go_wp2_with fail
  exact bodyPost_ret (v := .agg #[.slice ta m tc]) (by simp [results, Tryz.results69, go_sem, y0]) rfl ⟨_, l, rfl, T7.out, by omega, OK6.out, H7.out, W7.out⟩

end Go.Proofs.YtkngpgonmedgpaaGreatDoor
