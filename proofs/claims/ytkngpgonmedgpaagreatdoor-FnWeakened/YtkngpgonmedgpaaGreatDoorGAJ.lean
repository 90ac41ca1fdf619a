/- Several texts in one. -/
import Derived.Test.YtkngpgonmedgpaaGreatDoorGAG
import Derived.Handy
import Derived.Test.YtkngpgonmedgpaaGreatDoorRX
import Derived.Test.YtkngpgonmedgpaaGreatDoorGAI
namespace Go.Proofs.YtkngpgonmedgpaaGreatDoor
open Go.RowKit
set_option linter.unusedVariables false
set_option linter.unusedSimpArgs false

theorem OI.set_other {w : World} {B β : Nat} {v : Value} {xs : List Int} {cs : Array Value} {t : TypeId} (h : OI w B v xs) (hb : Bz w β cs t) (ht : t ≠ 2) (i : Nat) (u : Value) : OI (w.setCell ⟨β, i, none⟩ u) B v xs :=
 h.move fun b hb' => heap_setCell_other _ _ _ _ (fun e => by
  simp only [] at e
  subst e
  rcases h.2 with ⟨rfl, -⟩ | ⟨g, cap, cur, rfl, hg, hh, -⟩
  ·cases hb'
  ·cases hb'
   unfold Bz at hb
   rw [hb] at hh
   cases hh
   exact ht rfl)
theorem bz_gr {w w' : World} {b B : Nat} {cs : Array Value} {t : TypeId} {v : Value} (h : Bz w b cs t) (hb : b < B) (hv : ∀ k, v.ownBlock = some k → B ≤ k) (hg : w.grownBy w' v.ownBlock) : Bz w' b cs t := by
 unfold Bz
 rw [hg.block b h.lt (fun e => by have := hv b e.symm; omega)]
 exact h
theorem cap0 {w : World} {B n c m k : Nat} {a : Option Addr} {t : TypeId} {xs : List Value} (h : w.ownsRow B t k (.slice a n c) m xs) : a = none → c = 0 := fun ha => by
 subst ha
 rcases h.2 with ⟨e, -⟩ | ⟨g, cap, cur, e, -⟩
 ·simp only [Value.slice.injEq] at e
  exact e.2.2
 ·simp only [Value.slice.injEq] at e
  exact absurd e.1 (by simp)

def Sn (xs : List Tg) : Prop := ∀ x ∈ xs, (x.wa = none → x.wc = 0) ∧ (x.ka = none → x.kc = 0)
theorem OI.typed9 {w : World} {B : Nat} {v : Value} {l : List Int} (h : OI w B v l) {b : Nat} (hb : v.ownBlock = some b) : ∃ cur, w.heap[b]? = some (.cells cur 2 (0, 0)) := by
 rcases h.2 with ⟨rfl, -⟩ | ⟨g, cap, cur, rfl, hg, hh, -⟩
 ·cases hb
 ·cases hb; exact ⟨_, hh⟩
theorem Ni.cell {w : World} {lo g j : Nat} {xs : List Int} (h : Ni w lo (some ⟨g, 0, none⟩) xs) (hj : j < xs.length) : w.cell? ⟨g, j, none⟩ = some (.int .i64 (xs.getD j 0)) ∧ w.frozen? ⟨g, j, none⟩ = false := by
 rcases h with ⟨h1, -⟩ | ⟨g', cur, h1, h2, h3, h4⟩
 ·rw [h1] at hj; simp at hj
 ·cases h1
  exact ⟨by rw [cell_of_row w g j _ _ _ h3]; exact h4 j hj, frozen_of_row w g j _ _ h3⟩
def mvK (to ks : List Int) (j : Nat) : List Int := (ks.take j).map (fun k => to.getD k.toNat 0) ++ ks.drop j
theorem mvK_len (to ks : List Int) (j : Nat) : (mvK to ks j).length = ks.length := by simp [mvK]; omega
theorem mvK_get (to ks : List Int) {j i : Nat} (h : j ≤ i) : (mvK to ks j).getD i 0 = ks.getD i 0 := by
 simp only [mvK, List.getD_eq_getElem?_getD]
 by_cases hj : j ≤ ks.length
 ·rw [List.getElem?_append_right (by simp; omega), List.getElem?_drop]
  simp
  rw [Nat.min_eq_left hj, show j + (i - j) = i by omega]
 ·rw [List.getElem?_eq_none (by simp; omega), List.getElem?_eq_none (by omega)]
theorem mvK_step (to ks : List Int) {j : Nat} (h : j < ks.length) : (mvK to ks j).set j (to.getD (ks.getD j 0).toNat 0) = mvK to ks (j + 1) := by
 have e : ks.getD j 0 = ks[j] := by simp [List.getD, h]
 have e1 : ks.drop j = ks[j] :: ks.drop (j + 1) := List.drop_eq_getElem_cons h
 have e2 : ks.take (j + 1) = ks.take j ++ [ks[j]] := by rw [List.take_add_one, List.getElem?_eq_getElem h]; rfl
 rw [e]
 simp only [mvK]
 rw [e1, e2, List.map_append, List.set_append_right _ _ (by simp; omega)]
 simp [Nat.min_eq_left (Nat.le_of_lt h)]
 rw [e1]
 rfl
theorem mvK_all (to ks : List Int) : mvK to ks ks.length = ks.map fun k => to.getD k.toNat 0 := by simp [mvK]


structure NdN (wr : World) (B H : Nat) (tv : Value) (x : Tg) : Prop where
 wn : Nw wr B x.wa x.ct.ws
 kn : Ni wr B x.ka x.ct.ks
 wh : ∀ p, x.wa = some p → p.block < H
 kh : ∀ p, x.ka = some p → p.block < H
 dj : ∀ p, x.ka = some p → tv.ownBlock ≠ some p.block

structure RpM (w wr : World) (B H : Nat) (v tv : Value) (l : List Tg) (st : List Tc × List Int) : Prop where
 row : OT wr B v l
 nd : ∀ x ∈ l, NdN wr B H tv x
 sn : Sn l
 eq : l.map Tg.ct = st.1
 ot : OI wr B tv st.2
 bl : Below w.heap.size w wr
 bB : w.heap.size ≤ B
 BH : B ≤ H
 hH : H ≤ wr.heap.size
 vH : ∀ b, v.ownBlock = some b → b < H
 tH : ∀ b, tv.ownBlock = some b → b < H
theorem nw_ltB {w : World} {lo : Nat} {a : Option Addr} {xs : List Nat} (h : Nw w lo a xs) {p : Addr} (hp : a = some p) : lo ≤ p.block ∧ p.block < w.heap.size := by
 rcases h with ⟨h1, h2⟩ | ⟨g, cur, h1, h2, h3, h4⟩
 ·obtain ⟨k1, -, cur, k2⟩ := h2 p hp
  exact ⟨k1, lt_of_block k2⟩
 ·rw [h1] at hp
  cases hp
  exact ⟨h2, lt_of_block h3⟩
theorem nw_blk {w w' : World} {lo : Nat} {a : Option Addr} {xs : List Nat} (h : Nw w lo a xs) (hk : ∀ p, a = some p → w'.heap[p.block]? = w.heap[p.block]?) : Nw w' lo a xs := by
 rcases h with ⟨h1, h2⟩ | ⟨g, cur, h1, h2, h3, h4⟩
 ·refine .inl ⟨h1, fun x e => ?_⟩
  obtain ⟨q1, q2, cur, q3⟩ := h2 x e
  exact ⟨q1, q2, cur, (hk x e).trans q3⟩
 ·exact .inr ⟨g, cur, h1, h2, (hk _ h1).trans h3, h4⟩
theorem ni_blk {w w' : World} {lo : Nat} {a : Option Addr} {xs : List Int} (h : Ni w lo a xs) (hk : ∀ p, a = some p → w'.heap[p.block]? = w.heap[p.block]?) : Ni w' lo a xs := by
 rcases h with ⟨h1, h2⟩ | ⟨g, cur, h1, h2, h3, h4⟩
 ·refine .inl ⟨h1, fun x e => ?_⟩
  obtain ⟨q1, q2, cur, q3⟩ := h2 x e
  exact ⟨q1, q2, cur, (hk x e).trans q3⟩
 ·exact .inr ⟨g, cur, h1, h2, (hk _ h1).trans h3, h4⟩
theorem nw_typed {w : World} {lo : Nat} {a : Option Addr} {xs : List Nat} (h : Nw w lo a xs) {p : Addr} (hp : a = some p) : ∃ cur, w.heap[p.block]? = some (.cells cur 109 (0, 0)) := by
 rcases h with ⟨h1, h2⟩ | ⟨g, cur, h1, h2, h3, h4⟩
 ·obtain ⟨-, -, cur, k2⟩ := h2 p hp
  exact ⟨cur, k2⟩
 ·rw [h1] at hp
  cases hp
  exact ⟨cur, h3⟩
theorem ni_typed {w : World} {lo : Nat} {a : Option Addr} {xs : List Int} (h : Ni w lo a xs) {p : Addr} (hp : a = some p) : ∃ cur, w.heap[p.block]? = some (.cells cur 2 (0, 0)) := by
 rcases h with ⟨h1, h2⟩ | ⟨g, cur, h1, h2, h3, h4⟩
 ·obtain ⟨-, -, cur, k2⟩ := h2 p hp
  exact ⟨cur, k2⟩
 ·rw [h1] at hp
  cases hp
  exact ⟨cur, h3⟩
theorem RpM.later {w wr wr' : World} {B H : Nat} {v tv : Value} {l : List Tg} {st : List Tc × List Int} (h : RpM w wr B H v tv l st) (hb : Below wr.heap.size wr wr') : RpM w wr' B H v tv l st where
 row := h.row.later hb
 nd := fun x hx => have n := h.nd x hx; ⟨n.wn.later hb, n.kn.later hb, n.wh, n.kh, n.dj⟩
 sn := h.sn
 eq := h.eq
 ot := h.ot.later hb
 bl := h.bl.trans (hb.mono h.bl.size)
 bB := h.bB
 BH := h.BH
 hH := Nat.le_trans h.hH hb.size
 vH := h.vH
 tH := h.tH
theorem RpM.out {w wr wr' : World} {B H g : Nat} {v tv : Value} {l : List Tg} {st : List Tc × List Int} (h : RpM w wr B H v tv l st) (hg : wr.grownBy wr' (some g)) (hN : H ≤ g) : RpM w wr' B H v tv l st where
 row := h.row.move fun b hb => hg.block b (h.row.lt hb).2 (fun e => by cases e; have := h.vH _ hb; omega)
 nd := fun x hx => have n := h.nd x hx; ⟨nw_blk n.wn fun p hp => hg.block _ (nw_ltB n.wn hp).2 (fun e => by have := n.wh p hp; cases e; omega), ni_blk n.kn fun p hp => hg.block _ (ni_lt n.kn hp).2 (fun e => by have := n.kh p hp; cases e; omega), n.wh, n.kh, n.dj⟩
 sn := h.sn
 eq := h.eq
 ot := h.ot.move fun b hb => hg.block b (h.ot.lt hb).2 (fun e => by cases e; have := h.tH _ hb; omega)
 bl := h.bl.grown hg h.bl.size (fun k e => by cases e; have := h.bB; have := h.BH; omega)
 bB := h.bB
 BH := h.BH
 hH := Nat.le_trans h.hH hg.size
 vH := h.vH
 tH := h.tH
theorem RpM.push {w wt w5 : World} {B H : Nat} {v v' tv : Value} {l : List Tg} {st1 : List Tc} {to : List Int} {y : Tg} (h : RpM w wt B H v tv l (st1, to)) (hg : wt.grownBy w5 v.ownBlock) (ho : OT w5 B v' (l ++ [y])) (hy : Nw wt B y.wa y.ct.ws) (hk : Ni wt B y.ka y.ct.ks) (hdj : ∀ p, y.ka = some p → tv.ownBlock ≠ some p.block) (hs : (y.wa = none → y.wc = 0) ∧ (y.ka = none → y.kc = 0)) : RpM w w5 B w5.heap.size v' tv (l ++ [y]) (st1 ++ [y.ct], to) where
 row := ho
 nd := fun x hx => by
  have keep : ∀ (b : Nat) (c : Array Value) (t : TypeId), t ≠ 119 → wt.heap[b]? = some (.cells c t (0, 0)) → w5.heap[b]? = wt.heap[b]? := fun b c t ht hc => hg.block b (lt_of_block hc) (fun e => by
   obtain ⟨c2, k2⟩ := h.row.typed e.symm
   rw [hc] at k2
   cases k2
   exact ht rfl)
  rcases List.mem_append.1 hx with hx | hx
  ·have n := h.nd x hx
   refine ⟨nw_blk n.wn fun p hp => ?_, ni_blk n.kn fun p hp => ?_, fun p hp => ?_, fun p hp => ?_, n.dj⟩
   ·obtain ⟨c, hc⟩ := nw_typed n.wn hp
    exact keep _ c _ (by decide) hc
   ·obtain ⟨c, hc⟩ := ni_typed n.kn hp
    exact keep _ c _ (by decide) hc
   ·have := n.wh p hp; have := h.hH; have := hg.size; omega
   ·have := n.kh p hp; have := h.hH; have := hg.size; omega
  ·simp at hx
   subst hx
   refine ⟨nw_blk hy fun p hp => ?_, ni_blk hk fun p hp => ?_, fun p hp => ?_, fun p hp => ?_, hdj⟩
   ·obtain ⟨c, hc⟩ := nw_typed hy hp
    exact keep _ c _ (by decide) hc
   ·obtain ⟨c, hc⟩ := ni_typed hk hp
    exact keep _ c _ (by decide) hc
   ·have := (nw_ltB hy hp).2; have := hg.size; omega
   ·have := (ni_lt hk hp).2; have := hg.size; omega
 sn := fun x hx => by
  rcases List.mem_append.1 hx with hx | hx
  ·exact h.sn x hx
  ·simp at hx
   subst hx
   exact hs
 eq := by
  have h9 := h.eq
  simp only [] at h9 ⊢
  rw [List.map_append, h9]
  rfl
 ot := h.ot.move fun b hb => hg.block b (h.ot.lt hb).2 (fun e => by
  obtain ⟨c1, k1⟩ := h.ot.typed9 hb
  obtain ⟨c2, k2⟩ := h.row.typed e.symm
  rw [k1] at k2
  cases k2)
 bl := h.bl.grown hg h.bl.size (fun k e => by have := (h.row.lt e).1; have := h.bB; omega)
 bB := h.bB
 BH := Nat.le_trans h.BH (Nat.le_trans h.hH hg.size)
 hH := Nat.le_refl _
 vH := fun b hb => (ho.lt hb).2
 tH := fun b hb => by have := h.tH b hb; have := h.hH; have := hg.size; omega
theorem RpM.told {w wt w5 : World} {B H : Nat} {v tv tv' : Value} {l : List Tg} {st1 : List Tc} {to to' : List Int} (h : RpM w wt B H v tv l (st1, to)) (hg : wt.grownBy w5 tv.ownBlock) (ho : OI w5 B tv' to') (hat : tv'.ownBlock = tv.ownBlock ∨ tv'.ownBlock = some wt.heap.size) : RpM w w5 B w5.heap.size v tv' l (st1, to') where
 row := h.row.move fun b hb => hg.block b (h.row.lt hb).2 (fun e => by
  obtain ⟨c1, k1⟩ := h.row.typed hb
  obtain ⟨c2, k2⟩ := h.ot.typed9 e.symm
  rw [k1] at k2
  cases k2)
 nd := fun x hx => have n := h.nd x hx; ⟨nw_blk n.wn fun p hp => hg.block _ (nw_ltB n.wn hp).2 (fun e => by
   obtain ⟨c1, k1⟩ := nw_typed n.wn hp
   obtain ⟨c2, k2⟩ := h.ot.typed9 e.symm
   rw [k1] at k2
   cases k2), ni_blk n.kn fun p hp => hg.block _ (ni_lt n.kn hp).2 (fun e => n.dj p hp e.symm), fun p hp => by have := n.wh p hp; have := h.hH; have := hg.size; omega, fun p hp => by have := n.kh p hp; have := h.hH; have := hg.size; omega, fun p hp e => by
   rcases hat with h8 | h8
   ·exact n.dj p hp (by rw [← h8]; exact e)
   ·rw [h8] at e
    have := n.kh p hp
    have := h.hH
    have e9 := Option.some.inj e
    omega⟩
 sn := h.sn
 eq := h.eq
 ot := ho
 bl := h.bl.grown hg h.bl.size (fun k e => by have := (h.ot.lt e).1; have := h.bB; omega)
 bB := h.bB
 BH := Nat.le_trans h.BH (Nat.le_trans h.hH hg.size)
 hH := Nat.le_refl _
 vH := fun b hb => by have := h.vH b hb; have := h.hH; have := hg.size; omega
 tH := fun b hb => (ho.lt hb).2
theorem RpM.rd {w wr : World} {B H : Nat} {v tv : Value} {l : List Tg} {st : List Tc × List Int} (h : RpM w wr B H v tv l st) (hl : l.length ≤ 1048576) (hok : ∀ n ∈ st.1, okT n) : ∃ a c, v = .slice a l.length c ∧ RdT wr a l := by
 obtain ⟨a, c, e⟩ := h.row.form
 refine ⟨a, c, e, hl, ?_⟩
 by_cases h0 : l = []
 ·exact .inl h0
 ·right
  obtain ⟨x0, hx0⟩ : ∃ x0, l[0]? = some x0 := ⟨l[0]'(List.length_pos_iff.2 h0), List.getElem?_eq_getElem _⟩
  obtain ⟨g0, c0, e0, -⟩ := h.row.at hx0
  rw [e] at e0
  injection e0 with e1 e2 e3
  subst e1
  refine ⟨g0, 0, rfl, fun i x hi => ?_⟩
  obtain ⟨g, c1, e4, ht⟩ := h.row.at hi
  rw [e] at e4
  injection e4 with e5 e6 e7
  cases e5
  rw [Nat.zero_add]
  have hm := List.mem_of_getElem? hi
  obtain ⟨k1, k2, k3, k4, k5, k6, k7, k8, k9⟩ := hok x.ct (by rw [← h.eq]; exact List.mem_map_of_mem hm)
  refine ⟨ht, ?_, ?_, k1, k2, k3, k4, k5⟩
  ·exact (h.nd x hm).wn.rd k6 k7
  ·exact (h.nd x hm).kn.rd k8 k9

open Go.RowKit Go.WideMaps Go.Maps
set_option maxHeartbeats 1000000 in
theorem totalWidth_any (a : Option Addr) (c : Nat) (ds : List Dc) (w : World) (hr : RdD w a ds) (h60 : ds.length ≤ 60) (hok : ∀ d ∈ ds, dcOk d = true) :
  Calls Tryz.prog 103 #[.slice a ds.length c] w fun e w' => e = .returned (.int .i64 (sumW ds)) ∧ Below w.heap.size w w' := by
 have HLN := kide hr.1
 have HALL := kide hok
 go_enter Tryz.func103, Tryz.ntmps103
 clear hok
 go_wp2_with fail
 go_loopw [3, 8] (fun q i wr => ∃ k : Nat, k ≤ ds.length ∧ i = .int .i64 (k : Int) ∧ q = .int .i64 (sumW (ds.take k)) ∧ Below w.heap.size w wr) (fun _ i _ => ds.length - (intOf i).toNat)
 case atStart => exact ⟨0, Nat.zero_le _, rfl, by simp [sumW], Below.refl _ _⟩
 case round =>
  obtain ⟨k, hk, rfl, rfl, hbel⟩ := hrel
  have HB := kide hbel
  by_cases hlt : k < ds.length
  ·obtain ⟨-, hsz, h | ⟨b, o, rfl, hc⟩⟩ := hr
   ·subst h; simp at hlt
   obtain ⟨⟨t, x⟩, hh⟩ : ∃ x, ds[k] = x := ⟨_, rfl⟩
   have gx : ds[k]? = some (t, x) := by rw [List.getElem?_eq_getElem hlt, hh]
   obtain ⟨p0, p1⟩ := (hc k _ gx).later hbel
   simp only [] at p0 p1
   obtain ⟨hx64, hts⟩ := hsz _ (List.mem_of_getElem? gx)
   simp only [] at hx64 hts
   have i0 : (k : Int) < (ds.length : Int) := by omega
   have hsum := sumW_le (fun d hd => HALL.out d (List.mem_of_mem_take hd) : ∀ d ∈ ds.take k, dcOk d = true)
   have hst := sumW_take gx
   simp only [] at hst
   have htl : (ds.take k).length = k := by simp; omega
   rw [htl] at hsum
   have HST := kide hst
   have hx := (dcOk_iff.1 (HALL.out _ (List.mem_of_getElem? gx))).2
   simp [wOk] at hx
   obtain ⟨hx1, hx2⟩ := hx
   obtain ⟨hs1, hs2⟩ := hsum
   have HA := kide ((HB.out.alloc HB.out.size (Obj.cells #[.string t, .int .i64 x] 94)))
   clear hc gx hh hsz hst htl hbel
   generalize sumW (ds.take k) = Q at *
   go_wp2_with fail
   go_roundw
   case rel =>
    refine ⟨k + 1, by omega, by go_num, ?_, HA.out⟩
    rw [HST.out]
   case measure => simp [intOf]; omega
  ·have e : k = ds.length := by omega
   have HE : Hid (sumW (ds.take k) = sumW ds) := by
    show _ = _
    rw [e, List.take_length]
   generalize sumW (ds.take k) = Q at *
   clear hbel e
   go_wp2_with fail
   go_ret
   exact ⟨by rw [HE.out]; rfl, HB.out⟩
set_option maxHeartbeats 1000000 in
theorem implDecls_any (a : Option Addr) (c : Nat) (ds : List Dc) (w : World) (hr : RdD w a ds) :
  Calls Tryz.prog 75 #[.slice a ds.length c] w fun e w' => e = .returned (.bool (dclR ds)) ∧ Below w.heap.size w w' := by
 have hlen := hr.1
 by_cases h60 : ds.length ≤ 60
 ·go_enter Tryz.func75, Tryz.ntmps75
  go_wp2_with fail
  have HLN := kide hlen
  clear hlen
  go_loopw [10] (fun i wr => ∃ k : Nat, k ≤ ds.length ∧ i = .int .i64 (k : Int) ∧ (∀ d ∈ ds.take k, dcOk d = true) ∧ Below w.heap.size w wr) (fun i _ => ds.length - (intOf i).toNat)
  case atStart => exact ⟨0, Nat.zero_le _, rfl, by simp, Below.refl _ _⟩
  case round =>
   obtain ⟨k, hk, rfl, hok, hbel⟩ := hrel
   have HB := kide hbel
   by_cases hlt : k < ds.length
   ·obtain ⟨-, hsz, h | ⟨b, o, rfl, hc⟩⟩ := hr
    ·subst h; simp at hlt
    obtain ⟨⟨t, x⟩, hh⟩ : ∃ x, ds[k] = x := ⟨_, rfl⟩
    have gx : ds[k]? = some (t, x) := by rw [List.getElem?_eq_getElem hlt, hh]
    obtain ⟨p0, p1⟩ := (hc k _ gx).later hbel
    simp only [] at p0 p1
    obtain ⟨hx64, hts⟩ := hsz _ (List.mem_of_getElem? gx)
    simp only [] at hx64 hts
    have i0 : (k : Int) < (ds.length : Int) := by omega
    have GX := kide gx
    have hsum := sumW_le hok
    have hst := sumW_take gx
    simp only [] at hst
    have htl : (ds.take k).length = k := by simp; omega
    rw [htl] at hsum
    have HST := kide hst
    have HOK := kide hok
    have hN : ∀ u, Calls Tryz.prog 101 #[.string t] u fun e w' => e = .returned (.bool (nmOk t)) ∧ w' = u := fun u => nameOk_any t hts u
    have hW : ∀ u, Calls Tryz.prog 102 #[.int .i64 x] u fun e w' => e = .returned (.bool (wOk x)) ∧ w' = u := fun u => widthOk_any x u
    have HN := kide hN
    have HW := kide hW
    have HBAD : Hid (nmOk t = false ∨ wOk x = false → dclR ds = false) := fun h => dclR_bad gx (by rcases h with h | h <;> simp [dcOk, h])
    have HGOOD : Hid (nmOk t = true → wOk x = true → dcOk (t, x) = true) := fun h h' => by simp [dcOk, h, h']
    have hwx : wOk x = true → 1 ≤ x ∧ x ≤ 4096 := fun h => by simpa [wOk] using h
    have HA := kide ((HB.out.alloc HB.out.size (Obj.cells #[.string t, .int .i64 x] 94)))
    clear hN hW hc gx hh hsz hok hst htl hbel
    generalize sumW (ds.take k) = Q at *
    generalize nmOk t = r1 at *
    cases r1 with
    | false =>
     have HR := kide (HBAD.out (.inl (by simp)))
     go_wp2_with (go_at_call 101; refine Calls.mono (HN.out _) ?_; rintro e w1 ⟨rfl, rfl⟩)
     go_ret
     exact ⟨ret_bool HR.out.symm, HA.out⟩
    | true =>
     generalize wOk x = r2 at *
     cases r2 with
     | false =>
      have HR := kide (HBAD.out (.inr (by simp)))
      go_wp2_with (first | (go_at_call 101; refine Calls.mono (HN.out _) ?_; rintro e w1 ⟨rfl, rfl⟩) | (go_at_call 102; refine Calls.mono (HW.out _) ?_; rintro e w1 ⟨rfl, rfl⟩))
      go_ret
      exact ⟨ret_bool HR.out.symm, HA.out⟩
     | true =>
      have hx := hwx (by simp)
      obtain ⟨hx1, hx2⟩ := hx
      obtain ⟨hs1, hs2⟩ := hsum
      have HG := kide (HGOOD.out (by simp) (by simp))
      clear HBAD HGOOD hwx
      go_wp2_with (first | (go_at_call 101; refine Calls.mono (HN.out _) ?_; rintro e w1 ⟨rfl, rfl⟩) | (go_at_call 102; refine Calls.mono (HW.out _) ?_; rintro e w1 ⟨rfl, rfl⟩))
      go_roundw
      case rel =>
       refine ⟨k + 1, by omega, by go_num, ?_, HA.out⟩
       ·intro d hd
        rw [List.take_add_one, GX.out] at hd
        rcases List.mem_append.1 hd with hd | hd
        ·exact HOK.out d hd
        ·simp at hd
         subst hd
         exact HG.out
      case measure => simp [intOf]; omega
   ·have e : k = ds.length := by omega
    rw [e, List.take_length] at hok
    have hs := sumW_le hok
    rw [← List.take_length (l := ds), ← e] at hs
    have HR : Hid (dclR ds = (decide (sumW (ds.take k) ≤ 20000) && decide ((ds.map Prod.fst).Nodup))) := by
     show _ = _
     rw [e, List.take_length]
     rw [Bool.eq_iff_iff, dclR_iff, Bool.and_eq_true, decide_eq_true_eq, decide_eq_true_eq]
     exact ⟨fun h => ⟨h.2.2.1, h.2.2.2⟩, fun h => ⟨h60, hok, h.1, h.2⟩⟩
    have hnm : ∀ d ∈ ds, d.1.size ≤ 1048576 := fun d hd => by
     have := (dcOk_iff.1 (hok d hd)).1
     simp [nmOk] at this
     omega
    have HP := kide (fun u (hu : Below w.heap.size w u) => placesOf_any a c ds u (hr.later hu) hnm)
    have HT := kide (totalWidth_any a c ds wr (hr.later hbel) h60 hok)
    rw [e, List.take_length] at HR hs
    generalize sumW ds = Q at *
    clear hok hbel hs e hnm
    go_wp2_with fail
    refine Calls.mono HT.out ?_
    rintro e wt ⟨rfl, hbt⟩
    have HBT := kide (HB.out.trans (hbt.mono HB.out.size))
    clear hbt
    by_cases hq : Q ≤ 20000
    ·have HR2 : Hid (dclR ds = decide ((ds.map Prod.fst).Nodup)) := by
      show _ = _
      rw [HR.out, decide_eq_true hq]; rfl
     go_wp2_with (go_at_call 104; refine Calls.mono (HP.out _ HBT.out) ?_; rintro e w1 ⟨rfl, ⟨D, hown, hpl⟩, hb1⟩; have hml := fun ty => hown.len Tryz.underlying145 ty; have HD : Hid (decide ((ds.map Prod.fst).Nodup) = decide (Maps.size D = ds.length)) := (by show _ = _; rw [Bool.eq_iff_iff, decide_eq_true_eq, decide_eq_true_eq, ← hpl.nodup, List.length_map]); have hle := hpl.le; rw [List.length_map] at hle; clear hown hpl; generalize Maps.size D = n at *)
     go_ret
     exact ⟨ret_bool (by rw [HR2.out, HD.out, Bool.eq_iff_iff]; simp; omega), HBT.out.trans (hb1.mono HBT.out.size)⟩
    ·have HR2 : Hid (dclR ds = false) := by
      show _ = _
      rw [HR.out, decide_eq_false hq]; rfl
     go_wp2_with fail
     go_ret
     exact ⟨ret_bool HR2.out.symm, HBT.out⟩
 ·rw [dclR_long (by omega)]
  go_enter Tryz.func75, Tryz.ntmps75
  go_wp2_with fail
  go_ret
  exact ⟨rfl, Below.refl _ _⟩

theorem l3NoBits_any (bw : Int) (a : Option Addr) (n c : Nat) (w : World) (hn : n ≤ 1048576) :
    Calls Tryz.prog 145 #[.agg #[.int .i64 bw, .slice a n c]] w fun e w' => e = .returned (.bool (decide (bw = 0) && decide (n = 0))) ∧ Below w.heap.size w w' := by
  have hb0 : Below w.heap.size w (w.alloc (Obj.cells #[.int .i64 bw, .slice a n c] 80)) := (Below.refl _ _).alloc (Nat.le_refl _) _
  have B0 := kide hb0
  clear hb0
  by_cases h : bw = 0
  · subst h
    go_enter Tryz.func145, Tryz.ntmps145
    go_wp2_with fail
    go_ret
    exact ⟨ret_bool (by rw [Bool.eq_iff_iff]; simp), B0.out⟩
  · have e1 : (bw == 0) = false := by simp [h]
    have hR : (decide (bw = 0) && decide (n = 0)) = false := by simp [h]
    rw [hR]
    clear hR h
    go_enter Tryz.func145, Tryz.ntmps145
    go_wp2_with fail
    go_ret
    exact ⟨rfl, B0.out⟩
theorem l3One_any (op : Int) (w : World) :
    Calls Tryz.prog 146 #[.int .i64 op] w fun e w' => e = .returned (.bool (decide (4 ≤ op ∧ op ≤ 9))) ∧ w' = w := by
  have HL := kide (l1In_any op 4 9 w)
  generalize decide (4 ≤ op ∧ op ≤ 9) = V at *
  go_enter Tryz.func146, Tryz.ntmps146
  go_wp2_with fail
  refine Calls.mono HL.out ?_
  rintro e w' ⟨rfl, rfl⟩
  go_wp2_with fail
  go_ret
  exact ⟨rfl, rfl⟩
def fieldR (n : Tc) : Bool := !(n.op != 1 && n.vr != 0 || n.op != 2 && !(decide (n.bw = 0) && decide (n.ws.length = 0)) || n.op != 4 && n.b != 0 || !decide (4 ≤ n.op ∧ n.op ≤ 9) && n.a != 0)
def manyR (nd : Nat) (n : Tc) : Bool :=
  if n.op = 1 then decide (n.ks.length = 0) && decide (0 ≤ n.vr ∧ n.vr ≤ (nd : Int) - 1)
  else if n.op = 2 then decide (n.ks.length = 0) && rightB n.bw n.ws
  else if n.op = 3 then decide (2 ≤ n.ks.length)
  else if 4 ≤ n.op ∧ n.op ≤ 9 then decide (n.ks.length = 1)
  else false
def kidsR (at' : Nat) (ks : List Int) : Bool := ks.all (fun k => decide (0 ≤ k ∧ k ≤ (at' : Int) - 1))
set_option maxHeartbeats 1000000 in
theorem l3Form_any (a : Option Addr) (nd c at' : Nat) (n : Tc) (wa ka : Option Addr) (wc kc : Nat) (w : World) (hw : Rd w wa n.ws) (hk : RdI w ka n.ks) (hat : at' ≤ 1048576) (hnd : nd ≤ 1048576) :
    Calls Tryz.prog 124 #[.slice a nd c, .agg #[.int .i64 n.op, .int .i64 n.vr, .int .i64 n.a, .int .i64 n.b, .int .i64 n.bw, .slice wa n.ws.length wc, .slice ka n.ks.length kc], .int .i64 (at' : Int)] w fun e w' => e = .returned (.bool (kidsR at' n.ks && fieldR n && manyR nd n)) ∧ Below w.heap.size w w' := by
  generalize hZ : (kidsR at' n.ks && fieldR n && manyR nd n) = Z
  have HZ := kide hZ
  clear hZ
  obtain ⟨op, vr, A, B, bw, ws, ks⟩ := n
  simp only [] at hw hk ⊢
  have hb0 : Below w.heap.size w (w.alloc (Obj.cells #[.int .i64 op, .int .i64 vr, .int .i64 A, .int .i64 B, .int .i64 bw, .slice wa ws.length wc, .slice ka ks.length kc] 119)) := (Below.refl _ _).alloc (Nat.le_refl _) _
  have HW := kide (fun u (hu : Below w.heap.size w u) => hw.later hu)
  have HK := kide (hk.later hb0)
  have hl := hk.1
  have HWL := kide hw.1
  have B0 := kide hb0
  clear hw hk hb0
  go_enter Tryz.func124, Tryz.ntmps124
  go_wp2_with fail
  have c0 : (w.alloc (Obj.cells #[.int .i64 op, .int .i64 vr, .int .i64 A, .int .i64 B, .int .i64 bw, .slice wa ws.length wc, .slice ka ks.length kc] 119)).cell? ⟨w.heap.size, 0, none⟩ = some (.int .i64 op) := by simp [go_sem]
  have c1 : (w.alloc (Obj.cells #[.int .i64 op, .int .i64 vr, .int .i64 A, .int .i64 B, .int .i64 bw, .slice wa ws.length wc, .slice ka ks.length kc] 119)).cell? ⟨w.heap.size, 1, none⟩ = some (.int .i64 vr) := by simp [go_sem]
  have c2 : (w.alloc (Obj.cells #[.int .i64 op, .int .i64 vr, .int .i64 A, .int .i64 B, .int .i64 bw, .slice wa ws.length wc, .slice ka ks.length kc] 119)).cell? ⟨w.heap.size, 2, none⟩ = some (.int .i64 A) := by simp [go_sem]
  have c3 : (w.alloc (Obj.cells #[.int .i64 op, .int .i64 vr, .int .i64 A, .int .i64 B, .int .i64 bw, .slice wa ws.length wc, .slice ka ks.length kc] 119)).cell? ⟨w.heap.size, 3, none⟩ = some (.int .i64 B) := by simp [go_sem]
  have c4 : (w.alloc (Obj.cells #[.int .i64 op, .int .i64 vr, .int .i64 A, .int .i64 B, .int .i64 bw, .slice wa ws.length wc, .slice ka ks.length kc] 119)).cell? ⟨w.heap.size, 4, none⟩ = some (.int .i64 bw) := by simp [go_sem]
  have c5 : (w.alloc (Obj.cells #[.int .i64 op, .int .i64 vr, .int .i64 A, .int .i64 B, .int .i64 bw, .slice wa ws.length wc, .slice ka ks.length kc] 119)).cell? ⟨w.heap.size, 5, none⟩ = some (.slice wa ws.length wc) := by simp [go_sem]
  have c6 : (w.alloc (Obj.cells #[.int .i64 op, .int .i64 vr, .int .i64 A, .int .i64 B, .int .i64 bw, .slice wa ws.length wc, .slice ka ks.length kc] 119)).cell? ⟨w.heap.size, 6, none⟩ = some (.slice ka ks.length kc) := by simp [go_sem]
  generalize (w.alloc (Obj.cells #[.int .i64 op, .int .i64 vr, .int .i64 A, .int .i64 B, .int .i64 bw, .slice wa ws.length wc, .slice ka ks.length kc] 119)) = w0 at *
  go_loopw [7] (fun i wr => ∃ k : Nat, k ≤ ks.length ∧ i = .int .i64 k ∧ kidsR at' (ks.take k) = true ∧ wr = w0) (fun i _ => ks.length - (intOf i).toNat)
  case atStart => exact ⟨0, Nat.zero_le _, rfl, by simp [kidsR], rfl⟩
  case round =>
    obtain ⟨k, hk, rfl, hkr, rfl⟩ := hrel
    have HKR := kide hkr
    clear hkr
    by_cases hlt : k < ks.length
    · obtain ⟨hl1, hin, h | ⟨b, o, rfl, hc⟩⟩ := HK.out
      · subst h; simp at hlt
      have g0 := hc k hlt
      have HIN := kide hin
      clear hin hc HK
      have hgk : ks[k]? = some (ks.getD k 0) := by simp [List.getD, hlt]
      have HGK := kide hgk
      clear hgk
      generalize ks.getD k 0 = y at *
      by_cases hy : 0 ≤ y ∧ y ≤ (at' : Int) - 1
      · have HL := kide (fun u => l1In_any y 0 ((at' : Int) - 1) u)
        rw [decide_eq_true hy] at HL
        go_wp2_with (go_at_call 73; refine Calls.mono (HL.out _) ?_; rintro e w1 ⟨rfl, rfl⟩)
        go_roundw
        case rel =>
          refine ⟨k + 1, by omega, by go_num, ?_, by first | rfl | trivial⟩
          rw [List.take_add_one, HGK.out, kidsR, List.all_append]
          have := HKR.out
          rw [kidsR] at this
          rw [this]
          simp
          omega
        case measure => simp [intOf]; omega
      · have HL := kide (fun u => l1In_any y 0 ((at' : Int) - 1) u)
        rw [decide_eq_false hy] at HL
        have HY := kide hy
        clear hy
        go_wp2_with (go_at_call 73; refine Calls.mono (HL.out _) ?_; rintro e w1 ⟨rfl, rfl⟩)
        go_ret
        refine ⟨ret_bool ?_, B0.out⟩
        have hf : kidsR at' ks = false := by
          rw [kidsR, List.all_eq_false]
          exact ⟨y, List.mem_of_getElem? HGK.out, by simpa using HY.out⟩
        have hZ := HZ.out
        simp only [hf, Bool.false_and] at hZ
        exact hZ
    · have e : k = ks.length := by omega
      subst e
      have hZ : (fieldR ⟨op, vr, A, B, bw, ws, ks⟩ && manyR nd ⟨op, vr, A, B, bw, ws, ks⟩) = Z := by
        have hK := HKR.out
        rw [List.take_length] at hK
        have h := HZ.out
        simp only [hK, Bool.true_and] at h
        exact h
      have HZ2 := kide hZ
      clear hZ HZ HKR hlt hk
      have hlw : w.heap.size < wr.heap.size := block_lt_of_cell c0
      have HNB := kide (fun u => l3NoBits_any bw wa ws.length wc u HWL.out)
      have HOK := kide (fun u hu => specOk_any bw wa wc ws u (HW.out u hu))
      have HLI := kide (fun u => l1In_any vr 0 ((nd : Int) - 1) u)
      obtain ⟨NV, hnv⟩ : ∃ v, v = (decide (bw = 0) && decide (ws.length = 0)) := ⟨_, rfl⟩
      obtain ⟨LV, hlv⟩ : ∃ v, v = decide (0 ≤ vr ∧ vr ≤ (nd : Int) - 1) := ⟨_, rfl⟩
      obtain ⟨OV, hov⟩ : ∃ v, v = rightB bw ws := ⟨_, rfl⟩
      rw [← hnv] at HNB
      rw [← hlv] at HLI
      rw [← hov] at HOK
      have HF := kide (And.intro hnv (And.intro hlv hov))
      clear hnv hlv hov
      rcases (show op = 1 ∨ op = 2 ∨ op = 3 ∨ op = 4 ∨ (5 ≤ op ∧ op ≤ 9) ∨ (op < 1 ∨ 9 < op) by omega) with rfl | rfl | rfl | rfl | ⟨g1, g2⟩ | g1
      · have HO1 := kide (fun u => l3One_any 1 u)
        rw [show decide ((4 : Int) ≤ 1 ∧ (1 : Int) ≤ 9) = false by decide] at HO1
        cases NV
        all_goals
          go_wp2_with (first
            | (go_at_call 145; refine Calls.mono (HNB.out _) ?_; rintro e wq ⟨rfl, hbq⟩; have k0 := kcell hbq w.heap.size 0 hlw; have k1 := kcell hbq w.heap.size 1 hlw; have k2 := kcell hbq w.heap.size 2 hlw; have k3 := kcell hbq w.heap.size 3 hlw; have k4 := kcell hbq w.heap.size 4 hlw; have k5 := kcell hbq w.heap.size 5 hlw; have k6 := kcell hbq w.heap.size 6 hlw; have BQ := kide (B0.out.trans (hbq.mono B0.out.size)); clear hbq)
            | (go_at_call 146; refine Calls.mono (HO1.out _) ?_; rintro e wx ⟨rfl, rfl⟩)
            | (go_at_call 73; refine Calls.mono (HLI.out _) ?_; rintro e wx ⟨rfl, rfl⟩)
            | (go_at_call 71; refine Calls.mono (HOK.out _ (by first | exact BQ.out | exact B0.out)) ?_; rintro e wx ⟨rfl, hbx⟩; have BX := kide (Below.trans (by first | exact BQ.out | exact B0.out) (hbx.mono (by first | exact BQ.out.size | exact B0.out.size))); clear hbx))
          all_goals go_ret
          all_goals refine ⟨ret_bool ?_, (by first | exact BX.out | exact BQ.out | exact B0.out)⟩
          all_goals (have h := HZ2.out; obtain ⟨f1, f2, f3⟩ := HF.out; simp only [fieldR, manyR] at h; rw [← f1] at h; try rw [← f2] at h
                     try rw [← f3] at h
                     clear f1 f2 f3 HZ2 HF HNB HOK HLI HO1 B0 HW HK HWL; rw [← h]; clear h; cases hB : (B != 0) <;> cases hA : (A != 0) <;> cases hV : (vr != 0) <;> simp_all <;> first | omega | (rw [Bool.eq_iff_iff]; simp; omega))
      · have HO1 := kide (fun u => l3One_any 2 u)
        rw [show decide ((4 : Int) ≤ 2 ∧ (2 : Int) ≤ 9) = false by decide] at HO1
        cases NV
        all_goals
          go_wp2_with (first
            | (go_at_call 145; refine Calls.mono (HNB.out _) ?_; rintro e wq ⟨rfl, hbq⟩; have k0 := kcell hbq w.heap.size 0 hlw; have k1 := kcell hbq w.heap.size 1 hlw; have k2 := kcell hbq w.heap.size 2 hlw; have k3 := kcell hbq w.heap.size 3 hlw; have k4 := kcell hbq w.heap.size 4 hlw; have k5 := kcell hbq w.heap.size 5 hlw; have k6 := kcell hbq w.heap.size 6 hlw; have BQ := kide (B0.out.trans (hbq.mono B0.out.size)); clear hbq)
            | (go_at_call 146; refine Calls.mono (HO1.out _) ?_; rintro e wx ⟨rfl, rfl⟩)
            | (go_at_call 73; refine Calls.mono (HLI.out _) ?_; rintro e wx ⟨rfl, rfl⟩)
            | (go_at_call 71; refine Calls.mono (HOK.out _ (by first | exact BQ.out | exact B0.out)) ?_; rintro e wx ⟨rfl, hbx⟩; have BX := kide (Below.trans (by first | exact BQ.out | exact B0.out) (hbx.mono (by first | exact BQ.out.size | exact B0.out.size))); clear hbx))
          all_goals go_ret
          all_goals refine ⟨ret_bool ?_, (by first | exact BX.out | exact BQ.out | exact B0.out)⟩
          all_goals (have h := HZ2.out; obtain ⟨f1, f2, f3⟩ := HF.out; simp only [fieldR, manyR] at h; rw [← f1] at h; try rw [← f2] at h
                     try rw [← f3] at h
                     clear f1 f2 f3 HZ2 HF HNB HOK HLI HO1 B0 HW HK HWL; rw [← h]; clear h; cases hB : (B != 0) <;> cases hA : (A != 0) <;> cases hV : (vr != 0) <;> simp_all <;> first | omega | (rw [Bool.eq_iff_iff]; simp; omega))
      · have HO1 := kide (fun u => l3One_any 3 u)
        rw [show decide ((4 : Int) ≤ 3 ∧ (3 : Int) ≤ 9) = false by decide] at HO1
        cases NV
        all_goals
          go_wp2_with (first
            | (go_at_call 145; refine Calls.mono (HNB.out _) ?_; rintro e wq ⟨rfl, hbq⟩; have k0 := kcell hbq w.heap.size 0 hlw; have k1 := kcell hbq w.heap.size 1 hlw; have k2 := kcell hbq w.heap.size 2 hlw; have k3 := kcell hbq w.heap.size 3 hlw; have k4 := kcell hbq w.heap.size 4 hlw; have k5 := kcell hbq w.heap.size 5 hlw; have k6 := kcell hbq w.heap.size 6 hlw; have BQ := kide (B0.out.trans (hbq.mono B0.out.size)); clear hbq)
            | (go_at_call 146; refine Calls.mono (HO1.out _) ?_; rintro e wx ⟨rfl, rfl⟩)
            | (go_at_call 73; refine Calls.mono (HLI.out _) ?_; rintro e wx ⟨rfl, rfl⟩)
            | (go_at_call 71; refine Calls.mono (HOK.out _ (by first | exact BQ.out | exact B0.out)) ?_; rintro e wx ⟨rfl, hbx⟩; have BX := kide (Below.trans (by first | exact BQ.out | exact B0.out) (hbx.mono (by first | exact BQ.out.size | exact B0.out.size))); clear hbx))
          all_goals go_ret
          all_goals refine ⟨ret_bool ?_, (by first | exact BX.out | exact BQ.out | exact B0.out)⟩
          all_goals (have h := HZ2.out; obtain ⟨f1, f2, f3⟩ := HF.out; simp only [fieldR, manyR] at h; rw [← f1] at h; try rw [← f2] at h
                     try rw [← f3] at h
                     clear f1 f2 f3 HZ2 HF HNB HOK HLI HO1 B0 HW HK HWL; rw [← h]; clear h; cases hB : (B != 0) <;> cases hA : (A != 0) <;> cases hV : (vr != 0) <;> simp_all <;> first | omega | (rw [Bool.eq_iff_iff]; simp; omega))
      · have HO1 := kide (fun u => l3One_any 4 u)
        rw [show decide ((4 : Int) ≤ 4 ∧ (4 : Int) ≤ 9) = true by decide] at HO1
        cases NV
        all_goals
          go_wp2_with (first
            | (go_at_call 145; refine Calls.mono (HNB.out _) ?_; rintro e wq ⟨rfl, hbq⟩; have k0 := kcell hbq w.heap.size 0 hlw; have k1 := kcell hbq w.heap.size 1 hlw; have k2 := kcell hbq w.heap.size 2 hlw; have k3 := kcell hbq w.heap.size 3 hlw; have k4 := kcell hbq w.heap.size 4 hlw; have k5 := kcell hbq w.heap.size 5 hlw; have k6 := kcell hbq w.heap.size 6 hlw; have BQ := kide (B0.out.trans (hbq.mono B0.out.size)); clear hbq)
            | (go_at_call 146; refine Calls.mono (HO1.out _) ?_; rintro e wx ⟨rfl, rfl⟩)
            | (go_at_call 73; refine Calls.mono (HLI.out _) ?_; rintro e wx ⟨rfl, rfl⟩)
            | (go_at_call 71; refine Calls.mono (HOK.out _ (by first | exact BQ.out | exact B0.out)) ?_; rintro e wx ⟨rfl, hbx⟩; have BX := kide (Below.trans (by first | exact BQ.out | exact B0.out) (hbx.mono (by first | exact BQ.out.size | exact B0.out.size))); clear hbx))
          all_goals go_ret
          all_goals refine ⟨ret_bool ?_, (by first | exact BX.out | exact BQ.out | exact B0.out)⟩
          all_goals (have h := HZ2.out; obtain ⟨f1, f2, f3⟩ := HF.out; simp only [fieldR, manyR] at h; rw [← f1] at h; try rw [← f2] at h
                     try rw [← f3] at h
                     clear f1 f2 f3 HZ2 HF HNB HOK HLI HO1 B0 HW HK HWL; rw [← h]; clear h; cases hB : (B != 0) <;> cases hA : (A != 0) <;> cases hV : (vr != 0) <;> simp_all <;> first | omega | (rw [Bool.eq_iff_iff]; simp; omega))
      · have HO1 := kide (fun u => l3One_any op u)
        rw [show decide ((4 : Int) ≤ op ∧ op ≤ 9) = true by simp; omega] at HO1
        have n1 : (op != 1) = true := by simp; omega
        have n2 : (op != 2) = true := by simp; omega
        have n4 : (op != 4) = true := by simp; omega
        have m1 : (op == 1) = false := by simp; omega
        have m2 : (op == 2) = false := by simp; omega
        have m3 : (op == 3) = false := by simp; omega
        cases NV
        all_goals
          go_wp2_with (first
            | (go_at_call 145; refine Calls.mono (HNB.out _) ?_; rintro e wq ⟨rfl, hbq⟩; have k0 := kcell hbq w.heap.size 0 hlw; have k1 := kcell hbq w.heap.size 1 hlw; have k2 := kcell hbq w.heap.size 2 hlw; have k3 := kcell hbq w.heap.size 3 hlw; have k4 := kcell hbq w.heap.size 4 hlw; have k5 := kcell hbq w.heap.size 5 hlw; have k6 := kcell hbq w.heap.size 6 hlw; have BQ := kide (B0.out.trans (hbq.mono B0.out.size)); clear hbq)
            | (go_at_call 146; refine Calls.mono (HO1.out _) ?_; rintro e wx ⟨rfl, rfl⟩)
            | (go_at_call 73; refine Calls.mono (HLI.out _) ?_; rintro e wx ⟨rfl, rfl⟩)
            | (go_at_call 71; refine Calls.mono (HOK.out _ (by first | exact BQ.out | exact B0.out)) ?_; rintro e wx ⟨rfl, hbx⟩; have BX := kide (Below.trans (by first | exact BQ.out | exact B0.out) (hbx.mono (by first | exact BQ.out.size | exact B0.out.size))); clear hbx))
          all_goals go_ret
          all_goals refine ⟨ret_bool ?_, (by first | exact BX.out | exact BQ.out | exact B0.out)⟩
          all_goals (have h := HZ2.out; obtain ⟨f1, f2, f3⟩ := HF.out; simp only [fieldR, manyR] at h; rw [← f1] at h; try rw [← f2] at h
                     try rw [← f3] at h
                     clear f1 f2 f3 HZ2 HF HNB HOK HLI HO1 B0 HW HK HWL; rw [← h]; clear h; cases hB : (B != 0) <;> cases hA : (A != 0) <;> cases hV : (vr != 0) <;> simp_all <;> first | omega | (rw [Bool.eq_iff_iff]; simp; omega))
      · have HO1 := kide (fun u => l3One_any op u)
        rw [show decide ((4 : Int) ≤ op ∧ op ≤ 9) = false by simp; omega] at HO1
        have n1 : (op != 1) = true := by simp; omega
        have n2 : (op != 2) = true := by simp; omega
        have n4 : (op != 4) = true := by simp; omega
        have m1 : (op == 1) = false := by simp; omega
        have m2 : (op == 2) = false := by simp; omega
        have m3 : (op == 3) = false := by simp; omega
        cases NV
        all_goals
          go_wp2_with (first
            | (go_at_call 145; refine Calls.mono (HNB.out _) ?_; rintro e wq ⟨rfl, hbq⟩; have k0 := kcell hbq w.heap.size 0 hlw; have k1 := kcell hbq w.heap.size 1 hlw; have k2 := kcell hbq w.heap.size 2 hlw; have k3 := kcell hbq w.heap.size 3 hlw; have k4 := kcell hbq w.heap.size 4 hlw; have k5 := kcell hbq w.heap.size 5 hlw; have k6 := kcell hbq w.heap.size 6 hlw; have BQ := kide (B0.out.trans (hbq.mono B0.out.size)); clear hbq)
            | (go_at_call 146; refine Calls.mono (HO1.out _) ?_; rintro e wx ⟨rfl, rfl⟩)
            | (go_at_call 73; refine Calls.mono (HLI.out _) ?_; rintro e wx ⟨rfl, rfl⟩)
            | (go_at_call 71; refine Calls.mono (HOK.out _ (by first | exact BQ.out | exact B0.out)) ?_; rintro e wx ⟨rfl, hbx⟩; have BX := kide (Below.trans (by first | exact BQ.out | exact B0.out) (hbx.mono (by first | exact BQ.out.size | exact B0.out.size))); clear hbx))
          all_goals go_ret
          all_goals refine ⟨ret_bool ?_, (by first | exact BX.out | exact BQ.out | exact B0.out)⟩
          all_goals (have h := HZ2.out; obtain ⟨f1, f2, f3⟩ := HF.out; simp only [fieldR, manyR] at h; rw [← f1] at h; try rw [← f2] at h
                     try rw [← f3] at h
                     clear f1 f2 f3 HZ2 HF HNB HOK HLI HO1 B0 HW HK HWL; rw [← h]; clear h; cases hB : (B != 0) <;> cases hA : (A != 0) <;> cases hV : (vr != 0) <;> simp_all <;> first | omega | (rw [Bool.eq_iff_iff]; simp; omega))

def sumR (wide : List Int) : List Int → Int → Int
 | [], s => s
 | k :: t, s => sumR wide t (min 8192 (s + wide.getD k.toNat 0))
def wideR (ds : List Dc) (n : Tc) (s : Int) : Int :=
 if n.op = 1 then (ds.getD n.vr.toNat (.empty, 0)).2
 else if n.op = 2 then n.bw
 else if n.op = 4 then (if n.b < 0 ∨ n.a < n.b ∨ s ≤ n.a then -1 else n.a - n.b + 1)
 else if n.op = 5 ∨ n.op = 6 then (if 0 ≤ n.a ∧ n.a ≤ 4096 then s + n.a else -1)
 else if n.op = 7 ∨ n.op = 8 then (if 0 ≤ n.a ∧ n.a ≤ 4096 then s else -1)
 else if n.op = 9 then (if 1 ≤ n.a ∧ n.a ≤ 4096 then s * n.a else -1)
 else s
theorem sumR_range (wide : List Int) (ks : List Int) (s : Int) (hw : ∀ x ∈ wide, 1 ≤ x ∧ x ≤ 4096) (h0 : 0 ≤ s) (h1 : s ≤ 8192) : 0 ≤ sumR wide ks s ∧ sumR wide ks s ≤ 8192 := by
 induction ks generalizing s with
 | nil => exact ⟨h0, h1⟩
 | cons k t ih =>
  rw [sumR]
  have hx : 0 ≤ wide.getD k.toNat 0 := by
   rw [List.getD]
   cases h : wide[k.toNat]? with
   | none => simp
   | some x => have := hw x (List.mem_of_getElem? h); simp; omega
  exact ih _ (by omega) (by omega)
set_option maxHeartbeats 1000000 in
theorem l3Wide_any (a : Option Addr) (c : Nat) (ds : List Dc) (n : Tc) (wa ka ya : Option Addr) (wc kc yc : Nat) (wide : List Int) (w : World) (hr : RdD w a ds) (hw : Rd w wa n.ws) (hk : RdI w ka n.ks) (hy : RdI w ya wide)
  (hwd : ∀ x ∈ wide, 1 ≤ x ∧ x ≤ 4096) (hkr : kidsR wide.length n.ks = true) (hv : n.op = 1 → 0 ≤ n.vr ∧ n.vr ≤ (ds.length : Int) - 1) (hA : in64 n.a) (hB : in64 n.b) :
  Calls Tryz.prog 125 #[.slice a ds.length c, .agg #[.int .i64 n.op, .int .i64 n.vr, .int .i64 n.a, .int .i64 n.b, .int .i64 n.bw, .slice wa n.ws.length wc, .slice ka n.ks.length kc], .slice ya wide.length yc] w fun e w' => e = .returned (.int .i64 (wideR ds n (sumR wide n.ks 0))) ∧ Below w.heap.size w w' := by
 obtain ⟨op, vr, A, B, bw, ws, ks⟩ := n
 simp only [] at hw hk hkr hv hA hB ⊢
 generalize hZ : wideR ds ⟨op, vr, A, B, bw, ws, ks⟩ (sumR wide ks 0) = Z
 have HZ := kide hZ
 clear hZ
 have hb0 : Below w.heap.size w (w.alloc (Obj.cells #[.int .i64 op, .int .i64 vr, .int .i64 A, .int .i64 B, .int .i64 bw, .slice wa ws.length wc, .slice ka ks.length kc] 119)) := (Below.refl _ _).alloc (Nat.le_refl _) _
 have HK := kide (hk.later hb0)
 have HY := kide (hy.later hb0)
 have HR := kide (hr.later hb0)
 have hl := hk.1
 have hl2 := hy.1
 have hl3 := hr.1
 have B0 := kide hb0
 have HKR := kide hkr
 have HV := kide hv
 have HWD := kide hwd
 clear hw hk hb0 hr hy hkr hv hwd
 go_enter Tryz.func125, Tryz.ntmps125
 go_wp2_with fail
 have c0 : (w.alloc (Obj.cells #[.int .i64 op, .int .i64 vr, .int .i64 A, .int .i64 B, .int .i64 bw, .slice wa ws.length wc, .slice ka ks.length kc] 119)).cell? ⟨w.heap.size, 0, none⟩ = some (.int .i64 op) := by simp [go_sem]
 have c1 : (w.alloc (Obj.cells #[.int .i64 op, .int .i64 vr, .int .i64 A, .int .i64 B, .int .i64 bw, .slice wa ws.length wc, .slice ka ks.length kc] 119)).cell? ⟨w.heap.size, 1, none⟩ = some (.int .i64 vr) := by simp [go_sem]
 have c2 : (w.alloc (Obj.cells #[.int .i64 op, .int .i64 vr, .int .i64 A, .int .i64 B, .int .i64 bw, .slice wa ws.length wc, .slice ka ks.length kc] 119)).cell? ⟨w.heap.size, 2, none⟩ = some (.int .i64 A) := by simp [go_sem]
 have c3 : (w.alloc (Obj.cells #[.int .i64 op, .int .i64 vr, .int .i64 A, .int .i64 B, .int .i64 bw, .slice wa ws.length wc, .slice ka ks.length kc] 119)).cell? ⟨w.heap.size, 3, none⟩ = some (.int .i64 B) := by simp [go_sem]
 have c4 : (w.alloc (Obj.cells #[.int .i64 op, .int .i64 vr, .int .i64 A, .int .i64 B, .int .i64 bw, .slice wa ws.length wc, .slice ka ks.length kc] 119)).cell? ⟨w.heap.size, 4, none⟩ = some (.int .i64 bw) := by simp [go_sem]
 have c5 : (w.alloc (Obj.cells #[.int .i64 op, .int .i64 vr, .int .i64 A, .int .i64 B, .int .i64 bw, .slice wa ws.length wc, .slice ka ks.length kc] 119)).cell? ⟨w.heap.size, 5, none⟩ = some (.slice wa ws.length wc) := by simp [go_sem]
 have c6 : (w.alloc (Obj.cells #[.int .i64 op, .int .i64 vr, .int .i64 A, .int .i64 B, .int .i64 bw, .slice wa ws.length wc, .slice ka ks.length kc] 119)).cell? ⟨w.heap.size, 6, none⟩ = some (.slice ka ks.length kc) := by simp [go_sem]
 generalize (w.alloc (Obj.cells #[.int .i64 op, .int .i64 vr, .int .i64 A, .int .i64 B, .int .i64 bw, .slice wa ws.length wc, .slice ka ks.length kc] 119)) = w0 at *
 have hs0 := sumR_range wide ks 0 HWD.out (by omega) (by omega)
 generalize hSS : sumR wide ks 0 = SS at *
 have HSS := kide hSS
 clear hSS
 go_loopw [7, 8] (fun q i wr => ∃ (k : Nat) (S : Int), k ≤ ks.length ∧ i = .int .i64 k ∧ q = .int .i64 S ∧ 0 ≤ S ∧ S ≤ 8192 ∧ sumR wide (ks.drop k) S = SS ∧ wr = w0) (fun _ i _ => ks.length - (intOf i).toNat)
 case atStart => exact ⟨0, 0, Nat.zero_le _, rfl, rfl, by omega, by omega, by rw [List.drop_zero]; exact HSS.out, rfl⟩
 case round =>
  obtain ⟨k, S, hk, rfl, rfl, hS0, hS1, hq, rfl⟩ := hrel
  have HQ := kide hq
  clear hq HSS
  by_cases hlt : k < ks.length
  ·obtain ⟨-, -, h | ⟨b, o, rfl, hc⟩⟩ := HK.out
   ·subst h; simp at hlt
   have g0 := hc k hlt
   clear hc HK
   have hgk : ks[k] = ks.getD k 0 := by simp [List.getD, hlt]
   have HGK := kide hgk
   have hmem : ks.getD k 0 ∈ ks := by rw [← hgk]; exact List.getElem_mem hlt
   clear hgk
   generalize ks.getD k 0 = y at *
   have hy := HKR.out
   rw [kidsR, List.all_eq_true] at hy
   have hy2 := hy y hmem
   clear hy hmem
   simp at hy2
   obtain ⟨m, rfl⟩ : ∃ m : Nat, y = (m : Int) := ⟨y.toNat, by omega⟩
   have hm : m < wide.length := by omega
   clear hy2
   obtain ⟨-, -, h | ⟨b', o', rfl, hc'⟩⟩ := HY.out
   ·subst h; simp at hm
   have g1 := hc' m hm
   clear hc' HY
   have hxm : wide.getD m 0 ∈ wide := by
    have : wide.getD m 0 = wide[m] := by simp [List.getD, hm]
    rw [this]; exact List.getElem_mem hm
   have hx := HWD.out _ hxm
   clear hxm
   have hst : sumR wide (ks.drop (k + 1)) (min 8192 (S + wide.getD m 0)) = SS := by
    have h := HQ.out
    rw [List.drop_eq_getElem_cons hlt, HGK.out, sumR, Int.toNat_natCast] at h
    exact h
   generalize wide.getD m 0 = x at *
   have HST := kide hst
   have i0 : (k : Int) < (ks.length : Int) := by omega
   clear hst HQ HGK
   go_wp2_with fail
   go_roundw
   case rel => exact ⟨k + 1, _, by omega, by go_num, rfl, by omega, by omega, HST.out, by first | rfl | trivial⟩
   case measure => simp [intOf]; omega
  ·have e : k = ks.length := by omega
   subst e
   have hSe : S = SS := by
    have h := HQ.out
    rw [List.drop_length, sumR] at h
    exact h
   subst hSe
   clear HQ hlt hk
   have HLI := kide (fun u => l1In_any A 0 4096 u)
   have HLJ := kide (fun u => l1In_any A 1 4096 u)
   rcases (show op = 1 ∨ op = 2 ∨ op = 4 ∨ op = 5 ∨ op = 6 ∨ op = 7 ∨ op = 8 ∨ op = 9 ∨ (op ≠ 1 ∧ op ≠ 2 ∧ op ≠ 4 ∧ op ≠ 5 ∧ op ≠ 6 ∧ op ≠ 7 ∧ op ≠ 8 ∧ op ≠ 9) by omega) with rfl | rfl | rfl | rfl | rfl | rfl | rfl | rfl | ⟨g1, g2, g4, g5, g6, g7, g8, g9⟩
   ·have hv := HV.out rfl
    obtain ⟨m, rfl⟩ : ∃ m : Nat, vr = (m : Int) := ⟨vr.toNat, by omega⟩
    have hm : m < ds.length := by omega
    obtain ⟨-, -, h | ⟨b, o, rfl, hc⟩⟩ := HR.out
    ·subst h; simp at hm
    have gd : ds[m]? = some (ds.getD m (.empty, 0)) := by simp [List.getD, hm]
    obtain ⟨g0, g1⟩ := hc m _ gd
    have hZ := HZ.out
    simp only [wideR, if_true, Int.toNat_natCast] at hZ
    generalize ds.getD m (.empty, 0) = d at *
    obtain ⟨dn, dw⟩ := d
    simp only [] at g0 g1 hZ
    subst hZ
    clear hc HR gd HV HZ hv
    go_wp2_with fail
    go_ret
    exact ⟨rfl, B0.out⟩
   ·have hZ := HZ.out
    simp [wideR] at hZ
    subst hZ
    clear HZ HV
    go_wp2_with fail
    go_ret
    exact ⟨rfl, B0.out⟩
   ·have hZ := HZ.out
    simp [wideR] at hZ
    have HZ2 := kide hZ
    clear HZ HV hZ
    go_wp2_with fail
    all_goals go_ret
    all_goals refine ⟨ret_int ?_, B0.out⟩
    all_goals (have h := HZ2.out; split at h <;> omega)
   ·have hZ := HZ.out
    simp [wideR] at hZ
    have HZ2 := kide hZ
    clear HZ HV hZ
    by_cases hA2 : 0 ≤ A ∧ A ≤ 4096
    ·rw [decide_eq_true hA2] at HLI
     have h := HZ2.out
     rw [if_pos hA2] at h
     subst h
     go_wp2_with (go_at_call 73; refine Calls.mono (HLI.out _) ?_; rintro e w1 ⟨rfl, rfl⟩)
     go_ret
     exact ⟨rfl, B0.out⟩
    ·rw [decide_eq_false hA2] at HLI
     have h := HZ2.out
     rw [if_neg hA2] at h
     subst h
     go_wp2_with (go_at_call 73; refine Calls.mono (HLI.out _) ?_; rintro e w1 ⟨rfl, rfl⟩)
     go_ret
     exact ⟨rfl, B0.out⟩
   ·have hZ := HZ.out
    simp [wideR] at hZ
    have HZ2 := kide hZ
    clear HZ HV hZ
    by_cases hA2 : 0 ≤ A ∧ A ≤ 4096
    ·rw [decide_eq_true hA2] at HLI
     have h := HZ2.out
     rw [if_pos hA2] at h
     subst h
     go_wp2_with (go_at_call 73; refine Calls.mono (HLI.out _) ?_; rintro e w1 ⟨rfl, rfl⟩)
     go_ret
     exact ⟨rfl, B0.out⟩
    ·rw [decide_eq_false hA2] at HLI
     have h := HZ2.out
     rw [if_neg hA2] at h
     subst h
     go_wp2_with (go_at_call 73; refine Calls.mono (HLI.out _) ?_; rintro e w1 ⟨rfl, rfl⟩)
     go_ret
     exact ⟨rfl, B0.out⟩
   ·have hZ := HZ.out
    simp [wideR] at hZ
    have HZ2 := kide hZ
    clear HZ HV hZ
    by_cases hA2 : 0 ≤ A ∧ A ≤ 4096
    ·rw [decide_eq_true hA2] at HLI
     have h := HZ2.out
     rw [if_pos hA2] at h
     subst h
     go_wp2_with (go_at_call 73; refine Calls.mono (HLI.out _) ?_; rintro e w1 ⟨rfl, rfl⟩)
     go_ret
     exact ⟨rfl, B0.out⟩
    ·rw [decide_eq_false hA2] at HLI
     have h := HZ2.out
     rw [if_neg hA2] at h
     subst h
     go_wp2_with (go_at_call 73; refine Calls.mono (HLI.out _) ?_; rintro e w1 ⟨rfl, rfl⟩)
     go_ret
     exact ⟨rfl, B0.out⟩
   ·have hZ := HZ.out
    simp [wideR] at hZ
    have HZ2 := kide hZ
    clear HZ HV hZ
    by_cases hA2 : 0 ≤ A ∧ A ≤ 4096
    ·rw [decide_eq_true hA2] at HLI
     have h := HZ2.out
     rw [if_pos hA2] at h
     subst h
     go_wp2_with (go_at_call 73; refine Calls.mono (HLI.out _) ?_; rintro e w1 ⟨rfl, rfl⟩)
     go_ret
     exact ⟨rfl, B0.out⟩
    ·rw [decide_eq_false hA2] at HLI
     have h := HZ2.out
     rw [if_neg hA2] at h
     subst h
     go_wp2_with (go_at_call 73; refine Calls.mono (HLI.out _) ?_; rintro e w1 ⟨rfl, rfl⟩)
     go_ret
     exact ⟨rfl, B0.out⟩
   ·have hZ := HZ.out
    simp [wideR] at hZ
    have HZ2 := kide hZ
    clear HZ HV hZ
    by_cases hA2 : 1 ≤ A ∧ A ≤ 4096
    ·rw [decide_eq_true hA2] at HLJ
     have h := HZ2.out
     rw [if_pos hA2] at h
     subst h
     first | (have hmul : 0 ≤ S * A ∧ S * A ≤ 33554432 := ⟨Int.mul_nonneg (by omega) (by omega), by have := Int.mul_le_mul hS1 hA2.2 (by omega) (by omega : (0 : Int) ≤ 8192); omega⟩) | skip
     go_wp2_with (go_at_call 73; refine Calls.mono (HLJ.out _) ?_; rintro e w1 ⟨rfl, rfl⟩)
     go_ret
     exact ⟨rfl, B0.out⟩
    ·rw [decide_eq_false hA2] at HLJ
     have h := HZ2.out
     rw [if_neg hA2] at h
     subst h
     go_wp2_with (go_at_call 73; refine Calls.mono (HLJ.out _) ?_; rintro e w1 ⟨rfl, rfl⟩)
     go_ret
     exact ⟨rfl, B0.out⟩
   ·have hZ := HZ.out
    simp [wideR, g1, g2, g4, g5, g6, g7, g8, g9] at hZ
    subst hZ
    have m1 : (op == 1) = false := by simp; omega
    have m2 : (op == 2) = false := by simp; omega
    have m4 : (op == 4) = false := by simp; omega
    have m5 : (op == 5) = false := by simp; omega
    have m6 : (op == 6) = false := by simp; omega
    have m7 : (op == 7) = false := by simp; omega
    have m8 : (op == 8) = false := by simp; omega
    have m9 : (op == 9) = false := by simp; omega
    clear HZ HV
    go_wp2_with fail
    go_ret
    exact ⟨rfl, B0.out⟩

def OW (w : World) (B : Nat) (v : Value) (xs : List Int) : Prop := w.ownsRow B 2 1 v xs.length (xs.map (Value.int .i64))
theorem OW.lt {w : World} {B : Nat} {v : Value} {xs : List Int} (h : OW w B v xs) {k : Nat} (hk : v.ownBlock = some k) : B ≤ k ∧ k < w.heap.size := World.ownsRow.lt h k hk
theorem OW.typed {w : World} {B : Nat} {v : Value} {xs : List Int} (h : OW w B v xs) {b : Nat} {cs : Array Value} {t : TypeId} {fr : Nat × Nat} (hb : w.heap[b]? = some (.cells cs t fr)) (ht : t ≠ 2) : some b ≠ v.ownBlock := fun hk => by
 rcases h.2 with ⟨rfl, -⟩ | ⟨g, cap, cur, rfl, hg, hh, -⟩
 ·cases hk
 ·cases hk
  rw [hb] at hh
  cases hh
  exact ht rfl
theorem OW.later {w w' : World} {B : Nat} {v : Value} {xs : List Int} (h : OW w B v xs) (hb : Below w.heap.size w w') : OW w' B v xs := World.ownsRow.kept (row := none) h ⟨hb.os, hb.tape, hb.output, hb.size, fun k hk _ => hb.block k hk⟩ (by
 cases h' : v.ownBlock with
 | none => exact .inl rfl
 | some k => exact .inr (by simp))
theorem OW.rd {w : World} {B : Nat} {v : Value} {xs : List Int} (h : OW w B v xs) (hl : xs.length ≤ 1048576) (hi : ∀ x ∈ xs, in64 x) : ∃ a c, v = .slice a xs.length c ∧ RdI w a xs := by
 have hcells := fun g hg => World.ownsRow.cells h (g := g) hg
 rcases h.2 with ⟨rfl, hn⟩ | ⟨g, cap, cur, rfl, -, -, -⟩
 ·exact ⟨none, 0, by rw [hn], hl, hi, .inl (List.eq_nil_of_length_eq_zero hn)⟩
 ·refine ⟨some ⟨g, 0, none⟩, cap, rfl, hl, hi, .inr ⟨g, 0, rfl, fun i hi' => ?_⟩⟩
  have c0 := hcells g rfl i (.int .i64 (xs.getD i 0)) (by simp [List.getD, hi'])
  rw [Addr.add_lit] at c0
  simpa using c0
theorem wpList_appW {w : World} {ops : Array Oper} {rest : List Oper} {o : Oper} {a : Act} {Q : Exit → Act → World → Prop} (hgd : o.guard = none) (s x : Operand)
  (ho : o.op = .call { callee := .builtin .append, args := #[s, x], argTypes := #[39, 39] })
  (B : Nat) (v : Value) (xs : List Int) (y : Int) (hs : a.eval s = v) (hown : OW w B v xs) (gx : Nat) (hx : a.eval x = .slice (some ⟨gx, 0, none⟩) 1 1)
  (h0 : w.cell? ⟨gx, 0, none⟩ = some (.int .i64 y)) (hl : xs.length ≤ 1073741824) (hB : B ≤ w.heap.size)
  (h : ∀ v' w', OW w' B v' (xs ++ [y]) → w.grownBy w' v.ownBlock → wpList Tryz.prog ops Q rest (a.put o.dst v') w') : wpList Tryz.prog ops Q (o :: rest) a w := by
 obtain ⟨i0, hi, hz0, hz1, hz2⟩ := info_parts Tryz.infoI64
 refine wpList_append_own_at w hgd s x 39 ho B 2 i0 _ 1 8 Tryz.underlying39 hi hz0 hz1 hz2 rfl (by decide) v xs.length (xs.map (Value.int .i64)) hs hown ⟨gx, 0, none⟩ 1 1 [.int .i64 y] hx rfl ?_ ?_ (by unfold maxLen; omega) (by omega) hB ?_
 ·intro j u hj
  rw [Addr.add_lit]
  match j, hj with
  | 0, hj => simp at hj; subst hj; exact h0
  | j + 1, hj => simp at hj
 ·intro u hu
  simp at hu
  subst hu
  rfl
 ·intro v' w' ho' hg _ _
  refine h v' w' ?_ hg
  unfold OW
  rw [List.map_append, List.length_append]
  exact ho'
def stepR (ds : List Dc) (wide : List Int) (n : Tc) : Option Int :=
 if (kidsR wide.length n.ks && fieldR n && manyR ds.length n) = true then
  (if 1 ≤ wideR ds n (sumR wide n.ks 0) ∧ wideR ds n (sumR wide n.ks 0) ≤ 4096 then some (wideR ds n (sumR wide n.ks 0)) else none)
 else none
def goR (ds : List Dc) : List Int → List Tc → Option (List Int)
 | wide, [] => some wide
 | wide, n :: t => match stepR ds wide n with
  | none => none
  | some v => goR ds (wide ++ [v]) t
def usedR (ns : List Tc) (i : Nat) : Bool := ns.any (fun n => n.ks.any (fun k => decide (k = (i : Int))))
def widthsR (ds : List Dc) (ns : List Tc) : List Int :=
 if (dclR ds && decide (1 ≤ ns.length) && decide (ns.length ≤ 400)) = true then
  match goR ds [] ns with
  | none => []
  | some wide => if (List.range (ns.length - 1)).all (usedR ns) = true then wide else []
 else []
theorem goR_none {ds : List Dc} {wide : List Int} {ns : List Tc} {k : Nat} {n : Tc} (hk : ns[k]? = some n) (h : stepR ds wide n = none) : goR ds wide (ns.drop k) = none := by
 have l := (List.getElem?_eq_some_iff.1 hk).1
 rw [List.drop_eq_getElem_cons l, goR]
 rw [List.getElem?_eq_getElem l] at hk
 cases hk
 rw [h]
theorem goR_some {ds : List Dc} {wide : List Int} {ns : List Tc} {k : Nat} {n : Tc} {v : Int} (hk : ns[k]? = some n) (h : stepR ds wide n = some v) : goR ds wide (ns.drop k) = goR ds (wide ++ [v]) (ns.drop (k + 1)) := by
 have l := (List.getElem?_eq_some_iff.1 hk).1
 rw [List.drop_eq_getElem_cons l, goR]
 rw [List.getElem?_eq_getElem l] at hk
 cases hk
 rw [h]
theorem stepR_range {ds : List Dc} {wide : List Int} {n : Tc} {v : Int} (h : stepR ds wide n = some v) : 1 ≤ v ∧ v ≤ 4096 := by
 unfold stepR at h
 split at h
 ·split at h
  ·cases h; assumption
  ·cases h
 ·cases h
theorem stepR_kids {ds : List Dc} {wide : List Int} {n : Tc} {v : Int} (h : stepR ds wide n = some v) : (kidsR wide.length n.ks && fieldR n && manyR ds.length n) = true := by
 unfold stepR at h
 split at h
 ·assumption
 ·cases h
theorem manyR_var {nd : Nat} {n : Tc} (h : manyR nd n = true) : n.op = 1 → 0 ≤ n.vr ∧ n.vr ≤ (nd : Int) - 1 := by
 intro e
 unfold manyR at h
 rw [if_pos e] at h
 simp at h
 omega


structure Bs (w : World) (B : Nat) (v : Value) (l : List Bw) : Prop where
 row : OB2 w B v l
 nw : ∀ x ∈ l, Nw w B x.a x.ws
 dj : DjB l
theorem Bs.later {w w' : World} {B : Nat} {v : Value} {l : List Bw} (h : Bs w B v l) (hb : Below w.heap.size w w') : Bs w' B v l := ⟨h.row.later hb, fun x hx => (h.nw x hx).later hb, h.dj⟩
theorem nw_row {w w' : World} {B C : Nat} {v : Value} {l : List Bw} {a : Option Addr} {xs : List Nat} (h : Nw w C a xs) (ho : OB2 w B v l) (hg : w.grownBy w' v.ownBlock) : Nw w' C a xs :=
 h.kept fun k cur hc => hg.block k (lt_of_block hc) (fun e => by
  obtain ⟨cur', h'⟩ := ho.typed e.symm
  rw [hc] at h'
  cases h')

end Go.Proofs.YtkngpgonmedgpaaGreatDoor
