/- Several texts in one. -/
import Derived.Test.YtkkboaiablfdbaaGreatDoorZRA
import Derived.Test.YtkkboaiablfdbaaGreatDoorTSD
import Derived.Test.YtkkboaiablfdbaaGreatDoorQH
import Derived.Handy

/- Nodes that are gathered on the given side: some stand where they stood, some are copies in new memory. -/
namespace Go.Proofs.YtkkboaiablfdbaaGreatDoor
set_option linter.unusedVariables false
set_option linter.unusedSimpArgs false
open Go.RowKit

/-- A node of the row: read where it stood at the beginning, or a copy between two blocks. -/
def NdO (w : World) (x : Tg) : Prop := Rd w x.wa x.ct.ws ∧ RdI w x.ka x.ct.ks
structure NdN (wr : World) (B H : Nat) (tv : Value) (x : Tg) : Prop where
  wn : Nw wr B x.wa x.ct.ws
  kn : Ni wr B x.ka x.ct.ks
  wh : ∀ p, x.wa = some p → p.block < H
  kh : ∀ p, x.ka = some p → p.block < H
  dj : ∀ p, x.ka = some p → tv.ownBlock ≠ some p.block

structure RpM (w wr : World) (B H : Nat) (v tv : Value) (l : List Tg) (st : List Tc × List Int) : Prop where
  row : OT wr B v l
  nd : ∀ x ∈ l, NdO w x ∨ NdN wr B H tv x
  sn : Sn l
  eq : l.map Tg.ct = st.1
  ot : OI wr B tv st.2
  bl : Below w.heap.size w wr
  bB : w.heap.size ≤ B
  BH : B ≤ H
  hH : H ≤ wr.heap.size
  vH : ∀ b, v.ownBlock = some b → b < H
  tH : ∀ b, tv.ownBlock = some b → b < H

theorem nw_ltB {w : World} {lo : Nat} {a : Option Addr} {xs : List Nat} (h : Nw w lo a xs) {p : Addr} (hp : a = some p) : lo ≤ p.block ∧ p.block < w.heap.size := by
  rcases h with ⟨h1, h2⟩ | ⟨g, cur, h1, h2, h3, h4⟩
  · obtain ⟨k1, -, cur, k2⟩ := h2 p hp
    exact ⟨k1, lt_of_block k2⟩
  · rw [h1] at hp
    cases hp
    exact ⟨h2, lt_of_block h3⟩

theorem nw_blk {w w' : World} {lo : Nat} {a : Option Addr} {xs : List Nat} (h : Nw w lo a xs) (hk : ∀ p, a = some p → w'.heap[p.block]? = w.heap[p.block]?) : Nw w' lo a xs := by
  rcases h with ⟨h1, h2⟩ | ⟨g, cur, h1, h2, h3, h4⟩
  · refine .inl ⟨h1, fun x e => ?_⟩
    obtain ⟨q1, q2, cur, q3⟩ := h2 x e
    exact ⟨q1, q2, cur, (hk x e).trans q3⟩
  · exact .inr ⟨g, cur, h1, h2, (hk _ h1).trans h3, h4⟩
theorem ni_blk {w w' : World} {lo : Nat} {a : Option Addr} {xs : List Int} (h : Ni w lo a xs) (hk : ∀ p, a = some p → w'.heap[p.block]? = w.heap[p.block]?) : Ni w' lo a xs := by
  rcases h with ⟨h1, h2⟩ | ⟨g, cur, h1, h2, h3, h4⟩
  · refine .inl ⟨h1, fun x e => ?_⟩
    obtain ⟨q1, q2, cur, q3⟩ := h2 x e
    exact ⟨q1, q2, cur, (hk x e).trans q3⟩
  · exact .inr ⟨g, cur, h1, h2, (hk _ h1).trans h3, h4⟩
theorem nw_typed {w : World} {lo : Nat} {a : Option Addr} {xs : List Nat} (h : Nw w lo a xs) {p : Addr} (hp : a = some p) : ∃ cur, w.heap[p.block]? = some (.cells cur 104 (0, 0)) := by
  rcases h with ⟨h1, h2⟩ | ⟨g, cur, h1, h2, h3, h4⟩
  · obtain ⟨-, -, cur, k2⟩ := h2 p hp
    exact ⟨cur, k2⟩
  · rw [h1] at hp
    cases hp
    exact ⟨cur, h3⟩
theorem ni_typed {w : World} {lo : Nat} {a : Option Addr} {xs : List Int} (h : Ni w lo a xs) {p : Addr} (hp : a = some p) : ∃ cur, w.heap[p.block]? = some (.cells cur 2 (0, 0)) := by
  rcases h with ⟨h1, h2⟩ | ⟨g, cur, h1, h2, h3, h4⟩
  · obtain ⟨-, -, cur, k2⟩ := h2 p hp
    exact ⟨cur, k2⟩
  · rw [h1] at hp
    cases hp
    exact ⟨cur, h3⟩

theorem RpM.later {w wr wr' : World} {B H : Nat} {v tv : Value} {l : List Tg} {st : List Tc × List Int} (h : RpM w wr B H v tv l st) (hb : Below wr.heap.size wr wr') : RpM w wr' B H v tv l st where
  row := h.row.later hb
  nd := fun x hx => (h.nd x hx).imp id fun n => ⟨n.wn.later hb, n.kn.later hb, n.wh, n.kh, n.dj⟩
  sn := h.sn
  eq := h.eq
  ot := h.ot.later hb
  bl := h.bl.trans (hb.mono h.bl.size)
  bB := h.bB
  BH := h.BH
  hH := Nat.le_trans h.hH hb.size
  vH := h.vH
  tH := h.tH
/-- What was made till now lies below the world's size. -/
theorem RpM.now {w wr : World} {B H : Nat} {v tv : Value} {l : List Tg} {st : List Tc × List Int} (h : RpM w wr B H v tv l st) : RpM w wr B wr.heap.size v tv l st where
  row := h.row
  nd := fun x hx => (h.nd x hx).imp id fun n => ⟨n.wn, n.kn, fun p hp => Nat.lt_of_lt_of_le (n.wh p hp) h.hH, fun p hp => Nat.lt_of_lt_of_le (n.kh p hp) h.hH, n.dj⟩
  sn := h.sn
  eq := h.eq
  ot := h.ot
  bl := h.bl
  bB := h.bB
  BH := Nat.le_trans h.BH h.hH
  hH := Nat.le_refl _
  vH := fun b hb => Nat.lt_of_lt_of_le (h.vH b hb) h.hH
  tH := fun b hb => Nat.lt_of_lt_of_le (h.tH b hb) h.hH
/-- A change in a block above. -/
theorem RpM.out {w wr wr' : World} {B H g : Nat} {v tv : Value} {l : List Tg} {st : List Tc × List Int} (h : RpM w wr B H v tv l st) (hg : wr.grownBy wr' (some g)) (hN : H ≤ g) : RpM w wr' B H v tv l st where
  row := h.row.move fun b hb => hg.block b (h.row.lt hb).2 (fun e => by cases e; have := h.vH _ hb; omega)
  nd := fun x hx => (h.nd x hx).imp id fun n => ⟨nw_blk n.wn fun p hp => hg.block _ (nw_ltB n.wn hp).2 (fun e => by have := n.wh p hp; cases e; omega), ni_blk n.kn fun p hp => hg.block _ (ni_lt n.kn hp).2 (fun e => by have := n.kh p hp; cases e; omega), n.wh, n.kh, n.dj⟩
  sn := h.sn
  eq := h.eq
  ot := h.ot.move fun b hb => hg.block b (h.ot.lt hb).2 (fun e => by cases e; have := h.tH _ hb; omega)
  bl := h.bl.grown hg h.bl.size (fun k e => by cases e; have := h.bB; have := h.BH; omega)
  bB := h.bB
  BH := h.BH
  hH := Nat.le_trans h.hH hg.size
  vH := h.vH
  tH := h.tH
/-- One node more, a copy above H. -/
theorem RpM.push {w wt w5 : World} {B H : Nat} {v v' tv : Value} {l : List Tg} {st1 : List Tc} {to : List Int} {y : Tg} (h : RpM w wt B H v tv l (st1, to)) (hg : wt.grownBy w5 v.ownBlock) (ho : OT w5 B v' (l ++ [y])) (hy : Nw wt B y.wa y.ct.ws) (hk : Ni wt B y.ka y.ct.ks) (hdj : ∀ p, y.ka = some p → tv.ownBlock ≠ some p.block) (hs : (y.wa = none → y.wc = 0) ∧ (y.ka = none → y.kc = 0)) : RpM w w5 B w5.heap.size v' tv (l ++ [y]) (st1 ++ [y.ct], to) where
  row := ho
  nd := fun x hx => by
    have keep : ∀ (b : Nat) (c : Array Value) (t : TypeId), t ≠ 53 → wt.heap[b]? = some (.cells c t (0, 0)) → w5.heap[b]? = wt.heap[b]? := fun b c t ht hc => hg.block b (lt_of_block hc) (fun e => by
      obtain ⟨c2, k2⟩ := h.row.typed e.symm
      rw [hc] at k2
      cases k2
      exact ht rfl)
    rcases List.mem_append.1 hx with hx | hx
    · refine (h.nd x hx).imp id fun n => ⟨nw_blk n.wn fun p hp => ?_, ni_blk n.kn fun p hp => ?_, fun p hp => ?_, fun p hp => ?_, n.dj⟩
      · obtain ⟨c, hc⟩ := nw_typed n.wn hp
        exact keep _ c _ (by decide) hc
      · obtain ⟨c, hc⟩ := ni_typed n.kn hp
        exact keep _ c _ (by decide) hc
      · have := n.wh p hp; have := h.hH; have := hg.size; omega
      · have := n.kh p hp; have := h.hH; have := hg.size; omega
    · simp at hx
      subst hx
      refine .inr ⟨nw_blk hy fun p hp => ?_, ni_blk hk fun p hp => ?_, fun p hp => ?_, fun p hp => ?_, hdj⟩
      · obtain ⟨c, hc⟩ := nw_typed hy hp
        exact keep _ c _ (by decide) hc
      · obtain ⟨c, hc⟩ := ni_typed hk hp
        exact keep _ c _ (by decide) hc
      · have := (nw_ltB hy hp).2; have := hg.size; omega
      · have := (ni_lt hk hp).2; have := hg.size; omega
  sn := fun x hx => by
    rcases List.mem_append.1 hx with hx | hx
    · exact h.sn x hx
    · simp at hx
      subst hx
      exact hs
  eq := by
    have h9 := h.eq
    simp only [] at h9 ⊢
    rw [List.map_append, h9]
    rfl
  ot := h.ot.move fun b hb => hg.block b (h.ot.lt hb).2 (fun e => by
    obtain ⟨c1, k1⟩ := h.ot.typed9 hb
    obtain ⟨c2, k2⟩ := h.row.typed e.symm
    rw [k1] at k2
    cases k2)
  bl := h.bl.grown hg h.bl.size (fun k e => by have := (h.row.lt e).1; have := h.bB; omega)
  bB := h.bB
  BH := Nat.le_trans h.BH (Nat.le_trans h.hH hg.size)
  hH := Nat.le_refl _
  vH := fun b hb => (ho.lt hb).2
  tH := fun b hb => by have := h.tH b hb; have := h.hH; have := hg.size; omega
/-- The other row has changed. -/
theorem RpM.told {w wt w5 : World} {B H : Nat} {v tv tv' : Value} {l : List Tg} {st1 : List Tc} {to to' : List Int} (h : RpM w wt B H v tv l (st1, to)) (hg : wt.grownBy w5 tv.ownBlock) (ho : OI w5 B tv' to') (hat : tv'.ownBlock = tv.ownBlock ∨ tv'.ownBlock = some wt.heap.size) : RpM w w5 B w5.heap.size v tv' l (st1, to') where
  row := h.row.move fun b hb => hg.block b (h.row.lt hb).2 (fun e => by
    obtain ⟨c1, k1⟩ := h.row.typed hb
    obtain ⟨c2, k2⟩ := h.ot.typed9 e.symm
    rw [k1] at k2
    cases k2)
  nd := fun x hx => (h.nd x hx).imp id fun n => ⟨nw_blk n.wn fun p hp => hg.block _ (nw_ltB n.wn hp).2 (fun e => by
      obtain ⟨c1, k1⟩ := nw_typed n.wn hp
      obtain ⟨c2, k2⟩ := h.ot.typed9 e.symm
      rw [k1] at k2
      cases k2), ni_blk n.kn fun p hp => hg.block _ (ni_lt n.kn hp).2 (fun e => n.dj p hp e.symm), fun p hp => by have := n.wh p hp; have := h.hH; have := hg.size; omega, fun p hp => by have := n.kh p hp; have := h.hH; have := hg.size; omega, fun p hp e => by
      rcases hat with h8 | h8
      · exact n.dj p hp (by rw [← h8]; exact e)
      · rw [h8] at e
        have := n.kh p hp
        have := h.hH
        have e9 := Option.some.inj e
        omega⟩
  sn := h.sn
  eq := h.eq
  ot := ho
  bl := h.bl.grown hg h.bl.size (fun k e => by have := (h.ot.lt e).1; have := h.bB; omega)
  bB := h.bB
  BH := Nat.le_trans h.BH (Nat.le_trans h.hH hg.size)
  hH := Nat.le_refl _
  vH := fun b hb => by have := h.vH b hb; have := h.hH; have := hg.size; omega
  tH := fun b hb => (ho.lt hb).2

/-- The row can be read. -/
theorem RpM.rd {w wr : World} {B H : Nat} {v tv : Value} {l : List Tg} {st : List Tc × List Int} (h : RpM w wr B H v tv l st) (hl : l.length ≤ 1048576) (hok : ∀ n ∈ st.1, okT n) : ∃ a c, v = .slice a l.length c ∧ RdT wr a l := by
  obtain ⟨a, c, e⟩ := h.row.form
  refine ⟨a, c, e, hl, ?_⟩
  by_cases h0 : l = []
  · exact .inl h0
  · right
    obtain ⟨x0, hx0⟩ : ∃ x0, l[0]? = some x0 := ⟨l[0]'(List.length_pos_iff.2 h0), List.getElem?_eq_getElem _⟩
    obtain ⟨g0, c0, e0, -⟩ := h.row.at hx0
    rw [e] at e0
    injection e0 with e1 e2 e3
    subst e1
    refine ⟨g0, 0, rfl, fun i x hi => ?_⟩
    obtain ⟨g, c1, e4, ht⟩ := h.row.at hi
    rw [e] at e4
    injection e4 with e5 e6 e7
    cases e5
    rw [Nat.zero_add]
    have hm := List.mem_of_getElem? hi
    obtain ⟨k1, k2, k3, k4, k5, k6, k7, k8, k9⟩ := hok x.ct (by rw [← h.eq]; exact List.mem_map_of_mem hm)
    refine ⟨ht, ?_, ?_, k1, k2, k3, k4, k5⟩
    · rcases h.nd x hm with n | n
      · exact n.1.later h.bl
      · exact n.wn.rd k6 k7
    · rcases h.nd x hm with n | n
      · exact n.2.later h.bl
      · exact n.kn.rd k8 k9

end Go.Proofs.YtkkboaiablfdbaaGreatDoor

/- What l3Prune answers. -/
namespace Go.Proofs.YtkkboaiablfdbaaGreatDoor
set_option linter.unusedVariables false
set_option linter.unusedSimpArgs false
open Go.RowKit

def bls (us : List Bool) : Array Value := (us.map Value.bool).toArray
theorem bls_get (us : List Bool) (i : Nat) (h : i < us.length) : (bls us)[i]? = some (.bool (us.getD i false)) := by simp [bls, List.getD, h]
theorem bls_set (us : List Bool) (i : Nat) (x : Bool) : (bls us).setIfInBounds i (.bool x) = bls (us.set i x) := by
  simp [bls, List.setIfInBounds_toArray, List.map_set]
theorem bls_made (n : Nat) : madeCells #[Value.bool false] n = bls (List.replicate n false) := by
  apply Array.toList_inj.1
  rw [toList_madeCells_one]
  simp [bls]

def RetPr (w : World) (X : List Tc) (e : Ending) (w' : World) : Prop := ∃ a c l, e = .returned (.slice a X.length c) ∧ RdT w' a l ∧ Sn l ∧ l.map Tg.ct = X ∧ Below w.heap.size w w'

/-- The rows of flags and of places. -/
structure PuM (w wr : World) (U P n : Nat) (us : List Bool) (to : List Int) : Prop where
  fl : Bz wr U (bls us) 4
  ul : us.length = n
  nt : Bz wr P (i64s to) 2
  tl : to.length = n
  bl : Below w.heap.size w wr
  UP : w.heap.size ≤ U ∧ w.heap.size ≤ P
theorem PuM.later {w wr wr' : World} {U P n : Nat} {us : List Bool} {to : List Int} (h : PuM w wr U P n us to) (hb : Below wr.heap.size wr wr') : PuM w wr' U P n us to :=
  ⟨h.fl.later hb, h.ul, h.nt.later hb, h.tl, h.bl.trans (hb.mono h.bl.size), h.UP⟩
theorem PuM.mark {w wr : World} {U P n : Nat} {us : List Bool} {to : List Int} (h : PuM w wr U P n us to) (j : Nat) : PuM w (wr.setCell ⟨U, j, none⟩ (.bool true)) U P n (us.set j true) to := by
  refine ⟨by rw [← bls_set]; exact h.fl.set j _, by rw [List.length_set]; exact h.ul, h.nt.other (fun e => ?_) j _, h.tl, h.bl.setCell h.UP.1 _, h.UP⟩
  have h1 := h.fl
  have h2 := h.nt
  unfold Bz at h1 h2
  rw [e, h1] at h2
  simp at h2
theorem PuM.cell {w wr : World} {U P n : Nat} {us : List Bool} {to : List Int} (h : PuM w wr U P n us to) {j : Nat} (hj : j < n) : wr.cell? ⟨U, j, none⟩ = some (.bool (us.getD j false)) ∧ wr.frozen? ⟨U, j, none⟩ = false := ⟨by rw [h.fl.cell, bls_get _ _ (by rw [h.ul]; exact hj)], h.fl.froz j⟩

theorem setK_take {us : List Bool} {ks : List Int} {t : Nat} {k : Int} (h : ks[t]? = some k) : setK us (ks.take (t + 1)) = (setK us (ks.take t)).set k.toNat true := by
  unfold setK
  rw [List.take_add_one, h, List.foldl_append]
  rfl

theorem OI.cell9 {w : World} {B g n c : Nat} {l : List Int} (h : OI w B (.slice (some ⟨g, 0, none⟩) n c) l) {i : Nat} (hi : i < l.length) : w.cell? ⟨g, i, none⟩ = some (.int .i64 (l.getD i 0)) := by
  rcases h.2 with ⟨e, -⟩ | ⟨g', cap, cur, e, hg, hh, hc1, hc2, hsz, hcur⟩
  · cases e
  · cases e
    have h3 : (cur.toList.take (l.length * 1))[i]? = (i64s l).toList[i]? := by rw [hcur]
    rw [List.getElem?_take, if_pos (by omega)] at h3
    simp only [Array.getElem?_toList] at h3
    rw [cell_of_row w _ i cur _ _ hh, h3, i64s_get _ _ hi]
theorem OI.froz9 {w : World} {B g n c : Nat} {l : List Int} (h : OI w B (.slice (some ⟨g, 0, none⟩) n c) l) (i : Nat) : w.frozen? ⟨g, i, none⟩ = false := by
  rcases h.2 with ⟨e, -⟩ | ⟨g', cap, cur, e, hg, hh, hc1, hc2, hsz, hcur⟩
  · cases e
  · cases e
    exact frozen_of_row w _ i _ _ hh
theorem OI.set9 {w : World} {B g n c : Nat} {l : List Int} (h : OI w B (.slice (some ⟨g, 0, none⟩) n c) l) {i : Nat} (hi : i < l.length) (x : Int) : OI (w.setCell ⟨g, i, none⟩ (.int .i64 x)) B (.slice (some ⟨g, 0, none⟩) n c) (l.set i x) := by
  rcases h.2 with ⟨e, -⟩ | ⟨g', cap, cur, e, hg, hh, hc1, hc2, hsz, hcur⟩
  · cases e
  · cases e
    refine ⟨by simp [i64s], .inr ⟨g, c, cur.setIfInBounds i (.int .i64 x), by simp, hg, heap_setCell_same w g i _ _ _ hh, by simpa using hc1, hc2, by simpa using hsz, ?_⟩⟩
    have e2 : (i64s (l.set i x)).toList = (i64s l).toList.set i (.int .i64 x) := by simp [i64s, List.map_set]
    rw [Array.toList_setIfInBounds, e2, ← hcur, List.take_set]
    simp
theorem OI.of_bz {w : World} {B P n : Nat} {to : List Int} (h : Bz w P (i64s to) 2) (hn : to.length = n) (hP : B ≤ P) (hn2 : n ≤ 1000000) : OI w B (.slice (some ⟨P, 0, none⟩) n n) to := by
  refine ⟨by simp [i64s], .inr ⟨P, n, i64s to, by rw [hn], hP, h, by omega, by unfold maxLen; omega, by simp [i64s, hn], ?_⟩⟩
  rw [List.take_of_length_le (by simp [i64s])]

theorem pkTo_len (ns : List Tc) (us : List Bool) : ∀ k, (pkTo ns us k).1.length ≤ k ∧ (pkTo ns us k).2.length = ns.length
  | 0 => by simp [pkTo]
  | k + 1 => by
    obtain ⟨h1, h2⟩ := pkTo_len ns us k
    rw [pkTo]
    split
    · unfold pkStep
      split
      · exact ⟨by simp; omega, by simpa using h2⟩
      · exact ⟨by omega, h2⟩
    · exact ⟨by omega, h2⟩

theorem pk_ok {ns : List Tc} {us : List Bool} (hok : ∀ n ∈ ns, okT n) (hl : ns.length ≤ 1000) (hA : Ahd ns) : ∀ k, k ≤ ns.length → ∀ n ∈ (pkTo ns us k).1, okT n := by
  have key : ∀ k, k ≤ ns.length → (∀ n ∈ (pkTo ns us k).1, okT n) ∧ ∀ y ∈ (pkTo ns us k).2, 0 ≤ y ∧ y ≤ 1000 := by
    intro k
    induction k with
    | zero => intro _; exact ⟨by simp [pkTo], fun y hy => by simp [pkTo] at hy; omega⟩
    | succ k ih =>
      intro h
      have hk2 : ns[k]? = some (ns[k]'(by omega)) := List.getElem?_eq_getElem (by omega)
      obtain ⟨i1, i2⟩ := ih (by omega)
      have hpl := pkTo_len ns us k
      rw [pkTo_succ hk2]
      have hm : ns[k]'(by omega) ∈ ns := List.getElem_mem _
      have hkid := hA k _ hk2
      generalize ns[k]'(by omega) = n at hm hkid
      generalize pkTo ns us k = st at i1 i2 hpl
      unfold pkStep
      split
      · refine ⟨fun m hm' => ?_, fun y hy => ?_⟩
        · rcases List.mem_append.1 hm' with h9 | h9
          · exact i1 m h9
          · simp at h9
            subst h9
            obtain ⟨k1, k2, k3, k4, k5, k6, k7, k8, k9⟩ := hok n hm
            refine ⟨k1, k2, k3, k4, k5, k6, k7, by simpa [mvT] using k8, fun y hy => ?_⟩
            obtain ⟨q, hq, rfl⟩ := List.mem_map.1 hy
            have h8 := hkid q hq
            have := i2 _ (gD_lt (l := st.2) (i := q.toNat) (by omega))
            exact ⟨by omega, by omega⟩
        · rcases List.mem_or_eq_of_mem_set hy with h9 | h9
          · exact i2 y h9
          · subst h9
            omega
      · exact ⟨i1, i2⟩
  exact fun k h => (key k h).1

set_option maxHeartbeats 4000000 in
set_option maxRecDepth 100000 in
theorem l3Prune_any (a : Option Addr) (c n root : Nat) (xs : List Tg) (w : World) (hr : RdT w a xs) (hn : xs.length = n) (hs : Sn xs) (hk : Ahd (xs.map Tg.ct)) (hn8 : n ≤ 1000) (hroot : root < n) :
    Calls Tryz.prog 21 #[.slice a n c, .int .i64 (root : Int)] w (RetPr w (prR (xs.map Tg.ct) root)) := by
  have hmkb : ∀ (kl kc : IntKind) (w : World), (Instr.makeSlice 78 (.int kl (n : Int)) (.int kc (n : Int))).run Tryz.prog w = .ok (.slice (some ⟨w.heap.size, 0, none⟩) n n) (w.alloc (Obj.cells (bls (List.replicate n false)) 4)) := fun kl kc w => by rw [← bls_made]; exact run_make_row' (P := Tryz.prog) 78 4 (.bool false) 1 Tryz.underlying78 Tryz.infoBool rfl kl kc n (by omega) (by omega) w
  have hmki : ∀ (kl kc : IntKind) (w : World), (Instr.makeSlice 48 (.int kl (n : Int)) (.int kc (n : Int))).run Tryz.prog w = .ok (.slice (some ⟨w.heap.size, 0, none⟩) n n) (w.alloc (Obj.cells (i64s (List.replicate n 0)) 2)) := fun kl kc w => by rw [← i64s_made]; exact run_make_row' (P := Tryz.prog) 48 2 (.int .i64 0) 8 Tryz.underlying48 Tryz.infoI64 rfl kl kc n (by omega) (by omega) w
  have HOK := kide hr.ok
  obtain ⟨ns, hns⟩ : ∃ ns, xs.map Tg.ct = ns := ⟨_, rfl⟩
  rw [hns] at hk HOK ⊢
  have hnl : ns.length = n := by rw [← hns]; simpa using hn
  have HK := kide hk
  have HNS := kide hns
  have HNL := kide hnl
  have HN := kide hn
  have HS := kide hs
  have HR := kide hr
  have HN8 := kide hn8
  have hri : (root : Int) < (n : Int) := by omega
  have hc0 : (bls (List.replicate n false))[root]? = some (.bool false) := by rw [bls_get _ _ (by simpa using hroot)]; simp [List.getD, hroot]
  have HRT := kide hroot
  obtain ⟨UL, hUL⟩ : ∃ UL, usedL ns root = UL := ⟨_, rfl⟩
  have HUL0 := kide hUL
  have HUL : Hid (puDn ns n ((List.replicate n false).set root true) = UL) := by show _ = _; rw [← hUL, ← hnl]; rfl
  have M0 : Hid (PuM w ((w.alloc (Obj.cells (bls ((List.replicate n false).set root true)) 4)).alloc (Obj.cells (i64s (List.replicate n 0)) 2)) w.heap.size (w.heap.size + 1) n ((List.replicate n false).set root true) (List.replicate n 0)) := by
    have h1 := Bz.new w (bls ((List.replicate n false).set root true)) 4
    have hsz : (w.alloc (Obj.cells (bls ((List.replicate n false).set root true)) 4)).heap.size = w.heap.size + 1 := by simp
    have h2 := Bz.new (w.alloc (Obj.cells (bls ((List.replicate n false).set root true)) 4)) (i64s (List.replicate n 0)) 2
    rw [hsz] at h2
    have hb : Below w.heap.size w (w.alloc (Obj.cells (bls ((List.replicate n false).set root true)) 4)) := (Below.refl _ _).alloc (Nat.le_refl _) _
    exact ⟨h1.later ((Below.refl _ _).alloc (Nat.le_refl _) _), by simp, h2, by simp, hb.trans (((Below.refl _ _).alloc (Nat.le_refl _) _).mono hb.size), Nat.le_refl _, Nat.le_succ _⟩
  have e0 : wrap64 ((n : Int) - 1) = (n : Int) - 1 := by unfold wrap64; omega
  clear hr hn hs hk hns hnl hn8 hroot
  go_enter Tryz.func21, Tryz.ntmps21
  go_wp2_with fail
  rw [bls_set, e0]
  generalize (w.alloc (Obj.cells (bls ((List.replicate n false).set root true)) 4)).alloc (Obj.cells (i64s (List.replicate n 0)) 2) = W at *
  obtain ⟨U, hU⟩ : ∃ U, w.heap.size = U := ⟨_, rfl⟩
  rw [hU] at M0
  simp only [hU]
  have HU := kide hU
  clear hU e0 hmkb hmki hc0 hUL
  go_loopw [7] (fun q wr => ∃ (m : Nat) (us : List Bool), m ≤ n ∧ q = .int .i64 ((m : Int) - 1) ∧ puDn ns m us = UL ∧ PuM w wr U (U + 1) n us (List.replicate n 0)) (fun q _ => (intOf q + 1).toNat)
  case atStart => exact ⟨n, _, Nat.le_refl _, rfl, HUL.out, M0.out⟩
  case round =>
    clear M0 HUL
    obtain ⟨m, us, hm, rfl, hpu, hpm⟩ := hrel
    have HPM := kide hpm
    have HPU := kide hpu
    clear hpm hpu
    by_cases hm0 : m = 0
    · subst hm0
      have hUS : us = UL := HPU.out
      subst hUS
      have q0 : ((0 : Nat) : Int) - 1 = -1 := rfl
      rw [q0]
      clear q0 hm hri HPU
      have hUL2 := HUL0
      have hbo : Below wr.heap.size wr (wr.alloc (Obj.cells #[] 53)) := (Below.refl _ _).alloc (Nat.le_refl _) _
      have hto := OI.of_bz (HPM.out.later hbo).nt (B := U) (n := n) (by simp) (by omega) (by have := HN8.out; omega)
      have hul := HPM.out.ul
      have hbl := HPM.out.bl
      have hlt1 := HPM.out.nt.lt
      have M0 : Hid (RpM w (wr.alloc (Obj.cells #[] 53)) U (wr.alloc (Obj.cells #[] 53)).heap.size (.slice (some ⟨wr.heap.size, 0, none⟩) 0 0) (.slice (some ⟨U + 1, 0, none⟩) n n) [] (pkTo ns us 0)) := by
        have hU2 := HU.out
        have e0 : pkTo ns us 0 = ([], List.replicate n 0) := by rw [pkTo, HNL.out]
        rw [e0]
        refine ⟨OT.empty wr U (by omega), by simp, fun x hx => by simp at hx, rfl, hto, hbl.trans (hbo.mono hbl.size), by omega, ?_, Nat.le_refl _, fun b hb => ?_, fun b hb => ?_⟩
        · simp; omega
        · cases hb; simp
        · cases hb; simp; omega
      have FL0 := kide (HPM.out.later hbo).fl
      have HUSL := kide hul
      clear hbo hto hul hbl hlt1 HPM
      go_wp2_with fail
      generalize wr.alloc (Obj.cells #[] 53) = W2 at *
      go_loopw [9, 10] (fun o q wr => ∃ (k : Nat) (l : List Tg), k ≤ n ∧ q = .int .i64 (k : Int) ∧ RpM w wr U wr.heap.size o (.slice (some ⟨U + 1, 0, none⟩) n n) l (pkTo ns us k) ∧ Bz wr U (bls us) 4) (fun _ q _ => n - (intOf q).toNat)
      case atStart => exact ⟨0, [], Nat.zero_le _, rfl, M0.out, FL0.out⟩
      case round =>
        clear M0 FL0
        obtain ⟨k, l, hk, rfl, hm, hfl⟩ := hrel
        have HM := kide hm
        have FL := kide hfl
        have HPL := kide (pkTo_len ns us k).1
        have HPL2 := kide (pkTo_len ns us k).2
        by_cases hlt : k < n
        · have i0 : (k : Int) < (n : Int) := by omega
          obtain ⟨x, gx⟩ : ∃ x, xs[k]? = some x := ⟨xs[k]'(by rw [HN.out]; exact hlt), List.getElem?_eq_getElem _⟩
          have gn : ns[k]? = some x.ct := by rw [← HNS.out]; simp [gx]
          have HST := kide (pkTo_succ (used := us) gn)
          have c1 := hfl.cell k
          rw [bls_get _ _ (by rw [HUSL.out]; exact hlt)] at c1
          obtain ⟨bq, oq, rfl, hcq⟩ : ∃ b o, a = some ⟨b, o, none⟩ ∧ ∀ i y, xs[i]? = some y → TgAt w b (o + i * 7) y := by
            rcases HR.out.2 with h0 | h0
            · rw [h0] at gx; simp at gx
            · exact h0
          obtain ⟨⟨p0, p1, p2, p3, p4, p5, p6⟩, pw, pk, -⟩ := (hcq k x gx).later hm.bl
          simp only [Tg.hd] at p0 p1 p2 p3 p4 p5 p6
          obtain ⟨sw, sk⟩ := HS.out x (List.mem_of_getElem? gx)
          have HKK := kide (HK.out k _ gn)
          have HOX := kide (HOK.out _ (List.mem_of_getElem? gn))
          clear gx gn hcq hm hfl
          by_cases hu : us.getD k false = true
          · have HS2 : Hid (pkTo ns us (k + 1) = ((pkTo ns us k).1 ++ [mvT (pkTo ns us k).2 x.ct], (pkTo ns us k).2.set k ((pkTo ns us k).1.length : Int))) := by show _ = _; rw [HST.out, pkStep, if_pos hu]
            rw [hu] at c1
            generalize pkTo ns us k = st at *
            obtain ⟨st1, to⟩ := st
            simp only [] at HPL HPL2 HS2
            have HTN : Hid (to.length = n) := by show _ = _; rw [HPL2.out, HNL.out]
            generalize x.ct = nd at *
            clear hu HST
            have HC := kide (l3CopyNodeQ_any nd x.wa x.ka x.wc x.kc wr pw pk sw sk)
            clear pw pk sw sk
            go_wp2_with fail
            refine Calls.mono HC.out ?_
            rintro e w2 ⟨a1, c1, a2, c2, rfl, hnw, hni, hcap, hb2⟩
            have HCAP := kide hcap
            obtain ⟨N, hN⟩ : ∃ N, wr.heap.size = N := ⟨_, rfl⟩
            rw [hN] at hnw hni HM
            have M2 := kide (HM.out.later hb2)
            have FL2 := kide (Bz.later FL.out hb2)
            have hb3 : Below w2.heap.size w2 (w2.alloc (Obj.cells #[Value.int .i64 nd.op, Value.int .i64 nd.vr, Value.int .i64 nd.a, Value.int .i64 nd.b, Value.int .i64 nd.bw, Value.slice a1 nd.ws.length c1, Value.slice a2 nd.ks.length c2] 53)) := (Below.refl _ _).alloc (Nat.le_refl _) _
            have X3 := kide (Bz.new w2 #[Value.int .i64 nd.op, Value.int .i64 nd.vr, Value.int .i64 nd.a, Value.int .i64 nd.b, Value.int .i64 nd.bw, Value.slice a1 nd.ws.length c1, Value.slice a2 nd.ks.length c2] 53)
            have M3 := kide (M2.out.later hb3)
            have NW3 := kide (hnw.later hb3)
            have NI3 := kide (hni.later hb3)
            have FL3 := kide (Bz.later FL2.out hb3)
            clear hb2 hb3 hnw hni HM M2 p0 p1 p2 p3 p4 p5 p6 HC hN hcap FL FL2
            go_wp2_with fail
            generalize w2.alloc (Obj.cells #[Value.int .i64 nd.op, Value.int .i64 nd.vr, Value.int .i64 nd.a, Value.int .i64 nd.b, Value.int .i64 nd.bw, Value.slice a1 nd.ws.length c1, Value.slice a2 nd.ks.length c2] 53) = w3 at *
            generalize w2.heap.size = ν at *
            obtain ⟨nk, hnk⟩ : ∃ nk, nd.ks.length = nk := ⟨_, rfl⟩
            rw [hnk] at X3
            simp only [hnk]
            have HNK := kide hnk
            have hnk2 : nk ≤ 1048576 := by rw [← hnk]; exact HOX.out.2.2.2.2.2.2.2.1
            obtain ⟨nw, hnw⟩ : ∃ nw, nd.ws.length = nw := ⟨_, rfl⟩
            rw [hnw] at X3
            simp only [hnw]
            have HNW := kide hnw
            clear hnk hnw
            go_loopw [12] (fun i wr => ∃ j : Nat, j ≤ nk ∧ i = .int .i64 (j : Int) ∧ RpM w wr U N u9 (.slice (some ⟨U + 1, 0, none⟩) n n) l (st1, to) ∧ Bz wr ν #[Value.int .i64 nd.op, Value.int .i64 nd.vr, Value.int .i64 nd.a, Value.int .i64 nd.b, Value.int .i64 nd.bw, Value.slice a1 nw c1, Value.slice a2 nk c2] 53 ∧ Nw wr N a1 nd.ws ∧ Ni wr N a2 (mvK to nd.ks j) ∧ Bz wr U (bls us) 4) (fun i _ => nk - (intOf i).toNat)
            case atStart => exact ⟨0, Nat.zero_le _, rfl, M3.out, X3.out, NW3.out, by simpa [mvK] using NI3.out, FL3.out⟩
            case round =>
              clear M3 X3 NW3 NI3 FL3
              obtain ⟨j, hj, rfl, hm, hx, hw1, hi1, hFL⟩ := hrel
              have HM := kide hm
              have HX := kide hx
              have HW1 := kide hw1
              have HI1 := kide hi1
              have FL := kide hFL
              have z6 := hx.cell 6
              simp at z6
              clear hm hx hw1 hi1 hFL
              by_cases hjk : j < nk
              · have hjl : j < nd.ks.length := by rw [HNK.out]; exact hjk
                obtain ⟨g, hg2, hNg⟩ : ∃ g, a2 = some ⟨g, 0, none⟩ ∧ N ≤ g := by
                  rcases HI1.out with ⟨h1, -⟩ | ⟨g, cur, h1, h2, -⟩
                  · have h9 := congrArg List.length h1; rw [mvK_len, List.length_nil] at h9; omega
                  · exact ⟨g, h1, h2⟩
                subst hg2
                obtain ⟨q0, q1⟩ := HI1.out.cell (j := j) (by rw [mvK_len]; exact hjl)
                rw [mvK_get to nd.ks (Nat.le_refl j)] at q0
                have HPUT := kide (fun y => HI1.out.put (j := j) (by rw [mvK_len]; exact hjl) y)
                have HSTP := kide (mvK_step to nd.ks hjl)
                have hkid := HKK.out (nd.ks.getD j 0) (by
                  have e : nd.ks.getD j 0 = nd.ks[j] := by simp [List.getD, hjl]
                  rw [e]; exact List.getElem_mem _)
                generalize nd.ks.getD j 0 = kj at *
                obtain ⟨hk0, hk1⟩ := hkid
                obtain ⟨kn, rfl⟩ := Int.eq_ofNat_of_zero_le hk0
                have htn : to.length = n := HTN.out
                have t0 := OI.cell9 HM.out.ot (i := kn) (by simp only []; omega)
                simp only [] at t0
                have i2 : (kn : Int) < (n : Int) := by omega
                clear htn
                obtain ⟨y, hy⟩ : ∃ y, to.getD kn 0 = y := ⟨_, rfl⟩
                rw [hy] at t0
                rw [Int.toNat_natCast, hy] at HSTP
                have HP := kide (HPUT.out y)
                rw [HSTP.out] at HP
                have i1 : (j : Int) < (nk : Int) := by omega
                clear hy HPUT HSTP hk0
                obtain ⟨cur, hgz⟩ : ∃ cur, Bz wr g cur 2 := by
                  rcases HI1.out with ⟨h1, -⟩ | ⟨g', cur, h1, h2, h3, -⟩
                  · have h9 := congrArg List.length h1; rw [mvK_len, List.length_nil] at h9; omega
                  · cases h1; exact ⟨cur, h3⟩
                have hne : ν ≠ g := by
                  rintro rfl
                  have h9 := HX.out
                  unfold Bz at h9 hgz
                  rw [hgz] at h9
                  cases h9
                have hg9 := grow_setT (World.grownBy.refl wr (some g)) j (.int .i64 y)
                have HM4 := kide ((HM.out.out hg9 hNg).later ((Below.refl _ _).drew : Below (wr.setCell ⟨g, j, none⟩ (.int .i64 y)).heap.size (wr.setCell ⟨g, j, none⟩ (.int .i64 y)) (wr.setCell ⟨g, j, none⟩ (.int .i64 y)).drew))
                have HX4 := kide ((HX.out.other hne j (.int .i64 y)).later ((Below.refl _ _).drew : Below (wr.setCell ⟨g, j, none⟩ (.int .i64 y)).heap.size (wr.setCell ⟨g, j, none⟩ (.int .i64 y)) (wr.setCell ⟨g, j, none⟩ (.int .i64 y)).drew))
                have HW4 := kide ((nw_set HW1.out hgz (by decide) j (.int .i64 y)).later ((Below.refl _ _).drew : Below (wr.setCell ⟨g, j, none⟩ (.int .i64 y)).heap.size (wr.setCell ⟨g, j, none⟩ (.int .i64 y)) (wr.setCell ⟨g, j, none⟩ (.int .i64 y)).drew))
                have HI4 := kide (HP.out.later ((Below.refl _ _).drew : Below (wr.setCell ⟨g, j, none⟩ (.int .i64 y)).heap.size (wr.setCell ⟨g, j, none⟩ (.int .i64 y)) (wr.setCell ⟨g, j, none⟩ (.int .i64 y)).drew))
                have FL4 := kide (Bz.later (Bz.other FL.out (fun e => by have h9 := hgz; have h8 := FL.out; unfold Bz at h9 h8; rw [← e, h8] at h9; simp at h9) j (.int .i64 y)) ((Below.refl _ _).drew : Below (wr.setCell ⟨g, j, none⟩ (.int .i64 y)).heap.size (wr.setCell ⟨g, j, none⟩ (.int .i64 y)) (wr.setCell ⟨g, j, none⟩ (.int .i64 y)).drew))
                clear hg9 hgz hne
                go_wp2_with fail
                go_region
                go_wp2
                exact ⟨⟨j + 1, by omega, by go_num, HM4.out, HX4.out, HW4.out, HI4.out, FL4.out⟩, by simp [intOf]; omega⟩
              · have hjn : j = nd.ks.length := by rw [HNK.out]; omega
                rw [hjn, mvK_all] at HI1
                obtain ⟨ks2, hks2⟩ : ∃ ks2, (nd.ks.map fun k => to.getD k.toNat 0) = ks2 := ⟨_, rfl⟩
                rw [hks2] at HI1
                have HMV : Hid (mvT to nd = ⟨nd.op, nd.vr, nd.a, nd.b, nd.bw, nd.ws, ks2⟩) := by show _ = _; rw [← hks2]; rfl
                have HK2 : Hid (ks2.length = nk) := by show _ = _; rw [← hks2, List.length_map, HNK.out]
                clear hks2 hjn hj
                have n0 := HX.out.cell 0
                have n1 := HX.out.cell 1
                have n2 := HX.out.cell 2
                have n3 := HX.out.cell 3
                have n4 := HX.out.cell 4
                have n5 := HX.out.cell 5
                have n6 := HX.out.cell 6
                simp at n0 n1 n2 n3 n4 n5 n6
                obtain ⟨va, vc, rfl⟩ := HM.out.row.form
                have HLL : Hid (l.length = st1.length) := by
                  show _ = _
                  have h9 := congrArg List.length HM.out.eq
                  simpa using h9
                have hLk : l.length ≤ 1000 := by have h1 := HLL.out; have h2 := HPL.out; have h3 := HN8.out; omega
                obtain ⟨ln, hln⟩ : ∃ ln, l.length = ln := ⟨_, rfl⟩
                rw [hln] at HM hLk
                simp only [hln]
                have HLN := kide hln
                clear hln
                have t9 := OI.cell9 HM.out.ot (i := k) (by simp only []; have := HTN.out; omega)
                have t8 := OI.froz9 HM.out.ot k
                have OS := kide (OI.set9 HM.out.ot (i := k) (by simp only []; have := HTN.out; omega) (ln : Int))
                have MS := kide (HM.out.told (grow_setT (World.grownBy.refl wr (some (U + 1))) k (.int .i64 (ln : Int))) OS.out (.inl rfl))
                have hp1 : ∃ cur, Bz wr (U + 1) cur 2 := HM.out.ot.typed9 rfl
                obtain ⟨cur1, hp1⟩ := hp1
                have XS := kide (HX.out.other (fun e => by have h9 := hp1; have h8 := HX.out; unfold Bz at h9 h8; rw [← e, h8] at h9; simp at h9) k (.int .i64 (ln : Int)) (c := U + 1))
                have WS := kide (nw_set HW1.out hp1 (by decide) k (.int .i64 (ln : Int)))
                have IS : Hid (Ni (wr.setCell ⟨U + 1, k, none⟩ (.int .i64 (ln : Int))) N a2 ks2) := ni_blk HI1.out fun p hp => heap_setCell_other _ _ _ _ (fun e => by have h9 := (ni_lt HI1.out hp).1; have h8 := HM.out.tH (U + 1) rfl; simp only [] at e; omega)
                have FSq := kide (FL.out.other (fun e => by omega) k (.int .i64 (ln : Int)) (c := U + 1))
                have hN9 : N ≤ wr.heap.size := HM.out.hH
                have hbt : Below (wr.setCell ⟨U + 1, k, none⟩ (.int .i64 (ln : Int))).heap.size (wr.setCell ⟨U + 1, k, none⟩ (.int .i64 (ln : Int))) ((wr.setCell ⟨U + 1, k, none⟩ (.int .i64 (ln : Int))).alloc (Obj.cells #[Value.int .i64 nd.op, Value.int .i64 nd.vr, Value.int .i64 nd.a, Value.int .i64 nd.b, Value.int .i64 nd.bw, Value.slice a1 nw c1, Value.slice a2 nk c2] 53)) := (Below.refl _ _).alloc (Nat.le_refl _) _
                have MT := kide (MS.out.later hbt)
                have WT := kide (WS.out.later hbt)
                have IT := kide (IS.out.later hbt)
                have FT := kide (FSq.out.later hbt)
                have XT := kide (Bz.new (wr.setCell ⟨U + 1, k, none⟩ (.int .i64 (ln : Int))) #[Value.int .i64 nd.op, Value.int .i64 nd.vr, Value.int .i64 nd.a, Value.int .i64 nd.b, Value.int .i64 nd.bw, Value.slice a1 nw c1, Value.slice a2 nk c2] 53)
                have HTA : Hid (ThAt ((wr.setCell ⟨U + 1, k, none⟩ (.int .i64 (ln : Int))).alloc (Obj.cells #[Value.int .i64 nd.op, Value.int .i64 nd.vr, Value.int .i64 nd.a, Value.int .i64 nd.b, Value.int .i64 nd.bw, Value.slice a1 nw c1, Value.slice a2 nk c2] 53)) (wr.setCell ⟨U + 1, k, none⟩ (.int .i64 (ln : Int))).heap.size 0 (Tg.hd ⟨⟨nd.op, nd.vr, nd.a, nd.b, nd.bw, nd.ws, ks2⟩, a1, c1, a2, c2⟩)) := by
                  simp only [Tg.hd, ThAt, HNW.out, HK2.out]
                  exact ⟨XT.out.cell 0, XT.out.cell 1, XT.out.cell 2, XT.out.cell 3, XT.out.cell 4, XT.out.cell 5, XT.out.cell 6⟩
                have hsS : (wr.setCell ⟨U + 1, k, none⟩ (.int .i64 (ln : Int))).heap.size = wr.heap.size := by simp
                rw [hsS] at HTA
                have HBN : Hid (U ≤ N) := HM.out.BH
                have HTN1 : Hid (U + 1 < N) := HM.out.tH (U + 1) rfl
                have HSZ := kide hsS
                have m0 : (wr.setCell ⟨U + 1, k, none⟩ (.int .i64 (ln : Int))).cell? ⟨ν, 0, none⟩ = some (Value.int .i64 nd.op) := XS.out.cell 0
                have m1 : (wr.setCell ⟨U + 1, k, none⟩ (.int .i64 (ln : Int))).cell? ⟨ν, 1, none⟩ = some (Value.int .i64 nd.vr) := XS.out.cell 1
                have m2 : (wr.setCell ⟨U + 1, k, none⟩ (.int .i64 (ln : Int))).cell? ⟨ν, 2, none⟩ = some (Value.int .i64 nd.a) := XS.out.cell 2
                have m3 : (wr.setCell ⟨U + 1, k, none⟩ (.int .i64 (ln : Int))).cell? ⟨ν, 3, none⟩ = some (Value.int .i64 nd.b) := XS.out.cell 3
                have m4 : (wr.setCell ⟨U + 1, k, none⟩ (.int .i64 (ln : Int))).cell? ⟨ν, 4, none⟩ = some (Value.int .i64 nd.bw) := XS.out.cell 4
                have m5 : (wr.setCell ⟨U + 1, k, none⟩ (.int .i64 (ln : Int))).cell? ⟨ν, 5, none⟩ = some (Value.slice a1 nw c1) := XS.out.cell 5
                have m6 : (wr.setCell ⟨U + 1, k, none⟩ (.int .i64 (ln : Int))).cell? ⟨ν, 6, none⟩ = some (Value.slice a2 nk c2) := XS.out.cell 6
                clear hbt hp1 XS OS hN9 hsS XT WS IS FSq
                go_wp2_with (at_builtin; refine wpList_appT7 rfl _ _ rfl U (.slice va ln vc) l ⟨⟨nd.op, nd.vr, nd.a, nd.b, nd.bw, nd.ws, ks2⟩, a1, c1, a2, c2⟩ (by first | rfl | simp [Act.eval]) MT.out.row wr.heap.size 1 (by first | rfl | simp [Act.eval]) HTA.out (by rw [HLN.out]; omega) (Nat.le_trans MT.out.BH MT.out.hH) ?_)
                intro g5 cap5 w5 ho5 hg5 hat5
                rw [HLN.out] at ho5 ⊢
                have MP := kide ((MT.out).push hg5 ho5 (WT.out.mono HBN.out) (IT.out.mono HBN.out) (fun p hp e => by have h9 := (ni_lt IT.out hp).1; have h8 := HTN1.out; have e9 := Option.some.inj e; simp only [] at e9; omega) HCAP.out)
                have FP : Hid (Bz w5 U (bls us) 4) := by
                  show _ = _
                  rw [hg5.block U FT.out.lt (fun e => by obtain ⟨c9, h9⟩ := MT.out.row.typed e.symm; have h8 := FT.out; unfold Bz at h8; rw [h8] at h9; simp at h9)]
                  exact FT.out
                have HS3 : Hid (pkTo ns us (k + 1) = (st1 ++ [⟨nd.op, nd.vr, nd.a, nd.b, nd.bw, nd.ws, ks2⟩], to.set k (ln : Int))) := by show _ = _; rw [HS2.out, HMV.out, ← HLL.out, HLN.out]
                clear ho5 hg5 hat5 MT FT
                go_wp2_with fail
                have e9 : wrap64 ((k : Int) + 1) = ((k + 1 : Nat) : Int) := by unfold wrap64; have := HN8.out; omega
                try rw [e9]
                go_roundw
                case rel => exact ⟨k + 1, _, by omega, by first | rfl | go_num, by rw [HS3.out]; exact MP.out, FP.out⟩
                case measure => simp only [intOf, Int.toNat_natCast]; omega
          · have hu' : us.getD k false = false := by simpa using hu
            rw [hu'] at c1
            have HS2 : Hid (pkTo ns us (k + 1) = pkTo ns us k) := by show _ = _; rw [HST.out, pkStep, if_neg hu]
            clear hu hu' pw pk p0 p1 p2 p3 p4 p5 p6 sw sk
            go_wp2_with fail
            have e9 : wrap64 ((k : Int) + 1) = ((k + 1 : Nat) : Int) := by unfold wrap64; have := HN8.out; omega
            try rw [e9]
            go_roundw
            case rel => exact ⟨k + 1, l, by omega, by first | rfl | go_num, by rw [HS2.out]; exact HM.out, FL.out⟩
            case measure => simp only [intOf, Int.toNat_natCast]; omega
        · have hkn : k = n := by omega
          subst hkn
          have HX1 : Hid (prR ns root = (pkTo ns us k).1) := by show _ = _; rw [prR, hUL2.out, HNL.out]
          have HP9 := kide (pk_ok (us := us) HOK.out (by rw [HNL.out]; have := HN8.out; omega) HK.out k (by rw [HNL.out]; exact Nat.le_refl _))
          obtain ⟨a9, c9, rfl, hr9⟩ := HM.out.rd (by have h1 := congrArg List.length HM.out.eq; rw [List.length_map] at h1; have h2 := HPL.out; have h3 := HN8.out; omega) HP9.out
          have R9 := kide hr9
          have EQ9 := kide HM.out.eq
          have SN9 := kide HM.out.sn
          have BL9 := kide HM.out.bl
          clear hr9 hm hfl
          go_wp2_with fail
          go_ret
          refine ⟨a9, c9, l, ?_, R9.out, SN9.out, by rw [HX1.out]; exact EQ9.out, BL9.out⟩
          rw [HX1.out, ← EQ9.out, List.length_map]
          rfl
    · obtain ⟨j, rfl⟩ : ∃ j, m = j + 1 := ⟨m - 1, by omega⟩
      have ej : ((j + 1 : Nat) : Int) - 1 = (j : Int) := by omega
      rw [ej]
      obtain ⟨x, gx⟩ : ∃ x, xs[j]? = some x := ⟨xs[j]'(by rw [HN.out]; omega), List.getElem?_eq_getElem _⟩
      have gn : ns[j]? = some x.ct := by rw [← HNS.out]; simp [gx]
      have HST : Hid (puDn ns j (puStep ns us j) = UL) := HPU.out
      have HPS : Hid (puStep ns us j = if us.getD j false = true then setK us x.ct.ks else us) := by show _ = _; unfold puStep; rw [gn]
      have j0 : (j : Int) ≥ 0 := by omega
      have j1 : (j : Int) < (n : Int) := by omega
      have HKK := kide (HK.out j _ gn)
      have hkt := HOK.out _ (List.mem_of_getElem? gn)
      have hkl : x.ct.ks.length ≤ 1048576 := hkt.2.2.2.2.2.2.2.1
      have HTG : Hid (∀ u, Below w.heap.size w u → ∃ b o, a = some ⟨b, o, none⟩ ∧ TgAt u b (o + j * 7) x) := fun u hu => by
        obtain ⟨-, h | ⟨b, o, e, hc⟩⟩ := HR.out.later hu
        · rw [h] at gx; simp at gx
        · exact ⟨b, o, e, hc j x gx⟩
      obtain ⟨b3, o3, rfl, -⟩ := HTG.out w (Below.refl _ _)
      have HTA : Hid (∀ u, Below w.heap.size w u → TgAt u b3 (o3 + j * 7) x) := fun u hu => by
        obtain ⟨b, o, e, h⟩ := HTG.out u hu
        cases e
        exact h
      have hmw : wrap64 ((j : Int) - 1) = (j : Int) - 1 := by unfold wrap64; have := HN8.out; omega
      clear HTG hkt
      obtain ⟨K, hK⟩ : ∃ K, x.ct.ks.length = K := ⟨_, rfl⟩
      have HKL := kide hK
      rw [hK] at hkl
      clear hK gx gn
      by_cases hu : us.getD j false = true
      · rw [if_pos hu] at HPS
        have HUJ : Hid (∀ t, (setK us (x.ct.ks.take t)).getD j false = true) := fun t => (setK_get _ us j (by rw [HPM.out.ul]; omega)).2 (.inl hu)
        clear hu
        go_wp2_with fail
        go_loopw [8] (fun q wr => ∃ t : Nat, t ≤ K ∧ q = .int .i64 (t : Int) ∧ PuM w wr U (U + 1) n (setK us (x.ct.ks.take t)) (List.replicate n 0)) (fun q _ => K - (intOf q).toNat)
        case atStart => exact ⟨0, Nat.zero_le _, rfl, by simpa [setK] using HPM.out⟩
        case round =>
          clear HPM
          obtain ⟨t, ht, rfl, hpm⟩ := hrel
          have HPM := kide hpm
          have c1 := (hpm.cell (j := j) (by omega)).1
          rw [HUJ.out t] at c1
          obtain ⟨⟨-, -, -, -, -, -, p6⟩, -, pk, -⟩ := HTA.out wr hpm.bl
          simp only [Tg.hd] at p6
          rw [HKL.out] at p6
          clear hpm
          by_cases htk : t < K
          · have t0 : (t : Int) < (K : Int) := by omega
            obtain ⟨k, gk⟩ : ∃ k, x.ct.ks[t]? = some k := ⟨x.ct.ks[t]'(by rw [HKL.out]; exact htk), List.getElem?_eq_getElem _⟩
            obtain ⟨k0, k1⟩ := HKK.out k (List.mem_of_getElem? gk)
            have HSE := kide (setK_take (us := us) gk)
            obtain ⟨kb, ko, ek, hkc⟩ : ∃ kb ko, x.ka = some ⟨kb, ko, none⟩ ∧ wr.cell? ⟨kb, ko + t, none⟩ = some (.int .i64 k) := by
              obtain ⟨-, -, h | ⟨kb, ko, e, hc⟩⟩ := pk
              · rw [h] at gk; simp at gk
              · refine ⟨kb, ko, e, ?_⟩
                have h9 := hc t (by rw [HKL.out]; exact htk)
                rwa [show x.ct.ks.getD t 0 = k by simp [List.getD, gk]] at h9
            obtain ⟨kn, rfl⟩ := Int.eq_ofNat_of_zero_le k0
            rw [ek] at p6
            obtain ⟨d1, d2⟩ := HPM.out.cell (j := kn) (by omega)
            have k2 : (kn : Int) < (n : Int) := by omega
            have HMK := kide (HPM.out.mark kn)
            rw [Int.toNat_natCast] at HSE
            rw [← HSE.out] at HMK
            clear pk gk HPM ek
            go_wp2_with fail
            go_roundw
            case rel => exact ⟨t + 1, by omega, by go_num, HMK.out⟩
            case measure => simp [intOf]; omega
          · have htK : x.ct.ks.take t = x.ct.ks := List.take_of_length_le (by rw [HKL.out]; omega)
            rw [htK, ← HPS.out] at HPM
            have t0 : ¬ (t : Int) < (K : Int) := by omega
            clear pk
            go_wp2_with fail
            rw [hmw]
            go_roundw
            case rel => exact ⟨j, _, by omega, rfl, HST.out, HPM.out⟩
            case measure => simp only [intOf]; omega
      · have hu' : us.getD j false = false := by simpa using hu
        rw [if_neg hu] at HPS
        rw [HPS.out] at HST
        have c1 := (HPM.out.cell (j := j) (by omega)).1
        rw [hu'] at c1
        obtain ⟨⟨-, -, -, -, -, -, p6⟩, -, pk, -⟩ := HTA.out wr HPM.out.bl
        simp only [Tg.hd] at p6
        clear hu hu' pk
        go_wp2_with fail
        obtain ⟨wo, hwo⟩ : ∃ wo, wo = wr := ⟨_, rfl⟩
        subst hwo
        go_loopw [8] (fun q wr => q = .int .i64 0 ∧ wr = wo) (fun _ _ => 0)
        case atStart => exact ⟨rfl, rfl⟩
        case round =>
          obtain ⟨rfl, rfl⟩ := hrel
          go_wp2_with fail
          rw [hmw]
          go_roundw
          case rel => exact ⟨j, _, by omega, rfl, HST.out, HPM.out⟩
          case measure => simp only [intOf]; omega

end Go.Proofs.YtkkboaiablfdbaaGreatDoor
