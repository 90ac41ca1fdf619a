/- A join undone: the closure, the trail's last tie taken away. -/
import Derived.Test.YtelndjdbfapahaaGF
namespace Go.Proofs.Ytelndjdbfapahaa
set_option linter.unusedVariables false
set_option linter.unusedSimpArgs false
open Go.RowKit

theorem own_short {w : World} {B n m : Nat} {e : TypeId} {v : Value} {xs : List Value} (h : w.ownsRow B e 1 v n xs) (hm : n = m + 1) : ∃ g c, v = .slice (some ⟨g, 0, none⟩) n c ∧ n ≤ c ∧ c ≤ 9223372036854775807 ∧ w.ownsRow B e 1 (.slice (some ⟨g, 0, none⟩) m c) m (xs.take m) := by
  obtain ⟨h1, h2⟩ := h
  rcases h2 with ⟨-, h0⟩ | ⟨g, cap, cur, rfl, hB, hh, h3, h4, h5, h6⟩
  · omega
  · refine ⟨g, cap, rfl, h3, by unfold maxLen at h4; omega, ⟨by simp at h1 ⊢; omega, .inr ⟨g, cap, cur, rfl, hB, hh, by omega, h4, h5, ?_⟩⟩⟩
    simp only [Nat.mul_one] at h6 ⊢
    rw [← h6, List.take_take, Nat.min_eq_left (by omega)]

/-- The ties of knot i are told by a shorter slice of the same row. -/
theorem Gv.tvs {w : World} {B G M i : Nat} {s : Gs} (h : Gv w B G M s) {v : Value} {cs : List Value} (ho : w.ownsRow B 85 1 v cs.length cs) (hc : cs.length ≤ M) (hat : v.ownBlock = (s.tv i).ownBlock) :
    Gv w B G M { s with tv := fun j => if j = i then v else s.tv j } := by
  have ob : ∀ j, (if j = i then v else s.tv j).ownBlock = (s.tv j).ownBlock := fun j => by
    by_cases e : j = i
    · rw [if_pos e, hat, e]
    · rw [if_neg e]
  refine ⟨h.lo, h.gb, h.kr, h.kn, fun j hj => ?_, h.ir, h.ti, fun j q hj hq hne b hb hb' => ?_, fun j hj b hb hb' => ?_⟩
  · show ∃ c : List Value, _ ∧ w.ownsRow B 85 1 (if j = i then v else s.tv j) _ _
    by_cases e : j = i
    · rw [if_pos e]; exact ⟨cs, hc, ho⟩
    · rw [if_neg e]; exact h.tr j hj
  · replace hb : (if j = i then v else s.tv j).ownBlock = some b := hb
    replace hb' : (if q = i then v else s.tv q).ownBlock = some b := hb'
    rw [ob] at hb hb'
    exact h.dj j q hj hq hne b hb hb'
  · replace hb : (if j = i then v else s.tv j).ownBlock = some b := hb
    rw [ob] at hb
    exact h.di j hj b hb hb'

/-- The trail's last tie is taken away. -/
theorem Gv.popped {w : World} {B G M t : Nat} {s : Gs} {ts : List Nat} {ls : List Lk} {l : Lk} (h : Gv w B G M s) (ht : s.ts = ts ++ [t]) (hl : s.ls = ls ++ [l]) (hn : ts.length = ls.length) {v : Value} (ho : w.ownsRow B 85 1 v ts.length (ts.map pt)) (hat : v.ownBlock = s.iv.ownBlock) :
    Gv (w.setCell ⟨G, 1, none⟩ v) B G M { s with ic := v, iv := v, ts := ts, ls := ls } := by
  have h0 := h.setIc v
  have hp := h.gb
  refine ⟨h0.lo, h0.gb, h0.kr, h0.kn, h0.tr, own_set ho hp (by decide) v, fun k t' l' ht' hl' => ?_, h0.dj, fun j hj b hb hb' => ?_⟩
  · have h1 : ts[k]? = some t' := ht'
    have h2 : ls[k]? = some l' := hl'
    have k1 := (List.getElem?_eq_some_iff.1 h1).1
    refine h0.ti k t' l' ?_ ?_
    · show s.ts[k]? = some t'
      rw [ht, List.getElem?_append_left k1]; exact h1
    · show s.ls[k]? = some l'
      rw [hl, List.getElem?_append_left (by omega)]; exact h2
  · have hb2 : v.ownBlock = some b := hb'
    rw [hat] at hb2
    exact h.di j hj b hb hb2

set_option maxHeartbeats 2000000 in
set_option maxRecDepth 100000 in
theorem join1_any {w : World} {B G M : Nat} {s : Gs} (h : Gv w B G M s) (hN : ∀ j, s.tc j = s.tv j) (ro ru po pu a b pa pb o9 o10 o11 o12 A0 A1 : Nat) (sz le : Int) (hro : s.ps[ro]? = some po) (hru : s.ps[ru]? = some pu) (ha : s.ps[a]? = some pa) (hb : s.ps[b]? = some pb) (hab : a ≠ b)
    (x9 : Bx w o9 #[Value.pointer (some ⟨po, 0, none⟩)] 70) (x10 : Bx w o10 #[Value.pointer (some ⟨pu, 0, none⟩)] 70) (x11 : Bx w o11 #[Value.int .i64 sz] 3) (x12 : Bx w o12 #[Value.int .i64 le] 2) (xA : Bx w A0 #[Value.pointer (some ⟨pa, 0, none⟩)] 70) (xB : Bx w A1 #[Value.pointer (some ⟨pb, 0, none⟩)] 70)
    (ka kb : Nat) (hka : lenV (s.tv a) = ka + 1) (hkb : lenV (s.tv b) = kb + 1) (hM : M ≤ 1048577) :
    Calls Try.prog 66 #[Value.pointer (some ⟨o11, 0, none⟩), Value.pointer (some ⟨o12, 0, none⟩), Value.pointer (some ⟨o10, 0, none⟩), Value.pointer (some ⟨o9, 0, none⟩), Value.pointer (some ⟨A0, 0, none⟩), Value.pointer (some ⟨A1, 0, none⟩)] w fun e w' => e = .returned (.tuple #[]) ∧ ∃ s', Gv w' B G M s' ∧ s'.ps = s.ps ∧ s'.ts = s.ts ∧ s'.ls = s.ls ∧ s'.kc = s.kc ∧ s'.kv = s.kv ∧ s'.ic = s.ic ∧ s'.iv = s.iv ∧ (∀ j, s'.tc j = s'.tv j) ∧ (∀ j, lenV (s'.tv j) + ((if j = a then 1 else 0) + (if j = b then 1 else 0)) = lenV (s.tv j)) ∧ Kt w w' ∧ Below B w w' := by
  have hal : a < s.ps.length := (List.getElem?_eq_some_iff.1 ha).1
  have hbl : b < s.ps.length := (List.getElem?_eq_some_iff.1 hb).1
  obtain ⟨csa, hca, oa⟩ := h.tr a hal
  obtain ⟨csb, hcb, ob⟩ := h.tr b hbl
  have hna : csa.length = ka + 1 := by rw [← own_lenV oa]; exact hka
  have hnb : csb.length = kb + 1 := by rw [← own_lenV ob]; exact hkb
  obtain ⟨ga, ca, eva, hca1, hca2, soa⟩ := own_short oa hna
  obtain ⟨gb, cb, evb, hcb1, hcb2, sob⟩ := own_short ob hnb
  rw [hna] at eva hca1
  rw [hnb] at evb hcb1
  obtain ⟨na, hnae⟩ : ∃ m, ka + 1 = m := ⟨_, rfl⟩
  obtain ⟨nb, hnbe⟩ : ∃ m, kb + 1 = m := ⟨_, rfl⟩
  rw [hnae] at eva hca1 hka
  rw [hnbe] at evb hcb1 hkb
  have iA : (na : Int) - 1 = (ka : Int) := by omega
  have iB : (nb : Int) - 1 = (kb : Int) := by omega
  have wA : IntKind.i64.wrap (ka : Int) = (ka : Int) := by rw [IntKind.wrap_i64]; omega
  have wB : IntKind.i64.wrap (kb : Int) = (kb : Int) := by rw [IntKind.wrap_i64]; omega
  have lA : ka ≤ ca := by omega
  have lB : kb ≤ cb := by omega
  have EVA := kide eva
  have EVB := kide evb
  have HKA := kide hka
  have HKB := kide hkb
  have SOA := kide soa
  have SOB := kide sob
  have HNA := kide hna
  have HNB := kide hnb
  have HNAE := kide hnae
  have HNBE := kide hnbe
  have HCA := kide hca
  have HCB := kide hcb
  have HTC := kide hN
  have HRO := kide hro
  have HRU := kide hru
  have HA := kide ha
  have HB := kide hb
  have HG8 := kide h
  have X9 := kide x9
  have X10 := kide x10
  have X11 := kide x11
  have X12 := kide x12
  have XA := kide xA
  have XB := kide xB
  clear h hN hro hru ha hb x9 x10 x11 x12 xA xB oa ob soa sob eva evb hka hkb hna hnb hca hcb hnae hnbe
  go_enter Try.func66, Try.ntmps66
  go_wp2_with fail
  refine wp_region_x (SA := fun _ => False) (SB := fun u => u.cell? ⟨o10, 0, none⟩ = some (Value.pointer (some ⟨pu, 0, none⟩)) ∧ u.cell? ⟨o9, 0, none⟩ = some (Value.pointer (some ⟨po, 0, none⟩)) ∧ u.cell? ⟨o11, 0, none⟩ = some (Value.int .i64 sz) ∧ u.cell? ⟨o12, 0, none⟩ = some (Value.int .i64 le)) (k := 999) (by kernel_rfl) ?_
  have hbd : Below w.heap.size w w.drew := (Below.refl _ _).drew
  have HGu0 := kide (HG8.out.later hbd)
  have XAu0 := kide (XA.out.later hbd)
  have XBu0 := kide (XB.out.later hbd)
  have X9u0 := kide (X9.out.later hbd)
  have X10u0 := kide (X10.out.later hbd)
  have X11u0 := kide (X11.out.later hbd)
  have X12u0 := kide (X12.out.later hbd)
  have KTu0 : Hid (Kt w w.drew) := Kt.of_below hbd
  have BBu0 : Hid (Below B w w.drew) := (Below.refl _ _).drew
  have SAu0 := kide (own_later SOA.out hbd)
  have SBu0 := kide (own_later SOB.out hbd)
  clear hbd HG8 X9 X10 X11 X12 XA XB SOA SOB
  generalize w.drew = u0 at *
  have hs0 : Hid ((fun u => u.cell? ⟨o10, 0, none⟩ = some (Value.pointer (some ⟨pu, 0, none⟩)) ∧ u.cell? ⟨o9, 0, none⟩ = some (Value.pointer (some ⟨po, 0, none⟩)) ∧ u.cell? ⟨o11, 0, none⟩ = some (Value.int .i64 sz) ∧ u.cell? ⟨o12, 0, none⟩ = some (Value.int .i64 le)) u0) := ⟨X10u0.out.cell 0, X9u0.out.cell 0, X11u0.out.cell 0, X12u0.out.cell 0⟩
  try go_simp
  refine wpAnyX_both (T := fun u => u.cell? ⟨o10, 0, none⟩ = some (Value.pointer (some ⟨pu, 0, none⟩)) ∧ u.cell? ⟨o9, 0, none⟩ = some (Value.pointer (some ⟨po, 0, none⟩)) ∧ u.cell? ⟨o11, 0, none⟩ = some (Value.int .i64 sz) ∧ u.cell? ⟨o12, 0, none⟩ = some (Value.int .i64 le)) (i := 0) (v := Value.pointer (some ⟨pu, 0, none⟩)) rfl (by kernel_rfl) (by kernel_rfl) (by kernel_rfl) (fun _ _ _ h => by first | exact h | exact h.elim | cases h.1) (by decide) (fun _ h => h.elim) (fun _ h => h) (Sx.behind (by kernel_rfl) hs0.out) (Or.inl ⟨by rfl, fun u hu => by obtain ⟨e1, e2, e3, e4⟩ := hu; go_simp⟩) ?_
  try go_simp
  refine wpAnyX_both (T := fun u => u.cell? ⟨o10, 0, none⟩ = some (Value.pointer (some ⟨pu, 0, none⟩)) ∧ u.cell? ⟨o9, 0, none⟩ = some (Value.pointer (some ⟨po, 0, none⟩)) ∧ u.cell? ⟨o11, 0, none⟩ = some (Value.int .i64 sz) ∧ u.cell? ⟨o12, 0, none⟩ = some (Value.int .i64 le)) (i := 1) (v := Value.pointer (some ⟨po, 0, none⟩)) rfl (by kernel_rfl) (by kernel_rfl) (by kernel_rfl) (fun _ _ _ h => by first | exact h | exact h.elim | cases h.1) (by decide) (fun _ h => h.elim) (fun _ h => h) (Sx.behind (by kernel_rfl) hs0.out) (Or.inl ⟨by rfl, fun u hu => by obtain ⟨e1, e2, e3, e4⟩ := hu; go_simp⟩) ?_
  try go_simp
  refine wpAnyX_both (T := fun u => u.cell? ⟨o10, 0, none⟩ = some (Value.pointer (some ⟨pu, 0, none⟩)) ∧ u.cell? ⟨o9, 0, none⟩ = some (Value.pointer (some ⟨po, 0, none⟩)) ∧ u.cell? ⟨o11, 0, none⟩ = some (Value.int .i64 sz) ∧ u.cell? ⟨o12, 0, none⟩ = some (Value.int .i64 le)) (i := 2) (v := Value.pointer (some ⟨po, 0, none⟩)) rfl (by kernel_rfl) (by kernel_rfl) (by kernel_rfl) (fun _ _ _ h => by first | exact h | exact h.elim | cases h.1) (by decide) (fun _ h => h.elim) (fun _ h => h) (Sx.behind (by kernel_rfl) hs0.out) (Or.inl ⟨by rfl, fun u hu => by obtain ⟨e1, e2, e3, e4⟩ := hu; go_simp⟩) ?_
  try go_simp
  refine wpAnyX_both (T := fun u => u.cell? ⟨o10, 0, none⟩ = some (Value.pointer (some ⟨pu, 0, none⟩)) ∧ u.cell? ⟨o9, 0, none⟩ = some (Value.pointer (some ⟨po, 0, none⟩)) ∧ u.cell? ⟨o11, 0, none⟩ = some (Value.int .i64 sz) ∧ u.cell? ⟨o12, 0, none⟩ = some (Value.int .i64 le)) (i := 3) (v := Value.int .i64 sz) rfl (by kernel_rfl) (by kernel_rfl) (by kernel_rfl) (fun _ _ _ h => by first | exact h | exact h.elim | cases h.1) (by decide) (fun _ h => h.elim) (fun _ h => h) (Sx.behind (by kernel_rfl) hs0.out) (Or.inl ⟨by rfl, fun u hu => by obtain ⟨e1, e2, e3, e4⟩ := hu; go_simp⟩) ?_
  try go_simp
  refine wpAnyX_both (T := fun u => u.cell? ⟨o10, 0, none⟩ = some (Value.pointer (some ⟨pu, 0, none⟩)) ∧ u.cell? ⟨o9, 0, none⟩ = some (Value.pointer (some ⟨po, 0, none⟩)) ∧ u.cell? ⟨o11, 0, none⟩ = some (Value.int .i64 sz) ∧ u.cell? ⟨o12, 0, none⟩ = some (Value.int .i64 le)) (i := 4) (v := Value.int .i64 le) rfl (by kernel_rfl) (by kernel_rfl) (by kernel_rfl) (fun _ _ _ h => by first | exact h | exact h.elim | cases h.1) (by decide) (fun _ h => h.elim) (fun _ h => h) (Sx.behind (by kernel_rfl) hs0.out) (Or.inl ⟨by rfl, fun u hu => by obtain ⟨e1, e2, e3, e4⟩ := hu; go_simp⟩) ?_
  try go_simp
  refine wpAnyX_both (T := fun u => u.cell? ⟨o10, 0, none⟩ = some (Value.pointer (some ⟨pu, 0, none⟩)) ∧ u.cell? ⟨o9, 0, none⟩ = some (Value.pointer (some ⟨po, 0, none⟩)) ∧ u.cell? ⟨o11, 0, none⟩ = some (Value.int .i64 sz) ∧ u.cell? ⟨o12, 0, none⟩ = some (Value.int .i64 le)) (i := 5) (v := Value.pointer (some ⟨pu, 0, none⟩)) rfl (by kernel_rfl) (by kernel_rfl) (by kernel_rfl) (fun _ _ _ h => by first | exact h | exact h.elim | cases h.1) (by decide) (fun _ h => h.elim) (fun _ h => h) (Sx.behind (by kernel_rfl) hs0.out) (Or.inl ⟨by rfl, fun u hu => by obtain ⟨e1, e2, e3, e4⟩ := hu; go_simp⟩) ?_
  try go_simp
  refine wpAnyX_both (T := fun u => u.cell? ⟨o10, 0, none⟩ = some (Value.pointer (some ⟨pu, 0, none⟩)) ∧ u.cell? ⟨o9, 0, none⟩ = some (Value.pointer (some ⟨po, 0, none⟩)) ∧ u.cell? ⟨o11, 0, none⟩ = some (Value.int .i64 sz) ∧ u.cell? ⟨o12, 0, none⟩ = some (Value.int .i64 le)) (i := 6) (v := Value.pointer (some ⟨pu, 2, none⟩)) rfl (by kernel_rfl) (by kernel_rfl) (by kernel_rfl) (fun _ _ _ h => by first | exact h | exact h.elim | cases h.1) (by decide) (fun _ h => h.elim) (fun _ h => h) (Sx.behind (by kernel_rfl) hs0.out) (Or.inl ⟨by rfl, fun u hu => by obtain ⟨e1, e2, e3, e4⟩ := hu; go_simp⟩) ?_
  try go_simp
  refine wpAnyX_ready (rs := [7]) (by kernel_rfl) (by simp) (AllX.cons rfl (fun K hK => ?_) AllX.nil)
  have q1 := HGu0.out.get HRU.out
  have f1 := frozen_of_row u0 pu 2 _ _ (HGu0.out.kn _ _ HRU.out).2
  obtain ⟨qa1, qb1, qc1, qd1, qe1⟩ := q1
  go_simp
  have HGu1 : Hid (Gv (u0.setCell ⟨pu, 2, none⟩ (Value.pointer none)) B G M { s with tc := s.tc, up := (fun j => if j = ru then none else s.up j), sz := s.sz, le := s.le }) := by
    refine HGu0.out.knot HRU.out 2 _ s.tc (fun j => if j = ru then none else s.up j) s.sz s.le (fun j hj => by simp [hj]) ?_
    simp [knotCells, upv]
  have XAu1 : Hid (Bx (u0.setCell ⟨pu, 2, none⟩ (Value.pointer none)) A0 #[Value.pointer (some ⟨pa, 0, none⟩)] 70) := XAu0.out.other (XAu0.out.apart (HGu0.out.kn _ _ HRU.out).2 (by decide)) 2 _
  have XBu1 : Hid (Bx (u0.setCell ⟨pu, 2, none⟩ (Value.pointer none)) A1 #[Value.pointer (some ⟨pb, 0, none⟩)] 70) := XBu0.out.other (XBu0.out.apart (HGu0.out.kn _ _ HRU.out).2 (by decide)) 2 _
  have X9u1 : Hid (Bx (u0.setCell ⟨pu, 2, none⟩ (Value.pointer none)) o9 #[Value.pointer (some ⟨po, 0, none⟩)] 70) := X9u0.out.other (X9u0.out.apart (HGu0.out.kn _ _ HRU.out).2 (by decide)) 2 _
  have X10u1 : Hid (Bx (u0.setCell ⟨pu, 2, none⟩ (Value.pointer none)) o10 #[Value.pointer (some ⟨pu, 0, none⟩)] 70) := X10u0.out.other (X10u0.out.apart (HGu0.out.kn _ _ HRU.out).2 (by decide)) 2 _
  have X11u1 : Hid (Bx (u0.setCell ⟨pu, 2, none⟩ (Value.pointer none)) o11 #[Value.int .i64 sz] 3) := X11u0.out.other (X11u0.out.apart (HGu0.out.kn _ _ HRU.out).2 (by decide)) 2 _
  have X12u1 : Hid (Bx (u0.setCell ⟨pu, 2, none⟩ (Value.pointer none)) o12 #[Value.int .i64 le] 2) := X12u0.out.other (X12u0.out.apart (HGu0.out.kn _ _ HRU.out).2 (by decide)) 2 _
  have KTu1 : Hid (Kt w (u0.setCell ⟨pu, 2, none⟩ (Value.pointer none))) := KTu0.out.set (HGu0.out.kn _ _ HRU.out).2 (.inl rfl) _
  have BBu1 : Hid (Below B w (u0.setCell ⟨pu, 2, none⟩ (Value.pointer none))) := BBu0.out.setCell (HGu0.out.kn _ _ HRU.out).1 _
  have SAu1 : Hid ((u0.setCell ⟨pu, 2, none⟩ (Value.pointer none)).ownsRow B 85 1 (.slice (some ⟨ga, 0, none⟩) ka ca) ka (csa.take ka)) := own_set SAu0.out (HGu0.out.kn _ _ HRU.out).2 (by decide) _
  have SBu1 : Hid ((u0.setCell ⟨pu, 2, none⟩ (Value.pointer none)).ownsRow B 85 1 (.slice (some ⟨gb, 0, none⟩) kb cb) kb (csb.take kb)) := own_set SBu0.out (HGu0.out.kn _ _ HRU.out).2 (by decide) _
  generalize u0.setCell ⟨pu, 2, none⟩ (Value.pointer none) = u1 at *
  have hs1 : Hid ((fun u => u.cell? ⟨o10, 0, none⟩ = some (Value.pointer (some ⟨pu, 0, none⟩)) ∧ u.cell? ⟨o9, 0, none⟩ = some (Value.pointer (some ⟨po, 0, none⟩)) ∧ u.cell? ⟨o11, 0, none⟩ = some (Value.int .i64 sz) ∧ u.cell? ⟨o12, 0, none⟩ = some (Value.int .i64 le)) u1) := ⟨X10u1.out.cell 0, X9u1.out.cell 0, X11u1.out.cell 0, X12u1.out.cell 0⟩
  refine hK _ _ (Sx.behind (by kernel_rfl) hs1.out) ?_
  clear hK K
  clear qa1 qb1 qc1 qd1 qe1 f1
  try go_simp
  refine wpAnyX_both (T := fun u => u.cell? ⟨o10, 0, none⟩ = some (Value.pointer (some ⟨pu, 0, none⟩)) ∧ u.cell? ⟨o9, 0, none⟩ = some (Value.pointer (some ⟨po, 0, none⟩)) ∧ u.cell? ⟨o11, 0, none⟩ = some (Value.int .i64 sz) ∧ u.cell? ⟨o12, 0, none⟩ = some (Value.int .i64 le)) (i := 8) (v := Value.pointer (some ⟨po, 0, none⟩)) rfl (by kernel_rfl) (by kernel_rfl) (by kernel_rfl) (fun _ _ _ h => by first | exact h | exact h.elim | cases h.1) (by decide) (fun _ h => h.elim) (fun _ h => h) (Sx.behind (by kernel_rfl) hs1.out) (Or.inl ⟨by rfl, fun u hu => by obtain ⟨e1, e2, e3, e4⟩ := hu; go_simp⟩) ?_
  try go_simp
  refine wpAnyX_both (T := fun u => u.cell? ⟨o10, 0, none⟩ = some (Value.pointer (some ⟨pu, 0, none⟩)) ∧ u.cell? ⟨o9, 0, none⟩ = some (Value.pointer (some ⟨po, 0, none⟩)) ∧ u.cell? ⟨o11, 0, none⟩ = some (Value.int .i64 sz) ∧ u.cell? ⟨o12, 0, none⟩ = some (Value.int .i64 le)) (i := 9) (v := Value.pointer (some ⟨po, 3, none⟩)) rfl (by kernel_rfl) (by kernel_rfl) (by kernel_rfl) (fun _ _ _ h => by first | exact h | exact h.elim | cases h.1) (by decide) (fun _ h => h.elim) (fun _ h => h) (Sx.behind (by kernel_rfl) hs1.out) (Or.inl ⟨by rfl, fun u hu => by obtain ⟨e1, e2, e3, e4⟩ := hu; go_simp⟩) ?_
  try go_simp
  refine wpAnyX_ready (rs := [10]) (by kernel_rfl) (by simp) (AllX.cons rfl (fun K hK => ?_) AllX.nil)
  have q2 := HGu1.out.get HRO.out
  have f2 := frozen_of_row u1 po 3 _ _ (HGu1.out.kn _ _ HRO.out).2
  obtain ⟨qa2, qb2, qc2, qd2, qe2⟩ := q2
  go_simp
  have HGu2 : Hid (Gv (u1.setCell ⟨po, 3, none⟩ (Value.int .i64 sz)) B G M { s with tc := s.tc, up := (fun j => if j = ru then none else s.up j), sz := (fun j => if j = ro then sz else s.sz j), le := s.le }) := by
    refine HGu1.out.knot HRO.out 3 _ s.tc (fun j => if j = ru then none else s.up j) (fun j => if j = ro then sz else s.sz j) s.le (fun j hj => by simp [hj]) ?_
    simp [knotCells, upv]
  have XAu2 : Hid (Bx (u1.setCell ⟨po, 3, none⟩ (Value.int .i64 sz)) A0 #[Value.pointer (some ⟨pa, 0, none⟩)] 70) := XAu1.out.other (XAu1.out.apart (HGu1.out.kn _ _ HRO.out).2 (by decide)) 3 _
  have XBu2 : Hid (Bx (u1.setCell ⟨po, 3, none⟩ (Value.int .i64 sz)) A1 #[Value.pointer (some ⟨pb, 0, none⟩)] 70) := XBu1.out.other (XBu1.out.apart (HGu1.out.kn _ _ HRO.out).2 (by decide)) 3 _
  have X9u2 : Hid (Bx (u1.setCell ⟨po, 3, none⟩ (Value.int .i64 sz)) o9 #[Value.pointer (some ⟨po, 0, none⟩)] 70) := X9u1.out.other (X9u1.out.apart (HGu1.out.kn _ _ HRO.out).2 (by decide)) 3 _
  have X10u2 : Hid (Bx (u1.setCell ⟨po, 3, none⟩ (Value.int .i64 sz)) o10 #[Value.pointer (some ⟨pu, 0, none⟩)] 70) := X10u1.out.other (X10u1.out.apart (HGu1.out.kn _ _ HRO.out).2 (by decide)) 3 _
  have X11u2 : Hid (Bx (u1.setCell ⟨po, 3, none⟩ (Value.int .i64 sz)) o11 #[Value.int .i64 sz] 3) := X11u1.out.other (X11u1.out.apart (HGu1.out.kn _ _ HRO.out).2 (by decide)) 3 _
  have X12u2 : Hid (Bx (u1.setCell ⟨po, 3, none⟩ (Value.int .i64 sz)) o12 #[Value.int .i64 le] 2) := X12u1.out.other (X12u1.out.apart (HGu1.out.kn _ _ HRO.out).2 (by decide)) 3 _
  have KTu2 : Hid (Kt w (u1.setCell ⟨po, 3, none⟩ (Value.int .i64 sz))) := KTu1.out.set (HGu1.out.kn _ _ HRO.out).2 (.inl rfl) _
  have BBu2 : Hid (Below B w (u1.setCell ⟨po, 3, none⟩ (Value.int .i64 sz))) := BBu1.out.setCell (HGu1.out.kn _ _ HRO.out).1 _
  have SAu2 : Hid ((u1.setCell ⟨po, 3, none⟩ (Value.int .i64 sz)).ownsRow B 85 1 (.slice (some ⟨ga, 0, none⟩) ka ca) ka (csa.take ka)) := own_set SAu1.out (HGu1.out.kn _ _ HRO.out).2 (by decide) _
  have SBu2 : Hid ((u1.setCell ⟨po, 3, none⟩ (Value.int .i64 sz)).ownsRow B 85 1 (.slice (some ⟨gb, 0, none⟩) kb cb) kb (csb.take kb)) := own_set SBu1.out (HGu1.out.kn _ _ HRO.out).2 (by decide) _
  generalize u1.setCell ⟨po, 3, none⟩ (Value.int .i64 sz) = u2 at *
  have hs2 : Hid ((fun u => u.cell? ⟨o10, 0, none⟩ = some (Value.pointer (some ⟨pu, 0, none⟩)) ∧ u.cell? ⟨o9, 0, none⟩ = some (Value.pointer (some ⟨po, 0, none⟩)) ∧ u.cell? ⟨o11, 0, none⟩ = some (Value.int .i64 sz) ∧ u.cell? ⟨o12, 0, none⟩ = some (Value.int .i64 le)) u2) := ⟨X10u2.out.cell 0, X9u2.out.cell 0, X11u2.out.cell 0, X12u2.out.cell 0⟩
  refine hK _ _ (Sx.behind (by kernel_rfl) hs2.out) ?_
  clear hK K
  clear qa2 qb2 qc2 qd2 qe2 f2
  try go_simp
  refine wpAnyX_both (T := fun u => u.cell? ⟨o10, 0, none⟩ = some (Value.pointer (some ⟨pu, 0, none⟩)) ∧ u.cell? ⟨o9, 0, none⟩ = some (Value.pointer (some ⟨po, 0, none⟩)) ∧ u.cell? ⟨o11, 0, none⟩ = some (Value.int .i64 sz) ∧ u.cell? ⟨o12, 0, none⟩ = some (Value.int .i64 le)) (i := 11) (v := Value.pointer (some ⟨po, 0, none⟩)) rfl (by kernel_rfl) (by kernel_rfl) (by kernel_rfl) (fun _ _ _ h => by first | exact h | exact h.elim | cases h.1) (by decide) (fun _ h => h.elim) (fun _ h => h) (Sx.behind (by kernel_rfl) hs2.out) (Or.inl ⟨by rfl, fun u hu => by obtain ⟨e1, e2, e3, e4⟩ := hu; go_simp⟩) ?_
  try go_simp
  refine wpAnyX_both (T := fun u => u.cell? ⟨o10, 0, none⟩ = some (Value.pointer (some ⟨pu, 0, none⟩)) ∧ u.cell? ⟨o9, 0, none⟩ = some (Value.pointer (some ⟨po, 0, none⟩)) ∧ u.cell? ⟨o11, 0, none⟩ = some (Value.int .i64 sz) ∧ u.cell? ⟨o12, 0, none⟩ = some (Value.int .i64 le)) (i := 12) (v := Value.pointer (some ⟨po, 4, none⟩)) rfl (by kernel_rfl) (by kernel_rfl) (by kernel_rfl) (fun _ _ _ h => by first | exact h | exact h.elim | cases h.1) (by decide) (fun _ h => h.elim) (fun _ h => h) (Sx.behind (by kernel_rfl) hs2.out) (Or.inl ⟨by rfl, fun u hu => by obtain ⟨e1, e2, e3, e4⟩ := hu; go_simp⟩) ?_
  try go_simp
  refine wpAnyX_ready (rs := [13]) (by kernel_rfl) (by simp) (AllX.cons rfl (fun K hK => ?_) AllX.nil)
  have q3 := HGu2.out.get HRO.out
  have f3 := frozen_of_row u2 po 4 _ _ (HGu2.out.kn _ _ HRO.out).2
  obtain ⟨qa3, qb3, qc3, qd3, qe3⟩ := q3
  go_simp
  have HGu3 : Hid (Gv (u2.setCell ⟨po, 4, none⟩ (Value.int .i64 le)) B G M { s with tc := s.tc, up := (fun j => if j = ru then none else s.up j), sz := (fun j => if j = ro then sz else s.sz j), le := (fun j => if j = ro then le else s.le j) }) := by
    refine HGu2.out.knot HRO.out 4 _ s.tc (fun j => if j = ru then none else s.up j) (fun j => if j = ro then sz else s.sz j) (fun j => if j = ro then le else s.le j) (fun j hj => by simp [hj]) ?_
    simp [knotCells, upv]
  have XAu3 : Hid (Bx (u2.setCell ⟨po, 4, none⟩ (Value.int .i64 le)) A0 #[Value.pointer (some ⟨pa, 0, none⟩)] 70) := XAu2.out.other (XAu2.out.apart (HGu2.out.kn _ _ HRO.out).2 (by decide)) 4 _
  have XBu3 : Hid (Bx (u2.setCell ⟨po, 4, none⟩ (Value.int .i64 le)) A1 #[Value.pointer (some ⟨pb, 0, none⟩)] 70) := XBu2.out.other (XBu2.out.apart (HGu2.out.kn _ _ HRO.out).2 (by decide)) 4 _
  have X9u3 : Hid (Bx (u2.setCell ⟨po, 4, none⟩ (Value.int .i64 le)) o9 #[Value.pointer (some ⟨po, 0, none⟩)] 70) := X9u2.out.other (X9u2.out.apart (HGu2.out.kn _ _ HRO.out).2 (by decide)) 4 _
  have X10u3 : Hid (Bx (u2.setCell ⟨po, 4, none⟩ (Value.int .i64 le)) o10 #[Value.pointer (some ⟨pu, 0, none⟩)] 70) := X10u2.out.other (X10u2.out.apart (HGu2.out.kn _ _ HRO.out).2 (by decide)) 4 _
  have X11u3 : Hid (Bx (u2.setCell ⟨po, 4, none⟩ (Value.int .i64 le)) o11 #[Value.int .i64 sz] 3) := X11u2.out.other (X11u2.out.apart (HGu2.out.kn _ _ HRO.out).2 (by decide)) 4 _
  have X12u3 : Hid (Bx (u2.setCell ⟨po, 4, none⟩ (Value.int .i64 le)) o12 #[Value.int .i64 le] 2) := X12u2.out.other (X12u2.out.apart (HGu2.out.kn _ _ HRO.out).2 (by decide)) 4 _
  have KTu3 : Hid (Kt w (u2.setCell ⟨po, 4, none⟩ (Value.int .i64 le))) := KTu2.out.set (HGu2.out.kn _ _ HRO.out).2 (.inl rfl) _
  have BBu3 : Hid (Below B w (u2.setCell ⟨po, 4, none⟩ (Value.int .i64 le))) := BBu2.out.setCell (HGu2.out.kn _ _ HRO.out).1 _
  have SAu3 : Hid ((u2.setCell ⟨po, 4, none⟩ (Value.int .i64 le)).ownsRow B 85 1 (.slice (some ⟨ga, 0, none⟩) ka ca) ka (csa.take ka)) := own_set SAu2.out (HGu2.out.kn _ _ HRO.out).2 (by decide) _
  have SBu3 : Hid ((u2.setCell ⟨po, 4, none⟩ (Value.int .i64 le)).ownsRow B 85 1 (.slice (some ⟨gb, 0, none⟩) kb cb) kb (csb.take kb)) := own_set SBu2.out (HGu2.out.kn _ _ HRO.out).2 (by decide) _
  generalize u2.setCell ⟨po, 4, none⟩ (Value.int .i64 le) = u3 at *
  have hs3 : Hid ((fun u => u.cell? ⟨o10, 0, none⟩ = some (Value.pointer (some ⟨pu, 0, none⟩)) ∧ u.cell? ⟨o9, 0, none⟩ = some (Value.pointer (some ⟨po, 0, none⟩)) ∧ u.cell? ⟨o11, 0, none⟩ = some (Value.int .i64 sz) ∧ u.cell? ⟨o12, 0, none⟩ = some (Value.int .i64 le)) u3) := ⟨X10u3.out.cell 0, X9u3.out.cell 0, X11u3.out.cell 0, X12u3.out.cell 0⟩
  refine hK _ _ (Sx.behind (by kernel_rfl) hs3.out) ?_
  clear hK K
  clear qa3 qb3 qc3 qd3 qe3 f3
  try go_simp
  refine wpAnyX_done (by kernel_rfl) ?_ _
  skip
  go_wp2_with fail
  refine wp_region_x (SA := fun u => u.cell? ⟨A0, 0, none⟩ = some (Value.pointer (some ⟨pa, 0, none⟩)) ∧ u.cell? ⟨A1, 0, none⟩ = some (Value.pointer (some ⟨pb, 0, none⟩)) ∧ u.cell? ⟨pa, 1, none⟩ = some (Value.slice (some ⟨ga, 0, none⟩) na ca) ∧ u.cell? ⟨pb, 1, none⟩ = some (Value.slice (some ⟨gb, 0, none⟩) nb cb)) (SB := fun u => u.cell? ⟨A1, 0, none⟩ = some (Value.pointer (some ⟨pb, 0, none⟩))) (k := 26) (by kernel_rfl) ?_
  have hbd : Below u3.heap.size u3 u3.drew := (Below.refl _ _).drew
  have HGv0 := kide (HGu3.out.later hbd)
  have XAv0 := kide (XAu3.out.later hbd)
  have XBv0 := kide (XBu3.out.later hbd)
  have KTv0 := kide (KTu3.out.later hbd)
  have BBv0 : Hid (Below B w u3.drew) := BBu3.out.drew
  have SAv0 := kide (own_later SAu3.out hbd)
  have SBv0 := kide (own_later SBu3.out hbd)
  generalize u3.drew = v0 at *
  clear hbd HGu0 HGu1 HGu2 HGu3 X9u0 X9u1 X9u2 X9u3 X10u0 X10u1 X10u2 X10u3 X11u0 X11u1 X11u2 X11u3 X12u0 X12u1 X12u2 X12u3 XAu0 XAu1 XAu2 XAu3 XBu0 XBu1 XBu2 XBu3 KTu0 KTu1 KTu2 KTu3 BBu0 BBu1 BBu2 BBu3 SAu0 SAu1 SAu2 SAu3 SBu0 SBu1 SBu2 SBu3 hs0 hs1 hs2 hs3
  have hs0 : Hid ((fun u => u.cell? ⟨A0, 0, none⟩ = some (Value.pointer (some ⟨pa, 0, none⟩)) ∧ u.cell? ⟨A1, 0, none⟩ = some (Value.pointer (some ⟨pb, 0, none⟩)) ∧ u.cell? ⟨pa, 1, none⟩ = some (Value.slice (some ⟨ga, 0, none⟩) na ca) ∧ u.cell? ⟨pb, 1, none⟩ = some (Value.slice (some ⟨gb, 0, none⟩) nb cb)) v0) := by
    have k1 := HGv0.out.get HA.out
    have k2 := HGv0.out.get HB.out
    exact ⟨XAv0.out.cell 0, XBv0.out.cell 0, k1.2.1.trans (congrArg some ((HTC.out a).trans EVA.out)), k2.2.1.trans (congrArg some ((HTC.out b).trans EVB.out))⟩
  try go_simp
  refine wpAnyX_take (i := 0) (v := Value.pointer (some ⟨pa, 0, none⟩)) rfl (by kernel_rfl) (by kernel_rfl) (by kernel_rfl) (fun _ _ _ h => by first | exact h | exact h.elim | cases h.1) (by decide) (by kernel_rfl) (by kernel_rfl) hs0.out (Or.inl ⟨by rfl, fun u hu => by obtain ⟨e1, e2, e3, e4⟩ := hu; go_simp⟩) ?_
  try go_simp
  refine wpAnyX_both (T := fun u => u.cell? ⟨A1, 0, none⟩ = some (Value.pointer (some ⟨pb, 0, none⟩))) (i := 1) (v := Value.pointer (some ⟨pb, 0, none⟩)) rfl (by kernel_rfl) (by kernel_rfl) (by kernel_rfl) (fun _ _ _ h => by first | exact h | exact h.elim | cases h.1) (by decide) (fun _ h => h.2.1) (fun _ h => h) (Sx.before (by kernel_rfl) hs0.out) (Or.inl ⟨by rfl, fun u hu => by have e1 := hu; go_simp⟩) ?_
  try go_simp
  refine wpAnyX_take (i := 2) (v := Value.pointer (some ⟨pa, 0, none⟩)) rfl (by kernel_rfl) (by kernel_rfl) (by kernel_rfl) (fun _ _ _ h => by first | exact h | exact h.elim | cases h.1) (by decide) (by kernel_rfl) (by kernel_rfl) hs0.out (Or.inl ⟨by rfl, fun u hu => by obtain ⟨e1, e2, e3, e4⟩ := hu; go_simp⟩) ?_
  try go_simp
  refine wpAnyX_both (T := fun _ => True) (i := 3) (v := Value.pointer (some ⟨pa, 0, none⟩)) rfl (by kernel_rfl) (by kernel_rfl) (by kernel_rfl) (fun _ _ _ h => by first | exact h | exact h.elim | cases h.1) (by decide) (fun _ _ => trivial) (fun _ _ => trivial) (Sx.before (by kernel_rfl) hs0.out) (Or.inl ⟨by rfl, fun u hu => by go_simp⟩) ?_
  try go_simp
  refine wpAnyX_both (T := fun _ => True) (i := 4) (v := Value.pointer (some ⟨pa, 1, none⟩)) rfl (by kernel_rfl) (by kernel_rfl) (by kernel_rfl) (fun _ _ _ h => by first | exact h | exact h.elim | cases h.1) (by decide) (fun _ _ => trivial) (fun _ _ => trivial) (Sx.before (by kernel_rfl) hs0.out) (Or.inl ⟨by rfl, fun u hu => by go_simp⟩) ?_
  try go_simp
  refine wpAnyX_take (i := 5) (v := Value.slice (some ⟨ga, 0, none⟩) na ca) rfl (by kernel_rfl) (by kernel_rfl) (by kernel_rfl) (fun _ _ _ h => by first | exact h | exact h.elim | cases h.1) (by decide) (by kernel_rfl) (by kernel_rfl) hs0.out (Or.inl ⟨by rfl, fun u hu => by obtain ⟨e1, e2, e3, e4⟩ := hu; go_simp⟩) ?_
  try go_simp
  refine wpAnyX_take (i := 6) (v := Value.pointer (some ⟨pa, 0, none⟩)) rfl (by kernel_rfl) (by kernel_rfl) (by kernel_rfl) (fun _ _ _ h => by first | exact h | exact h.elim | cases h.1) (by decide) (by kernel_rfl) (by kernel_rfl) hs0.out (Or.inl ⟨by rfl, fun u hu => by obtain ⟨e1, e2, e3, e4⟩ := hu; go_simp⟩) ?_
  try go_simp
  refine wpAnyX_both (T := fun _ => True) (i := 7) (v := Value.pointer (some ⟨pa, 0, none⟩)) rfl (by kernel_rfl) (by kernel_rfl) (by kernel_rfl) (fun _ _ _ h => by first | exact h | exact h.elim | cases h.1) (by decide) (fun _ _ => trivial) (fun _ _ => trivial) (Sx.before (by kernel_rfl) hs0.out) (Or.inl ⟨by rfl, fun u hu => by go_simp⟩) ?_
  try go_simp
  refine wpAnyX_both (T := fun _ => True) (i := 8) (v := Value.pointer (some ⟨pa, 1, none⟩)) rfl (by kernel_rfl) (by kernel_rfl) (by kernel_rfl) (fun _ _ _ h => by first | exact h | exact h.elim | cases h.1) (by decide) (fun _ _ => trivial) (fun _ _ => trivial) (Sx.before (by kernel_rfl) hs0.out) (Or.inl ⟨by rfl, fun u hu => by go_simp⟩) ?_
  try go_simp
  refine wpAnyX_take (i := 9) (v := Value.slice (some ⟨ga, 0, none⟩) na ca) rfl (by kernel_rfl) (by kernel_rfl) (by kernel_rfl) (fun _ _ _ h => by first | exact h | exact h.elim | cases h.1) (by decide) (by kernel_rfl) (by kernel_rfl) hs0.out (Or.inl ⟨by rfl, fun u hu => by obtain ⟨e1, e2, e3, e4⟩ := hu; go_simp⟩) ?_
  try go_simp
  refine wpAnyX_both (T := fun _ => True) (i := 10) (v := Value.int .i64 (na : Int)) rfl (by kernel_rfl) (by kernel_rfl) (by kernel_rfl) (fun _ _ _ h => by first | exact h | exact h.elim | cases h.1) (by decide) (fun _ _ => trivial) (fun _ _ => trivial) (Sx.before (by kernel_rfl) hs0.out) (Or.inl ⟨by rfl, fun u hu => by go_simp⟩) ?_
  try go_simp
  refine wpAnyX_both (T := fun _ => True) (i := 11) (v := Value.int .i64 (ka : Int)) rfl (by kernel_rfl) (by kernel_rfl) (by kernel_rfl) (fun _ _ _ h => by first | exact h | exact h.elim | cases h.1) (by decide) (fun _ _ => trivial) (fun _ _ => trivial) (Sx.before (by kernel_rfl) hs0.out) (Or.inl ⟨by rfl, fun u hu => by go_simp⟩) ?_
  try go_simp
  refine wpAnyX_both (T := fun _ => True) (i := 12) (v := Value.slice (some ⟨ga, 0, none⟩) ka ca) rfl (by kernel_rfl) (by kernel_rfl) (by kernel_rfl) (fun _ _ _ h => by first | exact h | exact h.elim | cases h.1) (by decide) (fun _ _ => trivial) (fun _ _ => trivial) (Sx.before (by kernel_rfl) hs0.out) (Or.inl ⟨by rfl, fun u hu => by go_simp⟩) ?_
  try go_simp
  refine wpAnyX_both (T := fun u => u.cell? ⟨A1, 0, none⟩ = some (Value.pointer (some ⟨pb, 0, none⟩))) (i := 13) (v := Value.pointer (some ⟨pb, 0, none⟩)) rfl (by kernel_rfl) (by kernel_rfl) (by kernel_rfl) (fun _ _ _ h => by first | exact h | exact h.elim | cases h.1) (by decide) (fun _ h => h.2.1) (fun _ h => h) (Sx.before (by kernel_rfl) hs0.out) (Or.inl ⟨by rfl, fun u hu => by have e1 := hu; go_simp⟩) ?_
  try go_simp
  refine wpAnyX_both (T := fun _ => True) (i := 14) (v := Value.pointer (some ⟨pb, 0, none⟩)) rfl (by kernel_rfl) (by kernel_rfl) (by kernel_rfl) (fun _ _ _ h => by first | exact h | exact h.elim | cases h.1) (by decide) (fun _ _ => trivial) (fun _ _ => trivial) (Sx.before (by kernel_rfl) hs0.out) (Or.inl ⟨by rfl, fun u hu => by go_simp⟩) ?_
  try go_simp
  refine wpAnyX_both (T := fun _ => True) (i := 15) (v := Value.pointer (some ⟨pb, 1, none⟩)) rfl (by kernel_rfl) (by kernel_rfl) (by kernel_rfl) (fun _ _ _ h => by first | exact h | exact h.elim | cases h.1) (by decide) (fun _ _ => trivial) (fun _ _ => trivial) (Sx.before (by kernel_rfl) hs0.out) (Or.inl ⟨by rfl, fun u hu => by go_simp⟩) ?_
  try go_simp
  refine wpAnyX_take (i := 16) (v := Value.slice (some ⟨gb, 0, none⟩) nb cb) rfl (by kernel_rfl) (by kernel_rfl) (by kernel_rfl) (fun _ _ _ h => by first | exact h | exact h.elim | cases h.1) (by decide) (by kernel_rfl) (by kernel_rfl) hs0.out (Or.inl ⟨by rfl, fun u hu => by obtain ⟨e1, e2, e3, e4⟩ := hu; go_simp⟩) ?_
  try go_simp
  refine wpAnyX_both (T := fun u => u.cell? ⟨A1, 0, none⟩ = some (Value.pointer (some ⟨pb, 0, none⟩))) (i := 17) (v := Value.pointer (some ⟨pb, 0, none⟩)) rfl (by kernel_rfl) (by kernel_rfl) (by kernel_rfl) (fun _ _ _ h => by first | exact h | exact h.elim | cases h.1) (by decide) (fun _ h => h.2.1) (fun _ h => h) (Sx.before (by kernel_rfl) hs0.out) (Or.inl ⟨by rfl, fun u hu => by have e1 := hu; go_simp⟩) ?_
  try go_simp
  refine wpAnyX_both (T := fun _ => True) (i := 18) (v := Value.pointer (some ⟨pb, 0, none⟩)) rfl (by kernel_rfl) (by kernel_rfl) (by kernel_rfl) (fun _ _ _ h => by first | exact h | exact h.elim | cases h.1) (by decide) (fun _ _ => trivial) (fun _ _ => trivial) (Sx.before (by kernel_rfl) hs0.out) (Or.inl ⟨by rfl, fun u hu => by go_simp⟩) ?_
  try go_simp
  refine wpAnyX_both (T := fun _ => True) (i := 19) (v := Value.pointer (some ⟨pb, 1, none⟩)) rfl (by kernel_rfl) (by kernel_rfl) (by kernel_rfl) (fun _ _ _ h => by first | exact h | exact h.elim | cases h.1) (by decide) (fun _ _ => trivial) (fun _ _ => trivial) (Sx.before (by kernel_rfl) hs0.out) (Or.inl ⟨by rfl, fun u hu => by go_simp⟩) ?_
  try go_simp
  refine wpAnyX_take (i := 20) (v := Value.slice (some ⟨gb, 0, none⟩) nb cb) rfl (by kernel_rfl) (by kernel_rfl) (by kernel_rfl) (fun _ _ _ h => by first | exact h | exact h.elim | cases h.1) (by decide) (by kernel_rfl) (by kernel_rfl) hs0.out (Or.inl ⟨by rfl, fun u hu => by obtain ⟨e1, e2, e3, e4⟩ := hu; go_simp⟩) ?_
  try go_simp
  refine wpAnyX_both (T := fun _ => True) (i := 21) (v := Value.int .i64 (nb : Int)) rfl (by kernel_rfl) (by kernel_rfl) (by kernel_rfl) (fun _ _ _ h => by first | exact h | exact h.elim | cases h.1) (by decide) (fun _ _ => trivial) (fun _ _ => trivial) (Sx.before (by kernel_rfl) hs0.out) (Or.inl ⟨by rfl, fun u hu => by go_simp⟩) ?_
  try go_simp
  refine wpAnyX_both (T := fun _ => True) (i := 22) (v := Value.int .i64 (kb : Int)) rfl (by kernel_rfl) (by kernel_rfl) (by kernel_rfl) (fun _ _ _ h => by first | exact h | exact h.elim | cases h.1) (by decide) (fun _ _ => trivial) (fun _ _ => trivial) (Sx.before (by kernel_rfl) hs0.out) (Or.inl ⟨by rfl, fun u hu => by go_simp⟩) ?_
  try go_simp
  refine wpAnyX_both (T := fun _ => True) (i := 23) (v := Value.slice (some ⟨gb, 0, none⟩) kb cb) rfl (by kernel_rfl) (by kernel_rfl) (by kernel_rfl) (fun _ _ _ h => by first | exact h | exact h.elim | cases h.1) (by decide) (fun _ _ => trivial) (fun _ _ => trivial) (Sx.before (by kernel_rfl) hs0.out) (Or.inl ⟨by rfl, fun u hu => by go_simp⟩) ?_
  try go_simp
  refine wpAnyX_both (T := fun _ => True) (i := 24) (v := Value.pointer (some ⟨pa, 0, none⟩)) rfl (by kernel_rfl) (by kernel_rfl) (by kernel_rfl) (fun _ _ _ h => by first | exact h | exact h.elim | cases h.1) (by decide) (fun _ _ => trivial) (fun _ _ => trivial) (Sx.before (by kernel_rfl) hs0.out) (Or.inl ⟨by rfl, fun u hu => by go_simp⟩) ?_
  try go_simp
  refine wpAnyX_both (T := fun _ => True) (i := 25) (v := Value.pointer (some ⟨pa, 1, none⟩)) rfl (by kernel_rfl) (by kernel_rfl) (by kernel_rfl) (fun _ _ _ h => by first | exact h | exact h.elim | cases h.1) (by decide) (fun _ _ => trivial) (fun _ _ => trivial) (Sx.before (by kernel_rfl) hs0.out) (Or.inl ⟨by rfl, fun u hu => by go_simp⟩) ?_
  try go_simp
  refine wpAnyX_ready (rs := [26]) (by kernel_rfl) (by simp) (AllX.cons rfl (fun K hK => ?_) AllX.nil)
  obtain ⟨-, qb1, -, -, -⟩ := HGv0.out.get HA.out
  have f1 := frozen_of_row v0 pa 1 _ _ (HGv0.out.kn _ _ HA.out).2
  go_simp
  have HGv1 := kide (HGv0.out.knot HA.out 1 (Value.slice (some ⟨ga, 0, none⟩) ka ca) (fun j => if j = a then Value.slice (some ⟨ga, 0, none⟩) ka ca else s.tc j) _ _ _ (fun j hj => ⟨by simp [hj], rfl, rfl, rfl⟩) (by simp [knotCells]))
  have XAv1 := kide (XAv0.out.other (c := pa) (XAv0.out.apart (HGv0.out.kn _ _ HA.out).2 (by decide)) 1 (Value.slice (some ⟨ga, 0, none⟩) ka ca))
  have XBv1 := kide (XBv0.out.other (c := pa) (XBv0.out.apart (HGv0.out.kn _ _ HA.out).2 (by decide)) 1 (Value.slice (some ⟨ga, 0, none⟩) ka ca))
  have KTv1 : Hid (Kt w (v0.setCell ⟨pa, 1, none⟩ (Value.slice (some ⟨ga, 0, none⟩) ka ca))) := KTv0.out.set (HGv0.out.kn _ _ HA.out).2 (.inl rfl) _
  have BBv1 : Hid (Below B w (v0.setCell ⟨pa, 1, none⟩ (Value.slice (some ⟨ga, 0, none⟩) ka ca))) := BBv0.out.setCell (HGv0.out.kn _ _ HA.out).1 _
  have SAv1 := kide (own_set (o := 1) SAv0.out (HGv0.out.kn _ _ HA.out).2 (by decide) (Value.slice (some ⟨ga, 0, none⟩) ka ca))
  have SBv1 := kide (own_set (o := 1) SBv0.out (HGv0.out.kn _ _ HA.out).2 (by decide) (Value.slice (some ⟨ga, 0, none⟩) ka ca))
  generalize v0.setCell ⟨pa, 1, none⟩ (Value.slice (some ⟨ga, 0, none⟩) ka ca) = v1 at *
  clear qb1 f1
  have hs1 : Hid ((fun u => u.cell? ⟨A1, 0, none⟩ = some (Value.pointer (some ⟨pb, 0, none⟩))) v1) := XBv1.out.cell 0
  refine hK _ _ (Sx.behind (by kernel_rfl) hs1.out) ?_
  clear hK K
  try go_simp
  refine wpAnyX_both (T := fun _ => True) (i := 27) (v := Value.pointer (some ⟨pb, 0, none⟩)) rfl (by kernel_rfl) (by kernel_rfl) (by kernel_rfl) (fun _ _ _ h => by first | exact h | exact h.elim | cases h.1) (by decide) (fun _ _ => trivial) (fun _ _ => trivial) (Sx.behind (by kernel_rfl) hs1.out) (Or.inl ⟨by rfl, fun u hu => by go_simp⟩) ?_
  try go_simp
  refine wpAnyX_both (T := fun _ => True) (i := 28) (v := Value.pointer (some ⟨pb, 1, none⟩)) rfl (by kernel_rfl) (by kernel_rfl) (by kernel_rfl) (fun _ _ _ h => by first | exact h | exact h.elim | cases h.1) (by decide) (fun _ _ => trivial) (fun _ _ => trivial) (Sx.behind (by kernel_rfl) hs1.out) (Or.inl ⟨by rfl, fun u hu => by go_simp⟩) ?_
  try go_simp
  refine wpAnyX_ready (rs := [29]) (by kernel_rfl) (by simp) (AllX.cons rfl (fun K hK => ?_) AllX.nil)
  obtain ⟨-, qb2, -, -, -⟩ := HGv1.out.get HB.out
  have f2 := frozen_of_row v1 pb 1 _ _ (HGv1.out.kn _ _ HB.out).2
  go_simp
  have HGv2 := kide (HGv1.out.knot HB.out 1 (Value.slice (some ⟨gb, 0, none⟩) kb cb) (fun j => if j = b then Value.slice (some ⟨gb, 0, none⟩) kb cb else if j = a then Value.slice (some ⟨ga, 0, none⟩) ka ca else s.tc j) _ _ _ (fun j hj => ⟨by simp [hj], rfl, rfl, rfl⟩) (by simp [knotCells]))
  have XAv2 := kide (XAv1.out.other (c := pb) (XAv1.out.apart (HGv1.out.kn _ _ HB.out).2 (by decide)) 1 (Value.slice (some ⟨gb, 0, none⟩) kb cb))
  have XBv2 := kide (XBv1.out.other (c := pb) (XBv1.out.apart (HGv1.out.kn _ _ HB.out).2 (by decide)) 1 (Value.slice (some ⟨gb, 0, none⟩) kb cb))
  have KTv2 : Hid (Kt w (v1.setCell ⟨pb, 1, none⟩ (Value.slice (some ⟨gb, 0, none⟩) kb cb))) := KTv1.out.set (HGv1.out.kn _ _ HB.out).2 (.inl rfl) _
  have BBv2 : Hid (Below B w (v1.setCell ⟨pb, 1, none⟩ (Value.slice (some ⟨gb, 0, none⟩) kb cb))) := BBv1.out.setCell (HGv1.out.kn _ _ HB.out).1 _
  have SAv2 := kide (own_set (o := 1) SAv1.out (HGv1.out.kn _ _ HB.out).2 (by decide) (Value.slice (some ⟨gb, 0, none⟩) kb cb))
  have SBv2 := kide (own_set (o := 1) SBv1.out (HGv1.out.kn _ _ HB.out).2 (by decide) (Value.slice (some ⟨gb, 0, none⟩) kb cb))
  generalize v1.setCell ⟨pb, 1, none⟩ (Value.slice (some ⟨gb, 0, none⟩) kb cb) = v2 at *
  clear qb2 f2
  have hs2 : Hid ((fun u => u.cell? ⟨A1, 0, none⟩ = some (Value.pointer (some ⟨pb, 0, none⟩))) v2) := XBv2.out.cell 0
  refine hK _ _ (Sx.behind (by kernel_rfl) hs2.out) ?_
  clear hK K
  try go_simp
  refine wpAnyX_done (by kernel_rfl) ?_ _
  skip
  go_wp2_with fail
  go_end0
  have oA : ∀ v : Value, v = Value.slice (some ⟨ga, 0, none⟩) ka ca → v.ownBlock = (s.tv a).ownBlock := fun v e => by rw [e, EVA.out]; rfl
  have oB : ∀ v : Value, v = Value.slice (some ⟨gb, 0, none⟩) kb cb → v.ownBlock = (s.tv b).ownBlock := fun v e => by rw [e, EVB.out]; rfl
  have la : (csa.take ka).length = ka := by have := HNA.out; simp; omega
  have lb : (csb.take kb).length = kb := by have := HNB.out; simp; omega
  have hA2 := SAv2.out
  have hB2 := SBv2.out
  have h1 := HGv2.out.tvs (i := a) (cs := csa.take ka) (v := Value.slice (some ⟨ga, 0, none⟩) ka ca) (by rw [la]; exact hA2) (by rw [la]; have := HCA.out; have := HNA.out; omega) (oA _ rfl)
  have h2 := h1.tvs (i := b) (cs := csb.take kb) (v := Value.slice (some ⟨gb, 0, none⟩) kb cb) (by rw [lb]; exact hB2) (by rw [lb]; have := HCB.out; have := HNB.out; omega) (by
    show _ = (if b = a then _ else s.tv b).ownBlock
    rw [if_neg (Ne.symm hab)]
    exact oB _ rfl)
  refine ⟨rfl, _, h2, rfl, rfl, rfl, rfl, rfl, rfl, rfl, fun j => ?_, fun j => ?_, KTv2.out, BBv2.out⟩
  · show (if j = b then _ else if j = a then _ else s.tc j) = (if j = b then _ else if j = a then _ else s.tv j)
    rw [HTC.out j]
  · show lenV (if j = b then _ else if j = a then _ else s.tv j) + _ = _
    by_cases e1 : j = b
    · have e2 : ¬ j = a := fun e => hab (by rw [← e, ← e1])
      rw [if_pos e1, if_pos e1, if_neg e2, e1, HKB.out]
      have := HNBE.out
      simp [lenV]; omega
    · rw [if_neg e1, if_neg e1]
      by_cases e2 : j = a
      · rw [if_pos e2, if_pos e2, e2, HKA.out]
        have := HNAE.out
        simp [lenV]; omega
      · rw [if_neg e2, if_neg e2]; rfl

end Go.Proofs.Ytelndjdbfapahaa
