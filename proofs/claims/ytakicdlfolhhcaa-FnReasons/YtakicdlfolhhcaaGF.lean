/- Two knots joined. -/
import Derived.Test.YtakicdlfolhhcaaGE
import Derived.LaidEqlPtr
import Derived.Deep.AppendLies
import Derived.Laws.EntriesVeiled
namespace Go.Proofs.Ytakicdlfolhhcaa
set_option linter.unusedVariables false
set_option linter.unusedSimpArgs false
open Go.RowKit

theorem region_cut {P : Program} {id : Nat} {ops : Array Oper} {b : Bool} {Q : Exit → Act → World → Prop} {a : Act} {w : World} (R : Act → World → Prop) (h1 : (Code.region id ops b).wp P (fun e a w => e = .normal ∧ R a w) a w) (h2 : ∀ a w, R a w → Q .normal a w) : (Code.region id ops b).wp P Q a w :=
  Code.wp_mono (fun e a w ⟨he, hr⟩ => by subst he; exact h2 a w hr) h1

/-- A block as it stands. -/
def Bx (u : World) (b : Nat) (cs : Array Value) (t : TypeId) : Prop := u.heap[b]? = some (.cells cs t (0, 0))
theorem Bx.lt {u : World} {b : Nat} {cs : Array Value} {t : TypeId} (h : Bx u b cs t) : b < u.heap.size := lt_of_block h
theorem Bx.new (u : World) (cs : Array Value) (t : TypeId) : Bx (u.alloc (.cells cs t)) u.heap.size cs t := heap_alloc_new _ _
theorem Bx.alloc {u : World} {b : Nat} {cs : Array Value} {t : TypeId} (h : Bx u b cs t) (o : Obj) : Bx (u.alloc o) b cs t := by
  have : Below u.heap.size u (u.alloc o) := (Below.refl _ _).alloc (Nat.le_refl _) _
  unfold Bx
  rw [this.block _ h.lt]; exact h
theorem Bx.set {u : World} {b : Nat} {cs : Array Value} {t : TypeId} (h : Bx u b cs t) (o : Nat) (x : Value) : Bx (u.setCell ⟨b, o, none⟩ x) b (cs.setIfInBounds o x) t := heap_setCell_same u b o _ _ x h
theorem Bx.other {u : World} {b c : Nat} {cs : Array Value} {t : TypeId} (h : Bx u b cs t) (hn : b ≠ c) (o : Nat) (x : Value) : Bx (u.setCell ⟨c, o, none⟩ x) b cs t := by
  unfold Bx
  rw [heap_setCell_other _ _ _ _ hn]; exact h
theorem Bx.cell {u : World} {b : Nat} {cs : Array Value} {t : TypeId} (h : Bx u b cs t) (o : Nat) : u.cell? ⟨b, o, none⟩ = cs[o]? := cell_of h
theorem Bx.froz {u : World} {b : Nat} {cs : Array Value} {t : TypeId} (h : Bx u b cs t) (o : Nat) : u.frozen? ⟨b, o, none⟩ = false := frozen_of_row u b o _ _ h
theorem Bx.later {u u' : World} {b : Nat} {cs : Array Value} {t : TypeId} (h : Bx u b cs t) (hb : Below u.heap.size u u') : Bx u' b cs t := by
  unfold Bx
  rw [hb.block _ h.lt]; exact h

theorem Bx.apart {u : World} {b c : Nat} {cs cs' : Array Value} {t t' : TypeId} (h : Bx u b cs t) (h' : u.heap[c]? = some (.cells cs' t' (0, 0))) (hn : t ≠ t') : b ≠ c := by
  rintro rfl
  unfold Bx at h
  rw [h'] at h
  cases h
  exact hn rfl

theorem Bx.grown {u u' : World} {b B n : Nat} {cs : Array Value} {t e : TypeId} {v : Value} {xs : List Value} (h : Bx u b cs t) (hn : t ≠ e) (ho : u.ownsRow B e 1 v n xs) (hg : u.grownBy u' v.ownBlock) : Bx u' b cs t := by
  unfold Bx
  rw [hg.block b h.lt (own_typed ho h hn)]
  exact h

theorem Bx.far {u u' : World} {b : Nat} {cs : Array Value} {t : TypeId} {v : Value} (h : Bx u b cs t) (hn : ∀ k, v.ownBlock = some k → k < b) (hg : u.grownBy u' v.ownBlock) : Bx u' b cs t := by
  unfold Bx
  rw [hg.block b h.lt (fun e => by have := hn b e.symm; omega)]
  exact h

theorem step_appT (w : World) {ops : Array Oper} {o : Oper} {a : Act} {K : Act → World → Prop} {Q : Exit → Act → World → Prop} {E : Prop} (hgd : o.guard = none) (s x : Operand)
    (ho : o.op = .call { callee := .builtin .append, args := #[s, x], argTypes := #[69, 69] })
    (base : Nat) (v : Value) (cs : List Value) (y : Addr) (hs : a.eval s = v) (hown : w.ownsRow base 85 1 v cs.length cs) (b c : Nat) (hx : a.eval x = .slice (some ⟨b, 0, none⟩) 1 c)
    (h0 : w.cell? ⟨b, 0, none⟩ = some (.pointer (some y))) (hl : cs.length ≤ 1073741824) (hbase : base ≤ w.heap.size)
    (h : ∀ g cap w', w'.ownsRow base 85 1 (.slice (some ⟨g, 0, none⟩) (cs.length + 1) cap) (cs ++ [Value.pointer (some y)]).length (cs ++ [Value.pointer (some y)]) → w.grownBy w' v.ownBlock → ((Value.slice (some ⟨g, 0, none⟩) (cs.length + 1) cap).ownBlock = v.ownBlock ∨ (Value.slice (some ⟨g, 0, none⟩) (cs.length + 1) cap).ownBlock = some w.heap.size) → K (a.put o.dst (.slice (some ⟨g, 0, none⟩) (cs.length + 1) cap)) w') :
    if Region.wanted o (yielded ops a.tmps) = true then Oper.wp Try.prog o a w K Q else E := by
  obtain ⟨i0, hi, hz0, hz1, hz2⟩ := info_parts Try.infoPT
  refine step_append_lies w hgd s x 69 ho base 85 i0 _ 1 8 Try.underlying69 hi hz0 hz1 hz2 rfl (by decide) v cs.length cs hs hown ⟨b, 0, none⟩ 1 c [.pointer (some y)] hx rfl ?_ ?_ (by decide) ?_ ?_ hbase _ rfl ?_
  · intro j u hj
    rw [Addr.add_lit]
    match j, hj with
    | 0, hj => simp at hj; subst hj; exact h0
    | j + 1, hj => simp at hj
  · intro u hu
    simp at hu
    subst hu
    rfl
  · unfold maxLen; omega
  · omega
  · intro g cap w' h1 h2 h3 _
    refine h g cap w' ?_ h2 ?_
    · simpa using h1
    · rcases h3 with h3 | h3
      · exact .inl h3.symm
      · exact .inr (by rw [h3]; rfl)

theorem Try.infoK : (Try.prog.info? 72).map (fun i => i.size) = some 5 := by kernel_rfl

theorem Gv.ptr_ne {w : World} {B G M i j p q : Nat} {s : Gs} (h : Gv w B G M s) (hi : s.ps[i]? = some p) (hj : s.ps[j]? = some q) (hne : p ≠ q) : (binOp .eql 70 (.pointer (some ⟨p, 0, none⟩)) (.pointer (some ⟨q, 0, none⟩))).run Try.prog w = .ok (.bool false) w := by
  cases hk : Try.prog.info? 72 with
  | none => have := Try.infoK; rw [hk] at this; cases this
  | some k =>
    have hs := Try.infoK
    rw [hk] at hs
    simp at hs
    exact run_eql_ptr_other (P := Try.prog) w Try.underlying70 hk (by omega) (fun e => hne (by injection e)) (h.kn i p hi).2 (h.kn j q hj).2

theorem Gv.ptr_same {w : World} {B G M i p : Nat} {s : Gs} (h : Gv w B G M s) (hi : s.ps[i]? = some p) : (binOp .eql 70 (.pointer (some ⟨p, 0, none⟩)) (.pointer (some ⟨p, 0, none⟩))).run Try.prog w = .ok (.bool true) w := by
  cases hk : Try.prog.info? 72 with
  | none => have := Try.infoK; rw [hk] at this; cases this
  | some k => exact run_eql_ptr_same (P := Try.prog) w ⟨p, 0, none⟩ Try.underlying70 hk

structure Nl (s : Gs) : Prop where
  k : s.kc = s.kv
  i : s.ic = s.iv
  t : ∀ j, s.tc j = s.tv j
  n : s.ts.length = s.ls.length

/-- The tie at t, and what its undo has caught. -/
def Clo (w : World) (ps : List Nat) (t : Nat) (l : Lk) : Prop := ∃ (ro ru po pu pa pb o9 o10 o11 o12 A0 A1 : Nat) (sz le : Int),
  ps[ro]? = some po ∧ ps[ru]? = some pu ∧ ps[l.1.toNat]? = some pa ∧ ps[l.2.1.toNat]? = some pb ∧
  Bx w t #[.pointer (some ⟨pa, 0, none⟩), .pointer (some ⟨pb, 0, none⟩), .int .i64 l.2.2, Value.func (Fn.func 66) #[] #[Value.pointer (some ⟨o11, 0, none⟩), Value.pointer (some ⟨o12, 0, none⟩), Value.pointer (some ⟨o10, 0, none⟩), Value.pointer (some ⟨o9, 0, none⟩), Value.pointer (some ⟨A0, 0, none⟩), Value.pointer (some ⟨A1, 0, none⟩)]] 97 ∧
  Bx w o9 #[Value.pointer (some ⟨po, 0, none⟩)] 70 ∧ Bx w o10 #[Value.pointer (some ⟨pu, 0, none⟩)] 70 ∧ Bx w o11 #[Value.int .i64 sz] 3 ∧ Bx w o12 #[Value.int .i64 le] 2 ∧ Bx w A0 #[Value.pointer (some ⟨pa, 0, none⟩)] 70 ∧ Bx w A1 #[Value.pointer (some ⟨pb, 0, none⟩)] 70

theorem Clo.kept {w u : World} {ps : List Nat} {t : Nat} {l : Lk} (h : Clo w ps t l) (hk : Kt w u) : Clo u ps t l := by
  obtain ⟨ro, ru, po, pu, pa, pb, o9, o10, o11, o12, A0, A1, sz, le, h1, h2, h3, h4, b1, b2, b3, b4, b5, b6, b7⟩ := h
  exact ⟨ro, ru, po, pu, pa, pb, o9, o10, o11, o12, A0, A1, sz, le, h1, h2, h3, h4, hk _ _ _ b1 (by decide) (by decide) (by decide), hk _ _ _ b2 (by decide) (by decide) (by decide), hk _ _ _ b3 (by decide) (by decide) (by decide), hk _ _ _ b4 (by decide) (by decide) (by decide), hk _ _ _ b5 (by decide) (by decide) (by decide), hk _ _ _ b6 (by decide) (by decide) (by decide), hk _ _ _ b7 (by decide) (by decide) (by decide)⟩

/-- What more a join does. -/
def Jx (w w' : World) (s s' : Gs) (a b : Nat) (y : Int) : Prop := Kt w w' ∧ ∃ t, s'.ts = s.ts ++ [t] ∧ (s'.tl = fun j => if j = b then s.tl b ++ [t] else if j = a then s.tl a ++ [t] else s.tl j) ∧ Clo w' s.ps t ((a : Int), (b : Int), y)

set_option maxHeartbeats 4000000 in
set_option maxRecDepth 100000 in
theorem join_any {w : World} {B G M : Nat} {s : Gs} (h : Gv w B G M s) (hN : Nl s) (hBw : B ≤ w.heap.size) {L : Nat → Nat} {rt dp : Nat → Nat} (hu : Uf s.ps.length L s.up s.le rt dp) (a b pa pb : Nat) (ha : s.ps[a]? = some pa) (hb : s.ps[b]? = some pb) (y : Int) (hM : M ≤ 1048576) (hts : s.ts.length ≤ 1048576) (lb : Nat) (lc : Array Value) (tg : TypeId) (hXL : Bx w lb lc tg) (htk : tg ≠ 72) (htt : tg ≠ 85) (htg : tg ≠ 77) :
    Calls Try.prog 50 #[pt G, pt pa, pt pb, .int .i64 y] w fun e w' => (rt a = rt b ∧ e = .returned (.bool false) ∧ Gv w' B G M s ∧ Below B w w' ∧ Bx w' lb lc tg) ∨ (rt a ≠ rt b ∧ e = .returned (.bool true) ∧ ∃ s' rt' dp', Gv w' B G (M + 1) s' ∧ Nl s' ∧ Uf s.ps.length (mrg L a b) s'.up s'.le rt' dp' ∧ s'.ps = s.ps ∧ s'.ls = s.ls ++ [((a : Int), (b : Int), y)] ∧ Below B w w' ∧ Bx w' lb lc tg ∧ s'.kc = s.kc ∧ Jx w w' s s' a b y) := by
  have hal : a < s.ps.length := (List.getElem?_eq_some_iff.1 ha).1
  have hbl : b < s.ps.length := (List.getElem?_eq_some_iff.1 hb).1
  obtain ⟨pra, hpra⟩ : ∃ p, s.ps[rt a]? = some p := ⟨_, List.getElem?_eq_getElem (hu.rlt a hal).1⟩
  obtain ⟨prb, hprb⟩ : ∃ p, s.ps[rt b]? = some p := ⟨_, List.getElem?_eq_getElem (hu.rlt b hbl).1⟩
  have epa : s.ps.getD (rt a) 0 = pra := by rw [List.getD, hpra]; rfl
  have epb : s.ps.getD (rt b) 0 = prb := by rw [List.getD, hprb]; rfl
  have HDA : Hid (∀ u, Gv u B G M s → Calls Try.prog 47 #[.pointer (some ⟨pa, 0, none⟩)] u fun e w' => e = .returned (.pointer (some ⟨pra, 0, none⟩)) ∧ w' = u) := fun u hg => by
    have := head_any hg hu a pa ha
    rwa [epa] at this
  have HDB : Hid (∀ u, Gv u B G M s → Calls Try.prog 47 #[.pointer (some ⟨pb, 0, none⟩)] u fun e w' => e = .returned (.pointer (some ⟨prb, 0, none⟩)) ∧ w' = u) := fun u hg => by
    have := head_any hg hu b pb hb
    rwa [epb] at this
  have HU := kide hu
  have HA := kide ha
  have HB := kide hb
  have HRA := kide hpra
  have HRB := kide hprb
  have HNL := kide hN
  have hG0 := kide h
  have hb2 : Below w.heap.size w ((w.alloc (Obj.cells #[Value.pointer (some ⟨pa, 0, none⟩)] 70)).alloc (Obj.cells #[Value.pointer (some ⟨pb, 0, none⟩)] 70)) := ((Below.refl _ _).alloc (Nat.le_refl _) _).alloc (by simp) _
  have c0 : ((w.alloc (Obj.cells #[Value.pointer (some ⟨pa, 0, none⟩)] 70)).alloc (Obj.cells #[Value.pointer (some ⟨pb, 0, none⟩)] 70)).heap[w.heap.size]? = some (Obj.cells #[Value.pointer (some ⟨pa, 0, none⟩)] 70) := by
    have h1 : Below (w.heap.size + 1) (w.alloc (Obj.cells #[Value.pointer (some ⟨pa, 0, none⟩)] 70)) ((w.alloc (Obj.cells #[Value.pointer (some ⟨pa, 0, none⟩)] 70)).alloc (Obj.cells #[Value.pointer (some ⟨pb, 0, none⟩)] 70)) := (Below.refl _ _).alloc (by simp) _
    rw [h1.block _ (by omega)]
    exact heap_alloc_new _ _
  have c1 : ((w.alloc (Obj.cells #[Value.pointer (some ⟨pa, 0, none⟩)] 70)).alloc (Obj.cells #[Value.pointer (some ⟨pb, 0, none⟩)] 70)).heap[w.heap.size + 1]? = some (Obj.cells #[Value.pointer (some ⟨pb, 0, none⟩)] 70) := by
    have := heap_alloc_new (w.alloc (Obj.cells #[Value.pointer (some ⟨pa, 0, none⟩)] 70)) (Obj.cells #[Value.pointer (some ⟨pb, 0, none⟩)] 70)
    simpa using this
  have hsz2 : ((w.alloc (Obj.cells #[Value.pointer (some ⟨pa, 0, none⟩)] 70)).alloc (Obj.cells #[Value.pointer (some ⟨pb, 0, none⟩)] 70)).heap.size = w.heap.size + 2 := by simp
  have HG2 := kide (h.later hb2)
  have HB2 := kide hb2
  have XL2 := kide (hXL.later hb2)
  clear h hN hu ha hb hpra hprb epa epb hb2 hXL
  unfold pt
  go_enter Try.func50, Try.ntmps50
  go_wp2_with fail
  obtain ⟨A0, hA0⟩ : ∃ A0, w.heap.size = A0 := ⟨_, rfl⟩
  obtain ⟨A1, hA1⟩ : ∃ A1, A0 + 1 = A1 := ⟨_, rfl⟩
  rw [hA0] at c0 c1 hsz2 ⊢
  rw [hA1] at c1 ⊢
  have HA0 := kide hA0
  have HA1 := kide hA1
  generalize (w.alloc (Obj.cells #[Value.pointer (some ⟨pa, 0, none⟩)] 70)).alloc (Obj.cells #[Value.pointer (some ⟨pb, 0, none⟩)] 70) = w2 at *
  clear hA0
  have g0 : w2.cell? ⟨A0, 0, none⟩ = some (Value.pointer (some ⟨pa, 0, none⟩)) := by rw [cell_of c0]; rfl
  have g1 : w2.cell? ⟨A1, 0, none⟩ = some (Value.pointer (some ⟨pb, 0, none⟩)) := by rw [cell_of c1]; rfl
  have C0 := kide c0
  have C1 := kide c1
  have hlt0 : A0 < w2.heap.size := by omega
  have hlt1 : A1 < w2.heap.size := by omega
  have HSZ := kide hsz2
  clear c0 c1 hsz2
  refine region_cut (fun a' w' => ∃ o9 o10, a' = ({ tmps := #[Value.pointer (some ⟨G, 0, none⟩), Value.pointer (some ⟨pa, 0, none⟩), Value.pointer (some ⟨pb, 0, none⟩), Value.int .i64 y, undef, Value.pointer (some ⟨A0, 0, none⟩), Value.pointer (some ⟨A1, 0, none⟩), undef, Value.bool false, Value.pointer (some ⟨o9, 0, none⟩), Value.pointer (some ⟨o10, 0, none⟩), undef, undef, undef, Value.pointer (some ⟨pa, 0, none⟩), Value.pointer (some ⟨pra, 0, none⟩), Value.pointer (some ⟨pb, 0, none⟩), Value.pointer (some ⟨prb, 0, none⟩), undef, undef, undef, undef, undef, undef, undef, undef, undef, undef, undef, undef, undef, undef, undef, undef, undef, undef, undef, undef, undef, undef, undef, undef, undef, undef, undef, undef, undef, undef, undef, undef, undef, undef, undef, undef, undef, undef, undef, undef, undef, undef, undef, undef, undef, undef, undef, undef, undef, undef, undef, undef, undef, undef, undef, undef, undef, undef, undef, undef, undef, undef, undef, undef, undef, undef, undef, undef, undef, undef, undef, undef, undef, undef, undef, undef, undef, undef], defers := [] } : Act) ∧ o9 ≠ o10 ∧ w2.heap.size ≤ o9 ∧ w2.heap.size ≤ o10 ∧ Bx w' o9 #[Value.pointer (some ⟨pra, 0, none⟩)] 70 ∧ Bx w' o10 #[Value.pointer (some ⟨prb, 0, none⟩)] 70 ∧ Below w2.heap.size w2 w') ?_ ?_
  · refine wp_region_x (SA := fun _ => False) (SB := fun u => Below w2.heap.size w2 u) (k := 999) (by kernel_rfl) ?_
    have hu0 : Hid (Below w2.heap.size w2 w2.drew) := (Below.refl _ _).drew
    generalize w2.drew = u0 at *
    try go_simp
    refine wpAnyX_both (T := fun u => Below w2.heap.size w2 u) (i := 0) (v := Value.pointer (some ⟨pa, 0, none⟩)) rfl (by kernel_rfl) (by kernel_rfl) (by kernel_rfl) (fun _ _ _ h => by first | exact h | exact h.elim | cases h.1) (by decide) (fun _ h => h.elim) (fun _ h => h) (Sx.behind (by kernel_rfl) hu0.out) (Or.inl ⟨by rfl, fun u hu => by have e1 := (kcell hu A0 0 hlt0).trans g0; go_simp⟩) ?_
    try go_simp
    refine wpAnyX_both (T := fun u => Below w2.heap.size w2 u) (i := 2) (v := Value.pointer (some ⟨pb, 0, none⟩)) rfl (by kernel_rfl) (by kernel_rfl) (by kernel_rfl) (fun _ _ _ h => by first | exact h | exact h.elim | cases h.1) (by decide) (fun _ h => h.elim) (fun _ h => h) (Sx.behind (by kernel_rfl) hu0.out) (Or.inl ⟨by rfl, fun u hu => by have e1 := (kcell hu A1 0 hlt1).trans g1; go_simp⟩) ?_
    try go_simp
    refine wpAnyX_ready (rs := [1, 4, 5]) (by kernel_rfl) (by simp) (AllX.cons rfl (fun K hK => ?_) (AllX.cons rfl (fun K hK => ?_) (AllX.cons rfl (fun K hK => ?_) AllX.nil)))
    · go_simp
      refine Calls.mono (HDA.out _ (HG2.out.later hu0.out)) ?_
      rintro e w3 ⟨rfl, hw3⟩
      obtain rfl := hw3.symm
      refine hK _ _ (Sx.behind (by kernel_rfl) hu0.out) ?_
      clear hK K
      try go_simp
      refine wpAnyX_ready (rs := [3, 4, 5]) (by kernel_rfl) (by simp) (AllX.cons rfl (fun K hK => ?_) (AllX.cons rfl (fun K hK => ?_) (AllX.cons rfl (fun K hK => ?_) AllX.nil)))
      · go_simp
        refine Calls.mono (HDB.out _ (HG2.out.later hu0.out)) ?_
        rintro e w3 ⟨rfl, hw3⟩
        obtain rfl := hw3.symm
        refine hK _ _ (Sx.behind (by kernel_rfl) hu0.out) ?_
        clear hK K
        try go_simp
        refine wpAnyX_ready (rs := [4, 5]) (by kernel_rfl) (by simp) (AllX.cons rfl (fun K hK => ?_) (AllX.cons rfl (fun K hK => ?_) AllX.nil))
        · go_simp
          refine hK _ _ (Sx.behind (by kernel_rfl) (hu0.out.alloc hu0.out.size _)) ?_
          clear hK K
          obtain ⟨u1, he1⟩ : ∃ v, u0.alloc (Obj.cells #[Value.pointer none] 70) = v := ⟨_, rfl⟩
          rw [he1]
          have hu1 : Hid (Below w2.heap.size w2 u1) := by show Below _ _ _; rw [← he1]; exact hu0.out.alloc hu0.out.size _
          have ho9_1 : Hid (Bx u1 u0.heap.size #[Value.pointer none] 70) := by show Bx _ _ _ _; rw [← he1]; exact Bx.new _ _ _
          clear he1
          have h9 : Hid (w2.heap.size ≤ u0.heap.size) := by have q := hu0.out.size; exact q
          refine wpAnyX_ready (rs := [5]) (by kernel_rfl) (by simp) (AllX.cons rfl (fun K hK => ?_) AllX.nil)
          go_simp
          refine hK _ _ (Sx.behind (by kernel_rfl) (hu1.out.alloc hu1.out.size _)) ?_
          clear hK K
          obtain ⟨u2, he2⟩ : ∃ v, u1.alloc (Obj.cells #[Value.pointer none] 70) = v := ⟨_, rfl⟩
          rw [he2]
          have hu2 : Hid (Below w2.heap.size w2 u2) := by show Below _ _ _; rw [← he2]; exact hu1.out.alloc hu1.out.size _
          have ho10_2 : Hid (Bx u2 u1.heap.size #[Value.pointer none] 70) := by show Bx _ _ _ _; rw [← he2]; exact Bx.new _ _ _
          have ho9_2 : Hid (Bx u2 u0.heap.size #[Value.pointer none] 70) := by show Bx _ _ _ _; rw [← he2]; exact ho9_1.out.alloc _
          clear he2
          have h10 : Hid (w2.heap.size ≤ u1.heap.size ∧ u0.heap.size < u1.heap.size) := by have q := hu1.out.size; have q2 := ho9_1.out.lt; exact ⟨q, q2⟩
          refine wpAnyX_ready (rs := [6]) (by kernel_rfl) (by simp) (AllX.cons rfl (fun K hK => ?_) AllX.nil)
          have e3 := ho9_2.out.cell 0
          have f3 := ho9_2.out.froz 0
          simp at e3
          go_simp
          refine hK _ _ (Sx.behind (by kernel_rfl) (hu2.out.setCell (show _ ≤ u0.heap.size by have := h9.out; omega) _)) ?_
          clear hK K
          obtain ⟨u3, he3⟩ : ∃ v, u2.setCell ⟨u0.heap.size, 0, none⟩ (Value.pointer (some ⟨pra, 0, none⟩)) = v := ⟨_, rfl⟩
          rw [he3]
          have hu3 : Hid (Below w2.heap.size w2 u3) := by show Below _ _ _; rw [← he3]; exact hu2.out.setCell (show _ ≤ u0.heap.size by have := h9.out; omega) _
          have ho9_3 : Hid (Bx u3 u0.heap.size #[Value.pointer (some ⟨pra, 0, none⟩)] 70) := by show Bx _ _ _ _; rw [← he3]; exact ho9_2.out.set 0 _
          have ho10_3 : Hid (Bx u3 u1.heap.size #[Value.pointer none] 70) := by show Bx _ _ _ _; rw [← he3]; exact ho10_2.out.other (by have := h9.out; have := h10.out; omega) 0 _
          clear he3 e3 f3
          refine wpAnyX_ready (rs := [7]) (by kernel_rfl) (by simp) (AllX.cons rfl (fun K hK => ?_) AllX.nil)
          have e4 := ho10_3.out.cell 0
          have f4 := ho10_3.out.froz 0
          simp at e4
          go_simp
          refine hK _ _ (Sx.behind (by kernel_rfl) (hu3.out.setCell (show _ ≤ u1.heap.size by have := h10.out; omega) _)) ?_
          clear hK K
          obtain ⟨u4, he4⟩ : ∃ v, u3.setCell ⟨u1.heap.size, 0, none⟩ (Value.pointer (some ⟨prb, 0, none⟩)) = v := ⟨_, rfl⟩
          rw [he4]
          have hu4 : Hid (Below w2.heap.size w2 u4) := by show Below _ _ _; rw [← he4]; exact hu3.out.setCell (show _ ≤ u1.heap.size by have := h10.out; omega) _
          have ho10_4 : Hid (Bx u4 u1.heap.size #[Value.pointer (some ⟨prb, 0, none⟩)] 70) := by show Bx _ _ _ _; rw [← he4]; exact ho10_3.out.set 0 _
          have ho9_4 : Hid (Bx u4 u0.heap.size #[Value.pointer (some ⟨pra, 0, none⟩)] 70) := by show Bx _ _ _ _; rw [← he4]; exact ho9_3.out.other (by have := h9.out; have := h10.out; omega) 0 _
          clear he4 e4 f4
          refine wpAnyX_done (by kernel_rfl) ?_ _
          exact ⟨rfl, u0.heap.size, u1.heap.size, rfl, by have := h9.out; have := h10.out; omega, by have := h9.out; omega, by have := h10.out; omega, ho9_4.out, ho10_4.out, hu4.out⟩
        · go_simp
          refine hK _ _ (Sx.behind (by kernel_rfl) (hu0.out.alloc hu0.out.size _)) ?_
          clear hK K
          obtain ⟨u1, he1⟩ : ∃ v, u0.alloc (Obj.cells #[Value.pointer none] 70) = v := ⟨_, rfl⟩
          rw [he1]
          have hu1 : Hid (Below w2.heap.size w2 u1) := by show Below _ _ _; rw [← he1]; exact hu0.out.alloc hu0.out.size _
          have ho10_1 : Hid (Bx u1 u0.heap.size #[Value.pointer none] 70) := by show Bx _ _ _ _; rw [← he1]; exact Bx.new _ _ _
          clear he1
          have h10 : Hid (w2.heap.size ≤ u0.heap.size) := by have q := hu0.out.size; exact q
          refine wpAnyX_ready (rs := [4]) (by kernel_rfl) (by simp) (AllX.cons rfl (fun K hK => ?_) AllX.nil)
          go_simp
          refine hK _ _ (Sx.behind (by kernel_rfl) (hu1.out.alloc hu1.out.size _)) ?_
          clear hK K
          obtain ⟨u2, he2⟩ : ∃ v, u1.alloc (Obj.cells #[Value.pointer none] 70) = v := ⟨_, rfl⟩
          rw [he2]
          have hu2 : Hid (Below w2.heap.size w2 u2) := by show Below _ _ _; rw [← he2]; exact hu1.out.alloc hu1.out.size _
          have ho9_2 : Hid (Bx u2 u1.heap.size #[Value.pointer none] 70) := by show Bx _ _ _ _; rw [← he2]; exact Bx.new _ _ _
          have ho10_2 : Hid (Bx u2 u0.heap.size #[Value.pointer none] 70) := by show Bx _ _ _ _; rw [← he2]; exact ho10_1.out.alloc _
          clear he2
          have h9 : Hid (w2.heap.size ≤ u1.heap.size ∧ u0.heap.size < u1.heap.size) := by have q := hu1.out.size; have q2 := ho10_1.out.lt; exact ⟨q, q2⟩
          refine wpAnyX_ready (rs := [6]) (by kernel_rfl) (by simp) (AllX.cons rfl (fun K hK => ?_) AllX.nil)
          have e3 := ho9_2.out.cell 0
          have f3 := ho9_2.out.froz 0
          simp at e3
          go_simp
          refine hK _ _ (Sx.behind (by kernel_rfl) (hu2.out.setCell (show _ ≤ u1.heap.size by have := h9.out; omega) _)) ?_
          clear hK K
          obtain ⟨u3, he3⟩ : ∃ v, u2.setCell ⟨u1.heap.size, 0, none⟩ (Value.pointer (some ⟨pra, 0, none⟩)) = v := ⟨_, rfl⟩
          rw [he3]
          have hu3 : Hid (Below w2.heap.size w2 u3) := by show Below _ _ _; rw [← he3]; exact hu2.out.setCell (show _ ≤ u1.heap.size by have := h9.out; omega) _
          have ho9_3 : Hid (Bx u3 u1.heap.size #[Value.pointer (some ⟨pra, 0, none⟩)] 70) := by show Bx _ _ _ _; rw [← he3]; exact ho9_2.out.set 0 _
          have ho10_3 : Hid (Bx u3 u0.heap.size #[Value.pointer none] 70) := by show Bx _ _ _ _; rw [← he3]; exact ho10_2.out.other (by have := h9.out; have := h10.out; omega) 0 _
          clear he3 e3 f3
          refine wpAnyX_ready (rs := [7]) (by kernel_rfl) (by simp) (AllX.cons rfl (fun K hK => ?_) AllX.nil)
          have e4 := ho10_3.out.cell 0
          have f4 := ho10_3.out.froz 0
          simp at e4
          go_simp
          refine hK _ _ (Sx.behind (by kernel_rfl) (hu3.out.setCell (show _ ≤ u0.heap.size by have := h10.out; omega) _)) ?_
          clear hK K
          obtain ⟨u4, he4⟩ : ∃ v, u3.setCell ⟨u0.heap.size, 0, none⟩ (Value.pointer (some ⟨prb, 0, none⟩)) = v := ⟨_, rfl⟩
          rw [he4]
          have hu4 : Hid (Below w2.heap.size w2 u4) := by show Below _ _ _; rw [← he4]; exact hu3.out.setCell (show _ ≤ u0.heap.size by have := h10.out; omega) _
          have ho10_4 : Hid (Bx u4 u0.heap.size #[Value.pointer (some ⟨prb, 0, none⟩)] 70) := by show Bx _ _ _ _; rw [← he4]; exact ho10_3.out.set 0 _
          have ho9_4 : Hid (Bx u4 u1.heap.size #[Value.pointer (some ⟨pra, 0, none⟩)] 70) := by show Bx _ _ _ _; rw [← he4]; exact ho9_3.out.other (by have := h9.out; have := h10.out; omega) 0 _
          clear he4 e4 f4
          refine wpAnyX_done (by kernel_rfl) ?_ _
          exact ⟨rfl, u1.heap.size, u0.heap.size, rfl, by have := h9.out; have := h10.out; omega, by have := h9.out; omega, by have := h10.out; omega, ho9_4.out, ho10_4.out, hu4.out⟩
      · go_simp
        refine hK _ _ (Sx.behind (by kernel_rfl) (hu0.out.alloc hu0.out.size _)) ?_
        clear hK K
        obtain ⟨u1, he1⟩ : ∃ v, u0.alloc (Obj.cells #[Value.pointer none] 70) = v := ⟨_, rfl⟩
        rw [he1]
        have hu1 : Hid (Below w2.heap.size w2 u1) := by show Below _ _ _; rw [← he1]; exact hu0.out.alloc hu0.out.size _
        have ho9_1 : Hid (Bx u1 u0.heap.size #[Value.pointer none] 70) := by show Bx _ _ _ _; rw [← he1]; exact Bx.new _ _ _
        clear he1
        have h9 : Hid (w2.heap.size ≤ u0.heap.size) := by have q := hu0.out.size; exact q
        refine wpAnyX_ready (rs := [3, 5]) (by kernel_rfl) (by simp) (AllX.cons rfl (fun K hK => ?_) (AllX.cons rfl (fun K hK => ?_) AllX.nil))
        · go_simp
          refine Calls.mono (HDB.out _ (HG2.out.later hu1.out)) ?_
          rintro e w3 ⟨rfl, hw3⟩
          obtain rfl := hw3.symm
          refine hK _ _ (Sx.behind (by kernel_rfl) hu1.out) ?_
          clear hK K
          try go_simp
          refine wpAnyX_ready (rs := [5]) (by kernel_rfl) (by simp) (AllX.cons rfl (fun K hK => ?_) AllX.nil)
          go_simp
          refine hK _ _ (Sx.behind (by kernel_rfl) (hu1.out.alloc hu1.out.size _)) ?_
          clear hK K
          obtain ⟨u2, he2⟩ : ∃ v, u1.alloc (Obj.cells #[Value.pointer none] 70) = v := ⟨_, rfl⟩
          rw [he2]
          have hu2 : Hid (Below w2.heap.size w2 u2) := by show Below _ _ _; rw [← he2]; exact hu1.out.alloc hu1.out.size _
          have ho10_2 : Hid (Bx u2 u1.heap.size #[Value.pointer none] 70) := by show Bx _ _ _ _; rw [← he2]; exact Bx.new _ _ _
          have ho9_2 : Hid (Bx u2 u0.heap.size #[Value.pointer none] 70) := by show Bx _ _ _ _; rw [← he2]; exact ho9_1.out.alloc _
          clear he2
          have h10 : Hid (w2.heap.size ≤ u1.heap.size ∧ u0.heap.size < u1.heap.size) := by have q := hu1.out.size; have q2 := ho9_1.out.lt; exact ⟨q, q2⟩
          refine wpAnyX_ready (rs := [6]) (by kernel_rfl) (by simp) (AllX.cons rfl (fun K hK => ?_) AllX.nil)
          have e3 := ho9_2.out.cell 0
          have f3 := ho9_2.out.froz 0
          simp at e3
          go_simp
          refine hK _ _ (Sx.behind (by kernel_rfl) (hu2.out.setCell (show _ ≤ u0.heap.size by have := h9.out; omega) _)) ?_
          clear hK K
          obtain ⟨u3, he3⟩ : ∃ v, u2.setCell ⟨u0.heap.size, 0, none⟩ (Value.pointer (some ⟨pra, 0, none⟩)) = v := ⟨_, rfl⟩
          rw [he3]
          have hu3 : Hid (Below w2.heap.size w2 u3) := by show Below _ _ _; rw [← he3]; exact hu2.out.setCell (show _ ≤ u0.heap.size by have := h9.out; omega) _
          have ho9_3 : Hid (Bx u3 u0.heap.size #[Value.pointer (some ⟨pra, 0, none⟩)] 70) := by show Bx _ _ _ _; rw [← he3]; exact ho9_2.out.set 0 _
          have ho10_3 : Hid (Bx u3 u1.heap.size #[Value.pointer none] 70) := by show Bx _ _ _ _; rw [← he3]; exact ho10_2.out.other (by have := h9.out; have := h10.out; omega) 0 _
          clear he3 e3 f3
          refine wpAnyX_ready (rs := [7]) (by kernel_rfl) (by simp) (AllX.cons rfl (fun K hK => ?_) AllX.nil)
          have e4 := ho10_3.out.cell 0
          have f4 := ho10_3.out.froz 0
          simp at e4
          go_simp
          refine hK _ _ (Sx.behind (by kernel_rfl) (hu3.out.setCell (show _ ≤ u1.heap.size by have := h10.out; omega) _)) ?_
          clear hK K
          obtain ⟨u4, he4⟩ : ∃ v, u3.setCell ⟨u1.heap.size, 0, none⟩ (Value.pointer (some ⟨prb, 0, none⟩)) = v := ⟨_, rfl⟩
          rw [he4]
          have hu4 : Hid (Below w2.heap.size w2 u4) := by show Below _ _ _; rw [← he4]; exact hu3.out.setCell (show _ ≤ u1.heap.size by have := h10.out; omega) _
          have ho10_4 : Hid (Bx u4 u1.heap.size #[Value.pointer (some ⟨prb, 0, none⟩)] 70) := by show Bx _ _ _ _; rw [← he4]; exact ho10_3.out.set 0 _
          have ho9_4 : Hid (Bx u4 u0.heap.size #[Value.pointer (some ⟨pra, 0, none⟩)] 70) := by show Bx _ _ _ _; rw [← he4]; exact ho9_3.out.other (by have := h9.out; have := h10.out; omega) 0 _
          clear he4 e4 f4
          refine wpAnyX_done (by kernel_rfl) ?_ _
          exact ⟨rfl, u0.heap.size, u1.heap.size, rfl, by have := h9.out; have := h10.out; omega, by have := h9.out; omega, by have := h10.out; omega, ho9_4.out, ho10_4.out, hu4.out⟩
        · go_simp
          refine hK _ _ (Sx.behind (by kernel_rfl) (hu1.out.alloc hu1.out.size _)) ?_
          clear hK K
          obtain ⟨u2, he2⟩ : ∃ v, u1.alloc (Obj.cells #[Value.pointer none] 70) = v := ⟨_, rfl⟩
          rw [he2]
          have hu2 : Hid (Below w2.heap.size w2 u2) := by show Below _ _ _; rw [← he2]; exact hu1.out.alloc hu1.out.size _
          have ho10_2 : Hid (Bx u2 u1.heap.size #[Value.pointer none] 70) := by show Bx _ _ _ _; rw [← he2]; exact Bx.new _ _ _
          have ho9_2 : Hid (Bx u2 u0.heap.size #[Value.pointer none] 70) := by show Bx _ _ _ _; rw [← he2]; exact ho9_1.out.alloc _
          clear he2
          have h10 : Hid (w2.heap.size ≤ u1.heap.size ∧ u0.heap.size < u1.heap.size) := by have q := hu1.out.size; have q2 := ho9_1.out.lt; exact ⟨q, q2⟩
          refine wpAnyX_ready (rs := [3]) (by kernel_rfl) (by simp) (AllX.cons rfl (fun K hK => ?_) AllX.nil)
          go_simp
          refine Calls.mono (HDB.out _ (HG2.out.later hu2.out)) ?_
          rintro e w3 ⟨rfl, hw3⟩
          obtain rfl := hw3.symm
          refine hK _ _ (Sx.behind (by kernel_rfl) hu2.out) ?_
          clear hK K
          try go_simp
          refine wpAnyX_ready (rs := [6]) (by kernel_rfl) (by simp) (AllX.cons rfl (fun K hK => ?_) AllX.nil)
          have e3 := ho9_2.out.cell 0
          have f3 := ho9_2.out.froz 0
          simp at e3
          go_simp
          refine hK _ _ (Sx.behind (by kernel_rfl) (hu2.out.setCell (show _ ≤ u0.heap.size by have := h9.out; omega) _)) ?_
          clear hK K
          obtain ⟨u3, he3⟩ : ∃ v, u2.setCell ⟨u0.heap.size, 0, none⟩ (Value.pointer (some ⟨pra, 0, none⟩)) = v := ⟨_, rfl⟩
          rw [he3]
          have hu3 : Hid (Below w2.heap.size w2 u3) := by show Below _ _ _; rw [← he3]; exact hu2.out.setCell (show _ ≤ u0.heap.size by have := h9.out; omega) _
          have ho9_3 : Hid (Bx u3 u0.heap.size #[Value.pointer (some ⟨pra, 0, none⟩)] 70) := by show Bx _ _ _ _; rw [← he3]; exact ho9_2.out.set 0 _
          have ho10_3 : Hid (Bx u3 u1.heap.size #[Value.pointer none] 70) := by show Bx _ _ _ _; rw [← he3]; exact ho10_2.out.other (by have := h9.out; have := h10.out; omega) 0 _
          clear he3 e3 f3
          refine wpAnyX_ready (rs := [7]) (by kernel_rfl) (by simp) (AllX.cons rfl (fun K hK => ?_) AllX.nil)
          have e4 := ho10_3.out.cell 0
          have f4 := ho10_3.out.froz 0
          simp at e4
          go_simp
          refine hK _ _ (Sx.behind (by kernel_rfl) (hu3.out.setCell (show _ ≤ u1.heap.size by have := h10.out; omega) _)) ?_
          clear hK K
          obtain ⟨u4, he4⟩ : ∃ v, u3.setCell ⟨u1.heap.size, 0, none⟩ (Value.pointer (some ⟨prb, 0, none⟩)) = v := ⟨_, rfl⟩
          rw [he4]
          have hu4 : Hid (Below w2.heap.size w2 u4) := by show Below _ _ _; rw [← he4]; exact hu3.out.setCell (show _ ≤ u1.heap.size by have := h10.out; omega) _
          have ho10_4 : Hid (Bx u4 u1.heap.size #[Value.pointer (some ⟨prb, 0, none⟩)] 70) := by show Bx _ _ _ _; rw [← he4]; exact ho10_3.out.set 0 _
          have ho9_4 : Hid (Bx u4 u0.heap.size #[Value.pointer (some ⟨pra, 0, none⟩)] 70) := by show Bx _ _ _ _; rw [← he4]; exact ho9_3.out.other (by have := h9.out; have := h10.out; omega) 0 _
          clear he4 e4 f4
          refine wpAnyX_done (by kernel_rfl) ?_ _
          exact ⟨rfl, u0.heap.size, u1.heap.size, rfl, by have := h9.out; have := h10.out; omega, by have := h9.out; omega, by have := h10.out; omega, ho9_4.out, ho10_4.out, hu4.out⟩
      · go_simp
        refine hK _ _ (Sx.behind (by kernel_rfl) (hu0.out.alloc hu0.out.size _)) ?_
        clear hK K
        obtain ⟨u1, he1⟩ : ∃ v, u0.alloc (Obj.cells #[Value.pointer none] 70) = v := ⟨_, rfl⟩
        rw [he1]
        have hu1 : Hid (Below w2.heap.size w2 u1) := by show Below _ _ _; rw [← he1]; exact hu0.out.alloc hu0.out.size _
        have ho10_1 : Hid (Bx u1 u0.heap.size #[Value.pointer none] 70) := by show Bx _ _ _ _; rw [← he1]; exact Bx.new _ _ _
        clear he1
        have h10 : Hid (w2.heap.size ≤ u0.heap.size) := by have q := hu0.out.size; exact q
        refine wpAnyX_ready (rs := [3, 4]) (by kernel_rfl) (by simp) (AllX.cons rfl (fun K hK => ?_) (AllX.cons rfl (fun K hK => ?_) AllX.nil))
        · go_simp
          refine Calls.mono (HDB.out _ (HG2.out.later hu1.out)) ?_
          rintro e w3 ⟨rfl, hw3⟩
          obtain rfl := hw3.symm
          refine hK _ _ (Sx.behind (by kernel_rfl) hu1.out) ?_
          clear hK K
          try go_simp
          refine wpAnyX_ready (rs := [4]) (by kernel_rfl) (by simp) (AllX.cons rfl (fun K hK => ?_) AllX.nil)
          go_simp
          refine hK _ _ (Sx.behind (by kernel_rfl) (hu1.out.alloc hu1.out.size _)) ?_
          clear hK K
          obtain ⟨u2, he2⟩ : ∃ v, u1.alloc (Obj.cells #[Value.pointer none] 70) = v := ⟨_, rfl⟩
          rw [he2]
          have hu2 : Hid (Below w2.heap.size w2 u2) := by show Below _ _ _; rw [← he2]; exact hu1.out.alloc hu1.out.size _
          have ho9_2 : Hid (Bx u2 u1.heap.size #[Value.pointer none] 70) := by show Bx _ _ _ _; rw [← he2]; exact Bx.new _ _ _
          have ho10_2 : Hid (Bx u2 u0.heap.size #[Value.pointer none] 70) := by show Bx _ _ _ _; rw [← he2]; exact ho10_1.out.alloc _
          clear he2
          have h9 : Hid (w2.heap.size ≤ u1.heap.size ∧ u0.heap.size < u1.heap.size) := by have q := hu1.out.size; have q2 := ho10_1.out.lt; exact ⟨q, q2⟩
          refine wpAnyX_ready (rs := [6]) (by kernel_rfl) (by simp) (AllX.cons rfl (fun K hK => ?_) AllX.nil)
          have e3 := ho9_2.out.cell 0
          have f3 := ho9_2.out.froz 0
          simp at e3
          go_simp
          refine hK _ _ (Sx.behind (by kernel_rfl) (hu2.out.setCell (show _ ≤ u1.heap.size by have := h9.out; omega) _)) ?_
          clear hK K
          obtain ⟨u3, he3⟩ : ∃ v, u2.setCell ⟨u1.heap.size, 0, none⟩ (Value.pointer (some ⟨pra, 0, none⟩)) = v := ⟨_, rfl⟩
          rw [he3]
          have hu3 : Hid (Below w2.heap.size w2 u3) := by show Below _ _ _; rw [← he3]; exact hu2.out.setCell (show _ ≤ u1.heap.size by have := h9.out; omega) _
          have ho9_3 : Hid (Bx u3 u1.heap.size #[Value.pointer (some ⟨pra, 0, none⟩)] 70) := by show Bx _ _ _ _; rw [← he3]; exact ho9_2.out.set 0 _
          have ho10_3 : Hid (Bx u3 u0.heap.size #[Value.pointer none] 70) := by show Bx _ _ _ _; rw [← he3]; exact ho10_2.out.other (by have := h9.out; have := h10.out; omega) 0 _
          clear he3 e3 f3
          refine wpAnyX_ready (rs := [7]) (by kernel_rfl) (by simp) (AllX.cons rfl (fun K hK => ?_) AllX.nil)
          have e4 := ho10_3.out.cell 0
          have f4 := ho10_3.out.froz 0
          simp at e4
          go_simp
          refine hK _ _ (Sx.behind (by kernel_rfl) (hu3.out.setCell (show _ ≤ u0.heap.size by have := h10.out; omega) _)) ?_
          clear hK K
          obtain ⟨u4, he4⟩ : ∃ v, u3.setCell ⟨u0.heap.size, 0, none⟩ (Value.pointer (some ⟨prb, 0, none⟩)) = v := ⟨_, rfl⟩
          rw [he4]
          have hu4 : Hid (Below w2.heap.size w2 u4) := by show Below _ _ _; rw [← he4]; exact hu3.out.setCell (show _ ≤ u0.heap.size by have := h10.out; omega) _
          have ho10_4 : Hid (Bx u4 u0.heap.size #[Value.pointer (some ⟨prb, 0, none⟩)] 70) := by show Bx _ _ _ _; rw [← he4]; exact ho10_3.out.set 0 _
          have ho9_4 : Hid (Bx u4 u1.heap.size #[Value.pointer (some ⟨pra, 0, none⟩)] 70) := by show Bx _ _ _ _; rw [← he4]; exact ho9_3.out.other (by have := h9.out; have := h10.out; omega) 0 _
          clear he4 e4 f4
          refine wpAnyX_done (by kernel_rfl) ?_ _
          exact ⟨rfl, u1.heap.size, u0.heap.size, rfl, by have := h9.out; have := h10.out; omega, by have := h9.out; omega, by have := h10.out; omega, ho9_4.out, ho10_4.out, hu4.out⟩
        · go_simp
          refine hK _ _ (Sx.behind (by kernel_rfl) (hu1.out.alloc hu1.out.size _)) ?_
          clear hK K
          obtain ⟨u2, he2⟩ : ∃ v, u1.alloc (Obj.cells #[Value.pointer none] 70) = v := ⟨_, rfl⟩
          rw [he2]
          have hu2 : Hid (Below w2.heap.size w2 u2) := by show Below _ _ _; rw [← he2]; exact hu1.out.alloc hu1.out.size _
          have ho9_2 : Hid (Bx u2 u1.heap.size #[Value.pointer none] 70) := by show Bx _ _ _ _; rw [← he2]; exact Bx.new _ _ _
          have ho10_2 : Hid (Bx u2 u0.heap.size #[Value.pointer none] 70) := by show Bx _ _ _ _; rw [← he2]; exact ho10_1.out.alloc _
          clear he2
          have h9 : Hid (w2.heap.size ≤ u1.heap.size ∧ u0.heap.size < u1.heap.size) := by have q := hu1.out.size; have q2 := ho10_1.out.lt; exact ⟨q, q2⟩
          refine wpAnyX_ready (rs := [3]) (by kernel_rfl) (by simp) (AllX.cons rfl (fun K hK => ?_) AllX.nil)
          go_simp
          refine Calls.mono (HDB.out _ (HG2.out.later hu2.out)) ?_
          rintro e w3 ⟨rfl, hw3⟩
          obtain rfl := hw3.symm
          refine hK _ _ (Sx.behind (by kernel_rfl) hu2.out) ?_
          clear hK K
          try go_simp
          refine wpAnyX_ready (rs := [6]) (by kernel_rfl) (by simp) (AllX.cons rfl (fun K hK => ?_) AllX.nil)
          have e3 := ho9_2.out.cell 0
          have f3 := ho9_2.out.froz 0
          simp at e3
          go_simp
          refine hK _ _ (Sx.behind (by kernel_rfl) (hu2.out.setCell (show _ ≤ u1.heap.size by have := h9.out; omega) _)) ?_
          clear hK K
          obtain ⟨u3, he3⟩ : ∃ v, u2.setCell ⟨u1.heap.size, 0, none⟩ (Value.pointer (some ⟨pra, 0, none⟩)) = v := ⟨_, rfl⟩
          rw [he3]
          have hu3 : Hid (Below w2.heap.size w2 u3) := by show Below _ _ _; rw [← he3]; exact hu2.out.setCell (show _ ≤ u1.heap.size by have := h9.out; omega) _
          have ho9_3 : Hid (Bx u3 u1.heap.size #[Value.pointer (some ⟨pra, 0, none⟩)] 70) := by show Bx _ _ _ _; rw [← he3]; exact ho9_2.out.set 0 _
          have ho10_3 : Hid (Bx u3 u0.heap.size #[Value.pointer none] 70) := by show Bx _ _ _ _; rw [← he3]; exact ho10_2.out.other (by have := h9.out; have := h10.out; omega) 0 _
          clear he3 e3 f3
          refine wpAnyX_ready (rs := [7]) (by kernel_rfl) (by simp) (AllX.cons rfl (fun K hK => ?_) AllX.nil)
          have e4 := ho10_3.out.cell 0
          have f4 := ho10_3.out.froz 0
          simp at e4
          go_simp
          refine hK _ _ (Sx.behind (by kernel_rfl) (hu3.out.setCell (show _ ≤ u0.heap.size by have := h10.out; omega) _)) ?_
          clear hK K
          obtain ⟨u4, he4⟩ : ∃ v, u3.setCell ⟨u0.heap.size, 0, none⟩ (Value.pointer (some ⟨prb, 0, none⟩)) = v := ⟨_, rfl⟩
          rw [he4]
          have hu4 : Hid (Below w2.heap.size w2 u4) := by show Below _ _ _; rw [← he4]; exact hu3.out.setCell (show _ ≤ u0.heap.size by have := h10.out; omega) _
          have ho10_4 : Hid (Bx u4 u0.heap.size #[Value.pointer (some ⟨prb, 0, none⟩)] 70) := by show Bx _ _ _ _; rw [← he4]; exact ho10_3.out.set 0 _
          have ho9_4 : Hid (Bx u4 u1.heap.size #[Value.pointer (some ⟨pra, 0, none⟩)] 70) := by show Bx _ _ _ _; rw [← he4]; exact ho9_3.out.other (by have := h9.out; have := h10.out; omega) 0 _
          clear he4 e4 f4
          refine wpAnyX_done (by kernel_rfl) ?_ _
          exact ⟨rfl, u1.heap.size, u0.heap.size, rfl, by have := h9.out; have := h10.out; omega, by have := h9.out; omega, by have := h10.out; omega, ho9_4.out, ho10_4.out, hu4.out⟩
    · go_simp
      refine hK _ _ (Sx.behind (by kernel_rfl) (hu0.out.alloc hu0.out.size _)) ?_
      clear hK K
      obtain ⟨u1, he1⟩ : ∃ v, u0.alloc (Obj.cells #[Value.pointer none] 70) = v := ⟨_, rfl⟩
      rw [he1]
      have hu1 : Hid (Below w2.heap.size w2 u1) := by show Below _ _ _; rw [← he1]; exact hu0.out.alloc hu0.out.size _
      have ho9_1 : Hid (Bx u1 u0.heap.size #[Value.pointer none] 70) := by show Bx _ _ _ _; rw [← he1]; exact Bx.new _ _ _
      clear he1
      have h9 : Hid (w2.heap.size ≤ u0.heap.size) := by have q := hu0.out.size; exact q
      refine wpAnyX_ready (rs := [1, 5]) (by kernel_rfl) (by simp) (AllX.cons rfl (fun K hK => ?_) (AllX.cons rfl (fun K hK => ?_) AllX.nil))
      · go_simp
        refine Calls.mono (HDA.out _ (HG2.out.later hu1.out)) ?_
        rintro e w3 ⟨rfl, hw3⟩
        obtain rfl := hw3.symm
        refine hK _ _ (Sx.behind (by kernel_rfl) hu1.out) ?_
        clear hK K
        try go_simp
        refine wpAnyX_ready (rs := [3, 5]) (by kernel_rfl) (by simp) (AllX.cons rfl (fun K hK => ?_) (AllX.cons rfl (fun K hK => ?_) AllX.nil))
        · go_simp
          refine Calls.mono (HDB.out _ (HG2.out.later hu1.out)) ?_
          rintro e w3 ⟨rfl, hw3⟩
          obtain rfl := hw3.symm
          refine hK _ _ (Sx.behind (by kernel_rfl) hu1.out) ?_
          clear hK K
          try go_simp
          refine wpAnyX_ready (rs := [5]) (by kernel_rfl) (by simp) (AllX.cons rfl (fun K hK => ?_) AllX.nil)
          go_simp
          refine hK _ _ (Sx.behind (by kernel_rfl) (hu1.out.alloc hu1.out.size _)) ?_
          clear hK K
          obtain ⟨u2, he2⟩ : ∃ v, u1.alloc (Obj.cells #[Value.pointer none] 70) = v := ⟨_, rfl⟩
          rw [he2]
          have hu2 : Hid (Below w2.heap.size w2 u2) := by show Below _ _ _; rw [← he2]; exact hu1.out.alloc hu1.out.size _
          have ho10_2 : Hid (Bx u2 u1.heap.size #[Value.pointer none] 70) := by show Bx _ _ _ _; rw [← he2]; exact Bx.new _ _ _
          have ho9_2 : Hid (Bx u2 u0.heap.size #[Value.pointer none] 70) := by show Bx _ _ _ _; rw [← he2]; exact ho9_1.out.alloc _
          clear he2
          have h10 : Hid (w2.heap.size ≤ u1.heap.size ∧ u0.heap.size < u1.heap.size) := by have q := hu1.out.size; have q2 := ho9_1.out.lt; exact ⟨q, q2⟩
          refine wpAnyX_ready (rs := [6]) (by kernel_rfl) (by simp) (AllX.cons rfl (fun K hK => ?_) AllX.nil)
          have e3 := ho9_2.out.cell 0
          have f3 := ho9_2.out.froz 0
          simp at e3
          go_simp
          refine hK _ _ (Sx.behind (by kernel_rfl) (hu2.out.setCell (show _ ≤ u0.heap.size by have := h9.out; omega) _)) ?_
          clear hK K
          obtain ⟨u3, he3⟩ : ∃ v, u2.setCell ⟨u0.heap.size, 0, none⟩ (Value.pointer (some ⟨pra, 0, none⟩)) = v := ⟨_, rfl⟩
          rw [he3]
          have hu3 : Hid (Below w2.heap.size w2 u3) := by show Below _ _ _; rw [← he3]; exact hu2.out.setCell (show _ ≤ u0.heap.size by have := h9.out; omega) _
          have ho9_3 : Hid (Bx u3 u0.heap.size #[Value.pointer (some ⟨pra, 0, none⟩)] 70) := by show Bx _ _ _ _; rw [← he3]; exact ho9_2.out.set 0 _
          have ho10_3 : Hid (Bx u3 u1.heap.size #[Value.pointer none] 70) := by show Bx _ _ _ _; rw [← he3]; exact ho10_2.out.other (by have := h9.out; have := h10.out; omega) 0 _
          clear he3 e3 f3
          refine wpAnyX_ready (rs := [7]) (by kernel_rfl) (by simp) (AllX.cons rfl (fun K hK => ?_) AllX.nil)
          have e4 := ho10_3.out.cell 0
          have f4 := ho10_3.out.froz 0
          simp at e4
          go_simp
          refine hK _ _ (Sx.behind (by kernel_rfl) (hu3.out.setCell (show _ ≤ u1.heap.size by have := h10.out; omega) _)) ?_
          clear hK K
          obtain ⟨u4, he4⟩ : ∃ v, u3.setCell ⟨u1.heap.size, 0, none⟩ (Value.pointer (some ⟨prb, 0, none⟩)) = v := ⟨_, rfl⟩
          rw [he4]
          have hu4 : Hid (Below w2.heap.size w2 u4) := by show Below _ _ _; rw [← he4]; exact hu3.out.setCell (show _ ≤ u1.heap.size by have := h10.out; omega) _
          have ho10_4 : Hid (Bx u4 u1.heap.size #[Value.pointer (some ⟨prb, 0, none⟩)] 70) := by show Bx _ _ _ _; rw [← he4]; exact ho10_3.out.set 0 _
          have ho9_4 : Hid (Bx u4 u0.heap.size #[Value.pointer (some ⟨pra, 0, none⟩)] 70) := by show Bx _ _ _ _; rw [← he4]; exact ho9_3.out.other (by have := h9.out; have := h10.out; omega) 0 _
          clear he4 e4 f4
          refine wpAnyX_done (by kernel_rfl) ?_ _
          exact ⟨rfl, u0.heap.size, u1.heap.size, rfl, by have := h9.out; have := h10.out; omega, by have := h9.out; omega, by have := h10.out; omega, ho9_4.out, ho10_4.out, hu4.out⟩
        · go_simp
          refine hK _ _ (Sx.behind (by kernel_rfl) (hu1.out.alloc hu1.out.size _)) ?_
          clear hK K
          obtain ⟨u2, he2⟩ : ∃ v, u1.alloc (Obj.cells #[Value.pointer none] 70) = v := ⟨_, rfl⟩
          rw [he2]
          have hu2 : Hid (Below w2.heap.size w2 u2) := by show Below _ _ _; rw [← he2]; exact hu1.out.alloc hu1.out.size _
          have ho10_2 : Hid (Bx u2 u1.heap.size #[Value.pointer none] 70) := by show Bx _ _ _ _; rw [← he2]; exact Bx.new _ _ _
          have ho9_2 : Hid (Bx u2 u0.heap.size #[Value.pointer none] 70) := by show Bx _ _ _ _; rw [← he2]; exact ho9_1.out.alloc _
          clear he2
          have h10 : Hid (w2.heap.size ≤ u1.heap.size ∧ u0.heap.size < u1.heap.size) := by have q := hu1.out.size; have q2 := ho9_1.out.lt; exact ⟨q, q2⟩
          refine wpAnyX_ready (rs := [3]) (by kernel_rfl) (by simp) (AllX.cons rfl (fun K hK => ?_) AllX.nil)
          go_simp
          refine Calls.mono (HDB.out _ (HG2.out.later hu2.out)) ?_
          rintro e w3 ⟨rfl, hw3⟩
          obtain rfl := hw3.symm
          refine hK _ _ (Sx.behind (by kernel_rfl) hu2.out) ?_
          clear hK K
          try go_simp
          refine wpAnyX_ready (rs := [6]) (by kernel_rfl) (by simp) (AllX.cons rfl (fun K hK => ?_) AllX.nil)
          have e3 := ho9_2.out.cell 0
          have f3 := ho9_2.out.froz 0
          simp at e3
          go_simp
          refine hK _ _ (Sx.behind (by kernel_rfl) (hu2.out.setCell (show _ ≤ u0.heap.size by have := h9.out; omega) _)) ?_
          clear hK K
          obtain ⟨u3, he3⟩ : ∃ v, u2.setCell ⟨u0.heap.size, 0, none⟩ (Value.pointer (some ⟨pra, 0, none⟩)) = v := ⟨_, rfl⟩
          rw [he3]
          have hu3 : Hid (Below w2.heap.size w2 u3) := by show Below _ _ _; rw [← he3]; exact hu2.out.setCell (show _ ≤ u0.heap.size by have := h9.out; omega) _
          have ho9_3 : Hid (Bx u3 u0.heap.size #[Value.pointer (some ⟨pra, 0, none⟩)] 70) := by show Bx _ _ _ _; rw [← he3]; exact ho9_2.out.set 0 _
          have ho10_3 : Hid (Bx u3 u1.heap.size #[Value.pointer none] 70) := by show Bx _ _ _ _; rw [← he3]; exact ho10_2.out.other (by have := h9.out; have := h10.out; omega) 0 _
          clear he3 e3 f3
          refine wpAnyX_ready (rs := [7]) (by kernel_rfl) (by simp) (AllX.cons rfl (fun K hK => ?_) AllX.nil)
          have e4 := ho10_3.out.cell 0
          have f4 := ho10_3.out.froz 0
          simp at e4
          go_simp
          refine hK _ _ (Sx.behind (by kernel_rfl) (hu3.out.setCell (show _ ≤ u1.heap.size by have := h10.out; omega) _)) ?_
          clear hK K
          obtain ⟨u4, he4⟩ : ∃ v, u3.setCell ⟨u1.heap.size, 0, none⟩ (Value.pointer (some ⟨prb, 0, none⟩)) = v := ⟨_, rfl⟩
          rw [he4]
          have hu4 : Hid (Below w2.heap.size w2 u4) := by show Below _ _ _; rw [← he4]; exact hu3.out.setCell (show _ ≤ u1.heap.size by have := h10.out; omega) _
          have ho10_4 : Hid (Bx u4 u1.heap.size #[Value.pointer (some ⟨prb, 0, none⟩)] 70) := by show Bx _ _ _ _; rw [← he4]; exact ho10_3.out.set 0 _
          have ho9_4 : Hid (Bx u4 u0.heap.size #[Value.pointer (some ⟨pra, 0, none⟩)] 70) := by show Bx _ _ _ _; rw [← he4]; exact ho9_3.out.other (by have := h9.out; have := h10.out; omega) 0 _
          clear he4 e4 f4
          refine wpAnyX_done (by kernel_rfl) ?_ _
          exact ⟨rfl, u0.heap.size, u1.heap.size, rfl, by have := h9.out; have := h10.out; omega, by have := h9.out; omega, by have := h10.out; omega, ho9_4.out, ho10_4.out, hu4.out⟩
      · go_simp
        refine hK _ _ (Sx.behind (by kernel_rfl) (hu1.out.alloc hu1.out.size _)) ?_
        clear hK K
        obtain ⟨u2, he2⟩ : ∃ v, u1.alloc (Obj.cells #[Value.pointer none] 70) = v := ⟨_, rfl⟩
        rw [he2]
        have hu2 : Hid (Below w2.heap.size w2 u2) := by show Below _ _ _; rw [← he2]; exact hu1.out.alloc hu1.out.size _
        have ho10_2 : Hid (Bx u2 u1.heap.size #[Value.pointer none] 70) := by show Bx _ _ _ _; rw [← he2]; exact Bx.new _ _ _
        have ho9_2 : Hid (Bx u2 u0.heap.size #[Value.pointer none] 70) := by show Bx _ _ _ _; rw [← he2]; exact ho9_1.out.alloc _
        clear he2
        have h10 : Hid (w2.heap.size ≤ u1.heap.size ∧ u0.heap.size < u1.heap.size) := by have q := hu1.out.size; have q2 := ho9_1.out.lt; exact ⟨q, q2⟩
        refine wpAnyX_ready (rs := [1]) (by kernel_rfl) (by simp) (AllX.cons rfl (fun K hK => ?_) AllX.nil)
        go_simp
        refine Calls.mono (HDA.out _ (HG2.out.later hu2.out)) ?_
        rintro e w3 ⟨rfl, hw3⟩
        obtain rfl := hw3.symm
        refine hK _ _ (Sx.behind (by kernel_rfl) hu2.out) ?_
        clear hK K
        try go_simp
        refine wpAnyX_ready (rs := [3]) (by kernel_rfl) (by simp) (AllX.cons rfl (fun K hK => ?_) AllX.nil)
        go_simp
        refine Calls.mono (HDB.out _ (HG2.out.later hu2.out)) ?_
        rintro e w3 ⟨rfl, hw3⟩
        obtain rfl := hw3.symm
        refine hK _ _ (Sx.behind (by kernel_rfl) hu2.out) ?_
        clear hK K
        try go_simp
        refine wpAnyX_ready (rs := [6]) (by kernel_rfl) (by simp) (AllX.cons rfl (fun K hK => ?_) AllX.nil)
        have e3 := ho9_2.out.cell 0
        have f3 := ho9_2.out.froz 0
        simp at e3
        go_simp
        refine hK _ _ (Sx.behind (by kernel_rfl) (hu2.out.setCell (show _ ≤ u0.heap.size by have := h9.out; omega) _)) ?_
        clear hK K
        obtain ⟨u3, he3⟩ : ∃ v, u2.setCell ⟨u0.heap.size, 0, none⟩ (Value.pointer (some ⟨pra, 0, none⟩)) = v := ⟨_, rfl⟩
        rw [he3]
        have hu3 : Hid (Below w2.heap.size w2 u3) := by show Below _ _ _; rw [← he3]; exact hu2.out.setCell (show _ ≤ u0.heap.size by have := h9.out; omega) _
        have ho9_3 : Hid (Bx u3 u0.heap.size #[Value.pointer (some ⟨pra, 0, none⟩)] 70) := by show Bx _ _ _ _; rw [← he3]; exact ho9_2.out.set 0 _
        have ho10_3 : Hid (Bx u3 u1.heap.size #[Value.pointer none] 70) := by show Bx _ _ _ _; rw [← he3]; exact ho10_2.out.other (by have := h9.out; have := h10.out; omega) 0 _
        clear he3 e3 f3
        refine wpAnyX_ready (rs := [7]) (by kernel_rfl) (by simp) (AllX.cons rfl (fun K hK => ?_) AllX.nil)
        have e4 := ho10_3.out.cell 0
        have f4 := ho10_3.out.froz 0
        simp at e4
        go_simp
        refine hK _ _ (Sx.behind (by kernel_rfl) (hu3.out.setCell (show _ ≤ u1.heap.size by have := h10.out; omega) _)) ?_
        clear hK K
        obtain ⟨u4, he4⟩ : ∃ v, u3.setCell ⟨u1.heap.size, 0, none⟩ (Value.pointer (some ⟨prb, 0, none⟩)) = v := ⟨_, rfl⟩
        rw [he4]
        have hu4 : Hid (Below w2.heap.size w2 u4) := by show Below _ _ _; rw [← he4]; exact hu3.out.setCell (show _ ≤ u1.heap.size by have := h10.out; omega) _
        have ho10_4 : Hid (Bx u4 u1.heap.size #[Value.pointer (some ⟨prb, 0, none⟩)] 70) := by show Bx _ _ _ _; rw [← he4]; exact ho10_3.out.set 0 _
        have ho9_4 : Hid (Bx u4 u0.heap.size #[Value.pointer (some ⟨pra, 0, none⟩)] 70) := by show Bx _ _ _ _; rw [← he4]; exact ho9_3.out.other (by have := h9.out; have := h10.out; omega) 0 _
        clear he4 e4 f4
        refine wpAnyX_done (by kernel_rfl) ?_ _
        exact ⟨rfl, u0.heap.size, u1.heap.size, rfl, by have := h9.out; have := h10.out; omega, by have := h9.out; omega, by have := h10.out; omega, ho9_4.out, ho10_4.out, hu4.out⟩
    · go_simp
      refine hK _ _ (Sx.behind (by kernel_rfl) (hu0.out.alloc hu0.out.size _)) ?_
      clear hK K
      obtain ⟨u1, he1⟩ : ∃ v, u0.alloc (Obj.cells #[Value.pointer none] 70) = v := ⟨_, rfl⟩
      rw [he1]
      have hu1 : Hid (Below w2.heap.size w2 u1) := by show Below _ _ _; rw [← he1]; exact hu0.out.alloc hu0.out.size _
      have ho10_1 : Hid (Bx u1 u0.heap.size #[Value.pointer none] 70) := by show Bx _ _ _ _; rw [← he1]; exact Bx.new _ _ _
      clear he1
      have h10 : Hid (w2.heap.size ≤ u0.heap.size) := by have q := hu0.out.size; exact q
      refine wpAnyX_ready (rs := [1, 4]) (by kernel_rfl) (by simp) (AllX.cons rfl (fun K hK => ?_) (AllX.cons rfl (fun K hK => ?_) AllX.nil))
      · go_simp
        refine Calls.mono (HDA.out _ (HG2.out.later hu1.out)) ?_
        rintro e w3 ⟨rfl, hw3⟩
        obtain rfl := hw3.symm
        refine hK _ _ (Sx.behind (by kernel_rfl) hu1.out) ?_
        clear hK K
        try go_simp
        refine wpAnyX_ready (rs := [3, 4]) (by kernel_rfl) (by simp) (AllX.cons rfl (fun K hK => ?_) (AllX.cons rfl (fun K hK => ?_) AllX.nil))
        · go_simp
          refine Calls.mono (HDB.out _ (HG2.out.later hu1.out)) ?_
          rintro e w3 ⟨rfl, hw3⟩
          obtain rfl := hw3.symm
          refine hK _ _ (Sx.behind (by kernel_rfl) hu1.out) ?_
          clear hK K
          try go_simp
          refine wpAnyX_ready (rs := [4]) (by kernel_rfl) (by simp) (AllX.cons rfl (fun K hK => ?_) AllX.nil)
          go_simp
          refine hK _ _ (Sx.behind (by kernel_rfl) (hu1.out.alloc hu1.out.size _)) ?_
          clear hK K
          obtain ⟨u2, he2⟩ : ∃ v, u1.alloc (Obj.cells #[Value.pointer none] 70) = v := ⟨_, rfl⟩
          rw [he2]
          have hu2 : Hid (Below w2.heap.size w2 u2) := by show Below _ _ _; rw [← he2]; exact hu1.out.alloc hu1.out.size _
          have ho9_2 : Hid (Bx u2 u1.heap.size #[Value.pointer none] 70) := by show Bx _ _ _ _; rw [← he2]; exact Bx.new _ _ _
          have ho10_2 : Hid (Bx u2 u0.heap.size #[Value.pointer none] 70) := by show Bx _ _ _ _; rw [← he2]; exact ho10_1.out.alloc _
          clear he2
          have h9 : Hid (w2.heap.size ≤ u1.heap.size ∧ u0.heap.size < u1.heap.size) := by have q := hu1.out.size; have q2 := ho10_1.out.lt; exact ⟨q, q2⟩
          refine wpAnyX_ready (rs := [6]) (by kernel_rfl) (by simp) (AllX.cons rfl (fun K hK => ?_) AllX.nil)
          have e3 := ho9_2.out.cell 0
          have f3 := ho9_2.out.froz 0
          simp at e3
          go_simp
          refine hK _ _ (Sx.behind (by kernel_rfl) (hu2.out.setCell (show _ ≤ u1.heap.size by have := h9.out; omega) _)) ?_
          clear hK K
          obtain ⟨u3, he3⟩ : ∃ v, u2.setCell ⟨u1.heap.size, 0, none⟩ (Value.pointer (some ⟨pra, 0, none⟩)) = v := ⟨_, rfl⟩
          rw [he3]
          have hu3 : Hid (Below w2.heap.size w2 u3) := by show Below _ _ _; rw [← he3]; exact hu2.out.setCell (show _ ≤ u1.heap.size by have := h9.out; omega) _
          have ho9_3 : Hid (Bx u3 u1.heap.size #[Value.pointer (some ⟨pra, 0, none⟩)] 70) := by show Bx _ _ _ _; rw [← he3]; exact ho9_2.out.set 0 _
          have ho10_3 : Hid (Bx u3 u0.heap.size #[Value.pointer none] 70) := by show Bx _ _ _ _; rw [← he3]; exact ho10_2.out.other (by have := h9.out; have := h10.out; omega) 0 _
          clear he3 e3 f3
          refine wpAnyX_ready (rs := [7]) (by kernel_rfl) (by simp) (AllX.cons rfl (fun K hK => ?_) AllX.nil)
          have e4 := ho10_3.out.cell 0
          have f4 := ho10_3.out.froz 0
          simp at e4
          go_simp
          refine hK _ _ (Sx.behind (by kernel_rfl) (hu3.out.setCell (show _ ≤ u0.heap.size by have := h10.out; omega) _)) ?_
          clear hK K
          obtain ⟨u4, he4⟩ : ∃ v, u3.setCell ⟨u0.heap.size, 0, none⟩ (Value.pointer (some ⟨prb, 0, none⟩)) = v := ⟨_, rfl⟩
          rw [he4]
          have hu4 : Hid (Below w2.heap.size w2 u4) := by show Below _ _ _; rw [← he4]; exact hu3.out.setCell (show _ ≤ u0.heap.size by have := h10.out; omega) _
          have ho10_4 : Hid (Bx u4 u0.heap.size #[Value.pointer (some ⟨prb, 0, none⟩)] 70) := by show Bx _ _ _ _; rw [← he4]; exact ho10_3.out.set 0 _
          have ho9_4 : Hid (Bx u4 u1.heap.size #[Value.pointer (some ⟨pra, 0, none⟩)] 70) := by show Bx _ _ _ _; rw [← he4]; exact ho9_3.out.other (by have := h9.out; have := h10.out; omega) 0 _
          clear he4 e4 f4
          refine wpAnyX_done (by kernel_rfl) ?_ _
          exact ⟨rfl, u1.heap.size, u0.heap.size, rfl, by have := h9.out; have := h10.out; omega, by have := h9.out; omega, by have := h10.out; omega, ho9_4.out, ho10_4.out, hu4.out⟩
        · go_simp
          refine hK _ _ (Sx.behind (by kernel_rfl) (hu1.out.alloc hu1.out.size _)) ?_
          clear hK K
          obtain ⟨u2, he2⟩ : ∃ v, u1.alloc (Obj.cells #[Value.pointer none] 70) = v := ⟨_, rfl⟩
          rw [he2]
          have hu2 : Hid (Below w2.heap.size w2 u2) := by show Below _ _ _; rw [← he2]; exact hu1.out.alloc hu1.out.size _
          have ho9_2 : Hid (Bx u2 u1.heap.size #[Value.pointer none] 70) := by show Bx _ _ _ _; rw [← he2]; exact Bx.new _ _ _
          have ho10_2 : Hid (Bx u2 u0.heap.size #[Value.pointer none] 70) := by show Bx _ _ _ _; rw [← he2]; exact ho10_1.out.alloc _
          clear he2
          have h9 : Hid (w2.heap.size ≤ u1.heap.size ∧ u0.heap.size < u1.heap.size) := by have q := hu1.out.size; have q2 := ho10_1.out.lt; exact ⟨q, q2⟩
          refine wpAnyX_ready (rs := [3]) (by kernel_rfl) (by simp) (AllX.cons rfl (fun K hK => ?_) AllX.nil)
          go_simp
          refine Calls.mono (HDB.out _ (HG2.out.later hu2.out)) ?_
          rintro e w3 ⟨rfl, hw3⟩
          obtain rfl := hw3.symm
          refine hK _ _ (Sx.behind (by kernel_rfl) hu2.out) ?_
          clear hK K
          try go_simp
          refine wpAnyX_ready (rs := [6]) (by kernel_rfl) (by simp) (AllX.cons rfl (fun K hK => ?_) AllX.nil)
          have e3 := ho9_2.out.cell 0
          have f3 := ho9_2.out.froz 0
          simp at e3
          go_simp
          refine hK _ _ (Sx.behind (by kernel_rfl) (hu2.out.setCell (show _ ≤ u1.heap.size by have := h9.out; omega) _)) ?_
          clear hK K
          obtain ⟨u3, he3⟩ : ∃ v, u2.setCell ⟨u1.heap.size, 0, none⟩ (Value.pointer (some ⟨pra, 0, none⟩)) = v := ⟨_, rfl⟩
          rw [he3]
          have hu3 : Hid (Below w2.heap.size w2 u3) := by show Below _ _ _; rw [← he3]; exact hu2.out.setCell (show _ ≤ u1.heap.size by have := h9.out; omega) _
          have ho9_3 : Hid (Bx u3 u1.heap.size #[Value.pointer (some ⟨pra, 0, none⟩)] 70) := by show Bx _ _ _ _; rw [← he3]; exact ho9_2.out.set 0 _
          have ho10_3 : Hid (Bx u3 u0.heap.size #[Value.pointer none] 70) := by show Bx _ _ _ _; rw [← he3]; exact ho10_2.out.other (by have := h9.out; have := h10.out; omega) 0 _
          clear he3 e3 f3
          refine wpAnyX_ready (rs := [7]) (by kernel_rfl) (by simp) (AllX.cons rfl (fun K hK => ?_) AllX.nil)
          have e4 := ho10_3.out.cell 0
          have f4 := ho10_3.out.froz 0
          simp at e4
          go_simp
          refine hK _ _ (Sx.behind (by kernel_rfl) (hu3.out.setCell (show _ ≤ u0.heap.size by have := h10.out; omega) _)) ?_
          clear hK K
          obtain ⟨u4, he4⟩ : ∃ v, u3.setCell ⟨u0.heap.size, 0, none⟩ (Value.pointer (some ⟨prb, 0, none⟩)) = v := ⟨_, rfl⟩
          rw [he4]
          have hu4 : Hid (Below w2.heap.size w2 u4) := by show Below _ _ _; rw [← he4]; exact hu3.out.setCell (show _ ≤ u0.heap.size by have := h10.out; omega) _
          have ho10_4 : Hid (Bx u4 u0.heap.size #[Value.pointer (some ⟨prb, 0, none⟩)] 70) := by show Bx _ _ _ _; rw [← he4]; exact ho10_3.out.set 0 _
          have ho9_4 : Hid (Bx u4 u1.heap.size #[Value.pointer (some ⟨pra, 0, none⟩)] 70) := by show Bx _ _ _ _; rw [← he4]; exact ho9_3.out.other (by have := h9.out; have := h10.out; omega) 0 _
          clear he4 e4 f4
          refine wpAnyX_done (by kernel_rfl) ?_ _
          exact ⟨rfl, u1.heap.size, u0.heap.size, rfl, by have := h9.out; have := h10.out; omega, by have := h9.out; omega, by have := h10.out; omega, ho9_4.out, ho10_4.out, hu4.out⟩
      · go_simp
        refine hK _ _ (Sx.behind (by kernel_rfl) (hu1.out.alloc hu1.out.size _)) ?_
        clear hK K
        obtain ⟨u2, he2⟩ : ∃ v, u1.alloc (Obj.cells #[Value.pointer none] 70) = v := ⟨_, rfl⟩
        rw [he2]
        have hu2 : Hid (Below w2.heap.size w2 u2) := by show Below _ _ _; rw [← he2]; exact hu1.out.alloc hu1.out.size _
        have ho9_2 : Hid (Bx u2 u1.heap.size #[Value.pointer none] 70) := by show Bx _ _ _ _; rw [← he2]; exact Bx.new _ _ _
        have ho10_2 : Hid (Bx u2 u0.heap.size #[Value.pointer none] 70) := by show Bx _ _ _ _; rw [← he2]; exact ho10_1.out.alloc _
        clear he2
        have h9 : Hid (w2.heap.size ≤ u1.heap.size ∧ u0.heap.size < u1.heap.size) := by have q := hu1.out.size; have q2 := ho10_1.out.lt; exact ⟨q, q2⟩
        refine wpAnyX_ready (rs := [1]) (by kernel_rfl) (by simp) (AllX.cons rfl (fun K hK => ?_) AllX.nil)
        go_simp
        refine Calls.mono (HDA.out _ (HG2.out.later hu2.out)) ?_
        rintro e w3 ⟨rfl, hw3⟩
        obtain rfl := hw3.symm
        refine hK _ _ (Sx.behind (by kernel_rfl) hu2.out) ?_
        clear hK K
        try go_simp
        refine wpAnyX_ready (rs := [3]) (by kernel_rfl) (by simp) (AllX.cons rfl (fun K hK => ?_) AllX.nil)
        go_simp
        refine Calls.mono (HDB.out _ (HG2.out.later hu2.out)) ?_
        rintro e w3 ⟨rfl, hw3⟩
        obtain rfl := hw3.symm
        refine hK _ _ (Sx.behind (by kernel_rfl) hu2.out) ?_
        clear hK K
        try go_simp
        refine wpAnyX_ready (rs := [6]) (by kernel_rfl) (by simp) (AllX.cons rfl (fun K hK => ?_) AllX.nil)
        have e3 := ho9_2.out.cell 0
        have f3 := ho9_2.out.froz 0
        simp at e3
        go_simp
        refine hK _ _ (Sx.behind (by kernel_rfl) (hu2.out.setCell (show _ ≤ u1.heap.size by have := h9.out; omega) _)) ?_
        clear hK K
        obtain ⟨u3, he3⟩ : ∃ v, u2.setCell ⟨u1.heap.size, 0, none⟩ (Value.pointer (some ⟨pra, 0, none⟩)) = v := ⟨_, rfl⟩
        rw [he3]
        have hu3 : Hid (Below w2.heap.size w2 u3) := by show Below _ _ _; rw [← he3]; exact hu2.out.setCell (show _ ≤ u1.heap.size by have := h9.out; omega) _
        have ho9_3 : Hid (Bx u3 u1.heap.size #[Value.pointer (some ⟨pra, 0, none⟩)] 70) := by show Bx _ _ _ _; rw [← he3]; exact ho9_2.out.set 0 _
        have ho10_3 : Hid (Bx u3 u0.heap.size #[Value.pointer none] 70) := by show Bx _ _ _ _; rw [← he3]; exact ho10_2.out.other (by have := h9.out; have := h10.out; omega) 0 _
        clear he3 e3 f3
        refine wpAnyX_ready (rs := [7]) (by kernel_rfl) (by simp) (AllX.cons rfl (fun K hK => ?_) AllX.nil)
        have e4 := ho10_3.out.cell 0
        have f4 := ho10_3.out.froz 0
        simp at e4
        go_simp
        refine hK _ _ (Sx.behind (by kernel_rfl) (hu3.out.setCell (show _ ≤ u0.heap.size by have := h10.out; omega) _)) ?_
        clear hK K
        obtain ⟨u4, he4⟩ : ∃ v, u3.setCell ⟨u0.heap.size, 0, none⟩ (Value.pointer (some ⟨prb, 0, none⟩)) = v := ⟨_, rfl⟩
        rw [he4]
        have hu4 : Hid (Below w2.heap.size w2 u4) := by show Below _ _ _; rw [← he4]; exact hu3.out.setCell (show _ ≤ u0.heap.size by have := h10.out; omega) _
        have ho10_4 : Hid (Bx u4 u0.heap.size #[Value.pointer (some ⟨prb, 0, none⟩)] 70) := by show Bx _ _ _ _; rw [← he4]; exact ho10_3.out.set 0 _
        have ho9_4 : Hid (Bx u4 u1.heap.size #[Value.pointer (some ⟨pra, 0, none⟩)] 70) := by show Bx _ _ _ _; rw [← he4]; exact ho9_3.out.other (by have := h9.out; have := h10.out; omega) 0 _
        clear he4 e4 f4
        refine wpAnyX_done (by kernel_rfl) ?_ _
        exact ⟨rfl, u1.heap.size, u0.heap.size, rfl, by have := h9.out; have := h10.out; omega, by have := h9.out; omega, by have := h10.out; omega, ho9_4.out, ho10_4.out, hu4.out⟩
  · rintro a' w3 ⟨o9, o10, rfl, hno, hl9, hl10, x9, x10, hb3⟩
    have HG3 := kide (HG2.out.later hb3)
    have XA := kide (Bx.later C0.out hb3)
    have XB := kide (Bx.later C1.out hb3)
    have BB3 := kide (HB2.out.trans (hb3.mono HB2.out.size))
    have hz3 := hb3.size
    have g9 := x9.cell 0
    have g10 := x10.cell 0
    have f9 := x9.froz 0
    have f10 := x10.froz 0
    obtain ⟨-, -, -, s9, -⟩ := HG3.out.get HRA.out
    obtain ⟨-, -, -, s10, -⟩ := HG3.out.get HRB.out
    simp at g9 g10
    have X9 := kide x9
    have X10 := kide x10
    by_cases hne : rt a = rt b
    · have hsame : pra = prb := by
        have h1 := HRA.out
        rw [hne, HRB.out] at h1
        cases h1; rfl
      subst hsame
      have hpp := HG3.out.ptr_same HRA.out
      have XL3 := kide (XL2.out.later hb3)
      have HB33 := kide ((HB2.out.trans (hb3.mono HB2.out.size)).mono hBw)
      clear x9 x10 hb3 HDA HDB hG0 g0 g1 hlt0 hlt1 XA XB BB3 f9 f10 s9 s10 X9 X10
      go_wp2_with fail
      go_ret
      exact .inl ⟨hne, rfl, HG3.out, HB33.out, XL3.out⟩
    have hpab : pra ≠ prb := fun e => hne (HG3.out.inj HRA.out (by rw [e]; exact HRB.out))
    have hpp := HG3.out.ptr_ne HRA.out HRB.out hpab
    have HB3 := kide hb3
    clear x9 x10 hb3 HDA HDB hG0 g0 g1 hlt0 hlt1 XA XB BB3
    obtain ⟨po, pu, ro, ru, hro, hru, hou⟩ : ∃ po pu ro ru, s.ps[ro]? = some po ∧ s.ps[ru]? = some pu ∧ (if s.sz (rt a) < s.sz (rt b) then po = prb ∧ pu = pra ∧ ro = rt b ∧ ru = rt a else po = pra ∧ pu = prb ∧ ro = rt a ∧ ru = rt b) := by
      by_cases hc : s.sz (rt a) < s.sz (rt b)
      · exact ⟨prb, pra, rt b, rt a, HRB.out, HRA.out, by rw [if_pos hc]; exact ⟨rfl, rfl, rfl, rfl⟩⟩
      · exact ⟨pra, prb, rt a, rt b, HRA.out, HRB.out, by rw [if_neg hc]; exact ⟨rfl, rfl, rfl, rfl⟩⟩
    have HRO := kide hro
    have HRU := kide hru
    have hroru : Hid (ro = rt a ∧ ru = rt b ∨ ro = rt b ∧ ru = rt a) := by
      show _ ∨ _
      split at hou
      · exact .inr ⟨hou.2.2.1, hou.2.2.2⟩
      · exact .inl ⟨hou.2.2.1, hou.2.2.2⟩
    have hpou : po ≠ pu := by
      split at hou
      · rw [hou.1, hou.2.1]; exact Ne.symm hpab
      · rw [hou.1, hou.2.1]; exact hpab
    clear hro hru
    go_wp2_with fail
    go_quiet (fail)
    have hb4 : Below w2.heap.size w2 (w3.drewN nq) := HB3.out.trans ⟨rfl, rfl, rfl, Nat.le_refl _, fun _ _ => rfl⟩
    have X94 : Hid (Bx (w3.drewN nq) o9 #[Value.pointer (some ⟨pra, 0, none⟩)] 70) := X9.out
    have X104 : Hid (Bx (w3.drewN nq) o10 #[Value.pointer (some ⟨prb, 0, none⟩)] 70) := X10.out
    generalize w3.drewN nq = w4 at *
    have g9 := X94.out.cell 0
    have g10 := X104.out.cell 0
    have f9 := X94.out.froz 0
    have f10 := X104.out.froz 0
    simp at g9 g10
    have HB4 := kide hb4
    clear hb4 X9 X10 HB3 HG3 s9 s10 hpp hz3
    by_cases hc : s.sz (rt a) < s.sz (rt b)
    · rw [if_pos hc] at hou
      obtain ⟨rfl, rfl, rfl, rfl⟩ := hou
      go_wp2_with fail
      have hb5 : Below w2.heap.size w2 ((w4.setCell ⟨o9, 0, none⟩ (Value.pointer (some ⟨po, 0, none⟩))).setCell ⟨o10, 0, none⟩ (Value.pointer (some ⟨pu, 0, none⟩))) := (HB4.out.setCell hl9 _).setCell hl10 _
      have X95 : Hid (Bx ((w4.setCell ⟨o9, 0, none⟩ (Value.pointer (some ⟨po, 0, none⟩))).setCell ⟨o10, 0, none⟩ (Value.pointer (some ⟨pu, 0, none⟩))) o9 #[Value.pointer (some ⟨po, 0, none⟩)] 70) := (X94.out.set 0 _).other hno 0 _
      have X105 : Hid (Bx ((w4.setCell ⟨o9, 0, none⟩ (Value.pointer (some ⟨po, 0, none⟩))).setCell ⟨o10, 0, none⟩ (Value.pointer (some ⟨pu, 0, none⟩))) o10 #[Value.pointer (some ⟨pu, 0, none⟩)] 70) := (X104.out.other (Ne.symm hno) 0 _).set 0 _
      generalize (w4.setCell ⟨o9, 0, none⟩ (Value.pointer (some ⟨po, 0, none⟩))).setCell ⟨o10, 0, none⟩ (Value.pointer (some ⟨pu, 0, none⟩)) = w5 at *
      have HG5 := kide (HG2.out.later hb5)
      have g9 := X95.out.cell 0
      have g10 := X105.out.cell 0
      obtain ⟨-, -, -, s9, l9⟩ := HG5.out.get HRO.out
      simp at g9 g10
      have HB5 := kide hb5
      have hz5 := hb5.size
      have hlo9 := X95.out.lt
      have hlpo : po < w5.heap.size := lt_of_block (HG5.out.kn _ _ HRO.out).2
      clear hb5 X94 X104 HB4 f9 f10
      refine region_cut (fun a' w' => ∃ o11 o12, a' = ({ tmps := #[Value.pointer (some ⟨G, 0, none⟩), Value.pointer (some ⟨pa, 0, none⟩), Value.pointer (some ⟨pb, 0, none⟩), Value.int .i64 y, undef, Value.pointer (some ⟨A0, 0, none⟩), Value.pointer (some ⟨A1, 0, none⟩), undef, Value.bool false, Value.pointer (some ⟨o9, 0, none⟩), Value.pointer (some ⟨o10, 0, none⟩), Value.pointer (some ⟨o11, 0, none⟩), Value.pointer (some ⟨o12, 0, none⟩), undef, Value.pointer (some ⟨pa, 0, none⟩), Value.pointer (some ⟨pu, 0, none⟩), Value.pointer (some ⟨pb, 0, none⟩), Value.pointer (some ⟨po, 0, none⟩), Value.pointer (some ⟨pu, 0, none⟩), Value.pointer (some ⟨po, 0, none⟩), Value.bool false, Value.pointer (some ⟨pu, 0, none⟩), Value.pointer (some ⟨pu, 0, none⟩), Value.pointer (some ⟨pu, 3, none⟩), Value.int .i64 (s.sz (rt a)), Value.pointer (some ⟨po, 0, none⟩), Value.pointer (some ⟨po, 0, none⟩), Value.pointer (some ⟨po, 3, none⟩), Value.int .i64 (s.sz (rt b)), Value.bool true, Value.pointer (some ⟨po, 0, none⟩), Value.pointer (some ⟨pu, 0, none⟩), Value.pointer (some ⟨po, 0, none⟩), Value.pointer (some ⟨po, 0, none⟩), Value.pointer (some ⟨po, 3, none⟩), Value.int .i64 (s.sz (rt b)), Value.pointer (some ⟨po, 0, none⟩), Value.pointer (some ⟨po, 0, none⟩), Value.pointer (some ⟨po, 4, none⟩), Value.int .i64 (s.le (rt b)), undef, undef, undef, undef, undef, undef, undef, undef, undef, undef, undef, undef, undef, undef, undef, undef, undef, undef, undef, undef, undef, undef, undef, undef, undef, undef, undef, undef, undef, undef, undef, undef, undef, undef, undef, undef, undef, undef, undef, undef, undef, undef, undef, undef, undef, undef, undef, undef, undef, undef, undef, undef, undef, undef, undef, undef], defers := [] } : Act) ∧ o11 ≠ o12 ∧ w5.heap.size ≤ o11 ∧ w5.heap.size ≤ o12 ∧ Bx w' o11 #[Value.int .i64 (s.sz (rt b))] 3 ∧ Bx w' o12 #[Value.int .i64 (s.le (rt b))] 2 ∧ Below w5.heap.size w5 w') ?_ ?_
      · refine wp_region_x (SA := fun _ => False) (SB := fun u => Below w5.heap.size w5 u) (k := 999) (by kernel_rfl) ?_
        have hu0 : Hid (Below w5.heap.size w5 w5.drew) := (Below.refl _ _).drew
        generalize w5.drew = u0 at *
        try go_simp
        refine wpAnyX_both (T := fun u => Below w5.heap.size w5 u) (i := 0) (v := Value.pointer (some ⟨po, 0, none⟩)) rfl (by kernel_rfl) (by kernel_rfl) (by kernel_rfl) (fun _ _ _ h => by first | exact h | exact h.elim | cases h.1) (by decide) (fun _ h => h.elim) (fun _ h => h) (Sx.behind (by kernel_rfl) hu0.out) (Or.inl ⟨by rfl, fun u hu => by have e1 := (kcell hu o9 0 hlo9).trans g9; go_simp⟩) ?_
        try go_simp
        refine wpAnyX_both (T := fun u => Below w5.heap.size w5 u) (i := 1) (v := Value.pointer (some ⟨po, 0, none⟩)) rfl (by kernel_rfl) (by kernel_rfl) (by kernel_rfl) (fun _ _ _ h => by first | exact h | exact h.elim | cases h.1) (by decide) (fun _ h => h.elim) (fun _ h => h) (Sx.behind (by kernel_rfl) hu0.out) (Or.inl ⟨by rfl, fun u hu => by go_simp⟩) ?_
        try go_simp
        refine wpAnyX_both (T := fun u => Below w5.heap.size w5 u) (i := 2) (v := Value.pointer (some ⟨po, 3, none⟩)) rfl (by kernel_rfl) (by kernel_rfl) (by kernel_rfl) (fun _ _ _ h => by first | exact h | exact h.elim | cases h.1) (by decide) (fun _ h => h.elim) (fun _ h => h) (Sx.behind (by kernel_rfl) hu0.out) (Or.inl ⟨by rfl, fun u hu => by go_simp⟩) ?_
        try go_simp
        refine wpAnyX_both (T := fun u => Below w5.heap.size w5 u) (i := 3) (v := Value.int .i64 (s.sz (rt b))) rfl (by kernel_rfl) (by kernel_rfl) (by kernel_rfl) (fun _ _ _ h => by first | exact h | exact h.elim | cases h.1) (by decide) (fun _ h => h.elim) (fun _ h => h) (Sx.behind (by kernel_rfl) hu0.out) (Or.inl ⟨by rfl, fun u hu => by have e1 := (kcell hu po 3 hlpo).trans s9; go_simp⟩) ?_
        try go_simp
        refine wpAnyX_both (T := fun u => Below w5.heap.size w5 u) (i := 4) (v := Value.pointer (some ⟨po, 0, none⟩)) rfl (by kernel_rfl) (by kernel_rfl) (by kernel_rfl) (fun _ _ _ h => by first | exact h | exact h.elim | cases h.1) (by decide) (fun _ h => h.elim) (fun _ h => h) (Sx.behind (by kernel_rfl) hu0.out) (Or.inl ⟨by rfl, fun u hu => by have e1 := (kcell hu o9 0 hlo9).trans g9; go_simp⟩) ?_
        try go_simp
        refine wpAnyX_both (T := fun u => Below w5.heap.size w5 u) (i := 5) (v := Value.pointer (some ⟨po, 0, none⟩)) rfl (by kernel_rfl) (by kernel_rfl) (by kernel_rfl) (fun _ _ _ h => by first | exact h | exact h.elim | cases h.1) (by decide) (fun _ h => h.elim) (fun _ h => h) (Sx.behind (by kernel_rfl) hu0.out) (Or.inl ⟨by rfl, fun u hu => by go_simp⟩) ?_
        try go_simp
        refine wpAnyX_both (T := fun u => Below w5.heap.size w5 u) (i := 6) (v := Value.pointer (some ⟨po, 4, none⟩)) rfl (by kernel_rfl) (by kernel_rfl) (by kernel_rfl) (fun _ _ _ h => by first | exact h | exact h.elim | cases h.1) (by decide) (fun _ h => h.elim) (fun _ h => h) (Sx.behind (by kernel_rfl) hu0.out) (Or.inl ⟨by rfl, fun u hu => by go_simp⟩) ?_
        try go_simp
        refine wpAnyX_both (T := fun u => Below w5.heap.size w5 u) (i := 7) (v := Value.int .i64 (s.le (rt b))) rfl (by kernel_rfl) (by kernel_rfl) (by kernel_rfl) (fun _ _ _ h => by first | exact h | exact h.elim | cases h.1) (by decide) (fun _ h => h.elim) (fun _ h => h) (Sx.behind (by kernel_rfl) hu0.out) (Or.inl ⟨by rfl, fun u hu => by have e1 := (kcell hu po 4 hlpo).trans l9; go_simp⟩) ?_
        try go_simp
        refine wpAnyX_ready (rs := [8, 9]) (by kernel_rfl) (by simp) (AllX.cons rfl (fun K hK => ?_) (AllX.cons rfl (fun K hK => ?_) AllX.nil))
        · go_simp
          refine hK _ _ (Sx.behind (by kernel_rfl) (hu0.out.alloc hu0.out.size _)) ?_
          clear hK K
          obtain ⟨u1, he1⟩ : ∃ v, u0.alloc (Obj.cells #[Value.int .i64 0] 3) = v := ⟨_, rfl⟩
          rw [he1]
          have hu1 : Hid (Below w5.heap.size w5 u1) := by show Below _ _ _; rw [← he1]; exact hu0.out.alloc hu0.out.size _
          have ho11_1 : Hid (Bx u1 u0.heap.size #[Value.int .i64 0] 3) := by show Bx _ _ _ _; rw [← he1]; exact Bx.new _ _ _
          clear he1
          have h11 : Hid (w5.heap.size ≤ u0.heap.size) := by have q := hu0.out.size; exact q
          refine wpAnyX_ready (rs := [9]) (by kernel_rfl) (by simp) (AllX.cons rfl (fun K hK => ?_) AllX.nil)
          go_simp
          refine hK _ _ (Sx.behind (by kernel_rfl) (hu1.out.alloc hu1.out.size _)) ?_
          clear hK K
          obtain ⟨u2, he2⟩ : ∃ v, u1.alloc (Obj.cells #[Value.int .i64 0] 2) = v := ⟨_, rfl⟩
          rw [he2]
          have hu2 : Hid (Below w5.heap.size w5 u2) := by show Below _ _ _; rw [← he2]; exact hu1.out.alloc hu1.out.size _
          have ho12_2 : Hid (Bx u2 u1.heap.size #[Value.int .i64 0] 2) := by show Bx _ _ _ _; rw [← he2]; exact Bx.new _ _ _
          have ho11_2 : Hid (Bx u2 u0.heap.size #[Value.int .i64 0] 3) := by show Bx _ _ _ _; rw [← he2]; exact ho11_1.out.alloc _
          clear he2
          have h12 : Hid (w5.heap.size ≤ u1.heap.size ∧ u0.heap.size < u1.heap.size) := by have q := hu1.out.size; have q2 := ho11_1.out.lt; exact ⟨q, q2⟩
          refine wpAnyX_ready (rs := [10]) (by kernel_rfl) (by simp) (AllX.cons rfl (fun K hK => ?_) AllX.nil)
          have e3 := ho11_2.out.cell 0
          have f3 := ho11_2.out.froz 0
          simp at e3
          go_simp
          refine hK _ _ (Sx.behind (by kernel_rfl) (hu2.out.setCell (show _ ≤ u0.heap.size by have := h11.out; omega) _)) ?_
          clear hK K
          obtain ⟨u3, he3⟩ : ∃ v, u2.setCell ⟨u0.heap.size, 0, none⟩ (Value.int .i64 (s.sz (rt b))) = v := ⟨_, rfl⟩
          rw [he3]
          have hu3 : Hid (Below w5.heap.size w5 u3) := by show Below _ _ _; rw [← he3]; exact hu2.out.setCell (show _ ≤ u0.heap.size by have := h11.out; omega) _
          have ho11_3 : Hid (Bx u3 u0.heap.size #[Value.int .i64 (s.sz (rt b))] 3) := by show Bx _ _ _ _; rw [← he3]; exact ho11_2.out.set 0 _
          have ho12_3 : Hid (Bx u3 u1.heap.size #[Value.int .i64 0] 2) := by show Bx _ _ _ _; rw [← he3]; exact ho12_2.out.other (by have := h11.out; have := h12.out; omega) 0 _
          clear he3 e3 f3
          refine wpAnyX_ready (rs := [11]) (by kernel_rfl) (by simp) (AllX.cons rfl (fun K hK => ?_) AllX.nil)
          have e4 := ho12_3.out.cell 0
          have f4 := ho12_3.out.froz 0
          simp at e4
          go_simp
          refine hK _ _ (Sx.behind (by kernel_rfl) (hu3.out.setCell (show _ ≤ u1.heap.size by have := h12.out; omega) _)) ?_
          clear hK K
          obtain ⟨u4, he4⟩ : ∃ v, u3.setCell ⟨u1.heap.size, 0, none⟩ (Value.int .i64 (s.le (rt b))) = v := ⟨_, rfl⟩
          rw [he4]
          have hu4 : Hid (Below w5.heap.size w5 u4) := by show Below _ _ _; rw [← he4]; exact hu3.out.setCell (show _ ≤ u1.heap.size by have := h12.out; omega) _
          have ho12_4 : Hid (Bx u4 u1.heap.size #[Value.int .i64 (s.le (rt b))] 2) := by show Bx _ _ _ _; rw [← he4]; exact ho12_3.out.set 0 _
          have ho11_4 : Hid (Bx u4 u0.heap.size #[Value.int .i64 (s.sz (rt b))] 3) := by show Bx _ _ _ _; rw [← he4]; exact ho11_3.out.other (by have := h11.out; have := h12.out; omega) 0 _
          clear he4 e4 f4
          refine wpAnyX_done (by kernel_rfl) ?_ _
          exact ⟨rfl, u0.heap.size, u1.heap.size, rfl, by have := h11.out; have := h12.out; omega, by have := h11.out; omega, by have := h12.out; omega, ho11_4.out, ho12_4.out, hu4.out⟩
        · go_simp
          refine hK _ _ (Sx.behind (by kernel_rfl) (hu0.out.alloc hu0.out.size _)) ?_
          clear hK K
          obtain ⟨u1, he1⟩ : ∃ v, u0.alloc (Obj.cells #[Value.int .i64 0] 2) = v := ⟨_, rfl⟩
          rw [he1]
          have hu1 : Hid (Below w5.heap.size w5 u1) := by show Below _ _ _; rw [← he1]; exact hu0.out.alloc hu0.out.size _
          have ho12_1 : Hid (Bx u1 u0.heap.size #[Value.int .i64 0] 2) := by show Bx _ _ _ _; rw [← he1]; exact Bx.new _ _ _
          clear he1
          have h12 : Hid (w5.heap.size ≤ u0.heap.size) := by have q := hu0.out.size; exact q
          refine wpAnyX_ready (rs := [8]) (by kernel_rfl) (by simp) (AllX.cons rfl (fun K hK => ?_) AllX.nil)
          go_simp
          refine hK _ _ (Sx.behind (by kernel_rfl) (hu1.out.alloc hu1.out.size _)) ?_
          clear hK K
          obtain ⟨u2, he2⟩ : ∃ v, u1.alloc (Obj.cells #[Value.int .i64 0] 3) = v := ⟨_, rfl⟩
          rw [he2]
          have hu2 : Hid (Below w5.heap.size w5 u2) := by show Below _ _ _; rw [← he2]; exact hu1.out.alloc hu1.out.size _
          have ho11_2 : Hid (Bx u2 u1.heap.size #[Value.int .i64 0] 3) := by show Bx _ _ _ _; rw [← he2]; exact Bx.new _ _ _
          have ho12_2 : Hid (Bx u2 u0.heap.size #[Value.int .i64 0] 2) := by show Bx _ _ _ _; rw [← he2]; exact ho12_1.out.alloc _
          clear he2
          have h11 : Hid (w5.heap.size ≤ u1.heap.size ∧ u0.heap.size < u1.heap.size) := by have q := hu1.out.size; have q2 := ho12_1.out.lt; exact ⟨q, q2⟩
          refine wpAnyX_ready (rs := [10]) (by kernel_rfl) (by simp) (AllX.cons rfl (fun K hK => ?_) AllX.nil)
          have e3 := ho11_2.out.cell 0
          have f3 := ho11_2.out.froz 0
          simp at e3
          go_simp
          refine hK _ _ (Sx.behind (by kernel_rfl) (hu2.out.setCell (show _ ≤ u1.heap.size by have := h11.out; omega) _)) ?_
          clear hK K
          obtain ⟨u3, he3⟩ : ∃ v, u2.setCell ⟨u1.heap.size, 0, none⟩ (Value.int .i64 (s.sz (rt b))) = v := ⟨_, rfl⟩
          rw [he3]
          have hu3 : Hid (Below w5.heap.size w5 u3) := by show Below _ _ _; rw [← he3]; exact hu2.out.setCell (show _ ≤ u1.heap.size by have := h11.out; omega) _
          have ho11_3 : Hid (Bx u3 u1.heap.size #[Value.int .i64 (s.sz (rt b))] 3) := by show Bx _ _ _ _; rw [← he3]; exact ho11_2.out.set 0 _
          have ho12_3 : Hid (Bx u3 u0.heap.size #[Value.int .i64 0] 2) := by show Bx _ _ _ _; rw [← he3]; exact ho12_2.out.other (by have := h11.out; have := h12.out; omega) 0 _
          clear he3 e3 f3
          refine wpAnyX_ready (rs := [11]) (by kernel_rfl) (by simp) (AllX.cons rfl (fun K hK => ?_) AllX.nil)
          have e4 := ho12_3.out.cell 0
          have f4 := ho12_3.out.froz 0
          simp at e4
          go_simp
          refine hK _ _ (Sx.behind (by kernel_rfl) (hu3.out.setCell (show _ ≤ u0.heap.size by have := h12.out; omega) _)) ?_
          clear hK K
          obtain ⟨u4, he4⟩ : ∃ v, u3.setCell ⟨u0.heap.size, 0, none⟩ (Value.int .i64 (s.le (rt b))) = v := ⟨_, rfl⟩
          rw [he4]
          have hu4 : Hid (Below w5.heap.size w5 u4) := by show Below _ _ _; rw [← he4]; exact hu3.out.setCell (show _ ≤ u0.heap.size by have := h12.out; omega) _
          have ho12_4 : Hid (Bx u4 u0.heap.size #[Value.int .i64 (s.le (rt b))] 2) := by show Bx _ _ _ _; rw [← he4]; exact ho12_3.out.set 0 _
          have ho11_4 : Hid (Bx u4 u1.heap.size #[Value.int .i64 (s.sz (rt b))] 3) := by show Bx _ _ _ _; rw [← he4]; exact ho11_3.out.other (by have := h11.out; have := h12.out; omega) 0 _
          clear he4 e4 f4
          refine wpAnyX_done (by kernel_rfl) ?_ _
          exact ⟨rfl, u1.heap.size, u0.heap.size, rfl, by have := h11.out; have := h12.out; omega, by have := h11.out; omega, by have := h12.out; omega, ho11_4.out, ho12_4.out, hu4.out⟩
      · rintro a' w6 ⟨o11, o12, rfl, hn11, hl11, hl12, x11, x12, hb6⟩
        have HB6 := kide (HB5.out.trans (hb6.mono hz5))
        have XA := kide (Bx.later C0.out HB6.out)
        have XB := kide (Bx.later C1.out HB6.out)
        have X96 := kide (X95.out.later hb6)
        have X106 := kide (X105.out.later hb6)
        have X11 := kide x11
        have X12 := kide x12
        have gA := XA.out.cell 0
        have gB := XB.out.cell 0
        simp at gA gB
        clear x11 x12 hb6 X95 X105 g9 g10 s9 l9 HG5
        go_wp2_with fail
        have hb8 : Below w6.heap.size w6 (w6.alloc (Obj.cells #[Value.pointer (some ⟨pa, 0, none⟩), Value.pointer (some ⟨pb, 0, none⟩), Value.int .i64 y, Value.func (Fn.func 66) #[] #[Value.pointer (some ⟨o11, 0, none⟩), Value.pointer (some ⟨o12, 0, none⟩), Value.pointer (some ⟨o10, 0, none⟩), Value.pointer (some ⟨o9, 0, none⟩), Value.pointer (some ⟨A0, 0, none⟩), Value.pointer (some ⟨A1, 0, none⟩)]] 97)) := (Below.refl _ _).alloc (Nat.le_refl _) _
        have XT := kide (Bx.new w6 #[Value.pointer (some ⟨pa, 0, none⟩), Value.pointer (some ⟨pb, 0, none⟩), Value.int .i64 y, Value.func (Fn.func 66) #[] #[Value.pointer (some ⟨o11, 0, none⟩), Value.pointer (some ⟨o12, 0, none⟩), Value.pointer (some ⟨o10, 0, none⟩), Value.pointer (some ⟨o9, 0, none⟩), Value.pointer (some ⟨A0, 0, none⟩), Value.pointer (some ⟨A1, 0, none⟩)]] 97)
        have hz6 := HB6.out.size
        obtain ⟨T0, hT0⟩ : ∃ T0, w6.heap.size = T0 := ⟨_, rfl⟩
        rw [hT0] at XT hb8 ⊢
        rw [hT0] at hz6
        have HB8 := kide (HB6.out.trans (hb8.mono hz6))
        have XA8 := kide (XA.out.later (by rw [hT0]; exact hb8))
        have XB8 := kide (XB.out.later (by rw [hT0]; exact hb8))
        have X98 := kide (X96.out.later (by rw [hT0]; exact hb8))
        have X108 := kide (X106.out.later (by rw [hT0]; exact hb8))
        have X118 := kide (X11.out.later (by rw [hT0]; exact hb8))
        have X128 := kide (X12.out.later (by rw [hT0]; exact hb8))
        have HT0 := kide hT0
        clear hb8 hT0 XA XB X96 X106 X11 X12 gA gB
        generalize w6.alloc (Obj.cells #[Value.pointer (some ⟨pa, 0, none⟩), Value.pointer (some ⟨pb, 0, none⟩), Value.int .i64 y, Value.func (Fn.func 66) #[] #[Value.pointer (some ⟨o11, 0, none⟩), Value.pointer (some ⟨o12, 0, none⟩), Value.pointer (some ⟨o10, 0, none⟩), Value.pointer (some ⟨o9, 0, none⟩), Value.pointer (some ⟨A0, 0, none⟩), Value.pointer (some ⟨A1, 0, none⟩)]] 97) = w8 at *
        generalize hfv : Value.func (Fn.func 66) #[] #[Value.pointer (some ⟨o11, 0, none⟩), Value.pointer (some ⟨o12, 0, none⟩), Value.pointer (some ⟨o10, 0, none⟩), Value.pointer (some ⟨o9, 0, none⟩), Value.pointer (some ⟨A0, 0, none⟩), Value.pointer (some ⟨A1, 0, none⟩)] = fv at *
        have HFV := kide hfv
        clear hfv
        have HG8 := kide (HG2.out.later HB8.out)
        have XL8 := kide (XL2.out.later HB8.out)
        refine region_cut (fun a' w' => a' = ({ tmps := #[Value.pointer (some ⟨G, 0, none⟩), Value.pointer (some ⟨pa, 0, none⟩), Value.pointer (some ⟨pb, 0, none⟩), Value.int .i64 y, undef, Value.pointer (some ⟨A0, 0, none⟩), Value.pointer (some ⟨A1, 0, none⟩), undef, Value.bool false, Value.pointer (some ⟨o9, 0, none⟩), Value.pointer (some ⟨o10, 0, none⟩), Value.pointer (some ⟨o11, 0, none⟩), Value.pointer (some ⟨o12, 0, none⟩), Value.pointer (some ⟨T0, 0, none⟩), Value.pointer (some ⟨pa, 0, none⟩), Value.pointer (some ⟨pu, 0, none⟩), Value.pointer (some ⟨pb, 0, none⟩), Value.pointer (some ⟨po, 0, none⟩), Value.pointer (some ⟨pu, 0, none⟩), Value.pointer (some ⟨po, 0, none⟩), Value.bool false, Value.pointer (some ⟨pu, 0, none⟩), Value.pointer (some ⟨pu, 0, none⟩), Value.pointer (some ⟨pu, 3, none⟩), Value.int .i64 (s.sz (rt a)), Value.pointer (some ⟨po, 0, none⟩), Value.pointer (some ⟨po, 0, none⟩), Value.pointer (some ⟨po, 3, none⟩), Value.int .i64 (s.sz (rt b)), Value.bool true, Value.pointer (some ⟨po, 0, none⟩), Value.pointer (some ⟨pu, 0, none⟩), Value.pointer (some ⟨po, 0, none⟩), Value.pointer (some ⟨po, 0, none⟩), Value.pointer (some ⟨po, 3, none⟩), Value.int .i64 (s.sz (rt b)), Value.pointer (some ⟨po, 0, none⟩), Value.pointer (some ⟨po, 0, none⟩), Value.pointer (some ⟨po, 4, none⟩), Value.int .i64 (s.le (rt b)), Value.pointer (some ⟨pa, 0, none⟩), Value.pointer (some ⟨pb, 0, none⟩), Value.int .i64 y, Value.agg #[Value.pointer (some ⟨pa, 0, none⟩), Value.pointer (some ⟨pb, 0, none⟩), Value.int .i64 y, Value.nilFunc], Value.pointer (some ⟨T0, 0, none⟩), Value.pointer (some ⟨T0, 0, none⟩), fv, Value.pointer (some ⟨T0, 0, none⟩), Value.pointer (some ⟨T0, 3, none⟩), Value.pointer (some ⟨pu, 0, none⟩), Value.pointer (some ⟨po, 0, none⟩), Value.pointer (some ⟨po, 0, none⟩), Value.pointer (some ⟨po, 0, none⟩), Value.int .i64 (s.sz (rt b)), Value.pointer (some ⟨pu, 0, none⟩), Value.pointer (some ⟨pu, 0, none⟩), Value.pointer (some ⟨pu, 3, none⟩), Value.int .i64 (s.sz (rt a)), Value.int .i64 (IntKind.i64.wrap (s.sz (rt b) + s.sz (rt a))), Value.int .i64 (s.le (rt b)), Value.pointer (some ⟨pu, 0, none⟩), Value.pointer (some ⟨pu, 0, none⟩), Value.pointer (some ⟨pu, 4, none⟩), Value.int .i64 (s.le (rt a)), Value.int .i64 (min (s.le (rt b)) (s.le (rt a))), Value.pointer (some ⟨pu, 0, none⟩), Value.pointer (some ⟨pu, 2, none⟩), Value.pointer (some ⟨po, 0, none⟩), Value.pointer (some ⟨po, 3, none⟩), Value.pointer (some ⟨po, 0, none⟩), Value.pointer (some ⟨po, 4, none⟩), undef, undef, undef, undef, undef, undef, undef, undef, undef, undef, undef, undef, undef, undef, undef, undef, undef, undef, undef, undef, undef, undef, undef, undef, undef], defers := [] } : Act) ∧ Gv w' B G M { s with up := (fun j => if j = rt a then some (rt b) else s.up j), sz := (fun j => if j = rt b then (IntKind.i64.wrap (s.sz (rt b) + s.sz (rt a))) else s.sz j), le := (fun j => if j = rt b then (min (s.le (rt b)) (s.le (rt a))) else s.le j) } ∧ Bx w' T0 #[Value.pointer (some ⟨pa, 0, none⟩), Value.pointer (some ⟨pb, 0, none⟩), Value.int .i64 y, fv] 97 ∧ Bx w' A0 #[Value.pointer (some ⟨pa, 0, none⟩)] 70 ∧ Bx w' A1 #[Value.pointer (some ⟨pb, 0, none⟩)] 70 ∧ Below B w w' ∧ w8.heap.size ≤ w'.heap.size ∧ Kt w8 w') ?_ ?_
        have hrne : rt b ≠ rt a := Ne.symm hne
        · refine wp_region_x (SA := fun _ => False) (SB := fun u => u.cell? ⟨o10, 0, none⟩ = some (Value.pointer (some ⟨pu, 0, none⟩)) ∧ u.cell? ⟨o9, 0, none⟩ = some (Value.pointer (some ⟨po, 0, none⟩)) ∧ u.cell? ⟨o11, 0, none⟩ = some (Value.int .i64 (s.sz (rt b))) ∧ u.cell? ⟨pu, 3, none⟩ = some (Value.int .i64 (s.sz (rt a))) ∧ u.cell? ⟨o12, 0, none⟩ = some (Value.int .i64 (s.le (rt b))) ∧ u.cell? ⟨pu, 4, none⟩ = some (Value.int .i64 (s.le (rt a)))) (k := 999) (by kernel_rfl) ?_
          have hbd : Below w8.heap.size w8 w8.drew := (Below.refl _ _).drew
          have HGu0 := kide (HG8.out.later hbd)
          have XTu0 := kide (XT.out.later hbd)
          have XAu0 := kide (XA8.out.later hbd)
          have XBu0 := kide (XB8.out.later hbd)
          have X9u0 := kide (X98.out.later hbd)
          have X10u0 := kide (X108.out.later hbd)
          have X11u0 := kide (X118.out.later hbd)
          have X12u0 := kide (X128.out.later hbd)
          have XLu0 : Hid (Kt w8 w8.drew) := Kt.of_below hbd
          have BBu0 : Hid (Below B w w8.drew) := ((HB2.out.trans (HB8.out.mono HB2.out.size)).mono hBw).drew
          have hzu0 : w8.heap.size ≤ w8.drew.heap.size := Nat.le_refl _
          generalize w8.drew = u0 at *
          have HPO : Hid (s.ps[rt b]?.getD 0 = po) := by show _ = _; rw [HRO.out]; rfl
          have hs0 : Hid ((fun u => u.cell? ⟨o10, 0, none⟩ = some (Value.pointer (some ⟨pu, 0, none⟩)) ∧ u.cell? ⟨o9, 0, none⟩ = some (Value.pointer (some ⟨po, 0, none⟩)) ∧ u.cell? ⟨o11, 0, none⟩ = some (Value.int .i64 (s.sz (rt b))) ∧ u.cell? ⟨pu, 3, none⟩ = some (Value.int .i64 (s.sz (rt a))) ∧ u.cell? ⟨o12, 0, none⟩ = some (Value.int .i64 (s.le (rt b))) ∧ u.cell? ⟨pu, 4, none⟩ = some (Value.int .i64 (s.le (rt a)))) u0) := by
            have k1 := HGu0.out.get HRU.out
            exact ⟨X10u0.out.cell 0, X9u0.out.cell 0, X11u0.out.cell 0, k1.2.2.2.1, X12u0.out.cell 0, k1.2.2.2.2⟩
          try go_simp
          refine wpAnyX_both (T := fun u => u.cell? ⟨o10, 0, none⟩ = some (Value.pointer (some ⟨pu, 0, none⟩)) ∧ u.cell? ⟨o9, 0, none⟩ = some (Value.pointer (some ⟨po, 0, none⟩)) ∧ u.cell? ⟨o11, 0, none⟩ = some (Value.int .i64 (s.sz (rt b))) ∧ u.cell? ⟨pu, 3, none⟩ = some (Value.int .i64 (s.sz (rt a))) ∧ u.cell? ⟨o12, 0, none⟩ = some (Value.int .i64 (s.le (rt b))) ∧ u.cell? ⟨pu, 4, none⟩ = some (Value.int .i64 (s.le (rt a)))) (i := 0) (v := Value.pointer (some ⟨pu, 0, none⟩)) rfl (by kernel_rfl) (by kernel_rfl) (by kernel_rfl) (fun _ _ _ h => by first | exact h | exact h.elim | cases h.1) (by decide) (fun _ h => h.elim) (fun _ h => h) (Sx.behind (by kernel_rfl) hs0.out) (Or.inl ⟨by rfl, fun u hu => by obtain ⟨e1, e2, e3, e4, e5, e6⟩ := hu; go_simp⟩) ?_
          try go_simp
          refine wpAnyX_both (T := fun u => u.cell? ⟨o10, 0, none⟩ = some (Value.pointer (some ⟨pu, 0, none⟩)) ∧ u.cell? ⟨o9, 0, none⟩ = some (Value.pointer (some ⟨po, 0, none⟩)) ∧ u.cell? ⟨o11, 0, none⟩ = some (Value.int .i64 (s.sz (rt b))) ∧ u.cell? ⟨pu, 3, none⟩ = some (Value.int .i64 (s.sz (rt a))) ∧ u.cell? ⟨o12, 0, none⟩ = some (Value.int .i64 (s.le (rt b))) ∧ u.cell? ⟨pu, 4, none⟩ = some (Value.int .i64 (s.le (rt a)))) (i := 1) (v := Value.pointer (some ⟨po, 0, none⟩)) rfl (by kernel_rfl) (by kernel_rfl) (by kernel_rfl) (fun _ _ _ h => by first | exact h | exact h.elim | cases h.1) (by decide) (fun _ h => h.elim) (fun _ h => h) (Sx.behind (by kernel_rfl) hs0.out) (Or.inl ⟨by rfl, fun u hu => by obtain ⟨e1, e2, e3, e4, e5, e6⟩ := hu; go_simp⟩) ?_
          try go_simp
          refine wpAnyX_both (T := fun u => u.cell? ⟨o10, 0, none⟩ = some (Value.pointer (some ⟨pu, 0, none⟩)) ∧ u.cell? ⟨o9, 0, none⟩ = some (Value.pointer (some ⟨po, 0, none⟩)) ∧ u.cell? ⟨o11, 0, none⟩ = some (Value.int .i64 (s.sz (rt b))) ∧ u.cell? ⟨pu, 3, none⟩ = some (Value.int .i64 (s.sz (rt a))) ∧ u.cell? ⟨o12, 0, none⟩ = some (Value.int .i64 (s.le (rt b))) ∧ u.cell? ⟨pu, 4, none⟩ = some (Value.int .i64 (s.le (rt a)))) (i := 2) (v := Value.pointer (some ⟨po, 0, none⟩)) rfl (by kernel_rfl) (by kernel_rfl) (by kernel_rfl) (fun _ _ _ h => by first | exact h | exact h.elim | cases h.1) (by decide) (fun _ h => h.elim) (fun _ h => h) (Sx.behind (by kernel_rfl) hs0.out) (Or.inl ⟨by rfl, fun u hu => by obtain ⟨e1, e2, e3, e4, e5, e6⟩ := hu; go_simp⟩) ?_
          try go_simp
          refine wpAnyX_both (T := fun u => u.cell? ⟨o10, 0, none⟩ = some (Value.pointer (some ⟨pu, 0, none⟩)) ∧ u.cell? ⟨o9, 0, none⟩ = some (Value.pointer (some ⟨po, 0, none⟩)) ∧ u.cell? ⟨o11, 0, none⟩ = some (Value.int .i64 (s.sz (rt b))) ∧ u.cell? ⟨pu, 3, none⟩ = some (Value.int .i64 (s.sz (rt a))) ∧ u.cell? ⟨o12, 0, none⟩ = some (Value.int .i64 (s.le (rt b))) ∧ u.cell? ⟨pu, 4, none⟩ = some (Value.int .i64 (s.le (rt a)))) (i := 3) (v := Value.pointer (some ⟨po, 0, none⟩)) rfl (by kernel_rfl) (by kernel_rfl) (by kernel_rfl) (fun _ _ _ h => by first | exact h | exact h.elim | cases h.1) (by decide) (fun _ h => h.elim) (fun _ h => h) (Sx.behind (by kernel_rfl) hs0.out) (Or.inl ⟨by rfl, fun u hu => by obtain ⟨e1, e2, e3, e4, e5, e6⟩ := hu; go_simp⟩) ?_
          try go_simp
          refine wpAnyX_both (T := fun u => u.cell? ⟨o10, 0, none⟩ = some (Value.pointer (some ⟨pu, 0, none⟩)) ∧ u.cell? ⟨o9, 0, none⟩ = some (Value.pointer (some ⟨po, 0, none⟩)) ∧ u.cell? ⟨o11, 0, none⟩ = some (Value.int .i64 (s.sz (rt b))) ∧ u.cell? ⟨pu, 3, none⟩ = some (Value.int .i64 (s.sz (rt a))) ∧ u.cell? ⟨o12, 0, none⟩ = some (Value.int .i64 (s.le (rt b))) ∧ u.cell? ⟨pu, 4, none⟩ = some (Value.int .i64 (s.le (rt a)))) (i := 4) (v := Value.int .i64 (s.sz (rt b))) rfl (by kernel_rfl) (by kernel_rfl) (by kernel_rfl) (fun _ _ _ h => by first | exact h | exact h.elim | cases h.1) (by decide) (fun _ h => h.elim) (fun _ h => h) (Sx.behind (by kernel_rfl) hs0.out) (Or.inl ⟨by rfl, fun u hu => by obtain ⟨e1, e2, e3, e4, e5, e6⟩ := hu; go_simp⟩) ?_
          try go_simp
          refine wpAnyX_both (T := fun u => u.cell? ⟨o10, 0, none⟩ = some (Value.pointer (some ⟨pu, 0, none⟩)) ∧ u.cell? ⟨o9, 0, none⟩ = some (Value.pointer (some ⟨po, 0, none⟩)) ∧ u.cell? ⟨o11, 0, none⟩ = some (Value.int .i64 (s.sz (rt b))) ∧ u.cell? ⟨pu, 3, none⟩ = some (Value.int .i64 (s.sz (rt a))) ∧ u.cell? ⟨o12, 0, none⟩ = some (Value.int .i64 (s.le (rt b))) ∧ u.cell? ⟨pu, 4, none⟩ = some (Value.int .i64 (s.le (rt a)))) (i := 5) (v := Value.pointer (some ⟨pu, 0, none⟩)) rfl (by kernel_rfl) (by kernel_rfl) (by kernel_rfl) (fun _ _ _ h => by first | exact h | exact h.elim | cases h.1) (by decide) (fun _ h => h.elim) (fun _ h => h) (Sx.behind (by kernel_rfl) hs0.out) (Or.inl ⟨by rfl, fun u hu => by obtain ⟨e1, e2, e3, e4, e5, e6⟩ := hu; go_simp⟩) ?_
          try go_simp
          refine wpAnyX_both (T := fun u => u.cell? ⟨o10, 0, none⟩ = some (Value.pointer (some ⟨pu, 0, none⟩)) ∧ u.cell? ⟨o9, 0, none⟩ = some (Value.pointer (some ⟨po, 0, none⟩)) ∧ u.cell? ⟨o11, 0, none⟩ = some (Value.int .i64 (s.sz (rt b))) ∧ u.cell? ⟨pu, 3, none⟩ = some (Value.int .i64 (s.sz (rt a))) ∧ u.cell? ⟨o12, 0, none⟩ = some (Value.int .i64 (s.le (rt b))) ∧ u.cell? ⟨pu, 4, none⟩ = some (Value.int .i64 (s.le (rt a)))) (i := 6) (v := Value.pointer (some ⟨pu, 0, none⟩)) rfl (by kernel_rfl) (by kernel_rfl) (by kernel_rfl) (fun _ _ _ h => by first | exact h | exact h.elim | cases h.1) (by decide) (fun _ h => h.elim) (fun _ h => h) (Sx.behind (by kernel_rfl) hs0.out) (Or.inl ⟨by rfl, fun u hu => by go_simp⟩) ?_
          try go_simp
          refine wpAnyX_both (T := fun u => u.cell? ⟨o10, 0, none⟩ = some (Value.pointer (some ⟨pu, 0, none⟩)) ∧ u.cell? ⟨o9, 0, none⟩ = some (Value.pointer (some ⟨po, 0, none⟩)) ∧ u.cell? ⟨o11, 0, none⟩ = some (Value.int .i64 (s.sz (rt b))) ∧ u.cell? ⟨pu, 3, none⟩ = some (Value.int .i64 (s.sz (rt a))) ∧ u.cell? ⟨o12, 0, none⟩ = some (Value.int .i64 (s.le (rt b))) ∧ u.cell? ⟨pu, 4, none⟩ = some (Value.int .i64 (s.le (rt a)))) (i := 7) (v := Value.pointer (some ⟨pu, 3, none⟩)) rfl (by kernel_rfl) (by kernel_rfl) (by kernel_rfl) (fun _ _ _ h => by first | exact h | exact h.elim | cases h.1) (by decide) (fun _ h => h.elim) (fun _ h => h) (Sx.behind (by kernel_rfl) hs0.out) (Or.inl ⟨by rfl, fun u hu => by go_simp⟩) ?_
          try go_simp
          refine wpAnyX_both (T := fun u => u.cell? ⟨o10, 0, none⟩ = some (Value.pointer (some ⟨pu, 0, none⟩)) ∧ u.cell? ⟨o9, 0, none⟩ = some (Value.pointer (some ⟨po, 0, none⟩)) ∧ u.cell? ⟨o11, 0, none⟩ = some (Value.int .i64 (s.sz (rt b))) ∧ u.cell? ⟨pu, 3, none⟩ = some (Value.int .i64 (s.sz (rt a))) ∧ u.cell? ⟨o12, 0, none⟩ = some (Value.int .i64 (s.le (rt b))) ∧ u.cell? ⟨pu, 4, none⟩ = some (Value.int .i64 (s.le (rt a)))) (i := 8) (v := Value.int .i64 (s.sz (rt a))) rfl (by kernel_rfl) (by kernel_rfl) (by kernel_rfl) (fun _ _ _ h => by first | exact h | exact h.elim | cases h.1) (by decide) (fun _ h => h.elim) (fun _ h => h) (Sx.behind (by kernel_rfl) hs0.out) (Or.inl ⟨by rfl, fun u hu => by obtain ⟨e1, e2, e3, e4, e5, e6⟩ := hu; go_simp⟩) ?_
          try go_simp
          refine wpAnyX_both (T := fun u => u.cell? ⟨o10, 0, none⟩ = some (Value.pointer (some ⟨pu, 0, none⟩)) ∧ u.cell? ⟨o9, 0, none⟩ = some (Value.pointer (some ⟨po, 0, none⟩)) ∧ u.cell? ⟨o11, 0, none⟩ = some (Value.int .i64 (s.sz (rt b))) ∧ u.cell? ⟨pu, 3, none⟩ = some (Value.int .i64 (s.sz (rt a))) ∧ u.cell? ⟨o12, 0, none⟩ = some (Value.int .i64 (s.le (rt b))) ∧ u.cell? ⟨pu, 4, none⟩ = some (Value.int .i64 (s.le (rt a)))) (i := 9) (v := Value.int .i64 (IntKind.i64.wrap (s.sz (rt b) + s.sz (rt a)))) rfl (by kernel_rfl) (by kernel_rfl) (by kernel_rfl) (fun _ _ _ h => by first | exact h | exact h.elim | cases h.1) (by decide) (fun _ h => h.elim) (fun _ h => h) (Sx.behind (by kernel_rfl) hs0.out) (Or.inl ⟨by rfl, fun u hu => by go_simp⟩) ?_
          try go_simp
          refine wpAnyX_both (T := fun u => u.cell? ⟨o10, 0, none⟩ = some (Value.pointer (some ⟨pu, 0, none⟩)) ∧ u.cell? ⟨o9, 0, none⟩ = some (Value.pointer (some ⟨po, 0, none⟩)) ∧ u.cell? ⟨o11, 0, none⟩ = some (Value.int .i64 (s.sz (rt b))) ∧ u.cell? ⟨pu, 3, none⟩ = some (Value.int .i64 (s.sz (rt a))) ∧ u.cell? ⟨o12, 0, none⟩ = some (Value.int .i64 (s.le (rt b))) ∧ u.cell? ⟨pu, 4, none⟩ = some (Value.int .i64 (s.le (rt a)))) (i := 10) (v := Value.int .i64 (s.le (rt b))) rfl (by kernel_rfl) (by kernel_rfl) (by kernel_rfl) (fun _ _ _ h => by first | exact h | exact h.elim | cases h.1) (by decide) (fun _ h => h.elim) (fun _ h => h) (Sx.behind (by kernel_rfl) hs0.out) (Or.inl ⟨by rfl, fun u hu => by obtain ⟨e1, e2, e3, e4, e5, e6⟩ := hu; go_simp⟩) ?_
          try go_simp
          refine wpAnyX_both (T := fun u => u.cell? ⟨o10, 0, none⟩ = some (Value.pointer (some ⟨pu, 0, none⟩)) ∧ u.cell? ⟨o9, 0, none⟩ = some (Value.pointer (some ⟨po, 0, none⟩)) ∧ u.cell? ⟨o11, 0, none⟩ = some (Value.int .i64 (s.sz (rt b))) ∧ u.cell? ⟨pu, 3, none⟩ = some (Value.int .i64 (s.sz (rt a))) ∧ u.cell? ⟨o12, 0, none⟩ = some (Value.int .i64 (s.le (rt b))) ∧ u.cell? ⟨pu, 4, none⟩ = some (Value.int .i64 (s.le (rt a)))) (i := 11) (v := Value.pointer (some ⟨pu, 0, none⟩)) rfl (by kernel_rfl) (by kernel_rfl) (by kernel_rfl) (fun _ _ _ h => by first | exact h | exact h.elim | cases h.1) (by decide) (fun _ h => h.elim) (fun _ h => h) (Sx.behind (by kernel_rfl) hs0.out) (Or.inl ⟨by rfl, fun u hu => by obtain ⟨e1, e2, e3, e4, e5, e6⟩ := hu; go_simp⟩) ?_
          try go_simp
          refine wpAnyX_both (T := fun u => u.cell? ⟨o10, 0, none⟩ = some (Value.pointer (some ⟨pu, 0, none⟩)) ∧ u.cell? ⟨o9, 0, none⟩ = some (Value.pointer (some ⟨po, 0, none⟩)) ∧ u.cell? ⟨o11, 0, none⟩ = some (Value.int .i64 (s.sz (rt b))) ∧ u.cell? ⟨pu, 3, none⟩ = some (Value.int .i64 (s.sz (rt a))) ∧ u.cell? ⟨o12, 0, none⟩ = some (Value.int .i64 (s.le (rt b))) ∧ u.cell? ⟨pu, 4, none⟩ = some (Value.int .i64 (s.le (rt a)))) (i := 12) (v := Value.pointer (some ⟨pu, 0, none⟩)) rfl (by kernel_rfl) (by kernel_rfl) (by kernel_rfl) (fun _ _ _ h => by first | exact h | exact h.elim | cases h.1) (by decide) (fun _ h => h.elim) (fun _ h => h) (Sx.behind (by kernel_rfl) hs0.out) (Or.inl ⟨by rfl, fun u hu => by go_simp⟩) ?_
          try go_simp
          refine wpAnyX_both (T := fun u => u.cell? ⟨o10, 0, none⟩ = some (Value.pointer (some ⟨pu, 0, none⟩)) ∧ u.cell? ⟨o9, 0, none⟩ = some (Value.pointer (some ⟨po, 0, none⟩)) ∧ u.cell? ⟨o11, 0, none⟩ = some (Value.int .i64 (s.sz (rt b))) ∧ u.cell? ⟨pu, 3, none⟩ = some (Value.int .i64 (s.sz (rt a))) ∧ u.cell? ⟨o12, 0, none⟩ = some (Value.int .i64 (s.le (rt b))) ∧ u.cell? ⟨pu, 4, none⟩ = some (Value.int .i64 (s.le (rt a)))) (i := 13) (v := Value.pointer (some ⟨pu, 4, none⟩)) rfl (by kernel_rfl) (by kernel_rfl) (by kernel_rfl) (fun _ _ _ h => by first | exact h | exact h.elim | cases h.1) (by decide) (fun _ h => h.elim) (fun _ h => h) (Sx.behind (by kernel_rfl) hs0.out) (Or.inl ⟨by rfl, fun u hu => by go_simp⟩) ?_
          try go_simp
          refine wpAnyX_both (T := fun u => u.cell? ⟨o10, 0, none⟩ = some (Value.pointer (some ⟨pu, 0, none⟩)) ∧ u.cell? ⟨o9, 0, none⟩ = some (Value.pointer (some ⟨po, 0, none⟩)) ∧ u.cell? ⟨o11, 0, none⟩ = some (Value.int .i64 (s.sz (rt b))) ∧ u.cell? ⟨pu, 3, none⟩ = some (Value.int .i64 (s.sz (rt a))) ∧ u.cell? ⟨o12, 0, none⟩ = some (Value.int .i64 (s.le (rt b))) ∧ u.cell? ⟨pu, 4, none⟩ = some (Value.int .i64 (s.le (rt a)))) (i := 14) (v := Value.int .i64 (s.le (rt a))) rfl (by kernel_rfl) (by kernel_rfl) (by kernel_rfl) (fun _ _ _ h => by first | exact h | exact h.elim | cases h.1) (by decide) (fun _ h => h.elim) (fun _ h => h) (Sx.behind (by kernel_rfl) hs0.out) (Or.inl ⟨by rfl, fun u hu => by obtain ⟨e1, e2, e3, e4, e5, e6⟩ := hu; go_simp⟩) ?_
          try go_simp
          refine wpAnyX_both (T := fun u => u.cell? ⟨o10, 0, none⟩ = some (Value.pointer (some ⟨pu, 0, none⟩)) ∧ u.cell? ⟨o9, 0, none⟩ = some (Value.pointer (some ⟨po, 0, none⟩)) ∧ u.cell? ⟨o11, 0, none⟩ = some (Value.int .i64 (s.sz (rt b))) ∧ u.cell? ⟨pu, 3, none⟩ = some (Value.int .i64 (s.sz (rt a))) ∧ u.cell? ⟨o12, 0, none⟩ = some (Value.int .i64 (s.le (rt b))) ∧ u.cell? ⟨pu, 4, none⟩ = some (Value.int .i64 (s.le (rt a)))) (i := 15) (v := Value.int .i64 (min (s.le (rt b)) (s.le (rt a)))) rfl (by kernel_rfl) (by kernel_rfl) (by kernel_rfl) (fun _ _ _ h => by first | exact h | exact h.elim | cases h.1) (by decide) (fun _ h => h.elim) (fun _ h => h) (Sx.behind (by kernel_rfl) hs0.out) (Or.inl ⟨by rfl, fun u hu => by go_simp; (try simp); omega⟩) ?_
          try go_simp
          refine wpAnyX_both (T := fun u => u.cell? ⟨o10, 0, none⟩ = some (Value.pointer (some ⟨pu, 0, none⟩)) ∧ u.cell? ⟨o9, 0, none⟩ = some (Value.pointer (some ⟨po, 0, none⟩)) ∧ u.cell? ⟨o11, 0, none⟩ = some (Value.int .i64 (s.sz (rt b))) ∧ u.cell? ⟨pu, 3, none⟩ = some (Value.int .i64 (s.sz (rt a))) ∧ u.cell? ⟨o12, 0, none⟩ = some (Value.int .i64 (s.le (rt b))) ∧ u.cell? ⟨pu, 4, none⟩ = some (Value.int .i64 (s.le (rt a)))) (i := 16) (v := Value.pointer (some ⟨pu, 0, none⟩)) rfl (by kernel_rfl) (by kernel_rfl) (by kernel_rfl) (fun _ _ _ h => by first | exact h | exact h.elim | cases h.1) (by decide) (fun _ h => h.elim) (fun _ h => h) (Sx.behind (by kernel_rfl) hs0.out) (Or.inl ⟨by rfl, fun u hu => by go_simp⟩) ?_
          try go_simp
          refine wpAnyX_both (T := fun u => u.cell? ⟨o10, 0, none⟩ = some (Value.pointer (some ⟨pu, 0, none⟩)) ∧ u.cell? ⟨o9, 0, none⟩ = some (Value.pointer (some ⟨po, 0, none⟩)) ∧ u.cell? ⟨o11, 0, none⟩ = some (Value.int .i64 (s.sz (rt b))) ∧ u.cell? ⟨pu, 3, none⟩ = some (Value.int .i64 (s.sz (rt a))) ∧ u.cell? ⟨o12, 0, none⟩ = some (Value.int .i64 (s.le (rt b))) ∧ u.cell? ⟨pu, 4, none⟩ = some (Value.int .i64 (s.le (rt a)))) (i := 17) (v := Value.pointer (some ⟨pu, 2, none⟩)) rfl (by kernel_rfl) (by kernel_rfl) (by kernel_rfl) (fun _ _ _ h => by first | exact h | exact h.elim | cases h.1) (by decide) (fun _ h => h.elim) (fun _ h => h) (Sx.behind (by kernel_rfl) hs0.out) (Or.inl ⟨by rfl, fun u hu => by go_simp⟩) ?_
          try go_simp
          refine wpAnyX_ready (rs := [18]) (by kernel_rfl) (by simp) (AllX.cons rfl (fun K hK => ?_) AllX.nil)
          have q1 := HGu0.out.get HRU.out
          have f1 := frozen_of_row u0 pu 2 _ _ (HGu0.out.kn _ _ HRU.out).2
          obtain ⟨qa1, qb1, qc1, qd1, qe1⟩ := q1
          go_simp
          have HGu1 : Hid (Gv (u0.setCell ⟨pu, 2, none⟩ (Value.pointer (some ⟨po, 0, none⟩))) B G M { s with tc := s.tc, up := (fun j => if j = rt a then some (rt b) else s.up j), sz := s.sz, le := s.le }) := by
            refine HGu0.out.knot HRU.out 2 _ s.tc (fun j => if j = rt a then some (rt b) else s.up j) s.sz s.le (fun j hj => by simp [hj]) ?_
            simp [knotCells, upv, pt, HPO.out, hpou]
          have XAu1 : Hid (Bx (u0.setCell ⟨pu, 2, none⟩ (Value.pointer (some ⟨po, 0, none⟩))) A0 #[Value.pointer (some ⟨pa, 0, none⟩)] 70) := XAu0.out.other (XAu0.out.apart (HGu0.out.kn _ _ HRU.out).2 (by first | decide | assumption)) 2 _
          have XBu1 : Hid (Bx (u0.setCell ⟨pu, 2, none⟩ (Value.pointer (some ⟨po, 0, none⟩))) A1 #[Value.pointer (some ⟨pb, 0, none⟩)] 70) := XBu0.out.other (XBu0.out.apart (HGu0.out.kn _ _ HRU.out).2 (by first | decide | assumption)) 2 _
          have X9u1 : Hid (Bx (u0.setCell ⟨pu, 2, none⟩ (Value.pointer (some ⟨po, 0, none⟩))) o9 #[Value.pointer (some ⟨po, 0, none⟩)] 70) := X9u0.out.other (X9u0.out.apart (HGu0.out.kn _ _ HRU.out).2 (by first | decide | assumption)) 2 _
          have X10u1 : Hid (Bx (u0.setCell ⟨pu, 2, none⟩ (Value.pointer (some ⟨po, 0, none⟩))) o10 #[Value.pointer (some ⟨pu, 0, none⟩)] 70) := X10u0.out.other (X10u0.out.apart (HGu0.out.kn _ _ HRU.out).2 (by first | decide | assumption)) 2 _
          have X11u1 : Hid (Bx (u0.setCell ⟨pu, 2, none⟩ (Value.pointer (some ⟨po, 0, none⟩))) o11 #[Value.int .i64 (s.sz (rt b))] 3) := X11u0.out.other (X11u0.out.apart (HGu0.out.kn _ _ HRU.out).2 (by first | decide | assumption)) 2 _
          have X12u1 : Hid (Bx (u0.setCell ⟨pu, 2, none⟩ (Value.pointer (some ⟨po, 0, none⟩))) o12 #[Value.int .i64 (s.le (rt b))] 2) := X12u0.out.other (X12u0.out.apart (HGu0.out.kn _ _ HRU.out).2 (by first | decide | assumption)) 2 _
          have XLu1 : Hid (Kt w8 (u0.setCell ⟨pu, 2, none⟩ (Value.pointer (some ⟨po, 0, none⟩)))) := XLu0.out.set (HGu0.out.kn _ _ HRU.out).2 (.inl rfl) _
          have XTu1 : Hid (Bx (u0.setCell ⟨pu, 2, none⟩ (Value.pointer (some ⟨po, 0, none⟩))) T0 #[Value.pointer (some ⟨pa, 0, none⟩), Value.pointer (some ⟨pb, 0, none⟩), Value.int .i64 y, fv] 97) := XTu0.out.other (XTu0.out.apart (HGu0.out.kn _ _ HRU.out).2 (by first | decide | assumption)) 2 _
          have BBu1 : Hid (Below B w (u0.setCell ⟨pu, 2, none⟩ (Value.pointer (some ⟨po, 0, none⟩)))) := BBu0.out.setCell (HGu0.out.kn _ _ HRU.out).1 _
          have hzu1 : w8.heap.size ≤ (u0.setCell ⟨pu, 2, none⟩ (Value.pointer (some ⟨po, 0, none⟩))).heap.size := by simpa using hzu0
          generalize u0.setCell ⟨pu, 2, none⟩ (Value.pointer (some ⟨po, 0, none⟩)) = u1 at *
          have hs1 : Hid ((fun u => u.cell? ⟨o10, 0, none⟩ = some (Value.pointer (some ⟨pu, 0, none⟩)) ∧ u.cell? ⟨o9, 0, none⟩ = some (Value.pointer (some ⟨po, 0, none⟩)) ∧ u.cell? ⟨o11, 0, none⟩ = some (Value.int .i64 (s.sz (rt b))) ∧ u.cell? ⟨pu, 3, none⟩ = some (Value.int .i64 (s.sz (rt a))) ∧ u.cell? ⟨o12, 0, none⟩ = some (Value.int .i64 (s.le (rt b))) ∧ u.cell? ⟨pu, 4, none⟩ = some (Value.int .i64 (s.le (rt a)))) u1) := by
            have k1 := HGu1.out.get HRU.out
            exact ⟨X10u1.out.cell 0, X9u1.out.cell 0, X11u1.out.cell 0, k1.2.2.2.1.trans (by simp [Ne.symm hrne]), X12u1.out.cell 0, k1.2.2.2.2.trans (by simp [Ne.symm hrne])⟩
          refine hK _ _ (Sx.behind (by kernel_rfl) hs1.out) ?_
          clear hK K
          clear qa1 qb1 qc1 qd1 qe1 f1
          try go_simp
          refine wpAnyX_both (T := fun u => u.cell? ⟨o10, 0, none⟩ = some (Value.pointer (some ⟨pu, 0, none⟩)) ∧ u.cell? ⟨o9, 0, none⟩ = some (Value.pointer (some ⟨po, 0, none⟩)) ∧ u.cell? ⟨o11, 0, none⟩ = some (Value.int .i64 (s.sz (rt b))) ∧ u.cell? ⟨pu, 3, none⟩ = some (Value.int .i64 (s.sz (rt a))) ∧ u.cell? ⟨o12, 0, none⟩ = some (Value.int .i64 (s.le (rt b))) ∧ u.cell? ⟨pu, 4, none⟩ = some (Value.int .i64 (s.le (rt a)))) (i := 19) (v := Value.pointer (some ⟨po, 0, none⟩)) rfl (by kernel_rfl) (by kernel_rfl) (by kernel_rfl) (fun _ _ _ h => by first | exact h | exact h.elim | cases h.1) (by decide) (fun _ h => h.elim) (fun _ h => h) (Sx.behind (by kernel_rfl) hs1.out) (Or.inl ⟨by rfl, fun u hu => by go_simp⟩) ?_
          try go_simp
          refine wpAnyX_both (T := fun u => u.cell? ⟨o10, 0, none⟩ = some (Value.pointer (some ⟨pu, 0, none⟩)) ∧ u.cell? ⟨o9, 0, none⟩ = some (Value.pointer (some ⟨po, 0, none⟩)) ∧ u.cell? ⟨o11, 0, none⟩ = some (Value.int .i64 (s.sz (rt b))) ∧ u.cell? ⟨pu, 3, none⟩ = some (Value.int .i64 (s.sz (rt a))) ∧ u.cell? ⟨o12, 0, none⟩ = some (Value.int .i64 (s.le (rt b))) ∧ u.cell? ⟨pu, 4, none⟩ = some (Value.int .i64 (s.le (rt a)))) (i := 20) (v := Value.pointer (some ⟨po, 3, none⟩)) rfl (by kernel_rfl) (by kernel_rfl) (by kernel_rfl) (fun _ _ _ h => by first | exact h | exact h.elim | cases h.1) (by decide) (fun _ h => h.elim) (fun _ h => h) (Sx.behind (by kernel_rfl) hs1.out) (Or.inl ⟨by rfl, fun u hu => by go_simp⟩) ?_
          try go_simp
          refine wpAnyX_ready (rs := [21]) (by kernel_rfl) (by simp) (AllX.cons rfl (fun K hK => ?_) AllX.nil)
          have q2 := HGu1.out.get HRO.out
          have f2 := frozen_of_row u1 po 3 _ _ (HGu1.out.kn _ _ HRO.out).2
          obtain ⟨qa2, qb2, qc2, qd2, qe2⟩ := q2
          go_simp
          have HGu2 : Hid (Gv (u1.setCell ⟨po, 3, none⟩ (Value.int .i64 (IntKind.i64.wrap (s.sz (rt b) + s.sz (rt a))))) B G M { s with tc := s.tc, up := (fun j => if j = rt a then some (rt b) else s.up j), sz := (fun j => if j = rt b then (IntKind.i64.wrap (s.sz (rt b) + s.sz (rt a))) else s.sz j), le := s.le }) := by
            refine HGu1.out.knot HRO.out 3 _ s.tc (fun j => if j = rt a then some (rt b) else s.up j) (fun j => if j = rt b then (IntKind.i64.wrap (s.sz (rt b) + s.sz (rt a))) else s.sz j) s.le (fun j hj => by simp [hj]) ?_
            simp [knotCells, upv, pt, HPO.out, hpou]
          have XAu2 : Hid (Bx (u1.setCell ⟨po, 3, none⟩ (Value.int .i64 (IntKind.i64.wrap (s.sz (rt b) + s.sz (rt a))))) A0 #[Value.pointer (some ⟨pa, 0, none⟩)] 70) := XAu1.out.other (XAu1.out.apart (HGu1.out.kn _ _ HRO.out).2 (by first | decide | assumption)) 3 _
          have XBu2 : Hid (Bx (u1.setCell ⟨po, 3, none⟩ (Value.int .i64 (IntKind.i64.wrap (s.sz (rt b) + s.sz (rt a))))) A1 #[Value.pointer (some ⟨pb, 0, none⟩)] 70) := XBu1.out.other (XBu1.out.apart (HGu1.out.kn _ _ HRO.out).2 (by first | decide | assumption)) 3 _
          have X9u2 : Hid (Bx (u1.setCell ⟨po, 3, none⟩ (Value.int .i64 (IntKind.i64.wrap (s.sz (rt b) + s.sz (rt a))))) o9 #[Value.pointer (some ⟨po, 0, none⟩)] 70) := X9u1.out.other (X9u1.out.apart (HGu1.out.kn _ _ HRO.out).2 (by first | decide | assumption)) 3 _
          have X10u2 : Hid (Bx (u1.setCell ⟨po, 3, none⟩ (Value.int .i64 (IntKind.i64.wrap (s.sz (rt b) + s.sz (rt a))))) o10 #[Value.pointer (some ⟨pu, 0, none⟩)] 70) := X10u1.out.other (X10u1.out.apart (HGu1.out.kn _ _ HRO.out).2 (by first | decide | assumption)) 3 _
          have X11u2 : Hid (Bx (u1.setCell ⟨po, 3, none⟩ (Value.int .i64 (IntKind.i64.wrap (s.sz (rt b) + s.sz (rt a))))) o11 #[Value.int .i64 (s.sz (rt b))] 3) := X11u1.out.other (X11u1.out.apart (HGu1.out.kn _ _ HRO.out).2 (by first | decide | assumption)) 3 _
          have X12u2 : Hid (Bx (u1.setCell ⟨po, 3, none⟩ (Value.int .i64 (IntKind.i64.wrap (s.sz (rt b) + s.sz (rt a))))) o12 #[Value.int .i64 (s.le (rt b))] 2) := X12u1.out.other (X12u1.out.apart (HGu1.out.kn _ _ HRO.out).2 (by first | decide | assumption)) 3 _
          have XLu2 : Hid (Kt w8 (u1.setCell ⟨po, 3, none⟩ (Value.int .i64 (IntKind.i64.wrap (s.sz (rt b) + s.sz (rt a)))))) := XLu1.out.set (HGu1.out.kn _ _ HRO.out).2 (.inl rfl) _
          have XTu2 : Hid (Bx (u1.setCell ⟨po, 3, none⟩ (Value.int .i64 (IntKind.i64.wrap (s.sz (rt b) + s.sz (rt a))))) T0 #[Value.pointer (some ⟨pa, 0, none⟩), Value.pointer (some ⟨pb, 0, none⟩), Value.int .i64 y, fv] 97) := XTu1.out.other (XTu1.out.apart (HGu1.out.kn _ _ HRO.out).2 (by first | decide | assumption)) 3 _
          have BBu2 : Hid (Below B w (u1.setCell ⟨po, 3, none⟩ (Value.int .i64 (IntKind.i64.wrap (s.sz (rt b) + s.sz (rt a)))))) := BBu1.out.setCell (HGu1.out.kn _ _ HRO.out).1 _
          have hzu2 : w8.heap.size ≤ (u1.setCell ⟨po, 3, none⟩ (Value.int .i64 (IntKind.i64.wrap (s.sz (rt b) + s.sz (rt a))))).heap.size := by simpa using hzu1
          generalize u1.setCell ⟨po, 3, none⟩ (Value.int .i64 (IntKind.i64.wrap (s.sz (rt b) + s.sz (rt a)))) = u2 at *
          have hs2 : Hid ((fun u => u.cell? ⟨o10, 0, none⟩ = some (Value.pointer (some ⟨pu, 0, none⟩)) ∧ u.cell? ⟨o9, 0, none⟩ = some (Value.pointer (some ⟨po, 0, none⟩)) ∧ u.cell? ⟨o11, 0, none⟩ = some (Value.int .i64 (s.sz (rt b))) ∧ u.cell? ⟨pu, 3, none⟩ = some (Value.int .i64 (s.sz (rt a))) ∧ u.cell? ⟨o12, 0, none⟩ = some (Value.int .i64 (s.le (rt b))) ∧ u.cell? ⟨pu, 4, none⟩ = some (Value.int .i64 (s.le (rt a)))) u2) := by
            have k1 := HGu2.out.get HRU.out
            exact ⟨X10u2.out.cell 0, X9u2.out.cell 0, X11u2.out.cell 0, k1.2.2.2.1.trans (by simp [Ne.symm hrne]), X12u2.out.cell 0, k1.2.2.2.2.trans (by simp [Ne.symm hrne])⟩
          refine hK _ _ (Sx.behind (by kernel_rfl) hs2.out) ?_
          clear hK K
          clear qa2 qb2 qc2 qd2 qe2 f2
          try go_simp
          refine wpAnyX_both (T := fun u => u.cell? ⟨o10, 0, none⟩ = some (Value.pointer (some ⟨pu, 0, none⟩)) ∧ u.cell? ⟨o9, 0, none⟩ = some (Value.pointer (some ⟨po, 0, none⟩)) ∧ u.cell? ⟨o11, 0, none⟩ = some (Value.int .i64 (s.sz (rt b))) ∧ u.cell? ⟨pu, 3, none⟩ = some (Value.int .i64 (s.sz (rt a))) ∧ u.cell? ⟨o12, 0, none⟩ = some (Value.int .i64 (s.le (rt b))) ∧ u.cell? ⟨pu, 4, none⟩ = some (Value.int .i64 (s.le (rt a)))) (i := 22) (v := Value.pointer (some ⟨po, 0, none⟩)) rfl (by kernel_rfl) (by kernel_rfl) (by kernel_rfl) (fun _ _ _ h => by first | exact h | exact h.elim | cases h.1) (by decide) (fun _ h => h.elim) (fun _ h => h) (Sx.behind (by kernel_rfl) hs2.out) (Or.inl ⟨by rfl, fun u hu => by go_simp⟩) ?_
          try go_simp
          refine wpAnyX_both (T := fun u => u.cell? ⟨o10, 0, none⟩ = some (Value.pointer (some ⟨pu, 0, none⟩)) ∧ u.cell? ⟨o9, 0, none⟩ = some (Value.pointer (some ⟨po, 0, none⟩)) ∧ u.cell? ⟨o11, 0, none⟩ = some (Value.int .i64 (s.sz (rt b))) ∧ u.cell? ⟨pu, 3, none⟩ = some (Value.int .i64 (s.sz (rt a))) ∧ u.cell? ⟨o12, 0, none⟩ = some (Value.int .i64 (s.le (rt b))) ∧ u.cell? ⟨pu, 4, none⟩ = some (Value.int .i64 (s.le (rt a)))) (i := 23) (v := Value.pointer (some ⟨po, 4, none⟩)) rfl (by kernel_rfl) (by kernel_rfl) (by kernel_rfl) (fun _ _ _ h => by first | exact h | exact h.elim | cases h.1) (by decide) (fun _ h => h.elim) (fun _ h => h) (Sx.behind (by kernel_rfl) hs2.out) (Or.inl ⟨by rfl, fun u hu => by go_simp⟩) ?_
          try go_simp
          refine wpAnyX_ready (rs := [24]) (by kernel_rfl) (by simp) (AllX.cons rfl (fun K hK => ?_) AllX.nil)
          have q3 := HGu2.out.get HRO.out
          have f3 := frozen_of_row u2 po 4 _ _ (HGu2.out.kn _ _ HRO.out).2
          obtain ⟨qa3, qb3, qc3, qd3, qe3⟩ := q3
          go_simp
          have HGu3 : Hid (Gv (u2.setCell ⟨po, 4, none⟩ (Value.int .i64 (min (s.le (rt b)) (s.le (rt a))))) B G M { s with tc := s.tc, up := (fun j => if j = rt a then some (rt b) else s.up j), sz := (fun j => if j = rt b then (IntKind.i64.wrap (s.sz (rt b) + s.sz (rt a))) else s.sz j), le := (fun j => if j = rt b then (min (s.le (rt b)) (s.le (rt a))) else s.le j) }) := by
            refine HGu2.out.knot HRO.out 4 _ s.tc (fun j => if j = rt a then some (rt b) else s.up j) (fun j => if j = rt b then (IntKind.i64.wrap (s.sz (rt b) + s.sz (rt a))) else s.sz j) (fun j => if j = rt b then (min (s.le (rt b)) (s.le (rt a))) else s.le j) (fun j hj => by simp [hj]) ?_
            simp [knotCells, upv, pt, HPO.out, hpou]
          have XAu3 : Hid (Bx (u2.setCell ⟨po, 4, none⟩ (Value.int .i64 (min (s.le (rt b)) (s.le (rt a))))) A0 #[Value.pointer (some ⟨pa, 0, none⟩)] 70) := XAu2.out.other (XAu2.out.apart (HGu2.out.kn _ _ HRO.out).2 (by first | decide | assumption)) 4 _
          have XBu3 : Hid (Bx (u2.setCell ⟨po, 4, none⟩ (Value.int .i64 (min (s.le (rt b)) (s.le (rt a))))) A1 #[Value.pointer (some ⟨pb, 0, none⟩)] 70) := XBu2.out.other (XBu2.out.apart (HGu2.out.kn _ _ HRO.out).2 (by first | decide | assumption)) 4 _
          have X9u3 : Hid (Bx (u2.setCell ⟨po, 4, none⟩ (Value.int .i64 (min (s.le (rt b)) (s.le (rt a))))) o9 #[Value.pointer (some ⟨po, 0, none⟩)] 70) := X9u2.out.other (X9u2.out.apart (HGu2.out.kn _ _ HRO.out).2 (by first | decide | assumption)) 4 _
          have X10u3 : Hid (Bx (u2.setCell ⟨po, 4, none⟩ (Value.int .i64 (min (s.le (rt b)) (s.le (rt a))))) o10 #[Value.pointer (some ⟨pu, 0, none⟩)] 70) := X10u2.out.other (X10u2.out.apart (HGu2.out.kn _ _ HRO.out).2 (by first | decide | assumption)) 4 _
          have X11u3 : Hid (Bx (u2.setCell ⟨po, 4, none⟩ (Value.int .i64 (min (s.le (rt b)) (s.le (rt a))))) o11 #[Value.int .i64 (s.sz (rt b))] 3) := X11u2.out.other (X11u2.out.apart (HGu2.out.kn _ _ HRO.out).2 (by first | decide | assumption)) 4 _
          have X12u3 : Hid (Bx (u2.setCell ⟨po, 4, none⟩ (Value.int .i64 (min (s.le (rt b)) (s.le (rt a))))) o12 #[Value.int .i64 (s.le (rt b))] 2) := X12u2.out.other (X12u2.out.apart (HGu2.out.kn _ _ HRO.out).2 (by first | decide | assumption)) 4 _
          have XLu3 : Hid (Kt w8 (u2.setCell ⟨po, 4, none⟩ (Value.int .i64 (min (s.le (rt b)) (s.le (rt a)))))) := XLu2.out.set (HGu2.out.kn _ _ HRO.out).2 (.inl rfl) _
          have XTu3 : Hid (Bx (u2.setCell ⟨po, 4, none⟩ (Value.int .i64 (min (s.le (rt b)) (s.le (rt a))))) T0 #[Value.pointer (some ⟨pa, 0, none⟩), Value.pointer (some ⟨pb, 0, none⟩), Value.int .i64 y, fv] 97) := XTu2.out.other (XTu2.out.apart (HGu2.out.kn _ _ HRO.out).2 (by first | decide | assumption)) 4 _
          have BBu3 : Hid (Below B w (u2.setCell ⟨po, 4, none⟩ (Value.int .i64 (min (s.le (rt b)) (s.le (rt a)))))) := BBu2.out.setCell (HGu2.out.kn _ _ HRO.out).1 _
          have hzu3 : w8.heap.size ≤ (u2.setCell ⟨po, 4, none⟩ (Value.int .i64 (min (s.le (rt b)) (s.le (rt a))))).heap.size := by simpa using hzu2
          generalize u2.setCell ⟨po, 4, none⟩ (Value.int .i64 (min (s.le (rt b)) (s.le (rt a)))) = u3 at *
          have hs3 : Hid ((fun u => u.cell? ⟨o10, 0, none⟩ = some (Value.pointer (some ⟨pu, 0, none⟩)) ∧ u.cell? ⟨o9, 0, none⟩ = some (Value.pointer (some ⟨po, 0, none⟩)) ∧ u.cell? ⟨o11, 0, none⟩ = some (Value.int .i64 (s.sz (rt b))) ∧ u.cell? ⟨pu, 3, none⟩ = some (Value.int .i64 (s.sz (rt a))) ∧ u.cell? ⟨o12, 0, none⟩ = some (Value.int .i64 (s.le (rt b))) ∧ u.cell? ⟨pu, 4, none⟩ = some (Value.int .i64 (s.le (rt a)))) u3) := by
            have k1 := HGu3.out.get HRU.out
            exact ⟨X10u3.out.cell 0, X9u3.out.cell 0, X11u3.out.cell 0, k1.2.2.2.1.trans (by simp [Ne.symm hrne]), X12u3.out.cell 0, k1.2.2.2.2.trans (by simp [Ne.symm hrne])⟩
          refine hK _ _ (Sx.behind (by kernel_rfl) hs3.out) ?_
          clear hK K
          clear qa3 qb3 qc3 qd3 qe3 f3
          try go_simp
          refine wpAnyX_done (by kernel_rfl) ?_ _
          exact ⟨rfl, rfl, HGu3.out, XTu3.out, XAu3.out, XBu3.out, BBu3.out, hzu3, XLu3.out⟩
        · rintro a' w9 ⟨rfl, hg9, xt9, xa9, xb9, bb9, hz9, xl9⟩
          have hab : a ≠ b := fun e => hne (by rw [e])
          have HG9 := kide (hg9.more (Nat.le_succ M))
          obtain ⟨va, hva⟩ : ∃ v, s.tv a = v := ⟨_, rfl⟩
          obtain ⟨vb, hvb⟩ : ∃ v, s.tv b = v := ⟨_, rfl⟩
          have hta : Hid (s.tc a = va) := (HNL.out.t a).trans hva
          have htb : Hid (s.tc b = vb) := (HNL.out.t b).trans hvb
          obtain ⟨csa, hcsa⟩ : ∃ c : List Value, c = (s.tl a).map pt := ⟨_, rfl⟩
          have hca : csa.length ≤ M := by rw [hcsa, List.length_map]; exact (hg9.tr a hal).1
          have oa9 : w9.ownsRow B 85 1 (s.tv a) csa.length csa := by rw [hcsa, List.length_map]; exact (hg9.tr a hal).2
          have HCa := kide hcsa
          have hla9 : Hid ((s.tl a).length = csa.length) := by show _ = _; rw [hcsa, List.length_map]
          clear hcsa
          obtain ⟨csb, hcsb⟩ : ∃ c : List Value, c = (s.tl b).map pt := ⟨_, rfl⟩
          have hcb : csb.length ≤ M := by rw [hcsb, List.length_map]; exact (hg9.tr b hbl).1
          have ob9 : w9.ownsRow B 85 1 (s.tv b) csb.length csb := by rw [hcsb, List.length_map]; exact (hg9.tr b hbl).2
          have HCb := kide hcsb
          have hlb9 : Hid ((s.tl b).length = csb.length) := by show _ = _; rw [hcsb, List.length_map]
          clear hcsb
          have oa9' : w9.ownsRow B 85 1 va csa.length csa := by rw [← hva]; exact oa9
          have ob9' : w9.ownsRow B 85 1 vb csb.length csb := by rw [← hvb]; exact ob9
          have hla : Hid (∀ k, va.ownBlock = some k → k < w9.heap.size) := fun k hk => (own_lt oa9' hk).2
          have hlb : Hid (∀ k, vb.ownBlock = some k → k < w9.heap.size) := fun k hk => (own_lt ob9' hk).2
          have hvab : Hid (∀ k, vb.ownBlock = some k → va.ownBlock ≠ some k) := fun k hk => by
            have := hg9.dj b a hbl hal (Ne.symm hab) k (by show (s.tv b).ownBlock = _; rw [hvb]; exact hk)
            rw [← hva]; exact this
          have HVA := kide hva
          have HVB := kide hvb
          have HZ9 := kide hz9
          have HWB := kide (HB2.out.trans (HB8.out.mono HB2.out.size))
          clear HG2 HG8 HB8 HB6 HB5 HB2 C0 C1 hg9 oa9 ob9 hva hvb hz9
          go_wp2_with fail
          refine region_cut (fun a' w' => (∃ b7 b14 g8 c8 g15 c15, a' = ({ tmps := #[Value.pointer (some ⟨G, 0, none⟩), Value.pointer (some ⟨pa, 0, none⟩), Value.pointer (some ⟨pb, 0, none⟩), Value.int .i64 y, undef, Value.pointer (some ⟨A0, 0, none⟩), Value.pointer (some ⟨A1, 0, none⟩), undef, Value.bool false, Value.pointer (some ⟨o9, 0, none⟩), Value.pointer (some ⟨o10, 0, none⟩), Value.pointer (some ⟨o11, 0, none⟩), Value.pointer (some ⟨o12, 0, none⟩), Value.pointer (some ⟨T0, 0, none⟩), Value.pointer (some ⟨pa, 0, none⟩), Value.pointer (some ⟨pu, 0, none⟩), Value.pointer (some ⟨pb, 0, none⟩), Value.pointer (some ⟨po, 0, none⟩), Value.pointer (some ⟨pu, 0, none⟩), Value.pointer (some ⟨po, 0, none⟩), Value.bool false, Value.pointer (some ⟨pu, 0, none⟩), Value.pointer (some ⟨pu, 0, none⟩), Value.pointer (some ⟨pu, 3, none⟩), Value.int .i64 (s.sz (rt a)), Value.pointer (some ⟨po, 0, none⟩), Value.pointer (some ⟨po, 0, none⟩), Value.pointer (some ⟨po, 3, none⟩), Value.int .i64 (s.sz (rt b)), Value.bool true, Value.pointer (some ⟨po, 0, none⟩), Value.pointer (some ⟨pu, 0, none⟩), Value.pointer (some ⟨po, 0, none⟩), Value.pointer (some ⟨po, 0, none⟩), Value.pointer (some ⟨po, 3, none⟩), Value.int .i64 (s.sz (rt b)), Value.pointer (some ⟨po, 0, none⟩), Value.pointer (some ⟨po, 0, none⟩), Value.pointer (some ⟨po, 4, none⟩), Value.int .i64 (s.le (rt b)), Value.pointer (some ⟨pa, 0, none⟩), Value.pointer (some ⟨pb, 0, none⟩), Value.int .i64 y, Value.agg #[Value.pointer (some ⟨pa, 0, none⟩), Value.pointer (some ⟨pb, 0, none⟩), Value.int .i64 y, Value.nilFunc], Value.pointer (some ⟨T0, 0, none⟩), Value.pointer (some ⟨T0, 0, none⟩), fv, Value.pointer (some ⟨T0, 0, none⟩), Value.pointer (some ⟨T0, 3, none⟩), Value.pointer (some ⟨pu, 0, none⟩), Value.pointer (some ⟨po, 0, none⟩), Value.pointer (some ⟨po, 0, none⟩), Value.pointer (some ⟨po, 0, none⟩), Value.int .i64 (s.sz (rt b)), Value.pointer (some ⟨pu, 0, none⟩), Value.pointer (some ⟨pu, 0, none⟩), Value.pointer (some ⟨pu, 3, none⟩), Value.int .i64 (s.sz (rt a)), Value.int .i64 (IntKind.i64.wrap (s.sz (rt b) + s.sz (rt a))), Value.int .i64 (s.le (rt b)), Value.pointer (some ⟨pu, 0, none⟩), Value.pointer (some ⟨pu, 0, none⟩), Value.pointer (some ⟨pu, 4, none⟩), Value.int .i64 (s.le (rt a)), Value.int .i64 (min (s.le (rt b)) (s.le (rt a))), Value.pointer (some ⟨pu, 0, none⟩), Value.pointer (some ⟨pu, 2, none⟩), Value.pointer (some ⟨po, 0, none⟩), Value.pointer (some ⟨po, 3, none⟩), Value.pointer (some ⟨po, 0, none⟩), Value.pointer (some ⟨po, 4, none⟩), Value.pointer (some ⟨pa, 0, none⟩), Value.pointer (some ⟨pb, 0, none⟩), Value.pointer (some ⟨pa, 0, none⟩), Value.pointer (some ⟨pa, 0, none⟩), Value.pointer (some ⟨pa, 1, none⟩), va, Value.pointer (some ⟨T0, 0, none⟩), Value.slice (some ⟨b7, 0, none⟩) 1 1, Value.slice (some ⟨g8, 0, none⟩) (csa.length + 1) c8, Value.pointer (some ⟨pb, 0, none⟩), Value.pointer (some ⟨pb, 0, none⟩), Value.pointer (some ⟨pb, 1, none⟩), vb, Value.pointer (some ⟨T0, 0, none⟩), Value.slice (some ⟨b14, 0, none⟩) 1 1, Value.slice (some ⟨g15, 0, none⟩) (csb.length + 1) c15, Value.pointer (some ⟨pa, 0, none⟩), Value.pointer (some ⟨pa, 1, none⟩), Value.pointer (some ⟨pb, 0, none⟩), Value.pointer (some ⟨pb, 1, none⟩), undef, undef, undef, undef, undef], defers := [] } : Act)) ∧ (∃ s', Gv w' B G (M + 1) s' ∧ s'.up = (fun j => if j = rt a then some (rt b) else s.up j) ∧ s'.le = (fun j => if j = rt b then (min (s.le (rt b)) (s.le (rt a))) else s.le j) ∧ s'.ps = s.ps ∧ s'.ts = s.ts ∧ s'.ls = s.ls ∧ s'.kc = s.kc ∧ s'.kv = s.kv ∧ s'.ic = s.ic ∧ s'.iv = s.iv ∧ (∀ j, s'.tc j = s'.tv j) ∧ (s'.tl = fun j => if j = b then s.tl b ++ [T0] else if j = a then s.tl a ++ [T0] else s.tl j)) ∧ Bx w' T0 #[Value.pointer (some ⟨pa, 0, none⟩), Value.pointer (some ⟨pb, 0, none⟩), Value.int .i64 y, fv] 97 ∧ Below B w w' ∧ Kt w8 w') ?_ ?_
          · refine wp_region_x (SA := fun u => u.cell? ⟨A0, 0, none⟩ = some (Value.pointer (some ⟨pa, 0, none⟩)) ∧ u.cell? ⟨A1, 0, none⟩ = some (Value.pointer (some ⟨pb, 0, none⟩)) ∧ u.cell? ⟨pa, 1, none⟩ = some va ∧ u.cell? ⟨pb, 1, none⟩ = some vb) (SB := fun u => u.cell? ⟨A1, 0, none⟩ = some (Value.pointer (some ⟨pb, 0, none⟩))) (k := 18) (by kernel_rfl) ?_
            have hbd : Below w9.heap.size w9 w9.drew := (Below.refl _ _).drew
            have HGu0 := kide (HG9.out.later hbd)
            have XTu0 := kide (xt9.later hbd)
            have XAu0 := kide (xa9.later hbd)
            have XBu0 := kide (xb9.later hbd)
            have XLu0 := kide (xl9.later hbd)
            have Oau0 := kide (own_later oa9' hbd)
            have Obu0 := kide (own_later ob9' hbd)
            have BBu0 : Hid (Below B w w9.drew) := bb9.drew
            have hzu0 : w9.heap.size ≤ w9.drew.heap.size := Nat.le_refl _
            have hBw9 : B ≤ w9.heap.size := Nat.le_trans hBw bb9.size
            generalize w9.drew = u0 at *
            have hs0 : Hid ((fun u => u.cell? ⟨A0, 0, none⟩ = some (Value.pointer (some ⟨pa, 0, none⟩)) ∧ u.cell? ⟨A1, 0, none⟩ = some (Value.pointer (some ⟨pb, 0, none⟩)) ∧ u.cell? ⟨pa, 1, none⟩ = some va ∧ u.cell? ⟨pb, 1, none⟩ = some vb) u0) := by
              have k1 := HGu0.out.get HA.out
              have k2 := HGu0.out.get HB.out
              exact ⟨XAu0.out.cell 0, XBu0.out.cell 0, k1.2.1.trans (congrArg some hta.out), k2.2.1.trans (congrArg some htb.out)⟩
            clear xt9 xa9 xb9 bb9 oa9' ob9' hbd xl9
            try go_simp
            refine wpAnyX_take (i := 0) (v := Value.pointer (some ⟨pa, 0, none⟩)) rfl (by kernel_rfl) (by kernel_rfl) (by kernel_rfl) (fun _ _ _ h => by first | exact h | exact h.elim | cases h.1) (by decide) (by kernel_rfl) (by kernel_rfl) hs0.out (Or.inl ⟨by rfl, fun u hu => by obtain ⟨e1, e2, e3, e4⟩ := hu; go_simp⟩) ?_
            try go_simp
            refine wpAnyX_both (T := fun u => u.cell? ⟨A1, 0, none⟩ = some (Value.pointer (some ⟨pb, 0, none⟩))) (i := 1) (v := Value.pointer (some ⟨pb, 0, none⟩)) rfl (by kernel_rfl) (by kernel_rfl) (by kernel_rfl) (fun _ _ _ h => by first | exact h | exact h.elim | cases h.1) (by decide) (fun _ h => h.2.1) (fun _ h => h) (Sx.before (by kernel_rfl) hs0.out) (Or.inl ⟨by rfl, fun u hu => by have e1 := hu; go_simp⟩) ?_
            try go_simp
            refine wpAnyX_take (i := 2) (v := Value.pointer (some ⟨pa, 0, none⟩)) rfl (by kernel_rfl) (by kernel_rfl) (by kernel_rfl) (fun _ _ _ h => by first | exact h | exact h.elim | cases h.1) (by decide) (by kernel_rfl) (by kernel_rfl) hs0.out (Or.inl ⟨by rfl, fun u hu => by obtain ⟨e1, e2, e3, e4⟩ := hu; go_simp⟩) ?_
            try go_simp
            refine wpAnyX_both (T := fun _ => True) (i := 3) (v := Value.pointer (some ⟨pa, 0, none⟩)) rfl (by kernel_rfl) (by kernel_rfl) (by kernel_rfl) (fun _ _ _ h => by first | exact h | exact h.elim | cases h.1) (by decide) (fun _ _ => trivial) (fun _ _ => trivial) (Sx.before (by kernel_rfl) hs0.out) (Or.inl ⟨by rfl, fun u hu => by go_simp⟩) ?_
            try go_simp
            refine wpAnyX_both (T := fun _ => True) (i := 4) (v := Value.pointer (some ⟨pa, 1, none⟩)) rfl (by kernel_rfl) (by kernel_rfl) (by kernel_rfl) (fun _ _ _ h => by first | exact h | exact h.elim | cases h.1) (by decide) (fun _ _ => trivial) (fun _ _ => trivial) (Sx.before (by kernel_rfl) hs0.out) (Or.inl ⟨by rfl, fun u hu => by go_simp⟩) ?_
            try go_simp
            refine wpAnyX_take (i := 5) (v := va) rfl (by kernel_rfl) (by kernel_rfl) (by kernel_rfl) (fun _ _ _ h => by first | exact h | exact h.elim | cases h.1) (by decide) (by kernel_rfl) (by kernel_rfl) hs0.out (Or.inl ⟨by rfl, fun u hu => by obtain ⟨e1, e2, e3, e4⟩ := hu; go_simp⟩) ?_
            try go_simp
            refine wpAnyX_both (T := fun _ => True) (i := 6) (v := Value.pointer (some ⟨T0, 0, none⟩)) rfl (by kernel_rfl) (by kernel_rfl) (by kernel_rfl) (fun _ _ _ h => by first | exact h | exact h.elim | cases h.1) (by decide) (fun _ _ => trivial) (fun _ _ => trivial) (Sx.before (by kernel_rfl) hs0.out) (Or.inl ⟨by rfl, fun u hu => by go_simp⟩) ?_
            try go_simp
            refine wpAnyX_both (T := fun u => u.cell? ⟨A1, 0, none⟩ = some (Value.pointer (some ⟨pb, 0, none⟩))) (i := 9) (v := Value.pointer (some ⟨pb, 0, none⟩)) rfl (by kernel_rfl) (by kernel_rfl) (by kernel_rfl) (fun _ _ _ h => by first | exact h | exact h.elim | cases h.1) (by decide) (fun _ h => h.2.1) (fun _ h => h) (Sx.before (by kernel_rfl) hs0.out) (Or.inl ⟨by rfl, fun u hu => by have e1 := hu; go_simp⟩) ?_
            try go_simp
            refine wpAnyX_both (T := fun _ => True) (i := 10) (v := Value.pointer (some ⟨pb, 0, none⟩)) rfl (by kernel_rfl) (by kernel_rfl) (by kernel_rfl) (fun _ _ _ h => by first | exact h | exact h.elim | cases h.1) (by decide) (fun _ _ => trivial) (fun _ _ => trivial) (Sx.before (by kernel_rfl) hs0.out) (Or.inl ⟨by rfl, fun u hu => by go_simp⟩) ?_
            try go_simp
            refine wpAnyX_both (T := fun _ => True) (i := 11) (v := Value.pointer (some ⟨pb, 1, none⟩)) rfl (by kernel_rfl) (by kernel_rfl) (by kernel_rfl) (fun _ _ _ h => by first | exact h | exact h.elim | cases h.1) (by decide) (fun _ _ => trivial) (fun _ _ => trivial) (Sx.before (by kernel_rfl) hs0.out) (Or.inl ⟨by rfl, fun u hu => by go_simp⟩) ?_
            try go_simp
            refine wpAnyX_take (i := 12) (v := vb) rfl (by kernel_rfl) (by kernel_rfl) (by kernel_rfl) (fun _ _ _ h => by first | exact h | exact h.elim | cases h.1) (by decide) (by kernel_rfl) (by kernel_rfl) hs0.out (Or.inl ⟨by rfl, fun u hu => by obtain ⟨e1, e2, e3, e4⟩ := hu; go_simp⟩) ?_
            try go_simp
            refine wpAnyX_both (T := fun _ => True) (i := 13) (v := Value.pointer (some ⟨T0, 0, none⟩)) rfl (by kernel_rfl) (by kernel_rfl) (by kernel_rfl) (fun _ _ _ h => by first | exact h | exact h.elim | cases h.1) (by decide) (fun _ _ => trivial) (fun _ _ => trivial) (Sx.before (by kernel_rfl) hs0.out) (Or.inl ⟨by rfl, fun u hu => by go_simp⟩) ?_
            try go_simp
            refine wpAnyX_ready (rs := [7, 14]) (by kernel_rfl) (by simp) (AllX.cons rfl (fun K hK => ?_) (AllX.cons rfl (fun K hK => ?_) AllX.nil))
            · go_simp
              have hbx1 : Below u0.heap.size u0 (u0.alloc (Obj.cells #[Value.pointer (some ⟨T0, 0, none⟩)] 85)) := (Below.refl _ _).alloc (Nat.le_refl _) _
              have HGu1 := kide (HGu0.out.later hbx1)
              have XTu1 := kide (XTu0.out.later hbx1)
              have XAu1 := kide (XAu0.out.later hbx1)
              have XBu1 := kide (XBu0.out.later hbx1)
              have XLu1 := kide (XLu0.out.later hbx1)
              have Oau1 := kide (own_later Oau0.out hbx1)
              have Obu1 := kide (own_later Obu0.out hbx1)
              have Yb7u1 := kide (Bx.new u0 #[Value.pointer (some ⟨T0, 0, none⟩)] 85)
              have BBu1 : Hid (Below B w (u0.alloc (Obj.cells #[Value.pointer (some ⟨T0, 0, none⟩)] 85))) := BBu0.out.alloc (by have := hzu0; omega) _
              have hzu1 : w9.heap.size ≤ (u0.alloc (Obj.cells #[Value.pointer (some ⟨T0, 0, none⟩)] 85)).heap.size := by have := hbx1.size; omega
              have hyb7 : Hid (w9.heap.size ≤ u0.heap.size) := hzu0
              obtain ⟨b7, hbb7⟩ : ∃ x, u0.heap.size = x := ⟨_, rfl⟩
              rw [hbb7] at Yb7u1 hyb7 ⊢
              clear hbb7 hbx1
              generalize u0.alloc (Obj.cells #[Value.pointer (some ⟨T0, 0, none⟩)] 85) = u1 at *
              have hs1 : Hid ((fun u => u.cell? ⟨A0, 0, none⟩ = some (Value.pointer (some ⟨pa, 0, none⟩)) ∧ u.cell? ⟨A1, 0, none⟩ = some (Value.pointer (some ⟨pb, 0, none⟩)) ∧ u.cell? ⟨pa, 1, none⟩ = some va ∧ u.cell? ⟨pb, 1, none⟩ = some vb) u1) := by
                have k1 := HGu1.out.get HA.out
                have k2 := HGu1.out.get HB.out
                exact ⟨XAu1.out.cell 0, XBu1.out.cell 0, k1.2.1.trans (congrArg some hta.out), k2.2.1.trans (congrArg some htb.out)⟩
              refine hK _ _ (Sx.before (by kernel_rfl) hs1.out) ?_
              clear hK K
              try go_simp
              refine wpAnyX_ready (rs := [8, 14]) (by kernel_rfl) (by simp) (AllX.cons rfl (fun K hK => ?_) (AllX.cons rfl (fun K hK => ?_) AllX.nil))
              · refine step_appT _ rfl _ _ rfl B va csa ⟨T0, 0, none⟩ (by first | rfl | simp [Act.eval]) Oau1.out b7 1 (by first | rfl | simp [Act.eval]) (Yb7u1.out.cell 0) (by omega) (by have := hzu1; omega) ?_
                intro g8 c8 u2 ho2 hg2 hat2
                have HGu2 := kide (HGu1.out.tied (i := a) hal (cs := s.tl a ++ [T0]) (v := Value.slice (some ⟨g8, 0, none⟩) (csa.length + 1) c8) (by show World.grownBy _ _ (s.tv a).ownBlock; rw [HVA.out]; exact hg2) (own_map HCa.out ho2) (by have := hla9.out; simp; omega) (by show _ = (s.tv a).ownBlock ∨ _; rw [HVA.out]; exact hat2))
                have XTu2 := kide (XTu1.out.grown (by first | decide | assumption) Oau1.out hg2)
                have XAu2 := kide (XAu1.out.grown (by first | decide | assumption) Oau1.out hg2)
                have XBu2 := kide (XBu1.out.grown (by first | decide | assumption) Oau1.out hg2)
                have XLu2 := kide (XLu1.out.grown Oau1.out hg2)
                have Obu2 := kide (own_kept Obu1.out hg2 hvab.out)
                have Yb7u2 := kide (Yb7u1.out.far (fun k hk => Nat.lt_of_lt_of_le (hla.out k hk) hyb7.out) hg2)
                have BBu2 : Hid (Below B w u2) := Below.grown BBu1.out hg2 (by have := hzu1; omega) (fun j hj => (own_lt Oau1.out hj).1)
                have hzu2 : w9.heap.size ≤ u2.heap.size := by have := hg2.size; omega
                clear ho2 hg2 hat2
                have hs2 : Hid ((fun u => u.cell? ⟨A0, 0, none⟩ = some (Value.pointer (some ⟨pa, 0, none⟩)) ∧ u.cell? ⟨A1, 0, none⟩ = some (Value.pointer (some ⟨pb, 0, none⟩)) ∧ u.cell? ⟨pa, 1, none⟩ = some va ∧ u.cell? ⟨pb, 1, none⟩ = some vb) u2) := by
                  have k1 := HGu2.out.get HA.out
                  have k2 := HGu2.out.get HB.out
                  exact ⟨XAu2.out.cell 0, XBu2.out.cell 0, k1.2.1.trans (congrArg some hta.out), k2.2.1.trans (congrArg some htb.out)⟩
                refine hK _ _ (Sx.before (by kernel_rfl) hs2.out) ?_
                clear hK K
                try go_simp
                refine wpAnyX_ready (rs := [14]) (by kernel_rfl) (by simp) (AllX.cons rfl (fun K hK => ?_) AllX.nil)
                go_simp
                have hbx3 : Below u2.heap.size u2 (u2.alloc (Obj.cells #[Value.pointer (some ⟨T0, 0, none⟩)] 85)) := (Below.refl _ _).alloc (Nat.le_refl _) _
                have HGu3 := kide (HGu2.out.later hbx3)
                have XTu3 := kide (XTu2.out.later hbx3)
                have XAu3 := kide (XAu2.out.later hbx3)
                have XBu3 := kide (XBu2.out.later hbx3)
                have XLu3 := kide (XLu2.out.later hbx3)
                have Obu3 := kide (own_later Obu2.out hbx3)
                have Yb7u3 := kide (Yb7u2.out.later hbx3)
                have Yb14u3 := kide (Bx.new u2 #[Value.pointer (some ⟨T0, 0, none⟩)] 85)
                have BBu3 : Hid (Below B w (u2.alloc (Obj.cells #[Value.pointer (some ⟨T0, 0, none⟩)] 85))) := BBu2.out.alloc (by have := hzu2; omega) _
                have hzu3 : w9.heap.size ≤ (u2.alloc (Obj.cells #[Value.pointer (some ⟨T0, 0, none⟩)] 85)).heap.size := by have := hbx3.size; omega
                have hyb14 : Hid (w9.heap.size ≤ u2.heap.size) := hzu2
                obtain ⟨b14, hbb14⟩ : ∃ x, u2.heap.size = x := ⟨_, rfl⟩
                rw [hbb14] at Yb14u3 hyb14 ⊢
                clear hbb14 hbx3
                generalize u2.alloc (Obj.cells #[Value.pointer (some ⟨T0, 0, none⟩)] 85) = u3 at *
                have hs3 : Hid ((fun u => u.cell? ⟨A0, 0, none⟩ = some (Value.pointer (some ⟨pa, 0, none⟩)) ∧ u.cell? ⟨A1, 0, none⟩ = some (Value.pointer (some ⟨pb, 0, none⟩)) ∧ u.cell? ⟨pa, 1, none⟩ = some va ∧ u.cell? ⟨pb, 1, none⟩ = some vb) u3) := by
                  have k1 := HGu3.out.get HA.out
                  have k2 := HGu3.out.get HB.out
                  exact ⟨XAu3.out.cell 0, XBu3.out.cell 0, k1.2.1.trans (congrArg some hta.out), k2.2.1.trans (congrArg some htb.out)⟩
                refine hK _ _ (Sx.before (by kernel_rfl) hs3.out) ?_
                clear hK K
                try go_simp
                refine wpAnyX_ready (rs := [15]) (by kernel_rfl) (by simp) (AllX.cons rfl (fun K hK => ?_) AllX.nil)
                refine step_appT _ rfl _ _ rfl B vb csb ⟨T0, 0, none⟩ (by first | rfl | simp [Act.eval]) Obu3.out b14 1 (by first | rfl | simp [Act.eval]) (Yb14u3.out.cell 0) (by omega) (by have := hzu3; omega) ?_
                intro g15 c15 u4 ho4 hg4 hat4
                have HGu4 := kide (HGu3.out.tied (i := b) hbl (cs := s.tl b ++ [T0]) (v := Value.slice (some ⟨g15, 0, none⟩) (csb.length + 1) c15) (by show World.grownBy _ _ (if b = a then _ else s.tv b).ownBlock; rw [if_neg (Ne.symm hab), HVB.out]; exact hg4) (own_map HCb.out ho4) (by have := hlb9.out; simp; omega) (by show _ = (if b = a then _ else s.tv b).ownBlock ∨ _; rw [if_neg (Ne.symm hab), HVB.out]; exact hat4))
                have XTu4 := kide (XTu3.out.grown (by first | decide | assumption) Obu3.out hg4)
                have XAu4 := kide (XAu3.out.grown (by first | decide | assumption) Obu3.out hg4)
                have XBu4 := kide (XBu3.out.grown (by first | decide | assumption) Obu3.out hg4)
                have XLu4 := kide (XLu3.out.grown Obu3.out hg4)
                have Yb7u4 := kide (Yb7u3.out.far (fun k hk => Nat.lt_of_lt_of_le (hlb.out k hk) hyb7.out) hg4)
                have Yb14u4 := kide (Yb14u3.out.far (fun k hk => Nat.lt_of_lt_of_le (hlb.out k hk) hyb14.out) hg4)
                have BBu4 : Hid (Below B w u4) := Below.grown BBu3.out hg4 (by have := hzu3; omega) (fun j hj => (own_lt Obu3.out hj).1)
                have hzu4 : w9.heap.size ≤ u4.heap.size := by have := hg4.size; omega
                clear ho4 hg4 hat4
                have hs4 : Hid ((fun u => u.cell? ⟨A0, 0, none⟩ = some (Value.pointer (some ⟨pa, 0, none⟩)) ∧ u.cell? ⟨A1, 0, none⟩ = some (Value.pointer (some ⟨pb, 0, none⟩)) ∧ u.cell? ⟨pa, 1, none⟩ = some va ∧ u.cell? ⟨pb, 1, none⟩ = some vb) u4) := by
                  have k1 := HGu4.out.get HA.out
                  have k2 := HGu4.out.get HB.out
                  exact ⟨XAu4.out.cell 0, XBu4.out.cell 0, k1.2.1.trans (congrArg some hta.out), k2.2.1.trans (congrArg some htb.out)⟩
                refine hK _ _ (Sx.before (by kernel_rfl) hs4.out) ?_
                clear hK K
                try go_simp
                refine wpAnyX_both (T := fun _ => True) (i := 16) (v := Value.pointer (some ⟨pa, 0, none⟩)) rfl (by kernel_rfl) (by kernel_rfl) (by kernel_rfl) (fun _ _ _ h => by first | exact h | exact h.elim | cases h.1) (by decide) (fun _ _ => trivial) (fun _ _ => trivial) (Sx.before (by kernel_rfl) hs4.out) (Or.inl ⟨by rfl, fun u hu => by go_simp⟩) ?_
                try go_simp
                refine wpAnyX_both (T := fun _ => True) (i := 17) (v := Value.pointer (some ⟨pa, 1, none⟩)) rfl (by kernel_rfl) (by kernel_rfl) (by kernel_rfl) (fun _ _ _ h => by first | exact h | exact h.elim | cases h.1) (by decide) (fun _ _ => trivial) (fun _ _ => trivial) (Sx.before (by kernel_rfl) hs4.out) (Or.inl ⟨by rfl, fun u hu => by go_simp⟩) ?_
                try go_simp
                refine wpAnyX_ready (rs := [18]) (by kernel_rfl) (by simp) (AllX.cons rfl (fun K hK => ?_) AllX.nil)
                obtain ⟨-, qb5, -, -, -⟩ := HGu4.out.get HA.out
                have f5 := frozen_of_row u4 pa 1 _ _ (HGu4.out.kn _ _ HA.out).2
                go_simp
                have HGu5 := kide (HGu4.out.knot HA.out 1 (Value.slice (some ⟨g8, 0, none⟩) (csa.length + 1) c8) (fun j => if j = a then Value.slice (some ⟨g8, 0, none⟩) (csa.length + 1) c8 else s.tc j) _ _ _ (fun j hj => ⟨by simp [hj], rfl, rfl, rfl⟩) (by simp [knotCells]))
                have XLu5 : Hid (Kt w8 (u4.setCell ⟨pa, 1, none⟩ (Value.slice (some ⟨g8, 0, none⟩) (csa.length + 1) c8))) := XLu4.out.set (HGu4.out.kn _ _ HA.out).2 (.inl rfl) _
                have XTu5 := kide (XTu4.out.other (c := pa) (XTu4.out.apart (HGu4.out.kn _ _ HA.out).2 (by first | decide | assumption)) 1 (Value.slice (some ⟨g8, 0, none⟩) (csa.length + 1) c8))
                have XAu5 := kide (XAu4.out.other (c := pa) (XAu4.out.apart (HGu4.out.kn _ _ HA.out).2 (by first | decide | assumption)) 1 (Value.slice (some ⟨g8, 0, none⟩) (csa.length + 1) c8))
                have XBu5 := kide (XBu4.out.other (c := pa) (XBu4.out.apart (HGu4.out.kn _ _ HA.out).2 (by first | decide | assumption)) 1 (Value.slice (some ⟨g8, 0, none⟩) (csa.length + 1) c8))
                have BBu5 : Hid (Below B w (u4.setCell ⟨pa, 1, none⟩ (Value.slice (some ⟨g8, 0, none⟩) (csa.length + 1) c8))) := BBu4.out.setCell (HGu4.out.kn _ _ HA.out).1 _
                generalize u4.setCell ⟨pa, 1, none⟩ (Value.slice (some ⟨g8, 0, none⟩) (csa.length + 1) c8) = u5 at *
                clear qb5 f5
                have hs5 : Hid ((fun u => u.cell? ⟨A1, 0, none⟩ = some (Value.pointer (some ⟨pb, 0, none⟩))) u5) := XBu5.out.cell 0
                refine hK _ _ (Sx.behind (by kernel_rfl) hs5.out) ?_
                clear hK K
                try go_simp
                refine wpAnyX_both (T := fun _ => True) (i := 19) (v := Value.pointer (some ⟨pb, 0, none⟩)) rfl (by kernel_rfl) (by kernel_rfl) (by kernel_rfl) (fun _ _ _ h => by first | exact h | exact h.elim | cases h.1) (by decide) (fun _ _ => trivial) (fun _ _ => trivial) (Sx.behind (by kernel_rfl) hs5.out) (Or.inl ⟨by rfl, fun u hu => by go_simp⟩) ?_
                try go_simp
                refine wpAnyX_both (T := fun _ => True) (i := 20) (v := Value.pointer (some ⟨pb, 1, none⟩)) rfl (by kernel_rfl) (by kernel_rfl) (by kernel_rfl) (fun _ _ _ h => by first | exact h | exact h.elim | cases h.1) (by decide) (fun _ _ => trivial) (fun _ _ => trivial) (Sx.behind (by kernel_rfl) hs5.out) (Or.inl ⟨by rfl, fun u hu => by go_simp⟩) ?_
                try go_simp
                refine wpAnyX_ready (rs := [21]) (by kernel_rfl) (by simp) (AllX.cons rfl (fun K hK => ?_) AllX.nil)
                obtain ⟨-, qb6, -, -, -⟩ := HGu5.out.get HB.out
                have f6 := frozen_of_row u5 pb 1 _ _ (HGu5.out.kn _ _ HB.out).2
                go_simp
                have HGu6 := kide (HGu5.out.knot HB.out 1 (Value.slice (some ⟨g15, 0, none⟩) (csb.length + 1) c15) (fun j => if j = b then Value.slice (some ⟨g15, 0, none⟩) (csb.length + 1) c15 else if j = a then Value.slice (some ⟨g8, 0, none⟩) (csa.length + 1) c8 else s.tc j) _ _ _ (fun j hj => ⟨by simp [hj], rfl, rfl, rfl⟩) (by simp [knotCells]))
                have XLu6 : Hid (Kt w8 (u5.setCell ⟨pb, 1, none⟩ (Value.slice (some ⟨g15, 0, none⟩) (csb.length + 1) c15))) := XLu5.out.set (HGu5.out.kn _ _ HB.out).2 (.inl rfl) _
                have XTu6 := kide (XTu5.out.other (c := pb) (XTu5.out.apart (HGu5.out.kn _ _ HB.out).2 (by first | decide | assumption)) 1 (Value.slice (some ⟨g15, 0, none⟩) (csb.length + 1) c15))
                have XAu6 := kide (XAu5.out.other (c := pb) (XAu5.out.apart (HGu5.out.kn _ _ HB.out).2 (by first | decide | assumption)) 1 (Value.slice (some ⟨g15, 0, none⟩) (csb.length + 1) c15))
                have XBu6 := kide (XBu5.out.other (c := pb) (XBu5.out.apart (HGu5.out.kn _ _ HB.out).2 (by first | decide | assumption)) 1 (Value.slice (some ⟨g15, 0, none⟩) (csb.length + 1) c15))
                have BBu6 : Hid (Below B w (u5.setCell ⟨pb, 1, none⟩ (Value.slice (some ⟨g15, 0, none⟩) (csb.length + 1) c15))) := BBu5.out.setCell (HGu5.out.kn _ _ HB.out).1 _
                generalize u5.setCell ⟨pb, 1, none⟩ (Value.slice (some ⟨g15, 0, none⟩) (csb.length + 1) c15) = u6 at *
                clear qb6 f6
                have hs6 : Hid ((fun u => u.cell? ⟨A1, 0, none⟩ = some (Value.pointer (some ⟨pb, 0, none⟩))) u6) := XBu6.out.cell 0
                refine hK _ _ (Sx.behind (by kernel_rfl) hs6.out) ?_
                clear hK K
                try go_simp
                refine wpAnyX_done (by kernel_rfl) ?_ _
                exact ⟨rfl, ⟨b7, b14, g8, c8, g15, c15, rfl⟩, ⟨_, HGu6.out, rfl, rfl, rfl, rfl, rfl, rfl, rfl, rfl, rfl, fun j => by
                  show (if j = b then _ else if j = a then _ else s.tc j) = (if j = b then _ else if j = a then _ else s.tv j)
                  rw [HNL.out.t j], rfl⟩, XTu6.out, BBu6.out, XLu6.out⟩
              · go_simp
                have hbx2 : Below u1.heap.size u1 (u1.alloc (Obj.cells #[Value.pointer (some ⟨T0, 0, none⟩)] 85)) := (Below.refl _ _).alloc (Nat.le_refl _) _
                have HGu2 := kide (HGu1.out.later hbx2)
                have XTu2 := kide (XTu1.out.later hbx2)
                have XAu2 := kide (XAu1.out.later hbx2)
                have XBu2 := kide (XBu1.out.later hbx2)
                have XLu2 := kide (XLu1.out.later hbx2)
                have Oau2 := kide (own_later Oau1.out hbx2)
                have Obu2 := kide (own_later Obu1.out hbx2)
                have Yb7u2 := kide (Yb7u1.out.later hbx2)
                have Yb14u2 := kide (Bx.new u1 #[Value.pointer (some ⟨T0, 0, none⟩)] 85)
                have BBu2 : Hid (Below B w (u1.alloc (Obj.cells #[Value.pointer (some ⟨T0, 0, none⟩)] 85))) := BBu1.out.alloc (by have := hzu1; omega) _
                have hzu2 : w9.heap.size ≤ (u1.alloc (Obj.cells #[Value.pointer (some ⟨T0, 0, none⟩)] 85)).heap.size := by have := hbx2.size; omega
                have hyb14 : Hid (w9.heap.size ≤ u1.heap.size) := hzu1
                obtain ⟨b14, hbb14⟩ : ∃ x, u1.heap.size = x := ⟨_, rfl⟩
                rw [hbb14] at Yb14u2 hyb14 ⊢
                clear hbb14 hbx2
                generalize u1.alloc (Obj.cells #[Value.pointer (some ⟨T0, 0, none⟩)] 85) = u2 at *
                have hs2 : Hid ((fun u => u.cell? ⟨A0, 0, none⟩ = some (Value.pointer (some ⟨pa, 0, none⟩)) ∧ u.cell? ⟨A1, 0, none⟩ = some (Value.pointer (some ⟨pb, 0, none⟩)) ∧ u.cell? ⟨pa, 1, none⟩ = some va ∧ u.cell? ⟨pb, 1, none⟩ = some vb) u2) := by
                  have k1 := HGu2.out.get HA.out
                  have k2 := HGu2.out.get HB.out
                  exact ⟨XAu2.out.cell 0, XBu2.out.cell 0, k1.2.1.trans (congrArg some hta.out), k2.2.1.trans (congrArg some htb.out)⟩
                refine hK _ _ (Sx.before (by kernel_rfl) hs2.out) ?_
                clear hK K
                try go_simp
                refine wpAnyX_ready (rs := [8]) (by kernel_rfl) (by simp) (AllX.cons rfl (fun K hK => ?_) AllX.nil)
                refine step_appT _ rfl _ _ rfl B va csa ⟨T0, 0, none⟩ (by first | rfl | simp [Act.eval]) Oau2.out b7 1 (by first | rfl | simp [Act.eval]) (Yb7u2.out.cell 0) (by omega) (by have := hzu2; omega) ?_
                intro g8 c8 u3 ho3 hg3 hat3
                have HGu3 := kide (HGu2.out.tied (i := a) hal (cs := s.tl a ++ [T0]) (v := Value.slice (some ⟨g8, 0, none⟩) (csa.length + 1) c8) (by show World.grownBy _ _ (s.tv a).ownBlock; rw [HVA.out]; exact hg3) (own_map HCa.out ho3) (by have := hla9.out; simp; omega) (by show _ = (s.tv a).ownBlock ∨ _; rw [HVA.out]; exact hat3))
                have XTu3 := kide (XTu2.out.grown (by first | decide | assumption) Oau2.out hg3)
                have XAu3 := kide (XAu2.out.grown (by first | decide | assumption) Oau2.out hg3)
                have XBu3 := kide (XBu2.out.grown (by first | decide | assumption) Oau2.out hg3)
                have XLu3 := kide (XLu2.out.grown Oau2.out hg3)
                have Obu3 := kide (own_kept Obu2.out hg3 hvab.out)
                have Yb7u3 := kide (Yb7u2.out.far (fun k hk => Nat.lt_of_lt_of_le (hla.out k hk) hyb7.out) hg3)
                have Yb14u3 := kide (Yb14u2.out.far (fun k hk => Nat.lt_of_lt_of_le (hla.out k hk) hyb14.out) hg3)
                have BBu3 : Hid (Below B w u3) := Below.grown BBu2.out hg3 (by have := hzu2; omega) (fun j hj => (own_lt Oau2.out hj).1)
                have hzu3 : w9.heap.size ≤ u3.heap.size := by have := hg3.size; omega
                clear ho3 hg3 hat3
                have hs3 : Hid ((fun u => u.cell? ⟨A0, 0, none⟩ = some (Value.pointer (some ⟨pa, 0, none⟩)) ∧ u.cell? ⟨A1, 0, none⟩ = some (Value.pointer (some ⟨pb, 0, none⟩)) ∧ u.cell? ⟨pa, 1, none⟩ = some va ∧ u.cell? ⟨pb, 1, none⟩ = some vb) u3) := by
                  have k1 := HGu3.out.get HA.out
                  have k2 := HGu3.out.get HB.out
                  exact ⟨XAu3.out.cell 0, XBu3.out.cell 0, k1.2.1.trans (congrArg some hta.out), k2.2.1.trans (congrArg some htb.out)⟩
                refine hK _ _ (Sx.before (by kernel_rfl) hs3.out) ?_
                clear hK K
                try go_simp
                refine wpAnyX_ready (rs := [15]) (by kernel_rfl) (by simp) (AllX.cons rfl (fun K hK => ?_) AllX.nil)
                refine step_appT _ rfl _ _ rfl B vb csb ⟨T0, 0, none⟩ (by first | rfl | simp [Act.eval]) Obu3.out b14 1 (by first | rfl | simp [Act.eval]) (Yb14u3.out.cell 0) (by omega) (by have := hzu3; omega) ?_
                intro g15 c15 u4 ho4 hg4 hat4
                have HGu4 := kide (HGu3.out.tied (i := b) hbl (cs := s.tl b ++ [T0]) (v := Value.slice (some ⟨g15, 0, none⟩) (csb.length + 1) c15) (by show World.grownBy _ _ (if b = a then _ else s.tv b).ownBlock; rw [if_neg (Ne.symm hab), HVB.out]; exact hg4) (own_map HCb.out ho4) (by have := hlb9.out; simp; omega) (by show _ = (if b = a then _ else s.tv b).ownBlock ∨ _; rw [if_neg (Ne.symm hab), HVB.out]; exact hat4))
                have XTu4 := kide (XTu3.out.grown (by first | decide | assumption) Obu3.out hg4)
                have XAu4 := kide (XAu3.out.grown (by first | decide | assumption) Obu3.out hg4)
                have XBu4 := kide (XBu3.out.grown (by first | decide | assumption) Obu3.out hg4)
                have XLu4 := kide (XLu3.out.grown Obu3.out hg4)
                have Yb7u4 := kide (Yb7u3.out.far (fun k hk => Nat.lt_of_lt_of_le (hlb.out k hk) hyb7.out) hg4)
                have Yb14u4 := kide (Yb14u3.out.far (fun k hk => Nat.lt_of_lt_of_le (hlb.out k hk) hyb14.out) hg4)
                have BBu4 : Hid (Below B w u4) := Below.grown BBu3.out hg4 (by have := hzu3; omega) (fun j hj => (own_lt Obu3.out hj).1)
                have hzu4 : w9.heap.size ≤ u4.heap.size := by have := hg4.size; omega
                clear ho4 hg4 hat4
                have hs4 : Hid ((fun u => u.cell? ⟨A0, 0, none⟩ = some (Value.pointer (some ⟨pa, 0, none⟩)) ∧ u.cell? ⟨A1, 0, none⟩ = some (Value.pointer (some ⟨pb, 0, none⟩)) ∧ u.cell? ⟨pa, 1, none⟩ = some va ∧ u.cell? ⟨pb, 1, none⟩ = some vb) u4) := by
                  have k1 := HGu4.out.get HA.out
                  have k2 := HGu4.out.get HB.out
                  exact ⟨XAu4.out.cell 0, XBu4.out.cell 0, k1.2.1.trans (congrArg some hta.out), k2.2.1.trans (congrArg some htb.out)⟩
                refine hK _ _ (Sx.before (by kernel_rfl) hs4.out) ?_
                clear hK K
                try go_simp
                refine wpAnyX_both (T := fun _ => True) (i := 16) (v := Value.pointer (some ⟨pa, 0, none⟩)) rfl (by kernel_rfl) (by kernel_rfl) (by kernel_rfl) (fun _ _ _ h => by first | exact h | exact h.elim | cases h.1) (by decide) (fun _ _ => trivial) (fun _ _ => trivial) (Sx.before (by kernel_rfl) hs4.out) (Or.inl ⟨by rfl, fun u hu => by go_simp⟩) ?_
                try go_simp
                refine wpAnyX_both (T := fun _ => True) (i := 17) (v := Value.pointer (some ⟨pa, 1, none⟩)) rfl (by kernel_rfl) (by kernel_rfl) (by kernel_rfl) (fun _ _ _ h => by first | exact h | exact h.elim | cases h.1) (by decide) (fun _ _ => trivial) (fun _ _ => trivial) (Sx.before (by kernel_rfl) hs4.out) (Or.inl ⟨by rfl, fun u hu => by go_simp⟩) ?_
                try go_simp
                refine wpAnyX_ready (rs := [18]) (by kernel_rfl) (by simp) (AllX.cons rfl (fun K hK => ?_) AllX.nil)
                obtain ⟨-, qb5, -, -, -⟩ := HGu4.out.get HA.out
                have f5 := frozen_of_row u4 pa 1 _ _ (HGu4.out.kn _ _ HA.out).2
                go_simp
                have HGu5 := kide (HGu4.out.knot HA.out 1 (Value.slice (some ⟨g8, 0, none⟩) (csa.length + 1) c8) (fun j => if j = a then Value.slice (some ⟨g8, 0, none⟩) (csa.length + 1) c8 else s.tc j) _ _ _ (fun j hj => ⟨by simp [hj], rfl, rfl, rfl⟩) (by simp [knotCells]))
                have XLu5 : Hid (Kt w8 (u4.setCell ⟨pa, 1, none⟩ (Value.slice (some ⟨g8, 0, none⟩) (csa.length + 1) c8))) := XLu4.out.set (HGu4.out.kn _ _ HA.out).2 (.inl rfl) _
                have XTu5 := kide (XTu4.out.other (c := pa) (XTu4.out.apart (HGu4.out.kn _ _ HA.out).2 (by first | decide | assumption)) 1 (Value.slice (some ⟨g8, 0, none⟩) (csa.length + 1) c8))
                have XAu5 := kide (XAu4.out.other (c := pa) (XAu4.out.apart (HGu4.out.kn _ _ HA.out).2 (by first | decide | assumption)) 1 (Value.slice (some ⟨g8, 0, none⟩) (csa.length + 1) c8))
                have XBu5 := kide (XBu4.out.other (c := pa) (XBu4.out.apart (HGu4.out.kn _ _ HA.out).2 (by first | decide | assumption)) 1 (Value.slice (some ⟨g8, 0, none⟩) (csa.length + 1) c8))
                have BBu5 : Hid (Below B w (u4.setCell ⟨pa, 1, none⟩ (Value.slice (some ⟨g8, 0, none⟩) (csa.length + 1) c8))) := BBu4.out.setCell (HGu4.out.kn _ _ HA.out).1 _
                generalize u4.setCell ⟨pa, 1, none⟩ (Value.slice (some ⟨g8, 0, none⟩) (csa.length + 1) c8) = u5 at *
                clear qb5 f5
                have hs5 : Hid ((fun u => u.cell? ⟨A1, 0, none⟩ = some (Value.pointer (some ⟨pb, 0, none⟩))) u5) := XBu5.out.cell 0
                refine hK _ _ (Sx.behind (by kernel_rfl) hs5.out) ?_
                clear hK K
                try go_simp
                refine wpAnyX_both (T := fun _ => True) (i := 19) (v := Value.pointer (some ⟨pb, 0, none⟩)) rfl (by kernel_rfl) (by kernel_rfl) (by kernel_rfl) (fun _ _ _ h => by first | exact h | exact h.elim | cases h.1) (by decide) (fun _ _ => trivial) (fun _ _ => trivial) (Sx.behind (by kernel_rfl) hs5.out) (Or.inl ⟨by rfl, fun u hu => by go_simp⟩) ?_
                try go_simp
                refine wpAnyX_both (T := fun _ => True) (i := 20) (v := Value.pointer (some ⟨pb, 1, none⟩)) rfl (by kernel_rfl) (by kernel_rfl) (by kernel_rfl) (fun _ _ _ h => by first | exact h | exact h.elim | cases h.1) (by decide) (fun _ _ => trivial) (fun _ _ => trivial) (Sx.behind (by kernel_rfl) hs5.out) (Or.inl ⟨by rfl, fun u hu => by go_simp⟩) ?_
                try go_simp
                refine wpAnyX_ready (rs := [21]) (by kernel_rfl) (by simp) (AllX.cons rfl (fun K hK => ?_) AllX.nil)
                obtain ⟨-, qb6, -, -, -⟩ := HGu5.out.get HB.out
                have f6 := frozen_of_row u5 pb 1 _ _ (HGu5.out.kn _ _ HB.out).2
                go_simp
                have HGu6 := kide (HGu5.out.knot HB.out 1 (Value.slice (some ⟨g15, 0, none⟩) (csb.length + 1) c15) (fun j => if j = b then Value.slice (some ⟨g15, 0, none⟩) (csb.length + 1) c15 else if j = a then Value.slice (some ⟨g8, 0, none⟩) (csa.length + 1) c8 else s.tc j) _ _ _ (fun j hj => ⟨by simp [hj], rfl, rfl, rfl⟩) (by simp [knotCells]))
                have XLu6 : Hid (Kt w8 (u5.setCell ⟨pb, 1, none⟩ (Value.slice (some ⟨g15, 0, none⟩) (csb.length + 1) c15))) := XLu5.out.set (HGu5.out.kn _ _ HB.out).2 (.inl rfl) _
                have XTu6 := kide (XTu5.out.other (c := pb) (XTu5.out.apart (HGu5.out.kn _ _ HB.out).2 (by first | decide | assumption)) 1 (Value.slice (some ⟨g15, 0, none⟩) (csb.length + 1) c15))
                have XAu6 := kide (XAu5.out.other (c := pb) (XAu5.out.apart (HGu5.out.kn _ _ HB.out).2 (by first | decide | assumption)) 1 (Value.slice (some ⟨g15, 0, none⟩) (csb.length + 1) c15))
                have XBu6 := kide (XBu5.out.other (c := pb) (XBu5.out.apart (HGu5.out.kn _ _ HB.out).2 (by first | decide | assumption)) 1 (Value.slice (some ⟨g15, 0, none⟩) (csb.length + 1) c15))
                have BBu6 : Hid (Below B w (u5.setCell ⟨pb, 1, none⟩ (Value.slice (some ⟨g15, 0, none⟩) (csb.length + 1) c15))) := BBu5.out.setCell (HGu5.out.kn _ _ HB.out).1 _
                generalize u5.setCell ⟨pb, 1, none⟩ (Value.slice (some ⟨g15, 0, none⟩) (csb.length + 1) c15) = u6 at *
                clear qb6 f6
                have hs6 : Hid ((fun u => u.cell? ⟨A1, 0, none⟩ = some (Value.pointer (some ⟨pb, 0, none⟩))) u6) := XBu6.out.cell 0
                refine hK _ _ (Sx.behind (by kernel_rfl) hs6.out) ?_
                clear hK K
                try go_simp
                refine wpAnyX_done (by kernel_rfl) ?_ _
                exact ⟨rfl, ⟨b7, b14, g8, c8, g15, c15, rfl⟩, ⟨_, HGu6.out, rfl, rfl, rfl, rfl, rfl, rfl, rfl, rfl, rfl, fun j => by
                  show (if j = b then _ else if j = a then _ else s.tc j) = (if j = b then _ else if j = a then _ else s.tv j)
                  rw [HNL.out.t j], rfl⟩, XTu6.out, BBu6.out, XLu6.out⟩
            · go_simp
              have hbx1 : Below u0.heap.size u0 (u0.alloc (Obj.cells #[Value.pointer (some ⟨T0, 0, none⟩)] 85)) := (Below.refl _ _).alloc (Nat.le_refl _) _
              have HGu1 := kide (HGu0.out.later hbx1)
              have XTu1 := kide (XTu0.out.later hbx1)
              have XAu1 := kide (XAu0.out.later hbx1)
              have XBu1 := kide (XBu0.out.later hbx1)
              have XLu1 := kide (XLu0.out.later hbx1)
              have Oau1 := kide (own_later Oau0.out hbx1)
              have Obu1 := kide (own_later Obu0.out hbx1)
              have Yb14u1 := kide (Bx.new u0 #[Value.pointer (some ⟨T0, 0, none⟩)] 85)
              have BBu1 : Hid (Below B w (u0.alloc (Obj.cells #[Value.pointer (some ⟨T0, 0, none⟩)] 85))) := BBu0.out.alloc (by have := hzu0; omega) _
              have hzu1 : w9.heap.size ≤ (u0.alloc (Obj.cells #[Value.pointer (some ⟨T0, 0, none⟩)] 85)).heap.size := by have := hbx1.size; omega
              have hyb14 : Hid (w9.heap.size ≤ u0.heap.size) := hzu0
              obtain ⟨b14, hbb14⟩ : ∃ x, u0.heap.size = x := ⟨_, rfl⟩
              rw [hbb14] at Yb14u1 hyb14 ⊢
              clear hbb14 hbx1
              generalize u0.alloc (Obj.cells #[Value.pointer (some ⟨T0, 0, none⟩)] 85) = u1 at *
              have hs1 : Hid ((fun u => u.cell? ⟨A0, 0, none⟩ = some (Value.pointer (some ⟨pa, 0, none⟩)) ∧ u.cell? ⟨A1, 0, none⟩ = some (Value.pointer (some ⟨pb, 0, none⟩)) ∧ u.cell? ⟨pa, 1, none⟩ = some va ∧ u.cell? ⟨pb, 1, none⟩ = some vb) u1) := by
                have k1 := HGu1.out.get HA.out
                have k2 := HGu1.out.get HB.out
                exact ⟨XAu1.out.cell 0, XBu1.out.cell 0, k1.2.1.trans (congrArg some hta.out), k2.2.1.trans (congrArg some htb.out)⟩
              refine hK _ _ (Sx.before (by kernel_rfl) hs1.out) ?_
              clear hK K
              try go_simp
              refine wpAnyX_ready (rs := [7]) (by kernel_rfl) (by simp) (AllX.cons rfl (fun K hK => ?_) AllX.nil)
              go_simp
              have hbx2 : Below u1.heap.size u1 (u1.alloc (Obj.cells #[Value.pointer (some ⟨T0, 0, none⟩)] 85)) := (Below.refl _ _).alloc (Nat.le_refl _) _
              have HGu2 := kide (HGu1.out.later hbx2)
              have XTu2 := kide (XTu1.out.later hbx2)
              have XAu2 := kide (XAu1.out.later hbx2)
              have XBu2 := kide (XBu1.out.later hbx2)
              have XLu2 := kide (XLu1.out.later hbx2)
              have Oau2 := kide (own_later Oau1.out hbx2)
              have Obu2 := kide (own_later Obu1.out hbx2)
              have Yb14u2 := kide (Yb14u1.out.later hbx2)
              have Yb7u2 := kide (Bx.new u1 #[Value.pointer (some ⟨T0, 0, none⟩)] 85)
              have BBu2 : Hid (Below B w (u1.alloc (Obj.cells #[Value.pointer (some ⟨T0, 0, none⟩)] 85))) := BBu1.out.alloc (by have := hzu1; omega) _
              have hzu2 : w9.heap.size ≤ (u1.alloc (Obj.cells #[Value.pointer (some ⟨T0, 0, none⟩)] 85)).heap.size := by have := hbx2.size; omega
              have hyb7 : Hid (w9.heap.size ≤ u1.heap.size) := hzu1
              obtain ⟨b7, hbb7⟩ : ∃ x, u1.heap.size = x := ⟨_, rfl⟩
              rw [hbb7] at Yb7u2 hyb7 ⊢
              clear hbb7 hbx2
              generalize u1.alloc (Obj.cells #[Value.pointer (some ⟨T0, 0, none⟩)] 85) = u2 at *
              have hs2 : Hid ((fun u => u.cell? ⟨A0, 0, none⟩ = some (Value.pointer (some ⟨pa, 0, none⟩)) ∧ u.cell? ⟨A1, 0, none⟩ = some (Value.pointer (some ⟨pb, 0, none⟩)) ∧ u.cell? ⟨pa, 1, none⟩ = some va ∧ u.cell? ⟨pb, 1, none⟩ = some vb) u2) := by
                have k1 := HGu2.out.get HA.out
                have k2 := HGu2.out.get HB.out
                exact ⟨XAu2.out.cell 0, XBu2.out.cell 0, k1.2.1.trans (congrArg some hta.out), k2.2.1.trans (congrArg some htb.out)⟩
              refine hK _ _ (Sx.before (by kernel_rfl) hs2.out) ?_
              clear hK K
              try go_simp
              refine wpAnyX_ready (rs := [8]) (by kernel_rfl) (by simp) (AllX.cons rfl (fun K hK => ?_) AllX.nil)
              refine step_appT _ rfl _ _ rfl B va csa ⟨T0, 0, none⟩ (by first | rfl | simp [Act.eval]) Oau2.out b7 1 (by first | rfl | simp [Act.eval]) (Yb7u2.out.cell 0) (by omega) (by have := hzu2; omega) ?_
              intro g8 c8 u3 ho3 hg3 hat3
              have HGu3 := kide (HGu2.out.tied (i := a) hal (cs := s.tl a ++ [T0]) (v := Value.slice (some ⟨g8, 0, none⟩) (csa.length + 1) c8) (by show World.grownBy _ _ (s.tv a).ownBlock; rw [HVA.out]; exact hg3) (own_map HCa.out ho3) (by have := hla9.out; simp; omega) (by show _ = (s.tv a).ownBlock ∨ _; rw [HVA.out]; exact hat3))
              have XTu3 := kide (XTu2.out.grown (by first | decide | assumption) Oau2.out hg3)
              have XAu3 := kide (XAu2.out.grown (by first | decide | assumption) Oau2.out hg3)
              have XBu3 := kide (XBu2.out.grown (by first | decide | assumption) Oau2.out hg3)
              have XLu3 := kide (XLu2.out.grown Oau2.out hg3)
              have Obu3 := kide (own_kept Obu2.out hg3 hvab.out)
              have Yb14u3 := kide (Yb14u2.out.far (fun k hk => Nat.lt_of_lt_of_le (hla.out k hk) hyb14.out) hg3)
              have Yb7u3 := kide (Yb7u2.out.far (fun k hk => Nat.lt_of_lt_of_le (hla.out k hk) hyb7.out) hg3)
              have BBu3 : Hid (Below B w u3) := Below.grown BBu2.out hg3 (by have := hzu2; omega) (fun j hj => (own_lt Oau2.out hj).1)
              have hzu3 : w9.heap.size ≤ u3.heap.size := by have := hg3.size; omega
              clear ho3 hg3 hat3
              have hs3 : Hid ((fun u => u.cell? ⟨A0, 0, none⟩ = some (Value.pointer (some ⟨pa, 0, none⟩)) ∧ u.cell? ⟨A1, 0, none⟩ = some (Value.pointer (some ⟨pb, 0, none⟩)) ∧ u.cell? ⟨pa, 1, none⟩ = some va ∧ u.cell? ⟨pb, 1, none⟩ = some vb) u3) := by
                have k1 := HGu3.out.get HA.out
                have k2 := HGu3.out.get HB.out
                exact ⟨XAu3.out.cell 0, XBu3.out.cell 0, k1.2.1.trans (congrArg some hta.out), k2.2.1.trans (congrArg some htb.out)⟩
              refine hK _ _ (Sx.before (by kernel_rfl) hs3.out) ?_
              clear hK K
              try go_simp
              refine wpAnyX_ready (rs := [15]) (by kernel_rfl) (by simp) (AllX.cons rfl (fun K hK => ?_) AllX.nil)
              refine step_appT _ rfl _ _ rfl B vb csb ⟨T0, 0, none⟩ (by first | rfl | simp [Act.eval]) Obu3.out b14 1 (by first | rfl | simp [Act.eval]) (Yb14u3.out.cell 0) (by omega) (by have := hzu3; omega) ?_
              intro g15 c15 u4 ho4 hg4 hat4
              have HGu4 := kide (HGu3.out.tied (i := b) hbl (cs := s.tl b ++ [T0]) (v := Value.slice (some ⟨g15, 0, none⟩) (csb.length + 1) c15) (by show World.grownBy _ _ (if b = a then _ else s.tv b).ownBlock; rw [if_neg (Ne.symm hab), HVB.out]; exact hg4) (own_map HCb.out ho4) (by have := hlb9.out; simp; omega) (by show _ = (if b = a then _ else s.tv b).ownBlock ∨ _; rw [if_neg (Ne.symm hab), HVB.out]; exact hat4))
              have XTu4 := kide (XTu3.out.grown (by first | decide | assumption) Obu3.out hg4)
              have XAu4 := kide (XAu3.out.grown (by first | decide | assumption) Obu3.out hg4)
              have XBu4 := kide (XBu3.out.grown (by first | decide | assumption) Obu3.out hg4)
              have XLu4 := kide (XLu3.out.grown Obu3.out hg4)
              have Yb14u4 := kide (Yb14u3.out.far (fun k hk => Nat.lt_of_lt_of_le (hlb.out k hk) hyb14.out) hg4)
              have Yb7u4 := kide (Yb7u3.out.far (fun k hk => Nat.lt_of_lt_of_le (hlb.out k hk) hyb7.out) hg4)
              have BBu4 : Hid (Below B w u4) := Below.grown BBu3.out hg4 (by have := hzu3; omega) (fun j hj => (own_lt Obu3.out hj).1)
              have hzu4 : w9.heap.size ≤ u4.heap.size := by have := hg4.size; omega
              clear ho4 hg4 hat4
              have hs4 : Hid ((fun u => u.cell? ⟨A0, 0, none⟩ = some (Value.pointer (some ⟨pa, 0, none⟩)) ∧ u.cell? ⟨A1, 0, none⟩ = some (Value.pointer (some ⟨pb, 0, none⟩)) ∧ u.cell? ⟨pa, 1, none⟩ = some va ∧ u.cell? ⟨pb, 1, none⟩ = some vb) u4) := by
                have k1 := HGu4.out.get HA.out
                have k2 := HGu4.out.get HB.out
                exact ⟨XAu4.out.cell 0, XBu4.out.cell 0, k1.2.1.trans (congrArg some hta.out), k2.2.1.trans (congrArg some htb.out)⟩
              refine hK _ _ (Sx.before (by kernel_rfl) hs4.out) ?_
              clear hK K
              try go_simp
              refine wpAnyX_both (T := fun _ => True) (i := 16) (v := Value.pointer (some ⟨pa, 0, none⟩)) rfl (by kernel_rfl) (by kernel_rfl) (by kernel_rfl) (fun _ _ _ h => by first | exact h | exact h.elim | cases h.1) (by decide) (fun _ _ => trivial) (fun _ _ => trivial) (Sx.before (by kernel_rfl) hs4.out) (Or.inl ⟨by rfl, fun u hu => by go_simp⟩) ?_
              try go_simp
              refine wpAnyX_both (T := fun _ => True) (i := 17) (v := Value.pointer (some ⟨pa, 1, none⟩)) rfl (by kernel_rfl) (by kernel_rfl) (by kernel_rfl) (fun _ _ _ h => by first | exact h | exact h.elim | cases h.1) (by decide) (fun _ _ => trivial) (fun _ _ => trivial) (Sx.before (by kernel_rfl) hs4.out) (Or.inl ⟨by rfl, fun u hu => by go_simp⟩) ?_
              try go_simp
              refine wpAnyX_ready (rs := [18]) (by kernel_rfl) (by simp) (AllX.cons rfl (fun K hK => ?_) AllX.nil)
              obtain ⟨-, qb5, -, -, -⟩ := HGu4.out.get HA.out
              have f5 := frozen_of_row u4 pa 1 _ _ (HGu4.out.kn _ _ HA.out).2
              go_simp
              have HGu5 := kide (HGu4.out.knot HA.out 1 (Value.slice (some ⟨g8, 0, none⟩) (csa.length + 1) c8) (fun j => if j = a then Value.slice (some ⟨g8, 0, none⟩) (csa.length + 1) c8 else s.tc j) _ _ _ (fun j hj => ⟨by simp [hj], rfl, rfl, rfl⟩) (by simp [knotCells]))
              have XLu5 : Hid (Kt w8 (u4.setCell ⟨pa, 1, none⟩ (Value.slice (some ⟨g8, 0, none⟩) (csa.length + 1) c8))) := XLu4.out.set (HGu4.out.kn _ _ HA.out).2 (.inl rfl) _
              have XTu5 := kide (XTu4.out.other (c := pa) (XTu4.out.apart (HGu4.out.kn _ _ HA.out).2 (by first | decide | assumption)) 1 (Value.slice (some ⟨g8, 0, none⟩) (csa.length + 1) c8))
              have XAu5 := kide (XAu4.out.other (c := pa) (XAu4.out.apart (HGu4.out.kn _ _ HA.out).2 (by first | decide | assumption)) 1 (Value.slice (some ⟨g8, 0, none⟩) (csa.length + 1) c8))
              have XBu5 := kide (XBu4.out.other (c := pa) (XBu4.out.apart (HGu4.out.kn _ _ HA.out).2 (by first | decide | assumption)) 1 (Value.slice (some ⟨g8, 0, none⟩) (csa.length + 1) c8))
              have BBu5 : Hid (Below B w (u4.setCell ⟨pa, 1, none⟩ (Value.slice (some ⟨g8, 0, none⟩) (csa.length + 1) c8))) := BBu4.out.setCell (HGu4.out.kn _ _ HA.out).1 _
              generalize u4.setCell ⟨pa, 1, none⟩ (Value.slice (some ⟨g8, 0, none⟩) (csa.length + 1) c8) = u5 at *
              clear qb5 f5
              have hs5 : Hid ((fun u => u.cell? ⟨A1, 0, none⟩ = some (Value.pointer (some ⟨pb, 0, none⟩))) u5) := XBu5.out.cell 0
              refine hK _ _ (Sx.behind (by kernel_rfl) hs5.out) ?_
              clear hK K
              try go_simp
              refine wpAnyX_both (T := fun _ => True) (i := 19) (v := Value.pointer (some ⟨pb, 0, none⟩)) rfl (by kernel_rfl) (by kernel_rfl) (by kernel_rfl) (fun _ _ _ h => by first | exact h | exact h.elim | cases h.1) (by decide) (fun _ _ => trivial) (fun _ _ => trivial) (Sx.behind (by kernel_rfl) hs5.out) (Or.inl ⟨by rfl, fun u hu => by go_simp⟩) ?_
              try go_simp
              refine wpAnyX_both (T := fun _ => True) (i := 20) (v := Value.pointer (some ⟨pb, 1, none⟩)) rfl (by kernel_rfl) (by kernel_rfl) (by kernel_rfl) (fun _ _ _ h => by first | exact h | exact h.elim | cases h.1) (by decide) (fun _ _ => trivial) (fun _ _ => trivial) (Sx.behind (by kernel_rfl) hs5.out) (Or.inl ⟨by rfl, fun u hu => by go_simp⟩) ?_
              try go_simp
              refine wpAnyX_ready (rs := [21]) (by kernel_rfl) (by simp) (AllX.cons rfl (fun K hK => ?_) AllX.nil)
              obtain ⟨-, qb6, -, -, -⟩ := HGu5.out.get HB.out
              have f6 := frozen_of_row u5 pb 1 _ _ (HGu5.out.kn _ _ HB.out).2
              go_simp
              have HGu6 := kide (HGu5.out.knot HB.out 1 (Value.slice (some ⟨g15, 0, none⟩) (csb.length + 1) c15) (fun j => if j = b then Value.slice (some ⟨g15, 0, none⟩) (csb.length + 1) c15 else if j = a then Value.slice (some ⟨g8, 0, none⟩) (csa.length + 1) c8 else s.tc j) _ _ _ (fun j hj => ⟨by simp [hj], rfl, rfl, rfl⟩) (by simp [knotCells]))
              have XLu6 : Hid (Kt w8 (u5.setCell ⟨pb, 1, none⟩ (Value.slice (some ⟨g15, 0, none⟩) (csb.length + 1) c15))) := XLu5.out.set (HGu5.out.kn _ _ HB.out).2 (.inl rfl) _
              have XTu6 := kide (XTu5.out.other (c := pb) (XTu5.out.apart (HGu5.out.kn _ _ HB.out).2 (by first | decide | assumption)) 1 (Value.slice (some ⟨g15, 0, none⟩) (csb.length + 1) c15))
              have XAu6 := kide (XAu5.out.other (c := pb) (XAu5.out.apart (HGu5.out.kn _ _ HB.out).2 (by first | decide | assumption)) 1 (Value.slice (some ⟨g15, 0, none⟩) (csb.length + 1) c15))
              have XBu6 := kide (XBu5.out.other (c := pb) (XBu5.out.apart (HGu5.out.kn _ _ HB.out).2 (by first | decide | assumption)) 1 (Value.slice (some ⟨g15, 0, none⟩) (csb.length + 1) c15))
              have BBu6 : Hid (Below B w (u5.setCell ⟨pb, 1, none⟩ (Value.slice (some ⟨g15, 0, none⟩) (csb.length + 1) c15))) := BBu5.out.setCell (HGu5.out.kn _ _ HB.out).1 _
              generalize u5.setCell ⟨pb, 1, none⟩ (Value.slice (some ⟨g15, 0, none⟩) (csb.length + 1) c15) = u6 at *
              clear qb6 f6
              have hs6 : Hid ((fun u => u.cell? ⟨A1, 0, none⟩ = some (Value.pointer (some ⟨pb, 0, none⟩))) u6) := XBu6.out.cell 0
              refine hK _ _ (Sx.behind (by kernel_rfl) hs6.out) ?_
              clear hK K
              try go_simp
              refine wpAnyX_done (by kernel_rfl) ?_ _
              exact ⟨rfl, ⟨b7, b14, g8, c8, g15, c15, rfl⟩, ⟨_, HGu6.out, rfl, rfl, rfl, rfl, rfl, rfl, rfl, rfl, rfl, fun j => by
                show (if j = b then _ else if j = a then _ else s.tc j) = (if j = b then _ else if j = a then _ else s.tv j)
                rw [HNL.out.t j], rfl⟩, XTu6.out, BBu6.out, XLu6.out⟩
          · rintro a' w10 ⟨⟨b7, b14, g8, c8, g15, c15, rfl⟩, ⟨s10, hg10, e1, e2, e3, e4, e5, e6, e7, e8, e9, e10, e11⟩, xt10, bb10, xl10⟩
            have hpsA : s10.ps.getD ((a : Int), (b : Int), y).1.toNat 0 = pa := by simp [e3, HA.out]
            have hpsB : s10.ps.getD ((a : Int), (b : Int), y).2.1.toNat 0 = pb := by simp [e3, HB.out]
            have HPU := kide (push_any (l := ((a : Int), (b : Int), y)) (f := fv) (t := T0) hg10 (by rw [e4, e5]; exact HNL.out.n) (by rw [e8, e9]; exact HNL.out.i) (by rw [e4]; exact hts) (by have h1 := HSZ.out; have h2 := HA0.out; omega) (by rw [hpsA, hpsB]; exact xt10))
            unfold pt at HPU
            have HBB := kide bb10
            have XL10 := kide xl10
            have EKC := kide e6
            have HUF := kide (HU.out.join hal hbl hne (o := rt b) (u := rt a) (.inr ⟨rfl, rfl⟩))
            have E1 := kide e1
            have E2 := kide e2
            have E3 := kide e3
            have E5 := kide e5
            have EK := kide (e6.trans (HNL.out.k.trans e7.symm))
            have E10 := kide e10
            have E11 := kide e11
            have E4 := kide e4
            have HN10 : Hid (s10.ts.length = s10.ls.length) := by show _ = _; rw [e4, e5]; exact HNL.out.n
            have XT10 := kide xt10
            clear hg10 xt10 bb10 xl10 e1 e2 e3 e4 e5 e6 e7 e8 e9 e10 e11 hpsA hpsB
            go_wp2_with fail
            refine Calls.mono HPU.out ?_
            rintro e w11 ⟨rfl, v11, hg11, hb11, hk11⟩
            have HK11 := kide (XL10.out.trans hk11)
            have XL11 := kide (HK11.out _ _ _ XL8.out htk htt htg)
            have JX11 : Hid (Clo w11 s.ps T0 ((a : Int), (b : Int), y)) := ⟨rt b, rt a, po, pu, pa, pb, o9, o10, o11, o12, A0, A1, _, _, HRO.out, HRU.out, by simpa using HA.out, by simpa using HB.out, by rw [HFV.out]; exact hk11 _ _ _ XT10.out (by decide) (by decide) (by decide), HK11.out _ _ _ X98.out (by decide) (by decide) (by decide), HK11.out _ _ _ X108.out (by decide) (by decide) (by decide), HK11.out _ _ _ X118.out (by decide) (by decide) (by decide), HK11.out _ _ _ X128.out (by decide) (by decide) (by decide), HK11.out _ _ _ XA8.out (by decide) (by decide) (by decide), HK11.out _ _ _ XB8.out (by decide) (by decide) (by decide)⟩
            have HKW : Hid (Kt w w11) := (Kt.of_below HWB.out).trans HK11.out
            have HG11 := kide hg11
            have HB11 := kide (HBB.out.trans hb11)
            clear hg11 hb11 hk11
            go_wp2_with fail
            go_ret
            exact .inr ⟨hne, rfl, _, _, _, HG11.out, ⟨EK.out, rfl, E10.out, by simp [HN10.out]⟩, by simpa [E1.out, E2.out] using HUF.out, E3.out, by simp [E5.out], HB11.out, XL11.out, EKC.out, HKW.out, T0, by simp [E4.out], E11.out, JX11.out⟩
    · rw [if_neg hc] at hou
      obtain ⟨rfl, rfl, rfl, rfl⟩ := hou
      go_wp2_with fail
      have hb5 := HB4.out
      have X95 := X94
      have X105 := X104
      generalize w4 = w5 at *
      have HG5 := kide (HG2.out.later hb5)
      have g9 := X95.out.cell 0
      have g10 := X105.out.cell 0
      obtain ⟨-, -, -, s9, l9⟩ := HG5.out.get HRO.out
      simp at g9 g10
      have HB5 := kide hb5
      have hz5 := hb5.size
      have hlo9 := X95.out.lt
      have hlpo : po < w5.heap.size := lt_of_block (HG5.out.kn _ _ HRO.out).2
      clear hb5 X94 X104 HB4 f9 f10
      refine region_cut (fun a' w' => ∃ o11 o12, a' = ({ tmps := #[Value.pointer (some ⟨G, 0, none⟩), Value.pointer (some ⟨pa, 0, none⟩), Value.pointer (some ⟨pb, 0, none⟩), Value.int .i64 y, undef, Value.pointer (some ⟨A0, 0, none⟩), Value.pointer (some ⟨A1, 0, none⟩), undef, Value.bool false, Value.pointer (some ⟨o9, 0, none⟩), Value.pointer (some ⟨o10, 0, none⟩), Value.pointer (some ⟨o11, 0, none⟩), Value.pointer (some ⟨o12, 0, none⟩), undef, Value.pointer (some ⟨pa, 0, none⟩), Value.pointer (some ⟨po, 0, none⟩), Value.pointer (some ⟨pb, 0, none⟩), Value.pointer (some ⟨pu, 0, none⟩), Value.pointer (some ⟨po, 0, none⟩), Value.pointer (some ⟨pu, 0, none⟩), Value.bool false, Value.pointer (some ⟨po, 0, none⟩), Value.pointer (some ⟨po, 0, none⟩), Value.pointer (some ⟨po, 3, none⟩), Value.int .i64 (s.sz (rt a)), Value.pointer (some ⟨pu, 0, none⟩), Value.pointer (some ⟨pu, 0, none⟩), Value.pointer (some ⟨pu, 3, none⟩), Value.int .i64 (s.sz (rt b)), Value.bool (decide (s.sz (rt a) < s.sz (rt b))), undef, undef, Value.pointer (some ⟨po, 0, none⟩), Value.pointer (some ⟨po, 0, none⟩), Value.pointer (some ⟨po, 3, none⟩), Value.int .i64 (s.sz (rt a)), Value.pointer (some ⟨po, 0, none⟩), Value.pointer (some ⟨po, 0, none⟩), Value.pointer (some ⟨po, 4, none⟩), Value.int .i64 (s.le (rt a)), undef, undef, undef, undef, undef, undef, undef, undef, undef, undef, undef, undef, undef, undef, undef, undef, undef, undef, undef, undef, undef, undef, undef, undef, undef, undef, undef, undef, undef, undef, undef, undef, undef, undef, undef, undef, undef, undef, undef, undef, undef, undef, undef, undef, undef, undef, undef, undef, undef, undef, undef, undef, undef, undef, undef, undef], defers := [] } : Act) ∧ o11 ≠ o12 ∧ w5.heap.size ≤ o11 ∧ w5.heap.size ≤ o12 ∧ Bx w' o11 #[Value.int .i64 (s.sz (rt a))] 3 ∧ Bx w' o12 #[Value.int .i64 (s.le (rt a))] 2 ∧ Below w5.heap.size w5 w') ?_ ?_
      · refine wp_region_x (SA := fun _ => False) (SB := fun u => Below w5.heap.size w5 u) (k := 999) (by kernel_rfl) ?_
        have hu0 : Hid (Below w5.heap.size w5 w5.drew) := (Below.refl _ _).drew
        generalize w5.drew = u0 at *
        try go_simp
        refine wpAnyX_both (T := fun u => Below w5.heap.size w5 u) (i := 0) (v := Value.pointer (some ⟨po, 0, none⟩)) rfl (by kernel_rfl) (by kernel_rfl) (by kernel_rfl) (fun _ _ _ h => by first | exact h | exact h.elim | cases h.1) (by decide) (fun _ h => h.elim) (fun _ h => h) (Sx.behind (by kernel_rfl) hu0.out) (Or.inl ⟨by rfl, fun u hu => by have e1 := (kcell hu o9 0 hlo9).trans g9; go_simp⟩) ?_
        try go_simp
        refine wpAnyX_both (T := fun u => Below w5.heap.size w5 u) (i := 1) (v := Value.pointer (some ⟨po, 0, none⟩)) rfl (by kernel_rfl) (by kernel_rfl) (by kernel_rfl) (fun _ _ _ h => by first | exact h | exact h.elim | cases h.1) (by decide) (fun _ h => h.elim) (fun _ h => h) (Sx.behind (by kernel_rfl) hu0.out) (Or.inl ⟨by rfl, fun u hu => by go_simp⟩) ?_
        try go_simp
        refine wpAnyX_both (T := fun u => Below w5.heap.size w5 u) (i := 2) (v := Value.pointer (some ⟨po, 3, none⟩)) rfl (by kernel_rfl) (by kernel_rfl) (by kernel_rfl) (fun _ _ _ h => by first | exact h | exact h.elim | cases h.1) (by decide) (fun _ h => h.elim) (fun _ h => h) (Sx.behind (by kernel_rfl) hu0.out) (Or.inl ⟨by rfl, fun u hu => by go_simp⟩) ?_
        try go_simp
        refine wpAnyX_both (T := fun u => Below w5.heap.size w5 u) (i := 3) (v := Value.int .i64 (s.sz (rt a))) rfl (by kernel_rfl) (by kernel_rfl) (by kernel_rfl) (fun _ _ _ h => by first | exact h | exact h.elim | cases h.1) (by decide) (fun _ h => h.elim) (fun _ h => h) (Sx.behind (by kernel_rfl) hu0.out) (Or.inl ⟨by rfl, fun u hu => by have e1 := (kcell hu po 3 hlpo).trans s9; go_simp⟩) ?_
        try go_simp
        refine wpAnyX_both (T := fun u => Below w5.heap.size w5 u) (i := 4) (v := Value.pointer (some ⟨po, 0, none⟩)) rfl (by kernel_rfl) (by kernel_rfl) (by kernel_rfl) (fun _ _ _ h => by first | exact h | exact h.elim | cases h.1) (by decide) (fun _ h => h.elim) (fun _ h => h) (Sx.behind (by kernel_rfl) hu0.out) (Or.inl ⟨by rfl, fun u hu => by have e1 := (kcell hu o9 0 hlo9).trans g9; go_simp⟩) ?_
        try go_simp
        refine wpAnyX_both (T := fun u => Below w5.heap.size w5 u) (i := 5) (v := Value.pointer (some ⟨po, 0, none⟩)) rfl (by kernel_rfl) (by kernel_rfl) (by kernel_rfl) (fun _ _ _ h => by first | exact h | exact h.elim | cases h.1) (by decide) (fun _ h => h.elim) (fun _ h => h) (Sx.behind (by kernel_rfl) hu0.out) (Or.inl ⟨by rfl, fun u hu => by go_simp⟩) ?_
        try go_simp
        refine wpAnyX_both (T := fun u => Below w5.heap.size w5 u) (i := 6) (v := Value.pointer (some ⟨po, 4, none⟩)) rfl (by kernel_rfl) (by kernel_rfl) (by kernel_rfl) (fun _ _ _ h => by first | exact h | exact h.elim | cases h.1) (by decide) (fun _ h => h.elim) (fun _ h => h) (Sx.behind (by kernel_rfl) hu0.out) (Or.inl ⟨by rfl, fun u hu => by go_simp⟩) ?_
        try go_simp
        refine wpAnyX_both (T := fun u => Below w5.heap.size w5 u) (i := 7) (v := Value.int .i64 (s.le (rt a))) rfl (by kernel_rfl) (by kernel_rfl) (by kernel_rfl) (fun _ _ _ h => by first | exact h | exact h.elim | cases h.1) (by decide) (fun _ h => h.elim) (fun _ h => h) (Sx.behind (by kernel_rfl) hu0.out) (Or.inl ⟨by rfl, fun u hu => by have e1 := (kcell hu po 4 hlpo).trans l9; go_simp⟩) ?_
        try go_simp
        refine wpAnyX_ready (rs := [8, 9]) (by kernel_rfl) (by simp) (AllX.cons rfl (fun K hK => ?_) (AllX.cons rfl (fun K hK => ?_) AllX.nil))
        · go_simp
          refine hK _ _ (Sx.behind (by kernel_rfl) (hu0.out.alloc hu0.out.size _)) ?_
          clear hK K
          obtain ⟨u1, he1⟩ : ∃ v, u0.alloc (Obj.cells #[Value.int .i64 0] 3) = v := ⟨_, rfl⟩
          rw [he1]
          have hu1 : Hid (Below w5.heap.size w5 u1) := by show Below _ _ _; rw [← he1]; exact hu0.out.alloc hu0.out.size _
          have ho11_1 : Hid (Bx u1 u0.heap.size #[Value.int .i64 0] 3) := by show Bx _ _ _ _; rw [← he1]; exact Bx.new _ _ _
          clear he1
          have h11 : Hid (w5.heap.size ≤ u0.heap.size) := by have q := hu0.out.size; exact q
          refine wpAnyX_ready (rs := [9]) (by kernel_rfl) (by simp) (AllX.cons rfl (fun K hK => ?_) AllX.nil)
          go_simp
          refine hK _ _ (Sx.behind (by kernel_rfl) (hu1.out.alloc hu1.out.size _)) ?_
          clear hK K
          obtain ⟨u2, he2⟩ : ∃ v, u1.alloc (Obj.cells #[Value.int .i64 0] 2) = v := ⟨_, rfl⟩
          rw [he2]
          have hu2 : Hid (Below w5.heap.size w5 u2) := by show Below _ _ _; rw [← he2]; exact hu1.out.alloc hu1.out.size _
          have ho12_2 : Hid (Bx u2 u1.heap.size #[Value.int .i64 0] 2) := by show Bx _ _ _ _; rw [← he2]; exact Bx.new _ _ _
          have ho11_2 : Hid (Bx u2 u0.heap.size #[Value.int .i64 0] 3) := by show Bx _ _ _ _; rw [← he2]; exact ho11_1.out.alloc _
          clear he2
          have h12 : Hid (w5.heap.size ≤ u1.heap.size ∧ u0.heap.size < u1.heap.size) := by have q := hu1.out.size; have q2 := ho11_1.out.lt; exact ⟨q, q2⟩
          refine wpAnyX_ready (rs := [10]) (by kernel_rfl) (by simp) (AllX.cons rfl (fun K hK => ?_) AllX.nil)
          have e3 := ho11_2.out.cell 0
          have f3 := ho11_2.out.froz 0
          simp at e3
          go_simp
          refine hK _ _ (Sx.behind (by kernel_rfl) (hu2.out.setCell (show _ ≤ u0.heap.size by have := h11.out; omega) _)) ?_
          clear hK K
          obtain ⟨u3, he3⟩ : ∃ v, u2.setCell ⟨u0.heap.size, 0, none⟩ (Value.int .i64 (s.sz (rt a))) = v := ⟨_, rfl⟩
          rw [he3]
          have hu3 : Hid (Below w5.heap.size w5 u3) := by show Below _ _ _; rw [← he3]; exact hu2.out.setCell (show _ ≤ u0.heap.size by have := h11.out; omega) _
          have ho11_3 : Hid (Bx u3 u0.heap.size #[Value.int .i64 (s.sz (rt a))] 3) := by show Bx _ _ _ _; rw [← he3]; exact ho11_2.out.set 0 _
          have ho12_3 : Hid (Bx u3 u1.heap.size #[Value.int .i64 0] 2) := by show Bx _ _ _ _; rw [← he3]; exact ho12_2.out.other (by have := h11.out; have := h12.out; omega) 0 _
          clear he3 e3 f3
          refine wpAnyX_ready (rs := [11]) (by kernel_rfl) (by simp) (AllX.cons rfl (fun K hK => ?_) AllX.nil)
          have e4 := ho12_3.out.cell 0
          have f4 := ho12_3.out.froz 0
          simp at e4
          go_simp
          refine hK _ _ (Sx.behind (by kernel_rfl) (hu3.out.setCell (show _ ≤ u1.heap.size by have := h12.out; omega) _)) ?_
          clear hK K
          obtain ⟨u4, he4⟩ : ∃ v, u3.setCell ⟨u1.heap.size, 0, none⟩ (Value.int .i64 (s.le (rt a))) = v := ⟨_, rfl⟩
          rw [he4]
          have hu4 : Hid (Below w5.heap.size w5 u4) := by show Below _ _ _; rw [← he4]; exact hu3.out.setCell (show _ ≤ u1.heap.size by have := h12.out; omega) _
          have ho12_4 : Hid (Bx u4 u1.heap.size #[Value.int .i64 (s.le (rt a))] 2) := by show Bx _ _ _ _; rw [← he4]; exact ho12_3.out.set 0 _
          have ho11_4 : Hid (Bx u4 u0.heap.size #[Value.int .i64 (s.sz (rt a))] 3) := by show Bx _ _ _ _; rw [← he4]; exact ho11_3.out.other (by have := h11.out; have := h12.out; omega) 0 _
          clear he4 e4 f4
          refine wpAnyX_done (by kernel_rfl) ?_ _
          exact ⟨rfl, u0.heap.size, u1.heap.size, rfl, by have := h11.out; have := h12.out; omega, by have := h11.out; omega, by have := h12.out; omega, ho11_4.out, ho12_4.out, hu4.out⟩
        · go_simp
          refine hK _ _ (Sx.behind (by kernel_rfl) (hu0.out.alloc hu0.out.size _)) ?_
          clear hK K
          obtain ⟨u1, he1⟩ : ∃ v, u0.alloc (Obj.cells #[Value.int .i64 0] 2) = v := ⟨_, rfl⟩
          rw [he1]
          have hu1 : Hid (Below w5.heap.size w5 u1) := by show Below _ _ _; rw [← he1]; exact hu0.out.alloc hu0.out.size _
          have ho12_1 : Hid (Bx u1 u0.heap.size #[Value.int .i64 0] 2) := by show Bx _ _ _ _; rw [← he1]; exact Bx.new _ _ _
          clear he1
          have h12 : Hid (w5.heap.size ≤ u0.heap.size) := by have q := hu0.out.size; exact q
          refine wpAnyX_ready (rs := [8]) (by kernel_rfl) (by simp) (AllX.cons rfl (fun K hK => ?_) AllX.nil)
          go_simp
          refine hK _ _ (Sx.behind (by kernel_rfl) (hu1.out.alloc hu1.out.size _)) ?_
          clear hK K
          obtain ⟨u2, he2⟩ : ∃ v, u1.alloc (Obj.cells #[Value.int .i64 0] 3) = v := ⟨_, rfl⟩
          rw [he2]
          have hu2 : Hid (Below w5.heap.size w5 u2) := by show Below _ _ _; rw [← he2]; exact hu1.out.alloc hu1.out.size _
          have ho11_2 : Hid (Bx u2 u1.heap.size #[Value.int .i64 0] 3) := by show Bx _ _ _ _; rw [← he2]; exact Bx.new _ _ _
          have ho12_2 : Hid (Bx u2 u0.heap.size #[Value.int .i64 0] 2) := by show Bx _ _ _ _; rw [← he2]; exact ho12_1.out.alloc _
          clear he2
          have h11 : Hid (w5.heap.size ≤ u1.heap.size ∧ u0.heap.size < u1.heap.size) := by have q := hu1.out.size; have q2 := ho12_1.out.lt; exact ⟨q, q2⟩
          refine wpAnyX_ready (rs := [10]) (by kernel_rfl) (by simp) (AllX.cons rfl (fun K hK => ?_) AllX.nil)
          have e3 := ho11_2.out.cell 0
          have f3 := ho11_2.out.froz 0
          simp at e3
          go_simp
          refine hK _ _ (Sx.behind (by kernel_rfl) (hu2.out.setCell (show _ ≤ u1.heap.size by have := h11.out; omega) _)) ?_
          clear hK K
          obtain ⟨u3, he3⟩ : ∃ v, u2.setCell ⟨u1.heap.size, 0, none⟩ (Value.int .i64 (s.sz (rt a))) = v := ⟨_, rfl⟩
          rw [he3]
          have hu3 : Hid (Below w5.heap.size w5 u3) := by show Below _ _ _; rw [← he3]; exact hu2.out.setCell (show _ ≤ u1.heap.size by have := h11.out; omega) _
          have ho11_3 : Hid (Bx u3 u1.heap.size #[Value.int .i64 (s.sz (rt a))] 3) := by show Bx _ _ _ _; rw [← he3]; exact ho11_2.out.set 0 _
          have ho12_3 : Hid (Bx u3 u0.heap.size #[Value.int .i64 0] 2) := by show Bx _ _ _ _; rw [← he3]; exact ho12_2.out.other (by have := h11.out; have := h12.out; omega) 0 _
          clear he3 e3 f3
          refine wpAnyX_ready (rs := [11]) (by kernel_rfl) (by simp) (AllX.cons rfl (fun K hK => ?_) AllX.nil)
          have e4 := ho12_3.out.cell 0
          have f4 := ho12_3.out.froz 0
          simp at e4
          go_simp
          refine hK _ _ (Sx.behind (by kernel_rfl) (hu3.out.setCell (show _ ≤ u0.heap.size by have := h12.out; omega) _)) ?_
          clear hK K
          obtain ⟨u4, he4⟩ : ∃ v, u3.setCell ⟨u0.heap.size, 0, none⟩ (Value.int .i64 (s.le (rt a))) = v := ⟨_, rfl⟩
          rw [he4]
          have hu4 : Hid (Below w5.heap.size w5 u4) := by show Below _ _ _; rw [← he4]; exact hu3.out.setCell (show _ ≤ u0.heap.size by have := h12.out; omega) _
          have ho12_4 : Hid (Bx u4 u0.heap.size #[Value.int .i64 (s.le (rt a))] 2) := by show Bx _ _ _ _; rw [← he4]; exact ho12_3.out.set 0 _
          have ho11_4 : Hid (Bx u4 u1.heap.size #[Value.int .i64 (s.sz (rt a))] 3) := by show Bx _ _ _ _; rw [← he4]; exact ho11_3.out.other (by have := h11.out; have := h12.out; omega) 0 _
          clear he4 e4 f4
          refine wpAnyX_done (by kernel_rfl) ?_ _
          exact ⟨rfl, u1.heap.size, u0.heap.size, rfl, by have := h11.out; have := h12.out; omega, by have := h11.out; omega, by have := h12.out; omega, ho11_4.out, ho12_4.out, hu4.out⟩
      · rintro a' w6 ⟨o11, o12, rfl, hn11, hl11, hl12, x11, x12, hb6⟩
        have HB6 := kide (HB5.out.trans (hb6.mono hz5))
        have XA := kide (Bx.later C0.out HB6.out)
        have XB := kide (Bx.later C1.out HB6.out)
        have X96 := kide (X95.out.later hb6)
        have X106 := kide (X105.out.later hb6)
        have X11 := kide x11
        have X12 := kide x12
        have gA := XA.out.cell 0
        have gB := XB.out.cell 0
        simp at gA gB
        clear x11 x12 hb6 X95 X105 g9 g10 s9 l9 HG5
        go_wp2_with fail
        have hb8 : Below w6.heap.size w6 (w6.alloc (Obj.cells #[Value.pointer (some ⟨pa, 0, none⟩), Value.pointer (some ⟨pb, 0, none⟩), Value.int .i64 y, Value.func (Fn.func 66) #[] #[Value.pointer (some ⟨o11, 0, none⟩), Value.pointer (some ⟨o12, 0, none⟩), Value.pointer (some ⟨o10, 0, none⟩), Value.pointer (some ⟨o9, 0, none⟩), Value.pointer (some ⟨A0, 0, none⟩), Value.pointer (some ⟨A1, 0, none⟩)]] 97)) := (Below.refl _ _).alloc (Nat.le_refl _) _
        have XT := kide (Bx.new w6 #[Value.pointer (some ⟨pa, 0, none⟩), Value.pointer (some ⟨pb, 0, none⟩), Value.int .i64 y, Value.func (Fn.func 66) #[] #[Value.pointer (some ⟨o11, 0, none⟩), Value.pointer (some ⟨o12, 0, none⟩), Value.pointer (some ⟨o10, 0, none⟩), Value.pointer (some ⟨o9, 0, none⟩), Value.pointer (some ⟨A0, 0, none⟩), Value.pointer (some ⟨A1, 0, none⟩)]] 97)
        have hz6 := HB6.out.size
        obtain ⟨T0, hT0⟩ : ∃ T0, w6.heap.size = T0 := ⟨_, rfl⟩
        rw [hT0] at XT hb8 ⊢
        rw [hT0] at hz6
        have HB8 := kide (HB6.out.trans (hb8.mono hz6))
        have XA8 := kide (XA.out.later (by rw [hT0]; exact hb8))
        have XB8 := kide (XB.out.later (by rw [hT0]; exact hb8))
        have X98 := kide (X96.out.later (by rw [hT0]; exact hb8))
        have X108 := kide (X106.out.later (by rw [hT0]; exact hb8))
        have X118 := kide (X11.out.later (by rw [hT0]; exact hb8))
        have X128 := kide (X12.out.later (by rw [hT0]; exact hb8))
        have HT0 := kide hT0
        clear hb8 hT0 XA XB X96 X106 X11 X12 gA gB
        generalize w6.alloc (Obj.cells #[Value.pointer (some ⟨pa, 0, none⟩), Value.pointer (some ⟨pb, 0, none⟩), Value.int .i64 y, Value.func (Fn.func 66) #[] #[Value.pointer (some ⟨o11, 0, none⟩), Value.pointer (some ⟨o12, 0, none⟩), Value.pointer (some ⟨o10, 0, none⟩), Value.pointer (some ⟨o9, 0, none⟩), Value.pointer (some ⟨A0, 0, none⟩), Value.pointer (some ⟨A1, 0, none⟩)]] 97) = w8 at *
        generalize hfv : Value.func (Fn.func 66) #[] #[Value.pointer (some ⟨o11, 0, none⟩), Value.pointer (some ⟨o12, 0, none⟩), Value.pointer (some ⟨o10, 0, none⟩), Value.pointer (some ⟨o9, 0, none⟩), Value.pointer (some ⟨A0, 0, none⟩), Value.pointer (some ⟨A1, 0, none⟩)] = fv at *
        have HFV := kide hfv
        clear hfv
        have HG8 := kide (HG2.out.later HB8.out)
        have XL8 := kide (XL2.out.later HB8.out)
        refine region_cut (fun a' w' => a' = ({ tmps := #[Value.pointer (some ⟨G, 0, none⟩), Value.pointer (some ⟨pa, 0, none⟩), Value.pointer (some ⟨pb, 0, none⟩), Value.int .i64 y, undef, Value.pointer (some ⟨A0, 0, none⟩), Value.pointer (some ⟨A1, 0, none⟩), undef, Value.bool false, Value.pointer (some ⟨o9, 0, none⟩), Value.pointer (some ⟨o10, 0, none⟩), Value.pointer (some ⟨o11, 0, none⟩), Value.pointer (some ⟨o12, 0, none⟩), Value.pointer (some ⟨T0, 0, none⟩), Value.pointer (some ⟨pa, 0, none⟩), Value.pointer (some ⟨po, 0, none⟩), Value.pointer (some ⟨pb, 0, none⟩), Value.pointer (some ⟨pu, 0, none⟩), Value.pointer (some ⟨po, 0, none⟩), Value.pointer (some ⟨pu, 0, none⟩), Value.bool false, Value.pointer (some ⟨po, 0, none⟩), Value.pointer (some ⟨po, 0, none⟩), Value.pointer (some ⟨po, 3, none⟩), Value.int .i64 (s.sz (rt a)), Value.pointer (some ⟨pu, 0, none⟩), Value.pointer (some ⟨pu, 0, none⟩), Value.pointer (some ⟨pu, 3, none⟩), Value.int .i64 (s.sz (rt b)), Value.bool (decide (s.sz (rt a) < s.sz (rt b))), undef, undef, Value.pointer (some ⟨po, 0, none⟩), Value.pointer (some ⟨po, 0, none⟩), Value.pointer (some ⟨po, 3, none⟩), Value.int .i64 (s.sz (rt a)), Value.pointer (some ⟨po, 0, none⟩), Value.pointer (some ⟨po, 0, none⟩), Value.pointer (some ⟨po, 4, none⟩), Value.int .i64 (s.le (rt a)), Value.pointer (some ⟨pa, 0, none⟩), Value.pointer (some ⟨pb, 0, none⟩), Value.int .i64 y, Value.agg #[Value.pointer (some ⟨pa, 0, none⟩), Value.pointer (some ⟨pb, 0, none⟩), Value.int .i64 y, Value.nilFunc], Value.pointer (some ⟨T0, 0, none⟩), Value.pointer (some ⟨T0, 0, none⟩), fv, Value.pointer (some ⟨T0, 0, none⟩), Value.pointer (some ⟨T0, 3, none⟩), Value.pointer (some ⟨pu, 0, none⟩), Value.pointer (some ⟨po, 0, none⟩), Value.pointer (some ⟨po, 0, none⟩), Value.pointer (some ⟨po, 0, none⟩), Value.int .i64 (s.sz (rt a)), Value.pointer (some ⟨pu, 0, none⟩), Value.pointer (some ⟨pu, 0, none⟩), Value.pointer (some ⟨pu, 3, none⟩), Value.int .i64 (s.sz (rt b)), Value.int .i64 (IntKind.i64.wrap (s.sz (rt a) + s.sz (rt b))), Value.int .i64 (s.le (rt a)), Value.pointer (some ⟨pu, 0, none⟩), Value.pointer (some ⟨pu, 0, none⟩), Value.pointer (some ⟨pu, 4, none⟩), Value.int .i64 (s.le (rt b)), Value.int .i64 (min (s.le (rt a)) (s.le (rt b))), Value.pointer (some ⟨pu, 0, none⟩), Value.pointer (some ⟨pu, 2, none⟩), Value.pointer (some ⟨po, 0, none⟩), Value.pointer (some ⟨po, 3, none⟩), Value.pointer (some ⟨po, 0, none⟩), Value.pointer (some ⟨po, 4, none⟩), undef, undef, undef, undef, undef, undef, undef, undef, undef, undef, undef, undef, undef, undef, undef, undef, undef, undef, undef, undef, undef, undef, undef, undef, undef], defers := [] } : Act) ∧ Gv w' B G M { s with up := (fun j => if j = rt b then some (rt a) else s.up j), sz := (fun j => if j = rt a then (IntKind.i64.wrap (s.sz (rt a) + s.sz (rt b))) else s.sz j), le := (fun j => if j = rt a then (min (s.le (rt a)) (s.le (rt b))) else s.le j) } ∧ Bx w' T0 #[Value.pointer (some ⟨pa, 0, none⟩), Value.pointer (some ⟨pb, 0, none⟩), Value.int .i64 y, fv] 97 ∧ Bx w' A0 #[Value.pointer (some ⟨pa, 0, none⟩)] 70 ∧ Bx w' A1 #[Value.pointer (some ⟨pb, 0, none⟩)] 70 ∧ Below B w w' ∧ w8.heap.size ≤ w'.heap.size ∧ Kt w8 w') ?_ ?_
        have hrne : rt a ≠ rt b := hne
        · refine wp_region_x (SA := fun _ => False) (SB := fun u => u.cell? ⟨o10, 0, none⟩ = some (Value.pointer (some ⟨pu, 0, none⟩)) ∧ u.cell? ⟨o9, 0, none⟩ = some (Value.pointer (some ⟨po, 0, none⟩)) ∧ u.cell? ⟨o11, 0, none⟩ = some (Value.int .i64 (s.sz (rt a))) ∧ u.cell? ⟨pu, 3, none⟩ = some (Value.int .i64 (s.sz (rt b))) ∧ u.cell? ⟨o12, 0, none⟩ = some (Value.int .i64 (s.le (rt a))) ∧ u.cell? ⟨pu, 4, none⟩ = some (Value.int .i64 (s.le (rt b)))) (k := 999) (by kernel_rfl) ?_
          have hbd : Below w8.heap.size w8 w8.drew := (Below.refl _ _).drew
          have HGu0 := kide (HG8.out.later hbd)
          have XTu0 := kide (XT.out.later hbd)
          have XAu0 := kide (XA8.out.later hbd)
          have XBu0 := kide (XB8.out.later hbd)
          have X9u0 := kide (X98.out.later hbd)
          have X10u0 := kide (X108.out.later hbd)
          have X11u0 := kide (X118.out.later hbd)
          have X12u0 := kide (X128.out.later hbd)
          have XLu0 : Hid (Kt w8 w8.drew) := Kt.of_below hbd
          have BBu0 : Hid (Below B w w8.drew) := ((HB2.out.trans (HB8.out.mono HB2.out.size)).mono hBw).drew
          have hzu0 : w8.heap.size ≤ w8.drew.heap.size := Nat.le_refl _
          generalize w8.drew = u0 at *
          have HPO : Hid (s.ps[rt a]?.getD 0 = po) := by show _ = _; rw [HRO.out]; rfl
          have hs0 : Hid ((fun u => u.cell? ⟨o10, 0, none⟩ = some (Value.pointer (some ⟨pu, 0, none⟩)) ∧ u.cell? ⟨o9, 0, none⟩ = some (Value.pointer (some ⟨po, 0, none⟩)) ∧ u.cell? ⟨o11, 0, none⟩ = some (Value.int .i64 (s.sz (rt a))) ∧ u.cell? ⟨pu, 3, none⟩ = some (Value.int .i64 (s.sz (rt b))) ∧ u.cell? ⟨o12, 0, none⟩ = some (Value.int .i64 (s.le (rt a))) ∧ u.cell? ⟨pu, 4, none⟩ = some (Value.int .i64 (s.le (rt b)))) u0) := by
            have k1 := HGu0.out.get HRU.out
            exact ⟨X10u0.out.cell 0, X9u0.out.cell 0, X11u0.out.cell 0, k1.2.2.2.1, X12u0.out.cell 0, k1.2.2.2.2⟩
          try go_simp
          refine wpAnyX_both (T := fun u => u.cell? ⟨o10, 0, none⟩ = some (Value.pointer (some ⟨pu, 0, none⟩)) ∧ u.cell? ⟨o9, 0, none⟩ = some (Value.pointer (some ⟨po, 0, none⟩)) ∧ u.cell? ⟨o11, 0, none⟩ = some (Value.int .i64 (s.sz (rt a))) ∧ u.cell? ⟨pu, 3, none⟩ = some (Value.int .i64 (s.sz (rt b))) ∧ u.cell? ⟨o12, 0, none⟩ = some (Value.int .i64 (s.le (rt a))) ∧ u.cell? ⟨pu, 4, none⟩ = some (Value.int .i64 (s.le (rt b)))) (i := 0) (v := Value.pointer (some ⟨pu, 0, none⟩)) rfl (by kernel_rfl) (by kernel_rfl) (by kernel_rfl) (fun _ _ _ h => by first | exact h | exact h.elim | cases h.1) (by decide) (fun _ h => h.elim) (fun _ h => h) (Sx.behind (by kernel_rfl) hs0.out) (Or.inl ⟨by rfl, fun u hu => by obtain ⟨e1, e2, e3, e4, e5, e6⟩ := hu; go_simp⟩) ?_
          try go_simp
          refine wpAnyX_both (T := fun u => u.cell? ⟨o10, 0, none⟩ = some (Value.pointer (some ⟨pu, 0, none⟩)) ∧ u.cell? ⟨o9, 0, none⟩ = some (Value.pointer (some ⟨po, 0, none⟩)) ∧ u.cell? ⟨o11, 0, none⟩ = some (Value.int .i64 (s.sz (rt a))) ∧ u.cell? ⟨pu, 3, none⟩ = some (Value.int .i64 (s.sz (rt b))) ∧ u.cell? ⟨o12, 0, none⟩ = some (Value.int .i64 (s.le (rt a))) ∧ u.cell? ⟨pu, 4, none⟩ = some (Value.int .i64 (s.le (rt b)))) (i := 1) (v := Value.pointer (some ⟨po, 0, none⟩)) rfl (by kernel_rfl) (by kernel_rfl) (by kernel_rfl) (fun _ _ _ h => by first | exact h | exact h.elim | cases h.1) (by decide) (fun _ h => h.elim) (fun _ h => h) (Sx.behind (by kernel_rfl) hs0.out) (Or.inl ⟨by rfl, fun u hu => by obtain ⟨e1, e2, e3, e4, e5, e6⟩ := hu; go_simp⟩) ?_
          try go_simp
          refine wpAnyX_both (T := fun u => u.cell? ⟨o10, 0, none⟩ = some (Value.pointer (some ⟨pu, 0, none⟩)) ∧ u.cell? ⟨o9, 0, none⟩ = some (Value.pointer (some ⟨po, 0, none⟩)) ∧ u.cell? ⟨o11, 0, none⟩ = some (Value.int .i64 (s.sz (rt a))) ∧ u.cell? ⟨pu, 3, none⟩ = some (Value.int .i64 (s.sz (rt b))) ∧ u.cell? ⟨o12, 0, none⟩ = some (Value.int .i64 (s.le (rt a))) ∧ u.cell? ⟨pu, 4, none⟩ = some (Value.int .i64 (s.le (rt b)))) (i := 2) (v := Value.pointer (some ⟨po, 0, none⟩)) rfl (by kernel_rfl) (by kernel_rfl) (by kernel_rfl) (fun _ _ _ h => by first | exact h | exact h.elim | cases h.1) (by decide) (fun _ h => h.elim) (fun _ h => h) (Sx.behind (by kernel_rfl) hs0.out) (Or.inl ⟨by rfl, fun u hu => by obtain ⟨e1, e2, e3, e4, e5, e6⟩ := hu; go_simp⟩) ?_
          try go_simp
          refine wpAnyX_both (T := fun u => u.cell? ⟨o10, 0, none⟩ = some (Value.pointer (some ⟨pu, 0, none⟩)) ∧ u.cell? ⟨o9, 0, none⟩ = some (Value.pointer (some ⟨po, 0, none⟩)) ∧ u.cell? ⟨o11, 0, none⟩ = some (Value.int .i64 (s.sz (rt a))) ∧ u.cell? ⟨pu, 3, none⟩ = some (Value.int .i64 (s.sz (rt b))) ∧ u.cell? ⟨o12, 0, none⟩ = some (Value.int .i64 (s.le (rt a))) ∧ u.cell? ⟨pu, 4, none⟩ = some (Value.int .i64 (s.le (rt b)))) (i := 3) (v := Value.pointer (some ⟨po, 0, none⟩)) rfl (by kernel_rfl) (by kernel_rfl) (by kernel_rfl) (fun _ _ _ h => by first | exact h | exact h.elim | cases h.1) (by decide) (fun _ h => h.elim) (fun _ h => h) (Sx.behind (by kernel_rfl) hs0.out) (Or.inl ⟨by rfl, fun u hu => by obtain ⟨e1, e2, e3, e4, e5, e6⟩ := hu; go_simp⟩) ?_
          try go_simp
          refine wpAnyX_both (T := fun u => u.cell? ⟨o10, 0, none⟩ = some (Value.pointer (some ⟨pu, 0, none⟩)) ∧ u.cell? ⟨o9, 0, none⟩ = some (Value.pointer (some ⟨po, 0, none⟩)) ∧ u.cell? ⟨o11, 0, none⟩ = some (Value.int .i64 (s.sz (rt a))) ∧ u.cell? ⟨pu, 3, none⟩ = some (Value.int .i64 (s.sz (rt b))) ∧ u.cell? ⟨o12, 0, none⟩ = some (Value.int .i64 (s.le (rt a))) ∧ u.cell? ⟨pu, 4, none⟩ = some (Value.int .i64 (s.le (rt b)))) (i := 4) (v := Value.int .i64 (s.sz (rt a))) rfl (by kernel_rfl) (by kernel_rfl) (by kernel_rfl) (fun _ _ _ h => by first | exact h | exact h.elim | cases h.1) (by decide) (fun _ h => h.elim) (fun _ h => h) (Sx.behind (by kernel_rfl) hs0.out) (Or.inl ⟨by rfl, fun u hu => by obtain ⟨e1, e2, e3, e4, e5, e6⟩ := hu; go_simp⟩) ?_
          try go_simp
          refine wpAnyX_both (T := fun u => u.cell? ⟨o10, 0, none⟩ = some (Value.pointer (some ⟨pu, 0, none⟩)) ∧ u.cell? ⟨o9, 0, none⟩ = some (Value.pointer (some ⟨po, 0, none⟩)) ∧ u.cell? ⟨o11, 0, none⟩ = some (Value.int .i64 (s.sz (rt a))) ∧ u.cell? ⟨pu, 3, none⟩ = some (Value.int .i64 (s.sz (rt b))) ∧ u.cell? ⟨o12, 0, none⟩ = some (Value.int .i64 (s.le (rt a))) ∧ u.cell? ⟨pu, 4, none⟩ = some (Value.int .i64 (s.le (rt b)))) (i := 5) (v := Value.pointer (some ⟨pu, 0, none⟩)) rfl (by kernel_rfl) (by kernel_rfl) (by kernel_rfl) (fun _ _ _ h => by first | exact h | exact h.elim | cases h.1) (by decide) (fun _ h => h.elim) (fun _ h => h) (Sx.behind (by kernel_rfl) hs0.out) (Or.inl ⟨by rfl, fun u hu => by obtain ⟨e1, e2, e3, e4, e5, e6⟩ := hu; go_simp⟩) ?_
          try go_simp
          refine wpAnyX_both (T := fun u => u.cell? ⟨o10, 0, none⟩ = some (Value.pointer (some ⟨pu, 0, none⟩)) ∧ u.cell? ⟨o9, 0, none⟩ = some (Value.pointer (some ⟨po, 0, none⟩)) ∧ u.cell? ⟨o11, 0, none⟩ = some (Value.int .i64 (s.sz (rt a))) ∧ u.cell? ⟨pu, 3, none⟩ = some (Value.int .i64 (s.sz (rt b))) ∧ u.cell? ⟨o12, 0, none⟩ = some (Value.int .i64 (s.le (rt a))) ∧ u.cell? ⟨pu, 4, none⟩ = some (Value.int .i64 (s.le (rt b)))) (i := 6) (v := Value.pointer (some ⟨pu, 0, none⟩)) rfl (by kernel_rfl) (by kernel_rfl) (by kernel_rfl) (fun _ _ _ h => by first | exact h | exact h.elim | cases h.1) (by decide) (fun _ h => h.elim) (fun _ h => h) (Sx.behind (by kernel_rfl) hs0.out) (Or.inl ⟨by rfl, fun u hu => by go_simp⟩) ?_
          try go_simp
          refine wpAnyX_both (T := fun u => u.cell? ⟨o10, 0, none⟩ = some (Value.pointer (some ⟨pu, 0, none⟩)) ∧ u.cell? ⟨o9, 0, none⟩ = some (Value.pointer (some ⟨po, 0, none⟩)) ∧ u.cell? ⟨o11, 0, none⟩ = some (Value.int .i64 (s.sz (rt a))) ∧ u.cell? ⟨pu, 3, none⟩ = some (Value.int .i64 (s.sz (rt b))) ∧ u.cell? ⟨o12, 0, none⟩ = some (Value.int .i64 (s.le (rt a))) ∧ u.cell? ⟨pu, 4, none⟩ = some (Value.int .i64 (s.le (rt b)))) (i := 7) (v := Value.pointer (some ⟨pu, 3, none⟩)) rfl (by kernel_rfl) (by kernel_rfl) (by kernel_rfl) (fun _ _ _ h => by first | exact h | exact h.elim | cases h.1) (by decide) (fun _ h => h.elim) (fun _ h => h) (Sx.behind (by kernel_rfl) hs0.out) (Or.inl ⟨by rfl, fun u hu => by go_simp⟩) ?_
          try go_simp
          refine wpAnyX_both (T := fun u => u.cell? ⟨o10, 0, none⟩ = some (Value.pointer (some ⟨pu, 0, none⟩)) ∧ u.cell? ⟨o9, 0, none⟩ = some (Value.pointer (some ⟨po, 0, none⟩)) ∧ u.cell? ⟨o11, 0, none⟩ = some (Value.int .i64 (s.sz (rt a))) ∧ u.cell? ⟨pu, 3, none⟩ = some (Value.int .i64 (s.sz (rt b))) ∧ u.cell? ⟨o12, 0, none⟩ = some (Value.int .i64 (s.le (rt a))) ∧ u.cell? ⟨pu, 4, none⟩ = some (Value.int .i64 (s.le (rt b)))) (i := 8) (v := Value.int .i64 (s.sz (rt b))) rfl (by kernel_rfl) (by kernel_rfl) (by kernel_rfl) (fun _ _ _ h => by first | exact h | exact h.elim | cases h.1) (by decide) (fun _ h => h.elim) (fun _ h => h) (Sx.behind (by kernel_rfl) hs0.out) (Or.inl ⟨by rfl, fun u hu => by obtain ⟨e1, e2, e3, e4, e5, e6⟩ := hu; go_simp⟩) ?_
          try go_simp
          refine wpAnyX_both (T := fun u => u.cell? ⟨o10, 0, none⟩ = some (Value.pointer (some ⟨pu, 0, none⟩)) ∧ u.cell? ⟨o9, 0, none⟩ = some (Value.pointer (some ⟨po, 0, none⟩)) ∧ u.cell? ⟨o11, 0, none⟩ = some (Value.int .i64 (s.sz (rt a))) ∧ u.cell? ⟨pu, 3, none⟩ = some (Value.int .i64 (s.sz (rt b))) ∧ u.cell? ⟨o12, 0, none⟩ = some (Value.int .i64 (s.le (rt a))) ∧ u.cell? ⟨pu, 4, none⟩ = some (Value.int .i64 (s.le (rt b)))) (i := 9) (v := Value.int .i64 (IntKind.i64.wrap (s.sz (rt a) + s.sz (rt b)))) rfl (by kernel_rfl) (by kernel_rfl) (by kernel_rfl) (fun _ _ _ h => by first | exact h | exact h.elim | cases h.1) (by decide) (fun _ h => h.elim) (fun _ h => h) (Sx.behind (by kernel_rfl) hs0.out) (Or.inl ⟨by rfl, fun u hu => by go_simp⟩) ?_
          try go_simp
          refine wpAnyX_both (T := fun u => u.cell? ⟨o10, 0, none⟩ = some (Value.pointer (some ⟨pu, 0, none⟩)) ∧ u.cell? ⟨o9, 0, none⟩ = some (Value.pointer (some ⟨po, 0, none⟩)) ∧ u.cell? ⟨o11, 0, none⟩ = some (Value.int .i64 (s.sz (rt a))) ∧ u.cell? ⟨pu, 3, none⟩ = some (Value.int .i64 (s.sz (rt b))) ∧ u.cell? ⟨o12, 0, none⟩ = some (Value.int .i64 (s.le (rt a))) ∧ u.cell? ⟨pu, 4, none⟩ = some (Value.int .i64 (s.le (rt b)))) (i := 10) (v := Value.int .i64 (s.le (rt a))) rfl (by kernel_rfl) (by kernel_rfl) (by kernel_rfl) (fun _ _ _ h => by first | exact h | exact h.elim | cases h.1) (by decide) (fun _ h => h.elim) (fun _ h => h) (Sx.behind (by kernel_rfl) hs0.out) (Or.inl ⟨by rfl, fun u hu => by obtain ⟨e1, e2, e3, e4, e5, e6⟩ := hu; go_simp⟩) ?_
          try go_simp
          refine wpAnyX_both (T := fun u => u.cell? ⟨o10, 0, none⟩ = some (Value.pointer (some ⟨pu, 0, none⟩)) ∧ u.cell? ⟨o9, 0, none⟩ = some (Value.pointer (some ⟨po, 0, none⟩)) ∧ u.cell? ⟨o11, 0, none⟩ = some (Value.int .i64 (s.sz (rt a))) ∧ u.cell? ⟨pu, 3, none⟩ = some (Value.int .i64 (s.sz (rt b))) ∧ u.cell? ⟨o12, 0, none⟩ = some (Value.int .i64 (s.le (rt a))) ∧ u.cell? ⟨pu, 4, none⟩ = some (Value.int .i64 (s.le (rt b)))) (i := 11) (v := Value.pointer (some ⟨pu, 0, none⟩)) rfl (by kernel_rfl) (by kernel_rfl) (by kernel_rfl) (fun _ _ _ h => by first | exact h | exact h.elim | cases h.1) (by decide) (fun _ h => h.elim) (fun _ h => h) (Sx.behind (by kernel_rfl) hs0.out) (Or.inl ⟨by rfl, fun u hu => by obtain ⟨e1, e2, e3, e4, e5, e6⟩ := hu; go_simp⟩) ?_
          try go_simp
          refine wpAnyX_both (T := fun u => u.cell? ⟨o10, 0, none⟩ = some (Value.pointer (some ⟨pu, 0, none⟩)) ∧ u.cell? ⟨o9, 0, none⟩ = some (Value.pointer (some ⟨po, 0, none⟩)) ∧ u.cell? ⟨o11, 0, none⟩ = some (Value.int .i64 (s.sz (rt a))) ∧ u.cell? ⟨pu, 3, none⟩ = some (Value.int .i64 (s.sz (rt b))) ∧ u.cell? ⟨o12, 0, none⟩ = some (Value.int .i64 (s.le (rt a))) ∧ u.cell? ⟨pu, 4, none⟩ = some (Value.int .i64 (s.le (rt b)))) (i := 12) (v := Value.pointer (some ⟨pu, 0, none⟩)) rfl (by kernel_rfl) (by kernel_rfl) (by kernel_rfl) (fun _ _ _ h => by first | exact h | exact h.elim | cases h.1) (by decide) (fun _ h => h.elim) (fun _ h => h) (Sx.behind (by kernel_rfl) hs0.out) (Or.inl ⟨by rfl, fun u hu => by go_simp⟩) ?_
          try go_simp
          refine wpAnyX_both (T := fun u => u.cell? ⟨o10, 0, none⟩ = some (Value.pointer (some ⟨pu, 0, none⟩)) ∧ u.cell? ⟨o9, 0, none⟩ = some (Value.pointer (some ⟨po, 0, none⟩)) ∧ u.cell? ⟨o11, 0, none⟩ = some (Value.int .i64 (s.sz (rt a))) ∧ u.cell? ⟨pu, 3, none⟩ = some (Value.int .i64 (s.sz (rt b))) ∧ u.cell? ⟨o12, 0, none⟩ = some (Value.int .i64 (s.le (rt a))) ∧ u.cell? ⟨pu, 4, none⟩ = some (Value.int .i64 (s.le (rt b)))) (i := 13) (v := Value.pointer (some ⟨pu, 4, none⟩)) rfl (by kernel_rfl) (by kernel_rfl) (by kernel_rfl) (fun _ _ _ h => by first | exact h | exact h.elim | cases h.1) (by decide) (fun _ h => h.elim) (fun _ h => h) (Sx.behind (by kernel_rfl) hs0.out) (Or.inl ⟨by rfl, fun u hu => by go_simp⟩) ?_
          try go_simp
          refine wpAnyX_both (T := fun u => u.cell? ⟨o10, 0, none⟩ = some (Value.pointer (some ⟨pu, 0, none⟩)) ∧ u.cell? ⟨o9, 0, none⟩ = some (Value.pointer (some ⟨po, 0, none⟩)) ∧ u.cell? ⟨o11, 0, none⟩ = some (Value.int .i64 (s.sz (rt a))) ∧ u.cell? ⟨pu, 3, none⟩ = some (Value.int .i64 (s.sz (rt b))) ∧ u.cell? ⟨o12, 0, none⟩ = some (Value.int .i64 (s.le (rt a))) ∧ u.cell? ⟨pu, 4, none⟩ = some (Value.int .i64 (s.le (rt b)))) (i := 14) (v := Value.int .i64 (s.le (rt b))) rfl (by kernel_rfl) (by kernel_rfl) (by kernel_rfl) (fun _ _ _ h => by first | exact h | exact h.elim | cases h.1) (by decide) (fun _ h => h.elim) (fun _ h => h) (Sx.behind (by kernel_rfl) hs0.out) (Or.inl ⟨by rfl, fun u hu => by obtain ⟨e1, e2, e3, e4, e5, e6⟩ := hu; go_simp⟩) ?_
          try go_simp
          refine wpAnyX_both (T := fun u => u.cell? ⟨o10, 0, none⟩ = some (Value.pointer (some ⟨pu, 0, none⟩)) ∧ u.cell? ⟨o9, 0, none⟩ = some (Value.pointer (some ⟨po, 0, none⟩)) ∧ u.cell? ⟨o11, 0, none⟩ = some (Value.int .i64 (s.sz (rt a))) ∧ u.cell? ⟨pu, 3, none⟩ = some (Value.int .i64 (s.sz (rt b))) ∧ u.cell? ⟨o12, 0, none⟩ = some (Value.int .i64 (s.le (rt a))) ∧ u.cell? ⟨pu, 4, none⟩ = some (Value.int .i64 (s.le (rt b)))) (i := 15) (v := Value.int .i64 (min (s.le (rt a)) (s.le (rt b)))) rfl (by kernel_rfl) (by kernel_rfl) (by kernel_rfl) (fun _ _ _ h => by first | exact h | exact h.elim | cases h.1) (by decide) (fun _ h => h.elim) (fun _ h => h) (Sx.behind (by kernel_rfl) hs0.out) (Or.inl ⟨by rfl, fun u hu => by go_simp; (try simp); omega⟩) ?_
          try go_simp
          refine wpAnyX_both (T := fun u => u.cell? ⟨o10, 0, none⟩ = some (Value.pointer (some ⟨pu, 0, none⟩)) ∧ u.cell? ⟨o9, 0, none⟩ = some (Value.pointer (some ⟨po, 0, none⟩)) ∧ u.cell? ⟨o11, 0, none⟩ = some (Value.int .i64 (s.sz (rt a))) ∧ u.cell? ⟨pu, 3, none⟩ = some (Value.int .i64 (s.sz (rt b))) ∧ u.cell? ⟨o12, 0, none⟩ = some (Value.int .i64 (s.le (rt a))) ∧ u.cell? ⟨pu, 4, none⟩ = some (Value.int .i64 (s.le (rt b)))) (i := 16) (v := Value.pointer (some ⟨pu, 0, none⟩)) rfl (by kernel_rfl) (by kernel_rfl) (by kernel_rfl) (fun _ _ _ h => by first | exact h | exact h.elim | cases h.1) (by decide) (fun _ h => h.elim) (fun _ h => h) (Sx.behind (by kernel_rfl) hs0.out) (Or.inl ⟨by rfl, fun u hu => by go_simp⟩) ?_
          try go_simp
          refine wpAnyX_both (T := fun u => u.cell? ⟨o10, 0, none⟩ = some (Value.pointer (some ⟨pu, 0, none⟩)) ∧ u.cell? ⟨o9, 0, none⟩ = some (Value.pointer (some ⟨po, 0, none⟩)) ∧ u.cell? ⟨o11, 0, none⟩ = some (Value.int .i64 (s.sz (rt a))) ∧ u.cell? ⟨pu, 3, none⟩ = some (Value.int .i64 (s.sz (rt b))) ∧ u.cell? ⟨o12, 0, none⟩ = some (Value.int .i64 (s.le (rt a))) ∧ u.cell? ⟨pu, 4, none⟩ = some (Value.int .i64 (s.le (rt b)))) (i := 17) (v := Value.pointer (some ⟨pu, 2, none⟩)) rfl (by kernel_rfl) (by kernel_rfl) (by kernel_rfl) (fun _ _ _ h => by first | exact h | exact h.elim | cases h.1) (by decide) (fun _ h => h.elim) (fun _ h => h) (Sx.behind (by kernel_rfl) hs0.out) (Or.inl ⟨by rfl, fun u hu => by go_simp⟩) ?_
          try go_simp
          refine wpAnyX_ready (rs := [18]) (by kernel_rfl) (by simp) (AllX.cons rfl (fun K hK => ?_) AllX.nil)
          have q1 := HGu0.out.get HRU.out
          have f1 := frozen_of_row u0 pu 2 _ _ (HGu0.out.kn _ _ HRU.out).2
          obtain ⟨qa1, qb1, qc1, qd1, qe1⟩ := q1
          go_simp
          have HGu1 : Hid (Gv (u0.setCell ⟨pu, 2, none⟩ (Value.pointer (some ⟨po, 0, none⟩))) B G M { s with tc := s.tc, up := (fun j => if j = rt b then some (rt a) else s.up j), sz := s.sz, le := s.le }) := by
            refine HGu0.out.knot HRU.out 2 _ s.tc (fun j => if j = rt b then some (rt a) else s.up j) s.sz s.le (fun j hj => by simp [hj]) ?_
            simp [knotCells, upv, pt, HPO.out, hpou]
          have XAu1 : Hid (Bx (u0.setCell ⟨pu, 2, none⟩ (Value.pointer (some ⟨po, 0, none⟩))) A0 #[Value.pointer (some ⟨pa, 0, none⟩)] 70) := XAu0.out.other (XAu0.out.apart (HGu0.out.kn _ _ HRU.out).2 (by first | decide | assumption)) 2 _
          have XBu1 : Hid (Bx (u0.setCell ⟨pu, 2, none⟩ (Value.pointer (some ⟨po, 0, none⟩))) A1 #[Value.pointer (some ⟨pb, 0, none⟩)] 70) := XBu0.out.other (XBu0.out.apart (HGu0.out.kn _ _ HRU.out).2 (by first | decide | assumption)) 2 _
          have X9u1 : Hid (Bx (u0.setCell ⟨pu, 2, none⟩ (Value.pointer (some ⟨po, 0, none⟩))) o9 #[Value.pointer (some ⟨po, 0, none⟩)] 70) := X9u0.out.other (X9u0.out.apart (HGu0.out.kn _ _ HRU.out).2 (by first | decide | assumption)) 2 _
          have X10u1 : Hid (Bx (u0.setCell ⟨pu, 2, none⟩ (Value.pointer (some ⟨po, 0, none⟩))) o10 #[Value.pointer (some ⟨pu, 0, none⟩)] 70) := X10u0.out.other (X10u0.out.apart (HGu0.out.kn _ _ HRU.out).2 (by first | decide | assumption)) 2 _
          have X11u1 : Hid (Bx (u0.setCell ⟨pu, 2, none⟩ (Value.pointer (some ⟨po, 0, none⟩))) o11 #[Value.int .i64 (s.sz (rt a))] 3) := X11u0.out.other (X11u0.out.apart (HGu0.out.kn _ _ HRU.out).2 (by first | decide | assumption)) 2 _
          have X12u1 : Hid (Bx (u0.setCell ⟨pu, 2, none⟩ (Value.pointer (some ⟨po, 0, none⟩))) o12 #[Value.int .i64 (s.le (rt a))] 2) := X12u0.out.other (X12u0.out.apart (HGu0.out.kn _ _ HRU.out).2 (by first | decide | assumption)) 2 _
          have XLu1 : Hid (Kt w8 (u0.setCell ⟨pu, 2, none⟩ (Value.pointer (some ⟨po, 0, none⟩)))) := XLu0.out.set (HGu0.out.kn _ _ HRU.out).2 (.inl rfl) _
          have XTu1 : Hid (Bx (u0.setCell ⟨pu, 2, none⟩ (Value.pointer (some ⟨po, 0, none⟩))) T0 #[Value.pointer (some ⟨pa, 0, none⟩), Value.pointer (some ⟨pb, 0, none⟩), Value.int .i64 y, fv] 97) := XTu0.out.other (XTu0.out.apart (HGu0.out.kn _ _ HRU.out).2 (by first | decide | assumption)) 2 _
          have BBu1 : Hid (Below B w (u0.setCell ⟨pu, 2, none⟩ (Value.pointer (some ⟨po, 0, none⟩)))) := BBu0.out.setCell (HGu0.out.kn _ _ HRU.out).1 _
          have hzu1 : w8.heap.size ≤ (u0.setCell ⟨pu, 2, none⟩ (Value.pointer (some ⟨po, 0, none⟩))).heap.size := by simpa using hzu0
          generalize u0.setCell ⟨pu, 2, none⟩ (Value.pointer (some ⟨po, 0, none⟩)) = u1 at *
          have hs1 : Hid ((fun u => u.cell? ⟨o10, 0, none⟩ = some (Value.pointer (some ⟨pu, 0, none⟩)) ∧ u.cell? ⟨o9, 0, none⟩ = some (Value.pointer (some ⟨po, 0, none⟩)) ∧ u.cell? ⟨o11, 0, none⟩ = some (Value.int .i64 (s.sz (rt a))) ∧ u.cell? ⟨pu, 3, none⟩ = some (Value.int .i64 (s.sz (rt b))) ∧ u.cell? ⟨o12, 0, none⟩ = some (Value.int .i64 (s.le (rt a))) ∧ u.cell? ⟨pu, 4, none⟩ = some (Value.int .i64 (s.le (rt b)))) u1) := by
            have k1 := HGu1.out.get HRU.out
            exact ⟨X10u1.out.cell 0, X9u1.out.cell 0, X11u1.out.cell 0, k1.2.2.2.1.trans (by simp [Ne.symm hrne]), X12u1.out.cell 0, k1.2.2.2.2.trans (by simp [Ne.symm hrne])⟩
          refine hK _ _ (Sx.behind (by kernel_rfl) hs1.out) ?_
          clear hK K
          clear qa1 qb1 qc1 qd1 qe1 f1
          try go_simp
          refine wpAnyX_both (T := fun u => u.cell? ⟨o10, 0, none⟩ = some (Value.pointer (some ⟨pu, 0, none⟩)) ∧ u.cell? ⟨o9, 0, none⟩ = some (Value.pointer (some ⟨po, 0, none⟩)) ∧ u.cell? ⟨o11, 0, none⟩ = some (Value.int .i64 (s.sz (rt a))) ∧ u.cell? ⟨pu, 3, none⟩ = some (Value.int .i64 (s.sz (rt b))) ∧ u.cell? ⟨o12, 0, none⟩ = some (Value.int .i64 (s.le (rt a))) ∧ u.cell? ⟨pu, 4, none⟩ = some (Value.int .i64 (s.le (rt b)))) (i := 19) (v := Value.pointer (some ⟨po, 0, none⟩)) rfl (by kernel_rfl) (by kernel_rfl) (by kernel_rfl) (fun _ _ _ h => by first | exact h | exact h.elim | cases h.1) (by decide) (fun _ h => h.elim) (fun _ h => h) (Sx.behind (by kernel_rfl) hs1.out) (Or.inl ⟨by rfl, fun u hu => by go_simp⟩) ?_
          try go_simp
          refine wpAnyX_both (T := fun u => u.cell? ⟨o10, 0, none⟩ = some (Value.pointer (some ⟨pu, 0, none⟩)) ∧ u.cell? ⟨o9, 0, none⟩ = some (Value.pointer (some ⟨po, 0, none⟩)) ∧ u.cell? ⟨o11, 0, none⟩ = some (Value.int .i64 (s.sz (rt a))) ∧ u.cell? ⟨pu, 3, none⟩ = some (Value.int .i64 (s.sz (rt b))) ∧ u.cell? ⟨o12, 0, none⟩ = some (Value.int .i64 (s.le (rt a))) ∧ u.cell? ⟨pu, 4, none⟩ = some (Value.int .i64 (s.le (rt b)))) (i := 20) (v := Value.pointer (some ⟨po, 3, none⟩)) rfl (by kernel_rfl) (by kernel_rfl) (by kernel_rfl) (fun _ _ _ h => by first | exact h | exact h.elim | cases h.1) (by decide) (fun _ h => h.elim) (fun _ h => h) (Sx.behind (by kernel_rfl) hs1.out) (Or.inl ⟨by rfl, fun u hu => by go_simp⟩) ?_
          try go_simp
          refine wpAnyX_ready (rs := [21]) (by kernel_rfl) (by simp) (AllX.cons rfl (fun K hK => ?_) AllX.nil)
          have q2 := HGu1.out.get HRO.out
          have f2 := frozen_of_row u1 po 3 _ _ (HGu1.out.kn _ _ HRO.out).2
          obtain ⟨qa2, qb2, qc2, qd2, qe2⟩ := q2
          go_simp
          have HGu2 : Hid (Gv (u1.setCell ⟨po, 3, none⟩ (Value.int .i64 (IntKind.i64.wrap (s.sz (rt a) + s.sz (rt b))))) B G M { s with tc := s.tc, up := (fun j => if j = rt b then some (rt a) else s.up j), sz := (fun j => if j = rt a then (IntKind.i64.wrap (s.sz (rt a) + s.sz (rt b))) else s.sz j), le := s.le }) := by
            refine HGu1.out.knot HRO.out 3 _ s.tc (fun j => if j = rt b then some (rt a) else s.up j) (fun j => if j = rt a then (IntKind.i64.wrap (s.sz (rt a) + s.sz (rt b))) else s.sz j) s.le (fun j hj => by simp [hj]) ?_
            simp [knotCells, upv, pt, HPO.out, hpou]
          have XAu2 : Hid (Bx (u1.setCell ⟨po, 3, none⟩ (Value.int .i64 (IntKind.i64.wrap (s.sz (rt a) + s.sz (rt b))))) A0 #[Value.pointer (some ⟨pa, 0, none⟩)] 70) := XAu1.out.other (XAu1.out.apart (HGu1.out.kn _ _ HRO.out).2 (by first | decide | assumption)) 3 _
          have XBu2 : Hid (Bx (u1.setCell ⟨po, 3, none⟩ (Value.int .i64 (IntKind.i64.wrap (s.sz (rt a) + s.sz (rt b))))) A1 #[Value.pointer (some ⟨pb, 0, none⟩)] 70) := XBu1.out.other (XBu1.out.apart (HGu1.out.kn _ _ HRO.out).2 (by first | decide | assumption)) 3 _
          have X9u2 : Hid (Bx (u1.setCell ⟨po, 3, none⟩ (Value.int .i64 (IntKind.i64.wrap (s.sz (rt a) + s.sz (rt b))))) o9 #[Value.pointer (some ⟨po, 0, none⟩)] 70) := X9u1.out.other (X9u1.out.apart (HGu1.out.kn _ _ HRO.out).2 (by first | decide | assumption)) 3 _
          have X10u2 : Hid (Bx (u1.setCell ⟨po, 3, none⟩ (Value.int .i64 (IntKind.i64.wrap (s.sz (rt a) + s.sz (rt b))))) o10 #[Value.pointer (some ⟨pu, 0, none⟩)] 70) := X10u1.out.other (X10u1.out.apart (HGu1.out.kn _ _ HRO.out).2 (by first | decide | assumption)) 3 _
          have X11u2 : Hid (Bx (u1.setCell ⟨po, 3, none⟩ (Value.int .i64 (IntKind.i64.wrap (s.sz (rt a) + s.sz (rt b))))) o11 #[Value.int .i64 (s.sz (rt a))] 3) := X11u1.out.other (X11u1.out.apart (HGu1.out.kn _ _ HRO.out).2 (by first | decide | assumption)) 3 _
          have X12u2 : Hid (Bx (u1.setCell ⟨po, 3, none⟩ (Value.int .i64 (IntKind.i64.wrap (s.sz (rt a) + s.sz (rt b))))) o12 #[Value.int .i64 (s.le (rt a))] 2) := X12u1.out.other (X12u1.out.apart (HGu1.out.kn _ _ HRO.out).2 (by first | decide | assumption)) 3 _
          have XLu2 : Hid (Kt w8 (u1.setCell ⟨po, 3, none⟩ (Value.int .i64 (IntKind.i64.wrap (s.sz (rt a) + s.sz (rt b)))))) := XLu1.out.set (HGu1.out.kn _ _ HRO.out).2 (.inl rfl) _
          have XTu2 : Hid (Bx (u1.setCell ⟨po, 3, none⟩ (Value.int .i64 (IntKind.i64.wrap (s.sz (rt a) + s.sz (rt b))))) T0 #[Value.pointer (some ⟨pa, 0, none⟩), Value.pointer (some ⟨pb, 0, none⟩), Value.int .i64 y, fv] 97) := XTu1.out.other (XTu1.out.apart (HGu1.out.kn _ _ HRO.out).2 (by first | decide | assumption)) 3 _
          have BBu2 : Hid (Below B w (u1.setCell ⟨po, 3, none⟩ (Value.int .i64 (IntKind.i64.wrap (s.sz (rt a) + s.sz (rt b)))))) := BBu1.out.setCell (HGu1.out.kn _ _ HRO.out).1 _
          have hzu2 : w8.heap.size ≤ (u1.setCell ⟨po, 3, none⟩ (Value.int .i64 (IntKind.i64.wrap (s.sz (rt a) + s.sz (rt b))))).heap.size := by simpa using hzu1
          generalize u1.setCell ⟨po, 3, none⟩ (Value.int .i64 (IntKind.i64.wrap (s.sz (rt a) + s.sz (rt b)))) = u2 at *
          have hs2 : Hid ((fun u => u.cell? ⟨o10, 0, none⟩ = some (Value.pointer (some ⟨pu, 0, none⟩)) ∧ u.cell? ⟨o9, 0, none⟩ = some (Value.pointer (some ⟨po, 0, none⟩)) ∧ u.cell? ⟨o11, 0, none⟩ = some (Value.int .i64 (s.sz (rt a))) ∧ u.cell? ⟨pu, 3, none⟩ = some (Value.int .i64 (s.sz (rt b))) ∧ u.cell? ⟨o12, 0, none⟩ = some (Value.int .i64 (s.le (rt a))) ∧ u.cell? ⟨pu, 4, none⟩ = some (Value.int .i64 (s.le (rt b)))) u2) := by
            have k1 := HGu2.out.get HRU.out
            exact ⟨X10u2.out.cell 0, X9u2.out.cell 0, X11u2.out.cell 0, k1.2.2.2.1.trans (by simp [Ne.symm hrne]), X12u2.out.cell 0, k1.2.2.2.2.trans (by simp [Ne.symm hrne])⟩
          refine hK _ _ (Sx.behind (by kernel_rfl) hs2.out) ?_
          clear hK K
          clear qa2 qb2 qc2 qd2 qe2 f2
          try go_simp
          refine wpAnyX_both (T := fun u => u.cell? ⟨o10, 0, none⟩ = some (Value.pointer (some ⟨pu, 0, none⟩)) ∧ u.cell? ⟨o9, 0, none⟩ = some (Value.pointer (some ⟨po, 0, none⟩)) ∧ u.cell? ⟨o11, 0, none⟩ = some (Value.int .i64 (s.sz (rt a))) ∧ u.cell? ⟨pu, 3, none⟩ = some (Value.int .i64 (s.sz (rt b))) ∧ u.cell? ⟨o12, 0, none⟩ = some (Value.int .i64 (s.le (rt a))) ∧ u.cell? ⟨pu, 4, none⟩ = some (Value.int .i64 (s.le (rt b)))) (i := 22) (v := Value.pointer (some ⟨po, 0, none⟩)) rfl (by kernel_rfl) (by kernel_rfl) (by kernel_rfl) (fun _ _ _ h => by first | exact h | exact h.elim | cases h.1) (by decide) (fun _ h => h.elim) (fun _ h => h) (Sx.behind (by kernel_rfl) hs2.out) (Or.inl ⟨by rfl, fun u hu => by go_simp⟩) ?_
          try go_simp
          refine wpAnyX_both (T := fun u => u.cell? ⟨o10, 0, none⟩ = some (Value.pointer (some ⟨pu, 0, none⟩)) ∧ u.cell? ⟨o9, 0, none⟩ = some (Value.pointer (some ⟨po, 0, none⟩)) ∧ u.cell? ⟨o11, 0, none⟩ = some (Value.int .i64 (s.sz (rt a))) ∧ u.cell? ⟨pu, 3, none⟩ = some (Value.int .i64 (s.sz (rt b))) ∧ u.cell? ⟨o12, 0, none⟩ = some (Value.int .i64 (s.le (rt a))) ∧ u.cell? ⟨pu, 4, none⟩ = some (Value.int .i64 (s.le (rt b)))) (i := 23) (v := Value.pointer (some ⟨po, 4, none⟩)) rfl (by kernel_rfl) (by kernel_rfl) (by kernel_rfl) (fun _ _ _ h => by first | exact h | exact h.elim | cases h.1) (by decide) (fun _ h => h.elim) (fun _ h => h) (Sx.behind (by kernel_rfl) hs2.out) (Or.inl ⟨by rfl, fun u hu => by go_simp⟩) ?_
          try go_simp
          refine wpAnyX_ready (rs := [24]) (by kernel_rfl) (by simp) (AllX.cons rfl (fun K hK => ?_) AllX.nil)
          have q3 := HGu2.out.get HRO.out
          have f3 := frozen_of_row u2 po 4 _ _ (HGu2.out.kn _ _ HRO.out).2
          obtain ⟨qa3, qb3, qc3, qd3, qe3⟩ := q3
          go_simp
          have HGu3 : Hid (Gv (u2.setCell ⟨po, 4, none⟩ (Value.int .i64 (min (s.le (rt a)) (s.le (rt b))))) B G M { s with tc := s.tc, up := (fun j => if j = rt b then some (rt a) else s.up j), sz := (fun j => if j = rt a then (IntKind.i64.wrap (s.sz (rt a) + s.sz (rt b))) else s.sz j), le := (fun j => if j = rt a then (min (s.le (rt a)) (s.le (rt b))) else s.le j) }) := by
            refine HGu2.out.knot HRO.out 4 _ s.tc (fun j => if j = rt b then some (rt a) else s.up j) (fun j => if j = rt a then (IntKind.i64.wrap (s.sz (rt a) + s.sz (rt b))) else s.sz j) (fun j => if j = rt a then (min (s.le (rt a)) (s.le (rt b))) else s.le j) (fun j hj => by simp [hj]) ?_
            simp [knotCells, upv, pt, HPO.out, hpou]
          have XAu3 : Hid (Bx (u2.setCell ⟨po, 4, none⟩ (Value.int .i64 (min (s.le (rt a)) (s.le (rt b))))) A0 #[Value.pointer (some ⟨pa, 0, none⟩)] 70) := XAu2.out.other (XAu2.out.apart (HGu2.out.kn _ _ HRO.out).2 (by first | decide | assumption)) 4 _
          have XBu3 : Hid (Bx (u2.setCell ⟨po, 4, none⟩ (Value.int .i64 (min (s.le (rt a)) (s.le (rt b))))) A1 #[Value.pointer (some ⟨pb, 0, none⟩)] 70) := XBu2.out.other (XBu2.out.apart (HGu2.out.kn _ _ HRO.out).2 (by first | decide | assumption)) 4 _
          have X9u3 : Hid (Bx (u2.setCell ⟨po, 4, none⟩ (Value.int .i64 (min (s.le (rt a)) (s.le (rt b))))) o9 #[Value.pointer (some ⟨po, 0, none⟩)] 70) := X9u2.out.other (X9u2.out.apart (HGu2.out.kn _ _ HRO.out).2 (by first | decide | assumption)) 4 _
          have X10u3 : Hid (Bx (u2.setCell ⟨po, 4, none⟩ (Value.int .i64 (min (s.le (rt a)) (s.le (rt b))))) o10 #[Value.pointer (some ⟨pu, 0, none⟩)] 70) := X10u2.out.other (X10u2.out.apart (HGu2.out.kn _ _ HRO.out).2 (by first | decide | assumption)) 4 _
          have X11u3 : Hid (Bx (u2.setCell ⟨po, 4, none⟩ (Value.int .i64 (min (s.le (rt a)) (s.le (rt b))))) o11 #[Value.int .i64 (s.sz (rt a))] 3) := X11u2.out.other (X11u2.out.apart (HGu2.out.kn _ _ HRO.out).2 (by first | decide | assumption)) 4 _
          have X12u3 : Hid (Bx (u2.setCell ⟨po, 4, none⟩ (Value.int .i64 (min (s.le (rt a)) (s.le (rt b))))) o12 #[Value.int .i64 (s.le (rt a))] 2) := X12u2.out.other (X12u2.out.apart (HGu2.out.kn _ _ HRO.out).2 (by first | decide | assumption)) 4 _
          have XLu3 : Hid (Kt w8 (u2.setCell ⟨po, 4, none⟩ (Value.int .i64 (min (s.le (rt a)) (s.le (rt b)))))) := XLu2.out.set (HGu2.out.kn _ _ HRO.out).2 (.inl rfl) _
          have XTu3 : Hid (Bx (u2.setCell ⟨po, 4, none⟩ (Value.int .i64 (min (s.le (rt a)) (s.le (rt b))))) T0 #[Value.pointer (some ⟨pa, 0, none⟩), Value.pointer (some ⟨pb, 0, none⟩), Value.int .i64 y, fv] 97) := XTu2.out.other (XTu2.out.apart (HGu2.out.kn _ _ HRO.out).2 (by first | decide | assumption)) 4 _
          have BBu3 : Hid (Below B w (u2.setCell ⟨po, 4, none⟩ (Value.int .i64 (min (s.le (rt a)) (s.le (rt b)))))) := BBu2.out.setCell (HGu2.out.kn _ _ HRO.out).1 _
          have hzu3 : w8.heap.size ≤ (u2.setCell ⟨po, 4, none⟩ (Value.int .i64 (min (s.le (rt a)) (s.le (rt b))))).heap.size := by simpa using hzu2
          generalize u2.setCell ⟨po, 4, none⟩ (Value.int .i64 (min (s.le (rt a)) (s.le (rt b)))) = u3 at *
          have hs3 : Hid ((fun u => u.cell? ⟨o10, 0, none⟩ = some (Value.pointer (some ⟨pu, 0, none⟩)) ∧ u.cell? ⟨o9, 0, none⟩ = some (Value.pointer (some ⟨po, 0, none⟩)) ∧ u.cell? ⟨o11, 0, none⟩ = some (Value.int .i64 (s.sz (rt a))) ∧ u.cell? ⟨pu, 3, none⟩ = some (Value.int .i64 (s.sz (rt b))) ∧ u.cell? ⟨o12, 0, none⟩ = some (Value.int .i64 (s.le (rt a))) ∧ u.cell? ⟨pu, 4, none⟩ = some (Value.int .i64 (s.le (rt b)))) u3) := by
            have k1 := HGu3.out.get HRU.out
            exact ⟨X10u3.out.cell 0, X9u3.out.cell 0, X11u3.out.cell 0, k1.2.2.2.1.trans (by simp [Ne.symm hrne]), X12u3.out.cell 0, k1.2.2.2.2.trans (by simp [Ne.symm hrne])⟩
          refine hK _ _ (Sx.behind (by kernel_rfl) hs3.out) ?_
          clear hK K
          clear qa3 qb3 qc3 qd3 qe3 f3
          try go_simp
          refine wpAnyX_done (by kernel_rfl) ?_ _
          exact ⟨rfl, rfl, HGu3.out, XTu3.out, XAu3.out, XBu3.out, BBu3.out, hzu3, XLu3.out⟩
        · rintro a' w9 ⟨rfl, hg9, xt9, xa9, xb9, bb9, hz9, xl9⟩
          have hab : a ≠ b := fun e => hne (by rw [e])
          have HG9 := kide (hg9.more (Nat.le_succ M))
          obtain ⟨va, hva⟩ : ∃ v, s.tv a = v := ⟨_, rfl⟩
          obtain ⟨vb, hvb⟩ : ∃ v, s.tv b = v := ⟨_, rfl⟩
          have hta : Hid (s.tc a = va) := (HNL.out.t a).trans hva
          have htb : Hid (s.tc b = vb) := (HNL.out.t b).trans hvb
          obtain ⟨csa, hcsa⟩ : ∃ c : List Value, c = (s.tl a).map pt := ⟨_, rfl⟩
          have hca : csa.length ≤ M := by rw [hcsa, List.length_map]; exact (hg9.tr a hal).1
          have oa9 : w9.ownsRow B 85 1 (s.tv a) csa.length csa := by rw [hcsa, List.length_map]; exact (hg9.tr a hal).2
          have HCa := kide hcsa
          have hla9 : Hid ((s.tl a).length = csa.length) := by show _ = _; rw [hcsa, List.length_map]
          clear hcsa
          obtain ⟨csb, hcsb⟩ : ∃ c : List Value, c = (s.tl b).map pt := ⟨_, rfl⟩
          have hcb : csb.length ≤ M := by rw [hcsb, List.length_map]; exact (hg9.tr b hbl).1
          have ob9 : w9.ownsRow B 85 1 (s.tv b) csb.length csb := by rw [hcsb, List.length_map]; exact (hg9.tr b hbl).2
          have HCb := kide hcsb
          have hlb9 : Hid ((s.tl b).length = csb.length) := by show _ = _; rw [hcsb, List.length_map]
          clear hcsb
          have oa9' : w9.ownsRow B 85 1 va csa.length csa := by rw [← hva]; exact oa9
          have ob9' : w9.ownsRow B 85 1 vb csb.length csb := by rw [← hvb]; exact ob9
          have hla : Hid (∀ k, va.ownBlock = some k → k < w9.heap.size) := fun k hk => (own_lt oa9' hk).2
          have hlb : Hid (∀ k, vb.ownBlock = some k → k < w9.heap.size) := fun k hk => (own_lt ob9' hk).2
          have hvab : Hid (∀ k, vb.ownBlock = some k → va.ownBlock ≠ some k) := fun k hk => by
            have := hg9.dj b a hbl hal (Ne.symm hab) k (by show (s.tv b).ownBlock = _; rw [hvb]; exact hk)
            rw [← hva]; exact this
          have HVA := kide hva
          have HVB := kide hvb
          have HZ9 := kide hz9
          have HWB := kide (HB2.out.trans (HB8.out.mono HB2.out.size))
          clear HG2 HG8 HB8 HB6 HB5 HB2 C0 C1 hg9 oa9 ob9 hva hvb hz9
          go_wp2_with fail
          refine region_cut (fun a' w' => (∃ b7 b14 g8 c8 g15 c15, a' = ({ tmps := #[Value.pointer (some ⟨G, 0, none⟩), Value.pointer (some ⟨pa, 0, none⟩), Value.pointer (some ⟨pb, 0, none⟩), Value.int .i64 y, undef, Value.pointer (some ⟨A0, 0, none⟩), Value.pointer (some ⟨A1, 0, none⟩), undef, Value.bool false, Value.pointer (some ⟨o9, 0, none⟩), Value.pointer (some ⟨o10, 0, none⟩), Value.pointer (some ⟨o11, 0, none⟩), Value.pointer (some ⟨o12, 0, none⟩), Value.pointer (some ⟨T0, 0, none⟩), Value.pointer (some ⟨pa, 0, none⟩), Value.pointer (some ⟨po, 0, none⟩), Value.pointer (some ⟨pb, 0, none⟩), Value.pointer (some ⟨pu, 0, none⟩), Value.pointer (some ⟨po, 0, none⟩), Value.pointer (some ⟨pu, 0, none⟩), Value.bool false, Value.pointer (some ⟨po, 0, none⟩), Value.pointer (some ⟨po, 0, none⟩), Value.pointer (some ⟨po, 3, none⟩), Value.int .i64 (s.sz (rt a)), Value.pointer (some ⟨pu, 0, none⟩), Value.pointer (some ⟨pu, 0, none⟩), Value.pointer (some ⟨pu, 3, none⟩), Value.int .i64 (s.sz (rt b)), Value.bool (decide (s.sz (rt a) < s.sz (rt b))), undef, undef, Value.pointer (some ⟨po, 0, none⟩), Value.pointer (some ⟨po, 0, none⟩), Value.pointer (some ⟨po, 3, none⟩), Value.int .i64 (s.sz (rt a)), Value.pointer (some ⟨po, 0, none⟩), Value.pointer (some ⟨po, 0, none⟩), Value.pointer (some ⟨po, 4, none⟩), Value.int .i64 (s.le (rt a)), Value.pointer (some ⟨pa, 0, none⟩), Value.pointer (some ⟨pb, 0, none⟩), Value.int .i64 y, Value.agg #[Value.pointer (some ⟨pa, 0, none⟩), Value.pointer (some ⟨pb, 0, none⟩), Value.int .i64 y, Value.nilFunc], Value.pointer (some ⟨T0, 0, none⟩), Value.pointer (some ⟨T0, 0, none⟩), fv, Value.pointer (some ⟨T0, 0, none⟩), Value.pointer (some ⟨T0, 3, none⟩), Value.pointer (some ⟨pu, 0, none⟩), Value.pointer (some ⟨po, 0, none⟩), Value.pointer (some ⟨po, 0, none⟩), Value.pointer (some ⟨po, 0, none⟩), Value.int .i64 (s.sz (rt a)), Value.pointer (some ⟨pu, 0, none⟩), Value.pointer (some ⟨pu, 0, none⟩), Value.pointer (some ⟨pu, 3, none⟩), Value.int .i64 (s.sz (rt b)), Value.int .i64 (IntKind.i64.wrap (s.sz (rt a) + s.sz (rt b))), Value.int .i64 (s.le (rt a)), Value.pointer (some ⟨pu, 0, none⟩), Value.pointer (some ⟨pu, 0, none⟩), Value.pointer (some ⟨pu, 4, none⟩), Value.int .i64 (s.le (rt b)), Value.int .i64 (min (s.le (rt a)) (s.le (rt b))), Value.pointer (some ⟨pu, 0, none⟩), Value.pointer (some ⟨pu, 2, none⟩), Value.pointer (some ⟨po, 0, none⟩), Value.pointer (some ⟨po, 3, none⟩), Value.pointer (some ⟨po, 0, none⟩), Value.pointer (some ⟨po, 4, none⟩), Value.pointer (some ⟨pa, 0, none⟩), Value.pointer (some ⟨pb, 0, none⟩), Value.pointer (some ⟨pa, 0, none⟩), Value.pointer (some ⟨pa, 0, none⟩), Value.pointer (some ⟨pa, 1, none⟩), va, Value.pointer (some ⟨T0, 0, none⟩), Value.slice (some ⟨b7, 0, none⟩) 1 1, Value.slice (some ⟨g8, 0, none⟩) (csa.length + 1) c8, Value.pointer (some ⟨pb, 0, none⟩), Value.pointer (some ⟨pb, 0, none⟩), Value.pointer (some ⟨pb, 1, none⟩), vb, Value.pointer (some ⟨T0, 0, none⟩), Value.slice (some ⟨b14, 0, none⟩) 1 1, Value.slice (some ⟨g15, 0, none⟩) (csb.length + 1) c15, Value.pointer (some ⟨pa, 0, none⟩), Value.pointer (some ⟨pa, 1, none⟩), Value.pointer (some ⟨pb, 0, none⟩), Value.pointer (some ⟨pb, 1, none⟩), undef, undef, undef, undef, undef], defers := [] } : Act)) ∧ (∃ s', Gv w' B G (M + 1) s' ∧ s'.up = (fun j => if j = rt b then some (rt a) else s.up j) ∧ s'.le = (fun j => if j = rt a then (min (s.le (rt a)) (s.le (rt b))) else s.le j) ∧ s'.ps = s.ps ∧ s'.ts = s.ts ∧ s'.ls = s.ls ∧ s'.kc = s.kc ∧ s'.kv = s.kv ∧ s'.ic = s.ic ∧ s'.iv = s.iv ∧ (∀ j, s'.tc j = s'.tv j) ∧ (s'.tl = fun j => if j = b then s.tl b ++ [T0] else if j = a then s.tl a ++ [T0] else s.tl j)) ∧ Bx w' T0 #[Value.pointer (some ⟨pa, 0, none⟩), Value.pointer (some ⟨pb, 0, none⟩), Value.int .i64 y, fv] 97 ∧ Below B w w' ∧ Kt w8 w') ?_ ?_
          · refine wp_region_x (SA := fun u => u.cell? ⟨A0, 0, none⟩ = some (Value.pointer (some ⟨pa, 0, none⟩)) ∧ u.cell? ⟨A1, 0, none⟩ = some (Value.pointer (some ⟨pb, 0, none⟩)) ∧ u.cell? ⟨pa, 1, none⟩ = some va ∧ u.cell? ⟨pb, 1, none⟩ = some vb) (SB := fun u => u.cell? ⟨A1, 0, none⟩ = some (Value.pointer (some ⟨pb, 0, none⟩))) (k := 18) (by kernel_rfl) ?_
            have hbd : Below w9.heap.size w9 w9.drew := (Below.refl _ _).drew
            have HGu0 := kide (HG9.out.later hbd)
            have XTu0 := kide (xt9.later hbd)
            have XAu0 := kide (xa9.later hbd)
            have XBu0 := kide (xb9.later hbd)
            have XLu0 := kide (xl9.later hbd)
            have Oau0 := kide (own_later oa9' hbd)
            have Obu0 := kide (own_later ob9' hbd)
            have BBu0 : Hid (Below B w w9.drew) := bb9.drew
            have hzu0 : w9.heap.size ≤ w9.drew.heap.size := Nat.le_refl _
            have hBw9 : B ≤ w9.heap.size := Nat.le_trans hBw bb9.size
            generalize w9.drew = u0 at *
            have hs0 : Hid ((fun u => u.cell? ⟨A0, 0, none⟩ = some (Value.pointer (some ⟨pa, 0, none⟩)) ∧ u.cell? ⟨A1, 0, none⟩ = some (Value.pointer (some ⟨pb, 0, none⟩)) ∧ u.cell? ⟨pa, 1, none⟩ = some va ∧ u.cell? ⟨pb, 1, none⟩ = some vb) u0) := by
              have k1 := HGu0.out.get HA.out
              have k2 := HGu0.out.get HB.out
              exact ⟨XAu0.out.cell 0, XBu0.out.cell 0, k1.2.1.trans (congrArg some hta.out), k2.2.1.trans (congrArg some htb.out)⟩
            clear xt9 xa9 xb9 bb9 oa9' ob9' hbd xl9
            try go_simp
            refine wpAnyX_take (i := 0) (v := Value.pointer (some ⟨pa, 0, none⟩)) rfl (by kernel_rfl) (by kernel_rfl) (by kernel_rfl) (fun _ _ _ h => by first | exact h | exact h.elim | cases h.1) (by decide) (by kernel_rfl) (by kernel_rfl) hs0.out (Or.inl ⟨by rfl, fun u hu => by obtain ⟨e1, e2, e3, e4⟩ := hu; go_simp⟩) ?_
            try go_simp
            refine wpAnyX_both (T := fun u => u.cell? ⟨A1, 0, none⟩ = some (Value.pointer (some ⟨pb, 0, none⟩))) (i := 1) (v := Value.pointer (some ⟨pb, 0, none⟩)) rfl (by kernel_rfl) (by kernel_rfl) (by kernel_rfl) (fun _ _ _ h => by first | exact h | exact h.elim | cases h.1) (by decide) (fun _ h => h.2.1) (fun _ h => h) (Sx.before (by kernel_rfl) hs0.out) (Or.inl ⟨by rfl, fun u hu => by have e1 := hu; go_simp⟩) ?_
            try go_simp
            refine wpAnyX_take (i := 2) (v := Value.pointer (some ⟨pa, 0, none⟩)) rfl (by kernel_rfl) (by kernel_rfl) (by kernel_rfl) (fun _ _ _ h => by first | exact h | exact h.elim | cases h.1) (by decide) (by kernel_rfl) (by kernel_rfl) hs0.out (Or.inl ⟨by rfl, fun u hu => by obtain ⟨e1, e2, e3, e4⟩ := hu; go_simp⟩) ?_
            try go_simp
            refine wpAnyX_both (T := fun _ => True) (i := 3) (v := Value.pointer (some ⟨pa, 0, none⟩)) rfl (by kernel_rfl) (by kernel_rfl) (by kernel_rfl) (fun _ _ _ h => by first | exact h | exact h.elim | cases h.1) (by decide) (fun _ _ => trivial) (fun _ _ => trivial) (Sx.before (by kernel_rfl) hs0.out) (Or.inl ⟨by rfl, fun u hu => by go_simp⟩) ?_
            try go_simp
            refine wpAnyX_both (T := fun _ => True) (i := 4) (v := Value.pointer (some ⟨pa, 1, none⟩)) rfl (by kernel_rfl) (by kernel_rfl) (by kernel_rfl) (fun _ _ _ h => by first | exact h | exact h.elim | cases h.1) (by decide) (fun _ _ => trivial) (fun _ _ => trivial) (Sx.before (by kernel_rfl) hs0.out) (Or.inl ⟨by rfl, fun u hu => by go_simp⟩) ?_
            try go_simp
            refine wpAnyX_take (i := 5) (v := va) rfl (by kernel_rfl) (by kernel_rfl) (by kernel_rfl) (fun _ _ _ h => by first | exact h | exact h.elim | cases h.1) (by decide) (by kernel_rfl) (by kernel_rfl) hs0.out (Or.inl ⟨by rfl, fun u hu => by obtain ⟨e1, e2, e3, e4⟩ := hu; go_simp⟩) ?_
            try go_simp
            refine wpAnyX_both (T := fun _ => True) (i := 6) (v := Value.pointer (some ⟨T0, 0, none⟩)) rfl (by kernel_rfl) (by kernel_rfl) (by kernel_rfl) (fun _ _ _ h => by first | exact h | exact h.elim | cases h.1) (by decide) (fun _ _ => trivial) (fun _ _ => trivial) (Sx.before (by kernel_rfl) hs0.out) (Or.inl ⟨by rfl, fun u hu => by go_simp⟩) ?_
            try go_simp
            refine wpAnyX_both (T := fun u => u.cell? ⟨A1, 0, none⟩ = some (Value.pointer (some ⟨pb, 0, none⟩))) (i := 9) (v := Value.pointer (some ⟨pb, 0, none⟩)) rfl (by kernel_rfl) (by kernel_rfl) (by kernel_rfl) (fun _ _ _ h => by first | exact h | exact h.elim | cases h.1) (by decide) (fun _ h => h.2.1) (fun _ h => h) (Sx.before (by kernel_rfl) hs0.out) (Or.inl ⟨by rfl, fun u hu => by have e1 := hu; go_simp⟩) ?_
            try go_simp
            refine wpAnyX_both (T := fun _ => True) (i := 10) (v := Value.pointer (some ⟨pb, 0, none⟩)) rfl (by kernel_rfl) (by kernel_rfl) (by kernel_rfl) (fun _ _ _ h => by first | exact h | exact h.elim | cases h.1) (by decide) (fun _ _ => trivial) (fun _ _ => trivial) (Sx.before (by kernel_rfl) hs0.out) (Or.inl ⟨by rfl, fun u hu => by go_simp⟩) ?_
            try go_simp
            refine wpAnyX_both (T := fun _ => True) (i := 11) (v := Value.pointer (some ⟨pb, 1, none⟩)) rfl (by kernel_rfl) (by kernel_rfl) (by kernel_rfl) (fun _ _ _ h => by first | exact h | exact h.elim | cases h.1) (by decide) (fun _ _ => trivial) (fun _ _ => trivial) (Sx.before (by kernel_rfl) hs0.out) (Or.inl ⟨by rfl, fun u hu => by go_simp⟩) ?_
            try go_simp
            refine wpAnyX_take (i := 12) (v := vb) rfl (by kernel_rfl) (by kernel_rfl) (by kernel_rfl) (fun _ _ _ h => by first | exact h | exact h.elim | cases h.1) (by decide) (by kernel_rfl) (by kernel_rfl) hs0.out (Or.inl ⟨by rfl, fun u hu => by obtain ⟨e1, e2, e3, e4⟩ := hu; go_simp⟩) ?_
            try go_simp
            refine wpAnyX_both (T := fun _ => True) (i := 13) (v := Value.pointer (some ⟨T0, 0, none⟩)) rfl (by kernel_rfl) (by kernel_rfl) (by kernel_rfl) (fun _ _ _ h => by first | exact h | exact h.elim | cases h.1) (by decide) (fun _ _ => trivial) (fun _ _ => trivial) (Sx.before (by kernel_rfl) hs0.out) (Or.inl ⟨by rfl, fun u hu => by go_simp⟩) ?_
            try go_simp
            refine wpAnyX_ready (rs := [7, 14]) (by kernel_rfl) (by simp) (AllX.cons rfl (fun K hK => ?_) (AllX.cons rfl (fun K hK => ?_) AllX.nil))
            · go_simp
              have hbx1 : Below u0.heap.size u0 (u0.alloc (Obj.cells #[Value.pointer (some ⟨T0, 0, none⟩)] 85)) := (Below.refl _ _).alloc (Nat.le_refl _) _
              have HGu1 := kide (HGu0.out.later hbx1)
              have XTu1 := kide (XTu0.out.later hbx1)
              have XAu1 := kide (XAu0.out.later hbx1)
              have XBu1 := kide (XBu0.out.later hbx1)
              have XLu1 := kide (XLu0.out.later hbx1)
              have Oau1 := kide (own_later Oau0.out hbx1)
              have Obu1 := kide (own_later Obu0.out hbx1)
              have Yb7u1 := kide (Bx.new u0 #[Value.pointer (some ⟨T0, 0, none⟩)] 85)
              have BBu1 : Hid (Below B w (u0.alloc (Obj.cells #[Value.pointer (some ⟨T0, 0, none⟩)] 85))) := BBu0.out.alloc (by have := hzu0; omega) _
              have hzu1 : w9.heap.size ≤ (u0.alloc (Obj.cells #[Value.pointer (some ⟨T0, 0, none⟩)] 85)).heap.size := by have := hbx1.size; omega
              have hyb7 : Hid (w9.heap.size ≤ u0.heap.size) := hzu0
              obtain ⟨b7, hbb7⟩ : ∃ x, u0.heap.size = x := ⟨_, rfl⟩
              rw [hbb7] at Yb7u1 hyb7 ⊢
              clear hbb7 hbx1
              generalize u0.alloc (Obj.cells #[Value.pointer (some ⟨T0, 0, none⟩)] 85) = u1 at *
              have hs1 : Hid ((fun u => u.cell? ⟨A0, 0, none⟩ = some (Value.pointer (some ⟨pa, 0, none⟩)) ∧ u.cell? ⟨A1, 0, none⟩ = some (Value.pointer (some ⟨pb, 0, none⟩)) ∧ u.cell? ⟨pa, 1, none⟩ = some va ∧ u.cell? ⟨pb, 1, none⟩ = some vb) u1) := by
                have k1 := HGu1.out.get HA.out
                have k2 := HGu1.out.get HB.out
                exact ⟨XAu1.out.cell 0, XBu1.out.cell 0, k1.2.1.trans (congrArg some hta.out), k2.2.1.trans (congrArg some htb.out)⟩
              refine hK _ _ (Sx.before (by kernel_rfl) hs1.out) ?_
              clear hK K
              try go_simp
              refine wpAnyX_ready (rs := [8, 14]) (by kernel_rfl) (by simp) (AllX.cons rfl (fun K hK => ?_) (AllX.cons rfl (fun K hK => ?_) AllX.nil))
              · refine step_appT _ rfl _ _ rfl B va csa ⟨T0, 0, none⟩ (by first | rfl | simp [Act.eval]) Oau1.out b7 1 (by first | rfl | simp [Act.eval]) (Yb7u1.out.cell 0) (by omega) (by have := hzu1; omega) ?_
                intro g8 c8 u2 ho2 hg2 hat2
                have HGu2 := kide (HGu1.out.tied (i := a) hal (cs := s.tl a ++ [T0]) (v := Value.slice (some ⟨g8, 0, none⟩) (csa.length + 1) c8) (by show World.grownBy _ _ (s.tv a).ownBlock; rw [HVA.out]; exact hg2) (own_map HCa.out ho2) (by have := hla9.out; simp; omega) (by show _ = (s.tv a).ownBlock ∨ _; rw [HVA.out]; exact hat2))
                have XTu2 := kide (XTu1.out.grown (by first | decide | assumption) Oau1.out hg2)
                have XAu2 := kide (XAu1.out.grown (by first | decide | assumption) Oau1.out hg2)
                have XBu2 := kide (XBu1.out.grown (by first | decide | assumption) Oau1.out hg2)
                have XLu2 := kide (XLu1.out.grown Oau1.out hg2)
                have Obu2 := kide (own_kept Obu1.out hg2 hvab.out)
                have Yb7u2 := kide (Yb7u1.out.far (fun k hk => Nat.lt_of_lt_of_le (hla.out k hk) hyb7.out) hg2)
                have BBu2 : Hid (Below B w u2) := Below.grown BBu1.out hg2 (by have := hzu1; omega) (fun j hj => (own_lt Oau1.out hj).1)
                have hzu2 : w9.heap.size ≤ u2.heap.size := by have := hg2.size; omega
                clear ho2 hg2 hat2
                have hs2 : Hid ((fun u => u.cell? ⟨A0, 0, none⟩ = some (Value.pointer (some ⟨pa, 0, none⟩)) ∧ u.cell? ⟨A1, 0, none⟩ = some (Value.pointer (some ⟨pb, 0, none⟩)) ∧ u.cell? ⟨pa, 1, none⟩ = some va ∧ u.cell? ⟨pb, 1, none⟩ = some vb) u2) := by
                  have k1 := HGu2.out.get HA.out
                  have k2 := HGu2.out.get HB.out
                  exact ⟨XAu2.out.cell 0, XBu2.out.cell 0, k1.2.1.trans (congrArg some hta.out), k2.2.1.trans (congrArg some htb.out)⟩
                refine hK _ _ (Sx.before (by kernel_rfl) hs2.out) ?_
                clear hK K
                try go_simp
                refine wpAnyX_ready (rs := [14]) (by kernel_rfl) (by simp) (AllX.cons rfl (fun K hK => ?_) AllX.nil)
                go_simp
                have hbx3 : Below u2.heap.size u2 (u2.alloc (Obj.cells #[Value.pointer (some ⟨T0, 0, none⟩)] 85)) := (Below.refl _ _).alloc (Nat.le_refl _) _
                have HGu3 := kide (HGu2.out.later hbx3)
                have XTu3 := kide (XTu2.out.later hbx3)
                have XAu3 := kide (XAu2.out.later hbx3)
                have XBu3 := kide (XBu2.out.later hbx3)
                have XLu3 := kide (XLu2.out.later hbx3)
                have Obu3 := kide (own_later Obu2.out hbx3)
                have Yb7u3 := kide (Yb7u2.out.later hbx3)
                have Yb14u3 := kide (Bx.new u2 #[Value.pointer (some ⟨T0, 0, none⟩)] 85)
                have BBu3 : Hid (Below B w (u2.alloc (Obj.cells #[Value.pointer (some ⟨T0, 0, none⟩)] 85))) := BBu2.out.alloc (by have := hzu2; omega) _
                have hzu3 : w9.heap.size ≤ (u2.alloc (Obj.cells #[Value.pointer (some ⟨T0, 0, none⟩)] 85)).heap.size := by have := hbx3.size; omega
                have hyb14 : Hid (w9.heap.size ≤ u2.heap.size) := hzu2
                obtain ⟨b14, hbb14⟩ : ∃ x, u2.heap.size = x := ⟨_, rfl⟩
                rw [hbb14] at Yb14u3 hyb14 ⊢
                clear hbb14 hbx3
                generalize u2.alloc (Obj.cells #[Value.pointer (some ⟨T0, 0, none⟩)] 85) = u3 at *
                have hs3 : Hid ((fun u => u.cell? ⟨A0, 0, none⟩ = some (Value.pointer (some ⟨pa, 0, none⟩)) ∧ u.cell? ⟨A1, 0, none⟩ = some (Value.pointer (some ⟨pb, 0, none⟩)) ∧ u.cell? ⟨pa, 1, none⟩ = some va ∧ u.cell? ⟨pb, 1, none⟩ = some vb) u3) := by
                  have k1 := HGu3.out.get HA.out
                  have k2 := HGu3.out.get HB.out
                  exact ⟨XAu3.out.cell 0, XBu3.out.cell 0, k1.2.1.trans (congrArg some hta.out), k2.2.1.trans (congrArg some htb.out)⟩
                refine hK _ _ (Sx.before (by kernel_rfl) hs3.out) ?_
                clear hK K
                try go_simp
                refine wpAnyX_ready (rs := [15]) (by kernel_rfl) (by simp) (AllX.cons rfl (fun K hK => ?_) AllX.nil)
                refine step_appT _ rfl _ _ rfl B vb csb ⟨T0, 0, none⟩ (by first | rfl | simp [Act.eval]) Obu3.out b14 1 (by first | rfl | simp [Act.eval]) (Yb14u3.out.cell 0) (by omega) (by have := hzu3; omega) ?_
                intro g15 c15 u4 ho4 hg4 hat4
                have HGu4 := kide (HGu3.out.tied (i := b) hbl (cs := s.tl b ++ [T0]) (v := Value.slice (some ⟨g15, 0, none⟩) (csb.length + 1) c15) (by show World.grownBy _ _ (if b = a then _ else s.tv b).ownBlock; rw [if_neg (Ne.symm hab), HVB.out]; exact hg4) (own_map HCb.out ho4) (by have := hlb9.out; simp; omega) (by show _ = (if b = a then _ else s.tv b).ownBlock ∨ _; rw [if_neg (Ne.symm hab), HVB.out]; exact hat4))
                have XTu4 := kide (XTu3.out.grown (by first | decide | assumption) Obu3.out hg4)
                have XAu4 := kide (XAu3.out.grown (by first | decide | assumption) Obu3.out hg4)
                have XBu4 := kide (XBu3.out.grown (by first | decide | assumption) Obu3.out hg4)
                have XLu4 := kide (XLu3.out.grown Obu3.out hg4)
                have Yb7u4 := kide (Yb7u3.out.far (fun k hk => Nat.lt_of_lt_of_le (hlb.out k hk) hyb7.out) hg4)
                have Yb14u4 := kide (Yb14u3.out.far (fun k hk => Nat.lt_of_lt_of_le (hlb.out k hk) hyb14.out) hg4)
                have BBu4 : Hid (Below B w u4) := Below.grown BBu3.out hg4 (by have := hzu3; omega) (fun j hj => (own_lt Obu3.out hj).1)
                have hzu4 : w9.heap.size ≤ u4.heap.size := by have := hg4.size; omega
                clear ho4 hg4 hat4
                have hs4 : Hid ((fun u => u.cell? ⟨A0, 0, none⟩ = some (Value.pointer (some ⟨pa, 0, none⟩)) ∧ u.cell? ⟨A1, 0, none⟩ = some (Value.pointer (some ⟨pb, 0, none⟩)) ∧ u.cell? ⟨pa, 1, none⟩ = some va ∧ u.cell? ⟨pb, 1, none⟩ = some vb) u4) := by
                  have k1 := HGu4.out.get HA.out
                  have k2 := HGu4.out.get HB.out
                  exact ⟨XAu4.out.cell 0, XBu4.out.cell 0, k1.2.1.trans (congrArg some hta.out), k2.2.1.trans (congrArg some htb.out)⟩
                refine hK _ _ (Sx.before (by kernel_rfl) hs4.out) ?_
                clear hK K
                try go_simp
                refine wpAnyX_both (T := fun _ => True) (i := 16) (v := Value.pointer (some ⟨pa, 0, none⟩)) rfl (by kernel_rfl) (by kernel_rfl) (by kernel_rfl) (fun _ _ _ h => by first | exact h | exact h.elim | cases h.1) (by decide) (fun _ _ => trivial) (fun _ _ => trivial) (Sx.before (by kernel_rfl) hs4.out) (Or.inl ⟨by rfl, fun u hu => by go_simp⟩) ?_
                try go_simp
                refine wpAnyX_both (T := fun _ => True) (i := 17) (v := Value.pointer (some ⟨pa, 1, none⟩)) rfl (by kernel_rfl) (by kernel_rfl) (by kernel_rfl) (fun _ _ _ h => by first | exact h | exact h.elim | cases h.1) (by decide) (fun _ _ => trivial) (fun _ _ => trivial) (Sx.before (by kernel_rfl) hs4.out) (Or.inl ⟨by rfl, fun u hu => by go_simp⟩) ?_
                try go_simp
                refine wpAnyX_ready (rs := [18]) (by kernel_rfl) (by simp) (AllX.cons rfl (fun K hK => ?_) AllX.nil)
                obtain ⟨-, qb5, -, -, -⟩ := HGu4.out.get HA.out
                have f5 := frozen_of_row u4 pa 1 _ _ (HGu4.out.kn _ _ HA.out).2
                go_simp
                have HGu5 := kide (HGu4.out.knot HA.out 1 (Value.slice (some ⟨g8, 0, none⟩) (csa.length + 1) c8) (fun j => if j = a then Value.slice (some ⟨g8, 0, none⟩) (csa.length + 1) c8 else s.tc j) _ _ _ (fun j hj => ⟨by simp [hj], rfl, rfl, rfl⟩) (by simp [knotCells]))
                have XLu5 : Hid (Kt w8 (u4.setCell ⟨pa, 1, none⟩ (Value.slice (some ⟨g8, 0, none⟩) (csa.length + 1) c8))) := XLu4.out.set (HGu4.out.kn _ _ HA.out).2 (.inl rfl) _
                have XTu5 := kide (XTu4.out.other (c := pa) (XTu4.out.apart (HGu4.out.kn _ _ HA.out).2 (by first | decide | assumption)) 1 (Value.slice (some ⟨g8, 0, none⟩) (csa.length + 1) c8))
                have XAu5 := kide (XAu4.out.other (c := pa) (XAu4.out.apart (HGu4.out.kn _ _ HA.out).2 (by first | decide | assumption)) 1 (Value.slice (some ⟨g8, 0, none⟩) (csa.length + 1) c8))
                have XBu5 := kide (XBu4.out.other (c := pa) (XBu4.out.apart (HGu4.out.kn _ _ HA.out).2 (by first | decide | assumption)) 1 (Value.slice (some ⟨g8, 0, none⟩) (csa.length + 1) c8))
                have BBu5 : Hid (Below B w (u4.setCell ⟨pa, 1, none⟩ (Value.slice (some ⟨g8, 0, none⟩) (csa.length + 1) c8))) := BBu4.out.setCell (HGu4.out.kn _ _ HA.out).1 _
                generalize u4.setCell ⟨pa, 1, none⟩ (Value.slice (some ⟨g8, 0, none⟩) (csa.length + 1) c8) = u5 at *
                clear qb5 f5
                have hs5 : Hid ((fun u => u.cell? ⟨A1, 0, none⟩ = some (Value.pointer (some ⟨pb, 0, none⟩))) u5) := XBu5.out.cell 0
                refine hK _ _ (Sx.behind (by kernel_rfl) hs5.out) ?_
                clear hK K
                try go_simp
                refine wpAnyX_both (T := fun _ => True) (i := 19) (v := Value.pointer (some ⟨pb, 0, none⟩)) rfl (by kernel_rfl) (by kernel_rfl) (by kernel_rfl) (fun _ _ _ h => by first | exact h | exact h.elim | cases h.1) (by decide) (fun _ _ => trivial) (fun _ _ => trivial) (Sx.behind (by kernel_rfl) hs5.out) (Or.inl ⟨by rfl, fun u hu => by go_simp⟩) ?_
                try go_simp
                refine wpAnyX_both (T := fun _ => True) (i := 20) (v := Value.pointer (some ⟨pb, 1, none⟩)) rfl (by kernel_rfl) (by kernel_rfl) (by kernel_rfl) (fun _ _ _ h => by first | exact h | exact h.elim | cases h.1) (by decide) (fun _ _ => trivial) (fun _ _ => trivial) (Sx.behind (by kernel_rfl) hs5.out) (Or.inl ⟨by rfl, fun u hu => by go_simp⟩) ?_
                try go_simp
                refine wpAnyX_ready (rs := [21]) (by kernel_rfl) (by simp) (AllX.cons rfl (fun K hK => ?_) AllX.nil)
                obtain ⟨-, qb6, -, -, -⟩ := HGu5.out.get HB.out
                have f6 := frozen_of_row u5 pb 1 _ _ (HGu5.out.kn _ _ HB.out).2
                go_simp
                have HGu6 := kide (HGu5.out.knot HB.out 1 (Value.slice (some ⟨g15, 0, none⟩) (csb.length + 1) c15) (fun j => if j = b then Value.slice (some ⟨g15, 0, none⟩) (csb.length + 1) c15 else if j = a then Value.slice (some ⟨g8, 0, none⟩) (csa.length + 1) c8 else s.tc j) _ _ _ (fun j hj => ⟨by simp [hj], rfl, rfl, rfl⟩) (by simp [knotCells]))
                have XLu6 : Hid (Kt w8 (u5.setCell ⟨pb, 1, none⟩ (Value.slice (some ⟨g15, 0, none⟩) (csb.length + 1) c15))) := XLu5.out.set (HGu5.out.kn _ _ HB.out).2 (.inl rfl) _
                have XTu6 := kide (XTu5.out.other (c := pb) (XTu5.out.apart (HGu5.out.kn _ _ HB.out).2 (by first | decide | assumption)) 1 (Value.slice (some ⟨g15, 0, none⟩) (csb.length + 1) c15))
                have XAu6 := kide (XAu5.out.other (c := pb) (XAu5.out.apart (HGu5.out.kn _ _ HB.out).2 (by first | decide | assumption)) 1 (Value.slice (some ⟨g15, 0, none⟩) (csb.length + 1) c15))
                have XBu6 := kide (XBu5.out.other (c := pb) (XBu5.out.apart (HGu5.out.kn _ _ HB.out).2 (by first | decide | assumption)) 1 (Value.slice (some ⟨g15, 0, none⟩) (csb.length + 1) c15))
                have BBu6 : Hid (Below B w (u5.setCell ⟨pb, 1, none⟩ (Value.slice (some ⟨g15, 0, none⟩) (csb.length + 1) c15))) := BBu5.out.setCell (HGu5.out.kn _ _ HB.out).1 _
                generalize u5.setCell ⟨pb, 1, none⟩ (Value.slice (some ⟨g15, 0, none⟩) (csb.length + 1) c15) = u6 at *
                clear qb6 f6
                have hs6 : Hid ((fun u => u.cell? ⟨A1, 0, none⟩ = some (Value.pointer (some ⟨pb, 0, none⟩))) u6) := XBu6.out.cell 0
                refine hK _ _ (Sx.behind (by kernel_rfl) hs6.out) ?_
                clear hK K
                try go_simp
                refine wpAnyX_done (by kernel_rfl) ?_ _
                exact ⟨rfl, ⟨b7, b14, g8, c8, g15, c15, rfl⟩, ⟨_, HGu6.out, rfl, rfl, rfl, rfl, rfl, rfl, rfl, rfl, rfl, fun j => by
                  show (if j = b then _ else if j = a then _ else s.tc j) = (if j = b then _ else if j = a then _ else s.tv j)
                  rw [HNL.out.t j], rfl⟩, XTu6.out, BBu6.out, XLu6.out⟩
              · go_simp
                have hbx2 : Below u1.heap.size u1 (u1.alloc (Obj.cells #[Value.pointer (some ⟨T0, 0, none⟩)] 85)) := (Below.refl _ _).alloc (Nat.le_refl _) _
                have HGu2 := kide (HGu1.out.later hbx2)
                have XTu2 := kide (XTu1.out.later hbx2)
                have XAu2 := kide (XAu1.out.later hbx2)
                have XBu2 := kide (XBu1.out.later hbx2)
                have XLu2 := kide (XLu1.out.later hbx2)
                have Oau2 := kide (own_later Oau1.out hbx2)
                have Obu2 := kide (own_later Obu1.out hbx2)
                have Yb7u2 := kide (Yb7u1.out.later hbx2)
                have Yb14u2 := kide (Bx.new u1 #[Value.pointer (some ⟨T0, 0, none⟩)] 85)
                have BBu2 : Hid (Below B w (u1.alloc (Obj.cells #[Value.pointer (some ⟨T0, 0, none⟩)] 85))) := BBu1.out.alloc (by have := hzu1; omega) _
                have hzu2 : w9.heap.size ≤ (u1.alloc (Obj.cells #[Value.pointer (some ⟨T0, 0, none⟩)] 85)).heap.size := by have := hbx2.size; omega
                have hyb14 : Hid (w9.heap.size ≤ u1.heap.size) := hzu1
                obtain ⟨b14, hbb14⟩ : ∃ x, u1.heap.size = x := ⟨_, rfl⟩
                rw [hbb14] at Yb14u2 hyb14 ⊢
                clear hbb14 hbx2
                generalize u1.alloc (Obj.cells #[Value.pointer (some ⟨T0, 0, none⟩)] 85) = u2 at *
                have hs2 : Hid ((fun u => u.cell? ⟨A0, 0, none⟩ = some (Value.pointer (some ⟨pa, 0, none⟩)) ∧ u.cell? ⟨A1, 0, none⟩ = some (Value.pointer (some ⟨pb, 0, none⟩)) ∧ u.cell? ⟨pa, 1, none⟩ = some va ∧ u.cell? ⟨pb, 1, none⟩ = some vb) u2) := by
                  have k1 := HGu2.out.get HA.out
                  have k2 := HGu2.out.get HB.out
                  exact ⟨XAu2.out.cell 0, XBu2.out.cell 0, k1.2.1.trans (congrArg some hta.out), k2.2.1.trans (congrArg some htb.out)⟩
                refine hK _ _ (Sx.before (by kernel_rfl) hs2.out) ?_
                clear hK K
                try go_simp
                refine wpAnyX_ready (rs := [8]) (by kernel_rfl) (by simp) (AllX.cons rfl (fun K hK => ?_) AllX.nil)
                refine step_appT _ rfl _ _ rfl B va csa ⟨T0, 0, none⟩ (by first | rfl | simp [Act.eval]) Oau2.out b7 1 (by first | rfl | simp [Act.eval]) (Yb7u2.out.cell 0) (by omega) (by have := hzu2; omega) ?_
                intro g8 c8 u3 ho3 hg3 hat3
                have HGu3 := kide (HGu2.out.tied (i := a) hal (cs := s.tl a ++ [T0]) (v := Value.slice (some ⟨g8, 0, none⟩) (csa.length + 1) c8) (by show World.grownBy _ _ (s.tv a).ownBlock; rw [HVA.out]; exact hg3) (own_map HCa.out ho3) (by have := hla9.out; simp; omega) (by show _ = (s.tv a).ownBlock ∨ _; rw [HVA.out]; exact hat3))
                have XTu3 := kide (XTu2.out.grown (by first | decide | assumption) Oau2.out hg3)
                have XAu3 := kide (XAu2.out.grown (by first | decide | assumption) Oau2.out hg3)
                have XBu3 := kide (XBu2.out.grown (by first | decide | assumption) Oau2.out hg3)
                have XLu3 := kide (XLu2.out.grown Oau2.out hg3)
                have Obu3 := kide (own_kept Obu2.out hg3 hvab.out)
                have Yb7u3 := kide (Yb7u2.out.far (fun k hk => Nat.lt_of_lt_of_le (hla.out k hk) hyb7.out) hg3)
                have Yb14u3 := kide (Yb14u2.out.far (fun k hk => Nat.lt_of_lt_of_le (hla.out k hk) hyb14.out) hg3)
                have BBu3 : Hid (Below B w u3) := Below.grown BBu2.out hg3 (by have := hzu2; omega) (fun j hj => (own_lt Oau2.out hj).1)
                have hzu3 : w9.heap.size ≤ u3.heap.size := by have := hg3.size; omega
                clear ho3 hg3 hat3
                have hs3 : Hid ((fun u => u.cell? ⟨A0, 0, none⟩ = some (Value.pointer (some ⟨pa, 0, none⟩)) ∧ u.cell? ⟨A1, 0, none⟩ = some (Value.pointer (some ⟨pb, 0, none⟩)) ∧ u.cell? ⟨pa, 1, none⟩ = some va ∧ u.cell? ⟨pb, 1, none⟩ = some vb) u3) := by
                  have k1 := HGu3.out.get HA.out
                  have k2 := HGu3.out.get HB.out
                  exact ⟨XAu3.out.cell 0, XBu3.out.cell 0, k1.2.1.trans (congrArg some hta.out), k2.2.1.trans (congrArg some htb.out)⟩
                refine hK _ _ (Sx.before (by kernel_rfl) hs3.out) ?_
                clear hK K
                try go_simp
                refine wpAnyX_ready (rs := [15]) (by kernel_rfl) (by simp) (AllX.cons rfl (fun K hK => ?_) AllX.nil)
                refine step_appT _ rfl _ _ rfl B vb csb ⟨T0, 0, none⟩ (by first | rfl | simp [Act.eval]) Obu3.out b14 1 (by first | rfl | simp [Act.eval]) (Yb14u3.out.cell 0) (by omega) (by have := hzu3; omega) ?_
                intro g15 c15 u4 ho4 hg4 hat4
                have HGu4 := kide (HGu3.out.tied (i := b) hbl (cs := s.tl b ++ [T0]) (v := Value.slice (some ⟨g15, 0, none⟩) (csb.length + 1) c15) (by show World.grownBy _ _ (if b = a then _ else s.tv b).ownBlock; rw [if_neg (Ne.symm hab), HVB.out]; exact hg4) (own_map HCb.out ho4) (by have := hlb9.out; simp; omega) (by show _ = (if b = a then _ else s.tv b).ownBlock ∨ _; rw [if_neg (Ne.symm hab), HVB.out]; exact hat4))
                have XTu4 := kide (XTu3.out.grown (by first | decide | assumption) Obu3.out hg4)
                have XAu4 := kide (XAu3.out.grown (by first | decide | assumption) Obu3.out hg4)
                have XBu4 := kide (XBu3.out.grown (by first | decide | assumption) Obu3.out hg4)
                have XLu4 := kide (XLu3.out.grown Obu3.out hg4)
                have Yb7u4 := kide (Yb7u3.out.far (fun k hk => Nat.lt_of_lt_of_le (hlb.out k hk) hyb7.out) hg4)
                have Yb14u4 := kide (Yb14u3.out.far (fun k hk => Nat.lt_of_lt_of_le (hlb.out k hk) hyb14.out) hg4)
                have BBu4 : Hid (Below B w u4) := Below.grown BBu3.out hg4 (by have := hzu3; omega) (fun j hj => (own_lt Obu3.out hj).1)
                have hzu4 : w9.heap.size ≤ u4.heap.size := by have := hg4.size; omega
                clear ho4 hg4 hat4
                have hs4 : Hid ((fun u => u.cell? ⟨A0, 0, none⟩ = some (Value.pointer (some ⟨pa, 0, none⟩)) ∧ u.cell? ⟨A1, 0, none⟩ = some (Value.pointer (some ⟨pb, 0, none⟩)) ∧ u.cell? ⟨pa, 1, none⟩ = some va ∧ u.cell? ⟨pb, 1, none⟩ = some vb) u4) := by
                  have k1 := HGu4.out.get HA.out
                  have k2 := HGu4.out.get HB.out
                  exact ⟨XAu4.out.cell 0, XBu4.out.cell 0, k1.2.1.trans (congrArg some hta.out), k2.2.1.trans (congrArg some htb.out)⟩
                refine hK _ _ (Sx.before (by kernel_rfl) hs4.out) ?_
                clear hK K
                try go_simp
                refine wpAnyX_both (T := fun _ => True) (i := 16) (v := Value.pointer (some ⟨pa, 0, none⟩)) rfl (by kernel_rfl) (by kernel_rfl) (by kernel_rfl) (fun _ _ _ h => by first | exact h | exact h.elim | cases h.1) (by decide) (fun _ _ => trivial) (fun _ _ => trivial) (Sx.before (by kernel_rfl) hs4.out) (Or.inl ⟨by rfl, fun u hu => by go_simp⟩) ?_
                try go_simp
                refine wpAnyX_both (T := fun _ => True) (i := 17) (v := Value.pointer (some ⟨pa, 1, none⟩)) rfl (by kernel_rfl) (by kernel_rfl) (by kernel_rfl) (fun _ _ _ h => by first | exact h | exact h.elim | cases h.1) (by decide) (fun _ _ => trivial) (fun _ _ => trivial) (Sx.before (by kernel_rfl) hs4.out) (Or.inl ⟨by rfl, fun u hu => by go_simp⟩) ?_
                try go_simp
                refine wpAnyX_ready (rs := [18]) (by kernel_rfl) (by simp) (AllX.cons rfl (fun K hK => ?_) AllX.nil)
                obtain ⟨-, qb5, -, -, -⟩ := HGu4.out.get HA.out
                have f5 := frozen_of_row u4 pa 1 _ _ (HGu4.out.kn _ _ HA.out).2
                go_simp
                have HGu5 := kide (HGu4.out.knot HA.out 1 (Value.slice (some ⟨g8, 0, none⟩) (csa.length + 1) c8) (fun j => if j = a then Value.slice (some ⟨g8, 0, none⟩) (csa.length + 1) c8 else s.tc j) _ _ _ (fun j hj => ⟨by simp [hj], rfl, rfl, rfl⟩) (by simp [knotCells]))
                have XLu5 : Hid (Kt w8 (u4.setCell ⟨pa, 1, none⟩ (Value.slice (some ⟨g8, 0, none⟩) (csa.length + 1) c8))) := XLu4.out.set (HGu4.out.kn _ _ HA.out).2 (.inl rfl) _
                have XTu5 := kide (XTu4.out.other (c := pa) (XTu4.out.apart (HGu4.out.kn _ _ HA.out).2 (by first | decide | assumption)) 1 (Value.slice (some ⟨g8, 0, none⟩) (csa.length + 1) c8))
                have XAu5 := kide (XAu4.out.other (c := pa) (XAu4.out.apart (HGu4.out.kn _ _ HA.out).2 (by first | decide | assumption)) 1 (Value.slice (some ⟨g8, 0, none⟩) (csa.length + 1) c8))
                have XBu5 := kide (XBu4.out.other (c := pa) (XBu4.out.apart (HGu4.out.kn _ _ HA.out).2 (by first | decide | assumption)) 1 (Value.slice (some ⟨g8, 0, none⟩) (csa.length + 1) c8))
                have BBu5 : Hid (Below B w (u4.setCell ⟨pa, 1, none⟩ (Value.slice (some ⟨g8, 0, none⟩) (csa.length + 1) c8))) := BBu4.out.setCell (HGu4.out.kn _ _ HA.out).1 _
                generalize u4.setCell ⟨pa, 1, none⟩ (Value.slice (some ⟨g8, 0, none⟩) (csa.length + 1) c8) = u5 at *
                clear qb5 f5
                have hs5 : Hid ((fun u => u.cell? ⟨A1, 0, none⟩ = some (Value.pointer (some ⟨pb, 0, none⟩))) u5) := XBu5.out.cell 0
                refine hK _ _ (Sx.behind (by kernel_rfl) hs5.out) ?_
                clear hK K
                try go_simp
                refine wpAnyX_both (T := fun _ => True) (i := 19) (v := Value.pointer (some ⟨pb, 0, none⟩)) rfl (by kernel_rfl) (by kernel_rfl) (by kernel_rfl) (fun _ _ _ h => by first | exact h | exact h.elim | cases h.1) (by decide) (fun _ _ => trivial) (fun _ _ => trivial) (Sx.behind (by kernel_rfl) hs5.out) (Or.inl ⟨by rfl, fun u hu => by go_simp⟩) ?_
                try go_simp
                refine wpAnyX_both (T := fun _ => True) (i := 20) (v := Value.pointer (some ⟨pb, 1, none⟩)) rfl (by kernel_rfl) (by kernel_rfl) (by kernel_rfl) (fun _ _ _ h => by first | exact h | exact h.elim | cases h.1) (by decide) (fun _ _ => trivial) (fun _ _ => trivial) (Sx.behind (by kernel_rfl) hs5.out) (Or.inl ⟨by rfl, fun u hu => by go_simp⟩) ?_
                try go_simp
                refine wpAnyX_ready (rs := [21]) (by kernel_rfl) (by simp) (AllX.cons rfl (fun K hK => ?_) AllX.nil)
                obtain ⟨-, qb6, -, -, -⟩ := HGu5.out.get HB.out
                have f6 := frozen_of_row u5 pb 1 _ _ (HGu5.out.kn _ _ HB.out).2
                go_simp
                have HGu6 := kide (HGu5.out.knot HB.out 1 (Value.slice (some ⟨g15, 0, none⟩) (csb.length + 1) c15) (fun j => if j = b then Value.slice (some ⟨g15, 0, none⟩) (csb.length + 1) c15 else if j = a then Value.slice (some ⟨g8, 0, none⟩) (csa.length + 1) c8 else s.tc j) _ _ _ (fun j hj => ⟨by simp [hj], rfl, rfl, rfl⟩) (by simp [knotCells]))
                have XLu6 : Hid (Kt w8 (u5.setCell ⟨pb, 1, none⟩ (Value.slice (some ⟨g15, 0, none⟩) (csb.length + 1) c15))) := XLu5.out.set (HGu5.out.kn _ _ HB.out).2 (.inl rfl) _
                have XTu6 := kide (XTu5.out.other (c := pb) (XTu5.out.apart (HGu5.out.kn _ _ HB.out).2 (by first | decide | assumption)) 1 (Value.slice (some ⟨g15, 0, none⟩) (csb.length + 1) c15))
                have XAu6 := kide (XAu5.out.other (c := pb) (XAu5.out.apart (HGu5.out.kn _ _ HB.out).2 (by first | decide | assumption)) 1 (Value.slice (some ⟨g15, 0, none⟩) (csb.length + 1) c15))
                have XBu6 := kide (XBu5.out.other (c := pb) (XBu5.out.apart (HGu5.out.kn _ _ HB.out).2 (by first | decide | assumption)) 1 (Value.slice (some ⟨g15, 0, none⟩) (csb.length + 1) c15))
                have BBu6 : Hid (Below B w (u5.setCell ⟨pb, 1, none⟩ (Value.slice (some ⟨g15, 0, none⟩) (csb.length + 1) c15))) := BBu5.out.setCell (HGu5.out.kn _ _ HB.out).1 _
                generalize u5.setCell ⟨pb, 1, none⟩ (Value.slice (some ⟨g15, 0, none⟩) (csb.length + 1) c15) = u6 at *
                clear qb6 f6
                have hs6 : Hid ((fun u => u.cell? ⟨A1, 0, none⟩ = some (Value.pointer (some ⟨pb, 0, none⟩))) u6) := XBu6.out.cell 0
                refine hK _ _ (Sx.behind (by kernel_rfl) hs6.out) ?_
                clear hK K
                try go_simp
                refine wpAnyX_done (by kernel_rfl) ?_ _
                exact ⟨rfl, ⟨b7, b14, g8, c8, g15, c15, rfl⟩, ⟨_, HGu6.out, rfl, rfl, rfl, rfl, rfl, rfl, rfl, rfl, rfl, fun j => by
                  show (if j = b then _ else if j = a then _ else s.tc j) = (if j = b then _ else if j = a then _ else s.tv j)
                  rw [HNL.out.t j], rfl⟩, XTu6.out, BBu6.out, XLu6.out⟩
            · go_simp
              have hbx1 : Below u0.heap.size u0 (u0.alloc (Obj.cells #[Value.pointer (some ⟨T0, 0, none⟩)] 85)) := (Below.refl _ _).alloc (Nat.le_refl _) _
              have HGu1 := kide (HGu0.out.later hbx1)
              have XTu1 := kide (XTu0.out.later hbx1)
              have XAu1 := kide (XAu0.out.later hbx1)
              have XBu1 := kide (XBu0.out.later hbx1)
              have XLu1 := kide (XLu0.out.later hbx1)
              have Oau1 := kide (own_later Oau0.out hbx1)
              have Obu1 := kide (own_later Obu0.out hbx1)
              have Yb14u1 := kide (Bx.new u0 #[Value.pointer (some ⟨T0, 0, none⟩)] 85)
              have BBu1 : Hid (Below B w (u0.alloc (Obj.cells #[Value.pointer (some ⟨T0, 0, none⟩)] 85))) := BBu0.out.alloc (by have := hzu0; omega) _
              have hzu1 : w9.heap.size ≤ (u0.alloc (Obj.cells #[Value.pointer (some ⟨T0, 0, none⟩)] 85)).heap.size := by have := hbx1.size; omega
              have hyb14 : Hid (w9.heap.size ≤ u0.heap.size) := hzu0
              obtain ⟨b14, hbb14⟩ : ∃ x, u0.heap.size = x := ⟨_, rfl⟩
              rw [hbb14] at Yb14u1 hyb14 ⊢
              clear hbb14 hbx1
              generalize u0.alloc (Obj.cells #[Value.pointer (some ⟨T0, 0, none⟩)] 85) = u1 at *
              have hs1 : Hid ((fun u => u.cell? ⟨A0, 0, none⟩ = some (Value.pointer (some ⟨pa, 0, none⟩)) ∧ u.cell? ⟨A1, 0, none⟩ = some (Value.pointer (some ⟨pb, 0, none⟩)) ∧ u.cell? ⟨pa, 1, none⟩ = some va ∧ u.cell? ⟨pb, 1, none⟩ = some vb) u1) := by
                have k1 := HGu1.out.get HA.out
                have k2 := HGu1.out.get HB.out
                exact ⟨XAu1.out.cell 0, XBu1.out.cell 0, k1.2.1.trans (congrArg some hta.out), k2.2.1.trans (congrArg some htb.out)⟩
              refine hK _ _ (Sx.before (by kernel_rfl) hs1.out) ?_
              clear hK K
              try go_simp
              refine wpAnyX_ready (rs := [7]) (by kernel_rfl) (by simp) (AllX.cons rfl (fun K hK => ?_) AllX.nil)
              go_simp
              have hbx2 : Below u1.heap.size u1 (u1.alloc (Obj.cells #[Value.pointer (some ⟨T0, 0, none⟩)] 85)) := (Below.refl _ _).alloc (Nat.le_refl _) _
              have HGu2 := kide (HGu1.out.later hbx2)
              have XTu2 := kide (XTu1.out.later hbx2)
              have XAu2 := kide (XAu1.out.later hbx2)
              have XBu2 := kide (XBu1.out.later hbx2)
              have XLu2 := kide (XLu1.out.later hbx2)
              have Oau2 := kide (own_later Oau1.out hbx2)
              have Obu2 := kide (own_later Obu1.out hbx2)
              have Yb14u2 := kide (Yb14u1.out.later hbx2)
              have Yb7u2 := kide (Bx.new u1 #[Value.pointer (some ⟨T0, 0, none⟩)] 85)
              have BBu2 : Hid (Below B w (u1.alloc (Obj.cells #[Value.pointer (some ⟨T0, 0, none⟩)] 85))) := BBu1.out.alloc (by have := hzu1; omega) _
              have hzu2 : w9.heap.size ≤ (u1.alloc (Obj.cells #[Value.pointer (some ⟨T0, 0, none⟩)] 85)).heap.size := by have := hbx2.size; omega
              have hyb7 : Hid (w9.heap.size ≤ u1.heap.size) := hzu1
              obtain ⟨b7, hbb7⟩ : ∃ x, u1.heap.size = x := ⟨_, rfl⟩
              rw [hbb7] at Yb7u2 hyb7 ⊢
              clear hbb7 hbx2
              generalize u1.alloc (Obj.cells #[Value.pointer (some ⟨T0, 0, none⟩)] 85) = u2 at *
              have hs2 : Hid ((fun u => u.cell? ⟨A0, 0, none⟩ = some (Value.pointer (some ⟨pa, 0, none⟩)) ∧ u.cell? ⟨A1, 0, none⟩ = some (Value.pointer (some ⟨pb, 0, none⟩)) ∧ u.cell? ⟨pa, 1, none⟩ = some va ∧ u.cell? ⟨pb, 1, none⟩ = some vb) u2) := by
                have k1 := HGu2.out.get HA.out
                have k2 := HGu2.out.get HB.out
                exact ⟨XAu2.out.cell 0, XBu2.out.cell 0, k1.2.1.trans (congrArg some hta.out), k2.2.1.trans (congrArg some htb.out)⟩
              refine hK _ _ (Sx.before (by kernel_rfl) hs2.out) ?_
              clear hK K
              try go_simp
              refine wpAnyX_ready (rs := [8]) (by kernel_rfl) (by simp) (AllX.cons rfl (fun K hK => ?_) AllX.nil)
              refine step_appT _ rfl _ _ rfl B va csa ⟨T0, 0, none⟩ (by first | rfl | simp [Act.eval]) Oau2.out b7 1 (by first | rfl | simp [Act.eval]) (Yb7u2.out.cell 0) (by omega) (by have := hzu2; omega) ?_
              intro g8 c8 u3 ho3 hg3 hat3
              have HGu3 := kide (HGu2.out.tied (i := a) hal (cs := s.tl a ++ [T0]) (v := Value.slice (some ⟨g8, 0, none⟩) (csa.length + 1) c8) (by show World.grownBy _ _ (s.tv a).ownBlock; rw [HVA.out]; exact hg3) (own_map HCa.out ho3) (by have := hla9.out; simp; omega) (by show _ = (s.tv a).ownBlock ∨ _; rw [HVA.out]; exact hat3))
              have XTu3 := kide (XTu2.out.grown (by first | decide | assumption) Oau2.out hg3)
              have XAu3 := kide (XAu2.out.grown (by first | decide | assumption) Oau2.out hg3)
              have XBu3 := kide (XBu2.out.grown (by first | decide | assumption) Oau2.out hg3)
              have XLu3 := kide (XLu2.out.grown Oau2.out hg3)
              have Obu3 := kide (own_kept Obu2.out hg3 hvab.out)
              have Yb14u3 := kide (Yb14u2.out.far (fun k hk => Nat.lt_of_lt_of_le (hla.out k hk) hyb14.out) hg3)
              have Yb7u3 := kide (Yb7u2.out.far (fun k hk => Nat.lt_of_lt_of_le (hla.out k hk) hyb7.out) hg3)
              have BBu3 : Hid (Below B w u3) := Below.grown BBu2.out hg3 (by have := hzu2; omega) (fun j hj => (own_lt Oau2.out hj).1)
              have hzu3 : w9.heap.size ≤ u3.heap.size := by have := hg3.size; omega
              clear ho3 hg3 hat3
              have hs3 : Hid ((fun u => u.cell? ⟨A0, 0, none⟩ = some (Value.pointer (some ⟨pa, 0, none⟩)) ∧ u.cell? ⟨A1, 0, none⟩ = some (Value.pointer (some ⟨pb, 0, none⟩)) ∧ u.cell? ⟨pa, 1, none⟩ = some va ∧ u.cell? ⟨pb, 1, none⟩ = some vb) u3) := by
                have k1 := HGu3.out.get HA.out
                have k2 := HGu3.out.get HB.out
                exact ⟨XAu3.out.cell 0, XBu3.out.cell 0, k1.2.1.trans (congrArg some hta.out), k2.2.1.trans (congrArg some htb.out)⟩
              refine hK _ _ (Sx.before (by kernel_rfl) hs3.out) ?_
              clear hK K
              try go_simp
              refine wpAnyX_ready (rs := [15]) (by kernel_rfl) (by simp) (AllX.cons rfl (fun K hK => ?_) AllX.nil)
              refine step_appT _ rfl _ _ rfl B vb csb ⟨T0, 0, none⟩ (by first | rfl | simp [Act.eval]) Obu3.out b14 1 (by first | rfl | simp [Act.eval]) (Yb14u3.out.cell 0) (by omega) (by have := hzu3; omega) ?_
              intro g15 c15 u4 ho4 hg4 hat4
              have HGu4 := kide (HGu3.out.tied (i := b) hbl (cs := s.tl b ++ [T0]) (v := Value.slice (some ⟨g15, 0, none⟩) (csb.length + 1) c15) (by show World.grownBy _ _ (if b = a then _ else s.tv b).ownBlock; rw [if_neg (Ne.symm hab), HVB.out]; exact hg4) (own_map HCb.out ho4) (by have := hlb9.out; simp; omega) (by show _ = (if b = a then _ else s.tv b).ownBlock ∨ _; rw [if_neg (Ne.symm hab), HVB.out]; exact hat4))
              have XTu4 := kide (XTu3.out.grown (by first | decide | assumption) Obu3.out hg4)
              have XAu4 := kide (XAu3.out.grown (by first | decide | assumption) Obu3.out hg4)
              have XBu4 := kide (XBu3.out.grown (by first | decide | assumption) Obu3.out hg4)
              have XLu4 := kide (XLu3.out.grown Obu3.out hg4)
              have Yb14u4 := kide (Yb14u3.out.far (fun k hk => Nat.lt_of_lt_of_le (hlb.out k hk) hyb14.out) hg4)
              have Yb7u4 := kide (Yb7u3.out.far (fun k hk => Nat.lt_of_lt_of_le (hlb.out k hk) hyb7.out) hg4)
              have BBu4 : Hid (Below B w u4) := Below.grown BBu3.out hg4 (by have := hzu3; omega) (fun j hj => (own_lt Obu3.out hj).1)
              have hzu4 : w9.heap.size ≤ u4.heap.size := by have := hg4.size; omega
              clear ho4 hg4 hat4
              have hs4 : Hid ((fun u => u.cell? ⟨A0, 0, none⟩ = some (Value.pointer (some ⟨pa, 0, none⟩)) ∧ u.cell? ⟨A1, 0, none⟩ = some (Value.pointer (some ⟨pb, 0, none⟩)) ∧ u.cell? ⟨pa, 1, none⟩ = some va ∧ u.cell? ⟨pb, 1, none⟩ = some vb) u4) := by
                have k1 := HGu4.out.get HA.out
                have k2 := HGu4.out.get HB.out
                exact ⟨XAu4.out.cell 0, XBu4.out.cell 0, k1.2.1.trans (congrArg some hta.out), k2.2.1.trans (congrArg some htb.out)⟩
              refine hK _ _ (Sx.before (by kernel_rfl) hs4.out) ?_
              clear hK K
              try go_simp
              refine wpAnyX_both (T := fun _ => True) (i := 16) (v := Value.pointer (some ⟨pa, 0, none⟩)) rfl (by kernel_rfl) (by kernel_rfl) (by kernel_rfl) (fun _ _ _ h => by first | exact h | exact h.elim | cases h.1) (by decide) (fun _ _ => trivial) (fun _ _ => trivial) (Sx.before (by kernel_rfl) hs4.out) (Or.inl ⟨by rfl, fun u hu => by go_simp⟩) ?_
              try go_simp
              refine wpAnyX_both (T := fun _ => True) (i := 17) (v := Value.pointer (some ⟨pa, 1, none⟩)) rfl (by kernel_rfl) (by kernel_rfl) (by kernel_rfl) (fun _ _ _ h => by first | exact h | exact h.elim | cases h.1) (by decide) (fun _ _ => trivial) (fun _ _ => trivial) (Sx.before (by kernel_rfl) hs4.out) (Or.inl ⟨by rfl, fun u hu => by go_simp⟩) ?_
              try go_simp
              refine wpAnyX_ready (rs := [18]) (by kernel_rfl) (by simp) (AllX.cons rfl (fun K hK => ?_) AllX.nil)
              obtain ⟨-, qb5, -, -, -⟩ := HGu4.out.get HA.out
              have f5 := frozen_of_row u4 pa 1 _ _ (HGu4.out.kn _ _ HA.out).2
              go_simp
              have HGu5 := kide (HGu4.out.knot HA.out 1 (Value.slice (some ⟨g8, 0, none⟩) (csa.length + 1) c8) (fun j => if j = a then Value.slice (some ⟨g8, 0, none⟩) (csa.length + 1) c8 else s.tc j) _ _ _ (fun j hj => ⟨by simp [hj], rfl, rfl, rfl⟩) (by simp [knotCells]))
              have XLu5 : Hid (Kt w8 (u4.setCell ⟨pa, 1, none⟩ (Value.slice (some ⟨g8, 0, none⟩) (csa.length + 1) c8))) := XLu4.out.set (HGu4.out.kn _ _ HA.out).2 (.inl rfl) _
              have XTu5 := kide (XTu4.out.other (c := pa) (XTu4.out.apart (HGu4.out.kn _ _ HA.out).2 (by first | decide | assumption)) 1 (Value.slice (some ⟨g8, 0, none⟩) (csa.length + 1) c8))
              have XAu5 := kide (XAu4.out.other (c := pa) (XAu4.out.apart (HGu4.out.kn _ _ HA.out).2 (by first | decide | assumption)) 1 (Value.slice (some ⟨g8, 0, none⟩) (csa.length + 1) c8))
              have XBu5 := kide (XBu4.out.other (c := pa) (XBu4.out.apart (HGu4.out.kn _ _ HA.out).2 (by first | decide | assumption)) 1 (Value.slice (some ⟨g8, 0, none⟩) (csa.length + 1) c8))
              have BBu5 : Hid (Below B w (u4.setCell ⟨pa, 1, none⟩ (Value.slice (some ⟨g8, 0, none⟩) (csa.length + 1) c8))) := BBu4.out.setCell (HGu4.out.kn _ _ HA.out).1 _
              generalize u4.setCell ⟨pa, 1, none⟩ (Value.slice (some ⟨g8, 0, none⟩) (csa.length + 1) c8) = u5 at *
              clear qb5 f5
              have hs5 : Hid ((fun u => u.cell? ⟨A1, 0, none⟩ = some (Value.pointer (some ⟨pb, 0, none⟩))) u5) := XBu5.out.cell 0
              refine hK _ _ (Sx.behind (by kernel_rfl) hs5.out) ?_
              clear hK K
              try go_simp
              refine wpAnyX_both (T := fun _ => True) (i := 19) (v := Value.pointer (some ⟨pb, 0, none⟩)) rfl (by kernel_rfl) (by kernel_rfl) (by kernel_rfl) (fun _ _ _ h => by first | exact h | exact h.elim | cases h.1) (by decide) (fun _ _ => trivial) (fun _ _ => trivial) (Sx.behind (by kernel_rfl) hs5.out) (Or.inl ⟨by rfl, fun u hu => by go_simp⟩) ?_
              try go_simp
              refine wpAnyX_both (T := fun _ => True) (i := 20) (v := Value.pointer (some ⟨pb, 1, none⟩)) rfl (by kernel_rfl) (by kernel_rfl) (by kernel_rfl) (fun _ _ _ h => by first | exact h | exact h.elim | cases h.1) (by decide) (fun _ _ => trivial) (fun _ _ => trivial) (Sx.behind (by kernel_rfl) hs5.out) (Or.inl ⟨by rfl, fun u hu => by go_simp⟩) ?_
              try go_simp
              refine wpAnyX_ready (rs := [21]) (by kernel_rfl) (by simp) (AllX.cons rfl (fun K hK => ?_) AllX.nil)
              obtain ⟨-, qb6, -, -, -⟩ := HGu5.out.get HB.out
              have f6 := frozen_of_row u5 pb 1 _ _ (HGu5.out.kn _ _ HB.out).2
              go_simp
              have HGu6 := kide (HGu5.out.knot HB.out 1 (Value.slice (some ⟨g15, 0, none⟩) (csb.length + 1) c15) (fun j => if j = b then Value.slice (some ⟨g15, 0, none⟩) (csb.length + 1) c15 else if j = a then Value.slice (some ⟨g8, 0, none⟩) (csa.length + 1) c8 else s.tc j) _ _ _ (fun j hj => ⟨by simp [hj], rfl, rfl, rfl⟩) (by simp [knotCells]))
              have XLu6 : Hid (Kt w8 (u5.setCell ⟨pb, 1, none⟩ (Value.slice (some ⟨g15, 0, none⟩) (csb.length + 1) c15))) := XLu5.out.set (HGu5.out.kn _ _ HB.out).2 (.inl rfl) _
              have XTu6 := kide (XTu5.out.other (c := pb) (XTu5.out.apart (HGu5.out.kn _ _ HB.out).2 (by first | decide | assumption)) 1 (Value.slice (some ⟨g15, 0, none⟩) (csb.length + 1) c15))
              have XAu6 := kide (XAu5.out.other (c := pb) (XAu5.out.apart (HGu5.out.kn _ _ HB.out).2 (by first | decide | assumption)) 1 (Value.slice (some ⟨g15, 0, none⟩) (csb.length + 1) c15))
              have XBu6 := kide (XBu5.out.other (c := pb) (XBu5.out.apart (HGu5.out.kn _ _ HB.out).2 (by first | decide | assumption)) 1 (Value.slice (some ⟨g15, 0, none⟩) (csb.length + 1) c15))
              have BBu6 : Hid (Below B w (u5.setCell ⟨pb, 1, none⟩ (Value.slice (some ⟨g15, 0, none⟩) (csb.length + 1) c15))) := BBu5.out.setCell (HGu5.out.kn _ _ HB.out).1 _
              generalize u5.setCell ⟨pb, 1, none⟩ (Value.slice (some ⟨g15, 0, none⟩) (csb.length + 1) c15) = u6 at *
              clear qb6 f6
              have hs6 : Hid ((fun u => u.cell? ⟨A1, 0, none⟩ = some (Value.pointer (some ⟨pb, 0, none⟩))) u6) := XBu6.out.cell 0
              refine hK _ _ (Sx.behind (by kernel_rfl) hs6.out) ?_
              clear hK K
              try go_simp
              refine wpAnyX_done (by kernel_rfl) ?_ _
              exact ⟨rfl, ⟨b7, b14, g8, c8, g15, c15, rfl⟩, ⟨_, HGu6.out, rfl, rfl, rfl, rfl, rfl, rfl, rfl, rfl, rfl, fun j => by
                show (if j = b then _ else if j = a then _ else s.tc j) = (if j = b then _ else if j = a then _ else s.tv j)
                rw [HNL.out.t j], rfl⟩, XTu6.out, BBu6.out, XLu6.out⟩
          · rintro a' w10 ⟨⟨b7, b14, g8, c8, g15, c15, rfl⟩, ⟨s10, hg10, e1, e2, e3, e4, e5, e6, e7, e8, e9, e10, e11⟩, xt10, bb10, xl10⟩
            have hpsA : s10.ps.getD ((a : Int), (b : Int), y).1.toNat 0 = pa := by simp [e3, HA.out]
            have hpsB : s10.ps.getD ((a : Int), (b : Int), y).2.1.toNat 0 = pb := by simp [e3, HB.out]
            have HPU := kide (push_any (l := ((a : Int), (b : Int), y)) (f := fv) (t := T0) hg10 (by rw [e4, e5]; exact HNL.out.n) (by rw [e8, e9]; exact HNL.out.i) (by rw [e4]; exact hts) (by have h1 := HSZ.out; have h2 := HA0.out; omega) (by rw [hpsA, hpsB]; exact xt10))
            unfold pt at HPU
            have HBB := kide bb10
            have XL10 := kide xl10
            have EKC := kide e6
            have HUF := kide (HU.out.join hal hbl hne (o := rt a) (u := rt b) (.inl ⟨rfl, rfl⟩))
            have E1 := kide e1
            have E2 := kide e2
            have E3 := kide e3
            have E5 := kide e5
            have EK := kide (e6.trans (HNL.out.k.trans e7.symm))
            have E10 := kide e10
            have E11 := kide e11
            have E4 := kide e4
            have HN10 : Hid (s10.ts.length = s10.ls.length) := by show _ = _; rw [e4, e5]; exact HNL.out.n
            have XT10 := kide xt10
            clear hg10 xt10 bb10 xl10 e1 e2 e3 e4 e5 e6 e7 e8 e9 e10 e11 hpsA hpsB
            go_wp2_with fail
            refine Calls.mono HPU.out ?_
            rintro e w11 ⟨rfl, v11, hg11, hb11, hk11⟩
            have HK11 := kide (XL10.out.trans hk11)
            have XL11 := kide (HK11.out _ _ _ XL8.out htk htt htg)
            have JX11 : Hid (Clo w11 s.ps T0 ((a : Int), (b : Int), y)) := ⟨rt a, rt b, po, pu, pa, pb, o9, o10, o11, o12, A0, A1, _, _, HRO.out, HRU.out, by simpa using HA.out, by simpa using HB.out, by rw [HFV.out]; exact hk11 _ _ _ XT10.out (by decide) (by decide) (by decide), HK11.out _ _ _ X98.out (by decide) (by decide) (by decide), HK11.out _ _ _ X108.out (by decide) (by decide) (by decide), HK11.out _ _ _ X118.out (by decide) (by decide) (by decide), HK11.out _ _ _ X128.out (by decide) (by decide) (by decide), HK11.out _ _ _ XA8.out (by decide) (by decide) (by decide), HK11.out _ _ _ XB8.out (by decide) (by decide) (by decide)⟩
            have HKW : Hid (Kt w w11) := (Kt.of_below HWB.out).trans HK11.out
            have HG11 := kide hg11
            have HB11 := kide (HBB.out.trans hb11)
            clear hg11 hb11 hk11
            go_wp2_with fail
            go_ret
            exact .inr ⟨hne, rfl, _, _, _, HG11.out, ⟨EK.out, rfl, E10.out, by simp [HN10.out]⟩, by simpa [E1.out, E2.out] using HUF.out, E3.out, by simp [E5.out], HB11.out, XL11.out, EKC.out, HKW.out, T0, by simp [E4.out], E11.out, JX11.out⟩

end Go.Proofs.Ytakicdlfolhhcaa
