/- Nodes shared, on the given side. -/
import Derived.Test.YtljcfokiocbgoaaZUE
namespace Go.Proofs.Ytljcfokiocbgoaa
set_option linter.unusedVariables false
set_option linter.unusedSimpArgs false
open Go.RowKit

/-- No capacity without a place. -/
def Sn (xs : List Tg) : Prop := ∀ x ∈ xs, (x.wa = none → x.wc = 0) ∧ (x.ka = none → x.kc = 0)
def RetSh (ns : List Tc) (w : World) (e : Ending) (w' : World) : Prop := ∃ v l tv, e = .returned (.tuple #[.agg #[v], tv]) ∧ Ts w' w.heap.size v l ∧ l.map Tg.ct = (shTo ns ns.length).1 ∧ OI w' w.heap.size tv (shTo ns ns.length).2 ∧ Below w.heap.size w w'

/-- What the loop has made so far. -/
structure ShM (w wr : World) (b0 : Nat) (v tv : Value) (l : List Tg) (st : List Tc × List Int) : Prop where
  br : Bz wr b0 #[Value.slice none 0 0] 28
  bo : Bz wr (b0 + 1) #[v] 28
  ts : Ts wr (b0 + 2) v l
  eq : l.map Tg.ct = st.1
  ot : OI wr (b0 + 2) tv st.2
  dj : ∀ x ∈ l, ∀ p, x.ka = some p → tv.ownBlock ≠ some p.block
  bl : Below w.heap.size w wr
  sz : b0 + 2 ≤ wr.heap.size
theorem ShM.later {w wr wr' : World} {b0 : Nat} {v tv : Value} {l : List Tg} {st : List Tc × List Int} (h : ShM w wr b0 v tv l st) (hb : Below wr.heap.size wr wr') : ShM w wr' b0 v tv l st :=
  ⟨h.br.later hb, h.bo.later hb, h.ts.later hb, h.eq, h.ot.later hb, h.dj, h.bl.trans (hb.mono h.bl.size), Nat.le_trans h.sz hb.size⟩
/-- A store into a block of numbers that is none of these. -/
theorem ShM.out {w wr wr' : World} {b0 g N : Nat} {v tv : Value} {l : List Tg} {st : List Tc × List Int} (h : ShM w wr b0 v tv l st) (hg : wr.grownBy wr' (some g)) (hN : N ≤ g) (hl : ∀ x ∈ l, (∀ p, x.wa = some p → p.block < N) ∧ ∀ p, x.ka = some p → p.block < N) (ht : ∀ b, tv.ownBlock = some b → b < N) (hv : ∀ b, v.ownBlock = some b → b < N) (hb : b0 + 2 ≤ N) (hw : w.heap.size ≤ b0) : ShM w wr' b0 v tv l st where
  br := (hg.block b0 h.br.lt (fun e => by cases e; omega)).trans h.br
  bo := (hg.block (b0 + 1) h.bo.lt (fun e => by cases e; omega)).trans h.bo
  ts := ⟨h.ts.row.move fun b hb' => hg.block b (h.ts.row.lt hb').2 (fun e => by cases e; have := hv _ hb'; omega), fun x hx => by
      have h1 := h.ts.wn x hx
      rcases h1 with ⟨k1, k2⟩ | ⟨g', cur, k1, k2, k3, k4⟩
      · refine .inl ⟨k1, fun y e => ?_⟩
        obtain ⟨q1, q2, cur, q3⟩ := k2 y e
        exact ⟨q1, q2, cur, (hg.block _ (lt_of_block q3) (fun e' => by have := (hl x hx).1 y e; cases e'; omega)).trans q3⟩
      · exact .inr ⟨g', cur, k1, k2, (hg.block _ (lt_of_block k3) (fun e' => by have := (hl x hx).1 _ k1; cases e'; simp only at this; omega)).trans k3, k4⟩, fun x hx => by
      have h1 := h.ts.kn x hx
      rcases h1 with ⟨k1, k2⟩ | ⟨g', cur, k1, k2, k3, k4⟩
      · refine .inl ⟨k1, fun y e => ?_⟩
        obtain ⟨q1, q2, cur, q3⟩ := k2 y e
        exact ⟨q1, q2, cur, (hg.block _ (lt_of_block q3) (fun e' => by have := (hl x hx).2 y e; cases e'; omega)).trans q3⟩
      · exact .inr ⟨g', cur, k1, k2, (hg.block _ (lt_of_block k3) (fun e' => by have := (hl x hx).2 _ k1; cases e'; simp only at this; omega)).trans k3, k4⟩, h.ts.wd, h.ts.kd⟩
  eq := h.eq
  ot := h.ot.move fun b hb' => hg.block b (h.ot.lt hb').2 (fun e => by cases e; have := ht _ hb'; omega)
  dj := h.dj
  bl := h.bl.grown hg h.bl.size (fun k e => by cases e; omega)
  sz := Nat.le_trans h.sz hg.size

theorem OI.typed9 {w : World} {B : Nat} {v : Value} {l : List Int} (h : OI w B v l) {b : Nat} (hb : v.ownBlock = some b) : ∃ cur, w.heap[b]? = some (.cells cur 2 (0, 0)) := by
  rcases h.2 with ⟨rfl, -⟩ | ⟨g, cap, cur, rfl, hg, hh, -⟩
  · cases hb
  · cases hb; exact ⟨_, hh⟩
/-- One node more. -/
theorem ShM.push {w wr wt w5 : World} {b0 N : Nat} {v v' tv : Value} {l : List Tg} {st1 : List Tc} {to : List Int} {y : Tg} (h : ShM w wr b0 v tv l (st1, to)) (hb : Below wr.heap.size wr wt) (hg : wt.grownBy w5 v.ownBlock) (ho : OT w5 (b0 + 2) v' (l ++ [y])) (hy : Nw wt N y.wa y.ct.ws) (hk : Ni wt N y.ka y.ct.ks) (hN : ∀ x ∈ l, (∀ p, x.wa = some p → p.block < N) ∧ ∀ p, x.ka = some p → p.block < N) (ht : ∀ b, tv.ownBlock = some b → b < N) (hB : b0 + 2 ≤ N) (hw : w.heap.size ≤ b0) : ShM w (w5.setCell ⟨b0 + 1, 0, none⟩ v') b0 v' tv (l ++ [y]) (st1 ++ [y.ct], to) := by
  have h1 := h.later hb
  have hts := h.ts.app hb hB hN hy hk hg ho
  have hbo : Bz w5 (b0 + 1) #[v] 28 := (hg.block (b0 + 1) h1.bo.lt (fun e => by have := (h1.ts.row.lt e.symm).1; omega)).trans h1.bo
  have hbr : Bz w5 b0 #[Value.slice none 0 0] 28 := (hg.block b0 h1.br.lt (fun e => by have := (h1.ts.row.lt e.symm).1; omega)).trans h1.br
  refine ⟨hbr.other (by omega) 0 _, hbo.set 0 _, ⟨hts.row.move fun b hb' => heap_setCell_other _ _ _ _ (fun e => by have := (hts.row.lt hb').1; simp only [] at e; omega), fun x hx => nw_set (hts.wn x hx) hbo (by decide) 0 _, fun x hx => ni_set (hts.kn x hx) hbo (by decide) 0 _, hts.wd, hts.kd⟩, ?_, ?_, ?_, ?_, ?_⟩
  · have h9 := h.eq
    simp only [] at h9 ⊢
    rw [List.map_append, h9]
    rfl
  · refine OI.move (w := w5) ?_ fun b hb' => heap_setCell_other _ _ _ _ (fun e => ?_)
    · refine h1.ot.move fun b hb' => hg.block b (h1.ot.lt hb').2 (fun e => ?_)
      obtain ⟨c1, k1⟩ := h1.ot.typed9 hb'
      obtain ⟨c2, k2⟩ := h1.ts.row.typed e.symm
      rw [k1] at k2
      cases k2
    · have := (h1.ot.lt hb').1
      simp only [] at e
      omega
  · intro x hx p hp e
    rcases List.mem_append.1 hx with hx | hx
    · exact h.dj x hx p hp e
    · simp at hx
      subst hx
      have h8 := (ni_lt hk hp).1
      have := ht _ e
      omega
  · exact (h1.bl.grown hg h1.bl.size (fun k e => by have := (h1.ts.row.lt e).1; omega)).setCell (by simp only []; omega) _
  · have := Nat.le_trans h1.sz hg.size
    simpa using this
/-- Where one more went. -/
theorem ShM.told {w wr wt w5 : World} {b0 g m c : Nat} {v tv : Value} {l : List Tg} {st1 : List Tc} {to : List Int} {y : Int} (h : ShM w wr b0 v tv l (st1, to)) (hb : Below wr.heap.size wr wt) (hg : wt.grownBy w5 tv.ownBlock) (ho : OI w5 (b0 + 2) (.slice (some ⟨g, 0, none⟩) m c) (to ++ [y])) (hat : tv.ownBlock = some g ∨ g = wt.heap.size) (hw : w.heap.size ≤ b0) : ShM w w5 b0 v (.slice (some ⟨g, 0, none⟩) m c) l (st1, to ++ [y]) := by
  have h1 := h.later hb
  refine ⟨(hg.block b0 h1.br.lt (fun e => by have := (h1.ot.lt e.symm).1; omega)).trans h1.br, (hg.block (b0 + 1) h1.bo.lt (fun e => by have := (h1.ot.lt e.symm).1; omega)).trans h1.bo, ⟨h1.ts.row.move fun b hb' => hg.block b (h1.ts.row.lt hb').2 (fun e => ?_), fun x hx => (h1.ts.wn x hx).kept fun k cur hc => hg.block k (lt_of_block hc) (fun e => ?_), fun x hx => ?_, h.ts.wd, h.ts.kd⟩, h.eq, ho, fun x hx p hp e => ?_, h1.bl.grown hg h1.bl.size (fun k e => by have := (h1.ot.lt e).1; omega), Nat.le_trans h1.sz hg.size⟩
  · obtain ⟨c1, k1⟩ := h1.ts.row.typed hb'
    obtain ⟨c2, k2⟩ := h1.ot.typed9 e.symm
    rw [k1] at k2
    cases k2
  · obtain ⟨c2, k2⟩ := h1.ot.typed9 e.symm
    rw [hc] at k2
    cases k2
  · rcases h1.ts.kn x hx with ⟨k1, k2⟩ | ⟨g', cur, k1, k2, k3, k4⟩
    · refine .inl ⟨k1, fun z e => ?_⟩
      obtain ⟨q1, q2, cur, q3⟩ := k2 z e
      exact ⟨q1, q2, cur, (hg.block _ (lt_of_block q3) (fun e' => h.dj x hx z e e'.symm)).trans q3⟩
    · exact .inr ⟨g', cur, k1, k2, (hg.block _ (lt_of_block k3) (fun e' => h.dj x hx _ k1 e'.symm)).trans k3, k4⟩
  · simp only [Value.ownBlock] at e
    have e9 : g = p.block := by simpa using e
    rcases hat with h8 | h8
    · exact h.dj x hx p hp (by rw [h8, e9])
    · have := (ni_lt (h1.ts.kn x hx) hp).2
      omega

theorem Ni.put {w : World} {lo g j : Nat} {xs : List Int} (h : Ni w lo (some ⟨g, 0, none⟩) xs) (hj : j < xs.length) (y : Int) : Ni (w.setCell ⟨g, j, none⟩ (.int .i64 y)) lo (some ⟨g, 0, none⟩) (xs.set j y) := by
  rcases h with ⟨h1, -⟩ | ⟨g', cur, h1, h2, h3, h4⟩
  · rw [h1] at hj; simp at hj
  · cases h1
    refine .inr ⟨g, cur.setIfInBounds j (.int .i64 y), rfl, h2, heap_setCell_same w g j _ _ _ h3, fun i hi => ?_⟩
    simp at hi
    have hjc := (Array.getElem?_eq_some_iff.1 (h4 j hj)).1
    by_cases e : i = j
    · subst e
      rw [Array.getElem?_setIfInBounds_self_of_lt hjc]
      simp [List.getD, hi]
    · rw [Array.getElem?_setIfInBounds_ne (fun h => e h.symm), h4 i hi]
      simp [List.getD, List.getElem?_set, Ne.symm e]
theorem Ni.cell {w : World} {lo g j : Nat} {xs : List Int} (h : Ni w lo (some ⟨g, 0, none⟩) xs) (hj : j < xs.length) : w.cell? ⟨g, j, none⟩ = some (.int .i64 (xs.getD j 0)) ∧ w.frozen? ⟨g, j, none⟩ = false := by
  rcases h with ⟨h1, -⟩ | ⟨g', cur, h1, h2, h3, h4⟩
  · rw [h1] at hj; simp at hj
  · cases h1
    exact ⟨by rw [cell_of_row w g j _ _ _ h3]; exact h4 j hj, frozen_of_row w g j _ _ h3⟩

/-- The kids when the first j are where they went. -/
def mvK (to ks : List Int) (j : Nat) : List Int := (ks.take j).map (fun k => to.getD k.toNat 0) ++ ks.drop j
theorem mvK_len (to ks : List Int) (j : Nat) : (mvK to ks j).length = ks.length := by simp [mvK]; omega
theorem mvK_get (to ks : List Int) {j i : Nat} (h : j ≤ i) : (mvK to ks j).getD i 0 = ks.getD i 0 := by
  simp only [mvK, List.getD_eq_getElem?_getD]
  by_cases hj : j ≤ ks.length
  · rw [List.getElem?_append_right (by simp; omega), List.getElem?_drop]
    simp
    rw [Nat.min_eq_left hj, show j + (i - j) = i by omega]
  · rw [List.getElem?_eq_none (by simp; omega), List.getElem?_eq_none (by omega)]
theorem mvK_step (to ks : List Int) {j : Nat} (h : j < ks.length) : (mvK to ks j).set j (to.getD (ks.getD j 0).toNat 0) = mvK to ks (j + 1) := by
  have e : ks.getD j 0 = ks[j] := by simp [List.getD, h]
  have e1 : ks.drop j = ks[j] :: ks.drop (j + 1) := List.drop_eq_getElem_cons h
  have e2 : ks.take (j + 1) = ks.take j ++ [ks[j]] := by rw [List.take_add_one, List.getElem?_eq_getElem h]; rfl
  rw [e]
  simp only [mvK]
  rw [e1, e2, List.map_append, List.set_append_right _ _ (by simp; omega)]
  simp [Nat.min_eq_left (Nat.le_of_lt h)]
  rw [e1]
  rfl
theorem mvK_all (to ks : List Int) : mvK to ks ks.length = ks.map fun k => to.getD k.toNat 0 := by simp [mvK]

set_option maxHeartbeats 4000000 in
set_option maxRecDepth 100000 in
theorem l3Share_any (a : Option Addr) (c n : Nat) (xs : List Tg) (w : World) (hr : RdT w a xs) (hn : xs.length = n) (hs : Sn xs) (hk : ∀ (k : Nat) (n : Tc), (xs.map Tg.ct)[k]? = some n → ∀ j ∈ n.ks, 0 ≤ j ∧ j < (k : Int)) (hn4 : n ≤ 10000) :
    Calls Try.prog 22 #[.slice a n c] w (RetSh (xs.map Tg.ct) w) := by
  have HR := kide hr
  have HN := kide hn
  have HS := kide hs
  have HK := kide hk
  have HF := kide (fun k (hk' : k ≤ (xs.map Tg.ct).length) => shTo_f hk k hk')
  have HOK := kide hr.ok
  obtain ⟨ns, hns⟩ : ∃ ns, xs.map Tg.ct = ns := ⟨_, rfl⟩
  rw [hns] at HK HF HOK ⊢
  have HNS := kide hns
  have HNL : Hid (ns.length = n) := by show _ = _; rw [← hns, List.length_map]; exact hn
  have hb2 : Below w.heap.size w ((w.alloc (Obj.cells #[Value.slice none 0 0] 28)).alloc (Obj.cells #[Value.slice none 0 0] 28)) := ((Below.refl _ _).alloc (Nat.le_refl _) _).alloc (by simp) _
  have XR0 := kide (Bz.later (Bz.new w #[Value.slice none 0 0] 28) ((Below.refl _ _).alloc (Nat.le_refl _) (Obj.cells #[Value.slice none 0 0] 28)))
  have XO0 : Hid (Bz ((w.alloc (Obj.cells #[Value.slice none 0 0] 28)).alloc (Obj.cells #[Value.slice none 0 0] 28)) (w.heap.size + 1) #[Value.slice none 0 0] 28) := by
    have h9 := Bz.new (w.alloc (Obj.cells #[Value.slice none 0 0] 28)) #[Value.slice none 0 0] 28
    rw [show (w.alloc (Obj.cells #[Value.slice none 0 0] 28)).heap.size = w.heap.size + 1 by simp] at h9
    exact h9
  have hsz : ((w.alloc (Obj.cells #[Value.slice none 0 0] 28)).alloc (Obj.cells #[Value.slice none 0 0] 28)).heap.size = w.heap.size + 1 + 1 := by simp
  have OE := OI.empty ((w.alloc (Obj.cells #[Value.slice none 0 0] 28)).alloc (Obj.cells #[Value.slice none 0 0] 28)) (w.heap.size + 2) (by omega)
  rw [hsz] at OE
  have hb3 : Below ((w.alloc (Obj.cells #[Value.slice none 0 0] 28)).alloc (Obj.cells #[Value.slice none 0 0] 28)).heap.size ((w.alloc (Obj.cells #[Value.slice none 0 0] 28)).alloc (Obj.cells #[Value.slice none 0 0] 28)) (((w.alloc (Obj.cells #[Value.slice none 0 0] 28)).alloc (Obj.cells #[Value.slice none 0 0] 28)).alloc (Obj.cells #[] 2)) := (Below.refl _ _).alloc (Nat.le_refl _) _
  have M0 : Hid (ShM w (((w.alloc (Obj.cells #[Value.slice none 0 0] 28)).alloc (Obj.cells #[Value.slice none 0 0] 28)).alloc (Obj.cells #[] 2)) w.heap.size (.slice none 0 0) (.slice (some ⟨w.heap.size + 1 + 1, 0, none⟩) 0 0) [] (shTo ns 0)) :=
    ⟨XR0.out.later hb3, XO0.out.later hb3, Ts.nil _ _, rfl, OE, by simp, hb2.trans (hb3.mono hb2.size), by simp⟩
  clear hr hn hs hk hns XR0 XO0 hsz OE hb2 hb3
  go_enter Try.func22, Try.ntmps22
  go_wp2_with fail
  generalize ((w.alloc (Obj.cells #[Value.slice none 0 0] 28)).alloc (Obj.cells #[Value.slice none 0 0] 28)).alloc (Obj.cells #[] 2) = W at *
  obtain ⟨b0, hb0⟩ : ∃ b0, w.heap.size = b0 := ⟨_, rfl⟩
  rw [hb0] at M0
  simp only [hb0]
  have HB0 := kide hb0
  clear hb0
  go_loopw [5, 6] (fun tv i wr => ∃ (k : Nat) (v : Value) (l : List Tg), k ≤ n ∧ i = .int .i64 (k : Int) ∧ ShM w wr b0 v tv l (shTo ns k)) (fun _ i _ => n - (intOf i).toNat)
  case atStart => exact ⟨0, _, [], Nat.zero_le _, rfl, M0.out⟩
  case round =>
    clear M0
    obtain ⟨k, v, l, hk, rfl, hm⟩ := hrel
    have HM := kide hm
    by_cases hlt : k < n
    · obtain ⟨x, gx⟩ : ∃ x, xs[k]? = some x := ⟨xs[k]'(by rw [HN.out]; exact hlt), List.getElem?_eq_getElem _⟩
      have gn : ns[k]? = some x.ct := by rw [← HNS.out]; simp [gx]
      obtain ⟨bq, oq, rfl, hcq⟩ : ∃ b o, a = some ⟨b, o, none⟩ ∧ ∀ i y, xs[i]? = some y → TgAt w b (o + i * 7) y := by
        rcases HR.out.2 with h0 | h0
        · rw [h0] at gx; simp at gx
        · exact h0
      obtain ⟨⟨p0, p1, p2, p3, p4, p5, p6⟩, pw, pk, -⟩ := (hcq k x gx).later hm.bl
      simp only [Tg.hd] at p0 p1 p2 p3 p4 p5 p6
      obtain ⟨sw, sk⟩ := HS.out x (List.mem_of_getElem? gx)
      have HC := kide (l3CopyNode_any x.ct x.wa x.ka x.wc x.kc wr pw pk sw sk)
      have HST := kide (shTo_succ gn)
      have HFK := kide (HF.out k (by rw [HNL.out]; exact hk))
      have HKK := kide (HK.out k _ gn)
      have HOX := kide (HOK.out _ (List.mem_of_getElem? gn))
      have i0 : (k : Int) < (n : Int) := by omega
      generalize shTo ns k = st at *
      obtain ⟨st1, to⟩ := st
      clear gx gn hcq pw pk sw sk hm
      generalize x.ct = nd at *
      go_wp2_with fail
      refine Calls.mono HC.out ?_
      rintro e w2 ⟨a1, c1, a2, c2, rfl, hnw, hni, hb2⟩
      obtain ⟨N, hN⟩ : ∃ N, wr.heap.size = N := ⟨_, rfl⟩
      rw [hN] at hnw hni
      have HLB := kide HM.out.ts.below
      have HTB : Hid (∀ b, u5.ownBlock = some b → b < N) := fun b hb => by have := (HM.out.ot.lt hb).2; omega
      have HVB : Hid (∀ b, v.ownBlock = some b → b < N) := fun b hb => by have := (HM.out.ts.row.lt hb).2; omega
      rw [hN] at HLB
      have HBN : Hid (b0 + 2 ≤ N) := by have := HM.out.sz; show _ ≤ _; omega
      have M2 := kide (HM.out.later hb2)
      have hb3 : Below w2.heap.size w2 (w2.alloc (Obj.cells #[Value.int .i64 nd.op, Value.int .i64 nd.vr, Value.int .i64 nd.a, Value.int .i64 nd.b, Value.int .i64 nd.bw, Value.slice a1 nd.ws.length c1, Value.slice a2 nd.ks.length c2] 57)) := (Below.refl _ _).alloc (Nat.le_refl _) _
      have X3 := kide (Bz.new w2 #[Value.int .i64 nd.op, Value.int .i64 nd.vr, Value.int .i64 nd.a, Value.int .i64 nd.b, Value.int .i64 nd.bw, Value.slice a1 nd.ws.length c1, Value.slice a2 nd.ks.length c2] 57)
      have M3 := kide (M2.out.later hb3)
      have NW3 := kide (hnw.later hb3)
      have NI3 := kide (hni.later hb3)
      have HN2 : Hid (N ≤ w2.heap.size) := by have := hb2.size; show _ ≤ _; omega
      clear hb2 hb3 hnw hni HM M2 p0 p1 p2 p3 p4 p5 p6 HC hN
      go_wp2_with fail
      generalize w2.alloc (Obj.cells #[Value.int .i64 nd.op, Value.int .i64 nd.vr, Value.int .i64 nd.a, Value.int .i64 nd.b, Value.int .i64 nd.bw, Value.slice a1 nd.ws.length c1, Value.slice a2 nd.ks.length c2] 57) = w3 at *
      generalize w2.heap.size = ν at *
      obtain ⟨nk, hnk⟩ : ∃ nk, nd.ks.length = nk := ⟨_, rfl⟩
      rw [hnk] at X3
      simp only [hnk]
      have HNK := kide hnk
      have hnk2 : nk ≤ 1048576 := by rw [← hnk]; exact HOX.out.2.2.2.2.2.2.2.1
      obtain ⟨nw, hnw⟩ : ∃ nw, nd.ws.length = nw := ⟨_, rfl⟩
      rw [hnw] at X3
      simp only [hnw]
      have HNW := kide hnw
      have HTO := kide HFK.out.l2
      simp only [] at HTO
      clear hnk hnw
      go_loopw [8] (fun i wr => ∃ j : Nat, j ≤ nk ∧ i = .int .i64 (j : Int) ∧ ShM w wr b0 v u5 l (st1, to) ∧ Bz wr ν #[Value.int .i64 nd.op, Value.int .i64 nd.vr, Value.int .i64 nd.a, Value.int .i64 nd.b, Value.int .i64 nd.bw, Value.slice a1 nw c1, Value.slice a2 nk c2] 57 ∧ Nw wr N a1 nd.ws ∧ Ni wr N a2 (mvK to nd.ks j)) (fun i _ => nk - (intOf i).toNat)
      case atStart => exact ⟨0, Nat.zero_le _, rfl, M3.out, X3.out, NW3.out, by simpa [mvK] using NI3.out⟩
      case round =>
        clear M3 X3 NW3 NI3
        obtain ⟨j, hj, rfl, hm, hx, hw1, hi1⟩ := hrel
        have HM := kide hm
        have HX := kide hx
        have HW1 := kide hw1
        have HI1 := kide hi1
        have z6 := hx.cell 6
        simp at z6
        clear hm hx hw1 hi1
        by_cases hjk : j < nk
        · have hjl : j < nd.ks.length := by rw [HNK.out]; exact hjk
          obtain ⟨g, hg2, hNg⟩ : ∃ g, a2 = some ⟨g, 0, none⟩ ∧ N ≤ g := by
            rcases HI1.out with ⟨h1, -⟩ | ⟨g, cur, h1, h2, -⟩
            · have h9 := congrArg List.length h1; rw [mvK_len, List.length_nil] at h9; omega
            · exact ⟨g, h1, h2⟩
          subst hg2
          obtain ⟨q0, q1⟩ := HI1.out.cell (j := j) (by rw [mvK_len]; exact hjl)
          rw [mvK_get to nd.ks (Nat.le_refl j)] at q0
          have HPUT := kide (fun y => HI1.out.put (j := j) (by rw [mvK_len]; exact hjl) y)
          have HSTP := kide (mvK_step to nd.ks hjl)
          have hkid := HKK.out (nd.ks.getD j 0) (by
            have e : nd.ks.getD j 0 = nd.ks[j] := by simp [List.getD, hjl]
            rw [e]; exact List.getElem_mem _)
          generalize nd.ks.getD j 0 = kj at *
          obtain ⟨hk0, hk1⟩ := hkid
          obtain ⟨kn, rfl⟩ := Int.eq_ofNat_of_zero_le hk0
          obtain ⟨ta, tc, rfl, hnt⟩ := HM.out.ot.ni
          simp only [] at hnt
          obtain ⟨gt, rfl⟩ : ∃ gt, ta = some ⟨gt, 0, none⟩ := by
            rcases hnt with ⟨h1, -⟩ | ⟨g', cur, h1, -⟩
            · have := HTO.out; rw [h1] at this; simp at this; omega
            · exact ⟨g', h1⟩
          obtain ⟨t0, -⟩ := hnt.cell (j := kn) (by rw [HTO.out]; omega)
          obtain ⟨y, hy⟩ : ∃ y, to.getD kn 0 = y := ⟨_, rfl⟩
          rw [hy] at t0
          rw [Int.toNat_natCast, hy] at HSTP
          have HP := kide (HPUT.out y)
          rw [HSTP.out] at HP
          have i1 : (j : Int) < (nk : Int) := by omega
          have i2 : (kn : Int) < (to.length : Int) := by rw [HTO.out]; exact hk1
          simp only []
          clear hnt hy HPUT HSTP hk0
          obtain ⟨cur, hgz⟩ : ∃ cur, Bz wr g cur 2 := by
            rcases HI1.out with ⟨h1, -⟩ | ⟨g', cur, h1, h2, h3, -⟩
            · have h9 := congrArg List.length h1; rw [mvK_len, List.length_nil] at h9; omega
            · cases h1; exact ⟨cur, h3⟩
          have hne : ν ≠ g := by
            rintro rfl
            have h9 := HX.out
            unfold Bz at h9 hgz
            rw [hgz] at h9
            cases h9
          have hg9 := grow_setT (World.grownBy.refl wr (some g)) j (.int .i64 y)
          have HM4 := kide ((HM.out.out hg9 hNg HLB.out HTB.out HVB.out HBN.out (by have := HB0.out; omega)).later ((Below.refl _ _).drew : Below (wr.setCell ⟨g, j, none⟩ (.int .i64 y)).heap.size (wr.setCell ⟨g, j, none⟩ (.int .i64 y)) (wr.setCell ⟨g, j, none⟩ (.int .i64 y)).drew))
          have HX4 := kide ((HX.out.other hne j (.int .i64 y)).later ((Below.refl _ _).drew : Below (wr.setCell ⟨g, j, none⟩ (.int .i64 y)).heap.size (wr.setCell ⟨g, j, none⟩ (.int .i64 y)) (wr.setCell ⟨g, j, none⟩ (.int .i64 y)).drew))
          have HW4 := kide ((nw_set HW1.out hgz (by decide) j (.int .i64 y)).later ((Below.refl _ _).drew : Below (wr.setCell ⟨g, j, none⟩ (.int .i64 y)).heap.size (wr.setCell ⟨g, j, none⟩ (.int .i64 y)) (wr.setCell ⟨g, j, none⟩ (.int .i64 y)).drew))
          have HI4 := kide (HP.out.later ((Below.refl _ _).drew : Below (wr.setCell ⟨g, j, none⟩ (.int .i64 y)).heap.size (wr.setCell ⟨g, j, none⟩ (.int .i64 y)) (wr.setCell ⟨g, j, none⟩ (.int .i64 y)).drew))
          clear hg9 hgz hne
          go_wp2_with fail
          go_region
          go_wp2
          exact ⟨⟨j + 1, by omega, by go_num, HM4.out, HX4.out, HW4.out, HI4.out⟩, by simp [intOf]; omega⟩
        · have hjn : j = nd.ks.length := by rw [HNK.out]; omega
          rw [hjn, mvK_all] at HI1
          have HMV : Hid (mvT to nd = ⟨nd.op, nd.vr, nd.a, nd.b, nd.bw, nd.ws, nd.ks.map fun k => to.getD k.toNat 0⟩) := rfl
          obtain ⟨ks2, hks2⟩ : ∃ ks2, (nd.ks.map fun k => to.getD k.toNat 0) = ks2 := ⟨_, rfl⟩
          rw [hks2] at HI1 HMV
          have HK2 : Hid (ks2.length = nk) := by show _ = _; rw [← hks2, List.length_map, HNK.out]
          have HKR : Hid (∀ j ∈ ks2, 0 ≤ j ∧ j < (st1.length : Int)) := fun j hj => by
            rw [← hks2] at hj
            obtain ⟨q, hq, rfl⟩ := List.mem_map.1 hj
            obtain ⟨q0, q1⟩ := HKK.out q hq
            have hl := HTO.out
            have e1 : to.getD q.toNat 0 = to[q.toNat]'(by omega) := by
              rw [List.getD_eq_getElem?_getD, List.getElem?_eq_getElem (show q.toNat < to.length by omega)]
              rfl
            rw [e1]
            exact HFK.out.rg _ (List.getElem_mem _)
          clear hks2 hjn
          obtain ⟨md, hmd⟩ : ∃ md, mvT to nd = md := ⟨_, rfl⟩
          have HMD := kide hmd
          rw [hmd] at HMV
          have HL1 : Hid (st1.length ≤ k) := HFK.out.l1
          have HOS : Hid (∀ y ∈ st1, okT y) := fun y hy => fm_ok (HFK.out.fm y hy) HOK.out (N := st1.length) (by have := HL1.out; omega) (HFK.out.ks y hy)
          have HLL : Hid (l.length = st1.length) := by
            show _ = _
            have h9 := congrArg List.length HM.out.eq
            simpa using h9
          obtain ⟨va, vc, rfl⟩ := HM.out.ts.form
          have hLk : l.length ≤ 10000 := by have := HLL.out; have := HL1.out; omega
          have zo := HM.out.bo.cell 0
          simp at zo
          obtain ⟨ln, hln⟩ : ∃ ln, l.length = ln := ⟨_, rfl⟩
          rw [hln] at HM zo hLk
          have HLN := kide hln
          clear hln hmd
          go_wp2_with fail
          clear z6 zo hjk hj
          go_loopw [9, 10] (fun av i wr => ∃ q : Nat, q ≤ ln ∧ i = .int .i64 (q : Int) ∧ ShM w wr b0 (.slice va ln vc) u5 l (st1, to) ∧ Bz wr ν #[Value.int .i64 nd.op, Value.int .i64 nd.vr, Value.int .i64 nd.a, Value.int .i64 nd.b, Value.int .i64 nd.bw, Value.slice a1 nw c1, Value.slice a2 nk c2] 57 ∧ Nw wr N a1 nd.ws ∧ Ni wr N a2 ks2 ∧ ((av = .int .i64 (-1) ∧ ∀ j, j < q → st1[j]? ≠ some md) ∨ (∃ f : Nat, av = .int .i64 (f : Int) ∧ f + 1 = q ∧ fndT st1 md = some f))) (fun _ i _ => ln - (intOf i).toNat)
          case atStart => exact ⟨0, Nat.zero_le _, rfl, HM.out, HX.out, HW1.out, HI1.out, .inl ⟨rfl, fun j h => by omega⟩⟩
          case round =>
            clear HM HX HW1 HI1
            obtain ⟨q, hq, rfl, hm, hx, hw1, hi1, hdis⟩ := hrel
            have HM := kide hm
            have HX := kide hx
            have HW1 := kide hw1
            have HI1 := kide hi1
            have zo := hm.bo.cell 0
            simp at zo
            clear hm hx hw1 hi1
            rcases hdis with ⟨rfl, hno⟩ | ⟨f, rfl, hfq, hff⟩
            · have HNO := kide hno
              clear hno
              by_cases hql : q < ln
              · obtain ⟨y, gy⟩ : ∃ y, l[q]? = some y := ⟨l[q]'(by rw [HLN.out]; exact hql), List.getElem?_eq_getElem _⟩
                have gs : st1[q]? = some y.ct := by
                  have h9 := HM.out.eq
                  simp only [] at h9
                  rw [← h9]
                  simp [gy]
                obtain ⟨gv, cv, ev, y0, y1, y2, y3, y4, y5, y6⟩ := HM.out.ts.row.at gy
                injection ev with ev1 ev2 ev3
                subst ev1
                clear ev2 ev3
                simp only [Tg.hd] at y0 y1 y2 y3 y4 y5 y6
                have n0 := HX.out.cell 0
                have n1 := HX.out.cell 1
                have n2 := HX.out.cell 2
                have n3 := HX.out.cell 3
                have n4 := HX.out.cell 4
                have n5 := HX.out.cell 5
                have n6 := HX.out.cell 6
                simp at n0 n1 n2 n3 n4 n5 n6
                have hym := List.mem_of_getElem? gy
                obtain ⟨-, -, -, -, -, o1, o2, o3, o4⟩ := HOS.out y.ct (List.mem_of_getElem? gs)
                obtain ⟨-, -, -, -, -, m1, m2, m3, m4⟩ := HOX.out
                have HSN : Hid (∀ u, Below wr.heap.size wr u → Calls Try.prog 42 #[.agg #[Value.int .i64 y.ct.op, Value.int .i64 y.ct.vr, Value.int .i64 y.ct.a, Value.int .i64 y.ct.b, Value.int .i64 y.ct.bw, Value.slice y.wa y.ct.ws.length y.wc, Value.slice y.ka y.ct.ks.length y.kc], .agg #[Value.int .i64 nd.op, Value.int .i64 nd.vr, Value.int .i64 nd.a, Value.int .i64 nd.b, Value.int .i64 nd.bw, Value.slice a1 nw c1, Value.slice a2 nk c2]] u fun e w' => e = .returned (.bool (tcEq y.ct md)) ∧ Below u.heap.size u w') := fun u hu => by
                  have hSN := l3SameNode_any y.ct ⟨nd.op, nd.vr, nd.a, nd.b, nd.bw, nd.ws, ks2⟩ y.wa a1 y.ka a2 y.wc c1 y.kc c2 u (((HM.out.ts.wn y hym).later hu).rd o1 o2) ((HW1.out.later hu).rd m1 m2) (((HM.out.ts.kn y hym).later hu).rd o3 o4) ((HI1.out.later hu).rd (by rw [HK2.out]; exact hnk2) (fun j hj => by have h8 := HKR.out j hj; have := HL1.out; exact ⟨by omega, by omega⟩))
                  simp only [HNW.out, HK2.out] at hSN
                  rw [← HMV.out] at hSN
                  exact hSN
                have i4 : (q : Int) < (ln : Int) := by omega
                have GS := kide gs
                have lo1 := block_lt_of_cell zo
                have lg4 := block_lt_of_cell y0
                have ln0 := block_lt_of_cell n0
                simp only [] at lo1 lg4 ln0
                clear gy gs hym o1 o2 o3 o4 m1 m2 m3 m4
                obtain ⟨y9, ywa, ywc, yka, ykc⟩ := y
                obtain ⟨yop, yvr, yaa, ybb, ybw, yws, yks⟩ := y9
                simp only [] at HSN y0 y1 y2 y3 y4 y5 y6 GS
                cases hEq : tcEq ⟨yop, yvr, yaa, ybb, ybw, yws, yks⟩ md with
                | true =>
                  rw [hEq] at HSN
                  have HFN := kide (fndT_of (by rw [← tcEq_iff.1 hEq]; exact GS.out) HNO.out)
                  clear hEq
                  go_wp2_with fail
                  refine wp_region_x (SA := fun _ => False) (SB := fun uu => Below wr.heap.size wr uu) (k := 999) (by kernel_rfl) ?_
                  have hm0 : Hid (Below wr.heap.size wr wr.drew) := (Below.refl _ _).drew
                  generalize wr.drew = m0 at *
                  try go_simp
                  refine wpAnyX_both (T := fun uu => Below wr.heap.size wr uu) (i := 0) (v := Value.pointer (some ⟨b0 + 1, 0, none⟩)) rfl (by kernel_rfl) (by kernel_rfl) (by kernel_rfl) (fun _ _ _ h => by first | exact h | exact h.elim) (by decide) (fun _ h => h.elim) (fun _ h => h) (Sx.behind (by kernel_rfl) hm0.out) (Or.inl ⟨by rfl, fun uu hu => by go_simp⟩) ?_
                  try go_simp
                  refine wpAnyX_both (T := fun uu => Below wr.heap.size wr uu) (i := 1) (v := Value.slice (some ⟨gv, 0, none⟩) ln vc) rfl (by kernel_rfl) (by kernel_rfl) (by kernel_rfl) (fun _ _ _ h => by first | exact h | exact h.elim) (by decide) (fun _ h => h.elim) (fun _ h => h) (Sx.behind (by kernel_rfl) hm0.out) (Or.inl ⟨by rfl, fun uu hu => by have e0 := (kcell hu (b0 + 1) 0 lo1).trans zo; go_simp⟩) ?_
                  try go_simp
                  refine wpAnyX_both (T := fun uu => Below wr.heap.size wr uu) (i := 2) (v := Value.int .i64 (q : Int)) rfl (by kernel_rfl) (by kernel_rfl) (by kernel_rfl) (fun _ _ _ h => by first | exact h | exact h.elim) (by decide) (fun _ h => h.elim) (fun _ h => h) (Sx.behind (by kernel_rfl) hm0.out) (Or.inl ⟨by rfl, fun uu hu => by go_simp⟩) ?_
                  try go_simp
                  refine wpAnyX_both (T := fun uu => Below wr.heap.size wr uu) (i := 3) (v := Value.pointer (some ⟨gv, q * 7, none⟩)) rfl (by kernel_rfl) (by kernel_rfl) (by kernel_rfl) (fun _ _ _ h => by first | exact h | exact h.elim) (by decide) (fun _ h => h.elim) (fun _ h => h) (Sx.behind (by kernel_rfl) hm0.out) (Or.inl ⟨by rfl, fun uu hu => by go_simp⟩) ?_
                  try go_simp
                  refine wpAnyX_both (T := fun uu => Below wr.heap.size wr uu) (i := 4) (v := Value.agg #[Value.int .i64 yop, Value.int .i64 yvr, Value.int .i64 yaa, Value.int .i64 ybb, Value.int .i64 ybw, Value.slice ywa yws.length ywc, Value.slice yka yks.length ykc]) rfl (by kernel_rfl) (by kernel_rfl) (by kernel_rfl) (fun _ _ _ h => by first | exact h | exact h.elim) (by decide) (fun _ h => h.elim) (fun _ h => h) (Sx.behind (by kernel_rfl) hm0.out) (Or.inl ⟨by rfl, fun uu hu => by have e0 := (kcell hu gv (q * 7) lg4).trans y0; have e1 := (kcell hu gv (q * 7 + 1) lg4).trans y1; have e2 := (kcell hu gv (q * 7 + 2) lg4).trans y2; have e3 := (kcell hu gv (q * 7 + 3) lg4).trans y3; have e4 := (kcell hu gv (q * 7 + 4) lg4).trans y4; have e5 := (kcell hu gv (q * 7 + 5) lg4).trans y5; have e6 := (kcell hu gv (q * 7 + 6) lg4).trans y6; go_simp⟩) ?_
                  try go_simp
                  refine wpAnyX_both (T := fun uu => Below wr.heap.size wr uu) (i := 5) (v := Value.agg #[Value.int .i64 nd.op, Value.int .i64 nd.vr, Value.int .i64 nd.a, Value.int .i64 nd.b, Value.int .i64 nd.bw, Value.slice a1 nw c1, Value.slice a2 nk c2]) rfl (by kernel_rfl) (by kernel_rfl) (by kernel_rfl) (fun _ _ _ h => by first | exact h | exact h.elim) (by decide) (fun _ h => h.elim) (fun _ h => h) (Sx.behind (by kernel_rfl) hm0.out) (Or.inl ⟨by rfl, fun uu hu => by have e0 := (kcell hu ν 0 ln0).trans n0; have e1 := (kcell hu ν 1 ln0).trans n1; have e2 := (kcell hu ν 2 ln0).trans n2; have e3 := (kcell hu ν 3 ln0).trans n3; have e4 := (kcell hu ν 4 ln0).trans n4; have e5 := (kcell hu ν 5 ln0).trans n5; have e6 := (kcell hu ν 6 ln0).trans n6; go_simp⟩) ?_
                  try go_simp
                  refine wpAnyX_ready (rs := [6]) (by kernel_rfl) (by simp) (AllX.cons rfl (fun K hK => ?_) AllX.nil)
                  go_simp
                  refine Calls.mono (HSN.out _ hm0.out) ?_
                  rintro e m1 ⟨rfl, hb⟩
                  have hm1 : Hid (Below wr.heap.size wr m1) := hm0.out.trans (hb.mono hm0.out.size)
                  refine hK _ _ (Sx.behind (by kernel_rfl) hm1.out) ?_
                  clear hK K hb
                  try go_simp
                  refine wpAnyX_done (by kernel_rfl) ?_ _
                  skip
                  have HM5 := kide (HM.out.later hm1.out)
                  have HX5 := kide (HX.out.later hm1.out)
                  have HW5 := kide (HW1.out.later hm1.out)
                  have HI5 := kide (HI1.out.later hm1.out)
                  go_wp2_with fail
                  go_roundw
                  case rel => exact ⟨q + 1, by omega, by go_num, HM5.out, HX5.out, HW5.out, HI5.out, .inr ⟨q, rfl, rfl, HFN.out⟩⟩
                  case measure => simp [intOf]; omega
                | false =>
                  rw [hEq] at HSN
                  have HNO2 : Hid (∀ j, j < q + 1 → st1[j]? ≠ some md) := fun j hj => by
                    by_cases e : j = q
                    · subst e
                      rw [GS.out]
                      intro e9
                      cases e9
                      rw [tcEq_iff.2 rfl] at hEq
                      cases hEq
                    · exact HNO.out j (by omega)
                  clear hEq
                  go_wp2_with fail
                  refine wp_region_x (SA := fun _ => False) (SB := fun uu => Below wr.heap.size wr uu) (k := 999) (by kernel_rfl) ?_
                  have hm0 : Hid (Below wr.heap.size wr wr.drew) := (Below.refl _ _).drew
                  generalize wr.drew = m0 at *
                  try go_simp
                  refine wpAnyX_both (T := fun uu => Below wr.heap.size wr uu) (i := 0) (v := Value.pointer (some ⟨b0 + 1, 0, none⟩)) rfl (by kernel_rfl) (by kernel_rfl) (by kernel_rfl) (fun _ _ _ h => by first | exact h | exact h.elim) (by decide) (fun _ h => h.elim) (fun _ h => h) (Sx.behind (by kernel_rfl) hm0.out) (Or.inl ⟨by rfl, fun uu hu => by go_simp⟩) ?_
                  try go_simp
                  refine wpAnyX_both (T := fun uu => Below wr.heap.size wr uu) (i := 1) (v := Value.slice (some ⟨gv, 0, none⟩) ln vc) rfl (by kernel_rfl) (by kernel_rfl) (by kernel_rfl) (fun _ _ _ h => by first | exact h | exact h.elim) (by decide) (fun _ h => h.elim) (fun _ h => h) (Sx.behind (by kernel_rfl) hm0.out) (Or.inl ⟨by rfl, fun uu hu => by have e0 := (kcell hu (b0 + 1) 0 lo1).trans zo; go_simp⟩) ?_
                  try go_simp
                  refine wpAnyX_both (T := fun uu => Below wr.heap.size wr uu) (i := 2) (v := Value.int .i64 (q : Int)) rfl (by kernel_rfl) (by kernel_rfl) (by kernel_rfl) (fun _ _ _ h => by first | exact h | exact h.elim) (by decide) (fun _ h => h.elim) (fun _ h => h) (Sx.behind (by kernel_rfl) hm0.out) (Or.inl ⟨by rfl, fun uu hu => by go_simp⟩) ?_
                  try go_simp
                  refine wpAnyX_both (T := fun uu => Below wr.heap.size wr uu) (i := 3) (v := Value.pointer (some ⟨gv, q * 7, none⟩)) rfl (by kernel_rfl) (by kernel_rfl) (by kernel_rfl) (fun _ _ _ h => by first | exact h | exact h.elim) (by decide) (fun _ h => h.elim) (fun _ h => h) (Sx.behind (by kernel_rfl) hm0.out) (Or.inl ⟨by rfl, fun uu hu => by go_simp⟩) ?_
                  try go_simp
                  refine wpAnyX_both (T := fun uu => Below wr.heap.size wr uu) (i := 4) (v := Value.agg #[Value.int .i64 yop, Value.int .i64 yvr, Value.int .i64 yaa, Value.int .i64 ybb, Value.int .i64 ybw, Value.slice ywa yws.length ywc, Value.slice yka yks.length ykc]) rfl (by kernel_rfl) (by kernel_rfl) (by kernel_rfl) (fun _ _ _ h => by first | exact h | exact h.elim) (by decide) (fun _ h => h.elim) (fun _ h => h) (Sx.behind (by kernel_rfl) hm0.out) (Or.inl ⟨by rfl, fun uu hu => by have e0 := (kcell hu gv (q * 7) lg4).trans y0; have e1 := (kcell hu gv (q * 7 + 1) lg4).trans y1; have e2 := (kcell hu gv (q * 7 + 2) lg4).trans y2; have e3 := (kcell hu gv (q * 7 + 3) lg4).trans y3; have e4 := (kcell hu gv (q * 7 + 4) lg4).trans y4; have e5 := (kcell hu gv (q * 7 + 5) lg4).trans y5; have e6 := (kcell hu gv (q * 7 + 6) lg4).trans y6; go_simp⟩) ?_
                  try go_simp
                  refine wpAnyX_both (T := fun uu => Below wr.heap.size wr uu) (i := 5) (v := Value.agg #[Value.int .i64 nd.op, Value.int .i64 nd.vr, Value.int .i64 nd.a, Value.int .i64 nd.b, Value.int .i64 nd.bw, Value.slice a1 nw c1, Value.slice a2 nk c2]) rfl (by kernel_rfl) (by kernel_rfl) (by kernel_rfl) (fun _ _ _ h => by first | exact h | exact h.elim) (by decide) (fun _ h => h.elim) (fun _ h => h) (Sx.behind (by kernel_rfl) hm0.out) (Or.inl ⟨by rfl, fun uu hu => by have e0 := (kcell hu ν 0 ln0).trans n0; have e1 := (kcell hu ν 1 ln0).trans n1; have e2 := (kcell hu ν 2 ln0).trans n2; have e3 := (kcell hu ν 3 ln0).trans n3; have e4 := (kcell hu ν 4 ln0).trans n4; have e5 := (kcell hu ν 5 ln0).trans n5; have e6 := (kcell hu ν 6 ln0).trans n6; go_simp⟩) ?_
                  try go_simp
                  refine wpAnyX_ready (rs := [6]) (by kernel_rfl) (by simp) (AllX.cons rfl (fun K hK => ?_) AllX.nil)
                  go_simp
                  refine Calls.mono (HSN.out _ hm0.out) ?_
                  rintro e m1 ⟨rfl, hb⟩
                  have hm1 : Hid (Below wr.heap.size wr m1) := hm0.out.trans (hb.mono hm0.out.size)
                  refine hK _ _ (Sx.behind (by kernel_rfl) hm1.out) ?_
                  clear hK K hb
                  try go_simp
                  refine wpAnyX_done (by kernel_rfl) ?_ _
                  skip
                  have HM5 := kide (HM.out.later hm1.out)
                  have HX5 := kide (HX.out.later hm1.out)
                  have HW5 := kide (HW1.out.later hm1.out)
                  have HI5 := kide (HI1.out.later hm1.out)
                  go_wp2_with fail
                  go_roundw
                  case rel => exact ⟨q + 1, by omega, by go_num, HM5.out, HX5.out, HW5.out, HI5.out, .inl ⟨rfl, HNO2.out⟩⟩
                  case measure => simp [intOf]; omega
              · have hqn : q = st1.length := by have := HLL.out; have := HLN.out; omega
                have HNF : Hid (fndT st1 md = none) := fndT_not fun h9 => by
                  obtain ⟨j, hj⟩ := List.mem_iff_getElem?.1 h9
                  exact HNO.out j (by have := (List.getElem?_eq_some_iff.1 hj).1; omega) hj
                have HS2 : Hid (shTo ns (k + 1) = (st1 ++ [md], to ++ [(ln : Int)])) := by
                  show _ = _
                  rw [HST.out]
                  unfold shStep
                  simp only []
                  rw [HMD.out, HNF.out]
                  simp only []
                  rw [← HLL.out, HLN.out]
                have n0 := HX.out.cell 0
                have n1 := HX.out.cell 1
                have n2 := HX.out.cell 2
                have n3 := HX.out.cell 3
                have n4 := HX.out.cell 4
                have n5 := HX.out.cell 5
                have n6 := HX.out.cell 6
                simp at n0 n1 n2 n3 n4 n5 n6
                have zf := HM.out.bo.froz 0
                have hbt : Below wr.heap.size wr (wr.alloc (Obj.cells #[Value.int .i64 nd.op, Value.int .i64 nd.vr, Value.int .i64 nd.a, Value.int .i64 nd.b, Value.int .i64 nd.bw, Value.slice a1 nw c1, Value.slice a2 nk c2] 57)) := (Below.refl _ _).alloc (Nat.le_refl _) _
                have XT := kide (Bz.new wr #[Value.int .i64 nd.op, Value.int .i64 nd.vr, Value.int .i64 nd.a, Value.int .i64 nd.b, Value.int .i64 nd.bw, Value.slice a1 nw c1, Value.slice a2 nk c2] 57)
                have HTA : Hid (ThAt (wr.alloc (Obj.cells #[Value.int .i64 nd.op, Value.int .i64 nd.vr, Value.int .i64 nd.a, Value.int .i64 nd.b, Value.int .i64 nd.bw, Value.slice a1 nw c1, Value.slice a2 nk c2] 57)) wr.heap.size 0 (Tg.hd ⟨⟨nd.op, nd.vr, nd.a, nd.b, nd.bw, nd.ws, ks2⟩, a1, c1, a2, c2⟩)) := by
                  simp only [Tg.hd, ThAt, HNW.out, HK2.out]
                  exact ⟨XT.out.cell 0, XT.out.cell 1, XT.out.cell 2, XT.out.cell 3, XT.out.cell 4, XT.out.cell 5, XT.out.cell 6⟩
                have HBT := kide hbt
                have HOT := kide (HM.out.later hbt).ts.row
                have HWT := kide (HW1.out.later hbt)
                have HIT := kide (HI1.out.later hbt)
                have hszt : b0 + 2 ≤ (wr.alloc (Obj.cells #[Value.int .i64 nd.op, Value.int .i64 nd.vr, Value.int .i64 nd.a, Value.int .i64 nd.b, Value.int .i64 nd.bw, Value.slice a1 nw c1, Value.slice a2 nk c2] 57)).heap.size := (HM.out.later hbt).sz
                clear hqn hbt
                go_wp2_with (at_builtin; refine wpList_appT7 rfl _ _ rfl (b0 + 2) (.slice va ln vc) l ⟨⟨nd.op, nd.vr, nd.a, nd.b, nd.bw, nd.ws, ks2⟩, a1, c1, a2, c2⟩ (by first | rfl | simp [Act.eval]) HOT.out wr.heap.size 1 (by first | rfl | simp [Act.eval]) HTA.out (by rw [HLN.out]; omega) hszt ?_)
                intro g5 cap5 w5 ho5 hg5 hat5
                rw [HLN.out] at ho5 ⊢
                have MP := kide (HM.out.push HBT.out hg5 ho5 HWT.out HIT.out HLB.out HTB.out HBN.out (by have := HB0.out; omega))
                have hbo5 : Bz w5 (b0 + 1) #[Value.slice va ln vc] 28 := (hg5.block (b0 + 1) (HM.out.later HBT.out).bo.lt (fun e => by have := (HOT.out.lt e.symm).1; omega)).trans (HM.out.later HBT.out).bo
                have e5 := hbo5.cell 0
                have f5 := hbo5.froz 0
                simp at e5
                have hb6 : Below (w5.setCell ⟨b0 + 1, 0, none⟩ (Value.slice (some ⟨g5, 0, none⟩) (ln + 1) cap5)).heap.size (w5.setCell ⟨b0 + 1, 0, none⟩ (Value.slice (some ⟨g5, 0, none⟩) (ln + 1) cap5)) ((w5.setCell ⟨b0 + 1, 0, none⟩ (Value.slice (some ⟨g5, 0, none⟩) (ln + 1) cap5)).alloc (Obj.cells #[Value.int .i64 (ln : Int)] 2)) := (Below.refl _ _).alloc (Nat.le_refl _) _
                have HB6 := kide hb6
                have O6 := kide (MP.out.later hb6).ot
                have XN6 := kide (Bz.new (w5.setCell ⟨b0 + 1, 0, none⟩ (Value.slice (some ⟨g5, 0, none⟩) (ln + 1) cap5)) #[Value.int .i64 (ln : Int)] 2)
                have Z6 : Hid (b0 + 2 ≤ ((w5.setCell ⟨b0 + 1, 0, none⟩ (Value.slice (some ⟨g5, 0, none⟩) (ln + 1) cap5)).alloc (Obj.cells #[Value.int .i64 (ln : Int)] 2)).heap.size) := (MP.out.later hb6).sz
                have hz6 : (w5.setCell ⟨b0 + 1, 0, none⟩ (Value.slice (some ⟨g5, 0, none⟩) (ln + 1) cap5)).heap.size = w5.heap.size := by simp
                rw [hz6] at XN6
                have HZ6 := kide hz6
                simp only [] at O6
                clear hb6 hbo5 ho5 hg5 hat5 HOT HTA HBT HWT HIT XT n0 n1 n2 n3 n4 n5 n6 zo zf hszt HM HX HW1 HI1 hz6
                go_wp2_with (at_builtin; refine wpList_appI rfl _ _ rfl (b0 + 2) u5 to (ln : Int) (by first | rfl | simp [Act.eval]) O6.out w5.heap.size 1 (by first | rfl | simp [Act.eval]) (XN6.out.cell 0) (by rw [HTO.out]; omega) Z6.out ?_)
                intro g7 c7 w7 ho7 hg7 hat7
                have M7 := kide (MP.out.told HB6.out hg7 ho7 (hat7.imp id (fun h => by rw [h]; simp)) (by have := HB0.out; omega))
                try simp only [] at M7
                rw [← HMV.out, ← HS2.out] at M7
                clear ho7 hg7 hat7 O6 XN6 Z6 MP HB6 e5 f5
                go_wp2_with fail
                go_roundw
                case rel => exact ⟨k + 1, _, _, by omega, by go_num, M7.out⟩
                case measure => simp [intOf]; omega
            · have HS2 : Hid (shTo ns (k + 1) = (st1, to ++ [(f : Int)])) := by
                show _ = _
                rw [HST.out]
                unfold shStep
                simp only []
                rw [HMD.out, hff]
              have hf1000 : f ≤ 10000 := by omega
              have hb6 : Below wr.heap.size wr (wr.alloc (Obj.cells #[Value.int .i64 (f : Int)] 2)) := (Below.refl _ _).alloc (Nat.le_refl _) _
              have HB6 := kide hb6
              have O6 := kide (HM.out.later hb6).ot
              have XN6 := kide (Bz.new wr #[Value.int .i64 (f : Int)] 2)
              have Z6 := kide (HM.out.later hb6).sz
              have hf0 : ¬ (f : Int) < 0 := by omega
              simp only [] at O6
              clear hb6 hff hfq HX HW1 HI1
              by_cases hql : q < ln
              · have i4 : (q : Int) < (ln : Int) := by omega
                go_wp2_with (at_builtin; refine wpList_appI rfl _ _ rfl (b0 + 2) u5 to (f : Int) (by first | rfl | simp [Act.eval]) O6.out wr.heap.size 1 (by first | rfl | simp [Act.eval]) (XN6.out.cell 0) (by rw [HTO.out]; omega) Z6.out ?_)
                intro g7 c7 w7 ho7 hg7 hat7
                have M7 := kide (HM.out.told HB6.out hg7 ho7 (hat7.imp id (fun h => by rw [h]; simp)) (by have := HB0.out; omega))
                rw [← HS2.out] at M7
                clear ho7 hg7 hat7 O6 XN6 Z6 HB6 zo HM
                go_wp2_with fail
                go_roundw
                case rel => exact ⟨k + 1, _, _, by omega, by go_num, M7.out⟩
                case measure => simp [intOf]; omega
              · go_wp2_with (at_builtin; refine wpList_appI rfl _ _ rfl (b0 + 2) u5 to (f : Int) (by first | rfl | simp [Act.eval]) O6.out wr.heap.size 1 (by first | rfl | simp [Act.eval]) (XN6.out.cell 0) (by rw [HTO.out]; omega) Z6.out ?_)
                intro g7 c7 w7 ho7 hg7 hat7
                have M7 := kide (HM.out.told HB6.out hg7 ho7 (hat7.imp id (fun h => by rw [h]; simp)) (by have := HB0.out; omega))
                rw [← HS2.out] at M7
                clear ho7 hg7 hat7 O6 XN6 Z6 HB6 zo HM
                go_wp2_with fail
                go_roundw
                case rel => exact ⟨k + 1, _, _, by omega, by go_num, M7.out⟩
                case measure => simp [intOf]; omega
    · have hkn : k = ns.length := by rw [HNL.out]; omega
      rw [hkn] at HM
      obtain ⟨va, vc, rfl⟩ := HM.out.ts.form
      obtain ⟨ln, hln⟩ : ∃ ln, l.length = ln := ⟨_, rfl⟩
      rw [hln] at HM
      have zo := HM.out.bo.cell 0
      have zr := HM.out.br.cell 0
      have zf := HM.out.br.froz 0
      simp at zo zr
      have HBR := kide HM.out.br
      have hts : Ts (wr.setCell ⟨b0, 0, none⟩ (Value.slice va ln vc)) (b0 + 2) (.slice va ln vc) l := ⟨HM.out.ts.row.move fun b hb' => heap_setCell_other _ _ _ _ (fun e => by have := (HM.out.ts.row.lt hb').1; simp only [] at e; omega), fun x hx => nw_set (HM.out.ts.wn x hx) HBR.out (by decide) 0 _, fun x hx => ni_set (HM.out.ts.kn x hx) HBR.out (by decide) 0 _, HM.out.ts.wd, HM.out.ts.kd⟩
      have hot : OI (wr.setCell ⟨b0, 0, none⟩ (Value.slice va ln vc)) (b0 + 2) u5 (shTo ns ns.length).2 := HM.out.ot.move fun b hb' => heap_setCell_other _ _ _ _ (fun e => by have := (HM.out.ot.lt hb').1; simp only [] at e; omega)
      have hbl : Below w.heap.size w (wr.setCell ⟨b0, 0, none⟩ (Value.slice va ln vc)) := HM.out.bl.setCell (by have := HB0.out; simp only []; omega) _
      have y0 : (wr.setCell ⟨b0, 0, none⟩ (Value.slice va ln vc)).cell? ⟨b0, 0, none⟩ = some (Value.slice va ln vc) := (HBR.out.set 0 (Value.slice va ln vc)).cell 0
      have HTS := kide hts
      have HOT := kide hot
      have HBL := kide hbl
      have HE := kide HM.out.eq
      have Y0 := kide y0
      clear hm hkn hts hot hbl hln y0
      go_wp2_with fail
      have y0 := Y0.out
      generalize wr.setCell ⟨b0, 0, none⟩ (Value.slice va ln vc) = wf at *
      refine bodyPost_ret (v := .tuple #[.agg #[.slice va ln vc], u5]) (by simp [results, Try.results22, go_sem, y0]) rfl ?_
      refine ⟨.slice va ln vc, l, u5, rfl, ⟨?_, fun x hx => (HTS.out.wn x hx).mono (by have := HB0.out; omega), fun x hx => (HTS.out.kn x hx).mono (by have := HB0.out; omega), HTS.out.wd, HTS.out.kd⟩, HE.out, ?_, HBL.out⟩
      · refine ⟨HTS.out.row.1, ?_⟩
        rcases HTS.out.row.2 with h0 | ⟨g, cap, cur, e, hg, r⟩
        · exact .inl h0
        · exact .inr ⟨g, cap, cur, e, by have := HB0.out; omega, r⟩
      · refine ⟨HOT.out.1, ?_⟩
        rcases HOT.out.2 with h0 | ⟨g, cap, cur, e, hg, r⟩
        · exact .inl h0
        · exact .inr ⟨g, cap, cur, e, by have := HB0.out; omega, r⟩

end Go.Proofs.Ytljcfokiocbgoaa
