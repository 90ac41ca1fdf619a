/- A term is put into a table, a variable in it standing for a node that is there. -/
import Derived.Test.YtkkboaiablfdbaaGreatDoorZRA
namespace Go.Proofs.YtkkboaiablfdbaaGreatDoor
set_option linter.unusedVariables false
set_option linter.unusedSimpArgs false
open Go.RowKit Go.WideMaps Go.Maps Go.MapKept Go.ChangeMaps

theorem Ar.out2 {u : World} {B s g gp lo j : Nat} {v x : Value} {D : DataW Unit} {l : List Tg} {xs : List Int} (h : Ar u B s g v D l) (hp : Ni u lo (some ⟨gp, 0, none⟩) xs) (hx : xs ≠ []) (hk : ∀ y ∈ l, ∀ p, y.ka = some p → gp ≠ p.block) : Ar (u.setCell ⟨gp, j, none⟩ x) B s g v D l := by
  rcases hp with ⟨h1, -⟩ | ⟨gp', cur, e, -, hc, -⟩
  · exact absurd h1 hx
  cases e
  have ot : ∀ (k : Nat) (cs : Array Value) (t : TypeId) (fz : Nat × Nat), t ≠ 2 → u.heap[k]? = some (.cells cs t fz) → (u.setCell ⟨gp, j, none⟩ x).heap[k]? = u.heap[k]? := fun k cs t fz ht hkk => heap_setCell_other _ _ _ _ (fun e => by
    simp only [] at e
    subst e
    rw [hc] at hkk
    cases hkk
    exact ht rfl)
  refine ⟨⟨h.ts.row.move fun b hb => ?_, fun y hy => (h.ts.wn y hy).kept fun k cur' hc' => ot k _ _ _ (by decide) hc', fun y hy => ?_, h.ts.wd, h.ts.kd⟩, ?_, own_belowN h.mp fun hg => ?_, h.ak, h.le⟩
  · obtain ⟨c, hc'⟩ := h.ts.row.typed hb
    exact ot _ _ _ _ (by decide) hc'
  · rcases h.ts.kn y hy with ⟨k1, k2⟩ | ⟨g', cur', k1, k2, k3, k4⟩
    · refine .inl ⟨k1, fun z e => ?_⟩
      obtain ⟨q1, q2, cur', q3⟩ := k2 z e
      exact ⟨q1, q2, cur', (heap_setCell_other _ _ _ _ (fun e' => by have := hk y hy z e; simp only [] at e'; omega)).trans q3⟩
    · exact .inr ⟨g', cur', k1, k2, (heap_setCell_other _ _ _ _ (fun e' => by have := hk y hy _ k1; simp only [] at e' this; omega)).trans k3, k4⟩
  · exact (ot _ _ _ _ (by decide) h.box).trans h.box
  · refine heap_setCell_other _ _ _ _ (fun e => ?_)
    simp only [] at e
    subst e
    obtain ⟨es, ck, h9⟩ := own_isMapN h.mp
    rw [hc] at h9
    cases h9


def RetAv (w0 : World) (s g : Nat) (vv root : Int) (o1 ns : List Tc) (e : Ending) (w' : World) : Prop := ∃ (v : Value) (D : DataW Unit) (l : List Tg), e = .returned (.int .i64 ((arTo vv root o1 ns ns.length).2.getD (ns.length - 1) 0)) ∧ Ar w' w0.heap.size s g v D l ∧ l.map Tg.ct = (arTo vv root o1 ns ns.length).1 ∧ Below w0.heap.size w0 w'

structure ArF (o1 : List Tc) (k : Nat) (st : List Tc × List Int) : Prop where
  l2 : st.2.length = k
  l1 : st.1.length ≤ o1.length + k
  rg : ∀ x ∈ st.2, 0 ≤ x ∧ x ≤ 4000
theorem arTo_f {vv root : Int} {o1 ns : List Tc} (h0 : 0 ≤ root ∧ root ≤ 4000) (ho : o1.length + ns.length ≤ 4000) : ∀ k, k ≤ ns.length → ArF o1 k (arTo vv root o1 ns k)
  | 0, _ => ⟨rfl, Nat.le_refl _, by simp [arTo]⟩
  | k + 1, h => by
    have hk2 : ns[k]? = some (ns[k]'(by omega)) := List.getElem?_eq_getElem (by omega)
    obtain ⟨l2, l1, rg⟩ := arTo_f h0 ho k (by omega) (vv := vv)
    rw [arTo_succ hk2]
    generalize arTo vv root o1 ns k = st at l2 l1 rg
    have app : ∀ y : Int, 0 ≤ y ∧ y ≤ 4000 → ∀ x ∈ st.2 ++ [y], 0 ≤ x ∧ x ≤ 4000 := fun y hy x hx => by
      rcases List.mem_append.1 hx with hx | hx
      · exact rg x hx
      · simp at hx
        subst hx
        exact hy
    unfold arStep
    split
    · exact ⟨by simp [l2], by simp only; omega, app _ h0⟩
    · unfold shStep
      split
      · rename_i i e
        have hi := (List.getElem?_eq_some_iff.1 (fndT_some e).1).1
        exact ⟨by simp [l2], by simp only; omega, app _ (by omega)⟩
      · exact ⟨by simp [l2], by simp; omega, app _ (by omega)⟩
theorem ar_sh {vv root : Int} {ns : List Tc} (h : ∀ n ∈ ns, isV vv n = false) : ∀ k, k ≤ ns.length → arTo vv root [] ns k = shTo ns k
  | 0, _ => rfl
  | k + 1, hk => by
    have hk2 : ns[k]? = some (ns[k]'(by omega)) := List.getElem?_eq_getElem (by omega)
    rw [arTo_succ hk2, shTo_succ hk2, ar_sh h k (by omega)]
    unfold arStep
    rw [if_neg (by rw [h _ (List.getElem_mem _)]; simp)]

set_option maxHeartbeats 4000000 in
set_option maxRecDepth 100000 in
theorem addTermV_any (s g : Nat) (vv root : Int) (v0 : Value) (D0 : DataW Unit) (l0 : List Tg) (o1 : List Tc) (hl0 : l0.map Tg.ct = o1) (hro : 0 ≤ root ∧ root ≤ 4000) (ho1 : o1.length ≤ 1000) (a : Option Addr) (c n : Nat) (xs : List Tg) (w0 w : World) (h0 : Below w0.heap.size w0 w) (ha : Ar w w0.heap.size s g v0 D0 l0) (hr : RdT w0 a xs) (hn : xs.length = n) (hs : Sn xs) (hk : ∀ (k : Nat) (n : Tc), (xs.map Tg.ct)[k]? = some n → ∀ j ∈ n.ks, 0 ≤ j ∧ j < (k : Int)) (hok : ∀ n ∈ xs.map Tg.ct, okV n.bw n.ws) (hn1 : 1 ≤ n) (hn4 : n ≤ 1000) :
    Calls Tryz.prog 29 #[.pointer (some ⟨s, 0, none⟩), .agg #[.slice a n c], .int .i64 vv, .int .i64 root] w (RetAv w0 s g vv root o1 (xs.map Tg.ct)) := by
  have hmk := fun kl kc w => run_make_row' (P := Tryz.prog) 48 2 (.int .i64 0) 8 Tryz.underlying48 Tryz.infoI64 rfl kl kc n (by omega) (by omega) w
  have hokt := hr.ok
  obtain ⟨ns, hns⟩ : ∃ ns, xs.map Tg.ct = ns := ⟨_, rfl⟩
  have hnl : ns.length = n := by rw [← hns]; simpa using hn
  rw [hns] at hk hok hokt ⊢
  have HSF := kide (fun k (h : k ≤ n) => arTo_f (vv := vv) (root := root) (o1 := o1) (ns := ns) hro (by omega) k (by rw [hnl]; exact h))
  have HKK := kide hk
  have HOV := kide hok
  have HOT := kide hokt
  have HNS := kide hns
  have HNL := kide hnl
  have HN := kide hn
  have HS := kide hs
  have HR := kide hr
  have hb2 : Below w.heap.size w ((w.alloc (Obj.cells #[Value.slice a n c] 30)).alloc (Obj.cells (madeCells #[Value.int .i64 0] n) 2)) := ((Below.refl _ _).alloc (Nat.le_refl _) _).alloc (by simp) _
  have HA := kide (ha.later hb2)
  have NI0 : Hid (Ni ((w.alloc (Obj.cells #[Value.slice a n c] 30)).alloc (Obj.cells (madeCells #[Value.int .i64 0] n) 2)) (w.heap.size + 1) (some ⟨w.heap.size + 1, 0, none⟩) (List.replicate n 0)) := by
    refine .inr ⟨_, i64s (List.replicate n 0), rfl, Nat.le_refl _, ?_, fun i hi => i64s_get _ _ hi⟩
    have e2 := heap_alloc_new (w.alloc (.cells #[Value.slice a n c] 30)) (.cells (madeCells #[Value.int .i64 0] n) 2)
    rw [show (w.alloc (Obj.cells #[Value.slice a n c] 30)).heap.size = w.heap.size + 1 by simp, i64s_made] at e2
    rw [i64s_made]
    exact e2
  have HG0 : Hid (w.heap.size + 1 < ((w.alloc (Obj.cells #[Value.slice a n c] 30)).alloc (Obj.cells (madeCells #[Value.int .i64 0] n) 2)).heap.size) := by show _ < _; simp
  have HGP : Hid (w0.heap.size ≤ w.heap.size + 1) := Nat.le_succ_of_le h0.size
  have B0 := kide (h0.trans (hb2.mono h0.size))
  have HB0 : Hid (w0.heap.size ≤ w0.heap.size) := Nat.le_refl _
  have HKL0 : Hid (∀ y ∈ l0, ∀ p, y.ka = some p → w.heap.size + 1 ≠ p.block) := fun y hy p hp e => by
    have := (ha.ts.below y hy).2 p hp
    omega
  have HRO := kide hro
  have HO1 := kide ho1
  have HL0 := kide hl0
  clear hr hn hs hk hok hns hnl hb2 ha h0 hokt hro ho1 hl0
  go_enter Tryz.func29, Tryz.ntmps29
  go_wp2_with fail
  generalize (w.alloc (Obj.cells #[Value.slice a n c] 30)).alloc (Obj.cells (madeCells #[Value.int .i64 0] n) 2) = W0 at *
  obtain ⟨gp, hgp⟩ : ∃ gp, w.heap.size + 1 = gp := ⟨_, rfl⟩
  rw [hgp] at NI0 HG0 HGP HKL0
  simp only [hgp]
  clear hgp
  go_loopw [19] (fun q wr => ∃ (k : Nat) (v : Value) (D : DataW Unit) (l : List Tg), k ≤ n ∧ q = .int .i64 (k : Int) ∧ Ar wr w0.heap.size s g v D l ∧ l.map Tg.ct = (arTo vv root o1 ns k).1 ∧ Ni wr gp (some ⟨gp, 0, none⟩) ((arTo vv root o1 ns k).2 ++ List.replicate (n - k) 0) ∧ (∀ y ∈ l, ∀ p, y.ka = some p → gp ≠ p.block) ∧ Below w0.heap.size w0 wr ∧ gp < wr.heap.size) (fun q _ => n - (intOf q).toNat)
  case atStart => exact ⟨0, _, _, l0, Nat.zero_le _, rfl, HA.out, HL0.out, NI0.out, HKL0.out, B0.out, HG0.out⟩
  case round =>
    obtain ⟨k, v, D, l, hk, rfl, har, hct, hni, hka, hbb, hgs⟩ := hrel
    have HAR := kide har
    have HCT := kide hct
    have HNI := kide hni
    have HKA := kide hka
    have HBB := kide hbb
    have HGS := kide hgs
    have hsf := HSF.out k hk
    clear har hct hni hka hbb hgs HA NI0 B0 HG0
    by_cases hlt : k < n
    · have i0 : (k : Int) < (n : Int) := by omega
      obtain ⟨⟨s1, wa, wc, ka, kc⟩, gx⟩ : ∃ x, xs[k]? = some x := ⟨xs[k]'(by rw [HN.out]; exact hlt), List.getElem?_eq_getElem _⟩
      have gn : ns[k]? = some s1 := by rw [← HNS.out, List.getElem?_map, gx]; rfl
      have gm := List.mem_of_getElem? gn
      have hw0 := (HS.out _ (List.mem_of_getElem? gx)).1
      obtain ⟨-, h | ⟨b3, o3, rfl, hc⟩⟩ := HR.out.later HBB.out
      · rw [h] at gx; simp at gx
      obtain ⟨⟨p0, p1, p2, p3, p4, p5, p6⟩, q1, q2, -⟩ := hc k _ gx
      simp only [Tg.hd] at p0 p1 p2 p3 p4 p5 p6
      simp only [] at q1 q2 hw0
      obtain ⟨st1, to, hst⟩ : ∃ st1 to, arTo vv root o1 ns k = (st1, to) := ⟨_, _, rfl⟩
      have hss := arTo_succ (v := vv) (root := root) (o1 := o1) gn
      rw [hst] at hss hsf HCT HNI
      simp only [] at HCT HNI
      have HMV := kide (mvT_rep (m := n - k) hsf.l2 (HKK.out k s1 gn))
      have HTL : Hid ((to ++ List.replicate (n - k) 0).length = n) := by show _ = _; have := hsf.l2; simp at this ⊢; omega
      have HTI : Hid (∀ y ∈ to ++ List.replicate (n - k) 0, in64 y) := fun y hy => by
        rcases List.mem_append.1 hy with hy | hy
        · have h1 := hsf.rg y hy
          try simp only [] at h1
          exact ⟨by omega, by omega⟩
        · rw [List.eq_of_mem_replicate hy]
          exact ⟨by omega, by omega⟩
      have HKN : Hid (∀ j ∈ s1.ks, 0 ≤ j ∧ j < (n : Int)) := fun j hj => by have := HKK.out k s1 gn j hj; omega
      have HNE : Hid (to ++ List.replicate (n - k) 0 ≠ []) := fun h9 => by have := HTL.out; rw [h9] at this; simp at this; omega
      have HST : Hid (isV vv s1 = false → ∀ (i : Nat) (l2 : List Tg), (match fndT (l.map Tg.ct) ⟨s1.op, s1.vr, s1.a, s1.b, s1.bw, s1.ws, s1.ks.map fun j => (to ++ List.replicate (n - k) 0).getD j.toNat 0⟩ with | some j => i = j ∧ l2 = l | none => i = l.length ∧ l2.map Tg.ct = l.map Tg.ct ++ [⟨s1.op, s1.vr, s1.a, s1.b, s1.bw, s1.ws, s1.ks.map fun j => (to ++ List.replicate (n - k) 0).getD j.toNat 0⟩]) → l2.map Tg.ct = (arTo vv root o1 ns (k + 1)).1 ∧ (arTo vv root o1 ns (k + 1)).2 ++ List.replicate (n - (k + 1)) 0 = (to ++ List.replicate (n - k) 0).set k (i : Int)) := by
        intro hnv i l2 h9
        rw [HMV.out, HCT.out] at h9
        have hl2 := hsf.l2
        simp only [] at hl2
        rw [hss, show n - k = n - (k + 1) + 1 by omega, ← hl2, put_rep]
        unfold arStep
        rw [if_neg (by rw [hnv]; simp)]
        unfold shStep
        simp only []
        cases e : fndT st1 (mvT to s1) with
        | some j =>
          rw [e] at h9
          obtain ⟨rfl, rfl⟩ := h9
          exact ⟨HCT.out, rfl⟩
        | none =>
          rw [e] at h9
          obtain ⟨h7, h8⟩ := h9
          refine ⟨h8, ?_⟩
          have h6 : l.length = st1.length := by rw [← HCT.out]; simp
          rw [h7, h6]
      have HSV : Hid (isV vv s1 = true → l.map Tg.ct = (arTo vv root o1 ns (k + 1)).1 ∧ (arTo vv root o1 ns (k + 1)).2 ++ List.replicate (n - (k + 1)) 0 = (to ++ List.replicate (n - k) 0).set k root) := by
        intro hnv
        have hl2 := hsf.l2
        simp only [] at hl2
        rw [hss, show n - k = n - (k + 1) + 1 by omega, ← hl2, put_rep]
        unfold arStep
        rw [if_pos hnv]
        exact ⟨HCT.out, rfl⟩
      have HOK : Hid (okN ⟨s1.op, s1.vr, s1.a, s1.b, s1.bw, s1.ws, s1.ks.map fun j => (to ++ List.replicate (n - k) 0).getD j.toNat 0⟩) := by
        obtain ⟨t1, t2, t3, t4, t5, t6, t7, t8, t9⟩ := HOT.out s1 gm
        have hrg : ∀ y ∈ to ++ List.replicate (n - k) 0, 0 ≤ y ∧ y < 1048576 := fun y hy => by
          rcases List.mem_append.1 hy with hy | hy
          · have h1 := hsf.rg y hy
            try simp only [] at h1
            omega
          · rw [List.eq_of_mem_replicate hy]
            omega
        have hks : ∀ j ∈ s1.ks.map (fun j => (to ++ List.replicate (n - k) 0).getD j.toNat 0), 0 ≤ j ∧ j < 1048576 := fun j hj => by
          obtain ⟨q, hq, rfl⟩ := List.mem_map.1 hj
          have h1 := HKN.out q hq
          have h2 : q.toNat < (to ++ List.replicate (n - k) 0).length := by rw [HTL.out]; omega
          rw [List.getD_eq_getElem?_getD, List.getElem?_eq_getElem h2]
          exact hrg _ (List.getElem_mem h2)
        exact ⟨⟨t1, t2, t3, t4, t5, t6, t7, by simpa using t8, fun y hy => by have := hks y hy; exact ⟨by omega, by omega⟩⟩, HOV.out s1 gm, hks⟩
      have HLL : Hid (l.length ≤ 100000) := by
        show _ ≤ _
        have h1 := hsf.l1
        have h2 : (l.map Tg.ct).length = l.length := by simp
        have h3 := HO1.out
        rw [HCT.out] at h2
        simp only [] at h1
        omega
      obtain ⟨op, vr, aa, bb, bw, ws, ks⟩ := s1
      simp only [] at p0 p1 p2 p3 p4 p5 p6 q1 q2 HKN HST HSV HOK
      have HW0 := kide hw0
      obtain ⟨TO, hTO⟩ : ∃ TO, to ++ List.replicate (n - k) 0 = TO := ⟨_, rfl⟩
      rw [hTO] at HNI HTL HTI HNE
      simp only [hTO] at HST HSV HOK
      obtain ⟨ksm, hksm⟩ : ∃ m, (ks.map fun j => TO.getD j.toNat 0) = m := ⟨_, rfl⟩
      have HKL : Hid (ksm.length = ks.length) := by show _ = _; rw [← hksm]; simp
      rw [hksm] at HST HOK
      have HKSM := kide hksm
      have HOKT : Hid (okN ⟨op, vr, aa, bb, bw, ws, ksm⟩) := HOK.out
      clear hTO hksm HOK
      have hbn : Below wr.heap.size wr (wr.alloc (Obj.cells #[Value.int .i64 op, Value.int .i64 vr, Value.int .i64 aa, Value.int .i64 bb, Value.int .i64 bw, Value.slice wa ws.length wc, Value.slice ka ks.length kc] 53)) := (Below.refl _ _).alloc (Nat.le_refl _) _
      have XN1 := kide (Bz.new wr #[Value.int .i64 op, Value.int .i64 vr, Value.int .i64 aa, Value.int .i64 bb, Value.int .i64 bw, Value.slice wa ws.length wc, Value.slice ka ks.length kc] 53)
      have AR1 := kide (HAR.out.later hbn)
      have HVN := kide (fun b (e : v.ownBlock = some b) => (HAR.out.ts.row.lt e).2)
      have NI1 := kide (HNI.out.later hbn)
      have RW1 := kide (q1.later hbn)
      have RK1 := kide (q2.later hbn)
      have BB1 := kide (HBB.out.trans (hbn.mono HBB.out.size))
      have HG1 : Hid (gp < (wr.alloc (Obj.cells #[Value.int .i64 op, Value.int .i64 vr, Value.int .i64 aa, Value.int .i64 bb, Value.int .i64 bw, Value.slice wa ws.length wc, Value.slice ka ks.length kc] 53)).heap.size) := Nat.lt_of_lt_of_le HGS.out hbn.size
      clear hc gx gn gm hbn q1 q2 hw0 hst hss hsf HAR HNI HBB HGS HMV HCT
      by_cases hop : op = 1
      · subst hop
        by_cases hv1 : vr = vv
        · subst hv1
          have hsv := HSV.out (by simp [isV])
          have HSV2 := kide hsv
          obtain ⟨e0, f0⟩ := NI1.out.cell (j := k) (by rw [HTL.out]; exact hlt)
          have NI2 := kide (NI1.out.put (j := k) (by rw [HTL.out]; exact hlt) root)
          have AR2 := kide (AR1.out.out2 (j := k) (x := .int .i64 root) NI1.out HNE.out HKA.out)
          have BB2 := kide (BB1.out.setCell (show w0.heap.size ≤ (⟨gp, k, none⟩ : Addr).block from HGP.out) (.int .i64 root))
          have HG2 : Hid (gp < ((wr.alloc (Obj.cells #[Value.int .i64 1, Value.int .i64 vr, Value.int .i64 aa, Value.int .i64 bb, Value.int .i64 bw, Value.slice wa ws.length wc, Value.slice ka ks.length kc] 53)).setCell ⟨gp, k, none⟩ (.int .i64 root)).heap.size) := by show _ < _; simpa using HG1.out
          clear hsv NI1 AR1 BB1 HG1 HST HSV
          go_wp2_with fail
          go_roundw
          case rel => exact ⟨k + 1, v, D, l, by omega, by go_num, AR2.out, HSV2.out.1, by rw [HSV2.out.2]; exact NI2.out, HKA.out, BB2.out, HG2.out⟩
          case measure => simp [intOf]; omega
        · have he : (vr == vv) = false := by simpa using hv1
          have HNV : Hid (isV vv ⟨1, vr, aa, bb, bw, ws, ks⟩ = false) := by show _ = _; simp [isV, hv1]
          clear hv1
          go_wp2_with fail
          clear p0 p1 p2 p3 p4 p5 p6
          generalize wr.alloc (Obj.cells #[Value.int .i64 1, Value.int .i64 vr, Value.int .i64 aa, Value.int .i64 bb, Value.int .i64 bw, Value.slice wa ws.length wc, Value.slice ka ks.length kc] 53) = W1 at *
          obtain ⟨ν, hν⟩ : ∃ ν, wr.heap.size = ν := ⟨_, rfl⟩
          rw [hν] at XN1 HVN
          simp only [hν]
          clear hν
          refine wp_region_x (SA := fun uu => uu.cell? ⟨ν, 0, none⟩ = some (Value.int .i64 1) ∧ uu.cell? ⟨ν, 1, none⟩ = some (Value.int .i64 vr) ∧ uu.cell? ⟨ν, 2, none⟩ = some (Value.int .i64 aa) ∧ uu.cell? ⟨ν, 3, none⟩ = some (Value.int .i64 bb) ∧ uu.cell? ⟨ν, 4, none⟩ = some (Value.int .i64 bw) ∧ uu.cell? ⟨ν, 5, none⟩ = some (Value.slice wa ws.length wc) ∧ uu.cell? ⟨ν, 6, none⟩ = some (Value.slice ka ks.length kc)) (SB := fun _ => True) (k := 9) (by kernel_rfl) ?_
          have hbd : Below W1.heap.size W1 W1.drew := (Below.refl _ _).drew
          have XN_0 := kide (XN1.out.later hbd)
          have AR_0 := kide (AR1.out.later hbd)
          have NI_0 := kide (NI1.out.later hbd)
          have RW_0 := kide (RW1.out.later hbd)
          have RK_0 := kide (RK1.out.later hbd)
          have BB_0 := kide (BB1.out.trans (hbd.mono BB1.out.size))
          have HG_0 : Hid (gp < W1.drew.heap.size) := Nat.lt_of_lt_of_le HG1.out hbd.size
          clear hbd XN1 AR1 NI1 RW1 RK1 BB1 HG1
          generalize W1.drew = u0 at *
          have c0_0 : u0.cell? ⟨ν, 0, none⟩ = some (Value.int .i64 1) := XN_0.out.cell 0
          have c1_0 : u0.cell? ⟨ν, 1, none⟩ = some (Value.int .i64 vr) := XN_0.out.cell 1
          have c2_0 : u0.cell? ⟨ν, 2, none⟩ = some (Value.int .i64 aa) := XN_0.out.cell 2
          have c3_0 : u0.cell? ⟨ν, 3, none⟩ = some (Value.int .i64 bb) := XN_0.out.cell 3
          have c4_0 : u0.cell? ⟨ν, 4, none⟩ = some (Value.int .i64 bw) := XN_0.out.cell 4
          have c5_0 : u0.cell? ⟨ν, 5, none⟩ = some (Value.slice wa ws.length wc) := XN_0.out.cell 5
          have c6_0 : u0.cell? ⟨ν, 6, none⟩ = some (Value.slice ka ks.length kc) := XN_0.out.cell 6
          have hs0 : Hid ((fun uu => uu.cell? ⟨ν, 0, none⟩ = some (Value.int .i64 1) ∧ uu.cell? ⟨ν, 1, none⟩ = some (Value.int .i64 vr) ∧ uu.cell? ⟨ν, 2, none⟩ = some (Value.int .i64 aa) ∧ uu.cell? ⟨ν, 3, none⟩ = some (Value.int .i64 bb) ∧ uu.cell? ⟨ν, 4, none⟩ = some (Value.int .i64 bw) ∧ uu.cell? ⟨ν, 5, none⟩ = some (Value.slice wa ws.length wc) ∧ uu.cell? ⟨ν, 6, none⟩ = some (Value.slice ka ks.length kc)) u0) := ⟨c0_0, c1_0, c2_0, c3_0, c4_0, c5_0, c6_0⟩
          try go_simp
          refine wpAnyX_both (T := fun _ => True) (i := 0) (v := Value.slice (some ⟨gp, 0, none⟩) n n) rfl (by kernel_rfl) (by kernel_rfl) (by kernel_rfl) (fun _ _ _ h => by first | exact h | exact h.elim) (by decide) (fun _ _ => trivial) (fun _ _ => trivial) (Sx.before (by kernel_rfl) hs0.out) (Or.inl ⟨by rfl, fun uu hu => by go_simp⟩) ?_
          try go_simp
          refine wpAnyX_both (T := fun _ => True) (i := 1) (v := Value.int .i64 (k : Int)) rfl (by kernel_rfl) (by kernel_rfl) (by kernel_rfl) (fun _ _ _ h => by first | exact h | exact h.elim) (by decide) (fun _ _ => trivial) (fun _ _ => trivial) (Sx.before (by kernel_rfl) hs0.out) (Or.inl ⟨by rfl, fun uu hu => by go_simp⟩) ?_
          try go_simp
          refine wpAnyX_both (T := fun _ => True) (i := 2) (v := Value.pointer (some ⟨s, 0, none⟩)) rfl (by kernel_rfl) (by kernel_rfl) (by kernel_rfl) (fun _ _ _ h => by first | exact h | exact h.elim) (by decide) (fun _ _ => trivial) (fun _ _ => trivial) (Sx.before (by kernel_rfl) hs0.out) (Or.inl ⟨by rfl, fun uu hu => by go_simp⟩) ?_
          try go_simp
          refine wpAnyX_take (i := 3) (v := Value.agg #[Value.int .i64 1, Value.int .i64 vr, Value.int .i64 aa, Value.int .i64 bb, Value.int .i64 bw, Value.slice wa ws.length wc, Value.slice ka ks.length kc]) rfl (by kernel_rfl) (by kernel_rfl) (by kernel_rfl) (fun _ _ _ h => by first | exact h | exact h.elim) (by decide) (by kernel_rfl) (by kernel_rfl) hs0.out (Or.inl ⟨by rfl, fun uu hu => by obtain ⟨e0, e1, e2, e3, e4, e5, e6⟩ := hu; go_simp⟩) ?_
          try go_simp
          refine wpAnyX_take (i := 4) (v := Value.agg #[Value.int .i64 1, Value.int .i64 vr, Value.int .i64 aa, Value.int .i64 bb, Value.int .i64 bw, Value.slice wa ws.length wc, Value.slice ka ks.length kc]) rfl (by kernel_rfl) (by kernel_rfl) (by kernel_rfl) (fun _ _ _ h => by first | exact h | exact h.elim) (by decide) (by kernel_rfl) (by kernel_rfl) hs0.out (Or.inl ⟨by rfl, fun uu hu => by obtain ⟨e0, e1, e2, e3, e4, e5, e6⟩ := hu; go_simp⟩) ?_
          try go_simp
          refine wpAnyX_both (T := fun _ => True) (i := 5) (v := Value.slice (some ⟨gp, 0, none⟩) n n) rfl (by kernel_rfl) (by kernel_rfl) (by kernel_rfl) (fun _ _ _ h => by first | exact h | exact h.elim) (by decide) (fun _ _ => trivial) (fun _ _ => trivial) (Sx.before (by kernel_rfl) hs0.out) (Or.inl ⟨by rfl, fun uu hu => by go_simp⟩) ?_
          try go_simp
          refine wpAnyX_ready (rs := [6]) (by kernel_rfl) (by simp) (AllX.cons rfl (fun K hK => ?_) AllX.nil)
          go_simp
          refine Calls.mono (movedKids_any ⟨1, vr, aa, bb, bw, ws, ks⟩ wa ka wc kc gp n n gp TO _ RK_0.out NI_0.out HTL.out HTI.out HKN.out) ?_
          rintro e u1 ⟨kv, rfl, hko, hb6⟩
          rw [HKSM.out] at hko
          obtain ⟨ka2, kc2, hkv, hni⟩ := hko.ni
          rw [HKL.out] at hkv
          subst hkv
          obtain ⟨N, hN6⟩ : ∃ N, u0.heap.size = N := ⟨_, rfl⟩
          rw [hN6] at hni
          have XN_1 := kide (XN_0.out.later hb6)
          have AR_1 := kide (AR_0.out.later hb6)
          have NI_1 := kide (NI_0.out.later hb6)
          have RW_1 := kide (RW_0.out.later hb6)
          have BB_1 := kide (BB_0.out.trans (hb6.mono (Nat.le_trans HB0.out BB_0.out.size)))
          have HKI := kide hni
          have HNN : Hid (N ≤ u1.heap.size) := by rw [← hN6]; exact hb6.size
          have HLB : Hid (∀ x ∈ l, (∀ p, x.wa = some p → p.block < N) ∧ ∀ p, x.ka = some p → p.block < N) := by have h9 := AR_0.out.ts.below; rw [hN6] at h9; exact h9
          have HBN : Hid (w0.heap.size ≤ N) := by rw [← hN6]; exact BB_0.out.size
          have HGN : Hid (gp < N) := by rw [← hN6]; exact HG_0.out
          clear hko hb6 hni hN6
          have c0_1 : u1.cell? ⟨ν, 0, none⟩ = some (Value.int .i64 1) := XN_1.out.cell 0
          have c1_1 : u1.cell? ⟨ν, 1, none⟩ = some (Value.int .i64 vr) := XN_1.out.cell 1
          have c2_1 : u1.cell? ⟨ν, 2, none⟩ = some (Value.int .i64 aa) := XN_1.out.cell 2
          have c3_1 : u1.cell? ⟨ν, 3, none⟩ = some (Value.int .i64 bb) := XN_1.out.cell 3
          have c4_1 : u1.cell? ⟨ν, 4, none⟩ = some (Value.int .i64 bw) := XN_1.out.cell 4
          have c5_1 : u1.cell? ⟨ν, 5, none⟩ = some (Value.slice wa ws.length wc) := XN_1.out.cell 5
          have c6_1 : u1.cell? ⟨ν, 6, none⟩ = some (Value.slice ka ks.length kc) := XN_1.out.cell 6
          have hs1 : Hid ((fun uu => uu.cell? ⟨ν, 0, none⟩ = some (Value.int .i64 1) ∧ uu.cell? ⟨ν, 1, none⟩ = some (Value.int .i64 vr) ∧ uu.cell? ⟨ν, 2, none⟩ = some (Value.int .i64 aa) ∧ uu.cell? ⟨ν, 3, none⟩ = some (Value.int .i64 bb) ∧ uu.cell? ⟨ν, 4, none⟩ = some (Value.int .i64 bw) ∧ uu.cell? ⟨ν, 5, none⟩ = some (Value.slice wa ws.length wc) ∧ uu.cell? ⟨ν, 6, none⟩ = some (Value.slice ka ks.length kc)) u1) := ⟨c0_1, c1_1, c2_1, c3_1, c4_1, c5_1, c6_1⟩
          refine hK _ _ (Sx.before (by kernel_rfl) hs1.out) ?_
          clear hK K
          try go_simp
          refine wpAnyX_ready (rs := [7]) (by kernel_rfl) (by simp) (AllX.cons rfl (fun K hK => ?_) AllX.nil)
          go_simp
          have hadd := arenaAdd_any w0.heap.size s g N v D l ⟨1, vr, aa, bb, bw, ws, ks⟩ wa ka ka2 wc ks.length kc kc2 ksm _ AR_1.out RW_1.out HW0.out HKI.out HLB.out HBN.out HNN.out HOKT.out HLL.out
          rw [HKL.out] at hadd
          refine Calls.mono hadd ?_
          clear hadd
          rintro e u2 ⟨v2, D2, l2, i, rfl, har, hfr, hvb, hmem, hmt⟩
          have NI_2 := kide (NI_1.out.fr AR_1.out hfr)
          have BB_2 := kide (Below.fr BB_1.out (Nat.le_trans HB0.out BB_1.out.size) AR_1.out hfr)
          have XN_2 : Hid (Bz u2 ν #[Value.int .i64 1, Value.int .i64 vr, Value.int .i64 aa, Value.int .i64 bb, Value.int .i64 bw, Value.slice wa ws.length wc, Value.slice ka ks.length kc] 53) := XN_1.out.fr (by decide) AR_1.out (fun e => by have := HVN.out _ e; omega) hfr
          have AR_2 := kide har
          have HMT := kide hmt
          have HK2 : Hid (∀ y ∈ l2, ∀ p, y.ka = some p → gp ≠ p.block) := fun y hy p hp => by (rcases hmem y hy with h9 | h9); exact HKA.out y h9 p hp; exact Nat.ne_of_lt (Nat.lt_of_lt_of_le HGN.out (h9 p hp))
          have HG_2 : Hid (gp < u2.heap.size) := Nat.lt_of_lt_of_le HGN.out (Nat.le_trans HNN.out hfr.2.2.2.1)
          clear har hfr hvb hmem hmt
          have c0_2 : u2.cell? ⟨ν, 0, none⟩ = some (Value.int .i64 1) := XN_2.out.cell 0
          have c1_2 : u2.cell? ⟨ν, 1, none⟩ = some (Value.int .i64 vr) := XN_2.out.cell 1
          have c2_2 : u2.cell? ⟨ν, 2, none⟩ = some (Value.int .i64 aa) := XN_2.out.cell 2
          have c3_2 : u2.cell? ⟨ν, 3, none⟩ = some (Value.int .i64 bb) := XN_2.out.cell 3
          have c4_2 : u2.cell? ⟨ν, 4, none⟩ = some (Value.int .i64 bw) := XN_2.out.cell 4
          have c5_2 : u2.cell? ⟨ν, 5, none⟩ = some (Value.slice wa ws.length wc) := XN_2.out.cell 5
          have c6_2 : u2.cell? ⟨ν, 6, none⟩ = some (Value.slice ka ks.length kc) := XN_2.out.cell 6
          have hs2 : Hid ((fun uu => uu.cell? ⟨ν, 0, none⟩ = some (Value.int .i64 1) ∧ uu.cell? ⟨ν, 1, none⟩ = some (Value.int .i64 vr) ∧ uu.cell? ⟨ν, 2, none⟩ = some (Value.int .i64 aa) ∧ uu.cell? ⟨ν, 3, none⟩ = some (Value.int .i64 bb) ∧ uu.cell? ⟨ν, 4, none⟩ = some (Value.int .i64 bw) ∧ uu.cell? ⟨ν, 5, none⟩ = some (Value.slice wa ws.length wc) ∧ uu.cell? ⟨ν, 6, none⟩ = some (Value.slice ka ks.length kc)) u2) := ⟨c0_2, c1_2, c2_2, c3_2, c4_2, c5_2, c6_2⟩
          refine hK _ _ (Sx.before (by kernel_rfl) hs2.out) ?_
          clear hK K
          try go_simp
          refine wpAnyX_both (T := fun _ => True) (i := 8) (v := Value.pointer (some ⟨gp, k, none⟩)) rfl (by kernel_rfl) (by kernel_rfl) (by kernel_rfl) (fun _ _ _ h => by first | exact h | exact h.elim) (by decide) (fun _ _ => trivial) (fun _ _ => trivial) (Sx.before (by kernel_rfl) hs2.out) (Or.inl ⟨by rfl, fun uu hu => by go_simp⟩) ?_
          try go_simp
          refine wpAnyX_ready (rs := [9]) (by kernel_rfl) (by simp) (AllX.cons rfl (fun K hK => ?_) AllX.nil)
          obtain ⟨e0, f0⟩ := NI_2.out.cell (j := k) (by rw [HTL.out]; exact hlt)
          go_simp
          have AR_3 : Hid (Ar (u2.setCell ⟨gp, k, none⟩ (Value.int .i64 (i : Int))) w0.heap.size s g v2 D2 l2) := AR_2.out.out2 NI_2.out HNE.out HK2.out
          have NI_3 : Hid (Ni (u2.setCell ⟨gp, k, none⟩ (Value.int .i64 (i : Int))) gp (some ⟨gp, 0, none⟩) (TO.set k (i : Int))) := NI_2.out.put (by rw [HTL.out]; exact hlt) _
          have BB_3 : Hid (Below w0.heap.size w0 (u2.setCell ⟨gp, k, none⟩ (Value.int .i64 (i : Int)))) := BB_2.out.setCell HGP.out _
          have HG_3 : Hid (gp < (u2.setCell ⟨gp, k, none⟩ (Value.int .i64 (i : Int))).heap.size) := by show _ < _; simpa using HG_2.out
          clear e0 f0
          generalize u2.setCell ⟨gp, k, none⟩ (Value.int .i64 (i : Int)) = u3 at *
          refine hK _ _ (Sx.behind (by kernel_rfl) trivial) ?_
          clear hK K
          try go_simp
          refine wpAnyX_done (by kernel_rfl) ?_ _
          go_wp2_with fail
          go_roundw
          case rel => exact ⟨k + 1, v2, D2, l2, by omega, by go_num, AR_3.out, (HST.out HNV.out i l2 HMT.out).1, by rw [(HST.out HNV.out i l2 HMT.out).2]; exact NI_3.out, HK2.out, BB_3.out, HG_3.out⟩
          case measure => simp [intOf]; omega
      · have he : (op == 1) = false := by simpa using hop
        have HNV : Hid (isV vv ⟨op, vr, aa, bb, bw, ws, ks⟩ = false) := by show _ = _; simp [isV, hop]
        clear hop
        go_wp2_with fail
        clear p0 p1 p2 p3 p4 p5 p6
        generalize wr.alloc (Obj.cells #[Value.int .i64 op, Value.int .i64 vr, Value.int .i64 aa, Value.int .i64 bb, Value.int .i64 bw, Value.slice wa ws.length wc, Value.slice ka ks.length kc] 53) = W1 at *
        obtain ⟨ν, hν⟩ : ∃ ν, wr.heap.size = ν := ⟨_, rfl⟩
        rw [hν] at XN1 HVN
        simp only [hν]
        clear hν
        refine wp_region_x (SA := fun uu => uu.cell? ⟨ν, 0, none⟩ = some (Value.int .i64 op) ∧ uu.cell? ⟨ν, 1, none⟩ = some (Value.int .i64 vr) ∧ uu.cell? ⟨ν, 2, none⟩ = some (Value.int .i64 aa) ∧ uu.cell? ⟨ν, 3, none⟩ = some (Value.int .i64 bb) ∧ uu.cell? ⟨ν, 4, none⟩ = some (Value.int .i64 bw) ∧ uu.cell? ⟨ν, 5, none⟩ = some (Value.slice wa ws.length wc) ∧ uu.cell? ⟨ν, 6, none⟩ = some (Value.slice ka ks.length kc)) (SB := fun _ => True) (k := 9) (by kernel_rfl) ?_
        have hbd : Below W1.heap.size W1 W1.drew := (Below.refl _ _).drew
        have XN_0 := kide (XN1.out.later hbd)
        have AR_0 := kide (AR1.out.later hbd)
        have NI_0 := kide (NI1.out.later hbd)
        have RW_0 := kide (RW1.out.later hbd)
        have RK_0 := kide (RK1.out.later hbd)
        have BB_0 := kide (BB1.out.trans (hbd.mono BB1.out.size))
        have HG_0 : Hid (gp < W1.drew.heap.size) := Nat.lt_of_lt_of_le HG1.out hbd.size
        clear hbd XN1 AR1 NI1 RW1 RK1 BB1 HG1
        generalize W1.drew = u0 at *
        have c0_0 : u0.cell? ⟨ν, 0, none⟩ = some (Value.int .i64 op) := XN_0.out.cell 0
        have c1_0 : u0.cell? ⟨ν, 1, none⟩ = some (Value.int .i64 vr) := XN_0.out.cell 1
        have c2_0 : u0.cell? ⟨ν, 2, none⟩ = some (Value.int .i64 aa) := XN_0.out.cell 2
        have c3_0 : u0.cell? ⟨ν, 3, none⟩ = some (Value.int .i64 bb) := XN_0.out.cell 3
        have c4_0 : u0.cell? ⟨ν, 4, none⟩ = some (Value.int .i64 bw) := XN_0.out.cell 4
        have c5_0 : u0.cell? ⟨ν, 5, none⟩ = some (Value.slice wa ws.length wc) := XN_0.out.cell 5
        have c6_0 : u0.cell? ⟨ν, 6, none⟩ = some (Value.slice ka ks.length kc) := XN_0.out.cell 6
        have hs0 : Hid ((fun uu => uu.cell? ⟨ν, 0, none⟩ = some (Value.int .i64 op) ∧ uu.cell? ⟨ν, 1, none⟩ = some (Value.int .i64 vr) ∧ uu.cell? ⟨ν, 2, none⟩ = some (Value.int .i64 aa) ∧ uu.cell? ⟨ν, 3, none⟩ = some (Value.int .i64 bb) ∧ uu.cell? ⟨ν, 4, none⟩ = some (Value.int .i64 bw) ∧ uu.cell? ⟨ν, 5, none⟩ = some (Value.slice wa ws.length wc) ∧ uu.cell? ⟨ν, 6, none⟩ = some (Value.slice ka ks.length kc)) u0) := ⟨c0_0, c1_0, c2_0, c3_0, c4_0, c5_0, c6_0⟩
        try go_simp
        refine wpAnyX_both (T := fun _ => True) (i := 0) (v := Value.slice (some ⟨gp, 0, none⟩) n n) rfl (by kernel_rfl) (by kernel_rfl) (by kernel_rfl) (fun _ _ _ h => by first | exact h | exact h.elim) (by decide) (fun _ _ => trivial) (fun _ _ => trivial) (Sx.before (by kernel_rfl) hs0.out) (Or.inl ⟨by rfl, fun uu hu => by go_simp⟩) ?_
        try go_simp
        refine wpAnyX_both (T := fun _ => True) (i := 1) (v := Value.int .i64 (k : Int)) rfl (by kernel_rfl) (by kernel_rfl) (by kernel_rfl) (fun _ _ _ h => by first | exact h | exact h.elim) (by decide) (fun _ _ => trivial) (fun _ _ => trivial) (Sx.before (by kernel_rfl) hs0.out) (Or.inl ⟨by rfl, fun uu hu => by go_simp⟩) ?_
        try go_simp
        refine wpAnyX_both (T := fun _ => True) (i := 2) (v := Value.pointer (some ⟨s, 0, none⟩)) rfl (by kernel_rfl) (by kernel_rfl) (by kernel_rfl) (fun _ _ _ h => by first | exact h | exact h.elim) (by decide) (fun _ _ => trivial) (fun _ _ => trivial) (Sx.before (by kernel_rfl) hs0.out) (Or.inl ⟨by rfl, fun uu hu => by go_simp⟩) ?_
        try go_simp
        refine wpAnyX_take (i := 3) (v := Value.agg #[Value.int .i64 op, Value.int .i64 vr, Value.int .i64 aa, Value.int .i64 bb, Value.int .i64 bw, Value.slice wa ws.length wc, Value.slice ka ks.length kc]) rfl (by kernel_rfl) (by kernel_rfl) (by kernel_rfl) (fun _ _ _ h => by first | exact h | exact h.elim) (by decide) (by kernel_rfl) (by kernel_rfl) hs0.out (Or.inl ⟨by rfl, fun uu hu => by obtain ⟨e0, e1, e2, e3, e4, e5, e6⟩ := hu; go_simp⟩) ?_
        try go_simp
        refine wpAnyX_take (i := 4) (v := Value.agg #[Value.int .i64 op, Value.int .i64 vr, Value.int .i64 aa, Value.int .i64 bb, Value.int .i64 bw, Value.slice wa ws.length wc, Value.slice ka ks.length kc]) rfl (by kernel_rfl) (by kernel_rfl) (by kernel_rfl) (fun _ _ _ h => by first | exact h | exact h.elim) (by decide) (by kernel_rfl) (by kernel_rfl) hs0.out (Or.inl ⟨by rfl, fun uu hu => by obtain ⟨e0, e1, e2, e3, e4, e5, e6⟩ := hu; go_simp⟩) ?_
        try go_simp
        refine wpAnyX_both (T := fun _ => True) (i := 5) (v := Value.slice (some ⟨gp, 0, none⟩) n n) rfl (by kernel_rfl) (by kernel_rfl) (by kernel_rfl) (fun _ _ _ h => by first | exact h | exact h.elim) (by decide) (fun _ _ => trivial) (fun _ _ => trivial) (Sx.before (by kernel_rfl) hs0.out) (Or.inl ⟨by rfl, fun uu hu => by go_simp⟩) ?_
        try go_simp
        refine wpAnyX_ready (rs := [6]) (by kernel_rfl) (by simp) (AllX.cons rfl (fun K hK => ?_) AllX.nil)
        go_simp
        refine Calls.mono (movedKids_any ⟨op, vr, aa, bb, bw, ws, ks⟩ wa ka wc kc gp n n gp TO _ RK_0.out NI_0.out HTL.out HTI.out HKN.out) ?_
        rintro e u1 ⟨kv, rfl, hko, hb6⟩
        rw [HKSM.out] at hko
        obtain ⟨ka2, kc2, hkv, hni⟩ := hko.ni
        rw [HKL.out] at hkv
        subst hkv
        obtain ⟨N, hN6⟩ : ∃ N, u0.heap.size = N := ⟨_, rfl⟩
        rw [hN6] at hni
        have XN_1 := kide (XN_0.out.later hb6)
        have AR_1 := kide (AR_0.out.later hb6)
        have NI_1 := kide (NI_0.out.later hb6)
        have RW_1 := kide (RW_0.out.later hb6)
        have BB_1 := kide (BB_0.out.trans (hb6.mono (Nat.le_trans HB0.out BB_0.out.size)))
        have HKI := kide hni
        have HNN : Hid (N ≤ u1.heap.size) := by rw [← hN6]; exact hb6.size
        have HLB : Hid (∀ x ∈ l, (∀ p, x.wa = some p → p.block < N) ∧ ∀ p, x.ka = some p → p.block < N) := by have h9 := AR_0.out.ts.below; rw [hN6] at h9; exact h9
        have HBN : Hid (w0.heap.size ≤ N) := by rw [← hN6]; exact BB_0.out.size
        have HGN : Hid (gp < N) := by rw [← hN6]; exact HG_0.out
        clear hko hb6 hni hN6
        have c0_1 : u1.cell? ⟨ν, 0, none⟩ = some (Value.int .i64 op) := XN_1.out.cell 0
        have c1_1 : u1.cell? ⟨ν, 1, none⟩ = some (Value.int .i64 vr) := XN_1.out.cell 1
        have c2_1 : u1.cell? ⟨ν, 2, none⟩ = some (Value.int .i64 aa) := XN_1.out.cell 2
        have c3_1 : u1.cell? ⟨ν, 3, none⟩ = some (Value.int .i64 bb) := XN_1.out.cell 3
        have c4_1 : u1.cell? ⟨ν, 4, none⟩ = some (Value.int .i64 bw) := XN_1.out.cell 4
        have c5_1 : u1.cell? ⟨ν, 5, none⟩ = some (Value.slice wa ws.length wc) := XN_1.out.cell 5
        have c6_1 : u1.cell? ⟨ν, 6, none⟩ = some (Value.slice ka ks.length kc) := XN_1.out.cell 6
        have hs1 : Hid ((fun uu => uu.cell? ⟨ν, 0, none⟩ = some (Value.int .i64 op) ∧ uu.cell? ⟨ν, 1, none⟩ = some (Value.int .i64 vr) ∧ uu.cell? ⟨ν, 2, none⟩ = some (Value.int .i64 aa) ∧ uu.cell? ⟨ν, 3, none⟩ = some (Value.int .i64 bb) ∧ uu.cell? ⟨ν, 4, none⟩ = some (Value.int .i64 bw) ∧ uu.cell? ⟨ν, 5, none⟩ = some (Value.slice wa ws.length wc) ∧ uu.cell? ⟨ν, 6, none⟩ = some (Value.slice ka ks.length kc)) u1) := ⟨c0_1, c1_1, c2_1, c3_1, c4_1, c5_1, c6_1⟩
        refine hK _ _ (Sx.before (by kernel_rfl) hs1.out) ?_
        clear hK K
        try go_simp
        refine wpAnyX_ready (rs := [7]) (by kernel_rfl) (by simp) (AllX.cons rfl (fun K hK => ?_) AllX.nil)
        go_simp
        have hadd := arenaAdd_any w0.heap.size s g N v D l ⟨op, vr, aa, bb, bw, ws, ks⟩ wa ka ka2 wc ks.length kc kc2 ksm _ AR_1.out RW_1.out HW0.out HKI.out HLB.out HBN.out HNN.out HOKT.out HLL.out
        rw [HKL.out] at hadd
        refine Calls.mono hadd ?_
        clear hadd
        rintro e u2 ⟨v2, D2, l2, i, rfl, har, hfr, hvb, hmem, hmt⟩
        have NI_2 := kide (NI_1.out.fr AR_1.out hfr)
        have BB_2 := kide (Below.fr BB_1.out (Nat.le_trans HB0.out BB_1.out.size) AR_1.out hfr)
        have XN_2 : Hid (Bz u2 ν #[Value.int .i64 op, Value.int .i64 vr, Value.int .i64 aa, Value.int .i64 bb, Value.int .i64 bw, Value.slice wa ws.length wc, Value.slice ka ks.length kc] 53) := XN_1.out.fr (by decide) AR_1.out (fun e => by have := HVN.out _ e; omega) hfr
        have AR_2 := kide har
        have HMT := kide hmt
        have HK2 : Hid (∀ y ∈ l2, ∀ p, y.ka = some p → gp ≠ p.block) := fun y hy p hp => by (rcases hmem y hy with h9 | h9); exact HKA.out y h9 p hp; exact Nat.ne_of_lt (Nat.lt_of_lt_of_le HGN.out (h9 p hp))
        have HG_2 : Hid (gp < u2.heap.size) := Nat.lt_of_lt_of_le HGN.out (Nat.le_trans HNN.out hfr.2.2.2.1)
        clear har hfr hvb hmem hmt
        have c0_2 : u2.cell? ⟨ν, 0, none⟩ = some (Value.int .i64 op) := XN_2.out.cell 0
        have c1_2 : u2.cell? ⟨ν, 1, none⟩ = some (Value.int .i64 vr) := XN_2.out.cell 1
        have c2_2 : u2.cell? ⟨ν, 2, none⟩ = some (Value.int .i64 aa) := XN_2.out.cell 2
        have c3_2 : u2.cell? ⟨ν, 3, none⟩ = some (Value.int .i64 bb) := XN_2.out.cell 3
        have c4_2 : u2.cell? ⟨ν, 4, none⟩ = some (Value.int .i64 bw) := XN_2.out.cell 4
        have c5_2 : u2.cell? ⟨ν, 5, none⟩ = some (Value.slice wa ws.length wc) := XN_2.out.cell 5
        have c6_2 : u2.cell? ⟨ν, 6, none⟩ = some (Value.slice ka ks.length kc) := XN_2.out.cell 6
        have hs2 : Hid ((fun uu => uu.cell? ⟨ν, 0, none⟩ = some (Value.int .i64 op) ∧ uu.cell? ⟨ν, 1, none⟩ = some (Value.int .i64 vr) ∧ uu.cell? ⟨ν, 2, none⟩ = some (Value.int .i64 aa) ∧ uu.cell? ⟨ν, 3, none⟩ = some (Value.int .i64 bb) ∧ uu.cell? ⟨ν, 4, none⟩ = some (Value.int .i64 bw) ∧ uu.cell? ⟨ν, 5, none⟩ = some (Value.slice wa ws.length wc) ∧ uu.cell? ⟨ν, 6, none⟩ = some (Value.slice ka ks.length kc)) u2) := ⟨c0_2, c1_2, c2_2, c3_2, c4_2, c5_2, c6_2⟩
        refine hK _ _ (Sx.before (by kernel_rfl) hs2.out) ?_
        clear hK K
        try go_simp
        refine wpAnyX_both (T := fun _ => True) (i := 8) (v := Value.pointer (some ⟨gp, k, none⟩)) rfl (by kernel_rfl) (by kernel_rfl) (by kernel_rfl) (fun _ _ _ h => by first | exact h | exact h.elim) (by decide) (fun _ _ => trivial) (fun _ _ => trivial) (Sx.before (by kernel_rfl) hs2.out) (Or.inl ⟨by rfl, fun uu hu => by go_simp⟩) ?_
        try go_simp
        refine wpAnyX_ready (rs := [9]) (by kernel_rfl) (by simp) (AllX.cons rfl (fun K hK => ?_) AllX.nil)
        obtain ⟨e0, f0⟩ := NI_2.out.cell (j := k) (by rw [HTL.out]; exact hlt)
        go_simp
        have AR_3 : Hid (Ar (u2.setCell ⟨gp, k, none⟩ (Value.int .i64 (i : Int))) w0.heap.size s g v2 D2 l2) := AR_2.out.out2 NI_2.out HNE.out HK2.out
        have NI_3 : Hid (Ni (u2.setCell ⟨gp, k, none⟩ (Value.int .i64 (i : Int))) gp (some ⟨gp, 0, none⟩) (TO.set k (i : Int))) := NI_2.out.put (by rw [HTL.out]; exact hlt) _
        have BB_3 : Hid (Below w0.heap.size w0 (u2.setCell ⟨gp, k, none⟩ (Value.int .i64 (i : Int)))) := BB_2.out.setCell HGP.out _
        have HG_3 : Hid (gp < (u2.setCell ⟨gp, k, none⟩ (Value.int .i64 (i : Int))).heap.size) := by show _ < _; simpa using HG_2.out
        clear e0 f0
        generalize u2.setCell ⟨gp, k, none⟩ (Value.int .i64 (i : Int)) = u3 at *
        refine hK _ _ (Sx.behind (by kernel_rfl) trivial) ?_
        clear hK K
        try go_simp
        refine wpAnyX_done (by kernel_rfl) ?_ _
        go_wp2_with fail
        go_roundw
        case rel => exact ⟨k + 1, v2, D2, l2, by omega, by go_num, AR_3.out, (HST.out HNV.out i l2 HMT.out).1, by rw [(HST.out HNV.out i l2 HMT.out).2]; exact NI_3.out, HK2.out, BB_3.out, HG_3.out⟩
        case measure => simp [intOf]; omega
    · have hkn : k = n := by omega
      subst hkn
      have hl2 := hsf.l2
      have hto : ((arTo vv root o1 ns k).2 ++ List.replicate (k - k) 0).length = k := by simpa using hl2
      obtain ⟨m, rfl⟩ : ∃ m, k = m + 1 := ⟨k - 1, by omega⟩
      have p9 := (HNI.out.cell (j := m) (by rw [hto]; omega)).1
      have hgy : ((arTo vv root o1 ns (m + 1)).2 ++ List.replicate (m + 1 - (m + 1)) 0).getD m 0 = (arTo vv root o1 ns (m + 1)).2.getD m 0 := by simp
      rw [hgy] at p9
      clear hgy hto hl2 hsf
      have HYE : Hid ((arTo vv root o1 ns ns.length).2.getD (ns.length - 1) 0 = (arTo vv root o1 ns (m + 1)).2.getD m 0) := by show _ = _; rw [HNL.out]; rfl
      generalize (arTo vv root o1 ns (m + 1)).2.getD m 0 = y at *
      go_wp2_with fail
      exact bodyPost_ret (v := .int .i64 y) (by simp [results, Tryz.results29, go_sem]) rfl ⟨v, D, l, by rw [HYE.out], HAR.out, by rw [HNL.out]; exact HCT.out, HBB.out⟩

end Go.Proofs.YtkkboaiablfdbaaGreatDoor
