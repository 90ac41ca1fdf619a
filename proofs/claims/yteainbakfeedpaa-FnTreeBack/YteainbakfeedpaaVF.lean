/- What the program's scanner does where a node begins: the walk. -/
import Derived.Test.YteainbakfeedpaaVE
import Derived.Test.YteainbakfeedpaaTF
namespace Go.Proofs.Yteainbakfeedpaa
set_option linter.unusedVariables false
set_option linter.unusedSimpArgs false
open Go.RowKit

/-- 'append(nodes, node)', the nodes the call's own. -/
theorem wpList_appN (w : World) {ops : Array Oper} {rest : List Oper} {o : Oper} {a : Act} {Q : Exit → Act → World → Prop} (hgd : o.guard = none) (s x : Operand)
    (ho : o.op = .call { callee := .builtin .append, args := #[s, x], argTypes := #[24, 24] })
    (base : Nat) (v : Value) (ns : List Nd) (t : ByteArray) (hs : a.eval s = v) (hown : ONs w base v ns) (b c : Nat) (hx : a.eval x = .slice (some ⟨b, 0, none⟩) 1 c)
    (h0 : w.heap[b]? = some (.cells #[.string t, .slice none 0 0] 59 (0, 0))) (hbase : base ≤ w.heap.size)
    (h : ∀ g cap w', w'.ownsRow base 59 2 (.slice (some ⟨g, 0, none⟩) (ns.length + 1) cap) (ns.length + 1) (nc ns ++ [.string t, .slice none 0 0]) → w.grownBy w' v.ownBlock → wpList Try.prog ops Q rest (a.put o.dst (.slice (some ⟨g, 0, none⟩) (ns.length + 1) cap)) w') :
    wpList Try.prog ops Q (o :: rest) a w := by
  obtain ⟨i0, hi, hz0, hz1, hz2⟩ := info_parts Try.infoNode
  have hl := hown.len
  refine wpList_append_lies w hgd s x 24 ho base 59 i0 _ 2 40 Try.underlying24 hi hz0 hz1 hz2 rfl (by decide) v ns.length (nc ns) hs hown.row ⟨b, 0, none⟩ 1 c [.string t, .slice none 0 0] hx rfl (World.news_of_block h0) ?_ (by decide) ?_ ?_ hbase _ rfl ?_
  · intro u hu
    simp at hu
    rcases hu with rfl | rfl <;> rfl
  · unfold maxLen; omega
  · omega
  · intro g cap w' h1 h2 h3 _
    exact h g cap w' h1 h2

/-- The same at a step of a region that draws its order. -/
theorem step_appN (w : World) {ops : Array Oper} {o : Oper} {a : Act} {K : Act → World → Prop} {Q : Exit → Act → World → Prop} {E : Prop} (hgd : o.guard = none) (s x : Operand)
    (ho : o.op = .call { callee := .builtin .append, args := #[s, x], argTypes := #[24, 24] })
    (base : Nat) (v : Value) (ns : List Nd) (t : ByteArray) (hs : a.eval s = v) (hown : ONs w base v ns) (b c : Nat) (hx : a.eval x = .slice (some ⟨b, 0, none⟩) 1 c)
    (h0 : w.heap[b]? = some (.cells #[.string t, .slice none 0 0] 59 (0, 0))) (hbase : base ≤ w.heap.size)
    (h : ∀ g cap w', w'.ownsRow base 59 2 (.slice (some ⟨g, 0, none⟩) (ns.length + 1) cap) (ns.length + 1) (nc ns ++ [.string t, .slice none 0 0]) → w.grownBy w' v.ownBlock → K (a.put o.dst (.slice (some ⟨g, 0, none⟩) (ns.length + 1) cap)) w') :
    if Region.wanted o (yielded ops a.tmps) = true then Oper.wp Try.prog o a w K Q else E := by
  obtain ⟨i0, hi, hz0, hz1, hz2⟩ := info_parts Try.infoNode
  have hl := hown.len
  refine step_append_lies w hgd s x 24 ho base 59 i0 _ 2 40 Try.underlying24 hi hz0 hz1 hz2 rfl (by decide) v ns.length (nc ns) hs hown.row ⟨b, 0, none⟩ 1 c [.string t, .slice none 0 0] hx rfl (World.news_of_block h0) ?_ (by decide) ?_ ?_ hbase _ rfl ?_
  · intro u hu
    simp at hu
    rcases hu with rfl | rfl <;> rfl
  · unfold maxLen; omega
  · omega
  · intro g cap w' h1 h2 h3 _
    exact h g cap w' h1 h2

theorem ct_kid {ns : List Nd} {u : Nat} {n : Nd} {g : Option Addr} {c : Nat} (h : ns[u]? = some n) : (ns.set u ⟨n.txt, g, c, n.ks ++ [(ns.length : Int)]⟩).map Nd.ct = addKid (ns.map Nd.ct) u := by
  unfold addKid
  rw [getD_ct h, List.map_set, List.length_map]
  rfl

theorem heap_at (w : World) (o : Obj) (k : Nat) (h : k = w.heap.size) : (w.alloc o).heap[k]? = some o := by subst h; exact heap_alloc_new _ _

set_option maxHeartbeats 1000000 in
set_option maxRecDepth 100000 in
theorem begin_open_nil (w : World) (B S p : Nat) (s : ByteArray) (vN vO : Value) (h : Sc w B S s vN vO [] []) (hp : p < s.size) (hs : s.size ≤ 20000) (hc : bn s p = 40) :
    Calls Try.prog 59 #[.pointer (some ⟨S, 0, none⟩), .int .i64 (p : Int)] w (RetG B S s (putC [] [] ⟨#[]⟩) [0] (p + 1) w) := by
  have e1 : (s[p]'hp).toNat = 40 := (get_bn s p hp).trans hc
  clear hc
  obtain ⟨c0, c1, c2, hfr⟩ := h.cells
  have hB := h.size
  have hSl := h.lt
  obtain ⟨aN, kN, hvN, -, -⟩ := h.nodes.shape
  subst hvN
  obtain ⟨aO, kO, rfl, -, -⟩ := h.row.shape
  simp only [oi_len] at c2
  have HZ0 := hidI (iSize w S 2 0 kO aO c2 (by omega))
  have HSC := hidI h
  have HL6 : Hid (([] : List Nd).length = 0) := rfl
  have fS1 := hfr 1
  clear h hfr
  go_enter Try.func59, Try.ntmps59
  go_wp2_with (first
    | (go_at_call 55; refine Calls.mono HZ0.out ?_; rintro e w ⟨rfl, rfl⟩)
    | (at_builtin; refine wpList_appN _ rfl _ _ rfl B _ [] ⟨#[]⟩ rfl (ONs.later HSC.out.nodes ((Below.refl _ _).alloc (Nat.le_refl _) _)) w.heap.size 1 rfl (heap_alloc_new _ _) (by simp; omega) ?_))
  intro g7 k7 w7 ho7 hg7
  have hS7 := Sc.later HSC.out ((Below.refl _ _).alloc (Nat.le_refl _) (Obj.cells #[Value.string ⟨#[]⟩, Value.slice none 0 0] 59))
  obtain ⟨hS8, hb8⟩ := Sc.pushN (t := ⟨#[]⟩) hS7 (by rw [HL6.out]; omega) hg7 ho7 (by decide)
  have hbk7 : w7.heap[S]? = some (.cells #[.string s, _, _] 55 (0, 0)) := (hg7.block S hS7.lt (fun e => owns_ne hS7.nodes.row hS7.blk (by decide) e.symm)).trans hS7.blk
  have m0 : w7.cell? ⟨S, 1, none⟩ = some (.slice aN ([] : List Nd).length kN) := by rw [cell_of_row w7 S 1 _ _ _ hbk7]; rfl
  have m1 := frozen_of_row w7 S 1 _ _ hbk7
  obtain ⟨-, -, m2, mf⟩ := hS8.cells
  have HP := hidI (iPush _ B S 2 _ (oi []) (0 : Int) m2 (mf 2) hS8.row (fun e => owns_ne hS8.row hS8.blk (by decide) e) (by rw [oi_len]; simp) hS8.size)
  have HS8 := hidI hS8
  have HB8 := hidI (Below.trans ((Below.refl B w).alloc hB _) hb8)
  clear hS7 hS8 hb8 hbk7 m2 mf ho7 hg7
  go_wp2_with fail
  refine Calls.mono HP.out ?_
  rintro e w9 ⟨g9, k9, wA, rfl, rfl, ho9, hg9, hat9⟩
  obtain ⟨hS9, hb9⟩ := Sc.pushO (u := 0) HS8.out hg9 ho9 hat9
  have HS9 := hidI hS9
  have HB9 := hidI (HB8.out.trans hb9)
  clear hS9 hb9 ho9 hg9 hat9
  go_wp2_with fail
  go_ret
  exact ⟨_, _, _, rfl, HS9.out, rfl, HB9.out⟩

set_option maxHeartbeats 1000000 in
set_option maxRecDepth 100000 in
theorem begin_open_cons (w : World) (B S p : Nat) (s : ByteArray) (vN vO : Value) (u : Nat) (ns : List Nd) (op : List Nat) (h : Sc w B S s vN vO ns (u :: op)) (hp : p < s.size) (hs : s.size ≤ 20000) (hc : bn s p = 40) (hI : Inv (ns.map Nd.ct) (u :: op)) (hn2 : ns.length < 2000) :
    Calls Try.prog 59 #[.pointer (some ⟨S, 0, none⟩), .int .i64 (p : Int)] w (RetG B S s (putC (ns.map Nd.ct) (u :: op) ⟨#[]⟩) (ns.length :: u :: op) (p + 1) w) := by
  have e1 : (s[p]'hp).toNat = 40 := (get_bn s p hp).trans hc
  clear hc
  obtain ⟨c0, c1, c2, hfr⟩ := h.cells
  have hul : u < ns.length := by have := hI.opn u (List.mem_cons_self ..); simpa using this
  have hnl := h.nodes.len
  obtain ⟨gN, kN, rfl, -, hgN, -⟩ := h.nodes.form (by omega)
  obtain ⟨gO, kO, hvO, -, -⟩ := World.ownsRow.form h.row (by rw [oi_len]; simp)
  subst hvO
  have hopl := hI.opl
  have hB := h.size
  have hSl := h.lt
  simp only [oi_len, List.length_cons] at c2 hopl
  have HZ0 := hidI (iSize w S 2 (op.length + 1) kO _ c2 (by omega))
  have HT := hidI (fun (n : Nat) => iTop (w.drewN n) S 2 gO op.length kO c2 (by omega))
  obtain ⟨⟨t, ak, ck, ks⟩, hx⟩ : ∃ x, ns[u] = x := ⟨_, rfl⟩
  have gx : ns[u]? = some ⟨t, ak, ck, ks⟩ := by rw [List.getElem?_eq_getElem hul, hx]
  obtain ⟨q0, q1, qf⟩ := h.nodes.cells gx
  have qf1 := qf (u * 2 + 1)
  have hks : ks.length ≤ ns.length := by
    have := hI.kid (t, ks) (List.mem_map.2 ⟨_, List.mem_of_getElem? gx, rfl⟩)
    simpa using this
  have hrk : RowI w B (.slice ak ks.length ck) ks := h.nodes.kid u _ gx
  have ho0 : w.cell? ⟨gO, op.length, none⟩ = some (.int .i64 (u : Int)) := by
    have hr := h.row
    rw [oi_cons] at hr
    have := World.ownsRow.cellAt hr op.length (by simp [oi_len])
    rw [this]
    simp [ints, oi_len]
  have i1 : (u : Int) < (ns.length : Int) := by omega
  simp only [Nd.v] at q1
  have i2 : (0 : Int) < (op.length : Int) + 1 := by omega
  obtain ⟨-, -, csN, frN, hbN⟩ := owns_typed h.nodes.row (k := gN) rfl
  have hSN : S ≠ gN := fun e => by rw [← e, h.blk] at hbN; cases hbN
  have HneN : Hid (some gN ≠ (Value.slice ak ks.length ck).ownBlock) := fun e => owns_ne hrk hbN (by decide) e.symm
  have HneS : Hid (some S ≠ (Value.slice ak ks.length ck).ownBlock) := fun e => owns_ne hrk h.blk (by decide) e.symm
  have HGX := hidI gx
  have HSC := hidI h
  have HRK := hidI hrk
  have fS1 := hfr 1
  clear hx gx h hrk qf hfr hbN
  go_enter Try.func59, Try.ntmps59
  go_wp2_with (go_at_call 55; refine Calls.mono HZ0.out ?_; rintro e w ⟨rfl, rfl⟩)
  go_quiet ((go_at_call 74; exact Calls.quiet_of (HT.out _)))
  have HSA : Hid (Sc ((w.drewN nq).alloc (Obj.cells #[Value.int IntKind.i64 (ns.length : Int)] 2)) B S s (.slice (some ⟨gN, 0, none⟩) ns.length kN) (.slice (some ⟨gO, 0, none⟩) (oi (u :: op)).length kO) ns (u :: op)) := Sc.later HSC.out ((below_drewN (Below.refl _ _) nq).alloc (Nat.le_refl _) _)
  go_wp2_with (at_builtin; refine wpList_appI _ rfl _ _ rfl B _ ks (ns.length : Int) rfl (RowI.later (w := w.drewN nq) HRK.out ((Below.refl _ _).alloc (Nat.le_refl _) _)) w.heap.size 1 rfl (cellNewI _ _ _ _ rfl) (by omega) (by simp; omega) _ rfl ?_)
  intro g5 k5 w5 ho5 hg5 hat5
  have d1 : w5.cell? ⟨gN, u * 2 + 1, none⟩ = some (.slice ak ks.length ck) := hg5.cell ((acellI _ _ _ _ hgN).trans q1) HneN.out
  have d2 : w5.frozen? ⟨gN, u * 2 + 1, none⟩ = false := (World.frozen?_of_block (hg5.block gN (by simp; omega) HneN.out)).trans ((World.frozen?_of_block (Below.heap_alloc _ _ _ hgN)).trans qf1)
  have d3 : w5.cell? ⟨S, 0, none⟩ = some (.string s) := hg5.cell ((acellI _ _ _ _ hSl).trans c0) HneS.out
  have d4 : w5.cell? ⟨S, 1, none⟩ = some (.slice (some ⟨gN, 0, none⟩) ns.length kN) := hg5.cell ((acellI _ _ _ _ hSl).trans c1) HneS.out
  have d5 : w5.frozen? ⟨S, 1, none⟩ = false := (World.frozen?_of_block (hg5.block S (by simp; omega) HneS.out)).trans ((World.frozen?_of_block (Below.heap_alloc _ _ _ hSl)).trans fS1)
  have hat' : (Nd.v ⟨t, ak, ck, ks⟩).ownBlock = some g5 ∨ ((w.drewN nq).alloc (Obj.cells #[Value.int IntKind.i64 (ns.length : Int)] 2)).heap.size ≤ g5 := by
    rcases hat5 with h' | h'
    · exact .inl h'
    · exact .inr (by rw [h']; simp)
  obtain ⟨hS6, hb6⟩ := Sc.addK HSA.out HGX.out hg5 ho5 hat' (show in64 _ from ⟨by omega, by omega⟩) (show ks.length < 2000 by omega)
  have hb6' : Below B w (w5.setCell ⟨gN, u * 2 + 1, none⟩ (.slice (some ⟨g5, 0, none⟩) (ks.length + 1) k5)) := ((below_drewN (Below.refl B w) nq).alloc hB _).trans hb6
  have HB6 : Hid (Below B w (w5.setCell ⟨gN, u * 2 + 1, none⟩ (.slice (some ⟨g5, 0, none⟩) (ks.length + 1) k5))) := hb6'
  have hB6 := hS6.size
  have HL6 : Hid ((ns.set u ⟨t, some ⟨g5, 0, none⟩, k5, ks ++ [(ns.length : Int)]⟩).length = ns.length) := by show _ = _; simp
  have HCT := hidI (ct_kid (g := some ⟨g5, 0, none⟩) (c := k5) HGX.out)
  have hS6l := hS6.lt
  have HS6 := hidI hS6
  clear hS6 hb6 hb6' hat' hat5 ho5 hg5 HSA HRK HSC
  generalize ns.set u ⟨t, some ⟨g5, 0, none⟩, k5, ks ++ [(ns.length : Int)]⟩ = ns6 at *
  go_wp2_with (at_builtin; refine wpList_appN _ rfl _ _ rfl B _ ns6 ⟨#[]⟩ rfl (ONs.later HS6.out.nodes ((Below.refl _ _).alloc (Nat.le_refl _) _)) w5.heap.size 1 rfl ((heap_at _ _ _ (by simp))) (by simp; simp at hB6; omega) ?_)
  intro g7 k7 w7 ho7 hg7
  have hS7 := Sc.later HS6.out ((Below.refl _ _).alloc (Nat.le_refl _) (Obj.cells #[Value.string ⟨#[]⟩, Value.slice none 0 0] 59))
  obtain ⟨hS8, hb8⟩ := Sc.pushN (t := ⟨#[]⟩) hS7 (by rw [HL6.out]; omega) hg7 ho7 (by decide)
  have hbk7 : w7.heap[S]? = some (.cells #[.string s, _, _] 55 (0, 0)) := (hg7.block S hS7.lt (fun e => owns_ne hS7.nodes.row hS7.blk (by decide) e.symm)).trans hS7.blk
  have m0 : w7.cell? ⟨S, 1, none⟩ = some (.slice (some ⟨gN, 0, none⟩) ns.length kN) := by rw [cell_of_row w7 S 1 _ _ _ hbk7]; rfl
  have m1 := frozen_of_row w7 S 1 _ _ hbk7
  obtain ⟨-, -, m2, mf⟩ := hS8.cells
  have HP := hidI (iPush _ B S 2 _ (oi (u :: op)) (ns.length : Int) m2 (mf 2) hS8.row (fun e => owns_ne hS8.row hS8.blk (by decide) e) (by rw [oi_len]; simp; omega) hS8.size)
  have HS8 := hidI hS8
  have HB8 := hidI (Below.trans (HB6.out.alloc hB6 _) hb8)
  clear hS7 hS8 hb8 hbk7 m2 mf ho7 hg7
  have hl9 : ns6.length + 1 = ns.length + 1 := by rw [HL6.out]
  rw [hl9] at HP HS8 HB8
  try rw [hl9]
  clear hl9
  go_wp2_with fail
  refine Calls.mono HP.out ?_
  rintro e w9 ⟨g9, k9, wA, rfl, rfl, ho9, hg9, hat9⟩
  obtain ⟨hS9, hb9⟩ := Sc.pushO (u := ns.length) HS8.out hg9 ho9 hat9
  have HS9 := hidI hS9
  have HB9 := hidI (HB8.out.trans hb9)
  clear hS9 hb9 ho9 hg9 hat9
  go_wp2_with fail
  go_ret
  exact ⟨_, _, _, rfl, HS9.out, by rw [List.map_append, HCT.out]; rfl, HB9.out⟩

set_option maxHeartbeats 1000000 in
set_option maxRecDepth 100000 in
theorem begin_atom_nil (w : World) (B S p : Nat) (s : ByteArray) (vN vO : Value) (h : Sc w B S s vN vO [] []) (hp : p < s.size) (hs : s.size ≤ 20000) (hc : atomB (bn s p) = true) :
    Calls Try.prog 59 #[.pointer (some ⟨S, 0, none⟩), .int .i64 (p : Int)] w (RetG B S s (putC [] [] (s.extract p (runE atomB s (s.size - p) p))) [] (runE atomB s (s.size - p) p) w) := by
  have e1 : (((s[p]'hp).toNat : Int) == 40) = false := by
    rw [get_bn s p hp]
    rcases atomB_cases (bn s p) with ⟨_, h'⟩ | ⟨_, _, h'⟩ | ⟨_, h'⟩ | ⟨_, h'⟩ | ⟨_, h'⟩ | ⟨_, _, h3, _, _, _⟩
    all_goals first | (rw [h'] at hc; cases hc) | (simp; omega)
  have hrun := runE_lt hp hc
  have hexs := extract_size s p (runE atomB s (s.size - p) p) hrun.2
  have HAE := hidI (fun (u : World) => atomEnd_any s p (by omega) (by omega) u)
  rw [aEnd_run] at HAE
  generalize runE atomB s (s.size - p) p = E at *
  have HCL := hidI (fun (u : World) => clone_any (s.extract p E) u (by omega))
  clear hc
  obtain ⟨c0, c1, c2, hfr⟩ := h.cells
  have hB := h.size
  have hSl := h.lt
  obtain ⟨aN, kN, hvN, -, -⟩ := h.nodes.shape
  subst hvN
  obtain ⟨aO, kO, rfl, -, -⟩ := h.row.shape
  simp only [oi_len] at c2
  have HZ0 := hidI (iSize w S 2 0 kO aO c2 (by omega))
  have HSC := hidI h
  have HL6 : Hid (([] : List Nd).length = 0) := rfl
  have fS1 := hfr 1
  clear h hfr
  go_enter Try.func59, Try.ntmps59
  go_wp2_with (first
    | (go_at_call 55; refine Calls.mono HZ0.out ?_; rintro e w ⟨rfl, rfl⟩)
    | (go_at_call 64; refine Calls.mono (HAE.out _) ?_; rintro e w ⟨rfl, rfl⟩))
  have hex' : (p : Int) ≤ (E : Int) := by omega
  have hex2 : (E : Int) ≤ (s.size : Int) := by omega
  have hsq := HSC.out
  have hBq0 : Hid (Below B w w) := Below.refl _ _
  have hlq : ([] : List Nd).length < 2000 := by rw [HL6.out]; omega
  obtain ⟨x0, x1, -, xf⟩ := hsq.cells
  have hBq := hsq.size
  have HSQ := hidI hsq
  clear hsq HSC
  go_region_law
    (first
      | (go_simp; go_at_call 76; refine Calls.mono (HCL.out _) ?_; rintro e wc ⟨rfl, hbc⟩; replace hbc := undrew hbc; have hsc := Sc.later HSQ.out hbc; obtain ⟨y0, y1, -, yf⟩ := hsc.cells; have hBc := hsc.size; have hSc := hsc.lt)
      | (refine step_appN _ rfl _ _ rfl B _ ([] : List Nd) (s.extract p E) rfl (ONs.later hsc.nodes ((Below.refl _ _).alloc (Nat.le_refl _) _)) wc.heap.size 1 rfl (heap_alloc_new _ _) (by simp; omega) ?_; intro g7 k7 w7 ho7 hg7; have hS7 := Sc.later hsc ((Below.refl _ _).alloc (Nat.le_refl _) (Obj.cells #[Value.string (s.extract p E), Value.slice none 0 0] 59)); have hbk7 := (hg7.block S hS7.lt (fun e => owns_ne hS7.nodes.row hS7.blk (by decide) e.symm)).trans hS7.blk; have m0 : w7.cell? ⟨S, 1, none⟩ = some (.slice aN ([] : List Nd).length kN) := by { rw [cell_of_row w7 S 1 _ _ _ hbk7]; rfl }; have m1 := frozen_of_row w7 S 1 _ _ hbk7))
  all_goals
    obtain ⟨hS8, hb8⟩ := Sc.pushN (t := s.extract p E) hS7 hlq hg7 ho7 (by omega)
    have HS8 := hidI hS8
    have HB8 := hidI (Below.trans (Below.trans hBq0.out (Below.mono (Below.trans hbc (Below.alloc (Below.refl _ _) hbc.size _)) hBq)) hb8)
    clear hS8 hb8 hbk7 ho7 hg7 hS7
    go_wp2_with fail
    go_ret
    exact ⟨_, _, _, rfl, HS8.out, rfl, HB8.out⟩

set_option maxHeartbeats 1000000 in
set_option maxRecDepth 100000 in
theorem begin_atom_cons (w : World) (B S p : Nat) (s : ByteArray) (vN vO : Value) (u : Nat) (ns : List Nd) (op : List Nat) (h : Sc w B S s vN vO ns (u :: op)) (hp : p < s.size) (hs : s.size ≤ 20000) (hc : atomB (bn s p) = true) (hI : Inv (ns.map Nd.ct) (u :: op)) (hn2 : ns.length < 2000) :
    Calls Try.prog 59 #[.pointer (some ⟨S, 0, none⟩), .int .i64 (p : Int)] w (RetG B S s (putC (ns.map Nd.ct) (u :: op) (s.extract p (runE atomB s (s.size - p) p))) (u :: op) (runE atomB s (s.size - p) p) w) := by
  have e1 : (((s[p]'hp).toNat : Int) == 40) = false := by
    rw [get_bn s p hp]
    rcases atomB_cases (bn s p) with ⟨_, h'⟩ | ⟨_, _, h'⟩ | ⟨_, h'⟩ | ⟨_, h'⟩ | ⟨_, h'⟩ | ⟨_, _, h3, _, _, _⟩
    all_goals first | (rw [h'] at hc; cases hc) | (simp; omega)
  have hrun := runE_lt hp hc
  have hexs := extract_size s p (runE atomB s (s.size - p) p) hrun.2
  have HAE := hidI (fun (u : World) => atomEnd_any s p (by omega) (by omega) u)
  rw [aEnd_run] at HAE
  generalize runE atomB s (s.size - p) p = E at *
  have HCL := hidI (fun (u : World) => clone_any (s.extract p E) u (by omega))
  clear hc
  obtain ⟨c0, c1, c2, hfr⟩ := h.cells
  have hul : u < ns.length := by have := hI.opn u (List.mem_cons_self ..); simpa using this
  have hnl := h.nodes.len
  obtain ⟨gN, kN, rfl, -, hgN, -⟩ := h.nodes.form (by omega)
  obtain ⟨gO, kO, hvO, -, -⟩ := World.ownsRow.form h.row (by rw [oi_len]; simp)
  subst hvO
  have hopl := hI.opl
  have hB := h.size
  have hSl := h.lt
  simp only [oi_len, List.length_cons] at c2 hopl
  have HZ0 := hidI (iSize w S 2 (op.length + 1) kO _ c2 (by omega))
  have HT := hidI (fun (n : Nat) => iTop (w.drewN n) S 2 gO op.length kO c2 (by omega))
  obtain ⟨⟨t, ak, ck, ks⟩, hx⟩ : ∃ x, ns[u] = x := ⟨_, rfl⟩
  have gx : ns[u]? = some ⟨t, ak, ck, ks⟩ := by rw [List.getElem?_eq_getElem hul, hx]
  obtain ⟨q0, q1, qf⟩ := h.nodes.cells gx
  have qf1 := qf (u * 2 + 1)
  have hks : ks.length ≤ ns.length := by
    have := hI.kid (t, ks) (List.mem_map.2 ⟨_, List.mem_of_getElem? gx, rfl⟩)
    simpa using this
  have hrk : RowI w B (.slice ak ks.length ck) ks := h.nodes.kid u _ gx
  have ho0 : w.cell? ⟨gO, op.length, none⟩ = some (.int .i64 (u : Int)) := by
    have hr := h.row
    rw [oi_cons] at hr
    have := World.ownsRow.cellAt hr op.length (by simp [oi_len])
    rw [this]
    simp [ints, oi_len]
  have i1 : (u : Int) < (ns.length : Int) := by omega
  simp only [Nd.v] at q1
  have i2 : (0 : Int) < (op.length : Int) + 1 := by omega
  obtain ⟨-, -, csN, frN, hbN⟩ := owns_typed h.nodes.row (k := gN) rfl
  have hSN : S ≠ gN := fun e => by rw [← e, h.blk] at hbN; cases hbN
  have HneN : Hid (some gN ≠ (Value.slice ak ks.length ck).ownBlock) := fun e => owns_ne hrk hbN (by decide) e.symm
  have HneS : Hid (some S ≠ (Value.slice ak ks.length ck).ownBlock) := fun e => owns_ne hrk h.blk (by decide) e.symm
  have HGX := hidI gx
  have HSC := hidI h
  have HRK := hidI hrk
  have fS1 := hfr 1
  clear hx gx h hrk qf hfr hbN
  go_enter Try.func59, Try.ntmps59
  go_wp2_with (go_at_call 55; refine Calls.mono HZ0.out ?_; rintro e w ⟨rfl, rfl⟩)
  go_quiet ((go_at_call 74; exact Calls.quiet_of (HT.out _)))
  have HSA : Hid (Sc ((w.drewN nq).alloc (Obj.cells #[Value.int IntKind.i64 (ns.length : Int)] 2)) B S s (.slice (some ⟨gN, 0, none⟩) ns.length kN) (.slice (some ⟨gO, 0, none⟩) (oi (u :: op)).length kO) ns (u :: op)) := Sc.later HSC.out ((below_drewN (Below.refl _ _) nq).alloc (Nat.le_refl _) _)
  go_wp2_with (at_builtin; refine wpList_appI _ rfl _ _ rfl B _ ks (ns.length : Int) rfl (RowI.later (w := w.drewN nq) HRK.out ((Below.refl _ _).alloc (Nat.le_refl _) _)) w.heap.size 1 rfl (cellNewI _ _ _ _ rfl) (by omega) (by simp; omega) _ rfl ?_)
  intro g5 k5 w5 ho5 hg5 hat5
  have d1 : w5.cell? ⟨gN, u * 2 + 1, none⟩ = some (.slice ak ks.length ck) := hg5.cell ((acellI _ _ _ _ hgN).trans q1) HneN.out
  have d2 : w5.frozen? ⟨gN, u * 2 + 1, none⟩ = false := (World.frozen?_of_block (hg5.block gN (by simp; omega) HneN.out)).trans ((World.frozen?_of_block (Below.heap_alloc _ _ _ hgN)).trans qf1)
  have d3 : w5.cell? ⟨S, 0, none⟩ = some (.string s) := hg5.cell ((acellI _ _ _ _ hSl).trans c0) HneS.out
  have d4 : w5.cell? ⟨S, 1, none⟩ = some (.slice (some ⟨gN, 0, none⟩) ns.length kN) := hg5.cell ((acellI _ _ _ _ hSl).trans c1) HneS.out
  have d5 : w5.frozen? ⟨S, 1, none⟩ = false := (World.frozen?_of_block (hg5.block S (by simp; omega) HneS.out)).trans ((World.frozen?_of_block (Below.heap_alloc _ _ _ hSl)).trans fS1)
  have hat' : (Nd.v ⟨t, ak, ck, ks⟩).ownBlock = some g5 ∨ ((w.drewN nq).alloc (Obj.cells #[Value.int IntKind.i64 (ns.length : Int)] 2)).heap.size ≤ g5 := by
    rcases hat5 with h' | h'
    · exact .inl h'
    · exact .inr (by rw [h']; simp)
  obtain ⟨hS6, hb6⟩ := Sc.addK HSA.out HGX.out hg5 ho5 hat' (show in64 _ from ⟨by omega, by omega⟩) (show ks.length < 2000 by omega)
  have hb6' : Below B w (w5.setCell ⟨gN, u * 2 + 1, none⟩ (.slice (some ⟨g5, 0, none⟩) (ks.length + 1) k5)) := ((below_drewN (Below.refl B w) nq).alloc hB _).trans hb6
  have HB6 : Hid (Below B w (w5.setCell ⟨gN, u * 2 + 1, none⟩ (.slice (some ⟨g5, 0, none⟩) (ks.length + 1) k5))) := hb6'
  have hB6 := hS6.size
  have HL6 : Hid ((ns.set u ⟨t, some ⟨g5, 0, none⟩, k5, ks ++ [(ns.length : Int)]⟩).length = ns.length) := by show _ = _; simp
  have HCT := hidI (ct_kid (g := some ⟨g5, 0, none⟩) (c := k5) HGX.out)
  have hS6l := hS6.lt
  have HS6 := hidI hS6
  clear hS6 hb6 hb6' hat' hat5 ho5 hg5 HSA HRK HSC
  generalize ns.set u ⟨t, some ⟨g5, 0, none⟩, k5, ks ++ [(ns.length : Int)]⟩ = ns6 at *
  go_wp2_with (go_at_call 64; refine Calls.mono (HAE.out _) ?_; rintro e wq ⟨rfl, hwq⟩; subst hwq)
  have hex' : (p : Int) ≤ (E : Int) := by omega
  have hex2 : (E : Int) ≤ (s.size : Int) := by omega
  have hsq := HS6.out
  have hBq0 : Hid (Below B w (w5.setCell ⟨gN, u * 2 + 1, none⟩ (.slice (some ⟨g5, 0, none⟩) (ks.length + 1) k5))) := HB6.out
  have hlq : ns6.length < 2000 := by rw [HL6.out]; omega
  generalize (w5.setCell ⟨gN, u * 2 + 1, none⟩ (.slice (some ⟨g5, 0, none⟩) (ks.length + 1) k5)) = wq at *
  obtain ⟨x0, x1, -, xf⟩ := hsq.cells
  have hBq := hsq.size
  have HSQ := hidI hsq
  clear hsq HS6
  go_region_law
    (first
      | (go_simp; go_at_call 76; refine Calls.mono (HCL.out _) ?_; rintro e wc ⟨rfl, hbc⟩; replace hbc := undrew hbc; have hsc := Sc.later HSQ.out hbc; obtain ⟨y0, y1, -, yf⟩ := hsc.cells; have hBc := hsc.size; have hSc := hsc.lt)
      | (refine step_appN _ rfl _ _ rfl B _ ns6 (s.extract p E) rfl (ONs.later hsc.nodes ((Below.refl _ _).alloc (Nat.le_refl _) _)) wc.heap.size 1 rfl (heap_alloc_new _ _) (by simp; omega) ?_; intro g7 k7 w7 ho7 hg7; have hS7 := Sc.later hsc ((Below.refl _ _).alloc (Nat.le_refl _) (Obj.cells #[Value.string (s.extract p E), Value.slice none 0 0] 59)); have hbk7 := (hg7.block S hS7.lt (fun e => owns_ne hS7.nodes.row hS7.blk (by decide) e.symm)).trans hS7.blk; have m0 : w7.cell? ⟨S, 1, none⟩ = some (.slice (some ⟨gN, 0, none⟩) ns.length kN) := by { rw [cell_of_row w7 S 1 _ _ _ hbk7]; rfl }; have m1 := frozen_of_row w7 S 1 _ _ hbk7))
  all_goals
    obtain ⟨hS8, hb8⟩ := Sc.pushN (t := s.extract p E) hS7 hlq hg7 ho7 (by omega)
    have HS8 := hidI hS8
    have HB8 := hidI (Below.trans (Below.trans hBq0.out (Below.mono (Below.trans hbc (Below.alloc (Below.refl _ _) hbc.size _)) hBq)) hb8)
    clear hS8 hb8 hbk7 ho7 hg7 hS7
    go_wp2_with fail
    go_ret
    exact ⟨_, _, _, rfl, HS8.out, by rw [List.map_append, HCT.out]; rfl, HB8.out⟩

end Go.Proofs.Yteainbakfeedpaa
