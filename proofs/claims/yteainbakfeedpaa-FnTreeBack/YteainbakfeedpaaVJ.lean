/- What the given reader does where a node begins. -/
import Derived.Test.YteainbakfeedpaaVI
namespace Go.Proofs.Yteainbakfeedpaa
set_option linter.unusedVariables false
set_option linter.unusedSimpArgs false
open Go.RowKit

/-- The nodes behind a node that begins, at the given reader. -/
def RetH (B R : Nat) (cs : List Ct) (op : List Nat) (w : World) (e : Ending) (w' : World) : Prop :=
  ∃ (vN vO : Value) (ns : List Nd), e = .returned (.int .i64 0) ∧ Sr w' B R vN vO ns op ∧ ns.map Nd.ct = cs ∧ Below B w w'

theorem sBegin_no (w : World) (B R : Nat) (t : ByteArray) (vN vO : Value) (ns : List Nd) (op : List Nat) (h : Sr w B R vN vO ns op) (hop : op.length ≤ 1000) (hb : begF (ns.map Nd.ct) op ≠ 0) :
    Calls Try.prog 36 #[.pointer (some ⟨R, 0, none⟩), .string t] w fun e w' => e = .returned (.int .i64 ((begF (ns.map Nd.ct) op : Nat) : Int)) ∧ w' = w := by
  obtain ⟨c0, c1, -⟩ := h.cells
  obtain ⟨aN, kN, rfl, -, -⟩ := h.nodes.shape
  obtain ⟨aO, kO, rfl, -, -⟩ := h.row.shape
  have hnl := h.nodes.len
  rw [oi_len] at c1
  clear h
  rcases begF_cases ns op with ⟨rfl, h1, hF⟩ | ⟨rfl, rfl, hF⟩ | ⟨h1, h2, hF⟩ | ⟨h1, h2, h3, hF⟩ | ⟨h1, h2, h3, hF⟩
  · rw [hF]
    have i1 : (0 : Int) < (ns.length : Int) := by omega
    clear hF hb
    go_enter Try.func36, Try.ntmps36
    go_wp2_with fail
    go_ret
    exact ⟨rfl, rfl⟩
  · exact absurd hF hb
  · rw [hF]
    have i1 : ((op.length : Int) == 0) = false := beq_eq_false_iff_ne.2 (by omega)
    have i2 : (100 : Int) < (op.length : Int) := by omega
    clear hF h1 hb
    go_enter Try.func36, Try.ntmps36
    go_wp2_with fail
    go_ret
    exact ⟨rfl, rfl⟩
  · rw [hF]
    have i1 : ((op.length : Int) == 0) = false := beq_eq_false_iff_ne.2 (by omega)
    have i2 : (op.length : Int) ≤ 100 := by omega
    have i3 : ((ns.length : Int) == 2000) = true := beq_iff_eq.2 (by omega)
    clear hF h1 h3 hb
    go_enter Try.func36, Try.ntmps36
    go_wp2_with fail
    go_ret
    exact ⟨rfl, rfl⟩
  · exact absurd hF hb

set_option maxHeartbeats 1000000 in
set_option maxRecDepth 100000 in
theorem sBegin_nil (w : World) (B R : Nat) (t : ByteArray) (vN vO : Value) (h : Sr w B R vN vO [] []) (ht : t.size ≤ 1048576) :
    Calls Try.prog 36 #[.pointer (some ⟨R, 0, none⟩), .string t] w (RetH B R (putC [] [] t) [] w) := by
  obtain ⟨c0, c1, hfr⟩ := h.cells
  have hB := h.size
  have hRl := h.lt
  obtain ⟨aN, kN, hvN, -, -⟩ := h.nodes.shape
  subst hvN
  obtain ⟨aO, kO, rfl, -, -⟩ := h.row.shape
  simp only [oi_len] at c1
  have HSR := hidI h
  clear h hfr
  go_enter Try.func36, Try.ntmps36
  go_wp2_with (at_builtin; refine wpList_appN _ rfl _ _ rfl B _ [] t rfl (ONs.later HSR.out.nodes ((Below.refl _ _).alloc (Nat.le_refl _) _)) w.heap.size 1 rfl (heap_alloc_new _ _) (by simp; omega) ?_)
  intro g7 k7 w7 ho7 hg7
  have hS7 := Sr.later HSR.out ((Below.refl _ _).alloc (Nat.le_refl _) (Obj.cells #[Value.string t, Value.slice none 0 0] 59))
  obtain ⟨hS8, hb8⟩ := Sr.pushN (t := t) hS7 (by simp) hg7 ho7 ht
  have hbk7 := (hg7.block R hS7.lt (fun e => owns_ne hS7.nodes.row hS7.blk (by decide) e.symm)).trans hS7.blk
  have m0 : w7.cell? ⟨R, 0, none⟩ = some (.slice aN ([] : List Nd).length kN) := by rw [cell_of_row w7 R 0 _ _ _ hbk7]; rfl
  have m1 : w7.cell? ⟨R, 1, none⟩ = some (.slice aO (oi []).length kO) := by rw [cell_of_row w7 R 1 _ _ _ hbk7]; rfl
  have m2 := frozen_of_row w7 R 0 _ _ hbk7
  rw [oi_len] at m1
  have HS8 := hidI hS8
  have HB8 := hidI (Below.trans ((Below.refl B w).alloc hB _) hb8)
  clear hS7 hS8 hb8 hbk7 ho7 hg7
  go_wp2_with fail
  go_ret
  exact ⟨_, _, _, rfl, HS8.out, rfl, HB8.out⟩

set_option maxHeartbeats 1000000 in
set_option maxRecDepth 100000 in
theorem sBegin_cons (w : World) (B R : Nat) (t : ByteArray) (vN vO : Value) (u : Nat) (ns : List Nd) (op : List Nat) (h : Sr w B R vN vO ns (u :: op)) (ht : t.size ≤ 1048576) (hI : Inv (ns.map Nd.ct) (u :: op)) (hn2 : ns.length < 2000) (ho1 : op.length + 1 ≤ 100) :
    Calls Try.prog 36 #[.pointer (some ⟨R, 0, none⟩), .string t] w (RetH B R (putC (ns.map Nd.ct) (u :: op) t) (u :: op) w) := by
  obtain ⟨c0, c1, hfr⟩ := h.cells
  have hB := h.size
  have hRl := h.lt
  have hul : u < ns.length := by have := hI.opn u (List.mem_cons_self ..); simpa using this
  obtain ⟨gN, kN, hvN, -, hgN, -⟩ := h.nodes.form (by omega)
  subst hvN
  obtain ⟨gO, kO, hvO, -, -⟩ := World.ownsRow.form h.row (by rw [oi_len]; simp)
  subst hvO
  simp only [oi_len, List.length_cons] at c1
  have hks : ∀ n, ns[u]? = some n → n.ks.length ≤ ns.length := fun n gx => by
    have := hI.kid n.ct (List.mem_map.2 ⟨_, List.mem_of_getElem? gx, rfl⟩)
    simpa [Nd.ct] using this
  have HSR := hidI h
  have i1 : (((op.length : Int) + 1) == 0) = false := beq_eq_false_iff_ne.2 (by omega)
  have i2 : ((ns.length : Int) == 2000) = false := beq_eq_false_iff_ne.2 (by omega)
  have HKS := hidI hks
  clear h hfr hks
  go_enter Try.func36, Try.ntmps36
  go_wp2_with (at_builtin; refine wpList_appN _ rfl _ _ rfl B _ ns t rfl (ONs.later HSR.out.nodes ((Below.refl _ _).alloc (Nat.le_refl _) _)) w.heap.size 1 rfl (heap_alloc_new _ _) (by simp; omega) ?_)
  intro g7 k7 w7 ho7 hg7
  have hS7 := Sr.later HSR.out ((Below.refl _ _).alloc (Nat.le_refl _) (Obj.cells #[Value.string t, Value.slice none 0 0] 59))
  obtain ⟨hS8, hb8⟩ := Sr.pushN (t := t) hS7 hn2 hg7 ho7 ht
  have hbk7 := (hg7.block R hS7.lt (fun e => owns_ne hS7.nodes.row hS7.blk (by decide) e.symm)).trans hS7.blk
  have m0 : w7.cell? ⟨R, 0, none⟩ = some (.slice (some ⟨gN, 0, none⟩) ns.length kN) := by rw [cell_of_row w7 R 0 _ _ _ hbk7]; rfl
  have m1 : w7.cell? ⟨R, 1, none⟩ = some (.slice (some ⟨gO, 0, none⟩) (oi (u :: op)).length kO) := by rw [cell_of_row w7 R 1 _ _ _ hbk7]; rfl
  have m2 := frozen_of_row w7 R 0 _ _ hbk7
  simp only [oi_len, List.length_cons] at m1
  have HB8 := hidI (Below.trans ((Below.refl B w).alloc hB _) hb8)
  clear hS7 hb8 hbk7 ho7 hg7
  go_wp2_with fail
  generalize (w7.setCell { block := R, off := 0 } (Value.slice (some { block := g7, off := 0 }) (ns.length + 1) k7)) = w8 at *
  obtain ⟨n0, n1, nf⟩ := hS8.cells
  simp only [oi_len, List.length_cons] at n1
  obtain ⟨gO', kO', hvO, -, -, htop, -, -⟩ := hS8.popO
  simp only [oi_len, List.length_cons] at hvO
  cases hvO
  have hB8 := hS8.size
  obtain ⟨⟨t2, ak, ck, ks⟩, hx⟩ : ∃ x, ns[u] = x := ⟨_, rfl⟩
  have gx : ns[u]? = some ⟨t2, ak, ck, ks⟩ := by rw [List.getElem?_eq_getElem hul, hx]
  have gx8 : (ns ++ [⟨t, none, 0, []⟩])[u]? = some ⟨t2, ak, ck, ks⟩ := by rw [List.getElem?_append_left hul]; exact gx
  have hks := HKS.out _ gx
  simp only [] at hks
  obtain ⟨q0, q1, qf⟩ := hS8.nodes.cells gx8
  have qf1 := qf (u * 2 + 1)
  have hrk : RowI w8 B (.slice ak ks.length ck) ks := hS8.nodes.kid u _ gx8
  obtain ⟨-, hg7l, csN, frN, hbN⟩ := owns_typed hS8.nodes.row (k := g7) rfl
  have HneN : Hid (some g7 ≠ (Value.slice ak ks.length ck).ownBlock) := fun e => owns_ne hrk hbN (by decide) e.symm
  have HneR : Hid (some R ≠ (Value.slice ak ks.length ck).ownBlock) := fun e => owns_ne hrk hS8.blk (by decide) e.symm
  have hR8 := hS8.lt
  simp only [Nd.v] at q1
  have j1 : (u : Int) < (ns.length : Int) + 1 := by omega
  have j2 : (op.length : Int) < (op.length : Int) + 1 := by omega
  have HS8 := hidI hS8
  have HRK := hidI hrk
  have HGX := hidI gx
  have HGX8 := hidI gx8
  clear hS8 hrk hx gx gx8 qf nf hbN m0 m1 m2 c0 c1
  go_quiet (fail)
  go_wp2_with fail
  have hS9 := Sr.later HS8.out (below_drewN (Below.refl w8.heap.size w8) nq)
  have hrk9 : RowI (w8.drewN nq) B (.slice ak ks.length ck) ks := HRK.out
  have HB9 := hidI (below_drewN HB8.out nq)
  have n09 : (w8.drewN nq).cell? ⟨R, 0, none⟩ = some (Value.slice (some ⟨g7, 0, none⟩) (ns.length + 1) k7) := n0
  have q19 : (w8.drewN nq).cell? ⟨g7, u * 2 + 1, none⟩ = some (Value.slice ak ks.length ck) := q1
  have qf9 : (w8.drewN nq).frozen? ⟨g7, u * 2 + 1, none⟩ = false := qf1
  have hg9 : g7 < (w8.drewN nq).heap.size := hg7l
  have hR9 : R < (w8.drewN nq).heap.size := hR8
  have hB9 : B ≤ (w8.drewN nq).heap.size := hB8
  clear HS8 HRK HB8 n0 q1 qf1 hg7l hR8 hB8 n1 q0 htop
  generalize w8.drewN nq = w9 at *
  have HS9 := hidI hS9
  have HSA := hidI (Sr.later hS9 (((Below.refl w9.heap.size w9).drew).alloc (Nat.le_refl _) (Obj.cells #[Value.int IntKind.i64 (ns.length : Int)] 2)))
  have HRK := hidI hrk9
  clear hS9 hrk9
  go_region_law
    (first
      | (refine step_appI _ rfl _ _ rfl B _ ks (ns.length : Int) rfl (RowI.later HRK.out (((Below.refl w9.heap.size w9).drew).alloc (Nat.le_refl _) _)) w9.heap.size 1 rfl (cellNewI _ _ _ _ rfl) (by omega) (by simp; omega) _ rfl ?_; intro g5 k5 w5 ho5 hg5 hat5; have d1 : w5.cell? ⟨g7, u * 2 + 1, none⟩ = some (.slice ak ks.length ck) := hg5.cell ((acellI _ _ _ _ hg9).trans q19) HneN.out; have d2 : w5.frozen? ⟨g7, u * 2 + 1, none⟩ = false := (World.frozen?_of_block (hg5.block g7 (by simp; omega) HneN.out)).trans ((World.frozen?_of_block (Below.heap_alloc _ _ _ hg9)).trans qf9); have d3 : w5.cell? ⟨R, 0, none⟩ = some (.slice (some ⟨g7, 0, none⟩) (ns.length + 1) k7) := hg5.cell ((acellI _ _ _ _ hR9).trans n09) HneR.out))
  all_goals
    have hat' : (Nd.v ⟨t2, ak, ck, ks⟩).ownBlock = some g5 ∨ (w9.drew.alloc (Obj.cells #[Value.int IntKind.i64 (ns.length : Int)] 2)).heap.size ≤ g5 := by
      rcases hat5 with h' | h'
      · exact .inl h'
      · exact .inr (by rw [h']; simp)
    obtain ⟨hS6, hb6⟩ := Sr.addK HSA.out HGX8.out hg5 ho5 hat' (show in64 _ from ⟨by omega, by omega⟩) (show ks.length < 2000 by omega)
    have HB6 := hidI (HB9.out.trans (((Below.refl B w9).drew.alloc hB9 _).trans hb6))
    have HS6 := hidI hS6
    clear hS6 hb6 hat' hat5 ho5 hg5
    go_wp2_with fail
    go_ret
    refine ⟨_, _, _, rfl, HS6.out, ?_, HB6.out⟩
    rw [List.set_append_left _ _ hul, List.map_append]
    rw [show (ns.length : Int) = (ns.length : Int) from rfl]
    have h := ct_kid (g := some ⟨g5, 0, none⟩) (c := k5) HGX.out
    simp only [] at h
    rw [h]
    rfl

theorem sBegin_yes (w : World) (B R : Nat) (t : ByteArray) (vN vO : Value) (ns : List Nd) (op : List Nat) (h : Sr w B R vN vO ns op) (ht : t.size ≤ 1048576) (hI : Inv (ns.map Nd.ct) op) (hb : begF (ns.map Nd.ct) op = 0) :
    Calls Try.prog 36 #[.pointer (some ⟨R, 0, none⟩), .string t] w (RetH B R (putC (ns.map Nd.ct) op t) op w) := by
  rcases begF_zero hb with ⟨rfl, rfl⟩ | ⟨h1, h2, h3⟩
  · exact sBegin_nil w B R t vN vO h ht
  · cases op with
    | nil => simp at h1
    | cons u op => exact sBegin_cons w B R t vN vO u ns op h ht hI (by have := h.nodes.len; omega) (by simpa using h2)

end Go.Proofs.Yteainbakfeedpaa
