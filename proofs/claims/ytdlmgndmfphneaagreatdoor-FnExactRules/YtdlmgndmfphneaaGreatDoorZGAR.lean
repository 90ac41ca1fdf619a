/- Several texts in one. -/
import Derived.Test.YtdlmgndmfphneaaGreatDoorZGAQ
import Derived.Test.YtdlmgndmfphneaaGreatDoorZGAQ
import Derived.Test.YtdlmgndmfphneaaGreatDoorZGAQ
import Derived.Test.YtdlmgndmfphneaaGreatDoorEW

/- What each of the evaluator's methods answers of a node at its place. -/
namespace Go.Proofs.YtdlmgndmfphneaaGreatDoor
set_option linter.unusedVariables false
set_option linter.unusedSimpArgs false
open Go.RowKit

theorem one_kid {vs all : List Wd} {l : List Bw} {n : Tc} (hA : NodeAt vs all n) (h4 : 4 ≤ n.op) (hl : l.map Bw.ct = all := by rfl) :
    ∃ (j : Nat) (x : Bw), n.ks.length = 1 ∧ n.ks.getD 0 0 = (j : Int) ∧ l[j]? = some x ∧ all.getD (n.ks.getD 0 0).toNat (0, []) = x.ct ∧ okWd x.ct := by
  have h1 := hA.one h4
  have hm : n.ks.getD 0 0 ∈ n.ks := by
    have : n.ks.getD 0 0 = n.ks[0] := by simp [List.getD, show 0 < n.ks.length by omega]
    rw [this]; exact List.getElem_mem _
  have hk := hA.kid _ hm
  subst hl
  simp only [List.length_map] at hk
  have hjl : (n.ks.getD 0 0).toNat < l.length := by omega
  refine ⟨(n.ks.getD 0 0).toNat, l[(n.ks.getD 0 0).toNat], h1, by omega, List.getElem?_eq_getElem hjl, ?_, ?_⟩
  · rw [List.getD, List.getElem?_map, List.getElem?_eq_getElem hjl]; rfl
  · exact hA.oks _ (List.mem_map_of_mem (List.getElem_mem hjl))

theorem wf_in64 {x : Int} (h : in64 x) : (Lit.int .i64 x).wf = true := by
  unfold in64 at h
  have a1 : IntKind.i64.min ≤ x := by have : IntKind.i64.min = -9223372036854775808 := by decide
                                      omega
  have a2 : x ≤ IntKind.i64.max := by have : IntKind.i64.max = 9223372036854775807 := by decide
                                      omega
  simp only [Lit.wf, a1, a2, decide_true, Bool.and_self]

theorem len_ok {x : Wd} (h : okWd x) : 1 ≤ x.2.length := by have := right_W h.1; omega

theorem meth1 (eb : Nat) (vs l : List Bw) (n : Tc) (wa ka : Option Addr) (wc kc : Nat) (u : World) (hE : Evl u eb vs l) (hA : NodeAt (vs.map Bw.ct) (l.map Bw.ct) n) (hk : RdI u ka n.ks) (hw : Rd u wa n.ws) (h64 : in64 n.a) (ho : n.op = 1) : Calls Tryz.prog 129 #[.pointer (some ⟨eb, 0, none⟩), nodA n wa ka wc kc] u (RetV u (nodV (vs.map Bw.ct) (l.map Bw.ct) n)) := by
  obtain ⟨h1, h2⟩ := hA.var ho
  simp only [List.length_map] at h2
  have hl : n.vr.toNat < vs.length := by omega
  have e : nodV (vs.map Bw.ct) (l.map Bw.ct) n = (vs[n.vr.toNat]).ct := by
    unfold nodV
    rw [if_pos ho, List.getD, List.getElem?_map, List.getElem?_eq_getElem hl]; rfl
  have hi := hA.is
  rw [e] at hi ⊢
  exact evVar_any eb vs l n wa ka wc kc u hE n.vr.toNat _ (by omega) (List.getElem?_eq_getElem hl) (len_ok hi)

theorem meth2 (eb : Nat) (vs l : List Bw) (n : Tc) (wa ka : Option Addr) (wc kc : Nat) (u : World) (hE : Evl u eb vs l) (hA : NodeAt (vs.map Bw.ct) (l.map Bw.ct) n) (hk : RdI u ka n.ks) (hw : Rd u wa n.ws) (h64 : in64 n.a) (ho : n.op = 2) : Calls Tryz.prog 130 #[.pointer (some ⟨eb, 0, none⟩), nodA n wa ka wc kc] u (RetV u (nodV (vs.map Bw.ct) (l.map Bw.ct) n)) := by
  have e : nodV (vs.map Bw.ct) (l.map Bw.ct) n = (n.bw, n.ws) := by
    unfold nodV
    rw [if_neg (by omega), if_pos ho]
  have hi := hA.is
  rw [e] at hi ⊢
  exact evConst_any eb n wa ka wc kc u hw (len_ok hi)

theorem meth3 (eb : Nat) (vs l : List Bw) (n : Tc) (wa ka : Option Addr) (wc kc : Nat) (u : World) (hE : Evl u eb vs l) (hA : NodeAt (vs.map Bw.ct) (l.map Bw.ct) n) (hk : RdI u ka n.ks) (hw : Rd u wa n.ws) (h64 : in64 n.a) (ho : n.op = 3) : Calls Tryz.prog 131 #[.pointer (some ⟨eb, 0, none⟩), nodA n wa ka wc kc] u (RetV u (nodV (vs.map Bw.ct) (l.map Bw.ct) n)) := by
  have e : nodV (vs.map Bw.ct) (l.map Bw.ct) n = catS (kidsV (l.map Bw.ct) n.ks) := by
    unfold nodV
    rw [if_neg (by omega), if_neg (by omega), if_pos ho]
  rw [e]
  exact evCat_any eb vs l n wa ka wc kc u hE hk (fun j hj => by have := hA.kid j hj; simpa using this) (by have := hA.many ho; omega) (hA.fit ho) hA.oks

theorem meth4 (eb : Nat) (vs l : List Bw) (n : Tc) (wa ka : Option Addr) (wc kc : Nat) (u : World) (hE : Evl u eb vs l) (hA : NodeAt (vs.map Bw.ct) (l.map Bw.ct) n) (hk : RdI u ka n.ks) (hw : Rd u wa n.ws) (h64 : in64 n.a) (ho : n.op = 4) : Calls Tryz.prog 132 #[.pointer (some ⟨eb, 0, none⟩), nodA n wa ka wc kc] u (RetV u (nodV (vs.map Bw.ct) (l.map Bw.ct) n)) := by
  obtain ⟨j, x, h1, h2, h3, h4, h5⟩ := one_kid hA (by omega)
  have e : nodV (vs.map Bw.ct) (l.map Bw.ct) n = two (partR x.wd x.ws n.a n.b) := by
    have hg : (l.map Bw.ct).getD (n.ks.getD 0 0).toNat (0, []) = (x.wd, x.ws) := h4
    unfold nodV opV
    simp only [ho, hg]
    simp
  rw [e]
  exact evPart_any eb vs l n wa ka wc kc u hE hk h1 j x h2 h3 (wf_in64 h64)

theorem meth5 (eb : Nat) (vs l : List Bw) (n : Tc) (wa ka : Option Addr) (wc kc : Nat) (u : World) (hE : Evl u eb vs l) (hA : NodeAt (vs.map Bw.ct) (l.map Bw.ct) n) (hk : RdI u ka n.ks) (hw : Rd u wa n.ws) (h64 : in64 n.a) (ho : n.op = 5) : Calls Tryz.prog 133 #[.pointer (some ⟨eb, 0, none⟩), nodA n wa ka wc kc] u (RetV u (nodV (vs.map Bw.ct) (l.map Bw.ct) n)) := by
  obtain ⟨j, x, h1, h2, h3, h4, h5⟩ := one_kid hA (by omega)
  have e : nodV (vs.map Bw.ct) (l.map Bw.ct) n = two (wdnR x.wd x.ws n.a false) := by
    have hg : (l.map Bw.ct).getD (n.ks.getD 0 0).toNat (0, []) = (x.wd, x.ws) := h4
    unfold nodV opV
    simp only [ho, hg]
    simp
  rw [e]
  exact evZero_any eb vs l n wa ka wc kc u hE hk h1 j x h2 h3

theorem meth6 (eb : Nat) (vs l : List Bw) (n : Tc) (wa ka : Option Addr) (wc kc : Nat) (u : World) (hE : Evl u eb vs l) (hA : NodeAt (vs.map Bw.ct) (l.map Bw.ct) n) (hk : RdI u ka n.ks) (hw : Rd u wa n.ws) (h64 : in64 n.a) (ho : n.op = 6) : Calls Tryz.prog 134 #[.pointer (some ⟨eb, 0, none⟩), nodA n wa ka wc kc] u (RetV u (nodV (vs.map Bw.ct) (l.map Bw.ct) n)) := by
  obtain ⟨j, x, h1, h2, h3, h4, h5⟩ := one_kid hA (by omega)
  have e : nodV (vs.map Bw.ct) (l.map Bw.ct) n = two (wdnR x.wd x.ws n.a true) := by
    have hg : (l.map Bw.ct).getD (n.ks.getD 0 0).toNat (0, []) = (x.wd, x.ws) := h4
    unfold nodV opV
    simp only [ho, hg]
    simp
  rw [e]
  exact evSign_any eb vs l n wa ka wc kc u hE hk h1 j x h2 h3

theorem meth7 (eb : Nat) (vs l : List Bw) (n : Tc) (wa ka : Option Addr) (wc kc : Nat) (u : World) (hE : Evl u eb vs l) (hA : NodeAt (vs.map Bw.ct) (l.map Bw.ct) n) (hk : RdI u ka n.ks) (hw : Rd u wa n.ws) (h64 : in64 n.a) (ho : n.op = 7) : Calls Tryz.prog 135 #[.pointer (some ⟨eb, 0, none⟩), nodA n wa ka wc kc] u (RetV u (nodV (vs.map Bw.ct) (l.map Bw.ct) n)) := by
  obtain ⟨j, x, h1, h2, h3, h4, h5⟩ := one_kid hA (by omega)
  have e : nodV (vs.map Bw.ct) (l.map Bw.ct) n = two (turnR x.wd x.ws n.a) := by
    have hg : (l.map Bw.ct).getD (n.ks.getD 0 0).toNat (0, []) = (x.wd, x.ws) := h4
    unfold nodV opV
    simp only [ho, hg]
    simp
  rw [e]
  exact evLeft_any eb vs l n wa ka wc kc u hE hk h1 j x h2 h3

theorem meth8 (eb : Nat) (vs l : List Bw) (n : Tc) (wa ka : Option Addr) (wc kc : Nat) (u : World) (hE : Evl u eb vs l) (hA : NodeAt (vs.map Bw.ct) (l.map Bw.ct) n) (hk : RdI u ka n.ks) (hw : Rd u wa n.ws) (h64 : in64 n.a) (ho : n.op = 8) : Calls Tryz.prog 136 #[.pointer (some ⟨eb, 0, none⟩), nodA n wa ka wc kc] u (RetV u (nodV (vs.map Bw.ct) (l.map Bw.ct) n)) := by
  obtain ⟨j, x, h1, h2, h3, h4, h5⟩ := one_kid hA (by omega)
  have e : nodV (vs.map Bw.ct) (l.map Bw.ct) n = two (turnR x.wd x.ws ((x.wd - n.a % x.wd) % x.wd)) := by
    have hg : (l.map Bw.ct).getD (n.ks.getD 0 0).toNat (0, []) = (x.wd, x.ws) := h4
    unfold nodV opV
    simp only [ho, hg]
    simp
  rw [e]
  exact evRight_any eb vs l n wa ka wc kc u hE hk h1 j x h2 h3 h5 (hA.wide ho)

theorem meth9 (eb : Nat) (vs l : List Bw) (n : Tc) (wa ka : Option Addr) (wc kc : Nat) (u : World) (hE : Evl u eb vs l) (hA : NodeAt (vs.map Bw.ct) (l.map Bw.ct) n) (hk : RdI u ka n.ks) (hw : Rd u wa n.ws) (h64 : in64 n.a) (ho : n.op = 9) : Calls Tryz.prog 137 #[.pointer (some ⟨eb, 0, none⟩), nodA n wa ka wc kc] u (RetV u (nodV (vs.map Bw.ct) (l.map Bw.ct) n)) := by
  obtain ⟨j, x, h1, h2, h3, h4, h5⟩ := one_kid hA (by omega)
  have e : nodV (vs.map Bw.ct) (l.map Bw.ct) n = two (repR x.wd x.ws n.a) := by
    have hg : (l.map Bw.ct).getD (n.ks.getD 0 0).toNat (0, []) = (x.wd, x.ws) := h4
    unfold nodV opV
    simp only [ho, hg]
    simp
  rw [e]
  exact evRep_any eb vs l n wa ka wc kc u hE hk h1 j x h2 h3

end Go.Proofs.YtdlmgndmfphneaaGreatDoor

/- What the specification's l4Node answers of a row of Kids. -/
namespace Go.Proofs.YtdlmgndmfphneaaGreatDoor
set_option linter.unusedVariables false
set_option linter.unusedSimpArgs false
open Go.RowKit

set_option maxHeartbeats 4000000 in
set_option maxRecDepth 100000 in
theorem l4Cat_any (va k2 wa ka : Option Addr) (vc kc2 wc kc : Nat) (vs kd : List Bw) (vr A B bw : Int) (ws : List Nat) (ks : List Int) (u : World) (hd : RdW u k2 kd) (hok : ∀ x ∈ kd.map Bw.ct, okWd x) (hm : 2 ≤ kd.length) (hf : sumV (kd.map Bw.ct) ≤ 4096) :
    Calls Tryz.prog 84 #[.slice va vs.length vc, nodA ⟨3, vr, A, B, bw, ws, ks⟩ wa ka wc kc, .slice k2 kd.length kc2] u (RetV u (catS (kd.map Bw.ct))) := by
  have hla := hd.1
  obtain ⟨-, h | ⟨kb, ko, rfl, hkc⟩⟩ := hd
  · rw [h] at hm; simp at hm
  have HKC := kide hkc
  have HOK := kide hok
  have HF := kide hf
  have hx0 : kd[0]? = some kd[0] := List.getElem?_eq_getElem (by omega)
  obtain ⟨x0, hx0e⟩ : ∃ x, kd[0] = x := ⟨_, rfl⟩
  rw [hx0e] at hx0
  have HX0 := kide hx0
  obtain ⟨p0, p1, pr0, -⟩ := hkc 0 x0 hx0
  rw [Nat.zero_mul, Nat.add_zero] at p0 p1
  have HP0 := kide pr0
  obtain ⟨kl, hkl⟩ : ∃ m, kd.length = m := ⟨_, rfl⟩
  have HKL := kide hkl
  rw [hkl] at hm hla ⊢
  have hkl' : (0 : Int) < (kl : Int) := by omega
  simp only [nodA] at *
  clear hkc hx0 hx0e pr0 hok hf hkl
  generalize ws.length = wl at *
  generalize ks.length = kl2 at *
  have XA : Bz (((u.alloc (Obj.cells #[Value.int .i64 3, Value.int .i64 vr, Value.int .i64 A, Value.int .i64 B, Value.int .i64 bw, Value.slice wa wl wc, Value.slice ka kl2 kc] 63)).alloc (Obj.cells #[Value.int .i64 0, Value.slice none 0 0] 61)).alloc (Obj.cells #[Value.int .i64 0, Value.slice none 0 0] 61)) u.heap.size #[Value.int .i64 3, Value.int .i64 vr, Value.int .i64 A, Value.int .i64 B, Value.int .i64 bw, Value.slice wa wl wc, Value.slice ka kl2 kc] 63 := ((Bz.new u #[Value.int .i64 3, Value.int .i64 vr, Value.int .i64 A, Value.int .i64 B, Value.int .i64 bw, Value.slice wa wl wc, Value.slice ka kl2 kc] 63).later ((Below.refl _ _).alloc (Nat.le_refl _) _)).later ((Below.refl _ _).alloc (Nat.le_refl _) _)
  have XR : Bz (((u.alloc (Obj.cells #[Value.int .i64 3, Value.int .i64 vr, Value.int .i64 A, Value.int .i64 B, Value.int .i64 bw, Value.slice wa wl wc, Value.slice ka kl2 kc] 63)).alloc (Obj.cells #[Value.int .i64 0, Value.slice none 0 0] 61)).alloc (Obj.cells #[Value.int .i64 0, Value.slice none 0 0] 61)) (u.heap.size + 1) #[Value.int .i64 0, Value.slice none 0 0] 61 := by
    have := (Bz.new (u.alloc (Obj.cells #[Value.int .i64 3, Value.int .i64 vr, Value.int .i64 A, Value.int .i64 B, Value.int .i64 bw, Value.slice wa wl wc, Value.slice ka kl2 kc] 63)) #[Value.int .i64 0, Value.slice none 0 0] 61).later ((Below.refl _ _).alloc (Nat.le_refl _) (Obj.cells #[Value.int .i64 0, Value.slice none 0 0] 61))
    rw [World.size_alloc] at this
    exact this
  have XQ : Bz (((u.alloc (Obj.cells #[Value.int .i64 3, Value.int .i64 vr, Value.int .i64 A, Value.int .i64 B, Value.int .i64 bw, Value.slice wa wl wc, Value.slice ka kl2 kc] 63)).alloc (Obj.cells #[Value.int .i64 0, Value.slice none 0 0] 61)).alloc (Obj.cells #[Value.int .i64 0, Value.slice none 0 0] 61)) (u.heap.size + 1 + 1) #[Value.int .i64 0, Value.slice none 0 0] 61 := by
    have := Bz.new ((u.alloc (Obj.cells #[Value.int .i64 3, Value.int .i64 vr, Value.int .i64 A, Value.int .i64 B, Value.int .i64 bw, Value.slice wa wl wc, Value.slice ka kl2 kc] 63)).alloc (Obj.cells #[Value.int .i64 0, Value.slice none 0 0] 61)) #[Value.int .i64 0, Value.slice none 0 0] 61
    simp only [World.size_alloc] at this
    exact this
  have BW : Below u.heap.size u (((u.alloc (Obj.cells #[Value.int .i64 3, Value.int .i64 vr, Value.int .i64 A, Value.int .i64 B, Value.int .i64 bw, Value.slice wa wl wc, Value.slice ka kl2 kc] 63)).alloc (Obj.cells #[Value.int .i64 0, Value.slice none 0 0] 61)).alloc (Obj.cells #[Value.int .i64 0, Value.slice none 0 0] 61)) := Ba (Ba (Ba (Below.refl _ _) _) _) _
  have d0 := (kcell BW _ _ (block_lt_of_cell p0)).trans p0
  have d1 := (kcell BW _ _ (block_lt_of_cell p1)).trans p1
  have t0 : (((u.alloc (Obj.cells #[Value.int .i64 3, Value.int .i64 vr, Value.int .i64 A, Value.int .i64 B, Value.int .i64 bw, Value.slice wa wl wc, Value.slice ka kl2 kc] 63)).alloc (Obj.cells #[Value.int .i64 0, Value.slice none 0 0] 61)).alloc (Obj.cells #[Value.int .i64 0, Value.slice none 0 0] 61)).cell? ⟨u.heap.size, 0, none⟩ = some (.int .i64 3) := XA.cell 0
  have XR4 : Bz (((u.alloc (Obj.cells #[Value.int .i64 3, Value.int .i64 vr, Value.int .i64 A, Value.int .i64 B, Value.int .i64 bw, Value.slice wa wl wc, Value.slice ka kl2 kc] 63)).alloc (Obj.cells #[Value.int .i64 0, Value.slice none 0 0] 61)).alloc (Obj.cells #[Value.int .i64 x0.wd, Value.slice x0.a x0.ws.length x0.c] 61)) (u.heap.size + 1) #[Value.int .i64 0, Value.slice none 0 0] 61 := by
    have := (Bz.new (u.alloc (Obj.cells #[Value.int .i64 3, Value.int .i64 vr, Value.int .i64 A, Value.int .i64 B, Value.int .i64 bw, Value.slice wa wl wc, Value.slice ka kl2 kc] 63)) #[Value.int .i64 0, Value.slice none 0 0] 61).later ((Below.refl _ _).alloc (Nat.le_refl _) (Obj.cells #[Value.int .i64 x0.wd, Value.slice x0.a x0.ws.length x0.c] 61))
    rw [World.size_alloc] at this
    exact this
  have XQ4 : Bz (((u.alloc (Obj.cells #[Value.int .i64 3, Value.int .i64 vr, Value.int .i64 A, Value.int .i64 B, Value.int .i64 bw, Value.slice wa wl wc, Value.slice ka kl2 kc] 63)).alloc (Obj.cells #[Value.int .i64 0, Value.slice none 0 0] 61)).alloc (Obj.cells #[Value.int .i64 x0.wd, Value.slice x0.a x0.ws.length x0.c] 61)) (u.heap.size + 1 + 1) #[Value.int .i64 x0.wd, Value.slice x0.a x0.ws.length x0.c] 61 := by
    have := Bz.new ((u.alloc (Obj.cells #[Value.int .i64 3, Value.int .i64 vr, Value.int .i64 A, Value.int .i64 B, Value.int .i64 bw, Value.slice wa wl wc, Value.slice ka kl2 kc] 63)).alloc (Obj.cells #[Value.int .i64 0, Value.slice none 0 0] 61)) #[Value.int .i64 x0.wd, Value.slice x0.a x0.ws.length x0.c] 61
    simp only [World.size_alloc] at this
    exact this
  have BW4 : Below u.heap.size u (((u.alloc (Obj.cells #[Value.int .i64 3, Value.int .i64 vr, Value.int .i64 A, Value.int .i64 B, Value.int .i64 bw, Value.slice wa wl wc, Value.slice ka kl2 kc] 63)).alloc (Obj.cells #[Value.int .i64 0, Value.slice none 0 0] 61)).alloc (Obj.cells #[Value.int .i64 x0.wd, Value.slice x0.a x0.ws.length x0.c] 61)) := Ba (Ba (Ba (Below.refl _ _) _) _) _
  clear p0 p1
  go_enter Tryz.func84, Tryz.ntmps84
  go_wp2_with fail
  clear XA XR XQ BW d0 d1 t0
  generalize (((u.alloc (Obj.cells #[Value.int .i64 3, Value.int .i64 vr, Value.int .i64 A, Value.int .i64 B, Value.int .i64 bw, Value.slice wa wl wc, Value.slice ka kl2 kc] 63)).alloc (Obj.cells #[Value.int .i64 0, Value.slice none 0 0] 61)).alloc (Obj.cells #[Value.int .i64 x0.wd, Value.slice x0.a x0.ws.length x0.c] 61)) = w4 at *
  go_loopw [8] (fun q wr => ∃ (i : Nat) (xb : Option Addr) (cb : Nat), 1 ≤ i ∧ i ≤ kl ∧ q = .int .i64 (i : Int) ∧ Bz wr (u.heap.size + 1 + 1) #[.int .i64 (catS ((kd.map Bw.ct).take i)).1, .slice xb (catS ((kd.map Bw.ct).take i)).2.length cb] 61 ∧ Bz wr (u.heap.size + 1) #[Value.int .i64 0, Value.slice none 0 0] 61 ∧ Below u.heap.size u wr ∧ (i = 1 ∧ xb = x0.a ∨ Nw wr u.heap.size xb (catS ((kd.map Bw.ct).take i)).2)) (fun q _ => kl - (intOf q).toNat)
  case atStart =>
    have e : catS ((kd.map Bw.ct).take 1) = x0.ct := by
      have := catS_take (l := kd.map Bw.ct) (i := 0) (y := x0.ct) (by rw [List.getElem?_map, HX0.out]; rfl)
      simpa using this
    exact ⟨1, x0.a, x0.c, Nat.le_refl _, by omega, rfl, by rw [e]; exact XQ4, XR4, BW4, .inl ⟨rfl, rfl⟩⟩
  case round =>
    obtain ⟨i, xb, cb, hi1, hi, rfl, hq, hr, hb, halt⟩ := hrel
    have XQ := kide hq
    have XR := kide hr
    have BW := kide hb
    obtain ⟨hc1, hc2⟩ := cat_ok HOK.out HF.out (i - 1) (by rw [List.length_map, HKL.out]; omega)
    rw [show i - 1 + 1 = i by omega] at hc1 hc2
    have hwX := right_W hc2.1
    have HRB : Hid (Rd wr xb (catS ((kd.map Bw.ct).take i)).2) := by
      rcases halt with ⟨rfl, rfl⟩ | h
      · have e : catS ((kd.map Bw.ct).take 1) = x0.ct := by
          have := catS_take (l := kd.map Bw.ct) (i := 0) (y := x0.ct) (by rw [List.getElem?_map, HX0.out]; rfl)
          simpa using this
        show Rd _ _ _
        rw [e]
        exact HP0.out.later hb
      · exact h.rd (by omega) hc2.2
    have z0 := XQ.out.cell 0
    have z1 := XQ.out.cell 1
    simp at z0 z1
    by_cases hlt : i < kl
    · have i0 : (i : Int) < (kl : Int) := by omega
      obtain ⟨x, hx⟩ : ∃ x, kd[i]? = some x := ⟨kd[i]'(by rw [HKL.out]; exact hlt), List.getElem?_eq_getElem _⟩
      obtain ⟨p0, p1, pr, -⟩ := HKC.out i x hx
      have hy : (kd.map Bw.ct)[i]? = some x.ct := by rw [List.getElem?_map, hx]; rfl
      have HX := kide (catS_take hy)
      rw [if_neg (by omega)] at HX
      have D0 := kide ((kcell hb _ _ (block_lt_of_cell p0)).trans p0)
      have D1 := kide ((kcell hb _ _ (block_lt_of_cell p1)).trans p1)
      have HJ := kide (fun v (hv : Below u.heap.size u v) (hrb : Rd v xb (catS ((kd.map Bw.ct).take i)).2) => specJoin_any (catS ((kd.map Bw.ct).take i)).1 xb cb (catS ((kd.map Bw.ct).take i)).2 x.wd x.a x.c x.ws v hrb (pr.later hv))
      obtain ⟨wd, xa, xc, xs⟩ := x
      simp only [Bw.ct, joinW] at HX HJ D0 D1
      generalize catS ((kd.map Bw.ct).take i) = X at *
      generalize hR : joinR X.1 X.2 wd xs = R at *
      have HR2 : Hid ((R.1, R.2.1) = two R) := rfl
      clear hq hr hb halt hc1 hc2 hwX hx hy p0 p1 pr hR
      go_wp2_with fail
      refine wp_region_x (SA := fun z => z.cell? ⟨u.heap.size + 1 + 1, 0, none⟩ = some (Value.int .i64 X.1) ∧ z.cell? ⟨u.heap.size + 1 + 1, 1, none⟩ = some (Value.slice xb X.2.length cb) ∧ z.cell? ⟨kb, ko + i * 2, none⟩ = some (Value.int .i64 wd) ∧ z.cell? ⟨kb, ko + i * 2 + 1, none⟩ = some (Value.slice xa xs.length xc)) (SB := fun _ => True) (k := 9) (by kernel_rfl) ?_
      have hbd : Below wr.heap.size wr wr.drew := (Below.refl _ _).drew
      have XQ0 := kide (XQ.out.later hbd)
      have XR0 := kide (XR.out.later hbd)
      have BW0 := kide BW.out.drew
      have D00 := kide ((kcell hbd _ _ (block_lt_of_cell D0.out)).trans D0.out)
      have D10 := kide ((kcell hbd _ _ (block_lt_of_cell D1.out)).trans D1.out)
      have HRB0 := kide (HRB.out.later hbd)
      clear hbd XQ XR BW D0 D1 HRB z0 z1
      generalize wr.drew = v0 at *
      have hs0 : Hid ((fun z => z.cell? ⟨u.heap.size + 1 + 1, 0, none⟩ = some (Value.int .i64 X.1) ∧ z.cell? ⟨u.heap.size + 1 + 1, 1, none⟩ = some (Value.slice xb X.2.length cb) ∧ z.cell? ⟨kb, ko + i * 2, none⟩ = some (Value.int .i64 wd) ∧ z.cell? ⟨kb, ko + i * 2 + 1, none⟩ = some (Value.slice xa xs.length xc)) v0) := ⟨XQ0.out.cell 0, XQ0.out.cell 1, D00.out, D10.out⟩
      try go_simp
      refine wpAnyX_take (i := 0) (v := Value.agg #[Value.int .i64 X.1, Value.slice xb X.2.length cb]) rfl (by kernel_rfl) (by kernel_rfl) (by kernel_rfl) (fun _ _ _ h => by first | exact h | exact h.elim | cases h.1) (by decide) (by kernel_rfl) (by kernel_rfl) hs0.out (Or.inl ⟨by rfl, fun z hz => by obtain ⟨e0, e1, e2, e3⟩ := hz; go_simp⟩) ?_
      try go_simp
      refine wpAnyX_both (T := fun _ => True) (i := 1) (v := Value.slice (some ⟨kb, ko, none⟩) kl kc2) rfl (by kernel_rfl) (by kernel_rfl) (by kernel_rfl) (fun _ _ _ h => by first | exact h | exact h.elim | cases h.1) (by decide) (fun _ _ => trivial) (fun _ _ => trivial) (Sx.before (by kernel_rfl) hs0.out) (Or.inl ⟨by rfl, fun z hz => by go_simp⟩) ?_
      try go_simp
      refine wpAnyX_both (T := fun _ => True) (i := 2) (v := Value.int .i64 (i : Int)) rfl (by kernel_rfl) (by kernel_rfl) (by kernel_rfl) (fun _ _ _ h => by first | exact h | exact h.elim | cases h.1) (by decide) (fun _ _ => trivial) (fun _ _ => trivial) (Sx.before (by kernel_rfl) hs0.out) (Or.inl ⟨by rfl, fun z hz => by go_simp⟩) ?_
      try go_simp
      refine wpAnyX_both (T := fun _ => True) (i := 3) (v := Value.pointer (some ⟨kb, ko + i * 2, none⟩)) rfl (by kernel_rfl) (by kernel_rfl) (by kernel_rfl) (fun _ _ _ h => by first | exact h | exact h.elim | cases h.1) (by decide) (fun _ _ => trivial) (fun _ _ => trivial) (Sx.before (by kernel_rfl) hs0.out) (Or.inl ⟨by rfl, fun z hz => by go_simp⟩) ?_
      try go_simp
      refine wpAnyX_take (i := 4) (v := Value.agg #[Value.int .i64 wd, Value.slice xa xs.length xc]) rfl (by kernel_rfl) (by kernel_rfl) (by kernel_rfl) (fun _ _ _ h => by first | exact h | exact h.elim | cases h.1) (by decide) (by kernel_rfl) (by kernel_rfl) hs0.out (Or.inl ⟨by rfl, fun z hz => by obtain ⟨e0, e1, e2, e3⟩ := hz; go_simp⟩) ?_
      try go_simp
      refine wpAnyX_ready (rs := [5]) (by kernel_rfl) (by simp) (AllX.cons rfl (fun K hK => ?_) AllX.nil)
      go_simp
      refine Calls.mono (HJ.out v0 BW0.out HRB0.out) ?_
      rintro e v1 ⟨a5, c5, rfl, hf1, hb1⟩
      have XQ1 := kide (XQ0.out.later hb1)
      have XR1 := kide (XR0.out.later hb1)
      have D01 := kide ((kcell hb1 _ _ (block_lt_of_cell D00.out)).trans D00.out)
      have D11 := kide ((kcell hb1 _ _ (block_lt_of_cell D10.out)).trans D10.out)
      have NW := kide ((Fresh.nwE hf1).mono (lo' := u.heap.size) BW0.out.size)
      have BW1 := kide (BW0.out.trans (hb1.mono BW0.out.size))
      clear hb1 hf1
      have hs1 : Hid ((fun z => z.cell? ⟨u.heap.size + 1 + 1, 0, none⟩ = some (Value.int .i64 X.1) ∧ z.cell? ⟨u.heap.size + 1 + 1, 1, none⟩ = some (Value.slice xb X.2.length cb) ∧ z.cell? ⟨kb, ko + i * 2, none⟩ = some (Value.int .i64 wd) ∧ z.cell? ⟨kb, ko + i * 2 + 1, none⟩ = some (Value.slice xa xs.length xc)) v1) := ⟨XQ1.out.cell 0, XQ1.out.cell 1, D01.out, D11.out⟩
      refine hK _ _ (Sx.before (by kernel_rfl) hs1.out) ?_
      clear hK K
      try go_simp
      refine wpAnyX_both (T := fun _ => True) (i := 6) (v := Value.tuple #[Value.agg #[Value.int .i64 R.1, Value.slice a5 R.2.1.length c5], Value.bool R.2.2]) rfl (by kernel_rfl) (by kernel_rfl) (by kernel_rfl) (fun _ _ _ h => by first | exact h | exact h.elim | cases h.1) (by decide) (fun _ _ => trivial) (fun _ _ => trivial) (Sx.before (by kernel_rfl) hs1.out) (Or.inl ⟨by rfl, fun z hz => by go_simp⟩) ?_
      try go_simp
      refine wpAnyX_both (T := fun _ => True) (i := 7) (v := Value.agg #[Value.int .i64 R.1, Value.slice a5 R.2.1.length c5]) rfl (by kernel_rfl) (by kernel_rfl) (by kernel_rfl) (fun _ _ _ h => by first | exact h | exact h.elim | cases h.1) (by decide) (fun _ _ => trivial) (fun _ _ => trivial) (Sx.before (by kernel_rfl) hs1.out) (Or.inl ⟨by rfl, fun z hz => by go_simp⟩) ?_
      try go_simp
      refine wpAnyX_both (T := fun _ => True) (i := 8) (v := Value.bool R.2.2) rfl (by kernel_rfl) (by kernel_rfl) (by kernel_rfl) (fun _ _ _ h => by first | exact h | exact h.elim | cases h.1) (by decide) (fun _ _ => trivial) (fun _ _ => trivial) (Sx.before (by kernel_rfl) hs1.out) (Or.inl ⟨by rfl, fun z hz => by go_simp⟩) ?_
      try go_simp
      refine wpAnyX_ready (rs := [9]) (by kernel_rfl) (by simp) (AllX.cons rfl (fun K hK => ?_) AllX.nil)
      have e8 := XQ1.out.cell 0
      have e9 := XQ1.out.cell 1
      have f8 := XQ1.out.froz 0
      have f9 := XQ1.out.froz 1
      simp at e8 e9
      go_simp
      have XQ2 : Hid (Bz ((v1.setCell ⟨u.heap.size + 1 + 1, 0, none⟩ (Value.int .i64 R.1)).setCell ⟨u.heap.size + 1 + 1, 1, none⟩ (Value.slice a5 R.2.1.length c5)) (u.heap.size + 1 + 1) #[Value.int .i64 R.1, Value.slice a5 R.2.1.length c5] 61) := (XQ1.out.set 0 _).set 1 _
      have XR2 : Hid (Bz ((v1.setCell ⟨u.heap.size + 1 + 1, 0, none⟩ (Value.int .i64 R.1)).setCell ⟨u.heap.size + 1 + 1, 1, none⟩ (Value.slice a5 R.2.1.length c5)) (u.heap.size + 1) #[Value.int .i64 0, Value.slice none 0 0] 61) := (XR1.out.other (by omega) 0 _).other (by omega) 1 _
      have BW2 : Hid (Below u.heap.size u ((v1.setCell ⟨u.heap.size + 1 + 1, 0, none⟩ (Value.int .i64 R.1)).setCell ⟨u.heap.size + 1 + 1, 1, none⟩ (Value.slice a5 R.2.1.length c5))) := (BW1.out.setCell (show u.heap.size ≤ u.heap.size + 1 + 1 by omega) _).setCell (show u.heap.size ≤ u.heap.size + 1 + 1 by omega) _
      have NW2 : Hid (Nw ((v1.setCell ⟨u.heap.size + 1 + 1, 0, none⟩ (Value.int .i64 R.1)).setCell ⟨u.heap.size + 1 + 1, 1, none⟩ (Value.slice a5 R.2.1.length c5)) u.heap.size a5 R.2.1) := ((NW.out.set XQ1.out (by decide) 0 _).set (XQ1.out.set 0 _) (by decide) 1 _)
      generalize (v1.setCell ⟨u.heap.size + 1 + 1, 0, none⟩ (Value.int .i64 R.1)).setCell ⟨u.heap.size + 1 + 1, 1, none⟩ (Value.slice a5 R.2.1.length c5) = v2 at *
      clear e8 e9 f8 f9
      refine hK _ _ (Sx.behind (by kernel_rfl) trivial) ?_
      clear hK K
      try go_simp
      refine wpAnyX_done (by kernel_rfl) ?_ _
      go_wp2_with fail
      go_roundw
      case rel => exact ⟨i + 1, a5, c5, by omega, by omega, by go_num, by rw [HX.out, ← HR2.out]; exact XQ2.out, XR2.out, BW2.out, .inr (by rw [HX.out, ← HR2.out]; exact NW2.out)⟩
      case measure => simp [intOf]; omega
    · have e : i = kl := by omega
      have hfin : Hid ((kd.map Bw.ct).take i = kd.map Bw.ct) := by show _ = _; rw [List.take_of_length_le (by rw [List.length_map, HKL.out]; omega)]
      rcases halt with ⟨h1, -⟩ | hnw
      · omega
      have NWX := kide hnw
      rw [hfin.out] at XQ NWX z0 z1
      have r0 := XR.out.cell 0
      have r1 := XR.out.cell 1
      have f0 := XR.out.froz 0
      have f1 := XR.out.froz 1
      simp at r0 r1
      generalize catS (kd.map Bw.ct) = X at *
      clear hq hr hb hnw hc1 hc2 hwX HRB hfin
      go_wp2_with fail
      obtain ⟨y0, y1⟩ := ((Bz.blk XR.out).put0' (.int .i64 X.1)).put1' (.slice xb X.2.length cb) |>.cells
      exact bodyPost_ret (v := .agg #[.int .i64 X.1, .slice xb X.2.length cb]) (by simp [results, Tryz.results84, go_sem, y0, y1]) rfl (RetV.box (Bz.blk XR.out) NWX.out (Nat.le_refl _) (Nat.le_succ _) BW.out)

end Go.Proofs.YtdlmgndmfphneaaGreatDoor

/- The specification's l4Node of a node at its place; what stands while l4Eval goes. -/
namespace Go.Proofs.YtdlmgndmfphneaaGreatDoor
set_option linter.unusedVariables false
set_option linter.unusedSimpArgs false
open Go.RowKit

theorem RdW.at {w : World} {a : Option Addr} {l : List Bw} (h : RdW w a l) : ∀ x ∈ l, Rd w x.a x.ws ∧ in64 x.wd := fun x hx => by
  obtain ⟨i, hi, rfl⟩ := List.mem_iff_getElem.1 hx
  obtain ⟨-, h | ⟨b, o, -, hc⟩⟩ := h
  · subst h; simp at hi
  · exact ⟨(hc i _ (List.getElem?_eq_getElem hi)).2.2.1, (hc i _ (List.getElem?_eq_getElem hi)).2.2.2⟩

/-- A word that lies in memory of the arguments, or in a block of words. -/
def Ek (w wr : World) (a : Option Addr) (xs : List Nat) : Prop := Rd wr a xs ∧ ∀ ad, a = some ad → ad.block < w.heap.size ∨ ∃ cur, wr.heap[ad.block]? = some (.cells cur 136 (0, 0))

theorem Ek.kept {w wr wr' : World} {a : Option Addr} {xs : List Nat} (h : Ek w wr a xs) (h1 : ∀ k, k < w.heap.size → wr'.heap[k]? = wr.heap[k]?) (h2 : ∀ (k : Nat) (cur : Array Value), wr.heap[k]? = some (Obj.cells cur 136 (0, 0)) → wr'.heap[k]? = wr.heap[k]?) : Ek w wr' a xs := by
  obtain ⟨⟨r1, r2, r3⟩, h3⟩ := h
  have hblk : ∀ ad, a = some ad → wr'.heap[ad.block]? = wr.heap[ad.block]? := fun ad e => by
    rcases h3 ad e with h | ⟨cur, h⟩
    · exact h1 _ h
    · exact h2 _ cur h
  refine ⟨⟨r1, r2, ?_⟩, fun ad e => ?_⟩
  · rcases r3 with h | ⟨b, o, rfl, hc⟩
    · exact .inl h
    · exact .inr ⟨b, o, rfl, fun i hi => (World.cell?_of_block (a := ⟨b, o + i, none⟩) (hblk ⟨b, o, none⟩ rfl)).trans (hc i hi)⟩
  · rcases h3 ad e with h | ⟨cur, h⟩
    · exact .inl h
    · exact .inr ⟨cur, by rw [hblk ad e]; exact h⟩

theorem Ek.later {w wr wr' : World} {a : Option Addr} {xs : List Nat} (h : Ek w wr a xs) (hs : w.heap.size ≤ wr.heap.size) (hb : Below wr.heap.size wr wr') : Ek w wr' a xs :=
  h.kept (fun k hk => hb.block k (Nat.lt_of_lt_of_le hk hs)) (fun k cur hc => hb.block k (lt_of_block hc))

theorem Nw.ek {w wr : World} {lo : Nat} {a : Option Addr} {xs : List Nat} (h : Nw wr lo a xs) (hl : xs.length ≤ 1048576) (hx : ∀ x ∈ xs, x < 18446744073709551616) : Ek w wr a xs := by
  refine ⟨h.rd hl hx, fun ad e => .inr ?_⟩
  rcases h with ⟨-, h2⟩ | ⟨g, cur, h1, -, h3, -⟩
  · exact (h2 ad e).2.2
  · rw [h1] at e; cases e; exact ⟨cur, h3⟩

theorem Rd.ek {w wr : World} {a : Option Addr} {xs : List Nat} (h : Rd w a xs) (hx : 1 ≤ xs.length) (hb : Below w.heap.size w wr) : Ek w wr a xs :=
  ⟨h.later hb, fun ad e => .inl (Rd.lt h (by omega) ad e)⟩

/-- An answer that is such a word. -/
def RetE (w u : World) (X : Wd) (e : Ending) (w' : World) : Prop := ∃ a c, e = .returned (.agg #[.int .i64 X.1, .slice a X.2.length c]) ∧ Ek w w' a X.2 ∧ Below u.heap.size u w'

theorem RetV.ek {w u : World} {X : Wd} (h : okWd X) {e : Ending} {w' : World} (hr : RetV u X e w') : RetE w u X e w' := by
  obtain ⟨a, c, he, hn, hb⟩ := hr
  have := right_W h.1
  exact ⟨a, c, he, hn.ek (by omega) h.2, hb⟩

theorem kd_one {vs all : List Wd} {kd : List Bw} {n : Tc} (hA : NodeAt vs all n) (h4 : 4 ≤ n.op) (hd : kd.map Bw.ct = kidsV all n.ks) : ∃ x, kd[0]? = some x ∧ all.getD (n.ks.getD 0 0).toNat (0, []) = x.ct ∧ okWd x.ct := by
  have h1 := hA.one h4
  have hl : kd.length = 1 := by
    have := congrArg List.length hd
    simpa [kidsV, h1] using this
  have hx : kd[0]? = some kd[0] := List.getElem?_eq_getElem (by omega)
  have e : all.getD (n.ks.getD 0 0).toNat (0, []) = (kd[0]).ct := by
    have h2 : (kd.map Bw.ct)[0]? = some (kd[0]).ct := by rw [List.getElem?_map, hx]; rfl
    rw [hd] at h2
    match hks : n.ks, h1 with
    | [k], _ =>
      rw [hks] at h2
      simp only [kidsV, List.map_cons, List.map_nil, List.getElem?_cons_zero, Option.some.injEq] at h2
      simpa using h2
  refine ⟨kd[0], hx, e, ?_⟩
  rw [← e]
  have hm : n.ks.getD 0 0 ∈ n.ks := by
    have : n.ks.getD 0 0 = n.ks[0] := by simp [List.getD, show 0 < n.ks.length by omega]
    rw [this]; exact List.getElem_mem _
  have hk := hA.kid _ hm
  have hjl : (n.ks.getD 0 0).toNat < all.length := by omega
  rw [List.getD, List.getElem?_eq_getElem hjl]
  exact hA.oks _ (List.getElem_mem hjl)

theorem l4Node_all (va k2 wa ka : Option Addr) (vc kc2 wc kc : Nat) (vs kd : List Bw) (n : Tc) (all : List Wd) (w u : World) (hA : NodeAt (vs.map Bw.ct) all n) (hv0 : RdW w va vs) (hb : Below w.heap.size w u) (hd : kd.map Bw.ct = kidsV all n.ks) (hk : RdW u k2 kd) (hw : Rd w wa n.ws) (h64 : in64 n.a) :
    Calls Tryz.prog 84 #[.slice va vs.length vc, nodA n wa ka wc kc, .slice k2 kd.length kc2] u (RetE w u (nodV (vs.map Bw.ct) all n)) := by
  have hop := hA.op
  obtain ⟨op, vr, A, B, bw, ws, ks⟩ := n
  simp only [] at hop hd hw h64
  rcases op_nine hop.1 hop.2 with rfl | rfl | rfl | rfl | rfl | rfl | rfl | rfl | rfl
  · obtain ⟨h1, h2⟩ := hA.var rfl
    simp only [List.length_map] at h1 h2
    have hl : vr.toNat < vs.length := by omega
    have hx : vs[vr.toNat]? = some vs[vr.toNat] := List.getElem?_eq_getElem hl
    have e : nodV (vs.map Bw.ct) all ⟨1, vr, A, B, bw, ws, ks⟩ = (vs[vr.toNat]).ct := by
      unfold nodV
      simp only [if_true, List.getD, List.getElem?_map, hx]
      rfl
    have hi := hA.is
    rw [e] at hi ⊢
    refine (l4Var_any va k2 wa ka vc kc2 wc kc vs kd vr A B bw ws ks u vr.toNat _ (hv0.later hb) (by omega) hx).mono ?_
    rintro en w' ⟨rfl, hb'⟩
    exact ⟨_, _, rfl, ((hv0.at _ (List.getElem_mem hl)).1.ek (len_ok hi) hb).later hb.size hb', hb'⟩
  · have e : nodV (vs.map Bw.ct) all ⟨2, vr, A, B, bw, ws, ks⟩ = (bw, ws) := by simp [nodV]
    have hi := hA.is
    rw [e] at hi ⊢
    refine (l4Con_any va k2 wa ka vc kc2 wc kc vs kd vr A B bw ws ks u).mono ?_
    rintro en w' ⟨rfl, hb'⟩
    exact ⟨_, _, rfl, (hw.ek (len_ok hi) hb).later hb.size hb', hb'⟩
  · have e : nodV (vs.map Bw.ct) all ⟨3, vr, A, B, bw, ws, ks⟩ = catS (kd.map Bw.ct) := by rw [hd]; simp [nodV]
    have hi := hA.is
    have hm := hA.many rfl
    have hf := hA.fit rfl
    simp only [] at hm hf
    rw [← hd] at hf
    have hl : kd.length = ks.length := by
      have := congrArg List.length hd
      simpa [kidsV] using this
    rw [e] at hi ⊢
    refine (l4Cat_any va k2 wa ka vc kc2 wc kc vs kd vr A B bw ws ks u hk (fun x hx => ?_) (by omega) hf).mono (fun _ _ h => h.ek hi)
    rw [hd] at hx
    simp only [kidsV, List.mem_map] at hx
    obtain ⟨j, hj, rfl⟩ := hx
    have h := hA.kid j hj
    have hjl : j.toNat < all.length := by omega
    rw [List.getD, List.getElem?_eq_getElem hjl]
    exact hA.oks _ (List.getElem_mem hjl)
  · obtain ⟨x, h1, h2, h3⟩ := kd_one hA (by simp) hd
    have e : nodV (vs.map Bw.ct) all ⟨4, vr, A, B, bw, ws, ks⟩ = two (partR x.wd x.ws A B) := by
      have hg : all.getD ((ks.getD 0 0).toNat) (0, []) = (x.wd, x.ws) := h2
      unfold nodV opV
      simp only [hg]
      simp
    have hi := hA.is
    rw [e] at hi ⊢
    exact (l4Part_any va k2 wa ka vc kc2 wc kc vs kd vr A B bw ws ks u x hk h1 (wf_in64 h64)).mono (fun _ _ h => h.ek hi)
  · obtain ⟨x, h1, h2, h3⟩ := kd_one hA (by simp) hd
    have e : nodV (vs.map Bw.ct) all ⟨5, vr, A, B, bw, ws, ks⟩ = two (wdnR x.wd x.ws A false) := by
      have hg : all.getD ((ks.getD 0 0).toNat) (0, []) = (x.wd, x.ws) := h2
      unfold nodV opV
      simp only [hg]
      simp
    have hi := hA.is
    rw [e] at hi ⊢
    exact (l4Zero_any va k2 wa ka vc kc2 wc kc vs kd vr A B bw ws ks u x hk h1).mono (fun _ _ h => h.ek hi)
  · obtain ⟨x, h1, h2, h3⟩ := kd_one hA (by simp) hd
    have e : nodV (vs.map Bw.ct) all ⟨6, vr, A, B, bw, ws, ks⟩ = two (wdnR x.wd x.ws A true) := by
      have hg : all.getD ((ks.getD 0 0).toNat) (0, []) = (x.wd, x.ws) := h2
      unfold nodV opV
      simp only [hg]
      simp
    have hi := hA.is
    rw [e] at hi ⊢
    exact (l4Sign_any va k2 wa ka vc kc2 wc kc vs kd vr A B bw ws ks u x hk h1).mono (fun _ _ h => h.ek hi)
  · obtain ⟨x, h1, h2, h3⟩ := kd_one hA (by simp) hd
    have e : nodV (vs.map Bw.ct) all ⟨7, vr, A, B, bw, ws, ks⟩ = two (turnR x.wd x.ws A) := by
      have hg : all.getD ((ks.getD 0 0).toNat) (0, []) = (x.wd, x.ws) := h2
      unfold nodV opV
      simp only [hg]
      simp
    have hi := hA.is
    rw [e] at hi ⊢
    exact (l4Left_any va k2 wa ka vc kc2 wc kc vs kd vr A B bw ws ks u x hk h1).mono (fun _ _ h => h.ek hi)
  · obtain ⟨x, h1, h2, h3⟩ := kd_one hA (by simp) hd
    have e : nodV (vs.map Bw.ct) all ⟨8, vr, A, B, bw, ws, ks⟩ = two (turnR x.wd x.ws ((x.wd - A % x.wd) % x.wd)) := by
      have hg : all.getD ((ks.getD 0 0).toNat) (0, []) = (x.wd, x.ws) := h2
      unfold nodV opV
      simp only [hg]
      simp
    have hi := hA.is
    rw [e] at hi ⊢
    exact (l4Right_any va k2 wa ka vc kc2 wc kc vs kd vr A B bw ws ks u x hk h1 h3 (hA.wide rfl)).mono (fun _ _ h => h.ek hi)
  · obtain ⟨x, h1, h2, h3⟩ := kd_one hA (by simp) hd
    have e : nodV (vs.map Bw.ct) all ⟨9, vr, A, B, bw, ws, ks⟩ = two (repR x.wd x.ws A) := by
      have hg : all.getD ((ks.getD 0 0).toNat) (0, []) = (x.wd, x.ws) := h2
      unfold nodV opV
      simp only [hg]
      simp
    have hi := hA.is
    rw [e] at hi ⊢
    exact (l4Rep_any va k2 wa ka vc kc2 wc kc vs kd vr A B bw ws ks u x hk h1).mono (fun _ _ h => h.ek hi)

/-- What stands while l4Eval goes. -/
structure Es (w : World) (b : Option Addr) (n c2 : Nat) (wr : World) (v : Value) (l : List Bw) : Prop where
  xt : Bz wr w.heap.size #[.slice b n c2] 34
  xr : Bz wr (w.heap.size + 1) #[Value.int .i64 0, Value.slice none 0 0] 61
  row : OB2 wr (w.heap.size + 2) v l
  ek : ∀ x ∈ l, Ek w wr x.a x.ws
  bel : Below w.heap.size w wr

theorem Es.later {w wr wr' : World} {b : Option Addr} {n c2 : Nat} {v : Value} {l : List Bw} (h : Es w b n c2 wr v l) (hb : Below wr.heap.size wr wr') : Es w b n c2 wr' v l :=
  ⟨h.xt.later hb, h.xr.later hb, h.row.later hb, fun x hx => (h.ek x hx).later h.bel.size hb, h.bel.trans (hb.mono h.bel.size)⟩

theorem Es.grown {w wr wr' : World} {b : Option Addr} {n c2 : Nat} {v v' : Value} {l : List Bw} {y : Bw} (h : Es w b n c2 wr v l) (hg : wr.grownBy wr' v.ownBlock) (ho : OB2 wr' (w.heap.size + 2) v' (l ++ [y])) (hy : Ek w wr y.a y.ws) : Es w b n c2 wr' v' (l ++ [y]) := by
  have far : ∀ {b : Nat} {cs : Array Value} {t : TypeId}, Bz wr b cs t → b < w.heap.size + 2 → Bz wr' b cs t := fun {b cs t} hB hl => by
    unfold Bz; rw [hg.block b hB.lt (h.row.low hl)]; exact hB
  have k1 : ∀ k, k < w.heap.size → wr'.heap[k]? = wr.heap[k]? := fun k hk => hg.block k (Nat.lt_of_lt_of_le hk h.bel.size) (h.row.low (by omega))
  have k2 : ∀ (k : Nat) (cur : Array Value), wr.heap[k]? = some (Obj.cells cur 136 (0, 0)) → wr'.heap[k]? = wr.heap[k]? := fun k cur hc => hg.block k (lt_of_block hc) (h.row.typedE hc (by decide))
  refine ⟨far h.xt (by omega), far h.xr (by omega), ho, fun x hx => ?_, h.bel.grown hg h.bel.size (fun k hk => by have := (h.row.lt hk).1; omega)⟩
  rcases List.mem_append.1 hx with hx | hx
  · exact (h.ek x hx).kept k1 k2
  · rw [List.mem_singleton.1 hx]; exact hy.kept k1 k2

theorem OB2.fresh (w : World) (B : Nat) (hB : B ≤ w.heap.size) : OB2 (w.alloc (Obj.cells #[] 61)) B (.slice (some ⟨w.heap.size, 0, none⟩) 0 0) [] :=
  World.ownsRow_made w #[] 0 hB (Nat.zero_le _) (by simp)

theorem wpList_appB2E (w : World) {ops : Array Oper} {rest : List Oper} {o : Oper} {a : Act} {Q : Exit → Act → World → Prop} (hgd : o.guard = none) (s x : Operand)
    (ho : o.op = .call { callee := .builtin .append, args := #[s, x], argTypes := #[120, 120] })
    (base : Nat) (v : Value) (l : List Bw) (y : Bw) (hs : a.eval s = v) (hown : OB2 w base v l) (b c : Nat) (hx : a.eval x = .slice (some ⟨b, 0, none⟩) 1 c)
    (h0 : w.cell? ⟨b, 0, none⟩ = some (.int .i64 y.wd)) (h1 : w.cell? ⟨b, 1, none⟩ = some (.slice y.a y.ws.length y.c)) (hl : l.length ≤ 1073741824) (hbase : base ≤ w.heap.size)
    (h : ∀ v' w', OB2 w' base v' (l ++ [y]) → w.grownBy w' v.ownBlock → wpList Tryz.prog ops Q rest (a.put o.dst v') w') : wpList Tryz.prog ops Q (o :: rest) a w := by
  obtain ⟨i0, hi, hz0, hz1, hz2⟩ := info_parts Tryz.infoBits
  refine wpList_append_lies w hgd s x 120 ho base 61 i0 _ 2 32 Tryz.underlying120 hi hz0 hz1 hz2 rfl (by decide) v l.length (bwc l) hs hown ⟨b, 0, none⟩ 1 c (bwc [y]) hx rfl ?_ ?_ (by decide) ?_ ?_ hbase _ rfl ?_
  · intro j u hj
    rw [Addr.add_lit]
    match j, hj with
    | 0, hj => simp [bwc] at hj; subst hj; exact h0
    | 1, hj => simp [bwc] at hj; subst hj; exact h1
    | j + 2, hj => simp [bwc] at hj
  · intro u hu
    simp [bwc] at hu
    rcases hu with rfl | rfl <;> rfl
  · unfold maxLen; omega
  · omega
  · intro g cap w' h1 h2 _ _
    refine h _ w' ?_ h2
    unfold OB2
    rw [bwc_append, List.length_append]
    exact h1

end Go.Proofs.YtdlmgndmfphneaaGreatDoor
