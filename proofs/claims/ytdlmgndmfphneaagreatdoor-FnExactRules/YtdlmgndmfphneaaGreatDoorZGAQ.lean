/- Several texts in one. -/
import Derived.Test.YtdlmgndmfphneaaGreatDoorZGAL
import Derived.Test.YtdlmgndmfphneaaGreatDoorEO
import Derived.Deep.AppendLies

/- Rows of words of one's own; what stands while the program goes through a term. -/
namespace Go.Proofs.YtdlmgndmfphneaaGreatDoor
set_option linter.unusedVariables false
set_option linter.unusedSimpArgs false
open Go.RowKit

theorem step_appB2E (w : World) {ops : Array Oper} {o : Oper} {a : Act} {K : Act → World → Prop} {Q : Exit → Act → World → Prop} {E : Prop} (hgd : o.guard = none) (s x : Operand)
    (ho : o.op = .call { callee := .builtin .append, args := #[s, x], argTypes := #[120, 120] })
    (base : Nat) (v : Value) (l : List Bw) (y : Bw) (hs : a.eval s = v) (hown : OB2 w base v l) (b c : Nat) (hx : a.eval x = .slice (some ⟨b, 0, none⟩) 1 c)
    (h0 : w.cell? ⟨b, 0, none⟩ = some (.int .i64 y.wd)) (h1 : w.cell? ⟨b, 1, none⟩ = some (.slice y.a y.ws.length y.c)) (hl : l.length ≤ 1073741824) (hbase : base ≤ w.heap.size)
    (h : ∀ g cap N w', OB2 w' base (.slice (some ⟨g, 0, none⟩) N cap) (l ++ [y]) → w.grownBy w' v.ownBlock → K (a.put o.dst (.slice (some ⟨g, 0, none⟩) N cap)) w') :
    if Region.wanted o (yielded ops a.tmps) = true then Oper.wp Tryz.prog o a w K Q else E :=
  step_appB2 w hgd s x ho base v l y hs hown b c hx h0 h1 hl hbase fun g cap w' k1 k2 => h g cap _ w' k1 k2
theorem OB2.typedE {w : World} {B : Nat} {v : Value} {l : List Bw} (h : OB2 w B v l) {b : Nat} {cs : Array Value} {t : TypeId} {fr : Nat × Nat} (hb : w.heap[b]? = some (.cells cs t fr)) (ht : t ≠ 61) : some b ≠ v.ownBlock := fun hk => by
  rcases h.2 with ⟨rfl, -⟩ | ⟨g, cap, cur, rfl, hg, hh, -⟩
  · cases hk
  · cases hk
    rw [hb] at hh
    cases hh
    exact ht rfl
theorem OB2.low {w : World} {B : Nat} {v : Value} {l : List Bw} (h : OB2 w B v l) {b : Nat} (hb : b < B) : some b ≠ v.ownBlock := fun hk => by
  have := (h.lt hk.symm).1
  omega
theorem OB2.put {w : World} {B : Nat} {v : Value} {l : List Bw} (h : OB2 w B v l) {b o : Nat} (hb : b < B) (x : Value) : OB2 (w.setCell ⟨b, o, none⟩ x) B v l := by
  have hne := h.low hb
  refine ⟨h.1, ?_⟩
  rcases h.2 with hn | ⟨g, cap, cur, rfl, hg, hh, rest⟩
  · exact .inl hn
  · refine .inr ⟨g, cap, cur, rfl, hg, ?_, rest⟩
    rw [heap_setCell_other _ _ _ _ (fun e => hne (by simp [Value.ownBlock, e]))]
    exact hh
/-- What stands while the program goes through a term. -/
structure Eh (w : World) (va b : Option Addr) (vn vc n c2 : Nat) (wr : World) (v : Value) (l : List Bw) : Prop where
  xt : Bz wr w.heap.size #[.slice b n c2] 34
  xr : Bz wr (w.heap.size + 1) #[Value.int .i64 0, Value.slice none 0 0] 61
  xe : Bz wr (w.heap.size + 1 + 1) #[.slice va vn vc, v] 166
  xb : Bz wr (w.heap.size + 1 + 1 + 1) #[Value.nilFunc, Value.func (Fn.func 129) #[Value.pointer (some ⟨w.heap.size + 1 + 1, 0, none⟩)] #[], Value.func (Fn.func 130) #[Value.pointer (some ⟨w.heap.size + 1 + 1, 0, none⟩)] #[], Value.func (Fn.func 131) #[Value.pointer (some ⟨w.heap.size + 1 + 1, 0, none⟩)] #[], Value.func (Fn.func 132) #[Value.pointer (some ⟨w.heap.size + 1 + 1, 0, none⟩)] #[], Value.func (Fn.func 133) #[Value.pointer (some ⟨w.heap.size + 1 + 1, 0, none⟩)] #[], Value.func (Fn.func 134) #[Value.pointer (some ⟨w.heap.size + 1 + 1, 0, none⟩)] #[], Value.func (Fn.func 135) #[Value.pointer (some ⟨w.heap.size + 1 + 1, 0, none⟩)] #[], Value.func (Fn.func 136) #[Value.pointer (some ⟨w.heap.size + 1 + 1, 0, none⟩)] #[], Value.func (Fn.func 137) #[Value.pointer (some ⟨w.heap.size + 1 + 1, 0, none⟩)] #[]] 168
  row : OB2 wr (w.heap.size + 4) v l
  nw : ∀ x ∈ l, Nw wr w.heap.size x.a x.ws
  bel : Below w.heap.size w wr

theorem Eh.later {w wr wr' : World} {va b : Option Addr} {vn vc n c2 : Nat} {v : Value} {l : List Bw} (h : Eh w va b vn vc n c2 wr v l) (hb : Below wr.heap.size wr wr') : Eh w va b vn vc n c2 wr' v l :=
  ⟨h.xt.later hb, h.xr.later hb, h.xe.later hb, h.xb.later hb, h.row.later hb, fun x hx => (h.nw x hx).later hb, h.bel.trans (hb.mono h.bel.size)⟩

/-- The row has grown, and is told anew. -/
theorem Eh.grown {w wr wr' : World} {va b : Option Addr} {vn vc n c2 : Nat} {v v' : Value} {l : List Bw} {y : Bw} (h : Eh w va b vn vc n c2 wr v l) (hg : wr.grownBy wr' v.ownBlock) (ho : OB2 wr' (w.heap.size + 4) v' (l ++ [y])) (hy : Nw wr w.heap.size y.a y.ws) :
    Eh w va b vn vc n c2 (wr'.setCell ⟨w.heap.size + 1 + 1, 1, none⟩ v') v' (l ++ [y]) := by
  have far : ∀ {b : Nat} {cs : Array Value} {t : TypeId}, Bz wr b cs t → b < w.heap.size + 4 → Bz wr' b cs t := fun {b cs t} hB hl => by
    unfold Bz; rw [hg.block b hB.lt (h.row.low hl)]; exact hB
  have kp : ∀ (k : Nat) (cur : Array Value), wr.heap[k]? = some (Obj.cells cur 136 (0, 0)) → (wr'.setCell ⟨w.heap.size + 1 + 1, 1, none⟩ v').heap[k]? = wr.heap[k]? := fun k cur hc => by
    have h1 := hg.block k (lt_of_block hc) (h.row.typedE hc (by decide))
    have hne : k ≠ w.heap.size + 1 + 1 := fun e => by
      subst e
      have := h.xe
      unfold Bz at this
      rw [this] at hc
      cases hc
    rw [heap_setCell_other _ _ _ _ (by simpa using hne), h1]
  refine ⟨(far h.xt (by omega)).other (by omega) 1 _, (far h.xr (by omega)).other (by omega) 1 _, (far h.xe (by omega)).set 1 _, (far h.xb (by omega)).other (by omega) 1 _, ho.put (by omega) _, fun x hx => ?_, ?_⟩
  · rcases List.mem_append.1 hx with hx | hx
    · exact Nw.kept (h.nw x hx) kp
    · rw [List.mem_singleton.1 hx]; exact Nw.kept hy kp
  · exact (h.bel.grown hg h.bel.size (fun k hk => by have := (h.row.lt hk).1; omega)).setCell (show w.heap.size ≤ w.heap.size + 1 + 1 by omega) _

end Go.Proofs.YtdlmgndmfphneaaGreatDoor

/- The evaluator's method of a row of Kids. -/
namespace Go.Proofs.YtdlmgndmfphneaaGreatDoor
set_option linter.unusedVariables false
set_option linter.unusedSimpArgs false
open Go.RowKit

theorem kids_at {l : List Bw} {ks : List Int} {i : Nat} (hi : i < ks.length) (hr : ∀ j ∈ ks, 0 ≤ j ∧ j < (l.length : Int)) :
    ∃ (j : Nat) (x : Bw), ks.getD i 0 = (j : Int) ∧ l[j]? = some x ∧ (kidsV (l.map Bw.ct) ks)[i]? = some x.ct := by
  have hg : ks.getD i 0 = ks[i] := by simp [List.getD, hi]
  have hm := hr ks[i] (List.getElem_mem hi)
  have hjl : ks[i].toNat < l.length := by omega
  refine ⟨ks[i].toNat, l[ks[i].toNat], by rw [hg]; omega, List.getElem?_eq_getElem hjl, ?_⟩
  simp [kidsV, List.getElem?_map, List.getElem?_eq_getElem hi, List.getD, hjl]

set_option maxHeartbeats 4000000 in
set_option maxRecDepth 100000 in
theorem evCat_any (eb : Nat) (vs l : List Bw) (n : Tc) (wa ka : Option Addr) (wc kc : Nat) (u : World) (hE : Evl u eb vs l) (hk : RdI u ka n.ks) (hr : ∀ j ∈ n.ks, 0 ≤ j ∧ j < (l.length : Int)) (hm : 1 ≤ n.ks.length) (hf : sumV (kidsV (l.map Bw.ct) n.ks) ≤ 4096) (hok : ∀ x ∈ l.map Bw.ct, okWd x) :
    Calls Tryz.prog 131 #[.pointer (some ⟨eb, 0, none⟩), nodA n wa ka wc kc] u (RetV u (catS (kidsV (l.map Bw.ct) n.ks))) := by
  obtain ⟨-, ⟨aa, ac, c1, ha⟩⟩ := hE
  have hla := ha.1
  have hlk := hk.1
  have HOK : Hid (∀ x ∈ kidsV (l.map Bw.ct) n.ks, okWd x) := fun x hx => by
    simp only [kidsV, List.mem_map] at hx
    obtain ⟨k, hk', rfl⟩ := hx
    have h := hr k hk'
    refine hok _ ?_
    have : k.toNat < (l.map Bw.ct).length := by simp; omega
    rw [List.getD, List.getElem?_eq_getElem this]
    exact List.getElem_mem this
  have HKA := kide (fun (i : Nat) (hi : i < n.ks.length) => kids_at hi hr)
  have HF := kide hf
  have HST := kide (sumV_take_le HOK.out)
  have HPOS : Hid (1 ≤ sumV (kidsV (l.map Bw.ct) n.ks)) := by
    have h := cat_all HOK.out hf (by simpa [kidsV] using hm)
    have := right_W h.2.1
    show _ ≤ _
    omega
  obtain ⟨op, vr, A, B, bw, ws, ks⟩ := n
  simp only [nodA] at *
  obtain ⟨kv, hkv⟩ : ∃ kv, kidsV (l.map Bw.ct) ks = kv := ⟨_, rfl⟩
  have HKV : Hid (kv.length = ks.length) := by show _ = _; rw [← hkv]; simp [kidsV]
  rw [hkv] at HOK HKA HF HST HPOS ⊢
  obtain ⟨kl, hkl⟩ : ∃ m, ks.length = m := ⟨_, rfl⟩
  rw [hkl] at HKA HKV hlk hm ⊢
  have HKL := kide hkl
  generalize ws.length = wl at *
  obtain ⟨-, -, h | ⟨kb, ko, rfl, hkc⟩⟩ := hk
  · rw [h] at hkl; simp at hkl; omega
  have q0 := hkc 0 (by omega)
  have p0 : ∃ ab ao, aa = some ⟨ab, ao, none⟩ ∧ ∀ i x, l[i]? = some x → BwAt u ab (ao + i * 2) x := by
    obtain ⟨-, h | h⟩ := ha
    · obtain ⟨j, x, -, h2, -⟩ := HKA.out 0 (by omega)
      rw [h] at h2; simp at h2
    · exact h
  obtain ⟨ab, ao, rfl, hac⟩ := p0
  have lE := block_lt_of_cell c1
  have lK := block_lt_of_cell q0
  have HKC := kide hkc
  have HAC := kide hac
  have XA : Bz ((u.alloc (Obj.cells #[Value.int .i64 op, Value.int .i64 vr, Value.int .i64 A, Value.int .i64 B, Value.int .i64 bw, Value.slice wa wl wc, Value.slice (some ⟨kb, ko, none⟩) kl kc] 63)).alloc (Obj.cells #[Value.int .i64 0, Value.slice none 0 0] 61)) u.heap.size #[Value.int .i64 op, Value.int .i64 vr, Value.int .i64 A, Value.int .i64 B, Value.int .i64 bw, Value.slice wa wl wc, Value.slice (some ⟨kb, ko, none⟩) kl kc] 63 := (Bz.new u #[Value.int .i64 op, Value.int .i64 vr, Value.int .i64 A, Value.int .i64 B, Value.int .i64 bw, Value.slice wa wl wc, Value.slice (some ⟨kb, ko, none⟩) kl kc] 63).later ((Below.refl _ _).alloc (Nat.le_refl _) _)
  have XR : Bz ((u.alloc (Obj.cells #[Value.int .i64 op, Value.int .i64 vr, Value.int .i64 A, Value.int .i64 B, Value.int .i64 bw, Value.slice wa wl wc, Value.slice (some ⟨kb, ko, none⟩) kl kc] 63)).alloc (Obj.cells #[Value.int .i64 0, Value.slice none 0 0] 61)) (u.heap.size + 1) #[Value.int .i64 0, Value.slice none 0 0] 61 := by
    have := Bz.new (u.alloc (Obj.cells #[Value.int .i64 op, Value.int .i64 vr, Value.int .i64 A, Value.int .i64 B, Value.int .i64 bw, Value.slice wa wl wc, Value.slice (some ⟨kb, ko, none⟩) kl kc] 63)) #[Value.int .i64 0, Value.slice none 0 0] 61
    rw [World.size_alloc] at this
    exact this
  have BW : Below u.heap.size u ((u.alloc (Obj.cells #[Value.int .i64 op, Value.int .i64 vr, Value.int .i64 A, Value.int .i64 B, Value.int .i64 bw, Value.slice wa wl wc, Value.slice (some ⟨kb, ko, none⟩) kl kc] 63)).alloc (Obj.cells #[Value.int .i64 0, Value.slice none 0 0] 61)) := Ba (Ba (Below.refl _ _) _) _
  have t6 : ((u.alloc (Obj.cells #[Value.int .i64 op, Value.int .i64 vr, Value.int .i64 A, Value.int .i64 B, Value.int .i64 bw, Value.slice wa wl wc, Value.slice (some ⟨kb, ko, none⟩) kl kc] 63)).alloc (Obj.cells #[Value.int .i64 0, Value.slice none 0 0] 61)).cell? ⟨u.heap.size, 6, none⟩ = some (.slice (some ⟨kb, ko, none⟩) kl kc) := XA.cell 6
  clear hr hkl ha hkc hac q0 hok hf hkv
  go_enter Tryz.func131, Tryz.ntmps131
  go_wp2_with fail
  generalize ((u.alloc (Obj.cells #[Value.int .i64 op, Value.int .i64 vr, Value.int .i64 A, Value.int .i64 B, Value.int .i64 bw, Value.slice wa wl wc, Value.slice (some ⟨kb, ko, none⟩) kl kc] 63)).alloc (Obj.cells #[Value.int .i64 0, Value.slice none 0 0] 61)) = w1 at *
  go_loopw [5, 14] (fun m q wr => ∃ i : Nat, i ≤ kl ∧ q = .int .i64 (i : Int) ∧ m = .int .i64 (sumV (kv.take i)) ∧ wr = w1) (fun _ q _ => kl - (intOf q).toNat)
  case atStart => exact ⟨0, Nat.zero_le _, rfl, by simp [sumV], by trivial⟩
  case round =>
    obtain ⟨i, hi, rfl, rfl, hwe⟩ := hrel
    subst hwe
    have hsr := HST.out i
    have hT := HF.out
    by_cases hlt : i < kl
    · obtain ⟨j, x, hj, hx, hy⟩ := HKA.out i hlt
      have k0 := HKC.out i (by rw [HKL.out]; exact hlt)
      rw [hj] at k0
      have d0 := (kcell BW _ _ (block_lt_of_cell k0)).trans k0
      obtain ⟨p0, -, -, -⟩ := HAC.out j x hx
      have d1 := (kcell BW _ _ (block_lt_of_cell p0)).trans p0
      have d2 := (kcell BW _ _ lE).trans c1
      have HTK := kide (sumV_take hy)
      have hsr2 := HST.out (i + 1)
      rw [HTK.out] at hsr2
      have hwr := right_W (HOK.out _ (List.mem_of_getElem? hy)).1
      have hjl : j < l.length := (List.getElem?_eq_some_iff.1 hx).1
      obtain ⟨wd, xa, xc, xs⟩ := x
      simp only [Bw.ct] at *
      generalize sumV (kv.take i) = sm at *
      generalize sumV kv = T at *
      have i0 : (i : Int) < (kl : Int) := by omega
      have i1 : (j : Int) < (l.length : Int) := by omega
      clear k0 p0 hx hy hj
      go_wp2_with fail
      go_roundw
      case rel => exact ⟨i + 1, by omega, by go_num, by rw [HTK.out], by trivial⟩
      case measure => simp [intOf]; omega
    · have hfin : Hid (kv.take i = kv) := by show _ = _; rw [List.take_of_length_le (by rw [HKV.out]; omega)]
      rw [hfin.out]
      obtain ⟨T, hTn⟩ := Int.eq_ofNat_of_zero_le (show 0 ≤ sumV kv by have := HPOS.out; omega)
      have hp := HPOS.out
      have HTN := kide hTn
      rw [hTn] at hT hp ⊢
      have HZ := kide (zeroBits_any T wr (by omega) (by omega))
      clear hsr hTn hfin
      go_wp2_with fail
      refine Calls.mono HZ.out ?_
      rintro e w2 ⟨g, rfl, hg, ho2, hb2⟩
      have XA2 := XA.later hb2
      have XR2 := XR.later hb2
      have BW2 := BW.trans (hb2.mono BW.size)
      have hb3 : Below w2.heap.size w2 (w2.alloc (Obj.cells #[Value.int .i64 (T : Int), Value.slice (some ⟨g, 0, none⟩) ((T + 63) / 64) ((T + 63) / 64)] 61)) := (Below.refl _ _).alloc (Nat.le_refl _) _
      have XA3 := XA2.later hb3
      have XR3 := XR2.later hb3
      have XK3 := Bz.new w2 #[Value.int .i64 (T : Int), Value.slice (some ⟨g, 0, none⟩) ((T + 63) / 64) ((T + 63) / 64)] 61
      have BW3 := BW2.trans (hb3.mono BW2.size)
      have OW3 := ho2.later hb3 ho2.lt
      have t63 : (w2.alloc (Obj.cells #[Value.int .i64 (T : Int), Value.slice (some ⟨g, 0, none⟩) ((T + 63) / 64) ((T + 63) / 64)] 61)).cell? ⟨u.heap.size, 6, none⟩ = some (.slice (some ⟨kb, ko, none⟩) kl kc) := XA3.cell 6
      have hgw := ho2.lt
      have hgl : u.heap.size + 2 ≤ g := by have := XR.lt; omega
      clear HZ hlt hb3 ho2 hb2 XA2 XR2 BW2
      go_wp2_with fail
      obtain ⟨rb, hrb⟩ : ∃ rb, w2.heap.size = rb := ⟨_, rfl⟩
      rw [hrb] at XK3 hgw ⊢
      generalize w2.alloc (Obj.cells #[Value.int .i64 (T : Int), Value.slice (some ⟨g, 0, none⟩) ((T + 63) / 64) ((T + 63) / 64)] 61) = w3 at *
      go_loopw [5, 34] (fun m q wr => ∃ (i P : Nat) (zs : List Nat), i ≤ kl ∧ q = .int .i64 (i : Int) ∧ m = .int .i64 (P : Int) ∧ (P : Int) + sumV (kv.take i) = (T : Int) ∧ catSo kv i P zs ∧ zs.length = (T + 63) / 64 ∧ (∀ y ∈ zs, y < 18446744073709551616) ∧ Own wr g zs ∧ w3.grownBy wr (some g)) (fun _ q _ => kl - (intOf q).toNat)
      case atStart => exact ⟨0, T, List.replicate ((T + 63) / 64) 0, Nat.zero_le _, rfl, rfl, by simp [sumV], catSo.start _ _ _, by simp, by simp, OW3, World.grownBy.refl _ _⟩
      case round =>
        obtain ⟨i2, P, zs, hi2, rfl, rfl, hPs, hso, hzl, hzb, hown, hgr⟩ := hrel
        have BR := BW3.grown hgr BW3.size (fun k e => by cases e; omega)
        have hbk := fun (b : Nat) (h1 : b < w3.heap.size) (h2 : b ≠ g) => hgr.block b h1 (by simpa using h2)
        have XKr : Bz wr rb #[Value.int .i64 (T : Int), Value.slice (some ⟨g, 0, none⟩) ((T + 63) / 64) ((T + 63) / 64)] 61 := by
          unfold Bz; rw [hbk rb XK3.lt (by omega)]; exact XK3
        have XRr : Bz wr (u.heap.size + 1) #[Value.int .i64 0, Value.slice none 0 0] 61 := by
          unfold Bz; rw [hbk _ XR3.lt (by omega)]; exact XR3
        have y0 := XKr.cell 0
        have y1 := XKr.cell 1
        simp at y0 y1
        by_cases hlt : i2 < kl
        · obtain ⟨j, x, hj, hx, hy⟩ := HKA.out i2 hlt
          have k0 := HKC.out i2 (by rw [HKL.out]; exact hlt)
          rw [hj] at k0
          have d0 := (BR.cell (p := ⟨kb, ko + i2, none⟩) (block_lt_of_cell k0)).trans k0
          obtain ⟨p0, p1, pr, -⟩ := HAC.out j x hx
          have d1 := (BR.cell (p := ⟨ab, ao + j * 2, none⟩) (block_lt_of_cell p0)).trans p0
          have d3 := (BR.cell (p := ⟨ab, ao + j * 2 + 1, none⟩) (block_lt_of_cell p1)).trans p1
          have d2 := (BR.cell (p := ⟨eb, 1, none⟩) lE).trans c1
          have HTK := kide (sumV_take hy)
          have hsr2 := HST.out (i2 + 1)
          have hsr0 := (HST.out i2).1
          rw [HTK.out, HTN.out] at hsr2
          have hxo := HOK.out _ (List.mem_of_getElem? hy)
          have hwr := right_W hxo.1
          have hjl : j < l.length := (List.getElem?_eq_some_iff.1 hx).1
          have HSTP := kide (fun (P V : Nat) (hz : catSo kv i2 (P + V) zs) (hV : x.ct.1 = (V : Int)) (hrm : P + V ≤ 64 * zs.length) => hz.step HOK.out HF.out hy hV hrm)
          obtain ⟨wd, xa, xc, xs⟩ := x
          simp only [Bw.ct] at *
          obtain ⟨V, rfl⟩ := Int.eq_ofNat_of_zero_le (show 0 ≤ wd by omega)
          obtain ⟨Q, hQ⟩ := Int.eq_ofNat_of_zero_le (show 0 ≤ (P : Int) - (V : Int) by omega)
          have hPQ : P = Q + V := by omega
          have hSt := HSTP.out Q V (by rw [← hPQ]; exact hso) rfl (by omega)
          have hrr : Rd wr xa xs := by
            refine ⟨pr.1, pr.2.1, ?_⟩
            rcases pr.2.2 with h | ⟨b', o', h, hc'⟩
            · exact .inl h
            · exact .inr ⟨b', o', h, fun i hi => (BR.cell (p := ⟨b', o' + i, none⟩) (block_lt_of_cell (hc' i hi))).trans (hc' i hi)⟩
          have HPB := kide (fun v (hv : Own v g zs) (hr : Rd v xa xs) => putBits_any (T : Int) (V : Int) g ((T + 63) / 64) xc Q xa zs xs v hv hr hzb (by omega) (by omega) (by omega) (put_fit hxo.1 hxo.2 Q zs.length (by omega)) (fun x e => by have := Rd.lt pr (by omega) x e; omega))
          rw [hzl] at HPB
          have HLT := kide (putTo_lt zs xs (Q / 64) (Q % 64) xs.length hzb hxo.2)
          have HLN := kide (putTo_len zs xs (Q / 64) (Q % 64) xs.length)
          have HSS := kide hSt
          have i0 : (i2 : Int) < (kl : Int) := by omega
          have i1 : (j : Int) < (l.length : Int) := by omega
          have hOW := kide hown
          have HRR := kide hrr
          have wQ : IntKind.i64.wrap (Q : Int) = (Q : Int) := by rw [IntKind.wrap_i64]; omega
          have hgw3 : g < wr.heap.size := hown.lt
          have lA := block_lt_of_cell d1
          have lA1 := block_lt_of_cell d3
          have lE2 := block_lt_of_cell d2
          have lR := XKr.lt
          have nA : ab ≠ g := by have := block_lt_of_cell p0; simp only [] at this; omega
          have nE : eb ≠ g := by omega
          have nR : rb ≠ g := by omega
          clear k0 p0 p1 pr hx hy hj hso hSt hrr hown hbk HSTP hsr2 hxo XRr XKr
          go_wp2_with fail
          go_region_held3 (fun v => v.cell? ⟨rb, 0, none⟩ = some (.int .i64 (T : Int)) ∧ v.cell? ⟨rb, 1, none⟩ = some (.slice (some ⟨g, 0, none⟩) ((T + 63) / 64) ((T + 63) / 64)) ∧ v.cell? ⟨eb, 1, none⟩ = some (.slice (some ⟨ab, ao, none⟩) l.length ac) ∧ v.cell? ⟨ab, ao + j * 2, none⟩ = some (.int .i64 (V : Int)) ∧ v.cell? ⟨ab, ao + j * 2 + 1, none⟩ = some (.slice xa xs.length xc)) (simp [*])
            ((go_at_call 151; refine Calls.mono (HPB.out _ hOW.out HRR.out) ?_; rintro e w5 ⟨rfl, ho5, hg5⟩; replace hg5 : wr.grownBy w5 (some g) := ⟨hg5.os, hg5.tape, hg5.output, hg5.size, hg5.block⟩; have z0 := (World.cell?_of_block (a := ⟨rb, 0, none⟩) (hg5.block rb lR (by simpa using nR))).trans y0; have z1 := (World.cell?_of_block (a := ⟨rb, 1, none⟩) (hg5.block rb lR (by simpa using nR))).trans y1; have z2 := (World.cell?_of_block (a := ⟨eb, 1, none⟩) (hg5.block eb lE2 (by simpa using nE))).trans d2; have z3 := (World.cell?_of_block (a := ⟨ab, ao + j * 2, none⟩) (hg5.block ab lA (by simpa using nA))).trans d1; have z4 := (World.cell?_of_block (a := ⟨ab, ao + j * 2 + 1, none⟩) (hg5.block ab lA1 (by simpa using nA))).trans d3))
          go_wp2_with fail
          go_roundw
          case rel => exact ⟨i2 + 1, Q, _, by omega, by go_num, by first | rfl | rw [hQ], by rw [HTK.out]; omega, HSS.out, by rw [HLN.out]; exact hzl, HLT.out, ho5, hgr.trans hg5⟩
          case measure => simp [intOf]; omega
        · have hfin : Hid (kv.take i2 = kv) := by show _ = _; rw [List.take_of_length_le (by rw [HKV.out]; omega)]
          have e2 : i2 = kv.length := by rw [HKV.out]; omega
          rw [hfin.out, HTN.out] at hPs
          have hP0 : P = 0 := by omega
          subst hP0
          rw [e2] at hso
          have HD := kide (hso.done HOK.out HF.out (by rw [HKV.out]; omega) HTN.out hzl hzb)
          rw [HD.out]
          have r0 := XRr.cell 0
          have r1 := XRr.cell 1
          have f0 := XRr.froz 0
          have f1 := XRr.froz 1
          simp at r0 r1
          have HOW := kide hown
          have HZL := kide hzl
          have HBR := kide BR
          have HXR := kide XRr
          clear hso hown hbk hfin e2 hzb
          go_wp2_with fail
          obtain ⟨x0, x1⟩ := ((Bz.blk HXR.out).put0' (.int .i64 (T : Int))).put1' (.slice (some ⟨g, 0, none⟩) ((T + 63) / 64) ((T + 63) / 64)) |>.cells
          refine bodyPost_ret (v := .agg #[.int .i64 (T : Int), .slice (some ⟨g, 0, none⟩) ((T + 63) / 64) ((T + 63) / 64)]) (by simp [results, Tryz.results131, go_sem, x0, x1]) rfl ?_
          first | rw [HD.out, ← HZL.out] | rw [← HZL.out]
          exact RetV.box (Bz.blk HXR.out) (Own.nw HOW.out (lo := u.heap.size) (by omega)) (Nat.le_refl _) (Nat.le_succ _) HBR.out

end Go.Proofs.YtdlmgndmfphneaaGreatDoor

/- The evaluator's methods of a variable and of a constant. -/
namespace Go.Proofs.YtdlmgndmfphneaaGreatDoor
set_option linter.unusedVariables false
set_option linter.unusedSimpArgs false
open Go.RowKit

set_option maxHeartbeats 1000000 in
set_option maxRecDepth 100000 in
theorem evVar_any (eb : Nat) (vs l : List Bw) (n : Tc) (wa ka : Option Addr) (wc kc : Nat) (u : World) (hE : Evl u eb vs l) (k : Nat) (x : Bw) (hk : n.vr = (k : Int)) (hx : vs[k]? = some x) (hw : 1 ≤ x.ws.length) :
    Calls Tryz.prog 129 #[.pointer (some ⟨eb, 0, none⟩), nodA n wa ka wc kc] u (RetV u x.ct) := by
  obtain ⟨⟨va, vc, c1, hv⟩, -⟩ := hE
  have hkl := (List.getElem?_eq_some_iff.1 hx).1
  have hla := hv.1
  obtain ⟨-, h | ⟨vb, vo, rfl, hvc⟩⟩ := hv
  · rw [h] at hkl; simp at hkl
  obtain ⟨p0, p1, pr, -⟩ := hvc k x hx
  have HC := kide (fun v (hv : Below u.heap.size u v) => copyBits_any x.wd x.a x.c x.ws v (pr.later hv) hw)
  have l0 := block_lt_of_cell c1
  have l2 := block_lt_of_cell p0
  have l3 := block_lt_of_cell p1
  obtain ⟨op, vr, A, B, bw, ws, ks⟩ := n
  obtain ⟨wd, xa, xc, xs⟩ := x
  simp only [nodA, Bw.ct] at *
  subst hk
  have hkl' : (k : Int) < (vs.length : Int) := by omega
  clear hvc hx pr
  generalize ws.length = wl at *
  generalize ks.length = kl at *
  have XA : Bz ((u.alloc (Obj.cells #[Value.int .i64 op, Value.int .i64 (k : Int), Value.int .i64 A, Value.int .i64 B, Value.int .i64 bw, Value.slice wa wl wc, Value.slice ka kl kc] 63)).alloc (Obj.cells #[Value.int .i64 0, Value.slice none 0 0] 61)) u.heap.size #[Value.int .i64 op, Value.int .i64 (k : Int), Value.int .i64 A, Value.int .i64 B, Value.int .i64 bw, Value.slice wa wl wc, Value.slice ka kl kc] 63 := (Bz.new u #[Value.int .i64 op, Value.int .i64 (k : Int), Value.int .i64 A, Value.int .i64 B, Value.int .i64 bw, Value.slice wa wl wc, Value.slice ka kl kc] 63).later ((Below.refl _ _).alloc (Nat.le_refl _) _)
  have XR : Bz ((u.alloc (Obj.cells #[Value.int .i64 op, Value.int .i64 (k : Int), Value.int .i64 A, Value.int .i64 B, Value.int .i64 bw, Value.slice wa wl wc, Value.slice ka kl kc] 63)).alloc (Obj.cells #[Value.int .i64 0, Value.slice none 0 0] 61)) (u.heap.size + 1) #[Value.int .i64 0, Value.slice none 0 0] 61 := by
    have := Bz.new (u.alloc (Obj.cells #[Value.int .i64 op, Value.int .i64 (k : Int), Value.int .i64 A, Value.int .i64 B, Value.int .i64 bw, Value.slice wa wl wc, Value.slice ka kl kc] 63)) #[Value.int .i64 0, Value.slice none 0 0] 61
    rw [World.size_alloc] at this
    exact this
  have BW : Below u.heap.size u ((u.alloc (Obj.cells #[Value.int .i64 op, Value.int .i64 (k : Int), Value.int .i64 A, Value.int .i64 B, Value.int .i64 bw, Value.slice wa wl wc, Value.slice ka kl kc] 63)).alloc (Obj.cells #[Value.int .i64 0, Value.slice none 0 0] 61)) := Ba (Ba (Below.refl _ _) _) _
  have d0 := (kcell BW _ _ l0).trans c1
  have d1 : ((u.alloc (Obj.cells #[Value.int .i64 op, Value.int .i64 (k : Int), Value.int .i64 A, Value.int .i64 B, Value.int .i64 bw, Value.slice wa wl wc, Value.slice ka kl kc] 63)).alloc (Obj.cells #[Value.int .i64 0, Value.slice none 0 0] 61)).cell? ⟨u.heap.size, 1, none⟩ = some (.int .i64 (k : Int)) := XA.cell 1
  have d2 := (kcell BW _ _ l2).trans p0
  have d3 := (kcell BW _ _ l3).trans p1
  have m0 := Nat.lt_of_lt_of_le l0 BW.size
  have m1 := XA.lt
  have m2 := Nat.lt_of_lt_of_le l2 BW.size
  have m3 := Nat.lt_of_lt_of_le l3 BW.size
  try simp only [] at l0 l2 l3 m0 m2 m3
  clear c1 p0 p1
  go_enter Tryz.func129, Tryz.ntmps129
  go_wp2_with fail
  generalize ((u.alloc (Obj.cells #[Value.int .i64 op, Value.int .i64 (k : Int), Value.int .i64 A, Value.int .i64 B, Value.int .i64 bw, Value.slice wa wl wc, Value.slice ka kl kc] 63)).alloc (Obj.cells #[Value.int .i64 0, Value.slice none 0 0] 61)) = w1 at *
  go_region_held_law (fun v => v.cell? ⟨eb, 0, none⟩ = some (.slice (some ⟨vb, vo, none⟩) vs.length vc) ∧ v.cell? ⟨u.heap.size, 1, none⟩ = some (.int .i64 (k : Int)) ∧ v.cell? ⟨vb, vo + k * 2, none⟩ = some (.int .i64 wd) ∧ v.cell? ⟨vb, vo + k * 2 + 1, none⟩ = some (.slice xa xs.length xc))
    (first | (refine ⟨?_, ?_, ?_, ?_⟩ <;> assumption) | (refine ⟨?_, ?_, ?_, ?_⟩ <;> ((first | rw [set2_far _ _ _ _ _ (by simp only []; omega)] | rw [drew2_far _ _ _ _ _ (by simp only []; omega)]); assumption)))
    (first
      | (go_at_call 106; refine Calls.mono (HC.out _ ?_) ?_; exact BW.drew; rintro e w2 ⟨a5, c5, rfl, hn2, hb2⟩; replace hb2 := kundrew hb2; have XR2 := XR.later hb2; have d0x := (kcell hb2 _ _ m0).trans d0; have d1x := (kcell hb2 _ _ m1).trans d1; have d2x := (kcell hb2 _ _ m2).trans d2; have d3x := (kcell hb2 _ _ m3).trans d3; obtain ⟨r0, r1⟩ := XR2.blk.cells; have f50 := XR2.froz 0; have f51 := XR2.froz 1; simp only [] at hn2 r0 r1))
  go_wp2
  obtain ⟨y0, y1⟩ := ((Bz.blk XR2).put0' (.int .i64 wd)).put1' (.slice a5 xs.length c5) |>.cells
  have BW2 := BW.trans (hb2.mono BW.size)
  refine bodyPost_ret (v := .agg #[.int .i64 wd, .slice a5 xs.length c5]) (by simp [results, Tryz.results129, go_sem, y0, y1]) rfl ?_
  have HN := RetV.box (W := wd) (c := c5) (Bz.blk XR2) hn2 BW.size (Nat.le_succ _) BW2
  first | exact HN | exact ⟨a5, c5, rfl, (by obtain ⟨-, -, -, h, -⟩ := HN; exact h), (by obtain ⟨-, -, -, -, h⟩ := HN; exact h.drew)⟩

set_option maxHeartbeats 1000000 in
set_option maxRecDepth 100000 in
theorem evConst_any (eb : Nat) (n : Tc) (wa ka : Option Addr) (wc kc : Nat) (u : World) (hr : Rd u wa n.ws) (hw : 1 ≤ n.ws.length) :
    Calls Tryz.prog 130 #[.pointer (some ⟨eb, 0, none⟩), nodA n wa ka wc kc] u (RetV u (n.bw, n.ws)) := by
  have HC := kide (fun v (hv : Below u.heap.size u v) => copyBits_any n.bw wa wc n.ws v (hr.later hv) hw)
  obtain ⟨op, vr, A, B, bw, ws, ks⟩ := n
  simp only [nodA] at *
  clear hr
  generalize ks.length = kl at *
  have XA : Bz ((u.alloc (Obj.cells #[Value.int .i64 op, Value.int .i64 vr, Value.int .i64 A, Value.int .i64 B, Value.int .i64 bw, Value.slice wa ws.length wc, Value.slice ka kl kc] 63)).alloc (Obj.cells #[Value.int .i64 0, Value.slice none 0 0] 61)) u.heap.size #[Value.int .i64 op, Value.int .i64 vr, Value.int .i64 A, Value.int .i64 B, Value.int .i64 bw, Value.slice wa ws.length wc, Value.slice ka kl kc] 63 := (Bz.new u #[Value.int .i64 op, Value.int .i64 vr, Value.int .i64 A, Value.int .i64 B, Value.int .i64 bw, Value.slice wa ws.length wc, Value.slice ka kl kc] 63).later ((Below.refl _ _).alloc (Nat.le_refl _) _)
  have XR : Bz ((u.alloc (Obj.cells #[Value.int .i64 op, Value.int .i64 vr, Value.int .i64 A, Value.int .i64 B, Value.int .i64 bw, Value.slice wa ws.length wc, Value.slice ka kl kc] 63)).alloc (Obj.cells #[Value.int .i64 0, Value.slice none 0 0] 61)) (u.heap.size + 1) #[Value.int .i64 0, Value.slice none 0 0] 61 := by
    have := Bz.new (u.alloc (Obj.cells #[Value.int .i64 op, Value.int .i64 vr, Value.int .i64 A, Value.int .i64 B, Value.int .i64 bw, Value.slice wa ws.length wc, Value.slice ka kl kc] 63)) #[Value.int .i64 0, Value.slice none 0 0] 61
    rw [World.size_alloc] at this
    exact this
  have BW : Below u.heap.size u ((u.alloc (Obj.cells #[Value.int .i64 op, Value.int .i64 vr, Value.int .i64 A, Value.int .i64 B, Value.int .i64 bw, Value.slice wa ws.length wc, Value.slice ka kl kc] 63)).alloc (Obj.cells #[Value.int .i64 0, Value.slice none 0 0] 61)) := Ba (Ba (Below.refl _ _) _) _
  have d0 : ((u.alloc (Obj.cells #[Value.int .i64 op, Value.int .i64 vr, Value.int .i64 A, Value.int .i64 B, Value.int .i64 bw, Value.slice wa ws.length wc, Value.slice ka kl kc] 63)).alloc (Obj.cells #[Value.int .i64 0, Value.slice none 0 0] 61)).cell? ⟨u.heap.size, 4, none⟩ = some (.int .i64 bw) := XA.cell 4
  have d1 : ((u.alloc (Obj.cells #[Value.int .i64 op, Value.int .i64 vr, Value.int .i64 A, Value.int .i64 B, Value.int .i64 bw, Value.slice wa ws.length wc, Value.slice ka kl kc] 63)).alloc (Obj.cells #[Value.int .i64 0, Value.slice none 0 0] 61)).cell? ⟨u.heap.size, 5, none⟩ = some (.slice wa ws.length wc) := XA.cell 5
  have m0 := XA.lt
  have m1 := XA.lt
  go_enter Tryz.func130, Tryz.ntmps130
  go_wp2_with fail
  generalize ((u.alloc (Obj.cells #[Value.int .i64 op, Value.int .i64 vr, Value.int .i64 A, Value.int .i64 B, Value.int .i64 bw, Value.slice wa ws.length wc, Value.slice ka kl kc] 63)).alloc (Obj.cells #[Value.int .i64 0, Value.slice none 0 0] 61)) = w1 at *
  refine Calls.mono (HC.out _ BW) ?_
  rintro e w2 ⟨a5, c5, rfl, hn2, hb2⟩
  have XR2 := XR.later hb2
  obtain ⟨r0, r1⟩ := XR2.blk.cells
  have f50 := XR2.froz 0
  have f51 := XR2.froz 1
  simp only [] at hn2 r0 r1
  go_wp2
  obtain ⟨y0, y1⟩ := ((Bz.blk XR2).put0' (.int .i64 bw)).put1' (.slice a5 ws.length c5) |>.cells
  have BW2 := BW.trans (hb2.mono BW.size)
  refine bodyPost_ret (v := .agg #[.int .i64 bw, .slice a5 ws.length c5]) (by simp [results, Tryz.results130, go_sem, y0, y1]) rfl ?_
  have HN := RetV.box (W := bw) (c := c5) (Bz.blk XR2) hn2 BW.size (Nat.le_succ _) BW2
  first | exact HN | exact ⟨a5, c5, rfl, (by obtain ⟨-, -, -, h, -⟩ := HN; exact h), (by obtain ⟨-, -, -, -, h⟩ := HN; exact h.drew)⟩

end Go.Proofs.YtdlmgndmfphneaaGreatDoor

/- The evaluator's turn to the right. -/
namespace Go.Proofs.YtdlmgndmfphneaaGreatDoor
set_option linter.unusedVariables false
set_option linter.unusedSimpArgs false
open Go.RowKit

theorem wrap_smallE (x : Int) (h0 : 0 ≤ x) (h1 : x ≤ 4096) : IntKind.i64.wrap x = x := by rw [IntKind.wrap_i64]; omega

theorem turn_mod {W : Int} {xs : List Nat} {q : Int} (hok : rightB W xs = true) (h0 : 0 ≤ q) (h1 : q ≤ 4096) : turnR W xs (q % W) = turnR W xs q := by
  have hr := right_W hok
  obtain ⟨V, rfl⟩ := Int.eq_ofNat_of_zero_le (show 0 ≤ W by omega)
  obtain ⟨m, rfl⟩ := Int.eq_ofNat_of_zero_le h0
  have e : (m : Int) % (V : Int) = ((m % V : Nat) : Int) := rfl
  have hl : m % V ≤ m := Nat.mod_le _ _
  rw [e, turnR, turnR, if_pos ⟨hok, by omega, by omega⟩, if_pos ⟨hok, by omega, by omega⟩, Int.toNat_natCast, Int.toNat_natCast, Int.toNat_natCast, Nat.mod_mod]

set_option maxHeartbeats 4000000 in
set_option maxRecDepth 100000 in
theorem evRight_any (eb : Nat) (vs l : List Bw) (n : Tc) (wa ka : Option Addr) (wc kc : Nat) (u : World) (hE : Evl u eb vs l) (hk : RdI u ka n.ks) (h1 : n.ks.length = 1) (j : Nat) (x : Bw) (hj : n.ks.getD 0 0 = (j : Int)) (hx : l[j]? = some x) (hok : okWd x.ct) (ha : 0 ≤ n.a ∧ n.a ≤ 4096) :
    Calls Tryz.prog 136 #[.pointer (some ⟨eb, 0, none⟩), nodA n wa ka wc kc] u (RetV u (two (turnR x.wd x.ws ((x.wd - n.a % x.wd) % x.wd)))) := by
  have HKID := kide (fun v (hv : Below u.heap.size u v) => kid_any eb vs l n wa ka wc kc v (hE.later hv) (hk.later hv) h1 j x hj hx)
  have hxr : Rd u x.a x.ws := by
    obtain ⟨aa, ac, -, ha⟩ := hE.ahd
    obtain ⟨-, h | ⟨ab, ao, rfl, hac⟩⟩ := ha
    · rw [h] at hx; simp at hx
    exact (hac j x hx).2.2.1
  have HOP := kide (fun v (hv : Below u.heap.size u v) => implTurn_any x.wd x.a x.c x.ws (x.wd - n.a % x.wd) v (hxr.later hv))
  have hw1 := right_W hok.1
  simp only [Bw.ct] at hw1
  have hm1 := Int.emod_nonneg n.a (show x.wd ≠ 0 by omega)
  have hm2 := Int.emod_lt_of_pos n.a (show 0 < x.wd by omega)
  rw [turn_mod (W := x.wd) (xs := x.ws) hok.1 (by omega) (by omega)]
  generalize hR : turnR x.wd x.ws (x.wd - n.a % x.wd) = R at *
  clear hR hE hk hj hx hxr h1
  obtain ⟨op, vr, A, B, bw, ws, ks⟩ := n
  obtain ⟨wd, xa, xc, xs⟩ := x
  simp only [nodA, RetB] at *
  obtain ⟨r, hr⟩ := Int.eq_ofNat_of_zero_le hm1
  obtain ⟨q, hq⟩ := Int.eq_ofNat_of_zero_le (show 0 ≤ wd - A % wd by omega)
  rw [hq] at HOP
  rw [hr] at hq
  have hwz : ¬ wd = 0 := by omega
  have htm : A.tmod wd = (r : Int) := by rw [Int.tmod_eq_emod_of_nonneg ha.1]; exact hr
  have wr1 : IntKind.i64.wrap (r : Int) = (r : Int) := wrap_smallE _ (by omega) (by omega)
  have wq1 : IntKind.i64.wrap (q : Int) = (q : Int) := wrap_smallE _ (by omega) (by omega)
  clear hok hm1 hm2
  generalize ws.length = wl at *
  generalize ks.length = kl at *
  generalize xs.length = xl at *
  have XA : Hid (Bz ((u.alloc (Obj.cells #[Value.int .i64 op, Value.int .i64 vr, Value.int .i64 A, Value.int .i64 B, Value.int .i64 bw, Value.slice wa wl wc, Value.slice ka kl kc] 63)).alloc (Obj.cells #[Value.int .i64 0, Value.slice none 0 0] 61)) u.heap.size #[Value.int .i64 op, Value.int .i64 vr, Value.int .i64 A, Value.int .i64 B, Value.int .i64 bw, Value.slice wa wl wc, Value.slice ka kl kc] 63) := (Bz.new u #[Value.int .i64 op, Value.int .i64 vr, Value.int .i64 A, Value.int .i64 B, Value.int .i64 bw, Value.slice wa wl wc, Value.slice ka kl kc] 63).later ((Below.refl _ _).alloc (Nat.le_refl _) _)
  have XR : Hid (Bz ((u.alloc (Obj.cells #[Value.int .i64 op, Value.int .i64 vr, Value.int .i64 A, Value.int .i64 B, Value.int .i64 bw, Value.slice wa wl wc, Value.slice ka kl kc] 63)).alloc (Obj.cells #[Value.int .i64 0, Value.slice none 0 0] 61)) (u.heap.size + 1) #[Value.int .i64 0, Value.slice none 0 0] 61) := by
    have := Bz.new (u.alloc (Obj.cells #[Value.int .i64 op, Value.int .i64 vr, Value.int .i64 A, Value.int .i64 B, Value.int .i64 bw, Value.slice wa wl wc, Value.slice ka kl kc] 63)) #[Value.int .i64 0, Value.slice none 0 0] 61
    rw [World.size_alloc] at this
    exact this
  have BW : Hid (Below u.heap.size u ((u.alloc (Obj.cells #[Value.int .i64 op, Value.int .i64 vr, Value.int .i64 A, Value.int .i64 B, Value.int .i64 bw, Value.slice wa wl wc, Value.slice ka kl kc] 63)).alloc (Obj.cells #[Value.int .i64 0, Value.slice none 0 0] 61))) := Ba (Ba (Below.refl _ _) _) _
  go_enter Tryz.func136, Tryz.ntmps136
  go_wp2_with fail
  generalize ((u.alloc (Obj.cells #[Value.int .i64 op, Value.int .i64 vr, Value.int .i64 A, Value.int .i64 B, Value.int .i64 bw, Value.slice wa wl wc, Value.slice ka kl kc] 63)).alloc (Obj.cells #[Value.int .i64 0, Value.slice none 0 0] 61)) = w1 at *
  refine Calls.mono (HKID.out w1 BW.out) ?_
  rintro e v0 ⟨rfl, hb0⟩
  have XA0 := kide (XA.out.later hb0)
  have XR0 := kide (XR.out.later hb0)
  have BW0 := kide (BW.out.trans (hb0.mono BW.out.size))
  clear XA XR BW hb0
  have hbk : Below v0.heap.size v0 (v0.alloc (Obj.cells #[Value.int .i64 wd, Value.slice xa xl xc] 61)) := (Below.refl _ _).alloc (Nat.le_refl _) _
  have XA1 := kide (XA0.out.later hbk)
  have XR1 := kide (XR0.out.later hbk)
  have BW1 := kide (BW0.out.trans (hbk.mono BW0.out.size))
  have XN1 := kide (Bz.new v0 #[Value.int .i64 wd, Value.slice xa xl xc] 61)
  have hNkb : Hid (u.heap.size + 2 ≤ v0.heap.size) := by have := XR0.out.lt; show _ ≤ _; omega
  go_wp2_with fail
  obtain ⟨kb, hkb⟩ : ∃ x, v0.heap.size = x := ⟨_, rfl⟩
  rw [hkb] at XN1 hNkb ⊢
  generalize v0.alloc (Obj.cells #[Value.int .i64 wd, Value.slice xa xl xc] 61) = v1 at *
  clear hbk hkb XA0 XR0 BW0
  have hKB := hNkb
  have XK1 := XN1
  clear XN1
  have c0 := XA1.out.cell 2
  have c1 := XK1.out.cell 0
  simp at c0 c1
  refine wp_region_x (SA := fun _ => False) (SB := fun z => S9 u.heap.size op vr A B bw wa wl wc ka kl kc kb wd xa xl xc z) (k := 999) (by kernel_rfl) ?_
  have hbd : Below v1.heap.size v1 v1.drew := (Below.refl _ _).drew
  have XA2 := kide (XA1.out.later hbd)
  have XR2 := kide (XR1.out.later hbd)
  have XK2 := kide (XK1.out.later hbd)
  have BW2 := kide (BW1.out.drew)
  clear hbd c0 c1 XA1 XR1 XK1 BW1
  generalize v1.drew = v2 at *
  have hs2 : Hid ((fun z => S9 u.heap.size op vr A B bw wa wl wc ka kl kc kb wd xa xl xc z) v2) := ⟨XA2.out.cell 0, XA2.out.cell 1, XA2.out.cell 2, XA2.out.cell 3, XA2.out.cell 4, XA2.out.cell 5, XA2.out.cell 6, XK2.out.cell 0, XK2.out.cell 1⟩
  try go_simp
  refine wpAnyX_both (T := fun z => S9 u.heap.size op vr A B bw wa wl wc ka kl kc kb wd xa xl xc z) (i := 0) (v := Value.agg #[Value.int .i64 wd, Value.slice xa xl xc]) rfl (by kernel_rfl) (by kernel_rfl) (by kernel_rfl) (fun _ _ _ h => by first | exact h | exact h.elim | cases h.1) (by decide) (fun _ h => h.elim) (fun _ h => h) (Sx.behind (by kernel_rfl) hs2.out) (Or.inl ⟨by rfl, fun z hz => by obtain ⟨e0, e1, e2, e3, e4, e5, e6, e7, e8⟩ := hz; go_simp⟩) ?_
  try go_simp
  refine wpAnyX_both (T := fun z => S9 u.heap.size op vr A B bw wa wl wc ka kl kc kb wd xa xl xc z) (i := 1) (v := Value.pointer (some ⟨kb, 0, none⟩)) rfl (by kernel_rfl) (by kernel_rfl) (by kernel_rfl) (fun _ _ _ h => by first | exact h | exact h.elim | cases h.1) (by decide) (fun _ h => h.elim) (fun _ h => h) (Sx.behind (by kernel_rfl) hs2.out) (Or.inl ⟨by rfl, fun z hz => by obtain ⟨e0, e1, e2, e3, e4, e5, e6, e7, e8⟩ := hz; go_simp⟩) ?_
  try go_simp
  refine wpAnyX_both (T := fun z => S9 u.heap.size op vr A B bw wa wl wc ka kl kc kb wd xa xl xc z) (i := 2) (v := Value.int .i64 wd) rfl (by kernel_rfl) (by kernel_rfl) (by kernel_rfl) (fun _ _ _ h => by first | exact h | exact h.elim | cases h.1) (by decide) (fun _ h => h.elim) (fun _ h => h) (Sx.behind (by kernel_rfl) hs2.out) (Or.inl ⟨by rfl, fun z hz => by obtain ⟨e0, e1, e2, e3, e4, e5, e6, e7, e8⟩ := hz; go_simp⟩) ?_
  try go_simp
  refine wpAnyX_both (T := fun z => S9 u.heap.size op vr A B bw wa wl wc ka kl kc kb wd xa xl xc z) (i := 3) (v := Value.pointer (some ⟨u.heap.size, 2, none⟩)) rfl (by kernel_rfl) (by kernel_rfl) (by kernel_rfl) (fun _ _ _ h => by first | exact h | exact h.elim | cases h.1) (by decide) (fun _ h => h.elim) (fun _ h => h) (Sx.behind (by kernel_rfl) hs2.out) (Or.inl ⟨by rfl, fun z hz => by obtain ⟨e0, e1, e2, e3, e4, e5, e6, e7, e8⟩ := hz; go_simp⟩) ?_
  try go_simp
  refine wpAnyX_both (T := fun z => S9 u.heap.size op vr A B bw wa wl wc ka kl kc kb wd xa xl xc z) (i := 4) (v := Value.int .i64 A) rfl (by kernel_rfl) (by kernel_rfl) (by kernel_rfl) (fun _ _ _ h => by first | exact h | exact h.elim | cases h.1) (by decide) (fun _ h => h.elim) (fun _ h => h) (Sx.behind (by kernel_rfl) hs2.out) (Or.inl ⟨by rfl, fun z hz => by obtain ⟨e0, e1, e2, e3, e4, e5, e6, e7, e8⟩ := hz; go_simp⟩) ?_
  try go_simp
  refine wpAnyX_both (T := fun z => S9 u.heap.size op vr A B bw wa wl wc ka kl kc kb wd xa xl xc z) (i := 5) (v := Value.pointer (some ⟨kb, 0, none⟩)) rfl (by kernel_rfl) (by kernel_rfl) (by kernel_rfl) (fun _ _ _ h => by first | exact h | exact h.elim | cases h.1) (by decide) (fun _ h => h.elim) (fun _ h => h) (Sx.behind (by kernel_rfl) hs2.out) (Or.inl ⟨by rfl, fun z hz => by obtain ⟨e0, e1, e2, e3, e4, e5, e6, e7, e8⟩ := hz; go_simp⟩) ?_
  try go_simp
  refine wpAnyX_both (T := fun z => S9 u.heap.size op vr A B bw wa wl wc ka kl kc kb wd xa xl xc z) (i := 6) (v := Value.int .i64 wd) rfl (by kernel_rfl) (by kernel_rfl) (by kernel_rfl) (fun _ _ _ h => by first | exact h | exact h.elim | cases h.1) (by decide) (fun _ h => h.elim) (fun _ h => h) (Sx.behind (by kernel_rfl) hs2.out) (Or.inl ⟨by rfl, fun z hz => by obtain ⟨e0, e1, e2, e3, e4, e5, e6, e7, e8⟩ := hz; go_simp⟩) ?_
  try go_simp
  refine wpAnyX_both (T := fun z => S9 u.heap.size op vr A B bw wa wl wc ka kl kc kb wd xa xl xc z) (i := 7) (v := Value.int .i64 (r : Int)) rfl (by kernel_rfl) (by kernel_rfl) (by kernel_rfl) (fun _ _ _ h => by first | exact h | exact h.elim | cases h.1) (by decide) (fun _ h => h.elim) (fun _ h => h) (Sx.behind (by kernel_rfl) hs2.out) (Or.inl ⟨by rfl, fun z hz => by obtain ⟨e0, e1, e2, e3, e4, e5, e6, e7, e8⟩ := hz; go_simp⟩) ?_
  try go_simp
  refine wpAnyX_both (T := fun z => S9 u.heap.size op vr A B bw wa wl wc ka kl kc kb wd xa xl xc z) (i := 8) (v := Value.int .i64 (q : Int)) rfl (by kernel_rfl) (by kernel_rfl) (by kernel_rfl) (fun _ _ _ h => by first | exact h | exact h.elim | cases h.1) (by decide) (fun _ h => h.elim) (fun _ h => h) (Sx.behind (by kernel_rfl) hs2.out) (Or.inl ⟨by rfl, fun z hz => by obtain ⟨e0, e1, e2, e3, e4, e5, e6, e7, e8⟩ := hz; go_simp⟩) ?_
  try go_simp
  refine wpAnyX_ready (rs := [9, 13]) (by kernel_rfl) (by simp) (AllX.cons rfl (fun K hK => ?_) (AllX.cons rfl (fun K hK => ?_) AllX.nil))
  · go_simp
    refine Calls.mono (HOP.out v2 BW2.out) ?_
    rintro e v3 ⟨a5, c5, rfl, hf3, hb3⟩
    have XA3 := kide (XA2.out.later hb3)
    have XR3 := kide (XR2.out.later hb3)
    have XK3 := kide (XK2.out.later hb3)
    have BW3 := kide (BW2.out.trans (hb3.mono BW2.out.size))
    have NW3 := kide ((Fresh.nwE hf3).mono (lo' := u.heap.size) BW2.out.size)
    clear hb3 hf3
    have hs3 : Hid ((fun z => S9 u.heap.size op vr A B bw wa wl wc ka kl kc kb wd xa xl xc z) v3) := ⟨XA3.out.cell 0, XA3.out.cell 1, XA3.out.cell 2, XA3.out.cell 3, XA3.out.cell 4, XA3.out.cell 5, XA3.out.cell 6, XK3.out.cell 0, XK3.out.cell 1⟩
    refine hK _ _ (Sx.behind (by kernel_rfl) hs3.out) ?_
    clear hK K
    try go_simp
    refine wpAnyX_both (T := fun z => S9 u.heap.size op vr A B bw wa wl wc ka kl kc kb wd xa xl xc z) (i := 10) (v := Value.tuple #[Value.agg #[Value.int .i64 R.1, Value.slice a5 R.2.1.length c5], Value.bool R.2.2]) rfl (by kernel_rfl) (by kernel_rfl) (by kernel_rfl) (fun _ _ _ h => by first | exact h | exact h.elim | cases h.1) (by decide) (fun _ h => h.elim) (fun _ h => h) (Sx.behind (by kernel_rfl) hs3.out) (Or.inl ⟨by rfl, fun z hz => by obtain ⟨e0, e1, e2, e3, e4, e5, e6, e7, e8⟩ := hz; go_simp⟩) ?_
    try go_simp
    refine wpAnyX_both (T := fun z => S9 u.heap.size op vr A B bw wa wl wc ka kl kc kb wd xa xl xc z) (i := 11) (v := Value.agg #[Value.int .i64 R.1, Value.slice a5 R.2.1.length c5]) rfl (by kernel_rfl) (by kernel_rfl) (by kernel_rfl) (fun _ _ _ h => by first | exact h | exact h.elim | cases h.1) (by decide) (fun _ h => h.elim) (fun _ h => h) (Sx.behind (by kernel_rfl) hs3.out) (Or.inl ⟨by rfl, fun z hz => by obtain ⟨e0, e1, e2, e3, e4, e5, e6, e7, e8⟩ := hz; go_simp⟩) ?_
    try go_simp
    refine wpAnyX_both (T := fun z => S9 u.heap.size op vr A B bw wa wl wc ka kl kc kb wd xa xl xc z) (i := 12) (v := Value.bool R.2.2) rfl (by kernel_rfl) (by kernel_rfl) (by kernel_rfl) (fun _ _ _ h => by first | exact h | exact h.elim | cases h.1) (by decide) (fun _ h => h.elim) (fun _ h => h) (Sx.behind (by kernel_rfl) hs3.out) (Or.inl ⟨by rfl, fun z hz => by obtain ⟨e0, e1, e2, e3, e4, e5, e6, e7, e8⟩ := hz; go_simp⟩) ?_
    try go_simp
    refine wpAnyX_ready (rs := [13]) (by kernel_rfl) (by simp) (AllX.cons rfl (fun K hK => ?_) AllX.nil)
    go_simp
    have hbx : Below v3.heap.size v3 (v3.alloc (Obj.cells #[Value.int .i64 0, Value.slice none 0 0] 61)) := (Below.refl _ _).alloc (Nat.le_refl _) _
    have XA4 := kide (XA3.out.later hbx)
    have XR4 := kide (XR3.out.later hbx)
    have XK4 := kide (XK3.out.later hbx)
    have BW4 := kide (BW3.out.trans (hbx.mono BW3.out.size))
    have NW4 := kide (NW3.out.later hbx)
    have XN4 := kide (Bz.new v3 #[Value.int .i64 0, Value.slice none 0 0] 61)
    have hNbN : Hid (u.heap.size + 2 ≤ v3.heap.size) := by have := XR3.out.lt; show _ ≤ _; omega
    have hNK : Hid (kb < v3.heap.size) := XK3.out.lt
    obtain ⟨bN, hbbN⟩ : ∃ x, v3.heap.size = x := ⟨_, rfl⟩
    rw [hbbN] at XN4 hNbN hNK ⊢
    clear hbbN hbx
    generalize v3.alloc (Obj.cells #[Value.int .i64 0, Value.slice none 0 0] 61) = v4 at *
    have hs4 : Hid ((fun z => S9 u.heap.size op vr A B bw wa wl wc ka kl kc kb wd xa xl xc z) v4) := ⟨XA4.out.cell 0, XA4.out.cell 1, XA4.out.cell 2, XA4.out.cell 3, XA4.out.cell 4, XA4.out.cell 5, XA4.out.cell 6, XK4.out.cell 0, XK4.out.cell 1⟩
    refine hK _ _ (Sx.behind (by kernel_rfl) hs4.out) ?_
    clear hK K
    try go_simp
    refine wpAnyX_ready (rs := [14]) (by kernel_rfl) (by simp) (AllX.cons rfl (fun K hK => ?_) AllX.nil)
    have e8 := XN4.out.cell 0
    have e9 := XN4.out.cell 1
    have f8 := XN4.out.froz 0
    have f9 := XN4.out.froz 1
    simp at e8 e9
    go_simp
    have XN5 : Hid (Bz ((v4.setCell ⟨bN, 0, none⟩ (Value.int .i64 R.1)).setCell ⟨bN, 1, none⟩ (Value.slice a5 R.2.1.length c5)) bN #[Value.int .i64 R.1, Value.slice a5 R.2.1.length c5] 61) := (XN4.out.set 0 _).set 1 _
    have XA5 : Hid (Bz ((v4.setCell ⟨bN, 0, none⟩ (Value.int .i64 R.1)).setCell ⟨bN, 1, none⟩ (Value.slice a5 R.2.1.length c5)) (u.heap.size) #[Value.int .i64 op, Value.int .i64 vr, Value.int .i64 A, Value.int .i64 B, Value.int .i64 bw, Value.slice wa wl wc, Value.slice ka kl kc] 63) := (XA4.out.other (by have := hNbN.out; omega) 0 _).other (by have := hNbN.out; omega) 1 _
    have XR5 : Hid (Bz ((v4.setCell ⟨bN, 0, none⟩ (Value.int .i64 R.1)).setCell ⟨bN, 1, none⟩ (Value.slice a5 R.2.1.length c5)) (u.heap.size + 1) #[Value.int .i64 0, Value.slice none 0 0] 61) := (XR4.out.other (by have := hNbN.out; omega) 0 _).other (by have := hNbN.out; omega) 1 _
    have BW5 : Hid (Below u.heap.size u ((v4.setCell ⟨bN, 0, none⟩ (Value.int .i64 R.1)).setCell ⟨bN, 1, none⟩ (Value.slice a5 R.2.1.length c5))) := (BW4.out.setCell (show u.heap.size ≤ bN by have := hNbN.out; omega) _).setCell (show u.heap.size ≤ bN by have := hNbN.out; omega) _
    have XK5 : Hid (Bz ((v4.setCell ⟨bN, 0, none⟩ (Value.int .i64 R.1)).setCell ⟨bN, 1, none⟩ (Value.slice a5 R.2.1.length c5)) kb #[Value.int .i64 wd, Value.slice xa xl xc] 61) := (XK4.out.other (by have := hNK.out; omega) 0 _).other (by have := hNK.out; omega) 1 _
    have NW5 : Hid (Nw ((v4.setCell ⟨bN, 0, none⟩ (Value.int .i64 R.1)).setCell ⟨bN, 1, none⟩ (Value.slice a5 R.2.1.length c5)) u.heap.size a5 R.2.1) := ((NW4.out.set XN4.out (by decide) 0 _).set (XN4.out.set 0 _) (by decide) 1 _)
    generalize (v4.setCell ⟨bN, 0, none⟩ (Value.int .i64 R.1)).setCell ⟨bN, 1, none⟩ (Value.slice a5 R.2.1.length c5) = v5 at *
    clear e8 e9 f8 f9
    have hs5 : Hid ((fun z => S9 u.heap.size op vr A B bw wa wl wc ka kl kc kb wd xa xl xc z) v5) := ⟨XA5.out.cell 0, XA5.out.cell 1, XA5.out.cell 2, XA5.out.cell 3, XA5.out.cell 4, XA5.out.cell 5, XA5.out.cell 6, XK5.out.cell 0, XK5.out.cell 1⟩
    refine hK _ _ (Sx.behind (by kernel_rfl) hs5.out) ?_
    clear hK K
    try go_simp
    refine wpAnyX_both (T := fun z => S9 u.heap.size op vr A B bw wa wl wc ka kl kc kb wd xa xl xc z) (i := 15) (v := Value.bool R.2.2) rfl (by kernel_rfl) (by kernel_rfl) (by kernel_rfl) (fun _ _ _ h => by first | exact h | exact h.elim | cases h.1) (by decide) (fun _ h => h.elim) (fun _ h => h) (Sx.behind (by kernel_rfl) hs5.out) (Or.inl ⟨by rfl, fun z hz => by obtain ⟨e0, e1, e2, e3, e4, e5, e6, e7, e8⟩ := hz; go_simp⟩) ?_
    try go_simp
    refine wpAnyX_done (by kernel_rfl) ?_ _
    have q0 := XN5.out.cell 0
    have q1 := XN5.out.cell 1
    have r0 := XR5.out.cell 0
    have r1 := XR5.out.cell 1
    have f0 := XR5.out.froz 0
    have f1 := XR5.out.froz 1
    simp at q0 q1 r0 r1
    go_wp2_with fail
    obtain ⟨y0, y1⟩ := ((Bz.blk XR5.out).put0' (.int .i64 R.1)).put1' (.slice a5 R.2.1.length c5) |>.cells
    exact bodyPost_ret (v := Value.agg #[Value.int .i64 R.1, Value.slice a5 R.2.1.length c5]) (by simp [results, Tryz.results136, go_sem, y0, y1]) rfl (RetV.box (Bz.blk XR5.out) NW5.out (Nat.le_refl _) (Nat.le_succ _) BW5.out)
  · go_simp
    have hbx : Below v2.heap.size v2 (v2.alloc (Obj.cells #[Value.int .i64 0, Value.slice none 0 0] 61)) := (Below.refl _ _).alloc (Nat.le_refl _) _
    have XA3 := kide (XA2.out.later hbx)
    have XR3 := kide (XR2.out.later hbx)
    have XK3 := kide (XK2.out.later hbx)
    have BW3 := kide (BW2.out.trans (hbx.mono BW2.out.size))
    have XN3 := kide (Bz.new v2 #[Value.int .i64 0, Value.slice none 0 0] 61)
    have hNbN : Hid (u.heap.size + 2 ≤ v2.heap.size) := by have := XR2.out.lt; show _ ≤ _; omega
    have hNK : Hid (kb < v2.heap.size) := XK2.out.lt
    obtain ⟨bN, hbbN⟩ : ∃ x, v2.heap.size = x := ⟨_, rfl⟩
    rw [hbbN] at XN3 hNbN hNK ⊢
    clear hbbN hbx
    generalize v2.alloc (Obj.cells #[Value.int .i64 0, Value.slice none 0 0] 61) = v3 at *
    have hs3 : Hid ((fun z => S9 u.heap.size op vr A B bw wa wl wc ka kl kc kb wd xa xl xc z) v3) := ⟨XA3.out.cell 0, XA3.out.cell 1, XA3.out.cell 2, XA3.out.cell 3, XA3.out.cell 4, XA3.out.cell 5, XA3.out.cell 6, XK3.out.cell 0, XK3.out.cell 1⟩
    refine hK _ _ (Sx.behind (by kernel_rfl) hs3.out) ?_
    clear hK K
    try go_simp
    refine wpAnyX_ready (rs := [9]) (by kernel_rfl) (by simp) (AllX.cons rfl (fun K hK => ?_) AllX.nil)
    go_simp
    refine Calls.mono (HOP.out v3 BW3.out) ?_
    rintro e v4 ⟨a5, c5, rfl, hf4, hb4⟩
    have XA4 := kide (XA3.out.later hb4)
    have XR4 := kide (XR3.out.later hb4)
    have XN4 := kide (XN3.out.later hb4)
    have XK4 := kide (XK3.out.later hb4)
    have BW4 := kide (BW3.out.trans (hb4.mono BW3.out.size))
    have NW4 := kide ((Fresh.nwE hf4).mono (lo' := u.heap.size) BW3.out.size)
    clear hb4 hf4
    have hs4 : Hid ((fun z => S9 u.heap.size op vr A B bw wa wl wc ka kl kc kb wd xa xl xc z) v4) := ⟨XA4.out.cell 0, XA4.out.cell 1, XA4.out.cell 2, XA4.out.cell 3, XA4.out.cell 4, XA4.out.cell 5, XA4.out.cell 6, XK4.out.cell 0, XK4.out.cell 1⟩
    refine hK _ _ (Sx.behind (by kernel_rfl) hs4.out) ?_
    clear hK K
    try go_simp
    refine wpAnyX_both (T := fun z => S9 u.heap.size op vr A B bw wa wl wc ka kl kc kb wd xa xl xc z) (i := 10) (v := Value.tuple #[Value.agg #[Value.int .i64 R.1, Value.slice a5 R.2.1.length c5], Value.bool R.2.2]) rfl (by kernel_rfl) (by kernel_rfl) (by kernel_rfl) (fun _ _ _ h => by first | exact h | exact h.elim | cases h.1) (by decide) (fun _ h => h.elim) (fun _ h => h) (Sx.behind (by kernel_rfl) hs4.out) (Or.inl ⟨by rfl, fun z hz => by obtain ⟨e0, e1, e2, e3, e4, e5, e6, e7, e8⟩ := hz; go_simp⟩) ?_
    try go_simp
    refine wpAnyX_both (T := fun z => S9 u.heap.size op vr A B bw wa wl wc ka kl kc kb wd xa xl xc z) (i := 11) (v := Value.agg #[Value.int .i64 R.1, Value.slice a5 R.2.1.length c5]) rfl (by kernel_rfl) (by kernel_rfl) (by kernel_rfl) (fun _ _ _ h => by first | exact h | exact h.elim | cases h.1) (by decide) (fun _ h => h.elim) (fun _ h => h) (Sx.behind (by kernel_rfl) hs4.out) (Or.inl ⟨by rfl, fun z hz => by obtain ⟨e0, e1, e2, e3, e4, e5, e6, e7, e8⟩ := hz; go_simp⟩) ?_
    try go_simp
    refine wpAnyX_both (T := fun z => S9 u.heap.size op vr A B bw wa wl wc ka kl kc kb wd xa xl xc z) (i := 12) (v := Value.bool R.2.2) rfl (by kernel_rfl) (by kernel_rfl) (by kernel_rfl) (fun _ _ _ h => by first | exact h | exact h.elim | cases h.1) (by decide) (fun _ h => h.elim) (fun _ h => h) (Sx.behind (by kernel_rfl) hs4.out) (Or.inl ⟨by rfl, fun z hz => by obtain ⟨e0, e1, e2, e3, e4, e5, e6, e7, e8⟩ := hz; go_simp⟩) ?_
    try go_simp
    refine wpAnyX_ready (rs := [14]) (by kernel_rfl) (by simp) (AllX.cons rfl (fun K hK => ?_) AllX.nil)
    have e8 := XN4.out.cell 0
    have e9 := XN4.out.cell 1
    have f8 := XN4.out.froz 0
    have f9 := XN4.out.froz 1
    simp at e8 e9
    go_simp
    have XN5 : Hid (Bz ((v4.setCell ⟨bN, 0, none⟩ (Value.int .i64 R.1)).setCell ⟨bN, 1, none⟩ (Value.slice a5 R.2.1.length c5)) bN #[Value.int .i64 R.1, Value.slice a5 R.2.1.length c5] 61) := (XN4.out.set 0 _).set 1 _
    have XA5 : Hid (Bz ((v4.setCell ⟨bN, 0, none⟩ (Value.int .i64 R.1)).setCell ⟨bN, 1, none⟩ (Value.slice a5 R.2.1.length c5)) (u.heap.size) #[Value.int .i64 op, Value.int .i64 vr, Value.int .i64 A, Value.int .i64 B, Value.int .i64 bw, Value.slice wa wl wc, Value.slice ka kl kc] 63) := (XA4.out.other (by have := hNbN.out; omega) 0 _).other (by have := hNbN.out; omega) 1 _
    have XR5 : Hid (Bz ((v4.setCell ⟨bN, 0, none⟩ (Value.int .i64 R.1)).setCell ⟨bN, 1, none⟩ (Value.slice a5 R.2.1.length c5)) (u.heap.size + 1) #[Value.int .i64 0, Value.slice none 0 0] 61) := (XR4.out.other (by have := hNbN.out; omega) 0 _).other (by have := hNbN.out; omega) 1 _
    have BW5 : Hid (Below u.heap.size u ((v4.setCell ⟨bN, 0, none⟩ (Value.int .i64 R.1)).setCell ⟨bN, 1, none⟩ (Value.slice a5 R.2.1.length c5))) := (BW4.out.setCell (show u.heap.size ≤ bN by have := hNbN.out; omega) _).setCell (show u.heap.size ≤ bN by have := hNbN.out; omega) _
    have XK5 : Hid (Bz ((v4.setCell ⟨bN, 0, none⟩ (Value.int .i64 R.1)).setCell ⟨bN, 1, none⟩ (Value.slice a5 R.2.1.length c5)) kb #[Value.int .i64 wd, Value.slice xa xl xc] 61) := (XK4.out.other (by have := hNK.out; omega) 0 _).other (by have := hNK.out; omega) 1 _
    have NW5 : Hid (Nw ((v4.setCell ⟨bN, 0, none⟩ (Value.int .i64 R.1)).setCell ⟨bN, 1, none⟩ (Value.slice a5 R.2.1.length c5)) u.heap.size a5 R.2.1) := ((NW4.out.set XN4.out (by decide) 0 _).set (XN4.out.set 0 _) (by decide) 1 _)
    generalize (v4.setCell ⟨bN, 0, none⟩ (Value.int .i64 R.1)).setCell ⟨bN, 1, none⟩ (Value.slice a5 R.2.1.length c5) = v5 at *
    clear e8 e9 f8 f9
    have hs5 : Hid ((fun z => S9 u.heap.size op vr A B bw wa wl wc ka kl kc kb wd xa xl xc z) v5) := ⟨XA5.out.cell 0, XA5.out.cell 1, XA5.out.cell 2, XA5.out.cell 3, XA5.out.cell 4, XA5.out.cell 5, XA5.out.cell 6, XK5.out.cell 0, XK5.out.cell 1⟩
    refine hK _ _ (Sx.behind (by kernel_rfl) hs5.out) ?_
    clear hK K
    try go_simp
    refine wpAnyX_both (T := fun z => S9 u.heap.size op vr A B bw wa wl wc ka kl kc kb wd xa xl xc z) (i := 15) (v := Value.bool R.2.2) rfl (by kernel_rfl) (by kernel_rfl) (by kernel_rfl) (fun _ _ _ h => by first | exact h | exact h.elim | cases h.1) (by decide) (fun _ h => h.elim) (fun _ h => h) (Sx.behind (by kernel_rfl) hs5.out) (Or.inl ⟨by rfl, fun z hz => by obtain ⟨e0, e1, e2, e3, e4, e5, e6, e7, e8⟩ := hz; go_simp⟩) ?_
    try go_simp
    refine wpAnyX_done (by kernel_rfl) ?_ _
    have q0 := XN5.out.cell 0
    have q1 := XN5.out.cell 1
    have r0 := XR5.out.cell 0
    have r1 := XR5.out.cell 1
    have f0 := XR5.out.froz 0
    have f1 := XR5.out.froz 1
    simp at q0 q1 r0 r1
    go_wp2_with fail
    obtain ⟨y0, y1⟩ := ((Bz.blk XR5.out).put0' (.int .i64 R.1)).put1' (.slice a5 R.2.1.length c5) |>.cells
    exact bodyPost_ret (v := Value.agg #[Value.int .i64 R.1, Value.slice a5 R.2.1.length c5]) (by simp [results, Tryz.results136, go_sem, y0, y1]) rfl (RetV.box (Bz.blk XR5.out) NW5.out (Nat.le_refl _) (Nat.le_succ _) BW5.out)

end Go.Proofs.YtdlmgndmfphneaaGreatDoor
