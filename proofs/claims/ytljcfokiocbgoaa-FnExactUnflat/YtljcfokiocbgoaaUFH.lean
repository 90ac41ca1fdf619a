/- What the program's Unflat answers. -/
import Derived.RangeFuncNested
import Derived.RangeFuncBound
import Derived.RangeFuncCalls
import Derived.Shelf.RegionOpen
import Derived.Test.YtljcfokiocbgoaaZUO
import Derived.Test.YtljcfokiocbgoaaUFG
import Derived.Test.YtljcfokiocbgoaaUFE
namespace Go.Proofs.Ytljcfokiocbgoaa
set_option linter.unusedVariables false
set_option linter.unusedSimpArgs false
open Go.RowKit Go.Shelf Go.WideMaps Go.Maps Go.MapKept Go.ChangeMaps
attribute [local go_sem] Oper.semAt_some

/-- An owned row of numbers as kids. -/
theorem oi_ni {w : World} {B : Nat} {a : Option Addr} {n c : Nat} {l : List Int} (h : OI w B (.slice a n c) l) (h0 : 0 < l.length) : Ni w B a l := by
  rcases h.2 with ⟨h1, h2⟩ | ⟨g, cap, cur, e, hg, hh, hc1, hc2, hsz, hcur⟩
  · omega
  · cases e
    refine .inr ⟨g, cur, rfl, hg, hh, fun i hi => ?_⟩
    have h3 : (cur.toList.take (l.length * 1))[i]? = (i64s l).toList[i]? := by rw [hcur]
    rw [List.getElem?_take, if_pos (by omega)] at h3
    simp only [Array.getElem?_toList] at h3
    rw [h3, i64s_get _ _ hi]
theorem oi_own {w : World} {B : Nat} {a : Option Addr} {n c : Nat} {l : List Int} (h : OI w B (.slice a n c) l) {q : Addr} (e : a = some q) : (Value.slice a n c).ownBlock = some q.block := by
  rcases h.2 with ⟨h1, h2⟩ | ⟨g, cap, cur, e', hg, -⟩
  · cases h1; cases e
  · cases e'; cases e; rfl
theorem kdS_rg (ds : List Dc) (xs : List Sg) {n : Nat} (pre : List (Fin n)) : ∀ j ∈ kdS ds xs pre, 0 ≤ j ∧ j < ((ndS ds xs pre).length : Int) := by
  intro j hj
  unfold kdS at hj
  obtain ⟨i, hi, rfl⟩ := List.mem_map.1 hj
  have h1 := unfTo_kids ds (cmS xs pre) i hi
  obtain ⟨h2, h3, h4⟩ := len_shAll (ns := ndS ds xs pre) (unfTo_ahead ds _)
  have hlt : i.toNat < (shAll (ndS ds xs pre)).2.length := by rw [h3]; unfold ndS; omega
  have h5 := h4 _ (List.getElem_mem hlt)
  rw [List.getD_eq_getElem?_getD, List.getElem?_eq_getElem hlt]
  simp only [Option.getD_some]
  omega

/-- The block of deferred calls is shut: nothing else is another. -/
theorem ts_putD {w : World} {lo D : Nat} {v : Value} {l : List Tg} {y : Option (List Deferred)} {o : Obj} (h : Ts w lo v l) (hd : w.heap[D]? = some (.deferred y)) : Ts (w.putObj D o) lo v l := by
  have keep : ∀ (k : Nat) (cur : Array Value) (t : TypeId) (fz : Nat × Nat), w.heap[k]? = some (.cells cur t fz) → (w.putObj D o).heap[k]? = w.heap[k]? := fun k cur t fz hc => World.putObj_heap_other (fun e => by subst e; rw [hd] at hc; cases hc)
  exact ⟨h.row.move fun b hb => by obtain ⟨c, hc⟩ := h.row.typed hb; exact keep _ _ _ _ hc, fun x hx => (h.wn x hx).kept fun k cur hc => keep _ _ _ _ hc, fun x hx => (h.kn x hx).kept fun k cur hc => keep _ _ _ _ hc, h.wd, h.kd⟩
theorem below_putD {w u : World} {n D : Nat} {o : Obj} (h : Below n w u) (hd : n ≤ D) : Below n w (u.putObj D o) := h.trans ⟨rfl, rfl, rfl, by simp, fun k hk => World.putObj_heap_other (fun e => by omega)⟩
theorem cell_putD {w : World} {D b o : Nat} {y : Option (List Deferred)} {ob : Obj} {x : Value} (h : w.cell? ⟨b, o, none⟩ = some x) (hd : w.heap[D]? = some (.deferred y)) : (w.putObj D ob).cell? ⟨b, o, none⟩ = some x := by
  have hne : b ≠ D := fun e => by
    subst e
    simp only [World.cell?, hd] at h
    cases h
  simp only [World.cell?] at h ⊢
  rw [World.putObj_heap_other (by first | exact hne | exact hne.symm)]
  exact h

set_option maxHeartbeats 8000000 in
set_option maxRecDepth 100000 in
theorem implUnf_any (a da : Option Addr) (c dc n : Nat) (ds : List Dc) (xs : List Sg) (w : World) (hd : RdD w da ds) (hr : RdS w a xs) (hn : xs.length = n) (hs : ∀ x ∈ xs, x.a = none → x.c = 0) :
    Calls Try.prog 10 #[.slice da ds.length dc, .slice a n c] w (RetUf w (unfR ds (xs.map Sg.ct))) := by
  have HFL := kide (fun u (hb : Below w.heap.size w u) => implFlat_any a da c dc n ds xs u (hd.later hb) (hr.later hb) hn)
  have HD := kide hd
  have HR := kide hr
  have HN := kide hn
  have HS := kide hs
  obtain ⟨R, hRR⟩ : ∃ R, unfR ds (xs.map Sg.ct) = R := ⟨_, rfl⟩
  rw [hRR]
  have HRR := kide hRR
  obtain ⟨dn, hdn⟩ : ∃ dn, ds.length = dn := ⟨_, rfl⟩
  have HDN := kide hdn
  rw [hdn] at HFL ⊢
  clear hd hr hn hs hRR hdn
  have B0 : Hid (Below w.heap.size w ((w.alloc (Obj.cells #[Value.slice da dn dc] 31)).alloc (Obj.cells #[Value.slice none 0 0] 28))) := ((Below.refl _ _).alloc (Nat.le_refl _) _).alloc (by simp) _
  have XD0 : Hid (Bz ((w.alloc (Obj.cells #[Value.slice da dn dc] 31)).alloc (Obj.cells #[Value.slice none 0 0] 28)) w.heap.size #[Value.slice da dn dc] 31) := (Bz.new w _ _).later ((Below.refl _ _).alloc (Nat.le_refl _) _)
  have XR0 : Hid (Bz ((w.alloc (Obj.cells #[Value.slice da dn dc] 31)).alloc (Obj.cells #[Value.slice none 0 0] 28)) (w.heap.size + 1) #[Value.slice none 0 0] 28) := by
    have h9 := Bz.new (w.alloc (Obj.cells #[Value.slice da dn dc] 31)) #[Value.slice none 0 0] 28
    rw [show (w.alloc (Obj.cells #[Value.slice da dn dc] 31)).heap.size = w.heap.size + 1 by simp] at h9
    exact h9
  refine (callsIn_wide (n := 5)).1 ?_
  refine callsIn_of_wp_marks Try.func10 rfl trivial ?_ rfl
  simp only [Try.ntmps10, List.size_toArray, List.length_cons, List.length_nil, Nat.reduceAdd, Nat.reduceSub, Array.replicate_succ, Array.replicate_zero, List.push_toArray, List.append_toArray, List.nil_append, List.cons_append]
  gi_wp2
  refine ⟨trivial, (callsIn_wide.2 (HFL.out _ B0.out)).mono ?_⟩
  rintro e w1 ⟨rfl, hb1⟩
  have B1 := kide (B0.out.trans (hb1.mono B0.out.size))
  have XD1 := kide (XD0.out.later hb1)
  have XR1 := kide (XR0.out.later hb1)
  clear hb1 B0 XD0 XR0
  obtain ⟨b0, hb0⟩ : ∃ b0, w.heap.size = b0 := ⟨_, rfl⟩
  have HB0 := kide hb0
  rw [hb0] at XD1 XR1
  simp only [hb0]
  clear hb0
  have d0 := XR1.out.cell 0
  have f0 := XR1.out.froz 0
  simp at d0
  cases hf : flatR ds (xs.map Sg.ct) with
  | false =>
    have hR : R = ([], false) := by rw [← HRR.out]; simp [unfR, hf]
    have B9 : Hid (Below w.heap.size w (w1.setCell ⟨b0 + 1, 0, none⟩ (Value.slice none 0 0))) := B1.out.setCell (by simp only []; have := HB0.out; omega) _
    have y0 : (w1.setCell ⟨b0 + 1, 0, none⟩ (Value.slice none 0 0)).cell? ⟨b0 + 1, 0, none⟩ = some (Value.slice none 0 0) := (XR1.out.set 0 _).cell 0
    have Y0 := kide y0
    clear y0
    gi_wp2
    have y0 := Y0.out
    rw [hR]
    exact ⟨.tuple #[.agg #[.slice none 0 0], .bool false], by simp [results, Try.results10, go_sem, y0], ⟨.slice none 0 0, [], rfl, Ts.nil _ _, rfl, B9.out⟩⟩
  | true =>
    have HFT := kide hf
    clear hf
    gi_wp2
    refine ⟨trivial, (callsIn_wide.2 (newArena_any w1)).mono ?_⟩
    rintro e w2 ⟨s, g, rfl, har, hb2⟩
    have AR2 := kide har
    have B12 := kide hb2
    have B2 := kide (B1.out.trans (hb2.mono B1.out.size))
    have XD2 := kide (XD1.out.later hb2)
    have XR2 := kide (XR1.out.later hb2)
    clear har hb2 d0 f0
    have hfl : 1 ≤ n ∧ n ≤ 2000 := by
      have h9 := HFT.out
      simp only [flatR, Bool.and_eq_true, decide_eq_true_eq, List.length_map, HN.out] at h9
      exact ⟨h9.1.1.1.2, h9.1.1.2⟩
    have HNL := kide hfl
    have h0n : 0 < n := by omega
    obtain ⟨ab, ao, rfl, hcs⟩ : ∃ b o, a = some ⟨b, o, none⟩ ∧ ∀ i y, xs[i]? = some y → SgAt w b (o + i * 5) y := by
      rcases HR.out.2 with h0 | h0
      · have := HN.out; rw [h0] at this; simp at this; omega
      · exact h0
    have hbw : ab < b0 := by
      have hx : xs[0]? = some (xs[0]'(by rw [HN.out]; omega)) := List.getElem?_eq_getElem _
      have := block_lt_of_cell (hcs 0 _ hx).1.1
      have := HB0.out
      simp only [] at *
      omega
    have HCS := kide hcs
    clear hfl hcs
    gi_wp2
    refine ⟨trivial, (backward_in Fence.wide _ trivial rfl (some ⟨ab, ao, none⟩) n c _).mono ?_⟩
    rintro e w' ⟨rfl, rfl⟩
    gi_wp2
    obtain ⟨A, hA⟩ : ∃ A, w2.heap.size = A := ⟨_, rfl⟩
    have HA := kide hA
    have hsz : (((w2.alloc (Obj.cells #[Value.pointer (some ⟨s, 0, none⟩)] 63)).alloc (Obj.cells #[Value.slice none 0 0] 52)).alloc (Obj.cells #[Value.slice (some ⟨ab, ao, none⟩) n c] 33)).heap.size = A + 3 := by simp; omega
    have hbW : Below w2.heap.size w2 (((w2.alloc (Obj.cells #[Value.pointer (some ⟨s, 0, none⟩)] 63)).alloc (Obj.cells #[Value.slice none 0 0] 52)).alloc (Obj.cells #[Value.slice (some ⟨ab, ao, none⟩) n c] 33)) := (((Below.refl _ _).alloc (Nat.le_refl _) _).alloc (by simp) _).alloc (by simp; omega) _
    have hXA : Bz (((w2.alloc (Obj.cells #[Value.pointer (some ⟨s, 0, none⟩)] 63)).alloc (Obj.cells #[Value.slice none 0 0] 52)).alloc (Obj.cells #[Value.slice (some ⟨ab, ao, none⟩) n c] 33)) A #[Value.pointer (some ⟨s, 0, none⟩)] 63 := by
      rw [← hA]
      exact ((Bz.new w2 _ _).later ((Below.refl _ _).alloc (Nat.le_refl _) _)).later ((Below.refl _ _).alloc (Nat.le_refl _) _)
    have hXK : Bz (((w2.alloc (Obj.cells #[Value.pointer (some ⟨s, 0, none⟩)] 63)).alloc (Obj.cells #[Value.slice none 0 0] 52)).alloc (Obj.cells #[Value.slice (some ⟨ab, ao, none⟩) n c] 33)) (A + 1) #[Value.slice none 0 0] 52 := by
      have h9 := Bz.new (w2.alloc (Obj.cells #[Value.pointer (some ⟨s, 0, none⟩)] 63)) #[Value.slice none 0 0] 52
      rw [show (w2.alloc (Obj.cells #[Value.pointer (some ⟨s, 0, none⟩)] 63)).heap.size = A + 1 by simp; omega] at h9
      exact h9.later ((Below.refl _ _).alloc (Nat.le_refl _) _)
    have hXB : Bz (((w2.alloc (Obj.cells #[Value.pointer (some ⟨s, 0, none⟩)] 63)).alloc (Obj.cells #[Value.slice none 0 0] 52)).alloc (Obj.cells #[Value.slice (some ⟨ab, ao, none⟩) n c] 33)) (A + 2) #[Value.slice (some ⟨ab, ao, none⟩) n c] 33 := by
      have h9 := Bz.new ((w2.alloc (Obj.cells #[Value.pointer (some ⟨s, 0, none⟩)] 63)).alloc (Obj.cells #[Value.slice none 0 0] 52)) #[Value.slice (some ⟨ab, ao, none⟩) n c] 33
      rw [show ((w2.alloc (Obj.cells #[Value.pointer (some ⟨s, 0, none⟩)] 63)).alloc (Obj.cells #[Value.slice none 0 0] 52)).heap.size = A + 2 by simp; omega] at h9
      exact h9
    generalize ((w2.alloc (Obj.cells #[Value.pointer (some ⟨s, 0, none⟩)] 63)).alloc (Obj.cells #[Value.slice none 0 0] 52)).alloc (Obj.cells #[Value.slice (some ⟨ab, ao, none⟩) n c] 33) = W0 at *
    simp only [hA]
    have hbw0 : Below w.heap.size w W0 := B2.out.trans (hbW.mono B2.out.size)
    have hb1W : Below w1.heap.size w1 W0 := B12.out.trans (hbW.mono B12.out.size)
    have hw1A : w1.heap.size ≤ A := by have := B12.out.size; omega
    have hwA : w.heap.size ≤ w1.heap.size := B1.out.size
    have hgA : g < A + 3 := by obtain ⟨es, ck, h9⟩ := own_isMapN AR2.out.mp; have := lt_of_block h9; omega
    have hSh : ∀ j, j < n → ShAt W0 ab (ao + j * 5) (sgN xs j).hd := fun j hj => by
      have hx : xs[j]? = some (sgN xs j) := by
        have h9 : xs[j]? = some (xs[j]'(by rw [HN.out]; omega)) := List.getElem?_eq_getElem _
        rw [h9]; simp [sgN, List.getD, h9]
      exact ((HCS.out j _ hx).later hbw0).1
    have h00 : UnS w1 b0 A s g (A + 3) da dn dc ds xs ([] : List (Fin n)) W0 :=
      ⟨XD2.out.later hbW, XR2.out.later hbW, hXA, ⟨_, hXB⟩, ⟨_, _, [], none, 0, AR2.out.later hbW, by simp [ndS, cmS, unfTo, shAll, shTo], hXK, World.ownsRow_nil _ _ _ _, by simp⟩, hb1W, by omega⟩
    refine wpIn_rangeFunc_ownH rfl (by omega) (gf := 44) (lb := #[.pointer (some ⟨A + 2, 0, none⟩)]) rfl trivial (enters_of Try.func44 (by kernel_rfl) rfl)
      (backward_stops Fence.wide 4 trivial rfl (by omega) (A + 2) w.heap.size ab ao n c xs HN.out h0n (by have := HNL.out; omega) W0 (by omega) (by omega) (by have := HB0.out; omega) (hXB.cell 0) hSh)
      KpB.trans (KpB.put (B := W0.heap.size) (by omega) (by omega)) (Below.refl _ _) (fun _ => rfl)
      (fun pre W => UnS w1 b0 A s g (A + 3) da dn dc ds xs pre W) (fun _ _ _ => False)
      (by rw [hsz]; exact UnS.own hgA (by omega)) (fun _ _ _ _ _ hs _ _ => hs) h00
      (fun x a' W => ∃ Bx, A + 3 ≤ Bx ∧ Bz W Bx #[Value.int .i64 (sgN xs x).ct.v, Value.int .i64 (sgN xs x).ct.lo, Value.int .i64 (sgN xs x).ct.wd, Value.int .i64 (sgN xs x).ct.bw, Value.slice (sgN xs x).a (sgN xs x).ct.ws.length (sgN xs x).c] 55 ∧ a' = { tmps := #[Value.slice da dn dc, Value.slice (some ⟨ab, ao, none⟩) n c, Value.pointer (some ⟨b0, 0, none⟩), undef, Value.pointer (some ⟨b0 + 1, 0, none⟩), Value.bool false, Value.pointer (some ⟨A, 0, none⟩), Value.pointer (some ⟨A + 1, 0, none⟩), undef, Value.pointer (some ⟨Bx, 0, none⟩), Value.slice da dn dc, Value.slice (some ⟨ab, ao, none⟩) n c, Value.bool true, Value.bool false, undef, Value.pointer (some ⟨s, 0, none⟩), Value.slice (some ⟨ab, ao, none⟩) n c, Value.func (Fn.func 44) #[] #[Value.pointer (some ⟨A + 1 + 1, 0, none⟩)], Value.int .i64 ((x : Nat) : Int), segV (sgN xs x), undef, undef, undef, undef, undef, undef, undef, undef, undef, undef, undef, undef, undef, undef, undef, undef, undef, undef, undef, undef, undef, undef, undef, undef, undef, undef], defers := [] })
      (fun x a' _ X Y row hs hg hr => by obtain ⟨Bx, h1, h2, h3⟩ := hs; exact ⟨Bx, h1, bz_own h2 hg (fun r e => (hr r e).2), h3⟩)
      ?assign ?body ?done ?stop
    case stop => exact fun _ _ _ _ _ _ h _ => h.elim
    case assign =>
      rintro l pre x W K hU hK
      have HKQ := kide hK
      clear hK
      simp only [segV]
      gi_wp2
      have hba : Below W.heap.size W (W.alloc (Obj.cells #[Value.int .i64 (sgN xs x).ct.v, Value.int .i64 (sgN xs x).ct.lo, Value.int .i64 (sgN xs x).ct.wd, Value.int .i64 (sgN xs x).ct.bw, Value.slice (sgN xs x).a (sgN xs x).ct.ws.length (sgN xs x).c] 55)) := (Below.refl _ _).alloc (Nat.le_refl _) _
      have hsW := hU.sz
      exact HKQ.out _ _ ((KeepsOthers.alloc _ _).from _) ⟨hba.mono (by have := hU.bl.size; omega), hba.block _ (by omega)⟩ (hU.later hba) ⟨W.heap.size, hU.sz, Bz.new W _ _, rfl⟩
    case body =>
      rintro l pre x a' W hl hrec hU ⟨Bx, hBx, hX, rfl⟩ hpN
      have HU := kide hU
      have HX := kide hX
      have HREC := kide hrec
      have d1 := hU.xd.cell 0
      have f1 := hU.xd.froz 0
      have d2 := hU.xa.cell 0
      have f2 := hU.xa.froz 0
      obtain ⟨tv, tD, tl, ka, kc, hta, htl, hk1, hk2, hkl⟩ := hU.tk
      have HKL := kide hkl
      have HTA := kide hta
      have HTL := kide htl
      have HK2 := kide hk2
      have XK := kide hk1
      have d3 := hk1.cell 0
      have f3 := hk1.froz 0
      have d4 := hX.cell 0
      have d5 := hX.cell 1
      have d6 := hX.cell 2
      have d7 := hX.cell 3
      have d8 := hX.cell 4
      simp at d1 d2 d3 d4 d5 d6 d7 d8
      have hbA : b0 + 1 < w1.heap.size := XR1.out.lt
      have hkdl : (kdS ds xs pre).length = pre.length := by unfold kdS; rw [List.length_map, (unfTo_len ds _).1, cmS_len]
      clear hU hX hk2 hk1 hrec hkl hta htl
      gi_wp2
      have hxx : xs[(x : Nat)]? = some (sgN xs x) := by
        have hx9 : (x : Nat) < xs.length := by rw [HN.out]; exact x.isLt
        have h9 : xs[(x : Nat)]? = some (xs[(x : Nat)]'hx9) := List.getElem?_eq_getElem _
        rw [h9]; simp [sgN, List.getD, h9]
      have hat := HCS.out x _ hxx
      have hbd : Below W.heap.size W W.drew := (Below.refl _ _).drew
      have hcall : Calls Try.prog 27 #[.pointer (some ⟨s, 0, none⟩), .slice da dn dc, .agg #[.int .i64 (sgN xs x).ct.v, .int .i64 (sgN xs x).ct.lo, .int .i64 (sgN xs x).ct.wd, .int .i64 (sgN xs x).ct.bw, .slice (sgN xs x).a (sgN xs x).ct.ws.length (sgN xs x).c]] W.drew (RetSg w1 W.drew s g W.heap.size tl (ndS ds xs (pre ++ [x]))) := by
        rw [ndS_snoc, ← HDN.out]
        refine addSeg_any s g tv tD tl da dc ds (sgN xs x).ct (sgN xs x).a (sgN xs x).c (ndS ds xs pre) w1 W.drew (HU.out.bl.trans (hbd.mono HU.out.bl.size)) (HTA.out.later hbd) (HD.out.later B1.out) (hat.2.1.later B1.out) (HS.out _ (List.mem_of_getElem? hxx)) HTL.out (unfTo_ahead ds _) ?_ ?_ hat.2.2.2.2.2
        · have h8 := (unfTo_len ds (cmS xs pre)).2.2
          rw [cmS_len] at h8
          have := HNL.out
          unfold ndS
          omega
        · rcases flat_sg HFT.out (j := x) (s := (sgN xs x).ct) (by simp [hxx]) with h8 | ⟨h1, h2, h3, h4, h5, h6, h7, h8⟩
          · exact .inl h8
          · exact .inr ⟨h1, h2, h3, h4, h5, h6, h7⟩
      have HCALL := kide hcall
      clear hcall hat
      have hmx : Try.prog.follows .mixedOrders = true := by kernel_rfl
      refine wpIn_region_any hmx ?_
      change wpAnyIn _ _ _ _ _ _ _ _ _ (World.drew _)
      refine wpAnyIn_ready (rs := [0, 1, 2, 3]) (by kernel_rfl) (by simp) ?_
      refine AllReadyIn.cons rfl (fun K hK => ?_) ?_
      · go_simp
        refine hK _ _ ?_
        clear hK K
        refine wpAnyIn_ready (rs := [1, 2, 3]) (by kernel_rfl) (by simp) ?_
        refine AllReadyIn.cons rfl (fun K hK => ?_) ?_
        · go_simp
          refine hK _ _ ?_
          clear hK K
          refine wpAnyIn_ready (rs := [2, 3]) (by kernel_rfl) (by simp) ?_
          refine AllReadyIn.cons rfl (fun K hK => ?_) ?_
          · go_simp
            refine hK _ _ ?_
            clear hK K
            refine wpAnyIn_ready (rs := [3]) (by kernel_rfl) (by simp) ?_
            refine AllReadyIn.cons rfl (fun K hK => ?_) AllReadyIn.nil
            go_simp
            refine hK _ _ ?_
            clear hK K
            refine wpAnyIn_ready (rs := [4]) (by kernel_rfl) (by simp) ?_
            refine AllReadyIn.cons rfl (fun K hK => ?_) AllReadyIn.nil
            go_simp
            refine ⟨trivial, (CallsIn.inRound l (callsIn_wide.2 HCALL.out)).mono ?_⟩
            rintro e w3 ⟨v3, D3, l3, i3, rfl, har3, hl3, hi3, hb3, hk3, hnw3⟩
            have hkb3 : Bz w3 (A + 1) #[Value.slice ka pre.length kc] 52 := (hk3.1 _ _ _ _ (by decide) (by decide) XK.out).trans XK.out
            have r3 := hkb3.cell 0
            simp at r3
            have r5 : (w3.alloc (Obj.cells #[Value.int .i64 (i3 : Int)] 2)).cell? ⟨A + 1, 0, none⟩ = some (Value.slice ka pre.length kc) := (hkb3.later ((Below.refl _ _).alloc (Nat.le_refl _) _)).cell 0
            have hoi5 : OI (w3.alloc (Obj.cells #[Value.int .i64 (i3 : Int)] 2)) (A + 3) (.slice ka pre.length kc) (kdS ds xs pre) := (HK2.out.move (w' := w3) fun b hb => by
              obtain ⟨cur, hc⟩ := HK2.out.typed9 hb
              exact hk3.1 _ _ _ _ (by decide) (by decide) hc).later ((Below.refl _ _).alloc (Nat.le_refl _) _)
            simp only []
            refine hK _ _ ?_
            clear hK K
            refine wpAnyIn_ready (rs := [5]) (by kernel_rfl) (by simp) ?_
            refine AllReadyIn.cons rfl (fun K hK => ?_) AllReadyIn.nil
            go_simp
            refine hK _ _ ?_
            clear hK K
            refine wpAnyIn_ready (rs := [6]) (by kernel_rfl) (by simp) ?_
            refine AllReadyIn.cons rfl (fun K hK => ?_) AllReadyIn.nil
            refine stepIn_appI _ rfl _ _ rfl (A + 3) _ (kdS ds xs pre) (i3 : Int) rfl hoi5 w3.heap.size 1 rfl ?_ ?_ ?_ ?_
            · exact ((Bz.new w3 #[Value.int .i64 (i3 : Int)] 2).cell 0)
            · have := HNL.out
              omega
            · have := HU.out.sz
              have := hk3.2.2
              simp at this ⊢
              omega
            intro gg cap w4 ho4 hg4 hgg
            rw [hkdl] at ho4 ⊢
            have hkb4 : Bz w4 (A + 1) #[Value.slice ka pre.length kc] 52 := (hg4.block (A + 1) (by have := hkb3.lt; simp; omega) (fun e => by have := (HK2.out.lt e.symm).1; omega)).trans (hkb3.later ((Below.refl _ _).alloc (Nat.le_refl _) _))
            have r4 := hkb4.cell 0
            have g4 := hkb4.froz 0
            simp at r4
            refine hK _ _ ?_
            clear hK K
            refine wpAnyIn_ready (rs := [7]) (by kernel_rfl) (by simp) ?_
            refine AllReadyIn.cons rfl (fun K hK => ?_) AllReadyIn.nil
            go_simp
            refine hK _ _ ?_
            clear hK K
            refine wpAnyIn_done (by kernel_rfl) ?_ _
            gi_wp2
            rw [hsz]
            exact un_end hwA hw1A hgA hbA HU.out XK.out HK2.out HKL.out har3 hl3 hi3 hb3 hk3 hnw3 ho4 hg4 hgg
          refine AllReadyIn.cons rfl (fun K hK => ?_) AllReadyIn.nil
          · go_simp
            refine hK _ _ ?_
            clear hK K
            refine wpAnyIn_ready (rs := [2]) (by kernel_rfl) (by simp) ?_
            refine AllReadyIn.cons rfl (fun K hK => ?_) AllReadyIn.nil
            go_simp
            refine hK _ _ ?_
            clear hK K
            refine wpAnyIn_ready (rs := [4]) (by kernel_rfl) (by simp) ?_
            refine AllReadyIn.cons rfl (fun K hK => ?_) AllReadyIn.nil
            go_simp
            refine ⟨trivial, (CallsIn.inRound l (callsIn_wide.2 HCALL.out)).mono ?_⟩
            rintro e w3 ⟨v3, D3, l3, i3, rfl, har3, hl3, hi3, hb3, hk3, hnw3⟩
            have hkb3 : Bz w3 (A + 1) #[Value.slice ka pre.length kc] 52 := (hk3.1 _ _ _ _ (by decide) (by decide) XK.out).trans XK.out
            have r3 := hkb3.cell 0
            simp at r3
            have r5 : (w3.alloc (Obj.cells #[Value.int .i64 (i3 : Int)] 2)).cell? ⟨A + 1, 0, none⟩ = some (Value.slice ka pre.length kc) := (hkb3.later ((Below.refl _ _).alloc (Nat.le_refl _) _)).cell 0
            have hoi5 : OI (w3.alloc (Obj.cells #[Value.int .i64 (i3 : Int)] 2)) (A + 3) (.slice ka pre.length kc) (kdS ds xs pre) := (HK2.out.move (w' := w3) fun b hb => by
              obtain ⟨cur, hc⟩ := HK2.out.typed9 hb
              exact hk3.1 _ _ _ _ (by decide) (by decide) hc).later ((Below.refl _ _).alloc (Nat.le_refl _) _)
            simp only []
            refine hK _ _ ?_
            clear hK K
            refine wpAnyIn_ready (rs := [5]) (by kernel_rfl) (by simp) ?_
            refine AllReadyIn.cons rfl (fun K hK => ?_) AllReadyIn.nil
            go_simp
            refine hK _ _ ?_
            clear hK K
            refine wpAnyIn_ready (rs := [6]) (by kernel_rfl) (by simp) ?_
            refine AllReadyIn.cons rfl (fun K hK => ?_) AllReadyIn.nil
            refine stepIn_appI _ rfl _ _ rfl (A + 3) _ (kdS ds xs pre) (i3 : Int) rfl hoi5 w3.heap.size 1 rfl ?_ ?_ ?_ ?_
            · exact ((Bz.new w3 #[Value.int .i64 (i3 : Int)] 2).cell 0)
            · have := HNL.out
              omega
            · have := HU.out.sz
              have := hk3.2.2
              simp at this ⊢
              omega
            intro gg cap w4 ho4 hg4 hgg
            rw [hkdl] at ho4 ⊢
            have hkb4 : Bz w4 (A + 1) #[Value.slice ka pre.length kc] 52 := (hg4.block (A + 1) (by have := hkb3.lt; simp; omega) (fun e => by have := (HK2.out.lt e.symm).1; omega)).trans (hkb3.later ((Below.refl _ _).alloc (Nat.le_refl _) _))
            have r4 := hkb4.cell 0
            have g4 := hkb4.froz 0
            simp at r4
            refine hK _ _ ?_
            clear hK K
            refine wpAnyIn_ready (rs := [7]) (by kernel_rfl) (by simp) ?_
            refine AllReadyIn.cons rfl (fun K hK => ?_) AllReadyIn.nil
            go_simp
            refine hK _ _ ?_
            clear hK K
            refine wpAnyIn_done (by kernel_rfl) ?_ _
            gi_wp2
            rw [hsz]
            exact un_end hwA hw1A hgA hbA HU.out XK.out HK2.out HKL.out har3 hl3 hi3 hb3 hk3 hnw3 ho4 hg4 hgg
        refine AllReadyIn.cons rfl (fun K hK => ?_) ?_
        · go_simp
          refine hK _ _ ?_
          clear hK K
          refine wpAnyIn_ready (rs := [1, 3]) (by kernel_rfl) (by simp) ?_
          refine AllReadyIn.cons rfl (fun K hK => ?_) ?_
          · go_simp
            refine hK _ _ ?_
            clear hK K
            refine wpAnyIn_ready (rs := [3]) (by kernel_rfl) (by simp) ?_
            refine AllReadyIn.cons rfl (fun K hK => ?_) AllReadyIn.nil
            go_simp
            refine hK _ _ ?_
            clear hK K
            refine wpAnyIn_ready (rs := [4]) (by kernel_rfl) (by simp) ?_
            refine AllReadyIn.cons rfl (fun K hK => ?_) AllReadyIn.nil
            go_simp
            refine ⟨trivial, (CallsIn.inRound l (callsIn_wide.2 HCALL.out)).mono ?_⟩
            rintro e w3 ⟨v3, D3, l3, i3, rfl, har3, hl3, hi3, hb3, hk3, hnw3⟩
            have hkb3 : Bz w3 (A + 1) #[Value.slice ka pre.length kc] 52 := (hk3.1 _ _ _ _ (by decide) (by decide) XK.out).trans XK.out
            have r3 := hkb3.cell 0
            simp at r3
            have r5 : (w3.alloc (Obj.cells #[Value.int .i64 (i3 : Int)] 2)).cell? ⟨A + 1, 0, none⟩ = some (Value.slice ka pre.length kc) := (hkb3.later ((Below.refl _ _).alloc (Nat.le_refl _) _)).cell 0
            have hoi5 : OI (w3.alloc (Obj.cells #[Value.int .i64 (i3 : Int)] 2)) (A + 3) (.slice ka pre.length kc) (kdS ds xs pre) := (HK2.out.move (w' := w3) fun b hb => by
              obtain ⟨cur, hc⟩ := HK2.out.typed9 hb
              exact hk3.1 _ _ _ _ (by decide) (by decide) hc).later ((Below.refl _ _).alloc (Nat.le_refl _) _)
            simp only []
            refine hK _ _ ?_
            clear hK K
            refine wpAnyIn_ready (rs := [5]) (by kernel_rfl) (by simp) ?_
            refine AllReadyIn.cons rfl (fun K hK => ?_) AllReadyIn.nil
            go_simp
            refine hK _ _ ?_
            clear hK K
            refine wpAnyIn_ready (rs := [6]) (by kernel_rfl) (by simp) ?_
            refine AllReadyIn.cons rfl (fun K hK => ?_) AllReadyIn.nil
            refine stepIn_appI _ rfl _ _ rfl (A + 3) _ (kdS ds xs pre) (i3 : Int) rfl hoi5 w3.heap.size 1 rfl ?_ ?_ ?_ ?_
            · exact ((Bz.new w3 #[Value.int .i64 (i3 : Int)] 2).cell 0)
            · have := HNL.out
              omega
            · have := HU.out.sz
              have := hk3.2.2
              simp at this ⊢
              omega
            intro gg cap w4 ho4 hg4 hgg
            rw [hkdl] at ho4 ⊢
            have hkb4 : Bz w4 (A + 1) #[Value.slice ka pre.length kc] 52 := (hg4.block (A + 1) (by have := hkb3.lt; simp; omega) (fun e => by have := (HK2.out.lt e.symm).1; omega)).trans (hkb3.later ((Below.refl _ _).alloc (Nat.le_refl _) _))
            have r4 := hkb4.cell 0
            have g4 := hkb4.froz 0
            simp at r4
            refine hK _ _ ?_
            clear hK K
            refine wpAnyIn_ready (rs := [7]) (by kernel_rfl) (by simp) ?_
            refine AllReadyIn.cons rfl (fun K hK => ?_) AllReadyIn.nil
            go_simp
            refine hK _ _ ?_
            clear hK K
            refine wpAnyIn_done (by kernel_rfl) ?_ _
            gi_wp2
            rw [hsz]
            exact un_end hwA hw1A hgA hbA HU.out XK.out HK2.out HKL.out har3 hl3 hi3 hb3 hk3 hnw3 ho4 hg4 hgg
          refine AllReadyIn.cons rfl (fun K hK => ?_) AllReadyIn.nil
          · go_simp
            refine hK _ _ ?_
            clear hK K
            refine wpAnyIn_ready (rs := [1]) (by kernel_rfl) (by simp) ?_
            refine AllReadyIn.cons rfl (fun K hK => ?_) AllReadyIn.nil
            go_simp
            refine hK _ _ ?_
            clear hK K
            refine wpAnyIn_ready (rs := [4]) (by kernel_rfl) (by simp) ?_
            refine AllReadyIn.cons rfl (fun K hK => ?_) AllReadyIn.nil
            go_simp
            refine ⟨trivial, (CallsIn.inRound l (callsIn_wide.2 HCALL.out)).mono ?_⟩
            rintro e w3 ⟨v3, D3, l3, i3, rfl, har3, hl3, hi3, hb3, hk3, hnw3⟩
            have hkb3 : Bz w3 (A + 1) #[Value.slice ka pre.length kc] 52 := (hk3.1 _ _ _ _ (by decide) (by decide) XK.out).trans XK.out
            have r3 := hkb3.cell 0
            simp at r3
            have r5 : (w3.alloc (Obj.cells #[Value.int .i64 (i3 : Int)] 2)).cell? ⟨A + 1, 0, none⟩ = some (Value.slice ka pre.length kc) := (hkb3.later ((Below.refl _ _).alloc (Nat.le_refl _) _)).cell 0
            have hoi5 : OI (w3.alloc (Obj.cells #[Value.int .i64 (i3 : Int)] 2)) (A + 3) (.slice ka pre.length kc) (kdS ds xs pre) := (HK2.out.move (w' := w3) fun b hb => by
              obtain ⟨cur, hc⟩ := HK2.out.typed9 hb
              exact hk3.1 _ _ _ _ (by decide) (by decide) hc).later ((Below.refl _ _).alloc (Nat.le_refl _) _)
            simp only []
            refine hK _ _ ?_
            clear hK K
            refine wpAnyIn_ready (rs := [5]) (by kernel_rfl) (by simp) ?_
            refine AllReadyIn.cons rfl (fun K hK => ?_) AllReadyIn.nil
            go_simp
            refine hK _ _ ?_
            clear hK K
            refine wpAnyIn_ready (rs := [6]) (by kernel_rfl) (by simp) ?_
            refine AllReadyIn.cons rfl (fun K hK => ?_) AllReadyIn.nil
            refine stepIn_appI _ rfl _ _ rfl (A + 3) _ (kdS ds xs pre) (i3 : Int) rfl hoi5 w3.heap.size 1 rfl ?_ ?_ ?_ ?_
            · exact ((Bz.new w3 #[Value.int .i64 (i3 : Int)] 2).cell 0)
            · have := HNL.out
              omega
            · have := HU.out.sz
              have := hk3.2.2
              simp at this ⊢
              omega
            intro gg cap w4 ho4 hg4 hgg
            rw [hkdl] at ho4 ⊢
            have hkb4 : Bz w4 (A + 1) #[Value.slice ka pre.length kc] 52 := (hg4.block (A + 1) (by have := hkb3.lt; simp; omega) (fun e => by have := (HK2.out.lt e.symm).1; omega)).trans (hkb3.later ((Below.refl _ _).alloc (Nat.le_refl _) _))
            have r4 := hkb4.cell 0
            have g4 := hkb4.froz 0
            simp at r4
            refine hK _ _ ?_
            clear hK K
            refine wpAnyIn_ready (rs := [7]) (by kernel_rfl) (by simp) ?_
            refine AllReadyIn.cons rfl (fun K hK => ?_) AllReadyIn.nil
            go_simp
            refine hK _ _ ?_
            clear hK K
            refine wpAnyIn_done (by kernel_rfl) ?_ _
            gi_wp2
            rw [hsz]
            exact un_end hwA hw1A hgA hbA HU.out XK.out HK2.out HKL.out har3 hl3 hi3 hb3 hk3 hnw3 ho4 hg4 hgg
        refine AllReadyIn.cons rfl (fun K hK => ?_) AllReadyIn.nil
        · go_simp
          refine hK _ _ ?_
          clear hK K
          refine wpAnyIn_ready (rs := [1, 2]) (by kernel_rfl) (by simp) ?_
          refine AllReadyIn.cons rfl (fun K hK => ?_) ?_
          · go_simp
            refine hK _ _ ?_
            clear hK K
            refine wpAnyIn_ready (rs := [2]) (by kernel_rfl) (by simp) ?_
            refine AllReadyIn.cons rfl (fun K hK => ?_) AllReadyIn.nil
            go_simp
            refine hK _ _ ?_
            clear hK K
            refine wpAnyIn_ready (rs := [4]) (by kernel_rfl) (by simp) ?_
            refine AllReadyIn.cons rfl (fun K hK => ?_) AllReadyIn.nil
            go_simp
            refine ⟨trivial, (CallsIn.inRound l (callsIn_wide.2 HCALL.out)).mono ?_⟩
            rintro e w3 ⟨v3, D3, l3, i3, rfl, har3, hl3, hi3, hb3, hk3, hnw3⟩
            have hkb3 : Bz w3 (A + 1) #[Value.slice ka pre.length kc] 52 := (hk3.1 _ _ _ _ (by decide) (by decide) XK.out).trans XK.out
            have r3 := hkb3.cell 0
            simp at r3
            have r5 : (w3.alloc (Obj.cells #[Value.int .i64 (i3 : Int)] 2)).cell? ⟨A + 1, 0, none⟩ = some (Value.slice ka pre.length kc) := (hkb3.later ((Below.refl _ _).alloc (Nat.le_refl _) _)).cell 0
            have hoi5 : OI (w3.alloc (Obj.cells #[Value.int .i64 (i3 : Int)] 2)) (A + 3) (.slice ka pre.length kc) (kdS ds xs pre) := (HK2.out.move (w' := w3) fun b hb => by
              obtain ⟨cur, hc⟩ := HK2.out.typed9 hb
              exact hk3.1 _ _ _ _ (by decide) (by decide) hc).later ((Below.refl _ _).alloc (Nat.le_refl _) _)
            simp only []
            refine hK _ _ ?_
            clear hK K
            refine wpAnyIn_ready (rs := [5]) (by kernel_rfl) (by simp) ?_
            refine AllReadyIn.cons rfl (fun K hK => ?_) AllReadyIn.nil
            go_simp
            refine hK _ _ ?_
            clear hK K
            refine wpAnyIn_ready (rs := [6]) (by kernel_rfl) (by simp) ?_
            refine AllReadyIn.cons rfl (fun K hK => ?_) AllReadyIn.nil
            refine stepIn_appI _ rfl _ _ rfl (A + 3) _ (kdS ds xs pre) (i3 : Int) rfl hoi5 w3.heap.size 1 rfl ?_ ?_ ?_ ?_
            · exact ((Bz.new w3 #[Value.int .i64 (i3 : Int)] 2).cell 0)
            · have := HNL.out
              omega
            · have := HU.out.sz
              have := hk3.2.2
              simp at this ⊢
              omega
            intro gg cap w4 ho4 hg4 hgg
            rw [hkdl] at ho4 ⊢
            have hkb4 : Bz w4 (A + 1) #[Value.slice ka pre.length kc] 52 := (hg4.block (A + 1) (by have := hkb3.lt; simp; omega) (fun e => by have := (HK2.out.lt e.symm).1; omega)).trans (hkb3.later ((Below.refl _ _).alloc (Nat.le_refl _) _))
            have r4 := hkb4.cell 0
            have g4 := hkb4.froz 0
            simp at r4
            refine hK _ _ ?_
            clear hK K
            refine wpAnyIn_ready (rs := [7]) (by kernel_rfl) (by simp) ?_
            refine AllReadyIn.cons rfl (fun K hK => ?_) AllReadyIn.nil
            go_simp
            refine hK _ _ ?_
            clear hK K
            refine wpAnyIn_done (by kernel_rfl) ?_ _
            gi_wp2
            rw [hsz]
            exact un_end hwA hw1A hgA hbA HU.out XK.out HK2.out HKL.out har3 hl3 hi3 hb3 hk3 hnw3 ho4 hg4 hgg
          refine AllReadyIn.cons rfl (fun K hK => ?_) AllReadyIn.nil
          · go_simp
            refine hK _ _ ?_
            clear hK K
            refine wpAnyIn_ready (rs := [1]) (by kernel_rfl) (by simp) ?_
            refine AllReadyIn.cons rfl (fun K hK => ?_) AllReadyIn.nil
            go_simp
            refine hK _ _ ?_
            clear hK K
            refine wpAnyIn_ready (rs := [4]) (by kernel_rfl) (by simp) ?_
            refine AllReadyIn.cons rfl (fun K hK => ?_) AllReadyIn.nil
            go_simp
            refine ⟨trivial, (CallsIn.inRound l (callsIn_wide.2 HCALL.out)).mono ?_⟩
            rintro e w3 ⟨v3, D3, l3, i3, rfl, har3, hl3, hi3, hb3, hk3, hnw3⟩
            have hkb3 : Bz w3 (A + 1) #[Value.slice ka pre.length kc] 52 := (hk3.1 _ _ _ _ (by decide) (by decide) XK.out).trans XK.out
            have r3 := hkb3.cell 0
            simp at r3
            have r5 : (w3.alloc (Obj.cells #[Value.int .i64 (i3 : Int)] 2)).cell? ⟨A + 1, 0, none⟩ = some (Value.slice ka pre.length kc) := (hkb3.later ((Below.refl _ _).alloc (Nat.le_refl _) _)).cell 0
            have hoi5 : OI (w3.alloc (Obj.cells #[Value.int .i64 (i3 : Int)] 2)) (A + 3) (.slice ka pre.length kc) (kdS ds xs pre) := (HK2.out.move (w' := w3) fun b hb => by
              obtain ⟨cur, hc⟩ := HK2.out.typed9 hb
              exact hk3.1 _ _ _ _ (by decide) (by decide) hc).later ((Below.refl _ _).alloc (Nat.le_refl _) _)
            simp only []
            refine hK _ _ ?_
            clear hK K
            refine wpAnyIn_ready (rs := [5]) (by kernel_rfl) (by simp) ?_
            refine AllReadyIn.cons rfl (fun K hK => ?_) AllReadyIn.nil
            go_simp
            refine hK _ _ ?_
            clear hK K
            refine wpAnyIn_ready (rs := [6]) (by kernel_rfl) (by simp) ?_
            refine AllReadyIn.cons rfl (fun K hK => ?_) AllReadyIn.nil
            refine stepIn_appI _ rfl _ _ rfl (A + 3) _ (kdS ds xs pre) (i3 : Int) rfl hoi5 w3.heap.size 1 rfl ?_ ?_ ?_ ?_
            · exact ((Bz.new w3 #[Value.int .i64 (i3 : Int)] 2).cell 0)
            · have := HNL.out
              omega
            · have := HU.out.sz
              have := hk3.2.2
              simp at this ⊢
              omega
            intro gg cap w4 ho4 hg4 hgg
            rw [hkdl] at ho4 ⊢
            have hkb4 : Bz w4 (A + 1) #[Value.slice ka pre.length kc] 52 := (hg4.block (A + 1) (by have := hkb3.lt; simp; omega) (fun e => by have := (HK2.out.lt e.symm).1; omega)).trans (hkb3.later ((Below.refl _ _).alloc (Nat.le_refl _) _))
            have r4 := hkb4.cell 0
            have g4 := hkb4.froz 0
            simp at r4
            refine hK _ _ ?_
            clear hK K
            refine wpAnyIn_ready (rs := [7]) (by kernel_rfl) (by simp) ?_
            refine AllReadyIn.cons rfl (fun K hK => ?_) AllReadyIn.nil
            go_simp
            refine hK _ _ ?_
            clear hK K
            refine wpAnyIn_done (by kernel_rfl) ?_ _
            gi_wp2
            rw [hsz]
            exact un_end hwA hw1A hgA hbA HU.out XK.out HK2.out HKL.out har3 hl3 hi3 hb3 hk3 hnw3 ho4 hg4 hgg
      refine AllReadyIn.cons rfl (fun K hK => ?_) ?_
      · go_simp
        refine hK _ _ ?_
        clear hK K
        refine wpAnyIn_ready (rs := [0, 2, 3]) (by kernel_rfl) (by simp) ?_
        refine AllReadyIn.cons rfl (fun K hK => ?_) ?_
        · go_simp
          refine hK _ _ ?_
          clear hK K
          refine wpAnyIn_ready (rs := [2, 3]) (by kernel_rfl) (by simp) ?_
          refine AllReadyIn.cons rfl (fun K hK => ?_) ?_
          · go_simp
            refine hK _ _ ?_
            clear hK K
            refine wpAnyIn_ready (rs := [3]) (by kernel_rfl) (by simp) ?_
            refine AllReadyIn.cons rfl (fun K hK => ?_) AllReadyIn.nil
            go_simp
            refine hK _ _ ?_
            clear hK K
            refine wpAnyIn_ready (rs := [4]) (by kernel_rfl) (by simp) ?_
            refine AllReadyIn.cons rfl (fun K hK => ?_) AllReadyIn.nil
            go_simp
            refine ⟨trivial, (CallsIn.inRound l (callsIn_wide.2 HCALL.out)).mono ?_⟩
            rintro e w3 ⟨v3, D3, l3, i3, rfl, har3, hl3, hi3, hb3, hk3, hnw3⟩
            have hkb3 : Bz w3 (A + 1) #[Value.slice ka pre.length kc] 52 := (hk3.1 _ _ _ _ (by decide) (by decide) XK.out).trans XK.out
            have r3 := hkb3.cell 0
            simp at r3
            have r5 : (w3.alloc (Obj.cells #[Value.int .i64 (i3 : Int)] 2)).cell? ⟨A + 1, 0, none⟩ = some (Value.slice ka pre.length kc) := (hkb3.later ((Below.refl _ _).alloc (Nat.le_refl _) _)).cell 0
            have hoi5 : OI (w3.alloc (Obj.cells #[Value.int .i64 (i3 : Int)] 2)) (A + 3) (.slice ka pre.length kc) (kdS ds xs pre) := (HK2.out.move (w' := w3) fun b hb => by
              obtain ⟨cur, hc⟩ := HK2.out.typed9 hb
              exact hk3.1 _ _ _ _ (by decide) (by decide) hc).later ((Below.refl _ _).alloc (Nat.le_refl _) _)
            simp only []
            refine hK _ _ ?_
            clear hK K
            refine wpAnyIn_ready (rs := [5]) (by kernel_rfl) (by simp) ?_
            refine AllReadyIn.cons rfl (fun K hK => ?_) AllReadyIn.nil
            go_simp
            refine hK _ _ ?_
            clear hK K
            refine wpAnyIn_ready (rs := [6]) (by kernel_rfl) (by simp) ?_
            refine AllReadyIn.cons rfl (fun K hK => ?_) AllReadyIn.nil
            refine stepIn_appI _ rfl _ _ rfl (A + 3) _ (kdS ds xs pre) (i3 : Int) rfl hoi5 w3.heap.size 1 rfl ?_ ?_ ?_ ?_
            · exact ((Bz.new w3 #[Value.int .i64 (i3 : Int)] 2).cell 0)
            · have := HNL.out
              omega
            · have := HU.out.sz
              have := hk3.2.2
              simp at this ⊢
              omega
            intro gg cap w4 ho4 hg4 hgg
            rw [hkdl] at ho4 ⊢
            have hkb4 : Bz w4 (A + 1) #[Value.slice ka pre.length kc] 52 := (hg4.block (A + 1) (by have := hkb3.lt; simp; omega) (fun e => by have := (HK2.out.lt e.symm).1; omega)).trans (hkb3.later ((Below.refl _ _).alloc (Nat.le_refl _) _))
            have r4 := hkb4.cell 0
            have g4 := hkb4.froz 0
            simp at r4
            refine hK _ _ ?_
            clear hK K
            refine wpAnyIn_ready (rs := [7]) (by kernel_rfl) (by simp) ?_
            refine AllReadyIn.cons rfl (fun K hK => ?_) AllReadyIn.nil
            go_simp
            refine hK _ _ ?_
            clear hK K
            refine wpAnyIn_done (by kernel_rfl) ?_ _
            gi_wp2
            rw [hsz]
            exact un_end hwA hw1A hgA hbA HU.out XK.out HK2.out HKL.out har3 hl3 hi3 hb3 hk3 hnw3 ho4 hg4 hgg
          refine AllReadyIn.cons rfl (fun K hK => ?_) AllReadyIn.nil
          · go_simp
            refine hK _ _ ?_
            clear hK K
            refine wpAnyIn_ready (rs := [2]) (by kernel_rfl) (by simp) ?_
            refine AllReadyIn.cons rfl (fun K hK => ?_) AllReadyIn.nil
            go_simp
            refine hK _ _ ?_
            clear hK K
            refine wpAnyIn_ready (rs := [4]) (by kernel_rfl) (by simp) ?_
            refine AllReadyIn.cons rfl (fun K hK => ?_) AllReadyIn.nil
            go_simp
            refine ⟨trivial, (CallsIn.inRound l (callsIn_wide.2 HCALL.out)).mono ?_⟩
            rintro e w3 ⟨v3, D3, l3, i3, rfl, har3, hl3, hi3, hb3, hk3, hnw3⟩
            have hkb3 : Bz w3 (A + 1) #[Value.slice ka pre.length kc] 52 := (hk3.1 _ _ _ _ (by decide) (by decide) XK.out).trans XK.out
            have r3 := hkb3.cell 0
            simp at r3
            have r5 : (w3.alloc (Obj.cells #[Value.int .i64 (i3 : Int)] 2)).cell? ⟨A + 1, 0, none⟩ = some (Value.slice ka pre.length kc) := (hkb3.later ((Below.refl _ _).alloc (Nat.le_refl _) _)).cell 0
            have hoi5 : OI (w3.alloc (Obj.cells #[Value.int .i64 (i3 : Int)] 2)) (A + 3) (.slice ka pre.length kc) (kdS ds xs pre) := (HK2.out.move (w' := w3) fun b hb => by
              obtain ⟨cur, hc⟩ := HK2.out.typed9 hb
              exact hk3.1 _ _ _ _ (by decide) (by decide) hc).later ((Below.refl _ _).alloc (Nat.le_refl _) _)
            simp only []
            refine hK _ _ ?_
            clear hK K
            refine wpAnyIn_ready (rs := [5]) (by kernel_rfl) (by simp) ?_
            refine AllReadyIn.cons rfl (fun K hK => ?_) AllReadyIn.nil
            go_simp
            refine hK _ _ ?_
            clear hK K
            refine wpAnyIn_ready (rs := [6]) (by kernel_rfl) (by simp) ?_
            refine AllReadyIn.cons rfl (fun K hK => ?_) AllReadyIn.nil
            refine stepIn_appI _ rfl _ _ rfl (A + 3) _ (kdS ds xs pre) (i3 : Int) rfl hoi5 w3.heap.size 1 rfl ?_ ?_ ?_ ?_
            · exact ((Bz.new w3 #[Value.int .i64 (i3 : Int)] 2).cell 0)
            · have := HNL.out
              omega
            · have := HU.out.sz
              have := hk3.2.2
              simp at this ⊢
              omega
            intro gg cap w4 ho4 hg4 hgg
            rw [hkdl] at ho4 ⊢
            have hkb4 : Bz w4 (A + 1) #[Value.slice ka pre.length kc] 52 := (hg4.block (A + 1) (by have := hkb3.lt; simp; omega) (fun e => by have := (HK2.out.lt e.symm).1; omega)).trans (hkb3.later ((Below.refl _ _).alloc (Nat.le_refl _) _))
            have r4 := hkb4.cell 0
            have g4 := hkb4.froz 0
            simp at r4
            refine hK _ _ ?_
            clear hK K
            refine wpAnyIn_ready (rs := [7]) (by kernel_rfl) (by simp) ?_
            refine AllReadyIn.cons rfl (fun K hK => ?_) AllReadyIn.nil
            go_simp
            refine hK _ _ ?_
            clear hK K
            refine wpAnyIn_done (by kernel_rfl) ?_ _
            gi_wp2
            rw [hsz]
            exact un_end hwA hw1A hgA hbA HU.out XK.out HK2.out HKL.out har3 hl3 hi3 hb3 hk3 hnw3 ho4 hg4 hgg
        refine AllReadyIn.cons rfl (fun K hK => ?_) ?_
        · go_simp
          refine hK _ _ ?_
          clear hK K
          refine wpAnyIn_ready (rs := [0, 3]) (by kernel_rfl) (by simp) ?_
          refine AllReadyIn.cons rfl (fun K hK => ?_) ?_
          · go_simp
            refine hK _ _ ?_
            clear hK K
            refine wpAnyIn_ready (rs := [3]) (by kernel_rfl) (by simp) ?_
            refine AllReadyIn.cons rfl (fun K hK => ?_) AllReadyIn.nil
            go_simp
            refine hK _ _ ?_
            clear hK K
            refine wpAnyIn_ready (rs := [4]) (by kernel_rfl) (by simp) ?_
            refine AllReadyIn.cons rfl (fun K hK => ?_) AllReadyIn.nil
            go_simp
            refine ⟨trivial, (CallsIn.inRound l (callsIn_wide.2 HCALL.out)).mono ?_⟩
            rintro e w3 ⟨v3, D3, l3, i3, rfl, har3, hl3, hi3, hb3, hk3, hnw3⟩
            have hkb3 : Bz w3 (A + 1) #[Value.slice ka pre.length kc] 52 := (hk3.1 _ _ _ _ (by decide) (by decide) XK.out).trans XK.out
            have r3 := hkb3.cell 0
            simp at r3
            have r5 : (w3.alloc (Obj.cells #[Value.int .i64 (i3 : Int)] 2)).cell? ⟨A + 1, 0, none⟩ = some (Value.slice ka pre.length kc) := (hkb3.later ((Below.refl _ _).alloc (Nat.le_refl _) _)).cell 0
            have hoi5 : OI (w3.alloc (Obj.cells #[Value.int .i64 (i3 : Int)] 2)) (A + 3) (.slice ka pre.length kc) (kdS ds xs pre) := (HK2.out.move (w' := w3) fun b hb => by
              obtain ⟨cur, hc⟩ := HK2.out.typed9 hb
              exact hk3.1 _ _ _ _ (by decide) (by decide) hc).later ((Below.refl _ _).alloc (Nat.le_refl _) _)
            simp only []
            refine hK _ _ ?_
            clear hK K
            refine wpAnyIn_ready (rs := [5]) (by kernel_rfl) (by simp) ?_
            refine AllReadyIn.cons rfl (fun K hK => ?_) AllReadyIn.nil
            go_simp
            refine hK _ _ ?_
            clear hK K
            refine wpAnyIn_ready (rs := [6]) (by kernel_rfl) (by simp) ?_
            refine AllReadyIn.cons rfl (fun K hK => ?_) AllReadyIn.nil
            refine stepIn_appI _ rfl _ _ rfl (A + 3) _ (kdS ds xs pre) (i3 : Int) rfl hoi5 w3.heap.size 1 rfl ?_ ?_ ?_ ?_
            · exact ((Bz.new w3 #[Value.int .i64 (i3 : Int)] 2).cell 0)
            · have := HNL.out
              omega
            · have := HU.out.sz
              have := hk3.2.2
              simp at this ⊢
              omega
            intro gg cap w4 ho4 hg4 hgg
            rw [hkdl] at ho4 ⊢
            have hkb4 : Bz w4 (A + 1) #[Value.slice ka pre.length kc] 52 := (hg4.block (A + 1) (by have := hkb3.lt; simp; omega) (fun e => by have := (HK2.out.lt e.symm).1; omega)).trans (hkb3.later ((Below.refl _ _).alloc (Nat.le_refl _) _))
            have r4 := hkb4.cell 0
            have g4 := hkb4.froz 0
            simp at r4
            refine hK _ _ ?_
            clear hK K
            refine wpAnyIn_ready (rs := [7]) (by kernel_rfl) (by simp) ?_
            refine AllReadyIn.cons rfl (fun K hK => ?_) AllReadyIn.nil
            go_simp
            refine hK _ _ ?_
            clear hK K
            refine wpAnyIn_done (by kernel_rfl) ?_ _
            gi_wp2
            rw [hsz]
            exact un_end hwA hw1A hgA hbA HU.out XK.out HK2.out HKL.out har3 hl3 hi3 hb3 hk3 hnw3 ho4 hg4 hgg
          refine AllReadyIn.cons rfl (fun K hK => ?_) AllReadyIn.nil
          · go_simp
            refine hK _ _ ?_
            clear hK K
            refine wpAnyIn_ready (rs := [0, 4]) (by kernel_rfl) (by simp) ?_
            refine AllReadyIn.cons rfl (fun K hK => ?_) ?_
            · go_simp
              refine hK _ _ ?_
              clear hK K
              refine wpAnyIn_ready (rs := [4]) (by kernel_rfl) (by simp) ?_
              refine AllReadyIn.cons rfl (fun K hK => ?_) AllReadyIn.nil
              go_simp
              refine ⟨trivial, (CallsIn.inRound l (callsIn_wide.2 HCALL.out)).mono ?_⟩
              rintro e w3 ⟨v3, D3, l3, i3, rfl, har3, hl3, hi3, hb3, hk3, hnw3⟩
              have hkb3 : Bz w3 (A + 1) #[Value.slice ka pre.length kc] 52 := (hk3.1 _ _ _ _ (by decide) (by decide) XK.out).trans XK.out
              have r3 := hkb3.cell 0
              simp at r3
              have r5 : (w3.alloc (Obj.cells #[Value.int .i64 (i3 : Int)] 2)).cell? ⟨A + 1, 0, none⟩ = some (Value.slice ka pre.length kc) := (hkb3.later ((Below.refl _ _).alloc (Nat.le_refl _) _)).cell 0
              have hoi5 : OI (w3.alloc (Obj.cells #[Value.int .i64 (i3 : Int)] 2)) (A + 3) (.slice ka pre.length kc) (kdS ds xs pre) := (HK2.out.move (w' := w3) fun b hb => by
                obtain ⟨cur, hc⟩ := HK2.out.typed9 hb
                exact hk3.1 _ _ _ _ (by decide) (by decide) hc).later ((Below.refl _ _).alloc (Nat.le_refl _) _)
              simp only []
              refine hK _ _ ?_
              clear hK K
              refine wpAnyIn_ready (rs := [5]) (by kernel_rfl) (by simp) ?_
              refine AllReadyIn.cons rfl (fun K hK => ?_) AllReadyIn.nil
              go_simp
              refine hK _ _ ?_
              clear hK K
              refine wpAnyIn_ready (rs := [6]) (by kernel_rfl) (by simp) ?_
              refine AllReadyIn.cons rfl (fun K hK => ?_) AllReadyIn.nil
              refine stepIn_appI _ rfl _ _ rfl (A + 3) _ (kdS ds xs pre) (i3 : Int) rfl hoi5 w3.heap.size 1 rfl ?_ ?_ ?_ ?_
              · exact ((Bz.new w3 #[Value.int .i64 (i3 : Int)] 2).cell 0)
              · have := HNL.out
                omega
              · have := HU.out.sz
                have := hk3.2.2
                simp at this ⊢
                omega
              intro gg cap w4 ho4 hg4 hgg
              rw [hkdl] at ho4 ⊢
              have hkb4 : Bz w4 (A + 1) #[Value.slice ka pre.length kc] 52 := (hg4.block (A + 1) (by have := hkb3.lt; simp; omega) (fun e => by have := (HK2.out.lt e.symm).1; omega)).trans (hkb3.later ((Below.refl _ _).alloc (Nat.le_refl _) _))
              have r4 := hkb4.cell 0
              have g4 := hkb4.froz 0
              simp at r4
              refine hK _ _ ?_
              clear hK K
              refine wpAnyIn_ready (rs := [7]) (by kernel_rfl) (by simp) ?_
              refine AllReadyIn.cons rfl (fun K hK => ?_) AllReadyIn.nil
              go_simp
              refine hK _ _ ?_
              clear hK K
              refine wpAnyIn_done (by kernel_rfl) ?_ _
              gi_wp2
              rw [hsz]
              exact un_end hwA hw1A hgA hbA HU.out XK.out HK2.out HKL.out har3 hl3 hi3 hb3 hk3 hnw3 ho4 hg4 hgg
            refine AllReadyIn.cons rfl (fun K hK => ?_) AllReadyIn.nil
            · go_simp
              refine ⟨trivial, (CallsIn.inRound l (callsIn_wide.2 HCALL.out)).mono ?_⟩
              rintro e w3 ⟨v3, D3, l3, i3, rfl, har3, hl3, hi3, hb3, hk3, hnw3⟩
              have hkb3 : Bz w3 (A + 1) #[Value.slice ka pre.length kc] 52 := (hk3.1 _ _ _ _ (by decide) (by decide) XK.out).trans XK.out
              have r3 := hkb3.cell 0
              simp at r3
              have r5 : (w3.alloc (Obj.cells #[Value.int .i64 (i3 : Int)] 2)).cell? ⟨A + 1, 0, none⟩ = some (Value.slice ka pre.length kc) := (hkb3.later ((Below.refl _ _).alloc (Nat.le_refl _) _)).cell 0
              have hoi5 : OI (w3.alloc (Obj.cells #[Value.int .i64 (i3 : Int)] 2)) (A + 3) (.slice ka pre.length kc) (kdS ds xs pre) := (HK2.out.move (w' := w3) fun b hb => by
                obtain ⟨cur, hc⟩ := HK2.out.typed9 hb
                exact hk3.1 _ _ _ _ (by decide) (by decide) hc).later ((Below.refl _ _).alloc (Nat.le_refl _) _)
              simp only []
              refine hK _ _ ?_
              clear hK K
              refine wpAnyIn_ready (rs := [0, 5]) (by kernel_rfl) (by simp) ?_
              refine AllReadyIn.cons rfl (fun K hK => ?_) ?_
              · go_simp
                refine hK _ _ ?_
                clear hK K
                refine wpAnyIn_ready (rs := [5]) (by kernel_rfl) (by simp) ?_
                refine AllReadyIn.cons rfl (fun K hK => ?_) AllReadyIn.nil
                go_simp
                refine hK _ _ ?_
                clear hK K
                refine wpAnyIn_ready (rs := [6]) (by kernel_rfl) (by simp) ?_
                refine AllReadyIn.cons rfl (fun K hK => ?_) AllReadyIn.nil
                refine stepIn_appI _ rfl _ _ rfl (A + 3) _ (kdS ds xs pre) (i3 : Int) rfl hoi5 w3.heap.size 1 rfl ?_ ?_ ?_ ?_
                · exact ((Bz.new w3 #[Value.int .i64 (i3 : Int)] 2).cell 0)
                · have := HNL.out
                  omega
                · have := HU.out.sz
                  have := hk3.2.2
                  simp at this ⊢
                  omega
                intro gg cap w4 ho4 hg4 hgg
                rw [hkdl] at ho4 ⊢
                have hkb4 : Bz w4 (A + 1) #[Value.slice ka pre.length kc] 52 := (hg4.block (A + 1) (by have := hkb3.lt; simp; omega) (fun e => by have := (HK2.out.lt e.symm).1; omega)).trans (hkb3.later ((Below.refl _ _).alloc (Nat.le_refl _) _))
                have r4 := hkb4.cell 0
                have g4 := hkb4.froz 0
                simp at r4
                refine hK _ _ ?_
                clear hK K
                refine wpAnyIn_ready (rs := [7]) (by kernel_rfl) (by simp) ?_
                refine AllReadyIn.cons rfl (fun K hK => ?_) AllReadyIn.nil
                go_simp
                refine hK _ _ ?_
                clear hK K
                refine wpAnyIn_done (by kernel_rfl) ?_ _
                gi_wp2
                rw [hsz]
                exact un_end hwA hw1A hgA hbA HU.out XK.out HK2.out HKL.out har3 hl3 hi3 hb3 hk3 hnw3 ho4 hg4 hgg
              refine AllReadyIn.cons rfl (fun K hK => ?_) AllReadyIn.nil
              · go_simp
                refine hK _ _ ?_
                clear hK K
                refine wpAnyIn_ready (rs := [0]) (by kernel_rfl) (by simp) ?_
                refine AllReadyIn.cons rfl (fun K hK => ?_) AllReadyIn.nil
                go_simp
                refine hK _ _ ?_
                clear hK K
                refine wpAnyIn_ready (rs := [6]) (by kernel_rfl) (by simp) ?_
                refine AllReadyIn.cons rfl (fun K hK => ?_) AllReadyIn.nil
                refine stepIn_appI _ rfl _ _ rfl (A + 3) _ (kdS ds xs pre) (i3 : Int) rfl hoi5 w3.heap.size 1 rfl ?_ ?_ ?_ ?_
                · exact ((Bz.new w3 #[Value.int .i64 (i3 : Int)] 2).cell 0)
                · have := HNL.out
                  omega
                · have := HU.out.sz
                  have := hk3.2.2
                  simp at this ⊢
                  omega
                intro gg cap w4 ho4 hg4 hgg
                rw [hkdl] at ho4 ⊢
                have hkb4 : Bz w4 (A + 1) #[Value.slice ka pre.length kc] 52 := (hg4.block (A + 1) (by have := hkb3.lt; simp; omega) (fun e => by have := (HK2.out.lt e.symm).1; omega)).trans (hkb3.later ((Below.refl _ _).alloc (Nat.le_refl _) _))
                have r4 := hkb4.cell 0
                have g4 := hkb4.froz 0
                simp at r4
                refine hK _ _ ?_
                clear hK K
                refine wpAnyIn_ready (rs := [7]) (by kernel_rfl) (by simp) ?_
                refine AllReadyIn.cons rfl (fun K hK => ?_) AllReadyIn.nil
                go_simp
                refine hK _ _ ?_
                clear hK K
                refine wpAnyIn_done (by kernel_rfl) ?_ _
                gi_wp2
                rw [hsz]
                exact un_end hwA hw1A hgA hbA HU.out XK.out HK2.out HKL.out har3 hl3 hi3 hb3 hk3 hnw3 ho4 hg4 hgg
        refine AllReadyIn.cons rfl (fun K hK => ?_) AllReadyIn.nil
        · go_simp
          refine hK _ _ ?_
          clear hK K
          refine wpAnyIn_ready (rs := [0, 2]) (by kernel_rfl) (by simp) ?_
          refine AllReadyIn.cons rfl (fun K hK => ?_) ?_
          · go_simp
            refine hK _ _ ?_
            clear hK K
            refine wpAnyIn_ready (rs := [2]) (by kernel_rfl) (by simp) ?_
            refine AllReadyIn.cons rfl (fun K hK => ?_) AllReadyIn.nil
            go_simp
            refine hK _ _ ?_
            clear hK K
            refine wpAnyIn_ready (rs := [4]) (by kernel_rfl) (by simp) ?_
            refine AllReadyIn.cons rfl (fun K hK => ?_) AllReadyIn.nil
            go_simp
            refine ⟨trivial, (CallsIn.inRound l (callsIn_wide.2 HCALL.out)).mono ?_⟩
            rintro e w3 ⟨v3, D3, l3, i3, rfl, har3, hl3, hi3, hb3, hk3, hnw3⟩
            have hkb3 : Bz w3 (A + 1) #[Value.slice ka pre.length kc] 52 := (hk3.1 _ _ _ _ (by decide) (by decide) XK.out).trans XK.out
            have r3 := hkb3.cell 0
            simp at r3
            have r5 : (w3.alloc (Obj.cells #[Value.int .i64 (i3 : Int)] 2)).cell? ⟨A + 1, 0, none⟩ = some (Value.slice ka pre.length kc) := (hkb3.later ((Below.refl _ _).alloc (Nat.le_refl _) _)).cell 0
            have hoi5 : OI (w3.alloc (Obj.cells #[Value.int .i64 (i3 : Int)] 2)) (A + 3) (.slice ka pre.length kc) (kdS ds xs pre) := (HK2.out.move (w' := w3) fun b hb => by
              obtain ⟨cur, hc⟩ := HK2.out.typed9 hb
              exact hk3.1 _ _ _ _ (by decide) (by decide) hc).later ((Below.refl _ _).alloc (Nat.le_refl _) _)
            simp only []
            refine hK _ _ ?_
            clear hK K
            refine wpAnyIn_ready (rs := [5]) (by kernel_rfl) (by simp) ?_
            refine AllReadyIn.cons rfl (fun K hK => ?_) AllReadyIn.nil
            go_simp
            refine hK _ _ ?_
            clear hK K
            refine wpAnyIn_ready (rs := [6]) (by kernel_rfl) (by simp) ?_
            refine AllReadyIn.cons rfl (fun K hK => ?_) AllReadyIn.nil
            refine stepIn_appI _ rfl _ _ rfl (A + 3) _ (kdS ds xs pre) (i3 : Int) rfl hoi5 w3.heap.size 1 rfl ?_ ?_ ?_ ?_
            · exact ((Bz.new w3 #[Value.int .i64 (i3 : Int)] 2).cell 0)
            · have := HNL.out
              omega
            · have := HU.out.sz
              have := hk3.2.2
              simp at this ⊢
              omega
            intro gg cap w4 ho4 hg4 hgg
            rw [hkdl] at ho4 ⊢
            have hkb4 : Bz w4 (A + 1) #[Value.slice ka pre.length kc] 52 := (hg4.block (A + 1) (by have := hkb3.lt; simp; omega) (fun e => by have := (HK2.out.lt e.symm).1; omega)).trans (hkb3.later ((Below.refl _ _).alloc (Nat.le_refl _) _))
            have r4 := hkb4.cell 0
            have g4 := hkb4.froz 0
            simp at r4
            refine hK _ _ ?_
            clear hK K
            refine wpAnyIn_ready (rs := [7]) (by kernel_rfl) (by simp) ?_
            refine AllReadyIn.cons rfl (fun K hK => ?_) AllReadyIn.nil
            go_simp
            refine hK _ _ ?_
            clear hK K
            refine wpAnyIn_done (by kernel_rfl) ?_ _
            gi_wp2
            rw [hsz]
            exact un_end hwA hw1A hgA hbA HU.out XK.out HK2.out HKL.out har3 hl3 hi3 hb3 hk3 hnw3 ho4 hg4 hgg
          refine AllReadyIn.cons rfl (fun K hK => ?_) AllReadyIn.nil
          · go_simp
            refine hK _ _ ?_
            clear hK K
            refine wpAnyIn_ready (rs := [0, 4]) (by kernel_rfl) (by simp) ?_
            refine AllReadyIn.cons rfl (fun K hK => ?_) ?_
            · go_simp
              refine hK _ _ ?_
              clear hK K
              refine wpAnyIn_ready (rs := [4]) (by kernel_rfl) (by simp) ?_
              refine AllReadyIn.cons rfl (fun K hK => ?_) AllReadyIn.nil
              go_simp
              refine ⟨trivial, (CallsIn.inRound l (callsIn_wide.2 HCALL.out)).mono ?_⟩
              rintro e w3 ⟨v3, D3, l3, i3, rfl, har3, hl3, hi3, hb3, hk3, hnw3⟩
              have hkb3 : Bz w3 (A + 1) #[Value.slice ka pre.length kc] 52 := (hk3.1 _ _ _ _ (by decide) (by decide) XK.out).trans XK.out
              have r3 := hkb3.cell 0
              simp at r3
              have r5 : (w3.alloc (Obj.cells #[Value.int .i64 (i3 : Int)] 2)).cell? ⟨A + 1, 0, none⟩ = some (Value.slice ka pre.length kc) := (hkb3.later ((Below.refl _ _).alloc (Nat.le_refl _) _)).cell 0
              have hoi5 : OI (w3.alloc (Obj.cells #[Value.int .i64 (i3 : Int)] 2)) (A + 3) (.slice ka pre.length kc) (kdS ds xs pre) := (HK2.out.move (w' := w3) fun b hb => by
                obtain ⟨cur, hc⟩ := HK2.out.typed9 hb
                exact hk3.1 _ _ _ _ (by decide) (by decide) hc).later ((Below.refl _ _).alloc (Nat.le_refl _) _)
              simp only []
              refine hK _ _ ?_
              clear hK K
              refine wpAnyIn_ready (rs := [5]) (by kernel_rfl) (by simp) ?_
              refine AllReadyIn.cons rfl (fun K hK => ?_) AllReadyIn.nil
              go_simp
              refine hK _ _ ?_
              clear hK K
              refine wpAnyIn_ready (rs := [6]) (by kernel_rfl) (by simp) ?_
              refine AllReadyIn.cons rfl (fun K hK => ?_) AllReadyIn.nil
              refine stepIn_appI _ rfl _ _ rfl (A + 3) _ (kdS ds xs pre) (i3 : Int) rfl hoi5 w3.heap.size 1 rfl ?_ ?_ ?_ ?_
              · exact ((Bz.new w3 #[Value.int .i64 (i3 : Int)] 2).cell 0)
              · have := HNL.out
                omega
              · have := HU.out.sz
                have := hk3.2.2
                simp at this ⊢
                omega
              intro gg cap w4 ho4 hg4 hgg
              rw [hkdl] at ho4 ⊢
              have hkb4 : Bz w4 (A + 1) #[Value.slice ka pre.length kc] 52 := (hg4.block (A + 1) (by have := hkb3.lt; simp; omega) (fun e => by have := (HK2.out.lt e.symm).1; omega)).trans (hkb3.later ((Below.refl _ _).alloc (Nat.le_refl _) _))
              have r4 := hkb4.cell 0
              have g4 := hkb4.froz 0
              simp at r4
              refine hK _ _ ?_
              clear hK K
              refine wpAnyIn_ready (rs := [7]) (by kernel_rfl) (by simp) ?_
              refine AllReadyIn.cons rfl (fun K hK => ?_) AllReadyIn.nil
              go_simp
              refine hK _ _ ?_
              clear hK K
              refine wpAnyIn_done (by kernel_rfl) ?_ _
              gi_wp2
              rw [hsz]
              exact un_end hwA hw1A hgA hbA HU.out XK.out HK2.out HKL.out har3 hl3 hi3 hb3 hk3 hnw3 ho4 hg4 hgg
            refine AllReadyIn.cons rfl (fun K hK => ?_) AllReadyIn.nil
            · go_simp
              refine ⟨trivial, (CallsIn.inRound l (callsIn_wide.2 HCALL.out)).mono ?_⟩
              rintro e w3 ⟨v3, D3, l3, i3, rfl, har3, hl3, hi3, hb3, hk3, hnw3⟩
              have hkb3 : Bz w3 (A + 1) #[Value.slice ka pre.length kc] 52 := (hk3.1 _ _ _ _ (by decide) (by decide) XK.out).trans XK.out
              have r3 := hkb3.cell 0
              simp at r3
              have r5 : (w3.alloc (Obj.cells #[Value.int .i64 (i3 : Int)] 2)).cell? ⟨A + 1, 0, none⟩ = some (Value.slice ka pre.length kc) := (hkb3.later ((Below.refl _ _).alloc (Nat.le_refl _) _)).cell 0
              have hoi5 : OI (w3.alloc (Obj.cells #[Value.int .i64 (i3 : Int)] 2)) (A + 3) (.slice ka pre.length kc) (kdS ds xs pre) := (HK2.out.move (w' := w3) fun b hb => by
                obtain ⟨cur, hc⟩ := HK2.out.typed9 hb
                exact hk3.1 _ _ _ _ (by decide) (by decide) hc).later ((Below.refl _ _).alloc (Nat.le_refl _) _)
              simp only []
              refine hK _ _ ?_
              clear hK K
              refine wpAnyIn_ready (rs := [0, 5]) (by kernel_rfl) (by simp) ?_
              refine AllReadyIn.cons rfl (fun K hK => ?_) ?_
              · go_simp
                refine hK _ _ ?_
                clear hK K
                refine wpAnyIn_ready (rs := [5]) (by kernel_rfl) (by simp) ?_
                refine AllReadyIn.cons rfl (fun K hK => ?_) AllReadyIn.nil
                go_simp
                refine hK _ _ ?_
                clear hK K
                refine wpAnyIn_ready (rs := [6]) (by kernel_rfl) (by simp) ?_
                refine AllReadyIn.cons rfl (fun K hK => ?_) AllReadyIn.nil
                refine stepIn_appI _ rfl _ _ rfl (A + 3) _ (kdS ds xs pre) (i3 : Int) rfl hoi5 w3.heap.size 1 rfl ?_ ?_ ?_ ?_
                · exact ((Bz.new w3 #[Value.int .i64 (i3 : Int)] 2).cell 0)
                · have := HNL.out
                  omega
                · have := HU.out.sz
                  have := hk3.2.2
                  simp at this ⊢
                  omega
                intro gg cap w4 ho4 hg4 hgg
                rw [hkdl] at ho4 ⊢
                have hkb4 : Bz w4 (A + 1) #[Value.slice ka pre.length kc] 52 := (hg4.block (A + 1) (by have := hkb3.lt; simp; omega) (fun e => by have := (HK2.out.lt e.symm).1; omega)).trans (hkb3.later ((Below.refl _ _).alloc (Nat.le_refl _) _))
                have r4 := hkb4.cell 0
                have g4 := hkb4.froz 0
                simp at r4
                refine hK _ _ ?_
                clear hK K
                refine wpAnyIn_ready (rs := [7]) (by kernel_rfl) (by simp) ?_
                refine AllReadyIn.cons rfl (fun K hK => ?_) AllReadyIn.nil
                go_simp
                refine hK _ _ ?_
                clear hK K
                refine wpAnyIn_done (by kernel_rfl) ?_ _
                gi_wp2
                rw [hsz]
                exact un_end hwA hw1A hgA hbA HU.out XK.out HK2.out HKL.out har3 hl3 hi3 hb3 hk3 hnw3 ho4 hg4 hgg
              refine AllReadyIn.cons rfl (fun K hK => ?_) AllReadyIn.nil
              · go_simp
                refine hK _ _ ?_
                clear hK K
                refine wpAnyIn_ready (rs := [0]) (by kernel_rfl) (by simp) ?_
                refine AllReadyIn.cons rfl (fun K hK => ?_) AllReadyIn.nil
                go_simp
                refine hK _ _ ?_
                clear hK K
                refine wpAnyIn_ready (rs := [6]) (by kernel_rfl) (by simp) ?_
                refine AllReadyIn.cons rfl (fun K hK => ?_) AllReadyIn.nil
                refine stepIn_appI _ rfl _ _ rfl (A + 3) _ (kdS ds xs pre) (i3 : Int) rfl hoi5 w3.heap.size 1 rfl ?_ ?_ ?_ ?_
                · exact ((Bz.new w3 #[Value.int .i64 (i3 : Int)] 2).cell 0)
                · have := HNL.out
                  omega
                · have := HU.out.sz
                  have := hk3.2.2
                  simp at this ⊢
                  omega
                intro gg cap w4 ho4 hg4 hgg
                rw [hkdl] at ho4 ⊢
                have hkb4 : Bz w4 (A + 1) #[Value.slice ka pre.length kc] 52 := (hg4.block (A + 1) (by have := hkb3.lt; simp; omega) (fun e => by have := (HK2.out.lt e.symm).1; omega)).trans (hkb3.later ((Below.refl _ _).alloc (Nat.le_refl _) _))
                have r4 := hkb4.cell 0
                have g4 := hkb4.froz 0
                simp at r4
                refine hK _ _ ?_
                clear hK K
                refine wpAnyIn_ready (rs := [7]) (by kernel_rfl) (by simp) ?_
                refine AllReadyIn.cons rfl (fun K hK => ?_) AllReadyIn.nil
                go_simp
                refine hK _ _ ?_
                clear hK K
                refine wpAnyIn_done (by kernel_rfl) ?_ _
                gi_wp2
                rw [hsz]
                exact un_end hwA hw1A hgA hbA HU.out XK.out HK2.out HKL.out har3 hl3 hi3 hb3 hk3 hnw3 ho4 hg4 hgg
      refine AllReadyIn.cons rfl (fun K hK => ?_) ?_
      · go_simp
        refine hK _ _ ?_
        clear hK K
        refine wpAnyIn_ready (rs := [0, 1, 3]) (by kernel_rfl) (by simp) ?_
        refine AllReadyIn.cons rfl (fun K hK => ?_) ?_
        · go_simp
          refine hK _ _ ?_
          clear hK K
          refine wpAnyIn_ready (rs := [1, 3]) (by kernel_rfl) (by simp) ?_
          refine AllReadyIn.cons rfl (fun K hK => ?_) ?_
          · go_simp
            refine hK _ _ ?_
            clear hK K
            refine wpAnyIn_ready (rs := [3]) (by kernel_rfl) (by simp) ?_
            refine AllReadyIn.cons rfl (fun K hK => ?_) AllReadyIn.nil
            go_simp
            refine hK _ _ ?_
            clear hK K
            refine wpAnyIn_ready (rs := [4]) (by kernel_rfl) (by simp) ?_
            refine AllReadyIn.cons rfl (fun K hK => ?_) AllReadyIn.nil
            go_simp
            refine ⟨trivial, (CallsIn.inRound l (callsIn_wide.2 HCALL.out)).mono ?_⟩
            rintro e w3 ⟨v3, D3, l3, i3, rfl, har3, hl3, hi3, hb3, hk3, hnw3⟩
            have hkb3 : Bz w3 (A + 1) #[Value.slice ka pre.length kc] 52 := (hk3.1 _ _ _ _ (by decide) (by decide) XK.out).trans XK.out
            have r3 := hkb3.cell 0
            simp at r3
            have r5 : (w3.alloc (Obj.cells #[Value.int .i64 (i3 : Int)] 2)).cell? ⟨A + 1, 0, none⟩ = some (Value.slice ka pre.length kc) := (hkb3.later ((Below.refl _ _).alloc (Nat.le_refl _) _)).cell 0
            have hoi5 : OI (w3.alloc (Obj.cells #[Value.int .i64 (i3 : Int)] 2)) (A + 3) (.slice ka pre.length kc) (kdS ds xs pre) := (HK2.out.move (w' := w3) fun b hb => by
              obtain ⟨cur, hc⟩ := HK2.out.typed9 hb
              exact hk3.1 _ _ _ _ (by decide) (by decide) hc).later ((Below.refl _ _).alloc (Nat.le_refl _) _)
            simp only []
            refine hK _ _ ?_
            clear hK K
            refine wpAnyIn_ready (rs := [5]) (by kernel_rfl) (by simp) ?_
            refine AllReadyIn.cons rfl (fun K hK => ?_) AllReadyIn.nil
            go_simp
            refine hK _ _ ?_
            clear hK K
            refine wpAnyIn_ready (rs := [6]) (by kernel_rfl) (by simp) ?_
            refine AllReadyIn.cons rfl (fun K hK => ?_) AllReadyIn.nil
            refine stepIn_appI _ rfl _ _ rfl (A + 3) _ (kdS ds xs pre) (i3 : Int) rfl hoi5 w3.heap.size 1 rfl ?_ ?_ ?_ ?_
            · exact ((Bz.new w3 #[Value.int .i64 (i3 : Int)] 2).cell 0)
            · have := HNL.out
              omega
            · have := HU.out.sz
              have := hk3.2.2
              simp at this ⊢
              omega
            intro gg cap w4 ho4 hg4 hgg
            rw [hkdl] at ho4 ⊢
            have hkb4 : Bz w4 (A + 1) #[Value.slice ka pre.length kc] 52 := (hg4.block (A + 1) (by have := hkb3.lt; simp; omega) (fun e => by have := (HK2.out.lt e.symm).1; omega)).trans (hkb3.later ((Below.refl _ _).alloc (Nat.le_refl _) _))
            have r4 := hkb4.cell 0
            have g4 := hkb4.froz 0
            simp at r4
            refine hK _ _ ?_
            clear hK K
            refine wpAnyIn_ready (rs := [7]) (by kernel_rfl) (by simp) ?_
            refine AllReadyIn.cons rfl (fun K hK => ?_) AllReadyIn.nil
            go_simp
            refine hK _ _ ?_
            clear hK K
            refine wpAnyIn_done (by kernel_rfl) ?_ _
            gi_wp2
            rw [hsz]
            exact un_end hwA hw1A hgA hbA HU.out XK.out HK2.out HKL.out har3 hl3 hi3 hb3 hk3 hnw3 ho4 hg4 hgg
          refine AllReadyIn.cons rfl (fun K hK => ?_) AllReadyIn.nil
          · go_simp
            refine hK _ _ ?_
            clear hK K
            refine wpAnyIn_ready (rs := [1]) (by kernel_rfl) (by simp) ?_
            refine AllReadyIn.cons rfl (fun K hK => ?_) AllReadyIn.nil
            go_simp
            refine hK _ _ ?_
            clear hK K
            refine wpAnyIn_ready (rs := [4]) (by kernel_rfl) (by simp) ?_
            refine AllReadyIn.cons rfl (fun K hK => ?_) AllReadyIn.nil
            go_simp
            refine ⟨trivial, (CallsIn.inRound l (callsIn_wide.2 HCALL.out)).mono ?_⟩
            rintro e w3 ⟨v3, D3, l3, i3, rfl, har3, hl3, hi3, hb3, hk3, hnw3⟩
            have hkb3 : Bz w3 (A + 1) #[Value.slice ka pre.length kc] 52 := (hk3.1 _ _ _ _ (by decide) (by decide) XK.out).trans XK.out
            have r3 := hkb3.cell 0
            simp at r3
            have r5 : (w3.alloc (Obj.cells #[Value.int .i64 (i3 : Int)] 2)).cell? ⟨A + 1, 0, none⟩ = some (Value.slice ka pre.length kc) := (hkb3.later ((Below.refl _ _).alloc (Nat.le_refl _) _)).cell 0
            have hoi5 : OI (w3.alloc (Obj.cells #[Value.int .i64 (i3 : Int)] 2)) (A + 3) (.slice ka pre.length kc) (kdS ds xs pre) := (HK2.out.move (w' := w3) fun b hb => by
              obtain ⟨cur, hc⟩ := HK2.out.typed9 hb
              exact hk3.1 _ _ _ _ (by decide) (by decide) hc).later ((Below.refl _ _).alloc (Nat.le_refl _) _)
            simp only []
            refine hK _ _ ?_
            clear hK K
            refine wpAnyIn_ready (rs := [5]) (by kernel_rfl) (by simp) ?_
            refine AllReadyIn.cons rfl (fun K hK => ?_) AllReadyIn.nil
            go_simp
            refine hK _ _ ?_
            clear hK K
            refine wpAnyIn_ready (rs := [6]) (by kernel_rfl) (by simp) ?_
            refine AllReadyIn.cons rfl (fun K hK => ?_) AllReadyIn.nil
            refine stepIn_appI _ rfl _ _ rfl (A + 3) _ (kdS ds xs pre) (i3 : Int) rfl hoi5 w3.heap.size 1 rfl ?_ ?_ ?_ ?_
            · exact ((Bz.new w3 #[Value.int .i64 (i3 : Int)] 2).cell 0)
            · have := HNL.out
              omega
            · have := HU.out.sz
              have := hk3.2.2
              simp at this ⊢
              omega
            intro gg cap w4 ho4 hg4 hgg
            rw [hkdl] at ho4 ⊢
            have hkb4 : Bz w4 (A + 1) #[Value.slice ka pre.length kc] 52 := (hg4.block (A + 1) (by have := hkb3.lt; simp; omega) (fun e => by have := (HK2.out.lt e.symm).1; omega)).trans (hkb3.later ((Below.refl _ _).alloc (Nat.le_refl _) _))
            have r4 := hkb4.cell 0
            have g4 := hkb4.froz 0
            simp at r4
            refine hK _ _ ?_
            clear hK K
            refine wpAnyIn_ready (rs := [7]) (by kernel_rfl) (by simp) ?_
            refine AllReadyIn.cons rfl (fun K hK => ?_) AllReadyIn.nil
            go_simp
            refine hK _ _ ?_
            clear hK K
            refine wpAnyIn_done (by kernel_rfl) ?_ _
            gi_wp2
            rw [hsz]
            exact un_end hwA hw1A hgA hbA HU.out XK.out HK2.out HKL.out har3 hl3 hi3 hb3 hk3 hnw3 ho4 hg4 hgg
        refine AllReadyIn.cons rfl (fun K hK => ?_) ?_
        · go_simp
          refine hK _ _ ?_
          clear hK K
          refine wpAnyIn_ready (rs := [0, 3]) (by kernel_rfl) (by simp) ?_
          refine AllReadyIn.cons rfl (fun K hK => ?_) ?_
          · go_simp
            refine hK _ _ ?_
            clear hK K
            refine wpAnyIn_ready (rs := [3]) (by kernel_rfl) (by simp) ?_
            refine AllReadyIn.cons rfl (fun K hK => ?_) AllReadyIn.nil
            go_simp
            refine hK _ _ ?_
            clear hK K
            refine wpAnyIn_ready (rs := [4]) (by kernel_rfl) (by simp) ?_
            refine AllReadyIn.cons rfl (fun K hK => ?_) AllReadyIn.nil
            go_simp
            refine ⟨trivial, (CallsIn.inRound l (callsIn_wide.2 HCALL.out)).mono ?_⟩
            rintro e w3 ⟨v3, D3, l3, i3, rfl, har3, hl3, hi3, hb3, hk3, hnw3⟩
            have hkb3 : Bz w3 (A + 1) #[Value.slice ka pre.length kc] 52 := (hk3.1 _ _ _ _ (by decide) (by decide) XK.out).trans XK.out
            have r3 := hkb3.cell 0
            simp at r3
            have r5 : (w3.alloc (Obj.cells #[Value.int .i64 (i3 : Int)] 2)).cell? ⟨A + 1, 0, none⟩ = some (Value.slice ka pre.length kc) := (hkb3.later ((Below.refl _ _).alloc (Nat.le_refl _) _)).cell 0
            have hoi5 : OI (w3.alloc (Obj.cells #[Value.int .i64 (i3 : Int)] 2)) (A + 3) (.slice ka pre.length kc) (kdS ds xs pre) := (HK2.out.move (w' := w3) fun b hb => by
              obtain ⟨cur, hc⟩ := HK2.out.typed9 hb
              exact hk3.1 _ _ _ _ (by decide) (by decide) hc).later ((Below.refl _ _).alloc (Nat.le_refl _) _)
            simp only []
            refine hK _ _ ?_
            clear hK K
            refine wpAnyIn_ready (rs := [5]) (by kernel_rfl) (by simp) ?_
            refine AllReadyIn.cons rfl (fun K hK => ?_) AllReadyIn.nil
            go_simp
            refine hK _ _ ?_
            clear hK K
            refine wpAnyIn_ready (rs := [6]) (by kernel_rfl) (by simp) ?_
            refine AllReadyIn.cons rfl (fun K hK => ?_) AllReadyIn.nil
            refine stepIn_appI _ rfl _ _ rfl (A + 3) _ (kdS ds xs pre) (i3 : Int) rfl hoi5 w3.heap.size 1 rfl ?_ ?_ ?_ ?_
            · exact ((Bz.new w3 #[Value.int .i64 (i3 : Int)] 2).cell 0)
            · have := HNL.out
              omega
            · have := HU.out.sz
              have := hk3.2.2
              simp at this ⊢
              omega
            intro gg cap w4 ho4 hg4 hgg
            rw [hkdl] at ho4 ⊢
            have hkb4 : Bz w4 (A + 1) #[Value.slice ka pre.length kc] 52 := (hg4.block (A + 1) (by have := hkb3.lt; simp; omega) (fun e => by have := (HK2.out.lt e.symm).1; omega)).trans (hkb3.later ((Below.refl _ _).alloc (Nat.le_refl _) _))
            have r4 := hkb4.cell 0
            have g4 := hkb4.froz 0
            simp at r4
            refine hK _ _ ?_
            clear hK K
            refine wpAnyIn_ready (rs := [7]) (by kernel_rfl) (by simp) ?_
            refine AllReadyIn.cons rfl (fun K hK => ?_) AllReadyIn.nil
            go_simp
            refine hK _ _ ?_
            clear hK K
            refine wpAnyIn_done (by kernel_rfl) ?_ _
            gi_wp2
            rw [hsz]
            exact un_end hwA hw1A hgA hbA HU.out XK.out HK2.out HKL.out har3 hl3 hi3 hb3 hk3 hnw3 ho4 hg4 hgg
          refine AllReadyIn.cons rfl (fun K hK => ?_) AllReadyIn.nil
          · go_simp
            refine hK _ _ ?_
            clear hK K
            refine wpAnyIn_ready (rs := [0, 4]) (by kernel_rfl) (by simp) ?_
            refine AllReadyIn.cons rfl (fun K hK => ?_) ?_
            · go_simp
              refine hK _ _ ?_
              clear hK K
              refine wpAnyIn_ready (rs := [4]) (by kernel_rfl) (by simp) ?_
              refine AllReadyIn.cons rfl (fun K hK => ?_) AllReadyIn.nil
              go_simp
              refine ⟨trivial, (CallsIn.inRound l (callsIn_wide.2 HCALL.out)).mono ?_⟩
              rintro e w3 ⟨v3, D3, l3, i3, rfl, har3, hl3, hi3, hb3, hk3, hnw3⟩
              have hkb3 : Bz w3 (A + 1) #[Value.slice ka pre.length kc] 52 := (hk3.1 _ _ _ _ (by decide) (by decide) XK.out).trans XK.out
              have r3 := hkb3.cell 0
              simp at r3
              have r5 : (w3.alloc (Obj.cells #[Value.int .i64 (i3 : Int)] 2)).cell? ⟨A + 1, 0, none⟩ = some (Value.slice ka pre.length kc) := (hkb3.later ((Below.refl _ _).alloc (Nat.le_refl _) _)).cell 0
              have hoi5 : OI (w3.alloc (Obj.cells #[Value.int .i64 (i3 : Int)] 2)) (A + 3) (.slice ka pre.length kc) (kdS ds xs pre) := (HK2.out.move (w' := w3) fun b hb => by
                obtain ⟨cur, hc⟩ := HK2.out.typed9 hb
                exact hk3.1 _ _ _ _ (by decide) (by decide) hc).later ((Below.refl _ _).alloc (Nat.le_refl _) _)
              simp only []
              refine hK _ _ ?_
              clear hK K
              refine wpAnyIn_ready (rs := [5]) (by kernel_rfl) (by simp) ?_
              refine AllReadyIn.cons rfl (fun K hK => ?_) AllReadyIn.nil
              go_simp
              refine hK _ _ ?_
              clear hK K
              refine wpAnyIn_ready (rs := [6]) (by kernel_rfl) (by simp) ?_
              refine AllReadyIn.cons rfl (fun K hK => ?_) AllReadyIn.nil
              refine stepIn_appI _ rfl _ _ rfl (A + 3) _ (kdS ds xs pre) (i3 : Int) rfl hoi5 w3.heap.size 1 rfl ?_ ?_ ?_ ?_
              · exact ((Bz.new w3 #[Value.int .i64 (i3 : Int)] 2).cell 0)
              · have := HNL.out
                omega
              · have := HU.out.sz
                have := hk3.2.2
                simp at this ⊢
                omega
              intro gg cap w4 ho4 hg4 hgg
              rw [hkdl] at ho4 ⊢
              have hkb4 : Bz w4 (A + 1) #[Value.slice ka pre.length kc] 52 := (hg4.block (A + 1) (by have := hkb3.lt; simp; omega) (fun e => by have := (HK2.out.lt e.symm).1; omega)).trans (hkb3.later ((Below.refl _ _).alloc (Nat.le_refl _) _))
              have r4 := hkb4.cell 0
              have g4 := hkb4.froz 0
              simp at r4
              refine hK _ _ ?_
              clear hK K
              refine wpAnyIn_ready (rs := [7]) (by kernel_rfl) (by simp) ?_
              refine AllReadyIn.cons rfl (fun K hK => ?_) AllReadyIn.nil
              go_simp
              refine hK _ _ ?_
              clear hK K
              refine wpAnyIn_done (by kernel_rfl) ?_ _
              gi_wp2
              rw [hsz]
              exact un_end hwA hw1A hgA hbA HU.out XK.out HK2.out HKL.out har3 hl3 hi3 hb3 hk3 hnw3 ho4 hg4 hgg
            refine AllReadyIn.cons rfl (fun K hK => ?_) AllReadyIn.nil
            · go_simp
              refine ⟨trivial, (CallsIn.inRound l (callsIn_wide.2 HCALL.out)).mono ?_⟩
              rintro e w3 ⟨v3, D3, l3, i3, rfl, har3, hl3, hi3, hb3, hk3, hnw3⟩
              have hkb3 : Bz w3 (A + 1) #[Value.slice ka pre.length kc] 52 := (hk3.1 _ _ _ _ (by decide) (by decide) XK.out).trans XK.out
              have r3 := hkb3.cell 0
              simp at r3
              have r5 : (w3.alloc (Obj.cells #[Value.int .i64 (i3 : Int)] 2)).cell? ⟨A + 1, 0, none⟩ = some (Value.slice ka pre.length kc) := (hkb3.later ((Below.refl _ _).alloc (Nat.le_refl _) _)).cell 0
              have hoi5 : OI (w3.alloc (Obj.cells #[Value.int .i64 (i3 : Int)] 2)) (A + 3) (.slice ka pre.length kc) (kdS ds xs pre) := (HK2.out.move (w' := w3) fun b hb => by
                obtain ⟨cur, hc⟩ := HK2.out.typed9 hb
                exact hk3.1 _ _ _ _ (by decide) (by decide) hc).later ((Below.refl _ _).alloc (Nat.le_refl _) _)
              simp only []
              refine hK _ _ ?_
              clear hK K
              refine wpAnyIn_ready (rs := [0, 5]) (by kernel_rfl) (by simp) ?_
              refine AllReadyIn.cons rfl (fun K hK => ?_) ?_
              · go_simp
                refine hK _ _ ?_
                clear hK K
                refine wpAnyIn_ready (rs := [5]) (by kernel_rfl) (by simp) ?_
                refine AllReadyIn.cons rfl (fun K hK => ?_) AllReadyIn.nil
                go_simp
                refine hK _ _ ?_
                clear hK K
                refine wpAnyIn_ready (rs := [6]) (by kernel_rfl) (by simp) ?_
                refine AllReadyIn.cons rfl (fun K hK => ?_) AllReadyIn.nil
                refine stepIn_appI _ rfl _ _ rfl (A + 3) _ (kdS ds xs pre) (i3 : Int) rfl hoi5 w3.heap.size 1 rfl ?_ ?_ ?_ ?_
                · exact ((Bz.new w3 #[Value.int .i64 (i3 : Int)] 2).cell 0)
                · have := HNL.out
                  omega
                · have := HU.out.sz
                  have := hk3.2.2
                  simp at this ⊢
                  omega
                intro gg cap w4 ho4 hg4 hgg
                rw [hkdl] at ho4 ⊢
                have hkb4 : Bz w4 (A + 1) #[Value.slice ka pre.length kc] 52 := (hg4.block (A + 1) (by have := hkb3.lt; simp; omega) (fun e => by have := (HK2.out.lt e.symm).1; omega)).trans (hkb3.later ((Below.refl _ _).alloc (Nat.le_refl _) _))
                have r4 := hkb4.cell 0
                have g4 := hkb4.froz 0
                simp at r4
                refine hK _ _ ?_
                clear hK K
                refine wpAnyIn_ready (rs := [7]) (by kernel_rfl) (by simp) ?_
                refine AllReadyIn.cons rfl (fun K hK => ?_) AllReadyIn.nil
                go_simp
                refine hK _ _ ?_
                clear hK K
                refine wpAnyIn_done (by kernel_rfl) ?_ _
                gi_wp2
                rw [hsz]
                exact un_end hwA hw1A hgA hbA HU.out XK.out HK2.out HKL.out har3 hl3 hi3 hb3 hk3 hnw3 ho4 hg4 hgg
              refine AllReadyIn.cons rfl (fun K hK => ?_) AllReadyIn.nil
              · go_simp
                refine hK _ _ ?_
                clear hK K
                refine wpAnyIn_ready (rs := [0]) (by kernel_rfl) (by simp) ?_
                refine AllReadyIn.cons rfl (fun K hK => ?_) AllReadyIn.nil
                go_simp
                refine hK _ _ ?_
                clear hK K
                refine wpAnyIn_ready (rs := [6]) (by kernel_rfl) (by simp) ?_
                refine AllReadyIn.cons rfl (fun K hK => ?_) AllReadyIn.nil
                refine stepIn_appI _ rfl _ _ rfl (A + 3) _ (kdS ds xs pre) (i3 : Int) rfl hoi5 w3.heap.size 1 rfl ?_ ?_ ?_ ?_
                · exact ((Bz.new w3 #[Value.int .i64 (i3 : Int)] 2).cell 0)
                · have := HNL.out
                  omega
                · have := HU.out.sz
                  have := hk3.2.2
                  simp at this ⊢
                  omega
                intro gg cap w4 ho4 hg4 hgg
                rw [hkdl] at ho4 ⊢
                have hkb4 : Bz w4 (A + 1) #[Value.slice ka pre.length kc] 52 := (hg4.block (A + 1) (by have := hkb3.lt; simp; omega) (fun e => by have := (HK2.out.lt e.symm).1; omega)).trans (hkb3.later ((Below.refl _ _).alloc (Nat.le_refl _) _))
                have r4 := hkb4.cell 0
                have g4 := hkb4.froz 0
                simp at r4
                refine hK _ _ ?_
                clear hK K
                refine wpAnyIn_ready (rs := [7]) (by kernel_rfl) (by simp) ?_
                refine AllReadyIn.cons rfl (fun K hK => ?_) AllReadyIn.nil
                go_simp
                refine hK _ _ ?_
                clear hK K
                refine wpAnyIn_done (by kernel_rfl) ?_ _
                gi_wp2
                rw [hsz]
                exact un_end hwA hw1A hgA hbA HU.out XK.out HK2.out HKL.out har3 hl3 hi3 hb3 hk3 hnw3 ho4 hg4 hgg
        refine AllReadyIn.cons rfl (fun K hK => ?_) AllReadyIn.nil
        · go_simp
          refine hK _ _ ?_
          clear hK K
          refine wpAnyIn_ready (rs := [0, 1]) (by kernel_rfl) (by simp) ?_
          refine AllReadyIn.cons rfl (fun K hK => ?_) ?_
          · go_simp
            refine hK _ _ ?_
            clear hK K
            refine wpAnyIn_ready (rs := [1]) (by kernel_rfl) (by simp) ?_
            refine AllReadyIn.cons rfl (fun K hK => ?_) AllReadyIn.nil
            go_simp
            refine hK _ _ ?_
            clear hK K
            refine wpAnyIn_ready (rs := [4]) (by kernel_rfl) (by simp) ?_
            refine AllReadyIn.cons rfl (fun K hK => ?_) AllReadyIn.nil
            go_simp
            refine ⟨trivial, (CallsIn.inRound l (callsIn_wide.2 HCALL.out)).mono ?_⟩
            rintro e w3 ⟨v3, D3, l3, i3, rfl, har3, hl3, hi3, hb3, hk3, hnw3⟩
            have hkb3 : Bz w3 (A + 1) #[Value.slice ka pre.length kc] 52 := (hk3.1 _ _ _ _ (by decide) (by decide) XK.out).trans XK.out
            have r3 := hkb3.cell 0
            simp at r3
            have r5 : (w3.alloc (Obj.cells #[Value.int .i64 (i3 : Int)] 2)).cell? ⟨A + 1, 0, none⟩ = some (Value.slice ka pre.length kc) := (hkb3.later ((Below.refl _ _).alloc (Nat.le_refl _) _)).cell 0
            have hoi5 : OI (w3.alloc (Obj.cells #[Value.int .i64 (i3 : Int)] 2)) (A + 3) (.slice ka pre.length kc) (kdS ds xs pre) := (HK2.out.move (w' := w3) fun b hb => by
              obtain ⟨cur, hc⟩ := HK2.out.typed9 hb
              exact hk3.1 _ _ _ _ (by decide) (by decide) hc).later ((Below.refl _ _).alloc (Nat.le_refl _) _)
            simp only []
            refine hK _ _ ?_
            clear hK K
            refine wpAnyIn_ready (rs := [5]) (by kernel_rfl) (by simp) ?_
            refine AllReadyIn.cons rfl (fun K hK => ?_) AllReadyIn.nil
            go_simp
            refine hK _ _ ?_
            clear hK K
            refine wpAnyIn_ready (rs := [6]) (by kernel_rfl) (by simp) ?_
            refine AllReadyIn.cons rfl (fun K hK => ?_) AllReadyIn.nil
            refine stepIn_appI _ rfl _ _ rfl (A + 3) _ (kdS ds xs pre) (i3 : Int) rfl hoi5 w3.heap.size 1 rfl ?_ ?_ ?_ ?_
            · exact ((Bz.new w3 #[Value.int .i64 (i3 : Int)] 2).cell 0)
            · have := HNL.out
              omega
            · have := HU.out.sz
              have := hk3.2.2
              simp at this ⊢
              omega
            intro gg cap w4 ho4 hg4 hgg
            rw [hkdl] at ho4 ⊢
            have hkb4 : Bz w4 (A + 1) #[Value.slice ka pre.length kc] 52 := (hg4.block (A + 1) (by have := hkb3.lt; simp; omega) (fun e => by have := (HK2.out.lt e.symm).1; omega)).trans (hkb3.later ((Below.refl _ _).alloc (Nat.le_refl _) _))
            have r4 := hkb4.cell 0
            have g4 := hkb4.froz 0
            simp at r4
            refine hK _ _ ?_
            clear hK K
            refine wpAnyIn_ready (rs := [7]) (by kernel_rfl) (by simp) ?_
            refine AllReadyIn.cons rfl (fun K hK => ?_) AllReadyIn.nil
            go_simp
            refine hK _ _ ?_
            clear hK K
            refine wpAnyIn_done (by kernel_rfl) ?_ _
            gi_wp2
            rw [hsz]
            exact un_end hwA hw1A hgA hbA HU.out XK.out HK2.out HKL.out har3 hl3 hi3 hb3 hk3 hnw3 ho4 hg4 hgg
          refine AllReadyIn.cons rfl (fun K hK => ?_) AllReadyIn.nil
          · go_simp
            refine hK _ _ ?_
            clear hK K
            refine wpAnyIn_ready (rs := [0, 4]) (by kernel_rfl) (by simp) ?_
            refine AllReadyIn.cons rfl (fun K hK => ?_) ?_
            · go_simp
              refine hK _ _ ?_
              clear hK K
              refine wpAnyIn_ready (rs := [4]) (by kernel_rfl) (by simp) ?_
              refine AllReadyIn.cons rfl (fun K hK => ?_) AllReadyIn.nil
              go_simp
              refine ⟨trivial, (CallsIn.inRound l (callsIn_wide.2 HCALL.out)).mono ?_⟩
              rintro e w3 ⟨v3, D3, l3, i3, rfl, har3, hl3, hi3, hb3, hk3, hnw3⟩
              have hkb3 : Bz w3 (A + 1) #[Value.slice ka pre.length kc] 52 := (hk3.1 _ _ _ _ (by decide) (by decide) XK.out).trans XK.out
              have r3 := hkb3.cell 0
              simp at r3
              have r5 : (w3.alloc (Obj.cells #[Value.int .i64 (i3 : Int)] 2)).cell? ⟨A + 1, 0, none⟩ = some (Value.slice ka pre.length kc) := (hkb3.later ((Below.refl _ _).alloc (Nat.le_refl _) _)).cell 0
              have hoi5 : OI (w3.alloc (Obj.cells #[Value.int .i64 (i3 : Int)] 2)) (A + 3) (.slice ka pre.length kc) (kdS ds xs pre) := (HK2.out.move (w' := w3) fun b hb => by
                obtain ⟨cur, hc⟩ := HK2.out.typed9 hb
                exact hk3.1 _ _ _ _ (by decide) (by decide) hc).later ((Below.refl _ _).alloc (Nat.le_refl _) _)
              simp only []
              refine hK _ _ ?_
              clear hK K
              refine wpAnyIn_ready (rs := [5]) (by kernel_rfl) (by simp) ?_
              refine AllReadyIn.cons rfl (fun K hK => ?_) AllReadyIn.nil
              go_simp
              refine hK _ _ ?_
              clear hK K
              refine wpAnyIn_ready (rs := [6]) (by kernel_rfl) (by simp) ?_
              refine AllReadyIn.cons rfl (fun K hK => ?_) AllReadyIn.nil
              refine stepIn_appI _ rfl _ _ rfl (A + 3) _ (kdS ds xs pre) (i3 : Int) rfl hoi5 w3.heap.size 1 rfl ?_ ?_ ?_ ?_
              · exact ((Bz.new w3 #[Value.int .i64 (i3 : Int)] 2).cell 0)
              · have := HNL.out
                omega
              · have := HU.out.sz
                have := hk3.2.2
                simp at this ⊢
                omega
              intro gg cap w4 ho4 hg4 hgg
              rw [hkdl] at ho4 ⊢
              have hkb4 : Bz w4 (A + 1) #[Value.slice ka pre.length kc] 52 := (hg4.block (A + 1) (by have := hkb3.lt; simp; omega) (fun e => by have := (HK2.out.lt e.symm).1; omega)).trans (hkb3.later ((Below.refl _ _).alloc (Nat.le_refl _) _))
              have r4 := hkb4.cell 0
              have g4 := hkb4.froz 0
              simp at r4
              refine hK _ _ ?_
              clear hK K
              refine wpAnyIn_ready (rs := [7]) (by kernel_rfl) (by simp) ?_
              refine AllReadyIn.cons rfl (fun K hK => ?_) AllReadyIn.nil
              go_simp
              refine hK _ _ ?_
              clear hK K
              refine wpAnyIn_done (by kernel_rfl) ?_ _
              gi_wp2
              rw [hsz]
              exact un_end hwA hw1A hgA hbA HU.out XK.out HK2.out HKL.out har3 hl3 hi3 hb3 hk3 hnw3 ho4 hg4 hgg
            refine AllReadyIn.cons rfl (fun K hK => ?_) AllReadyIn.nil
            · go_simp
              refine ⟨trivial, (CallsIn.inRound l (callsIn_wide.2 HCALL.out)).mono ?_⟩
              rintro e w3 ⟨v3, D3, l3, i3, rfl, har3, hl3, hi3, hb3, hk3, hnw3⟩
              have hkb3 : Bz w3 (A + 1) #[Value.slice ka pre.length kc] 52 := (hk3.1 _ _ _ _ (by decide) (by decide) XK.out).trans XK.out
              have r3 := hkb3.cell 0
              simp at r3
              have r5 : (w3.alloc (Obj.cells #[Value.int .i64 (i3 : Int)] 2)).cell? ⟨A + 1, 0, none⟩ = some (Value.slice ka pre.length kc) := (hkb3.later ((Below.refl _ _).alloc (Nat.le_refl _) _)).cell 0
              have hoi5 : OI (w3.alloc (Obj.cells #[Value.int .i64 (i3 : Int)] 2)) (A + 3) (.slice ka pre.length kc) (kdS ds xs pre) := (HK2.out.move (w' := w3) fun b hb => by
                obtain ⟨cur, hc⟩ := HK2.out.typed9 hb
                exact hk3.1 _ _ _ _ (by decide) (by decide) hc).later ((Below.refl _ _).alloc (Nat.le_refl _) _)
              simp only []
              refine hK _ _ ?_
              clear hK K
              refine wpAnyIn_ready (rs := [0, 5]) (by kernel_rfl) (by simp) ?_
              refine AllReadyIn.cons rfl (fun K hK => ?_) ?_
              · go_simp
                refine hK _ _ ?_
                clear hK K
                refine wpAnyIn_ready (rs := [5]) (by kernel_rfl) (by simp) ?_
                refine AllReadyIn.cons rfl (fun K hK => ?_) AllReadyIn.nil
                go_simp
                refine hK _ _ ?_
                clear hK K
                refine wpAnyIn_ready (rs := [6]) (by kernel_rfl) (by simp) ?_
                refine AllReadyIn.cons rfl (fun K hK => ?_) AllReadyIn.nil
                refine stepIn_appI _ rfl _ _ rfl (A + 3) _ (kdS ds xs pre) (i3 : Int) rfl hoi5 w3.heap.size 1 rfl ?_ ?_ ?_ ?_
                · exact ((Bz.new w3 #[Value.int .i64 (i3 : Int)] 2).cell 0)
                · have := HNL.out
                  omega
                · have := HU.out.sz
                  have := hk3.2.2
                  simp at this ⊢
                  omega
                intro gg cap w4 ho4 hg4 hgg
                rw [hkdl] at ho4 ⊢
                have hkb4 : Bz w4 (A + 1) #[Value.slice ka pre.length kc] 52 := (hg4.block (A + 1) (by have := hkb3.lt; simp; omega) (fun e => by have := (HK2.out.lt e.symm).1; omega)).trans (hkb3.later ((Below.refl _ _).alloc (Nat.le_refl _) _))
                have r4 := hkb4.cell 0
                have g4 := hkb4.froz 0
                simp at r4
                refine hK _ _ ?_
                clear hK K
                refine wpAnyIn_ready (rs := [7]) (by kernel_rfl) (by simp) ?_
                refine AllReadyIn.cons rfl (fun K hK => ?_) AllReadyIn.nil
                go_simp
                refine hK _ _ ?_
                clear hK K
                refine wpAnyIn_done (by kernel_rfl) ?_ _
                gi_wp2
                rw [hsz]
                exact un_end hwA hw1A hgA hbA HU.out XK.out HK2.out HKL.out har3 hl3 hi3 hb3 hk3 hnw3 ho4 hg4 hgg
              refine AllReadyIn.cons rfl (fun K hK => ?_) AllReadyIn.nil
              · go_simp
                refine hK _ _ ?_
                clear hK K
                refine wpAnyIn_ready (rs := [0]) (by kernel_rfl) (by simp) ?_
                refine AllReadyIn.cons rfl (fun K hK => ?_) AllReadyIn.nil
                go_simp
                refine hK _ _ ?_
                clear hK K
                refine wpAnyIn_ready (rs := [6]) (by kernel_rfl) (by simp) ?_
                refine AllReadyIn.cons rfl (fun K hK => ?_) AllReadyIn.nil
                refine stepIn_appI _ rfl _ _ rfl (A + 3) _ (kdS ds xs pre) (i3 : Int) rfl hoi5 w3.heap.size 1 rfl ?_ ?_ ?_ ?_
                · exact ((Bz.new w3 #[Value.int .i64 (i3 : Int)] 2).cell 0)
                · have := HNL.out
                  omega
                · have := HU.out.sz
                  have := hk3.2.2
                  simp at this ⊢
                  omega
                intro gg cap w4 ho4 hg4 hgg
                rw [hkdl] at ho4 ⊢
                have hkb4 : Bz w4 (A + 1) #[Value.slice ka pre.length kc] 52 := (hg4.block (A + 1) (by have := hkb3.lt; simp; omega) (fun e => by have := (HK2.out.lt e.symm).1; omega)).trans (hkb3.later ((Below.refl _ _).alloc (Nat.le_refl _) _))
                have r4 := hkb4.cell 0
                have g4 := hkb4.froz 0
                simp at r4
                refine hK _ _ ?_
                clear hK K
                refine wpAnyIn_ready (rs := [7]) (by kernel_rfl) (by simp) ?_
                refine AllReadyIn.cons rfl (fun K hK => ?_) AllReadyIn.nil
                go_simp
                refine hK _ _ ?_
                clear hK K
                refine wpAnyIn_done (by kernel_rfl) ?_ _
                gi_wp2
                rw [hsz]
                exact un_end hwA hw1A hgA hbA HU.out XK.out HK2.out HKL.out har3 hl3 hi3 hb3 hk3 hnw3 ho4 hg4 hgg
      refine AllReadyIn.cons rfl (fun K hK => ?_) AllReadyIn.nil
      · go_simp
        refine hK _ _ ?_
        clear hK K
        refine wpAnyIn_ready (rs := [0, 1, 2]) (by kernel_rfl) (by simp) ?_
        refine AllReadyIn.cons rfl (fun K hK => ?_) ?_
        · go_simp
          refine hK _ _ ?_
          clear hK K
          refine wpAnyIn_ready (rs := [1, 2]) (by kernel_rfl) (by simp) ?_
          refine AllReadyIn.cons rfl (fun K hK => ?_) ?_
          · go_simp
            refine hK _ _ ?_
            clear hK K
            refine wpAnyIn_ready (rs := [2]) (by kernel_rfl) (by simp) ?_
            refine AllReadyIn.cons rfl (fun K hK => ?_) AllReadyIn.nil
            go_simp
            refine hK _ _ ?_
            clear hK K
            refine wpAnyIn_ready (rs := [4]) (by kernel_rfl) (by simp) ?_
            refine AllReadyIn.cons rfl (fun K hK => ?_) AllReadyIn.nil
            go_simp
            refine ⟨trivial, (CallsIn.inRound l (callsIn_wide.2 HCALL.out)).mono ?_⟩
            rintro e w3 ⟨v3, D3, l3, i3, rfl, har3, hl3, hi3, hb3, hk3, hnw3⟩
            have hkb3 : Bz w3 (A + 1) #[Value.slice ka pre.length kc] 52 := (hk3.1 _ _ _ _ (by decide) (by decide) XK.out).trans XK.out
            have r3 := hkb3.cell 0
            simp at r3
            have r5 : (w3.alloc (Obj.cells #[Value.int .i64 (i3 : Int)] 2)).cell? ⟨A + 1, 0, none⟩ = some (Value.slice ka pre.length kc) := (hkb3.later ((Below.refl _ _).alloc (Nat.le_refl _) _)).cell 0
            have hoi5 : OI (w3.alloc (Obj.cells #[Value.int .i64 (i3 : Int)] 2)) (A + 3) (.slice ka pre.length kc) (kdS ds xs pre) := (HK2.out.move (w' := w3) fun b hb => by
              obtain ⟨cur, hc⟩ := HK2.out.typed9 hb
              exact hk3.1 _ _ _ _ (by decide) (by decide) hc).later ((Below.refl _ _).alloc (Nat.le_refl _) _)
            simp only []
            refine hK _ _ ?_
            clear hK K
            refine wpAnyIn_ready (rs := [5]) (by kernel_rfl) (by simp) ?_
            refine AllReadyIn.cons rfl (fun K hK => ?_) AllReadyIn.nil
            go_simp
            refine hK _ _ ?_
            clear hK K
            refine wpAnyIn_ready (rs := [6]) (by kernel_rfl) (by simp) ?_
            refine AllReadyIn.cons rfl (fun K hK => ?_) AllReadyIn.nil
            refine stepIn_appI _ rfl _ _ rfl (A + 3) _ (kdS ds xs pre) (i3 : Int) rfl hoi5 w3.heap.size 1 rfl ?_ ?_ ?_ ?_
            · exact ((Bz.new w3 #[Value.int .i64 (i3 : Int)] 2).cell 0)
            · have := HNL.out
              omega
            · have := HU.out.sz
              have := hk3.2.2
              simp at this ⊢
              omega
            intro gg cap w4 ho4 hg4 hgg
            rw [hkdl] at ho4 ⊢
            have hkb4 : Bz w4 (A + 1) #[Value.slice ka pre.length kc] 52 := (hg4.block (A + 1) (by have := hkb3.lt; simp; omega) (fun e => by have := (HK2.out.lt e.symm).1; omega)).trans (hkb3.later ((Below.refl _ _).alloc (Nat.le_refl _) _))
            have r4 := hkb4.cell 0
            have g4 := hkb4.froz 0
            simp at r4
            refine hK _ _ ?_
            clear hK K
            refine wpAnyIn_ready (rs := [7]) (by kernel_rfl) (by simp) ?_
            refine AllReadyIn.cons rfl (fun K hK => ?_) AllReadyIn.nil
            go_simp
            refine hK _ _ ?_
            clear hK K
            refine wpAnyIn_done (by kernel_rfl) ?_ _
            gi_wp2
            rw [hsz]
            exact un_end hwA hw1A hgA hbA HU.out XK.out HK2.out HKL.out har3 hl3 hi3 hb3 hk3 hnw3 ho4 hg4 hgg
          refine AllReadyIn.cons rfl (fun K hK => ?_) AllReadyIn.nil
          · go_simp
            refine hK _ _ ?_
            clear hK K
            refine wpAnyIn_ready (rs := [1]) (by kernel_rfl) (by simp) ?_
            refine AllReadyIn.cons rfl (fun K hK => ?_) AllReadyIn.nil
            go_simp
            refine hK _ _ ?_
            clear hK K
            refine wpAnyIn_ready (rs := [4]) (by kernel_rfl) (by simp) ?_
            refine AllReadyIn.cons rfl (fun K hK => ?_) AllReadyIn.nil
            go_simp
            refine ⟨trivial, (CallsIn.inRound l (callsIn_wide.2 HCALL.out)).mono ?_⟩
            rintro e w3 ⟨v3, D3, l3, i3, rfl, har3, hl3, hi3, hb3, hk3, hnw3⟩
            have hkb3 : Bz w3 (A + 1) #[Value.slice ka pre.length kc] 52 := (hk3.1 _ _ _ _ (by decide) (by decide) XK.out).trans XK.out
            have r3 := hkb3.cell 0
            simp at r3
            have r5 : (w3.alloc (Obj.cells #[Value.int .i64 (i3 : Int)] 2)).cell? ⟨A + 1, 0, none⟩ = some (Value.slice ka pre.length kc) := (hkb3.later ((Below.refl _ _).alloc (Nat.le_refl _) _)).cell 0
            have hoi5 : OI (w3.alloc (Obj.cells #[Value.int .i64 (i3 : Int)] 2)) (A + 3) (.slice ka pre.length kc) (kdS ds xs pre) := (HK2.out.move (w' := w3) fun b hb => by
              obtain ⟨cur, hc⟩ := HK2.out.typed9 hb
              exact hk3.1 _ _ _ _ (by decide) (by decide) hc).later ((Below.refl _ _).alloc (Nat.le_refl _) _)
            simp only []
            refine hK _ _ ?_
            clear hK K
            refine wpAnyIn_ready (rs := [5]) (by kernel_rfl) (by simp) ?_
            refine AllReadyIn.cons rfl (fun K hK => ?_) AllReadyIn.nil
            go_simp
            refine hK _ _ ?_
            clear hK K
            refine wpAnyIn_ready (rs := [6]) (by kernel_rfl) (by simp) ?_
            refine AllReadyIn.cons rfl (fun K hK => ?_) AllReadyIn.nil
            refine stepIn_appI _ rfl _ _ rfl (A + 3) _ (kdS ds xs pre) (i3 : Int) rfl hoi5 w3.heap.size 1 rfl ?_ ?_ ?_ ?_
            · exact ((Bz.new w3 #[Value.int .i64 (i3 : Int)] 2).cell 0)
            · have := HNL.out
              omega
            · have := HU.out.sz
              have := hk3.2.2
              simp at this ⊢
              omega
            intro gg cap w4 ho4 hg4 hgg
            rw [hkdl] at ho4 ⊢
            have hkb4 : Bz w4 (A + 1) #[Value.slice ka pre.length kc] 52 := (hg4.block (A + 1) (by have := hkb3.lt; simp; omega) (fun e => by have := (HK2.out.lt e.symm).1; omega)).trans (hkb3.later ((Below.refl _ _).alloc (Nat.le_refl _) _))
            have r4 := hkb4.cell 0
            have g4 := hkb4.froz 0
            simp at r4
            refine hK _ _ ?_
            clear hK K
            refine wpAnyIn_ready (rs := [7]) (by kernel_rfl) (by simp) ?_
            refine AllReadyIn.cons rfl (fun K hK => ?_) AllReadyIn.nil
            go_simp
            refine hK _ _ ?_
            clear hK K
            refine wpAnyIn_done (by kernel_rfl) ?_ _
            gi_wp2
            rw [hsz]
            exact un_end hwA hw1A hgA hbA HU.out XK.out HK2.out HKL.out har3 hl3 hi3 hb3 hk3 hnw3 ho4 hg4 hgg
        refine AllReadyIn.cons rfl (fun K hK => ?_) ?_
        · go_simp
          refine hK _ _ ?_
          clear hK K
          refine wpAnyIn_ready (rs := [0, 2]) (by kernel_rfl) (by simp) ?_
          refine AllReadyIn.cons rfl (fun K hK => ?_) ?_
          · go_simp
            refine hK _ _ ?_
            clear hK K
            refine wpAnyIn_ready (rs := [2]) (by kernel_rfl) (by simp) ?_
            refine AllReadyIn.cons rfl (fun K hK => ?_) AllReadyIn.nil
            go_simp
            refine hK _ _ ?_
            clear hK K
            refine wpAnyIn_ready (rs := [4]) (by kernel_rfl) (by simp) ?_
            refine AllReadyIn.cons rfl (fun K hK => ?_) AllReadyIn.nil
            go_simp
            refine ⟨trivial, (CallsIn.inRound l (callsIn_wide.2 HCALL.out)).mono ?_⟩
            rintro e w3 ⟨v3, D3, l3, i3, rfl, har3, hl3, hi3, hb3, hk3, hnw3⟩
            have hkb3 : Bz w3 (A + 1) #[Value.slice ka pre.length kc] 52 := (hk3.1 _ _ _ _ (by decide) (by decide) XK.out).trans XK.out
            have r3 := hkb3.cell 0
            simp at r3
            have r5 : (w3.alloc (Obj.cells #[Value.int .i64 (i3 : Int)] 2)).cell? ⟨A + 1, 0, none⟩ = some (Value.slice ka pre.length kc) := (hkb3.later ((Below.refl _ _).alloc (Nat.le_refl _) _)).cell 0
            have hoi5 : OI (w3.alloc (Obj.cells #[Value.int .i64 (i3 : Int)] 2)) (A + 3) (.slice ka pre.length kc) (kdS ds xs pre) := (HK2.out.move (w' := w3) fun b hb => by
              obtain ⟨cur, hc⟩ := HK2.out.typed9 hb
              exact hk3.1 _ _ _ _ (by decide) (by decide) hc).later ((Below.refl _ _).alloc (Nat.le_refl _) _)
            simp only []
            refine hK _ _ ?_
            clear hK K
            refine wpAnyIn_ready (rs := [5]) (by kernel_rfl) (by simp) ?_
            refine AllReadyIn.cons rfl (fun K hK => ?_) AllReadyIn.nil
            go_simp
            refine hK _ _ ?_
            clear hK K
            refine wpAnyIn_ready (rs := [6]) (by kernel_rfl) (by simp) ?_
            refine AllReadyIn.cons rfl (fun K hK => ?_) AllReadyIn.nil
            refine stepIn_appI _ rfl _ _ rfl (A + 3) _ (kdS ds xs pre) (i3 : Int) rfl hoi5 w3.heap.size 1 rfl ?_ ?_ ?_ ?_
            · exact ((Bz.new w3 #[Value.int .i64 (i3 : Int)] 2).cell 0)
            · have := HNL.out
              omega
            · have := HU.out.sz
              have := hk3.2.2
              simp at this ⊢
              omega
            intro gg cap w4 ho4 hg4 hgg
            rw [hkdl] at ho4 ⊢
            have hkb4 : Bz w4 (A + 1) #[Value.slice ka pre.length kc] 52 := (hg4.block (A + 1) (by have := hkb3.lt; simp; omega) (fun e => by have := (HK2.out.lt e.symm).1; omega)).trans (hkb3.later ((Below.refl _ _).alloc (Nat.le_refl _) _))
            have r4 := hkb4.cell 0
            have g4 := hkb4.froz 0
            simp at r4
            refine hK _ _ ?_
            clear hK K
            refine wpAnyIn_ready (rs := [7]) (by kernel_rfl) (by simp) ?_
            refine AllReadyIn.cons rfl (fun K hK => ?_) AllReadyIn.nil
            go_simp
            refine hK _ _ ?_
            clear hK K
            refine wpAnyIn_done (by kernel_rfl) ?_ _
            gi_wp2
            rw [hsz]
            exact un_end hwA hw1A hgA hbA HU.out XK.out HK2.out HKL.out har3 hl3 hi3 hb3 hk3 hnw3 ho4 hg4 hgg
          refine AllReadyIn.cons rfl (fun K hK => ?_) AllReadyIn.nil
          · go_simp
            refine hK _ _ ?_
            clear hK K
            refine wpAnyIn_ready (rs := [0, 4]) (by kernel_rfl) (by simp) ?_
            refine AllReadyIn.cons rfl (fun K hK => ?_) ?_
            · go_simp
              refine hK _ _ ?_
              clear hK K
              refine wpAnyIn_ready (rs := [4]) (by kernel_rfl) (by simp) ?_
              refine AllReadyIn.cons rfl (fun K hK => ?_) AllReadyIn.nil
              go_simp
              refine ⟨trivial, (CallsIn.inRound l (callsIn_wide.2 HCALL.out)).mono ?_⟩
              rintro e w3 ⟨v3, D3, l3, i3, rfl, har3, hl3, hi3, hb3, hk3, hnw3⟩
              have hkb3 : Bz w3 (A + 1) #[Value.slice ka pre.length kc] 52 := (hk3.1 _ _ _ _ (by decide) (by decide) XK.out).trans XK.out
              have r3 := hkb3.cell 0
              simp at r3
              have r5 : (w3.alloc (Obj.cells #[Value.int .i64 (i3 : Int)] 2)).cell? ⟨A + 1, 0, none⟩ = some (Value.slice ka pre.length kc) := (hkb3.later ((Below.refl _ _).alloc (Nat.le_refl _) _)).cell 0
              have hoi5 : OI (w3.alloc (Obj.cells #[Value.int .i64 (i3 : Int)] 2)) (A + 3) (.slice ka pre.length kc) (kdS ds xs pre) := (HK2.out.move (w' := w3) fun b hb => by
                obtain ⟨cur, hc⟩ := HK2.out.typed9 hb
                exact hk3.1 _ _ _ _ (by decide) (by decide) hc).later ((Below.refl _ _).alloc (Nat.le_refl _) _)
              simp only []
              refine hK _ _ ?_
              clear hK K
              refine wpAnyIn_ready (rs := [5]) (by kernel_rfl) (by simp) ?_
              refine AllReadyIn.cons rfl (fun K hK => ?_) AllReadyIn.nil
              go_simp
              refine hK _ _ ?_
              clear hK K
              refine wpAnyIn_ready (rs := [6]) (by kernel_rfl) (by simp) ?_
              refine AllReadyIn.cons rfl (fun K hK => ?_) AllReadyIn.nil
              refine stepIn_appI _ rfl _ _ rfl (A + 3) _ (kdS ds xs pre) (i3 : Int) rfl hoi5 w3.heap.size 1 rfl ?_ ?_ ?_ ?_
              · exact ((Bz.new w3 #[Value.int .i64 (i3 : Int)] 2).cell 0)
              · have := HNL.out
                omega
              · have := HU.out.sz
                have := hk3.2.2
                simp at this ⊢
                omega
              intro gg cap w4 ho4 hg4 hgg
              rw [hkdl] at ho4 ⊢
              have hkb4 : Bz w4 (A + 1) #[Value.slice ka pre.length kc] 52 := (hg4.block (A + 1) (by have := hkb3.lt; simp; omega) (fun e => by have := (HK2.out.lt e.symm).1; omega)).trans (hkb3.later ((Below.refl _ _).alloc (Nat.le_refl _) _))
              have r4 := hkb4.cell 0
              have g4 := hkb4.froz 0
              simp at r4
              refine hK _ _ ?_
              clear hK K
              refine wpAnyIn_ready (rs := [7]) (by kernel_rfl) (by simp) ?_
              refine AllReadyIn.cons rfl (fun K hK => ?_) AllReadyIn.nil
              go_simp
              refine hK _ _ ?_
              clear hK K
              refine wpAnyIn_done (by kernel_rfl) ?_ _
              gi_wp2
              rw [hsz]
              exact un_end hwA hw1A hgA hbA HU.out XK.out HK2.out HKL.out har3 hl3 hi3 hb3 hk3 hnw3 ho4 hg4 hgg
            refine AllReadyIn.cons rfl (fun K hK => ?_) AllReadyIn.nil
            · go_simp
              refine ⟨trivial, (CallsIn.inRound l (callsIn_wide.2 HCALL.out)).mono ?_⟩
              rintro e w3 ⟨v3, D3, l3, i3, rfl, har3, hl3, hi3, hb3, hk3, hnw3⟩
              have hkb3 : Bz w3 (A + 1) #[Value.slice ka pre.length kc] 52 := (hk3.1 _ _ _ _ (by decide) (by decide) XK.out).trans XK.out
              have r3 := hkb3.cell 0
              simp at r3
              have r5 : (w3.alloc (Obj.cells #[Value.int .i64 (i3 : Int)] 2)).cell? ⟨A + 1, 0, none⟩ = some (Value.slice ka pre.length kc) := (hkb3.later ((Below.refl _ _).alloc (Nat.le_refl _) _)).cell 0
              have hoi5 : OI (w3.alloc (Obj.cells #[Value.int .i64 (i3 : Int)] 2)) (A + 3) (.slice ka pre.length kc) (kdS ds xs pre) := (HK2.out.move (w' := w3) fun b hb => by
                obtain ⟨cur, hc⟩ := HK2.out.typed9 hb
                exact hk3.1 _ _ _ _ (by decide) (by decide) hc).later ((Below.refl _ _).alloc (Nat.le_refl _) _)
              simp only []
              refine hK _ _ ?_
              clear hK K
              refine wpAnyIn_ready (rs := [0, 5]) (by kernel_rfl) (by simp) ?_
              refine AllReadyIn.cons rfl (fun K hK => ?_) ?_
              · go_simp
                refine hK _ _ ?_
                clear hK K
                refine wpAnyIn_ready (rs := [5]) (by kernel_rfl) (by simp) ?_
                refine AllReadyIn.cons rfl (fun K hK => ?_) AllReadyIn.nil
                go_simp
                refine hK _ _ ?_
                clear hK K
                refine wpAnyIn_ready (rs := [6]) (by kernel_rfl) (by simp) ?_
                refine AllReadyIn.cons rfl (fun K hK => ?_) AllReadyIn.nil
                refine stepIn_appI _ rfl _ _ rfl (A + 3) _ (kdS ds xs pre) (i3 : Int) rfl hoi5 w3.heap.size 1 rfl ?_ ?_ ?_ ?_
                · exact ((Bz.new w3 #[Value.int .i64 (i3 : Int)] 2).cell 0)
                · have := HNL.out
                  omega
                · have := HU.out.sz
                  have := hk3.2.2
                  simp at this ⊢
                  omega
                intro gg cap w4 ho4 hg4 hgg
                rw [hkdl] at ho4 ⊢
                have hkb4 : Bz w4 (A + 1) #[Value.slice ka pre.length kc] 52 := (hg4.block (A + 1) (by have := hkb3.lt; simp; omega) (fun e => by have := (HK2.out.lt e.symm).1; omega)).trans (hkb3.later ((Below.refl _ _).alloc (Nat.le_refl _) _))
                have r4 := hkb4.cell 0
                have g4 := hkb4.froz 0
                simp at r4
                refine hK _ _ ?_
                clear hK K
                refine wpAnyIn_ready (rs := [7]) (by kernel_rfl) (by simp) ?_
                refine AllReadyIn.cons rfl (fun K hK => ?_) AllReadyIn.nil
                go_simp
                refine hK _ _ ?_
                clear hK K
                refine wpAnyIn_done (by kernel_rfl) ?_ _
                gi_wp2
                rw [hsz]
                exact un_end hwA hw1A hgA hbA HU.out XK.out HK2.out HKL.out har3 hl3 hi3 hb3 hk3 hnw3 ho4 hg4 hgg
              refine AllReadyIn.cons rfl (fun K hK => ?_) AllReadyIn.nil
              · go_simp
                refine hK _ _ ?_
                clear hK K
                refine wpAnyIn_ready (rs := [0]) (by kernel_rfl) (by simp) ?_
                refine AllReadyIn.cons rfl (fun K hK => ?_) AllReadyIn.nil
                go_simp
                refine hK _ _ ?_
                clear hK K
                refine wpAnyIn_ready (rs := [6]) (by kernel_rfl) (by simp) ?_
                refine AllReadyIn.cons rfl (fun K hK => ?_) AllReadyIn.nil
                refine stepIn_appI _ rfl _ _ rfl (A + 3) _ (kdS ds xs pre) (i3 : Int) rfl hoi5 w3.heap.size 1 rfl ?_ ?_ ?_ ?_
                · exact ((Bz.new w3 #[Value.int .i64 (i3 : Int)] 2).cell 0)
                · have := HNL.out
                  omega
                · have := HU.out.sz
                  have := hk3.2.2
                  simp at this ⊢
                  omega
                intro gg cap w4 ho4 hg4 hgg
                rw [hkdl] at ho4 ⊢
                have hkb4 : Bz w4 (A + 1) #[Value.slice ka pre.length kc] 52 := (hg4.block (A + 1) (by have := hkb3.lt; simp; omega) (fun e => by have := (HK2.out.lt e.symm).1; omega)).trans (hkb3.later ((Below.refl _ _).alloc (Nat.le_refl _) _))
                have r4 := hkb4.cell 0
                have g4 := hkb4.froz 0
                simp at r4
                refine hK _ _ ?_
                clear hK K
                refine wpAnyIn_ready (rs := [7]) (by kernel_rfl) (by simp) ?_
                refine AllReadyIn.cons rfl (fun K hK => ?_) AllReadyIn.nil
                go_simp
                refine hK _ _ ?_
                clear hK K
                refine wpAnyIn_done (by kernel_rfl) ?_ _
                gi_wp2
                rw [hsz]
                exact un_end hwA hw1A hgA hbA HU.out XK.out HK2.out HKL.out har3 hl3 hi3 hb3 hk3 hnw3 ho4 hg4 hgg
        refine AllReadyIn.cons rfl (fun K hK => ?_) AllReadyIn.nil
        · go_simp
          refine hK _ _ ?_
          clear hK K
          refine wpAnyIn_ready (rs := [0, 1]) (by kernel_rfl) (by simp) ?_
          refine AllReadyIn.cons rfl (fun K hK => ?_) ?_
          · go_simp
            refine hK _ _ ?_
            clear hK K
            refine wpAnyIn_ready (rs := [1]) (by kernel_rfl) (by simp) ?_
            refine AllReadyIn.cons rfl (fun K hK => ?_) AllReadyIn.nil
            go_simp
            refine hK _ _ ?_
            clear hK K
            refine wpAnyIn_ready (rs := [4]) (by kernel_rfl) (by simp) ?_
            refine AllReadyIn.cons rfl (fun K hK => ?_) AllReadyIn.nil
            go_simp
            refine ⟨trivial, (CallsIn.inRound l (callsIn_wide.2 HCALL.out)).mono ?_⟩
            rintro e w3 ⟨v3, D3, l3, i3, rfl, har3, hl3, hi3, hb3, hk3, hnw3⟩
            have hkb3 : Bz w3 (A + 1) #[Value.slice ka pre.length kc] 52 := (hk3.1 _ _ _ _ (by decide) (by decide) XK.out).trans XK.out
            have r3 := hkb3.cell 0
            simp at r3
            have r5 : (w3.alloc (Obj.cells #[Value.int .i64 (i3 : Int)] 2)).cell? ⟨A + 1, 0, none⟩ = some (Value.slice ka pre.length kc) := (hkb3.later ((Below.refl _ _).alloc (Nat.le_refl _) _)).cell 0
            have hoi5 : OI (w3.alloc (Obj.cells #[Value.int .i64 (i3 : Int)] 2)) (A + 3) (.slice ka pre.length kc) (kdS ds xs pre) := (HK2.out.move (w' := w3) fun b hb => by
              obtain ⟨cur, hc⟩ := HK2.out.typed9 hb
              exact hk3.1 _ _ _ _ (by decide) (by decide) hc).later ((Below.refl _ _).alloc (Nat.le_refl _) _)
            simp only []
            refine hK _ _ ?_
            clear hK K
            refine wpAnyIn_ready (rs := [5]) (by kernel_rfl) (by simp) ?_
            refine AllReadyIn.cons rfl (fun K hK => ?_) AllReadyIn.nil
            go_simp
            refine hK _ _ ?_
            clear hK K
            refine wpAnyIn_ready (rs := [6]) (by kernel_rfl) (by simp) ?_
            refine AllReadyIn.cons rfl (fun K hK => ?_) AllReadyIn.nil
            refine stepIn_appI _ rfl _ _ rfl (A + 3) _ (kdS ds xs pre) (i3 : Int) rfl hoi5 w3.heap.size 1 rfl ?_ ?_ ?_ ?_
            · exact ((Bz.new w3 #[Value.int .i64 (i3 : Int)] 2).cell 0)
            · have := HNL.out
              omega
            · have := HU.out.sz
              have := hk3.2.2
              simp at this ⊢
              omega
            intro gg cap w4 ho4 hg4 hgg
            rw [hkdl] at ho4 ⊢
            have hkb4 : Bz w4 (A + 1) #[Value.slice ka pre.length kc] 52 := (hg4.block (A + 1) (by have := hkb3.lt; simp; omega) (fun e => by have := (HK2.out.lt e.symm).1; omega)).trans (hkb3.later ((Below.refl _ _).alloc (Nat.le_refl _) _))
            have r4 := hkb4.cell 0
            have g4 := hkb4.froz 0
            simp at r4
            refine hK _ _ ?_
            clear hK K
            refine wpAnyIn_ready (rs := [7]) (by kernel_rfl) (by simp) ?_
            refine AllReadyIn.cons rfl (fun K hK => ?_) AllReadyIn.nil
            go_simp
            refine hK _ _ ?_
            clear hK K
            refine wpAnyIn_done (by kernel_rfl) ?_ _
            gi_wp2
            rw [hsz]
            exact un_end hwA hw1A hgA hbA HU.out XK.out HK2.out HKL.out har3 hl3 hi3 hb3 hk3 hnw3 ho4 hg4 hgg
          refine AllReadyIn.cons rfl (fun K hK => ?_) AllReadyIn.nil
          · go_simp
            refine hK _ _ ?_
            clear hK K
            refine wpAnyIn_ready (rs := [0, 4]) (by kernel_rfl) (by simp) ?_
            refine AllReadyIn.cons rfl (fun K hK => ?_) ?_
            · go_simp
              refine hK _ _ ?_
              clear hK K
              refine wpAnyIn_ready (rs := [4]) (by kernel_rfl) (by simp) ?_
              refine AllReadyIn.cons rfl (fun K hK => ?_) AllReadyIn.nil
              go_simp
              refine ⟨trivial, (CallsIn.inRound l (callsIn_wide.2 HCALL.out)).mono ?_⟩
              rintro e w3 ⟨v3, D3, l3, i3, rfl, har3, hl3, hi3, hb3, hk3, hnw3⟩
              have hkb3 : Bz w3 (A + 1) #[Value.slice ka pre.length kc] 52 := (hk3.1 _ _ _ _ (by decide) (by decide) XK.out).trans XK.out
              have r3 := hkb3.cell 0
              simp at r3
              have r5 : (w3.alloc (Obj.cells #[Value.int .i64 (i3 : Int)] 2)).cell? ⟨A + 1, 0, none⟩ = some (Value.slice ka pre.length kc) := (hkb3.later ((Below.refl _ _).alloc (Nat.le_refl _) _)).cell 0
              have hoi5 : OI (w3.alloc (Obj.cells #[Value.int .i64 (i3 : Int)] 2)) (A + 3) (.slice ka pre.length kc) (kdS ds xs pre) := (HK2.out.move (w' := w3) fun b hb => by
                obtain ⟨cur, hc⟩ := HK2.out.typed9 hb
                exact hk3.1 _ _ _ _ (by decide) (by decide) hc).later ((Below.refl _ _).alloc (Nat.le_refl _) _)
              simp only []
              refine hK _ _ ?_
              clear hK K
              refine wpAnyIn_ready (rs := [5]) (by kernel_rfl) (by simp) ?_
              refine AllReadyIn.cons rfl (fun K hK => ?_) AllReadyIn.nil
              go_simp
              refine hK _ _ ?_
              clear hK K
              refine wpAnyIn_ready (rs := [6]) (by kernel_rfl) (by simp) ?_
              refine AllReadyIn.cons rfl (fun K hK => ?_) AllReadyIn.nil
              refine stepIn_appI _ rfl _ _ rfl (A + 3) _ (kdS ds xs pre) (i3 : Int) rfl hoi5 w3.heap.size 1 rfl ?_ ?_ ?_ ?_
              · exact ((Bz.new w3 #[Value.int .i64 (i3 : Int)] 2).cell 0)
              · have := HNL.out
                omega
              · have := HU.out.sz
                have := hk3.2.2
                simp at this ⊢
                omega
              intro gg cap w4 ho4 hg4 hgg
              rw [hkdl] at ho4 ⊢
              have hkb4 : Bz w4 (A + 1) #[Value.slice ka pre.length kc] 52 := (hg4.block (A + 1) (by have := hkb3.lt; simp; omega) (fun e => by have := (HK2.out.lt e.symm).1; omega)).trans (hkb3.later ((Below.refl _ _).alloc (Nat.le_refl _) _))
              have r4 := hkb4.cell 0
              have g4 := hkb4.froz 0
              simp at r4
              refine hK _ _ ?_
              clear hK K
              refine wpAnyIn_ready (rs := [7]) (by kernel_rfl) (by simp) ?_
              refine AllReadyIn.cons rfl (fun K hK => ?_) AllReadyIn.nil
              go_simp
              refine hK _ _ ?_
              clear hK K
              refine wpAnyIn_done (by kernel_rfl) ?_ _
              gi_wp2
              rw [hsz]
              exact un_end hwA hw1A hgA hbA HU.out XK.out HK2.out HKL.out har3 hl3 hi3 hb3 hk3 hnw3 ho4 hg4 hgg
            refine AllReadyIn.cons rfl (fun K hK => ?_) AllReadyIn.nil
            · go_simp
              refine ⟨trivial, (CallsIn.inRound l (callsIn_wide.2 HCALL.out)).mono ?_⟩
              rintro e w3 ⟨v3, D3, l3, i3, rfl, har3, hl3, hi3, hb3, hk3, hnw3⟩
              have hkb3 : Bz w3 (A + 1) #[Value.slice ka pre.length kc] 52 := (hk3.1 _ _ _ _ (by decide) (by decide) XK.out).trans XK.out
              have r3 := hkb3.cell 0
              simp at r3
              have r5 : (w3.alloc (Obj.cells #[Value.int .i64 (i3 : Int)] 2)).cell? ⟨A + 1, 0, none⟩ = some (Value.slice ka pre.length kc) := (hkb3.later ((Below.refl _ _).alloc (Nat.le_refl _) _)).cell 0
              have hoi5 : OI (w3.alloc (Obj.cells #[Value.int .i64 (i3 : Int)] 2)) (A + 3) (.slice ka pre.length kc) (kdS ds xs pre) := (HK2.out.move (w' := w3) fun b hb => by
                obtain ⟨cur, hc⟩ := HK2.out.typed9 hb
                exact hk3.1 _ _ _ _ (by decide) (by decide) hc).later ((Below.refl _ _).alloc (Nat.le_refl _) _)
              simp only []
              refine hK _ _ ?_
              clear hK K
              refine wpAnyIn_ready (rs := [0, 5]) (by kernel_rfl) (by simp) ?_
              refine AllReadyIn.cons rfl (fun K hK => ?_) ?_
              · go_simp
                refine hK _ _ ?_
                clear hK K
                refine wpAnyIn_ready (rs := [5]) (by kernel_rfl) (by simp) ?_
                refine AllReadyIn.cons rfl (fun K hK => ?_) AllReadyIn.nil
                go_simp
                refine hK _ _ ?_
                clear hK K
                refine wpAnyIn_ready (rs := [6]) (by kernel_rfl) (by simp) ?_
                refine AllReadyIn.cons rfl (fun K hK => ?_) AllReadyIn.nil
                refine stepIn_appI _ rfl _ _ rfl (A + 3) _ (kdS ds xs pre) (i3 : Int) rfl hoi5 w3.heap.size 1 rfl ?_ ?_ ?_ ?_
                · exact ((Bz.new w3 #[Value.int .i64 (i3 : Int)] 2).cell 0)
                · have := HNL.out
                  omega
                · have := HU.out.sz
                  have := hk3.2.2
                  simp at this ⊢
                  omega
                intro gg cap w4 ho4 hg4 hgg
                rw [hkdl] at ho4 ⊢
                have hkb4 : Bz w4 (A + 1) #[Value.slice ka pre.length kc] 52 := (hg4.block (A + 1) (by have := hkb3.lt; simp; omega) (fun e => by have := (HK2.out.lt e.symm).1; omega)).trans (hkb3.later ((Below.refl _ _).alloc (Nat.le_refl _) _))
                have r4 := hkb4.cell 0
                have g4 := hkb4.froz 0
                simp at r4
                refine hK _ _ ?_
                clear hK K
                refine wpAnyIn_ready (rs := [7]) (by kernel_rfl) (by simp) ?_
                refine AllReadyIn.cons rfl (fun K hK => ?_) AllReadyIn.nil
                go_simp
                refine hK _ _ ?_
                clear hK K
                refine wpAnyIn_done (by kernel_rfl) ?_ _
                gi_wp2
                rw [hsz]
                exact un_end hwA hw1A hgA hbA HU.out XK.out HK2.out HKL.out har3 hl3 hi3 hb3 hk3 hnw3 ho4 hg4 hgg
              refine AllReadyIn.cons rfl (fun K hK => ?_) AllReadyIn.nil
              · go_simp
                refine hK _ _ ?_
                clear hK K
                refine wpAnyIn_ready (rs := [0]) (by kernel_rfl) (by simp) ?_
                refine AllReadyIn.cons rfl (fun K hK => ?_) AllReadyIn.nil
                go_simp
                refine hK _ _ ?_
                clear hK K
                refine wpAnyIn_ready (rs := [6]) (by kernel_rfl) (by simp) ?_
                refine AllReadyIn.cons rfl (fun K hK => ?_) AllReadyIn.nil
                refine stepIn_appI _ rfl _ _ rfl (A + 3) _ (kdS ds xs pre) (i3 : Int) rfl hoi5 w3.heap.size 1 rfl ?_ ?_ ?_ ?_
                · exact ((Bz.new w3 #[Value.int .i64 (i3 : Int)] 2).cell 0)
                · have := HNL.out
                  omega
                · have := HU.out.sz
                  have := hk3.2.2
                  simp at this ⊢
                  omega
                intro gg cap w4 ho4 hg4 hgg
                rw [hkdl] at ho4 ⊢
                have hkb4 : Bz w4 (A + 1) #[Value.slice ka pre.length kc] 52 := (hg4.block (A + 1) (by have := hkb3.lt; simp; omega) (fun e => by have := (HK2.out.lt e.symm).1; omega)).trans (hkb3.later ((Below.refl _ _).alloc (Nat.le_refl _) _))
                have r4 := hkb4.cell 0
                have g4 := hkb4.froz 0
                simp at r4
                refine hK _ _ ?_
                clear hK K
                refine wpAnyIn_ready (rs := [7]) (by kernel_rfl) (by simp) ?_
                refine AllReadyIn.cons rfl (fun K hK => ?_) AllReadyIn.nil
                go_simp
                refine hK _ _ ?_
                clear hK K
                refine wpAnyIn_done (by kernel_rfl) ?_ _
                gi_wp2
                rw [hsz]
                exact un_end hwA hw1A hgA hbA HU.out XK.out HK2.out HKL.out har3 hl3 hi3 hb3 hk3 hnw3 ho4 hg4 hgg
    case done =>
      rintro D ys W hD rfl hU hK
      have HU := kide hU
      have HKD := kide hK
      obtain ⟨tv, tD, tl, ka, kc, hta, htl, hk1, hk2, hkl⟩ := hU.tk
      have d2 := hU.xa.cell 0
      have d3 := hk1.cell 0
      simp at d2 d3
      obtain ⟨ta, tc, rfl⟩ := hta.ts.form
      have HTA := kide hta
      have HTL := kide htl
      have HK1 := kide hk1
      have HK2 := kide hk2
      have HKL := kide hkl
      have hlb : (bwd n h0n n).length = n := by simp [bwd]
      rw [hlb] at d3 HK1 HK2 HKL
      have hall := cmS_all HN.out h0n
      have HALL := kide hall
      have q0 := hta.box.cell 0
      have q1 := hta.box.cell 1
      have hxr := hU.xr
      have XR9 := kide hU.xr
      have BL9 := kide hU.bl
      clear hU hK hta htl hk1 hk2 hkl hlb hall hxr
      obtain ⟨tn, htn⟩ : ∃ tn, tl.length = tn := ⟨_, rfl⟩
      rw [htn] at HTA q0
      have HTN := kide htn
      clear htn
      simp at q0 q1
      by_cases h1n : 1 < n
      · have h1i : (1 : Int) < (n : Int) := by omega
        have hkdl : (kdS ds xs (bwd n h0n n)).length = n := by unfold kdS; rw [List.length_map, (unfTo_len ds _).1, cmS_len, bwd_length]
        have hndl : (ndS ds xs (bwd n h0n n)).length ≤ 4000 := by
          have h8 := (unfTo_len ds (cmS xs (bwd n h0n n))).2.2
          rw [cmS_len, bwd_length] at h8
          have := HNL.out
          unfold ndS
          omega
        have hll : tl.length ≤ 100000 := by
          have h8 := (len_shAll (ns := ndS ds xs (bwd n h0n n)) (unfTo_ahead ds _)).1
          rw [← HTL.out, List.length_map] at h8
          omega
        have hcl := addNG_any s g (A + 3) W.heap.size (.slice ta tn tc) tD tl ⟨3, 0, 0, 0, 0, [], []⟩ ⟨3, 0, 0, 0, 0, [], (unfTo ds (cmS xs (bwd n h0n n))).2⟩ none none ka 0 0 0 kc (kdS ds xs (bwd n h0n n)) (ndS ds xs (bwd n h0n n)) w1 W BL9.out HTA.out (Rd.none0 _) (fun _ => rfl) (oi_ni HK2.out (by rw [hkdl]; omega)) (fun x hx => (HTA.out.ts.below x hx).1) (fun x hx p q hp hq e => HKL.out x hx p hp (by rw [oi_own HK2.out hq, e])) (by omega) BL9.out.size (Nat.le_refl _) (okN_plain 3 0 0 0 (in64c (by omega)) (in64c (by omega)) (in64c (by omega)) (in64c (by omega)) (fun j hj => by have h9 := kdS_rg ds xs _ j hj; omega) (by rw [hkdl]; have := HNL.out; omega)) hll rfl HTL.out
        rw [hkdl] at hcl
        have HCL := kide hcl
        clear hcl hkdl hndl hll
        gi_wp2
        refine ⟨trivial, (callsIn_wide.2 HCL.out).mono ?_⟩
        rintro e w3 ⟨v3, D3, l3, i3, rfl, har3, hl3, hi3, hb3, hk3, -⟩
        have XR3 : Hid (Bz w3 (b0 + 1) #[Value.slice none 0 0] 28) := (hk3.1 _ _ _ _ (by decide) (by decide) XR9.out).trans XR9.out
        have XA3 : Hid (Bz w3 A #[Value.pointer (some ⟨s, 0, none⟩)] 63) := (hk3.1 _ _ _ _ (by decide) (by decide) HU.out.xa).trans HU.out.xa
        have KD3 : Hid (w3.heap[D]? = some (Obj.deferred (some []))) := hk3.2.1 D _ rfl (fun e => by
          obtain ⟨es, ck, h9⟩ := own_isMapN HTA.out.mp
          rw [← e, HKD.out] at h9
          cases h9) HKD.out
        have HNN : Hid (l3.map Tg.ct = (shAll (unfN ds (xs.map Sg.ct))).1) := by
          show _ = _
          rw [hl3]
          unfold ndS unfN
          rw [HALL.out, if_pos (by rw [List.length_map, HN.out]; exact h1n)]
        have BL3 := kide hb3
        obtain ⟨ua, uc, rfl⟩ := har3.ts.form
        obtain ⟨un, hun⟩ : ∃ un, l3.length = un := ⟨_, rfl⟩
        have hq0 := har3.box.cell 0
        have HTS3 := kide har3.ts
        have HTN9 := kide hun
        rw [hun] at hq0 HTS3
        have d2' := XA3.out.cell 0
        simp at hq0 d2'
        clear har3 hl3 hi3 hb3 hk3 hun q0 q1 d2 d3
        have d9 := XR3.out.cell 0
        have f9 := XR3.out.froz 0
        simp at d9
        have zb := HB0.out
        by_cases hc4 : un ≤ 400
        · have h4i : ¬ (400 : Int) < (un : Int) := by omega
          have hR : R = ((l3).map Tg.ct, true) := by
            rw [← HRR.out, unfR, if_pos HFT.out, ← HNN.out, if_pos (by rw [List.length_map, HTN9.out]; exact hc4)]
          have B9 : Hid (Below w.heap.size w (w3.setCell ⟨b0 + 1, 0, none⟩ (Value.slice ua un uc))) := (B1.out.trans (BL3.out.mono hwA)).setCell (by simp only []; omega) _
          have y0 : (w3.setCell ⟨b0 + 1, 0, none⟩ (Value.slice ua un uc)).cell? ⟨b0 + 1, 0, none⟩ = some (Value.slice ua un uc) := (XR3.out.set 0 _).cell 0
          have hD9 : (w3.setCell ⟨b0 + 1, 0, none⟩ (Value.slice ua un uc)).heap[D]? = some (Obj.deferred (some [])) := (heap_setCell_other _ _ _ _ (fun e => by
            simp only [] at e
            have h8 := XR3.out
            unfold Bz at h8
            rw [← e, KD3.out] at h8
            cases h8)).trans KD3.out
          have Y0 := kide y0
          have HD9 := kide hD9
          have hts : Ts (w3.setCell ⟨b0 + 1, 0, none⟩ (Value.slice ua un uc)) w.heap.size (Value.slice ua un uc) (l3) := Ts.mono (ts_setU HTS3.out XR3.out (by decide) (by decide) (by decide) 0 _) hwA
          have HTS := kide hts
          clear y0 hD9 hts
          have hD7 : w.heap.size ≤ D := by omega
          gi_wp2
          have y0 := cell_putD (ob := .deferred none) Y0.out HD9.out
          try rw [hR]
          refine ⟨by simp, .inl ⟨_, _, rfl, run_takeDeferred HD9.out, ?_⟩⟩
          exact ⟨.tuple #[.agg #[Value.slice ua un uc], .bool true], by simp [results, Try.results10, go_sem, y0], ⟨_, l3, rfl, ts_putD HTS.out HD9.out, rfl, below_putD B9.out (by omega)⟩⟩
        · have h4i : (400 : Int) < (un : Int) := by omega
          have hR : R = ([], false) := by
            rw [← HRR.out, unfR, if_pos HFT.out, ← HNN.out, if_neg (by rw [List.length_map, HTN9.out]; exact hc4)]
          have B9 : Hid (Below w.heap.size w (w3.setCell ⟨b0 + 1, 0, none⟩ (Value.slice none 0 0))) := (B1.out.trans (BL3.out.mono hwA)).setCell (by simp only []; omega) _
          have y0 : (w3.setCell ⟨b0 + 1, 0, none⟩ (Value.slice none 0 0)).cell? ⟨b0 + 1, 0, none⟩ = some (Value.slice none 0 0) := (XR3.out.set 0 _).cell 0
          have hD9 : (w3.setCell ⟨b0 + 1, 0, none⟩ (Value.slice none 0 0)).heap[D]? = some (Obj.deferred (some [])) := (heap_setCell_other _ _ _ _ (fun e => by
            simp only [] at e
            have h8 := XR3.out
            unfold Bz at h8
            rw [← e, KD3.out] at h8
            cases h8)).trans KD3.out
          have Y0 := kide y0
          have HD9 := kide hD9
          clear y0 hD9
          have hD7 : w.heap.size ≤ D := by omega
          gi_wp2
          have y0 := cell_putD (ob := .deferred none) Y0.out HD9.out
          try rw [hR]
          refine ⟨by simp, .inl ⟨_, _, rfl, run_takeDeferred HD9.out, ?_⟩⟩
          exact ⟨.tuple #[.agg #[.slice none 0 0], .bool false], by simp [results, Try.results10, go_sem, y0], ⟨.slice none 0 0, [], rfl, Ts.nil _ _, rfl, below_putD B9.out (by omega)⟩⟩
      · have h1i : ¬ (1 : Int) < (n : Int) := by omega
        have HTN9 := HTN
        have HNN : Hid (tl.map Tg.ct = (shAll (unfN ds (xs.map Sg.ct))).1) := by
          show _ = _
          rw [HTL.out]
          unfold ndS unfN
          rw [HALL.out, if_neg (by rw [List.length_map, HN.out]; exact h1n)]
        have HTS9 := kide HTA.out.ts
        have d9 := XR9.out.cell 0
        have f9 := XR9.out.froz 0
        simp at d9
        have zb := HB0.out
        by_cases hc4 : tn ≤ 400
        · have h4i : ¬ (400 : Int) < (tn : Int) := by omega
          have hR : R = ((tl).map Tg.ct, true) := by
            rw [← HRR.out, unfR, if_pos HFT.out, ← HNN.out, if_pos (by rw [List.length_map, HTN9.out]; exact hc4)]
          have B9 : Hid (Below w.heap.size w (W.setCell ⟨b0 + 1, 0, none⟩ (Value.slice ta tn tc))) := (B1.out.trans (BL9.out.mono hwA)).setCell (by simp only []; omega) _
          have y0 : (W.setCell ⟨b0 + 1, 0, none⟩ (Value.slice ta tn tc)).cell? ⟨b0 + 1, 0, none⟩ = some (Value.slice ta tn tc) := (XR9.out.set 0 _).cell 0
          have hD9 : (W.setCell ⟨b0 + 1, 0, none⟩ (Value.slice ta tn tc)).heap[D]? = some (Obj.deferred (some [])) := (heap_setCell_other _ _ _ _ (fun e => by
            simp only [] at e
            have h8 := XR9.out
            unfold Bz at h8
            rw [← e, HKD.out] at h8
            cases h8)).trans HKD.out
          have Y0 := kide y0
          have HD9 := kide hD9
          have hts : Ts (W.setCell ⟨b0 + 1, 0, none⟩ (Value.slice ta tn tc)) w.heap.size (Value.slice ta tn tc) (tl) := Ts.mono (ts_setU HTS9.out XR9.out (by decide) (by decide) (by decide) 0 _) hwA
          have HTS := kide hts
          clear y0 hD9 hts
          have hD7 : w.heap.size ≤ D := by omega
          gi_wp2
          have y0 := cell_putD (ob := .deferred none) Y0.out HD9.out
          try rw [hR]
          refine ⟨by simp, .inl ⟨_, _, rfl, run_takeDeferred HD9.out, ?_⟩⟩
          exact ⟨.tuple #[.agg #[Value.slice ta tn tc], .bool true], by simp [results, Try.results10, go_sem, y0], ⟨_, tl, rfl, ts_putD HTS.out HD9.out, rfl, below_putD B9.out (by omega)⟩⟩
        · have h4i : (400 : Int) < (tn : Int) := by omega
          have hR : R = ([], false) := by
            rw [← HRR.out, unfR, if_pos HFT.out, ← HNN.out, if_neg (by rw [List.length_map, HTN9.out]; exact hc4)]
          have B9 : Hid (Below w.heap.size w (W.setCell ⟨b0 + 1, 0, none⟩ (Value.slice none 0 0))) := (B1.out.trans (BL9.out.mono hwA)).setCell (by simp only []; omega) _
          have y0 : (W.setCell ⟨b0 + 1, 0, none⟩ (Value.slice none 0 0)).cell? ⟨b0 + 1, 0, none⟩ = some (Value.slice none 0 0) := (XR9.out.set 0 _).cell 0
          have hD9 : (W.setCell ⟨b0 + 1, 0, none⟩ (Value.slice none 0 0)).heap[D]? = some (Obj.deferred (some [])) := (heap_setCell_other _ _ _ _ (fun e => by
            simp only [] at e
            have h8 := XR9.out
            unfold Bz at h8
            rw [← e, HKD.out] at h8
            cases h8)).trans HKD.out
          have Y0 := kide y0
          have HD9 := kide hD9
          clear y0 hD9
          have hD7 : w.heap.size ≤ D := by omega
          gi_wp2
          have y0 := cell_putD (ob := .deferred none) Y0.out HD9.out
          try rw [hR]
          refine ⟨by simp, .inl ⟨_, _, rfl, run_takeDeferred HD9.out, ?_⟩⟩
          exact ⟨.tuple #[.agg #[.slice none 0 0], .bool false], by simp [results, Try.results10, go_sem, y0], ⟨.slice none 0 0, [], rfl, Ts.nil _ _, rfl, below_putD B9.out (by omega)⟩⟩

end Go.Proofs.Ytljcfokiocbgoaa
