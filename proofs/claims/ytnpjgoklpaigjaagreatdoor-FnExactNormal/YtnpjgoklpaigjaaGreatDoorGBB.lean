/- Several texts in one. -/
import Derived.Test.YtnpjgoklpaigjaaGreatDoorGAB
import Derived.RangeFuncNested
import Derived.RangeFuncBound
import Derived.RangeFuncCalls
import Derived.Shelf.RegionOpen
import Derived.Deep.AppendLies
import Derived.Test.YtnpjgoklpaigjaaGreatDoorRXI
import Derived.Test.YtnpjgoklpaigjaaGreatDoorGBA
import Derived.Test.YtnpjgoklpaigjaaGreatDoorUFG
import Derived.Test.YtnpjgoklpaigjaaGreatDoorGAZ
import Derived.Test.YtnpjgoklpaigjaaGreatDoorGAT
import Derived.Test.YtnpjgoklpaigjaaGreatDoorGAM
import Derived.Test.YtnpjgoklpaigjaaGreatDoorGAY
import Derived.Test.YtnpjgoklpaigjaaGreatDoorGAR
import Derived.Test.YtnpjgoklpaigjaaGreatDoorGAP
import Derived.Test.YtnpjgoklpaigjaaGreatDoorGAQ
namespace Go.Proofs.YtnpjgoklpaigjaaGreatDoor
set_option linter.unusedVariables false
set_option linter.unusedSimpArgs false
open Go.RowKit Go.Shelf Go.WideMaps Go.Maps Go.MapKept Go.ChangeMaps
attribute [local go_sem] Oper.semAt_some
theorem oi_ni {w : World} {B : Nat} {a : Option Addr} {n c : Nat} {l : List Int} (h : OI w B (.slice a n c) l) (h0 : 0 < l.length) : Ni w B a l := by
 rcases h.2 with ⟨h1, h2⟩ | ⟨g, cap, cur, e, hg, hh, hc1, hc2, hsz, hcur⟩
 ·omega
 ·cases e
  refine .inr ⟨g, cur, rfl, hg, hh, fun i hi => ?_⟩
  have h3 : (cur.toList.take (l.length * 1))[i]? = (i64s l).toList[i]? := by rw [hcur]
  rw [List.getElem?_take, if_pos (by omega)] at h3
  simp only [Array.getElem?_toList] at h3
  rw [h3, i64s_get _ _ hi]
theorem oi_own {w : World} {B : Nat} {a : Option Addr} {n c : Nat} {l : List Int} (h : OI w B (.slice a n c) l) {q : Addr} (e : a = some q) : (Value.slice a n c).ownBlock = some q.block := by
 rcases h.2 with ⟨h1, h2⟩ | ⟨g, cap, cur, e', hg, -⟩
 ·cases h1; cases e
 ·cases e'; cases e; rfl
theorem kdS_rg (ds : List Dc) (xs : List Sg) {n : Nat} (pre : List (Fin n)) : ∀ j ∈ kdS ds xs pre, 0 ≤ j ∧ j < ((ndS ds xs pre).length : Int) := by
 intro j hj
 unfold kdS at hj
 obtain ⟨i, hi, rfl⟩ := List.mem_map.1 hj
 have h1 := unfTo_kids ds (cmS xs pre) i hi
 obtain ⟨h2, h3, h4⟩ := len_shAll (ns := ndS ds xs pre) (unfTo_ahead ds _)
 have hlt : i.toNat < (shAll (ndS ds xs pre)).2.length := by rw [h3]; unfold ndS; omega
 have h5 := h4 _ (List.getElem_mem hlt)
 rw [List.getD_eq_getElem?_getD, List.getElem?_eq_getElem hlt]
 simp only [Option.getD_some]
 omega
theorem ts_putD {w : World} {lo D : Nat} {v : Value} {l : List Tg} {y : Option (List Deferred)} {o : Obj} (h : Ts w lo v l) (hd : w.heap[D]? = some (.deferred y)) : Ts (w.putObj D o) lo v l := by
 have keep : ∀ (k : Nat) (cur : Array Value) (t : TypeId) (fz : Nat × Nat), w.heap[k]? = some (.cells cur t fz) → (w.putObj D o).heap[k]? = w.heap[k]? := fun k cur t fz hc => World.putObj_heap_other (fun e => by subst e; rw [hd] at hc; cases hc)
 exact ⟨h.row.move fun b hb => by obtain ⟨c, hc⟩ := h.row.typed hb; exact keep _ _ _ _ hc, fun x hx => (h.wn x hx).kept fun k cur hc => keep _ _ _ _ hc, fun x hx => (h.kn x hx).kept fun k cur hc => keep _ _ _ _ hc, h.wd, h.kd⟩
theorem below_putD {w u : World} {n D : Nat} {o : Obj} (h : Below n w u) (hd : n ≤ D) : Below n w (u.putObj D o) := h.trans ⟨rfl, rfl, rfl, by simp, fun k hk => World.putObj_heap_other (fun e => by omega)⟩
theorem cell_putD {w : World} {D b o : Nat} {y : Option (List Deferred)} {ob : Obj} {x : Value} (h : w.cell? ⟨b, o, none⟩ = some x) (hd : w.heap[D]? = some (.deferred y)) : (w.putObj D ob).cell? ⟨b, o, none⟩ = some x := by
 have hne : b ≠ D := fun e => by
  subst e
  simp only [World.cell?, hd] at h
  cases h
 simp only [World.cell?] at h ⊢
 rw [World.putObj_heap_other (by first | exact hne | exact hne.symm)]
 exact h
theorem oi_ne {w : World} {b B : Nat} {cs : Array Value} {t : TypeId} {v : Value} {l : List Int} (h : Bz w b cs t) (ho : OI w B v l) (ht : t ≠ 2) (e : some b = v.ownBlock) : False := by
 obtain ⟨cur, hc⟩ := ho.typed9 e.symm
 unfold Bz at h
 rw [h] at hc
 cases hc
 exact ht rfl
theorem step_appIL (w : World) {ops : Array Oper} {o : Oper} {a : Act} {K : Act → World → Prop} {Q : Exit → Act → World → Prop} {E : Prop} (hgd : o.guard = none) (s x : Operand)
  (ho : o.op = .call { callee := .builtin .append, args := #[s, x], argTypes := #[60, 60] })
  (B : Nat) (v : Value) (l : List Int) (y : Int) (hs : a.eval s = v) (hown : OI w B v l) (gx c : Nat) (hx : a.eval x = .slice (some ⟨gx, 0, none⟩) 1 c)
  (h0 : w.cell? ⟨gx, 0, none⟩ = some (.int .i64 y)) (hl : l.length ≤ 1073741824) (hB : B ≤ w.heap.size)
  (h : ∀ g cap w', OI w' B (.slice (some ⟨g, 0, none⟩) (l.length + 1) cap) (l ++ [y]) → w.grownBy w' v.ownBlock → (v.ownBlock = some g ∨ g = w.heap.size) → K (a.put o.dst (.slice (some ⟨g, 0, none⟩) (l.length + 1) cap)) w') :
  if Region.wanted o (yielded ops a.tmps) = true then Oper.wp Tryz.prog o a w K Q else E := by
 obtain ⟨i0, hi, hz0, hz1, hz2⟩ := info_parts Tryz.infoI64
 refine step_append_lies w hgd s x 60 ho B 2 i0 _ 1 8 Tryz.underlying60 hi hz0 hz1 hz2 rfl (by decide) v l.length (i64s l).toList hs hown ⟨gx, 0, none⟩ 1 c [.int .i64 y] hx rfl (by
  intro j u hj
  rw [Addr.add_lit]
  match j, hj with
  | 0, hj => simp at hj; subst hj; exact h0
  | j + 1, hj => simp at hj) (by
  intro u hu
  simp at hu
  subst hu
  rfl) (by decide) (by unfold maxLen; omega) (by omega) hB _ rfl (fun g cap w' h1 h2 h3 _ => h g cap w' ?_ h2 h3)
 unfold OI
 rw [List.length_append]
 simpa [i64s] using h1
set_option maxHeartbeats 8000000 in
set_option maxRecDepth 100000 in
theorem implUnf_any (a da : Option Addr) (c dc n : Nat) (ds : List Dc) (xs : List Sg) (w : World) (hd : RdD w da ds) (hr : RdS w a xs) (hn : xs.length = n) (hs : ∀ x ∈ xs, x.a = none → x.c = 0) :
  Calls Tryz.prog 22 #[.slice da ds.length dc, .slice a n c] w (RetUf w (unfR ds (xs.map Sg.ct))) := by
 have HFL := kide (fun u (hb : Below w.heap.size w u) => implFlat_any a da c dc n ds xs u (hd.later hb) (hr.later hb) hn)
 have HD := kide hd
 have HR := kide hr
 have HN := kide hn
 have HS := kide hs
 obtain ⟨R, hRR⟩ : ∃ R, unfR ds (xs.map Sg.ct) = R := ⟨_, rfl⟩
 rw [hRR]
 have HRR := kide hRR
 obtain ⟨dn, hdn⟩ : ∃ dn, ds.length = dn := ⟨_, rfl⟩
 have HDN := kide hdn
 rw [hdn] at HFL ⊢
 clear hd hr hn hs hRR hdn
 have B0 : Hid (Below w.heap.size w ((w.alloc (Obj.cells #[.slice da dn dc] 33)).alloc (Obj.cells #[.slice none 0 0] 30))) := (blA _ _).alloc (by simp) _
 have XD0 : Hid (Bz ((w.alloc (Obj.cells #[.slice da dn dc] 33)).alloc (Obj.cells #[.slice none 0 0] 30)) w.heap.size #[.slice da dn dc] 33) := (Bz.new w _ _).later (blA _ _)
 have XR0 : Hid (Bz ((w.alloc (Obj.cells #[.slice da dn dc] 33)).alloc (Obj.cells #[.slice none 0 0] 30)) (w.heap.size + 1) #[.slice none 0 0] 30) := by
  have h9 := Bz.new (w.alloc (Obj.cells #[.slice da dn dc] 33)) #[.slice none 0 0] 30
  rw [show (w.alloc (Obj.cells #[.slice da dn dc] 33)).heap.size = w.heap.size + 1 by simp] at h9
  exact h9
 refine (callsIn_wide (n := 5)).1 ?_
 refine callsIn_of_wp_marks Tryz.func22 rfl trivial ?_ rfl
 simp only [Tryz.ntmps22, List.size_toArray, List.length_cons, List.length_nil, Nat.reduceAdd, Nat.reduceSub, Array.replicate_succ, Array.replicate_zero, List.push_toArray, List.append_toArray, List.nil_append, List.cons_append]
 gi_wp2
 refine ⟨trivial, (callsIn_wide.2 (HFL.out _ B0.out)).mono ?_⟩
 rintro e w1 ⟨rfl, hb1⟩
 have B1 := kide (B0.out.trans (hb1.mono B0.out.size))
 have XD1 := kide (XD0.out.later hb1)
 have XR1 := kide (XR0.out.later hb1)
 clear hb1 B0 XD0 XR0
 obtain ⟨b0, hb0⟩ : ∃ b0, w.heap.size = b0 := ⟨_, rfl⟩
 have HB0 := kide hb0
 rw [hb0] at XD1 XR1
 simp only [hb0]
 clear hb0
 have d0 := XR1.out.cell 0
 have f0 := XR1.out.froz 0
 simp at d0
 cases hf : flatR ds (xs.map Sg.ct) with
 | false =>
  have hR : R = ([], false) := by rw [← HRR.out]; simp [unfR, hf]
  have B9 : Hid (Below w.heap.size w (w1.setCell ⟨b0 + 1, 0, none⟩ (Value.slice none 0 0))) := B1.out.setCell (by simp only []; have := HB0.out; omega) _
  have y0 : (w1.setCell ⟨b0 + 1, 0, none⟩ (Value.slice none 0 0)).cell? ⟨b0 + 1, 0, none⟩ = some (Value.slice none 0 0) := (XR1.out.set 0 _).cell 0
  have Y0 := kide y0
  clear y0
  gi_wp2
  have y0 := Y0.out
  rw [hR]
  exact ⟨.tuple #[.agg #[.slice none 0 0], .bool false], by simp [results, Tryz.results22, go_sem, y0], ⟨.slice none 0 0, [], rfl, Ts.nil _ _, rfl, B9.out⟩⟩
 | true =>
  have HFT := kide hf
  clear hf
  gi_wp2
  refine ⟨trivial, (callsIn_wide.2 (newArena_any w1)).mono ?_⟩
  rintro e w2 ⟨s, g, rfl, har, hb2⟩
  have AR2 := kide har
  have B12 := kide hb2
  have B2 := kide (B1.out.trans (hb2.mono B1.out.size))
  have XD2 := kide (XD1.out.later hb2)
  have XR2 := kide (XR1.out.later hb2)
  clear har hb2 d0 f0
  have hfl : 1 ≤ n ∧ n ≤ 2000 := by
   have h9 := HFT.out
   simp only [flatR, Bool.and_eq_true, decide_eq_true_eq, List.length_map, HN.out] at h9
   exact ⟨h9.1.1.1.2, h9.1.1.2⟩
  have HNL := kide hfl
  have h0n : 0 < n := by omega
  obtain ⟨ab, ao, rfl, hcs⟩ : ∃ b o, a = some ⟨b, o, none⟩ ∧ ∀ i y, xs[i]? = some y → SgAt w b (o + i * 5) y := by
   rcases HR.out.2 with h0 | h0
   ·have := HN.out; rw [h0] at this; simp at this; omega
   ·exact h0
  have hbw : ab < b0 := by
   have hx : xs[0]? = some (xs[0]'(by rw [HN.out]; omega)) := List.getElem?_eq_getElem _
   have := block_lt_of_cell (hcs 0 _ hx).1.1
   have := HB0.out
   simp only [] at *
   omega
  have HCS := kide hcs
  clear hfl hcs
  gi_wp2
  refine ⟨trivial, (backward_in Fence.wide _ trivial rfl (some ⟨ab, ao, none⟩) n c _).mono ?_⟩
  rintro e w' ⟨rfl, rfl⟩
  gi_wp2
  obtain ⟨A, hA⟩ : ∃ A, w2.heap.size = A := ⟨_, rfl⟩
  have HA := kide hA
  have hsz : (((w2.alloc (Obj.cells #[.pointer (some ⟨s, 0, none⟩)] 79)).alloc (Obj.cells #[.slice none 0 0] 60)).alloc (Obj.cells #[.slice (some ⟨ab, ao, none⟩) n c] 45)).heap.size = A + 3 := by simp; omega
  have hbW : Below w2.heap.size w2 (((w2.alloc (Obj.cells #[.pointer (some ⟨s, 0, none⟩)] 79)).alloc (Obj.cells #[.slice none 0 0] 60)).alloc (Obj.cells #[.slice (some ⟨ab, ao, none⟩) n c] 45)) := ((blA _ _).alloc (by simp) _).alloc (by simp; omega) _
  have hXA : Bz (((w2.alloc (Obj.cells #[.pointer (some ⟨s, 0, none⟩)] 79)).alloc (Obj.cells #[.slice none 0 0] 60)).alloc (Obj.cells #[.slice (some ⟨ab, ao, none⟩) n c] 45)) A #[.pointer (some ⟨s, 0, none⟩)] 79 := by
   rw [← hA]
   exact ((Bz.new w2 _ _).later (blA _ _)).later (blA _ _)
  have hXK : Bz (((w2.alloc (Obj.cells #[.pointer (some ⟨s, 0, none⟩)] 79)).alloc (Obj.cells #[.slice none 0 0] 60)).alloc (Obj.cells #[.slice (some ⟨ab, ao, none⟩) n c] 45)) (A + 1) #[.slice none 0 0] 60 := by
   have h9 := Bz.new (w2.alloc (Obj.cells #[.pointer (some ⟨s, 0, none⟩)] 79)) #[.slice none 0 0] 60
   rw [show (w2.alloc (Obj.cells #[.pointer (some ⟨s, 0, none⟩)] 79)).heap.size = A + 1 by simp; omega] at h9
   exact h9.later (blA _ _)
  have hXB : Bz (((w2.alloc (Obj.cells #[.pointer (some ⟨s, 0, none⟩)] 79)).alloc (Obj.cells #[.slice none 0 0] 60)).alloc (Obj.cells #[.slice (some ⟨ab, ao, none⟩) n c] 45)) (A + 2) #[.slice (some ⟨ab, ao, none⟩) n c] 45 := by
   have h9 := Bz.new ((w2.alloc (Obj.cells #[.pointer (some ⟨s, 0, none⟩)] 79)).alloc (Obj.cells #[.slice none 0 0] 60)) #[.slice (some ⟨ab, ao, none⟩) n c] 45
   rw [show ((w2.alloc (Obj.cells #[.pointer (some ⟨s, 0, none⟩)] 79)).alloc (Obj.cells #[.slice none 0 0] 60)).heap.size = A + 2 by simp; omega] at h9
   exact h9
  generalize ((w2.alloc (Obj.cells #[.pointer (some ⟨s, 0, none⟩)] 79)).alloc (Obj.cells #[.slice none 0 0] 60)).alloc (Obj.cells #[.slice (some ⟨ab, ao, none⟩) n c] 45) = W0 at *
  simp only [hA]
  have hbw0 : Below w.heap.size w W0 := B2.out.trans (hbW.mono B2.out.size)
  have hb1W : Below w1.heap.size w1 W0 := B12.out.trans (hbW.mono B12.out.size)
  have hw1A : w1.heap.size ≤ A := by have := B12.out.size; omega
  have hwA : w.heap.size ≤ w1.heap.size := B1.out.size
  have hgA : g < A + 3 := by obtain ⟨es, ck, h9⟩ := own_isMapN AR2.out.mp; have := lt_of_block h9; omega
  have hSh : ∀ j, j < n → ShAt W0 ab (ao + j * 5) (sgN xs j).hd := fun j hj => by
   have hx : xs[j]? = some (sgN xs j) := by
    have h9 : xs[j]? = some (xs[j]'(by rw [HN.out]; omega)) := List.getElem?_eq_getElem _
    rw [h9]; simp [sgN, List.getD, h9]
   exact ((HCS.out j _ hx).later hbw0).1
  have h00 : UnS w1 b0 A s g (A + 3) da dn dc ds xs ([] : List (Fin n)) W0 :=
   ⟨XD2.out.later hbW, XR2.out.later hbW, hXA, ⟨_, hXB⟩, ⟨_, _, [], none, 0, AR2.out.later hbW, by simp [ndS, cmS, unfTo, shAll, shTo], hXK, World.ownsRow_nil _ _ _ _, by simp⟩, hb1W, by omega⟩
  refine wpIn_rangeFunc_ownH rfl (by omega) (gf := 65) (lb := #[.pointer (some ⟨A + 2, 0, none⟩)]) rfl trivial (enters_of Tryz.func65 (by kernel_rfl) rfl)
   (backward_stops Fence.wide 4 trivial rfl (by omega) (A + 2) w.heap.size ab ao n c xs HN.out h0n (by have := HNL.out; omega) W0 (by omega) (by omega) (by have := HB0.out; omega) (hXB.cell 0) hSh)
   KpB.trans (KpB.put (B := W0.heap.size) (by omega) (by omega)) (Below.refl _ _) (fun _ => rfl)
   (fun pre W => UnS w1 b0 A s g (A + 3) da dn dc ds xs pre W) (fun _ _ _ => False)
   (by rw [hsz]; exact UnS.own hgA (by omega)) (fun _ _ _ _ _ hs _ _ => hs) h00
   (fun x a' W => ∃ Bx, A + 3 ≤ Bx ∧ Bz W Bx #[.int .i64 (sgN xs x).ct.v, .int .i64 (sgN xs x).ct.lo, .int .i64 (sgN xs x).ct.wd, .int .i64 (sgN xs x).ct.bw, .slice (sgN xs x).a (sgN xs x).ct.ws.length (sgN xs x).c] 73 ∧ a' = { tmps := #[.slice da dn dc, .slice (some ⟨ab, ao, none⟩) n c, .pointer (some ⟨b0, 0, none⟩), undef, .pointer (some ⟨b0 + 1, 0, none⟩), .bool false, .pointer (some ⟨A, 0, none⟩), .pointer (some ⟨A + 1, 0, none⟩), undef, .pointer (some ⟨Bx, 0, none⟩), .slice da dn dc, .slice (some ⟨ab, ao, none⟩) n c, .bool true, .bool false, undef, .pointer (some ⟨s, 0, none⟩), .slice (some ⟨ab, ao, none⟩) n c, .func (Fn.func 65) #[] #[.pointer (some ⟨A + 1 + 1, 0, none⟩)], .int .i64 ((x : Nat) : Int), segVU (sgN xs x), undef, undef, undef, undef, undef, undef, undef, undef, undef, undef, undef, undef, undef, undef, undef, undef, undef, undef, undef, undef, undef, undef, undef, undef, undef, undef], defers := [] })
   (fun x a' _ X Y row hs hg hr => by obtain ⟨Bx, h1, h2, h3⟩ := hs; exact ⟨Bx, h1, bz_own h2 hg (fun r e => (hr r e).2), h3⟩)
   ?assign ?body ?done ?stop
  case stop => exact fun _ _ _ _ _ _ h _ => h.elim
  case assign =>
   rintro l pre x W K hU hK
   have HKQ := kide hK
   clear hK
   simp only [segVU]
   gi_wp2
   have hba : Below W.heap.size W (W.alloc (Obj.cells #[.int .i64 (sgN xs x).ct.v, .int .i64 (sgN xs x).ct.lo, .int .i64 (sgN xs x).ct.wd, .int .i64 (sgN xs x).ct.bw, .slice (sgN xs x).a (sgN xs x).ct.ws.length (sgN xs x).c] 73)) := blA _ _
   have hsW := hU.sz
   exact HKQ.out _ _ ((KeepsOthers.alloc _ _).from _) ⟨hba.mono (by have := hU.bl.size; omega), hba.block _ (by omega)⟩ (hU.later hba) ⟨W.heap.size, hU.sz, Bz.new W _ _, rfl⟩
  case body =>
   rintro l pre x a' W hl hrec hU ⟨Bx, hBx, hX, rfl⟩ hpN
   have HU := kide hU
   have HX := kide hX
   have HREC := kide hrec
   have d1 := hU.xd.cell 0
   have f1 := hU.xd.froz 0
   have d2 := hU.xa.cell 0
   have f2 := hU.xa.froz 0
   obtain ⟨tv, tD, tl, ka, kc, hta, htl, hk1, hk2, hkl⟩ := hU.tk
   have HKL := kide hkl
   have HTA := kide hta
   have HTL := kide htl
   have HK2 := kide hk2
   have XK := kide hk1
   have d3 := hk1.cell 0
   have f3 := hk1.froz 0
   have d4 := hX.cell 0
   have d5 := hX.cell 1
   have d6 := hX.cell 2
   have d7 := hX.cell 3
   have d8 := hX.cell 4
   simp at d1 d2 d3 d4 d5 d6 d7 d8
   have hbA : b0 + 1 < w1.heap.size := XR1.out.lt
   have hkdl : (kdS ds xs pre).length = pre.length := by unfold kdS; rw [List.length_map, (unfTo_len ds _).1, cmS_len]
   have HXD := kide hU.xd
   have HXA := kide hU.xa
   clear hU hX hk2 hk1 hrec hkl hta htl
   gi_wp2
   have hxx : xs[(x : Nat)]? = some (sgN xs x) := by
    have hx9 : (x : Nat) < xs.length := by rw [HN.out]; exact x.isLt
    have h9 : xs[(x : Nat)]? = some (xs[(x : Nat)]'hx9) := List.getElem?_eq_getElem _
    rw [h9]; simp [sgN, List.getD, h9]
   have hat := HCS.out x _ hxx
   have hbd : Below W.heap.size W W.drew := (Below.refl _ _).drew
   have hcall : Calls Tryz.prog 41 #[.pointer (some ⟨s, 0, none⟩), .slice da dn dc, .agg #[.int .i64 (sgN xs x).ct.v, .int .i64 (sgN xs x).ct.lo, .int .i64 (sgN xs x).ct.wd, .int .i64 (sgN xs x).ct.bw, .slice (sgN xs x).a (sgN xs x).ct.ws.length (sgN xs x).c]] W.drew (RetSg w1 W.drew s g W.heap.size tl (ndS ds xs (pre ++ [x]))) := by
    rw [ndS_snoc, ← HDN.out]
    refine addSeg_any s g tv tD tl da dc ds (sgN xs x).ct (sgN xs x).a (sgN xs x).c (ndS ds xs pre) w1 W.drew (HU.out.bl.trans (hbd.mono HU.out.bl.size)) (HTA.out.later hbd) (HD.out.later B1.out) (hat.2.1.later B1.out) (HS.out _ (List.mem_of_getElem? hxx)) HTL.out (unfTo_ahead ds _) ?_ ?_ hat.2.2.2.2.2
    ·have h8 := (unfTo_len ds (cmS xs pre)).2.2
     rw [cmS_len] at h8
     have := HNL.out
     unfold ndS
     omega
    ·rcases flat_sg HFT.out (j := x) (s := (sgN xs x).ct) (by simp [hxx]) with h8 | ⟨h1, h2, h3, h4, h5, h6, h7, h8⟩
     ·exact .inl h8
     ·exact .inr ⟨h1, h2, h3, h4, h5, h6, h7⟩
   have HCALL := kide hcall
   clear hcall hat
   have hmx : Tryz.prog.follows .mixedOrders = true := by kernel_rfl
   refine wpIn_region_x (SA := fun uu => uu.cell? ⟨A + 1, 0, none⟩ = some (Value.slice ka pre.length kc) ∧ uu.cell? ⟨A, 0, none⟩ = some (Value.pointer (some ⟨s, 0, none⟩)) ∧ uu.cell? ⟨b0, 0, none⟩ = some (Value.slice da dn dc) ∧ uu.cell? ⟨Bx, 0, none⟩ = some (Value.int .i64 (sgN xs x).ct.v) ∧ uu.cell? ⟨Bx, 1, none⟩ = some (Value.int .i64 (sgN xs x).ct.lo) ∧ uu.cell? ⟨Bx, 2, none⟩ = some (Value.int .i64 (sgN xs x).ct.wd) ∧ uu.cell? ⟨Bx, 3, none⟩ = some (Value.int .i64 (sgN xs x).ct.bw) ∧ uu.cell? ⟨Bx, 4, none⟩ = some (Value.slice (sgN xs x).a (sgN xs x).ct.ws.length (sgN xs x).c)) (SB := fun _ => True) (k := 7) hmx (by kernel_rfl) ?_
   have HSZ0 : Hid (W.heap.size ≤ W.drew.heap.size) := hbd.size
   have OI0 : Hid (OI W.drew (A + 3) (.slice ka pre.length kc) (kdS ds xs pre)) := HK2.out.later hbd
   have hzd : Hid (Below W.heap.size W W.drew) := hbd
   have HWD : Hid (W.drew = W.drew) := rfl
   generalize hpd : W.drew = p0 at *
   have HPD := kide hpd
   clear hpd
   have y0_0 : Bz p0 (A + 1) #[.slice ka pre.length kc] 60 := XK.out.later hbd
   have y1_0 : Bz p0 (A) #[.pointer (some ⟨s, 0, none⟩)] 79 := HXA.out.later hbd
   have y2_0 : Bz p0 (b0) #[.slice da dn dc] 33 := HXD.out.later hbd
   have y3_0 : Bz p0 (Bx) #[.int .i64 (sgN xs x).ct.v, .int .i64 (sgN xs x).ct.lo, .int .i64 (sgN xs x).ct.wd, .int .i64 (sgN xs x).ct.bw, .slice (sgN xs x).a (sgN xs x).ct.ws.length (sgN xs x).c] 73 := HX.out.later hbd
   have c0_0 : p0.cell? ⟨A + 1, 0, none⟩ = some (Value.slice ka pre.length kc) := y0_0.cell 0
   have c1_0 : p0.cell? ⟨A, 0, none⟩ = some (Value.pointer (some ⟨s, 0, none⟩)) := y1_0.cell 0
   have c2_0 : p0.cell? ⟨b0, 0, none⟩ = some (Value.slice da dn dc) := y2_0.cell 0
   have c3_0 : p0.cell? ⟨Bx, 0, none⟩ = some (Value.int .i64 (sgN xs x).ct.v) := y3_0.cell 0
   have c4_0 : p0.cell? ⟨Bx, 1, none⟩ = some (Value.int .i64 (sgN xs x).ct.lo) := y3_0.cell 1
   have c5_0 : p0.cell? ⟨Bx, 2, none⟩ = some (Value.int .i64 (sgN xs x).ct.wd) := y3_0.cell 2
   have c6_0 : p0.cell? ⟨Bx, 3, none⟩ = some (Value.int .i64 (sgN xs x).ct.bw) := y3_0.cell 3
   have c7_0 : p0.cell? ⟨Bx, 4, none⟩ = some (Value.slice (sgN xs x).a (sgN xs x).ct.ws.length (sgN xs x).c) := y3_0.cell 4
   have HLT0 : Hid (A + 1 < A + 3) := by show _ < _; omega
   have HLT1 : Hid (A < A + 3) := by show _ < _; omega
   have HLT2 : Hid (b0 < A + 3) := by show _ < _; omega
   have hs0 : Hid ((fun uu => uu.cell? ⟨A + 1, 0, none⟩ = some (Value.slice ka pre.length kc) ∧ uu.cell? ⟨A, 0, none⟩ = some (Value.pointer (some ⟨s, 0, none⟩)) ∧ uu.cell? ⟨b0, 0, none⟩ = some (Value.slice da dn dc) ∧ uu.cell? ⟨Bx, 0, none⟩ = some (Value.int .i64 (sgN xs x).ct.v) ∧ uu.cell? ⟨Bx, 1, none⟩ = some (Value.int .i64 (sgN xs x).ct.lo) ∧ uu.cell? ⟨Bx, 2, none⟩ = some (Value.int .i64 (sgN xs x).ct.wd) ∧ uu.cell? ⟨Bx, 3, none⟩ = some (Value.int .i64 (sgN xs x).ct.bw) ∧ uu.cell? ⟨Bx, 4, none⟩ = some (Value.slice (sgN xs x).a (sgN xs x).ct.ws.length (sgN xs x).c)) p0) := ⟨c0_0, c1_0, c2_0, c3_0, c4_0, c5_0, c6_0, c7_0⟩
   try go_simp
   refine tkY (i := 0) (v := Value.slice ka pre.length kc) rfl hs0.out (fun uu hu => by obtain ⟨e0, e1, e2, e3, e4, e5, e6, e7⟩ := hu; go_simp) ?_
   try go_simp
   refine tkY (i := 1) (v := Value.pointer (some ⟨s, 0, none⟩)) rfl hs0.out (fun uu hu => by obtain ⟨e0, e1, e2, e3, e4, e5, e6, e7⟩ := hu; go_simp) ?_
   try go_simp
   refine tkY (i := 2) (v := Value.slice da dn dc) rfl hs0.out (fun uu hu => by obtain ⟨e0, e1, e2, e3, e4, e5, e6, e7⟩ := hu; go_simp) ?_
   try go_simp
   refine tkY (i := 3) (v := Value.agg #[.int .i64 (sgN xs x).ct.v, .int .i64 (sgN xs x).ct.lo, .int .i64 (sgN xs x).ct.wd, .int .i64 (sgN xs x).ct.bw, .slice (sgN xs x).a (sgN xs x).ct.ws.length (sgN xs x).c]) rfl hs0.out (fun uu hu => by obtain ⟨e0, e1, e2, e3, e4, e5, e6, e7⟩ := hu; go_simp) ?_
   try go_simp
   refine rdX (rs := [4]) (AllX.cons rfl (fun K hK => ?_) AllX.nil)
   go_simp
   refine Calls.mono HCALL.out ?_
   rintro e p1 ⟨v3, D3, l3, i3, rfl, har3, hl3, hi3, hb3, hk3, hnw3⟩
   have HK3 : Hid (KpT g p0 p1) := hk3
   have hoi3 : OI p1 (A + 3) (Value.slice ka pre.length kc) (kdS ds xs pre) := (OI0.out.move (w' := p1) fun b hb => by
    obtain ⟨cur, hc⟩ := OI0.out.typed9 hb
    exact hk3.1 _ _ _ _ (by decide) (by decide) hc)
   have y0_1 : Bz p1 (A + 1) #[.slice ka pre.length kc] 60 := (HK3.out.1 _ _ _ _ (by decide) (by decide) y0_0).trans y0_0
   have y1_1 : Bz p1 (A) #[.pointer (some ⟨s, 0, none⟩)] 79 := (HK3.out.1 _ _ _ _ (by decide) (by decide) y1_0).trans y1_0
   have y2_1 : Bz p1 (b0) #[.slice da dn dc] 33 := (HK3.out.1 _ _ _ _ (by decide) (by decide) y2_0).trans y2_0
   have y3_1 : Bz p1 (Bx) #[.int .i64 (sgN xs x).ct.v, .int .i64 (sgN xs x).ct.lo, .int .i64 (sgN xs x).ct.wd, .int .i64 (sgN xs x).ct.bw, .slice (sgN xs x).a (sgN xs x).ct.ws.length (sgN xs x).c] 73 := (HK3.out.1 _ _ _ _ (by decide) (by decide) y3_0).trans y3_0
   have c0_1 : p1.cell? ⟨A + 1, 0, none⟩ = some (Value.slice ka pre.length kc) := y0_1.cell 0
   have c1_1 : p1.cell? ⟨A, 0, none⟩ = some (Value.pointer (some ⟨s, 0, none⟩)) := y1_1.cell 0
   have c2_1 : p1.cell? ⟨b0, 0, none⟩ = some (Value.slice da dn dc) := y2_1.cell 0
   have c3_1 : p1.cell? ⟨Bx, 0, none⟩ = some (Value.int .i64 (sgN xs x).ct.v) := y3_1.cell 0
   have c4_1 : p1.cell? ⟨Bx, 1, none⟩ = some (Value.int .i64 (sgN xs x).ct.lo) := y3_1.cell 1
   have c5_1 : p1.cell? ⟨Bx, 2, none⟩ = some (Value.int .i64 (sgN xs x).ct.wd) := y3_1.cell 2
   have c6_1 : p1.cell? ⟨Bx, 3, none⟩ = some (Value.int .i64 (sgN xs x).ct.bw) := y3_1.cell 3
   have c7_1 : p1.cell? ⟨Bx, 4, none⟩ = some (Value.slice (sgN xs x).a (sgN xs x).ct.ws.length (sgN xs x).c) := y3_1.cell 4
   have hs1 : Hid ((fun uu => uu.cell? ⟨A + 1, 0, none⟩ = some (Value.slice ka pre.length kc) ∧ uu.cell? ⟨A, 0, none⟩ = some (Value.pointer (some ⟨s, 0, none⟩)) ∧ uu.cell? ⟨b0, 0, none⟩ = some (Value.slice da dn dc) ∧ uu.cell? ⟨Bx, 0, none⟩ = some (Value.int .i64 (sgN xs x).ct.v) ∧ uu.cell? ⟨Bx, 1, none⟩ = some (Value.int .i64 (sgN xs x).ct.lo) ∧ uu.cell? ⟨Bx, 2, none⟩ = some (Value.int .i64 (sgN xs x).ct.wd) ∧ uu.cell? ⟨Bx, 3, none⟩ = some (Value.int .i64 (sgN xs x).ct.bw) ∧ uu.cell? ⟨Bx, 4, none⟩ = some (Value.slice (sgN xs x).a (sgN xs x).ct.ws.length (sgN xs x).c)) p1) := ⟨c0_1, c1_1, c2_1, c3_1, c4_1, c5_1, c6_1, c7_1⟩
   refine hK _ _ (Sx.before (by kernel_rfl) hs1.out) ?_
   clear hK K
   try go_simp
   refine rdX (rs := [5]) (AllX.cons rfl (fun K hK => ?_) AllX.nil)
   go_simp
   have hbx : Below p1.heap.size p1 (p1.alloc (Obj.cells #[.int .i64 (i3 : Int)] 2)) := blA _ _
   have hbn := Bz.new p1 #[.int .i64 (i3 : Int)] 2
   have hoi5 := hoi3.later hbx
   obtain ⟨p2, hp2⟩ : ∃ z, p1.alloc (Obj.cells #[.int .i64 (i3 : Int)] 2) = z := ⟨_, rfl⟩
   rw [hp2] at hbx hbn hoi5 ⊢
   have y0_2 : Bz p2 (A + 1) #[.slice ka pre.length kc] 60 := y0_1.later hbx
   have y1_2 : Bz p2 (A) #[.pointer (some ⟨s, 0, none⟩)] 79 := y1_1.later hbx
   have y2_2 : Bz p2 (b0) #[.slice da dn dc] 33 := y2_1.later hbx
   have y3_2 : Bz p2 (Bx) #[.int .i64 (sgN xs x).ct.v, .int .i64 (sgN xs x).ct.lo, .int .i64 (sgN xs x).ct.wd, .int .i64 (sgN xs x).ct.bw, .slice (sgN xs x).a (sgN xs x).ct.ws.length (sgN xs x).c] 73 := y3_1.later hbx
   have c0_2 : p2.cell? ⟨A + 1, 0, none⟩ = some (Value.slice ka pre.length kc) := y0_2.cell 0
   have c1_2 : p2.cell? ⟨A, 0, none⟩ = some (Value.pointer (some ⟨s, 0, none⟩)) := y1_2.cell 0
   have c2_2 : p2.cell? ⟨b0, 0, none⟩ = some (Value.slice da dn dc) := y2_2.cell 0
   have c3_2 : p2.cell? ⟨Bx, 0, none⟩ = some (Value.int .i64 (sgN xs x).ct.v) := y3_2.cell 0
   have c4_2 : p2.cell? ⟨Bx, 1, none⟩ = some (Value.int .i64 (sgN xs x).ct.lo) := y3_2.cell 1
   have c5_2 : p2.cell? ⟨Bx, 2, none⟩ = some (Value.int .i64 (sgN xs x).ct.wd) := y3_2.cell 2
   have c6_2 : p2.cell? ⟨Bx, 3, none⟩ = some (Value.int .i64 (sgN xs x).ct.bw) := y3_2.cell 3
   have c7_2 : p2.cell? ⟨Bx, 4, none⟩ = some (Value.slice (sgN xs x).a (sgN xs x).ct.ws.length (sgN xs x).c) := y3_2.cell 4
   have hs2 : Hid ((fun uu => uu.cell? ⟨A + 1, 0, none⟩ = some (Value.slice ka pre.length kc) ∧ uu.cell? ⟨A, 0, none⟩ = some (Value.pointer (some ⟨s, 0, none⟩)) ∧ uu.cell? ⟨b0, 0, none⟩ = some (Value.slice da dn dc) ∧ uu.cell? ⟨Bx, 0, none⟩ = some (Value.int .i64 (sgN xs x).ct.v) ∧ uu.cell? ⟨Bx, 1, none⟩ = some (Value.int .i64 (sgN xs x).ct.lo) ∧ uu.cell? ⟨Bx, 2, none⟩ = some (Value.int .i64 (sgN xs x).ct.wd) ∧ uu.cell? ⟨Bx, 3, none⟩ = some (Value.int .i64 (sgN xs x).ct.bw) ∧ uu.cell? ⟨Bx, 4, none⟩ = some (Value.slice (sgN xs x).a (sgN xs x).ct.ws.length (sgN xs x).c)) p2) := ⟨c0_2, c1_2, c2_2, c3_2, c4_2, c5_2, c6_2, c7_2⟩
   refine hK _ _ (Sx.before (by kernel_rfl) hs2.out) ?_
   clear hK K
   try go_simp
   refine rdX (rs := [6]) (AllX.cons rfl (fun K hK => ?_) AllX.nil)
   refine step_appIL _ rfl _ _ rfl (A + 3) _ (kdS ds xs pre) (i3 : Int) rfl hoi5 p1.heap.size 1 rfl (hbn.cell 0) (by have := HNL.out; omega) (by have h8 := HU.out.sz; have h9 := HK3.out.2.2; have h7 := hbx.size; have h6 := HSZ0.out; omega) ?_
   intro gg cap p3 ho4 hg4 hgg
   rw [hkdl] at ho4 ⊢
   have y0_3 : Bz p3 (A + 1) #[.slice ka pre.length kc] 60 := (hg4.block (A + 1) y0_2.lt (fun e => by have h7 := (HK2.out.lt e.symm).1; have h8 := HLT0.out; omega)).trans y0_2
   have y1_3 : Bz p3 (A) #[.pointer (some ⟨s, 0, none⟩)] 79 := (hg4.block (A) y1_2.lt (fun e => by have h7 := (HK2.out.lt e.symm).1; have h8 := HLT1.out; omega)).trans y1_2
   have y2_3 : Bz p3 (b0) #[.slice da dn dc] 33 := (hg4.block (b0) y2_2.lt (fun e => by have h7 := (HK2.out.lt e.symm).1; have h8 := HLT2.out; omega)).trans y2_2
   have y3_3 : Bz p3 (Bx) #[.int .i64 (sgN xs x).ct.v, .int .i64 (sgN xs x).ct.lo, .int .i64 (sgN xs x).ct.wd, .int .i64 (sgN xs x).ct.bw, .slice (sgN xs x).a (sgN xs x).ct.ws.length (sgN xs x).c] 73 := (hg4.block (Bx) y3_2.lt (fun e => oi_ne y3_2 hoi5 (by decide) e)).trans y3_2
   have c0_3 : p3.cell? ⟨A + 1, 0, none⟩ = some (Value.slice ka pre.length kc) := y0_3.cell 0
   have c1_3 : p3.cell? ⟨A, 0, none⟩ = some (Value.pointer (some ⟨s, 0, none⟩)) := y1_3.cell 0
   have c2_3 : p3.cell? ⟨b0, 0, none⟩ = some (Value.slice da dn dc) := y2_3.cell 0
   have c3_3 : p3.cell? ⟨Bx, 0, none⟩ = some (Value.int .i64 (sgN xs x).ct.v) := y3_3.cell 0
   have c4_3 : p3.cell? ⟨Bx, 1, none⟩ = some (Value.int .i64 (sgN xs x).ct.lo) := y3_3.cell 1
   have c5_3 : p3.cell? ⟨Bx, 2, none⟩ = some (Value.int .i64 (sgN xs x).ct.wd) := y3_3.cell 2
   have c6_3 : p3.cell? ⟨Bx, 3, none⟩ = some (Value.int .i64 (sgN xs x).ct.bw) := y3_3.cell 3
   have c7_3 : p3.cell? ⟨Bx, 4, none⟩ = some (Value.slice (sgN xs x).a (sgN xs x).ct.ws.length (sgN xs x).c) := y3_3.cell 4
   have hs3 : Hid ((fun uu => uu.cell? ⟨A + 1, 0, none⟩ = some (Value.slice ka pre.length kc) ∧ uu.cell? ⟨A, 0, none⟩ = some (Value.pointer (some ⟨s, 0, none⟩)) ∧ uu.cell? ⟨b0, 0, none⟩ = some (Value.slice da dn dc) ∧ uu.cell? ⟨Bx, 0, none⟩ = some (Value.int .i64 (sgN xs x).ct.v) ∧ uu.cell? ⟨Bx, 1, none⟩ = some (Value.int .i64 (sgN xs x).ct.lo) ∧ uu.cell? ⟨Bx, 2, none⟩ = some (Value.int .i64 (sgN xs x).ct.wd) ∧ uu.cell? ⟨Bx, 3, none⟩ = some (Value.int .i64 (sgN xs x).ct.bw) ∧ uu.cell? ⟨Bx, 4, none⟩ = some (Value.slice (sgN xs x).a (sgN xs x).ct.ws.length (sgN xs x).c)) p3) := ⟨c0_3, c1_3, c2_3, c3_3, c4_3, c5_3, c6_3, c7_3⟩
   refine hK _ _ (Sx.before (by kernel_rfl) hs3.out) ?_
   clear hK K
   try go_simp
   refine rdX (rs := [7]) (AllX.cons rfl (fun K hK => ?_) AllX.nil)
   have r4 := y0_3.cell 0
   have g4 := y0_3.froz 0
   simp at r4
   go_simp
   generalize hp4 : p3.setCell ⟨A + 1, 0, none⟩ (Value.slice (some ⟨gg, 0, none⟩) (pre.length + 1) cap) = p4
   refine hK _ _ (Sx.behind (by kernel_rfl) trivial) ?_
   clear hK K
   try go_simp
   refine wpAnyX_done (by kernel_rfl) ?_ _
   refine onlyN_in ?_
   gi_wp2
   try rw [hsz]
   rw [← hp4]
   subst hp2
   exact un_end hwA hw1A hgA hbA HU.out XK.out HK2.out HKL.out har3 hl3 hi3 hb3 (by rw [HPD.out]; exact HK3.out) hnw3 ho4 hg4 hgg
  case done =>
   rintro D ys W hD rfl hU hK
   have HU := kide hU
   have HKD := kide hK
   obtain ⟨tv, tD, tl, ka, kc, hta, htl, hk1, hk2, hkl⟩ := hU.tk
   have d2 := hU.xa.cell 0
   have d3 := hk1.cell 0
   simp at d2 d3
   obtain ⟨ta, tc, rfl⟩ := hta.ts.form
   have HTA := kide hta
   have HTL := kide htl
   have HK1 := kide hk1
   have HK2 := kide hk2
   have HKL := kide hkl
   have hlb : (bwd n h0n n).length = n := by simp [bwd]
   rw [hlb] at d3 HK1 HK2 HKL
   have hall := cmS_all HN.out h0n
   have HALL := kide hall
   have q0 := hta.box.cell 0
   have q1 := hta.box.cell 1
   have hxr := hU.xr
   have XR9 := kide hU.xr
   have BL9 := kide hU.bl
   clear hU hK hta htl hk1 hk2 hkl hlb hall hxr
   obtain ⟨tn, htn⟩ : ∃ tn, tl.length = tn := ⟨_, rfl⟩
   rw [htn] at HTA q0
   have HTN := kide htn
   clear htn
   simp at q0 q1
   by_cases h1n : 1 < n
   ·have h1i : (1 : Int) < (n : Int) := by omega
    have hkdl : (kdS ds xs (bwd n h0n n)).length = n := by unfold kdS; rw [List.length_map, (unfTo_len ds _).1, cmS_len, bwd_length]
    have hndl : (ndS ds xs (bwd n h0n n)).length ≤ 4000 := by
     have h8 := (unfTo_len ds (cmS xs (bwd n h0n n))).2.2
     rw [cmS_len, bwd_length] at h8
     have := HNL.out
     unfold ndS
     omega
    have hll : tl.length ≤ 100000 := by
     have h8 := (len_shAll (ns := ndS ds xs (bwd n h0n n)) (unfTo_ahead ds _)).1
     rw [← HTL.out, List.length_map] at h8
     omega
    have hcl := addNG_any s g (A + 3) W.heap.size (.slice ta tn tc) tD tl ⟨3, 0, 0, 0, 0, [], []⟩ ⟨3, 0, 0, 0, 0, [], (unfTo ds (cmS xs (bwd n h0n n))).2⟩ none none ka 0 0 0 kc (kdS ds xs (bwd n h0n n)) (ndS ds xs (bwd n h0n n)) w1 W BL9.out HTA.out (Rd.none0 _) (fun _ => rfl) (oi_ni HK2.out (by rw [hkdl]; omega)) (fun x hx => (HTA.out.ts.below x hx).1) (fun x hx p q hp hq e => HKL.out x hx p hp (by rw [oi_own HK2.out hq, e])) (by omega) BL9.out.size (Nat.le_refl _) (okN_plain 3 0 0 0 (in64c (by omega)) (in64c (by omega)) (in64c (by omega)) (in64c (by omega)) (fun j hj => by have h9 := kdS_rg ds xs _ j hj; omega) (by rw [hkdl]; have := HNL.out; omega)) hll rfl HTL.out
    rw [hkdl] at hcl
    have HCL := kide hcl
    clear hcl hkdl hndl hll
    gi_wp2
    refine ⟨trivial, (callsIn_wide.2 HCL.out).mono ?_⟩
    rintro e w3 ⟨v3, D3, l3, i3, rfl, har3, hl3, hi3, hb3, hk3, -⟩
    have XR3 : Hid (Bz w3 (b0 + 1) #[.slice none 0 0] 30) := (hk3.1 _ _ _ _ (by decide) (by decide) XR9.out).trans XR9.out
    have XA3 : Hid (Bz w3 A #[.pointer (some ⟨s, 0, none⟩)] 79) := (hk3.1 _ _ _ _ (by decide) (by decide) HU.out.xa).trans HU.out.xa
    have KD3 : Hid (w3.heap[D]? = some (Obj.deferred (some []))) := hk3.2.1 D _ rfl (fun e => by
     obtain ⟨es, ck, h9⟩ := own_isMapN HTA.out.mp
     rw [← e, HKD.out] at h9
     cases h9) HKD.out
    have HNN : Hid (l3.map Tg.ct = (shAll (unfN ds (xs.map Sg.ct))).1) := by
     show _ = _
     rw [hl3]
     unfold ndS unfN
     rw [HALL.out, if_pos (by rw [List.length_map, HN.out]; exact h1n)]
    have BL3 := kide hb3
    obtain ⟨ua, uc, rfl⟩ := har3.ts.form
    obtain ⟨un, hun⟩ : ∃ un, l3.length = un := ⟨_, rfl⟩
    have hq0 := har3.box.cell 0
    have HTS3 := kide har3.ts
    have HTN9 := kide hun
    rw [hun] at hq0 HTS3
    have d2' := XA3.out.cell 0
    simp at hq0 d2'
    clear har3 hl3 hi3 hb3 hk3 hun q0 q1 d2 d3
    have d9 := XR3.out.cell 0
    have f9 := XR3.out.froz 0
    simp at d9
    have zb := HB0.out
    by_cases hc4 : un ≤ 400
    ·have h4i : ¬ (400 : Int) < (un : Int) := by omega
     have hR : R = ((l3).map Tg.ct, true) := by
      rw [← HRR.out, unfR, if_pos HFT.out, ← HNN.out, if_pos (by rw [List.length_map, HTN9.out]; exact hc4)]
     have B9 : Hid (Below w.heap.size w (w3.setCell ⟨b0 + 1, 0, none⟩ (Value.slice ua un uc))) := (B1.out.trans (BL3.out.mono hwA)).setCell (by simp only []; omega) _
     have y0 : (w3.setCell ⟨b0 + 1, 0, none⟩ (Value.slice ua un uc)).cell? ⟨b0 + 1, 0, none⟩ = some (Value.slice ua un uc) := (XR3.out.set 0 _).cell 0
     have hD9 : (w3.setCell ⟨b0 + 1, 0, none⟩ (Value.slice ua un uc)).heap[D]? = some (Obj.deferred (some [])) := (heap_setCell_other _ _ _ _ (fun e => by
      simp only [] at e
      have h8 := XR3.out
      unfold Bz at h8
      rw [← e, KD3.out] at h8
      cases h8)).trans KD3.out
     have Y0 := kide y0
     have HD9 := kide hD9
     have hts : Ts (w3.setCell ⟨b0 + 1, 0, none⟩ (Value.slice ua un uc)) w.heap.size (Value.slice ua un uc) (l3) := Ts.mono (ts_setU HTS3.out XR3.out (by decide) (by decide) (by decide) 0 _) hwA
     have HTS := kide hts
     clear y0 hD9 hts
     have hD7 : w.heap.size ≤ D := by omega
     gi_wp2
     have y0 := cell_putD (ob := .deferred none) Y0.out HD9.out
     try rw [hR]
     refine ⟨by simp, .inl ⟨_, _, rfl, run_takeDeferred HD9.out, ?_⟩⟩
     exact ⟨.tuple #[.agg #[.slice ua un uc], .bool true], by simp [results, Tryz.results22, go_sem, y0], ⟨_, l3, rfl, ts_putD HTS.out HD9.out, rfl, below_putD B9.out (by omega)⟩⟩
    ·have h4i : (400 : Int) < (un : Int) := by omega
     have hR : R = ([], false) := by
      rw [← HRR.out, unfR, if_pos HFT.out, ← HNN.out, if_neg (by rw [List.length_map, HTN9.out]; exact hc4)]
     have B9 : Hid (Below w.heap.size w (w3.setCell ⟨b0 + 1, 0, none⟩ (Value.slice none 0 0))) := (B1.out.trans (BL3.out.mono hwA)).setCell (by simp only []; omega) _
     have y0 : (w3.setCell ⟨b0 + 1, 0, none⟩ (Value.slice none 0 0)).cell? ⟨b0 + 1, 0, none⟩ = some (Value.slice none 0 0) := (XR3.out.set 0 _).cell 0
     have hD9 : (w3.setCell ⟨b0 + 1, 0, none⟩ (Value.slice none 0 0)).heap[D]? = some (Obj.deferred (some [])) := (heap_setCell_other _ _ _ _ (fun e => by
      simp only [] at e
      have h8 := XR3.out
      unfold Bz at h8
      rw [← e, KD3.out] at h8
      cases h8)).trans KD3.out
     have Y0 := kide y0
     have HD9 := kide hD9
     clear y0 hD9
     have hD7 : w.heap.size ≤ D := by omega
     gi_wp2
     have y0 := cell_putD (ob := .deferred none) Y0.out HD9.out
     try rw [hR]
     refine ⟨by simp, .inl ⟨_, _, rfl, run_takeDeferred HD9.out, ?_⟩⟩
     exact ⟨.tuple #[.agg #[.slice none 0 0], .bool false], by simp [results, Tryz.results22, go_sem, y0], ⟨.slice none 0 0, [], rfl, Ts.nil _ _, rfl, below_putD B9.out (by omega)⟩⟩
   ·have h1i : ¬ (1 : Int) < (n : Int) := by omega
    have HTN9 := HTN
    have HNN : Hid (tl.map Tg.ct = (shAll (unfN ds (xs.map Sg.ct))).1) := by
     show _ = _
     rw [HTL.out]
     unfold ndS unfN
     rw [HALL.out, if_neg (by rw [List.length_map, HN.out]; exact h1n)]
    have HTS9 := kide HTA.out.ts
    have d9 := XR9.out.cell 0
    have f9 := XR9.out.froz 0
    simp at d9
    have zb := HB0.out
    by_cases hc4 : tn ≤ 400
    ·have h4i : ¬ (400 : Int) < (tn : Int) := by omega
     have hR : R = ((tl).map Tg.ct, true) := by
      rw [← HRR.out, unfR, if_pos HFT.out, ← HNN.out, if_pos (by rw [List.length_map, HTN9.out]; exact hc4)]
     have B9 : Hid (Below w.heap.size w (W.setCell ⟨b0 + 1, 0, none⟩ (Value.slice ta tn tc))) := (B1.out.trans (BL9.out.mono hwA)).setCell (by simp only []; omega) _
     have y0 : (W.setCell ⟨b0 + 1, 0, none⟩ (Value.slice ta tn tc)).cell? ⟨b0 + 1, 0, none⟩ = some (Value.slice ta tn tc) := (XR9.out.set 0 _).cell 0
     have hD9 : (W.setCell ⟨b0 + 1, 0, none⟩ (Value.slice ta tn tc)).heap[D]? = some (Obj.deferred (some [])) := (heap_setCell_other _ _ _ _ (fun e => by
      simp only [] at e
      have h8 := XR9.out
      unfold Bz at h8
      rw [← e, HKD.out] at h8
      cases h8)).trans HKD.out
     have Y0 := kide y0
     have HD9 := kide hD9
     have hts : Ts (W.setCell ⟨b0 + 1, 0, none⟩ (Value.slice ta tn tc)) w.heap.size (Value.slice ta tn tc) (tl) := Ts.mono (ts_setU HTS9.out XR9.out (by decide) (by decide) (by decide) 0 _) hwA
     have HTS := kide hts
     clear y0 hD9 hts
     have hD7 : w.heap.size ≤ D := by omega
     gi_wp2
     have y0 := cell_putD (ob := .deferred none) Y0.out HD9.out
     try rw [hR]
     refine ⟨by simp, .inl ⟨_, _, rfl, run_takeDeferred HD9.out, ?_⟩⟩
     exact ⟨.tuple #[.agg #[.slice ta tn tc], .bool true], by simp [results, Tryz.results22, go_sem, y0], ⟨_, tl, rfl, ts_putD HTS.out HD9.out, rfl, below_putD B9.out (by omega)⟩⟩
    ·have h4i : (400 : Int) < (tn : Int) := by omega
     have hR : R = ([], false) := by
      rw [← HRR.out, unfR, if_pos HFT.out, ← HNN.out, if_neg (by rw [List.length_map, HTN9.out]; exact hc4)]
     have B9 : Hid (Below w.heap.size w (W.setCell ⟨b0 + 1, 0, none⟩ (Value.slice none 0 0))) := (B1.out.trans (BL9.out.mono hwA)).setCell (by simp only []; omega) _
     have y0 : (W.setCell ⟨b0 + 1, 0, none⟩ (Value.slice none 0 0)).cell? ⟨b0 + 1, 0, none⟩ = some (Value.slice none 0 0) := (XR9.out.set 0 _).cell 0
     have hD9 : (W.setCell ⟨b0 + 1, 0, none⟩ (Value.slice none 0 0)).heap[D]? = some (Obj.deferred (some [])) := (heap_setCell_other _ _ _ _ (fun e => by
      simp only [] at e
      have h8 := XR9.out
      unfold Bz at h8
      rw [← e, HKD.out] at h8
      cases h8)).trans HKD.out
     have Y0 := kide y0
     have HD9 := kide hD9
     clear y0 hD9
     have hD7 : w.heap.size ≤ D := by omega
     gi_wp2
     have y0 := cell_putD (ob := .deferred none) Y0.out HD9.out
     try rw [hR]
     refine ⟨by simp, .inl ⟨_, _, rfl, run_takeDeferred HD9.out, ?_⟩⟩
     exact ⟨.tuple #[.agg #[.slice none 0 0], .bool false], by simp [results, Tryz.results22, go_sem, y0], ⟨.slice none 0 0, [], rfl, Ts.nil _ _, rfl, below_putD B9.out (by omega)⟩⟩

open Go.RowKit
def norR (ds : List Dc) (ns : List Tc) : List Tc × Bool := if (fltR ds ns).2 = true then unfR ds (fltR ds ns).1 else ([], false)
theorem RetUf.low {w u : World} {X : List Tc × Bool} {e : Ending} {w' : World} (h : RetUf u X e w') (hb : Below w.heap.size w u) : RetUf w X e w' := by
 obtain ⟨v, l, h1, h2, h3, h4⟩ := h
 exact ⟨v, l, h1, h2.mono hb.size, h3, hb.trans (h4.mono hb.size)⟩
theorem norR_ok (ds : List Dc) {ns : List Tc} (hv : ∀ n ∈ ns, in64 n.vr) (hds : ds.length ≤ 1048576) : (norR ds ns).1.length ≤ 1048576 ∧ ∀ y ∈ (norR ds ns).1, okT y := by
 unfold norR
 split
 ·exact unfR_ok hds fun s hs => by
   obtain ⟨-, -, -, h4, h5, h6⟩ := (flt_ok ds ns hv).1 s hs
   exact ⟨h4, h5, h6⟩
 ·exact ⟨by simp, by simp⟩
set_option maxHeartbeats 2000000 in
set_option maxRecDepth 100000 in
theorem implNormal_any (da ta : Option Addr) (dc tc n : Nat) (ds : List Dc) (xs : List Tg) (w : World) (hd : RdD w da ds) (ht : RdT w ta xs) (hn : xs.length = n) (hG : GF w) (hno : ∀ x ∈ xs, x.wa = none → x.wc = 0) (hpw : ∀ x ∈ xs, ∀ q, x.wa = some q → q.block < w.heap.size) (hpk : ∀ x ∈ xs, ∀ q, x.ka = some q → q.block < w.heap.size) :
  Calls Tryz.prog 9 #[.slice da ds.length dc, .agg #[.slice ta n tc]] w (RetUf w (norR ds (xs.map Tg.ct))) := by
 have HFL := kide (fun u (hu : Below w.heap.size w u) => implFlattenN_any da ta dc tc n ds xs u (hd.later hu) (ht.later hu) hn (hG.later hu) hno (fun x hx q hq => Nat.lt_of_lt_of_le (hpw x hx q hq) hu.size) (fun x hx q hq => Nat.lt_of_lt_of_le (hpk x hx q hq) hu.size))
 have HUN := kide (fun (a : Option Addr) (c m : Nat) (ys : List Sg) (u : World) (hu : Below w.heap.size w u) => implUnf_any a da c dc m ds ys u (hd.later hu))
 obtain ⟨hok, hlen⟩ := flt_ok ds (xs.map Tg.ct) ht.v64
 have HOK := kide hok
 have HLEN := kide hlen
 obtain ⟨F, hF⟩ : ∃ F, (fltR ds (xs.map Tg.ct)).1 = F := ⟨_, rfl⟩
 obtain ⟨xb, hQ⟩ : ∃ Q, (fltR ds (xs.map Tg.ct)).2 = Q := ⟨_, rfl⟩
 obtain ⟨R, hR⟩ : ∃ R, norR ds (xs.map Tg.ct) = R := ⟨_, rfl⟩
 rw [hR]
 unfold norR at hR
 obtain ⟨nd, hnd⟩ : ∃ n, ds.length = n := ⟨_, rfl⟩
 rw [hQ, hF] at hR
 rw [hF] at HOK HLEN
 rw [hnd] at HFL HUN ⊢
 have HF := kide hF
 have HQ := kide hQ
 have HR := kide hR
 have BA : Hid (Below w.heap.size w ((w.alloc (Obj.cells #[.slice ta n tc] 30)).alloc (Obj.cells #[.slice none 0 0] 30))) := (blA _ _).alloc (by simp) _
 have X0 : Hid (Bz ((w.alloc (Obj.cells #[.slice ta n tc] 30)).alloc (Obj.cells #[.slice none 0 0] 30)) (w.heap.size + 1) #[.slice none 0 0] 30) := by
  have h9 := Bz.new (w.alloc (Obj.cells #[.slice ta n tc] 30)) #[.slice none 0 0] 30
  rw [show (w.alloc (Obj.cells #[.slice ta n tc] 30)).heap.size = w.heap.size + 1 by simp] at h9
  exact h9
 clear hd ht hn hok hlen hR hF hQ hG hno hpw hpk
 go_enter Tryz.func9, Tryz.ntmps9
 go_wp2_with fail
 generalize (w.alloc (Obj.cells #[.slice ta n tc] 30)).alloc (Obj.cells #[.slice none 0 0] 30) = W0 at *
 obtain ⟨b1, hb1⟩ : ∃ b1, w.heap.size + 1 = b1 := ⟨_, rfl⟩
 have HB1 : Hid (w.heap.size ≤ b1) := by show _ ≤ _; omega
 try simp only [hb1]
 rw [hb1] at X0
 clear hb1
 refine Calls.mono (HFL.out _ BA.out) ?_
 rintro e w2 ⟨v, l, rfl, el, hs, -, hb, no⟩
 rw [HQ.out]
 rw [HF.out] at el
 have B2 := kide (BA.out.trans (hb.mono BA.out.size))
 have X2 := kide (X0.out.later hb)
 have SS := kide hs
 have EL := kide el
 have NO := kide no
 obtain ⟨va, vc, rfl⟩ := hs.1.form
 clear hb hs el no
 have hl := lenF_map EL.out rfl
 have HL := kide hl
 have HU2 := kide (HUN.out va vc l.length l w2 B2.out (SS.out.rds (by rw [hl]; exact Nat.le_trans HLEN.out (by decide)) (okF_map EL.out HOK.out)) rfl NO.out)
 clear hl
 cases xb with
 | true =>
  go_wp2_with fail
  refine Calls.mono HU2.out ?_
  intro e w3 h3
  have h4 := h3.low B2.out
  have HRR := HR.out
  first | rw [if_pos rfl, ← EL.out] at HRR | rw [if_pos trivial, ← EL.out] at HRR
  rw [HRR] at h4
  obtain ⟨v, l3, rfl, ts, ec, hb4⟩ := h4
  obtain ⟨v', l', e', -, -, hb3⟩ := h3
  obtain ⟨v3, c3, rfl⟩ := ts.form
  have X3 := kide (X2.out.later hb3)
  have d0 := X3.out.cell 0
  have f0 := X3.out.froz 0
  simp at d0
  have T9 := kide (ts_setU ts X3.out (by decide) (by decide) (by decide) 0 (.slice v3 l3.length c3))
  have B9 : Hid (Below w.heap.size w (w3.setCell ⟨b1, 0, none⟩ (.slice v3 l3.length c3))) := hb4.setCell (by simp only []; exact HB1.out) _
  have y0 : (w3.setCell ⟨b1, 0, none⟩ (.slice v3 l3.length c3)).cell? ⟨b1, 0, none⟩ = some (.slice v3 l3.length c3) := (X3.out.set 0 _).cell 0
  have Y0 := kide y0
  have EC := kide ec
  clear y0 hb3 hb4 ts ec e'
  go_wp2_with fail
  have y0 := Y0.out
  exact bodyPost_ret (v := .tuple #[.agg #[.slice v3 l3.length c3], .bool R.2]) (by simp [results, Tryz.results9, go_sem, y0]) rfl ⟨_, l3, rfl, T9.out, EC.out, B9.out⟩
 | false =>
  have HRR := HR.out
  first | rw [if_neg not_false] at HRR | rw [if_neg (by simp)] at HRR
  subst HRR
  have d0 := X2.out.cell 0
  have f0 := X2.out.froz 0
  simp at d0
  have B9 : Hid (Below w.heap.size w (w2.setCell ⟨b1, 0, none⟩ (Value.slice none 0 0))) := B2.out.setCell (by simp only []; exact HB1.out) _
  have y0 : (w2.setCell ⟨b1, 0, none⟩ (Value.slice none 0 0)).cell? ⟨b1, 0, none⟩ = some (Value.slice none 0 0) := (X2.out.set 0 _).cell 0
  have Y0 := kide y0
  clear y0
  go_wp2_with fail
  have y0 := Y0.out
  exact bodyPost_ret (v := .tuple #[.agg #[.slice none 0 0], .bool false]) (by simp [results, Tryz.results9, go_sem, y0]) rfl ⟨.slice none 0 0, [], rfl, Ts.nil _ _, rfl, B9.out⟩
set_option maxHeartbeats 2000000 in
set_option maxRecDepth 100000 in
theorem specNormal_any (da ta : Option Addr) (dc tc n : Nat) (ds : List Dc) (xs : List Tg) (w : World) (hd : RdD w da ds) (ht : RdT w ta xs) (hn : xs.length = n) :
  Calls Tryz.prog 6 #[.slice da ds.length dc, .agg #[.slice ta n tc]] w (RetUf w (norR ds (xs.map Tg.ct))) := by
 have HFL := kide (fun u (hu : Below w.heap.size w u) => specFlattenN_any da ta dc tc n ds xs u (hd.later hu) (ht.later hu) hn)
 have HUN := kide (fun (a : Option Addr) (c m : Nat) (ys : List Sg) (u : World) (hu : Below w.heap.size w u) => specUnf_any a da c dc m ds ys u (hd.later hu))
 obtain ⟨hok, hlen⟩ := flt_ok ds (xs.map Tg.ct) ht.v64
 have HOK := kide hok
 have HLEN := kide hlen
 obtain ⟨F, hF⟩ : ∃ F, (fltR ds (xs.map Tg.ct)).1 = F := ⟨_, rfl⟩
 obtain ⟨xb, hQ⟩ : ∃ Q, (fltR ds (xs.map Tg.ct)).2 = Q := ⟨_, rfl⟩
 obtain ⟨R, hR⟩ : ∃ R, norR ds (xs.map Tg.ct) = R := ⟨_, rfl⟩
 rw [hR]
 unfold norR at hR
 obtain ⟨nd, hnd⟩ : ∃ n, ds.length = n := ⟨_, rfl⟩
 rw [hQ, hF] at hR
 rw [hF] at HOK HLEN
 rw [hnd] at HFL HUN ⊢
 have HF := kide hF
 have HQ := kide hQ
 have HR := kide hR
 have BA : Hid (Below w.heap.size w ((w.alloc (Obj.cells #[.slice ta n tc] 30)).alloc (Obj.cells #[.slice none 0 0] 30))) := (blA _ _).alloc (by simp) _
 have X0 : Hid (Bz ((w.alloc (Obj.cells #[.slice ta n tc] 30)).alloc (Obj.cells #[.slice none 0 0] 30)) (w.heap.size + 1) #[.slice none 0 0] 30) := by
  have h9 := Bz.new (w.alloc (Obj.cells #[.slice ta n tc] 30)) #[.slice none 0 0] 30
  rw [show (w.alloc (Obj.cells #[.slice ta n tc] 30)).heap.size = w.heap.size + 1 by simp] at h9
  exact h9
 clear hd ht hn hok hlen hR hF hQ
 go_enter Tryz.func6, Tryz.ntmps6
 go_wp2_with fail
 generalize (w.alloc (Obj.cells #[.slice ta n tc] 30)).alloc (Obj.cells #[.slice none 0 0] 30) = W0 at *
 obtain ⟨b1, hb1⟩ : ∃ b1, w.heap.size + 1 = b1 := ⟨_, rfl⟩
 have HB1 : Hid (w.heap.size ≤ b1) := by show _ ≤ _; omega
 try simp only [hb1]
 rw [hb1] at X0
 clear hb1
 refine Calls.mono (HFL.out _ BA.out) ?_
 rintro e w2 ⟨v, l, rfl, el, hs, hb, no⟩
 rw [HQ.out]
 rw [HF.out] at el
 have B2 := kide (BA.out.trans (hb.mono BA.out.size))
 have X2 := kide (X0.out.later hb)
 have SS := kide hs
 have EL := kide el
 have NO := kide no
 obtain ⟨va, vc, rfl⟩ := hs.1.form
 clear hb hs el no
 have hl := lenF_map EL.out rfl
 have HL := kide hl
 have HU2 := kide (HUN.out va vc l.length l w2 B2.out (SS.out.rds (by rw [hl]; exact Nat.le_trans HLEN.out (by decide)) (okF_map EL.out HOK.out)) rfl NO.out)
 clear hl
 cases xb with
 | true =>
  go_wp2_with fail
  refine Calls.mono HU2.out ?_
  intro e w3 h3
  have h4 := h3.low B2.out
  have HRR := HR.out
  first | rw [if_pos rfl, ← EL.out] at HRR | rw [if_pos trivial, ← EL.out] at HRR
  rw [HRR] at h4
  obtain ⟨v, l3, rfl, ts, ec, hb4⟩ := h4
  obtain ⟨v', l', e', -, -, hb3⟩ := h3
  obtain ⟨v3, c3, rfl⟩ := ts.form
  have X3 := kide (X2.out.later hb3)
  have d0 := X3.out.cell 0
  have f0 := X3.out.froz 0
  simp at d0
  have T9 := kide (ts_setU ts X3.out (by decide) (by decide) (by decide) 0 (.slice v3 l3.length c3))
  have B9 : Hid (Below w.heap.size w (w3.setCell ⟨b1, 0, none⟩ (.slice v3 l3.length c3))) := hb4.setCell (by simp only []; exact HB1.out) _
  have y0 : (w3.setCell ⟨b1, 0, none⟩ (.slice v3 l3.length c3)).cell? ⟨b1, 0, none⟩ = some (.slice v3 l3.length c3) := (X3.out.set 0 _).cell 0
  have Y0 := kide y0
  have EC := kide ec
  clear y0 hb3 hb4 ts ec e'
  go_wp2_with fail
  have y0 := Y0.out
  exact bodyPost_ret (v := .tuple #[.agg #[.slice v3 l3.length c3], .bool R.2]) (by simp [results, Tryz.results6, go_sem, y0]) rfl ⟨_, l3, rfl, T9.out, EC.out, B9.out⟩
 | false =>
  have HRR := HR.out
  first | rw [if_neg not_false] at HRR | rw [if_neg (by simp)] at HRR
  subst HRR
  have d0 := X2.out.cell 0
  have f0 := X2.out.froz 0
  simp at d0
  have B9 : Hid (Below w.heap.size w (w2.setCell ⟨b1, 0, none⟩ (Value.slice none 0 0))) := B2.out.setCell (by simp only []; exact HB1.out) _
  have y0 : (w2.setCell ⟨b1, 0, none⟩ (Value.slice none 0 0)).cell? ⟨b1, 0, none⟩ = some (Value.slice none 0 0) := (X2.out.set 0 _).cell 0
  have Y0 := kide y0
  clear y0
  go_wp2_with fail
  have y0 := Y0.out
  exact bodyPost_ret (v := .tuple #[.agg #[.slice none 0 0], .bool false]) (by simp [results, Tryz.results6, go_sem, y0]) rfl ⟨.slice none 0 0, [], rfl, Ts.nil _ _, rfl, B9.out⟩

end Go.Proofs.YtnpjgoklpaigjaaGreatDoor
