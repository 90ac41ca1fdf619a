/- What follows from numbers, on the given side. -/
import Derived.Test.YtmfamdonbgmjbaaDoorUNC
import Derived.Test.YtmfamdonbgmjbaaDoorOIN
import Derived.Test.YtmfamdonbgmjbaaDoorAPX
import Derived.Test.YtmfamdonbgmjbaaDoorLAX
import Derived.Handy
namespace Go.Proofs.YtmfamdonbgmjbaaDoor
set_option linter.unusedVariables false
set_option linter.unusedSimpArgs false
open Go.RowKit

theorem stT_nil (S : Nat) : stT S [] = List.replicate (S + 1) 0 := by
  unfold stT
  rw [List.eq_replicate_iff]
  refine ⟨by simp, fun b hb => ?_⟩
  obtain ⟨j, -, rfl⟩ := List.mem_map.1 hb
  simp
theorem stT_in {S : Nat} {T : List Int} (hS : S ≤ 400) : ∀ x ∈ stT S T, in64 x := fun x hx => by
  obtain ⟨j, hj, rfl⟩ := List.mem_map.1 hx
  have := List.mem_range.1 hj
  unfold in64
  split
  · omega
  · split <;> omega
theorem Tk.take {S : Nat} {T : List Int} (h : Tk S T) (k : Nat) : Tk S (T.take k) := ⟨fun n hn => h.num n (List.mem_of_mem_take hn), by rw [List.map_take]; exact h.nd.sublist (List.take_sublist _ _)⟩
theorem Tk.next {S : Nat} {T : List Int} (h : Tk S T) {k : Nat} {x : Int} (hx : T[k]? = some x) : x ∉ T.take k ∧ -x ∉ T.take k := by
  have hT := h.take (k + 1)
  rw [List.take_add_one, hx, Option.toList_some] at hT
  have hnd := hT.nd
  rw [List.map_append, List.map_cons, List.map_nil, List.nodup_append] at hnd
  have key : ∀ y ∈ T.take k, absI y ≠ absI x := fun y hy => hnd.2.2 (absI y) (List.mem_map_of_mem hy) (absI x) (by simp)
  exact ⟨fun hm => key x hm rfl, fun hm => key (-x) hm (absI_neg x)⟩
/-- Two rows: what stands, and the numbers in their order. -/
structure Ur (w : World) (S N1 : Nat) (cs : Array Value) (ov : Value) (T O : List Int) (wr : World) : Prop where
  bx : Bz wr w.heap.size cs 29
  st : OI wr (w.heap.size + 1) (.slice (some ⟨w.heap.size + 1, 0, none⟩) N1 N1) (stT S T)
  ot : OI wr (w.heap.size + 2) ov O
  bel : Below w.heap.size w wr
theorem Ur.later {w wr u : World} {S N1 : Nat} {cs : Array Value} {ov : Value} {T O : List Int} (h : Ur w S N1 cs ov T O wr) (hb : Below wr.heap.size wr u) : Ur w S N1 cs ov T O u := ⟨h.bx.later hb, h.st.later hb, h.ot.later hb, h.bel.trans (hb.mono h.bel.size)⟩
theorem bz_oi {w w' : World} {b B : Nat} {v : Value} {l : List Int} {cs : Array Value} {t : TypeId} (hb : Bz w b cs t) (h : OI w B v l) (hB : b < B) (hg : w.grownBy w' v.ownBlock) : Bz w' b cs t := by
  unfold Bz at hb ⊢
  rw [hg.block b (lt_of_block hb) (fun e => by have := (h.lt e.symm).1; omega)]
  exact hb
/-- The row of numbers grows. -/
theorem Ur.app {w wr u : World} {S N1 : Nat} {cs : Array Value} {ov ov' : Value} {T O O' : List Int} (h : Ur w S N1 cs ov T O wr) (ho : OI u (w.heap.size + 2) ov' O') (hg : wr.grownBy u ov.ownBlock) : Ur w S N1 cs ov' T O' u := by
  refine ⟨bz_oi h.bx h.ot (by omega) hg, h.st.move fun b hb => ?_, ho, h.bel.trans ⟨hg.os, hg.tape, hg.output, hg.size, fun k hk => hg.block k (Nat.lt_of_lt_of_le hk h.bel.size) (fun e => by have := (h.ot.lt e.symm).1; omega)⟩⟩
  have hb2 : w.heap.size + 1 = b := Option.some.inj hb
  subst hb2
  exact hg.block _ (h.st.lt (b := w.heap.size + 1) rfl).2 (fun e => by have := (h.ot.lt e.symm).1; omega)
/-- One more stands. -/
theorem Ur.put {w wr : World} {S N1 : Nat} {cs : Array Value} {ov : Value} {T O : List Int} {x : Int} {j : Nat} (h : Ur w S N1 cs ov T O wr) (h2 : x ∉ T) (h3 : -x ∉ T) (hj : absI x = (j : Int)) (hjS : j ≤ S) : Ur w S N1 cs ov (T ++ [x]) O (wr.setCell ⟨w.heap.size + 1, j, none⟩ (.int .i64 x)) := by
  have hst := h.st.setO (i := j) (by rw [stT_len]; omega) x
  refine ⟨?_, ?_, h.ot.move fun b hb => heap_setCell_other _ _ _ _ (fun e => ?_), h.bel.setCell (by simp only []; omega) _⟩
  · unfold Bz
    rw [heap_setCell_other _ _ _ _ (fun e => by simp only [] at e; omega)]
    exact h.bx
  · rw [stT_snoc h2 h3, hj, Int.toNat_natCast]
    exact hst
  · have := (h.ot.lt hb).1
    simp only [] at e
    omega
def lnV (v : Value) : Nat := match v with | .slice _ n _ => n | _ => 0
theorem OI.lnV {w : World} {B : Nat} {v : Value} {l : List Int} (h : OI w B v l) : lnV v = l.length := by
  rcases h.2 with ⟨rfl, h0⟩ | ⟨g, cap, cur, rfl, -⟩
  · rw [h0]; rfl
  · rfl
theorem OI.form9 {w : World} {B : Nat} {v : Value} {l : List Int} (h : OI w B v l) : ∃ a c, v = .slice a l.length c := by
  rcases h.2 with ⟨rfl, h0⟩ | ⟨g, cap, cur, rfl, -⟩
  · exact ⟨none, 0, by rw [h0]⟩
  · exact ⟨_, cap, rfl⟩
def RetUn (R : List Int × Bool) (w : World) (e : Ending) (w' : World) : Prop := ∃ v, e = .returned (.tuple #[v, .bool R.2]) ∧ OI w' w.heap.size v R.1 ∧ Below w.heap.size w w'
theorem OI.lowI {w : World} {B B' : Nat} {v : Value} {l : List Int} (h : OI w B v l) (hB : B' ≤ B) : OI w B' v l := by
  obtain ⟨h1, h2⟩ := h
  refine ⟨h1, ?_⟩
  rcases h2 with h2 | ⟨g, cap, cur, rfl, hg, hh, r⟩
  · exact .inl h2
  · exact .inr ⟨g, cap, cur, rfl, by omega, hh, r⟩

set_option maxHeartbeats 2000000 in
set_option maxRecDepth 100000 in
theorem l18Unit_any {S : Nat} (ca sa : Option Addr) (cc nc sc ns : Nat) (xs : List Iw) (set : List Int) (w : World) (hc : RdII w ca xs) (hnc : xs.length = nc) (hs : RdI w sa set) (hns : set.length = ns) (hs0 : sa = none → sc = 0) (hk : cnfR (S : Int) (xs.map Iw.ks) = true) (hT : Tk S set) :
    Calls Tryd.prog 32 #[.agg #[.int .i64 (S : Int), .slice ca nc cc], .slice sa ns sc] w (RetUn (unF (S + 1) (xs.map Iw.ks) set) w) := by
  obtain ⟨⟨-, hS4⟩, hc4, hcl⟩ := cnfR_in hk
  have hS : S ≤ 400 := by omega
  obtain ⟨R, hR⟩ : ∃ R, unF (S + 1) (xs.map Iw.ks) set = R := ⟨_, rfl⟩
  have HU : Hid (Uq S (xs.map Iw.ks) set R) := by rw [← hR]; exact Uq.start S _ set
  rw [hR]
  obtain ⟨N1, hN1⟩ : ∃ N1, S + 1 = N1 := ⟨_, rfl⟩
  have hmk : ∀ (kl kc : IntKind) (u : World), (Instr.makeSlice 25 (.int kl ((S : Int) + 1)) (.int kc ((S : Int) + 1))).run Tryd.prog u = .ok (.slice (some ⟨u.heap.size, 0, none⟩) N1 N1) (u.alloc (.cells (madeCells #[.int .i64 0] N1) 2)) := fun kl kc u => by
    have h := make_i64s N1 (by omega) kl kc u
    rwa [show ((N1 : Nat) : Int) = (S : Int) + 1 by omega] at h
  have hSw : IntKind.i64.wrap ((S : Int) + 1) = (S : Int) + 1 := by rw [IntKind.wrap_i64]; omega
  -- the box, the table, the empty row
  obtain ⟨w3, hw3⟩ : ∃ w3, ((w.alloc (Obj.cells #[Value.int .i64 (S : Int), Value.slice ca nc cc] 29)).alloc (.cells (madeCells #[.int .i64 0] N1) 2)).alloc (.cells #[] 2) = w3 := ⟨_, rfl⟩
  have U0 : Hid (Ur w S N1 #[Value.int .i64 (S : Int), Value.slice ca nc cc] (.slice (some ⟨w.heap.size + 2, 0, none⟩) 0 0) [] [] w3) := by
    have a1 : Below w.heap.size w (w.alloc (Obj.cells #[Value.int .i64 (S : Int), Value.slice ca nc cc] 29)) := (Below.refl _ _).alloc (Nat.le_refl _) _
    have a2 : Below (w.heap.size + 1) (w.alloc (Obj.cells #[Value.int .i64 (S : Int), Value.slice ca nc cc] 29)) ((w.alloc (Obj.cells #[Value.int .i64 (S : Int), Value.slice ca nc cc] 29)).alloc (.cells (madeCells #[.int .i64 0] N1) 2)) := (Below.refl _ _).alloc (by simp) _
    have a3 : Below (w.heap.size + 2) ((w.alloc (Obj.cells #[Value.int .i64 (S : Int), Value.slice ca nc cc] 29)).alloc (.cells (madeCells #[.int .i64 0] N1) 2)) w3 := by rw [← hw3]; exact (Below.refl _ _).alloc (by simp) _
    have z1 := OI.zeros (w.alloc (Obj.cells #[Value.int .i64 (S : Int), Value.slice ca nc cc] 29)) (w.heap.size + 1) N1 (by simp) (by omega)
    have z2 := OI.empty ((w.alloc (Obj.cells #[Value.int .i64 (S : Int), Value.slice ca nc cc] 29)).alloc (.cells (madeCells #[.int .i64 0] N1) 2)) (w.heap.size + 2) (by simp)
    rw [World.size_alloc] at z1
    rw [World.size_alloc, World.size_alloc, hw3] at z2
    refine ⟨((Bz.new w _ _).later (a2.mono (by simp))).later (a3.mono (by simp)), ?_, z2, ?_⟩
    · rw [stT_nil, hN1]
      exact z1.later (a3.mono (by simp))
    · exact a1.trans ((a2.trans (a3.mono (by omega))).mono (by omega))
  have HC := kide hc
  have HNC := kide hnc
  have HST := kide hs
  have HNS := kide hns
  have HS0 := kide hs0
  have HK := kide hcl
  have HT := kide hT
  have HN1 := kide hN1
  have HS4 := kide hS
  have HC4 := kide hc4
  have HCD : Hid (∀ cl ∈ xs.map Iw.ks, Cd cl) := fun cl hm => by
    have h9 := hk
    unfold cnfR at h9
    simp only [Bool.and_eq_true, List.all_eq_true] at h9
    have h8 := h9.2 cl hm
    unfold claR at h8
    simp only [Bool.and_eq_true] at h8
    exact clR_cd h8.2
  have R3 : Hid (RdI w3 sa set) := HST.out.later U0.out.bel
  have hz3 : w.heap.size + 2 ≤ w3.heap.size := (U0.out.st.lt (b := w.heap.size + 1) rfl).2
  have hlen : set.length ≤ 400 := by have := hT.len; omega
  have HLEN := kide hlen
  clear hc hnc hs hns hs0 hk hcl hT hN1 hc4 hS4 hR hlen
  go_enter Tryd.func32, Tryd.ntmps32
  rw [← HNS.out]
  go_wp2_with (refine wpList_appIr _ rfl _ _ rfl (w.heap.size + 2) _ [] set rfl (by first | (rw [hw3]; exact U0.out.ot) | exact U0.out.ot) sa _ rfl HS0.out (by first | (rw [hw3]; exact R3.out) | exact R3.out) (by have := HLEN.out; simp; omega) (by first | (rw [hw3]; exact hz3) | exact hz3) ?_)
  intro v4 w4 ho4 hg4
  have U4 := kide (U0.out.app ho4 hg4)
  clear ho4 hg4 hw3 hz3 R3 hmk hSw
  rw [HNS.out]
  go_wp2_with fail
  have hc1 : Hid (∀ u, Below w.heap.size w u → RdI u sa set) := fun u hu => HST.out.later hu
  go_loopw [8] (fun i wr => ∃ k : Nat, k ≤ ns ∧ i = .int .i64 (k : Int) ∧ Ur w S N1 #[Value.int .i64 (S : Int), Value.slice ca nc cc] v4 (set.take k) set wr) (fun i _ => ns - (intOf i).toNat)
  case atStart => exact ⟨0, Nat.zero_le _, rfl, by rw [List.take_zero]; exact U4.out⟩
  case round =>
    obtain ⟨k, hk, rfl, hu⟩ := hrel
    have HUr := kide hu
    have lbx := hu.bx.lt
    clear hu
    by_cases hlt : k < ns
    · obtain ⟨x, hx⟩ : ∃ x, set[k]? = some x := getE (by rw [HNS.out]; exact hlt)
      obtain ⟨-, -, h | ⟨b1, o1, rfl, hc9⟩⟩ := hc1.out wr HUr.out.bel
      · rw [h] at hx; simp at hx
      have p0 := hc9 k (by rw [HNS.out]; exact hlt)
      rw [show set.getD k 0 = x by simp [List.getD, hx]] at p0
      have hxb := HT.out.num x (List.mem_of_getElem? hx)
      obtain ⟨j, hj1, hj2, hj3, hj4⟩ := stT_at (HT.out.take k) hxb
      obtain ⟨n1, n2⟩ := HT.out.next hx
      have HAB := kide (fun u => l18Abs_any x (by have := HS4.out; omega) u)
      rw [hj1] at HAB
      have HPU := kide (And.intro n1 (And.intro n2 (And.intro hj1 hj3)))
      have HTK := kide (show set.take k ++ [x] = set.take (k + 1) by rw [List.take_add_one, hx, Option.toList_some])
      have k0 : (k : Int) < (ns : Int) := by omega
      have k1 : (j : Int) < (N1 : Int) := by have := HN1.out; omega
      have k2 : IntKind.i64.wrap ((k : Int) + 1) = (k : Int) + 1 := by rw [IntKind.wrap_i64]; have := HLEN.out; have := HNS.out; omega
      have HKL := kide hlt
      have l1 := block_lt_of_cell p0
      clear hc9 hx hxb hj1 hj2 hj3 hj4 n1 n2 hk hlt
      go_wp2_with fail
      refine wp_region_x (SA := fun uu => uu.cell? ⟨b1, o1 + k, none⟩ = some (Value.int .i64 x) ∧ uu.cell? ⟨w.heap.size, 0, none⟩ = some (Value.int .i64 (S : Int))) (SB := fun _ => True) (k := 11) (by kernel_rfl) ?_
      have hbd : Below wr.heap.size wr wr.drew := (Below.refl _ _).drew
      have UU0 := kide (HUr.out.later hbd)
      have c0_0 : wr.drew.cell? ⟨b1, o1 + k, none⟩ = some (Value.int .i64 x) := (hbd.cell (p := ⟨b1, o1 + k, none⟩) l1).trans p0
      have c1_0 : wr.drew.cell? ⟨w.heap.size, 0, none⟩ = some (Value.int .i64 (S : Int)) := UU0.out.bx.cell 0
      clear hbd
      generalize wr.drew = u0 at *
      have hs0 : Hid ((fun uu => uu.cell? ⟨b1, o1 + k, none⟩ = some (Value.int .i64 x) ∧ uu.cell? ⟨w.heap.size, 0, none⟩ = some (Value.int .i64 (S : Int))) u0) := ⟨c0_0, c1_0⟩
      try go_simp
      refine wpAnyX_both (T := fun _ => True) (i := 0) (v := Value.slice (some ⟨w.heap.size + 1, 0, none⟩) N1 N1) rfl (by kernel_rfl) (by kernel_rfl) (by kernel_rfl) (fun _ _ _ h => by first | exact h | exact h.elim) (by decide) (fun _ _ => trivial) (fun _ _ => trivial) (Sx.before (by kernel_rfl) hs0.out) (Or.inl ⟨by rfl, fun uu hu => by go_simp⟩) ?_
      try go_simp
      refine wpAnyX_both (T := fun _ => True) (i := 1) (v := Value.slice (some ⟨b1, o1, none⟩) ns sc) rfl (by kernel_rfl) (by kernel_rfl) (by kernel_rfl) (fun _ _ _ h => by first | exact h | exact h.elim) (by decide) (fun _ _ => trivial) (fun _ _ => trivial) (Sx.before (by kernel_rfl) hs0.out) (Or.inl ⟨by rfl, fun uu hu => by go_simp⟩) ?_
      try go_simp
      refine wpAnyX_both (T := fun _ => True) (i := 2) (v := Value.int .i64 (k : Int)) rfl (by kernel_rfl) (by kernel_rfl) (by kernel_rfl) (fun _ _ _ h => by first | exact h | exact h.elim) (by decide) (fun _ _ => trivial) (fun _ _ => trivial) (Sx.before (by kernel_rfl) hs0.out) (Or.inl ⟨by rfl, fun uu hu => by go_simp⟩) ?_
      try go_simp
      refine wpAnyX_both (T := fun _ => True) (i := 3) (v := Value.pointer (some ⟨b1, o1 + k, none⟩)) rfl (by kernel_rfl) (by kernel_rfl) (by kernel_rfl) (fun _ _ _ h => by first | exact h | exact h.elim) (by decide) (fun _ _ => trivial) (fun _ _ => trivial) (Sx.before (by kernel_rfl) hs0.out) (Or.inl ⟨by rfl, fun uu hu => by go_simp⟩) ?_
      try go_simp
      refine wpAnyX_take (i := 4) (v := Value.int .i64 x) rfl (by kernel_rfl) (by kernel_rfl) (by kernel_rfl) (fun _ _ _ h => by first | exact h | exact h.elim) (by decide) (by kernel_rfl) (by kernel_rfl) hs0.out (Or.inl ⟨by rfl, fun uu hu => by obtain ⟨e0, e1⟩ := hu; go_simp⟩) ?_
      try go_simp
      refine wpAnyX_both (T := fun _ => True) (i := 6) (v := Value.slice (some ⟨b1, o1, none⟩) ns sc) rfl (by kernel_rfl) (by kernel_rfl) (by kernel_rfl) (fun _ _ _ h => by first | exact h | exact h.elim) (by decide) (fun _ _ => trivial) (fun _ _ => trivial) (Sx.before (by kernel_rfl) hs0.out) (Or.inl ⟨by rfl, fun uu hu => by go_simp⟩) ?_
      try go_simp
      refine wpAnyX_both (T := fun _ => True) (i := 7) (v := Value.int .i64 (k : Int)) rfl (by kernel_rfl) (by kernel_rfl) (by kernel_rfl) (fun _ _ _ h => by first | exact h | exact h.elim) (by decide) (fun _ _ => trivial) (fun _ _ => trivial) (Sx.before (by kernel_rfl) hs0.out) (Or.inl ⟨by rfl, fun uu hu => by go_simp⟩) ?_
      try go_simp
      refine wpAnyX_both (T := fun _ => True) (i := 8) (v := Value.pointer (some ⟨b1, o1 + k, none⟩)) rfl (by kernel_rfl) (by kernel_rfl) (by kernel_rfl) (fun _ _ _ h => by first | exact h | exact h.elim) (by decide) (fun _ _ => trivial) (fun _ _ => trivial) (Sx.before (by kernel_rfl) hs0.out) (Or.inl ⟨by rfl, fun uu hu => by go_simp⟩) ?_
      try go_simp
      refine wpAnyX_take (i := 9) (v := Value.int .i64 x) rfl (by kernel_rfl) (by kernel_rfl) (by kernel_rfl) (fun _ _ _ h => by first | exact h | exact h.elim) (by decide) (by kernel_rfl) (by kernel_rfl) hs0.out (Or.inl ⟨by rfl, fun uu hu => by obtain ⟨e0, e1⟩ := hu; go_simp⟩) ?_
      try go_simp
      refine wpAnyX_ready (rs := [5]) (by kernel_rfl) (by simp) (AllX.cons rfl (fun K hK => ?_) AllX.nil)
      go_simp
      refine Calls.mono (HAB.out _) ?_
      rintro e u1 ⟨rfl, hw9⟩
      obtain rfl := hw9
      have UU1 := UU0
      have c0_1 := c0_0
      have c1_1 := c1_0
      have hs1 : Hid ((fun uu => uu.cell? ⟨b1, o1 + k, none⟩ = some (Value.int .i64 x) ∧ uu.cell? ⟨w.heap.size, 0, none⟩ = some (Value.int .i64 (S : Int))) u1) := ⟨c0_1, c1_1⟩
      refine hK _ _ (Sx.before (by kernel_rfl) hs1.out) ?_
      clear hK K
      try go_simp
      refine wpAnyX_both (T := fun _ => True) (i := 10) (v := Value.pointer (some ⟨w.heap.size + 1, j, none⟩)) rfl (by kernel_rfl) (by kernel_rfl) (by kernel_rfl) (fun _ _ _ h => by first | exact h | exact h.elim) (by decide) (fun _ _ => trivial) (fun _ _ => trivial) (Sx.before (by kernel_rfl) hs1.out) (Or.inl ⟨by rfl, fun uu hu => by go_simp⟩) ?_
      try go_simp
      refine wpAnyX_ready (rs := [11]) (by kernel_rfl) (by simp) (AllX.cons rfl (fun K hK => ?_) AllX.nil)
      have q0 := UU1.out.st.cellO (i := j) (by rw [stT_len]; have := HPU.out.2.2.2; omega)
      have z0 := UU1.out.st.frozO j
      go_simp
      have UU2 := kide (UU1.out.put HPU.out.1 HPU.out.2.1 HPU.out.2.2.1 HPU.out.2.2.2)
      clear q0 z0
      generalize (u1.setCell ⟨w.heap.size + 1, j, none⟩ (.int .i64 x)) = u2 at *
      refine hK _ _ (Sx.behind (by kernel_rfl) trivial) ?_
      clear hK K
      try go_simp
      refine wpAnyX_done (by kernel_rfl) ?_ _
      rw [HTK.out] at UU2
      go_wp2_with fail
      go_roundw
      case rel => exact ⟨k + 1, HKL.out, by go_num, UU2.out⟩
      case measure => have := HKL.out; simp only [intOf]; omega
    · have htk : set.take k = set := List.take_of_length_le (by rw [HNS.out]; omega)
      have k0 : ¬ (k : Int) < (ns : Int) := by omega
      rw [htk] at HUr
      have HV := kide HUr.out
      clear htk hlt hk
      go_wp2_with fail
      clear HUr
      have V0 : Hid (Ur w S N1 #[Value.int .i64 (S : Int), Value.slice ca nc cc] v4 set set wr) := HV.out
      clear HV
      go_loopw [9, 7] (fun q ov wi => ∃ (i : Nat) (T : List Int), i ≤ nc ∧ q = .int .i64 (i : Int) ∧ Ur w S N1 #[Value.int .i64 (S : Int), Value.slice ca nc cc] ov T T wi ∧ Tk S T ∧ Uq S (xs.map Iw.ks) T R ∧ ∀ (j : Nat) c, j < i → (xs.map Iw.ks)[j]? = some c → dueB T c = false) (fun q ov _ => (S - lnV ov) * (nc + 1) + (nc - (intOf q).toNat))
      case atStart => exact ⟨0, set, Nat.zero_le _, rfl, V0.out, HT.out, HU.out, fun j c hj => by omega⟩
      case round =>
        obtain ⟨i, T, hi, rfl, hur, htk, huq, hnd⟩ := hrel
        have HUr := kide hur
        have HTk := kide htk
        have HUq := kide huq
        have HNd := kide hnd
        have lbx := hur.bx.lt
        have c1 := hur.bx.cell 1
        simp at c1
        have hTl := htk.len
        clear hur htk huq hnd
        by_cases hlt : i < nc
        · obtain ⟨x, hx⟩ : ∃ x, xs[i]? = some x := ⟨xs[i]'(by rw [HNC.out]; exact hlt), List.getElem?_eq_getElem _⟩
          have hxm : (xs.map Iw.ks)[i]? = some x.ks := by rw [List.getElem?_map, hx]; rfl
          obtain ⟨-, h | ⟨b1, o1, rfl, hc9⟩⟩ := HC.out.later HUr.out.bel
          · rw [h] at hx; simp at hx
          obtain ⟨p0, p1⟩ := hc9 i x hx
          obtain ⟨sa9, sc9, e9, hst⟩ := HUr.out.st.rd (by rw [stT_len]; omega) (stT_in HS4.out)
          obtain ⟨hcl4, hcln⟩ := HK.out x.ks (List.mem_of_getElem? hxm)
          have HSt := kide (l18State_any x.a (some ⟨w.heap.size + 1, 0, none⟩) x.c N1 x.ks.length N1 wr p1 rfl (by cases e9; exact hst) HN1.out HTk.out hcln HS4.out hcl4)
          have HXM := kide hxm
          have HCn := kide hcln
          obtain ⟨⟨cl, xa, xc⟩, rfl⟩ : ∃ z : List Int × Option Addr × Nat, x = ⟨z.2.1, z.2.2, z.1⟩ := ⟨(x.ks, x.a, x.c), rfl⟩
          simp only [] at p0 HSt HXM HCn hcl4
          generalize cl.length = nx at *
          have k0 : (i : Int) < (nc : Int) := by omega
          have k2 : IntKind.i64.wrap ((i : Int) + 1) = (i : Int) + 1 := by rw [IntKind.wrap_i64]; have := HC4.out; rw [List.length_map, HNC.out] at this; omega
          have HKL := kide hlt
          obtain ⟨SR, hSR⟩ : ∃ z, stR T cl = z := ⟨_, rfl⟩
          rw [hSR] at HSt
          have HSR := kide hSR
          have l1 := block_lt_of_cell p0
          clear hc9 hx hxm p1 hst e9 hcln hcl4 hi hlt hSR
          go_wp2_with fail
          refine Calls.mono HSt.out ?_
          rintro e w2 ⟨rfl, hw2⟩
          obtain rfl := hw2.symm
          clear hw2
          have NEXT : Hid (dueB T cl = false → ∀ (j : Nat) c, j < i + 1 → (xs.map Iw.ks)[j]? = some c → dueB T c = false) := fun h9 j c hj hc => by
            by_cases e : j < i
            · exact HNd.out j c e hc
            · obtain rfl : j = i := by omega
              rw [HXM.out] at hc
              cases hc
              exact h9
          have hSR := HSR.out
          unfold stR at hSR
          cases hm : metB T cl with
          | true =>
            rw [hm, if_pos rfl] at hSR
            subst hSR
            have hdu : dueB T cl = false := by unfold dueB; rw [hm]; rfl
            have ND := kide (NEXT.out hdu)
            clear hm hdu NEXT
            go_wp2_with fail
            go_roundw
            case rel => exact ⟨i + 1, T, HKL.out, by go_num, HUr.out, HTk.out, HUq.out, ND.out⟩
            case measure => have := HKL.out; simp only [intOf]; omega
          | false =>
            rw [hm] at hSR
            simp only [Bool.false_eq_true, if_false] at hSR
            cases hO : opn T cl with
            | nil =>
              rw [hO] at hSR
              subst hSR
              have hdu : dueB T cl = true := by unfold dueB; rw [hm, hO]; rfl
              have HF : Hid (R = (T, false)) := HUq.out.bad hTl (find_first HXM.out hdu HNd.out) hO
              obtain ⟨oa, oc, rfl⟩ := HUr.out.ot.form9
              clear hm hO hdu NEXT
              go_wp2_with fail
              exact bodyPost_ret (v := .tuple #[.slice oa T.length oc, .bool false]) (by simp [results, Tryd.results32, go_sem]) rfl ⟨_, by rw [HF.out], by rw [HF.out]; exact HUr.out.ot.lowI (by omega), HUr.out.bel⟩
            | cons x t =>
              cases t with
              | nil =>
                rw [hO] at hSR
                subst hSR
                have hdu : dueB T cl = true := by unfold dueB; rw [hm, hO]; rfl
                have HQ := kide (HUq.out.step hTl (find_first HXM.out hdu HNd.out) hO)
                obtain ⟨x1, x2, x3⟩ := opn_mem.1 (show x ∈ opn T cl by rw [hO]; simp)
                have hxb := HCn.out x x1
                have HT2 := kide (HTk.out.snoc hxb x2 x3)
                obtain ⟨j, hj1, hj2, hj3, -⟩ := stT_at HTk.out hxb
                have HAB := kide (fun u => l18Abs_any x (by have := HS4.out; omega) u)
                rw [hj1] at HAB
                have HPU := kide (And.intro x2 (And.intro x3 (And.intro hj1 hj3)))
                have hTl2 := HT2.out.len
                rw [List.length_append, List.length_singleton] at hTl2
                have k1 : (j : Int) < (N1 : Int) := by have := HN1.out; omega
                clear hm hO hdu NEXT x1 x2 x3 hxb hj1 hj2 hj3
                go_wp2_with fail
                refine Calls.mono (HAB.out _) ?_
                rintro e w2 ⟨rfl, hw2⟩
                obtain rfl := hw2.symm
                clear hw2
                have q0 := HUr.out.st.cellO (i := j) (by rw [stT_len]; have := HPU.out.2.2.2; omega)
                have z0 := HUr.out.st.frozO j
                have U5 := kide (HUr.out.put HPU.out.1 HPU.out.2.1 HPU.out.2.2.1 HPU.out.2.2.2)
                obtain ⟨W5, hW5⟩ : ∃ z, wr.setCell ⟨w.heap.size + 1, j, none⟩ (.int .i64 x) = z := ⟨_, rfl⟩
                rw [hW5] at U5
                have hbx : Below W5.heap.size W5 (W5.alloc (Obj.cells #[Value.int .i64 x] 2)) := (Below.refl _ _).alloc (Nat.le_refl _) _
                have U6 := kide (U5.out.later hbx)
                have XN := kide (Bz.new W5 #[Value.int .i64 x] 2)
                obtain ⟨oa, oc, rfl⟩ := HUr.out.ot.form9
                have hsz : w.heap.size + 2 ≤ (W5.alloc (Obj.cells #[Value.int .i64 x] 2)).heap.size := (U6.out.st.lt (b := w.heap.size + 1) rfl).2
                have hll : T.length ≤ 1073741824 := by omega
                clear hbx
                go_wp2_with (refine wpList_appI rfl _ _ rfl (w.heap.size + 2) _ T x rfl U6.out.ot W5.heap.size _ rfl (XN.out.cell 0) hll hsz ?_)
                intro g6 c6 w6 ho6 hg6 _
                have U7 := kide (U6.out.app ho6 hg6)
                clear ho6 hg6 q0 z0 hW5
                go_wp2_with fail
                go_roundw
                case rel => exact ⟨0, T ++ [x], Nat.zero_le _, rfl, U7.out, HT2.out, HQ.out, fun j c hj => by omega⟩
                case measure =>
                  have e9 : S - T.length = (S - (T.length + 1)) + 1 := by omega
                  have h9 := HKL.out
                  simp only [intOf, lnV]
                  rw [e9, Nat.add_mul]
                  generalize (S - (T.length + 1)) * (nc + 1) = M
                  simp
                  omega
              | cons y u =>
                rw [hO] at hSR
                subst hSR
                have hdu : dueB T cl = false := by unfold dueB; rw [hm, hO]; simp
                have ND := kide (NEXT.out hdu)
                clear hm hO hdu NEXT
                go_wp2_with fail
                go_roundw
                case rel => exact ⟨i + 1, T, HKL.out, by go_num, HUr.out, HTk.out, HUq.out, ND.out⟩
                case measure => have := HKL.out; simp only [intOf]; omega
        · have k0 : ¬ (i : Int) < (nc : Int) := by omega
          have HF : Hid (R = (T, true)) := HUq.out.none hTl (find_no fun j c hj => HNd.out j c (by have := (List.getElem?_eq_some_iff.1 hj).1; rw [List.length_map, HNC.out] at this; omega) hj)
          obtain ⟨oa, oc, rfl⟩ := HUr.out.ot.form9
          clear hi hlt
          go_wp2_with fail
          exact bodyPost_ret (v := .tuple #[.slice oa T.length oc, .bool true]) (by simp [results, Tryd.results32, go_sem]) rfl ⟨_, by rw [HF.out], by rw [HF.out]; exact HUr.out.ot.lowI (by omega), HUr.out.bel⟩
end Go.Proofs.YtmfamdonbgmjbaaDoor
