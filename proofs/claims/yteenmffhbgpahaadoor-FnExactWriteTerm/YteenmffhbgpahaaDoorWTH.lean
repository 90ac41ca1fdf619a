/- The head of a node's text, by the program. -/
import Derived.Test.YteenmffhbgpahaaDoorWTC
import Derived.Test.YteenmffhbgpahaaDoorWTG
import Derived.Test.YteenmffhbgpahaaDoorWIY
import Derived.Test.YteenmffhbgpahaaDoorZWL
import Derived.Test.YteenmffhbgpahaaDoorRX
import Derived.Test.YteenmffhbgpahaaDoorWTH0
import Derived.Lib.AppendIntMem
namespace Go.Proofs.YteenmffhbgpahaaDoor
set_option linter.unusedVariables false
set_option linter.unusedSimpArgs false
open Go.RowKit

/-- The library's table of powers lies as it was laid. -/
def GP (w : World) : Prop := Lib.TabIs Tryd.prog w "internal/strconv.uint64pow10" .u64 Lib.pow10Tab
theorem GP.later {w w' : World} (h : GP w) (hb : Below w.heap.size w w') : GP w' := Lib.tabBelow_of_tabIs h w' hb

theorem inDecimal_any (N : Nat) (hN : N ≤ 1000000) (w : World) (hG : GP w) :
    Calls Tryd.prog 37 #[.int .i64 (N : Int)] w fun e w' => e = .returned (.string (txt (decN N))) ∧ Below w.heap.size w w' := by
  have HF := kide (Tryd.internal_strconv_FormatInt_10 (N : Int) (by omega) (by omega) w hG)
  have HE : Hid (txt (decN N) = ⟨(Lib.itoa (N : Int)).toArray⟩) := by
    show _ = _
    rw [txt_decN]
    unfold Lib.itoa
    rw [if_neg (by omega), Int.toNat_natCast]
  have HP : Hid (Calls Tryd.prog 61 #[.int .i64 (N : Int), .int .i64 10] w fun e w' => e = .returned (.string (txt (decN N))) ∧ Below w.heap.size w w') := by
    show Calls _ _ _ _ _
    rw [HE.out]
    clear HE
    go_enter Tryd.func61, Tryd.ntmps61
    go_wp2_with fail
    refine Calls.mono HF.out ?_
    rintro e w1 ⟨rfl, k, os, hw1⟩
    have HB : Hid (Below w.heap.size w w1) := by show Below _ _ _; rw [hw1]; exact Lib.below_grow _ _ (Nat.le_refl _) _ _
    clear hw1
    go_wp2_with fail
    go_ret
    exact ⟨rfl, HB.out⟩
  clear HE HF
  generalize txt (decN N) = s at *
  go_enter Tryd.func37, Tryd.ntmps37
  go_wp2_with fail
  refine Calls.mono HP.out ?_
  rintro e w1 ⟨rfl, hb⟩
  have HB := kide hb
  clear hb
  go_wp2_with fail
  go_ret
  exact ⟨rfl, HB.out⟩

/-- A right word's text, by the program. -/
theorem implWr_any (W : Int) (a : Option Addr) (c : Nat) (xs : List Nat) (w : World) (hr : Rd w a xs) (hok : rightB W xs = true) :
    Calls Tryd.prog 36 #[.agg #[.int .i64 W, .slice a xs.length c]] w fun e w' => e = .returned (.string (txt (writeR W xs))) ∧ Below w.heap.size w w' := by
  rw [writeR, if_pos hok]
  obtain ⟨hW1, hW2, _⟩ := right_W hok
  obtain ⟨V, rfl⟩ := Int.eq_ofNat_of_zero_le (show 0 ≤ W by omega)
  rw [Int.toNat_natCast]
  by_cases h4 : V % 4 = 0
  · exact implWrite_x V a c xs w hr hok h4
  · exact implWrite_b V a c xs w hr hok h4

set_option maxRecDepth 100000 in
theorem headVar (s : ByteArray) (x : Int) (w : World) :
    Calls Tryd.prog 20 #[.iface 78 (.agg #[.string s, .int .i64 x])] w fun e w' => e = .returned (.string s) ∧ Below w.heap.size w w' := by
  have t0 := is_varOp
  go_enter Tryd.func20, Tryd.ntmps20
  go_wp2_with fail
  go_ret
  exact ⟨rfl, by first | exact Below.refl _ _ | exact (Below.refl _ _).alloc (Nat.le_refl _) _⟩

set_option maxRecDepth 100000 in
theorem headCat (w : World) :
    Calls Tryd.prog 20 #[.iface 90 (.agg #[])] w fun e w' => e = .returned (.string ⟨#[40, 99, 97, 116]⟩) ∧ Below w.heap.size w w' := by
  have t0 := no_catOp_varOp
  have t1 := no_catOp_bitsOp
  have t2 := no_catOp_partOp
  have t3 := no_catOp_widenOp
  have t4 := no_catOp_turnOp
  have t5 := no_catOp_repOp
  go_enter Tryd.func20, Tryd.ntmps20
  go_wp2_with fail
  go_ret
  exact ⟨rfl, by first | exact Below.refl _ _ | exact (Below.refl _ _).alloc (Nat.le_refl _) _⟩

set_option maxRecDepth 100000 in
theorem headBits (bw : Int) (ws : List Nat) (wa : Option Addr) (wc : Nat) (w : World) (hr : Rd w wa ws) (hok : rightB bw ws = true) :
    Calls Tryd.prog 20 #[.iface 80 (.agg #[.int .i64 bw, .slice wa ws.length wc])] w fun e w' => e = .returned (.string (txt (writeR bw ws))) ∧ Below w.heap.size w w' := by
  have HW := kide (fun u (hu : Below w.heap.size w u) => implWr_any bw wa wc ws u (hr.later hu) hok)
  generalize txt (writeR bw ws) = s at *
  have s0 := St.start w (Obj.cells #[Value.int .i64 bw, Value.slice wa ws.length wc] 80)
  obtain ⟨W, hWW⟩ : ∃ W, w.alloc (Obj.cells #[Value.int .i64 bw, Value.slice wa ws.length wc] 80) = W := ⟨_, rfl⟩
  rw [hWW] at s0
  have S0 := kide s0
  clear s0
  have g0 := S0.out.cell 0
  have g1 := S0.out.cell 1
  simp at g0 g1
  have t0 := no_bitsOp_varOp
  have t1 := is_bitsOp
  go_enter Tryd.func20, Tryd.ntmps20
  go_wp2_with fail
  refine Calls.mono (HW.out _ S0.out.below) ?_
  rintro e w1 ⟨rfl, hb⟩
  have S1 := kide (S0.out.next hb)
  clear hb t0 t1
  go_wp2_with fail
  go_ret
  exact ⟨rfl, S1.out.below⟩

set_option maxRecDepth 100000 in
theorem headRep (N : Nat) (hN : N ≤ 8192) (w : World) (hG : GP w) :
    Calls Tryd.prog 20 #[.iface 88 (.agg #[.int .i64 (N : Int)])] w fun e w' => e = .returned (.string (⟨#[40, 114, 101, 112, 32]⟩ ++ txt (decN N))) ∧ Below w.heap.size w w' := by
  have HD := kide (fun u (hu : Below w.heap.size w u) => inDecimal_any N (by omega) u (hG.later hu))
  have hl := decN_small hN
  rw [← txt_sizeT] at hl
  generalize txt (decN N) = s at *
  have hsz : (s.size : Int) ≤ 8193 := by omega
  have s0 := St.start w (Obj.cells #[Value.int .i64 (N : Int)] 88)
  obtain ⟨W, hWW⟩ : ∃ W, w.alloc (Obj.cells #[Value.int .i64 (N : Int)] 88) = W := ⟨_, rfl⟩
  rw [hWW] at s0
  have S0 := kide s0
  clear s0
  have g0 := S0.out.cell 0
  simp at g0
  have t0 := no_repOp_varOp
  have t1 := no_repOp_bitsOp
  have t2 := no_repOp_partOp
  have t3 := no_repOp_widenOp
  have t4 := no_repOp_turnOp
  have t5 := is_repOp
  clear hl
  go_enter Tryd.func20, Tryd.ntmps20
  go_wp2_with fail
  refine Calls.mono (HD.out _ S0.out.below) ?_
  rintro e w1 ⟨rfl, hb⟩
  have S1 := kide (S0.out.next hb)
  clear hb t0 t1 t2 t3 t4 t5
  go_wp2_with fail
  go_ret
  exact ⟨rfl, S1.out.below⟩

set_option maxRecDepth 100000 in
theorem headPart (M N : Nat) (hN : N ≤ 8192) (hM : M ≤ 8192) (w : World) (hG : GP w) :
    Calls Tryd.prog 20 #[.iface 82 (.agg #[.int .i64 (M : Int), .int .i64 (N : Int)])] w fun e w' => e = .returned (.string (⟨#[40, 112, 97, 114, 116, 32]⟩ ++ txt (decN M) ++ ⟨#[32]⟩ ++ txt (decN N))) ∧ Below w.heap.size w w' := by
  have HD := kide (fun u (hu : Below w.heap.size w u) => inDecimal_any N (by omega) u (hG.later hu))
  have HE := kide (fun u (hu : Below w.heap.size w u) => inDecimal_any M (by omega) u (hG.later hu))
  have hl := decN_small hN
  have hk := decN_small hM
  rw [← txt_sizeT] at hl hk
  generalize txt (decN N) = s at *
  generalize txt (decN M) = t at *
  have hsz : (s.size : Int) ≤ 8193 := by omega
  have hst : (t.size : Int) ≤ 8193 := by omega
  have s0 := St.start w (Obj.cells #[Value.int .i64 (M : Int), Value.int .i64 (N : Int)] 82)
  obtain ⟨W, hWW⟩ : ∃ W, w.alloc (Obj.cells #[Value.int .i64 (M : Int), Value.int .i64 (N : Int)] 82) = W := ⟨_, rfl⟩
  rw [hWW] at s0
  have S0 := kide s0
  clear s0
  have g0 := S0.out.cell 0
  have g1 := S0.out.cell 1
  simp at g0 g1
  have lo1 := block_lt_of_cell g0
  simp only [] at lo1
  have t0 := no_partOp_varOp
  have t1 := no_partOp_bitsOp
  have t2 := is_partOp
  clear hl hk
  go_enter Tryd.func20, Tryd.ntmps20
  go_wp2_with fail
  clear t0 t1 t2
  refine wp_region_x (SA := fun _ => False) (SB := fun uu => Below W.heap.size W uu) (k := 999) (by kernel_rfl) ?_
  have hm0 : Hid (Below W.heap.size W W.drew) := (Below.refl _ _).drew
  generalize W.drew = m0 at *
  try go_simp
  refine wpAnyX_both (T := fun uu => Below W.heap.size W uu) (i := 0) (v := Value.pointer (some ⟨w.heap.size, 0, none⟩)) rfl (by kernel_rfl) (by kernel_rfl) (by kernel_rfl) (fun _ _ _ h => by first | exact h | exact h.elim) (by decide) (fun _ h => h.elim) (fun _ h => h) (Sx.behind (by kernel_rfl) hm0.out) (Or.inl ⟨by rfl, fun uu hu => by go_simp⟩) ?_
  try go_simp
  refine wpAnyX_both (T := fun uu => Below W.heap.size W uu) (i := 1) (v := Value.int .i64 (M : Int)) rfl (by kernel_rfl) (by kernel_rfl) (by kernel_rfl) (fun _ _ _ h => by first | exact h | exact h.elim) (by decide) (fun _ h => h.elim) (fun _ h => h) (Sx.behind (by kernel_rfl) hm0.out) (Or.inl ⟨by rfl, fun uu hu => by have e0 := (kcell hu (w.heap.size) 0 lo1).trans g0; go_simp⟩) ?_
  try go_simp
  refine wpAnyX_both (T := fun uu => Below W.heap.size W uu) (i := 5) (v := Value.pointer (some ⟨w.heap.size, 1, none⟩)) rfl (by kernel_rfl) (by kernel_rfl) (by kernel_rfl) (fun _ _ _ h => by first | exact h | exact h.elim) (by decide) (fun _ h => h.elim) (fun _ h => h) (Sx.behind (by kernel_rfl) hm0.out) (Or.inl ⟨by rfl, fun uu hu => by go_simp⟩) ?_
  try go_simp
  refine wpAnyX_both (T := fun uu => Below W.heap.size W uu) (i := 6) (v := Value.int .i64 (N : Int)) rfl (by kernel_rfl) (by kernel_rfl) (by kernel_rfl) (fun _ _ _ h => by first | exact h | exact h.elim) (by decide) (fun _ h => h.elim) (fun _ h => h) (Sx.behind (by kernel_rfl) hm0.out) (Or.inl ⟨by rfl, fun uu hu => by have e0 := (kcell hu (w.heap.size) 1 lo1).trans g1; go_simp⟩) ?_
  try go_simp
  refine wpAnyX_ready (rs := [2]) (by kernel_rfl) (by simp) (AllX.cons rfl (fun K hK => ?_) AllX.nil)
  go_simp
  refine Calls.mono (HE.out _ (S0.out.next hm0.out).below) ?_
  rintro e m1 ⟨rfl, hb⟩
  have hm1 : Hid (Below W.heap.size W m1) := hm0.out.trans (hb.mono hm0.out.size)
  refine hK _ _ (Sx.behind (by kernel_rfl) hm1.out) ?_
  clear hK K hb
  try go_simp
  refine wpAnyX_both (T := fun uu => Below W.heap.size W uu) (i := 3) (v := Value.string (⟨#[40, 112, 97, 114, 116, 32]⟩ ++ t)) rfl (by kernel_rfl) (by kernel_rfl) (by kernel_rfl) (fun _ _ _ h => by first | exact h | exact h.elim) (by decide) (fun _ h => h.elim) (fun _ h => h) (Sx.behind (by kernel_rfl) hm1.out) (Or.inl ⟨by rfl, fun uu hu => by go_simp <;> omega⟩) ?_
  try go_simp
  refine wpAnyX_both (T := fun uu => Below W.heap.size W uu) (i := 4) (v := Value.string (⟨#[40, 112, 97, 114, 116, 32]⟩ ++ t ++ ⟨#[32]⟩)) rfl (by kernel_rfl) (by kernel_rfl) (by kernel_rfl) (fun _ _ _ h => by first | exact h | exact h.elim) (by decide) (fun _ h => h.elim) (fun _ h => h) (Sx.behind (by kernel_rfl) hm1.out) (Or.inl ⟨by rfl, fun uu hu => by go_simp <;> omega⟩) ?_
  try go_simp
  refine wpAnyX_ready (rs := [7]) (by kernel_rfl) (by simp) (AllX.cons rfl (fun K hK => ?_) AllX.nil)
  go_simp
  refine Calls.mono (HD.out _ (S0.out.next hm1.out).below) ?_
  rintro e m2 ⟨rfl, hb⟩
  have hm2 : Hid (Below W.heap.size W m2) := hm1.out.trans (hb.mono hm1.out.size)
  refine hK _ _ (Sx.behind (by kernel_rfl) hm2.out) ?_
  clear hK K hb
  try go_simp
  refine wpAnyX_both (T := fun uu => Below W.heap.size W uu) (i := 8) (v := Value.string (⟨#[40, 112, 97, 114, 116, 32]⟩ ++ t ++ ⟨#[32]⟩ ++ s)) rfl (by kernel_rfl) (by kernel_rfl) (by kernel_rfl) (fun _ _ _ h => by first | exact h | exact h.elim) (by decide) (fun _ h => h.elim) (fun _ h => h) (Sx.behind (by kernel_rfl) hm2.out) (Or.inl ⟨by rfl, fun uu hu => by go_simp <;> omega⟩) ?_
  try go_simp
  refine wpAnyX_both (T := fun uu => Below W.heap.size W uu) (i := 9) (v := Value.string (⟨#[40, 112, 97, 114, 116, 32]⟩ ++ t ++ ⟨#[32]⟩ ++ s)) rfl (by kernel_rfl) (by kernel_rfl) (by kernel_rfl) (fun _ _ _ h => by first | exact h | exact h.elim) (by decide) (fun _ h => h.elim) (fun _ h => h) (Sx.behind (by kernel_rfl) hm2.out) (Or.inl ⟨by rfl, fun uu hu => by go_simp⟩) ?_
  try go_simp
  refine wpAnyX_done (by kernel_rfl) ?_ _
  skip
  have S1 := kide (S0.out.next hm2.out)
  clear hm0 hm1 hm2 g0 g1
  go_wp2_with fail
  go_ret
  exact ⟨rfl, S1.out.below⟩

set_option maxRecDepth 100000 in
theorem headWiden (s : ByteArray) (hs5 : s.size ≤ 5) (N : Nat) (hN : N ≤ 8192) (w : World) (hG : GP w) :
    Calls Tryd.prog 20 #[.iface 84 (.agg #[.string s, .int .i64 (N : Int)])] w fun e w' => e = .returned (.string (⟨#[40]⟩ ++ s ++ ⟨#[32]⟩ ++ txt (decN N))) ∧ Below w.heap.size w w' := by
  have HD := kide (fun u (hu : Below w.heap.size w u) => inDecimal_any N (by omega) u (hG.later hu))
  have hl := decN_small hN
  rw [← txt_sizeT] at hl
  generalize txt (decN N) = t at *
  have hsz : (s.size : Int) ≤ 5 := by omega
  have hst : (t.size : Int) ≤ 8193 := by omega
  have s0 := St.start w (Obj.cells #[Value.string s, Value.int .i64 (N : Int)] 84)
  obtain ⟨W, hWW⟩ : ∃ W, w.alloc (Obj.cells #[Value.string s, Value.int .i64 (N : Int)] 84) = W := ⟨_, rfl⟩
  rw [hWW] at s0
  have S0 := kide s0
  clear s0
  have g0 := S0.out.cell 0
  have g1 := S0.out.cell 1
  simp at g0 g1
  have lo1 := block_lt_of_cell g0
  simp only [] at lo1
  have t0 := no_widenOp_varOp
  have t1 := no_widenOp_bitsOp
  have t2 := no_widenOp_partOp
  have t3 := is_widenOp
  clear hl hs5
  go_enter Tryd.func20, Tryd.ntmps20
  go_wp2_with fail
  clear t0 t1 t2 t3
  refine wp_region_x (SA := fun _ => False) (SB := fun uu => Below W.heap.size W uu) (k := 999) (by kernel_rfl) ?_
  have hm0 : Hid (Below W.heap.size W W.drew) := (Below.refl _ _).drew
  generalize W.drew = m0 at *
  try go_simp
  refine wpAnyX_both (T := fun uu => Below W.heap.size W uu) (i := 0) (v := Value.pointer (some ⟨w.heap.size, 0, none⟩)) rfl (by kernel_rfl) (by kernel_rfl) (by kernel_rfl) (fun _ _ _ h => by first | exact h | exact h.elim) (by decide) (fun _ h => h.elim) (fun _ h => h) (Sx.behind (by kernel_rfl) hm0.out) (Or.inl ⟨by rfl, fun uu hu => by go_simp⟩) ?_
  try go_simp
  refine wpAnyX_both (T := fun uu => Below W.heap.size W uu) (i := 1) (v := Value.string s) rfl (by kernel_rfl) (by kernel_rfl) (by kernel_rfl) (fun _ _ _ h => by first | exact h | exact h.elim) (by decide) (fun _ h => h.elim) (fun _ h => h) (Sx.behind (by kernel_rfl) hm0.out) (Or.inl ⟨by rfl, fun uu hu => by have e0 := (kcell hu (w.heap.size) 0 lo1).trans g0; go_simp⟩) ?_
  try go_simp
  refine wpAnyX_both (T := fun uu => Below W.heap.size W uu) (i := 2) (v := Value.string (⟨#[40]⟩ ++ s)) rfl (by kernel_rfl) (by kernel_rfl) (by kernel_rfl) (fun _ _ _ h => by first | exact h | exact h.elim) (by decide) (fun _ h => h.elim) (fun _ h => h) (Sx.behind (by kernel_rfl) hm0.out) (Or.inl ⟨by rfl, fun uu hu => by go_simp <;> omega⟩) ?_
  try go_simp
  refine wpAnyX_both (T := fun uu => Below W.heap.size W uu) (i := 3) (v := Value.string (⟨#[40]⟩ ++ s ++ ⟨#[32]⟩)) rfl (by kernel_rfl) (by kernel_rfl) (by kernel_rfl) (fun _ _ _ h => by first | exact h | exact h.elim) (by decide) (fun _ h => h.elim) (fun _ h => h) (Sx.behind (by kernel_rfl) hm0.out) (Or.inl ⟨by rfl, fun uu hu => by go_simp <;> omega⟩) ?_
  try go_simp
  refine wpAnyX_both (T := fun uu => Below W.heap.size W uu) (i := 4) (v := Value.pointer (some ⟨w.heap.size, 1, none⟩)) rfl (by kernel_rfl) (by kernel_rfl) (by kernel_rfl) (fun _ _ _ h => by first | exact h | exact h.elim) (by decide) (fun _ h => h.elim) (fun _ h => h) (Sx.behind (by kernel_rfl) hm0.out) (Or.inl ⟨by rfl, fun uu hu => by go_simp⟩) ?_
  try go_simp
  refine wpAnyX_both (T := fun uu => Below W.heap.size W uu) (i := 5) (v := Value.int .i64 (N : Int)) rfl (by kernel_rfl) (by kernel_rfl) (by kernel_rfl) (fun _ _ _ h => by first | exact h | exact h.elim) (by decide) (fun _ h => h.elim) (fun _ h => h) (Sx.behind (by kernel_rfl) hm0.out) (Or.inl ⟨by rfl, fun uu hu => by have e0 := (kcell hu (w.heap.size) 1 lo1).trans g1; go_simp⟩) ?_
  try go_simp
  refine wpAnyX_ready (rs := [6]) (by kernel_rfl) (by simp) (AllX.cons rfl (fun K hK => ?_) AllX.nil)
  go_simp
  refine Calls.mono (HD.out _ (S0.out.next hm0.out).below) ?_
  rintro e m1 ⟨rfl, hb⟩
  have hm1 : Hid (Below W.heap.size W m1) := hm0.out.trans (hb.mono hm0.out.size)
  refine hK _ _ (Sx.behind (by kernel_rfl) hm1.out) ?_
  clear hK K hb
  try go_simp
  refine wpAnyX_both (T := fun uu => Below W.heap.size W uu) (i := 7) (v := Value.string (⟨#[40]⟩ ++ s ++ ⟨#[32]⟩ ++ t)) rfl (by kernel_rfl) (by kernel_rfl) (by kernel_rfl) (fun _ _ _ h => by first | exact h | exact h.elim) (by decide) (fun _ h => h.elim) (fun _ h => h) (Sx.behind (by kernel_rfl) hm1.out) (Or.inl ⟨by rfl, fun uu hu => by go_simp <;> omega⟩) ?_
  try go_simp
  refine wpAnyX_both (T := fun uu => Below W.heap.size W uu) (i := 8) (v := Value.string (⟨#[40]⟩ ++ s ++ ⟨#[32]⟩ ++ t)) rfl (by kernel_rfl) (by kernel_rfl) (by kernel_rfl) (fun _ _ _ h => by first | exact h | exact h.elim) (by decide) (fun _ h => h.elim) (fun _ h => h) (Sx.behind (by kernel_rfl) hm1.out) (Or.inl ⟨by rfl, fun uu hu => by go_simp⟩) ?_
  try go_simp
  refine wpAnyX_done (by kernel_rfl) ?_ _
  skip
  have S1 := kide (S0.out.next hm1.out)
  clear hm0 hm1 g0 g1
  go_wp2_with fail
  go_ret
  exact ⟨rfl, S1.out.below⟩

set_option maxRecDepth 100000 in
theorem headTurn (s : ByteArray) (hs5 : s.size ≤ 5) (N : Nat) (hN : N ≤ 8192) (w : World) (hG : GP w) :
    Calls Tryd.prog 20 #[.iface 86 (.agg #[.string s, .int .i64 (N : Int)])] w fun e w' => e = .returned (.string (⟨#[40]⟩ ++ s ++ ⟨#[32]⟩ ++ txt (decN N))) ∧ Below w.heap.size w w' := by
  have HD := kide (fun u (hu : Below w.heap.size w u) => inDecimal_any N (by omega) u (hG.later hu))
  have hl := decN_small hN
  rw [← txt_sizeT] at hl
  generalize txt (decN N) = t at *
  have hsz : (s.size : Int) ≤ 5 := by omega
  have hst : (t.size : Int) ≤ 8193 := by omega
  have s0 := St.start w (Obj.cells #[Value.string s, Value.int .i64 (N : Int)] 86)
  obtain ⟨W, hWW⟩ : ∃ W, w.alloc (Obj.cells #[Value.string s, Value.int .i64 (N : Int)] 86) = W := ⟨_, rfl⟩
  rw [hWW] at s0
  have S0 := kide s0
  clear s0
  have g0 := S0.out.cell 0
  have g1 := S0.out.cell 1
  simp at g0 g1
  have lo1 := block_lt_of_cell g0
  simp only [] at lo1
  have t0 := no_turnOp_varOp
  have t1 := no_turnOp_bitsOp
  have t2 := no_turnOp_partOp
  have t3 := no_turnOp_widenOp
  have t4 := is_turnOp
  clear hl hs5
  go_enter Tryd.func20, Tryd.ntmps20
  go_wp2_with fail
  clear t0 t1 t2 t3 t4
  refine wp_region_x (SA := fun _ => False) (SB := fun uu => Below W.heap.size W uu) (k := 999) (by kernel_rfl) ?_
  have hm0 : Hid (Below W.heap.size W W.drew) := (Below.refl _ _).drew
  generalize W.drew = m0 at *
  try go_simp
  refine wpAnyX_both (T := fun uu => Below W.heap.size W uu) (i := 0) (v := Value.pointer (some ⟨w.heap.size, 0, none⟩)) rfl (by kernel_rfl) (by kernel_rfl) (by kernel_rfl) (fun _ _ _ h => by first | exact h | exact h.elim) (by decide) (fun _ h => h.elim) (fun _ h => h) (Sx.behind (by kernel_rfl) hm0.out) (Or.inl ⟨by rfl, fun uu hu => by go_simp⟩) ?_
  try go_simp
  refine wpAnyX_both (T := fun uu => Below W.heap.size W uu) (i := 1) (v := Value.string s) rfl (by kernel_rfl) (by kernel_rfl) (by kernel_rfl) (fun _ _ _ h => by first | exact h | exact h.elim) (by decide) (fun _ h => h.elim) (fun _ h => h) (Sx.behind (by kernel_rfl) hm0.out) (Or.inl ⟨by rfl, fun uu hu => by have e0 := (kcell hu (w.heap.size) 0 lo1).trans g0; go_simp⟩) ?_
  try go_simp
  refine wpAnyX_both (T := fun uu => Below W.heap.size W uu) (i := 2) (v := Value.string (⟨#[40]⟩ ++ s)) rfl (by kernel_rfl) (by kernel_rfl) (by kernel_rfl) (fun _ _ _ h => by first | exact h | exact h.elim) (by decide) (fun _ h => h.elim) (fun _ h => h) (Sx.behind (by kernel_rfl) hm0.out) (Or.inl ⟨by rfl, fun uu hu => by go_simp <;> omega⟩) ?_
  try go_simp
  refine wpAnyX_both (T := fun uu => Below W.heap.size W uu) (i := 3) (v := Value.string (⟨#[40]⟩ ++ s ++ ⟨#[32]⟩)) rfl (by kernel_rfl) (by kernel_rfl) (by kernel_rfl) (fun _ _ _ h => by first | exact h | exact h.elim) (by decide) (fun _ h => h.elim) (fun _ h => h) (Sx.behind (by kernel_rfl) hm0.out) (Or.inl ⟨by rfl, fun uu hu => by go_simp <;> omega⟩) ?_
  try go_simp
  refine wpAnyX_both (T := fun uu => Below W.heap.size W uu) (i := 4) (v := Value.pointer (some ⟨w.heap.size, 1, none⟩)) rfl (by kernel_rfl) (by kernel_rfl) (by kernel_rfl) (fun _ _ _ h => by first | exact h | exact h.elim) (by decide) (fun _ h => h.elim) (fun _ h => h) (Sx.behind (by kernel_rfl) hm0.out) (Or.inl ⟨by rfl, fun uu hu => by go_simp⟩) ?_
  try go_simp
  refine wpAnyX_both (T := fun uu => Below W.heap.size W uu) (i := 5) (v := Value.int .i64 (N : Int)) rfl (by kernel_rfl) (by kernel_rfl) (by kernel_rfl) (fun _ _ _ h => by first | exact h | exact h.elim) (by decide) (fun _ h => h.elim) (fun _ h => h) (Sx.behind (by kernel_rfl) hm0.out) (Or.inl ⟨by rfl, fun uu hu => by have e0 := (kcell hu (w.heap.size) 1 lo1).trans g1; go_simp⟩) ?_
  try go_simp
  refine wpAnyX_ready (rs := [6]) (by kernel_rfl) (by simp) (AllX.cons rfl (fun K hK => ?_) AllX.nil)
  go_simp
  refine Calls.mono (HD.out _ (S0.out.next hm0.out).below) ?_
  rintro e m1 ⟨rfl, hb⟩
  have hm1 : Hid (Below W.heap.size W m1) := hm0.out.trans (hb.mono hm0.out.size)
  refine hK _ _ (Sx.behind (by kernel_rfl) hm1.out) ?_
  clear hK K hb
  try go_simp
  refine wpAnyX_both (T := fun uu => Below W.heap.size W uu) (i := 7) (v := Value.string (⟨#[40]⟩ ++ s ++ ⟨#[32]⟩ ++ t)) rfl (by kernel_rfl) (by kernel_rfl) (by kernel_rfl) (fun _ _ _ h => by first | exact h | exact h.elim) (by decide) (fun _ h => h.elim) (fun _ h => h) (Sx.behind (by kernel_rfl) hm1.out) (Or.inl ⟨by rfl, fun uu hu => by go_simp <;> omega⟩) ?_
  try go_simp
  refine wpAnyX_both (T := fun uu => Below W.heap.size W uu) (i := 8) (v := Value.string (⟨#[40]⟩ ++ s ++ ⟨#[32]⟩ ++ t)) rfl (by kernel_rfl) (by kernel_rfl) (by kernel_rfl) (fun _ _ _ h => by first | exact h | exact h.elim) (by decide) (fun _ h => h.elim) (fun _ h => h) (Sx.behind (by kernel_rfl) hm1.out) (Or.inl ⟨by rfl, fun uu hu => by go_simp⟩) ?_
  try go_simp
  refine wpAnyX_done (by kernel_rfl) ?_ _
  skip
  have S1 := kide (S0.out.next hm1.out)
  clear hm0 hm1 g0 g1
  go_wp2_with fail
  go_ret
  exact ⟨rfl, S1.out.below⟩

end Go.Proofs.YteenmffhbgpahaaDoor
