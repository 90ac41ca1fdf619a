/- The words that are free at a node, as an iterator. -/
import Derived.Test.YthoiajpbpoglfaaZKAL
import Derived.Test.YthoiajpbpoglfaaHTD
namespace Go.Proofs.Ythoiajpbpoglfaa
set_option linter.unusedVariables false
set_option linter.unusedSimpArgs false
open Go.RowKit Go.Shelf
attribute [local go_sem] Oper.semAt_some

theorem wrap_succF {j : Nat} (h : j < 1048576) : wrap64 ((j : Int) + 1) = (j : Int) + 1 := by unfold wrap64; omega
theorem meas_succF {m j : Nat} (h : j < m) : m - (intOf (Value.int .i64 ((j : Int) + 1))).toNat < m - (intOf (Value.int .i64 (j : Int))).toNat := by simp only [intOf]; omega
/-- Is a word free: not barred, and no other has it? -/
def frW (xs bd : List Int) (σ : Nat → Int) (x : Nat) : Bool := !decide ((x : Int) ∈ bd) && xs.all fun y => decide (σ y.toNat ≠ (x : Int))
/-- The free ones of the first k words. -/
def frT (M : Nat) (h : 0 < M) (xs bd : List Int) (σ : Nat → Int) (k : Nat) : List (Fin M) := (upTo M h k).filter fun y => frW xs bd σ y
theorem frT_succ (M : Nat) (h : 0 < M) (xs bd : List Int) (σ : Nat → Int) (k : Nat) (hk : k < M) : frT M h xs bd σ (k + 1) = if frW xs bd σ k = true then frT M h xs bd σ k ++ [⟨k, hk⟩] else frT M h xs bd σ k := by
  unfold frT
  rw [upTo_succ M h k hk, List.filter_append]
  by_cases e : frW xs bd σ k = true
  · simp [e]
  · simp [e]
theorem frT_len (M : Nat) (h : 0 < M) (xs bd : List Int) (σ : Nat → Int) (k : Nat) : (frT M h xs bd σ k).length ≤ k := by
  unfold frT
  refine Nat.le_trans (List.length_filter_le _ _) ?_
  rw [upTo_length]
  exact Nat.le_refl _

/-- What a round must leave: all blocks of cells but the painter's and its words'; of those all but the visits and the node's own word; what lies below Z. -/
structure KpF (P0 g q Z N : Nat) (W W' : World) : Prop where
  blk : ∀ (b : Nat) (o : Obj), W.heap[b]? = some o → b ≠ P0 → b ≠ g → (o.isCells = true ∨ b < Z) → W'.heap[b]? = some o
  px : ∀ j, j ≠ 4 → ∀ v, W.cell? ⟨P0, j, none⟩ = some v → W'.cell? ⟨P0, j, none⟩ = some v
  ws : ∀ j, j < N → j ≠ q → ∀ v, W.cell? ⟨g, j, none⟩ = some v → W'.cell? ⟨g, j, none⟩ = some v
theorem KpF.refl (P0 g q Z N : Nat) (W : World) : KpF P0 g q Z N W W := ⟨fun _ _ h _ _ _ => h, fun _ _ _ h => h, fun _ _ _ _ h => h⟩
theorem KpF.trans {P0 g q Z N : Nat} {A B C : World} (h : KpF P0 g q Z N A B) (k : KpF P0 g q Z N B C) : KpF P0 g q Z N A C :=
  ⟨fun b o h1 h2 h3 h4 => k.blk b o (h.blk b o h1 h2 h3 h4) h2 h3 h4, fun j hj v hv => k.px j hj v (h.px j hj v hv), fun j hN hj v hv => k.ws j hN hj v (h.ws j hN hj v hv)⟩
theorem KpF.of {P0 g q Z N : Nat} {A B : World} (h : Below A.heap.size A B) : KpF P0 g q Z N A B :=
  ⟨fun b o h1 _ _ _ => (h.block b (Array.getElem?_eq_some_iff.1 h1).1).trans h1, fun j _ v hv => (kcell h _ _ (block_lt_of_cell hv)).trans hv, fun j _ _ v hv => (kcell h _ _ (block_lt_of_cell hv)).trans hv⟩
theorem KpF.cell {P0 g q Z N : Nat} {A B : World} (h : KpF P0 g q Z N A B) {b o : Nat} {v : Value} (hc : A.cell? ⟨b, o, none⟩ = some v) (h1 : b ≠ P0) (h2 : b ≠ g) : B.cell? ⟨b, o, none⟩ = some v := by
  have hc' := hc
  unfold World.cell? at hc ⊢
  split at hc
  · rename_i cs t fr he
    rw [h.blk _ _ he h1 h2 (.inl rfl)]
    exact hc
  · cases hc

set_option maxRecDepth 100000 in
set_option maxHeartbeats 2000000 in
theorem freeG1_in (F : Fence) (n : Nat) (h7 : F.fn 86) (hro : F.round = none) (hn : 1 ≤ n) (l Bp Bn P0 H N M b o vc : Nat) (x : Int) (hx : 1 ≤ x ∧ x ≤ 4096) (h0M : 0 < M) (hM : M = 2 ^ (min x 10).toNat) (q : Nat) (hq : q < N) (hN : N ≤ 200) (Z g cp : Nat) (oa : Option Addr) (m oc : Nat) (xs bd : List Int) (mr : Option Nat) (cr : Int) (σ : Nat → Int) (hxs : xs.length = m) (hin : ∀ y ∈ xs, 0 ≤ y ∧ y < (N : Int) ∧ y ≠ (q : Int)) (J Jx : List (Fin M) → World → Prop)
    (W : World) (hJ : AbidesFrom W.heap.size J)
    (hY : ∀ (pre : List (Fin M)) (y : Fin M) (W : World), J pre W → pre.length < M → YieldAt F (n - 1) Try.prog l #[.int .i64 ((y : Nat) : Int)] W fun e W' =>
      (e = .returned (.bool true) ∧ J (pre ++ [y]) W' ∧ KpF P0 g q Z N W W') ∨ (e = .returned (.bool false) ∧ Jx (pre ++ [y]) W'))
    (hBp : W.cell? ⟨Bp, 0, none⟩ = some (.pointer (some ⟨P0, 0, none⟩))) (hBn : W.cell? ⟨Bn, 0, none⟩ = some (.int .i64 (q : Int)))
    (hp0 : W.cell? ⟨P0, 0, none⟩ = some (.slice (some ⟨b, o, none⟩) N vc)) (hp1 : W.cell? ⟨P0, 1, none⟩ = some (.slice (some ⟨H, 0, none⟩) N N)) (hc : W.cell? ⟨b, o + q, none⟩ = some (.int .i64 x))
    (hh0 : W.cell? ⟨H, q * 3, none⟩ = some (.slice oa m oc)) (hh1 : W.cell? ⟨H, q * 3 + 1, none⟩ = some (.map mr)) (hh2 : W.cell? ⟨H, q * 3 + 2, none⟩ = some (.int .i64 cr)) (hp3 : W.cell? ⟨P0, 3, none⟩ = some (.slice (some ⟨g, 0, none⟩) N cp)) (hxr : RdI W oa xs) (hws : ∀ j, j < N → j ≠ q → W.cell? ⟨g, j, none⟩ = some (.int .i64 (σ j))) (hws' : q = 0 → ∃ v, W.cell? ⟨g, 0, none⟩ = some v) (hne : Bp ≠ P0 ∧ Bp ≠ g ∧ Bn ≠ P0 ∧ Bn ≠ g ∧ H ≠ P0 ∧ H ≠ g ∧ b ≠ P0 ∧ b ≠ g ∧ P0 ≠ g ∧ ∀ xb xo sp, oa = some ⟨xb, xo, sp⟩ → xb ≠ P0 ∧ xb ≠ g) (hlu : ∀ u, KpF P0 g q Z N W u → ∀ k : Nat, k < 1024 → (Instr.lookup 81 (.map mr) (.int .i64 (k : Int)) true).run Try.prog u = .ok (.tuple #[.agg #[], .bool (decide ((k : Int) ∈ bd))]) u) (h0 : J [] W) :
    CallsIn F n Try.prog 86 #[.func (.yield l) #[] #[], .pointer (some ⟨Bp, 0, none⟩), .pointer (some ⟨Bn, 0, none⟩)] W fun e W' => (∃ v, e = .returned v) ∧
      ((∃ ys, ys = frT M h0M xs bd σ M ∧ J ys W') ∨ (∃ pre, (∃ k, k ≤ M ∧ pre = frT M h0M xs bd σ k) ∧ Jx pre W')) := by
  have hM2 : M ≤ 1024 := by
    rw [hM]
    exact Nat.le_trans (Nat.pow_le_pow_right (by omega) (show (min x 10).toNat ≤ 10 by omega)) (by decide)
  have hsh : IntKind.i64.wrap (2 ^ (min x 10).toNat) = (M : Int) := by
    rw [show (2 : Int) ^ (min x 10).toNat = ((2 ^ (min x 10).toNat : Nat) : Int) by push_cast; rfl, ← hM, IntKind.wrap_i64]
    omega
  have HSH := kide hsh
  have HLU := kide hlu
  have HXR := kide hxr
  have HWS := kide hws
  have HIN := kide hin
  have HXL := kide hxs
  have HNE := kide hne
  have HP3 := kide hp3
  have HML : Hid (m ≤ 1048576) := by have := hxr.1; show _ ≤ _; omega
  have HBP0 := kide hBp
  have hgB : P0 < W.heap.size ∧ g < W.heap.size := ⟨block_lt_of_cell hp0, by
    by_cases e : q = 0
    · obtain ⟨v9, h9⟩ := hws' e
      exact block_lt_of_cell h9
    · exact block_lt_of_cell (hws 0 (by omega) (fun e9 => e e9.symm))⟩
  have HGB := kide hgB
  clear hlu hxr hws hin hxs hne hp3 hgB hws'
  have HJB : ∀ (s : List (Fin M)) (A A' : World), W.heap.size ≤ A.heap.size → Below A.heap.size A A' → J s A → J s A' := fun s A A' _ hb h => hJ s A A' none h ⟨hb.os, hb.tape, hb.output, hb.size, fun k hk _ => hb.block k hk⟩ (fun r e => by cases e)
  clear hM hsh
  have q0 : (q : Int) ≥ 0 := by omega
  have q1 : (q : Int) < (N : Int) := by omega
  refine callsIn_of_wp Try.func86 rfl h7 ?_ hro
  simp only [Try.ntmps86, List.size_toArray, List.length_cons, List.length_nil, Nat.reduceAdd, Nat.reduceSub, Array.replicate_succ, Array.replicate_zero, List.push_toArray, List.append_toArray, List.nil_append, List.cons_append]
  have lBp := block_lt_of_cell hBp
  have lBn := block_lt_of_cell hBn
  have lP0 := block_lt_of_cell hp0
  have lH := block_lt_of_cell hh0
  have lb := block_lt_of_cell hc
  simp only [] at lBp lBn lP0 lH lb
  gi_wp2
  refine wpIn_scope_straight ?_
  refine wpIn_seq ?_
  refine wpIn_mono (Q := fun e a' w' => e = Exit.normal ∧ a' = { tmps := #[Value.func (Fn.yield l) #[] #[], Value.pointer (some ⟨Bp, 0, none⟩), Value.pointer (some ⟨Bn, 0, none⟩), undef, Value.pointer (some ⟨W.heap.size, 0, none⟩), undef, undef, undef, undef, undef, Value.pointer (some ⟨P0, 0, none⟩), Value.pointer (some ⟨P0, 0, none⟩), Value.pointer (some ⟨P0, 1, none⟩), Value.slice (some ⟨H, 0, none⟩) N N, Value.int .i64 (q : Int), Value.pointer (some ⟨H, q * 3, none⟩), Value.agg #[Value.slice oa m oc, Value.map mr, Value.int .i64 cr], undef, undef, undef, undef, undef, undef, undef, undef, undef, undef, undef, undef, undef, undef, undef, undef, undef, undef, undef, undef, undef, undef, undef, undef, undef, undef, undef, undef, undef, undef, undef, undef, undef, undef, undef, undef, undef, undef, undef, undef, undef, undef], defers := [] } ∧ w' = (W.alloc (Obj.cells #[Value.slice oa m oc, Value.map mr, Value.int .i64 cr] 83)).drew) ?_ ?_
  · gi_region
    all_goals exact ⟨rfl, rfl, rfl⟩
  rintro e a' w' ⟨rfl, rfl, rfl⟩
  have hba : Below W.heap.size W (W.alloc (Obj.cells #[Value.slice oa m oc, Value.map mr, Value.int .i64 cr] 83)).drew := ((Below.refl _ _).alloc (Nat.le_refl _) _).drew
  have BX : Bz (W.alloc (Obj.cells #[Value.slice oa m oc, Value.map mr, Value.int .i64 cr] 83)).drew W.heap.size #[Value.slice oa m oc, Value.map mr, Value.int .i64 cr] 83 := Bz.new W _ _
  have h0' := HJB _ _ _ (Nat.le_refl _) hba h0
  have HY := kide hY
  have HJJ := kide HJB
  clear hY HJB hJ hh0 hh1 hh2 h0
  replace hBp := (kcell hba _ _ lBp).trans hBp
  replace hBn := (kcell hba _ _ lBn).trans hBn
  replace hp0 := (kcell hba _ _ lP0).trans hp0
  replace hp1 := (kcell hba _ _ lP0).trans hp1
  replace hc := (kcell hba _ _ lb).trans hc
  have z : ∀ k, k < W.heap.size → k < (W.alloc (Obj.cells #[Value.slice oa m oc, Value.map mr, Value.int .i64 cr] 83)).drew.heap.size := fun k hk => Nat.lt_of_lt_of_le hk hba.size
  replace lBp := z _ lBp
  replace lBn := z _ lBn
  replace lP0 := z _ lP0
  replace lb := z _ lb
  obtain ⟨B, hB⟩ : ∃ B, W.heap.size = B := ⟨_, rfl⟩
  clear z lH
  generalize (W.alloc (Obj.cells #[Value.slice oa m oc, Value.map mr, Value.int .i64 cr] 83)).drew = V at *
  simp only [hB] at BX ⊢
  gi_wp2
  refine wpIn_label ?_
  gi_wp2
  refine wpIn_mono (Q := fun e a' w' => e = Exit.normal ∧ a' = { tmps := #[Value.func (Fn.yield l) #[] #[], Value.pointer (some ⟨Bp, 0, none⟩), Value.pointer (some ⟨Bn, 0, none⟩), undef, Value.pointer (some ⟨B, 0, none⟩), undef, undef, undef, undef, undef, Value.pointer (some ⟨P0, 0, none⟩), Value.pointer (some ⟨P0, 0, none⟩), Value.pointer (some ⟨P0, 1, none⟩), Value.slice (some ⟨H, 0, none⟩) N N, Value.int .i64 (q : Int), Value.pointer (some ⟨H, q * 3, none⟩), Value.agg #[Value.slice oa m oc, Value.map mr, Value.int .i64 cr], Value.pointer (some ⟨P0, 0, none⟩), Value.pointer (some ⟨P0, 0, none⟩), Value.pointer (some ⟨P0, 0, none⟩), Value.slice (some ⟨b, o, none⟩) N vc, Value.int .i64 (q : Int), Value.pointer (some ⟨b, o + q, none⟩), Value.int .i64 x, Value.int .i64 (min x 10), Value.int .i64 (M : Int), Value.int .i64 0, undef, undef, undef, undef, undef, undef, undef, undef, undef, undef, undef, undef, undef, undef, undef, undef, undef, undef, undef, undef, undef, undef, undef, undef, undef, undef, undef, undef, undef, undef, undef, undef], defers := [] } ∧ w' = V.drew) ?_ ?_
  · gi_region
    all_goals exact ⟨rfl, by rw [← HSH.out], rfl⟩
  rintro e a' w' ⟨rfl, rfl, rfl⟩
  have hbd : Below V.heap.size V V.drew := (Below.refl _ _).drew
  have h1 := HJJ.out _ _ _ hba.size hbd h0'
  have BX1 := BX.later hbd
  have hs1 : W.heap.size ≤ V.drew.heap.size := Nat.le_trans hba.size hbd.size
  have hkp0 : KpF P0 g q Z N W V.drew := (KpF.of hba).trans (KpF.of hbd)
  have HB' := kide hB
  clear hbd hba h0' BX hBp hBn hp0 hp1 hc lBp lBn lP0 lb q0 q1 hB
  generalize V.drew = U at *
  gi_wp2
  gi_loopw [26] (fun i wr => ∃ k : Nat, k ≤ M ∧ i = .int .i64 (k : Int) ∧ J (frT M h0M xs bd σ k) wr ∧ KpF P0 g q Z N W wr ∧ Bz wr B #[Value.slice oa m oc, Value.map mr, Value.int .i64 cr] 83 ∧ W.heap.size ≤ wr.heap.size) (fun i _ => M - (intOf i).toNat)
  case atStart => exact ⟨0, Nat.zero_le _, rfl, h1, hkp0, BX1, hs1⟩
  case round =>
    obtain ⟨k, hk, rfl, hj, hkp, hbx, hsz⟩ := hrel
    by_cases hkM : k < M
    · have k1 : (k : Int) < (M : Int) := by omega
      have c0 := hbx.cell 0
      have c1 := hbx.cell 1
      have lB := hbx.lt
      simp at c0 c1
      clear h1 BX1 hs1 hkp0
      have hb1 : Below wr.heap.size wr (wr.alloc (.cells #[] 126)) := (Below.refl _ _).alloc (Nat.le_refl _) _
      have hlk1 := HLU.out wr hkp k (by omega)
      have hlk2 := HLU.out _ (hkp.trans (KpF.of hb1)) k (by omega)
      have hj1 := HJJ.out _ _ _ hsz hb1 hj
      have hkp1 := kide (hkp.trans (KpF.of hb1))
      have HKP0 := kide hkp
      have HSZ0 := kide hsz
      have hbx1 := hbx.later hb1
      have HBX1 := kide hbx1
      have hsz1 : W.heap.size ≤ (wr.alloc (.cells #[] 126)).heap.size := Nat.le_trans hsz hb1.size
      have HJ1 := kide hj1
      have HKM := kide hkM
      have HFS := kide (frT_succ M h0M xs bd σ k hkM)
      have hkw : IntKind.i64.wrap ((k : Int) + 1) = (k : Int) + 1 := by rw [IntKind.wrap_i64]; omega
      clear hj hbx hsz hb1 hkp hbx1 hj1
      by_cases hbd : (k : Int) ∈ bd
      · rw [decide_eq_true hbd] at hlk1 hlk2
        have hfr : frW xs bd σ k = false := by simp [frW, hbd]
        rw [hfr, if_neg (by simp)] at HFS
        clear hbd hfr
        gi_wp2
        refine ⟨⟨k + 1, HKM.out, by go_num, by rw [HFS.out]; exact HJ1.out, hkp1.out, HBX1.out, hsz1⟩, ?_⟩
        have := HKM.out
        simp only [intOf]
        omega
      · rw [decide_eq_false hbd] at hlk1 hlk2
        have HBD := kide hbd
        clear hbd
        obtain ⟨wo, hwo⟩ : ∃ wo, wo = wr := ⟨_, rfl⟩
        subst hwo
        gi_wp2
        gi_loopw [40] (fun i wr2 => ∃ j : Nat, j ≤ m ∧ i = .int .i64 (j : Int) ∧ (∀ i, i < j → σ (xs.getD i 0).toNat ≠ (k : Int)) ∧ Below wo.heap.size wo wr2 ∧ J (frT M h0M xs bd σ k) wr2 ∧ Bz wr2 B #[Value.slice oa m oc, Value.map mr, Value.int .i64 cr] 83) (fun i _ => m - (intOf i).toNat)
        case atStart => exact ⟨0, Nat.zero_le _, rfl, fun i h => by omega, (Below.refl _ _).alloc (Nat.le_refl _) _, HJ1.out, HBX1.out⟩
        case round =>
          obtain ⟨j, hj9, rfl, hno, hb9, hjj, hbx9⟩ := hrel
          by_cases hjm : j < m
          · obtain ⟨hxl, hx64, h9 | ⟨xb, xo, rfl, hxc⟩⟩ := HXR.out
            · have := HXL.out; rw [h9] at this; simp at this; omega
            have j0 : (j : Int) < (m : Int) := by omega
            have j1 : (j : Int) ≥ 0 := by omega
            have hkp9 : KpF P0 g q Z N W wo := HKP0.out
            have hkp2 := hkp9.trans (KpF.of hb9)
            obtain ⟨n1, n2, n3, n4, n5, n6, n7, n8, n9, n10⟩ := HNE.out
            have hx9 := n10 xb xo none rfl
            have y0 := hkp2.cell (hxc j (by rw [HXL.out]; exact hjm)) hx9.1 hx9.2
            have hyr := HIN.out (xs.getD j 0) (by rw [List.getD, List.getElem?_eq_getElem (by rw [HXL.out]; exact hjm)]; exact List.getElem_mem _)
            have HNO := kide hno
            have HYE : Hid (xs.getD j 0 = xs.getD j 0) := rfl
            obtain ⟨y, hy⟩ : ∃ y, xs.getD j 0 = y := ⟨_, rfl⟩
            rw [hy] at y0 hyr
            have HY9 := kide hy
            obtain ⟨Y, hYe⟩ : ∃ Y : Nat, y = (Y : Int) := ⟨y.toNat, by omega⟩
            subst hYe
            have hYN : Y < N := by omega
            have hYN2 : (Y : Int) < (N : Int) := by omega
            have hY0 : (Y : Int) ≥ 0 := by omega
            have w0 := hkp2.ws Y hYN (by omega) _ (HWS.out Y hYN (by omega))
            have p3 := hkp2.px 3 (by decide) _ HP3.out
            have bp := hkp2.cell HBP0.out n1 n2
            have HB9 := kide hb9
            have HJJ9 := kide hjj
            have HBX9 := kide hbx9
            have HJM := kide hjm
            have hsk : in64 (σ Y) ∨ True := .inr trivial
            clear hy hxc hno hb9 hjj hbx9 hjm hkp9 hkp2 n1 n2 n3 n4 n5 n6 n7 n8 n9 n10 hx9 hx64 hxl hyr HYE hsk
            by_cases hσ : σ Y = (k : Int)
            · have he : (σ Y == (k : Int)) = true := by simp [hσ]
              have hfr : frW xs bd σ k = false := by
                unfold frW
                have h7 : (xs.all fun y => decide (σ y.toNat ≠ (k : Int))) = false := by
                  rw [List.all_eq_false]
                  refine ⟨(Y : Int), ?_, by simp [hσ]⟩
                  rw [← HY9.out, List.getD, List.getElem?_eq_getElem (by rw [HXL.out]; exact HJM.out)]
                  exact List.getElem_mem _
                rw [h7]
                simp
              rw [hσ] at w0
              have HFR := kide hfr
              clear hσ hfr he
              gi_wp2
              refine ⟨⟨k + 1, HKM.out, by go_num, by rw [HFS.out, HFR.out, if_neg (by simp)]; exact HJJ9.out, HKP0.out.trans (KpF.of HB9.out), HBX9.out, Nat.le_trans HSZ0.out HB9.out.size⟩, ?_⟩
              have := HKM.out
              simp only [intOf]
              omega
            · have he : (σ Y == (k : Int)) = false := by simpa using hσ
              have HSG : Hid (σ (xs.getD j 0).toNat ≠ (k : Int)) := by show _ ≠ _; rw [HY9.out, Int.toNat_natCast]; exact hσ
              generalize σ Y = sY at *
              clear hσ
              gi_wp2
              have hw9 : wrap64 ((j : Int) + 1) = (j : Int) + 1 := wrap_succF (Nat.lt_of_lt_of_le HJM.out HML.out)
              rw [hw9]
              refine ⟨⟨j + 1, HJM.out, by go_num, fun i hi => ?_, HB9.out, HJJ9.out, HBX9.out⟩, ?_⟩
              · by_cases e : i = j
                · subst e; exact HSG.out
                · exact HNO.out i (Nat.lt_of_le_of_ne (Nat.le_of_lt_succ hi) e)
              · exact meas_succF HJM.out
          · have e9 : j = m := by omega
            subst e9
            have hfr : frW xs bd σ k = true := by
              unfold frW
              rw [decide_eq_false HBD.out]
              simp only [Bool.not_false, Bool.true_and, List.all_eq_true, decide_eq_true_eq]
              intro z hz
              obtain ⟨i, hi, e⟩ := List.mem_iff_getElem.1 hz
              have h7 := hno i (by rw [← HXL.out]; exact hi)
              rw [List.getD, List.getElem?_eq_getElem hi, Option.getD_some, e] at h7
              exact h7
            have HFR := kide hfr
            have HB9 := kide hb9
            have HBX9 := kide hbx9
            obtain ⟨fn, tmps, assign, body, hy, hR⟩ := HY.out _ ⟨k, HKM.out⟩ _ hjj (by have h7 := frT_len M h0M xs bd σ k; have := HKM.out; omega)
            dsimp only at hy
            clear hfr hno hb9 hbx9 hjj
            gi_wp2
            refine hR.mono ?_
            rintro e W3 (⟨rfl, hJ3, hk3⟩ | ⟨rfl, hJx3⟩)
            · have hbx3 := hk3.blk B _ HBX9.out (by have := HB'.out; have := HGB.out.1; omega) (by have := HB'.out; have := HGB.out.2; omega) (.inl rfl)
              have HX3 : Hid (Bz W3 B #[Value.slice oa j oc, Value.map mr, Value.int .i64 cr] 83) := hbx3
              have HK3 := kide hk3
              have HJ3 := kide hJ3
              clear hbx3 hk3 hJ3
              gi_wp2
              refine ⟨⟨k + 1, HKM.out, by go_num, by rw [HFS.out, HFR.out, if_pos rfl]; exact HJ3.out, (HKP0.out.trans (KpF.of HB9.out)).trans HK3.out, HX3.out, by have h8 := HX3.out.lt; have := HB'.out; omega⟩, ?_⟩
              have := HKM.out
              simp only [intOf]
              omega
            · gi_wp2
              simp only [Exit.noGoto]
              try gi_wp2
              refine bodyPost_ret (results_none rfl _ _ _) rfl ?_
              exact ⟨⟨_, rfl⟩, .inr ⟨_, ⟨k + 1, HKM.out, by rw [HFS.out, HFR.out, if_pos rfl]⟩, hJx3⟩⟩
    · have e9 : k = M := by omega
      subst e9
      clear h1 BX1 hs1 hkp0
      gi_wp2
      simp only [Exit.noGoto]
      try gi_wp2
      refine bodyPost_end (results_none rfl _ _ _) rfl ?_
      exact ⟨⟨_, rfl⟩, .inl ⟨_, rfl, hj⟩⟩


end Go.Proofs.Ythoiajpbpoglfaa
