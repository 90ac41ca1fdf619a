/- tryOff, tryOn. -/
import Derived.Test.YtmfamdonbgmjbaaDoorSVD
namespace Go.Proofs.YtmfamdonbgmjbaaDoor
set_option linter.unusedVariables false
set_option linter.unusedSimpArgs false
open Go.RowKit
set_option maxHeartbeats 4000000 in
set_option maxRecDepth 100000 in
theorem tryOff_any {w u : World} {M : Wb} {S N : Nat} {ca : Option Addr} {nc cc nw sb i : Nat} {xs : List Iw} {T : List Int} {v : Value} {KL : List Fr} {vis most : Nat} (hx : Cnx w S nc nw ca xs) (h : Ws w u M S N ca nc cc nw (xs.map Iw.ks) T true) (hex : M.ex = []) (hs : Se u w.heap.size sb M.bx v KL vis most) (hbl : Below w.heap.size w u) (hT : Tk S T) (hKL : KL.length ≤ 1000) (hf : fstN S T = some i) :
    Calls Tryd.prog 68 #[.pointer (some ⟨sb, 0, none⟩)] u fun e w' => e = .returned (.tuple #[]) ∧ Ws w w' M S N ca nc cc nw (xs.map Iw.ks) (T ++ [-((i : Int) + 1)]) true ∧ (∃ v', Se w' w.heap.size sb M.bx v' (⟨i, T, false⟩ :: KL) vis most) ∧ Below w.heap.size u w' := by
  obtain ⟨f1, f2, f3, f4⟩ := fstN_some hf
  have hS4 := hx.S4
  have hlT := hT.len
  have HX := kide hx
  have HW := kide h
  have HS := kide hs
  have HBL := kide hbl
  have HF2 := kide f2
  have HF3 := kide f3
  have HF4 := kide f4
  have HLT := kide hlT
  clear hx h hs hbl hT hf f2 f3 f4 hlT
  go_enter Tryd.func68, Tryd.ntmps68
  go_wp2_with fail
  go_loopw [2] (fun q wr => ∃ k : Nat, k ≤ i ∧ q = .int .i64 ((k : Int) + 1) ∧ Below u.heap.size u wr) (fun q _ => i + 1 - (intOf q).toNat)
  case atStart => exact ⟨0, Nat.zero_le _, rfl, Below.refl _ _⟩
  case round =>
    obtain ⟨k, hk, rfl, hbr⟩ := hrel
    have BR := kide hbr
    have WR := kide (HW.out.later hbr)
    have SR := kide (HS.out.later hbr)
    have d0 : wr.cell? ⟨sb, 0, none⟩ = some (.pointer (some ⟨M.bx, 0, none⟩)) := SR.out.box.cell 0
    have HI1 := kide (isSo_se WR.out hS4 ((k : Int) + 1) (by omega))
    have hlb : sb < wr.heap.size := SR.out.box.lt
    have hwk : IntKind.i64.wrap (-((k : Int) + 1)) = -((k : Int) + 1) := by rw [IntKind.wrap_i64]; omega
    clear hbr
    by_cases hki : k < i
    · by_cases hm : ((k : Int) + 1) ∈ T
      · rw [decide_eq_true hm] at HI1
        clear hm
        go_wp2_with fail
        refine Calls.mono HI1.out ?_
        rintro e w2 ⟨rfl, hb2⟩
        have B2 := kide (BR.out.trans (hb2.mono BR.out.size))
        clear hb2 HI1 d0
        go_wp2_with fail
        go_roundw
        case rel => exact ⟨k + 1, by omega, by first | go_num | (congr 1; omega) | simp, B2.out⟩
        case measure => simp only [intOf]; omega
      · have hm2 : -((k : Int) + 1) ∈ T := (HF4.out k hki).resolve_left hm
        rw [decide_eq_false hm] at HI1
        clear hm
        go_wp2_with fail
        refine Calls.mono HI1.out ?_
        rintro e w2 ⟨rfl, hb2⟩
        have B2 := kide (BR.out.trans (hb2.mono BR.out.size))
        have d2 : w2.cell? ⟨sb, 0, none⟩ = some (.pointer (some ⟨M.bx, 0, none⟩)) := by rw [kcell hb2 _ _ hlb]; exact d0
        have HI2 := kide (isSo_se (WR.out.later hb2) hS4 (-((k : Int) + 1)) (by omega))
        rw [decide_eq_true hm2] at HI2
        clear hb2 HI1 d0 hm2
        go_wp2_with fail
        refine Calls.mono HI2.out ?_
        rintro e w3 ⟨rfl, hb3⟩
        have B3 := kide (B2.out.trans (hb3.mono B2.out.size))
        clear hb3 HI2 d2
        go_wp2_with fail
        go_roundw
        case rel => exact ⟨k + 1, by omega, by first | go_num | (congr 1; omega) | simp, B3.out⟩
        case measure => simp only [intOf]; omega
    · obtain rfl : k = i := by omega
      rw [decide_eq_false HF2.out] at HI1
      go_wp2_with fail
      refine Calls.mono HI1.out ?_
      rintro e w2 ⟨rfl, hb2⟩
      have B2 := kide (BR.out.trans (hb2.mono BR.out.size))
      have d2 : w2.cell? ⟨sb, 0, none⟩ = some (.pointer (some ⟨M.bx, 0, none⟩)) := by rw [kcell hb2 _ _ hlb]; exact d0
      have HI2 := kide (isSo_se (WR.out.later hb2) hS4 (-((k : Int) + 1)) (by omega))
      rw [decide_eq_false HF3.out] at HI2
      clear hb2 HI1 d0 WR SR BR
      go_wp2_with fail
      refine Calls.mono HI2.out ?_
      rintro e w3 ⟨rfl, hb3⟩
      have B3 := kide (B2.out.trans (hb3.mono B2.out.size))
      have W3 := kide (HW.out.later B3.out)
      have S3 := kide (HS.out.later B3.out)
      obtain ⟨ta, tc, ds, t1, t2, -, -⟩ := W3.out.trail
      have HT1 := kide t1
      have HT2 := kide t2
      clear hb3 HI2 d2 t1 t2 B2
      obtain ⟨tl, htl⟩ : ∃ tl, T.length = tl := ⟨_, rfl⟩
      rw [htl] at HT2
      have HTL := kide htl
      have HPU := kide (fun q (hq : Below w3.heap.size w3 q) => tpush_any ⟨k, T, false⟩ (S3.out.later hq) hKL)
      simp only [] at HPU
      rw [htl] at HPU
      clear htl
      go_wp2_with fail
      refine wp_region_x (SA := fun _ => False) (SB := fun uu => uu.cell? ⟨sb, 0, none⟩ = some (Value.pointer (some ⟨M.bx, 0, none⟩)) ∧ uu.cell? ⟨M.bx, 5, none⟩ = some (Value.slice ta tl tc)) (k := 999) (by kernel_rfl) ?_
      have hbd : Below w3.heap.size w3 w3.drew := (Below.refl _ _).drew
      have BQ := kide hbd
      have c0_0 : w3.drew.cell? ⟨sb, 0, none⟩ = some (Value.pointer (some ⟨M.bx, 0, none⟩)) := (S3.out.later hbd).box.cell 0
      have c1_0 : w3.drew.cell? ⟨M.bx, 5, none⟩ = some (Value.slice ta tl tc) := ((HT1.out.later hbd).cell 5).trans HT2.out
      clear hbd
      generalize w3.drew = q0 at *
      have hs0 : Hid ((fun uu => uu.cell? ⟨sb, 0, none⟩ = some (Value.pointer (some ⟨M.bx, 0, none⟩)) ∧ uu.cell? ⟨M.bx, 5, none⟩ = some (Value.slice ta tl tc)) q0) := ⟨c0_0, c1_0⟩
      try go_simp
      refine wpAnyX_both (T := (fun _ => True)) (i := 0) (v := Value.pointer (some ⟨sb, 0, none⟩)) rfl (by kernel_rfl) (by kernel_rfl) (by kernel_rfl) (fun _ _ _ h => by first | exact h | exact h.elim) (by decide) (fun _ _ => trivial) (fun _ _ => trivial) (Sx.behind (by kernel_rfl) hs0.out) (Or.inl ⟨by rfl, fun uu hu => by go_simp⟩) ?_
      try go_simp
      refine wpAnyX_both (T := (fun _ => True)) (i := 1) (v := Value.pointer (some ⟨sb, 0, none⟩)) rfl (by kernel_rfl) (by kernel_rfl) (by kernel_rfl) (fun _ _ _ h => by first | exact h | exact h.elim) (by decide) (fun _ _ => trivial) (fun _ _ => trivial) (Sx.behind (by kernel_rfl) hs0.out) (Or.inl ⟨by rfl, fun uu hu => by go_simp⟩) ?_
      try go_simp
      refine wpAnyX_both (T := (fun _ => True)) (i := 2) (v := Value.pointer (some ⟨sb, 1, none⟩)) rfl (by kernel_rfl) (by kernel_rfl) (by kernel_rfl) (fun _ _ _ h => by first | exact h | exact h.elim) (by decide) (fun _ _ => trivial) (fun _ _ => trivial) (Sx.behind (by kernel_rfl) hs0.out) (Or.inl ⟨by rfl, fun uu hu => by go_simp⟩) ?_
      try go_simp
      refine wpAnyX_both (T := (fun _ => True)) (i := 3) (v := Value.int .i64 ((k : Int) + 1)) rfl (by kernel_rfl) (by kernel_rfl) (by kernel_rfl) (fun _ _ _ h => by first | exact h | exact h.elim) (by decide) (fun _ _ => trivial) (fun _ _ => trivial) (Sx.behind (by kernel_rfl) hs0.out) (Or.inl ⟨by rfl, fun uu hu => by go_simp⟩) ?_
      try go_simp
      refine wpAnyX_both (T := (fun _ => True)) (i := 4) (v := Value.pointer (some ⟨sb, 0, none⟩)) rfl (by kernel_rfl) (by kernel_rfl) (by kernel_rfl) (fun _ _ _ h => by first | exact h | exact h.elim) (by decide) (fun _ _ => trivial) (fun _ _ => trivial) (Sx.behind (by kernel_rfl) hs0.out) (Or.inl ⟨by rfl, fun uu hu => by go_simp⟩) ?_
      try go_simp
      refine wpAnyX_both (T := (fun _ => True)) (i := 5) (v := Value.pointer (some ⟨sb, 0, none⟩)) rfl (by kernel_rfl) (by kernel_rfl) (by kernel_rfl) (fun _ _ _ h => by first | exact h | exact h.elim) (by decide) (fun _ _ => trivial) (fun _ _ => trivial) (Sx.behind (by kernel_rfl) hs0.out) (Or.inl ⟨by rfl, fun uu hu => by go_simp⟩) ?_
      try go_simp
      refine wpAnyX_both (T := (fun _ => True)) (i := 6) (v := Value.pointer (some ⟨sb, 0, none⟩)) rfl (by kernel_rfl) (by kernel_rfl) (by kernel_rfl) (fun _ _ _ h => by first | exact h | exact h.elim) (by decide) (fun _ _ => trivial) (fun _ _ => trivial) (Sx.behind (by kernel_rfl) hs0.out) (Or.inl ⟨by rfl, fun uu hu => by go_simp⟩) ?_
      try go_simp
      refine wpAnyX_both (T := (fun uu => uu.cell? ⟨sb, 0, none⟩ = some (Value.pointer (some ⟨M.bx, 0, none⟩)) ∧ uu.cell? ⟨M.bx, 5, none⟩ = some (Value.slice ta tl tc))) (i := 7) (v := Value.pointer (some ⟨M.bx, 0, none⟩)) rfl (by kernel_rfl) (by kernel_rfl) (by kernel_rfl) (fun _ _ _ h => by first | exact h | exact h.elim) (by decide) (fun _ h => h.elim) (fun _ h => h) (Sx.behind (by kernel_rfl) hs0.out) (Or.inl ⟨by rfl, fun uu hu => by obtain ⟨e0, e1⟩ := hu; go_simp⟩) ?_
      try go_simp
      refine wpAnyX_both (T := (fun _ => True)) (i := 8) (v := Value.pointer (some ⟨M.bx, 0, none⟩)) rfl (by kernel_rfl) (by kernel_rfl) (by kernel_rfl) (fun _ _ _ h => by first | exact h | exact h.elim) (by decide) (fun _ _ => trivial) (fun _ _ => trivial) (Sx.behind (by kernel_rfl) hs0.out) (Or.inl ⟨by rfl, fun uu hu => by go_simp⟩) ?_
      try go_simp
      refine wpAnyX_both (T := (fun _ => True)) (i := 9) (v := Value.pointer (some ⟨M.bx, 5, none⟩)) rfl (by kernel_rfl) (by kernel_rfl) (by kernel_rfl) (fun _ _ _ h => by first | exact h | exact h.elim) (by decide) (fun _ _ => trivial) (fun _ _ => trivial) (Sx.behind (by kernel_rfl) hs0.out) (Or.inl ⟨by rfl, fun uu hu => by go_simp⟩) ?_
      try go_simp
      refine wpAnyX_both (T := (fun uu => uu.cell? ⟨sb, 0, none⟩ = some (Value.pointer (some ⟨M.bx, 0, none⟩)) ∧ uu.cell? ⟨M.bx, 5, none⟩ = some (Value.slice ta tl tc))) (i := 10) (v := Value.slice ta tl tc) rfl (by kernel_rfl) (by kernel_rfl) (by kernel_rfl) (fun _ _ _ h => by first | exact h | exact h.elim) (by decide) (fun _ h => h.elim) (fun _ h => h) (Sx.behind (by kernel_rfl) hs0.out) (Or.inl ⟨by rfl, fun uu hu => by obtain ⟨e0, e1⟩ := hu; go_simp⟩) ?_
      try go_simp
      refine wpAnyX_both (T := (fun _ => True)) (i := 11) (v := Value.int .i64 (tl : Int)) rfl (by kernel_rfl) (by kernel_rfl) (by kernel_rfl) (fun _ _ _ h => by first | exact h | exact h.elim) (by decide) (fun _ _ => trivial) (fun _ _ => trivial) (Sx.behind (by kernel_rfl) hs0.out) (Or.inl ⟨by rfl, fun uu hu => by go_simp⟩) ?_
      try go_simp
      refine wpAnyX_both (T := (fun _ => True)) (i := 12) (v := Value.agg #[Value.int .i64 ((k : Int) + 1), Value.int .i64 (tl : Int), Value.bool false]) rfl (by kernel_rfl) (by kernel_rfl) (by kernel_rfl) (fun _ _ _ h => by first | exact h | exact h.elim) (by decide) (fun _ _ => trivial) (fun _ _ => trivial) (Sx.behind (by kernel_rfl) hs0.out) (Or.inl ⟨by rfl, fun uu hu => by go_simp⟩) ?_
      try go_simp
      refine wpAnyX_ready (rs := [13]) (by kernel_rfl) (by simp) (AllX.cons rfl (fun K hK => ?_) AllX.nil)
      go_simp
      refine Calls.mono (HPU.out q0 BQ.out) ?_
      rintro e q1 ⟨rfl, v4, s4, f4, b4⟩
      have HR4 := kide s4
      have HF4b := kide f4
      have HB4b := kide b4
      have c0_1 : q1.cell? ⟨sb, 0, none⟩ = some (Value.pointer (some ⟨M.bx, 0, none⟩)) := s4.box.cell 0
      have c1_1 : q1.cell? ⟨M.bx, 5, none⟩ = some (Value.slice ta tl tc) := ((f4.2.2.2.2 _ _ _ (HT1.out.later BQ.out) (by decide) (by decide)).cell 5).trans HT2.out
      clear s4 f4 b4
      have hs1 : Hid ((fun uu => uu.cell? ⟨sb, 0, none⟩ = some (Value.pointer (some ⟨M.bx, 0, none⟩)) ∧ uu.cell? ⟨M.bx, 5, none⟩ = some (Value.slice ta tl tc)) q1) := ⟨c0_1, c1_1⟩
      refine hK _ _ (Sx.behind (by kernel_rfl) hs1.out) ?_
      clear hK K
      try go_simp
      refine wpAnyX_done (by kernel_rfl) ?_ _
      have s4 := HR4.out
      have f4 := HF4b.out
      have b4 := HB4b.out
      have W4 := kide ((W3.out.later BQ.out).ft hex f4)
      have S4 := kide s4
      have B4 := kide (((B3.out.trans (BQ.out.mono B3.out.size)).mono HBL.out.size).trans b4)
      have e0 : q1.cell? ⟨sb, 0, none⟩ = some (.pointer (some ⟨M.bx, 0, none⟩)) := s4.box.cell 0
      have HPT := kide (put_se HX.out W4.out S4.out (HBL.out.trans B4.out) (by have := HLT.out; omega) (-((k : Int) + 1)) (by omega))
      clear s4 f4 b4 HR4 HF4b HB4b W3 S3 hlb
      go_wp2_with fail
      refine Calls.mono HPT.out ?_
      rintro e w5 ⟨rfl, g1, g2, g3⟩
      have G1 := kide g1
      have G2 := kide g2
      have G3 := kide (B4.out.trans g3)
      clear g1 g2 g3
      go_wp2_with fail
      exact bodyPost_end (v := .tuple #[]) (by simp [results, Tryd.results68, go_sem]) rfl ⟨rfl, G1.out, ⟨_, G2.out⟩, G3.out⟩
/-- The tries without those at the end that were on. -/
def dropOn : List Fr → List Fr
  | [] => []
  | fr :: K => if fr.on = true then dropOn K else fr :: K
theorem KOk.tail {S : Nat} {cs : List (List Int)} {T : List Int} {fr : Fr} {K : List Fr} (h : KOk S cs T (fr :: K)) : KOk S cs T K := by
  obtain ⟨⟨T1, -, h1⟩, -, -, -, -, -, h7⟩ := h
  rw [h1]
  exact h7.more T1
theorem Se.setOn {u : World} {B sb bx g c : Nat} {fr : Fr} {K : List Fr} {vis most : Nat} (h : Se u B sb bx (.slice (some ⟨g, 0, none⟩) (K.length + 1) c) (fr :: K) vis most) : Se (u.setCell ⟨g, K.length * 3 + 2, none⟩ (.bool true)) B sb bx (.slice (some ⟨g, 0, none⟩) (K.length + 1) c) (⟨fr.i, fr.T, true⟩ :: K) vis most ∧ Ft u (u.setCell ⟨g, K.length * 3 + 2, none⟩ (.bool true)) := by
  obtain ⟨hg, cur, hz⟩ := row_ty h.row (b := g) rfl
  have hgs : g ≠ sb := bzNe hz h.box (by decide)
  refine ⟨⟨(heap_setCell_other _ _ _ _ (Ne.symm hgs)).trans h.box, ?_, h.lo⟩, rfl, rfl, rfl, by simp, fun k cs t hk h1 h2 => (heap_setCell_other _ _ _ _ (bzNe hk hz h2)).trans hk⟩
  rcases h.row with ⟨r1, ⟨e, -⟩ | ⟨g', cap, cur', e, r2, r3, r4, r5, r6, r7⟩⟩
  · cases e
  · cases e
    have e2 := hz.symm.trans r3
    simp at e2
    subst e2
    refine ⟨kcL_len _, .inr ⟨g, c, cur.setIfInBounds (K.length * 3 + 2) (.bool true), rfl, r2, heap_setCell_same u g _ _ _ _ hz, r4, r5, by simpa using r6, ?_⟩⟩
    rw [Array.toList_setIfInBounds, List.take_set, show (List.length (⟨fr.i, fr.T, true⟩ :: K)) = (fr :: K).length from rfl, r7, kcL, kcL, List.set_append_right _ _ (by rw [kcL_len]; omega), kcL_len, Nat.add_sub_cancel_left]
    rfl
/-- What tryOn tells. -/
def RetOn (w u : World) (M : Wb) (S N : Nat) (ca : Option Addr) (nc cc nw sb : Nat) (cs : List (List Int)) (vis most : Nat) (K : List Fr) (e : Ending) (w' : World) : Prop :=
  match K with
  | [] => e = .returned (.bool false) ∧ (∃ v', Se w' w.heap.size sb M.bx v' [] vis most) ∧ Below w.heap.size u w'
  | fr :: K => e = .returned (.bool true) ∧ Ws w w' M S N ca nc cc nw cs (fr.T ++ [(fr.i : Int) + 1]) true ∧ (∃ v', Se w' w.heap.size sb M.bx v' (⟨fr.i, fr.T, true⟩ :: K) vis most) ∧ Below w.heap.size u w'
set_option maxHeartbeats 4000000 in
set_option maxRecDepth 100000 in
theorem tryOn_any {w u : World} {M : Wb} {S N : Nat} {ca : Option Addr} {nc cc nw sb : Nat} {xs : List Iw} {T : List Int} {live : Bool} {v : Value} {KL : List Fr} {vis most : Nat} (hx : Cnx w S nc nw ca xs) (h : Ws w u M S N ca nc cc nw (xs.map Iw.ks) T live) (hex : M.ex = []) (hs : Se u w.heap.size sb M.bx v KL vis most) (hbl : Below w.heap.size w u) (hT : Tk S T) (hKL : KL.length ≤ 1000) (hok : KOk S (xs.map Iw.ks) T KL) :
    Calls Tryd.prog 69 #[.pointer (some ⟨sb, 0, none⟩)] u (RetOn w u M S N ca nc cc nw sb (xs.map Iw.ks) vis most (dropOn KL)) := by
  have hS4 := hx.S4
  have HX := kide hx
  have HW := kide h
  have HS := kide hs
  have HBL := kide hbl
  have HT := kide hT
  have HOK := kide hok
  have HKL := kide hKL
  obtain ⟨DK, hDK⟩ : ∃ DK, dropOn KL = DK := ⟨_, rfl⟩
  rw [hDK]
  have HDK := kide hDK
  clear hx h hs hbl hT hok hDK hKL
  go_enter Tryd.func69, Tryd.ntmps69
  go_wp2_with fail
  go_loopg [] (KL.length) (fun g wr => ∃ v KR, Se wr w.heap.size sb M.bx v KR vis most ∧ Ws w wr M S N ca nc cc nw (xs.map Iw.ks) T live ∧ KOk S (xs.map Iw.ks) T KR ∧ dropOn KR = DK ∧ Below w.heap.size u wr ∧ KR.length ≤ 1000 ∧ KR.length ≤ g)
  case atStart => exact ⟨v, KL, HS.out, HW.out, HOK.out, HDK.out, (Below.refl _ _), HKL.out, Nat.le_refl _⟩
  case round =>
    obtain ⟨v1, KR, hse, hws, hok1, hdk, hb1, hk1, hg1⟩ := hrel
    have SE1 := kide hse
    have WS1 := kide hws
    have OK1 := kide hok1
    have DK1 := kide hdk
    have B1 := kide hb1
    have K1 := kide hk1
    have G1 := kide hg1
    clear hse hws hok1 hdk hb1 hk1 hg1 HS HW HOK
    cases KR with
    | nil =>
      have HSZ := kide (tsize_any SE1.out (by simp))
      simp only [List.length_nil] at HSZ
      go_wp2_with fail
      refine Calls.mono HSZ.out ?_
      rintro e w2 ⟨rfl, hw2⟩
      obtain rfl := hw2.symm
      clear hw2
      go_wp2_with fail
      refine Calls.mono HSZ.out ?_
      rintro e w2 ⟨rfl, hw2⟩
      obtain rfl := hw2.symm
      clear hw2
      go_wp2_with fail
      go_ret
      rw [← DK1.out]
      exact ⟨rfl, ⟨_, SE1.out⟩, B1.out⟩
    | cons fr K =>
      obtain ⟨g, c, cur, rfl, hc, hgB, hz, z0, z1, z2⟩ := SE1.out.top
      have HSZ := kide (fun q (hq : Below wr.heap.size wr q) => tsize_any (SE1.out.later hq) K1.out)
      have HTP := kide (fun q (hq : Below wr.heap.size wr q) => ttop_any (SE1.out.later hq) (by have := K1.out; simp at this; omega))
      obtain ⟨kn, hkn⟩ : ∃ kn, K.length = kn := ⟨_, rfl⟩
      simp only [List.length_cons] at HSZ
      rw [hkn] at HSZ HTP
      have hk9 : kn ≤ 1000 := by have := K1.out; simp at this; omega
      have Z0 := kide z0
      have Z1 := kide z1
      have Z2 := kide z2
      have HKN := kide hkn
      have hi1 : ((kn + 1 : Nat) : Int) > 0 := by omega
      have hi2 : (((kn + 1 : Nat) : Int) == 0) = false := beq_eq_false_iff_ne.2 (by omega)
      obtain ⟨k1, hk1⟩ : ∃ k1, kn + 1 = k1 := ⟨_, rfl⟩
      rw [hk1] at HSZ hi1 hi2
      rw [hkn] at Z0 Z1 Z2
      clear z0 z1 z2 hkn hk1 hz hc
      go_wp2_with fail
      refine Calls.mono (HSZ.out wr (Below.refl _ _)) ?_
      rintro e w2 ⟨rfl, hw2⟩
      obtain rfl := hw2.symm
      clear hw2
      go_wp2_with fail
      refine Calls.mono (HTP.out _ (Below.refl _ _)) ?_
      rintro e w2 ⟨rfl, hb2⟩
      have B2 := kide hb2
      have y2 : w2.cell? ⟨g, kn * 3 + 2, none⟩ = some (.bool fr.on) := by rw [kcell hb2 _ _ (block_lt_of_cell Z2.out)]; exact Z2.out
      clear hb2
      cases hon : fr.on with
      | true =>
        rw [hon] at y2
        have HPO := kide (tpop_any (SE1.out.later B2.out) (by have := K1.out; simp at this; omega))
        have DK2 : Hid (dropOn K = DK) := by have := DK1.out; rw [dropOn, if_pos hon] at this; exact this
        go_wp2_with fail
        refine Calls.mono HPO.out ?_
        rintro e w3 ⟨rfl, v3, s3, f3, b3⟩
        have S3 := kide s3
        have W3 := kide ((WS1.out.later B2.out).ft hex f3)
        have B3 := kide ((B1.out.trans (B2.out.mono (HBL.out.trans B1.out).size)).trans b3)
        clear s3 f3 b3 HPO y2
        go_wp2_with fail
        go_roundg (K.length)
        case measure => have := G1.out; simp at this; omega
        case rel => exact ⟨v3, K, S3.out, W3.out, OK1.out.tail, DK2.out, B3.out, by have := K1.out; simp at this; omega, Nat.le_refl _⟩
      | false =>
        rw [hon] at y2
        have DK2 : Hid (DK = fr :: K) := by have := DK1.out; rw [dropOn, if_neg (by rw [hon]; decide)] at this; exact this.symm
        obtain ⟨⟨T1, -, hT1⟩, hcl, hi3, htk, hn1, hn2, -⟩ := OK1.out
        go_wp2_with fail
        refine Calls.mono (HSZ.out w2 B2.out) ?_
        rintro e w3 ⟨rfl, hw3⟩
        obtain rfl := hw3.symm
        clear hw3
        go_wp2_with fail
        refine Calls.mono (HTP.out w2 B2.out) ?_
        rintro e w4 ⟨rfl, hb4⟩
        have B4 := kide (B2.out.trans (hb4.mono B2.out.size))
        have y4 : w4.cell? ⟨g, kn * 3 + 2, none⟩ = some (.bool false) := by rw [kcell hb4 _ _ (block_lt_of_cell y2)]; exact y2
        have q4 : w4.frozen? ⟨g, kn * 3 + 2, none⟩ = false := by obtain ⟨-, cur2, h2⟩ := row_ty (SE1.out.later B4.out).row (b := g) rfl; exact h2.froz _
        obtain ⟨son, fon⟩ := (SE1.out.later B4.out).setOn
        rw [HKN.out] at son fon
        obtain ⟨w5, hw5⟩ : ∃ w5, w4.setCell ⟨g, kn * 3 + 2, none⟩ (.bool true) = w5 := ⟨_, rfl⟩
        have S5 : Hid (Se w5 w.heap.size sb M.bx (.slice (some ⟨g, 0, none⟩) (kn + 1) c) (⟨fr.i, fr.T, true⟩ :: K) vis most) := by rw [← hw5]; exact son
        have W5 : Hid (Ws w w5 M S N ca nc cc nw (xs.map Iw.ks) T live) := by rw [← hw5]; exact (WS1.out.later B4.out).ft hex fon
        have B5 : Hid (Below w.heap.size u w5) := by rw [← hw5]; exact (B1.out.trans (B4.out.mono (HBL.out.trans B1.out).size)).setCell (p := ⟨g, kn * 3 + 2, none⟩) hgB _
        have n0 : w5.cell? ⟨g, kn * 3, none⟩ = some (.int .i64 ((fr.i : Int) + 1)) := by
          obtain ⟨g', c', cur', e', -, -, -, h0, -, -⟩ := S5.out.top
          obtain ⟨e1, -, -⟩ := Value.slice.inj e'
          cases e1
          rw [HKN.out] at h0
          exact h0
        have zp : Hid (w5.cell? ⟨g, kn * 3 + 1, none⟩ = some (.int .i64 (fr.T.length : Int))) := by
          obtain ⟨g', c', cur', e', -, -, -, -, h0, -⟩ := S5.out.top
          obtain ⟨e1, -, -⟩ := Value.slice.inj e'
          cases e1
          rw [HKN.out] at h0
          exact h0
        obtain ⟨tl, htl⟩ : ∃ tl, fr.T.length = tl := ⟨_, rfl⟩
        obtain ⟨fi, hfi⟩ : ∃ fi, fr.i = fi := ⟨_, rfl⟩
        rw [htl] at zp
        have HUN := kide (fun q (hq : Below w5.heap.size w5 q) => undo_se (T := fr.T) (T1 := T1) HX.out (by have := W5.out.later hq; rw [hT1] at this; exact this) (S5.out.later hq) ((HBL.out.trans B5.out).trans (hq.mono (HBL.out.trans B5.out).size)) (by have := HT.out; rw [hT1] at this; exact this) hcl tl htl)
        have HTK := kide htk
        have HTL := kide htl
        have HI3 := kide hi3
        have HFI := kide hfi
        clear son fon hb4 y2 hT1 hcl hi3 htk hn1 hn2 htl n0 B4
        go_wp2_with fail
        refine wp_region_x (SA := fun uu => uu.cell? ⟨sb, 0, none⟩ = some (Value.pointer (some ⟨M.bx, 0, none⟩)) ∧ uu.cell? ⟨g, kn * 3 + 1, none⟩ = some (Value.int .i64 (tl : Int))) (SB := fun _ => True) (k := 8) (by kernel_rfl) ?_
        have hbd : Below w5.heap.size w5 w5.drew := (Below.refl _ _).drew
        have Bp := kide hbd
        have c0_0 : w5.drew.cell? ⟨sb, 0, none⟩ = some (Value.pointer (some ⟨M.bx, 0, none⟩)) := (S5.out.later hbd).box.cell 0
        have c1_0 : w5.drew.cell? ⟨g, kn * 3 + 1, none⟩ = some (Value.int .i64 (tl : Int)) := by rw [kcell hbd _ _ (block_lt_of_cell zp.out)]; exact zp.out
        clear hbd
        generalize w5.drew = p0 at *
        have hs0 : Hid ((fun uu => uu.cell? ⟨sb, 0, none⟩ = some (Value.pointer (some ⟨M.bx, 0, none⟩)) ∧ uu.cell? ⟨g, kn * 3 + 1, none⟩ = some (Value.int .i64 (tl : Int))) p0) := ⟨c0_0, c1_0⟩
        try go_simp
        refine wpAnyX_both (T := fun _ => True) (i := 0) (v := Value.pointer (some ⟨sb, 0, none⟩)) rfl (by kernel_rfl) (by kernel_rfl) (by kernel_rfl) (fun _ _ _ h => by first | exact h | exact h.elim) (by decide) (fun _ _ => trivial) (fun _ _ => trivial) (Sx.before (by kernel_rfl) hs0.out) (Or.inl ⟨by rfl, fun uu hu => by go_simp⟩) ?_
        try go_simp
        refine wpAnyX_both (T := fun _ => True) (i := 1) (v := Value.pointer (some ⟨sb, 0, none⟩)) rfl (by kernel_rfl) (by kernel_rfl) (by kernel_rfl) (fun _ _ _ h => by first | exact h | exact h.elim) (by decide) (fun _ _ => trivial) (fun _ _ => trivial) (Sx.before (by kernel_rfl) hs0.out) (Or.inl ⟨by rfl, fun uu hu => by go_simp⟩) ?_
        try go_simp
        refine wpAnyX_both (T := fun _ => True) (i := 2) (v := Value.pointer (some ⟨sb, 0, none⟩)) rfl (by kernel_rfl) (by kernel_rfl) (by kernel_rfl) (fun _ _ _ h => by first | exact h | exact h.elim) (by decide) (fun _ _ => trivial) (fun _ _ => trivial) (Sx.before (by kernel_rfl) hs0.out) (Or.inl ⟨by rfl, fun uu hu => by go_simp⟩) ?_
        try go_simp
        refine wpAnyX_take (i := 3) (v := Value.pointer (some ⟨M.bx, 0, none⟩)) rfl (by kernel_rfl) (by kernel_rfl) (by kernel_rfl) (fun _ _ _ h => by first | exact h | exact h.elim) (by decide) (by kernel_rfl) (by kernel_rfl) hs0.out (Or.inl ⟨by rfl, fun uu hu => by obtain ⟨e0, e1⟩ := hu; go_simp⟩) ?_
        try go_simp
        refine wpAnyX_both (T := fun _ => True) (i := 4) (v := Value.pointer (some ⟨g, kn * 3, none⟩)) rfl (by kernel_rfl) (by kernel_rfl) (by kernel_rfl) (fun _ _ _ h => by first | exact h | exact h.elim) (by decide) (fun _ _ => trivial) (fun _ _ => trivial) (Sx.before (by kernel_rfl) hs0.out) (Or.inl ⟨by rfl, fun uu hu => by go_simp⟩) ?_
        try go_simp
        refine wpAnyX_both (T := fun _ => True) (i := 5) (v := Value.pointer (some ⟨g, kn * 3, none⟩)) rfl (by kernel_rfl) (by kernel_rfl) (by kernel_rfl) (fun _ _ _ h => by first | exact h | exact h.elim) (by decide) (fun _ _ => trivial) (fun _ _ => trivial) (Sx.before (by kernel_rfl) hs0.out) (Or.inl ⟨by rfl, fun uu hu => by go_simp⟩) ?_
        try go_simp
        refine wpAnyX_both (T := fun _ => True) (i := 6) (v := Value.pointer (some ⟨g, kn * 3 + 1, none⟩)) rfl (by kernel_rfl) (by kernel_rfl) (by kernel_rfl) (fun _ _ _ h => by first | exact h | exact h.elim) (by decide) (fun _ _ => trivial) (fun _ _ => trivial) (Sx.before (by kernel_rfl) hs0.out) (Or.inl ⟨by rfl, fun uu hu => by go_simp⟩) ?_
        try go_simp
        refine wpAnyX_take (i := 7) (v := Value.int .i64 (tl : Int)) rfl (by kernel_rfl) (by kernel_rfl) (by kernel_rfl) (fun _ _ _ h => by first | exact h | exact h.elim) (by decide) (by kernel_rfl) (by kernel_rfl) hs0.out (Or.inl ⟨by rfl, fun uu hu => by obtain ⟨e0, e1⟩ := hu; go_simp⟩) ?_
        try go_simp
        refine wpAnyX_ready (rs := [8]) (by kernel_rfl) (by simp) (AllX.cons rfl (fun K hK => ?_) AllX.nil)
        go_simp
        refine Calls.mono (HUN.out p0 Bp.out) ?_
        rintro e p1 ⟨rfl, hr9⟩
        have HRp := kide hr9
        clear hr9
        refine hK _ _ (Sx.behind (by kernel_rfl) trivial) ?_
        clear hK K
        try go_simp
        refine wpAnyX_done (by kernel_rfl) ?_ _
        obtain ⟨g1, g2, g3⟩ := HRp.out
        have W6 := kide g1
        have S6 := kide g2
        have B6 := kide ((B5.out.trans (Bp.out.mono (HBL.out.trans B5.out).size)).trans g3)
        have zr : Hid (p1.cell? ⟨g, kn * 3, none⟩ = some (.int .i64 ((fi : Int) + 1))) := by
          obtain ⟨g', c', cur', e', -, -, -, h0, -, -⟩ := S6.out.top
          obtain ⟨e1, -, -⟩ := Value.slice.inj e'
          cases e1
          simp only [] at h0
          rw [HKN.out, HFI.out] at h0
          exact h0
        have HPT := kide (fun q (hq : Below p1.heap.size p1 q) => put_se HX.out (W6.out.later hq) (S6.out.later hq) ((HBL.out.trans B6.out).trans (hq.mono (HBL.out.trans B6.out).size)) (by have := HTK.out.len; omega) ((fi : Int) + 1) (by have := HI3.out; have := HFI.out; omega))
        clear g1 g2 g3 HRp
        go_wp2_with fail
        refine wp_region_x (SA := fun uu => uu.cell? ⟨sb, 0, none⟩ = some (Value.pointer (some ⟨M.bx, 0, none⟩)) ∧ uu.cell? ⟨g, kn * 3, none⟩ = some (Value.int .i64 ((fi : Int) + 1))) (SB := fun _ => True) (k := 8) (by kernel_rfl) ?_
        have hbd : Below p1.heap.size p1 p1.drew := (Below.refl _ _).drew
        have Br := kide hbd
        have c0_0 : p1.drew.cell? ⟨sb, 0, none⟩ = some (Value.pointer (some ⟨M.bx, 0, none⟩)) := (S6.out.later hbd).box.cell 0
        have c1_0 : p1.drew.cell? ⟨g, kn * 3, none⟩ = some (Value.int .i64 ((fi : Int) + 1)) := by rw [kcell hbd _ _ (block_lt_of_cell zr.out)]; exact zr.out
        clear hbd
        generalize p1.drew = r0 at *
        have hs0 : Hid ((fun uu => uu.cell? ⟨sb, 0, none⟩ = some (Value.pointer (some ⟨M.bx, 0, none⟩)) ∧ uu.cell? ⟨g, kn * 3, none⟩ = some (Value.int .i64 ((fi : Int) + 1))) r0) := ⟨c0_0, c1_0⟩
        try go_simp
        refine wpAnyX_both (T := fun _ => True) (i := 0) (v := Value.pointer (some ⟨sb, 0, none⟩)) rfl (by kernel_rfl) (by kernel_rfl) (by kernel_rfl) (fun _ _ _ h => by first | exact h | exact h.elim) (by decide) (fun _ _ => trivial) (fun _ _ => trivial) (Sx.before (by kernel_rfl) hs0.out) (Or.inl ⟨by rfl, fun uu hu => by go_simp⟩) ?_
        try go_simp
        refine wpAnyX_both (T := fun _ => True) (i := 1) (v := Value.pointer (some ⟨sb, 0, none⟩)) rfl (by kernel_rfl) (by kernel_rfl) (by kernel_rfl) (fun _ _ _ h => by first | exact h | exact h.elim) (by decide) (fun _ _ => trivial) (fun _ _ => trivial) (Sx.before (by kernel_rfl) hs0.out) (Or.inl ⟨by rfl, fun uu hu => by go_simp⟩) ?_
        try go_simp
        refine wpAnyX_both (T := fun _ => True) (i := 2) (v := Value.pointer (some ⟨sb, 0, none⟩)) rfl (by kernel_rfl) (by kernel_rfl) (by kernel_rfl) (fun _ _ _ h => by first | exact h | exact h.elim) (by decide) (fun _ _ => trivial) (fun _ _ => trivial) (Sx.before (by kernel_rfl) hs0.out) (Or.inl ⟨by rfl, fun uu hu => by go_simp⟩) ?_
        try go_simp
        refine wpAnyX_take (i := 3) (v := Value.pointer (some ⟨M.bx, 0, none⟩)) rfl (by kernel_rfl) (by kernel_rfl) (by kernel_rfl) (fun _ _ _ h => by first | exact h | exact h.elim) (by decide) (by kernel_rfl) (by kernel_rfl) hs0.out (Or.inl ⟨by rfl, fun uu hu => by obtain ⟨e0, e1⟩ := hu; go_simp⟩) ?_
        try go_simp
        refine wpAnyX_both (T := fun _ => True) (i := 4) (v := Value.pointer (some ⟨g, kn * 3, none⟩)) rfl (by kernel_rfl) (by kernel_rfl) (by kernel_rfl) (fun _ _ _ h => by first | exact h | exact h.elim) (by decide) (fun _ _ => trivial) (fun _ _ => trivial) (Sx.before (by kernel_rfl) hs0.out) (Or.inl ⟨by rfl, fun uu hu => by go_simp⟩) ?_
        try go_simp
        refine wpAnyX_both (T := fun _ => True) (i := 5) (v := Value.pointer (some ⟨g, kn * 3, none⟩)) rfl (by kernel_rfl) (by kernel_rfl) (by kernel_rfl) (fun _ _ _ h => by first | exact h | exact h.elim) (by decide) (fun _ _ => trivial) (fun _ _ => trivial) (Sx.before (by kernel_rfl) hs0.out) (Or.inl ⟨by rfl, fun uu hu => by go_simp⟩) ?_
        try go_simp
        refine wpAnyX_both (T := fun _ => True) (i := 6) (v := Value.pointer (some ⟨g, kn * 3, none⟩)) rfl (by kernel_rfl) (by kernel_rfl) (by kernel_rfl) (fun _ _ _ h => by first | exact h | exact h.elim) (by decide) (fun _ _ => trivial) (fun _ _ => trivial) (Sx.before (by kernel_rfl) hs0.out) (Or.inl ⟨by rfl, fun uu hu => by go_simp⟩) ?_
        try go_simp
        refine wpAnyX_take (i := 7) (v := Value.int .i64 ((fi : Int) + 1)) rfl (by kernel_rfl) (by kernel_rfl) (by kernel_rfl) (fun _ _ _ h => by first | exact h | exact h.elim) (by decide) (by kernel_rfl) (by kernel_rfl) hs0.out (Or.inl ⟨by rfl, fun uu hu => by obtain ⟨e0, e1⟩ := hu; go_simp⟩) ?_
        try go_simp
        refine wpAnyX_ready (rs := [8]) (by kernel_rfl) (by simp) (AllX.cons rfl (fun K hK => ?_) AllX.nil)
        go_simp
        refine Calls.mono (HPT.out r0 Br.out) ?_
        rintro e r1 ⟨rfl, hr9⟩
        have HRr := kide hr9
        clear hr9
        refine hK _ _ (Sx.behind (by kernel_rfl) trivial) ?_
        clear hK K
        try go_simp
        refine wpAnyX_done (by kernel_rfl) ?_ _
        obtain ⟨g1, g2, g3⟩ := HRr.out
        have G1 := kide g1
        have G2 := kide g2
        have G3 := kide ((B6.out.trans (Br.out.mono (HBL.out.trans B6.out).size)).trans g3)
        rw [← HFI.out] at G1
        clear g1 g2 g3 HRr
        go_wp2_with fail
        go_ret
        rw [DK2.out]
        exact ⟨rfl, G1.out, ⟨_, G2.out⟩, G3.out⟩
end Go.Proofs.YtmfamdonbgmjbaaDoor
