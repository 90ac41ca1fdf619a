/- Nodes that hold their marks are told so; a term in new memory is marked, and holds its marks. -/
import Derived.Test.YtemdnbldeeifnaaDoorTNB
namespace Go.Proofs.YtemdnbldeeifnaaDoor
set_option linter.unusedVariables false
set_option linter.unusedSimpArgs false
open Go.RowKit

set_option maxHeartbeats 2000000 in
theorem heldT_any (g c n k N : Nat) (l : List Tg) (w : World) (h : HeldT w g N l k) (hN : n * 7 ≤ N) (hl : shT l) (hn : l.length = n) (hn2 : n ≤ 1048576) (hk : k ≤ 4000000000000000000) :
    Calls Tryd.prog 28 #[.slice (some ⟨g, 0, none⟩) n c, .int .i64 (k : Int)] w fun e w' => e = .returned (.int .i64 (mkT l k l.length : Int)) ∧ w' = w := by
  obtain ⟨f, hrow, hf, hh⟩ := h
  have HR := kide hrow
  have HF := kide hf
  have HH := kide hh
  have HN := kide hn
  have HSL := kide hl
  have HLE := kide (fun i => mkT_le (k := k) hl i)
  clear hrow hf hh hn hl
  go_enter Tryd.func28, Tryd.ntmps28
  go_wp2_with fail
  go_loop [1, 5] (fun q i => ∃ j : Nat, j ≤ n ∧ i = .int .i64 j ∧ q = .int .i64 (mkT l k j : Int)) (fun _ i => n - (intOf i).toNat)
  case atStart => exact ⟨0, Nat.zero_le _, rfl, rfl⟩
  case round =>
    obtain ⟨j, hj, rfl, rfl⟩ := hrel
    by_cases hlt : j < n
    · obtain ⟨x, gx⟩ : ∃ x, l[j]? = some x := ⟨l[j]'(by rw [HN.out]; exact hlt), List.getElem?_eq_getElem _⟩
      obtain ⟨⟨v0, v1, v2, v3, v4⟩, m1, m2⟩ := HH.out j x gx
      obtain ⟨-, e5, e6⟩ := HF.out j x gx
      obtain ⟨hlw, hlk⟩ := HSL.out x (List.mem_of_getElem? gx)
      have hKb := HLE.out j
      have HST : Hid (mkT l k (j + 1) = mkT l k j + 5 + (x.ct.ws.length + x.ct.ks.length)) := by show _ = _; simp [mkT, lnT, gx]
      generalize hKK : mkT l k j = K at *
      have hKb2 : K ≤ 5000000000000000000 := by
        have : j * 2097157 ≤ 1048576 * 2097157 := Nat.mul_le_mul_right _ (by omega)
        omega
      have q0 := HR.out.cell (i := j * 7) (by omega)
      have q1 := HR.out.cell (i := j * 7 + 1) (by omega)
      have q2 := HR.out.cell (i := j * 7 + 2) (by omega)
      have q3 := HR.out.cell (i := j * 7 + 3) (by omega)
      have q4 := HR.out.cell (i := j * 7 + 4) (by omega)
      have q5 := HR.out.cell (i := j * 7 + 5) (by omega)
      have q6 := HR.out.cell (i := j * 7 + 6) (by omega)
      rw [v0] at q0
      rw [v1] at q1
      rw [v2] at q2
      rw [v3] at q3
      rw [v4] at q4
      rw [e5] at q5
      rw [e6] at q6
      have n0 : ((K : Int) != (K : Int)) = false := by simp
      have n1 : ((K : Int) + 1 != (K : Int) + 1) = false := by simp
      have n2 : ((K : Int) + 1 + 1 != (K : Int) + 1 + 1) = false := by simp
      have n3 : ((K : Int) + 1 + 1 + 1 != (K : Int) + 1 + 1 + 1) = false := by simp
      have n4 : ((K : Int) + 1 + 1 + 1 + 1 != (K : Int) + 1 + 1 + 1 + 1) = false := by simp
      have i0 : (j : Int) < (n : Int) := by omega
      obtain ⟨K5, hK5⟩ : ∃ K5 : Nat, K + 5 = K5 := ⟨_, rfl⟩
      obtain ⟨K6, hK6⟩ : ∃ K6 : Nat, K5 + x.ct.ws.length = K6 := ⟨_, rfl⟩
      obtain ⟨K7, hK7⟩ : ∃ K7 : Nat, K6 + x.ct.ks.length = K7 := ⟨_, rfl⟩
      rw [hK5] at m1 m2
      rw [hK6] at m2
      have HU := kide (heldU_ra x.wc K5 x.ct.ws.length x.wa w (by omega) hlw m1)
      have HI := kide (heldI_ra x.kc K6 x.ct.ks.length x.ka w (by omega) hlk m2)
      rw [hK6] at HU
      rw [hK7] at HI
      have hKe : (K : Int) + 1 + 1 + 1 + 1 + 1 = (K5 : Int) := by omega
      have p6 : ¬ (K6 : Int) < 0 := by omega
      have p7 : ¬ (K7 : Int) < 0 := by omega
      have HK7 : Hid (K7 = K + 5 + (x.ct.ws.length + x.ct.ks.length)) := by show _ = _; omega
      have HKE := kide hKe
      clear m1 m2 gx hKK hK5 hK6 hK7 v0 v1 v2 v3 v4 e5 e6 hKe
      go_wp2_with fail
      rw [HKE.out]
      refine Calls.mono HU.out ?_
      rintro e w3 ⟨rfl, hw3⟩
      obtain rfl := hw3.symm
      go_wp2_with fail
      refine Calls.mono HI.out ?_
      rintro e w3 ⟨rfl, hw3⟩
      obtain rfl := hw3.symm
      go_wp2_with fail
      go_round
      case rel => exact ⟨j + 1, by omega, by go_num, by rw [HST.out, HK7.out]⟩
      case measure => simp [intOf]; omega
    · have e : j = n := by omega
      subst e
      go_wp2_with fail
      go_ret
      exact ⟨by rw [HN.out]; rfl, rfl⟩

theorem markT_nil (a : Option Addr) (c k : Nat) (w : World) : Calls Tryd.prog 27 #[.slice a 0 c, .int .i64 (k : Int)] w fun e w' => e = .returned (.int .i64 (k : Int)) ∧ w' = w := by
  go_enter Tryd.func27, Tryd.ntmps27
  go_wp2_with fail
  go_loopw [1, 5] (fun q i wr => q = .int .i64 (k : Int) ∧ i = .int .i64 0 ∧ wr = w) (fun _ _ _ => 0)
  case atStart => exact ⟨rfl, rfl, rfl⟩
  case round =>
    obtain ⟨rfl, rfl, rfl⟩ := hrel
    go_wp2_with fail
    go_ret
    exact ⟨rfl, rfl⟩
theorem heldT_nil (a : Option Addr) (c k : Nat) (w : World) : Calls Tryd.prog 28 #[.slice a 0 c, .int .i64 (k : Int)] w fun e w' => e = .returned (.int .i64 (k : Int)) ∧ w' = w := by
  go_enter Tryd.func28, Tryd.ntmps28
  go_wp2_with fail
  go_loop [1, 5] (fun q i => q = .int .i64 (k : Int) ∧ i = .int .i64 0) (fun _ _ => 0)
  case atStart => exact ⟨rfl, rfl⟩
  case round =>
    obtain ⟨rfl, rfl⟩ := hrel
    go_wp2_with fail
    go_ret
    exact ⟨rfl, rfl⟩

/-- A row of nodes that holds its marks. -/
def HeldTv (w : World) (v : Value) (l : List Tg) (k : Nat) : Prop := l = [] ∨ ∃ g n c N, v = .slice (some ⟨g, 0, none⟩) n c ∧ n * 7 ≤ N ∧ HeldT w g N l k
theorem HeldTv.later {w w' : World} {v : Value} {l : List Tg} {k : Nat} (h : HeldTv w v l k) (hb : Below w.heap.size w w') : HeldTv w' v l k := by
  rcases h with h | ⟨g, n, c, N, e, hn, h⟩
  · exact .inl h
  · exact .inr ⟨g, n, c, N, e, hn, h.later hb⟩

theorem OT.tn {w : World} {B g n c : Nat} {l : List Tg} (h : OT w B (.slice (some ⟨g, 0, none⟩) n c) l) : ∃ N f, n * 7 ≤ N ∧ w.rowIs g 70 N f ∧ TnS f l ∧ B ≤ g ∧ g < w.heap.size := by
  have hlt := h.lt rfl
  have hat := fun i x (hi : l[i]? = some x) => h.at hi
  rcases h.2 with ⟨e, -⟩ | ⟨g', cap, cur, e, hg, hh, hc1, hc2, hsz, hcur⟩
  · cases e
  · cases e
    refine ⟨c * 7, fun i => cur.getD i (.int .i64 0), by omega, ⟨cur, hh, hsz, fun i hi => ?_⟩, fun i x hi => ?_, hlt⟩
    · have hi' : i < cur.size := by omega
      rw [Array.getElem?_eq_getElem hi']
      simp [Array.getD, hi']
    · obtain ⟨g', c', e', f0, f1, f2, f3, f4, f5, f6⟩ := hat i x hi
      cases e'
      have key : ∀ o u, w.cell? ⟨g, o, none⟩ = some u → cur.getD o (.int .i64 0) = u := fun o u hu => by
        rw [cell_of_row w g o cur _ _ hh] at hu
        rw [Array.getD_eq_getD_getElem?, hu]
        rfl
      exact ⟨⟨_, _, _, _, _, key _ _ f0, key _ _ f1, key _ _ f2, key _ _ f3, key _ _ f4⟩, key _ _ f5, key _ _ f6⟩

/-- A row of nodes of one's own is marked. -/
theorem markTs_any (B hi n c k : Nat) (a : Option Addr) (l : List Tg) (w : World) (hts : Ts w B (.slice a n c) l) (hl : shT l) (hn : l.length = n) (hn2 : n ≤ 1048576) (hh : w.heap.size ≤ hi) (hk : k ≤ 4000000000000000000) :
    Calls Tryd.prog 27 #[.slice a n c, .int .i64 (k : Int)] w fun e w' => e = .returned (.int .i64 (mkT l k l.length : Int)) ∧ HeldTv w' (.slice a n c) l k ∧ Out B hi w w' := by
  by_cases e : l = []
  · subst e
    subst hn
    refine (markT_nil a c k w).mono (fun e w' h => ⟨h.1, .inl rfl, ?_⟩)
    rw [h.2]
    exact Out.refl _ _ _
  · obtain ⟨g, rfl⟩ : ∃ g, a = some ⟨g, 0, none⟩ := by
      rcases hts.row.2 with ⟨-, h0⟩ | ⟨g, cap, cur, e', -⟩
      · exact absurd (List.eq_nil_of_length_eq_zero h0) e
      · cases e'; exact ⟨g, rfl⟩
    obtain ⟨N, f, h0, hr, hf, h1, h2⟩ := hts.row.tn
    refine (markT_own B hi g c n k N l w f hr h0 hf h1 (by omega) (fun x hx => ⟨RSh.of_nw (hts.wn x hx) hh, RSh.of_ni (hts.kn x hx) hh⟩) hl hts.wd hts.kd hn hn2 hk).mono (fun e w' h => ⟨h.1, .inr ⟨g, n, c, N, rfl, h0, h.2.1⟩, h.2.2.1⟩)
theorem heldTs_any (n c k : Nat) (a : Option Addr) (l : List Tg) (w : World) (h : HeldTv w (.slice a n c) l k) (hl : shT l) (hn : l.length = n) (hn2 : n ≤ 1048576) (hk : k ≤ 4000000000000000000) :
    Calls Tryd.prog 28 #[.slice a n c, .int .i64 (k : Int)] w fun e w' => e = .returned (.int .i64 (mkT l k l.length : Int)) ∧ w' = w := by
  rcases h with rfl | ⟨g, n', c', N, e, h0, h⟩
  · subst hn
    exact heldT_nil a c k w
  · cases e
    exact heldT_any g c n k N l w h h0 hl hn hn2 hk

/-- .. and so is a term. -/
theorem markTerm_ts (B hi n c k : Nat) (a : Option Addr) (l : List Tg) (w : World) (hts : Ts w B (.slice a n c) l) (hl : shT l) (hn : l.length = n) (hn2 : n ≤ 1048576) (hh : w.heap.size ≤ hi) (hk : k ≤ 4000000000000000000) :
    Calls Tryd.prog 13 #[.agg #[.slice a n c], .int .i64 (k : Int)] w fun e w' => e = .returned (.int .i64 (mkT l k l.length : Int)) ∧ HeldTv w' (.slice a n c) l k ∧ Out B (hi + 1) w w' := by
  have hb : Below w.heap.size w (w.alloc (Obj.cells #[Value.slice a n c] 30)) := (Below.refl _ _).alloc (Nat.le_refl _) _
  have HM := kide (markTs_any B (hi + 1) n c k a l (w.alloc (Obj.cells #[Value.slice a n c] 30)) (hts.later hb) hl hn hn2 (by simp; omega) hk)
  have HB := kide hb
  clear hts hb
  go_enter Tryd.func13, Tryd.ntmps13
  go_wp2_with fail
  refine Calls.mono HM.out ?_
  rintro e w' ⟨rfl, hh, ho⟩
  go_wp2_with fail
  go_ret
  refine ⟨by rw [hn]; rfl, hh, ⟨ho.1.trans HB.out.os, ho.2.1.trans HB.out.tape, ho.2.2.1.trans HB.out.output, Nat.le_trans HB.out.size ho.2.2.2.1, fun j hj hd => ?_⟩⟩
  rw [ho.2.2.2.2 j (Nat.lt_of_lt_of_le hj HB.out.size) hd]
  exact HB.out.block j hj
theorem heldTerm_ts (n c k : Nat) (a : Option Addr) (l : List Tg) (w : World) (h : HeldTv w (.slice a n c) l k) (hl : shT l) (hn : l.length = n) (hn2 : n ≤ 1048576) (hk : k ≤ 4000000000000000000) :
    Calls Tryd.prog 14 #[.agg #[.slice a n c], .int .i64 (k : Int)] w fun e w' => e = .returned (.int .i64 (mkT l k l.length : Int)) ∧ Below w.heap.size w w' := by
  have hb : Below w.heap.size w (w.alloc (Obj.cells #[Value.slice a n c] 30)) := (Below.refl _ _).alloc (Nat.le_refl _) _
  have HM := kide (heldTs_any n c k a l (w.alloc (Obj.cells #[Value.slice a n c] 30)) (h.later hb) hl hn hn2 hk)
  have HB := kide hb
  obtain ⟨R, hR⟩ : ∃ R, mkT l k l.length = R := ⟨_, rfl⟩
  rw [hR] at HM ⊢
  have hR0 : ¬ (R : Int) < 0 := by omega
  clear h hb hR
  go_enter Tryd.func14, Tryd.ntmps14
  go_wp2_with fail
  refine Calls.mono HM.out ?_
  rintro e w' ⟨rfl, hw⟩
  obtain rfl := hw.symm
  go_wp2_with fail
  go_ret
  exact ⟨rfl, HB.out⟩

end Go.Proofs.YtemdnbldeeifnaaDoor
