/- A row of literals marked. -/
import Derived.Test.YtllojnloldhghaaGreatDoorWKF
namespace Go.Proofs.YtllojnloldhghaaGreatDoor
set_option linter.unusedVariables false
set_option linter.unusedSimpArgs false
open Go.RowKit

theorem Out.widen {B1 B2 C1 C2 : Nat} {w w' : World} (h : Out B1 B2 w w') (h1 : C1 ≤ B1) (h2 : B2 ≤ C2) : Out C1 C2 w w' := ⟨h.1, h.2.1, h.2.2.1, h.2.2.2.1, fun k hk hd => h.2.2.2.2 k hk (by omega)⟩

set_option maxHeartbeats 2000000 in
set_option maxRecDepth 100000 in
theorem markLiteralS_any (G c n k H : Nat) (xs : List Lg) (w : World) (f : Nat → Value) (rg : Nat → Nat) (h : RowL w G H n xs f rg) (hn : xs.length = n) (hn2 : n ≤ 1048576) (hl : ∀ x ∈ xs, x.ss.length ≤ 1048576 ∧ x.ts.length ≤ 1048576) (hk : k ≤ 100000000) :
    Calls Tryz.prog 20 #[.slice (some ⟨G, 0, none⟩) n c, .int .i64 (k : Int)] w fun e w' => (∃ r : Nat, r ≤ k + n * 4398056996866 ∧ e = .returned (.int .i64 (r : Int))) ∧ Out G H w w' := by
  have HN := kide hn
  have HL := kide hl
  have up : ∀ i k, rg i ≤ rg (i + k) := fun i k => by
    induction k with
    | zero => exact Nat.le_refl _
    | succ k ih => exact Nat.le_trans ih (h.up (i + k))
  have HLO : Hid (∀ i, G < rg i) := fun i => Nat.lt_of_lt_of_le h.lo (by have := up 0 i; rwa [Nat.zero_add] at this)
  have HHI : Hid (∀ i, i ≤ n → rg i ≤ H) := fun i hi => Nat.le_trans (by have := up i (n - i); rwa [show i + (n - i) = n by omega] at this) h.hi
  have HUP : Hid (∀ i j, i ≤ j → rg i ≤ rg j) := fun i j hij => by have := up i (j - i); rwa [show i + (j - i) = j by omega] at this
  have HGH : Hid (G < H) := Nat.lt_of_lt_of_le (HLO.out n) h.hi
  have HR0 := kide h.row
  have HC0 := kide h.cells
  have HW0 := kide h.wr
  clear hn hl h up
  go_enter Tryz.func20, Tryz.ntmps20
  go_wp2_with fail
  go_loopw [1, 5] (fun q i wr => ∃ (j K : Nat) (f : Nat → Value), j ≤ n ∧ i = .int .i64 (j : Int) ∧ q = .int .i64 (K : Int) ∧ K ≤ k + j * 4398056996866 ∧ wr.rowIs G 78 (n * 4) f ∧ LgF f xs ∧ (∀ i x, j ≤ i → xs[i]? = some x → WrL wr (rg i) (rg (i + 1)) x) ∧ Out G H w wr) (fun _ i _ => n - (intOf i).toNat)
  case atStart => exact ⟨0, k, f, Nat.zero_le _, rfl, rfl, by omega, HR0.out, HC0.out, fun i x _ hx => HW0.out i x hx, Out.refl _ _ _⟩
  case round =>
    clear HR0 HC0 HW0
    obtain ⟨j, K, f, hj, rfl, rfl, hK, hrow, hf, hws, hout⟩ := hrel
    have HO := kide hout
    have HRW := kide hrow
    have HWS := kide hws
    have HF := kide hf
    by_cases hlt : j < n
    · obtain ⟨x, gx⟩ : ∃ x, xs[j]? = some x := ⟨xs[j]'(by rw [HN.out]; exact hlt), List.getElem?_eq_getElem _⟩
      obtain ⟨hsl, htl⟩ := HL.out _ (List.mem_of_getElem? gx)
      obtain ⟨⟨k0, b0, e0, e1⟩, e2, e3⟩ := hf j _ gx
      have q0 := hrow.cell (i := j * 4) (by omega)
      have q1 := hrow.cell (i := j * 4 + 1) (by omega)
      have q2 := hrow.cell (i := j * 4 + 2) (by omega)
      have q3 := hrow.cell (i := j * 4 + 3) (by omega)
      rw [e0] at q0
      rw [e1] at q1
      rw [e2] at q2
      rw [e3] at q3
      have r0 := hrow.frozen (j * 4)
      have r1 := hrow.frozen (j * 4 + 1)
      have hKb : K ≤ 5000000000000000000 := by omega
      have HKN := kide hK
      have i0 : (j : Int) < (n : Int) := by omega
      have GX := kide gx
      have hwx := HWS.out j x (Nat.le_refl _) gx
      have HWX := kide hwx
      clear hout hrow hws hf gx hK e0 e1 e2 e3 hwx
      go_wp2_with fail
      have HR1 := kide (World.rowIs.set (World.rowIs.set HRW.out (j * 4) (.int .i64 (K : Int))) (j * 4 + 1) (.bool (((K : Int) + 1) % 3 == 0)))
      have HW1 : Hid (∀ i x, j ≤ i → xs[i]? = some x → WrL ((wr.setCell ⟨G, j * 4, none⟩ (.int .i64 (K : Int))).setCell ⟨G, j * 4 + 1, none⟩ (.bool (((K : Int) + 1) % 3 == 0))) (rg i) (rg (i + 1)) x) := fun i x hi hx => ((HWS.out i x hi hx).setp (.inl (HLO.out i)) _).setp (.inl (HLO.out i)) _
      have HO1 : Hid (Out G H w ((wr.setCell ⟨G, j * 4, none⟩ (.int .i64 (K : Int))).setCell ⟨G, j * 4 + 1, none⟩ (.bool (((K : Int) + 1) % 3 == 0)))) := HO.out.trans (Out.grown (grow_set (grow_set (World.grownBy.refl wr (some G)) (j * 4) _) (j * 4 + 1) _) (Nat.le_refl _) HGH.out)
      generalize (wr.setCell ⟨G, j * 4, none⟩ (.int .i64 (K : Int))).setCell ⟨G, j * 4 + 1, none⟩ (.bool (((K : Int) + 1) % 3 == 0)) = w1 at *
      have hf1 : ∃ f1, w1.rowIs G 78 (n * 4) f1 ∧ LgF f1 xs := ⟨_, HR1.out, fun i x hi => by
        obtain ⟨⟨k0', b0', e0, e1⟩, e2, e3⟩ := HF.out i x hi
        by_cases hij : i = j
        · subst hij
          refine ⟨⟨K, ((K : Int) + 1) % 3 == 0, ?_, ?_⟩, ?_, ?_⟩
          all_goals simp
          all_goals first | exact e2 | exact e3
        · refine ⟨⟨k0', b0', ?_, ?_⟩, ?_, ?_⟩
          all_goals
            show (if _ then _ else _) = _
            rw [if_neg (by omega), if_neg (by omega)]
            assumption⟩
      obtain ⟨f1, hrow1, htn1⟩ := hf1
      obtain ⟨M, hM1, hM2, ⟨gs, fs, es, s1, s2, s3, s4, s5⟩, hT⟩ := HW1.out j x (Nat.le_refl _) GX.out
      have HT := kide hT
      have R1 := kide hrow1
      have T1 := kide htn1
      obtain ⟨id, q, ss, sa, sc, ts, ta, tc⟩ := x
      simp only [] at es s1 s2 s3 s4 s5 hsl htl HT ⊢
      subst es
      have S3 := kide s3
      have S4 := kide s4
      have S5 := kide s5
      obtain ⟨K2, hK2⟩ : ∃ K2 : Nat, K + 2 = K2 := ⟨_, rfl⟩
      have hKe : (K : Int) + 1 + 1 = (K2 : Int) := by omega
      rw [hKe]
      have hb2 : Hid (K2 + ss.length * 2097157 ≤ 9000000000000000000) := by show _ ≤ _; omega
      have HK2 := kide hK2
      clear hrow1 htn1 HR1 HRW HF HWS HO q0 q1 q2 q3 r0 r1 hT s3 s4 s5 hKe hK2 HWX
      refine Calls.mono (markTNodeS_big gs sc ss.length K2 (rg j) M ss w1 fs S3.out S4.out S5.out rfl hsl hb2.out s1 s2) ?_
      rintro e w2 ⟨⟨r2, hr2, rfl⟩, ho2⟩
      have HR2 := kide hr2
      have R2 : Hid (w2.rowIs G 78 (n * 4) f1) := rowIs_out R1.out ho2 (.inl (HLO.out j))
      have HT2 := kide (HT.out.out ho2 (.inl (Nat.le_refl _)))
      have HW2 : Hid (∀ i x, j + 1 ≤ i → xs[i]? = some x → WrL w2 (rg i) (rg (i + 1)) x) := fun i x hi hx => (HW1.out i x (by omega) hx).out ho2 (.inl (Nat.le_trans hM2 (HUP.out (j + 1) i hi)))
      have HO2 := kide (HO1.out.trans (ho2.widen (Nat.le_of_lt (HLO.out j)) (Nat.le_trans hM2 (HHI.out (j + 1) (by omega)))))
      obtain ⟨gt, ft, et, t1, t2, t3, t4, t5⟩ := HT2.out
      try simp only [] at et
      subst et
      have q3 := R2.out.cell (i := j * 4 + 3) (by omega)
      rw [(T1.out j _ GX.out).2.2] at q3
      try simp only [] at q3
      have U3 := kide t3
      have U4 := kide t4
      have U5 := kide t5
      have hb3 : Hid (r2 + ts.length * 2097157 ≤ 9000000000000000000) := by show _ ≤ _; have := HK2.out; omega
      clear ho2 hr2 HW1 HO1 R1 HT HT2 t3 t4 t5 S3 S4 S5 hb2
      go_wp2_with fail
      refine Calls.mono (markTNodeS_big gt tc ts.length r2 M (rg (j + 1)) ts w2 ft U3.out U4.out U5.out rfl htl hb3.out t1 t2) ?_
      rintro e w3 ⟨⟨r3, hr3, rfl⟩, ho3⟩
      have R3 : Hid (w3.rowIs G 78 (n * 4) f1) := rowIs_out R2.out ho3 (.inl (by have := HLO.out j; omega))
      have HW3 : Hid (∀ i x, j + 1 ≤ i → xs[i]? = some x → WrL w3 (rg i) (rg (i + 1)) x) := fun i x hi hx => (HW2.out i x hi hx).out ho3 (.inl (HUP.out (j + 1) i hi))
      have HO3 := kide (HO2.out.trans (ho3.widen (by have := HLO.out j; omega) (HHI.out (j + 1) (by omega))))
      have HKF : Hid (r3 ≤ k + (j + 1) * 4398056996866) := by
        show _ ≤ _
        have h1 := HKN.out
        have h2 := HK2.out
        have h3 := HR2.out
        rw [Nat.succ_mul]
        omega
      clear ho3 hr3 HW2 HO2 R2 q3 U3 U4 U5 hb3
      go_wp2_with fail
      go_roundw
      case rel => exact ⟨j + 1, r3, f1, by omega, by go_num, rfl, HKF.out, R3.out, T1.out, HW3.out, HO3.out⟩
      case measure => simp [intOf]; omega
    · have e : j = n := by omega
      have hKn : Hid (K ≤ k + n * 4398056996866) := by show _ ≤ _; rw [← e]; exact hK
      clear hout hrow hws hf hK
      go_wp2_with fail
      go_ret
      exact ⟨⟨K, hKn.out, rfl⟩, HO.out⟩

end Go.Proofs.YtllojnloldhghaaGreatDoor
