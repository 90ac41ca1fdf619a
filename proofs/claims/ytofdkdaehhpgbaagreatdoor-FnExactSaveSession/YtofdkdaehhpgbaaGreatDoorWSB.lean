/- Scopes and sessions marked. -/
import Derived.Test.YtofdkdaehhpgbaaGreatDoorWSA
import Derived.Test.YtofdkdaehhpgbaaGreatDoorZSA
namespace Go.Proofs.YtofdkdaehhpgbaaGreatDoor
set_option linter.unusedVariables false
set_option linter.unusedSimpArgs false
open Go.RowKit

set_option maxHeartbeats 2000000 in
set_option maxRecDepth 100000 in
theorem markScopeS_any (G c n k H : Nat) (xs : List Sg) (w : World) (f : Nat → Value) (rg : Nat → Nat) (h : RowS w G H n xs f rg) (hn : xs.length = n) (hn2 : n ≤ 1048576) (hT : (xs.flatMap Sg.ls).length ≤ 1048576) (hl : ∀ x ∈ xs, ∀ y ∈ x.ls, y.ss.length ≤ 1048576 ∧ y.ts.length ≤ 1048576) (hk : k ≤ 100000000) :
    Calls Tryz.prog 33 #[.slice (some ⟨G, 0, none⟩) n c, .int .i64 (k : Int)] w fun e w' => (∃ r : Nat, e = .returned (.int .i64 (r : Int))) ∧ Out G H w w' := by
  have HN := kide hn
  have HL := kide hl
  have HT := kide hT
  have HLO : Hid (∀ i, G < rg i) := fun i => Nat.lt_of_lt_of_le h.lo (by have := h.up' 0 i; rwa [Nat.zero_add] at this)
  have HHI : Hid (∀ i, i ≤ n → rg i ≤ H) := fun i hi => Nat.le_trans (by have := h.up' i (n - i); rwa [show i + (n - i) = n by omega] at this) h.hi
  have HUP : Hid (∀ i j, i ≤ j → rg i ≤ rg j) := fun i j hij => by have := h.up' i (j - i); rwa [show i + (j - i) = j by omega] at this
  have HGH : Hid (G < H) := Nat.lt_of_lt_of_le (HLO.out n) h.hi
  have HR0 := kide h.row
  have HC0 := kide h.cells
  have HW0 := kide h.wr
  clear hn hl h hT
  go_enter Tryz.func33, Tryz.ntmps33
  go_wp2_with fail
  go_loopw [1, 5] (fun q i wr => ∃ (j K : Nat) (f : Nat → Value), j ≤ n ∧ i = .int .i64 (j : Int) ∧ q = .int .i64 (K : Int) ∧ K ≤ k + j + ((xs.take j).flatMap Sg.ls).length * 4398056996866 ∧ wr.rowIs G 63 (n * 2) f ∧ (∀ i x, xs[i]? = some x → (∃ k0 : Int, f (i * 2) = .int .i64 k0) ∧ f (i * 2 + 1) = .slice x.la x.ls.length x.lc) ∧ (∀ i x, j ≤ i → xs[i]? = some x → WrS wr (rg i) (rg (i + 1)) x) ∧ Out G H w wr) (fun _ i _ => n - (intOf i).toNat)
  case atStart => exact ⟨0, k, f, Nat.zero_le _, rfl, rfl, by simp, HR0.out, HC0.out, fun i x _ hx => HW0.out i x hx, Out.refl _ _ _⟩
  case round =>
    clear HR0 HC0 HW0
    obtain ⟨j, K, f, hj, rfl, rfl, hK, hrow, hf, hws, hout⟩ := hrel
    have HO := kide hout
    have HRW := kide hrow
    have HWS := kide hws
    have HF := kide hf
    by_cases hlt : j < n
    · obtain ⟨x, gx⟩ : ∃ x, xs[j]? = some x := ⟨xs[j]'(by rw [HN.out]; exact hlt), List.getElem?_eq_getElem _⟩
      obtain ⟨⟨k0, e0⟩, e1⟩ := hf j _ gx
      have q0 := hrow.cell (i := j * 2) (by omega)
      have q1 := hrow.cell (i := j * 2 + 1) (by omega)
      rw [e0] at q0
      rw [e1] at q1
      have r0 := hrow.frozen (j * 2)
      have hft := flat_take gx
      have hfl := flat_le xs (j + 1)
      rw [hft, List.length_append] at hfl
      have hTT := HT.out
      obtain ⟨F, hF⟩ : ∃ F, ((xs.take j).flatMap Sg.ls).length = F := ⟨_, rfl⟩
      rw [hF] at hfl hK
      have HFN : Hid (((xs.take (j + 1)).flatMap Sg.ls).length = F + x.ls.length) := by show _ = _; rw [hft, List.length_append, hF]
      have hKb : K + 1 + x.ls.length * 4398056996866 ≤ 5000000000000000000 := by omega
      have hKb2 : K ≤ 5000000000000000000 := by omega
      have HKN := kide hK
      have i0 : (j : Int) < (n : Int) := by omega
      have hlx := HL.out x (List.mem_of_getElem? gx)
      obtain ⟨G', f', rg', ela, hLG, hRL⟩ := HWS.out j x (Nat.le_refl _) gx
      have hO1 : Out G (G + 1) wr (wr.setCell ⟨G, j * 2, none⟩ (.int .i64 (K : Int))) := Out.setc _ _ _ _
      have HR1 := kide (World.rowIs.set HRW.out (j * 2) (.int .i64 (K : Int)))
      have HW1 : Hid (∀ i x, j ≤ i → xs[i]? = some x → WrS (wr.setCell ⟨G, j * 2, none⟩ (.int .i64 (K : Int))) (rg i) (rg (i + 1)) x) := fun i y hi hy => (HWS.out i y hi hy).out hO1 (.inl (HLO.out i))
      have HRL : Hid (RowL (wr.setCell ⟨G, j * 2, none⟩ (.int .i64 (K : Int))) G' (rg (j + 1)) x.ls.length x.ls f' rg') := hRL.out rfl hO1 (.inl (by have := HLO.out j; omega))
      have HO1 := kide (HO.out.trans (hO1.wide (Nat.le_refl _) (by have := HGH.out; omega)))
      have HLG := kide hLG
      have GX := kide gx
      obtain ⟨d, ls, la, lc⟩ := x
      simp only [] at e1 q1 ela HRL HFN hKb hlx hfl
      subst ela
      have HML := kide (markLiteralS_any G' lc ls.length (K + 1) (rg (j + 1)) ls (wr.setCell ⟨G, j * 2, none⟩ (.int .i64 (K : Int))) f' rg' HRL.out rfl (by omega) hlx hKb)
      obtain ⟨lm, hlm⟩ : ∃ lm, ls.length = lm := ⟨_, rfl⟩
      rw [hlm] at HML q1 HFN
      clear hout hrow hws hf gx hK e0 e1 hft hfl hF hRL hO1 hLG hKb hTT hlx hlm
      have hKe : ((K + 1 : Nat) : Int) = (K : Int) + 1 := by omega
      rw [hKe] at HML
      go_wp2_with fail
      generalize wr.setCell ⟨G, j * 2, none⟩ (.int .i64 (K : Int)) = w1 at *
      refine Calls.mono HML.out ?_
      rintro e w3 ⟨⟨r3, hr3, rfl⟩, ho3⟩
      obtain ⟨f1, hR1, hF1⟩ : ∃ f1, w1.rowIs G 63 (n * 2) f1 ∧ ∀ i x, xs[i]? = some x → (∃ k0 : Int, f1 (i * 2) = .int .i64 k0) ∧ f1 (i * 2 + 1) = .slice x.la x.ls.length x.lc := by
        refine ⟨_, HR1.out, fun i y hy => ?_⟩
        obtain ⟨⟨k1, c0⟩, c1⟩ := HF.out i y hy
        by_cases hij : i = j
        · subst hij
          exact ⟨⟨K, by simp⟩, by simp; exact c1⟩
        · refine ⟨⟨k1, ?_⟩, ?_⟩
          all_goals
            show (if _ then _ else _) = _
            rw [if_neg (by omega)]
            assumption
      have R3 : Hid (w3.rowIs G 63 (n * 2) f1) := rowIs_out hR1 ho3 (.inl (by have := HLO.out j; have := HLG.out; omega))
      have F3 := kide hF1
      have HW3 : Hid (∀ i x, j + 1 ≤ i → xs[i]? = some x → WrS w3 (rg i) (rg (i + 1)) x) := fun i y hi hy => (HW1.out i y (by omega) hy).out ho3 (.inl (HUP.out (j + 1) i hi))
      have HO3 := kide (HO1.out.trans (ho3.wide (by have := HLO.out j; have := HLG.out; omega) (HHI.out (j + 1) (by omega))))
      have HKF : Hid (r3 ≤ k + (j + 1) + ((xs.take (j + 1)).flatMap Sg.ls).length * 4398056996866) := by
        show _ ≤ _
        have h1 := HKN.out
        rw [HFN.out, Nat.add_mul]
        omega
      clear ho3 hr3 hR1 hF1 HR1 HW1 HO1 HML HRL q0 q1 r0
      go_wp2_with fail
      go_roundw
      case rel => exact ⟨j + 1, r3, f1, by omega, by go_num, rfl, HKF.out, R3.out, F3.out, HW3.out, HO3.out⟩
      case measure => simp [intOf]; omega
    · clear hout hrow hws hf hK
      go_wp2_with fail
      go_ret
      exact ⟨⟨K, rfl⟩, HO.out⟩

set_option maxHeartbeats 2000000 in
set_option maxRecDepth 100000 in
theorem markSession_any (g1 g2 m n H lo : Nat) (nx : Int) (xs : List Sg) (w : World) (fd f : Nat → Value) (rg : Nat → Nat) (hd : w.rowIs g1 50 (m * 2) fd) (h : RowS w g2 H n xs f rg) (h1 : lo ≤ g1) (h12 : g1 < g2) (hm : m ≤ 1048576) (hn : xs.length = n) (hn2 : n ≤ 1048576) (hT : (xs.flatMap Sg.ls).length ≤ 1048576) (hl : ∀ x ∈ xs, ∀ y ∈ x.ls, y.ss.length ≤ 1048576 ∧ y.ts.length ≤ 1048576) :
    Calls Tryz.prog 10 #[.agg #[.slice (some ⟨g1, 0, none⟩) m m, .slice (some ⟨g2, 0, none⟩) n n, .int .i64 nx], .int .i64 1] w fun e w' => (∃ r : Nat, e = .returned (.int .i64 (r : Int))) ∧ Out lo H w w' := by
  have hbx := ses_box w (.cells #[Value.slice (some ⟨g1, 0, none⟩) m m, Value.slice (some ⟨g2, 0, none⟩) n n, Value.int .i64 nx] 30)
  have XB1 := kide (Bz.new w #[Value.slice (some ⟨g1, 0, none⟩) m m, Value.slice (some ⟨g2, 0, none⟩) n n, Value.int .i64 nx] 30)
  have hd1 := rowIs_later hd hbx
  have h2 := h.later hbx
  have HO1 : Hid (Out lo H w (w.alloc (.cells #[Value.slice (some ⟨g1, 0, none⟩) m m, Value.slice (some ⟨g2, 0, none⟩) n n, Value.int .i64 nx] 30))) := Out.ofB hbx
  have HLT := kide (rowIs_lt hd)
  have HR2 := kide h2
  have HGH : Hid (g2 < H) := Nat.lt_of_lt_of_le h.lo (Nat.le_trans (by have := h.up' 0 n; rwa [Nat.zero_add] at this) h.hi)
  have HMD := kide (markDeclS_one g1 m m fd _ hd1 hm)
  have HN := kide hn
  have HT := kide hT
  have HL := kide hl
  clear hbx hd hd1 h h2 hn hT hl
  go_enter Tryz.func10, Tryz.ntmps10
  go_wp2_with fail
  generalize w.alloc (.cells #[Value.slice (some ⟨g1, 0, none⟩) m m, Value.slice (some ⟨g2, 0, none⟩) n n, Value.int .i64 nx] 30) = w1 at *
  refine Calls.mono HMD.out ?_
  rintro e w2 ⟨rfl, ho2⟩
  have XB2 := kide (XB1.out.out ho2 (by have := HLT.out; omega))
  have x1 := XB2.out.cell 1
  simp at x1
  have R2 := kide (HR2.out.out HN.out ho2 (.inl (by omega)))
  have HO2 := kide (HO1.out.trans (ho2.wide h1 (by have := HGH.out; omega)))
  have HMS := kide (markScopeS_any g2 n n (1 + m * 2) H xs w2 f rg R2.out HN.out hn2 HT.out HL.out (by omega))
  clear ho2 HMD XB1 HO1 HR2
  go_wp2_with fail
  refine Calls.mono HMS.out ?_
  rintro e w3 ⟨⟨r3, rfl⟩, ho3⟩
  have HO3 := kide (HO2.out.trans (ho3.wide (by omega) (Nat.le_refl _)))
  clear ho3 HMS
  go_wp2_with fail
  go_ret
  exact ⟨⟨r3, rfl⟩, HO3.out⟩

end Go.Proofs.YtofdkdaehhpgbaaGreatDoor
