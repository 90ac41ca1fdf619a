/- Scopes in new memory marked, and holding their marks. -/
import Derived.Test.YtofdkdaehhpgbaaGreatDoorZNA
import Derived.Test.YtofdkdaehhpgbaaGreatDoorLTC
namespace Go.Proofs.YtofdkdaehhpgbaaGreatDoor
set_option linter.unusedVariables false
set_option linter.unusedSimpArgs false
open Go.RowKit

/-- The number that a scope's marks begin with. -/
def mkS (l : List Sg) (k : Nat) : Nat → Nat
  | 0 => k
  | i + 1 => match l[i]? with
    | some x => mkL x.ls (mkS l k i + 1) x.ls.length
    | none => mkS l k i
theorem mkS_step {l : List Sg} {k i : Nat} {x : Sg} (h : l[i]? = some x) : mkS l k (i + 1) = mkL x.ls (mkS l k i + 1) x.ls.length := by
  rw [mkS, h]
def shZ (l : List Sg) : Prop := ∀ x ∈ l, shL x.ls ∧ x.ls.length ≤ 60
theorem mkS_le {l : List Sg} {k : Nat} (h : shZ l) : ∀ i, mkS l k i ≤ k + i * 300000000000000
  | 0 => by simp [mkS]
  | i + 1 => by
    have ih := mkS_le (k := k) h i
    cases hx : l[i]? with
    | none =>
      have e : mkS l k (i + 1) = mkS l k i := by simp only [mkS, hx]
      rw [e, Nat.succ_mul]
      exact Nat.le_trans ih (Nat.add_le_add_left (Nat.le_add_right _ _) _)
    | some x =>
      obtain ⟨h1, h2⟩ := h x (List.mem_of_getElem? hx)
      rw [mkS_step hx]
      have a1 := mkL_le (k := mkS l k i + 1) h1 x.ls.length
      omega

/-- A row of scopes that holds its marks from k on. -/
def HeldZ (w : World) (G N : Nat) (l : List Sg) (k : Nat) : Prop := ∃ f, w.rowIs G 63 N f ∧ ∀ i x, l[i]? = some x → f (i * 2) = .int .i64 (mkS l k i : Int) ∧ f (i * 2 + 1) = .slice x.la x.ls.length x.lc ∧ HeldLv w (.slice x.la x.ls.length x.lc) x.ls (mkS l k i + 1)
def HeldZv (w : World) (v : Value) (l : List Sg) (k : Nat) : Prop := l = [] ∨ ∃ G n c N, v = .slice (some ⟨G, 0, none⟩) n c ∧ n * 2 ≤ N ∧ HeldZ w G N l k
theorem HeldZv.later {w w' : World} {v : Value} {l : List Sg} {k : Nat} (h : HeldZv w v l k) (hb : Below w.heap.size w w') : HeldZv w' v l k := by
  rcases h with h | ⟨G, n, c, N, e, hN, f, hr, hh⟩
  · exact .inl h
  · refine .inr ⟨G, n, c, N, e, hN, f, rowIs_later hr hb, fun i x hx => ?_⟩
    obtain ⟨h0, h1, h2⟩ := hh i x hx
    exact ⟨h0, h1, h2.later hb⟩

set_option maxHeartbeats 2000000 in
set_option maxRecDepth 100000 in
theorem markZn_any (lo hi n c k : Nat) (a : Option Addr) (l : List Sg) (p : Nat → Nat × Nat) (w : World) (h : Zn lo hi (.slice a n c) l p w) (hn : l.length = n) (hn2 : n ≤ 60) (hs : shZ l) (hk : k ≤ 100000000000000000) :
    Calls Tryz.prog 33 #[.slice a n c, .int .i64 (k : Int)] w fun e w' => e = .returned (.int .i64 (mkS l k n : Int)) ∧ HeldZv w' (.slice a n c) l k ∧ Out lo hi w w' := by
  by_cases hz : n = 0
  · subst hz
    have e0 := List.eq_nil_of_length_eq_zero hn
    subst e0
    clear h hs
    go_enter Tryz.func33, Tryz.ntmps33
    go_wp2
    go_loopw [1, 5] (fun q i wr => q = .int .i64 (k : Int) ∧ i = .int .i64 0 ∧ wr = w) (fun _ _ _ => 0)
    case atStart => exact ⟨rfl, rfl, rfl⟩
    case round =>
      obtain ⟨rfl, rfl, rfl⟩ := hrel
      go_wp2
      go_ret
      exact ⟨rfl, .inl rfl, Out.refl _ _ _⟩
  obtain ⟨G, rfl⟩ : ∃ G, a = some ⟨G, 0, none⟩ := by
    rcases h.row.2 with ⟨-, h0⟩ | ⟨g, cap, cur, e', -⟩
    · exact absurd (by rw [← hn]; exact h0) hz
    · cases e'; exact ⟨g, rfl⟩
  obtain ⟨N, f0, hN, hr0, -, hf0⟩ := h.row.tn
  have hG1 := (h.row.lt (b := G) rfl).1
  have hG2 := h.rb G rfl
  have HE := kide h.each
  have HDS := kide h.dis
  have HN := kide hn
  have HS := kide hs
  have HLE := kide (fun i => mkS_le (k := k) hs i)
  have HR0 := kide hr0
  have HF0 := kide hf0
  have HEX := kide (fun i x (hx : l[i]? = some x) => (h.each i x hx).2.2.2.2 G rfl)
  clear h hn hs hr0 hf0
  go_enter Tryz.func33, Tryz.ntmps33
  go_wp2_with fail
  go_loopw [1, 5] (fun q i wr => ∃ (j : Nat) (f : Nat → Value), j ≤ n ∧ i = .int .i64 (j : Int) ∧ q = .int .i64 (mkS l k j : Int) ∧ wr.rowIs G 63 N f ∧ (∀ i x, l[i]? = some x → (∃ (k0 : Int), f (i * 2) = .int .i64 k0) ∧ f (i * 2 + 1) = .slice x.la x.ls.length x.lc) ∧ (∀ i x, i < j → l[i]? = some x → f (i * 2) = .int .i64 (mkS l k i : Int) ∧ HeldLv wr (.slice x.la x.ls.length x.lc) x.ls (mkS l k i + 1)) ∧ (∀ i x, j ≤ i → l[i]? = some x → Lx (p i).1 (p i).2 x wr) ∧ Out lo hi w wr) (fun _ i _ => n - (intOf i).toNat)
  case atStart => exact ⟨0, f0, Nat.zero_le _, rfl, rfl, HR0.out, (fun i x hx => by obtain ⟨e0, e1⟩ := HF0.out i x hx; exact ⟨⟨_, e0⟩, e1⟩), (fun i x hi => by omega), (fun i x _ hx => (HE.out i x hx).2.2.2.1), Out.refl _ _ _⟩
  case round =>
    clear HR0 HF0
    obtain ⟨j, f, hj, rfl, rfl, hrow, hf, hd, hl, hout⟩ := hrel
    have HO := kide hout
    have HRW := kide hrow
    have HF := kide hf
    have HD := kide hd
    have HL := kide hl
    by_cases hlt : j < n
    · obtain ⟨x, gx⟩ : ∃ x, l[j]? = some x := ⟨l[j]'(by rw [HN.out]; exact hlt), List.getElem?_eq_getElem _⟩
      obtain ⟨⟨k0, e0⟩, e1⟩ := hf j _ gx
      have q0 := hrow.cell (i := j * 2) (by omega)
      have q1 := hrow.cell (i := j * 2 + 1) (by omega)
      rw [e0] at q0
      rw [e1] at q1
      have r0 := hrow.frozen (j * 2)
      have hKb := HLE.out j
      have HST := kide (mkS_step (k := k) gx)
      obtain ⟨K, hK⟩ : ∃ K, mkS l k j = K := ⟨_, rfl⟩
      have HK := kide hK
      rw [hK] at hKb HST
      rw [hK]
      have hKb2 : K ≤ 200000000000000000 := by omega
      have i0 : (j : Int) < (n : Int) := by omega
      have GX := kide gx
      have DM : Hid (∀ i x, i < j → l[i]? = some x → f (i * 2) = .int .i64 (mkS l k i : Int)) := fun i x hi hx => (hd i x hi hx).1
      have HR1 := kide (World.rowIs.set HRW.out (j * 2) (.int .i64 (K : Int)))
      have hO1 : Out G (G + 1) wr (wr.setCell ⟨G, j * 2, none⟩ (.int .i64 (K : Int))) := Out.setc _ _ _ _
      clear hout hrow hf hd hl gx e0 e1 hK hKb
      obtain ⟨s1, s2⟩ := HS.out x (List.mem_of_getElem? GX.out)
      obtain ⟨pe1, pe2, pe3, -⟩ := HE.out j x GX.out
      have L1 : Hid (∀ i x, j ≤ i → l[i]? = some x → Lx (p i).1 (p i).2 x (wr.setCell ⟨G, j * 2, none⟩ (.int .i64 (K : Int)))) := fun i x hi hx => (HL.out i x hi hx).out hO1 (by have := HEX.out i x hx; omega)
      have D1 : Hid (∀ i x, i < j → l[i]? = some x → HeldLv (wr.setCell ⟨G, j * 2, none⟩ (.int .i64 (K : Int))) (.slice x.la x.ls.length x.lc) x.ls (mkS l k i + 1)) := fun i x hi hx => by
        obtain ⟨q, hq⟩ := (HE.out i x hx).2.2.2.1
        have := HEX.out i x hx
        exact (HD.out i x hi hx).2.out hq hO1 (by omega)
      have O1 := kide (HO.out.trans (hO1.wide hG1 (by omega)))
      obtain ⟨qq, hqq⟩ := L1.out j x (Nat.le_refl _) GX.out
      have HQQ := kide hqq
      have HPJ : Hid (∀ i, i < j → (p i).2 ≤ (p j).1) := fun i hi => HDS.out i j hi (by rw [HN.out]; exact hlt)
      have HPK : Hid (∀ i, j < i → i < l.length → (p j).2 ≤ (p i).1) := fun i hi hil => HDS.out j i hi hil
      have hKe : ((K + 1 : Nat) : Int) = (K : Int) + 1 := by omega
      have C1 := kide (markLn_any (p j).1 (p j).2 x.ls.length x.lc (K + 1) x.la x.ls qq _ hqq rfl s2 s1 (by omega))
      rw [← HST.out, hKe] at C1
      obtain ⟨f1, hR1, hF1, hF2, hF3⟩ : ∃ f1, (wr.setCell ⟨G, j * 2, none⟩ (.int .i64 (K : Int))).rowIs G 63 N f1 ∧ f1 (j * 2) = .int .i64 (K : Int) ∧ (∀ i, i ≠ j → f1 (i * 2) = f (i * 2)) ∧ ∀ i, f1 (i * 2 + 1) = f (i * 2 + 1) := by
        refine ⟨_, HR1.out, by simp, fun i hi => ?_, fun i => ?_⟩
        all_goals
          show (if _ then _ else _) = _
          rw [if_neg (by omega)]
      have R1 := kide hR1
      have F1 := kide hF1
      have F2 := kide hF2
      have F3 := kide hF3
      clear hR1 hF1 hF2 hF3 hO1 HR1 HD HL HO HRW hqq hKe s1
      go_wp2_with fail
      generalize wr.setCell ⟨G, j * 2, none⟩ (.int .i64 (K : Int)) = w1 at *
      refine Calls.mono C1.out ?_
      rintro e w3 ⟨rfl, hh3, ho3⟩
      have R3 : Hid (w3.rowIs G 63 N f1) := rowIs_out R1.out ho3 (by have := HEX.out j x GX.out; omega)
      have L3 : Hid (∀ i x, j + 1 ≤ i → l[i]? = some x → Lx (p i).1 (p i).2 x w3) := fun i y hi hx => (L1.out i y (by omega) hx).out ho3 (.inr (by have := HPK.out i (by omega) (List.getElem?_eq_some_iff.1 hx).1; omega))
      have D3 : Hid (∀ i y, i < j + 1 → l[i]? = some y → f1 (i * 2) = .int .i64 (mkS l k i : Int) ∧ HeldLv w3 (.slice y.la y.ls.length y.lc) y.ls (mkS l k i + 1)) := fun i y hi hx => by
        by_cases hij : i = j
        · subst hij
          have e : y = x := by have h := GX.out; rw [hx] at h; cases h; rfl
          subst e
          rw [HK.out]
          exact ⟨F1.out, hh3⟩
        · have hi' : i < j := by omega
          obtain ⟨q, hq⟩ := (HE.out i y hx).2.2.2.1
          have := HPJ.out i hi'
          exact ⟨(F2.out i hij).trans (DM.out i y hi' hx), (D1.out i y hi' hx).out hq ho3 (.inl this)⟩
      have FF : Hid (∀ i x, l[i]? = some x → (∃ (k0 : Int), f1 (i * 2) = .int .i64 k0) ∧ f1 (i * 2 + 1) = .slice x.la x.ls.length x.lc) := fun i y hx => by
        obtain ⟨⟨k0', e0⟩, e1⟩ := HF.out i y hx
        refine ⟨?_, (F3.out i).trans e1⟩
        by_cases hij : i = j
        · subst hij
          exact ⟨_, F1.out⟩
        · exact ⟨_, (F2.out i hij).trans e0⟩
      have O3 := kide (O1.out.trans (ho3.wide pe1 pe3))
      clear hh3 ho3 C1 L1 D1 R1 O1 q0 q1 r0
      go_wp2_with fail
      go_roundw
      case rel => exact ⟨j + 1, f1, by omega, by go_num, rfl, R3.out, FF.out, D3.out, L3.out, O3.out⟩
      case measure => simp [intOf]; omega
    · have e : j = n := by omega
      clear hout hrow hf hd hl
      go_wp2_with fail
      go_ret
      refine ⟨by rw [e]; rfl, .inr ⟨G, n, c, N, rfl, hN, f, HRW.out, fun i x hx => ?_⟩, HO.out⟩
      have hi := (List.getElem?_eq_some_iff.1 hx).1
      obtain ⟨-, e1⟩ := HF.out i x hx
      obtain ⟨d0, d2⟩ := HD.out i x (by rw [HN.out] at hi; omega) hx
      exact ⟨d0, e1, d2⟩

set_option maxHeartbeats 2000000 in
set_option maxRecDepth 100000 in
theorem heldZn_any (n c k : Nat) (a : Option Addr) (l : List Sg) (w : World) (h : HeldZv w (.slice a n c) l k) (hn : l.length = n) (hn2 : n ≤ 60) (hs : shZ l) (hk : k ≤ 100000000000000000) :
    Calls Tryz.prog 35 #[.slice a n c, .int .i64 (k : Int)] w fun e w' => e = .returned (.int .i64 (mkS l k n : Int)) ∧ w' = w := by
  rcases h with rfl | ⟨G, n', c', N, e0, hN, f, hr, hh⟩
  · subst hn
    go_enter Tryz.func35, Tryz.ntmps35
    go_wp2
    go_loopw [1, 5] (fun q i wr => q = .int .i64 (k : Int) ∧ i = .int .i64 0 ∧ wr = w) (fun _ _ _ => 0)
    case atStart => exact ⟨rfl, rfl, rfl⟩
    case round =>
      obtain ⟨rfl, rfl, rfl⟩ := hrel
      go_wp2
      go_ret
      exact ⟨rfl, rfl⟩
  cases e0
  have HR := kide hr
  have HH := kide hh
  have HN := kide hn
  have HS := kide hs
  have HLE := kide (fun i => mkS_le (k := k) hs i)
  clear hr hh hn hs
  go_enter Tryz.func35, Tryz.ntmps35
  go_wp2_with fail
  go_loop [1, 5] (fun q i => ∃ j : Nat, j ≤ n ∧ i = .int .i64 j ∧ q = .int .i64 (mkS l k j : Int)) (fun _ i => n - (intOf i).toNat)
  case atStart => exact ⟨0, Nat.zero_le _, rfl, rfl⟩
  case round =>
    obtain ⟨j, hj, rfl, rfl⟩ := hrel
    by_cases hlt : j < n
    · obtain ⟨x, gx⟩ : ∃ x, l[j]? = some x := ⟨l[j]'(by rw [HN.out]; exact hlt), List.getElem?_eq_getElem _⟩
      obtain ⟨v0, v1, m1⟩ := HH.out j x gx
      obtain ⟨s1, s2⟩ := HS.out x (List.mem_of_getElem? gx)
      have hKb := HLE.out j
      have HST := kide (mkS_step (k := k) gx)
      obtain ⟨K, hK⟩ : ∃ K, mkS l k j = K := ⟨_, rfl⟩
      rw [hK] at hKb HST v0 m1
      rw [hK]
      have q0 := HR.out.cell (i := j * 2) (by omega)
      have q1 := HR.out.cell (i := j * 2 + 1) (by omega)
      rw [v0] at q0
      rw [v1] at q1
      have n0 : ((K : Int) != (K : Int)) = false := by simp
      have i0 : (j : Int) < (n : Int) := by omega
      have hKb2 : K ≤ 200000000000000000 := by omega
      have hKe : ((K + 1 : Nat) : Int) = (K : Int) + 1 := by omega
      have H1 := kide (heldLn_any x.ls.length x.lc (K + 1) x.la x.ls w m1 rfl s2 s1 (by omega))
      rw [← HST.out, hKe] at H1
      obtain ⟨K4, hK4e⟩ : ∃ K4 : Nat, mkS l k (j + 1) = K4 := ⟨_, rfl⟩
      have HK4 := kide hK4e
      rw [hK4e] at H1
      have p4 : ¬ (K4 : Int) < 0 := by omega
      clear m1 gx hK hK4e v0 v1 hKe HST s1 hKb
      go_wp2_with fail
      refine Calls.mono H1.out ?_
      rintro e w3 ⟨rfl, hw3⟩
      obtain rfl := hw3.symm
      go_wp2_with fail
      go_round
      case rel => exact ⟨j + 1, by omega, by go_num, by rw [HK4.out]⟩
      case measure => simp [intOf]; omega
    · have e : j = n := by omega
      go_wp2_with fail
      go_ret
      exact ⟨rfl, rfl⟩

end Go.Proofs.YtofdkdaehhpgbaaGreatDoor
