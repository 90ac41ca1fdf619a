/- Reasons: the answer; the program. -/
import Derived.Test.YtakicdlfolhhcaaREF
import Derived.Test.YtakicdlfolhhcaaGN
namespace Go.Proofs.Ytakicdlfolhhcaa
set_option linter.unusedVariables false
set_option linter.unusedSimpArgs false
open Go.RowKit

/-- What the answer is. -/
structure ReaOk (z : Int) (ls : List Lk) (a b : Int) (Z : List Int × Bool) : Prop where
  yes : ∀ L, forR z ls = some L → (0 ≤ a ∧ a < z) → (0 ≤ b ∧ b < z) → L a.toNat = L b.toNat → Z.2 = true ∧ ∀ p, (Wk ls a.toNat p b.toNat ∨ Wk ls b.toNat p a.toNat) → p.Nodup → risL (whyL ls p) = Z.1
  no : (∀ L, forR z ls = some L → (0 ≤ a ∧ a < z) → (0 ≤ b ∧ b < z) → L a.toNat ≠ L b.toNat) → Z = ([], false)

theorem rea_exists (z : Int) (ls : List Lk) (a b : Int) : ∃ Z, ReaOk z ls a b Z := by
  by_cases h : ∃ L, forR z ls = some L ∧ (0 ≤ a ∧ a < z) ∧ (0 ≤ b ∧ b < z) ∧ L a.toNat = L b.toNat
  · obtain ⟨L, hf, ha, hb, hL⟩ := h
    have hg : goF z.toNat id ls = some L := by
      unfold forR at hf
      split at hf
      · exact hf
      · cases hf
    have hno : ¬ ∀ L, forR z ls = some L → (0 ≤ a ∧ a < z) → (0 ≤ b ∧ b < z) → L a.toNat ≠ L b.toNat := fun q => q L hf ha hb hL
    by_cases hp : ∃ p, (Wk ls a.toNat p b.toNat ∨ Wk ls b.toNat p a.toNat) ∧ p.Nodup
    · obtain ⟨p, hw, hd⟩ := hp
      refine ⟨(risL (whyL ls p), true), ⟨fun L' _ _ _ _ => ⟨rfl, fun q hq dq => ?_⟩, fun q => absurd q hno⟩⟩
      have e1 := ris_eq (whyL_mem (ls := ls) (Wk.alike hg hq hw dq hd))
      have e2 := ris_eq (xs := whyL ls p) (ys := whyL ls p) (fun _ => Iff.rfl)
      have e3 := ris_eq (whyL_mem (ls := ls) (Wk.alike hg hw hq hd dq))
      rw [← e3, e2]
    · exact ⟨([], true), ⟨fun _ _ _ _ _ => ⟨rfl, fun q hq dq => absurd ⟨q, hq, dq⟩ hp⟩, fun q => absurd q hno⟩⟩
  · exact ⟨([], false), ⟨fun L hf ha hb hL => absurd ⟨L, hf, ha, hb, hL⟩ h, fun _ => rfl⟩⟩

def RetZ (w : World) (Z : List Int × Bool) (e : Ending) (w' : World) : Prop := ∃ v, e = .returned (.tuple #[v, .bool Z.2]) ∧ OW w' w.heap.size v Z.1 ∧ Below w.heap.size w w'

set_option maxHeartbeats 1000000 in
set_option maxRecDepth 100000 in
theorem implReasons_any (z : Int) (a : Option Addr) (n c : Nat) (ls : List Lk) (x y : Int) (Z : List Int × Bool) (w : World) (hr : RdK w a ls) (hn : ls.length = n) (hZ : ReaOk z ls x y Z) :
    Calls Try.prog 30 #[.agg #[.int .i64 z, .slice a n c], .int .i64 x, .int .i64 y] w (RetZ w Z) := by
  have s0 := St.start w (.cells #[.int .i64 z, .slice a n c] 29)
  have HC := kide (groveOf_any z a n c ls _ (hr.later s0.below) hn)
  have S0 := kide s0
  have HZ := kide hZ
  have hl2 : ls.length ≤ 1048576 := hr.1
  clear hr hn s0 hZ
  go_enter Try.func30, Try.ntmps30
  go_wp2_with fail
  refine Calls.mono HC.out ?_
  rintro e w1 ⟨hb, ⟨hf, rfl⟩ | ⟨L, G, s, rt, dp, M, hf, rfl, hg, hnl, huf, hps, hls, hM, -, hdg⟩⟩
  · have B1 := kide (S0.out.below.trans (hb.mono S0.out.below.size))
    have hres : Z = ([], false) := HZ.out.no (fun L h => by rw [hf] at h; cases h)
    subst hres
    clear hb hf HZ
    go_wp2_with fail
    go_quiet (fail)
    go_wp2_with fail
    go_returns
    exact ⟨_, rfl, ⟨rfl, .inl ⟨rfl, rfl⟩⟩, below_drewN B1.out _⟩
  · have B1 := kide (S0.out.below.trans (hb.mono S0.out.below.size))
    have HF := kide hf
    have HG := kide hg
    have HNL := kide hnl
    have HUF := kide huf
    have hz1 := (forR_len hf).1
    have hl : s.ps.length ≤ 1000 := by omega
    have HPS := kide hps
    have HLS := kide hls
    have HDG := kide hdg
    have GD : Hid (∀ k, Gv (w1.drewN k) _ G M s) := fun k => hg.later (below_drewN (Below.refl _ _) k)
    have HHX := kide (fun k => has_any (GD.out k) hnl.k hl x)
    have HHY := kide (fun k => has_any (GD.out k) hnl.k hl y)
    simp only [hps, pt] at HHX HHY
    unfold pt
    have hgo : goF s.ps.length id ls = some L := by
      unfold forR at hf
      rw [if_pos hz1] at hf
      rw [show s.ps.length = z.toNat by omega]
      exact hf
    have HGO := kide hgo
    clear hb hf hg hnl huf hps hls hdg hgo
    by_cases hx : 0 ≤ x ∧ x < z
    case neg =>
      simp only [decide_eq_false hx] at HHX
      have hres : Z = ([], false) := HZ.out.no (fun L _ h => absurd h hx)
      subst hres
      go_wp2_with fail
      go_quiet ((first | (go_at_call 46; with_reducible (first | exact Calls.quiet_of_same (HHX.out _) | exact Calls.quiet_of_same (HHY.out _))) | fail))
      go_wp2_with fail
      go_returns
      exact ⟨_, rfl, ⟨rfl, .inl ⟨rfl, rfl⟩⟩, below_drewN B1.out _⟩
    simp only [decide_eq_true hx] at HHX
    by_cases hy : 0 ≤ y ∧ y < z
    case neg =>
      simp only [decide_eq_false hy] at HHY
      have hres : Z = ([], false) := HZ.out.no (fun L _ _ h => absurd h hy)
      subst hres
      go_wp2_with fail
      go_quiet ((first | (go_at_call 46; with_reducible (first | exact Calls.quiet_of_same (HHX.out _) | exact Calls.quiet_of_same (HHY.out _))) | fail))
      go_wp2_with fail
      go_returns
      exact ⟨_, rfl, ⟨rfl, .inl ⟨rfl, rfl⟩⟩, below_drewN B1.out _⟩
    simp only [decide_eq_true hy] at HHY
    obtain ⟨na, rfl⟩ : ∃ m : Nat, x = (m : Int) := ⟨x.toNat, by omega⟩
    obtain ⟨nb, rfl⟩ : ∃ m : Nat, y = (m : Int) := ⟨y.toNat, by omega⟩
    have hna : na < s.ps.length := by have := HPS.out; omega
    have hnb : nb < s.ps.length := by have := HPS.out; omega
    obtain ⟨pA, hpA⟩ : ∃ p, s.ps[na]? = some p := ⟨_, List.getElem?_eq_getElem hna⟩
    obtain ⟨pB, hpB⟩ : ∃ p, s.ps[nb]? = some p := ⟨_, List.getElem?_eq_getElem hnb⟩
    obtain ⟨pC, hpC⟩ : ∃ p, s.ps[rt na]? = some p := ⟨_, List.getElem?_eq_getElem (HUF.out.rlt na hna).1⟩
    obtain ⟨pD, hpD⟩ : ∃ p, s.ps[rt nb]? = some p := ⟨_, List.getElem?_eq_getElem (HUF.out.rlt nb hnb).1⟩
    obtain ⟨kb, N, kcap, hN, hks⟩ : ∃ kb N kcap, N = s.ps.length ∧ s.kc = .slice (some ⟨kb, 0, none⟩) N kcap := by
      rw [HNL.out.k]
      rcases HG.out.kr.2 with ⟨-, h0⟩ | ⟨g, cap, cur, h0, -⟩
      · omega
      · exact ⟨g, _, cap, rfl, h0⟩
    have e3 := (HG.out.k0).trans (congrArg some hks)
    have e4 := HG.out.kcell HNL.out.k hks hpA
    have e5 := HG.out.kcell HNL.out.k hks hpB
    have HDA := kide (fun k => head_any (GD.out k) HUF.out na pA hpA)
    have HDB := kide (fun k => head_any (GD.out k) HUF.out nb pB hpB)
    simp only [show s.ps.getD (rt na) 0 = pC by rw [List.getD, hpC]; rfl, pt] at HDA
    simp only [show s.ps.getD (rt nb) 0 = pD by rw [List.getD, hpD]; rfl, pt] at HDB
    unfold pt at e4 e5
    have i0 : (na : Int) < (N : Int) := by omega
    have i1 : (nb : Int) < (N : Int) := by omega
    have HPA := kide hpA
    have HPB := kide hpB
    by_cases hsm : rt na = rt nb
    · have hL : L na = L nb := (HUF.out.eqv na hna nb hnb).1 hsm
      have hpq : pC = pD := by rw [hsm, hpD] at hpC; injection hpC with h; exact h.symm
      subst hpq
      have hnq := fun u => Gv.knq_same (w := u) (p := pC)
      obtain ⟨hz2, hzp⟩ := HZ.out.yes L HF.out hx hy (by simpa using hL)
      have HZP := kide hzp
      have HRE := kide (fun (u : World) (B9 : Nat) (hu : Gv u B9 G M s) => reasons_any hu HNL.out (by rw [HLS.out]; exact HGO.out) rfl hl hM (HDG.out.ix HNL.out.n) hpA hpB hL)
      simp only [HLS.out] at HRE
      clear hpA hpB hpC hpD hks hsm hzp
      go_wp2_with fail
      go_quiet ((first | (go_at_call 46; with_reducible (first | exact Calls.quiet_of_same (HHX.out _) | exact Calls.quiet_of_same (HHY.out _))) | (go_at_call 47; with_reducible (first | exact Calls.quiet_of_same (HDA.out _) | exact Calls.quiet_of_same (HDB.out _)))))
      go_wp2_with fail
      have G2 := kide (GD.out nq)
      have B2 := kide (below_drewN B1.out nq)
      have f3 : (w1.drewN nq).cell? ⟨G, 0, none⟩ = some (Value.slice (some ⟨kb, 0, none⟩) s.ps.length kcap) := by rw [World.cell?_of_block (w := w1) (a := ⟨G, 0, none⟩) ((below_drewN (Below.refl w1.heap.size w1) nq).block _ (lt_of_block HG.out.gb)), ← hN]; exact e3
      have f4 : (w1.drewN nq).cell? ⟨kb, na, none⟩ = some (.pointer (some ⟨pA, 0, none⟩)) := by rw [World.cell?_of_block (w := w1) (a := ⟨kb, na, none⟩) ((below_drewN (Below.refl w1.heap.size w1) nq).block _ (block_lt_of_cell e4))]; exact e4
      have f5 : (w1.drewN nq).cell? ⟨kb, nb, none⟩ = some (.pointer (some ⟨pB, 0, none⟩)) := by rw [World.cell?_of_block (w := w1) (a := ⟨kb, nb, none⟩) ((below_drewN (Below.refl w1.heap.size w1) nq).block _ (block_lt_of_cell e5))]; exact e5
      clear e3 e4 e5 HHX HHY HDA HDB hnq GD HG
      generalize w1.drewN nq = w2 at *
      go_region_held3 (fun u => u.cell? ⟨G, 0, none⟩ = some (Value.slice (some ⟨kb, 0, none⟩) s.ps.length kcap) ∧ u.cell? ⟨kb, na, none⟩ = some (Value.pointer (some ⟨pA, 0, none⟩)) ∧ u.cell? ⟨kb, nb, none⟩ = some (Value.pointer (some ⟨pB, 0, none⟩))) (simp [*])
        ((go_at_call 59; refine Calls.mono (HRE.out _ _ (G2.out.later (Below.refl _ _).drew)) ?_; rintro e w3 ⟨v3, p, rfl, ho3, hwk, hnd, hb3⟩; replace hb3 := kundrew hb3; have d3 : w3.cell? ⟨G, 0, none⟩ = some (Value.slice (some ⟨kb, 0, none⟩) s.ps.length kcap) := (hb3.cell (p := ⟨G, 0, none⟩) (block_lt_of_cell f3)).trans f3; have d4 : w3.cell? ⟨kb, na, none⟩ = some (Value.pointer (some ⟨pA, 0, none⟩)) := (hb3.cell (p := ⟨kb, na, none⟩) (block_lt_of_cell f4)).trans f4; have d5 : w3.cell? ⟨kb, nb, none⟩ = some (Value.pointer (some ⟨pB, 0, none⟩)) := (hb3.cell (p := ⟨kb, nb, none⟩) (block_lt_of_cell f5)).trans f5))
      go_wp2_with fail
      go_returns
      have hzz : w.heap.size ≤ w2.heap.size := B2.out.size
      refine ⟨v3, by rw [hz2]; rfl, ?_, B2.out.trans (hb3.mono hzz)⟩
      have := HZP.out p (.inr (by simpa using hwk)) hnd
      rw [← this]
      exact own_low ho3 hzz
    · have hpq : pC ≠ pD := fun e => hsm (HG.out.inj hpC (by rw [e]; exact hpD))
      have hnq := fun k => (GD.out k).knq_ne hpC hpD hpq
      have hres : Z = ([], false) := HZ.out.no (fun L' h' _ _ e => by
        rw [HF.out] at h'
        cases h'
        exact hsm ((HUF.out.eqv na hna nb hnb).2 (by simpa using e)))
      subst hres
      clear hpA hpB hpC hpD hks hsm
      go_wp2_with fail
      go_quiet ((first | (go_at_call 46; with_reducible (first | exact Calls.quiet_of_same (HHX.out _) | exact Calls.quiet_of_same (HHY.out _))) | (go_at_call 47; with_reducible (first | exact Calls.quiet_of_same (HDA.out _) | exact Calls.quiet_of_same (HDB.out _)))))
      go_wp2_with fail
      go_returns
      exact ⟨_, rfl, ⟨rfl, .inl ⟨rfl, rfl⟩⟩, below_drewN B1.out _⟩

end Go.Proofs.Ytakicdlfolhhcaa
