/- A row of copied literals, as the laws mark it. -/
import Derived.Test.YtllojnloldhghaaGreatDoorWKE
namespace Go.Proofs.YtllojnloldhghaaGreatDoor
set_option linter.unusedVariables false
set_option linter.unusedSimpArgs false
open Go.RowKit

/-- A literal that may be written to: its terms lie one behind the other. -/
def WrL (w : World) (L H : Nat) (x : Lg) : Prop := ∃ M, L ≤ M ∧ M ≤ H ∧ WrTm w L M x.sa x.ss ∧ WrTm w M H x.ta x.ts

theorem WrL.out {w w' : World} {L H C1 C2 : Nat} {x : Lg} (h : WrL w L H x) (ho : Out C1 C2 w w') (hd : C2 ≤ L ∨ H ≤ C1) : WrL w' L H x := by
  obtain ⟨M, h1, h2, h3, h4⟩ := h
  exact ⟨M, h1, h2, h3.out ho (by omega), h4.out ho (by omega)⟩

theorem WrL.later {w w' : World} {L H : Nat} {x : Lg} (h : WrL w L H x) (hb : Below w.heap.size w w') : WrL w' L H x := h.out (Out.below (B1 := H) (B2 := H) hb) (.inr (Nat.le_refl _))

theorem WrL.setp {w : World} {L H : Nat} {p : Addr} {x : Lg} (h : WrL w L H x) (hd : p.block < L ∨ H ≤ p.block) (v : Value) : WrL (w.setCell p v) L H x := by
  obtain ⟨M, h1, h2, h3, h4⟩ := h
  exact ⟨M, h1, h2, h3.setp (by omega) v, h4.setp (by omega) v⟩

def LgF (f : Nat → Value) (xs : List Lg) : Prop := ∀ i x, xs[i]? = some x → (∃ (k0 : Int) (b0 : Bool), f (i * 4) = .int .i64 k0 ∧ f (i * 4 + 1) = .bool b0) ∧ f (i * 4 + 2) = .slice x.sa x.ss.length x.sc ∧ f (i * 4 + 3) = .slice x.ta x.ts.length x.tc

structure RowL (w : World) (G H n : Nat) (xs : List Lg) (f : Nat → Value) (rg : Nat → Nat) : Prop where
  row : w.rowIs G 78 (n * 4) f
  cells : LgF f xs
  lo : G < rg 0
  up : ∀ i, rg i ≤ rg (i + 1)
  hi : rg n ≤ H
  wr : ∀ i x, xs[i]? = some x → WrL w (rg i) (rg (i + 1)) x

theorem RowL.out {w w' : World} {G H n C1 C2 : Nat} {xs : List Lg} {f : Nat → Value} {rg : Nat → Nat} (h : RowL w G H n xs f rg) (hn : xs.length = n) (ho : Out C1 C2 w w') (hd : C2 ≤ G ∨ H ≤ C1) : RowL w' G H n xs f rg := by
  have up : ∀ i k, rg i ≤ rg (i + k) := fun i k => by
    induction k with
    | zero => exact Nat.le_refl _
    | succ k ih => exact Nat.le_trans ih (h.up (i + k))
  have lo : ∀ i, G < rg i := fun i => Nat.lt_of_lt_of_le h.lo (by have := up 0 i; rwa [Nat.zero_add] at this)
  have hi : ∀ i, i ≤ n → rg i ≤ H := fun i hi => Nat.le_trans (by have := up i (n - i); rwa [show i + (n - i) = n by omega] at this) h.hi
  refine ⟨rowIs_out h.row ho (by have := lo n; have := h.hi; omega), h.cells, h.lo, h.up, h.hi, fun i x hx => (h.wr i x hx).out ho ?_⟩
  have hi1 := (List.getElem?_eq_some_iff.1 hx).1
  have := lo i
  have := hi (i + 1) (by omega)
  omega

theorem RowL.later {w w' : World} {G H n : Nat} {xs : List Lg} {f : Nat → Value} {rg : Nat → Nat} (h : RowL w G H n xs f rg) (hn : xs.length = n) (hb : Below w.heap.size w w') : RowL w' G H n xs f rg := h.out hn (Out.below (B1 := H) (B2 := H) hb) (.inr (Nat.le_refl _))

set_option maxHeartbeats 1000000 in
theorem toLiteralS_own (a : Option Addr) (c : Nat) (xs : List Lg) (w : World) (hr : RdL w a xs) :
    Calls Tryz.prog 12 #[.slice a xs.length c] w fun e w' => ∃ ms : List Lg, e = .returned (.slice (some ⟨w.heap.size, 0, none⟩) xs.length xs.length) ∧ ms.map Lg.ct = xs.map Lg.ct ∧ RdL w' (some ⟨w.heap.size, 0, none⟩) ms ∧ Below w.heap.size w w' ∧ ∃ f rg, RowL w' w.heap.size w'.heap.size xs.length ms f rg := by
  have hlen := hr.1
  have hmk := make_lits xs.length hlen
  go_enter Tryz.func12, Tryz.ntmps12
  go_wp2_with fail
  have hrow := krow (heap_alloc_new w (.cells (madeCells #[.int .i64 0, .bool false, .slice none 0 0, .slice none 0 0] (xs.length * 4)) 78))
  rw [size_madeCells] at hrow
  have hb0 : Below w.heap.size w (w.alloc (.cells (madeCells #[.int .i64 0, .bool false, .slice none 0 0, .slice none 0 0] (xs.length * 4)) 78)) := (Below.refl _ _).alloc (Nat.le_refl _) _
  have hs0 : w.heap.size < (w.alloc (.cells (madeCells #[.int .i64 0, .bool false, .slice none 0 0, .slice none 0 0] (xs.length * 4)) 78)).heap.size := by simp
  generalize (w.alloc (.cells (madeCells #[.int .i64 0, .bool false, .slice none 0 0, .slice none 0 0] (xs.length * 4)) 78)) = w0 at *
  go_loopw [4] (fun i wr => ∃ (k : Nat) (f : Nat → Value) (ms : List Lg), k ≤ xs.length ∧ i = .int .i64 k ∧ wr.rowIs w.heap.size 78 (xs.length * 4) f ∧ ms.length = k ∧ ms.map Lg.ct = (xs.take k).map Lg.ct ∧ (∀ j x, ms[j]? = some x → LgOwn wr w.heap.size f j x) ∧ Below w.heap.size w wr ∧ w.heap.size < wr.heap.size ∧ ∃ rg : Nat → Nat, w.heap.size < rg 0 ∧ (∀ i, rg i ≤ rg (i + 1)) ∧ rg k ≤ wr.heap.size ∧ ∀ j x, ms[j]? = some x → WrL wr (rg j) (rg (j + 1)) x) (fun i _ => xs.length - (intOf i).toNat)
  case atStart => exact ⟨0, _, [], Nat.zero_le _, rfl, hrow, rfl, rfl, fun j x h => by simp at h, hb0, hs0, fun _ => w.heap.size + 1, Nat.lt_succ_self _, fun _ => Nat.le_refl _, hs0, fun j x h => by simp at h⟩
  case round =>
    obtain ⟨k, f, ms, hk, rfl, hrw, hml, hmc, hms, hbel, hsz, rg, hg0, hgu, hgk, hgw⟩ := hrel
    have HG0 := kide hg0
    have HGU := kide hgu
    have HGK := kide hgk
    have HGW := kide hgw
    clear hg0 hgu hgk hgw
    clear hrow hb0 hs0
    by_cases hlt : k < xs.length
    · obtain ⟨-, h | ⟨b, o, rfl, hc⟩⟩ := hr
      · subst h; simp at hlt
      obtain ⟨⟨id, q, ss, sa, sc, ts, ta, tc⟩, hx⟩ : ∃ x, xs[k] = x := ⟨_, rfl⟩
      have gx : xs[k]? = some ⟨id, q, ss, sa, sc, ts, ta, tc⟩ := by rw [List.getElem?_eq_getElem hlt, hx]
      obtain ⟨⟨p0, p1, p2, p3⟩, pr, pr2, -⟩ := (hc k _ gx).later hbel
      simp only [] at p0 p1 p2 p3 pr pr2
      clear hx
      have HTO := kide (toLiteral_own ⟨id, q, ss, sa, sc, ts, ta, tc⟩ wr pr pr2)
      simp only [Lg.val] at HTO
      have GX : Hid _ := gx
      have HML : Hid _ := hml
      have HMC : Hid _ := hmc
      have HMS : Hid _ := hms
      have HR : Hid _ := hrw
      have HB : Hid _ := hbel
      have i0 : (k : Int) < (xs.length : Int) := by omega
      clear gx hml hmc hms hc hrw hbel hmk pr pr2
      generalize hsl : ss.length = sl at *
      generalize htl : ts.length = tl at *
      clear hsl htl
      go_wp2_with fail
      refine Calls.mono HTO.out ?_
      rintro e w1 ⟨y, M, H, rfl, hct, hrd1, hfar1, hrd2, hfar2, hb1, hMH, ht1, ht2⟩
      have HMH := kide hMH
      have HT1 := kide ht1
      have HT2 := kide ht2
      clear hMH ht1 ht2
      have HCT := kide hct
      have HD1 := kide hrd1
      have HF1 := kide hfar1
      have HD2 := kide hrd2
      have HF2 := kide hfar2
      have HB1 := kide hb1
      have hr1 := World.rowIs.of_block HR.out (hb1.block _ hsz)
      obtain ⟨yid, yq, yss, ysa, ysc, yts, yta, ytc⟩ := y
      simp only [] at HCT HD1 HF1 HD2 HF2 HT1 HT2 ⊢
      have q0 := hr1.cell (i := k * 4) (by omega)
      have q1 := hr1.cell (i := k * 4 + 1) (by omega)
      have q2 := hr1.cell (i := k * 4 + 2) (by omega)
      have q3 := hr1.cell (i := k * 4 + 3) (by omega)
      have r0 := hr1.frozen (k * 4)
      have r1 := hr1.frozen (k * 4 + 1)
      have r2 := hr1.frozen (k * 4 + 2)
      have r3 := hr1.frozen (k * 4 + 3)
      have HR1 : Hid _ := hr1
      clear hr1 hct hrd1 hfar1 hrd2 hfar2 hb1
      go_wp2_with fail
      go_roundw
      case rel =>
        have hl := HML.out
        refine ⟨k + 1, _, ms ++ [⟨yid, yq, yss, ysa, ysc, yts, yta, ytc⟩], by omega, by go_num, World.rowIs.set (World.rowIs.set (World.rowIs.set (World.rowIs.set HR1.out (k * 4) (.int .i64 yid)) (k * 4 + 1) (.bool yq)) (k * 4 + 2) (.slice ysa yss.length ysc)) (k * 4 + 3) (.slice yta yts.length ytc), by simp [hl], ?_, fun j x hj => ?_, ?_, ?_, fun i => if i ≤ k then rg i else H, by show _ < (if 0 ≤ k then rg 0 else H); rw [if_pos (Nat.zero_le _)]; exact HG0.out, fun i => ?_, ?_, fun j x hj => ?_⟩
        · have h := HMC.out
          rw [List.map_append, h, List.take_add_one, GX.out, List.map_append]
          simp only [List.map_cons, List.map_nil, Option.toList_some]
          rw [HCT.out]
        · rw [List.getElem?_append] at hj
          split at hj
          · refine (((((HMS.out j x hj).later HB1.out).set _ _).set _ _).set _ _).set _ _ |>.row (k := k) (fun i hi => ?_) (by omega)
            show (if _ then _ else _) = _
            rw [if_neg (by omega), if_neg (by omega), if_neg (by omega), if_neg (by omega)]
          · have hj2 : j - ms.length = 0 := by
              have := (List.getElem?_eq_some_iff.1 hj).1
              simp at this; exact this
            rw [hj2] at hj
            simp at hj
            subst hj
            have hjk : j = k := by omega
            subst hjk
            have hF : FarT (w.heap.size + 1) ysa yss := HF1.out.mono (by omega)
            have hF2 : FarT (w.heap.size + 1) yta yts := HF2.out.mono (by omega)
            exact ⟨⟨by simp, by simp, by simp, by simp⟩, ⟨(((HD1.out.set hF (by simp) _).set hF (by simp) _).set hF (by simp) _).set hF (by simp) _, hF⟩, (((HD2.out.set hF2 (by simp) _).set hF2 (by simp) _).set hF2 (by simp) _).set hF2 (by simp) _, hF2⟩
        · exact ((((HB.out.trans (HB1.out.mono HB.out.size)).setCell (Nat.le_refl _) _).setCell (Nat.le_refl _) _).setCell (Nat.le_refl _) _).setCell (Nat.le_refl _) _
        · have := HB1.out.size
          simp; omega
        · have h1 := HGU.out i
          have h2 := HGK.out
          obtain ⟨h3, h4, -⟩ := HMH.out
          show (if i ≤ k then rg i else H) ≤ (if i + 1 ≤ k then rg (i + 1) else H)
          by_cases c1 : i + 1 ≤ k
          · rw [if_pos c1, if_pos (by omega)]; exact h1
          · rw [if_neg c1]
            by_cases c2 : i ≤ k
            · have c3 : i = k := by omega
              rw [if_pos c2, c3]; omega
            · rw [if_neg c2]; exact Nat.le_refl _
        · show (if k + 1 ≤ k then rg (k + 1) else H) ≤ _
          rw [if_neg (by omega)]
          have h5 := HMH.out.2.2
          simp; exact h5
        · have hz0 := HG0.out
          have hlow : ∀ i, w.heap.size < rg i := fun i => by
            induction i with
            | zero => exact hz0
            | succ i ih => exact Nat.lt_of_lt_of_le ih (HGU.out i)
          have main : WrL w1 (if j ≤ k then rg j else H) (if j + 1 ≤ k then rg (j + 1) else H) x ∧ w.heap.size < (if j ≤ k then rg j else H) := by
            rw [List.getElem?_append] at hj
            split at hj
            · rename_i hjl
              rw [hl] at hjl
              rw [if_pos (by omega), if_pos (by omega)]
              exact ⟨(HGW.out j x hj).later HB1.out, hlow j⟩
            · have hj2 : j - ms.length = 0 := by
                have := (List.getElem?_eq_some_iff.1 hj).1
                simp at this; exact this
              rw [hj2] at hj
              simp at hj
              subst hj
              have hjk : j = k := by omega
              subst hjk
              rw [if_pos (Nat.le_refl _), if_neg (by omega)]
              obtain ⟨h3, h4, -⟩ := HMH.out
              have h2 := HGK.out
              exact ⟨⟨M, by omega, h4, HT1.out.mono h2, HT2.out⟩, hlow j⟩
          exact ((((main.1.setp (.inl main.2) _).setp (.inl main.2) _).setp (.inl main.2) _).setp (.inl main.2) _)
      case measure => simp [intOf]; omega
    · have e : k = xs.length := by omega
      have HM : Hid _ := hml
      have HC : Hid _ := hmc
      have HS : Hid _ := hms
      have HR : Hid _ := hrw
      have HB : Hid _ := hbel
      have HE : Hid _ := e
      clear hml hmc hms hrw hbel e hmk
      go_wp2_with fail
      go_ret
      refine ⟨ms, rfl, ?_, ⟨by rw [HM.out]; omega, .inr ⟨_, 0, rfl, fun i x hi => ?_⟩⟩, HB.out, f, rg, ⟨HR.out, fun i x hi => ?_, HG0.out, HGU.out, by rw [← HE.out]; exact HGK.out, HGW.out⟩⟩
      · have h := HC.out
        rw [HE.out, List.take_length] at h
        exact h
      · obtain ⟨⟨h0, h1, h2, h3⟩, h4, h5⟩ := HS.out i x hi
        have hik : i < k := by have := (List.getElem?_eq_some_iff.1 hi).1; rw [HM.out] at this; exact this
        have hct : ∃ y, xs[i]? = some y ∧ y.ct = x.ct := by
          have h := HC.out
          rw [HE.out, List.take_length] at h
          have h' : (ms.map Lg.ct)[i]? = (xs.map Lg.ct)[i]? := by rw [h]
          rw [List.getElem?_map, List.getElem?_map, hi, Option.map_some] at h'
          cases hy : xs[i]? with
          | none => rw [hy] at h'; cases h'
          | some y => rw [hy] at h'; simp at h'; exact ⟨y, rfl, h'.symm⟩
        obtain ⟨y, hy, hyx⟩ := hct
        obtain ⟨-, hn | ⟨b, o, -, hc⟩⟩ := hr
        · subst hn; simp at hy
        obtain ⟨-, -, -, l3⟩ := hc i y hy
        have e1 : y.id = x.id := congrArg Lc.id hyx
        rw [e1] at l3
        refine ⟨⟨?_, ?_, ?_, ?_⟩, h4.1, h5.1, l3⟩
        · rw [Nat.zero_add]; exact (World.rowIs.cell HR.out (by omega)).trans (congrArg some h0)
        · rw [Nat.zero_add]; exact (World.rowIs.cell HR.out (by omega)).trans (congrArg some h1)
        · rw [Nat.zero_add]; exact (World.rowIs.cell HR.out (by omega)).trans (congrArg some h2)
        · rw [Nat.zero_add]; exact (World.rowIs.cell HR.out (by omega)).trans (congrArg some h3)
      · obtain ⟨⟨h0, h1, h2, h3⟩, -⟩ := HS.out i x hi
        exact ⟨⟨_, _, h0, h1⟩, h2, h3⟩

end Go.Proofs.YtllojnloldhghaaGreatDoor
