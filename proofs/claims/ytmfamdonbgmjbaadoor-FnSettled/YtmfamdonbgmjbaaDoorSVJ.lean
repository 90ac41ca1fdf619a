/- (*l18Search).visit. -/
import Derived.Test.YtmfamdonbgmjbaaDoorSVA
import Derived.Test.YtmfamdonbgmjbaaDoorZGAD
import Derived.Test.YtmfamdonbgmjbaaDoorUNE
import Derived.Test.YtmfamdonbgmjbaaDoorZGAE
import Derived.Test.YtmfamdonbgmjbaaDoorZGAI
import Derived.Test.YtmfamdonbgmjbaaDoorZHAB
import Derived.Test.YtmfamdonbgmjbaaDoorZGAG
namespace Go.Proofs.YtmfamdonbgmjbaaDoor
set_option linter.unusedVariables false
set_option linter.unusedSimpArgs false
open Go.RowKit
/-- Nothing but block sb is touched of what was. -/
def Gs (sb : Nat) (u u' : World) : Prop := u.grownBy u' (some sb)
theorem Gs.refl (sb : Nat) (u : World) : Gs sb u u := World.grownBy.refl _ _
theorem Gs.trans {sb : Nat} {a b c : World} (h : Gs sb a b) (k : Gs sb b c) : Gs sb a c := World.grownBy.trans h k
theorem Gs.of {sb : Nat} {u u' : World} (h : Below u.heap.size u u') : Gs sb u u' := ⟨h.os, h.tape, h.output, h.size, fun k hk _ => h.block k hk⟩
theorem Gs.below {sb : Nat} {u u' : World} (h : Gs sb u u') {B : Nat} (hB : B ≤ sb) (hs : B ≤ u.heap.size) : Below B u u' := (Below.refl B u).grown h hs (fun k e => by cases e; exact hB)
theorem Gs.set {sb : Nat} {u u' : World} (h : Gs sb u u') (o : Nat) (x : Value) : Gs sb u (u'.setCell ⟨sb, o, none⟩ x) :=
  ⟨h.os, h.tape, h.output, by rw [World.size_setCell]; exact h.size, fun k hk hn => by rw [heap_setCell_other _ _ _ _ (fun e => hn (by rw [e]))]; exact h.block k hk hn⟩
theorem Gs.oi {sb B : Nat} {u u' : World} {v : Value} {l : List Int} {cs : Array Value} (h : Gs sb u u') (ho : OI u B v l) (hb : Bz u sb cs 72) : OI u' B v l :=
  ho.move fun b hb' => h.block b (ho.lt hb').2 (fun e => ho.notBz hb (by decide) hb' (by cases e; rfl))
theorem fstN_is {S k : Nat} {R : List Int} (h : k < S) (h1 : ((k : Int) + 1) ∉ R) (h2 : -((k : Int) + 1) ∉ R) (h3 : ∀ j, j < k → ((j : Int) + 1) ∈ R ∨ -((j : Int) + 1) ∈ R) : fstN S R = some k := by
  unfold fstN
  rw [List.find?_range_eq_some]
  refine ⟨by simp [h1, h2], by simpa using h, fun j hj => ?_⟩
  rcases h3 j hj with h | h <;> simp [h]
theorem fstN_not {S : Nat} {R : List Int} (h3 : ∀ j, j < S → ((j : Int) + 1) ∈ R ∨ -((j : Int) + 1) ∈ R) : fstN S R = none := by
  unfold fstN
  rw [List.find?_eq_none]
  intro j hj
  rcases h3 j (List.mem_range.1 hj) with h | h <;> simp [h]
theorem cnfR_parts9 {S : Nat} {cs : List (List Int)} (h : cnfR (S : Int) cs = true) : ∀ cl ∈ cs, ∀ x ∈ cl, x ≠ 0 ∧ -(S : Int) ≤ x ∧ x ≤ (S : Int) := fun cl hcl x hx => by
  unfold cnfR at h
  rw [Bool.and_eq_true, List.all_eq_true] at h
  have h5 := h.2 cl hcl
  unfold claR at h5
  rw [Bool.and_eq_true] at h5
  exact numR_iff.1 (clR_num h5.2 x hx)
theorem svF_code {S : Nat} {cs : List (List Int)} {most : Nat} : ∀ (f v : Nat) (T : List Int), (svF S cs most f v T).1 = 1 ∨ (svF S cs most f v T).1 = 2 ∨ (svF S cs most f v T).1 = 3
  | 0, v, T => .inr (.inr rfl)
  | f + 1, v, T => by
    rw [svF]
    split
    · exact .inr (.inr rfl)
    · split
      · exact .inr (.inl rfl)
      · split
        · exact .inl rfl
        · split
          · exact svF_code f _ _
          · exact svF_code f _ _
theorem svF_vis {S : Nat} {cs : List (List Int)} {most : Nat} : ∀ (f v : Nat) (T : List Int), v ≤ most → (svF S cs most f v T).2.2 ≤ most
  | 0, v, T, h => h
  | f + 1, v, T, h => by
    rw [svF]
    split
    · exact h
    · split
      · simp only []; omega
      · split
        · simp only []; omega
        · split
          · exact svF_vis f _ _ (svF_vis f _ _ (by omega))
          · exact svF_vis f _ _ (by omega)
/-- An operation behind a guard that holds, as one without. -/
theorem wpList_wanted {P : Program} {ops : Array Oper} {rest : List Oper} {o : Oper} {a : Act} {w : World} {Q : Exit → Act → World → Prop} (hw : Region.wanted o (yielded ops a.tmps) = true) (h : wpList P ops Q ({ o with guard := none } :: rest) a w) : wpList P ops Q (o :: rest) a w := by
  unfold wpList at h ⊢
  rw [if_pos hw]
  rw [if_pos (by simp [Region.wanted])] at h
  exact h
/-- The box of the search. -/
def Sx9 (u : World) (sb S : Nat) (ca : Option Addr) (nc cc vis most : Nat) (many : Bool) (fv : Value) : Prop := Bz u sb #[.int .i64 (S : Int), .slice ca nc cc, .int .i64 (vis : Int), .int .i64 (most : Int), .bool many, fv] 72
/-- What visit tells. -/
def RetVi (w u : World) (sb S : Nat) (ca : Option Addr) (nc cc most : Nat) (F : Sr) (e : Ending) (w' : World) : Prop :=
  e = .returned (.bool (F.1 == 1)) ∧ (∃ fv, Sx9 w' sb S ca nc cc F.2.2 most (F.1 == 3) fv ∧ (F.1 = 1 → OI w' w.heap.size fv F.2.1)) ∧ Gs sb u w'
set_option maxHeartbeats 4000000 in
set_option maxRecDepth 100000 in
theorem visit_any {w : World} {sb S nc cc most : Nat} {ca : Option Addr} {xs : List Iw} (hc : RdII w ca xs) (hnc : xs.length = nc) (hk : cnfR (S : Int) (xs.map Iw.ks) = true) (hlo : w.heap.size ≤ sb) (hm : most ≤ 20000) :
    ∀ (f : Nat) (T : List Int) (vis : Nat) (sa : Option Addr) (sc : Nat) (u : World) (fv : Value), Tk S T → S < f + T.length → vis ≤ most → OI u w.heap.size (.slice sa T.length sc) T → Below w.heap.size w u → Sx9 u sb S ca nc cc vis most false fv →
    Calls Tryd.prog 41 #[.pointer (some ⟨sb, 0, none⟩), .slice sa T.length sc] u (RetVi w u sb S ca nc cc most (svF S (xs.map Iw.ks) most f vis T)) := by
  intro f
  induction f with
  | zero => intro T vis sa sc u fv hT hf; have := hT.len; omega
  | succ f ih =>
    intro T vis sa sc u fv hT hf hv hrd hbl hbx
    obtain ⟨⟨-, hS4⟩, hc4, -⟩ := cnfR_in hk
    have hS : S ≤ 400 := by omega
    obtain ⟨F, hF⟩ : ∃ F, svF S (xs.map Iw.ks) most (f + 1) vis T = F := ⟨_, rfl⟩
    rw [hF]
    rw [svF] at hF
    obtain ⟨tn, htn⟩ : ∃ tn, T.length = tn := ⟨_, rfl⟩
    rw [htn]
    have hs0 : sa = none → sc = 0 := by
      rcases hrd.2 with ⟨e, -⟩ | ⟨g, cap, cur, e, -⟩
      · exact fun _ => (Value.slice.inj e).2.2
      · intro h; rw [h] at e; have := (Value.slice.inj e).1; cases this
    have c2 : u.cell? ⟨sb, 2, none⟩ = some (.int .i64 (vis : Int)) := hbx.cell 2
    have c3 : u.cell? ⟨sb, 3, none⟩ = some (.int .i64 (most : Int)) := hbx.cell 3
    have HBX := kide hbx
    have HBL := kide hbl
    have HIH := kide ih
    have HTK := kide hT
    have HRD := kide hrd
    have HTN := kide htn
    have HFF := kide hf
    clear ih hbx hbl hT hrd htn hf hc4 hS4
    by_cases hvm : vis = most
    · subst hvm
      rw [if_pos rfl] at hF
      subst hF
      go_enter Tryd.func41, Tryd.ntmps41
      go_wp2_with fail
      go_quiet (fail)
      have BQ := kide (below_drewN (Below.refl u.heap.size u) nq)
      generalize u.drewN nq = w1 at *
      have hbx1 : Sx9 w1 sb S ca nc cc vis vis false fv := HBX.out.later BQ.out
      have d4 : w1.cell? ⟨sb, 4, none⟩ = some (.bool false) := hbx1.cell 4
      have q4 : w1.frozen? ⟨sb, 4, none⟩ = false := hbx1.froz _
      have X2 : Hid (Sx9 (w1.setCell ⟨sb, 4, none⟩ (.bool true)) sb S ca nc cc vis vis true fv) := hbx1.set 4 (.bool true)
      have G2 : Hid (Gs sb u (w1.setCell ⟨sb, 4, none⟩ (.bool true))) := (Gs.of BQ.out).set 4 _
      clear hbx1
      go_wp2_with fail
      go_ret
      exact ⟨rfl, ⟨_, X2.out, fun h => (by cases h)⟩, G2.out⟩
    · rw [if_neg hvm] at hF
      have hlt : vis < most := by omega
      have hne : ((vis : Int) == (most : Int)) = false := beq_eq_false_iff_ne.2 (by omega)
      obtain ⟨R, hR⟩ : ∃ R, unF (S + 1) (xs.map Iw.ks) T = R := ⟨_, rfl⟩
      rw [hR] at hF
      have HF := kide hF
      have HR := kide hR
      clear hF hR hvm
      go_enter Tryd.func41, Tryd.ntmps41
      go_wp2_with fail
      go_quiet (fail)
      have BQ := kide (below_drewN (Below.refl u.heap.size u) nq)
      generalize u.drewN nq = w1 at *
      have hbx1 : Sx9 w1 sb S ca nc cc vis most false fv := HBX.out.later BQ.out
      have d2 : w1.cell? ⟨sb, 2, none⟩ = some (.int .i64 (vis : Int)) := hbx1.cell 2
      have q2 : w1.frozen? ⟨sb, 2, none⟩ = false := hbx1.froz _
      obtain ⟨w2, hw2⟩ : ∃ w2, w1.setCell ⟨sb, 2, none⟩ (.int .i64 ((vis : Int) + 1)) = w2 := ⟨_, rfl⟩
      have X2 : Hid (Sx9 w2 sb S ca nc cc (vis + 1) most false fv) := by rw [← hw2]; exact hbx1.set 2 (.int .i64 ((vis : Int) + 1))
      have G2 : Hid (Gs sb u w2) := by rw [← hw2]; exact (Gs.of BQ.out).set 2 _
      have B2 := kide (HBL.out.trans (G2.out.below hlo HBL.out.size))
      have e0 : w2.cell? ⟨sb, 0, none⟩ = some (.int .i64 (S : Int)) := X2.out.cell 0
      have e1 : w2.cell? ⟨sb, 1, none⟩ = some (.slice ca nc cc) := X2.out.cell 1
      have R2 : Hid (RdI w2 sa T) := by
        obtain ⟨a, c, e, h⟩ := (G2.out.oi HRD.out HBX.out).rd (by have := HTK.out.len; omega) (fun x hx => by have := HTK.out.num x hx; unfold in64; omega)
        cases e
        exact h
      have HUN := kide (l18Unit_any ca sa cc nc sc tn xs T w2 (hc.later B2.out) hnc R2.out HTN.out hs0 hk HTK.out)
      rw [HR.out] at HUN
      clear hbx1 c2 c3
      go_wp2_with fail
      refine Calls.mono HUN.out ?_
      rintro e w3 ⟨v3, rfl, o3, b3⟩
      have O3 := kide o3
      have O3s := kide b3.size
      have O3b := kide b3
      have X3 := kide (show Sx9 w3 sb S ca nc cc (vis + 1) most false fv from X2.out.later b3)
      have G3 := kide (G2.out.trans (Gs.of b3))
      clear o3 b3 HUN d2 q2 hw2 e0 e1 R2
      obtain ⟨R1, Rb⟩ := R
      cases Rb with
      | false =>
        have hF := HF.out
        rw [if_pos rfl] at hF
        subst hF
        go_wp2_with fail
        go_ret
        exact ⟨rfl, ⟨_, X3.out, fun h => (by cases h)⟩, G3.out⟩
      | true =>
        have hF := HF.out
        rw [if_neg (by simp)] at hF
        simp only [] at hF
        have HF2 := kide hF
        clear hF HF
        have O3 : Hid (OI w3 w2.heap.size v3 R1) := O3
        have hRt : Tk S R1 := by have := (unF_end (cnfR_parts9 hk) (S + 1) T HTK.out (by omega) (by rw [HR.out])).1; rw [HR.out] at this; exact this
        obtain ⟨ra, rc, hv3, hr3⟩ := O3.out.rd (by have := hRt.len; omega) (fun x hx => by have := hRt.num x hx; unfold in64; omega)
        subst hv3
        have R3 := kide hr3
        have RC0 : Hid (ra = none → rc = 0) := by
          rcases O3.out.2 with ⟨e, -⟩ | ⟨g, cap, cur, e, -⟩
          · exact fun _ => (Value.slice.inj e).2.2
          · intro h; rw [h] at e; have := (Value.slice.inj e).1; cases this
        have RT := kide hRt
        have HL := kide (fun q (hq : Below w3.heap.size w3 q) (x : Int) => l1Has_any ra rc R1 x q (R3.out.later hq))
        obtain ⟨rl, hrl⟩ : ∃ rl, R1.length = rl := ⟨_, rfl⟩
        rw [hrl] at HL
        rw [hrl]
        have HRL := kide hrl
        clear hr3 hRt hrl
        go_wp2_with fail
        go_loopw [7] (fun i wr => ∃ k : Nat, k ≤ S ∧ i = .int .i64 ((k : Int) + 1) ∧ (∀ j, j < k → ((j : Int) + 1) ∈ R1 ∨ -((j : Int) + 1) ∈ R1) ∧ Below w3.heap.size w3 wr) (fun i _ => S + 1 - (intOf i).toNat)
        case atStart => exact ⟨0, Nat.zero_le _, rfl, fun j hj => absurd hj (by omega), Below.refl _ _⟩
        case round =>
          obtain ⟨k, hk9, rfl, hal, hbr⟩ := hrel
          have HAL := kide hal
          have BR := kide hbr
          have XR : Hid (Sx9 wr sb S ca nc cc (vis + 1) most false fv) := X3.out.later hbr
          have e0 : wr.cell? ⟨sb, 0, none⟩ = some (.int .i64 (S : Int)) := XR.out.cell 0
          have hwk : IntKind.i64.wrap (-((k : Int) + 1)) = -((k : Int) + 1) := by rw [IntKind.wrap_i64]; omega
          clear hal hbr
          by_cases hkS : k < S
          · have hle : (k : Int) + 1 ≤ (S : Int) := by omega
            by_cases hm1 : ((k : Int) + 1) ∈ R1
            · have HL1 := kide (HL.out wr BR.out ((k : Int) + 1))
              rw [decide_eq_true hm1] at HL1
              go_wp2_with fail
              refine Calls.mono HL1.out ?_
              rintro e wr2 ⟨rfl, hw2⟩
              obtain rfl := hw2.symm
              clear hw2
              go_wp2_with fail
              go_roundw
              case rel => exact ⟨k + 1, by omega, by first | go_num | (congr 1; omega) | simp, fun j hj => (by rcases Nat.lt_or_ge j k with h | h; exact HAL.out j h; obtain rfl : j = k := (by omega); exact .inl hm1), BR.out⟩
              case measure => simp only [intOf]; omega
            · have HL1 := kide (HL.out wr BR.out ((k : Int) + 1))
              rw [decide_eq_false hm1] at HL1
              by_cases hm2 : -((k : Int) + 1) ∈ R1
              · have HL2 := kide (HL.out wr BR.out (-((k : Int) + 1)))
                rw [decide_eq_true hm2] at HL2
                go_wp2_with fail
                refine Calls.mono HL1.out ?_
                rintro e wr2 ⟨rfl, hw2⟩
                obtain rfl := hw2.symm
                clear hw2
                go_wp2_with fail
                refine Calls.mono HL2.out ?_
                rintro e wr2 ⟨rfl, hw2⟩
                obtain rfl := hw2.symm
                clear hw2
                go_wp2_with fail
                go_roundw
                case rel => exact ⟨k + 1, by omega, by first | go_num | (congr 1; omega) | simp, fun j hj => (by rcases Nat.lt_or_ge j k with h | h; exact HAL.out j h; obtain rfl : j = k := (by omega); exact .inr hm2), BR.out⟩
                case measure => simp only [intOf]; omega
              · have HL2 := kide (HL.out wr BR.out (-((k : Int) + 1)))
                rw [decide_eq_false hm2] at HL2
                have hfn := fstN_is hkS hm1 hm2 HAL.out
                have hF := HF2.out
                rw [hfn] at hF
                simp only [] at hF
                have HF3 := kide hF
                have RK := kide (RT.out.snoc (x := -((k : Int) + 1)) ⟨by omega, by omega, by omega⟩ hm2 (by rw [Int.neg_neg]; exact hm1))
                have RK2 := kide (RT.out.snoc (x := (k : Int) + 1) ⟨by omega, by omega, by omega⟩ hm1 hm2)
                clear hF hfn hm1 hm2
                go_wp2_with fail
                refine Calls.mono HL1.out ?_
                rintro e wr2 ⟨rfl, hw2⟩
                obtain rfl := hw2.symm
                clear hw2
                go_wp2_with fail
                refine Calls.mono HL2.out ?_
                rintro e wr2 ⟨rfl, hw2⟩
                obtain rfl := hw2.symm
                clear hw2
                have h13 : Hid (∀ q, Below wr.heap.size wr q → OI q w2.heap.size (.slice ra rl rc) R1) := fun q hq => (by have h1 := (O3.out.later BR.out).later hq; rw [HRL.out] at h1; exact h1)
                have hlen9 : R1.length ≤ 400 := by have := RT.out.len; omega
                have BWR := kide ((B2.out.trans (O3b.out.mono B2.out.size)).trans (BR.out.mono (Nat.le_trans B2.out.size O3s.out)))
                have HWR := kide BWR.out.size
                have HFU : Hid (S < f + (R1.length + 1)) := by
                  obtain ⟨T', hT'⟩ := unF_pre (cs := xs.map Iw.ks) (S + 1) T
                  rw [HR.out] at hT'
                  simp only [] at hT'
                  rw [hT', List.length_append]
                  have := HFF.out
                  show S < f + (T.length + T'.length + 1)
                  omega
                obtain ⟨r1, hr1⟩ : ∃ r1, svF S (xs.map Iw.ks) most f (vis + 1) (R1 ++ [-((k : Int) + 1)]) = r1 := ⟨_, rfl⟩
                have HRV : Hid (r1.2.2 ≤ most) := by rw [← hr1]; exact svF_vis f _ _ (by omega)
                have hcode : r1.1 = 1 ∨ r1.1 = 2 ∨ r1.1 = 3 := by rw [← hr1]; exact svF_code f _ _
                rw [hr1] at HF3
                have HR1 := kide hr1
                have HCO := kide hcode
                clear hr1 hcode hne
                have OEa := kide (OI.empty wr wr.heap.size (Nat.le_refl _))
                have B5a : Hid (Below wr.heap.size wr (wr.alloc (.cells #[] 2))) := (Below.refl _ _).alloc (Nat.le_refl _) _
                have R5a := kide ((R3.out.later BR.out).later B5a.out)
                have hw5a : wr.heap.size ≤ (wr.alloc (.cells #[] 2)).heap.size := B5a.out.size
                go_wp2_with (refine wpList_appIr _ rfl _ _ rfl wr.heap.size _ [] R1 rfl OEa.out ra rc (by rw [HRL.out]; rfl) RC0.out R5a.out (by simp; omega) hw5a ?_)
                intro v4a w4a ho4 hg4
                have O4a := kide ho4
                have B4a : Hid (Below wr.heap.size wr w4a) := B5a.out.grown hg4 B5a.out.size (fun k e => (by have := (OEa.out.lt e).1; exact this))
                have b4a : Below w4a.heap.size w4a (w4a.alloc (.cells #[.int .i64 (-((k : Int) + 1))] 2)) := (Below.refl _ _).alloc (Nat.le_refl _) _
                have O6a := kide (O4a.out.later b4a)
                have B6a := kide (B4a.out.trans (b4a.mono B4a.out.size))
                have z6a : (w4a.alloc (.cells #[.int .i64 (-((k : Int) + 1))] 2)).cell? ⟨w4a.heap.size, 0, none⟩ = some (.int .i64 (-((k : Int) + 1))) := (Bz.new w4a #[.int .i64 (-((k : Int) + 1))] 2).cell 0
                clear ho4 hg4 b4a hw5a OEa B5a R5a
                go_wp2_with (refine wpList_appI rfl _ _ rfl wr.heap.size v4a R1 (-((k : Int) + 1)) rfl O6a.out w4a.heap.size 1 rfl z6a (by omega) B6a.out.size ?_)
                rintro ga capa w7a ho7 hg7 -
                have B7a : Hid (Below wr.heap.size wr w7a) := B6a.out.grown hg7 B6a.out.size (fun k e => (O6a.out.lt e).1)
                have O7a : Hid (OI w7a w.heap.size (.slice (some ⟨ga, 0, none⟩) (R1 ++ [-((k : Int) + 1)]).length capa) (R1 ++ [-((k : Int) + 1)])) := by rw [List.length_append, List.length_singleton]; exact ho7.lowI HWR.out
                have X7a := kide ((show Bz wr sb _ _ from XR.out).later B7a.out)
                have HVa := kide (HIH.out (R1 ++ [-((k : Int) + 1)]) (vis + 1) (some ⟨ga, 0, none⟩) capa w7a _ RK.out (by rw [List.length_append, List.length_singleton]; exact HFU.out) (by omega) O7a.out (BWR.out.trans (B7a.out.mono HWR.out)) X7a.out)
                rw [List.length_append, List.length_singleton, HR1.out] at HVa
                clear ho7 hg7 z6a
                go_wp2_with fail
                refine Calls.mono HVa.out ?_
                rintro e w8 ⟨rfl, ⟨fv8, x8, o8⟩, g8⟩
                have HO8 := kide o8
                have X8 := kide x8
                have G8 := kide (((G3.out.trans (Gs.of BR.out)).trans (Gs.of B7a.out)).trans g8)
                have BW8 := kide ((BWR.out.trans (B7a.out.mono HWR.out)).trans (g8.below hlo (Nat.le_trans HWR.out B7a.out.size)))
                have HW8 := kide BW8.out.size
                have O8 := kide (g8.oi (h13.out _ B7a.out) X7a.out)
                have d8 : w8.cell? ⟨sb, 4, none⟩ = some (.bool (r1.1 == 3)) := x8.cell 4
                have R8 : Hid (RdI w8 ra R1) := by
                  have h1 := O8.out
                  rw [← HRL.out] at h1
                  obtain ⟨a, c, e, h⟩ := h1.rd (by omega) (fun x hx => by have := RT.out.num x hx; unfold in64; omega)
                  cases e
                  exact h
                clear x8 g8 o8 HVa O7a O6a O4a B4a B6a HL1 HL2 e0
                have hF := HF3.out
                rcases HCO.out with h1 | h1 | h1
                · rw [if_neg (by omega)] at hF
                  subst hF
                  rw [h1] at d8
                  rw [show (r1.1 == 1) = true from by rw [h1]; rfl]
                  have E1 : Hid (RetVi w u sb S ca nc cc most r1 (.returned (.bool true)) w8) := ⟨by rw [h1]; rfl, ⟨fv8, X8.out, HO8.out⟩, G8.out⟩
                  clear h1
                  go_wp2_with fail
                  go_ret
                  exact E1.out
                · rw [if_pos h1] at hF
                  rw [show (r1.1 == 3) = false from by rw [h1]; rfl] at d8
                  rw [show (r1.1 == 1) = false from by rw [h1]; rfl]
                  rw [show (r1.1 == 3) = false from by rw [h1]; rfl] at X8
                  have HF4 := kide hF
                  clear hF h1
                  have OEb := kide (OI.empty w8 w8.heap.size (Nat.le_refl _))
                  have B5b : Hid (Below w8.heap.size w8 (w8.alloc (.cells #[] 2))) := (Below.refl _ _).alloc (Nat.le_refl _) _
                  have R5b := kide (R8.out.later B5b.out)
                  have hw5b : w8.heap.size ≤ (w8.alloc (.cells #[] 2)).heap.size := B5b.out.size
                  go_wp2_with (refine wpList_wanted (by first | rfl | kernel_rfl) ?_; refine wpList_appIr _ rfl _ _ rfl w8.heap.size _ [] R1 rfl OEb.out ra rc (by rw [HRL.out]; rfl) RC0.out R5b.out (by simp; omega) hw5b ?_)
                  intro v4b w4b ho4 hg4
                  have O4b := kide ho4
                  have B4b : Hid (Below w8.heap.size w8 w4b) := B5b.out.grown hg4 B5b.out.size (fun k e => (by have := (OEb.out.lt e).1; exact this))
                  have b4a : Below w4b.heap.size w4b (w4b.alloc (.cells #[.int .i64 ((k : Int) + 1)] 2)) := (Below.refl _ _).alloc (Nat.le_refl _) _
                  have O6b := kide (O4b.out.later b4a)
                  have B6b := kide (B4b.out.trans (b4a.mono B4b.out.size))
                  have z6b : (w4b.alloc (.cells #[.int .i64 ((k : Int) + 1)] 2)).cell? ⟨w4b.heap.size, 0, none⟩ = some (.int .i64 ((k : Int) + 1)) := (Bz.new w4b #[.int .i64 ((k : Int) + 1)] 2).cell 0
                  clear ho4 hg4 b4a hw5b OEb B5b R5b
                  go_wp2_with (refine wpList_wanted (by first | rfl | kernel_rfl) ?_; refine wpList_appI rfl _ _ rfl w8.heap.size v4b R1 ((k : Int) + 1) rfl O6b.out w4b.heap.size 1 rfl z6b (by omega) B6b.out.size ?_)
                  rintro gb capb w7b ho7 hg7 -
                  have B7b : Hid (Below w8.heap.size w8 w7b) := B6b.out.grown hg7 B6b.out.size (fun k e => (O6b.out.lt e).1)
                  have O7b : Hid (OI w7b w.heap.size (.slice (some ⟨gb, 0, none⟩) (R1 ++ [(k : Int) + 1]).length capb) (R1 ++ [(k : Int) + 1])) := by rw [List.length_append, List.length_singleton]; exact ho7.lowI HW8.out
                  have X7b := kide ((show Bz w8 sb _ _ from X8.out).later B7b.out)
                  have HVb := kide (HIH.out (R1 ++ [(k : Int) + 1]) (r1.2.2) (some ⟨gb, 0, none⟩) capb w7b _ RK2.out (by rw [List.length_append, List.length_singleton]; exact HFU.out) (HRV.out) O7b.out (BW8.out.trans (B7b.out.mono HW8.out)) X7b.out)
                  rw [List.length_append, List.length_singleton, HF4.out] at HVb
                  clear ho7 hg7 z6b
                  go_wp2_with fail
                  refine Calls.mono HVb.out ?_
                  rintro e w9 ⟨rfl, hx9, hg9⟩
                  have E9 : Hid (RetVi w u sb S ca nc cc most F (.returned (.bool (F.1 == 1))) w9) := ⟨rfl, hx9, (G8.out.trans (Gs.of B7b.out)).trans hg9⟩
                  clear hx9 hg9 HVb
                  go_wp2_with fail
                  go_ret
                  exact E9.out
                · rw [if_neg (by omega)] at hF
                  subst hF
                  rw [show (r1.1 == 1) = false from by rw [h1]; rfl]
                  rw [show (r1.1 == 3) = true from by rw [h1]; rfl] at d8
                  have E1 : Hid (RetVi w u sb S ca nc cc most r1 (.returned (.bool false)) w8) := ⟨by rw [h1]; rfl, ⟨fv8, X8.out, fun h => absurd (h1.symm.trans h) (by decide)⟩, G8.out⟩
                  clear h1
                  go_wp2_with fail
                  go_ret
                  exact E1.out
          · obtain ⟨rfl⟩ : S = k := by omega
            have hF := HF2.out
            rw [fstN_not HAL.out] at hF
            simp only [] at hF
            subst hF
            have e5 : wr.cell? ⟨sb, 5, none⟩ = some fv := XR.out.cell 5
            have q5 : wr.frozen? ⟨sb, 5, none⟩ = false := XR.out.froz _
            have X5 : Hid (Sx9 (wr.setCell ⟨sb, 5, none⟩ (.slice ra rl rc)) sb S ca nc cc (vis + 1) most false (.slice ra rl rc)) := XR.out.set 5 (.slice ra rl rc)
            have G5 : Hid (Gs sb u (wr.setCell ⟨sb, 5, none⟩ (.slice ra rl rc))) := (G3.out.trans (Gs.of BR.out)).set 5 _
            have O5 : Hid (OI (wr.setCell ⟨sb, 5, none⟩ (.slice ra rl rc)) w.heap.size (.slice ra rl rc) R1) := by
              have h1 := (O3.out.later BR.out).lowI B2.out.size
              rw [HRL.out] at h1
              exact ((Gs.refl sb wr).set 5 _).oi h1 XR.out
            have hnl : ¬ ((S : Int) + 1 ≤ (S : Int)) := by omega
            go_wp2_with fail
            go_ret
            exact ⟨rfl, ⟨_, X5.out, fun _ => O5.out⟩, G5.out⟩
end Go.Proofs.YtmfamdonbgmjbaaDoor
