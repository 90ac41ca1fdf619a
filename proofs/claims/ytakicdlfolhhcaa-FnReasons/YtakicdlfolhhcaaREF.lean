/- The reasons between two knots, as the program tells them. -/
import Derived.Test.YtakicdlfolhhcaaRED
import Derived.Test.YtakicdlfolhhcaaREE
namespace Go.Proofs.Ytakicdlfolhhcaa
set_option linter.unusedVariables false
set_option linter.unusedSimpArgs false
open Go.RowKit

theorem tlR_take (ts : List Nat) (ls : List Lk) (h : ts.length = ls.length) (j : Nat) : ∀ m, m ≤ ls.length → tlR (ts.take m) (ls.take m) j = ((List.range m).filter fun k => decide ((ls.getD k (0, 0, 0)).1.toNat = j) || decide ((ls.getD k (0, 0, 0)).2.1.toNat = j)).map (fun k => ts.getD k 0)
  | 0, _ => rfl
  | m + 1, hm => by
    have gl := List.getElem?_eq_getElem (show m < ls.length by omega)
    have gt := List.getElem?_eq_getElem (show m < ts.length by omega)
    have ih := tlR_take ts ls h j m (by omega)
    rw [List.take_add_one, List.take_add_one, gl, gt]
    simp only [Option.toList]
    rw [tlR_snoc _ _ (by simp [h]), ih, List.range_succ, List.filter_append, List.map_append]
    congr 1
    have e1 : ls.getD m (0, 0, 0) = ls[m] := by rw [List.getD, gl]; rfl
    have e2 : ts.getD m 0 = ts[m] := by rw [List.getD, gt]; rfl
    simp only [List.filter_cons, List.filter_nil, e1]
    by_cases hc : ls[m].1.toNat = j ∨ ls[m].2.1.toNat = j
    · rw [if_pos hc, if_pos (by simpa using hc)]
      simp only [List.map_cons, List.map_nil, e2]
    · rw [if_neg hc, if_neg (by simpa using hc)]
      rfl

theorem Dg.ix {s : Gs} {n : Nat} (h : Dg s) (hn : s.ts.length = s.ls.length) : Ix s n := fun j _ => by
  refine ⟨(List.range s.ls.length).filter fun k => decide ((s.ls.getD k (0, 0, 0)).1.toNat = j) || decide ((s.ls.getD k (0, 0, 0)).2.1.toNat = j), List.nodup_range.filter _, ?_, fun t => ?_⟩
  · have := tlR_take s.ts s.ls hn j s.ls.length (Nat.le_refl _)
    rw [List.take_of_length_le (by omega), List.take_of_length_le (Nat.le_refl _)] at this
    rw [h j, this]
  · rw [List.mem_filter]
    constructor
    · rintro ⟨h1, h2⟩
      have hl := List.getElem?_eq_getElem (List.mem_range.1 h1)
      have e1 : s.ls.getD t (0, 0, 0) = s.ls[t]'(List.mem_range.1 h1) := by rw [List.getD, hl]; rfl
      rw [e1] at h2
      rcases (by simpa using h2 : (s.ls[t]'(List.mem_range.1 h1)).1.toNat = j ∨ (s.ls[t]'(List.mem_range.1 h1)).2.1.toNat = j) with q | q
      · exact ⟨_, _, hl, .inl ⟨q, rfl⟩⟩
      · exact ⟨_, _, hl, .inr ⟨q, rfl⟩⟩
    · rintro ⟨u, l, hl, he⟩
      have hlt := (List.getElem?_eq_some_iff.1 hl).1
      refine ⟨List.mem_range.2 hlt, ?_⟩
      have e1 : s.ls.getD t (0, 0, 0) = l := by rw [List.getD, hl]; rfl
      rw [e1]
      rcases he with ⟨q, -⟩ | ⟨q, -⟩
      · simp [q]
      · simp [q]

theorem Gv.knq_ne {w : World} {B G M i j p q : Nat} {s : Gs} (h : Gv w B G M s) (hi : s.ps[i]? = some p) (hj : s.ps[j]? = some q) (hne : p ≠ q) : (binOp .neq 70 (.pointer (some ⟨p, 0, none⟩)) (.pointer (some ⟨q, 0, none⟩))).run Try.prog w = .ok (.bool true) w := by
  cases hk : Try.prog.info? 72 with
  | none => have := Try.infoK; rw [hk] at this; cases this
  | some ki =>
    have hs := Try.infoK
    rw [hk] at hs
    simp at hs
    have hd : ∀ d : Nat, (Op.equalIn (d + 1) 70 (.pointer (some ⟨p, 0, none⟩)) (.pointer (some ⟨q, 0, none⟩))).run Try.prog w = .ok false w := fun d => by
      simp [Op.equalIn, run_underlying Try.underlying70, sizeOf, typeInfo, hk, hs, run_sameAddr_other w (a := ⟨p, 0, none⟩) (b := ⟨q, 0, none⟩) (fun e => hne (by injection e)) (h.kn i p hi).2 (h.kn j q hj).2]
    simp only [binOp]
    simp [Op.equal, Op.maxDepth, hd 9999]
theorem Gv.knq_same {w : World} {p : Nat} : (binOp .neq 70 (.pointer (some ⟨p, 0, none⟩)) (.pointer (some ⟨p, 0, none⟩))).run Try.prog w = .ok (.bool false) w := by
  cases hk : Try.prog.info? 72 with
  | none => have := Try.infoK; rw [hk] at this; cases this
  | some ki => exact Lib.run_neq_ptr_same (P := Try.prog) w _ Try.underlying70 hk
theorem own_low {w : World} {B B' n : Nat} {e : TypeId} {v : Value} {xs : List Value} (h : w.ownsRow B e 1 v n xs) (hb : B' ≤ B) : w.ownsRow B' e 1 v n xs := by
  obtain ⟨h1, h2⟩ := h
  rcases h2 with h2 | ⟨g, cap, cur, rfl, hg, r⟩
  · exact ⟨h1, .inl h2⟩
  · exact ⟨h1, .inr ⟨g, cap, cur, rfl, by omega, r⟩⟩

/-- What a way tells: its reasons, sorted, each once. -/
def RetY (ls : List Lk) (a b : Nat) (w : World) (e : Ending) (w' : World) : Prop := ∃ v p, e = .returned v ∧ OW w' w.heap.size v (risL (whyL ls p)) ∧ Wk ls b p a ∧ p.Nodup ∧ Below w.heap.size w w'

theorem whyL_snoc {ls : List Lk} {p : List Nat} {t : Nat} {l : Lk} (h : ls[t]? = some l) : whyL ls (p ++ [t]) = whyL ls p ++ [l.2.2] := by
  unfold whyL
  rw [List.map_append]
  simp [List.getD, h]

set_option maxHeartbeats 1000000 in
set_option maxRecDepth 100000 in
theorem reasons_any {w : World} {B G M n a b pa pb : Nat} {s : Gs} {L : Nat → Nat} (h : Gv w B G M s) (hN : Nl s) (hg : goF n id s.ls = some L) (hps : s.ps.length = n) (hn : n ≤ 1000) (hM : M ≤ 1048576) (hix : Ix s n) (ha : s.ps[a]? = some pa) (hb : s.ps[b]? = some pb) (hL : L a = L b) :
    Calls Try.prog 59 #[.pointer (some ⟨G, 0, none⟩), .pointer (some ⟨pa, 0, none⟩), .pointer (some ⟨pb, 0, none⟩)] w (RetY s.ls a b w) := by
  have HWF := kide (waysFrom_any h hN hg hps hn hM hix ha)
  have HH := kide h
  have HN := kide hN
  have HG := kide hg
  have HPS := kide hps
  have HA := kide ha
  have HB := kide hb
  have HL := kide hL
  clear h hN hg hps hix ha hb hL
  obtain ⟨N0, hN0⟩ : ∃ N0, w.heap.size = N0 := ⟨_, rfl⟩
  go_enter Try.func59, Try.ntmps59
  go_wp2_with fail
  refine Calls.mono HWF.out ?_
  rintro e w1 ⟨gc, came, rk, m, H, rfl, hcr, hgc, hb1, hcw⟩
  have HCR := kide hcr
  have HB1 := kide hb1
  have HCW := kide hcw
  have HIN := kide (hcw.all HG.out HL.out)
  have hgl : gc < w1.heap.size := lt_of_block hcr
  clear hcr hb1 hcw HWF
  go_wp2_with fail
  obtain ⟨N1, hN1⟩ : ∃ N1, w1.heap.size = N1 := ⟨_, rfl⟩
  have HN1 := kide hN1
  have HN0 := kide hN0
  rw [hN1] at hgl
  clear hN1 hN0 hgc
  go_loopg [8, 9] (rk b) (fun g q8 q9 wr => ∃ (v pv : Nat) (p : List Nat), Bk s.ls came rk b v p ∧ (v = a ∨ came v ≠ none) ∧ s.ps[v]? = some pv ∧ q9 = .pointer (some ⟨pv, 0, none⟩) ∧ OW wr N1 q8 (whyL s.ls p) ∧ Below N1 w1 wr ∧ rk v ≤ g ∧ p.length + rk v ≤ rk b)
  case atStart => exact ⟨b, pb, [], Bk.start _ _ _ _, HIN.out, HB.out, rfl, ⟨rfl, .inl ⟨rfl, rfl⟩⟩, by rw [← HN1.out]; exact Below.refl _ _, Nat.le_refl _, by simp⟩
  case round =>
    obtain ⟨v, pv, p, hbk, hvin, hpv, rfl, how, hbw, hrk, hpl⟩ := hrel
    have BK := kide hbk
    have PV := kide hpv
    have OWW := kide how
    have BW := kide hbw
    have hb2 : Below w.heap.size w wr := HB1.out.trans (hbw.mono (by have := HB1.out.size; rw [HN1.out] at this; exact this))
    have GV := kide (HH.out.later hb2)
    have hpl2 : p.length ≤ 1000 := by
      have h1 := HCW.out.rm b HIN.out
      have h2 := HCW.out.mm
      omega
    have BW2 := kide hb2
    clear hbk hpv how hbw hb2
    by_cases hva : v = a
    · subst hva
      have e0 : pv = pa := by have h1 := PV.out; rw [HA.out] at h1; injection h1 with h; exact h.symm
      subst e0
      have hnq := Gv.knq_same (w := wr) (p := pv)
      have hlen : (whyL s.ls p).length ≤ 1048576 := by unfold whyL; rw [List.length_map]; omega
      have HS := kide (sort_own wr N1 u8 _ OWW.out hlen)
      go_wp2_with fail
      refine Calls.mono HS.out ?_
      rintro e w3 ⟨rfl, ho3, hg3⟩
      have HC := kide (compact_own w3 N1 u8 _ ho3 (by rw [List.length_mergeSort]; exact hlen))
      have hz : w.heap.size ≤ N1 := by have := HB1.out.size; rw [HN1.out] at this; exact this
      have B3 : Hid (Below w.heap.size w w3) := Below.grown BW2.out hg3 BW2.out.size (fun j hj => Nat.le_trans hz (own_lt OWW.out hj).1)
      have O3 := kide ho3
      clear ho3 hg3
      go_wp2_with fail
      refine Calls.mono HC.out ?_
      rintro e w4 ⟨v4, rfl, ho4, hg4⟩
      have B4 : Hid (Below w.heap.size w w4) := Below.grown B3.out hg4 B3.out.size (fun j hj => Nat.le_trans hz (own_lt O3.out hj).1)
      have O4 := kide (own_low ho4 hz)
      clear ho4 hg4
      go_wp2_with fail
      go_ret
      exact ⟨v4, p, rfl, O4.out, BK.out.wk, BK.out.nd, B4.out⟩
    · have hne : pv ≠ pa := fun e => hva (GV.out.inj PV.out (by rw [e]; exact HA.out))
      have hnq := GV.out.knq_ne PV.out HA.out hne
      obtain ⟨t, hct⟩ : ∃ t, came v = some t := by
        rcases hvin with e | e
        · exact absurd e hva
        · cases q : came v with
          | none => exact absurd q e
          | some t => exact ⟨t, rfl⟩
      obtain ⟨u, ⟨l, hl, hle⟩, -⟩ := HCW.out.k1 v t hct
      have hends : Ends s.ls t v u := ⟨l, hl, hle⟩
      obtain ⟨hbk2, hrk2, huin⟩ := BK.out.step HCW.out hct hends
      have hvn : v < n := HCW.out.lt v t hct
      have htl : t < s.ts.length := by rw [HN.out.n]; exact (List.getElem?_eq_some_iff.1 hl).1
      obtain ⟨tb, htb⟩ : ∃ tb, s.ts[t]? = some tb := ⟨_, List.getElem?_eq_getElem htl⟩
      have etb : s.ts.getD t 0 = tb := by rw [List.getD, htb]; rfl
      have hrg : l.1.toNat < n ∧ l.2.1.toNat < n := by
        obtain ⟨L', -, hok, -⟩ := goF_at HG.out hl
        obtain ⟨q1, q2, -⟩ := lkOk_iff.1 hok
        omega
      have hun : u < n := by omega
      obtain ⟨pA, hpA⟩ : ∃ p, s.ps[l.1.toNat]? = some p := ⟨_, List.getElem?_eq_getElem (show _ < s.ps.length by rw [HPS.out]; exact hrg.1)⟩
      obtain ⟨pB, hpB⟩ : ∃ p, s.ps[l.2.1.toNat]? = some p := ⟨_, List.getElem?_eq_getElem (show _ < s.ps.length by rw [HPS.out]; exact hrg.2)⟩
      obtain ⟨pu, hpu⟩ : ∃ p, s.ps[u]? = some p := ⟨_, List.getElem?_eq_getElem (show _ < s.ps.length by rw [HPS.out]; exact hun)⟩
      have hoth : (if pA = pv then pB else pA) = pu := by
        rcases hle with ⟨e1, e2⟩ | ⟨e1, e2⟩
        · have e3 : pA = pv := by rw [e1, PV.out] at hpA; injection hpA with h; exact h.symm
          have e4 : pB = pu := by rw [e2, hpu] at hpB; injection hpB with h; exact h.symm
          rw [if_pos e3, e4]
        · have e3 : pA = pu := by rw [e2, hpu] at hpA; injection hpA with h; exact h.symm
          have e4 : pB = pv := by rw [e1, PV.out] at hpB; injection hpB with h; exact h.symm
          by_cases q : pA = pv
          · rw [if_pos q, e4, ← q, e3]
          · rw [if_neg q, e3]
      have HOT : Hid (∀ x, Gv x B G M s → Calls Try.prog 72 #[.pointer (some ⟨tb, 0, none⟩), .pointer (some ⟨pv, 0, none⟩)] x fun e w' => e = .returned (.pointer (some ⟨pu, 0, none⟩)) ∧ w' = x) := fun x hx => by
        obtain ⟨-, f, htie⟩ := hx.ti t tb l htb hl
        rw [show s.ps.getD l.1.toNat 0 = pA by rw [List.getD, hpA]; rfl, show s.ps.getD l.2.1.toNat 0 = pB by rw [List.getD, hpB]; rfl] at htie
        have heq : (binOp .eql 70 (.pointer (some ⟨pA, 0, none⟩)) (.pointer (some ⟨pv, 0, none⟩))).run Try.prog x = .ok (.bool (decide (pA = pv))) x := by
          by_cases q : pA = pv
          · subst q
            rw [hx.ptr_same hpA]; simp
          · rw [hx.ptr_ne hpA PV.out q, decide_eq_false q]
        have := other_any tb pv pA pB _ f x htie heq
        rwa [hoth] at this
      obtain ⟨-, f, htie⟩ := GV.out.ti t tb l htb hl
      have c0 : wr.cell? ⟨pv, 0, none⟩ = some (.int .i64 (v : Int)) := (GV.out.get PV.out).1
      have hcr : wr.heap[gc]? = some (.cells (cmA s.ts came n) 85 (0, 0)) := by rw [BW.out.block gc hgl]; exact HCR.out
      have c1 : wr.cell? ⟨gc, v, none⟩ = some (.pointer (some ⟨tb, 0, none⟩)) := by rw [cell_of hcr, cmA_get _ _ hvn, hct, ← etb]; rfl
      have c2 : wr.cell? ⟨tb, 2, none⟩ = some (.int .i64 l.2.2) := by rw [cell_of htie]; rfl
      have i0 : (v : Int) < (n : Int) := by omega
      have BK2 := kide hbk2
      have PU := kide hpu
      have HLT := kide hl
      have hlen : (whyL s.ls p).length ≤ 1073741824 := by unfold whyL; rw [List.length_map]; omega
      obtain ⟨ly, hly⟩ : ∃ ly, l.2.2 = ly := ⟨_, rfl⟩
      rw [hly] at c2
      have HLY := kide hly
      have CWV := kide hct
      clear hbk2 hpu hl hle hends hct htl htb etb hrg hpA hpB hoth htie hcr hly
      have hzr : N1 ≤ wr.heap.size := by have := BW.out.size; rw [HN1.out] at this; exact this
      have hba : Hid (Below wr.heap.size wr (wr.alloc (Obj.cells #[Value.int .i64 ly] 2))) := (Below.refl _ _).alloc (Nat.le_refl _) _
      have O2 : Hid (OW (wr.alloc (Obj.cells #[Value.int .i64 ly] 2)) N1 u8 (whyL s.ls p)) := own_later OWW.out hba.out
      go_wp2_with (at_builtin; refine wpList_appW rfl _ _ rfl N1 _ (whyL s.ls p) ly rfl O2.out _ rfl (by simp) hlen (by simp; omega) ?_)
      intro v3 w3 ho3 hg3
      have B3 : Hid (Below N1 w1 w3) := Below.grown (BW.out.trans (hba.out.mono hzr)) hg3 (Nat.le_trans hzr hba.out.size) (fun j hj => (own_lt O2.out hj).1)
      have O3 : Hid (OW w3 N1 v3 (whyL s.ls (p ++ [t]))) := by
        rw [whyL_snoc HLT.out, HLY.out]
        exact ho3
      have hz0 : w.heap.size ≤ N1 := by have := HB1.out.size; rw [HN1.out] at this; exact this
      have G3 := kide (HH.out.later (HB1.out.trans (B3.out.mono hz0)))
      have hcr3 : w3.heap[gc]? = some (.cells (cmA s.ts came n) 85 (0, 0)) := by rw [B3.out.block gc hgl]; exact HCR.out
      have d0 : w3.cell? ⟨pv, 0, none⟩ = some (.int .i64 (v : Int)) := (G3.out.get PV.out).1
      have d1 : w3.cell? ⟨gc, v, none⟩ = some (.pointer (some ⟨tb, 0, none⟩)) := by rw [cell_of hcr3, ← cell_of (w := w1) (o := v) HCR.out, ← BW.out.cell (p := ⟨gc, v, none⟩) hgl]; exact c1
      have PL3 : Hid ((p ++ [t]).length + rk u ≤ rk b) := by
        show _ ≤ _
        rw [List.length_append]
        simp only [List.length_cons, List.length_nil]
        omega
      have HO2 := kide (HOT.out w3 G3.out)
      clear ho3 hg3 hcr3 c0 c1 c2 O2 hba GV BK BW BW2 OWW hnq
      go_wp2_with fail
      refine Calls.mono HO2.out ?_
      rintro e w4 ⟨rfl, hw4⟩
      obtain rfl := hw4.symm
      go_wp2_with fail
      go_roundg (rk u)
      case measure => omega
      case rel => exact ⟨u, pu, p ++ [t], BK2.out, huin, PU.out, rfl, O3.out, B3.out, Nat.le_refl _, PL3.out⟩

end Go.Proofs.Ytakicdlfolhhcaa
