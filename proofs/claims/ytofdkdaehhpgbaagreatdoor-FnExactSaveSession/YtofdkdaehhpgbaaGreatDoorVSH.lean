/- The writer that SaveSession fills: literals, scopes, a session. -/
import Derived.Test.YtofdkdaehhpgbaaGreatDoorVSG
namespace Go.Proofs.YtofdkdaehhpgbaaGreatDoor
set_option linter.unusedVariables false
set_option linter.unusedSimpArgs false
open Go.RowKit

theorem term_map (l : List Tg) : termB (l.map Tg.ct) = numB l.length ++ l.flatMap nodeG := by
  unfold termB
  rw [List.length_map, List.flatMap_map]
  rfl
set_option maxHeartbeats 1000000 in
theorem lit_any (G : Nat) (id : Int) (eq : Bool) (sa ta : Option Addr) (sn sc tn tc : Nat) (ss ts : List Tg) (st : Option (List Nat)) (w0 w : World) (h : Wst G st w) (hb : Below w0.heap.size w0 w) (hG : w0.heap.size ≤ G) (hid : in64 id) (hs : RdT w0 sa ss) (hsn : ss.length = sn) (hso : ∀ x ∈ ss, okN x.ct) (ht : RdT w0 ta ts) (htn : ts.length = tn) (hto : ∀ x ∈ ts, okN x.ct) :
    Calls Tryz.prog 95 #[.pointer (some ⟨G + 1, 0, none⟩), .agg #[.int .i64 id, .bool eq, .slice sa sn sc, .slice ta tn tc]] w (RetW G (putS st (numB id ++ (flagB eq ++ (numB sn ++ ss.flatMap nodeG ++ (numB tn ++ ts.flatMap nodeG))))) w) := by
  have hbx : Below w.heap.size w (w.alloc (.cells #[Value.int .i64 id, Value.bool eq, Value.slice sa sn sc, Value.slice ta tn tc] 68)) := (Below.refl _ _).alloc (Nat.le_refl _) _
  have X0 := kide (Bz.new w #[Value.int .i64 id, Value.bool eq, Value.slice sa sn sc, Value.slice ta tn tc] 68)
  have HLT := kide h.lt
  have W0 := kide (h.later hbx)
  have O0 := kide (outB (B1 := G) (B2 := G + 2) hbx)
  have B0 := kide (hb.trans (hbx.mono hb.size))
  have HHG := kide hG
  rw [← putS_two, ← putS_two, ← putS_two]
  clear h hb hbx hG
  have HSN := kide hsn
  have HTN := kide htn
  have HS := kide hs
  have HT := kide ht
  clear hsn htn hs ht
  go_enter Tryz.func95, Tryz.ntmps95
  have HC0 := kide (number_any G id _ _ W0.out hid)
  go_wp2_with fail
  generalize (w.alloc (.cells #[Value.int .i64 id, Value.bool eq, Value.slice sa sn sc, Value.slice ta tn tc] 68)) = u0 at *
  refine Calls.mono HC0.out ?_
  rintro e u1 ⟨rfl, h1, h2⟩
  have X1 := kide (X0.out.outs h2 (.inr HLT.out))
  have W1 := kide h1
  have O1 := kide (O0.out.trans h2)
  have B1 := kide (stay B0.out h2 HHG.out)
  clear h1 h2 HC0 X0 W0 O0 B0
  have HC1 := kide (flag_any G eq _ _ W1.out)
  have x1 := X1.out.cell 1
  simp at x1
  go_wp2_with fail
  clear x1
  refine Calls.mono HC1.out ?_
  rintro e u2 ⟨rfl, h1, h2⟩
  have X2 := kide (X1.out.outs h2 (.inr HLT.out))
  have W2 := kide h1
  have O2 := kide (O1.out.trans h2)
  have B2 := kide (stay B1.out h2 HHG.out)
  clear h1 h2 HC1 X1 W1 O1 B1
  have HC2 := kide (wlNode_any G sn sc sa ss _ w0 _ W2.out B2.out HHG.out HS.out HSN.out hso)
  have x2 := X2.out.cell 2
  simp at x2
  go_wp2_with fail
  clear x2
  refine Calls.mono HC2.out ?_
  rintro e u3 ⟨rfl, h1, h2⟩
  have X3 := kide (X2.out.outs h2 (.inr HLT.out))
  have W3 := kide h1
  have O3 := kide (O2.out.trans h2)
  have B3 := kide (stay B2.out h2 HHG.out)
  clear h1 h2 HC2 X2 W2 O2 B2
  have HC3 := kide (wlNode_any G tn tc ta ts _ w0 _ W3.out B3.out HHG.out HT.out HTN.out hto)
  have x3 := X3.out.cell 3
  simp at x3
  go_wp2_with fail
  clear x3
  refine Calls.mono HC3.out ?_
  rintro e u4 ⟨rfl, h1, h2⟩
  have X4 := kide (X3.out.outs h2 (.inr HLT.out))
  have W4 := kide h1
  have O4 := kide (O3.out.trans h2)
  have B4 := kide (stay B3.out h2 HHG.out)
  clear h1 h2 HC3 X3 W3 O3 B3
  go_wp2_with fail
  exact bodyPost_end (v := .tuple #[]) (by simp [results, Tryz.results95, go_sem]) rfl ⟨rfl, W4.out, O4.out⟩

def litG (x : Lg) : List Nat := litB x.ct
def okL (x : Lg) : Prop := (∀ y ∈ x.ss, okN y.ct) ∧ ∀ y ∈ x.ts, okN y.ct
theorem litX_any (G : Nat) (x : Lg) (st : Option (List Nat)) (w0 w : World) (h : Wst G st w) (hb : Below w0.heap.size w0 w) (hG : w0.heap.size ≤ G) (hid : in64 x.id) (hs : RdT w0 x.sa x.ss) (ht : RdT w0 x.ta x.ts) (hok : okL x) :
    Calls Tryz.prog 95 #[.pointer (some ⟨G + 1, 0, none⟩), .agg #[Value.int .i64 x.id, Value.bool x.eq, Value.slice x.sa x.ss.length x.sc, Value.slice x.ta x.ts.length x.tc]] w (RetW G (putS st (litG x)) w) := by
  have e : litG x = numB x.id ++ (flagB x.eq ++ ((numB x.ss.length ++ x.ss.flatMap nodeG) ++ (numB x.ts.length ++ x.ts.flatMap nodeG))) := by
    unfold litG litB Lg.ct
    rw [term_map, term_map]
  rw [e]
  exact lit_any G x.id x.eq x.sa x.ta x.ss.length x.sc x.ts.length x.tc x.ss x.ts st w0 w h hb hG hid hs rfl hok.1 ht rfl hok.2
set_option maxHeartbeats 1000000 in
theorem wlLit_any (G n c : Nat) (a : Option Addr) (l : List Lg) (st : Option (List Nat)) (w0 w : World) (h : Wst G st w) (hb : Below w0.heap.size w0 w) (hG : w0.heap.size ≤ G) (hr : RdL w0 a l) (hn : l.length = n) (hok : ∀ x ∈ l, okL x) :
    Calls Tryz.prog 94 #[.pointer (some ⟨G + 1, 0, none⟩), .slice a n c, .func (.func 95) #[] #[]] w (RetW G (putS st (numB n ++ l.flatMap litG)) w) := by
  have hlen : n ≤ 1048576 := by rw [← hn]; exact hr.1
  have HN := kide (number_any G (n : Int) st w h ⟨by omega, by omega⟩)
  have HR := kide (fun u (hu : Below w0.heap.size w0 u) => hr.later hu)
  have HB0 := kide hb
  have HNL := kide hn
  have HHG := kide hG
  obtain ⟨R, hR⟩ : ∃ R, putS st (numB n ++ l.flatMap litG) = R := ⟨_, rfl⟩
  rw [hR]
  have HRR := kide hR
  clear h hb hr hn hR hG
  go_enter Tryz.func94, Tryz.ntmps94
  go_wp2_with fail
  refine Calls.mono HN.out ?_
  rintro e w1 ⟨rfl, h1, h2⟩
  have W1 := kide h1
  have O1 := kide h2
  clear h1 h2 HN
  go_wp2_with fail
  go_loopw [14] (fun i wr => ∃ k : Nat, k ≤ n ∧ i = .int .i64 (k : Int) ∧ Wst G (putS st (numB n ++ (l.take k).flatMap litG)) wr ∧ Out G (G + 2) w wr) (fun i _ => n - (intOf i).toNat)
  case atStart => exact ⟨0, Nat.zero_le _, rfl, by simpa using W1.out, O1.out⟩
  case round =>
    obtain ⟨k, hk, rfl, hw, ho⟩ := hrel
    have HW := kide hw
    have HO := kide ho
    have BW := kide (stay HB0.out ho HHG.out)
    by_cases hlt : k < n
    · obtain ⟨x, gx⟩ : ∃ y, l[k]? = some y := ⟨l[k]'(by rw [HNL.out]; exact hlt), List.getElem?_eq_getElem _⟩
      have HX := kide (List.mem_of_getElem? gx)
      have HST : Hid ((l.take (k + 1)).flatMap litG = (l.take k).flatMap litG ++ litG x) := by
        show _ = _
        rw [List.take_add_one, gx, List.flatMap_append]
        simp
      have HSA : Hid (l.flatMap litG = (l.take k).flatMap litG ++ (l.drop k).flatMap litG) := by
        show _ = _
        rw [← List.flatMap_append, List.take_append_drop]
      obtain ⟨-, hnil | ⟨b, o, ea, hcell⟩⟩ := HR.out w0 (Below.refl _ _)
      · have := HNL.out; rw [hnil] at this; simp at this; omega
      obtain ⟨-, hw1, hw2, i1⟩ := hcell k x gx
      subst ea
      obtain ⟨-, hnil | ⟨b', o', ea, hcell2⟩⟩ := HR.out wr BW.out
      · have := HNL.out; rw [hnil] at this; simp at this; omega
      cases ea
      obtain ⟨⟨p0, p1, p2, p3⟩, -⟩ := hcell2 k x gx
      have HOKX := kide (hok x HX.out)
      clear hcell hcell2
      have hGl : G + 1 < wr.heap.size := hw.lt
      obtain ⟨p, code, buf, q1, -, -, -, q5⟩ := hw
      have c2 := q1.cell 2
      simp at c2
      have i0 : (k : Int) < (n : Int) := by omega
      have hbx : Below wr.heap.size wr (wr.alloc (.cells #[Value.int .i64 x.id, Value.bool x.eq, Value.slice x.sa x.ss.length x.sc, Value.slice x.ta x.ts.length x.tc] 68)) := (Below.refl _ _).alloc (Nat.le_refl _) _
      have HBX := kide hbx
      have WX := kide (HW.out.later hbx)
      have BX := kide (BW.out.trans (hbx.mono BW.out.size))
      clear hbx
      have HC := kide (litX_any G x _ w0 _ WX.out BX.out HHG.out i1 hw1 hw2 HOKX.out)
      rcases q5 with ⟨hq, rfl⟩ | ⟨bs, hq, rfl, -⟩
      · have HZ : Hid (R = none) := by
          show _ = _
          rw [← HRR.out, HSA.out, ← List.append_assoc, ← putS_two, hq]
          rfl
        have HQ := kide hq
        clear q1 gx ho hq HC
        go_wp2_with fail
        rw [HQ.out] at HW
        exact bodyPost_ret (v := .tuple #[]) (by simp [results, Tryz.results94, go_sem]) rfl (by rw [HZ.out]; exact ⟨rfl, HW.out.later HBX.out, HO.out.trans (outB HBX.out)⟩)
      · clear q1 gx ho hq
        go_wp2_with fail
        refine Calls.mono HC.out ?_
        rintro e w2 ⟨rfl, h1, h2⟩
        have W2 : Hid (Wst G (putS st (numB n ++ (l.take (k + 1)).flatMap litG)) w2) := by
          show Wst _ _ _
          rw [HST.out, ← List.append_assoc, ← putS_two]
          exact h1
        have O2 : Hid (Out G (G + 2) w w2) := (HO.out.trans (outB HBX.out)).trans h2
        clear h1 h2 HC
        go_wp2_with fail
        go_roundw
        case rel => exact ⟨k + 1, by omega, by go_num, W2.out, O2.out⟩
        case measure => simp [intOf]; omega
    · obtain rfl : k = n := by omega
      have W2 : Hid (Wst G R wr) := by
        show Wst _ _ _
        rw [← HRR.out, ← List.take_length (l := l), HNL.out]
        exact hw
      clear hw ho
      go_wp2_with fail
      exact bodyPost_end (v := .tuple #[]) (by simp [results, Tryz.results94, go_sem]) rfl ⟨rfl, W2.out, HO.out⟩

set_option maxHeartbeats 1000000 in
theorem scp_any (G : Nat) (d : Int) (la : Option Addr) (ln lc : Nat) (ls : List Lg) (st : Option (List Nat)) (w0 w : World) (h : Wst G st w) (hb : Below w0.heap.size w0 w) (hG : w0.heap.size ≤ G) (hd : in64 d) (hs : RdL w0 la ls) (hsn : ls.length = ln) (hso : ∀ x ∈ ls, okL x) :
    Calls Tryz.prog 74 #[.pointer (some ⟨G + 1, 0, none⟩), .agg #[.int .i64 d, .slice la ln lc]] w (RetW G (putS st (numB d ++ (numB ln ++ ls.flatMap litG))) w) := by
  have hbx : Below w.heap.size w (w.alloc (.cells #[Value.int .i64 d, Value.slice la ln lc] 63)) := (Below.refl _ _).alloc (Nat.le_refl _) _
  have X0 := kide (Bz.new w #[Value.int .i64 d, Value.slice la ln lc] 63)
  have HLT := kide h.lt
  have W0 := kide (h.later hbx)
  have O0 := kide (outB (B1 := G) (B2 := G + 2) hbx)
  have B0 := kide (hb.trans (hbx.mono hb.size))
  have HHG := kide hG
  rw [← putS_two]
  clear h hb hbx hG
  have HSN := kide hsn
  have HS := kide hs
  clear hsn hs
  go_enter Tryz.func74, Tryz.ntmps74
  have HC0 := kide (number_any G d _ _ W0.out hd)
  go_wp2_with fail
  generalize (w.alloc (.cells #[Value.int .i64 d, Value.slice la ln lc] 63)) = u0 at *
  refine Calls.mono HC0.out ?_
  rintro e u1 ⟨rfl, h1, h2⟩
  have X1 := kide (X0.out.outs h2 (.inr HLT.out))
  have W1 := kide h1
  have O1 := kide (O0.out.trans h2)
  have B1 := kide (stay B0.out h2 HHG.out)
  clear h1 h2 HC0 X0 W0 O0 B0
  have HC1 := kide (wlLit_any G ln lc la ls _ w0 _ W1.out B1.out HHG.out HS.out HSN.out hso)
  have x1 := X1.out.cell 1
  simp at x1
  go_wp2_with fail
  clear x1
  refine Calls.mono HC1.out ?_
  rintro e u2 ⟨rfl, h1, h2⟩
  have X2 := kide (X1.out.outs h2 (.inr HLT.out))
  have W2 := kide h1
  have O2 := kide (O1.out.trans h2)
  have B2 := kide (stay B1.out h2 HHG.out)
  clear h1 h2 HC1 X1 W1 O1 B1
  go_wp2_with fail
  exact bodyPost_end (v := .tuple #[]) (by simp [results, Tryz.results74, go_sem]) rfl ⟨rfl, W2.out, O2.out⟩

def scpG (x : Sg) : List Nat := scpB x.ct
theorem lits_map (l : List Lg) : litsB (l.map Lg.ct) = numB l.length ++ l.flatMap litG := by
  unfold litsB
  rw [List.length_map, List.flatMap_map]
  rfl
theorem scpX_any (G : Nat) (x : Sg) (st : Option (List Nat)) (w0 w : World) (h : Wst G st w) (hb : Below w0.heap.size w0 w) (hG : w0.heap.size ≤ G) (hd : in64 x.d) (hs : RdL w0 x.la x.ls) (hok : ∀ y ∈ x.ls, okL y) :
    Calls Tryz.prog 74 #[.pointer (some ⟨G + 1, 0, none⟩), .agg #[Value.int .i64 x.d, Value.slice x.la x.ls.length x.lc]] w (RetW G (putS st (scpG x)) w) := by
  have e : scpG x = numB x.d ++ (numB x.ls.length ++ x.ls.flatMap litG) := by
    unfold scpG scpB Sg.ct
    rw [lits_map]
  rw [e]
  exact scp_any G x.d x.la x.ls.length x.lc x.ls st w0 w h hb hG hd hs rfl hok
set_option maxHeartbeats 1000000 in
theorem wlScp_any (G n c : Nat) (a : Option Addr) (l : List Sg) (st : Option (List Nat)) (w0 w : World) (h : Wst G st w) (hb : Below w0.heap.size w0 w) (hG : w0.heap.size ≤ G) (hr : RdS w0 a l) (hn : l.length = n) (hok : ∀ x ∈ l, ∀ y ∈ x.ls, okL y) :
    Calls Tryz.prog 73 #[.pointer (some ⟨G + 1, 0, none⟩), .slice a n c, .func (.func 74) #[] #[]] w (RetW G (putS st (numB n ++ l.flatMap scpG)) w) := by
  have hlen : n ≤ 1048576 := by rw [← hn]; exact hr.1
  have HN := kide (number_any G (n : Int) st w h ⟨by omega, by omega⟩)
  have HR := kide (fun u (hu : Below w0.heap.size w0 u) => hr.later hu)
  have HB0 := kide hb
  have HNL := kide hn
  have HHG := kide hG
  obtain ⟨R, hR⟩ : ∃ R, putS st (numB n ++ l.flatMap scpG) = R := ⟨_, rfl⟩
  rw [hR]
  have HRR := kide hR
  clear h hb hr hn hR hG
  go_enter Tryz.func73, Tryz.ntmps73
  go_wp2_with fail
  refine Calls.mono HN.out ?_
  rintro e w1 ⟨rfl, h1, h2⟩
  have W1 := kide h1
  have O1 := kide h2
  clear h1 h2 HN
  go_wp2_with fail
  go_loopw [14] (fun i wr => ∃ k : Nat, k ≤ n ∧ i = .int .i64 (k : Int) ∧ Wst G (putS st (numB n ++ (l.take k).flatMap scpG)) wr ∧ Out G (G + 2) w wr) (fun i _ => n - (intOf i).toNat)
  case atStart => exact ⟨0, Nat.zero_le _, rfl, by simpa using W1.out, O1.out⟩
  case round =>
    obtain ⟨k, hk, rfl, hw, ho⟩ := hrel
    have HW := kide hw
    have HO := kide ho
    have BW := kide (stay HB0.out ho HHG.out)
    by_cases hlt : k < n
    · obtain ⟨x, gx⟩ : ∃ y, l[k]? = some y := ⟨l[k]'(by rw [HNL.out]; exact hlt), List.getElem?_eq_getElem _⟩
      have HX := kide (List.mem_of_getElem? gx)
      have HST : Hid ((l.take (k + 1)).flatMap scpG = (l.take k).flatMap scpG ++ scpG x) := by
        show _ = _
        rw [List.take_add_one, gx, List.flatMap_append]
        simp
      have HSA : Hid (l.flatMap scpG = (l.take k).flatMap scpG ++ (l.drop k).flatMap scpG) := by
        show _ = _
        rw [← List.flatMap_append, List.take_append_drop]
      obtain ⟨-, hnil | ⟨b, o, ea, hcell⟩⟩ := HR.out w0 (Below.refl _ _)
      · have := HNL.out; rw [hnil] at this; simp at this; omega
      obtain ⟨-, hw1, i1⟩ := hcell k x gx
      subst ea
      obtain ⟨-, hnil | ⟨b', o', ea, hcell2⟩⟩ := HR.out wr BW.out
      · have := HNL.out; rw [hnil] at this; simp at this; omega
      cases ea
      obtain ⟨⟨p0, p1⟩, -⟩ := hcell2 k x gx
      have HOKX := kide (hok x HX.out)
      clear hcell hcell2
      have hGl : G + 1 < wr.heap.size := hw.lt
      obtain ⟨p, code, buf, q1, -, -, -, q5⟩ := hw
      have c2 := q1.cell 2
      simp at c2
      have i0 : (k : Int) < (n : Int) := by omega
      have hbx : Below wr.heap.size wr (wr.alloc (.cells #[Value.int .i64 x.d, Value.slice x.la x.ls.length x.lc] 63)) := (Below.refl _ _).alloc (Nat.le_refl _) _
      have HBX := kide hbx
      have WX := kide (HW.out.later hbx)
      have BX := kide (BW.out.trans (hbx.mono BW.out.size))
      clear hbx
      have HC := kide (scpX_any G x _ w0 _ WX.out BX.out HHG.out i1 hw1 HOKX.out)
      rcases q5 with ⟨hq, rfl⟩ | ⟨bs, hq, rfl, -⟩
      · have HZ : Hid (R = none) := by
          show _ = _
          rw [← HRR.out, HSA.out, ← List.append_assoc, ← putS_two, hq]
          rfl
        have HQ := kide hq
        clear q1 gx ho hq HC
        go_wp2_with fail
        rw [HQ.out] at HW
        exact bodyPost_ret (v := .tuple #[]) (by simp [results, Tryz.results73, go_sem]) rfl (by rw [HZ.out]; exact ⟨rfl, HW.out.later HBX.out, HO.out.trans (outB HBX.out)⟩)
      · clear q1 gx ho hq
        go_wp2_with fail
        refine Calls.mono HC.out ?_
        rintro e w2 ⟨rfl, h1, h2⟩
        have W2 : Hid (Wst G (putS st (numB n ++ (l.take (k + 1)).flatMap scpG)) w2) := by
          show Wst _ _ _
          rw [HST.out, ← List.append_assoc, ← putS_two]
          exact h1
        have O2 : Hid (Out G (G + 2) w w2) := (HO.out.trans (outB HBX.out)).trans h2
        clear h1 h2 HC
        go_wp2_with fail
        go_roundw
        case rel => exact ⟨k + 1, by omega, by go_num, W2.out, O2.out⟩
        case measure => simp [intOf]; omega
    · obtain rfl : k = n := by omega
      have W2 : Hid (Wst G R wr) := by
        show Wst _ _ _
        rw [← HRR.out, ← List.take_length (l := l), HNL.out]
        exact hw
      clear hw ho
      go_wp2_with fail
      exact bodyPost_end (v := .tuple #[]) (by simp [results, Tryz.results73, go_sem]) rfl ⟨rfl, W2.out, HO.out⟩

set_option maxHeartbeats 1000000 in
theorem ses_any (G : Nat) (da sa : Option Addr) (dn dc n sc : Nat) (nx : Int) (ds : List Dc) (xs : List Sg) (st : Option (List Nat)) (w0 w : World) (h : Wst G st w) (hb : Below w0.heap.size w0 w) (hG : w0.heap.size ≤ G) (hx : in64 nx) (hd : RdD w0 da ds) (hdn : ds.length = dn) (hdo : ∀ x ∈ ds, x.1.size ≤ 1048576) (hs : RdS w0 sa xs) (hsn : xs.length = n) (hso : ∀ x ∈ xs, ∀ y ∈ x.ls, okL y) :
    Calls Tryz.prog 40 #[.pointer (some ⟨G + 1, 0, none⟩), .agg #[.slice da dn dc, .slice sa n sc, .int .i64 nx]] w (RetW G (putS st (numB nx ++ (numB dn ++ ds.flatMap dclB ++ (numB n ++ xs.flatMap scpG)))) w) := by
  have hbx : Below w.heap.size w (w.alloc (.cells #[Value.slice da dn dc, Value.slice sa n sc, Value.int .i64 nx] 30)) := (Below.refl _ _).alloc (Nat.le_refl _) _
  have X0 := kide (Bz.new w #[Value.slice da dn dc, Value.slice sa n sc, Value.int .i64 nx] 30)
  have HLT := kide h.lt
  have W0 := kide (h.later hbx)
  have O0 := kide (outB (B1 := G) (B2 := G + 2) hbx)
  have B0 := kide (hb.trans (hbx.mono hb.size))
  have HHG := kide hG
  rw [← putS_two, ← putS_two]
  clear h hb hbx hG
  have HDN := kide hdn
  have HSN := kide hsn
  have HS := kide hs
  have HD := kide hd
  clear hsn hs hdn hd
  go_enter Tryz.func40, Tryz.ntmps40
  have HC0 := kide (number_any G nx _ _ W0.out hx)
  go_wp2_with fail
  generalize (w.alloc (.cells #[Value.slice da dn dc, Value.slice sa n sc, Value.int .i64 nx] 30)) = u0 at *
  refine Calls.mono HC0.out ?_
  rintro e u1 ⟨rfl, h1, h2⟩
  have X1 := kide (X0.out.outs h2 (.inr HLT.out))
  have W1 := kide h1
  have O1 := kide (O0.out.trans h2)
  have B1 := kide (stay B0.out h2 HHG.out)
  clear h1 h2 HC0 X0 W0 O0 B0
  have HC1 := kide (wlDecl_any G dn dc da ds _ w0 _ W1.out B1.out HHG.out HD.out HDN.out hdo)
  have x0 := X1.out.cell 0
  simp at x0
  go_wp2_with fail
  clear x0
  refine Calls.mono HC1.out ?_
  rintro e u2 ⟨rfl, h1, h2⟩
  have X2 := kide (X1.out.outs h2 (.inr HLT.out))
  have W2 := kide h1
  have O2 := kide (O1.out.trans h2)
  have B2 := kide (stay B1.out h2 HHG.out)
  clear h1 h2 HC1 X1 W1 O1 B1
  have HC2 := kide (wlScp_any G n sc sa xs _ w0 _ W2.out B2.out HHG.out HS.out HSN.out hso)
  have x1 := X2.out.cell 1
  simp at x1
  go_wp2_with fail
  clear x1
  refine Calls.mono HC2.out ?_
  rintro e u3 ⟨rfl, h1, h2⟩
  have X3 := kide (X2.out.outs h2 (.inr HLT.out))
  have W3 := kide h1
  have O3 := kide (O2.out.trans h2)
  have B3 := kide (stay B2.out h2 HHG.out)
  clear h1 h2 HC2 X2 W2 O2 B2
  go_wp2_with fail
  exact bodyPost_end (v := .tuple #[]) (by simp [results, Tryz.results40, go_sem]) rfl ⟨rfl, W3.out, O3.out⟩


end Go.Proofs.YtofdkdaehhpgbaaGreatDoor
