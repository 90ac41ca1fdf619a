/- The writer that SaveSession fills: nodes. -/
import Derived.Test.YtofdkdaehhpgbaaGreatDoorVSF
namespace Go.Proofs.YtofdkdaehhpgbaaGreatDoor
set_option linter.unusedVariables false
set_option linter.unusedSimpArgs false
open Go.RowKit

set_option maxHeartbeats 1000000 in
theorem node_any (G : Nat) (op vr na nb : Int) (K wn wc kn kc : Nat) (wa ka : Option Addr) (ws : List Nat) (ks : List Int) (st : Option (List Nat)) (w0 w : World) (h : Wst G st w) (hb : Below w0.heap.size w0 w) (hG : w0.heap.size ≤ G)
    (h1 : in64 op) (h2 : in64 vr) (h3 : in64 na) (h4 : in64 nb) (hK : K ≤ 4096) (hr : Rd w0 wa ws) (hwn : ws.length = wn) (hl : wn = (K + 63) / 64) (hk : RdI w0 ka ks) (hkn : ks.length = kn) :
    Calls Tryz.prog 112 #[.pointer (some ⟨G + 1, 0, none⟩), .agg #[Value.int .i64 op, Value.int .i64 vr, Value.int .i64 na, Value.int .i64 nb, Value.int .i64 (K : Int), Value.slice wa wn wc, Value.slice ka kn kc]] w (RetW G (putS st (nodeB ⟨op, vr, na, nb, (K : Int), ws, ks⟩)) w) := by
  have hbx : Below w.heap.size w (w.alloc (.cells #[Value.int .i64 op, Value.int .i64 vr, Value.int .i64 na, Value.int .i64 nb, Value.int .i64 (K : Int), Value.slice wa wn wc, Value.slice ka kn kc] 108)) := (Below.refl _ _).alloc (Nat.le_refl _) _
  have hby : Below (w.alloc (.cells #[Value.int .i64 op, Value.int .i64 vr, Value.int .i64 na, Value.int .i64 nb, Value.int .i64 (K : Int), Value.slice wa wn wc, Value.slice ka kn kc] 108)).heap.size (w.alloc (.cells #[Value.int .i64 op, Value.int .i64 vr, Value.int .i64 na, Value.int .i64 nb, Value.int .i64 (K : Int), Value.slice wa wn wc, Value.slice ka kn kc] 108)) ((w.alloc (.cells #[Value.int .i64 op, Value.int .i64 vr, Value.int .i64 na, Value.int .i64 nb, Value.int .i64 (K : Int), Value.slice wa wn wc, Value.slice ka kn kc] 108)).alloc (.cells #[Value.int .i64 op, Value.int .i64 vr, Value.int .i64 na, Value.int .i64 nb] 2)) := (Below.refl _ _).alloc (Nat.le_refl _) _
  have X0 := kide ((Bz.new w #[Value.int .i64 op, Value.int .i64 vr, Value.int .i64 na, Value.int .i64 nb, Value.int .i64 (K : Int), Value.slice wa wn wc, Value.slice ka kn kc] 108).later hby)
  have Y0 := kide (Bz.new (w.alloc (.cells #[Value.int .i64 op, Value.int .i64 vr, Value.int .i64 na, Value.int .i64 nb, Value.int .i64 (K : Int), Value.slice wa wn wc, Value.slice ka kn kc] 108)) #[Value.int .i64 op, Value.int .i64 vr, Value.int .i64 na, Value.int .i64 nb] 2)
  have hz : (w.alloc (.cells #[Value.int .i64 op, Value.int .i64 vr, Value.int .i64 na, Value.int .i64 nb, Value.int .i64 (K : Int), Value.slice wa wn wc, Value.slice ka kn kc] 108)).heap.size = w.heap.size + 1 := by simp
  rw [hz] at Y0
  have HLT := kide h.lt
  have W0 := kide ((h.later hbx).later hby)
  have O0 := kide ((outB (B1 := G) (B2 := G + 2) hbx).trans (outB hby))
  have B0 := kide ((hb.trans (hbx.mono hb.size)).trans (hby.mono (hb.trans (hbx.mono hb.size)).size))
  have HHG := kide hG
  have HBI := kide (fun u st' (hu : Below w0.heap.size w0 u) (hw : Wst G st' u) => bits_any G K wn wc wa ws st' w0 u hw hK hu hG hr hwn hl)
  have HKI := kide (fun u st' (hu : Below w0.heap.size w0 u) (hw : Wst G st' u) => wlKid_any G kn kc ka ks st' w0 u hw hu hG hk hkn)
  have HNK := kide hkn
  have HNM : Hid (∀ (k : Nat) (x : Int), [op, vr, na, nb][k]? = some x → in64 x ∧ #[Value.int .i64 op, Value.int .i64 vr, Value.int .i64 na, Value.int .i64 nb][k]? = some (.int .i64 x)) := fun k x hx => by
    match k, hx with
    | 0, hx => simp at hx; subst hx; exact ⟨h1, rfl⟩
    | 1, hx => simp at hx; subst hx; exact ⟨h2, rfl⟩
    | 2, hx => simp at hx; subst hx; exact ⟨h3, rfl⟩
    | 3, hx => simp at hx; subst hx; exact ⟨h4, rfl⟩
    | k + 4, hx => simp at hx
  obtain ⟨R, hR⟩ : ∃ R, putS st (nodeB ⟨op, vr, na, nb, (K : Int), ws, ks⟩) = R := ⟨_, rfl⟩
  rw [hR]
  have HRR : Hid (putS (putS (putS st ([op, vr, na, nb].flatMap numB)) (bitsB K ws)) (numB kn ++ ks.flatMap numB) = R) := by
    show _ = _
    rw [← hR, putS_two, putS_two]
    congr 1
    simp [nodeB, kidsB, hkn]
  clear h hb hG hbx hby hz hr hwn hl hk hkn h1 h2 h3 h4 hR
  go_enter Tryz.func112, Tryz.ntmps112
  go_wp2_with fail
  generalize ((w.alloc (.cells #[Value.int .i64 op, Value.int .i64 vr, Value.int .i64 na, Value.int .i64 nb, Value.int .i64 (K : Int), Value.slice wa wn wc, Value.slice ka kn kc] 108)).alloc (.cells #[Value.int .i64 op, Value.int .i64 vr, Value.int .i64 na, Value.int .i64 nb] 2)) = u0 at *
  obtain ⟨l, hl⟩ : ∃ l, [op, vr, na, nb] = l := ⟨_, rfl⟩
  rw [hl] at HNM HRR
  have hl4 : l.length = 4 := by rw [← hl]; rfl
  have HL4 := kide hl4
  clear hl hl4
  go_loopw [16] (fun i wr => ∃ k : Nat, k ≤ 4 ∧ i = .int .i64 (k : Int) ∧ Wst G (putS st ((l.take k).flatMap numB)) wr ∧ Out G (G + 2) u0 wr) (fun i _ => 4 - (intOf i).toNat)
  case atStart => exact ⟨0, Nat.zero_le _, rfl, by simp only [List.take_zero, List.flatMap_nil]; rw [W0.out.nilput]; exact W0.out, Out.refl _ _ _⟩
  case round =>
    obtain ⟨k, hk, rfl, hw, ho⟩ := hrel
    by_cases hlt : k < 4
    · obtain ⟨x, gx⟩ : ∃ y, l[k]? = some y := ⟨l[k]'(by rw [HL4.out]; exact hlt), List.getElem?_eq_getElem _⟩
      obtain ⟨hx, hcx⟩ := HNM.out k x gx
      have p0 := ((Y0.out.outs ho (.inr (by have := HLT.out; omega))).cell k).trans hcx
      have HST : Hid ((l.take (k + 1)).flatMap numB = (l.take k).flatMap numB ++ numB x) := by
        show _ = _
        rw [List.take_add_one, gx, List.flatMap_append]
        simp
      have HC := kide (number_any G x _ wr hw hx)
      have HO := kide ho
      have i0 : (k : Int) < 4 := by omega
      clear hw ho gx hcx hx
      go_wp2_with fail
      refine Calls.mono HC.out ?_
      rintro e w2 ⟨rfl, h1, h2⟩
      have W2 : Hid (Wst G (putS st ((l.take (k + 1)).flatMap numB)) w2) := by
        show Wst _ _ _
        rw [HST.out, ← putS_two]
        exact h1
      have O2 := kide (HO.out.trans h2)
      clear h1 h2 HC p0
      go_wp2_with fail
      go_roundw
      case rel => exact ⟨k + 1, by omega, by go_num, W2.out, O2.out⟩
      case measure => simp [intOf]; omega
    · obtain rfl : k = 4 := by omega
      have e4 : l.take 4 = l := by rw [← HL4.out, List.take_length]
      rw [e4] at hw
      have X1 := kide (X0.out.outs ho (.inr HLT.out))
      have O1 := kide (O0.out.trans ho)
      have B1 := kide (stay B0.out ho HHG.out)
      have HC1 := kide (HBI.out wr _ B1.out hw)
      clear hw ho e4 X0 Y0 O0 B0
      have x4 := X1.out.cell 4
      have x5 := X1.out.cell 5
      simp at x4 x5
      go_wp2_with fail
      clear x4 x5
      refine Calls.mono HC1.out ?_
      rintro e w2 ⟨rfl, h1, h2⟩
      have X2 := kide (X1.out.outs h2 (.inr HLT.out))
      have O2 := kide (O1.out.trans h2)
      have HC2 := kide (HKI.out w2 _ (stay B1.out h2 HHG.out) h1)
      clear h1 h2 X1 O1 B1 HC1
      have x6 := X2.out.cell 6
      simp at x6
      go_wp2_with fail
      clear x6
      refine Calls.mono HC2.out ?_
      rintro e w3 ⟨rfl, h1, h2⟩
      go_wp2_with fail
      exact bodyPost_end (v := .tuple #[]) (by simp [results, Tryz.results112, go_sem]) rfl ⟨rfl, by rw [← HRR.out]; exact h1, O2.out.trans h2⟩

/-- A node whose word is right, or none. -/
def okN (x : Tc) : Prop := 0 ≤ x.bw ∧ x.bw ≤ 4096 ∧ x.ws.length = (x.bw.toNat + 63) / 64
def nodeG (x : Tg) : List Nat := nodeB x.ct

theorem nodeX_any (G : Nat) (x : Tg) (st : Option (List Nat)) (w0 w : World) (h : Wst G st w) (hb : Below w0.heap.size w0 w) (hG : w0.heap.size ≤ G) (hr : Rd w0 x.wa x.ct.ws) (hk : RdI w0 x.ka x.ct.ks) (i1 : in64 x.ct.op) (i2 : in64 x.ct.vr) (i3 : in64 x.ct.a) (i4 : in64 x.ct.b) (hok : okN x.ct) :
    Calls Tryz.prog 112 #[.pointer (some ⟨G + 1, 0, none⟩), .agg #[Value.int .i64 x.ct.op, Value.int .i64 x.ct.vr, Value.int .i64 x.ct.a, Value.int .i64 x.ct.b, Value.int .i64 x.ct.bw, Value.slice x.wa x.ct.ws.length x.wc, Value.slice x.ka x.ct.ks.length x.kc]] w (RetW G (putS st (nodeG x)) w) := by
  obtain ⟨⟨op, vr, na, nb, bw, ws, ks⟩, wa, wc, ka, kc⟩ := x
  obtain ⟨k1, k2, k3⟩ := hok
  simp only [] at *
  obtain ⟨K, rfl⟩ := Int.eq_ofNat_of_zero_le k1
  exact node_any G op vr na nb K ws.length wc ks.length kc wa ka ws ks st w0 w h hb hG i1 i2 i3 i4 (by omega) hr rfl (by simpa using k3) hk rfl

set_option maxHeartbeats 1000000 in
theorem wlNode_any (G n c : Nat) (a : Option Addr) (l : List Tg) (st : Option (List Nat)) (w0 w : World) (h : Wst G st w) (hb : Below w0.heap.size w0 w) (hG : w0.heap.size ≤ G) (hr : RdT w0 a l) (hn : l.length = n) (hok : ∀ x ∈ l, okN x.ct) :
    Calls Tryz.prog 111 #[.pointer (some ⟨G + 1, 0, none⟩), .slice a n c, .func (.func 112) #[] #[]] w (RetW G (putS st (numB n ++ l.flatMap nodeG)) w) := by
  have hlen : n ≤ 1048576 := by rw [← hn]; exact hr.1
  have HN := kide (number_any G (n : Int) st w h ⟨by omega, by omega⟩)
  have HR := kide (fun u (hu : Below w0.heap.size w0 u) => hr.later hu)
  have HB0 := kide hb
  have HNL := kide hn
  have HHG := kide hG
  obtain ⟨R, hR⟩ : ∃ R, putS st (numB n ++ l.flatMap nodeG) = R := ⟨_, rfl⟩
  rw [hR]
  have HRR := kide hR
  clear h hb hr hn hR hG
  go_enter Tryz.func111, Tryz.ntmps111
  go_wp2_with fail
  refine Calls.mono HN.out ?_
  rintro e w1 ⟨rfl, h1, h2⟩
  have W1 := kide h1
  have O1 := kide h2
  clear h1 h2 HN
  go_wp2_with fail
  go_loopw [14] (fun i wr => ∃ k : Nat, k ≤ n ∧ i = .int .i64 (k : Int) ∧ Wst G (putS st (numB n ++ (l.take k).flatMap nodeG)) wr ∧ Out G (G + 2) w wr) (fun i _ => n - (intOf i).toNat)
  case atStart => exact ⟨0, Nat.zero_le _, rfl, by simpa using W1.out, O1.out⟩
  case round =>
    obtain ⟨k, hk, rfl, hw, ho⟩ := hrel
    have HW := kide hw
    have HO := kide ho
    have BW := kide (stay HB0.out ho HHG.out)
    by_cases hlt : k < n
    · obtain ⟨x, gx⟩ : ∃ y, l[k]? = some y := ⟨l[k]'(by rw [HNL.out]; exact hlt), List.getElem?_eq_getElem _⟩
      have HX := kide (List.mem_of_getElem? gx)
      have HST : Hid ((l.take (k + 1)).flatMap nodeG = (l.take k).flatMap nodeG ++ nodeG x) := by
        show _ = _
        rw [List.take_add_one, gx, List.flatMap_append]
        simp
      have HSA : Hid (l.flatMap nodeG = (l.take k).flatMap nodeG ++ (l.drop k).flatMap nodeG) := by
        show _ = _
        rw [← List.flatMap_append, List.take_append_drop]
      obtain ⟨-, hnil | ⟨b, o, ea, hcell⟩⟩ := HR.out w0 (Below.refl _ _)
      · have := HNL.out; rw [hnil] at this; simp at this; omega
      obtain ⟨-, hw1, hw2, i1, i2, i3, i4, -⟩ := hcell k x gx
      subst ea
      obtain ⟨-, hnil | ⟨b', o', ea, hcell2⟩⟩ := HR.out wr BW.out
      · have := HNL.out; rw [hnil] at this; simp at this; omega
      cases ea
      obtain ⟨⟨p0, p1, p2, p3, p4, p5, p6⟩, -⟩ := hcell2 k x gx
      simp only [Tg.hd] at p0 p1 p2 p3 p4 p5 p6
      have HOKX := kide (hok x HX.out)
      clear hcell hcell2
      have hGl : G + 1 < wr.heap.size := hw.lt
      obtain ⟨p, code, buf, q1, -, -, -, q5⟩ := hw
      have c2 := q1.cell 2
      simp at c2
      have i0 : (k : Int) < (n : Int) := by omega
      have hbx : Below wr.heap.size wr (wr.alloc (.cells #[Value.int .i64 x.ct.op, Value.int .i64 x.ct.vr, Value.int .i64 x.ct.a, Value.int .i64 x.ct.b, Value.int .i64 x.ct.bw, Value.slice x.wa x.ct.ws.length x.wc, Value.slice x.ka x.ct.ks.length x.kc] 108)) := (Below.refl _ _).alloc (Nat.le_refl _) _
      have HBX := kide hbx
      have WX := kide (HW.out.later hbx)
      have BX := kide (BW.out.trans (hbx.mono BW.out.size))
      clear hbx
      have HC := kide (nodeX_any G x _ w0 _ WX.out BX.out HHG.out hw1 hw2 i1 i2 i3 i4 HOKX.out)
      rcases q5 with ⟨hq, rfl⟩ | ⟨bs, hq, rfl, -⟩
      · have HZ : Hid (R = none) := by
          show _ = _
          rw [← HRR.out, HSA.out, ← List.append_assoc, ← putS_two, hq]
          rfl
        have HQ := kide hq
        clear q1 gx ho hq HC
        go_wp2_with fail
        rw [HQ.out] at HW
        exact bodyPost_ret (v := .tuple #[]) (by simp [results, Tryz.results111, go_sem]) rfl (by rw [HZ.out]; exact ⟨rfl, HW.out.later HBX.out, HO.out.trans (outB HBX.out)⟩)
      · clear q1 gx ho hq
        go_wp2_with fail
        refine Calls.mono HC.out ?_
        rintro e w2 ⟨rfl, h1, h2⟩
        have W2 : Hid (Wst G (putS st (numB n ++ (l.take (k + 1)).flatMap nodeG)) w2) := by
          show Wst _ _ _
          rw [HST.out, ← List.append_assoc, ← putS_two]
          exact h1
        have O2 : Hid (Out G (G + 2) w w2) := (HO.out.trans (outB HBX.out)).trans h2
        clear h1 h2 HC
        go_wp2_with fail
        go_roundw
        case rel => exact ⟨k + 1, by omega, by go_num, W2.out, O2.out⟩
        case measure => simp [intOf]; omega
    · obtain rfl : k = n := by omega
      have W2 : Hid (Wst G R wr) := by
        show Wst _ _ _
        rw [← HRR.out, ← List.take_length (l := l), HNL.out]
        exact hw
      clear hw ho
      go_wp2_with fail
      exact bodyPost_end (v := .tuple #[]) (by simp [results, Tryz.results111, go_sem]) rfl ⟨rfl, W2.out, HO.out⟩


end Go.Proofs.YtofdkdaehhpgbaaGreatDoor
