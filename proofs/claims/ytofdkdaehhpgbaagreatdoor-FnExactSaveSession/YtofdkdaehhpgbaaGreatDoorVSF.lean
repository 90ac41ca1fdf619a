/- The writer that SaveSession fills: lists of numbers and of variables. -/
import Derived.Test.YtofdkdaehhpgbaaGreatDoorVSE
import Derived.Test.YtofdkdaehhpgbaaGreatDoorZSA
namespace Go.Proofs.YtofdkdaehhpgbaaGreatDoor
set_option linter.unusedVariables false
set_option linter.unusedSimpArgs false
open Go.RowKit

/-- The bytes of what a session holds. -/
def dclB (d : Dc) : List Nat := nameB d.1 ++ numB d.2
def kidsB (ks : List Int) : List Nat := numB ks.length ++ ks.flatMap numB
def nodeB (x : Tc) : List Nat := numB x.op ++ (numB x.vr ++ (numB x.a ++ (numB x.b ++ (bitsB x.bw.toNat x.ws ++ kidsB x.ks))))
def termB (l : List Tc) : List Nat := numB l.length ++ l.flatMap nodeB
def litB (x : Lc) : List Nat := numB x.id ++ (flagB x.eq ++ (termB x.ss ++ termB x.ts))
def litsB (l : List Lc) : List Nat := numB l.length ++ l.flatMap litB
def scpB (x : Sc) : List Nat := numB x.d ++ litsB x.ls
def sesB (ds : List Dc) (cs : List Sc) (nx : Int) : List Nat := numB nx ++ ((numB ds.length ++ ds.flatMap dclB) ++ (numB cs.length ++ cs.flatMap scpB))

theorem kid_any (G : Nat) (x : Int) (st : Option (List Nat)) (w : World) (h : Wst G st w) (hx : in64 x) :
    Calls Tryz.prog 122 #[.pointer (some ⟨G + 1, 0, none⟩), .int .i64 x] w (RetW G (putS st (numB x)) w) := by
  have HC := kide (number_any G x st w h hx)
  clear h
  go_enter Tryz.func122, Tryz.ntmps122
  go_wp2_with fail
  refine Calls.mono HC.out ?_
  rintro e w1 ⟨rfl, h1, h2⟩
  go_wp2_with fail
  exact bodyPost_end (v := .tuple #[]) (by simp [results, Tryz.results122, go_sem]) rfl ⟨rfl, h1, h2⟩

set_option maxHeartbeats 1000000 in
theorem decl_any (G : Nat) (s : ByteArray) (x : Int) (st : Option (List Nat)) (w0 w : World) (h : Wst G st w) (hb : Below w0.heap.size w0 w) (hG : w0.heap.size ≤ G) (hs : s.size ≤ 1048576) (hx : in64 x) :
    Calls Tryz.prog 72 #[.pointer (some ⟨G + 1, 0, none⟩), .agg #[.string s, .int .i64 x]] w (RetW G (putS st (nameB s ++ (numB x))) w) := by
  have hbx : Below w.heap.size w (w.alloc (.cells #[Value.string s, Value.int .i64 x] 50)) := (Below.refl _ _).alloc (Nat.le_refl _) _
  have X0 := kide (Bz.new w #[Value.string s, Value.int .i64 x] 50)
  have HLT := kide h.lt
  have W0 := kide (h.later hbx)
  have O0 := kide (outB (B1 := G) (B2 := G + 2) hbx)
  have B0 := kide (hb.trans (hbx.mono hb.size))
  have HHG := kide hG
  rw [← putS_two]
  clear h hb hbx hG
  go_enter Tryz.func72, Tryz.ntmps72
  have HC0 := kide (name_any G s _ _ W0.out hs)
  go_wp2_with fail
  generalize (w.alloc (.cells #[Value.string s, Value.int .i64 x] 50)) = u0 at *
  refine Calls.mono HC0.out ?_
  rintro e u1 ⟨rfl, h1, h2⟩
  have X1 := kide (X0.out.outs h2 (.inr HLT.out))
  have W1 := kide h1
  have O1 := kide (O0.out.trans h2)
  have B1 := kide (stay B0.out h2 HHG.out)
  clear h1 h2 HC0 X0 W0 O0 B0
  have HC1 := kide (number_any G x _ _ W1.out hx)
  have x1 := X1.out.cell 1
  simp at x1
  go_wp2_with fail
  clear x1
  refine Calls.mono HC1.out ?_
  rintro e u2 ⟨rfl, h1, h2⟩
  have X2 := kide (X1.out.outs h2 (.inr HLT.out))
  have W2 := kide h1
  have O2 := kide (O1.out.trans h2)
  have B2 := kide (stay B1.out h2 HHG.out)
  clear h1 h2 HC1 X1 W1 O1 B1
  go_wp2_with fail
  exact bodyPost_end (v := .tuple #[]) (by simp [results, Tryz.results72, go_sem]) rfl ⟨rfl, W2.out, O2.out⟩

set_option maxHeartbeats 1000000 in
theorem wlDecl_any (G n c : Nat) (a : Option Addr) (l : List Dc) (st : Option (List Nat)) (w0 w : World) (h : Wst G st w) (hb : Below w0.heap.size w0 w) (hG : w0.heap.size ≤ G) (hr : RdD w0 a l) (hn : l.length = n) (hok : ∀ x ∈ l, x.1.size ≤ 1048576) :
    Calls Tryz.prog 71 #[.pointer (some ⟨G + 1, 0, none⟩), .slice a n c, .func (.func 72) #[] #[]] w (RetW G (putS st (numB n ++ l.flatMap dclB)) w) := by
  have hlen : n ≤ 1048576 := by rw [← hn]; exact hr.1
  have HN := kide (number_any G (n : Int) st w h ⟨by omega, by omega⟩)
  have HR := kide (fun u (hu : Below w0.heap.size w0 u) => hr.later hu)
  have HB0 := kide hb
  have HNL := kide hn
  have HHG := kide hG
  obtain ⟨R, hR⟩ : ∃ R, putS st (numB n ++ l.flatMap dclB) = R := ⟨_, rfl⟩
  rw [hR]
  have HRR := kide hR
  clear h hb hr hn hR hG
  go_enter Tryz.func71, Tryz.ntmps71
  go_wp2_with fail
  refine Calls.mono HN.out ?_
  rintro e w1 ⟨rfl, h1, h2⟩
  have W1 := kide h1
  have O1 := kide h2
  clear h1 h2 HN
  go_wp2_with fail
  go_loopw [14] (fun i wr => ∃ k : Nat, k ≤ n ∧ i = .int .i64 (k : Int) ∧ Wst G (putS st (numB n ++ (l.take k).flatMap dclB)) wr ∧ Out G (G + 2) w wr) (fun i _ => n - (intOf i).toNat)
  case atStart => exact ⟨0, Nat.zero_le _, rfl, by simpa using W1.out, O1.out⟩
  case round =>
    obtain ⟨k, hk, rfl, hw, ho⟩ := hrel
    have HW := kide hw
    have HO := kide ho
    have BW := kide (stay HB0.out ho HHG.out)
    by_cases hlt : k < n
    · obtain ⟨x, gx⟩ : ∃ y, l[k]? = some y := ⟨l[k]'(by rw [HNL.out]; exact hlt), List.getElem?_eq_getElem _⟩
      have HX := kide (List.mem_of_getElem? gx)
      have HST : Hid ((l.take (k + 1)).flatMap dclB = (l.take k).flatMap dclB ++ dclB x) := by
        show _ = _
        rw [List.take_add_one, gx, List.flatMap_append]
        simp
      have HSA : Hid (l.flatMap dclB = (l.take k).flatMap dclB ++ (l.drop k).flatMap dclB) := by
        show _ = _
        rw [← List.flatMap_append, List.take_append_drop]
      obtain ⟨-, hok2, hnil | ⟨b, o, rfl, hcell⟩⟩ := HR.out wr BW.out
      · have := HNL.out; rw [hnil] at this; simp at this; omega
      have hx2 := (hok2 x HX.out).1
      obtain ⟨p0, p1⟩ := hcell k x gx
      clear hcell hok2
      have hGl : G + 1 < wr.heap.size := hw.lt
      obtain ⟨p, code, buf, q1, -, -, -, q5⟩ := hw
      have c2 := q1.cell 2
      simp at c2
      have i0 : (k : Int) < (n : Int) := by omega
      have hbx : Below wr.heap.size wr (wr.alloc (.cells #[Value.string x.1, Value.int .i64 x.2] 50)) := (Below.refl _ _).alloc (Nat.le_refl _) _
      have HBX := kide hbx
      have WX := kide (HW.out.later hbx)
      have BX := kide (BW.out.trans (hbx.mono BW.out.size))
      clear hbx
      have HC := kide (decl_any G x.1 x.2 _ w0 _ WX.out BX.out HHG.out (hok x HX.out) hx2)
      rcases q5 with ⟨hq, rfl⟩ | ⟨bs, hq, rfl, -⟩
      · have HZ : Hid (R = none) := by
          show _ = _
          rw [← HRR.out, HSA.out, ← List.append_assoc, ← putS_two, hq]
          rfl
        have HQ := kide hq
        clear q1 gx ho hq HC
        go_wp2_with fail
        rw [HQ.out] at HW
        exact bodyPost_ret (v := .tuple #[]) (by simp [results, Tryz.results71, go_sem]) rfl (by rw [HZ.out]; exact ⟨rfl, HW.out.later HBX.out, HO.out.trans (outB HBX.out)⟩)
      · clear q1 gx ho hq
        go_wp2_with fail
        refine Calls.mono HC.out ?_
        rintro e w2 ⟨rfl, h1, h2⟩
        have W2 : Hid (Wst G (putS st (numB n ++ (l.take (k + 1)).flatMap dclB)) w2) := by
          show Wst _ _ _
          rw [HST.out, ← List.append_assoc, ← putS_two]
          exact h1
        have O2 : Hid (Out G (G + 2) w w2) := (HO.out.trans (outB HBX.out)).trans h2
        clear h1 h2 HC
        go_wp2_with fail
        go_roundw
        case rel => exact ⟨k + 1, by omega, by go_num, W2.out, O2.out⟩
        case measure => simp [intOf]; omega
    · obtain rfl : k = n := by omega
      have W2 : Hid (Wst G R wr) := by
        show Wst _ _ _
        rw [← HRR.out, ← List.take_length (l := l), HNL.out]
        exact hw
      clear hw ho
      go_wp2_with fail
      exact bodyPost_end (v := .tuple #[]) (by simp [results, Tryz.results71, go_sem]) rfl ⟨rfl, W2.out, HO.out⟩

set_option maxHeartbeats 1000000 in
theorem wlKid_any (G n c : Nat) (a : Option Addr) (l : List Int) (st : Option (List Nat)) (w0 w : World) (h : Wst G st w) (hb : Below w0.heap.size w0 w) (hG : w0.heap.size ≤ G) (hr : RdI w0 a l) (hn : l.length = n) :
    Calls Tryz.prog 121 #[.pointer (some ⟨G + 1, 0, none⟩), .slice a n c, .func (.func 122) #[] #[]] w (RetW G (putS st (numB n ++ l.flatMap numB)) w) := by
  have hlen : n ≤ 1048576 := by rw [← hn]; exact hr.1
  have HN := kide (number_any G (n : Int) st w h ⟨by omega, by omega⟩)
  have HR := kide (fun u (hu : Below w0.heap.size w0 u) => hr.later hu)
  have HB0 := kide hb
  have HNL := kide hn
  have HHG := kide hG
  obtain ⟨R, hR⟩ : ∃ R, putS st (numB n ++ l.flatMap numB) = R := ⟨_, rfl⟩
  rw [hR]
  have HRR := kide hR
  clear h hb hr hn hR hG
  go_enter Tryz.func121, Tryz.ntmps121
  go_wp2_with fail
  refine Calls.mono HN.out ?_
  rintro e w1 ⟨rfl, h1, h2⟩
  have W1 := kide h1
  have O1 := kide h2
  clear h1 h2 HN
  go_wp2_with fail
  go_loopw [14] (fun i wr => ∃ k : Nat, k ≤ n ∧ i = .int .i64 (k : Int) ∧ Wst G (putS st (numB n ++ (l.take k).flatMap numB)) wr ∧ Out G (G + 2) w wr) (fun i _ => n - (intOf i).toNat)
  case atStart => exact ⟨0, Nat.zero_le _, rfl, by simpa using W1.out, O1.out⟩
  case round =>
    obtain ⟨k, hk, rfl, hw, ho⟩ := hrel
    have HW := kide hw
    have HO := kide ho
    have BW := kide (stay HB0.out ho HHG.out)
    by_cases hlt : k < n
    · obtain ⟨x, gx⟩ : ∃ y, l[k]? = some y := ⟨l[k]'(by rw [HNL.out]; exact hlt), List.getElem?_eq_getElem _⟩
      have HX := kide (List.mem_of_getElem? gx)
      have HST : Hid ((l.take (k + 1)).flatMap numB = (l.take k).flatMap numB ++ numB x) := by
        show _ = _
        rw [List.take_add_one, gx, List.flatMap_append]
        simp
      have HSA : Hid (l.flatMap numB = (l.take k).flatMap numB ++ (l.drop k).flatMap numB) := by
        show _ = _
        rw [← List.flatMap_append, List.take_append_drop]
      obtain ⟨-, hok2, hnil | ⟨b, o, rfl, hcell⟩⟩ := HR.out wr BW.out
      · have := HNL.out; rw [hnil] at this; simp at this; omega
      have hx2 := hok2 x HX.out
      have p0 := hcell k (by rw [HNL.out]; exact hlt)
      rw [show l.getD k 0 = x by rw [List.getD_eq_getElem?_getD, gx]; rfl] at p0
      clear hcell hok2
      have hGl : G + 1 < wr.heap.size := hw.lt
      obtain ⟨p, code, buf, q1, -, -, -, q5⟩ := hw
      have c2 := q1.cell 2
      simp at c2
      have i0 : (k : Int) < (n : Int) := by omega
      have WX := HW
      have BX := BW
      have HC := kide (kid_any G x _ _ WX.out hx2)
      rcases q5 with ⟨hq, rfl⟩ | ⟨bs, hq, rfl, -⟩
      · have HZ : Hid (R = none) := by
          show _ = _
          rw [← HRR.out, HSA.out, ← List.append_assoc, ← putS_two, hq]
          rfl
        have HQ := kide hq
        clear q1 gx ho hq HC
        go_wp2_with fail
        rw [HQ.out] at HW
        exact bodyPost_ret (v := .tuple #[]) (by simp [results, Tryz.results121, go_sem]) rfl (by rw [HZ.out]; exact ⟨rfl, HW.out, HO.out⟩)
      · clear q1 gx ho hq
        go_wp2_with fail
        refine Calls.mono HC.out ?_
        rintro e w2 ⟨rfl, h1, h2⟩
        have W2 : Hid (Wst G (putS st (numB n ++ (l.take (k + 1)).flatMap numB)) w2) := by
          show Wst _ _ _
          rw [HST.out, ← List.append_assoc, ← putS_two]
          exact h1
        have O2 : Hid (Out G (G + 2) w w2) := HO.out.trans h2
        clear h1 h2 HC
        go_wp2_with fail
        go_roundw
        case rel => exact ⟨k + 1, by omega, by go_num, W2.out, O2.out⟩
        case measure => simp [intOf]; omega
    · obtain rfl : k = n := by omega
      have W2 : Hid (Wst G R wr) := by
        show Wst _ _ _
        rw [← HRR.out, ← List.take_length (l := l), HNL.out]
        exact hw
      clear hw ho
      go_wp2_with fail
      exact bodyPost_end (v := .tuple #[]) (by simp [results, Tryz.results121, go_sem]) rfl ⟨rfl, W2.out, HO.out⟩


end Go.Proofs.YtofdkdaehhpgbaaGreatDoor
