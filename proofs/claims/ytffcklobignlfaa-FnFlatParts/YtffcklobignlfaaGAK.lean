/- Several texts in one. -/
import Derived.Test.YtffcklobignlfaaRX
import Derived.Test.YtffcklobignlfaaGAI
import Derived.Test.YtffcklobignlfaaGAE
import Derived.Test.YtffcklobignlfaaGAJ
import Derived.Test.YtffcklobignlfaaGAH
namespace Go.Proofs.Ytffcklobignlfaa
open Go.RowKit
set_option linter.unusedVariables false
set_option linter.unusedSimpArgs false
def segP (s : Sc) (k : Nat) : Int × Int := if s.v < 0 then (-1, (((tb s.ws k).toNat : Nat) : Int)) else (s.v, s.lo + (k : Int))
def segPs (s : Sc) (m : Nat) : List (Int × Int) := (List.range m).map (segP s)
def formP (fs : List Sc) : List (Int × Int) := fs.flatMap fun s => segPs s s.wd.toNat
theorem segPs_succ (s : Sc) (k : Nat) : segPs s (k + 1) = segPs s k ++ [segP s k] := by simp [segPs, List.range_succ]
theorem segPs_len (s : Sc) (k : Nat) : (segPs s k).length = k := by simp [segPs]
theorem formP_snoc (fs : List Sc) {k : Nat} {s : Sc} (h : fs[k]? = some s) : formP (fs.take (k + 1)) = formP (fs.take k) ++ segPs s s.wd.toNat := by
 rw [List.take_add_one, h]
 simp [formP]
theorem formP_len (fs : List Sc) (h : ∀ s ∈ fs, 0 ≤ s.wd) : ((formP fs).length : Int) = sumS fs := by
 induction fs with
 | nil => simp [formP, sumS]
 | cons s t ih =>
  have h1 := ih fun x hx => h x (List.mem_cons_of_mem _ hx)
  have h2 := h s (by simp)
  have e : formP (s :: t) = segPs s s.wd.toNat ++ formP t := by simp [formP]
  rw [e, List.length_append, segPs_len, sumS]
  simp
  omega
theorem segP_neg {v lo m bw : Int} {ws : List Nat} (k : Nat) (h : v < 0) : segP ⟨v, lo, m, bw, ws⟩ k = (-1, (((tb ws k).toNat : Nat) : Int)) := by simp [segP, h]
theorem segP_pos {v lo m bw : Int} {ws : List Nat} (k : Nat) (h : ¬ v < 0) : segP ⟨v, lo, m, bw, ws⟩ k = (v, lo + (k : Int)) := by simp [segP, h]
set_option maxHeartbeats 1000000 in
theorem l5Bits_any (fa : Option Addr) (fc nf : Nat) (ds : List Dc) (xs : List Sg) (w : World) (hr : RdS w fa xs) (hnf : xs.length = nf) (hD : dclR ds = true) (hf : formR ds (xs.map Sg.ct) = true) :
  Calls Try.prog 16 #[.slice fa nf fc] w fun e w' => ∃ v, e = .returned v ∧ OL5 w' w.heap.size v (formP (xs.map Sg.ct)) ∧ Below w.heap.size w w' := by
 obtain ⟨hall, hs1, hs2, hl2⟩ := formR_sum hD hf
 have hn2 : nf ≤ 2000 := by simp at hl2; omega
 have HD := kide hD
 have HALL := kide hall
 have HR := kide hr
 have HN := kide hnf
 clear hr hnf hall hf hl2 hs1 hD
 go_enter Try.func16, Try.ntmps16
 go_wp2_with fail
 go_loopw [3, 4] (fun v i wr => ∃ k : Nat, k ≤ nf ∧ i = .int .i64 (k : Int) ∧ OL5 wr w.heap.size v (formP ((xs.map Sg.ct).take k)) ∧ Below w.heap.size w wr) (fun _ i _ => nf - (intOf i).toNat)
 case atStart => exact ⟨0, Nat.zero_le _, rfl, OL5.empty w _ (Nat.le_refl _), (Below.refl _ _).alloc (Nat.le_refl _) _⟩
 case round =>
  obtain ⟨k, hk, rfl, hown, hbel⟩ := hrel
  obtain ⟨va, vc, rfl⟩ := hown.form
  have HO := kide hown
  have HB := kide hbel
  clear hown hbel
  by_cases hlt : k < nf
  ·obtain ⟨⟨s, a1, c1⟩, gx⟩ : ∃ x, xs[k]? = some x := ⟨xs[k]'(by rw [HN.out]; exact hlt), List.getElem?_eq_getElem _⟩
   have gs : (xs.map Sg.ct)[k]? = some s := by rw [List.getElem?_map, gx]; rfl
   obtain ⟨b2, o2, rfl, hc2⟩ : ∃ b o, fa = some ⟨b, o, none⟩ ∧ ∀ i n, xs[i]? = some n → SgAt w b (o + i * 5) n := by
    rcases HR.out.2 with h | h
    ·rw [h] at gx; simp at gx
    ·exact h
   obtain ⟨⟨p0, p1, p2, p3, p4⟩, hsr, hi64⟩ := hc2 k _ gx
   obtain ⟨hok, hw1, hw2⟩ := HALL.out s (List.mem_of_getElem? gs)
   have hst := sumS_take (cs := xs.map Sg.ct) (k := k) (c := s) gs
   have htk := take_sum (fs := xs.map Sg.ct) (fun s hs => (HALL.out s hs).2.1) (k + 1)
   have hPS := formP_len ((xs.map Sg.ct).take k) (fun s hs => by have := HALL.out s (List.mem_of_mem_take hs); omega)
   rw [hst, ← hPS] at htk
   have HSN := kide (formP_snoc (xs.map Sg.ct) gs)
   obtain ⟨v, lo, wd, bw, ws⟩ := s
   simp only [Sg.hd] at p0 p1 p2 p3 p4 hsr hok hw1 hw2 htk hi64 HSN
   obtain ⟨m, rfl⟩ := Int.eq_ofNat_of_zero_le (show 0 ≤ wd by omega)
   rw [Int.toNat_natCast] at HSN
   have lb2 := block_lt_of_cell p0
   simp only at lb2
   obtain ⟨h60, h61, h62, h63⟩ := hi64
   have hvl : ¬ v < 0 → lo + (m : Int) ≤ 4096 ∧ 0 ≤ lo := by
    intro hv
    obtain ⟨z1, z2, z3, z4, z5⟩ := sgOk_vr hok (by simp only; omega)
    simp only at z1 z2 z3 z4 z5
    have hkk : v.toNat < ds.length := by omega
    have e : ds.getD v.toNat (.empty, 0) = ds[v.toNat] := by simp [List.getD, hkk]
    rw [e] at z5
    have := dclR_wd HD.out (List.getElem?_eq_getElem hkk)
    omega
   have hcw : v < 0 → (m : Int) ≤ 64 * (ws.length : Int) := by
    intro hv
    have hv1 : v = -1 := by
     by_cases h9 : v = -1
     ·exact h9
     ·have := (sgOk_vr hok (by simpa using h9)).1
      simp only at this
      omega
    obtain ⟨-, z2, z3⟩ := sgOk_cst hok (by simpa using hv1)
    simp only at z2 z3
    have := right_W z3
    omega
   have HSR := kide hsr
   have HVL := kide hvl
   have HCW := kide hcw
   have i0 : (k : Int) < (nf : Int) := by omega
   clear hc2 gx gs hok hst hPS hsr hvl hcw
   generalize formP ((xs.map Sg.ct).take k) = FP at *
   go_wp2_with fail
   go_loopw [3, 5] (fun v9 q u => ∃ j : Nat, j ≤ m ∧ q = .int .i64 (j : Int) ∧ OL5 u w.heap.size v9 (FP ++ segPs ⟨v, lo, (m : Int), bw, ws⟩ j) ∧ Below w.heap.size w u) (fun _ q _ => m - (intOf q).toNat)
   case atStart => exact ⟨0, Nat.zero_le _, rfl, by simpa [segPs] using HO.out, HB.out⟩
   case round =>
    clear HO HB
    obtain ⟨j, hj, rfl, hown, hbel⟩ := hrel
    obtain ⟨va, vc, rfl⟩ := hown.form
    have HO := kide hown
    have HB := kide hbel
    have d0 := (hbel.cell (p := ⟨b2, o2 + k * 5, none⟩) lb2).trans p0
    have d1 := (hbel.cell (p := ⟨b2, o2 + k * 5 + 1, none⟩) lb2).trans p1
    have d2 := (hbel.cell (p := ⟨b2, o2 + k * 5 + 2, none⟩) lb2).trans p2
    have d3 := (hbel.cell (p := ⟨b2, o2 + k * 5 + 3, none⟩) lb2).trans p3
    have d4 := (hbel.cell (p := ⟨b2, o2 + k * 5 + 4, none⟩) lb2).trans p4
    have HSS : Hid (FP ++ segPs ⟨v, lo, (m : Int), bw, ws⟩ (j + 1) = (FP ++ segPs ⟨v, lo, (m : Int), bw, ws⟩ j) ++ [segP ⟨v, lo, (m : Int), bw, ws⟩ j]) := by show _ = _; rw [segPs_succ, List.append_assoc]
    have hsl := segPs_len ⟨v, lo, (m : Int), bw, ws⟩ j
    have hll : (FP ++ segPs ⟨v, lo, (m : Int), bw, ws⟩ j).length = FP.length + j := by rw [List.length_append, hsl]
    have HLL := kide hll
    clear hsl hll
    by_cases hlj : j < m
    ·have j0 : (j : Int) < (m : Int) := by omega
     by_cases hv : v < 0
     ·have HL1 := kide (fun u (hu : Below w.heap.size w u) => l1Bit_any bw a1 c1 ws j u (HSR.out.later hu) (by have := HCW.out hv; omega))
      have HSP := kide (segP_neg (lo := lo) (m := (m : Int)) (bw := bw) (ws := ws) j hv)
      have hwl := HSR.out.1
      obtain ⟨wn, hwn⟩ : ∃ wn, ws.length = wn := ⟨_, rfl⟩
      rw [hwn] at HL1 d4 hwl
      generalize hty : (tb ws j).toNat = y at *
      have hy1 : y ≤ 1 := by rw [← hty]; cases tb ws j <;> simp
      rw [HSP.out] at HSS
      clear hown hbel p0 p1 p2 p3 p4 HVL HCW hty HSP
      generalize FP ++ segPs ⟨v, lo, (m : Int), bw, ws⟩ j = FSq at *
      have hwy : IntKind.i64.wrap (y : Int) = (y : Int) := by rw [IntKind.wrap_i64]; omega
      go_wp2_with fail
      refine Calls.mono (HL1.out _ HB.out) ?_
      rintro e w1 ⟨rfl, hb1⟩
      have B1 := kide (HB.out.trans (hb1.mono HB.out.size))
      have hbx : Below w1.heap.size w1 (w1.alloc (Obj.cells #[.int .i64 (-1), .int .i64 (y : Int)] 74)) := (Below.refl _ _).alloc (Nat.le_refl _) _
      have O2 := kide ((HO.out.later hb1).later hbx)
      have X2 := kide (Bz.new w1 #[.int .i64 (-1), .int .i64 (y : Int)] 74)
      have B2 := kide (B1.out.trans (hbx.mono B1.out.size))
      clear hb1 hbx HO HB B1 d0 d1 d2 d3 d4
      go_wp2_with (at_builtin; refine wpList_appL5 rfl _ _ rfl w.heap.size _ _ (-1, (y : Int)) rfl O2.out w1.heap.size 1 rfl (X2.out.cell 0) (X2.out.cell 1) (by have := HLL.out; omega) B2.out.size ?_)
      intro g9 c9 w2 ho9 hg9
      have B3 := kide (Below.grown B2.out hg9 B2.out.size (fun j hj => (O2.out.lt hj).1))
      have O3 : Hid (OL5 w2 w.heap.size (.slice (some ⟨g9, 0, none⟩) (FSq.length + 1) c9) (FP ++ segPs ⟨v, lo, (m : Int), bw, ws⟩ (j + 1))) := by
       rw [HSS.out]; exact ho9
      clear ho9 hg9
      go_wp2_with fail
      go_roundw
      case rel => exact ⟨j + 1, by omega, by go_num, O3.out, B3.out⟩
      case measure => simp [intOf]; omega
     ·have HSP := kide (segP_pos (lo := lo) (m := (m : Int)) (bw := bw) (ws := ws) j hv)
      obtain ⟨hlm, hl0⟩ := HVL.out (by omega)
      have hwy : IntKind.i64.wrap (lo + (j : Int)) = lo + (j : Int) := by rw [IntKind.wrap_i64]; omega
      rw [HSP.out] at HSS
      clear hown hbel p2 p3 p4 HVL HCW HSP d3 d4
      generalize FP ++ segPs ⟨v, lo, (m : Int), bw, ws⟩ j = FSq at *
      go_wp2_with fail
      refine wp_region_x (SA := fun _ => False) (SB := fun uu => Below w.heap.size w uu) (k := 999) (by kernel_rfl) ?_
      have hu0 : Hid (Below w.heap.size w wr.drew) := HB.out.drew
      have O0 := kide (HO.out.later ((Below.refl _ _).drew : Below wr.heap.size wr wr.drew))
      clear HO HB d0 d1 d2
      generalize wr.drew = u0 at *
      try go_simp
      refine tkB (T := fun uu => Below w.heap.size w uu) (i := 0) (v := Value.slice va FSq.length vc) rfl (by kernel_rfl) (fun _ _ _ h => by first | exact h | exact h.elim) (fun _ h => h.elim) (fun _ h => h) (Sx.behind (by kernel_rfl) hu0.out) (Or.inl ⟨by rfl, fun uu hu => by go_simp⟩) ?_
      try go_simp
      refine tkB (T := fun uu => Below w.heap.size w uu) (i := 1) (v := Value.slice (some ⟨b2, o2, none⟩) nf fc) rfl (by kernel_rfl) (fun _ _ _ h => by first | exact h | exact h.elim) (fun _ h => h.elim) (fun _ h => h) (Sx.behind (by kernel_rfl) hu0.out) (Or.inl ⟨by rfl, fun uu hu => by go_simp⟩) ?_
      try go_simp
      refine tkB (T := fun uu => Below w.heap.size w uu) (i := 2) (v := Value.int .i64 (k : Int)) rfl (by kernel_rfl) (fun _ _ _ h => by first | exact h | exact h.elim) (fun _ h => h.elim) (fun _ h => h) (Sx.behind (by kernel_rfl) hu0.out) (Or.inl ⟨by rfl, fun uu hu => by go_simp⟩) ?_
      try go_simp
      refine tkB (T := fun uu => Below w.heap.size w uu) (i := 3) (v := Value.pointer (some ⟨b2, o2 + k * 5, none⟩)) rfl (by kernel_rfl) (fun _ _ _ h => by first | exact h | exact h.elim) (fun _ h => h.elim) (fun _ h => h) (Sx.behind (by kernel_rfl) hu0.out) (Or.inl ⟨by rfl, fun uu hu => by go_simp⟩) ?_
      try go_simp
      refine tkB (T := fun uu => Below w.heap.size w uu) (i := 4) (v := Value.pointer (some ⟨b2, o2 + k * 5, none⟩)) rfl (by kernel_rfl) (fun _ _ _ h => by first | exact h | exact h.elim) (fun _ h => h.elim) (fun _ h => h) (Sx.behind (by kernel_rfl) hu0.out) (Or.inl ⟨by rfl, fun uu hu => by go_simp⟩) ?_
      try go_simp
      refine tkB (T := fun uu => Below w.heap.size w uu) (i := 5) (v := Value.int .i64 v) rfl (by kernel_rfl) (fun _ _ _ h => by first | exact h | exact h.elim) (fun _ h => h.elim) (fun _ h => h) (Sx.behind (by kernel_rfl) hu0.out) (Or.inl ⟨by rfl, fun uu hu => by have e1 := (kcell hu b2 (o2 + k * 5) lb2).trans p0; go_simp⟩) ?_
      try go_simp
      refine tkB (T := fun uu => Below w.heap.size w uu) (i := 6) (v := Value.slice (some ⟨b2, o2, none⟩) nf fc) rfl (by kernel_rfl) (fun _ _ _ h => by first | exact h | exact h.elim) (fun _ h => h.elim) (fun _ h => h) (Sx.behind (by kernel_rfl) hu0.out) (Or.inl ⟨by rfl, fun uu hu => by go_simp⟩) ?_
      try go_simp
      refine tkB (T := fun uu => Below w.heap.size w uu) (i := 7) (v := Value.int .i64 (k : Int)) rfl (by kernel_rfl) (fun _ _ _ h => by first | exact h | exact h.elim) (fun _ h => h.elim) (fun _ h => h) (Sx.behind (by kernel_rfl) hu0.out) (Or.inl ⟨by rfl, fun uu hu => by go_simp⟩) ?_
      try go_simp
      refine tkB (T := fun uu => Below w.heap.size w uu) (i := 8) (v := Value.pointer (some ⟨b2, o2 + k * 5, none⟩)) rfl (by kernel_rfl) (fun _ _ _ h => by first | exact h | exact h.elim) (fun _ h => h.elim) (fun _ h => h) (Sx.behind (by kernel_rfl) hu0.out) (Or.inl ⟨by rfl, fun uu hu => by go_simp⟩) ?_
      try go_simp
      refine tkB (T := fun uu => Below w.heap.size w uu) (i := 9) (v := Value.pointer (some ⟨b2, o2 + k * 5 + 1, none⟩)) rfl (by kernel_rfl) (fun _ _ _ h => by first | exact h | exact h.elim) (fun _ h => h.elim) (fun _ h => h) (Sx.behind (by kernel_rfl) hu0.out) (Or.inl ⟨by rfl, fun uu hu => by go_simp⟩) ?_
      try go_simp
      refine tkB (T := fun uu => Below w.heap.size w uu) (i := 10) (v := Value.int .i64 lo) rfl (by kernel_rfl) (fun _ _ _ h => by first | exact h | exact h.elim) (fun _ h => h.elim) (fun _ h => h) (Sx.behind (by kernel_rfl) hu0.out) (Or.inl ⟨by rfl, fun uu hu => by have e1 := (kcell hu b2 (o2 + k * 5 + 1) lb2).trans p1; go_simp⟩) ?_
      try go_simp
      refine tkB (T := fun uu => Below w.heap.size w uu) (i := 11) (v := Value.int .i64 (j : Int)) rfl (by kernel_rfl) (fun _ _ _ h => by first | exact h | exact h.elim) (fun _ h => h.elim) (fun _ h => h) (Sx.behind (by kernel_rfl) hu0.out) (Or.inl ⟨by rfl, fun uu hu => by go_simp⟩) ?_
      try go_simp
      refine tkB (T := fun uu => Below w.heap.size w uu) (i := 12) (v := Value.int .i64 (lo + (j : Int))) rfl (by kernel_rfl) (fun _ _ _ h => by first | exact h | exact h.elim) (fun _ h => h.elim) (fun _ h => h) (Sx.behind (by kernel_rfl) hu0.out) (Or.inl ⟨by rfl, fun uu hu => by go_simp; try exact hwy⟩) ?_
      try go_simp
      refine tkB (T := fun uu => Below w.heap.size w uu) (i := 13) (v := Value.agg #[.int .i64 v, .int .i64 (lo + (j : Int))]) rfl (by kernel_rfl) (fun _ _ _ h => by first | exact h | exact h.elim) (fun _ h => h.elim) (fun _ h => h) (Sx.behind (by kernel_rfl) hu0.out) (Or.inl ⟨by rfl, fun uu hu => by go_simp⟩) ?_
      try go_simp
      refine wpAnyX_ready (rs := [14]) (by kernel_rfl) (by simp) (AllX.cons rfl (fun K hK => ?_) AllX.nil)
      go_simp
      have hbx : Below u0.heap.size u0 (u0.alloc (Obj.cells #[.int .i64 v, .int .i64 (lo + (j : Int))] 74)) := (Below.refl _ _).alloc (Nat.le_refl _) _
      have XN1 := kide (Bz.new u0 #[.int .i64 v, .int .i64 (lo + (j : Int))] 74)
      have O1 := kide (O0.out.later hbx)
      have hu1 := kide (hu0.out.trans (hbx.mono hu0.out.size))
      generalize hgn : u0.heap.size = gn at *
      generalize u0.alloc (Obj.cells #[.int .i64 v, .int .i64 (lo + (j : Int))] 74) = u1 at *
      clear hbx hgn
      refine hK _ _ (Sx.behind (by kernel_rfl) hu1.out) ?_
      clear hK K
      try go_simp
      refine wpAnyX_ready (rs := [15]) (by kernel_rfl) (by simp) (AllX.cons rfl (fun K hK => ?_) AllX.nil)
      refine step_appL5 _ rfl _ _ rfl w.heap.size (Value.slice va FSq.length vc) FSq (v, lo + (j : Int)) (by first | rfl | simp [Act.eval]) O1.out gn 1 (by first | rfl | simp [Act.eval]) (XN1.out.cell 0) (XN1.out.cell 1) (by have := HLL.out; omega) hu1.out.size ?_
      intro g9 c9 u2 ho9 hg9
      have hu2 := kide (Below.grown hu1.out hg9 hu1.out.size (fun j hj => (O1.out.lt hj).1))
      have OF : Hid (OL5 u2 w.heap.size (.slice (some ⟨g9, 0, none⟩) (FSq.length + 1) c9) (FP ++ segPs ⟨v, lo, (m : Int), bw, ws⟩ (j + 1))) := by rw [HSS.out]; exact ho9
      clear ho9 hg9
      refine hK _ _ (Sx.behind (by kernel_rfl) hu2.out) ?_
      clear hK K
      try go_simp
      refine tkB (T := fun uu => Below w.heap.size w uu) (i := 16) (v := Value.slice (some ⟨g9, 0, none⟩) (FSq.length + 1) c9) rfl (by kernel_rfl) (fun _ _ _ h => by first | exact h | exact h.elim) (fun _ h => h.elim) (fun _ h => h) (Sx.behind (by kernel_rfl) hu2.out) (Or.inl ⟨by rfl, fun uu hu => by go_simp⟩) ?_
      try go_simp
      refine wpAnyX_done (by kernel_rfl) ?_ _
      go_wp2_with fail
      go_roundw
      case rel => exact ⟨j + 1, by omega, by go_num, OF.out, hu2.out⟩
      case measure => simp [intOf]; omega
    ·have ej : j = m := by omega
     subst ej
     generalize FP ++ segPs ⟨v, lo, (j : Int), bw, ws⟩ j = FSq at *
     clear HSS
     clear hown hbel p0 p1 p3 p4 d0 d1 d3 d4 HVL HCW
     go_wp2_with fail
     go_roundw
     case rel => exact ⟨k + 1, by omega, by go_num, by rw [HSN.out]; exact HO.out, HB.out⟩
     case measure => simp [intOf]; omega
  ·have ek : k = nf := by omega
   subst ek
   have HE : Hid ((xs.map Sg.ct).take k = xs.map Sg.ct) := by
    show _ = _
    rw [List.take_of_length_le (by rw [List.length_map, HN.out]; exact Nat.le_refl _)]
   go_wp2_with fail
   go_ret
   exact ⟨_, rfl, by have h9 := HO.out; rw [HE.out] at h9; rw [HE.out]; exact h9, HB.out⟩


abbrev Ib := Int × Int
def runC : List Ib → Nat
 | [] => 0
 | p :: t => if p.1 < 0 then runC t + 1 else 0
def runV : Ib → List Ib → Nat
 | _, [] => 0
 | p, q :: t => if q.1 = p.1 ∧ q.2 = p.2 + 1 then runV q t + 1 else 0
def segC (l : List Ib) : Sc := ⟨-1, 0, l.length, l.length, pack (l.map fun p => p.2.toNat)⟩
def segV (p : Ib) (n : Nat) : Sc := ⟨p.1, p.2, n, 0, []⟩
def formF : Nat → List Ib → List Sc
 | 0, _ => []
 | _ + 1, [] => []
 | n + 1, p :: t => if p.1 < 0 then segC ((p :: t).take (runC t + 1)) :: formF n (t.drop (runC t)) else segV p (runV p t + 1) :: formF n (t.drop (runV p t))
def formB (l : List Ib) : List Sc := formF l.length l
theorem runC_le (l : List Ib) : runC l ≤ l.length := by
 induction l with
 | nil => simp [runC]
 | cons p t ih => simp only [runC]; split <;> simp <;> omega
theorem runV_le : ∀ (l : List Ib) (p : Ib), runV p l ≤ l.length
 | [], p => by simp [runV]
 | q :: t, p => by
  have := runV_le t q
  simp only [runV]
  split <;> simp <;> omega
theorem formF_both : ∀ (n m : Nat) (l : List Ib), l.length ≤ n → l.length ≤ m → formF n l = formF m l
 | 0, m, l, h, _ => by
  have : l = [] := List.eq_nil_of_length_eq_zero (by omega)
  subst this
  cases m <;> rfl
 | n + 1, m, [], _, _ => by cases m <;> rfl
 | n + 1, 0, p :: t, _, h => by simp at h
 | n + 1, m + 1, p :: t, h, h2 => by
  have h1 : t.length ≤ n := by simpa using h
  have h3 : t.length ≤ m := by simpa using h2
  simp only [formF]
  split
  ·rw [formF_both n m (t.drop (runC t)) (by simp; omega) (by simp; omega)]
  ·rw [formF_both n m (t.drop (runV p t)) (by simp; omega) (by simp; omega)]
theorem formF_more (n : Nat) (l : List Ib) (h : l.length ≤ n) : formF n l = formF l.length l := formF_both n l.length l h (Nat.le_refl _)
theorem formB_nil : formB [] = [] := rfl
theorem formB_cons (p : Ib) (t : List Ib) : formB (p :: t) = if p.1 < 0 then segC ((p :: t).take (runC t + 1)) :: formB (t.drop (runC t)) else segV p (runV p t + 1) :: formB (t.drop (runV p t)) := by
 unfold formB
 simp only [formF, List.length_cons]
 split
 ·rw [formF_more t.length (t.drop (runC t)) (by simp)]
 ·rw [formF_more t.length (t.drop (runV p t)) (by simp)]
theorem formB_C {ps : List Ib} {i k : Nat} {p : Ib} (hp : ps[i]? = some p) (hv : p.1 < 0) (hk : k = i + 1 + runC (ps.drop (i + 1))) : formB (ps.drop i) = segC ((ps.drop i).take (k - i)) :: formB (ps.drop k) := by
 have hil := (List.getElem?_eq_some_iff.1 hp).1
 have e : ps.drop i = p :: ps.drop (i + 1) := by
  rw [List.drop_eq_getElem_cons hil]
  rw [(List.getElem?_eq_some_iff.1 hp).2]
 rw [e, formB_cons, if_pos hv, List.drop_drop]
 subst hk
 rw [show i + 1 + runC (ps.drop (i + 1)) - i = runC (ps.drop (i + 1)) + 1 by omega]
theorem formB_V {ps : List Ib} {i k : Nat} {p : Ib} (hp : ps[i]? = some p) (hv : ¬ p.1 < 0) (hk : k = i + 1 + runV p (ps.drop (i + 1))) : formB (ps.drop i) = segV p (k - i) :: formB (ps.drop k) := by
 have hil := (List.getElem?_eq_some_iff.1 hp).1
 have e : ps.drop i = p :: ps.drop (i + 1) := by
  rw [List.drop_eq_getElem_cons hil]
  rw [(List.getElem?_eq_some_iff.1 hp).2]
 rw [e, formB_cons, if_neg hv, List.drop_drop]
 subst hk
 rw [show i + 1 + runV p (ps.drop (i + 1)) - i = runV p (ps.drop (i + 1)) + 1 by omega]
theorem runC_drop {ps : List Ib} {k : Nat} {q : Ib} (hq : ps[k]? = some q) : runC (ps.drop k) = if q.1 < 0 then runC (ps.drop (k + 1)) + 1 else 0 := by
 have hil := (List.getElem?_eq_some_iff.1 hq).1
 rw [List.drop_eq_getElem_cons hil, (List.getElem?_eq_some_iff.1 hq).2]
 rfl
theorem runV_drop {ps : List Ib} {k : Nat} {p q : Ib} (hq : ps[k]? = some q) : runV p (ps.drop k) = if q.1 = p.1 ∧ q.2 = p.2 + 1 then runV q (ps.drop (k + 1)) + 1 else 0 := by
 have hil := (List.getElem?_eq_some_iff.1 hq).1
 rw [List.drop_eq_getElem_cons hil, (List.getElem?_eq_some_iff.1 hq).2]
 rfl
def RdP (w : World) (a : Option Addr) (ps : List Ib) : Prop := ps.length ≤ 1048576 ∧ (ps = [] ∨ ∃ b o, a = some ⟨b, o, none⟩ ∧ ∀ i p, ps[i]? = some p → w.cell? ⟨b, o + i * 2, none⟩ = some (.int .i64 p.1) ∧ w.cell? ⟨b, o + i * 2 + 1, none⟩ = some (.int .i64 p.2))
theorem RdP.later {w w' : World} {a : Option Addr} {ps : List Ib} (h : RdP w a ps) (hb : Below w.heap.size w w') : RdP w' a ps := by
 refine ⟨h.1, ?_⟩
 rcases h.2 with h0 | ⟨b, o, e, hc⟩
 ·exact .inl h0
 ·refine .inr ⟨b, o, e, fun i p hi => ?_⟩
  obtain ⟨h1, h2⟩ := hc i p hi
  exact ⟨by rw [hb.cell (p := ⟨b, o + i * 2, none⟩) (block_lt_of_cell h1)]; exact h1, by rw [hb.cell (p := ⟨b, o + i * 2 + 1, none⟩) (block_lt_of_cell h2)]; exact h2⟩
theorem OL5.rdp {w : World} {B : Nat} {v : Value} {l : List Ib} (h : OL5 w B v l) (hl : l.length ≤ 1048576) : ∃ a c, v = .slice a l.length c ∧ RdP w a l := by
 by_cases e : l = []
 ·subst e
  obtain ⟨a, c, rfl⟩ := h.form
  exact ⟨a, c, rfl, by simp, .inl rfl⟩
 ·have h0 : 0 < l.length := List.length_pos_iff.2 e
  obtain ⟨g, c, rfl, -⟩ := h.at (List.getElem?_eq_getElem h0)
  refine ⟨_, c, rfl, hl, .inr ⟨g, 0, rfl, fun i x hi => ?_⟩⟩
  obtain ⟨g', c', e', h1, h2⟩ := h.at hi
  cases e'
  exact ⟨by rw [Nat.zero_add]; exact h1, by rw [Nat.zero_add]; exact h2⟩

def sgc : List Sg → List Value
 | [] => []
 | x :: t => .int .i64 x.ct.v :: .int .i64 x.ct.lo :: .int .i64 x.ct.wd :: .int .i64 x.ct.bw :: .slice x.a x.ct.ws.length x.c :: sgc t
theorem sgc_len (l : List Sg) : (sgc l).length = l.length * 5 := by
 induction l with
 | nil => rfl
 | cons x t ih => simp [sgc, ih]; omega
theorem sgc_append (l m : List Sg) : sgc (l ++ m) = sgc l ++ sgc m := by
 induction l with
 | nil => rfl
 | cons x t ih => simp [sgc, ih]
theorem Try.infoSeg9 : (Try.prog.info? 34).map (fun i => (i.zero, i.size, i.bytes)) = some (some (.agg #[.int .i64 0, .int .i64 0, .int .i64 0, .int .i64 0, .slice none 0 0]), 5, 56) := by kernel_rfl
def OS5 (w : World) (B : Nat) (v : Value) (l : List Sg) : Prop := w.ownsRow B 34 5 v l.length (sgc l)
theorem OS5.later {w w' : World} {B : Nat} {v : Value} {l : List Sg} (h : OS5 w B v l) (hb : Below w.heap.size w w') : OS5 w' B v l := World.ownsRow.kept (row := none) h ⟨hb.os, hb.tape, hb.output, hb.size, fun k hk _ => hb.block k hk⟩ (by
 cases h' : v.ownBlock with
 | none => exact .inl rfl
 | some k => exact .inr (by simp))
theorem OS5.lt {w : World} {B : Nat} {v : Value} {l : List Sg} (h : OS5 w B v l) {b : Nat} (hb : v.ownBlock = some b) : B ≤ b ∧ b < w.heap.size := by
 rcases h.2 with ⟨rfl, -⟩ | ⟨g, cap, cur, rfl, hg, hh, -⟩
 ·cases hb
 ·cases hb
  exact ⟨hg, lt_of_block hh⟩
theorem OS5.typed {w : World} {B : Nat} {v : Value} {l : List Sg} (h : OS5 w B v l) {b : Nat} (hb : v.ownBlock = some b) : ∃ cur, w.heap[b]? = some (.cells cur 34 (0, 0)) := by
 rcases h.2 with ⟨rfl, -⟩ | ⟨g, cap, cur, rfl, hg, hh, -⟩
 ·cases hb
 ·cases hb
  exact ⟨cur, hh⟩
theorem OS5.nil (w : World) (B : Nat) : OS5 w B (.slice none 0 0) [] := ⟨rfl, .inl ⟨rfl, rfl⟩⟩
theorem OS5.move {w w' : World} {B : Nat} {v : Value} {l : List Sg} (h : OS5 w B v l) (hk : ∀ b, v.ownBlock = some b → w'.heap[b]? = w.heap[b]?) : OS5 w' B v l := by
 refine ⟨h.1, ?_⟩
 rcases h.2 with h0 | ⟨g, cap, cur, rfl, hg, hh, r⟩
 ·exact .inl h0
 ·exact .inr ⟨g, cap, cur, rfl, hg, (hk g rfl).trans hh, r⟩
theorem OS5.form {w : World} {B : Nat} {v : Value} {l : List Sg} (h : OS5 w B v l) : ∃ a c, v = .slice a l.length c := by
 rcases h.2 with ⟨e, h0⟩ | ⟨g, cap, cur, e, -⟩
 ·exact ⟨none, 0, by rw [e, h0]⟩
 ·exact ⟨_, _, e⟩
theorem OS5.empty (w : World) (B : Nat) (h : B ≤ w.heap.size) : OS5 (w.alloc (.cells #[] 34)) B (.slice (some ⟨w.heap.size, 0, Option.none⟩) 0 0) [] := World.ownsRow_made w #[] 0 h (Nat.zero_le _) (by simp)
theorem step_appS5 (w : World) {ops : Array Oper} {o : Oper} {a : Act} {K : Act → World → Prop} {Q : Exit → Act → World → Prop} {E : Prop} (hgd : o.guard = none) (s x : Operand)
  (ho : o.op = .call { callee := .builtin .append, args := #[s, x], argTypes := #[25, 25] })
  (B : Nat) (v : Value) (l : List Sg) (y : Sg) (hs : a.eval s = v) (hown : OS5 w B v l) (gx c : Nat) (hx : a.eval x = .slice (some ⟨gx, 0, none⟩) 1 c)
  (h0 : w.cell? ⟨gx, 0, none⟩ = some (.int .i64 y.ct.v)) (h1 : w.cell? ⟨gx, 1, none⟩ = some (.int .i64 y.ct.lo)) (h2 : w.cell? ⟨gx, 2, none⟩ = some (.int .i64 y.ct.wd)) (h3 : w.cell? ⟨gx, 3, none⟩ = some (.int .i64 y.ct.bw)) (h4 : w.cell? ⟨gx, 4, none⟩ = some (.slice y.a y.ct.ws.length y.c)) (hl : l.length ≤ 1073741824) (hB : B ≤ w.heap.size)
  (h : ∀ g cap w', OS5 w' B (.slice (some ⟨g, 0, none⟩) (l.length + 1) cap) (l ++ [y]) → w.grownBy w' v.ownBlock → K (a.put o.dst (.slice (some ⟨g, 0, none⟩) (l.length + 1) cap)) w') :
  if Region.wanted o (yielded ops a.tmps) = true then Oper.wp Try.prog o a w K Q else E := by
 obtain ⟨i0, hi, hz0, hz1, hz2⟩ := info_parts Try.infoSeg9
 refine step_append_lies w hgd s x 25 ho B 34 i0 _ 5 56 Try.underlying25 hi hz0 hz1 hz2 rfl (by decide) v l.length (sgc l) hs hown ⟨gx, 0, none⟩ 1 c (sgc [y]) hx rfl ?_ ?_ (by decide) ?_ ?_ hB _ rfl ?_
 ·intro j u hj
  rw [Addr.add_lit]
  match j, hj with
  | 0, hj => simp [sgc] at hj; subst hj; exact h0
  | 1, hj => simp [sgc] at hj; subst hj; exact h1
  | 2, hj => simp [sgc] at hj; subst hj; exact h2
  | 3, hj => simp [sgc] at hj; subst hj; exact h3
  | 4, hj => simp [sgc] at hj; subst hj; exact h4
  | j + 5, hj => simp [sgc] at hj
 ·intro u hu
  simp [sgc] at hu
  rcases hu with rfl | rfl | rfl | rfl | rfl <;> rfl
 ·unfold maxLen; omega
 ·omega
 ·intro g cap w' h1 h2 _ _
  refine h g cap w' ?_ h2
  unfold OS5
  rw [sgc_append, List.length_append]
  exact h1
theorem wpList_appS5 {w : World} {ops : Array Oper} {rest : List Oper} {o : Oper} {a : Act} {Q : Exit → Act → World → Prop} (hgd : o.guard = none) (s x : Operand)
  (ho : o.op = .call { callee := .builtin .append, args := #[s, x], argTypes := #[25, 25] })
  (B : Nat) (v : Value) (l : List Sg) (y : Sg) (hs : a.eval s = v) (hown : OS5 w B v l) (gx c : Nat) (hx : a.eval x = .slice (some ⟨gx, 0, none⟩) 1 c)
  (h0 : w.cell? ⟨gx, 0, none⟩ = some (.int .i64 y.ct.v)) (h1 : w.cell? ⟨gx, 1, none⟩ = some (.int .i64 y.ct.lo)) (h2 : w.cell? ⟨gx, 2, none⟩ = some (.int .i64 y.ct.wd)) (h3 : w.cell? ⟨gx, 3, none⟩ = some (.int .i64 y.ct.bw)) (h4 : w.cell? ⟨gx, 4, none⟩ = some (.slice y.a y.ct.ws.length y.c)) (hl : l.length ≤ 1073741824) (hB : B ≤ w.heap.size)
  (h : ∀ g cap w', OS5 w' B (.slice (some ⟨g, 0, none⟩) (l.length + 1) cap) (l ++ [y]) → w.grownBy w' v.ownBlock → wpList Try.prog ops Q rest (a.put o.dst (.slice (some ⟨g, 0, none⟩) (l.length + 1) cap)) w') : wpList Try.prog ops Q (o :: rest) a w := by
 obtain ⟨i0, hi, hz0, hz1, hz2⟩ := info_parts Try.infoSeg9
 refine wpList_append_lies w hgd s x 25 ho B 34 i0 _ 5 56 Try.underlying25 hi hz0 hz1 hz2 rfl (by decide) v l.length (sgc l) hs hown ⟨gx, 0, none⟩ 1 c (sgc [y]) hx rfl ?_ ?_ (by decide) ?_ ?_ hB _ rfl ?_
 ·intro j u hj
  rw [Addr.add_lit]
  match j, hj with
  | 0, hj => simp [sgc] at hj; subst hj; exact h0
  | 1, hj => simp [sgc] at hj; subst hj; exact h1
  | 2, hj => simp [sgc] at hj; subst hj; exact h2
  | 3, hj => simp [sgc] at hj; subst hj; exact h3
  | 4, hj => simp [sgc] at hj; subst hj; exact h4
  | j + 5, hj => simp [sgc] at hj
 ·intro u hu
  simp [sgc] at hu
  rcases hu with rfl | rfl | rfl | rfl | rfl <;> rfl
 ·unfold maxLen; omega
 ·omega
 ·intro g cap w' h1 h2 _ _
  refine h g cap w' ?_ h2
  unfold OS5
  rw [sgc_append, List.length_append]
  exact h1

theorem take_step {ps : List Ib} {i k : Nat} {q : Ib} (hik : i ≤ k) (hq : ps[k]? = some q) : (ps.drop i).take (k + 1 - i) = (ps.drop i).take (k - i) ++ [q] := by
 rw [show k + 1 - i = (k - i) + 1 by omega, List.take_add_one, List.getElem?_drop, show i + (k - i) = k by omega, hq]
 rfl
def Ss (w : World) (B : Nat) (v : Value) (l : List Sg) : Prop := OS5 w B v l ∧ ∀ x ∈ l, Nw w B x.a x.ct.ws
theorem Ss.later {w w' : World} {B : Nat} {v : Value} {l : List Sg} (h : Ss w B v l) (hb : Below w.heap.size w w') : Ss w' B v l := ⟨h.1.later hb, fun x hx => (h.2 x hx).later hb⟩

theorem cg2 {α β γ : Type} (f : α → β → γ) {a a' : α} {b b' : β} (h : a = a') (k : b = b') : f a b = f a' b' := by rw [h, k]
def okS (s : Sc) : Prop := 1 ≤ s.wd ∧ s.wd ≤ 4096 ∧ (∀ y ∈ s.ws, y < 18446744073709551616) ∧ (s.v = -1 ∧ s.lo = 0 ∧ s.bw = s.wd ∧ rightB s.bw s.ws = true ∨ 0 ≤ s.v ∧ s.bw = 0 ∧ s.ws = [])
structure Nf (F : List Sc) : Prop where
 ok : ∀ s ∈ F, okS s
 ap : ∀ (i : Nat) (s t : Sc), F[i]? = some s → F[i + 1]? = some t → oneB s t = false
theorem Nf.tail {s : Sc} {t : List Sc} (h : Nf (s :: t)) : Nf t := ⟨fun x hx => h.ok x (List.mem_cons_of_mem _ hx), fun i a b ha hb => h.ap (i + 1) a b (by simpa using ha) (by simpa using hb)⟩
theorem formP_cons (s : Sc) (t : List Sc) : formP (s :: t) = segPs s s.wd.toNat ++ formP t := rfl
theorem formP_app (a b : List Sc) : formP (a ++ b) = formP a ++ formP b := by simp [formP]
theorem formP_nil : formP [] = [] := rfl
theorem runC_app {l r : List Ib} (h : ∀ p ∈ l, p.1 < 0) : runC (l ++ r) = l.length + runC r := by
 induction l with
 | nil => simp
 | cons p t ih =>
  rw [List.cons_append, runC, if_pos (h p (by simp)), ih (fun q hq => h q (by simp [hq]))]
  simp; omega
def runL (v a : Int) (m : Nat) : List Ib := (List.range m).map fun (k : Nat) => ((v, a + (k : Int)) : Ib)
theorem runL_succ (v a : Int) (m : Nat) : runL v a (m + 1) = (v, a) :: runL v (a + 1) m := by
 unfold runL
 rw [List.range_succ_eq_map, List.map_cons, List.map_map]
 refine cg2 _ (by simp) (List.map_congr_left fun k _ => ?_)
 show ((v, a + ((k + 1 : Nat) : Int)) : Ib) = (v, a + 1 + (k : Int))
 rw [show a + ((k + 1 : Nat) : Int) = a + 1 + (k : Int) by omega]
theorem runV_app (v : Int) : ∀ (m : Nat) (a : Int) (r : List Ib), runV (v, a) (runL v (a + 1) m ++ r) = m + runV (v, a + (m : Int)) r
 | 0, a, r => by simp [runL]
 | m + 1, a, r => by
  rw [runL_succ, List.cons_append, runV, if_pos ⟨rfl, rfl⟩, runV_app v m (a + 1) r]
  rw [show a + 1 + (m : Int) = a + ((m + 1 : Nat) : Int) by omega]
  omega
theorem segPs_var {s : Sc} (h : 0 ≤ s.v) (m : Nat) : segPs s m = runL s.v s.lo m := by
 unfold segPs runL
 refine List.map_congr_left fun k _ => ?_
 simp [segP, show ¬ s.v < 0 by omega]
theorem segPs_cst {s : Sc} (h : s.v = -1) (m : Nat) : segPs s m = (List.range m).map fun k => (-1, (((tb s.ws k).toNat : Nat) : Int)) := by
 unfold segPs
 refine List.map_congr_left fun k _ => ?_
 simp [segP, h]
theorem bits_getD3 (xs : List Nat) (V i : Nat) (h : i < V) : (bitsTo xs V).getD i 0 = (tb xs i).toNat := by
 simp [bitsTo, List.getD, h]
theorem unpk {V : Nat} {xs : List Nat} (hok : rightB V xs = true) (hx : ∀ x ∈ xs, x < 18446744073709551616) : pack (bitsTo xs V) = xs := by
 have h := right_W hok
 refine (eq_pack (bitsTo_le xs V) (by rw [bitsTo_len]; omega) hx fun i hi => ?_).symm
 by_cases hi' : i < V
 ·rw [bits_getD3 xs V i hi']
  cases tb xs i <;> rfl
 ·rw [tb_out hok i (by omega)]
  simp [List.getD, List.getElem?_eq_none (show (bitsTo xs V).length ≤ i by rw [bitsTo_len]; omega)]
theorem cst_bits (ws : List Nat) (m : Nat) : ((List.range m).map fun k => ((-1, (((tb ws k).toNat : Nat) : Int)) : Ib)).map (fun p => p.2.toNat) = bitsTo ws m := by
 unfold bitsTo
 rw [List.map_map]
 refine List.map_congr_left fun k _ => ?_
 simp
theorem segPs_succ' (s : Sc) (m : Nat) : segPs s (m + 1) = segP s 0 :: (List.range m).map fun k => segP s (k + 1) := by
 unfold segPs
 rw [List.range_succ_eq_map, List.map_cons, List.map_map]
 rfl
theorem formP_head {u : Sc} {t : List Sc} (h : 1 ≤ u.wd) : ∃ r, formP (u :: t) = segP u 0 :: r := by
 obtain ⟨m, hm⟩ : ∃ m, u.wd.toNat = m + 1 := ⟨u.wd.toNat - 1, by omega⟩
 rw [formP_cons, hm, segPs_succ']
 exact ⟨_, rfl⟩
theorem formB_nf : ∀ {F : List Sc}, Nf F → formB (formP F) = F
 | [], _ => rfl
 | s :: t, h => by
  have ih := formB_nf h.tail
  obtain ⟨h1, h2, h3, h4⟩ := h.ok s (by simp)
  obtain ⟨m, hm⟩ : ∃ m, s.wd.toNat = m + 1 := ⟨s.wd.toNat - 1, by omega⟩
  obtain ⟨v, lo, wd, bw, ws⟩ := s
  simp only [] at h1 h2 h3 h4 hm
  have hwd : wd = ((m + 1 : Nat) : Int) := by omega
  rw [formP_cons]
  simp only [hm]
  rcases h4 with ⟨hv, hl, hb, hr⟩ | ⟨hv, hb, hw⟩
  ·subst hv hl hb
   have hn : runC (formP t) = 0 := by
    cases t with
    | nil => rfl
    | cons u r =>
     have hu := h.ap 0 _ u rfl rfl
     have hok := h.ok u (by simp)
     obtain ⟨r', hr'⟩ := formP_head (t := r) hok.1
     rw [hr', runC]
     simp only [oneB, Bool.and_eq_false_iff, decide_eq_false_iff_not, Bool.or_eq_false_iff] at hu
     have huv : 0 ≤ u.v := by
      rcases hok.2.2.2 with h9 | h9
      ·rcases hu with hu | hu
       ·exact absurd h9.1.symm hu
       ·exact absurd trivial hu.1
      ·exact h9.1
     rw [if_neg]
     simp [segP, show ¬ u.v < 0 by omega]
   have hc : ∀ q ∈ (List.range m).map (fun k => segP ⟨-1, 0, bw, bw, ws⟩ (k + 1)), q.1 < 0 := fun q hq => by
    obtain ⟨k, -, rfl⟩ := List.mem_map.1 hq
    simp [segP]
   have hlen : ((List.range m).map (fun k => segP ⟨-1, 0, bw, bw, ws⟩ (k + 1))).length = m := by simp
   have hsp : segPs ⟨-1, 0, bw, bw, ws⟩ (m + 1) = segP ⟨-1, 0, bw, bw, ws⟩ 0 :: (List.range m).map fun k => segP ⟨-1, 0, bw, bw, ws⟩ (k + 1) := segPs_succ' _ m
   rw [hsp, List.cons_append, formB_cons, if_pos (by simp [segP]), runC_app hc, hn, hlen]
   simp only [Nat.add_zero]
   rw [List.drop_left' hlen, ih]
   congr 1
   rw [← List.cons_append, ← hsp, List.take_left' (by rw [segPs_len])]
   unfold segC
   rw [segPs_len, segPs_cst rfl, cst_bits]
   have hr' : rightB ((m + 1 : Nat) : Int) ws = true := by rw [← hwd]; exact hr
   rw [unpk hr' h3, hwd]
  ·subst hb hw
   have hn : runV (v, lo + (m : Int)) (formP t) = 0 := by
    cases t with
    | nil => rfl
    | cons u r =>
     have hu := h.ap 0 _ u rfl rfl
     have hok := h.ok u (by simp)
     obtain ⟨r', hr'⟩ := formP_head (t := r) hok.1
     rw [hr', runV]
     rw [if_neg]
     simp only [oneB, Bool.and_eq_false_iff, decide_eq_false_iff_not, Bool.or_eq_false_iff] at hu
     rcases hok.2.2.2 with h9 | h9
     ·simp only [segP, h9.1]
      intro h8
      have := h8.1
      simp at this
      omega
     ·simp only [segP, show ¬ u.v < 0 by omega, if_false]
      intro h8
      rcases hu with hu | hu
      ·exact hu h8.1.symm
      ·refine hu.2 ?_
       have := h8.2
       simp at this
       omega
   rw [segPs_var hv]
   simp only []
   rw [runL_succ, List.cons_append, formB_cons, if_neg (by simp; omega), runV_app, hn]
   simp only [Nat.add_zero]
   rw [List.drop_left' (by simp [runL]), ih]
   congr 1
   unfold segV
   simp only [hwd]
theorem runC_more {l r : List Ib} (h : runC l < l.length) : runC (l ++ r) = runC l := by
 induction l with
 | nil => simp at h
 | cons p t ih =>
  rw [List.cons_append, runC, runC]
  split
  ·rename_i hp
   rw [runC, if_pos hp] at h
   rw [ih (by simp at h; omega)]
  ·rfl
theorem runV_more {r : List Ib} : ∀ {l : List Ib} {p : Ib}, runV p l < l.length → runV p (l ++ r) = runV p l
 | [], p, h => by simp at h
 | q :: t, p, h => by
  rw [List.cons_append, runV, runV]
  split
  ·rename_i hp
   rw [runV, if_pos hp] at h
   rw [runV_more (by simp at h; omega)]
  ·rfl
theorem formB_pos {p : Ib} {t : List Ib} : 1 ≤ (formB (p :: t)).length := by
 rw [formB_cons]
 split <;> simp
theorem formB_mono (r : List Ib) : ∀ (n : Nat) (l : List Ib), l.length ≤ n → (formB l).length ≤ (formB (l ++ r)).length
 | 0, l, h => by
  have : l = [] := List.eq_nil_of_length_eq_zero (by omega)
  subst this
  simp [formB_nil]
 | n + 1, [], h => by simp [formB_nil]
 | n + 1, p :: t, h => by
  simp at h
  rw [List.cons_append, formB_cons, formB_cons]
  have hc := runC_le t
  have hv := runV_le t p
  split
  ·by_cases e : runC t < t.length
   ·rw [runC_more e, List.drop_append_of_le_length (by omega)]
    have := formB_mono r n (t.drop (runC t)) (by simp; omega)
    simp
    exact this
   ·rw [List.drop_eq_nil_of_le (show t.length ≤ runC t by omega)]
    simp [formB_nil]
  ·by_cases e : runV p t < t.length
   ·rw [runV_more e, List.drop_append_of_le_length (by omega)]
    have := formB_mono r n (t.drop (runV p t)) (by simp; omega)
    simp
    exact this
   ·rw [List.drop_eq_nil_of_le (show t.length ≤ runV p t by omega)]
    simp [formB_nil]
theorem formB_tail (p : Ib) (t : List Ib) : (formB t).length ≤ (formB (p :: t)).length := by
 cases t with
 | nil => simp [formB_nil]
 | cons q r =>
  rw [formB_cons p]
  split
  ·rw [runC]
   split
   ·rename_i hq
    rw [formB_cons q, if_pos hq]
    simp
   ·simp
  ·rename_i hp
   rw [runV]
   split
   ·rename_i hq
    rw [formB_cons q, if_neg (by rw [hq.1]; exact hp)]
    simp
   ·simp
theorem formB_drop : ∀ (n : Nat) (l : List Ib), (formB (l.drop n)).length ≤ (formB l).length
 | 0, l => by simp
 | n + 1, [] => by simp
 | n + 1, p :: t => by
  rw [List.drop_succ_cons]
  exact Nat.le_trans (formB_drop n t) (formB_tail p t)
theorem formB_part (l : List Ib) (a b : Nat) : (formB ((l.drop a).take b)).length ≤ (formB l).length := by
 have h1 := formB_mono ((l.drop a).drop b) _ ((l.drop a).take b) (Nat.le_refl _)
 rw [List.take_append_drop] at h1
 exact Nat.le_trans h1 (formB_drop a l)
theorem sgOk_okS {ds : List Dc} {s : Sc} (hd : dclR ds = true) (h : sgOk ds s = true) (hw : ∀ y ∈ s.ws, y < 18446744073709551616) : okS s := by
 obtain ⟨h1, h2⟩ := sgOk_wdt hd h
 refine ⟨h1, h2, hw, ?_⟩
 by_cases e : s.v = -1
 ·obtain ⟨a, b, c⟩ := sgOk_cst h e
  exact .inl ⟨e, a, b.symm, c⟩
 ·right
  obtain ⟨a, b, c, d, f⟩ := sgOk_vr h e
  refine ⟨a, ?_, ?_⟩
  ·apply Classical.byContradiction
   intro hb
   rw [sgOk_out e (.inr (.inr (.inl hb)))] at h
   cases h
  ·apply Classical.byContradiction
   intro hb
   rw [sgOk_out e (.inr (.inr (.inr (fun h9 => hb (List.eq_nil_of_length_eq_zero h9)))))] at h
   cases h
theorem flL_ap {ds : List Dc} : ∀ (fs : List Sc) (q : Option Sc), flL ds q fs = true → ∀ (i : Nat) (s t : Sc), fs[i]? = some s → fs[i + 1]? = some t → oneB s t = false
 | [], _, _ => by simp
 | [a], _, _ => by
  intro i s t h1 h2
  simp at h2
 | a :: b :: r, q, h => by
  intro i s t h1 h2
  have hb : flL ds (some a) (b :: r) = true := by
   cases q <;> simp only [flL, Bool.and_eq_true] at h <;> simp only [flL, Bool.and_eq_true] <;> simp_all
  match i with
  | 0 =>
   simp at h1 h2
   subst h1 h2
   simp only [flL, Bool.and_eq_true] at hb
   simp_all
  | i + 1 => exact flL_ap (b :: r) (some a) hb i s t (by simpa using h1) (by simpa using h2)
theorem Nf.of {ds : List Dc} {fs : List Sc} (h : flatR ds fs = true) (hw : ∀ s ∈ fs, ∀ y ∈ s.ws, y < 18446744073709551616) : Nf fs := by
 have h' := h
 rw [flatR_form] at h'
 simp only [Bool.and_eq_true] at h'
 obtain ⟨hall, -⟩ := formR_sum h'.1 h'.2
 simp only [flatR, Bool.and_eq_true] at h
 exact ⟨fun s hs => sgOk_okS h'.1 (hall s hs).1 (hw s hs), flL_ap fs none h.1.2⟩
def oneS (a b : Sc) : Sc := if a.v = -1 then ⟨-1, 0, a.wd + b.wd, a.wd + b.wd, pack (bitsTo a.ws a.wd.toNat ++ bitsTo b.ws b.wd.toNat)⟩ else ⟨a.v, a.lo, a.wd + b.wd, 0, []⟩
theorem range_add_map {β : Type} (f : Nat → β) (a b : Nat) : (List.range (a + b)).map f = (List.range a).map f ++ (List.range b).map fun k => f (a + k) := by
 rw [List.range_add, List.map_append, List.map_map]
 rfl
theorem tb_join2 (xs ys : List Nat) (a b : Nat) (k : Nat) : tb (pack (bitsTo xs a ++ bitsTo ys b)) k = if k < a then tb xs k else (decide (k < a + b) && tb ys (k - a)) := by
 rw [tb_pack _ (fun x hx => by
  rcases List.mem_append.1 hx with h | h
  ·exact bitsTo_le _ _ x h
  ·exact bitsTo_le _ _ x h)]
 by_cases h : k < a
 ·rw [if_pos h, List.getD, List.getElem?_append_left (by rw [bitsTo_len]; exact h)]
  have := bits_getD3 xs a k h
  simp only [List.getD] at this
  rw [this]
  cases tb xs k <;> rfl
 ·rw [if_neg h, List.getD, List.getElem?_append_right (by rw [bitsTo_len]; omega), bitsTo_len]
  by_cases h2 : k < a + b
  ·have := bits_getD3 ys b (k - a) (by omega)
   simp only [List.getD] at this
   rw [this]
   simp only [h2, decide_true, Bool.true_and]
   cases tb ys (k - a) <;> rfl
  ·rw [List.getElem?_eq_none (by rw [bitsTo_len]; omega)]
   simp [h2]
theorem oneS_P {a b : Sc} (ha : okS a) (hb : okS b) (ho : oneB a b = true) : segPs (oneS a b) (oneS a b).wd.toNat = segPs a a.wd.toNat ++ segPs b b.wd.toNat := by
 have h1 := ha.1
 have h2 := hb.1
 simp only [oneB, Bool.and_eq_true, decide_eq_true_eq, Bool.or_eq_true] at ho
 unfold oneS
 by_cases e : a.v = -1
 ·rw [if_pos e]
  simp only []
  have e2 : b.v = -1 := by rw [← ho.1]; exact e
  rw [segPs_cst rfl, segPs_cst e, segPs_cst e2, show (a.wd + b.wd).toNat = a.wd.toNat + b.wd.toNat by omega, range_add_map]
  refine cg2 _ (List.map_congr_left fun k hk => ?_) (List.map_congr_left fun k hk => ?_)
  ·rw [tb_join2, if_pos (List.mem_range.1 hk)]
  ·have := List.mem_range.1 hk
   rw [tb_join2, if_neg (by omega)]
   simp [show a.wd.toNat + k < a.wd.toNat + b.wd.toNat by omega]
 ·rw [if_neg e]
  simp only []
  have hv : 0 ≤ a.v := by
   rcases ha.2.2.2 with h9 | h9
   ·exact absurd h9.1 e
   ·exact h9.1
  have e2 : a.lo + a.wd = b.lo := by
   rcases ho.2 with h9 | h9
   ·exact absurd h9 e
   ·exact h9
  rw [segPs_var (s := ⟨a.v, a.lo, a.wd + b.wd, 0, []⟩) hv, segPs_var hv, segPs_var (by rw [← ho.1]; exact hv), show (a.wd + b.wd).toNat = a.wd.toNat + b.wd.toNat by omega]
  unfold runL
  rw [range_add_map]
  refine cg2 _ rfl (List.map_congr_left fun k hk => ?_)
  simp only []
  rw [ho.1, ← e2]
  congr 1
  omega
theorem oneS_ok {a b : Sc} (ha : okS a) (hb : okS b) (hs : a.wd + b.wd ≤ 4096) : okS (oneS a b) := by
 have h1 := ha.1
 have h2 := hb.1
 unfold oneS
 split
 ·refine ⟨by simp only []; omega, hs, fun y hy => pack_lt _ y hy, .inl ⟨rfl, rfl, rfl, ?_⟩⟩
  have := pack_right (bitsTo a.ws a.wd.toNat ++ bitsTo b.ws b.wd.toNat) (fun x hx => by
   rcases List.mem_append.1 hx with h | h
   ·exact bitsTo_le _ _ x h
   ·exact bitsTo_le _ _ x h) (by simp [bitsTo_len]; omega) (by simp [bitsTo_len]; omega)
  rw [List.length_append, bitsTo_len, bitsTo_len] at this
  simp only []
  rw [show a.wd + b.wd = ((a.wd.toNat + b.wd.toNat : Nat) : Int) by omega]
  exact this
 ·rename_i e
  have hv : 0 ≤ a.v := by
   rcases ha.2.2.2 with h9 | h9
   ·exact absurd h9.1 e
   ·exact h9.1
  exact ⟨by simp only []; omega, hs, by simp, .inr ⟨hv, rfl, rfl⟩⟩
theorem oneS_on {a b c : Sc} : oneB c (oneS a b) = oneB c a ∨ (a.v = -1 ∧ oneB c (oneS a b) = oneB c a) := by
 left
 unfold oneB oneS
 split
 ·rename_i e
  simp only [e]
  by_cases h : c.v = -1 <;> simp [h]
 ·rfl

theorem l3Widths_any (a b : Option Addr) (c c2 n : Nat) (ds : List Dc) (xs : List Tg) (w : World) (hr : RdD w a ds) (hs : RdT w b xs) (hn : xs.length = n) :
  Calls Try.prog 66 #[.slice a ds.length c, .agg #[.slice b n c2]] w fun e w' => ∃ v, e = .returned v ∧ OW w' (w.heap.size + 1) v (widthsR ds (xs.map Tg.ct)) ∧ Below w.heap.size w w' := by
 by_cases h : dclR ds = true ∧ 1 ≤ n ∧ n ≤ 400
 ·exact l3Widths_yes a b c c2 n ds xs w hr hs hn h
 ·exact l3Widths_no a b c c2 n ds xs w hr hs hn h
theorem goR_len {ds : List Dc} {wide out : List Int} {ns : List Tc} (h : goR ds wide ns = some out) : out.length = wide.length + ns.length ∧ ((∀ x ∈ wide, 1 ≤ x ∧ x ≤ 4096) → ∀ x ∈ out, 1 ≤ x ∧ x ≤ 4096) := by
 induction ns generalizing wide with
 | nil => rw [goR] at h; cases h; exact ⟨by simp, fun h => h⟩
 | cons n t ih =>
  rw [goR] at h
  cases hst : stepR ds wide n with
  | none => rw [hst] at h; cases h
  | some v =>
   rw [hst] at h
   obtain ⟨h1, h2⟩ := ih h
   refine ⟨by rw [h1]; simp; omega, fun hw => h2 (fun x hx => ?_)⟩
   rcases List.mem_append.1 hx with hx | hx
   ·exact hw x hx
   ·rw [List.mem_singleton.1 hx]; exact stepR_range hst
theorem widthsR_bounds (ds : List Dc) (ns : List Tc) : (widthsR ds ns).length ≤ 400 ∧ ∀ x ∈ widthsR ds ns, 1 ≤ x ∧ x ≤ 4096 := by
 unfold widthsR
 split
 ·rename_i h
  simp only [Bool.and_eq_true, decide_eq_true_eq] at h
  cases hg : goR ds [] ns with
  | none => simp
  | some wide =>
   obtain ⟨h1, h2⟩ := goR_len hg
   simp only []
   split
   ·exact ⟨by simp at h1; omega, h2 (by simp)⟩
   ·simp
 ·simp
def widR (ds : List Dc) (ns : List Tc) : Int := if (widthsR ds ns).length = 0 then -1 else (widthsR ds ns).getD ((widthsR ds ns).length - 1) 0
theorem specWidth_any (a b : Option Addr) (c c2 n : Nat) (ds : List Dc) (xs : List Tg) (w : World) (hr : RdD w a ds) (hs : RdT w b xs) (hn : xs.length = n) :
  Calls Try.prog 48 #[.slice a ds.length c, .agg #[.slice b n c2]] w fun e w' => e = .returned (.int .i64 (widR ds (xs.map Tg.ct))) ∧ Below w.heap.size w w' := by
 have HC := kide (l3Widths_any a b c c2 n ds xs)
 have hb0 : Below w.heap.size w (w.alloc (Obj.cells #[.slice b n c2] 66)) := (Below.refl _ _).alloc (Nat.le_refl _) _
 obtain ⟨hbl, hbd⟩ := widthsR_bounds ds (xs.map Tg.ct)
 have HA := kide (HC.out w hr hs hn)
 have HA' := kide (HC.out _ (hr.later hb0) (hs.later hb0) hn)
 unfold widR
 generalize widthsR ds (xs.map Tg.ct) = W at *
 have HBD := kide hbd
 have B0 := kide hb0
 clear HC hr hs hn hbd hb0
 generalize hZ : (if W.length = 0 then (-1 : Int) else W.getD (W.length - 1) 0) = Z
 have HZ := kide hZ
 clear hZ
 go_enter Try.func48, Try.ntmps48
 go_wp2_with fail
 first
  | refine Calls.mono HA'.out ?_
  | refine Calls.mono HA.out ?_
 rintro e w1 ⟨v, rfl, ho, hb1⟩
 obtain ⟨ya, yc, rfl, hrd⟩ := ho.rd (by omega) (fun x hx => by have := HBD.out x hx; unfold in64; omega)
 have HB1 : Hid (Below w.heap.size w w1) := by first | exact B0.out.trans (hb1.mono (by simp)) | exact hb1
 clear ho hb1 HA HA'
 by_cases h0 : W.length = 0
 ·have h := HZ.out
  rw [if_pos h0] at h
  subst h
  rw [h0]
  clear HZ hrd
  go_wp2_with fail
  go_ret
  exact ⟨rfl, HB1.out⟩
 ·have h := HZ.out
  rw [if_neg h0] at h
  obtain ⟨-, -, hn | ⟨b3, o3, rfl, hc3⟩⟩ := hrd
  ·rw [hn] at h0; simp at h0
  have g0 := hc3 (W.length - 1) (by omega)
  rw [h] at g0
  obtain ⟨l, hl⟩ : ∃ l, W.length = l + 1 := ⟨W.length - 1, by omega⟩
  rw [hl] at g0 ⊢
  have hl4 : l ≤ 400 := by omega
  simp only [Nat.add_sub_cancel] at g0
  clear hc3 HZ h h0 HBD hbl hl
  go_wp2_with fail
  go_ret
  exact ⟨rfl, HB1.out⟩


structure NdN (wr : World) (B H : Nat) (tv : Value) (x : Tg) : Prop where
 wn : Nw wr B x.wa x.ct.ws
 kn : Ni wr B x.ka x.ct.ks
 wh : ∀ p, x.wa = some p → p.block < H
 kh : ∀ p, x.ka = some p → p.block < H
 dj : ∀ p, x.ka = some p → tv.ownBlock ≠ some p.block

structure RpM (w wr : World) (B H : Nat) (v tv : Value) (l : List Tg) (st : List Tc × List Int) : Prop where
 row : OT wr B v l
 nd : ∀ x ∈ l, NdN wr B H tv x
 sn : Sn l
 eq : l.map Tg.ct = st.1
 ot : OI wr B tv st.2
 bl : Below w.heap.size w wr
 bB : w.heap.size ≤ B
 BH : B ≤ H
 hH : H ≤ wr.heap.size
 vH : ∀ b, v.ownBlock = some b → b < H
 tH : ∀ b, tv.ownBlock = some b → b < H
theorem nw_ltB {w : World} {lo : Nat} {a : Option Addr} {xs : List Nat} (h : Nw w lo a xs) {p : Addr} (hp : a = some p) : lo ≤ p.block ∧ p.block < w.heap.size := by
 rcases h with ⟨h1, h2⟩ | ⟨g, cur, h1, h2, h3, h4⟩
 ·obtain ⟨k1, -, cur, k2⟩ := h2 p hp
  exact ⟨k1, lt_of_block k2⟩
 ·rw [h1] at hp
  cases hp
  exact ⟨h2, lt_of_block h3⟩
theorem nw_blk {w w' : World} {lo : Nat} {a : Option Addr} {xs : List Nat} (h : Nw w lo a xs) (hk : ∀ p, a = some p → w'.heap[p.block]? = w.heap[p.block]?) : Nw w' lo a xs := by
 rcases h with ⟨h1, h2⟩ | ⟨g, cur, h1, h2, h3, h4⟩
 ·refine .inl ⟨h1, fun x e => ?_⟩
  obtain ⟨q1, q2, cur, q3⟩ := h2 x e
  exact ⟨q1, q2, cur, (hk x e).trans q3⟩
 ·exact .inr ⟨g, cur, h1, h2, (hk _ h1).trans h3, h4⟩
theorem ni_blk {w w' : World} {lo : Nat} {a : Option Addr} {xs : List Int} (h : Ni w lo a xs) (hk : ∀ p, a = some p → w'.heap[p.block]? = w.heap[p.block]?) : Ni w' lo a xs := by
 rcases h with ⟨h1, h2⟩ | ⟨g, cur, h1, h2, h3, h4⟩
 ·refine .inl ⟨h1, fun x e => ?_⟩
  obtain ⟨q1, q2, cur, q3⟩ := h2 x e
  exact ⟨q1, q2, cur, (hk x e).trans q3⟩
 ·exact .inr ⟨g, cur, h1, h2, (hk _ h1).trans h3, h4⟩
theorem nw_typed {w : World} {lo : Nat} {a : Option Addr} {xs : List Nat} (h : Nw w lo a xs) {p : Addr} (hp : a = some p) : ∃ cur, w.heap[p.block]? = some (.cells cur 82 (0, 0)) := by
 rcases h with ⟨h1, h2⟩ | ⟨g, cur, h1, h2, h3, h4⟩
 ·obtain ⟨-, -, cur, k2⟩ := h2 p hp
  exact ⟨cur, k2⟩
 ·rw [h1] at hp
  cases hp
  exact ⟨cur, h3⟩
theorem ni_typed {w : World} {lo : Nat} {a : Option Addr} {xs : List Int} (h : Ni w lo a xs) {p : Addr} (hp : a = some p) : ∃ cur, w.heap[p.block]? = some (.cells cur 2 (0, 0)) := by
 rcases h with ⟨h1, h2⟩ | ⟨g, cur, h1, h2, h3, h4⟩
 ·obtain ⟨-, -, cur, k2⟩ := h2 p hp
  exact ⟨cur, k2⟩
 ·rw [h1] at hp
  cases hp
  exact ⟨cur, h3⟩
theorem RpM.later {w wr wr' : World} {B H : Nat} {v tv : Value} {l : List Tg} {st : List Tc × List Int} (h : RpM w wr B H v tv l st) (hb : Below wr.heap.size wr wr') : RpM w wr' B H v tv l st where
 row := h.row.later hb
 nd := fun x hx => have n := h.nd x hx; ⟨n.wn.later hb, n.kn.later hb, n.wh, n.kh, n.dj⟩
 sn := h.sn
 eq := h.eq
 ot := h.ot.later hb
 bl := h.bl.trans (hb.mono h.bl.size)
 bB := h.bB
 BH := h.BH
 hH := Nat.le_trans h.hH hb.size
 vH := h.vH
 tH := h.tH
theorem RpM.out {w wr wr' : World} {B H g : Nat} {v tv : Value} {l : List Tg} {st : List Tc × List Int} (h : RpM w wr B H v tv l st) (hg : wr.grownBy wr' (some g)) (hN : H ≤ g) : RpM w wr' B H v tv l st where
 row := h.row.move fun b hb => hg.block b (h.row.lt hb).2 (fun e => by cases e; have := h.vH _ hb; omega)
 nd := fun x hx => have n := h.nd x hx; ⟨nw_blk n.wn fun p hp => hg.block _ (nw_ltB n.wn hp).2 (fun e => by have := n.wh p hp; cases e; omega), ni_blk n.kn fun p hp => hg.block _ (ni_lt n.kn hp).2 (fun e => by have := n.kh p hp; cases e; omega), n.wh, n.kh, n.dj⟩
 sn := h.sn
 eq := h.eq
 ot := h.ot.move fun b hb => hg.block b (h.ot.lt hb).2 (fun e => by cases e; have := h.tH _ hb; omega)
 bl := h.bl.grown hg h.bl.size (fun k e => by cases e; have := h.bB; have := h.BH; omega)
 bB := h.bB
 BH := h.BH
 hH := Nat.le_trans h.hH hg.size
 vH := h.vH
 tH := h.tH
theorem RpM.push {w wt w5 : World} {B H : Nat} {v v' tv : Value} {l : List Tg} {st1 : List Tc} {to : List Int} {y : Tg} (h : RpM w wt B H v tv l (st1, to)) (hg : wt.grownBy w5 v.ownBlock) (ho : OT w5 B v' (l ++ [y])) (hy : Nw wt B y.wa y.ct.ws) (hk : Ni wt B y.ka y.ct.ks) (hdj : ∀ p, y.ka = some p → tv.ownBlock ≠ some p.block) (hs : (y.wa = none → y.wc = 0) ∧ (y.ka = none → y.kc = 0)) : RpM w w5 B w5.heap.size v' tv (l ++ [y]) (st1 ++ [y.ct], to) where
 row := ho
 nd := fun x hx => by
  have keep : ∀ (b : Nat) (c : Array Value) (t : TypeId), t ≠ 88 → wt.heap[b]? = some (.cells c t (0, 0)) → w5.heap[b]? = wt.heap[b]? := fun b c t ht hc => hg.block b (lt_of_block hc) (fun e => by
   obtain ⟨c2, k2⟩ := h.row.typed e.symm
   rw [hc] at k2
   cases k2
   exact ht rfl)
  rcases List.mem_append.1 hx with hx | hx
  ·have n := h.nd x hx
   refine ⟨nw_blk n.wn fun p hp => ?_, ni_blk n.kn fun p hp => ?_, fun p hp => ?_, fun p hp => ?_, n.dj⟩
   ·obtain ⟨c, hc⟩ := nw_typed n.wn hp
    exact keep _ c _ (by decide) hc
   ·obtain ⟨c, hc⟩ := ni_typed n.kn hp
    exact keep _ c _ (by decide) hc
   ·have := n.wh p hp; have := h.hH; have := hg.size; omega
   ·have := n.kh p hp; have := h.hH; have := hg.size; omega
  ·simp at hx
   subst hx
   refine ⟨nw_blk hy fun p hp => ?_, ni_blk hk fun p hp => ?_, fun p hp => ?_, fun p hp => ?_, hdj⟩
   ·obtain ⟨c, hc⟩ := nw_typed hy hp
    exact keep _ c _ (by decide) hc
   ·obtain ⟨c, hc⟩ := ni_typed hk hp
    exact keep _ c _ (by decide) hc
   ·have := (nw_ltB hy hp).2; have := hg.size; omega
   ·have := (ni_lt hk hp).2; have := hg.size; omega
 sn := fun x hx => by
  rcases List.mem_append.1 hx with hx | hx
  ·exact h.sn x hx
  ·simp at hx
   subst hx
   exact hs
 eq := by
  have h9 := h.eq
  simp only [] at h9 ⊢
  rw [List.map_append, h9]
  rfl
 ot := h.ot.move fun b hb => hg.block b (h.ot.lt hb).2 (fun e => by
  obtain ⟨c1, k1⟩ := h.ot.typed9 hb
  obtain ⟨c2, k2⟩ := h.row.typed e.symm
  rw [k1] at k2
  cases k2)
 bl := h.bl.grown hg h.bl.size (fun k e => by have := (h.row.lt e).1; have := h.bB; omega)
 bB := h.bB
 BH := Nat.le_trans h.BH (Nat.le_trans h.hH hg.size)
 hH := Nat.le_refl _
 vH := fun b hb => (ho.lt hb).2
 tH := fun b hb => by have := h.tH b hb; have := h.hH; have := hg.size; omega
theorem RpM.told {w wt w5 : World} {B H : Nat} {v tv tv' : Value} {l : List Tg} {st1 : List Tc} {to to' : List Int} (h : RpM w wt B H v tv l (st1, to)) (hg : wt.grownBy w5 tv.ownBlock) (ho : OI w5 B tv' to') (hat : tv'.ownBlock = tv.ownBlock ∨ tv'.ownBlock = some wt.heap.size) : RpM w w5 B w5.heap.size v tv' l (st1, to') where
 row := h.row.move fun b hb => hg.block b (h.row.lt hb).2 (fun e => by
  obtain ⟨c1, k1⟩ := h.row.typed hb
  obtain ⟨c2, k2⟩ := h.ot.typed9 e.symm
  rw [k1] at k2
  cases k2)
 nd := fun x hx => have n := h.nd x hx; ⟨nw_blk n.wn fun p hp => hg.block _ (nw_ltB n.wn hp).2 (fun e => by
   obtain ⟨c1, k1⟩ := nw_typed n.wn hp
   obtain ⟨c2, k2⟩ := h.ot.typed9 e.symm
   rw [k1] at k2
   cases k2), ni_blk n.kn fun p hp => hg.block _ (ni_lt n.kn hp).2 (fun e => n.dj p hp e.symm), fun p hp => by have := n.wh p hp; have := h.hH; have := hg.size; omega, fun p hp => by have := n.kh p hp; have := h.hH; have := hg.size; omega, fun p hp e => by
   rcases hat with h8 | h8
   ·exact n.dj p hp (by rw [← h8]; exact e)
   ·rw [h8] at e
    have := n.kh p hp
    have := h.hH
    have e9 := Option.some.inj e
    omega⟩
 sn := h.sn
 eq := h.eq
 ot := ho
 bl := h.bl.grown hg h.bl.size (fun k e => by have := (h.ot.lt e).1; have := h.bB; omega)
 bB := h.bB
 BH := Nat.le_trans h.BH (Nat.le_trans h.hH hg.size)
 hH := Nat.le_refl _
 vH := fun b hb => by have := h.vH b hb; have := h.hH; have := hg.size; omega
 tH := fun b hb => (ho.lt hb).2
theorem RpM.rd {w wr : World} {B H : Nat} {v tv : Value} {l : List Tg} {st : List Tc × List Int} (h : RpM w wr B H v tv l st) (hl : l.length ≤ 1048576) (hok : ∀ n ∈ st.1, okT n) : ∃ a c, v = .slice a l.length c ∧ RdT wr a l := by
 obtain ⟨a, c, e⟩ := h.row.form
 refine ⟨a, c, e, hl, ?_⟩
 by_cases h0 : l = []
 ·exact .inl h0
 ·right
  obtain ⟨x0, hx0⟩ : ∃ x0, l[0]? = some x0 := ⟨l[0]'(List.length_pos_iff.2 h0), List.getElem?_eq_getElem _⟩
  obtain ⟨g0, c0, e0, -⟩ := h.row.at hx0
  rw [e] at e0
  injection e0 with e1 e2 e3
  subst e1
  refine ⟨g0, 0, rfl, fun i x hi => ?_⟩
  obtain ⟨g, c1, e4, ht⟩ := h.row.at hi
  rw [e] at e4
  injection e4 with e5 e6 e7
  cases e5
  rw [Nat.zero_add]
  have hm := List.mem_of_getElem? hi
  obtain ⟨k1, k2, k3, k4, k5, k6, k7, k8, k9⟩ := hok x.ct (by rw [← h.eq]; exact List.mem_map_of_mem hm)
  refine ⟨ht, ?_, ?_, k1, k2, k3, k4, k5⟩
  ·exact (h.nd x hm).wn.rd k6 k7
  ·exact (h.nd x hm).kn.rd k8 k9



def Ahd (ns : List Tc) : Prop := ∀ (k : Nat) (n : Tc), ns[k]? = some n → ∀ j ∈ n.ks, 0 ≤ j ∧ j < (k : Int)
theorem Ahd.snoc {ns : List Tc} {x : Tc} (h : Ahd ns) (hx : ∀ j ∈ x.ks, 0 ≤ j ∧ j < (ns.length : Int)) : Ahd (ns ++ [x]) := by
 intro k n hk j hj
 by_cases hl : k < ns.length
 ·rw [List.getElem?_append_left hl] at hk
  exact h k n hk j hj
 ·rw [List.getElem?_append_right (by omega)] at hk
  have h0 : k - ns.length = 0 := by
   have := (List.getElem?_eq_some_iff.1 hk).1
   simp at this
   omega
  rw [h0] at hk
  simp at hk
  subst hk
  have := hx j hj
  omega
theorem gD_lt {l : List Int} {i : Nat} (h : i < l.length) : l.getD i 0 ∈ l := by
 rw [List.getD_eq_getElem?_getD, List.getElem?_eq_getElem h]
 exact List.getElem_mem h

def fjnR (ds : List Dc) (fh fl : List Sc) : List Sc × Bool := if flatR ds fh = true ∧ flatR ds fl = true ∧ sumS fh + sumS fl ≤ 4096 ∧ (formB (formP fl ++ formP fh)).length ≤ 2000 then (formB (formP fl ++ formP fh), true) else ([], false)
end Go.Proofs.Ytffcklobignlfaa
