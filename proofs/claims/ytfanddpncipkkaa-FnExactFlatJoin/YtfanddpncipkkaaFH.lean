/- The bits of a form: the given l5Bits. -/
import Derived.Test.YtfanddpncipkkaaFG
import Derived.Test.YtfanddpncipkkaaK
namespace Go.Proofs.Ytfanddpncipkkaa
set_option linter.unusedVariables false
set_option linter.unusedSimpArgs false
open Go.RowKit

def segP (s : Sc) (k : Nat) : Int × Int := if s.v < 0 then (-1, (((tb s.ws k).toNat : Nat) : Int)) else (s.v, s.lo + (k : Int))
def segPs (s : Sc) (m : Nat) : List (Int × Int) := (List.range m).map (segP s)
def formP (fs : List Sc) : List (Int × Int) := fs.flatMap fun s => segPs s s.wd.toNat
theorem segPs_succ (s : Sc) (k : Nat) : segPs s (k + 1) = segPs s k ++ [segP s k] := by simp [segPs, List.range_succ]
theorem segPs_len (s : Sc) (k : Nat) : (segPs s k).length = k := by simp [segPs]
theorem formP_snoc (fs : List Sc) {k : Nat} {s : Sc} (h : fs[k]? = some s) : formP (fs.take (k + 1)) = formP (fs.take k) ++ segPs s s.wd.toNat := by
  rw [List.take_add_one, h]
  simp [formP]
theorem formP_len (fs : List Sc) (h : ∀ s ∈ fs, 0 ≤ s.wd) : ((formP fs).length : Int) = sumS fs := by
  induction fs with
  | nil => simp [formP, sumS]
  | cons s t ih =>
    have h1 := ih fun x hx => h x (List.mem_cons_of_mem _ hx)
    have h2 := h s (by simp)
    have e : formP (s :: t) = segPs s s.wd.toNat ++ formP t := by simp [formP]
    rw [e, List.length_append, segPs_len, sumS]
    simp
    omega

theorem segP_neg {v lo m bw : Int} {ws : List Nat} (k : Nat) (h : v < 0) : segP ⟨v, lo, m, bw, ws⟩ k = (-1, (((tb ws k).toNat : Nat) : Int)) := by simp [segP, h]
theorem segP_pos {v lo m bw : Int} {ws : List Nat} (k : Nat) (h : ¬ v < 0) : segP ⟨v, lo, m, bw, ws⟩ k = (v, lo + (k : Int)) := by simp [segP, h]

set_option maxHeartbeats 1000000 in
theorem l5Bits_any (fa : Option Addr) (fc nf : Nat) (ds : List Dc) (xs : List Sg) (w : World) (hr : RdS w fa xs) (hnf : xs.length = nf) (hD : dclR ds = true) (hf : formR ds (xs.map Sg.ct) = true) :
    Calls Try.prog 25 #[.slice fa nf fc] w fun e w' => ∃ v, e = .returned v ∧ OL5 w' w.heap.size v (formP (xs.map Sg.ct)) ∧ Below w.heap.size w w' := by
  obtain ⟨hall, hs1, hs2, hl2⟩ := formR_sum hD hf
  have hn2 : nf ≤ 2000 := by simp at hl2; omega
  have HD := kide hD
  have HALL := kide hall
  have HR := kide hr
  have HN := kide hnf
  clear hr hnf hall hf hl2 hs1 hD
  go_enter Try.func25, Try.ntmps25
  go_wp2_with fail
  go_loopw [3, 4] (fun v i wr => ∃ k : Nat, k ≤ nf ∧ i = .int .i64 (k : Int) ∧ OL5 wr w.heap.size v (formP ((xs.map Sg.ct).take k)) ∧ Below w.heap.size w wr) (fun _ i _ => nf - (intOf i).toNat)
  case atStart => exact ⟨0, Nat.zero_le _, rfl, OL5.empty w _ (Nat.le_refl _), (Below.refl _ _).alloc (Nat.le_refl _) _⟩
  case round =>
    obtain ⟨k, hk, rfl, hown, hbel⟩ := hrel
    obtain ⟨va, vc, rfl⟩ := hown.form
    have HO := kide hown
    have HB := kide hbel
    clear hown hbel
    by_cases hlt : k < nf
    · obtain ⟨⟨s, a1, c1⟩, gx⟩ : ∃ x, xs[k]? = some x := ⟨xs[k]'(by rw [HN.out]; exact hlt), List.getElem?_eq_getElem _⟩
      have gs : (xs.map Sg.ct)[k]? = some s := by rw [List.getElem?_map, gx]; rfl
      obtain ⟨b2, o2, rfl, hc2⟩ : ∃ b o, fa = some ⟨b, o, none⟩ ∧ ∀ i n, xs[i]? = some n → SgAt w b (o + i * 5) n := by
        rcases HR.out.2 with h | h
        · rw [h] at gx; simp at gx
        · exact h
      obtain ⟨⟨p0, p1, p2, p3, p4⟩, hsr, hi64⟩ := hc2 k _ gx
      obtain ⟨hok, hw1, hw2⟩ := HALL.out s (List.mem_of_getElem? gs)
      have hst := sumS_take (cs := xs.map Sg.ct) (k := k) (c := s) gs
      have htk := take_sum (fs := xs.map Sg.ct) (fun s hs => (HALL.out s hs).2.1) (k + 1)
      have hPS := formP_len ((xs.map Sg.ct).take k) (fun s hs => by have := HALL.out s (List.mem_of_mem_take hs); omega)
      rw [hst, ← hPS] at htk
      have HSN := kide (formP_snoc (xs.map Sg.ct) gs)
      obtain ⟨v, lo, wd, bw, ws⟩ := s
      simp only [Sg.hd] at p0 p1 p2 p3 p4 hsr hok hw1 hw2 htk hi64 HSN
      obtain ⟨m, rfl⟩ := Int.eq_ofNat_of_zero_le (show 0 ≤ wd by omega)
      rw [Int.toNat_natCast] at HSN
      have lb2 := block_lt_of_cell p0
      simp only at lb2
      obtain ⟨h60, h61, h62, h63⟩ := hi64
      have hvl : ¬ v < 0 → lo + (m : Int) ≤ 4096 ∧ 0 ≤ lo := by
        intro hv
        obtain ⟨z1, z2, z3, z4, z5⟩ := sgOk_vr hok (by simp only; omega)
        simp only at z1 z2 z3 z4 z5
        have hkk : v.toNat < ds.length := by omega
        have e : ds.getD v.toNat (.empty, 0) = ds[v.toNat] := by simp [List.getD, hkk]
        rw [e] at z5
        have := dclR_wd HD.out (List.getElem?_eq_getElem hkk)
        omega
      have hcw : v < 0 → (m : Int) ≤ 64 * (ws.length : Int) := by
        intro hv
        have hv1 : v = -1 := by
          by_cases h9 : v = -1
          · exact h9
          · have := (sgOk_vr hok (by simpa using h9)).1
            simp only at this
            omega
        obtain ⟨-, z2, z3⟩ := sgOk_cst hok (by simpa using hv1)
        simp only at z2 z3
        have := right_W z3
        omega
      have HSR := kide hsr
      have HVL := kide hvl
      have HCW := kide hcw
      have i0 : (k : Int) < (nf : Int) := by omega
      clear hc2 gx gs hok hst hPS hsr hvl hcw
      generalize formP ((xs.map Sg.ct).take k) = FP at *
      go_wp2_with fail
      go_loopw [3, 5] (fun v9 q u => ∃ j : Nat, j ≤ m ∧ q = .int .i64 (j : Int) ∧ OL5 u w.heap.size v9 (FP ++ segPs ⟨v, lo, (m : Int), bw, ws⟩ j) ∧ Below w.heap.size w u) (fun _ q _ => m - (intOf q).toNat)
      case atStart => exact ⟨0, Nat.zero_le _, rfl, by simpa [segPs] using HO.out, HB.out⟩
      case round =>
        clear HO HB
        obtain ⟨j, hj, rfl, hown, hbel⟩ := hrel
        obtain ⟨va, vc, rfl⟩ := hown.form
        have HO := kide hown
        have HB := kide hbel
        have d0 := (hbel.cell (p := ⟨b2, o2 + k * 5, none⟩) lb2).trans p0
        have d1 := (hbel.cell (p := ⟨b2, o2 + k * 5 + 1, none⟩) lb2).trans p1
        have d2 := (hbel.cell (p := ⟨b2, o2 + k * 5 + 2, none⟩) lb2).trans p2
        have d3 := (hbel.cell (p := ⟨b2, o2 + k * 5 + 3, none⟩) lb2).trans p3
        have d4 := (hbel.cell (p := ⟨b2, o2 + k * 5 + 4, none⟩) lb2).trans p4
        have HSS : Hid (FP ++ segPs ⟨v, lo, (m : Int), bw, ws⟩ (j + 1) = (FP ++ segPs ⟨v, lo, (m : Int), bw, ws⟩ j) ++ [segP ⟨v, lo, (m : Int), bw, ws⟩ j]) := by show _ = _; rw [segPs_succ, List.append_assoc]
        have hsl := segPs_len ⟨v, lo, (m : Int), bw, ws⟩ j
        have hll : (FP ++ segPs ⟨v, lo, (m : Int), bw, ws⟩ j).length = FP.length + j := by rw [List.length_append, hsl]
        have HLL := kide hll
        clear hsl hll
        by_cases hlj : j < m
        · have j0 : (j : Int) < (m : Int) := by omega
          by_cases hv : v < 0
          · have HL1 := kide (fun u (hu : Below w.heap.size w u) => l1Bit_any bw a1 c1 ws j u (HSR.out.later hu) (by have := HCW.out hv; omega))
            have HSP := kide (segP_neg (lo := lo) (m := (m : Int)) (bw := bw) (ws := ws) j hv)
            have hwl := HSR.out.1
            obtain ⟨wn, hwn⟩ : ∃ wn, ws.length = wn := ⟨_, rfl⟩
            rw [hwn] at HL1 d4 hwl
            generalize hty : (tb ws j).toNat = y at *
            have hy1 : y ≤ 1 := by rw [← hty]; cases tb ws j <;> simp
            rw [HSP.out] at HSS
            clear hown hbel p0 p1 p2 p3 p4 HVL HCW hty HSP
            generalize FP ++ segPs ⟨v, lo, (m : Int), bw, ws⟩ j = FSq at *
            have hwy : IntKind.i64.wrap (y : Int) = (y : Int) := by rw [IntKind.wrap_i64]; omega
            go_wp2_with fail
            refine Calls.mono (HL1.out _ HB.out) ?_
            rintro e w1 ⟨rfl, hb1⟩
            have B1 := kide (HB.out.trans (hb1.mono HB.out.size))
            have hbx : Below w1.heap.size w1 (w1.alloc (Obj.cells #[Value.int .i64 (-1), Value.int .i64 (y : Int)] 86)) := (Below.refl _ _).alloc (Nat.le_refl _) _
            have O2 := kide ((HO.out.later hb1).later hbx)
            have X2 := kide (Bz.new w1 #[Value.int .i64 (-1), Value.int .i64 (y : Int)] 86)
            have B2 := kide (B1.out.trans (hbx.mono B1.out.size))
            clear hb1 hbx HO HB B1 d0 d1 d2 d3 d4
            go_wp2_with (at_builtin; refine wpList_appL5 rfl _ _ rfl w.heap.size _ _ (-1, (y : Int)) rfl O2.out w1.heap.size 1 rfl (X2.out.cell 0) (X2.out.cell 1) (by have := HLL.out; omega) B2.out.size ?_)
            intro g9 c9 w2 ho9 hg9
            have B3 := kide (Below.grown B2.out hg9 B2.out.size (fun j hj => (O2.out.lt hj).1))
            have O3 : Hid (OL5 w2 w.heap.size (.slice (some ⟨g9, 0, none⟩) (FSq.length + 1) c9) (FP ++ segPs ⟨v, lo, (m : Int), bw, ws⟩ (j + 1))) := by
              rw [HSS.out]; exact ho9
            clear ho9 hg9
            go_wp2_with fail
            go_roundw
            case rel => exact ⟨j + 1, by omega, by go_num, O3.out, B3.out⟩
            case measure => simp [intOf]; omega
          · have HSP := kide (segP_pos (lo := lo) (m := (m : Int)) (bw := bw) (ws := ws) j hv)
            obtain ⟨hlm, hl0⟩ := HVL.out (by omega)
            have hwy : IntKind.i64.wrap (lo + (j : Int)) = lo + (j : Int) := by rw [IntKind.wrap_i64]; omega
            rw [HSP.out] at HSS
            clear hown hbel p2 p3 p4 HVL HCW HSP d3 d4
            generalize FP ++ segPs ⟨v, lo, (m : Int), bw, ws⟩ j = FSq at *
            go_wp2_with fail
            refine wp_region_x (SA := fun _ => False) (SB := fun uu => Below w.heap.size w uu) (k := 999) (by kernel_rfl) ?_
            have hu0 : Hid (Below w.heap.size w wr.drew) := HB.out.drew
            have O0 := kide (HO.out.later ((Below.refl _ _).drew : Below wr.heap.size wr wr.drew))
            clear HO HB d0 d1 d2
            generalize wr.drew = u0 at *
            try go_simp
            refine wpAnyX_both (T := fun uu => Below w.heap.size w uu) (i := 0) (v := Value.slice va FSq.length vc) rfl (by kernel_rfl) (by kernel_rfl) (by kernel_rfl) (fun _ _ _ h => by first | exact h | exact h.elim) (by decide) (fun _ h => h.elim) (fun _ h => h) (Sx.behind (by kernel_rfl) hu0.out) (Or.inl ⟨by rfl, fun uu hu => by go_simp⟩) ?_
            try go_simp
            refine wpAnyX_both (T := fun uu => Below w.heap.size w uu) (i := 1) (v := Value.slice (some ⟨b2, o2, none⟩) nf fc) rfl (by kernel_rfl) (by kernel_rfl) (by kernel_rfl) (fun _ _ _ h => by first | exact h | exact h.elim) (by decide) (fun _ h => h.elim) (fun _ h => h) (Sx.behind (by kernel_rfl) hu0.out) (Or.inl ⟨by rfl, fun uu hu => by go_simp⟩) ?_
            try go_simp
            refine wpAnyX_both (T := fun uu => Below w.heap.size w uu) (i := 2) (v := Value.int .i64 (k : Int)) rfl (by kernel_rfl) (by kernel_rfl) (by kernel_rfl) (fun _ _ _ h => by first | exact h | exact h.elim) (by decide) (fun _ h => h.elim) (fun _ h => h) (Sx.behind (by kernel_rfl) hu0.out) (Or.inl ⟨by rfl, fun uu hu => by go_simp⟩) ?_
            try go_simp
            refine wpAnyX_both (T := fun uu => Below w.heap.size w uu) (i := 3) (v := Value.pointer (some ⟨b2, o2 + k * 5, none⟩)) rfl (by kernel_rfl) (by kernel_rfl) (by kernel_rfl) (fun _ _ _ h => by first | exact h | exact h.elim) (by decide) (fun _ h => h.elim) (fun _ h => h) (Sx.behind (by kernel_rfl) hu0.out) (Or.inl ⟨by rfl, fun uu hu => by go_simp⟩) ?_
            try go_simp
            refine wpAnyX_both (T := fun uu => Below w.heap.size w uu) (i := 4) (v := Value.pointer (some ⟨b2, o2 + k * 5, none⟩)) rfl (by kernel_rfl) (by kernel_rfl) (by kernel_rfl) (fun _ _ _ h => by first | exact h | exact h.elim) (by decide) (fun _ h => h.elim) (fun _ h => h) (Sx.behind (by kernel_rfl) hu0.out) (Or.inl ⟨by rfl, fun uu hu => by go_simp⟩) ?_
            try go_simp
            refine wpAnyX_both (T := fun uu => Below w.heap.size w uu) (i := 5) (v := Value.int .i64 v) rfl (by kernel_rfl) (by kernel_rfl) (by kernel_rfl) (fun _ _ _ h => by first | exact h | exact h.elim) (by decide) (fun _ h => h.elim) (fun _ h => h) (Sx.behind (by kernel_rfl) hu0.out) (Or.inl ⟨by rfl, fun uu hu => by have e1 := (kcell hu b2 (o2 + k * 5) lb2).trans p0; go_simp⟩) ?_
            try go_simp
            refine wpAnyX_both (T := fun uu => Below w.heap.size w uu) (i := 6) (v := Value.slice (some ⟨b2, o2, none⟩) nf fc) rfl (by kernel_rfl) (by kernel_rfl) (by kernel_rfl) (fun _ _ _ h => by first | exact h | exact h.elim) (by decide) (fun _ h => h.elim) (fun _ h => h) (Sx.behind (by kernel_rfl) hu0.out) (Or.inl ⟨by rfl, fun uu hu => by go_simp⟩) ?_
            try go_simp
            refine wpAnyX_both (T := fun uu => Below w.heap.size w uu) (i := 7) (v := Value.int .i64 (k : Int)) rfl (by kernel_rfl) (by kernel_rfl) (by kernel_rfl) (fun _ _ _ h => by first | exact h | exact h.elim) (by decide) (fun _ h => h.elim) (fun _ h => h) (Sx.behind (by kernel_rfl) hu0.out) (Or.inl ⟨by rfl, fun uu hu => by go_simp⟩) ?_
            try go_simp
            refine wpAnyX_both (T := fun uu => Below w.heap.size w uu) (i := 8) (v := Value.pointer (some ⟨b2, o2 + k * 5, none⟩)) rfl (by kernel_rfl) (by kernel_rfl) (by kernel_rfl) (fun _ _ _ h => by first | exact h | exact h.elim) (by decide) (fun _ h => h.elim) (fun _ h => h) (Sx.behind (by kernel_rfl) hu0.out) (Or.inl ⟨by rfl, fun uu hu => by go_simp⟩) ?_
            try go_simp
            refine wpAnyX_both (T := fun uu => Below w.heap.size w uu) (i := 9) (v := Value.pointer (some ⟨b2, o2 + k * 5 + 1, none⟩)) rfl (by kernel_rfl) (by kernel_rfl) (by kernel_rfl) (fun _ _ _ h => by first | exact h | exact h.elim) (by decide) (fun _ h => h.elim) (fun _ h => h) (Sx.behind (by kernel_rfl) hu0.out) (Or.inl ⟨by rfl, fun uu hu => by go_simp⟩) ?_
            try go_simp
            refine wpAnyX_both (T := fun uu => Below w.heap.size w uu) (i := 10) (v := Value.int .i64 lo) rfl (by kernel_rfl) (by kernel_rfl) (by kernel_rfl) (fun _ _ _ h => by first | exact h | exact h.elim) (by decide) (fun _ h => h.elim) (fun _ h => h) (Sx.behind (by kernel_rfl) hu0.out) (Or.inl ⟨by rfl, fun uu hu => by have e1 := (kcell hu b2 (o2 + k * 5 + 1) lb2).trans p1; go_simp⟩) ?_
            try go_simp
            refine wpAnyX_both (T := fun uu => Below w.heap.size w uu) (i := 11) (v := Value.int .i64 (j : Int)) rfl (by kernel_rfl) (by kernel_rfl) (by kernel_rfl) (fun _ _ _ h => by first | exact h | exact h.elim) (by decide) (fun _ h => h.elim) (fun _ h => h) (Sx.behind (by kernel_rfl) hu0.out) (Or.inl ⟨by rfl, fun uu hu => by go_simp⟩) ?_
            try go_simp
            refine wpAnyX_both (T := fun uu => Below w.heap.size w uu) (i := 12) (v := Value.int .i64 (lo + (j : Int))) rfl (by kernel_rfl) (by kernel_rfl) (by kernel_rfl) (fun _ _ _ h => by first | exact h | exact h.elim) (by decide) (fun _ h => h.elim) (fun _ h => h) (Sx.behind (by kernel_rfl) hu0.out) (Or.inl ⟨by rfl, fun uu hu => by go_simp; try exact hwy⟩) ?_
            try go_simp
            refine wpAnyX_both (T := fun uu => Below w.heap.size w uu) (i := 13) (v := Value.agg #[Value.int .i64 v, Value.int .i64 (lo + (j : Int))]) rfl (by kernel_rfl) (by kernel_rfl) (by kernel_rfl) (fun _ _ _ h => by first | exact h | exact h.elim) (by decide) (fun _ h => h.elim) (fun _ h => h) (Sx.behind (by kernel_rfl) hu0.out) (Or.inl ⟨by rfl, fun uu hu => by go_simp⟩) ?_
            try go_simp
            refine wpAnyX_ready (rs := [14]) (by kernel_rfl) (by simp) (AllX.cons rfl (fun K hK => ?_) AllX.nil)
            go_simp
            have hbx : Below u0.heap.size u0 (u0.alloc (Obj.cells #[Value.int .i64 v, Value.int .i64 (lo + (j : Int))] 86)) := (Below.refl _ _).alloc (Nat.le_refl _) _
            have XN1 := kide (Bz.new u0 #[Value.int .i64 v, Value.int .i64 (lo + (j : Int))] 86)
            have O1 := kide (O0.out.later hbx)
            have hu1 := kide (hu0.out.trans (hbx.mono hu0.out.size))
            generalize hgn : u0.heap.size = gn at *
            generalize u0.alloc (Obj.cells #[Value.int .i64 v, Value.int .i64 (lo + (j : Int))] 86) = u1 at *
            clear hbx hgn
            refine hK _ _ (Sx.behind (by kernel_rfl) hu1.out) ?_
            clear hK K
            try go_simp
            refine wpAnyX_ready (rs := [15]) (by kernel_rfl) (by simp) (AllX.cons rfl (fun K hK => ?_) AllX.nil)
            refine step_appL5 _ rfl _ _ rfl w.heap.size (Value.slice va FSq.length vc) FSq (v, lo + (j : Int)) (by first | rfl | simp [Act.eval]) O1.out gn 1 (by first | rfl | simp [Act.eval]) (XN1.out.cell 0) (XN1.out.cell 1) (by have := HLL.out; omega) hu1.out.size ?_
            intro g9 c9 u2 ho9 hg9
            have hu2 := kide (Below.grown hu1.out hg9 hu1.out.size (fun j hj => (O1.out.lt hj).1))
            have OF : Hid (OL5 u2 w.heap.size (.slice (some ⟨g9, 0, none⟩) (FSq.length + 1) c9) (FP ++ segPs ⟨v, lo, (m : Int), bw, ws⟩ (j + 1))) := by rw [HSS.out]; exact ho9
            clear ho9 hg9
            refine hK _ _ (Sx.behind (by kernel_rfl) hu2.out) ?_
            clear hK K
            try go_simp
            refine wpAnyX_both (T := fun uu => Below w.heap.size w uu) (i := 16) (v := Value.slice (some ⟨g9, 0, none⟩) (FSq.length + 1) c9) rfl (by kernel_rfl) (by kernel_rfl) (by kernel_rfl) (fun _ _ _ h => by first | exact h | exact h.elim) (by decide) (fun _ h => h.elim) (fun _ h => h) (Sx.behind (by kernel_rfl) hu2.out) (Or.inl ⟨by rfl, fun uu hu => by go_simp⟩) ?_
            try go_simp
            refine wpAnyX_done (by kernel_rfl) ?_ _
            go_wp2_with fail
            go_roundw
            case rel => exact ⟨j + 1, by omega, by go_num, OF.out, hu2.out⟩
            case measure => simp [intOf]; omega
        · have ej : j = m := by omega
          subst ej
          generalize FP ++ segPs ⟨v, lo, (j : Int), bw, ws⟩ j = FSq at *
          clear HSS
          clear hown hbel p0 p1 p3 p4 d0 d1 d3 d4 HVL HCW
          go_wp2_with fail
          go_roundw
          case rel => exact ⟨k + 1, by omega, by go_num, by rw [HSN.out]; exact HO.out, HB.out⟩
          case measure => simp [intOf]; omega
    · have ek : k = nf := by omega
      subst ek
      have HE : Hid ((xs.map Sg.ct).take k = xs.map Sg.ct) := by
        show _ = _
        rw [List.take_of_length_le (by rw [List.length_map, HN.out]; exact Nat.le_refl _)]
      go_wp2_with fail
      go_ret
      exact ⟨_, rfl, by have h9 := HO.out; rw [HE.out] at h9; rw [HE.out]; exact h9, HB.out⟩

end Go.Proofs.Ytfanddpncipkkaa
