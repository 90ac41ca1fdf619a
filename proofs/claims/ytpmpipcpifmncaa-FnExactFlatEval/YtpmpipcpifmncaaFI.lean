/- What the given FlatEval answers. -/
import Derived.Test.YtpmpipcpifmncaaFH
import Derived.Test.YtpmpipcpifmncaaFE
import Derived.Test.YtpmpipcpifmncaaMI
import Derived.Test.YtpmpipcpifmncaaKJ
import Derived.Test.YtpmpipcpifmncaaG1
namespace Go.Proofs.Ytpmpipcpifmncaa
set_option linter.unusedVariables false
set_option linter.unusedSimpArgs false
open Go.RowKit

/-- A told bit by values. -/
def bitP (vs : List Wr) (p : Int × Int) : Nat := if p.1 < 0 then p.2.toNat else (tb (vs.getD p.1.toNat (0, [])).2 p.2.toNat).toNat

theorem segP_bit {ds : List Dc} (vs : List Wr) {s : Sc} (h : sgOk ds s = true) (k : Nat) : bitP vs (segP s k) = (segB vs s k).toNat := by
  by_cases hv : s.v = -1
  · simp [segP, bitP, segB, hv]
  · obtain ⟨h1, h2, h3, h4, h5⟩ := sgOk_vr h hv
    have hn : ¬ s.v < 0 := by omega
    simp only [segP, if_neg hn, bitP, segB, if_neg hv]
    rw [show (s.lo + (k : Int)).toNat = s.lo.toNat + k by omega]
theorem formP_bits {ds : List Dc} (vs : List Wr) (fs : List Sc) (h : ∀ s ∈ fs, sgOk ds s = true) : (formP fs).map (bitP vs) = flatL vs fs := by
  induction fs with
  | nil => rfl
  | cons s t ih =>
    have e1 : formP (s :: t) = segPs s s.wd.toNat ++ formP t := by simp [formP]
    have e2 : flatL vs (s :: t) = segL vs s ++ flatL vs t := by simp [flatL]
    rw [e1, e2, List.map_append, ih fun x hx => h x (List.mem_cons_of_mem _ hx)]
    congr 1
    unfold segPs segL
    rw [List.map_map]
    refine List.map_congr_left fun k _ => ?_
    exact segP_bit vs (h s (by simp)) k

/-- What is true of a told bit. -/
def okP (ds : List Dc) (p : Int × Int) : Prop := (p.1 < 0 → 0 ≤ p.2 ∧ p.2 ≤ 1) ∧ (¬ p.1 < 0 → p.1 < ds.length ∧ 0 ≤ p.2 ∧ p.2 < (ds.getD p.1.toNat (.empty, 0)).2)
theorem formP_ok {ds : List Dc} {fs : List Sc} (h : ∀ s ∈ fs, sgOk ds s = true) : ∀ p ∈ formP fs, okP ds p := by
  intro p hp
  obtain ⟨s, hs, hp⟩ := List.mem_flatMap.1 hp
  obtain ⟨k, hk, rfl⟩ := List.mem_map.1 hp
  have hk2 := List.mem_range.1 hk
  have h1 := h s hs
  by_cases hv : s.v = -1
  · have hn : s.v < 0 := by omega
    simp only [segP, if_pos hn]
    refine ⟨fun _ => ?_, fun h9 => absurd (show (-1 : Int) < 0 by decide) h9⟩
    cases tb s.ws k <;> simp
  · obtain ⟨h1, h2, h3, h4, h5⟩ := sgOk_vr h1 hv
    have hn : ¬ s.v < 0 := by omega
    simp only [segP, if_neg hn]
    exact ⟨fun h9 => absurd h9 hn, fun _ => ⟨h2, by simp only; omega, by simp only; omega⟩⟩

theorem OL5.cells {w : World} {B g n c : Nat} {l : List (Int × Int)} (h : OL5 w B (.slice (some ⟨g, 0, none⟩) n c) l) {i : Nat} {x : Int × Int} (hi : l[i]? = some x) : w.cell? ⟨g, i * 2, none⟩ = some (.int .i64 x.1) ∧ w.cell? ⟨g, i * 2 + 1, none⟩ = some (.int .i64 x.2) := by
  obtain ⟨g', c', e, h1, h2⟩ := h.at hi
  cases e
  exact ⟨h1, h2⟩
theorem one_cell {w : World} {g y : Nat} (h : w.cell? ⟨g, 0, none⟩ = some (.int .u8 (y : Int))) : ∀ i, i < [y].length → w.cell? ⟨g, 0 + i, none⟩ = some (.int .u8 (([y].getD i 0 : Nat) : Int)) := by
  intro i hi
  have e : i = 0 := by simp at hi; omega
  subst e
  exact h
/-- Bytes told do not touch the bits. -/
theorem OL5.past {w w' : World} {B B' : Nat} {v v' : Value} {l : List (Int × Int)} {bs : List Nat} (h : OL5 w B v l) (h' : OwB w B' v' bs) (hg : w.grownBy w' v'.ownBlock) : OL5 w' B v l := by
  refine h.move fun b hb => ?_
  obtain ⟨cur, hc⟩ := h.typed hb
  refine hg.block b (h.lt hb).2 fun e => ?_
  rcases h'.2 with ⟨rfl, -⟩ | ⟨g9, cap, cur9, rfl, -, hh, -⟩
  · cases e
  · cases e
    rw [hc] at hh
    cases hh
theorem Bz.past {w w' : World} {b B : Nat} {cs : Array Value} {t : TypeId} {v : Value} {bs : List Nat} (h : Bz w b cs t) (h' : OwB w B v bs) (hb : b < B) (hg : w.grownBy w' v.ownBlock) : Bz w' b cs t := by
  unfold Bz
  rw [hg.block b h.lt (fun e => by have := h'.own b e.symm; omega)]
  exact h

set_option maxHeartbeats 1000000 in
theorem specFlev_any (da va fa : Option Addr) (dc vc fc n nf : Nat) (ds : List Dc) (vals : List Bw) (xs : List Sg) (w : World) (hd : RdD w da ds) (hv : RdW w va vals) (hn : vals.length = n) (hr : RdS w fa xs) (hnf : xs.length = nf) :
    Calls Try.prog 9 #[.slice da ds.length dc, .slice va n vc, .slice fa nf fc] w (RetB w (flevR ds (vals.map Bw.ct) (xs.map Sg.ct))) := by
  have hb0 : Below w.heap.size w (w.alloc (Obj.cells #[Value.int .i64 0, Value.slice none 0 0] 30)) := (Below.refl _ _).alloc (Nat.le_refl _) _
  have XR0 := Bz.new w #[Value.int .i64 0, Value.slice none 0 0] 30
  have HV := kide (specValues_any da va dc vc ds vals (w.alloc (Obj.cells #[Value.int .i64 0, Value.slice none 0 0] 30)) (hd.later hb0) (hv.later hb0) n hn)
  by_cases hval : valR ds (vals.map Bw.ct) = true
  · rw [hval] at HV
    obtain ⟨hD, hvl, hvv⟩ := valR_iff.1 hval
    have HF := kide (fun u (hu : Below w.heap.size w u) => specFlat_any fa da fc dc nf ds xs u (hd.later hu) (hr.later hu) hnf)
    rw [flatR_form, hD, Bool.true_and] at HF
    by_cases hf : formR ds (xs.map Sg.ct) = true
    · rw [hf] at HF
      obtain ⟨hall, hs1, hs2, hl2⟩ := formR_sum hD hf
      have HBI := kide (fun u (hu : Below w.heap.size w u) => l5Bits_any fa fc nf ds xs u (hr.later hu) hnf hD hf)
      have hok := formP_ok (ds := ds) (fs := xs.map Sg.ct) (fun s hs => (hall s hs).1)
      have hpb := formP_bits (ds := ds) (vals.map Bw.ct) (xs.map Sg.ct) (fun s hs => (hall s hs).1)
      have hpl := formP_len (xs.map Sg.ct) (fun s hs => by have := hall s hs; omega)
      have HRES : Hid (flevR ds (vals.map Bw.ct) (xs.map Sg.ct) = ((((formP (xs.map Sg.ct)).map (bitP (vals.map Bw.ct))).length : Int), pack ((formP (xs.map Sg.ct)).map (bitP (vals.map Bw.ct))), true)) := by
        show _ = _
        rw [flevR, if_pos ⟨hval, hf⟩, ← hpl, ← hpb, List.length_map]
      rw [HRES.out]
      generalize formP (xs.map Sg.ct) = PS at *
      have hl1 : 1 ≤ PS.length := by omega
      have hl3 : PS.length ≤ 4096 := by omega
      have HVV := kide hvv
      have HVN : Hid (n = ds.length) := by show _ = _; simp at hvl; omega
      have HOK := kide hok
      have HHV := kide hv
      have HN := kide hn
      have BW0 := kide hb0
      have XR := kide XR0
      clear HRES hb0 XR0 hd hv hr hn hnf hval hf hall hs1 hs2 hl2 hD hvl hvv hok hpb hpl
      go_enter Try.func9, Try.ntmps9
      go_wp2_with fail
      refine Calls.mono HV.out ?_
      rintro e w1 ⟨rfl, hb1⟩
      have B1 := kide (BW0.out.trans (hb1.mono BW0.out.size))
      have X1 := kide (XR.out.later hb1)
      clear hb1 HV BW0 XR
      go_wp2_with fail
      refine Calls.mono (HF.out w1 B1.out) ?_
      rintro e w2 ⟨rfl, hb2⟩
      have B2 := kide (B1.out.trans (hb2.mono B1.out.size))
      have X2 := kide (X1.out.later hb2)
      clear hb2 HF B1 X1
      go_wp2_with fail
      refine Calls.mono (HBI.out w2 B2.out) ?_
      rintro e w3 ⟨v3, rfl, ho3, hb3⟩
      have B3 := kide (B2.out.trans (hb3.mono B2.out.size))
      have X3 := kide (X2.out.later hb3)
      have ho3' : OL5 w3 (w.heap.size + 1) v3 PS := by
        refine ⟨ho3.1, ?_⟩
        rcases ho3.2 with h | ⟨g, cap, cur, e, hg, r⟩
        · exact .inl h
        · exact .inr ⟨g, cap, cur, e, by have := X2.out.lt; omega, r⟩
      obtain ⟨b3, c3, rfl⟩ := ho3.form
      have O3 := kide ho3'
      clear hb3 HBI B2 X2 ho3 ho3'
      have hb3s : ∃ g3, b3 = some ⟨g3, 0, none⟩ := by
        obtain ⟨g', c', e', -⟩ := O3.out.at (List.getElem?_eq_getElem (show 0 < PS.length by omega))
        cases e'
        exact ⟨g', rfl⟩
      obtain ⟨g3, rfl⟩ := hb3s
      generalize hpn : PS.length = np at *
      have HPN := kide hpn
      clear hpn
      generalize hBF : bitP (vals.map Bw.ct) = BF at *
      have HBF := kide hBF
      clear hBF
      have hbx : Below w3.heap.size w3 (w3.alloc (Obj.cells #[] 5)) := (Below.refl _ _).alloc (Nat.le_refl _) _
      have B4 := kide (B3.out.trans (hbx.mono B3.out.size))
      have X4 := kide (X3.out.later hbx)
      have O4 := kide (O3.out.later hbx)
      have L4 : Hid (OwB (w3.alloc (Obj.cells #[] 5)) (w.heap.size + 1) (.slice (some ⟨w3.heap.size, 0, none⟩) 0 0) []) := OwB.nil _ _ _ rfl (by have := X3.out.lt; omega)
      clear hbx B3 X3 O3
      go_wp2_with fail
      generalize w3.alloc (Obj.cells #[] 5) = w4 at *
      obtain ⟨vb, hvb⟩ : ∃ vb, w.heap.size = vb := ⟨_, rfl⟩
      rw [hvb] at X4 O4 L4
      simp only [hvb]
      have HVB := kide hvb
      clear hvb
      go_loopw [9, 10] (fun v i wr => ∃ k : Nat, k ≤ np ∧ i = .int .i64 (k : Int) ∧ OwB wr (vb + 1) v ((PS.take k).map BF) ∧ OL5 wr (vb + 1) (.slice (some ⟨g3, 0, none⟩) np c3) PS ∧ Bz wr vb #[Value.int .i64 0, Value.slice none 0 0] 30 ∧ Below w.heap.size w wr) (fun _ i _ => np - (intOf i).toNat)
      case atStart => exact ⟨0, Nat.zero_le _, rfl, L4.out, O4.out, X4.out, B4.out⟩
      case round =>
        clear B4 X4 O4 L4
        obtain ⟨k, hk, rfl, hl, ho, hx, hB⟩ := hrel
        have hbl : ((PS.take k).map BF).length = k := by rw [List.length_map, List.length_take]; have := HPN.out; omega
        have HLf : Hid (∀ x ∈ (PS.take k).map BF, x < 256) := by
          show ∀ _, _
          intro x hx
          obtain ⟨p, hp, rfl⟩ := List.mem_map.1 hx
          have h9 := HOK.out p (List.mem_of_mem_take hp)
          rw [← HBF.out]
          unfold bitP
          split
          · rename_i h8
            have := h9.1 h8
            omega
          · cases tb _ _ <;> simp
        obtain ⟨la, lc, rfl, -⟩ := hl.shape (by omega) HLf.out
        rw [hbl] at hl ⊢
        have HL := kide hl
        have HO := kide ho
        have HX := kide hx
        have HB := kide hB
        have HBL := kide hbl
        clear hl ho hx hB hbl
        by_cases hlt : k < np
        · obtain ⟨⟨pv, pa⟩, gp⟩ : ∃ p, PS[k]? = some p := ⟨PS[k]'(by rw [HPN.out]; exact hlt), List.getElem?_eq_getElem _⟩
          obtain ⟨d0, d1⟩ := HO.out.cells gp
          simp only at d0 d1
          have hop := HOK.out _ (List.mem_of_getElem? gp)
          have HTK : Hid ((PS.take (k + 1)).map BF = (PS.take k).map BF ++ [BF (pv, pa)]) := by
            show _ = _
            rw [List.take_add_one, gp]; simp
          have HGP := kide gp
          have k0 : (k : Int) < (np : Int) := by omega
          obtain ⟨ho1, ho2⟩ := hop
          simp only at ho1 ho2
          by_cases hv : pv < 0
          · obtain ⟨ha0, ha1⟩ := ho1 hv
            obtain ⟨y, rfl⟩ := Int.eq_ofNat_of_zero_le ha0
            have hbf : BF (pv, (y : Int)) = y := by rw [← HBF.out]; simp [bitP, hv]
            rw [hbf] at HTK
            have hwy : IntKind.u8.wrap (y : Int) = (y : Int) := by rw [IntKind.wrap_u8]; omega
            clear ho1 ho2 gp hbf
            generalize (PS.take k).map BF = LB at *
            have hbx : Below wr.heap.size wr (wr.alloc (Obj.cells #[Value.int .u8 (y : Int)] 5)) := (Below.refl _ _).alloc (Nat.le_refl _) _
            have L5 := kide (HL.out.kept hbx)
            have O5 := kide (HO.out.later hbx)
            have X5 := kide (HX.out.later hbx)
            have B5 := kide (HB.out.trans (hbx.mono HB.out.size))
            have XN := kide (Bz.new wr #[Value.int .u8 (y : Int)] 5)
            clear hbx HL HO HX HB
            go_wp2_with (at_builtin; refine wpList_appB _ rfl _ _ rfl (vb + 1) _ LB y rfl L5.out wr.heap.size rfl (XN.out.cell 0) (by have := HBL.out; omega) (by have := X5.out.lt; omega) ?_)
            intro v9 w9 hl9 hg9
            have B6 := kide (Below.grown B5.out hg9 B5.out.size (fun j hj => by have := L5.out.own j hj; have := HVB.out; omega))
            have O6 := kide (O5.out.past L5.out hg9)
            have X6 := kide (X5.out.past L5.out (Nat.lt_succ_self _) hg9)
            have L6 := kide (show OwB w9 (vb + 1) v9 ((PS.take (k + 1)).map BF) from by rw [HTK.out]; exact hl9)
            clear hl9 hg9 L5 O5 X5 B5 XN
            go_wp2_with fail
            go_roundw
            case rel => exact ⟨k + 1, by omega, by go_num, L6.out, O6.out, X6.out, B6.out⟩
            case measure => simp [intOf]; omega
          · obtain ⟨hp1, hp2, hp3⟩ := ho2 hv
            obtain ⟨q, rfl⟩ := Int.eq_ofNat_of_zero_le (show 0 ≤ pv by omega)
            obtain ⟨z, rfl⟩ := Int.eq_ofNat_of_zero_le hp2
            rw [Int.toNat_natCast] at hp3
            have hqv : q < vals.length := by have := HVN.out; have := HN.out; omega
            obtain ⟨⟨yd, ya, yc, yw⟩, gy⟩ : ∃ y, vals[q]? = some y := ⟨vals[q], List.getElem?_eq_getElem hqv⟩
            obtain ⟨hy1, hy2⟩ := HVV.out q (by simpa using hqv)
            have ey : (vals.map Bw.ct).getD q (0, []) = (yd, yw) := by simp [List.getD, gy, Bw.ct]
            rw [ey] at hy1 hy2
            simp only at hy1 hy2
            have hyW := right_W hy1
            obtain ⟨b7, o7, rfl, hcv⟩ : ∃ b o, va = some ⟨b, o, none⟩ ∧ ∀ i x, vals[i]? = some x → BwAt w b (o + i * 2) x := by
              rcases HHV.out.2 with h0 | h0
              · rw [h0] at gy; simp at gy
              · exact h0
            obtain ⟨z0, z1, zr, -⟩ := hcv q _ gy
            simp only at z0 z1 zr
            have lb7 := block_lt_of_cell z0
            simp only at lb7
            have HBT := kide (fun u (hu : Below w.heap.size w u) => l1Bit_any yd ya yc yw z u (zr.later hu) (by omega))
            have hbf : BF ((q : Int), (z : Int)) = (tb yw z).toNat := by rw [← HBF.out]; unfold bitP; rw [if_neg (by simp only; omega)]; simp only [Int.toNat_natCast, ey]
            rw [hbf] at HTK
            generalize (tb yw z).toNat = y at *
            have qn : (q : Int) < (n : Int) := by have := HN.out; omega
            have HZ0 := kide z0
            have HZ1 := kide z1
            have e2 := (HB.out.cell (p := ⟨b7, o7 + q * 2, none⟩) lb7).trans z0
            have e3 := (HB.out.cell (p := ⟨b7, o7 + q * 2 + 1, none⟩) lb7).trans z1
            clear ho1 ho2 gp hbf gy ey hy1 hy2 hyW hcv zr z0 z1 hqv
            generalize (PS.take k).map BF = LB at *
            generalize hyn : yw.length = yn at *
            clear hyn
            go_wp2_with fail
            refine wp_region_x (SA := fun _ => False) (SB := fun uu => uu.cell? ⟨g3, k * 2, none⟩ = some (Value.int .i64 (q : Int)) ∧ uu.cell? ⟨g3, k * 2 + 1, none⟩ = some (Value.int .i64 (z : Int)) ∧ uu.cell? ⟨b7, o7 + q * 2, none⟩ = some (Value.int .i64 yd) ∧ uu.cell? ⟨b7, o7 + q * 2 + 1, none⟩ = some (Value.slice ya yn yc)) (k := 999) (by kernel_rfl) ?_
            have hbd : Below wr.heap.size wr wr.drew := (Below.refl _ _).drew
            have O_0 := kide (HO.out.later hbd)
            have L_0 := kide (HL.out.kept hbd)
            have X_0 := kide (HX.out.later hbd)
            have B_0 := kide (HB.out.trans (hbd.mono HB.out.size))
            clear hbd HO HL HX HB d0 d1 e2 e3
            generalize wr.drew = u0 at *
            have c0_0 : u0.cell? ⟨g3, k * 2, none⟩ = some (Value.int .i64 (q : Int)) := (O_0.out.cells HGP.out).1
            have c1_0 : u0.cell? ⟨g3, k * 2 + 1, none⟩ = some (Value.int .i64 (z : Int)) := (O_0.out.cells HGP.out).2
            have c2_0 : u0.cell? ⟨b7, o7 + q * 2, none⟩ = some (Value.int .i64 yd) := (B_0.out.cell (p := ⟨b7, o7 + q * 2, none⟩) lb7).trans HZ0.out
            have c3_0 : u0.cell? ⟨b7, o7 + q * 2 + 1, none⟩ = some (Value.slice ya yn yc) := (B_0.out.cell (p := ⟨b7, o7 + q * 2 + 1, none⟩) lb7).trans HZ1.out
            have hs0 : Hid ((fun uu => uu.cell? ⟨g3, k * 2, none⟩ = some (Value.int .i64 (q : Int)) ∧ uu.cell? ⟨g3, k * 2 + 1, none⟩ = some (Value.int .i64 (z : Int)) ∧ uu.cell? ⟨b7, o7 + q * 2, none⟩ = some (Value.int .i64 yd) ∧ uu.cell? ⟨b7, o7 + q * 2 + 1, none⟩ = some (Value.slice ya yn yc)) u0) := ⟨c0_0, c1_0, c2_0, c3_0⟩
            try go_simp
            refine wpAnyX_both (T := (fun _ => True)) (i := 0) (v := Value.slice la k lc) rfl (by kernel_rfl) (by kernel_rfl) (by kernel_rfl) (fun _ _ _ h => by first | exact h | exact h.elim) (by decide) (fun _ _ => trivial) (fun _ _ => trivial) (Sx.behind (by kernel_rfl) hs0.out) (Or.inl ⟨by rfl, fun uu hu => by go_simp⟩) ?_
            try go_simp
            refine wpAnyX_both (T := (fun _ => True)) (i := 1) (v := Value.slice (some ⟨b7, o7, none⟩) n vc) rfl (by kernel_rfl) (by kernel_rfl) (by kernel_rfl) (fun _ _ _ h => by first | exact h | exact h.elim) (by decide) (fun _ _ => trivial) (fun _ _ => trivial) (Sx.behind (by kernel_rfl) hs0.out) (Or.inl ⟨by rfl, fun uu hu => by go_simp⟩) ?_
            try go_simp
            refine wpAnyX_both (T := (fun _ => True)) (i := 2) (v := Value.slice (some ⟨g3, 0, none⟩) np c3) rfl (by kernel_rfl) (by kernel_rfl) (by kernel_rfl) (fun _ _ _ h => by first | exact h | exact h.elim) (by decide) (fun _ _ => trivial) (fun _ _ => trivial) (Sx.behind (by kernel_rfl) hs0.out) (Or.inl ⟨by rfl, fun uu hu => by go_simp⟩) ?_
            try go_simp
            refine wpAnyX_both (T := (fun _ => True)) (i := 3) (v := Value.int .i64 (k : Int)) rfl (by kernel_rfl) (by kernel_rfl) (by kernel_rfl) (fun _ _ _ h => by first | exact h | exact h.elim) (by decide) (fun _ _ => trivial) (fun _ _ => trivial) (Sx.behind (by kernel_rfl) hs0.out) (Or.inl ⟨by rfl, fun uu hu => by go_simp⟩) ?_
            try go_simp
            refine wpAnyX_both (T := (fun _ => True)) (i := 4) (v := Value.pointer (some ⟨g3, k * 2, none⟩)) rfl (by kernel_rfl) (by kernel_rfl) (by kernel_rfl) (fun _ _ _ h => by first | exact h | exact h.elim) (by decide) (fun _ _ => trivial) (fun _ _ => trivial) (Sx.behind (by kernel_rfl) hs0.out) (Or.inl ⟨by rfl, fun uu hu => by go_simp⟩) ?_
            try go_simp
            refine wpAnyX_both (T := (fun _ => True)) (i := 5) (v := Value.pointer (some ⟨g3, k * 2, none⟩)) rfl (by kernel_rfl) (by kernel_rfl) (by kernel_rfl) (fun _ _ _ h => by first | exact h | exact h.elim) (by decide) (fun _ _ => trivial) (fun _ _ => trivial) (Sx.behind (by kernel_rfl) hs0.out) (Or.inl ⟨by rfl, fun uu hu => by go_simp⟩) ?_
            try go_simp
            refine wpAnyX_both (T := (fun uu => uu.cell? ⟨g3, k * 2, none⟩ = some (Value.int .i64 (q : Int)) ∧ uu.cell? ⟨g3, k * 2 + 1, none⟩ = some (Value.int .i64 (z : Int)) ∧ uu.cell? ⟨b7, o7 + q * 2, none⟩ = some (Value.int .i64 yd) ∧ uu.cell? ⟨b7, o7 + q * 2 + 1, none⟩ = some (Value.slice ya yn yc))) (i := 6) (v := Value.int .i64 (q : Int)) rfl (by kernel_rfl) (by kernel_rfl) (by kernel_rfl) (fun _ _ _ h => by first | exact h | exact h.elim) (by decide) (fun _ h => h.elim) (fun _ h => h) (Sx.behind (by kernel_rfl) hs0.out) (Or.inl ⟨by rfl, fun uu hu => by obtain ⟨e0, e1, e2, e3⟩ := hu; go_simp⟩) ?_
            try go_simp
            refine wpAnyX_both (T := (fun _ => True)) (i := 7) (v := Value.pointer (some ⟨b7, o7 + q * 2, none⟩)) rfl (by kernel_rfl) (by kernel_rfl) (by kernel_rfl) (fun _ _ _ h => by first | exact h | exact h.elim) (by decide) (fun _ _ => trivial) (fun _ _ => trivial) (Sx.behind (by kernel_rfl) hs0.out) (Or.inl ⟨by rfl, fun uu hu => by go_simp⟩) ?_
            try go_simp
            refine wpAnyX_both (T := (fun uu => uu.cell? ⟨g3, k * 2, none⟩ = some (Value.int .i64 (q : Int)) ∧ uu.cell? ⟨g3, k * 2 + 1, none⟩ = some (Value.int .i64 (z : Int)) ∧ uu.cell? ⟨b7, o7 + q * 2, none⟩ = some (Value.int .i64 yd) ∧ uu.cell? ⟨b7, o7 + q * 2 + 1, none⟩ = some (Value.slice ya yn yc))) (i := 8) (v := Value.agg #[Value.int .i64 yd, Value.slice ya yn yc]) rfl (by kernel_rfl) (by kernel_rfl) (by kernel_rfl) (fun _ _ _ h => by first | exact h | exact h.elim) (by decide) (fun _ h => h.elim) (fun _ h => h) (Sx.behind (by kernel_rfl) hs0.out) (Or.inl ⟨by rfl, fun uu hu => by obtain ⟨e0, e1, e2, e3⟩ := hu; go_simp⟩) ?_
            try go_simp
            refine wpAnyX_both (T := (fun _ => True)) (i := 9) (v := Value.slice (some ⟨g3, 0, none⟩) np c3) rfl (by kernel_rfl) (by kernel_rfl) (by kernel_rfl) (fun _ _ _ h => by first | exact h | exact h.elim) (by decide) (fun _ _ => trivial) (fun _ _ => trivial) (Sx.behind (by kernel_rfl) hs0.out) (Or.inl ⟨by rfl, fun uu hu => by go_simp⟩) ?_
            try go_simp
            refine wpAnyX_both (T := (fun _ => True)) (i := 10) (v := Value.int .i64 (k : Int)) rfl (by kernel_rfl) (by kernel_rfl) (by kernel_rfl) (fun _ _ _ h => by first | exact h | exact h.elim) (by decide) (fun _ _ => trivial) (fun _ _ => trivial) (Sx.behind (by kernel_rfl) hs0.out) (Or.inl ⟨by rfl, fun uu hu => by go_simp⟩) ?_
            try go_simp
            refine wpAnyX_both (T := (fun _ => True)) (i := 11) (v := Value.pointer (some ⟨g3, k * 2, none⟩)) rfl (by kernel_rfl) (by kernel_rfl) (by kernel_rfl) (fun _ _ _ h => by first | exact h | exact h.elim) (by decide) (fun _ _ => trivial) (fun _ _ => trivial) (Sx.behind (by kernel_rfl) hs0.out) (Or.inl ⟨by rfl, fun uu hu => by go_simp⟩) ?_
            try go_simp
            refine wpAnyX_both (T := (fun _ => True)) (i := 12) (v := Value.pointer (some ⟨g3, k * 2 + 1, none⟩)) rfl (by kernel_rfl) (by kernel_rfl) (by kernel_rfl) (fun _ _ _ h => by first | exact h | exact h.elim) (by decide) (fun _ _ => trivial) (fun _ _ => trivial) (Sx.behind (by kernel_rfl) hs0.out) (Or.inl ⟨by rfl, fun uu hu => by go_simp⟩) ?_
            try go_simp
            refine wpAnyX_both (T := (fun uu => uu.cell? ⟨g3, k * 2, none⟩ = some (Value.int .i64 (q : Int)) ∧ uu.cell? ⟨g3, k * 2 + 1, none⟩ = some (Value.int .i64 (z : Int)) ∧ uu.cell? ⟨b7, o7 + q * 2, none⟩ = some (Value.int .i64 yd) ∧ uu.cell? ⟨b7, o7 + q * 2 + 1, none⟩ = some (Value.slice ya yn yc))) (i := 13) (v := Value.int .i64 (z : Int)) rfl (by kernel_rfl) (by kernel_rfl) (by kernel_rfl) (fun _ _ _ h => by first | exact h | exact h.elim) (by decide) (fun _ h => h.elim) (fun _ h => h) (Sx.behind (by kernel_rfl) hs0.out) (Or.inl ⟨by rfl, fun uu hu => by obtain ⟨e0, e1, e2, e3⟩ := hu; go_simp⟩) ?_
            try go_simp
            refine wpAnyX_ready (rs := [14]) (by kernel_rfl) (by simp) (AllX.cons rfl (fun K hK => ?_) AllX.nil)
            go_simp
            refine Calls.mono (HBT.out u0 B_0.out) ?_
            rintro e u1 ⟨rfl, hb⟩
            have O_1 := kide (O_0.out.later hb)
            have L_1 := kide (L_0.out.kept hb)
            have X_1 := kide (X_0.out.later hb)
            have B_1 := kide (B_0.out.trans (hb.mono B_0.out.size))
            clear hb
            have c0_1 : u1.cell? ⟨g3, k * 2, none⟩ = some (Value.int .i64 (q : Int)) := (O_1.out.cells HGP.out).1
            have c1_1 : u1.cell? ⟨g3, k * 2 + 1, none⟩ = some (Value.int .i64 (z : Int)) := (O_1.out.cells HGP.out).2
            have c2_1 : u1.cell? ⟨b7, o7 + q * 2, none⟩ = some (Value.int .i64 yd) := (B_1.out.cell (p := ⟨b7, o7 + q * 2, none⟩) lb7).trans HZ0.out
            have c3_1 : u1.cell? ⟨b7, o7 + q * 2 + 1, none⟩ = some (Value.slice ya yn yc) := (B_1.out.cell (p := ⟨b7, o7 + q * 2 + 1, none⟩) lb7).trans HZ1.out
            have hs1 : Hid ((fun uu => uu.cell? ⟨g3, k * 2, none⟩ = some (Value.int .i64 (q : Int)) ∧ uu.cell? ⟨g3, k * 2 + 1, none⟩ = some (Value.int .i64 (z : Int)) ∧ uu.cell? ⟨b7, o7 + q * 2, none⟩ = some (Value.int .i64 yd) ∧ uu.cell? ⟨b7, o7 + q * 2 + 1, none⟩ = some (Value.slice ya yn yc)) u1) := ⟨c0_1, c1_1, c2_1, c3_1⟩
            refine hK _ _ (Sx.behind (by kernel_rfl) hs1.out) ?_
            clear hK K
            try go_simp
            refine wpAnyX_ready (rs := [15]) (by kernel_rfl) (by simp) (AllX.cons rfl (fun K hK => ?_) AllX.nil)
            go_simp
            have hbx : Below u1.heap.size u1 (u1.alloc (Obj.cells #[Value.int .u8 (y : Int)] 5)) := (Below.refl _ _).alloc (Nat.le_refl _) _
            have XN2 := kide (Bz.new u1 #[Value.int .u8 (y : Int)] 5)
            have O_2 := kide (O_1.out.later hbx)
            have L_2 := kide (L_1.out.kept hbx)
            have X_2 := kide (X_1.out.later hbx)
            have B_2 := kide (B_1.out.trans (hbx.mono B_1.out.size))
            generalize hgn : u1.heap.size = gn at *
            generalize u1.alloc (Obj.cells #[Value.int .u8 (y : Int)] 5) = u2 at *
            clear hbx hgn
            have c0_2 : u2.cell? ⟨g3, k * 2, none⟩ = some (Value.int .i64 (q : Int)) := (O_2.out.cells HGP.out).1
            have c1_2 : u2.cell? ⟨g3, k * 2 + 1, none⟩ = some (Value.int .i64 (z : Int)) := (O_2.out.cells HGP.out).2
            have c2_2 : u2.cell? ⟨b7, o7 + q * 2, none⟩ = some (Value.int .i64 yd) := (B_2.out.cell (p := ⟨b7, o7 + q * 2, none⟩) lb7).trans HZ0.out
            have c3_2 : u2.cell? ⟨b7, o7 + q * 2 + 1, none⟩ = some (Value.slice ya yn yc) := (B_2.out.cell (p := ⟨b7, o7 + q * 2 + 1, none⟩) lb7).trans HZ1.out
            have hs2 : Hid ((fun uu => uu.cell? ⟨g3, k * 2, none⟩ = some (Value.int .i64 (q : Int)) ∧ uu.cell? ⟨g3, k * 2 + 1, none⟩ = some (Value.int .i64 (z : Int)) ∧ uu.cell? ⟨b7, o7 + q * 2, none⟩ = some (Value.int .i64 yd) ∧ uu.cell? ⟨b7, o7 + q * 2 + 1, none⟩ = some (Value.slice ya yn yc)) u2) := ⟨c0_2, c1_2, c2_2, c3_2⟩
            refine hK _ _ (Sx.behind (by kernel_rfl) hs2.out) ?_
            clear hK K
            try go_simp
            refine wpAnyX_ready (rs := [16]) (by kernel_rfl) (by simp) (AllX.cons rfl (fun K hK => ?_) AllX.nil)
            refine step_appBs _ rfl _ _ rfl (vb + 1) (Value.slice la k lc) LB [y] (by first | rfl | simp [Act.eval]) L_2.out gn 0 1 (by first | rfl | simp [Act.eval]) (one_cell (XN2.out.cell 0)) (by have := HBL.out; simp; omega) (by have := X_2.out.lt; omega) ?_
            intro v9 u3 hl9 hg9
            have B_3 := kide (Below.grown B_2.out hg9 B_2.out.size (fun j hj => by have := L_2.out.own j hj; have := HVB.out; omega))
            have O_3 := kide (O_2.out.past L_2.out hg9)
            have X_3 := kide (X_2.out.past L_2.out (Nat.lt_succ_self _) hg9)
            have L_3 := kide (show OwB u3 (vb + 1) v9 ((PS.take (k + 1)).map BF) from by rw [HTK.out]; exact hl9)
            clear hl9 hg9
            have c0_3 : u3.cell? ⟨g3, k * 2, none⟩ = some (Value.int .i64 (q : Int)) := (O_3.out.cells HGP.out).1
            have c1_3 : u3.cell? ⟨g3, k * 2 + 1, none⟩ = some (Value.int .i64 (z : Int)) := (O_3.out.cells HGP.out).2
            have c2_3 : u3.cell? ⟨b7, o7 + q * 2, none⟩ = some (Value.int .i64 yd) := (B_3.out.cell (p := ⟨b7, o7 + q * 2, none⟩) lb7).trans HZ0.out
            have c3_3 : u3.cell? ⟨b7, o7 + q * 2 + 1, none⟩ = some (Value.slice ya yn yc) := (B_3.out.cell (p := ⟨b7, o7 + q * 2 + 1, none⟩) lb7).trans HZ1.out
            have hs3 : Hid ((fun uu => uu.cell? ⟨g3, k * 2, none⟩ = some (Value.int .i64 (q : Int)) ∧ uu.cell? ⟨g3, k * 2 + 1, none⟩ = some (Value.int .i64 (z : Int)) ∧ uu.cell? ⟨b7, o7 + q * 2, none⟩ = some (Value.int .i64 yd) ∧ uu.cell? ⟨b7, o7 + q * 2 + 1, none⟩ = some (Value.slice ya yn yc)) u3) := ⟨c0_3, c1_3, c2_3, c3_3⟩
            refine hK _ _ (Sx.behind (by kernel_rfl) hs3.out) ?_
            clear hK K
            try go_simp
            refine wpAnyX_both (T := (fun _ => True)) (i := 17) (v := v9) rfl (by kernel_rfl) (by kernel_rfl) (by kernel_rfl) (fun _ _ _ h => by first | exact h | exact h.elim) (by decide) (fun _ _ => trivial) (fun _ _ => trivial) (Sx.behind (by kernel_rfl) hs3.out) (Or.inl ⟨by rfl, fun uu hu => by go_simp⟩) ?_
            try go_simp
            refine wpAnyX_done (by kernel_rfl) ?_ _
            go_wp2_with fail
            go_roundw
            case rel => exact ⟨k + 1, by omega, by go_num, L_3.out, O_3.out, X_3.out, B_3.out⟩
            case measure => simp [intOf]; omega
        · have ek : k = np := by omega
          subst ek
          have HE : Hid ((PS.take k).map BF = PS.map BF) := by
            show _ = _
            rw [List.take_of_length_le (by rw [HPN.out]; exact Nat.le_refl _)]
          rw [HE.out] at HL HBL HLf
          generalize PS.map BF = LB at *
          obtain ⟨la', lc', e9, hrd, -⟩ := HL.out.shape (by have := HBL.out; omega) HLf.out
          rw [HBL.out] at e9
          cases e9
          have hfrom := l1From_yes la lc LB wr hrd (by have := HBL.out; omega) (by have := HBL.out; omega)
          rw [HBL.out] at hfrom
          have HFR := kide hfrom
          clear hrd hfrom
          go_wp2_with fail
          refine Calls.mono HFR.out ?_
          rintro e w9 ⟨a9, c9, rfl, hf9, hb9⟩
          have X9 := HX.out.later hb9
          have e0 := X9.cell 0
          have e1 := X9.cell 1
          have f0 := X9.froz 0
          have f1 := X9.froz 1
          simp at e0 e1
          have BE := kide (HB.out.trans (hb9.mono HB.out.size))
          have hlt9 := HX.out.lt
          have HF9 := kide hf9
          have hm := RetB.close (w := w) (r := ((k : Int), pack LB, true)) (r' := ((k : Int), pack LB, true)) (c3 := c9) (g := vb) hf9 (by have := HVB.out; omega) hlt9 BE.out rfl (Value.int .i64 (k : Int)) (Value.slice a9 (pack LB).length c9)
          have q0 := ((X9.set 0 (Value.int .i64 (k : Int))).set 1 (Value.slice a9 (pack LB).length c9)).cell 0
          have q1 := ((X9.set 0 (Value.int .i64 (k : Int))).set 1 (Value.slice a9 (pack LB).length c9)).cell 1
          simp at q0 q1
          have Q0 := kide q0
          have Q1 := kide q1
          have HM := kide hm
          clear hm q0 q1 hf9 hb9 X9
          dsimp only
          go_wp2_with fail
          refine bodyPost_ret (v := .tuple #[.agg #[.int .i64 (k : Int), .slice a9 (pack LB).length c9], .bool true]) (by simp [results, Try.results9, go_sem, Q0.out, Q1.out]) rfl ?_
          have h9 := HM.out
          rw [HBL.out]
          exact h9
    · have hf0 : formR ds (xs.map Sg.ct) = false := by simpa using hf
      have HRES : Hid (flevR ds (vals.map Bw.ct) (xs.map Sg.ct) = noR) := by
        show _ = _
        rw [flevR, if_neg (by rw [hf0]; simp)]
      rw [hf0] at HF
      rw [HRES.out]
      clear hd hv hr hn hnf hval hf hD hvl hvv
      go_enter Try.func9, Try.ntmps9
      go_wp2_with fail
      refine Calls.mono HV.out ?_
      rintro e w1 ⟨rfl, hb1⟩
      have X1 := kide (XR0.later hb1)
      have B1 := kide (hb0.trans (hb1.mono hb0.size))
      clear hb1 XR0 hb0
      go_wp2_with fail
      refine Calls.mono (HF.out w1 B1.out) ?_
      rintro e w2 ⟨rfl, hb2⟩
      have X2 := X1.out.later hb2
      have B2 := kide (B1.out.trans (hb2.mono B1.out.size))
      clear hb2
      have c0 := X2.cell 0
      have c1 := X2.cell 1
      have f0 := X2.froz 0
      have f1 := X2.froz 1
      simp at c0 c1
      go_wp2_with fail
      have q0 := ((X2.set 0 (Value.int .i64 0)).set 1 (Value.slice none 0 0)).cell 0
      have q1 := ((X2.set 0 (Value.int .i64 0)).set 1 (Value.slice none 0 0)).cell 1
      simp at q0 q1
      exact bodyPost_ret (v := .tuple #[.agg #[.int .i64 0, .slice none 0 0], .bool false]) (by simp [results, Try.results9, go_sem, q0, q1]) rfl (RetB.no ((B2.out.setCell (Nat.le_refl _) _).setCell (Nat.le_refl _) _))
  · have hv0 : valR ds (vals.map Bw.ct) = false := by simpa using hval
    have HRES : Hid (flevR ds (vals.map Bw.ct) (xs.map Sg.ct) = noR) := by
      show _ = _
      rw [flevR, if_neg (by rw [hv0]; simp)]
    rw [hv0] at HV
    rw [HRES.out]
    go_enter Try.func9, Try.ntmps9
    go_wp2_with fail
    refine Calls.mono HV.out ?_
    rintro e w1 ⟨rfl, hb1⟩
    have X1 := XR0.later hb1
    have B1 := kide (hb0.trans (hb1.mono hb0.size))
    have c0 := X1.cell 0
    have c1 := X1.cell 1
    have f0 := X1.froz 0
    have f1 := X1.froz 1
    simp at c0 c1
    go_wp2_with fail
    have q0 := ((X1.set 0 (Value.int .i64 0)).set 1 (Value.slice none 0 0)).cell 0
    have q1 := ((X1.set 0 (Value.int .i64 0)).set 1 (Value.slice none 0 0)).cell 1
    simp at q0 q1
    exact bodyPost_ret (v := .tuple #[.agg #[.int .i64 0, .slice none 0 0], .bool false]) (by simp [results, Try.results9, go_sem, q0, q1]) rfl (RetB.no ((B1.out.setCell (Nat.le_refl _) _).setCell (Nat.le_refl _) _))

end Go.Proofs.Ytpmpipcpifmncaa
