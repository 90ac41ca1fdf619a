/- What the given SwitchesOf answers. -/
import Derived.Test.YtkffjdicmendkaaSWA
import Derived.Handy
namespace Go.Proofs.Ytkffjdicmendkaa
set_option linter.unusedVariables false
set_option linter.unusedSimpArgs false
open Go.RowKit

set_option maxHeartbeats 1000000 in
theorem specSw_any (da va : Option Addr) (dc vc n : Nat) (ds : List Dc) (vals : List Bw) (w : World) (hd : RdD w da ds) (hv : RdW w va vals) (hn : vals.length = n) :
    Calls Try.prog 8 #[.slice da ds.length dc, .slice va n vc] w (RetF w (swR ds (vals.map Bw.ct))) := by
  have hb0 : Below w.heap.size w (w.alloc (Obj.cells #[] 4)) := (Below.refl _ _).alloc (Nat.le_refl _) _
  have L0 : Hid (OwF (w.alloc (Obj.cells #[] 4)) w.heap.size (.slice (some ⟨w.heap.size, 0, none⟩) 0 0) []) := OwF.nil _ _ _ rfl (Nat.le_refl _)
  have HV := kide (specValues_any da va dc vc ds vals (w.alloc (Obj.cells #[] 4)) (hd.later hb0) (hv.later hb0) n hn)
  have B0 := kide hb0
  have hn2 := hv.1
  rw [hn] at hn2
  by_cases hval : valR ds (vals.map Bw.ct) = true
  · rw [hval] at HV
    obtain ⟨hD, hvl, hvv⟩ := valR_iff.1 hval
    have HRES : Hid (swR ds (vals.map Bw.ct) = (swL (vals.map Bw.ct), true)) := by show _ = _; rw [swR, if_pos hval]
    rw [HRES.out]
    have HLE := kide (fun k (hk : k ≤ (vals.map Bw.ct).length) => swL_le hval k hk)
    have HSN := kide (fun k x (h : (vals.map Bw.ct)[k]? = some x) => swL_snoc h)
    have HVV := kide hvv
    have HHV := kide hv
    have HN := kide hn
    obtain ⟨VS, hVS⟩ : ∃ VS, vals.map Bw.ct = VS := ⟨_, rfl⟩
    rw [hVS] at HLE HSN HVV ⊢
    have HVS := kide hVS
    have HVL : Hid (VS.length = n) := by show _ = _; rw [← hVS, List.length_map]; exact hn
    clear hb0 hd hv hn hval hD hvl hvv HRES hVS
    go_enter Try.func8, Try.ntmps8
    go_wp2_with fail
    refine Calls.mono HV.out ?_
    rintro e w1 ⟨rfl, hb1⟩
    have B1 := kide (B0.out.trans (hb1.mono B0.out.size))
    have L1 := kide (L0.out.kept hb1)
    clear hb1 HV B0 L0
    go_wp2_with fail
    go_loopw [6, 7] (fun v i wr => ∃ k : Nat, k ≤ n ∧ i = .int .i64 (k : Int) ∧ OwF wr w.heap.size v (swL (VS.take k)) ∧ Below w.heap.size w wr) (fun _ i _ => n - (intOf i).toNat)
    case atStart => exact ⟨0, Nat.zero_le _, rfl, L1.out, B1.out⟩
    case round =>
      clear B1 L1
      obtain ⟨k, hk, rfl, hl, hB⟩ := hrel
      by_cases hlt : k < n
      · obtain ⟨⟨yd, ya, yc, yw⟩, gy⟩ : ∃ y, vals[k]? = some y := ⟨vals[k]'(by rw [HN.out]; exact hlt), List.getElem?_eq_getElem _⟩
        have gv : VS[k]? = some (yd, yw) := by rw [← HVS.out]; simp [gy, Bw.ct]
        obtain ⟨hy1, -⟩ := HVV.out k (by rw [HVL.out]; exact hlt)
        have ey : VS.getD k (0, []) = (yd, yw) := by simp [List.getD, gv]
        rw [ey] at hy1
        simp only at hy1
        have hyW := right_W hy1
        obtain ⟨b7, o7, rfl, hcv⟩ : ∃ b o, va = some ⟨b, o, none⟩ ∧ ∀ i x, vals[i]? = some x → BwAt w b (o + i * 2) x := by
          rcases HHV.out.2 with h0 | h0
          · rw [h0] at gy; simp at gy
          · exact h0
        have hz := hcv k _ gy
        have HZ := kide (fun (u : World) (hu : Below w.heap.size w u) => hz.later hu)
        have k0 : (k : Int) < (n : Int) := by omega
        obtain ⟨V, rfl⟩ := Int.eq_ofNat_of_zero_le (show 0 ≤ yd by omega)
        obtain ⟨hy2, hy3, hy4⟩ := hyW
        have HS := kide (HSN.out k _ gv)
        have HLL := kide (HLE.out (k + 1) (by rw [HVL.out]; exact hlt))
        have HL := kide hl
        have HB := kide hB
        clear hl hB gy gv ey hy1 hz hcv
        simp only [Int.toNat_natCast] at HS
        generalize swL (VS.take k) = LK at *
        obtain ⟨z0, z1, zr, -⟩ := HZ.out wr HB.out
        simp only at z0 z1 zr
        obtain ⟨wo, hwo⟩ : ∃ wo, wo = wr := ⟨_, rfl⟩
        subst hwo
        go_wp2_with fail
        have HL0 := HL
        clear z0 z1 zr HL
        go_loopw [6, 8] (fun v i wr => ∃ j : Nat, j ≤ V ∧ i = .int .i64 (j : Int) ∧ OwF wr w.heap.size v (LK ++ bitF ((V : Int), yw) j) ∧ Below w.heap.size w wr) (fun _ i _ => V - (intOf i).toNat)
        case atStart => exact ⟨0, Nat.zero_le _, rfl, by simpa [bitF] using HL0.out, HB.out⟩
        case round =>
          obtain ⟨j, hj, rfl, hl, hB⟩ := hrel
          clear HB HL0
          have HB := kide hB
          obtain ⟨z0, z1, zr, -⟩ := HZ.out wr HB.out
          simp only at z0 z1 zr
          by_cases hjV : j < V
          · have j0 : (j : Int) < (V : Int) := by omega
            have hLl : (LK ++ bitF ((V : Int), yw) j).length ≤ 20000 := by
              have := HLL.out
              rw [HS.out, List.length_append, bitF_len] at this
              rw [List.length_append, bitF_len]
              omega
            have HNX : Hid (LK ++ bitF ((V : Int), yw) (j + 1) = LK ++ bitF ((V : Int), yw) j ++ [tb yw j]) := by
              show _ = _
              rw [bitF_succ, List.append_assoc]
            generalize LK ++ bitF ((V : Int), yw) j = LB at *
            have HBT := kide (fun (u : World) (hu : Below wr.heap.size wr u) => l1Bit_any (V : Int) ya yc yw j u (zr.later hu) (by omega))
            obtain ⟨va', vc', rfl, -⟩ := hl.shape (by omega)
            have HL := kide hl
            clear hl hB
            go_wp2_with fail
            refine Calls.mono (HBT.out wr (Below.refl _ _)) ?_
            rintro e w4 ⟨rfl, hb4⟩
            have L4 := kide (HL.out.kept hb4)
            have B4 := kide (HB.out.trans (hb4.mono HB.out.size))
            obtain ⟨Y, hY⟩ : ∃ Y, tb yw j = Y := ⟨_, rfl⟩
            rw [hY] at HNX ⊢
            have hbx : Below w4.heap.size w4 (w4.alloc (Obj.cells #[Value.bool Y] 4)) := (Below.refl _ _).alloc (Nat.le_refl _) _
            have L5 := kide (L4.out.kept hbx)
            have B5 := kide (B4.out.trans (hbx.mono B4.out.size))
            have XN := kide (Bz.new w4 #[Value.bool Y] 4)
            have hyy : (IntKind.u8.wrap ((Y.toNat : Nat) : Int) == 1) = Y := by cases Y <;> rfl
            have hyz : ((((Y.toNat : Nat) : Int)) == 1) = Y := by cases Y <;> rfl
            have hyd : (decide (Y.toNat = 1)) = Y := by cases Y <;> rfl
            clear hbx hb4 HB HL L4 B4 z0 z1 zr HBT hY
            go_wp2_with (at_builtin; refine wpList_appF _ rfl _ _ rfl w.heap.size _ LB Y rfl L5.out w4.heap.size rfl (XN.out.cell 0) (by omega) (by have := B5.out.size; omega) ?_)
            trace_state
            intro v9 w9 hl9 hg9
            have B6 := kide (Below.grown B5.out hg9 B5.out.size (fun j hj => L5.out.own j hj))
            have L6 := kide (show OwF w9 w.heap.size v9 (LK ++ bitF ((V : Int), yw) (j + 1)) from by rw [HNX.out]; exact hl9)
            clear hl9 hg9 L5 B5 XN
            go_wp2_with fail
            go_roundw
            case rel => exact ⟨j + 1, by omega, by go_num, L6.out, B6.out⟩
            case measure => simp [intOf]; omega
          · have hjv : j = V := by omega
            rw [hjv, ← HS.out] at hl
            have HL := kide hl
            clear hl hB hjv zr
            go_wp2_with fail
            go_roundw
            case rel => exact ⟨k + 1, by omega, by go_num, HL.out, HB.out⟩
            case measure => simp [intOf]; omega
      · have hkn : k = n := by omega
        have e9 : VS.take k = VS := by rw [hkn, ← HVL.out, List.take_length]
        rw [e9] at hl
        have HL := kide hl
        have HB := kide hB
        clear hl hB e9
        go_wp2_with fail
        go_returns
        exact ⟨_, rfl, HL.out, HB.out⟩
  · have hF : valR ds (vals.map Bw.ct) = false := by simpa using hval
    have HRES : Hid (swR ds (vals.map Bw.ct) = ([], false)) := by show _ = _; rw [swR, if_neg hval]
    rw [HRES.out]
    rw [hF] at HV
    clear hb0 hd hv hn hval HRES hF
    go_enter Try.func8, Try.ntmps8
    go_wp2_with fail
    refine Calls.mono HV.out ?_
    rintro e w1 ⟨rfl, hb1⟩
    have B1 := kide (B0.out.trans (hb1.mono B0.out.size))
    have L1 := kide (L0.out.kept hb1)
    clear hb1 HV B0 L0
    go_wp2_with fail
    go_returns
    exact ⟨_, rfl, L1.out, B1.out⟩

end Go.Proofs.Ytkffjdicmendkaa
