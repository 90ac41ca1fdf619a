/- A node's text with all below it, by the given text. -/
import Derived.Test.YteenmffhbgpahaaDoorWTD
import Derived.Test.YteenmffhbgpahaaDoorRX
namespace Go.Proofs.YteenmffhbgpahaaDoor
set_option linter.unusedVariables false
set_option linter.unusedSimpArgs false
open Go.RowKit

theorem kd_take {all : List (List Nat)} {ks : List Int} {i : Nat} {k : Int} (h : ks[i]? = some k) : kdT all (ks.take (i + 1)) = kdT all (ks.take i) ++ (32 :: all.getD k.toNat []) := by
  unfold kdT
  rw [List.take_add_one, h, List.flatMap_append]
  simp
theorem kd_part {all : List (List Nat)} {ks : List Int} (i : Nat) : (kdT all (ks.take i)).length ≤ (kdT all ks).length := by
  conv => rhs; rw [← List.take_append_drop i ks]
  unfold kdT
  rw [List.flatMap_append, List.length_append]
  omega

/-- What a node's text is. -/
def RetT (w : World) (s : ByteArray) (e : Ending) (w' : World) : Prop := e = .returned (.string s) ∧ Below w.heap.size w w'

set_option maxHeartbeats 2000000 in
set_option maxRecDepth 100000 in
theorem l3Text_any (a b : Option Addr) (c c2 n : Nat) (ds : List Dc) (xs : List Tg) (hn : xs.length = n) (hok : ¬ (widthsR ds (xs.map Tg.ct)).length = 0) :
    ∀ p, p < n → ((txR ds (xs.map Tg.ct)).getD p []).length ≤ 20000 → ∀ w, RdD w a ds → RdT w b xs →
    Calls Tryd.prog 16 #[.slice a ds.length c, .agg #[.slice b n c2], .int .i64 (p : Int)] w (RetT w (txt ((txR ds (xs.map Tg.ct)).getD p []))) := by
  obtain ⟨hl1, hl2, -, hkid⟩ := right_kids hok
  rw [List.length_map, hn] at hl1 hl2
  have HN := kide hn
  have HK := kide hkid
  have HD := kide (dcl_right hok)
  have HT := kide (rightT_node hok)
  obtain ⟨ns, hns⟩ : ∃ ns, xs.map Tg.ct = ns := ⟨_, rfl⟩
  rw [hns] at HK HT ⊢
  have HNS := kide hns
  have hln : Hid (ns.length = n) := by show _ = _; rw [← HNS.out]; simpa using HN.out
  clear hn hok hkid hns
  intro p
  induction p using Nat.strongRecOn with
  | ind p ih =>
    have IH := kide ih
    clear ih
    intro hp hsz w hr hs
    have HR := kide hr
    have HS := kide hs
    have hdl := hr.1
    have HPN := kide hp
    have i0 : (p : Int) < (n : Int) := by omega
    obtain ⟨⟨s1, wa, wc, ka, kc⟩, gx⟩ : ∃ x, xs[p]? = some x := ⟨xs[p]'(by rw [HN.out]; exact hp), List.getElem?_eq_getElem _⟩
    have gn : ns[p]? = some s1 := by rw [← HNS.out, List.getElem?_map, gx]; rfl
    have s0 := St.start w (.cells #[.slice b n c2] 33)
    obtain ⟨-, h | ⟨b2, o2, rfl, hc⟩⟩ := HS.out.later s0.below
    · rw [h] at gx; simp at gx
    obtain ⟨⟨p0, p1, p2, p3, p4, p5, p6⟩, pr, pk, -⟩ := hc p _ gx
    simp only [Tg.hd] at p0 p1 p2 p3 p4 p5 p6 pr pk
    have HKK := kide (HK.out p s1 gn)
    have HTX := kide (tx_node (ds := ds) gn HKK.out)
    rw [HTX.out] at hsz ⊢
    have HRT := kide (HT.out s1 (List.mem_of_getElem? gn))
    have hro := rt_op HRT.out
    obtain ⟨op, vr, aa, bb, bw, ws, ks⟩ := s1
    simp only [] at p0 p1 p2 p3 p4 p5 p6 HKK pk pr hro
    have hks := pk.1
    have HPK := kide pk
    have HPR := kide pr
    clear hc gx gn pr pk HTX hs hr
    obtain ⟨kl, hkl⟩ : ∃ m, ks.length = m := ⟨_, rfl⟩
    rw [hkl] at hks p6
    have HKL := kide hkl
    clear hkl
    have hnu : ∀ m, ndT ds (txR ds ns) m = hdT ds m ++ (kdT (txR ds ns) m.ks ++ (if m.ks = [] then [] else [41])) := fun _ => rfl
    rw [hnu] at hsz ⊢
    simp only [] at hsz ⊢
    clear hnu
    have zA := s0.size
    have g0 := s0.cell 0
    simp at g0
    have S0 := kide s0
    have sB := St.start (w.alloc (Obj.cells #[Value.slice (some ⟨b2, o2, none⟩) n c2] 33)) (Obj.cells #[Value.int .i64 op, Value.int .i64 vr, Value.int .i64 aa, Value.int .i64 bb, Value.int .i64 bw, Value.slice wa ws.length wc, Value.slice ka kl kc] 54)
    have SB := kide sB
    have s3 := S0.out.next sB.below
    have S3 := kide s3
    clear sB s0
    rcases hro with ⟨rfl, hk0, hv1, hv2⟩ | ⟨rfl, hk0, hrb⟩ | ⟨h3, h9, hne⟩
    · have HK0 := kide hk0
      obtain ⟨m, rfl⟩ : ∃ m : Nat, vr = (m : Int) := ⟨vr.toNat, by omega⟩
      have hm : m < ds.length := by omega
      have HHD : Hid (txt (hdT ds ⟨1, (m : Int), aa, bb, bw, ws, ks⟩ ++ (kdT (txR ds ns) ks ++ (if ks = [] then [] else [41]))) = (ds.getD m (.empty, 0)).1) := by
        show _ = _
        unfold hdT
        rw [if_pos rfl, if_pos HK0.out, HK0.out]
        simp only [kdT, List.flatMap_nil, List.append_nil]
        rw [txt_blT]
        rfl
      rw [HHD.out]
      obtain ⟨-, -, h | ⟨db, dO, rfl, hdc⟩⟩ := HR.out.later s3.below
      · subst h; simp at hm
      have gd : ds[m]? = some (ds.getD m (.empty, 0)) := by simp [List.getD, hm]
      obtain ⟨d0, d1⟩ := hdc m _ gd
      have m0 : (m : Int) < (ds.length : Int) := by omega
      generalize ds.getD m (.empty, 0) = d at *
      obtain ⟨dn, dw⟩ := d
      simp only [] at d0 d1
      clear hdc s3 HHD gd hk0 hsz
      go_enter Tryd.func16, Tryd.ntmps16
      go_wp2_with fail
      go_ret
      exact ⟨rfl, S3.out.below⟩
    · have HK0 := kide hk0
      have HHD : Hid (hdT ds ⟨2, vr, aa, bb, bw, ws, ks⟩ ++ (kdT (txR ds ns) ks ++ (if ks = [] then [] else [41])) = writeR bw ws) := by
        show _ = _
        unfold hdT
        rw [if_neg (by simp), if_pos rfl, if_pos HK0.out, HK0.out]
        simp [kdT]
      rw [HHD.out]
      have HWB := kide (specWr_any bw wa wc ws _ (HPR.out.later SB.out.below) hrb)
      generalize txt (writeR bw ws) = sW at *
      clear s3 HHD hk0 hrb hsz
      go_enter Tryd.func16, Tryd.ntmps16
      go_wp2_with fail
      refine Calls.mono HWB.out ?_
      rintro e u ⟨rfl, hb1⟩
      have S3u := kide (S3.out.next hb1)
      clear hb1
      go_wp2_with fail
      go_ret
      exact ⟨rfl, S3u.out.below⟩
    · have hnum := HRT.out.2.2
      simp only [] at hnum
      obtain ⟨hna, hnb⟩ := hnum
      have HWD := kide (fun u => l3Word_any op h3 h9 u)
      have HPT := kide (fun u => l3Parts_any op h3 h9 u)
      have hwl := wordN_len op
      rw [← txt_sizeT] at hwl
      have HNE := kide hne
      rw [if_neg hne] at hsz ⊢
      have f1 : (op == 1) = false := by simp; omega
      have f2 : (op == 2) = false := by simp; omega
      rcases (by omega : op = 3 ∨ op = 4 ∨ 4 < op) with e3 | e4 | e5
      · clear hna hnb
        rw [show (if op = 4 then (2 : Int) else if 4 < op then 1 else 0) = 0 by split <;> (try split) <;> omega] at HPT
        have HHE := kide (show ⟨#[40]⟩ ++ txt (wordN op) = txt (hdT ds ⟨op, vr, aa, bb, bw, ws, ks⟩) by
            unfold hdT
            simp only []
            rw [if_neg (by omega), if_neg (by omega), if_neg (by omega), if_neg (by omega), List.append_nil, List.append_nil, show (40 :: wordN op) = [40] ++ wordN op from rfl, txt_appT]
            rfl)
        generalize hdT ds ⟨op, vr, aa, bb, bw, ws, ks⟩ = hd at *
        generalize txt (wordN op) = sW at *
        have hWz : (sW.size : Int) ≤ 5 := by omega

        have HSZ := kide hsz
        clear s3 hne hsz e3
        go_enter Tryd.func16, Tryd.ntmps16
        go_wp2_with fail
        refine Calls.mono (HWD.out _) ?_
        rintro e w1 ⟨rfl, hb1⟩
        have SB1 := kide (SB.out.next hb1)
        have c0 := SB1.out.cell 0
        have c2' := SB1.out.cell 2
        have c3 := SB1.out.cell 3
        have c6 := SB1.out.cell 6
        simp at c0 c2' c3 c6
        clear hb1
        go_wp2_with fail
        refine Calls.mono (HPT.out _) ?_
        rintro e w1' ⟨rfl, hq⟩
        rw [hq]
        clear hq w1'
        go_wp2_with fail
        refine Calls.mono (HPT.out _) ?_
        rintro e w1' ⟨rfl, hq⟩
        rw [hq]
        clear hq w1'
        go_wp2_with fail
        clear c0 c2' c3 c6
        have SBu := SB1

        go_loopw [8, 9] (fun s q wr => ∃ i : Nat, i ≤ kl ∧ q = .int .i64 (i : Int) ∧ s = .string (txt (hd ++ kdT (txR ds ns) (ks.take i))) ∧ St (w.alloc (Obj.cells #[Value.slice (some ⟨b2, o2, none⟩) n c2] 33)) (Obj.cells #[Value.int .i64 op, Value.int .i64 vr, Value.int .i64 aa, Value.int .i64 bb, Value.int .i64 bw, Value.slice wa ws.length wc, Value.slice ka kl kc] 54) wr) (fun _ q _ => kl - (intOf q).toNat)
        case atStart => exact ⟨0, Nat.zero_le _, rfl, by congr 1; rw [List.take_zero]; simp only [kdT, List.flatMap_nil, List.append_nil]; exact HHE.out, SBu.out⟩
        case round =>
          obtain ⟨i, hi, rfl, rfl, hst⟩ := hrel
          have HST := kide hst
          have S3r := kide (S0.out.next hst.below)
          have k6 := HST.out.cell 6
          have g1 := S3r.out.cell 0
          simp at k6 g1
          have hlen : (txt (hd ++ kdT (txR ds ns) (ks.take i))).size ≤ 20000 := by
            have h1 := HSZ.out
            have h2 := kd_part (all := txR ds ns) (ks := ks) i
            rw [txt_sizeT]
            simp only [List.length_append] at h1 ⊢
            omega
          clear hst
          by_cases hil : i < kl
          · have j0 : (i : Int) < (kl : Int) := by omega
            obtain ⟨-, -, h | ⟨kb, ko, rfl, hkc⟩⟩ := HPK.out.later HST.out.below
            · have := HKL.out; subst h; simp at this; omega
            have q0 := hkc i (by rw [HKL.out]; exact hil)
            have hki : ks[i]? = some (ks.getD i 0) := by rw [List.getElem?_eq_getElem (by rw [HKL.out]; exact hil)]; simp [List.getD, show i < ks.length by rw [HKL.out]; exact hil]
            have hkm := List.mem_of_getElem? hki
            have hkr := HKK.out (ks.getD i 0) hkm
            have HST2 := kide (kd_take (all := txR ds ns) hki)
            have hkt := kd_lt (all := txR ds ns) hkm
            obtain ⟨j, hj, hjk⟩ : ∃ j : Nat, ks.getD i 0 = (j : Int) ∧ j < p := ⟨(ks.getD i 0).toNat, by omega, by omega⟩
            rw [hj] at q0 HST2 hkt
            rw [Int.toNat_natCast] at HST2 hkt
            have hjl : ((txR ds ns).getD j []).length ≤ 20000 := by
              have h1 := HSZ.out
              simp only [List.length_append] at h1
              omega
            have HCC := kide (fun u (hu : Below wr.heap.size wr u) => IH.out j hjk (by have := HPN.out; omega) hjl u (HR.out.later (S3r.out.next hu).below) (HS.out.later (S3r.out.next hu).below))
            have hsj : ((txt ((txR ds ns).getD j [])).size : Int) ≤ 20000 := by rw [txt_sizeT]; omega
            have HAP : Hid (txt (hd ++ kdT (txR ds ns) (ks.take (i + 1))) = txt (hd ++ kdT (txR ds ns) (ks.take i)) ++ ⟨#[32]⟩ ++ txt ((txR ds ns).getD j [])) := by
              show _ = _
              rw [HST2.out, show (32 :: (txR ds ns).getD j []) = [32] ++ (txR ds ns).getD j [] from rfl]
              simp only [txt_appT, ← ByteArray.append_assoc]
              rfl
            generalize txt ((txR ds ns).getD j []) = sj at *
            generalize txt (hd ++ kdT (txR ds ns) (ks.take i)) = sv at *
            have hsv : (sv.size : Int) ≤ 20000 := by omega
            have HSV := kide hsv
            have HSJ := kide hsj
            have hcat : (sv.size : Int) + 1 ≤ 9223372036854775807 := by omega
            have hcat2 : (sv.size : Int) + 1 + (sj.size : Int) ≤ 9223372036854775807 := by omega
            clear hkc hki hkr hj hkt hjl hlen hsv hsj hkm
            have lo1 := block_lt_of_cell g1
            have lo2 := block_lt_of_cell k6
            have lo3 := block_lt_of_cell q0
            simp only [] at lo1 lo2 lo3
            go_wp2_with fail
            refine wp_region_x (SA := fun _ => False) (SB := fun uu => Below wr.heap.size wr uu) (k := 999) (by kernel_rfl) ?_
            have hm0 : Hid (Below wr.heap.size wr wr.drew) := (Below.refl _ _).drew
            generalize wr.drew = m0 at *
            try go_simp
            refine wpAnyX_both (T := fun uu => Below wr.heap.size wr uu) (i := 0) (v := Value.string sv) rfl (by kernel_rfl) (by kernel_rfl) (by kernel_rfl) (fun _ _ _ h => by first | exact h | exact h.elim) (by decide) (fun _ h => h.elim) (fun _ h => h) (Sx.behind (by kernel_rfl) hm0.out) (Or.inl ⟨by rfl, fun uu hu => by go_simp⟩) ?_
            try go_simp
            refine wpAnyX_both (T := fun uu => Below wr.heap.size wr uu) (i := 1) (v := Value.string (sv ++ ⟨#[32]⟩)) rfl (by kernel_rfl) (by kernel_rfl) (by kernel_rfl) (fun _ _ _ h => by first | exact h | exact h.elim) (by decide) (fun _ h => h.elim) (fun _ h => h) (Sx.behind (by kernel_rfl) hm0.out) (Or.inl ⟨by rfl, fun uu hu => by go_simp <;> omega⟩) ?_
            try go_simp
            refine wpAnyX_both (T := fun uu => Below wr.heap.size wr uu) (i := 2) (v := Value.slice a ds.length c) rfl (by kernel_rfl) (by kernel_rfl) (by kernel_rfl) (fun _ _ _ h => by first | exact h | exact h.elim) (by decide) (fun _ h => h.elim) (fun _ h => h) (Sx.behind (by kernel_rfl) hm0.out) (Or.inl ⟨by rfl, fun uu hu => by go_simp⟩) ?_
            try go_simp
            refine wpAnyX_both (T := fun uu => Below wr.heap.size wr uu) (i := 3) (v := Value.agg #[Value.slice (some ⟨b2, o2, none⟩) n c2]) rfl (by kernel_rfl) (by kernel_rfl) (by kernel_rfl) (fun _ _ _ h => by first | exact h | exact h.elim) (by decide) (fun _ h => h.elim) (fun _ h => h) (Sx.behind (by kernel_rfl) hm0.out) (Or.inl ⟨by rfl, fun uu hu => by have e0 := (kcell hu (w.heap.size) (0) lo1).trans g1; go_simp⟩) ?_
            try go_simp
            refine wpAnyX_both (T := fun uu => Below wr.heap.size wr uu) (i := 4) (v := Value.pointer (some ⟨w.heap.size + 1, 6, none⟩)) rfl (by kernel_rfl) (by kernel_rfl) (by kernel_rfl) (fun _ _ _ h => by first | exact h | exact h.elim) (by decide) (fun _ h => h.elim) (fun _ h => h) (Sx.behind (by kernel_rfl) hm0.out) (Or.inl ⟨by rfl, fun uu hu => by go_simp⟩) ?_
            try go_simp
            refine wpAnyX_both (T := fun uu => Below wr.heap.size wr uu) (i := 5) (v := Value.slice (some ⟨kb, ko, none⟩) kl kc) rfl (by kernel_rfl) (by kernel_rfl) (by kernel_rfl) (fun _ _ _ h => by first | exact h | exact h.elim) (by decide) (fun _ h => h.elim) (fun _ h => h) (Sx.behind (by kernel_rfl) hm0.out) (Or.inl ⟨by rfl, fun uu hu => by have e0 := (kcell hu (w.heap.size + 1) (6) lo2).trans k6; go_simp⟩) ?_
            try go_simp
            refine wpAnyX_both (T := fun uu => Below wr.heap.size wr uu) (i := 6) (v := Value.int .i64 (i : Int)) rfl (by kernel_rfl) (by kernel_rfl) (by kernel_rfl) (fun _ _ _ h => by first | exact h | exact h.elim) (by decide) (fun _ h => h.elim) (fun _ h => h) (Sx.behind (by kernel_rfl) hm0.out) (Or.inl ⟨by rfl, fun uu hu => by go_simp⟩) ?_
            try go_simp
            refine wpAnyX_both (T := fun uu => Below wr.heap.size wr uu) (i := 7) (v := Value.pointer (some ⟨kb, ko + i, none⟩)) rfl (by kernel_rfl) (by kernel_rfl) (by kernel_rfl) (fun _ _ _ h => by first | exact h | exact h.elim) (by decide) (fun _ h => h.elim) (fun _ h => h) (Sx.behind (by kernel_rfl) hm0.out) (Or.inl ⟨by rfl, fun uu hu => by go_simp⟩) ?_
            try go_simp
            refine wpAnyX_both (T := fun uu => Below wr.heap.size wr uu) (i := 8) (v := Value.int .i64 (j : Int)) rfl (by kernel_rfl) (by kernel_rfl) (by kernel_rfl) (fun _ _ _ h => by first | exact h | exact h.elim) (by decide) (fun _ h => h.elim) (fun _ h => h) (Sx.behind (by kernel_rfl) hm0.out) (Or.inl ⟨by rfl, fun uu hu => by have e0 := (kcell hu (kb) (ko + i) lo3).trans q0; go_simp⟩) ?_
            try go_simp
            refine wpAnyX_ready (rs := [9]) (by kernel_rfl) (by simp) (AllX.cons rfl (fun K hK => ?_) AllX.nil)
            go_simp
            refine Calls.mono (HCC.out _ hm0.out) ?_
            rintro e m1 ⟨rfl, hb⟩
            have hm1 : Hid (Below wr.heap.size wr m1) := hm0.out.trans (hb.mono hm0.out.size)
            refine hK _ _ (Sx.behind (by kernel_rfl) hm1.out) ?_
            clear hK K hb
            try go_simp
            refine wpAnyX_both (T := fun uu => Below wr.heap.size wr uu) (i := 10) (v := Value.string (sv ++ ⟨#[32]⟩ ++ sj)) rfl (by kernel_rfl) (by kernel_rfl) (by kernel_rfl) (fun _ _ _ h => by first | exact h | exact h.elim) (by decide) (fun _ h => h.elim) (fun _ h => h) (Sx.behind (by kernel_rfl) hm1.out) (Or.inl ⟨by rfl, fun uu hu => by go_simp <;> omega⟩) ?_
            try go_simp
            refine wpAnyX_both (T := fun uu => Below wr.heap.size wr uu) (i := 11) (v := Value.string (sv ++ ⟨#[32]⟩ ++ sj)) rfl (by kernel_rfl) (by kernel_rfl) (by kernel_rfl) (fun _ _ _ h => by first | exact h | exact h.elim) (by decide) (fun _ h => h.elim) (fun _ h => h) (Sx.behind (by kernel_rfl) hm1.out) (Or.inl ⟨by rfl, fun uu hu => by go_simp⟩) ?_
            try go_simp
            refine wpAnyX_done (by kernel_rfl) ?_ _
            skip
            have ST5 := kide (HST.out.next hm1.out)
            generalize m1 = w5 at *
            clear hm1 hm0
            go_wp2_with fail
            go_roundw
            case rel => exact ⟨i + 1, by omega, by go_num, by rw [HAP.out], ST5.out⟩
            case measure => simp [intOf]; omega
          · have HFE : Hid (txt (hd ++ (kdT (txR ds ns) ks ++ [41])) = txt (hd ++ kdT (txR ds ns) (ks.take i)) ++ ⟨#[41]⟩) := by
              show _ = _
              rw [List.take_of_length_le (by rw [HKL.out]; omega), ← List.append_assoc, txt_appT]
              rfl
            generalize txt (hd ++ kdT (txR ds ns) (ks.take i)) = sv at *
            have hcat : (sv.size : Int) + 1 ≤ 9223372036854775807 := by omega
            clear hlen
            go_wp2_with fail
            go_ret
            refine ⟨?_, S3r.out.below⟩
            show Ending.returned (Value.string (sv ++ ⟨#[41]⟩)) = _
            rw [HFE.out]
      · obtain ⟨a0, a1⟩ := hna (by omega)
        obtain ⟨b0, b1⟩ := hnb (by omega)
        clear hna hnb
        have HAD := kide (fun u => l1Dec_any aa.toNat (by omega) u)
        have hAl := decN_small (n := aa.toNat) (by omega)
        rw [← txt_sizeT] at hAl
        rw [Int.toNat_of_nonneg (by omega)] at HAD
        have HBD := kide (fun u => l1Dec_any bb.toNat (by omega) u)
        have hBl := decN_small (n := bb.toNat) (by omega)
        rw [← txt_sizeT] at hBl
        rw [Int.toNat_of_nonneg (by omega)] at HBD

        rw [show (if op = 4 then (2 : Int) else if 4 < op then 1 else 0) = 2 by split <;> (try split) <;> omega] at HPT
        have HHE := kide (show ⟨#[40]⟩ ++ txt (wordN op) ++ ⟨#[32]⟩ ++ txt (decN aa.toNat) ++ ⟨#[32]⟩ ++ txt (decN bb.toNat) = txt (hdT ds ⟨op, vr, aa, bb, bw, ws, ks⟩) by
            unfold hdT
            simp only []
            rw [if_neg (by omega), if_neg (by omega), if_pos (by omega), if_pos (by omega), show (40 :: wordN op) = [40] ++ wordN op from rfl, show (32 :: decN aa.toNat) = [32] ++ decN aa.toNat from rfl, show (32 :: decN bb.toNat) = [32] ++ decN bb.toNat from rfl]
            simp only [txt_appT, ← ByteArray.append_assoc]
            rfl)
        generalize hdT ds ⟨op, vr, aa, bb, bw, ws, ks⟩ = hd at *
        generalize txt (wordN op) = sW at *
        have hWz : (sW.size : Int) ≤ 5 := by omega
        generalize txt (decN aa.toNat) = sA at *
        have hAz : (sA.size : Int) ≤ 8193 := by omega
        generalize txt (decN bb.toNat) = sB at *
        have hBz : (sB.size : Int) ≤ 8193 := by omega

        have HSZ := kide hsz
        clear s3 hne hsz e4
        go_enter Tryd.func16, Tryd.ntmps16
        go_wp2_with fail
        refine Calls.mono (HWD.out _) ?_
        rintro e w1 ⟨rfl, hb1⟩
        have SB1 := kide (SB.out.next hb1)
        have c0 := SB1.out.cell 0
        have c2' := SB1.out.cell 2
        have c3 := SB1.out.cell 3
        have c6 := SB1.out.cell 6
        simp at c0 c2' c3 c6
        clear hb1
        go_wp2_with fail
        refine Calls.mono (HPT.out _) ?_
        rintro e w1' ⟨rfl, hq⟩
        rw [hq]
        clear hq w1'
        go_wp2_with fail
        refine Calls.mono (HAD.out _) ?_
        rintro e w2 ⟨rfl, hb2⟩
        have SBw2 := kide (SB1.out.next hb2)
        have d0 := SBw2.out.cell 0
        have d3 := SBw2.out.cell 3
        have d6 := SBw2.out.cell 6
        simp at d0 d3 d6
        clear hb2
        go_wp2_with fail
        refine Calls.mono (HPT.out _) ?_
        rintro e w1' ⟨rfl, hq⟩
        rw [hq]
        clear hq w1'
        go_wp2_with fail
        clear c0 c2' c3 c6
        refine Calls.mono (HBD.out _) ?_
        rintro e w3 ⟨rfl, hb2⟩
        have SBw3 := kide (SBw2.out.next hb2)
        clear hb2 d0 d3 d6
        go_wp2_with fail
        have SBu := SBw3

        go_loopw [8, 9] (fun s q wr => ∃ i : Nat, i ≤ kl ∧ q = .int .i64 (i : Int) ∧ s = .string (txt (hd ++ kdT (txR ds ns) (ks.take i))) ∧ St (w.alloc (Obj.cells #[Value.slice (some ⟨b2, o2, none⟩) n c2] 33)) (Obj.cells #[Value.int .i64 op, Value.int .i64 vr, Value.int .i64 aa, Value.int .i64 bb, Value.int .i64 bw, Value.slice wa ws.length wc, Value.slice ka kl kc] 54) wr) (fun _ q _ => kl - (intOf q).toNat)
        case atStart => exact ⟨0, Nat.zero_le _, rfl, by congr 1; rw [List.take_zero]; simp only [kdT, List.flatMap_nil, List.append_nil]; exact HHE.out, SBu.out⟩
        case round =>
          obtain ⟨i, hi, rfl, rfl, hst⟩ := hrel
          have HST := kide hst
          have S3r := kide (S0.out.next hst.below)
          have k6 := HST.out.cell 6
          have g1 := S3r.out.cell 0
          simp at k6 g1
          have hlen : (txt (hd ++ kdT (txR ds ns) (ks.take i))).size ≤ 20000 := by
            have h1 := HSZ.out
            have h2 := kd_part (all := txR ds ns) (ks := ks) i
            rw [txt_sizeT]
            simp only [List.length_append] at h1 ⊢
            omega
          clear hst
          by_cases hil : i < kl
          · have j0 : (i : Int) < (kl : Int) := by omega
            obtain ⟨-, -, h | ⟨kb, ko, rfl, hkc⟩⟩ := HPK.out.later HST.out.below
            · have := HKL.out; subst h; simp at this; omega
            have q0 := hkc i (by rw [HKL.out]; exact hil)
            have hki : ks[i]? = some (ks.getD i 0) := by rw [List.getElem?_eq_getElem (by rw [HKL.out]; exact hil)]; simp [List.getD, show i < ks.length by rw [HKL.out]; exact hil]
            have hkm := List.mem_of_getElem? hki
            have hkr := HKK.out (ks.getD i 0) hkm
            have HST2 := kide (kd_take (all := txR ds ns) hki)
            have hkt := kd_lt (all := txR ds ns) hkm
            obtain ⟨j, hj, hjk⟩ : ∃ j : Nat, ks.getD i 0 = (j : Int) ∧ j < p := ⟨(ks.getD i 0).toNat, by omega, by omega⟩
            rw [hj] at q0 HST2 hkt
            rw [Int.toNat_natCast] at HST2 hkt
            have hjl : ((txR ds ns).getD j []).length ≤ 20000 := by
              have h1 := HSZ.out
              simp only [List.length_append] at h1
              omega
            have HCC := kide (fun u (hu : Below wr.heap.size wr u) => IH.out j hjk (by have := HPN.out; omega) hjl u (HR.out.later (S3r.out.next hu).below) (HS.out.later (S3r.out.next hu).below))
            have hsj : ((txt ((txR ds ns).getD j [])).size : Int) ≤ 20000 := by rw [txt_sizeT]; omega
            have HAP : Hid (txt (hd ++ kdT (txR ds ns) (ks.take (i + 1))) = txt (hd ++ kdT (txR ds ns) (ks.take i)) ++ ⟨#[32]⟩ ++ txt ((txR ds ns).getD j [])) := by
              show _ = _
              rw [HST2.out, show (32 :: (txR ds ns).getD j []) = [32] ++ (txR ds ns).getD j [] from rfl]
              simp only [txt_appT, ← ByteArray.append_assoc]
              rfl
            generalize txt ((txR ds ns).getD j []) = sj at *
            generalize txt (hd ++ kdT (txR ds ns) (ks.take i)) = sv at *
            have hsv : (sv.size : Int) ≤ 20000 := by omega
            have HSV := kide hsv
            have HSJ := kide hsj
            have hcat : (sv.size : Int) + 1 ≤ 9223372036854775807 := by omega
            have hcat2 : (sv.size : Int) + 1 + (sj.size : Int) ≤ 9223372036854775807 := by omega
            clear hkc hki hkr hj hkt hjl hlen hsv hsj hkm
            have lo1 := block_lt_of_cell g1
            have lo2 := block_lt_of_cell k6
            have lo3 := block_lt_of_cell q0
            simp only [] at lo1 lo2 lo3
            go_wp2_with fail
            refine wp_region_x (SA := fun _ => False) (SB := fun uu => Below wr.heap.size wr uu) (k := 999) (by kernel_rfl) ?_
            have hm0 : Hid (Below wr.heap.size wr wr.drew) := (Below.refl _ _).drew
            generalize wr.drew = m0 at *
            try go_simp
            refine wpAnyX_both (T := fun uu => Below wr.heap.size wr uu) (i := 0) (v := Value.string sv) rfl (by kernel_rfl) (by kernel_rfl) (by kernel_rfl) (fun _ _ _ h => by first | exact h | exact h.elim) (by decide) (fun _ h => h.elim) (fun _ h => h) (Sx.behind (by kernel_rfl) hm0.out) (Or.inl ⟨by rfl, fun uu hu => by go_simp⟩) ?_
            try go_simp
            refine wpAnyX_both (T := fun uu => Below wr.heap.size wr uu) (i := 1) (v := Value.string (sv ++ ⟨#[32]⟩)) rfl (by kernel_rfl) (by kernel_rfl) (by kernel_rfl) (fun _ _ _ h => by first | exact h | exact h.elim) (by decide) (fun _ h => h.elim) (fun _ h => h) (Sx.behind (by kernel_rfl) hm0.out) (Or.inl ⟨by rfl, fun uu hu => by go_simp <;> omega⟩) ?_
            try go_simp
            refine wpAnyX_both (T := fun uu => Below wr.heap.size wr uu) (i := 2) (v := Value.slice a ds.length c) rfl (by kernel_rfl) (by kernel_rfl) (by kernel_rfl) (fun _ _ _ h => by first | exact h | exact h.elim) (by decide) (fun _ h => h.elim) (fun _ h => h) (Sx.behind (by kernel_rfl) hm0.out) (Or.inl ⟨by rfl, fun uu hu => by go_simp⟩) ?_
            try go_simp
            refine wpAnyX_both (T := fun uu => Below wr.heap.size wr uu) (i := 3) (v := Value.agg #[Value.slice (some ⟨b2, o2, none⟩) n c2]) rfl (by kernel_rfl) (by kernel_rfl) (by kernel_rfl) (fun _ _ _ h => by first | exact h | exact h.elim) (by decide) (fun _ h => h.elim) (fun _ h => h) (Sx.behind (by kernel_rfl) hm0.out) (Or.inl ⟨by rfl, fun uu hu => by have e0 := (kcell hu (w.heap.size) (0) lo1).trans g1; go_simp⟩) ?_
            try go_simp
            refine wpAnyX_both (T := fun uu => Below wr.heap.size wr uu) (i := 4) (v := Value.pointer (some ⟨w.heap.size + 1, 6, none⟩)) rfl (by kernel_rfl) (by kernel_rfl) (by kernel_rfl) (fun _ _ _ h => by first | exact h | exact h.elim) (by decide) (fun _ h => h.elim) (fun _ h => h) (Sx.behind (by kernel_rfl) hm0.out) (Or.inl ⟨by rfl, fun uu hu => by go_simp⟩) ?_
            try go_simp
            refine wpAnyX_both (T := fun uu => Below wr.heap.size wr uu) (i := 5) (v := Value.slice (some ⟨kb, ko, none⟩) kl kc) rfl (by kernel_rfl) (by kernel_rfl) (by kernel_rfl) (fun _ _ _ h => by first | exact h | exact h.elim) (by decide) (fun _ h => h.elim) (fun _ h => h) (Sx.behind (by kernel_rfl) hm0.out) (Or.inl ⟨by rfl, fun uu hu => by have e0 := (kcell hu (w.heap.size + 1) (6) lo2).trans k6; go_simp⟩) ?_
            try go_simp
            refine wpAnyX_both (T := fun uu => Below wr.heap.size wr uu) (i := 6) (v := Value.int .i64 (i : Int)) rfl (by kernel_rfl) (by kernel_rfl) (by kernel_rfl) (fun _ _ _ h => by first | exact h | exact h.elim) (by decide) (fun _ h => h.elim) (fun _ h => h) (Sx.behind (by kernel_rfl) hm0.out) (Or.inl ⟨by rfl, fun uu hu => by go_simp⟩) ?_
            try go_simp
            refine wpAnyX_both (T := fun uu => Below wr.heap.size wr uu) (i := 7) (v := Value.pointer (some ⟨kb, ko + i, none⟩)) rfl (by kernel_rfl) (by kernel_rfl) (by kernel_rfl) (fun _ _ _ h => by first | exact h | exact h.elim) (by decide) (fun _ h => h.elim) (fun _ h => h) (Sx.behind (by kernel_rfl) hm0.out) (Or.inl ⟨by rfl, fun uu hu => by go_simp⟩) ?_
            try go_simp
            refine wpAnyX_both (T := fun uu => Below wr.heap.size wr uu) (i := 8) (v := Value.int .i64 (j : Int)) rfl (by kernel_rfl) (by kernel_rfl) (by kernel_rfl) (fun _ _ _ h => by first | exact h | exact h.elim) (by decide) (fun _ h => h.elim) (fun _ h => h) (Sx.behind (by kernel_rfl) hm0.out) (Or.inl ⟨by rfl, fun uu hu => by have e0 := (kcell hu (kb) (ko + i) lo3).trans q0; go_simp⟩) ?_
            try go_simp
            refine wpAnyX_ready (rs := [9]) (by kernel_rfl) (by simp) (AllX.cons rfl (fun K hK => ?_) AllX.nil)
            go_simp
            refine Calls.mono (HCC.out _ hm0.out) ?_
            rintro e m1 ⟨rfl, hb⟩
            have hm1 : Hid (Below wr.heap.size wr m1) := hm0.out.trans (hb.mono hm0.out.size)
            refine hK _ _ (Sx.behind (by kernel_rfl) hm1.out) ?_
            clear hK K hb
            try go_simp
            refine wpAnyX_both (T := fun uu => Below wr.heap.size wr uu) (i := 10) (v := Value.string (sv ++ ⟨#[32]⟩ ++ sj)) rfl (by kernel_rfl) (by kernel_rfl) (by kernel_rfl) (fun _ _ _ h => by first | exact h | exact h.elim) (by decide) (fun _ h => h.elim) (fun _ h => h) (Sx.behind (by kernel_rfl) hm1.out) (Or.inl ⟨by rfl, fun uu hu => by go_simp <;> omega⟩) ?_
            try go_simp
            refine wpAnyX_both (T := fun uu => Below wr.heap.size wr uu) (i := 11) (v := Value.string (sv ++ ⟨#[32]⟩ ++ sj)) rfl (by kernel_rfl) (by kernel_rfl) (by kernel_rfl) (fun _ _ _ h => by first | exact h | exact h.elim) (by decide) (fun _ h => h.elim) (fun _ h => h) (Sx.behind (by kernel_rfl) hm1.out) (Or.inl ⟨by rfl, fun uu hu => by go_simp⟩) ?_
            try go_simp
            refine wpAnyX_done (by kernel_rfl) ?_ _
            skip
            have ST5 := kide (HST.out.next hm1.out)
            generalize m1 = w5 at *
            clear hm1 hm0
            go_wp2_with fail
            go_roundw
            case rel => exact ⟨i + 1, by omega, by go_num, by rw [HAP.out], ST5.out⟩
            case measure => simp [intOf]; omega
          · have HFE : Hid (txt (hd ++ (kdT (txR ds ns) ks ++ [41])) = txt (hd ++ kdT (txR ds ns) (ks.take i)) ++ ⟨#[41]⟩) := by
              show _ = _
              rw [List.take_of_length_le (by rw [HKL.out]; omega), ← List.append_assoc, txt_appT]
              rfl
            generalize txt (hd ++ kdT (txR ds ns) (ks.take i)) = sv at *
            have hcat : (sv.size : Int) + 1 ≤ 9223372036854775807 := by omega
            clear hlen
            go_wp2_with fail
            go_ret
            refine ⟨?_, S3r.out.below⟩
            show Ending.returned (Value.string (sv ++ ⟨#[41]⟩)) = _
            rw [HFE.out]
      · obtain ⟨a0, a1⟩ := hna (by omega)
        clear hna hnb
        have HAD := kide (fun u => l1Dec_any aa.toNat (by omega) u)
        have hAl := decN_small (n := aa.toNat) (by omega)
        rw [← txt_sizeT] at hAl
        rw [Int.toNat_of_nonneg (by omega)] at HAD

        rw [show (if op = 4 then (2 : Int) else if 4 < op then 1 else 0) = 1 by split <;> (try split) <;> omega] at HPT
        have HHE := kide (show ⟨#[40]⟩ ++ txt (wordN op) ++ ⟨#[32]⟩ ++ txt (decN aa.toNat) = txt (hdT ds ⟨op, vr, aa, bb, bw, ws, ks⟩) by
            unfold hdT
            simp only []
            rw [if_neg (by omega), if_neg (by omega), if_pos (by omega), if_neg (by omega), List.append_nil, show (40 :: wordN op) = [40] ++ wordN op from rfl, show (32 :: decN aa.toNat) = [32] ++ decN aa.toNat from rfl, txt_appT, txt_appT, txt_appT, ← ByteArray.append_assoc]
            rfl)
        generalize hdT ds ⟨op, vr, aa, bb, bw, ws, ks⟩ = hd at *
        generalize txt (wordN op) = sW at *
        have hWz : (sW.size : Int) ≤ 5 := by omega
        generalize txt (decN aa.toNat) = sA at *
        have hAz : (sA.size : Int) ≤ 8193 := by omega

        have HSZ := kide hsz
        clear s3 hne hsz 
        go_enter Tryd.func16, Tryd.ntmps16
        go_wp2_with fail
        refine Calls.mono (HWD.out _) ?_
        rintro e w1 ⟨rfl, hb1⟩
        have SB1 := kide (SB.out.next hb1)
        have c0 := SB1.out.cell 0
        have c2' := SB1.out.cell 2
        have c3 := SB1.out.cell 3
        have c6 := SB1.out.cell 6
        simp at c0 c2' c3 c6
        clear hb1
        go_wp2_with fail
        refine Calls.mono (HPT.out _) ?_
        rintro e w1' ⟨rfl, hq⟩
        rw [hq]
        clear hq w1'
        go_wp2_with fail
        refine Calls.mono (HAD.out _) ?_
        rintro e w2 ⟨rfl, hb2⟩
        have SBw2 := kide (SB1.out.next hb2)
        have d0 := SBw2.out.cell 0
        have d3 := SBw2.out.cell 3
        have d6 := SBw2.out.cell 6
        simp at d0 d3 d6
        clear hb2
        go_wp2_with fail
        refine Calls.mono (HPT.out _) ?_
        rintro e w1' ⟨rfl, hq⟩
        rw [hq]
        clear hq w1'
        go_wp2_with fail
        clear d0 d3 d6 c0 c2' c3 c6
        have SBu := SBw2

        go_loopw [8, 9] (fun s q wr => ∃ i : Nat, i ≤ kl ∧ q = .int .i64 (i : Int) ∧ s = .string (txt (hd ++ kdT (txR ds ns) (ks.take i))) ∧ St (w.alloc (Obj.cells #[Value.slice (some ⟨b2, o2, none⟩) n c2] 33)) (Obj.cells #[Value.int .i64 op, Value.int .i64 vr, Value.int .i64 aa, Value.int .i64 bb, Value.int .i64 bw, Value.slice wa ws.length wc, Value.slice ka kl kc] 54) wr) (fun _ q _ => kl - (intOf q).toNat)
        case atStart => exact ⟨0, Nat.zero_le _, rfl, by congr 1; rw [List.take_zero]; simp only [kdT, List.flatMap_nil, List.append_nil]; exact HHE.out, SBu.out⟩
        case round =>
          obtain ⟨i, hi, rfl, rfl, hst⟩ := hrel
          have HST := kide hst
          have S3r := kide (S0.out.next hst.below)
          have k6 := HST.out.cell 6
          have g1 := S3r.out.cell 0
          simp at k6 g1
          have hlen : (txt (hd ++ kdT (txR ds ns) (ks.take i))).size ≤ 20000 := by
            have h1 := HSZ.out
            have h2 := kd_part (all := txR ds ns) (ks := ks) i
            rw [txt_sizeT]
            simp only [List.length_append] at h1 ⊢
            omega
          clear hst
          by_cases hil : i < kl
          · have j0 : (i : Int) < (kl : Int) := by omega
            obtain ⟨-, -, h | ⟨kb, ko, rfl, hkc⟩⟩ := HPK.out.later HST.out.below
            · have := HKL.out; subst h; simp at this; omega
            have q0 := hkc i (by rw [HKL.out]; exact hil)
            have hki : ks[i]? = some (ks.getD i 0) := by rw [List.getElem?_eq_getElem (by rw [HKL.out]; exact hil)]; simp [List.getD, show i < ks.length by rw [HKL.out]; exact hil]
            have hkm := List.mem_of_getElem? hki
            have hkr := HKK.out (ks.getD i 0) hkm
            have HST2 := kide (kd_take (all := txR ds ns) hki)
            have hkt := kd_lt (all := txR ds ns) hkm
            obtain ⟨j, hj, hjk⟩ : ∃ j : Nat, ks.getD i 0 = (j : Int) ∧ j < p := ⟨(ks.getD i 0).toNat, by omega, by omega⟩
            rw [hj] at q0 HST2 hkt
            rw [Int.toNat_natCast] at HST2 hkt
            have hjl : ((txR ds ns).getD j []).length ≤ 20000 := by
              have h1 := HSZ.out
              simp only [List.length_append] at h1
              omega
            have HCC := kide (fun u (hu : Below wr.heap.size wr u) => IH.out j hjk (by have := HPN.out; omega) hjl u (HR.out.later (S3r.out.next hu).below) (HS.out.later (S3r.out.next hu).below))
            have hsj : ((txt ((txR ds ns).getD j [])).size : Int) ≤ 20000 := by rw [txt_sizeT]; omega
            have HAP : Hid (txt (hd ++ kdT (txR ds ns) (ks.take (i + 1))) = txt (hd ++ kdT (txR ds ns) (ks.take i)) ++ ⟨#[32]⟩ ++ txt ((txR ds ns).getD j [])) := by
              show _ = _
              rw [HST2.out, show (32 :: (txR ds ns).getD j []) = [32] ++ (txR ds ns).getD j [] from rfl]
              simp only [txt_appT, ← ByteArray.append_assoc]
              rfl
            generalize txt ((txR ds ns).getD j []) = sj at *
            generalize txt (hd ++ kdT (txR ds ns) (ks.take i)) = sv at *
            have hsv : (sv.size : Int) ≤ 20000 := by omega
            have HSV := kide hsv
            have HSJ := kide hsj
            have hcat : (sv.size : Int) + 1 ≤ 9223372036854775807 := by omega
            have hcat2 : (sv.size : Int) + 1 + (sj.size : Int) ≤ 9223372036854775807 := by omega
            clear hkc hki hkr hj hkt hjl hlen hsv hsj hkm
            have lo1 := block_lt_of_cell g1
            have lo2 := block_lt_of_cell k6
            have lo3 := block_lt_of_cell q0
            simp only [] at lo1 lo2 lo3
            go_wp2_with fail
            refine wp_region_x (SA := fun _ => False) (SB := fun uu => Below wr.heap.size wr uu) (k := 999) (by kernel_rfl) ?_
            have hm0 : Hid (Below wr.heap.size wr wr.drew) := (Below.refl _ _).drew
            generalize wr.drew = m0 at *
            try go_simp
            refine wpAnyX_both (T := fun uu => Below wr.heap.size wr uu) (i := 0) (v := Value.string sv) rfl (by kernel_rfl) (by kernel_rfl) (by kernel_rfl) (fun _ _ _ h => by first | exact h | exact h.elim) (by decide) (fun _ h => h.elim) (fun _ h => h) (Sx.behind (by kernel_rfl) hm0.out) (Or.inl ⟨by rfl, fun uu hu => by go_simp⟩) ?_
            try go_simp
            refine wpAnyX_both (T := fun uu => Below wr.heap.size wr uu) (i := 1) (v := Value.string (sv ++ ⟨#[32]⟩)) rfl (by kernel_rfl) (by kernel_rfl) (by kernel_rfl) (fun _ _ _ h => by first | exact h | exact h.elim) (by decide) (fun _ h => h.elim) (fun _ h => h) (Sx.behind (by kernel_rfl) hm0.out) (Or.inl ⟨by rfl, fun uu hu => by go_simp <;> omega⟩) ?_
            try go_simp
            refine wpAnyX_both (T := fun uu => Below wr.heap.size wr uu) (i := 2) (v := Value.slice a ds.length c) rfl (by kernel_rfl) (by kernel_rfl) (by kernel_rfl) (fun _ _ _ h => by first | exact h | exact h.elim) (by decide) (fun _ h => h.elim) (fun _ h => h) (Sx.behind (by kernel_rfl) hm0.out) (Or.inl ⟨by rfl, fun uu hu => by go_simp⟩) ?_
            try go_simp
            refine wpAnyX_both (T := fun uu => Below wr.heap.size wr uu) (i := 3) (v := Value.agg #[Value.slice (some ⟨b2, o2, none⟩) n c2]) rfl (by kernel_rfl) (by kernel_rfl) (by kernel_rfl) (fun _ _ _ h => by first | exact h | exact h.elim) (by decide) (fun _ h => h.elim) (fun _ h => h) (Sx.behind (by kernel_rfl) hm0.out) (Or.inl ⟨by rfl, fun uu hu => by have e0 := (kcell hu (w.heap.size) (0) lo1).trans g1; go_simp⟩) ?_
            try go_simp
            refine wpAnyX_both (T := fun uu => Below wr.heap.size wr uu) (i := 4) (v := Value.pointer (some ⟨w.heap.size + 1, 6, none⟩)) rfl (by kernel_rfl) (by kernel_rfl) (by kernel_rfl) (fun _ _ _ h => by first | exact h | exact h.elim) (by decide) (fun _ h => h.elim) (fun _ h => h) (Sx.behind (by kernel_rfl) hm0.out) (Or.inl ⟨by rfl, fun uu hu => by go_simp⟩) ?_
            try go_simp
            refine wpAnyX_both (T := fun uu => Below wr.heap.size wr uu) (i := 5) (v := Value.slice (some ⟨kb, ko, none⟩) kl kc) rfl (by kernel_rfl) (by kernel_rfl) (by kernel_rfl) (fun _ _ _ h => by first | exact h | exact h.elim) (by decide) (fun _ h => h.elim) (fun _ h => h) (Sx.behind (by kernel_rfl) hm0.out) (Or.inl ⟨by rfl, fun uu hu => by have e0 := (kcell hu (w.heap.size + 1) (6) lo2).trans k6; go_simp⟩) ?_
            try go_simp
            refine wpAnyX_both (T := fun uu => Below wr.heap.size wr uu) (i := 6) (v := Value.int .i64 (i : Int)) rfl (by kernel_rfl) (by kernel_rfl) (by kernel_rfl) (fun _ _ _ h => by first | exact h | exact h.elim) (by decide) (fun _ h => h.elim) (fun _ h => h) (Sx.behind (by kernel_rfl) hm0.out) (Or.inl ⟨by rfl, fun uu hu => by go_simp⟩) ?_
            try go_simp
            refine wpAnyX_both (T := fun uu => Below wr.heap.size wr uu) (i := 7) (v := Value.pointer (some ⟨kb, ko + i, none⟩)) rfl (by kernel_rfl) (by kernel_rfl) (by kernel_rfl) (fun _ _ _ h => by first | exact h | exact h.elim) (by decide) (fun _ h => h.elim) (fun _ h => h) (Sx.behind (by kernel_rfl) hm0.out) (Or.inl ⟨by rfl, fun uu hu => by go_simp⟩) ?_
            try go_simp
            refine wpAnyX_both (T := fun uu => Below wr.heap.size wr uu) (i := 8) (v := Value.int .i64 (j : Int)) rfl (by kernel_rfl) (by kernel_rfl) (by kernel_rfl) (fun _ _ _ h => by first | exact h | exact h.elim) (by decide) (fun _ h => h.elim) (fun _ h => h) (Sx.behind (by kernel_rfl) hm0.out) (Or.inl ⟨by rfl, fun uu hu => by have e0 := (kcell hu (kb) (ko + i) lo3).trans q0; go_simp⟩) ?_
            try go_simp
            refine wpAnyX_ready (rs := [9]) (by kernel_rfl) (by simp) (AllX.cons rfl (fun K hK => ?_) AllX.nil)
            go_simp
            refine Calls.mono (HCC.out _ hm0.out) ?_
            rintro e m1 ⟨rfl, hb⟩
            have hm1 : Hid (Below wr.heap.size wr m1) := hm0.out.trans (hb.mono hm0.out.size)
            refine hK _ _ (Sx.behind (by kernel_rfl) hm1.out) ?_
            clear hK K hb
            try go_simp
            refine wpAnyX_both (T := fun uu => Below wr.heap.size wr uu) (i := 10) (v := Value.string (sv ++ ⟨#[32]⟩ ++ sj)) rfl (by kernel_rfl) (by kernel_rfl) (by kernel_rfl) (fun _ _ _ h => by first | exact h | exact h.elim) (by decide) (fun _ h => h.elim) (fun _ h => h) (Sx.behind (by kernel_rfl) hm1.out) (Or.inl ⟨by rfl, fun uu hu => by go_simp <;> omega⟩) ?_
            try go_simp
            refine wpAnyX_both (T := fun uu => Below wr.heap.size wr uu) (i := 11) (v := Value.string (sv ++ ⟨#[32]⟩ ++ sj)) rfl (by kernel_rfl) (by kernel_rfl) (by kernel_rfl) (fun _ _ _ h => by first | exact h | exact h.elim) (by decide) (fun _ h => h.elim) (fun _ h => h) (Sx.behind (by kernel_rfl) hm1.out) (Or.inl ⟨by rfl, fun uu hu => by go_simp⟩) ?_
            try go_simp
            refine wpAnyX_done (by kernel_rfl) ?_ _
            skip
            have ST5 := kide (HST.out.next hm1.out)
            generalize m1 = w5 at *
            clear hm1 hm0
            go_wp2_with fail
            go_roundw
            case rel => exact ⟨i + 1, by omega, by go_num, by rw [HAP.out], ST5.out⟩
            case measure => simp [intOf]; omega
          · have HFE : Hid (txt (hd ++ (kdT (txR ds ns) ks ++ [41])) = txt (hd ++ kdT (txR ds ns) (ks.take i)) ++ ⟨#[41]⟩) := by
              show _ = _
              rw [List.take_of_length_le (by rw [HKL.out]; omega), ← List.append_assoc, txt_appT]
              rfl
            generalize txt (hd ++ kdT (txR ds ns) (ks.take i)) = sv at *
            have hcat : (sv.size : Int) + 1 ≤ 9223372036854775807 := by omega
            clear hlen
            go_wp2_with fail
            go_ret
            refine ⟨?_, S3r.out.below⟩
            show Ending.returned (Value.string (sv ++ ⟨#[41]⟩)) = _
            rw [HFE.out]

end Go.Proofs.YteenmffhbgpahaaDoor
