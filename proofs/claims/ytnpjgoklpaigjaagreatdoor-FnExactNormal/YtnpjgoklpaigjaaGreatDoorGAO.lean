/- Several texts in one. -/
import Derived.Test.YtnpjgoklpaigjaaGreatDoorGAB
import Derived.Test.YtnpjgoklpaigjaaGreatDoorGAM
import Derived.Test.YtnpjgoklpaigjaaGreatDoorRX
import Derived.Test.YtnpjgoklpaigjaaGreatDoorGAI
import Derived.Handy
import Derived.Test.YtnpjgoklpaigjaaGreatDoorGAH
import Derived.Test.YtnpjgoklpaigjaaGreatDoorGAN
namespace Go.Proofs.YtnpjgoklpaigjaaGreatDoor
open Go.RowKit
set_option linter.unusedVariables false
set_option linter.unusedSimpArgs false
theorem kwR_len (wide ks : List Int) : (kwR wide ks).length = ks.length := by simp [kwR]
theorem kwR_get {wide ks : List Int} {k : Nat} (h : k < ks.length) : (kwR wide ks).getD k 0 = wide.getD (ks.getD k 0).toNat 0 := by simp [kwR, List.getD, h]
set_option maxHeartbeats 4000000 in
set_option maxRecDepth 100000 in
theorem nodeWidth_any (a : Option Addr) (c : Nat) (ds : List Dc) (n : Tc) (wa ka ya : Option Addr) (wc kc yc : Nat) (wide : List Int) (w : World) (hr : RdD w a ds) (hw : Rd w wa n.ws) (hk : RdI w ka n.ks) (hy : RdI w ya wide) (hG : GF w)
  (hwd : ∀ x ∈ wide, 1 ≤ x ∧ x ≤ 4096) (hkr : kidsR wide.length n.ks = true) (hf : fldR n = true) :
  Calls Tryz.prog 85 #[.slice a ds.length c, .agg #[.int .i64 n.op, .int .i64 n.vr, .int .i64 n.a, .int .i64 n.b, .int .i64 n.bw, .slice wa n.ws.length wc, .slice ka n.ks.length kc], .slice ya wide.length yc] w fun e w' => e = .returned (.tuple #[.int .i64 (nodR ds n (kwR wide n.ks)).1, .int .i64 (nodR ds n (kwR wide n.ks)).2]) ∧ Below w.heap.size w w' := by
 have hop := fldR_op hf
 have hl1 := hr.1
 have hl2 := hk.1
 have hl3 := hy.1
 have hlw := hw.1
 have hkb := kids_get hwd hkr
 have HKB : Hid (∀ y ∈ kwR wide n.ks, 1 ≤ y ∧ y ≤ 4096) := fun y hy' => by
  obtain ⟨k, hk', rfl⟩ := List.mem_map.1 hy'
  exact hkb k hk'
 have HKI : Hid (∀ k, k < n.ks.length → 0 ≤ n.ks.getD k 0 ∧ n.ks.getD k 0 < (wide.length : Int)) := fun k hk' => by
  simp only [kidsR, List.all_eq_true, decide_eq_true_eq] at hkr
  have := hkr _ (List.getElem_mem hk')
  simp [List.getD, hk']
  omega
 have HRD := kide (fun u (hu : Below w.heap.size w u) => hr.later hu)
 have HRW := kide (fun u (hu : Below w.heap.size w u) => hw.later hu)
 have HRK := kide (fun u (hu : Below w.heap.size w u) => hk.later hu)
 have HRY := kide (fun u (hu : Below w.heap.size w u) => hy.later hu)
 have HG := kide (fun u (hu : Below w.heap.size w u) => hG.later hu)
 have HF := kide hf
 generalize hV : nodR ds n (kwR wide n.ks) = V
 have HV := kide hV
 clear hV
 have hmk := fun kl kc w => run_make_row' (P := Tryz.prog) 60 2 (.int .i64 0) 8 Tryz.underlying60 Tryz.infoI64 rfl kl kc n.ks.length (by omega) (by omega) w
 obtain ⟨op, vr, A, B, bw, ws, ks⟩ := n
 simp only [] at hmk HKB HKI HRW HRK HF HV hop hl2 hlw ⊢
 clear hr hw hk hy hG hkr hf hkb
 obtain ⟨wl, hwl⟩ : ∃ m, ws.length = m := ⟨_, rfl⟩
 rw [hwl] at hlw ⊢
 have HWL := kide hwl
 clear hwl
 obtain ⟨kl, hkl⟩ : ∃ m, ks.length = m := ⟨_, rfl⟩
 rw [hkl] at hl2 hmk HKI ⊢
 have HKL := kide hkl
 clear hkl
 have s0 := St.start w (Obj.cells #[.int .i64 op, .int .i64 vr, .int .i64 A, .int .i64 B, .int .i64 bw, .slice wa wl wc, .slice ka kl kc] 67)
 go_enter Tryz.func85, Tryz.ntmps85
 go_wp2_with fail
 go_loopw [18] (fun i wr => ∃ k : Nat, k ≤ kl ∧ i = .int .i64 k ∧ OwnI wr (w.heap.size + 1) ((kwR wide ks).take k ++ List.replicate (kl - k) 0) ∧ St w (Obj.cells #[.int .i64 op, .int .i64 vr, .int .i64 A, .int .i64 B, .int .i64 bw, .slice wa wl wc, .slice ka kl kc] 67) wr) (fun i _ => kl - (intOf i).toNat)
 case atStart =>
  refine ⟨0, Nat.zero_le _, rfl, ?_, ?_⟩
  ·unfold OwnI
   have := heap_alloc_new (w.alloc (Obj.cells #[.int .i64 op, .int .i64 vr, .int .i64 A, .int .i64 B, .int .i64 bw, .slice wa wl wc, .slice ka kl kc] 67)) (.cells (madeCells #[.int .i64 0] kl) 2)
   simp only [World.size_alloc] at this
   rw [this, i64s_made]
   rfl
  ·exact s0.next (blA _ _)
 case round =>
  obtain ⟨k, hk, rfl, hown, s1⟩ := hrel
  by_cases hlt : k < kl
  ·obtain ⟨-, -, h | ⟨b, o, rfl, hc⟩⟩ := HRK.out wr s1.below
   ·have := HKL.out; subst h; simp at this; omega
   have hkk := HKI.out k hlt
   have hp0 := hc k (by rw [HKL.out]; exact hlt)
   obtain ⟨j, hj, hjl⟩ : ∃ j : Nat, ks.getD k 0 = (j : Int) ∧ j < wide.length := ⟨(ks.getD k 0).toNat, by omega, by omega⟩
   rw [hj] at hp0
   obtain ⟨-, -, h | ⟨b2, o2, rfl, hc2⟩⟩ := HRY.out wr s1.below
   ·subst h; simp at hjl
   have q0 := hc2 j hjl
   have hget : (kwR wide ks).getD k 0 = wide.getD j 0 := by
    rw [kwR_get (by rw [HKL.out]; exact hlt), hj, Int.toNat_natCast]
   have HT := kide (take_setI (kwR wide ks) k (by rw [kwR_len, HKL.out]; exact hlt))
   rw [kwR_len, HKL.out, hget] at HT
   have hcg := hown.cell (i := k) (by simp [kwR_len, HKL.out]; omega)
   have hfg := hown.free k
   generalize wide.getD j 0 = y at *
   have HO := kide (hown.put k y)
   generalize ((kwR wide ks).take k ++ List.replicate (kl - k) 0).getD k 0 = z at hcg
   have hki : (k : Int) < (kl : Int) := by omega
   have hji : (j : Int) < (wide.length : Int) := by omega
   clear hc hc2 hown hmk s0 hget hj hkk
   go_wp2_with fail
   go_roundw
   case rel =>
    have h := HO.out
    rw [HT.out] at h
    exact ⟨k + 1, by omega, by go_num, h, Below.setCell s1 (Nat.le_refl _) _⟩
   case measure => simp [intOf]; omega
  ·have e : k = kl := by omega
   rw [e] at hown
   have HO : Hid (OwnI wr (w.heap.size + 1) (kwR wide ks)) := by
    have h := hown
    rw [List.take_of_length_le (by rw [kwR_len, HKL.out]; omega)] at h
    show OwnI _ _ _
    simpa using h
   have g0 := s1.cell 0
   have g1 := s1.cell 1
   have g2 := s1.cell 2
   have g3 := s1.cell 3
   have g4 := s1.cell 4
   have g5 := s1.cell 5
   have g6 := s1.cell 6
   simp at g0 g1 g2 g3 g4 g5 g6
   clear hown s0 hmk hlt hk
   obtain e := e.symm
   subst e
   rcases op_cases hop.1 hop.2 with rfl | rfl | rfl | rfl | rfl | rfl | rfl | rfl | rfl
   ·by_cases hv : 0 ≤ vr ∧ vr < (ds.length : Int)
    ·obtain ⟨k, rfl, hk⟩ : ∃ k : Nat, vr = (k : Int) ∧ k < ds.length := ⟨vr.toNat, by omega, by omega⟩
     obtain ⟨-, -, h | ⟨b, o, rfl, hc⟩⟩ := HRD.out wr s1.below
     ·subst h; simp at hk
     obtain ⟨⟨s', x⟩, hd⟩ : ∃ d, ds[k]? = some d := ⟨_, List.getElem?_eq_getElem hk⟩
     obtain ⟨c0, c1⟩ := hc k _ hd
     simp only [] at c0 c1
     have hP : bndR x = V := by
      have hde : ds.getD k (.empty, 0) = (s', x) := by rw [List.getD_eq_getElem?_getD, hd]; rfl
      rw [← HV.out]
      simp only [nodR, if_true, if_pos hv, Int.toNat_natCast, hde]
     have HOP := kide (opOf_var (some ⟨b, o, none⟩) ds.length c (k : Int) A B bw wa ka wl wc kl kc wr b o k s' x rfl rfl hk hl1 c0 c1)
     clear hc hd c0 c1 hv
     go_wp2_with fail
     refine Calls.mono HOP.out ?_
     rintro e w2 ⟨rfl, hb2⟩
     have s2 := s1.next hb2
     clear hb2 g0 g1 g2 g3 g4 g5 g6
     have HM := kide (varWidth_any s' x (some ⟨w.heap.size + 1, 0, none⟩) kl kl w2)
     rw [hP] at HM
     clear hP
     go_wp2_with fail
     refine Calls.mono HM.out ?_
     rintro e w3 ⟨rfl, hb3⟩
     go_wp2_with fail
     go_returns
     exact ⟨rfl, s2.below.trans (hb3.mono s2.below.size)⟩
    ·have hP : bndR 0 = V := by
      rw [← HV.out]
      simp [nodR, hv]
      simp [bndR]
     have HOP := kide (opOf_off a ds.length c vr A B bw wa ka wl wc kl kc wr (by omega) hl1)
     clear hv
     go_wp2_with fail
     refine Calls.mono HOP.out ?_
     rintro e w2 ⟨rfl, hb2⟩
     have s2 := s1.next hb2
     clear hb2 g0 g1 g2 g3 g4 g5 g6
     have HM := kide (varWidth_any .empty 0 (some ⟨w.heap.size + 1, 0, none⟩) kl kl w2)
     rw [hP] at HM
     clear hP
     go_wp2_with fail
     refine Calls.mono HM.out ?_
     rintro e w3 ⟨rfl, hb3⟩
     go_wp2_with fail
     go_returns
     exact ⟨rfl, s2.below.trans (hb3.mono s2.below.size)⟩
   ·go_wp2_with fail
    refine Calls.mono (opOf_bits a ds.length c vr A B bw wa ka wl wc kl kc wr) ?_
    rintro e w2 ⟨rfl, hb2⟩
    have s2 := s1.next hb2
    clear hb2 g0 g1 g2 g3 g4 g5 g6
    have hP : (if rightB bw ws = true then (bw, 0) else ((0 : Int), (15 : Int))) = V := by rw [← HV.out]; simp [nodR]
    have HM := kide (bitsWidth_any bw wa wc ws (some ⟨w.heap.size + 1, 0, none⟩) kl kl w2 (HRW.out w2 s2.below))
    rw [HWL.out] at HM
    rw [hP] at HM
    clear hP
    go_wp2_with fail
    refine Calls.mono HM.out ?_
    rintro e w3 ⟨rfl, hb3⟩
    go_wp2_with fail
    go_returns
    exact ⟨rfl, s2.below.trans (hb3.mono s2.below.size)⟩
   ·have hk1 : kl ≤ 4096 := by
     have h := HF.out
     simp only [fldR, fldT, tabR] at h
     simp [HKL.out] at h
     omega
    have HOL := kide HO.out.lt
    go_wp2_with fail
    refine Calls.mono (opOf_cat a ds.length c vr A B bw wa ka wl wc kl kc wr) ?_
    rintro e w2 ⟨rfl, hb2⟩
    have s2 := s1.next hb2
    have HO2 := kide (HO.out.later hb2 HOL.out)
    clear hb2 g0 g1 g2 g3 g4 g5 g6
    have hP : bndR (sumK (kwR wide ks)) = V := by rw [← HV.out]; simp [nodR]
    have HM := kide (catWidth_any (some ⟨w.heap.size + 1, 0, none⟩) kl kl (kwR wide ks) w2 (HO2.out.rd (by rw [kwR_len, HKL.out]; omega) (fun y hy => by have := HKB.out y hy; unfold in64; omega)) (by rw [kwR_len, HKL.out]) HKB.out hk1)
    rw [hP] at HM
    clear hP
    go_wp2_with fail
    refine Calls.mono HM.out ?_
    rintro e w3 ⟨rfl, hb3⟩
    go_wp2_with fail
    go_returns
    exact ⟨rfl, s2.below.trans (hb3.mono s2.below.size)⟩
   ·have hk1 : kl = 1 := by
     have h := HF.out
     simp only [fldR, fldT, tabR] at h
     simp [HKL.out] at h
     omega
    obtain ⟨q, hq⟩ : ∃ q, kwR wide ks = [q] := by
     have h := kwR_len wide ks
     rw [HKL.out, hk1] at h
     match hkw : kwR wide ks, h with
     | [q], _ => exact ⟨q, rfl⟩
    have hq0 := HKB.out q (by rw [hq]; simp)
    obtain ⟨hq1, hq2⟩ := hq0
    rw [hq] at HO HV
    have HOL := kide HO.out.lt
    subst hk1
    clear hop HKB HKI hq
    go_wp2_with fail
    refine Calls.mono (opOf_part a ds.length c vr A B bw wa ka wl wc 1 kc wr) ?_
    rintro e w2 ⟨rfl, hb2⟩
    have s2 := s1.next hb2
    have HO2 := kide (HO.out.later hb2 HOL.out)
    clear hb2 g0 g1 g2 g3 g4 g5 g6
    have r0 := HO2.out.cell (i := 0) (by simp)
    simp at r0
    have hP : (if B < 0 ∨ A < B ∨ q ≤ A then ((0 : Int), (15 : Int)) else (A - B + 1, 0)) = V := by rw [← HV.out]; simp [nodR]
    have HM := kide (partWidth_any A B (some ⟨w.heap.size + 1, 0, none⟩) 1 1 w2 (w.heap.size + 1) 0 q rfl rfl r0 hq1 hq2)
    rw [hP] at HM
    clear hP
    go_wp2_with fail
    refine Calls.mono HM.out ?_
    rintro e w3 ⟨rfl, hb3⟩
    go_wp2_with fail
    go_returns
    exact ⟨rfl, s2.below.trans (hb3.mono s2.below.size)⟩
   ·have hk1 : kl = 1 := by
     have h := HF.out
     simp only [fldR, fldT, tabR] at h
     simp [HKL.out] at h
     omega
    obtain ⟨q, hq⟩ : ∃ q, kwR wide ks = [q] := by
     have h := kwR_len wide ks
     rw [HKL.out, hk1] at h
     match hkw : kwR wide ks, h with
     | [q], _ => exact ⟨q, rfl⟩
    have hq0 := HKB.out q (by rw [hq]; simp)
    obtain ⟨hq1, hq2⟩ := hq0
    rw [hq] at HO HV
    have HOL := kide HO.out.lt
    subst hk1
    clear hop HKB HKI hq
    go_wp2_with fail
    refine Calls.mono (opOf_zero a ds.length c vr A B bw wa ka wl wc 1 kc wr (HG.out wr s1.below)) ?_
    rintro e w2 ⟨⟨s', rfl⟩, hb2⟩
    have s2 := s1.next hb2
    have HO2 := kide (HO.out.later hb2 HOL.out)
    clear hb2 g0 g1 g2 g3 g4 g5 g6
    have r0 := HO2.out.cell (i := 0) (by simp)
    simp at r0
    have hP : (if 0 ≤ A ∧ A ≤ 4096 then bndR (q + A) else ((0 : Int), (15 : Int))) = V := by rw [← HV.out]; simp [nodR]
    have HM := kide (widenWidth_any s' A (some ⟨w.heap.size + 1, 0, none⟩) 1 1 w2 (w.heap.size + 1) 0 q rfl rfl r0 hq1 hq2)
    rw [hP] at HM
    clear hP
    go_wp2_with fail
    refine Calls.mono HM.out ?_
    rintro e w3 ⟨rfl, hb3⟩
    go_wp2_with fail
    go_returns
    exact ⟨rfl, s2.below.trans (hb3.mono s2.below.size)⟩
   ·have hk1 : kl = 1 := by
     have h := HF.out
     simp only [fldR, fldT, tabR] at h
     simp [HKL.out] at h
     omega
    obtain ⟨q, hq⟩ : ∃ q, kwR wide ks = [q] := by
     have h := kwR_len wide ks
     rw [HKL.out, hk1] at h
     match hkw : kwR wide ks, h with
     | [q], _ => exact ⟨q, rfl⟩
    have hq0 := HKB.out q (by rw [hq]; simp)
    obtain ⟨hq1, hq2⟩ := hq0
    rw [hq] at HO HV
    have HOL := kide HO.out.lt
    subst hk1
    clear hop HKB HKI hq
    go_wp2_with fail
    refine Calls.mono (opOf_sign a ds.length c vr A B bw wa ka wl wc 1 kc wr (HG.out wr s1.below)) ?_
    rintro e w2 ⟨⟨s', rfl⟩, hb2⟩
    have s2 := s1.next hb2
    have HO2 := kide (HO.out.later hb2 HOL.out)
    clear hb2 g0 g1 g2 g3 g4 g5 g6
    have r0 := HO2.out.cell (i := 0) (by simp)
    simp at r0
    have hP : (if 0 ≤ A ∧ A ≤ 4096 then bndR (q + A) else ((0 : Int), (15 : Int))) = V := by rw [← HV.out]; simp [nodR]
    have HM := kide (widenWidth_any s' A (some ⟨w.heap.size + 1, 0, none⟩) 1 1 w2 (w.heap.size + 1) 0 q rfl rfl r0 hq1 hq2)
    rw [hP] at HM
    clear hP
    go_wp2_with fail
    refine Calls.mono HM.out ?_
    rintro e w3 ⟨rfl, hb3⟩
    go_wp2_with fail
    go_returns
    exact ⟨rfl, s2.below.trans (hb3.mono s2.below.size)⟩
   ·have hk1 : kl = 1 := by
     have h := HF.out
     simp only [fldR, fldT, tabR] at h
     simp [HKL.out] at h
     omega
    obtain ⟨q, hq⟩ : ∃ q, kwR wide ks = [q] := by
     have h := kwR_len wide ks
     rw [HKL.out, hk1] at h
     match hkw : kwR wide ks, h with
     | [q], _ => exact ⟨q, rfl⟩
    have hq0 := HKB.out q (by rw [hq]; simp)
    obtain ⟨hq1, hq2⟩ := hq0
    rw [hq] at HO HV
    have HOL := kide HO.out.lt
    subst hk1
    clear hop HKB HKI hq
    go_wp2_with fail
    refine Calls.mono (opOf_left a ds.length c vr A B bw wa ka wl wc 1 kc wr (HG.out wr s1.below)) ?_
    rintro e w2 ⟨⟨s', rfl⟩, hb2⟩
    have s2 := s1.next hb2
    have HO2 := kide (HO.out.later hb2 HOL.out)
    clear hb2 g0 g1 g2 g3 g4 g5 g6
    have r0 := HO2.out.cell (i := 0) (by simp)
    simp at r0
    have hP : (if 0 ≤ A ∧ A ≤ 4096 then (q, 0) else ((0 : Int), (15 : Int))) = V := by rw [← HV.out]; simp [nodR]
    have HM := kide (turnWidth_any s' A (some ⟨w.heap.size + 1, 0, none⟩) 1 1 w2 (w.heap.size + 1) 0 q rfl rfl r0 hq1 hq2)
    rw [hP] at HM
    clear hP
    go_wp2_with fail
    refine Calls.mono HM.out ?_
    rintro e w3 ⟨rfl, hb3⟩
    go_wp2_with fail
    go_returns
    exact ⟨rfl, s2.below.trans (hb3.mono s2.below.size)⟩
   ·have hk1 : kl = 1 := by
     have h := HF.out
     simp only [fldR, fldT, tabR] at h
     simp [HKL.out] at h
     omega
    obtain ⟨q, hq⟩ : ∃ q, kwR wide ks = [q] := by
     have h := kwR_len wide ks
     rw [HKL.out, hk1] at h
     match hkw : kwR wide ks, h with
     | [q], _ => exact ⟨q, rfl⟩
    have hq0 := HKB.out q (by rw [hq]; simp)
    obtain ⟨hq1, hq2⟩ := hq0
    rw [hq] at HO HV
    have HOL := kide HO.out.lt
    subst hk1
    clear hop HKB HKI hq
    go_wp2_with fail
    refine Calls.mono (opOf_right a ds.length c vr A B bw wa ka wl wc 1 kc wr (HG.out wr s1.below)) ?_
    rintro e w2 ⟨⟨s', rfl⟩, hb2⟩
    have s2 := s1.next hb2
    have HO2 := kide (HO.out.later hb2 HOL.out)
    clear hb2 g0 g1 g2 g3 g4 g5 g6
    have r0 := HO2.out.cell (i := 0) (by simp)
    simp at r0
    have hP : (if 0 ≤ A ∧ A ≤ 4096 then (q, 0) else ((0 : Int), (15 : Int))) = V := by rw [← HV.out]; simp [nodR]
    have HM := kide (turnWidth_any s' A (some ⟨w.heap.size + 1, 0, none⟩) 1 1 w2 (w.heap.size + 1) 0 q rfl rfl r0 hq1 hq2)
    rw [hP] at HM
    clear hP
    go_wp2_with fail
    refine Calls.mono HM.out ?_
    rintro e w3 ⟨rfl, hb3⟩
    go_wp2_with fail
    go_returns
    exact ⟨rfl, s2.below.trans (hb3.mono s2.below.size)⟩
   ·have hk1 : kl = 1 := by
     have h := HF.out
     simp only [fldR, fldT, tabR] at h
     simp [HKL.out] at h
     omega
    obtain ⟨q, hq⟩ : ∃ q, kwR wide ks = [q] := by
     have h := kwR_len wide ks
     rw [HKL.out, hk1] at h
     match hkw : kwR wide ks, h with
     | [q], _ => exact ⟨q, rfl⟩
    have hq0 := HKB.out q (by rw [hq]; simp)
    obtain ⟨hq1, hq2⟩ := hq0
    rw [hq] at HO HV
    have HOL := kide HO.out.lt
    subst hk1
    clear hop HKB HKI hq
    go_wp2_with fail
    refine Calls.mono (opOf_rep a ds.length c vr A B bw wa ka wl wc 1 kc wr) ?_
    rintro e w2 ⟨rfl, hb2⟩
    have s2 := s1.next hb2
    have HO2 := kide (HO.out.later hb2 HOL.out)
    clear hb2 g0 g1 g2 g3 g4 g5 g6
    have r0 := HO2.out.cell (i := 0) (by simp)
    simp at r0
    have hP : (if 1 ≤ A ∧ A ≤ 4096 then bndR (q * A) else ((0 : Int), (15 : Int))) = V := by rw [← HV.out]; simp [nodR]
    have HM := kide (repWidth_any A (some ⟨w.heap.size + 1, 0, none⟩) 1 1 w2 (w.heap.size + 1) 0 q rfl rfl r0 hq1 hq2)
    rw [hP] at HM
    clear hP
    go_wp2_with fail
    refine Calls.mono HM.out ?_
    rintro e w3 ⟨rfl, hb3⟩
    go_wp2_with fail
    go_returns
    exact ⟨rfl, s2.below.trans (hb3.mono s2.below.size)⟩

theorem countKids_nil (P k cp kc : Nat) (ka : Option Addr) (w : World) :
  Calls Tryz.prog 84 #[.slice (some ⟨P, 0, none⟩) k cp, .slice ka 0 kc] w fun e w' => e = .returned (.bool true) ∧ w' = w := by
 go_enter Tryz.func84, Tryz.ntmps84
 go_wp2_with fail
 go_loopw [9] (fun i wr => i = .int .i64 0 ∧ wr = w) (fun _ _ => 0)
 case atStart => exact ⟨rfl, rfl⟩
 case round =>
  obtain ⟨rfl, rfl⟩ := hrel
  go_wp2_with fail
  go_ret
  exact ⟨rfl, rfl⟩
def cntA : List Tc → Nat → Nat
 | [], _ => 0
 | n :: t, j => cntR n.ks j + cntA t j
theorem cntA_append (xs ys : List Tc) (j : Nat) : cntA (xs ++ ys) j = cntA xs j + cntA ys j := by
 induction xs with
 | nil => simp [cntA]
 | cons x t ih => simp [cntA, ih]; omega
theorem cntA_take {ns : List Tc} {k : Nat} {n : Tc} (h : ns[k]? = some n) (j : Nat) : cntA (ns.take (k + 1)) j = cntA (ns.take k) j + cntR n.ks j := by
 rw [List.take_add_one, h, cntA_append]
 simp [cntA]
theorem cntA_le {ns : List Tc} (h : ∀ n ∈ ns, n.ks.length ≤ 1048576) (j : Nat) : cntA ns j ≤ 1048576 * ns.length := by
 induction ns with
 | nil => simp [cntA]
 | cons n t ih =>
  have h1 := h n (by simp)
  have h2 := ih (fun y hy => h y (by simp [hy]))
  have h3 : cntR n.ks j ≤ n.ks.length := List.countP_le_length
  simp only [cntA, List.length_cons]
  omega
theorem cntA_used (ns : List Tc) (j : Nat) : (cntA ns j = 0) ↔ usedR ns j = false := by
 induction ns with
 | nil => simp [cntA, usedR]
 | cons n t ih =>
  simp only [usedR, List.any_cons, Bool.or_eq_false_iff] at ih ⊢
  simp only [cntA]
  have h1 : cntR n.ks j = 0 ↔ (n.ks.any fun k => decide (k = (j : Int))) = false := by
   simp [cntR, List.countP_eq_zero]
  exact ⟨fun h => ⟨h1.1 (by omega), ih.1 (by omega)⟩, fun h => by have e1 := h1.2 h.1; have e2 := ih.2 h.2; omega⟩
def zeroR (q : Nat → Nat) (m : Nat) : Bool := (List.range m).any fun j => decide (q j = 0)
theorem zeroR_used (ns : List Tc) (m : Nat) : zeroR (cntA ns) m = !((List.range m).all (usedR ns)) := by
 rw [Bool.eq_iff_iff]
 simp only [zeroR, List.any_eq_true, Bool.not_eq_true', List.all_eq_false, decide_eq_true_eq]
 constructor
 ·rintro ⟨j, hj, h⟩
  exact ⟨j, hj, by rw [(cntA_used ns j).1 h]; simp⟩
 ·rintro ⟨j, hj, h⟩
  exact ⟨j, hj, (cntA_used ns j).2 (by simpa using h)⟩
theorem index_any (P N m cp : Nat) (q : Nat → Nat) (w : World) (hc : Cn w P N q) (hm : m ≤ N) (hN : N ≤ 1048576) :
  Calls Tryz.prog 111 #[.slice (some ⟨P, 0, none⟩) m cp, .int .i64 0] w fun e w' => (∃ r : Int, e = .returned (.int .i64 r) ∧ (decide (0 ≤ r) = zeroR q m)) ∧ Below w.heap.size w w' := by
 generalize hZ : zeroR q m = Z
 have HZ := kide hZ
 have HC := kide hc
 clear hZ hc
 go_enter Tryz.func111, Tryz.ntmps111
 go_wp2_with fail
 go_loopw [8] (fun i wr => ∃ k : Nat, k ≤ m ∧ i = .int .i64 k ∧ (∀ j, j < k → q j ≠ 0) ∧ Below w.heap.size w wr) (fun i _ => m - (intOf i).toNat)
 case atStart => exact ⟨0, Nat.zero_le _, rfl, fun j h => by omega, Below.refl _ _⟩
 case round =>
  obtain ⟨k, hk, rfl, hno, hbel⟩ := hrel
  have HB := kide hbel
  have HNO := kide hno
  by_cases hlt : k < m
  ·obtain ⟨f, hrw, hfq⟩ := HC.out.later hbel
   have q0 := hrw.cell (i := k) (by omega)
   rw [hfq k (by omega)] at q0
   have hki : (k : Int) < (m : Int) := by omega
   clear hrw hfq hno hbel
   by_cases h0 : q k = 0
   ·rw [h0] at q0
    have HT : Hid (Z = true) := by
     show _ = _
     rw [← HZ.out]
     simp only [zeroR, List.any_eq_true, decide_eq_true_eq]
     exact ⟨k, List.mem_range.2 hlt, h0⟩
    clear h0
    go_wp2_with fail
    go_ret
    exact ⟨⟨k, rfl, by rw [HT.out]; simp⟩, HB.out⟩
   ·have hne : ((0 : Int) == ((q k : Nat) : Int)) = false := by simp; omega
    have H0 := kide h0
    clear h0
    obtain ⟨y, hy⟩ : ∃ y, q k = y := ⟨_, rfl⟩
    rw [hy] at q0 hne
    have HYY := kide hy
    clear hy
    go_wp2_with fail
    go_roundw
    case rel =>
     refine ⟨k + 1, by omega, by go_num, fun j hj => ?_, HB.out⟩
     by_cases hjk : j < k
     ·exact HNO.out j hjk
     ·have : j = k := by omega
      subst this
      exact H0.out
    case measure => simp [intOf]; omega
  ·have HT : Hid (Z = false) := by
    show _ = _
    rw [← HZ.out, Bool.eq_false_iff]
    simp only [zeroR, ne_eq, List.any_eq_true, decide_eq_true_eq]
    rintro ⟨j, hj, h⟩
    exact HNO.out j (by have := List.mem_range.1 hj; omega) h
   clear hno hbel
   go_wp2_with fail
   go_ret
   exact ⟨⟨-1, rfl, by rw [HT.out]; rfl⟩, HB.out⟩
theorem contains_any (P N m cp : Nat) (q : Nat → Nat) (w : World) (hc : Cn w P N q) (hm : m ≤ N) (hN : N ≤ 1048576) :
  Calls Tryz.prog 86 #[.slice (some ⟨P, 0, none⟩) m cp, .int .i64 0] w fun e w' => e = .returned (.bool (zeroR q m)) ∧ Below w.heap.size w w' := by
 have HI := kide (index_any P N m cp q w hc hm hN)
 clear hc
 go_enter Tryz.func86, Tryz.ntmps86
 go_wp2_with fail
 refine Calls.mono HI.out ?_
 rintro e w1 ⟨⟨r, rfl, hr⟩, hb1⟩
 have HR := kide hr
 clear hr
 go_wp2_with fail
 go_ret
 exact ⟨ret_bool HR.out, hb1⟩

theorem OwnI.first {w : World} {g : Nat} {xs ys : List Int} (h : OwnI w g (xs ++ ys)) (hl : xs.length ≤ 1048576) (hx : ∀ k ∈ xs, in64 k) : RdI w (some ⟨g, 0, none⟩) xs := by
 refine ⟨hl, hx, .inr ⟨g, 0, rfl, fun i hi => ?_⟩⟩
 have := h.cell (i := i) (by simp; omega)
 rw [Nat.zero_add, this]
 simp [List.getD, List.getElem?_append, hi]

structure Ww (w : World) (b : Option Addr) (n c2 : Nat) (wide : List Int) (q : Nat → Nat) (wr : World) : Prop where
 box : wr.heap[w.heap.size]? = some (.cells #[.slice b n c2] 30 (0, 0))
 row : OwnI wr (w.heap.size + 1) (wide ++ List.replicate (n - wide.length) 0)
 cnt : Cn wr (w.heap.size + 2) n q
 bel : Below w.heap.size w wr
theorem Ww.later {w : World} {b : Option Addr} {n c2 : Nat} {wide : List Int} {q : Nat → Nat} {wr wr' : World} (h : Ww w b n c2 wide q wr) (hb : Below wr.heap.size wr wr') : Ww w b n c2 wide q wr' where
 box := by rw [hb.block _ (lt_of_block h.box)]; exact h.box
 row := h.row.later hb h.row.lt
 cnt := h.cnt.later hb
 bel := h.bel.trans (hb.mono h.bel.size)
theorem Ww.cell {w : World} {b : Option Addr} {n c2 : Nat} {wide : List Int} {q : Nat → Nat} {wr : World} (h : Ww w b n c2 wide q wr) : wr.cell? ⟨w.heap.size, 0, none⟩ = some (.slice b n c2) := by
 simp [World.cell?, h.box]
theorem Ww.counted {w : World} {b : Option Addr} {n c2 : Nat} {wide : List Int} {q q' : Nat → Nat} {wr wr' : World} (h : Ww w b n c2 wide q wr) (hg : wr.grownBy wr' (some (w.heap.size + 2))) (hc : Cn wr' (w.heap.size + 2) n q') : Ww w b n c2 wide q' wr' where
 box := by rw [hg.block _ (lt_of_block h.box) (by simp)]; exact h.box
 row := by
  have := h.row
  unfold OwnI at this ⊢
  rw [hg.block _ (lt_of_block this) (by simp)]; exact this
 cnt := hc
 bel := ⟨hg.os.trans h.bel.os, hg.tape.trans h.bel.tape, hg.output.trans h.bel.output, Nat.le_trans h.bel.size hg.size, fun k hk => (hg.block k (Nat.lt_of_lt_of_le hk h.bel.size) (by simp; omega)).trans (h.bel.block k hk)⟩
theorem set_next (wide : List Int) (n : Nat) (v : Int) (h : wide.length < n) : (wide ++ List.replicate (n - wide.length) 0).set wide.length v = (wide ++ [v]) ++ List.replicate (n - (wide ++ [v]).length) 0 := by
 obtain ⟨m, hm⟩ : ∃ m, n - wide.length = m + 1 := ⟨n - wide.length - 1, by omega⟩
 rw [hm, List.replicate_succ, List.set_append_right _ _ (Nat.le_refl _)]
 simp [show n - (wide.length + 1) = m by omega]
theorem Ww.put {w : World} {b : Option Addr} {n c2 : Nat} {wide : List Int} {q : Nat → Nat} {wr : World} (h : Ww w b n c2 wide q wr) (v : Int) (hl : wide.length < n) : Ww w b n c2 (wide ++ [v]) q (wr.setCell ⟨w.heap.size + 1, wide.length, none⟩ (.int .i64 v)) where
 box := by rw [heap_setCell_other _ _ _ _ (by simp)]; exact h.box
 row := by
  have := h.row.put wide.length v
  rw [set_next wide n v hl] at this
  exact this
 cnt := by
  obtain ⟨f, ⟨cc, hh, h1, h2⟩, hq⟩ := h.cnt
  exact ⟨f, World.rowIs.of_block ⟨cc, hh, h1, h2⟩ (heap_setCell_other _ _ _ _ (by simp)), hq⟩
 bel := h.bel.setCell (by simp) _
def RetI (u : World) (R : List Int) (e : Ending) (w' : World) : Prop := ∃ a c, e = .returned (.slice a R.length c) ∧ RdI w' a R ∧ (R = [] → a = none) ∧ Below u.heap.size u w'
theorem RetI.nil (u w' : World) (hb : Below u.heap.size u w') : RetI u [] (.returned (.slice none 0 0)) w' := ⟨none, 0, rfl, ⟨by simp, by simp, .inl rfl⟩, fun _ => rfl, hb⟩
set_option maxHeartbeats 4000000 in
set_option maxRecDepth 100000 in
theorem widthsOf_any (a b : Option Addr) (c c2 n : Nat) (ds : List Dc) (xs : List Tg) (w : World) (hr : RdD w a ds) (hs : RdT w b xs) (hn : xs.length = n) (hG : GF w) (hD : dclR ds = true) :
  Calls Tryz.prog 60 #[.slice a ds.length c, .agg #[.slice b n c2]] w (RetI w (widthsR ds (xs.map Tg.ct))) := by
 have hl1 := hr.1
 have hl2 := hs.1
 rw [hn] at hl2
 have HRD := kide (fun u (hu : Below w.heap.size w u) => hr.later hu)
 have HRT := kide (fun u (hu : Below w.heap.size w u) => hs.later hu)
 have HG := kide (fun u (hu : Below w.heap.size w u) => hG.later hu)
 have HT0 := kide hs
 have HN := kide hn
 have hb0 : Below w.heap.size w (w.alloc (Obj.cells #[.slice b n c2] 30)) := blA _ _
 by_cases hrange : 1 ≤ n ∧ n ≤ 400
 case neg =>
  have hR : widthsR ds (xs.map Tg.ct) = [] := by
   unfold widthsR
   rw [if_neg]
   simp [hn]
   omega
  rw [hR]
  have B0 := kide hb0
  clear hb0 hr hs hn hG hR
  by_cases h1 : n < 1
  ·clear hrange
   go_enter Tryz.func60, Tryz.ntmps60
   go_wp2_with fail
   go_ret
   exact RetI.nil _ _ B0.out
  ·have h2 : 400 < n := by omega
   clear hrange
   go_enter Tryz.func60, Tryz.ntmps60
   go_wp2_with fail
   go_ret
   exact RetI.nil _ _ B0.out
 obtain ⟨hn1, hn2⟩ := hrange
 have hR : widthsR ds (xs.map Tg.ct) = match goR ds [] (xs.map Tg.ct) with
   | none => []
   | some wide => if zeroR (cntA (xs.map Tg.ct)) (n - 1) = true then [] else wide := by
  unfold widthsR
  rw [if_pos (by simp [hD, hn]; omega)]
  cases goR ds [] (xs.map Tg.ct) with
  | none => rfl
  | some wide =>
   simp only [List.length_map, hn]
   rw [zeroR_used]
   cases (List.range (n - 1)).all (usedR (xs.map Tg.ct)) <;> simp
 rw [hR]
 have hmk := fun kl kc w => run_make_row' (P := Tryz.prog) 60 2 (.int .i64 0) 8 Tryz.underlying60 Tryz.infoI64 rfl kl kc n (by omega) (by omega) w
 clear hR hr hs hn hG hb0 hD
 generalize hZ : (match goR ds [] (xs.map Tg.ct) with
   | none => []
   | some wide => if zeroR (cntA (xs.map Tg.ct)) (n - 1) = true then [] else wide : List Int) = Z
 have HZ := kide hZ
 clear hZ
 go_enter Tryz.func60, Tryz.ntmps60
 go_wp2_with fail
 go_loopw [32] (fun i wr => ∃ (k : Nat) (wide : List Int), k ≤ n ∧ i = .int .i64 k ∧ wide.length = k ∧ (∀ x ∈ wide, 1 ≤ x ∧ x ≤ 4096) ∧ goR ds wide ((xs.map Tg.ct).drop k) = goR ds [] (xs.map Tg.ct) ∧ Ww w b n c2 wide (cntA ((xs.map Tg.ct).take k)) wr) (fun i _ => n - (intOf i).toNat)
 case atStart =>
  have hM : (.cells (madeCells #[.int .i64 0] n) 2 : Obj) = .cells (i64s (List.replicate n 0)) 2 (0, 0) := by rw [i64s_made]
  have e1 := heap_alloc_new w (.cells #[.slice b n c2] 30)
  have e2 := heap_alloc_new (w.alloc (.cells #[.slice b n c2] 30)) (.cells (madeCells #[.int .i64 0] n) 2)
  have e3 := heap_alloc_new ((w.alloc (.cells #[.slice b n c2] 30)).alloc (.cells (madeCells #[.int .i64 0] n) 2)) (.cells (madeCells #[.int .i64 0] n) 2)
  have f1 : Below (w.heap.size + 1) (w.alloc (.cells #[.slice b n c2] 30)) (((w.alloc (.cells #[.slice b n c2] 30)).alloc (.cells (madeCells #[.int .i64 0] n) 2)).alloc (.cells (madeCells #[.int .i64 0] n) 2)) := ((Below.refl _ _).alloc (by simp) _).alloc (by simp) _
  have f2 : Below (w.heap.size + 2) ((w.alloc (.cells #[.slice b n c2] 30)).alloc (.cells (madeCells #[.int .i64 0] n) 2)) (((w.alloc (.cells #[.slice b n c2] 30)).alloc (.cells (madeCells #[.int .i64 0] n) 2)).alloc (.cells (madeCells #[.int .i64 0] n) 2)) := (Below.refl _ _).alloc (by simp) _
  simp only [World.size_alloc] at e2 e3
  refine ⟨0, [], Nat.zero_le _, rfl, rfl, by simp, rfl, ⟨?_, ?_, ?_, ?_⟩⟩
  ·rw [f1.block _ (by omega)]; exact e1
  ·unfold OwnI
   rw [f2.block _ (by omega), e2, hM]
   rfl
  ·rw [hM] at e3
   refine ⟨fun i => ((i64s (List.replicate n 0))[i]?).getD undef, ?_, fun j hj => ?_⟩
   ·have h := krow e3
    rw [i64s_size, List.length_replicate, ← hM] at h
    exact h
   ·simp [i64s_get, hj, cntA]
  ·exact ((blA _ _).alloc (by simp) _).alloc (by simp; omega) _
 case round =>
  obtain ⟨k, wide, hk, rfl, hwl, hwb, hgo, hst⟩ := hrel
  clear hmk
  have HWL := kide hwl
  have HWB := kide hwb
  have HGO := kide hgo
  have cB := hst.cell
  by_cases hlt : k < n
  ·obtain ⟨-, h | ⟨b1, o1, rfl, hc⟩⟩ := HRT.out wr hst.bel
   ·have := HN.out; subst h; simp at this; omega
   obtain ⟨⟨t, wa, wc, ka, kc⟩, hx⟩ : ∃ x, xs[k]? = some x := ⟨_, List.getElem?_eq_getElem (by rw [HN.out]; exact hlt)⟩
   obtain ⟨⟨p0, p1, p2, p3, p4, p5, p6⟩, pr, pk, -⟩ := hc k _ hx
   simp only [Tg.hd] at p0 p1 p2 p3 p4 p5 p6 pr pk
   have hki : (k : Int) < (n : Int) := by omega
   have hmx : (xs.map Tg.ct)[k]? = some t := by rw [List.getElem?_map, hx]; rfl
   have HMX := kide hmx
   have HX := kide hx
   have HST := kide hst
   have hws := pr.1
   have hks := pk.1
   have HPR := kide (fun u (hu : Below wr.heap.size wr u) => pr.later hu)
   have HPK := kide (fun u (hu : Below wr.heap.size wr u) => pk.later hu)
   have hbx : Below wr.heap.size wr (wr.alloc (Obj.cells #[.int .i64 t.op, .int .i64 t.vr, .int .i64 t.a, .int .i64 t.b, .int .i64 t.bw, .slice wa t.ws.length wc, .slice ka t.ks.length kc] 67)) := blA _ _
   have HFO := kide (fun u (hu : Below wr.heap.size wr u) => fieldsOk_any t wa ka wc kc u (HG.out u (hst.later hu).bel) hws hks)
   have HBX := kide hbx
   have HNONE : Hid (stepR ds wide t = none → Z = []) := fun h => by
    rw [← HZ.out, ← hgo, goR_none hmx h]
   clear hc hx hmx hgo hst hwb hwl pr pk hbx
   cases hfl : fldR t with
   | false =>
    rw [hfl] at HFO
    have HF := kide (HNONE.out (step_not HWB.out (.inl hfl)))
    obtain ⟨op, vr, A, B, bw, ws, ks⟩ := t
    simp only [] at p0 p1 p2 p3 p4 p5 p6 HFO HBX hws hks
    clear hfl HNONE
    have t0 : (wr.alloc (Obj.cells #[.int .i64 op, .int .i64 vr, .int .i64 A, .int .i64 B, .int .i64 bw, .slice wa ws.length wc, .slice ka ks.length kc] 67)).cell? ⟨wr.heap.size, 0, none⟩ = some (Value.int .i64 op) := by simp [go_sem]
    have t1 : (wr.alloc (Obj.cells #[.int .i64 op, .int .i64 vr, .int .i64 A, .int .i64 B, .int .i64 bw, .slice wa ws.length wc, .slice ka ks.length kc] 67)).cell? ⟨wr.heap.size, 1, none⟩ = some (Value.int .i64 vr) := by simp [go_sem]
    have t2 : (wr.alloc (Obj.cells #[.int .i64 op, .int .i64 vr, .int .i64 A, .int .i64 B, .int .i64 bw, .slice wa ws.length wc, .slice ka ks.length kc] 67)).cell? ⟨wr.heap.size, 2, none⟩ = some (Value.int .i64 A) := by simp [go_sem]
    have t3 : (wr.alloc (Obj.cells #[.int .i64 op, .int .i64 vr, .int .i64 A, .int .i64 B, .int .i64 bw, .slice wa ws.length wc, .slice ka ks.length kc] 67)).cell? ⟨wr.heap.size, 3, none⟩ = some (Value.int .i64 B) := by simp [go_sem]
    have t4 : (wr.alloc (Obj.cells #[.int .i64 op, .int .i64 vr, .int .i64 A, .int .i64 B, .int .i64 bw, .slice wa ws.length wc, .slice ka ks.length kc] 67)).cell? ⟨wr.heap.size, 4, none⟩ = some (Value.int .i64 bw) := by simp [go_sem]
    have t5 : (wr.alloc (Obj.cells #[.int .i64 op, .int .i64 vr, .int .i64 A, .int .i64 B, .int .i64 bw, .slice wa ws.length wc, .slice ka ks.length kc] 67)).cell? ⟨wr.heap.size, 5, none⟩ = some (Value.slice wa ws.length wc) := by simp [go_sem]
    have t6 : (wr.alloc (Obj.cells #[.int .i64 op, .int .i64 vr, .int .i64 A, .int .i64 B, .int .i64 bw, .slice wa ws.length wc, .slice ka ks.length kc] 67)).cell? ⟨wr.heap.size, 6, none⟩ = some (Value.slice ka ks.length kc) := by simp [go_sem]
    have lW : wr.heap.size < (wr.alloc (Obj.cells #[.int .i64 op, .int .i64 vr, .int .i64 A, .int .i64 B, .int .i64 bw, .slice wa ws.length wc, .slice ka ks.length kc] 67)).heap.size := by simp
    go_wp2_with fail
    generalize wr.alloc (Obj.cells #[.int .i64 op, .int .i64 vr, .int .i64 A, .int .i64 B, .int .i64 bw, .slice wa ws.length wc, .slice ka ks.length kc] 67) = W at *
    clear p0 p1 p2 p3 p4 p5 p6
    refine wp_region_any (by kernel_rfl) ?_
    try (change wpAny _ _ _ _ _ _ _ (World.drew _))
    refine wpAny_ready (rs := [0]) (by kernel_rfl) (by simp) (AllReady.cons rfl (fun K hK => ?_) AllReady.nil)
    go_simp
    refine hK _ _ ?_
    clear hK K
    refine wpAny_ready (rs := [1]) (by kernel_rfl) (by simp) (AllReady.cons rfl (fun K hK => ?_) AllReady.nil)
    go_simp
    go_wp2_with (go_at_call 83; refine Calls.mono (HFO.out _ ?_) ?_; exact HBX.out.drew; rintro e w2 ⟨rfl, hb2⟩; replace hb2 := kundrew hb2)
    refine tkC (i := 2) (v := Value.bool true) rfl ?_
    try go_simp
    refine tkC (i := 3) (v := Value.bool true) rfl ?_
    try go_simp
    refine tkM (i := 4) rfl ?_
    try go_simp
    refine tkM (i := 5) rfl ?_
    try go_simp
    refine tkM (i := 6) rfl ?_
    try go_simp
    refine tkM (i := 7) rfl ?_
    try go_simp
    refine tkM (i := 8) rfl ?_
    try go_simp
    refine tkM (i := 9) rfl ?_
    try go_simp
    refine tkM (i := 10) rfl ?_
    try go_simp
    refine tkC (i := 11) (v := Value.bool true) rfl ?_
    try go_simp
    refine wpAny_done (by kernel_rfl) ?_ _
    go_wp2_with fail
    go_ret
    have B2 := HBX.out.trans (hb2.mono HBX.out.size)
    rw [HF.out]
    exact RetI.nil _ _ (HST.out.later B2).bel
   | true =>
    rw [hfl] at HFO
    have HCK : Hid (∀ u, Below wr.heap.size wr u → Calls Tryz.prog 84 #[.slice (some ⟨w.heap.size + 2, 0, none⟩) k n, .slice ka t.ks.length kc] u fun e w' => e = .returned (.bool (kidsR k t.ks)) ∧ (kidsR k t.ks = true → Ww w (some ⟨b1, o1, none⟩) n c2 wide (cntA ((xs.map Tg.ct).take (k + 1))) w') ∧ u.grownBy w' (some (w.heap.size + 2))) := fun u hu => by
     have hW := HST.out.later hu
     have hq : (fun j => cntA ((xs.map Tg.ct).take k) j + cntR t.ks j) = cntA ((xs.map Tg.ct).take (k + 1)) := funext fun j => (cntA_take HMX.out j).symm
     by_cases h0 : t.ks.length = 0
     ·have hk0 : t.ks = [] := List.eq_nil_of_length_eq_zero h0
      rw [h0]
      refine (countKids_nil _ k n kc ka u).mono ?_
      rintro e w' ⟨rfl, rfl⟩
      refine ⟨by rw [hk0]; rfl, fun _ => ?_, ⟨rfl, rfl, rfl, Nat.le_refl _, fun _ _ _ => rfl⟩⟩
      have e0 : cntA ((xs.map Tg.ct).take (k + 1)) = cntA ((xs.map Tg.ct).take k) := by
       rw [← hq, hk0]
       simp [cntR]
      rw [e0]
      exact hW
     ·refine (countKids_any (w.heap.size + 2) n k n kc (1048576 * 400) (cntA ((xs.map Tg.ct).take k)) ka t.ks u hW.cnt (by omega) (by omega) (fun j => ?_) (by omega) (HPK.out u hu) (fun b' o' sp hb' => ?_)).mono ?_
      ·refine Nat.le_trans (cntA_le (ns := (xs.map Tg.ct).take k) (fun m hm => ?_) j) ?_
       ·obtain ⟨y, hy, rfl⟩ := List.mem_map.1 (List.mem_of_mem_take hm)
        obtain ⟨i, hi, he⟩ := List.mem_iff_getElem.1 hy
        obtain ⟨-, h | ⟨b2, o2, -, hc2⟩⟩ := HT0.out
        ·subst h; simp at hi
        obtain ⟨-, -, r, -⟩ := hc2 i y (by rw [List.getElem?_eq_getElem hi, he])
        exact r.1
       ·simp
        omega
      ·obtain ⟨-, h | ⟨b2, o2, -, hc2⟩⟩ := HT0.out
       ·have := HN.out; subst h; simp at this; omega
       obtain ⟨-, -, ⟨-, -, r⟩, -⟩ := hc2 k _ HX.out
       rcases r with r | ⟨b3, o3, he, hcc⟩
       ·simp only [] at r; rw [r] at h0; simp at h0
       ·simp only [] at he hcc
        rw [hb'] at he
        cases he
        have := block_lt_of_cell (hcc 0 (by omega))
        simp at this
        omega
      ·rintro e w' ⟨rfl, h1, h2⟩
       refine ⟨rfl, fun h => ?_, h2⟩
       have := h1 h
       rw [hq] at this
       exact hW.counted h2 this
    have HNW := kide (fun u (hu : Below w.heap.size w u) (hw : Rd u wa t.ws) (hk' : RdI u ka t.ks) (hy : RdI u (some ⟨w.heap.size + 1, 0, none⟩) wide) (hkr : kidsR wide.length t.ks = true) => nodeWidth_any a c ds t wa ka (some ⟨w.heap.size + 1, 0, none⟩) wc kc n wide u (HRD.out u hu) hw hk' hy (HG.out u hu) HWB.out hkr hfl)
    have HBOTH := kide (fun (hkr : kidsR wide.length t.ks = true) => step_both (ds := ds) HWB.out hfl hkr)
    cases hkd : kidsR k t.ks with
    | false =>
     rw [hkd] at HCK
     have HF := kide (HNONE.out (step_not HWB.out (.inr (by rw [HWL.out]; exact hkd))))
     obtain ⟨op, vr, A, B, bw, ws, ks⟩ := t
     simp only [] at p0 p1 p2 p3 p4 p5 p6 HFO HBX hws hks HCK
     clear hfl hkd HNONE HNW HBOTH
     have t0 : (wr.alloc (Obj.cells #[.int .i64 op, .int .i64 vr, .int .i64 A, .int .i64 B, .int .i64 bw, .slice wa ws.length wc, .slice ka ks.length kc] 67)).cell? ⟨wr.heap.size, 0, none⟩ = some (Value.int .i64 op) := by simp [go_sem]
     have t1 : (wr.alloc (Obj.cells #[.int .i64 op, .int .i64 vr, .int .i64 A, .int .i64 B, .int .i64 bw, .slice wa ws.length wc, .slice ka ks.length kc] 67)).cell? ⟨wr.heap.size, 1, none⟩ = some (Value.int .i64 vr) := by simp [go_sem]
     have t2 : (wr.alloc (Obj.cells #[.int .i64 op, .int .i64 vr, .int .i64 A, .int .i64 B, .int .i64 bw, .slice wa ws.length wc, .slice ka ks.length kc] 67)).cell? ⟨wr.heap.size, 2, none⟩ = some (Value.int .i64 A) := by simp [go_sem]
     have t3 : (wr.alloc (Obj.cells #[.int .i64 op, .int .i64 vr, .int .i64 A, .int .i64 B, .int .i64 bw, .slice wa ws.length wc, .slice ka ks.length kc] 67)).cell? ⟨wr.heap.size, 3, none⟩ = some (Value.int .i64 B) := by simp [go_sem]
     have t4 : (wr.alloc (Obj.cells #[.int .i64 op, .int .i64 vr, .int .i64 A, .int .i64 B, .int .i64 bw, .slice wa ws.length wc, .slice ka ks.length kc] 67)).cell? ⟨wr.heap.size, 4, none⟩ = some (Value.int .i64 bw) := by simp [go_sem]
     have t5 : (wr.alloc (Obj.cells #[.int .i64 op, .int .i64 vr, .int .i64 A, .int .i64 B, .int .i64 bw, .slice wa ws.length wc, .slice ka ks.length kc] 67)).cell? ⟨wr.heap.size, 5, none⟩ = some (Value.slice wa ws.length wc) := by simp [go_sem]
     have t6 : (wr.alloc (Obj.cells #[.int .i64 op, .int .i64 vr, .int .i64 A, .int .i64 B, .int .i64 bw, .slice wa ws.length wc, .slice ka ks.length kc] 67)).cell? ⟨wr.heap.size, 6, none⟩ = some (Value.slice ka ks.length kc) := by simp [go_sem]
     have lW : wr.heap.size < (wr.alloc (Obj.cells #[.int .i64 op, .int .i64 vr, .int .i64 A, .int .i64 B, .int .i64 bw, .slice wa ws.length wc, .slice ka ks.length kc] 67)).heap.size := by simp
     go_wp2_with fail
     generalize wr.alloc (Obj.cells #[.int .i64 op, .int .i64 vr, .int .i64 A, .int .i64 B, .int .i64 bw, .slice wa ws.length wc, .slice ka ks.length kc] 67) = W at *
     clear p0 p1 p2 p3 p4 p5 p6
     refine wp_region_any (by kernel_rfl) ?_
     try (change wpAny _ _ _ _ _ _ _ (World.drew _))
     refine wpAny_ready (rs := [0]) (by kernel_rfl) (by simp) (AllReady.cons rfl (fun K hK => ?_) AllReady.nil)
     go_simp
     refine hK _ _ ?_
     clear hK K
     refine wpAny_ready (rs := [1]) (by kernel_rfl) (by simp) (AllReady.cons rfl (fun K hK => ?_) AllReady.nil)
     go_simp
     go_wp2_with (go_at_call 83; refine Calls.mono (HFO.out _ ?_) ?_; exact HBX.out.drew; rintro e w2 ⟨rfl, hb2⟩; replace hb2 := kundrew hb2; have u6 := (kcell hb2 wr.heap.size 6 lW).trans t6; have BW2 := kide (HBX.out.trans (hb2.mono HBX.out.size)))
     refine tkC (i := 2) (v := Value.bool false) rfl ?_
     try go_simp
     refine tkC (i := 3) (v := Value.bool false) rfl ?_
     try go_simp
     refine tkC (i := 4) (v := Value.slice (some ⟨w.heap.size + 1 + 1, 0, none⟩) n n) rfl ?_
     try go_simp
     refine tkC (i := 5) (v := Value.int .i64 (k : Int)) rfl ?_
     try go_simp
     refine tkC (i := 6) (v := Value.slice (some ⟨w.heap.size + 1 + 1, 0, none⟩) k n) rfl ?_
     try go_simp
     refine tkC (i := 7) (v := Value.pointer (some ⟨wr.heap.size, 6, none⟩)) rfl ?_
     try go_simp
     refine wpAny_ready (rs := [8]) (by kernel_rfl) (by simp) (AllReady.cons rfl (fun K hK => ?_) AllReady.nil)
     go_simp
     refine hK _ _ ?_
     clear hK K
     refine wpAny_ready (rs := [9]) (by kernel_rfl) (by simp) (AllReady.cons rfl (fun K hK => ?_) AllReady.nil)
     go_simp
     go_wp2_with (go_at_call 84; refine Calls.mono (HCK.out w2 BW2.out) ?_; rintro e w3 ⟨rfl, hw3, hg3⟩)
     refine tkC (i := 10) (v := Value.bool true) rfl ?_
     try go_simp
     refine tkC (i := 11) (v := Value.bool true) rfl ?_
     try go_simp
     refine wpAny_done (by kernel_rfl) ?_ _
     go_wp2_with fail
     go_ret
     rw [HF.out]
     refine RetI.nil _ _ ?_
     have B2 := (HST.out.later BW2.out).bel
     exact ⟨hg3.os.trans B2.os, hg3.tape.trans B2.tape, hg3.output.trans B2.output, Nat.le_trans B2.size hg3.size, fun k hk => (hg3.block k (Nat.lt_of_lt_of_le hk B2.size) (by simp; omega)).trans (B2.block k hk)⟩
    | true =>
     rw [hkd] at HCK
     have HBO := kide (HBOTH.out (by rw [HWL.out]; exact hkd))
     have HNWK := kide (fun u hu hw hk' hy => HNW.out u hu hw hk' hy (by rw [HWL.out]; exact hkd))
     have hPk : w.heap.size + 2 < wr.heap.size := by
      obtain ⟨f, ⟨cc, hh, -⟩, -⟩ := HST.out.cnt
      exact lt_of_block hh
     have HMK := kide (fun (v : Int) (h : stepR ds wide t = some v) => goR_some HMX.out h)
     have HRG := kide (fun (v : Int) (h : stepR ds wide t = some v) => stepR_range h)
     have HRX : Hid (∀ u, Below w.heap.size w u → Rd u wa t.ws ∧ RdI u ka t.ks) := fun u hu => by
      obtain ⟨-, h | ⟨b2, o2, -, hc2⟩⟩ := HRT.out u hu
      ·have := HN.out; subst h; simp at this; omega
      obtain ⟨-, r1, r2, -⟩ := hc2 k _ HX.out
      exact ⟨r1, r2⟩
     generalize stepR ds wide t = SR at *
     generalize nodR ds t (kwR wide t.ks) = V at *
     obtain ⟨op, vr, A, B, bw, ws, ks⟩ := t
     simp only [] at p0 p1 p2 p3 p4 p5 p6 HFO HBX hws hks HCK HNWK HPR HPK HRX
     clear hfl hkd HNW HBOTH
     have t0 : (wr.alloc (Obj.cells #[.int .i64 op, .int .i64 vr, .int .i64 A, .int .i64 B, .int .i64 bw, .slice wa ws.length wc, .slice ka ks.length kc] 67)).cell? ⟨wr.heap.size, 0, none⟩ = some (Value.int .i64 op) := by simp [go_sem]
     have t1 : (wr.alloc (Obj.cells #[.int .i64 op, .int .i64 vr, .int .i64 A, .int .i64 B, .int .i64 bw, .slice wa ws.length wc, .slice ka ks.length kc] 67)).cell? ⟨wr.heap.size, 1, none⟩ = some (Value.int .i64 vr) := by simp [go_sem]
     have t2 : (wr.alloc (Obj.cells #[.int .i64 op, .int .i64 vr, .int .i64 A, .int .i64 B, .int .i64 bw, .slice wa ws.length wc, .slice ka ks.length kc] 67)).cell? ⟨wr.heap.size, 2, none⟩ = some (Value.int .i64 A) := by simp [go_sem]
     have t3 : (wr.alloc (Obj.cells #[.int .i64 op, .int .i64 vr, .int .i64 A, .int .i64 B, .int .i64 bw, .slice wa ws.length wc, .slice ka ks.length kc] 67)).cell? ⟨wr.heap.size, 3, none⟩ = some (Value.int .i64 B) := by simp [go_sem]
     have t4 : (wr.alloc (Obj.cells #[.int .i64 op, .int .i64 vr, .int .i64 A, .int .i64 B, .int .i64 bw, .slice wa ws.length wc, .slice ka ks.length kc] 67)).cell? ⟨wr.heap.size, 4, none⟩ = some (Value.int .i64 bw) := by simp [go_sem]
     have t5 : (wr.alloc (Obj.cells #[.int .i64 op, .int .i64 vr, .int .i64 A, .int .i64 B, .int .i64 bw, .slice wa ws.length wc, .slice ka ks.length kc] 67)).cell? ⟨wr.heap.size, 5, none⟩ = some (Value.slice wa ws.length wc) := by simp [go_sem]
     have t6 : (wr.alloc (Obj.cells #[.int .i64 op, .int .i64 vr, .int .i64 A, .int .i64 B, .int .i64 bw, .slice wa ws.length wc, .slice ka ks.length kc] 67)).cell? ⟨wr.heap.size, 6, none⟩ = some (Value.slice ka ks.length kc) := by simp [go_sem]
     have lW : wr.heap.size < (wr.alloc (Obj.cells #[.int .i64 op, .int .i64 vr, .int .i64 A, .int .i64 B, .int .i64 bw, .slice wa ws.length wc, .slice ka ks.length kc] 67)).heap.size := by simp
     go_wp2_with fail
     generalize wr.alloc (Obj.cells #[.int .i64 op, .int .i64 vr, .int .i64 A, .int .i64 B, .int .i64 bw, .slice wa ws.length wc, .slice ka ks.length kc] 67) = W at *
     clear p0 p1 p2 p3 p4 p5 p6
     refine wp_region_any (by kernel_rfl) ?_
     try (change wpAny _ _ _ _ _ _ _ (World.drew _))
     refine wpAny_ready (rs := [0]) (by kernel_rfl) (by simp) (AllReady.cons rfl (fun K hK => ?_) AllReady.nil)
     go_simp
     refine hK _ _ ?_
     clear hK K
     refine wpAny_ready (rs := [1]) (by kernel_rfl) (by simp) (AllReady.cons rfl (fun K hK => ?_) AllReady.nil)
     go_simp
     go_wp2_with (go_at_call 83; refine Calls.mono (HFO.out _ ?_) ?_; exact HBX.out.drew; rintro e w2 ⟨rfl, hb2⟩; replace hb2 := kundrew hb2; have u6 := (kcell hb2 wr.heap.size 6 lW).trans t6; have BW2 := kide (HBX.out.trans (hb2.mono HBX.out.size)))
     refine tkC (i := 2) (v := Value.bool false) rfl ?_
     try go_simp
     refine tkC (i := 3) (v := Value.bool false) rfl ?_
     try go_simp
     refine tkC (i := 4) (v := Value.slice (some ⟨w.heap.size + 1 + 1, 0, none⟩) n n) rfl ?_
     try go_simp
     refine tkC (i := 5) (v := Value.int .i64 (k : Int)) rfl ?_
     try go_simp
     refine tkC (i := 6) (v := Value.slice (some ⟨w.heap.size + 1 + 1, 0, none⟩) k n) rfl ?_
     try go_simp
     refine tkC (i := 7) (v := Value.pointer (some ⟨wr.heap.size, 6, none⟩)) rfl ?_
     try go_simp
     refine wpAny_ready (rs := [8]) (by kernel_rfl) (by simp) (AllReady.cons rfl (fun K hK => ?_) AllReady.nil)
     go_simp
     refine hK _ _ ?_
     clear hK K
     refine wpAny_ready (rs := [9]) (by kernel_rfl) (by simp) (AllReady.cons rfl (fun K hK => ?_) AllReady.nil)
     go_simp
     go_wp2_with (go_at_call 84; refine Calls.mono (HCK.out w2 BW2.out) ?_; rintro e w3 ⟨rfl, hw3, hg3⟩)
     refine tkC (i := 10) (v := Value.bool false) rfl ?_
     try go_simp
     refine tkC (i := 11) (v := Value.bool false) rfl ?_
     try go_simp
     refine wpAny_done (by kernel_rfl) ?_ _
     have W3 := hw3 trivial
     have lw2 : wr.heap.size < w2.heap.size := Nat.lt_of_lt_of_le lW hb2.size
     have HB3 := kide (hg3.block wr.heap.size lw2 (by simp; omega))
     have y0 := (World.cell?_of_block (w := w2) (w' := w3) (a := ⟨wr.heap.size, 0, none⟩) HB3.out).trans ((kcell hb2 wr.heap.size 0 lW).trans t0)
     have y1 := (World.cell?_of_block (w := w2) (w' := w3) (a := ⟨wr.heap.size, 1, none⟩) HB3.out).trans ((kcell hb2 wr.heap.size 1 lW).trans t1)
     have y2 := (World.cell?_of_block (w := w2) (w' := w3) (a := ⟨wr.heap.size, 2, none⟩) HB3.out).trans ((kcell hb2 wr.heap.size 2 lW).trans t2)
     have y3 := (World.cell?_of_block (w := w2) (w' := w3) (a := ⟨wr.heap.size, 3, none⟩) HB3.out).trans ((kcell hb2 wr.heap.size 3 lW).trans t3)
     have y4 := (World.cell?_of_block (w := w2) (w' := w3) (a := ⟨wr.heap.size, 4, none⟩) HB3.out).trans ((kcell hb2 wr.heap.size 4 lW).trans t4)
     have y5 := (World.cell?_of_block (w := w2) (w' := w3) (a := ⟨wr.heap.size, 5, none⟩) HB3.out).trans ((kcell hb2 wr.heap.size 5 lW).trans t5)
     have y6 := (World.cell?_of_block (w := w2) (w' := w3) (a := ⟨wr.heap.size, 6, none⟩) HB3.out).trans ((kcell hb2 wr.heap.size 6 lW).trans t6)
     have lw3 : wr.heap.size < w3.heap.size := Nat.lt_of_lt_of_le lw2 hg3.size
     have HW3 := kide W3
     have HNWF := kide (fun u (hu : Below w3.heap.size w3 u) => HNWK.out u (HW3.out.later hu).bel (HRX.out u (HW3.out.later hu).bel).1 (HRX.out u (HW3.out.later hu).bel).2 (OwnI.first (HW3.out.later hu).row (by rw [HWL.out]; omega) (fun y hy => by have := HWB.out y hy; unfold in64; omega)))
     rw [HWL.out] at HNWF
     obtain ⟨v, cd⟩ := V
     simp only [] at HNWF HBO
     clear hw3 W3 HFO HCK HNWK t0 t1 t2 t3 t4 t5 t6 u6 hb2 hg3 HB3 HBX BW2 HPR HPK
     go_wp2_with fail
     refine wp_region_any (by kernel_rfl) ?_
     try (change wpAny _ _ _ _ _ _ _ (World.drew _))
     refine tkC (i := 0) (v := Value.slice a ds.length c) rfl ?_
     try go_simp
     refine tkC (i := 2) (v := Value.slice (some ⟨w.heap.size + 1, 0, none⟩) n n) rfl ?_
     try go_simp
     refine tkC (i := 3) (v := Value.int .i64 (k : Int)) rfl ?_
     try go_simp
     refine tkC (i := 4) (v := Value.slice (some ⟨w.heap.size + 1, 0, none⟩) k n) rfl ?_
     try go_simp
     refine wpAny_ready (rs := [1]) (by kernel_rfl) (by simp) (AllReady.cons rfl (fun K hK => ?_) AllReady.nil)
     go_simp
     refine hK _ _ ?_
     clear hK K
     refine wpAny_ready (rs := [5]) (by kernel_rfl) (by simp) (AllReady.cons rfl (fun K hK => ?_) AllReady.nil)
     go_simp
     go_wp2_with (go_at_call 85; refine Calls.mono (HNWF.out _ ?_) ?_; exact (Below.refl _ _).drew; rintro e w4 ⟨rfl, hb4⟩; replace hb4 := kundrew hb4)
     refine tkC (i := 6) (v := Value.tuple #[.int .i64 v, .int .i64 cd]) rfl ?_
     try go_simp
     refine tkC (i := 7) (v := Value.int .i64 v) rfl ?_
     try go_simp
     refine tkC (i := 8) (v := Value.int .i64 cd) rfl ?_
     try go_simp
     refine tkC (i := 9) (v := Value.int .i64 v) rfl ?_
     try go_simp
     refine tkC (i := 10) (v := Value.int .i64 cd) rfl ?_
     try go_simp
     refine wpAny_done (by kernel_rfl) ?_ _
     have HW4 := kide (HW3.out.later hb4)
     clear hb4 y0 y1 y2 y3 y4 y5 y6 HNWF
     by_cases hcd : cd = 0
     ·subst hcd
      rw [if_pos rfl] at HBO
      have h00 : ((0 : Int) != 0) = false := by simp
      have hR4 := HW4.out.row
      have e0 := hR4.cell (i := k) (by simp [HWL.out]; omega)
      have e1 := hR4.free k
      generalize (wide ++ List.replicate (n - wide.length) 0).getD k 0 = z at e0
      clear hR4
      go_wp2_with fail
      go_roundw
      case rel =>
       have hp := HW4.out.put v (by rw [HWL.out]; exact hlt)
       rw [HWL.out] at hp
       refine ⟨k + 1, wide ++ [v], by omega, by go_num, by simp [HWL.out], ?_, ?_, hp⟩
       ·intro x hx
        rcases List.mem_append.1 hx with hx | hx
        ·exact HWB.out x hx
        ·simp at hx
         subst hx
         exact HRG.out x HBO.out
       ·rw [← HMK.out v HBO.out]; exact HGO.out
      case measure => simp [intOf]; omega
     ·rw [if_neg hcd] at HBO
      have HF := kide (HNONE.out HBO.out)
      have h00 : (cd != 0) = true := by simp [hcd]
      clear hcd
      go_wp2_with fail
      go_ret
      rw [HF.out]
      exact RetI.nil _ _ HW4.out.bel
  ·have e : k = n := by omega
   have e' := e.symm
   subst e'
   have hdr : (xs.map Tg.ct).drop n = [] := List.drop_of_length_le (by simp [HN.out])
   have htk : (xs.map Tg.ct).take n = xs.map Tg.ct := List.take_of_length_le (by simp [HN.out])
   rw [htk] at hst
   have HZ2 : Hid (Z = if zeroR (cntA (xs.map Tg.ct)) (n - 1) = true then [] else wide) := by
    show _ = _
    rw [← HZ.out, ← hgo, hdr, goR]
   have HST := kide hst
   obtain ⟨m, hm⟩ : ∃ m, n = m + 1 := ⟨n - 1, by omega⟩
   have HCO := kide (contains_any (w.heap.size + 2) n m n (cntA (xs.map Tg.ct)) wr hst.cnt (by omega) (by omega))
   rw [show n - 1 = m by omega] at HZ2
   generalize zeroR (cntA (xs.map Tg.ct)) m = Q at *
   have hkm : (n : Int) - 1 = (m : Int) := by omega
   have hkm2 : (m : Int) ≤ (n : Int) := by omega
   clear hdr htk hst hgo hwb hwl hlt e hm
   cases Q with
   | true =>
    go_wp2_with fail
    refine Calls.mono HCO.out ?_
    rintro e w2 ⟨rfl, hb2⟩
    go_wp2_with fail
    go_ret
    have hz : Z = [] := by simpa using HZ2.out
    rw [hz]
    exact RetI.nil _ _ (HST.out.later hb2).bel
   | false =>
    go_wp2_with fail
    refine Calls.mono HCO.out ?_
    rintro e w2 ⟨rfl, hb2⟩
    go_wp2_with fail
    go_ret
    have hW := HST.out.later hb2
    have hz : Z = wide := by simpa using HZ2.out
    rw [hz]
    refine ⟨some ⟨w.heap.size + 1, 0, none⟩, n, by rw [HWL.out]; rfl, OwnI.first hW.row (by rw [HWL.out]; omega) (fun y hy => by have := HWB.out y hy; unfold in64; omega), fun h => by have := HWL.out; rw [h] at this; simp at this; omega, hW.bel⟩

theorem rightWidths_any (a b : Option Addr) (c c2 n : Nat) (ds : List Dc) (xs : List Tg) (w : World) (hr : RdD w a ds) (hs : RdT w b xs) (hn : xs.length = n) (hG : GF w) :
  Calls Tryz.prog 35 #[.slice a ds.length c, .agg #[.slice b n c2]] w (RetI w (widthsR ds (xs.map Tg.ct))) := by
 have s0 := St.start w (.cells #[.slice b n c2] 30)
 have HD := kide (fun u (hu : Below w.heap.size w u) => implDecls_any a c ds u (hr.later hu))
 have HW := kide (fun u (hu : Below w.heap.size w u) (hd : dclR ds = true) => widthsOf_any a b c c2 n ds xs u (hr.later hu) (hs.later hu) hn (hG.later hu) hd)
 clear hr hs hn hG
 cases hd : dclR ds with
 | false =>
  have hR : widthsR ds (xs.map Tg.ct) = [] := by simp [widthsR, hd]
  rw [hR]
  rw [hd] at HD
  clear hR hd HW
  go_enter Tryz.func35, Tryz.ntmps35
  go_wp2_with fail
  refine Calls.mono (HD.out _ s0.below) ?_
  rintro e w1 ⟨rfl, hb1⟩
  have s1 := s0.next hb1
  go_wp2_with fail
  go_ret
  exact RetI.nil _ _ s1.below
 | true =>
  rw [hd] at HD
  have HW2 := kide (fun u hu => HW.out u hu hd)
  generalize widthsR ds (xs.map Tg.ct) = R at *
  clear hd HW
  go_enter Tryz.func35, Tryz.ntmps35
  go_wp2_with fail
  refine Calls.mono (HD.out _ s0.below) ?_
  rintro e w1 ⟨rfl, hb1⟩
  have s1 := s0.next hb1
  have g0 := s1.cell 0
  simp at g0
  clear hb1 s0
  go_wp2_with fail
  refine Calls.mono (HW2.out _ s1.below) ?_
  rintro e w2 ⟨a2, c3, rfl, hr2, hnl, hb2⟩
  have B2 := kide (s1.below.trans (hb2.mono s1.below.size))
  have HR2 := kide hr2
  have HNL := kide hnl
  clear hb2 hr2 hnl
  go_wp2_with fail
  go_ret
  exact ⟨a2, c3, rfl, HR2.out, HNL.out, B2.out⟩

theorem Ss.snoc {w w' : World} {B : Nat} {v v' : Value} {l : List Sg} {x : Sg} (h : Ss w B v l) (ho : OS5 w' B v' (l ++ [x])) (hg : w.grownBy w' v.ownBlock) (hx : Nw w B x.a x.ct.ws) : Ss w' B v' (l ++ [x]) := by
 refine ⟨ho, fun y hy => ?_⟩
 have hk : ∀ z : List Nat, ∀ a, Nw w B a z → Nw w' B a z := fun z a hz => hz.kept fun k cur hc => hg.block k (lt_of_block hc) (fun e => by
  obtain ⟨c9, h9⟩ := h.1.typed e.symm
  rw [hc] at h9
  cases h9)
 rcases List.mem_append.1 hy with hy | hy
 ·exact hk _ _ (h.2 y hy)
 ·simp at hy; subst hy; exact hk _ _ hx
theorem owB_form {w : World} {B : Nat} {v : Value} {bs : List Nat} (h : OwB w B v bs) : ∃ a c, v = .slice a bs.length c := by
 rcases h.2 with ⟨h1, h2⟩ | ⟨g, cap, cur, e, -⟩
 ·exact ⟨none, 0, by rw [h1, h2]⟩
 ·exact ⟨_, _, e⟩
theorem Fresh.nww {w : World} {lo : Nat} {a : Option Addr} {xs : List Nat} (h : Fresh w lo a xs) : Nw w lo a xs := by
 rcases h with ⟨h1, h2⟩ | ⟨g, h1, h2, h3⟩
 ·exact .inl ⟨h1, fun x e => by rw [h2] at e; cases e⟩
 ·exact .inr ⟨g, _, h1, h2, h3, fun i hi => u64s_get _ _ hi⟩
theorem Ss.past {w w' : World} {B B' : Nat} {v v' : Value} {l : List Sg} {bs : List Nat} (h : Ss w B v l) (h' : OwB w B' v' bs) (hg : w.grownBy w' v'.ownBlock) : Ss w' B v l := by
 have hne : ∀ (k : Nat) (cur : Array Value) (t : TypeId), w.heap[k]? = some (.cells cur t (0, 0)) → t ≠ 5 → w'.heap[k]? = w.heap[k]? := fun k cur t hc ht => hg.block k (lt_of_block hc) (fun e => by
  rcases h'.2 with ⟨rfl, -⟩ | ⟨g9, cap, cur9, rfl, -, hh, -⟩
  ·cases e
  ·cases e
   rw [hc] at hh
   cases hh
   exact ht rfl)
 refine ⟨h.1.move fun b hb => ?_, fun x hx => (h.2 x hx).kept fun k cur hc => hne k cur _ hc (by decide)⟩
 obtain ⟨cur, hc⟩ := h.1.typed hb
 exact hne b cur _ hc (by decide)
def No5 (l : List Sg) : Prop := ∀ x ∈ l, x.a = none → x.c = 0
theorem No5.snoc {l : List Sg} {x : Sg} (h : No5 l) (hx : x.a = none → x.c = 0) : No5 (l ++ [x]) := fun y hy => by
 rcases List.mem_append.1 hy with hy | hy
 ·exact h y hy
 ·simp at hy; subst hy; exact hx
set_option maxHeartbeats 4000000 in
set_option maxRecDepth 100000 in
theorem l5FormN_any (pa : Option Addr) (pc np : Nat) (ps : List Ib) (w : World) (hr : RdP w pa ps) (hn : ps.length = np) (hnp : np ≤ 4096) (hok : ∀ p ∈ ps, (p.1 < 0 → 0 ≤ p.2 ∧ p.2 ≤ 1) ∧ (¬ p.1 < 0 → 0 ≤ p.2 ∧ p.2 ≤ 4096)) :
  Calls Tryz.prog 31 #[.slice pa np pc] w fun e w' => ∃ v l, e = .returned (.tuple #[v, .bool (decide (l.length ≤ 2000))]) ∧ l.map Sg.ct = formB ps ∧ Ss w' w.heap.size v l ∧ Below w.heap.size w w' ∧ No5 l := by
 have HR := kide hr
 have HN := kide hn
 have HOK := kide hok
 clear hr hn hok
 go_enter Tryz.func31, Tryz.ntmps31
 go_wp2_with fail
 go_loopw [4, 5] (fun v q wr => ∃ (i : Nat) (l : List Sg), i ≤ np ∧ q = .int .i64 (i : Int) ∧ l.length ≤ i ∧ formB ps = l.map Sg.ct ++ formB (ps.drop i) ∧ Ss wr w.heap.size v l ∧ Below w.heap.size w wr ∧ No5 l) (fun _ q _ => np - (intOf q).toNat)
 case atStart => exact ⟨0, [], Nat.zero_le _, rfl, Nat.le_refl _, by simp, ⟨OS5.empty w _ (Nat.le_refl _), fun x hx => by cases hx⟩, blA _ _, fun x hx => by cases hx⟩
 case round =>
  obtain ⟨i, l, hi, rfl, hli, hfb, hss, hbel, hno⟩ := hrel
  have HNO := kide hno
  clear hno
  obtain ⟨va, vc, rfl⟩ := hss.1.form
  have HF := kide hfb
  have HS := kide hss
  have HB := kide hbel
  clear hfb hss
  generalize hll : l.length = ll at *
  have HLL := kide hll
  clear hll
  by_cases hlt : i < np
  ·obtain ⟨⟨pv, pt⟩, gp⟩ : ∃ p, ps[i]? = some p := ⟨ps[i]'(by rw [HN.out]; exact hlt), List.getElem?_eq_getElem _⟩
   obtain ⟨b2, o2, rfl, hc2⟩ : ∃ b o, pa = some ⟨b, o, none⟩ ∧ ∀ i p, ps[i]? = some p → w.cell? ⟨b, o + i * 2, none⟩ = some (.int .i64 p.1) ∧ w.cell? ⟨b, o + i * 2 + 1, none⟩ = some (.int .i64 p.2) := by
    rcases HR.out.2 with h | h
    ·rw [h] at gp; simp at gp
    ·exact h
   have HC := kide hc2
   obtain ⟨p0, p1⟩ := hc2 i _ gp
   simp only at p0 p1
   have lb2 := block_lt_of_cell p0
   simp only at lb2
   have d0 := (hbel.cell (p := ⟨b2, o2 + i * 2, none⟩) lb2).trans p0
   have d1 := (hbel.cell (p := ⟨b2, o2 + i * 2 + 1, none⟩) lb2).trans p1
   have hopp := HOK.out _ (List.mem_of_getElem? gp)
   have HGP := kide gp
   have i0 : (i : Int) < (np : Int) := by omega
   by_cases hv : pv < 0
   ·obtain ⟨ht0, ht1⟩ := hopp.1 hv
    simp only at ht0 ht1
    obtain ⟨y, rfl⟩ := Int.eq_ofNat_of_zero_le ht0
    have hwy : IntKind.u8.wrap (y : Int) = (y : Int) := by rw [IntKind.wrap_u8]; omega
    have hbx : Below wr.heap.size wr (wr.alloc (Obj.cells #[.int .u8 (y : Int)] 5)) := blA _ _
    have S1 := kide (HS.out.later hbx)
    have B1 := kide (HB.out.trans (hbx.mono HB.out.size))
    have L1 : Hid (OwB (wr.alloc (Obj.cells #[.int .u8 (y : Int)] 5)) w.heap.size (.slice (some ⟨wr.heap.size, 0, none⟩) 1 1) [y]) := ⟨by simp [u8s], .inr ⟨wr.heap.size, 1, #[.int .u8 (y : Int)], rfl, HB.out.size, Bz.new _ _ _, by simp, by unfold maxLen; omega, by simp, by simp [u8s]⟩⟩
    clear hc2 gp hbx HS HB hbel hopp p0 p1 ht0
    go_wp2_with fail
    generalize wr.alloc (Obj.cells #[.int .u8 (y : Int)] 5) = w1 at *
    go_loopw [6, 7] (fun q v9 u => ∃ k : Nat, i < k ∧ k ≤ np ∧ q = .int .i64 (k : Int) ∧ OwB u w.heap.size v9 (((ps.drop i).take (k - i)).map fun p => p.2.toNat) ∧ runC (ps.drop (i + 1)) = k - (i + 1) + runC (ps.drop k) ∧ (∀ p ∈ (ps.drop i).take (k - i), p.1 < 0) ∧ Ss u w.heap.size (.slice va ll vc) l ∧ Below w.heap.size w u) (fun q _ _ => np - (intOf q).toNat)
    case atStart =>
     have e1 : (ps.drop i).take 1 = [(pv, (y : Int))] := by
      rw [List.take_one, List.head?_drop, HGP.out]; rfl
     refine ⟨i + 1, by omega, by omega, by go_num, ?_, by omega, ?_, S1.out, B1.out⟩
     ·rw [show i + 1 - i = 1 by omega, e1]
      exact L1.out
     ·rw [show i + 1 - i = 1 by omega, e1]
      intro p hp
      simp at hp
      subst hp
      exact hv
    case round =>
     obtain ⟨k, hik, hkn, rfl, hlst, hrun, hneg, hss, hbel⟩ := hrel
     clear S1 B1 L1 d0 d1
     by_cases hgo : k < np ∧ ∃ q : Ib, ps[k]? = some q ∧ q.1 < 0
     ·obtain ⟨hk, ⟨qv, qt⟩, gq, hq⟩ := hgo
      simp only at hq
      obtain ⟨z0, z1⟩ := HC.out k _ gq
      simp only at z0 z1
      have d0 := (hbel.cell (p := ⟨b2, o2 + k * 2, none⟩) lb2).trans z0
      have d1 := (hbel.cell (p := ⟨b2, o2 + k * 2 + 1, none⟩) lb2).trans z1
      obtain ⟨ht0, ht2⟩ := (HOK.out _ (List.mem_of_getElem? gq)).1 hq
      simp only at ht0 ht2
      obtain ⟨z, rfl⟩ := Int.eq_ofNat_of_zero_le ht0
      have hwz : IntKind.u8.wrap (z : Int) = (z : Int) := by rw [IntKind.wrap_u8]; omega
      have hrd := runC_drop gq
      rw [if_pos (by exact hq)] at hrd
      have HTS := kide (take_step (ps := ps) (i := i) (by omega) gq)
      have hlen : ((ps.drop i).take (k - i)).length = k - i := by rw [List.length_take, List.length_drop]; have := HN.out; omega
      have HNG := kide hneg
      have k0 : (k : Int) < (np : Int) := by omega
      have HRU := kide (show runC (ps.drop (i + 1)) = k + 1 - (i + 1) + runC (ps.drop (k + 1)) by omega)
      generalize hTK : (ps.drop i).take (k - i) = TK at *
      obtain ⟨LB, hLB⟩ : ∃ LB, TK.map (fun p => p.2.toNat) = LB := ⟨_, rfl⟩
      have hlb : LB.length ≤ 4194304 := by rw [← hLB, List.length_map]; omega
      rw [hLB] at hlst
      have HLB := kide hLB
      have hbx : Below wr.heap.size wr (wr.alloc (Obj.cells #[.int .u8 (z : Int)] 5)) := blA _ _
      have L2 := kide (hlst.kept hbx)
      have S2 := kide (hss.later hbx)
      have B2 := kide (hbel.trans (hbx.mono hbel.size))
      have XN := kide (Bz.new wr #[.int .u8 (z : Int)] 5)
      obtain ⟨la, lc, hlv⟩ := owB_form hlst
      subst hlv
      clear hbx hlst hss hbel z0 z1 hTK hLB hneg hrun hrd ht0 hlen gq
      go_wp2_with (at_builtin; refine wpList_appB _ rfl _ _ rfl w.heap.size _ LB z rfl L2.out wr.heap.size rfl (XN.out.cell 0) hlb B2.out.size ?_)
      intro v8 w8 hl8 hg8
      have B3 := kide (Below.grown B2.out hg8 B2.out.size (fun j hj => L2.out.own j hj))
      have S3 : Hid (Ss w8 w.heap.size (.slice va ll vc) l) := S2.out.past L2.out hg8
      have L3 := kide hl8
      clear hl8 hg8
      go_wp2_with fail
      go_roundw
      case rel =>
       refine ⟨k + 1, by omega, by omega, by go_num, ?_, HRU.out, ?_, S3.out, B3.out⟩
       ·rw [HTS.out, List.map_append, HLB.out]
        exact L3.out
       ·rw [HTS.out]
        intro p hp
        rcases List.mem_append.1 hp with hp | hp
        ·exact HNG.out p hp
        ·simp at hp; subst hp; exact hq
      case measure => simp [intOf]; omega
     ·have hz : runC (ps.drop k) = 0 := by
       by_cases hk : k < np
       ·obtain ⟨q, gq⟩ : ∃ q, ps[k]? = some q := ⟨ps[k]'(by rw [HN.out]; exact hk), List.getElem?_eq_getElem _⟩
        rw [runC_drop gq, if_neg (fun hq => hgo ⟨hk, q, gq, hq⟩)]
       ·rw [List.drop_eq_nil_of_le (by have := HN.out; omega)]; rfl
      have HST := kide (formB_C (k := k) HGP.out (by exact hv) (by omega))
      have hlen : ((ps.drop i).take (k - i)).length = k - i := by rw [List.length_take, List.length_drop]; have := HN.out; omega
      have HSEG : Hid (segC ((ps.drop i).take (k - i)) = ⟨-1, 0, ((k - i : Nat) : Int), ((k - i : Nat) : Int), pack (((ps.drop i).take (k - i)).map fun p => p.2.toNat)⟩) := by
       show _ = _
       rw [segC, hlen]
      have hb1 : ∀ x ∈ ((ps.drop i).take (k - i)).map (fun p : Ib => p.2.toNat), x < 256 := by
       intro x hx
       obtain ⟨p, hp, rfl⟩ := List.mem_map.1 hx
       have := (HOK.out p (List.mem_of_mem_drop (List.mem_of_mem_take hp))).1 (hneg p hp)
       omega
      have hll : (((ps.drop i).take (k - i)).map fun p : Ib => p.2.toNat).length = k - i := by rw [List.length_map, hlen]
      generalize ((ps.drop i).take (k - i)).map (fun p : Ib => p.2.toNat) = LB at *
      generalize hnl : k - i = nl at *
      obtain ⟨la, lc, rfl, hrd, -⟩ := hlst.shape (by omega) hb1
      have hfr := l1From_yes la lc LB wr hrd (by omega) (by omega)
      rw [hll] at hfr ⊢
      have HFR := kide hfr
      have HSS := kide hss
      have HBB := kide hbel
      have hkq : k < np → ∃ q : Ib, ps[k]? = some q ∧ ¬ q.1 < 0 ∧ wr.cell? ⟨b2, o2 + k * 2, none⟩ = some (.int .i64 q.1) := fun hk => by
       obtain ⟨q, gq⟩ : ∃ q, ps[k]? = some q := ⟨ps[k]'(by rw [HN.out]; exact hk), List.getElem?_eq_getElem _⟩
       exact ⟨q, gq, fun hq => hgo ⟨hk, q, gq, hq⟩, (hbel.cell (p := ⟨b2, o2 + k * 2, none⟩) lb2).trans (HC.out k _ gq).1⟩
      have HPK : Hid (pack LB ≠ []) := fun e => by
       have h9 := congrArg List.length e
       rw [pack_len, hll] at h9
       simp at h9
       omega
      clear hgo hneg hrun hlst hss hbel hrd hfr hz hb1 hlen hll
      by_cases hk : k < np
      ·obtain ⟨⟨qv, qt⟩, -, hq, d0⟩ := hkq hk
       simp only at hq d0
       have k0 : (k : Int) < (np : Int) := by omega
       go_wp2_with fail
       refine Calls.mono HFR.out ?_
       rintro e w5 ⟨a9, c9, rfl, hf9, hb9⟩
       dsimp only at hf9 ⊢
       have hb6 : Below w5.heap.size w5 (w5.alloc (Obj.cells #[.int .i64 (nl : Int), .slice a9 (pack LB).length c9] 65)) := blA _ _
       have hb7 : Below (w5.alloc (Obj.cells #[.int .i64 (nl : Int), .slice a9 (pack LB).length c9] 65)).heap.size (w5.alloc (Obj.cells #[.int .i64 (nl : Int), .slice a9 (pack LB).length c9] 65)) ((w5.alloc (Obj.cells #[.int .i64 (nl : Int), .slice a9 (pack LB).length c9] 65)).alloc (Obj.cells #[.int .i64 (-1), .int .i64 0, .int .i64 (nl : Int), .int .i64 (nl : Int), .slice a9 (pack LB).length c9] 73)) := blA _ _
       have S7 := kide (((HSS.out.later hb9).later hb6).later hb7)
       have NOX : Hid (a9 = none → c9 = 0) := fun e => by
        rcases hf9 with ⟨h1, -⟩ | ⟨g, h1, -⟩
        ·exact absurd h1 HPK.out
        ·rw [h1] at e; cases e
       have N7 := kide ((((Fresh.nww hf9).later hb6).later hb7).mono (lo' := w.heap.size) HBB.out.size)
       have B5 := HBB.out.trans (hb9.mono HBB.out.size)
       have B6 := B5.trans (hb6.mono B5.size)
       have B7 := kide (B6.trans (hb7.mono B6.size))
       have X7 := kide (Bz.new (w5.alloc (Obj.cells #[.int .i64 (nl : Int), .slice a9 (pack LB).length c9] 65)) #[.int .i64 (-1), .int .i64 0, .int .i64 (nl : Int), .int .i64 (nl : Int), .slice a9 (pack LB).length c9] 73)
       rw [show (w5.alloc (Obj.cells #[.int .i64 (nl : Int), .slice a9 (pack LB).length c9] 65)).heap.size = w5.heap.size + 1 by simp] at X7
       clear hb6 hb7 hb9 hf9 B5 B6 HFR
       generalize hpl : (pack LB).length = pl at *
       have HPL := kide hpl
       clear hpl
       go_wp2_with (at_builtin; refine wpList_appS5 rfl _ _ rfl w.heap.size _ l ⟨⟨-1, 0, (nl : Int), (nl : Int), pack LB⟩, a9, c9⟩ rfl S7.out.1 (w5.heap.size + 1) 1 rfl (X7.out.cell 0) (X7.out.cell 1) (X7.out.cell 2) (X7.out.cell 3) ((X7.out.cell 4).trans (by simp only [HPL.out]; rfl)) (by have := HLL.out; omega) B7.out.size ?_)
       intro g8 c8 w8 ho8 hg8
       have B8 := kide (Below.grown B7.out hg8 B7.out.size (fun j hj => (S7.out.1.lt hj).1))
       have S8 := kide (S7.out.snoc ho8 hg8 N7.out)
       clear ho8 hg8
       go_wp2_with fail
       go_roundw
       case rel => exact ⟨k, l ++ [⟨⟨-1, 0, (nl : Int), (nl : Int), pack LB⟩, a9, c9⟩], by omega, by go_num, by rw [List.length_append, HLL.out]; simp; omega, by rw [HF.out, HST.out, List.map_append, HSEG.out]; simp, S8.out, B8.out, HNO.out.snoc NOX.out⟩
       case measure => simp [intOf]; omega
      ·clear hkq
       have k0 : ¬ (k : Int) < (np : Int) := by omega
       go_wp2_with fail
       refine Calls.mono HFR.out ?_
       rintro e w5 ⟨a9, c9, rfl, hf9, hb9⟩
       dsimp only at hf9 ⊢
       have hb6 : Below w5.heap.size w5 (w5.alloc (Obj.cells #[.int .i64 (nl : Int), .slice a9 (pack LB).length c9] 65)) := blA _ _
       have hb7 : Below (w5.alloc (Obj.cells #[.int .i64 (nl : Int), .slice a9 (pack LB).length c9] 65)).heap.size (w5.alloc (Obj.cells #[.int .i64 (nl : Int), .slice a9 (pack LB).length c9] 65)) ((w5.alloc (Obj.cells #[.int .i64 (nl : Int), .slice a9 (pack LB).length c9] 65)).alloc (Obj.cells #[.int .i64 (-1), .int .i64 0, .int .i64 (nl : Int), .int .i64 (nl : Int), .slice a9 (pack LB).length c9] 73)) := blA _ _
       have S7 := kide (((HSS.out.later hb9).later hb6).later hb7)
       have NOX : Hid (a9 = none → c9 = 0) := fun e => by
        rcases hf9 with ⟨h1, -⟩ | ⟨g, h1, -⟩
        ·exact absurd h1 HPK.out
        ·rw [h1] at e; cases e
       have N7 := kide ((((Fresh.nww hf9).later hb6).later hb7).mono (lo' := w.heap.size) HBB.out.size)
       have B5 := HBB.out.trans (hb9.mono HBB.out.size)
       have B6 := B5.trans (hb6.mono B5.size)
       have B7 := kide (B6.trans (hb7.mono B6.size))
       have X7 := kide (Bz.new (w5.alloc (Obj.cells #[.int .i64 (nl : Int), .slice a9 (pack LB).length c9] 65)) #[.int .i64 (-1), .int .i64 0, .int .i64 (nl : Int), .int .i64 (nl : Int), .slice a9 (pack LB).length c9] 73)
       rw [show (w5.alloc (Obj.cells #[.int .i64 (nl : Int), .slice a9 (pack LB).length c9] 65)).heap.size = w5.heap.size + 1 by simp] at X7
       clear hb6 hb7 hb9 hf9 B5 B6 HFR
       generalize hpl : (pack LB).length = pl at *
       have HPL := kide hpl
       clear hpl
       go_wp2_with (at_builtin; refine wpList_appS5 rfl _ _ rfl w.heap.size _ l ⟨⟨-1, 0, (nl : Int), (nl : Int), pack LB⟩, a9, c9⟩ rfl S7.out.1 (w5.heap.size + 1) 1 rfl (X7.out.cell 0) (X7.out.cell 1) (X7.out.cell 2) (X7.out.cell 3) ((X7.out.cell 4).trans (by simp only [HPL.out]; rfl)) (by have := HLL.out; omega) B7.out.size ?_)
       intro g8 c8 w8 ho8 hg8
       have B8 := kide (Below.grown B7.out hg8 B7.out.size (fun j hj => (S7.out.1.lt hj).1))
       have S8 := kide (S7.out.snoc ho8 hg8 N7.out)
       clear ho8 hg8
       go_wp2_with fail
       go_roundw
       case rel => exact ⟨k, l ++ [⟨⟨-1, 0, (nl : Int), (nl : Int), pack LB⟩, a9, c9⟩], by omega, by go_num, by rw [List.length_append, HLL.out]; simp; omega, by rw [HF.out, HST.out, List.map_append, HSEG.out]; simp, S8.out, B8.out, HNO.out.snoc NOX.out⟩
       case measure => simp [intOf]; omega
   ·obtain ⟨ht0, ht1⟩ := hopp.2 (by simp only; omega)
    simp only at ht0 ht1
    clear hc2 hopp p0 p1
    go_wp2_with fail
    have HPB : Hid (∀ p ∈ ps, -1 ≤ p.2 ∧ p.2 ≤ 4096) := fun p hp => by
     have h9 := HOK.out p hp
     by_cases e : p.1 < 0
     ·have := h9.1 e; omega
     ·have := h9.2 (by omega); omega
    have hpv : ¬ pv < 0 := by omega
    go_loopw [6] (fun q u => ∃ (k : Nat) (rt : Int), i < k ∧ k ≤ np ∧ q = .int .i64 (k : Int) ∧ ps[k - 1]? = some (pv, rt) ∧ runV (pv, pt) (ps.drop (i + 1)) = k - (i + 1) + runV (pv, rt) (ps.drop k) ∧ Ss u w.heap.size (.slice va ll vc) l ∧ Below w.heap.size w u) (fun q _ => np - (intOf q).toNat)
    case atStart => exact ⟨i + 1, pt, by omega, by omega, by go_num, by rw [Nat.add_sub_cancel]; exact HGP.out, by omega, HS.out, HB.out⟩
    case round =>
     clear HS HB hbel d0 d1
     obtain ⟨k, rt, hik, hkn, rfl, hrk, hrun, hss, hbel⟩ := hrel
     obtain ⟨j, rfl⟩ : ∃ j, k = j + 1 := ⟨k - 1, by omega⟩
     rw [Nat.add_sub_cancel] at hrk
     have HSS := kide hss
     have HBB := kide hbel
     have d0 := (hbel.cell (p := ⟨b2, o2 + i * 2, none⟩) lb2).trans (HC.out i _ HGP.out).1
     have d1 := (hbel.cell (p := ⟨b2, o2 + i * 2 + 1, none⟩) lb2).trans (HC.out i _ HGP.out).2
     have g1 := (hbel.cell (p := ⟨b2, o2 + j * 2 + 1, none⟩) lb2).trans (HC.out j _ hrk).2
     have hrt := HPB.out _ (List.mem_of_getElem? hrk)
     obtain ⟨K, hK⟩ : ∃ K : Nat, j + 1 = K := ⟨_, rfl⟩
     simp only at d0 d1 g1 hrt
     have hjK : (K : Int) - 1 = (j : Int) := by omega
     have hjw : IntKind.i64.wrap (j : Int) = (j : Int) := by rw [IntKind.wrap_i64]; first | omega | (unfold wrap64; omega)
     have hrw : IntKind.i64.wrap (rt + 1) = rt + 1 := by rw [IntKind.wrap_i64]; first | omega | (unfold wrap64; omega)
     have hjn : (j : Int) < (np : Int) := by omega
     have hin : (i : Int) < (np : Int) := by omega
     rw [hK] at hik hkn hrun ⊢
     have HK := kide hK
     have HRK := kide hrk
     have HRUN := kide hrun
     clear hK hss hbel hrk hrun
     by_cases hk : K < np
     ·obtain ⟨⟨qv, qt⟩, gq⟩ : ∃ q, ps[K]? = some q := ⟨ps[K]'(by rw [HN.out]; exact hk), List.getElem?_eq_getElem _⟩
      have f0 := (HBB.out.cell (p := ⟨b2, o2 + K * 2, none⟩) lb2).trans (HC.out K _ gq).1
      have f1 := (HBB.out.cell (p := ⟨b2, o2 + K * 2 + 1, none⟩) lb2).trans (HC.out K _ gq).2
      simp only at f0 f1
      have k0 : (K : Int) < (np : Int) := by omega
      have HD := kide (runV_drop (p := (pv, rt)) gq)
      have HGQ := kide gq
      clear gq
      by_cases hq : qv = pv ∧ qt = rt + 1
      ·obtain ⟨rfl, rfl⟩ := hq
       have e1 : (qv == qv) = true := by simp
       have e2 : (rt + 1 == rt + 1) = true := by simp
       have HR2 : Hid (runV (qv, pt) (ps.drop (i + 1)) = K + 1 - (i + 1) + runV (qv, rt + 1) (ps.drop (K + 1))) := by
        have h1 := HRUN.out
        have h2 := HD.out
        rw [if_pos ⟨rfl, rfl⟩] at h2
        show _ = _
        rw [h1, h2]
        have := HK.out
        omega
       clear HD HRUN
       go_wp2_with fail
       go_quiet (fail)
       have hbd := below_drewN (Below.refl wr.heap.size wr) nq
       have HS3 := kide (HSS.out.later hbd)
       have HB3 := kide (HBB.out.trans (hbd.mono HBB.out.size))
       clear hbd
       generalize wr.drewN nq = w3 at *
       go_wp2_with fail
       go_roundw
       case rel => exact ⟨K + 1, rt + 1, by omega, by omega, by go_num, by rw [Nat.add_sub_cancel]; exact HGQ.out, HR2.out, HS3.out, HB3.out⟩
       case measure => simp [intOf]; omega
      ·have HZ : Hid (runV (pv, rt) (ps.drop K) = 0) := by
        show _ = _
        rw [HD.out, if_neg hq]
       by_cases hqv : qv = pv
       ·have e1 : (qv == pv) = true := by simp [hqv]
        have e2 : (qt == rt + 1) = false := beq_eq_false_iff_ne.2 (fun h9 => hq ⟨hqv, h9⟩)
        clear HD hq hqv
        go_wp2_with fail
        go_quiet (fail)
        have hbd := below_drewN (Below.refl wr.heap.size wr) nq
        have HS3 := kide (HSS.out.later hbd)
        have HB3 := kide (HBB.out.trans (hbd.mono HBB.out.size))
        clear hbd
        generalize wr.drewN nq = w3 at *
        go_wp2_with fail
        obtain ⟨M, hM⟩ : ∃ M : Nat, K = i + M := ⟨K - i, by omega⟩
        have hKi : (K : Int) - (i : Int) = (M : Int) := by omega
        have hMw : IntKind.i64.wrap (M : Int) = (M : Int) := by rw [IntKind.wrap_i64]; first | omega | (unfold wrap64; omega)
        have HFV : Hid (formB (ps.drop i) = segV (pv, pt) M :: formB (ps.drop K)) := by
         have h9 := formB_V (k := K) HGP.out (by simp only []; omega) (by have h1 := HRUN.out; have h2 := HZ.out; rw [h2] at h1; rw [h1]; omega)
         rw [show K - i = M by omega] at h9
         exact h9
        have HC0 := kide (HC.out i _ HGP.out).1
        have HC1 := kide (HC.out i _ HGP.out).2
        clear hM HRUN HZ
        refine wp_region_x (SA := fun _ => False) (SB := fun uu => uu.cell? ⟨b2, o2 + i * 2, none⟩ = some (Value.int .i64 pv) ∧ uu.cell? ⟨b2, o2 + i * 2 + 1, none⟩ = some (Value.int .i64 pt)) (k := 999) (by kernel_rfl) ?_
        have hbd : Below w3.heap.size w3 w3.drew := (Below.refl _ _).drew
        have SS_0 := kide (HS3.out.later hbd)
        have BB_0 := kide (HB3.out.trans (hbd.mono HB3.out.size))
        clear hbd HS3 HB3
        generalize w3.drew = u0 at *
        have c0_0 : u0.cell? ⟨b2, o2 + i * 2, none⟩ = some (Value.int .i64 pv) := (BB_0.out.cell (p := ⟨b2, o2 + i * 2, none⟩) lb2).trans HC0.out
        have c1_0 : u0.cell? ⟨b2, o2 + i * 2 + 1, none⟩ = some (Value.int .i64 pt) := (BB_0.out.cell (p := ⟨b2, o2 + i * 2 + 1, none⟩) lb2).trans HC1.out
        have hs0 : Hid ((fun uu => uu.cell? ⟨b2, o2 + i * 2, none⟩ = some (Value.int .i64 pv) ∧ uu.cell? ⟨b2, o2 + i * 2 + 1, none⟩ = some (Value.int .i64 pt)) u0) := ⟨c0_0, c1_0⟩
        try go_simp
        refine tkU (i := 0) (v := Value.slice va ll vc) rfl (Sx.behind (by kernel_rfl) hs0.out) ?_
        try go_simp
        refine tkU (i := 1) (v := Value.slice (some ⟨b2, o2, none⟩) np pc) rfl (Sx.behind (by kernel_rfl) hs0.out) ?_
        try go_simp
        refine tkU (i := 2) (v := Value.int .i64 (i : Int)) rfl (Sx.behind (by kernel_rfl) hs0.out) ?_
        try go_simp
        refine tkU (i := 3) (v := Value.pointer (some ⟨b2, o2 + i * 2, none⟩)) rfl (Sx.behind (by kernel_rfl) hs0.out) ?_
        try go_simp
        refine tkU (i := 4) (v := Value.pointer (some ⟨b2, o2 + i * 2, none⟩)) rfl (Sx.behind (by kernel_rfl) hs0.out) ?_
        try go_simp
        refine tkS (i := 5) (v := Value.int .i64 pv) rfl hs0.out (fun uu hu => by obtain ⟨e0, e1⟩ := hu; go_simp) ?_
        try go_simp
        refine tkU (i := 6) (v := Value.slice (some ⟨b2, o2, none⟩) np pc) rfl (Sx.behind (by kernel_rfl) hs0.out) ?_
        try go_simp
        refine tkU (i := 7) (v := Value.int .i64 (i : Int)) rfl (Sx.behind (by kernel_rfl) hs0.out) ?_
        try go_simp
        refine tkU (i := 8) (v := Value.pointer (some ⟨b2, o2 + i * 2, none⟩)) rfl (Sx.behind (by kernel_rfl) hs0.out) ?_
        try go_simp
        refine tkU (i := 9) (v := Value.pointer (some ⟨b2, o2 + i * 2 + 1, none⟩)) rfl (Sx.behind (by kernel_rfl) hs0.out) ?_
        try go_simp
        refine tkS (i := 10) (v := Value.int .i64 pt) rfl hs0.out (fun uu hu => by obtain ⟨e0, e1⟩ := hu; go_simp) ?_
        try go_simp
        refine tkU (i := 11) (v := Value.int .i64 (K : Int)) rfl (Sx.behind (by kernel_rfl) hs0.out) ?_
        try go_simp
        refine tkU (i := 12) (v := Value.int .i64 (i : Int)) rfl (Sx.behind (by kernel_rfl) hs0.out) ?_
        try go_simp
        refine tkB (T := (fun _ => True)) (i := 13) (v := Value.int .i64 (M : Int)) rfl (by kernel_rfl) (fun _ _ _ h => by first | exact h | exact h.elim) (fun _ _ => trivial) (fun _ _ => trivial) (Sx.behind (by kernel_rfl) hs0.out) (Or.inl ⟨by rfl, fun uu hu => by go_simp; first | done | (rw [hKi]; exact hMw) | rw [hKi, hMw]⟩) ?_
        try go_simp
        refine tkU (i := 14) (v := Value.agg #[.int .i64 pv, .int .i64 pt, .int .i64 ((M : Nat) : Int), .int .i64 0, .slice none 0 0]) rfl (Sx.behind (by kernel_rfl) hs0.out) ?_
        try go_simp
        refine rdX (rs := [15]) (cnB rfl (fun K hK => ?_) AllX.nil)
        go_simp
        have hbx : Below u0.heap.size u0 (u0.alloc (Obj.cells #[.int .i64 pv, .int .i64 pt, .int .i64 ((M : Nat) : Int), .int .i64 0, .slice none 0 0] 73)) := blA _ _
        have SS_1 := kide (SS_0.out.later hbx)
        have BB_1 := kide (BB_0.out.trans (hbx.mono BB_0.out.size))
        have XN := kide (Bz.new u0 #[.int .i64 pv, .int .i64 pt, .int .i64 ((M : Nat) : Int), .int .i64 0, .slice none 0 0] 73)
        obtain ⟨gn, hgn⟩ : ∃ z, u0.heap.size = z := ⟨_, rfl⟩
        rw [hgn] at XN
        simp only [hgn]
        clear hgn hbx
        generalize u0.alloc (Obj.cells #[.int .i64 pv, .int .i64 pt, .int .i64 ((M : Nat) : Int), .int .i64 0, .slice none 0 0] 73) = u1 at *
        have c0_1 : u1.cell? ⟨b2, o2 + i * 2, none⟩ = some (Value.int .i64 pv) := (BB_1.out.cell (p := ⟨b2, o2 + i * 2, none⟩) lb2).trans HC0.out
        have c1_1 : u1.cell? ⟨b2, o2 + i * 2 + 1, none⟩ = some (Value.int .i64 pt) := (BB_1.out.cell (p := ⟨b2, o2 + i * 2 + 1, none⟩) lb2).trans HC1.out
        have hs1 : Hid ((fun uu => uu.cell? ⟨b2, o2 + i * 2, none⟩ = some (Value.int .i64 pv) ∧ uu.cell? ⟨b2, o2 + i * 2 + 1, none⟩ = some (Value.int .i64 pt)) u1) := ⟨c0_1, c1_1⟩
        refine hK _ _ hs1.out ?_
        clear hK K
        try go_simp
        refine rdX (rs := [16]) (cnB rfl (fun K hK => ?_) AllX.nil)
        refine step_appS5 _ rfl _ _ rfl w.heap.size (Value.slice va ll vc) l ⟨⟨pv, pt, (M : Int), 0, []⟩, none, 0⟩ (by first | rfl | simp [Act.eval]) SS_1.out.1 gn 1 (by first | rfl | simp [Act.eval]) (XN.out.cell 0) (XN.out.cell 1) (XN.out.cell 2) (XN.out.cell 3) (XN.out.cell 4) (by have := HLL.out; omega) BB_1.out.size ?_
        intro g9 c9 u2 ho9 hg9
        have SS_2 := kide (SS_1.out.snoc ho9 hg9 (.inl ⟨rfl, fun x e => by cases e⟩))
        have BB_2 := kide (Below.grown BB_1.out hg9 BB_1.out.size (fun j hj => (SS_1.out.1.lt hj).1))
        rw [HLL.out] at SS_2
        simp only [HLL.out]
        clear ho9 hg9
        have c0_2 : u2.cell? ⟨b2, o2 + i * 2, none⟩ = some (Value.int .i64 pv) := (BB_2.out.cell (p := ⟨b2, o2 + i * 2, none⟩) lb2).trans HC0.out
        have c1_2 : u2.cell? ⟨b2, o2 + i * 2 + 1, none⟩ = some (Value.int .i64 pt) := (BB_2.out.cell (p := ⟨b2, o2 + i * 2 + 1, none⟩) lb2).trans HC1.out
        have hs2 : Hid ((fun uu => uu.cell? ⟨b2, o2 + i * 2, none⟩ = some (Value.int .i64 pv) ∧ uu.cell? ⟨b2, o2 + i * 2 + 1, none⟩ = some (Value.int .i64 pt)) u2) := ⟨c0_2, c1_2⟩
        refine hK _ _ hs2.out ?_
        clear hK K
        try go_simp
        refine tkU (i := 17) (v := Value.slice (some ⟨g9, 0, none⟩) (ll + 1) c9) rfl (Sx.behind (by kernel_rfl) hs2.out) ?_
        try go_simp
        refine wpAnyX_done (by kernel_rfl) ?_ _
        go_wp2_with fail
        go_roundw
        case rel => exact ⟨K, l ++ [⟨⟨pv, pt, (M : Int), 0, []⟩, none, 0⟩], by omega, rfl, by rw [List.length_append, HLL.out]; simp; omega, by rw [HF.out, HFV.out, List.map_append]; simp [segV], SS_2.out, BB_2.out, HNO.out.snoc (fun _ => rfl)⟩
        case measure => simp [intOf]; omega
       ·have e1 : (qv == pv) = false := beq_eq_false_iff_ne.2 hqv
        clear HD hq hqv
        go_wp2_with fail
        go_quiet (fail)
        have hbd := below_drewN (Below.refl wr.heap.size wr) nq
        have HS3 := kide (HSS.out.later hbd)
        have HB3 := kide (HBB.out.trans (hbd.mono HBB.out.size))
        clear hbd
        generalize wr.drewN nq = w3 at *
        go_wp2_with fail
        obtain ⟨M, hM⟩ : ∃ M : Nat, K = i + M := ⟨K - i, by omega⟩
        have hKi : (K : Int) - (i : Int) = (M : Int) := by omega
        have hMw : IntKind.i64.wrap (M : Int) = (M : Int) := by rw [IntKind.wrap_i64]; first | omega | (unfold wrap64; omega)
        have HFV : Hid (formB (ps.drop i) = segV (pv, pt) M :: formB (ps.drop K)) := by
         have h9 := formB_V (k := K) HGP.out (by simp only []; omega) (by have h1 := HRUN.out; have h2 := HZ.out; rw [h2] at h1; rw [h1]; omega)
         rw [show K - i = M by omega] at h9
         exact h9
        have HC0 := kide (HC.out i _ HGP.out).1
        have HC1 := kide (HC.out i _ HGP.out).2
        clear hM HRUN HZ
        refine wp_region_x (SA := fun _ => False) (SB := fun uu => uu.cell? ⟨b2, o2 + i * 2, none⟩ = some (Value.int .i64 pv) ∧ uu.cell? ⟨b2, o2 + i * 2 + 1, none⟩ = some (Value.int .i64 pt)) (k := 999) (by kernel_rfl) ?_
        have hbd : Below w3.heap.size w3 w3.drew := (Below.refl _ _).drew
        have SS_0 := kide (HS3.out.later hbd)
        have BB_0 := kide (HB3.out.trans (hbd.mono HB3.out.size))
        clear hbd HS3 HB3
        generalize w3.drew = u0 at *
        have c0_0 : u0.cell? ⟨b2, o2 + i * 2, none⟩ = some (Value.int .i64 pv) := (BB_0.out.cell (p := ⟨b2, o2 + i * 2, none⟩) lb2).trans HC0.out
        have c1_0 : u0.cell? ⟨b2, o2 + i * 2 + 1, none⟩ = some (Value.int .i64 pt) := (BB_0.out.cell (p := ⟨b2, o2 + i * 2 + 1, none⟩) lb2).trans HC1.out
        have hs0 : Hid ((fun uu => uu.cell? ⟨b2, o2 + i * 2, none⟩ = some (Value.int .i64 pv) ∧ uu.cell? ⟨b2, o2 + i * 2 + 1, none⟩ = some (Value.int .i64 pt)) u0) := ⟨c0_0, c1_0⟩
        try go_simp
        refine tkU (i := 0) (v := Value.slice va ll vc) rfl (Sx.behind (by kernel_rfl) hs0.out) ?_
        try go_simp
        refine tkU (i := 1) (v := Value.slice (some ⟨b2, o2, none⟩) np pc) rfl (Sx.behind (by kernel_rfl) hs0.out) ?_
        try go_simp
        refine tkU (i := 2) (v := Value.int .i64 (i : Int)) rfl (Sx.behind (by kernel_rfl) hs0.out) ?_
        try go_simp
        refine tkU (i := 3) (v := Value.pointer (some ⟨b2, o2 + i * 2, none⟩)) rfl (Sx.behind (by kernel_rfl) hs0.out) ?_
        try go_simp
        refine tkU (i := 4) (v := Value.pointer (some ⟨b2, o2 + i * 2, none⟩)) rfl (Sx.behind (by kernel_rfl) hs0.out) ?_
        try go_simp
        refine tkS (i := 5) (v := Value.int .i64 pv) rfl hs0.out (fun uu hu => by obtain ⟨e0, e1⟩ := hu; go_simp) ?_
        try go_simp
        refine tkU (i := 6) (v := Value.slice (some ⟨b2, o2, none⟩) np pc) rfl (Sx.behind (by kernel_rfl) hs0.out) ?_
        try go_simp
        refine tkU (i := 7) (v := Value.int .i64 (i : Int)) rfl (Sx.behind (by kernel_rfl) hs0.out) ?_
        try go_simp
        refine tkU (i := 8) (v := Value.pointer (some ⟨b2, o2 + i * 2, none⟩)) rfl (Sx.behind (by kernel_rfl) hs0.out) ?_
        try go_simp
        refine tkU (i := 9) (v := Value.pointer (some ⟨b2, o2 + i * 2 + 1, none⟩)) rfl (Sx.behind (by kernel_rfl) hs0.out) ?_
        try go_simp
        refine tkS (i := 10) (v := Value.int .i64 pt) rfl hs0.out (fun uu hu => by obtain ⟨e0, e1⟩ := hu; go_simp) ?_
        try go_simp
        refine tkU (i := 11) (v := Value.int .i64 (K : Int)) rfl (Sx.behind (by kernel_rfl) hs0.out) ?_
        try go_simp
        refine tkU (i := 12) (v := Value.int .i64 (i : Int)) rfl (Sx.behind (by kernel_rfl) hs0.out) ?_
        try go_simp
        refine tkB (T := (fun _ => True)) (i := 13) (v := Value.int .i64 (M : Int)) rfl (by kernel_rfl) (fun _ _ _ h => by first | exact h | exact h.elim) (fun _ _ => trivial) (fun _ _ => trivial) (Sx.behind (by kernel_rfl) hs0.out) (Or.inl ⟨by rfl, fun uu hu => by go_simp; first | done | (rw [hKi]; exact hMw) | rw [hKi, hMw]⟩) ?_
        try go_simp
        refine tkU (i := 14) (v := Value.agg #[.int .i64 pv, .int .i64 pt, .int .i64 ((M : Nat) : Int), .int .i64 0, .slice none 0 0]) rfl (Sx.behind (by kernel_rfl) hs0.out) ?_
        try go_simp
        refine rdX (rs := [15]) (cnB rfl (fun K hK => ?_) AllX.nil)
        go_simp
        have hbx : Below u0.heap.size u0 (u0.alloc (Obj.cells #[.int .i64 pv, .int .i64 pt, .int .i64 ((M : Nat) : Int), .int .i64 0, .slice none 0 0] 73)) := blA _ _
        have SS_1 := kide (SS_0.out.later hbx)
        have BB_1 := kide (BB_0.out.trans (hbx.mono BB_0.out.size))
        have XN := kide (Bz.new u0 #[.int .i64 pv, .int .i64 pt, .int .i64 ((M : Nat) : Int), .int .i64 0, .slice none 0 0] 73)
        obtain ⟨gn, hgn⟩ : ∃ z, u0.heap.size = z := ⟨_, rfl⟩
        rw [hgn] at XN
        simp only [hgn]
        clear hgn hbx
        generalize u0.alloc (Obj.cells #[.int .i64 pv, .int .i64 pt, .int .i64 ((M : Nat) : Int), .int .i64 0, .slice none 0 0] 73) = u1 at *
        have c0_1 : u1.cell? ⟨b2, o2 + i * 2, none⟩ = some (Value.int .i64 pv) := (BB_1.out.cell (p := ⟨b2, o2 + i * 2, none⟩) lb2).trans HC0.out
        have c1_1 : u1.cell? ⟨b2, o2 + i * 2 + 1, none⟩ = some (Value.int .i64 pt) := (BB_1.out.cell (p := ⟨b2, o2 + i * 2 + 1, none⟩) lb2).trans HC1.out
        have hs1 : Hid ((fun uu => uu.cell? ⟨b2, o2 + i * 2, none⟩ = some (Value.int .i64 pv) ∧ uu.cell? ⟨b2, o2 + i * 2 + 1, none⟩ = some (Value.int .i64 pt)) u1) := ⟨c0_1, c1_1⟩
        refine hK _ _ hs1.out ?_
        clear hK K
        try go_simp
        refine rdX (rs := [16]) (cnB rfl (fun K hK => ?_) AllX.nil)
        refine step_appS5 _ rfl _ _ rfl w.heap.size (Value.slice va ll vc) l ⟨⟨pv, pt, (M : Int), 0, []⟩, none, 0⟩ (by first | rfl | simp [Act.eval]) SS_1.out.1 gn 1 (by first | rfl | simp [Act.eval]) (XN.out.cell 0) (XN.out.cell 1) (XN.out.cell 2) (XN.out.cell 3) (XN.out.cell 4) (by have := HLL.out; omega) BB_1.out.size ?_
        intro g9 c9 u2 ho9 hg9
        have SS_2 := kide (SS_1.out.snoc ho9 hg9 (.inl ⟨rfl, fun x e => by cases e⟩))
        have BB_2 := kide (Below.grown BB_1.out hg9 BB_1.out.size (fun j hj => (SS_1.out.1.lt hj).1))
        rw [HLL.out] at SS_2
        simp only [HLL.out]
        clear ho9 hg9
        have c0_2 : u2.cell? ⟨b2, o2 + i * 2, none⟩ = some (Value.int .i64 pv) := (BB_2.out.cell (p := ⟨b2, o2 + i * 2, none⟩) lb2).trans HC0.out
        have c1_2 : u2.cell? ⟨b2, o2 + i * 2 + 1, none⟩ = some (Value.int .i64 pt) := (BB_2.out.cell (p := ⟨b2, o2 + i * 2 + 1, none⟩) lb2).trans HC1.out
        have hs2 : Hid ((fun uu => uu.cell? ⟨b2, o2 + i * 2, none⟩ = some (Value.int .i64 pv) ∧ uu.cell? ⟨b2, o2 + i * 2 + 1, none⟩ = some (Value.int .i64 pt)) u2) := ⟨c0_2, c1_2⟩
        refine hK _ _ hs2.out ?_
        clear hK K
        try go_simp
        refine tkU (i := 17) (v := Value.slice (some ⟨g9, 0, none⟩) (ll + 1) c9) rfl (Sx.behind (by kernel_rfl) hs2.out) ?_
        try go_simp
        refine wpAnyX_done (by kernel_rfl) ?_ _
        go_wp2_with fail
        go_roundw
        case rel => exact ⟨K, l ++ [⟨⟨pv, pt, (M : Int), 0, []⟩, none, 0⟩], by omega, rfl, by rw [List.length_append, HLL.out]; simp; omega, by rw [HF.out, HFV.out, List.map_append]; simp [segV], SS_2.out, BB_2.out, HNO.out.snoc (fun _ => rfl)⟩
        case measure => simp [intOf]; omega
     ·have HZ : Hid (runV (pv, rt) (ps.drop K) = 0) := by
       show _ = _
       rw [List.drop_eq_nil_of_le (by have := HN.out; omega)]
       rfl
      have k0 : ¬ (K : Int) < (np : Int) := by omega
      go_wp2_with fail
      go_quiet (fail)
      have hbd := below_drewN (Below.refl wr.heap.size wr) nq
      have HS3 := kide (HSS.out.later hbd)
      have HB3 := kide (HBB.out.trans (hbd.mono HBB.out.size))
      clear hbd
      generalize wr.drewN nq = w3 at *
      go_wp2_with fail
      obtain ⟨M, hM⟩ : ∃ M : Nat, K = i + M := ⟨K - i, by omega⟩
      have hKi : (K : Int) - (i : Int) = (M : Int) := by omega
      have hMw : IntKind.i64.wrap (M : Int) = (M : Int) := by rw [IntKind.wrap_i64]; first | omega | (unfold wrap64; omega)
      have HFV : Hid (formB (ps.drop i) = segV (pv, pt) M :: formB (ps.drop K)) := by
       have h9 := formB_V (k := K) HGP.out (by simp only []; omega) (by have h1 := HRUN.out; have h2 := HZ.out; rw [h2] at h1; rw [h1]; omega)
       rw [show K - i = M by omega] at h9
       exact h9
      have HC0 := kide (HC.out i _ HGP.out).1
      have HC1 := kide (HC.out i _ HGP.out).2
      clear hM HRUN HZ
      refine wp_region_x (SA := fun _ => False) (SB := fun uu => uu.cell? ⟨b2, o2 + i * 2, none⟩ = some (Value.int .i64 pv) ∧ uu.cell? ⟨b2, o2 + i * 2 + 1, none⟩ = some (Value.int .i64 pt)) (k := 999) (by kernel_rfl) ?_
      have hbd : Below w3.heap.size w3 w3.drew := (Below.refl _ _).drew
      have SS_0 := kide (HS3.out.later hbd)
      have BB_0 := kide (HB3.out.trans (hbd.mono HB3.out.size))
      clear hbd HS3 HB3
      generalize w3.drew = u0 at *
      have c0_0 : u0.cell? ⟨b2, o2 + i * 2, none⟩ = some (Value.int .i64 pv) := (BB_0.out.cell (p := ⟨b2, o2 + i * 2, none⟩) lb2).trans HC0.out
      have c1_0 : u0.cell? ⟨b2, o2 + i * 2 + 1, none⟩ = some (Value.int .i64 pt) := (BB_0.out.cell (p := ⟨b2, o2 + i * 2 + 1, none⟩) lb2).trans HC1.out
      have hs0 : Hid ((fun uu => uu.cell? ⟨b2, o2 + i * 2, none⟩ = some (Value.int .i64 pv) ∧ uu.cell? ⟨b2, o2 + i * 2 + 1, none⟩ = some (Value.int .i64 pt)) u0) := ⟨c0_0, c1_0⟩
      try go_simp
      refine tkU (i := 0) (v := Value.slice va ll vc) rfl (Sx.behind (by kernel_rfl) hs0.out) ?_
      try go_simp
      refine tkU (i := 1) (v := Value.slice (some ⟨b2, o2, none⟩) np pc) rfl (Sx.behind (by kernel_rfl) hs0.out) ?_
      try go_simp
      refine tkU (i := 2) (v := Value.int .i64 (i : Int)) rfl (Sx.behind (by kernel_rfl) hs0.out) ?_
      try go_simp
      refine tkU (i := 3) (v := Value.pointer (some ⟨b2, o2 + i * 2, none⟩)) rfl (Sx.behind (by kernel_rfl) hs0.out) ?_
      try go_simp
      refine tkU (i := 4) (v := Value.pointer (some ⟨b2, o2 + i * 2, none⟩)) rfl (Sx.behind (by kernel_rfl) hs0.out) ?_
      try go_simp
      refine tkS (i := 5) (v := Value.int .i64 pv) rfl hs0.out (fun uu hu => by obtain ⟨e0, e1⟩ := hu; go_simp) ?_
      try go_simp
      refine tkU (i := 6) (v := Value.slice (some ⟨b2, o2, none⟩) np pc) rfl (Sx.behind (by kernel_rfl) hs0.out) ?_
      try go_simp
      refine tkU (i := 7) (v := Value.int .i64 (i : Int)) rfl (Sx.behind (by kernel_rfl) hs0.out) ?_
      try go_simp
      refine tkU (i := 8) (v := Value.pointer (some ⟨b2, o2 + i * 2, none⟩)) rfl (Sx.behind (by kernel_rfl) hs0.out) ?_
      try go_simp
      refine tkU (i := 9) (v := Value.pointer (some ⟨b2, o2 + i * 2 + 1, none⟩)) rfl (Sx.behind (by kernel_rfl) hs0.out) ?_
      try go_simp
      refine tkS (i := 10) (v := Value.int .i64 pt) rfl hs0.out (fun uu hu => by obtain ⟨e0, e1⟩ := hu; go_simp) ?_
      try go_simp
      refine tkU (i := 11) (v := Value.int .i64 (K : Int)) rfl (Sx.behind (by kernel_rfl) hs0.out) ?_
      try go_simp
      refine tkU (i := 12) (v := Value.int .i64 (i : Int)) rfl (Sx.behind (by kernel_rfl) hs0.out) ?_
      try go_simp
      refine tkB (T := (fun _ => True)) (i := 13) (v := Value.int .i64 (M : Int)) rfl (by kernel_rfl) (fun _ _ _ h => by first | exact h | exact h.elim) (fun _ _ => trivial) (fun _ _ => trivial) (Sx.behind (by kernel_rfl) hs0.out) (Or.inl ⟨by rfl, fun uu hu => by go_simp; first | done | (rw [hKi]; exact hMw) | rw [hKi, hMw]⟩) ?_
      try go_simp
      refine tkU (i := 14) (v := Value.agg #[.int .i64 pv, .int .i64 pt, .int .i64 ((M : Nat) : Int), .int .i64 0, .slice none 0 0]) rfl (Sx.behind (by kernel_rfl) hs0.out) ?_
      try go_simp
      refine rdX (rs := [15]) (cnB rfl (fun K hK => ?_) AllX.nil)
      go_simp
      have hbx : Below u0.heap.size u0 (u0.alloc (Obj.cells #[.int .i64 pv, .int .i64 pt, .int .i64 ((M : Nat) : Int), .int .i64 0, .slice none 0 0] 73)) := blA _ _
      have SS_1 := kide (SS_0.out.later hbx)
      have BB_1 := kide (BB_0.out.trans (hbx.mono BB_0.out.size))
      have XN := kide (Bz.new u0 #[.int .i64 pv, .int .i64 pt, .int .i64 ((M : Nat) : Int), .int .i64 0, .slice none 0 0] 73)
      obtain ⟨gn, hgn⟩ : ∃ z, u0.heap.size = z := ⟨_, rfl⟩
      rw [hgn] at XN
      simp only [hgn]
      clear hgn hbx
      generalize u0.alloc (Obj.cells #[.int .i64 pv, .int .i64 pt, .int .i64 ((M : Nat) : Int), .int .i64 0, .slice none 0 0] 73) = u1 at *
      have c0_1 : u1.cell? ⟨b2, o2 + i * 2, none⟩ = some (Value.int .i64 pv) := (BB_1.out.cell (p := ⟨b2, o2 + i * 2, none⟩) lb2).trans HC0.out
      have c1_1 : u1.cell? ⟨b2, o2 + i * 2 + 1, none⟩ = some (Value.int .i64 pt) := (BB_1.out.cell (p := ⟨b2, o2 + i * 2 + 1, none⟩) lb2).trans HC1.out
      have hs1 : Hid ((fun uu => uu.cell? ⟨b2, o2 + i * 2, none⟩ = some (Value.int .i64 pv) ∧ uu.cell? ⟨b2, o2 + i * 2 + 1, none⟩ = some (Value.int .i64 pt)) u1) := ⟨c0_1, c1_1⟩
      refine hK _ _ hs1.out ?_
      clear hK K
      try go_simp
      refine rdX (rs := [16]) (cnB rfl (fun K hK => ?_) AllX.nil)
      refine step_appS5 _ rfl _ _ rfl w.heap.size (Value.slice va ll vc) l ⟨⟨pv, pt, (M : Int), 0, []⟩, none, 0⟩ (by first | rfl | simp [Act.eval]) SS_1.out.1 gn 1 (by first | rfl | simp [Act.eval]) (XN.out.cell 0) (XN.out.cell 1) (XN.out.cell 2) (XN.out.cell 3) (XN.out.cell 4) (by have := HLL.out; omega) BB_1.out.size ?_
      intro g9 c9 u2 ho9 hg9
      have SS_2 := kide (SS_1.out.snoc ho9 hg9 (.inl ⟨rfl, fun x e => by cases e⟩))
      have BB_2 := kide (Below.grown BB_1.out hg9 BB_1.out.size (fun j hj => (SS_1.out.1.lt hj).1))
      rw [HLL.out] at SS_2
      simp only [HLL.out]
      clear ho9 hg9
      have c0_2 : u2.cell? ⟨b2, o2 + i * 2, none⟩ = some (Value.int .i64 pv) := (BB_2.out.cell (p := ⟨b2, o2 + i * 2, none⟩) lb2).trans HC0.out
      have c1_2 : u2.cell? ⟨b2, o2 + i * 2 + 1, none⟩ = some (Value.int .i64 pt) := (BB_2.out.cell (p := ⟨b2, o2 + i * 2 + 1, none⟩) lb2).trans HC1.out
      have hs2 : Hid ((fun uu => uu.cell? ⟨b2, o2 + i * 2, none⟩ = some (Value.int .i64 pv) ∧ uu.cell? ⟨b2, o2 + i * 2 + 1, none⟩ = some (Value.int .i64 pt)) u2) := ⟨c0_2, c1_2⟩
      refine hK _ _ hs2.out ?_
      clear hK K
      try go_simp
      refine tkU (i := 17) (v := Value.slice (some ⟨g9, 0, none⟩) (ll + 1) c9) rfl (Sx.behind (by kernel_rfl) hs2.out) ?_
      try go_simp
      refine wpAnyX_done (by kernel_rfl) ?_ _
      go_wp2_with fail
      go_roundw
      case rel => exact ⟨K, l ++ [⟨⟨pv, pt, (M : Int), 0, []⟩, none, 0⟩], by omega, rfl, by rw [List.length_append, HLL.out]; simp; omega, by rw [HF.out, HFV.out, List.map_append]; simp [segV], SS_2.out, BB_2.out, HNO.out.snoc (fun _ => rfl)⟩
      case measure => simp [intOf]; omega
  ·have e : i = np := by omega
   subst e
   have HE : Hid (l.map Sg.ct = formB ps) := by
    show _ = _
    rw [HF.out, List.drop_eq_nil_of_le (by have := HN.out; omega), formB_nil, List.append_nil]
   have HD : Hid (decide (l.length ≤ 2000) = decide ((ll : Int) ≤ 2000)) := by
    show _ = _
    rw [HLL.out]
    by_cases h : ll ≤ 2000
    ·rw [decide_eq_true h, decide_eq_true (by omega)]
    ·rw [decide_eq_false h, decide_eq_false (by omega)]
   clear hbel
   go_wp2_with fail
   exact bodyPost_ret (v := .tuple #[.slice va ll vc, .bool (decide ((ll : Int) ≤ 2000))]) (by simp [results, Tryz.results31, go_sem]) rfl ⟨_, l, by rw [HD.out], HE.out, HS.out, HB.out, HNO.out⟩

theorem OS5.low {w : World} {B B' : Nat} {v : Value} {l : List Sg} (h : OS5 w B v l) (hB : B' ≤ B) : OS5 w B' v l := by
 obtain ⟨h1, h2⟩ := h
 refine ⟨h1, ?_⟩
 rcases h2 with h2 | ⟨g, cap, cur, rfl, hg, hh, r⟩
 ·exact .inl h2
 ·exact .inr ⟨g, cap, cur, rfl, by omega, hh, r⟩
def okF (s : Sc) : Prop := in64 s.v ∧ in64 s.lo ∧ in64 s.wd ∧ in64 s.bw ∧ s.ws.length ≤ 1048576 ∧ ∀ y ∈ s.ws, y < 18446744073709551616
theorem pk_le {l : List Nat} (h : l.length ≤ 4096) : (pack l).length ≤ 1048576 := by rw [pack_len]; omega
theorem formB_ok : ∀ (n : Nat) (l : List Ib), l.length ≤ n → l.length ≤ 4096 → (∀ p ∈ l, in64 p.1 ∧ in64 p.2) → ∀ s ∈ formB l, okF s
 | 0, l, h, _, _, s, hs => by
  have : l = [] := List.eq_nil_of_length_eq_zero (by omega)
  subst this
  rw [formB_nil] at hs
  cases hs
 | n + 1, [], _, _, _, s, hs => by rw [formB_nil] at hs; cases hs
 | n + 1, p :: t, h, h2, hp, s, hs => by
  have hlen : (p :: t).length = t.length + 1 := rfl
  rw [formB_cons] at hs
  split at hs
  ·rcases List.mem_cons.1 hs with rfl | hs
   ·have hk : ((p :: t).take (runC t + 1)).length ≤ 4096 := by rw [List.length_take]; omega
    unfold segC
    refine ⟨by unfold in64; simp, by unfold in64; simp, by unfold in64; simp only []; omega, by unfold in64; simp only []; omega, pk_le (by rw [List.length_map]; exact hk), pack_lt _⟩
   ·exact formB_ok n _ (by rw [List.length_drop]; omega) (by rw [List.length_drop]; omega) (fun q hq => hp q (List.mem_cons_of_mem _ (List.mem_of_mem_drop hq))) s hs
  ·rcases List.mem_cons.1 hs with rfl | hs
   ·have hk := runV_le t p
    unfold segV
    exact ⟨(hp p (by simp)).1, (hp p (by simp)).2, by unfold in64; simp only []; omega, by unfold in64; simp, by simp, by simp⟩
   ·exact formB_ok n _ (by rw [List.length_drop]; omega) (by rw [List.length_drop]; omega) (fun q hq => hp q (List.mem_cons_of_mem _ (List.mem_of_mem_drop hq))) s hs
theorem tcEq_no {x y : Tc} (h : x ≠ y) : tcEq x y = false := by
 cases e : tcEq x y with
 | false => rfl
 | true => exact absurd (tcEq_iff.1 e) h
set_option maxHeartbeats 4000000 in
set_option maxRecDepth 100000 in
theorem l3SameNode_any (x y : Tc) (wa wb ka kb : Option Addr) (wc wd kc kd : Nat) (w : World) (hx : Rd w wa x.ws) (hy : Rd w wb y.ws) (hk : RdI w ka x.ks) (hl : RdI w kb y.ks) :
  Calls Tryz.prog 56 #[.agg #[.int .i64 x.op, .int .i64 x.vr, .int .i64 x.a, .int .i64 x.b, .int .i64 x.bw, .slice wa x.ws.length wc, .slice ka x.ks.length kc], .agg #[.int .i64 y.op, .int .i64 y.vr, .int .i64 y.a, .int .i64 y.b, .int .i64 y.bw, .slice wb y.ws.length wd, .slice kb y.ks.length kd]] w fun e w' => e = .returned (.bool (tcEq x y)) ∧ Below w.heap.size w w' := by
 have s0 := Bb.start w (.cells #[.int .i64 x.op, .int .i64 x.vr, .int .i64 x.a, .int .i64 x.b, .int .i64 x.bw, .slice wa x.ws.length wc, .slice ka x.ks.length kc] 67) (.cells #[.int .i64 y.op, .int .i64 y.vr, .int .i64 y.a, .int .i64 y.b, .int .i64 y.bw, .slice wb y.ws.length wd, .slice kb y.ks.length kd] 67)
 have HS := kide (l3Same_any x.bw wa wc x.ws y.bw wb wd y.ws _ (hx.later s0.below) (hy.later s0.below))
 have HKX := kide (fun u (hu : Below w.heap.size w u) => hk.later hu)
 have HKY := kide (fun u (hu : Below w.heap.size w u) => hl.later hu)
 have hl1 := hk.1
 have hl2 := hl.1
 have hl3 := hx.1
 have hl4 := hy.1
 have S0 := kide s0
 have c1 := s0.one
 have c2 := s0.two
 have g0 := c1 0; have g1 := c1 1; have g2 := c1 2; have g3 := c1 3; have g4 := c1 4; have g5 := c1 5; have g6 := c1 6
 have f0 := c2 0; have f1 := c2 1; have f2 := c2 2; have f3 := c2 3; have f4 := c2 4; have f5 := c2 5; have f6 := c2 6
 simp at g0 g1 g2 g3 g4 g5 g6 f0 f1 f2 f3 f4 f5 f6
 clear hx hy hk hl s0 c1 c2
 by_cases eop : x.op = y.op
 ·have nop : (x.op != y.op) = false := by simp [eop]
  by_cases evr : x.vr = y.vr
  ·have nvr : (x.vr != y.vr) = false := by simp [evr]
   by_cases ea : x.a = y.a
   ·have na : (x.a != y.a) = false := by simp [ea]
    by_cases eb : x.b = y.b
    ·have nb : (x.b != y.b) = false := by simp [eb]
     cases hbits : (decide (x.bw = y.bw) && decide (x.ws = y.ws)) with
     | false =>
      rw [tcEq_no (fun e => by rw [e] at hbits; simp at hbits)]
      rw [hbits] at HS
      clear hbits eop evr ea eb
      go_enter Tryz.func56, Tryz.ntmps56
      go_wp2_with fail
      refine Calls.mono HS.out ?_
      rintro e w1 ⟨rfl, hb1⟩
      have s1 := S0.out.next hb1
      go_wp2_with fail
      go_ret
      exact ⟨rfl, s1.below⟩
     | true =>
      rw [hbits] at HS
      have HEB := kide hbits
      clear hbits
      by_cases elen : x.ks.length = y.ks.length
      ·have nl : ((x.ks.length : Int) != (y.ks.length : Int)) = false := by simp [elen]
       have HZ : Hid (tcEq x y = decide (x.ks = y.ks)) := by
        show _ = _
        have h9 := HEB.out
        simp only [Bool.and_eq_true, decide_eq_true_eq] at h9
        simp [tcEq, eop, evr, ea, eb, h9.1, h9.2]
       generalize tcEq x y = Z at HZ ⊢
       have HLE := kide elen
       clear elen eop evr ea eb HEB
       go_enter Tryz.func56, Tryz.ntmps56
       go_wp2_with fail
       refine Calls.mono HS.out ?_
       rintro e w1 ⟨rfl, hb1⟩
       have s1 := S0.out.next hb1
       have k6 := s1.one 6
       have m6 := s1.two 6
       simp at k6 m6
       have S1 := kide s1
       clear hb1 HS S0 g0 g1 g2 g3 g4 g5 g6 f0 f1 f2 f3 f4 f5 f6 s1
       go_wp2_with fail
       clear k6 m6 nl nop nvr na nb
       go_loopw [5] (fun i wr => ∃ k : Nat, k ≤ x.ks.length ∧ i = .int .i64 k ∧ (∀ j, j < k → x.ks.getD j 0 = y.ks.getD j 0) ∧ Bb w (.cells #[.int .i64 x.op, .int .i64 x.vr, .int .i64 x.a, .int .i64 x.b, .int .i64 x.bw, .slice wa x.ws.length wc, .slice ka x.ks.length kc] 67) (.cells #[.int .i64 y.op, .int .i64 y.vr, .int .i64 y.a, .int .i64 y.b, .int .i64 y.bw, .slice wb y.ws.length wd, .slice kb y.ks.length kd] 67) wr) (fun i _ => x.ks.length - (intOf i).toNat)
       case atStart => exact ⟨0, Nat.zero_le _, rfl, fun j h => by omega, S1.out⟩
       case round =>
        clear S1
        obtain ⟨k, hk, rfl, heq, s3⟩ := hrel
        have g6 := s3.one 6
        have f6 := s3.two 6
        simp at g6 f6
        have S3 := kide s3
        have HEQ := kide heq
        by_cases hjx : k < x.ks.length
        ·have hji : (k : Int) < (x.ks.length : Int) := by omega
         have hji2 : (k : Int) < (y.ks.length : Int) := by have := HLE.out; omega
         obtain ⟨-, -, hn | ⟨g, o, rfl, hc⟩⟩ := HKX.out wr s3.below
         ·rw [hn] at hjx; simp at hjx
         obtain ⟨-, -, hn | ⟨g', o', rfl, hc'⟩⟩ := HKY.out wr s3.below
         ·have h9 := HLE.out; rw [hn, List.length_nil] at h9; omega
         have hx1 := hc k hjx
         have hy1 := hc' k (by have := HLE.out; omega)
         obtain ⟨u, hu⟩ : ∃ u, x.ks.getD k 0 = u := ⟨_, rfl⟩
         obtain ⟨v, hv⟩ : ∃ v, y.ks.getD k 0 = v := ⟨_, rfl⟩
         rw [hu] at hx1
         rw [hv] at hy1
         have HU := kide hu
         have HV := kide hv
         clear hc hc' hu hv heq s3
         by_cases h1 : u = v
         ·subst h1
          have hne : (u != u) = false := by simp
          go_wp2_with fail
          go_quiet (fail)
          go_wp2_with fail
          go_roundw
          case rel =>
           refine ⟨k + 1, by omega, by go_num, fun i h2 => ?_, S3.out.next (below_drewN (Below.refl _ _) _)⟩
           by_cases hij : i = k
           ·subst hij
            rw [HU.out, HV.out]
           ·exact HEQ.out i (by omega)
          case measure => first | (simp [intOf]; done) | (simp [intOf]; omega)
         ·have hne : (u != v) = true := by simp [h1]
          have HF : Hid (Z = false) := by
           show _ = _
           rw [HZ.out]
           simp only [decide_eq_false_iff_not]
           intro he
           apply h1
           rw [← HU.out, ← HV.out, he]
          clear h1
          go_wp2_with fail
          go_quiet (fail)
          go_wp2_with fail
          go_ret
          exact ⟨ret_bool HF.out.symm, S3.out.below.trans (below_drewN (Below.refl _ _) _)⟩
        ·have HT : Hid (Z = true) := by
          show _ = _
          rw [HZ.out]
          simp only [decide_eq_true_eq]
          refine List.ext_getElem HLE.out (fun j h1 h2 => ?_)
          have := heq j (by omega)
          simpa [List.getD, h1, h2] using this
         clear heq s3
         go_wp2_with fail
         go_ret
         exact ⟨ret_bool HT.out.symm, S3.out.below⟩
      ·have nl : ((x.ks.length : Int) != (y.ks.length : Int)) = true := by simp; omega
       rw [tcEq_no (fun e => by rw [e] at elen; exact elen rfl)]
       clear elen eop evr ea eb
       go_enter Tryz.func56, Tryz.ntmps56
       go_wp2_with fail
       refine Calls.mono HS.out ?_
       rintro e w1 ⟨rfl, hb1⟩
       have s1 := S0.out.next hb1
       have k6 := s1.one 6
       have m6 := s1.two 6
       simp at k6 m6
       go_wp2_with fail
       go_ret
       exact ⟨rfl, s1.below⟩
    ·have nb : (x.b != y.b) = true := by simp [eb]
     rw [tcEq_no (fun e => eb (by rw [e]))]
     clear eb eop evr ea HS
     go_enter Tryz.func56, Tryz.ntmps56
     go_wp2_with fail
     go_ret
     exact ⟨rfl, S0.out.below⟩
   ·have na : (x.a != y.a) = true := by simp [ea]
    rw [tcEq_no (fun e => ea (by rw [e]))]
    clear ea eop evr HS
    go_enter Tryz.func56, Tryz.ntmps56
    go_wp2_with fail
    go_ret
    exact ⟨rfl, S0.out.below⟩
  ·have nvr : (x.vr != y.vr) = true := by simp [evr]
   rw [tcEq_no (fun e => evr (by rw [e]))]
   clear evr eop HS
   go_enter Tryz.func56, Tryz.ntmps56
   go_wp2_with fail
   go_ret
   exact ⟨rfl, S0.out.below⟩
 ·have nop : (x.op != y.op) = true := by simp [eop]
  rw [tcEq_no (fun e => eop (by rw [e]))]
  clear eop  HS
  go_enter Tryz.func56, Tryz.ntmps56
  go_wp2_with fail
  go_ret
  exact ⟨rfl, S0.out.below⟩

end Go.Proofs.YtnpjgoklpaigjaaGreatDoor
