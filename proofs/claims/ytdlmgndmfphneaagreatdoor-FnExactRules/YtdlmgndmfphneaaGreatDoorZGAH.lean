/- Several texts in one. -/
import Derived.Test.YtdlmgndmfphneaaGreatDoorZGAG

/- The program's width of a node. -/
namespace Go.Proofs.YtdlmgndmfphneaaGreatDoor
set_option linter.unusedVariables false
set_option linter.unusedSimpArgs false
open Go.RowKit

theorem kwR_len (wide ks : List Int) : (kwR wide ks).length = ks.length := by simp [kwR]
theorem kwR_get {wide ks : List Int} {k : Nat} (h : k < ks.length) : (kwR wide ks).getD k 0 = wide.getD (ks.getD k 0).toNat 0 := by simp [kwR, List.getD, h]

set_option maxHeartbeats 4000000 in
set_option maxRecDepth 100000 in
theorem nodeWidth_any (a : Option Addr) (c : Nat) (ds : List Dc) (n : Tc) (wa ka ya : Option Addr) (wc kc yc : Nat) (wide : List Int) (w : World) (hr : RdD w a ds) (hw : Rd w wa n.ws) (hk : RdI w ka n.ks) (hy : RdI w ya wide) (hG : GF w)
    (hwd : ∀ x ∈ wide, 1 ≤ x ∧ x ≤ 4096) (hkr : kidsR wide.length n.ks = true) (hf : fldR n = true) :
    Calls Tryz.prog 122 #[.slice a ds.length c, .agg #[.int .i64 n.op, .int .i64 n.vr, .int .i64 n.a, .int .i64 n.b, .int .i64 n.bw, .slice wa n.ws.length wc, .slice ka n.ks.length kc], .slice ya wide.length yc] w fun e w' => e = .returned (.tuple #[.int .i64 (nodR ds n (kwR wide n.ks)).1, .int .i64 (nodR ds n (kwR wide n.ks)).2]) ∧ Below w.heap.size w w' := by
  have hop := fldR_op hf
  have hl1 := hr.1
  have hl2 := hk.1
  have hl3 := hy.1
  have hlw := hw.1
  have hkb := kids_get hwd hkr
  have HKB : Hid (∀ y ∈ kwR wide n.ks, 1 ≤ y ∧ y ≤ 4096) := fun y hy' => by
    obtain ⟨k, hk', rfl⟩ := List.mem_map.1 hy'
    exact hkb k hk'
  have HKI : Hid (∀ k, k < n.ks.length → 0 ≤ n.ks.getD k 0 ∧ n.ks.getD k 0 < (wide.length : Int)) := fun k hk' => by
    simp only [kidsR, List.all_eq_true, decide_eq_true_eq] at hkr
    have := hkr _ (List.getElem_mem hk')
    simp [List.getD, hk']
    omega
  have HRD := kide (fun u (hu : Below w.heap.size w u) => hr.later hu)
  have HRW := kide (fun u (hu : Below w.heap.size w u) => hw.later hu)
  have HRK := kide (fun u (hu : Below w.heap.size w u) => hk.later hu)
  have HRY := kide (fun u (hu : Below w.heap.size w u) => hy.later hu)
  have HG := kide (fun u (hu : Below w.heap.size w u) => hG.later hu)
  have HF := kide hf
  generalize hV : nodR ds n (kwR wide n.ks) = V
  have HV := kide hV
  clear hV
  have hmk := fun kl kc w => run_make_row' (P := Tryz.prog) 28 2 (.int .i64 0) 8 Tryz.underlying28 Tryz.infoI64 rfl kl kc n.ks.length (by omega) (by omega) w
  obtain ⟨op, vr, A, B, bw, ws, ks⟩ := n
  simp only [] at hmk HKB HKI HRW HRK HF HV hop hl2 hlw ⊢
  clear hr hw hk hy hG hkr hf hkb
  obtain ⟨wl, hwl⟩ : ∃ m, ws.length = m := ⟨_, rfl⟩
  rw [hwl] at hlw ⊢
  have HWL := kide hwl
  clear hwl
  obtain ⟨kl, hkl⟩ : ∃ m, ks.length = m := ⟨_, rfl⟩
  rw [hkl] at hl2 hmk HKI ⊢
  have HKL := kide hkl
  clear hkl
  have s0 := St.start w (Obj.cells #[Value.int .i64 op, Value.int .i64 vr, Value.int .i64 A, Value.int .i64 B, Value.int .i64 bw, Value.slice wa wl wc, Value.slice ka kl kc] 63)
  go_enter Tryz.func122, Tryz.ntmps122
  go_wp2_with fail
  go_loopw [18] (fun i wr => ∃ k : Nat, k ≤ kl ∧ i = .int .i64 k ∧ OwnI wr (w.heap.size + 1) ((kwR wide ks).take k ++ List.replicate (kl - k) 0) ∧ St w (Obj.cells #[Value.int .i64 op, Value.int .i64 vr, Value.int .i64 A, Value.int .i64 B, Value.int .i64 bw, Value.slice wa wl wc, Value.slice ka kl kc] 63) wr) (fun i _ => kl - (intOf i).toNat)
  case atStart =>
    refine ⟨0, Nat.zero_le _, rfl, ?_, ?_⟩
    · unfold OwnI
      have := heap_alloc_new (w.alloc (Obj.cells #[Value.int .i64 op, Value.int .i64 vr, Value.int .i64 A, Value.int .i64 B, Value.int .i64 bw, Value.slice wa wl wc, Value.slice ka kl kc] 63)) (.cells (madeCells #[Value.int .i64 0] kl) 2)
      simp only [World.size_alloc] at this
      rw [this, i64s_made]
      rfl
    · exact s0.next ((Below.refl _ _).alloc (Nat.le_refl _) _)
  case round =>
    obtain ⟨k, hk, rfl, hown, s1⟩ := hrel
    by_cases hlt : k < kl
    · obtain ⟨-, -, h | ⟨b, o, rfl, hc⟩⟩ := HRK.out wr s1.below
      · have := HKL.out; subst h; simp at this; omega
      have hkk := HKI.out k hlt
      have hp0 := hc k (by rw [HKL.out]; exact hlt)
      obtain ⟨j, hj, hjl⟩ : ∃ j : Nat, ks.getD k 0 = (j : Int) ∧ j < wide.length := ⟨(ks.getD k 0).toNat, by omega, by omega⟩
      rw [hj] at hp0
      obtain ⟨-, -, h | ⟨b2, o2, rfl, hc2⟩⟩ := HRY.out wr s1.below
      · subst h; simp at hjl
      have q0 := hc2 j hjl
      have hget : (kwR wide ks).getD k 0 = wide.getD j 0 := by
        rw [kwR_get (by rw [HKL.out]; exact hlt), hj, Int.toNat_natCast]
      have HT := kide (take_setI (kwR wide ks) k (by rw [kwR_len, HKL.out]; exact hlt))
      rw [kwR_len, HKL.out, hget] at HT
      have hcg := hown.cell (i := k) (by simp [kwR_len, HKL.out]; omega)
      have hfg := hown.free k
      generalize wide.getD j 0 = y at *
      have HO := kide (hown.put k y)
      generalize ((kwR wide ks).take k ++ List.replicate (kl - k) 0).getD k 0 = z at hcg
      have hki : (k : Int) < (kl : Int) := by omega
      have hji : (j : Int) < (wide.length : Int) := by omega
      clear hc hc2 hown hmk s0 hget hj hkk
      go_wp2_with fail
      go_roundw
      case rel =>
        have h := HO.out
        rw [HT.out] at h
        exact ⟨k + 1, by omega, by go_num, h, Below.setCell s1 (Nat.le_refl _) _⟩
      case measure => simp [intOf]; omega
    · have e : k = kl := by omega
      rw [e] at hown
      have HO : Hid (OwnI wr (w.heap.size + 1) (kwR wide ks)) := by
        have h := hown
        rw [List.take_of_length_le (by rw [kwR_len, HKL.out]; omega)] at h
        show OwnI _ _ _
        simpa using h
      have g0 := s1.cell 0
      have g1 := s1.cell 1
      have g2 := s1.cell 2
      have g3 := s1.cell 3
      have g4 := s1.cell 4
      have g5 := s1.cell 5
      have g6 := s1.cell 6
      simp at g0 g1 g2 g3 g4 g5 g6
      clear hown s0 hmk hlt hk
      obtain e := e.symm
      subst e
      rcases op_cases hop.1 hop.2 with rfl | rfl | rfl | rfl | rfl | rfl | rfl | rfl | rfl
      · by_cases hv : 0 ≤ vr ∧ vr < (ds.length : Int)
        · obtain ⟨k, rfl, hk⟩ : ∃ k : Nat, vr = (k : Int) ∧ k < ds.length := ⟨vr.toNat, by omega, by omega⟩
          obtain ⟨-, -, h | ⟨b, o, rfl, hc⟩⟩ := HRD.out wr s1.below
          · subst h; simp at hk
          obtain ⟨⟨s', x⟩, hd⟩ : ∃ d, ds[k]? = some d := ⟨_, List.getElem?_eq_getElem hk⟩
          obtain ⟨c0, c1⟩ := hc k _ hd
          simp only [] at c0 c1
          have hP : bndR x = V := by
            have hde : ds.getD k (.empty, 0) = (s', x) := by rw [List.getD_eq_getElem?_getD, hd]; rfl
            rw [← HV.out]
            simp only [nodR, if_true, if_pos hv, Int.toNat_natCast, hde]
          have HOP := kide (opOf_var (some ⟨b, o, none⟩) ds.length c (k : Int) A B bw wa ka wl wc kl kc wr b o k s' x rfl rfl hk hl1 c0 c1)
          clear hc hd c0 c1 hv
          go_wp2_with fail
          refine Calls.mono HOP.out ?_
          rintro e w2 ⟨rfl, hb2⟩
          have s2 := s1.next hb2
          clear hb2 g0 g1 g2 g3 g4 g5 g6
          have HM := kide (varWidth_any s' x (some ⟨w.heap.size + 1, 0, none⟩) kl kl w2)
          rw [hP] at HM
          clear hP
          go_wp2_with fail
          refine Calls.mono HM.out ?_
          rintro e w3 ⟨rfl, hb3⟩
          go_wp2_with fail
          go_returns
          exact ⟨rfl, s2.below.trans (hb3.mono s2.below.size)⟩
        · have hP : bndR 0 = V := by
            rw [← HV.out]
            simp [nodR, hv]
            simp [bndR]
          have HOP := kide (opOf_off a ds.length c vr A B bw wa ka wl wc kl kc wr (by omega) hl1)
          clear hv
          go_wp2_with fail
          refine Calls.mono HOP.out ?_
          rintro e w2 ⟨rfl, hb2⟩
          have s2 := s1.next hb2
          clear hb2 g0 g1 g2 g3 g4 g5 g6
          have HM := kide (varWidth_any .empty 0 (some ⟨w.heap.size + 1, 0, none⟩) kl kl w2)
          rw [hP] at HM
          clear hP
          go_wp2_with fail
          refine Calls.mono HM.out ?_
          rintro e w3 ⟨rfl, hb3⟩
          go_wp2_with fail
          go_returns
          exact ⟨rfl, s2.below.trans (hb3.mono s2.below.size)⟩
      · go_wp2_with fail
        refine Calls.mono (opOf_bits a ds.length c vr A B bw wa ka wl wc kl kc wr) ?_
        rintro e w2 ⟨rfl, hb2⟩
        have s2 := s1.next hb2
        clear hb2 g0 g1 g2 g3 g4 g5 g6
        have hP : (if rightB bw ws = true then (bw, 0) else ((0 : Int), (15 : Int))) = V := by rw [← HV.out]; simp [nodR]
        have HM := kide (bitsWidth_any bw wa wc ws (some ⟨w.heap.size + 1, 0, none⟩) kl kl w2 (HRW.out w2 s2.below))
        rw [HWL.out] at HM
        rw [hP] at HM
        clear hP
        go_wp2_with fail
        refine Calls.mono HM.out ?_
        rintro e w3 ⟨rfl, hb3⟩
        go_wp2_with fail
        go_returns
        exact ⟨rfl, s2.below.trans (hb3.mono s2.below.size)⟩
      · have hk1 : kl ≤ 4096 := by
          have h := HF.out
          simp only [fldR, fldT, tabR] at h
          simp [HKL.out] at h
          omega
        have HOL := kide HO.out.lt
        go_wp2_with fail
        refine Calls.mono (opOf_cat a ds.length c vr A B bw wa ka wl wc kl kc wr) ?_
        rintro e w2 ⟨rfl, hb2⟩
        have s2 := s1.next hb2
        have HO2 := kide (HO.out.later hb2 HOL.out)
        clear hb2 g0 g1 g2 g3 g4 g5 g6
        have hP : bndR (sumK (kwR wide ks)) = V := by rw [← HV.out]; simp [nodR]
        have HM := kide (catWidth_any (some ⟨w.heap.size + 1, 0, none⟩) kl kl (kwR wide ks) w2 (HO2.out.rd (by rw [kwR_len, HKL.out]; omega) (fun y hy => by have := HKB.out y hy; unfold in64; omega)) (by rw [kwR_len, HKL.out]) HKB.out hk1)
        rw [hP] at HM
        clear hP
        go_wp2_with fail
        refine Calls.mono HM.out ?_
        rintro e w3 ⟨rfl, hb3⟩
        go_wp2_with fail
        go_returns
        exact ⟨rfl, s2.below.trans (hb3.mono s2.below.size)⟩
      · have hk1 : kl = 1 := by
          have h := HF.out
          simp only [fldR, fldT, tabR] at h
          simp [HKL.out] at h
          omega
        obtain ⟨q, hq⟩ : ∃ q, kwR wide ks = [q] := by
          have h := kwR_len wide ks
          rw [HKL.out, hk1] at h
          match hkw : kwR wide ks, h with
          | [q], _ => exact ⟨q, rfl⟩
        have hq0 := HKB.out q (by rw [hq]; simp)
        obtain ⟨hq1, hq2⟩ := hq0
        rw [hq] at HO HV
        have HOL := kide HO.out.lt
        subst hk1
        clear hop HKB HKI hq
        go_wp2_with fail
        refine Calls.mono (opOf_part a ds.length c vr A B bw wa ka wl wc 1 kc wr) ?_
        rintro e w2 ⟨rfl, hb2⟩
        have s2 := s1.next hb2
        have HO2 := kide (HO.out.later hb2 HOL.out)
        clear hb2 g0 g1 g2 g3 g4 g5 g6
        have r0 := HO2.out.cell (i := 0) (by simp)
        simp at r0
        have hP : (if B < 0 ∨ A < B ∨ q ≤ A then ((0 : Int), (15 : Int)) else (A - B + 1, 0)) = V := by rw [← HV.out]; simp [nodR]
        have HM := kide (partWidth_any A B (some ⟨w.heap.size + 1, 0, none⟩) 1 1 w2 (w.heap.size + 1) 0 q rfl rfl r0 hq1 hq2)
        rw [hP] at HM
        clear hP
        go_wp2_with fail
        refine Calls.mono HM.out ?_
        rintro e w3 ⟨rfl, hb3⟩
        go_wp2_with fail
        go_returns
        exact ⟨rfl, s2.below.trans (hb3.mono s2.below.size)⟩
      · have hk1 : kl = 1 := by
          have h := HF.out
          simp only [fldR, fldT, tabR] at h
          simp [HKL.out] at h
          omega
        obtain ⟨q, hq⟩ : ∃ q, kwR wide ks = [q] := by
          have h := kwR_len wide ks
          rw [HKL.out, hk1] at h
          match hkw : kwR wide ks, h with
          | [q], _ => exact ⟨q, rfl⟩
        have hq0 := HKB.out q (by rw [hq]; simp)
        obtain ⟨hq1, hq2⟩ := hq0
        rw [hq] at HO HV
        have HOL := kide HO.out.lt
        subst hk1
        clear hop HKB HKI hq
        go_wp2_with fail
        refine Calls.mono (opOf_zero a ds.length c vr A B bw wa ka wl wc 1 kc wr (HG.out wr s1.below)) ?_
        rintro e w2 ⟨⟨s', rfl⟩, hb2⟩
        have s2 := s1.next hb2
        have HO2 := kide (HO.out.later hb2 HOL.out)
        clear hb2 g0 g1 g2 g3 g4 g5 g6
        have r0 := HO2.out.cell (i := 0) (by simp)
        simp at r0
        have hP : (if 0 ≤ A ∧ A ≤ 4096 then bndR (q + A) else ((0 : Int), (15 : Int))) = V := by rw [← HV.out]; simp [nodR]
        have HM := kide (widenWidth_any s' A (some ⟨w.heap.size + 1, 0, none⟩) 1 1 w2 (w.heap.size + 1) 0 q rfl rfl r0 hq1 hq2)
        rw [hP] at HM
        clear hP
        go_wp2_with fail
        refine Calls.mono HM.out ?_
        rintro e w3 ⟨rfl, hb3⟩
        go_wp2_with fail
        go_returns
        exact ⟨rfl, s2.below.trans (hb3.mono s2.below.size)⟩
      · have hk1 : kl = 1 := by
          have h := HF.out
          simp only [fldR, fldT, tabR] at h
          simp [HKL.out] at h
          omega
        obtain ⟨q, hq⟩ : ∃ q, kwR wide ks = [q] := by
          have h := kwR_len wide ks
          rw [HKL.out, hk1] at h
          match hkw : kwR wide ks, h with
          | [q], _ => exact ⟨q, rfl⟩
        have hq0 := HKB.out q (by rw [hq]; simp)
        obtain ⟨hq1, hq2⟩ := hq0
        rw [hq] at HO HV
        have HOL := kide HO.out.lt
        subst hk1
        clear hop HKB HKI hq
        go_wp2_with fail
        refine Calls.mono (opOf_sign a ds.length c vr A B bw wa ka wl wc 1 kc wr (HG.out wr s1.below)) ?_
        rintro e w2 ⟨⟨s', rfl⟩, hb2⟩
        have s2 := s1.next hb2
        have HO2 := kide (HO.out.later hb2 HOL.out)
        clear hb2 g0 g1 g2 g3 g4 g5 g6
        have r0 := HO2.out.cell (i := 0) (by simp)
        simp at r0
        have hP : (if 0 ≤ A ∧ A ≤ 4096 then bndR (q + A) else ((0 : Int), (15 : Int))) = V := by rw [← HV.out]; simp [nodR]
        have HM := kide (widenWidth_any s' A (some ⟨w.heap.size + 1, 0, none⟩) 1 1 w2 (w.heap.size + 1) 0 q rfl rfl r0 hq1 hq2)
        rw [hP] at HM
        clear hP
        go_wp2_with fail
        refine Calls.mono HM.out ?_
        rintro e w3 ⟨rfl, hb3⟩
        go_wp2_with fail
        go_returns
        exact ⟨rfl, s2.below.trans (hb3.mono s2.below.size)⟩
      · have hk1 : kl = 1 := by
          have h := HF.out
          simp only [fldR, fldT, tabR] at h
          simp [HKL.out] at h
          omega
        obtain ⟨q, hq⟩ : ∃ q, kwR wide ks = [q] := by
          have h := kwR_len wide ks
          rw [HKL.out, hk1] at h
          match hkw : kwR wide ks, h with
          | [q], _ => exact ⟨q, rfl⟩
        have hq0 := HKB.out q (by rw [hq]; simp)
        obtain ⟨hq1, hq2⟩ := hq0
        rw [hq] at HO HV
        have HOL := kide HO.out.lt
        subst hk1
        clear hop HKB HKI hq
        go_wp2_with fail
        refine Calls.mono (opOf_left a ds.length c vr A B bw wa ka wl wc 1 kc wr (HG.out wr s1.below)) ?_
        rintro e w2 ⟨⟨s', rfl⟩, hb2⟩
        have s2 := s1.next hb2
        have HO2 := kide (HO.out.later hb2 HOL.out)
        clear hb2 g0 g1 g2 g3 g4 g5 g6
        have r0 := HO2.out.cell (i := 0) (by simp)
        simp at r0
        have hP : (if 0 ≤ A ∧ A ≤ 4096 then (q, 0) else ((0 : Int), (15 : Int))) = V := by rw [← HV.out]; simp [nodR]
        have HM := kide (turnWidth_any s' A (some ⟨w.heap.size + 1, 0, none⟩) 1 1 w2 (w.heap.size + 1) 0 q rfl rfl r0 hq1 hq2)
        rw [hP] at HM
        clear hP
        go_wp2_with fail
        refine Calls.mono HM.out ?_
        rintro e w3 ⟨rfl, hb3⟩
        go_wp2_with fail
        go_returns
        exact ⟨rfl, s2.below.trans (hb3.mono s2.below.size)⟩
      · have hk1 : kl = 1 := by
          have h := HF.out
          simp only [fldR, fldT, tabR] at h
          simp [HKL.out] at h
          omega
        obtain ⟨q, hq⟩ : ∃ q, kwR wide ks = [q] := by
          have h := kwR_len wide ks
          rw [HKL.out, hk1] at h
          match hkw : kwR wide ks, h with
          | [q], _ => exact ⟨q, rfl⟩
        have hq0 := HKB.out q (by rw [hq]; simp)
        obtain ⟨hq1, hq2⟩ := hq0
        rw [hq] at HO HV
        have HOL := kide HO.out.lt
        subst hk1
        clear hop HKB HKI hq
        go_wp2_with fail
        refine Calls.mono (opOf_right a ds.length c vr A B bw wa ka wl wc 1 kc wr (HG.out wr s1.below)) ?_
        rintro e w2 ⟨⟨s', rfl⟩, hb2⟩
        have s2 := s1.next hb2
        have HO2 := kide (HO.out.later hb2 HOL.out)
        clear hb2 g0 g1 g2 g3 g4 g5 g6
        have r0 := HO2.out.cell (i := 0) (by simp)
        simp at r0
        have hP : (if 0 ≤ A ∧ A ≤ 4096 then (q, 0) else ((0 : Int), (15 : Int))) = V := by rw [← HV.out]; simp [nodR]
        have HM := kide (turnWidth_any s' A (some ⟨w.heap.size + 1, 0, none⟩) 1 1 w2 (w.heap.size + 1) 0 q rfl rfl r0 hq1 hq2)
        rw [hP] at HM
        clear hP
        go_wp2_with fail
        refine Calls.mono HM.out ?_
        rintro e w3 ⟨rfl, hb3⟩
        go_wp2_with fail
        go_returns
        exact ⟨rfl, s2.below.trans (hb3.mono s2.below.size)⟩
      · have hk1 : kl = 1 := by
          have h := HF.out
          simp only [fldR, fldT, tabR] at h
          simp [HKL.out] at h
          omega
        obtain ⟨q, hq⟩ : ∃ q, kwR wide ks = [q] := by
          have h := kwR_len wide ks
          rw [HKL.out, hk1] at h
          match hkw : kwR wide ks, h with
          | [q], _ => exact ⟨q, rfl⟩
        have hq0 := HKB.out q (by rw [hq]; simp)
        obtain ⟨hq1, hq2⟩ := hq0
        rw [hq] at HO HV
        have HOL := kide HO.out.lt
        subst hk1
        clear hop HKB HKI hq
        go_wp2_with fail
        refine Calls.mono (opOf_rep a ds.length c vr A B bw wa ka wl wc 1 kc wr) ?_
        rintro e w2 ⟨rfl, hb2⟩
        have s2 := s1.next hb2
        have HO2 := kide (HO.out.later hb2 HOL.out)
        clear hb2 g0 g1 g2 g3 g4 g5 g6
        have r0 := HO2.out.cell (i := 0) (by simp)
        simp at r0
        have hP : (if 1 ≤ A ∧ A ≤ 4096 then bndR (q * A) else ((0 : Int), (15 : Int))) = V := by rw [← HV.out]; simp [nodR]
        have HM := kide (repWidth_any A (some ⟨w.heap.size + 1, 0, none⟩) 1 1 w2 (w.heap.size + 1) 0 q rfl rfl r0 hq1 hq2)
        rw [hP] at HM
        clear hP
        go_wp2_with fail
        refine Calls.mono HM.out ?_
        rintro e w3 ⟨rfl, hb3⟩
        go_wp2_with fail
        go_returns
        exact ⟨rfl, s2.below.trans (hb3.mono s2.below.size)⟩

end Go.Proofs.YtdlmgndmfphneaaGreatDoor

/- How often each node is a kid; slices.Contains over a row of counts. -/
namespace Go.Proofs.YtdlmgndmfphneaaGreatDoor
set_option linter.unusedVariables false
set_option linter.unusedSimpArgs false
open Go.RowKit

theorem countKids_nil (P k cp kc : Nat) (ka : Option Addr) (w : World) :
    Calls Tryz.prog 121 #[.slice (some ⟨P, 0, none⟩) k cp, .slice ka 0 kc] w fun e w' => e = .returned (.bool true) ∧ w' = w := by
  go_enter Tryz.func121, Tryz.ntmps121
  go_wp2_with fail
  go_loopw [9] (fun i wr => i = .int .i64 0 ∧ wr = w) (fun _ _ => 0)
  case atStart => exact ⟨rfl, rfl⟩
  case round =>
    obtain ⟨rfl, rfl⟩ := hrel
    go_wp2_with fail
    go_ret
    exact ⟨rfl, rfl⟩

/-- How often a place stands among the kids of all nodes. -/
def cntA : List Tc → Nat → Nat
  | [], _ => 0
  | n :: t, j => cntR n.ks j + cntA t j

theorem cntA_append (xs ys : List Tc) (j : Nat) : cntA (xs ++ ys) j = cntA xs j + cntA ys j := by
  induction xs with
  | nil => simp [cntA]
  | cons x t ih => simp [cntA, ih]; omega
theorem cntA_take {ns : List Tc} {k : Nat} {n : Tc} (h : ns[k]? = some n) (j : Nat) : cntA (ns.take (k + 1)) j = cntA (ns.take k) j + cntR n.ks j := by
  rw [List.take_add_one, h, cntA_append]
  simp [cntA]
theorem cntA_le {ns : List Tc} (h : ∀ n ∈ ns, n.ks.length ≤ 1048576) (j : Nat) : cntA ns j ≤ 1048576 * ns.length := by
  induction ns with
  | nil => simp [cntA]
  | cons n t ih =>
    have h1 := h n (by simp)
    have h2 := ih (fun y hy => h y (by simp [hy]))
    have h3 : cntR n.ks j ≤ n.ks.length := List.countP_le_length
    simp only [cntA, List.length_cons]
    omega
theorem cntA_used (ns : List Tc) (j : Nat) : (cntA ns j = 0) ↔ usedR ns j = false := by
  induction ns with
  | nil => simp [cntA, usedR]
  | cons n t ih =>
    simp only [usedR, List.any_cons, Bool.or_eq_false_iff] at ih ⊢
    simp only [cntA]
    have h1 : cntR n.ks j = 0 ↔ (n.ks.any fun k => decide (k = (j : Int))) = false := by
      simp [cntR, List.countP_eq_zero]
    exact ⟨fun h => ⟨h1.1 (by omega), ih.1 (by omega)⟩, fun h => by have e1 := h1.2 h.1; have e2 := ih.2 h.2; omega⟩

/-- Is a count 0 among the first m? -/
def zeroR (q : Nat → Nat) (m : Nat) : Bool := (List.range m).any fun j => decide (q j = 0)

theorem zeroR_used (ns : List Tc) (m : Nat) : zeroR (cntA ns) m = !((List.range m).all (usedR ns)) := by
  rw [Bool.eq_iff_iff]
  simp only [zeroR, List.any_eq_true, Bool.not_eq_true', List.all_eq_false, decide_eq_true_eq]
  constructor
  · rintro ⟨j, hj, h⟩
    exact ⟨j, hj, by rw [(cntA_used ns j).1 h]; simp⟩
  · rintro ⟨j, hj, h⟩
    exact ⟨j, hj, (cntA_used ns j).2 (by simpa using h)⟩

theorem index_any (P N m cp : Nat) (q : Nat → Nat) (w : World) (hc : Cn w P N q) (hm : m ≤ N) (hN : N ≤ 1048576) :
    Calls Tryz.prog 148 #[.slice (some ⟨P, 0, none⟩) m cp, .int .i64 0] w fun e w' => (∃ r : Int, e = .returned (.int .i64 r) ∧ (decide (0 ≤ r) = zeroR q m)) ∧ Below w.heap.size w w' := by
  generalize hZ : zeroR q m = Z
  have HZ := kide hZ
  have HC := kide hc
  clear hZ hc
  go_enter Tryz.func148, Tryz.ntmps148
  go_wp2_with fail
  go_loopw [8] (fun i wr => ∃ k : Nat, k ≤ m ∧ i = .int .i64 k ∧ (∀ j, j < k → q j ≠ 0) ∧ Below w.heap.size w wr) (fun i _ => m - (intOf i).toNat)
  case atStart => exact ⟨0, Nat.zero_le _, rfl, fun j h => by omega, Below.refl _ _⟩
  case round =>
    obtain ⟨k, hk, rfl, hno, hbel⟩ := hrel
    have HB := kide hbel
    have HNO := kide hno
    by_cases hlt : k < m
    · obtain ⟨f, hrw, hfq⟩ := HC.out.later hbel
      have q0 := hrw.cell (i := k) (by omega)
      rw [hfq k (by omega)] at q0
      have hki : (k : Int) < (m : Int) := by omega
      clear hrw hfq hno hbel
      by_cases h0 : q k = 0
      · rw [h0] at q0
        have HT : Hid (Z = true) := by
          show _ = _
          rw [← HZ.out]
          simp only [zeroR, List.any_eq_true, decide_eq_true_eq]
          exact ⟨k, List.mem_range.2 hlt, h0⟩
        clear h0
        go_wp2_with fail
        go_ret
        exact ⟨⟨k, rfl, by rw [HT.out]; simp⟩, HB.out⟩
      · have hne : ((0 : Int) == ((q k : Nat) : Int)) = false := by simp; omega
        have H0 := kide h0
        clear h0
        obtain ⟨y, hy⟩ : ∃ y, q k = y := ⟨_, rfl⟩
        rw [hy] at q0 hne
        have HYY := kide hy
        clear hy
        go_wp2_with fail
        go_roundw
        case rel =>
          refine ⟨k + 1, by omega, by go_num, fun j hj => ?_, HB.out⟩
          by_cases hjk : j < k
          · exact HNO.out j hjk
          · have : j = k := by omega
            subst this
            exact H0.out
        case measure => simp [intOf]; omega
    · have HT : Hid (Z = false) := by
        show _ = _
        rw [← HZ.out, Bool.eq_false_iff]
        simp only [zeroR, ne_eq, List.any_eq_true, decide_eq_true_eq]
        rintro ⟨j, hj, h⟩
        exact HNO.out j (by have := List.mem_range.1 hj; omega) h
      clear hno hbel
      go_wp2_with fail
      go_ret
      exact ⟨⟨-1, rfl, by rw [HT.out]; rfl⟩, HB.out⟩

theorem contains_any (P N m cp : Nat) (q : Nat → Nat) (w : World) (hc : Cn w P N q) (hm : m ≤ N) (hN : N ≤ 1048576) :
    Calls Tryz.prog 123 #[.slice (some ⟨P, 0, none⟩) m cp, .int .i64 0] w fun e w' => e = .returned (.bool (zeroR q m)) ∧ Below w.heap.size w w' := by
  have HI := kide (index_any P N m cp q w hc hm hN)
  clear hc
  go_enter Tryz.func123, Tryz.ntmps123
  go_wp2_with fail
  refine Calls.mono HI.out ?_
  rintro e w1 ⟨⟨r, rfl, hr⟩, hb1⟩
  have HR := kide hr
  clear hr
  go_wp2_with fail
  go_ret
  exact ⟨ret_bool HR.out, hb1⟩

end Go.Proofs.YtdlmgndmfphneaaGreatDoor

/- The given specification's l15Fit: a node without Kids. -/
namespace Go.Proofs.YtdlmgndmfphneaaGreatDoor
set_option linter.unusedVariables false
set_option linter.unusedSimpArgs false
open Go.RowKit

set_option maxHeartbeats 4000000 in
set_option maxRecDepth 100000 in
theorem I0 (tb to kc c c2 N M p wn wc kn : Nat) (xa wa ka : Option Addr) (op vr A B bw R : Int) (w : World) (i0 : (p : Int) < (N : Int)) (i2 : ((kn : Int) == 0) = true) (hR : (R == 10) = false) (l0 : tb < w.heap.size) (p0 : w.cell? ⟨tb, to + p * 7, none⟩ = some (.int .i64 op)) (p1 : w.cell? ⟨tb, to + p * 7 + 1, none⟩ = some (.int .i64 vr)) (p2 : w.cell? ⟨tb, to + p * 7 + 2, none⟩ = some (.int .i64 A)) (p3 : w.cell? ⟨tb, to + p * 7 + 3, none⟩ = some (.int .i64 B)) (p4 : w.cell? ⟨tb, to + p * 7 + 4, none⟩ = some (.int .i64 bw)) (p5 : w.cell? ⟨tb, to + p * 7 + 5, none⟩ = some (.slice wa wn wc)) (p6 : w.cell? ⟨tb, to + p * 7 + 6, none⟩ = some (.slice ka kn kc)) : Calls Tryz.prog 25 #[.agg #[.slice (some ⟨tb, to, none⟩) N c2], .slice xa M c, .int .i64 (p : Int), .int .i64 R] w (RetN w false) := by
  have HBW := kide (Below.refl w.heap.size w)
  have l0a : tb < w.heap.size + 1 := by omega
  have l0b : tb < w.heap.size + 1 + 1 := by omega
  go_enter Tryz.func25, Tryz.ntmps25
  go_wp2_with fail
  all_goals first
    | (exact bodyPost_ret (v := .tuple #[.agg #[.int .i64 0, .slice none 0 0], .bool false]) (by simp [results, Tryz.results25, go_sem]) rfl ⟨0, none, 0, 0, rfl, (by repeat' (first | exact HBW.out | refine Below.alloc ?_ (by simp; try omega) _))⟩)

end Go.Proofs.YtdlmgndmfphneaaGreatDoor

/- The given specification's l15Fit: rule 1. -/
namespace Go.Proofs.YtdlmgndmfphneaaGreatDoor
set_option linter.unusedVariables false
set_option linter.unusedSimpArgs false
open Go.RowKit

set_option maxHeartbeats 4000000 in
set_option maxRecDepth 100000 in
theorem fit1_flat (tb to xb xo kb ko kc c c2 N p j wn wc kn ywn ywc ykn ykc : Nat) (wa ywa yka : Option Addr) (op vr A B bw W yop yvr yA yB ybw : Int) (w : World) (i0 : (p : Int) < (N : Int)) (i1 : (j : Int) < (N : Int)) (i2 : ((kn : Int) == 0) = false) (i3 : (0 : Int) < (kn : Int)) (w1 : Hid (1 ≤ W ∧ W ≤ 4096)) (hwr : wrap64 (W - 1) = W - 1) (hW0 : ¬ W = 0) (l0 : tb < w.heap.size) (l1 : kb < w.heap.size) (l2 : xb < w.heap.size) (p0 : w.cell? ⟨tb, to + p * 7, none⟩ = some (.int .i64 op)) (p1 : w.cell? ⟨tb, to + p * 7 + 1, none⟩ = some (.int .i64 vr)) (p2 : w.cell? ⟨tb, to + p * 7 + 2, none⟩ = some (.int .i64 A)) (p3 : w.cell? ⟨tb, to + p * 7 + 3, none⟩ = some (.int .i64 B)) (p4 : w.cell? ⟨tb, to + p * 7 + 4, none⟩ = some (.int .i64 bw)) (p5 : w.cell? ⟨tb, to + p * 7 + 5, none⟩ = some (.slice wa wn wc)) (p6 : w.cell? ⟨tb, to + p * 7 + 6, none⟩ = some (.slice (some ⟨kb, ko, none⟩) kn kc)) (k0 : w.cell? ⟨kb, ko, none⟩ = some (.int .i64 (j : Int))) (q0 : w.cell? ⟨tb, to + j * 7, none⟩ = some (.int .i64 yop)) (q1 : w.cell? ⟨tb, to + j * 7 + 1, none⟩ = some (.int .i64 yvr)) (q2 : w.cell? ⟨tb, to + j * 7 + 2, none⟩ = some (.int .i64 yA)) (q3 : w.cell? ⟨tb, to + j * 7 + 3, none⟩ = some (.int .i64 yB)) (q4 : w.cell? ⟨tb, to + j * 7 + 4, none⟩ = some (.int .i64 ybw)) (q5 : w.cell? ⟨tb, to + j * 7 + 5, none⟩ = some (.slice ywa ywn ywc)) (q6 : w.cell? ⟨tb, to + j * 7 + 6, none⟩ = some (.slice yka ykn ykc)) (x0 : w.cell? ⟨xb, xo + j, none⟩ = some (.int .i64 W)) : Calls Tryz.prog 25 #[.agg #[.slice (some ⟨tb, to, none⟩) N c2], .slice (some ⟨xb, xo, none⟩) N c, .int .i64 (p : Int), .int .i64 1] w (RetN w (decide (op = 4 ∧ A = W - 1 ∧ B = 0))) := by
  have l0a : tb < w.heap.size + 1 := by omega
  have l0b : tb < w.heap.size + 1 + 1 := by omega
  have l0c : tb < w.heap.size + 1 + 1 + 1 := by omega
  have l0d : tb < w.heap.size + 1 + 1 + 1 + 1 := by omega
  have l1a : kb < w.heap.size + 1 := by omega
  have l1b : kb < w.heap.size + 1 + 1 := by omega
  have l1c : kb < w.heap.size + 1 + 1 + 1 := by omega
  have l1d : kb < w.heap.size + 1 + 1 + 1 + 1 := by omega
  have l2a : xb < w.heap.size + 1 := by omega
  have l2b : xb < w.heap.size + 1 + 1 := by omega
  have l2c : xb < w.heap.size + 1 + 1 + 1 := by omega
  have l2d : xb < w.heap.size + 1 + 1 + 1 + 1 := by omega
  have HBW := kide (Below.refl w.heap.size w)
  go_enter Tryz.func25, Tryz.ntmps25
  go_wp2_with fail
  all_goals first
    | (exact bodyPost_ret (v := .tuple #[.agg #[.int .i64 0, .slice none 0 0], .bool false]) (by simp [results, Tryz.results25, go_sem]) rfl ⟨0, none, 0, 0, by rw [show (decide (op = 4 ∧ A = W - 1 ∧ B = 0)) = false from (by (try simp only [beq_eq_false_iff_ne, ne_eq, beq_iff_eq, bne_iff_ne, bne_eq_false_iff_eq] at *); exact decide_eq_false (by omega))], (by repeat' (first | exact HBW.out | refine Below.alloc ?_ (by simp; try omega) _))⟩)
    | (go_at_call 44; refine Calls.mono (l15Kid_any _ _) ?_; rintro e w5 ⟨k5, va5, vn5, vc5, rfl, hb5⟩; skip; have X5 : Bz w5 (w.heap.size + 1) #[Value.int .i64 0, Value.slice none 0 0] 53 := (by first | exact bzr.later hb5 | exact bzr5.later hb5); have BE : Hid (Below w.heap.size w w5) := Below.trans (by repeat' (first | exact HBW.out | refine Below.alloc ?_ (by simp; try omega) _)) (hb5.mono (by simp; try omega)); have e0 := X5.cell 0; have e1 := X5.cell 1; have f0 := X5.froz 0; have f1 := X5.froz 1; simp at e0 e1; have y9 := (X5.set 0 (Value.int .i64 k5)).set 1 (Value.slice va5 vn5 vc5); have y0 := y9.cell 0; have y1 := y9.cell 1; have Y0 := kide y0; have Y1 := kide y1; clear y0 y1 y9 hb5 X5; go_wp2_with fail; have y0 := Y0.out; have y1 := Y1.out; exact bodyPost_ret (v := .tuple #[.agg #[.int .i64 k5, .slice va5 vn5 vc5], .bool true]) (by simp [results, Tryz.results25, go_sem, y0, y1]) rfl ⟨k5, va5, vn5, vc5, by rw [show (decide (op = 4 ∧ A = W - 1 ∧ B = 0)) = true from (by (try simp only [beq_eq_false_iff_ne, ne_eq, beq_iff_eq, bne_iff_ne, bne_eq_false_iff_eq] at *); exact decide_eq_true (by omega))], (BE.out.setCell (p := ⟨w.heap.size + 1, 0, none⟩) (by simp) _).setCell (p := ⟨w.heap.size + 1, 1, none⟩) (by simp) _⟩)

end Go.Proofs.YtdlmgndmfphneaaGreatDoor

/- The given specification's l15Fit: rule 2, a part below. -/
namespace Go.Proofs.YtdlmgndmfphneaaGreatDoor
set_option linter.unusedVariables false
set_option linter.unusedSimpArgs false
open Go.RowKit

set_option maxHeartbeats 4000000 in
set_option maxRecDepth 100000 in
theorem I2 (tb to xb xo kb ko kc c c2 N p j wn wc kn ywn ywc ykn ykc : Nat) (wa ywa yka : Option Addr) (op vr A B bw W yop yvr yA yB ybw : Int) (w : World) (yb yo : Nat) (r0v : Int) (i0 : (p : Int) < (N : Int)) (i1 : (j : Int) < (N : Int)) (i2 : ((kn : Int) == 0) = false) (i3 : (0 : Int) < (kn : Int)) (w1 : Hid (1 ≤ W ∧ W ≤ 4096)) (hwr : wrap64 (W - 1) = W - 1) (hW0 : ¬ W = 0) (l0 : tb < w.heap.size) (l1 : kb < w.heap.size) (l2 : xb < w.heap.size) (p0 : w.cell? ⟨tb, to + p * 7, none⟩ = some (.int .i64 op)) (p1 : w.cell? ⟨tb, to + p * 7 + 1, none⟩ = some (.int .i64 vr)) (p2 : w.cell? ⟨tb, to + p * 7 + 2, none⟩ = some (.int .i64 A)) (p3 : w.cell? ⟨tb, to + p * 7 + 3, none⟩ = some (.int .i64 B)) (p4 : w.cell? ⟨tb, to + p * 7 + 4, none⟩ = some (.int .i64 bw)) (p5 : w.cell? ⟨tb, to + p * 7 + 5, none⟩ = some (.slice wa wn wc)) (p6 : w.cell? ⟨tb, to + p * 7 + 6, none⟩ = some (.slice (some ⟨kb, ko, none⟩) kn kc)) (k0 : w.cell? ⟨kb, ko, none⟩ = some (.int .i64 (j : Int))) (q0 : w.cell? ⟨tb, to + j * 7, none⟩ = some (.int .i64 yop)) (q1 : w.cell? ⟨tb, to + j * 7 + 1, none⟩ = some (.int .i64 yvr)) (q2 : w.cell? ⟨tb, to + j * 7 + 2, none⟩ = some (.int .i64 yA)) (q3 : w.cell? ⟨tb, to + j * 7 + 3, none⟩ = some (.int .i64 yB)) (q4 : w.cell? ⟨tb, to + j * 7 + 4, none⟩ = some (.int .i64 ybw)) (q5 : w.cell? ⟨tb, to + j * 7 + 5, none⟩ = some (.slice ywa ywn ywc)) (q6 : w.cell? ⟨tb, to + j * 7 + 6, none⟩ = some (.slice yka ykn ykc)) (x0 : w.cell? ⟨xb, xo + j, none⟩ = some (.int .i64 W)) (hyo : yop = 4) (hyk : yka = some ⟨yb, yo, none⟩) (hyn : ykn = 1) (ly : yb < w.heap.size) (r0 : w.cell? ⟨yb, yo, none⟩ = some (.int .i64 r0v)) : Calls Tryz.prog 25 #[.agg #[.slice (some ⟨tb, to, none⟩) N c2], .slice (some ⟨xb, xo, none⟩) N c, .int .i64 (p : Int), .int .i64 2] w (RetN w (decide (op = 4))) := by
  have l0a : tb < w.heap.size + 1 := by omega
  have l0b : tb < w.heap.size + 1 + 1 := by omega
  have l0c : tb < w.heap.size + 1 + 1 + 1 := by omega
  have l0d : tb < w.heap.size + 1 + 1 + 1 + 1 := by omega
  have l1a : kb < w.heap.size + 1 := by omega
  have l1b : kb < w.heap.size + 1 + 1 := by omega
  have l1c : kb < w.heap.size + 1 + 1 + 1 := by omega
  have l1d : kb < w.heap.size + 1 + 1 + 1 + 1 := by omega
  have l2a : xb < w.heap.size + 1 := by omega
  have l2b : xb < w.heap.size + 1 + 1 := by omega
  have l2c : xb < w.heap.size + 1 + 1 + 1 := by omega
  have l2d : xb < w.heap.size + 1 + 1 + 1 + 1 := by omega
  have lya : yb < w.heap.size + 1 := by omega
  have lyb : yb < w.heap.size + 1 + 1 := by omega
  have lyc : yb < w.heap.size + 1 + 1 + 1 := by omega
  have lyd : yb < w.heap.size + 1 + 1 + 1 + 1 := by omega
  subst hyo
  subst hyk
  subst hyn
  have HBW := kide (Below.refl w.heap.size w)
  go_enter Tryz.func25, Tryz.ntmps25
  go_wp2_with fail
  all_goals try first
    | (exact bodyPost_ret (v := .tuple #[.agg #[.int .i64 0, .slice none 0 0], .bool false]) (by simp [results, Tryz.results25, go_sem]) rfl ⟨0, none, 0, 0, by rw [show (decide (op = 4)) = false from (by (try simp only [beq_eq_false_iff_ne, ne_eq, beq_iff_eq, bne_iff_ne, bne_eq_false_iff_eq] at *); exact decide_eq_false (by omega))], (by repeat' (first | exact HBW.out | refine Below.alloc ?_ (by simp; try omega) _))⟩)
  have XR : Hid (Bz ((((w.alloc (Obj.cells #[Value.slice (some ⟨tb, to, none⟩) N c2] 34)).alloc (Obj.cells #[Value.int .i64 0, Value.slice none 0 0] 53)).alloc (Obj.cells #[Value.int .i64 4, Value.int .i64 vr, Value.int .i64 A, Value.int .i64 B, Value.int .i64 bw, Value.slice wa wn wc, Value.slice (some ⟨kb, ko, none⟩) kn kc] 63)).alloc (Obj.cells #[Value.int .i64 4, Value.int .i64 yvr, Value.int .i64 yA, Value.int .i64 yB, Value.int .i64 ybw, Value.slice ywa ywn ywc, Value.slice (some ⟨yb, yo, none⟩) 1 ykc] 63)) (w.heap.size + 1) #[Value.int .i64 0, Value.slice none 0 0] 53) := bzr
  have X2 : Hid (Bz ((((w.alloc (Obj.cells #[Value.slice (some ⟨tb, to, none⟩) N c2] 34)).alloc (Obj.cells #[Value.int .i64 0, Value.slice none 0 0] 53)).alloc (Obj.cells #[Value.int .i64 4, Value.int .i64 vr, Value.int .i64 A, Value.int .i64 B, Value.int .i64 bw, Value.slice wa wn wc, Value.slice (some ⟨kb, ko, none⟩) kn kc] 63)).alloc (Obj.cells #[Value.int .i64 4, Value.int .i64 yvr, Value.int .i64 yA, Value.int .i64 yB, Value.int .i64 ybw, Value.slice ywa ywn ywc, Value.slice (some ⟨yb, yo, none⟩) 1 ykc] 63)) (w.heap.size + 1 + 1) #[Value.int .i64 4, Value.int .i64 vr, Value.int .i64 A, Value.int .i64 B, Value.int .i64 bw, Value.slice wa wn wc, Value.slice (some ⟨kb, ko, none⟩) kn kc] 63) := by
    have h9 := Bz.new ((w.alloc (Obj.cells #[Value.slice (some ⟨tb, to, none⟩) N c2] 34)).alloc (Obj.cells #[Value.int .i64 0, Value.slice none 0 0] 53)) #[Value.int .i64 4, Value.int .i64 vr, Value.int .i64 A, Value.int .i64 B, Value.int .i64 bw, Value.slice wa wn wc, Value.slice (some ⟨kb, ko, none⟩) kn kc] 63
    rw [show ((w.alloc (Obj.cells #[Value.slice (some ⟨tb, to, none⟩) N c2] 34)).alloc (Obj.cells #[Value.int .i64 0, Value.slice none 0 0] 53)).heap.size = w.heap.size + 1 + 1 by simp] at h9
    exact h9.later ((Below.refl _ _).alloc (Nat.le_refl _) _)
  have X3 : Hid (Bz ((((w.alloc (Obj.cells #[Value.slice (some ⟨tb, to, none⟩) N c2] 34)).alloc (Obj.cells #[Value.int .i64 0, Value.slice none 0 0] 53)).alloc (Obj.cells #[Value.int .i64 4, Value.int .i64 vr, Value.int .i64 A, Value.int .i64 B, Value.int .i64 bw, Value.slice wa wn wc, Value.slice (some ⟨kb, ko, none⟩) kn kc] 63)).alloc (Obj.cells #[Value.int .i64 4, Value.int .i64 yvr, Value.int .i64 yA, Value.int .i64 yB, Value.int .i64 ybw, Value.slice ywa ywn ywc, Value.slice (some ⟨yb, yo, none⟩) 1 ykc] 63)) (w.heap.size + 1 + 1 + 1) #[Value.int .i64 4, Value.int .i64 yvr, Value.int .i64 yA, Value.int .i64 yB, Value.int .i64 ybw, Value.slice ywa ywn ywc, Value.slice (some ⟨yb, yo, none⟩) 1 ykc] 63) := by
    have h9 := Bz.new (((w.alloc (Obj.cells #[Value.slice (some ⟨tb, to, none⟩) N c2] 34)).alloc (Obj.cells #[Value.int .i64 0, Value.slice none 0 0] 53)).alloc (Obj.cells #[Value.int .i64 4, Value.int .i64 vr, Value.int .i64 A, Value.int .i64 B, Value.int .i64 bw, Value.slice wa wn wc, Value.slice (some ⟨kb, ko, none⟩) kn kc] 63)) #[Value.int .i64 4, Value.int .i64 yvr, Value.int .i64 yA, Value.int .i64 yB, Value.int .i64 ybw, Value.slice ywa ywn ywc, Value.slice (some ⟨yb, yo, none⟩) 1 ykc] 63
    rw [show (((w.alloc (Obj.cells #[Value.slice (some ⟨tb, to, none⟩) N c2] 34)).alloc (Obj.cells #[Value.int .i64 0, Value.slice none 0 0] 53)).alloc (Obj.cells #[Value.int .i64 4, Value.int .i64 vr, Value.int .i64 A, Value.int .i64 B, Value.int .i64 bw, Value.slice wa wn wc, Value.slice (some ⟨kb, ko, none⟩) kn kc] 63)).heap.size = w.heap.size + 1 + 1 + 1 by simp] at h9
    exact h9
  have B4 : Hid (Below w.heap.size w ((((w.alloc (Obj.cells #[Value.slice (some ⟨tb, to, none⟩) N c2] 34)).alloc (Obj.cells #[Value.int .i64 0, Value.slice none 0 0] 53)).alloc (Obj.cells #[Value.int .i64 4, Value.int .i64 vr, Value.int .i64 A, Value.int .i64 B, Value.int .i64 bw, Value.slice wa wn wc, Value.slice (some ⟨kb, ko, none⟩) kn kc] 63)).alloc (Obj.cells #[Value.int .i64 4, Value.int .i64 yvr, Value.int .i64 yA, Value.int .i64 yB, Value.int .i64 ybw, Value.slice ywa ywn ywc, Value.slice (some ⟨yb, yo, none⟩) 1 ykc] 63))) := (by repeat' (first | exact HBW.out | refine Below.alloc ?_ (by simp; try omega) _))
  generalize ((((w.alloc (Obj.cells #[Value.slice (some ⟨tb, to, none⟩) N c2] 34)).alloc (Obj.cells #[Value.int .i64 0, Value.slice none 0 0] 53)).alloc (Obj.cells #[Value.int .i64 4, Value.int .i64 vr, Value.int .i64 A, Value.int .i64 B, Value.int .i64 bw, Value.slice wa wn wc, Value.slice (some ⟨kb, ko, none⟩) kn kc] 63)).alloc (Obj.cells #[Value.int .i64 4, Value.int .i64 yvr, Value.int .i64 yA, Value.int .i64 yB, Value.int .i64 ybw, Value.slice ywa ywn ywc, Value.slice (some ⟨yb, yo, none⟩) 1 ykc] 63)) = W4 at *
  obtain ⟨b1, hb1⟩ : ∃ b, w.heap.size + 1 = b := ⟨_, rfl⟩
  obtain ⟨b2, hb2⟩ : ∃ b, b1 + 1 = b := ⟨_, rfl⟩
  obtain ⟨b3, hb3⟩ : ∃ b, b2 + 1 = b := ⟨_, rfl⟩
  have HL1 : Hid (w.heap.size ≤ b1) := (by show _ ≤ _; omega)
  rw [hb1] at XR
  rw [hb1, hb2] at X2
  rw [hb1, hb2, hb3] at X3
  try simp only [hb1, hb2, hb3]
  refine wp_region_x (SA := fun uu => uu.cell? ⟨b2, 2, none⟩ = some (Value.int .i64 A) ∧ uu.cell? ⟨b2, 3, none⟩ = some (Value.int .i64 B) ∧ uu.cell? ⟨b3, 3, none⟩ = some (Value.int .i64 yB) ∧ uu.cell? ⟨b3, 6, none⟩ = some (Value.slice (some ⟨yb, yo, none⟩) 1 ykc) ∧ uu.cell? ⟨yb, yo, none⟩ = some (Value.int .i64 r0v)) (SB := fun _ => True) (k := 19) (by kernel_rfl) ?_
  have hbd : Below W4.heap.size W4 W4.drew := (Below.refl _ _).drew
  have XRd := kide (XR.out.later hbd)
  have BRd := kide (B4.out.trans (hbd.mono B4.out.size))
  have c0_0 : W4.drew.cell? ⟨b2, 2, none⟩ = some (Value.int .i64 A) := (kcell hbd _ _ X2.out.lt).trans (X2.out.cell 2)
  have c1_0 : W4.drew.cell? ⟨b2, 3, none⟩ = some (Value.int .i64 B) := (kcell hbd _ _ X2.out.lt).trans (X2.out.cell 3)
  have c2_0 : W4.drew.cell? ⟨b3, 3, none⟩ = some (Value.int .i64 yB) := (kcell hbd _ _ X3.out.lt).trans (X3.out.cell 3)
  have c3_0 : W4.drew.cell? ⟨b3, 6, none⟩ = some (Value.slice (some ⟨yb, yo, none⟩) 1 ykc) := (kcell hbd _ _ X3.out.lt).trans (X3.out.cell 6)
  have c4_0 : W4.drew.cell? ⟨yb, yo, none⟩ = some (Value.int .i64 r0v) := (kcell hbd _ _ (Nat.lt_of_lt_of_le ly B4.out.size)).trans ((kcell B4.out _ _ ly).trans r0)
  clear hbd
  generalize W4.drew = m0 at *
  have hs0 : Hid ((fun uu => uu.cell? ⟨b2, 2, none⟩ = some (Value.int .i64 A) ∧ uu.cell? ⟨b2, 3, none⟩ = some (Value.int .i64 B) ∧ uu.cell? ⟨b3, 3, none⟩ = some (Value.int .i64 yB) ∧ uu.cell? ⟨b3, 6, none⟩ = some (Value.slice (some ⟨yb, yo, none⟩) 1 ykc) ∧ uu.cell? ⟨yb, yo, none⟩ = some (Value.int .i64 r0v)) m0) := ⟨c0_0, c1_0, c2_0, c3_0, c4_0⟩
  try go_simp
  refine wpAnyX_both (T := fun _ => True) (i := 0) (v := Value.pointer (some ⟨b2, 2, none⟩)) rfl (by kernel_rfl) (by kernel_rfl) (by kernel_rfl) (fun _ _ _ h => by first | exact h | exact h.elim) (by decide) (fun _ _ => trivial) (fun _ _ => trivial) (Sx.before (by kernel_rfl) hs0.out) (Or.inl ⟨by rfl, fun uu hu => by go_simp⟩) ?_
  try go_simp
  refine wpAnyX_take (i := 1) (v := Value.int .i64 A) rfl (by kernel_rfl) (by kernel_rfl) (by kernel_rfl) (fun _ _ _ h => by first | exact h | exact h.elim) (by decide) (by kernel_rfl) (by kernel_rfl) hs0.out (Or.inl ⟨by rfl, fun uu hu => by obtain ⟨e0, e1, e2, e3, e4⟩ := hu; go_simp⟩) ?_
  try go_simp
  refine wpAnyX_both (T := fun _ => True) (i := 2) (v := Value.pointer (some ⟨b3, 3, none⟩)) rfl (by kernel_rfl) (by kernel_rfl) (by kernel_rfl) (fun _ _ _ h => by first | exact h | exact h.elim) (by decide) (fun _ _ => trivial) (fun _ _ => trivial) (Sx.before (by kernel_rfl) hs0.out) (Or.inl ⟨by rfl, fun uu hu => by go_simp⟩) ?_
  try go_simp
  refine wpAnyX_take (i := 3) (v := Value.int .i64 yB) rfl (by kernel_rfl) (by kernel_rfl) (by kernel_rfl) (fun _ _ _ h => by first | exact h | exact h.elim) (by decide) (by kernel_rfl) (by kernel_rfl) hs0.out (Or.inl ⟨by rfl, fun uu hu => by obtain ⟨e0, e1, e2, e3, e4⟩ := hu; go_simp⟩) ?_
  try go_simp
  refine wpAnyX_both (T := fun _ => True) (i := 4) (v := Value.int .i64 (IntKind.i64.wrap (A + yB))) rfl (by kernel_rfl) (by kernel_rfl) (by kernel_rfl) (fun _ _ _ h => by first | exact h | exact h.elim) (by decide) (fun _ _ => trivial) (fun _ _ => trivial) (Sx.before (by kernel_rfl) hs0.out) (Or.inl ⟨by rfl, fun uu hu => by go_simp⟩) ?_
  try go_simp
  refine wpAnyX_both (T := fun _ => True) (i := 5) (v := Value.pointer (some ⟨b2, 3, none⟩)) rfl (by kernel_rfl) (by kernel_rfl) (by kernel_rfl) (fun _ _ _ h => by first | exact h | exact h.elim) (by decide) (fun _ _ => trivial) (fun _ _ => trivial) (Sx.before (by kernel_rfl) hs0.out) (Or.inl ⟨by rfl, fun uu hu => by go_simp⟩) ?_
  try go_simp
  refine wpAnyX_take (i := 6) (v := Value.int .i64 B) rfl (by kernel_rfl) (by kernel_rfl) (by kernel_rfl) (fun _ _ _ h => by first | exact h | exact h.elim) (by decide) (by kernel_rfl) (by kernel_rfl) hs0.out (Or.inl ⟨by rfl, fun uu hu => by obtain ⟨e0, e1, e2, e3, e4⟩ := hu; go_simp⟩) ?_
  try go_simp
  refine wpAnyX_both (T := fun _ => True) (i := 7) (v := Value.pointer (some ⟨b3, 3, none⟩)) rfl (by kernel_rfl) (by kernel_rfl) (by kernel_rfl) (fun _ _ _ h => by first | exact h | exact h.elim) (by decide) (fun _ _ => trivial) (fun _ _ => trivial) (Sx.before (by kernel_rfl) hs0.out) (Or.inl ⟨by rfl, fun uu hu => by go_simp⟩) ?_
  try go_simp
  refine wpAnyX_take (i := 8) (v := Value.int .i64 yB) rfl (by kernel_rfl) (by kernel_rfl) (by kernel_rfl) (fun _ _ _ h => by first | exact h | exact h.elim) (by decide) (by kernel_rfl) (by kernel_rfl) hs0.out (Or.inl ⟨by rfl, fun uu hu => by obtain ⟨e0, e1, e2, e3, e4⟩ := hu; go_simp⟩) ?_
  try go_simp
  refine wpAnyX_both (T := fun _ => True) (i := 9) (v := Value.int .i64 (IntKind.i64.wrap (B + yB))) rfl (by kernel_rfl) (by kernel_rfl) (by kernel_rfl) (fun _ _ _ h => by first | exact h | exact h.elim) (by decide) (fun _ _ => trivial) (fun _ _ => trivial) (Sx.before (by kernel_rfl) hs0.out) (Or.inl ⟨by rfl, fun uu hu => by go_simp⟩) ?_
  try go_simp
  refine wpAnyX_both (T := fun _ => True) (i := 10) (v := Value.pointer (some ⟨b3, 6, none⟩)) rfl (by kernel_rfl) (by kernel_rfl) (by kernel_rfl) (fun _ _ _ h => by first | exact h | exact h.elim) (by decide) (fun _ _ => trivial) (fun _ _ => trivial) (Sx.before (by kernel_rfl) hs0.out) (Or.inl ⟨by rfl, fun uu hu => by go_simp⟩) ?_
  try go_simp
  refine wpAnyX_take (i := 11) (v := Value.slice (some ⟨yb, yo, none⟩) 1 ykc) rfl (by kernel_rfl) (by kernel_rfl) (by kernel_rfl) (fun _ _ _ h => by first | exact h | exact h.elim) (by decide) (by kernel_rfl) (by kernel_rfl) hs0.out (Or.inl ⟨by rfl, fun uu hu => by obtain ⟨e0, e1, e2, e3, e4⟩ := hu; go_simp⟩) ?_
  try go_simp
  refine wpAnyX_both (T := fun _ => True) (i := 12) (v := Value.pointer (some ⟨yb, yo, none⟩)) rfl (by kernel_rfl) (by kernel_rfl) (by kernel_rfl) (fun _ _ _ h => by first | exact h | exact h.elim) (by decide) (fun _ _ => trivial) (fun _ _ => trivial) (Sx.before (by kernel_rfl) hs0.out) (Or.inl ⟨by rfl, fun uu hu => by go_simp⟩) ?_
  try go_simp
  refine wpAnyX_take (i := 13) (v := Value.int .i64 r0v) rfl (by kernel_rfl) (by kernel_rfl) (by kernel_rfl) (fun _ _ _ h => by first | exact h | exact h.elim) (by decide) (by kernel_rfl) (by kernel_rfl) hs0.out (Or.inl ⟨by rfl, fun uu hu => by obtain ⟨e0, e1, e2, e3, e4⟩ := hu; go_simp⟩) ?_
  try go_simp
  refine wpAnyX_ready (rs := [14]) (by kernel_rfl) (by simp) (AllX.cons rfl (fun K hK => ?_) AllX.nil)
  go_simp
  have hba : Below m0.heap.size m0 (m0.alloc (Obj.cells #[Value.int .i64 r0v] 2)) := (Below.refl _ _).alloc (Nat.le_refl _) _
  have XRa := kide (XRd.out.later hba)
  have BRa := kide (BRd.out.trans (hba.mono BRd.out.size))
  obtain ⟨g9, hg9⟩ : ∃ x, m0.heap.size = x := ⟨_, rfl⟩
  rw [hg9]
  generalize m0.alloc (Obj.cells #[Value.int .i64 r0v] 2) = m1 at *
  have c0_1 : m1.cell? ⟨b2, 2, none⟩ = some (Value.int .i64 A) := (kcell hba _ _ (block_lt_of_cell c0_0)).trans c0_0
  have c1_1 : m1.cell? ⟨b2, 3, none⟩ = some (Value.int .i64 B) := (kcell hba _ _ (block_lt_of_cell c1_0)).trans c1_0
  have c2_1 : m1.cell? ⟨b3, 3, none⟩ = some (Value.int .i64 yB) := (kcell hba _ _ (block_lt_of_cell c2_0)).trans c2_0
  have c3_1 : m1.cell? ⟨b3, 6, none⟩ = some (Value.slice (some ⟨yb, yo, none⟩) 1 ykc) := (kcell hba _ _ (block_lt_of_cell c3_0)).trans c3_0
  have c4_1 : m1.cell? ⟨yb, yo, none⟩ = some (Value.int .i64 r0v) := (kcell hba _ _ (block_lt_of_cell c4_0)).trans c4_0
  have hs1 : Hid ((fun uu => uu.cell? ⟨b2, 2, none⟩ = some (Value.int .i64 A) ∧ uu.cell? ⟨b2, 3, none⟩ = some (Value.int .i64 B) ∧ uu.cell? ⟨b3, 3, none⟩ = some (Value.int .i64 yB) ∧ uu.cell? ⟨b3, 6, none⟩ = some (Value.slice (some ⟨yb, yo, none⟩) 1 ykc) ∧ uu.cell? ⟨yb, yo, none⟩ = some (Value.int .i64 r0v)) m1) := ⟨c0_1, c1_1, c2_1, c3_1, c4_1⟩
  refine hK _ _ (Sx.before (by kernel_rfl) hs1.out) ?_
  clear hK K
  try go_simp
  refine wpAnyX_both (T := fun _ => True) (i := 15) (v := Value.agg #[Value.int .i64 4, Value.int .i64 0, Value.int .i64 (IntKind.i64.wrap (A + yB)), Value.int .i64 (IntKind.i64.wrap (B + yB)), Value.int .i64 0, Value.slice none 0 0, Value.slice (some ⟨g9, 0, none⟩) 1 1]) rfl (by kernel_rfl) (by kernel_rfl) (by kernel_rfl) (fun _ _ _ h => by first | exact h | exact h.elim) (by decide) (fun _ _ => trivial) (fun _ _ => trivial) (Sx.before (by kernel_rfl) hs1.out) (Or.inl ⟨by rfl, fun uu hu => by go_simp⟩) ?_
  try go_simp
  refine wpAnyX_ready (rs := [16]) (by kernel_rfl) (by simp) (AllX.cons rfl (fun K hK => ?_) AllX.nil)
  go_simp
  refine Calls.mono (l15Node_any _ _ _ _ _ _ _ _ _ _ _ _) ?_
  rintro e m2 ⟨k5, va5, vn5, vc5, rfl, hb5⟩
  have XRb := kide (XRa.out.later hb5)
  have BRb := kide (BRa.out.trans (hb5.mono BRa.out.size))
  have c0_2 : m2.cell? ⟨b2, 2, none⟩ = some (Value.int .i64 A) := (kcell hb5 _ _ (block_lt_of_cell c0_1)).trans c0_1
  have c1_2 : m2.cell? ⟨b2, 3, none⟩ = some (Value.int .i64 B) := (kcell hb5 _ _ (block_lt_of_cell c1_1)).trans c1_1
  have c2_2 : m2.cell? ⟨b3, 3, none⟩ = some (Value.int .i64 yB) := (kcell hb5 _ _ (block_lt_of_cell c2_1)).trans c2_1
  have c3_2 : m2.cell? ⟨b3, 6, none⟩ = some (Value.slice (some ⟨yb, yo, none⟩) 1 ykc) := (kcell hb5 _ _ (block_lt_of_cell c3_1)).trans c3_1
  have c4_2 : m2.cell? ⟨yb, yo, none⟩ = some (Value.int .i64 r0v) := (kcell hb5 _ _ (block_lt_of_cell c4_1)).trans c4_1
  have hs2 : Hid ((fun uu => uu.cell? ⟨b2, 2, none⟩ = some (Value.int .i64 A) ∧ uu.cell? ⟨b2, 3, none⟩ = some (Value.int .i64 B) ∧ uu.cell? ⟨b3, 3, none⟩ = some (Value.int .i64 yB) ∧ uu.cell? ⟨b3, 6, none⟩ = some (Value.slice (some ⟨yb, yo, none⟩) 1 ykc) ∧ uu.cell? ⟨yb, yo, none⟩ = some (Value.int .i64 r0v)) m2) := ⟨c0_2, c1_2, c2_2, c3_2, c4_2⟩
  refine hK _ _ (Sx.before (by kernel_rfl) hs2.out) ?_
  clear hK K
  try go_simp
  refine wpAnyX_both (T := fun _ => True) (i := 17) (v := Value.agg #[Value.int .i64 k5, Value.slice va5 vn5 vc5]) rfl (by kernel_rfl) (by kernel_rfl) (by kernel_rfl) (fun _ _ _ h => by first | exact h | exact h.elim) (by decide) (fun _ _ => trivial) (fun _ _ => trivial) (Sx.before (by kernel_rfl) hs2.out) (Or.inl ⟨by rfl, fun uu hu => by go_simp⟩) ?_
  try go_simp
  refine wpAnyX_both (T := fun _ => True) (i := 18) (v := Value.bool true) rfl (by kernel_rfl) (by kernel_rfl) (by kernel_rfl) (fun _ _ _ h => by first | exact h | exact h.elim) (by decide) (fun _ _ => trivial) (fun _ _ => trivial) (Sx.before (by kernel_rfl) hs2.out) (Or.inl ⟨by rfl, fun uu hu => by go_simp⟩) ?_
  try go_simp
  refine wpAnyX_ready (rs := [19]) (by kernel_rfl) (by simp) (AllX.cons rfl (fun K hK => ?_) AllX.nil)
  have e0 := XRb.out.cell 0
  have e1 := XRb.out.cell 1
  have f0 := XRb.out.froz 0
  have f1 := XRb.out.froz 1
  simp at e0 e1
  go_simp
  have y9 := (XRb.out.set 0 (Value.int .i64 k5)).set 1 (Value.slice va5 vn5 vc5)
  have Y0 := kide (y9.cell 0)
  have Y1 := kide (y9.cell 1)
  have BE : Hid (Below w.heap.size w ((m2.setCell ⟨b1, 0, none⟩ (Value.int .i64 k5)).setCell ⟨b1, 1, none⟩ (Value.slice va5 vn5 vc5))) := (BRb.out.setCell (p := ⟨b1, 0, none⟩) HL1.out _).setCell (p := ⟨b1, 1, none⟩) HL1.out _
  clear y9 e0 e1 f0 f1
  generalize (m2.setCell ⟨b1, 0, none⟩ (Value.int .i64 k5)).setCell ⟨b1, 1, none⟩ (Value.slice va5 vn5 vc5) = m3 at *
  refine hK _ _ (Sx.behind (by kernel_rfl) trivial) ?_
  clear hK K
  try go_simp
  refine wpAnyX_both (T := fun _ => True) (i := 20) (v := Value.bool true) rfl (by kernel_rfl) (by kernel_rfl) (by kernel_rfl) (fun _ _ _ h => by first | exact h | exact h.elim) (by decide) (fun _ _ => trivial) (fun _ _ => trivial) (Sx.behind (by kernel_rfl) trivial) (Or.inl ⟨by rfl, fun uu hu => by go_simp⟩) ?_
  try go_simp
  refine wpAnyX_done (by kernel_rfl) ?_ _
  go_wp2_with fail
  have y0 := Y0.out
  have y1 := Y1.out
  simp at y0 y1
  exact bodyPost_ret (v := .tuple #[.agg #[.int .i64 k5, .slice va5 vn5 vc5], .bool true]) (by simp [results, Tryz.results25, go_sem, y0, y1]) rfl ⟨k5, va5, vn5, vc5, by first | rfl | rw [decide_eq_true (by assumption)], BE.out⟩

end Go.Proofs.YtdlmgndmfphneaaGreatDoor

/- The given specification's l15Fit: rule 2, no part below. -/
namespace Go.Proofs.YtdlmgndmfphneaaGreatDoor
set_option linter.unusedVariables false
set_option linter.unusedSimpArgs false
open Go.RowKit

set_option maxHeartbeats 4000000 in
set_option maxRecDepth 100000 in
theorem I2n (tb to xb xo kb ko kc c c2 N p j wn wc kn ywn ywc ykn ykc : Nat) (wa ywa yka : Option Addr) (op vr A B bw W yop yvr yA yB ybw : Int) (w : World)  (i0 : (p : Int) < (N : Int)) (i1 : (j : Int) < (N : Int)) (i2 : ((kn : Int) == 0) = false) (i3 : (0 : Int) < (kn : Int)) (w1 : Hid (1 ≤ W ∧ W ≤ 4096)) (hwr : wrap64 (W - 1) = W - 1) (hW0 : ¬ W = 0) (l0 : tb < w.heap.size) (l1 : kb < w.heap.size) (l2 : xb < w.heap.size) (p0 : w.cell? ⟨tb, to + p * 7, none⟩ = some (.int .i64 op)) (p1 : w.cell? ⟨tb, to + p * 7 + 1, none⟩ = some (.int .i64 vr)) (p2 : w.cell? ⟨tb, to + p * 7 + 2, none⟩ = some (.int .i64 A)) (p3 : w.cell? ⟨tb, to + p * 7 + 3, none⟩ = some (.int .i64 B)) (p4 : w.cell? ⟨tb, to + p * 7 + 4, none⟩ = some (.int .i64 bw)) (p5 : w.cell? ⟨tb, to + p * 7 + 5, none⟩ = some (.slice wa wn wc)) (p6 : w.cell? ⟨tb, to + p * 7 + 6, none⟩ = some (.slice (some ⟨kb, ko, none⟩) kn kc)) (k0 : w.cell? ⟨kb, ko, none⟩ = some (.int .i64 (j : Int))) (q0 : w.cell? ⟨tb, to + j * 7, none⟩ = some (.int .i64 yop)) (q1 : w.cell? ⟨tb, to + j * 7 + 1, none⟩ = some (.int .i64 yvr)) (q2 : w.cell? ⟨tb, to + j * 7 + 2, none⟩ = some (.int .i64 yA)) (q3 : w.cell? ⟨tb, to + j * 7 + 3, none⟩ = some (.int .i64 yB)) (q4 : w.cell? ⟨tb, to + j * 7 + 4, none⟩ = some (.int .i64 ybw)) (q5 : w.cell? ⟨tb, to + j * 7 + 5, none⟩ = some (.slice ywa ywn ywc)) (q6 : w.cell? ⟨tb, to + j * 7 + 6, none⟩ = some (.slice yka ykn ykc)) (x0 : w.cell? ⟨xb, xo + j, none⟩ = some (.int .i64 W)) (hyo : ¬ yop = 4) : Calls Tryz.prog 25 #[.agg #[.slice (some ⟨tb, to, none⟩) N c2], .slice (some ⟨xb, xo, none⟩) N c, .int .i64 (p : Int), .int .i64 2] w (RetN w (decide (op = 4 ∧ yop = 4))) := by
  have l0a : tb < w.heap.size + 1 := by omega
  have l0b : tb < w.heap.size + 1 + 1 := by omega
  have l0c : tb < w.heap.size + 1 + 1 + 1 := by omega
  have l0d : tb < w.heap.size + 1 + 1 + 1 + 1 := by omega
  have l1a : kb < w.heap.size + 1 := by omega
  have l1b : kb < w.heap.size + 1 + 1 := by omega
  have l1c : kb < w.heap.size + 1 + 1 + 1 := by omega
  have l1d : kb < w.heap.size + 1 + 1 + 1 + 1 := by omega
  have l2a : xb < w.heap.size + 1 := by omega
  have l2b : xb < w.heap.size + 1 + 1 := by omega
  have l2c : xb < w.heap.size + 1 + 1 + 1 := by omega
  have l2d : xb < w.heap.size + 1 + 1 + 1 + 1 := by omega
  have HBW := kide (Below.refl w.heap.size w)
  go_enter Tryz.func25, Tryz.ntmps25
  go_wp2_with fail
  all_goals first
    | (exact bodyPost_ret (v := .tuple #[.agg #[.int .i64 0, .slice none 0 0], .bool false]) (by simp [results, Tryz.results25, go_sem]) rfl ⟨0, none, 0, 0, by rw [show (decide (op = 4 ∧ yop = 4)) = false from (by (try simp only [beq_eq_false_iff_ne, ne_eq, beq_iff_eq, bne_iff_ne, bne_eq_false_iff_eq] at *); exact decide_eq_false (by omega))], (by repeat' (first | exact HBW.out | refine Below.alloc ?_ (by simp; try omega) _))⟩)

end Go.Proofs.YtdlmgndmfphneaaGreatDoor

/- The given specification's l15Fit: rule 3. -/
namespace Go.Proofs.YtdlmgndmfphneaaGreatDoor
set_option linter.unusedVariables false
set_option linter.unusedSimpArgs false
open Go.RowKit

set_option maxHeartbeats 4000000 in
set_option maxRecDepth 100000 in
theorem fit3_flat (tb to xb xo kb ko kc c c2 N p j wn wc kn ywn ywc ykn ykc : Nat) (wa ywa yka : Option Addr) (op vr A B bw W yop yvr yA yB ybw : Int) (w : World) (i0 : (p : Int) < (N : Int)) (i1 : (j : Int) < (N : Int)) (i2 : ((kn : Int) == 0) = false) (i3 : (0 : Int) < (kn : Int)) (w1 : Hid (1 ≤ W ∧ W ≤ 4096)) (hwr : wrap64 (W - 1) = W - 1) (hW0 : ¬ W = 0) (l0 : tb < w.heap.size) (l1 : kb < w.heap.size) (l2 : xb < w.heap.size) (p0 : w.cell? ⟨tb, to + p * 7, none⟩ = some (.int .i64 op)) (p1 : w.cell? ⟨tb, to + p * 7 + 1, none⟩ = some (.int .i64 vr)) (p2 : w.cell? ⟨tb, to + p * 7 + 2, none⟩ = some (.int .i64 A)) (p3 : w.cell? ⟨tb, to + p * 7 + 3, none⟩ = some (.int .i64 B)) (p4 : w.cell? ⟨tb, to + p * 7 + 4, none⟩ = some (.int .i64 bw)) (p5 : w.cell? ⟨tb, to + p * 7 + 5, none⟩ = some (.slice wa wn wc)) (p6 : w.cell? ⟨tb, to + p * 7 + 6, none⟩ = some (.slice (some ⟨kb, ko, none⟩) kn kc)) (k0 : w.cell? ⟨kb, ko, none⟩ = some (.int .i64 (j : Int))) (q0 : w.cell? ⟨tb, to + j * 7, none⟩ = some (.int .i64 yop)) (q1 : w.cell? ⟨tb, to + j * 7 + 1, none⟩ = some (.int .i64 yvr)) (q2 : w.cell? ⟨tb, to + j * 7 + 2, none⟩ = some (.int .i64 yA)) (q3 : w.cell? ⟨tb, to + j * 7 + 3, none⟩ = some (.int .i64 yB)) (q4 : w.cell? ⟨tb, to + j * 7 + 4, none⟩ = some (.int .i64 ybw)) (q5 : w.cell? ⟨tb, to + j * 7 + 5, none⟩ = some (.slice ywa ywn ywc)) (q6 : w.cell? ⟨tb, to + j * 7 + 6, none⟩ = some (.slice yka ykn ykc)) (x0 : w.cell? ⟨xb, xo + j, none⟩ = some (.int .i64 W)) : Calls Tryz.prog 25 #[.agg #[.slice (some ⟨tb, to, none⟩) N c2], .slice (some ⟨xb, xo, none⟩) N c, .int .i64 (p : Int), .int .i64 3] w (RetN w (decide ((op = 7 ∨ op = 8) ∧ Int.tmod A W = 0))) := by
  have l0a : tb < w.heap.size + 1 := by omega
  have l0b : tb < w.heap.size + 1 + 1 := by omega
  have l0c : tb < w.heap.size + 1 + 1 + 1 := by omega
  have l0d : tb < w.heap.size + 1 + 1 + 1 + 1 := by omega
  have l1a : kb < w.heap.size + 1 := by omega
  have l1b : kb < w.heap.size + 1 + 1 := by omega
  have l1c : kb < w.heap.size + 1 + 1 + 1 := by omega
  have l1d : kb < w.heap.size + 1 + 1 + 1 + 1 := by omega
  have l2a : xb < w.heap.size + 1 := by omega
  have l2b : xb < w.heap.size + 1 + 1 := by omega
  have l2c : xb < w.heap.size + 1 + 1 + 1 := by omega
  have l2d : xb < w.heap.size + 1 + 1 + 1 + 1 := by omega
  have HBW := kide (Below.refl w.heap.size w)
  go_enter Tryz.func25, Tryz.ntmps25
  go_wp2_with fail
  all_goals first
    | (exact bodyPost_ret (v := .tuple #[.agg #[.int .i64 0, .slice none 0 0], .bool false]) (by simp [results, Tryz.results25, go_sem]) rfl ⟨0, none, 0, 0, by rw [show (decide ((op = 7 ∨ op = 8) ∧ Int.tmod A W = 0)) = false from (by (try simp only [beq_eq_false_iff_ne, ne_eq, beq_iff_eq, bne_iff_ne, bne_eq_false_iff_eq] at *); exact decide_eq_false (by omega))], (by repeat' (first | exact HBW.out | refine Below.alloc ?_ (by simp; try omega) _))⟩)
    | (go_at_call 44; refine Calls.mono (l15Kid_any _ _) ?_; rintro e w5 ⟨k5, va5, vn5, vc5, rfl, hb5⟩; skip; have X5 : Bz w5 (w.heap.size + 1) #[Value.int .i64 0, Value.slice none 0 0] 53 := (by first | exact bzr.later hb5 | exact bzr5.later hb5); have BE : Hid (Below w.heap.size w w5) := Below.trans (by repeat' (first | exact HBW.out | refine Below.alloc ?_ (by simp; try omega) _)) (hb5.mono (by simp; try omega)); have e0 := X5.cell 0; have e1 := X5.cell 1; have f0 := X5.froz 0; have f1 := X5.froz 1; simp at e0 e1; have y9 := (X5.set 0 (Value.int .i64 k5)).set 1 (Value.slice va5 vn5 vc5); have y0 := y9.cell 0; have y1 := y9.cell 1; have Y0 := kide y0; have Y1 := kide y1; clear y0 y1 y9 hb5 X5; go_wp2_with fail; have y0 := Y0.out; have y1 := Y1.out; exact bodyPost_ret (v := .tuple #[.agg #[.int .i64 k5, .slice va5 vn5 vc5], .bool true]) (by simp [results, Tryz.results25, go_sem, y0, y1]) rfl ⟨k5, va5, vn5, vc5, by rw [show (decide ((op = 7 ∨ op = 8) ∧ Int.tmod A W = 0)) = true from (by (try simp only [beq_eq_false_iff_ne, ne_eq, beq_iff_eq, bne_iff_ne, bne_eq_false_iff_eq] at *); exact decide_eq_true (by omega))], (BE.out.setCell (p := ⟨w.heap.size + 1, 0, none⟩) (by simp) _).setCell (p := ⟨w.heap.size + 1, 1, none⟩) (by simp) _⟩)

end Go.Proofs.YtdlmgndmfphneaaGreatDoor
