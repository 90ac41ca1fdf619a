/- The program's writeTermNode. -/
import Derived.Test.YteenmffhbgpahaaDoorWTL
import Derived.Test.YteenmffhbgpahaaDoorWTE
namespace Go.Proofs.YteenmffhbgpahaaDoor
set_option linter.unusedVariables false
set_option linter.unusedSimpArgs false
open Go.RowKit

theorem hdT_lt {ds : List Dc} {x : Tc} : ∀ y ∈ hdT ds x, y < 256 := by
  have hd : ∀ (n : Nat), ∀ y ∈ decN n, y < 256 := fun n y hy => by
    obtain ⟨u, -, rfl⟩ := List.mem_map.1 hy
    exact UInt8.toNat_lt u
  have hw : ∀ y ∈ wordN x.op, y < 256 := fun y hy => by
    unfold wordN at hy
    repeat' split at hy
    all_goals (simp at hy; omega)
  intro y hy
  unfold hdT at hy
  split at hy
  · obtain ⟨u, -, rfl⟩ := List.mem_map.1 hy
    exact UInt8.toNat_lt u
  · split at hy
    · exact writeR_lt _ _ y hy
    · rcases List.mem_append.1 hy with hy | hy
      · rcases List.mem_cons.1 hy with rfl | hy
        · omega
        · exact hw y hy
      · rcases List.mem_append.1 hy with hy | hy
        · split at hy
          · rcases List.mem_cons.1 hy with rfl | hy
            · omega
            · exact hd _ y hy
          · cases hy
        · split at hy
          · rcases List.mem_cons.1 hy with rfl | hy
            · omega
            · exact hd _ y hy
          · cases hy
theorem bl_txt {l : List Nat} (h : ∀ x ∈ l, x < 256) : Bu.bl (txt l) = l := by
  unfold Bu.bl txt
  rw [List.map_map]
  conv => rhs; rw [← List.map_id l]
  refine List.map_congr_left fun x hx => ?_
  have := h x hx
  simp [UInt8.toNat_ofNat']
  omega

/-- A call has put a text behind what a builder holds. -/
def RetBu (B b : Nat) (w : World) (l : List Nat) (e : Ending) (w' : World) : Prop := e = .returned (.tuple #[]) ∧ Bu.Bd B b l w' ∧ Bu.KeptU B (· = b) w w'

set_option maxHeartbeats 2000000 in
set_option maxRecDepth 100000 in
theorem writeTermNode_any (b : Option Addr) (c2 n hb' hc : Nat) (ds : List Dc) (xs : List Tg) (w0 : World) (B b0 : Nat) (hs : RdT w0 b xs) (hn : xs.length = n) (hok : ¬ (widthsR ds (xs.map Tg.ct)).length = 0) (hh : RdSt w0 hb' ((xs.map Tg.ct).map (hdT ds))) (hB : w0.heap.size ≤ B) (hBb : B ≤ b0) :
    ∀ p, p < n → ((txR ds (xs.map Tg.ct)).getD p []).length ≤ 20000 → ∀ (w : World) (out : List Nat), Below w0.heap.size w0 w → Bu.Bd B b0 out w → out.length + ((txR ds (xs.map Tg.ct)).getD p []).length ≤ 1000000 →
    Calls Tryd.prog 23 #[.pointer (some ⟨b0, 0, none⟩), .agg #[.slice b n c2], .slice (some ⟨hb', 0, none⟩) n hc, .int .i64 (p : Int)] w (RetBu B b0 w (out ++ (txR ds (xs.map Tg.ct)).getD p [])) := by
  have hX : ∀ k, k < w0.heap.size → ¬ (k = b0) := fun k hk => by omega
  have HXX := kide hX
  obtain ⟨hl1, hl2, -, hkid⟩ := right_kids hok
  rw [List.length_map, hn] at hl1 hl2
  have HN := kide hn
  have HK := kide hkid
  have HT := kide (rightT_node hok)
  have HS := kide hs
  have HH := kide hh
  have HBB := kide (And.intro hB hBb)
  obtain ⟨ns, hns⟩ : ∃ ns, xs.map Tg.ct = ns := ⟨_, rfl⟩
  rw [hns] at HK HT HH ⊢
  have HNS := kide hns
  clear hn hok hkid hns hs hh hX
  intro p
  induction p using Nat.strongRecOn with
  | ind p ih =>
    have IH := kide ih
    clear ih
    intro hp hsz w out hb ho hle
    have HPN := kide hp
    have i0 : (p : Int) < (n : Int) := by omega
    obtain ⟨⟨s1, wa, wc, ka, kc⟩, gx⟩ : ∃ x, xs[p]? = some x := ⟨xs[p]'(by rw [HN.out]; exact hp), List.getElem?_eq_getElem _⟩
    have gn : ns[p]? = some s1 := by rw [← HNS.out, List.getElem?_map, gx]; rfl
    have s0 := St.start w (.cells #[.slice b n c2] 33)
    have hbA : Below w0.heap.size w0 (w.alloc (.cells #[.slice b n c2] 33)) := hb.trans (s0.below.mono hb.size)
    have HWX : Hid ((w.alloc (Obj.cells #[Value.slice b n c2] 33)).heap[w.heap.size]? = some (Obj.cells #[Value.slice b n c2] 33 (0, 0))) := heap_alloc_new _ _
    have hbw0 : b0 < w.heap.size := by obtain ⟨-, -, q, v, -, hbk, -⟩ := ho; exact lt_of_block hbk
    have gh := HH.out.later hbA p (hdT ds s1) (by rw [List.getElem?_map, gn]; rfl)
    have HKK := kide (HK.out p s1 gn)
    have HTX := kide (tx_node (ds := ds) gn HKK.out)
    rw [HTX.out] at hsz hle ⊢
    have HRT := kide (HT.out s1 (List.mem_of_getElem? gn))
    have HPK : Hid (∀ u, Below w0.heap.size w0 u → RdI u ka s1.ks) := fun u hu => by
      obtain ⟨-, h | ⟨b2, o2, -, hc⟩⟩ := HS.out.later hu
      · rw [h] at gx; simp at gx
      · exact (hc p _ gx).2.2.1
    have hp6 : Hid (∀ u, Below w0.heap.size w0 u → ∃ b2 o2, b = some ⟨b2, o2, none⟩ ∧ u.cell? ⟨b2, o2 + p * 7 + 6, none⟩ = some (.slice ka s1.ks.length kc)) := fun u hu => by
      obtain ⟨-, h | ⟨b2, o2, e, hc⟩⟩ := HS.out.later hu
      · rw [h] at gx; simp at gx
      · obtain ⟨⟨p0, p1, p2, p3, p4, p5, p6⟩, -⟩ := hc p _ gx
        exact ⟨b2, o2, e, p6⟩
    have HBL := kide (bl_txt (hdT_lt (ds := ds) (x := s1)))
    have hhz := txt_sizeT (hdT ds s1)
    have hnu : ∀ m, ndT ds (txR ds ns) m = hdT ds m ++ (kdT (txR ds ns) m.ks ++ (if m.ks = [] then [] else [41])) := fun _ => rfl
    rw [hnu] at hsz hle ⊢
    have hks := (HPK.out w0 (Below.refl _ _)).1
    clear hnu HTX gx gn s0
    obtain ⟨ks, hke⟩ : ∃ l, s1.ks = l := ⟨_, rfl⟩
    rw [hke] at hsz hle hks HKK HPK hp6 ⊢
    obtain ⟨kl, hkl⟩ : ∃ m, ks.length = m := ⟨_, rfl⟩
    rw [hkl] at hks hp6
    have HKL := kide hkl
    generalize hdT ds s1 = hd at *
    generalize hsh : txt hd = sh at *
    simp only [List.length_append] at hsz hle
    obtain ⟨cl, hcl⟩ : ∃ l, (if ks = [] then ([] : List Nat) else [41]) = l := ⟨_, rfl⟩
    rw [hcl] at hsz hle ⊢
    have HCL := kide hcl
    clear hcl
    obtain ⟨tot, htot⟩ : ∃ l, out ++ (hd ++ (kdT (txR ds ns) ks ++ cl)) = l := ⟨_, rfl⟩
    rw [htot]
    have HTOT := kide htot
    clear htot
    have HSZ := kide hsz
    have HLE := kide hle
    have HWS := kide (fun u (hu : Bu.Bd B b0 out u) => Bu.wStr_any B b0 out sh u hu (by omega))
    rw [HBL.out] at HWS
    have HWB := kide (fun u l (c : Nat) (hu : Bu.Bd B b0 l u) (hl : l.length ≤ 1099511627776) => Bu.wByte_any B b0 l c u hu hl)
    have HOA := kide (ho.later ((Below.refl w.heap.size w).alloc (Nat.le_refl _) (.cells #[.slice b n c2] 33)))
    have HBA := kide hbA
    have HBW := kide hb
    have lgh := block_lt_of_cell gh
    clear hkl hke hsz hle hsh hhz ho hbA HRT hb HBL
    obtain ⟨wA, hwA⟩ : ∃ wA, w.alloc (Obj.cells #[Value.slice b n c2] 33) = wA := ⟨_, rfl⟩
    have HKA : Hid (Bu.KeptU B (· = b0) w wA) := by show Bu.KeptU _ _ _ _; rw [← hwA]; exact Bu.KeptU.of_below ((Below.refl _ _).alloc (Nat.le_refl _) _)
    rw [hwA] at gh lgh HOA HBA HWX
    go_enter Tryd.func23, Tryd.ntmps23
    go_wp2_with fail
    refine Calls.mono (HWS.out _ HOA.out) ?_
    rintro e w5 ⟨rfl, hb5, hk5⟩
    have hbw5 : Below w0.heap.size w0 w5 := hk5.below HBA.out HBB.out.1 HXX.out
    have HX5 := kide (Bu.KeptU.other hk5 HWX.out (by decide) (show ¬ (_ = b0) by omega))
    have x5 := cell_of_row w5 w.heap.size 0 _ _ _ HX5.out
    obtain ⟨b2, o2, rfl, p6⟩ := hp6.out w5 hbw5
    have HB5 := kide hb5
    have HK5 := kide (HKA.out.trans hk5)
    have HBW5 := kide hbw5
    clear hk5 hb5 hbw5 gh lgh hwA HKA
    simp at x5
    go_wp2_with fail
    go_loopw [25] (fun q wr => ∃ j : Nat, j ≤ kl ∧ q = .int .i64 (j : Int) ∧ Bu.Bd B b0 (out ++ (hd ++ kdT (txR ds ns) (ks.take j))) wr ∧ Bu.KeptU B (· = b0) w5 wr) (fun q _ => kl - (intOf q).toNat)
    case atStart => exact ⟨0, Nat.zero_le _, rfl, by rw [List.take_zero]; simp only [kdT, List.flatMap_nil, List.append_nil]; exact HB5.out, Bu.KeptU.refl _ _ _⟩
    case round =>
      obtain ⟨j, hj, rfl, hbd, hkp⟩ := hrel
      have hbw : Below w0.heap.size w0 wr := hkp.below HBW5.out HBB.out.1 HXX.out
      have HBWR := kide hbw
      have HKP := kide hkp
      have HBD := kide hbd
      have HLN : Hid ((out ++ (hd ++ kdT (txR ds ns) (ks.take j))).length ≤ 1000000) := by
        show _ ≤ _
        have h1 := HLE.out
        have h2 := kd_part (all := txR ds ns) (ks := ks) j
        simp only [List.length_append]
        omega
      clear hkp hbd x5 p6
      by_cases hil : j < kl
      · have j0 : (j : Int) < (kl : Int) := by omega
        obtain ⟨-, -, h | ⟨kb, ko, rfl, hkc⟩⟩ := HPK.out wr hbw
        · have := HKL.out; subst h; simp at this; omega
        have q0 := hkc j (by rw [HKL.out]; exact hil)
        have hki : ks[j]? = some (ks.getD j 0) := by rw [List.getElem?_eq_getElem (by rw [HKL.out]; exact hil)]; simp [List.getD, show j < ks.length by rw [HKL.out]; exact hil]
        have hkm := List.mem_of_getElem? hki
        have hkr := HKK.out (ks.getD j 0) hkm
        have HST2 := kide (kd_take (all := txR ds ns) hki)
        have hkt := kd_lt (all := txR ds ns) hkm
        obtain ⟨m, hm, hmp⟩ : ∃ m : Nat, ks.getD j 0 = (m : Int) ∧ m < p := ⟨(ks.getD j 0).toNat, by omega, by omega⟩
        rw [hm] at q0 HST2 hkt
        rw [Int.toNat_natCast] at HST2 hkt
        have HML : Hid (((txR ds ns).getD m []).length ≤ 20000) := by
          show _ ≤ _
          have h1 := HSZ.out
          omega
        have HML2 : Hid (((out ++ (hd ++ kdT (txR ds ns) (ks.take j))) ++ [32]).length + ((txR ds ns).getD m []).length ≤ 1000000) := by
          show _ ≤ _
          have h1 := HLE.out
          have h2 := kd_part (all := txR ds ns) (ks := ks) (j + 1)
          have h3 := congrArg List.length HST2.out
          simp only [List.length_append, List.length_cons, List.length_nil] at h3 ⊢
          omega
        have HMP := kide hmp
        clear hkc hki hkr hkm hkt hm hmp hbw
        go_wp2_with fail
        refine Calls.mono (HWB.out _ _ 32 HBD.out (by have := HLN.out; omega)) ?_
        rintro e wq ⟨rfl, hbq, hkq⟩
        have HBWQ := kide (hkq.below HBWR.out HBB.out.1 HXX.out)
        have HKQ := kide (HKP.out.trans hkq)
        have x2 := cell_of_row wq w.heap.size 0 _ _ _ (Bu.KeptU.other HKQ.out HX5.out (by decide) (show ¬ (_ = b0) by omega))
        simp at x2
        have HBQ := kide hbq
        clear hbq hkq
        go_wp2_with fail
        refine Calls.mono (IH.out m HMP.out (by have := HMP.out; have := HPN.out; omega) HML.out wq _ HBWQ.out HBQ.out HML2.out) ?_
        rintro e w7 ⟨rfl, hb7, hk7⟩
        have HB7 := kide hb7
        have HK7 := kide (HKQ.out.trans hk7)
        clear hb7 hk7
        go_wp2_with fail
        go_roundw
        case rel =>
          refine ⟨j + 1, by omega, by go_num, ?_, HK7.out⟩
          rw [HST2.out]
          have h := HB7.out
          rw [List.append_assoc, List.append_assoc, List.append_assoc] at h
          exact h
        case measure => simp [intOf]; omega
      · have hfin : Hid (ks.take j = ks) := by show _ = _; rw [List.take_of_length_le (by rw [HKL.out]; omega)]
        rw [hfin.out] at HBD HLN
        by_cases hkz : kl = 0
        · have hke : ks = [] := List.eq_nil_of_length_eq_zero (by rw [HKL.out]; exact hkz)
          have HE : Hid (out ++ (hd ++ kdT (txR ds ns) ks) = tot) := by
            show _ = _
            have h1 := HCL.out
            rw [if_pos hke] at h1
            rw [← HTOT.out, ← h1, List.append_nil]
          rw [HE.out] at HBD
          have hcz : ¬ (0 : Int) < (kl : Int) := by omega
          clear hkz hke hbw hfin
          go_wp2_with fail
          go_end0
          exact ⟨rfl, HBD.out, HK5.out.trans HKP.out⟩
        · have hke : ¬ ks = [] := fun h => hkz (by rw [← HKL.out, h]; rfl)
          have HE : Hid ((out ++ (hd ++ kdT (txR ds ns) ks)) ++ [41] = tot) := by
            show _ = _
            have h1 := HCL.out
            rw [if_neg hke] at h1
            rw [← HTOT.out, ← h1, List.append_assoc, List.append_assoc]
          have hcz : (0 : Int) < (kl : Int) := by omega
          clear hkz hke hbw hfin
          go_wp2_with fail
          refine Calls.mono (HWB.out _ _ 41 HBD.out (by have := HLN.out; omega)) ?_
          rintro e wq ⟨rfl, hbq, hkq⟩
          rw [HE.out] at hbq
          have HBQ := kide hbq
          have HKQ := kide (HKP.out.trans hkq)
          clear hbq hkq
          go_wp2_with fail
          go_end0
          exact ⟨rfl, HBQ.out, HK5.out.trans HKQ.out⟩

end Go.Proofs.YteenmffhbgpahaaDoor
