/- The groups of a forest: the specification. -/
import Derived.Test.YtelndjdbfapahaaHE
namespace Go.Proofs.Ytelndjdbfapahaa
set_option linter.unusedVariables false
set_option linter.unusedSimpArgs false
open Go.RowKit

theorem setR_start {L : Nat → Nat} {a n : Nat} (hle : ∀ i, i < n → L i ≤ i) (ha : a ≤ n) : setR L a a = [] := setR_none a (fun b hb e => by have := hle b (by omega); omega)

theorem setR_skip {L : Nat → Nat} {a n : Nat} (hs : Nm n L) (ha : L a ≠ a) : setR L a n = [] := setR_none n (fun b hb e => ha (by have := hs.same b hb; rw [e] at this; exact this))

set_option maxHeartbeats 2000000 in
set_option maxRecDepth 100000 in
theorem specGroups_any (z : Int) (a : Option Addr) (n c : Nat) (ls : List Lk) (w : World) (hr : RdK w a ls) (hn : ls.length = n) :
    Calls Try.prog 22 #[.agg #[.int .i64 z, .slice a n c]] w (RetRR w (grpZ z ls)) := by
  obtain ⟨R, hR⟩ : ∃ R, grpZ z ls = R := ⟨_, rfl⟩
  rw [hR]
  have HR := kide hR
  have h2 : Below w.heap.size w ((w.alloc (Obj.cells #[.int .i64 z, .slice a n c] 29)).alloc (Obj.cells #[] 44)) := ((Below.refl _ _).alloc (Nat.le_refl _) _).alloc (by simp) _
  have XF : Hid (Bx ((w.alloc (Obj.cells #[.int .i64 z, .slice a n c] 29)).alloc (Obj.cells #[] 44)) w.heap.size #[.int .i64 z, .slice a n c] 29) := (Bx.new w #[.int .i64 z, .slice a n c] 29).alloc _
  have HO0 : Hid (((w.alloc (Obj.cells #[.int .i64 z, .slice a n c] 29)).alloc (Obj.cells #[] 44)).ownsRow w.heap.size 44 1 (.slice (some ⟨w.heap.size + 1, 0, none⟩) 0 0) 0 []) :=
    ⟨rfl, .inr ⟨w.heap.size + 1, 0, #[], rfl, by omega, by
      have := heap_alloc_new (w.alloc (Obj.cells #[.int .i64 z, .slice a n c] 29)) (Obj.cells #[] 44)
      rwa [World.size_alloc] at this, Nat.le_refl _, by unfold maxLen; omega, rfl, rfl⟩⟩
  have HC := kide (specForest_any z a n c ls _ (hr.later h2) hn)
  have HLE := kide (fun u (N : Nat) (L : Nat → Nat) (hu : Below w.heap.size w u) (hN : N ≤ 1000) (hL : goF N id ls = some L) => l7Least_any N n c a ls L u (hr.later hu) hn hN hL)
  have H2 := kide h2
  clear hr hn hR h2
  cases hf : forR z ls with
  | none =>
    have hres : R = [] := by rw [← HR.out, grpZ, hf]
    subst hres
    rw [hf] at HC
    simp only [Option.isSome_none] at HC
    clear HR HLE
    go_enter Try.func22, Try.ntmps22
    go_wp2_with fail
    generalize (w.alloc (Obj.cells #[.int .i64 z, .slice a n c] 29)).alloc (Obj.cells #[] 44) = w0 at *
    refine Calls.mono HC.out ?_
    rintro e w1 ⟨rfl, hb1⟩
    have B1 := kide (H2.out.trans (hb1.mono H2.out.size))
    have O1 := kide (own_later HO0.out hb1)
    clear hb1
    go_wp2_with fail
    go_ret
    exact ⟨_, [], rfl, O1.out, Rws.nil _ _, B1.out⟩
  | some L =>
    rw [hf] at HC
    simp only [Option.isSome_some] at HC
    have hz := (forR_len hf).1
    obtain ⟨N, rfl⟩ : ∃ N : Nat, z = (N : Int) := ⟨z.toNat, by omega⟩
    have hgo : goF N id ls = some L := by
      unfold forR at hf
      rw [if_pos hz, Int.toNat_natCast] at hf
      exact hf
    have HL2 := kide (fun u (hu : Below w.heap.size w u) => HLE.out u N L hu (by omega) hgo)
    obtain ⟨hnm, hle⟩ := forR_nm hf
    rw [Int.toNat_natCast] at hnm hle
    have HNM := kide hnm
    have HLT := kide hle
    have hN : N ≤ 1000 := by omega
    have hres : R = grpR L N N := by rw [← HR.out, grpZ, hf]; simp
    subst hres
    clear HLE hgo HR hf hnm hle hz
    go_enter Try.func22, Try.ntmps22
    go_wp2_with fail
    generalize (w.alloc (Obj.cells #[.int .i64 (N : Int), .slice a n c] 29)).alloc (Obj.cells #[] 44) = w0 at *
    refine Calls.mono HC.out ?_
    rintro e w1 ⟨rfl, hb1⟩
    have B1 := kide (H2.out.trans (hb1.mono H2.out.size))
    have O1 := kide (own_later HO0.out hb1)
    have X1 := kide (XF.out.later hb1)
    have p0 := X1.out.cell 0
    have p1 := X1.out.cell 1
    simp at p0 p1
    clear hb1 H2 HO0 XF HC
    go_wp2_with fail
    refine Calls.mono (HL2.out w1 B1.out) ?_
    rintro e w2 ⟨v2, rfl, ho2, hb2⟩
    have B2 := kide (B1.out.trans (hb2.mono B1.out.size))
    have O2 := kide (own_later O1.out hb2)
    have X2 := kide (X1.out.later hb2)
    obtain ⟨a2, c2, e2⟩ := own_slice ho2
    rw [lv_len] at e2
    subst e2
    have HW := kide ho2
    have hz1 : Hid (w.heap.size ≤ w1.heap.size) := B1.out.size
    clear ho2 hb2 p0 p1 B1 O1 X1 HL2
    go_wp2_with fail
    go_loopw [3, 5] (fun v q wr => ∃ (k : Nat) (vs : List Value), k ≤ N ∧ q = .int .i64 (k : Int) ∧ wr.ownsRow w.heap.size 44 1 v vs.length vs ∧ Rws wr w.heap.size vs (grpR L N k) ∧ OW wr w1.heap.size (.slice a2 N c2) (lv N L) ∧ Bx wr w.heap.size #[.int .i64 (N : Int), .slice a n c] 29 ∧ Below w.heap.size w wr) (fun _ q _ => N - (intOf q).toNat)
    case atStart => exact ⟨0, [], Nat.zero_le _, rfl, O2.out, Rws.nil _ _, HW.out, X2.out, B2.out⟩
    case round =>
      obtain ⟨k, vs, hk, rfl, hown, hrw, how, hxf, hbel⟩ := hrel
      have HO := kide hown
      have HRW := kide hrw
      have HOW := kide how
      have HX := kide hxf
      have HB := kide hbel
      obtain ⟨av, cv, rfl⟩ := own_slice hown
      have p0 := hxf.cell 0
      simp at p0
      clear hown hrw how hxf hbel O2 HW X2 B2
      by_cases hlt : k < N
      · have i0 : (k : Int) < (N : Int) := by omega
        have S0 := kide (OW.fresh wr wr.heap.size (Nat.le_refl _))
        have Ba : Hid (Below wr.heap.size wr (wr.alloc (Obj.cells #[] 2))) := (Below.refl _ _).alloc (Nat.le_refl _) _
        have hsk : Hid (setR L k k = []) := setR_start (n := N) HLT.out (by omega)
        go_wp2_with fail
        obtain ⟨wo, hwo⟩ : ∃ wo, wo = wr := ⟨_, rfl⟩
        subst hwo
        go_loopw [6, 7] (fun vS q wr => ∃ (j : Nat), k ≤ j ∧ j ≤ N ∧ q = .int .i64 (j : Int) ∧ OW wr wo.heap.size vS (setR L k j) ∧ (j = k ∨ L k = k) ∧ Below wo.heap.size wo wr) (fun _ q _ => N - (intOf q).toNat)
        case atStart => exact ⟨k, Nat.le_refl _, by omega, rfl, by rw [hsk.out]; exact S0.out, .inl rfl, Ba.out⟩
        case round =>
          obtain ⟨j, hkj, hj, rfl, hset, hjk, hbi⟩ := hrel
          have HSE := kide hset
          have HBI := kide hbi
          obtain ⟨aS, cS, rfl⟩ := own_slice hset
          have HOWi := kide (own_later HOW.out hbi)
          have HXi := kide (HX.out.later hbi)
          have q0 := HXi.out.cell 0
          simp at q0
          obtain ⟨g2, hg2⟩ : ∃ g2, a2 = some ⟨g2, 0, none⟩ := by
            rcases HOW.out.2 with ⟨-, h0⟩ | ⟨g, cap, cur, h0, -⟩
            · rw [lv_len] at h0; omega
            · rw [lv_len] at h0; cases h0; exact ⟨g, rfl⟩
          subst hg2
          obtain ⟨e4, -⟩ := OW.cell HOWi.out (lv_get (L := L) hlt)
          clear hset hbi S0 Ba
          have hexit : ¬ (j < N ∧ L k = k) → Hid (setR L k j = setR L k N) := fun h => by
            show _ = _
            by_cases e : L k = k
            · have : j = N := by have : ¬ j < N := fun q => h ⟨q, e⟩; omega
              rw [this]
            · rw [setR_skip HNM.out e]
              rcases hjk with e' | e'
              · rw [e', hsk.out]
              · exact absurd e' e
          by_cases hgo : j < N ∧ L k = k
          · obtain ⟨hjn, hLk⟩ := hgo
            have i1 : (j : Int) < (N : Int) := by omega
            obtain ⟨e5, -⟩ := OW.cell HOWi.out (lv_get (L := L) hjn)
            rw [hLk] at e4
            have hbq : ((k : Int) == (k : Int)) = true := by simp
            have HLK := kide hLk
            have HJK := kide hjk
            clear hexit hLk hjk
            by_cases hLj : L j = k
            · rw [hLj] at e5
              have hsl : (setR L k j).length ≤ 1073741824 := Nat.le_trans (setR_len L k j) (by omega)
              have HLJ := kide hLj
              have hwz := HBI.out.size
              clear hLj
              have hba : Below wr.heap.size wr (wr.alloc (Obj.cells #[Value.int .i64 (j : Int)] 2)) := (Below.refl _ _).alloc (Nat.le_refl _) _
              have HSa : Hid (OW _ _ _ _) := own_later HSE.out hba
              have HBa := kide (HBI.out.trans (hba.mono HBI.out.size))
              clear hba
              go_wp2_with (at_builtin; refine wpList_appW rfl _ _ rfl wo.heap.size _ (setR L k j) (j : Int) rfl HSa.out _ rfl (by simp) hsl (by simp; omega) ?_)
              intro v7 w7 hos hg
              have O7 := kide hos
              have B7 := kide (Below.grown HBa.out hg (by simp; omega) (fun j hj => (own_lt HSa.out hj).1))
              clear hos hg
              go_wp2_with fail
              go_roundw
              case rel => exact ⟨j + 1, by omega, by omega, by go_num, by rw [setR_yes HLJ.out]; exact O7.out, .inr HLK.out, B7.out⟩
              case measure => simp [intOf]; omega
            · have hbq2 : ((L j : Int) == (k : Int)) = false := by simp; omega
              have HNO := kide (setR_no hLj)
              generalize hm : L j = m at *
              clear hm
              go_wp2_with fail
              go_roundw
              case rel => exact ⟨j + 1, by omega, by omega, by go_num, by rw [HNO.out]; exact HSE.out, .inr HLK.out, HBI.out⟩
              case measure => simp [intOf]; omega
          · have HE := hexit hgo
            have hsplit : (¬ (j : Int) < (N : Int)) ∨ ((j : Int) < (N : Int) ∧ ((L k : Int) == (k : Int)) = false) := by
              by_cases h1 : j < N
              · exact .inr ⟨by omega, by have : ¬ L k = k := fun e => hgo ⟨h1, e⟩; simp; omega⟩
              · exact .inl (by omega)
            clear hexit
            obtain ⟨m, hm⟩ : ∃ m, L k = m := ⟨_, rfl⟩
            rw [hm] at e4 hsplit
            clear hm
            rcases hsplit with c1 | ⟨c1, c2'⟩
            · have hnl : Hid ((setR L k j).length = (setR L k N).length) := by show _ = _; rw [HE.out]
              obtain ⟨nS, hnS⟩ : ∃ m, (setR L k j).length = m := ⟨_, rfl⟩
              rw [hnS] at HSE ⊢
              have HNS : Hid (nS = (setR L k N).length) := by show _ = _; rw [← hnS]; exact hnl.out
              have HSN : Hid (OW wr wo.heap.size (Value.slice aS nS cS) (setR L k N)) := by rw [← HE.out]; exact HSE.out
              have HOi := kide (own_later HO.out HBI.out)
              have HRWi := kide (HRW.out.later HBI.out)
              have HBo : Hid (Below w.heap.size w wr) := HB.out.trans (HBI.out.mono HB.out.size)
              have hwz := HBI.out.size
              have hwo := HB.out.size
              have HLX := kide HOWi.out
              clear hnS hgo hjk HSE
              by_cases hl1 : 1 < nS
              · have i3 : (1 : Int) < (nS : Int) := by omega
                have hvl : vs.length ≤ 1073741824 := by have := HRW.out.len; have := grpR_len L N k; omega
                have hba : Below wr.heap.size wr (wr.alloc (Obj.cells #[Value.slice aS nS cS] 44)) := (Below.refl _ _).alloc (Nat.le_refl _) _
                have HOa := kide (own_later HOi.out hba)
                have HRa := kide (HRWi.out.later hba)
                have HBa := kide (HBo.out.trans (hba.mono HBo.out.size))
                have HSa := kide (own_later HSN.out hba)
                have HLa := kide (own_later HOWi.out hba)
                have HXa := kide (HXi.out.later hba)
                clear hba
                go_wp2_with (at_builtin; refine wpList_appR rfl _ _ rfl w.heap.size _ vs (Value.slice aS nS cS) rfl rfl HOa.out _ rfl (by simp) hvl (by simp; omega) ?_)
                intro v7 w7 ho7 hg7
                have O7 := kide ho7
                have B7 := kide (Below.grown HBa.out hg7 (by simp; omega) (fun j hj => (own_lt HOa.out hj).1))
                have R7 := kide (HRa.out.grown HOa.out (by decide) hg7)
                have S7 : Hid (OW w7 wo.heap.size (Value.slice aS nS cS) (setR L k N)) := own_kept HSa.out hg7 (fun b hb e => by
                  rcases HSa.out.2 with ⟨h0, -⟩ | ⟨g, cap, cur, h0, -, hh, -⟩
                  · rw [h0] at hb; cases hb
                  · rw [h0] at hb
                    cases hb
                    exact own_typed HOa.out hh (by decide) e.symm)
                have L7 : Hid (OW w7 w1.heap.size (Value.slice (some ⟨g2, 0, none⟩) N c2) (lv N L)) := own_kept HLa.out hg7 (fun b hb e => by
                  rcases HLa.out.2 with ⟨h0, -⟩ | ⟨g, cap, cur, h0, -, hh, -⟩
                  · rw [h0] at hb; cases hb
                  · rw [h0] at hb
                    cases hb
                    exact own_typed HOa.out hh (by decide) e.symm)
                have X7 := kide (HXa.out.grown (by decide) HOa.out hg7)
                clear ho7 hg7
                go_wp2_with fail
                go_roundw
                case rel =>
                  refine ⟨k + 1, vs ++ [Value.slice aS nS cS], by omega, by go_num, by simpa using O7.out, ?_, L7.out, X7.out, B7.out⟩
                  rw [grpR_yes (by rw [← HNS.out]; exact hl1)]
                  refine R7.out.push (own_base S7.out hwo) (fun i u hi b hb hb' => ?_)
                  have h1 := (own_lt S7.out hb').1
                  obtain ⟨xs, hxs⟩ : ∃ xs, (grpR L N k)[i]? = some xs := by
                    have := (List.getElem?_eq_some_iff.1 hi).1
                    have h3 := HRW.out.len
                    exact ⟨_, List.getElem?_eq_getElem (by omega)⟩
                  have h2 := (own_lt (HRW.out.own i u xs hi hxs) hb).2
                  omega
                case measure => simp [intOf]; omega
              · have i3 : ¬ (1 : Int) < (nS : Int) := by omega
                go_wp2_with fail
                go_roundw
                case rel => exact ⟨k + 1, vs, by omega, by go_num, HOi.out, by rw [grpR_no (by rw [← HNS.out]; exact hl1)]; exact HRWi.out, HOWi.out, HXi.out, HBo.out⟩
                case measure => simp [intOf]; omega
            · have hnl : Hid ((setR L k j).length = (setR L k N).length) := by show _ = _; rw [HE.out]
              obtain ⟨nS, hnS⟩ : ∃ m, (setR L k j).length = m := ⟨_, rfl⟩
              rw [hnS] at HSE ⊢
              have HNS : Hid (nS = (setR L k N).length) := by show _ = _; rw [← hnS]; exact hnl.out
              have HSN : Hid (OW wr wo.heap.size (Value.slice aS nS cS) (setR L k N)) := by rw [← HE.out]; exact HSE.out
              have HOi := kide (own_later HO.out HBI.out)
              have HRWi := kide (HRW.out.later HBI.out)
              have HBo : Hid (Below w.heap.size w wr) := HB.out.trans (HBI.out.mono HB.out.size)
              have hwz := HBI.out.size
              have hwo := HB.out.size
              have HLX := kide HOWi.out
              clear hnS hgo hjk HSE
              by_cases hl1 : 1 < nS
              · have i3 : (1 : Int) < (nS : Int) := by omega
                have hvl : vs.length ≤ 1073741824 := by have := HRW.out.len; have := grpR_len L N k; omega
                have hba : Below wr.heap.size wr (wr.alloc (Obj.cells #[Value.slice aS nS cS] 44)) := (Below.refl _ _).alloc (Nat.le_refl _) _
                have HOa := kide (own_later HOi.out hba)
                have HRa := kide (HRWi.out.later hba)
                have HBa := kide (HBo.out.trans (hba.mono HBo.out.size))
                have HSa := kide (own_later HSN.out hba)
                have HLa := kide (own_later HOWi.out hba)
                have HXa := kide (HXi.out.later hba)
                clear hba
                go_wp2_with (at_builtin; refine wpList_appR rfl _ _ rfl w.heap.size _ vs (Value.slice aS nS cS) rfl rfl HOa.out _ rfl (by simp) hvl (by simp; omega) ?_)
                intro v7 w7 ho7 hg7
                have O7 := kide ho7
                have B7 := kide (Below.grown HBa.out hg7 (by simp; omega) (fun j hj => (own_lt HOa.out hj).1))
                have R7 := kide (HRa.out.grown HOa.out (by decide) hg7)
                have S7 : Hid (OW w7 wo.heap.size (Value.slice aS nS cS) (setR L k N)) := own_kept HSa.out hg7 (fun b hb e => by
                  rcases HSa.out.2 with ⟨h0, -⟩ | ⟨g, cap, cur, h0, -, hh, -⟩
                  · rw [h0] at hb; cases hb
                  · rw [h0] at hb
                    cases hb
                    exact own_typed HOa.out hh (by decide) e.symm)
                have L7 : Hid (OW w7 w1.heap.size (Value.slice (some ⟨g2, 0, none⟩) N c2) (lv N L)) := own_kept HLa.out hg7 (fun b hb e => by
                  rcases HLa.out.2 with ⟨h0, -⟩ | ⟨g, cap, cur, h0, -, hh, -⟩
                  · rw [h0] at hb; cases hb
                  · rw [h0] at hb
                    cases hb
                    exact own_typed HOa.out hh (by decide) e.symm)
                have X7 := kide (HXa.out.grown (by decide) HOa.out hg7)
                clear ho7 hg7
                go_wp2_with fail
                go_roundw
                case rel =>
                  refine ⟨k + 1, vs ++ [Value.slice aS nS cS], by omega, by go_num, by simpa using O7.out, ?_, L7.out, X7.out, B7.out⟩
                  rw [grpR_yes (by rw [← HNS.out]; exact hl1)]
                  refine R7.out.push (own_base S7.out hwo) (fun i u hi b hb hb' => ?_)
                  have h1 := (own_lt S7.out hb').1
                  obtain ⟨xs, hxs⟩ : ∃ xs, (grpR L N k)[i]? = some xs := by
                    have := (List.getElem?_eq_some_iff.1 hi).1
                    have h3 := HRW.out.len
                    exact ⟨_, List.getElem?_eq_getElem (by omega)⟩
                  have h2 := (own_lt (HRW.out.own i u xs hi hxs) hb).2
                  omega
                case measure => simp [intOf]; omega
              · have i3 : ¬ (1 : Int) < (nS : Int) := by omega
                go_wp2_with fail
                go_roundw
                case rel => exact ⟨k + 1, vs, by omega, by go_num, HOi.out, by rw [grpR_no (by rw [← HNS.out]; exact hl1)]; exact HRWi.out, HOWi.out, HXi.out, HBo.out⟩
                case measure => simp [intOf]; omega
      · have e : k = N := by omega
        subst e
        go_wp2_with fail
        go_ret
        exact ⟨_, vs, rfl, HO.out, HRW.out, HB.out⟩

end Go.Proofs.Ytelndjdbfapahaa
