/- What the specification's VarsOf answers. -/
import Derived.Test.YtheglnkndjheaaaGreatDoorZQF
import Derived.Test.YtheglnkndjheaaaGreatDoorEC
namespace Go.Proofs.YtheglnkndjheaaaGreatDoor
set_option linter.unusedVariables false
set_option linter.unusedSimpArgs false
open Go.RowKit

theorem St.grown {w wr wr' : World} {bx : Obj} {v : Value} {xs : List Int} (h : St w bx wr) (ho : OW wr (w.heap.size + 1) v xs) (hg : wr.grownBy wr' v.ownBlock) : St w bx wr' :=
  Below.grown h hg (by have := h.size; omega) (fun j hj => (ho.lt hj).1)

theorem hasV_take {ns : List Tc} {k v : Nat} {n : Tc} (h : ns[k]? = some n) : hasV (ns.take (k + 1)) v = (hasV (ns.take k) v || (decide (n.op = 1) && decide (n.vr = (v : Int)))) := by
  unfold hasV
  rw [List.take_add_one, h, List.any_append]
  simp

set_option maxHeartbeats 1000000 in
set_option maxRecDepth 100000 in
theorem specVars_any (a b : Option Addr) (c c2 n : Nat) (ds : List Dc) (xs : List Tg) (w : World) (hr : RdD w a ds) (hs : RdT w b xs) (hn : xs.length = n) :
    Calls Tryz.prog 50 #[.slice a ds.length c, .agg #[.slice b n c2]] w fun e w' => ∃ v, e = .returned v ∧ OW w' (w.heap.size + 1) v (varsR ds (xs.map Tg.ct)) ∧ Below w.heap.size w w' := by
  have s0 := St.start w (.cells #[.slice b n c2] 60)
  have hz0 : w.heap.size + 1 ≤ (w.alloc (.cells #[.slice b n c2] 60)).heap.size := by simp
  have HW := kide (fun u (hu : Below w.heap.size w u) => specWidth_any a b c c2 n ds xs u (hr.later hu) (hs.later hu) hn)
  have O0 := kide (OW.fresh (w.alloc (.cells #[.slice b n c2] 60)) (w.heap.size + 1) hz0)
  have s1 := s0.next ((Below.refl _ _).alloc (Nat.le_refl _) (Obj.cells #[] 2))
  have hd60 := hr.1
  have hn2 : n ≤ 1048576 := by rw [← hn]; exact hs.1
  have HS := kide hs
  have HN := kide hn
  obtain ⟨-, hbd⟩ := widthsR_bounds ds (xs.map Tg.ct)
  by_cases h0 : (widthsR ds (xs.map Tg.ct)).length = 0
  · have hw : widR ds (xs.map Tg.ct) = -1 := by unfold widR; rw [if_pos h0]
    have hv : varsR ds (xs.map Tg.ct) = [] := by unfold varsR; rw [if_pos h0]
    rw [hv]
    rw [hw] at HW
    clear hr hs hn hw hv h0 s0 hbd
    go_enter Tryz.func50, Tryz.ntmps50
    go_wp2_with fail
    refine Calls.mono (HW.out _ s1.below) ?_
    rintro e w1 ⟨rfl, hb1⟩
    have s2 := s1.next hb1
    have O1 := kide (O0.out.later hb1)
    clear hb1 O0
    go_wp2_with fail
    go_ret
    exact ⟨_, rfl, by simpa using O1.out, s2.below⟩
  · have hv : varsR ds (xs.map Tg.ct) = upV (xs.map Tg.ct) ds.length := by unfold varsR; rw [if_neg h0]
    have hw : 1 ≤ widR ds (xs.map Tg.ct) := by
      unfold widR
      rw [if_neg h0]
      refine (hbd _ ?_).1
      rw [List.getD, List.getElem?_eq_getElem (by omega)]
      simp
    rw [hv]
    generalize widR ds (xs.map Tg.ct) = W at HW hw
    obtain ⟨ns, hns⟩ : ∃ ns, xs.map Tg.ct = ns := ⟨_, rfl⟩
    rw [hns]
    have HNS := kide hns
    have hW : ¬ W < 0 := by omega
    clear hr hs hn hw hv h0 s0 hbd hns
    go_enter Tryz.func50, Tryz.ntmps50
    go_wp2_with fail
    refine Calls.mono (HW.out _ s1.below) ?_
    rintro e w1 ⟨rfl, hb1⟩
    have s2 := s1.next hb1
    have O1 := kide (O0.out.later hb1)
    have S2 := kide s2
    simp only [World.size_alloc] at O1
    clear hb1 O0 s1 s2 HW
    go_wp2_with fail
    go_loopw [5, 6] (fun o q wr => ∃ k : Nat, k ≤ ds.length ∧ q = .int .i64 (k : Int) ∧ OW wr (w.heap.size + 1) o (upV ns k) ∧ St w (.cells #[.slice b n c2] 60) wr) (fun _ q _ => ds.length - (intOf q).toNat)
    case atStart => exact ⟨0, Nat.zero_le _, rfl, by simpa [upV] using O1.out, S2.out⟩
    case round =>
      obtain ⟨k, hk, rfl, hown, hst⟩ := hrel
      have HO := kide hown
      have HST := kide hst
      clear hown hst O1 S2
      by_cases hlt : k < ds.length
      · have i0 : (k : Int) < (ds.length : Int) := by omega
        go_wp2_with fail
        obtain ⟨wo, hwo⟩ : ∃ wo, wo = wr := ⟨_, rfl⟩
        subst hwo
        go_loopw [5, 7] (fun o q wr => ∃ i : Nat, i ≤ n ∧ q = .int .i64 (i : Int) ∧ OW wr (w.heap.size + 1) o (upV ns k) ∧ St w (.cells #[.slice b n c2] 60) wr ∧ hasV (ns.take i) k = false) (fun _ q _ => n - (intOf q).toNat)
        case atStart => exact ⟨0, Nat.zero_le _, rfl, HO.out, HST.out, by simp [hasV]⟩
        case round =>
          clear HO HST
          obtain ⟨i, hi, rfl, ho, hst, hno⟩ := hrel
          have HO := kide ho
          have HST := kide hst
          clear ho hst
          have g0 := HST.out.cell 0
          simp at g0
          have HNO := kide hno
          clear hno
          by_cases hin : i < n
          · have j0 : (i : Int) < (n : Int) := by omega
            obtain ⟨⟨s1, wa, wc, ka, kc⟩, gx⟩ : ∃ x, xs[i]? = some x := ⟨xs[i]'(by rw [HN.out]; exact hin), List.getElem?_eq_getElem _⟩
            have gn : ns[i]? = some s1 := by rw [← HNS.out, List.getElem?_map, gx]; rfl
            obtain ⟨-, h | ⟨b2, o2, rfl, hc⟩⟩ := HS.out.later HST.out.below
            · rw [h] at gx; simp at gx
            obtain ⟨⟨p0, p1, p2, p3, p4, p5, p6⟩, -⟩ := hc i _ gx
            simp only [Tg.hd] at p0 p1 p2 p3 p4 p5 p6
            have HX := kide (hasV_take (v := k) gn)
            obtain ⟨op, vr, aa, bb, bw, ws, ks⟩ := s1
            simp only [] at p0 p1 p2 p3 p4 p5 p6 HX
            clear hc gx gn
            by_cases hop : op = 1
            · subst hop
              by_cases hvr : vr = (k : Int)
              · subst hvr
                have hh : Hid (hasV ns k = true) := by
                  show _ = _
                  have h1 : hasV (ns.take (i + 1)) k = true := by rw [HX.out]; simp
                  rw [hasV_iff] at h1 ⊢
                  obtain ⟨m, hm, h2⟩ := h1
                  exact ⟨m, List.mem_of_mem_take hm, h2⟩
                have he : ((k : Int) == (k : Int)) = true := by simp
                have hul : (upV ns k).length ≤ 1073741824 := by have := upV_len ns k; omega
                have hsz := HST.out.size
                go_wp2_with (at_builtin; refine wpList_appW rfl _ _ rfl (w.heap.size + 1) _ (upV ns k) (k : Int) rfl (World.ownsRow.alloc HO.out _) _ rfl (by simp) hul (by simp; omega) ?_)
                intro v7 w7 hos hg
                have S7 := kide ((HST.out.next ((Below.refl _ _).alloc (Nat.le_refl _) (Obj.cells #[Value.int .i64 (k : Int)] 2))).grown (World.ownsRow.alloc HO.out _) hg)
                have O7 := kide hos
                clear hos hg g0 p0 p1 p2 p3 p4 p5 p6
                go_wp2_with fail
                go_roundw
                case rel => exact ⟨k + 1, by omega, by go_num, by rw [upV_succ, if_pos hh.out]; exact O7.out, S7.out⟩
                case measure => simp [intOf]; omega
              · have he : (vr == (k : Int)) = false := by simpa using hvr
                have hno2 : Hid (hasV (ns.take (i + 1)) k = false) := by
                  show _ = _
                  rw [HX.out, HNO.out]
                  simp [hvr]
                clear hvr HX HNO
                go_wp2_with fail
                go_roundw
                case rel => exact ⟨i + 1, by omega, by go_num, HO.out, HST.out, hno2.out⟩
                case measure => simp [intOf]; omega
            · have he : (op == 1) = false := by simpa using hop
              have hno2 : Hid (hasV (ns.take (i + 1)) k = false) := by
                show _ = _
                rw [HX.out, HNO.out]
                simp [hop]
              clear hop HX HNO
              go_wp2_with fail
              go_roundw
              case rel => exact ⟨i + 1, by omega, by go_num, HO.out, HST.out, hno2.out⟩
              case measure => simp [intOf]; omega
          · have hfin : Hid (hasV ns k = false) := by
              show _ = _
              have h := HNO.out
              have hl : ns.length = n := by rw [← HNS.out]; simpa using HN.out
              rwa [List.take_of_length_le (by omega)] at h
            clear HNO
            go_wp2_with fail
            go_roundw
            case rel => exact ⟨k + 1, by omega, by go_num, by rw [upV_succ, if_neg (by rw [hfin.out]; simp), List.append_nil]; exact HO.out, HST.out⟩
            case measure => simp [intOf]; omega
      · have e : k = ds.length := by omega
        have HE := kide e
        clear e
        go_wp2_with fail
        go_ret
        exact ⟨_, rfl, by rw [← HE.out]; exact HO.out, HST.out.below⟩

end Go.Proofs.YtheglnkndjheaaaGreatDoor
