/- The law FnWeakened returns true, whatever it is handed. -/
import Derived.Test.YtkngpgonmedgpaaGreatDoorGAS
import Derived.Test.YtkngpgonmedgpaaGreatDoorOPF
import Derived.Test.YtkngpgonmedgpaaGreatDoorOPC
import Derived.Test.YtkngpgonmedgpaaGreatDoorGBF
import Derived.Test.YtkngpgonmedgpaaGreatDoorWKC
namespace Go.Proofs.YtkngpgonmedgpaaGreatDoor
set_option linter.unusedVariables false
set_option linter.unusedSimpArgs false
open Go.RowKit
theorem odd_lit : OddLitAny := fun w0 w β a c bs da ds dc n most h hn h1 h6 hw hm1 hm2 => oddLiterals_any l3Grow_any (fun w0 w β a c bs da ds dc n want h hn h1 h6 hw hv1 hv2 => oddTerm_any l3Grow_any w0 w β a c bs da ds dc n want h hn h1 h6 hw hv1 hv2) w0 w β a c bs da ds dc n most h hn h1 h6 hw hm1 hm2
theorem goL_ids {ds : List Dc} : ∀ (ls : List Lc) (last : Int), goL ds last ls = true → ∀ l ∈ ls, last < l.id
 | [], _, _ => by simp
 | m :: t, last, h => by
  simp only [goL, Bool.and_eq_true, decide_eq_true_eq] at h
  obtain ⟨⟨⟨h1, h2⟩, h3⟩, h4⟩ := h
  intro l hl
  rcases List.mem_cons.1 hl with rfl | hl
  ·exact h1
  ·have := goL_ids t m.id h4 l hl
   omega
theorem goL_same {ds : List Dc} : ∀ (ls : List Lc) (last : Int), goL ds last ls = true → ∀ l ∈ ls, ∀ m ∈ ls, l.id = m.id → l = m
 | [], _, _ => by simp
 | k :: t, last, h => by
  simp only [goL, Bool.and_eq_true, decide_eq_true_eq] at h
  obtain ⟨-, h4⟩ := h
  have hi := goL_ids t k.id h4
  intro l hl m hm e
  rcases List.mem_cons.1 hl with h5 | h5
  ·rcases List.mem_cons.1 hm with h6 | h6
   ·rw [h5, h6]
   ·have := hi m h6
    rw [h5] at e
    omega
  ·rcases List.mem_cons.1 hm with h6 | h6
   ·have := hi l h5
    rw [h6] at e
    omega
   ·exact goL_same t k.id h4 l h5 m h6 e
theorem wk_has {ds : List Dc} {vs : List Wd} {ls : List Lc} (h : litR ds ls = true) {l : Lc} (hl : l ∈ ls) : decide (l.id ∈ wkL vs ls) = !hldR vs l := by
 simp only [litR, Bool.and_eq_true, decide_eq_true_eq] at h
 have hs := goL_same ls 0 h.2
 cases hh : hldR vs l with
 | true =>
  refine decide_eq_false fun hm => ?_
  obtain ⟨m, hm, e⟩ := List.mem_map.1 hm
  obtain ⟨hm1, hm2⟩ := List.mem_filter.1 hm
  have := hs l hl m hm1 e.symm
  subst this
  simp [hh] at hm2
 | false => exact decide_eq_true (List.mem_map.2 ⟨l, List.mem_filter.2 ⟨hl, by simp [hh]⟩, rfl⟩)
theorem goL_sub {ds : List Dc} {p : Lc → Bool} : ∀ (ls : List Lc) (last last' : Int), last' ≤ last → goL ds last ls = true → goL ds last' (ls.filter p) = true
 | [], _, _, _, _ => rfl
 | m :: t, last, last', h0, h => by
  simp only [goL, Bool.and_eq_true, decide_eq_true_eq] at h
  obtain ⟨⟨⟨h1, h2⟩, h3⟩, h4⟩ := h
  rw [List.filter_cons]
  split
  ·simp only [goL, Bool.and_eq_true, decide_eq_true_eq]
   exact ⟨⟨⟨by omega, h2⟩, h3⟩, goL_sub t m.id m.id (Int.le_refl _) h4⟩
  ·exact goL_sub t m.id last' (by omega) h4
theorem lit_sub {ds : List Dc} {ls : List Lc} {p : Lc → Bool} (h : litR ds ls = true) : litR ds (ls.filter p) = true := by
 simp only [litR, Bool.and_eq_true, decide_eq_true_eq] at h ⊢
 exact ⟨⟨h.1.1, Nat.le_trans (List.length_filter_le _ _) h.1.2⟩, goL_sub ls 0 0 (Int.le_refl _) h.2⟩
theorem ffL_all {vs : List Wd} : ∀ (ls : List Lc), (∀ l ∈ ls, hldR vs l = true) → ffL vs ls = 0
 | [], _ => rfl
 | l :: t, h => by
  have h1 := h l (by simp)
  simp only [ffL, h1, if_true]
  exact ffL_all t fun m hm => h m (by simp [hm])
theorem ff_sub {ds : List Dc} {vs : List Wd} {ls : List Lc} (hv : valR ds vs = true) (h : litR ds ls = true) : ffR ds vs (ls.filter (hldR vs)) = 0 := by
 unfold ffR
 rw [if_pos ⟨hv, lit_sub h⟩]
 exact ffL_all _ fun l hl => (List.mem_filter.1 hl).2
theorem hol_each {ds : List Dc} {vs : List Wd} {ls : List Lc} (hv : valR ds vs = true) (h : litR ds ls = true) {l : Lc} (hl : l ∈ ls) : holR ds vs l = (hldR vs l, true) := by
 unfold holR
 rw [if_pos ⟨hv, (lit_each h l hl).2⟩]
theorem filter_ct (vs : List Wd) (xs : List Lg) : (xs.filter fun x => hldR vs x.ct).map Lg.ct = (xs.map Lg.ct).filter (hldR vs) := by
 induction xs with
 | nil => rfl
 | cons x t ih =>
  rw [List.filter_cons, List.map_cons, List.filter_cons]
  cases hldR vs x.ct <;> simp [ih]
theorem wk_count (vs : List Wd) (xs : List Lg) : ((xs.filter fun x => !hldR vs x.ct).length : Nat) = (wkL vs (xs.map Lg.ct)).length := by
 rw [← wk_ids, List.length_map]
theorem wkL_in {ds : List Dc} {vs : List Wd} {ls : List Lc} (h : litR ds ls = true) : ∀ z ∈ wkL vs ls, in64 z := fun z hz => by
 simp only [litR, Bool.and_eq_true, decide_eq_true_eq] at h
 obtain ⟨l, hl, rfl⟩ := List.mem_map.1 hz
 have := goL_each ls 0 (Int.le_refl _) h.2 l (List.mem_filter.1 hl).1
 unfold in64
 omega
theorem OW.form {w : World} {B : Nat} {v : Value} {xs : List Int} (h : OW w B v xs) : ∃ a c, v = .slice a xs.length c := by
 rcases h.2 with ⟨rfl, h0⟩ | ⟨g, cap, cur, rfl, -⟩
 ·exact ⟨none, 0, by rw [h0]⟩
 ·exact ⟨_, _, rfl⟩
set_option maxHeartbeats 1000000 in
set_option maxRecDepth 100000 in
theorem law_FnWeakened (a : Option Addr) (c : Nat) (bs : List Nat) (n : Nat) (hn : bs.length = n) (hn2 : n ≤ 1048576) (w : World) (h : RdB w a bs) (hG : GF w) :
  Calls Tryz.prog 4 #[.slice a n c] w fun e w' => e = .returned (.bool true) ∧ Below w.heap.size w w' := by
 have HBG := kide (big_any a n c w (by omega))
 rw [decide_eq_false (by omega)] at HBG
 have HDR := kide (drawWeaken_any odd_lit a c bs w h)
 rw [hn] at HDR
 have HG := kide hG
 clear h hn hG
 go_enter Tryz.func4, Tryz.ntmps4
 go_wp2_with fail
 refine Calls.mono HBG.out ?_
 rintro e wq ⟨rfl, hwq⟩
 obtain rfl := hwq.symm
 go_wp2_with fail
 refine Calls.mono HDR.out ?_
 rintro e w1 ⟨a1, c1, ds, a2, c2, vs, a3, c3, xs, rfl, rd, rx, rl, hl61, hb1⟩
 have B1 := kide hb1
 have HGF := kide (fun u (hu : Below w1.heap.size w1 u) => (HG.out.later hb1).later hu)
 have HRL := kide (fun u (hu : Below w1.heap.size w1 u) => rl.later hu)
 have HSP := kide (fun u (hu : Below w1.heap.size w1 u) => specWeaken_any a1 a2 a3 c1 c2 c3 xs.length vs.length ds vs xs u (rd.later hu) (rx.later hu) (rl.later hu) rfl rfl)
 have HIM := kide (fun u (hu : Below w1.heap.size w1 u) => implWeaken_any a1 a2 a3 c1 c2 c3 xs.length vs.length ds vs xs u (rd.later hu) (rx.later hu) (rl.later hu) rfl rfl (HGF.out u hu))
 have HHO := kide (fun u (hu : Below w1.heap.size w1 u) (x : Lg) (k : Nat) (hx : xs[k]? = some x) => by
  obtain ⟨b, o, e9, hat⟩ := (rl.later hu).at hx
  exact specHolds_any a1 a2 c1 c2 vs.length ds vs x u (rd.later hu) (rx.later hu) rfl hat.2.1 hat.2.2.1 hat.2.2.2)
 have HFF := kide (fun u (hu : Below w1.heap.size w1 u) (b : Option Addr) (d : Nat) (ys : List Lg) (hb : RdL u b ys) => implFirst_any a1 a2 b c1 c2 d ys.length vs.length ds vs ys u (rd.later hu) (rx.later hu) hb rfl rfl (HGF.out u hu))
 obtain ⟨nd, hnd⟩ : ∃ nd, ds.length = nd := ⟨_, rfl⟩
 obtain ⟨nx, hnx⟩ : ∃ nx, vs.length = nx := ⟨_, rfl⟩
 obtain ⟨nl, hnl⟩ : ∃ nl, xs.length = nl := ⟨_, rfl⟩
 have HNL := kide hnl
 rw [hnl] at hl61
 rw [hnd, hnx] at HSP HIM HHO HFF ⊢
 rw [hnl] at HSP HIM ⊢
 clear rd rx rl hb1 HDR HBG hnd hnx hnl
 by_cases hP : valR ds (vs.map Bw.ct) = true ∧ litR ds (xs.map Lg.ct) = true
 ·have e1 : wkR ds (vs.map Bw.ct) (xs.map Lg.ct) = (wkL (vs.map Bw.ct) (xs.map Lg.ct), true) := if_pos hP
  rw [e1] at HSP HIM
  have HP := kide hP
  obtain ⟨WL, hWL⟩ : ∃ WL, wkL (vs.map Bw.ct) (xs.map Lg.ct) = WL := ⟨_, rfl⟩
  rw [hWL] at HSP HIM
  simp only [] at HSP HIM
  have HWL := kide hWL
  have hw61 : WL.length ≤ 61 := by have := wkL_len (vs.map Bw.ct) (xs.map Lg.ct); rw [hWL, List.length_map, HNL.out] at this; omega
  clear e1 hP hWL
  go_wp2_with fail
  refine Calls.mono (HSP.out w1 (Below.refl _ _)) ?_
  rintro e w2 ⟨v2, rfl, -, hb2⟩
  have B2 := kide hb2
  clear hb2
  go_wp2_with fail
  refine Calls.mono (HIM.out w2 B2.out) ?_
  rintro e w3 ⟨v3, rfl, ho3, hb3⟩
  have B3 : Hid (Below w1.heap.size w1 w3) := B2.out.trans (hb3.mono B2.out.size)
  have OI3 : OI w3 w2.heap.size v3 WL := ho3
  obtain ⟨a4, c4, rfl, hri⟩ := OI3.rd (by omega) (by rw [← HWL.out]; exact wkL_in HP.out.2)
  have HHA := kide (fun u (hu : Below w3.heap.size w3 u) x => has_any a4 c4 WL x u (hri.later hu))
  obtain ⟨nw, hnw⟩ : ∃ nw, WL.length = nw := ⟨_, rfl⟩
  rw [hnw] at HHA hw61 ⊢
  have HNW := kide hnw
  clear hb3 ho3 OI3 hri B2 HSP HIM hnw
  go_wp2_with fail
  have L0 := kide (OL4.empty w3 w3.heap.size (Nat.le_refl _))
  have BE : Hid (Below w3.heap.size w3 (w3.alloc (Obj.cells #[] 30))) := (Below.refl _ _).alloc (Nat.le_refl _) _
  generalize w3.alloc (Obj.cells #[] 30) = w4 at *
  have HWP : Hid (∀ x ∈ xs, holR ds (vs.map Bw.ct) x.ct = (hldR (vs.map Bw.ct) x.ct, true) ∧ decide (x.id ∈ WL) = !hldR (vs.map Bw.ct) x.ct) := fun x hx => by
   have hm : x.ct ∈ xs.map Lg.ct := List.mem_map_of_mem hx
   refine ⟨hol_each HP.out.1 HP.out.2 hm, ?_⟩
   rw [← HWL.out]
   exact wk_has HP.out.2 hm
  have HCN : Hid ((xs.filter fun x => !hldR (vs.map Bw.ct) x.ct).length = nw) := by
   show _ = _
   rw [wk_count, HWL.out, HNW.out]
  have HFE : Hid (ffR ds (vs.map Bw.ct) ((xs.filter fun x => hldR (vs.map Bw.ct) x.ct).map Lg.ct) = 0) := by
   show _ = _
   rw [filter_ct]
   exact ff_sub HP.out.1 HP.out.2
  clear HP HWL HNW
  generalize vs.map Bw.ct = VS at *
  go_loopw [10, 11, 12] (fun o r q wr => ∃ k m : Nat, k ≤ nl ∧ q = .int .i64 (k : Int) ∧ r = .int .i64 (m : Int) ∧ m = ((xs.take k).filter fun x => !hldR VS x.ct).length ∧ OL4 wr w3.heap.size o ((xs.take k).filter fun x => hldR VS x.ct) ∧ Below w3.heap.size w3 wr) (fun _ _ q _ => nl - (intOf q).toNat)
  case atStart => exact ⟨0, 0, Nat.zero_le _, rfl, rfl, rfl, L0.out, BE.out⟩
  case round =>
   clear L0 BE
   obtain ⟨k, m, hk, rfl, rfl, hm, ho, hbw⟩ := hrel
   have HO := kide ho
   have HM := kide hm
   have BW := kide hbw
   have BX : Hid (Below w1.heap.size w1 wr) := B3.out.trans (hbw.mono B3.out.size)
   obtain ⟨av, cv, hv⟩ := ol4_form ho
   subst hv
   obtain ⟨p, hp⟩ : ∃ p, ((xs.take k).filter fun x => hldR VS x.ct).length = p := ⟨_, rfl⟩
   rw [hp] at HO ⊢
   have hp61 : p ≤ 61 := by
    rw [← hp]
    refine Nat.le_trans (List.length_filter_le _ _) ?_
    rw [List.length_take]
    omega
   have hm61 : m ≤ 61 := by
    rw [hm]
    refine Nat.le_trans (List.length_filter_le _ _) ?_
    rw [List.length_take]
    omega
   have HPL := kide hp
   clear ho hm hbw hp
   by_cases hlt : k < nl
   ·obtain ⟨x, hx⟩ : ∃ x, xs[k]? = some x := ⟨_, List.getElem?_eq_getElem (by rw [HNL.out]; exact hlt)⟩
    have hxm := List.mem_of_getElem? hx
    obtain ⟨h1, h2⟩ := HWP.out x hxm
    have HC := kide (HHO.out wr BX.out x k hx)
    rw [h1] at HC
    have HD1 := kide (fun u (hu : Below w3.heap.size w3 u) => HHA.out u hu x.id)
    rw [h2] at HD1
    obtain ⟨b, o, rfl, hat⟩ := (HRL.out wr BX.out).at hx
    obtain ⟨⟨p0, p1, p2, p3⟩, -⟩ := hat
    have HTK := kide (filter_take (p := fun x => hldR VS x.ct) hx)
    have HTN := kide (filter_take (p := fun x => !hldR VS x.ct) hx)
    have i0 : (k : Int) < (nl : Int) := by omega
    have HXM := kide hx
    generalize hldR VS x.ct = H at *
    simp only [Lg.val] at HC
    clear h1 h2 hx hxm
    go_wp2_with fail
    refine Calls.mono HC.out ?_
    rintro e w5 ⟨rfl, hb5⟩
    have O5 := kide (HO.out.later hb5)
    have B5 : Hid (Below w3.heap.size w3 w5) := BW.out.trans (hb5.mono BW.out.size)
    have Y5 : Hid (Below w1.heap.size w1 w5) := BX.out.trans (hb5.mono BX.out.size)
    obtain ⟨b2, o2, e2, hat5⟩ := (HRL.out w5 Y5.out).at HXM.out
    cases e2
    obtain ⟨⟨q0, q1, q2, q3⟩, -⟩ := hat5
    clear hb5 p0 p1 p2 p3 HO HC
    go_wp2_with fail
    refine Calls.mono (HD1.out w5 B5.out) ?_
    rintro e wj ⟨rfl, hwj⟩
    obtain rfl := hwj.symm
    cases H with
    | true =>
     simp only [if_true, Bool.not_true, Bool.false_eq_true, if_false, List.append_nil] at HTK HTN
     have BA : Hid (Below w5.heap.size w5 (w5.alloc (Obj.cells #[.int .i64 x.id, .bool x.eq, .slice x.sa x.ss.length x.sc, .slice x.ta x.ts.length x.tc] 30))) := (Below.refl _ _).alloc (Nat.le_refl _) _
     have OA := kide (O5.out.later BA.out)
     have hll : ((xs.take k).filter fun x => hldR VS x.ct).length ≤ 1073741824 := by rw [HPL.out]; omega
     have hsz : w3.heap.size ≤ w5.heap.size + 1 := by have := B5.out.size; omega
     go_wp2_with (at_builtin; refine wpList_appL4 rfl _ _ rfl w3.heap.size _ _ x rfl OA.out _ rfl (by simp) (by simp) (by simp) (by simp) hll (by simpa using hsz) ?_)
     intro v6 w6 ho6 hg6
     have B6 : Hid (Below w3.heap.size w3 w6) := Below.grown (B5.out.trans (BA.out.mono B5.out.size)) hg6 (by have := B5.out.size; have := BA.out.size; omega) (fun j hj => (OA.out.lt hj).1)
     have O6 : Hid (OL4 w6 w3.heap.size v6 ((xs.take (k + 1)).filter fun x => hldR VS x.ct)) := by
      show OL4 _ _ _ _
      rw [HTK.out]
      exact ho6
     have M6 : Hid (m = ((xs.take (k + 1)).filter fun x => !hldR VS x.ct).length) := by
      show _ = _
      rw [HTN.out]
      exact HM.out
     clear ho6 hg6 OA BA O5 B5 hll HTK HTN HM
     go_wp2_with fail
     go_roundw
     case rel => exact ⟨k + 1, m, by omega, by first | rfl | go_num, rfl, M6.out, O6.out, B6.out⟩
     case measure => first | (simp [intOf]; omega) | omega
    | false =>
     simp only [if_true, Bool.not_false, Bool.false_eq_true, if_false, List.append_nil] at HTK HTN
     have O6 : Hid (OL4 w5 w3.heap.size (.slice av p cv) ((xs.take (k + 1)).filter fun x => hldR VS x.ct)) := by
      show OL4 _ _ _ _
      rw [HTK.out]
      exact O5.out
     have M6 : Hid (m + 1 = ((xs.take (k + 1)).filter fun x => !hldR VS x.ct).length) := by
      show _ = _
      rw [HTN.out, List.length_append, ← HM.out]
      rfl
     clear HTK HTN HM O5
     go_wp2_with fail
     go_roundw
     case rel => exact ⟨k + 1, m + 1, by omega, by first | rfl | go_num, by first | rfl | go_num, M6.out, O6.out, B5.out⟩
     case measure => first | (simp [intOf]; omega) | omega
   ·obtain rfl : k = nl := by omega
    have hT : xs.take k = xs := by rw [← HNL.out]; exact List.take_length
    rw [hT] at HM HO HPL
    have hmn : m = nw := by rw [HM.out]; exact HCN.out
    obtain ⟨a9, c9, e9, hrl⟩ := HO.out.rd (by rw [HPL.out]; omega) (fun x hx => by
     obtain ⟨j, hj⟩ := List.getElem?_of_mem (List.mem_filter.1 hx).1
     obtain ⟨b, o, -, hat⟩ := (HRL.out wr BX.out).at hj
     exact hat.2)
    have HF1 := kide (HFF.out wr BX.out a9 c9 _ hrl)
    rw [HFE.out] at HF1
    rw [HPL.out] at e9 HF1
    cases e9
    have i0 : ¬ (k : Int) < (k : Int) := by omega
    have i1 : ((m : Int) == (nw : Int)) = true := by rw [hmn]; simp
    clear hrl hT hmn HM
    go_wp2_with fail
    refine Calls.mono HF1.out ?_
    rintro e w6 ⟨rfl, hb6⟩
    have B6 : Hid (Below w1.heap.size w1 w6) := BX.out.trans (hb6.mono BX.out.size)
    clear hb6
    go_wp2_with fail
    go_ret
    exact ⟨rfl, B1.out.trans (B6.out.mono B1.out.size)⟩
 ·have e1 : wkR ds (vs.map Bw.ct) (xs.map Lg.ct) = ([], false) := if_neg hP
  rw [e1] at HSP HIM
  simp only [] at HSP HIM
  clear e1 hP HHO HFF
  go_wp2_with fail
  refine Calls.mono (HSP.out w1 (Below.refl _ _)) ?_
  rintro e w2 ⟨v2, rfl, -, hb2⟩
  have B2 := kide hb2
  clear hb2
  go_wp2_with fail
  refine Calls.mono (HIM.out w2 B2.out) ?_
  rintro e w3 ⟨v3, rfl, ho3, hb3⟩
  have B3 : Hid (Below w1.heap.size w1 w3) := B2.out.trans (hb3.mono B2.out.size)
  obtain ⟨a4, c4, rfl⟩ := OW.form ho3
  clear hb3 ho3
  go_wp2_with fail
  go_ret
  exact ⟨by first | rfl | simp, B1.out.trans (B3.out.mono B1.out.size)⟩
theorem walk_FnWeakened (a : Option Addr) (n c : Nat) (hn : n ≤ 9223372036854775807) (w : World) (hG : GF w) (hx : n ≤ 1048576 → ∃ bs : List Nat, bs.length = n ∧ RdB w a bs) :
  Calls Tryz.prog 4 #[.slice a n c] w fun e w' => e = .returned (.bool true) ∧ Below w.heap.size w w' := by
 by_cases hle : n ≤ 1048576
 ·obtain ⟨bs, hb, hr⟩ := hx hle
  exact law_FnWeakened a c bs n hb hle w hr hG
 ·have HBG := kide (big_any a n c w (by omega))
  rw [decide_eq_true (by omega)] at HBG
  clear hx
  go_enter Tryz.func4, Tryz.ntmps4
  go_wp2_with fail
  refine Calls.mono HBG.out ?_
  rintro e wq ⟨rfl, hwq⟩
  obtain rfl := hwq.symm
  go_wp2_with fail
  go_ret
  exact ⟨rfl, Below.refl _ _⟩

end Go.Proofs.YtkngpgonmedgpaaGreatDoor
