/- The law FnFlatParts returns true, whatever it is handed. -/
import Derived.Test.YtffcklobignlfaaGAV
import Derived.Test.YtffcklobignlfaaGAU
import Derived.Test.YtffcklobignlfaaGAZ
namespace Go.Proofs.Ytffcklobignlfaa
set_option linter.unusedVariables false
set_option linter.unusedSimpArgs false
open Go.RowKit
theorem ss_lt {w : World} {B : Nat} {v : Value} {l : List Sg} (h : Ss w B v l) : ∀ x ∈ l, ∀ q, x.a = some q → q.block < w.heap.size := fun x hx q hq => (nw_lt (h.2 x hx) hq).2
theorem okF_of {l : List Sg} {X : List Sc} (e : l.map Sg.ct = X) (hX : ∀ y ∈ X, okF y) : ∀ x ∈ l, okF x.ct := fun x hx => hX _ (by rw [← e]; exact List.mem_map_of_mem hx)
set_option maxHeartbeats 4000000 in
set_option maxRecDepth 100000 in
theorem law_FnFlatParts (a : Option Addr) (c : Nat) (bs : List Nat) (n : Nat) (hn : bs.length = n) (hn2 : n ≤ 1048576) (w : World) (h : RdB w a bs) :
  Calls Try.prog 3 #[.slice a n c] w fun e w' => e = .returned (.bool true) ∧ Below w.heap.size w w' := by
 have HBG := kide (big_any a n c w (by omega))
 rw [decide_eq_false (by omega)] at HBG
 have HDR := kide (drawFP_any a c n bs w h hn)
 clear h hn
 go_enter Try.func3, Try.ntmps3
 go_wp2_with fail
 refine Calls.mono HBG.out ?_
 rintro e wq ⟨rfl, hwq⟩
 obtain rfl := hwq.symm
 clear hwq
 go_wp2_with fail
 refine Calls.mono HDR.out ?_
 rintro e w1 ⟨vd, ds, v, l, hi, lo, rfl, hod, h1, h6, hdw, hss, hno, hok, hl, h64, l64, hb1⟩
 obtain ⟨da, dc, rfl, rd⟩ := hod.rd (by omega) (fun x hx => by have := hdw x hx; exact ⟨by unfold in64; omega, by omega⟩)
 obtain ⟨fa, fc, rfl, rs⟩ := hss.rdN (by omega) hok
 have hpl := ss_lt hss
 have hwd := rds_words rs
 have HSP := kide (specFPart_any da fa dc fc l.length ds l hi 0 w1 rd rs rfl h64 (by unfold in64; omega))
 have HIM := kide (fun (u : World) (hi lo : Int) (hu : Below w1.heap.size w1 u) (h1 : in64 hi) (h2 : in64 lo) => implPartFN_any da fa dc fc l.length ds l hi lo u (rd.later hu) (rs.later hu) rfl hno (fun x hx q hq => Nat.lt_of_lt_of_le (hpl x hx q hq) hu.size) h1 h2)
 have HJN := kide (fun (u : World) (ha la : Option Addr) (hc nh lc nl : Nat) (hs ls : List Sg) (hu : Below w1.heap.size w1 u) => implJoin_any da ha la dc hc nh lc nl ds hs ls u (rd.later hu))
 have HRS := kide (fun u (hu : Below w1.heap.size w1 u) => rs.later hu)
 have HOK := kide hok
 have HWD := kide hwd
 have B1 := kide hb1
 have H64 := kide h64
 generalize hnd : ds.length = nd at *
 generalize hnl : l.length = nl at *
 have HND := kide hnd
 have HNL := kide hnl
 have hnl2 : nl ≤ 2001 := hl
 clear hod hss hno hdw hpl hwd rd rs hok hb1 HDR HBG hnd hnl hl l64
 by_cases hg : flatR ds (l.map Sg.ct) = true ∧ 0 ≤ hi ∧ hi < sumS (l.map Sg.ct)
 ·obtain ⟨hf, hi0, hi1⟩ := hg
  obtain ⟨H, rfl⟩ : ∃ H : Nat, hi = (H : Int) := ⟨hi.toNat, by omega⟩
  obtain ⟨q1, q2, q3⟩ := parts_back hf HWD.out hi1
  have hF2 := hf
  rw [flatR_form] at hF2
  simp only [Bool.and_eq_true] at hF2
  obtain ⟨hd9, hfr⟩ := hF2
  obtain ⟨hall, hs1, hs2, hl9⟩ := formR_sum hd9 hfr
  have HI2 := kide (fun u (hu : Below w1.heap.size w1 u) => HIM.out u (H : Int) 0 hu H64.out (by unfold in64; omega))
  obtain ⟨oL, nL⟩ := fpt_ok (ds := ds) (fs := l.map Sg.ct) (hi := (H : Int)) (lo := 0) (HRS.out w1 (Below.refl _ _)).okF
  rw [q1] at HSP HI2 oL nL
  simp only [] at oL nL
  have HTK := kide (fun k => take_sum (fs := l.map Sg.ct) (fun s hs => (hall s hs).2.1) k)
  have HAL := kide hall
  have HTS := kide (fun (k : Nat) (s : Sc) (e : (l.map Sg.ct)[k]? = some s) => sumS_take e)
  obtain ⟨SS, hSS⟩ : ∃ z, sumS (l.map Sg.ct) = z := ⟨_, rfl⟩
  rw [hSS] at hi1 hs1 hs2 q2 q3 HTK
  have HSS := kide hSS
  have Q2 := kide q2
  have Q3 := kide q3
  have OL := kide oL
  have NL := kide nL
  obtain ⟨SN, rfl⟩ : ∃ SN : Nat, SS = (SN : Int) := ⟨SS.toNat, by omega⟩
  have hSN : SN ≤ 4096 := by omega
  have hHS : H < SN := by omega
  clear q1 q2 q3 oL nL hf hd9 hfr hall hs1 hs2 hl9 hSS hi0 hi1
  go_wp2_with fail
  refine Calls.mono HSP.out ?_
  rintro e w2 ⟨v2, l2, rfl, -, -, hb2⟩
  have B2 := kide hb2
  clear hb2
  go_wp2_with fail
  refine Calls.mono (HI2.out w2 B2.out) ?_
  rintro e w3 ⟨v3, l3, rfl, hl3, hs3, -, hb3, hno3⟩
  simp only [] at hl3
  obtain ⟨la, lc, rfl, rl3⟩ := hs3.rdN (by have := NL.out; rw [← hl3, List.length_map] at this; omega) (okF_of hl3 OL.out)
  have B3 := kide (B2.out.trans (hb3.mono B2.out.size))
  have S3 := kide hs3
  have RL3 := kide rl3
  have L3 := kide hl3
  have NO3 := kide hno3
  obtain ⟨n3, hn3⟩ : ∃ m, l3.length = m := ⟨_, rfl⟩
  rw [hn3]
  have HN3 := kide hn3
  clear hb3 hs3 rl3 hl3 hno3 hn3 HSP HI2
  go_wp2_with fail
  go_loopw [11, 12] (fun q i wr => ∃ k T : Nat, k ≤ nl ∧ i = .int .i64 (k : Int) ∧ q = .int .i64 (T : Int) ∧ sumS ((l.map Sg.ct).take k) = (T : Int) ∧ Below w3.heap.size w3 wr) (fun _ i _ => nl - (intOf i).toNat)
  case atStart => exact ⟨0, 0, Nat.zero_le _, rfl, rfl, rfl, Below.refl _ _⟩
  case round =>
   obtain ⟨k, T, hk, rfl, rfl, hT, hbel⟩ := hrel
   have HB := kide hbel
   have BW := kide (B3.out.trans (hbel.mono B3.out.size))
   have HT := kide hT
   clear hT hbel
   by_cases hlt : k < nl
   ·obtain ⟨-, h | ⟨b1, o1, rfl, hc1⟩⟩ := HRS.out wr BW.out
    ·have := HNL.out; rw [h] at this; simp at this; omega
    obtain ⟨x, gx⟩ : ∃ y, l[k]? = some y := ⟨l[k]'(by rw [HNL.out]; exact hlt), List.getElem?_eq_getElem _⟩
    obtain ⟨⟨p0, p1, p2, p3, p4⟩, pr, -⟩ := hc1 k x gx
    simp only [Sg.hd] at p2
    have gm : (l.map Sg.ct)[k]? = some x.ct := by rw [List.getElem?_map, gx]; rfl
    have hwx := (HAL.out x.ct (List.mem_of_getElem? gm)).2
    have hnx := HTS.out k x.ct gm
    have hle := HTK.out (k + 1)
    rw [HT.out] at hnx
    rw [hnx] at hle
    have HNX := kide hnx
    obtain ⟨V, hV⟩ : ∃ V : Nat, x.ct.wd = (V : Int) := ⟨x.ct.wd.toNat, by omega⟩
    rw [hV] at p2 hle HNX
    have hs9 : IntKind.i64.wrap ((T : Int) + (V : Int)) = (T : Int) + (V : Int) := by rw [IntKind.wrap_i64]; omega
    have i0 : (k : Int) < (nl : Int) := by omega
    have HKL := kide hlt
    have t9 : IntKind.i64.wrap ((k : Int) + 1) = (k : Int) + 1 := by rw [IntKind.wrap_i64]; omega
    clear hc1 gx gm hwx hnx hle p0 p1 p3 p4 pr hV hk hlt
    go_wp2_with fail
    go_roundw
    case rel => exact ⟨k + 1, T + V, HKL.out, by go_num, by go_num, by rw [HNX.out]; go_num, HB.out⟩
    case measure => have := HKL.out; simp only [intOf]; omega
   ·obtain rfl : k = nl := by omega
    have hTS : T = SN := by
     have h9 := HT.out
     rw [List.take_of_length_le (by rw [List.length_map, HNL.out]; exact Nat.le_refl _), HSS.out] at h9
     omega
    subst hTS
    obtain ⟨T1, hT1⟩ : ∃ T1 : Nat, (T : Int) - 1 = (T1 : Int) := ⟨T - 1, by omega⟩
    have hTw : IntKind.i64.wrap ((T : Int) - 1) = (T1 : Int) := by rw [IntKind.wrap_i64]; omega
    have i0 : ¬ (k : Int) < (k : Int) := by omega
    have BX := kide (B1.out.trans (BW.out.mono B1.out.size))
    by_cases hHT : (H : Int) = (T1 : Int)
    ·have e9 : ((H : Int) == (T1 : Int)) = true := by simp [hHT]
     have hLF := Q2.out (by omega)
     have hc9 : l3.map Sg.ct = l.map Sg.ct := by rw [L3.out, hLF]
     have hn9 : l3.length = k := by have := congrArg List.length hc9; simp [HNL.out] at this; exact this
     obtain rfl : n3 = k := by rw [← HN3.out]; exact hn9
     have HSM := kide (lawSame_any la fa lc fc n3 l3 l wr (RL3.out.later HB.out) hn9 (HRS.out wr BW.out) hc9)
     clear hHT hLF hc9 hn9 hk hT1
     go_wp2_with fail
     refine Calls.mono HSM.out ?_
     rintro e w5 ⟨rfl, hb5⟩
     have B5 := kide (BX.out.trans (hb5.mono BX.out.size))
     clear hb5
     go_wp2_with fail
     go_ret
     exact ⟨rfl, B5.out⟩
    ·have e9 : ((H : Int) == (T1 : Int)) = false := by simp [hHT]
     obtain ⟨q4, q5⟩ := Q3.out (by omega)
     rw [hT1] at q4
     have hHw : IntKind.i64.wrap ((H : Int) + 1) = (H : Int) + 1 := by rw [IntKind.wrap_i64]; omega
     have HI3 := kide (HIM.out wr (T1 : Int) ((H : Int) + 1) BW.out (by unfold in64; omega) (by unfold in64; omega))
     obtain ⟨oT, nT⟩ := fpt_ok (ds := ds) (fs := l.map Sg.ct) (hi := (T1 : Int)) (lo := (H : Int) + 1) (HRS.out wr BW.out).okF
     rw [q4] at HI3 oT nT
     simp only [] at oT nT
     have OT9 := kide oT
     have NT := kide nT
     have Q5 := kide q5
     clear q4 q5 oT nT hHT hT1 hk
     go_wp2_with fail
     refine Calls.mono HI3.out ?_
     rintro e w5 ⟨v5, l5, rfl, hl5, hs5, -, hb5, hno5⟩
     simp only [] at hl5
     obtain ⟨ta, tc, rfl, rl5⟩ := hs5.rdN (by have := NT.out; rw [← hl5, List.length_map] at this; omega) (okF_of hl5 OT9.out)
     have bw5 := BW.out.trans (hb5.mono BW.out.size)
     have hl35 := RL3.out.later (HB.out.trans (hb5.mono HB.out.size))
     have HJ := kide (HJN.out w5 ta la tc l5.length lc n3 l5 l3 bw5 rl5 rfl hl35 HN3.out hno5 (ss_lt hs5) NO3.out (fun x hx q hq => Nat.lt_of_lt_of_le (ss_lt S3.out x hx q hq) (HB.out.trans (hb5.mono HB.out.size)).size))
     rw [hl5, L3.out, Q5.out] at HJ
     have B5 := kide bw5
     generalize l5.length = n5 at *
     clear hb5 hs5 rl5 hl5 hno5 bw5 hl35 HI3
     go_wp2_with fail
     refine Calls.mono HJ.out ?_
     rintro e w6 ⟨v6, l6, rfl, hl6, hs6, -, hb6⟩
     simp only [] at hl6
     have hn6 : l6.length = k := by have := congrArg List.length hl6; simp [HNL.out] at this; exact this
     obtain ⟨ja, jc, rfl, rl6⟩ := hs6.rdN (by omega) (okF_of hl6 (fun y hy => by obtain ⟨z, hz, rfl⟩ := List.mem_map.1 hy; exact HOK.out z hz))
     have bw6 := B5.out.trans (hb6.mono B5.out.size)
     have HSM := kide (lawSame_any ja fa jc fc k l6 l w6 rl6 hn6 (HRS.out w6 bw6) hl6)
     have B6 := kide (B1.out.trans (bw6.mono B1.out.size))
     rw [hn6]
     clear hb6 hs6 rl6 hl6 hn6 bw6 HJ
     go_wp2_with fail
     refine Calls.mono HSM.out ?_
     rintro e w7 ⟨rfl, hb7⟩
     have B7 := kide (B6.out.trans (hb7.mono B6.out.size))
     clear hb7
     go_wp2_with fail
     go_ret
     exact ⟨rfl, B7.out⟩
 ·have hX : fptR ds (l.map Sg.ct) hi 0 = ([], false) := by unfold fptR; rw [if_neg]; intro h9; exact hg ⟨h9.1, h9.2.2.1, h9.2.2.2⟩
  have HI2 := kide (fun u (hu : Below w1.heap.size w1 u) => HIM.out u hi 0 hu H64.out (by unfold in64; omega))
  rw [hX] at HSP HI2
  clear hX hg HIM
  go_wp2_with fail
  refine Calls.mono HSP.out ?_
  rintro e w2 ⟨v2, l2, rfl, -, -, hb2⟩
  have B2 := kide hb2
  clear hb2
  go_wp2_with fail
  refine Calls.mono (HI2.out w2 B2.out) ?_
  rintro e w3 ⟨v3, l3, rfl, -, -, -, hb3, -⟩
  have B3 := kide (B1.out.trans ((B2.out.trans (hb3.mono B2.out.size)).mono B1.out.size))
  clear hb3
  go_wp2_with fail
  go_ret
  exact ⟨rfl, B3.out⟩
theorem walk_FnFlatParts (a : Option Addr) (n c : Nat) (hn : n ≤ 9223372036854775807) (w : World) (hx : n ≤ 1048576 → ∃ bs : List Nat, bs.length = n ∧ RdB w a bs) :
  Calls Try.prog 3 #[.slice a n c] w fun e w' => e = .returned (.bool true) ∧ Below w.heap.size w w' := by
 by_cases h : n ≤ 1048576
 ·obtain ⟨bs, hl, hb⟩ := hx h
  exact law_FnFlatParts a c bs n hl h w hb
 ·have HBG := kide (big_any a n c w hn)
  rw [decide_eq_true (by omega)] at HBG
  clear hx
  go_enter Try.func3, Try.ntmps3
  go_wp2_with fail
  refine Calls.mono HBG.out ?_
  rintro e wq ⟨rfl, hwq⟩
  obtain rfl := hwq.symm
  go_wp2_with fail
  go_ret
  exact ⟨rfl, Below.refl _ _⟩
end Go.Proofs.Ytffcklobignlfaa
