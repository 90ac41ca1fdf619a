/- Several texts in one. -/
import Derived.Test.YtnpjgoklpaigjaaGreatDoorGAB
import Derived.Test.YtnpjgoklpaigjaaGreatDoorGAQ
import Derived.Handy
import Derived.Test.YtnpjgoklpaigjaaGreatDoorGAP
import Derived.Test.YtnpjgoklpaigjaaGreatDoorGAO
import Derived.Test.YtnpjgoklpaigjaaGreatDoorRX
import Derived.Test.YtnpjgoklpaigjaaGreatDoorGAM
namespace Go.Proofs.YtnpjgoklpaigjaaGreatDoor
open Go.RowKit
set_option linter.unusedVariables false
set_option linter.unusedSimpArgs false
open Go.RowKit Go.Shelf
def RetFt (bs : List (List Ib)) (w : World) (e : Ending) (w' : World) : Prop := Below w.heap.size w w' ∧ ((∃ v l, e = .returned (.tuple #[v, .bool true]) ∧ Fg w' w.heap.size v (formB (bs.getD (bs.length - 1) [])) l ∧ ∀ x ∈ bs, (formB x).length ≤ 2000) ∨
 (e = .returned (.tuple #[.slice none 0 0, .bool false]) ∧ ∃ x ∈ bs, 2000 < (formB x).length))
set_option maxHeartbeats 4000000 in
set_option maxRecDepth 100000 in
theorem flatTerm_any (da ta : Option Addr) (dc nd tc n : Nat) (ds : List Dc) (xs : List Tg) (w : World) (hd : RdD w da ds) (hnd : ds.length = nd) (ht : RdT w ta xs) (hn : xs.length = n) (hr : ¬ (widthsR ds (xs.map Tg.ct)).length = 0) (hno : ∀ x ∈ xs, x.wa = none → x.wc = 0) (hpw : ∀ x ∈ xs, ∀ q, x.wa = some q → q.block < w.heap.size) (hpk : ∀ x ∈ xs, ∀ q, x.ka = some q → q.block < w.heap.size) :
  Calls Tryz.prog 37 #[.slice da nd dc, .agg #[.slice ta n tc]] w (RetFt (bitsN ds [] (xs.map Tg.ct)) w) := by
 have hv64 : ∀ m ∈ xs.map Tg.ct, in64 m.vr := fun m hm => by
  obtain ⟨x, hx, rfl⟩ := List.mem_map.1 hm
  obtain ⟨i, hi⟩ := List.getElem?_of_mem hx
  rcases ht.2 with h0 | ⟨b, o, -, hc⟩
  ·rw [h0] at hi; simp at hi
  ·exact (hc i x hi).2.2.2.2.1
 obtain ⟨hdc, hn1, hn4, hAl, hFN⟩ := right_at hr hv64
 rw [List.length_map, hn] at hn1 hn4 hAl
 obtain ⟨tb, tq, rfl, hcs⟩ : ∃ tb tq, ta = some ⟨tb, tq, none⟩ ∧ ∀ i x, xs[i]? = some x → TgAt w tb (tq + i * 7) x := by
  rcases ht.2 with h0 | ⟨b, o, e, hc⟩
  ·rw [h0] at hn; simp at hn; omega
  ·exact ⟨b, o, e, hc⟩
 have hmk := make_sss n (by omega)
 obtain ⟨b, hb⟩ : ∃ b, w.heap.size = b := ⟨_, rfl⟩
 have HB := kide hb
 obtain ⟨w2, hw2⟩ : ∃ w2, (w.alloc (Obj.cells #[.slice (some ⟨tb, tq, none⟩) n tc] 30)).alloc (.cells (madeCells #[.slice none 0 0] n) 45) = w2 := ⟨_, rfl⟩
 have b2 : Below w.heap.size w w2 := by rw [← hw2]; exact (blA _ _).alloc (by simp) _
 have T0 : Hid (Ft w b (b + 1) n (bitsN ds [] ((xs.map Tg.ct).take 0)) w2) := by
  refine ⟨⟨madeCells #[.slice none 0 0] n, ?_, size_madeCells _ _, fun j z e => ?_, fun i hi => by simp [bitsN] at hi⟩, by rw [← hb]; exact b2⟩
  ·have h9 := Bz.new (w.alloc (Obj.cells #[.slice (some ⟨tb, tq, none⟩) n tc] 30)) (madeCells #[.slice none 0 0] n) 45
   rw [World.size_alloc, hb] at h9
   rw [← hw2]
   exact h9
  ·rw [← Array.getElem?_toList, toList_madeCells_one, List.getElem?_replicate] at e
   split at e
   ·cases e
   ·cases e
 have c0 : w2.cell? ⟨b, 0, none⟩ = some (.slice (some ⟨tb, tq, none⟩) n tc) := by
  have h9 := (Bz.new w #[.slice (some ⟨tb, tq, none⟩) n tc] 30).later ((Below.refl _ _).alloc (Nat.le_refl _) (.cells (madeCells #[.slice none 0 0] n) 45))
  rw [hw2, hb] at h9
  exact h9.cell 0
 have hz2 : w2.heap.size = b + 2 := by rw [← hw2]; simp [hb]
 have HD := kide hd
 have HND := kide hnd
 have HCS := kide hcs
 have HN := kide hn
 have HNO := kide hno
 have HPW := kide hpw
 have HPK := kide hpk
 have HAL := kide hAl
 have HFN := kide hFN
 clear hd hnd ht hn hr hno hpw hpk hAl hFN hcs hv64 b2
 go_enter Tryz.func37, Tryz.ntmps37
 go_wp2_with fail
 clear hmk hw2 c0
 go_loopw [18] (fun i wr => ∃ k : Nat, k ≤ n ∧ i = .int .i64 (k : Int) ∧ Ft w b (b + 1) n (bitsN ds [] ((xs.map Tg.ct).take k)) wr ∧ ∀ y ∈ bitsN ds [] ((xs.map Tg.ct).take k), (formB y).length ≤ 2000) (fun i _ => n - (intOf i).toNat)
 case atStart => exact ⟨0, Nat.zero_le _, rfl, T0.out, fun y hy => by simp [bitsN] at hy⟩
 case round =>
  obtain ⟨k, hk, rfl, hft, hle⟩ := hrel
  have HFT := kide hft
  have HLE := kide hle
  have hsz := (show ∃ cur, Bz wr (b + 1) cur 45 from ⟨_, hft.row.choose_spec.1⟩)
  obtain ⟨cur9, hc9⟩ := hsz
  have hl9 := hc9.lt
  clear hft hle hc9
  by_cases hlt : k < n
  ·obtain ⟨x, hx⟩ : ∃ x, xs[k]? = some x := ⟨xs[k]'(by rw [HN.out]; exact hlt), List.getElem?_eq_getElem _⟩
   have hxm : (xs.map Tg.ct)[k]? = some x.ct := by rw [List.getElem?_map, hx]; rfl
   have hm := List.mem_of_getElem? hx
   obtain ⟨⟨p0, p1, p2, p3, p4, p5, p6⟩, r1, r2, -, r4, -⟩ := HCS.out k x hx
   simp only [Tg.hd] at p0 p1 p2 p3 p4 p5 p6
   have hbel := HFT.out.bel
   have ltb : tb < b := by rw [← HB.out]; exact block_lt_of_cell p0
   replace p0 := (hbel.cell (p := ⟨tb, tq + k * 7, none⟩) ltb).trans p0
   replace p1 := (hbel.cell (p := ⟨tb, tq + k * 7 + 1, none⟩) ltb).trans p1
   replace p2 := (hbel.cell (p := ⟨tb, tq + k * 7 + 2, none⟩) ltb).trans p2
   replace p3 := (hbel.cell (p := ⟨tb, tq + k * 7 + 3, none⟩) ltb).trans p3
   replace p4 := (hbel.cell (p := ⟨tb, tq + k * 7 + 4, none⟩) ltb).trans p4
   replace p5 := (hbel.cell (p := ⟨tb, tq + k * 7 + 5, none⟩) ltb).trans p5
   replace p6 := (hbel.cell (p := ⟨tb, tq + k * 7 + 6, none⟩) ltb).trans p6
   have hnx := bitsN_next ds hxm []
   have hfn := HFN.out k x.ct hxm
   have hal := HAL.out k hk
   have hlk : (bitsN ds [] ((xs.map Tg.ct).take k)).length = k := by rw [bitsN_len, List.length_take, List.length_map, HN.out]; simp; omega
   obtain ⟨all, hall⟩ : ∃ all, bitsN ds [] ((xs.map Tg.ct).take k) = all := ⟨_, rfl⟩
   rw [hall] at HFT HLE hnx hfn hal hlk
   obtain ⟨hP, hOK, hSU⟩ := sgL_P hfn r1.2.1
   have BV : Hid (Below wr.heap.size wr (wr.alloc (Obj.cells #[.int .i64 x.ct.op, .int .i64 x.ct.vr, .int .i64 x.ct.a, .int .i64 x.ct.b, .int .i64 x.ct.bw, .slice x.wa x.ct.ws.length x.wc, .slice x.ka x.ct.ks.length x.kc] 67))) := blA _ _
   have HSG := kide (fun u (hu : Below wr.heap.size wr u) => segsOf_it da dc nd ds x (some ⟨b + 1, 0, none⟩) n n all u (HD.out.later (by rw [HB.out]; exact hbel.trans (hu.mono (by omega)))) HND.out ⟨r1.later (by rw [HB.out]; exact hbel.trans (hu.mono (by omega))), r2.later (by rw [HB.out]; exact hbel.trans (hu.mono (by omega))), HNO.out x hm, fun q hq => by have h9 := HPW.out x hm q hq; have := hu.size; have := HB.out; omega, fun q hq => by have h9 := HPK.out x hm q hq; have := hu.size; have := HB.out; omega, r4⟩ ((HFT.out.later hu (by omega)).ah hal) (by omega) (by omega) hfn)
   have HNX := kide hnx
   have HP := kide hP
   have HOK := kide hOK
   have HSU := kide hSU
   have HFNK := kide hfn
   have HLK := kide hlk
   have HALL := kide hall
   have HXM := kide hxm
   have hk1 : (k : Int) < (n : Int) := by omega
   have hk0 : (k : Int) ≥ 0 := by omega
   have hkw : IntKind.i64.wrap ((k : Int) + 1) = (k : Int) + 1 := by rw [IntKind.wrap_i64]; omega
   clear hx hxm hm r1 r2 r4 hbel hnx hfn hal hlk hall hP hOK hSU
   go_wp2_with fail
   refine Calls.mono (HSG.out _ BV.out) ?_
   rintro e w4 ⟨v4, rfl, hi4, hb4⟩
   obtain ⟨gf, lb, rfl, hen, hsq⟩ := hi4.is
   have b4 : Below wr.heap.size wr w4 := BV.out.trans (hb4.mono BV.out.size)
   have HGA := kide (gather_any gf lb _ w4 hen hsq HOK.out HSU.out)
   have B4 := kide b4
   clear hi4 hb4 hen hsq b4
   go_wp2_with fail
   refine Calls.mono HGA.out ?_
   rintro e w5 ⟨hb5, (⟨v, l, rfl, hl5, hn5, ho5, hr5, hx5, hra5, hpz5⟩ | ⟨rfl, h9⟩)⟩
   ·obtain ⟨va, vc, rfl⟩ := ho5.form
    have b5 : Below wr.heap.size wr w5 := B4.out.trans (hb5.mono B4.out.size)
    have hbw4 : b ≤ w4.heap.size := by have := B4.out.size; omega
    have hfg : Fg w5 b (.slice va l.length vc) (formB (nodB ds all x.ct)) l := Fg.low (B := w4.heap.size) ⟨ho5, by rw [hl5, HP.out], hn5, hr5, hx5, hra5, hpz5⟩ hbw4
    have hft5 := HFT.out.later b5 (by omega)
    have PUT := kide (hft5.put (by rw [HLK.out]; exact hlt) hfg (by omega))
    rw [HLK.out] at PUT
    have LE2 : Hid ((formB (nodB ds all x.ct)).length ≤ 2000) := by show _ ≤ _; rw [← hfg.ct, List.length_map]; exact hn5
    obtain ⟨cur5, hc5, hc6, -⟩ := hft5.row
    have z0 := hc5.froz k
    have hcell5 : ∃ u, w5.cell? ⟨b + 1, k, none⟩ = some u := by
     rw [hc5.cell k]
     exact ⟨_, Array.getElem?_eq_getElem (by rw [hc6]; exact hlt)⟩
    obtain ⟨u5', hu5'⟩ := hcell5
    generalize l.length = ln at *
    clear ho5 hr5 hx5 hra5 hpz5 hb5 b5 hfg hft5 hc5 hc6 hl5
    go_wp2_with fail
    go_roundw
    case rel =>
     refine ⟨k + 1, by omega, rfl, by rw [HNX.out]; exact PUT.out, fun y hy => ?_⟩
     rw [HNX.out] at hy
     rcases List.mem_append.1 hy with hy | hy
     ·exact HLE.out y hy
     ·rw [List.mem_singleton.1 hy]; exact LE2.out
    case measure => simp only [intOf]; omega
   ·have B5 : Hid (Below w.heap.size w w5) := by
     show Below _ _ _
     rw [HB.out]
     exact HFT.out.bel.trans ((B4.out.trans (hb5.mono B4.out.size)).mono (by omega))
    have hbad : ∃ y ∈ bitsN ds [] (xs.map Tg.ct), 2000 < (formB y).length := by
     refine ⟨nodB ds all x.ct, ?_, by rw [HP.out] at h9; exact h9⟩
     have h8 := HNX.out
     have h7 : nodB ds all x.ct ∈ bitsN ds [] ((xs.map Tg.ct).take (k + 1)) := by rw [h8]; simp
     have h6 := bitsN_app ds ((xs.map Tg.ct).take (k + 1)) ((xs.map Tg.ct).drop (k + 1)) []
     rw [List.take_append_drop] at h6
     rw [h6]
     exact bitsN_mem ds _ _ _ h7
    have BAD := kide hbad
    clear hb5 h9 hbad
    go_wp2_with fail
    exact bodyPost_ret (v := .tuple #[.slice none 0 0, .bool false]) (by simp [results, Tryz.results37, go_sem]) rfl ⟨B5.out, .inr ⟨rfl, BAD.out⟩⟩
  ·obtain rfl : k = n := by omega
   have htk : (xs.map Tg.ct).take k = xs.map Tg.ct := List.take_of_length_le (by rw [List.length_map, HN.out]; exact Nat.le_refl _)
   rw [htk] at HFT HLE
   obtain ⟨cur, k1, k2, k3, k4⟩ := HFT.out.row
   have hlb : (bitsN ds [] (xs.map Tg.ct)).length = k := by rw [bitsN_len, List.length_map, HN.out]; simp
   obtain ⟨v, l, hv, hfg⟩ := k4 (k - 1) (by omega)
   obtain ⟨va, vc, rfl⟩ := hfg.row.form
   have hcell : wr.cell? ⟨b + 1, k - 1, none⟩ = some (.slice va l.length vc) := by rw [k1.cell]; exact hv
   have q1 : IntKind.i64.wrap ((k : Int) - 1) = ((k - 1 : Nat) : Int) := by rw [IntKind.wrap_i64]; omega
   have q2 : ((k - 1 : Nat) : Int) < (k : Int) := by omega
   have FG := kide hfg
   have HLB2 := kide hlb
   have B9 : Hid (Below w.heap.size w wr) := by show Below _ _ _; rw [HB.out]; exact HFT.out.bel
   clear k1 k2 k3 k4 hv hfg hlb htk
   go_wp2_with fail
   refine bodyPost_ret (v := .tuple #[.slice va l.length vc, .bool true]) (by simp [results, Tryz.results37, go_sem]) rfl ⟨B9.out, .inl ⟨_, l, rfl, ?_, HLE.out⟩⟩
   rw [HLB2.out, HB.out]
   exact FG.out
open Go.RowKit Go.Shelf
theorem OS5.lowB {w : World} {B B' : Nat} {v : Value} {l : List Sg} (h : OS5 w B v l) (hB : B' ≤ B) : OS5 w B' v l := by
 obtain ⟨h1, h2⟩ := h
 refine ⟨h1, ?_⟩
 rcases h2 with h2 | ⟨g, cap, cur, rfl, hg, hh, r⟩
 ·exact .inl h2
 ·exact .inr ⟨g, cap, cur, rfl, by omega, hh, r⟩
set_option maxHeartbeats 2000000 in
set_option maxRecDepth 100000 in
theorem implFlattenN_any (da ta : Option Addr) (dc tc n : Nat) (ds : List Dc) (xs : List Tg) (w : World) (hd : RdD w da ds) (ht : RdT w ta xs) (hn : xs.length = n) (hG : GF w) (hno : ∀ x ∈ xs, x.wa = none → x.wc = 0) (hpw : ∀ x ∈ xs, ∀ q, x.wa = some q → q.block < w.heap.size) (hpk : ∀ x ∈ xs, ∀ q, x.ka = some q → q.block < w.heap.size) :
  Calls Tryz.prog 21 #[.slice da ds.length dc, .agg #[.slice ta n tc]] w (RetFdN (fltR ds (xs.map Tg.ct)) w) := by
 have HRW := kide (fun u (hu : Below w.heap.size w u) => rightWidths_any da ta dc tc n ds xs u (hd.later hu) (ht.later hu) hn (hG.later hu))
 have HFT := kide (fun u (hu : Below w.heap.size w u) (hr : ¬ (widthsR ds (xs.map Tg.ct)).length = 0) => flatTerm_any da ta dc ds.length tc n ds xs u (hd.later hu) rfl (ht.later hu) hn hr hno (fun x hx q hq => Nat.lt_of_lt_of_le (hpw x hx q hq) hu.size) (fun x hx q hq => Nat.lt_of_lt_of_le (hpk x hx q hq) hu.size))
 have hbl := bitsN_len ds (xs.map Tg.ct) []
 rw [List.length_map, hn, List.length_nil, Nat.zero_add] at hbl
 obtain ⟨R, hR⟩ : ∃ R, fltR ds (xs.map Tg.ct) = R := ⟨_, rfl⟩
 rw [hR]
 unfold fltR at hR
 rw [List.length_map, hn] at hR
 have HR := kide hR
 obtain ⟨nd, hnd⟩ : ∃ n, ds.length = n := ⟨_, rfl⟩
 rw [hnd] at HRW HFT ⊢
 have HBL := kide hbl
 have NIL : Hid (∀ u, Below w.heap.size w u → RetFdN ([], false) w (.returned (.tuple #[.slice none 0 0, .bool false])) u) := fun u hu => ⟨_, [], rfl, rfl, ⟨OS5.nil _ _, by simp⟩, Dj.nil, hu, by simp⟩
 have BA : Hid (Below w.heap.size w (w.alloc (Obj.cells #[.slice ta n tc] 30))) := blA _ _
 clear hd ht hn hG hno hpw hpk hR hbl
 go_enter Tryz.func21, Tryz.ntmps21
 go_wp2_with fail
 refine Calls.mono (HRW.out _ BA.out) ?_
 rintro e w2 ⟨a2, c3, rfl, hr2, hnl, hb2⟩
 have XT : Hid (Bz w2 w.heap.size #[.slice ta n tc] 30) := (Bz.new w _ _).later hb2
 have c0 := XT.out.cell 0
 simp at c0
 have B2 := kide (BA.out.trans (hb2.mono BA.out.size))
 clear hb2
 by_cases h0 : (widthsR ds (xs.map Tg.ct)).length = 0
 ·have hnil : widthsR ds (xs.map Tg.ct) = [] := List.eq_nil_of_length_eq_zero h0
  have hRR := HR.out
  rw [if_pos h0] at hRR
  subst hRR
  have hn0 := hnl hnil
  subst hn0
  rw [h0]
  have heq : ∀ u, (binOp .eql 60 (.slice none 0 c3) (.slice none 0 0)).run Tryz.prog u = .ok (.bool true) u := fun u => by rw [Lib.run_eql_slice_nil u 60 2 none _ c3 0 0 Tryz.underlying60]; rfl
  clear hr2 hnl
  go_wp2_with fail
  exact bodyPost_ret (v := .tuple #[.slice none 0 0, .bool false]) (by simp [results, Tryz.results21, go_sem]) rfl (NIL.out _ B2.out)
 ·obtain ⟨b2, o2, rfl⟩ : ∃ b2 o2, a2 = some ⟨b2, o2, none⟩ := by
   obtain ⟨-, -, h | ⟨b2, o2, h, -⟩⟩ := hr2
   ·rw [h] at h0; simp at h0
   ·exact ⟨b2, o2, h⟩
  have HF2 := kide (HFT.out w2 B2.out h0)
  have hRR := HR.out
  rw [if_neg h0] at hRR
  have HRR := kide hRR
  generalize (widthsR ds (xs.map Tg.ct)).length = rl at *
  have heq : ∀ u, (binOp .eql 60 (.slice (some ⟨b2, o2, none⟩) rl c3) (.slice none 0 0)).run Tryz.prog u = .ok (.bool false) u := fun u => by rw [Lib.run_eql_slice_nil u 60 2 (some ⟨b2, o2, none⟩) rl c3 0 0 Tryz.underlying60]; rfl
  clear hr2 hnl hRR HR HRW HFT
  go_wp2_with fail
  refine Calls.mono HF2.out ?_
  rintro e w3 ⟨hb3, (⟨v, l, rfl, hfg, hall⟩ | ⟨rfl, x, hx, hbad⟩)⟩
  ·obtain ⟨va, vc, rfl⟩ := hfg.row.form
   have HFR := kide (fresh_any va l.length vc w2.heap.size true l w3 hfg.row rfl hfg.len hb3.size hfg.rd hfg.no hfg.ra)
   have B3 := kide (B2.out.trans (hb3.mono B2.out.size))
   have Z3 : Hid (w2.heap.size ≤ w3.heap.size) := hb3.size
   have hRR := HRR.out
   rw [if_pos (List.all_eq_true.2 fun y hy => decide_eq_true (hall y hy))] at hRR
   have FCT := kide hfg.ct
   clear hfg hall hb3
   go_wp2_with fail
   refine Calls.mono HFR.out ?_
   rintro e w6 ⟨rfl, m, hm⟩
   have hrow := hm.row
   rw [List.drop_of_length_le (Nat.le_refl _), List.append_nil] at hrow
   have b6 : Below w.heap.size w w6 := B3.out.trans ⟨hm.gr.os, hm.gr.tape, hm.gr.output, hm.gr.size, fun j hj => hm.gr.block j (Nat.lt_of_lt_of_le hj B3.out.size) (fun e => by
    have h8 := (hrow.lt e.symm).1
    have := B2.out.size
    omega)⟩
   have FIN : Hid (RetFdN R w (.returned (.tuple #[.slice va l.length vc, .bool true])) w6) := by
    refine ⟨_, m, by rw [← hRR], ?_, ⟨hrow.lowB B2.out.size, fun x hx => (hm.nw x hx).mono (Nat.le_trans B2.out.size Z3.out)⟩, hm.dj, b6, hm.no⟩
    rw [hm.ct, List.take_length, FCT.out, ← hRR, HBL.out]
   clear hm hrow b6
   go_wp2_with fail
   exact bodyPost_ret (v := .tuple #[.slice va l.length vc, .bool true]) (by simp [results, Tryz.results21, go_sem]) rfl FIN.out
  ·have HFR := kide (fresh_any none 0 0 w3.heap.size false [] w3 (OS5.nil _ _) rfl (by omega) (Nat.le_refl _) (by simp) (by simp) (by simp))
   have B3 := kide (B2.out.trans (hb3.mono B2.out.size))
   have hRR := HRR.out
   rw [if_neg (fun h9 => by have := List.all_eq_true.1 h9 x hx; simp only [decide_eq_true_eq] at this; omega)] at hRR
   subst hRR
   clear hb3 hx hbad
   go_wp2_with fail
   refine Calls.mono HFR.out ?_
   rintro e w6 ⟨rfl, m, hm⟩
   have b6 : Below w.heap.size w w6 := B3.out.trans ⟨hm.gr.os, hm.gr.tape, hm.gr.output, hm.gr.size, fun j hj => hm.gr.block j (Nat.lt_of_lt_of_le hj B3.out.size) (fun e => by cases e)⟩
   have BF := kide b6
   clear hm b6
   go_wp2_with fail
   exact bodyPost_ret (v := .tuple #[.slice none 0 0, .bool false]) (by simp [results, Tryz.results21, go_sem]) rfl (NIL.out _ BF.out)
theorem run_appL5r (w : World) (ty : TypeId) (B : Nat) (v : Value) (l m : List (Int × Int)) (hown : OL5 w B v l) (gx ox k c : Nat) (hk : m.length = k)
  (hm : RdP w (some ⟨gx, ox, none⟩) m) (hl : l.length + m.length ≤ 1073741824) (hB : B ≤ w.heap.size) :
  ∃ v' w', (Builtin.append_ #[68, 68] ty #[v, .slice (some ⟨gx, ox, none⟩) k c]).run Tryz.prog w = .ok v' w' ∧ OL5 w' B v' (l ++ m) ∧ w.grownBy w' v.ownBlock ∧ (v'.ownBlock = v.ownBlock ∨ v'.ownBlock = some w.heap.size) := by
 obtain ⟨i0, hi, hz0, hz1, hz2⟩ := info_parts Tryz.infoL5
 obtain ⟨v', w', h1, ho', hg, -, hat⟩ := run_append_own_at (P := Tryz.prog) w B 68 ty 95 i0 _ 2 16 Tryz.underlying68 hi hz0 hz1 hz2 rfl (by decide) v l.length (ibc l) hown ⟨gx, ox, none⟩ k c (ibc m) (by rw [ibc_len, hk]) (by
  intro j u hj
  rw [Addr.add_lit]
  rcases hm.2 with h0 | ⟨b, q, e, hc⟩
  ·rw [h0] at hj; simp [ibc] at hj
  ·cases e
   have hjl : j < m.length * 2 := by have := (List.getElem?_eq_some_iff.1 hj).1; rw [ibc_len] at this; exact this
   have hp : m[j / 2]? = some (m[j / 2]'(by omega)) := List.getElem?_eq_getElem _
   obtain ⟨e1, e2⟩ := ibc_get hp
   obtain ⟨f1, f2⟩ := hc _ _ hp
   by_cases he : j % 2 = 0
   ·rw [show j = j / 2 * 2 by omega] at hj ⊢
    rw [e1] at hj
    cases hj
    exact f1
   ·rw [show j = j / 2 * 2 + 1 by omega] at hj ⊢
    rw [e2] at hj
    cases hj
    rw [← Nat.add_assoc]
    exact f2) (by
  intro u hu
  obtain ⟨z, rfl⟩ := ibc_ints m u hu
  rfl) (by unfold maxLen; omega) (by omega) hB
 refine ⟨v', w', h1, ?_, hg, hat⟩
 unfold OL5
 rw [ibc_append, List.length_append, hk]
 exact ho'
theorem wpList_appL5r {w : World} {ops : Array Oper} {rest : List Oper} {o : Oper} {a : Act} {Q : Exit → Act → World → Prop} (hgd : o.guard = none) (s x : Operand)
  (ho : o.op = .call { callee := .builtin .append, args := #[s, x], argTypes := #[68, 68] })
  (B : Nat) (v : Value) (l m : List (Int × Int)) (hs : a.eval s = v) (hown : OL5 w B v l) (gx ox k c : Nat) (hx : a.eval x = .slice (some ⟨gx, ox, none⟩) k c) (hk : m.length = k)
  (hm : RdP w (some ⟨gx, ox, none⟩) m) (hl : l.length + m.length ≤ 1073741824) (hB : B ≤ w.heap.size)
  (h : ∀ v' w', OL5 w' B v' (l ++ m) → w.grownBy w' v.ownBlock → wpList Tryz.prog ops Q rest (a.put o.dst v') w') : wpList Tryz.prog ops Q (o :: rest) a w := by
 refine wpList_plain hgd fun K hK => ?_
 obtain ⟨v', w', h1, h2, h3, -⟩ := run_appL5r w o.type B v l m hown gx ox k c hk hm hl hB
 unfold Oper.wp execOp
 simp only [ho, resolve, invoke, builtin, Sem.run_bind, Sem.run_pure, Result.andThen_ok, List.map_toArray, List.map_cons, List.map_nil, hs, hx, h1]
 exact hK _ _ (h v' w' h2 h3)
theorem wpList_appL5t {w : World} {ops : Array Oper} {rest : List Oper} {o : Oper} {a : Act} {Q : Exit → Act → World → Prop} (hgd : o.guard = none) (s x : Operand)
  (ho : o.op = .call { callee := .builtin .append, args := #[s, x], argTypes := #[68, 68] })
  (B : Nat) (v : Value) (l m : List (Int × Int)) (hs : a.eval s = v) (hown : OL5 w B v l) (gx ox k c : Nat) (hx : a.eval x = .slice (some ⟨gx, ox, none⟩) k c) (hk : m.length = k)
  (hm : RdP w (some ⟨gx, ox, none⟩) m) (hl : l.length + m.length ≤ 1073741824) (hB : B ≤ w.heap.size)
  (h : ∀ v' w', OL5 w' B v' (l ++ m) → w.grownBy w' v.ownBlock → (v'.ownBlock = v.ownBlock ∨ v'.ownBlock = some w.heap.size) → wpList Tryz.prog ops Q rest (a.put o.dst v') w') : wpList Tryz.prog ops Q (o :: rest) a w := by
 refine wpList_plain hgd fun K hK => ?_
 obtain ⟨v', w', h1, h2, h3, h4⟩ := run_appL5r w o.type B v l m hown gx ox k c hk hm hl hB
 unfold Oper.wp execOp
 simp only [ho, resolve, invoke, builtin, Sem.run_bind, Sem.run_pure, Result.andThen_ok, List.map_toArray, List.map_cons, List.map_nil, hs, hx, h1]
 exact hK _ _ (h v' w' h2 h3 h4)
theorem step_appL5r (w : World) {ops : Array Oper} {o : Oper} {a : Act} {K : Act → World → Prop} {Q : Exit → Act → World → Prop} {E : Prop} (hgd : o.guard = none) (s x : Operand)
  (ho : o.op = .call { callee := .builtin .append, args := #[s, x], argTypes := #[68, 68] })
  (B : Nat) (v : Value) (l m : List (Int × Int)) (hs : a.eval s = v) (hown : OL5 w B v l) (gx ox k c : Nat) (hx : a.eval x = .slice (some ⟨gx, ox, none⟩) k c) (hk : m.length = k)
  (hm : RdP w (some ⟨gx, ox, none⟩) m) (hl : l.length + m.length ≤ 1073741824) (hB : B ≤ w.heap.size)
  (h : ∀ v' w', OL5 w' B v' (l ++ m) → w.grownBy w' v.ownBlock → K (a.put o.dst v') w') : if Region.wanted o (yielded ops a.tmps) = true then Oper.wp Tryz.prog o a w K Q else E := by
 have hwn : Region.wanted o (yielded ops a.tmps) = true := by simp [Region.wanted, hgd]
 rw [if_pos hwn]
 obtain ⟨v', w', h1, h2, h3, -⟩ := run_appL5r w o.type B v l m hown gx ox k c hk hm hl hB
 unfold Oper.wp execOp
 simp only [ho, resolve, invoke, builtin, Sem.run_bind, Sem.run_pure, Result.andThen_ok, List.map_toArray, List.map_cons, List.map_nil, hs, hx, h1]
 exact h v' w' h2 h3
def Kb (w : World) (aa : Option Addr) (Ks : List (List Ib)) : Prop := ∃ ab ao, aa = some ⟨ab, ao, none⟩ ∧ ∀ i K, Ks[i]? = some K → ∃ g o c, w.cell? ⟨ab, ao + i, none⟩ = some (.slice (some ⟨g, o, none⟩) K.length c) ∧ K.length ≤ c ∧ RdP w (some ⟨g, o, none⟩) K
theorem rdp_part {w : World} {g o lo n : Nat} {ps : List Ib} (h : RdP w (some ⟨g, o, none⟩) ps) (hn : lo + n ≤ ps.length) : RdP w (some ⟨g, o + lo * 2, none⟩) ((ps.drop lo).take n) := by
 obtain ⟨h1, h2⟩ := h
 refine ⟨by simp; omega, ?_⟩
 rcases h2 with h2 | ⟨b, q, e, hc⟩
 ·left; rw [h2]; simp
 ·cases e
  right
  refine ⟨g, o + lo * 2, rfl, fun i p hp => ?_⟩
  have hi : i < n := by
   have := (List.getElem?_eq_some_iff.1 hp).1
   simp at this
   omega
  rw [List.getElem?_take, if_pos hi, List.getElem?_drop] at hp
  have := hc (lo + i) p hp
  rw [show o + (lo + i) * 2 = o + lo * 2 + i * 2 by omega] at this
  exact this
theorem Nb.at0 {w Y : World} {cs : Array Value} {b0 : Nat} (h : Nb w cs (.slice (some ⟨w.heap.size + 1, 0, none⟩) 0 0) [] Y) (e : w.heap.size = b0) : Nb w cs (.slice (some ⟨b0 + 1, 0, none⟩) 0 0) [] Y := by rw [← e]; exact h
theorem Nb.c {w Y : World} {cs : Array Value} {v : Value} {l : List Ib} {b0 : Nat} (h : Nb w cs v l Y) (e : w.heap.size = b0) (i : Nat) : Y.cell? ⟨b0, i, none⟩ = cs[i]? := by rw [← e]; exact h.bx.cell i
set_option maxHeartbeats 2000000 in
set_option maxRecDepth 100000 in
theorem l5n4 {da wa ka aa : Option Addr} {dc nd nw wc nk kc na ac An A1 Bn : Nat} {ps : List Ib} {vr bw : Int} {w : World} (hk : Kb w aa [ps]) (hna : na = 1) (hl : ps.length ≤ 4096) (hA : An + 1 = A1) (h1 : Bn < A1) (h2 : A1 ≤ ps.length) :
  Calls Tryz.prog 30 #[.slice da nd dc, .agg #[.int .i64 4, .int .i64 vr, .int .i64 (An : Int), .int .i64 (Bn : Int), .int .i64 bw, .slice wa nw wc, .slice ka nk kc], .slice aa na ac] w (RetNb ((ps.drop Bn).take (A1 - Bn)) w) := by
 subst hna
 obtain ⟨ab, ao, rfl, hk⟩ := hk
 obtain ⟨g, o, c, k1, k2, k3⟩ := hk 0 ps rfl
 rw [Nat.add_zero] at k1
 have S0 := kide (Nb.start w #[.int .i64 4, .int .i64 vr, .int .i64 (An : Int), .int .i64 (Bn : Int), .int .i64 bw, .slice wa nw wc, .slice ka nk kc])
 have B0 : Hid (Below w.heap.size w ((w.alloc (Obj.cells #[.int .i64 4, .int .i64 vr, .int .i64 (An : Int), .int .i64 (Bn : Int), .int .i64 bw, .slice wa nw wc, .slice ka nk kc] 67)).alloc (Obj.cells #[] 95))) := S0.out.bel
 have RP := kide ((rdp_part (lo := Bn) (n := A1 - Bn) k3 (by omega)).later B0.out)
 obtain ⟨KL, hKL⟩ : ∃ n, ps.length = n := ⟨_, rfl⟩
 rw [hKL] at k1 k2 hl h2
 have q1 : IntKind.i64.wrap ((An : Int) + 1) = (A1 : Int) := by rw [IntKind.wrap_i64]; omega
 have hll : ([] : List Ib).length + ((ps.drop Bn).take (A1 - Bn)).length ≤ 1073741824 := by rw [List.length_take]; simp; omega
 have hsz : w.heap.size + 1 ≤ ((w.alloc (Obj.cells #[.int .i64 4, .int .i64 vr, .int .i64 (An : Int), .int .i64 (Bn : Int), .int .i64 bw, .slice wa nw wc, .slice ka nk kc] 67)).alloc (Obj.cells #[] 95)).heap.size := by simp
 have hmk : ((ps.drop Bn).take (A1 - Bn)).length = A1 - Bn := by rw [List.length_take, List.length_drop, hKL]; omega
 clear hk k3 hKL
 have lab := block_lt_of_cell k1
 have LAB := kide lab
 clear hA
 go_enter Tryz.func30, Tryz.ntmps30
 go_wp2_with fail
 generalize ((w.alloc (Obj.cells #[.int .i64 4, .int .i64 vr, .int .i64 (An : Int), .int .i64 (Bn : Int), .int .i64 bw, .slice wa nw wc, .slice ka nk kc] 67)).alloc (Obj.cells #[] 95)) = Y at *
 obtain ⟨b0, hb0⟩ : ∃ b0, w.heap.size = b0 := ⟨_, rfl⟩
 have HB0 := kide hb0
 have S1 := kide (S0.out.at0 hb0)
 have x2 := S0.out.c hb0 2
 have x3 := S0.out.c hb0 3
 have lx := S0.out.bx.lt
 simp at x2 x3
 rw [hb0] at lx
 simp only [hb0]
 have y1 := (B0.out.cell (p := ⟨ab, ao, none⟩) lab).trans k1
 have laY : ab < Y.heap.size := Nat.lt_of_lt_of_le lab B0.out.size
 have q2 : Bn ≤ A1 := by omega
 have q3 : A1 ≤ c := by omega
 have q4 : ¬c = Bn := by omega
 clear k1 hb0 S0
 refine wp_region_x (SA := fun _ => False) (SB := fun uu => uu.cell? ⟨ab, ao, none⟩ = some (Value.slice (some ⟨g, o, none⟩) KL c) ∧ uu.cell? ⟨b0, 3, none⟩ = some (Value.int .i64 (Bn : Int)) ∧ uu.cell? ⟨b0, 2, none⟩ = some (Value.int .i64 (An : Int))) (k := 999) (by kernel_rfl) ?_
 have hn0 : Hid (Below Y.heap.size Y Y.drew) := (Below.refl _ _).drew
 have c0_0 := (kcell hn0.out ab ao laY).trans y1
 have c1_0 := (kcell hn0.out b0 3 lx).trans x3
 have c2_0 := (kcell hn0.out b0 2 lx).trans x2
 generalize Y.drew = n0 at *
 have hs0 : Hid ((fun uu => uu.cell? ⟨ab, ao, none⟩ = some (Value.slice (some ⟨g, o, none⟩) KL c) ∧ uu.cell? ⟨b0, 3, none⟩ = some (Value.int .i64 (Bn : Int)) ∧ uu.cell? ⟨b0, 2, none⟩ = some (Value.int .i64 (An : Int))) n0) := ⟨c0_0, c1_0, c2_0⟩
 try go_simp
 refine tkU (i := 0) (v := Value.slice (some ⟨b0 + 1, 0, none⟩) 0 0) rfl (Sx.behind (by kernel_rfl) hs0.out) ?_
 try go_simp
 refine tkU (i := 1) (v := Value.slice (some ⟨ab, ao, none⟩) 1 ac) rfl (Sx.behind (by kernel_rfl) hs0.out) ?_
 try go_simp
 refine tkU (i := 2) (v := Value.pointer (some ⟨ab, ao, none⟩)) rfl (Sx.behind (by kernel_rfl) hs0.out) ?_
 try go_simp
 refine tkS (i := 3) (v := Value.slice (some ⟨g, o, none⟩) KL c) rfl hs0.out (fun uu hu => by obtain ⟨e0, e1, e2⟩ := hu; go_simp) ?_
 try go_simp
 refine tkU (i := 4) (v := Value.pointer (some ⟨b0, 3, none⟩)) rfl (Sx.behind (by kernel_rfl) hs0.out) ?_
 try go_simp
 refine tkS (i := 5) (v := Value.int .i64 (Bn : Int)) rfl hs0.out (fun uu hu => by obtain ⟨e0, e1, e2⟩ := hu; go_simp) ?_
 try go_simp
 refine tkU (i := 6) (v := Value.pointer (some ⟨b0, 2, none⟩)) rfl (Sx.behind (by kernel_rfl) hs0.out) ?_
 try go_simp
 refine tkS (i := 7) (v := Value.int .i64 (An : Int)) rfl hs0.out (fun uu hu => by obtain ⟨e0, e1, e2⟩ := hu; go_simp) ?_
 try go_simp
 refine tkB (T := (fun _ => True)) (i := 8) (v := Value.int .i64 (A1 : Int)) rfl (by kernel_rfl) (fun _ _ _ h => by first | exact h | exact h.elim) (fun _ _ => trivial) (fun _ _ => trivial) (Sx.behind (by kernel_rfl) hs0.out) (Or.inl ⟨by rfl, fun uu hu => by go_simp; try exact q1⟩) ?_
 try go_simp
 refine tkU (i := 9) (v := Value.slice (some ⟨g, o + Bn * 2, none⟩) (A1 - Bn) (c - Bn)) rfl (Sx.behind (by kernel_rfl) hs0.out) ?_
 try go_simp
 refine rdX (rs := [10]) (AllX.cons rfl (fun K hK => ?_) AllX.nil)
 have NY := kide (S1.out.later hn0.out)
 have RY := kide (RP.out.later hn0.out)
 have hszn : w.heap.size + 1 ≤ n0.heap.size := Nat.le_trans hsz hn0.out.size
 refine step_appL5r n0 rfl _ _ rfl (w.heap.size + 1) _ [] ((ps.drop Bn).take (A1 - Bn)) rfl NY.out.row g (o + Bn * 2) (A1 - Bn) _ rfl hmk RY.out hll hszn ?_
 intro v6 n1 ho6 hg6
 have N6 := kide (NY.out.app ho6 hg6)
 rw [List.nil_append] at N6
 have c0_1 : n1.cell? ⟨ab, ao, none⟩ = some (Value.slice (some ⟨g, o, none⟩) KL c) := (World.cell?_of_block (hg6.block ab (by have := hn0.out.size; omega) (fun e => by have := (NY.out.row.lt e.symm).1; have := LAB.out; omega))).trans c0_0
 have c1_1 : n1.cell? ⟨b0, 3, none⟩ = some (Value.int .i64 (Bn : Int)) := N6.out.c HB0.out 3
 have c2_1 : n1.cell? ⟨b0, 2, none⟩ = some (Value.int .i64 (An : Int)) := N6.out.c HB0.out 2
 clear ho6 hg6
 have hs1 : Hid ((fun uu => uu.cell? ⟨ab, ao, none⟩ = some (Value.slice (some ⟨g, o, none⟩) KL c) ∧ uu.cell? ⟨b0, 3, none⟩ = some (Value.int .i64 (Bn : Int)) ∧ uu.cell? ⟨b0, 2, none⟩ = some (Value.int .i64 (An : Int))) n1) := ⟨c0_1, c1_1, c2_1⟩
 refine hK _ _ (Sx.behind (by kernel_rfl) hs1.out) ?_
 clear hK K
 try go_simp
 refine tkU (i := 11) (v := v6) rfl (Sx.behind (by kernel_rfl) hs1.out) ?_
 try go_simp
 refine wpAnyX_done (by kernel_rfl) ?_ _
 have N6x := N6.out
 go_wp2_with fail
 exact bodyPost_ret (v := v6) (by simp [results, Tryz.results30, go_sem]) rfl ⟨v6, rfl, N6x.row.lowB (Nat.le_succ _), N6x.bel⟩
theorem cat_step {Ks : List (List Ib)} {q : Nat} {K : List Ib} (h : Ks[q]? = some K) : (Ks.drop (q + 1)).reverse.flatten ++ K = (Ks.drop q).reverse.flatten := by
 obtain ⟨hq, rfl⟩ := List.getElem?_eq_some_iff.1 h
 rw [List.drop_eq_getElem_cons hq, List.reverse_cons, List.flatten_append]
 simp only [List.flatten_cons, List.flatten_nil, List.append_nil]
theorem cat_len (Ks : List (List Ib)) (q : Nat) : ((Ks.drop q).reverse.flatten).length ≤ (Ks.reverse.flatten).length := by
 conv => rhs; rw [← List.take_append_drop q Ks, List.reverse_append, List.flatten_append, List.length_append]
 omega
set_option maxHeartbeats 2000000 in
set_option maxRecDepth 100000 in
theorem l5n3 {da wa ka aa : Option Addr} {dc nd nw wc nk kc na ac : Nat} {Ks : List (List Ib)} {vr A Bb bw : Int} {w : World} (hk : Kb w aa Ks) (hna : Ks.length = na) (hna2 : na ≤ 4096) (hl : (Ks.reverse.flatten).length ≤ 4096) :
  Calls Tryz.prog 30 #[.slice da nd dc, .agg #[.int .i64 3, .int .i64 vr, .int .i64 A, .int .i64 Bb, .int .i64 bw, .slice wa nw wc, .slice ka nk kc], .slice aa na ac] w (RetNb (Ks.reverse.flatten) w) := by
 have S0 := kide (Nb.start w #[.int .i64 3, .int .i64 vr, .int .i64 A, .int .i64 Bb, .int .i64 bw, .slice wa nw wc, .slice ka nk kc])
 have HK := kide hk
 have HNA := kide hna
 have HL := kide hl
 have q0 : IntKind.i64.wrap ((na : Int) - 1) = (na : Int) - 1 := by rw [IntKind.wrap_i64]; omega
 clear hk hna hl
 go_enter Tryz.func30, Tryz.ntmps30
 go_wp2_with fail
 go_loopw [7, 10] (fun v i wr => ∃ r : Nat, r ≤ na ∧ i = .int .i64 ((r : Int) - 1) ∧ Nb w #[.int .i64 3, .int .i64 vr, .int .i64 A, .int .i64 Bb, .int .i64 bw, .slice wa nw wc, .slice ka nk kc] v ((Ks.drop r).reverse.flatten) wr) (fun _ i _ => (intOf i + 1).toNat)
 case atStart => exact ⟨na, Nat.le_refl _, rfl, by rw [← HNA.out, List.drop_length]; exact S0.out⟩
 case round =>
  obtain ⟨r, hr, rfl, hnb⟩ := hrel
  have HNB := kide hnb
  clear hnb
  rcases Nat.eq_zero_or_pos r with rfl | hp
  ·go_wp2_with fail
   exact bodyPost_ret (v := u7) (by simp [results, Tryz.results30, go_sem]) rfl ⟨u7, rfl, HNB.out.row.lowB (Nat.le_succ _), HNB.out.bel⟩
  ·obtain ⟨q, rfl⟩ : ∃ q, r = q + 1 := ⟨r - 1, by omega⟩
   rw [show (((q + 1 : Nat) : Int) - 1) = (q : Int) by omega]
   have q1 : (q : Int) < (na : Int) := by omega
   have q2 : IntKind.i64.wrap ((q : Int) - 1) = (q : Int) - 1 := by rw [IntKind.wrap_i64]; omega
   obtain ⟨K, hK9⟩ : ∃ K, Ks[q]? = some K := by
    have : q < Ks.length := by rw [HNA.out]; omega
    exact ⟨_, List.getElem?_eq_getElem this⟩
   obtain ⟨ab, ao, rfl, hk⟩ := HK.out
   obtain ⟨g, o, c, k1, k2, k3⟩ := hk q K hK9
   have lab := block_lt_of_cell k1
   have y1 := (HNB.out.bel.cell (p := ⟨ab, ao + q, none⟩) lab).trans k1
   have RP := kide (k3.later HNB.out.bel)
   have CS := kide (cat_step hK9)
   have CL := kide (cat_len Ks q)
   obtain ⟨KL, hKL⟩ : ∃ n, K.length = n := ⟨_, rfl⟩
   rw [hKL] at k2 y1
   have HKL := kide hKL
   have hll : ((Ks.drop (q + 1)).reverse.flatten).length + K.length ≤ 1073741824 := by have := CL.out; rw [← CS.out, List.length_append] at this; have := HL.out; omega
   have hsz : w.heap.size + 1 ≤ wr.heap.size := HNB.out.bx.lt
   clear hk k3 k1 hKL hK9
   go_wp2_with (refine wpList_appL5r rfl _ _ rfl (w.heap.size + 1) _ ((Ks.drop (q + 1)).reverse.flatten) K rfl HNB.out.row g o KL c rfl HKL.out RP.out hll hsz ?_)
   intro v6 w6 ho6 hg6
   have N6 := kide (HNB.out.app ho6 hg6)
   rw [CS.out] at N6
   clear ho6 hg6
   go_wp2_with fail
   go_roundw
   case rel => exact ⟨q, by omega, rfl, N6.out⟩
   case measure => simp only [intOf]; omega
theorem rep_step (K : List Ib) (k : Nat) : (List.replicate k K).flatten ++ K = (List.replicate (k + 1) K).flatten := by
 rw [List.replicate_succ', List.flatten_append]
 simp only [List.flatten_cons, List.flatten_nil, List.append_nil]
theorem rep_len (K : List Ib) {k n : Nat} (h : k ≤ n) : ((List.replicate k K).flatten).length ≤ ((List.replicate n K).flatten).length := by
 simp only [List.length_flatten, List.map_replicate, List.sum_replicate_nat]
 exact Nat.mul_le_mul_right _ h
set_option maxHeartbeats 2000000 in
set_option maxRecDepth 100000 in
theorem l5n9 {da wa ka aa : Option Addr} {dc nd nw wc nk kc na ac An : Nat} {K : List Ib} {vr Bb bw : Int} {w : World} (hk : Kb w aa [K]) (hna : na = 1) (hA : An ≤ 4096) (hl : ((List.replicate An K).flatten).length ≤ 4096) :
  Calls Tryz.prog 30 #[.slice da nd dc, .agg #[.int .i64 9, .int .i64 vr, .int .i64 (An : Int), .int .i64 Bb, .int .i64 bw, .slice wa nw wc, .slice ka nk kc], .slice aa na ac] w (RetNb ((List.replicate An K).flatten) w) := by
 subst hna
 have S0 := kide (Nb.start w #[.int .i64 9, .int .i64 vr, .int .i64 (An : Int), .int .i64 Bb, .int .i64 bw, .slice wa nw wc, .slice ka nk kc])
 obtain ⟨ab, ao, rfl, hk⟩ := hk
 obtain ⟨g, o, c, k1, k2, k3⟩ := hk 0 K rfl
 rw [Nat.add_zero] at k1
 have HL := kide hl
 have lab := block_lt_of_cell k1
 obtain ⟨KL, hKL⟩ : ∃ n, K.length = n := ⟨_, rfl⟩
 rw [hKL] at k2 k1
 have HKL := kide hKL
 have K3 := kide k3
 clear hk hl hKL k3
 go_enter Tryz.func30, Tryz.ntmps30
 go_wp2_with fail
 go_loopw [7, 15] (fun v i wr => ∃ k : Nat, k ≤ An ∧ i = .int .i64 (k : Int) ∧ Nb w #[.int .i64 9, .int .i64 vr, .int .i64 (An : Int), .int .i64 Bb, .int .i64 bw, .slice wa nw wc, .slice ka nk kc] v ((List.replicate k K).flatten) wr) (fun _ i _ => An - (intOf i).toNat)
 case atStart => exact ⟨0, Nat.zero_le _, rfl, S0.out⟩
 case round =>
  obtain ⟨k, hk, rfl, hnb⟩ := hrel
  have c2 := hnb.bx.cell 2
  simp at c2
  have HNB := kide hnb
  have lbx := hnb.bx.lt
  clear hnb
  by_cases hlt : k < An
  ·have q1 : (k : Int) < (An : Int) := by omega
   have q2 : IntKind.i64.wrap ((k : Int) + 1) = (k : Int) + 1 := by rw [IntKind.wrap_i64]; omega
   have y1 := (HNB.out.bel.cell (p := ⟨ab, ao, none⟩) lab).trans k1
   have RP := kide (K3.out.later HNB.out.bel)
   have CS := kide (rep_step K k)
   have hll : ((List.replicate k K).flatten).length + K.length ≤ 1073741824 := by have := rep_len K (k := k + 1) (n := An) hlt; rw [← CS.out, List.length_append] at this; have := HL.out; omega
   have hsz : w.heap.size + 1 ≤ wr.heap.size := HNB.out.bx.lt
   go_wp2_with (refine wpList_appL5r rfl _ _ rfl (w.heap.size + 1) _ ((List.replicate k K).flatten) K rfl HNB.out.row g o KL c rfl HKL.out RP.out hll hsz ?_)
   intro v6 w6 ho6 hg6
   have N6 := kide (HNB.out.app ho6 hg6)
   rw [CS.out] at N6
   clear ho6 hg6
   go_wp2_with fail
   go_roundw
   case rel => exact ⟨k + 1, by omega, rfl, N6.out⟩
   case measure => simp only [intOf]; omega
  ·obtain rfl : k = An := by omega
   go_wp2_with fail
   exact bodyPost_ret (v := u7) (by simp [results, Tryz.results30, go_sem]) rfl ⟨u7, rfl, HNB.out.row.lowB (Nat.le_succ _), HNB.out.bel⟩

structure Nt (w : World) (cs : Array Value) (t : Ib) (v : Value) (l : List Ib) (wr : World) : Prop where
 nb : Nb w cs v l wr
 tp : Bz wr (w.heap.size + 1 + 1) #[.int .i64 t.1, .int .i64 t.2] 95
 no : v.ownBlock ≠ some (w.heap.size + 1 + 1)
theorem Nt.later {w wr u : World} {cs : Array Value} {t : Ib} {v : Value} {l : List Ib} (h : Nt w cs t v l wr) (hb : Below wr.heap.size wr u) : Nt w cs t v l u := ⟨h.nb.later hb, h.tp.later hb, h.no⟩
theorem Nt.app {w u w' : World} {cs : Array Value} {t : Ib} {v v' : Value} {l m : List Ib} {H : Nat} (h : Nt w cs t v l u) (ho : OL5 w' (w.heap.size + 1) v' (l ++ m)) (hg : u.grownBy w' v.ownBlock) (hat : v'.ownBlock = v.ownBlock ∨ v'.ownBlock = some H) (hH : u.heap.size = H) : Nt w cs t v' (l ++ m) w' := by
 have hlt := h.tp.lt
 refine ⟨h.nb.app ho hg, ?_, ?_⟩
 ·have hb := h.tp
  unfold Bz at hb ⊢
  rw [hg.block _ hlt (fun e => h.no e.symm)]
  exact hb
 ·rcases hat with e | e
  ·rw [e]; exact h.no
  ·rw [e]
   intro e2
   have := Option.some.inj e2
   omega
theorem Nt.start (w : World) (cs : Array Value) (t : Ib) : Nt w cs t (.slice (some ⟨w.heap.size + 1, 0, none⟩) 0 0) [] (((w.alloc (Obj.cells cs 67)).alloc (Obj.cells #[] 95)).alloc (Obj.cells #[.int .i64 t.1, .int .i64 t.2] 95)) := by
 refine ⟨(Nb.start w cs).later (blA _ _), ?_, ?_⟩
 ·have h9 := Bz.new ((w.alloc (Obj.cells cs 67)).alloc (Obj.cells #[] 95)) #[.int .i64 t.1, .int .i64 t.2] 95
  simp only [World.size_alloc] at h9
  exact h9
 ·simp [Value.ownBlock]
theorem Nt.at0 {w Y : World} {cs : Array Value} {t : Ib} {b0 : Nat} (h : Nt w cs t (.slice (some ⟨w.heap.size + 1, 0, none⟩) 0 0) [] Y) (e : w.heap.size = b0) : Nt w cs t (.slice (some ⟨b0 + 1, 0, none⟩) 0 0) [] Y := by rw [← e]; exact h
theorem Nt.tpc {w Y : World} {cs : Array Value} {t : Ib} {v : Value} {l : List Ib} {b0 : Nat} (h : Nt w cs t v l Y) (e : w.heap.size = b0) (i : Nat) : Y.cell? ⟨b0 + 1 + 1, i, none⟩ = #[.int .i64 t.1, .int .i64 t.2][i]? := by rw [← e]; exact h.tp.cell i
theorem Nt.tpf {w Y : World} {cs : Array Value} {t : Ib} {v : Value} {l : List Ib} {b0 : Nat} (h : Nt w cs t v l Y) (e : w.heap.size = b0) (i : Nat) : Y.frozen? ⟨b0 + 1 + 1, i, none⟩ = false := by rw [← e]; exact h.tp.froz i
theorem OL5.other {w w' : World} {B : Nat} {v : Value} {l : List Ib} (h : OL5 w B v l) (hw : ∀ g, v.ownBlock = some g → w'.heap[g]? = w.heap[g]?) : OL5 w' B v l := by
 obtain ⟨h1, h2⟩ := h
 refine ⟨h1, ?_⟩
 rcases h2 with h2 | ⟨g, cap, cur, rfl, hg, hh, r⟩
 ·exact .inl h2
 ·exact .inr ⟨g, cap, cur, rfl, hg, by rw [hw g rfl]; exact hh, r⟩
theorem Nt.below {w Y : World} {cs : Array Value} {t : Ib} {v : Value} {l : List Ib} {b0 : Nat} (h : Nt w cs t v l Y) (e : w.heap.size = b0) (t1 t2 : Int) : Below w.heap.size w ((Y.setCell ⟨b0 + 1 + 1, 0, none⟩ (.int .i64 t1)).setCell ⟨b0 + 1 + 1, 1, none⟩ (.int .i64 t2)) := by
 subst e
 exact (h.nb.bel.setCell (by simp; omega) _).setCell (by simp; omega) _
theorem Nt.set {w Y : World} {cs : Array Value} {t : Ib} {v : Value} {l : List Ib} {b0 : Nat} (h : Nt w cs t v l Y) (e : w.heap.size = b0) (t1 t2 : Int) : Nt w cs (t1, t2) v l ((Y.setCell ⟨b0 + 1 + 1, 0, none⟩ (.int .i64 t1)).setCell ⟨b0 + 1 + 1, 1, none⟩ (.int .i64 t2)) := by
 have hb := h.below e t1 t2
 subst e
 refine ⟨⟨(h.nb.bx.other (by omega) _ _).other (by omega) _ _, h.nb.row.other (fun g hg => ?_), hb⟩, (h.tp.set 0 _).set 1 _, h.no⟩
 have hne : g ≠ w.heap.size + 1 + 1 := fun e => h.no (by rw [hg, e])
 rw [heap_setCell_other _ _ _ _ (by simpa using hne), heap_setCell_other _ _ _ _ (by simpa using hne)]
theorem rdp_one {w : World} {b : Nat} {t : Ib} {ty : TypeId} (h : Bz w b #[.int .i64 t.1, .int .i64 t.2] ty) : RdP w (some ⟨b, 0, none⟩) [t] := by
 refine ⟨by simp, .inr ⟨b, 0, rfl, fun i p hp => ?_⟩⟩
 match i, hp with
 | 0, hp =>
  obtain rfl : t = p := by simpa using hp
  exact ⟨h.cell 0, h.cell 1⟩
theorem rdp_at {w : World} {b o i : Nat} {ps : List Ib} {p : Ib} (h : RdP w (some ⟨b, o, none⟩) ps) (hp : ps[i]? = some p) : w.cell? ⟨b, o + i * 2, none⟩ = some (.int .i64 p.1) ∧ w.cell? ⟨b, o + i * 2 + 1, none⟩ = some (.int .i64 p.2) := by
 rcases h.2 with h | ⟨b', o', e, hc⟩
 ·rw [h] at hp; simp at hp
 ·cases e
  exact hc i p hp
theorem rpl_snoc (ps : List Ib) (t : Ib) (k : Nat) : ps ++ List.replicate k t ++ [t] = ps ++ List.replicate (k + 1) t := by rw [List.replicate_succ', List.append_assoc]
set_option maxHeartbeats 2000000 in
set_option maxRecDepth 100000 in
theorem l5n5 {da wa ka aa : Option Addr} {dc nd nw wc nk kc na ac An : Nat} {ps : List Ib} {vr Bb bw : Int} {w : World} (hk : Kb w aa [ps]) (hna : na = 1) (hA : An ≤ 4096) (hl : ps.length ≤ 4096) :
  Calls Tryz.prog 30 #[.slice da nd dc, .agg #[.int .i64 5, .int .i64 vr, .int .i64 (An : Int), .int .i64 Bb, .int .i64 bw, .slice wa nw wc, .slice ka nk kc], .slice aa na ac] w (RetNb (ps ++ List.replicate An (-1, 0)) w) := by
 subst hna
 have S0 := kide (Nt.start w #[.int .i64 5, .int .i64 vr, .int .i64 (An : Int), .int .i64 Bb, .int .i64 bw, .slice wa nw wc, .slice ka nk kc] (-1, 0))
 obtain ⟨ab, ao, rfl, hk⟩ := hk
 obtain ⟨g, o, c, k1, k2, k3⟩ := hk 0 ps rfl
 rw [Nat.add_zero] at k1
 have HL := kide hl
 have lab := block_lt_of_cell k1
 obtain ⟨KL, hKL⟩ : ∃ n, ps.length = n := ⟨_, rfl⟩
 rw [hKL] at k2 k1
 have HKL := kide hKL
 have y1 := (S0.out.nb.bel.cell (p := ⟨ab, ao, none⟩) lab).trans k1
 have RP := kide (k3.later S0.out.nb.bel)
 have hll : ([] : List Ib).length + ps.length ≤ 1073741824 := by simp; omega
 have hsz : w.heap.size + 1 ≤ (((w.alloc (Obj.cells #[.int .i64 5, .int .i64 vr, .int .i64 (An : Int), .int .i64 Bb, .int .i64 bw, .slice wa nw wc, .slice ka nk kc] 67)).alloc (Obj.cells #[] 95)).alloc (Obj.cells #[.int .i64 (-1), .int .i64 0] 95)).heap.size := by simp
 clear hk hl hKL k3
 go_enter Tryz.func30, Tryz.ntmps30
 go_wp2_with (refine wpList_appL5t rfl _ _ rfl (w.heap.size + 1) _ [] ps rfl S0.out.nb.row g o KL c rfl HKL.out RP.out hll hsz ?_)
 intro v6 w6 ho6 hg6 hat6
 have N6 := kide (S0.out.app ho6 hg6 hat6 (by simp))
 rw [List.nil_append] at N6
 clear ho6 hg6 hat6
 go_wp2_with fail
 go_loopw [7, 12] (fun v i wr => ∃ k : Nat, k ≤ An ∧ i = .int .i64 (k : Int) ∧ Nt w #[.int .i64 5, .int .i64 vr, .int .i64 (An : Int), .int .i64 Bb, .int .i64 bw, .slice wa nw wc, .slice ka nk kc] (-1, 0) v (ps ++ List.replicate k (-1, 0)) wr) (fun _ i _ => An - (intOf i).toNat)
 case atStart => exact ⟨0, Nat.zero_le _, rfl, by rw [List.replicate_zero, List.append_nil]; exact N6.out⟩
 case round =>
  obtain ⟨k, hk, rfl, hnb⟩ := hrel
  have c2 := hnb.nb.bx.cell 2
  have t0 := hnb.tp.cell 0
  have t1 := hnb.tp.cell 1
  simp at c2 t0 t1
  have HNB := kide hnb
  have lbx := hnb.nb.bx.lt
  have ltp := hnb.tp.lt
  clear hnb
  by_cases hlt : k < An
  ·have q1 : (k : Int) < (An : Int) := by omega
   have q2 : IntKind.i64.wrap ((k : Int) + 1) = (k : Int) + 1 := by rw [IntKind.wrap_i64]; omega
   have BA : Hid (Below wr.heap.size wr (wr.alloc (Obj.cells #[.int .i64 (-1), .int .i64 0] 95))) := blA _ _
   have XA := kide (rdp_one (t := (-1, 0)) (Bz.new wr #[.int .i64 (-1), .int .i64 0] 95))
   have NA := kide (HNB.out.later BA.out)
   have hll2 : (ps ++ List.replicate k ((-1, 0) : Ib)).length + [((-1, 0) : Ib)].length ≤ 1073741824 := by have := HL.out; simp; omega
   have hsz2 : w.heap.size + 1 ≤ (wr.alloc (Obj.cells #[.int .i64 (-1), .int .i64 0] 95)).heap.size := by simp; omega
   go_wp2_with (refine wpList_appL5t rfl _ _ rfl (w.heap.size + 1) _ (ps ++ List.replicate k ((-1, 0) : Ib)) [(-1, 0)] rfl NA.out.nb.row wr.heap.size 0 1 _ rfl rfl XA.out hll2 hsz2 ?_)
   intro v7 w7 ho7 hg7 hat7
   rw [← List.append_assoc] at ho7
   have N7 := kide (NA.out.app ho7 hg7 hat7 (by simp))
   rw [rpl_snoc] at N7
   clear ho7 hg7 hat7
   go_wp2_with fail
   go_roundw
   case rel => exact ⟨k + 1, by omega, rfl, N7.out⟩
   case measure => simp only [intOf]; omega
  ·obtain rfl : k = An := by omega
   go_wp2_with fail
   exact bodyPost_ret (v := u7) (by simp [results, Tryz.results30, go_sem]) rfl ⟨u7, rfl, HNB.out.nb.row.lowB (Nat.le_succ _), HNB.out.nb.bel⟩
set_option maxHeartbeats 2000000 in
set_option maxRecDepth 100000 in
theorem l5n6 {da wa ka aa : Option Addr} {dc nd nw wc nk kc na ac An : Nat} {ps : List Ib} {t : Ib} {vr Bb bw : Int} {w : World} (hk : Kb w aa [ps]) (hna : na = 1) (hA : An ≤ 4096) (hl : ps.length ≤ 4096) (ht : ps[ps.length - 1]? = some t) :
  Calls Tryz.prog 30 #[.slice da nd dc, .agg #[.int .i64 6, .int .i64 vr, .int .i64 (An : Int), .int .i64 Bb, .int .i64 bw, .slice wa nw wc, .slice ka nk kc], .slice aa na ac] w (RetNb (ps ++ List.replicate An t) w) := by
 subst hna
 have S0 := kide (Nt.start w #[.int .i64 6, .int .i64 vr, .int .i64 (An : Int), .int .i64 Bb, .int .i64 bw, .slice wa nw wc, .slice ka nk kc] (-1, 0))
 obtain ⟨ab, ao, rfl, hk⟩ := hk
 obtain ⟨g, o, c, k1, k2, k3⟩ := hk 0 ps rfl
 rw [Nat.add_zero] at k1
 have hp9 : 0 < ps.length := by
  have := (List.getElem?_eq_some_iff.1 ht).1
  omega
 obtain ⟨T, hT⟩ : ∃ T, ps.length = T + 1 := ⟨ps.length - 1, by omega⟩
 rw [show ps.length - 1 = T by omega] at ht
 obtain ⟨z1, z2⟩ := rdp_at k3 ht
 have HL := kide hl
 have lab := block_lt_of_cell k1
 obtain ⟨KL, hKL⟩ : ∃ n, ps.length = n := ⟨_, rfl⟩
 rw [hKL] at k2 k1
 have HKL := kide hKL
 have y1 := (S0.out.nb.bel.cell (p := ⟨ab, ao, none⟩) lab).trans k1
 have lg := block_lt_of_cell z1
 have y2 := (S0.out.nb.bel.cell (p := ⟨g, o + T * 2, none⟩) lg).trans z1
 have y3 := (S0.out.nb.bel.cell (p := ⟨g, o + T * 2 + 1, none⟩) lg).trans z2
 have RP := kide (k3.later S0.out.nb.bel)
 have hll : ([] : List Ib).length + ps.length ≤ 1073741824 := by simp; omega
 have hsz : w.heap.size + 1 ≤ (((w.alloc (Obj.cells #[.int .i64 6, .int .i64 vr, .int .i64 (An : Int), .int .i64 Bb, .int .i64 bw, .slice wa nw wc, .slice ka nk kc] 67)).alloc (Obj.cells #[] 95)).alloc (Obj.cells #[.int .i64 (-1), .int .i64 0] 95)).heap.size := by simp
 have e1 : IntKind.i64.wrap ((KL : Int) - 1) = (T : Int) := by rw [IntKind.wrap_i64]; omega
 have e2 : (T : Int) < (KL : Int) := by omega
 have e3 : T < KL := by omega
 have K3 := kide k3
 clear hk hl hKL k3 hT hp9 ht z1 z2 k1
 go_enter Tryz.func30, Tryz.ntmps30
 go_wp2_with fail
 generalize (((w.alloc (Obj.cells #[.int .i64 6, .int .i64 vr, .int .i64 (An : Int), .int .i64 Bb, .int .i64 bw, .slice wa nw wc, .slice ka nk kc] 67)).alloc (Obj.cells #[] 95)).alloc (Obj.cells #[.int .i64 (-1), .int .i64 0] 95)) = Y at *
 obtain ⟨b0, hb0⟩ : ∃ b0, w.heap.size = b0 := ⟨_, rfl⟩
 have HB0 := kide hb0
 have S1 := kide (S0.out.at0 hb0)
 have laY : ab < Y.heap.size := Nat.lt_of_lt_of_le lab S0.out.nb.bel.size
 have lgY : g < Y.heap.size := Nat.lt_of_lt_of_le lg S0.out.nb.bel.size
 have lab0 : ab < b0 := by rw [← hb0]; exact lab
 simp only [hb0]
 clear hb0 S0
 refine wp_region_x (SA := fun uu => uu.cell? ⟨ab, ao, none⟩ = some (Value.slice (some ⟨g, o, none⟩) KL c) ∧ uu.cell? ⟨g, o + T * 2, none⟩ = some (Value.int .i64 t.1) ∧ uu.cell? ⟨g, o + T * 2 + 1, none⟩ = some (Value.int .i64 t.2)) (SB := fun _ => True) (k := 10) (by kernel_rfl) ?_
 have hn0 : Hid (Below Y.heap.size Y Y.drew) := (Below.refl _ _).drew
 have c0_0 := (hn0.out.cell (p := ⟨ab, ao, none⟩) laY).trans y1
 have c1_0 := (hn0.out.cell (p := ⟨g, o + T * 2, none⟩) lgY).trans y2
 have c2_0 := (hn0.out.cell (p := ⟨g, o + T * 2 + 1, none⟩) lgY).trans y3
 generalize Y.drew = n0 at *
 have hs0 : Hid ((fun uu => uu.cell? ⟨ab, ao, none⟩ = some (Value.slice (some ⟨g, o, none⟩) KL c) ∧ uu.cell? ⟨g, o + T * 2, none⟩ = some (Value.int .i64 t.1) ∧ uu.cell? ⟨g, o + T * 2 + 1, none⟩ = some (Value.int .i64 t.2)) n0) := ⟨c0_0, c1_0, c2_0⟩
 try go_simp
 refine tkU (i := 0) (v := Value.slice (some ⟨ab, ao, none⟩) 1 ac) rfl (Sx.before (by kernel_rfl) hs0.out) ?_
 try go_simp
 refine tkU (i := 1) (v := Value.pointer (some ⟨ab, ao, none⟩)) rfl (Sx.before (by kernel_rfl) hs0.out) ?_
 try go_simp
 refine tkY (i := 2) (v := Value.slice (some ⟨g, o, none⟩) KL c) rfl hs0.out (fun uu hu => by obtain ⟨e0, e1, e2⟩ := hu; go_simp) ?_
 try go_simp
 refine tkU (i := 3) (v := Value.slice (some ⟨ab, ao, none⟩) 1 ac) rfl (Sx.before (by kernel_rfl) hs0.out) ?_
 try go_simp
 refine tkU (i := 4) (v := Value.pointer (some ⟨ab, ao, none⟩)) rfl (Sx.before (by kernel_rfl) hs0.out) ?_
 try go_simp
 refine tkY (i := 5) (v := Value.slice (some ⟨g, o, none⟩) KL c) rfl hs0.out (fun uu hu => by obtain ⟨e0, e1, e2⟩ := hu; go_simp) ?_
 try go_simp
 refine tkU (i := 6) (v := Value.int .i64 (KL : Int)) rfl (Sx.before (by kernel_rfl) hs0.out) ?_
 try go_simp
 refine tkU (i := 7) (v := Value.int .i64 (T : Int)) rfl (Sx.before (by kernel_rfl) hs0.out) ?_
 try go_simp
 refine tkU (i := 8) (v := Value.pointer (some ⟨g, o + T * 2, none⟩)) rfl (Sx.before (by kernel_rfl) hs0.out) ?_
 try go_simp
 refine tkY (i := 9) (v := Value.agg #[.int .i64 t.1, .int .i64 t.2]) rfl hs0.out (fun uu hu => by obtain ⟨e0, e1, e2⟩ := hu; go_simp) ?_
 try go_simp
 refine rdX (rs := [10]) (AllX.cons rfl (fun K hK => ?_) AllX.nil)
 have NY := kide (S1.out.later hn0.out)
 have e0 := NY.out.tpc HB0.out 0
 have f0 := NY.out.tpf HB0.out 0
 have e9 := NY.out.tpc HB0.out 1
 have f9 := NY.out.tpf HB0.out 1
 simp at e0 e9
 go_simp
 have N1 := kide (NY.out.set HB0.out t.1 t.2)
 have RY := kide (K3.out.later (NY.out.below HB0.out t.1 t.2))
 have yy : ((n0.setCell ⟨b0 + 1 + 1, 0, none⟩ (Value.int .i64 t.1)).setCell ⟨b0 + 1 + 1, 1, none⟩ (Value.int .i64 t.2)).cell? ⟨ab, ao, none⟩ = some (Value.slice (some ⟨g, o, none⟩) KL c) := by
  rw [World.cell?_of_block (w := n0)]
  ·exact c0_0
  ·rw [heap_setCell_other _ _ _ _ (by simp; omega), heap_setCell_other _ _ _ _ (by simp; omega)]
 generalize ((n0.setCell ⟨b0 + 1 + 1, 0, none⟩ (Value.int .i64 t.1)).setCell ⟨b0 + 1 + 1, 1, none⟩ (Value.int .i64 t.2)) = n1 at *
 refine hK _ _ (Sx.behind (by kernel_rfl) trivial) ?_
 clear hK K
 try go_simp
 refine wpAnyX_done (by kernel_rfl) ?_ _
 go_wp2_with (refine wpList_appL5t rfl _ _ rfl (w.heap.size + 1) _ [] ps rfl N1.out.nb.row g o KL c rfl HKL.out RY.out hll N1.out.nb.bx.lt ?_)
 intro v6 w6 ho6 hg6 hat6
 have N6 := kide (N1.out.app ho6 hg6 hat6 rfl)
 rw [List.nil_append] at N6
 clear ho6 hg6 hat6
 go_wp2_with fail
 go_loopw [7, 12] (fun v i wr => ∃ k : Nat, k ≤ An ∧ i = .int .i64 (k : Int) ∧ Nt w #[.int .i64 6, .int .i64 vr, .int .i64 (An : Int), .int .i64 Bb, .int .i64 bw, .slice wa nw wc, .slice ka nk kc] t v (ps ++ List.replicate k t) wr) (fun _ i _ => An - (intOf i).toNat)
 case atStart => exact ⟨0, Nat.zero_le _, rfl, by rw [List.replicate_zero, List.append_nil]; exact N6.out⟩
 case round =>
  obtain ⟨k, hk, rfl, hnb⟩ := hrel
  have c2 := hnb.nb.c HB0.out 2
  have t0 := hnb.tpc HB0.out 0
  have t1 := hnb.tpc HB0.out 1
  simp at c2 t0 t1
  have HNB := kide hnb
  have lbx := hnb.nb.bx.lt
  have ltp := hnb.tp.lt
  have lb9 := lbx
  have lt9 := ltp
  rw [HB0.out] at lb9 lt9
  clear hnb
  by_cases hlt : k < An
  ·have q1 : (k : Int) < (An : Int) := by omega
   have q2 : IntKind.i64.wrap ((k : Int) + 1) = (k : Int) + 1 := by rw [IntKind.wrap_i64]; omega
   have BA : Hid (Below wr.heap.size wr (wr.alloc (Obj.cells #[.int .i64 t.1, .int .i64 t.2] 95))) := blA _ _
   have XA := kide (rdp_one (t := t) (Bz.new wr #[.int .i64 t.1, .int .i64 t.2] 95))
   have NA := kide (HNB.out.later BA.out)
   have hll2 : (ps ++ List.replicate k t).length + [t].length ≤ 1073741824 := by have := HL.out; simp; omega
   have hsz2 : w.heap.size + 1 ≤ (wr.alloc (Obj.cells #[.int .i64 t.1, .int .i64 t.2] 95)).heap.size := by simp; omega
   go_wp2_with (refine wpList_appL5t rfl _ _ rfl (w.heap.size + 1) _ (ps ++ List.replicate k t) [t] rfl NA.out.nb.row wr.heap.size 0 1 _ rfl rfl XA.out hll2 hsz2 ?_)
   intro v7 w7 ho7 hg7 hat7
   rw [← List.append_assoc] at ho7
   have N7 := kide (NA.out.app ho7 hg7 hat7 (by simp))
   rw [rpl_snoc] at N7
   clear ho7 hg7 hat7
   go_wp2_with fail
   go_roundw
   case rel => exact ⟨k + 1, by omega, rfl, N7.out⟩
   case measure => simp only [intOf]; omega
  ·obtain rfl : k = An := by omega
   go_wp2_with fail
   exact bodyPost_ret (v := u7) (by simp [results, Tryz.results30, go_sem]) rfl ⟨u7, rfl, HNB.out.nb.row.lowB (Nat.le_succ _), HNB.out.nb.bel⟩
theorem rdp_nil (w : World) (g o : Nat) (l : List Ib) (h : l.length = 0) : RdP w (some ⟨g, o, none⟩) l := ⟨by omega, .inl (List.length_eq_zero_iff.1 h)⟩
theorem rdp_take {w : World} {g o : Nat} {ps : List Ib} (h : RdP w (some ⟨g, o, none⟩) ps) (n : Nat) : RdP w (some ⟨g, o, none⟩) (ps.take n) := by
 refine ⟨Nat.le_trans (by simp; omega) h.1, ?_⟩
 rcases h.2 with h2 | ⟨b, q, e, hc⟩
 ·left; rw [h2]; simp
 ·exact .inr ⟨b, q, e, fun i p hp => hc i p (by
   rw [List.getElem?_take] at hp
   split at hp
   ·exact hp
   ·cases hp)⟩
theorem rdp_drop {w : World} {g o : Nat} {ps : List Ib} (h : RdP w (some ⟨g, o, none⟩) ps) (n : Nat) : RdP w (some ⟨g, o + n * 2, none⟩) (ps.drop n) := by
 refine ⟨Nat.le_trans (by simp) h.1, ?_⟩
 rcases h.2 with h2 | ⟨b, q, e, hc⟩
 ·left; rw [h2]; simp
 ·cases e
  refine .inr ⟨g, o + n * 2, rfl, fun i p hp => ?_⟩
  rw [List.getElem?_drop] at hp
  have := hc (n + i) p hp
  rw [show o + (n + i) * 2 = o + n * 2 + i * 2 by omega] at this
  exact this
theorem ws_sub {a b c : Nat} (h : b < a) (ha : a ≤ 4096) (hc : c = a - b) : wrap64 ((a : Int) - (b : Int)) = (c : Int) := by unfold wrap64; omega
theorem ws_id {a : Nat} (ha : a ≤ 4096) : wrap64 (a : Int) = (a : Int) := by unfold wrap64; omega
set_option maxHeartbeats 2000000 in
set_option maxRecDepth 100000 in
theorem l5n7 {da wa ka aa : Option Addr} {dc nd nw wc nk kc na ac An KL Yb Z : Nat} {ps : List Ib} {vr Bb bw : Int} {w : World} (hk : Kb w aa [ps]) (hna : na = 1) (hA : An ≤ 4096) (hl : ps.length ≤ 4096) (hKL : ps.length = KL) (hp : 0 < KL) (hY : An % KL = Yb) (hZ : Z = KL - Yb) :
  Calls Tryz.prog 30 #[.slice da nd dc, .agg #[.int .i64 7, .int .i64 vr, .int .i64 (An : Int), .int .i64 Bb, .int .i64 bw, .slice wa nw wc, .slice ka nk kc], .slice aa na ac] w (RetNb (ps.drop Z ++ ps.take Z) w) := by
 subst hna
 have S0 := kide (Nb.start w #[.int .i64 7, .int .i64 vr, .int .i64 (An : Int), .int .i64 Bb, .int .i64 bw, .slice wa nw wc, .slice ka nk kc])
 obtain ⟨ab, ao, rfl, hk⟩ := hk
 obtain ⟨g, o, c, k1, k2, k3⟩ := hk 0 ps rfl
 rw [Nat.add_zero] at k1
 have HL := kide hl
 have lab := block_lt_of_cell k1
 rw [hKL] at k2 k1 hl
 have HKL := kide hKL
 have y1 := (S0.out.bel.cell (p := ⟨ab, ao, none⟩) lab).trans k1
 have K3 := kide k3
 have hYl : Yb < KL := by rw [← hY]; exact Nat.mod_lt _ hp
 have q0 : ¬(KL : Int) = 0 := by omega
 have q1 : (An : Int) % (KL : Int) = (Yb : Int) := by rw [← hY]; exact (Int.natCast_emod An KL).symm
 have q2 : wrap64 ((KL : Int) - (Yb : Int)) = (Z : Int) := ws_sub hYl hl hZ
 have q3 : Z ≤ KL := by rw [hZ]; exact Nat.sub_le _ _
 have q4 : Z ≤ c := Nat.le_trans q3 k2
 have hd1 : (ps.drop Z).length = KL - Z := by rw [List.length_drop, hKL]
 have ht1 : (ps.take Z).length = Z := by rw [List.length_take, hKL]; exact Nat.min_eq_left q3
 have hll : ([] : List Ib).length + (ps.drop Z).length ≤ 1073741824 := by rw [hd1, List.length_nil, Nat.zero_add]; exact Nat.le_trans (Nat.sub_le _ _) (Nat.le_trans hl (by decide))
 have hl2 : (ps.drop Z).length + (ps.take Z).length ≤ 1073741824 := by rw [hd1, ht1, Nat.sub_add_cancel q3]; exact Nat.le_trans hl (by decide)
 have hsz : w.heap.size + 1 ≤ ((w.alloc (Obj.cells #[.int .i64 7, .int .i64 vr, .int .i64 (An : Int), .int .i64 Bb, .int .i64 bw, .slice wa nw wc, .slice ka nk kc] 67)).alloc (Obj.cells #[] 95)).heap.size := by simp
 have HD1 := kide hd1
 have HT1 := kide ht1
 clear hk hKL k3 hY hZ hd1 ht1 hp hYl hl hA
 go_enter Tryz.func30, Tryz.ntmps30
 by_cases hcz : c = Z
 ·have RD := kide ((rdp_nil w g o (ps.drop Z) (by rw [HD1.out]; exact Nat.sub_eq_zero_of_le (hcz ▸ k2))).later S0.out.bel)
  go_wp2_with (refine wpList_appL5r rfl _ _ rfl (w.heap.size + 1) _ [] (ps.drop Z) rfl S0.out.row g o (KL - Z) _ rfl HD1.out RD.out hll hsz ?_)
  intro v6 w6 ho6 hg6
  have N6 := kide (S0.out.app ho6 hg6)
  rw [List.nil_append] at N6
  clear ho6 hg6
  have RT := kide ((rdp_take K3.out Z).later N6.out.bel)
  have y2 := (N6.out.bel.cell (p := ⟨ab, ao, none⟩) lab).trans k1
  go_wp2_with (refine wpList_appL5r rfl _ _ rfl (w.heap.size + 1) _ (ps.drop Z) (ps.take Z) rfl N6.out.row g o Z _ rfl HT1.out RT.out hl2 N6.out.bx.lt ?_)
  intro v7 w7 ho7 hg7
  have N7 := kide (N6.out.app ho7 hg7)
  clear ho7 hg7
  go_wp2_with fail
  exact bodyPost_ret (v := v7) (by simp [results, Tryz.results30, go_sem]) rfl ⟨v7, rfl, N7.out.row.lowB (Nat.le_succ _), N7.out.bel⟩
 ·have RD := kide ((rdp_drop K3.out Z).later S0.out.bel)
  go_wp2_with (refine wpList_appL5r rfl _ _ rfl (w.heap.size + 1) _ [] (ps.drop Z) rfl S0.out.row g (o + Z * 2) (KL - Z) _ rfl HD1.out RD.out hll hsz ?_)
  intro v6 w6 ho6 hg6
  have N6 := kide (S0.out.app ho6 hg6)
  rw [List.nil_append] at N6
  clear ho6 hg6
  have RT := kide ((rdp_take K3.out Z).later N6.out.bel)
  have y2 := (N6.out.bel.cell (p := ⟨ab, ao, none⟩) lab).trans k1
  go_wp2_with (refine wpList_appL5r rfl _ _ rfl (w.heap.size + 1) _ (ps.drop Z) (ps.take Z) rfl N6.out.row g o Z _ rfl HT1.out RT.out hl2 N6.out.bx.lt ?_)
  intro v7 w7 ho7 hg7
  have N7 := kide (N6.out.app ho7 hg7)
  clear ho7 hg7
  go_wp2_with fail
  exact bodyPost_ret (v := v7) (by simp [results, Tryz.results30, go_sem]) rfl ⟨v7, rfl, N7.out.row.lowB (Nat.le_succ _), N7.out.bel⟩
set_option maxHeartbeats 2000000 in
set_option maxRecDepth 100000 in
theorem l5n8 {da wa ka aa : Option Addr} {dc nd nw wc nk kc na ac An KL Yb Y2 Z : Nat} {ps : List Ib} {vr Bb bw : Int} {w : World} (hk : Kb w aa [ps]) (hna : na = 1) (hA : An ≤ 4096) (hl : ps.length ≤ 4096) (hKL : ps.length = KL) (hp : 0 < KL) (hY : An % KL = Yb) (hY2 : (KL - Yb) % KL = Y2) (hZ : Z = KL - Y2) :
  Calls Tryz.prog 30 #[.slice da nd dc, .agg #[.int .i64 8, .int .i64 vr, .int .i64 (An : Int), .int .i64 Bb, .int .i64 bw, .slice wa nw wc, .slice ka nk kc], .slice aa na ac] w (RetNb (ps.drop Z ++ ps.take Z) w) := by
 subst hna
 have S0 := kide (Nb.start w #[.int .i64 8, .int .i64 vr, .int .i64 (An : Int), .int .i64 Bb, .int .i64 bw, .slice wa nw wc, .slice ka nk kc])
 obtain ⟨ab, ao, rfl, hk⟩ := hk
 obtain ⟨g, o, c, k1, k2, k3⟩ := hk 0 ps rfl
 rw [Nat.add_zero] at k1
 have HL := kide hl
 have lab := block_lt_of_cell k1
 rw [hKL] at k2 k1 hl
 have HKL := kide hKL
 have y1 := (S0.out.bel.cell (p := ⟨ab, ao, none⟩) lab).trans k1
 have K3 := kide k3
 have hYl : Yb < KL := by rw [← hY]; exact Nat.mod_lt _ hp
 have q0 : ¬(KL : Int) = 0 := by omega
 have q1 : (An : Int) % (KL : Int) = (Yb : Int) := by rw [← hY]; exact (Int.natCast_emod An KL).symm
 have hY2l : Y2 < KL := by rw [← hY2]; exact Nat.mod_lt _ hp
 obtain ⟨D, hD⟩ : ∃ D, D = KL - Yb := ⟨_, rfl⟩
 rw [← hD] at hY2
 have q5 : wrap64 ((KL : Int) - (Yb : Int)) = (D : Int) := ws_sub hYl hl hD
 have q6 : (D : Int) % (KL : Int) = (Y2 : Int) := by rw [← hY2]; exact (Int.natCast_emod D KL).symm
 clear hY hY2 hD
 have q7 : wrap64 (Y2 : Int) = (Y2 : Int) := ws_id (Nat.le_trans (Nat.le_of_lt hY2l) hl)
 have q2 : wrap64 ((KL : Int) - (Y2 : Int)) = (Z : Int) := ws_sub hY2l hl hZ
 have q3 : Z ≤ KL := by rw [hZ]; exact Nat.sub_le _ _
 have q4 : Z ≤ c := Nat.le_trans q3 k2
 have hd1 : (ps.drop Z).length = KL - Z := by rw [List.length_drop, hKL]
 have ht1 : (ps.take Z).length = Z := by rw [List.length_take, hKL]; exact Nat.min_eq_left q3
 have hll : ([] : List Ib).length + (ps.drop Z).length ≤ 1073741824 := by rw [hd1, List.length_nil, Nat.zero_add]; exact Nat.le_trans (Nat.sub_le _ _) (Nat.le_trans hl (by decide))
 have hl2 : (ps.drop Z).length + (ps.take Z).length ≤ 1073741824 := by rw [hd1, ht1, Nat.sub_add_cancel q3]; exact Nat.le_trans hl (by decide)
 have hsz : w.heap.size + 1 ≤ ((w.alloc (Obj.cells #[.int .i64 8, .int .i64 vr, .int .i64 (An : Int), .int .i64 Bb, .int .i64 bw, .slice wa nw wc, .slice ka nk kc] 67)).alloc (Obj.cells #[] 95)).heap.size := by simp
 have HD1 := kide hd1
 have HT1 := kide ht1
 clear hY2l
 clear hk hKL k3 hZ hd1 ht1 hp hYl hl hA
 go_enter Tryz.func30, Tryz.ntmps30
 by_cases hcz : c = Z
 ·have RD := kide ((rdp_nil w g o (ps.drop Z) (by rw [HD1.out]; exact Nat.sub_eq_zero_of_le (hcz ▸ k2))).later S0.out.bel)
  go_wp2_with (refine wpList_appL5r rfl _ _ rfl (w.heap.size + 1) _ [] (ps.drop Z) rfl S0.out.row g o (KL - Z) _ rfl HD1.out RD.out hll hsz ?_)
  intro v6 w6 ho6 hg6
  have N6 := kide (S0.out.app ho6 hg6)
  rw [List.nil_append] at N6
  clear ho6 hg6
  have RT := kide ((rdp_take K3.out Z).later N6.out.bel)
  have y2 := (N6.out.bel.cell (p := ⟨ab, ao, none⟩) lab).trans k1
  go_wp2_with (refine wpList_appL5r rfl _ _ rfl (w.heap.size + 1) _ (ps.drop Z) (ps.take Z) rfl N6.out.row g o Z _ rfl HT1.out RT.out hl2 N6.out.bx.lt ?_)
  intro v7 w7 ho7 hg7
  have N7 := kide (N6.out.app ho7 hg7)
  clear ho7 hg7
  go_wp2_with fail
  exact bodyPost_ret (v := v7) (by simp [results, Tryz.results30, go_sem]) rfl ⟨v7, rfl, N7.out.row.lowB (Nat.le_succ _), N7.out.bel⟩
 ·have RD := kide ((rdp_drop K3.out Z).later S0.out.bel)
  go_wp2_with (refine wpList_appL5r rfl _ _ rfl (w.heap.size + 1) _ [] (ps.drop Z) rfl S0.out.row g (o + Z * 2) (KL - Z) _ rfl HD1.out RD.out hll hsz ?_)
  intro v6 w6 ho6 hg6
  have N6 := kide (S0.out.app ho6 hg6)
  rw [List.nil_append] at N6
  clear ho6 hg6
  have RT := kide ((rdp_take K3.out Z).later N6.out.bel)
  have y2 := (N6.out.bel.cell (p := ⟨ab, ao, none⟩) lab).trans k1
  go_wp2_with (refine wpList_appL5r rfl _ _ rfl (w.heap.size + 1) _ (ps.drop Z) (ps.take Z) rfl N6.out.row g o Z _ rfl HT1.out RT.out hl2 N6.out.bx.lt ?_)
  intro v7 w7 ho7 hg7
  have N7 := kide (N6.out.app ho7 hg7)
  clear ho7 hg7
  go_wp2_with fail
  exact bodyPost_ret (v := v7) (by simp [results, Tryz.results30, go_sem]) rfl ⟨v7, rfl, N7.out.row.lowB (Nat.le_succ _), N7.out.bel⟩
theorem flat_count : ∀ (l : List (List Ib)), (∀ k ∈ l, 1 ≤ k.length) → l.length ≤ l.flatten.length
 | [], _ => by simp
 | k :: t, h => by
  have h1 := h k (by simp)
  have h2 := flat_count t (fun x hx => h x (List.mem_cons_of_mem _ hx))
  simp only [List.length_cons, List.flatten_cons, List.length_append]
  omega
theorem l5Node_any {ds : List Dc} {all : List (List Ib)} {n : Tc} {w : World} (da wa ka aa : Option Addr) (dc nd wc kc na ac : Nat) (hd : RdD w da ds) (hnd : ds.length = nd) (hw : Rd w wa n.ws) (hk : Kb w aa (kidsB all n.ks)) (hna : n.ks.length = na) (hN : FNode ds all n) :
  Calls Tryz.prog 30 #[.slice da nd dc, .agg #[.int .i64 n.op, .int .i64 n.vr, .int .i64 n.a, .int .i64 n.b, .int .i64 n.bw, .slice wa n.ws.length wc, .slice ka n.ks.length kc], .slice aa na ac] w (RetNb (nodB ds all n) w) := by
 have hop := hN.op
 have hkid := hN.kid
 have hlen := hN.len
 have hvar := hN.var
 have hcst := hN.cst
 have hone := hN.one
 have hpart := hN.part
 have hamt := hN.amt
 have hrep := hN.rep
 clear hN
 obtain ⟨op, vr, A, Bb, bw, ws, ks⟩ := n
 simp only [] at hw hk hna hop hkid hvar hcst hone hpart hamt hrep hlen ⊢
 unfold nodB at hlen ⊢
 simp only [] at hlen ⊢
 rcases (show op = 1 ∨ op = 2 ∨ op = 3 ∨ 4 ≤ op by omega) with e | e | e | e
 ·subst e
  obtain ⟨⟨v1, v2⟩, v3, v4⟩ := hvar rfl
  obtain ⟨V, rfl⟩ : ∃ V : Nat, vr = (V : Int) := ⟨vr.toNat, by omega⟩
  rw [Int.toNat_natCast] at v3 v4 ⊢
  rw [if_pos rfl]
  exact l5n1 hd hnd (by omega) v3 v4
 ·subst e
  have hr := hcst rfl
  have hp := right_W hr
  obtain ⟨E, rfl⟩ : ∃ E : Nat, bw = (E : Int) := ⟨bw.toNat, by omega⟩
  rw [if_neg (by decide), if_pos rfl, Int.toNat_natCast]
  exact l5n2 hw hr
 ·subst e
  rw [if_neg (by decide), if_neg (by decide), if_pos rfl] at hlen ⊢
  have hc := flat_count (kidsB all ks).reverse (fun k hk9 => by
   rw [List.mem_reverse] at hk9
   unfold kidsB at hk9
   obtain ⟨j, hj, rfl⟩ := List.mem_map.1 hk9
   exact (hkid j hj).2.1)
  have hkl : (kidsB all ks).length = ks.length := by simp [kidsB]
  rw [List.length_reverse, hkl, hna] at hc
  exact l5n3 hk (by rw [hkl, hna]) (by omega) hlen.2
 ·obtain ⟨j, rfl⟩ := hone e
  obtain ⟨-, h1, h2, -⟩ := hkid j (by simp)
  have hkb : kidsB all [j] = [all.getD j.toNat []] := rfl
  rw [hkb] at hk hlen hpart ⊢
  have hg : [all.getD j.toNat []].getD 0 [] = all.getD j.toNat [] := rfl
  rw [hg] at hlen hpart ⊢
  generalize all.getD j.toNat [] = K at *
  have hna1 : na = 1 := by rw [← hna]; rfl
  have hsub : ∃ t, K[K.length - 1]? = some t := ⟨_, List.getElem?_eq_getElem (by omega)⟩
  clear hkid hd hnd hvar hcst hone hkb hg
  rcases (show op = 4 ∨ op = 5 ∨ op = 6 ∨ op = 7 ∨ op = 8 ∨ op = 9 by omega) with e | e | e | e | e | e
  ·subst e
   obtain ⟨p1, p2, p3⟩ := hpart rfl
   obtain ⟨An, rfl⟩ : ∃ An : Nat, A = (An : Int) := ⟨A.toNat, by omega⟩
   obtain ⟨Bn, rfl⟩ : ∃ Bn : Nat, Bb = (Bn : Int) := ⟨Bb.toNat, by omega⟩
   rw [if_neg (by decide), if_neg (by decide), if_neg (by decide), if_pos rfl, Int.toNat_natCast, Int.toNat_natCast]
   exact l5n4 hk hna1 h2 rfl (by omega) (by omega)
  ·subst e
   obtain ⟨a1, a2⟩ := hamt (by decide)
   obtain ⟨An, rfl⟩ : ∃ An : Nat, A = (An : Int) := ⟨A.toNat, by omega⟩
   rw [if_neg (by decide), if_neg (by decide), if_neg (by decide), if_neg (by decide), if_pos rfl, Int.toNat_natCast]
   exact l5n5 hk hna1 (by omega) h2
  ·subst e
   obtain ⟨a1, a2⟩ := hamt (by decide)
   obtain ⟨An, rfl⟩ : ∃ An : Nat, A = (An : Int) := ⟨A.toNat, by omega⟩
   obtain ⟨t, ht⟩ := hsub
   rw [if_neg (by decide), if_neg (by decide), if_neg (by decide), if_neg (by decide), if_neg (by decide), if_pos rfl, Int.toNat_natCast, show K.getD (K.length - 1) (-1, 0) = t by simp [List.getD, ht]]
   exact l5n6 hk hna1 (by omega) h2 ht
  ·subst e
   obtain ⟨a1, a2⟩ := hamt (by decide)
   obtain ⟨An, rfl⟩ : ∃ An : Nat, A = (An : Int) := ⟨A.toNat, by omega⟩
   rw [if_neg (by decide), if_neg (by decide), if_neg (by decide), if_neg (by decide), if_neg (by decide), if_neg (by decide), if_pos rfl, Int.toNat_natCast]
   exact l5n7 hk hna1 (by omega) h2 rfl (by omega) rfl rfl
  ·subst e
   obtain ⟨a1, a2⟩ := hamt (by decide)
   obtain ⟨An, rfl⟩ : ∃ An : Nat, A = (An : Int) := ⟨A.toNat, by omega⟩
   rw [if_neg (by decide), if_neg (by decide), if_neg (by decide), if_neg (by decide), if_neg (by decide), if_neg (by decide), if_neg (by decide), if_pos rfl, Int.toNat_natCast]
   exact l5n8 hk hna1 (by omega) h2 rfl (by omega) rfl rfl rfl
  ·subst e
   obtain ⟨a1, a2⟩ := hamt (by decide)
   obtain ⟨An, rfl⟩ : ∃ An : Nat, A = (An : Int) := ⟨A.toNat, by omega⟩
   rw [if_neg (by decide), if_neg (by decide), if_neg (by decide), if_neg (by decide), if_neg (by decide), if_neg (by decide), if_neg (by decide), if_neg (by decide), Int.toNat_natCast] at hlen ⊢
   exact l5n9 hk hna1 (by omega) hlen.2
theorem Tryz.infoK1 : (Tryz.prog.info? 68).map (fun i => (i.zero, i.size, i.bytes)) = some (some (.slice none 0 0), 1, 24) := by kernel_rfl
def OK1 (w : World) (B : Nat) (v : Value) (l : List Value) : Prop := w.ownsRow B 68 1 v l.length l
theorem OK1.lt {w : World} {B : Nat} {v : Value} {l : List Value} (h : OK1 w B v l) {b : Nat} (hb : v.ownBlock = some b) : B ≤ b ∧ b < w.heap.size := World.ownsRow.lt h b hb
theorem OK1.later {w w' : World} {B : Nat} {v : Value} {l : List Value} (h : OK1 w B v l) (hb : Below w.heap.size w w') : OK1 w' B v l := World.ownsRow.kept (row := none) h ⟨hb.os, hb.tape, hb.output, hb.size, fun k hk _ => hb.block k hk⟩ (by
 cases h' : v.ownBlock with
 | none => exact .inl rfl
 | some k => exact .inr (by simp))
theorem OK1.typed {w : World} {B : Nat} {v : Value} {l : List Value} (h : OK1 w B v l) {b : Nat} (hb : v.ownBlock = some b) : ∃ cur, w.heap[b]? = some (.cells cur 68 (0, 0)) := by
 rcases h.2 with ⟨rfl, -⟩ | ⟨g, cap, cur, rfl, -, hh, -⟩
 ·cases hb
 ·cases hb; exact ⟨cur, hh⟩
theorem OK1.empty (w : World) (B : Nat) (h : B ≤ w.heap.size) : OK1 (w.alloc (.cells #[] 68)) B (.slice (some ⟨w.heap.size, 0, Option.none⟩) 0 0) [] := World.ownsRow_made w #[] 0 h (Nat.zero_le _) (by simp)
theorem OK1.cell {w : World} {B g n c : Nat} {l : List Value} (h : OK1 w B (.slice (some ⟨g, 0, none⟩) n c) l) {i : Nat} {u : Value} (hi : l[i]? = some u) : w.cell? ⟨g, i, none⟩ = some u := by
 have hc := World.ownsRow.cells h (g := g) rfl i u hi
 rw [Addr.add_lit, Nat.zero_add] at hc
 exact hc
theorem step_appK1 (w : World) {ops : Array Oper} {o : Oper} {a : Act} {K : Act → World → Prop} {Q : Exit → Act → World → Prop} {E : Prop} (hgd : o.guard = none) (s x : Operand)
  (ho : o.op = .call { callee := .builtin .append, args := #[s, x], argTypes := #[64, 64] })
  (B : Nat) (v : Value) (l : List Value) (y : Value) (hs : a.eval s = v) (hown : OK1 w B v l) (gx c : Nat) (hx : a.eval x = .slice (some ⟨gx, 0, none⟩) 1 c)
  (h0 : w.cell? ⟨gx, 0, none⟩ = some y) (hy : y.oneCell' = true) (hl : l.length ≤ 1073741824) (hB : B ≤ w.heap.size)
  (h : ∀ g cap w', OK1 w' B (.slice (some ⟨g, 0, none⟩) (l.length + 1) cap) (l ++ [y]) → w.grownBy w' v.ownBlock → K (a.put o.dst (.slice (some ⟨g, 0, none⟩) (l.length + 1) cap)) w') :
  if Region.wanted o (yielded ops a.tmps) = true then Oper.wp Tryz.prog o a w K Q else E := by
 obtain ⟨i0, hi, hz0, hz1, hz2⟩ := info_parts Tryz.infoK1
 refine step_append_lies w hgd s x 64 ho B 68 i0 _ 1 24 Tryz.underlying64 hi hz0 hz1 hz2 rfl (by decide) v l.length l hs hown ⟨gx, 0, none⟩ 1 c [y] hx rfl ?_ ?_ (by decide) ?_ ?_ hB _ rfl ?_
 ·intro j u hj
  rw [Addr.add_lit]
  match j, hj with
  | 0, hj => simp at hj; subst hj; exact h0
  | j + 1, hj => simp at hj
 ·intro u hu
  simp at hu
  subst hu
  exact hy
 ·unfold maxLen; omega
 ·omega
 ·intro g cap w' h1 h2 _ _
  refine h g cap w' ?_ h2
  unfold OK1
  rw [List.length_append]
  exact h1
theorem wpList_appK1 {w : World} {ops : Array Oper} {rest : List Oper} {o : Oper} {a : Act} {Q : Exit → Act → World → Prop} (hgd : o.guard = none) (s x : Operand)
  (ho : o.op = .call { callee := .builtin .append, args := #[s, x], argTypes := #[64, 64] })
  (B : Nat) (v : Value) (l : List Value) (y : Value) (hs : a.eval s = v) (hown : OK1 w B v l) (gx c : Nat) (hx : a.eval x = .slice (some ⟨gx, 0, none⟩) 1 c)
  (h0 : w.cell? ⟨gx, 0, none⟩ = some y) (hy : y.oneCell' = true) (hl : l.length ≤ 1073741824) (hB : B ≤ w.heap.size)
  (h : ∀ g cap w', OK1 w' B (.slice (some ⟨g, 0, none⟩) (l.length + 1) cap) (l ++ [y]) → w.grownBy w' v.ownBlock → wpList Tryz.prog ops Q rest (a.put o.dst (.slice (some ⟨g, 0, none⟩) (l.length + 1) cap)) w') : wpList Tryz.prog ops Q (o :: rest) a w := by
 obtain ⟨i0, hi, hz0, hz1, hz2⟩ := info_parts Tryz.infoK1
 refine wpList_append_lies w hgd s x 64 ho B 68 i0 _ 1 24 Tryz.underlying64 hi hz0 hz1 hz2 rfl (by decide) v l.length l hs hown ⟨gx, 0, none⟩ 1 c [y] hx rfl ?_ ?_ (by decide) ?_ ?_ hB _ rfl ?_
 ·intro j u hj
  rw [Addr.add_lit]
  match j, hj with
  | 0, hj => simp at hj; subst hj; exact h0
  | j + 1, hj => simp at hj
 ·intro u hu
  simp at hu
  subst hu
  exact hy
 ·unfold maxLen; omega
 ·omega
 ·intro g cap w' h1 h2 _ _
  refine h g cap w' ?_ h2
  unfold OK1
  rw [List.length_append]
  exact h1
theorem ok1_keeps {w w' : World} {B b : Nat} {v : Value} {L : List Value} {cur : Array Value} {t : TypeId} (h : OK1 w B v L) (hg : w.grownBy w' v.ownBlock) (hb : w.heap[b]? = some (.cells cur t (0, 0))) (ht : t ≠ 68) : w'.heap[b]? = w.heap[b]? :=
 hg.block b (lt_of_block hb) (fun e => by
  obtain ⟨cur, hc⟩ := h.typed e.symm
  rw [hb] at hc
  cases hc
  exact ht rfl)
theorem OL5.pastK {w w' : World} {B B' : Nat} {v v' : Value} {l : List Ib} {L : List Value} (h : OL5 w B v l) (h' : OK1 w B' v' L) (hg : w.grownBy w' v'.ownBlock) : OL5 w' B v l := h.move fun b hb => by
 obtain ⟨cur, hc⟩ := h.typed hb
 exact ok1_keeps h' hg hc (by decide)
theorem Ss.pastK {w w' : World} {B B' : Nat} {v v' : Value} {l : List Sg} {L : List Value} (h : Ss w B v l) (h' : OK1 w B' v' L) (hg : w.grownBy w' v'.ownBlock) : Ss w' B v l :=
 ⟨h.1.move fun b hb => by
  obtain ⟨cur, hc⟩ := h.1.typed hb
  exact ok1_keeps h' hg hc (by decide), fun x hx => (h.2 x hx).kept fun k cur hc => ok1_keeps h' hg hc (by decide)⟩
theorem Bz.pastK {w w' : World} {b B' : Nat} {v' : Value} {cs : Array Value} {t : TypeId} {L : List Value} (h : Bz w b cs t) (ht : t ≠ 68) (h' : OK1 w B' v' L) (hg : w.grownBy w' v'.ownBlock) : Bz w' b cs t := by
 unfold Bz at h ⊢
 rw [ok1_keeps h' hg h ht]
 exact h
def Lr (w : World) (B : Nat) (L : List Value) (Ks : List (List Ib)) : Prop := L.length = Ks.length ∧ ∀ (i : Nat) (K : List Ib), Ks[i]? = some K → ∃ u, L[i]? = some u ∧ OL5 w B u K
theorem Lr.later {w w' : World} {B : Nat} {L : List Value} {Ks : List (List Ib)} (h : Lr w B L Ks) (hb : Below w.heap.size w w') : Lr w' B L Ks := ⟨h.1, fun i K hK => by
 obtain ⟨u, h1, h2⟩ := h.2 i K hK
 exact ⟨u, h1, h2.later hb⟩⟩
theorem Lr.pastK {w w' : World} {B B' : Nat} {v' : Value} {L M : List Value} {Ks : List (List Ib)} (h : Lr w B L Ks) (h' : OK1 w B' v' M) (hg : w.grownBy w' v'.ownBlock) : Lr w' B L Ks := ⟨h.1, fun i K hK => by
 obtain ⟨u, h1, h2⟩ := h.2 i K hK
 exact ⟨u, h1, h2.pastK h' hg⟩⟩
theorem Lr.nil (w : World) (B : Nat) : Lr w B [] [] := ⟨rfl, fun i K h => by simp at h⟩
theorem Lr.snoc {w : World} {B : Nat} {L : List Value} {Ks : List (List Ib)} {u : Value} {K : List Ib} (h : Lr w B L Ks) (hu : OL5 w B u K) : Lr w B (L ++ [u]) (Ks ++ [K]) := by
 refine ⟨by simp [h.1], fun i K' hK => ?_⟩
 by_cases hi : i < Ks.length
 ·rw [List.getElem?_append_left hi] at hK
  obtain ⟨u', h1, h2⟩ := h.2 i K' hK
  exact ⟨u', by rw [List.getElem?_append_left (by rw [h.1]; exact hi)]; exact h1, h2⟩
 ·rw [List.getElem?_append_right (by omega)] at hK
  have hi0 : i = Ks.length := by
   have := (List.getElem?_eq_some_iff.1 hK).1
   simp at this
   omega
  subst hi0
  simp at hK
  subst hK
  exact ⟨u, by rw [← h.1]; simp, hu⟩
theorem OL5.told {w : World} {B : Nat} {u : Value} {K : List Ib} (h : OL5 w B u K) (h1 : 1 ≤ K.length) (h2 : K.length ≤ 4096) : ∃ g c, u = .slice (some ⟨g, 0, none⟩) K.length c ∧ K.length ≤ c ∧ RdP w (some ⟨g, 0, none⟩) K := by
 obtain ⟨a, c, rfl, hr⟩ := h.rdp (by omega)
 rcases h.2 with ⟨e9, h9⟩ | ⟨g, cap, cur, e9, -, -, hc1, -⟩
 ·omega
 ·cases e9
  exact ⟨g, c, rfl, hc1, hr⟩
theorem kb_of {w : World} {B B' ab nk kc : Nat} {L : List Value} {Ks : List (List Ib)} (h : OK1 w B' (.slice (some ⟨ab, 0, none⟩) nk kc) L) (hl : Lr w B L Ks) (hK : ∀ K ∈ Ks, 1 ≤ K.length ∧ K.length ≤ 4096) : Kb w (some ⟨ab, 0, none⟩) Ks := by
 refine ⟨ab, 0, rfl, fun i K hi => ?_⟩
 obtain ⟨u, h1, h2⟩ := hl.2 i K hi
 obtain ⟨k1, k2⟩ := hK K (List.mem_of_getElem? hi)
 obtain ⟨g, c, rfl, h3, h4⟩ := h2.told k1 k2
 exact ⟨g, 0, c, by rw [Nat.zero_add]; exact h.cell h1, h3, h4⟩

structure Fz (w : World) (cs : Array Value) (va vl : Value) (all : List (List Ib)) (L : List Value) (l : List Sg) (wr : World) : Prop where
 bx : Bz wr w.heap.size cs 30
 row : OK1 wr (w.heap.size + 1) va L
 lk : Lr wr w.heap.size L all
 ss : Ss wr w.heap.size vl l
 no : No5 l
 bel : Below w.heap.size w wr
theorem Fz.later {w wr u : World} {cs : Array Value} {va vl : Value} {all : List (List Ib)} {L : List Value} {l : List Sg} (h : Fz w cs va vl all L l wr) (hb : Below wr.heap.size wr u) : Fz w cs va vl all L l u := ⟨h.bx.later hb, h.row.later hb, h.lk.later hb, h.ss.later hb, h.no, h.bel.trans (hb.mono h.bel.size)⟩
theorem Fz.put {w wr w' : World} {cs : Array Value} {va va' vl vl' u : Value} {all : List (List Ib)} {L : List Value} {l l' : List Sg} {K : List Ib} (h : Fz w cs va vl all L l wr) (hu : OL5 wr w.heap.size u K) (hs : Ss wr w.heap.size vl' l') (hno : No5 l') (ho : OK1 w' (w.heap.size + 1) va' (L ++ [u])) (hg : wr.grownBy w' va.ownBlock) : Fz w cs va' vl' (all ++ [K]) (L ++ [u]) l' w' := by
 refine ⟨h.bx.pastK (by decide) h.row hg, ho, (h.lk.pastK h.row hg).snoc (hu.pastK h.row hg), hs.pastK h.row hg, hno, h.bel.trans ⟨hg.os, hg.tape, hg.output, hg.size, fun k hk => hg.block k (Nat.lt_of_lt_of_le hk h.bel.size) (fun e => ?_)⟩⟩
 have := (h.row.lt e.symm).1
 omega
def Kz (w wo : World) (all : List (List Ib)) (ks : List Int) (j : Nat) (vk : Value) (wi : World) : Prop := ∃ g c L, vk = .slice (some ⟨g, 0, none⟩) j c ∧ OK1 wi wo.heap.size vk L ∧ L.length = j ∧ Lr wi w.heap.size L (kidsB all (ks.take j)) ∧ Below wo.heap.size wo wi
theorem kidsB_next (all : List (List Ib)) {ks : List Int} {j : Nat} {c : Int} (h : ks[j]? = some c) : kidsB all (ks.take (j + 1)) = kidsB all (ks.take j) ++ [all.getD c.toNat []] := by
 unfold kidsB
 rw [List.take_add_one, h, Option.toList_some, List.map_append]
 rfl
theorem Kz.put {w wo wi w' : World} {all : List (List Ib)} {ks : List Int} {j g c g' c' : Nat} {L : List Value} {q : Int} {u : Value} (h1 : OK1 wi wo.heap.size (.slice (some ⟨g, 0, none⟩) j c) L) (hL : L.length = j) (h2 : Lr wi w.heap.size L (kidsB all (ks.take j))) (h3 : Below wo.heap.size wo wi) (hq : ks[j]? = some q) (hu : OL5 wi w.heap.size u (all.getD q.toNat [])) (ho : OK1 w' wo.heap.size (.slice (some ⟨g', 0, none⟩) (L.length + 1) c') (L ++ [u])) (hg : wi.grownBy w' (some g)) : Kz w wo all ks (j + 1) (.slice (some ⟨g', 0, none⟩) (j + 1) c') w' := by
 rw [hL] at ho
 refine ⟨g', c', L ++ [u], rfl, ho, by simp [hL], ?_, h3.trans ⟨hg.os, hg.tape, hg.output, hg.size, fun k hk => hg.block k (Nat.lt_of_lt_of_le hk h3.size) (fun e => ?_)⟩⟩
 ·rw [kidsB_next all hq]
  exact (h2.pastK h1 hg).snoc (hu.pastK h1 hg)
 ·have := (h1.lt (b := k) e.symm).1
  omega
def RetFN (R : List Sc × Bool) (w : World) (e : Ending) (w' : World) : Prop := ∃ v l, e = .returned (.tuple #[v, .bool R.2]) ∧ l.map Sg.ct = R.1 ∧ Ss w' w.heap.size v l ∧ Below w.heap.size w w' ∧ No5 l
set_option maxHeartbeats 4000000 in
set_option maxRecDepth 100000 in
theorem specFlattenN_any (da ta : Option Addr) (dc tc n : Nat) (ds : List Dc) (xs : List Tg) (w : World) (hd : RdD w da ds) (ht : RdT w ta xs) (hn : xs.length = n) :
  Calls Tryz.prog 17 #[.slice da ds.length dc, .agg #[.slice ta n tc]] w (RetFN (fltR ds (xs.map Tg.ct)) w) := by
 have HSW := kide (fun u (hu : Below w.heap.size w u) => specWidth_any da ta dc tc n ds xs u (hd.later hu) (ht.later hu) hn)
 have BA : Hid (Below w.heap.size w (w.alloc (Obj.cells #[.slice ta n tc] 30))) := blA _ _
 have XA := kide (Bz.new w #[.slice ta n tc] 30)
 obtain ⟨R, hR⟩ : ∃ R, fltR ds (xs.map Tg.ct) = R := ⟨_, rfl⟩
 rw [hR]
 unfold fltR at hR
 rw [List.length_map, hn] at hR
 have NIL : Hid (∀ u, Below w.heap.size w u → RetFN ([], false) w (.returned (.tuple #[.slice (some ⟨u.heap.size, 0, none⟩) 0 0, .bool false])) (u.alloc (Obj.cells #[] 73))) := fun u hu => ⟨_, [], rfl, rfl, ⟨OS5.empty u _ hu.size, by simp⟩, hu.trans ((blA _ _).mono hu.size), fun x hx => by cases hx⟩
 by_cases h0 : (widthsR ds (xs.map Tg.ct)).length = 0
 ·rw [if_pos h0] at hR
  subst hR
  have hw : widR ds (xs.map Tg.ct) = -1 := by unfold widR; rw [if_pos h0]
  rw [hw] at HSW
  generalize ds.length = nd at *
  clear hd ht hn h0 hw XA
  go_enter Tryz.func17, Tryz.ntmps17
  go_wp2_with fail
  refine Calls.mono (HSW.out _ BA.out) ?_
  rintro e w2 ⟨rfl, hb2⟩
  have B2 := kide (BA.out.trans (hb2.mono BA.out.size))
  clear hb2
  go_wp2_with fail
  exact bodyPost_ret (v := .tuple #[.slice (some ⟨w2.heap.size, 0, none⟩) 0 0, .bool false]) (by simp [results, Tryz.results17, go_sem]) rfl (NIL.out _ B2.out)
 ·rw [if_neg h0] at hR
  obtain ⟨W, hW, hW1⟩ : ∃ W, widR ds (xs.map Tg.ct) = W ∧ ¬ W < 0 := by
   refine ⟨_, rfl, ?_⟩
   unfold widR
   rw [if_neg h0]
   have hl : (widthsR ds (xs.map Tg.ct)).length - 1 < (widthsR ds (xs.map Tg.ct)).length := by omega
   have h9 := (widthsR_bounds ds (xs.map Tg.ct)).2 _ (List.getElem_mem hl)
   simp only [List.getD, List.getElem?_eq_getElem hl, Option.getD_some]
   omega
  rw [hW] at HSW
  have hv64 : ∀ m ∈ xs.map Tg.ct, in64 m.vr := fun m hm => by
   obtain ⟨x, hx, rfl⟩ := List.mem_map.1 hm
   obtain ⟨i, hi⟩ := List.getElem?_of_mem hx
   rcases ht.2 with h0 | ⟨b, o, -, hc⟩
   ·rw [h0] at hi; simp at hi
   ·exact (hc i x hi).2.2.2.2.1
  obtain ⟨hdc, hn1, hn4, -, hFN⟩ := right_at h0 hv64
  rw [List.length_map, hn] at hn1 hn4
  obtain ⟨tb, tq, rfl, hcs⟩ : ∃ tb tq, ta = some ⟨tb, tq, none⟩ ∧ ∀ i x, xs[i]? = some x → TgAt w tb (tq + i * 7) x := by
   rcases ht.2 with h0 | ⟨b, o, e, hc⟩
   ·rw [h0] at hn; simp at hn; omega
   ·exact ⟨b, o, e, hc⟩
  obtain ⟨nd, hnd⟩ : ∃ n, ds.length = n := ⟨_, rfl⟩
  rw [hnd] at HSW ⊢
  have HD := kide hd
  have HND := kide hnd
  have HCS := kide hcs
  have HN := kide hn
  have HFN := kide hFN
  have HR := kide hR
  have HN4 := kide hn4
  have HN1 := kide hn1
  clear hd ht hn h0 hW hv64 hdc hn1 hn4 hFN hcs hnd hR
  go_enter Tryz.func17, Tryz.ntmps17
  go_wp2_with fail
  refine Calls.mono (HSW.out _ BA.out) ?_
  rintro e w2 ⟨rfl, hb2⟩
  have B2 := kide (BA.out.trans (hb2.mono BA.out.size))
  have X2 := kide (XA.out.later hb2)
  have S0 : Hid (Fz w #[.slice (some ⟨tb, tq, none⟩) n tc] (.slice (some ⟨w2.heap.size, 0, none⟩) 0 0) (.slice (some ⟨w2.heap.size + 1, 0, none⟩) 0 0) [] [] [] ((w2.alloc (Obj.cells #[] 68)).alloc (Obj.cells #[] 73))) := by
   have hlt := X2.out.lt
   have ha : Below w2.heap.size w2 (w2.alloc (Obj.cells #[] 68)) := blA _ _
   have hb : Below (w2.alloc (Obj.cells #[] 68)).heap.size (w2.alloc (Obj.cells #[] 68)) ((w2.alloc (Obj.cells #[] 68)).alloc (Obj.cells #[] 73)) := blA _ _
   refine ⟨(X2.out.later ha).later hb, (OK1.empty w2 _ hlt).later hb, Lr.nil _ _, ⟨?_, by simp⟩, (fun x hx => by cases hx), B2.out.trans ((ha.trans (hb.mono (by simp))).mono B2.out.size)⟩
   have h9 := OS5.empty (w2.alloc (Obj.cells #[] 68)) w.heap.size (by simp; omega)
   rw [World.size_alloc] at h9
   exact h9
  clear hb2 XA
  go_wp2_with fail
  go_loopw [6, 7, 8] (fun va vl i wr => ∃ (k : Nat) (L : List Value) (l : List Sg), k ≤ n ∧ i = .int .i64 (k : Int) ∧ L.length = k ∧ (∃ (ga ca : Nat), va = .slice (some ⟨ga, 0, none⟩) k ca) ∧ Fz w #[.slice (some ⟨tb, tq, none⟩) n tc] va vl (bitsN ds [] ((xs.map Tg.ct).take k)) L l wr ∧ (∀ y ∈ bitsN ds [] ((xs.map Tg.ct).take k), (formB y).length ≤ 2000) ∧ (1 ≤ k → l.map Sg.ct = formB ((bitsN ds [] ((xs.map Tg.ct).take k)).getD (k - 1) []))) (fun _ _ i _ => n - (intOf i).toNat)
  case atStart => exact ⟨0, [], [], Nat.zero_le _, rfl, rfl, ⟨_, _, rfl⟩, S0.out, fun y hy => by simp [bitsN] at hy, fun h => by omega⟩
  case round =>
   obtain ⟨k, L, l, hk, rfl, hLk, ⟨ga, ca, rfl⟩, hfz, hle, hlast⟩ := hrel
   have c0 := hfz.bx.cell 0
   simp at c0
   have lbx := hfz.bx.lt
   have HFZ := kide hfz
   have HLE := kide hle
   have HLA := kide hlast
   have HLK := kide hLk
   clear hfz hle hlast hLk
   by_cases hlt : k < n
   ·obtain ⟨x, hx⟩ : ∃ x, xs[k]? = some x := ⟨xs[k]'(by rw [HN.out]; exact hlt), List.getElem?_eq_getElem _⟩
    have hxm : (xs.map Tg.ct)[k]? = some x.ct := by rw [List.getElem?_map, hx]; rfl
    obtain ⟨⟨p0, p1, p2, p3, p4, p5, p6⟩, r1, r2, -, r4, -⟩ := HCS.out k x hx
    simp only [Tg.hd] at p0 p1 p2 p3 p4 p5 p6
    have hbel := HFZ.out.bel
    have ltb : tb < w.heap.size := block_lt_of_cell p0
    have hltb : tb < wr.heap.size := by have := hbel.size; omega
    replace p0 := (hbel.cell (p := ⟨tb, tq + k * 7, none⟩) ltb).trans p0
    replace p1 := (hbel.cell (p := ⟨tb, tq + k * 7 + 1, none⟩) ltb).trans p1
    replace p2 := (hbel.cell (p := ⟨tb, tq + k * 7 + 2, none⟩) ltb).trans p2
    replace p3 := (hbel.cell (p := ⟨tb, tq + k * 7 + 3, none⟩) ltb).trans p3
    replace p4 := (hbel.cell (p := ⟨tb, tq + k * 7 + 4, none⟩) ltb).trans p4
    replace p5 := (hbel.cell (p := ⟨tb, tq + k * 7 + 5, none⟩) ltb).trans p5
    replace p6 := (hbel.cell (p := ⟨tb, tq + k * 7 + 6, none⟩) ltb).trans p6
    have hnx := bitsN_next ds hxm []
    have hfn := HFN.out k x.ct hxm
    have hlk : (bitsN ds [] ((xs.map Tg.ct).take k)).length = k := by rw [bitsN_len, List.length_take, List.length_map, HN.out]; simp; omega
    obtain ⟨all, hall⟩ : ∃ all, bitsN ds [] ((xs.map Tg.ct).take k) = all := ⟨_, rfl⟩
    rw [hall] at HFZ HLE hnx hfn hlk HLA
    have RW := kide (r1.later hbel)
    have RK := kide (r2.later hbel)
    have RDW := kide (HD.out.later hbel)
    obtain ⟨⟨op, vr, A, Bb, bw, ws, ks⟩, wa, wc, ka, kc⟩ := x
    simp only [] at p0 p1 p2 p3 p4 p5 p6 RW RK hfn hnx
    have HNX := kide hnx
    have HFN1 := kide hfn
    have HALL := kide hall
    have HXM := kide hxm
    have HLN := kide hlk
    have hk1 : (k : Int) < (n : Int) := by omega
    have hk0 : (k : Int) ≥ 0 := by omega
    have hkw : IntKind.i64.wrap ((k : Int) + 1) = (k : Int) + 1 := by rw [IntKind.wrap_i64]; have := HN4.out; omega
    obtain ⟨nk, hnk⟩ : ∃ m, ks.length = m := ⟨_, rfl⟩
    rw [hnk] at p6
    have hnk4 : nk ≤ 1048576 := by rw [← hnk]; exact r2.1
    have HNK := kide hnk
    have K0 : Hid (Kz w wr all ks 0 (.slice (some ⟨wr.heap.size, 0, none⟩) 0 0) (wr.alloc (Obj.cells #[] 68))) := ⟨_, _, [], rfl, OK1.empty wr _ (Nat.le_refl _), rfl, Lr.nil _ _, blA _ _⟩
    clear hx hxm r1 r2 r4 hbel hnx hfn hall hnk
    go_wp2_with fail
    obtain ⟨wo, hwo⟩ : ∃ wo, wo = wr := ⟨_, rfl⟩
    subst hwo
    go_loopw [9, 10] (fun vk j wi => ∃ (q : Nat), q ≤ nk ∧ j = .int .i64 (q : Int) ∧ Kz w wo all ks q vk wi) (fun _ j _ => nk - (intOf j).toNat)
    case atStart => exact ⟨0, Nat.zero_le _, rfl, K0.out⟩
    case round =>
     obtain ⟨q, hq, rfl, hkz⟩ := hrel
     obtain ⟨g, c, Lk, rfl, ho, hLk, hlr, hbw⟩ := hkz
     have y0 := (hbw.cell (p := ⟨w.heap.size, 0, none⟩) lbx).trans c0
     have y6 := (hbw.cell (p := ⟨tb, tq + k * 7 + 6, none⟩) hltb).trans p6
     have HO := kide ho
     have HLKK := kide hLk
     have HLR := kide hlr
     have HBW := kide hbw
     have hgl : g < wr.heap.size := (ho.lt (b := g) rfl).2
     have hsz0 : wo.heap.size ≤ wr.heap.size := hbw.size
     clear ho hLk hlr hbw
     by_cases hqt : q < nk
     ·obtain ⟨c9, hc9⟩ : ∃ c9, ks[q]? = some c9 := ⟨ks[q]'(by rw [HNK.out]; exact hqt), List.getElem?_eq_getElem _⟩
      obtain ⟨⟨h1, h2⟩, h3, h4, -⟩ := HFN1.out.kid c9 (List.mem_of_getElem? hc9)
      obtain ⟨kb, ko, rfl, hkc⟩ : ∃ kb ko, ka = some ⟨kb, ko, none⟩ ∧ wo.cell? ⟨kb, ko + q, none⟩ = some (.int .i64 c9) := by
       rcases RK.out.2.2 with h0 | ⟨b, o, e, hc⟩
       ·rw [h0] at hc9; simp at hc9
       ·refine ⟨b, o, e, ?_⟩
        have h9 := hc q (by rw [HNK.out]; exact hqt)
        simpa [List.getD, hc9] using h9
      obtain ⟨C, rfl⟩ : ∃ C : Nat, c9 = (C : Int) := ⟨c9.toNat, by omega⟩
      rw [Int.toNat_natCast] at h3 h4
      rw [HLN.out] at h2
      obtain ⟨uu, hu1, hu2⟩ := HFZ.out.lk.2 C (all.getD C []) (by simp [List.getD, show C < all.length by rw [HLN.out]; omega])
      have hca := HFZ.out.row.cell hu1
      obtain ⟨gu, cu, rfl, hu3, -⟩ := hu2.told h3 h4
      have y1 := (HBW.out.cell (p := ⟨kb, ko + q, none⟩) (block_lt_of_cell hkc)).trans hkc
      have y2 := (HBW.out.cell (p := ⟨ga, C, none⟩) (block_lt_of_cell hca)).trans hca
      have HU := kide (hu2.later HBW.out)
      have HC9 := kide hc9
      obtain ⟨KL, hKL⟩ : ∃ m, (all.getD C []).length = m := ⟨_, rfl⟩
      rw [hKL] at y2 HU
      have q1 : (q : Int) < (nk : Int) := by omega
      have q2 : IntKind.i64.wrap ((q : Int) + 1) = (q : Int) + 1 := by rw [IntKind.wrap_i64]; omega
      have q3 : (C : Int) < (k : Int) := h2
      clear hc9 h1 h2 h3 h4 hkc hu1 hu2 hca hu3 hKL
      have BA2 : Hid (Below wr.heap.size wr (wr.alloc (Obj.cells #[.slice (some ⟨gu, 0, none⟩) KL cu] 68))) := blA _ _
      have XA2 := kide (Bz.new wr #[.slice (some ⟨gu, 0, none⟩) KL cu] 68)
      have OA2 := kide (HO.out.later BA2.out)
      have LA2 := kide (HLR.out.later BA2.out)
      have UA2 := kide (HU.out.later BA2.out)
      have WA2 := kide (HBW.out.trans (BA2.out.mono HBW.out.size))
      have hll : Lk.length ≤ 1073741824 := by rw [HLKK.out]; omega
      have hsz : wo.heap.size ≤ (wr.alloc (Obj.cells #[.slice (some ⟨gu, 0, none⟩) KL cu] 68)).heap.size := by simp; omega
      go_wp2_with (refine wpList_appK1 rfl _ _ rfl wo.heap.size _ Lk (Value.slice (some ⟨gu, 0, none⟩) KL cu) rfl OA2.out wr.heap.size _ rfl (XA2.out.cell 0) rfl hll hsz ?_)
      intro g6 c6 w6 ho6 hg6
      have K6 := kide (Kz.put OA2.out HLKK.out LA2.out WA2.out HC9.out UA2.out ho6 hg6)
      rw [HLKK.out]
      clear ho6 hg6
      go_wp2_with fail
      go_roundw
      case rel => exact ⟨q + 1, by omega, rfl, K6.out⟩
      case measure => simp only [intOf]; omega
     ·obtain rfl : q = nk := by omega
      have htk : ks.take q = ks := List.take_of_length_le (by rw [HNK.out]; exact Nat.le_refl _)
      rw [htk] at HLR
      have HKB := kide (kb_of HO.out HLR.out (fun K hK => by
       obtain ⟨j, hj, rfl⟩ := List.mem_map.1 hK
       exact (HFN1.out.kid j hj).2.imp_right And.left))
      have HND2 := kide (l5Node_any (n := ⟨op, vr, A, Bb, bw, ws, ks⟩) da wa ka (some ⟨g, 0, none⟩) dc nd wc kc q c (RDW.out.later HBW.out) HND.out (RW.out.later HBW.out) HKB.out HNK.out HFN1.out)
      simp only [HNK.out] at HND2
      have z0 := (HBW.out.cell (p := ⟨tb, tq + k * 7, none⟩) hltb).trans p0
      have z1 := (HBW.out.cell (p := ⟨tb, tq + k * 7 + 1, none⟩) hltb).trans p1
      have z2 := (HBW.out.cell (p := ⟨tb, tq + k * 7 + 2, none⟩) hltb).trans p2
      have z3 := (HBW.out.cell (p := ⟨tb, tq + k * 7 + 3, none⟩) hltb).trans p3
      have z4 := (HBW.out.cell (p := ⟨tb, tq + k * 7 + 4, none⟩) hltb).trans p4
      have z5 := (HBW.out.cell (p := ⟨tb, tq + k * 7 + 5, none⟩) hltb).trans p5
      have FZ1 := kide (HFZ.out.later HBW.out)
      clear HO HLKK HLR HKB htk
      go_wp2_with fail
      refine Calls.mono HND2.out ?_
      rintro e w4 ⟨v4, rfl, ho4, hb4⟩
      have hlen := HFN1.out.len
      have hokI := HFN1.out.ok
      have HBAD : Hid (nodB ds all ⟨op, vr, A, Bb, bw, ws, ks⟩ ∈ bitsN ds [] (xs.map Tg.ct)) := by
       have h7 : nodB ds all ⟨op, vr, A, Bb, bw, ws, ks⟩ ∈ bitsN ds [] ((xs.map Tg.ct).take (k + 1)) := by rw [HNX.out]; simp
       have h6 := bitsN_app ds ((xs.map Tg.ct).take (k + 1)) ((xs.map Tg.ct).drop (k + 1)) []
       rw [List.take_append_drop] at h6
       show _ ∈ _
       rw [h6]
       exact bitsN_mem ds _ _ _ h7
      obtain ⟨KN, hKN⟩ : ∃ KN, nodB ds all ⟨op, vr, A, Bb, bw, ws, ks⟩ = KN := ⟨_, rfl⟩
      rw [hKN] at hlen hokI ho4 HBAD HNX
      obtain ⟨g4, c4, rfl, hc4, hr4⟩ := ho4.told hlen.1 hlen.2
      have F4 := kide (FZ1.out.later hb4)
      have O4 := kide (ho4.lowB FZ1.out.bel.size)
      obtain ⟨N4, hN4⟩ : ∃ m, KN.length = m := ⟨_, rfl⟩
      have HLF := kide (l5FormN_any (some ⟨g4, 0, none⟩) c4 N4 KN w4 hr4 hN4 (by omega) (fun p hp => by
       have h9 := okI_lt (hokI p hp)
       exact ⟨fun e => by have := h9.1 e; omega, fun e => by have := h9.2 e; omega⟩))
      rw [hN4] at O4 ⊢
      clear hlen hokI ho4 hb4 hKN hc4 hr4 hN4 HND2 z0 z1 z2 z3 z4 z5 y0 y6 p0 p1 p2 p3 p4 p5 p6 FZ1
      go_wp2_with fail
      refine Calls.mono HLF.out ?_
      rintro e w5 ⟨v5, l5, rfl, hm5, hs5, hb5, hno5⟩
      have NO5 := kide hno5
      have F5 := kide (F4.out.later hb5)
      have O5 := kide (O4.out.later hb5)
      have S5 : Hid (Ss w5 w.heap.size v5 l5) := ⟨hs5.1.low F4.out.bel.size, fun x hx => (hs5.2 x hx).mono F4.out.bel.size⟩
      have M5 := kide hm5
      clear hm5 hs5 hb5 hno5
      by_cases h20 : l5.length ≤ 2000
      ·rw [decide_eq_true h20]
       have H20 : Hid ((formB KN).length ≤ 2000) := by show _ ≤ _; rw [← M5.out, List.length_map]; exact h20
       have BA6 : Hid (Below w5.heap.size w5 (w5.alloc (Obj.cells #[.slice (some ⟨g4, 0, none⟩) N4 c4] 68))) := blA _ _
       have XA6 := kide (Bz.new w5 #[.slice (some ⟨g4, 0, none⟩) N4 c4] 68)
       have F6 := kide (F5.out.later BA6.out)
       have O6 := kide (O5.out.later BA6.out)
       have S6 := kide (S5.out.later BA6.out)
       have hll : L.length ≤ 1073741824 := by rw [HLK.out]; have := HN4.out; omega
       have hsz : w.heap.size + 1 ≤ (w5.alloc (Obj.cells #[.slice (some ⟨g4, 0, none⟩) N4 c4] 68)).heap.size := F6.out.bx.lt
       clear h20
       go_wp2_with (refine wpList_appK1 rfl _ _ rfl (w.heap.size + 1) _ L (Value.slice (some ⟨g4, 0, none⟩) N4 c4) rfl F6.out.row w5.heap.size _ rfl (XA6.out.cell 0) rfl hll hsz ?_)
       intro g7 c7 w7 ho7 hg7
       have F7 := kide (F6.out.put O6.out S6.out NO5.out ho7 hg7)
       rw [HLK.out] at F7 ⊢
       clear ho7 hg7
       go_wp2_with fail
       go_roundw
       case rel =>
        refine ⟨k + 1, L ++ [Value.slice (some ⟨g4, 0, none⟩) N4 c4], l5, by omega, rfl, by simp [HLK.out], ⟨_, _, rfl⟩, by rw [HNX.out]; exact F7.out, fun y hy => ?_, fun _ => ?_⟩
        ·rw [HNX.out] at hy
         rcases List.mem_append.1 hy with hy | hy
         ·exact HLE.out y hy
         ·rw [List.mem_singleton.1 hy]; exact H20.out
        ·rw [HNX.out, M5.out, Nat.add_sub_cancel]
         congr 1
         simp [List.getD, ← HLN.out]
       case measure => simp only [intOf]; omega
      ·rw [decide_eq_false h20]
       have hRR := HR.out
       rw [if_neg (fun h9 => by
        have h8 := List.all_eq_true.1 h9 KN HBAD.out
        simp only [decide_eq_true_eq] at h8
        rw [← M5.out, List.length_map] at h8
        exact h20 h8)] at hRR
       subst hRR
       have B5 := kide F5.out.bel
       clear h20
       go_wp2_with fail
       exact bodyPost_ret (v := .tuple #[.slice (some ⟨w5.heap.size, 0, none⟩) 0 0, .bool false]) (by simp [results, Tryz.results17, go_sem]) rfl (NIL.out _ B5.out)
   ·obtain rfl : k = n := by omega
    have htk : (xs.map Tg.ct).take k = xs.map Tg.ct := List.take_of_length_le (by rw [List.length_map, HN.out]; exact Nat.le_refl _)
    rw [htk] at HFZ HLE HLA
    have hRR := HR.out
    rw [if_pos (List.all_eq_true.2 fun y hy => decide_eq_true (HLE.out y hy))] at hRR
    subst hRR
    have hla := HLA.out HN1.out
    have HLA2 := kide hla
    obtain ⟨al, cl, rfl⟩ := HFZ.out.ss.1.form
    clear hla htk
    go_wp2_with fail
    exact bodyPost_ret (v := .tuple #[.slice al l.length cl, .bool true]) (by simp [results, Tryz.results17, go_sem]) rfl ⟨_, l, rfl, HLA2.out, HFZ.out.ss, HFZ.out.bel, HFZ.out.no⟩
end Go.Proofs.YtnpjgoklpaigjaaGreatDoor
