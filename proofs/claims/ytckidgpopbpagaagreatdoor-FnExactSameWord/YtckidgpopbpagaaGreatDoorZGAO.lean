/- Several texts in one. -/
import Derived.Test.YtckidgpopbpagaaGreatDoorZGAN
import Derived.Handy
import Derived.Test.YtckidgpopbpagaaGreatDoorZGAL
import Derived.Test.YtckidgpopbpagaaGreatDoorQY
import Derived.Test.YtckidgpopbpagaaGreatDoorZGAM

/- The flat form of a right term. -/
namespace Go.Proofs.YtckidgpopbpagaaGreatDoor
set_option linter.unusedVariables false
set_option linter.unusedSimpArgs false
open Go.RowKit Go.Shelf

theorem bitsN_mem (ds : List Dc) : ∀ (ns : List Tc) (all : List (List Ib)) (y : List Ib), y ∈ all → y ∈ bitsN ds all ns
  | [], all, y, h => h
  | n :: t, all, y, h => by
    rw [bitsN]
    exact bitsN_mem ds t _ y (List.mem_append.2 (.inl h))
/-- What flatTerm tells. -/
def RetFt (bs : List (List Ib)) (w : World) (e : Ending) (w' : World) : Prop := Below w.heap.size w w' ∧ ((∃ v l, e = .returned (.tuple #[v, .bool true]) ∧ Fg w' w.heap.size v (formB (bs.getD (bs.length - 1) [])) l ∧ ∀ x ∈ bs, (formB x).length ≤ 2000) ∨
  (e = .returned (.tuple #[.slice none 0 0, .bool false]) ∧ ∃ x ∈ bs, 2000 < (formB x).length))

set_option maxHeartbeats 4000000 in
set_option maxRecDepth 100000 in
theorem flatTerm_any (da ta : Option Addr) (dc nd tc n : Nat) (ds : List Dc) (xs : List Tg) (w : World) (hd : RdD w da ds) (hnd : ds.length = nd) (ht : RdT w ta xs) (hn : xs.length = n) (hr : ¬ (widthsR ds (xs.map Tg.ct)).length = 0) (hno : ∀ x ∈ xs, x.wa = none → x.wc = 0) (hpw : ∀ x ∈ xs, ∀ q, x.wa = some q → q.block < w.heap.size) (hpk : ∀ x ∈ xs, ∀ q, x.ka = some q → q.block < w.heap.size) :
    Calls Tryz.prog 30 #[.slice da nd dc, .agg #[.slice ta n tc]] w (RetFt (bitsN ds [] (xs.map Tg.ct)) w) := by
  have hv64 : ∀ m ∈ xs.map Tg.ct, in64 m.vr := fun m hm => by
    obtain ⟨x, hx, rfl⟩ := List.mem_map.1 hm
    obtain ⟨i, hi⟩ := List.getElem?_of_mem hx
    rcases ht.2 with h0 | ⟨b, o, -, hc⟩
    · rw [h0] at hi; simp at hi
    · exact (hc i x hi).2.2.2.2.1
  obtain ⟨hdc, hn1, hn4, hAl, hFN⟩ := right_at hr hv64
  rw [List.length_map, hn] at hn1 hn4 hAl
  obtain ⟨tb, tq, rfl, hcs⟩ : ∃ tb tq, ta = some ⟨tb, tq, none⟩ ∧ ∀ i x, xs[i]? = some x → TgAt w tb (tq + i * 7) x := by
    rcases ht.2 with h0 | ⟨b, o, e, hc⟩
    · rw [h0] at hn; simp at hn; omega
    · exact ⟨b, o, e, hc⟩
  have hmk := make_sss n (by omega)
  obtain ⟨b, hb⟩ : ∃ b, w.heap.size = b := ⟨_, rfl⟩
  have HB := kide hb
  obtain ⟨w2, hw2⟩ : ∃ w2, (w.alloc (Obj.cells #[Value.slice (some ⟨tb, tq, none⟩) n tc] 33)).alloc (.cells (madeCells #[.slice none 0 0] n) 42) = w2 := ⟨_, rfl⟩
  have b2 : Below w.heap.size w w2 := by rw [← hw2]; exact ((Below.refl _ _).alloc (Nat.le_refl _) _).alloc (by simp) _
  have T0 : Hid (Ft w b (b + 1) n (bitsN ds [] ((xs.map Tg.ct).take 0)) w2) := by
    refine ⟨⟨madeCells #[.slice none 0 0] n, ?_, size_madeCells _ _, fun j z e => ?_, fun i hi => by simp [bitsN] at hi⟩, by rw [← hb]; exact b2⟩
    · have h9 := Bz.new (w.alloc (Obj.cells #[Value.slice (some ⟨tb, tq, none⟩) n tc] 33)) (madeCells #[.slice none 0 0] n) 42
      rw [World.size_alloc, hb] at h9
      rw [← hw2]
      exact h9
    · rw [← Array.getElem?_toList, toList_madeCells_one, List.getElem?_replicate] at e
      split at e
      · cases e
      · cases e
  have c0 : w2.cell? ⟨b, 0, none⟩ = some (.slice (some ⟨tb, tq, none⟩) n tc) := by
    have h9 := (Bz.new w #[Value.slice (some ⟨tb, tq, none⟩) n tc] 33).later ((Below.refl _ _).alloc (Nat.le_refl _) (.cells (madeCells #[.slice none 0 0] n) 42))
    rw [hw2, hb] at h9
    exact h9.cell 0
  have hz2 : w2.heap.size = b + 2 := by rw [← hw2]; simp [hb]
  have HD := kide hd
  have HND := kide hnd
  have HCS := kide hcs
  have HN := kide hn
  have HNO := kide hno
  have HPW := kide hpw
  have HPK := kide hpk
  have HAL := kide hAl
  have HFN := kide hFN
  clear hd hnd ht hn hr hno hpw hpk hAl hFN hcs hv64 b2
  go_enter Tryz.func30, Tryz.ntmps30
  go_wp2_with fail
  clear hmk hw2 c0
  go_loopw [18] (fun i wr => ∃ k : Nat, k ≤ n ∧ i = .int .i64 (k : Int) ∧ Ft w b (b + 1) n (bitsN ds [] ((xs.map Tg.ct).take k)) wr ∧ ∀ y ∈ bitsN ds [] ((xs.map Tg.ct).take k), (formB y).length ≤ 2000) (fun i _ => n - (intOf i).toNat)
  case atStart => exact ⟨0, Nat.zero_le _, rfl, T0.out, fun y hy => by simp [bitsN] at hy⟩
  case round =>
    obtain ⟨k, hk, rfl, hft, hle⟩ := hrel
    have HFT := kide hft
    have HLE := kide hle
    have hsz := (show ∃ cur, Bz wr (b + 1) cur 42 from ⟨_, hft.row.choose_spec.1⟩)
    obtain ⟨cur9, hc9⟩ := hsz
    have hl9 := hc9.lt
    clear hft hle hc9
    by_cases hlt : k < n
    · obtain ⟨x, hx⟩ : ∃ x, xs[k]? = some x := ⟨xs[k]'(by rw [HN.out]; exact hlt), List.getElem?_eq_getElem _⟩
      have hxm : (xs.map Tg.ct)[k]? = some x.ct := by rw [List.getElem?_map, hx]; rfl
      have hm := List.mem_of_getElem? hx
      obtain ⟨⟨p0, p1, p2, p3, p4, p5, p6⟩, r1, r2, -, r4, -⟩ := HCS.out k x hx
      simp only [Tg.hd] at p0 p1 p2 p3 p4 p5 p6
      have hbel := HFT.out.bel
      have ltb : tb < b := by rw [← HB.out]; exact block_lt_of_cell p0
      replace p0 := (hbel.cell (p := ⟨tb, tq + k * 7, none⟩) ltb).trans p0
      replace p1 := (hbel.cell (p := ⟨tb, tq + k * 7 + 1, none⟩) ltb).trans p1
      replace p2 := (hbel.cell (p := ⟨tb, tq + k * 7 + 2, none⟩) ltb).trans p2
      replace p3 := (hbel.cell (p := ⟨tb, tq + k * 7 + 3, none⟩) ltb).trans p3
      replace p4 := (hbel.cell (p := ⟨tb, tq + k * 7 + 4, none⟩) ltb).trans p4
      replace p5 := (hbel.cell (p := ⟨tb, tq + k * 7 + 5, none⟩) ltb).trans p5
      replace p6 := (hbel.cell (p := ⟨tb, tq + k * 7 + 6, none⟩) ltb).trans p6
      have hnx := bitsN_next ds hxm []
      have hfn := HFN.out k x.ct hxm
      have hal := HAL.out k hk
      have hlk : (bitsN ds [] ((xs.map Tg.ct).take k)).length = k := by rw [bitsN_len, List.length_take, List.length_map, HN.out]; simp; omega
      obtain ⟨all, hall⟩ : ∃ all, bitsN ds [] ((xs.map Tg.ct).take k) = all := ⟨_, rfl⟩
      rw [hall] at HFT HLE hnx hfn hal hlk
      obtain ⟨hP, hOK, hSU⟩ := sgL_P hfn r1.2.1
      have BV : Hid (Below wr.heap.size wr (wr.alloc (Obj.cells #[Value.int .i64 x.ct.op, Value.int .i64 x.ct.vr, Value.int .i64 x.ct.a, Value.int .i64 x.ct.b, Value.int .i64 x.ct.bw, Value.slice x.wa x.ct.ws.length x.wc, Value.slice x.ka x.ct.ks.length x.kc] 62))) := (Below.refl _ _).alloc (Nat.le_refl _) _
      have HSG := kide (fun u (hu : Below wr.heap.size wr u) => segsOf_it da dc nd ds x (some ⟨b + 1, 0, none⟩) n n all u (HD.out.later (by rw [HB.out]; exact hbel.trans (hu.mono (by omega)))) HND.out ⟨r1.later (by rw [HB.out]; exact hbel.trans (hu.mono (by omega))), r2.later (by rw [HB.out]; exact hbel.trans (hu.mono (by omega))), HNO.out x hm, fun q hq => by have h9 := HPW.out x hm q hq; have := hu.size; have := HB.out; omega, fun q hq => by have h9 := HPK.out x hm q hq; have := hu.size; have := HB.out; omega, r4⟩ ((HFT.out.later hu (by omega)).ah hal) (by omega) (by omega) hfn)
      have HNX := kide hnx
      have HP := kide hP
      have HOK := kide hOK
      have HSU := kide hSU
      have HFNK := kide hfn
      have HLK := kide hlk
      have HALL := kide hall
      have HXM := kide hxm
      have hk1 : (k : Int) < (n : Int) := by omega
      have hk0 : (k : Int) ≥ 0 := by omega
      have hkw : IntKind.i64.wrap ((k : Int) + 1) = (k : Int) + 1 := by rw [IntKind.wrap_i64]; omega
      clear hx hxm hm r1 r2 r4 hbel hnx hfn hal hlk hall hP hOK hSU
      go_wp2_with fail
      refine Calls.mono (HSG.out _ BV.out) ?_
      rintro e w4 ⟨v4, rfl, hi4, hb4⟩
      obtain ⟨gf, lb, rfl, hen, hsq⟩ := hi4.is
      have b4 : Below wr.heap.size wr w4 := BV.out.trans (hb4.mono BV.out.size)
      have HGA := kide (gather_any gf lb _ w4 hen hsq HOK.out HSU.out)
      have B4 := kide b4
      clear hi4 hb4 hen hsq b4
      go_wp2_with fail
      refine Calls.mono HGA.out ?_
      rintro e w5 ⟨hb5, (⟨v, l, rfl, hl5, hn5, ho5, hr5, hx5, hra5, hpz5⟩ | ⟨rfl, h9⟩)⟩
      · obtain ⟨va, vc, rfl⟩ := ho5.form
        have b5 : Below wr.heap.size wr w5 := B4.out.trans (hb5.mono B4.out.size)
        have hbw4 : b ≤ w4.heap.size := by have := B4.out.size; omega
        have hfg : Fg w5 b (.slice va l.length vc) (formB (nodB ds all x.ct)) l := Fg.low (B := w4.heap.size) ⟨ho5, by rw [hl5, HP.out], hn5, hr5, hx5, hra5, hpz5⟩ hbw4
        have hft5 := HFT.out.later b5 (by omega)
        have PUT := kide (hft5.put (by rw [HLK.out]; exact hlt) hfg (by omega))
        rw [HLK.out] at PUT
        have LE2 : Hid ((formB (nodB ds all x.ct)).length ≤ 2000) := by show _ ≤ _; rw [← hfg.ct, List.length_map]; exact hn5
        obtain ⟨cur5, hc5, hc6, -⟩ := hft5.row
        have z0 := hc5.froz k
        have hcell5 : ∃ u, w5.cell? ⟨b + 1, k, none⟩ = some u := by
          rw [hc5.cell k]
          exact ⟨_, Array.getElem?_eq_getElem (by rw [hc6]; exact hlt)⟩
        obtain ⟨u5', hu5'⟩ := hcell5
        generalize l.length = ln at *
        clear ho5 hr5 hx5 hra5 hpz5 hb5 b5 hfg hft5 hc5 hc6 hl5
        go_wp2_with fail
        go_roundw
        case rel =>
          refine ⟨k + 1, by omega, rfl, by rw [HNX.out]; exact PUT.out, fun y hy => ?_⟩
          rw [HNX.out] at hy
          rcases List.mem_append.1 hy with hy | hy
          · exact HLE.out y hy
          · rw [List.mem_singleton.1 hy]; exact LE2.out
        case measure => simp only [intOf]; omega
      · have B5 : Hid (Below w.heap.size w w5) := by
          show Below _ _ _
          rw [HB.out]
          exact HFT.out.bel.trans ((B4.out.trans (hb5.mono B4.out.size)).mono (by omega))
        have hbad : ∃ y ∈ bitsN ds [] (xs.map Tg.ct), 2000 < (formB y).length := by
          refine ⟨nodB ds all x.ct, ?_, by rw [HP.out] at h9; exact h9⟩
          have h8 := HNX.out
          have h7 : nodB ds all x.ct ∈ bitsN ds [] ((xs.map Tg.ct).take (k + 1)) := by rw [h8]; simp
          have h6 := bitsN_app ds ((xs.map Tg.ct).take (k + 1)) ((xs.map Tg.ct).drop (k + 1)) []
          rw [List.take_append_drop] at h6
          rw [h6]
          exact bitsN_mem ds _ _ _ h7
        have BAD := kide hbad
        clear hb5 h9 hbad
        go_wp2_with fail
        exact bodyPost_ret (v := .tuple #[.slice none 0 0, .bool false]) (by simp [results, Tryz.results30, go_sem]) rfl ⟨B5.out, .inr ⟨rfl, BAD.out⟩⟩
    · obtain rfl : k = n := by omega
      have htk : (xs.map Tg.ct).take k = xs.map Tg.ct := List.take_of_length_le (by rw [List.length_map, HN.out]; exact Nat.le_refl _)
      rw [htk] at HFT HLE
      obtain ⟨cur, k1, k2, k3, k4⟩ := HFT.out.row
      have hlb : (bitsN ds [] (xs.map Tg.ct)).length = k := by rw [bitsN_len, List.length_map, HN.out]; simp
      obtain ⟨v, l, hv, hfg⟩ := k4 (k - 1) (by omega)
      obtain ⟨va, vc, rfl⟩ := hfg.row.form
      have hcell : wr.cell? ⟨b + 1, k - 1, none⟩ = some (.slice va l.length vc) := by rw [k1.cell]; exact hv
      have q1 : IntKind.i64.wrap ((k : Int) - 1) = ((k - 1 : Nat) : Int) := by rw [IntKind.wrap_i64]; omega
      have q2 : ((k - 1 : Nat) : Int) < (k : Int) := by omega
      have FG := kide hfg
      have HLB2 := kide hlb
      have B9 : Hid (Below w.heap.size w wr) := by show Below _ _ _; rw [HB.out]; exact HFT.out.bel
      clear k1 k2 k3 k4 hv hfg hlb htk
      go_wp2_with fail
      refine bodyPost_ret (v := .tuple #[.slice va l.length vc, .bool true]) (by simp [results, Tryz.results30, go_sem]) rfl ⟨B9.out, .inl ⟨_, l, rfl, ?_, HLE.out⟩⟩
      rw [HLB2.out, HB.out]
      exact FG.out
end Go.Proofs.YtckidgpopbpagaaGreatDoor

/- Flat forms of terms, on the program's side. -/
namespace Go.Proofs.YtckidgpopbpagaaGreatDoor
set_option linter.unusedVariables false
set_option linter.unusedSimpArgs false
open Go.RowKit Go.Shelf

theorem OS5.lowB {w : World} {B B' : Nat} {v : Value} {l : List Sg} (h : OS5 w B v l) (hB : B' ≤ B) : OS5 w B' v l := by
  obtain ⟨h1, h2⟩ := h
  refine ⟨h1, ?_⟩
  rcases h2 with h2 | ⟨g, cap, cur, rfl, hg, hh, r⟩
  · exact .inl h2
  · exact .inr ⟨g, cap, cur, rfl, by omega, hh, r⟩

set_option maxHeartbeats 2000000 in
set_option maxRecDepth 100000 in
theorem implFlatten_any (da ta : Option Addr) (dc tc n : Nat) (ds : List Dc) (xs : List Tg) (w : World) (hd : RdD w da ds) (ht : RdT w ta xs) (hn : xs.length = n) (hG : GF w) (hno : ∀ x ∈ xs, x.wa = none → x.wc = 0) (hpw : ∀ x ∈ xs, ∀ q, x.wa = some q → q.block < w.heap.size) (hpk : ∀ x ∈ xs, ∀ q, x.ka = some q → q.block < w.heap.size) :
    Calls Tryz.prog 18 #[.slice da ds.length dc, .agg #[.slice ta n tc]] w (RetFd (fltR ds (xs.map Tg.ct)) w) := by
  have HRW := kide (fun u (hu : Below w.heap.size w u) => rightWidths_any da ta dc tc n ds xs u (hd.later hu) (ht.later hu) hn (hG.later hu))
  have HFT := kide (fun u (hu : Below w.heap.size w u) (hr : ¬ (widthsR ds (xs.map Tg.ct)).length = 0) => flatTerm_any da ta dc ds.length tc n ds xs u (hd.later hu) rfl (ht.later hu) hn hr hno (fun x hx q hq => Nat.lt_of_lt_of_le (hpw x hx q hq) hu.size) (fun x hx q hq => Nat.lt_of_lt_of_le (hpk x hx q hq) hu.size))
  have hbl := bitsN_len ds (xs.map Tg.ct) []
  rw [List.length_map, hn, List.length_nil, Nat.zero_add] at hbl
  obtain ⟨R, hR⟩ : ∃ R, fltR ds (xs.map Tg.ct) = R := ⟨_, rfl⟩
  rw [hR]
  unfold fltR at hR
  rw [List.length_map, hn] at hR
  have HR := kide hR
  obtain ⟨nd, hnd⟩ : ∃ n, ds.length = n := ⟨_, rfl⟩
  rw [hnd] at HRW HFT ⊢
  have HBL := kide hbl
  have NIL : Hid (∀ u, Below w.heap.size w u → RetFd ([], false) w (.returned (.tuple #[.slice none 0 0, .bool false])) u) := fun u hu => ⟨_, [], rfl, rfl, ⟨OS5.nil _ _, by simp⟩, Dj.nil, hu⟩
  have BA : Hid (Below w.heap.size w (w.alloc (Obj.cells #[Value.slice ta n tc] 33))) := (Below.refl _ _).alloc (Nat.le_refl _) _
  clear hd ht hn hG hno hpw hpk hR hbl
  go_enter Tryz.func18, Tryz.ntmps18
  go_wp2_with fail
  refine Calls.mono (HRW.out _ BA.out) ?_
  rintro e w2 ⟨a2, c3, rfl, hr2, hnl, hb2⟩
  have XT : Hid (Bz w2 w.heap.size #[Value.slice ta n tc] 33) := (Bz.new w _ _).later hb2
  have c0 := XT.out.cell 0
  simp at c0
  have B2 := kide (BA.out.trans (hb2.mono BA.out.size))
  clear hb2
  by_cases h0 : (widthsR ds (xs.map Tg.ct)).length = 0
  · have hnil : widthsR ds (xs.map Tg.ct) = [] := List.eq_nil_of_length_eq_zero h0
    have hRR := HR.out
    rw [if_pos h0] at hRR
    subst hRR
    have hn0 := hnl hnil
    subst hn0
    rw [h0]
    have heq : ∀ u, (binOp .eql 55 (.slice none 0 c3) (.slice none 0 0)).run Tryz.prog u = .ok (.bool true) u := fun u => by rw [Lib.run_eql_slice_nil u 55 2 none _ c3 0 0 Tryz.underlying55]; rfl
    clear hr2 hnl
    go_wp2_with fail
    exact bodyPost_ret (v := .tuple #[.slice none 0 0, .bool false]) (by simp [results, Tryz.results18, go_sem]) rfl (NIL.out _ B2.out)
  · obtain ⟨b2, o2, rfl⟩ : ∃ b2 o2, a2 = some ⟨b2, o2, none⟩ := by
      obtain ⟨-, -, h | ⟨b2, o2, h, -⟩⟩ := hr2
      · rw [h] at h0; simp at h0
      · exact ⟨b2, o2, h⟩
    have HF2 := kide (HFT.out w2 B2.out h0)
    have hRR := HR.out
    rw [if_neg h0] at hRR
    have HRR := kide hRR
    generalize (widthsR ds (xs.map Tg.ct)).length = rl at *
    have heq : ∀ u, (binOp .eql 55 (.slice (some ⟨b2, o2, none⟩) rl c3) (.slice none 0 0)).run Tryz.prog u = .ok (.bool false) u := fun u => by rw [Lib.run_eql_slice_nil u 55 2 (some ⟨b2, o2, none⟩) rl c3 0 0 Tryz.underlying55]; rfl
    clear hr2 hnl hRR HR HRW HFT
    go_wp2_with fail
    refine Calls.mono HF2.out ?_
    rintro e w3 ⟨hb3, (⟨v, l, rfl, hfg, hall⟩ | ⟨rfl, x, hx, hbad⟩)⟩
    · obtain ⟨va, vc, rfl⟩ := hfg.row.form
      have HFR := kide (fresh_any va l.length vc w2.heap.size true l w3 hfg.row rfl hfg.len hb3.size hfg.rd hfg.no hfg.ra)
      have B3 := kide (B2.out.trans (hb3.mono B2.out.size))
      have Z3 : Hid (w2.heap.size ≤ w3.heap.size) := hb3.size
      have hRR := HRR.out
      rw [if_pos (List.all_eq_true.2 fun y hy => decide_eq_true (hall y hy))] at hRR
      have FCT := kide hfg.ct
      clear hfg hall hb3
      go_wp2_with fail
      refine Calls.mono HFR.out ?_
      rintro e w6 ⟨rfl, m, hm⟩
      have hrow := hm.row
      rw [List.drop_of_length_le (Nat.le_refl _), List.append_nil] at hrow
      have b6 : Below w.heap.size w w6 := B3.out.trans ⟨hm.gr.os, hm.gr.tape, hm.gr.output, hm.gr.size, fun j hj => hm.gr.block j (Nat.lt_of_lt_of_le hj B3.out.size) (fun e => by
        have h8 := (hrow.lt e.symm).1
        have := B2.out.size
        omega)⟩
      have FIN : Hid (RetFd R w (.returned (.tuple #[.slice va l.length vc, .bool true])) w6) := by
        refine ⟨_, m, by rw [← hRR], ?_, ⟨hrow.lowB B2.out.size, fun x hx => (hm.nw x hx).mono (Nat.le_trans B2.out.size Z3.out)⟩, hm.dj, b6⟩
        rw [hm.ct, List.take_length, FCT.out, ← hRR, HBL.out]
      clear hm hrow b6
      go_wp2_with fail
      exact bodyPost_ret (v := .tuple #[.slice va l.length vc, .bool true]) (by simp [results, Tryz.results18, go_sem]) rfl FIN.out
    · have HFR := kide (fresh_any none 0 0 w3.heap.size false [] w3 (OS5.nil _ _) rfl (by omega) (Nat.le_refl _) (by simp) (by simp) (by simp))
      have B3 := kide (B2.out.trans (hb3.mono B2.out.size))
      have hRR := HRR.out
      rw [if_neg (fun h9 => by have := List.all_eq_true.1 h9 x hx; simp only [decide_eq_true_eq] at this; omega)] at hRR
      subst hRR
      clear hb3 hx hbad
      go_wp2_with fail
      refine Calls.mono HFR.out ?_
      rintro e w6 ⟨rfl, m, hm⟩
      have b6 : Below w.heap.size w w6 := B3.out.trans ⟨hm.gr.os, hm.gr.tape, hm.gr.output, hm.gr.size, fun j hj => hm.gr.block j (Nat.lt_of_lt_of_le hj B3.out.size) (fun e => by cases e)⟩
      have BF := kide b6
      clear hm b6
      go_wp2_with fail
      exact bodyPost_ret (v := .tuple #[.slice none 0 0, .bool false]) (by simp [results, Tryz.results18, go_sem]) rfl (NIL.out _ BF.out)
end Go.Proofs.YtckidgpopbpagaaGreatDoor

/- The bits of a node with kids, on the given side. -/
namespace Go.Proofs.YtckidgpopbpagaaGreatDoor
set_option linter.unusedVariables false
set_option linter.unusedSimpArgs false
open Go.RowKit

/-- 'append(list, more...)', whatever more is a part of. -/
theorem run_appL5r (w : World) (ty : TypeId) (B : Nat) (v : Value) (l m : List (Int × Int)) (hown : OL5 w B v l) (gx ox k c : Nat) (hk : m.length = k)
    (hm : RdP w (some ⟨gx, ox, none⟩) m) (hl : l.length + m.length ≤ 1073741824) (hB : B ≤ w.heap.size) :
    ∃ v' w', (Builtin.append_ #[63, 63] ty #[v, .slice (some ⟨gx, ox, none⟩) k c]).run Tryz.prog w = .ok v' w' ∧ OL5 w' B v' (l ++ m) ∧ w.grownBy w' v.ownBlock ∧ (v'.ownBlock = v.ownBlock ∨ v'.ownBlock = some w.heap.size) := by
  obtain ⟨i0, hi, hz0, hz1, hz2⟩ := info_parts Tryz.infoL5
  obtain ⟨v', w', h1, ho', hg, -, hat⟩ := run_append_own_at (P := Tryz.prog) w B 63 ty 78 i0 _ 2 16 Tryz.underlying63 hi hz0 hz1 hz2 rfl (by decide) v l.length (ibc l) hown ⟨gx, ox, none⟩ k c (ibc m) (by rw [ibc_len, hk]) (by
    intro j u hj
    rw [Addr.add_lit]
    rcases hm.2 with h0 | ⟨b, q, e, hc⟩
    · rw [h0] at hj; simp [ibc] at hj
    · cases e
      have hjl : j < m.length * 2 := by have := (List.getElem?_eq_some_iff.1 hj).1; rw [ibc_len] at this; exact this
      have hp : m[j / 2]? = some (m[j / 2]'(by omega)) := List.getElem?_eq_getElem _
      obtain ⟨e1, e2⟩ := ibc_get hp
      obtain ⟨f1, f2⟩ := hc _ _ hp
      by_cases he : j % 2 = 0
      · rw [show j = j / 2 * 2 by omega] at hj ⊢
        rw [e1] at hj
        cases hj
        exact f1
      · rw [show j = j / 2 * 2 + 1 by omega] at hj ⊢
        rw [e2] at hj
        cases hj
        rw [← Nat.add_assoc]
        exact f2) (by
    intro u hu
    obtain ⟨z, rfl⟩ := ibc_ints m u hu
    rfl) (by unfold maxLen; omega) (by omega) hB
  refine ⟨v', w', h1, ?_, hg, hat⟩
  unfold OL5
  rw [ibc_append, List.length_append, hk]
  exact ho'
/-- .. in a row of operations. -/
theorem wpList_appL5r {w : World} {ops : Array Oper} {rest : List Oper} {o : Oper} {a : Act} {Q : Exit → Act → World → Prop} (hgd : o.guard = none) (s x : Operand)
    (ho : o.op = .call { callee := .builtin .append, args := #[s, x], argTypes := #[63, 63] })
    (B : Nat) (v : Value) (l m : List (Int × Int)) (hs : a.eval s = v) (hown : OL5 w B v l) (gx ox k c : Nat) (hx : a.eval x = .slice (some ⟨gx, ox, none⟩) k c) (hk : m.length = k)
    (hm : RdP w (some ⟨gx, ox, none⟩) m) (hl : l.length + m.length ≤ 1073741824) (hB : B ≤ w.heap.size)
    (h : ∀ v' w', OL5 w' B v' (l ++ m) → w.grownBy w' v.ownBlock → wpList Tryz.prog ops Q rest (a.put o.dst v') w') : wpList Tryz.prog ops Q (o :: rest) a w := by
  refine wpList_plain hgd fun K hK => ?_
  obtain ⟨v', w', h1, h2, h3, -⟩ := run_appL5r w o.type B v l m hown gx ox k c hk hm hl hB
  unfold Oper.wp execOp
  simp only [ho, resolve, invoke, builtin, Sem.run_bind, Sem.run_pure, Result.andThen_ok, List.map_toArray, List.map_cons, List.map_nil, hs, hx, h1]
  exact hK _ _ (h v' w' h2 h3)
/-- .. and where it lies then. -/
theorem wpList_appL5t {w : World} {ops : Array Oper} {rest : List Oper} {o : Oper} {a : Act} {Q : Exit → Act → World → Prop} (hgd : o.guard = none) (s x : Operand)
    (ho : o.op = .call { callee := .builtin .append, args := #[s, x], argTypes := #[63, 63] })
    (B : Nat) (v : Value) (l m : List (Int × Int)) (hs : a.eval s = v) (hown : OL5 w B v l) (gx ox k c : Nat) (hx : a.eval x = .slice (some ⟨gx, ox, none⟩) k c) (hk : m.length = k)
    (hm : RdP w (some ⟨gx, ox, none⟩) m) (hl : l.length + m.length ≤ 1073741824) (hB : B ≤ w.heap.size)
    (h : ∀ v' w', OL5 w' B v' (l ++ m) → w.grownBy w' v.ownBlock → (v'.ownBlock = v.ownBlock ∨ v'.ownBlock = some w.heap.size) → wpList Tryz.prog ops Q rest (a.put o.dst v') w') : wpList Tryz.prog ops Q (o :: rest) a w := by
  refine wpList_plain hgd fun K hK => ?_
  obtain ⟨v', w', h1, h2, h3, h4⟩ := run_appL5r w o.type B v l m hown gx ox k c hk hm hl hB
  unfold Oper.wp execOp
  simp only [ho, resolve, invoke, builtin, Sem.run_bind, Sem.run_pure, Result.andThen_ok, List.map_toArray, List.map_cons, List.map_nil, hs, hx, h1]
  exact hK _ _ (h v' w' h2 h3 h4)
/-- .. at a step of a region that draws its order. -/
theorem step_appL5r (w : World) {ops : Array Oper} {o : Oper} {a : Act} {K : Act → World → Prop} {Q : Exit → Act → World → Prop} {E : Prop} (hgd : o.guard = none) (s x : Operand)
    (ho : o.op = .call { callee := .builtin .append, args := #[s, x], argTypes := #[63, 63] })
    (B : Nat) (v : Value) (l m : List (Int × Int)) (hs : a.eval s = v) (hown : OL5 w B v l) (gx ox k c : Nat) (hx : a.eval x = .slice (some ⟨gx, ox, none⟩) k c) (hk : m.length = k)
    (hm : RdP w (some ⟨gx, ox, none⟩) m) (hl : l.length + m.length ≤ 1073741824) (hB : B ≤ w.heap.size)
    (h : ∀ v' w', OL5 w' B v' (l ++ m) → w.grownBy w' v.ownBlock → K (a.put o.dst v') w') : if Region.wanted o (yielded ops a.tmps) = true then Oper.wp Tryz.prog o a w K Q else E := by
  have hwn : Region.wanted o (yielded ops a.tmps) = true := by simp [Region.wanted, hgd]
  rw [if_pos hwn]
  obtain ⟨v', w', h1, h2, h3, -⟩ := run_appL5r w o.type B v l m hown gx ox k c hk hm hl hB
  unfold Oper.wp execOp
  simp only [ho, resolve, invoke, builtin, Sem.run_bind, Sem.run_pure, Result.andThen_ok, List.map_toArray, List.map_cons, List.map_nil, hs, hx, h1]
  exact h v' w' h2 h3
/-- .. and where it lies then, at a step of a region that draws its order. -/
theorem step_appL5t (w : World) {ops : Array Oper} {o : Oper} {a : Act} {K : Act → World → Prop} {Q : Exit → Act → World → Prop} {E : Prop} (hgd : o.guard = none) (s x : Operand)
    (ho : o.op = .call { callee := .builtin .append, args := #[s, x], argTypes := #[63, 63] })
    (B : Nat) (v : Value) (l m : List (Int × Int)) (hs : a.eval s = v) (hown : OL5 w B v l) (gx ox k c : Nat) (hx : a.eval x = .slice (some ⟨gx, ox, none⟩) k c) (hk : m.length = k)
    (hm : RdP w (some ⟨gx, ox, none⟩) m) (hl : l.length + m.length ≤ 1073741824) (hB : B ≤ w.heap.size)
    (h : ∀ v' w', OL5 w' B v' (l ++ m) → w.grownBy w' v.ownBlock → (v'.ownBlock = v.ownBlock ∨ v'.ownBlock = some w.heap.size) → K (a.put o.dst v') w') : if Region.wanted o (yielded ops a.tmps) = true then Oper.wp Tryz.prog o a w K Q else E := by
  have hwn : Region.wanted o (yielded ops a.tmps) = true := by simp [Region.wanted, hgd]
  rw [if_pos hwn]
  obtain ⟨v', w', h1, h2, h3, h4⟩ := run_appL5r w o.type B v l m hown gx ox k c hk hm hl hB
  unfold Oper.wp execOp
  simp only [ho, resolve, invoke, builtin, Sem.run_bind, Sem.run_pure, Result.andThen_ok, List.map_toArray, List.map_cons, List.map_nil, hs, hx, h1]
  exact h v' w' h2 h3 h4
/-- Rows of bits of kids, at hand. -/
def Kb (w : World) (aa : Option Addr) (Ks : List (List Ib)) : Prop := ∃ ab ao, aa = some ⟨ab, ao, none⟩ ∧ ∀ i K, Ks[i]? = some K → ∃ g o c, w.cell? ⟨ab, ao + i, none⟩ = some (.slice (some ⟨g, o, none⟩) K.length c) ∧ K.length ≤ c ∧ RdP w (some ⟨g, o, none⟩) K
theorem Kb.later {w w' : World} {aa : Option Addr} {Ks : List (List Ib)} (h : Kb w aa Ks) (hb : Below w.heap.size w w') : Kb w' aa Ks := by
  obtain ⟨ab, ao, e, h⟩ := h
  refine ⟨ab, ao, e, fun i K hK => ?_⟩
  obtain ⟨g, o, c, h1, h2, h3⟩ := h i K hK
  exact ⟨g, o, c, (hb.cell (p := ⟨ab, ao + i, none⟩) (block_lt_of_cell h1)).trans h1, h2, h3.later hb⟩
theorem rdp_part {w : World} {g o lo n : Nat} {ps : List Ib} (h : RdP w (some ⟨g, o, none⟩) ps) (hn : lo + n ≤ ps.length) : RdP w (some ⟨g, o + lo * 2, none⟩) ((ps.drop lo).take n) := by
  obtain ⟨h1, h2⟩ := h
  refine ⟨by simp; omega, ?_⟩
  rcases h2 with h2 | ⟨b, q, e, hc⟩
  · left; rw [h2]; simp
  · cases e
    right
    refine ⟨g, o + lo * 2, rfl, fun i p hp => ?_⟩
    have hi : i < n := by
      have := (List.getElem?_eq_some_iff.1 hp).1
      simp at this
      omega
    rw [List.getElem?_take, if_pos hi, List.getElem?_drop] at hp
    have := hc (lo + i) p hp
    rw [show o + (lo + i) * 2 = o + lo * 2 + i * 2 by omega] at this
    exact this

theorem Nb.at0 {w Y : World} {cs : Array Value} {b0 : Nat} (h : Nb w cs (.slice (some ⟨w.heap.size + 1, 0, none⟩) 0 0) [] Y) (e : w.heap.size = b0) : Nb w cs (.slice (some ⟨b0 + 1, 0, none⟩) 0 0) [] Y := by rw [← e]; exact h
theorem Nb.c {w Y : World} {cs : Array Value} {v : Value} {l : List Ib} {b0 : Nat} (h : Nb w cs v l Y) (e : w.heap.size = b0) (i : Nat) : Y.cell? ⟨b0, i, none⟩ = cs[i]? := by rw [← e]; exact h.bx.cell i

set_option maxHeartbeats 2000000 in
set_option maxRecDepth 100000 in
theorem l5n4 {da wa ka aa : Option Addr} {dc nd nw wc nk kc na ac An A1 Bn : Nat} {ps : List Ib} {vr bw : Int} {w : World} (hk : Kb w aa [ps]) (hna : na = 1) (hl : ps.length ≤ 4096) (hA : An + 1 = A1) (h1 : Bn < A1) (h2 : A1 ≤ ps.length) :
    Calls Tryz.prog 24 #[.slice da nd dc, .agg #[.int .i64 4, .int .i64 vr, .int .i64 (An : Int), .int .i64 (Bn : Int), .int .i64 bw, .slice wa nw wc, .slice ka nk kc], .slice aa na ac] w (RetNb ((ps.drop Bn).take (A1 - Bn)) w) := by
  subst hna
  obtain ⟨ab, ao, rfl, hk⟩ := hk
  obtain ⟨g, o, c, k1, k2, k3⟩ := hk 0 ps rfl
  rw [Nat.add_zero] at k1
  have S0 := kide (Nb.start w #[Value.int .i64 4, Value.int .i64 vr, Value.int .i64 (An : Int), Value.int .i64 (Bn : Int), Value.int .i64 bw, Value.slice wa nw wc, Value.slice ka nk kc])
  have B0 : Hid (Below w.heap.size w ((w.alloc (Obj.cells #[Value.int .i64 4, Value.int .i64 vr, Value.int .i64 (An : Int), Value.int .i64 (Bn : Int), Value.int .i64 bw, Value.slice wa nw wc, Value.slice ka nk kc] 62)).alloc (Obj.cells #[] 78))) := S0.out.bel
  have RP := kide ((rdp_part (lo := Bn) (n := A1 - Bn) k3 (by omega)).later B0.out)
  obtain ⟨KL, hKL⟩ : ∃ n, ps.length = n := ⟨_, rfl⟩
  rw [hKL] at k1 k2 hl h2
  have q1 : IntKind.i64.wrap ((An : Int) + 1) = (A1 : Int) := by rw [IntKind.wrap_i64]; omega
  have hll : ([] : List Ib).length + ((ps.drop Bn).take (A1 - Bn)).length ≤ 1073741824 := by rw [List.length_take]; simp; omega
  have hsz : w.heap.size + 1 ≤ ((w.alloc (Obj.cells #[Value.int .i64 4, Value.int .i64 vr, Value.int .i64 (An : Int), Value.int .i64 (Bn : Int), Value.int .i64 bw, Value.slice wa nw wc, Value.slice ka nk kc] 62)).alloc (Obj.cells #[] 78)).heap.size := by simp
  have hmk : ((ps.drop Bn).take (A1 - Bn)).length = A1 - Bn := by rw [List.length_take, List.length_drop, hKL]; omega
  clear hk k3 hKL
  have lab := block_lt_of_cell k1
  have LAB := kide lab
  clear hA
  go_enter Tryz.func24, Tryz.ntmps24
  go_wp2_with fail
  generalize ((w.alloc (Obj.cells #[Value.int .i64 4, Value.int .i64 vr, Value.int .i64 (An : Int), Value.int .i64 (Bn : Int), Value.int .i64 bw, Value.slice wa nw wc, Value.slice ka nk kc] 62)).alloc (Obj.cells #[] 78)) = Y at *
  obtain ⟨b0, hb0⟩ : ∃ b0, w.heap.size = b0 := ⟨_, rfl⟩
  have HB0 := kide hb0
  have S1 := kide (S0.out.at0 hb0)
  have x2 := S0.out.c hb0 2
  have x3 := S0.out.c hb0 3
  have lx := S0.out.bx.lt
  simp at x2 x3
  rw [hb0] at lx
  simp only [hb0]
  have y1 := (B0.out.cell (p := ⟨ab, ao, none⟩) lab).trans k1
  have laY : ab < Y.heap.size := Nat.lt_of_lt_of_le lab B0.out.size
  have q2 : Bn ≤ A1 := by omega
  have q3 : A1 ≤ c := by omega
  have q4 : ¬c = Bn := by omega
  clear k1 hb0 S0
  refine wp_region_x (SA := fun _ => False) (SB := fun uu => uu.cell? ⟨ab, ao, none⟩ = some (Value.slice (some ⟨g, o, none⟩) KL c) ∧ uu.cell? ⟨b0, 3, none⟩ = some (Value.int .i64 (Bn : Int)) ∧ uu.cell? ⟨b0, 2, none⟩ = some (Value.int .i64 (An : Int))) (k := 999) (by kernel_rfl) ?_
  have hn0 : Hid (Below Y.heap.size Y Y.drew) := (Below.refl _ _).drew
  have c0_0 := (kcell hn0.out ab ao laY).trans y1
  have c1_0 := (kcell hn0.out b0 3 lx).trans x3
  have c2_0 := (kcell hn0.out b0 2 lx).trans x2
  generalize Y.drew = n0 at *
  have hs0 : Hid ((fun uu => uu.cell? ⟨ab, ao, none⟩ = some (Value.slice (some ⟨g, o, none⟩) KL c) ∧ uu.cell? ⟨b0, 3, none⟩ = some (Value.int .i64 (Bn : Int)) ∧ uu.cell? ⟨b0, 2, none⟩ = some (Value.int .i64 (An : Int))) n0) := ⟨c0_0, c1_0, c2_0⟩
  try go_simp
  refine wpAnyX_both (T := (fun _ => True)) (i := 0) (v := Value.slice (some ⟨b0 + 1, 0, none⟩) 0 0) rfl (by kernel_rfl) (by kernel_rfl) (by kernel_rfl) (fun _ _ _ h => by first | exact h | exact h.elim) (by decide) (fun _ _ => trivial) (fun _ _ => trivial) (Sx.behind (by kernel_rfl) hs0.out) (Or.inl ⟨by rfl, fun uu hu => by go_simp⟩) ?_
  try go_simp
  refine wpAnyX_both (T := (fun _ => True)) (i := 1) (v := Value.slice (some ⟨ab, ao, none⟩) 1 ac) rfl (by kernel_rfl) (by kernel_rfl) (by kernel_rfl) (fun _ _ _ h => by first | exact h | exact h.elim) (by decide) (fun _ _ => trivial) (fun _ _ => trivial) (Sx.behind (by kernel_rfl) hs0.out) (Or.inl ⟨by rfl, fun uu hu => by go_simp⟩) ?_
  try go_simp
  refine wpAnyX_both (T := (fun _ => True)) (i := 2) (v := Value.pointer (some ⟨ab, ao, none⟩)) rfl (by kernel_rfl) (by kernel_rfl) (by kernel_rfl) (fun _ _ _ h => by first | exact h | exact h.elim) (by decide) (fun _ _ => trivial) (fun _ _ => trivial) (Sx.behind (by kernel_rfl) hs0.out) (Or.inl ⟨by rfl, fun uu hu => by go_simp⟩) ?_
  try go_simp
  refine wpAnyX_both (T := (fun uu => uu.cell? ⟨ab, ao, none⟩ = some (Value.slice (some ⟨g, o, none⟩) KL c) ∧ uu.cell? ⟨b0, 3, none⟩ = some (Value.int .i64 (Bn : Int)) ∧ uu.cell? ⟨b0, 2, none⟩ = some (Value.int .i64 (An : Int)))) (i := 3) (v := Value.slice (some ⟨g, o, none⟩) KL c) rfl (by kernel_rfl) (by kernel_rfl) (by kernel_rfl) (fun _ _ _ h => by first | exact h | exact h.elim) (by decide) (fun _ h => h.elim) (fun _ h => h) (Sx.behind (by kernel_rfl) hs0.out) (Or.inl ⟨by rfl, fun uu hu => by obtain ⟨e0, e1, e2⟩ := hu; go_simp⟩) ?_
  try go_simp
  refine wpAnyX_both (T := (fun _ => True)) (i := 4) (v := Value.pointer (some ⟨b0, 3, none⟩)) rfl (by kernel_rfl) (by kernel_rfl) (by kernel_rfl) (fun _ _ _ h => by first | exact h | exact h.elim) (by decide) (fun _ _ => trivial) (fun _ _ => trivial) (Sx.behind (by kernel_rfl) hs0.out) (Or.inl ⟨by rfl, fun uu hu => by go_simp⟩) ?_
  try go_simp
  refine wpAnyX_both (T := (fun uu => uu.cell? ⟨ab, ao, none⟩ = some (Value.slice (some ⟨g, o, none⟩) KL c) ∧ uu.cell? ⟨b0, 3, none⟩ = some (Value.int .i64 (Bn : Int)) ∧ uu.cell? ⟨b0, 2, none⟩ = some (Value.int .i64 (An : Int)))) (i := 5) (v := Value.int .i64 (Bn : Int)) rfl (by kernel_rfl) (by kernel_rfl) (by kernel_rfl) (fun _ _ _ h => by first | exact h | exact h.elim) (by decide) (fun _ h => h.elim) (fun _ h => h) (Sx.behind (by kernel_rfl) hs0.out) (Or.inl ⟨by rfl, fun uu hu => by obtain ⟨e0, e1, e2⟩ := hu; go_simp⟩) ?_
  try go_simp
  refine wpAnyX_both (T := (fun _ => True)) (i := 6) (v := Value.pointer (some ⟨b0, 2, none⟩)) rfl (by kernel_rfl) (by kernel_rfl) (by kernel_rfl) (fun _ _ _ h => by first | exact h | exact h.elim) (by decide) (fun _ _ => trivial) (fun _ _ => trivial) (Sx.behind (by kernel_rfl) hs0.out) (Or.inl ⟨by rfl, fun uu hu => by go_simp⟩) ?_
  try go_simp
  refine wpAnyX_both (T := (fun uu => uu.cell? ⟨ab, ao, none⟩ = some (Value.slice (some ⟨g, o, none⟩) KL c) ∧ uu.cell? ⟨b0, 3, none⟩ = some (Value.int .i64 (Bn : Int)) ∧ uu.cell? ⟨b0, 2, none⟩ = some (Value.int .i64 (An : Int)))) (i := 7) (v := Value.int .i64 (An : Int)) rfl (by kernel_rfl) (by kernel_rfl) (by kernel_rfl) (fun _ _ _ h => by first | exact h | exact h.elim) (by decide) (fun _ h => h.elim) (fun _ h => h) (Sx.behind (by kernel_rfl) hs0.out) (Or.inl ⟨by rfl, fun uu hu => by obtain ⟨e0, e1, e2⟩ := hu; go_simp⟩) ?_
  try go_simp
  refine wpAnyX_both (T := (fun _ => True)) (i := 8) (v := Value.int .i64 (A1 : Int)) rfl (by kernel_rfl) (by kernel_rfl) (by kernel_rfl) (fun _ _ _ h => by first | exact h | exact h.elim) (by decide) (fun _ _ => trivial) (fun _ _ => trivial) (Sx.behind (by kernel_rfl) hs0.out) (Or.inl ⟨by rfl, fun uu hu => by go_simp; try exact q1⟩) ?_
  try go_simp
  refine wpAnyX_both (T := (fun _ => True)) (i := 9) (v := Value.slice (some ⟨g, o + Bn * 2, none⟩) (A1 - Bn) (c - Bn)) rfl (by kernel_rfl) (by kernel_rfl) (by kernel_rfl) (fun _ _ _ h => by first | exact h | exact h.elim) (by decide) (fun _ _ => trivial) (fun _ _ => trivial) (Sx.behind (by kernel_rfl) hs0.out) (Or.inl ⟨by rfl, fun uu hu => by go_simp⟩) ?_
  try go_simp
  refine wpAnyX_ready (rs := [10]) (by kernel_rfl) (by simp) (AllX.cons rfl (fun K hK => ?_) AllX.nil)
  have NY := kide (S1.out.later hn0.out)
  have RY := kide (RP.out.later hn0.out)
  have hszn : w.heap.size + 1 ≤ n0.heap.size := Nat.le_trans hsz hn0.out.size
  refine step_appL5r n0 rfl _ _ rfl (w.heap.size + 1) _ [] ((ps.drop Bn).take (A1 - Bn)) rfl NY.out.row g (o + Bn * 2) (A1 - Bn) _ rfl hmk RY.out hll hszn ?_
  intro v6 n1 ho6 hg6
  have N6 := kide (NY.out.app ho6 hg6)
  rw [List.nil_append] at N6
  have c0_1 : n1.cell? ⟨ab, ao, none⟩ = some (Value.slice (some ⟨g, o, none⟩) KL c) := (World.cell?_of_block (hg6.block ab (by have := hn0.out.size; omega) (fun e => by have := (NY.out.row.lt e.symm).1; have := LAB.out; omega))).trans c0_0
  have c1_1 : n1.cell? ⟨b0, 3, none⟩ = some (Value.int .i64 (Bn : Int)) := N6.out.c HB0.out 3
  have c2_1 : n1.cell? ⟨b0, 2, none⟩ = some (Value.int .i64 (An : Int)) := N6.out.c HB0.out 2
  clear ho6 hg6
  have hs1 : Hid ((fun uu => uu.cell? ⟨ab, ao, none⟩ = some (Value.slice (some ⟨g, o, none⟩) KL c) ∧ uu.cell? ⟨b0, 3, none⟩ = some (Value.int .i64 (Bn : Int)) ∧ uu.cell? ⟨b0, 2, none⟩ = some (Value.int .i64 (An : Int))) n1) := ⟨c0_1, c1_1, c2_1⟩
  refine hK _ _ (Sx.behind (by kernel_rfl) hs1.out) ?_
  clear hK K
  try go_simp
  refine wpAnyX_both (T := (fun _ => True)) (i := 11) (v := v6) rfl (by kernel_rfl) (by kernel_rfl) (by kernel_rfl) (fun _ _ _ h => by first | exact h | exact h.elim) (by decide) (fun _ _ => trivial) (fun _ _ => trivial) (Sx.behind (by kernel_rfl) hs1.out) (Or.inl ⟨by rfl, fun uu hu => by go_simp⟩) ?_
  try go_simp
  refine wpAnyX_done (by kernel_rfl) ?_ _
  have N6x := N6.out
  go_wp2_with fail
  exact bodyPost_ret (v := v6) (by simp [results, Tryz.results24, go_sem]) rfl ⟨v6, rfl, N6x.row.lowB (Nat.le_succ _), N6x.bel⟩
end Go.Proofs.YtckidgpopbpagaaGreatDoor

/- The bits of a node with more than one kid, on the given side. -/
namespace Go.Proofs.YtckidgpopbpagaaGreatDoor
set_option linter.unusedVariables false
set_option linter.unusedSimpArgs false
open Go.RowKit

theorem cat_step {Ks : List (List Ib)} {q : Nat} {K : List Ib} (h : Ks[q]? = some K) : (Ks.drop (q + 1)).reverse.flatten ++ K = (Ks.drop q).reverse.flatten := by
  obtain ⟨hq, rfl⟩ := List.getElem?_eq_some_iff.1 h
  rw [List.drop_eq_getElem_cons hq, List.reverse_cons, List.flatten_append]
  simp only [List.flatten_cons, List.flatten_nil, List.append_nil]
theorem cat_len (Ks : List (List Ib)) (q : Nat) : ((Ks.drop q).reverse.flatten).length ≤ (Ks.reverse.flatten).length := by
  conv => rhs; rw [← List.take_append_drop q Ks, List.reverse_append, List.flatten_append, List.length_append]
  omega

set_option maxHeartbeats 2000000 in
set_option maxRecDepth 100000 in
theorem l5n3 {da wa ka aa : Option Addr} {dc nd nw wc nk kc na ac : Nat} {Ks : List (List Ib)} {vr A Bb bw : Int} {w : World} (hk : Kb w aa Ks) (hna : Ks.length = na) (hna2 : na ≤ 4096) (hl : (Ks.reverse.flatten).length ≤ 4096) :
    Calls Tryz.prog 24 #[.slice da nd dc, .agg #[.int .i64 3, .int .i64 vr, .int .i64 A, .int .i64 Bb, .int .i64 bw, .slice wa nw wc, .slice ka nk kc], .slice aa na ac] w (RetNb (Ks.reverse.flatten) w) := by
  have S0 := kide (Nb.start w #[Value.int .i64 3, Value.int .i64 vr, Value.int .i64 A, Value.int .i64 Bb, Value.int .i64 bw, Value.slice wa nw wc, Value.slice ka nk kc])
  have HK := kide hk
  have HNA := kide hna
  have HL := kide hl
  have q0 : IntKind.i64.wrap ((na : Int) - 1) = (na : Int) - 1 := by rw [IntKind.wrap_i64]; omega
  clear hk hna hl
  go_enter Tryz.func24, Tryz.ntmps24
  go_wp2_with fail
  go_loopw [7, 10] (fun v i wr => ∃ r : Nat, r ≤ na ∧ i = .int .i64 ((r : Int) - 1) ∧ Nb w #[Value.int .i64 3, Value.int .i64 vr, Value.int .i64 A, Value.int .i64 Bb, Value.int .i64 bw, Value.slice wa nw wc, Value.slice ka nk kc] v ((Ks.drop r).reverse.flatten) wr) (fun _ i _ => (intOf i + 1).toNat)
  case atStart => exact ⟨na, Nat.le_refl _, rfl, by rw [← HNA.out, List.drop_length]; exact S0.out⟩
  case round =>
    obtain ⟨r, hr, rfl, hnb⟩ := hrel
    have HNB := kide hnb
    clear hnb
    rcases Nat.eq_zero_or_pos r with rfl | hp
    · go_wp2_with fail
      exact bodyPost_ret (v := u7) (by simp [results, Tryz.results24, go_sem]) rfl ⟨u7, rfl, HNB.out.row.lowB (Nat.le_succ _), HNB.out.bel⟩
    · obtain ⟨q, rfl⟩ : ∃ q, r = q + 1 := ⟨r - 1, by omega⟩
      rw [show (((q + 1 : Nat) : Int) - 1) = (q : Int) by omega]
      have q1 : (q : Int) < (na : Int) := by omega
      have q2 : IntKind.i64.wrap ((q : Int) - 1) = (q : Int) - 1 := by rw [IntKind.wrap_i64]; omega
      obtain ⟨K, hK9⟩ : ∃ K, Ks[q]? = some K := by
        have : q < Ks.length := by rw [HNA.out]; omega
        exact ⟨_, List.getElem?_eq_getElem this⟩
      obtain ⟨ab, ao, rfl, hk⟩ := HK.out
      obtain ⟨g, o, c, k1, k2, k3⟩ := hk q K hK9
      have lab := block_lt_of_cell k1
      have y1 := (HNB.out.bel.cell (p := ⟨ab, ao + q, none⟩) lab).trans k1
      have RP := kide (k3.later HNB.out.bel)
      have CS := kide (cat_step hK9)
      have CL := kide (cat_len Ks q)
      obtain ⟨KL, hKL⟩ : ∃ n, K.length = n := ⟨_, rfl⟩
      rw [hKL] at k2 y1
      have HKL := kide hKL
      have hll : ((Ks.drop (q + 1)).reverse.flatten).length + K.length ≤ 1073741824 := by have := CL.out; rw [← CS.out, List.length_append] at this; have := HL.out; omega
      have hsz : w.heap.size + 1 ≤ wr.heap.size := HNB.out.bx.lt
      clear hk k3 k1 hKL hK9
      go_wp2_with (refine wpList_appL5r rfl _ _ rfl (w.heap.size + 1) _ ((Ks.drop (q + 1)).reverse.flatten) K rfl HNB.out.row g o KL c rfl HKL.out RP.out hll hsz ?_)
      intro v6 w6 ho6 hg6
      have N6 := kide (HNB.out.app ho6 hg6)
      rw [CS.out] at N6
      clear ho6 hg6
      go_wp2_with fail
      go_roundw
      case rel => exact ⟨q, by omega, rfl, N6.out⟩
      case measure => simp only [intOf]; omega
theorem rep_step (K : List Ib) (k : Nat) : (List.replicate k K).flatten ++ K = (List.replicate (k + 1) K).flatten := by
  rw [List.replicate_succ', List.flatten_append]
  simp only [List.flatten_cons, List.flatten_nil, List.append_nil]
theorem rep_len (K : List Ib) {k n : Nat} (h : k ≤ n) : ((List.replicate k K).flatten).length ≤ ((List.replicate n K).flatten).length := by
  simp only [List.length_flatten, List.map_replicate, List.sum_replicate_nat]
  exact Nat.mul_le_mul_right _ h

set_option maxHeartbeats 2000000 in
set_option maxRecDepth 100000 in
theorem l5n9 {da wa ka aa : Option Addr} {dc nd nw wc nk kc na ac An : Nat} {K : List Ib} {vr Bb bw : Int} {w : World} (hk : Kb w aa [K]) (hna : na = 1) (hA : An ≤ 4096) (hl : ((List.replicate An K).flatten).length ≤ 4096) :
    Calls Tryz.prog 24 #[.slice da nd dc, .agg #[.int .i64 9, .int .i64 vr, .int .i64 (An : Int), .int .i64 Bb, .int .i64 bw, .slice wa nw wc, .slice ka nk kc], .slice aa na ac] w (RetNb ((List.replicate An K).flatten) w) := by
  subst hna
  have S0 := kide (Nb.start w #[Value.int .i64 9, Value.int .i64 vr, Value.int .i64 (An : Int), Value.int .i64 Bb, Value.int .i64 bw, Value.slice wa nw wc, Value.slice ka nk kc])
  obtain ⟨ab, ao, rfl, hk⟩ := hk
  obtain ⟨g, o, c, k1, k2, k3⟩ := hk 0 K rfl
  rw [Nat.add_zero] at k1
  have HL := kide hl
  have lab := block_lt_of_cell k1
  obtain ⟨KL, hKL⟩ : ∃ n, K.length = n := ⟨_, rfl⟩
  rw [hKL] at k2 k1
  have HKL := kide hKL
  have K3 := kide k3
  clear hk hl hKL k3
  go_enter Tryz.func24, Tryz.ntmps24
  go_wp2_with fail
  go_loopw [7, 15] (fun v i wr => ∃ k : Nat, k ≤ An ∧ i = .int .i64 (k : Int) ∧ Nb w #[Value.int .i64 9, Value.int .i64 vr, Value.int .i64 (An : Int), Value.int .i64 Bb, Value.int .i64 bw, Value.slice wa nw wc, Value.slice ka nk kc] v ((List.replicate k K).flatten) wr) (fun _ i _ => An - (intOf i).toNat)
  case atStart => exact ⟨0, Nat.zero_le _, rfl, S0.out⟩
  case round =>
    obtain ⟨k, hk, rfl, hnb⟩ := hrel
    have c2 := hnb.bx.cell 2
    simp at c2
    have HNB := kide hnb
    have lbx := hnb.bx.lt
    clear hnb
    by_cases hlt : k < An
    · have q1 : (k : Int) < (An : Int) := by omega
      have q2 : IntKind.i64.wrap ((k : Int) + 1) = (k : Int) + 1 := by rw [IntKind.wrap_i64]; omega
      have y1 := (HNB.out.bel.cell (p := ⟨ab, ao, none⟩) lab).trans k1
      have RP := kide (K3.out.later HNB.out.bel)
      have CS := kide (rep_step K k)
      have hll : ((List.replicate k K).flatten).length + K.length ≤ 1073741824 := by have := rep_len K (k := k + 1) (n := An) hlt; rw [← CS.out, List.length_append] at this; have := HL.out; omega
      have hsz : w.heap.size + 1 ≤ wr.heap.size := HNB.out.bx.lt
      go_wp2_with (refine wpList_appL5r rfl _ _ rfl (w.heap.size + 1) _ ((List.replicate k K).flatten) K rfl HNB.out.row g o KL c rfl HKL.out RP.out hll hsz ?_)
      intro v6 w6 ho6 hg6
      have N6 := kide (HNB.out.app ho6 hg6)
      rw [CS.out] at N6
      clear ho6 hg6
      go_wp2_with fail
      go_roundw
      case rel => exact ⟨k + 1, by omega, rfl, N6.out⟩
      case measure => simp only [intOf]; omega
    · obtain rfl : k = An := by omega
      go_wp2_with fail
      exact bodyPost_ret (v := u7) (by simp [results, Tryz.results24, go_sem]) rfl ⟨u7, rfl, HNB.out.row.lowB (Nat.le_succ _), HNB.out.bel⟩
end Go.Proofs.YtckidgpopbpagaaGreatDoor

/- The bits of a node that turns, on the given side. -/
namespace Go.Proofs.YtckidgpopbpagaaGreatDoor
set_option linter.unusedVariables false
set_option linter.unusedSimpArgs false
open Go.RowKit

theorem rdp_nil (w : World) (g o : Nat) (l : List Ib) (h : l.length = 0) : RdP w (some ⟨g, o, none⟩) l := ⟨by omega, .inl (List.length_eq_zero_iff.1 h)⟩
theorem rdp_take {w : World} {g o : Nat} {ps : List Ib} (h : RdP w (some ⟨g, o, none⟩) ps) (n : Nat) : RdP w (some ⟨g, o, none⟩) (ps.take n) := by
  refine ⟨Nat.le_trans (by simp; omega) h.1, ?_⟩
  rcases h.2 with h2 | ⟨b, q, e, hc⟩
  · left; rw [h2]; simp
  · exact .inr ⟨b, q, e, fun i p hp => hc i p (by
      rw [List.getElem?_take] at hp
      split at hp
      · exact hp
      · cases hp)⟩
theorem rdp_drop {w : World} {g o : Nat} {ps : List Ib} (h : RdP w (some ⟨g, o, none⟩) ps) (n : Nat) : RdP w (some ⟨g, o + n * 2, none⟩) (ps.drop n) := by
  refine ⟨Nat.le_trans (by simp) h.1, ?_⟩
  rcases h.2 with h2 | ⟨b, q, e, hc⟩
  · left; rw [h2]; simp
  · cases e
    refine .inr ⟨g, o + n * 2, rfl, fun i p hp => ?_⟩
    rw [List.getElem?_drop] at hp
    have := hc (n + i) p hp
    rw [show o + (n + i) * 2 = o + n * 2 + i * 2 by omega] at this
    exact this

theorem ws_sub {a b c : Nat} (h : b < a) (ha : a ≤ 4096) (hc : c = a - b) : wrap64 ((a : Int) - (b : Int)) = (c : Int) := by unfold wrap64; omega
theorem ws_id {a : Nat} (ha : a ≤ 4096) : wrap64 (a : Int) = (a : Int) := by unfold wrap64; omega

set_option maxHeartbeats 2000000 in
set_option maxRecDepth 100000 in
theorem l5n7 {da wa ka aa : Option Addr} {dc nd nw wc nk kc na ac An KL Yb Z : Nat} {ps : List Ib} {vr Bb bw : Int} {w : World} (hk : Kb w aa [ps]) (hna : na = 1) (hA : An ≤ 4096) (hl : ps.length ≤ 4096) (hKL : ps.length = KL) (hp : 0 < KL) (hY : An % KL = Yb) (hZ : Z = KL - Yb) :
    Calls Tryz.prog 24 #[.slice da nd dc, .agg #[.int .i64 7, .int .i64 vr, .int .i64 (An : Int), .int .i64 Bb, .int .i64 bw, .slice wa nw wc, .slice ka nk kc], .slice aa na ac] w (RetNb (ps.drop Z ++ ps.take Z) w) := by
  subst hna
  have S0 := kide (Nb.start w #[Value.int .i64 7, Value.int .i64 vr, Value.int .i64 (An : Int), Value.int .i64 Bb, Value.int .i64 bw, Value.slice wa nw wc, Value.slice ka nk kc])
  obtain ⟨ab, ao, rfl, hk⟩ := hk
  obtain ⟨g, o, c, k1, k2, k3⟩ := hk 0 ps rfl
  rw [Nat.add_zero] at k1
  have HL := kide hl
  have lab := block_lt_of_cell k1
  rw [hKL] at k2 k1 hl
  have HKL := kide hKL
  have y1 := (S0.out.bel.cell (p := ⟨ab, ao, none⟩) lab).trans k1
  have K3 := kide k3
  have hYl : Yb < KL := by rw [← hY]; exact Nat.mod_lt _ hp
  have q0 : ¬(KL : Int) = 0 := by omega
  have q1 : (An : Int) % (KL : Int) = (Yb : Int) := by rw [← hY]; exact (Int.natCast_emod An KL).symm
  have q2 : wrap64 ((KL : Int) - (Yb : Int)) = (Z : Int) := ws_sub hYl hl hZ
  have q3 : Z ≤ KL := by rw [hZ]; exact Nat.sub_le _ _
  have q4 : Z ≤ c := Nat.le_trans q3 k2
  have hd1 : (ps.drop Z).length = KL - Z := by rw [List.length_drop, hKL]
  have ht1 : (ps.take Z).length = Z := by rw [List.length_take, hKL]; exact Nat.min_eq_left q3
  have hll : ([] : List Ib).length + (ps.drop Z).length ≤ 1073741824 := by rw [hd1, List.length_nil, Nat.zero_add]; exact Nat.le_trans (Nat.sub_le _ _) (Nat.le_trans hl (by decide))
  have hl2 : (ps.drop Z).length + (ps.take Z).length ≤ 1073741824 := by rw [hd1, ht1, Nat.sub_add_cancel q3]; exact Nat.le_trans hl (by decide)
  have hsz : w.heap.size + 1 ≤ ((w.alloc (Obj.cells #[Value.int .i64 7, Value.int .i64 vr, Value.int .i64 (An : Int), Value.int .i64 Bb, Value.int .i64 bw, Value.slice wa nw wc, Value.slice ka nk kc] 62)).alloc (Obj.cells #[] 78)).heap.size := by simp
  have HD1 := kide hd1
  have HT1 := kide ht1
  clear hk hKL k3 hY hZ hd1 ht1 hp hYl hl hA
  go_enter Tryz.func24, Tryz.ntmps24
  by_cases hcz : c = Z
  · have RD := kide ((rdp_nil w g o (ps.drop Z) (by rw [HD1.out]; exact Nat.sub_eq_zero_of_le (hcz ▸ k2))).later S0.out.bel)
    go_wp2_with (refine wpList_appL5r rfl _ _ rfl (w.heap.size + 1) _ [] (ps.drop Z) rfl S0.out.row g o (KL - Z) _ rfl HD1.out RD.out hll hsz ?_)
    intro v6 w6 ho6 hg6
    have N6 := kide (S0.out.app ho6 hg6)
    rw [List.nil_append] at N6
    clear ho6 hg6
    have RT := kide ((rdp_take K3.out Z).later N6.out.bel)
    have y2 := (N6.out.bel.cell (p := ⟨ab, ao, none⟩) lab).trans k1
    go_wp2_with (refine wpList_appL5r rfl _ _ rfl (w.heap.size + 1) _ (ps.drop Z) (ps.take Z) rfl N6.out.row g o Z _ rfl HT1.out RT.out hl2 N6.out.bx.lt ?_)
    intro v7 w7 ho7 hg7
    have N7 := kide (N6.out.app ho7 hg7)
    clear ho7 hg7
    go_wp2_with fail
    exact bodyPost_ret (v := v7) (by simp [results, Tryz.results24, go_sem]) rfl ⟨v7, rfl, N7.out.row.lowB (Nat.le_succ _), N7.out.bel⟩
  · have RD := kide ((rdp_drop K3.out Z).later S0.out.bel)
    go_wp2_with (refine wpList_appL5r rfl _ _ rfl (w.heap.size + 1) _ [] (ps.drop Z) rfl S0.out.row g (o + Z * 2) (KL - Z) _ rfl HD1.out RD.out hll hsz ?_)
    intro v6 w6 ho6 hg6
    have N6 := kide (S0.out.app ho6 hg6)
    rw [List.nil_append] at N6
    clear ho6 hg6
    have RT := kide ((rdp_take K3.out Z).later N6.out.bel)
    have y2 := (N6.out.bel.cell (p := ⟨ab, ao, none⟩) lab).trans k1
    go_wp2_with (refine wpList_appL5r rfl _ _ rfl (w.heap.size + 1) _ (ps.drop Z) (ps.take Z) rfl N6.out.row g o Z _ rfl HT1.out RT.out hl2 N6.out.bx.lt ?_)
    intro v7 w7 ho7 hg7
    have N7 := kide (N6.out.app ho7 hg7)
    clear ho7 hg7
    go_wp2_with fail
    exact bodyPost_ret (v := v7) (by simp [results, Tryz.results24, go_sem]) rfl ⟨v7, rfl, N7.out.row.lowB (Nat.le_succ _), N7.out.bel⟩

set_option maxHeartbeats 2000000 in
set_option maxRecDepth 100000 in
theorem l5n8 {da wa ka aa : Option Addr} {dc nd nw wc nk kc na ac An KL Yb Y2 Z : Nat} {ps : List Ib} {vr Bb bw : Int} {w : World} (hk : Kb w aa [ps]) (hna : na = 1) (hA : An ≤ 4096) (hl : ps.length ≤ 4096) (hKL : ps.length = KL) (hp : 0 < KL) (hY : An % KL = Yb) (hY2 : (KL - Yb) % KL = Y2) (hZ : Z = KL - Y2) :
    Calls Tryz.prog 24 #[.slice da nd dc, .agg #[.int .i64 8, .int .i64 vr, .int .i64 (An : Int), .int .i64 Bb, .int .i64 bw, .slice wa nw wc, .slice ka nk kc], .slice aa na ac] w (RetNb (ps.drop Z ++ ps.take Z) w) := by
  subst hna
  have S0 := kide (Nb.start w #[Value.int .i64 8, Value.int .i64 vr, Value.int .i64 (An : Int), Value.int .i64 Bb, Value.int .i64 bw, Value.slice wa nw wc, Value.slice ka nk kc])
  obtain ⟨ab, ao, rfl, hk⟩ := hk
  obtain ⟨g, o, c, k1, k2, k3⟩ := hk 0 ps rfl
  rw [Nat.add_zero] at k1
  have HL := kide hl
  have lab := block_lt_of_cell k1
  rw [hKL] at k2 k1 hl
  have HKL := kide hKL
  have y1 := (S0.out.bel.cell (p := ⟨ab, ao, none⟩) lab).trans k1
  have K3 := kide k3
  have hYl : Yb < KL := by rw [← hY]; exact Nat.mod_lt _ hp
  have q0 : ¬(KL : Int) = 0 := by omega
  have q1 : (An : Int) % (KL : Int) = (Yb : Int) := by rw [← hY]; exact (Int.natCast_emod An KL).symm
  have hY2l : Y2 < KL := by rw [← hY2]; exact Nat.mod_lt _ hp
  obtain ⟨D, hD⟩ : ∃ D, D = KL - Yb := ⟨_, rfl⟩
  rw [← hD] at hY2
  have q5 : wrap64 ((KL : Int) - (Yb : Int)) = (D : Int) := ws_sub hYl hl hD
  have q6 : (D : Int) % (KL : Int) = (Y2 : Int) := by rw [← hY2]; exact (Int.natCast_emod D KL).symm
  clear hY hY2 hD
  have q7 : wrap64 (Y2 : Int) = (Y2 : Int) := ws_id (Nat.le_trans (Nat.le_of_lt hY2l) hl)
  have q2 : wrap64 ((KL : Int) - (Y2 : Int)) = (Z : Int) := ws_sub hY2l hl hZ
  have q3 : Z ≤ KL := by rw [hZ]; exact Nat.sub_le _ _
  have q4 : Z ≤ c := Nat.le_trans q3 k2
  have hd1 : (ps.drop Z).length = KL - Z := by rw [List.length_drop, hKL]
  have ht1 : (ps.take Z).length = Z := by rw [List.length_take, hKL]; exact Nat.min_eq_left q3
  have hll : ([] : List Ib).length + (ps.drop Z).length ≤ 1073741824 := by rw [hd1, List.length_nil, Nat.zero_add]; exact Nat.le_trans (Nat.sub_le _ _) (Nat.le_trans hl (by decide))
  have hl2 : (ps.drop Z).length + (ps.take Z).length ≤ 1073741824 := by rw [hd1, ht1, Nat.sub_add_cancel q3]; exact Nat.le_trans hl (by decide)
  have hsz : w.heap.size + 1 ≤ ((w.alloc (Obj.cells #[Value.int .i64 8, Value.int .i64 vr, Value.int .i64 (An : Int), Value.int .i64 Bb, Value.int .i64 bw, Value.slice wa nw wc, Value.slice ka nk kc] 62)).alloc (Obj.cells #[] 78)).heap.size := by simp
  have HD1 := kide hd1
  have HT1 := kide ht1
  clear hY2l
  clear hk hKL k3 hZ hd1 ht1 hp hYl hl hA
  go_enter Tryz.func24, Tryz.ntmps24
  by_cases hcz : c = Z
  · have RD := kide ((rdp_nil w g o (ps.drop Z) (by rw [HD1.out]; exact Nat.sub_eq_zero_of_le (hcz ▸ k2))).later S0.out.bel)
    go_wp2_with (refine wpList_appL5r rfl _ _ rfl (w.heap.size + 1) _ [] (ps.drop Z) rfl S0.out.row g o (KL - Z) _ rfl HD1.out RD.out hll hsz ?_)
    intro v6 w6 ho6 hg6
    have N6 := kide (S0.out.app ho6 hg6)
    rw [List.nil_append] at N6
    clear ho6 hg6
    have RT := kide ((rdp_take K3.out Z).later N6.out.bel)
    have y2 := (N6.out.bel.cell (p := ⟨ab, ao, none⟩) lab).trans k1
    go_wp2_with (refine wpList_appL5r rfl _ _ rfl (w.heap.size + 1) _ (ps.drop Z) (ps.take Z) rfl N6.out.row g o Z _ rfl HT1.out RT.out hl2 N6.out.bx.lt ?_)
    intro v7 w7 ho7 hg7
    have N7 := kide (N6.out.app ho7 hg7)
    clear ho7 hg7
    go_wp2_with fail
    exact bodyPost_ret (v := v7) (by simp [results, Tryz.results24, go_sem]) rfl ⟨v7, rfl, N7.out.row.lowB (Nat.le_succ _), N7.out.bel⟩
  · have RD := kide ((rdp_drop K3.out Z).later S0.out.bel)
    go_wp2_with (refine wpList_appL5r rfl _ _ rfl (w.heap.size + 1) _ [] (ps.drop Z) rfl S0.out.row g (o + Z * 2) (KL - Z) _ rfl HD1.out RD.out hll hsz ?_)
    intro v6 w6 ho6 hg6
    have N6 := kide (S0.out.app ho6 hg6)
    rw [List.nil_append] at N6
    clear ho6 hg6
    have RT := kide ((rdp_take K3.out Z).later N6.out.bel)
    have y2 := (N6.out.bel.cell (p := ⟨ab, ao, none⟩) lab).trans k1
    go_wp2_with (refine wpList_appL5r rfl _ _ rfl (w.heap.size + 1) _ (ps.drop Z) (ps.take Z) rfl N6.out.row g o Z _ rfl HT1.out RT.out hl2 N6.out.bx.lt ?_)
    intro v7 w7 ho7 hg7
    have N7 := kide (N6.out.app ho7 hg7)
    clear ho7 hg7
    go_wp2_with fail
    exact bodyPost_ret (v := v7) (by simp [results, Tryz.results24, go_sem]) rfl ⟨v7, rfl, N7.out.row.lowB (Nat.le_succ _), N7.out.bel⟩
end Go.Proofs.YtckidgpopbpagaaGreatDoor
