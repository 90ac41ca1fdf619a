/- Several texts in one. -/
import Derived.Test.YtckidgpopbpagaaGreatDoorZGAJ
import Derived.Test.YtckidgpopbpagaaGreatDoorZGAJ
import Derived.Handy
import Derived.Test.YtckidgpopbpagaaGreatDoorZGAI

/- The bits between two places of a form, told one segment after another. -/
namespace Go.Proofs.YtckidgpopbpagaaGreatDoor
set_option linter.unusedVariables false
set_option linter.unusedSimpArgs false
open Go.RowKit Go.Shelf
attribute [local go_sem] Oper.semAt_some

/-- A segment that is at hand: its words can be read, and lie ahead of B. -/
structure AtS (B : Nat) (w : World) (x : Sg) : Prop where
  ok : okS x.ct
  lo : 0 ≤ x.ct.lo ∧ x.ct.lo + x.ct.wd ≤ 4096
  rd : Rd w x.a x.ct.ws
  no : x.a = none → x.c = 0
  pl : ∀ q, x.a = some q → q.block < B

theorem rd_low {w w' : World} {B : Nat} {a : Option Addr} {xs : List Nat} (h : Rd w a xs) (hb : Below B w w') (hp : ∀ q, a = some q → q.block < B) : Rd w' a xs := by
  obtain ⟨h1, h2, h3⟩ := h
  refine ⟨h1, h2, ?_⟩
  rcases h3 with h3 | ⟨b, o, rfl, hc⟩
  · exact .inl h3
  · exact .inr ⟨b, o, rfl, fun i hi => (hb.cell (p := ⟨b, o + i, none⟩) (hp ⟨b, o, none⟩ rfl)).trans (hc i hi)⟩

set_option maxHeartbeats 2000000 in
set_option maxRecDepth 100000 in
theorem between_seq (n : Nat) (lo en B : Nat) (bf bl be fb fo fc N : Nat) (xs : List Sg) (w : World) (hB : B ≤ w.heap.size) (hN : xs.length = N) (hN2 : N ≤ 2000) (hxs : ∀ x ∈ xs, AtS B w x) (hsum : sumS (xs.map Sg.ct) ≤ 4096) (hlo : lo ≤ 4096) (hen : en ≤ 4096)
    (h1 : Bz w bf #[.slice (some ⟨fb, fo, none⟩) N fc] 42) (h2 : Bz w bl #[.int .i64 (lo : Int)] 2) (h3 : Bz w be #[.int .i64 (en : Int)] 2) (l1 : bf < B) (l2 : bl < B) (l3 : be < B) (l4 : fb < B)
    (hc : ∀ i x, xs[i]? = some x → ShAt w fb (fo + i * 5) x.hd) :
    SeqS n 89 #[.pointer (some ⟨bf, 0, none⟩), .pointer (some ⟨bl, 0, none⟩), .pointer (some ⟨be, 0, none⟩)] (betS lo en 0 (xs.map Sg.ct)) B w := by
  intro l J Jx O0 W hbW hJ hJx hlt hOw h0
  refine callsIn_of_wp Tryz.func89 rfl trivial ?_ rfl
  simp only [Tryz.ntmps89, List.size_toArray, List.length_cons, List.length_nil, Nat.reduceAdd, Nat.reduceSub, Array.replicate_succ, Array.replicate_zero, List.push_toArray, List.append_toArray, List.nil_append, List.cons_append]
  have c1 := (hbW.cell (p := ⟨bf, 0, none⟩) l1).trans (h1.cell 0)
  simp at c1
  have hct : ∀ k : Nat, (formP ((xs.map Sg.ct).take k)).length ≤ 4096 := fun k => by
    have h9 := formP_len ((xs.map Sg.ct).take k) (fun s hs => by
      obtain ⟨x, hx, rfl⟩ := List.mem_map.1 (List.mem_of_mem_take hs)
      have := (hxs x hx).ok.1
      omega)
    have h8 := take_sum (fs := xs.map Sg.ct) (fun s hs => by
      obtain ⟨x, hx, rfl⟩ := List.mem_map.1 hs
      exact (hxs x hx).ok.1) k
    omega
  have HCT := kide hct
  have HX := kide hxs
  have HC := kide hc
  have H1 := kide h1
  have H2 := kide h2
  have H3 := kide h3
  have HN := kide hN
  have HJ := kide hJ
  have HOW := kide hOw
  have HBW := kide hbW
  have hmx : Tryz.prog.follows .mixedOrders = true := by kernel_rfl
  have HLT := kide hlt
  clear hct hxs hc h1 h2 h3 hN hJ hOw hbW hsum hJx hlt
  gi_wp2
  gi_loopw [5, 12] (fun f i wr => ∃ (k : Nat) (pre : List Sg) (O : Nat → Prop), k ≤ N ∧ i = .int .i64 (k : Int) ∧ f = .int .i64 ((formP ((xs.map Sg.ct).take k)).length : Int) ∧ pre.map Sg.ct = betS lo en 0 ((xs.map Sg.ct).take k) ∧ J (pre, O) wr ∧ Below B W wr) (fun _ i _ => N - (intOf i).toNat)
  case atStart => exact ⟨0, [], O0, Nat.zero_le _, rfl, by simp [formP], by simp [betS], h0, Below.refl _ _⟩
  case round =>
    obtain ⟨k, pre, O, hk, rfl, rfl, hpre, hJp, hBr⟩ := hrel
    have hF := HCT.out k
    obtain ⟨F0, hF0⟩ : ∃ F0, (formP ((xs.map Sg.ct).take k)).length = F0 := ⟨_, rfl⟩
    rw [hF0] at hF ⊢
    have HPR := kide hpre
    have HJP := kide hJp
    have HBR := kide hBr
    have HF0 := kide hF0
    clear hpre hJp hBr hF0
    by_cases hlt : k < N
    · obtain ⟨x, hx⟩ : ∃ x, xs[k]? = some x := ⟨xs[k]'(by rw [HN.out]; exact hlt), List.getElem?_eq_getElem _⟩
      have HXA := kide (HX.out x (List.mem_of_getElem? hx))
      obtain ⟨p0, p1, p2, p3, p4⟩ := HC.out k x hx
      simp only [Sg.hd] at p0 p1 p2 p3 p4
      have hB9 := HBW.out.trans HBR.out
      replace p0 := (hB9.cell (p := ⟨fb, fo + k * 5, none⟩) l4).trans p0
      replace p1 := (hB9.cell (p := ⟨fb, fo + k * 5 + 1, none⟩) l4).trans p1
      replace p2 := (hB9.cell (p := ⟨fb, fo + k * 5 + 2, none⟩) l4).trans p2
      replace p3 := (hB9.cell (p := ⟨fb, fo + k * 5 + 3, none⟩) l4).trans p3
      replace p4 := (hB9.cell (p := ⟨fb, fo + k * 5 + 4, none⟩) l4).trans p4
      have g2 := (hB9.cell (p := ⟨bl, 0, none⟩) l2).trans (H2.out.cell 0)
      have g3 := (hB9.cell (p := ⟨be, 0, none⟩) l3).trans (H3.out.cell 0)
      simp at g2 g3
      have HXK := kide hx
      have hkN : (k : Int) < (N : Int) := by omega
      have hk0 : (k : Int) ≥ 0 := by omega
      have q2 : bl < wr.heap.size := by have := hB9.size; omega
      have q3 : be < wr.heap.size := by have := hB9.size; omega
      obtain ⟨D, hD⟩ : ∃ D : Nat, x.ct.wd = (D : Int) := ⟨x.ct.wd.toNat, by have := HXA.out.ok.1; omega⟩
      have hD2 : D ≤ 4096 := by have := HXA.out.ok.2.1; omega
      have HD := kide hD
      rw [hD] at p2
      have hFw : IntKind.i64.wrap ((F0 : Int) + (D : Int)) = (F0 : Int) + (D : Int) := by rw [IntKind.wrap_i64]; omega
      obtain ⟨fr, hfr⟩ : ∃ fr, max F0 lo = fr := ⟨_, rfl⟩
      obtain ⟨to, hto⟩ : ∃ to, min (F0 + D) en = to := ⟨_, rfl⟩
      have hfri : max (F0 : Int) (lo : Int) = (fr : Int) := by omega
      have htoi : min ((F0 : Int) + (D : Int)) (en : Int) = (to : Int) := by omega
      have hbs := betS_snoc lo en (xs.map Sg.ct) (k := k) (s := x.ct) (by rw [List.getElem?_map, hx]; rfl)
      rw [HF0.out, show x.ct.wd.toNat = D by rw [hD]; rfl, hfr, hto] at hbs
      have HBS := kide hbs
      have HNX : Hid ((formP ((xs.map Sg.ct).take (k + 1))).length = F0 + D) := by
        show _ = _
        rw [formP_snoc (xs.map Sg.ct) (k := k) (s := x.ct) (by rw [List.getElem?_map, hx]; rfl), List.length_append, HF0.out, segPs_len, show x.ct.wd.toNat = D by rw [hD]; rfl]
      have hkw : IntKind.i64.wrap ((k : Int) + 1) = (k : Int) + 1 := by rw [IntKind.wrap_i64]; omega
      have BV : Hid (Below wr.heap.size wr (wr.alloc (Obj.cells #[Value.int .i64 x.ct.v, Value.int .i64 x.ct.lo, Value.int .i64 (D : Int), Value.int .i64 x.ct.bw, Value.slice x.a x.ct.ws.length x.c] 67)).drew) := ((Below.refl _ _).alloc (Nat.le_refl _) _).drew
      have XV : Hid (Bz (wr.alloc (Obj.cells #[Value.int .i64 x.ct.v, Value.int .i64 x.ct.lo, Value.int .i64 (D : Int), Value.int .i64 x.ct.bw, Value.slice x.a x.ct.ws.length x.c] 67)).drew wr.heap.size #[Value.int .i64 x.ct.v, Value.int .i64 x.ct.lo, Value.int .i64 (D : Int), Value.int .i64 x.ct.bw, Value.slice x.a x.ct.ws.length x.c] 67) := Bz.new wr _ _
      have hBz := hB9.size
      clear hx hB9 hD hbs
      gi_wp2
      gi_region
      generalize (wr.alloc (Obj.cells #[Value.int .i64 x.ct.v, Value.int .i64 x.ct.lo, Value.int .i64 (D : Int), Value.int .i64 x.ct.bw, Value.slice x.a x.ct.ws.length x.c] 67)).drew = V at *
      have v0 := XV.out.cell 0
      have v1 := XV.out.cell 1
      have v2 := XV.out.cell 2
      have v3 := XV.out.cell 3
      have v4 := XV.out.cell 4
      simp at v0 v1 v2 v3 v4
      by_cases hft : fr < to
      · rw [if_pos hft] at HBS
        have hd1 : (fr : Int) < (to : Int) := by omega
        have hs1 : IntKind.i64.wrap ((fr : Int) - (F0 : Int)) = ((fr - F0 : Nat) : Int) := by rw [IntKind.wrap_i64]; omega
        have hs2 : IntKind.i64.wrap ((to : Int) - (fr : Int)) = ((to - fr : Nat) : Int) := by rw [IntKind.wrap_i64]; omega
        have hnn : ¬ (fr < F0) := by omega
        have HSP := kide (fun u (hu : Below wr.heap.size wr u) => segPart_any x (fr - F0) (to - fr) u HXA.out.ok HXA.out.lo (by omega) (by rw [HD.out]; omega) ((rd_low HXA.out.rd (HBW.out.trans HBR.out) HXA.out.pl).later hu) HXA.out.no (fun q hq => by have h9 := HXA.out.pl q hq; have := hu.size; omega))
        rw [HD.out] at HSP
        clear hfri htoi hfr hto
        gi_wp2
        refine ⟨trivial, (fun h => by cases h), callsIn_wide.2 (Calls.mono (HSP.out V BV.out) ?_)⟩
        rintro e V2 ⟨a2, c2, rfl, hr2, hn2, hq2, hb2⟩
        obtain ⟨Y, hYc, hYa, hYd⟩ : ∃ Y : Sg, Y.ct = cutS x.ct (fr - F0) (to - fr) ∧ Y.a = a2 ∧ Y.c = c2 := ⟨⟨_, a2, c2⟩, rfl, rfl, rfl⟩
        subst hYa hYd
        have eY : sgV ⟨cutS x.ct (fr - F0) (to - fr), Y.a, Y.c⟩ = sgV Y := by rw [← hYc]
        rw [← hYc] at hr2 HBS
        have hb3 := BV.out.trans (hb2.mono BV.out.size)
        have J2 := HJ.out _ _ V2 none HJP.out ⟨hb3.os, hb3.tape, hb3.output, hb3.size, fun j hj _ => hb3.block j hj⟩ (fun r e => by cases e)
        have hRdy : RdyS B (betS lo en 0 (xs.map Sg.ct)) wr.heap.size pre Y V2 := by
          refine ⟨?_, hr2, hn2, fun q hq => ⟨?_, (hq2 q hq).2⟩⟩
          · rw [List.map_append, HPR.out, show [Y].map Sg.ct = [Y.ct] from rfl, ← HBS.out]
            exact betS_pre lo en _ _
          · rcases (hq2 q hq).1 with h9 | h9
            · exact .inl (HXA.out.pl q h9)
            · exact .inr (Nat.le_trans BV.out.size h9)
        obtain ⟨fn, tmps, assign, body, hy, hR⟩ := HOW.out pre O Y wr V2 HJP.out (Cz.below hb3) J2 hRdy
        have v2 := (hb2.cell (p := ⟨wr.heap.size, 2, none⟩) XV.out.lt).trans v2
        have XV2 := kide (XV.out.later hb2)
        have HB3 := kide hb3
        have HYC := kide hYc
        have HNO : Hid (¬ O wr.heap.size) := fun h9 => by have := HLT.out _ _ HJP.out _ h9; omega
        clear hr2 hn2 hq2 hb2 hb3 J2 hRdy hYc
        rw [eY]
        clear eY
        unfold sgV at hy ⊢
        gi_wp2
        refine ⟨(fun h => by cases h), hR.mono ?_⟩
        rintro e W3 (⟨rfl, hK3, hO3, -, O', hJ3, hI3⟩ | ⟨rfl, -, hJx3⟩)
        · have v3 := (show Bz W3 wr.heap.size _ _ from hO3.2 _ _ XV2.out rfl HNO.out).cell 2
          simp at v3
          gi_wp2
          go_roundw
          case rel => exact ⟨k + 1, pre ++ [Y], O', by omega, rfl, by rw [HNX.out]; rfl, by rw [HBS.out, List.map_append, HPR.out]; rfl, hJ3, (HBR.out.trans (HB3.out.mono (by have := HBR.out.size; have := HBW.out.size; omega))).trans hK3⟩
          case measure => simp only [intOf]; omega
        · gi_wp2
          refine bodyPost_ret (results_none rfl _ _ _) rfl ?_
          refine ⟨⟨_, rfl⟩, .inr ⟨_, ?_, hJx3⟩⟩
          rw [List.map_append, HPR.out, show [Y].map Sg.ct = [Y.ct] from rfl, ← HBS.out]
          exact betS_pre lo en _ _
      · rw [if_neg hft, List.append_nil] at HBS
        have hd1 : ¬ (fr : Int) < (to : Int) := by omega
        clear hfri htoi hfr hto
        gi_wp2
        refine ⟨trivial, ?_⟩
        gi_wp2
        refine ⟨(fun _ h => by cases h), ?_⟩
        gi_wp2
        go_roundw
        case rel => exact ⟨k + 1, pre, O, by omega, rfl, by rw [HNX.out]; rfl, by rw [HBS.out]; exact HPR.out, HJ.out _ _ _ none HJP.out ⟨BV.out.os, BV.out.tape, BV.out.output, BV.out.size, fun j hj _ => BV.out.block j hj⟩ (fun r e => by cases e), HBR.out.trans (BV.out.mono (by have := HBR.out.size; have := HBW.out.size; omega))⟩
        case measure => simp only [intOf]; omega
    · obtain rfl : k = N := by omega
      gi_wp2
      go_end0
      refine ⟨⟨_, rfl⟩, .inl ⟨pre, O, ?_, HJP.out⟩⟩
      rw [HPR.out, List.take_of_length_le (by simp [HN.out])]
end Go.Proofs.YtckidgpopbpagaaGreatDoor

/- Segments of a row, told one after another. -/
namespace Go.Proofs.YtckidgpopbpagaaGreatDoor
set_option linter.unusedVariables false
set_option linter.unusedSimpArgs false
open Go.RowKit Go.Shelf
attribute [local go_sem] Oper.semAt_some

set_option maxHeartbeats 400000 in
theorem values_any (va : Option Addr) (N vc : Nat) (w : World) :
    Calls Tryz.prog 71 #[.slice va N vc] w fun e w' => e = .returned (.func (.func 92) #[] #[.pointer (some ⟨w.heap.size, 0, none⟩)]) ∧ w' = w.alloc (Obj.cells #[.slice va N vc] 42) := by
  go_enter Tryz.func71, Tryz.ntmps71
  go_wp2_with fail
  go_ret
  exact ⟨rfl, rfl⟩

set_option maxHeartbeats 2000000 in
set_option maxRecDepth 100000 in
theorem values_seq (n : Nat) (B : Nat) (bf fb fo fc N : Nat) (xs : List Sg) (w : World) (hB : B ≤ w.heap.size) (hN : xs.length = N) (hN2 : N ≤ 2000) (hxs : ∀ x ∈ xs, AtS B w x)
    (h1 : Bz w bf #[.slice (some ⟨fb, fo, none⟩) N fc] 42) (l1 : bf < B) (l4 : fb < B)
    (hc : ∀ i x, xs[i]? = some x → ShAt w fb (fo + i * 5) x.hd) :
    SeqS n 92 #[.pointer (some ⟨bf, 0, none⟩)] (xs.map Sg.ct) B w := by
  intro l J Jx O0 W hbW hJ hJx hlt hOw h0
  refine callsIn_of_wp Tryz.func92 rfl trivial ?_ rfl
  simp only [Tryz.ntmps92, List.size_toArray, List.length_cons, List.length_nil, Nat.reduceAdd, Nat.reduceSub, Array.replicate_succ, Array.replicate_zero, List.push_toArray, List.append_toArray, List.nil_append, List.cons_append]
  have c1 := (hbW.cell (p := ⟨bf, 0, none⟩) l1).trans (h1.cell 0)
  simp at c1
  have HX := kide hxs
  have HC := kide hc
  have HN := kide hN
  have HJ := kide hJ
  have HOW := kide hOw
  have HBW := kide hbW
  clear hxs hc h1 hN hJ hOw hbW hJx hlt
  gi_wp2
  gi_loopw [7] (fun i wr => ∃ (k : Nat) (pre : List Sg) (O : Nat → Prop), k ≤ N ∧ i = .int .i64 (k : Int) ∧ pre.map Sg.ct = (xs.take k).map Sg.ct ∧ J (pre, O) wr ∧ Below B W wr) (fun i _ => N - (intOf i).toNat)
  case atStart => exact ⟨0, [], O0, Nat.zero_le _, rfl, by simp, h0, Below.refl _ _⟩
  case round =>
    obtain ⟨k, pre, O, hk, rfl, hpre, hJp, hBr⟩ := hrel
    have HPR := kide hpre
    have HJP := kide hJp
    have HBR := kide hBr
    clear hpre hJp hBr
    by_cases hlt : k < N
    · obtain ⟨x, hx⟩ : ∃ x, xs[k]? = some x := ⟨xs[k]'(by rw [HN.out]; exact hlt), List.getElem?_eq_getElem _⟩
      have HXA := kide (HX.out x (List.mem_of_getElem? hx))
      obtain ⟨p0, p1, p2, p3, p4⟩ := HC.out k x hx
      simp only [Sg.hd] at p0 p1 p2 p3 p4
      have hB9 := HBW.out.trans HBR.out
      replace p0 := (hB9.cell (p := ⟨fb, fo + k * 5, none⟩) l4).trans p0
      replace p1 := (hB9.cell (p := ⟨fb, fo + k * 5 + 1, none⟩) l4).trans p1
      replace p2 := (hB9.cell (p := ⟨fb, fo + k * 5 + 2, none⟩) l4).trans p2
      replace p3 := (hB9.cell (p := ⟨fb, fo + k * 5 + 3, none⟩) l4).trans p3
      replace p4 := (hB9.cell (p := ⟨fb, fo + k * 5 + 4, none⟩) l4).trans p4
      have hkN : (k : Int) < (N : Int) := by omega
      have hk0 : (k : Int) ≥ 0 := by omega
      have hkw : IntKind.i64.wrap ((k : Int) + 1) = (k : Int) + 1 := by rw [IntKind.wrap_i64]; omega
      have hbV : Below wr.heap.size wr (wr.alloc (Obj.cells #[Value.int .i64 x.ct.v, Value.int .i64 x.ct.lo, Value.int .i64 x.ct.wd, Value.int .i64 x.ct.bw, Value.slice x.a x.ct.ws.length x.c] 67)) := (Below.refl _ _).alloc (Nat.le_refl _) _
      have HTK : Hid ((xs.take (k + 1)).map Sg.ct = (xs.take k).map Sg.ct ++ [x.ct]) := by
        show _ = _
        rw [List.take_add_one, hx, Option.toList_some, List.map_append]
        rfl
      have hPP : (pre ++ [x]).map Sg.ct <+: xs.map Sg.ct := by
        rw [List.map_append, HPR.out, show [x].map Sg.ct = [x.ct] from rfl, ← HTK.out, List.map_take]
        exact List.take_prefix _ _
      have J2 := HJ.out _ _ (wr.alloc (Obj.cells #[Value.int .i64 x.ct.v, Value.int .i64 x.ct.lo, Value.int .i64 x.ct.wd, Value.int .i64 x.ct.bw, Value.slice x.a x.ct.ws.length x.c] 67)) none HJP.out ⟨hbV.os, hbV.tape, hbV.output, hbV.size, fun j hj _ => hbV.block j hj⟩ (fun r e => by cases e)
      obtain ⟨fn, tmps, assign, body, hy, hR⟩ := HOW.out pre O x wr _ HJP.out (Cz.below hbV) J2 ⟨hPP, (rd_low HXA.out.rd hB9 HXA.out.pl).later hbV, HXA.out.no, fun q hq => ⟨.inl (HXA.out.pl q hq), by have h9 := HXA.out.pl q hq; have := hbV.size; have := hB9.size; omega⟩⟩
      have HPP := kide hPP
      have BV := kide hbV
      have hBz := hB9.size
      clear hx hB9 J2 hPP hbV
      unfold sgV at hy
      gi_wp2
      refine ⟨(fun h => by cases h), hR.mono ?_⟩
      rintro e W3 (⟨rfl, hK3, -, -, O', hJ3, -⟩ | ⟨rfl, -, hJx3⟩)
      · gi_wp2
        go_roundw
        case rel => exact ⟨k + 1, pre ++ [x], O', by omega, rfl, by rw [HTK.out, List.map_append, HPR.out]; rfl, hJ3, (HBR.out.trans (BV.out.mono (by have := HBR.out.size; have := HBW.out.size; omega))).trans hK3⟩
        case measure => simp only [intOf]; omega
      · gi_wp2
        refine bodyPost_ret (results_none rfl _ _ _) rfl ?_
        exact ⟨⟨_, rfl⟩, .inr ⟨_, HPP.out, hJx3⟩⟩
    · obtain rfl : k = N := by omega
      gi_wp2
      go_end0
      refine ⟨⟨_, rfl⟩, .inl ⟨pre, O, ?_, HJP.out⟩⟩
      rw [HPR.out, List.take_of_length_le (by simp [HN.out])]
set_option maxHeartbeats 1000000 in
theorem between_any (va : Option Addr) (N vc : Nat) (lo en : Int) (w : World) :
    Calls Tryz.prog 69 #[.slice va N vc, .int .i64 lo, .int .i64 en] w fun e w' => e = .returned (.func (.func 89) #[] #[.pointer (some ⟨w.heap.size, 0, none⟩), .pointer (some ⟨w.heap.size + 1, 0, none⟩), .pointer (some ⟨w.heap.size + 1 + 1, 0, none⟩)]) ∧
      w' = (((w.alloc (Obj.cells #[.slice va N vc] 42)).alloc (Obj.cells #[.int .i64 lo] 2)).alloc (Obj.cells #[.int .i64 en] 2)) := by
  go_enter Tryz.func69, Tryz.ntmps69
  go_wp2_with fail
  go_ret
  exact ⟨rfl, rfl⟩

end Go.Proofs.YtckidgpopbpagaaGreatDoor

/- Several iterators, one after another. -/
namespace Go.Proofs.YtckidgpopbpagaaGreatDoor
set_option linter.unusedVariables false
set_option linter.unusedSimpArgs false
open Go.RowKit Go.Shelf
attribute [local go_sem] Oper.semAt_some

/-- A round of an outer loop, asked from a round of an inner one. -/
theorem round_deep {m m' l l' : Nat} {P : Program} {f : FuncId} {tmps : Array Value} {assign body : Code} {w : World} {R : Ending → World → Prop} (h : RoundIn Fence.wide m P l f tmps assign body w R) : RoundIn (Fence.wide.inRound l') m' P l f tmps assign body w R :=
  ⟨trivial, fun c cs _ => h.2 c cs (fun d hd => by cases hd)⟩
/-- Deferred calls that loops have left behind, none in any: they are taken, and nothing is called. -/
def marks (Ds : List Nat) : List Deferred := Ds.map fun D => { target := .collected D, args := #[] }
theorem leaves_all {F : Fence} {n : Nat} {P : Program} {fn : Func} {tmps : Array Value} {R : Ending → World → Prop} (Q : World → Prop) (B : Nat) (hQ : ∀ w D, B ≤ D → w.heap[D]? = some (.deferred (some [])) → Q w → Q (w.putObj D (.deferred none)))
    (hfin : ∀ w, Q w → LeavesIn F n P fn tmps R [] .returning w) : ∀ (Ds : List Nat) (w : World), Ds.Nodup → (∀ D ∈ Ds, B ≤ D ∧ w.heap[D]? = some (.deferred (some []))) → Q w → LeavesInM F n P fn tmps R (marks Ds) .returning w
  | [], w, _, _, hq => hfin w hq
  | D :: Ds, w, hn, hd, hq => by
    obtain ⟨h1, h2⟩ := hd D (by simp)
    refine ⟨by simp, .inl ⟨D, _, rfl, run_takeDeferred h2, leaves_all Q B hQ hfin Ds _ (List.nodup_cons.1 hn).2 (fun E hE => ?_) (hQ w D h1 h2 hq)⟩⟩
    obtain ⟨h3, h4⟩ := hd E (by simp [hE])
    exact ⟨h3, by rw [World.putObj_heap_other (fun e => (List.nodup_cons.1 hn).1 (by rw [← e]; exact hE))]; exact h4⟩

/-- One of them: its function, what it has caught, what it tells. -/
structure Pt where
  g : Nat
  lb : Array Value
  L : List Sc

set_option maxHeartbeats 400000 in
theorem inTurn_any (va : Option Addr) (N vc : Nat) (w : World) :
    Calls Tryz.prog 70 #[.slice va N vc] w fun e w' => e = .returned (.func (.func 91) #[] #[.pointer (some ⟨w.heap.size, 0, none⟩)]) ∧ w' = w.alloc (Obj.cells #[.slice va N vc] 121) := by
  go_enter Tryz.func70, Tryz.ntmps70
  go_wp2_with fail
  go_ret
  exact ⟨rfl, rfl⟩

theorem pt_pre {ps : List Pt} {k : Nat} {p : Pt} {A : List Sc} (hp : ps[k]? = some p) (hA : A <+: p.L) : (ps.take k).flatMap Pt.L ++ A <+: ps.flatMap Pt.L := by
  obtain ⟨r, hr⟩ := hA
  have h9 := List.getElem?_eq_some_iff.1 hp
  have e : ps = ps.take k ++ p :: ps.drop (k + 1) := by rw [← h9.2, ← List.drop_eq_getElem_cons h9.1, List.take_append_drop]
  refine ⟨r ++ (ps.drop (k + 1)).flatMap Pt.L, ?_⟩
  conv => rhs; rw [e, List.flatMap_append, List.flatMap_cons, ← hr]
  simp only [List.append_assoc]
theorem pt_next {ps : List Pt} {k : Nat} {p : Pt} (hp : ps[k]? = some p) : (ps.take (k + 1)).flatMap Pt.L = (ps.take k).flatMap Pt.L ++ p.L := by
  rw [List.take_add_one, hp, Option.toList_some, List.flatMap_append]
  simp

/-- What holds between two of them. -/
structure Tn (l : Nat) (J : List Sg × (Nat → Prop) → World → Prop) (B : Nat) (W : World) (Ls : List Sc) (pre : List Sg) (O : Nat → Prop) (Ds : List Nat) (wr : World) : Prop where
  j : J (pre, O) wr
  ct : pre.map Sg.ct = Ls
  bel : Below B W wr
  y : Bz wr W.heap.size #[.func (.yield l) #[] #[]] 135
  no : ¬ O W.heap.size
  nd : Ds.Nodup
  ds : ∀ D ∈ Ds, W.heap.size ≤ D ∧ wr.heap[D]? = some (.deferred (some []))

set_option maxHeartbeats 4000000 in
set_option maxRecDepth 100000 in
theorem inTurn_seq (n : Nat) (B : Nat) (bf fb fo fc N : Nat) (ps : List Pt) (w : World) (hB : B ≤ w.heap.size) (hN : ps.length = N) (hN2 : N ≤ 1048576)
    (hps : ∀ p ∈ ps, (∀ (args : Array Value) (w : World), (callFunc p.g args).run Tryz.prog w = .ok (.enter p.g args) w) ∧ ∀ n, SeqS n p.g p.lb p.L B w)
    (h1 : Bz w bf #[.slice (some ⟨fb, fo, none⟩) N fc] 121) (l1 : bf < B) (l4 : fb < B)
    (hc : ∀ i p, ps[i]? = some p → w.cell? ⟨fb, fo + i, none⟩ = some (.func (.func p.g) #[] p.lb)) :
    SeqS n 91 #[.pointer (some ⟨bf, 0, none⟩)] (ps.flatMap Pt.L) B w := by
  intro l J Jx O0 W hbW hJ hJx hlt hOw h0
  refine callsIn_of_wp_marks Tryz.func91 rfl trivial ?_ rfl
  simp only [Tryz.ntmps91, List.size_toArray, List.length_cons, List.length_nil, Nat.reduceAdd, Nat.reduceSub, Array.replicate_succ, Array.replicate_zero, List.push_toArray, List.append_toArray, List.nil_append, List.cons_append]
  have c1 := (hbW.cell (p := ⟨bf, 0, none⟩) l1).trans (h1.cell 0)
  simp at c1
  have l2 : bf < W.heap.size := by have := hbW.size; omega
  have T0 : Hid (Tn l J B W [] [] O0 [] (W.alloc (Obj.cells #[.func (.yield l) #[] #[]] 135))) := by
    refine ⟨hJ.alloc _ h0, rfl, (Below.refl _ _).alloc (by have := hbW.size; omega) _, Bz.new W _ _, fun h9 => ?_, List.nodup_nil, fun D hD => by cases hD⟩
    have := hlt _ _ h0 _ h9
    omega
  have HPS := kide hps
  have HC := kide hc
  have HN := kide hN
  have HJ := kide hJ
  have HJX := kide hJx
  have HLT := kide hlt
  have HOW := kide hOw
  have HBW := kide hbW
  have hBW : B ≤ W.heap.size := by have := hbW.size; omega
  clear hps hc h1 hN hJ hJx hlt hOw hbW
  gi_wp2
  refine wpIn_loop (fun a wr => ∃ (k : Nat) (Ds : List Nat) (pre : List Sg) (O : Nat → Prop) (u3 u4 u5 u9 u10 u11 u12 u13 u14 u15 u16 u17 u18 : Value), k ≤ N ∧ a = { tmps := #[Value.func (Fn.yield l) #[] #[], Value.pointer (some ⟨bf, 0, none⟩), Value.pointer (some ⟨W.heap.size, 0, none⟩), u3, u4, u5, Value.slice (some ⟨fb, fo, none⟩) N fc, Value.int .i64 (N : Int), Value.int .i64 (k : Int), u9, u10, u11, u12, u13, u14, u15, u16, u17, u18], defers := marks Ds } ∧ Tn l J B W ((ps.take k).flatMap Pt.L) pre O Ds wr)
    (fun a _ => N - (intOf (a.tmps.getD 8 undef)).toNat) ⟨0, [], [], O0, _, _, _, _, _, _, _, _, _, _, _, _, _, Nat.zero_le _, rfl, T0.out⟩ ?_
  rintro a wr ⟨k, Ds, pre, O, u3, u4, u5, u9, u10, u11, u12, u13, u14, u15, u16, u17, u18, hk, rfl, hT⟩
  by_cases hkN : k < N
  · obtain ⟨p, hp⟩ : ∃ p, ps[k]? = some p := ⟨ps[k]'(by rw [HN.out]; exact hkN), List.getElem?_eq_getElem _⟩
    obtain ⟨hen, hsq⟩ := HPS.out p (List.mem_of_getElem? hp)
    have hB9 := HBW.out.trans hT.bel
    have p0 := (hB9.cell (p := ⟨fb, fo + k, none⟩) l4).trans (HC.out k p hp)
    have hk1 : (k : Int) < (N : Int) := by omega
    have hk0 : (k : Int) ≥ 0 := by omega
    have hkw : IntKind.i64.wrap ((k : Int) + 1) = (k : Int) + 1 := by rw [IntKind.wrap_i64]; omega
    have HT := kide hT
    have HEN := kide hen
    have HSQ := kide hsq
    have HB9 := kide hB9
    have HPK := kide hp
    clear hT hen hsq hB9 hp
    have hWr : W.heap.size ≤ wr.heap.size := HT.out.bel.size
    gi_wp2
    refine wpIn_rangeW (F := Fence.wide) rfl (fun h => by cases h) (gf := p.g) (lb := p.lb) rfl trivial HEN.out (HSQ.out (n - 1)) ?kr (fun h k => h.trans k) ?kb ?rp HB9.out (fun _ => rfl)
      (fun s u => J (pre ++ s.1, s.2) u ∧ Below B W u ∧ Bz u W.heap.size #[.func (.yield l) #[] #[]] 135 ∧ ¬ s.2 W.heap.size ∧ ∀ D ∈ Ds, u.heap[D]? = some (.deferred (some [])))
      (fun q u => Jx (pre ++ q) u ∧ ∀ D ∈ Ds, u.heap[D]? = some (.deferred (some []))) O ?hi ?hix ?ho ⟨by simpa using HT.out.j, HT.out.bel, HT.out.y, HT.out.no, fun D hD => (HT.out.ds D hD).2⟩
      (fun T x a' u => ∃ Bx, Bz u Bx #[Value.int .i64 x.ct.v, Value.int .i64 x.ct.lo, Value.int .i64 x.ct.wd, Value.int .i64 x.ct.bw, Value.slice x.a x.ct.ws.length x.c] 67 ∧ a' = { tmps := #[Value.func (Fn.yield l) #[] #[], Value.pointer (some ⟨bf, 0, none⟩), Value.pointer (some ⟨W.heap.size, 0, none⟩), u3, Value.func (Fn.func p.g) #[] p.lb, Value.pointer (some ⟨Bx, 0, none⟩), Value.slice (some ⟨fb, fo, none⟩) N fc, Value.int .i64 (N : Int), Value.int .i64 (k : Int), Value.bool true, Value.pointer (some ⟨fb, fo + k, none⟩), Value.func (Fn.func p.g) #[] p.lb, Value.func (Fn.func p.g) #[] p.lb, sgV x, u14, u15, u16, u17, u18], defers := [] }) ?hax ?assign ?body ?done ?stop
    case kr =>
      intro o o'
      exact ((Below.refl B wr).alloc (by omega) _).alloc (by simp; omega) _
    case kb =>
      intro u lq o o' hl _ _
      exact ⟨rfl, rfl, rfl, by simp, fun k hk => World.putObj_heap_other (fun e => by omega)⟩
    case rp =>
      rintro T q x u lq o o' hl hc ⟨h1, h2, h3, h4⟩
      exact ⟨h1, cz_rd h2 (Cz.put o' hl hc), h3, fun p hp => ⟨(h4 p hp).1, by have := (h4 p hp).2; simpa using this⟩⟩
    case hi =>
      rintro s A A' row ⟨q1, q2, q3, q4, q5⟩ hg hr
      refine ⟨HJ.out _ A A' row q1 hg (fun r e => ⟨Nat.le_trans hWr (hr r e).1, (hr r e).2⟩), q2.trans ⟨hg.os, hg.tape, hg.output, hg.size, fun j hj => hg.block j ?_ ?_⟩, cz_bz q3 (cz_grown hg (fun r e => (hr r e).2)), q4, fun D hD => ?_⟩
      · have := q2.size; omega
      · intro e; have := (hr j e.symm).1; omega
      · rw [hg.block D (lt_of_block (q5 D hD)) (fun e => by have h9 := (hr D e.symm).1; have h8 := lt_of_block (HT.out.ds D hD).2; omega)]
        exact q5 D hD
    case hix =>
      rintro s A A' row ⟨q1, q5⟩ hg hr
      refine ⟨HJX.out _ A A' row q1 hg (fun r e => ⟨Nat.le_trans hWr (hr r e).1, (hr r e).2⟩), fun D hD => ?_⟩
      rw [hg.block D (lt_of_block (q5 D hD)) (fun e => by have h9 := (hr D e.symm).1; have h8 := lt_of_block (HT.out.ds D hD).2; omega)]
      exact q5 D hD
    case ho =>
      rintro s u ⟨q1, -⟩ j hj
      exact HLT.out _ _ q1 j hj
    case hax =>
      rintro T x a' _ A A' row ⟨Bx, h2, h3⟩ hg hr
      exact ⟨Bx, cz_bz h2 (cz_grown hg (fun r e => (hr r e).2)), h3⟩
    case assign =>
      rintro lq T q O1 x u K hTW hi9 ⟨r1, r2, r3, r4⟩ hK
      have hba : Below u.heap.size u (u.alloc (Obj.cells #[Value.int .i64 x.ct.v, Value.int .i64 x.ct.lo, Value.int .i64 x.ct.wd, Value.int .i64 x.ct.bw, Value.slice x.a x.ct.ws.length x.c] 67)) := (Below.refl _ _).alloc (Nat.le_refl _) _
      have hub : W.heap.size ≤ u.heap.size := hi9.2.1.size
      have hi8 : J (pre ++ q, O1) (u.alloc (Obj.cells #[Value.int .i64 x.ct.v, Value.int .i64 x.ct.lo, Value.int .i64 x.ct.wd, Value.int .i64 x.ct.bw, Value.slice x.a x.ct.ws.length x.c] 67)) ∧ Below B W (u.alloc (Obj.cells #[Value.int .i64 x.ct.v, Value.int .i64 x.ct.lo, Value.int .i64 x.ct.wd, Value.int .i64 x.ct.bw, Value.slice x.a x.ct.ws.length x.c] 67)) ∧ Bz (u.alloc (Obj.cells #[Value.int .i64 x.ct.v, Value.int .i64 x.ct.lo, Value.int .i64 x.ct.wd, Value.int .i64 x.ct.bw, Value.slice x.a x.ct.ws.length x.c] 67)) W.heap.size #[.func (.yield l) #[] #[]] 135 ∧ ¬ O1 W.heap.size ∧ ∀ D ∈ Ds, (u.alloc (Obj.cells #[Value.int .i64 x.ct.v, Value.int .i64 x.ct.lo, Value.int .i64 x.ct.wd, Value.int .i64 x.ct.bw, Value.slice x.a x.ct.ws.length x.c] 67)).heap[D]? = some (.deferred (some [])) := by
        obtain ⟨q1, q2, q3, q4, q5⟩ := hi9
        exact ⟨HJ.out.alloc _ q1, q2.trans (hba.mono (by omega)), q3.later hba, q4, fun D hD => (hba.block D (lt_of_block (q5 D hD))).trans (q5 D hD)⟩
      have HI8 := kide hi8
      clear hi9 hi8
      unfold sgV
      gi_wp2
      exact hK _ _ ((KeepsOthers.alloc _ _).from _) (hba.mono (by omega)) (Cz.below hba) HI8.out ⟨r1, r2.later hba, r3, fun p hp => ⟨(r4 p hp).1, Nat.lt_of_lt_of_le (r4 p hp).2 hba.size⟩⟩ ⟨u.heap.size, Bz.new u _ _, rfl⟩
    case body =>
      rintro lq q O1 x a' W0 W1 hlq ⟨j0, -, -, -, -⟩ hcz ⟨j1, b1, y1, no1, d1⟩ ⟨r1, r2, r3, r4⟩ ⟨Bx, hX, rfl⟩
      simp only [] at j0 j1 no1
      have hPP : (pre ++ q ++ [x]).map Sg.ct <+: ps.flatMap Pt.L := by
        rw [List.append_assoc, List.map_append, HT.out.ct]
        exact pt_pre HPK.out r1
      obtain ⟨fn, tmps, assign, bodyc, hy, hR⟩ := HOW.out (pre ++ q) O1 x W0 W1 j0 hcz j1 ⟨hPP, r2, r3, r4⟩
      have g0 := y1.cell 0
      have x0 := hX.cell 0
      have x1 := hX.cell 1
      have x2 := hX.cell 2
      have x3 := hX.cell 3
      have x4 := hX.cell 4
      simp at g0 x0 x1 x2 x3 x4
      have hyl := y1.lt
      have B1 := kide b1
      have Y1 := kide y1
      have NO1 := kide no1
      have D1 := kide d1
      clear j0 j1 b1 y1 no1 d1 r1 r2 r3 r4 hX hcz hPP
      unfold sgV at hy ⊢
      gi_wp2
      refine ⟨(fun h => by cases h), (round_deep hR).mono ?_⟩
      rintro e W3 (⟨rfl, hK3, hO3, hF3, O', hJ3, hI3⟩ | ⟨rfl, hF3, hJx3⟩)
      · gi_wp2
        refine ⟨keeps_low hF3 hWr, hK3, hO3, O', ⟨by rw [← List.append_assoc]; exact hJ3, B1.out.trans hK3, hO3.2 _ _ Y1.out rfl NO1.out, fun h9 => ?_, fun D hD => hF3.same D _ (HT.out.ds D hD).1 (D1.out D hD) rfl⟩, hI3⟩
        rcases hI3 _ h9 with h9 | h9
        · exact NO1.out h9
        · omega
      · gi_wp2
        exact ⟨keeps_low hF3 hWr, by rw [← List.append_assoc]; exact hJx3, fun D hD => hF3.same D _ (HT.out.ds D hD).1 (D1.out D hD) rfl⟩
    case done =>
      rintro D xs O1 u hD hS ⟨j1, b1, y1, no1, d1⟩ hdf
      have NX : Hid (Tn l J B W ((ps.take (k + 1)).flatMap Pt.L) (pre ++ xs) O1 (D :: Ds) u) := by
        refine ⟨j1, by rw [List.map_append, HT.out.ct, hS, pt_next HPK.out], b1, y1, no1, List.nodup_cons.2 ⟨fun h9 => ?_, HT.out.nd⟩, fun E hE => ?_⟩
        · have := lt_of_block (HT.out.ds D h9).2
          omega
        · rcases List.mem_cons.1 hE with rfl | hE
          · exact ⟨by omega, hdf⟩
          · exact ⟨(HT.out.ds E hE).1, d1 E hE⟩
      clear j1 b1 y1 no1 d1 hdf hS
      gi_wp2
      refine ⟨⟨k + 1, D :: Ds, pre ++ xs, O1, _, _, _, _, _, _, _, _, _, _, _, _, _, by omega, rfl, NX.out⟩, ?_⟩
      simp [intOf]
      omega
    case stop =>
      rintro D q u hD hSp ⟨jx, d1⟩ hdf
      have hPP : (pre ++ q).map Sg.ct <+: ps.flatMap Pt.L := by
        rw [List.map_append, HT.out.ct]
        exact pt_pre HPK.out hSp
      gi_wp2
      refine leaves_all (fun u => Jx (pre ++ q) u) W.heap.size (fun u D hD hd hq => HJX.out.putObj _ hq hD hd rfl) (fun u hq => ⟨_, results_none rfl _ _ _, ⟨_, rfl⟩, .inr ⟨_, hPP, hq⟩⟩) (D :: Ds) u (List.nodup_cons.2 ⟨fun h9 => ?_, HT.out.nd⟩) (fun E hE => ?_) jx
      · have := lt_of_block (HT.out.ds D h9).2
        omega
      · rcases List.mem_cons.1 hE with rfl | hE
        · exact ⟨by omega, hdf⟩
        · exact ⟨(HT.out.ds E hE).1, d1 E hE⟩
  · obtain rfl : k = N := by omega
    have hall : pre.map Sg.ct = ps.flatMap Pt.L := by rw [hT.ct, List.take_of_length_le (by rw [HN.out]; exact Nat.le_refl _)]
    have HT := kide hT
    clear hT
    gi_wp2
    exact leaves_all (fun u => J (pre, O) u) W.heap.size (fun u D hD hd hq => HJ.out.putObj _ hq hD hd rfl) (fun u hq => ⟨_, results_none rfl _ _ _, ⟨_, rfl⟩, .inl ⟨_, _, hall, hq⟩⟩) Ds wr HT.out.nd HT.out.ds HT.out.j
end Go.Proofs.YtckidgpopbpagaaGreatDoor

/- One segment, told several times. -/
namespace Go.Proofs.YtckidgpopbpagaaGreatDoor
set_option linter.unusedVariables false
set_option linter.unusedSimpArgs false
open Go.RowKit Go.Shelf
attribute [local go_sem] Oper.semAt_some

set_option maxHeartbeats 400000 in
theorem again_any (m : Int) (x : Sg) (w : World) :
    Calls Tryz.prog 65 #[.int .i64 m, sgV x] w fun e w' => e = .returned (.func (.func 87) #[] #[.pointer (some ⟨w.heap.size, 0, none⟩), .pointer (some ⟨w.heap.size + 1, 0, none⟩)]) ∧
      w' = (w.alloc (Obj.cells #[.int .i64 m] 2)).alloc (Obj.cells #[.int .i64 x.ct.v, .int .i64 x.ct.lo, .int .i64 x.ct.wd, .int .i64 x.ct.bw, .slice x.a x.ct.ws.length x.c] 67) := by
  unfold sgV
  go_enter Tryz.func65, Tryz.ntmps65
  go_wp2_with fail
  go_ret
  exact ⟨rfl, rfl⟩

set_option maxHeartbeats 2000000 in
set_option maxRecDepth 100000 in
theorem again_seq (n : Nat) (B : Nat) (bt bs m : Nat) (x : Sg) (w : World) (hB : B ≤ w.heap.size) (hm : m ≤ 4096) (hx : AtS B w x)
    (h1 : Bz w bt #[.int .i64 (m : Int)] 2) (l1 : bt < B) (h2 : Bz w bs #[.int .i64 x.ct.v, .int .i64 x.ct.lo, .int .i64 x.ct.wd, .int .i64 x.ct.bw, .slice x.a x.ct.ws.length x.c] 67) (l2 : bs < B) :
    SeqS n 87 #[.pointer (some ⟨bt, 0, none⟩), .pointer (some ⟨bs, 0, none⟩)] (List.replicate m x.ct) B w := by
  intro l J Jx O0 W hbW hJ hJx hlt hOw h0
  refine callsIn_of_wp Tryz.func87 rfl trivial ?_ rfl
  simp only [Tryz.ntmps87, List.size_toArray, List.length_cons, List.length_nil, Nat.reduceAdd, Nat.reduceSub, Array.replicate_succ, Array.replicate_zero, List.push_toArray, List.append_toArray, List.nil_append, List.cons_append]
  have c1 := (hbW.cell (p := ⟨bt, 0, none⟩) l1).trans (h1.cell 0)
  simp at c1
  have HX := kide hx
  have H2 := kide h2
  have HJ := kide hJ
  have HOW := kide hOw
  have HBW := kide hbW
  clear hx h1 h2 hJ hOw hbW hJx hlt
  gi_wp2
  gi_loopw [5] (fun i wr => ∃ (k : Nat) (pre : List Sg) (O : Nat → Prop), k ≤ m ∧ i = .int .i64 (k : Int) ∧ pre.map Sg.ct = List.replicate k x.ct ∧ J (pre, O) wr ∧ Below B W wr) (fun i _ => m - (intOf i).toNat)
  case atStart => exact ⟨0, [], O0, Nat.zero_le _, rfl, by simp, h0, Below.refl _ _⟩
  case round =>
    obtain ⟨k, pre, O, hk, rfl, hpre, hJp, hBr⟩ := hrel
    have HPR := kide hpre
    have HJP := kide hJp
    have HBR := kide hBr
    clear hpre hJp hBr
    by_cases hlt : k < m
    · have hB9 := HBW.out.trans HBR.out
      have p0 := (hB9.cell (p := ⟨bs, 0, none⟩) l2).trans (H2.out.cell 0)
      have p1 := (hB9.cell (p := ⟨bs, 1, none⟩) l2).trans (H2.out.cell 1)
      have p2 := (hB9.cell (p := ⟨bs, 2, none⟩) l2).trans (H2.out.cell 2)
      have p3 := (hB9.cell (p := ⟨bs, 3, none⟩) l2).trans (H2.out.cell 3)
      have p4 := (hB9.cell (p := ⟨bs, 4, none⟩) l2).trans (H2.out.cell 4)
      simp at p0 p1 p2 p3 p4
      have hkN : (k : Int) < (m : Int) := by omega
      have hkw : IntKind.i64.wrap ((k : Int) + 1) = (k : Int) + 1 := by rw [IntKind.wrap_i64]; omega
      have hNX : (pre ++ [x]).map Sg.ct = List.replicate (k + 1) x.ct := by
        rw [List.map_append, HPR.out, List.replicate_succ']
        rfl
      have hPP : (pre ++ [x]).map Sg.ct <+: List.replicate m x.ct := by
        rw [hNX]
        refine ⟨List.replicate (m - (k + 1)) x.ct, ?_⟩
        rw [List.replicate_append_replicate]
        congr 1
        omega
      obtain ⟨fn, tmps, assign, body, hy, hR⟩ := HOW.out pre O x wr wr HJP.out (Cz.refl wr) HJP.out ⟨hPP, rd_low HX.out.rd hB9 HX.out.pl, HX.out.no, fun q hq => ⟨.inl (HX.out.pl q hq), by have h9 := HX.out.pl q hq; have := hB9.size; omega⟩⟩
      have HPP := kide hPP
      have HNX := kide hNX
      clear hB9 hPP hNX
      unfold sgV at hy
      gi_wp2
      refine ⟨(fun h => by cases h), hR.mono ?_⟩
      rintro e W3 (⟨rfl, hK3, -, -, O', hJ3, -⟩ | ⟨rfl, -, hJx3⟩)
      · gi_wp2
        go_roundw
        case rel => exact ⟨k + 1, pre ++ [x], O', by omega, rfl, HNX.out, hJ3, HBR.out.trans hK3⟩
        case measure => simp only [intOf]; omega
      · gi_wp2
        refine bodyPost_ret (results_none rfl _ _ _) rfl ?_
        exact ⟨⟨_, rfl⟩, .inr ⟨_, HPP.out, hJx3⟩⟩
    · obtain rfl : k = m := by omega
      gi_wp2
      go_end0
      exact ⟨⟨_, rfl⟩, .inl ⟨pre, O, HPR.out, HJP.out⟩⟩
end Go.Proofs.YtckidgpopbpagaaGreatDoor

/- The form of right bits is right, and has just these bits. No program in sight. -/
namespace Go.Proofs.YtckidgpopbpagaaGreatDoor
set_option linter.unusedVariables false
set_option linter.unusedSimpArgs false
open Go.RowKit

/-- A bit as it is told. -/
def okI (p : Ib) : Prop := in64 p.1 ∧ ((p.1 = -1 ∧ (p.2 = 0 ∨ p.2 = 1)) ∨ (0 ≤ p.1 ∧ 0 ≤ p.2 ∧ p.2 ≤ 4095))
theorem okI_lt {p : Ib} (h : okI p) : (p.1 < 0 → p.1 = -1 ∧ (p.2 = 0 ∨ p.2 = 1)) ∧ (¬ p.1 < 0 → 0 ≤ p.1 ∧ 0 ≤ p.2 ∧ p.2 ≤ 4095) := by
  rcases h.2 with h | h
  · exact ⟨fun _ => h, fun h9 => by omega⟩
  · exact ⟨fun h9 => by omega, fun _ => h⟩
theorem runC_all : ∀ (t : List Ib), ∀ q ∈ t.take (runC t), q.1 < 0
  | [], q, h => by simp at h
  | p :: t, q, h => by
    unfold runC at h
    split at h
    · rename_i hp
      rw [List.take_succ_cons] at h
      rcases List.mem_cons.1 h with rfl | h
      · exact hp
      · exact runC_all t q h
    · simp at h
theorem runV_run : ∀ (t : List Ib) (p : Ib), (p :: t).take (runV p t + 1) = runL p.1 p.2 (runV p t + 1)
  | [], p => by simp [runV, runL]
  | q :: t, p => by
    unfold runV
    split
    · rename_i h
      rw [List.take_succ_cons, runV_run t q, h.1, h.2, runL_succ p.1 p.2]
    · simp [runL]
theorem segC_P {c : List Ib} (h : ∀ p ∈ c, p.1 = -1 ∧ (p.2 = 0 ∨ p.2 = 1)) : segPs (segC c) c.length = c := by
  rw [segPs_cst rfl]
  apply List.ext_getElem?
  intro i
  by_cases hi : i < c.length
  · rw [List.getElem?_map, List.getElem?_range hi, Option.map_some, List.getElem?_eq_getElem hi]
    have hp := h c[i] (List.getElem_mem hi)
    unfold segC
    simp only []
    rw [tb_pack _ (fun x hx => by
      obtain ⟨q, hq, rfl⟩ := List.mem_map.1 hx
      have := h q hq
      omega)]
    have e : (c.map fun p => p.2.toNat).getD i 0 = (c[i]).2.toNat := by simp [List.getD, hi]
    rw [e]
    congr 1
    refine Prod.ext hp.1.symm ?_
    simp only []
    rcases hp.2 with h0 | h0 <;> simp [h0]
  · rw [List.getElem?_eq_none (by simp; omega), List.getElem?_eq_none (by omega)]
theorem segC_ok {c : List Ib} (h : ∀ p ∈ c, p.1 = -1 ∧ (p.2 = 0 ∨ p.2 = 1)) (h1 : 1 ≤ c.length) (h2 : c.length ≤ 4096) : okS (segC c) := by
  have := pack_right (c.map fun p => p.2.toNat) (fun x hx => by
      obtain ⟨q, hq, rfl⟩ := List.mem_map.1 hx
      have := h q hq
      omega) (by simpa using h1) (by simpa using h2)
  rw [List.length_map] at this
  exact ⟨by unfold segC; simp only []; omega, by unfold segC; simp only []; omega, fun y hy => pack_lt _ y hy, .inl ⟨rfl, rfl, rfl, this⟩⟩
/-- The form of right bits: it has just these, and is right. -/
theorem formB_P : ∀ (n : Nat) (l : List Ib), l.length ≤ n → l.length ≤ 4096 → (∀ p ∈ l, okI p) → formP (formB l) = l ∧ ∀ s ∈ formB l, okS s ∧ 0 ≤ s.lo ∧ s.lo + s.wd ≤ 4096
  | 0, l, h, _, _ => by
    have : l = [] := List.eq_nil_of_length_eq_zero (by omega)
    subst this
    rw [formB_nil]
    exact ⟨rfl, by simp⟩
  | n + 1, [], _, _, _ => by rw [formB_nil]; exact ⟨rfl, by simp⟩
  | n + 1, p :: t, h, h2, hp => by
    have hlen : (p :: t).length = t.length + 1 := rfl
    rw [formB_cons]
    split
    · rename_i hv
      have hl := runC_le t
      have ih := formB_P n (t.drop (runC t)) (by rw [List.length_drop]; omega) (by rw [List.length_drop]; omega) (fun q hq => hp q (List.mem_cons_of_mem _ (List.mem_of_mem_drop hq)))
      have hc : ∀ q ∈ (p :: t).take (runC t + 1), q.1 = -1 ∧ (q.2 = 0 ∨ q.2 = 1) := fun q hq => by
        refine (okI_lt (hp q (List.mem_of_mem_take hq))).1 ?_
        rw [List.take_succ_cons] at hq
        rcases List.mem_cons.1 hq with rfl | hq
        · exact hv
        · exact runC_all t q hq
      have hcl : ((p :: t).take (runC t + 1)).length = runC t + 1 := by rw [List.length_take]; omega
      refine ⟨?_, fun s hs => ?_⟩
      · rw [formP_cons, ih.1, show (segC ((p :: t).take (runC t + 1))).wd.toNat = ((p :: t).take (runC t + 1)).length from rfl, segC_P hc, show t.drop (runC t) = (p :: t).drop (runC t + 1) from rfl, List.take_append_drop]
      · rcases List.mem_cons.1 hs with rfl | hs
        · refine ⟨segC_ok hc (by omega) (by omega), ?_⟩
          unfold segC
          simp only []
          omega
        · exact ih.2 s hs
    · rename_i hv
      have hl := runV_le t p
      have ih := formB_P n (t.drop (runV p t)) (by rw [List.length_drop]; omega) (by rw [List.length_drop]; omega) (fun q hq => hp q (List.mem_cons_of_mem _ (List.mem_of_mem_drop hq)))
      have hp0 := (okI_lt (hp p (by simp))).2 hv
      refine ⟨?_, fun s hs => ?_⟩
      · rw [formP_cons, ih.1, segPs_var (s := segV p (runV p t + 1)) hp0.1]
        unfold segV
        simp only [Int.toNat_natCast]
        rw [← runV_run t p, show t.drop (runV p t) = (p :: t).drop (runV p t + 1) from rfl, List.take_append_drop]
      · rcases List.mem_cons.1 hs with rfl | hs
        · have hlast : (p.1, p.2 + (runV p t : Int)) ∈ p :: t := by
            have h9 : (p.1, p.2 + (runV p t : Int)) ∈ runL p.1 p.2 (runV p t + 1) := List.mem_map.2 ⟨runV p t, List.mem_range.2 (by omega), rfl⟩
            rw [← runV_run t p] at h9
            exact List.mem_of_mem_take h9
          have h9 := (okI_lt (hp _ hlast)).2 (by simp only []; omega)
          simp only [] at h9
          unfold segV
          refine ⟨⟨by simp only []; omega, by simp only []; omega, by simp, .inr ⟨hp0.1, rfl, rfl⟩⟩, hp0.2.1, by simp only []; omega⟩
        · exact ih.2 s hs

end Go.Proofs.YtckidgpopbpagaaGreatDoor

/- The bits of a term's nodes. No program in sight. -/
namespace Go.Proofs.YtckidgpopbpagaaGreatDoor
set_option linter.unusedVariables false
set_option linter.unusedSimpArgs false
open Go.RowKit

def kidsB (all : List (List Ib)) (ks : List Int) : List (List Ib) := ks.map fun k => all.getD k.toNat []
/-- Turned to the left. -/
def turnB (k : List Ib) (by' : Nat) : List Ib := k.drop (k.length - by') ++ k.take (k.length - by')
/-- The bits of a node, by those of its kids. -/
def nodB (ds : List Dc) (all : List (List Ib)) (n : Tc) : List Ib :=
  if n.op = 1 then runL n.vr 0 (ds.getD n.vr.toNat (.empty, 0)).2.toNat
  else if n.op = 2 then (List.range n.bw.toNat).map fun k => (-1, (((tb n.ws k).toNat : Nat) : Int))
  else if n.op = 3 then (kidsB all n.ks).reverse.flatten
  else if n.op = 4 then (((kidsB all n.ks).getD 0 []).drop n.b.toNat).take (n.a.toNat + 1 - n.b.toNat)
  else if n.op = 5 then (kidsB all n.ks).getD 0 [] ++ List.replicate n.a.toNat (-1, 0)
  else if n.op = 6 then (kidsB all n.ks).getD 0 [] ++ List.replicate n.a.toNat (((kidsB all n.ks).getD 0 []).getD (((kidsB all n.ks).getD 0 []).length - 1) (-1, 0))
  else if n.op = 7 then turnB ((kidsB all n.ks).getD 0 []) (n.a.toNat % ((kidsB all n.ks).getD 0 []).length)
  else if n.op = 8 then turnB ((kidsB all n.ks).getD 0 []) ((((kidsB all n.ks).getD 0 []).length - n.a.toNat % ((kidsB all n.ks).getD 0 []).length) % ((kidsB all n.ks).getD 0 []).length)
  else (List.replicate n.a.toNat ((kidsB all n.ks).getD 0 [])).flatten

/-- What stands of the nodes ahead: as many bits as they are wide, all right. -/
structure AheadB (wide : List Int) (all : List (List Ib)) : Prop where
  len : all.length = wide.length
  ok : ∀ i, i < all.length → ((all.getD i []).length : Int) = wide.getD i 0 ∧ 1 ≤ wide.getD i 0 ∧ wide.getD i 0 ≤ 4096 ∧ ∀ p ∈ all.getD i [], okI p
theorem AheadB.nil : AheadB [] [] := ⟨rfl, fun i hi => by simp at hi⟩
theorem AheadB.push {wide : List Int} {all : List (List Ib)} {v : Int} {x : List Ib} (h : AheadB wide all) (h1 : (x.length : Int) = v) (h2 : 1 ≤ v ∧ v ≤ 4096) (h3 : ∀ p ∈ x, okI p) : AheadB (wide ++ [v]) (all ++ [x]) := by
  refine ⟨by simp [h.len], fun i hi => ?_⟩
  by_cases hlt : i < all.length
  · have hw : i < wide.length := by rw [← h.len]; exact hlt
    have e1 : (all ++ [x]).getD i [] = all.getD i [] := by simp [List.getD, List.getElem?_append_left hlt]
    have e2 : (wide ++ [v]).getD i 0 = wide.getD i 0 := by simp [List.getD, List.getElem?_append_left hw]
    rw [e1, e2]
    exact h.ok i hlt
  · have e : i = all.length := by simp at hi; omega
    subst e
    have e1 : (all ++ [x]).getD all.length [] = x := by simp [List.getD]
    have e2 : (wide ++ [v]).getD all.length 0 = v := by rw [h.len]; simp [List.getD]
    rw [e1, e2]
    exact ⟨h1, h2.1, h2.2, h3⟩

theorem AheadB.nonneg {wide : List Int} {all : List (List Ib)} (h : AheadB wide all) (i : Nat) : 0 ≤ wide.getD i 0 := by
  by_cases hi : i < all.length
  · have := (h.ok i hi).2.1
    omega
  · have : wide.getD i 0 = 0 := by simp [List.getD, List.getElem?_eq_none (show wide.length ≤ i by rw [← h.len]; omega)]
    omega
theorem sumB_eq (wide : List Int) (hw : ∀ i, 0 ≤ wide.getD i 0) : ∀ (ks : List Int) (s : Int), 0 ≤ s → sumR wide ks s ≤ 4096 → sumR wide ks s = s + (ks.map fun k => wide.getD k.toNat 0).sum
  | [], s, _, h => by simp [sumR]
  | k :: t, s, h0, h => by
    rw [sumR] at h ⊢
    have a := hw k.toNat
    have h1 := sumB_eq wide hw t _ (by omega) h
    have h2 : 0 ≤ (t.map fun k => wide.getD k.toNat 0).sum := by
      clear h1 h
      induction t with
      | nil => simp
      | cons x t ih => simp only [List.map_cons, List.sum_cons]; have := hw x.toNat; omega
    rw [List.map_cons, List.sum_cons, h1]
    rw [h1] at h
    omega
theorem AheadB.kid {wide : List Int} {all : List (List Ib)} (h : AheadB wide all) {ks : List Int} (hk : kidsR wide.length ks = true) {k : Int} (hm : k ∈ ks) : (0 ≤ k ∧ k < (all.length : Int)) ∧ ((all.getD k.toNat []).length : Int) = wide.getD k.toNat 0 ∧ 1 ≤ wide.getD k.toNat 0 ∧ wide.getD k.toNat 0 ≤ 4096 ∧ ∀ p ∈ all.getD k.toNat [], okI p := by
  unfold kidsR at hk
  have h9 := List.all_eq_true.1 hk k hm
  simp only [decide_eq_true_eq] at h9
  have hl := h.len
  exact ⟨by omega, h.ok k.toNat (by omega)⟩
theorem kidsB_len {wide : List Int} {all : List (List Ib)} (h : AheadB wide all) : ∀ {ks : List Int}, kidsR wide.length ks = true → ((kidsB all ks).flatten.length : Int) = (ks.map fun k => wide.getD k.toNat 0).sum
  | [], _ => by simp [kidsB]
  | k :: t, hk => by
    have h1 := (h.kid hk (k := k) (by simp)).2.1
    have h2 := kidsB_len h (ks := t) (by unfold kidsR at hk ⊢; simp only [List.all_cons, Bool.and_eq_true] at hk; exact hk.2)
    simp only [kidsB, List.map_cons, List.flatten_cons, List.length_append, List.sum_cons] at h2 ⊢
    omega
theorem runL_len (v a : Int) (m : Nat) : (runL v a m).length = m := by simp [runL]
theorem turnB_len (k : List Ib) (b : Nat) : (turnB k b).length = k.length := by
  unfold turnB
  rw [List.length_append, List.length_drop, List.length_take]
  omega
theorem turnB_mem {k : List Ib} {b : Nat} {p : Ib} (h : p ∈ turnB k b) : p ∈ k := by
  unfold turnB at h
  rcases List.mem_append.1 h with h | h
  · exact List.mem_of_mem_drop h
  · exact List.mem_of_mem_take h

/-- What a node of a right term is like, behind those ahead of it. -/
structure FNode (ds : List Dc) (all : List (List Ib)) (n : Tc) : Prop where
  op : 1 ≤ n.op ∧ n.op ≤ 9
  kid : ∀ j ∈ n.ks, (0 ≤ j ∧ j < (all.length : Int)) ∧ 1 ≤ (all.getD j.toNat []).length ∧ (all.getD j.toNat []).length ≤ 4096 ∧ ∀ p ∈ all.getD j.toNat [], okI p
  var : n.op = 1 → (0 ≤ n.vr ∧ n.vr < (ds.length : Int)) ∧ 1 ≤ (ds.getD n.vr.toNat (.empty, 0)).2 ∧ (ds.getD n.vr.toNat (.empty, 0)).2 ≤ 4096
  cst : n.op = 2 → rightB n.bw n.ws = true
  many : n.op = 3 → 2 ≤ n.ks.length
  one : 4 ≤ n.op → ∃ j, n.ks = [j]
  part : n.op = 4 → 0 ≤ n.b ∧ n.b ≤ n.a ∧ n.a < ((kidsB all n.ks).getD 0 []).length
  amt : 5 ≤ n.op → 0 ≤ n.a ∧ n.a ≤ 4096
  rep : n.op = 9 → 1 ≤ n.a
  len : 1 ≤ (nodB ds all n).length ∧ (nodB ds all n).length ≤ 4096
  ok : ∀ p ∈ nodB ds all n, okI p

theorem nodB_ok {ds : List Dc} {wide : List Int} {all : List (List Ib)} {n : Tc} {v : Int} (ha : AheadB wide all) (hd : dclR ds = true) (hv64 : in64 n.vr) (hs : stepR ds wide n = some v) :
    FNode ds all n ∧ ((nodB ds all n).length : Int) = v := by
  unfold stepR at hs
  split at hs
  · rename_i hc
    simp only [Bool.and_eq_true] at hc
    obtain ⟨⟨hk, hf⟩, hm⟩ := hc
    split at hs
    · rename_i hw
      obtain rfl := Option.some.inj hs
      have hkid : ∀ j ∈ n.ks, (0 ≤ j ∧ j < (all.length : Int)) ∧ 1 ≤ (all.getD j.toNat []).length ∧ (all.getD j.toNat []).length ≤ 4096 ∧ ∀ p ∈ all.getD j.toNat [], okI p := fun j hj => by
        obtain ⟨h1, h2, h3, h4, h5⟩ := ha.kid hk hj
        exact ⟨h1, by omega, by omega, h5⟩
      have hop : 1 ≤ n.op ∧ n.op ≤ 9 := by
        unfold manyR at hm
        split at hm
        · omega
        · split at hm
          · omega
          · split at hm
            · omega
            · split at hm
              · omega
              · cases hm
      have hone : 4 ≤ n.op → ∃ j, n.ks = [j] := fun h4 => by
        unfold manyR at hm
        rw [if_neg (by omega), if_neg (by omega), if_neg (by omega), if_pos ⟨h4, hop.2⟩] at hm
        simp only [decide_eq_true_eq] at hm
        exact List.length_eq_one_iff.1 hm
      -- of one kid
      have hK : 4 ≤ n.op → ((((kidsB all n.ks).getD 0 []).length : Int) = sumR wide n.ks 0) ∧ 1 ≤ ((kidsB all n.ks).getD 0 []).length ∧ ((kidsB all n.ks).getD 0 []).length ≤ 4096 ∧ ∀ p ∈ (kidsB all n.ks).getD 0 [], okI p := fun h4 => by
        obtain ⟨j, hj⟩ := hone h4
        obtain ⟨h1, h2, h3, h4, h5⟩ := ha.kid hk (k := j) (by rw [hj]; simp)
        have e : (kidsB all n.ks).getD 0 [] = all.getD j.toNat [] := by rw [hj]; simp [kidsB]
        rw [e, hj, sumR, sumR]
        exact ⟨by omega, by omega, by omega, h5⟩
      have key : (((nodB ds all n).length : Int) = wideR ds n (sumR wide n.ks 0)) ∧ ∀ p ∈ nodB ds all n, okI p := by
        rcases (show n.op = 1 ∨ n.op = 2 ∨ n.op = 3 ∨ n.op = 4 ∨ n.op = 5 ∨ n.op = 6 ∨ n.op = 7 ∨ n.op = 8 ∨ n.op = 9 by omega) with e | e | e | e | e | e | e | e | e
        · have hm1 := hm
          unfold manyR at hm1
          rw [if_pos e] at hm1
          simp only [Bool.and_eq_true, decide_eq_true_eq] at hm1
          have hwd : wideR ds n (sumR wide n.ks 0) = (ds.getD n.vr.toNat (.empty, 0)).2 := by unfold wideR; rw [if_pos e]
          rw [hwd] at hw ⊢
          have hn : nodB ds all n = runL n.vr 0 (ds.getD n.vr.toNat (.empty, 0)).2.toNat := by unfold nodB; rw [if_pos e]
          rw [hn]
          refine ⟨by rw [runL_len]; omega, fun p hp => ?_⟩
          obtain ⟨k, hk9, rfl⟩ := List.mem_map.1 hp
          have := List.mem_range.1 hk9
          exact ⟨hv64, .inr ⟨hm1.2.1, by simp only []; omega, by simp only []; omega⟩⟩
        · have hm1 := hm
          unfold manyR at hm1
          rw [if_neg (by omega), if_pos e] at hm1
          simp only [Bool.and_eq_true, decide_eq_true_eq] at hm1
          have hwd : wideR ds n (sumR wide n.ks 0) = n.bw := by unfold wideR; rw [if_neg (by omega), if_pos e]
          rw [hwd] at hw ⊢
          have hn : nodB ds all n = (List.range n.bw.toNat).map fun k => (-1, (((tb n.ws k).toNat : Nat) : Int)) := by unfold nodB; rw [if_neg (by omega), if_pos e]
          rw [hn]
          refine ⟨by simp; omega, fun p hp => ?_⟩
          obtain ⟨k, hk9, rfl⟩ := List.mem_map.1 hp
          refine ⟨by unfold in64; simp, .inl ⟨rfl, ?_⟩⟩
          cases tb n.ws k <;> simp
        · have hwd : wideR ds n (sumR wide n.ks 0) = sumR wide n.ks 0 := by unfold wideR; simp [e]
          rw [hwd] at hw ⊢
          have hn : nodB ds all n = (kidsB all n.ks).reverse.flatten := by unfold nodB; simp [e]
          rw [hn]
          refine ⟨?_, fun p hp => ?_⟩
          · rw [sumB_eq wide ha.nonneg _ _ (Int.le_refl _) hw.2, Int.zero_add, ← kidsB_len ha hk]
            congr 1
            rw [List.length_flatten, List.length_flatten, List.map_reverse, List.sum_reverse]
          · obtain ⟨l, hl, hp⟩ := List.mem_flatten.1 hp
            obtain ⟨k, hk9, rfl⟩ := List.mem_map.1 (List.mem_reverse.1 hl)
            exact (hkid k hk9).2.2.2 p hp
        · obtain ⟨k1, k2, k3, k4⟩ := hK (by omega)
          have hwd : wideR ds n (sumR wide n.ks 0) = if n.b < 0 ∨ n.a < n.b ∨ sumR wide n.ks 0 ≤ n.a then -1 else n.a - n.b + 1 := by unfold wideR; simp [e]
          rw [hwd] at hw ⊢
          split at hw
          · omega
          · rename_i hc
            rw [if_neg hc]
            have hn : nodB ds all n = (((kidsB all n.ks).getD 0 []).drop n.b.toNat).take (n.a.toNat + 1 - n.b.toNat) := by unfold nodB; simp [e]
            rw [hn]
            refine ⟨by rw [List.length_take, List.length_drop]; omega, fun p hp => k4 p (List.mem_of_mem_drop (List.mem_of_mem_take hp))⟩
        · obtain ⟨k1, k2, k3, k4⟩ := hK (by omega)
          have hwd : wideR ds n (sumR wide n.ks 0) = if 0 ≤ n.a ∧ n.a ≤ 4096 then sumR wide n.ks 0 + n.a else -1 := by unfold wideR; simp [e]
          rw [hwd] at hw ⊢
          split at hw
          · rename_i hc
            rw [if_pos hc]
            have hn : nodB ds all n = (kidsB all n.ks).getD 0 [] ++ List.replicate n.a.toNat (-1, 0) := by unfold nodB; simp [e]
            rw [hn]
            refine ⟨by rw [List.length_append, List.length_replicate]; omega, fun p hp => ?_⟩
            rcases List.mem_append.1 hp with hp | hp
            · exact k4 p hp
            · rw [(List.mem_replicate.1 hp).2]
              exact ⟨by unfold in64; simp, .inl ⟨rfl, .inl rfl⟩⟩
          · omega
        · obtain ⟨k1, k2, k3, k4⟩ := hK (by omega)
          have hwd : wideR ds n (sumR wide n.ks 0) = if 0 ≤ n.a ∧ n.a ≤ 4096 then sumR wide n.ks 0 + n.a else -1 := by unfold wideR; simp [e]
          rw [hwd] at hw ⊢
          split at hw
          · rename_i hc
            rw [if_pos hc]
            have hn : nodB ds all n = (kidsB all n.ks).getD 0 [] ++ List.replicate n.a.toNat (((kidsB all n.ks).getD 0 []).getD (((kidsB all n.ks).getD 0 []).length - 1) (-1, 0)) := by unfold nodB; simp [e]
            rw [hn]
            refine ⟨by rw [List.length_append, List.length_replicate]; omega, fun p hp => ?_⟩
            rcases List.mem_append.1 hp with hp | hp
            · exact k4 p hp
            · rw [(List.mem_replicate.1 hp).2]
              refine k4 _ ?_
              generalize (kidsB all n.ks).getD 0 [] = K at *
              have hl : K.length - 1 < K.length := by omega
              simp [List.getD, hl]
          · omega
        · obtain ⟨k1, k2, k3, k4⟩ := hK (by omega)
          have hwd : wideR ds n (sumR wide n.ks 0) = if 0 ≤ n.a ∧ n.a ≤ 4096 then sumR wide n.ks 0 else -1 := by unfold wideR; simp [e]
          rw [hwd] at hw ⊢
          split at hw
          · rename_i hc
            rw [if_pos hc]
            have hn : nodB ds all n = turnB ((kidsB all n.ks).getD 0 []) (n.a.toNat % ((kidsB all n.ks).getD 0 []).length) := by unfold nodB; simp [e]
            rw [hn, turnB_len]
            exact ⟨k1, fun p hp => k4 p (turnB_mem hp)⟩
          · omega
        · obtain ⟨k1, k2, k3, k4⟩ := hK (by omega)
          have hwd : wideR ds n (sumR wide n.ks 0) = if 0 ≤ n.a ∧ n.a ≤ 4096 then sumR wide n.ks 0 else -1 := by unfold wideR; simp [e]
          rw [hwd] at hw ⊢
          split at hw
          · rename_i hc
            rw [if_pos hc]
            have hn : nodB ds all n = turnB ((kidsB all n.ks).getD 0 []) ((((kidsB all n.ks).getD 0 []).length - n.a.toNat % ((kidsB all n.ks).getD 0 []).length) % ((kidsB all n.ks).getD 0 []).length) := by unfold nodB; simp [e]
            rw [hn, turnB_len]
            exact ⟨k1, fun p hp => k4 p (turnB_mem hp)⟩
          · omega
        · obtain ⟨k1, k2, k3, k4⟩ := hK (by omega)
          have hwd : wideR ds n (sumR wide n.ks 0) = if 1 ≤ n.a ∧ n.a ≤ 4096 then sumR wide n.ks 0 * n.a else -1 := by unfold wideR; simp [e]
          rw [hwd] at hw ⊢
          split at hw
          · rename_i hc
            rw [if_pos hc]
            have hn : nodB ds all n = (List.replicate n.a.toNat ((kidsB all n.ks).getD 0 [])).flatten := by unfold nodB; simp [e]
            rw [hn]
            refine ⟨?_, fun p hp => ?_⟩
            · rw [List.length_flatten, List.map_replicate, List.sum_replicate_nat]
              obtain ⟨A, hA⟩ : ∃ A : Nat, n.a = (A : Int) := ⟨n.a.toNat, by omega⟩
              rw [hA, Int.toNat_natCast, ← k1]
              push_cast
              rw [Int.mul_comm]
            · obtain ⟨l, hl, hp⟩ := List.mem_flatten.1 hp
              rw [(List.mem_replicate.1 hl).2] at hp
              exact k4 p hp
          · omega
      refine ⟨⟨hop, hkid, fun e => ?_, fun e => ?_, fun e => ?_, hone, fun e => ?_, fun e => ?_, fun e => ?_, by omega, key.2⟩, key.1⟩
      · have hm1 := hm
        unfold manyR at hm1
        rw [if_pos e] at hm1
        simp only [Bool.and_eq_true, decide_eq_true_eq] at hm1
        have hwd : wideR ds n (sumR wide n.ks 0) = (ds.getD n.vr.toNat (.empty, 0)).2 := by unfold wideR; rw [if_pos e]
        rw [hwd] at hw
        exact ⟨by omega, hw⟩
      · have hm1 := hm
        unfold manyR at hm1
        rw [if_neg (by omega), if_pos e] at hm1
        simp only [Bool.and_eq_true, decide_eq_true_eq] at hm1
        exact hm1.2
      · have hm1 := hm
        unfold manyR at hm1
        rw [if_neg (by omega), if_neg (by omega), if_pos e] at hm1
        simpa using hm1
      · have h9 := hw
        unfold wideR at h9
        simp only [e] at h9
        have k1 := (hK (by omega)).1
        simp at h9
        split at h9
        · omega
        · omega
      · have h9 := hw
        unfold wideR at h9
        rw [if_neg (by omega), if_neg (by omega), if_neg (by omega)] at h9
        split at h9
        · split at h9 <;> omega
        · split at h9
          · split at h9 <;> omega
          · rw [if_pos (by omega)] at h9
            split at h9 <;> omega
      · have h9 := hw
        unfold wideR at h9
        simp only [e] at h9
        simp at h9
        split at h9 <;> omega
    · cases hs
  · cases hs

end Go.Proofs.YtckidgpopbpagaaGreatDoor
