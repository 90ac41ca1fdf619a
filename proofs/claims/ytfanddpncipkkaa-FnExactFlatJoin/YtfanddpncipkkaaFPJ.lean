/- The bits between two places of a form, told one segment after another. -/
import Derived.Test.YtfanddpncipkkaaFPI
import Derived.Test.YtfanddpncipkkaaFPH
import Derived.Handy
namespace Go.Proofs.Ytfanddpncipkkaa
set_option linter.unusedVariables false
set_option linter.unusedSimpArgs false
open Go.RowKit Go.Shelf
attribute [local go_sem] Oper.semAt_some

/-- A segment that is at hand: its words can be read, and lie ahead of B. -/
structure AtS (B : Nat) (w : World) (x : Sg) : Prop where
  ok : okS x.ct
  lo : 0 ≤ x.ct.lo ∧ x.ct.lo + x.ct.wd ≤ 4096
  rd : Rd w x.a x.ct.ws
  no : x.a = none → x.c = 0
  pl : ∀ q, x.a = some q → q.block < B

theorem rd_low {w w' : World} {B : Nat} {a : Option Addr} {xs : List Nat} (h : Rd w a xs) (hb : Below B w w') (hp : ∀ q, a = some q → q.block < B) : Rd w' a xs := by
  obtain ⟨h1, h2, h3⟩ := h
  refine ⟨h1, h2, ?_⟩
  rcases h3 with h3 | ⟨b, o, rfl, hc⟩
  · exact .inl h3
  · exact .inr ⟨b, o, rfl, fun i hi => (hb.cell (p := ⟨b, o + i, none⟩) (hp ⟨b, o, none⟩ rfl)).trans (hc i hi)⟩

set_option maxHeartbeats 2000000 in
set_option maxRecDepth 100000 in
theorem between_seq (n : Nat) (lo en B : Nat) (bf bl be fb fo fc N : Nat) (xs : List Sg) (w : World) (hB : B ≤ w.heap.size) (hN : xs.length = N) (hN2 : N ≤ 2000) (hxs : ∀ x ∈ xs, AtS B w x) (hsum : sumS (xs.map Sg.ct) ≤ 4096) (hlo : lo ≤ 4096) (hen : en ≤ 4096)
    (h1 : Bz w bf #[.slice (some ⟨fb, fo, none⟩) N fc] 26) (h2 : Bz w bl #[.int .i64 (lo : Int)] 2) (h3 : Bz w be #[.int .i64 (en : Int)] 2) (l1 : bf < B) (l2 : bl < B) (l3 : be < B) (l4 : fb < B)
    (hc : ∀ i x, xs[i]? = some x → ShAt w fb (fo + i * 5) x.hd) :
    SeqS n 58 #[.pointer (some ⟨bf, 0, none⟩), .pointer (some ⟨bl, 0, none⟩), .pointer (some ⟨be, 0, none⟩)] (betS lo en 0 (xs.map Sg.ct)) B w := by
  intro l J Jx O0 W hbW hJ hJx hlt hOw h0
  refine callsIn_of_wp Try.func58 rfl trivial ?_ rfl
  simp only [Try.ntmps58, List.size_toArray, List.length_cons, List.length_nil, Nat.reduceAdd, Nat.reduceSub, Array.replicate_succ, Array.replicate_zero, List.push_toArray, List.append_toArray, List.nil_append, List.cons_append]
  have c1 := (hbW.cell (p := ⟨bf, 0, none⟩) l1).trans (h1.cell 0)
  simp at c1
  have hct : ∀ k : Nat, (formP ((xs.map Sg.ct).take k)).length ≤ 4096 := fun k => by
    have h9 := formP_len ((xs.map Sg.ct).take k) (fun s hs => by
      obtain ⟨x, hx, rfl⟩ := List.mem_map.1 (List.mem_of_mem_take hs)
      have := (hxs x hx).ok.1
      omega)
    have h8 := take_sum (fs := xs.map Sg.ct) (fun s hs => by
      obtain ⟨x, hx, rfl⟩ := List.mem_map.1 hs
      exact (hxs x hx).ok.1) k
    omega
  have HCT := kide hct
  have HX := kide hxs
  have HC := kide hc
  have H1 := kide h1
  have H2 := kide h2
  have H3 := kide h3
  have HN := kide hN
  have HJ := kide hJ
  have HOW := kide hOw
  have HBW := kide hbW
  have hmx : Try.prog.follows .mixedOrders = true := by kernel_rfl
  have HLT := kide hlt
  clear hct hxs hc h1 h2 h3 hN hJ hOw hbW hsum hJx hlt
  gi_wp2
  gi_loopw [5, 12] (fun f i wr => ∃ (k : Nat) (pre : List Sg) (O : Nat → Prop), k ≤ N ∧ i = .int .i64 (k : Int) ∧ f = .int .i64 ((formP ((xs.map Sg.ct).take k)).length : Int) ∧ pre.map Sg.ct = betS lo en 0 ((xs.map Sg.ct).take k) ∧ J (pre, O) wr ∧ Below B W wr) (fun _ i _ => N - (intOf i).toNat)
  case atStart => exact ⟨0, [], O0, Nat.zero_le _, rfl, by simp [formP], by simp [betS], h0, Below.refl _ _⟩
  case round =>
    obtain ⟨k, pre, O, hk, rfl, rfl, hpre, hJp, hBr⟩ := hrel
    have hF := HCT.out k
    obtain ⟨F0, hF0⟩ : ∃ F0, (formP ((xs.map Sg.ct).take k)).length = F0 := ⟨_, rfl⟩
    rw [hF0] at hF ⊢
    have HPR := kide hpre
    have HJP := kide hJp
    have HBR := kide hBr
    have HF0 := kide hF0
    clear hpre hJp hBr hF0
    by_cases hlt : k < N
    · obtain ⟨x, hx⟩ : ∃ x, xs[k]? = some x := ⟨xs[k]'(by rw [HN.out]; exact hlt), List.getElem?_eq_getElem _⟩
      have HXA := kide (HX.out x (List.mem_of_getElem? hx))
      obtain ⟨p0, p1, p2, p3, p4⟩ := HC.out k x hx
      simp only [Sg.hd] at p0 p1 p2 p3 p4
      have hB9 := HBW.out.trans HBR.out
      replace p0 := (hB9.cell (p := ⟨fb, fo + k * 5, none⟩) l4).trans p0
      replace p1 := (hB9.cell (p := ⟨fb, fo + k * 5 + 1, none⟩) l4).trans p1
      replace p2 := (hB9.cell (p := ⟨fb, fo + k * 5 + 2, none⟩) l4).trans p2
      replace p3 := (hB9.cell (p := ⟨fb, fo + k * 5 + 3, none⟩) l4).trans p3
      replace p4 := (hB9.cell (p := ⟨fb, fo + k * 5 + 4, none⟩) l4).trans p4
      have g2 := (hB9.cell (p := ⟨bl, 0, none⟩) l2).trans (H2.out.cell 0)
      have g3 := (hB9.cell (p := ⟨be, 0, none⟩) l3).trans (H3.out.cell 0)
      simp at g2 g3
      have HXK := kide hx
      have hkN : (k : Int) < (N : Int) := by omega
      have hk0 : (k : Int) ≥ 0 := by omega
      have q2 : bl < wr.heap.size := by have := hB9.size; omega
      have q3 : be < wr.heap.size := by have := hB9.size; omega
      obtain ⟨D, hD⟩ : ∃ D : Nat, x.ct.wd = (D : Int) := ⟨x.ct.wd.toNat, by have := HXA.out.ok.1; omega⟩
      have hD2 : D ≤ 4096 := by have := HXA.out.ok.2.1; omega
      have HD := kide hD
      rw [hD] at p2
      have hFw : IntKind.i64.wrap ((F0 : Int) + (D : Int)) = (F0 : Int) + (D : Int) := by rw [IntKind.wrap_i64]; omega
      obtain ⟨fr, hfr⟩ : ∃ fr, max F0 lo = fr := ⟨_, rfl⟩
      obtain ⟨to, hto⟩ : ∃ to, min (F0 + D) en = to := ⟨_, rfl⟩
      have hfri : max (F0 : Int) (lo : Int) = (fr : Int) := by omega
      have htoi : min ((F0 : Int) + (D : Int)) (en : Int) = (to : Int) := by omega
      have hbs := betS_snoc lo en (xs.map Sg.ct) (k := k) (s := x.ct) (by rw [List.getElem?_map, hx]; rfl)
      rw [HF0.out, show x.ct.wd.toNat = D by rw [hD]; rfl, hfr, hto] at hbs
      have HBS := kide hbs
      have HNX : Hid ((formP ((xs.map Sg.ct).take (k + 1))).length = F0 + D) := by
        show _ = _
        rw [formP_snoc (xs.map Sg.ct) (k := k) (s := x.ct) (by rw [List.getElem?_map, hx]; rfl), List.length_append, HF0.out, segPs_len, show x.ct.wd.toNat = D by rw [hD]; rfl]
      have hkw : IntKind.i64.wrap ((k : Int) + 1) = (k : Int) + 1 := by rw [IntKind.wrap_i64]; omega
      have BV : Hid (Below wr.heap.size wr (wr.alloc (Obj.cells #[Value.int .i64 x.ct.v, Value.int .i64 x.ct.lo, Value.int .i64 (D : Int), Value.int .i64 x.ct.bw, Value.slice x.a x.ct.ws.length x.c] 47)).drew) := ((Below.refl _ _).alloc (Nat.le_refl _) _).drew
      have XV : Hid (Bz (wr.alloc (Obj.cells #[Value.int .i64 x.ct.v, Value.int .i64 x.ct.lo, Value.int .i64 (D : Int), Value.int .i64 x.ct.bw, Value.slice x.a x.ct.ws.length x.c] 47)).drew wr.heap.size #[Value.int .i64 x.ct.v, Value.int .i64 x.ct.lo, Value.int .i64 (D : Int), Value.int .i64 x.ct.bw, Value.slice x.a x.ct.ws.length x.c] 47) := Bz.new wr _ _
      have hBz := hB9.size
      clear hx hB9 hD hbs
      gi_wp2
      gi_region
      generalize (wr.alloc (Obj.cells #[Value.int .i64 x.ct.v, Value.int .i64 x.ct.lo, Value.int .i64 (D : Int), Value.int .i64 x.ct.bw, Value.slice x.a x.ct.ws.length x.c] 47)).drew = V at *
      have v0 := XV.out.cell 0
      have v1 := XV.out.cell 1
      have v2 := XV.out.cell 2
      have v3 := XV.out.cell 3
      have v4 := XV.out.cell 4
      simp at v0 v1 v2 v3 v4
      by_cases hft : fr < to
      · rw [if_pos hft] at HBS
        have hd1 : (fr : Int) < (to : Int) := by omega
        have hs1 : IntKind.i64.wrap ((fr : Int) - (F0 : Int)) = ((fr - F0 : Nat) : Int) := by rw [IntKind.wrap_i64]; omega
        have hs2 : IntKind.i64.wrap ((to : Int) - (fr : Int)) = ((to - fr : Nat) : Int) := by rw [IntKind.wrap_i64]; omega
        have hnn : ¬ (fr < F0) := by omega
        have HSP := kide (fun u (hu : Below wr.heap.size wr u) => segPart_any x (fr - F0) (to - fr) u HXA.out.ok HXA.out.lo (by omega) (by rw [HD.out]; omega) ((rd_low HXA.out.rd (HBW.out.trans HBR.out) HXA.out.pl).later hu) HXA.out.no (fun q hq => by have h9 := HXA.out.pl q hq; have := hu.size; omega))
        rw [HD.out] at HSP
        clear hfri htoi hfr hto
        gi_wp2
        refine ⟨trivial, (fun h => by cases h), callsIn_wide.2 (Calls.mono (HSP.out V BV.out) ?_)⟩
        rintro e V2 ⟨a2, c2, rfl, hr2, hn2, hq2, hb2⟩
        obtain ⟨Y, hYc, hYa, hYd⟩ : ∃ Y : Sg, Y.ct = cutS x.ct (fr - F0) (to - fr) ∧ Y.a = a2 ∧ Y.c = c2 := ⟨⟨_, a2, c2⟩, rfl, rfl, rfl⟩
        subst hYa hYd
        have eY : sgV ⟨cutS x.ct (fr - F0) (to - fr), Y.a, Y.c⟩ = sgV Y := by rw [← hYc]
        rw [← hYc] at hr2 HBS
        have hb3 := BV.out.trans (hb2.mono BV.out.size)
        have J2 := HJ.out _ _ V2 none HJP.out ⟨hb3.os, hb3.tape, hb3.output, hb3.size, fun j hj _ => hb3.block j hj⟩ (fun r e => by cases e)
        have hRdy : RdyS B (betS lo en 0 (xs.map Sg.ct)) wr.heap.size pre Y V2 := by
          refine ⟨?_, hr2, hn2, fun q hq => ⟨?_, (hq2 q hq).2⟩⟩
          · rw [List.map_append, HPR.out, show [Y].map Sg.ct = [Y.ct] from rfl, ← HBS.out]
            exact betS_pre lo en _ _
          · rcases (hq2 q hq).1 with h9 | h9
            · exact .inl (HXA.out.pl q h9)
            · exact .inr (Nat.le_trans BV.out.size h9)
        obtain ⟨fn, tmps, assign, body, hy, hR⟩ := HOW.out pre O Y wr V2 HJP.out (Cz.below hb3) J2 hRdy
        have v2 := (hb2.cell (p := ⟨wr.heap.size, 2, none⟩) XV.out.lt).trans v2
        have XV2 := kide (XV.out.later hb2)
        have HB3 := kide hb3
        have HYC := kide hYc
        have HNO : Hid (¬ O wr.heap.size) := fun h9 => by have := HLT.out _ _ HJP.out _ h9; omega
        clear hr2 hn2 hq2 hb2 hb3 J2 hRdy hYc
        rw [eY]
        clear eY
        unfold sgV at hy ⊢
        gi_wp2
        refine ⟨(fun h => by cases h), hR.mono ?_⟩
        rintro e W3 (⟨rfl, hK3, hO3, -, O', hJ3, hI3⟩ | ⟨rfl, -, hJx3⟩)
        · have v3 := (show Bz W3 wr.heap.size _ _ from hO3.2 _ _ XV2.out rfl HNO.out).cell 2
          simp at v3
          gi_wp2
          go_roundw
          case rel => exact ⟨k + 1, pre ++ [Y], O', by omega, rfl, by rw [HNX.out]; rfl, by rw [HBS.out, List.map_append, HPR.out]; rfl, hJ3, (HBR.out.trans (HB3.out.mono (by have := HBR.out.size; have := HBW.out.size; omega))).trans hK3⟩
          case measure => simp only [intOf]; omega
        · gi_wp2
          refine bodyPost_ret (results_none rfl _ _ _) rfl ?_
          refine ⟨⟨_, rfl⟩, .inr ⟨_, ?_, hJx3⟩⟩
          rw [List.map_append, HPR.out, show [Y].map Sg.ct = [Y.ct] from rfl, ← HBS.out]
          exact betS_pre lo en _ _
      · rw [if_neg hft, List.append_nil] at HBS
        have hd1 : ¬ (fr : Int) < (to : Int) := by omega
        clear hfri htoi hfr hto
        gi_wp2
        refine ⟨trivial, ?_⟩
        gi_wp2
        refine ⟨(fun _ h => by cases h), ?_⟩
        gi_wp2
        go_roundw
        case rel => exact ⟨k + 1, pre, O, by omega, rfl, by rw [HNX.out]; rfl, by rw [HBS.out]; exact HPR.out, HJ.out _ _ _ none HJP.out ⟨BV.out.os, BV.out.tape, BV.out.output, BV.out.size, fun j hj _ => BV.out.block j hj⟩ (fun r e => by cases e), HBR.out.trans (BV.out.mono (by have := HBR.out.size; have := HBW.out.size; omega))⟩
        case measure => simp only [intOf]; omega
    · obtain rfl : k = N := by omega
      gi_wp2
      go_end0
      refine ⟨⟨_, rfl⟩, .inl ⟨pre, O, ?_, HJP.out⟩⟩
      rw [HPR.out, List.take_of_length_le (by simp [HN.out])]
end Go.Proofs.Ytfanddpncipkkaa
