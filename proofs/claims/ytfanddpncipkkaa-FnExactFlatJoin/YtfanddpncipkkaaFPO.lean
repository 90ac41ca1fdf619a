/- Segments of a row, told one after another. -/
import Derived.Test.YtfanddpncipkkaaFPJ
import Derived.Handy
namespace Go.Proofs.Ytfanddpncipkkaa
set_option linter.unusedVariables false
set_option linter.unusedSimpArgs false
open Go.RowKit Go.Shelf
attribute [local go_sem] Oper.semAt_some

set_option maxHeartbeats 400000 in
theorem values_any (va : Option Addr) (N vc : Nat) (w : World) :
    Calls Try.prog 41 #[.slice va N vc] w fun e w' => e = .returned (.func (.func 63) #[] #[.pointer (some ⟨w.heap.size, 0, none⟩)]) ∧ w' = w.alloc (Obj.cells #[.slice va N vc] 26) := by
  go_enter Try.func41, Try.ntmps41
  go_wp2_with fail
  go_ret
  exact ⟨rfl, rfl⟩

set_option maxHeartbeats 2000000 in
set_option maxRecDepth 100000 in
theorem values_seq (n : Nat) (B : Nat) (bf fb fo fc N : Nat) (xs : List Sg) (w : World) (hB : B ≤ w.heap.size) (hN : xs.length = N) (hN2 : N ≤ 2000) (hxs : ∀ x ∈ xs, AtS B w x)
    (h1 : Bz w bf #[.slice (some ⟨fb, fo, none⟩) N fc] 26) (l1 : bf < B) (l4 : fb < B)
    (hc : ∀ i x, xs[i]? = some x → ShAt w fb (fo + i * 5) x.hd) :
    SeqS n 63 #[.pointer (some ⟨bf, 0, none⟩)] (xs.map Sg.ct) B w := by
  intro l J Jx O0 W hbW hJ hJx hlt hOw h0
  refine callsIn_of_wp Try.func63 rfl trivial ?_ rfl
  simp only [Try.ntmps63, List.size_toArray, List.length_cons, List.length_nil, Nat.reduceAdd, Nat.reduceSub, Array.replicate_succ, Array.replicate_zero, List.push_toArray, List.append_toArray, List.nil_append, List.cons_append]
  have c1 := (hbW.cell (p := ⟨bf, 0, none⟩) l1).trans (h1.cell 0)
  simp at c1
  have HX := kide hxs
  have HC := kide hc
  have HN := kide hN
  have HJ := kide hJ
  have HOW := kide hOw
  have HBW := kide hbW
  clear hxs hc h1 hN hJ hOw hbW hJx hlt
  gi_wp2
  gi_loopw [7] (fun i wr => ∃ (k : Nat) (pre : List Sg) (O : Nat → Prop), k ≤ N ∧ i = .int .i64 (k : Int) ∧ pre.map Sg.ct = (xs.take k).map Sg.ct ∧ J (pre, O) wr ∧ Below B W wr) (fun i _ => N - (intOf i).toNat)
  case atStart => exact ⟨0, [], O0, Nat.zero_le _, rfl, by simp, h0, Below.refl _ _⟩
  case round =>
    obtain ⟨k, pre, O, hk, rfl, hpre, hJp, hBr⟩ := hrel
    have HPR := kide hpre
    have HJP := kide hJp
    have HBR := kide hBr
    clear hpre hJp hBr
    by_cases hlt : k < N
    · obtain ⟨x, hx⟩ : ∃ x, xs[k]? = some x := ⟨xs[k]'(by rw [HN.out]; exact hlt), List.getElem?_eq_getElem _⟩
      have HXA := kide (HX.out x (List.mem_of_getElem? hx))
      obtain ⟨p0, p1, p2, p3, p4⟩ := HC.out k x hx
      simp only [Sg.hd] at p0 p1 p2 p3 p4
      have hB9 := HBW.out.trans HBR.out
      replace p0 := (hB9.cell (p := ⟨fb, fo + k * 5, none⟩) l4).trans p0
      replace p1 := (hB9.cell (p := ⟨fb, fo + k * 5 + 1, none⟩) l4).trans p1
      replace p2 := (hB9.cell (p := ⟨fb, fo + k * 5 + 2, none⟩) l4).trans p2
      replace p3 := (hB9.cell (p := ⟨fb, fo + k * 5 + 3, none⟩) l4).trans p3
      replace p4 := (hB9.cell (p := ⟨fb, fo + k * 5 + 4, none⟩) l4).trans p4
      have hkN : (k : Int) < (N : Int) := by omega
      have hk0 : (k : Int) ≥ 0 := by omega
      have hkw : IntKind.i64.wrap ((k : Int) + 1) = (k : Int) + 1 := by rw [IntKind.wrap_i64]; omega
      have hbV : Below wr.heap.size wr (wr.alloc (Obj.cells #[Value.int .i64 x.ct.v, Value.int .i64 x.ct.lo, Value.int .i64 x.ct.wd, Value.int .i64 x.ct.bw, Value.slice x.a x.ct.ws.length x.c] 47)) := (Below.refl _ _).alloc (Nat.le_refl _) _
      have HTK : Hid ((xs.take (k + 1)).map Sg.ct = (xs.take k).map Sg.ct ++ [x.ct]) := by
        show _ = _
        rw [List.take_add_one, hx, Option.toList_some, List.map_append]
        rfl
      have hPP : (pre ++ [x]).map Sg.ct <+: xs.map Sg.ct := by
        rw [List.map_append, HPR.out, show [x].map Sg.ct = [x.ct] from rfl, ← HTK.out, List.map_take]
        exact List.take_prefix _ _
      have J2 := HJ.out _ _ (wr.alloc (Obj.cells #[Value.int .i64 x.ct.v, Value.int .i64 x.ct.lo, Value.int .i64 x.ct.wd, Value.int .i64 x.ct.bw, Value.slice x.a x.ct.ws.length x.c] 47)) none HJP.out ⟨hbV.os, hbV.tape, hbV.output, hbV.size, fun j hj _ => hbV.block j hj⟩ (fun r e => by cases e)
      obtain ⟨fn, tmps, assign, body, hy, hR⟩ := HOW.out pre O x wr _ HJP.out (Cz.below hbV) J2 ⟨hPP, (rd_low HXA.out.rd hB9 HXA.out.pl).later hbV, HXA.out.no, fun q hq => ⟨.inl (HXA.out.pl q hq), by have h9 := HXA.out.pl q hq; have := hbV.size; have := hB9.size; omega⟩⟩
      have HPP := kide hPP
      have BV := kide hbV
      have hBz := hB9.size
      clear hx hB9 J2 hPP hbV
      unfold sgV at hy
      gi_wp2
      refine ⟨(fun h => by cases h), hR.mono ?_⟩
      rintro e W3 (⟨rfl, hK3, -, -, O', hJ3, -⟩ | ⟨rfl, -, hJx3⟩)
      · gi_wp2
        go_roundw
        case rel => exact ⟨k + 1, pre ++ [x], O', by omega, rfl, by rw [HTK.out, List.map_append, HPR.out]; rfl, hJ3, (HBR.out.trans (BV.out.mono (by have := HBR.out.size; have := HBW.out.size; omega))).trans hK3⟩
        case measure => simp only [intOf]; omega
      · gi_wp2
        refine bodyPost_ret (results_none rfl _ _ _) rfl ?_
        exact ⟨⟨_, rfl⟩, .inr ⟨_, HPP.out, hJx3⟩⟩
    · obtain rfl : k = N := by omega
      gi_wp2
      go_end0
      refine ⟨⟨_, rfl⟩, .inl ⟨pre, O, ?_, HJP.out⟩⟩
      rw [HPR.out, List.take_of_length_le (by simp [HN.out])]
end Go.Proofs.Ytfanddpncipkkaa
