/- Several iterators, one after another. -/
import Derived.Test.YtfanddpncipkkaaFPO
import Derived.Handy
namespace Go.Proofs.Ytfanddpncipkkaa
set_option linter.unusedVariables false
set_option linter.unusedSimpArgs false
open Go.RowKit Go.Shelf
attribute [local go_sem] Oper.semAt_some

/-- A round of an outer loop, asked from a round of an inner one. -/
theorem round_deep {m m' l l' : Nat} {P : Program} {f : FuncId} {tmps : Array Value} {assign body : Code} {w : World} {R : Ending → World → Prop} (h : RoundIn Fence.wide m P l f tmps assign body w R) : RoundIn (Fence.wide.inRound l') m' P l f tmps assign body w R :=
  ⟨trivial, fun c cs _ => h.2 c cs (fun d hd => by cases hd)⟩
/-- Deferred calls that loops have left behind, none in any: they are taken, and nothing is called. -/
def marks (Ds : List Nat) : List Deferred := Ds.map fun D => { target := .collected D, args := #[] }
theorem leaves_all {F : Fence} {n : Nat} {P : Program} {fn : Func} {tmps : Array Value} {R : Ending → World → Prop} (Q : World → Prop) (B : Nat) (hQ : ∀ w D, B ≤ D → w.heap[D]? = some (.deferred (some [])) → Q w → Q (w.putObj D (.deferred none)))
    (hfin : ∀ w, Q w → LeavesIn F n P fn tmps R [] .returning w) : ∀ (Ds : List Nat) (w : World), Ds.Nodup → (∀ D ∈ Ds, B ≤ D ∧ w.heap[D]? = some (.deferred (some []))) → Q w → LeavesInM F n P fn tmps R (marks Ds) .returning w
  | [], w, _, _, hq => hfin w hq
  | D :: Ds, w, hn, hd, hq => by
    obtain ⟨h1, h2⟩ := hd D (by simp)
    refine ⟨by simp, .inl ⟨D, _, rfl, run_takeDeferred h2, leaves_all Q B hQ hfin Ds _ (List.nodup_cons.1 hn).2 (fun E hE => ?_) (hQ w D h1 h2 hq)⟩⟩
    obtain ⟨h3, h4⟩ := hd E (by simp [hE])
    exact ⟨h3, by rw [World.putObj_heap_other (fun e => (List.nodup_cons.1 hn).1 (by rw [← e]; exact hE))]; exact h4⟩

/-- One of them: its function, what it has caught, what it tells. -/
structure Pt where
  g : Nat
  lb : Array Value
  L : List Sc

set_option maxHeartbeats 400000 in
theorem inTurn_any (va : Option Addr) (N vc : Nat) (w : World) :
    Calls Try.prog 40 #[.slice va N vc] w fun e w' => e = .returned (.func (.func 62) #[] #[.pointer (some ⟨w.heap.size, 0, none⟩)]) ∧ w' = w.alloc (Obj.cells #[.slice va N vc] 95) := by
  go_enter Try.func40, Try.ntmps40
  go_wp2_with fail
  go_ret
  exact ⟨rfl, rfl⟩

theorem pt_pre {ps : List Pt} {k : Nat} {p : Pt} {A : List Sc} (hp : ps[k]? = some p) (hA : A <+: p.L) : (ps.take k).flatMap Pt.L ++ A <+: ps.flatMap Pt.L := by
  obtain ⟨r, hr⟩ := hA
  have h9 := List.getElem?_eq_some_iff.1 hp
  have e : ps = ps.take k ++ p :: ps.drop (k + 1) := by rw [← h9.2, ← List.drop_eq_getElem_cons h9.1, List.take_append_drop]
  refine ⟨r ++ (ps.drop (k + 1)).flatMap Pt.L, ?_⟩
  conv => rhs; rw [e, List.flatMap_append, List.flatMap_cons, ← hr]
  simp only [List.append_assoc]
theorem pt_next {ps : List Pt} {k : Nat} {p : Pt} (hp : ps[k]? = some p) : (ps.take (k + 1)).flatMap Pt.L = (ps.take k).flatMap Pt.L ++ p.L := by
  rw [List.take_add_one, hp, Option.toList_some, List.flatMap_append]
  simp

/-- What holds between two of them. -/
structure Tn (l : Nat) (J : List Sg × (Nat → Prop) → World → Prop) (B : Nat) (W : World) (Ls : List Sc) (pre : List Sg) (O : Nat → Prop) (Ds : List Nat) (wr : World) : Prop where
  j : J (pre, O) wr
  ct : pre.map Sg.ct = Ls
  bel : Below B W wr
  y : Bz wr W.heap.size #[.func (.yield l) #[] #[]] 92
  no : ¬ O W.heap.size
  nd : Ds.Nodup
  ds : ∀ D ∈ Ds, W.heap.size ≤ D ∧ wr.heap[D]? = some (.deferred (some []))

set_option maxHeartbeats 4000000 in
set_option maxRecDepth 100000 in
theorem inTurn_seq (n : Nat) (B : Nat) (bf fb fo fc N : Nat) (ps : List Pt) (w : World) (hB : B ≤ w.heap.size) (hN : ps.length = N) (hN2 : N ≤ 1048576)
    (hps : ∀ p ∈ ps, (∀ (args : Array Value) (w : World), (callFunc p.g args).run Try.prog w = .ok (.enter p.g args) w) ∧ ∀ n, SeqS n p.g p.lb p.L B w)
    (h1 : Bz w bf #[.slice (some ⟨fb, fo, none⟩) N fc] 95) (l1 : bf < B) (l4 : fb < B)
    (hc : ∀ i p, ps[i]? = some p → w.cell? ⟨fb, fo + i, none⟩ = some (.func (.func p.g) #[] p.lb)) :
    SeqS n 62 #[.pointer (some ⟨bf, 0, none⟩)] (ps.flatMap Pt.L) B w := by
  intro l J Jx O0 W hbW hJ hJx hlt hOw h0
  refine callsIn_of_wp_marks Try.func62 rfl trivial ?_ rfl
  simp only [Try.ntmps62, List.size_toArray, List.length_cons, List.length_nil, Nat.reduceAdd, Nat.reduceSub, Array.replicate_succ, Array.replicate_zero, List.push_toArray, List.append_toArray, List.nil_append, List.cons_append]
  have c1 := (hbW.cell (p := ⟨bf, 0, none⟩) l1).trans (h1.cell 0)
  simp at c1
  have l2 : bf < W.heap.size := by have := hbW.size; omega
  have T0 : Hid (Tn l J B W [] [] O0 [] (W.alloc (Obj.cells #[.func (.yield l) #[] #[]] 92))) := by
    refine ⟨hJ.alloc _ h0, rfl, (Below.refl _ _).alloc (by have := hbW.size; omega) _, Bz.new W _ _, fun h9 => ?_, List.nodup_nil, fun D hD => by cases hD⟩
    have := hlt _ _ h0 _ h9
    omega
  have HPS := kide hps
  have HC := kide hc
  have HN := kide hN
  have HJ := kide hJ
  have HJX := kide hJx
  have HLT := kide hlt
  have HOW := kide hOw
  have HBW := kide hbW
  have hBW : B ≤ W.heap.size := by have := hbW.size; omega
  clear hps hc h1 hN hJ hJx hlt hOw hbW
  gi_wp2
  refine wpIn_loop (fun a wr => ∃ (k : Nat) (Ds : List Nat) (pre : List Sg) (O : Nat → Prop) (u3 u4 u5 u9 u10 u11 u12 u13 u14 u15 u16 u17 u18 : Value), k ≤ N ∧ a = { tmps := #[Value.func (Fn.yield l) #[] #[], Value.pointer (some ⟨bf, 0, none⟩), Value.pointer (some ⟨W.heap.size, 0, none⟩), u3, u4, u5, Value.slice (some ⟨fb, fo, none⟩) N fc, Value.int .i64 (N : Int), Value.int .i64 (k : Int), u9, u10, u11, u12, u13, u14, u15, u16, u17, u18], defers := marks Ds } ∧ Tn l J B W ((ps.take k).flatMap Pt.L) pre O Ds wr)
    (fun a _ => N - (intOf (a.tmps.getD 8 undef)).toNat) ⟨0, [], [], O0, _, _, _, _, _, _, _, _, _, _, _, _, _, Nat.zero_le _, rfl, T0.out⟩ ?_
  rintro a wr ⟨k, Ds, pre, O, u3, u4, u5, u9, u10, u11, u12, u13, u14, u15, u16, u17, u18, hk, rfl, hT⟩
  by_cases hkN : k < N
  · obtain ⟨p, hp⟩ : ∃ p, ps[k]? = some p := ⟨ps[k]'(by rw [HN.out]; exact hkN), List.getElem?_eq_getElem _⟩
    obtain ⟨hen, hsq⟩ := HPS.out p (List.mem_of_getElem? hp)
    have hB9 := HBW.out.trans hT.bel
    have p0 := (hB9.cell (p := ⟨fb, fo + k, none⟩) l4).trans (HC.out k p hp)
    have hk1 : (k : Int) < (N : Int) := by omega
    have hk0 : (k : Int) ≥ 0 := by omega
    have hkw : IntKind.i64.wrap ((k : Int) + 1) = (k : Int) + 1 := by rw [IntKind.wrap_i64]; omega
    have HT := kide hT
    have HEN := kide hen
    have HSQ := kide hsq
    have HB9 := kide hB9
    have HPK := kide hp
    clear hT hen hsq hB9 hp
    have hWr : W.heap.size ≤ wr.heap.size := HT.out.bel.size
    gi_wp2
    refine wpIn_rangeW (F := Fence.wide) rfl (fun h => by cases h) (gf := p.g) (lb := p.lb) rfl trivial HEN.out (HSQ.out (n - 1)) ?kr (fun h k => h.trans k) ?kb ?rp HB9.out (fun _ => rfl)
      (fun s u => J (pre ++ s.1, s.2) u ∧ Below B W u ∧ Bz u W.heap.size #[.func (.yield l) #[] #[]] 92 ∧ ¬ s.2 W.heap.size ∧ ∀ D ∈ Ds, u.heap[D]? = some (.deferred (some [])))
      (fun q u => Jx (pre ++ q) u ∧ ∀ D ∈ Ds, u.heap[D]? = some (.deferred (some []))) O ?hi ?hix ?ho ⟨by simpa using HT.out.j, HT.out.bel, HT.out.y, HT.out.no, fun D hD => (HT.out.ds D hD).2⟩
      (fun T x a' u => ∃ Bx, Bz u Bx #[Value.int .i64 x.ct.v, Value.int .i64 x.ct.lo, Value.int .i64 x.ct.wd, Value.int .i64 x.ct.bw, Value.slice x.a x.ct.ws.length x.c] 47 ∧ a' = { tmps := #[Value.func (Fn.yield l) #[] #[], Value.pointer (some ⟨bf, 0, none⟩), Value.pointer (some ⟨W.heap.size, 0, none⟩), u3, Value.func (Fn.func p.g) #[] p.lb, Value.pointer (some ⟨Bx, 0, none⟩), Value.slice (some ⟨fb, fo, none⟩) N fc, Value.int .i64 (N : Int), Value.int .i64 (k : Int), Value.bool true, Value.pointer (some ⟨fb, fo + k, none⟩), Value.func (Fn.func p.g) #[] p.lb, Value.func (Fn.func p.g) #[] p.lb, sgV x, u14, u15, u16, u17, u18], defers := [] }) ?hax ?assign ?body ?done ?stop
    case kr =>
      intro o o'
      exact ((Below.refl B wr).alloc (by omega) _).alloc (by simp; omega) _
    case kb =>
      intro u lq o o' hl _ _
      exact ⟨rfl, rfl, rfl, by simp, fun k hk => World.putObj_heap_other (fun e => by omega)⟩
    case rp =>
      rintro T q x u lq o o' hl hc ⟨h1, h2, h3, h4⟩
      exact ⟨h1, cz_rd h2 (Cz.put o' hl hc), h3, fun p hp => ⟨(h4 p hp).1, by have := (h4 p hp).2; simpa using this⟩⟩
    case hi =>
      rintro s A A' row ⟨q1, q2, q3, q4, q5⟩ hg hr
      refine ⟨HJ.out _ A A' row q1 hg (fun r e => ⟨Nat.le_trans hWr (hr r e).1, (hr r e).2⟩), q2.trans ⟨hg.os, hg.tape, hg.output, hg.size, fun j hj => hg.block j ?_ ?_⟩, cz_bz q3 (cz_grown hg (fun r e => (hr r e).2)), q4, fun D hD => ?_⟩
      · have := q2.size; omega
      · intro e; have := (hr j e.symm).1; omega
      · rw [hg.block D (lt_of_block (q5 D hD)) (fun e => by have h9 := (hr D e.symm).1; have h8 := lt_of_block (HT.out.ds D hD).2; omega)]
        exact q5 D hD
    case hix =>
      rintro s A A' row ⟨q1, q5⟩ hg hr
      refine ⟨HJX.out _ A A' row q1 hg (fun r e => ⟨Nat.le_trans hWr (hr r e).1, (hr r e).2⟩), fun D hD => ?_⟩
      rw [hg.block D (lt_of_block (q5 D hD)) (fun e => by have h9 := (hr D e.symm).1; have h8 := lt_of_block (HT.out.ds D hD).2; omega)]
      exact q5 D hD
    case ho =>
      rintro s u ⟨q1, -⟩ j hj
      exact HLT.out _ _ q1 j hj
    case hax =>
      rintro T x a' _ A A' row ⟨Bx, h2, h3⟩ hg hr
      exact ⟨Bx, cz_bz h2 (cz_grown hg (fun r e => (hr r e).2)), h3⟩
    case assign =>
      rintro lq T q O1 x u K hTW hi9 ⟨r1, r2, r3, r4⟩ hK
      have hba : Below u.heap.size u (u.alloc (Obj.cells #[Value.int .i64 x.ct.v, Value.int .i64 x.ct.lo, Value.int .i64 x.ct.wd, Value.int .i64 x.ct.bw, Value.slice x.a x.ct.ws.length x.c] 47)) := (Below.refl _ _).alloc (Nat.le_refl _) _
      have hub : W.heap.size ≤ u.heap.size := hi9.2.1.size
      have hi8 : J (pre ++ q, O1) (u.alloc (Obj.cells #[Value.int .i64 x.ct.v, Value.int .i64 x.ct.lo, Value.int .i64 x.ct.wd, Value.int .i64 x.ct.bw, Value.slice x.a x.ct.ws.length x.c] 47)) ∧ Below B W (u.alloc (Obj.cells #[Value.int .i64 x.ct.v, Value.int .i64 x.ct.lo, Value.int .i64 x.ct.wd, Value.int .i64 x.ct.bw, Value.slice x.a x.ct.ws.length x.c] 47)) ∧ Bz (u.alloc (Obj.cells #[Value.int .i64 x.ct.v, Value.int .i64 x.ct.lo, Value.int .i64 x.ct.wd, Value.int .i64 x.ct.bw, Value.slice x.a x.ct.ws.length x.c] 47)) W.heap.size #[.func (.yield l) #[] #[]] 92 ∧ ¬ O1 W.heap.size ∧ ∀ D ∈ Ds, (u.alloc (Obj.cells #[Value.int .i64 x.ct.v, Value.int .i64 x.ct.lo, Value.int .i64 x.ct.wd, Value.int .i64 x.ct.bw, Value.slice x.a x.ct.ws.length x.c] 47)).heap[D]? = some (.deferred (some [])) := by
        obtain ⟨q1, q2, q3, q4, q5⟩ := hi9
        exact ⟨HJ.out.alloc _ q1, q2.trans (hba.mono (by omega)), q3.later hba, q4, fun D hD => (hba.block D (lt_of_block (q5 D hD))).trans (q5 D hD)⟩
      have HI8 := kide hi8
      clear hi9 hi8
      unfold sgV
      gi_wp2
      exact hK _ _ ((KeepsOthers.alloc _ _).from _) (hba.mono (by omega)) (Cz.below hba) HI8.out ⟨r1, r2.later hba, r3, fun p hp => ⟨(r4 p hp).1, Nat.lt_of_lt_of_le (r4 p hp).2 hba.size⟩⟩ ⟨u.heap.size, Bz.new u _ _, rfl⟩
    case body =>
      rintro lq q O1 x a' W0 W1 hlq ⟨j0, -, -, -, -⟩ hcz ⟨j1, b1, y1, no1, d1⟩ ⟨r1, r2, r3, r4⟩ ⟨Bx, hX, rfl⟩
      simp only [] at j0 j1 no1
      have hPP : (pre ++ q ++ [x]).map Sg.ct <+: ps.flatMap Pt.L := by
        rw [List.append_assoc, List.map_append, HT.out.ct]
        exact pt_pre HPK.out r1
      obtain ⟨fn, tmps, assign, bodyc, hy, hR⟩ := HOW.out (pre ++ q) O1 x W0 W1 j0 hcz j1 ⟨hPP, r2, r3, r4⟩
      have g0 := y1.cell 0
      have x0 := hX.cell 0
      have x1 := hX.cell 1
      have x2 := hX.cell 2
      have x3 := hX.cell 3
      have x4 := hX.cell 4
      simp at g0 x0 x1 x2 x3 x4
      have hyl := y1.lt
      have B1 := kide b1
      have Y1 := kide y1
      have NO1 := kide no1
      have D1 := kide d1
      clear j0 j1 b1 y1 no1 d1 r1 r2 r3 r4 hX hcz hPP
      unfold sgV at hy ⊢
      gi_wp2
      refine ⟨(fun h => by cases h), (round_deep hR).mono ?_⟩
      rintro e W3 (⟨rfl, hK3, hO3, hF3, O', hJ3, hI3⟩ | ⟨rfl, hF3, hJx3⟩)
      · gi_wp2
        refine ⟨keeps_low hF3 hWr, hK3, hO3, O', ⟨by rw [← List.append_assoc]; exact hJ3, B1.out.trans hK3, hO3.2 _ _ Y1.out rfl NO1.out, fun h9 => ?_, fun D hD => hF3.same D _ (HT.out.ds D hD).1 (D1.out D hD) rfl⟩, hI3⟩
        rcases hI3 _ h9 with h9 | h9
        · exact NO1.out h9
        · omega
      · gi_wp2
        exact ⟨keeps_low hF3 hWr, by rw [← List.append_assoc]; exact hJx3, fun D hD => hF3.same D _ (HT.out.ds D hD).1 (D1.out D hD) rfl⟩
    case done =>
      rintro D xs O1 u hD hS ⟨j1, b1, y1, no1, d1⟩ hdf
      have NX : Hid (Tn l J B W ((ps.take (k + 1)).flatMap Pt.L) (pre ++ xs) O1 (D :: Ds) u) := by
        refine ⟨j1, by rw [List.map_append, HT.out.ct, hS, pt_next HPK.out], b1, y1, no1, List.nodup_cons.2 ⟨fun h9 => ?_, HT.out.nd⟩, fun E hE => ?_⟩
        · have := lt_of_block (HT.out.ds D h9).2
          omega
        · rcases List.mem_cons.1 hE with rfl | hE
          · exact ⟨by omega, hdf⟩
          · exact ⟨(HT.out.ds E hE).1, d1 E hE⟩
      clear j1 b1 y1 no1 d1 hdf hS
      gi_wp2
      refine ⟨⟨k + 1, D :: Ds, pre ++ xs, O1, _, _, _, _, _, _, _, _, _, _, _, _, _, by omega, rfl, NX.out⟩, ?_⟩
      simp [intOf]
      omega
    case stop =>
      rintro D q u hD hSp ⟨jx, d1⟩ hdf
      have hPP : (pre ++ q).map Sg.ct <+: ps.flatMap Pt.L := by
        rw [List.map_append, HT.out.ct]
        exact pt_pre HPK.out hSp
      gi_wp2
      refine leaves_all (fun u => Jx (pre ++ q) u) W.heap.size (fun u D hD hd hq => HJX.out.putObj _ hq hD hd rfl) (fun u hq => ⟨_, results_none rfl _ _ _, ⟨_, rfl⟩, .inr ⟨_, hPP, hq⟩⟩) (D :: Ds) u (List.nodup_cons.2 ⟨fun h9 => ?_, HT.out.nd⟩) (fun E hE => ?_) jx
      · have := lt_of_block (HT.out.ds D h9).2
        omega
      · rcases List.mem_cons.1 hE with rfl | hE
        · exact ⟨by omega, hdf⟩
        · exact ⟨(HT.out.ds E hE).1, d1 E hE⟩
  · obtain rfl : k = N := by omega
    have hall : pre.map Sg.ct = ps.flatMap Pt.L := by rw [hT.ct, List.take_of_length_le (by rw [HN.out]; exact Nat.le_refl _)]
    have HT := kide hT
    clear hT
    gi_wp2
    exact leaves_all (fun u => J (pre, O) u) W.heap.size (fun u D hD hd hq => HJ.out.putObj _ hq hD hd rfl) (fun u hq => ⟨_, results_none rfl _ _ _, ⟨_, rfl⟩, .inl ⟨_, _, hall, hq⟩⟩) Ds wr HT.out.nd HT.out.ds HT.out.j
end Go.Proofs.Ytfanddpncipkkaa
