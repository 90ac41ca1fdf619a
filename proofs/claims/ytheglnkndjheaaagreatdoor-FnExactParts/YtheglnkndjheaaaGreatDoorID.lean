/- How an argument that is a row of literals is opened; how long the arguments are. -/
import Derived.Test.YtheglnkndjheaaaGreatDoorQW
import Derived.Test.YtheglnkndjheaaaGreatDoorZIA
namespace Go.Proofs.YtheglnkndjheaaaGreatDoor
set_option linter.unusedVariables false
set_option linter.unusedSimpArgs false
open Go.ChangeShapes Go.WideShapes Go.ChangeAt Go.RowKit Go.Joins

set_option maxRecDepth 100000 in
theorem open_nodes {H : Type} {enc : TypeId × Value → H} {W : World} {base fuel : Nat} {v : Value} {x : DataW H × List MemPlace}
    (g0 : DataW.trod enc Tryz.prog W base (fun _ => true) true fuel 51 [v] = some x) :
    ∃ (a : Option Addr) (n c : Nat), v = .slice a n c ∧ n ≤ 9223372036854775807 ∧ (n ≤ 1048576 → ∃ hs : List Th, hs.length = n ∧ RdTh W a hs ∧ ∀ h ∈ hs, NodeOf W h) := by
  have ce : Tryz.prog.cellsOf 132 = 7 := by kernel_rfl
  have cB : Tryz.prog.cellsOf 130 = 2 := by kernel_rfl
  have cI : Tryz.prog.cellsOf 2 = 1 := by kernel_rfl
  have cW : Tryz.prog.cellsOf 100 = 1 := by kernel_rfl
  have cK : Tryz.prog.cellsOf 40 = 1 := by kernel_rfl
  rcases Deep.open_slice Tryz.underlying51 g0 with ⟨hcs, _⟩ | ⟨x, len, cap, m, n2, D, Pl, hcs, _, hl, hm, hz, _, hx⟩
  · simp at hcs
    subst hcs
    exact ⟨none, 0, 0, rfl, by omega, fun _ => ⟨[], rfl, ⟨by simp, .inl rfl⟩, by simp⟩⟩
  · simp at hcs
    subst hcs
    refine ⟨some x, len, cap, rfl, by unfold maxLen at hm; omega, fun hle => ?_⟩
    have each : ∀ i, i < len → ∃ h : Th, (W.cell? (x.add (i * 7)) = some (.int .i64 h.op) ∧ W.cell? (x.add (i * 7 + 1)) = some (.int .i64 h.vr) ∧ W.cell? (x.add (i * 7 + 2)) = some (.int .i64 h.a) ∧ W.cell? (x.add (i * 7 + 3)) = some (.int .i64 h.b) ∧ W.cell? (x.add (i * 7 + 4)) = some (.int .i64 h.bw) ∧ W.cell? (x.add (i * 7 + 5)) = some (.slice h.wa h.wn h.wc) ∧ W.cell? (x.add (i * 7 + 6)) = some (.slice h.ka h.kn h.kc)) ∧ (h.wn ≤ 9223372036854775807 ∧ h.kn ≤ 9223372036854775807) ∧ NodeOf W h := by
      intro i hi
      simp at hz
      obtain ⟨cs', h1, h2⟩ := hx i (by omega)
      rw [ce] at h1
      obtain ⟨_, hlen, hcell⟩ := World.cells?_some h1
      obtain ⟨ys, k, hk, hxy, _, hxl, hfd⟩ := DataW.trod_struct Tryz.underlying132 h2
      match ys, hxl, cs', hlen with
      | [y0, y1, y2, y3, y4, y5], _, [v0, v1, v2, v3, v4, v5, v6], _ =>
        have g0 := hfd 0 _ rfl
        have g1 := hfd 1 _ rfl
        have g2 := hfd 2 _ rfl
        have g3 := hfd 3 _ rfl
        have g4 := hfd 4 _ rfl
        have g5 := hfd 5 _ rfl
        simp [cB, cI, cK] at g0 g1 g2 g3 g4 g5
        obtain ⟨n0, e0, _, w0⟩ := DataW.trod_int Tryz.underlying2 g0
        obtain ⟨n1, e1, _, w1⟩ := DataW.trod_int Tryz.underlying2 g1
        obtain ⟨n2', e2, _, w2⟩ := DataW.trod_int Tryz.underlying2 g2
        obtain ⟨n3, e3, _, w3⟩ := DataW.trod_int Tryz.underlying2 g3
        obtain ⟨zs, k', hk', hxy', _, hxl', hfd'⟩ := DataW.trod_struct Tryz.underlying130 g4
        obtain ⟨ak, nk, ck, e6, hnk, hkk⟩ := open_ks g5
        match zs, hxl' with
        | [z0, z1], _ =>
          have g6 := hfd' 0 _ rfl
          have g7 := hfd' 1 _ rfl
          simp [cI, cW] at g6 g7
          obtain ⟨n4, e4, _, w4⟩ := DataW.trod_int Tryz.underlying2 g6
          obtain ⟨a, n, c, e5, hn, hk5⟩ := open_words g7
          have c0 := hcell 0 (by omega)
          have c1 := hcell 1 (by omega)
          have c2 := hcell 2 (by omega)
          have c3 := hcell 3 (by omega)
          have c4 := hcell 4 (by omega)
          have c5 := hcell 5 (by omega)
          have c6 := hcell 6 (by omega)
          rw [Deep.add_add] at c0 c1 c2 c3 c4 c5 c6
          simp at e0 e1 e2 e3 e4 c0 c1 c2 c3 c4 c5 c6
          rw [e0] at c0
          rw [e1] at c1
          rw [e2] at c2
          rw [e3] at c3
          rw [e4] at c4
          rw [e5] at c5
          rw [e6] at c6
          exact ⟨⟨n0, n1, n2', n3, n4, a, n, c, ak, nk, ck⟩, ⟨c0, c1, c2, c3, c4, c5, c6⟩, ⟨hn, hnk⟩, ⟨bounds_i64 w0, bounds_i64 w1, bounds_i64 w2, bounds_i64 w3, bounds_i64 w4⟩, hk5, hkk⟩
    haveI : Inhabited Th := ⟨⟨0, 0, 0, 0, 0, none, 0, 0, none, 0, 0⟩⟩
    obtain ⟨q, hq⟩ := Deep.choose_lt each
    refine ⟨(List.range len).map q, by simp, ⟨by simpa using hle, ?_⟩, ?_⟩
    · by_cases h0 : len = 0
      · left; simp [h0]
      · right
        obtain ⟨b, off, spot⟩ := x
        have hc0 := (hq 0 (by omega)).1.1
        have hspot : spot = none := by simpa [Addr.add] using World.cell?_spot hc0
        subst hspot
        refine ⟨b, off, rfl, fun i h hi => ?_⟩
        have hil : i < len := by have := (List.getElem?_eq_some_iff.1 hi).1; simpa using this
        simp [hil] at hi
        subst hi
        obtain ⟨⟨k0, k1, k2, k3, k4, k5, k6⟩, k7, -⟩ := hq i hil
        rw [Addr.add_lit] at k0 k1 k2 k3 k4 k5 k6
        exact ⟨⟨k0, k1, k2, k3, k4, k5, k6⟩, k7⟩
    · intro h hh
      obtain ⟨i, hi, rfl⟩ := List.mem_map.1 hh
      exact (hq i (List.mem_range.1 hi)).2.2

/-- What a literal as it lies holds. -/
def LitOf (W : World) (h : Lh) : Prop := in64 h.id ∧ (h.sn ≤ 1048576 → ∀ y ∈ h.ss, NodeOf W y) ∧ (h.tn ≤ 1048576 → ∀ y ∈ h.ts, NodeOf W y)

theorem pick_nodes {W : World} {a : Option Addr} {n : Nat} (hn : n ≤ 9223372036854775807) (h : n ≤ 1048576 → ∃ hs : List Th, hs.length = n ∧ RdTh W a hs ∧ ∀ h ∈ hs, NodeOf W h) : ∃ hs : List Th, TmOk W a n hs ∧ (n ≤ 1048576 → ∀ y ∈ hs, NodeOf W y) := by
  by_cases hn2 : n ≤ 1048576
  · obtain ⟨hs, f1, f2, f3⟩ := h hn2
    exact ⟨hs, ⟨hn, fun _ => ⟨f1, f2⟩⟩, fun _ => f3⟩
  · exact ⟨[], ⟨hn, fun h => absurd h hn2⟩, fun h => absurd h hn2⟩

set_option maxRecDepth 100000 in
theorem open_literals {H : Type} {enc : TypeId × Value → H} {W : World} {r : Reach} {b0 base : Nat} {v : Value} {d : DataW H} {p : List MemPlace}
    (hv : Value.okWide Tryz.prog W r b0 23 v) (h : DataW.Trod enc Tryz.prog W base (fun _ => true) true 23 v d p) :
    ∃ (a : Option Addr) (n c : Nat), v = .slice a n c ∧ n ≤ 9223372036854775807 ∧ (n ≤ 1048576 → ∃ hs : List Lh, hs.length = n ∧ RdLh W a hs ∧ ∀ h ∈ hs, LitOf W h) := by
  obtain ⟨a1, len1, cap1, rfl⟩ := okWide_slice Tryz.underlying23 hv
  obtain ⟨fuel, hf⟩ := h
  have ce : Tryz.prog.cellsOf 55 = 4 := by kernel_rfl
  have cI : Tryz.prog.cellsOf 2 = 1 := by kernel_rfl
  have cb : Tryz.prog.cellsOf 4 = 1 := by kernel_rfl
  have cT : Tryz.prog.cellsOf 53 = 1 := by kernel_rfl
  have cN : Tryz.prog.cellsOf 51 = 1 := by kernel_rfl
  rcases Deep.open_slice Tryz.underlying23 hf with ⟨hcs, _⟩ | ⟨x, len, cap, m, n2, D, Pl, hcs, _, hl, hm, hz, _, hx⟩
  · simp [Value.cells] at hcs
    obtain ⟨rfl, rfl, rfl⟩ := hcs
    exact ⟨none, 0, 0, rfl, by omega, fun _ => ⟨[], rfl, ⟨by simp, .inl rfl⟩, by simp⟩⟩
  · simp [Value.cells] at hcs
    obtain ⟨rfl, rfl, rfl⟩ := hcs
    refine ⟨some x, _, _, rfl, by unfold maxLen at hm; omega, fun hle => ?_⟩
    have each : ∀ i, i < len1 → ∃ h : Lh, (W.cell? (x.add (i * 4)) = some (.int .i64 h.id) ∧ W.cell? (x.add (i * 4 + 1)) = some (.bool h.eq) ∧ W.cell? (x.add (i * 4 + 2)) = some (.slice h.sa h.sn h.sc) ∧ W.cell? (x.add (i * 4 + 3)) = some (.slice h.ta h.tn h.tc)) ∧ (TmOk W h.sa h.sn h.ss ∧ TmOk W h.ta h.tn h.ts) ∧ LitOf W h := by
      intro i hi
      simp at hz
      obtain ⟨cs', h1, h2⟩ := hx i (by omega)
      rw [ce] at h1
      obtain ⟨_, hlen, hcell⟩ := World.cells?_some h1
      obtain ⟨ys, k, hk, hxy, _, hxl, hfd⟩ := DataW.trod_struct Tryz.underlying55 h2
      match ys, hxl, cs', hlen with
      | [y0, y1, y2, y3], _, [v0, v1, v2, v3], _ =>
        have g0 := hfd 0 _ rfl
        have g1 := hfd 1 _ rfl
        have g2 := hfd 2 _ rfl
        have g3 := hfd 3 _ rfl
        simp [cI, cb, cT] at g0 g1 g2 g3
        obtain ⟨n0, e0, _, w0⟩ := DataW.trod_int Tryz.underlying2 g0
        obtain ⟨q, e1, _⟩ := DataW.trod_bool Tryz.underlying4 g1
        obtain ⟨us, _, _, _, _, hul, hus⟩ := DataW.trod_struct Tryz.underlying53 g2
        obtain ⟨zs, _, _, _, _, hzl, hzs⟩ := DataW.trod_struct Tryz.underlying53 g3
        match us, hul, zs, hzl with
        | [u0], _, [z0], _ =>
          have g4 := hus 0 _ rfl
          have g5 := hzs 0 _ rfl
          simp [cN] at g4 g5
          obtain ⟨a, n, c, e2, hn, hk2⟩ := open_nodes g4
          obtain ⟨a', n', c', e3, hn', hk3⟩ := open_nodes g5
          obtain ⟨hs, f1, f2⟩ := pick_nodes hn hk2
          obtain ⟨ht, f3, f4⟩ := pick_nodes hn' hk3
          have c0 := hcell 0 (by omega)
          have c1 := hcell 1 (by omega)
          have c2 := hcell 2 (by omega)
          have c3 := hcell 3 (by omega)
          rw [Deep.add_add] at c0 c1 c2 c3
          simp at e0 e1 c0 c1 c2 c3
          rw [e0] at c0
          rw [e1] at c1
          rw [e2] at c2
          rw [e3] at c3
          exact ⟨⟨n0, q, a, n, c, hs, a', n', c', ht⟩, ⟨c0, c1, c2, c3⟩, ⟨f1, f3⟩, bounds_i64 w0, f2, f4⟩
    haveI : Inhabited Lh := ⟨⟨0, false, none, 0, 0, [], none, 0, 0, []⟩⟩
    obtain ⟨q, hq⟩ := Deep.choose_lt each
    refine ⟨(List.range len1).map q, by simp, ⟨by simpa using hle, ?_⟩, ?_⟩
    · by_cases h0 : len1 = 0
      · left; simp [h0]
      · right
        obtain ⟨b, off, spot⟩ := x
        have hc0 := (hq 0 (by omega)).1.1
        have hspot : spot = none := by simpa [Addr.add] using World.cell?_spot hc0
        subst hspot
        refine ⟨b, off, rfl, fun i h hi => ?_⟩
        have hil : i < len1 := by have := (List.getElem?_eq_some_iff.1 hi).1; simpa using this
        simp [hil] at hi
        subst hi
        obtain ⟨⟨k0, k1, k2, k3⟩, k5, -⟩ := hq i hil
        rw [Addr.add_lit] at k0 k1 k2 k3
        exact ⟨⟨k0, k1, k2, k3⟩, k5⟩
    · intro h hh
      obtain ⟨i, hi, rfl⟩ := List.mem_map.1 hh
      exact (hq i (List.mem_range.1 hi)).2.2

theorem term_of {W : World} {a : Option Addr} {n : Nat} {hs : List Th} {Q : Int} (h0 : 0 ≤ Q) (h1 : Q ≤ 1048576) (hok : TmOk W a n hs) (hn : n ≤ 1048576 → ∀ y ∈ hs, NodeOf W y) (hz : 0 ≤ szTm n hs Q) : ∃ xs : List Tg, xs.length = n ∧ RdT W a xs := by
  have hnq : (n : Int) ≤ Q := by
    unfold szTm at hz
    split at hz
    · assumption
    · omega
  obtain ⟨f1, f2⟩ := hok.2 (by omega)
  rw [szTm, if_pos hnq] at hz
  obtain ⟨xs, g1, g2⟩ := RdT_of f2 (hn (by omega)) (L := Q - n) (by omega) (by omega) hz
  exact ⟨xs, by rw [g1, f1], g2⟩

/-- Where all is short enough the literals are there. -/
theorem RdL_of {W : World} {a : Option Addr} {hs : List Lh} {L : Int} (hr : RdLh W a hs) (hk : ∀ h ∈ hs, LitOf W h) (hL : 0 ≤ L) (hL2 : L ≤ 1048576) (hz : 0 ≤ szLl hs L) : ∃ xs : List Lg, xs.length = hs.length ∧ RdL W a xs := by
  have hlen := hr.1
  rcases hr.2 with h | ⟨b, o, rfl, hc⟩
  · subst h; exact ⟨[], rfl, by simp, .inl rfl⟩
  have each : ∀ i, i < hs.length → ∃ n : Lg, ∀ h, hs[i]? = some h → n.id = h.id ∧ n.eq = h.eq ∧ (n.sa = h.sa ∧ n.sc = h.sc ∧ n.ss.length = h.sn) ∧ (n.ta = h.ta ∧ n.tc = h.tc ∧ n.ts.length = h.tn) ∧ RdT W n.sa n.ss ∧ RdT W n.ta n.ts ∧ in64 n.id := by
    intro i hi
    have hm : hs[i] ∈ hs := List.getElem_mem hi
    obtain ⟨Q, q0, q1, q2⟩ := szLl_each hs L hL hz _ hm
    obtain ⟨-, ok1, ok2⟩ := hc i hs[i] (List.getElem?_eq_getElem hi)
    obtain ⟨i1, hb1, hb2⟩ := hk _ hm
    unfold szL at q2
    split at q2
    · rename_i hz1
      have r1 := szTm_range hs[i].sn hs[i].ss Q q0
      obtain ⟨ss, g1, g2⟩ := term_of q0 (by omega) ok1 hb1 hz1
      obtain ⟨ts, g3, g4⟩ := term_of hz1 (by omega) ok2 hb2 q2
      refine ⟨⟨hs[i].id, hs[i].eq, ss, hs[i].sa, hs[i].sc, ts, hs[i].ta, hs[i].tc⟩, fun h hh => ?_⟩
      rw [List.getElem?_eq_getElem hi] at hh
      cases hh
      exact ⟨rfl, rfl, ⟨rfl, rfl, g1⟩, ⟨rfl, rfl, g3⟩, g2, g4, i1⟩
    · omega
  haveI : Inhabited Lg := ⟨⟨0, false, [], none, 0, [], none, 0⟩⟩
  obtain ⟨q, hq⟩ := Deep.choose_lt each
  refine ⟨(List.range hs.length).map q, by simp, by simpa using hlen, .inr ⟨b, o, rfl, fun i n hi => ?_⟩⟩
  have hil : i < hs.length := by have := (List.getElem?_eq_some_iff.1 hi).1; simpa using this
  simp [hil] at hi
  subst hi
  have hg : hs[i]? = some hs[i] := List.getElem?_eq_getElem hil
  obtain ⟨e1, e2, ⟨e3, e4, e5⟩, ⟨e6, e7, e8⟩, e9, e10, e11⟩ := hq i hil _ hg
  obtain ⟨⟨f0, f1, f2, f3⟩, -⟩ := hc i _ hg
  exact ⟨⟨by rw [e1]; exact f0, by rw [e2]; exact f1, by rw [e3, e4, e5]; exact f2, by rw [e6, e7, e8]; exact f3⟩, e9, e10, e11⟩

theorem len_of_lc {ms xs : List Lg} {n : Nat} (h : ms.map Lg.ct = xs.map Lg.ct) (hn : xs.length = n) : ms.length = n := by
  rw [← hn]; simpa using congrArg List.length h

theorem sizes_lits (a b : Option Addr) (n c n2 c2 : Nat) (w : World) (hn : n ≤ 9223372036854775807) (hn2 : n2 ≤ 9223372036854775807)
    (hx : n ≤ 1048576 → ∃ ds : List Dc, ds.length = n ∧ RdD w a ds) (hy : n2 ≤ 1048576 → ∃ hs : List Lh, hs.length = n2 ∧ RdLh w b hs ∧ ∀ h ∈ hs, LitOf w h) :
    ∃ Z Z2 : Int, (∀ u, Below w.heap.size w u → Calls Tryz.prog 5 #[.slice a n c, .int .i64 1048576] u fun e w' => e = .returned (.int .i64 Z) ∧ Below u.heap.size u w') ∧
      (0 ≤ Z → ∀ u, Below w.heap.size w u → Calls Tryz.prog 6 #[.slice b n2 c2, .int .i64 Z] u fun e w' => e = .returned (.int .i64 Z2) ∧ Below u.heap.size u w') ∧
      (0 ≤ Z → 0 ≤ Z2 → ∃ (ds : List Dc) (xs : List Lg), ds.length = n ∧ xs.length = n2 ∧ RdD w a ds ∧ RdL w b xs) := by
  by_cases h : n ≤ 1048576
  · obtain ⟨ds, rfl, hr⟩ := hx h
    have hZ := szD_range ds (1048576 - ds.length) (by omega)
    have hSZ := fun u (hu : Below w.heap.size w u) => szDeclS_in a c ds 1048576 u (hr.later hu) (by omega) (by omega) (by omega)
    generalize szD ds (1048576 - ds.length) = Z at *
    by_cases hz : Z < 0
    · exact ⟨Z, 0, hSZ, fun h' => by omega, fun h' => by omega⟩
    have hz0 : 0 ≤ Z := by omega
    have hz1 : Z ≤ 1048576 := by omega
    by_cases h2 : (n2 : Int) ≤ Z
    · obtain ⟨hs, rfl, hh, hk⟩ := hy (by omega)
      have hZ2 := szLl_range hs (Z - hs.length) (by omega)
      refine ⟨Z, szLl hs (Z - hs.length), hSZ, fun _ u hu => szLiteralS_in b c2 hs Z u (hh.later hu) hz0 hz1 h2, fun _ hz2 => ?_⟩
      obtain ⟨xs, hxl, hxs⟩ := RdL_of hh hk (L := Z - hs.length) (by omega) (by omega) hz2
      exact ⟨ds, xs, rfl, hxl, hr, hxs⟩
    · exact ⟨Z, -1, hSZ, fun _ u hu => (szLiteralS_out b n2 c2 Z u hz0 hz1 hn2 h2).mono (fun e w' hh => ⟨hh.1, by rw [hh.2]; exact Below.refl _ _⟩), fun _ h' => by omega⟩
  · exact ⟨-1, 0, fun u hu => (szDeclS_out a n c 1048576 u (by omega) (by omega) hn (by omega)).mono (fun e w' hh => ⟨hh.1, by rw [hh.2]; exact Below.refl _ _⟩), fun h' => by omega, fun h' => by omega⟩

end Go.Proofs.YtheglnkndjheaaaGreatDoor
