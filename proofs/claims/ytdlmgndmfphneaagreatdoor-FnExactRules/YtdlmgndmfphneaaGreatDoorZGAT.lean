/- Several texts in one. -/
import Derived.Test.YtdlmgndmfphneaaGreatDoorRows
import Derived.Test.YtdlmgndmfphneaaGreatDoorKOO
import Derived.Test.YtdlmgndmfphneaaGreatDoorZGAC
import Derived.ProofKit
import Derived.OpenShut
import Derived.ShutString
import Derived.ChangeOld
import Derived.Below
import Derived.Lib.SmallJoins
import Derived.Deep.SlicePairs
import Derived.Test.YtdlmgndmfphneaaGreatDoorZGAL

/- How an argument that is a row of declared variables is opened. -/
namespace Go.Proofs.YtdlmgndmfphneaaGreatDoor
set_option linter.unusedVariables false
set_option linter.unusedSimpArgs false
open Go.ChangeShapes Go.WideShapes Go.ChangeAt Go.RowKit Go.Joins


set_option maxRecDepth 100000 in
theorem open_decls {H : Type} {enc : TypeId × Value → H} {W : World} {r : Reach} {b0 base : Nat} {v : Value} {d : DataW H} {p : List MemPlace}
    (hv : Value.okWide Tryz.prog W r b0 22 v) (h : DataW.Trod enc Tryz.prog W base (fun _ => true) true 22 v d p) :
    ∃ (a : Option Addr) (n c : Nat), v = .slice a n c ∧ n ≤ 9223372036854775807 ∧ (n ≤ 1048576 → ∃ ds : List Dc, ds.length = n ∧ RdD W a ds) := by
  obtain ⟨a1, len1, cap1, rfl⟩ := okWide_slice Tryz.underlying22 hv
  obtain ⟨fuel, hf⟩ := h
  rcases Deep.open_slice_pairs Tryz.underlying22 Tryz.underlying48 (by kernel_rfl) rfl rfl (by kernel_rfl) (by kernel_rfl) hf with ⟨hcs, _⟩ | ⟨x, len, cap, m2, n2, V0, V1, D0, D1, P0, P1, hcs, _, hl, hm, hz, _, hcell⟩
  · simp [Value.cells] at hcs
    obtain ⟨rfl, rfl, rfl⟩ := hcs
    exact ⟨none, 0, 0, rfl, by omega, fun _ => ⟨[], rfl, by simp, by simp, .inl rfl⟩⟩
  · simp [Value.cells] at hcs
    obtain ⟨rfl, rfl, rfl⟩ := hcs
    refine ⟨some x, _, _, rfl, by unfold maxLen at hm; omega, fun hle => ?_⟩
    have each : ∀ i, i < len1 → ∃ d : Dc, W.cell? (x.add (i * 2)) = some (.string d.1) ∧ W.cell? (x.add (i * 2 + 1)) = some (.int .i64 d.2) ∧ in64 d.2 ∧ d.1.size ≤ 9223372036854775807 := by
      intro i hi
      simp at hz
      obtain ⟨h0, h1, h2, h3⟩ := hcell i (by omega)
      obtain ⟨s, e0, _, hs⟩ := DataW.trod_string Tryz.underlying9 h2
      obtain ⟨y, e1, _, hy⟩ := DataW.trod_int Tryz.underlying2 h3
      simp at e0 e1
      rw [e0] at h0
      rw [e1] at h1
      exact ⟨(s, y), h0, h1, bounds_i64 hy, by unfold maxLen at hs; omega⟩
    haveI : Inhabited Dc := ⟨(.empty, 0)⟩
    obtain ⟨q, hq⟩ := Deep.choose_lt each
    refine ⟨(List.range len1).map q, by simp, by simpa using hle, ?_, ?_⟩
    · intro d hd
      obtain ⟨i, hi, rfl⟩ := List.mem_map.1 hd
      exact (hq i (List.mem_range.1 hi)).2.2
    · by_cases h0 : len1 = 0
      · left; simp [h0]
      · right
        obtain ⟨b, off, spot⟩ := x
        have hc0 := (hq 0 (by omega)).1
        have hspot : spot = none := by simpa [Addr.add] using World.cell?_spot hc0
        subst hspot
        refine ⟨b, off, rfl, fun i h hi => ?_⟩
        have hil : i < len1 := by have := (List.getElem?_eq_some_iff.1 hi).1; simpa using this
        simp [hil] at hi
        subst hi
        obtain ⟨k0, k1, -⟩ := hq i hil
        rw [Addr.add_lit] at k0 k1
        exact ⟨k0, k1⟩

end Go.Proofs.YtdlmgndmfphneaaGreatDoor

/- How an argument that is a term is opened; how long the arguments are. -/
namespace Go.Proofs.YtdlmgndmfphneaaGreatDoor
set_option linter.unusedVariables false
set_option linter.unusedSimpArgs false
open Go.ChangeShapes Go.WideShapes Go.ChangeAt Go.RowKit Go.Joins

set_option maxRecDepth 100000 in
theorem open_ks {H : Type} {enc : TypeId × Value → H} {W : World} {base fuel : Nat} {v : Value} {x : DataW H × List MemPlace}
    (h : DataW.trod enc Tryz.prog W base (fun _ => true) true fuel 28 [v] = some x) :
    ∃ (a : Option Addr) (n c : Nat), v = .slice a n c ∧ n ≤ 9223372036854775807 ∧ (n ≤ 1048576 → ∃ ks : List Int, ks.length = n ∧ RdI W a ks) := by
  rcases open_ints Tryz.underlying28 Tryz.underlying2 (by kernel_rfl) h with ⟨hcs, _⟩ | ⟨x, len, cap, zs, hcs, _, hl, hm, hz, _, hcell, hwz⟩
  · simp at hcs
    subst hcs
    exact ⟨none, 0, 0, rfl, by omega, fun _ => ⟨[], rfl, by simp, by simp, .inl rfl⟩⟩
  · simp at hcs
    subst hcs
    refine ⟨some x, len, cap, rfl, by unfold maxLen at hm; omega, fun hle => ⟨zs.take len, ?_, ?_, ?_, ?_⟩⟩
    · simp at hz ⊢; omega
    · simp at hz ⊢; omega
    · intro y hy
      exact bounds_i64 (hwz y (List.mem_of_mem_take hy))
    · by_cases h0 : len = 0
      · left; simp [h0]
      · right
        simp at hz
        obtain ⟨b, off, spot⟩ := x
        have hc0 := hcell 0 (by omega)
        have hspot : spot = none := by simpa [Addr.add] using World.cell?_spot hc0
        subst hspot
        refine ⟨b, off, rfl, fun i hi => ?_⟩
        have hi' : i < len := by simp at hi; omega
        have hci := hcell i (by omega)
        have e : (zs.take len).getD i 0 = zs.getD i 0 := by
          simp [List.getD, hi']
        rw [e]
        rw [Addr.add_lit] at hci
        exact hci

set_option maxRecDepth 100000 in
theorem open_words {H : Type} {enc : TypeId × Value → H} {W : World} {base fuel : Nat} {v : Value} {x : DataW H × List MemPlace}
    (h : DataW.trod enc Tryz.prog W base (fun _ => true) true fuel 59 [v] = some x) :
    ∃ (a : Option Addr) (n c : Nat), v = .slice a n c ∧ n ≤ 9223372036854775807 ∧ (n ≤ 1048576 → ∃ xs : List Nat, xs.length = n ∧ Rd W a xs) := by
  rcases open_ints Tryz.underlying59 Tryz.underlying136 (by kernel_rfl) h with ⟨hcs, _⟩ | ⟨x, len, cap, zs, hcs, _, hl, hm, hz, _, hcell, hwz⟩
  · simp at hcs
    subst hcs
    exact ⟨none, 0, 0, rfl, by omega, fun _ => ⟨[], rfl, by simp, by simp, .inl rfl⟩⟩
  · simp at hcs
    subst hcs
    refine ⟨some x, len, cap, rfl, by unfold maxLen at hm; omega, fun hle => ⟨(zs.take len).map Int.toNat, ?_, ?_, ?_, ?_⟩⟩
    · simp at hz ⊢; omega
    · simp at hz ⊢; omega
    · intro y hy
      obtain ⟨z, hz1, rfl⟩ := List.mem_map.1 hy
      have := bounds_u64 (hwz z (List.mem_of_mem_take hz1))
      omega
    · by_cases h0 : len = 0
      · left; simp [h0]
      · right
        simp at hz
        obtain ⟨b, off, spot⟩ := x
        have hc0 := hcell 0 (by omega)
        have hspot : spot = none := by simpa [Addr.add] using World.cell?_spot hc0
        subst hspot
        refine ⟨b, off, rfl, fun i hi => ?_⟩
        have hi' : i < len := by simp at hi; omega
        have hci := hcell i (by omega)
        have hw := bounds_u64 (hwz (zs.getD i 0) (by simp [List.getD, show i < zs.length by omega]))
        have e : ((((zs.take len).map Int.toNat).getD i 0 : Nat) : Int) = zs.getD i 0 := by
          simp [List.getD, hi', show i < zs.length by omega] at hw ⊢
          omega
        rw [e]
        rw [Addr.add_lit] at hci
        exact hci

/-- A call's own box of one cell still stands. -/
def Bq (w : World) (v : Value) (t : TypeId) (wk : World) : Prop := Below (w.heap.size + 1) (w.alloc (Obj.cells #[v] t)) wk
theorem Bq.start (w : World) (v : Value) (t : TypeId) : Bq w v t (w.alloc (Obj.cells #[v] t)) := Below.refl _ _
theorem Bq.size {w wk : World} {v : Value} {t : TypeId} (h : Bq w v t wk) : w.heap.size + 1 ≤ wk.heap.size := by have := Below.size h; simpa using this
theorem Bq.next {w wk w1 : World} {v : Value} {t : TypeId} (h : Bq w v t wk) (hb : Below wk.heap.size wk w1) : Bq w v t w1 := Below.trans h (hb.mono h.size)
theorem Bq.below {w wk : World} {v : Value} {t : TypeId} (h : Bq w v t wk) : Below w.heap.size w wk := Below.trans (Below.alloc (Below.refl _ _) (Nat.le_refl _) _) (Below.mono h (by omega))
theorem Bq.cell {w wk : World} {v : Value} {t : TypeId} (h : Bq w v t wk) : wk.cell? ⟨w.heap.size, 0, none⟩ = some v := by
  rw [Below.cell h (by simp)]; simp

/-- The rows of a node as it lies. -/
def NodeOf (W : World) (h : Th) : Prop := (in64 h.op ∧ in64 h.vr ∧ in64 h.a ∧ in64 h.b ∧ in64 h.bw) ∧ (h.wn ≤ 1048576 → ∃ ws : List Nat, ws.length = h.wn ∧ Rd W h.wa ws) ∧ (h.kn ≤ 1048576 → ∃ ks : List Int, ks.length = h.kn ∧ RdI W h.ka ks)

set_option maxRecDepth 100000 in
theorem open_term {H : Type} {enc : TypeId × Value → H} {W : World} {r : Reach} {b0 base : Nat} {v : Value} {d : DataW H} {p : List MemPlace}
    (hv : Value.okWide Tryz.prog W r b0 25 v) (h : DataW.Trod enc Tryz.prog W base (fun _ => true) true 25 v d p) :
    ∃ (a : Option Addr) (n c : Nat), v = .agg #[.slice a n c] ∧ n ≤ 9223372036854775807 ∧ (n ≤ 1048576 → ∃ hs : List Th, hs.length = n ∧ RdTh W a hs ∧ ∀ h ∈ hs, NodeOf W h) := by
  obtain ⟨cs, rfl, hsz⟩ := okWide_struct Tryz.underlying25 hv
  have hC : Tryz.prog.cellsOf 25 = 1 := by kernel_rfl
  obtain ⟨fuel, hf⟩ := h
  obtain ⟨xs, m, _, _, _, hxl, hx0⟩ := DataW.trod_struct Tryz.underlying25 hf
  have hS : Tryz.prog.cellsOf 23 = 1 := by kernel_rfl
  have ce : Tryz.prog.cellsOf 88 = 7 := by kernel_rfl
  have cB : Tryz.prog.cellsOf 86 = 2 := by kernel_rfl
  have cI : Tryz.prog.cellsOf 2 = 1 := by kernel_rfl
  have cW : Tryz.prog.cellsOf 59 = 1 := by kernel_rfl
  have cK : Tryz.prog.cellsOf 28 = 1 := by kernel_rfl
  obtain ⟨l⟩ := cs
  match l, hsz.trans hC, xs, hxl with
  | [c0], _, [y0], _ =>
    have g0 := hx0 0 _ rfl
    simp [Value.cells, hS] at g0
    rcases Deep.open_slice Tryz.underlying23 g0 with ⟨hcs, _⟩ | ⟨x, len, cap, m, n2, D, Pl, hcs, _, hl, hm, hz, _, hx⟩
    · simp at hcs
      subst hcs
      exact ⟨none, 0, 0, rfl, by omega, fun _ => ⟨[], rfl, ⟨by simp, .inl rfl⟩, by simp⟩⟩
    · simp at hcs
      subst hcs
      refine ⟨some x, len, cap, rfl, by unfold maxLen at hm; omega, fun hle => ?_⟩
      have each : ∀ i, i < len → ∃ h : Th, (W.cell? (x.add (i * 7)) = some (.int .i64 h.op) ∧ W.cell? (x.add (i * 7 + 1)) = some (.int .i64 h.vr) ∧ W.cell? (x.add (i * 7 + 2)) = some (.int .i64 h.a) ∧ W.cell? (x.add (i * 7 + 3)) = some (.int .i64 h.b) ∧ W.cell? (x.add (i * 7 + 4)) = some (.int .i64 h.bw) ∧ W.cell? (x.add (i * 7 + 5)) = some (.slice h.wa h.wn h.wc) ∧ W.cell? (x.add (i * 7 + 6)) = some (.slice h.ka h.kn h.kc)) ∧ (h.wn ≤ 9223372036854775807 ∧ h.kn ≤ 9223372036854775807) ∧ NodeOf W h := by
        intro i hi
        simp at hz
        obtain ⟨cs', h1, h2⟩ := hx i (by omega)
        rw [ce] at h1
        obtain ⟨_, hlen, hcell⟩ := World.cells?_some h1
        obtain ⟨ys, k, hk, hxy, _, hxl, hfd⟩ := DataW.trod_struct Tryz.underlying88 h2
        match ys, hxl, cs', hlen with
        | [y0, y1, y2, y3, y4, y5], _, [v0, v1, v2, v3, v4, v5, v6], _ =>
          have g0 := hfd 0 _ rfl
          have g1 := hfd 1 _ rfl
          have g2 := hfd 2 _ rfl
          have g3 := hfd 3 _ rfl
          have g4 := hfd 4 _ rfl
          have g5 := hfd 5 _ rfl
          simp [cB, cI, cK] at g0 g1 g2 g3 g4 g5
          obtain ⟨n0, e0, _, w0⟩ := DataW.trod_int Tryz.underlying2 g0
          obtain ⟨n1, e1, _, w1⟩ := DataW.trod_int Tryz.underlying2 g1
          obtain ⟨n2', e2, _, w2⟩ := DataW.trod_int Tryz.underlying2 g2
          obtain ⟨n3, e3, _, w3⟩ := DataW.trod_int Tryz.underlying2 g3
          obtain ⟨zs, k', hk', hxy', _, hxl', hfd'⟩ := DataW.trod_struct Tryz.underlying86 g4
          obtain ⟨ak, nk, ck, e6, hnk, hkk⟩ := open_ks g5
          match zs, hxl' with
          | [z0, z1], _ =>
            have g6 := hfd' 0 _ rfl
            have g7 := hfd' 1 _ rfl
            simp [cI, cW] at g6 g7
            obtain ⟨n4, e4, _, w4⟩ := DataW.trod_int Tryz.underlying2 g6
            obtain ⟨a, n, c, e5, hn, hk5⟩ := open_words g7
            have c0 := hcell 0 (by omega)
            have c1 := hcell 1 (by omega)
            have c2 := hcell 2 (by omega)
            have c3 := hcell 3 (by omega)
            have c4 := hcell 4 (by omega)
            have c5 := hcell 5 (by omega)
            have c6 := hcell 6 (by omega)
            rw [Deep.add_add] at c0 c1 c2 c3 c4 c5 c6
            simp at e0 e1 e2 e3 e4 c0 c1 c2 c3 c4 c5 c6
            rw [e0] at c0
            rw [e1] at c1
            rw [e2] at c2
            rw [e3] at c3
            rw [e4] at c4
            rw [e5] at c5
            rw [e6] at c6
            exact ⟨⟨n0, n1, n2', n3, n4, a, n, c, ak, nk, ck⟩, ⟨c0, c1, c2, c3, c4, c5, c6⟩, ⟨hn, hnk⟩, ⟨bounds_i64 w0, bounds_i64 w1, bounds_i64 w2, bounds_i64 w3, bounds_i64 w4⟩, hk5, hkk⟩
      haveI : Inhabited Th := ⟨⟨0, 0, 0, 0, 0, none, 0, 0, none, 0, 0⟩⟩
      obtain ⟨q, hq⟩ := Deep.choose_lt each
      refine ⟨(List.range len).map q, by simp, ⟨by simpa using hle, ?_⟩, ?_⟩
      · by_cases h0 : len = 0
        · left; simp [h0]
        · right
          obtain ⟨b, off, spot⟩ := x
          have hc0 := (hq 0 (by omega)).1.1
          have hspot : spot = none := by simpa [Addr.add] using World.cell?_spot hc0
          subst hspot
          refine ⟨b, off, rfl, fun i h hi => ?_⟩
          have hil : i < len := by have := (List.getElem?_eq_some_iff.1 hi).1; simpa using this
          simp [hil] at hi
          subst hi
          obtain ⟨⟨k0, k1, k2, k3, k4, k5, k6⟩, k7, -⟩ := hq i hil
          rw [Addr.add_lit] at k0 k1 k2 k3 k4 k5 k6
          exact ⟨⟨k0, k1, k2, k3, k4, k5, k6⟩, k7⟩
      · intro h hh
        obtain ⟨i, hi, rfl⟩ := List.mem_map.1 hh
        exact (hq i (List.mem_range.1 hi)).2.2

/-- Where all is short enough the nodes are there. -/
theorem RdT_of {W : World} {a : Option Addr} {hs : List Th} {L : Int} (hr : RdTh W a hs) (hk : ∀ h ∈ hs, NodeOf W h) (hL : 0 ≤ L) (hL2 : L ≤ 1048576) (hz : 0 ≤ szTl hs L) : ∃ xs : List Tg, xs.length = hs.length ∧ RdT W a xs := by
  have hlen := hr.1
  have hs1 : ∀ h ∈ hs, (h.wn : Int) ≤ 1048576 ∧ (h.kn : Int) ≤ 1048576 := by
    rcases szTl_range hs L hL with e | ⟨-, -, e⟩
    · omega
    · intro h hh
      have := e h hh
      omega
  have each : ∀ i, i < hs.length → ∃ n : Tg, ∀ h, hs[i]? = some h → n.hd = h ∧ Rd W n.wa n.ct.ws ∧ RdI W n.ka n.ct.ks ∧ in64 n.ct.op ∧ in64 n.ct.vr ∧ in64 n.ct.a ∧ in64 n.ct.b ∧ in64 n.ct.bw := by
    intro i hi
    have hm : hs[i] ∈ hs := List.getElem_mem hi
    obtain ⟨h1, h2⟩ := hs1 _ hm
    obtain ⟨e0, hk0, hk1⟩ := hk _ hm
    obtain ⟨ws, e1, e2⟩ := hk0 (by omega)
    obtain ⟨ks, e3, e4⟩ := hk1 (by omega)
    refine ⟨⟨⟨hs[i].op, hs[i].vr, hs[i].a, hs[i].b, hs[i].bw, ws, ks⟩, hs[i].wa, hs[i].wc, hs[i].ka, hs[i].kc⟩, fun h hh => ?_⟩
    rw [List.getElem?_eq_getElem hi] at hh
    cases hh
    exact ⟨by simp [Tg.hd, e1, e3], e2, e4, e0⟩
  haveI : Inhabited Tg := ⟨⟨⟨0, 0, 0, 0, 0, [], []⟩, none, 0, none, 0⟩⟩
  obtain ⟨q, hq⟩ := Deep.choose_lt each
  refine ⟨(List.range hs.length).map q, by simp, by simpa using hlen, ?_⟩
  rcases hr.2 with h | ⟨b, o, rfl, hc⟩
  · left; simp [h]
  · right
    refine ⟨b, o, rfl, fun i n hi => ?_⟩
    have hil : i < hs.length := by have := (List.getElem?_eq_some_iff.1 hi).1; simpa using this
    simp [hil] at hi
    subst hi
    have hg : hs[i]? = some hs[i] := List.getElem?_eq_getElem hil
    obtain ⟨e1, e2⟩ := hq i hil _ hg
    obtain ⟨f0, -⟩ := hc i _ hg
    exact ⟨by rw [e1]; exact f0, e2⟩

theorem len_of_tc {ms xs : List Tg} {n : Nat} (h : ms.map Tg.ct = xs.map Tg.ct) (hn : xs.length = n) : ms.length = n := by
  rw [← hn]; simpa using congrArg List.length h

theorem sizes_term (a b : Option Addr) (n c n2 c2 : Nat) (w : World) (hn : n ≤ 9223372036854775807) (hn2 : n2 ≤ 9223372036854775807)
    (hx : n ≤ 1048576 → ∃ ds : List Dc, ds.length = n ∧ RdD w a ds) (hy : n2 ≤ 1048576 → ∃ hs : List Th, hs.length = n2 ∧ RdTh w b hs ∧ ∀ h ∈ hs, NodeOf w h) :
    ∃ Z Z2 : Int, (∀ u, Below w.heap.size w u → Calls Tryz.prog 5 #[.slice a n c, .int .i64 1048576] u fun e w' => e = .returned (.int .i64 Z) ∧ Below u.heap.size u w') ∧
      (0 ≤ Z → ∀ u, Below w.heap.size w u → Calls Tryz.prog 6 #[.agg #[.slice b n2 c2], .int .i64 Z] u fun e w' => e = .returned (.int .i64 Z2) ∧ Below u.heap.size u w') ∧
      (0 ≤ Z → 0 ≤ Z2 → ∃ (ds : List Dc) (xs : List Tg), ds.length = n ∧ xs.length = n2 ∧ RdD w a ds ∧ RdT w b xs) := by
  by_cases h : n ≤ 1048576
  · obtain ⟨ds, rfl, hr⟩ := hx h
    have hZ := szD_range ds (1048576 - ds.length) (by omega)
    have hSZ := fun u (hu : Below w.heap.size w u) => szDeclS_in a c ds 1048576 u (hr.later hu) (by omega) (by omega) (by omega)
    generalize szD ds (1048576 - ds.length) = Z at *
    by_cases hz : Z < 0
    · exact ⟨Z, 0, hSZ, fun h' => by omega, fun h' => by omega⟩
    have hz0 : 0 ≤ Z := by omega
    have hz1 : Z ≤ 1048576 := by omega
    by_cases h2 : (n2 : Int) ≤ Z
    · obtain ⟨hs, rfl, hh, hk⟩ := hy (by omega)
      have hZ2 := szTl_range hs (Z - hs.length) (by omega)
      refine ⟨Z, szTl hs (Z - hs.length), hSZ, fun _ u hu => szTerm_in b c2 hs Z u (hh.later hu) hz0 hz1 h2 _ rfl, fun _ hz2 => ?_⟩
      obtain ⟨xs, hxl, hxs⟩ := RdT_of hh hk (L := Z - hs.length) (by omega) (by omega) hz2
      exact ⟨ds, xs, rfl, hxl, hr, hxs⟩
    · exact ⟨Z, -1, hSZ, fun _ u hu => szTerm_out b n2 c2 Z u hz0 hz1 hn2 h2, fun _ h' => by omega⟩
  · exact ⟨-1, 0, fun u hu => (szDeclS_out a n c 1048576 u (by omega) (by omega) hn (by omega)).mono (fun e w' hh => ⟨hh.1, by rw [hh.2]; exact Below.refl _ _⟩), fun h' => by omega, fun h' => by omega⟩

end Go.Proofs.YtdlmgndmfphneaaGreatDoor
