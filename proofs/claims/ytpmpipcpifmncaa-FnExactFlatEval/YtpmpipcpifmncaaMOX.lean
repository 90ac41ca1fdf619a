/- How an argument that is a row of segments is opened. -/
import Derived.Test.YtpmpipcpifmncaaKP
import Derived.Test.YtpmpipcpifmncaaMB
namespace Go.Proofs.Ytpmpipcpifmncaa
set_option linter.unusedVariables false
set_option linter.unusedSimpArgs false
open Go.ChangeShapes Go.WideShapes Go.ChangeAt Go.RowKit Go.Joins

/-- The bits of a segment as it lies. -/
def SegOf (W : World) (h : Sh) : Prop := (in64 h.v ∧ in64 h.lo ∧ in64 h.wd ∧ in64 h.bw) ∧ (h.n ≤ 1048576 → ∃ ws : List Nat, ws.length = h.n ∧ Rd W h.a ws)

set_option maxRecDepth 100000 in
theorem open_segs {H : Type} {enc : TypeId × Value → H} {W : World} {r : Reach} {b0 base : Nat} {v : Value} {d : DataW H} {p : List MemPlace}
    (hv : Value.okWide Try.prog W r b0 24 v) (h : DataW.Trod enc Try.prog W base (fun _ => true) true 24 v d p) :
    ∃ (a : Option Addr) (n c : Nat), v = .slice a n c ∧ n ≤ 9223372036854775807 ∧ (n ≤ 1048576 → ∃ hs : List Sh, hs.length = n ∧ RdSh W a hs ∧ ∀ h ∈ hs, SegOf W h) := by
  obtain ⟨a1, len1, cap1, rfl⟩ := okWide_slice Try.underlying24 hv
  obtain ⟨fuel, hf⟩ := h
  have ce : Try.prog.cellsOf 67 = 5 := by kernel_rfl
  have cB : Try.prog.cellsOf 64 = 2 := by kernel_rfl
  have cI : Try.prog.cellsOf 2 = 1 := by kernel_rfl
  have cW : Try.prog.cellsOf 28 = 1 := by kernel_rfl
  rcases Deep.open_slice Try.underlying24 hf with ⟨hcs, _⟩ | ⟨x, len, cap, m, n2, D, Pl, hcs, _, hl, hm, hz, _, hx⟩
  · simp [Value.cells] at hcs
    obtain ⟨rfl, rfl, rfl⟩ := hcs
    exact ⟨none, 0, 0, rfl, by omega, fun _ => ⟨[], rfl, ⟨by simp, .inl rfl⟩, by simp⟩⟩
  · simp [Value.cells] at hcs
    obtain ⟨rfl, rfl, rfl⟩ := hcs
    refine ⟨some x, _, _, rfl, by unfold maxLen at hm; omega, fun hle => ?_⟩
    have each : ∀ i, i < len1 → ∃ h : Sh, (W.cell? (x.add (i * 5)) = some (.int .i64 h.v) ∧ W.cell? (x.add (i * 5 + 1)) = some (.int .i64 h.lo) ∧ W.cell? (x.add (i * 5 + 2)) = some (.int .i64 h.wd) ∧ W.cell? (x.add (i * 5 + 3)) = some (.int .i64 h.bw) ∧ W.cell? (x.add (i * 5 + 4)) = some (.slice h.a h.n h.c)) ∧ h.n ≤ 9223372036854775807 ∧ SegOf W h := by
      intro i hi
      simp at hz
      obtain ⟨cs', h1, h2⟩ := hx i (by omega)
      rw [ce] at h1
      obtain ⟨_, hlen, hcell⟩ := World.cells?_some h1
      obtain ⟨ys, k, hk, hxy, _, hxl, hfd⟩ := DataW.trod_struct Try.underlying67 h2
      match ys, hxl, cs', hlen with
      | [y0, y1, y2, y3], _, [v0, v1, v2, v3, v4], _ =>
        have g0 := hfd 0 _ rfl
        have g1 := hfd 1 _ rfl
        have g2 := hfd 2 _ rfl
        have g3 := hfd 3 _ rfl
        simp [cB, cI] at g0 g1 g2 g3
        obtain ⟨n0, e0, _, w0⟩ := DataW.trod_int Try.underlying2 g0
        obtain ⟨n1, e1, _, w1⟩ := DataW.trod_int Try.underlying2 g1
        obtain ⟨n2', e2, _, w2⟩ := DataW.trod_int Try.underlying2 g2
        obtain ⟨zs, k', hk', hxy', _, hxl', hfd'⟩ := DataW.trod_struct Try.underlying64 g3
        match zs, hxl' with
        | [z0, z1], _ =>
          have g4 := hfd' 0 _ rfl
          have g5 := hfd' 1 _ rfl
          simp [cI, cW] at g4 g5
          obtain ⟨n3, e3, _, w3⟩ := DataW.trod_int Try.underlying2 g4
          obtain ⟨a, n, c, e4, hn, hk4⟩ := open_words g5
          have c0 := hcell 0 (by omega)
          have c1 := hcell 1 (by omega)
          have c2 := hcell 2 (by omega)
          have c3 := hcell 3 (by omega)
          have c4 := hcell 4 (by omega)
          rw [Deep.add_add] at c0 c1 c2 c3 c4
          simp at e0 e1 e2 e3 c0 c1 c2 c3 c4
          rw [e0] at c0
          rw [e1] at c1
          rw [e2] at c2
          rw [e3] at c3
          rw [e4] at c4
          exact ⟨⟨n0, n1, n2', n3, a, n, c⟩, ⟨c0, c1, c2, c3, c4⟩, hn, ⟨bounds_i64 w0, bounds_i64 w1, bounds_i64 w2, bounds_i64 w3⟩, hk4⟩
    haveI : Inhabited Sh := ⟨⟨0, 0, 0, 0, none, 0, 0⟩⟩
    obtain ⟨q, hq⟩ := Deep.choose_lt each
    refine ⟨(List.range len1).map q, by simp, ⟨by simpa using hle, ?_⟩, ?_⟩
    · by_cases h0 : len1 = 0
      · left; simp [h0]
      · right
        obtain ⟨b, off, spot⟩ := x
        have hc0 := (hq 0 (by omega)).1.1
        have hspot : spot = none := by simpa [Addr.add] using World.cell?_spot hc0
        subst hspot
        refine ⟨b, off, rfl, fun i h hi => ?_⟩
        have hil : i < len1 := by have := (List.getElem?_eq_some_iff.1 hi).1; simpa using this
        simp [hil] at hi
        subst hi
        obtain ⟨⟨k0, k1, k2, k3, k4⟩, k5, -⟩ := hq i hil
        rw [Addr.add_lit] at k0 k1 k2 k3 k4
        exact ⟨⟨k0, k1, k2, k3, k4⟩, k5⟩
    · intro h hh
      obtain ⟨i, hi, rfl⟩ := List.mem_map.1 hh
      exact (hq i (List.mem_range.1 hi)).2.2

/-- Where all is short enough the segments are there. -/
theorem RdS_of {W : World} {a : Option Addr} {hs : List Sh} {L : Int} (hr : RdSh W a hs) (hk : ∀ h ∈ hs, SegOf W h) (hL : 0 ≤ L) (hL2 : L ≤ 1048576) (hz : 0 ≤ szSl hs L) : ∃ xs : List Sg, xs.length = hs.length ∧ RdS W a xs := by
  have hlen := hr.1
  have hs1 : ∀ h ∈ hs, (h.n : Int) ≤ 1048576 := by
    rcases szSl_range hs L hL with e | ⟨-, -, e⟩
    · omega
    · intro h hh
      have := e h hh
      omega
  have each : ∀ i, i < hs.length → ∃ n : Sg, ∀ h, hs[i]? = some h → n.hd = h ∧ Rd W n.a n.ct.ws ∧ in64 n.ct.v ∧ in64 n.ct.lo ∧ in64 n.ct.wd ∧ in64 n.ct.bw := by
    intro i hi
    have hm : hs[i] ∈ hs := List.getElem_mem hi
    have h1 := hs1 _ hm
    obtain ⟨e0, hk0⟩ := hk _ hm
    obtain ⟨ws, e1, e2⟩ := hk0 (by omega)
    refine ⟨⟨⟨hs[i].v, hs[i].lo, hs[i].wd, hs[i].bw, ws⟩, hs[i].a, hs[i].c⟩, fun h hh => ?_⟩
    rw [List.getElem?_eq_getElem hi] at hh
    cases hh
    exact ⟨by simp [Sg.hd, e1], e2, e0⟩
  haveI : Inhabited Sg := ⟨⟨⟨0, 0, 0, 0, []⟩, none, 0⟩⟩
  obtain ⟨q, hq⟩ := Deep.choose_lt each
  refine ⟨(List.range hs.length).map q, by simp, by simpa using hlen, ?_⟩
  rcases hr.2 with h | ⟨b, o, rfl, hc⟩
  · left; simp [h]
  · right
    refine ⟨b, o, rfl, fun i n hi => ?_⟩
    have hil : i < hs.length := by have := (List.getElem?_eq_some_iff.1 hi).1; simpa using this
    simp [hil] at hi
    subst hi
    have hg : hs[i]? = some hs[i] := List.getElem?_eq_getElem hil
    obtain ⟨e1, e2, e3⟩ := hq i hil _ hg
    obtain ⟨f0, -⟩ := hc i _ hg
    exact ⟨by rw [e1]; exact f0, e2, e3⟩

end Go.Proofs.Ytpmpipcpifmncaa
