/- How an argument that is a row of splits is opened. -/
import Derived.Test.YtddgldfjeklhbaaJO
import Derived.Test.YtddgldfjeklhbaaJX
namespace Go.Proofs.Ytddgldfjeklhbaa
set_option linter.unusedVariables false
set_option linter.unusedSimpArgs false
open Go.ChangeShapes Go.WideShapes Go.ChangeAt Go.RowKit Go.Joins

/-- What a split as it lies holds. -/
def SplitOf (W : World) (h : Ph) : Prop := (in64 h.id ∧ in64 h.st) ∧ (h.n ≤ 1048576 → ∀ y ∈ h.hs, BarOf W y)

set_option maxRecDepth 100000 in
theorem open_splits {H : Type} {enc : TypeId × Value → H} {W : World} {r : Reach} {b0 base : Nat} {v : Value} {d : DataW H} {p : List MemPlace}
    (hv : Value.okWide Try.prog W r b0 22 v) (h : DataW.Trod enc Try.prog W base (fun _ => true) true 22 v d p) :
    ∃ (a : Option Addr) (n c : Nat), v = .slice a n c ∧ n ≤ 9223372036854775807 ∧ (n ≤ 1048576 → ∃ hs : List Ph, hs.length = n ∧ RdPh W a hs ∧ ∀ h ∈ hs, SplitOf W h) := by
  obtain ⟨a1, len1, cap1, rfl⟩ := okWide_slice Try.underlying22 hv
  obtain ⟨fuel, hf⟩ := h
  have ce : Try.prog.cellsOf 46 = 3 := by kernel_rfl
  have cI : Try.prog.cellsOf 2 = 1 := by kernel_rfl
  have cW : Try.prog.cellsOf 34 = 1 := by kernel_rfl
  rcases Deep.open_slice Try.underlying22 hf with ⟨hcs, _⟩ | ⟨x, len, cap, m, n2, D, Pl, hcs, _, hl, hm, hz, _, hx⟩
  · simp [Value.cells] at hcs
    obtain ⟨rfl, rfl, rfl⟩ := hcs
    exact ⟨none, 0, 0, rfl, by omega, fun _ => ⟨[], rfl, ⟨by simp, .inl rfl⟩, by simp⟩⟩
  · simp [Value.cells] at hcs
    obtain ⟨rfl, rfl, rfl⟩ := hcs
    refine ⟨some x, _, _, rfl, by unfold maxLen at hm; omega, fun hle => ?_⟩
    have each : ∀ i, i < len1 → ∃ h : Ph, (W.cell? (x.add (i * 3)) = some (.int .i64 h.id) ∧ W.cell? (x.add (i * 3 + 1)) = some (.int .i64 h.st) ∧ W.cell? (x.add (i * 3 + 2)) = some (.slice h.a h.n h.c)) ∧ PhOk W h ∧ SplitOf W h := by
      intro i hi
      simp at hz
      obtain ⟨cs', h1, h2⟩ := hx i (by omega)
      rw [ce] at h1
      obtain ⟨_, hlen, hcell⟩ := World.cells?_some h1
      obtain ⟨ys, k, hk, hxy, _, hxl, hfd⟩ := DataW.trod_struct Try.underlying46 h2
      match ys, hxl, cs', hlen with
      | [y0, y1, y2], _, [v0, v1, v2], _ =>
        have g0 := hfd 0 _ rfl
        have g1 := hfd 1 _ rfl
        have g2 := hfd 2 _ rfl
        simp [cI, cW] at g0 g1 g2
        obtain ⟨n0, e0, _, w0⟩ := DataW.trod_int Try.underlying2 g0
        obtain ⟨n1, e1, _, w1⟩ := DataW.trod_int Try.underlying2 g1
        obtain ⟨a, n, c, e2, hn, hk4⟩ := open_bars g2
        have c0 := hcell 0 (by omega)
        have c1 := hcell 1 (by omega)
        have c2 := hcell 2 (by omega)
        rw [Deep.add_add] at c0 c1 c2
        simp at e0 e1 c0 c1 c2
        rw [e0] at c0
        rw [e1] at c1
        rw [e2] at c2
        by_cases hn2 : n ≤ 1048576
        · obtain ⟨hs, f1, f2, f3⟩ := hk4 hn2
          exact ⟨⟨n0, n1, a, n, c, hs⟩, ⟨c0, c1, c2⟩, ⟨hn, fun _ => ⟨f1, f2⟩⟩, ⟨bounds_i64 w0, bounds_i64 w1⟩, fun _ => f3⟩
        · exact ⟨⟨n0, n1, a, n, c, []⟩, ⟨c0, c1, c2⟩, ⟨hn, fun h => absurd h hn2⟩, ⟨bounds_i64 w0, bounds_i64 w1⟩, fun h => absurd h hn2⟩
    haveI : Inhabited Ph := ⟨⟨0, 0, none, 0, 0, []⟩⟩
    obtain ⟨q, hq⟩ := Deep.choose_lt each
    refine ⟨(List.range len1).map q, by simp, ⟨by simpa using hle, ?_⟩, ?_⟩
    · by_cases h0 : len1 = 0
      · left; simp [h0]
      · right
        obtain ⟨b, off, spot⟩ := x
        have hc0 := (hq 0 (by omega)).1.1
        have hspot : spot = none := by simpa [Addr.add] using World.cell?_spot hc0
        subst hspot
        refine ⟨b, off, rfl, fun i h hi => ?_⟩
        have hil : i < len1 := by have := (List.getElem?_eq_some_iff.1 hi).1; simpa using this
        simp [hil] at hi
        subst hi
        obtain ⟨⟨k0, k1, k2⟩, k5, -⟩ := hq i hil
        rw [Addr.add_lit] at k0 k1 k2
        exact ⟨⟨k0, k1, k2⟩, k5⟩
    · intro h hh
      obtain ⟨i, hi, rfl⟩ := List.mem_map.1 hh
      exact (hq i (List.mem_range.1 hi)).2.2

/-- Where all is short enough the splits are there. -/
theorem RdP_of {W : World} {a : Option Addr} {hs : List Ph} {L : Int} (hr : RdPh W a hs) (hk : ∀ h ∈ hs, SplitOf W h) (hL : 0 ≤ L) (hL2 : L ≤ 1048576) (hz : 0 ≤ szPl hs L) : ∃ xs : List Pg, xs.length = hs.length ∧ RdP W a xs := by
  have hlen := hr.1
  rcases hr.2 with h | ⟨b, o, rfl, hc⟩
  · subst h; exact ⟨[], rfl, by simp, .inl rfl⟩
  have each : ∀ i, i < hs.length → ∃ n : Pg, ∀ h, hs[i]? = some h → n.id = h.id ∧ n.st = h.st ∧ n.a = h.a ∧ n.c = h.c ∧ n.bs.length = h.n ∧ RdBr W n.a n.bs ∧ in64 n.id ∧ in64 n.st := by
    intro i hi
    have hm : hs[i] ∈ hs := List.getElem_mem hi
    obtain ⟨Q, q0, q1, q2⟩ := szPl_each hs L hL hz _ hm
    obtain ⟨-, -, hok⟩ := hc i hs[i] (List.getElem?_eq_getElem hi)
    obtain ⟨⟨i1, i2⟩, hbr⟩ := hk _ hm
    have hnq : (hs[i].n : Int) ≤ Q := by
      unfold szP at q2
      split at q2
      · assumption
      · omega
    obtain ⟨f1, f2⟩ := hok (by omega)
    rw [szP, if_pos hnq] at q2
    obtain ⟨bs, g1, g2⟩ := RdBr_of f2 (hbr (by omega)) (L := Q - hs[i].n) (by omega) (by omega) q2
    refine ⟨⟨hs[i].id, hs[i].st, bs, hs[i].a, hs[i].c⟩, fun h hh => ?_⟩
    rw [List.getElem?_eq_getElem hi] at hh
    cases hh
    exact ⟨rfl, rfl, rfl, rfl, by simp [g1, f1], g2, i1, i2⟩
  haveI : Inhabited Pg := ⟨⟨0, 0, [], none, 0⟩⟩
  obtain ⟨q, hq⟩ := Deep.choose_lt each
  refine ⟨(List.range hs.length).map q, by simp, by simpa using hlen, .inr ⟨b, o, rfl, fun i n hi => ?_⟩⟩
  have hil : i < hs.length := by have := (List.getElem?_eq_some_iff.1 hi).1; simpa using this
  simp [hil] at hi
  subst hi
  have hg : hs[i]? = some hs[i] := List.getElem?_eq_getElem hil
  obtain ⟨e1, e2, e3, e4, e5, e6, e7⟩ := hq i hil _ hg
  obtain ⟨⟨f0, f1, f2⟩, -⟩ := hc i _ hg
  exact ⟨⟨by rw [e1]; exact f0, by rw [e2]; exact f1, by rw [e3, e4, e5]; exact f2⟩, e6, e7⟩

end Go.Proofs.Ytddgldfjeklhbaa
