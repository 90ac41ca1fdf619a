/- Several texts in one. -/
import Derived.Test.YtjnbapddfhpcnaaRows
import Derived.Test.YtjnbapddfhpcnaaKOO
import Derived.Test.YtjnbapddfhpcnaaZGAC
import Derived.ProofKit
import Derived.OpenShut
import Derived.ShutString
import Derived.ChangeOld
import Derived.Below
import Derived.Lib.SmallJoins
import Derived.Deep.SlicePairs

/- How an argument that is a row of declared variables is opened. -/
namespace Go.Proofs.Ytjnbapddfhpcnaa
set_option linter.unusedVariables false
set_option linter.unusedSimpArgs false
open Go.ChangeShapes Go.WideShapes Go.ChangeAt Go.RowKit Go.Joins


set_option maxRecDepth 100000 in
theorem open_decls {H : Type} {enc : TypeId × Value → H} {W : World} {r : Reach} {b0 base : Nat} {v : Value} {d : DataW H} {p : List MemPlace}
    (hv : Value.okWide Try.prog W r b0 22 v) (h : DataW.Trod enc Try.prog W base (fun _ => true) true 22 v d p) :
    ∃ (a : Option Addr) (n c : Nat), v = .slice a n c ∧ n ≤ 9223372036854775807 ∧ (n ≤ 1048576 → ∃ ds : List Dc, ds.length = n ∧ RdD W a ds) := by
  obtain ⟨a1, len1, cap1, rfl⟩ := okWide_slice Try.underlying22 hv
  obtain ⟨fuel, hf⟩ := h
  rcases Deep.open_slice_pairs Try.underlying22 Try.underlying41 (by kernel_rfl) rfl rfl (by kernel_rfl) (by kernel_rfl) hf with ⟨hcs, _⟩ | ⟨x, len, cap, m2, n2, V0, V1, D0, D1, P0, P1, hcs, _, hl, hm, hz, _, hcell⟩
  · simp [Value.cells] at hcs
    obtain ⟨rfl, rfl, rfl⟩ := hcs
    exact ⟨none, 0, 0, rfl, by omega, fun _ => ⟨[], rfl, by simp, by simp, .inl rfl⟩⟩
  · simp [Value.cells] at hcs
    obtain ⟨rfl, rfl, rfl⟩ := hcs
    refine ⟨some x, _, _, rfl, by unfold maxLen at hm; omega, fun hle => ?_⟩
    have each : ∀ i, i < len1 → ∃ d : Dc, W.cell? (x.add (i * 2)) = some (.string d.1) ∧ W.cell? (x.add (i * 2 + 1)) = some (.int .i64 d.2) ∧ in64 d.2 ∧ d.1.size ≤ 9223372036854775807 := by
      intro i hi
      simp at hz
      obtain ⟨h0, h1, h2, h3⟩ := hcell i (by omega)
      obtain ⟨s, e0, _, hs⟩ := DataW.trod_string Try.underlying9 h2
      obtain ⟨y, e1, _, hy⟩ := DataW.trod_int Try.underlying2 h3
      simp at e0 e1
      rw [e0] at h0
      rw [e1] at h1
      exact ⟨(s, y), h0, h1, bounds_i64 hy, by unfold maxLen at hs; omega⟩
    haveI : Inhabited Dc := ⟨(.empty, 0)⟩
    obtain ⟨q, hq⟩ := Deep.choose_lt each
    refine ⟨(List.range len1).map q, by simp, by simpa using hle, ?_, ?_⟩
    · intro d hd
      obtain ⟨i, hi, rfl⟩ := List.mem_map.1 hd
      exact (hq i (List.mem_range.1 hi)).2.2
    · by_cases h0 : len1 = 0
      · left; simp [h0]
      · right
        obtain ⟨b, off, spot⟩ := x
        have hc0 := (hq 0 (by omega)).1
        have hspot : spot = none := by simpa [Addr.add] using World.cell?_spot hc0
        subst hspot
        refine ⟨b, off, rfl, fun i h hi => ?_⟩
        have hil : i < len1 := by have := (List.getElem?_eq_some_iff.1 hi).1; simpa using this
        simp [hil] at hi
        subst hi
        obtain ⟨k0, k1, -⟩ := hq i hil
        rw [Addr.add_lit] at k0 k1
        exact ⟨k0, k1⟩

end Go.Proofs.Ytjnbapddfhpcnaa

/- How an argument that is cuts is opened. -/
namespace Go.Proofs.Ytjnbapddfhpcnaa
set_option linter.unusedVariables false
set_option linter.unusedSimpArgs false
open Go.ChangeShapes Go.WideShapes Go.ChangeAt Go.RowKit Go.Joins

set_option maxRecDepth 100000 in
theorem open_ks {H : Type} {enc : TypeId × Value → H} {W : World} {base fuel : Nat} {v : Value} {x : DataW H × List MemPlace}
    (h : DataW.trod enc Try.prog W base (fun _ => true) true fuel 46 [v] = some x) :
    ∃ (a : Option Addr) (n c : Nat), v = .slice a n c ∧ n ≤ 9223372036854775807 ∧ (n ≤ 1048576 → ∃ ks : List Int, ks.length = n ∧ RdI W a ks) := by
  rcases open_ints Try.underlying46 Try.underlying2 (by kernel_rfl) h with ⟨hcs, _⟩ | ⟨x, len, cap, zs, hcs, _, hl, hm, hz, _, hcell, hwz⟩
  · simp at hcs
    subst hcs
    exact ⟨none, 0, 0, rfl, by omega, fun _ => ⟨[], rfl, by simp, by simp, .inl rfl⟩⟩
  · simp at hcs
    subst hcs
    refine ⟨some x, len, cap, rfl, by unfold maxLen at hm; omega, fun hle => ⟨zs.take len, ?_, ?_, ?_, ?_⟩⟩
    · simp at hz ⊢; omega
    · simp at hz ⊢; omega
    · intro y hy
      exact bounds_i64 (hwz y (List.mem_of_mem_take hy))
    · by_cases h0 : len = 0
      · left; simp [h0]
      · right
        simp at hz
        obtain ⟨b, off, spot⟩ := x
        have hc0 := hcell 0 (by omega)
        have hspot : spot = none := by simpa [Addr.add] using World.cell?_spot hc0
        subst hspot
        refine ⟨b, off, rfl, fun i hi => ?_⟩
        have hi' : i < len := by simp at hi; omega
        have hci := hcell i (by omega)
        have e : (zs.take len).getD i 0 = zs.getD i 0 := by
          simp [List.getD, hi']
        rw [e]
        rw [Addr.add_lit] at hci
        exact hci

/-- The numbers of a row as it lies. -/
def NumsOf (W : World) (h : Ih) : Prop := h.n ≤ 1048576 → ∃ ks : List Int, ks.length = h.n ∧ RdI W h.a ks

set_option maxRecDepth 100000 in
theorem open_cuts {H : Type} {enc : TypeId × Value → H} {W : World} {r : Reach} {b0 base : Nat} {v : Value} {d : DataW H} {p : List MemPlace}
    (hv : Value.okWide Try.prog W r b0 25 v) (h : DataW.Trod enc Try.prog W base (fun _ => true) true 25 v d p) :
    ∃ (a : Option Addr) (n c : Nat), v = .agg #[.slice a n c] ∧ n ≤ 9223372036854775807 ∧ (n ≤ 1048576 → ∃ hs : List Ih, hs.length = n ∧ RdIh W a hs ∧ ∀ h ∈ hs, NumsOf W h) := by
  obtain ⟨cs, rfl, hsz⟩ := okWide_struct Try.underlying25 hv
  have hC : Try.prog.cellsOf 25 = 1 := by kernel_rfl
  obtain ⟨fuel, hf⟩ := h
  obtain ⟨xs, m, _, _, _, hxl, hx⟩ := DataW.trod_struct Try.underlying25 hf
  have hS : Try.prog.cellsOf 23 = 1 := by kernel_rfl
  obtain ⟨l⟩ := cs
  match l, hsz.trans hC, xs, hxl with
  | [c0], _, [y0], _ =>
    have g0 := hx 0 _ rfl
    simp [Value.cells, hS] at g0
    rcases Deep.open_slice1 Try.underlying23 (by kernel_rfl) g0 with ⟨hcs, _⟩ | ⟨x, len, cap, m2, n2, V, D, Pl, hcs, _, hl, hm, hz, _, hcell⟩
    · simp at hcs
      subst hcs
      exact ⟨none, 0, 0, rfl, by omega, fun _ => ⟨[], rfl, ⟨by simp, .inl rfl⟩, by simp⟩⟩
    · simp at hcs
      subst hcs
      refine ⟨some x, len, cap, rfl, by unfold maxLen at hm; omega, fun hle => ?_⟩
      have each : ∀ i, i < len → ∃ h : Ih, W.cell? (x.add i) = some (.slice h.a h.n h.c) ∧ h.n ≤ 9223372036854775807 ∧ NumsOf W h := by
        intro i hi
        simp at hz
        obtain ⟨h1, h3⟩ := hcell i (by omega)
        obtain ⟨a, n, c, e1, hn, hk⟩ := open_ks h3
        rw [e1] at h1
        exact ⟨⟨a, n, c⟩, h1, hn, hk⟩
      haveI : Inhabited Ih := ⟨⟨none, 0, 0⟩⟩
      obtain ⟨q, hq⟩ := Deep.choose_lt each
      refine ⟨(List.range len).map q, by simp, ⟨by simpa using hle, ?_⟩, ?_⟩
      · by_cases h0 : len = 0
        · left; simp [h0]
        · right
          obtain ⟨b, off, spot⟩ := x
          have hc0 := (hq 0 (by omega)).1
          have hspot : spot = none := by simpa [Addr.add] using World.cell?_spot hc0
          subst hspot
          refine ⟨b, off, rfl, fun i h hi => ?_⟩
          have hil : i < len := by have := (List.getElem?_eq_some_iff.1 hi).1; simpa using this
          simp [hil] at hi
          subst hi
          obtain ⟨k1, k2, -⟩ := hq i hil
          rw [Addr.add_lit] at k1
          exact ⟨k1, k2⟩
      · intro h hh
        obtain ⟨i, hi, rfl⟩ := List.mem_map.1 hh
        exact (hq i (List.mem_range.1 hi)).2.2

/-- Where all is short enough the rows are there. -/
theorem RdII_of {W : World} {a : Option Addr} {hs : List Ih} {L : Int} (hr : RdIh W a hs) (hk : ∀ h ∈ hs, NumsOf W h) (hL : 0 ≤ L) (hL2 : L ≤ 1048576) (hz : 0 ≤ szIl hs L) : ∃ xs : List Iw, xs.length = hs.length ∧ RdII W a xs := by
  have hlen := hr.1
  have hs1 : ∀ h ∈ hs, (h.n : Int) ≤ 1048576 := by
    rcases szIl_range hs L hL with e | ⟨-, -, e⟩
    · omega
    · intro h hh
      have := e h hh
      omega
  have each : ∀ i, i < hs.length → ∃ n : Iw, ∀ h, hs[i]? = some h → n.a = h.a ∧ n.c = h.c ∧ n.ks.length = h.n ∧ RdI W n.a n.ks := by
    intro i hi
    have hm : hs[i] ∈ hs := List.getElem_mem hi
    have h1 := hs1 _ hm
    obtain ⟨ks, e1, e2⟩ := hk _ hm (by omega)
    refine ⟨⟨hs[i].a, hs[i].c, ks⟩, fun h hh => ?_⟩
    rw [List.getElem?_eq_getElem hi] at hh
    cases hh
    exact ⟨rfl, rfl, e1, e2⟩
  haveI : Inhabited Iw := ⟨⟨none, 0, []⟩⟩
  obtain ⟨q, hq⟩ := Deep.choose_lt each
  refine ⟨(List.range hs.length).map q, by simp, by simpa using hlen, ?_⟩
  rcases hr.2 with h | ⟨b, o, rfl, hc⟩
  · left; simp [h]
  · right
    refine ⟨b, o, rfl, fun i n hi => ?_⟩
    have hil : i < hs.length := by have := (List.getElem?_eq_some_iff.1 hi).1; simpa using this
    simp [hil] at hi
    subst hi
    have hg : hs[i]? = some hs[i] := List.getElem?_eq_getElem hil
    obtain ⟨e2, e3, e4, e5⟩ := hq i hil _ hg
    obtain ⟨f1, -⟩ := hc i _ hg
    exact ⟨by rw [e2, e3, e4]; exact f1, e5⟩

end Go.Proofs.Ytjnbapddfhpcnaa
