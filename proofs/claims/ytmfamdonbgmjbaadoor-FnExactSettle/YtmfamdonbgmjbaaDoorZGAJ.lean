/- Several texts in one. -/
import Derived.Test.YtmfamdonbgmjbaaDoorKOO
import Derived.Test.YtmfamdonbgmjbaaDoorZGAC
import Derived.Test.YtmfamdonbgmjbaaDoorZGAB

/- How an argument that has rows of rows of numbers is opened. -/
namespace Go.Proofs.YtmfamdonbgmjbaaDoor
set_option linter.unusedVariables false
set_option linter.unusedSimpArgs false
open Go.ChangeShapes Go.WideShapes Go.ChangeAt Go.RowKit Go.Joins

set_option maxRecDepth 100000 in
theorem open_ks {H : Type} {enc : TypeId × Value → H} {W : World} {base fuel : Nat} {v : Value} {x : DataW H × List MemPlace}
    (h : DataW.trod enc Tryd.prog W base (fun _ => true) true fuel 25 [v] = some x) :
    ∃ (a : Option Addr) (n c : Nat), v = .slice a n c ∧ n ≤ 9223372036854775807 ∧ (n ≤ 1048576 → ∃ ks : List Int, ks.length = n ∧ RdI W a ks) := by
  rcases open_ints Tryd.underlying25 Tryd.underlying2 (by kernel_rfl) h with ⟨hcs, _⟩ | ⟨x, len, cap, zs, hcs, _, hl, hm, hz, _, hcell, hwz⟩
  · simp at hcs
    subst hcs
    exact ⟨none, 0, 0, rfl, by omega, fun _ => ⟨[], rfl, by simp, by simp, .inl rfl⟩⟩
  · simp at hcs
    subst hcs
    refine ⟨some x, len, cap, rfl, by unfold maxLen at hm; omega, fun hle => ⟨zs.take len, ?_, ?_, ?_, ?_⟩⟩
    · simp at hz ⊢; omega
    · simp at hz ⊢; omega
    · intro y hy
      exact bounds_i64 (hwz y (List.mem_of_mem_take hy))
    · by_cases h0 : len = 0
      · left; simp [h0]
      · right
        simp at hz
        obtain ⟨b, off, spot⟩ := x
        have hc0 := hcell 0 (by omega)
        have hspot : spot = none := by simpa [Addr.add] using World.cell?_spot hc0
        subst hspot
        refine ⟨b, off, rfl, fun i hi => ?_⟩
        have hi' : i < len := by simp at hi; omega
        have hci := hcell i (by omega)
        have e : (zs.take len).getD i 0 = zs.getD i 0 := by
          simp [List.getD, hi']
        rw [e]
        rw [Addr.add_lit] at hci
        exact hci

/-- The numbers of a row as it lies. -/
def NumsOf (W : World) (h : Ih) : Prop := h.n ≤ 1048576 → ∃ ks : List Int, ks.length = h.n ∧ RdI W h.a ks

set_option maxRecDepth 100000 in
theorem open_kss {H : Type} {enc : TypeId × Value → H} {W : World} {base fuel : Nat} {v : Value} {x : DataW H × List MemPlace}
    (g0 : DataW.trod enc Tryd.prog W base (fun _ => true) true fuel 22 [v] = some x) :
    ∃ (a : Option Addr) (n c : Nat), v = .slice a n c ∧ n ≤ 9223372036854775807 ∧ (n ≤ 1048576 → ∃ hs : List Ih, hs.length = n ∧ RdIh W a hs ∧ ∀ h ∈ hs, NumsOf W h) := by
  rcases Deep.open_slice1 Tryd.underlying22 (by kernel_rfl) g0 with ⟨hcs, _⟩ | ⟨x, len, cap, m2, n2, V, D, Pl, hcs, _, hl, hm, hz, _, hcell⟩
  · simp at hcs
    subst hcs
    exact ⟨none, 0, 0, rfl, by omega, fun _ => ⟨[], rfl, ⟨by simp, .inl rfl⟩, by simp⟩⟩
  · simp at hcs
    subst hcs
    refine ⟨some x, len, cap, rfl, by unfold maxLen at hm; omega, fun hle => ?_⟩
    have each : ∀ i, i < len → ∃ h : Ih, W.cell? (x.add i) = some (.slice h.a h.n h.c) ∧ h.n ≤ 9223372036854775807 ∧ NumsOf W h := by
      intro i hi
      simp at hz
      obtain ⟨h1, h3⟩ := hcell i (by omega)
      obtain ⟨a, n, c, e1, hn, hk⟩ := open_ks h3
      rw [e1] at h1
      exact ⟨⟨a, n, c⟩, h1, hn, hk⟩
    haveI : Inhabited Ih := ⟨⟨none, 0, 0⟩⟩
    obtain ⟨q, hq⟩ := Deep.choose_lt each
    refine ⟨(List.range len).map q, by simp, ⟨by simpa using hle, ?_⟩, ?_⟩
    · by_cases h0 : len = 0
      · left; simp [h0]
      · right
        obtain ⟨b, off, spot⟩ := x
        have hc0 := (hq 0 (by omega)).1
        have hspot : spot = none := by simpa [Addr.add] using World.cell?_spot hc0
        subst hspot
        refine ⟨b, off, rfl, fun i h hi => ?_⟩
        have hil : i < len := by have := (List.getElem?_eq_some_iff.1 hi).1; simpa using this
        simp [hil] at hi
        subst hi
        obtain ⟨k1, k2, -⟩ := hq i hil
        rw [Addr.add_lit] at k1
        exact ⟨k1, k2⟩
    · intro h hh
      obtain ⟨i, hi, rfl⟩ := List.mem_map.1 hh
      exact (hq i (List.mem_range.1 hi)).2.2

/-- Where all is short enough the rows are there. -/
theorem RdII_of {W : World} {a : Option Addr} {hs : List Ih} {L : Int} (hr : RdIh W a hs) (hk : ∀ h ∈ hs, NumsOf W h) (hL : 0 ≤ L) (hL2 : L ≤ 1048576) (hz : 0 ≤ szIl hs L) : ∃ xs : List Iw, xs.length = hs.length ∧ RdII W a xs := by
  have hlen := hr.1
  have hs1 : ∀ h ∈ hs, (h.n : Int) ≤ 1048576 := by
    rcases szIl_range hs L hL with e | ⟨-, -, e⟩
    · omega
    · intro h hh
      have := e h hh
      omega
  have each : ∀ i, i < hs.length → ∃ n : Iw, ∀ h, hs[i]? = some h → n.a = h.a ∧ n.c = h.c ∧ n.ks.length = h.n ∧ RdI W n.a n.ks := by
    intro i hi
    have hm : hs[i] ∈ hs := List.getElem_mem hi
    have h1 := hs1 _ hm
    obtain ⟨ks, e1, e2⟩ := hk _ hm (by omega)
    refine ⟨⟨hs[i].a, hs[i].c, ks⟩, fun h hh => ?_⟩
    rw [List.getElem?_eq_getElem hi] at hh
    cases hh
    exact ⟨rfl, rfl, e1, e2⟩
  haveI : Inhabited Iw := ⟨⟨none, 0, []⟩⟩
  obtain ⟨q, hq⟩ := Deep.choose_lt each
  refine ⟨(List.range hs.length).map q, by simp, by simpa using hlen, ?_⟩
  rcases hr.2 with h | ⟨b, o, rfl, hc⟩
  · left; simp [h]
  · right
    refine ⟨b, o, rfl, fun i n hi => ?_⟩
    have hil : i < hs.length := by have := (List.getElem?_eq_some_iff.1 hi).1; simpa using this
    simp [hil] at hi
    subst hi
    have hg : hs[i]? = some hs[i] := List.getElem?_eq_getElem hil
    obtain ⟨e2, e3, e4, e5⟩ := hq i hil _ hg
    obtain ⟨f1, -⟩ := hc i _ hg
    exact ⟨by rw [e2, e3, e4]; exact f1, e5⟩

end Go.Proofs.YtmfamdonbgmjbaaDoor

/- How an argument that is clauses is opened. -/
namespace Go.Proofs.YtmfamdonbgmjbaaDoor
set_option linter.unusedVariables false
set_option linter.unusedSimpArgs false
open Go.ChangeShapes Go.WideShapes Go.ChangeAt Go.RowKit Go.Joins

set_option maxRecDepth 100000 in
theorem open_cnf {H : Type} {enc : TypeId × Value → H} {W : World} {r : Reach} {b0 base : Nat} {v : Value} {d : DataW H} {p : List MemPlace}
    (hv : Value.okWide Tryd.prog W r b0 24 v) (h : DataW.Trod enc Tryd.prog W base (fun _ => true) true 24 v d p) :
    ∃ (S : Int) (a : Option Addr) (n c : Nat), v = .agg #[.int .i64 S, .slice a n c] ∧ in64 S ∧ n ≤ 9223372036854775807 ∧ (n ≤ 1048576 → ∃ hs : List Ih, hs.length = n ∧ RdIh W a hs ∧ ∀ h ∈ hs, NumsOf W h) := by
  obtain ⟨cs, rfl, hsz⟩ := okWide_struct Tryd.underlying24 hv
  have hC : Tryd.prog.cellsOf 24 = 2 := by kernel_rfl
  obtain ⟨fuel, hf⟩ := h
  obtain ⟨xs, m, _, _, _, hxl, hx0⟩ := DataW.trod_struct Tryd.underlying24 hf
  have hS : Tryd.prog.cellsOf 22 = 1 := by kernel_rfl
  have cI : Tryd.prog.cellsOf 2 = 1 := by kernel_rfl
  obtain ⟨l⟩ := cs
  match l, hsz.trans hC, xs, hxl with
  | [c0, c1], _, [y0, y1], _ =>
    have g0 := hx0 0 _ rfl
    have g1 := hx0 1 _ rfl
    simp [Value.cells, hS, cI] at g0 g1
    obtain ⟨z, e0, _, wz⟩ := DataW.trod_int Tryd.underlying2 g0
    simp at e0
    subst e0
    obtain ⟨a, n, c, rfl, hn, hk⟩ := open_kss g1
    exact ⟨z, a, n, c, rfl, bounds_i64 wz, hn, hk⟩

/-- The size of clauses that are handed in: too long, or all of it is there. -/
theorem size_cnf (S : Int) (b : Option Addr) (n2 c2 : Nat) (w : World) (hn2 : n2 ≤ 9223372036854775807)
    (hy : n2 ≤ 1048576 → ∃ hs : List Ih, hs.length = n2 ∧ RdIh w b hs ∧ ∀ h ∈ hs, NumsOf w h) :
    ∃ Z : Int, Hid (∀ u, Below w.heap.size w u → Calls Tryd.prog 7 #[.agg #[.int .i64 S, .slice b n2 c2], .int .i64 1048576] u fun e w' => e = .returned (.int .i64 Z) ∧ Below u.heap.size u w') ∧ Z ≤ 1048576 ∧
      (Z < 0 ∨ 0 ≤ Z ∧ ∃ xs : List Iw, xs.length = n2 ∧ RdII w b xs) := by
  by_cases h2 : (n2 : Int) ≤ 1048576
  · obtain ⟨hs, rfl, hh, hk⟩ := hy (by omega)
    have hZ2 := szIl_range hs (1048576 - hs.length) (by omega)
    refine ⟨szIl hs (1048576 - hs.length), fun u hu => szCnf_any S b _ c2 1048576 _ u (by omega) (fun u' hu' => szInt64SS_in b c2 hs 1048576 u' (hh.later (hu.trans (hu'.mono hu.size))) (by omega) (by omega) h2), by omega, ?_⟩
    by_cases h3 : szIl hs (1048576 - hs.length) < 0
    · exact .inl h3
    · obtain ⟨xs, hxl, hxs⟩ := RdII_of hh hk (L := 1048576 - hs.length) (by omega) (by omega) (by omega)
      exact .inr ⟨by omega, xs, hxl, hxs⟩
  · exact ⟨-1, fun u hu => szCnf_any S b _ c2 1048576 _ u (.inl rfl) (fun u' hu' => (szInt64SS_out b n2 c2 1048576 u' (by omega) (by omega) hn2 h2).mono (fun e w' hh => ⟨hh.1, by rw [hh.2]; exact Below.refl _ _⟩)), by omega, .inl (by omega)⟩

end Go.Proofs.YtmfamdonbgmjbaaDoor

/- How an argument that is a row of numbers is opened. -/
namespace Go.Proofs.YtmfamdonbgmjbaaDoor
set_option linter.unusedVariables false
set_option linter.unusedSimpArgs false
open Go.ChangeShapes Go.WideShapes Go.ChangeAt Go.RowKit Go.Joins

set_option maxRecDepth 100000 in
theorem open_i64s {H : Type} {enc : TypeId × Value → H} {W : World} {r : Reach} {b0 base : Nat} {v : Value} {d : DataW H} {p : List MemPlace}
    (hv : Value.okWide Tryd.prog W r b0 25 v) (h : DataW.Trod enc Tryd.prog W base (fun _ => true) true 25 v d p) :
    ∃ (a : Option Addr) (n c : Nat), v = .slice a n c ∧ n ≤ 9223372036854775807 ∧ (n ≤ 1048576 → ∃ ks : List Int, ks.length = n ∧ RdI W a ks) := by
  obtain ⟨a1, len1, cap1, rfl⟩ := okWide_slice Tryd.underlying25 hv
  obtain ⟨fuel, hf⟩ := h
  exact open_ks hf

end Go.Proofs.YtmfamdonbgmjbaaDoor
