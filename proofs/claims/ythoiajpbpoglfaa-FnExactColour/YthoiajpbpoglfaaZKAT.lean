/- Several texts in one. -/
import Derived.Test.YthoiajpbpoglfaaRows
import Derived.Test.YthoiajpbpoglfaaZKAC
import Derived.ProofKit
import Derived.OpenShut
import Derived.ShutString
import Derived.ChangeOld
import Derived.Below
import Derived.Lib.SmallJoins
import Derived.Deep.SlicePairs

/- How an argument that is a graph, or a row of bars, is opened. -/
namespace Go.Proofs.Ythoiajpbpoglfaa
set_option linter.unusedVariables false
set_option linter.unusedSimpArgs false
open Go.ChangeShapes Go.WideShapes Go.ChangeAt Go.RowKit Go.Joins

theorem own : ownKnob Try.prog.godebug = none := by kernel_rfl
theorem laidOut : laidOutB Try.prog = true := by kernel_rfl

set_option maxRecDepth 100000 in
theorem open_ks {H : Type} {enc : TypeId × Value → H} {W : World} {base fuel : Nat} {v : Value} {x : DataW H × List MemPlace}
    (h : DataW.trod enc Try.prog W base (fun _ => true) true fuel 22 [v] = some x) :
    ∃ (a : Option Addr) (n c : Nat), v = .slice a n c ∧ n ≤ 9223372036854775807 ∧ (n ≤ 1048576 → ∃ ks : List Int, ks.length = n ∧ RdI W a ks) := by
  rcases open_ints Try.underlying22 Try.underlying2 (by kernel_rfl) h with ⟨hcs, _⟩ | ⟨x, len, cap, zs, hcs, _, hl, hm, hz, _, hcell, hwz⟩
  · simp at hcs
    subst hcs
    exact ⟨none, 0, 0, rfl, by omega, fun _ => ⟨[], rfl, by simp, by simp, .inl rfl⟩⟩
  · simp at hcs
    subst hcs
    refine ⟨some x, len, cap, rfl, by unfold maxLen at hm; omega, fun hle => ⟨zs.take len, ?_, ?_, ?_, ?_⟩⟩
    · simp at hz ⊢; omega
    · simp at hz ⊢; omega
    · intro y hy
      exact bounds_i64 (hwz y (List.mem_of_mem_take hy))
    · by_cases h0 : len = 0
      · left; simp [h0]
      · right
        simp at hz
        obtain ⟨b, off, spot⟩ := x
        have hc0 := hcell 0 (by omega)
        have hspot : spot = none := by simpa [Addr.add] using World.cell?_spot hc0
        subst hspot
        refine ⟨b, off, rfl, fun i hi => ?_⟩
        have hi' : i < len := by simp at hi; omega
        have hci := hcell i (by omega)
        have e : (zs.take len).getD i 0 = zs.getD i 0 := by
          simp [List.getD, hi']
        rw [e]
        rw [Addr.add_lit] at hci
        exact hci

set_option maxRecDepth 100000 in
theorem open_words {H : Type} {enc : TypeId × Value → H} {W : World} {base fuel : Nat} {v : Value} {x : DataW H × List MemPlace}
    (h : DataW.trod enc Try.prog W base (fun _ => true) true fuel 46 [v] = some x) :
    ∃ (a : Option Addr) (n c : Nat), v = .slice a n c ∧ n ≤ 9223372036854775807 ∧ (n ≤ 1048576 → ∃ xs : List Nat, xs.length = n ∧ Rd W a xs) := by
  rcases open_ints Try.underlying46 Try.underlying88 (by kernel_rfl) h with ⟨hcs, _⟩ | ⟨x, len, cap, zs, hcs, _, hl, hm, hz, _, hcell, hwz⟩
  · simp at hcs
    subst hcs
    exact ⟨none, 0, 0, rfl, by omega, fun _ => ⟨[], rfl, by simp, by simp, .inl rfl⟩⟩
  · simp at hcs
    subst hcs
    refine ⟨some x, len, cap, rfl, by unfold maxLen at hm; omega, fun hle => ⟨(zs.take len).map Int.toNat, ?_, ?_, ?_, ?_⟩⟩
    · simp at hz ⊢; omega
    · simp at hz ⊢; omega
    · intro y hy
      obtain ⟨z, hz1, rfl⟩ := List.mem_map.1 hy
      have := bounds_u64 (hwz z (List.mem_of_mem_take hz1))
      omega
    · by_cases h0 : len = 0
      · left; simp [h0]
      · right
        simp at hz
        obtain ⟨b, off, spot⟩ := x
        have hc0 := hcell 0 (by omega)
        have hspot : spot = none := by simpa [Addr.add] using World.cell?_spot hc0
        subst hspot
        refine ⟨b, off, rfl, fun i hi => ?_⟩
        have hi' : i < len := by simp at hi; omega
        have hci := hcell i (by omega)
        have hw := bounds_u64 (hwz (zs.getD i 0) (by simp [List.getD, show i < zs.length by omega]))
        have e : ((((zs.take len).map Int.toNat).getD i 0 : Nat) : Int) = zs.getD i 0 := by
          simp [List.getD, hi', show i < zs.length by omega] at hw ⊢
          omega
        rw [e]
        rw [Addr.add_lit] at hci
        exact hci

/-- The bits of a bar as it lies. -/
def BarOf (W : World) (h : Yh) : Prop := (in64 h.v ∧ in64 h.lo ∧ in64 h.bw) ∧ (h.n ≤ 1048576 → ∃ ws : List Nat, ws.length = h.n ∧ Rd W h.a ws)

set_option maxRecDepth 100000 in
theorem open_bars {H : Type} {enc : TypeId × Value → H} {W : World} {base fuel : Nat} {v : Value} {x : DataW H × List MemPlace}
    (hf : DataW.trod enc Try.prog W base (fun _ => true) true fuel 23 [v] = some x) :
    ∃ (a : Option Addr) (n c : Nat), v = .slice a n c ∧ n ≤ 9223372036854775807 ∧ (n ≤ 1048576 → ∃ hs : List Yh, hs.length = n ∧ RdYh W a hs ∧ ∀ h ∈ hs, BarOf W h) := by
  have ce : Try.prog.cellsOf 95 = 4 := by kernel_rfl
  have cB : Try.prog.cellsOf 93 = 2 := by kernel_rfl
  have cI : Try.prog.cellsOf 2 = 1 := by kernel_rfl
  have cW : Try.prog.cellsOf 46 = 1 := by kernel_rfl
  rcases Deep.open_slice Try.underlying23 hf with ⟨hcs, _⟩ | ⟨x, len, cap, m, n2, D, Pl, hcs, _, hl, hm, hz, _, hx⟩
  · simp at hcs
    subst hcs
    exact ⟨none, 0, 0, rfl, by omega, fun _ => ⟨[], rfl, ⟨by simp, .inl rfl⟩, by simp⟩⟩
  · simp at hcs
    subst hcs
    refine ⟨some x, len, cap, rfl, by unfold maxLen at hm; omega, fun hle => ?_⟩
    have each : ∀ i, i < len → ∃ h : Yh, (W.cell? (x.add (i * 4)) = some (.int .i64 h.v) ∧ W.cell? (x.add (i * 4 + 1)) = some (.int .i64 h.lo) ∧ W.cell? (x.add (i * 4 + 2)) = some (.int .i64 h.bw) ∧ W.cell? (x.add (i * 4 + 3)) = some (.slice h.a h.n h.c)) ∧ h.n ≤ 9223372036854775807 ∧ BarOf W h := by
      intro i hi
      simp at hz
      obtain ⟨cs', h1, h2⟩ := hx i (by omega)
      rw [ce] at h1
      obtain ⟨_, hlen, hcell⟩ := World.cells?_some h1
      obtain ⟨ys, k, hk, hxy, _, hxl, hfd⟩ := DataW.trod_struct Try.underlying95 h2
      match ys, hxl, cs', hlen with
      | [y0, y1, y2], _, [v0, v1, v2, v3], _ =>
        have g0 := hfd 0 _ rfl
        have g1 := hfd 1 _ rfl
        have g2 := hfd 2 _ rfl
        simp [cB, cI] at g0 g1 g2
        obtain ⟨n0, e0, _, w0⟩ := DataW.trod_int Try.underlying2 g0
        obtain ⟨n1, e1, _, w1⟩ := DataW.trod_int Try.underlying2 g1
        obtain ⟨zs, k', hk', hxy', _, hxl', hfd'⟩ := DataW.trod_struct Try.underlying93 g2
        match zs, hxl' with
        | [z0, z1], _ =>
          have g4 := hfd' 0 _ rfl
          have g5 := hfd' 1 _ rfl
          simp [cI, cW] at g4 g5
          obtain ⟨n3, e3, _, w3⟩ := DataW.trod_int Try.underlying2 g4
          obtain ⟨a, n, c, e4, hn, hk4⟩ := open_words g5
          have c0 := hcell 0 (by omega)
          have c1 := hcell 1 (by omega)
          have c2 := hcell 2 (by omega)
          have c3 := hcell 3 (by omega)
          rw [Deep.add_add] at c0 c1 c2 c3
          simp at e0 e1 e3 c0 c1 c2 c3
          rw [e0] at c0
          rw [e1] at c1
          rw [e3] at c2
          rw [e4] at c3
          exact ⟨⟨n0, n1, n3, a, n, c⟩, ⟨c0, c1, c2, c3⟩, hn, ⟨bounds_i64 w0, bounds_i64 w1, bounds_i64 w3⟩, hk4⟩
    haveI : Inhabited Yh := ⟨⟨0, 0, 0, none, 0, 0⟩⟩
    obtain ⟨q, hq⟩ := Deep.choose_lt each
    refine ⟨(List.range len).map q, by simp, ⟨by simpa using hle, ?_⟩, ?_⟩
    · by_cases h0 : len = 0
      · left; simp [h0]
      · right
        obtain ⟨b, off, spot⟩ := x
        have hc0 := (hq 0 (by omega)).1.1
        have hspot : spot = none := by simpa [Addr.add] using World.cell?_spot hc0
        subst hspot
        refine ⟨b, off, rfl, fun i h hi => ?_⟩
        have hil : i < len := by have := (List.getElem?_eq_some_iff.1 hi).1; simpa using this
        simp [hil] at hi
        subst hi
        obtain ⟨⟨k0, k1, k2, k3⟩, k5, -⟩ := hq i hil
        rw [Addr.add_lit] at k0 k1 k2 k3
        exact ⟨⟨k0, k1, k2, k3⟩, k5⟩
    · intro h hh
      obtain ⟨i, hi, rfl⟩ := List.mem_map.1 hh
      exact (hq i (List.mem_range.1 hi)).2.2

/-- Where all is short enough the bars are there. -/
theorem RdBr_of {W : World} {a : Option Addr} {hs : List Yh} {L : Int} (hr : RdYh W a hs) (hk : ∀ h ∈ hs, BarOf W h) (hL : 0 ≤ L) (hL2 : L ≤ 1048576) (hz : 0 ≤ szYl hs L) : ∃ xs : List Yg, xs.length = hs.length ∧ RdBr W a xs := by
  have hlen := hr.1
  have hs1 : ∀ h ∈ hs, (h.n : Int) ≤ 1048576 := by
    rcases szYl_range hs L hL with e | ⟨-, -, e⟩
    · omega
    · intro h hh
      have := e h hh
      omega
  have each : ∀ i, i < hs.length → ∃ n : Yg, ∀ h, hs[i]? = some h → n.hd = h ∧ Rd W n.a n.ct.ws ∧ in64 n.ct.v ∧ in64 n.ct.lo ∧ in64 n.ct.bw := by
    intro i hi
    have hm : hs[i] ∈ hs := List.getElem_mem hi
    have h1 := hs1 _ hm
    obtain ⟨e0, hk0⟩ := hk _ hm
    obtain ⟨ws, e1, e2⟩ := hk0 (by omega)
    refine ⟨⟨⟨hs[i].v, hs[i].lo, hs[i].bw, ws⟩, hs[i].a, hs[i].c⟩, fun h hh => ?_⟩
    rw [List.getElem?_eq_getElem hi] at hh
    cases hh
    exact ⟨by simp [Yg.hd, e1], e2, e0⟩
  haveI : Inhabited Yg := ⟨⟨⟨0, 0, 0, []⟩, none, 0⟩⟩
  obtain ⟨q, hq⟩ := Deep.choose_lt each
  refine ⟨(List.range hs.length).map q, by simp, by simpa using hlen, ?_⟩
  rcases hr.2 with h | ⟨b, o, rfl, hc⟩
  · left; simp [h]
  · right
    refine ⟨b, o, rfl, fun i n hi => ?_⟩
    have hil : i < hs.length := by have := (List.getElem?_eq_some_iff.1 hi).1; simpa using this
    simp [hil] at hi
    subst hi
    have hg : hs[i]? = some hs[i] := List.getElem?_eq_getElem hil
    obtain ⟨e1, e2, e3⟩ := hq i hil _ hg
    obtain ⟨f0, -⟩ := hc i _ hg
    exact ⟨by rw [e1]; exact f0, e2, e3⟩

/-- What a graph as it lies holds. -/
structure OpG (W : World) (a1 a2 : Option Addr) (n1 n2 : Nat) : Prop where
  l1 : n1 ≤ 9223372036854775807
  l2 : n2 ≤ 9223372036854775807
  ks : n1 ≤ 1048576 → ∃ ks : List Int, ks.length = n1 ∧ RdI W a1 ks
  bars : n2 ≤ 1048576 → ∃ hs : List Yh, hs.length = n2 ∧ RdYh W a2 hs ∧ ∀ h ∈ hs, BarOf W h

set_option maxRecDepth 100000 in
theorem open_graph {H : Type} {enc : TypeId × Value → H} {W : World} {r : Reach} {b0 base : Nat} {v : Value} {d : DataW H} {p : List MemPlace}
    (hv : Value.okWide Try.prog W r b0 25 v) (h : DataW.Trod enc Try.prog W base (fun _ => true) true 25 v d p) :
    ∃ (a1 a2 : Option Addr) (n1 c1 n2 c2 : Nat), v = .agg #[.slice a1 n1 c1, .slice a2 n2 c2] ∧ OpG W a1 a2 n1 n2 := by
  obtain ⟨cs, rfl, hsz⟩ := okWide_struct Try.underlying25 hv
  have hC : Try.prog.cellsOf 25 = 2 := by kernel_rfl
  have hL : Try.prog.cellsOf 23 = 1 := by kernel_rfl
  have hK : Try.prog.cellsOf 22 = 1 := by kernel_rfl
  obtain ⟨fuel, hf⟩ := h
  obtain ⟨xs, m, _, _, _, hxl, hx⟩ := DataW.trod_struct Try.underlying25 hf
  obtain ⟨l⟩ := cs
  match l, hsz.trans hC, xs, hxl with
  | [v0, v1], _, [y0, y1], _ =>
    have g0 := hx 0 _ rfl
    have g1 := hx 1 _ rfl
    simp [Value.cells, hL, hK] at g0 g1
    obtain ⟨a1, n1, c1, e1, hn1, hk1⟩ := open_ks g0
    obtain ⟨a2, n2, c2, e2, hn2, hk2⟩ := open_bars g1
    subst e1
    subst e2
    exact ⟨a1, a2, n1, c1, n2, c2, rfl, hn1, hn2, hk1, hk2⟩

end Go.Proofs.Ythoiajpbpoglfaa

/- How long a graph that is handed in is: it is too long, or all of it is there. -/
namespace Go.Proofs.Ythoiajpbpoglfaa
set_option linter.unusedVariables false
set_option linter.unusedSimpArgs false
open Go.RowKit

theorem size_graph (a1 a2 : Option Addr) (n1 c1 n2 c2 : Nat) (w : World) (hz : OpG w a1 a2 n1 n2) :
    ∃ Z : Int, Hid (∀ u, Below w.heap.size w u → Calls Try.prog 6 #[.agg #[.slice a1 n1 c1, .slice a2 n2 c2], .int .i64 1048576] u fun e w' => e = .returned (.int .i64 Z) ∧ Below u.heap.size u w') ∧ Z ≤ 1048576 ∧ (Z < 0 ∨ 0 ≤ Z ∧ ∃ (ks : List Int) (bs : List Yg), ks.length = n1 ∧ bs.length = n2 ∧ RdG w ⟨a1, c1, ks, a2, c2, bs⟩) := by
  obtain ⟨l1, l2, hks, hbars⟩ := hz
  by_cases h1 : (n1 : Int) ≤ 1048576
  · obtain ⟨ks, rfl, hk⟩ := hks (by omega)
    by_cases h2 : (n2 : Int) ≤ 1048576 - ks.length
    · obtain ⟨hs, rfl, hh, hb⟩ := hbars (by omega)
      have hr := szYl_range hs (1048576 - ks.length - hs.length) (by omega)
      refine ⟨_, fun u hu => szGraph_any a1 a2 _ c1 _ c2 _ u l1 (show szYl hs (1048576 - ks.length - hs.length) = -1 ∨ _ by omega) (fun _ u' hu' => szBarS_in a2 c2 hs _ u' (hh.later (hu.trans (hu'.mono hu.size))) (by omega) (by omega) h2), ?_⟩
      rw [if_pos h1]
      refine ⟨by omega, ?_⟩
      by_cases h3 : szYl hs (1048576 - ks.length - hs.length) < 0
      · exact .inl h3
      · obtain ⟨bs, hbl, hbs⟩ := RdBr_of hh hb (L := 1048576 - ks.length - hs.length) (by omega) (by omega) (by omega)
        exact .inr ⟨by omega, ks, bs, rfl, hbl, hk, hbs⟩
    · refine ⟨_, fun u hu => szGraph_any a1 a2 _ c1 _ c2 (-1) u l1 (.inl rfl) (fun _ u' hu' => (szBarS_out a2 n2 c2 _ u' (by omega) (by omega) l2 h2).mono (fun e w' hh => ⟨hh.1, by rw [hh.2]; exact Below.refl _ _⟩)), ?_⟩
      rw [if_pos h1]
      exact ⟨by omega, .inl (by omega)⟩
  · refine ⟨_, fun u hu => szGraph_any a1 a2 _ c1 _ c2 (-1) u l1 (.inl rfl) (fun h => absurd h h1), ?_⟩
    rw [if_neg h1]
    exact ⟨by omega, .inl (by omega)⟩

end Go.Proofs.Ythoiajpbpoglfaa
