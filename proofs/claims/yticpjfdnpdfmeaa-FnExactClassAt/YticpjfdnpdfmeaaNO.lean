/- How an argument that is classes is opened. -/
import Derived.Test.YticpjfdnpdfmeaaLO
import Derived.Test.YticpjfdnpdfmeaaND
namespace Go.Proofs.Yticpjfdnpdfmeaa
set_option linter.unusedVariables false
set_option linter.unusedSimpArgs false
open Go.ChangeShapes Go.WideShapes Go.ChangeAt Go.RowKit Go.Joins

set_option maxRecDepth 100000 in
theorem open_wd {H : Type} {enc : TypeId × Value → H} {W : World} {base fuel : Nat} {v : Value} {x : DataW H × List MemPlace}
    (h : DataW.trod enc Try.prog W base (fun _ => true) true fuel 66 [v] = some x) :
    ∃ (a : Option Addr) (n c : Nat), v = .slice a n c ∧ n ≤ 9223372036854775807 ∧ (n ≤ 1048576 → ∃ xs : List Nat, xs.length = n ∧ Rd W a xs) := by
  rcases open_ints Try.underlying66 Try.underlying122 (by kernel_rfl) h with ⟨hcs, _⟩ | ⟨x, len, cap, zs, hcs, _, hl, hm, hz, _, hcell, hwz⟩
  · simp at hcs
    subst hcs
    exact ⟨none, 0, 0, rfl, by omega, fun _ => ⟨[], rfl, by simp, by simp, .inl rfl⟩⟩
  · simp at hcs
    subst hcs
    refine ⟨some x, len, cap, rfl, by unfold maxLen at hm; omega, fun hle => ⟨(zs.take len).map Int.toNat, ?_, ?_, ?_, ?_⟩⟩
    · simp at hz ⊢; omega
    · simp at hz ⊢; omega
    · intro y hy
      obtain ⟨z, hz1, rfl⟩ := List.mem_map.1 hy
      have := bounds_u64 (hwz z (List.mem_of_mem_take hz1))
      omega
    · by_cases h0 : len = 0
      · left; simp [h0]
      · right
        simp at hz
        obtain ⟨b, off, spot⟩ := x
        have hc0 := hcell 0 (by omega)
        have hspot : spot = none := by simpa [Addr.add] using World.cell?_spot hc0
        subst hspot
        refine ⟨b, off, rfl, fun i hi => ?_⟩
        have hi' : i < len := by simp at hi; omega
        have hci := hcell i (by omega)
        have hw := bounds_u64 (hwz (zs.getD i 0) (by simp [List.getD, show i < zs.length by omega]))
        have e : ((((zs.take len).map Int.toNat).getD i 0 : Nat) : Int) = zs.getD i 0 := by
          simp [List.getD, hi', show i < zs.length by omega] at hw ⊢
          omega
        rw [e]
        rw [Addr.add_lit] at hci
        exact hci

set_option maxRecDepth 100000 in
theorem open_rows {H : Type} {enc : TypeId × Value → H} {W : World} {base fuel : Nat} {v : Value} {x : DataW H × List MemPlace}
    (g0 : DataW.trod enc Try.prog W base (fun _ => true) true fuel 34 [v] = some x) :
    ∃ (a : Option Addr) (n c : Nat), v = .slice a n c ∧ n ≤ 9223372036854775807 ∧ (n ≤ 1048576 → ∃ hs : List Ih, hs.length = n ∧ RdIh W a hs ∧ ∀ h ∈ hs, NumsOf W h) := by
  rcases Deep.open_slice1 Try.underlying34 (by kernel_rfl) g0 with ⟨hcs, _⟩ | ⟨x, len, cap, m2, n2, V, D, Pl, hcs, _, hl, hm, hz, _, hcell⟩
  · simp at hcs
    subst hcs
    exact ⟨none, 0, 0, rfl, by omega, fun _ => ⟨[], rfl, ⟨by simp, .inl rfl⟩, by simp⟩⟩
  · simp at hcs
    subst hcs
    refine ⟨some x, len, cap, rfl, by unfold maxLen at hm; omega, fun hle => ?_⟩
    have each : ∀ i, i < len → ∃ h : Ih, W.cell? (x.add i) = some (.slice h.a h.n h.c) ∧ h.n ≤ 9223372036854775807 ∧ NumsOf W h := by
      intro i hi
      simp at hz
      obtain ⟨h1, h3⟩ := hcell i (by omega)
      obtain ⟨a, n, c, e1, hn, hk⟩ := open_ks h3
      rw [e1] at h1
      exact ⟨⟨a, n, c⟩, h1, hn, hk⟩
    haveI : Inhabited Ih := ⟨⟨none, 0, 0⟩⟩
    obtain ⟨q, hq⟩ := Deep.choose_lt each
    refine ⟨(List.range len).map q, by simp, ⟨by simpa using hle, ?_⟩, ?_⟩
    · by_cases h0 : len = 0
      · left; simp [h0]
      · right
        obtain ⟨b, off, spot⟩ := x
        have hc0 := (hq 0 (by omega)).1
        have hspot : spot = none := by simpa [Addr.add] using World.cell?_spot hc0
        subst hspot
        refine ⟨b, off, rfl, fun i h hi => ?_⟩
        have hil : i < len := by have := (List.getElem?_eq_some_iff.1 hi).1; simpa using this
        simp [hil] at hi
        subst hi
        obtain ⟨k1, k2, -⟩ := hq i hil
        rw [Addr.add_lit] at k1
        exact ⟨k1, k2⟩
    · intro h hh
      obtain ⟨i, hi, rfl⟩ := List.mem_map.1 hh
      exact (hq i (List.mem_range.1 hi)).2.2


/-- What a class as it lies holds. -/
def ClOf (W : World) (h : Ch) : Prop := in64 h.bw ∧ (h.sn ≤ 1048576 → ∃ ks : List Int, ks.length = h.sn ∧ RdI W h.sa ks) ∧ (h.wn ≤ 1048576 → ∃ ws : List Nat, ws.length = h.wn ∧ Rd W h.wa ws)

set_option maxRecDepth 100000 in
theorem open_cl {H : Type} {enc : TypeId × Value → H} {W : World} {base fuel : Nat} {v : Value} {x : DataW H × List MemPlace}
    (hf : DataW.trod enc Try.prog W base (fun _ => true) true fuel 50 [v] = some x) :
    ∃ (a : Option Addr) (n c : Nat), v = .slice a n c ∧ n ≤ 9223372036854775807 ∧ (n ≤ 1048576 → ∃ hs : List Ch, hs.length = n ∧ RdCh W a hs ∧ ∀ h ∈ hs, ClOf W h) := by
  have ce : Try.prog.cellsOf 113 = 4 := by kernel_rfl
  have cB : Try.prog.cellsOf 68 = 2 := by kernel_rfl
  have cI : Try.prog.cellsOf 2 = 1 := by kernel_rfl
  have cb : Try.prog.cellsOf 4 = 1 := by kernel_rfl
  have cK : Try.prog.cellsOf 51 = 1 := by kernel_rfl
  have cW : Try.prog.cellsOf 66 = 1 := by kernel_rfl
  rcases Deep.open_slice Try.underlying50 hf with ⟨hcs, _⟩ | ⟨x, len, cap, m, n2, D, Pl, hcs, _, hl, hm, hz, _, hx⟩
  · simp at hcs
    subst hcs
    exact ⟨none, 0, 0, rfl, by omega, fun _ => ⟨[], rfl, ⟨by simp, .inl rfl⟩, by simp⟩⟩
  · simp at hcs
    subst hcs
    refine ⟨some x, len, cap, rfl, by unfold maxLen at hm; omega, fun hle => ?_⟩
    have each : ∀ i, i < len → ∃ h : Ch, (W.cell? (x.add (i * 4)) = some (.slice h.sa h.sn h.sc) ∧ W.cell? (x.add (i * 4 + 1)) = some (.bool h.fx) ∧ W.cell? (x.add (i * 4 + 2)) = some (.int .i64 h.bw) ∧ W.cell? (x.add (i * 4 + 3)) = some (.slice h.wa h.wn h.wc)) ∧ (h.sn ≤ 9223372036854775807 ∧ h.wn ≤ 9223372036854775807) ∧ ClOf W h := by
      intro i hi
      simp at hz
      obtain ⟨cs', h1, h2⟩ := hx i (by omega)
      rw [ce] at h1
      obtain ⟨_, hlen, hcell⟩ := World.cells?_some h1
      obtain ⟨ys, k, hk, hxy, _, hxl, hfd⟩ := DataW.trod_struct Try.underlying113 h2
      match ys, hxl, cs', hlen with
      | [y0, y1, y2], _, [v0, v1, v2, v3], _ =>
        have g0 := hfd 0 _ rfl
        have g1 := hfd 1 _ rfl
        have g2 := hfd 2 _ rfl
        simp [cB, cK, cb] at g0 g1 g2
        obtain ⟨a, n, c, e0, hn, hk0⟩ := open_ks g0
        obtain ⟨fx, e1, _⟩ := DataW.trod_bool Try.underlying4 g1
        obtain ⟨zs, k', hk', hxy', _, hxl', hfd'⟩ := DataW.trod_struct Try.underlying68 g2
        match zs, hxl' with
        | [z0, z1], _ =>
          have g4 := hfd' 0 _ rfl
          have g5 := hfd' 1 _ rfl
          simp [cI, cW] at g4 g5
          obtain ⟨n3, e3, _, w3⟩ := DataW.trod_int Try.underlying2 g4
          obtain ⟨a', n', c', e4, hn', hk4⟩ := open_wd g5
          have c0 := hcell 0 (by omega)
          have c1 := hcell 1 (by omega)
          have c2 := hcell 2 (by omega)
          have c3 := hcell 3 (by omega)
          rw [Deep.add_add] at c0 c1 c2 c3
          simp at e1 e3 c0 c1 c2 c3
          rw [e0] at c0
          rw [e1] at c1
          rw [e3] at c2
          rw [e4] at c3
          exact ⟨⟨a, n, c, fx, n3, a', n', c'⟩, ⟨c0, c1, c2, c3⟩, ⟨hn, hn'⟩, bounds_i64 w3, hk0, hk4⟩
    haveI : Inhabited Ch := ⟨⟨none, 0, 0, false, 0, none, 0, 0⟩⟩
    obtain ⟨q, hq⟩ := Deep.choose_lt each
    refine ⟨(List.range len).map q, by simp, ⟨by simpa using hle, ?_⟩, ?_⟩
    · by_cases h0 : len = 0
      · left; simp [h0]
      · right
        obtain ⟨b, off, spot⟩ := x
        have hc0 := (hq 0 (by omega)).1.1
        have hspot : spot = none := by simpa [Addr.add] using World.cell?_spot hc0
        subst hspot
        refine ⟨b, off, rfl, fun i h hi => ?_⟩
        have hil : i < len := by have := (List.getElem?_eq_some_iff.1 hi).1; simpa using this
        simp [hil] at hi
        subst hi
        obtain ⟨⟨k0, k1, k2, k3⟩, k5, -⟩ := hq i hil
        rw [Addr.add_lit] at k0 k1 k2 k3
        exact ⟨⟨k0, k1, k2, k3⟩, k5⟩
    · intro h hh
      obtain ⟨i, hi, rfl⟩ := List.mem_map.1 hh
      exact (hq i (List.mem_range.1 hi)).2.2

/-- Where all is short enough the classes are there. -/
theorem RdC_of {W : World} {a : Option Addr} {hs : List Ch} {L : Int} (hr : RdCh W a hs) (hk : ∀ h ∈ hs, ClOf W h) (hL : 0 ≤ L) (hL2 : L ≤ 1048576) (hz : 0 ≤ szCl hs L) : ∃ xs : List Cg, xs.length = hs.length ∧ RdC W a xs := by
  have hlen := hr.1
  have hs1 : ∀ h ∈ hs, (h.sn : Int) ≤ 1048576 ∧ (h.wn : Int) ≤ 1048576 := by
    rcases szCl_range hs L hL with e | ⟨-, -, e⟩
    · omega
    · intro h hh
      have := e h hh
      omega
  have each : ∀ i, i < hs.length → ∃ n : Cg, ∀ h, hs[i]? = some h → n.hd = h ∧ RdI W n.sa n.ct.ks ∧ Rd W n.wa n.ct.ws ∧ in64 n.ct.bw := by
    intro i hi
    have hm : hs[i] ∈ hs := List.getElem_mem hi
    obtain ⟨h1, h2⟩ := hs1 _ hm
    obtain ⟨e0, hk0, hk1⟩ := hk _ hm
    obtain ⟨ks, e1, e2⟩ := hk0 (by omega)
    obtain ⟨ws, e3, e4⟩ := hk1 (by omega)
    refine ⟨⟨⟨ks, hs[i].fx, hs[i].bw, ws⟩, hs[i].sa, hs[i].sc, hs[i].wa, hs[i].wc⟩, fun h hh => ?_⟩
    rw [List.getElem?_eq_getElem hi] at hh
    cases hh
    exact ⟨by simp [Cg.hd, e1, e3], e2, e4, e0⟩
  haveI : Inhabited Cg := ⟨⟨⟨[], false, 0, []⟩, none, 0, none, 0⟩⟩
  obtain ⟨q, hq⟩ := Deep.choose_lt each
  refine ⟨(List.range hs.length).map q, by simp, by simpa using hlen, ?_⟩
  rcases hr.2 with h | ⟨b, o, rfl, hc⟩
  · left; simp [h]
  · right
    refine ⟨b, o, rfl, fun i n hi => ?_⟩
    have hil : i < hs.length := by have := (List.getElem?_eq_some_iff.1 hi).1; simpa using this
    simp [hil] at hi
    subst hi
    have hg : hs[i]? = some hs[i] := List.getElem?_eq_getElem hil
    obtain ⟨e1, e2, e3⟩ := hq i hil _ hg
    obtain ⟨f0, -⟩ := hc i _ hg
    exact ⟨by rw [e1]; exact f0, e2, e3⟩

/-- What classes as they lie hold. -/
structure OpZ (W : World) (a1 a2 a3 : Option Addr) (n1 n2 n3 : Nat) : Prop where
  l1 : n1 ≤ 9223372036854775807
  l2 : n2 ≤ 9223372036854775807
  l3 : n3 ≤ 9223372036854775807
  cuts : n1 ≤ 1048576 → ∃ hs : List Ih, hs.length = n1 ∧ RdIh W a1 hs ∧ ∀ h ∈ hs, NumsOf W h
  list : n2 ≤ 1048576 → ∃ hs : List Ch, hs.length = n2 ∧ RdCh W a2 hs ∧ ∀ h ∈ hs, ClOf W h
  clash : n3 ≤ 1048576 → ∃ ks : List Int, ks.length = n3 ∧ RdI W a3 ks

set_option maxRecDepth 100000 in
theorem open_classes {H : Type} {enc : TypeId × Value → H} {W : World} {r : Reach} {b0 base : Nat} {v : Value} {d : DataW H} {p : List MemPlace}
    (hv : Value.okWide Try.prog W r b0 53 v) (h : DataW.Trod enc Try.prog W base (fun _ => true) true 53 v d p) :
    ∃ (a1 a2 a3 : Option Addr) (n1 c1 n2 c2 n3 c3 : Nat), v = .agg #[.slice a1 n1 c1, .slice a2 n2 c2, .slice a3 n3 c3] ∧ OpZ W a1 a2 a3 n1 n2 n3 := by
  obtain ⟨cs, rfl, hsz⟩ := okWide_struct Try.underlying53 hv
  have hC : Try.prog.cellsOf 53 = 3 := by kernel_rfl
  have hD : Try.prog.cellsOf 36 = 1 := by kernel_rfl
  have hS : Try.prog.cellsOf 34 = 1 := by kernel_rfl
  have hL : Try.prog.cellsOf 50 = 1 := by kernel_rfl
  have hK : Try.prog.cellsOf 51 = 1 := by kernel_rfl
  obtain ⟨fuel, hf⟩ := h
  obtain ⟨xs, m, _, _, _, hxl, hx⟩ := DataW.trod_struct Try.underlying53 hf
  obtain ⟨l⟩ := cs
  match l, hsz.trans hC, xs, hxl with
  | [v0, v1, v2], _, [y0, y1, y2], _ =>
    have g0 := hx 0 _ rfl
    have g1 := hx 1 _ rfl
    have g2 := hx 2 _ rfl
    simp [Value.cells, hD, hL, hK] at g0 g1 g2
    obtain ⟨zs, m', _, _, _, hzl, hz⟩ := DataW.trod_struct Try.underlying36 g0
    match zs, hzl with
    | [z0], _ =>
      have g3 := hz 0 _ rfl
      simp [hS] at g3
      obtain ⟨a1, n1, c1, e1, hn1, hk1⟩ := open_rows g3
      obtain ⟨a2, n2, c2, e2, hn2, hk2⟩ := open_cl g1
      obtain ⟨a3, n3, c3, e3, hn3, hk3⟩ := open_ks g2
      subst e1
      subst e2
      subst e3
      exact ⟨a1, a2, a3, n1, c1, n2, c2, n3, c3, rfl, hn1, hn2, hn3, hk1, hk2, hk3⟩

end Go.Proofs.Yticpjfdnpdfmeaa
