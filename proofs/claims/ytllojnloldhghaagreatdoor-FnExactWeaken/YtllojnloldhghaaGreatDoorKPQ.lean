/- How an argument that is a row of words is opened. -/
import Derived.Test.YtllojnloldhghaaGreatDoorZOA
import Derived.Test.YtllojnloldhghaaGreatDoorZKG
namespace Go.Proofs.YtllojnloldhghaaGreatDoor
set_option linter.unusedVariables false
set_option linter.unusedSimpArgs false
open Go.ChangeShapes Go.WideShapes Go.ChangeAt Go.RowKit Go.Joins

/-- The bits of a word as it lies. -/
def WordsOf (W : World) (h : Bh) : Prop := in64 h.wd ∧ (h.n ≤ 1048576 → ∃ ws : List Nat, ws.length = h.n ∧ Rd W h.a ws)

theorem WordsOf.later {w w' : World} {h : Bh} (k : WordsOf w h) (hb : Below w.heap.size w w') : WordsOf w' h :=
  ⟨k.1, fun hn => let ⟨ws, e, r⟩ := k.2 hn; ⟨ws, e, r.later hb⟩⟩

set_option maxRecDepth 100000 in
theorem open_bitss {H : Type} {enc : TypeId × Value → H} {W : World} {r : Reach} {b0 base : Nat} {v : Value} {d : DataW H} {p : List MemPlace}
    (hv : Value.okWide Tryz.prog W r b0 24 v) (h : DataW.Trod enc Tryz.prog W base (fun _ => true) true 24 v d p) :
    ∃ (a : Option Addr) (n c : Nat), v = .slice a n c ∧ n ≤ 9223372036854775807 ∧ (n ≤ 1048576 → ∃ hs : List Bh, hs.length = n ∧ RdBh W a hs ∧ ∀ h ∈ hs, WordsOf W h) := by
  obtain ⟨a1, len1, cap1, rfl⟩ := okWide_slice Tryz.underlying24 hv
  obtain ⟨fuel, hf⟩ := h
  rcases Deep.open_slice_pairs Tryz.underlying24 Tryz.underlying69 (by kernel_rfl) rfl rfl (by kernel_rfl) (by kernel_rfl) hf with ⟨hcs, _⟩ | ⟨x, len, cap, m2, n2, V0, V1, D0, D1, P0, P1, hcs, _, hl, hm, hz, _, hcell⟩
  · simp [Value.cells] at hcs
    obtain ⟨rfl, rfl, rfl⟩ := hcs
    exact ⟨none, 0, 0, rfl, by omega, fun _ => ⟨[], rfl, ⟨by simp, .inl rfl⟩, by simp⟩⟩
  · simp [Value.cells] at hcs
    obtain ⟨rfl, rfl, rfl⟩ := hcs
    refine ⟨some x, _, _, rfl, by unfold maxLen at hm; omega, fun hle => ?_⟩
    have each : ∀ i, i < len1 → ∃ h : Bh, W.cell? (x.add (i * 2)) = some (.int .i64 h.wd) ∧ W.cell? (x.add (i * 2 + 1)) = some (.slice h.a h.n h.c) ∧ h.n ≤ 9223372036854775807 ∧ WordsOf W h := by
      intro i hi
      simp at hz
      obtain ⟨h0, h1, h2, h3⟩ := hcell i (by omega)
      obtain ⟨y, e0, _, hy⟩ := DataW.trod_int Tryz.underlying2 h2
      obtain ⟨a, n, c, e1, hn, hk⟩ := open_words h3
      simp at e0
      rw [e0] at h0
      rw [e1] at h1
      exact ⟨⟨y, a, n, c⟩, h0, h1, hn, bounds_i64 hy, hk⟩
    haveI : Inhabited Bh := ⟨⟨0, none, 0, 0⟩⟩
    obtain ⟨q, hq⟩ := Deep.choose_lt each
    refine ⟨(List.range len1).map q, by simp, ⟨by simpa using hle, ?_⟩, ?_⟩
    · by_cases h0 : len1 = 0
      · left; simp [h0]
      · right
        obtain ⟨b, off, spot⟩ := x
        have hc0 := (hq 0 (by omega)).1
        have hspot : spot = none := by simpa [Addr.add] using World.cell?_spot hc0
        subst hspot
        refine ⟨b, off, rfl, fun i h hi => ?_⟩
        have hil : i < len1 := by have := (List.getElem?_eq_some_iff.1 hi).1; simpa using this
        simp [hil] at hi
        subst hi
        obtain ⟨k0, k1, k2, -⟩ := hq i hil
        rw [Addr.add_lit] at k0 k1
        exact ⟨k0, k1, k2⟩
    · intro h hh
      obtain ⟨i, hi, rfl⟩ := List.mem_map.1 hh
      exact (hq i (List.mem_range.1 hi)).2.2.2

/-- Where all is short enough the words are there. -/
theorem RdW_of {W : World} {a : Option Addr} {hs : List Bh} {L : Int} (hr : RdBh W a hs) (hk : ∀ h ∈ hs, WordsOf W h) (hL : 0 ≤ L) (hL2 : L ≤ 1048576) (hz : 0 ≤ szBl hs L) : ∃ xs : List Bw, xs.length = hs.length ∧ RdW W a xs := by
  have hlen := hr.1
  have hs1 : ∀ h ∈ hs, (h.n : Int) ≤ 1048576 := by
    rcases szBl_range hs L hL with e | ⟨-, -, e⟩
    · omega
    · intro h hh
      have := e h hh
      omega
  have each : ∀ i, i < hs.length → ∃ n : Bw, ∀ h, hs[i]? = some h → n.wd = h.wd ∧ n.a = h.a ∧ n.c = h.c ∧ n.ws.length = h.n ∧ Rd W n.a n.ws ∧ in64 n.wd := by
    intro i hi
    have hm : hs[i] ∈ hs := List.getElem_mem hi
    have h1 := hs1 _ hm
    obtain ⟨e0, hk0⟩ := hk _ hm
    obtain ⟨ws, e1, e2⟩ := hk0 (by omega)
    refine ⟨⟨hs[i].wd, hs[i].a, hs[i].c, ws⟩, fun h hh => ?_⟩
    rw [List.getElem?_eq_getElem hi] at hh
    cases hh
    exact ⟨rfl, rfl, rfl, e1, e2, e0⟩
  haveI : Inhabited Bw := ⟨⟨0, none, 0, []⟩⟩
  obtain ⟨q, hq⟩ := Deep.choose_lt each
  refine ⟨(List.range hs.length).map q, by simp, by simpa using hlen, ?_⟩
  rcases hr.2 with h | ⟨b, o, rfl, hc⟩
  · left; simp [h]
  · right
    refine ⟨b, o, rfl, fun i n hi => ?_⟩
    have hil : i < hs.length := by have := (List.getElem?_eq_some_iff.1 hi).1; simpa using this
    simp [hil] at hi
    subst hi
    have hg : hs[i]? = some hs[i] := List.getElem?_eq_getElem hil
    obtain ⟨e1, e2, e3, e4, e5, e6⟩ := hq i hil _ hg
    obtain ⟨f0, f1, -⟩ := hc i _ hg
    exact ⟨by rw [e1]; exact f0, by rw [e2, e3, e4]; exact f1, e5, e6⟩

end Go.Proofs.YtllojnloldhghaaGreatDoor
