/- Several texts in one. -/
import Derived.Test.YtfanddpncipkkaaRows
import Derived.Test.YtfanddpncipkkaaKA
import Derived.ProofKit
import Derived.OpenShut
import Derived.ShutString
import Derived.ChangeOld
import Derived.Below
import Derived.Lib.SmallJoins
import Derived.Deep.SlicePairs
import Derived.Test.YtfanddpncipkkaaMB
import Derived.Test.YtfanddpncipkkaaSA
import Derived.Test.YtfanddpncipkkaaZFG
import Derived.Test.YtfanddpncipkkaaZFF

/- How an argument that is a row of declared variables is opened. -/
namespace Go.Proofs.Ytfanddpncipkkaa
set_option linter.unusedVariables false
set_option linter.unusedSimpArgs false
open Go.ChangeShapes Go.WideShapes Go.ChangeAt Go.RowKit Go.Joins

theorem own : ownKnob Try.prog.godebug = none := by kernel_rfl
theorem laidOut : laidOutB Try.prog = true := by kernel_rfl

set_option maxRecDepth 100000 in
theorem open_decls {H : Type} {enc : TypeId × Value → H} {W : World} {r : Reach} {b0 base : Nat} {v : Value} {d : DataW H} {p : List MemPlace}
    (hv : Value.okWide Try.prog W r b0 22 v) (h : DataW.Trod enc Try.prog W base (fun _ => true) true 22 v d p) :
    ∃ (a : Option Addr) (n c : Nat), v = .slice a n c ∧ n ≤ 9223372036854775807 ∧ (n ≤ 1048576 → ∃ ds : List Dc, ds.length = n ∧ RdD W a ds) := by
  obtain ⟨a1, len1, cap1, rfl⟩ := okWide_slice Try.underlying22 hv
  obtain ⟨fuel, hf⟩ := h
  rcases Deep.open_slice_pairs Try.underlying22 Try.underlying50 (by kernel_rfl) rfl rfl (by kernel_rfl) (by kernel_rfl) hf with ⟨hcs, _⟩ | ⟨x, len, cap, m2, n2, V0, V1, D0, D1, P0, P1, hcs, _, hl, hm, hz, _, hcell⟩
  · simp [Value.cells] at hcs
    obtain ⟨rfl, rfl, rfl⟩ := hcs
    exact ⟨none, 0, 0, rfl, by omega, fun _ => ⟨[], rfl, by simp, by simp, .inl rfl⟩⟩
  · simp [Value.cells] at hcs
    obtain ⟨rfl, rfl, rfl⟩ := hcs
    refine ⟨some x, _, _, rfl, by unfold maxLen at hm; omega, fun hle => ?_⟩
    have each : ∀ i, i < len1 → ∃ d : Dc, W.cell? (x.add (i * 2)) = some (.string d.1) ∧ W.cell? (x.add (i * 2 + 1)) = some (.int .i64 d.2) ∧ in64 d.2 ∧ d.1.size ≤ 9223372036854775807 := by
      intro i hi
      simp at hz
      obtain ⟨h0, h1, h2, h3⟩ := hcell i (by omega)
      obtain ⟨s, e0, _, hs⟩ := DataW.trod_string Try.underlying9 h2
      obtain ⟨y, e1, _, hy⟩ := DataW.trod_int Try.underlying2 h3
      simp at e0 e1
      rw [e0] at h0
      rw [e1] at h1
      exact ⟨(s, y), h0, h1, bounds_i64 hy, by unfold maxLen at hs; omega⟩
    haveI : Inhabited Dc := ⟨(.empty, 0)⟩
    obtain ⟨q, hq⟩ := Deep.choose_lt each
    refine ⟨(List.range len1).map q, by simp, by simpa using hle, ?_, ?_⟩
    · intro d hd
      obtain ⟨i, hi, rfl⟩ := List.mem_map.1 hd
      exact (hq i (List.mem_range.1 hi)).2.2
    · by_cases h0 : len1 = 0
      · left; simp [h0]
      · right
        obtain ⟨b, off, spot⟩ := x
        have hc0 := (hq 0 (by omega)).1
        have hspot : spot = none := by simpa [Addr.add] using World.cell?_spot hc0
        subst hspot
        refine ⟨b, off, rfl, fun i h hi => ?_⟩
        have hil : i < len1 := by have := (List.getElem?_eq_some_iff.1 hi).1; simpa using this
        simp [hil] at hi
        subst hi
        obtain ⟨k0, k1, -⟩ := hq i hil
        rw [Addr.add_lit] at k0 k1
        exact ⟨k0, k1⟩

end Go.Proofs.Ytfanddpncipkkaa

/- How an argument that is a row of segments is opened. -/
namespace Go.Proofs.Ytfanddpncipkkaa
set_option linter.unusedVariables false
set_option linter.unusedSimpArgs false
open Go.ChangeShapes Go.WideShapes Go.ChangeAt Go.RowKit Go.Joins

set_option maxRecDepth 100000 in
theorem open_words {H : Type} {enc : TypeId × Value → H} {W : World} {base fuel : Nat} {v : Value} {x : DataW H × List MemPlace}
    (h : DataW.trod enc Try.prog W base (fun _ => true) true fuel 43 [v] = some x) :
    ∃ (a : Option Addr) (n c : Nat), v = .slice a n c ∧ n ≤ 9223372036854775807 ∧ (n ≤ 1048576 → ∃ xs : List Nat, xs.length = n ∧ Rd W a xs) := by
  rcases open_ints Try.underlying43 Try.underlying94 (by kernel_rfl) h with ⟨hcs, _⟩ | ⟨x, len, cap, zs, hcs, _, hl, hm, hz, _, hcell, hwz⟩
  · simp at hcs
    subst hcs
    exact ⟨none, 0, 0, rfl, by omega, fun _ => ⟨[], rfl, by simp, by simp, .inl rfl⟩⟩
  · simp at hcs
    subst hcs
    refine ⟨some x, len, cap, rfl, by unfold maxLen at hm; omega, fun hle => ⟨(zs.take len).map Int.toNat, ?_, ?_, ?_, ?_⟩⟩
    · simp at hz ⊢; omega
    · simp at hz ⊢; omega
    · intro y hy
      obtain ⟨z, hz1, rfl⟩ := List.mem_map.1 hy
      have := bounds_u64 (hwz z (List.mem_of_mem_take hz1))
      omega
    · by_cases h0 : len = 0
      · left; simp [h0]
      · right
        simp at hz
        obtain ⟨b, off, spot⟩ := x
        have hc0 := hcell 0 (by omega)
        have hspot : spot = none := by simpa [Addr.add] using World.cell?_spot hc0
        subst hspot
        refine ⟨b, off, rfl, fun i hi => ?_⟩
        have hi' : i < len := by simp at hi; omega
        have hci := hcell i (by omega)
        have hw := bounds_u64 (hwz (zs.getD i 0) (by simp [List.getD, show i < zs.length by omega]))
        have e : ((((zs.take len).map Int.toNat).getD i 0 : Nat) : Int) = zs.getD i 0 := by
          simp [List.getD, hi', show i < zs.length by omega] at hw ⊢
          omega
        rw [e]
        rw [Addr.add_lit] at hci
        exact hci

/-- The bits of a segment as it lies. -/
def SegOf (W : World) (h : Sh) : Prop := (in64 h.v ∧ in64 h.lo ∧ in64 h.wd ∧ in64 h.bw) ∧ (h.n ≤ 1048576 → ∃ ws : List Nat, ws.length = h.n ∧ Rd W h.a ws)

set_option maxRecDepth 100000 in
theorem open_segs {H : Type} {enc : TypeId × Value → H} {W : World} {r : Reach} {b0 base : Nat} {v : Value} {d : DataW H} {p : List MemPlace}
    (hv : Value.okWide Try.prog W r b0 23 v) (h : DataW.Trod enc Try.prog W base (fun _ => true) true 23 v d p) :
    ∃ (a : Option Addr) (n c : Nat), v = .slice a n c ∧ n ≤ 9223372036854775807 ∧ (n ≤ 1048576 → ∃ hs : List Sh, hs.length = n ∧ RdSh W a hs ∧ ∀ h ∈ hs, SegOf W h) := by
  obtain ⟨a1, len1, cap1, rfl⟩ := okWide_slice Try.underlying23 hv
  obtain ⟨fuel, hf⟩ := h
  have ce : Try.prog.cellsOf 54 = 5 := by kernel_rfl
  have cB : Try.prog.cellsOf 52 = 2 := by kernel_rfl
  have cI : Try.prog.cellsOf 2 = 1 := by kernel_rfl
  have cW : Try.prog.cellsOf 43 = 1 := by kernel_rfl
  rcases Deep.open_slice Try.underlying23 hf with ⟨hcs, _⟩ | ⟨x, len, cap, m, n2, D, Pl, hcs, _, hl, hm, hz, _, hx⟩
  · simp [Value.cells] at hcs
    obtain ⟨rfl, rfl, rfl⟩ := hcs
    exact ⟨none, 0, 0, rfl, by omega, fun _ => ⟨[], rfl, ⟨by simp, .inl rfl⟩, by simp⟩⟩
  · simp [Value.cells] at hcs
    obtain ⟨rfl, rfl, rfl⟩ := hcs
    refine ⟨some x, _, _, rfl, by unfold maxLen at hm; omega, fun hle => ?_⟩
    have each : ∀ i, i < len1 → ∃ h : Sh, (W.cell? (x.add (i * 5)) = some (.int .i64 h.v) ∧ W.cell? (x.add (i * 5 + 1)) = some (.int .i64 h.lo) ∧ W.cell? (x.add (i * 5 + 2)) = some (.int .i64 h.wd) ∧ W.cell? (x.add (i * 5 + 3)) = some (.int .i64 h.bw) ∧ W.cell? (x.add (i * 5 + 4)) = some (.slice h.a h.n h.c)) ∧ h.n ≤ 9223372036854775807 ∧ SegOf W h := by
      intro i hi
      simp at hz
      obtain ⟨cs', h1, h2⟩ := hx i (by omega)
      rw [ce] at h1
      obtain ⟨_, hlen, hcell⟩ := World.cells?_some h1
      obtain ⟨ys, k, hk, hxy, _, hxl, hfd⟩ := DataW.trod_struct Try.underlying54 h2
      match ys, hxl, cs', hlen with
      | [y0, y1, y2, y3], _, [v0, v1, v2, v3, v4], _ =>
        have g0 := hfd 0 _ rfl
        have g1 := hfd 1 _ rfl
        have g2 := hfd 2 _ rfl
        have g3 := hfd 3 _ rfl
        simp [cB, cI] at g0 g1 g2 g3
        obtain ⟨n0, e0, _, w0⟩ := DataW.trod_int Try.underlying2 g0
        obtain ⟨n1, e1, _, w1⟩ := DataW.trod_int Try.underlying2 g1
        obtain ⟨n2', e2, _, w2⟩ := DataW.trod_int Try.underlying2 g2
        obtain ⟨zs, k', hk', hxy', _, hxl', hfd'⟩ := DataW.trod_struct Try.underlying52 g3
        match zs, hxl' with
        | [z0, z1], _ =>
          have g4 := hfd' 0 _ rfl
          have g5 := hfd' 1 _ rfl
          simp [cI, cW] at g4 g5
          obtain ⟨n3, e3, _, w3⟩ := DataW.trod_int Try.underlying2 g4
          obtain ⟨a, n, c, e4, hn, hk4⟩ := open_words g5
          have c0 := hcell 0 (by omega)
          have c1 := hcell 1 (by omega)
          have c2 := hcell 2 (by omega)
          have c3 := hcell 3 (by omega)
          have c4 := hcell 4 (by omega)
          rw [Deep.add_add] at c0 c1 c2 c3 c4
          simp at e0 e1 e2 e3 c0 c1 c2 c3 c4
          rw [e0] at c0
          rw [e1] at c1
          rw [e2] at c2
          rw [e3] at c3
          rw [e4] at c4
          exact ⟨⟨n0, n1, n2', n3, a, n, c⟩, ⟨c0, c1, c2, c3, c4⟩, hn, ⟨bounds_i64 w0, bounds_i64 w1, bounds_i64 w2, bounds_i64 w3⟩, hk4⟩
    haveI : Inhabited Sh := ⟨⟨0, 0, 0, 0, none, 0, 0⟩⟩
    obtain ⟨q, hq⟩ := Deep.choose_lt each
    refine ⟨(List.range len1).map q, by simp, ⟨by simpa using hle, ?_⟩, ?_⟩
    · by_cases h0 : len1 = 0
      · left; simp [h0]
      · right
        obtain ⟨b, off, spot⟩ := x
        have hc0 := (hq 0 (by omega)).1.1
        have hspot : spot = none := by simpa [Addr.add] using World.cell?_spot hc0
        subst hspot
        refine ⟨b, off, rfl, fun i h hi => ?_⟩
        have hil : i < len1 := by have := (List.getElem?_eq_some_iff.1 hi).1; simpa using this
        simp [hil] at hi
        subst hi
        obtain ⟨⟨k0, k1, k2, k3, k4⟩, k5, -⟩ := hq i hil
        rw [Addr.add_lit] at k0 k1 k2 k3 k4
        exact ⟨⟨k0, k1, k2, k3, k4⟩, k5⟩
    · intro h hh
      obtain ⟨i, hi, rfl⟩ := List.mem_map.1 hh
      exact (hq i (List.mem_range.1 hi)).2.2

/-- Where all is short enough the segments are there. -/
theorem RdS_of {W : World} {a : Option Addr} {hs : List Sh} {L : Int} (hr : RdSh W a hs) (hk : ∀ h ∈ hs, SegOf W h) (hL : 0 ≤ L) (hL2 : L ≤ 1048576) (hz : 0 ≤ szSl hs L) : ∃ xs : List Sg, xs.length = hs.length ∧ RdS W a xs := by
  have hlen := hr.1
  have hs1 : ∀ h ∈ hs, (h.n : Int) ≤ 1048576 := by
    rcases szSl_range hs L hL with e | ⟨-, -, e⟩
    · omega
    · intro h hh
      have := e h hh
      omega
  have each : ∀ i, i < hs.length → ∃ n : Sg, ∀ h, hs[i]? = some h → n.hd = h ∧ Rd W n.a n.ct.ws ∧ in64 n.ct.v ∧ in64 n.ct.lo ∧ in64 n.ct.wd ∧ in64 n.ct.bw := by
    intro i hi
    have hm : hs[i] ∈ hs := List.getElem_mem hi
    have h1 := hs1 _ hm
    obtain ⟨e0, hk0⟩ := hk _ hm
    obtain ⟨ws, e1, e2⟩ := hk0 (by omega)
    refine ⟨⟨⟨hs[i].v, hs[i].lo, hs[i].wd, hs[i].bw, ws⟩, hs[i].a, hs[i].c⟩, fun h hh => ?_⟩
    rw [List.getElem?_eq_getElem hi] at hh
    cases hh
    exact ⟨by simp [Sg.hd, e1], e2, e0⟩
  haveI : Inhabited Sg := ⟨⟨⟨0, 0, 0, 0, []⟩, none, 0⟩⟩
  obtain ⟨q, hq⟩ := Deep.choose_lt each
  refine ⟨(List.range hs.length).map q, by simp, by simpa using hlen, ?_⟩
  rcases hr.2 with h | ⟨b, o, rfl, hc⟩
  · left; simp [h]
  · right
    refine ⟨b, o, rfl, fun i n hi => ?_⟩
    have hil : i < hs.length := by have := (List.getElem?_eq_some_iff.1 hi).1; simpa using this
    simp [hil] at hi
    subst hi
    have hg : hs[i]? = some hs[i] := List.getElem?_eq_getElem hil
    obtain ⟨e1, e2, e3⟩ := hq i hil _ hg
    obtain ⟨f0, -⟩ := hc i _ hg
    exact ⟨by rw [e1]; exact f0, e2, e3⟩

end Go.Proofs.Ytfanddpncipkkaa

/- Declared variables and segments: copied, marked; how long they are. -/
namespace Go.Proofs.Ytfanddpncipkkaa
set_option linter.unusedVariables false
set_option linter.unusedSimpArgs false
open Go.RowKit

theorem Bz.out {u u' : World} {b B1 B2 : Nat} {cs : Array Value} {t : TypeId} (h : Bz u b cs t) (ho : Out B1 B2 u u') (hd : b < B1 ∨ B2 ≤ b) : Bz u' b cs t := by
  unfold Bz; rw [ho.2.2.2.2 b h.lt hd]; exact h
theorem rowIs_later {w w' : World} {g N : Nat} {t : TypeId} {f : Nat → Value} (h : w.rowIs g t N f) (hb : Below w.heap.size w w') : w'.rowIs g t N f := by
  obtain ⟨cc, hh, r⟩ := h
  exact World.rowIs.of_block ⟨cc, hh, r⟩ (hb.block g (lt_of_block hh))
theorem rowIs_out {w w' : World} {g N B1 B2 : Nat} {t : TypeId} {f : Nat → Value} (h : w.rowIs g t N f) (ho : Out B1 B2 w w') (hd : g < B1 ∨ B2 ≤ g) : w'.rowIs g t N f := by
  obtain ⟨cc, hh, r⟩ := h
  exact World.rowIs.of_block ⟨cc, hh, r⟩ (ho.2.2.2.2 g (lt_of_block hh) hd)
theorem rowIs_lt {w : World} {g N : Nat} {t : TypeId} {f : Nat → Value} (h : w.rowIs g t N f) : g < w.heap.size := by
  obtain ⟨cc, hh, -⟩ := h
  exact lt_of_block hh
theorem Out.bel {w v v' : World} {B1 B2 : Nat} (h : Below w.heap.size w v) (ho : Out B1 B2 v v') (h1 : w.heap.size ≤ B1) : Below w.heap.size w v' :=
  ⟨ho.1.trans h.os, ho.2.1.trans h.tape, ho.2.2.1.trans h.output, Nat.le_trans h.size ho.2.2.2.1, fun k hk => (ho.2.2.2.2 k (Nat.lt_of_lt_of_le hk h.size) (.inl (by omega))).trans (h.block k hk)⟩

theorem Out.of {B1 B2 : Nat} {w w' : World} (h : Below w.heap.size w w') : Out B1 B2 w w' := ⟨h.os, h.tape, h.output, h.size, fun k hk _ => h.block k hk⟩
theorem Out.wide {B1 B2 C1 C2 : Nat} {w w' : World} (h : Out B1 B2 w w') (h1 : C1 ≤ B1) (h2 : B2 ≤ C2) : Out C1 C2 w w' := ⟨h.1, h.2.1, h.2.2.1, h.2.2.2.1, fun k hk hc => h.2.2.2.2 k hk (by omega)⟩
theorem grow_set {w wr : World} {g : Nat} (h : w.grownBy wr (some g)) (i : Nat) (v : Value) : w.grownBy (wr.setCell ⟨g, i, none⟩ v) (some g) :=
  ⟨h.os, h.tape, h.output, by simpa using h.size, fun k hk hne => by rw [heap_setCell_other wr ⟨g, i, none⟩ k v (fun e => hne (by simp [e]))]; exact h.block k hk hne⟩

/-- Outside of the blocks B1 .. B2 - 1 nothing has turned. -/

theorem toDeclS_row (a : Option Addr) (c : Nat) (ds : List Dc) (w : World) (hr : RdD w a ds) :
    Calls Try.prog 9 #[.slice a ds.length c] w fun e w' => e = .returned (.slice (some ⟨w.heap.size, 0, none⟩) ds.length ds.length) ∧ RdD w' (some ⟨w.heap.size, 0, none⟩) ds ∧ (∃ f, w'.rowIs w.heap.size 59 (ds.length * 2) f) ∧ Below w.heap.size w w' := by
  have hlen := hr.1
  have hmk := make_decls ds.length hlen
  go_enter Try.func9, Try.ntmps9
  go_wp2_with fail
  have hrow := krow (heap_alloc_new w (.cells (madeCells #[.string .empty, .int .i64 0] (ds.length * 2)) 59))
  rw [size_madeCells] at hrow
  have hb0 : Below w.heap.size w (w.alloc (.cells (madeCells #[.string .empty, .int .i64 0] (ds.length * 2)) 59)) := (Below.refl _ _).alloc (Nat.le_refl _) _
  have hs0 : w.heap.size < (w.alloc (.cells (madeCells #[.string .empty, .int .i64 0] (ds.length * 2)) 59)).heap.size := by simp
  generalize (w.alloc (.cells (madeCells #[.string .empty, .int .i64 0] (ds.length * 2)) 59)) = w0 at *
  go_loopw [4] (fun i wr => ∃ (k : Nat) (f : Nat → Value), k ≤ ds.length ∧ i = .int .i64 k ∧ wr.rowIs w.heap.size 59 (ds.length * 2) f ∧ (∀ (j : Nat) (d : Dc), j < k → ds[j]? = some d → f (j * 2) = .string d.1 ∧ f (j * 2 + 1) = .int .i64 d.2) ∧ Below w.heap.size w wr ∧ w.heap.size < wr.heap.size) (fun i _ => ds.length - (intOf i).toNat)
  case atStart => exact ⟨0, _, Nat.zero_le _, rfl, hrow, fun j d h => by omega, hb0, hs0⟩
  case round =>
    obtain ⟨k, f, hk, rfl, hrw, hms, hbel, hsz⟩ := hrel
    clear hrow hb0 hs0
    by_cases hlt : k < ds.length
    · obtain ⟨-, -, h | ⟨b, o, rfl, hc⟩⟩ := hr
      · subst h; simp at hlt
      obtain ⟨⟨t, x⟩, hh⟩ : ∃ x, ds[k] = x := ⟨_, rfl⟩
      have gx : ds[k]? = some (t, x) := by rw [List.getElem?_eq_getElem hlt, hh]
      obtain ⟨p0, p1⟩ := (hc k _ gx).later hbel
      simp only [] at p0 p1
      have GX : Hid _ := gx
      have HMS : Hid _ := hms
      have HR : Hid _ := hrw
      have HB : Hid _ := hbel
      have i0 : (k : Int) < (ds.length : Int) := by omega
      clear gx hms hc hrw hbel hmk hh
      go_wp2_with fail
      refine (toDecl_any _ _ _).mono ?_
      rintro e w1 ⟨rfl, hb1⟩
      have hr1 := World.rowIs.of_block HR.out (hb1.block _ hsz)
      have q0 := hr1.cell (i := k * 2) (by omega)
      have q1 := hr1.cell (i := k * 2 + 1) (by omega)
      have r0 := hr1.frozen (k * 2)
      have r1 := hr1.frozen (k * 2 + 1)
      have HR1 : Hid _ := hr1
      clear hr1
      go_wp2_with fail
      go_roundw
      case rel =>
        refine ⟨k + 1, _, by omega, by go_num, World.rowIs.set (World.rowIs.set HR1.out (k * 2) (.string t)) (k * 2 + 1) (.int .i64 x), fun j d hj hd => ?_, ?_, ?_⟩
        · by_cases hjk : j = k
          · subst hjk
            rw [GX.out] at hd
            cases hd
            exact ⟨by simp, by simp⟩
          · obtain ⟨h0, h1⟩ := HMS.out j d (by omega) hd
            constructor
            · show (if _ then _ else _) = _
              rw [if_neg (by omega), if_neg (by omega)]; exact h0
            · show (if _ then _ else _) = _
              rw [if_neg (by omega), if_neg (by omega)]; exact h1
        · exact ((HB.out.trans (hb1.mono HB.out.size)).setCell (Nat.le_refl _) _).setCell (Nat.le_refl _) _
        · have := hb1.size
          simp; omega
      case measure => simp [intOf]; omega
    · have HS : Hid _ := hms
      have HR : Hid _ := hrw
      have HB : Hid _ := hbel
      clear hms hrw hbel hmk
      go_wp2_with fail
      go_ret
      refine ⟨rfl, ⟨hr.1, hr.2.1, .inr ⟨_, 0, rfl, fun i d hi => ?_⟩⟩, ⟨f, HR.out⟩, HB.out⟩
      have hil := (List.getElem?_eq_some_iff.1 hi).1
      obtain ⟨h0, h1⟩ := HS.out i d (by omega) hi
      refine ⟨?_, ?_⟩
      · rw [Nat.zero_add, ← h0]; exact World.rowIs.cell HR.out (by omega)
      · rw [Nat.zero_add, ← h1]; exact World.rowIs.cell HR.out (by omega)


set_option maxRecDepth 100000 in
theorem markText_any (k : Nat) (w : World) (hk : k ≤ 300000000) :
    Calls Try.prog 36 #[.int .i64 (k : Int)] w fun e w' => (∃ s : ByteArray, e = .returned (.string s)) ∧ Below w.heap.size w w' := by
  by_cases h0 : k = 0
  · subst h0
    go_enter Try.func36, Try.ntmps36
    go_wp2_with fail
    go_ret
    exact ⟨⟨_, rfl⟩, Below.refl _ _⟩
  · have h1 : ¬ (k : Int) ≤ 0 := by omega
    clear h0
    go_enter Try.func36, Try.ntmps36
    go_wp2_with fail
    go_loopw [0, 3] (fun q l wr => ∃ (m : Nat) (t : ByteArray), m ≤ 300000000 ∧ t.size + m ≤ 300000000 ∧ q = .int .i64 (m : Int) ∧ l = .string t ∧ Below w.heap.size w wr) (fun q _ _ => (intOf q).toNat)
    case atStart => exact ⟨k, ⟨#[]⟩, hk, by show 0 + k ≤ _; omega, rfl, rfl, Below.refl _ _⟩
    case round =>
      obtain ⟨m, t, hm, hmt, rfl, rfl, hbel⟩ := hrel
      have HB := kide hbel
      clear hbel
      by_cases hz : m = 0
      · subst hz
        go_wp2_with fail
        go_ret
        exact ⟨⟨_, rfl⟩, HB.out⟩
      · have hp : (0 : Int) < (m : Int) := by omega
        clear hz
        have hcv : (convert 39 9 (.slice (some ⟨wr.heap.size, 0, none⟩) 1 1)).run Try.prog (wr.alloc (Obj.cells #[Value.int .u8 (48 + (m : Int) % 10)] 5)) = .ok (.string ⟨#[UInt8.ofNat (48 + m % 10)]⟩) (wr.alloc (Obj.cells #[Value.int .u8 (48 + (m : Int) % 10)] 5)) := by
          have h := run_convert_bytes_back (P := Try.prog) (wr.alloc (Obj.cells #[Value.int .u8 (48 + (m : Int) % 10)] 5)) 39 9 5 ⟨wr.heap.size, 0, none⟩ 1 [UInt8.ofNat (48 + m % 10)] Try.underlying39 Try.underlying5 Try.underlying9 (fun j hj => by
            have hj0 : j = 0 := by simpa using hj
            subst hj0
            have e : ((UInt8.ofNat (48 + m % 10)).toNat : Int) = 48 + (m : Int) % 10 := by
              rw [UInt8.toNat_ofNat']
              omega
            rw [Addr.add_lit]
            simp [e]
            omega)
          exact h
        have HA := kide (HB.out.alloc HB.out.size (Obj.cells #[Value.int .u8 (48 + (m : Int) % 10)] 5))
        generalize hs1 : (⟨#[UInt8.ofNat (48 + m % 10)]⟩ : ByteArray) = s1 at hcv
        have hs1z : s1.size = 1 := by rw [← hs1]; rfl
        clear hs1
        go_wp2_with fail
        go_roundw
        case rel => exact ⟨m / 10, s1 ++ t, by omega, by rw [ByteArray.size_append]; omega, by simp, rfl, HA.out⟩
        case measure => simp [intOf]; omega

theorem markDeclS_any (g c n k : Nat) (f : Nat → Value) (w : World) (hr : w.rowIs g 59 (n * 2) f) (hn : n ≤ 1048576) (hk : k ≤ 1048576) :
    Calls Try.prog 14 #[.slice (some ⟨g, 0, none⟩) n c, .int .i64 (k : Int)] w fun e w' => e = .returned (.int .i64 ((k + n * 2 : Nat) : Int)) ∧ w.grownBy w' (some g) := by
  go_enter Try.func14, Try.ntmps14
  go_wp2_with fail
  go_loopw [1, 5] (fun q i wr => ∃ (j : Nat) (f' : Nat → Value), j ≤ n ∧ i = .int .i64 (j : Int) ∧ q = .int .i64 ((k + j * 2 : Nat) : Int) ∧ wr.rowIs g 59 (n * 2) f' ∧ w.grownBy wr (some g)) (fun _ i _ => n - (intOf i).toNat)
  case atStart => exact ⟨0, f, Nat.zero_le _, rfl, by simp, hr, ⟨rfl, rfl, rfl, Nat.le_refl _, fun _ _ _ => rfl⟩⟩
  case round =>
    obtain ⟨j, f', hj, rfl, rfl, hrow, hg⟩ := hrel
    by_cases hlt : j < n
    · have hgl : g < wr.heap.size := by
        obtain ⟨cc, hh, -⟩ := hrow
        exact lt_of_block hh
      generalize hK : k + j * 2 = K at *
      have HK := kide hK
      have hKb : K ≤ 300000000 := by omega
      have i0 : (j : Int) < (n : Int) := by omega
      have HMT := kide (markText_any K wr hKb)
      have HRW := kide hrow
      have HG := kide hg
      clear hrow hg hK
      go_wp2_with fail
      refine Calls.mono HMT.out ?_
      rintro e w1 ⟨⟨t, rfl⟩, hb1⟩
      have hr1 := World.rowIs.of_block HRW.out (hb1.block _ hgl)
      have q0 := hr1.cell (i := j * 2) (by omega)
      have q1 := hr1.cell (i := j * 2 + 1) (by omega)
      have r0 := hr1.frozen (j * 2)
      have r1 := hr1.frozen (j * 2 + 1)
      have HR1 := kide hr1
      have HG1 : Hid (w.grownBy w1 (some g)) := ⟨hb1.os.trans HG.out.os, hb1.tape.trans HG.out.tape, hb1.output.trans HG.out.output, Nat.le_trans HG.out.size hb1.size, fun q hq hne => (hb1.block q (Nat.lt_of_lt_of_le hq HG.out.size)).trans (HG.out.block q hq hne)⟩
      clear hr1 hb1
      go_wp2_with fail
      go_roundw
      case rel =>
        refine ⟨j + 1, _, by omega, by go_num, ?_, World.rowIs.set (World.rowIs.set HR1.out (j * 2) (.string t)) (j * 2 + 1) (.int .i64 ((K : Int) + 1)), grow_set (grow_set HG1.out (j * 2) _) (j * 2 + 1) _⟩
        rw [show k + (j + 1) * 2 = K + 2 by have := HK.out; omega]
        first | go_num | (congr 1; push_cast; omega) | (simp; omega)
      case measure => simp [intOf]; omega
    · have e : j = n := by omega
      subst e
      have HG := kide hg
      clear hrow hg
      go_wp2_with fail
      go_ret
      exact ⟨rfl, HG.out⟩

theorem markDeclS_one (g c n : Nat) (f : Nat → Value) (w : World) (hr : w.rowIs g 59 (n * 2) f) (hn : n ≤ 1048576) :
    Calls Try.prog 14 #[.slice (some ⟨g, 0, none⟩) n c, .int .i64 1] w fun e w' => e = .returned (.int .i64 ((1 + n * 2 : Nat) : Int)) ∧ Out g (g + 1) w w' := by
  refine Calls.mono (markDeclS_any g c n 1 f w hr hn (by omega)) ?_
  rintro e w' ⟨rfl, hg⟩
  exact ⟨rfl, Out.grown hg (Nat.le_refl _) (Nat.lt_succ_self _)⟩

theorem TyW.out {w w' : World} {lo hi B1 B2 n : Nat} {a : Option Addr} (h : TyW w lo hi a n) (ho : Out B1 B2 w w') (hd : hi ≤ B1 ∨ B2 ≤ lo) : TyW w' lo hi a n := by
  obtain ⟨h0, g, cur, e, h1, h2, h3, h4⟩ := h
  exact ⟨h0, g, cur, e, h1, h2, by rw [ho.2.2.2.2 g (lt_of_block h3) (by omega)]; exact h3, h4⟩

set_option maxHeartbeats 1000000 in
theorem toSegS_own (a : Option Addr) (c : Nat) (xs : List Sg) (w : World) (hr : RdS w a xs) :
    Calls Try.prog 10 #[.slice a xs.length c] w fun e w' => ∃ ms : List Sg, e = .returned (.slice (some ⟨w.heap.size, 0, none⟩) xs.length xs.length) ∧ ms.map Sg.ct = xs.map Sg.ct ∧ RdS w' (some ⟨w.heap.size, 0, none⟩) ms ∧ (∃ f, w'.rowIs w.heap.size 47 (xs.length * 5) f ∧ ∀ j x, ms[j]? = some x → SgOwn w' w.heap.size f j x) ∧ Below w.heap.size w w' := by
  have hlen := hr.1
  have hmk := make_segs xs.length hlen
  go_enter Try.func10, Try.ntmps10
  go_wp2_with fail
  have hrow := krow (heap_alloc_new w (.cells (madeCells #[.int .i64 0, .int .i64 0, .int .i64 0, .int .i64 0, .slice none 0 0] (xs.length * 5)) 47))
  rw [size_madeCells] at hrow
  have hb0 : Below w.heap.size w (w.alloc (.cells (madeCells #[.int .i64 0, .int .i64 0, .int .i64 0, .int .i64 0, .slice none 0 0] (xs.length * 5)) 47)) := (Below.refl _ _).alloc (Nat.le_refl _) _
  have hs0 : w.heap.size < (w.alloc (.cells (madeCells #[.int .i64 0, .int .i64 0, .int .i64 0, .int .i64 0, .slice none 0 0] (xs.length * 5)) 47)).heap.size := by simp
  generalize (w.alloc (.cells (madeCells #[.int .i64 0, .int .i64 0, .int .i64 0, .int .i64 0, .slice none 0 0] (xs.length * 5)) 47)) = w0 at *
  go_loopw [4] (fun i wr => ∃ (k : Nat) (f : Nat → Value) (ms : List Sg), k ≤ xs.length ∧ i = .int .i64 k ∧ wr.rowIs w.heap.size 47 (xs.length * 5) f ∧ ms.length = k ∧ ms.map Sg.ct = (xs.take k).map Sg.ct ∧ (∀ j x, ms[j]? = some x → SgOwn wr w.heap.size f j x) ∧ Below w.heap.size w wr ∧ w.heap.size < wr.heap.size) (fun i _ => xs.length - (intOf i).toNat)
  case atStart => exact ⟨0, _, [], Nat.zero_le _, rfl, hrow, rfl, rfl, fun j x h => by simp at h, hb0, hs0⟩
  case round =>
    obtain ⟨k, f, ms, hk, rfl, hrw, hml, hmc, hms, hbel, hsz⟩ := hrel
    clear hrow hb0 hs0
    by_cases hlt : k < xs.length
    · obtain ⟨-, h | ⟨b, o, rfl, hc⟩⟩ := hr
      · subst h; simp at hlt
      obtain ⟨⟨s1, a1, c1⟩, hx⟩ : ∃ x, xs[k] = x := ⟨_, rfl⟩
      have gx : xs[k]? = some ⟨s1, a1, c1⟩ := by rw [List.getElem?_eq_getElem hlt, hx]
      obtain ⟨⟨p0, p1, p2, p3, p4⟩, pr, -⟩ := (hc k _ gx).later hbel
      simp only [Sg.hd] at p0 p1 p2 p3 p4 pr
      clear hx
      have HTO := kide (toSeg_any s1 a1 c1 wr pr)
      have GX : Hid _ := gx
      have HML : Hid _ := hml
      have HMC : Hid _ := hmc
      have HMS : Hid _ := hms
      have HR : Hid _ := hrw
      have HB : Hid _ := hbel
      have i0 : (k : Int) < (xs.length : Int) := by omega
      clear gx hml hmc hms hc hrw hbel hmk pr
      obtain ⟨v, lo, wd, bw, ws⟩ := s1
      simp only [] at p0 p1 p2 p3 p4 HTO
      go_wp2_with fail
      refine Calls.mono HTO.out ?_
      rintro e w1 ⟨g, rfl, hg, hown, hb1⟩
      have hr1 := World.rowIs.of_block HR.out (hb1.block _ hsz)
      have q0 := hr1.cell (i := k * 5) (by omega)
      have q1 := hr1.cell (i := k * 5 + 1) (by omega)
      have q2 := hr1.cell (i := k * 5 + 2) (by omega)
      have q3 := hr1.cell (i := k * 5 + 3) (by omega)
      have q4 := hr1.cell (i := k * 5 + 4) (by omega)
      have r0 := hr1.frozen (k * 5)
      have r1 := hr1.frozen (k * 5 + 1)
      have r2 := hr1.frozen (k * 5 + 2)
      have r3 := hr1.frozen (k * 5 + 3)
      have r4 := hr1.frozen (k * 5 + 4)
      have HR1 : Hid _ := hr1
      clear hr1
      go_wp2_with fail
      go_roundw
      case rel =>
        have hl := HML.out
        have hgk : w.heap.size < g := by omega
        refine ⟨k + 1, _, ms ++ [⟨⟨v, lo, wd, bw, ws⟩, some ⟨g, 0, none⟩, ws.length⟩], by omega, by go_num, World.rowIs.set (World.rowIs.set (World.rowIs.set (World.rowIs.set (World.rowIs.set HR1.out (k * 5) (.int .i64 v)) (k * 5 + 1) (.int .i64 lo)) (k * 5 + 2) (.int .i64 wd)) (k * 5 + 3) (.int .i64 bw)) (k * 5 + 4) (.slice (some ⟨g, 0, none⟩) ws.length ws.length), by simp [hl], ?_, fun j x hj => ?_, ?_, ?_⟩
        · have h := HMC.out
          rw [List.map_append, h, List.take_add_one, GX.out, List.map_append]
          rfl
        · rw [List.getElem?_append] at hj
          split at hj
          · refine ((HMS.out j x hj).later hb1).put (k := k) (fun g' hg' => ?_) (fun i hi => ?_) (by omega)
            · rw [heap_setCell_other _ _ _ _ (by simp; omega), heap_setCell_other _ _ _ _ (by simp; omega), heap_setCell_other _ _ _ _ (by simp; omega), heap_setCell_other _ _ _ _ (by simp; omega), heap_setCell_other _ _ _ _ (by simp; omega)]
            · show (if _ then _ else _) = _
              rw [if_neg (by omega), if_neg (by omega), if_neg (by omega), if_neg (by omega), if_neg (by omega)]
          · have hj2 : j - ms.length = 0 := by
              have := (List.getElem?_eq_some_iff.1 hj).1
              simp at this; exact this
            rw [hj2] at hj
            simp at hj
            subst hj
            have hjk : j = k := by omega
            subst hjk
            refine ⟨by simp, by simp, by simp, by simp, by simp, g, rfl, hgk, ?_⟩
            exact ((((hown.other (by simp; omega) _).other (by simp; omega) _).other (by simp; omega) _).other (by simp; omega) _).other (by simp; omega) _
        · exact (((((HB.out.trans (hb1.mono HB.out.size)).setCell (Nat.le_refl _) _).setCell (Nat.le_refl _) _).setCell (Nat.le_refl _) _).setCell (Nat.le_refl _) _).setCell (Nat.le_refl _) _
        · have := hb1.size
          simp; omega
      case measure => simp [intOf]; omega
    · have e : k = xs.length := by omega
      have HM : Hid _ := hml
      have HC : Hid _ := hmc
      have HS : Hid _ := hms
      have HR : Hid _ := hrw
      have HB : Hid _ := hbel
      have HE : Hid _ := e
      clear hml hmc hms hrw hbel e hmk
      go_wp2_with fail
      go_ret
      refine ⟨ms, rfl, ?_, ⟨by rw [HM.out]; omega, .inr ⟨_, 0, rfl, fun i x hi => ?_⟩⟩, ⟨f, HR.out, HS.out⟩, HB.out⟩
      · have h := HC.out
        rw [HE.out, List.take_length] at h
        exact h
      · obtain ⟨h0, h1, h2, h3, h4, g, h5, h6, h7⟩ := HS.out i x hi
        have hik : i < k := by have := (List.getElem?_eq_some_iff.1 hi).1; rw [HM.out] at this; exact this
        have hct : ∃ y, xs[i]? = some y ∧ y.ct = x.ct := by
          have h := HC.out
          rw [HE.out, List.take_length] at h
          have h' : (ms.map Sg.ct)[i]? = (xs.map Sg.ct)[i]? := by rw [h]
          rw [List.getElem?_map, List.getElem?_map, hi, Option.map_some] at h'
          cases hy : xs[i]? with
          | none => rw [hy] at h'; cases h'
          | some y => rw [hy] at h'; simp at h'; exact ⟨y, rfl, h'.symm⟩
        obtain ⟨y, hy, hyx⟩ := hct
        obtain ⟨-, hn | ⟨b, o, -, hc⟩⟩ := hr
        · subst hn; simp at hy
        obtain ⟨-, ⟨l1, l2, -⟩, l3⟩ := hc i y hy
        rw [hyx] at l1 l2 l3
        refine ⟨⟨?_, ?_, ?_, ?_, ?_⟩, ?_, l3⟩
        · rw [Nat.zero_add]; exact (World.rowIs.cell HR.out (by omega)).trans (congrArg some h0)
        · rw [Nat.zero_add]; exact (World.rowIs.cell HR.out (by omega)).trans (congrArg some h1)
        · rw [Nat.zero_add]; exact (World.rowIs.cell HR.out (by omega)).trans (congrArg some h2)
        · rw [Nat.zero_add]; exact (World.rowIs.cell HR.out (by omega)).trans (congrArg some h3)
        · rw [Nat.zero_add]; exact (World.rowIs.cell HR.out (by omega)).trans (congrArg some h4)
        · rw [h5]
          exact Own.rd h7 l1 l2

/-- A row of n segments in a block of them. -/
def TySg (w : World) (lo hi : Nat) (a : Option Addr) (n : Nat) : Prop := n ≤ 1048576 ∧ ∃ h cur, a = some ⟨h, 0, none⟩ ∧ lo ≤ h ∧ h < hi ∧ w.heap[h]? = some (.cells cur 47 (0, 0)) ∧ ∀ i, i < n → (∃ x : Int, cur[i * 5]? = some (.int .i64 x)) ∧ (∃ x : Int, cur[i * 5 + 1]? = some (.int .i64 x)) ∧ (∃ x : Int, cur[i * 5 + 2]? = some (.int .i64 x)) ∧ (∃ x : Int, cur[i * 5 + 3]? = some (.int .i64 x)) ∧ ∃ a' m c, cur[i * 5 + 4]? = some (.slice a' m c) ∧ TyW w lo hi a' m
theorem TySg.shp {w w' : World} {lo hi n : Nat} {a : Option Addr} (h : TySg w lo hi a n) (hs : Shp w w') : TySg w' lo hi a n := by
  obtain ⟨h0, g, cur, e, h1, h2, h3, h4⟩ := h
  obtain ⟨cur', e', r⟩ := hs g cur _ h3
  refine ⟨h0, g, cur', e, h1, h2, e', fun i hi => ?_⟩
  obtain ⟨i1, i2, i3, i6, a', m, c, i4, i5⟩ := h4 i hi
  obtain ⟨v', j1, j2⟩ := r _ _ i4
  exact ⟨keep_int r i1, keep_int r i2, keep_int r i3, keep_int r i6, a', m, c, by rw [← j2.slice]; exact j1, i5.shp hs⟩
theorem TySg.of {w : World} {G n : Nat} {f : Nat → Value} {ms : List Sg} (hr : w.rowIs G 47 (n * 5) f) (hn : ms.length = n) (hn2 : n ≤ 1048576) (h : ∀ j x, ms[j]? = some x → SgOwn w G f j x) (hw : ∀ x ∈ ms, x.ct.ws.length ≤ 1048576) : TySg w G w.heap.size (some ⟨G, 0, none⟩) n := by
  obtain ⟨cur, h1, h2, h3⟩ := hr
  refine ⟨hn2, G, cur, rfl, Nat.le_refl _, lt_of_block h1, h1, fun i hi => ?_⟩
  obtain ⟨x, gx⟩ : ∃ x, ms[i]? = some x := ⟨ms[i]'(by omega), List.getElem?_eq_getElem _⟩
  obtain ⟨k0, k1, k2, k3, k4, g, k5, k6, k7⟩ := h i x gx
  exact ⟨⟨_, by rw [h3 _ (by omega), k0]⟩, ⟨_, by rw [h3 _ (by omega), k1]⟩, ⟨_, by rw [h3 _ (by omega), k2]⟩, ⟨_, by rw [h3 _ (by omega), k3]⟩, _, _, _, by rw [h3 _ (by omega), k4], hw x (List.mem_of_getElem? gx), g, u64s x.ct.ws, k5, by omega, k7.lt, k7, fun j hj => ⟨_, u64s_get _ _ hj⟩⟩
theorem TySg.out {w w' : World} {lo hi n B1 B2 : Nat} {a : Option Addr} (h : TySg w lo hi a n) (ho : Out B1 B2 w w') (hd : hi ≤ B1 ∨ B2 ≤ lo) : TySg w' lo hi a n := by
  obtain ⟨h0, g, cur, e, h1, h2, h3, h4⟩ := h
  refine ⟨h0, g, cur, e, h1, h2, (ho.2.2.2.2 g (lt_of_block h3) (by omega)).trans h3, fun i hi' => ?_⟩
  obtain ⟨i1, i2, i3, i6, a', m, c, i4, i5⟩ := h4 i hi'
  exact ⟨i1, i2, i3, i6, a', m, c, i4, i5.out ho hd⟩

theorem toSegS_ty (a : Option Addr) (c n : Nat) (xs : List Sg) (w : World) (hr : RdS w a xs) (hn : xs.length = n) :
    Calls Try.prog 10 #[.slice a n c] w fun e w' => ∃ ms : List Sg, e = .returned (.slice (some ⟨w.heap.size, 0, none⟩) n n) ∧ ms.map Sg.ct = xs.map Sg.ct ∧ RdS w' (some ⟨w.heap.size, 0, none⟩) ms ∧ TySg w' w.heap.size w'.heap.size (some ⟨w.heap.size, 0, none⟩) n ∧ Below w.heap.size w w' := by
  subst hn
  refine (toSegS_own a c xs w hr).mono ?_
  rintro e w' ⟨ms, rfl, hm, hrd, ⟨f, hf, ho⟩, hb⟩
  have hl : ms.length = xs.length := by have := congrArg List.length hm; simpa using this
  refine ⟨ms, rfl, hm, hrd, TySg.of hf hl hr.1 ho fun x hx => ?_, hb⟩
  obtain ⟨i, hi, e⟩ := List.getElem_of_mem hx
  rcases hrd.2 with h0 | ⟨b, o, -, hc⟩
  · rw [h0] at hi; simp at hi
  · exact (hc i x (by rw [List.getElem?_eq_getElem hi, e])).2.1.1

set_option maxHeartbeats 2000000 in
theorem markSegS_ty (lo hi c n k : Nat) (a : Option Addr) (w : World) (h : TySg w lo hi a n) (hk : k ≤ 1000000000000000000) :
    Calls Try.prog 15 #[.slice a n c, .int .i64 (k : Int)] w fun e w' => ∃ K : Nat, e = .returned (.int .i64 (K : Int)) ∧ K ≤ k + n * 1048580 ∧ Shp w w' ∧ Out lo hi w w' := by
  obtain ⟨hn, g, cur, rfl, hl, hh, hc, hi'⟩ := h
  have H := kide (show TySg w lo hi (some ⟨g, 0, none⟩) n from ⟨hn, g, cur, rfl, hl, hh, hc, hi'⟩)
  clear hc hi'
  go_enter Try.func15, Try.ntmps15
  go_wp2_with fail
  go_loopw [1, 5] (fun q i wr => ∃ (j K : Nat), j ≤ n ∧ i = .int .i64 (j : Int) ∧ q = .int .i64 (K : Int) ∧ K ≤ k + j * 1048580 ∧ Shp w wr ∧ Out lo hi w wr) (fun _ i _ => n - (intOf i).toNat)
  case atStart => exact ⟨0, k, Nat.zero_le _, rfl, rfl, by omega, Shp.refl _, Out.refl _ _ _⟩
  case round =>
    obtain ⟨j, K, hj, rfl, rfl, hK, hs, ho⟩ := hrel
    have HS := kide hs
    have HO := kide ho
    by_cases hlt : j < n
    · obtain ⟨-, g', cu, e', -, -, hg, hc⟩ := H.out.shp hs
      cases e'
      obtain ⟨⟨y0, hy0⟩, ⟨y1, hy1⟩, ⟨y2, hy2⟩, ⟨y3, hy3⟩, a', m, c', q4', hty⟩ := hc j hlt
      have q0 : wr.cell? ⟨g, j * 5, none⟩ = some (.int .i64 y0) := by rw [cell_of_row wr g _ _ _ _ hg]; exact hy0
      have q1 : wr.cell? ⟨g, j * 5 + 1, none⟩ = some (.int .i64 y1) := by rw [cell_of_row wr g _ _ _ _ hg]; exact hy1
      have q2 : wr.cell? ⟨g, j * 5 + 2, none⟩ = some (.int .i64 y2) := by rw [cell_of_row wr g _ _ _ _ hg]; exact hy2
      have q3 : wr.cell? ⟨g, j * 5 + 3, none⟩ = some (.int .i64 y3) := by rw [cell_of_row wr g _ _ _ _ hg]; exact hy3
      have q4 : wr.cell? ⟨g, j * 5 + 4, none⟩ = some (.slice a' m c') := by rw [cell_of_row wr g _ _ _ _ hg]; exact q4'
      have r0 := frozen_of_row wr g (j * 5) _ _ hg
      have r1 := frozen_of_row wr g (j * 5 + 1) _ _ hg
      have r2 := frozen_of_row wr g (j * 5 + 2) _ _ hg
      have r3 := frozen_of_row wr g (j * 5 + 3) _ _ hg
      have hm := hty.1
      have hKb : K + 4 + m ≤ 9000000000000000000 := by omega
      have i0 : (j : Int) < (n : Int) := by omega
      have S1 := Shp.set q0 (K : Int)
      have S2 := Shp.set (w := wr.setCell ⟨g, j * 5, none⟩ (.int .i64 (K : Int))) (show (wr.setCell ⟨g, j * 5, none⟩ (.int .i64 (K : Int))).cell? ⟨g, j * 5 + 1, none⟩ = some (.int .i64 y1) by rw [World.cell?_setCell_other _ _ _ _ (by simp)]; exact q1) ((K : Int) + 1)
      have S3 := Shp.set (w := (wr.setCell ⟨g, j * 5, none⟩ (.int .i64 (K : Int))).setCell ⟨g, j * 5 + 1, none⟩ (.int .i64 ((K : Int) + 1))) (show ((wr.setCell ⟨g, j * 5, none⟩ (.int .i64 (K : Int))).setCell ⟨g, j * 5 + 1, none⟩ (.int .i64 ((K : Int) + 1))).cell? ⟨g, j * 5 + 2, none⟩ = some (.int .i64 y2) by rw [World.cell?_setCell_other _ _ _ _ (by simp), World.cell?_setCell_other _ _ _ _ (by simp)]; exact q2) ((K : Int) + 1 + 1)
      have S4 := Shp.set (w := ((wr.setCell ⟨g, j * 5, none⟩ (.int .i64 (K : Int))).setCell ⟨g, j * 5 + 1, none⟩ (.int .i64 ((K : Int) + 1))).setCell ⟨g, j * 5 + 2, none⟩ (.int .i64 ((K : Int) + 1 + 1))) (show (((wr.setCell ⟨g, j * 5, none⟩ (.int .i64 (K : Int))).setCell ⟨g, j * 5 + 1, none⟩ (.int .i64 ((K : Int) + 1))).setCell ⟨g, j * 5 + 2, none⟩ (.int .i64 ((K : Int) + 1 + 1))).cell? ⟨g, j * 5 + 3, none⟩ = some (.int .i64 y3) by rw [World.cell?_setCell_other _ _ _ _ (by simp), World.cell?_setCell_other _ _ _ _ (by simp), World.cell?_setCell_other _ _ _ _ (by simp)]; exact q3) ((K : Int) + 1 + 1 + 1)
      have SS := S1.trans (S2.trans (S3.trans S4))
      have HS2 := kide (hs.trans SS)
      have HO2 := kide ((((ho.set hl hh (.int .i64 (K : Int)) (o := j * 5)).set hl hh (.int .i64 ((K : Int) + 1)) (o := j * 5 + 1)).set hl hh (.int .i64 ((K : Int) + 1 + 1)) (o := j * 5 + 2)).set hl hh (.int .i64 ((K : Int) + 1 + 1 + 1)) (o := j * 5 + 3))
      have hM := markU_ty lo hi c' m (K + 4) a' _ (hty.shp SS) hKb
      rw [show ((K + 4 : Nat) : Int) = (K : Int) + 1 + 1 + 1 + 1 by omega] at hM
      have HM := kide hM
      have hK2 := hK
      clear hc hs ho hy0 hy1 hy2 hy3 q4' hg hty S1 S2 S3 S4 SS hM
      go_wp2_with fail
      refine Calls.mono HM.out ?_
      rintro e w3 ⟨rfl, hs3, ho3⟩
      have HS3 := kide (HS2.out.trans hs3)
      have HO3 := kide (HO2.out.trans ho3)
      clear hs3 ho3
      go_wp2_with fail
      go_roundw
      case rel => exact ⟨j + 1, K + 4 + m, by omega, by go_num, by first | rfl | (congr 1; omega), by omega, HS3.out, HO3.out⟩
      case measure => simp [intOf]; omega
    · have e : j = n := by omega
      subst e
      clear hs ho
      go_wp2_with fail
      go_ret
      exact ⟨K, rfl, hK, HS.out, HO.out⟩

theorem size_ds (a : Option Addr) (n c : Nat) (w : World) (hn : n ≤ 9223372036854775807) (hx : n ≤ 1048576 → ∃ ds : List Dc, ds.length = n ∧ RdD w a ds) :
    ∃ Z : Int, Hid (∀ u, Below w.heap.size w u → Calls Try.prog 6 #[.slice a n c, .int .i64 1048576] u fun e w' => e = .returned (.int .i64 Z) ∧ Below u.heap.size u w') ∧ Z ≤ 1048576 ∧ (Z < 0 ∨ 0 ≤ Z ∧ ∃ ds : List Dc, ds.length = n ∧ RdD w a ds) := by
  by_cases h : n ≤ 1048576
  · obtain ⟨ds, rfl, hr⟩ := hx h
    have hZ := szD_range ds (1048576 - ds.length) (by omega)
    refine ⟨szD ds (1048576 - ds.length), fun u hu => szDeclS_in a c ds 1048576 u (hr.later hu) (by omega) (by omega) (by omega), by omega, ?_⟩
    by_cases h3 : szD ds (1048576 - ds.length) < 0
    · exact .inl h3
    · exact .inr ⟨by omega, ds, rfl, hr⟩
  · exact ⟨-1, fun u hu => (szDeclS_out a n c 1048576 u (by omega) (by omega) hn (by omega)).mono (fun e w' hh => ⟨hh.1, by rw [hh.2]; exact Below.refl _ _⟩), by omega, .inl (by omega)⟩

theorem size_sg (va : Option Addr) (vn vc : Nat) (L : Int) (w : World) (hL : 0 ≤ L) (hL2 : L ≤ 1048576) (hvn : vn ≤ 9223372036854775807)
    (hy : vn ≤ 1048576 → ∃ hs : List Sh, hs.length = vn ∧ RdSh w va hs ∧ ∀ h ∈ hs, SegOf w h) :
    ∃ Z : Int, Hid (∀ u, Below w.heap.size w u → Calls Try.prog 7 #[.slice va vn vc, .int .i64 L] u fun e w' => e = .returned (.int .i64 Z) ∧ Below u.heap.size u w') ∧ (Z < 0 ∨ 0 ≤ Z ∧ ∃ vs : List Sg, vs.length = vn ∧ RdS w va vs) := by
  by_cases h2 : (vn : Int) ≤ L
  · obtain ⟨hs, rfl, hh, hk⟩ := hy (by omega)
    refine ⟨szSl hs (L - hs.length), fun u hu => szSegS_in va vc hs L u (hh.later hu) hL hL2 h2, ?_⟩
    by_cases h3 : szSl hs (L - hs.length) < 0
    · exact .inl h3
    · exact .inr ⟨by omega, RdS_of hh hk (L := L - hs.length) (by omega) (by omega) (by omega)⟩
  · exact ⟨-1, fun u hu => (szSegS_out va vn vc L u hL hL2 hvn h2).mono (fun e w' h => ⟨h.1, by rw [h.2]; exact Below.refl _ _⟩), .inl (by omega)⟩

theorem toSegS_tp (a : Option Addr) (c n : Nat) (xs : List Sg) (w : World) (hr : RdS w a xs) (hn : xs.length = n) :
    Calls Try.prog 10 #[.slice a n c] w fun e w' => ∃ ms : List Sg, e = .returned (.slice (some ⟨w.heap.size, 0, none⟩) n n) ∧ ms.map Sg.ct = xs.map Sg.ct ∧ RdS w' (some ⟨w.heap.size, 0, none⟩) ms ∧ ((∀ x ∈ ms, x.a = none → x.c = 0) ∧ ∀ x ∈ ms, ∀ q, x.a = some q → q.block < w'.heap.size) ∧ TySg w' w.heap.size w'.heap.size (some ⟨w.heap.size, 0, none⟩) n ∧ Below w.heap.size w w' := by
  subst hn
  refine (toSegS_own a c xs w hr).mono ?_
  rintro e w' ⟨ms, rfl, hm, hrd, ⟨f, hf, ho⟩, hb⟩
  have hl : ms.length = xs.length := by have := congrArg List.length hm; simpa using this
  refine ⟨ms, rfl, hm, hrd, ⟨fun x hx hx0 => ?_, fun x hx q hq => ?_⟩, TySg.of hf hl hr.1 ho fun x hx => ?_, hb⟩
  · obtain ⟨i, hi, e⟩ := List.getElem_of_mem hx
    obtain ⟨k0, k1, k2, k3, k4, g, k5, -⟩ := ho i x (by rw [List.getElem?_eq_getElem hi, e])
    rw [hx0] at k5
    cases k5
  · obtain ⟨i, hi, e⟩ := List.getElem_of_mem hx
    obtain ⟨k0, k1, k2, k3, k4, g, k5, k6, k7⟩ := ho i x (by rw [List.getElem?_eq_getElem hi, e])
    rw [k5] at hq
    cases hq
    exact k7.lt
  · obtain ⟨i, hi, e⟩ := List.getElem_of_mem hx
    rcases hrd.2 with h0 | ⟨b, o, -, hc⟩
    · rw [h0] at hi; simp at hi
    · exact (hc i x (by rw [List.getElem?_eq_getElem hi, e])).2.1.1

end Go.Proofs.Ytfanddpncipkkaa
