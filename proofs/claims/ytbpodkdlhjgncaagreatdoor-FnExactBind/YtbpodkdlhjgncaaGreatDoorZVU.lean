/- Several texts in one. -/
import Derived.Test.YtbpodkdlhjgncaaGreatDoorZVJ
import Derived.Test.YtbpodkdlhjgncaaGreatDoorZVK
import Derived.Test.YtbpodkdlhjgncaaGreatDoorZVE

/- How an argument that is a row of words is opened. -/
namespace Go.Proofs.YtbpodkdlhjgncaaGreatDoor
set_option linter.unusedVariables false
set_option linter.unusedSimpArgs false
open Go.ChangeShapes Go.WideShapes Go.ChangeAt Go.RowKit Go.Joins

/-- The bits of a word as it lies. -/
def WordsOf (W : World) (h : Bh) : Prop := in64 h.wd ∧ (h.n ≤ 1048576 → ∃ ws : List Nat, ws.length = h.n ∧ Rd W h.a ws)

theorem WordsOf.later {w w' : World} {h : Bh} (k : WordsOf w h) (hb : Below w.heap.size w w') : WordsOf w' h :=
  ⟨k.1, fun hn => let ⟨ws, e, r⟩ := k.2 hn; ⟨ws, e, r.later hb⟩⟩

set_option maxRecDepth 100000 in
theorem open_bitss {H : Type} {enc : TypeId × Value → H} {W : World} {r : Reach} {b0 base : Nat} {v : Value} {d : DataW H} {p : List MemPlace}
    (hv : Value.okWide Tryz.prog W r b0 24 v) (h : DataW.Trod enc Tryz.prog W base (fun _ => true) true 24 v d p) :
    ∃ (a : Option Addr) (n c : Nat), v = .slice a n c ∧ n ≤ 9223372036854775807 ∧ (n ≤ 1048576 → ∃ hs : List Bh, hs.length = n ∧ RdBh W a hs ∧ ∀ h ∈ hs, WordsOf W h) := by
  obtain ⟨a1, len1, cap1, rfl⟩ := okWide_slice Tryz.underlying24 hv
  obtain ⟨fuel, hf⟩ := h
  rcases Deep.open_slice_pairs Tryz.underlying24 Tryz.underlying55 (by kernel_rfl) rfl rfl (by kernel_rfl) (by kernel_rfl) hf with ⟨hcs, _⟩ | ⟨x, len, cap, m2, n2, V0, V1, D0, D1, P0, P1, hcs, _, hl, hm, hz, _, hcell⟩
  · simp [Value.cells] at hcs
    obtain ⟨rfl, rfl, rfl⟩ := hcs
    exact ⟨none, 0, 0, rfl, by omega, fun _ => ⟨[], rfl, ⟨by simp, .inl rfl⟩, by simp⟩⟩
  · simp [Value.cells] at hcs
    obtain ⟨rfl, rfl, rfl⟩ := hcs
    refine ⟨some x, _, _, rfl, by unfold maxLen at hm; omega, fun hle => ?_⟩
    have each : ∀ i, i < len1 → ∃ h : Bh, W.cell? (x.add (i * 2)) = some (.int .i64 h.wd) ∧ W.cell? (x.add (i * 2 + 1)) = some (.slice h.a h.n h.c) ∧ h.n ≤ 9223372036854775807 ∧ WordsOf W h := by
      intro i hi
      simp at hz
      obtain ⟨h0, h1, h2, h3⟩ := hcell i (by omega)
      obtain ⟨y, e0, _, hy⟩ := DataW.trod_int Tryz.underlying2 h2
      obtain ⟨a, n, c, e1, hn, hk⟩ := open_words h3
      simp at e0
      rw [e0] at h0
      rw [e1] at h1
      exact ⟨⟨y, a, n, c⟩, h0, h1, hn, bounds_i64 hy, hk⟩
    haveI : Inhabited Bh := ⟨⟨0, none, 0, 0⟩⟩
    obtain ⟨q, hq⟩ := Deep.choose_lt each
    refine ⟨(List.range len1).map q, by simp, ⟨by simpa using hle, ?_⟩, ?_⟩
    · by_cases h0 : len1 = 0
      · left; simp [h0]
      · right
        obtain ⟨b, off, spot⟩ := x
        have hc0 := (hq 0 (by omega)).1
        have hspot : spot = none := by simpa [Addr.add] using World.cell?_spot hc0
        subst hspot
        refine ⟨b, off, rfl, fun i h hi => ?_⟩
        have hil : i < len1 := by have := (List.getElem?_eq_some_iff.1 hi).1; simpa using this
        simp [hil] at hi
        subst hi
        obtain ⟨k0, k1, k2, -⟩ := hq i hil
        rw [Addr.add_lit] at k0 k1
        exact ⟨k0, k1, k2⟩
    · intro h hh
      obtain ⟨i, hi, rfl⟩ := List.mem_map.1 hh
      exact (hq i (List.mem_range.1 hi)).2.2.2

/-- Where all is short enough the words are there. -/
theorem RdW_of {W : World} {a : Option Addr} {hs : List Bh} {L : Int} (hr : RdBh W a hs) (hk : ∀ h ∈ hs, WordsOf W h) (hL : 0 ≤ L) (hL2 : L ≤ 1048576) (hz : 0 ≤ szBl hs L) : ∃ xs : List Bw, xs.length = hs.length ∧ RdW W a xs := by
  have hlen := hr.1
  have hs1 : ∀ h ∈ hs, (h.n : Int) ≤ 1048576 := by
    rcases szBl_range hs L hL with e | ⟨-, -, e⟩
    · omega
    · intro h hh
      have := e h hh
      omega
  have each : ∀ i, i < hs.length → ∃ n : Bw, ∀ h, hs[i]? = some h → n.wd = h.wd ∧ n.a = h.a ∧ n.c = h.c ∧ n.ws.length = h.n ∧ Rd W n.a n.ws ∧ in64 n.wd := by
    intro i hi
    have hm : hs[i] ∈ hs := List.getElem_mem hi
    have h1 := hs1 _ hm
    obtain ⟨e0, hk0⟩ := hk _ hm
    obtain ⟨ws, e1, e2⟩ := hk0 (by omega)
    refine ⟨⟨hs[i].wd, hs[i].a, hs[i].c, ws⟩, fun h hh => ?_⟩
    rw [List.getElem?_eq_getElem hi] at hh
    cases hh
    exact ⟨rfl, rfl, rfl, e1, e2, e0⟩
  haveI : Inhabited Bw := ⟨⟨0, none, 0, []⟩⟩
  obtain ⟨q, hq⟩ := Deep.choose_lt each
  refine ⟨(List.range hs.length).map q, by simp, by simpa using hlen, ?_⟩
  rcases hr.2 with h | ⟨b, o, rfl, hc⟩
  · left; simp [h]
  · right
    refine ⟨b, o, rfl, fun i n hi => ?_⟩
    have hil : i < hs.length := by have := (List.getElem?_eq_some_iff.1 hi).1; simpa using this
    simp [hil] at hi
    subst hi
    have hg : hs[i]? = some hs[i] := List.getElem?_eq_getElem hil
    obtain ⟨e1, e2, e3, e4, e5, e6⟩ := hq i hil _ hg
    obtain ⟨f0, f1, -⟩ := hc i _ hg
    exact ⟨by rw [e1]; exact f0, by rw [e2, e3, e4]; exact f1, e5, e6⟩

end Go.Proofs.YtbpodkdlhjgncaaGreatDoor

/- What the laws carry along: rows of words between two blocks, copied arguments, how long arguments are. -/
namespace Go.Proofs.YtbpodkdlhjgncaaGreatDoor
set_option linter.unusedVariables false
set_option linter.unusedSimpArgs false
open Go.RowKit

theorem nw_move {w w' : World} {lo : Nat} {a : Option Addr} {xs : List Nat} (h : Nw w lo a xs) (hk : ∀ p, a = some p → w'.heap[p.block]? = w.heap[p.block]?) : Nw w' lo a xs := by
  rcases h with ⟨h1, h2⟩ | ⟨g, cur, h1, h2, h3, h4⟩
  · refine .inl ⟨h1, fun x e => ?_⟩
    obtain ⟨a', b, cur, c⟩ := h2 x e
    exact ⟨a', b, cur, by rw [hk _ e]; exact c⟩
  · exact .inr ⟨g, cur, h1, h2, by rw [hk ⟨g, 0, none⟩ h1]; exact h3, h4⟩

/-- A row of words of one's own, from a block on, below another. -/
structure Tb (w : World) (lo hi : Nat) (v : Value) (l : List Bw) : Prop where
  bs : Bs w lo v l
  top : ∀ b, v.ownBlock = some b → b < hi
  tops : ∀ x ∈ l, ∀ p, x.a = some p → p.block < hi
theorem Tb.of {w : World} {lo : Nat} {v : Value} {l : List Bw} (h : Bs w lo v l) : Tb w lo w.heap.size v l := ⟨h, fun b hb => (h.row.lt hb).2, fun x hx p hp => (nw_lt (h.nw x hx) hp).2⟩
theorem Tb.keep {w w' : World} {lo hi B1 B2 : Nat} {v : Value} {l : List Bw} (h : Tb w lo hi v l) (ho : Out B1 B2 w w') (hd : hi ≤ B1 ∨ B2 ≤ lo) : Tb w' lo hi v l where
  bs := ⟨h.bs.row.move fun b hb => by
      have h1 := h.bs.row.lt hb
      have h2 := h.top b hb
      exact ho.2.2.2.2 b h1.2 (by omega), fun x hx => nw_move (h.bs.nw x hx) fun p hp => by
      have h1 := nw_lt (h.bs.nw x hx) hp
      have h2 := h.tops x hx p hp
      exact ho.2.2.2.2 p.block h1.2 (by omega), h.bs.dj⟩
  top := h.top
  tops := h.tops
theorem Tb.later {w w' : World} {lo hi : Nat} {v : Value} {l : List Bw} (h : Tb w lo hi v l) (hb : Below w.heap.size w w') : Tb w' lo hi v l := ⟨h.bs.later hb, h.top, h.tops⟩

/-- What may stand in a row of words. -/
def okW (X : List (Int × List Nat)) : Prop := X.length ≤ 1048576 ∧ ∀ x ∈ X, in64 x.1 ∧ x.2.length ≤ 1048576 ∧ ∀ y ∈ x.2, y < 18446744073709551616
theorem okW.of {w : World} {a : Option Addr} {xs : List Bw} (h : RdW w a xs) : okW (xs.map Bw.ct) := by
  refine ⟨by simpa using h.1, fun x hx => ?_⟩
  obtain ⟨y, hy, rfl⟩ := List.mem_map.1 hx
  obtain ⟨i, hi, e⟩ := List.mem_iff_getElem.1 hy
  rcases h.2 with h0 | ⟨b, o, -, hc⟩
  · subst h0; simp at hy
  · obtain ⟨-, -, h3, h4⟩ := hc i y (by rw [List.getElem?_eq_getElem hi, e])
    exact ⟨h4, h3.1, h3.2.1⟩
theorem Bs.rd {w : World} {lo : Nat} {v : Value} {l : List Bw} (h : Bs w lo v l) (hX : okW (l.map Bw.ct)) : ∃ a c, v = .slice a l.length c ∧ RdW w a l :=
  h.row.rd (by simpa using hX.1) fun x hx => by
    obtain ⟨h1, h2, h3⟩ := hX.2 x.ct (List.mem_map_of_mem hx)
    exact ⟨(h.nw x hx).rd h2 h3, h1⟩

/-- Two such rows that say the same are told to be the same. -/
theorem eqBs {w : World} {lo lo' : Nat} {v v' : Value} {l l' : List Bw} (h : Bs w lo v l) (h' : Bs w lo' v' l') (hX : okW (l.map Bw.ct)) (he : l'.map Bw.ct = l.map Bw.ct) :
    Calls Tryz.prog 12 #[v, v'] w fun e w' => e = .returned (.bool true) ∧ Below w.heap.size w w' := by
  obtain ⟨a, c, rfl, hr⟩ := h.rd hX
  obtain ⟨a', c', rfl, hr'⟩ := h'.rd (by rw [he]; exact hX)
  have hl : l'.length = l.length := by have := congrArg List.length he; simpa using this
  rw [hl]
  exact eqBitsS_same a a' c c' l l' w hr hr' he.symm l.length rfl hl

/-- A row of numbers, in a block from lo on below hi. -/
def Ti (w : World) (lo hi : Nat) (a : Option Addr) (n : Nat) : Prop := ∃ g zs, a = some ⟨g, 0, none⟩ ∧ lo ≤ g ∧ g < hi ∧ OwnI w g zs ∧ zs.length = n
theorem Ti.out {w w' : World} {lo hi B1 B2 n : Nat} {a : Option Addr} (h : Ti w lo hi a n) (ho : Out B1 B2 w w') (hd : hi ≤ B1 ∨ B2 ≤ lo) : Ti w' lo hi a n := by
  obtain ⟨g, zs, e, h1, h2, h3, h4⟩ := h
  refine ⟨g, zs, e, h1, h2, ?_, h4⟩
  unfold OwnI
  rw [ho.2.2.2.2 g h3.lt (by omega)]
  exact h3
theorem TyW.out {w w' : World} {lo hi B1 B2 n : Nat} {a : Option Addr} (h : TyW w lo hi a n) (ho : Out B1 B2 w w') (hd : hi ≤ B1 ∨ B2 ≤ lo) : TyW w' lo hi a n := by
  obtain ⟨h0, g, cur, e, h1, h2, h3, h4⟩ := h
  exact ⟨h0, g, cur, e, h1, h2, by rw [ho.2.2.2.2 g (lt_of_block h3) (by omega)]; exact h3, h4⟩
theorem TyBs.out {w w' : World} {lo hi B1 B2 n : Nat} {a : Option Addr} (h : TyBs w lo hi a n) (ho : Out B1 B2 w w') (hd : hi ≤ B1 ∨ B2 ≤ lo) : TyBs w' lo hi a n := by
  obtain ⟨h0, g, cur, e, h1, h2, h3, h4⟩ := h
  exact ⟨h0, g, cur, e, h1, h2, by rw [ho.2.2.2.2 g (lt_of_block h3) (by omega)]; exact h3, fun i hi' => by obtain ⟨i1, a', m, c, i4, i5⟩ := h4 i hi'; exact ⟨i1, a', m, c, i4, i5.out ho hd⟩⟩
theorem rowIs_out {w w' : World} {g N B1 B2 : Nat} {t : TypeId} {f : Nat → Value} (h : w.rowIs g t N f) (ho : Out B1 B2 w w') (hd : g < B1 ∨ B2 ≤ g) : w'.rowIs g t N f := by
  obtain ⟨cc, hh, r⟩ := h
  exact World.rowIs.of_block ⟨cc, hh, r⟩ (ho.2.2.2.2 g (lt_of_block hh) hd)
theorem Out.bel {w v v' : World} {B1 B2 : Nat} (h : Below w.heap.size w v) (ho : Out B1 B2 v v') (h1 : w.heap.size ≤ B1) : Below w.heap.size w v' :=
  h.trans (ho.below h1 h.size)

/-- Copies of rows of words: read, and to be marked. -/
theorem toBitsS_ty (a : Option Addr) (c n : Nat) (xs : List Bw) (w : World) (hr : RdW w a xs) (hn : xs.length = n) :
    Calls Tryz.prog 10 #[.slice a n c] w fun e w' => ∃ ms : List Bw, e = .returned (.slice (some ⟨w.heap.size, 0, none⟩) n n) ∧ ms.map Bw.ct = xs.map Bw.ct ∧ RdW w' (some ⟨w.heap.size, 0, none⟩) ms ∧ TyBs w' w.heap.size w'.heap.size (some ⟨w.heap.size, 0, none⟩) n ∧ Below w.heap.size w w' := by
  subst hn
  refine (toBitsS_own a c xs w hr).mono ?_
  rintro e w' ⟨ms, rfl, hm, hrd, ⟨f, hf, ho⟩, hb⟩
  have hl : ms.length = xs.length := by have := congrArg List.length hm; simpa using this
  refine ⟨ms, rfl, hm, hrd, TyBs.of hf hl hr.1 ho fun x hx => ?_, hb⟩
  exact ((okW.of hrd).2 x.ct (List.mem_map_of_mem hx)).2.1
theorem toInt64S_ti (a : Option Addr) (c n : Nat) (xs : List Int) (w : World) (hr : RdI w a xs) (hn : xs.length = n) :
    Calls Tryz.prog 113 #[.slice a n c] w fun e w' => e = .returned (.slice (some ⟨w.heap.size, 0, none⟩) n n) ∧ RdI w' (some ⟨w.heap.size, 0, none⟩) xs ∧ Ti w' w.heap.size w'.heap.size (some ⟨w.heap.size, 0, none⟩) n ∧ Below w.heap.size w w' := by
  subst hn
  refine (toInt64S_any a c xs w hr).mono ?_
  rintro e w' ⟨rfl, ho, hb⟩
  exact ⟨rfl, ho.rd hr.1 hr.2.1, ⟨_, xs, rfl, Nat.le_refl _, ho.lt, ho, rfl⟩, hb⟩
theorem markInt64S_ti (lo hi c n k : Nat) (a : Option Addr) (w : World) (h : Ti w lo hi a n) (hn : n ≤ 1048576) (hk : k ≤ 8000000000000000000) :
    Calls Tryz.prog 69 #[.slice a n c, .int .i64 (k : Int)] w fun e w' => e = .returned (.int .i64 ((k + n : Nat) : Int)) ∧ Out lo hi w w' := by
  obtain ⟨g, zs, rfl, h1, h2, h3, h4⟩ := h
  refine (markInt64S_big g c n k zs w h3 h4 hn (by omega)).mono ?_
  intro e w' h
  exact ⟨h.1, Out.grown h.2.2 h1 h2⟩

/-- How long rows of words are: too long, or all of it is there. -/
theorem size_bs (va : Option Addr) (vn vc : Nat) (L : Int) (w : World) (hL : 0 ≤ L) (hL2 : L ≤ 1048576) (hvn : vn ≤ 9223372036854775807)
    (hy : vn ≤ 1048576 → ∃ hs : List Bh, hs.length = vn ∧ RdBh w va hs ∧ ∀ h ∈ hs, WordsOf w h) :
    ∃ Z : Int, Hid (∀ u, Below w.heap.size w u → Calls Tryz.prog 6 #[.slice va vn vc, .int .i64 L] u fun e w' => e = .returned (.int .i64 Z) ∧ Below u.heap.size u w') ∧ Z ≤ 1048576 ∧ (Z < 0 ∨ 0 ≤ Z ∧ ∃ vs : List Bw, vs.length = vn ∧ RdW w va vs) := by
  by_cases h2 : (vn : Int) ≤ L
  · obtain ⟨hs, rfl, hh, hk⟩ := hy (by omega)
    have hZ2 := szBl_range hs (L - hs.length) (by omega)
    refine ⟨szBl hs (L - hs.length), fun u hu => szBitsS_in va vc hs L u (hh.later hu) hL hL2 h2, by omega, ?_⟩
    by_cases h3 : szBl hs (L - hs.length) < 0
    · exact .inl h3
    · obtain ⟨xs, hxl, hxs⟩ := RdW_of hh hk (L := L - hs.length) (by omega) (by omega) (by omega)
      exact .inr ⟨by omega, xs, hxl, hxs⟩
  · exact ⟨-1, fun u hu => (szBitsS_out va vn vc L u hL hL2 hvn h2).mono (fun e w' hh => ⟨hh.1, by rw [hh.2]; exact Below.refl _ _⟩), by omega, .inl (by omega)⟩
theorem size_ds (a : Option Addr) (n c : Nat) (w : World) (hn : n ≤ 9223372036854775807) (hx : n ≤ 1048576 → ∃ ds : List Dc, ds.length = n ∧ RdD w a ds) :
    ∃ Z : Int, Hid (∀ u, Below w.heap.size w u → Calls Tryz.prog 4 #[.slice a n c, .int .i64 1048576] u fun e w' => e = .returned (.int .i64 Z) ∧ Below u.heap.size u w') ∧ Z ≤ 1048576 ∧ (Z < 0 ∨ 0 ≤ Z ∧ ∃ ds : List Dc, ds.length = n ∧ RdD w a ds) := by
  by_cases h : n ≤ 1048576
  · obtain ⟨ds, rfl, hr⟩ := hx h
    have hZ := szD_range ds (1048576 - ds.length) (by omega)
    refine ⟨szD ds (1048576 - ds.length), fun u hu => szDeclS_in a c ds 1048576 u (hr.later hu) (by omega) (by omega) (by omega), by omega, ?_⟩
    by_cases h3 : szD ds (1048576 - ds.length) < 0
    · exact .inl h3
    · exact .inr ⟨by omega, ds, rfl, hr⟩
  · exact ⟨-1, fun u hu => (szDeclS_out a n c 1048576 u (by omega) (by omega) hn (by omega)).mono (fun e w' hh => ⟨hh.1, by rw [hh.2]; exact Below.refl _ _⟩), by omega, .inl (by omega)⟩

end Go.Proofs.YtbpodkdlhjgncaaGreatDoor
