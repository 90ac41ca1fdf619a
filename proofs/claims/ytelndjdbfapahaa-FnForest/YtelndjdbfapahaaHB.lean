/- Rows of rows of numbers between two blocks: compared, marked, held. -/
import Derived.Test.YtelndjdbfapahaaHA
namespace Go.Proofs.Ytelndjdbfapahaa
set_option linter.unusedVariables false
set_option linter.unusedSimpArgs false
open Go.RowKit

/-- A row of numbers that lies between two blocks, and may be written. -/
def RowAt (w : World) (lo hi : Nat) (v : Value) (xs : List Int) : Prop := ∃ g c N f, v = .slice (some ⟨g, 0, none⟩) xs.length c ∧ lo ≤ g ∧ g < hi ∧ xs.length ≤ N ∧ w.rowIs g 2 N f ∧ ∀ j, j < xs.length → f j = .int .i64 (xs.getD j 0)
/-- .. whatever stands in it. -/
def WrAt (w : World) (lo hi : Nat) (v : Value) (n : Nat) : Prop := ∃ g c N f, v = .slice (some ⟨g, 0, none⟩) n c ∧ lo ≤ g ∧ g < hi ∧ n ≤ N ∧ w.rowIs g 2 N f
/-- .. the marks from K on. -/
def MkAt (w : World) (v : Value) (n K : Nat) : Prop := ∃ g c, v = .slice (some ⟨g, 0, none⟩) n c ∧ ∀ j, j < n → w.cell? ⟨g, j, none⟩ = some (.int .i64 ((K + j : Nat) : Int))

theorem OW.at {w : World} {B : Nat} {v : Value} {xs : List Int} (h : OW w B v xs) (hl : 0 < xs.length) : RowAt w B w.heap.size v xs := by
  have hcells := fun g hg => World.ownsRow.cells h (g := g) hg
  rcases h.2 with ⟨rfl, hn⟩ | ⟨g, cap, cur, rfl, hB, hh, hcap, -, hsz, -⟩
  · omega
  · have hlt : g < w.heap.size := lt_of_block hh
    have hrow : w.rowIs g 2 cap (fun i => cur.getD i (.int .i64 0)) := ⟨cur, hh, by simpa using hsz, fun i hi => by
      have hi' : i < cur.size := by omega
      rw [Array.getElem?_eq_getElem hi']
      simp [Array.getD, hi']⟩
    refine ⟨g, cap, cap, _, rfl, hB, hlt, hcap, hrow, fun j hj => ?_⟩
    have c0 := hcells g rfl j (.int .i64 (xs.getD j 0)) (by simp [List.getD, hj])
    rw [Addr.add_lit] at c0
    simp only [Nat.zero_add] at c0
    rw [hrow.cell (by omega)] at c0
    exact Option.some.inj c0

theorem RowAt.wr {w : World} {lo hi : Nat} {v : Value} {xs : List Int} (h : RowAt w lo hi v xs) : WrAt w lo hi v xs.length := by
  obtain ⟨g, c, N, f, e, h1, h2, h3, h4, -⟩ := h
  exact ⟨g, c, N, f, e, h1, h2, h3, h4⟩

theorem RowAt.out {w w' : World} {lo hi B1 B2 : Nat} {v : Value} {xs : List Int} (h : RowAt w lo hi v xs) (ho : Out B1 B2 w w') (hd : hi ≤ B1 ∨ B2 ≤ lo) : RowAt w' lo hi v xs := by
  obtain ⟨g, c, N, f, e, h1, h2, h3, h4, h5⟩ := h
  exact ⟨g, c, N, f, e, h1, h2, h3, World.rowIs.of_block h4 (ho.2.2.2.2 g h4.lt (by omega)), h5⟩

/-- Rows of numbers between two blocks, none of them empty, no two in one block. -/
structure HoldR (w : World) (lo hi : Nat) (a : Option Addr) (vs : List Value) (xss : List (List Int)) : Prop where
  n1 : vs.length = xss.length
  n2 : xss.length ≤ 1000
  n3 : ∀ xs ∈ xss, xs.length ≤ 1000
  row : xss = [] ∨ ∃ g N f, a = some ⟨g, 0, none⟩ ∧ lo ≤ g ∧ g < hi ∧ xss.length ≤ N ∧ w.rowIs g 44 N f ∧ ∀ i v, vs[i]? = some v → f i = v
  each : ∀ (i : Nat) (v : Value) (xs : List Int), vs[i]? = some v → xss[i]? = some xs → RowAt w lo hi v xs
  dj : ∀ (i j : Nat) (v v' : Value), vs[i]? = some v → vs[j]? = some v' → i ≠ j → ∀ b, v.ownBlock = some b → v'.ownBlock ≠ some b

theorem HoldR.out {w w' : World} {lo hi B1 B2 : Nat} {a : Option Addr} {vs : List Value} {xss : List (List Int)} (h : HoldR w lo hi a vs xss) (ho : Out B1 B2 w w') (hd : hi ≤ B1 ∨ B2 ≤ lo) : HoldR w' lo hi a vs xss where
  n1 := h.n1
  n2 := h.n2
  n3 := h.n3
  row := by
    rcases h.row with h1 | ⟨g, N, f, e, h1, h2, h3, h4, h5⟩
    · exact .inl h1
    · exact .inr ⟨g, N, f, e, h1, h2, h3, World.rowIs.of_block h4 (ho.2.2.2.2 g h4.lt (by omega)), h5⟩
  each := fun i v xs h1 h2 => (h.each i v xs h1 h2).out ho hd
  dj := h.dj

theorem HoldR.later {w w' : World} {lo hi : Nat} {a : Option Addr} {vs : List Value} {xss : List (List Int)} (h : HoldR w lo hi a vs xss) (hb : Below w.heap.size w w') : HoldR w' lo hi a vs xss := h.out (Out.below (B1 := hi) (B2 := hi) hb) (.inl (Nat.le_refl _))

theorem eqInt64S_at (v v' : Value) (xs : List Int) (lo hi lo' hi' : Nat) (w : World) (hr : RowAt w lo hi v xs) (hs : RowAt w lo' hi' v' xs) (hn : xs.length ≤ 1000) :
    Calls Try.prog 31 #[v, v'] w fun e w' => e = .returned (.bool true) ∧ Below w.heap.size w w' := by
  obtain ⟨g, c, N, f, rfl, -, -, h3, h4, h5⟩ := hr
  obtain ⟨g', c', N', f', rfl, -, -, k3, k4, k5⟩ := hs
  obtain ⟨n, hl⟩ : ∃ n, xs.length = n := ⟨_, rfl⟩
  rw [hl] at h3 k3 h5 k5 hn ⊢
  have hne : ((n : Int) != (n : Int)) = false := by simp
  clear hl
  go_enter Try.func31, Try.ntmps31
  go_wp2_with fail
  clear hne
  go_loopw [5] (fun q wr => ∃ k : Nat, k ≤ n ∧ q = .int .i64 (k : Int) ∧ Below w.heap.size w wr) (fun q _ => n - (intOf q).toNat)
  case atStart => exact ⟨0, Nat.zero_le _, rfl, Below.refl _ _⟩
  case round =>
    obtain ⟨k, hk, rfl, hbel⟩ := hrel
    have HB := kide hbel
    by_cases hlt : k < n
    · have p0 := h4.cell (i := k) (by omega)
      have q0 := k4.cell (i := k) (by omega)
      rw [h5 k hlt, ← kcell hbel g k h4.lt] at p0
      rw [k5 k hlt, ← kcell hbel g' k k4.lt] at q0
      generalize xs.getD k 0 = y at p0 q0
      have hyy : (y != y) = false := by simp
      have i0 : (k : Int) < (n : Int) := by omega
      clear h4 k4 h5 k5 hbel
      go_wp2_with fail
      go_quiet (fail)
      go_wp2
      go_roundw
      case rel => exact ⟨k + 1, by omega, by go_num, below_drewN HB.out _⟩
      case measure => simp [intOf]; omega
    · clear hbel
      go_wp2_with fail
      go_ret
      exact ⟨rfl, HB.out⟩

set_option maxHeartbeats 1000000 in
theorem eqInt64SS_hold (a b : Option Addr) (c d n lo hi lo' hi' : Nat) (vs vs' : List Value) (xss : List (List Int)) (w : World) (hr : HoldR w lo hi a vs xss) (hs : HoldR w lo' hi' b vs' xss) (hn : xss.length = n) :
    Calls Try.prog 24 #[.slice a n c, .slice b n d] w fun e w' => e = .returned (.bool true) ∧ Below w.heap.size w w' := by
  have hne : ((n : Int) != (n : Int)) = false := by simp
  have HR := kide hr
  have HS := kide hs
  have HN := kide hn
  have hn2 : n ≤ 1000 := by rw [← hn]; exact hr.n2
  clear hr hs hn
  go_enter Try.func24, Try.ntmps24
  go_wp2_with fail
  clear hne
  go_loopw [5] (fun q wr => ∃ k : Nat, k ≤ n ∧ q = .int .i64 (k : Int) ∧ Below w.heap.size w wr) (fun q _ => n - (intOf q).toNat)
  case atStart => exact ⟨0, Nat.zero_le _, rfl, Below.refl _ _⟩
  case round =>
    obtain ⟨k, hk, rfl, hbel⟩ := hrel
    have HB := kide hbel
    by_cases hlt : k < n
    · obtain ⟨xs, gx⟩ : ∃ x, xss[k]? = some x := ⟨xss[k]'(by rw [HN.out]; exact hlt), List.getElem?_eq_getElem _⟩
      obtain ⟨v, gv⟩ : ∃ x, vs[k]? = some x := ⟨vs[k]'(by rw [HR.out.n1, HN.out]; exact hlt), List.getElem?_eq_getElem _⟩
      obtain ⟨v', gv'⟩ : ∃ x, vs'[k]? = some x := ⟨vs'[k]'(by rw [HS.out.n1, HN.out]; exact hlt), List.getElem?_eq_getElem _⟩
      have HE := kide (fun u (hu : Below wr.heap.size wr u) => eqInt64S_at v v' xs lo hi lo' hi' u (((HR.out.each k v xs gv gx).out (B1 := hi) (B2 := hi) (Out.below hbel) (.inl (Nat.le_refl _))).out (B1 := hi) (B2 := hi) (Out.below hu) (.inl (Nat.le_refl _))) (((HS.out.each k v' xs gv' gx).out (B1 := hi') (B2 := hi') (Out.below hbel) (.inl (Nat.le_refl _))).out (B1 := hi') (B2 := hi') (Out.below hu) (.inl (Nat.le_refl _))) (HR.out.n3 xs (List.mem_of_getElem? gx)))
      rcases HR.out.row with h0 | ⟨g, N, f, rfl, -, -, h3, h4, h5⟩
      · have := HN.out; rw [h0] at this; simp at this; omega
      rcases HS.out.row with h0 | ⟨g', N', f', rfl, -, -, k3, k4, k5⟩
      · have := HN.out; rw [h0] at this; simp at this; omega
      have hN2 := HN.out
      have p0 := h4.cell (i := k) (by omega)
      have q0 := k4.cell (i := k) (by omega)
      rw [h5 k v gv, ← kcell hbel g k h4.lt] at p0
      rw [k5 k v' gv', ← kcell hbel g' k k4.lt] at q0
      obtain ⟨av, nv, cv, rfl⟩ : ∃ a n c, v = .slice a n c := by
        obtain ⟨g, c, N, f, rfl, -⟩ := HR.out.each k v xs gv gx
        exact ⟨_, _, _, rfl⟩
      obtain ⟨av', nv', cv', rfl⟩ : ∃ a n c, v' = .slice a n c := by
        obtain ⟨g, c, N, f, rfl, -⟩ := HS.out.each k v' xs gv' gx
        exact ⟨_, _, _, rfl⟩
      have i0 : (k : Int) < (n : Int) := by omega
      have l1 := block_lt_of_cell p0
      have l2 := block_lt_of_cell q0
      clear gx gv gv' h4 k4 h5 k5 h3 k3 hN2 hbel
      go_wp2_with fail
      go_region_held3 (fun u => u.cell? ⟨g, k, none⟩ = some (Value.slice av nv cv) ∧ u.cell? ⟨g', k, none⟩ = some (Value.slice av' nv' cv')) (simp [*])
        ((go_at_call 31; refine Calls.mono (HE.out _ ?_) ?_; exact (Below.refl _ _).drew; rintro e w1 ⟨rfl, hb1⟩; replace hb1 := kundrew hb1; have k0 := kcell hb1 g k l1; have k2 := kcell hb1 g' k l2))
      go_wp2_with fail
      go_roundw
      case rel => exact ⟨k + 1, by omega, by go_num, HB.out.trans (hb1.mono HB.out.size)⟩
      case measure => simp [intOf]; omega
    · clear hbel
      go_wp2_with fail
      go_ret
      exact ⟨rfl, HB.out⟩

end Go.Proofs.Ytelndjdbfapahaa
