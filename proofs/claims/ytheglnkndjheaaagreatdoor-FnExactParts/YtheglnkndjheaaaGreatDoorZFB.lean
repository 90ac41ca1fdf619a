/- Several texts in one. -/
import Derived.Test.YtheglnkndjheaaaGreatDoorZFA

/- Rows of rows of numbers between two blocks: compared, marked, held. -/
namespace Go.Proofs.YtheglnkndjheaaaGreatDoor.Fo
set_option linter.unusedVariables false
set_option linter.unusedSimpArgs false
open Go.RowKit

/-- A row of numbers that lies between two blocks, and may be written. -/
def RowAt (w : World) (lo hi : Nat) (v : Value) (xs : List Int) : Prop := ∃ g c N f, v = .slice (some ⟨g, 0, none⟩) xs.length c ∧ lo ≤ g ∧ g < hi ∧ xs.length ≤ N ∧ w.rowIs g 2 N f ∧ ∀ j, j < xs.length → f j = .int .i64 (xs.getD j 0)
/-- .. whatever stands in it. -/
def WrAt (w : World) (lo hi : Nat) (v : Value) (n : Nat) : Prop := ∃ g c N f, v = .slice (some ⟨g, 0, none⟩) n c ∧ lo ≤ g ∧ g < hi ∧ n ≤ N ∧ w.rowIs g 2 N f
/-- .. the marks from K on. -/
def MkAt (w : World) (v : Value) (n K : Nat) : Prop := ∃ g c, v = .slice (some ⟨g, 0, none⟩) n c ∧ ∀ j, j < n → w.cell? ⟨g, j, none⟩ = some (.int .i64 ((K + j : Nat) : Int))

theorem OW.at {w : World} {B : Nat} {v : Value} {xs : List Int} (h : OW w B v xs) (hl : 0 < xs.length) : RowAt w B w.heap.size v xs := by
  have hcells := fun g hg => World.ownsRow.cells h (g := g) hg
  rcases h.2 with ⟨rfl, hn⟩ | ⟨g, cap, cur, rfl, hB, hh, hcap, -, hsz, -⟩
  · omega
  · have hlt : g < w.heap.size := lt_of_block hh
    have hrow : w.rowIs g 2 cap (fun i => cur.getD i (.int .i64 0)) := ⟨cur, hh, by simpa using hsz, fun i hi => by
      have hi' : i < cur.size := by omega
      rw [Array.getElem?_eq_getElem hi']
      simp [Array.getD, hi']⟩
    refine ⟨g, cap, cap, _, rfl, hB, hlt, hcap, hrow, fun j hj => ?_⟩
    have c0 := hcells g rfl j (.int .i64 (xs.getD j 0)) (by simp [List.getD, hj])
    rw [Addr.add_lit] at c0
    simp only [Nat.zero_add] at c0
    rw [hrow.cell (by omega)] at c0
    exact Option.some.inj c0

theorem RowAt.wr {w : World} {lo hi : Nat} {v : Value} {xs : List Int} (h : RowAt w lo hi v xs) : WrAt w lo hi v xs.length := by
  obtain ⟨g, c, N, f, e, h1, h2, h3, h4, -⟩ := h
  exact ⟨g, c, N, f, e, h1, h2, h3, h4⟩

theorem RowAt.out {w w' : World} {lo hi B1 B2 : Nat} {v : Value} {xs : List Int} (h : RowAt w lo hi v xs) (ho : Out B1 B2 w w') (hd : hi ≤ B1 ∨ B2 ≤ lo) : RowAt w' lo hi v xs := by
  obtain ⟨g, c, N, f, e, h1, h2, h3, h4, h5⟩ := h
  exact ⟨g, c, N, f, e, h1, h2, h3, World.rowIs.of_block h4 (ho.2.2.2.2 g h4.lt (by omega)), h5⟩

/-- Rows of numbers between two blocks, none of them empty, no two in one block. -/
structure HoldR (w : World) (lo hi : Nat) (a : Option Addr) (vs : List Value) (xss : List (List Int)) : Prop where
  n1 : vs.length = xss.length
  n2 : xss.length ≤ 1000
  n3 : ∀ xs ∈ xss, xs.length ≤ 1000
  row : xss = [] ∨ ∃ g N f, a = some ⟨g, 0, none⟩ ∧ lo ≤ g ∧ g < hi ∧ xss.length ≤ N ∧ w.rowIs g 40 N f ∧ ∀ i v, vs[i]? = some v → f i = v
  each : ∀ (i : Nat) (v : Value) (xs : List Int), vs[i]? = some v → xss[i]? = some xs → RowAt w lo hi v xs
  dj : ∀ (i j : Nat) (v v' : Value), vs[i]? = some v → vs[j]? = some v' → i ≠ j → ∀ b, v.ownBlock = some b → v'.ownBlock ≠ some b

theorem HoldR.out {w w' : World} {lo hi B1 B2 : Nat} {a : Option Addr} {vs : List Value} {xss : List (List Int)} (h : HoldR w lo hi a vs xss) (ho : Out B1 B2 w w') (hd : hi ≤ B1 ∨ B2 ≤ lo) : HoldR w' lo hi a vs xss where
  n1 := h.n1
  n2 := h.n2
  n3 := h.n3
  row := by
    rcases h.row with h1 | ⟨g, N, f, e, h1, h2, h3, h4, h5⟩
    · exact .inl h1
    · exact .inr ⟨g, N, f, e, h1, h2, h3, World.rowIs.of_block h4 (ho.2.2.2.2 g h4.lt (by omega)), h5⟩
  each := fun i v xs h1 h2 => (h.each i v xs h1 h2).out ho hd
  dj := h.dj

theorem HoldR.later {w w' : World} {lo hi : Nat} {a : Option Addr} {vs : List Value} {xss : List (List Int)} (h : HoldR w lo hi a vs xss) (hb : Below w.heap.size w w') : HoldR w' lo hi a vs xss := h.out (Out.below (B1 := hi) (B2 := hi) hb) (.inl (Nat.le_refl _))

theorem eqInt64S_at (v v' : Value) (xs : List Int) (lo hi lo' hi' : Nat) (w : World) (hr : RowAt w lo hi v xs) (hs : RowAt w lo' hi' v' xs) (hn : xs.length ≤ 1000) :
    Calls Tryz.prog 21 #[v, v'] w fun e w' => e = .returned (.bool true) ∧ Below w.heap.size w w' := by
  obtain ⟨g, c, N, f, rfl, -, -, h3, h4, h5⟩ := hr
  obtain ⟨g', c', N', f', rfl, -, -, k3, k4, k5⟩ := hs
  obtain ⟨n, hl⟩ : ∃ n, xs.length = n := ⟨_, rfl⟩
  rw [hl] at h3 k3 h5 k5 hn ⊢
  have hne : ((n : Int) != (n : Int)) = false := by simp
  clear hl
  go_enter Tryz.func21, Tryz.ntmps21
  go_wp2_with fail
  clear hne
  go_loopw [5] (fun q wr => ∃ k : Nat, k ≤ n ∧ q = .int .i64 (k : Int) ∧ Below w.heap.size w wr) (fun q _ => n - (intOf q).toNat)
  case atStart => exact ⟨0, Nat.zero_le _, rfl, Below.refl _ _⟩
  case round =>
    obtain ⟨k, hk, rfl, hbel⟩ := hrel
    have HB := kide hbel
    by_cases hlt : k < n
    · have p0 := h4.cell (i := k) (by omega)
      have q0 := k4.cell (i := k) (by omega)
      rw [h5 k hlt, ← kcell hbel g k h4.lt] at p0
      rw [k5 k hlt, ← kcell hbel g' k k4.lt] at q0
      generalize xs.getD k 0 = y at p0 q0
      have hyy : (y != y) = false := by simp
      have i0 : (k : Int) < (n : Int) := by omega
      clear h4 k4 h5 k5 hbel
      go_wp2_with fail
      go_quiet (fail)
      go_wp2
      go_roundw
      case rel => exact ⟨k + 1, by omega, by go_num, below_drewN HB.out _⟩
      case measure => simp [intOf]; omega
    · clear hbel
      go_wp2_with fail
      go_ret
      exact ⟨rfl, HB.out⟩

set_option maxHeartbeats 1000000 in
theorem eqInt64SS_hold (a b : Option Addr) (c d n lo hi lo' hi' : Nat) (vs vs' : List Value) (xss : List (List Int)) (w : World) (hr : HoldR w lo hi a vs xss) (hs : HoldR w lo' hi' b vs' xss) (hn : xss.length = n) :
    Calls Tryz.prog 11 #[.slice a n c, .slice b n d] w fun e w' => e = .returned (.bool true) ∧ Below w.heap.size w w' := by
  have hne : ((n : Int) != (n : Int)) = false := by simp
  have HR := kide hr
  have HS := kide hs
  have HN := kide hn
  have hn2 : n ≤ 1000 := by rw [← hn]; exact hr.n2
  clear hr hs hn
  go_enter Tryz.func11, Tryz.ntmps11
  go_wp2_with fail
  clear hne
  go_loopw [5] (fun q wr => ∃ k : Nat, k ≤ n ∧ q = .int .i64 (k : Int) ∧ Below w.heap.size w wr) (fun q _ => n - (intOf q).toNat)
  case atStart => exact ⟨0, Nat.zero_le _, rfl, Below.refl _ _⟩
  case round =>
    obtain ⟨k, hk, rfl, hbel⟩ := hrel
    have HB := kide hbel
    by_cases hlt : k < n
    · obtain ⟨xs, gx⟩ : ∃ x, xss[k]? = some x := ⟨xss[k]'(by rw [HN.out]; exact hlt), List.getElem?_eq_getElem _⟩
      obtain ⟨v, gv⟩ : ∃ x, vs[k]? = some x := ⟨vs[k]'(by rw [HR.out.n1, HN.out]; exact hlt), List.getElem?_eq_getElem _⟩
      obtain ⟨v', gv'⟩ : ∃ x, vs'[k]? = some x := ⟨vs'[k]'(by rw [HS.out.n1, HN.out]; exact hlt), List.getElem?_eq_getElem _⟩
      have HE := kide (fun u (hu : Below wr.heap.size wr u) => eqInt64S_at v v' xs lo hi lo' hi' u (((HR.out.each k v xs gv gx).out (B1 := hi) (B2 := hi) (Out.below hbel) (.inl (Nat.le_refl _))).out (B1 := hi) (B2 := hi) (Out.below hu) (.inl (Nat.le_refl _))) (((HS.out.each k v' xs gv' gx).out (B1 := hi') (B2 := hi') (Out.below hbel) (.inl (Nat.le_refl _))).out (B1 := hi') (B2 := hi') (Out.below hu) (.inl (Nat.le_refl _))) (HR.out.n3 xs (List.mem_of_getElem? gx)))
      rcases HR.out.row with h0 | ⟨g, N, f, rfl, -, -, h3, h4, h5⟩
      · have := HN.out; rw [h0] at this; simp at this; omega
      rcases HS.out.row with h0 | ⟨g', N', f', rfl, -, -, k3, k4, k5⟩
      · have := HN.out; rw [h0] at this; simp at this; omega
      have hN2 := HN.out
      have p0 := h4.cell (i := k) (by omega)
      have q0 := k4.cell (i := k) (by omega)
      rw [h5 k v gv, ← kcell hbel g k h4.lt] at p0
      rw [k5 k v' gv', ← kcell hbel g' k k4.lt] at q0
      obtain ⟨av, nv, cv, rfl⟩ : ∃ a n c, v = .slice a n c := by
        obtain ⟨g, c, N, f, rfl, -⟩ := HR.out.each k v xs gv gx
        exact ⟨_, _, _, rfl⟩
      obtain ⟨av', nv', cv', rfl⟩ : ∃ a n c, v' = .slice a n c := by
        obtain ⟨g, c, N, f, rfl, -⟩ := HS.out.each k v' xs gv' gx
        exact ⟨_, _, _, rfl⟩
      have i0 : (k : Int) < (n : Int) := by omega
      have l1 := block_lt_of_cell p0
      have l2 := block_lt_of_cell q0
      clear gx gv gv' h4 k4 h5 k5 h3 k3 hN2 hbel
      go_wp2_with fail
      go_region_held3 (fun u => u.cell? ⟨g, k, none⟩ = some (Value.slice av nv cv) ∧ u.cell? ⟨g', k, none⟩ = some (Value.slice av' nv' cv')) (simp [*])
        ((go_at_call 21; refine Calls.mono (HE.out _ ?_) ?_; exact (Below.refl _ _).drew; rintro e w1 ⟨rfl, hb1⟩; replace hb1 := kundrew hb1; have k0 := kcell hb1 g k l1; have k2 := kcell hb1 g' k l2))
      go_wp2_with fail
      go_roundw
      case rel => exact ⟨k + 1, by omega, by go_num, HB.out.trans (hb1.mono HB.out.size)⟩
      case measure => simp [intOf]; omega
    · clear hbel
      go_wp2_with fail
      go_ret
      exact ⟨rfl, HB.out⟩

end Go.Proofs.YtheglnkndjheaaaGreatDoor.Fo

/- Rows of rows of numbers marked and held. -/
namespace Go.Proofs.YtheglnkndjheaaaGreatDoor.Fo
set_option linter.unusedVariables false
set_option linter.unusedSimpArgs false
open Go.RowKit

def tot : List (List Int) → Nat
  | [] => 0
  | x :: t => x.length + tot t
theorem tot_append (xs ys : List (List Int)) : tot (xs ++ ys) = tot xs + tot ys := by
  induction xs with
  | nil => simp [tot]
  | cons x t ih => simp [tot, ih]; omega
theorem tot_take {xss : List (List Int)} {i : Nat} {xs : List Int} (h : xss[i]? = some xs) : tot (xss.take (i + 1)) = tot (xss.take i) + xs.length := by
  rw [List.take_add_one, h, tot_append]; simp [tot]
theorem tot_le : ∀ {xss : List (List Int)}, (∀ xs ∈ xss, xs.length ≤ 1000) → tot xss ≤ xss.length * 1000
  | [], _ => Nat.le_refl _
  | x :: t, h => by
    have h1 := tot_le (xss := t) (fun y hy => h y (by simp [hy]))
    have h2 := h x (by simp)
    simp [tot]; omega
theorem tot_take_le {xss : List (List Int)} (h : ∀ xs ∈ xss, xs.length ≤ 1000) (hn : xss.length ≤ 1000) (i : Nat) : tot (xss.take i) ≤ 1000000 := by
  have h1 := tot_le (xss := xss.take i) (fun y hy => h y (List.mem_of_mem_take hy))
  have h2 : (xss.take i).length ≤ 1000 := Nat.le_trans (by simp; omega) hn
  have h3 : (xss.take i).length * 1000 ≤ 1000 * 1000 := Nat.mul_le_mul_right _ h2
  omega

theorem markInt64S_from (g c n k N : Nat) (f : Nat → Value) (w : World) (hr : w.rowIs g 2 N f) (hN : n ≤ N) (hn : n ≤ 1000) (hk : k ≤ 2000000) :
    Calls Tryz.prog 22 #[.slice (some ⟨g, 0, none⟩) n c, .int .i64 (k : Int)] w fun e w' => e = .returned (.int .i64 ((k + n : Nat) : Int)) ∧ (∃ f', w'.rowIs g 2 N f') ∧ (∀ j, j < n → w'.cell? ⟨g, j, none⟩ = some (.int .i64 ((k + j : Nat) : Int))) ∧ w.grownBy w' (some g) := by
  go_enter Tryz.func22, Tryz.ntmps22
  go_wp2_with fail
  go_loopw [1, 5] (fun q i wr => ∃ (j : Nat) (f' : Nat → Value), j ≤ n ∧ i = .int .i64 (j : Int) ∧ q = .int .i64 ((k + j : Nat) : Int) ∧ wr.rowIs g 2 N f' ∧ (∀ i, i < j → f' i = .int .i64 ((k + i : Nat) : Int)) ∧ w.grownBy wr (some g)) (fun _ i _ => n - (intOf i).toNat)
  case atStart => exact ⟨0, f, Nat.zero_le _, rfl, by simp, hr, fun i h => by omega, ⟨rfl, rfl, rfl, Nat.le_refl _, fun _ _ _ => rfl⟩⟩
  case round =>
    obtain ⟨j, f', hj, rfl, rfl, hrow, hf, hg⟩ := hrel
    by_cases hlt : j < n
    · have q0 := hrow.cell (i := j) (by omega)
      have r0 := hrow.frozen j
      generalize hK : k + j = K at *
      have HK := kide hK
      have hKb : K ≤ 300000000 := by omega
      have i0 : (j : Int) < (n : Int) := by omega
      have HRW := kide hrow
      have HF := kide hf
      have HG := kide hg
      clear hrow hf hg hK
      go_wp2_with fail
      go_roundw
      case rel =>
        refine ⟨j + 1, _, by omega, by go_num, ?_, World.rowIs.set HRW.out j (.int .i64 (K : Int)), fun i hi => ?_, ?_⟩
        · rw [show k + (j + 1) = K + 1 by have := HK.out; omega]
          first | go_num | (congr 1; push_cast; omega) | (simp; omega)
        · show (if _ then _ else _) = _
          have hKK := HK.out
          by_cases h0 : i = j
          · rw [if_pos h0]
            congr 1
            omega
          · rw [if_neg h0]
            exact HF.out i (by omega)
        · exact grow_set HG.out j _
      case measure => simp [intOf]; omega
    · have e : j = n := by omega
      subst e
      have HRW := kide hrow
      have HF := kide hf
      have HG := kide hg
      clear hrow hf hg
      go_wp2_with fail
      go_ret
      exact ⟨rfl, ⟨f', HRW.out⟩, fun i hi => by rw [← HF.out i hi]; exact World.rowIs.cell HRW.out (by omega), HG.out⟩

/-- Rows that bear the marks from k on, one behind the other. -/
structure MkR (w : World) (k : Nat) (a : Option Addr) (vs : List Value) (xss : List (List Int)) : Prop where
  n1 : vs.length = xss.length
  n2 : xss.length ≤ 1000
  n3 : ∀ xs ∈ xss, xs.length ≤ 1000
  row : xss = [] ∨ ∃ g N f, a = some ⟨g, 0, none⟩ ∧ xss.length ≤ N ∧ w.rowIs g 40 N f ∧ ∀ i v, vs[i]? = some v → f i = v
  each : ∀ (i : Nat) (v : Value) (xs : List Int), vs[i]? = some v → xss[i]? = some xs → MkAt w v xs.length (k + tot (xss.take i))

theorem MkAt.later {w w' : World} {v : Value} {n K : Nat} (h : MkAt w v n K) (hb : Below w.heap.size w w') : MkAt w' v n K := by
  obtain ⟨g, c, e, hc⟩ := h
  exact ⟨g, c, e, fun j hj => by rw [kcell hb _ _ (block_lt_of_cell (hc j hj))]; exact hc j hj⟩

theorem MkR.later {w w' : World} {k : Nat} {a : Option Addr} {vs : List Value} {xss : List (List Int)} (h : MkR w k a vs xss) (hb : Below w.heap.size w w') : MkR w' k a vs xss where
  n1 := h.n1
  n2 := h.n2
  n3 := h.n3
  row := by
    rcases h.row with h1 | ⟨g, N, f, e, h3, h4, h5⟩
    · exact .inl h1
    · exact .inr ⟨g, N, f, e, h3, World.rowIs.of_block h4 (hb.block g h4.lt), h5⟩
  each := fun i v xs h1 h2 => (h.each i v xs h1 h2).later hb

set_option maxHeartbeats 1000000 in
theorem markInt64SS_hold (a : Option Addr) (c n lo hi : Nat) (vs : List Value) (xss : List (List Int)) (w : World) (hr : HoldR w lo hi a vs xss) (hn : xss.length = n) :
    Calls Tryz.prog 16 #[.slice a n c, .int .i64 1] w fun e w' => e = .returned (.int .i64 ((1 + tot xss : Nat) : Int)) ∧ MkR w' 1 a vs xss ∧ Out lo hi w w' := by
  have HR := kide hr
  have HN := kide hn
  have hn2 : n ≤ 1000 := by rw [← hn]; exact hr.n2
  clear hr hn
  go_enter Tryz.func16, Tryz.ntmps16
  go_wp2_with fail
  go_loopw [1, 5] (fun q i wr => ∃ k : Nat, k ≤ n ∧ i = .int .i64 (k : Int) ∧ q = .int .i64 ((1 + tot (xss.take k) : Nat) : Int) ∧ (∀ (i : Nat) (v : Value) (xs : List Int), vs[i]? = some v → xss[i]? = some xs → WrAt wr lo hi v xs.length) ∧ (∀ (i : Nat) (v : Value) (xs : List Int), i < k → vs[i]? = some v → xss[i]? = some xs → MkAt wr v xs.length (1 + tot (xss.take i))) ∧ (xss = [] ∨ ∃ g N f, a = some ⟨g, 0, none⟩ ∧ xss.length ≤ N ∧ wr.rowIs g 40 N f ∧ ∀ i v, vs[i]? = some v → f i = v) ∧ Out lo hi w wr) (fun _ i _ => n - (intOf i).toNat)
  case atStart => exact ⟨0, Nat.zero_le _, rfl, by simp [tot], fun i v xs h1 h2 => (HR.out.each i v xs h1 h2).wr, fun i v xs h => by omega, by
    rcases HR.out.row with h1 | ⟨g, N, f, e, -, -, h3, h4, h5⟩
    · exact .inl h1
    · exact .inr ⟨g, N, f, e, h3, h4, h5⟩, Out.refl _ _ _⟩
  case round =>
    obtain ⟨k, hk, rfl, rfl, hwr, hmk, hrow, hout⟩ := hrel
    have HW := kide hwr
    have HM := kide hmk
    have HRW := kide hrow
    have HO := kide hout
    clear hwr hmk hrow hout
    by_cases hlt : k < n
    · obtain ⟨xs, gx⟩ : ∃ x, xss[k]? = some x := ⟨xss[k]'(by rw [HN.out]; exact hlt), List.getElem?_eq_getElem _⟩
      obtain ⟨v, gv⟩ : ∃ x, vs[k]? = some x := ⟨vs[k]'(by rw [HR.out.n1, HN.out]; exact hlt), List.getElem?_eq_getElem _⟩
      have htk := tot_take gx
      have htl := tot_take_le HR.out.n3 HR.out.n2 k
      have hxl := HR.out.n3 xs (List.mem_of_getElem? gx)
      obtain ⟨gr, cr, Nr, fr, rfl, z1, z2, z3, z4⟩ := HW.out k v xs gv gx
      rcases HRW.out with h0 | ⟨g, N, f, rfl, h3, h4, h5⟩
      · have := HN.out; rw [h0] at this; simp at this; omega
      have hN2 := HN.out
      have p0 := h4.cell (i := k) (by omega)
      rw [h5 k _ gv] at p0
      have HMS := kide (markInt64S_from gr cr xs.length (1 + tot (xss.take k)) Nr fr wr z4 z3 hxl (by omega))
      have HTK := kide htk
      have GX := kide gx
      have GV := kide gv
      have H4 := kide h4
      have H5 := kide h5
      have Z4 := kide z4
      have Z1 := kide z1
      have Z2 := kide z2
      have H3 := kide h3
      have i0 : (k : Int) < (n : Int) := by omega
      have l1 := block_lt_of_cell p0
      generalize hT : tot (xss.take k) = T at *
      have HT := kide hT
      generalize hX : xs.length = X at *
      have HX := kide hX
      clear htk gx gv h4 h5 z4 z1 z2 z3 h3 hN2 hT hX
      go_wp2_with fail
      refine Calls.mono HMS.out ?_
      rintro e w1 ⟨rfl, ⟨f', hr1⟩, hc1, hg1⟩
      have hne : g ≠ gr := fun e => by
        subst e
        obtain ⟨c1, e1, -⟩ := H4.out
        obtain ⟨c2, e2, -⟩ := Z4.out
        rw [e1] at e2
        cases e2
      have H41 := kide (World.rowIs.of_block H4.out (hg1.block g l1 (fun e => hne (by cases e; rfl))))
      have O1 := kide (HO.out.trans (Out.grown hg1 Z1.out Z2.out))
      have W1 : Hid (∀ (i : Nat) (v : Value) (xs : List Int), vs[i]? = some v → xss[i]? = some xs → WrAt w1 lo hi v xs.length) := fun i v' xs' h1 h2 => by
        obtain ⟨g2, c2, N2, f2, rfl, y1, y2, y3, y4⟩ := HW.out i v' xs' h1 h2
        by_cases e : i = k
        · subst e
          have e2 : Value.slice (some ⟨g2, 0, none⟩) xs'.length c2 = Value.slice (some ⟨gr, 0, none⟩) X cr := by
            have := GV.out; rw [h1] at this; exact Option.some.inj this
          cases e2
          obtain ⟨c4, e4, e5, -⟩ := y4
          obtain ⟨c5, e6, e7, -⟩ := Z4.out
          rw [e4] at e6
          cases e6
          exact ⟨gr, cr, Nr, f', rfl, Z1.out, Z2.out, by omega, hr1⟩
        · refine ⟨g2, c2, N2, f2, rfl, y1, y2, y3, World.rowIs.of_block y4 (hg1.block g2 y4.lt (fun e' => ?_))⟩
          cases e'
          exact HR.out.dj i k _ _ h1 GV.out e _ rfl rfl
      have M1 : Hid (∀ (i : Nat) (v : Value) (xs : List Int), i < k + 1 → vs[i]? = some v → xss[i]? = some xs → MkAt w1 v xs.length (1 + tot (xss.take i))) := fun i v' xs' hi h1 h2 => by
        by_cases e : i = k
        · subst e
          have e2 : v' = Value.slice (some ⟨gr, 0, none⟩) X cr := by
            have := GV.out; rw [h1] at this; exact Option.some.inj this
          have e3 : xs' = xs := by
            have := GX.out; rw [h2] at this; exact Option.some.inj this
          subst e2
          subst e3
          rw [HX.out, HT.out]
          exact ⟨gr, cr, rfl, hc1⟩
        · obtain ⟨g2, c2, rfl, hc2⟩ := HM.out i v' xs' (by omega) h1 h2
          refine ⟨g2, c2, rfl, fun j hj => ?_⟩
          have hc3 := hc2 j hj
          rw [← hc3]
          refine World.cell?_of_block (w := wr) (a := ⟨g2, j, none⟩) (hg1.block g2 (block_lt_of_cell hc3) (fun e' => ?_))
          cases e'
          exact HR.out.dj i k _ _ h1 GV.out e _ rfl rfl
      clear hr1 hc1 hg1 hne
      go_wp2_with fail
      go_roundw
      case rel =>
        refine ⟨k + 1, by omega, by go_num, ?_, W1.out, M1.out, .inr ⟨g, N, f, rfl, H3.out, H41.out, H5.out⟩, O1.out⟩
        rw [HTK.out, show 1 + (T + X) = 1 + T + X by omega]
        first | rfl | go_num | (congr 1; push_cast; omega) | (simp; omega)
      case measure => simp [intOf]; omega
    · have e : k = n := by omega
      subst e
      have hful : Hid (xss.take k = xss) := by show _ = _; rw [List.take_of_length_le (by rw [HN.out]; omega)]
      go_wp2_with fail
      go_ret
      refine ⟨by rw [hful.out]; rfl, ⟨HR.out.n1, HR.out.n2, HR.out.n3, HRW.out, fun i v xs h1 h2 => HM.out i v xs ?_ h1 h2⟩, HO.out⟩
      have := (List.getElem?_eq_some_iff.1 h2).1
      have := HN.out
      omega

theorem heldInt64S_from (v : Value) (n k : Nat) (w : World) (hm : MkAt w v n k) (hn : n ≤ 1000) (hk : k ≤ 2000000) :
    Calls Tryz.prog 23 #[v, .int .i64 (k : Int)] w fun e w' => e = .returned (.int .i64 ((k + n : Nat) : Int)) ∧ w' = w := by
  obtain ⟨g, c, rfl, hc⟩ := hm
  go_enter Tryz.func23, Tryz.ntmps23
  go_wp2_with fail
  go_loop [1, 5] (fun q i => ∃ j : Nat, j ≤ n ∧ i = .int .i64 (j : Int) ∧ q = .int .i64 ((k + j : Nat) : Int)) (fun _ i => n - (intOf i).toNat)
  case atStart => exact ⟨0, Nat.zero_le _, rfl, by simp⟩
  case round =>
    obtain ⟨j, hj, rfl, rfl⟩ := hrel
    by_cases hlt : j < n
    · have e0 := hc j (by omega)
      generalize hK : k + j = K at *
      have HK := kide hK
      have hKb : K ≤ 300000000 := by omega
      have n0 : ((K : Int) != (K : Int)) = false := by simp
      have i0 : (j : Int) < (n : Int) := by omega
      clear hc hK
      go_wp2_with fail
      go_round
      case rel => exact ⟨j + 1, by omega, by go_num, by rw [show k + (j + 1) = K + 1 by have := HK.out; omega]; first | go_num | (congr 1; push_cast; omega) | (simp; omega)⟩
      case measure => simp [intOf]; omega
    · have e : j = n := by omega
      subst e
      clear hc
      go_wp2_with fail
      go_ret
      exact ⟨rfl, rfl⟩

set_option maxHeartbeats 1000000 in
theorem heldInt64SS_hold (a : Option Addr) (c n : Nat) (vs : List Value) (xss : List (List Int)) (w : World) (hr : MkR w 1 a vs xss) (hn : xss.length = n) :
    Calls Tryz.prog 17 #[.slice a n c, .int .i64 1] w fun e w' => e = .returned (.int .i64 ((1 + tot xss : Nat) : Int)) ∧ w' = w := by
  have HR := kide hr
  have HN := kide hn
  have hn2 : n ≤ 1000 := by rw [← hn]; exact hr.n2
  clear hr hn
  go_enter Tryz.func17, Tryz.ntmps17
  go_wp2_with fail
  go_loopw [1, 5] (fun q i wr => ∃ k : Nat, k ≤ n ∧ i = .int .i64 (k : Int) ∧ q = .int .i64 ((1 + tot (xss.take k) : Nat) : Int) ∧ wr = w) (fun _ i _ => n - (intOf i).toNat)
  case atStart => exact ⟨0, Nat.zero_le _, rfl, by simp [tot], rfl⟩
  case round =>
    obtain ⟨k, hk, rfl, rfl, hw⟩ := hrel
    obtain rfl := hw.symm
    by_cases hlt : k < n
    · obtain ⟨xs, gx⟩ : ∃ x, xss[k]? = some x := ⟨xss[k]'(by rw [HN.out]; exact hlt), List.getElem?_eq_getElem _⟩
      obtain ⟨v, gv⟩ : ∃ x, vs[k]? = some x := ⟨vs[k]'(by rw [HR.out.n1, HN.out]; exact hlt), List.getElem?_eq_getElem _⟩
      have HTK := kide (tot_take gx)
      have htl := tot_take_le HR.out.n3 HR.out.n2 k
      have hxl := HR.out.n3 xs (List.mem_of_getElem? gx)
      have HHD := kide (heldInt64S_from v xs.length (1 + tot (xss.take k)) w (HR.out.each k v xs gv gx) hxl (by omega))
      obtain ⟨av, nv, cv, rfl⟩ : ∃ a n c, v = .slice a n c := by
        obtain ⟨g, c, rfl, -⟩ := HR.out.each k v xs gv gx
        exact ⟨_, _, _, rfl⟩
      rcases HR.out.row with h0 | ⟨g, N, f, rfl, h3, h4, h5⟩
      · have := HN.out; rw [h0] at this; simp at this; omega
      have hN2 := HN.out
      have p0 := h4.cell (i := k) (by omega)
      rw [h5 k _ gv] at p0
      have i0 : (k : Int) < (n : Int) := by omega
      have l1 := block_lt_of_cell p0
      generalize tot (xss.take k) = T at *
      generalize xs.length = X at *
      have hp : ¬ (((1 + T + X : Nat) : Int)) < 0 := by omega
      clear gx gv h4 h5 h3 hN2
      generalize hS : 1 + T + X = S at *
      have HS := kide hS
      clear hS
      go_wp2_with fail
      refine Calls.mono HHD.out ?_
      rintro e w1 ⟨rfl, hw1⟩
      obtain rfl := hw1.symm
      go_wp2_with fail
      go_roundw
      case rel =>
        refine ⟨k + 1, by omega, by go_num, ?_, by first | rfl | trivial⟩
        rw [HTK.out, show 1 + (T + X) = S by have := HS.out; omega]
      case measure => simp [intOf]; omega
    · have e : k = n := by omega
      subst e
      have hful : Hid (xss.take k = xss) := by show _ = _; rw [List.take_of_length_le (by rw [HN.out]; omega)]
      go_wp2_with fail
      go_ret
      exact ⟨by rw [hful.out]; rfl, rfl⟩

end Go.Proofs.YtheglnkndjheaaaGreatDoor.Fo
