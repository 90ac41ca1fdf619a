/- Several texts in one. -/
import Derived.Test.YtjnbapddfhpcnaaZGAJ
import Derived.Test.YtjnbapddfhpcnaaZGAD

/- Rows of rows of numbers, some of them empty: marked and held. -/
namespace Go.Proofs.Ytjnbapddfhpcnaa
set_option linter.unusedVariables false
set_option linter.unusedSimpArgs false
open Go.RowKit

/-- A row of numbers that lies between two blocks, and may be written; or an empty one. -/
def RowAt (w : World) (lo hi : Nat) (v : Value) (xs : List Int) : Prop := (xs = [] ∧ ∃ a c, v = .slice a 0 c) ∨ ∃ g c N f, v = .slice (some ⟨g, 0, none⟩) xs.length c ∧ lo ≤ g ∧ g < hi ∧ xs.length ≤ N ∧ w.rowIs g 2 N f ∧ ∀ j, j < xs.length → f j = .int .i64 (xs.getD j 0)
def WrAt (w : World) (lo hi : Nat) (v : Value) (n : Nat) : Prop := (n = 0 ∧ ∃ a c, v = .slice a 0 c) ∨ ∃ g c N f, v = .slice (some ⟨g, 0, none⟩) n c ∧ lo ≤ g ∧ g < hi ∧ n ≤ N ∧ w.rowIs g 2 N f
def MkAt (w : World) (v : Value) (n K : Nat) : Prop := (n = 0 ∧ ∃ a c, v = .slice a 0 c) ∨ ∃ g c, v = .slice (some ⟨g, 0, none⟩) n c ∧ ∀ j, j < n → w.cell? ⟨g, j, none⟩ = some (.int .i64 ((K + j : Nat) : Int))

theorem OW.atE {w : World} {B : Nat} {v : Value} {xs : List Int} (h : OW w B v xs) : RowAt w B w.heap.size v xs := by
  have hcells := fun g hg => World.ownsRow.cells h (g := g) hg
  rcases h.2 with ⟨rfl, hn⟩ | ⟨g, cap, cur, rfl, hB, hh, hcap, -, hsz, -⟩
  · exact .inl ⟨List.eq_nil_of_length_eq_zero hn, none, 0, rfl⟩
  · have hlt : g < w.heap.size := lt_of_block hh
    have hrow : w.rowIs g 2 cap (fun i => cur.getD i (.int .i64 0)) := ⟨cur, hh, by simpa using hsz, fun i hi => by
      have hi' : i < cur.size := by omega
      rw [Array.getElem?_eq_getElem hi']
      simp [Array.getD, hi']⟩
    refine .inr ⟨g, cap, cap, _, rfl, hB, hlt, hcap, hrow, fun j hj => ?_⟩
    have c0 := hcells g rfl j (.int .i64 (xs.getD j 0)) (by simp [List.getD, hj])
    rw [Addr.add_lit] at c0
    simp only [Nat.zero_add] at c0
    rw [hrow.cell (by omega)] at c0
    exact Option.some.inj c0

theorem RowAt.form {w : World} {lo hi : Nat} {v : Value} {xs : List Int} (h : RowAt w lo hi v xs) : ∃ a c, v = .slice a xs.length c := by
  rcases h with ⟨rfl, a, c, e⟩ | ⟨g, c, N, f, e, -⟩
  · exact ⟨a, c, e⟩
  · exact ⟨_, _, e⟩
theorem RowAt.wr {w : World} {lo hi : Nat} {v : Value} {xs : List Int} (h : RowAt w lo hi v xs) : WrAt w lo hi v xs.length := by
  rcases h with ⟨rfl, a, c, e⟩ | ⟨g, c, N, f, e, h1, h2, h3, h4, -⟩
  · exact .inl ⟨rfl, a, c, e⟩
  · exact .inr ⟨g, c, N, f, e, h1, h2, h3, h4⟩

theorem RowAt.out {w w' : World} {lo hi B1 B2 : Nat} {v : Value} {xs : List Int} (h : RowAt w lo hi v xs) (ho : Out B1 B2 w w') (hd : hi ≤ B1 ∨ B2 ≤ lo) : RowAt w' lo hi v xs := by
  rcases h with h | ⟨g, c, N, f, e, h1, h2, h3, h4, h5⟩
  · exact .inl h
  · exact .inr ⟨g, c, N, f, e, h1, h2, h3, World.rowIs.of_block h4 (ho.2.2.2.2 g h4.lt (by omega)), h5⟩
theorem RowAt.rd {w : World} {lo hi : Nat} {v : Value} {xs : List Int} (h : RowAt w lo hi v xs) (hl : xs.length ≤ 10000) (hx : ∀ x ∈ xs, in64 x) : ∃ a c, v = .slice a xs.length c ∧ RdI w a xs := by
  rcases h with ⟨rfl, a, c, e⟩ | ⟨g, c, N, f, e, h1, h2, h3, h4, h5⟩
  · exact ⟨a, c, e, by simp, by simp, .inl rfl⟩
  · refine ⟨_, c, e, by omega, hx, .inr ⟨g, 0, rfl, fun i hi => ?_⟩⟩
    rw [Nat.zero_add, h4.cell (by omega), h5 i hi]

/-- Rows of numbers between two blocks, no two in one block. -/
structure HoldR (w : World) (lo hi : Nat) (a : Option Addr) (vs : List Value) (xss : List (List Int)) : Prop where
  n1 : vs.length = xss.length
  n2 : xss.length ≤ 100
  n3 : ∀ xs ∈ xss, xs.length ≤ 10000
  row : xss = [] ∨ ∃ g N f, a = some ⟨g, 0, none⟩ ∧ lo ≤ g ∧ g < hi ∧ xss.length ≤ N ∧ w.rowIs g 46 N f ∧ ∀ i v, vs[i]? = some v → f i = v
  each : ∀ (i : Nat) (v : Value) (xs : List Int), vs[i]? = some v → xss[i]? = some xs → RowAt w lo hi v xs
  dj : ∀ (i j : Nat) (v v' : Value), vs[i]? = some v → vs[j]? = some v' → i ≠ j → ∀ b, v.ownBlock = some b → v'.ownBlock ≠ some b

theorem HoldR.out {w w' : World} {lo hi B1 B2 : Nat} {a : Option Addr} {vs : List Value} {xss : List (List Int)} (h : HoldR w lo hi a vs xss) (ho : Out B1 B2 w w') (hd : hi ≤ B1 ∨ B2 ≤ lo) : HoldR w' lo hi a vs xss where
  n1 := h.n1
  n2 := h.n2
  n3 := h.n3
  row := by
    rcases h.row with h1 | ⟨g, N, f, e, h1, h2, h3, h4, h5⟩
    · exact .inl h1
    · exact .inr ⟨g, N, f, e, h1, h2, h3, World.rowIs.of_block h4 (ho.2.2.2.2 g h4.lt (by omega)), h5⟩
  each := fun i v xs h1 h2 => (h.each i v xs h1 h2).out ho hd
  dj := h.dj

theorem HoldR.later {w w' : World} {lo hi : Nat} {a : Option Addr} {vs : List Value} {xss : List (List Int)} (h : HoldR w lo hi a vs xss) (hb : Below w.heap.size w w') : HoldR w' lo hi a vs xss := h.out (Out.below (B1 := hi) (B2 := hi) hb) (.inl (Nat.le_refl _))

def tot : List (List Int) → Nat
  | [] => 0
  | x :: t => x.length + tot t
theorem tot_append (xs ys : List (List Int)) : tot (xs ++ ys) = tot xs + tot ys := by
  induction xs with
  | nil => simp [tot]
  | cons x t ih => simp [tot, ih]; omega
theorem tot_take {xss : List (List Int)} {i : Nat} {xs : List Int} (h : xss[i]? = some xs) : tot (xss.take (i + 1)) = tot (xss.take i) + xs.length := by
  rw [List.take_add_one, h, tot_append]; simp [tot]
theorem tot_le : ∀ {xss : List (List Int)}, (∀ xs ∈ xss, xs.length ≤ 10000) → tot xss ≤ xss.length * 10000
  | [], _ => Nat.le_refl _
  | x :: t, h => by
    have h1 := tot_le (xss := t) (fun y hy => h y (by simp [hy]))
    have h2 := h x (by simp)
    simp [tot]; omega
theorem tot_take_le {xss : List (List Int)} (h : ∀ xs ∈ xss, xs.length ≤ 10000) (hn : xss.length ≤ 100) (i : Nat) : tot (xss.take i) ≤ 1000000 := by
  have h1 := tot_le (xss := xss.take i) (fun y hy => h y (List.mem_of_mem_take hy))
  have h2 : (xss.take i).length ≤ 100 := Nat.le_trans (by simp; omega) hn
  have h3 : (xss.take i).length * 10000 ≤ 100 * 10000 := Nat.mul_le_mul_right _ h2
  omega

theorem markInt64S_from (g c n k N : Nat) (f : Nat → Value) (w : World) (hr : w.rowIs g 2 N f) (hN : n ≤ N) (hn : n ≤ 10000) (hk : k ≤ 2000000) :
    Calls Try.prog 40 #[.slice (some ⟨g, 0, none⟩) n c, .int .i64 (k : Int)] w fun e w' => e = .returned (.int .i64 ((k + n : Nat) : Int)) ∧ (∃ f', w'.rowIs g 2 N f') ∧ (∀ j, j < n → w'.cell? ⟨g, j, none⟩ = some (.int .i64 ((k + j : Nat) : Int))) ∧ w.grownBy w' (some g) := by
  go_enter Try.func40, Try.ntmps40
  go_wp2_with fail
  go_loopw [1, 5] (fun q i wr => ∃ (j : Nat) (f' : Nat → Value), j ≤ n ∧ i = .int .i64 (j : Int) ∧ q = .int .i64 ((k + j : Nat) : Int) ∧ wr.rowIs g 2 N f' ∧ (∀ i, i < j → f' i = .int .i64 ((k + i : Nat) : Int)) ∧ w.grownBy wr (some g)) (fun _ i _ => n - (intOf i).toNat)
  case atStart => exact ⟨0, f, Nat.zero_le _, rfl, by simp, hr, fun i h => by omega, ⟨rfl, rfl, rfl, Nat.le_refl _, fun _ _ _ => rfl⟩⟩
  case round =>
    obtain ⟨j, f', hj, rfl, rfl, hrow, hf, hg⟩ := hrel
    by_cases hlt : j < n
    · have q0 := hrow.cell (i := j) (by omega)
      have r0 := hrow.frozen j
      generalize hK : k + j = K at *
      have HK := kide hK
      have hKb : K ≤ 300000000 := by omega
      have i0 : (j : Int) < (n : Int) := by omega
      have HRW := kide hrow
      have HF := kide hf
      have HG := kide hg
      clear hrow hf hg hK
      go_wp2_with fail
      go_roundw
      case rel =>
        refine ⟨j + 1, _, by omega, by go_num, ?_, World.rowIs.set HRW.out j (.int .i64 (K : Int)), fun i hi => ?_, ?_⟩
        · rw [show k + (j + 1) = K + 1 by have := HK.out; omega]
          first | go_num | (congr 1; push_cast; omega) | (simp; omega)
        · show (if _ then _ else _) = _
          have hKK := HK.out
          by_cases h0 : i = j
          · rw [if_pos h0]
            congr 1
            omega
          · rw [if_neg h0]
            exact HF.out i (by omega)
        · exact grow_set HG.out j _
      case measure => simp [intOf]; omega
    · have e : j = n := by omega
      subst e
      have HRW := kide hrow
      have HF := kide hf
      have HG := kide hg
      clear hrow hf hg
      go_wp2_with fail
      go_ret
      exact ⟨rfl, ⟨f', HRW.out⟩, fun i hi => by rw [← HF.out i hi]; exact World.rowIs.cell HRW.out (by omega), HG.out⟩

/-- Rows that bear the marks from k on, one behind the other. -/
structure MkR (w : World) (k : Nat) (a : Option Addr) (vs : List Value) (xss : List (List Int)) : Prop where
  n1 : vs.length = xss.length
  n2 : xss.length ≤ 100
  n3 : ∀ xs ∈ xss, xs.length ≤ 10000
  row : xss = [] ∨ ∃ g N f, a = some ⟨g, 0, none⟩ ∧ xss.length ≤ N ∧ w.rowIs g 46 N f ∧ ∀ i v, vs[i]? = some v → f i = v
  each : ∀ (i : Nat) (v : Value) (xs : List Int), vs[i]? = some v → xss[i]? = some xs → MkAt w v xs.length (k + tot (xss.take i))

theorem MkAt.later {w w' : World} {v : Value} {n K : Nat} (h : MkAt w v n K) (hb : Below w.heap.size w w') : MkAt w' v n K := by
  rcases h with h | ⟨g, c, e, hc⟩
  · exact .inl h
  exact .inr ⟨g, c, e, fun j hj => by rw [kcell hb _ _ (block_lt_of_cell (hc j hj))]; exact hc j hj⟩

theorem MkR.later {w w' : World} {k : Nat} {a : Option Addr} {vs : List Value} {xss : List (List Int)} (h : MkR w k a vs xss) (hb : Below w.heap.size w w') : MkR w' k a vs xss where
  n1 := h.n1
  n2 := h.n2
  n3 := h.n3
  row := by
    rcases h.row with h1 | ⟨g, N, f, e, h3, h4, h5⟩
    · exact .inl h1
    · exact .inr ⟨g, N, f, e, h3, World.rowIs.of_block h4 (hb.block g h4.lt), h5⟩
  each := fun i v xs h1 h2 => (h.each i v xs h1 h2).later hb

theorem markInt64S_zero (a : Option Addr) (c k : Nat) (hk : k ≤ 2000000) (w : World) :
    Calls Try.prog 40 #[.slice a 0 c, .int .i64 (k : Int)] w fun e w' => e = .returned (.int .i64 (k : Int)) ∧ w' = w := by
  go_enter Try.func40, Try.ntmps40
  go_wp2_with fail
  refine wp_loop_rounds 1 ?_
  rw [rounds_succ]
  go_wp2_with fail
  go_ret
  exact ⟨rfl, rfl⟩
theorem heldInt64S_zero (a : Option Addr) (c k : Nat) (hk : k ≤ 2000000) (w : World) :
    Calls Try.prog 41 #[.slice a 0 c, .int .i64 (k : Int)] w fun e w' => e = .returned (.int .i64 (k : Int)) ∧ w' = w := by
  go_enter Try.func41, Try.ntmps41
  go_wp2_with fail
  refine wp_loop_rounds 1 ?_
  rw [rounds_succ]
  go_wp2_with fail
  go_ret
  exact ⟨rfl, rfl⟩

theorem mark_at {wr : World} {lo hi : Nat} {v : Value} {n K : Nat} (h : WrAt wr lo hi v n) (hn : n ≤ 10000) (hk : K ≤ 2000000) :
    Calls Try.prog 40 #[v, .int .i64 (K : Int)] wr fun e w' => e = .returned (.int .i64 ((K + n : Nat) : Int)) ∧ WrAt w' lo hi v n ∧ MkAt w' v n K ∧ ∃ row, wr.grownBy w' row ∧ ∀ r, row = some r → v.ownBlock = some r ∧ lo ≤ r ∧ r < hi ∧ ∃ cur, wr.heap[r]? = some (.cells cur 2 (0, 0)) := by
  rcases h with ⟨rfl, a, c, rfl⟩ | ⟨g, c, N, f, rfl, h1, h2, h3, h4⟩
  · refine (markInt64S_zero a c K hk wr).mono ?_
    rintro e w' ⟨rfl, rfl⟩
    exact ⟨rfl, .inl ⟨rfl, a, c, rfl⟩, .inl ⟨rfl, a, c, rfl⟩, none, World.grownBy.refl _ _, fun r e => by cases e⟩
  · refine (markInt64S_from g c n K N f wr h4 h3 hn hk).mono ?_
    rintro e w' ⟨rfl, ⟨f', hr1⟩, hc1, hg1⟩
    refine ⟨rfl, .inr ⟨g, c, N, f', rfl, h1, h2, h3, hr1⟩, .inr ⟨g, c, rfl, hc1⟩, some g, hg1, fun r e => ?_⟩
    cases e
    obtain ⟨cur, hh, -⟩ := h4
    exact ⟨rfl, h1, h2, cur, hh⟩

theorem WrAt.form {w : World} {lo hi n : Nat} {v : Value} (h : WrAt w lo hi v n) : ∃ a c, v = .slice a n c := by
  rcases h with ⟨rfl, a, c, e⟩ | ⟨g, c, N, f, e, -⟩
  · exact ⟨a, c, e⟩
  · exact ⟨_, _, e⟩
theorem WrAt.kept {w w' : World} {lo hi n : Nat} {v : Value} {row : Option Nat} (h : WrAt w lo hi v n) (hg : w.grownBy w' row) (hr : ∀ b, v.ownBlock = some b → row ≠ some b) : WrAt w' lo hi v n := by
  rcases h with h | ⟨g, c, N, f, rfl, h1, h2, h3, h4⟩
  · exact .inl h
  · exact .inr ⟨g, c, N, f, rfl, h1, h2, h3, World.rowIs.of_block h4 (hg.block g h4.lt (fun e => hr g rfl e.symm))⟩
theorem MkAt.kept {w w' : World} {n K : Nat} {v : Value} {row : Option Nat} (h : MkAt w v n K) (hg : w.grownBy w' row) (hr : ∀ b, v.ownBlock = some b → row ≠ some b) : MkAt w' v n K := by
  rcases h with h | ⟨g, c, rfl, hc⟩
  · exact .inl h
  · exact .inr ⟨g, c, rfl, fun j hj => (World.cell?_of_block (w := w) (a := ⟨g, j, none⟩) (hg.block g (block_lt_of_cell (hc j hj)) (fun e => hr g rfl e.symm))).trans (hc j hj)⟩
theorem MkAt.form {w : World} {n K : Nat} {v : Value} (h : MkAt w v n K) : ∃ a c, v = .slice a n c := by
  rcases h with ⟨rfl, a, c, e⟩ | ⟨g, c, e, -⟩
  · exact ⟨a, c, e⟩
  · exact ⟨_, _, e⟩

set_option maxHeartbeats 1000000 in
theorem markRows_any (a : Option Addr) (c n lo hi : Nat) (vs : List Value) (xss : List (List Int)) (w : World) (hr : HoldR w lo hi a vs xss) (hn : xss.length = n) :
    Calls Try.prog 28 #[.slice a n c, .int .i64 1] w fun e w' => e = .returned (.int .i64 ((1 + tot xss : Nat) : Int)) ∧ MkR w' 1 a vs xss ∧ Out lo hi w w' := by
  have HR := kide hr
  have HN := kide hn
  have hn2 : n ≤ 100 := by rw [← hn]; exact hr.n2
  clear hr hn
  go_enter Try.func28, Try.ntmps28
  go_wp2_with fail
  go_loopw [1, 5] (fun q i wr => ∃ k : Nat, k ≤ n ∧ i = .int .i64 (k : Int) ∧ q = .int .i64 ((1 + tot (xss.take k) : Nat) : Int) ∧ (∀ (i : Nat) (v : Value) (xs : List Int), vs[i]? = some v → xss[i]? = some xs → WrAt wr lo hi v xs.length) ∧ (∀ (i : Nat) (v : Value) (xs : List Int), i < k → vs[i]? = some v → xss[i]? = some xs → MkAt wr v xs.length (1 + tot (xss.take i))) ∧ (xss = [] ∨ ∃ g N f, a = some ⟨g, 0, none⟩ ∧ xss.length ≤ N ∧ wr.rowIs g 46 N f ∧ ∀ i v, vs[i]? = some v → f i = v) ∧ Out lo hi w wr) (fun _ i _ => n - (intOf i).toNat)
  case atStart => exact ⟨0, Nat.zero_le _, rfl, by simp [tot], fun i v xs h1 h2 => (HR.out.each i v xs h1 h2).wr, fun i v xs h => by omega, by
    rcases HR.out.row with h1 | ⟨g, N, f, e, -, -, h3, h4, h5⟩
    · exact .inl h1
    · exact .inr ⟨g, N, f, e, h3, h4, h5⟩, Out.refl _ _ _⟩
  case round =>
    obtain ⟨k, hk, rfl, rfl, hwr, hmk, hrow, hout⟩ := hrel
    have HW := kide hwr
    have HM := kide hmk
    have HRW := kide hrow
    have HO := kide hout
    clear hwr hmk hrow hout
    by_cases hlt : k < n
    · obtain ⟨xs, gx⟩ : ∃ x, xss[k]? = some x := ⟨xss[k]'(by rw [HN.out]; exact hlt), List.getElem?_eq_getElem _⟩
      obtain ⟨v, gv⟩ : ∃ x, vs[k]? = some x := ⟨vs[k]'(by rw [HR.out.n1, HN.out]; exact hlt), List.getElem?_eq_getElem _⟩
      have htk := tot_take gx
      have htl := tot_take_le HR.out.n3 HR.out.n2 k
      have hxl := HR.out.n3 xs (List.mem_of_getElem? gx)
      have hwk := HW.out k v xs gv gx
      have HMS := kide (mark_at hwk hxl (show 1 + tot (xss.take k) ≤ 2000000 by omega))
      obtain ⟨va, vc, rfl⟩ := hwk.form
      rcases HRW.out with h0 | ⟨g, N, f, rfl, h3, h4, h5⟩
      · have := HN.out; rw [h0] at this; simp at this; omega
      have hN2 := HN.out
      have p0 := h4.cell (i := k) (by omega)
      rw [h5 k _ gv] at p0
      have HTK := kide htk
      have GX := kide gx
      have GV := kide gv
      have H4 := kide h4
      have H5 := kide h5
      have H3 := kide h3
      have i0 : (k : Int) < (n : Int) := by omega
      have l1 := block_lt_of_cell p0
      generalize hT : tot (xss.take k) = T at *
      have HT := kide hT
      generalize hX : xs.length = X at *
      have HX := kide hX
      clear htk gx gv h4 h5 h3 hN2 hT hX hwk
      go_wp2_with fail
      refine Calls.mono HMS.out ?_
      rintro e w1 ⟨rfl, hw1, hm1, row, hg1, hrw⟩
      have H41 := kide (World.rowIs.of_block H4.out (hg1.block g l1 (fun e => by
        obtain ⟨-, -, -, cur, h9⟩ := hrw g e.symm
        obtain ⟨c1, e1, -⟩ := H4.out
        rw [e1] at h9
        cases h9)))
      have O1 : Hid (Out lo hi w w1) := HO.out.trans ⟨hg1.os, hg1.tape, hg1.output, hg1.size, fun j hj ho => hg1.block j hj (fun e => by
        obtain ⟨-, h8, h9, -⟩ := hrw j e.symm
        omega)⟩
      have W1 : Hid (∀ (i : Nat) (v : Value) (xs : List Int), vs[i]? = some v → xss[i]? = some xs → WrAt w1 lo hi v xs.length) := fun i v' xs' h1 h2 => by
        by_cases e : i = k
        · subst e
          have e2 : v' = Value.slice va X vc := by
            have := GV.out; rw [h1] at this; exact Option.some.inj this
          have e3 : xs' = xs := by
            have := GX.out; rw [h2] at this; exact Option.some.inj this
          subst e2
          subst e3
          rw [HX.out]
          exact hw1
        · exact (HW.out i v' xs' h1 h2).kept hg1 (fun b hb e' => HR.out.dj k i _ _ GV.out h1 (Ne.symm e) b (hrw b e').1 hb)
      have M1 : Hid (∀ (i : Nat) (v : Value) (xs : List Int), i < k + 1 → vs[i]? = some v → xss[i]? = some xs → MkAt w1 v xs.length (1 + tot (xss.take i))) := fun i v' xs' hi h1 h2 => by
        by_cases e : i = k
        · subst e
          have e2 : v' = Value.slice va X vc := by
            have := GV.out; rw [h1] at this; exact Option.some.inj this
          have e3 : xs' = xs := by
            have := GX.out; rw [h2] at this; exact Option.some.inj this
          subst e2
          subst e3
          rw [HX.out, HT.out]
          exact hm1
        · exact (HM.out i v' xs' (by omega) h1 h2).kept hg1 (fun b hb e' => HR.out.dj k i _ _ GV.out h1 (Ne.symm e) b (hrw b e').1 hb)
      clear hw1 hm1 hg1 hrw
      go_wp2_with fail
      go_roundw
      case rel =>
        refine ⟨k + 1, by omega, by go_num, ?_, W1.out, M1.out, .inr ⟨g, N, f, rfl, H3.out, H41.out, H5.out⟩, O1.out⟩
        rw [HTK.out, show 1 + (T + X) = 1 + T + X by omega]
        first | rfl | go_num | (congr 1; push_cast; omega) | (simp; omega)
      case measure => simp [intOf]; omega
    · have e : k = n := by omega
      subst e
      have hful : Hid (xss.take k = xss) := by show _ = _; rw [List.take_of_length_le (by rw [HN.out]; omega)]
      go_wp2_with fail
      go_ret
      refine ⟨by rw [hful.out]; rfl, ⟨HR.out.n1, HR.out.n2, HR.out.n3, HRW.out, fun i v xs h1 h2 => HM.out i v xs ?_ h1 h2⟩, HO.out⟩
      have := (List.getElem?_eq_some_iff.1 h2).1
      have := HN.out
      omega

theorem heldInt64S_from (g c n k : Nat) (w : World) (hc : ∀ j, j < n → w.cell? ⟨g, j, none⟩ = some (.int .i64 ((k + j : Nat) : Int))) (hn : n ≤ 10000) (hk : k ≤ 2000000) :
    Calls Try.prog 41 #[.slice (some ⟨g, 0, none⟩) n c, .int .i64 (k : Int)] w fun e w' => e = .returned (.int .i64 ((k + n : Nat) : Int)) ∧ w' = w := by
  go_enter Try.func41, Try.ntmps41
  go_wp2_with fail
  go_loop [1, 5] (fun q i => ∃ j : Nat, j ≤ n ∧ i = .int .i64 (j : Int) ∧ q = .int .i64 ((k + j : Nat) : Int)) (fun _ i => n - (intOf i).toNat)
  case atStart => exact ⟨0, Nat.zero_le _, rfl, by simp⟩
  case round =>
    obtain ⟨j, hj, rfl, rfl⟩ := hrel
    by_cases hlt : j < n
    · have e0 := hc j (by omega)
      generalize hK : k + j = K at *
      have HK := kide hK
      have hKb : K ≤ 300000000 := by omega
      have n0 : ((K : Int) != (K : Int)) = false := by simp
      have i0 : (j : Int) < (n : Int) := by omega
      clear hc hK
      go_wp2_with fail
      go_round
      case rel => exact ⟨j + 1, by omega, by go_num, by rw [show k + (j + 1) = K + 1 by have := HK.out; omega]; first | go_num | (congr 1; push_cast; omega) | (simp; omega)⟩
      case measure => simp [intOf]; omega
    · have e : j = n := by omega
      subst e
      clear hc
      go_wp2_with fail
      go_ret
      exact ⟨rfl, rfl⟩

theorem held_at (w : World) {v : Value} {n K : Nat} (h : MkAt w v n K) (hn : n ≤ 10000) (hk : K ≤ 2000000) :
    Calls Try.prog 41 #[v, .int .i64 (K : Int)] w fun e w' => e = .returned (.int .i64 ((K + n : Nat) : Int)) ∧ w' = w := by
  rcases h with ⟨rfl, a, c, rfl⟩ | ⟨g, c, rfl, hc⟩
  · exact heldInt64S_zero a c K hk w
  · exact heldInt64S_from g c n K w hc hn hk

set_option maxHeartbeats 1000000 in
theorem heldRows_any (a : Option Addr) (c n : Nat) (vs : List Value) (xss : List (List Int)) (w : World) (hr : MkR w 1 a vs xss) (hn : xss.length = n) :
    Calls Try.prog 29 #[.slice a n c, .int .i64 1] w fun e w' => e = .returned (.int .i64 ((1 + tot xss : Nat) : Int)) ∧ w' = w := by
  have HR := kide hr
  have HN := kide hn
  have hn2 : n ≤ 100 := by rw [← hn]; exact hr.n2
  clear hr hn
  go_enter Try.func29, Try.ntmps29
  go_wp2_with fail
  go_loopw [1, 5] (fun q i wr => ∃ k : Nat, k ≤ n ∧ i = .int .i64 (k : Int) ∧ q = .int .i64 ((1 + tot (xss.take k) : Nat) : Int) ∧ wr = w) (fun _ i _ => n - (intOf i).toNat)
  case atStart => exact ⟨0, Nat.zero_le _, rfl, by simp [tot], rfl⟩
  case round =>
    obtain ⟨k, hk, rfl, rfl, hw⟩ := hrel
    obtain rfl := hw.symm
    by_cases hlt : k < n
    · obtain ⟨xs, gx⟩ : ∃ x, xss[k]? = some x := ⟨xss[k]'(by rw [HN.out]; exact hlt), List.getElem?_eq_getElem _⟩
      obtain ⟨v, gv⟩ : ∃ x, vs[k]? = some x := ⟨vs[k]'(by rw [HR.out.n1, HN.out]; exact hlt), List.getElem?_eq_getElem _⟩
      have HTK := kide (tot_take gx)
      have htl := tot_take_le HR.out.n3 HR.out.n2 k
      have hxl := HR.out.n3 xs (List.mem_of_getElem? gx)
      have HHD := kide (held_at w (HR.out.each k v xs gv gx) hxl (show 1 + tot (xss.take k) ≤ 2000000 by omega))
      obtain ⟨av, nv, cv, rfl⟩ : ∃ a n c, v = .slice a n c := by
        obtain ⟨a9, c9, e9⟩ := (HR.out.each k v xs gv gx).form
        exact ⟨_, _, _, e9⟩
      rcases HR.out.row with h0 | ⟨g, N, f, rfl, h3, h4, h5⟩
      · have := HN.out; rw [h0] at this; simp at this; omega
      have hN2 := HN.out
      have p0 := h4.cell (i := k) (by omega)
      rw [h5 k _ gv] at p0
      have i0 : (k : Int) < (n : Int) := by omega
      have l1 := block_lt_of_cell p0
      generalize tot (xss.take k) = T at *
      generalize xs.length = X at *
      have hp : ¬ (((1 + T + X : Nat) : Int)) < 0 := by omega
      clear gx gv h4 h5 h3 hN2
      generalize hS : 1 + T + X = S at *
      have HS := kide hS
      clear hS
      go_wp2_with fail
      refine Calls.mono HHD.out ?_
      rintro e w1 ⟨rfl, hw1⟩
      obtain rfl := hw1.symm
      go_wp2_with fail
      go_roundw
      case rel =>
        refine ⟨k + 1, by omega, by go_num, ?_, by first | rfl | trivial⟩
        rw [HTK.out, show 1 + (T + X) = S by have := HS.out; omega]
      case measure => simp [intOf]; omega
    · have e : k = n := by omega
      subst e
      have hful : Hid (xss.take k = xss) := by show _ = _; rw [List.take_of_length_le (by rw [HN.out]; omega)]
      go_wp2_with fail
      go_ret
      exact ⟨by rw [hful.out]; rfl, rfl⟩

end Go.Proofs.Ytjnbapddfhpcnaa

/- Places marked: the specification. -/
namespace Go.Proofs.Ytjnbapddfhpcnaa
set_option linter.unusedVariables false
set_option linter.unusedSimpArgs false
open Go.RowKit

theorem Try.infoBoolRow : (Try.prog.info? 47).map (fun i => (i.zero, i.size, i.bytes)) = some (some (.slice none 0 0), 1, 24) := by kernel_rfl
theorem Try.infoBool9 : (Try.prog.info? 4).map (fun i => (i.zero, i.size, i.bytes)) = some (some (.bool false), 1, 1) := by kernel_rfl

theorem make_bools (n : Nat) (hn : n ≤ 1048576) (kl kc : IntKind) (w : World) :
    (Instr.makeSlice 47 (.int kl (n : Int)) (.int kc (n : Int))).run Try.prog w = .ok (.slice (some ⟨w.heap.size, 0, none⟩) n n) (w.alloc (.cells (madeCells #[.bool false] (n * 1)) 4)) := by
  obtain ⟨i0, hi, hz0, hz1, hz2⟩ := info_parts Try.infoBool9
  have := run_make (P := Try.prog) w 47 4 i0 _ Try.underlying47 hi hz0 kl kc n n (by omega) (Int.le_refl _) (by rw [hz2]; omega) (by omega)
  rw [this, hz1]
  rfl

/-- The rows of the first k variables. -/
def rws (g W : Nat → Nat) (k : Nat) : List Value := (List.range k).map fun i => .slice (some ⟨g i, 0, none⟩) (W i) (W i)
theorem rws_len (g W : Nat → Nat) (k : Nat) : (rws g W k).length = k := by simp [rws]
theorem rws_succ (g W : Nat → Nat) (k : Nat) : rws g W (k + 1) = rws g W k ++ [.slice (some ⟨g k, 0, none⟩) (W k) (W k)] := by simp [rws, List.range_succ]
theorem rws_congr {g g' W : Nat → Nat} {k : Nat} (h : ∀ i, i < k → g i = g' i) : rws g W k = rws g' W k := by
  unfold rws
  refine List.map_congr_left fun i hi => ?_
  rw [h i (List.mem_range.1 hi)]

/-- Marks of the first k variables, as they lie. -/
structure Mb (u : World) (B : Nat) (v : Value) (k : Nat) (g W : Nat → Nat) (M : Nat → Nat → Bool) : Prop where
  row : u.ownsRow B 47 1 v k (rws g W k)
  each : ∀ i, i < k → B ≤ g i ∧ u.rowIs (g i) 4 (W i) (fun j => .bool (M i j))
  inj : ∀ i j, i < k → j < k → g i = g j → i = j

theorem Mb.later {u u' : World} {B : Nat} {v : Value} {k : Nat} {g W : Nat → Nat} {M : Nat → Nat → Bool} (h : Mb u B v k g W M) (hb : Below u.heap.size u u') : Mb u' B v k g W M :=
  ⟨own_later h.row hb, fun i hi => ⟨(h.each i hi).1, World.rowIs.of_block (h.each i hi).2 (hb.block _ (h.each i hi).2.lt)⟩, h.inj⟩
/-- One block of marks that is none of these has turned. -/
theorem Mb.far {u u' : World} {B G : Nat} {v : Value} {k N : Nat} {g W : Nat → Nat} {M : Nat → Nat → Bool} {f : Nat → Value} (h : Mb u B v k g W M) (hf : u.rowIs G 4 N f) (hg : u.grownBy u' (some G)) (hn : ∀ i, i < k → g i ≠ G) : Mb u' B v k g W M := by
  obtain ⟨cc, hh, -⟩ := hf
  exact ⟨own_kept h.row hg (fun b hb e => own_typed h.row hh (by decide) (e.trans hb.symm)), fun i hi => ⟨(h.each i hi).1, World.rowIs.of_block (h.each i hi).2 (hg.block _ (h.each i hi).2.lt (fun e => hn i hi (by cases e; rfl)))⟩, h.inj⟩
/-- A mark is made. -/
theorem Mb.mark {u : World} {B : Nat} {v : Value} {k i p : Nat} {g W : Nat → Nat} {M : Nat → Nat → Bool} (h : Mb u B v k g W M) (hi : i < k) : Mb (u.setCell ⟨g i, p, none⟩ (.bool true)) B v k g W (fun a j => if a = i ∧ j = p then true else M a j) := by
  have hg := gsc u ⟨g i, p, none⟩ (.bool true)
  obtain ⟨cc, hh, hr⟩ := (h.each i hi).2
  refine ⟨own_kept h.row hg (fun b hb e => own_typed h.row hh (by decide) (e.trans hb.symm)), fun a ha => ⟨(h.each a ha).1, ?_⟩, h.inj⟩
  by_cases e : a = i
  · subst e
    have h1 := World.rowIs.set ⟨cc, hh, hr⟩ p (.bool true)
    refine (World.rowIs.congr h1 fun j hj => ?_)
    by_cases e2 : j = p
    · simp [e2]
    · simp [e2]
  · have h2 : ∀ j, (if a = i ∧ j = p then true else M a j) = M a j := fun j => by simp [e]
    simp only [h2]
    exact World.rowIs.of_block (h.each a ha).2 (hg.block _ (h.each a ha).2.lt (fun e9 => e (h.inj a i ha hi (Option.some.inj e9))))

/-- A row more. -/
theorem Mb.push {u u' : World} {B G : Nat} {v v' : Value} {k : Nat} {g W : Nat → Nat} {M : Nat → Nat → Bool} (h : Mb u B v k g W M) (hG : B ≤ G) (hf : u.rowIs G 4 (W k) (fun j => .bool (M k j))) (hn : ∀ i, i < k → g i ≠ G)
    (ho : u'.ownsRow B 47 1 v' (k + 1) (rws g W k ++ [.slice (some ⟨G, 0, none⟩) (W k) (W k)])) (hg : u.grownBy u' v.ownBlock) : Mb u' B v' (k + 1) (fun i => if i < k then g i else G) W M := by
  have key : ∀ {b N : Nat} {f : Nat → Value}, u.rowIs b 4 N f → u'.rowIs b 4 N f := fun {b N f} hb => by
    obtain ⟨cc, hh, hr⟩ := hb
    exact World.rowIs.of_block ⟨cc, hh, hr⟩ (hg.block b (lt_of_block hh) (own_typed h.row hh (by decide)))
  refine ⟨?_, fun i hi => ?_, fun i j hi hj e => ?_⟩
  · have e : rws (fun i => if i < k then g i else G) W (k + 1) = rws g W k ++ [.slice (some ⟨G, 0, none⟩) (W k) (W k)] := by
      rw [rws_succ, rws_congr (g' := g) (fun i hi => by simp [hi])]
      simp
    rw [e]
    exact ho
  · by_cases e : i < k
    · simp only [e, if_true]
      exact ⟨(h.each i e).1, key (h.each i e).2⟩
    · have e2 : i = k := by omega
      subst e2
      simp only [e, if_false]
      exact ⟨hG, key hf⟩
  · by_cases e1 : i < k
    · by_cases e2 : j < k
      · simp only [e1, e2, if_true] at e
        exact h.inj i j e1 e2 e
      · simp only [e1, e2, if_true, if_false] at e
        exact absurd e (hn i e1)
    · by_cases e2 : j < k
      · simp only [e1, e2, if_true, if_false] at e
        exact absurd e.symm (hn j e2)
      · omega

theorem wpList_appBR {w : World} {ops : Array Oper} {rest : List Oper} {o : Oper} {a : Act} {Q : Exit → Act → World → Prop} (hgd : o.guard = none) (s x : Operand)
    (ho : o.op = .call { callee := .builtin .append, args := #[s, x], argTypes := #[44, 44] })
    (B : Nat) (v : Value) (k : Nat) (xs : List Value) (y : Value) (hy : y.oneCell' = true) (hs : a.eval s = v) (hown : w.ownsRow B 47 1 v k xs) (gx : Nat) (hx : a.eval x = .slice (some ⟨gx, 0, none⟩) 1 1)
    (h0 : w.cell? ⟨gx, 0, none⟩ = some y) (hl : k ≤ 1073741824) (hB : B ≤ w.heap.size)
    (h : ∀ v' w', w'.ownsRow B 47 1 v' (k + 1) (xs ++ [y]) → w.grownBy w' v.ownBlock → wpList Try.prog ops Q rest (a.put o.dst v') w') : wpList Try.prog ops Q (o :: rest) a w := by
  obtain ⟨i0, hi, hz0, hz1, hz2⟩ := info_parts Try.infoBoolRow
  refine wpList_append_own_at w hgd s x 44 ho B 47 i0 _ 1 24 Try.underlying44 hi hz0 hz1 hz2 rfl (by decide) v k xs hs hown ⟨gx, 0, none⟩ 1 1 [y] hx rfl ?_ ?_ (by unfold maxLen; omega) (by omega) hB ?_
  · intro j u hj
    rw [Addr.add_lit]
    match j, hj with
    | 0, hj => simp at hj; subst hj; exact h0
    | j + 1, hj => simp at hj
  · intro u hu
    simp at hu
    subst hu
    exact hy
  · intro v' w' ho' hg _ _
    exact h v' w' ho' hg

/-- How long a row of marks is, and what is marked in it. -/
def wdA (ds : List Dc) (i : Nat) : Nat := ((ds.getD i default).2).toNat + 1
def mkA (ks : List (List Int)) (i j : Nat) : Bool := decide ((j : Int) ∈ ks.getD i [])

set_option maxHeartbeats 1000000 in
set_option maxRecDepth 100000 in
theorem l6Marks_any (a b : Option Addr) (c1 c2 n : Nat) (ds : List Dc) (xs : List Iw) (w : World) (hd : RdD w a ds) (hx : RdII w b xs) (hn : xs.length = n) (hc : cutR ds (xs.map Iw.ks) = true) :
    Calls Try.prog 18 #[.slice a ds.length c1, .agg #[.slice b n c2]] w fun e w' => ∃ v g, e = .returned v ∧ Mb w' w.heap.size v ds.length g (wdA ds) (mkA (xs.map Iw.ks)) ∧ Below w.heap.size w w' := by
  have hmk := fun (n : Nat) (hn : n ≤ 1048576) kl kc u => make_bools n hn kl kc u
  simp only [cutR, Bool.and_eq_true, decide_eq_true_eq] at hc
  obtain ⟨⟨hd1, hd2⟩, hcl⟩ := hc
  have hdo := dclR_iff.1 hd1
  have h60 : ds.length ≤ 60 := hdo.1
  have hnd : n = ds.length := by rw [← hn]; simpa using hd2
  have HWD : Hid (∀ d ∈ ds, 1 ≤ d.2 ∧ d.2 ≤ 4096) := fun d hd => by
    have h9 := hdo.2.1 d hd
    simp only [dcOk, Bool.and_eq_true, wOk, decide_eq_true_eq] at h9
    exact h9.2
  have HCL := kide hcl
  have HND := kide hnd
  have HN := kide hn
  have HD := kide hd
  have HX := kide hx
  have hbc : Below w.heap.size w (w.alloc (Obj.cells #[.slice b n c2] 28)) := (Below.refl _ _).alloc (Nat.le_refl _) _
  have hbo : Below (w.alloc (Obj.cells #[.slice b n c2] 28)).heap.size (w.alloc (Obj.cells #[.slice b n c2] 28)) ((w.alloc (Obj.cells #[.slice b n c2] 28)).alloc (Obj.cells #[] 47)) := (Below.refl _ _).alloc (Nat.le_refl _) _
  have XC := kide ((Bz.new w #[.slice b n c2] 28).later hbo)
  have HBB := kide (hbc.trans (hbo.mono hbc.size))
  have HM0 : Hid (Mb ((w.alloc (Obj.cells #[.slice b n c2] 28)).alloc (Obj.cells #[] 47)) w.heap.size (.slice (some ⟨w.heap.size + 1, 0, none⟩) 0 0) 0 (fun _ => 0) (wdA ds) (mkA (xs.map Iw.ks))) := by
    have h9 := World.ownsRow_made (e := 47) (size := 1) (base := w.heap.size) (w.alloc (Obj.cells #[.slice b n c2] 28)) #[] 0 (by simp) (Nat.zero_le _) (by simp)
    rw [World.size_alloc] at h9
    exact ⟨h9, fun i hi => by omega, fun i j hi => by omega⟩
  clear hd1 hd2 hcl hdo hnd hn hd hx hbc hbo
  go_enter Try.func18, Try.ntmps18
  go_wp2_with fail
  generalize (w.alloc (Obj.cells #[.slice b n c2] 28)).alloc (Obj.cells #[] 47) = w0 at *
  go_loopw [5, 6] (fun o iv wr => ∃ (k : Nat) (g : Nat → Nat), k ≤ ds.length ∧ iv = .int .i64 (k : Int) ∧ Mb wr w.heap.size o k g (wdA ds) (mkA (xs.map Iw.ks)) ∧ Bz wr w.heap.size #[.slice b n c2] 28 ∧ Below w.heap.size w wr) (fun _ iv _ => ds.length - (intOf iv).toNat)
  case atStart => exact ⟨0, _, Nat.zero_le _, rfl, HM0.out, XC.out, HBB.out⟩
  case round =>
    obtain ⟨k, g, hk, rfl, hmb, hxc, hbel⟩ := hrel
    by_cases hlt : k < ds.length
    · have i0 : (k : Int) < (ds.length : Int) := by omega
      have i1 : (k : Int) ≥ 0 := by omega
      obtain ⟨d, hdk⟩ : ∃ d, ds[k]? = some d := ⟨ds[k], List.getElem?_eq_getElem hlt⟩
      obtain ⟨-, -, h9 | ⟨db, dof, rfl, hdc⟩⟩ := HD.out.later hbel
      · rw [h9] at hlt; simp at hlt
      obtain ⟨e0, e1⟩ := hdc k d hdk
      have hwd := HWD.out d (List.mem_of_getElem? hdk)
      have hWk : wdA ds k = d.2.toNat + 1 := by simp [wdA, List.getD, hdk]
      obtain ⟨W, hW⟩ : ∃ W : Nat, d.2 = (W : Int) := ⟨d.2.toNat, by omega⟩
      rw [hW] at e1 hwd hWk
      rw [Int.toNat_natCast] at hWk
      have hmkk : ∀ u, (Instr.makeSlice 47 (.int .i64 ((W : Int) + 1)) (.int .i64 ((W : Int) + 1))).run Try.prog u = .ok (.slice (some ⟨u.heap.size, 0, none⟩) (W + 1) (W + 1)) (u.alloc (.cells (madeCells #[.bool false] (W + 1)) 4)) := fun u => by
        have h9 := hmk (W + 1) (by omega) .i64 .i64 u
        rw [Nat.mul_one] at h9
        have e9 : (((W + 1 : Nat)) : Int) = (W : Int) + 1 := by push_cast; rfl
        rw [e9] at h9
        exact h9
      have hxl : k < xs.length := by rw [HN.out, HND.out]; exact hlt
      obtain ⟨x, hxk⟩ : ∃ x, xs[k]? = some x := ⟨xs[k], List.getElem?_eq_getElem hxl⟩
      have HMB := kide hmb
      have HXC := kide hxc
      have HBEL := kide hbel
      have HLT := kide hlt
      have HDK := kide hdk
      have HXK := kide hxk
      have HWK := kide hWk
      have HW := kide hW
      clear hmb hxc hbel hlt hdk hxk hWk hdc hk hW HM0 XC HBB hmk
      have hba : Below wr.heap.size wr (wr.alloc (.cells (madeCells #[.bool false] (W + 1)) 4)) := (Below.refl _ _).alloc (Nat.le_refl _) _
      have HR0 : Hid ((wr.alloc (.cells (madeCells #[.bool false] (W + 1)) 4)).rowIs wr.heap.size 4 (W + 1) (fun p => .bool (decide ((p : Int) ∈ x.ks.take 0)))) := ⟨_, heap_alloc_new _ _, by simp [madeCells], fun i hi => by
        have h1 : i % 1 = 0 := by omega
        simp [madeCells, hi, h1]⟩
      have HG := kide (fun i (hi : i < k) => Nat.ne_of_lt (HMB.out.each i hi).2.lt)
      have HM1 := kide (HMB.out.later hba)
      have HX1 := kide (HXC.out.later hba)
      have HB1 := kide (HBEL.out.trans (hba.mono HBEL.out.size))
      have hwz : w.heap.size ≤ wr.heap.size := HBEL.out.size
      clear hba
      go_wp2_with fail
      obtain ⟨Gr, hGr⟩ : ∃ Gr, wr.heap.size = Gr := ⟨_, rfl⟩
      simp only [hGr] at HR0 HG hwz ⊢
      generalize wr.alloc (.cells (madeCells #[.bool false] (W + 1)) 4) = w1 at *
      clear hGr e0 e1 hmkk
      go_loopw [8] (fun jv wr2 => ∃ j : Nat, j ≤ x.ks.length ∧ jv = .int .i64 (j : Int) ∧ Mb wr2 w.heap.size u5 k g (wdA ds) (mkA (xs.map Iw.ks)) ∧ Bz wr2 w.heap.size #[.slice b n c2] 28 ∧ Below w.heap.size w wr2 ∧ wr2.rowIs Gr 4 (W + 1) (fun p => .bool (decide ((p : Int) ∈ x.ks.take j)))) (fun jv _ => x.ks.length - (intOf jv).toNat)
      case atStart => exact ⟨0, Nat.zero_le _, rfl, HM1.out, HX1.out, HB1.out, HR0.out⟩
      case round =>
        obtain ⟨j, hj, rfl, hmb2, hxc2, hb2, hr2⟩ := hrel
        have m0 := hxc2.cell 0
        simp at m0
        have lm := hxc2.lt
        obtain ⟨-, h9 | ⟨bb, bo, rfl, hbc⟩⟩ := HX.out.later hb2
        · have := HN.out; have := HND.out; have := HLT.out; rw [h9] at *; simp at *; omega
        obtain ⟨f0, f1, f2⟩ := hbc k x HXK.out
        obtain ⟨xa, xc, xk⟩ := x
        simp only [] at f0 f1 f2 hj hr2
        have hkn : (k : Int) < (n : Int) := by have := HLT.out; have := HND.out; omega
        have k0 : (k : Int) ≥ 0 := by omega
        have hxl2 := f1
        by_cases hjl : j < xk.length
        · have j0 : (j : Int) < (xk.length : Int) := by omega
          have j1 : (j : Int) ≥ 0 := by omega
          obtain ⟨f3, h9 | ⟨xb, xo, rfl, hxc3⟩⟩ := f2
          · rw [h9] at hjl; simp at hjl
          have y0 := hxc3 j hjl
          have hyin : 0 < xk.getD j 0 ∧ xk.getD j 0 < (W : Int) := by
            have h8 := (risR_all (cutL_at (c := xk) HCL.out HDK.out (by rw [List.getElem?_map, HXK.out]; rfl))).1 (xk.getD j 0) (by rw [List.getD, List.getElem?_eq_getElem hjl]; exact List.getElem_mem _)
            rw [HW.out] at h8
            exact h8
          have HTK : Hid (xk.take (j + 1) = xk.take j ++ [xk.getD j 0]) := by
            show _ = _
            rw [List.take_add_one, List.getElem?_eq_getElem hjl, Option.toList_some, List.getD, List.getElem?_eq_getElem hjl]
            rfl
          generalize xk.getD j 0 = y at *
          obtain ⟨Y, hY⟩ : ∃ Y : Nat, y = (Y : Int) := ⟨y.toNat, by omega⟩
          subst hY
          have hYW : Y < W + 1 := by omega
          have y1 : (Y : Int) ≥ 0 := by omega
          have y2 : (Y : Int) < (W : Int) + 1 := by omega
          have y3 : (Y : Int) < ((W + 1 : Nat) : Int) := by omega
          have p0 := hr2.cell hYW
          have p1 := hr2.frozen Y
          have HR2 := kide hr2
          have HM2 := kide hmb2
          have HX2 := kide hxc2
          have HB2 := kide hb2
          have HJL := kide hjl
          clear hr2 hmb2 hxc2 hb2 hjl hxc3 hbc hyin
          go_wp2_with fail
          go_roundw
          case rel =>
            refine ⟨j + 1, HJL.out, by go_num, HM2.out.far HR2.out (gsc wr ⟨Gr, Y, none⟩ _) HG.out, HX2.out.grown (gsc wr ⟨Gr, Y, none⟩ _) (fun e => ?_), HB2.out.setCell hwz _, World.rowIs.congr (World.rowIs.set HR2.out Y (.bool true)) fun p hp => ?_⟩
            · have e2 : w.heap.size = Gr := Option.some.inj e
              obtain ⟨cc, hh, -⟩ := HR2.out
              rw [← e2] at hh
              have h8 := (show wr.heap[w.heap.size]? = _ from HX2.out).symm.trans hh
              simp at h8
            · rw [HTK.out]
              by_cases e : p = Y
              · simp [e]
              · have e2 : ¬ (p : Int) = (Y : Int) := by omega
                simp [e, e2]
          case measure => have := HJL.out; simp only [intOf]; omega
        · have e9 : j = xk.length := by omega
          subst e9
          have hbb : Below wr.heap.size wr (wr.alloc (Obj.cells #[Value.slice (some ⟨Gr, 0, none⟩) (W + 1) (W + 1)] 47)) := (Below.refl _ _).alloc (Nat.le_refl _) _
          rw [List.take_of_length_le (Nat.le_refl _)] at hr2
          have HM2 := kide (hmb2.later hbb)
          have HX2 := kide (hxc2.later hbb)
          have HB2 := kide (hb2.trans (hbb.mono hb2.size))
          have HR2 : Hid ((wr.alloc (Obj.cells #[Value.slice (some ⟨Gr, 0, none⟩) (W + 1) (W + 1)] 47)).rowIs Gr 4 (wdA ds k) (fun p => .bool (mkA (xs.map Iw.ks) k p))) := by
            rw [show wdA ds k = W + 1 from HWK.out]
            have h8 : ∀ p : Nat, mkA (xs.map Iw.ks) k p = decide ((p : Int) ∈ xk) := fun p => by
              unfold mkA
              congr 2
              simp [List.getD, HXK.out]
            simp only [h8]
            exact World.rowIs.of_block hr2 (hbb.block _ hr2.lt)
          have hkk : k ≤ 1073741824 := by have := HLT.out; omega
          have hsz2 : w.heap.size ≤ (wr.alloc (Obj.cells #[Value.slice (some ⟨Gr, 0, none⟩) (W + 1) (W + 1)] 47)).heap.size := HB2.out.size
          clear hr2 hmb2 hxc2 hb2 hbb hbc f2
          go_wp2_with (at_builtin; refine wpList_appBR rfl _ _ rfl w.heap.size u5 k (rws g (wdA ds) k) (.slice (some ⟨Gr, 0, none⟩) (W + 1) (W + 1)) rfl rfl HM2.out.row _ rfl (by simp) hkk hsz2 ?_)
          intro v9 w9 ho9 hg9
          have HP := kide (HM2.out.push hwz HR2.out (HG.out) (by rw [show wdA ds k = W + 1 from HWK.out]; exact ho9) hg9)
          have HX9 := kide (HX2.out.grown hg9 (own_typed HM2.out.row HX2.out (by decide)))
          have HB9 := kide (HB2.out.grown hg9 hsz2 (fun r e => (own_lt HM2.out.row e).1))
          clear ho9 hg9 m0 lm f0 hkn k0
          go_wp2_with fail
          go_roundw
          case rel => exact ⟨k + 1, _, HLT.out, by go_num, HP.out, HX9.out, HB9.out⟩
          case measure => have := HLT.out; simp only [intOf]; omega
    · have e9 : k = ds.length := by omega
      subst e9
      go_wp2_with fail
      go_ret
      exact ⟨_, g, rfl, hmb, hbel⟩

end Go.Proofs.Ytjnbapddfhpcnaa

/- Marks told as cuts: the specification. -/
namespace Go.Proofs.Ytjnbapddfhpcnaa
set_option linter.unusedVariables false
set_option linter.unusedSimpArgs false
open Go.RowKit

/-- What is marked of a row of W + 1, from 1 on; of it what lies ahead of q. -/
def rowT (M : Nat → Bool) (q : Nat) : List Int := ((List.range q).filter fun p => decide (1 ≤ p) && M p).map fun (p : Nat) => (p : Int)
theorem rowT_succ (M : Nat → Bool) (q : Nat) (hq : 1 ≤ q) : rowT M (q + 1) = if M q = true then rowT M q ++ [(q : Int)] else rowT M q := by
  unfold rowT
  rw [List.range_succ, List.filter_append, List.map_append]
  by_cases h : M q = true
  · simp [h, hq]
  · simp [h]
theorem rowT_one (M : Nat → Bool) : rowT M 1 = [] := by simp [rowT]
theorem rowT_len (M : Nat → Bool) (q : Nat) : (rowT M q).length ≤ q := by
  unfold rowT
  rw [List.length_map]
  exact Nat.le_trans (List.length_filter_le _ _) (by simp)

theorem wpList_appRR {w : World} {ops : Array Oper} {rest : List Oper} {o : Oper} {a : Act} {Q : Exit → Act → World → Prop} (hgd : o.guard = none) (s x : Operand)
    (ho : o.op = .call { callee := .builtin .append, args := #[s, x], argTypes := #[23, 23] })
    (B : Nat) (v : Value) (k : Nat) (xs : List Value) (y : Value) (hy : y.oneCell' = true) (hs : a.eval s = v) (hown : w.ownsRow B 46 1 v k xs) (gx : Nat) (hx : a.eval x = .slice (some ⟨gx, 0, none⟩) 1 1)
    (h0 : w.cell? ⟨gx, 0, none⟩ = some y) (hl : k ≤ 1073741824) (hB : B ≤ w.heap.size)
    (h : ∀ g cap w', w'.ownsRow B 46 1 (.slice (some ⟨g, 0, none⟩) (k + 1) cap) (k + 1) (xs ++ [y]) → w.grownBy w' v.ownBlock → wpList Try.prog ops Q rest (a.put o.dst (.slice (some ⟨g, 0, none⟩) (k + 1) cap)) w') : wpList Try.prog ops Q (o :: rest) a w := by
  obtain ⟨i0, hi, hz0, hz1, hz2⟩ := info_parts Try.infoRow
  refine wpList_append_own_at w hgd s x 23 ho B 46 i0 _ 1 24 Try.underlying23 hi hz0 hz1 hz2 rfl (by decide) v k xs hs hown ⟨gx, 0, none⟩ 1 1 [y] hx rfl ?_ ?_ (by unfold maxLen; omega) (by omega) hB ?_
  · intro j u hj
    rw [Addr.add_lit]
    match j, hj with
    | 0, hj => simp at hj; subst hj; exact h0
    | j + 1, hj => simp at hj
  · intro u hu
    simp at hu
    subst hu
    exact hy
  · intro v' w' ho' hg _ _
    obtain ⟨g, cap, rfl⟩ : ∃ g cap, v' = .slice (some ⟨g, 0, none⟩) (k + 1) cap := by
      rcases ho'.2 with ⟨-, h9⟩ | ⟨g, cap, cur, e, -⟩
      · omega
      · exact ⟨g, cap, e⟩
    exact h g cap w' ho' hg

theorem own_form {w : World} {B n : Nat} {e : TypeId} {v : Value} {xs : List Value} (h : w.ownsRow B e 1 v n xs) : ∃ a c, v = .slice a n c := by
  rcases h.2 with ⟨rfl, h0⟩ | ⟨g, cap, cur, rfl, hB, r⟩
  · exact ⟨none, 0, by rw [h0]⟩
  · exact ⟨_, _, rfl⟩
theorem Rws.beside {w w' : World} {B : Nat} {vs : List Value} {xss : List (List Int)} {row : Option Nat} (h : Rws w B vs xss) (hg : w.grownBy w' row) (hn : ∀ (i : Nat) (u : Value), vs[i]? = some u → ∀ b, u.ownBlock = some b → row ≠ some b) : Rws w' B vs xss :=
  ⟨h.len, fun i v xs h1 h2 => own_kept (h.own i v xs h1 h2) hg (hn i v h1), h.dj⟩
theorem Mb.own {u u' : World} {B : Nat} {v : Value} {k : Nat} {g W : Nat → Nat} {M : Nat → Nat → Bool} {row : Option Nat} (h : Mb u B v k g W M) (hg : u.grownBy u' row) (hr : ∀ r, row = some r → ∃ cur t, u.heap[r]? = some (.cells cur t (0, 0)) ∧ t ≠ 4 ∧ t ≠ 47) : Mb u' B v k g W M :=
  ⟨own_kept h.row hg (fun b hb e => by
    obtain ⟨cur, t, h1, h2, h3⟩ := hr b e
    obtain ⟨cur2, h4⟩ := own_cells h.row hb
    rw [h1] at h4
    cases h4
    exact h3 rfl), fun i hi => ⟨(h.each i hi).1, World.rowIs.of_block (h.each i hi).2 (hg.block _ (h.each i hi).2.lt (fun e => by
    obtain ⟨cur, t, h1, h2, h3⟩ := hr _ e.symm
    obtain ⟨cc, hh, -⟩ := (h.each i hi).2
    rw [h1] at hh
    cases hh
    exact h2 rfl))⟩, h.inj⟩

/-- The rows that have been told. -/
def rowsT (M : Nat → Nat → Bool) (W : Nat → Nat) (i : Nat) : List (List Int) := (List.range i).map fun a => rowT (M a) (W a - 1)
theorem rowsT_succ (M : Nat → Nat → Bool) (W : Nat → Nat) (i : Nat) : rowsT M W (i + 1) = rowsT M W i ++ [rowT (M i) (W i - 1)] := by simp [rowsT, List.range_succ]

/-- What lies between two rows. -/
structure Lu (w : World) (B : Nat) (v : Value) (k : Nat) (g W : Nat → Nat) (M : Nat → Nat → Bool) (i : Nat) (rv : Value) (vs : List Value) (wr : World) : Prop where
  mb : Mb wr B v k g W M
  ob : Bz wr (w.heap.size + 1) #[rv] 28
  rb : Bz wr w.heap.size #[.slice none 0 0] 28
  rr : wr.ownsRow w.heap.size 46 1 rv i vs
  rs : Rws wr w.heap.size vs (rowsT M W i)
  bl : Below w.heap.size w wr
theorem Lu.later {w : World} {B : Nat} {v : Value} {k : Nat} {g W : Nat → Nat} {M : Nat → Nat → Bool} {i : Nat} {rv : Value} {vs : List Value} {wr wr' : World} (h : Lu w B v k g W M i rv vs wr) (hb : Below wr.heap.size wr wr') : Lu w B v k g W M i rv vs wr' :=
  ⟨h.mb.later hb, h.ob.later hb, h.rb.later hb, own_later h.rr hb, h.rs.later hb, h.bl.trans (hb.mono h.bl.size)⟩
/-- A row of numbers that is none of these has grown. -/
theorem Lu.beside {w : World} {B : Nat} {v : Value} {k : Nat} {g W : Nat → Nat} {M : Nat → Nat → Bool} {i : Nat} {rv lv : Value} {vs : List Value} {xs : List Int} {wr wr' : World} (h : Lu w B v k g W M i rv vs wr) (ho : OW wr w.heap.size lv xs) (hg : wr.grownBy wr' lv.ownBlock) (hd : ∀ (a : Nat) (u : Value), vs[a]? = some u → ∀ b, u.ownBlock = some b → lv.ownBlock ≠ some b) : Lu w B v k g W M i rv vs wr' :=
  ⟨h.mb.own hg (fun r e => by obtain ⟨cur, h1⟩ := own_cells ho e; exact ⟨cur, _, h1, by decide, by decide⟩), h.ob.grown hg (own_typed ho h.ob (by decide)), h.rb.grown hg (own_typed ho h.rb (by decide)), own_kept h.rr hg (fun b hb e => by
    obtain ⟨cur, h1⟩ := own_cells h.rr hb
    exact own_typed ho h1 (by decide) e.symm), h.rs.beside hg hd, h.bl.grown hg h.bl.size (fun r e => (own_lt ho e).1)⟩

set_option maxHeartbeats 1000000 in
set_option maxRecDepth 100000 in
theorem l6Cuts_any (va : Option Addr) (k vc : Nat) (hk : k ≤ 60) (B : Nat) (g W : Nat → Nat) (hW : ∀ i, i < k → 2 ≤ W i ∧ W i ≤ 5000) (M : Nat → Nat → Bool) (w : World) (h : Mb w B (.slice va k vc) k g W M) :
    Calls Try.prog 19 #[.slice va k vc] w fun e w' => ∃ rv vs, e = .returned (.agg #[rv]) ∧ w'.ownsRow w.heap.size 46 1 rv k vs ∧ Rws w' w.heap.size vs (rowsT M W k) ∧ Below w.heap.size w w' := by
  have hb1 : Below w.heap.size w ((w.alloc (Obj.cells #[.slice none 0 0] 28)).alloc (Obj.cells #[.slice none 0 0] 28)) := ((Below.refl _ _).alloc (Nat.le_refl _) _).alloc (by simp) _
  have hb2 : Below (w.alloc (Obj.cells #[.slice none 0 0] 28)).heap.size (w.alloc (Obj.cells #[.slice none 0 0] 28)) ((w.alloc (Obj.cells #[.slice none 0 0] 28)).alloc (Obj.cells #[.slice none 0 0] 28)) := (Below.refl _ _).alloc (Nat.le_refl _) _
  have L0 : Hid (Lu w B (.slice va k vc) k g W M 0 (.slice none 0 0) [] ((w.alloc (Obj.cells #[.slice none 0 0] 28)).alloc (Obj.cells #[.slice none 0 0] 28))) := by
    have x1 := Bz.new (w.alloc (Obj.cells #[.slice none 0 0] 28)) #[.slice none 0 0] 28
    rw [World.size_alloc] at x1
    exact ⟨h.later hb1, x1, (Bz.new w _ _).later hb2, ⟨rfl, .inl ⟨rfl, rfl⟩⟩, Rws.nil _ _, hb1⟩
  have HW := kide hW
  clear hb1 hb2 h hW
  go_enter Try.func19, Try.ntmps19
  go_wp2_with fail
  generalize (w.alloc (Obj.cells #[.slice none 0 0] 28)).alloc (Obj.cells #[.slice none 0 0] 28) = w0 at *
  go_loopw [4] (fun iv wr => ∃ (i : Nat) (rv : Value) (vs : List Value), i ≤ k ∧ iv = .int .i64 (i : Int) ∧ Lu w B (.slice va k vc) k g W M i rv vs wr) (fun iv _ => k - (intOf iv).toNat)
  case atStart => exact ⟨0, _, [], Nat.zero_le _, rfl, L0.out⟩
  case round =>
    obtain ⟨i, rv, vs, hi, rfl, hlu⟩ := hrel
    by_cases hlt : i < k
    · have i0 : (i : Int) < (k : Int) := by omega
      have i1 : (i : Int) ≥ 0 := by omega
      have hcells := fun gg hgg => World.ownsRow.cells hlu.mb.row (g := gg) hgg
      obtain ⟨gm, rfl⟩ : ∃ gm, va = some ⟨gm, 0, none⟩ := by
        rcases hlu.mb.row.2 with ⟨e, h0⟩ | ⟨gm, cap, cur, e, -⟩
        · omega
        · cases e; exact ⟨gm, rfl⟩
      have HLU := kide hlu
      have HLT := kide hlt
      have hba : Below wr.heap.size wr (wr.alloc (Obj.cells #[] 2)) := (Below.refl _ _).alloc (Nat.le_refl _) _
      have LA := kide (hlu.later hba)
      have hwz : w.heap.size ≤ wr.heap.size := hlu.bl.size
      have O0 : Hid (OW (wr.alloc (Obj.cells #[] 2)) w.heap.size (.slice (some ⟨wr.heap.size, 0, none⟩) 0 0) (rowT (M i) 1)) := by
        rw [rowT_one]
        exact World.ownsRow_made (e := 2) (size := 1) wr #[] 0 hwz (Nat.zero_le _) (by simp)
      have D0 : Hid (∀ (a : Nat) (u : Value), vs[a]? = some u → ∀ b, u.ownBlock = some b → (Value.slice (some ⟨wr.heap.size, 0, none⟩) 0 0).ownBlock ≠ some b) := fun a u ha b hb e => by
        have hl := hlu.rs.len
        have hal := (List.getElem?_eq_some_iff.1 ha).1
        have h9 := own_lt (hlu.rs.own a u _ ha (List.getElem?_eq_getElem (by rw [← hl]; exact hal))) hb
        have : wr.heap.size = b := by simpa [Value.ownBlock] using e
        omega
      have hwi := HW.out i hlt
      clear hlu hlt hba hi hcells
      go_wp2_with fail
      generalize wr.alloc (Obj.cells #[] 2) = w1 at *
      go_loopw [5, 6] (fun lv pv wr2 => ∃ q : Nat, 1 ≤ q ∧ q ≤ W i - 1 ∧ pv = .int .i64 (q : Int) ∧ Lu w B (.slice (some ⟨gm, 0, none⟩) k vc) k g W M i rv vs wr2 ∧ OW wr2 w.heap.size lv (rowT (M i) q) ∧ ∀ (a : Nat) (u : Value), vs[a]? = some u → ∀ b, u.ownBlock = some b → lv.ownBlock ≠ some b) (fun _ pv _ => W i - (intOf pv).toNat)
      case atStart => exact ⟨1, Nat.le_refl _, by omega, rfl, LA.out, O0.out, D0.out⟩
      case round =>
        obtain ⟨q, hq1, hq2, rfl, hl2, ho2, hd2⟩ := hrel
        have c0 : wr.cell? ⟨gm, i, none⟩ = some (.slice (some ⟨g i, 0, none⟩) (W i) (W i)) := by
          have h9 := World.ownsRow.cells hl2.mb.row (g := gm) rfl i (.slice (some ⟨g i, 0, none⟩) (W i) (W i)) (by simp [rws, HLT.out])
          rw [Addr.add_lit] at h9
          simpa using h9
        by_cases hqW : q + 1 < W i
        · have q0 : (q : Int) + 1 < (W i : Int) := by omega
          have q1 : (q : Int) ≥ 0 := by omega
          have q2 : (q : Int) < (W i : Int) := by omega
          have c1 := (hl2.mb.each i HLT.out).2.cell (show q < W i by omega)
          have hrs := rowT_succ (M i) q hq1
          have HRS := kide hrs
          have HL2 := kide hl2
          have HO2 := kide ho2
          have HD2 := kide hd2
          have HQ := kide hqW
          have hsz : w.heap.size ≤ wr.heap.size := hl2.bl.size
          have hll : (rowT (M i) q).length ≤ 1073741824 := by have := rowT_len (M i) q; omega
          clear hl2 ho2 hd2 hqW hrs L0 LA O0 D0
          cases hM : M i q with
          | false =>
            rw [hM] at c1
            rw [hM] at HRS
            go_wp2_with fail
            go_roundw
            case rel => exact ⟨q + 1, by omega, by have := HQ.out; omega, by go_num, HL2.out, by rw [HRS.out]; exact HO2.out, HD2.out⟩
            case measure => have := HQ.out; simp only [intOf]; omega
          | true =>
            rw [hM] at c1
            rw [hM] at HRS
            have hbb : Below wr.heap.size wr (wr.alloc (Obj.cells #[Value.int .i64 (q : Int)] 2)) := (Below.refl _ _).alloc (Nat.le_refl _) _
            have HL3 := kide (HL2.out.later hbb)
            have HO3 := kide (show OW (wr.alloc (Obj.cells #[Value.int .i64 (q : Int)] 2)) w.heap.size u5 (rowT (M i) q) from own_later HO2.out hbb)
            have hsz3 : w.heap.size ≤ (wr.alloc (Obj.cells #[Value.int .i64 (q : Int)] 2)).heap.size := HL3.out.bl.size
            clear hbb
            go_wp2_with (at_builtin; refine wpList_appWl rfl _ _ rfl w.heap.size u5 (rowT (M i) q) (q : Int) rfl HO3.out _ rfl (by simp) hll hsz3 ?_)
            intro v9 w9 ho9 hg9 hat
            have HL9 := kide (HL3.out.beside HO3.out hg9 HD2.out)
            have HO9 := kide ho9
            have HD9 : Hid (∀ (a : Nat) (u : Value), vs[a]? = some u → ∀ b, u.ownBlock = some b → v9.ownBlock ≠ some b) := fun a u ha b hb e => by
              rcases hat with e9 | e9
              · rw [e9] at e
                exact HD2.out a u ha b hb e
              · rw [e9] at e
                have hl := HL3.out.rs.len
                have hal := (List.getElem?_eq_some_iff.1 ha).1
                have h9 := own_lt (HL3.out.rs.own a u _ ha (List.getElem?_eq_getElem (by rw [← hl]; exact hal))) hb
                cases e
                have h7 := h9.2
                rw [World.size_alloc] at h7
                omega
            clear ho9 hg9 hat c0 c1
            go_wp2_with fail
            go_roundw
            case rel => exact ⟨q + 1, by omega, by have := HQ.out; omega, by go_num, HL9.out, by rw [HRS.out]; exact HO9.out, HD9.out⟩
            case measure => have := HQ.out; simp only [intOf]; omega
        · have e9 : q = W i - 1 := by omega
          have q0 : ¬ (q : Int) + 1 < (W i : Int) := by omega
          have q3 : (W i : Int) ≤ (q : Int) + 1 := by omega
          rw [e9] at ho2
          have b0 := hl2.ob.cell 0
          have f0 := hl2.ob.froz 0
          simp at b0
          have hbb : Below wr.heap.size wr (wr.alloc (Obj.cells #[u5] 46)) := (Below.refl _ _).alloc (Nat.le_refl _) _
          have HL3 := kide (hl2.later hbb)
          have HO3 := kide (show OW (wr.alloc (Obj.cells #[u5] 46)) w.heap.size u5 (rowT (M i) (W i - 1)) from own_later ho2 hbb)
          have hsz3 : w.heap.size ≤ (wr.alloc (Obj.cells #[u5] 46)).heap.size := HL3.out.bl.size
          have hoc : u5.oneCell' = true := by
            obtain ⟨a9, c9, rfl⟩ := own_form ho2
            rfl
          have hD2 := kide hd2
          have hik : i ≤ 1073741824 := by have := HLT.out; omega
          obtain ⟨ua, uc, hu⟩ := own_form ho2
          subst hu
          clear hl2 ho2 hd2 L0 LA O0 D0 hbb
          go_wp2_with (at_builtin; refine wpList_appRR rfl _ _ rfl w.heap.size rv i vs _ hoc rfl HL3.out.rr _ rfl (by simp) hik hsz3 ?_)
          intro g9 cap9 w9 ho9 hg9
          have hob := HL3.out.ob.grown hg9 (own_typed HL3.out.rr HL3.out.ob (by decide))
          have hrb := HL3.out.rb.grown hg9 (own_typed HL3.out.rr HL3.out.rb (by decide))
          have hmb := HL3.out.mb.own hg9 (fun r e => by obtain ⟨cur, h1⟩ := own_cells HL3.out.rr e; exact ⟨cur, _, h1, by decide, by decide⟩)
          have hrs := HL3.out.rs.grown HL3.out.rr (by decide) hg9
          have hlv : OW w9 w.heap.size (Value.slice ua (rowT (M i) (W i - 1)).length uc) (rowT (M i) (W i - 1)) := own_kept HO3.out hg9 (fun b hb e => by
            obtain ⟨cur, h1⟩ := own_cells HO3.out hb
            exact own_typed HL3.out.rr h1 (by decide) e.symm)
          have e1 := hob.cell 0
          have e2 := hob.froz 0
          simp at e1
          have HLE : Hid (Lu w B (.slice (some ⟨gm, 0, none⟩) k vc) k g W M (i + 1) (.slice (some ⟨g9, 0, none⟩) (i + 1) cap9) (vs ++ [Value.slice ua (rowT (M i) (W i - 1)).length uc]) (w9.setCell ⟨w.heap.size + 1, 0, none⟩ (.slice (some ⟨g9, 0, none⟩) (i + 1) cap9))) := by
            refine ⟨hmb.own (gsc w9 ⟨w.heap.size + 1, 0, none⟩ _) (fun r e => by cases e; exact ⟨_, _, hob, by decide, by decide⟩), hob.set 0 _, hrb.grown (gsc w9 ⟨w.heap.size + 1, 0, none⟩ _) (by simp), own_set ho9 hob (by decide) _, ?_, (HL3.out.bl.grown hg9 hsz3 (fun r e => (own_lt HL3.out.rr e).1)).setCell (Nat.le_succ _) _⟩
            rw [rowsT_succ]
            exact (hrs.push hlv hD2.out).set hob (by decide) _
          clear ho9 hg9 hob hrb hmb hrs hlv b0 f0 c0
          go_wp2_with fail
          go_roundw
          case rel => exact ⟨i + 1, _, _, HLT.out, by go_num, HLE.out⟩
          case measure => have := HLT.out; simp only [intOf]; omega
    · have e9 : i = k := by omega
      subst e9
      have b0 := hlu.ob.cell 0
      have r0 := hlu.rb.cell 0
      have f0 := hlu.rb.froz 0
      simp at b0 r0
      have HLU := kide hlu
      clear hlu L0
      obtain ⟨ra, rc, rfl⟩ := own_form HLU.out.rr
      go_wp2_with fail
      have XR := HLU.out.rb.set 0 (.slice ra i rc)
      have r1 := XR.cell 0
      simp at r1
      refine bodyPost_ret (v := .agg #[.slice ra i rc]) (by simp [results, Try.results19, go_sem, r1]) rfl ?_
      exact ⟨_, vs, rfl, own_set HLU.out.rr HLU.out.rb (by decide) _, HLU.out.rs.set HLU.out.rb (by decide) _, HLU.out.bl.setCell (Nat.le_refl _) _⟩

end Go.Proofs.Ytjnbapddfhpcnaa
