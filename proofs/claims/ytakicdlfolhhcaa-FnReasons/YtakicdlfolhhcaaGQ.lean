/- Links marked and held; a row of links that lies between two blocks. -/
import Derived.Test.YtakicdlfolhhcaaGP
import Derived.Test.YtakicdlfolhhcaaHA
namespace Go.Proofs.Ytakicdlfolhhcaa
set_option linter.unusedVariables false
set_option linter.unusedSimpArgs false
open Go.RowKit

/-- The row bears the marks from k on. -/
def MkK (w : World) (a : Option Addr) (n k : Nat) : Prop := n = 0 ∨ ∃ g, a = some ⟨g, 0, none⟩ ∧ ∀ i, i < n * 3 → w.cell? ⟨g, i, none⟩ = some (.int .i64 ((k + i : Nat) : Int))

theorem MkK.later {w w' : World} {a : Option Addr} {n k : Nat} (h : MkK w a n k) (hb : Below w.heap.size w w') : MkK w' a n k := by
  rcases h with h | ⟨g, rfl, hc⟩
  · exact .inl h
  · exact .inr ⟨g, rfl, fun i hi => by rw [kcell hb _ _ (block_lt_of_cell (hc i hi))]; exact hc i hi⟩

theorem heldLinkS_any (a : Option Addr) (c n k : Nat) (w : World) (hm : MkK w a n k) (hn : n ≤ 64000000) (hk : k ≤ 1048576) :
    Calls Try.prog 53 #[.slice a n c, .int .i64 (k : Int)] w fun e w' => e = .returned (.int .i64 ((k + n * 3 : Nat) : Int)) ∧ w' = w := by
  go_enter Try.func53, Try.ntmps53
  go_wp2_with fail
  go_loop [1, 5] (fun q i => ∃ j : Nat, j ≤ n ∧ i = .int .i64 (j : Int) ∧ q = .int .i64 ((k + j * 3 : Nat) : Int)) (fun _ i => n - (intOf i).toNat)
  case atStart => exact ⟨0, Nat.zero_le _, rfl, by simp⟩
  case round =>
    obtain ⟨j, hj, rfl, rfl⟩ := hrel
    by_cases hlt : j < n
    · rcases hm with h | ⟨g, rfl, hc⟩
      · omega
      have e0 := hc (j * 3) (by omega)
      have e1 := hc (j * 3 + 1) (by omega)
      have e2 := hc (j * 3 + 2) (by omega)
      rw [show k + (j * 3 + 1) = k + j * 3 + 1 by omega] at e1
      rw [show k + (j * 3 + 2) = k + j * 3 + 1 + 1 by omega] at e2
      generalize hK : k + j * 3 = K at *
      have HK := kide hK
      have hKb : K ≤ 300000000 := by omega
      have e1' : w.cell? ⟨g, j * 3 + 1, none⟩ = some (.int .i64 ((K : Int) + 1)) := by rw [e1]; simp
      have e2' : w.cell? ⟨g, j * 3 + 2, none⟩ = some (.int .i64 ((K : Int) + 1 + 1)) := by rw [e2]; simp
      have n0 : ((K : Int) != (K : Int)) = false := by simp
      have n1 : ((K : Int) + 1 != (K : Int) + 1) = false := by simp
      have n2 : ((K : Int) + 1 + 1 != (K : Int) + 1 + 1) = false := by simp
      have i0 : (j : Int) < (n : Int) := by omega
      clear hc e1 e2 hK
      go_wp2_with fail
      go_round
      case rel => exact ⟨j + 1, by omega, by go_num, by rw [show k + (j + 1) * 3 = K + 3 by have := HK.out; omega]; first | go_num | (congr 1; push_cast; omega) | (simp; omega)⟩
      case measure => simp [intOf]; omega
    · have e : j = n := by omega
      subst e
      go_wp2_with fail
      go_ret
      exact ⟨rfl, rfl⟩

theorem markLinkS_any (g c n k N : Nat) (f : Nat → Value) (w : World) (hr : w.rowIs g 55 N f) (hN : n * 3 ≤ N) (hn : n ≤ 64000000) (hk : k ≤ 1048576) :
    Calls Try.prog 52 #[.slice (some ⟨g, 0, none⟩) n c, .int .i64 (k : Int)] w fun e w' => e = .returned (.int .i64 ((k + n * 3 : Nat) : Int)) ∧ MkK w' (some ⟨g, 0, none⟩) n k ∧ w.grownBy w' (some g) := by
  go_enter Try.func52, Try.ntmps52
  go_wp2_with fail
  go_loopw [1, 5] (fun q i wr => ∃ (j : Nat) (f' : Nat → Value), j ≤ n ∧ i = .int .i64 (j : Int) ∧ q = .int .i64 ((k + j * 3 : Nat) : Int) ∧ wr.rowIs g 55 N f' ∧ (∀ i, i < j * 3 → f' i = .int .i64 ((k + i : Nat) : Int)) ∧ w.grownBy wr (some g)) (fun _ i _ => n - (intOf i).toNat)
  case atStart => exact ⟨0, f, Nat.zero_le _, rfl, by simp, hr, fun i h => by omega, ⟨rfl, rfl, rfl, Nat.le_refl _, fun _ _ _ => rfl⟩⟩
  case round =>
    obtain ⟨j, f', hj, rfl, rfl, hrow, hf, hg⟩ := hrel
    by_cases hlt : j < n
    · have q0 := hrow.cell (i := j * 3) (by omega)
      have q1 := hrow.cell (i := j * 3 + 1) (by omega)
      have q2 := hrow.cell (i := j * 3 + 2) (by omega)
      have r0 := hrow.frozen (j * 3)
      have r1 := hrow.frozen (j * 3 + 1)
      have r2 := hrow.frozen (j * 3 + 2)
      generalize hK : k + j * 3 = K at *
      have HK := kide hK
      have hKb : K ≤ 300000000 := by omega
      have i0 : (j : Int) < (n : Int) := by omega
      have HRW := kide hrow
      have HF := kide hf
      have HG := kide hg
      clear hrow hf hg hK
      go_wp2_with fail
      go_roundw
      case rel =>
        refine ⟨j + 1, _, by omega, by go_num, ?_, World.rowIs.set (World.rowIs.set (World.rowIs.set HRW.out (j * 3) (.int .i64 (K : Int))) (j * 3 + 1) (.int .i64 ((K : Int) + 1))) (j * 3 + 2) (.int .i64 ((K : Int) + 1 + 1)), fun i hi => ?_, ?_⟩
        · rw [show k + (j + 1) * 3 = K + 3 by have := HK.out; omega]
          first | go_num | (congr 1; push_cast; omega) | (simp; omega)
        · show (if _ then _ else _) = _
          have hKK := HK.out
          by_cases h2 : i = j * 3 + 2
          · rw [if_pos h2]
            congr 1
            omega
          · rw [if_neg h2]
            show (if _ then _ else _) = _
            by_cases h1 : i = j * 3 + 1
            · rw [if_pos h1]
              congr 1
              omega
            · rw [if_neg h1]
              show (if _ then _ else _) = _
              by_cases h0 : i = j * 3
              · rw [if_pos h0]
                congr 1
                omega
              · rw [if_neg h0]
                exact HF.out i (by omega)
        · exact grow_set (grow_set (grow_set HG.out (j * 3) _) (j * 3 + 1) _) (j * 3 + 2) _
      case measure => simp [intOf]; omega
    · have e : j = n := by omega
      subst e
      have HRW := kide hrow
      have HF := kide hf
      have HG := kide hg
      clear hrow hf hg
      go_wp2_with fail
      go_ret
      exact ⟨rfl, .inr ⟨g, rfl, fun i hi => by rw [← HF.out i hi]; exact World.rowIs.cell HRW.out (by omega)⟩, HG.out⟩


theorem lkc_get {ls : List Lk} {i : Nat} {l : Lk} (h : ls[i]? = some l) : (lkc ls)[i * 3]? = some (.int .i64 l.1) ∧ (lkc ls)[i * 3 + 1]? = some (.int .i64 l.2.1) ∧ (lkc ls)[i * 3 + 2]? = some (.int .i64 l.2.2) := by
  induction ls generalizing i with
  | nil => simp at h
  | cons x t ih =>
    cases i with
    | zero =>
      simp at h
      subst h
      simp [lkc]
    | succ i =>
      simp at h
      have := ih h
      rw [show (i + 1) * 3 = i * 3 + 3 by omega]
      simpa [lkc] using this

/-- The row lies between two blocks, and may be written. -/
def HoldK (w : World) (lo hi : Nat) (a : Option Addr) (n : Nat) (ls : List Lk) : Prop := ls.length = n ∧ n ≤ 1048576 ∧ (∀ l ∈ ls, in64 l.1 ∧ in64 l.2.1 ∧ in64 l.2.2) ∧ (n = 0 ∨ ∃ g N f, a = some ⟨g, 0, none⟩ ∧ lo ≤ g ∧ g < hi ∧ g < w.heap.size ∧ n * 3 ≤ N ∧ w.rowIs g 55 N f ∧ ∀ i l, ls[i]? = some l → LkAt w g (i * 3) l)

theorem OK3.hold {w : World} {B : Nat} {v : Value} {ls : List Lk} (h : OK3 w B v ls) (hl : ls.length ≤ 1048576) (hx : ∀ l ∈ ls, in64 l.1 ∧ in64 l.2.1 ∧ in64 l.2.2) : ∃ a c, v = .slice a ls.length c ∧ HoldK w B w.heap.size a ls.length ls := by
  have hcells := fun g hg => World.ownsRow.cells h (g := g) hg
  rcases h.2 with ⟨rfl, hn⟩ | ⟨g, cap, cur, rfl, hB, hh, hcap, -, hsz, -⟩
  · exact ⟨none, 0, by rw [hn], rfl, hl, hx, .inl hn⟩
  · have hlt : g < w.heap.size := lt_of_block hh
    refine ⟨some ⟨g, 0, none⟩, cap, rfl, rfl, hl, hx, .inr ⟨g, cap * 3, fun i => cur.getD i (.int .i64 0), rfl, hB, hlt, hlt, by omega, ⟨cur, hh, hsz, fun i hi => ?_⟩, fun i s hi => ?_⟩⟩
    · simp [Array.getD, hsz, hi]
    · obtain ⟨g0, g1, g2⟩ := lkc_get hi
      have c0 := hcells g rfl _ _ g0
      have c1 := hcells g rfl _ _ g1
      have c2 := hcells g rfl _ _ g2
      rw [Addr.add_lit] at c0 c1 c2
      refine ⟨?_, ?_, ?_⟩
      · simpa using c0
      · simpa using c1
      · simpa using c2

theorem HoldK.out {w w' : World} {lo hi n B1 B2 : Nat} {a : Option Addr} {ls : List Lk} (h : HoldK w lo hi a n ls) (ho : Out B1 B2 w w') (hd : hi ≤ B1 ∨ B2 ≤ lo) : HoldK w' lo hi a n ls := by
  obtain ⟨h1, h2, hx, h3⟩ := h
  refine ⟨h1, h2, hx, ?_⟩
  rcases h3 with h3 | ⟨g, N, f, rfl, q1, q2, q3, q4, q5, q6⟩
  · exact .inl h3
  · have hk : g < B1 ∨ B2 ≤ g := by omega
    refine .inr ⟨g, N, f, rfl, q1, q2, Nat.lt_of_lt_of_le q3 ho.2.2.2.1, q4, World.rowIs.of_block q5 (ho.2.2.2.2 g q3 hk), fun i s hi => ?_⟩
    obtain ⟨e0, e1, e2⟩ := q6 i s hi
    exact ⟨by rw [ho.cell q3 hk]; exact e0, by rw [ho.cell q3 hk]; exact e1, by rw [ho.cell q3 hk]; exact e2⟩

theorem HoldK.later {w w' : World} {lo hi n : Nat} {a : Option Addr} {ls : List Lk} (h : HoldK w lo hi a n ls) (hb : Below w.heap.size w w') : HoldK w' lo hi a n ls := h.out (Out.below (B1 := hi) (B2 := hi) hb) (.inl (Nat.le_refl _))

theorem HoldK.rd {w : World} {lo hi n : Nat} {a : Option Addr} {ls : List Lk} (h : HoldK w lo hi a n ls) : RdK w a ls := by
  obtain ⟨h1, h2, hx, h3⟩ := h
  refine ⟨by omega, hx, ?_⟩
  rcases h3 with h3 | ⟨g, N, f, rfl, -, -, -, -, -, h⟩
  · exact .inl (List.eq_nil_of_length_eq_zero (by omega))
  · exact .inr ⟨g, 0, rfl, fun i s hi => by have := h i s hi; simpa using this⟩

theorem HoldK.set {w : World} {lo hi n : Nat} {a : Option Addr} {ls : List Lk} (h : HoldK w lo hi a n ls) {p : Addr} (hp : p.block < lo) (v : Value) : HoldK (w.setCell p v) lo hi a n ls := by
  obtain ⟨h1, h2, hx, h3⟩ := h
  refine ⟨h1, h2, hx, ?_⟩
  rcases h3 with h3 | ⟨g, N, f, rfl, q1, q2, q3, q4, q5, q6⟩
  · exact .inl h3
  · have hne : g ≠ p.block := by omega
    refine .inr ⟨g, N, f, rfl, q1, q2, by simpa using q3, q4, World.rowIs.of_block q5 (heap_setCell_other _ _ _ _ hne), fun i s hi => ?_⟩
    obtain ⟨e0, e1, e2⟩ := q6 i s hi
    exact ⟨by rw [World.cell?_setCell_far _ _ _ _ (Ne.symm hne)]; exact e0, by rw [World.cell?_setCell_far _ _ _ _ (Ne.symm hne)]; exact e1, by rw [World.cell?_setCell_far _ _ _ _ (Ne.symm hne)]; exact e2⟩

theorem markLinkS_nil (a : Option Addr) (c : Nat) (w : World) :
    Calls Try.prog 52 #[.slice a 0 c, .int .i64 1] w fun e w' => e = .returned (.int .i64 1) ∧ w' = w := by
  go_enter Try.func52, Try.ntmps52
  go_wp2_with fail
  go_loopw [1, 5] (fun q i wr => q = .int .i64 1 ∧ i = .int .i64 0 ∧ wr = w) (fun _ _ _ => 0)
  case atStart => exact ⟨rfl, rfl, rfl⟩
  case round =>
    obtain ⟨rfl, rfl, rfl⟩ := hrel
    go_wp2_with fail
    go_ret
    exact ⟨rfl, rfl⟩

theorem markLinkS_hold (a : Option Addr) (c n lo hi : Nat) (ss : List Lk) (w : World) (hr : HoldK w lo hi a n ss) :
    Calls Try.prog 52 #[.slice a n c, .int .i64 1] w fun e w' => e = .returned (.int .i64 ((1 + n * 3 : Nat) : Int)) ∧ MkK w' a n 1 ∧ Out lo hi w w' := by
  obtain ⟨h1, h2, hx, h3⟩ := hr
  rcases h3 with rfl | ⟨g, N, f, rfl, q1, q2, q3, q4, q5, q6⟩
  · refine Calls.mono (markLinkS_nil a c w) ?_
    rintro e w' ⟨rfl, rfl⟩
    exact ⟨rfl, .inl rfl, Out.refl _ _ _⟩
  · refine Calls.mono (markLinkS_any g c n 1 N f w q5 q4 (by omega) (by omega)) ?_
    rintro e w' ⟨rfl, hm, hg⟩
    exact ⟨rfl, hm, Out.grown hg q1 q2⟩

theorem heldLinkS_hold (a : Option Addr) (c n : Nat) (w : World) (hm : MkK w a n 1) (hn : n ≤ 64000000) :
    Calls Try.prog 53 #[.slice a n c, .int .i64 1] w fun e w' => e = .returned (.int .i64 ((1 + n * 3 : Nat) : Int)) ∧ w' = w := heldLinkS_any a c n 1 w hm hn (by omega)


theorem eqForest_hold (z : Int) (a b : Option Addr) (c d n lo hi lo' hi' : Nat) (ls : List Lk) (w : World) (hr : HoldK w lo hi a n ls) (hs : HoldK w lo' hi' b n ls) :
    Calls Try.prog 15 #[.agg #[.int .i64 z, .slice a n c], .agg #[.int .i64 z, .slice b n d]] w fun e w' => e = .returned (.bool true) ∧ Below w.heap.size w w' :=
  eqForest_same z a b c d n ls w hr.rd hs.rd hr.1

theorem markForest_hold (z : Int) (a : Option Addr) (c n lo hi : Nat) (ls : List Lk) (w : World) (hr : HoldK w lo hi a n ls) (hh : hi ≤ w.heap.size) :
    Calls Try.prog 20 #[.agg #[.int .i64 z, .slice a n c], .int .i64 1] w fun e w' => e = .returned (.int .i64 ((1 + n * 3 : Nat) : Int)) ∧ MkK w' a n 1 ∧ Out lo hi w w' := by
  have hb0 : Below w.heap.size w (w.alloc (Obj.cells #[.int .i64 z, .slice a n c] 29)) := (Below.refl _ _).alloc (Nat.le_refl _) _
  have HC := kide (markLinkS_hold a c n lo hi ls _ (hr.later hb0))
  have B0 := kide hb0
  have hn := hr.2.1
  clear hr hb0
  go_enter Try.func20, Try.ntmps20
  go_wp2_with fail
  refine Calls.mono HC.out ?_
  rintro e w1 ⟨rfl, hm, ho⟩
  have HM := kide hm
  have HO := kide ((Out.below B0.out).trans ho)
  clear hm ho
  go_wp2_with fail
  go_ret
  exact ⟨rfl, HM.out, HO.out⟩

theorem heldForest_hold (z : Int) (a : Option Addr) (c n : Nat) (w : World) (hm : MkK w a n 1) (hn : n ≤ 1048576) :
    Calls Try.prog 21 #[.agg #[.int .i64 z, .slice a n c], .int .i64 1] w fun e w' => e = .returned (.int .i64 ((1 + n * 3 : Nat) : Int)) ∧ Below w.heap.size w w' := by
  have hb0 : Below w.heap.size w (w.alloc (Obj.cells #[.int .i64 z, .slice a n c] 29)) := (Below.refl _ _).alloc (Nat.le_refl _) _
  have HC := kide (heldLinkS_hold a c n _ (hm.later hb0) (by omega))
  have B0 := kide hb0
  clear hm hb0
  generalize 1 + n * 3 = V at *
  have hv0 : ¬ (V : Int) < 0 := by omega
  go_enter Try.func21, Try.ntmps21
  go_wp2_with fail
  refine Calls.mono HC.out ?_
  rintro e w1 ⟨rfl, rfl⟩
  go_wp2_with fail
  go_ret
  exact ⟨rfl, B0.out⟩

theorem toForest_own (z : Int) (a : Option Addr) (c : Nat) (ls : List Lk) (w : World) (hr : RdK w a ls) (n : Nat) (hn : ls.length = n) :
    Calls Try.prog 13 #[.agg #[.int .i64 z, .slice a n c]] w fun e w' => ∃ g, e = .returned (.agg #[.int .i64 z, .slice (some ⟨g, 0, none⟩) n n]) ∧ HoldK w' g (g + 1) (some ⟨g, 0, none⟩) n ls ∧ w.heap.size ≤ g ∧ g < w'.heap.size ∧ Below w.heap.size w w' := by
  subst hn
  go_enter Try.func13, Try.ntmps13
  go_wp2_with fail
  have h1 := hr.1
  have h2 := hr.2.1
  refine (toLinkS_row a c ls _ ?_).mono ?_
  · refine hr.later (Below.alloc (Below.alloc (Below.alloc (Below.refl _ _) ?_ _) ?_ _) ?_ _)
    all_goals first | exact Nat.le_refl _ | (simp; done) | (simp; omega)
  rintro e w1 ⟨rfl, hrd, hrow, hb⟩
  have hc := kcell hb
  have hz : w.heap.size + 1 + 1 < w1.heap.size := by have := hb.size; simp at this; omega
  have hz3 : w.heap.size + 1 + 1 + 1 < w1.heap.size := by
    obtain ⟨f, cc, hh, -⟩ := hrow
    have := lt_of_block hh
    simpa using this
  have hf := kfrozK hb
  have HO := kide hrd
  have HW := kide hrow
  have HB := kide hb
  have H2 := kide h2
  clear hrd hb hr hrow h2
  go_wp2_with fail
  refine bodyPost_ret (v := .agg #[.int .i64 z, .slice (some ⟨w.heap.size + 1 + 1 + 1, 0, none⟩) ls.length ls.length]) (by simp [results, Try.results13, go_sem, hc]) rfl ⟨_, rfl, ?_, by omega, by simp; omega, ?_⟩
  · have h := HO.out
    have hw := HW.out
    simp only [World.size_alloc] at h hw
    have hk : HoldK w1 (w.heap.size + 1 + 1 + 1) (w.heap.size + 1 + 1 + 1 + 1) (some ⟨w.heap.size + 1 + 1 + 1, 0, none⟩) ls.length ls := by
      obtain ⟨f, hf⟩ := hw
      refine ⟨rfl, h1, H2.out, .inr ⟨_, _, f, rfl, Nat.le_refl _, Nat.lt_succ_self _, hz3, Nat.le_refl _, hf, fun i l hi => ?_⟩⟩
      obtain ⟨-, -, h0 | ⟨b, o, hb, hc⟩⟩ := h
      · rw [h0] at hi; simp at hi
      · cases hb
        have := hc i l hi
        simpa using this
    iterate 2 (refine HoldK.set ?_ (by simp; try omega) _)
    all_goals first | exact hk | skip
    all_goals (refine HoldK.set ?_ (by simp; try omega) _)
    all_goals first | exact hk | skip
    all_goals (refine HoldK.set ?_ (by simp; try omega) _)
    all_goals exact hk
  · have h := HB.out
    have h0 : Below w.heap.size w w1 := by
      refine Below.trans (Below.alloc (Below.alloc (Below.alloc (Below.refl _ _) ?_ _) ?_ _) ?_ _) (h.mono ?_)
      all_goals first | exact Nat.le_refl _ | (simp; done) | (simp; omega)
    first
      | exact (h0.setCell (by simp; omega) _).setCell (by simp) _
      | exact ((h0.setCell (by simp; try omega) _).setCell (by simp; try omega) _).setCell (by simp; try omega) _
      | exact (((h0.setCell (by simp; try omega) _).setCell (by simp; try omega) _).setCell (by simp; try omega) _).setCell (by simp; try omega) _

end Go.Proofs.Ytakicdlfolhhcaa
