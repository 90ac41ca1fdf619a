/- Reasons: rows of numbers compared, marked, held; what the law carries. -/
import Derived.Test.YtakicdlfolhhcaaREI
import Derived.Test.YtakicdlfolhhcaaGS
namespace Go.Proofs.Ytakicdlfolhhcaa
set_option linter.unusedVariables false
set_option linter.unusedSimpArgs false
open Go.RowKit

theorem eqInt64S_any (a b : Option Addr) (c d : Nat) (xs ys : List Int) (w : World) (hr : RdI w a xs) (hs : RdI w b ys) :
    Calls Try.prog 31 #[.slice a xs.length c, .slice b ys.length d] w fun e w' => e = .returned (.bool (decide (xs = ys))) ∧ Below w.heap.size w w' := by
  have hl1 := hr.1
  have hl2 := hs.1
  by_cases hl : xs.length = ys.length
  · have hne : ((xs.length : Int) != (ys.length : Int)) = false := by simp [hl]
    have HL : Hid (xs.length = ys.length) := hl
    clear hl
    go_enter Try.func31, Try.ntmps31
    go_wp2
    clear hne
    go_loopw [5] (fun i wr => ∃ k : Nat, k ≤ xs.length ∧ i = .int .i64 k ∧ (∀ j, j < k → xs.getD j 0 = ys.getD j 0) ∧ Below w.heap.size w wr) (fun i _ => xs.length - (intOf i).toNat)
    case atStart => exact ⟨0, Nat.zero_le _, rfl, fun j h => by omega, Below.refl _ _⟩
    case round =>
      obtain ⟨k, hk, rfl, hz, hbel⟩ := hrel
      have HZ := show Hid _ from hz
      have HB := show Hid _ from hbel
      by_cases hlt : k < xs.length
      · obtain ⟨-, -, h | ⟨b1, o1, rfl, hc1⟩⟩ := hr
        · subst h; simp at hlt
        have hlt2 : k < ys.length := by have := HL.out; omega
        obtain ⟨-, -, h | ⟨b2, o2, rfl, hc2⟩⟩ := hs
        · subst h; simp at hlt2
        have e1 := hc1 k hlt
        have e2 := hc2 k hlt2
        have f1 : wr.cell? ⟨b1, o1 + k, none⟩ = some (.int .i64 (xs.getD k 0)) := by rw [hbel.cell (by exact block_lt_of_cell e1)]; exact e1
        have f2 : wr.cell? ⟨b2, o2 + k, none⟩ = some (.int .i64 (ys.getD k 0)) := by rw [hbel.cell (by exact block_lt_of_cell e2)]; exact e2
        have hxe : decide (xs = ys) = false ∨ xs.getD k 0 = ys.getD k 0 := by
          by_cases h : xs = ys
          · exact .inr (by rw [h])
          · exact .inl (by simp [h])
        clear hc1 hc2 hz hbel e1 e2
        have i0 : (k : Int) < (xs.length : Int) := by omega
        have i1 : (k : Int) < (ys.length : Int) := by omega
        generalize hx1 : xs.getD k 0 = x1 at *
        generalize hy1 : ys.getD k 0 = y1 at *
        have HX : Hid (xs.getD k 0 = x1) := hx1
        have HY : Hid (ys.getD k 0 = y1) := hy1
        clear hx1 hy1
        by_cases hxy : x1 = y1
        · have hb : (x1 != y1) = false := by simp [hxy]
          have HE : Hid (x1 = y1) := hxy
          clear hxe hxy
          go_wp2_with fail
          go_quiet (fail)
          go_wp2
          go_roundw
          case rel =>
            refine ⟨k + 1, by omega, by go_num, fun j hj => ?_, below_drewN HB.out _⟩
            by_cases hj' : j = k
            · rw [hj', HX.out, HY.out]; exact HE.out
            · exact HZ.out j (by omega)
          case measure => simp [intOf]; omega
        · have hb : (x1 != y1) = true := by simpa using hxy
          have HE : Hid (decide (xs = ys) = false) := by
            rcases hxe with h | h
            · exact h
            · exact absurd h hxy
          clear hxe hxy
          go_wp2_with fail
          go_quiet (fail)
          go_wp2
          go_ret
          exact ⟨ret_bool HE.out.symm, below_drewN HB.out _⟩
      · clear hz hbel
        go_wp2
        go_ret
        refine ⟨ret_bool ?_, HB.out⟩
        have he : xs = ys := by
          refine List.ext_getElem HL.out fun j h1 h2 => ?_
          have := HZ.out j (by omega)
          simpa [List.getD, h1, h2] using this
        simp [he]
  · have hne : ((xs.length : Int) != (ys.length : Int)) = true := by simp; omega
    have hx : xs ≠ ys := fun h => hl (by rw [h])
    go_enter Try.func31, Try.ntmps31
    go_wp2
    go_ret
    exact ⟨ret_bool (by simp [hx]), Below.refl _ _⟩

/-- The row bears the marks from 1 on. -/
def MkI (w : World) (a : Option Addr) (n : Nat) : Prop := n = 0 ∨ ∃ g, a = some ⟨g, 0, none⟩ ∧ ∀ i, i < n → w.cell? ⟨g, i, none⟩ = some (.int .i64 ((1 + i : Nat) : Int))

theorem MkI.later {w w' : World} {a : Option Addr} {n : Nat} (h : MkI w a n) (hb : Below w.heap.size w w') : MkI w' a n := by
  rcases h with h | ⟨g, rfl, hc⟩
  · exact .inl h
  · exact .inr ⟨g, rfl, fun i hi => by rw [kcell hb _ _ (block_lt_of_cell (hc i hi))]; exact hc i hi⟩

theorem heldInt64S_mk (a : Option Addr) (c n : Nat) (w : World) (hm : MkI w a n) (hn : n ≤ 64000000) :
    Calls Try.prog 33 #[.slice a n c, .int .i64 1] w fun e w' => e = .returned (.int .i64 ((1 + n : Nat) : Int)) ∧ w' = w := by
  go_enter Try.func33, Try.ntmps33
  go_wp2_with fail
  go_loop [1, 5] (fun q i => ∃ j : Nat, j ≤ n ∧ i = .int .i64 (j : Int) ∧ q = .int .i64 ((1 + j : Nat) : Int)) (fun _ i => n - (intOf i).toNat)
  case atStart => exact ⟨0, Nat.zero_le _, rfl, by simp⟩
  case round =>
    obtain ⟨j, hj, rfl, rfl⟩ := hrel
    by_cases hlt : j < n
    · rcases hm with h | ⟨g, rfl, hc⟩
      · omega
      have e0 := hc j (by omega)
      generalize hK : 1 + j = K at *
      have HK := kide hK
      have hKb : K ≤ 300000000 := by omega
      have n0 : ((K : Int) != (K : Int)) = false := by simp
      have i0 : (j : Int) < (n : Int) := by omega
      clear hc hK
      go_wp2_with fail
      go_round
      case rel => exact ⟨j + 1, by omega, by go_num, by rw [show 1 + (j + 1) = K + 1 by have := HK.out; omega]; first | go_num | (congr 1; push_cast; omega) | (simp; omega)⟩
      case measure => simp [intOf]; omega
    · have e : j = n := by omega
      subst e
      clear hm
      go_wp2_with fail
      go_ret
      exact ⟨rfl, rfl⟩

theorem markInt64S_row (g c n N : Nat) (f : Nat → Value) (w : World) (hr : w.rowIs g 2 N f) (hN : n ≤ N) (hn : n ≤ 64000000) :
    Calls Try.prog 32 #[.slice (some ⟨g, 0, none⟩) n c, .int .i64 1] w fun e w' => e = .returned (.int .i64 ((1 + n : Nat) : Int)) ∧ MkI w' (some ⟨g, 0, none⟩) n ∧ w.grownBy w' (some g) := by
  go_enter Try.func32, Try.ntmps32
  go_wp2_with fail
  go_loopw [1, 5] (fun q i wr => ∃ (j : Nat) (f' : Nat → Value), j ≤ n ∧ i = .int .i64 (j : Int) ∧ q = .int .i64 ((1 + j : Nat) : Int) ∧ wr.rowIs g 2 N f' ∧ (∀ i, i < j → f' i = .int .i64 ((1 + i : Nat) : Int)) ∧ w.grownBy wr (some g)) (fun _ i _ => n - (intOf i).toNat)
  case atStart => exact ⟨0, f, Nat.zero_le _, rfl, by simp, hr, fun i h => by omega, ⟨rfl, rfl, rfl, Nat.le_refl _, fun _ _ _ => rfl⟩⟩
  case round =>
    obtain ⟨j, f', hj, rfl, rfl, hrow, hf, hg⟩ := hrel
    by_cases hlt : j < n
    · have q0 := hrow.cell (i := j) (by omega)
      have r0 := hrow.frozen j
      generalize hK : 1 + j = K at *
      have HK := kide hK
      have hKb : K ≤ 300000000 := by omega
      have i0 : (j : Int) < (n : Int) := by omega
      have HRW := kide hrow
      have HF := kide hf
      have HG := kide hg
      clear hrow hf hg hK
      go_wp2_with fail
      go_roundw
      case rel =>
        refine ⟨j + 1, _, by omega, by go_num, ?_, World.rowIs.set HRW.out j (.int .i64 (K : Int)), fun i hi => ?_, ?_⟩
        · rw [show 1 + (j + 1) = K + 1 by have := HK.out; omega]
          first | go_num | (congr 1; push_cast; omega) | (simp; omega)
        · show (if _ then _ else _) = _
          have hKK := HK.out
          by_cases h0 : i = j
          · rw [if_pos h0]
            congr 1
            omega
          · rw [if_neg h0]
            exact HF.out i (by omega)
        · exact grow_set HG.out j _
      case measure => simp [intOf]; omega
    · have e : j = n := by omega
      subst e
      have HRW := kide hrow
      have HF := kide hf
      have HG := kide hg
      clear hrow hf hg
      go_wp2_with fail
      go_ret
      exact ⟨rfl, .inr ⟨g, rfl, fun i hi => by rw [← HF.out i hi]; exact World.rowIs.cell HRW.out (by omega)⟩, HG.out⟩

/-- The row lies between two blocks, and may be written. -/
def HoldI (w : World) (lo hi : Nat) (a : Option Addr) (n : Nat) (ss : List Int) : Prop := ss.length = n ∧ n ≤ 1048576 ∧ (∀ x ∈ ss, in64 x) ∧ (n = 0 ∨ ∃ g N f, a = some ⟨g, 0, none⟩ ∧ lo ≤ g ∧ g < hi ∧ g < w.heap.size ∧ n ≤ N ∧ w.rowIs g 2 N f ∧ ∀ i, i < n → w.cell? ⟨g, i, none⟩ = some (.int .i64 (ss.getD i 0)))

theorem OW.hold {w : World} {B : Nat} {v : Value} {ss : List Int} (h : OW w B v ss) (hl : ss.length ≤ 1048576) (hx : ∀ x ∈ ss, in64 x) : ∃ a c, v = .slice a ss.length c ∧ HoldI w B w.heap.size a ss.length ss := by
  have hcells := fun g hg => World.ownsRow.cells h (g := g) hg
  rcases h.2 with ⟨rfl, hn⟩ | ⟨g, cap, cur, rfl, hB, hh, hcap, -, hsz, -⟩
  · exact ⟨none, 0, by rw [hn], rfl, hl, hx, .inl hn⟩
  · have hlt : g < w.heap.size := lt_of_block hh
    refine ⟨some ⟨g, 0, none⟩, cap, rfl, rfl, hl, hx, .inr ⟨g, cap * 1, fun i => cur.getD i (.int .i64 0), rfl, hB, hlt, hlt, by omega, ⟨cur, hh, hsz, fun i hi => ?_⟩, fun i hi => ?_⟩⟩
    · have hi' : i < cur.size := by omega
      rw [Array.getElem?_eq_getElem hi']
      simp [Array.getD, hi']
    · have c0 := hcells g rfl i (.int .i64 (ss.getD i 0)) (by simp [List.getD, hi])
      rw [Addr.add_lit] at c0
      simpa using c0

theorem HoldI.rd {w : World} {lo hi n : Nat} {a : Option Addr} {ss : List Int} (h : HoldI w lo hi a n ss) : RdI w a ss := by
  obtain ⟨h1, h2, hx, h3⟩ := h
  refine ⟨by omega, hx, ?_⟩
  rcases h3 with h3 | ⟨g, N, f, rfl, -, -, -, -, -, h⟩
  · exact .inl (List.eq_nil_of_length_eq_zero (by omega))
  · exact .inr ⟨g, 0, rfl, fun i hi => by have := h i (by omega); simpa using this⟩

theorem HoldI.out {w w' : World} {lo hi n B1 B2 : Nat} {a : Option Addr} {ss : List Int} (h : HoldI w lo hi a n ss) (ho : Out B1 B2 w w') (hd : hi ≤ B1 ∨ B2 ≤ lo) : HoldI w' lo hi a n ss := by
  obtain ⟨h1, h2, hx, h3⟩ := h
  refine ⟨h1, h2, hx, ?_⟩
  rcases h3 with h3 | ⟨g, N, f, rfl, q1, q2, q3, q4, q5, q6⟩
  · exact .inl h3
  · have hk : g < B1 ∨ B2 ≤ g := by omega
    exact .inr ⟨g, N, f, rfl, q1, q2, Nat.lt_of_lt_of_le q3 ho.2.2.2.1, q4, World.rowIs.of_block q5 (ho.2.2.2.2 g q3 hk), fun i hi => by rw [ho.cell q3 hk]; exact q6 i hi⟩

theorem HoldI.later {w w' : World} {lo hi n : Nat} {a : Option Addr} {ss : List Int} (h : HoldI w lo hi a n ss) (hb : Below w.heap.size w w') : HoldI w' lo hi a n ss := h.out (Out.below (B1 := hi) (B2 := hi) hb) (.inl (Nat.le_refl _))

theorem eqInt64S_hold (a b : Option Addr) (c d n lo hi lo' hi' : Nat) (ss : List Int) (w : World) (hr : HoldI w lo hi a n ss) (hs : HoldI w lo' hi' b n ss) :
    Calls Try.prog 31 #[.slice a n c, .slice b n d] w fun e w' => e = .returned (.bool true) ∧ Below w.heap.size w w' := by
  have h := eqInt64S_any a b c d ss ss w hr.rd hs.rd
  rw [hr.1] at h
  simpa using h

theorem markInt64S_nil (a : Option Addr) (c : Nat) (w : World) :
    Calls Try.prog 32 #[.slice a 0 c, .int .i64 1] w fun e w' => e = .returned (.int .i64 1) ∧ w' = w := by
  go_enter Try.func32, Try.ntmps32
  go_wp2_with fail
  go_loopw [1, 5] (fun q i wr => q = .int .i64 1 ∧ i = .int .i64 0 ∧ wr = w) (fun _ _ _ => 0)
  case atStart => exact ⟨rfl, rfl, rfl⟩
  case round =>
    obtain ⟨rfl, rfl, rfl⟩ := hrel
    go_wp2_with fail
    go_ret
    exact ⟨rfl, rfl⟩

theorem markInt64S_hold (a : Option Addr) (c n lo hi : Nat) (ss : List Int) (w : World) (hr : HoldI w lo hi a n ss) :
    Calls Try.prog 32 #[.slice a n c, .int .i64 1] w fun e w' => e = .returned (.int .i64 ((1 + n : Nat) : Int)) ∧ MkI w' a n ∧ Out lo hi w w' := by
  obtain ⟨h1, h2, -, h3⟩ := hr
  rcases h3 with rfl | ⟨g, N, f, rfl, q1, q2, q3, q4, q5, q6⟩
  · refine Calls.mono (markInt64S_nil a c w) ?_
    rintro e w' ⟨rfl, rfl⟩
    exact ⟨rfl, .inl rfl, Out.refl _ _ _⟩
  · refine Calls.mono (markInt64S_row g c n N f w q5 q4 (by omega)) ?_
    rintro e w' ⟨rfl, hm, hg⟩
    exact ⟨rfl, hm, Out.grown hg q1 q2⟩


theorem rise_len : ∀ (l : List Int) (lo : Int), 0 ≤ lo → l.Pairwise (· < ·) → (∀ x ∈ l, lo ≤ x ∧ x ≤ 1000000) → (l.length : Int) ≤ 1000001 - lo ∨ l = []
  | [], lo, _, _, _ => .inr rfl
  | x :: t, lo, h0, hp, hx => by
    left
    have h1 := hx x (by simp)
    have h2 := (List.pairwise_cons.1 hp).1
    have ih := rise_len t (x + 1) (by omega) (List.pairwise_cons.1 hp).2 (fun y hy => ⟨by have := h2 y hy; omega, (hx y (List.mem_cons_of_mem _ hy)).2⟩)
    rw [List.length_cons]
    rcases ih with ih | ih
    · omega
    · rw [ih]; simp; omega

theorem rea_ok (z : Int) (ls : List Lk) (a b : Int) : ∃ Z, ReaOk z ls a b Z ∧ Z.1.length ≤ 1048576 ∧ ∀ x ∈ Z.1, in64 x := by
  by_cases h : ∃ L, forR z ls = some L ∧ (0 ≤ a ∧ a < z) ∧ (0 ≤ b ∧ b < z) ∧ L a.toNat = L b.toNat
  · obtain ⟨L, hf, ha, hb, hL⟩ := h
    have hg : goF z.toNat id ls = some L := by
      unfold forR at hf
      split at hf
      · exact hf
      · cases hf
    have hok := forR_ok hf
    have hno : ¬ ∀ L, forR z ls = some L → (0 ≤ a ∧ a < z) → (0 ≤ b ∧ b < z) → L a.toNat ≠ L b.toNat := fun q => q L hf ha hb hL
    by_cases hp : ∃ p, (Wk ls a.toNat p b.toNat ∨ Wk ls b.toNat p a.toNat) ∧ p.Nodup
    · obtain ⟨p, hw, hd⟩ := hp
      have hmem : ∀ x ∈ risL (whyL ls p), 0 ≤ x ∧ x ≤ 1000000 := fun x hx => by
        have h1 := ((sort_compact (whyL ls p)).2 x).1 hx
        unfold whyL at h1
        obtain ⟨k, hk, rfl⟩ := List.mem_map.1 h1
        obtain ⟨l, hl⟩ : ∃ l, ls[k]? = some l := by
          rcases hw with hw | hw
          · exact hw.in k hk
          · exact hw.in k hk
        have := (hok l (List.mem_of_getElem? hl)).2.2
        simpa only [List.getD, hl, Option.getD_some] using this
      refine ⟨(risL (whyL ls p), true), ⟨fun L' _ _ _ _ => ⟨rfl, fun q hq dq => ?_⟩, fun q => absurd q hno⟩, ?_, fun x hx => ?_⟩
      · have e2 := ris_eq (xs := whyL ls p) (ys := whyL ls p) (fun _ => Iff.rfl)
        have e3 := ris_eq (whyL_mem (ls := ls) (Wk.alike hg hw hq hd dq))
        rw [← e3, e2]
      · have := rise_len (risL (whyL ls p)) 0 (by omega) (sort_compact (whyL ls p)).1 hmem
        simp only []
        rcases this with h | h
        · omega
        · rw [h]; simp
      · have := hmem x hx
        unfold in64
        omega
    · exact ⟨([], true), ⟨fun _ _ _ _ _ => ⟨rfl, fun q hq dq => absurd ⟨q, hq, dq⟩ hp⟩, fun q => absurd q hno⟩, by simp, by simp⟩
  · exact ⟨([], false), ⟨fun L hf ha hb hL => absurd ⟨L, hf, ha, hb, hL⟩ h, fun _ => rfl⟩, by simp, by simp⟩

theorem RetZ.hold {w w' : World} {Z : List Int × Bool} {e : Ending} (h : RetZ w Z e w') (h1 : Z.1.length ≤ 1048576) (h2 : ∀ x ∈ Z.1, in64 x) :
    ∃ a c, e = .returned (.tuple #[.slice a Z.1.length c, .bool Z.2]) ∧ HoldI w' w.heap.size w'.heap.size a Z.1.length Z.1 ∧ Below w.heap.size w w' := by
  obtain ⟨v, rfl, ho, hb⟩ := h
  obtain ⟨a, c, rfl, hh⟩ := ho.hold h1 h2
  exact ⟨a, c, rfl, hh, hb⟩

/-- What holds of all that the law carries, in a world u. -/
structure Cr (w : World) (F BX : Nat) (z : Int) (a : Option Addr) (n c : Nat) (a3 a5 : Option Addr) (gx Lw Hw Lg Hg NL : Nat) (ls : List Lk) (ZL : List Int) (u : World) : Prop where
  s : Bx u F #[.int .i64 z, .slice a n c] 24
  xx : Bx u BX #[.int .i64 z, .slice (some ⟨gx, 0, none⟩) n n] 29
  hw : HoldI u Lw Hw a3 NL ZL
  hx : HoldK u gx (gx + 1) (some ⟨gx, 0, none⟩) n ls
  hg : HoldI u Lg Hg a5 NL ZL
  bl : Below w.heap.size w u

theorem Cr.later {w : World} {F BX : Nat} {z : Int} {a : Option Addr} {n c : Nat} {a3 a5 : Option Addr} {gx Lw Hw Lg Hg NL : Nat} {ls : List Lk} {ZL : List Int} {u u' : World}
    (h : Cr w F BX z a n c a3 a5 gx Lw Hw Lg Hg NL ls ZL u) (hb : Below u.heap.size u u') : Cr w F BX z a n c a3 a5 gx Lw Hw Lg Hg NL ls ZL u' :=
  ⟨h.s.later hb, h.xx.later hb, h.hw.later hb, h.hx.later hb, h.hg.later hb, h.bl.trans (hb.mono h.bl.size)⟩

end Go.Proofs.Ytakicdlfolhhcaa
