/- What the program's RepeatBits answers: what the given one does. -/
import Derived.Test.YtobkemdffhhlfaaT
namespace Go.Proofs.Ytobkemdffhhlfaa
set_option linter.unusedVariables false
set_option linter.unusedSimpArgs false
open Go.RowKit

theorem Blk.free {w : World} {β : Nat} {x y : Value} {t : TypeId} (h : Blk w β x y t) (i : Nat) : w.frozen? ⟨β, i, none⟩ = false := frozen_of_row w β i _ _ h
theorem Blk.new1 (w : World) (o : Obj) (x y : Value) (t : TypeId) : Blk ((w.alloc o).alloc (.cells #[x, y] t)) (w.heap.size + 1) x y t := heap_alloc2_new _ _ _
theorem Blk.new2 (w : World) (o p : Obj) (x y : Value) (t : TypeId) : Blk (((w.alloc o).alloc p).alloc (.cells #[x, y] t)) (w.heap.size + 1 + 1) x y t := by
  have := heap_alloc2_new (w.alloc o) p (.cells #[x, y] t)
  rw [World.size_alloc] at this
  exact this

/-- A right row fits where there are as many bits from the place on as it is wide. -/
theorem put_fit {V : Nat} {xs : List Nat} (hok : rightB V xs = true) (hx : ∀ x ∈ xs, x < 18446744073709551616) (P N : Nat) (h : P + V ≤ 64 * N) :
    ∀ i, i < xs.length → P / 64 + i < N ∧ (P / 64 + i + 1 < N ∨ xs.getD i 0 / 2 ^ (64 - P % 64) = 0) := by
  intro i hi
  obtain ⟨h1, h2, h3⟩ := right_W hok
  refine ⟨by omega, ?_⟩
  by_cases hN : P / 64 + i + 1 < N
  · exact .inl hN
  · right
    refine Nat.eq_of_testBit_eq fun j => ?_
    rw [Nat.testBit_div_two_pow, Nat.zero_testBit]
    by_cases hj : j + (64 - P % 64) < 64
    · have := tb_out hok (64 * i + (j + (64 - P % 64))) (by omega)
      unfold tb at this
      rw [show (64 * i + (j + (64 - P % 64))) / 64 = i by omega, show (64 * i + (j + (64 - P % 64))) % 64 = j + (64 - P % 64) by omega] at this
      exact this
    · exact Nat.testBit_lt_two_pow (Nat.lt_of_lt_of_le (getD_lt hx i) (show 2 ^ 64 ≤ 2 ^ (j + (64 - P % 64)) from Nat.pow_le_pow_right (by omega) (by omega)))

theorem tb_put_right {V : Nat} {xs : List Nat} (hok : rightB V xs = true) (hx : ∀ x ∈ xs, x < 18446744073709551616) (zs : List Nat) (P : Nat) (h : P + V ≤ 64 * zs.length) (j : Nat) :
    tb (putTo zs xs (P / 64) (P % 64) xs.length) j = (tb zs j || (decide (P ≤ j) && tb xs (j - P))) := by
  rw [tb_put zs xs _ _ _ (by omega) hx (put_fit hok hx P zs.length h), show 64 * (P / 64) + P % 64 = P by omega]
  by_cases h1 : P ≤ j
  · by_cases h2 : j < P + 64 * xs.length
    · simp [h1, h2]
    · have := right_W hok
      rw [tb_out hok (j - P) (by omega)]; simp
  · simp [h1]

def repTo (V : Nat) (xs : List Nat) (N : Nat) : Nat → List Nat
  | 0 => List.replicate N 0
  | k + 1 => putTo (repTo V xs N k) xs (k * V / 64) (k * V % 64) xs.length

theorem repTo_len (V : Nat) (xs : List Nat) (N k : Nat) : (repTo V xs N k).length = N := by
  induction k with
  | zero => simp [repTo]
  | succ k ih => rw [repTo, putTo_len, ih]
theorem repTo_lt (V : Nat) (xs : List Nat) (N k : Nat) (hx : ∀ x ∈ xs, x < 18446744073709551616) : ∀ x ∈ repTo V xs N k, x < 18446744073709551616 := by
  induction k with
  | zero => intro x h; simp [repTo] at h; omega
  | succ k ih => exact putTo_lt _ _ _ _ _ ih hx

theorem tb_zero (N j : Nat) : tb (List.replicate N 0) j = false := by
  unfold tb
  simp only [List.getD, List.getElem?_replicate]
  split <;> simp

theorem tb_rep {V : Nat} {xs : List Nat} (hok : rightB V xs = true) (hx : ∀ x ∈ xs, x < 18446744073709551616) (N m : Nat) (hN : m * V ≤ 64 * N) (k : Nat) (hk : k ≤ m) (j : Nat) :
    tb (repTo V xs N k) j = (decide (j < k * V) && tb xs (j % V)) := by
  have hV := right_W hok
  induction k with
  | zero => simp [repTo, tb_zero]
  | succ k ih =>
    have hk1 : k * V + V ≤ m * V := by
      have : (k + 1) * V ≤ m * V := Nat.mul_le_mul_right _ hk
      rwa [Nat.succ_mul] at this
    rw [repTo, tb_put_right hok hx _ _ (by rw [repTo_len]; omega), ih (by omega), Nat.succ_mul]
    by_cases h1 : j < k * V
    · simp [h1, show ¬ k * V ≤ j by omega, show j < k * V + V by omega]
    · by_cases h2 : j < k * V + V
      · have e : j % V = j - k * V := by
          have h3 : j = (j - k * V) + V * k := by rw [Nat.mul_comm V k]; omega
          rw [h3, Nat.add_mul_mod_self_left, Nat.mod_eq_of_lt (by omega)]
          rw [Nat.mul_comm V k]; omega
        simp [h1, h2, show k * V ≤ j by omega, e]
      · rw [tb_out hok (j - k * V) (by omega)]
        simp [h1, h2]

theorem repList_get (bs : List Nat) (V : Nat) (hV : bs.length = V) (hp : 0 < V) (k j : Nat) (hj : j < k * V) : (repList bs k).getD j 0 = bs.getD (j % V) 0 := by
  induction k with
  | zero => simp at hj
  | succ k ih =>
    rw [repList_succ]
    have hl := repList_len bs k
    rw [hV] at hl
    simp only [List.getD]
    by_cases h : j < k * V
    · rw [List.getElem?_append_left (by omega)]
      have := ih h
      simpa only [List.getD] using this
    · rw [List.getElem?_append_right (by omega), hl]
      have e : j % V = j - k * V := by
        rw [Nat.succ_mul] at hj
        have h3 : j = (j - k * V) + V * k := by rw [Nat.mul_comm V k]; omega
        rw [h3, Nat.add_mul_mod_self_left, Nat.mod_eq_of_lt (by omega)]
        rw [Nat.mul_comm V k]; omega
      rw [e]

theorem rep_pack {V : Nat} {xs : List Nat} (hok : rightB V xs = true) (hx : ∀ x ∈ xs, x < 18446744073709551616) (m N : Nat) (hN : N = (m * V + 63) / 64) :
    repTo V xs N m = pack (repList (bitsTo xs V) m) := by
  have hV := right_W hok
  have hl := repList_len (bitsTo xs V) m
  rw [bitsTo_len] at hl
  refine eq_pack (fun x h => bitsTo_le xs V x (repList_mem _ _ _ h)) (by rw [repTo_len, hl, hN]) (repTo_lt _ _ _ _ hx) fun i hi => ?_
  rw [tb_rep hok hx N m (by omega) m (Nat.le_refl _)]
  by_cases h : i < m * V
  · rw [repList_get _ V (bitsTo_len _ _) (by omega) m i h]
    have h2 : i % V < V := Nat.mod_lt _ (by omega)
    simp [h, List.getD, bitsTo, h2]
  · have e : (repList (bitsTo xs V) m).getD i 0 = 0 := by
      simp only [List.getD]
      rw [List.getElem?_eq_none (by omega)]; rfl
    rw [e]; simp [h]

theorem Rd.lt {w : World} {a : Option Addr} {xs : List Nat} (h : Rd w a xs) (hp : 0 < xs.length) : ∀ x, a = some x → x.block < w.heap.size := by
  obtain ⟨_, _, h | ⟨b, o, rfl, hc⟩⟩ := h
  · subst h; simp at hp
  · intro x hx
    simp at hx
    subst hx
    exact block_lt_of_cell (hc 0 hp)

/-- How a function ends that gives back a row that it has filled. -/
theorem RetB.made {w w4 : World} {r : Int × List Nat × Bool} {R : Int × List Nat × Bool} {g c β : Nat} (ho : Own w4 g r.2.1) (hg : w.heap.size ≤ g) (hβ : w.heap.size ≤ β) (hne : g ≠ β) (hb : Below w.heap.size w w4) (he : r = R) (u v : Value) :
    RetB w R (.returned (.tuple #[.agg #[.int .i64 r.1, .slice (some ⟨g, 0, none⟩) r.2.1.length c], .bool r.2.2])) ((w4.setCell ⟨β, 0, none⟩ u).setCell ⟨β, 1, none⟩ v) := by
  subst he
  exact ⟨some ⟨g, 0, none⟩, c, rfl, .inr ⟨g, rfl, hg, (ho.other (by simpa using hne) _).other (by simpa using hne) _⟩, (hb.setCell hβ _).setCell hβ _⟩

set_option maxHeartbeats 1000000 in
set_option maxRecDepth 100000 in
theorem implRep_any (W : Int) (a : Option Addr) (c : Nat) (xs : List Nat) (n : Int) (w : World) (hr : Rd w a xs) :
    Calls Try.prog 35 #[.agg #[.int .i64 W, .slice a xs.length c], .int .i64 n] w (RetB w (repR W xs n)) := by
  have h2 : Below w.heap.size w ((w.alloc (Obj.cells #[Value.int IntKind.i64 W, Value.slice a xs.length c] 26)).alloc (Obj.cells #[Value.int IntKind.i64 0, Value.slice none 0 0] 26)) := ((Below.refl _ _).alloc (Nat.le_refl _) _).alloc (by simp) _
  have hr' := hr.later h2
  by_cases hc : rightB W xs = true ∧ 1 ≤ n ∧ n ≤ 4096 ∧ W * n ≤ 4096
  · rw [repR, if_pos hc]
    generalize hR : (W * n, pack (repList (bitsTo xs W.toNat) n.toNat), true) = R
    have HR : Hid ((W * n, pack (repList (bitsTo xs W.toNat) n.toNat), true) = R) := hR
    clear hR
    obtain ⟨hok, hn1, hn2, hWn⟩ := hc
    obtain ⟨hW1, hW2, hWl⟩ := right_W hok
    obtain ⟨V, rfl⟩ := Int.eq_ofNat_of_zero_le (show 0 ≤ W by omega)
    obtain ⟨m, rfl⟩ := Int.eq_ofNat_of_zero_le (show 0 ≤ n by omega)
    have hxx := hr.2.1
    have hab := hr.lt (by omega)
    have hVm : V * m ≤ 4096 := by exact_mod_cast hWn
    have hVm1 : 1 ≤ V * m := Nat.mul_pos (by omega) (by omega)
    have hl64 : xs.length ≤ 64 := by omega
    have bA0 := (Blk.new w (Value.int IntKind.i64 V) (Value.slice a xs.length c) 26).alloc (Obj.cells #[Value.int IntKind.i64 0, Value.slice none 0 0] 26)
    have bR0 := Blk.new1 w (Obj.cells #[Value.int IntKind.i64 V, Value.slice a xs.length c] 26) (Value.int IntKind.i64 0) (Value.slice none 0 0) 26
    have HWl : Hid ((xs.length : Int) = ((V : Int) + 63) / 64) := hWl
    clear hWl
    go_enter Try.func35, Try.ntmps35
    go_wp2_with fail
    refine (implOk_any _ _ _ _ _ hr').mono ?_
    rintro e w1 ⟨rfl, hb1⟩
    have B1 := h2.trans (hb1.mono (by simp; omega))
    have bA1 := bA0.next hb1
    have bR1 := bR0.next hb1
    obtain ⟨c0, c1⟩ := bA1.cells
    clear hb1 bA0 bR0 hr' h2
    go_wp2_with fail
    have eq1 : (V : Int) * (m : Int) = ((V * m : Nat) : Int) := by simp
    rw [eq1]
    generalize hq : V * m = q at *
    refine (zeroBits_any q _ (by omega) (by omega)).mono ?_
    rintro e w2 ⟨g, rfl, hg, hown, hb2⟩
    generalize hN : (q + 63) / 64 = N at *
    have B2 := chain B1 hb2
    have bA2 := bA1.next hb2
    have bR2 := bR1.next hb2
    have HN : Hid ((q + 63) / 64 = N) := hN
    have Hq : Hid (V * m = q) := hq
    have hgr := bR1.lt
    clear hN hq eq1 hb2 B1 bA1 bR1 c0 c1
    go_wp2_with fail
    have bO3 := Blk.new w2 (Value.int IntKind.i64 q) (Value.slice (some ⟨g, 0, none⟩) N N) 26
    have bA3 := bA2.alloc (Obj.cells #[Value.int IntKind.i64 q, Value.slice (some ⟨g, 0, none⟩) N N] 26)
    have bR3 := bR2.alloc (Obj.cells #[Value.int IntKind.i64 q, Value.slice (some ⟨g, 0, none⟩) N N] 26)
    have B3 := Ba B2 (Obj.cells #[Value.int IntKind.i64 q, Value.slice (some ⟨g, 0, none⟩) N N] 26)
    have ho3 := hown.alloc (Obj.cells #[Value.int IntKind.i64 q, Value.slice (some ⟨g, 0, none⟩) N N] 26)
    have hgl := hown.lt
    generalize w2.alloc (Obj.cells #[Value.int IntKind.i64 q, Value.slice (some ⟨g, 0, none⟩) N N] 26) = w3 at *
    go_loopw [33] (fun i wr => ∃ k : Nat, k ≤ m ∧ i = .int .i64 k ∧ Own wr g (repTo V xs N k) ∧ Blk wr w2.heap.size (Value.int IntKind.i64 q) (Value.slice (some ⟨g, 0, none⟩) N N) 26 ∧ Blk wr w.heap.size (Value.int IntKind.i64 V) (Value.slice a xs.length c) 26 ∧ Blk wr (w.heap.size + 1) (Value.int IntKind.i64 0) (Value.slice none 0 0) 26 ∧ Below w.heap.size w wr) (fun i _ => m - (intOf i).toNat)
    case atStart => exact ⟨0, Nat.zero_le _, rfl, ho3, bO3, bA3, bR3, B3⟩
    case round =>
      obtain ⟨k, hk, rfl, hownk, bO, bA, bR, B⟩ := hrel
      obtain ⟨c0, c1⟩ := bA.cells
      obtain ⟨d0, d1⟩ := bO.cells
      by_cases hlt : k < m
      · have hkV : k * V + V ≤ q := by
          rw [← Hq.out, Nat.mul_comm V m]
          have : (k + 1) * V ≤ m * V := Nat.mul_le_mul_right _ hlt
          rwa [Nat.succ_mul] at this
        have hlenk := repTo_len V xs N k
        have hNq := HN.out
        have hput := putBits_any (q : Int) (V : Int) g N c (k * V) a (repTo V xs N k) xs wr hownk (hr.later B) (repTo_lt V xs N k hxx) (by omega) (by rw [hlenk]; omega) hl64 (by rw [hlenk]; exact put_fit hok hxx _ _ (by omega)) (fun x hx => by have := hab x hx; omega)
        rw [hlenk] at hput
        have hmulk : (k : Int) * (V : Int) ≤ 4096 := by
          have : k * V ≤ 4096 := by omega
          exact_mod_cast this
        have hmulk0 : (0 : Int) ≤ (k : Int) * (V : Int) := by
          have : 0 ≤ k * V := Nat.zero_le _
          exact_mod_cast this
        clear hlenk hNq
        go_wp2_with fail
        rw [Int.natCast_mul] at hput
        refine hput.mono ?_
        rintro e w4 ⟨rfl, hown4, hgr4⟩
        have f4 := hownk.fr (Nat.le_refl g)
        have m4 : Marked wr w4 (some ⟨g, 0, none⟩) := hgr4
        have bO4 := bO.mark f4 m4 (by decide)
        have bA4 := bA.mark f4 m4 (by decide)
        have bR4 := bR.mark f4 m4 (by decide)
        have B4 := m4.below f4 B (by omega)
        clear hput hownk bO bA bR B c0 c1 d0 d1 f4 m4 hgr4 bO3 bA3 bR3 B3 ho3
        go_wp2
        go_roundw
        case rel => exact ⟨k + 1, by omega, by go_num, hown4, bO4, bA4, bR4, B4⟩
        case measure => simp [intOf]; omega
      · have e : k = m := by omega
        subst e
        obtain ⟨r0, r1⟩ := bR.cells
        have f0 := bR.free 0
        have f1 := bR.free 1
        have HQ : Hid (((q : Int), repTo V xs N k, true) = R) := by
          show _ = _
          rw [rep_pack hok hxx k N (by rw [Nat.mul_comm k V, Hq.out]; exact HN.out.symm), ← HR.out, Int.toNat_natCast, Int.toNat_natCast, ← Hq.out, Int.natCast_mul]
        have HL : Hid ((repTo V xs N k).length = N) := repTo_len V xs N k
        generalize repTo V xs N k = ys at *
        clear bO bA bR bO3 bA3 bR3 B3 ho3 HR Hq HN
        go_wp2
        have hm := RetB.made (w := w) (r := ((q : Int), ys, true)) (c := N) hownk (by omega) (β := w.heap.size + 1) (by omega) (by omega) B HQ.out (Value.int IntKind.i64 q) (Value.slice (some ⟨g, 0, none⟩) N N)
        dsimp only at hm
        rw [HL.out] at hm
        exact bodyPost_ret (by simp [results, Try.results35, go_sem, r0, r1]) rfl hm
  · rw [repR, if_neg hc]
    have hcase : rightB W xs = false ∨ (rightB W xs = true ∧ n < 1) ∨ (rightB W xs = true ∧ 1 ≤ n ∧ 4096 < n) ∨ (rightB W xs = true ∧ 1 ≤ n ∧ n ≤ 4096 ∧ 4096 < W * n) := by
      cases hb : rightB W xs with
      | false => exact .inl rfl
      | true => simp [hb] at hc ⊢; omega
    clear hc
    rcases hcase with h | ⟨h, h1⟩ | ⟨h, h1, h3⟩ | ⟨h, h1, h3, h4⟩
    · go_enter Try.func35, Try.ntmps35
      go_wp2_with fail
      refine (implOk_any _ _ _ _ _ hr').mono ?_
      rintro e w1 ⟨rfl, hb1⟩
      obtain ⟨hcc, hff⟩ := bcell hb1
      have hz : w.heap.size + 1 < w1.heap.size := by have := hb1.size; simp at this; omega
      go_wp2
      exact bodyPost_ret (v := .tuple #[.agg #[.int .i64 0, .slice none 0 0], .bool false]) (by simp [results, Try.results35, go_sem, hcc]) rfl (RetB.no (((h2.trans (hb1.mono (by simp; omega))).setCell (by simp) _).setCell (by simp) _))
    · go_enter Try.func35, Try.ntmps35
      go_wp2_with fail
      refine (implOk_any _ _ _ _ _ hr').mono ?_
      rintro e w1 ⟨rfl, hb1⟩
      obtain ⟨hcc, hff⟩ := bcell hb1
      have hz : w.heap.size + 1 < w1.heap.size := by have := hb1.size; simp at this; omega
      go_wp2
      exact bodyPost_ret (v := .tuple #[.agg #[.int .i64 0, .slice none 0 0], .bool false]) (by simp [results, Try.results35, go_sem, hcc]) rfl (RetB.no (((h2.trans (hb1.mono (by simp; omega))).setCell (by simp) _).setCell (by simp) _))
    · go_enter Try.func35, Try.ntmps35
      go_wp2_with fail
      refine (implOk_any _ _ _ _ _ hr').mono ?_
      rintro e w1 ⟨rfl, hb1⟩
      obtain ⟨hcc, hff⟩ := bcell hb1
      have hz : w.heap.size + 1 < w1.heap.size := by have := hb1.size; simp at this; omega
      go_wp2
      exact bodyPost_ret (v := .tuple #[.agg #[.int .i64 0, .slice none 0 0], .bool false]) (by simp [results, Try.results35, go_sem, hcc]) rfl (RetB.no (((h2.trans (hb1.mono (by simp; omega))).setCell (by simp) _).setCell (by simp) _))
    · obtain ⟨hW1, hW2, _⟩ := right_W h
      have hmul : W * n ≤ 4096 * 4096 := Int.mul_le_mul hW2 h3 (by omega) (by omega)
      go_enter Try.func35, Try.ntmps35
      go_wp2_with fail
      refine (implOk_any _ _ _ _ _ hr').mono ?_
      rintro e w1 ⟨rfl, hb1⟩
      obtain ⟨hcc, hff⟩ := bcell hb1
      have hz : w.heap.size + 1 < w1.heap.size := by have := hb1.size; simp at this; omega
      go_wp2
      exact bodyPost_ret (v := .tuple #[.agg #[.int .i64 0, .slice none 0 0], .bool false]) (by simp [results, Try.results35, go_sem, hcc]) rfl (RetB.no (((h2.trans (hb1.mono (by simp; omega))).setCell (by simp) _).setCell (by simp) _))

end Go.Proofs.Ytobkemdffhhlfaa
