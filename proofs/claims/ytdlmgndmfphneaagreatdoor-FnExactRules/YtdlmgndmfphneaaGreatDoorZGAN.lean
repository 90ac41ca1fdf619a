/- Several texts in one. -/
import Derived.Test.YtdlmgndmfphneaaGreatDoorZGAL
import Derived.Test.YtdlmgndmfphneaaGreatDoorZGAD
import Derived.Test.YtdlmgndmfphneaaGreatDoorZGAB
import Derived.Test.YtdlmgndmfphneaaGreatDoorZGAC
import Derived.Deep.RegionHeldLaw
import Derived.Deep.RegionHeld3
import Derived.Deep.RegionWith

/- What the program's RepeatBits answers: what the given one does. -/
namespace Go.Proofs.YtdlmgndmfphneaaGreatDoor
set_option linter.unusedVariables false
set_option linter.unusedSimpArgs false
open Go.RowKit

theorem Blk.free {w : World} {β : Nat} {x y : Value} {t : TypeId} (h : Blk w β x y t) (i : Nat) : w.frozen? ⟨β, i, none⟩ = false := frozen_of_row w β i _ _ h
theorem Blk.new1 (w : World) (o : Obj) (x y : Value) (t : TypeId) : Blk ((w.alloc o).alloc (.cells #[x, y] t)) (w.heap.size + 1) x y t := heap_alloc2_new _ _ _
theorem Blk.new2 (w : World) (o p : Obj) (x y : Value) (t : TypeId) : Blk (((w.alloc o).alloc p).alloc (.cells #[x, y] t)) (w.heap.size + 1 + 1) x y t := by
  have := heap_alloc2_new (w.alloc o) p (.cells #[x, y] t)
  rw [World.size_alloc] at this
  exact this

/-- A right row fits where there are as many bits from the place on as it is wide. -/
theorem put_fit {V : Nat} {xs : List Nat} (hok : rightB V xs = true) (hx : ∀ x ∈ xs, x < 18446744073709551616) (P N : Nat) (h : P + V ≤ 64 * N) :
    ∀ i, i < xs.length → P / 64 + i < N ∧ (P / 64 + i + 1 < N ∨ xs.getD i 0 / 2 ^ (64 - P % 64) = 0) := by
  intro i hi
  obtain ⟨h1, h2, h3⟩ := right_W hok
  refine ⟨by omega, ?_⟩
  by_cases hN : P / 64 + i + 1 < N
  · exact .inl hN
  · right
    refine Nat.eq_of_testBit_eq fun j => ?_
    rw [Nat.testBit_div_two_pow, Nat.zero_testBit]
    by_cases hj : j + (64 - P % 64) < 64
    · have := tb_out hok (64 * i + (j + (64 - P % 64))) (by omega)
      unfold tb at this
      rw [show (64 * i + (j + (64 - P % 64))) / 64 = i by omega, show (64 * i + (j + (64 - P % 64))) % 64 = j + (64 - P % 64) by omega] at this
      exact this
    · exact Nat.testBit_lt_two_pow (Nat.lt_of_lt_of_le (getD_lt hx i) (show 2 ^ 64 ≤ 2 ^ (j + (64 - P % 64)) from Nat.pow_le_pow_right (by omega) (by omega)))

theorem tb_put_right {V : Nat} {xs : List Nat} (hok : rightB V xs = true) (hx : ∀ x ∈ xs, x < 18446744073709551616) (zs : List Nat) (P : Nat) (h : P + V ≤ 64 * zs.length) (j : Nat) :
    tb (putTo zs xs (P / 64) (P % 64) xs.length) j = (tb zs j || (decide (P ≤ j) && tb xs (j - P))) := by
  rw [tb_put zs xs _ _ _ (by omega) hx (put_fit hok hx P zs.length h), show 64 * (P / 64) + P % 64 = P by omega]
  by_cases h1 : P ≤ j
  · by_cases h2 : j < P + 64 * xs.length
    · simp [h1, h2]
    · have := right_W hok
      rw [tb_out hok (j - P) (by omega)]; simp
  · simp [h1]

def repTo (V : Nat) (xs : List Nat) (N : Nat) : Nat → List Nat
  | 0 => List.replicate N 0
  | k + 1 => putTo (repTo V xs N k) xs (k * V / 64) (k * V % 64) xs.length

theorem repTo_len (V : Nat) (xs : List Nat) (N k : Nat) : (repTo V xs N k).length = N := by
  induction k with
  | zero => simp [repTo]
  | succ k ih => rw [repTo, putTo_len, ih]
theorem repTo_lt (V : Nat) (xs : List Nat) (N k : Nat) (hx : ∀ x ∈ xs, x < 18446744073709551616) : ∀ x ∈ repTo V xs N k, x < 18446744073709551616 := by
  induction k with
  | zero => intro x h; simp [repTo] at h; omega
  | succ k ih => exact putTo_lt _ _ _ _ _ ih hx

theorem tb_zero (N j : Nat) : tb (List.replicate N 0) j = false := by
  unfold tb
  simp only [List.getD, List.getElem?_replicate]
  split <;> simp

theorem tb_rep {V : Nat} {xs : List Nat} (hok : rightB V xs = true) (hx : ∀ x ∈ xs, x < 18446744073709551616) (N m : Nat) (hN : m * V ≤ 64 * N) (k : Nat) (hk : k ≤ m) (j : Nat) :
    tb (repTo V xs N k) j = (decide (j < k * V) && tb xs (j % V)) := by
  have hV := right_W hok
  induction k with
  | zero => simp [repTo, tb_zero]
  | succ k ih =>
    have hk1 : k * V + V ≤ m * V := by
      have : (k + 1) * V ≤ m * V := Nat.mul_le_mul_right _ hk
      rwa [Nat.succ_mul] at this
    rw [repTo, tb_put_right hok hx _ _ (by rw [repTo_len]; omega), ih (by omega), Nat.succ_mul]
    by_cases h1 : j < k * V
    · simp [h1, show ¬ k * V ≤ j by omega, show j < k * V + V by omega]
    · by_cases h2 : j < k * V + V
      · have e : j % V = j - k * V := by
          have h3 : j = (j - k * V) + V * k := by rw [Nat.mul_comm V k]; omega
          rw [h3, Nat.add_mul_mod_self_left, Nat.mod_eq_of_lt (by omega)]
          rw [Nat.mul_comm V k]; omega
        simp [h1, h2, show k * V ≤ j by omega, e]
      · rw [tb_out hok (j - k * V) (by omega)]
        simp [h1, h2]

theorem repList_get (bs : List Nat) (V : Nat) (hV : bs.length = V) (hp : 0 < V) (k j : Nat) (hj : j < k * V) : (repList bs k).getD j 0 = bs.getD (j % V) 0 := by
  induction k with
  | zero => simp at hj
  | succ k ih =>
    rw [repList_succ]
    have hl := repList_len bs k
    rw [hV] at hl
    simp only [List.getD]
    by_cases h : j < k * V
    · rw [List.getElem?_append_left (by omega)]
      have := ih h
      simpa only [List.getD] using this
    · rw [List.getElem?_append_right (by omega), hl]
      have e : j % V = j - k * V := by
        rw [Nat.succ_mul] at hj
        have h3 : j = (j - k * V) + V * k := by rw [Nat.mul_comm V k]; omega
        rw [h3, Nat.add_mul_mod_self_left, Nat.mod_eq_of_lt (by omega)]
        rw [Nat.mul_comm V k]; omega
      rw [e]

theorem rep_pack {V : Nat} {xs : List Nat} (hok : rightB V xs = true) (hx : ∀ x ∈ xs, x < 18446744073709551616) (m N : Nat) (hN : N = (m * V + 63) / 64) :
    repTo V xs N m = pack (repList (bitsTo xs V) m) := by
  have hV := right_W hok
  have hl := repList_len (bitsTo xs V) m
  rw [bitsTo_len] at hl
  refine eq_pack (fun x h => bitsTo_le xs V x (repList_mem _ _ _ h)) (by rw [repTo_len, hl, hN]) (repTo_lt _ _ _ _ hx) fun i hi => ?_
  rw [tb_rep hok hx N m (by omega) m (Nat.le_refl _)]
  by_cases h : i < m * V
  · rw [repList_get _ V (bitsTo_len _ _) (by omega) m i h]
    have h2 : i % V < V := Nat.mod_lt _ (by omega)
    simp [h, List.getD, bitsTo, h2]
  · have e : (repList (bitsTo xs V) m).getD i 0 = 0 := by
      simp only [List.getD]
      rw [List.getElem?_eq_none (by omega)]; rfl
    rw [e]; simp [h]

theorem Rd.lt {w : World} {a : Option Addr} {xs : List Nat} (h : Rd w a xs) (hp : 0 < xs.length) : ∀ x, a = some x → x.block < w.heap.size := by
  obtain ⟨_, _, h | ⟨b, o, rfl, hc⟩⟩ := h
  · subst h; simp at hp
  · intro x hx
    simp at hx
    subst hx
    exact block_lt_of_cell (hc 0 hp)

/-- How a function ends that gives back a row that it has filled. -/
theorem RetB.made {w w4 : World} {r : Int × List Nat × Bool} {R : Int × List Nat × Bool} {g c β : Nat} (ho : Own w4 g r.2.1) (hg : w.heap.size ≤ g) (hβ : w.heap.size ≤ β) (hne : g ≠ β) (hb : Below w.heap.size w w4) (he : r = R) (u v : Value) :
    RetB w R (.returned (.tuple #[.agg #[.int .i64 r.1, .slice (some ⟨g, 0, none⟩) r.2.1.length c], .bool r.2.2])) ((w4.setCell ⟨β, 0, none⟩ u).setCell ⟨β, 1, none⟩ v) := by
  subst he
  exact ⟨some ⟨g, 0, none⟩, c, rfl, .inr ⟨g, rfl, hg, (ho.other (by simpa using hne) _).other (by simpa using hne) _⟩, (hb.setCell hβ _).setCell hβ _⟩

set_option maxHeartbeats 1000000 in
set_option maxRecDepth 100000 in
theorem implRep_any (W : Int) (a : Option Addr) (c : Nat) (xs : List Nat) (n : Int) (w : World) (hr : Rd w a xs) :
    Calls Tryz.prog 156 #[.agg #[.int .i64 W, .slice a xs.length c], .int .i64 n] w (RetB w (repR W xs n)) := by
  have h2 : Below w.heap.size w ((w.alloc (Obj.cells #[Value.int IntKind.i64 W, Value.slice a xs.length c] 61)).alloc (Obj.cells #[Value.int IntKind.i64 0, Value.slice none 0 0] 61)) := ((Below.refl _ _).alloc (Nat.le_refl _) _).alloc (by simp) _
  have hr' := hr.later h2
  by_cases hc : rightB W xs = true ∧ 1 ≤ n ∧ n ≤ 4096 ∧ W * n ≤ 4096
  · rw [repR, if_pos hc]
    generalize hR : (W * n, pack (repList (bitsTo xs W.toNat) n.toNat), true) = R
    have HR : Hid ((W * n, pack (repList (bitsTo xs W.toNat) n.toNat), true) = R) := hR
    clear hR
    obtain ⟨hok, hn1, hn2, hWn⟩ := hc
    obtain ⟨hW1, hW2, hWl⟩ := right_W hok
    obtain ⟨V, rfl⟩ := Int.eq_ofNat_of_zero_le (show 0 ≤ W by omega)
    obtain ⟨m, rfl⟩ := Int.eq_ofNat_of_zero_le (show 0 ≤ n by omega)
    have hxx := hr.2.1
    have hab := hr.lt (by omega)
    have hVm : V * m ≤ 4096 := by exact_mod_cast hWn
    have hVm1 : 1 ≤ V * m := Nat.mul_pos (by omega) (by omega)
    have hl64 : xs.length ≤ 64 := by omega
    have bA0 := (Blk.new w (Value.int IntKind.i64 V) (Value.slice a xs.length c) 61).alloc (Obj.cells #[Value.int IntKind.i64 0, Value.slice none 0 0] 61)
    have bR0 := Blk.new1 w (Obj.cells #[Value.int IntKind.i64 V, Value.slice a xs.length c] 61) (Value.int IntKind.i64 0) (Value.slice none 0 0) 61
    have HWl : Hid ((xs.length : Int) = ((V : Int) + 63) / 64) := hWl
    clear hWl
    go_enter Tryz.func156, Tryz.ntmps156
    go_wp2_with fail
    refine (implOk_any _ _ _ _ _ hr').mono ?_
    rintro e w1 ⟨rfl, hb1⟩
    have B1 := h2.trans (hb1.mono (by simp; omega))
    have bA1 := bA0.next hb1
    have bR1 := bR0.next hb1
    obtain ⟨c0, c1⟩ := bA1.cells
    clear hb1 bA0 bR0 hr' h2
    go_wp2_with fail
    have eq1 : (V : Int) * (m : Int) = ((V * m : Nat) : Int) := by simp
    rw [eq1]
    generalize hq : V * m = q at *
    refine (zeroBits_any q _ (by omega) (by omega)).mono ?_
    rintro e w2 ⟨g, rfl, hg, hown, hb2⟩
    generalize hN : (q + 63) / 64 = N at *
    have B2 := chain B1 hb2
    have bA2 := bA1.next hb2
    have bR2 := bR1.next hb2
    have HN : Hid ((q + 63) / 64 = N) := hN
    have Hq : Hid (V * m = q) := hq
    have hgr := bR1.lt
    clear hN hq eq1 hb2 B1 bA1 bR1 c0 c1
    go_wp2_with fail
    have bO3 := Blk.new w2 (Value.int IntKind.i64 q) (Value.slice (some ⟨g, 0, none⟩) N N) 61
    have bA3 := bA2.alloc (Obj.cells #[Value.int IntKind.i64 q, Value.slice (some ⟨g, 0, none⟩) N N] 61)
    have bR3 := bR2.alloc (Obj.cells #[Value.int IntKind.i64 q, Value.slice (some ⟨g, 0, none⟩) N N] 61)
    have B3 := Ba B2 (Obj.cells #[Value.int IntKind.i64 q, Value.slice (some ⟨g, 0, none⟩) N N] 61)
    have ho3 := hown.alloc (Obj.cells #[Value.int IntKind.i64 q, Value.slice (some ⟨g, 0, none⟩) N N] 61)
    have hgl := hown.lt
    generalize w2.alloc (Obj.cells #[Value.int IntKind.i64 q, Value.slice (some ⟨g, 0, none⟩) N N] 61) = w3 at *
    go_loopw [33] (fun i wr => ∃ k : Nat, k ≤ m ∧ i = .int .i64 k ∧ Own wr g (repTo V xs N k) ∧ Blk wr w2.heap.size (Value.int IntKind.i64 q) (Value.slice (some ⟨g, 0, none⟩) N N) 61 ∧ Blk wr w.heap.size (Value.int IntKind.i64 V) (Value.slice a xs.length c) 61 ∧ Blk wr (w.heap.size + 1) (Value.int IntKind.i64 0) (Value.slice none 0 0) 61 ∧ Below w.heap.size w wr) (fun i _ => m - (intOf i).toNat)
    case atStart => exact ⟨0, Nat.zero_le _, rfl, ho3, bO3, bA3, bR3, B3⟩
    case round =>
      obtain ⟨k, hk, rfl, hownk, bO, bA, bR, B⟩ := hrel
      obtain ⟨c0, c1⟩ := bA.cells
      obtain ⟨d0, d1⟩ := bO.cells
      by_cases hlt : k < m
      · have hkV : k * V + V ≤ q := by
          rw [← Hq.out, Nat.mul_comm V m]
          have : (k + 1) * V ≤ m * V := Nat.mul_le_mul_right _ hlt
          rwa [Nat.succ_mul] at this
        have hlenk := repTo_len V xs N k
        have hNq := HN.out
        have hput := putBits_any (q : Int) (V : Int) g N c (k * V) a (repTo V xs N k) xs wr hownk (hr.later B) (repTo_lt V xs N k hxx) (by omega) (by rw [hlenk]; omega) hl64 (by rw [hlenk]; exact put_fit hok hxx _ _ (by omega)) (fun x hx => by have := hab x hx; omega)
        rw [hlenk] at hput
        have hmulk : (k : Int) * (V : Int) ≤ 4096 := by
          have : k * V ≤ 4096 := by omega
          exact_mod_cast this
        have hmulk0 : (0 : Int) ≤ (k : Int) * (V : Int) := by
          have : 0 ≤ k * V := Nat.zero_le _
          exact_mod_cast this
        clear hlenk hNq
        go_wp2_with fail
        rw [Int.natCast_mul] at hput
        refine hput.mono ?_
        rintro e w4 ⟨rfl, hown4, hgr4⟩
        have f4 := hownk.fr (Nat.le_refl g)
        have m4 : Marked wr w4 (some ⟨g, 0, none⟩) := hgr4
        have bO4 := bO.mark f4 m4 (by decide)
        have bA4 := bA.mark f4 m4 (by decide)
        have bR4 := bR.mark f4 m4 (by decide)
        have B4 := m4.below f4 B (by omega)
        clear hput hownk bO bA bR B c0 c1 d0 d1 f4 m4 hgr4 bO3 bA3 bR3 B3 ho3
        go_wp2
        go_roundw
        case rel => exact ⟨k + 1, by omega, by go_num, hown4, bO4, bA4, bR4, B4⟩
        case measure => simp [intOf]; omega
      · have e : k = m := by omega
        subst e
        obtain ⟨r0, r1⟩ := bR.cells
        have f0 := bR.free 0
        have f1 := bR.free 1
        have HQ : Hid (((q : Int), repTo V xs N k, true) = R) := by
          show _ = _
          rw [rep_pack hok hxx k N (by rw [Nat.mul_comm k V, Hq.out]; exact HN.out.symm), ← HR.out, Int.toNat_natCast, Int.toNat_natCast, ← Hq.out, Int.natCast_mul]
        have HL : Hid ((repTo V xs N k).length = N) := repTo_len V xs N k
        generalize repTo V xs N k = ys at *
        clear bO bA bR bO3 bA3 bR3 B3 ho3 HR Hq HN
        go_wp2
        have hm := RetB.made (w := w) (r := ((q : Int), ys, true)) (c := N) hownk (by omega) (β := w.heap.size + 1) (by omega) (by omega) B HQ.out (Value.int IntKind.i64 q) (Value.slice (some ⟨g, 0, none⟩) N N)
        dsimp only at hm
        rw [HL.out] at hm
        exact bodyPost_ret (by simp [results, Tryz.results156, go_sem, r0, r1]) rfl hm
  · rw [repR, if_neg hc]
    have hcase : rightB W xs = false ∨ (rightB W xs = true ∧ n < 1) ∨ (rightB W xs = true ∧ 1 ≤ n ∧ 4096 < n) ∨ (rightB W xs = true ∧ 1 ≤ n ∧ n ≤ 4096 ∧ 4096 < W * n) := by
      cases hb : rightB W xs with
      | false => exact .inl rfl
      | true => simp [hb] at hc ⊢; omega
    clear hc
    rcases hcase with h | ⟨h, h1⟩ | ⟨h, h1, h3⟩ | ⟨h, h1, h3, h4⟩
    · go_enter Tryz.func156, Tryz.ntmps156
      go_wp2_with fail
      refine (implOk_any _ _ _ _ _ hr').mono ?_
      rintro e w1 ⟨rfl, hb1⟩
      obtain ⟨hcc, hff⟩ := bcell hb1
      have hz : w.heap.size + 1 < w1.heap.size := by have := hb1.size; simp at this; omega
      go_wp2
      exact bodyPost_ret (v := .tuple #[.agg #[.int .i64 0, .slice none 0 0], .bool false]) (by simp [results, Tryz.results156, go_sem, hcc]) rfl (RetB.no (((h2.trans (hb1.mono (by simp; omega))).setCell (by simp) _).setCell (by simp) _))
    · go_enter Tryz.func156, Tryz.ntmps156
      go_wp2_with fail
      refine (implOk_any _ _ _ _ _ hr').mono ?_
      rintro e w1 ⟨rfl, hb1⟩
      obtain ⟨hcc, hff⟩ := bcell hb1
      have hz : w.heap.size + 1 < w1.heap.size := by have := hb1.size; simp at this; omega
      go_wp2
      exact bodyPost_ret (v := .tuple #[.agg #[.int .i64 0, .slice none 0 0], .bool false]) (by simp [results, Tryz.results156, go_sem, hcc]) rfl (RetB.no (((h2.trans (hb1.mono (by simp; omega))).setCell (by simp) _).setCell (by simp) _))
    · go_enter Tryz.func156, Tryz.ntmps156
      go_wp2_with fail
      refine (implOk_any _ _ _ _ _ hr').mono ?_
      rintro e w1 ⟨rfl, hb1⟩
      obtain ⟨hcc, hff⟩ := bcell hb1
      have hz : w.heap.size + 1 < w1.heap.size := by have := hb1.size; simp at this; omega
      go_wp2
      exact bodyPost_ret (v := .tuple #[.agg #[.int .i64 0, .slice none 0 0], .bool false]) (by simp [results, Tryz.results156, go_sem, hcc]) rfl (RetB.no (((h2.trans (hb1.mono (by simp; omega))).setCell (by simp) _).setCell (by simp) _))
    · obtain ⟨hW1, hW2, _⟩ := right_W h
      have hmul : W * n ≤ 4096 * 4096 := Int.mul_le_mul hW2 h3 (by omega) (by omega)
      go_enter Tryz.func156, Tryz.ntmps156
      go_wp2_with fail
      refine (implOk_any _ _ _ _ _ hr').mono ?_
      rintro e w1 ⟨rfl, hb1⟩
      obtain ⟨hcc, hff⟩ := bcell hb1
      have hz : w.heap.size + 1 < w1.heap.size := by have := hb1.size; simp at this; omega
      go_wp2
      exact bodyPost_ret (v := .tuple #[.agg #[.int .i64 0, .slice none 0 0], .bool false]) (by simp [results, Tryz.results156, go_sem, hcc]) rfl (RetB.no (((h2.trans (hb1.mono (by simp; omega))).setCell (by simp) _).setCell (by simp) _))

end Go.Proofs.YtdlmgndmfphneaaGreatDoor

/- Rows of words of one's own; a word copied. -/
namespace Go.Proofs.YtdlmgndmfphneaaGreatDoor
set_option linter.unusedVariables false
set_option linter.unusedSimpArgs false
open Go.RowKit

theorem Fresh.nwE {w : World} {lo : Nat} {a : Option Addr} {xs : List Nat} (h : Fresh w lo a xs) : Nw w lo a xs := by
  rcases h with ⟨h1, h2⟩ | ⟨g, h1, h2, h3⟩
  · exact .inl ⟨h1, fun x e => by rw [h2] at e; cases e⟩
  · exact .inr ⟨g, u64s xs, h1, h2, h3, fun i hi => u64s_get _ _ hi⟩

theorem Nw.put {w : World} {lo β : Nat} {a : Option Addr} {xs : List Nat} {x y : Value} {t : TypeId} (h : Nw w lo a xs) (hB : Blk w β x y t) (ht : t ≠ 136) (i : Nat) (v : Value) : Nw (w.setCell ⟨β, i, none⟩ v) lo a xs :=
  Nw.kept h fun k cur hc => heap_setCell_other _ _ _ _ (fun e => by
    simp only [] at e
    subst e
    rw [hB] at hc
    cases hc
    exact ht rfl)

/-- An answer that is a word in new memory. -/
def RetV (u : World) (X : Int × List Nat) (e : Ending) (w' : World) : Prop := ∃ a c, e = .returned (.agg #[.int .i64 X.1, .slice a X.2.length c]) ∧ Nw w' u.heap.size a X.2 ∧ Below u.heap.size u w'

theorem Blk.put0' {w : World} {β : Nat} {x y : Value} {t : TypeId} (h : Blk w β x y t) (u : Value) : Blk (w.setCell ⟨β, 0, none⟩ u) β u y t := by
  unfold Blk
  rw [heap_setCell_same w β 0 _ _ _ h]; rfl
theorem Blk.put1' {w : World} {β : Nat} {x y : Value} {t : TypeId} (h : Blk w β x y t) (u : Value) : Blk (w.setCell ⟨β, 1, none⟩ u) β x u t := by
  unfold Blk
  rw [heap_setCell_same w β 1 _ _ _ h]; rfl

theorem set2_far (w : World) (β : Nat) (x y : Value) (a : Addr) (h : a.block ≠ β) : ((w.setCell ⟨β, 0, none⟩ x).setCell ⟨β, 1, none⟩ y).cell? a = w.cell? a := by
  rw [World.cell?_setCell_far _ _ _ _ (fun e => h e.symm), World.cell?_setCell_far _ _ _ _ (fun e => h e.symm)]
theorem drew2_far (w : World) (β : Nat) (x y : Value) (a : Addr) (h : a.block ≠ β) : ((w.setCell ⟨β, 0, none⟩ x).setCell ⟨β, 1, none⟩ y).drew.cell? a = w.cell? a := set2_far w β x y a h
theorem drew_is (w : World) (a : Addr) : w.drew.cell? a = w.cell? a := rfl

/-- A word that is put into the answer's box. -/
theorem RetV.box {u w5 : World} {ρ lo c : Nat} {W : Int} {a : Option Addr} {xs : List Nat} {x y : Value} (hB : Blk w5 ρ x y 61) (hn : Nw w5 lo a xs) (hlo : u.heap.size ≤ lo) (hρ : u.heap.size ≤ ρ) (hb : Below u.heap.size u w5) :
    RetV u (W, xs) (.returned (.agg #[.int .i64 W, .slice a xs.length c])) ((w5.setCell ⟨ρ, 0, none⟩ (.int .i64 W)).setCell ⟨ρ, 1, none⟩ (.slice a xs.length c)) :=
  ⟨a, c, rfl, ((hn.mono hlo).put hB (by decide) 0 _).put (hB.put0' _) (by decide) 1 _, (hb.setCell hρ _).setCell hρ _⟩

set_option maxHeartbeats 1000000 in
theorem copyBits_any (W : Int) (a : Option Addr) (c : Nat) (xs : List Nat) (w : World) (hr : Rd w a xs) (hx : 1 ≤ xs.length) :
    Calls Tryz.prog 106 #[.agg #[.int .i64 W, .slice a xs.length c]] w (RetV w (W, xs)) := by
  have s0 := St.start w (.cells #[.int .i64 W, .slice a xs.length c] 61)
  have hb1 : Below w.heap.size w ((w.alloc (Obj.cells #[Value.int .i64 W, Value.slice a xs.length c] 61)).alloc (Obj.cells #[Value.int .i64 0, Value.slice none 0 0] 61)) := Ba (Ba (Below.refl _ _) _) _
  have hA := (Blk.new w (.int .i64 W) (.slice a xs.length c) 61).alloc (Obj.cells #[Value.int .i64 0, Value.slice none 0 0] 61)
  have hR := Blk.new1 w (Obj.cells #[Value.int .i64 W, Value.slice a xs.length c] 61) (.int .i64 0) (.slice none 0 0) 61
  have hs1 : ((w.alloc (Obj.cells #[Value.int .i64 W, Value.slice a xs.length c] 61)).alloc (Obj.cells #[Value.int .i64 0, Value.slice none 0 0] 61)).heap.size = w.heap.size + 2 := by simp
  obtain ⟨hl, hx2, h | ⟨b, o, rfl, hc⟩⟩ := hr.later hb1
  · rw [h] at hx; simp at hx
  obtain ⟨a0, a1⟩ := hA.cells
  have HC := kide hc
  have HX := kide hx2
  go_enter Tryz.func106, Tryz.ntmps106
  go_wp2_with fail
  generalize ((w.alloc (Obj.cells #[Value.int .i64 W, Value.slice (some ⟨b, o, none⟩) xs.length c] 61)).alloc (Obj.cells #[Value.int .i64 0, Value.slice none 0 0] 61)) = w1 at *
  clear hc hx2 hr s0
  go_region_held_law (fun u => u.cell? ⟨w.heap.size, 0, none⟩ = some (Value.int IntKind.i64 W) ∧ u.cell? ⟨w.heap.size, 1, none⟩ = some (Value.slice (some { block := b, off := o }) xs.length c))
    (first | (refine ⟨?_, ?_⟩ <;> assumption) | (refine ⟨?_, ?_⟩ <;> (rw [World.cell?_setCell_far _ _ _ _ (by simp <;> omega), World.cell?_setCell_far _ _ _ _ (by simp <;> omega)]; assumption)))
    (first
      | (refine step_appWs _ rfl _ _ rfl w1.heap.size (.slice none 0 0) [] xs rfl (OwW.nils _ _) b o c rfl HC.out (by simp; omega) (Nat.le_refl _) ?_; intro v5 w5 how5 hgr5; have hb5 : Below w1.heap.size w1 w5 := kundrew ⟨hgr5.os, hgr5.tape, hgr5.output, hgr5.size, fun k hk => hgr5.block k hk (by simp [Value.ownBlock])⟩; rw [List.nil_append] at how5; obtain ⟨a5, c5, rfl, hn5⟩ := how5.shape; have hA5 := hA.next hb5; have hR5 := hR.next hb5; obtain ⟨a50, a51⟩ := hA5.cells; obtain ⟨r50, r51⟩ := hR5.cells; have f50 := frozen_of_row w5 _ 0 _ _ hR5; have f51 := frozen_of_row w5 _ 1 _ _ hR5))
  go_wp2
  obtain ⟨q0, q1⟩ := ((hR5.put0' (.int .i64 W)).put1' (.slice a5 xs.length c5)).cells
  exact bodyPost_ret (v := .agg #[.int .i64 W, .slice a5 xs.length c5]) (by simp [results, Tryz.results106, go_sem, q0, q1]) rfl (RetV.box hR5 hn5 (by omega) (by omega) (hb1.trans (hb5.mono (by omega))))

end Go.Proofs.YtdlmgndmfphneaaGreatDoor

/- What the given WidenBits answers. -/
namespace Go.Proofs.YtdlmgndmfphneaaGreatDoor
set_option linter.unusedVariables false
set_option linter.unusedSimpArgs false
open Go.RowKit

def topOf (V : Nat) (xs : List Nat) (sign : Bool) : Nat := if sign then (tb xs (V - 1)).toNat else 0
theorem topOf_le (V : Nat) (xs : List Nat) (sign : Bool) : topOf V xs sign ≤ 1 := by
  unfold topOf
  split
  · cases tb xs (V - 1) <;> decide
  · omega

def wdnR (W : Int) (xs : List Nat) (n : Int) (sign : Bool) : Int × List Nat × Bool :=
  if rightB W xs = true ∧ 0 ≤ n ∧ n ≤ 4096 ∧ W + n ≤ 4096 then (W + n, pack (bitsTo xs W.toNat ++ List.replicate n.toNat (topOf W.toNat xs sign)), true) else noR

set_option maxHeartbeats 1000000 in
set_option maxRecDepth 100000 in
theorem specWid_any (W : Int) (a : Option Addr) (c : Nat) (xs : List Nat) (n : Int) (sign : Bool) (w : World) (hr : Rd w a xs) :
    Calls Tryz.prog 112 #[.agg #[.int .i64 W, .slice a xs.length c], .int .i64 n, .bool sign] w (RetB w (wdnR W xs n sign)) := by
  have h2 : Below w.heap.size w ((w.alloc (Obj.cells #[Value.int IntKind.i64 W, Value.slice a xs.length c] 61)).alloc (Obj.cells #[Value.int IntKind.i64 0, Value.slice none 0 0] 61)) := ((Below.refl _ _).alloc (Nat.le_refl _) _).alloc (by simp) _
  have hr' := hr.later h2
  by_cases hc : rightB W xs = true ∧ 0 ≤ n ∧ n ≤ 4096
  · obtain ⟨hok, hn1, hn2⟩ := hc
    have hRR : wdnR W xs n sign = if W + n ≤ 4096 then (W + n, pack (bitsTo xs W.toNat ++ List.replicate n.toNat (topOf W.toNat xs sign)), true) else noR := by
      unfold wdnR; simp [hok, hn1, hn2]
    rw [hRR]
    generalize hR : (if W + n ≤ 4096 then (W + n, pack (bitsTo xs W.toNat ++ List.replicate n.toNat (topOf W.toNat xs sign)), true) else noR) = R
    have HR : Hid ((if W + n ≤ 4096 then (W + n, pack (bitsTo xs W.toNat ++ List.replicate n.toNat (topOf W.toNat xs sign)), true) else noR) = R) := hR
    clear hR hRR
    obtain ⟨hW1, hW2, hWl⟩ := right_W hok
    obtain ⟨V, rfl⟩ := Int.eq_ofNat_of_zero_le (show 0 ≤ W by omega)
    obtain ⟨m, rfl⟩ := Int.eq_ofNat_of_zero_le hn1
    have hVl : V ≤ 64 * xs.length := by omega
    have hd : decide (0 ≤ (m : Int) ∧ (m : Int) ≤ 4096) = true := by simp; omega
    have HWl : Hid ((xs.length : Int) = ((V : Int) + 63) / 64) := hWl
    clear hWl
    have ht := topOf_le V xs sign
    have hv0 : (0 : Int) ≤ (V : Int) - 1 := by omega
    have hv1 : (V : Int) - 1 < (V : Int) := by omega
    go_enter Tryz.func112, Tryz.ntmps112
    go_wp2_with fail
    refine (specOk_any _ _ _ _ _ hr').mono ?_
    rintro e w1 ⟨rfl, hb1⟩
    have hr1 := hr'.later hb1
    have HB1 := hb1
    obtain ⟨hcc, hff⟩ := bcell hb1
    have hz : w.heap.size + 1 < w1.heap.size := by have := hb1.size; simp at this; omega
    clear hb1
    go_wp2_with (go_at_call 24; refine (l1In_any _ _ _ _).mono ?_; rintro e w' ⟨rfl, rfl⟩)
    refine (l1List_any _ _ _ _ _ hr1 hVl (by omega)).mono ?_
    rintro e w2 ⟨v, rfl, how, hb2⟩
    have hlen := bitsTo_len xs V
    have hle := bitsTo_le xs V
    obtain ⟨a2, c2, rfl, hrb, hc2, hm2⟩ := how.shape (by rw [bitsTo_len]; omega) (fun x hx => by have := hle x hx; omega)
    have HB2 := chain HB1 hb2
    have hsz2 := hb2.size
    rw [hlen] at hc2 how ⊢
    obtain ⟨-, -, hn | ⟨bb, oo, rfl, hcell⟩⟩ := hrb
    · rw [hn] at hlen; simp at hlen; omega
    have htop : w2.cell? ⟨bb, oo + (V - 1), none⟩ = some (.int .u8 ((((tb xs (V - 1)).toNat : Nat)) : Int)) := by
      rw [hcell (V - 1) (by omega)]
      simp [List.getD, bitsTo, show V - 1 < V by omega]
    generalize hbs : bitsTo xs V = bs at *
    have HBS : Hid (bitsTo xs V = bs) := hbs
    have hbase : w'.heap.size + 1 ≤ w2.heap.size := by
      have := how.own bb rfl
      have hbb : bb < w2.heap.size := block_lt_of_cell htop
      omega
    have HB1s := HB1.size
    clear hbs hcell hb2 hr hr' hr1 hcc hff hz HB1
    cases sign with
    | false =>
      have HT : Hid (topOf V xs false = 0) := rfl
      go_wp2_with fail
      go_loopw [8, 10] (fun v i wr => ∃ k : Nat, k ≤ m ∧ i = .int .i64 k ∧ OwB wr (w'.heap.size + 1) v (bs ++ List.replicate k 0) ∧ Below (w'.heap.size + 1) w2 wr) (fun _ i _ => m - (intOf i).toNat)
      case atStart => exact ⟨0, Nat.zero_le _, rfl, by rw [List.replicate_zero, List.append_nil]; unfold OwB; rw [hlen]; unfold OwB at how; rw [hlen] at how; exact how, Below.refl _ _⟩
      case round =>
        obtain ⟨k, hk, rfl, hown, hbel⟩ := hrel
        by_cases hlt : k < m
        · have hsz := hbel.size
          have HS : Hid (bs ++ List.replicate (k + 1) 0 = (bs ++ List.replicate k 0) ++ [0]) := by show _ = _; rw [List.replicate_succ', List.append_assoc]
          have hll : (bs ++ List.replicate k 0).length ≤ 4194304 := by simp [hlen]; omega
          generalize bs ++ List.replicate k 0 = rk at *
          clear how htop
          go_wp2_with (at_builtin; refine wpList_appB _ rfl _ _ rfl (w'.heap.size + 1) _ rk 0 rfl (hown.alloc _) wr.heap.size rfl (by simp) hll (by simp; omega) ?_)
          intro v' w4 hown4 hgr4
          have hb4 : Below (w'.heap.size + 1) w2 w4 := (hbel.alloc (by omega) _).grown hgr4 (by simp; omega) hown.own
          clear hgr4 hown hbel
          go_wp2
          go_roundw
          case rel => exact ⟨k + 1, by omega, by go_num, by rw [HS.out]; exact hown4, hb4⟩
          case measure => simp [intOf]; omega
        · have e : k = m := by omega
          subst e
          have hrl : (bs ++ List.replicate k 0).length = V + k := by simp [hlen]
          have HBr := HB2.trans (hbel.mono (show _ ≤ w'.heap.size + 1 by have := HB1s; omega))
          obtain ⟨a4, c4, rfl, hrb4, hc4, hm4⟩ := hown.shape (by rw [hrl]; omega) (fun x hx => by
            rcases List.mem_append.1 hx with h | h
            · have := hle x h; omega
            · have := List.eq_of_mem_replicate h; rw [HT.out] at ht; omega)
          by_cases hVk : V + k ≤ 4096
          · have HQ : Hid ((((bs ++ List.replicate k 0).length : Int), pack (bs ++ List.replicate k 0), true) = R) := by
              show _ = _
              rw [← HR.out, if_pos (by omega), Int.toNat_natCast, Int.toNat_natCast, HBS.out, HT.out, hrl, Int.natCast_add]
            have hfrom := l1From_yes a4 c4 (bs ++ List.replicate k 0) wr hrb4 (by omega) (by omega)
            clear how hown hrb4 hbel HR HBS htop
            generalize bs ++ List.replicate k 0 = rk at *
            clear hrl
            go_wp2_with fail
            refine hfrom.mono ?_
            rintro e w5 ⟨a5, c5, rfl, hfr, hb5⟩
            have HB5 := chain HBr hb5
            obtain ⟨hcc, hff⟩ := bcell HB5
            have hz5 : w.heap.size + 1 < w5.heap.size := by have := HB5.size; simp at this; omega
            have hzr : w.heap.size + 1 < wr.heap.size := by have := HBr.size; simp at this; omega
            dsimp only at hfr ⊢
            clear hfrom
            go_wp2
            exact bodyPost_ret (by simp [results, Tryz.results112, go_sem, hcc, hz5]; rfl) rfl (RetB.close (r := ((rk.length : Int), pack rk, true)) hfr (by omega) hzr (h2.trans (HB5.mono (by simp; omega))) HQ.out _ _)
          · have HQ : Hid (noR = R) := by show _ = _; rw [← HR.out, if_neg (by omega)]
            have hfrom := l1From_no a4 (bs ++ List.replicate k 0).length c4 wr (.inr (by omega)) (by omega)
            clear how hown hrb4 hbel HR HBS htop
            generalize bs ++ List.replicate k 0 = rk at *
            clear hrl
            go_wp2_with fail
            refine hfrom.mono ?_
            rintro e w5 ⟨rfl, hb5⟩
            have HB5 := chain HBr hb5
            obtain ⟨hcc, hff⟩ := bcell HB5
            have hz5 : w.heap.size + 1 < w5.heap.size := by have := HB5.size; simp at this; omega
            clear hfrom
            go_wp2
            refine bodyPost_ret (v := .tuple #[.agg #[.int .i64 0, .slice none 0 0], .bool false]) (by simp [results, Tryz.results112, go_sem, hcc]) rfl ?_
            rw [← HQ.out]
            exact RetB.no (((h2.trans (HB5.mono (by simp; omega))).setCell (by simp) _).setCell (by simp) _)
    | true =>
      have HT : Hid (topOf V xs true = (tb xs (V - 1)).toNat) := rfl
      generalize (tb xs (V - 1)).toNat = t at *
      go_wp2_with fail
      go_loopw [8, 10] (fun v i wr => ∃ k : Nat, k ≤ m ∧ i = .int .i64 k ∧ OwB wr (w'.heap.size + 1) v (bs ++ List.replicate k t) ∧ Below (w'.heap.size + 1) w2 wr) (fun _ i _ => m - (intOf i).toNat)
      case atStart => exact ⟨0, Nat.zero_le _, rfl, by rw [List.replicate_zero, List.append_nil]; unfold OwB; rw [hlen]; unfold OwB at how; rw [hlen] at how; exact how, Below.refl _ _⟩
      case round =>
        obtain ⟨k, hk, rfl, hown, hbel⟩ := hrel
        by_cases hlt : k < m
        · have hsz := hbel.size
          have HS : Hid (bs ++ List.replicate (k + 1) t = (bs ++ List.replicate k t) ++ [t]) := by show _ = _; rw [List.replicate_succ', List.append_assoc]
          have hll : (bs ++ List.replicate k t).length ≤ 4194304 := by simp [hlen]; omega
          generalize bs ++ List.replicate k t = rk at *
          clear how htop
          go_wp2_with (at_builtin; refine wpList_appB _ rfl _ _ rfl (w'.heap.size + 1) _ rk t rfl (hown.alloc _) wr.heap.size rfl (by simp) hll (by simp; omega) ?_)
          intro v' w4 hown4 hgr4
          have hb4 : Below (w'.heap.size + 1) w2 w4 := (hbel.alloc (by omega) _).grown hgr4 (by simp; omega) hown.own
          clear hgr4 hown hbel
          go_wp2
          go_roundw
          case rel => exact ⟨k + 1, by omega, by go_num, by rw [HS.out]; exact hown4, hb4⟩
          case measure => simp [intOf]; omega
        · have e : k = m := by omega
          subst e
          have hrl : (bs ++ List.replicate k t).length = V + k := by simp [hlen]
          have HBr := HB2.trans (hbel.mono (show _ ≤ w'.heap.size + 1 by have := HB1s; omega))
          obtain ⟨a4, c4, rfl, hrb4, hc4, hm4⟩ := hown.shape (by rw [hrl]; omega) (fun x hx => by
            rcases List.mem_append.1 hx with h | h
            · have := hle x h; omega
            · have := List.eq_of_mem_replicate h; rw [HT.out] at ht; omega)
          by_cases hVk : V + k ≤ 4096
          · have HQ : Hid ((((bs ++ List.replicate k t).length : Int), pack (bs ++ List.replicate k t), true) = R) := by
              show _ = _
              rw [← HR.out, if_pos (by omega), Int.toNat_natCast, Int.toNat_natCast, HBS.out, HT.out, hrl, Int.natCast_add]
            have hfrom := l1From_yes a4 c4 (bs ++ List.replicate k t) wr hrb4 (by omega) (by omega)
            clear how hown hrb4 hbel HR HBS htop
            generalize bs ++ List.replicate k t = rk at *
            clear hrl
            go_wp2_with fail
            refine hfrom.mono ?_
            rintro e w5 ⟨a5, c5, rfl, hfr, hb5⟩
            have HB5 := chain HBr hb5
            obtain ⟨hcc, hff⟩ := bcell HB5
            have hz5 : w.heap.size + 1 < w5.heap.size := by have := HB5.size; simp at this; omega
            have hzr : w.heap.size + 1 < wr.heap.size := by have := HBr.size; simp at this; omega
            dsimp only at hfr ⊢
            clear hfrom
            go_wp2
            exact bodyPost_ret (by simp [results, Tryz.results112, go_sem, hcc, hz5]; rfl) rfl (RetB.close (r := ((rk.length : Int), pack rk, true)) hfr (by omega) hzr (h2.trans (HB5.mono (by simp; omega))) HQ.out _ _)
          · have HQ : Hid (noR = R) := by show _ = _; rw [← HR.out, if_neg (by omega)]
            have hfrom := l1From_no a4 (bs ++ List.replicate k t).length c4 wr (.inr (by omega)) (by omega)
            clear how hown hrb4 hbel HR HBS htop
            generalize bs ++ List.replicate k t = rk at *
            clear hrl
            go_wp2_with fail
            refine hfrom.mono ?_
            rintro e w5 ⟨rfl, hb5⟩
            have HB5 := chain HBr hb5
            obtain ⟨hcc, hff⟩ := bcell HB5
            have hz5 : w.heap.size + 1 < w5.heap.size := by have := HB5.size; simp at this; omega
            clear hfrom
            go_wp2
            refine bodyPost_ret (v := .tuple #[.agg #[.int .i64 0, .slice none 0 0], .bool false]) (by simp [results, Tryz.results112, go_sem, hcc]) rfl ?_
            rw [← HQ.out]
            exact RetB.no (((h2.trans (HB5.mono (by simp; omega))).setCell (by simp) _).setCell (by simp) _)
  · have hnR : wdnR W xs n sign = noR := by
      unfold wdnR
      rw [if_neg]
      rintro ⟨h1, h3, h4, _⟩
      exact hc ⟨h1, h3, h4⟩
    rw [hnR]
    have hcase : rightB W xs = false ∨ (rightB W xs = true ∧ decide (0 ≤ n ∧ n ≤ 4096) = false) := by
      cases hb : rightB W xs with
      | false => exact .inl rfl
      | true =>
        right
        refine ⟨rfl, ?_⟩
        by_cases h : 0 ≤ n ∧ n ≤ 4096
        · exact absurd ⟨hb, h.1, h.2⟩ hc
        · simp only [h, decide_false]
    clear hc hnR
    rcases hcase with h | ⟨h, h1⟩
    · go_enter Tryz.func112, Tryz.ntmps112
      go_wp2_with fail
      refine (specOk_any _ _ _ _ _ hr').mono ?_
      rintro e w1 ⟨rfl, hb1⟩
      obtain ⟨hcc, hff⟩ := bcell hb1
      have hz : w.heap.size + 1 < w1.heap.size := by have := hb1.size; simp at this; omega
      go_wp2_with (go_at_call 24; refine (l1In_any _ _ _ _).mono ?_; rintro e w' ⟨rfl, rfl⟩)
      exact bodyPost_ret (v := .tuple #[.agg #[.int .i64 0, .slice none 0 0], .bool false]) (by simp [results, Tryz.results112, go_sem, hcc]) rfl (RetB.no (((h2.trans (hb1.mono (by simp; omega))).setCell (by simp) _).setCell (by simp) _))
    · go_enter Tryz.func112, Tryz.ntmps112
      go_wp2_with fail
      refine (specOk_any _ _ _ _ _ hr').mono ?_
      rintro e w1 ⟨rfl, hb1⟩
      obtain ⟨hcc, hff⟩ := bcell hb1
      have hz : w.heap.size + 1 < w1.heap.size := by have := hb1.size; simp at this; omega
      go_wp2_with (go_at_call 24; refine (l1In_any _ _ _ _).mono ?_; rintro e w' ⟨rfl, rfl⟩)
      exact bodyPost_ret (v := .tuple #[.agg #[.int .i64 0, .slice none 0 0], .bool false]) (by simp [results, Tryz.results112, go_sem, hcc]) rfl (RetB.no (((h2.trans (hb1.mono (by simp; omega))).setCell (by simp) _).setCell (by simp) _))

end Go.Proofs.YtdlmgndmfphneaaGreatDoor

/- What the given JoinBits answers. -/
namespace Go.Proofs.YtdlmgndmfphneaaGreatDoor
set_option linter.unusedVariables false
set_option linter.unusedSimpArgs false
open Go.RowKit

theorem l1From_any (a : Option Addr) (c : Nat) (bs : List Nat) (w : World) (hr : RdB w a bs) :
    Calls Tryz.prog 85 #[.slice a bs.length c] w (RetB w (fromR bs)) := by
  by_cases h : 1 ≤ bs.length ∧ bs.length ≤ 4096
  · rw [fromR, if_pos h]; exact l1From_yes a c bs w hr h.1 h.2
  · rw [fromR, if_neg h]
    refine (l1From_no a bs.length c w (by omega) hr.1).mono ?_
    rintro e w' ⟨rfl, hb⟩
    exact RetB.no hb

/-- The bits of two rows, the lower one's first. -/
def joinL (W : Int) (xs : List Nat) (V : Int) (ys : List Nat) : List Nat := bitsTo ys V.toNat ++ bitsTo xs W.toNat

def joinR (W : Int) (xs : List Nat) (V : Int) (ys : List Nat) : Int × List Nat × Bool :=
  if rightB W xs = true ∧ rightB V ys = true then fromR (joinL W xs V ys) else noR

/-- 'append(out, list...)' at a step of a region that draws its order. -/
theorem step_appBs (w : World) {ops : Array Oper} {o : Oper} {a : Act} {K : Act → World → Prop} {Q : Exit → Act → World → Prop} {E : Prop} (hgd : o.guard = none) (s x : Operand)
    (ho : o.op = .call { callee := .builtin .append, args := #[s, x], argTypes := #[104, 104] })
    (base : Nat) (v : Value) (bs ys : List Nat) (hs : a.eval s = v) (hown : OwB w base v bs) (b ob c : Nat) (hx : a.eval x = .slice (some ⟨b, ob, none⟩) ys.length c)
    (hc : ∀ i, i < ys.length → w.cell? ⟨b, ob + i, none⟩ = some (.int .u8 ((ys.getD i 0 : Nat) : Int))) (hl : bs.length + ys.length ≤ 4194304) (hbase : base ≤ w.heap.size)
    (h : ∀ v' w', OwB w' base v' (bs ++ ys) → w.grownBy w' v.ownBlock → K (a.put o.dst v') w') :
    if Region.wanted o (yielded ops a.tmps) = true then Oper.wp Tryz.prog o a w K Q else E := by
  have hw : Region.wanted o (yielded ops a.tmps) = true := by simp [Region.wanted, hgd]
  rw [if_pos hw]
  obtain ⟨i0, hi, hz0, hz1, hz2⟩ := info_parts Tryz.infoU8
  refine wp_append_own w s x 104 ho base 5 i0 (.int .u8 0) 1 1 Tryz.underlying104 hi hz0 hz1 hz2 rfl (by decide) v bs.length (u8s bs) hs hown ⟨b, ob, none⟩ ys.length c (u8s ys) hx (by simp [u8s]) ?_ ?_ ?_ ?_ hbase ?_
  · intro j u hj
    have hj' : j < ys.length := by
      have := (List.getElem?_eq_some_iff.1 hj).1
      simpa [u8s] using this
    rw [Addr.add_lit, hc j hj']
    simp [u8s, hj'] at hj
    rw [← hj]
    simp [List.getD, hj']
  · intro u hu
    obtain ⟨_, _, rfl⟩ := List.mem_map.1 hu
    rfl
  · unfold maxLen; omega
  · omega
  · intro v' w' h1 h2 _
    refine h v' w' ?_ h2
    unfold OwB
    simpa [u8s] using h1

theorem undrewG {w w' : World} (h : Below w.drew.heap.size w.drew w') : Below w.heap.size w w' := ⟨h.os, h.tape, h.output, h.size, h.block⟩
theorem OwB.undrew {w w' : World} {v : Value} {bs : List Nat} (h : OwB w' (w.drew.heap.size + 1) v bs) : OwB w' (w.heap.size + 1) v bs := h

set_option maxHeartbeats 2000000 in
set_option maxRecDepth 100000 in
theorem specJoin_any (W : Int) (a : Option Addr) (c : Nat) (xs : List Nat) (V : Int) (b : Option Addr) (d : Nat) (ys : List Nat) (w : World) (hr : Rd w a xs) (hs : Rd w b ys) :
    Calls Tryz.prog 110 #[.agg #[.int .i64 W, .slice a xs.length c], .agg #[.int .i64 V, .slice b ys.length d]] w (RetB w (joinR W xs V ys)) := by
  have h3 : Below w.heap.size w (((w.alloc (Obj.cells #[Value.int IntKind.i64 W, Value.slice a xs.length c] 61)).alloc (Obj.cells #[Value.int IntKind.i64 V, Value.slice b ys.length d] 61)).alloc (Obj.cells #[Value.int IntKind.i64 0, Value.slice none 0 0] 61)) := Ba (Ba (Ba (Below.refl _ _) _) _) _
  have hr' := hr.later h3
  have hs' := hs.later h3
  have bR0 := Blk.new2 w (Obj.cells #[Value.int IntKind.i64 W, Value.slice a xs.length c] 61) (Obj.cells #[Value.int IntKind.i64 V, Value.slice b ys.length d] 61) (Value.int IntKind.i64 0) (Value.slice none 0 0) 61
  have bB0 := (Blk.new1 w (Obj.cells #[Value.int IntKind.i64 W, Value.slice a xs.length c] 61) (Value.int IntKind.i64 V) (Value.slice b ys.length d) 61).alloc (Obj.cells #[Value.int IntKind.i64 0, Value.slice none 0 0] 61)
  have bA0 := ((Blk.new w (Value.int IntKind.i64 W) (Value.slice a xs.length c) 61).alloc (Obj.cells #[Value.int IntKind.i64 V, Value.slice b ys.length d] 61)).alloc (Obj.cells #[Value.int IntKind.i64 0, Value.slice none 0 0] 61)
  have hOk : ∀ (W : Int) (a : Option Addr) (c : Nat) (xs : List Nat) (u : World) (r : Bool), rightB W xs = r → Rd u a xs → Calls Tryz.prog 83 #[.agg #[.int .i64 W, .slice a xs.length c]] u fun e w' => e = .returned (.bool r) ∧ Below u.heap.size u w' := fun W a c xs u r h hu => by
    have := specOk_any W a c xs u hu
    rwa [h] at this
  have HOK : Hid _ := hOk
  clear hOk
  cases hoa : rightB W xs with
  | false =>
    have hc : joinR W xs V ys = noR := by unfold joinR; simp [hoa]
    rw [hc]
    go_enter Tryz.func110, Tryz.ntmps110
    go_wp2_with fail
    refine (HOK.out _ _ _ _ _ _ hoa hr').mono ?_
    rintro e w3 ⟨rfl, hb3⟩
    have B3 := chain h3 hb3
    have bR3 := bR0.next hb3
    obtain ⟨r0, r1⟩ := bR3.cells
    have f0 := bR3.free 0
    have f1 := bR3.free 1
    go_wp2
    exact bodyPost_ret (v := .tuple #[.agg #[.int .i64 0, .slice none 0 0], .bool false]) (by simp [results, Tryz.results110, go_sem, r0, r1]) rfl (RetB.no ((B3.setCell (by simp; omega) _).setCell (by simp; omega) _))
  | true =>
    obtain ⟨c0, c1⟩ := bA0.cells
    obtain ⟨d0, d1⟩ := bB0.cells
    cases hob : rightB V ys with
    | false =>
      have hc : joinR W xs V ys = noR := by unfold joinR; simp [hob]
      rw [hc]
      go_enter Tryz.func110, Tryz.ntmps110
      go_wp2_with fail
      refine (HOK.out _ _ _ _ _ _ hoa hr').mono ?_
      rintro e w3 ⟨rfl, hb3⟩
      have B3 := chain h3 hb3
      have bB3 := bB0.next hb3
      obtain ⟨l0, l1⟩ := bB3.cells
      go_wp2_with fail
      refine (HOK.out _ _ _ _ _ _ hob (hs'.later hb3)).mono ?_
      rintro e w4 ⟨rfl, hb4⟩
      have B4 := chain B3 hb4
      have bR4 := (bR0.next hb3).next hb4
      obtain ⟨r0, r1⟩ := bR4.cells
      have f0 := bR4.free 0
      have f1 := bR4.free 1
      go_wp2
      exact bodyPost_ret (v := .tuple #[.agg #[.int .i64 0, .slice none 0 0], .bool false]) (by simp [results, Tryz.results110, go_sem, r0, r1]) rfl (RetB.no ((B4.setCell (by simp; omega) _).setCell (by simp; omega) _))
    | true =>
      have hc : joinR W xs V ys = fromR (joinL W xs V ys) := by unfold joinR; simp [hoa, hob]
      rw [hc]
      clear hc
      obtain ⟨hW1, hW2, hWl⟩ := right_W hoa
      obtain ⟨hV1, hV2, hVl⟩ := right_W hob
      obtain ⟨P, rfl⟩ := Int.eq_ofNat_of_zero_le (show 0 ≤ W by omega)
      obtain ⟨q, rfl⟩ := Int.eq_ofNat_of_zero_le (show 0 ≤ V by omega)
      have hPl : P ≤ 64 * xs.length := by omega
      have hql : q ≤ 64 * ys.length := by omega
      clear hWl hVl
      have HJ : Hid (joinL (P : Int) xs (q : Int) ys = bitsTo ys q ++ bitsTo xs P) := rfl
      have hlx := bitsTo_len xs P
      have hly := bitsTo_len ys q
      have hbx := bitsTo_le xs P
      have hby := bitsTo_le ys q
      generalize joinL (P : Int) xs (q : Int) ys = J at *
      have hLX : ∀ u : World, Rd u a xs → Calls Tryz.prog 144 #[.agg #[.int .i64 P, .slice a xs.length c]] u fun e w' => ∃ v, e = .returned v ∧ OwB w' (u.heap.size + 1) v (bitsTo xs P) ∧ Below u.heap.size u w' := fun u hu => l1List_any P a c xs u hu hPl (by omega)
      have hLY : ∀ u : World, Rd u b ys → Calls Tryz.prog 144 #[.agg #[.int .i64 q, .slice b ys.length d]] u fun e w' => ∃ v, e = .returned v ∧ OwB w' (u.heap.size + 1) v (bitsTo ys q) ∧ Below u.heap.size u w' := fun u hu => l1List_any q b d ys u hu hql (by omega)
      have HLX : Hid _ := hLX
      have HLY : Hid _ := hLY
      clear hLX hLY
      go_enter Tryz.func110, Tryz.ntmps110
      go_wp2_with fail
      refine (HOK.out _ _ _ _ _ _ hoa hr').mono ?_
      rintro e w3 ⟨rfl, hb3⟩
      have B3 := chain h3 hb3
      have bB3 := bB0.next hb3
      obtain ⟨l0, l1⟩ := bB3.cells
      go_wp2_with fail
      refine (HOK.out _ _ _ _ _ _ hob (hs'.later hb3)).mono ?_
      rintro e w4 ⟨rfl, hb4⟩
      have B4 := chain B3 hb4
      have bA4 := (bA0.next hb3).next hb4
      have bB4 := (bB0.next hb3).next hb4
      have bR4 := (bR0.next hb3).next hb4
      clear hb3 hb4 B3 bB3 l0 l1 c0 c1 d0 d1 bA0 bB0 bR0 h3 hr' hs' HOK
      obtain ⟨k0, k1⟩ := bA4.cells
      obtain ⟨l0, l1⟩ := bB4.cells
      have r4 := hr.later B4
      have s4 := hs.later B4
      generalize bitsTo xs P = bx at *
      generalize bitsTo ys q = by_ at *
      have hxp : 0 < bx.length := by omega
      have hll : by_.length + bx.length ≤ 4194304 := by omega
      have hbb : ∀ x ∈ by_ ++ bx, x < 256 := fun x hx => by rcases List.mem_append.1 hx with h | h; · have := hby x h; omega
                                                            · have := hbx x h; omega
      have hJl : J.length ≤ 4194304 := by rw [HJ.out, List.length_append]; exact hll
      have hJb : ∀ x ∈ J, x < 256 := by rw [HJ.out]; exact hbb
      clear hlx hly hbb
      go_wp2_with fail
      go_region_held_law (fun u => u.cell? ⟨w.heap.size, 0, none⟩ = some (Value.int IntKind.i64 P) ∧ u.cell? ⟨w.heap.size, 1, none⟩ = some (Value.slice a xs.length c) ∧ u.cell? ⟨w.heap.size + 1, 0, none⟩ = some (Value.int IntKind.i64 q) ∧ u.cell? ⟨w.heap.size + 1, 1, none⟩ = some (Value.slice b ys.length d)) (first | (simp [*]; done) | (refine ⟨?_, ?_, ?_, ?_⟩ <;> rw [World.cell?_setCell_far _ _ _ _ (by simp <;> omega), World.cell?_setCell_far _ _ _ _ (by simp <;> omega)] <;> assumption))
        (first
          | (go_at_call_of 144 ys; refine (HLY.out _ ?_).mono ?_; exact s4; rintro e w5 ⟨v5, rfl, how5, hb5⟩; replace hb5 := undrewG hb5; replace how5 := OwB.undrew how5; have bA5 := bA4.next hb5; have bB5 := bB4.next hb5; obtain ⟨m0, m1⟩ := bA5.cells; obtain ⟨n0, n1⟩ := bB5.cells)
          | (go_at_call_of 144 xs; refine (HLX.out _ (r4.later hb5)).mono ?_; rintro e w6 ⟨v6, rfl, how6, hb6⟩; have bA6 := bA5.next hb6; have bB6 := bB5.next hb6; obtain ⟨p0, p1⟩ := bA6.cells; obtain ⟨q0, q1⟩ := bB6.cells; obtain ⟨a6, c6, rfl, hrb6, -, -⟩ := how6.shape (by have := hxp; omega) (fun x hx => by have := hbx x hx; omega); obtain ⟨bb, oo, rfl, hcell⟩ := hrb6.2.2.resolve_left (fun h => by rw [h] at hxp; simp at hxp))
          | (go_at_call 85; refine (l1From_any _ _ _ _ hrb7).mono ?_; rintro e w8 ⟨a8, c8, rfl, hfr8, hb8⟩; have hb9 := chain hb7 hb8; have bR8 := bR4.next hb9; obtain ⟨r0, r1⟩ := bR8.cells; have f0 := bR8.free 0; have f1 := bR8.free 1; have bA8 := bA4.next hb9; have bB8 := bB4.next hb9; obtain ⟨u0, u1⟩ := bA8.cells; obtain ⟨v0, v1⟩ := bB8.cells)
          | (refine step_appBs _ rfl _ _ rfl (w4.heap.size + 1) _ by_ bx rfl (how5.kept hb6) bb oo c6 rfl hcell hll (by have h1 := how6.own bb rfl; have h2 := block_lt_of_cell (hcell 0 hxp); have h3 := hb5.size; simp at h2; omega) ?_; intro v7 w7 how7 hgr7; rw [← HJ.out] at how7; have hb7 : Below w4.heap.size w4 w7 := (chain hb5 hb6).grown hgr7 (chain hb5 hb6).size (fun k hk => by have := how5.own k hk; omega); have bA7 := bA4.next hb7; have bB7 := bB4.next hb7; obtain ⟨s0, s1⟩ := bA7.cells; obtain ⟨t0, t1⟩ := bB7.cells; obtain ⟨a7, c7, rfl, hrb7, -, -⟩ := how7.shape hJl hJb))
      have B8 := chain B4 hb9
      have s4 := bR4.lt
      have s7 := hb7.size
      go_wp2
      exact bodyPost_ret (by simp [results, Tryz.results110, go_sem, r0, r1]; rfl) rfl (RetB.close (r := fromR J) hfr8 (by omega) (by omega) B8 rfl _ _)

end Go.Proofs.YtdlmgndmfphneaaGreatDoor

/- A row of bytes of one's own: written, read; small lemmas. -/
namespace Go.Proofs.YtdlmgndmfphneaaGreatDoor
set_option linter.unusedVariables false
set_option linter.unusedSimpArgs false
open Go.RowKit

theorem OwB.put {w : World} {base g cap : Nat} {bs : List Nat} (h : OwB w base (.slice (some ⟨g, 0, none⟩) bs.length cap) bs) (j y : Nat) : OwB (w.setCell ⟨g, j, none⟩ (.int .u8 (y : Int))) base (.slice (some ⟨g, 0, none⟩) bs.length cap) (bs.set j y) := by
  have := (World.ownsRow.stored h j (.int .u8 (y : Int))).1
  unfold OwB
  rw [List.length_set]
  have e : (u8s bs).set j (.int .u8 (y : Int)) = u8s (bs.set j y) := by simp [u8s, List.map_set]
  rw [e] at this
  exact this

theorem OwB.block {w : World} {base : Nat} {v : Value} {bs : List Nat} (h : OwB w base v bs) (hp : 0 < bs.length) : ∃ g cap, v = .slice (some ⟨g, 0, none⟩) bs.length cap ∧ base ≤ g ∧ g < w.heap.size ∧ bs.length ≤ cap := by
  obtain ⟨h1, ⟨rfl, h2⟩ | ⟨g, cap, cur, rfl, hg, hh, hc1, hc2, hsz, hcur⟩⟩ := h
  · omega
  · exact ⟨g, cap, rfl, hg, lt_of_block hh, hc1⟩

theorem OwB.cellAt {w : World} {base g cap : Nat} {bs : List Nat} (h : OwB w base (.slice (some ⟨g, 0, none⟩) bs.length cap) bs) (j : Nat) (hj : j < bs.length) : w.cell? ⟨g, j, none⟩ = some (.int .u8 ((bs.getD j 0 : Nat) : Int)) := by
  rw [World.ownsRow.cellAt h j (by omega)]
  simp [u8s, List.getD, hj]
theorem OwB.freeAt {w : World} {base g cap : Nat} {bs : List Nat} (h : OwB w base (.slice (some ⟨g, 0, none⟩) bs.length cap) bs) (j : Nat) : w.frozen? ⟨g, j, none⟩ = false := World.ownsRow.frozenAt h j

theorem flip_set (bs : List Nat) (k y : Nat) (h : k < bs.length) : (List.replicate k 0 ++ bs.drop k).set k y = List.replicate k 0 ++ y :: bs.drop (k + 1) := by
  rw [List.set_append_right _ _ (by simp)]
  simp only [List.length_replicate, Nat.sub_self]
  rw [List.drop_eq_getElem_cons h, List.set_cons_zero]


end Go.Proofs.YtdlmgndmfphneaaGreatDoor

/- What the two BitsOf answer. -/
namespace Go.Proofs.YtdlmgndmfphneaaGreatDoor
set_option linter.unusedVariables false
set_option linter.unusedSimpArgs false
open Go.RowKit

def nBits (n k : Nat) : List Nat := (List.range k).map fun i => n / 2 ^ i % 2
theorem nBits_len (n k : Nat) : (nBits n k).length = k := by simp [nBits]
theorem nBits_succ (n k : Nat) : nBits n (k + 1) = nBits n k ++ [n / 2 ^ k % 2] := by simp [nBits, List.range_succ]
theorem nBits_le (n k : Nat) : ∀ x ∈ nBits n k, x ≤ 1 := by
  intro x hx
  obtain ⟨i, _, rfl⟩ := List.mem_map.1 hx
  omega

def ofR (W n : Int) : Int × List Nat × Bool :=
  if 1 ≤ W ∧ W ≤ 4096 ∧ 0 ≤ n ∧ n.toNat < 2 ^ W.toNat then (W, pack (nBits n.toNat W.toNat), true) else noR

theorem div2 (m k : Nat) : m / 2 ^ k / 2 = m / 2 ^ (k + 1) := by rw [Nat.div_div_eq_div_mul, Nat.pow_succ]

set_option maxHeartbeats 1000000 in
set_option maxRecDepth 100000 in
theorem specOf_any (W n : Int) (w : World) (hn64 : n ≤ 9223372036854775807) :
    Calls Tryz.prog 46 #[.int .i64 W, .int .i64 n] w (RetB w (ofR W n)) := by
  have bR0 := Blk.new w (Value.int IntKind.i64 0) (Value.slice none 0 0) 61
  by_cases hc : 1 ≤ W ∧ W ≤ 4096 ∧ 0 ≤ n
  · obtain ⟨hW1, hW2, hn0⟩ := hc
    have hRR : ofR W n = if n.toNat < 2 ^ W.toNat then (W, pack (nBits n.toNat W.toNat), true) else noR := by
      unfold ofR; simp [hW1, hW2, hn0]
    rw [hRR]
    generalize hR : (if n.toNat < 2 ^ W.toNat then (W, pack (nBits n.toNat W.toNat), true) else noR) = R
    have HR : Hid ((if n.toNat < 2 ^ W.toNat then (W, pack (nBits n.toNat W.toNat), true) else noR) = R) := hR
    clear hR hRR
    obtain ⟨V, rfl⟩ := Int.eq_ofNat_of_zero_le (show 0 ≤ W by omega)
    obtain ⟨m, rfl⟩ := Int.eq_ofNat_of_zero_le hn0
    have hd : decide (1 ≤ (V : Int) ∧ (V : Int) ≤ 4096) = true := by simp; omega
    go_enter Tryz.func46, Tryz.ntmps46
    go_wp2_with (go_at_call 24; refine (l1In_any _ _ _ _).mono ?_; rintro e w' ⟨rfl, rfl⟩)
    have bR1 := bR0.alloc (Obj.cells #[] 5)
    have how := OwB.nil (w.alloc (Obj.cells #[Value.int IntKind.i64 0, Value.slice none 0 0] 61)) (w.heap.size + 1) (w.heap.size + 1) (by simp) (Nat.le_refl _)
    have B1 := Ba (Ba (Below.refl _ w) (Obj.cells #[Value.int IntKind.i64 0, Value.slice none 0 0] 61)) (Obj.cells #[] 5)
    generalize (w.alloc (Obj.cells #[Value.int IntKind.i64 0, Value.slice none 0 0] 61)).alloc (Obj.cells #[] 5) = w1 at *
    go_loopw [1, 6, 7] (fun q v i wr => ∃ k : Nat, k ≤ V ∧ i = .int .i64 k ∧ q = .int .i64 ((m / 2 ^ k : Nat) : Int) ∧ OwB wr (w.heap.size + 1) v (nBits m k) ∧ Blk wr w.heap.size (Value.int IntKind.i64 0) (Value.slice none 0 0) 61 ∧ Below w.heap.size w wr) (fun _ _ i _ => V - (intOf i).toNat)
    case atStart => exact ⟨0, Nat.zero_le _, rfl, by simp, how, bR1, B1⟩
    case round =>
      obtain ⟨k, hk, rfl, rfl, hown, bR, B⟩ := hrel
      have hml : m / 2 ^ k ≤ 9223372036854775807 := Nat.le_trans (Nat.div_le_self _ _) (by omega)
      by_cases hlt : k < V
      · have hsz := bR.lt
        have HS : Hid (nBits m (k + 1) = nBits m k ++ [m / 2 ^ k % 2]) := nBits_succ m k
        have HD : Hid (m / 2 ^ k / 2 = m / 2 ^ (k + 1)) := div2 m k
        have hll : (nBits m k).length ≤ 4194304 := by rw [nBits_len]; omega
        generalize nBits m k = rk at *
        generalize m / 2 ^ k = z at *
        clear how bR1 B1 bR0
        go_wp2_with (at_builtin; refine wpList_appB _ rfl _ _ rfl (w.heap.size + 1) _ rk (z % 2) rfl (hown.alloc _) wr.heap.size rfl (by simp) hll (by simp; omega) ?_)
        intro v' w4 hown4 hgr4
        have hne4 : ∀ k, u6.ownBlock = some k → w.heap.size + 1 ≤ k := hown.own
        have bR4 : Blk w4 w.heap.size (Value.int IntKind.i64 0) (Value.slice none 0 0) 61 := by
          unfold Blk
          rw [hgr4.block _ (by simp; omega) (fun e => by have := hne4 _ e.symm; omega)]
          exact bR.alloc _
        have B4 : Below w.heap.size w w4 := (Ba B _).grown hgr4 (by simp; omega) (fun k hk => by have := hne4 k hk; omega)
        clear hgr4 hown bR B
        go_wp2
        go_roundw
        case rel => exact ⟨k + 1, by omega, by go_num, by rw [← HD.out]; simp, by rw [HS.out]; exact hown4, bR4, B4⟩
        case measure => simp [intOf]; omega
      · have e : k = V := by omega
        subst e
        have hrl := nBits_len m k
        obtain ⟨a4, c4, rfl, hrb4, hc4, hm4⟩ := hown.shape (by rw [hrl]; omega) (fun x hx => by have := nBits_le m k x hx; omega)
        obtain ⟨r0, r1⟩ := bR.cells
        have f0 := bR.free 0
        have f1 := bR.free 1
        have hbl := bR.lt
        by_cases hlt2 : m < 2 ^ k
        · have hz : m / 2 ^ k = 0 := Nat.div_eq_of_lt hlt2
          have HQ : Hid ((((nBits m k).length : Int), pack (nBits m k), true) = R) := by
            show _ = _
            rw [← HR.out, Int.toNat_natCast, Int.toNat_natCast, if_pos hlt2, hrl]
          have hfrom := l1From_yes a4 c4 (nBits m k) wr hrb4 (by omega) (by omega)
          rw [hz]
          clear how hown hrb4 HR hz hml hlt2
          generalize nBits m k = rk at *
          clear hrl
          go_wp2_with fail
          refine hfrom.mono ?_
          rintro e w5 ⟨a5, c5, rfl, hfr, hb5⟩
          have bR5 := bR.next hb5
          have B5 := chain B hb5
          clear r0 r1 f0 f1
          obtain ⟨r0, r1⟩ := bR5.cells
          have f0 := bR5.free 0
          have f1 := bR5.free 1
          dsimp only at hfr ⊢
          clear hfrom
          go_wp2
          exact bodyPost_ret (by simp [results, Tryz.results46, go_sem, r0, r1]; rfl) rfl (RetB.close (r := ((rk.length : Int), pack rk, true)) hfr (Nat.le_refl _) hbl B5 HQ.out _ _)
        · have HQ : Hid (noR = R) := by show _ = _; rw [← HR.out, Int.toNat_natCast, Int.toNat_natCast, if_neg hlt2]
          have hz : 0 < m / 2 ^ k := Nat.div_pos (by omega) (Nat.two_pow_pos k)
          generalize m / 2 ^ k = z at *
          have hzi : (0 : Int) < (z : Int) := by omega
          clear how hown hrb4 HR
          go_wp2
          refine bodyPost_ret (v := .tuple #[.agg #[.int .i64 0, .slice none 0 0], .bool false]) (by simp [results, Tryz.results46, go_sem, r0, r1]) rfl ?_
          rw [← HQ.out]
          exact RetB.no ((B.setCell (Nat.le_refl _) _).setCell (Nat.le_refl _) _)
  · have hnR : ofR W n = noR := by
      unfold ofR
      rw [if_neg]
      rintro ⟨h1, h2, h3, _⟩
      exact hc ⟨h1, h2, h3⟩
    rw [hnR]
    have hcase : decide (1 ≤ W ∧ W ≤ 4096) = false ∨ (decide (1 ≤ W ∧ W ≤ 4096) = true ∧ n < 0) := by
      by_cases h : 1 ≤ W ∧ W ≤ 4096
      · right; exact ⟨by simp [h], by omega⟩
      · left; simp only [h, decide_false]
    clear hc hnR
    obtain ⟨r0, r1⟩ := bR0.cells
    rcases hcase with h | ⟨h, h1⟩
    all_goals
      go_enter Tryz.func46, Tryz.ntmps46
      go_wp2_with (go_at_call 24; refine (l1In_any _ _ _ _).mono ?_; rintro e w' ⟨rfl, rfl⟩)
      exact bodyPost_ret (v := .tuple #[.agg #[.int .i64 0, .slice none 0 0], .bool false]) (by simp [results, Tryz.results46, go_sem]) rfl (RetB.no (Ba (Below.refl _ _) _))

theorem of_pack (V m N : Nat) (h1 : 1 ≤ V) (hN : N = (V + 63) / 64) (hm : m < 18446744073709551616) (hlt : m < 2 ^ V) : (List.replicate N 0).set 0 m = pack (nBits m V) := by
  refine eq_pack (nBits_le m V) (by simp [nBits_len, hN]) (set_lt (fun x hx => by have := List.eq_of_mem_replicate hx; omega) _ _ hm) fun i hi => ?_
  rw [tb_set _ _ _ _ (by simp; omega)]
  have hd : (nBits m V).getD i 0 = if i < V then m / 2 ^ i % 2 else 0 := by
    by_cases h : i < V
    · simp [List.getD, nBits, h]
    · simp only [List.getD]; rw [List.getElem?_eq_none (by rw [nBits_len]; omega), if_neg h]; rfl
  rw [hd]
  have hbit : m.testBit i = decide ((if i < V then m / 2 ^ i % 2 else 0) = 1) := by
    by_cases h : i < V
    · rw [if_pos h, Nat.testBit_eq_decide_div_mod_eq]
    · rw [if_neg h, Nat.testBit_lt_two_pow (Nat.lt_of_lt_of_le hlt (Nat.pow_le_pow_right (by omega) (by omega)))]; simp
  rw [← hbit]
  by_cases h : i / 64 = 0
  · rw [if_pos h, show i % 64 = i by omega]
  · rw [if_neg h, tb_zero, Nat.testBit_lt_two_pow (Nat.lt_of_lt_of_le hm (show 2 ^ 64 ≤ 2 ^ i from Nat.pow_le_pow_right (by omega) (by omega)))]


end Go.Proofs.YtdlmgndmfphneaaGreatDoor
