/- Several texts in one. -/
import Derived.Test.YteenmffhbgpahaaDoorZWF

/- What putBits does: the words of a row are put into another one from a place on. -/
namespace Go.Proofs.YteenmffhbgpahaaDoor
set_option linter.unusedVariables false
set_option linter.unusedSimpArgs false
open Go.RowKit

def putTo (zs ys : List Nat) (f s : Nat) : Nat → List Nat
  | 0 => zs
  | k + 1 =>
    let z1 := (putTo zs ys f s k).set (f + k) ((putTo zs ys f s k).getD (f + k) 0 ||| ys.getD k 0 * 2 ^ s % 18446744073709551616)
    z1.set (f + k + 1) (z1.getD (f + k + 1) 0 ||| ys.getD k 0 / 2 ^ (64 - s))

theorem putTo_len (zs ys : List Nat) (f s k : Nat) : (putTo zs ys f s k).length = zs.length := by
  induction k with
  | zero => rfl
  | succ k ih => simp [putTo, ih]

theorem set_lt {xs : List Nat} (h : ∀ x ∈ xs, x < 18446744073709551616) (i v : Nat) (hv : v < 18446744073709551616) : ∀ x ∈ xs.set i v, x < 18446744073709551616 := by
  intro x hx
  rcases List.mem_or_eq_of_mem_set hx with h' | h'
  · exact h x h'
  · rw [h']; exact hv

theorem putTo_lt (zs ys : List Nat) (f s k : Nat) (hz : ∀ x ∈ zs, x < 18446744073709551616) (hy : ∀ x ∈ ys, x < 18446744073709551616) : ∀ x ∈ putTo zs ys f s k, x < 18446744073709551616 := by
  induction k with
  | zero => exact hz
  | succ k ih =>
    have h1 := set_lt ih (f + k) _ (Nat.or_lt_two_pow (n := 64) (getD_lt ih (f + k)) (Nat.mod_lt (ys.getD k 0 * 2 ^ s) (by decide)))
    exact set_lt h1 _ _ (Nat.or_lt_two_pow (n := 64) (getD_lt h1 _) (Nat.lt_of_le_of_lt (Nat.div_le_self _ _) (getD_lt hy k)))

theorem tb_put (zs ys : List Nat) (f s k : Nat) (hs : s < 64) (hy : ∀ x ∈ ys, x < 18446744073709551616) (hk : ∀ i, i < k → f + i < zs.length ∧ (f + i + 1 < zs.length ∨ ys.getD i 0 / 2 ^ (64 - s) = 0)) (j : Nat) :
    tb (putTo zs ys f s k) j = (tb zs j || (decide (64 * f + s ≤ j) && decide (j < 64 * f + s + 64 * k) && tb ys (j - (64 * f + s)))) := by
  induction k with
  | zero =>
    by_cases h : 64 * f + s ≤ j
    · simp [putTo, show ¬ j < 64 * f + s by omega]
    · simp [putTo, h]
  | succ k ih =>
    have ih' := ih fun i hi => hk i (by omega)
    obtain ⟨h1, h2⟩ := hk k (by omega)
    have hlen := putTo_len zs ys f s k
    have hyk := getD_lt hy k
    have key : tb (putTo zs ys f s (k + 1)) j = (tb (putTo zs ys f s k) j || (decide (j / 64 = f + k) && (ys.getD k 0 * 2 ^ s % 18446744073709551616).testBit (j % 64)) || (decide (j / 64 = f + k + 1) && (ys.getD k 0 / 2 ^ (64 - s)).testBit (j % 64))) := by
      simp only [putTo]
      have e1 : tb ((putTo zs ys f s k).set (f + k) ((putTo zs ys f s k).getD (f + k) 0 ||| ys.getD k 0 * 2 ^ s % 18446744073709551616)) j = (tb (putTo zs ys f s k) j || (decide (j / 64 = f + k) && (ys.getD k 0 * 2 ^ s % 18446744073709551616).testBit (j % 64))) := by
        rw [tb_set _ _ _ _ (by omega)]
        by_cases h : j / 64 = f + k
        · rw [if_pos h, Nat.testBit_or]; unfold tb; rw [h]; simp
        · rw [if_neg h]; simp [h]
      rcases h2 with h2 | h2
      · rw [tb_set _ _ _ _ (by simp; omega)]
        by_cases h : j / 64 = f + k + 1
        · rw [if_pos h, Nat.testBit_or, ← e1]
          have : ((List.set (putTo zs ys f s k) (f + k) ((putTo zs ys f s k).getD (f + k) 0 ||| ys.getD k 0 * 2 ^ s % 18446744073709551616)).getD (f + k + 1) 0).testBit (j % 64) = tb ((putTo zs ys f s k).set (f + k) ((putTo zs ys f s k).getD (f + k) 0 ||| ys.getD k 0 * 2 ^ s % 18446744073709551616)) j := by unfold tb; rw [h]
          rw [this]; simp [h]
        · rw [if_neg h, e1]; simp [h]
      · rw [h2, Nat.or_zero]
        have e2 : ∀ (l : List Nat) (i : Nat), l.set i (l.getD i 0) = l := by
          intro l i
          by_cases hi : i < l.length
          · have : l.getD i 0 = l[i] := by simp [List.getD, hi]
            rw [this, List.set_getElem_self]
          · exact List.set_eq_of_length_le (by omega)
        rw [e2, e1]; simp
    rw [key, ih']
    have hsp : (18446744073709551616 : Nat) = 2 ^ 64 := by decide
    rw [hsp, Nat.testBit_mod_two_pow, Nat.testBit_mul_two_pow, Nat.testBit_div_two_pow]
    have hlt : j % 64 < 64 := by omega
    by_cases ha : 64 * f + s ≤ j ∧ j < 64 * f + s + 64 * k
    · -- an earlier word's place: this one's bits do not reach there
      have n1 : ¬ (j / 64 = f + k ∧ s ≤ j % 64) := by omega
      have n2 : ¬ (j / 64 = f + k + 1) := by omega
      have c1 : decide (j < 64 * f + s + 64 * (k + 1)) = true := by simp; omega
      have c2 : decide (64 * f + s ≤ j) = true := by simp; omega
      have c3 : decide (j < 64 * f + s + 64 * k) = true := by simp; omega
      rw [c1, c2, c3]
      by_cases h5 : j / 64 = f + k
      · have : decide (s ≤ j % 64) = false := by simp; omega
        simp [h5, this]
      · simp [h5, n2]
    · by_cases hb : 64 * f + s + 64 * k ≤ j ∧ j < 64 * f + s + 64 * (k + 1)
      · have c1 : decide (j < 64 * f + s + 64 * (k + 1)) = true := by simp; omega
        have c2 : decide (64 * f + s ≤ j) = true := by simp; omega
        have c3 : decide (j < 64 * f + s + 64 * k) = false := by simp; omega
        rw [c1, c2, c3]
        have e3 : (j - (64 * f + s)) / 64 = k := by omega
        by_cases h5 : j / 64 = f + k
        · have e4 : (j - (64 * f + s)) % 64 = j % 64 - s := by omega
          unfold tb
          rw [e3, e4]
          simp [h5, hlt, show s ≤ j % 64 by omega]
        · have h6 : j / 64 = f + k + 1 := by omega
          have e4 : (j - (64 * f + s)) % 64 = j % 64 + (64 - s) := by omega
          unfold tb
          rw [e3, e4]
          simp [h6]
      · have c1 : (decide (64 * f + s ≤ j) && decide (j < 64 * f + s + 64 * (k + 1))) = false := by simp; omega
        have c2 : (decide (64 * f + s ≤ j) && decide (j < 64 * f + s + 64 * k)) = false := by simp; omega
        rw [c1, c2]
        simp only [Bool.false_and, Bool.or_false]
        by_cases h5 : j / 64 = f + k
        · have : decide (s ≤ j % 64) = false := by simp; omega
          simp [h5, this]
        · by_cases h6 : j / 64 = f + k + 1
          · have : (ys.getD k 0).testBit (j % 64 + (64 - s)) = false := by
              refine Nat.testBit_lt_two_pow (Nat.lt_of_lt_of_le hyk ?_)
              exact (show 2 ^ 64 ≤ 2 ^ (j % 64 + (64 - s)) from Nat.pow_le_pow_right (by omega) (by omega))
            rw [this]
            simp [h5]
          · simp [h5, h6]


end Go.Proofs.YteenmffhbgpahaaDoor

/- What the given functions on words answer: RepeatBits, WidenBits. -/
namespace Go.Proofs.YteenmffhbgpahaaDoor
set_option linter.unusedVariables false
set_option linter.unusedSimpArgs false
open Go.RowKit

/-- 'append(out, list...)', out the call's own, list not empty. -/
theorem wpList_appBs (w : World) {ops : Array Oper} {rest : List Oper} {o : Oper} {a : Act} {Q : Exit → Act → World → Prop} (hgd : o.guard = none) (s x : Operand)
    (ho : o.op = .call { callee := .builtin .append, args := #[s, x], argTypes := #[61, 61] })
    (base : Nat) (v : Value) (bs ys : List Nat) (hs : a.eval s = v) (hown : OwB w base v bs) (b ob c : Nat) (hx : a.eval x = .slice (some ⟨b, ob, none⟩) ys.length c)
    (hc : ∀ i, i < ys.length → w.cell? ⟨b, ob + i, none⟩ = some (.int .u8 ((ys.getD i 0 : Nat) : Int))) (hl : bs.length + ys.length ≤ 4194304) (hbase : base ≤ w.heap.size)
    (h : ∀ v' w', OwB w' base v' (bs ++ ys) → w.grownBy w' v.ownBlock → wpList Tryd.prog ops Q rest (a.put o.dst v') w') : wpList Tryd.prog ops Q (o :: rest) a w := by
  obtain ⟨i0, hi, hz0, hz1, hz2⟩ := info_parts Tryd.infoU8
  refine wpList_append_own w hgd s x 61 ho base 5 i0 (.int .u8 0) 1 1 Tryd.underlying61 hi hz0 hz1 hz2 rfl (by decide) v bs.length (u8s bs) hs hown ⟨b, ob, none⟩ ys.length c (u8s ys) hx (by simp [u8s]) ?_ ?_ ?_ ?_ hbase ?_
  · intro j u hj
    have hj' : j < ys.length := by
      have := (List.getElem?_eq_some_iff.1 hj).1
      simpa [u8s] using this
    rw [Addr.add_lit, hc j hj']
    simp [u8s, hj'] at hj
    rw [← hj]
    simp [List.getD, hj']
  · intro u hu
    obtain ⟨_, _, rfl⟩ := List.mem_map.1 hu
    rfl
  · unfold maxLen; omega
  · omega
  · intro v' w' h1 h2 _
    refine h v' w' ?_ h2
    unfold OwB
    simpa [u8s] using h1

def repList (bs : List Nat) (k : Nat) : List Nat := (List.replicate k bs).flatten
theorem repList_succ (bs : List Nat) (k : Nat) : repList bs (k + 1) = repList bs k ++ bs := by
  unfold repList
  rw [List.replicate_succ', List.flatten_append]; simp
theorem repList_len (bs : List Nat) (k : Nat) : (repList bs k).length = k * bs.length := by
  induction k with
  | zero => simp [repList]
  | succ k ih => rw [repList_succ, List.length_append, ih, Nat.succ_mul]
theorem repList_mem (bs : List Nat) (k x : Nat) (h : x ∈ repList bs k) : x ∈ bs := by
  unfold repList at h
  simp at h
  obtain ⟨l, ⟨_, rfl⟩, hx⟩ := h
  exact hx

def repR (W : Int) (xs : List Nat) (n : Int) : Int × List Nat × Bool :=
  if rightB W xs = true ∧ 1 ≤ n ∧ n ≤ 4096 ∧ W * n ≤ 4096 then (W * n, pack (repList (bitsTo xs W.toNat) n.toNat), true) else noR


end Go.Proofs.YteenmffhbgpahaaDoor

/- What the program's RepeatBits answers: what the given one does. -/
namespace Go.Proofs.YteenmffhbgpahaaDoor
set_option linter.unusedVariables false
set_option linter.unusedSimpArgs false
open Go.RowKit

theorem Blk.free {w : World} {β : Nat} {x y : Value} {t : TypeId} (h : Blk w β x y t) (i : Nat) : w.frozen? ⟨β, i, none⟩ = false := frozen_of_row w β i _ _ h
theorem Blk.new1 (w : World) (o : Obj) (x y : Value) (t : TypeId) : Blk ((w.alloc o).alloc (.cells #[x, y] t)) (w.heap.size + 1) x y t := heap_alloc2_new _ _ _
theorem Blk.new2 (w : World) (o p : Obj) (x y : Value) (t : TypeId) : Blk (((w.alloc o).alloc p).alloc (.cells #[x, y] t)) (w.heap.size + 1 + 1) x y t := by
  have := heap_alloc2_new (w.alloc o) p (.cells #[x, y] t)
  rw [World.size_alloc] at this
  exact this

/-- A right row fits where there are as many bits from the place on as it is wide. -/
theorem put_fit {V : Nat} {xs : List Nat} (hok : rightB V xs = true) (hx : ∀ x ∈ xs, x < 18446744073709551616) (P N : Nat) (h : P + V ≤ 64 * N) :
    ∀ i, i < xs.length → P / 64 + i < N ∧ (P / 64 + i + 1 < N ∨ xs.getD i 0 / 2 ^ (64 - P % 64) = 0) := by
  intro i hi
  obtain ⟨h1, h2, h3⟩ := right_W hok
  refine ⟨by omega, ?_⟩
  by_cases hN : P / 64 + i + 1 < N
  · exact .inl hN
  · right
    refine Nat.eq_of_testBit_eq fun j => ?_
    rw [Nat.testBit_div_two_pow, Nat.zero_testBit]
    by_cases hj : j + (64 - P % 64) < 64
    · have := tb_out hok (64 * i + (j + (64 - P % 64))) (by omega)
      unfold tb at this
      rw [show (64 * i + (j + (64 - P % 64))) / 64 = i by omega, show (64 * i + (j + (64 - P % 64))) % 64 = j + (64 - P % 64) by omega] at this
      exact this
    · exact Nat.testBit_lt_two_pow (Nat.lt_of_lt_of_le (getD_lt hx i) (show 2 ^ 64 ≤ 2 ^ (j + (64 - P % 64)) from Nat.pow_le_pow_right (by omega) (by omega)))

theorem tb_put_right {V : Nat} {xs : List Nat} (hok : rightB V xs = true) (hx : ∀ x ∈ xs, x < 18446744073709551616) (zs : List Nat) (P : Nat) (h : P + V ≤ 64 * zs.length) (j : Nat) :
    tb (putTo zs xs (P / 64) (P % 64) xs.length) j = (tb zs j || (decide (P ≤ j) && tb xs (j - P))) := by
  rw [tb_put zs xs _ _ _ (by omega) hx (put_fit hok hx P zs.length h), show 64 * (P / 64) + P % 64 = P by omega]
  by_cases h1 : P ≤ j
  · by_cases h2 : j < P + 64 * xs.length
    · simp [h1, h2]
    · have := right_W hok
      rw [tb_out hok (j - P) (by omega)]; simp
  · simp [h1]

def repTo (V : Nat) (xs : List Nat) (N : Nat) : Nat → List Nat
  | 0 => List.replicate N 0
  | k + 1 => putTo (repTo V xs N k) xs (k * V / 64) (k * V % 64) xs.length

theorem repTo_len (V : Nat) (xs : List Nat) (N k : Nat) : (repTo V xs N k).length = N := by
  induction k with
  | zero => simp [repTo]
  | succ k ih => rw [repTo, putTo_len, ih]
theorem repTo_lt (V : Nat) (xs : List Nat) (N k : Nat) (hx : ∀ x ∈ xs, x < 18446744073709551616) : ∀ x ∈ repTo V xs N k, x < 18446744073709551616 := by
  induction k with
  | zero => intro x h; simp [repTo] at h; omega
  | succ k ih => exact putTo_lt _ _ _ _ _ ih hx

theorem tb_zero (N j : Nat) : tb (List.replicate N 0) j = false := by
  unfold tb
  simp only [List.getD, List.getElem?_replicate]
  split <;> simp

theorem tb_rep {V : Nat} {xs : List Nat} (hok : rightB V xs = true) (hx : ∀ x ∈ xs, x < 18446744073709551616) (N m : Nat) (hN : m * V ≤ 64 * N) (k : Nat) (hk : k ≤ m) (j : Nat) :
    tb (repTo V xs N k) j = (decide (j < k * V) && tb xs (j % V)) := by
  have hV := right_W hok
  induction k with
  | zero => simp [repTo, tb_zero]
  | succ k ih =>
    have hk1 : k * V + V ≤ m * V := by
      have : (k + 1) * V ≤ m * V := Nat.mul_le_mul_right _ hk
      rwa [Nat.succ_mul] at this
    rw [repTo, tb_put_right hok hx _ _ (by rw [repTo_len]; omega), ih (by omega), Nat.succ_mul]
    by_cases h1 : j < k * V
    · simp [h1, show ¬ k * V ≤ j by omega, show j < k * V + V by omega]
    · by_cases h2 : j < k * V + V
      · have e : j % V = j - k * V := by
          have h3 : j = (j - k * V) + V * k := by rw [Nat.mul_comm V k]; omega
          rw [h3, Nat.add_mul_mod_self_left, Nat.mod_eq_of_lt (by omega)]
          rw [Nat.mul_comm V k]; omega
        simp [h1, h2, show k * V ≤ j by omega, e]
      · rw [tb_out hok (j - k * V) (by omega)]
        simp [h1, h2]

theorem repList_get (bs : List Nat) (V : Nat) (hV : bs.length = V) (hp : 0 < V) (k j : Nat) (hj : j < k * V) : (repList bs k).getD j 0 = bs.getD (j % V) 0 := by
  induction k with
  | zero => simp at hj
  | succ k ih =>
    rw [repList_succ]
    have hl := repList_len bs k
    rw [hV] at hl
    simp only [List.getD]
    by_cases h : j < k * V
    · rw [List.getElem?_append_left (by omega)]
      have := ih h
      simpa only [List.getD] using this
    · rw [List.getElem?_append_right (by omega), hl]
      have e : j % V = j - k * V := by
        rw [Nat.succ_mul] at hj
        have h3 : j = (j - k * V) + V * k := by rw [Nat.mul_comm V k]; omega
        rw [h3, Nat.add_mul_mod_self_left, Nat.mod_eq_of_lt (by omega)]
        rw [Nat.mul_comm V k]; omega
      rw [e]

theorem rep_pack {V : Nat} {xs : List Nat} (hok : rightB V xs = true) (hx : ∀ x ∈ xs, x < 18446744073709551616) (m N : Nat) (hN : N = (m * V + 63) / 64) :
    repTo V xs N m = pack (repList (bitsTo xs V) m) := by
  have hV := right_W hok
  have hl := repList_len (bitsTo xs V) m
  rw [bitsTo_len] at hl
  refine eq_pack (fun x h => bitsTo_le xs V x (repList_mem _ _ _ h)) (by rw [repTo_len, hl, hN]) (repTo_lt _ _ _ _ hx) fun i hi => ?_
  rw [tb_rep hok hx N m (by omega) m (Nat.le_refl _)]
  by_cases h : i < m * V
  · rw [repList_get _ V (bitsTo_len _ _) (by omega) m i h]
    have h2 : i % V < V := Nat.mod_lt _ (by omega)
    simp [h, List.getD, bitsTo, h2]
  · have e : (repList (bitsTo xs V) m).getD i 0 = 0 := by
      simp only [List.getD]
      rw [List.getElem?_eq_none (by omega)]; rfl
    rw [e]; simp [h]

theorem Rd.lt {w : World} {a : Option Addr} {xs : List Nat} (h : Rd w a xs) (hp : 0 < xs.length) : ∀ x, a = some x → x.block < w.heap.size := by
  obtain ⟨_, _, h | ⟨b, o, rfl, hc⟩⟩ := h
  · subst h; simp at hp
  · intro x hx
    simp at hx
    subst hx
    exact block_lt_of_cell (hc 0 hp)

/-- How a function ends that gives back a row that it has filled. -/
theorem RetB.made {w w4 : World} {r : Int × List Nat × Bool} {R : Int × List Nat × Bool} {g c β : Nat} (ho : Own w4 g r.2.1) (hg : w.heap.size ≤ g) (hβ : w.heap.size ≤ β) (hne : g ≠ β) (hb : Below w.heap.size w w4) (he : r = R) (u v : Value) :
    RetB w R (.returned (.tuple #[.agg #[.int .i64 r.1, .slice (some ⟨g, 0, none⟩) r.2.1.length c], .bool r.2.2])) ((w4.setCell ⟨β, 0, none⟩ u).setCell ⟨β, 1, none⟩ v) := by
  subst he
  exact ⟨some ⟨g, 0, none⟩, c, rfl, .inr ⟨g, rfl, hg, (ho.other (by simpa using hne) _).other (by simpa using hne) _⟩, (hb.setCell hβ _).setCell hβ _⟩


end Go.Proofs.YteenmffhbgpahaaDoor
