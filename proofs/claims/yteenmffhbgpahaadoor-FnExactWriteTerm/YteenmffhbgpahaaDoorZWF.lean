/- Several texts in one. -/
import Derived.Test.YteenmffhbgpahaaDoorZWB
import Derived.BigRegion
import Derived.Laws.ShiftsVar
import Derived.Laws.ShiftsVarLaws
import Derived.Deep.RegionHeld3

/- What l1From answers: the word of a list of bits. -/
namespace Go.Proofs.YteenmffhbgpahaaDoor
set_option linter.unusedVariables false
set_option linter.unusedSimpArgs false
open Go.RowKit

/-- A slice of bytes that holds bs, wherever it lies. -/
def RdB (w : World) (a : Option Addr) (bs : List Nat) : Prop :=
  bs.length ≤ 4194304 ∧ (∀ x ∈ bs, x < 256) ∧ (bs = [] ∨ ∃ b o, a = some ⟨b, o, none⟩ ∧ ∀ i, i < bs.length → w.cell? ⟨b, o + i, none⟩ = some (.int .u8 ((bs.getD i 0 : Nat) : Int)))

theorem RdB.later {w w' : World} {a : Option Addr} {xs : List Nat} (h : RdB w a xs) (hb : Below w.heap.size w w') : RdB w' a xs := by
  obtain ⟨h1, h2, h3⟩ := h
  refine ⟨h1, h2, ?_⟩
  rcases h3 with h3 | ⟨b, o, rfl, hc⟩
  · exact .inl h3
  · refine .inr ⟨b, o, rfl, fun i hi => ?_⟩
    have := hc i hi
    rw [hb.cell (p := ⟨b, o + i, none⟩) (by exact block_lt_of_cell this)]
    exact this

/-- Words in new memory: none at all, or a block of their own. -/
def Fresh (w : World) (lo : Nat) (a : Option Addr) (ys : List Nat) : Prop := (ys = [] ∧ a = none) ∨ ∃ g, a = some ⟨g, 0, none⟩ ∧ lo ≤ g ∧ Own w g ys

/-- What a function answers that gives back a row of words and a flag. -/
def RetB (w : World) (r : Int × List Nat × Bool) (e : Ending) (w' : World) : Prop :=
  ∃ a c, e = .returned (.tuple #[.agg #[.int .i64 r.1, .slice a r.2.1.length c], .bool r.2.2]) ∧ Fresh w' w.heap.size a r.2.1 ∧ Below w.heap.size w w'

def packTo (bs : List Nat) : Nat → List Nat
  | 0 => List.replicate ((bs.length + 63) / 64) 0
  | k + 1 => (packTo bs k).set (k / 64) ((packTo bs k).getD (k / 64) 0 ||| (bs.getD k 0) * 2 ^ (k % 64) % 18446744073709551616)

def pack (bs : List Nat) : List Nat := packTo bs bs.length

theorem packTo_len (bs : List Nat) (k : Nat) : (packTo bs k).length = (bs.length + 63) / 64 := by
  induction k with
  | zero => simp [packTo]
  | succ k ih => simp [packTo, ih]

theorem packTo_lt (bs : List Nat) (k : Nat) : ∀ x ∈ packTo bs k, x < 18446744073709551616 := by
  induction k with
  | zero => intro x hx; simp [packTo] at hx; omega
  | succ k ih =>
    intro x hx
    simp only [packTo] at hx
    rcases List.mem_or_eq_of_mem_set hx with h | h
    · exact ih x h
    · rw [h]
      refine Nat.or_lt_two_pow (n := 64) ?_ (Nat.mod_lt _ (by decide))
      simp only [List.getD]
      cases hg : (packTo bs k)[k / 64]? with
      | none => simp
      | some v => exact ih v (List.mem_of_getElem? hg)

theorem orShift (z y s : Nat) (hz : z < 18446744073709551616) : bits BinOp.or IntKind.u64 (z : Int) (IntKind.u64.wrap ((y : Int) * 2 ^ s)) = ((z ||| y * 2 ^ s % 18446744073709551616 : Nat) : Int) := by
  have e : IntKind.u64.wrap ((y : Int) * 2 ^ s) = ((y * 2 ^ s % 18446744073709551616 : Nat) : Int) := by
    rw [IntKind.wrap_u64]; simp
  rw [e, bits_or_u64_nat _ _ hz (Nat.mod_lt _ (by decide))]

def fromR (bs : List Nat) : Int × List Nat × Bool := if 1 ≤ bs.length ∧ bs.length ≤ 4096 then ((bs.length : Int), pack bs, true) else (0, [], false)


end Go.Proofs.YteenmffhbgpahaaDoor

/- What l1List answers: the bits of a row, from the lowest on; and the law of an append of one byte. -/
namespace Go.Proofs.YteenmffhbgpahaaDoor
set_option linter.unusedVariables false
set_option linter.unusedSimpArgs false
open Go.RowKit

theorem Tryd.infoU8 : (Tryd.prog.info? 5).map (fun i => (i.zero, i.size, i.bytes)) = some (some (.int .u8 0), 1, 1) := by kernel_rfl

def u8s (bs : List Nat) : List Value := bs.map fun (b : Nat) => Value.int .u8 (b : Int)

/-- The slice v of bytes holds bs, in a row from block number 'base' on that the call itself has made. -/
def OwB (w : World) (base : Nat) (v : Value) (bs : List Nat) : Prop := w.ownsRow base 5 1 v bs.length (u8s bs)

theorem OwB.shape {w : World} {base : Nat} {v : Value} {bs : List Nat} (h : OwB w base v bs) (hl : bs.length ≤ 4194304) (hx : ∀ x ∈ bs, x < 256) :
    ∃ a c, v = .slice a bs.length c ∧ RdB w a bs ∧ bs.length ≤ c ∧ c ≤ maxLen := by
  obtain ⟨h1, ⟨rfl, h2⟩ | ⟨g, cap, cur, rfl, hg, hh, hc1, hc2, hsz, hcur⟩⟩ := h
  · have e := List.eq_nil_of_length_eq_zero h2
    subst e
    exact ⟨none, 0, rfl, ⟨hl, hx, .inl rfl⟩, Nat.le_refl _, Nat.zero_le _⟩
  · refine ⟨some ⟨g, 0, none⟩, cap, rfl, ⟨hl, hx, .inr ⟨g, 0, rfl, fun i hi => ?_⟩⟩, hc1, hc2⟩
    rw [Nat.zero_add, cell_of_row w g i cur _ _ hh]
    have h3 : (cur.toList.take (bs.length * 1))[i]? = (u8s bs)[i]? := by rw [hcur]
    rw [List.getElem?_take, if_pos (by omega)] at h3
    simp only [Array.getElem?_toList] at h3
    rw [h3]
    simp [u8s, List.getD, hi]

theorem OwB.nil (w : World) (base g : Nat) (hg : g = w.heap.size) (h : base ≤ g) : OwB (w.alloc (.cells #[] 5)) base (.slice (some ⟨g, 0, none⟩) 0 0) [] := by
  subst hg
  exact World.ownsRow_made w #[] 0 h (Nat.zero_le _) (by simp)

theorem OwB.alloc {w : World} {base : Nat} {v : Value} {bs : List Nat} (h : OwB w base v bs) (o : Obj) : OwB (w.alloc o) base v bs := World.ownsRow.alloc h o

theorem OwB.kept {w w' : World} {base : Nat} {v : Value} {bs : List Nat} (h : OwB w base v bs) (hb : Below w.heap.size w w') : OwB w' base v bs := by
  obtain ⟨h1, h2⟩ := h
  refine ⟨h1, ?_⟩
  rcases h2 with h2 | ⟨g, cap, cur, rfl, hg, hh, r⟩
  · exact .inl h2
  · exact .inr ⟨g, cap, cur, rfl, hg, by rw [hb.block g (lt_of_block hh)]; exact hh, r⟩

theorem OwB.own {w : World} {base : Nat} {v : Value} {bs : List Nat} (h : OwB w base v bs) : ∀ k, v.ownBlock = some k → base ≤ k := fun k hk => (World.ownsRow.lt h k hk).1

/-- 'append(out, y)', out the call's own. -/
theorem wpList_appB (w : World) {ops : Array Oper} {rest : List Oper} {o : Oper} {a : Act} {Q : Exit → Act → World → Prop} (hgd : o.guard = none) (s x : Operand)
    (ho : o.op = .call { callee := .builtin .append, args := #[s, x], argTypes := #[61, 61] })
    (base : Nat) (v : Value) (bs : List Nat) (y : Nat) (hs : a.eval s = v) (hown : OwB w base v bs) (g : Nat) (hx : a.eval x = .slice (some ⟨g, 0, none⟩) 1 1)
    (hnew : w.cell? ⟨g, 0, none⟩ = some (.int .u8 (y : Int))) (hl : bs.length ≤ 4194304) (hbase : base ≤ w.heap.size)
    (h : ∀ v' w', OwB w' base v' (bs ++ [y]) → w.grownBy w' v.ownBlock → wpList Tryd.prog ops Q rest (a.put o.dst v') w') : wpList Tryd.prog ops Q (o :: rest) a w := by
  obtain ⟨i0, hi, hz0, hz1, hz2⟩ := info_parts Tryd.infoU8
  refine wpList_append_own w hgd s x 61 ho base 5 i0 (.int .u8 0) 1 1 Tryd.underlying61 hi hz0 hz1 hz2 rfl (by decide) v bs.length (u8s bs) hs hown ⟨g, 0, none⟩ 1 1 [.int .u8 (y : Int)] hx rfl ?_ ?_ ?_ ?_ hbase ?_
  · intro j u hj
    match j, hj with
    | 0, hj => simp at hj; subst hj; simpa [Addr.add] using hnew
  · intro u hu; simp at hu; subst hu; rfl
  · unfold maxLen; omega
  · omega
  · intro v' w' h1 h2 _
    refine h v' w' ?_ h2
    unfold OwB
    simpa [u8s] using h1

def bitsTo (xs : List Nat) (k : Nat) : List Nat := (List.range k).map fun i => (tb xs i).toNat
theorem bitsTo_len (xs : List Nat) (k : Nat) : (bitsTo xs k).length = k := by simp [bitsTo]
theorem bitsTo_succ (xs : List Nat) (k : Nat) : bitsTo xs (k + 1) = bitsTo xs k ++ [(tb xs k).toNat] := by simp [bitsTo, List.range_succ]
theorem bitsTo_le (xs : List Nat) (k : Nat) : ∀ x ∈ bitsTo xs k, x ≤ 1 := by
  intro x hx
  obtain ⟨i, _, rfl⟩ := List.mem_map.1 hx
  cases tb xs i <;> decide

theorem l1List_any (V : Nat) (a : Option Addr) (c : Nat) (xs : List Nat) (w : World) (hr : Rd w a xs) (hV : V ≤ 64 * xs.length) (hV2 : V ≤ 4096) :
    Calls Tryd.prog 49 #[.agg #[.int .i64 V, .slice a xs.length c]] w fun e w' => ∃ v, e = .returned v ∧ OwB w' (w.heap.size + 1) v (bitsTo xs V) ∧ Below w.heap.size w w' := by
  have hlen := hr.1
  go_enter Tryd.func49, Tryd.ntmps49
  go_wp2
  go_loopw [3, 4] (fun v i wr => ∃ k : Nat, k ≤ V ∧ i = .int .i64 k ∧ OwB wr (w.heap.size + 1) v (bitsTo xs k) ∧ St w (.cells #[Value.int IntKind.i64 V, Value.slice a xs.length c] 52) wr) (fun _ i _ => V - (intOf i).toNat)
  case atStart =>
    refine ⟨0, Nat.zero_le _, rfl, OwB.nil _ _ _ ?_ (Nat.le_refl _), (St.start _ _).next ((Below.refl _ _).alloc (Nat.le_refl _) _)⟩
    rw [World.size_alloc]
  case round =>
    obtain ⟨k, hk, rfl, hown, hst⟩ := hrel
    obtain ⟨c0, c1⟩ := hst.two
    by_cases hlt : k < V
    · have hr' := hst.rd hr
      have hs1 := hst.size
      go_wp2_with fail
      refine (l1Bit_any _ _ _ _ _ _ hr' (by omega)).mono ?_
      rintro e w1 ⟨rfl, hb1⟩
      have hown1 := hown.kept hb1
      have hst1 := hst.next hb1
      have hs2 := hst1.size
      have hbl : (bitsTo xs k).length ≤ 4194304 := by rw [bitsTo_len]; omega
      have HS := bitsTo_succ xs k
      generalize hy : (tb xs k).toNat = y at *
      have HY : Hid ((tb xs k).toNat = y) := hy
      have HT : Hid (bitsTo xs (k + 1) = bitsTo xs k ++ [y]) := HS
      clear hown hst c0 c1 hr hr' hb1 hy HS
      generalize bitsTo xs k = bk at *
      go_wp2_with (at_builtin; refine wpList_appB _ rfl _ _ rfl (w.heap.size + 1) _ bk y rfl (hown1.alloc _) w1.heap.size rfl (by simp) hbl (by simp; omega) ?_)
      intro v' w2 hown2 hgr
      have hst2 := hst1.next' (((Below.refl (w.heap.size + 1) w1).alloc (by omega) _).grown hgr (by simp; omega) hown1.own) (Nat.lt_succ_self _)
      clear hgr hown1 hst1
      go_wp2
      go_roundw
      case rel => exact ⟨k + 1, by omega, by go_num, by rw [HT.out]; exact hown2, hst2⟩
      case measure => simp [intOf]; omega
    · go_wp2
      go_ret
      have e : k = V := by omega
      subst e
      exact ⟨_, rfl, hown, hst.below⟩

end Go.Proofs.YteenmffhbgpahaaDoor

/- Plain facts: the word of a list of bits, told by its bits. No program in sight. -/
namespace Go.Proofs.YteenmffhbgpahaaDoor
set_option linter.unusedVariables false
set_option linter.unusedSimpArgs false
open Go.RowKit

theorem getD_lt {xs : List Nat} (h : ∀ x ∈ xs, x < 18446744073709551616) (i : Nat) : xs.getD i 0 < 18446744073709551616 := by
  simp only [List.getD]
  cases hg : xs[i]? with
  | none => simp
  | some v => exact h v (List.mem_of_getElem? hg)

theorem tb_set (xs : List Nat) (k y i : Nat) (hk : k < xs.length) : tb (xs.set k y) i = if i / 64 = k then y.testBit (i % 64) else tb xs i := by
  unfold tb
  simp only [List.getD, List.getElem?_set]
  by_cases h : i / 64 = k
  · simp [h, hk]
  · rw [if_neg (fun e => h e.symm), if_neg h]

theorem tb_packTo (bs : List Nat) (hb : ∀ x ∈ bs, x ≤ 1) (k i : Nat) (hk : k ≤ bs.length) : tb (packTo bs k) i = (decide (i < k) && decide (bs.getD i 0 = 1)) := by
  induction k with
  | zero => simp [packTo, tb, List.getD, List.getElem?_replicate]; split <;> simp
  | succ k ih =>
    have hlen := packTo_len bs k
    rw [packTo, tb_set _ _ _ _ (by omega)]
    have hbk : bs.getD k 0 ≤ 1 := by
      have e : bs.getD k 0 = bs[k] := by simp [List.getD, show k < bs.length by omega]
      rw [e]; exact hb _ (List.getElem_mem _)
    have hlt : bs.getD k 0 * 2 ^ (k % 64) < 18446744073709551616 := by
      have h1 : 2 ^ (k % 64) ≤ 2 ^ 63 := Nat.pow_le_pow_right (by omega) (by omega)
      have h2 : bs.getD k 0 * 2 ^ (k % 64) ≤ 1 * 2 ^ (k % 64) := Nat.mul_le_mul_right _ hbk
      omega
    by_cases h : i / 64 = k / 64
    · rw [if_pos h, Nat.testBit_or, Nat.mod_eq_of_lt hlt]
      have ih' := ih (by omega)
      unfold tb at ih'
      rw [h] at ih'
      rw [ih']
      by_cases h2 : i = k
      · subst h2
        have h3 : bs.getD i 0 = 0 ∨ bs.getD i 0 = 1 := by omega
        rcases h3 with h3 | h3
        · rw [h3]; simp
        · rw [h3, Nat.one_mul, Nat.testBit_two_pow_self]; simp
      · have h4 : (bs.getD k 0 * 2 ^ (k % 64)).testBit (i % 64) = false := by
          have h3 : bs.getD k 0 = 0 ∨ bs.getD k 0 = 1 := by omega
          rcases h3 with h3 | h3
          · rw [h3]; simp
          · rw [h3, Nat.one_mul]; exact Nat.testBit_two_pow_of_ne (by omega)
        rw [h4, Bool.or_false]
        by_cases h5 : i < k
        · simp [h5, show i < k + 1 by omega]
        · simp [h5, show ¬ i < k + 1 by omega]
    · rw [if_neg h, ih (by omega)]
      by_cases h5 : i < k
      · simp [h5, show i < k + 1 by omega]
      · simp [h5, show ¬ i < k + 1 by omega]

theorem tb_pack (bs : List Nat) (hb : ∀ x ∈ bs, x ≤ 1) (i : Nat) : tb (pack bs) i = decide (bs.getD i 0 = 1) := by
  rw [pack, tb_packTo bs hb _ _ (Nat.le_refl _)]
  by_cases h : i < bs.length
  · simp [h]
  · simp [h, List.getD]

theorem pack_len (bs : List Nat) : (pack bs).length = (bs.length + 63) / 64 := packTo_len bs _
theorem pack_lt (bs : List Nat) : ∀ x ∈ pack bs, x < 18446744073709551616 := packTo_lt bs _

/-- Two rows of as many words that have the same bits are the same. -/
theorem tb_ext {xs ys : List Nat} (hl : xs.length = ys.length) (hx : ∀ x ∈ xs, x < 18446744073709551616) (hy : ∀ x ∈ ys, x < 18446744073709551616)
    (h : ∀ i, i < 64 * xs.length → tb xs i = tb ys i) : xs = ys := by
  refine List.ext_getElem hl fun k h1 h2 => ?_
  have e1 : xs.getD k 0 = xs[k] := by simp [List.getD, h1]
  have e2 : ys.getD k 0 = ys[k] := by simp [List.getD, h2]
  rw [← e1, ← e2]
  refine Nat.eq_of_testBit_eq fun j => ?_
  by_cases hj : j < 64
  · have := h (64 * k + j) (by omega)
    unfold tb at this
    rw [show (64 * k + j) / 64 = k by omega, show (64 * k + j) % 64 = j by omega] at this
    exact this
  · have p : 2 ^ 64 ≤ 2 ^ j := Nat.pow_le_pow_right (by omega) (by omega)
    rw [Nat.testBit_lt_two_pow (Nat.lt_of_lt_of_le (getD_lt hx k) p), Nat.testBit_lt_two_pow (Nat.lt_of_lt_of_le (getD_lt hy k) p)]

/-- A row of words is the word of a list of bits where it has its bits. -/
theorem eq_pack {ys bs : List Nat} (hb : ∀ x ∈ bs, x ≤ 1) (hl : ys.length = (bs.length + 63) / 64) (hy : ∀ x ∈ ys, x < 18446744073709551616)
    (h : ∀ i, i < 64 * ys.length → tb ys i = decide (bs.getD i 0 = 1)) : ys = pack bs :=
  tb_ext (by rw [hl, pack_len]) hy (pack_lt bs) fun i hi => by rw [h i hi, tb_pack bs hb]

/-- Bits from the width on are 0 in a right row; behind its words there are none. -/
theorem tb_out {W : Int} {xs : List Nat} (h : rightB W xs = true) (i : Nat) (hi : W ≤ (i : Int)) : tb xs i = false := by
  simp only [rightB, Bool.and_eq_true] at h
  by_cases hl : i < 64 * xs.length
  · exact (clear_iff W xs).1 h.2 i hi hl
  · unfold tb
    have : xs.getD (i / 64) 0 = 0 := by simp only [List.getD]; rw [List.getElem?_eq_none (by omega)]; rfl
    rw [this]; simp

theorem right_W {W : Int} {xs : List Nat} (h : rightB W xs = true) : 1 ≤ W ∧ W ≤ 4096 ∧ (xs.length : Int) = (W + 63) / 64 := by
  simp [rightB, wOk] at h
  omega

theorem pack_right (bs : List Nat) (hb : ∀ x ∈ bs, x ≤ 1) (h1 : 1 ≤ bs.length) (h2 : bs.length ≤ 4096) : rightB bs.length (pack bs) = true := by
  rw [rightB_clear (by simp [wOk]; omega) (by rw [pack_len]; omega), clear_iff]
  intro i hi _
  rw [tb_pack bs hb]
  simp [List.getD, List.getElem?_eq_none (show bs.length ≤ i by omega)]

end Go.Proofs.YteenmffhbgpahaaDoor

/- What the given functions on words answer: PartOf, BitsOf. -/
namespace Go.Proofs.YteenmffhbgpahaaDoor
set_option linter.unusedVariables false
set_option linter.unusedSimpArgs false
open Go.RowKit

def noR : Int × List Nat × Bool := (0, [], false)

theorem RetB.no {w w' : World} (hb : Below w.heap.size w w') : RetB w noR (.returned (.tuple #[.agg #[.int .i64 0, .slice none 0 0], .bool false])) w' :=
  ⟨none, 0, rfl, .inl ⟨rfl, rfl⟩, hb⟩

theorem chain {W w1 w2 : World} (h : Below W.heap.size W w1) (k : Below w1.heap.size w1 w2) : Below W.heap.size W w2 := h.trans (k.mono h.size)

theorem Fresh.set2 {w : World} {lo lo' : Nat} {a : Option Addr} {ys : List Nat} (h : Fresh w lo a ys) {g : Nat} (hg : g < lo) (hl : lo' ≤ lo) (i j : Nat) (u v : Value) : Fresh ((w.setCell ⟨g, i, none⟩ u).setCell ⟨g, j, none⟩ v) lo' a ys := by
  rcases h with h | ⟨b, rfl, hb, ho⟩
  · exact .inl h
  · exact .inr ⟨b, rfl, by omega, (ho.other (by simp; omega) _).other (by simp; omega) _⟩

/-- How a function ends that gives back what l1From gave: the answer is stored in its own block, the flag behind it. -/
theorem RetB.close {w w2 w3 : World} {r r' : Int × List Nat × Bool} {a3 : Option Addr} {c3 g : Nat} (hfr : Fresh w3 w2.heap.size a3 r.2.1) (hg : w.heap.size ≤ g) (hg2 : g < w2.heap.size)
    (hb : Below w.heap.size w w3) (he : r = r') (u v : Value) :
    RetB w r' (.returned (.tuple #[.agg #[.int .i64 r.1, .slice a3 r.2.1.length c3], .bool r.2.2])) ((w3.setCell ⟨g, 0, none⟩ u).setCell ⟨g, 1, none⟩ v) := by
  subst he
  exact ⟨a3, c3, rfl, hfr.set2 hg2 (by omega) 0 1 u v, (hb.setCell hg _).setCell hg _⟩

def partR (W : Int) (xs : List Nat) (hi lo : Int) : Int × List Nat × Bool :=
  if rightB W xs = true ∧ 0 ≤ lo ∧ lo ≤ hi ∧ hi < W then (hi - lo + 1, pack (((bitsTo xs W.toNat).drop lo.toNat).take (hi - lo + 1).toNat), true) else noR


end Go.Proofs.YteenmffhbgpahaaDoor

/- Contracts of the program's own small functions on words: zeroBits, clearAbove. -/
namespace Go.Proofs.YteenmffhbgpahaaDoor
set_option linter.unusedVariables false
set_option linter.unusedSimpArgs false
open Go.RowKit

theorem grown_set {w wr : World} {g : Nat} (h : w.grownBy wr (some g)) (i : Nat) (v : Value) : w.grownBy (wr.setCell ⟨g, i, none⟩ v) (some g) :=
  ⟨h.os, h.tape, h.output, by simpa using h.size, fun k hk hne => by rw [heap_setCell_other _ _ _ _ (fun e => hne (by rw [e]))]; exact h.block k hk hne⟩

theorem Own.alloc {w : World} {g : Nat} {xs : List Nat} (h : Own w g xs) (o : Obj) : Own (w.alloc o) g xs := h.later ((Below.refl _ _).alloc (Nat.le_refl _) _) h.lt

/-- The last word without its bits from the width on. -/
def clr (V : Nat) (ys : List Nat) : List Nat := ys.set (ys.length - 1) (ys.getD (ys.length - 1) 0 &&& 18446744073709551615 / 2 ^ (64 * ys.length - V))

theorem clr_len (V : Nat) (ys : List Nat) : (clr V ys).length = ys.length := by simp [clr]
theorem clr_lt (V : Nat) (ys : List Nat) (h : ∀ x ∈ ys, x < 18446744073709551616) : ∀ x ∈ clr V ys, x < 18446744073709551616 := by
  intro x hx
  rcases List.mem_or_eq_of_mem_set hx with h' | h'
  · exact h x h'
  · rw [h']; exact Nat.lt_of_le_of_lt Nat.and_le_left (getD_lt h _)

theorem tb_clr (V : Nat) (ys : List Nat) (h0 : 64 * (ys.length - 1) < V) (h1 : V ≤ 64 * ys.length) (hp : 0 < ys.length) (i : Nat) (hi : i < 64 * ys.length) : tb (clr V ys) i = (decide (i < V) && tb ys i) := by
  rw [clr, tb_set _ _ _ _ (by omega)]
  by_cases h : i / 64 = ys.length - 1
  · rw [if_pos h, Nat.testBit_and, Nat.testBit_div_two_pow, show (18446744073709551615 : Nat) = 2 ^ 64 - 1 by decide, Nat.testBit_two_pow_sub_one]
    unfold tb
    rw [h, Bool.and_comm]
    congr 1
    simp only [decide_eq_decide]
    omega
  · rw [if_neg h]
    have : i < V := by omega
    simp [this]

theorem andMask (y s : Nat) (hy : y < 18446744073709551616) : bits BinOp.and IntKind.u64 (y : Int) (18446744073709551615 / 2 ^ s) = ((y &&& 18446744073709551615 / 2 ^ s : Nat) : Int) := by
  have e : ((18446744073709551615 : Int) / 2 ^ s) = ((18446744073709551615 / 2 ^ s : Nat) : Int) := by simp
  rw [e, bits_and_u64_nat _ _ hy (Nat.lt_of_le_of_lt (Nat.div_le_self _ _) (by decide))]


end Go.Proofs.YteenmffhbgpahaaDoor

/- What the program's PartOf answers: what the given one does. -/
namespace Go.Proofs.YteenmffhbgpahaaDoor
set_option linter.unusedVariables false
set_option linter.unusedSimpArgs false
open Go.RowKit

def partWord (xs : List Nat) (f s k : Nat) : Nat := xs.getD (f + k) 0 / 2 ^ s ||| xs.getD (f + k + 1) 0 * 2 ^ (64 - s) % 18446744073709551616
def partTo (xs : List Nat) (f s N k : Nat) : List Nat := (List.range k).map (partWord xs f s) ++ List.replicate (N - k) 0

theorem partTo_len (xs : List Nat) (f s N k : Nat) (h : k ≤ N) : (partTo xs f s N k).length = N := by simp [partTo]; omega
theorem partTo_set (xs : List Nat) (f s N k : Nat) (h : k < N) : (partTo xs f s N k).set k (partWord xs f s k) = partTo xs f s N (k + 1) := by
  unfold partTo
  rw [List.set_append_right _ _ (by simp)]
  simp only [List.length_map, List.length_range, Nat.sub_self]
  obtain ⟨m, hm⟩ : ∃ m, N - k = m + 1 := ⟨N - k - 1, by omega⟩
  rw [hm, List.replicate_succ, List.set_cons_zero, show N - (k + 1) = m by omega]
  simp [List.range_succ]

theorem partWord_lt (xs : List Nat) (hx : ∀ x ∈ xs, x < 18446744073709551616) (f s k : Nat) : partWord xs f s k < 18446744073709551616 :=
  Nat.or_lt_two_pow (n := 64) (Nat.lt_of_le_of_lt (Nat.div_le_self _ _) (getD_lt hx _)) (Nat.mod_lt _ (by decide))

theorem tb_part (xs : List Nat) (hx : ∀ x ∈ xs, x < 18446744073709551616) (f s N i : Nat) (hs : s < 64) (hi : i < 64 * N) : tb (partTo xs f s N N) i = tb xs (64 * f + s + i) := by
  have hk : i / 64 < N := by omega
  have e : (partTo xs f s N N).getD (i / 64) 0 = partWord xs f s (i / 64) := by
    simp [partTo, List.getD, hk]
  have h1 := getD_lt hx (f + i / 64)
  unfold tb
  rw [e, partWord, Nat.testBit_or, Nat.testBit_div_two_pow, show (18446744073709551616 : Nat) = 2 ^ 64 by decide, Nat.testBit_mod_two_pow, Nat.testBit_mul_two_pow]
  by_cases h : i % 64 + s < 64
  · rw [show (64 * f + s + i) / 64 = f + i / 64 by omega, show (64 * f + s + i) % 64 = i % 64 + s by omega]
    simp [show ¬ (64 - s ≤ i % 64) by omega]
  · rw [show (64 * f + s + i) / 64 = f + i / 64 + 1 by omega, show (64 * f + s + i) % 64 = i % 64 - (64 - s) by omega]
    have p : 2 ^ 64 ≤ 2 ^ (i % 64 + s) := Nat.pow_le_pow_right (by omega) (by omega)
    rw [Nat.testBit_lt_two_pow (Nat.lt_of_lt_of_le h1 p)]
    simp [show 64 - s ≤ i % 64 by omega, show i % 64 < 64 by omega]

theorem part_pack (xs : List Nat) (hx : ∀ x ∈ xs, x < 18446744073709551616) (V p q : Nat) (h1 : p ≤ q) (h2 : q < V) (N : Nat) (hN : N = (q - p + 1 + 63) / 64) :
    clr (q - p + 1) (partTo xs (p / 64) (p % 64) N N) = pack (((bitsTo xs V).drop p).take (q - p + 1)) := by
  have hl : (partTo xs (p / 64) (p % 64) N N).length = N := partTo_len _ _ _ _ _ (Nat.le_refl _)
  have hw : ∀ x ∈ partTo xs (p / 64) (p % 64) N N, x < 18446744073709551616 := by
    intro x hm
    simp [partTo] at hm
    obtain ⟨k, _, rfl⟩ := hm
    exact partWord_lt xs hx _ _ _
  refine eq_pack (fun x hm => bitsTo_le xs V x (List.mem_of_mem_drop (List.mem_of_mem_take hm))) ?_ (clr_lt _ _ hw) ?_
  · rw [clr_len, hl]; simp [bitsTo_len]; omega
  · intro i hi
    rw [clr_len, hl] at hi
    rw [tb_clr _ _ (by rw [hl]; omega) (by rw [hl]; omega) (by rw [hl]; omega) i (by rw [hl]; exact hi), tb_part xs hx _ _ _ _ (by omega) hi, show 64 * (p / 64) + p % 64 + i = p + i by omega]
    by_cases h : i < q - p + 1
    · have hv : p + i < V := by omega
      simp [h, List.getD, bitsTo, hv]
    · have e : (List.take (q - p + 1) (List.drop p (bitsTo xs V))).getD i 0 = 0 := by
        simp only [List.getD]
        rw [List.getElem?_eq_none (by simp [bitsTo_len]; omega)]
        rfl
      rw [e]
      simp [h]

theorem acell (w : World) (x : Obj) {b : Nat} (i : Nat) (h : b < w.heap.size) : (w.alloc x).cell? ⟨b, i, none⟩ = w.cell? ⟨b, i, none⟩ := World.cell?_of_block (w := w) (Below.heap_alloc _ _ _ h)
theorem afree (w : World) (x : Obj) {b : Nat} (i : Nat) (h : b < w.heap.size) : (w.alloc x).frozen? ⟨b, i, none⟩ = w.frozen? ⟨b, i, none⟩ := World.frozen?_of_block (w := w) (Below.heap_alloc _ _ _ h)
theorem gcell {W wr : World} {g : Nat} (h : W.grownBy wr (some g)) {b : Nat} (o : Nat) (hb : b < W.heap.size) (hne : b ≠ g) : wr.cell? ⟨b, o, none⟩ = W.cell? ⟨b, o, none⟩ :=
  World.cell?_of_block (w := W) (h.block b hb (by simpa using hne))
theorem gfree {W wr : World} {g : Nat} (h : W.grownBy wr (some g)) {b : Nat} (o : Nat) (hb : b < W.heap.size) (hne : b ≠ g) : wr.frozen? ⟨b, o, none⟩ = W.frozen? ⟨b, o, none⟩ :=
  World.frozen?_of_block (w := W) (h.block b hb (by simpa using hne))

theorem castDiv (x s : Nat) : ((x : Int) / 2 ^ s) = ((x / 2 ^ s : Nat) : Int) := by simp

theorem grown_drew {w wr : World} {r : Option Nat} (h : w.grownBy wr r) : w.grownBy wr.drew r := ⟨h.os, h.tape, h.output, h.size, h.block⟩

/-- A word stored, and stored again with a second one beside it. -/
theorem Own.twice {w : World} {g k X1 X2 s t : Nat} {ys : List Nat} (h : Own w g ys) (h1 : X1 < 18446744073709551616) :
    Own ((w.setCell ⟨g, k, none⟩ (.int .u64 ((X1 : Int) / 2 ^ s))).setCell ⟨g, k, none⟩ (.int .u64 (bits BinOp.or IntKind.u64 ((X1 : Int) / 2 ^ s) (IntKind.u64.wrap ((X2 : Int) * 2 ^ t))))) g (ys.set k (X1 / 2 ^ s ||| X2 * 2 ^ t % 18446744073709551616)) := by
  rw [castDiv, orShift _ _ _ (Nat.lt_of_le_of_lt (Nat.div_le_self _ _) h1)]
  have := (h.put k (X1 / 2 ^ s)).put k (X1 / 2 ^ s ||| X2 * 2 ^ t % 18446744073709551616)
  rwa [List.set_set] at this

theorem Own.once {w : World} {g k X1 s : Nat} {ys : List Nat} (h : Own w g ys) : Own (w.setCell ⟨g, k, none⟩ (.int .u64 ((X1 : Int) / 2 ^ s))) g (ys.set k (X1 / 2 ^ s)) := by
  rw [castDiv]; exact h.put k _

theorem shlOr (z y s : Nat) (hz : z < 18446744073709551616) : bits BinOp.or IntKind.u64 (z : Int) (IntKind.u64.wrap ((y : Int) * 2 ^ s)) = ((z ||| y * 2 ^ s % 18446744073709551616 : Nat) : Int) := orShift z y s hz


end Go.Proofs.YteenmffhbgpahaaDoor

/- What a law knows of the memory that it has made: boxes of two cells, rows of words in new blocks; how that lasts behind calls. -/
namespace Go.Proofs.YteenmffhbgpahaaDoor
set_option linter.unusedVariables false
set_option linter.unusedSimpArgs false
open Go.RowKit

theorem Ba {w wk : World} (h : Below w.heap.size w wk) (o : Obj) : Below w.heap.size w (wk.alloc o) := h.alloc h.size o

/-- The block β is a box of two cells. -/
def Blk (w : World) (β : Nat) (x y : Value) (t : TypeId) : Prop := w.heap[β]? = some (.cells #[x, y] t (0, 0))

theorem Blk.cells {w : World} {β : Nat} {x y : Value} {t : TypeId} (h : Blk w β x y t) : w.cell? ⟨β, 0, none⟩ = some x ∧ w.cell? ⟨β, 1, none⟩ = some y :=
  ⟨cell_of_row w β 0 _ _ _ h, cell_of_row w β 1 _ _ _ h⟩
theorem Blk.lt {w : World} {β : Nat} {x y : Value} {t : TypeId} (h : Blk w β x y t) : β < w.heap.size := lt_of_block h
theorem Blk.next {w w' : World} {β : Nat} {x y : Value} {t : TypeId} (h : Blk w β x y t) (hb : Below w.heap.size w w') : Blk w' β x y t := by
  unfold Blk
  rw [hb.block β h.lt]; exact h
theorem Blk.new (w : World) (x y : Value) (t : TypeId) : Blk (w.alloc (.cells #[x, y] t)) w.heap.size x y t := heap_alloc_new _ _
theorem Blk.alloc {w : World} {β : Nat} {x y : Value} {t : TypeId} (h : Blk w β x y t) (o : Obj) : Blk (w.alloc o) β x y t := h.next ((Below.refl _ _).alloc (Nat.le_refl _) _)

/-- Words in a block of their own whose number lies in lo .. hi - 1, or none at all. -/
def Fr (w : World) (lo hi : Nat) (a : Option Addr) (ys : List Nat) : Prop := (ys = [] ∧ a = none) ∨ ∃ g, a = some ⟨g, 0, none⟩ ∧ lo ≤ g ∧ g < hi ∧ Own w g ys

theorem Fresh.fr {w : World} {lo : Nat} {a : Option Addr} {ys : List Nat} (h : Fresh w lo a ys) : Fr w lo w.heap.size a ys := by
  rcases h with h | ⟨g, rfl, hg, ho⟩
  · exact .inl h
  · exact .inr ⟨g, rfl, hg, ho.lt, ho⟩
theorem Own.fr {w : World} {lo g : Nat} {ys : List Nat} (h : Own w g ys) (hg : lo ≤ g) : Fr w lo w.heap.size (some ⟨g, 0, none⟩) ys := .inr ⟨g, rfl, hg, h.lt, h⟩
theorem Fr.next {w w' : World} {lo hi : Nat} {a : Option Addr} {ys : List Nat} (h : Fr w lo hi a ys) (hb : Below w.heap.size w w') : Fr w' lo hi a ys := by
  rcases h with h | ⟨g, rfl, h1, h2, ho⟩
  · exact .inl h
  · exact .inr ⟨g, rfl, h1, h2, ho.later hb ho.lt⟩
theorem Fr.alloc {w : World} {lo hi : Nat} {a : Option Addr} {ys : List Nat} (h : Fr w lo hi a ys) (o : Obj) : Fr (w.alloc o) lo hi a ys := h.next ((Below.refl _ _).alloc (Nat.le_refl _) _)
theorem Fr.rd {w : World} {lo hi : Nat} {a : Option Addr} {ys : List Nat} (h : Fr w lo hi a ys) (hl : ys.length ≤ 1048576) (hx : ∀ x ∈ ys, x < 18446744073709551616) : Rd w a ys := by
  rcases h with ⟨rfl, rfl⟩ | ⟨g, rfl, h1, h2, ho⟩
  · exact ⟨hl, hx, .inl rfl⟩
  · exact ho.rd hl hx

/-- What marking the words at a has done to the world. -/
def Marked (w w' : World) (a : Option Addr) : Prop := w.grownBy w' (a.map Addr.block)

theorem Blk.mark {w w' : World} {β lo hi : Nat} {x y : Value} {t : TypeId} {a : Option Addr} {ys : List Nat} (h : Blk w β x y t) (hf : Fr w lo hi a ys) (hm : Marked w w' a) (ht : t ≠ 123) : Blk w' β x y t := by
  unfold Blk
  rw [World.grownBy.block hm β h.lt ?_]
  · exact h
  · rcases hf with ⟨_, rfl⟩ | ⟨g, rfl, _, _, ho⟩
    · simp
    · simp only [Option.map_some, ne_eq, Option.some.injEq]
      rintro rfl
      unfold Blk at h
      unfold Own at ho
      rw [h] at ho
      simp at ho
      exact ht ho.2

theorem Fr.mark {w w' : World} {lo hi lo' hi' : Nat} {a b : Option Addr} {ys zs : List Nat} (h : Fr w lo hi a ys) (hf : Fr w lo' hi' b zs) (hm : Marked w w' b) (hd : hi ≤ lo' ∨ hi' ≤ lo) : Fr w' lo hi a ys := by
  rcases h with h | ⟨g, rfl, h1, h2, ho⟩
  · exact .inl h
  · refine .inr ⟨g, rfl, h1, h2, ?_⟩
    unfold Own
    rw [World.grownBy.block hm g ho.lt ?_]
    · exact ho
    · rcases hf with ⟨_, rfl⟩ | ⟨g', rfl, k1, k2, _⟩
      · simp
      · simp only [Option.map_some, ne_eq, Option.some.injEq]
        omega

theorem Marked.below {w0 w w' : World} {lo hi : Nat} {a : Option Addr} {ys : List Nat} (hm : Marked w w' a) (hf : Fr w lo hi a ys) (hb : Below w0.heap.size w0 w) (hl : w0.heap.size ≤ lo) : Below w0.heap.size w0 w' := by
  refine hb.grown hm hb.size ?_
  intro k hk
  rcases hf with ⟨_, rfl⟩ | ⟨g, rfl, k1, k2, _⟩
  · simp at hk
  · simp at hk; omega
theorem Marked.size {w w' : World} {a : Option Addr} (h : Marked w w' a) : w.heap.size ≤ w'.heap.size := World.grownBy.size h



/-- Two rows of which one is the other are told to be the same. -/
theorem eqBits_same (V : Int) (a b : Option Addr) (c d : Nat) (xs : List Nat) (w : World) (hr : Rd w a xs) (hs : Rd w b xs) :
    Calls Tryd.prog 63 #[.agg #[.int .i64 V, .slice a xs.length c], .agg #[.int .i64 V, .slice b xs.length d]] w fun e w' => e = .returned (.bool true) ∧ Below w.heap.size w w' := by
  have h := eqBits_any V V a b c d xs xs w hr hs
  simpa using h

theorem RetB.fr {w w' : World} {r : Int × List Nat × Bool} {e : Ending} (h : RetB w r e w') : ∃ a c, e = .returned (.tuple #[.agg #[.int .i64 r.1, .slice a r.2.1.length c], .bool r.2.2]) ∧ Fr w' w.heap.size w'.heap.size a r.2.1 ∧ Below w.heap.size w w' := by
  obtain ⟨a, c, he, hf, hb⟩ := h
  exact ⟨a, c, he, hf.fr, hb⟩

end Go.Proofs.YteenmffhbgpahaaDoor
