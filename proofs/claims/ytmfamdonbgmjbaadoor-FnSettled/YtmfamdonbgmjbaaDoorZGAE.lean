/- Several texts in one. -/
import Derived.Test.YtmfamdonbgmjbaaDoorZGAD
import Derived.Test.YtmfamdonbgmjbaaDoorZGAC
import Derived.Lib.TrailingZeros
import Derived.Shelf.Spec.TrailingZeros
import Derived.Test.YtmfamdonbgmjbaaDoorZGAG
import Derived.Test.YtmfamdonbgmjbaaDoorZGAF

/- Places as bits of words: add, takeLeast. -/
namespace Go.Proofs.YtmfamdonbgmjbaaDoor
set_option linter.unusedVariables false
set_option linter.unusedSimpArgs false
open Go.RowKit

/-- Whether a place is among those that words tell. -/
def plB (ws : List Nat) (p : Nat) : Bool := (ws.getD (p / 64) 0).testBit (p % 64)
/-- A word without its lowest bit. -/
theorem low_off {x : Nat} (h0 : x ≠ 0) (hx : x < 2 ^ 64) (q : Nat) : (x &&& (x - 1)).testBit q = (x.testBit q && decide (q ≠ Lib.ctz 64 x)) := by
  obtain ⟨m, hm, hk⟩ := Lib.ctzFrom_spec 64 x (by omega) hx
  have hc : Lib.ctz 64 x = Lib.ctzFrom 64 x := by unfold Lib.ctz; rw [if_neg h0]
  rw [hc]
  generalize Lib.ctzFrom 64 x = k at *
  have hp : 0 < 2 ^ k := Nat.two_pow_pos k
  have e1 : x = 2 ^ k * (2 * m + 1) + 0 := by omega
  have e2 : x - 1 = 2 ^ k * (2 * m) + (2 ^ k - 1) := by rw [hm, Nat.mul_add, Nat.mul_one]; omega
  rw [Nat.testBit_and]
  have t1 : x.testBit q = if q < k then false else (2 * m + 1).testBit (q - k) := by
    rw [e1, Nat.testBit_two_pow_mul_add _ hp]
    simp
  have t2 : (x - 1).testBit q = if q < k then true else (2 * m).testBit (q - k) := by
    rw [e2, Nat.testBit_two_pow_mul_add _ (by omega), Nat.testBit_two_pow_sub_one]
    split <;> simp_all
  rw [t1, t2]
  by_cases hq : q < k
  · simp [hq]
  · rw [if_neg hq, if_neg hq]
    by_cases e : q = k
    · subst e; simp
    · obtain ⟨r, hr⟩ : ∃ r, q - k = r + 1 := ⟨q - k - 1, by omega⟩
      rw [hr, Nat.testBit_succ, Nat.testBit_succ]
      have a1 : (2 * m + 1) / 2 = m := by omega
      have a2 : 2 * m / 2 = m := by omega
      rw [a1, a2]
      simp [e]
theorem low_on {x : Nat} (h0 : x ≠ 0) (hx : x < 2 ^ 64) : x.testBit (Lib.ctz 64 x) = true ∧ ∀ q, q < Lib.ctz 64 x → x.testBit q = false := by
  obtain ⟨m, hm, hk⟩ := Lib.ctzFrom_spec 64 x (by omega) hx
  have hc : Lib.ctz 64 x = Lib.ctzFrom 64 x := by unfold Lib.ctz; rw [if_neg h0]
  rw [hc]
  generalize Lib.ctzFrom 64 x = k at *
  have hp : 0 < 2 ^ k := Nat.two_pow_pos k
  have e1 : x = 2 ^ k * (2 * m + 1) + 0 := by omega
  have t1 : ∀ q, x.testBit q = if q < k then false else (2 * m + 1).testBit (q - k) := fun q => by
    rw [e1, Nat.testBit_two_pow_mul_add _ hp]
    simp
  refine ⟨?_, fun q hq => ?_⟩
  · rw [t1, if_neg (by omega), Nat.sub_self]; simp
  · rw [t1, if_pos hq]
theorem low_lt {x : Nat} (h0 : x ≠ 0) (hx : x < 2 ^ 64) : Lib.ctz 64 x < 64 := (Lib.lowest_bit 64 x h0 hx).2
/-- A place more. -/
theorem plB_add {ws : List Nat} {p q : Nat} (hp : p / 64 < ws.length) : plB (ws.set (p / 64) (ws.getD (p / 64) 0 ||| 1 <<< (p % 64))) q = (plB ws q || decide (q = p)) := by
  unfold plB
  by_cases e : p / 64 = q / 64
  · rw [← e, List.getD_eq_getElem?_getD, List.getElem?_set_self hp, Option.getD_some, Nat.testBit_or, Nat.shiftLeft_eq, Nat.one_mul, Nat.testBit_two_pow]
    congr 1
    apply decide_eq_decide.2
    constructor <;> intro h <;> omega
  · rw [List.getD_eq_getElem?_getD, List.getElem?_set_ne e, ← List.getD_eq_getElem?_getD]
    rw [show decide (q = p) = false by apply decide_eq_false; intro h; subst h; exact e rfl, Bool.or_false]
/-- The least place. -/
theorem plB_least {ws : List Nat} {i : Nat} (hi : i < ws.length) (h0 : ∀ j, j < i → ws.getD j 0 = 0) (hn : ws.getD i 0 ≠ 0) (hx : ws.getD i 0 < 2 ^ 64) :
    plB ws (i * 64 + Lib.ctz 64 (ws.getD i 0)) = true ∧ (∀ q, q < i * 64 + Lib.ctz 64 (ws.getD i 0) → plB ws q = false) ∧
    ∀ q, plB (ws.set i (ws.getD i 0 &&& (ws.getD i 0 - 1))) q = (plB ws q && decide (q ≠ i * 64 + Lib.ctz 64 (ws.getD i 0))) := by
  have hl := low_lt hn hx
  obtain ⟨h1, h2⟩ := low_on hn hx
  have h3 := low_off hn hx
  generalize Lib.ctz 64 (ws.getD i 0) = k at *
  have d1 : (i * 64 + k) / 64 = i := by omega
  have d2 : (i * 64 + k) % 64 = k := by omega
  refine ⟨by unfold plB; rw [d1, d2]; exact h1, fun q hq => ?_, fun q => ?_⟩
  · unfold plB
    by_cases e : q / 64 = i
    · rw [e]; exact h2 _ (by omega)
    · rw [h0 _ (by omega)]; exact Nat.zero_testBit _
  · unfold plB
    by_cases e : i = q / 64
    · rw [← e, List.getD_eq_getElem?_getD, List.getElem?_set_self hi, Option.getD_some, h3]
      congr 1
      apply decide_eq_decide.2
      constructor <;> intro h <;> omega
    · rw [List.getD_eq_getElem?_getD, List.getElem?_set_ne e, ← List.getD_eq_getElem?_getD]
      rw [show decide (q ≠ i * 64 + k) = true by apply decide_eq_true; intro h; omega, Bool.and_true]
theorem plB_none {ws : List Nat} (h0 : ∀ j, j < ws.length → ws.getD j 0 = 0) (q : Nat) : plB ws q = false := by
  unfold plB
  by_cases e : q / 64 < ws.length
  · rw [h0 _ e]; exact Nat.zero_testBit _
  · rw [List.getD_eq_getElem?_getD, List.getElem?_eq_none (by omega)]; exact Nat.zero_testBit _

set_option maxHeartbeats 1000000 in
theorem tz_core (x k idx : Nat) (w : World) (h0 : ((x : Int) == 0) = false)
    (key : IntKind.u64.wrap (bits BinOp.and IntKind.u64 (x : Int) (IntKind.u64.wrap (-(x : Int))) * 285870213051353865) / 288230376151711744 = (idx : Int))
    (hi : idx < 64) (hk : k < 64) (hcell : w.cell? ⟨0, idx, none⟩ = some (.int .u8 k)) :
    Calls Tryd.prog 75 #[.int .u64 x] w fun e w' => e = .returned (.int .i64 k) ∧ w' = w := by
  go_enter Tryd.func75, Tryd.ntmps75
  go_wp2_with (simp only [key])
  go_ret
  exact ⟨rfl, rfl⟩
theorem tz_any (x : Nat) (hx0 : x ≠ 0) (hx : x < 18446744073709551616) (w : World) (hT : TabAt 0 Lib.deBruijn64tab w) :
    Calls Tryd.prog 75 #[.int .u64 x] w fun e w' => e = .returned (.int .i64 (Lib.ctz 64 x)) ∧ w' = w := by
  obtain ⟨hlow, hk⟩ := Lib.lowest_bit 64 x hx0 hx
  obtain ⟨hi, htab⟩ := Lib.deBruijn64_at _ hk
  have hcell := hT _ hi
  rw [htab] at hcell
  exact tz_core x _ _ w (by simp; omega) (tz64_key x _ hx hx0 hlow) hi hk hcell
end Go.Proofs.YtmfamdonbgmjbaaDoor

/- Places: add, takeLeast, walked. -/
namespace Go.Proofs.YtmfamdonbgmjbaaDoor
set_option linter.unusedVariables false
set_option linter.unusedSimpArgs false
open Go.RowKit

/-- Nothing but block b changes of what was there. -/
def Ob (b : Nat) (w w' : World) : Prop := w'.os = w.os ∧ w'.tape = w.tape ∧ w'.output = w.output ∧ w.heap.size ≤ w'.heap.size ∧ ∀ k, k < w.heap.size → k ≠ b → w'.heap[k]? = w.heap[k]?
theorem Ob.refl (b : Nat) (w : World) : Ob b w w := ⟨rfl, rfl, rfl, Nat.le_refl _, fun _ _ _ => rfl⟩
theorem Ob.trans {b : Nat} {w w1 w2 : World} (h : Ob b w w1) (h' : Ob b w1 w2) : Ob b w w2 :=
  ⟨h'.1.trans h.1, h'.2.1.trans h.2.1, h'.2.2.1.trans h.2.2.1, Nat.le_trans h.2.2.2.1 h'.2.2.2.1, fun k hk ho => (h'.2.2.2.2 k (Nat.lt_of_lt_of_le hk h.2.2.2.1) ho).trans (h.2.2.2.2 k hk ho)⟩
theorem Ob.below {b : Nat} {w w' : World} (h : Below w.heap.size w w') : Ob b w w' := ⟨h.os, h.tape, h.output, h.size, fun k hk _ => h.block k hk⟩
theorem Ob.set {b o : Nat} (w : World) (v : Value) : Ob b w (w.setCell ⟨b, o, none⟩ v) := ⟨rfl, rfl, rfl, by simp, fun k _ ho => heap_setCell_other _ _ _ _ ho⟩
theorem Ob.bz {w w' : World} {b c : Nat} {cs : Array Value} {t : TypeId} (h : Ob b w w') (hz : Bz w c cs t) (hn : c ≠ b) : Bz w' c cs t := (h.2.2.2.2 c hz.lt hn).trans hz
theorem Ob.bel {w w' : World} {b B : Nat} (h : Ob b w w') (hB : B ≤ b) (hw : B ≤ w.heap.size) : Below B w w' := ⟨h.1, h.2.1, h.2.2.1, h.2.2.2.1, fun k hk => h.2.2.2.2 k (by omega) (by omega)⟩
theorem Ob.cellN {w w' : World} {b g i : Nat} (h : Ob b w w') (hg : g < w.heap.size) (hn : g ≠ b) : w'.cell? ⟨g, i, none⟩ = w.cell? ⟨g, i, none⟩ := World.cell?_of_block (w := w) (a := ⟨g, i, none⟩) (h.2.2.2.2 g hg hn)

def wsV (ws : List Nat) : Array Value := (ws.map fun (n : Nat) => Value.int .u64 (n : Int)).toArray
theorem wsV_at {ws : List Nat} {i : Nat} (h : i < ws.length) : (wsV ws)[i]? = some (Value.int .u64 ((ws.getD i 0 : Nat) : Int)) := by simp [wsV, h]
theorem wsV_set (ws : List Nat) (i x : Nat) : (wsV ws).setIfInBounds i (Value.int .u64 (x : Int)) = wsV (ws.set i x) := by
  simp [wsV, List.map_set]

set_option maxHeartbeats 2000000 in
set_option maxRecDepth 100000 in
theorem addP_any (b n c p : Nat) (ws : List Nat) (w : World) (hb : Bz w b (wsV ws) 108) (hn : ws.length = n) (hp : p / 64 < n) (hp9 : p < 1048576) (hlt : ∀ i, ws.getD i 0 < 18446744073709551616) :
    Calls Tryd.prog 61 #[.agg #[.slice (some ⟨b, 0, none⟩) n c], .int .i64 (p : Int)] w fun e w' => e = .returned (.tuple #[]) ∧ Bz w' b (wsV (ws.set (p / 64) (ws.getD (p / 64) 0 ||| 1 <<< (p % 64)))) 108 ∧ Ob b w w' := by
  obtain ⟨pd, hpd⟩ : ∃ pd, p / 64 = pd := ⟨_, rfl⟩
  obtain ⟨pm, hpm⟩ : ∃ pm, p % 64 = pm := ⟨_, rfl⟩
  rw [hpd, hpm]
  rw [hpd] at hp
  have hm64 : pm < 64 := by omega
  obtain ⟨x, hx⟩ : ∃ x, ws.getD pd 0 = x := ⟨_, rfl⟩
  have hx9 := hlt pd
  rw [hx] at hx9 ⊢
  obtain ⟨sh, hsh⟩ : ∃ sh, 1 <<< pm = sh := ⟨_, rfl⟩
  rw [hsh]
  have hs9 : sh < 18446744073709551616 := by rw [← hsh, Nat.one_shiftLeft]; exact Nat.pow_lt_pow_right (by omega) hm64
  obtain ⟨y, hy⟩ : ∃ y, x ||| sh = y := ⟨_, rfl⟩
  have e1 : (p : Int).tdiv 64 = (pd : Int) := by rw [Int.tdiv_eq_ediv_of_nonneg (by omega)]; omega
  have e2 : (p : Int).tmod 64 = (pm : Int) := by rw [Int.tmod_eq_emod_of_nonneg (by omega)]; omega
  have e3 : bits .or .u64 (x : Int) (sh : Int) = (y : Int) := by rw [bits_or_u64_nat x sh hx9 hs9, hy]
  have e4 : IntKind.i64.wrap (pd : Int) = (pd : Int) := by rw [IntKind.wrap_i64]; omega
  have e5 : IntKind.u64.wrap (2 ^ pm) = (sh : Int) := by
    have h5 : (2 : Int) ^ pm = (sh : Int) := by rw [← hsh, Nat.one_shiftLeft]; simp
    rw [h5, IntKind.wrap_u64]
    omega
  rw [hy]
  have HXX : Hid ((wsV ws)[pd]? = some (Value.int .u64 (x : Int))) := by show _ = _; rw [wsV_at (by omega), hx]
  have HOB : Hid (Ob b w (w.alloc (Obj.cells #[Value.slice (some ⟨b, 0, none⟩) n c] 66))) := Ob.below ((Below.refl _ _).alloc (Nat.le_refl _) _)
  have HBX : Hid (Bz (w.alloc (Obj.cells #[Value.slice (some ⟨b, 0, none⟩) n c] 66)) w.heap.size #[Value.slice (some ⟨b, 0, none⟩) n c] 66) := Bz.new _ _ _
  have HBZ := kide (hb.later (show Below w.heap.size w (w.alloc (Obj.cells #[Value.slice (some ⟨b, 0, none⟩) n c] 66)) from (Below.refl _ _).alloc (Nat.le_refl _) _))
  have k1 : (pd : Int) < (n : Int) := by omega
  have k2 : (pm : Int) < 64 := by omega
  have HPD := kide hpd
  clear hb hlt hx hy hsh hpd hpm
  go_enter Tryd.func61, Tryd.ntmps61
  go_wp2_with fail
  generalize w.alloc (Obj.cells #[Value.slice (some ⟨b, 0, none⟩) n c] 66) = w0 at *
  refine wp_region_x (SA := fun uu => uu.cell? ⟨w.heap.size, 0, none⟩ = some (Value.slice (some ⟨b, 0, none⟩) n c) ∧ uu.cell? ⟨b, pd, none⟩ = some (Value.int .u64 (x : Int))) (SB := fun _ => True) (k := 11) (by kernel_rfl) ?_
  have hbd : Below w0.heap.size w0 w0.drew := (Below.refl _ _).drew
  have BZ0 := kide (HBZ.out.later hbd)
  have OB0 := kide (HOB.out.trans (Ob.below hbd))
  have c0_0 : w0.drew.cell? ⟨w.heap.size, 0, none⟩ = some (Value.slice (some ⟨b, 0, none⟩) n c) := (HBX.out.later hbd).cell 0
  have c1_0 : w0.drew.cell? ⟨b, pd, none⟩ = some (Value.int .u64 (x : Int)) := (BZ0.out.cell pd).trans HXX.out
  clear hbd
  generalize w0.drew = u0 at *
  have hs0 : Hid ((fun uu => uu.cell? ⟨w.heap.size, 0, none⟩ = some (Value.slice (some ⟨b, 0, none⟩) n c) ∧ uu.cell? ⟨b, pd, none⟩ = some (Value.int .u64 (x : Int))) u0) := ⟨c0_0, c1_0⟩
  try go_simp
  refine wpAnyX_both (T := fun _ => True) (i := 0) (v := Value.pointer (some ⟨w.heap.size, 0, none⟩)) rfl (by kernel_rfl) (by kernel_rfl) (by kernel_rfl) (fun _ _ _ h => by first | exact h | exact h.elim) (by decide) (fun _ _ => trivial) (fun _ _ => trivial) (Sx.before (by kernel_rfl) hs0.out) (Or.inl ⟨by rfl, fun uu hu => by go_simp⟩) ?_
  try go_simp
  refine wpAnyX_take (i := 1) (v := Value.slice (some ⟨b, 0, none⟩) n c) rfl (by kernel_rfl) (by kernel_rfl) (by kernel_rfl) (fun _ _ _ h => by first | exact h | exact h.elim) (by decide) (by kernel_rfl) (by kernel_rfl) hs0.out (Or.inl ⟨by rfl, fun uu hu => by obtain ⟨e0, e1⟩ := hu; go_simp⟩) ?_
  try go_simp
  refine wpAnyX_both (T := fun _ => True) (i := 2) (v := Value.int .i64 (p : Int)) rfl (by kernel_rfl) (by kernel_rfl) (by kernel_rfl) (fun _ _ _ h => by first | exact h | exact h.elim) (by decide) (fun _ _ => trivial) (fun _ _ => trivial) (Sx.before (by kernel_rfl) hs0.out) (Or.inl ⟨by rfl, fun uu hu => by go_simp⟩) ?_
  try go_simp
  refine wpAnyX_both (T := fun _ => True) (i := 3) (v := Value.int .i64 (pd : Int)) rfl (by kernel_rfl) (by kernel_rfl) (by kernel_rfl) (fun _ _ _ h => by first | exact h | exact h.elim) (by decide) (fun _ _ => trivial) (fun _ _ => trivial) (Sx.before (by kernel_rfl) hs0.out) (Or.inl ⟨by rfl, fun uu hu => by go_simp⟩) ?_
  try go_simp
  refine wpAnyX_both (T := fun _ => True) (i := 4) (v := Value.pointer (some ⟨b, pd, none⟩)) rfl (by kernel_rfl) (by kernel_rfl) (by kernel_rfl) (fun _ _ _ h => by first | exact h | exact h.elim) (by decide) (fun _ _ => trivial) (fun _ _ => trivial) (Sx.before (by kernel_rfl) hs0.out) (Or.inl ⟨by rfl, fun uu hu => by go_simp⟩) ?_
  try go_simp
  refine wpAnyX_take (i := 5) (v := Value.int .u64 (x : Int)) rfl (by kernel_rfl) (by kernel_rfl) (by kernel_rfl) (fun _ _ _ h => by first | exact h | exact h.elim) (by decide) (by kernel_rfl) (by kernel_rfl) hs0.out (Or.inl ⟨by rfl, fun uu hu => by obtain ⟨e0, e1⟩ := hu; go_simp⟩) ?_
  try go_simp
  refine wpAnyX_both (T := fun _ => True) (i := 6) (v := Value.int .i64 (p : Int)) rfl (by kernel_rfl) (by kernel_rfl) (by kernel_rfl) (fun _ _ _ h => by first | exact h | exact h.elim) (by decide) (fun _ _ => trivial) (fun _ _ => trivial) (Sx.before (by kernel_rfl) hs0.out) (Or.inl ⟨by rfl, fun uu hu => by go_simp⟩) ?_
  try go_simp
  refine wpAnyX_both (T := fun _ => True) (i := 7) (v := Value.int .i64 (pm : Int)) rfl (by kernel_rfl) (by kernel_rfl) (by kernel_rfl) (fun _ _ _ h => by first | exact h | exact h.elim) (by decide) (fun _ _ => trivial) (fun _ _ => trivial) (Sx.before (by kernel_rfl) hs0.out) (Or.inl ⟨by rfl, fun uu hu => by go_simp⟩) ?_
  try go_simp
  refine wpAnyX_both (T := fun _ => True) (i := 8) (v := Value.int .u64 (sh : Int)) rfl (by kernel_rfl) (by kernel_rfl) (by kernel_rfl) (fun _ _ _ h => by first | exact h | exact h.elim) (by decide) (fun _ _ => trivial) (fun _ _ => trivial) (Sx.before (by kernel_rfl) hs0.out) (Or.inl ⟨by rfl, fun uu hu => by go_simp⟩) ?_
  try go_simp
  refine wpAnyX_both (T := fun _ => True) (i := 9) (v := Value.int .u64 (y : Int)) rfl (by kernel_rfl) (by kernel_rfl) (by kernel_rfl) (fun _ _ _ h => by first | exact h | exact h.elim) (by decide) (fun _ _ => trivial) (fun _ _ => trivial) (Sx.before (by kernel_rfl) hs0.out) (Or.inl ⟨by rfl, fun uu hu => by go_simp⟩) ?_
  try go_simp
  refine wpAnyX_both (T := fun _ => True) (i := 10) (v := Value.pointer (some ⟨b, pd, none⟩)) rfl (by kernel_rfl) (by kernel_rfl) (by kernel_rfl) (fun _ _ _ h => by first | exact h | exact h.elim) (by decide) (fun _ _ => trivial) (fun _ _ => trivial) (Sx.before (by kernel_rfl) hs0.out) (Or.inl ⟨by rfl, fun uu hu => by go_simp⟩) ?_
  try go_simp
  refine wpAnyX_ready (rs := [11]) (by kernel_rfl) (by simp) (AllX.cons rfl (fun K hK => ?_) AllX.nil)
  have q9 := c1_0
  have z9 := BZ0.out.froz pd
  go_simp
  have BZ1 := kide (BZ0.out.set pd (.int .u64 (y : Int)))
  have OB1 := kide (OB0.out.trans (Ob.set (o := pd) u0 (.int .u64 (y : Int))))
  clear q9 z9
  generalize (u0.setCell ⟨b, pd, none⟩ (.int .u64 (y : Int))) = u1 at *
  refine hK _ _ (Sx.behind (by kernel_rfl) trivial) ?_
  clear hK K
  try go_simp
  refine wpAnyX_done (by kernel_rfl) ?_ _
  rw [wsV_set] at BZ1
  go_wp2_with fail
  exact bodyPost_end (v := .tuple #[]) (by simp [results, Tryd.results61, go_sem]) rfl ⟨rfl, BZ1.out, OB1.out⟩

set_option maxHeartbeats 2000000 in
set_option maxRecDepth 100000 in
theorem takeLeast_any (b n c : Nat) (ws : List Nat) (w : World) (hb : Bz w b (wsV ws) 108) (hn : ws.length = n) (hn9 : n < 1048576) (hlt : ∀ i, ws.getD i 0 < 18446744073709551616) (hT : TabAt 0 Lib.deBruijn64tab w) (hb00 : b ≠ 0) :
    Calls Tryd.prog 64 #[.agg #[.slice (some ⟨b, 0, none⟩) n c]] w fun e w' => ∃ (p : Nat) (f : Bool) (ws' : List Nat), e = .returned (.tuple #[.int .i64 (p : Int), .bool f]) ∧ Bz w' b (wsV ws') 108 ∧ Ob b w w' ∧ ws'.length = n ∧ (∀ i, ws'.getD i 0 < 18446744073709551616) ∧
      ((f = false ∧ ws' = ws ∧ ∀ q, plB ws q = false) ∨ (f = true ∧ plB ws p = true ∧ (∀ q, q < p → plB ws q = false) ∧ ∀ q, plB ws' q = (plB ws q && decide (q ≠ p)))) := by
  have HBX : Hid (Bz (w.alloc (Obj.cells #[Value.slice (some ⟨b, 0, none⟩) n c] 66)) w.heap.size #[Value.slice (some ⟨b, 0, none⟩) n c] 66) := Bz.new _ _ _
  have hb0 : Below w.heap.size w (w.alloc (Obj.cells #[Value.slice (some ⟨b, 0, none⟩) n c] 66)) := (Below.refl _ _).alloc (Nat.le_refl _) _
  have HBZ := kide (hb.later hb0)
  have HOB : Hid (Ob b w (w.alloc (Obj.cells #[Value.slice (some ⟨b, 0, none⟩) n c] 66))) := Ob.below hb0
  have hlb := hb.lt
  have hT0 : TabAt 0 Lib.deBruijn64tab (w.alloc (Obj.cells #[Value.slice (some ⟨b, 0, none⟩) n c] 66)) := fun j hj => (hb0.cell (p := ⟨0, j, none⟩) (by show 0 < w.heap.size; omega)).trans (hT j hj)
  have HTS : Hid (∀ (v : Value) (W : World), ∀ k, (w.alloc (Obj.cells #[Value.slice (some ⟨b, 0, none⟩) n c] 66)).setCell ⟨b, k, none⟩ v = W → TabAt 0 Lib.deBruijn64tab W) := fun v W k e j hj => by
    rw [← e]
    have h1 : b ≠ 0 := hb00
    exact ((Ob.set (b := b) (o := k) _ v).cellN (by rw [World.size_alloc]; omega) (fun e => h1 e.symm)).trans (hT0 j hj)
  clear hT0
  have HLT := kide hlt
  have HN := kide hn
  have HB0 := kide hb0
  clear hb hlt hT hn hb0
  go_enter Tryd.func64, Tryd.ntmps64
  go_wp2_with fail
  generalize w.alloc (Obj.cells #[Value.slice (some ⟨b, 0, none⟩) n c] 66) = w0 at *
  go_loopw [9] (fun i wr => wr = w0 ∧ ∃ k : Nat, k ≤ n ∧ i = .int .i64 (k : Int) ∧ ∀ j, j < k → ws.getD j 0 = 0) (fun i _ => n - (intOf i).toNat)
  case atStart => exact ⟨rfl, 0, Nat.zero_le _, rfl, fun j h => absurd h (by omega)⟩
  case round =>
    obtain ⟨rfl, k, hk, rfl, hz⟩ := hrel
    have HZ := kide hz
    clear hz
    have d0 := HBX.out.cell 0
    by_cases hlt : k < n
    · obtain ⟨x, hx⟩ : ∃ x, ws.getD k 0 = x := ⟨_, rfl⟩
      have d1 := HBZ.out.cell k
      rw [wsV_at (by rw [HN.out]; exact hlt), hx] at d1
      have j0 : (k : Int) < (n : Int) := by omega
      have hx9 := HLT.out k
      rw [hx] at hx9
      have HX := kide hx
      clear hx
      by_cases hx0 : x = 0
      · subst hx0
        go_wp2_with fail
        go_roundw
        case rel => exact ⟨trivial, k + 1, by omega, by go_num, fun j hj => by
          by_cases e : j < k
          · exact HZ.out j e
          · obtain rfl : j = k := by omega
            exact HX.out⟩
        case measure => simp only [intOf]; omega
      · have q0 : (((x : Nat) : Int) != 0) = true := by simp [hx0]
        have q1 : IntKind.u64.wrap ((x : Int) - 1) = ((x - 1 : Nat) : Int) := by rw [IntKind.wrap_u64]; omega
        have q2 : bits .and .u64 (x : Int) ((x - 1 : Nat) : Int) = ((x &&& (x - 1) : Nat) : Int) := bits_and_u64_nat x (x - 1) hx9 (by omega)
        have z0 := HBZ.out.froz k
        have B1 := kide (HBZ.out.set k (.int .u64 ((x &&& (x - 1) : Nat) : Int)))
        rw [wsV_set] at B1
        have O1 := kide (HOB.out.trans (Ob.set (b := b) (o := k) wr (.int .u64 ((x &&& (x - 1) : Nat) : Int))))
        have PL := kide (plB_least (ws := ws) (i := k) (by rw [HN.out]; exact hlt) HZ.out (by rw [HX.out]; exact hx0) (by rw [HX.out]; exact hx9))
        rw [HX.out] at PL
        have hc := low_lt hx0 hx9
        obtain ⟨x1, hx1⟩ : ∃ x1, x - 1 = x1 := ⟨_, rfl⟩
        obtain ⟨y, hy⟩ : ∃ y, x &&& x1 = y := ⟨_, rfl⟩
        have HY : Hid (y < 18446744073709551616) := by show y < _; rw [← hy]; exact Nat.lt_of_le_of_lt Nat.and_le_left hx9
        rw [hx1] at q1 q2 B1 O1 PL
        rw [hy] at q2 B1 O1 PL
        obtain ⟨W1, hW1⟩ : ∃ W1, wr.setCell ⟨b, k, none⟩ (.int .u64 (y : Int)) = W1 := ⟨_, rfl⟩
        have T1 : Hid (TabAt 0 Lib.deBruijn64tab W1) := HTS.out _ _ _ hW1
        rw [hW1] at B1 O1
        have HTZ := kide (tz_any x hx0 hx9 W1 T1.out)
        obtain ⟨t, ht⟩ : ∃ t, Lib.ctz 64 x = t := ⟨_, rfl⟩
        rw [ht] at HTZ PL hc
        have q3 : IntKind.i64.wrap ((k : Int) * 64) = (k : Int) * 64 := by rw [IntKind.wrap_i64]; omega
        have q4 : IntKind.i64.wrap ((k : Int) * 64 + (t : Int)) = ((k * 64 + t : Nat) : Int) := by rw [IntKind.wrap_i64]; omega
        have HX9 := kide hx9
        have HX0 := kide hx0
        have HLK := kide hlt
        clear hx9 hx0 hx1 hy hc ht
        go_wp2_with fail
        refine Calls.mono HTZ.out ?_
        rintro e u ⟨rfl, hw9⟩
        obtain rfl := hw9.symm
        clear hw9
        go_wp2_with fail
        exact bodyPost_ret (v := .tuple #[.int .i64 ((k * 64 + t : Nat) : Int), .bool true]) (by simp [results, Tryd.results64, go_sem]) rfl ⟨_, _, _, rfl, B1.out, O1.out, by rw [List.length_set]; exact HN.out, fun i => by
          by_cases e : k = i
          · subst e
            rw [List.getD_eq_getElem?_getD, List.getElem?_set_self (by rw [HN.out]; exact HLK.out), Option.getD_some]
            exact HY.out
          · rw [List.getD_eq_getElem?_getD, List.getElem?_set_ne e, ← List.getD_eq_getElem?_getD]
            exact HLT.out i, .inr ⟨rfl, PL.out.1, PL.out.2.1, PL.out.2.2⟩⟩
    · obtain rfl : k = n := by omega
      have HNO := kide (plB_none (ws := ws) (fun j hj => HZ.out j (by rw [← HN.out]; exact hj)))
      go_wp2_with fail
      exact bodyPost_ret (v := .tuple #[.int .i64 ((0 : Nat) : Int), .bool false]) (by simp [results, Tryd.results64, go_sem]) rfl ⟨_, _, ws, rfl, HBZ.out, HOB.out, HN.out, HLT.out, .inl ⟨rfl, rfl, HNO.out⟩⟩
end Go.Proofs.YtmfamdonbgmjbaaDoor

/- The watcher in memory; seat, isSo. -/
namespace Go.Proofs.YtmfamdonbgmjbaaDoor
set_option linter.unusedVariables false
set_option linter.unusedSimpArgs false
open Go.RowKit

/-- The blocks of a watcher. -/
structure Wb where
  ex : List (Nat × Array Value × TypeId)
  bx : Nat
  ey : Nat
  wt : Nat
  st : Nat
  du : Nat
/-- What stands, by seats. -/
def seL (S N : Nat) (T : List Int) : List Value := (List.range N).map fun (i : Nat) => .bool (decide ((i : Int) - (S : Int) ∈ T))
theorem seL_len (S N : Nat) (T : List Int) : (seL S N T).length = N := by simp [seL]
theorem seL_at {S N : Nat} {T : List Int} {i : Nat} (h : i < N) : (seL S N T)[i]? = some (.bool (decide ((i : Int) - (S : Int) ∈ T))) := by simp [seL, h]
theorem seL_nil (S N : Nat) : seL S N [] = mtL N [] := by simp [seL, mtL]
theorem seL_snoc {S N : Nat} {T : List Int} {x : Int} {j : Nat} (hx : (S : Int) + x = (j : Int)) : (seL S N T).set j (.bool true) = seL S N (T ++ [x]) := by
  apply List.ext_getElem?
  intro i
  rw [List.getElem?_set, seL_len]
  by_cases h : i < N
  · rw [seL_at h, seL_at h]
    by_cases e : j = i
    · subst e
      have : (j : Int) - (S : Int) = x := by omega
      simp [h, this]
    · rw [if_neg e]
      congr 2
      have : ((i : Int) - (S : Int) = x) = False := by simp; omega
      simp [List.mem_append, this]
  · rw [List.getElem?_eq_none (l := seL S N (T ++ [x])) (by rw [seL_len]; omega)]
    split
    · rw [if_neg (by omega)]
    · exact List.getElem?_eq_none (by rw [seL_len]; omega)
/-- The places of the eyes, two for a clause. -/
def eyV (l : List (Nat × Nat)) : Array Value := (l.flatMap fun e => [Value.int .i64 (e.1 : Int), Value.int .i64 (e.2 : Int)]).toArray
/-- The watcher's own cells. -/
def wbV (M : Wb) (S N : Nat) (ca : Option Addr) (nc cc nw : Nat) (tv : Value) : Array Value := #[.int .i64 (S : Int), .slice ca nc cc, .slice (some ⟨M.ey, 0, none⟩) nc nc, .slice (some ⟨M.wt, 0, none⟩) N N, .slice (some ⟨M.st, 0, none⟩) N N, tv, .slice (some ⟨M.du, 0, none⟩) nw nw]
/-- Blocks of a type that no watcher has. -/
def okX (t : TypeId) : Prop := t ≠ 68 ∧ t ≠ 96 ∧ t ≠ 97 ∧ t ≠ 4 ∧ t ≠ 108 ∧ t ≠ 2 ∧ t ≠ 3
/-- The watcher as it lies; B: from where on its blocks are. -/
structure Wm (u : World) (B : Nat) (M : Wb) (S N : Nat) (ca : Option Addr) (nc cc : Nat) (tv : Value) (eyl : List (Nat × Nat)) (rows : List (Value × List Nat)) (T : List Int) (ws : List Nat) : Prop where
  bx : Bz u M.bx (wbV M S N ca nc cc ws.length tv) 68
  ey : Bz u M.ey (eyV eyl) 96
  wt : Bz u M.wt (rows.map Prod.fst).toArray 97
  st : Bz u M.st (seL S N T).toArray 4
  du : Bz u M.du (wsV ws) 108
  tr : OI u B tv T
  rw : ∀ (k : Nat) r, rows[k]? = some r → OJ u B r.1 (r.2.map fun (p : Nat) => (p : Int))
  ap : ∀ (k k' : Nat) r r' b, rows[k]? = some r → rows[k']? = some r' → r.1.ownBlock = some b → r'.1.ownBlock = some b → k = k'
  lo : B ≤ M.bx ∧ B ≤ M.ey ∧ B ≤ M.wt ∧ B ≤ M.st ∧ B ≤ M.du
  ne : eyl.length = nc
  nr : rows.length = N
  wl : ∀ i, ws.getD i 0 < 18446744073709551616
  sz : N = 2 * S + 1
  xx : ∀ x ∈ M.ex, Bz u x.1 x.2.1 x.2.2 ∧ okX x.2.2
theorem Wm.later {u u' : World} {B : Nat} {M : Wb} {S N : Nat} {ca : Option Addr} {nc cc : Nat} {tv : Value} {eyl : List (Nat × Nat)} {rows : List (Value × List Nat)} {T : List Int} {ws : List Nat} (h : Wm u B M S N ca nc cc tv eyl rows T ws) (hb : Below u.heap.size u u') : Wm u' B M S N ca nc cc tv eyl rows T ws :=
  ⟨h.bx.later hb, h.ey.later hb, h.wt.later hb, h.st.later hb, h.du.later hb, h.tr.later hb, fun k r hk => (h.rw k r hk).later hb, h.ap, h.lo, h.ne, h.nr, h.wl, h.sz, fun x hx => ⟨(h.xx x hx).1.later hb, (h.xx x hx).2⟩⟩

set_option maxHeartbeats 1000000 in
theorem seat_any {b S : Nat} {t : TypeId} {cs : Array Value} (n : Int) (w : World) (hb : Bz w b cs t) (h0 : cs[0]? = some (.int .i64 (S : Int))) (hS : S ≤ 400) (hn : -400 ≤ n ∧ n ≤ 400) :
    Calls Tryd.prog 62 #[.pointer (some ⟨b, 0, none⟩), .int .i64 n] w fun e w' => e = .returned (.int .i64 ((S : Int) + n)) ∧ w' = w := by
  have d0 := hb.cell 0
  rw [h0] at d0
  obtain ⟨h1, h2⟩ := hn
  clear hb h0
  go_enter Tryd.func62, Tryd.ntmps62
  go_wp2_with fail
  go_ret
  exact ⟨rfl, rfl⟩
set_option maxHeartbeats 1000000 in
theorem isSo_any {u : World} {B : Nat} {M : Wb} {S N : Nat} {ca : Option Addr} {nc cc : Nat} {tv : Value} {eyl : List (Nat × Nat)} {rows : List (Value × List Nat)} {T : List Int} {ws : List Nat} (h : Wm u B M S N ca nc cc tv eyl rows T ws) (hS : S ≤ 400) (n : Int) (hn : -(S : Int) ≤ n ∧ n ≤ (S : Int)) :
    Calls Tryd.prog 65 #[.pointer (some ⟨M.bx, 0, none⟩), .int .i64 n] u fun e w' => e = .returned (.bool (decide (n ∈ T))) ∧ Below u.heap.size u w' := by
  have HSE := kide (fun k => seat_any n (u.drewN k) (h.bx.later (below_drewN (Below.refl _ _) k)) rfl hS (by omega))
  have d4 : u.cell? ⟨M.bx, 4, none⟩ = some (.slice (some ⟨M.st, 0, none⟩) N N) := h.bx.cell 4
  obtain ⟨j, hj⟩ : ∃ j : Nat, (S : Int) + n = (j : Int) := ⟨((S : Int) + n).toNat, by omega⟩
  have hjN : j < N := by have := h.sz; omega
  have d5 := h.st.cell j
  rw [List.getElem?_toArray, seL_at hjN, show (j : Int) - (S : Int) = n by omega] at d5
  rw [hj] at HSE
  have k1 : (j : Int) < (N : Int) := by omega
  clear hj hn h
  go_enter Tryd.func65, Tryd.ntmps65
  go_wp2_with fail
  go_quiet ((go_at_call 62; exact Calls.quiet_of_same (HSE.out _)))
  go_wp2_with fail
  go_ret
  exact ⟨rfl, below_drewN (Below.refl _ _) _⟩
end Go.Proofs.YtmfamdonbgmjbaaDoor

/- handsOver. -/
namespace Go.Proofs.YtmfamdonbgmjbaaDoor
set_option linter.unusedVariables false
set_option linter.unusedSimpArgs false
open Go.RowKit

theorem eyV_at {l : List (Nat × Nat)} {p : Nat} {e : Nat × Nat} (h : l[p]? = some e) : (eyV l)[p * 2]? = some (.int .i64 (e.1 : Int)) ∧ (eyV l)[p * 2 + 1]? = some (.int .i64 (e.2 : Int)) := by
  unfold eyV
  simp only [List.getElem?_toArray]
  induction l generalizing p with
  | nil => simp at h
  | cons a t ih =>
    cases p with
    | zero => simp at h; subst h; simp
    | succ p =>
      simp at h
      obtain ⟨h1, h2⟩ := ih h
      rw [List.flatMap_cons]
      constructor
      · rw [show (p + 1) * 2 = 2 + p * 2 by omega, List.getElem?_append_right (by simp)]
        simpa using h1
      · rw [show (p + 1) * 2 + 1 = 2 + (p * 2 + 1) by omega, List.getElem?_append_right (by simp)]
        simpa using h2
theorem eyV_len (l : List (Nat × Nat)) : (eyV l).size = l.length * 2 := by
  unfold eyV
  rw [List.size_toArray]
  induction l with
  | nil => rfl
  | cons a t ih => rw [List.flatMap_cons, List.length_append, ih, List.length_cons]; simp; omega
theorem eyV_set0 {l : List (Nat × Nat)} {p : Nat} {e : Nat × Nat} (h : l[p]? = some e) (i : Nat) : (eyV l).setIfInBounds (p * 2) (.int .i64 (i : Int)) = eyV (l.set p (i, e.2)) := by
  unfold eyV
  rw [List.setIfInBounds_toArray]
  congr 1
  induction l generalizing p with
  | nil => simp at h
  | cons a t ih =>
    cases p with
    | zero => simp at h; subst h; simp
    | succ p =>
      simp at h
      rw [List.set_cons_succ, List.flatMap_cons, List.flatMap_cons, ← ih h, show (p + 1) * 2 = 2 + p * 2 by omega, List.set_append_right _ _ (by simp)]
      simp
theorem eyV_set1 {l : List (Nat × Nat)} {p : Nat} {e : Nat × Nat} (h : l[p]? = some e) (i : Nat) : (eyV l).setIfInBounds (p * 2 + 1) (.int .i64 (i : Int)) = eyV (l.set p (e.1, i)) := by
  unfold eyV
  rw [List.setIfInBounds_toArray]
  congr 1
  induction l generalizing p with
  | nil => simp at h
  | cons a t ih =>
    cases p with
    | zero => simp at h; subst h; simp
    | succ p =>
      simp at h
      rw [List.set_cons_succ, List.flatMap_cons, List.flatMap_cons, ← ih h, show (p + 1) * 2 + 1 = 2 + (p * 2 + 1) by omega, List.set_append_right _ _ (by simp)]
      simp
/-- Round a clause from an eye on: all others are met. -/
theorem round_all {n e i : Nat} (he : e < n) (hi : i < n) (hne : i ≠ e) : ∃ s, 1 ≤ s ∧ s ≤ n - 1 ∧ (e + s) % n = i := by
  by_cases h : e < i
  · exact ⟨i - e, by omega, by omega, by rw [show e + (i - e) = i by omega, Nat.mod_eq_of_lt hi]⟩
  · exact ⟨n - e + i, by omega, by omega, by rw [show e + (n - e + i) = n + i by omega, Nat.add_mod_left, Nat.mod_eq_of_lt hi]⟩

theorem bzNe {u : World} {a b : Nat} {cs ds : Array Value} {t t' : TypeId} (h : Bz u a cs t) (h' : Bz u b ds t') (ht : t ≠ t') : a ≠ b := fun e => by
  subst e
  have := h.symm.trans h'
  simp at this
  exact ht this.2
theorem OI.notBz {u : World} {B b : Nat} {v : Value} {l : List Int} {cs : Array Value} {t : TypeId} (h : OI u B v l) (hb : Bz u b cs t) (ht : t ≠ 2) {g : Nat} (hg : v.ownBlock = some g) : g ≠ b := by
  rcases h.2 with ⟨rfl, -⟩ | ⟨g', cap, cur, rfl, -, hh, -⟩
  · cases hg
  · cases hg
    exact bzNe hh hb (fun e => ht e.symm)
theorem OJ.notBz {u : World} {B b : Nat} {v : Value} {l : List Int} {cs : Array Value} {t : TypeId} (h : OJ u B v l) (hb : Bz u b cs t) (ht : t ≠ 3) {g : Nat} (hg : v.ownBlock = some g) : g ≠ b := by
  rcases h.2 with ⟨rfl, -⟩ | ⟨g', cap, cur, rfl, -, hh, -⟩
  · cases hg
  · cases hg
    exact bzNe hh hb (fun e => ht e.symm)
theorem OI.notJ {u : World} {B B' : Nat} {v v' : Value} {l l' : List Int} (h : OI u B v l) (h' : OJ u B' v' l') {g : Nat} (hg : v.ownBlock = some g) : v'.ownBlock ≠ some g := by
  rcases h.2 with ⟨rfl, -⟩ | ⟨g', cap, cur, rfl, -, hh, -⟩
  · cases hg
  · cases hg
    intro e
    exact h'.notBz (b := g') (cs := cur) (t := 2) hh (by decide) e rfl
/-- More is due. -/
theorem Wm.duAt {u u' : World} {B : Nat} {M : Wb} {S N : Nat} {ca : Option Addr} {nc cc : Nat} {tv : Value} {eyl : List (Nat × Nat)} {rows : List (Value × List Nat)} {T : List Int} {ws ws' : List Nat} (h : Wm u B M S N ca nc cc tv eyl rows T ws) (ho : Ob M.du u u') (hd : Bz u' M.du (wsV ws') 108) (hl : ws'.length = ws.length) (hw : ∀ i, ws'.getD i 0 < 18446744073709551616) : Wm u' B M S N ca nc cc tv eyl rows T ws' := by
  refine ⟨?_, ho.bz h.ey (bzNe h.ey h.du (by decide)), ho.bz h.wt (bzNe h.wt h.du (by decide)), ho.bz h.st (bzNe h.st h.du (by decide)), hd, ?_, ?_, h.ap, h.lo, h.ne, h.nr, hw, h.sz, fun x hx => ⟨ho.bz (h.xx x hx).1 (bzNe (h.xx x hx).1 h.du (h.xx x hx).2.2.2.2.2.1), (h.xx x hx).2⟩⟩
  · rw [hl]; exact ho.bz h.bx (bzNe h.bx h.du (by decide))
  · exact h.tr.move fun b hb => ho.2.2.2.2 b (h.tr.lt hb).2 (h.tr.notBz h.du (by decide) hb)
  · exact fun k r hk => (h.rw k r hk).move fun b hb => ho.2.2.2.2 b ((h.rw k r hk).lt hb).2 ((h.rw k r hk).notBz h.du (by decide) hb)
/-- An eye moves. -/
theorem Wm.eyAt {u u' : World} {B : Nat} {M : Wb} {S N : Nat} {ca : Option Addr} {nc cc : Nat} {tv : Value} {eyl eyl' : List (Nat × Nat)} {rows : List (Value × List Nat)} {T : List Int} {ws : List Nat} (h : Wm u B M S N ca nc cc tv eyl rows T ws) (ho : Ob M.ey u u') (hd : Bz u' M.ey (eyV eyl') 96) (hl : eyl'.length = eyl.length) : Wm u' B M S N ca nc cc tv eyl' rows T ws := by
  refine ⟨ho.bz h.bx (bzNe h.bx h.ey (by decide)), hd, ho.bz h.wt (bzNe h.wt h.ey (by decide)), ho.bz h.st (bzNe h.st h.ey (by decide)), ho.bz h.du (bzNe h.du h.ey (by decide)), ?_, ?_, h.ap, h.lo, hl.trans h.ne, h.nr, h.wl, h.sz, fun x hx => ⟨ho.bz (h.xx x hx).1 (bzNe (h.xx x hx).1 h.ey (h.xx x hx).2.2.1), (h.xx x hx).2⟩⟩
  · exact h.tr.move fun b hb => ho.2.2.2.2 b (h.tr.lt hb).2 (h.tr.notBz h.ey (by decide) hb)
  · exact fun k r hk => (h.rw k r hk).move fun b hb => ho.2.2.2.2 b ((h.rw k r hk).lt hb).2 ((h.rw k r hk).notBz h.ey (by decide) hb)
theorem gBz {u u' : World} {b : Nat} {cs : Array Value} {t : TypeId} {row : Option Nat} (h : Bz u b cs t) (hg : u.grownBy u' row) (hn : ∀ g, row = some g → g ≠ b) : Bz u' b cs t := by
  refine (hg.block b h.lt (fun e => ?_)).trans h
  exact hn b e.symm rfl
/-- A row gets a place more. -/
theorem Wm.rowAt {u u' : World} {B : Nat} {M : Wb} {S N : Nat} {ca : Option Addr} {nc cc : Nat} {tv v' : Value} {eyl : List (Nat × Nat)} {rows : List (Value × List Nat)} {T : List Int} {ws : List Nat} (h : Wm u B M S N ca nc cc tv eyl rows T ws) {j p : Nat} {r : Value × List Nat} (hr : rows[j]? = some r) (hB : B ≤ u.heap.size) (ho : OJ u' B v' ((r.2 ++ [p]).map fun (q : Nat) => (q : Int))) (hg : u.grownBy u' r.1.ownBlock) (hv : v'.ownBlock = r.1.ownBlock ∨ v'.ownBlock = some u.heap.size) :
    Wm (u'.setCell ⟨M.wt, j, none⟩ v') B M S N ca nc cc tv eyl (rows.set j (v', r.2 ++ [p])) T ws := by
  have hj := h.rw j r hr
  have b1 : Bz u' M.bx _ _ := gBz h.bx hg fun g e => hj.notBz h.bx (by decide) e
  have b2 : Bz u' M.ey _ _ := gBz h.ey hg fun g e => hj.notBz h.ey (by decide) e
  have b3 : Bz u' M.wt _ _ := gBz h.wt hg fun g e => hj.notBz h.wt (by decide) e
  have b4 : Bz u' M.st _ _ := gBz h.st hg fun g e => hj.notBz h.st (by decide) e
  have b5 : Bz u' M.du _ _ := gBz h.du hg fun g e => hj.notBz h.du (by decide) e
  have b6 : OI u' B tv T := h.tr.move fun b hb => hg.block b (h.tr.lt hb).2 (fun e => h.tr.notJ hj hb e.symm)
  have os : Ob M.wt u' (u'.setCell ⟨M.wt, j, none⟩ v') := Ob.set u' v'
  have hne : v'.ownBlock ≠ some M.wt := fun e => ho.notBz b3 (by decide) e rfl
  refine ⟨os.bz b1 (bzNe h.bx h.wt (by decide)), os.bz b2 (bzNe h.ey h.wt (by decide)), ?_, os.bz b4 (bzNe h.st h.wt (by decide)), os.bz b5 (bzNe h.du h.wt (by decide)), ?_, ?_, ?_, h.lo, h.ne, by rw [List.length_set]; exact h.nr, h.wl, h.sz, fun x hx => ⟨os.bz (gBz (h.xx x hx).1 hg fun g e => hj.notBz (h.xx x hx).1 (h.xx x hx).2.2.2.2.2.2.2 e) (bzNe (h.xx x hx).1 h.wt (h.xx x hx).2.2.2.1), (h.xx x hx).2⟩⟩
  · have := b3.set j v'
    rw [List.setIfInBounds_toArray, ← List.map_set (f := Prod.fst) (a := (v', r.2 ++ [p]))] at this
    exact this
  · exact b6.move fun b hb => os.2.2.2.2 b (b6.lt hb).2 (b6.notBz b3 (by decide) hb)
  · intro k s hk
    by_cases e : j = k
    · subst e
      rw [List.getElem?_set_self (List.getElem?_eq_some_iff.1 hr).1] at hk
      obtain rfl := Option.some.inj hk
      exact ho.move fun b hb => os.2.2.2.2 b (ho.lt hb).2 (ho.notBz b3 (by decide) hb)
    · rw [List.getElem?_set_ne e] at hk
      have h1 := h.rw k s hk
      have h2 : OJ u' B s.1 _ := h1.move fun b hb => hg.block b (h1.lt hb).2 (fun e2 => e (h.ap j k r s b hr hk e2.symm hb))
      exact h2.move fun b hb => os.2.2.2.2 b (h2.lt hb).2 (h2.notBz b3 (by decide) hb)
  · intro k k' s s' b hk hk' hb hb'
    by_cases e : j = k
    · by_cases e' : j = k'
      · exact e.symm.trans e'
      · exfalso
        subst e
        rw [List.getElem?_set_self (List.getElem?_eq_some_iff.1 hr).1] at hk
        obtain rfl := Option.some.inj hk
        rw [List.getElem?_set_ne e'] at hk'
        simp only [] at hb
        rcases hv with h1 | h1
        · rw [h1] at hb
          exact e' (h.ap j k' r s' b hr hk' hb hb')
        · rw [h1] at hb
          cases hb
          have := ((h.rw k' s' hk').lt hb').2
          omega
    · rw [List.getElem?_set_ne e] at hk
      by_cases e' : j = k'
      · exfalso
        subst e'
        rw [List.getElem?_set_self (List.getElem?_eq_some_iff.1 hr).1] at hk'
        obtain rfl := Option.some.inj hk'
        simp only [] at hb'
        rcases hv with h1 | h1
        · rw [h1] at hb'
          exact e (h.ap j k r s b hr hk hb' hb)
        · rw [h1] at hb'
          cases hb'
          have := ((h.rw k s hk).lt hb).2
          omega
      · rw [List.getElem?_set_ne e'] at hk'
        exact h.ap k k' s s' b hk hk' hb hb'

/-- What handsOver leaves. -/
def RetHn (w u : World) (M : Wb) (S N : Nat) (ca : Option Addr) (nc cc : Nat) (tv : Value) (eyl : List (Nat × Nat)) (rows : List (Value × List Nat)) (T : List Int) (ws : List Nat) (cl : List Int) (p : Nat) (m : Int) (e0 e1 : Nat) (e : Ending) (w' : World) : Prop :=
  ∃ f eyl' rows' ws', e = .returned (.bool f) ∧ Wm w' w.heap.size M S N ca nc cc tv eyl' rows' T ws' ∧ Below w.heap.size u w' ∧
    ((f = false ∧ eyl' = eyl ∧ rows' = rows ∧ ws' = ws ∧ metB T cl = true) ∨
     (f = false ∧ eyl' = eyl ∧ rows' = rows ∧ ws'.length = ws.length ∧ (∀ q, plB ws' q = (plB ws q || decide (q = p))) ∧ (opn T cl).length ≤ 1) ∨
     (f = true ∧ ws' = ws ∧ ∃ (i : Nat) (k : Int) (j : Nat) (r : Value × List Nat) (v' : Value), cl[i]? = some k ∧ -k ∉ T ∧ (S : Int) + k = (j : Int) ∧ rows[j]? = some r ∧ rows' = rows.set j (v', r.2 ++ [p]) ∧
       ((cl[e0]? = some m ∧ i ≠ e1 ∧ eyl' = eyl.set p (i, e1)) ∨ (cl[e1]? = some m ∧ i ≠ e0 ∧ eyl' = eyl.set p (e0, i)))))
end Go.Proofs.YtmfamdonbgmjbaaDoor

/- What follow asks: the closure. -/
namespace Go.Proofs.YtmfamdonbgmjbaaDoor
set_option linter.unusedVariables false
set_option linter.unusedSimpArgs false
open Go.RowKit
set_option maxHeartbeats 1000000 in
theorem follow1_any {u : World} {B : Nat} {M : Wb} {S N : Nat} {ca : Option Addr} {nc cc : Nat} {tv : Value} {eyl : List (Nat × Nat)} {rows : List (Value × List Nat)} {T : List Int} {ws : List Nat} (h : Wm u B M S N ca nc cc tv eyl rows T ws) (hS : S ≤ 400) (bo : Nat) (hb : u.cell? ⟨bo, 0, none⟩ = some (.pointer (some ⟨M.bx, 0, none⟩))) (x : Int) (hx : -(S : Int) ≤ x ∧ x ≤ (S : Int)) :
    Calls Tryd.prog 67 #[.int .i64 x, .pointer (some ⟨bo, 0, none⟩)] u fun e w' => e = .returned (.bool (!decide (-x ∈ T))) ∧ Below u.heap.size u w' := by
  have HSO := kide (isSo_any h hS (-x) (by omega))
  clear h
  go_enter Tryd.func67, Tryd.ntmps67
  go_wp2_with fail
  refine Calls.mono HSO.out ?_
  rintro e v ⟨rfl, hv⟩
  go_wp2_with fail
  go_ret
  exact ⟨rfl, hv⟩
end Go.Proofs.YtmfamdonbgmjbaaDoor
