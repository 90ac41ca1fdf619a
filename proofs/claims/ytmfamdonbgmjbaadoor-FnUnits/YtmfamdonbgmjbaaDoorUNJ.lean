/- Places: add, takeLeast, walked. -/
import Derived.Test.YtmfamdonbgmjbaaDoorUNI
import Derived.Test.YtmfamdonbgmjbaaDoorUNG
namespace Go.Proofs.YtmfamdonbgmjbaaDoor
set_option linter.unusedVariables false
set_option linter.unusedSimpArgs false
open Go.RowKit

/-- Nothing but block b changes of what was there. -/
def Ob (b : Nat) (w w' : World) : Prop := w'.os = w.os ∧ w'.tape = w.tape ∧ w'.output = w.output ∧ w.heap.size ≤ w'.heap.size ∧ ∀ k, k < w.heap.size → k ≠ b → w'.heap[k]? = w.heap[k]?
theorem Ob.refl (b : Nat) (w : World) : Ob b w w := ⟨rfl, rfl, rfl, Nat.le_refl _, fun _ _ _ => rfl⟩
theorem Ob.trans {b : Nat} {w w1 w2 : World} (h : Ob b w w1) (h' : Ob b w1 w2) : Ob b w w2 :=
  ⟨h'.1.trans h.1, h'.2.1.trans h.2.1, h'.2.2.1.trans h.2.2.1, Nat.le_trans h.2.2.2.1 h'.2.2.2.1, fun k hk ho => (h'.2.2.2.2 k (Nat.lt_of_lt_of_le hk h.2.2.2.1) ho).trans (h.2.2.2.2 k hk ho)⟩
theorem Ob.below {b : Nat} {w w' : World} (h : Below w.heap.size w w') : Ob b w w' := ⟨h.os, h.tape, h.output, h.size, fun k hk _ => h.block k hk⟩
theorem Ob.set {b o : Nat} (w : World) (v : Value) : Ob b w (w.setCell ⟨b, o, none⟩ v) := ⟨rfl, rfl, rfl, by simp, fun k _ ho => heap_setCell_other _ _ _ _ ho⟩
theorem Ob.bz {w w' : World} {b c : Nat} {cs : Array Value} {t : TypeId} (h : Ob b w w') (hz : Bz w c cs t) (hn : c ≠ b) : Bz w' c cs t := (h.2.2.2.2 c hz.lt hn).trans hz
theorem Ob.bel {w w' : World} {b B : Nat} (h : Ob b w w') (hB : B ≤ b) (hw : B ≤ w.heap.size) : Below B w w' := ⟨h.1, h.2.1, h.2.2.1, h.2.2.2.1, fun k hk => h.2.2.2.2 k (by omega) (by omega)⟩
theorem Ob.cellN {w w' : World} {b g i : Nat} (h : Ob b w w') (hg : g < w.heap.size) (hn : g ≠ b) : w'.cell? ⟨g, i, none⟩ = w.cell? ⟨g, i, none⟩ := World.cell?_of_block (w := w) (a := ⟨g, i, none⟩) (h.2.2.2.2 g hg hn)

def wsV (ws : List Nat) : Array Value := (ws.map fun (n : Nat) => Value.int .u64 (n : Int)).toArray
theorem wsV_at {ws : List Nat} {i : Nat} (h : i < ws.length) : (wsV ws)[i]? = some (Value.int .u64 ((ws.getD i 0 : Nat) : Int)) := by simp [wsV, h]
theorem wsV_set (ws : List Nat) (i x : Nat) : (wsV ws).setIfInBounds i (Value.int .u64 (x : Int)) = wsV (ws.set i x) := by
  simp [wsV, List.map_set]

set_option maxHeartbeats 2000000 in
set_option maxRecDepth 100000 in
theorem addP_any (b n c p : Nat) (ws : List Nat) (w : World) (hb : Bz w b (wsV ws) 108) (hn : ws.length = n) (hp : p / 64 < n) (hp9 : p < 1048576) (hlt : ∀ i, ws.getD i 0 < 18446744073709551616) :
    Calls Tryd.prog 61 #[.agg #[.slice (some ⟨b, 0, none⟩) n c], .int .i64 (p : Int)] w fun e w' => e = .returned (.tuple #[]) ∧ Bz w' b (wsV (ws.set (p / 64) (ws.getD (p / 64) 0 ||| 1 <<< (p % 64)))) 108 ∧ Ob b w w' := by
  obtain ⟨pd, hpd⟩ : ∃ pd, p / 64 = pd := ⟨_, rfl⟩
  obtain ⟨pm, hpm⟩ : ∃ pm, p % 64 = pm := ⟨_, rfl⟩
  rw [hpd, hpm]
  rw [hpd] at hp
  have hm64 : pm < 64 := by omega
  obtain ⟨x, hx⟩ : ∃ x, ws.getD pd 0 = x := ⟨_, rfl⟩
  have hx9 := hlt pd
  rw [hx] at hx9 ⊢
  obtain ⟨sh, hsh⟩ : ∃ sh, 1 <<< pm = sh := ⟨_, rfl⟩
  rw [hsh]
  have hs9 : sh < 18446744073709551616 := by rw [← hsh, Nat.one_shiftLeft]; exact Nat.pow_lt_pow_right (by omega) hm64
  obtain ⟨y, hy⟩ : ∃ y, x ||| sh = y := ⟨_, rfl⟩
  have e1 : (p : Int).tdiv 64 = (pd : Int) := by rw [Int.tdiv_eq_ediv_of_nonneg (by omega)]; omega
  have e2 : (p : Int).tmod 64 = (pm : Int) := by rw [Int.tmod_eq_emod_of_nonneg (by omega)]; omega
  have e3 : bits .or .u64 (x : Int) (sh : Int) = (y : Int) := by rw [bits_or_u64_nat x sh hx9 hs9, hy]
  have e4 : IntKind.i64.wrap (pd : Int) = (pd : Int) := by rw [IntKind.wrap_i64]; omega
  have e5 : IntKind.u64.wrap (2 ^ pm) = (sh : Int) := by
    have h5 : (2 : Int) ^ pm = (sh : Int) := by rw [← hsh, Nat.one_shiftLeft]; simp
    rw [h5, IntKind.wrap_u64]
    omega
  rw [hy]
  have HXX : Hid ((wsV ws)[pd]? = some (Value.int .u64 (x : Int))) := by show _ = _; rw [wsV_at (by omega), hx]
  have HOB : Hid (Ob b w (w.alloc (Obj.cells #[Value.slice (some ⟨b, 0, none⟩) n c] 66))) := Ob.below ((Below.refl _ _).alloc (Nat.le_refl _) _)
  have HBX : Hid (Bz (w.alloc (Obj.cells #[Value.slice (some ⟨b, 0, none⟩) n c] 66)) w.heap.size #[Value.slice (some ⟨b, 0, none⟩) n c] 66) := Bz.new _ _ _
  have HBZ := kide (hb.later (show Below w.heap.size w (w.alloc (Obj.cells #[Value.slice (some ⟨b, 0, none⟩) n c] 66)) from (Below.refl _ _).alloc (Nat.le_refl _) _))
  have k1 : (pd : Int) < (n : Int) := by omega
  have k2 : (pm : Int) < 64 := by omega
  have HPD := kide hpd
  clear hb hlt hx hy hsh hpd hpm
  go_enter Tryd.func61, Tryd.ntmps61
  go_wp2_with fail
  generalize w.alloc (Obj.cells #[Value.slice (some ⟨b, 0, none⟩) n c] 66) = w0 at *
  refine wp_region_x (SA := fun uu => uu.cell? ⟨w.heap.size, 0, none⟩ = some (Value.slice (some ⟨b, 0, none⟩) n c) ∧ uu.cell? ⟨b, pd, none⟩ = some (Value.int .u64 (x : Int))) (SB := fun _ => True) (k := 11) (by kernel_rfl) ?_
  have hbd : Below w0.heap.size w0 w0.drew := (Below.refl _ _).drew
  have BZ0 := kide (HBZ.out.later hbd)
  have OB0 := kide (HOB.out.trans (Ob.below hbd))
  have c0_0 : w0.drew.cell? ⟨w.heap.size, 0, none⟩ = some (Value.slice (some ⟨b, 0, none⟩) n c) := (HBX.out.later hbd).cell 0
  have c1_0 : w0.drew.cell? ⟨b, pd, none⟩ = some (Value.int .u64 (x : Int)) := (BZ0.out.cell pd).trans HXX.out
  clear hbd
  generalize w0.drew = u0 at *
  have hs0 : Hid ((fun uu => uu.cell? ⟨w.heap.size, 0, none⟩ = some (Value.slice (some ⟨b, 0, none⟩) n c) ∧ uu.cell? ⟨b, pd, none⟩ = some (Value.int .u64 (x : Int))) u0) := ⟨c0_0, c1_0⟩
  try go_simp
  refine wpAnyX_both (T := fun _ => True) (i := 0) (v := Value.pointer (some ⟨w.heap.size, 0, none⟩)) rfl (by kernel_rfl) (by kernel_rfl) (by kernel_rfl) (fun _ _ _ h => by first | exact h | exact h.elim) (by decide) (fun _ _ => trivial) (fun _ _ => trivial) (Sx.before (by kernel_rfl) hs0.out) (Or.inl ⟨by rfl, fun uu hu => by go_simp⟩) ?_
  try go_simp
  refine wpAnyX_take (i := 1) (v := Value.slice (some ⟨b, 0, none⟩) n c) rfl (by kernel_rfl) (by kernel_rfl) (by kernel_rfl) (fun _ _ _ h => by first | exact h | exact h.elim) (by decide) (by kernel_rfl) (by kernel_rfl) hs0.out (Or.inl ⟨by rfl, fun uu hu => by obtain ⟨e0, e1⟩ := hu; go_simp⟩) ?_
  try go_simp
  refine wpAnyX_both (T := fun _ => True) (i := 2) (v := Value.int .i64 (p : Int)) rfl (by kernel_rfl) (by kernel_rfl) (by kernel_rfl) (fun _ _ _ h => by first | exact h | exact h.elim) (by decide) (fun _ _ => trivial) (fun _ _ => trivial) (Sx.before (by kernel_rfl) hs0.out) (Or.inl ⟨by rfl, fun uu hu => by go_simp⟩) ?_
  try go_simp
  refine wpAnyX_both (T := fun _ => True) (i := 3) (v := Value.int .i64 (pd : Int)) rfl (by kernel_rfl) (by kernel_rfl) (by kernel_rfl) (fun _ _ _ h => by first | exact h | exact h.elim) (by decide) (fun _ _ => trivial) (fun _ _ => trivial) (Sx.before (by kernel_rfl) hs0.out) (Or.inl ⟨by rfl, fun uu hu => by go_simp⟩) ?_
  try go_simp
  refine wpAnyX_both (T := fun _ => True) (i := 4) (v := Value.pointer (some ⟨b, pd, none⟩)) rfl (by kernel_rfl) (by kernel_rfl) (by kernel_rfl) (fun _ _ _ h => by first | exact h | exact h.elim) (by decide) (fun _ _ => trivial) (fun _ _ => trivial) (Sx.before (by kernel_rfl) hs0.out) (Or.inl ⟨by rfl, fun uu hu => by go_simp⟩) ?_
  try go_simp
  refine wpAnyX_take (i := 5) (v := Value.int .u64 (x : Int)) rfl (by kernel_rfl) (by kernel_rfl) (by kernel_rfl) (fun _ _ _ h => by first | exact h | exact h.elim) (by decide) (by kernel_rfl) (by kernel_rfl) hs0.out (Or.inl ⟨by rfl, fun uu hu => by obtain ⟨e0, e1⟩ := hu; go_simp⟩) ?_
  try go_simp
  refine wpAnyX_both (T := fun _ => True) (i := 6) (v := Value.int .i64 (p : Int)) rfl (by kernel_rfl) (by kernel_rfl) (by kernel_rfl) (fun _ _ _ h => by first | exact h | exact h.elim) (by decide) (fun _ _ => trivial) (fun _ _ => trivial) (Sx.before (by kernel_rfl) hs0.out) (Or.inl ⟨by rfl, fun uu hu => by go_simp⟩) ?_
  try go_simp
  refine wpAnyX_both (T := fun _ => True) (i := 7) (v := Value.int .i64 (pm : Int)) rfl (by kernel_rfl) (by kernel_rfl) (by kernel_rfl) (fun _ _ _ h => by first | exact h | exact h.elim) (by decide) (fun _ _ => trivial) (fun _ _ => trivial) (Sx.before (by kernel_rfl) hs0.out) (Or.inl ⟨by rfl, fun uu hu => by go_simp⟩) ?_
  try go_simp
  refine wpAnyX_both (T := fun _ => True) (i := 8) (v := Value.int .u64 (sh : Int)) rfl (by kernel_rfl) (by kernel_rfl) (by kernel_rfl) (fun _ _ _ h => by first | exact h | exact h.elim) (by decide) (fun _ _ => trivial) (fun _ _ => trivial) (Sx.before (by kernel_rfl) hs0.out) (Or.inl ⟨by rfl, fun uu hu => by go_simp⟩) ?_
  try go_simp
  refine wpAnyX_both (T := fun _ => True) (i := 9) (v := Value.int .u64 (y : Int)) rfl (by kernel_rfl) (by kernel_rfl) (by kernel_rfl) (fun _ _ _ h => by first | exact h | exact h.elim) (by decide) (fun _ _ => trivial) (fun _ _ => trivial) (Sx.before (by kernel_rfl) hs0.out) (Or.inl ⟨by rfl, fun uu hu => by go_simp⟩) ?_
  try go_simp
  refine wpAnyX_both (T := fun _ => True) (i := 10) (v := Value.pointer (some ⟨b, pd, none⟩)) rfl (by kernel_rfl) (by kernel_rfl) (by kernel_rfl) (fun _ _ _ h => by first | exact h | exact h.elim) (by decide) (fun _ _ => trivial) (fun _ _ => trivial) (Sx.before (by kernel_rfl) hs0.out) (Or.inl ⟨by rfl, fun uu hu => by go_simp⟩) ?_
  try go_simp
  refine wpAnyX_ready (rs := [11]) (by kernel_rfl) (by simp) (AllX.cons rfl (fun K hK => ?_) AllX.nil)
  have q9 := c1_0
  have z9 := BZ0.out.froz pd
  go_simp
  have BZ1 := kide (BZ0.out.set pd (.int .u64 (y : Int)))
  have OB1 := kide (OB0.out.trans (Ob.set (o := pd) u0 (.int .u64 (y : Int))))
  clear q9 z9
  generalize (u0.setCell ⟨b, pd, none⟩ (.int .u64 (y : Int))) = u1 at *
  refine hK _ _ (Sx.behind (by kernel_rfl) trivial) ?_
  clear hK K
  try go_simp
  refine wpAnyX_done (by kernel_rfl) ?_ _
  rw [wsV_set] at BZ1
  go_wp2_with fail
  exact bodyPost_end (v := .tuple #[]) (by simp [results, Tryd.results61, go_sem]) rfl ⟨rfl, BZ1.out, OB1.out⟩

set_option maxHeartbeats 2000000 in
set_option maxRecDepth 100000 in
theorem takeLeast_any (b n c : Nat) (ws : List Nat) (w : World) (hb : Bz w b (wsV ws) 108) (hn : ws.length = n) (hn9 : n < 1048576) (hlt : ∀ i, ws.getD i 0 < 18446744073709551616) (hT : TabAt 0 Lib.deBruijn64tab w) (hb00 : b ≠ 0) :
    Calls Tryd.prog 64 #[.agg #[.slice (some ⟨b, 0, none⟩) n c]] w fun e w' => ∃ (p : Nat) (f : Bool) (ws' : List Nat), e = .returned (.tuple #[.int .i64 (p : Int), .bool f]) ∧ Bz w' b (wsV ws') 108 ∧ Ob b w w' ∧ ws'.length = n ∧ (∀ i, ws'.getD i 0 < 18446744073709551616) ∧
      ((f = false ∧ ws' = ws ∧ ∀ q, plB ws q = false) ∨ (f = true ∧ plB ws p = true ∧ (∀ q, q < p → plB ws q = false) ∧ ∀ q, plB ws' q = (plB ws q && decide (q ≠ p)))) := by
  have HBX : Hid (Bz (w.alloc (Obj.cells #[Value.slice (some ⟨b, 0, none⟩) n c] 66)) w.heap.size #[Value.slice (some ⟨b, 0, none⟩) n c] 66) := Bz.new _ _ _
  have hb0 : Below w.heap.size w (w.alloc (Obj.cells #[Value.slice (some ⟨b, 0, none⟩) n c] 66)) := (Below.refl _ _).alloc (Nat.le_refl _) _
  have HBZ := kide (hb.later hb0)
  have HOB : Hid (Ob b w (w.alloc (Obj.cells #[Value.slice (some ⟨b, 0, none⟩) n c] 66))) := Ob.below hb0
  have hlb := hb.lt
  have hT0 : TabAt 0 Lib.deBruijn64tab (w.alloc (Obj.cells #[Value.slice (some ⟨b, 0, none⟩) n c] 66)) := fun j hj => (hb0.cell (p := ⟨0, j, none⟩) (by show 0 < w.heap.size; omega)).trans (hT j hj)
  have HTS : Hid (∀ (v : Value) (W : World), ∀ k, (w.alloc (Obj.cells #[Value.slice (some ⟨b, 0, none⟩) n c] 66)).setCell ⟨b, k, none⟩ v = W → TabAt 0 Lib.deBruijn64tab W) := fun v W k e j hj => by
    rw [← e]
    have h1 : b ≠ 0 := hb00
    exact ((Ob.set (b := b) (o := k) _ v).cellN (by rw [World.size_alloc]; omega) (fun e => h1 e.symm)).trans (hT0 j hj)
  clear hT0
  have HLT := kide hlt
  have HN := kide hn
  have HB0 := kide hb0
  clear hb hlt hT hn hb0
  go_enter Tryd.func64, Tryd.ntmps64
  go_wp2_with fail
  generalize w.alloc (Obj.cells #[Value.slice (some ⟨b, 0, none⟩) n c] 66) = w0 at *
  go_loopw [9] (fun i wr => wr = w0 ∧ ∃ k : Nat, k ≤ n ∧ i = .int .i64 (k : Int) ∧ ∀ j, j < k → ws.getD j 0 = 0) (fun i _ => n - (intOf i).toNat)
  case atStart => exact ⟨rfl, 0, Nat.zero_le _, rfl, fun j h => absurd h (by omega)⟩
  case round =>
    obtain ⟨rfl, k, hk, rfl, hz⟩ := hrel
    have HZ := kide hz
    clear hz
    have d0 := HBX.out.cell 0
    by_cases hlt : k < n
    · obtain ⟨x, hx⟩ : ∃ x, ws.getD k 0 = x := ⟨_, rfl⟩
      have d1 := HBZ.out.cell k
      rw [wsV_at (by rw [HN.out]; exact hlt), hx] at d1
      have j0 : (k : Int) < (n : Int) := by omega
      have hx9 := HLT.out k
      rw [hx] at hx9
      have HX := kide hx
      clear hx
      by_cases hx0 : x = 0
      · subst hx0
        go_wp2_with fail
        go_roundw
        case rel => exact ⟨trivial, k + 1, by omega, by go_num, fun j hj => by
          by_cases e : j < k
          · exact HZ.out j e
          · obtain rfl : j = k := by omega
            exact HX.out⟩
        case measure => simp only [intOf]; omega
      · have q0 : (((x : Nat) : Int) != 0) = true := by simp [hx0]
        have q1 : IntKind.u64.wrap ((x : Int) - 1) = ((x - 1 : Nat) : Int) := by rw [IntKind.wrap_u64]; omega
        have q2 : bits .and .u64 (x : Int) ((x - 1 : Nat) : Int) = ((x &&& (x - 1) : Nat) : Int) := bits_and_u64_nat x (x - 1) hx9 (by omega)
        have z0 := HBZ.out.froz k
        have B1 := kide (HBZ.out.set k (.int .u64 ((x &&& (x - 1) : Nat) : Int)))
        rw [wsV_set] at B1
        have O1 := kide (HOB.out.trans (Ob.set (b := b) (o := k) wr (.int .u64 ((x &&& (x - 1) : Nat) : Int))))
        have PL := kide (plB_least (ws := ws) (i := k) (by rw [HN.out]; exact hlt) HZ.out (by rw [HX.out]; exact hx0) (by rw [HX.out]; exact hx9))
        rw [HX.out] at PL
        have hc := low_lt hx0 hx9
        obtain ⟨x1, hx1⟩ : ∃ x1, x - 1 = x1 := ⟨_, rfl⟩
        obtain ⟨y, hy⟩ : ∃ y, x &&& x1 = y := ⟨_, rfl⟩
        have HY : Hid (y < 18446744073709551616) := by show y < _; rw [← hy]; exact Nat.lt_of_le_of_lt Nat.and_le_left hx9
        rw [hx1] at q1 q2 B1 O1 PL
        rw [hy] at q2 B1 O1 PL
        obtain ⟨W1, hW1⟩ : ∃ W1, wr.setCell ⟨b, k, none⟩ (.int .u64 (y : Int)) = W1 := ⟨_, rfl⟩
        have T1 : Hid (TabAt 0 Lib.deBruijn64tab W1) := HTS.out _ _ _ hW1
        rw [hW1] at B1 O1
        have HTZ := kide (tz_any x hx0 hx9 W1 T1.out)
        obtain ⟨t, ht⟩ : ∃ t, Lib.ctz 64 x = t := ⟨_, rfl⟩
        rw [ht] at HTZ PL hc
        have q3 : IntKind.i64.wrap ((k : Int) * 64) = (k : Int) * 64 := by rw [IntKind.wrap_i64]; omega
        have q4 : IntKind.i64.wrap ((k : Int) * 64 + (t : Int)) = ((k * 64 + t : Nat) : Int) := by rw [IntKind.wrap_i64]; omega
        have HX9 := kide hx9
        have HX0 := kide hx0
        have HLK := kide hlt
        clear hx9 hx0 hx1 hy hc ht
        go_wp2_with fail
        refine Calls.mono HTZ.out ?_
        rintro e u ⟨rfl, hw9⟩
        obtain rfl := hw9.symm
        clear hw9
        go_wp2_with fail
        exact bodyPost_ret (v := .tuple #[.int .i64 ((k * 64 + t : Nat) : Int), .bool true]) (by simp [results, Tryd.results64, go_sem]) rfl ⟨_, _, _, rfl, B1.out, O1.out, by rw [List.length_set]; exact HN.out, fun i => by
          by_cases e : k = i
          · subst e
            rw [List.getD_eq_getElem?_getD, List.getElem?_set_self (by rw [HN.out]; exact HLK.out), Option.getD_some]
            exact HY.out
          · rw [List.getD_eq_getElem?_getD, List.getElem?_set_ne e, ← List.getD_eq_getElem?_getD]
            exact HLT.out i, .inr ⟨rfl, PL.out.1, PL.out.2.1, PL.out.2.2⟩⟩
    · obtain rfl : k = n := by omega
      have HNO := kide (plB_none (ws := ws) (fun j hj => HZ.out j (by rw [← HN.out]; exact hj)))
      go_wp2_with fail
      exact bodyPost_ret (v := .tuple #[.int .i64 ((0 : Nat) : Int), .bool false]) (by simp [results, Tryd.results64, go_sem]) rfl ⟨_, _, ws, rfl, HBZ.out, HOB.out, HN.out, HLT.out, .inl ⟨rfl, rfl, HNO.out⟩⟩
end Go.Proofs.YtmfamdonbgmjbaaDoor
