/- SaveSession, on the given side: numbers and texts put behind a row of bytes. -/
import Derived.Test.YtofdkdaehhpgbaaGreatDoorVSF
import Derived.Lib.AppendStr
namespace Go.Proofs.YtofdkdaehhpgbaaGreatDoor
set_option linter.unusedVariables false
set_option linter.unusedSimpArgs false
open Go.RowKit

/-- What an append to a row of bytes leaves as it was: all below a block, and all blocks of other things. -/
def Ky (B : Nat) (w w' : World) : Prop := Below B w w' ∧ ∀ (b : Nat) (cs : Array Value) (t : TypeId) (fr : Nat × Nat), w.heap[b]? = some (Obj.cells cs t fr) → t ≠ 5 → w'.heap[b]? = some (Obj.cells cs t fr)
theorem Ky.refl (B : Nat) (w : World) : Ky B w w := ⟨Below.refl _ _, fun _ _ _ _ h _ => h⟩
theorem Ky.trans {B : Nat} {w w1 w2 : World} (h : Ky B w w1) (h' : Ky B w1 w2) : Ky B w w2 := ⟨h.1.trans h'.1, fun b cs t fr hb ht => h'.2 b cs t fr (h.2 b cs t fr hb ht) ht⟩
theorem Ky.ofB {B : Nat} {w w' : World} (h : Below w.heap.size w w') (hB : B ≤ w.heap.size) : Ky B w w' := ⟨h.mono hB, fun b cs t fr hb _ => (h.block b (lt_of_block hb)).trans hb⟩
theorem Ky.app {B : Nat} {w w' : World} {v : Value} {l : List Nat} (h : OwB w B v l) (hg : w.grownBy w' v.ownBlock) (hB : B ≤ w.heap.size) : Ky B w w' := ⟨h.bel hg hB, fun b cs t fr hb ht => by
  rw [hg.block b (lt_of_block hb) (fun e => by
    rcases h.2 with ⟨rfl, -⟩ | ⟨g, cap, cur, rfl, -, hh, -⟩
    · cases e
    · cases e
      have hh' := hh
      change w.heap[g]? = some (.cells cs t fr) at hb
      rw [hb] at hh'
      cases hh'
      exact ht rfl)]
  exact hb⟩
theorem Bz.ky {w w' : World} {B b : Nat} {cs : Array Value} {t : TypeId} (h : Bz w b cs t) (k : Ky B w w') (ht : t ≠ 5) : Bz w' b cs t := k.2 b cs t (0, 0) h ht
def RetO (B : Nat) (bs : List Nat) (w : World) (e : Ending) (w' : World) : Prop := ∃ v, e = .returned v ∧ OwB w' B v bs ∧ Ky B w w'

theorem wpList_appC (w : World) {ops : Array Oper} {rest : List Oper} {o : Oper} {a : Act} {Q : Exit → Act → World → Prop} (hgd : o.guard = none) (s x : Operand)
    (ho : o.op = .call { callee := .builtin .append, args := #[s, x], argTypes := #[37, 37] })
    (base : Nat) (v : Value) (bs : List Nat) (y : Nat) (hs : a.eval s = v) (hown : OwB w base v bs) (g : Nat) (hx : a.eval x = .slice (some ⟨g, 0, none⟩) 1 1)
    (hnew : w.cell? ⟨g, 0, none⟩ = some (.int .u8 (y : Int))) (hl : bs.length ≤ 100000000000000) (hbase : base ≤ w.heap.size)
    (h : ∀ v' w', OwB w' base v' (bs ++ [y]) → Ky base w w' → wpList Tryz.prog ops Q rest (a.put o.dst v') w') : wpList Tryz.prog ops Q (o :: rest) a w := by
  obtain ⟨i0, hi, hz0, hz1, hz2⟩ := info_parts Tryz.infoU8
  refine wpList_append_own w hgd s x 37 ho base 5 i0 (.int .u8 0) 1 1 Tryz.underlying37 hi hz0 hz1 hz2 rfl (by decide) v bs.length (u8s bs) hs hown ⟨g, 0, none⟩ 1 1 [.int .u8 (y : Int)] hx rfl ?_ ?_ ?_ ?_ hbase ?_
  · intro j u hj
    match j, hj with
    | 0, hj => simp at hj; subst hj; exact hnew
    | j + 1, hj => simp at hj
  · intro u hu
    simp at hu
    subst hu
    rfl
  · unfold maxLen; omega
  · omega
  · intro v' w' h1 h2 _
    refine h v' w' ?_ (Ky.app hown h2 hbase)
    unfold OwB
    simpa [u8s] using h1

theorem numB_ten {f : Nat} : ∀ {n : Int}, dgB f n.toNat → (numB n).length ≤ f + 1 := by
  induction f with
  | zero =>
    intro n h
    unfold dgB at h
    rw [numB_small (by simp at h; omega)]
    simp
  | succ f ih =>
    intro n h
    by_cases hn : 128 ≤ n
    · rw [numB_big hn]
      obtain ⟨f', e, h2⟩ := dgB_step h (by omega)
      obtain rfl : f = f' := by omega
      have := ih (n := n / 128) (by rw [show (n / 128).toNat = n.toNat / 128 by omega]; exact h2)
      simp only [List.length_cons]
      omega
    · rw [numB_small hn]; simp
theorem numB_le {n : Int} (h : in64 n) : (numB n).length ≤ 11 := numB_ten (ten_ok h)

set_option maxHeartbeats 1000000 in
theorem l22Put_any (B : Nat) (v : Value) (bs : List Nat) (n : Int) (w : World) (h : OwB w B v bs) (hB : B ≤ w.heap.size) (hn : in64 n) (hl : bs.length ≤ 99000000000000) :
    Calls Tryz.prog 36 #[v, .int .i64 n] w (RetO B (bs ++ numB n) w) := by
  obtain ⟨R, hR⟩ : ∃ R, bs ++ numB n = R := ⟨_, rfl⟩
  rw [hR]
  have HR := kide hR
  have H := kide h
  clear hR h
  go_enter Tryz.func36, Tryz.ntmps36
  go_wp2_with fail
  go_loopw [0, 1] (fun v z wr => ∃ (cur : Int) (L : List Nat), z = .int .i64 cur ∧ in64 cur ∧ OwB wr B v L ∧ L ++ numB cur = R ∧ Ky B w wr ∧ ∃ f, dgB f cur.toNat ∧ L.length + f ≤ bs.length + 10) (fun _ z _ => (intOf z).toNat)
  case atStart => exact ⟨n, bs, rfl, hn, H.out, HR.out, Ky.refl _ _, 10, ten_ok hn, Nat.le_refl _⟩
  case round =>
    obtain ⟨cur, L, rfl, hcur, hL, hc, hbel, f, hf, hlen⟩ := hrel
    have HS : Hid (B ≤ wr.heap.size) := Nat.le_trans hB hbel.1.size
    by_cases hb : 128 ≤ cur
    · obtain ⟨K, rfl⟩ := Int.eq_ofNat_of_zero_le (show 0 ≤ cur by omega)
      have hb2 : (128 : Int) ≤ (K : Int) := hb
      obtain ⟨K1, K2, J, t1, t2, t3, t4, t5, hK1, hK2, hJ⟩ := num_step K (by have := hcur.2; omega)
      have H1 := kide hK1
      have H2 := kide hK2
      have HJ := kide hJ
      clear hK1 hK2 hJ
      have HC := kide hc
      have HL := kide hL
      have HB := kide hbel
      have HLN := kide hlen
      have HF := kide hf
      have HCU := kide hcur
      clear hc hL hbel hlen hcur hb hf
      have hbx : Below wr.heap.size wr (wr.alloc (.cells #[Value.int .u8 (J : Int)] 5)) := (Below.refl _ _).alloc (Nat.le_refl _) _
      have HL2 := kide (HL.out.later hbx)
      have HN2 : Hid ((wr.alloc (.cells #[Value.int .u8 (J : Int)] 5)).cell? ⟨wr.heap.size, 0, none⟩ = some (.int .u8 (J : Int))) := (Bz.new wr #[Value.int .u8 (J : Int)] 5).cell 0
      have HB2 := kide (HB.out.trans (Ky.ofB hbx HS.out))
      have HS2 : Hid (B ≤ (wr.alloc (.cells #[Value.int .u8 (J : Int)] 5)).heap.size) := Nat.le_trans hB HB2.out.1.size
      clear hbx
      go_wp2_with (at_builtin; refine wpList_appC _ rfl _ _ rfl B _ L J (by first | rfl | simp [Act.eval]) HL2.out wr.heap.size (by first | rfl | simp [Act.eval]) HN2.out (by have := HLN.out; omega) HS2.out ?_)
      intro v2 w2 q1 q2
      go_wp2_with fail
      rw [t5]
      clear t1 t2 t3 t4 t5
      go_roundw
      case rel =>
        refine ⟨(K2 : Int), L ++ [J], rfl, ?_, q1, ?_, HB2.out.trans q2, ?_⟩
        · have := HCU.out; have := H2.out; unfold in64 at *; omega
        · rw [List.append_assoc, ← HC.out, numB_big (n := (K : Int)) (by omega)]
          have := H1.out
          have := H2.out
          have := HJ.out
          congr 1
          show [J] ++ _ = _ :: _
          simp only [List.singleton_append]
          congr 1
          · omega
          · congr 1; omega
        · have h1 := HLN.out
          have h2 := H2.out
          have h3 := HF.out
          obtain ⟨f', e, h4⟩ := dgB_step h3 (by rw [Int.toNat_natCast]; omega)
          rw [Int.toNat_natCast, h2] at h4
          exact ⟨f', by rw [Int.toNat_natCast]; exact h4, by simp only [List.length_append, List.length_cons, List.length_nil]; omega⟩
      case measure => simp only [intOf]; exact num_less H2.out hb2
    · obtain ⟨J, hJ⟩ : ∃ J : Nat, (cur % 256) = (J : Int) := ⟨(cur % 256).toNat, by omega⟩
      have hb2 : cur < 128 := by omega
      have HC : Hid (L ++ [J] = R) := by
        show _ = _
        rw [← hc, numB_small hb, hJ, Int.toNat_natCast]
      have HLN := kide hlen
      have hbx : Below wr.heap.size wr (wr.alloc (.cells #[Value.int .u8 (J : Int)] 5)) := (Below.refl _ _).alloc (Nat.le_refl _) _
      have HL2 := kide (hL.later hbx)
      have HN2 : Hid ((wr.alloc (.cells #[Value.int .u8 (J : Int)] 5)).cell? ⟨wr.heap.size, 0, none⟩ = some (.int .u8 (J : Int))) := (Bz.new wr #[Value.int .u8 (J : Int)] 5).cell 0
      have HB2 := kide (hbel.trans (Ky.ofB hbx HS.out))
      have HS2 : Hid (B ≤ (wr.alloc (.cells #[Value.int .u8 (J : Int)] 5)).heap.size) := Nat.le_trans hB HB2.out.1.size
      clear hbx hb hc hL hbel hf hlen hcur
      go_wp2_with (at_builtin; refine wpList_appC _ rfl _ _ rfl B _ L J (by first | rfl | simp [Act.eval]) HL2.out wr.heap.size (by first | rfl | simp [Act.eval]) HN2.out (by have := HLN.out; omega) HS2.out ?_)
      intro v2 w2 q1 q2
      rw [HC.out] at q1
      go_wp2_with fail
      go_ret
      exact ⟨v2, rfl, q1, HB2.out.trans q2⟩

end Go.Proofs.YtofdkdaehhpgbaaGreatDoor
