/- The writer that SaveSession fills: numbers, flags. -/
import Derived.Test.YtofdkdaehhpgbaaGreatDoorVSB
namespace Go.Proofs.YtofdkdaehhpgbaaGreatDoor
set_option linter.unusedVariables false
set_option linter.unusedSimpArgs false
open Go.RowKit

/-- A number's bytes. -/
def numF : Nat → Int → List Nat
  | 0, n => [(n % 256).toNat]
  | f + 1, n => if 128 ≤ n then (n % 128 + 128).toNat :: numF f (n / 128) else [(n % 256).toNat]
theorem numF_more {n : Int} {f : Nat} (h : n.toNat ≤ f) : numF f n = numF n.toNat n := by
  induction f using Nat.strongRecOn generalizing n with
  | ind f ih =>
    cases f with
    | zero => rw [show n.toNat = 0 by omega]
    | succ f =>
      by_cases hn : 128 ≤ n
      · obtain ⟨k, hk⟩ : ∃ k, n.toNat = k + 1 := ⟨n.toNat - 1, by omega⟩
        rw [hk, numF, numF, if_pos hn, if_pos hn, ih f (by omega) (n := n / 128) (by omega)]
        by_cases hkf : k = f
        · subst hkf; rw [ih k (by omega) (n := n / 128) (by omega)]
        · rw [ih k (by omega) (n := n / 128) (by omega)]
      · rw [numF, if_neg hn]
        cases hk : n.toNat with
        | zero => rw [numF]
        | succ k => rw [numF, if_neg hn]
def numB (n : Int) : List Nat := numF n.toNat n
theorem numB_big {n : Int} (h : 128 ≤ n) : numB n = (n % 128 + 128).toNat :: numB (n / 128) := by
  unfold numB
  obtain ⟨k, hk⟩ : ∃ k, n.toNat = k + 1 := ⟨n.toNat - 1, by omega⟩
  rw [hk, numF, if_pos h, numF_more (n := n / 128) (by omega)]
theorem numB_small {n : Int} (h : ¬ 128 ≤ n) : numB n = [(n % 256).toNat] := by
  unfold numB
  cases hk : n.toNat with
  | zero => rw [numF]
  | succ k => rw [numF, if_neg h]

/-- Fewer than f digits of seven bits. -/
def dgB (f k : Nat) : Prop := k < 128 ^ f
theorem dgB_step {f k : Nat} (h : dgB f k) (hk : 128 ≤ k) : ∃ f', f = f' + 1 ∧ dgB f' (k / 128) := by
  unfold dgB at h
  cases f with
  | zero => simp at h; omega
  | succ f =>
    rw [Nat.pow_succ] at h
    exact ⟨f, rfl, Nat.div_lt_of_lt_mul (by rw [Nat.mul_comm]; exact h)⟩
theorem ten_ok {n : Int} (hn : in64 n) : dgB 10 n.toNat := by
  have := hn.2
  unfold dgB
  have : (128 : Nat) ^ 10 = 1180591620717411303424 := by decide
  omega
theorem num_step (K : Nat) (hK : K ≤ 9223372036854775807) : ∃ K1 K2 J : Nat, Int.tmod (K : Int) 128 = (K1 : Int) ∧ Int.tdiv (K : Int) 128 = (K2 : Int) ∧ wrap64 ((K1 : Int) + 128) = (J : Int) ∧ (J : Int) % 256 = (J : Int) ∧ wrap64 (K2 : Int) = (K2 : Int) ∧ K % 128 = K1 ∧ K / 128 = K2 ∧ K1 + 128 = J := by
  refine ⟨K % 128, K / 128, K % 128 + 128, ?_, ?_, ?_, ?_, ?_, rfl, rfl, rfl⟩
  · rw [Int.tmod_eq_emod_of_nonneg (by omega)]; simp
  · rw [Int.tdiv_eq_ediv_of_nonneg (by omega)]; simp
  · unfold wrap64; omega
  · omega
  · unfold wrap64; omega

theorem num_less {K K2 : Nat} (h : K / 128 = K2) (hb : (128 : Int) ≤ (K : Int)) : ((K2 : Nat) : Int).toNat < ((K : Nat) : Int).toNat := by omega

set_option maxHeartbeats 1000000 in
theorem number_any (G : Nat) (n : Int) (st : Option (List Nat)) (w : World) (h : Wst G st w) (hn : in64 n) :
    Calls Tryz.prog 70 #[.pointer (some ⟨G + 1, 0, none⟩), .int .i64 n] w (RetW G (putS st (numB n)) w) := by
  have HWS := kide (fun u (hu : Below w.heap.size w u) => h.later hu)
  obtain ⟨R, hR⟩ : ∃ R, numB n = R := ⟨_, rfl⟩
  rw [hR]
  have HR := kide hR
  clear h hR
  go_enter Tryz.func70, Tryz.ntmps70
  go_wp2_with fail
  go_loopw [1, 4] (fun z v wr => ∃ (cur : Int) (L : List Nat), z = .int .i64 cur ∧ in64 cur ∧ OwB wr w.heap.size v L ∧ L ++ numB cur = R ∧ Below w.heap.size w wr ∧ ∃ f, dgB f cur.toNat ∧ L.length + f ≤ 10) (fun z _ _ => (intOf z).toNat)
  case atStart => exact ⟨n, [], rfl, hn, OwB.nil _ _, by rw [List.nil_append]; exact HR.out, Below.refl _ _, 10, ten_ok hn, by simp⟩
  case round =>
    obtain ⟨cur, L, rfl, hcur, hL, hc, hbel, f, hf, hlen⟩ := hrel
    by_cases hb : 128 ≤ cur
    · obtain ⟨K, rfl⟩ := Int.eq_ofNat_of_zero_le (show 0 ≤ cur by omega)
      have hb2 : (128 : Int) ≤ (K : Int) := hb
      obtain ⟨K1, K2, J, t1, t2, t3, t4, t5, hK1, hK2, hJ⟩ := num_step K (by have := hcur.2; omega)
      have H1 := kide hK1
      have H2 := kide hK2
      have HJ := kide hJ
      clear hK1 hK2 hJ
      have HC := kide hc
      have HL := kide hL
      have HB := kide hbel
      have HLN := kide hlen
      have HF := kide hf
      have HCU := kide hcur
      clear hc hL hbel hlen hcur hb hf
      have hbx : Below wr.heap.size wr (wr.alloc (.cells #[Value.int .u8 (J : Int)] 5)) := (Below.refl _ _).alloc (Nat.le_refl _) _
      have HL2 := kide (HL.out.later hbx)
      have HN2 : Hid ((wr.alloc (.cells #[Value.int .u8 (J : Int)] 5)).cell? ⟨wr.heap.size, 0, none⟩ = some (.int .u8 (J : Int))) := (Bz.new wr #[Value.int .u8 (J : Int)] 5).cell 0
      have HB2 := kide (HB.out.trans (hbx.mono HB.out.size))
      clear hbx
      go_wp2_with (at_builtin; refine wpList_appB _ rfl _ _ rfl w.heap.size _ L J (by first | rfl | simp [Act.eval]) HL2.out wr.heap.size (by first | rfl | simp [Act.eval]) HN2.out (by have := HLN.out; omega) HB2.out.size ?_)
      intro v2 w2 q1 q2
      go_wp2_with fail
      rw [t5]
      clear t1 t2 t3 t4 t5
      go_roundw
      case rel =>
        refine ⟨(K2 : Int), L ++ [J], rfl, ?_, q1, ?_, HB2.out.trans (HL2.out.bel q2 HB2.out.size), ?_⟩
        · have := HCU.out; have := H2.out; unfold in64 at *; omega
        · rw [List.append_assoc, ← HC.out, numB_big (n := (K : Int)) (by omega)]
          have := H1.out
          have := H2.out
          have := HJ.out
          congr 1
          show [J] ++ _ = _ :: _
          simp only [List.singleton_append]
          congr 1
          · omega
          · congr 1; omega
        · have h1 := HLN.out
          have h2 := H2.out
          have h3 := HF.out
          obtain ⟨f', e, h4⟩ := dgB_step h3 (by rw [Int.toNat_natCast]; omega)
          rw [Int.toNat_natCast, h2] at h4
          exact ⟨f', by rw [Int.toNat_natCast]; exact h4, by simp only [List.length_append, List.length_cons, List.length_nil]; omega⟩
      case measure => simp only [intOf]; exact num_less H2.out hb2
    · obtain ⟨J, hJ⟩ : ∃ J : Nat, (cur % 256) = (J : Int) := ⟨(cur % 256).toNat, by omega⟩
      have hb2 : cur < 128 := by omega
      have HC : Hid (L ++ [J] = R) := by
        show _ = _
        rw [← hc, numB_small hb, hJ, Int.toNat_natCast]
      have HLN := kide hlen
      have hbx : Below wr.heap.size wr (wr.alloc (.cells #[Value.int .u8 (J : Int)] 5)) := (Below.refl _ _).alloc (Nat.le_refl _) _
      have HL2 := kide (hL.later hbx)
      have HN2 : Hid ((wr.alloc (.cells #[Value.int .u8 (J : Int)] 5)).cell? ⟨wr.heap.size, 0, none⟩ = some (.int .u8 (J : Int))) := (Bz.new wr #[Value.int .u8 (J : Int)] 5).cell 0
      have HB2 := kide (hbel.trans (hbx.mono hbel.size))
      clear hbx hb hc hL hbel hf hlen hcur
      go_wp2_with (at_builtin; refine wpList_appB _ rfl _ _ rfl w.heap.size _ L J (by first | rfl | simp [Act.eval]) HL2.out wr.heap.size (by first | rfl | simp [Act.eval]) HN2.out (by have := HLN.out; omega) HB2.out.size ?_)
      intro v2 w2 q1 q2
      rw [HC.out] at q1
      have B2 := kide (HB2.out.trans (HL2.out.bel q2 HB2.out.size))
      obtain ⟨a, c, rfl, hrd⟩ := q1.rd
      have hlR : R.length ≤ 1048576 := by rw [← HC.out]; have := HLN.out; simp; omega
      have HP := kide (put_any G R.length c a R st w2 (HWS.out w2 B2.out) hrd rfl hlR)
      clear q1 q2 hrd hlR hJ
      go_wp2_with fail
      refine Calls.mono HP.out ?_
      rintro e w3 ⟨rfl, h1, h2⟩
      go_wp2_with fail
      exact bodyPost_end (v := .tuple #[]) (by simp [results, Tryz.results70, go_sem]) rfl ⟨rfl, h1, (outB B2.out).trans h2⟩

end Go.Proofs.YtofdkdaehhpgbaaGreatDoor
