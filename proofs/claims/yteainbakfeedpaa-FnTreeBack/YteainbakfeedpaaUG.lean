/- What the program's WriteTree answers. -/
import Derived.Test.YteainbakfeedpaaUF
import Derived.Test.YteainbakfeedpaaUD
import Derived.Test.YteainbakfeedpaaTL
import Derived.Test.YteainbakfeedpaaSBT
namespace Go.Proofs.Yteainbakfeedpaa
set_option linter.unusedVariables false
set_option linter.unusedSimpArgs false
open Go.RowKit

theorem cells_of (l : List Nat) (h : ∀ x ∈ l, x < 256) : Lib.byteCells (l.map UInt8.ofNat) = u8s l := by
  unfold Lib.byteCells u8s
  rw [List.map_map]
  refine List.map_congr_left fun x hx => ?_
  have := h x hx
  simp [Nat.mod_eq_of_lt this]

theorem Bd.is {B b : Nat} {l : List Nat} {w : World} (h : Bd B b l w) (hl : ∀ x ∈ l, x < 256) : Lib.IsBuilder 47 5 B b (Lib.byteCells (l.map UInt8.ofNat)) w := by
  rw [cells_of l hl]
  obtain ⟨h1, h2, q, v, hq, hbk, ho⟩ := h
  have hne : v.ownBlock ≠ some b := fun e => ho.ne hbk e.symm
  have ho' : w.ownsRow B 5 1 v (u8s l).length (u8s l) := by rw [u8s_len]; exact ho
  rcases hq with rfl | rfl
  · exact .inl ⟨h1, v, hbk, ho', hne⟩
  · exact .inr ⟨h1, v, hbk, ho', hne⟩

theorem bString (B b : Nat) (l : List Nat) (w : World) (h : Bd B b l w) (hl : ∀ x ∈ l, x < 256) :
    Calls Try.prog 28 #[.pointer (some ⟨b, 0, none⟩)] w fun e w' => e = .returned (.string (txt l)) ∧ Below B w w' :=
  Try.Builder_String_any B b (l.map UInt8.ofNat) w (h.is hl) h.2.1

set_option maxHeartbeats 1000000 in
set_option maxRecDepth 100000 in
theorem written_any (a : Option Addr) (c : Nat) (ns : List Nd) (w : World) (hr : RdN w a ns) :
    Calls Try.prog 26 #[.agg #[.slice a ns.length c]] w fun e w' => e = .returned (.int .i64 (sumTo (ns.map Nd.ct) ns.length : Nat)) ∧ Below w.heap.size w w' := by
  have hlen := hr.1
  have hfit := hid (sumTo_le _ hr.fit)
  have HB0 : Hid (Below w.heap.size w (w.alloc (Obj.cells #[Value.slice a ns.length c] 26))) := (Below.refl _ _).alloc (Nat.le_refl _) _
  go_enter Try.func26, Try.ntmps26
  go_wp2_with fail
  generalize (w.alloc (Obj.cells #[Value.slice a ns.length c] 26)) = w1 at *
  go_loopw [3, 9] (fun q i wr => ∃ k : Nat, k ≤ ns.length ∧ i = .int .i64 (k : Int) ∧ q = .int .i64 ((sumTo (ns.map Nd.ct) k : Nat) : Int) ∧ Below w.heap.size w wr) (fun _ i _ => ns.length - (intOf i).toNat)
  case atStart => exact ⟨0, Nat.zero_le _, rfl, rfl, HB0.out⟩
  case round =>
    obtain ⟨k, hk, rfl, rfl, hbel⟩ := hrel
    by_cases hlt : k < ns.length
    · obtain ⟨-, h | ⟨b, o, rfl, hc⟩⟩ := hr
      · subst h; simp at hlt
      obtain ⟨⟨s, ak, ck, ks⟩, hx⟩ : ∃ x, ns[k] = x := ⟨_, rfl⟩
      have gx : ns[k]? = some ⟨s, ak, ck, ks⟩ := by rw [List.getElem?_eq_getElem hlt, hx]
      obtain ⟨p0, p1, p2, p3⟩ := hc k _ gx
      have l0 : b < wr.heap.size := Nat.lt_of_lt_of_le (block_lt_of_cell p0) hbel.size
      have p0' : wr.cell? ⟨b, o + k * 2, none⟩ = some (.string s) := by rw [hbel.cell (by exact block_lt_of_cell p0)]; exact p0
      have p1' : wr.cell? ⟨b, o + k * 2 + 1, none⟩ = some (.slice ak ks.length ck) := by rw [hbel.cell (by exact block_lt_of_cell p1)]; exact p1
      have hlk : ks.length ≤ 1048576 := p2.1
      have hss : s.size ≤ 1048576 := p3
      have g := getD_ct gx
      simp only [Nd.ct] at g
      have hs1 : sumTo (ns.map Nd.ct) (k + 1) = sumTo (ns.map Nd.ct) k + wl (s, ks) := by rw [sumTo, g]
      have hq := hfit.out k
      have hq2 : k * 1048578 ≤ 1048576 * 1048578 := Nat.mul_le_mul_right _ (by omega)
      have hq3 : sumTo (ns.map Nd.ct) k ≤ 1099513724928 := by omega
      have HS := hid hs1
      have HBL := hid hbel
      have i0 : (k : Int) < (ns.length : Int) := by omega
      clear hc p0 p1 p2 p3 gx g hx hs1 hbel hq hq2
      generalize sumTo (ns.map Nd.ct) k = z at *
      by_cases hz : s.size = 0
      · have hw : wl (s, ks) = 2 + (ks.length - 1) := if_pos hz
        have HWL := hid hw
        have hse := emp_of hz
        subst hse
        clear hz hw
        go_wp2_with fail
        go_roundw
        case rel =>
          refine ⟨k + 1, by omega, by go_num, ?_, HBL.out.alloc HBL.out.size _⟩
          rw [HS.out, HWL.out]
          congr 1
          omega
        case measure => simp [intOf]; omega
      · have hw : wl (s, ks) = s.size := if_neg hz
        have HWL := hid hw
        have hz1 := ne_emp hz
        clear hz hw
        go_wp2_with fail
        go_roundw
        case rel =>
          refine ⟨k + 1, by omega, by go_num, ?_, HBL.out.alloc HBL.out.size _⟩
          rw [HS.out, HWL.out]
          congr 1
        case measure => simp [intOf]; omega
    · have e : k = ns.length := by omega
      subst e
      go_wp2_with fail
      go_ret
      exact ⟨rfl, hbel⟩

set_option maxHeartbeats 1000000 in
set_option maxRecDepth 100000 in
theorem implWrite_any (a : Option Addr) (c : Nat) (ns : List Nd) (w : World) (hr : RdN w a ns) :
    Calls Try.prog 10 #[.agg #[.slice a ns.length c]] w fun e w' => e = .returned (.string (txt (writeT (ns.map Nd.ct)))) ∧ Below w.heap.size w w' := by
  have hlen := hr.1
  have hb0 : Below w.heap.size w (w.alloc (Obj.cells #[Value.slice a ns.length c] 26)) := (Below.refl _ _).alloc (Nat.le_refl _) _
  have HC := hid (fun u hu => implTreeOk_any a c ns u hu)
  have HL := hid (fun u hu => written_any a c ns u hu)
  have HR := hid hr
  have l0 : w.heap.size < (w.alloc (Obj.cells #[Value.slice a ns.length c] 26)).heap.size := by simp
  by_cases h : 0 ≤ depR (ns.map Nd.ct)
  · obtain ⟨h1, h2, d, hw, -⟩ := depR_get h
    rw [List.length_map] at h1 h2 hw
    have hD : decide (0 ≤ depR (ns.map Nd.ct)) = true := decide_eq_true h
    rw [hD] at HC
    have hfit := Tx_fit hr h2 h1 hw
    have hsum := Tx_len (p := 0) (by simp; omega) hw
    rw [sumTo, Nat.zero_add] at hsum
    rw [← hsum] at HL
    have hlt := Tx_lt (ns.map Nd.ct) ns.length 0
    have HT : Hid (writeT (ns.map Nd.ct) = if (Tx (ns.map Nd.ct) ns.length 0).length ≤ 20000 then Tx (ns.map Nd.ct) ns.length 0 else []) := by
      show _ = _
      rw [writeT, List.length_map]
      by_cases hc : (Tx (ns.map Nd.ct) ns.length 0).length ≤ 20000
      · rw [if_pos ⟨h, hc⟩, if_pos hc]
      · rw [if_neg (fun hh => hc hh.2), if_neg hc]
    have HTX := hid (fun (u : World) (B b0 : Nat) (hB : w.heap.size ≤ B) (hBb : B ≤ b0) (hb : Below w.heap.size w u) (ho : Bd B b0 [] u) => writeNode_any ns h2 w a c B b0 hr hB hBb ns.length 0 0 ns.length d u [] hb (by omega) hw ho (by simp; omega))
    clear hr h hD hw hsum
    generalize Tx (ns.map Nd.ct) ns.length 0 = tot at *
    generalize writeT (ns.map Nd.ct) = res at *
    have HLT := hid hlt
    clear hlt
    go_enter Try.func10, Try.ntmps10
    go_wp2_with fail
    refine Calls.mono (HC.out _ (RdN.later HR.out hb0)) ?_
    rintro e w1 ⟨rfl, hb1⟩
    have B1 : Below w.heap.size w w1 := hb0.trans (hb1.mono (Nat.le_of_lt l0))
    have k0 := (bcell hb1).1 w.heap.size 0 l0
    have c0 : w1.cell? ⟨w.heap.size, 0, none⟩ = some (Value.slice a ns.length c) := by rw [k0]; simp
    have l1 : w.heap.size < w1.heap.size := Nat.lt_of_lt_of_le l0 hb1.size
    clear k0 hb1
    go_wp2_with fail
    refine Calls.mono (HL.out _ (RdN.later HR.out B1)) ?_
    rintro e w2 ⟨rfl, hb2⟩
    have B2 : Below w.heap.size w w2 := B1.trans (hb2.mono (by omega))
    have k0 := (bcell hb2).1 w.heap.size 0 l1
    have c2 : w2.cell? ⟨w.heap.size, 0, none⟩ = some (Value.slice a ns.length c) := by rw [k0]; exact c0
    have l2 : w.heap.size < w2.heap.size := Nat.lt_of_lt_of_le l1 hb2.size
    clear k0 hb2 c0
    by_cases hlong : 20000 < tot.length
    · have hres : res = [] := by
        have h := HT.out
        rwa [if_neg (by omega)] at h
      subst hres
      have i5 : (20000 : Int) < (tot.length : Int) := by omega
      go_wp2_with fail
      go_ret
      exact ⟨rfl, B2⟩
    · have hres : res = tot := by
        have h := HT.out
        rwa [if_pos (by omega)] at h
      subst hres
      have i5 : (res.length : Int) ≤ 20000 := by omega
      go_wp2_with fail
      refine Calls.mono (HTX.out _ w2.heap.size w2.heap.size (by omega) (Nat.le_refl _) (B2.alloc (by omega) _) ⟨Nat.le_refl _, by simp, none, .slice none 0 0, .inl rfl, heap_alloc_new _ _, World.ownsRow_nil _ _ _ _⟩) ?_
      rintro e w3 ⟨rfl, hb3, hk3⟩
      have B3 : Below w.heap.size w w3 := hk3.below (B2.alloc (by omega) _) (by omega) (fun k hk => by omega)
      rw [List.nil_append] at hb3
      have HS := hid (bString _ _ _ _ hb3 HLT.out)
      clear hk3 hb3
      go_wp2_with fail
      refine Calls.mono HS.out ?_
      rintro e w4 ⟨rfl, hb4⟩
      have B4 : Below w.heap.size w w4 := B3.trans (hb4.mono (by omega))
      go_wp2_with fail
      go_ret
      exact ⟨rfl, B4⟩
  · have hD : decide (0 ≤ depR (ns.map Nd.ct)) = false := decide_eq_false h
    rw [hD] at HC
    have hres : writeT (ns.map Nd.ct) = [] := by rw [writeT, if_neg (fun hh => h hh.1)]
    rw [hres]
    clear hr h hD hres
    go_enter Try.func10, Try.ntmps10
    go_wp2_with fail
    refine Calls.mono (HC.out _ (RdN.later HR.out hb0)) ?_
    rintro e w1 ⟨rfl, hb1⟩
    go_wp2_with fail
    go_ret
    exact ⟨rfl, hb0.trans (hb1.mono (by omega))⟩

end Go.Proofs.Yteainbakfeedpaa
