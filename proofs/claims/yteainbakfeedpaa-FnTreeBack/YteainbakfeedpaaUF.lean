/- What the program's writeNode does. -/
import Derived.Test.YteainbakfeedpaaUE
namespace Go.Proofs.Yteainbakfeedpaa
set_option linter.unusedVariables false
set_option linter.unusedSimpArgs false
open Go.RowKit

/-- A call has put a text behind what a builder holds. -/
def RetB (B b : Nat) (w : World) (l : List Nat) (e : Ending) (w' : World) : Prop := e = .returned (.tuple #[]) ∧ Bd B b l w' ∧ KeptU B (· = b) w w'

theorem Bd.later {B b : Nat} {l : List Nat} {w w' : World} (h : Bd B b l w) (hb : Below w.heap.size w w') : Bd B b l w' := by
  obtain ⟨h1, h2, q, v, hq, hbk, ho⟩ := h
  exact ⟨h1, Nat.le_trans h2 hb.size, q, v, hq, by rw [hb.block b (lt_of_block hbk)]; exact hbk, ho.later hb⟩

set_option maxHeartbeats 1000000 in
set_option maxRecDepth 100000 in
theorem writeNode_any (ns : List Nd) (hN : ns.length ≤ 2000) (w0 : World) (a : Option Addr) (c B b0 : Nat) (hr : RdN w0 a ns) (hB : w0.heap.size ≤ B) (hBb : B ≤ b0) (f : Nat) : ∀ (p deep e1 d1 : Nat) (w : World) (out : List Nat), Below w0.heap.size w0 w → p < ns.length → W (ns.map Nd.ct) f p deep = some (e1, d1) →
    Bd B b0 out w → out.length + (Tx (ns.map Nd.ct) f p).length ≤ 1099511627776 →
    Calls Try.prog 27 #[.pointer (some ⟨b0, 0, none⟩), .agg #[.slice a ns.length c], .int .i64 (p : Int)] w (RetB B b0 w (out ++ Tx (ns.map Nd.ct) f p)) := by
  have hX : ∀ k, k < w0.heap.size → ¬ (k = b0) := fun k hk => by omega
  induction f with
  | zero => intro p deep e1 d1 w out hb hp hw; simp [W] at hw
  | succ f ih =>
    intro p deep e1 d1 w out hb hp hw ho hle
    have hr0 := hr
    obtain ⟨-, h | ⟨b, o, rfl, hc⟩⟩ := hr
    · subst h; simp at hp
    obtain ⟨⟨s, ak, ck, ks⟩, hx⟩ : ∃ x, ns[p] = x := ⟨_, rfl⟩
    have gx : ns[p]? = some ⟨s, ak, ck, ks⟩ := by rw [List.getElem?_eq_getElem hp, hx]
    have hk0 : RdI w0 ak ks := (hc p _ gx).2.2.1
    obtain ⟨p0, p1, p2, p3⟩ := (hc p _ gx).later hb
    simp only [] at p0 p1 p2 p3
    have hlk := p2.1
    have hpi : (p : Int) < (ns.length : Int) := by omega
    have g := getD_ct gx
    simp only [Nd.ct] at g
    obtain ⟨-, hok, d', hl, -⟩ := Wsome hw
    have hTy : s.size = 0 → Tx (ns.map Nd.ct) (f + 1) p = [40] ++ (TxR (Tx (ns.map Nd.ct) f) true ks ++ [41]) := fun h => by rw [Tx, g]; exact if_pos h
    have hTn : s.size ≠ 0 → Tx (ns.map Nd.ct) (f + 1) p = bl s := fun h => by rw [Tx, g]; exact if_neg h
    generalize Tx (ns.map Nd.ct) (f + 1) p = tot at *
    rw [g] at hok hl
    rw [List.length_map] at hl
    simp only [] at hok hl
    clear hc hx gx g hw p2
    have l0 : b < w.heap.size := block_lt_of_cell p0
    have hbw0 : b0 < w.heap.size := by obtain ⟨-, -, q, v, -, hbk, -⟩ := ho; exact lt_of_block hbk
    have hWB1 : Below w.heap.size w ((w.alloc (Obj.cells #[Value.slice (some ⟨b, o, none⟩) ns.length c] 26)).alloc (Obj.cells #[Value.string s, Value.slice ak ks.length ck] 59)) := ((Below.refl _ _).alloc (Nat.le_refl _) _).alloc (by simp) _
    have hWB2 : ((w.alloc (Obj.cells #[Value.slice (some ⟨b, o, none⟩) ns.length c] 26)).alloc (Obj.cells #[Value.string s, Value.slice ak ks.length ck] 59)).heap[w.heap.size]? = some (Obj.cells #[Value.slice (some ⟨b, o, none⟩) ns.length c] 26 (0, 0)) := (Below.heap_alloc _ _ _ (by simp)).trans (heap_alloc_new _ _)
    have hWB3 : ((w.alloc (Obj.cells #[Value.slice (some ⟨b, o, none⟩) ns.length c] 26)).alloc (Obj.cells #[Value.string s, Value.slice ak ks.length ck] 59)).heap[w.heap.size + 1]? = some (Obj.cells #[Value.string s, Value.slice ak ks.length ck] 59 (0, 0)) := by
      have := heap_alloc_new (w.alloc (Obj.cells #[Value.slice (some ⟨b, o, none⟩) ns.length c] 26)) (Obj.cells #[Value.string s, Value.slice ak ks.length ck] 59)
      simpa using this
    have HW3 := hid hWB3
    have hoA := hid (ho.later hWB1)
    have HWA := hid hWB1
    have HW2 := hid hWB2
    have HK0 := hid hk0
    have HWL := hid hl
    have HLE := hid hle
    clear ho hWB1 hWB2 hWB3 hk0 hl hle
    by_cases hz : s.size = 0
    · have hse := emp_of hz
      subst hse
      have HT := hid (hTy hz)
      clear hTy hTn hz hok p3
      have IH := hid ih
      clear ih
      have HWBY := hid (fun u l (c : Nat) (hu : Bd B b0 l u) (hl : l.length ≤ 1099511627776) => wByte_any B b0 l c u hu hl)
      go_enter Try.func27, Try.ntmps27
      go_wp2_with fail
      refine Calls.mono (HWBY.out _ out 40 hoA.out (by have := HLE.out; omega)) ?_
      rintro e w5 ⟨rfl, hb5, hk5⟩
      have HX2 := hid (KeptU.other hk5 HW2.out (by decide) (show ¬ (_ = b0) by omega))
      have n1 := (cells_two (KeptU.other hk5 HW3.out (by decide) (show ¬ (_ = b0) by omega))).2
      have HK5 := hid ((KeptU.of_below (B := B) (X := (· = b0)) HWA.out).trans hk5)
      have HB5 := hid hb5
      clear hk5 hb5 hoA HWA HW2 HW3 p0 p1
      go_wp2_with fail
      go_loopw [26] (fun i wr => ∃ (j nx d2 : Nat) (P : List Nat), j ≤ ks.length ∧ i = .int .i64 (j : Int) ∧ Bd B b0 (out ++ P) wr ∧ p < nx ∧ WL ns.length (fun nx => W (ns.map Nd.ct) f nx (deep + 1)) (ks.drop j) nx = some (e1, d2) ∧ P ++ (TxR (Tx (ns.map Nd.ct) f) (decide (j = 0)) (ks.drop j) ++ [41]) = tot ∧ KeptU B (· = b0) w5 wr) (fun i _ => ks.length - (intOf i).toNat)
      case atStart => exact ⟨0, p + 1, d', [40], Nat.zero_le _, rfl, HB5.out, by omega, by rw [List.drop_zero]; exact HWL.out, HT.out.symm, KeptU.refl _ _ _⟩
      case round =>
        obtain ⟨j, nx, d2, P, hj, rfl, hbd, hnx, hwl, hpt, hkp⟩ := hrel
        have x2 := cell_of_one (KeptU.other hkp HX2.out (by decide) (show ¬ (_ = b0) by omega))
        have hbw : Below w0.heap.size w0 wr := (HK5.out.trans hkp).below hb hB hX
        have HKP := hid hkp
        have HBD := hid hbd
        clear hkp hbd n1
        by_cases hlt : j < ks.length
        · obtain ⟨kb, ko, rfl, hkc0⟩ := getKid HK0.out hlt
          have hkb : kb < w0.heap.size := block_lt_of_cell hkc0
          have hdr : ks.drop j = ks.getD j 0 :: ks.drop (j + 1) := by
            rw [List.drop_eq_getElem_cons hlt]; simp [List.getD, hlt]
          rw [hdr] at hwl hpt
          obtain ⟨hkv, hnl, nx', dk, dr, h1w, hwr, -⟩ := WLsome hwl
          rw [TxR, hkv, Int.toNat_natCast, List.append_assoc, List.append_assoc] at hpt
          rw [hkv] at hkc0
          have hkc : wr.cell? ⟨kb, ko + j, none⟩ = some (.int .i64 (nx : Int)) := (hbw.cell (by exact hkb)).trans hkc0
          have hle2 := W_le (by simpa using hnl) h1w
          have HWR := hid hwr
          have HPT := hid hpt
          have hji : (j : Int) < (ks.length : Int) := by omega
          have hLE := HLE.out
          have hlp := congrArg List.length hpt
          clear hkv hdr hwl hwr hpt hkc0
          by_cases hj0 : j = 0
          · subst hj0
            simp only [decide_true, if_true, List.nil_append, Nat.add_zero] at HPT hlp hkc
            simp only [List.length_append] at hlp
            have HLR : Hid ((out ++ P).length + (Tx (ns.map Nd.ct) f nx).length ≤ 1099511627776) := by show _ ≤ _; simp only [List.length_append]; omega
            have hbq := hbw
            have HBQ := HBD
            clear hLE hlp
            go_wp2_with fail
            refine Calls.mono (IH.out nx (deep + 1) nx' dk _ (out ++ (P)) hbq hnl h1w HBQ.out HLR.out) ?_
            rintro e w7 ⟨rfl, hb7, hk7⟩
            have HB7 := hid hb7
            have HK7 := hid hk7
            clear hb7 hk7
            go_wp2_with fail
            go_roundw
            case rel =>
              refine ⟨0 + 1, nx', dr, (P) ++ Tx (ns.map Nd.ct) f nx, by omega, by go_num, by rw [← List.append_assoc]; exact HB7.out, by omega, HWR.out, ?_, HKP.out.trans (HK7.out)⟩
              rw [show decide (0 + 1 = 0) = false by simp, ← HPT.out]
              simp [List.append_assoc]
            case measure => simp [intOf]; omega
          · have hjp : (0 : Int) < (j : Int) := by omega
            have hd : decide (j = 0) = false := by simp [hj0]
            rw [hd] at HPT hlp
            simp only [Bool.false_eq_true, if_false] at HPT hlp
            simp only [List.length_append, List.length_cons, List.length_nil] at hlp
            have HLR : Hid ((out ++ (P ++ [32])).length + (Tx (ns.map Nd.ct) f nx).length ≤ 1099511627776) := by show _ ≤ _; simp only [List.length_append, List.length_cons, List.length_nil]; omega
            have HRn : Hid ((out ++ P).length ≤ 1099511627776) := by show _ ≤ _; simp only [List.length_append]; omega
            clear hLE hlp hd
            go_wp2_with fail
            refine Calls.mono (HWBY.out _ (out ++ P) 32 HBD.out HRn.out) ?_
            rintro e wq ⟨rfl, hbq6, hk6⟩
            have hbq : Below w0.heap.size w0 wq := hk6.below hbw hB hX
            have HBQ : Hid (Bd B b0 (out ++ (P ++ [32])) wq) := by show Bd _ _ _ _; rw [← List.append_assoc]; exact hbq6
            replace x2 := cell_of_one (KeptU.other (HKP.out.trans hk6) HX2.out (by decide) (show ¬ (_ = b0) by omega))
            have HK6 := hid hk6
            clear hk6 hbq6
            go_wp2_with fail
            refine Calls.mono (IH.out nx (deep + 1) nx' dk _ (out ++ (P ++ [32])) hbq hnl h1w HBQ.out HLR.out) ?_
            rintro e w7 ⟨rfl, hb7, hk7⟩
            have HB7 := hid hb7
            have HK7 := hid hk7
            clear hb7 hk7
            go_wp2_with fail
            go_roundw
            case rel =>
              refine ⟨j + 1, nx', dr, (P ++ [32]) ++ Tx (ns.map Nd.ct) f nx, by omega, by go_num, by rw [← List.append_assoc]; exact HB7.out, by omega, HWR.out, ?_, HKP.out.trans (HK6.out.trans HK7.out)⟩
              rw [show decide (j + 1 = 0) = false by simp, ← HPT.out]
              simp [List.append_assoc]
            case measure => simp [intOf]; omega
        · have e : j = ks.length := by omega
          subst e
          rw [List.drop_length, TxR, List.nil_append] at hpt
          have HPT := hid hpt
          have HRn : Hid ((out ++ P).length ≤ 1099511627776) := by have h1 := congrArg List.length hpt; have h2 := HLE.out; show _ ≤ _; simp only [List.length_append] at h1 ⊢; omega
          clear hpt hwl
          go_wp2_with fail
          refine Calls.mono (HWBY.out _ (out ++ P) 41 HBD.out HRn.out) ?_
          rintro e wq ⟨rfl, hbq6, hk6⟩
          go_wp2_with fail
          go_end0
          refine ⟨rfl, ?_, (HK5.out.trans HKP.out).trans hk6⟩
          rw [← HPT.out, ← List.append_assoc]
          exact hbq6
    · have hz1 := ne_emp hz
      have HT := hid (hTn hz)
      clear hTy hTn hz ih
      have HWS := hid (fun u l (hu : Bd B b0 l u) (hl : l.length + s.size ≤ 1099511627776) => wStr_any B b0 l s u hu hl)
      have hll : out.length + s.size ≤ 1099511627776 := by have h := HLE.out; rw [HT.out, bl_len] at h; exact h
      go_enter Try.func27, Try.ntmps27
      go_wp2_with fail
      refine Calls.mono (HWS.out _ out hoA.out hll) ?_
      rintro e w5 ⟨rfl, hb5, hk5⟩
      go_wp2_with fail
      go_end0
      refine ⟨rfl, ?_, (KeptU.of_below HWA.out).trans hk5⟩
      rw [HT.out]
      exact hb5

end Go.Proofs.Yteainbakfeedpaa
