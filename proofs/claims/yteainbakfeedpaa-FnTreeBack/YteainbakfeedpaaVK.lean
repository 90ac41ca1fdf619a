/- What the given ReadTree answers. -/
import Derived.Test.YteainbakfeedpaaVJ
namespace Go.Proofs.Yteainbakfeedpaa
set_option linter.unusedVariables false
set_option linter.unusedSimpArgs false
open Go.RowKit

set_option maxHeartbeats 2000000 in
set_option maxRecDepth 100000 in
theorem specRead_in (s : ByteArray) (w : World) (hs : s.size ≤ 20000) :
    Calls Try.prog 15 #[.string s] w (RetR (readF s (s.size + 1) 0 [] []) w) := by
  have hi : (s.size : Int) ≤ 20000 := by omega
  have HB := hidI (get_bn s)
  have HI0 : Hid (Inv [] []) := ⟨by simp, by simp, by simp, by simp⟩
  generalize hZ : readF s (s.size + 1) 0 [] [] = Z
  have HZ := hidI hZ
  clear hZ
  have hbk : ((w.alloc (Obj.cells #[Value.slice none 0 0] 26)).alloc (Obj.cells #[Value.slice none 0 0, Value.slice none 0 0] 72)).heap[w.heap.size + 1]? = some (.cells #[.slice none 0 0, .slice none 0 0] 72 (0, 0)) := by
    have := heap_alloc_new (w.alloc (Obj.cells #[Value.slice none 0 0] 26)) (Obj.cells #[Value.slice none 0 0, Value.slice none 0 0] 72)
    simpa using this
  have hbR : ((w.alloc (Obj.cells #[Value.slice none 0 0] 26)).alloc (Obj.cells #[Value.slice none 0 0, Value.slice none 0 0] 72)).heap[w.heap.size]? = some (.cells #[.slice none 0 0] 26 (0, 0)) := (Below.heap_alloc _ _ _ (by simp)).trans (heap_alloc_new _ _)
  have hb0 : Below w.heap.size w ((w.alloc (Obj.cells #[Value.slice none 0 0] 26)).alloc (Obj.cells #[Value.slice none 0 0, Value.slice none 0 0] 72)) := ((Below.refl _ _).alloc (Nat.le_refl _) _).alloc (by simp) _
  have HSR0 : Hid (Sr ((w.alloc (Obj.cells #[Value.slice none 0 0] 26)).alloc (Obj.cells #[Value.slice none 0 0, Value.slice none 0 0] 72)) (w.heap.size + 1) (w.heap.size + 1) (.slice none 0 0) (.slice none 0 0) [] []) := ⟨Nat.le_refl _, by simp, hbk, ONs.nil _ _, World.ownsRow_nil _ _ _ _⟩
  have HBR0 := hidI hbR
  have HB0 := hidI hb0
  clear hbk hbR hb0
  have hbk : ((w.alloc (Obj.cells #[Value.slice none 0 0] 26)).alloc (Obj.cells #[Value.slice none 0 0, Value.slice none 0 0] 72)).heap[w.heap.size + 1]? = some (.cells #[.slice none 0 0, .slice none 0 0] 72 (0, 0)) := by
    have := heap_alloc_new (w.alloc (Obj.cells #[Value.slice none 0 0] 26)) (Obj.cells #[Value.slice none 0 0, Value.slice none 0 0] 72)
    simpa using this
  have hbR : ((w.alloc (Obj.cells #[Value.slice none 0 0] 26)).alloc (Obj.cells #[Value.slice none 0 0, Value.slice none 0 0] 72)).heap[w.heap.size]? = some (.cells #[.slice none 0 0] 26 (0, 0)) := (Below.heap_alloc _ _ _ (by simp)).trans (heap_alloc_new _ _)
  have hb0 : Below w.heap.size w ((w.alloc (Obj.cells #[Value.slice none 0 0] 26)).alloc (Obj.cells #[Value.slice none 0 0, Value.slice none 0 0] 72)) := ((Below.refl _ _).alloc (Nat.le_refl _) _).alloc (by simp) _
  have HSR0 : Hid (Sr ((w.alloc (Obj.cells #[Value.slice none 0 0] 26)).alloc (Obj.cells #[Value.slice none 0 0, Value.slice none 0 0] 72)) (w.heap.size + 1) (w.heap.size + 1) (.slice none 0 0) (.slice none 0 0) [] []) := ⟨Nat.le_refl _, by simp, hbk, ONs.nil _ _, World.ownsRow_nil _ _ _ _⟩
  have HBR0 := hidI hbR
  have HB0 := hidI hb0
  clear hbk hbR hb0
  have hbk : ((w.alloc (Obj.cells #[Value.slice none 0 0] 26)).alloc (Obj.cells #[Value.slice none 0 0, Value.slice none 0 0] 72)).heap[w.heap.size + 1]? = some (.cells #[.slice none 0 0, .slice none 0 0] 72 (0, 0)) := by
    have := heap_alloc_new (w.alloc (Obj.cells #[Value.slice none 0 0] 26)) (Obj.cells #[Value.slice none 0 0, Value.slice none 0 0] 72)
    simpa using this
  have hbR : ((w.alloc (Obj.cells #[Value.slice none 0 0] 26)).alloc (Obj.cells #[Value.slice none 0 0, Value.slice none 0 0] 72)).heap[w.heap.size]? = some (.cells #[.slice none 0 0] 26 (0, 0)) := (Below.heap_alloc _ _ _ (by simp)).trans (heap_alloc_new _ _)
  have hb0 : Below w.heap.size w ((w.alloc (Obj.cells #[Value.slice none 0 0] 26)).alloc (Obj.cells #[Value.slice none 0 0, Value.slice none 0 0] 72)) := ((Below.refl _ _).alloc (Nat.le_refl _) _).alloc (by simp) _
  have HSR0 : Hid (Sr ((w.alloc (Obj.cells #[Value.slice none 0 0] 26)).alloc (Obj.cells #[Value.slice none 0 0, Value.slice none 0 0] 72)) (w.heap.size + 1) (w.heap.size + 1) (.slice none 0 0) (.slice none 0 0) [] []) := ⟨Nat.le_refl _, by simp, hbk, ONs.nil _ _, World.ownsRow_nil _ _ _ _⟩
  have HBR0 := hidI hbR
  have HB0 := hidI hb0
  clear hbk hbR hb0
  have hbk : ((w.alloc (Obj.cells #[Value.slice none 0 0] 26)).alloc (Obj.cells #[Value.slice none 0 0, Value.slice none 0 0] 72)).heap[w.heap.size + 1]? = some (.cells #[.slice none 0 0, .slice none 0 0] 72 (0, 0)) := by
    have := heap_alloc_new (w.alloc (Obj.cells #[Value.slice none 0 0] 26)) (Obj.cells #[Value.slice none 0 0, Value.slice none 0 0] 72)
    simpa using this
  have hbR : ((w.alloc (Obj.cells #[Value.slice none 0 0] 26)).alloc (Obj.cells #[Value.slice none 0 0, Value.slice none 0 0] 72)).heap[w.heap.size]? = some (.cells #[.slice none 0 0] 26 (0, 0)) := (Below.heap_alloc _ _ _ (by simp)).trans (heap_alloc_new _ _)
  have hb0 : Below w.heap.size w ((w.alloc (Obj.cells #[Value.slice none 0 0] 26)).alloc (Obj.cells #[Value.slice none 0 0, Value.slice none 0 0] 72)) := ((Below.refl _ _).alloc (Nat.le_refl _) _).alloc (by simp) _
  have HSR0 : Hid (Sr ((w.alloc (Obj.cells #[Value.slice none 0 0] 26)).alloc (Obj.cells #[Value.slice none 0 0, Value.slice none 0 0] 72)) (w.heap.size + 1) (w.heap.size + 1) (.slice none 0 0) (.slice none 0 0) [] []) := ⟨Nat.le_refl _, by simp, hbk, ONs.nil _ _, World.ownsRow_nil _ _ _ _⟩
  have HBR0 := hidI hbR
  have HB0 := hidI hb0
  clear hbk hbR hb0
  have hbk : ((w.alloc (Obj.cells #[Value.slice none 0 0] 26)).alloc (Obj.cells #[Value.slice none 0 0, Value.slice none 0 0] 72)).heap[w.heap.size + 1]? = some (.cells #[.slice none 0 0, .slice none 0 0] 72 (0, 0)) := by
    have := heap_alloc_new (w.alloc (Obj.cells #[Value.slice none 0 0] 26)) (Obj.cells #[Value.slice none 0 0, Value.slice none 0 0] 72)
    simpa using this
  have hbR : ((w.alloc (Obj.cells #[Value.slice none 0 0] 26)).alloc (Obj.cells #[Value.slice none 0 0, Value.slice none 0 0] 72)).heap[w.heap.size]? = some (.cells #[.slice none 0 0] 26 (0, 0)) := (Below.heap_alloc _ _ _ (by simp)).trans (heap_alloc_new _ _)
  have hb0 : Below w.heap.size w ((w.alloc (Obj.cells #[Value.slice none 0 0] 26)).alloc (Obj.cells #[Value.slice none 0 0, Value.slice none 0 0] 72)) := ((Below.refl _ _).alloc (Nat.le_refl _) _).alloc (by simp) _
  have HSR0 : Hid (Sr ((w.alloc (Obj.cells #[Value.slice none 0 0] 26)).alloc (Obj.cells #[Value.slice none 0 0, Value.slice none 0 0] 72)) (w.heap.size + 1) (w.heap.size + 1) (.slice none 0 0) (.slice none 0 0) [] []) := ⟨Nat.le_refl _, by simp, hbk, ONs.nil _ _, World.ownsRow_nil _ _ _ _⟩
  have HBR0 := hidI hbR
  have HB0 := hidI hb0
  clear hbk hbR hb0
  go_enter Try.func15, Try.ntmps15
  go_wp2_with fail
  generalize ((w.alloc (Obj.cells #[Value.slice none 0 0] 26)).alloc (Obj.cells #[Value.slice none 0 0, Value.slice none 0 0] 72)) = w1 at *
  go_loopw [6] (fun q wr => ∃ (p f : Nat) (vN vO : Value) (ns : List Nd) (op : List Nat), q = .int .i64 (p : Int) ∧ p ≤ s.size ∧ s.size - p < f ∧ Sr wr (w.heap.size + 1) (w.heap.size + 1) vN vO ns op ∧ Inv (ns.map Nd.ct) op ∧ readF s f p (ns.map Nd.ct) op = Z ∧ Below (w.heap.size + 1) w1 wr) (fun q _ => s.size - (intOf q).toNat)
  case atStart => exact ⟨0, s.size + 1, _, _, [], [], rfl, Nat.zero_le _, by omega, HSR0.out, HI0.out, HZ.out, Below.refl _ _⟩
  case round =>
    obtain ⟨p, f, vN, vO, ns, op, rfl, hp, hf, hsr, hinv, hz, hbel⟩ := hrel
    obtain ⟨c0, c1, hfr⟩ := hsr.cells
    have cf0 := hfr 0
    have cf1 := hfr 1
    obtain ⟨f, rfl⟩ : ∃ f', f = f' + 1 := ⟨f - 1, by omega⟩
    have hopl := hinv.opl
    have hBsz := hsr.size
    have hRl := hsr.lt
    have hbR := (hbel.block w.heap.size (by omega)).trans HBR0.out
    have r0 := cell_of_one hbR
    have HBRr := hidI hbR
    have rf := free_of_one hbR
    have HBL1 := hidI hbel
    have HBLw := hidI (HB0.out.trans (hbel.mono (by omega)))
    have HS := hidI hsr
    have HI := hidI hinv
    clear hsr hinv hbel HSR0 HI0 HZ hfr hbR HBR0
    by_cases hlt : p < s.size
    · have hb := bn_lt s p
      have e1 := HB.out p hlt
      have hli : (p : Int) < (s.size : Int) := by omega
      by_cases h32 : bn s p = 32 ∨ bn s p = 10
      · rw [readF_skip hlt h32] at hz
        have HZ := hidI hz
        clear hz
        rcases h32 with h32 | h32
        all_goals
          rw [h32] at e1
          clear h32 hb
          go_wp2_with fail
          go_roundw
          case rel => exact ⟨p + 1, f, vN, vO, ns, op, by go_num, by omega, by omega, HS.out, HI.out, HZ.out, HBL1.out⟩
          case measure => simp [intOf]; omega
      have n32 : (((s[p]'hlt).toNat : Int) == 32) = false := beq_eq_false_iff_ne.2 (by omega)
      have n10 : (((s[p]'hlt).toNat : Int) == 10) = false := beq_eq_false_iff_ne.2 (by omega)
      by_cases hbad : bn s p < 32 ∨ 126 < bn s p
      · have hat : atomB (bn s p) = false := by
          cases h : atomB (bn s p) with
          | false => rfl
          | true => simp [atomB] at h; omega
        rw [readF_bad hlt h32 (by omega) (by omega) (by omega) hat] at hz
        have HZ := hidI hz.symm
        clear hz hat
        rcases hbad with hbad | hbad
        · have b1 : (s[p]'hlt).toNat < 32 := by omega
          clear hbad h32 hb e1
          go_wp2_with fail
          refine bodyPost_ret (v := .tuple #[.agg #[.slice none 0 0], .int .i64 2, .int .i64 (p : Int)]) (by simp [results, Try.results15, go_sem, r0]) rfl ?_
          rw [HZ.out]
          exact ⟨_, [], rfl, ONs.nil _ _, rfl, HBLw.out.setCell (by simp) _⟩
        · have b1 : 126 < (s[p]'hlt).toNat := by omega
          have b2 : 32 ≤ (s[p]'hlt).toNat := by omega
          clear hbad h32 hb e1
          go_wp2_with fail
          refine bodyPost_ret (v := .tuple #[.agg #[.slice none 0 0], .int .i64 2, .int .i64 (p : Int)]) (by simp [results, Try.results15, go_sem, r0]) rfl ?_
          rw [HZ.out]
          exact ⟨_, [], rfl, ONs.nil _ _, rfl, HBLw.out.setCell (by simp) _⟩
      have b1 : 32 ≤ (s[p]'hlt).toNat := by omega
      have b2 : (s[p]'hlt).toNat ≤ 126 := by omega
      by_cases h59 : bn s p = 59
      · rw [readF_rem hlt h59] at hz
        have hrun := runE_lt (ok := remB) hlt (by rw [h59]; rfl)
        have hrun1 : runE remB s (s.size - (p + 1)) (p + 1) = runE remB s (s.size - p) p := by
          rw [show s.size - p = (s.size - (p + 1)) + 1 by omega, runE, if_pos (by rw [h59]; rfl)]
        generalize runE remB s (s.size - p) p = E at *
        have HZ := hidI hz
        have HR1 := hidI hrun1
        rw [h59] at e1
        clear hz h59 hb h32 n32 n10 hrun1 b1 b2 hbad
        go_wp2_with fail
        go_loopw [9] (fun q wq => ∃ k : Nat, p + 1 ≤ k ∧ k ≤ s.size ∧ q = .int .i64 (k : Int) ∧ runE remB s (s.size - k) k = E ∧ wq = wr) (fun q _ => s.size - (intOf q).toNat)
        case atStart => exact ⟨p + 1, Nat.le_refl _, by omega, by go_num, HR1.out, rfl⟩
        case round =>
          obtain ⟨k, hk1, hk2, rfl, hr, hwq⟩ := hrel
          subst hwq
          have HK := hidI hr
          clear hr
          by_cases hlk : k < s.size
          · have d1 := HB.out k hlk
            have hki : (k : Int) < (s.size : Int) := by omega
            have HST : Hid (runE remB s (s.size - k) k = if remB (bn s k) = true then runE remB s (s.size - (k + 1)) (k + 1) else k) := by
              show _ = _
              rw [show s.size - k = (s.size - (k + 1)) + 1 by omega, runE]
            by_cases hok : 32 ≤ bn s k ∧ bn s k ≤ 126
            · have hyes : Hid (remB (bn s k) = true) := by show _ = _; simp [remB]; exact hok
              have m10 : (((s[k]'hlk).toNat : Int) != 10) = true := bne_iff_ne.2 (by omega)
              have m1 : 32 ≤ (s[k]'hlk).toNat := by omega
              have m2 : (s[k]'hlk).toNat ≤ 126 := by omega
              clear d1 hok
              go_wp2_with fail
              go_roundw
              case rel => exact ⟨k + 1, by omega, by omega, by go_num, by have h := HK.out; rw [HST.out, if_pos hyes.out] at h; exact h, by first | rfl | trivial⟩
              case measure => simp [intOf]; omega
            · have hno : remB (bn s k) = false := by
                cases h : remB (bn s k) with
                | false => rfl
                | true => simp [remB] at h; exact absurd h hok
              have hkE : k = E := by have h := HK.out; rw [HST.out, if_neg (by rw [hno]; simp)] at h; exact h
              have HKE := hidI hkE
              have hkE2 : k ≤ s.size := hk2
              clear HK HST hno hkE
              by_cases h10 : bn s k = 10
              · rw [h10] at d1
                clear hok h10
                go_wp2_with fail
                go_roundw
                case rel => exact ⟨k, f, vN, vO, ns, op, rfl, by omega, by omega, HS.out, HI.out, by rw [HKE.out]; exact HZ.out, HBL1.out⟩
                case measure => simp [intOf]; omega
              · have m10 : (((s[k]'hlk).toNat : Int) != 10) = true := bne_iff_ne.2 (by omega)
                by_cases h31 : bn s k < 32
                · have m1 : (s[k]'hlk).toNat < 32 := by omega
                  clear d1 hok h10 h31
                  go_wp2_with fail
                  go_roundw
                  case rel => exact ⟨k, f, vN, vO, ns, op, rfl, by omega, by omega, HS.out, HI.out, by rw [HKE.out]; exact HZ.out, HBL1.out⟩
                  case measure => simp [intOf]; omega
                · have m1 : 32 ≤ (s[k]'hlk).toNat := by omega
                  have m2 : 126 < (s[k]'hlk).toNat := by omega
                  clear d1 hok h10 h31
                  go_wp2_with fail
                  go_roundw
                  case rel => exact ⟨k, f, vN, vO, ns, op, rfl, by omega, by omega, HS.out, HI.out, by rw [HKE.out]; exact HZ.out, HBL1.out⟩
                  case measure => simp [intOf]; omega
          · have hkE : k = E := by have h := HK.out; rw [show s.size - k = 0 by omega, runE] at h; exact h
            have HKE := hidI hkE
            clear hkE HK
            go_wp2_with fail
            go_roundw
            case rel => exact ⟨k, f, vN, vO, ns, op, rfl, by omega, by omega, HS.out, HI.out, by rw [HKE.out]; exact HZ.out, HBL1.out⟩
            case measure => simp [intOf]; omega
      have n59 : (((s[p]'hlt).toNat : Int) == 59) = false := beq_eq_false_iff_ne.2 (by omega)
      by_cases h41 : bn s p = 41
      · rw [readF_shut hlt h41] at hz
        rw [h41] at e1
        clear h41 h59 h32 hb n32 n10 n59 b1 b2 hbad
        cases op with
        | nil =>
          have HZ := hidI hz.symm
          obtain ⟨aO, kO, rfl, -, -⟩ := HS.out.row.shape
          simp only [oi_len] at c1
          clear hz
          go_wp2_with fail
          refine bodyPost_ret (v := .tuple #[.agg #[.slice none 0 0], .int .i64 3, .int .i64 (p : Int)]) (by simp [results, Try.results15, go_sem, r0]) rfl ?_
          rw [HZ.out]
          exact ⟨_, [], rfl, ONs.nil _ _, rfl, HBLw.out.setCell (by simp) _⟩
        | cons u op =>
          have HZ := hidI hz
          obtain ⟨gO, kO, hvO, hk1, hk2, -, hpo, hpb⟩ := HS.out.popO
          subst hvO
          have hopl' : op.length ≤ 100 := by simp at hopl; omega
          have HSP := hidI hpo
          have HBP := hidI hpb
          have i1 : (((op.length : Int) + 1) == 0) = false := beq_eq_false_iff_ne.2 (by omega)
          have i2 : (op.length : Int) < (op.length : Int) + 1 := by omega
          have i3 : (op.length : Int) ≤ (kO : Int) := by omega
          have i4 : kO ≤ 9223372036854775807 := by unfold maxLen at hk2; omega
          clear hz hpo hpb
          go_wp2_with fail
          go_region
          all_goals go_wp2_with fail
          all_goals go_roundw
          case rel => exact ⟨p + 1, f, _, _, ns, op, by go_num, by omega, by omega, HSP.out.later ((Below.refl _ _).drew), HI.out.tail, HZ.out, (HBL1.out.trans HBP.out).drew⟩
          case measure => simp [intOf]; omega
      have n41 : (((s[p]'hlt).toNat : Int) == 41) = false := beq_eq_false_iff_ne.2 (by omega)
      have HBN := hidI (fun (t : ByteArray) hbz => sBegin_no wr (w.heap.size + 1) (w.heap.size + 1) t vN vO ns op HS.out (by omega) hbz)
      have HBY := hidI (fun (t : ByteArray) (ht : t.size ≤ 1048576) hbz => sBegin_yes wr (w.heap.size + 1) (w.heap.size + 1) t vN vO ns op HS.out ht HI.out hbz)
      by_cases h40 : bn s p = 40
      · rw [readF_open hlt h40] at hz
        rw [h40] at e1
        clear h40 h41 h59 h32 hb n32 n10 n59 n41 b1 b2 hbad
        by_cases hbz : begF (ns.map Nd.ct) op = 0
        · rw [if_neg (by omega)] at hz
          have HZ := hidI hz
          have HII := hidI (HI.out.open (t := .empty) hbz).1
          have HBG := hidI (HBY.out ⟨#[]⟩ (by decide) hbz)
          clear hz HBN HBY hbz
          go_wp2_with fail
          refine Calls.mono HBG.out ?_
          rintro e w2 ⟨vN1, vO1, ns1, rfl, hS1, hct, hb1⟩
          have hlen1 : ns1.length = ns.length + 1 := by
            have h := congrArg List.length hct
            rw [putC_len] at h
            simpa using h
          obtain ⟨x0, x1, xf⟩ := hS1.cells
          have xf1 := xf 1
          obtain ⟨aN1, kN1, rfl, -, -⟩ := hS1.nodes.shape
          obtain ⟨aO1, kO1, rfl, -, -⟩ := hS1.row.shape
          have hB2 := hS1.size
          have hR2 := hS1.lt
          have hn2 := hS1.nodes.len
          have HneO : Hid (some (w.heap.size + 1) ≠ (Value.slice aO1 (oi op).length kO1).ownBlock) := fun e => owns_ne hS1.row hS1.blk (by decide) e.symm
          have HS1 := hidI hS1
          have HCT := hidI hct
          have HL1 := hidI hlen1
          have HB1 := hidI hb1
          have hn3 : ns.length + 1 ≤ 2000 := by omega
          have hwr : IntKind.i64.wrap (ns.length : Int) = (ns.length : Int) := by rw [IntKind.wrap_i64]; omega
          rw [hlen1] at x0
          clear hS1 hct hb1 xf hlen1
          go_wp2_with fail
          go_region_law
            (first
              | (refine step_appJ _ rfl _ _ rfl (w.heap.size + 1) _ (oi op) (ns.length : Int) rfl (RowJ.later HS1.out.row (((Below.refl w2.heap.size w2).drew).alloc (Nat.le_refl _) _)) w2.heap.size 1 rfl (cellNewI _ _ _ _ rfl) (by rw [oi_len]; omega) (by simp; omega) ?_; intro g5 k5 w5 ho5 hg5; have d1 : w5.cell? ⟨w.heap.size + 1, 1, none⟩ = some (.slice aO1 (oi op).length kO1) := hg5.cell ((acellI _ _ _ _ hR2).trans x1) HneO.out; have d2 : w5.frozen? ⟨w.heap.size + 1, 1, none⟩ = false := (World.frozen?_of_block (hg5.block (w.heap.size + 1) (by simp; omega) HneO.out)).trans ((World.frozen?_of_block (Below.heap_alloc _ _ _ hR2)).trans xf1)))
          all_goals
            have hSA := Sr.later HS1.out (((Below.refl w2.heap.size w2).drew).alloc (Nat.le_refl _) (Obj.cells #[Value.int IntKind.i64 (ns.length : Int)] 3))
            obtain ⟨hS6, hb6⟩ := Sr.pushO (u := ns.length) hSA hg5 ho5
            have HS6 := hidI hS6
            have HB6 := hidI (HB1.out.trans (((Below.refl (w.heap.size + 1) w2).drew.alloc hB2 _).trans hb6))
            clear hSA hS6 hb6 ho5 hg5
            go_wp2_with fail
            go_roundw
            case rel =>
              refine ⟨p + 1, f, _, _, ns1, ns.length :: op, by go_num, by omega, by omega, HS6.out, ?_, ?_, HBL1.out.trans HB6.out⟩
              · rw [HCT.out]; have h := HII.out; rw [List.length_map] at h; exact h
              · rw [HCT.out]; have h := HZ.out; rw [List.length_map] at h; exact h
            case measure => simp [intOf]; omega
        · rw [if_pos hbz] at hz
          have HZ := hidI hz.symm
          have HBG := hidI (HBN.out ⟨#[]⟩ hbz)
          have hble : begF (ns.map Nd.ct) op ≤ 8 := begF_le _ _
          generalize begF (ns.map Nd.ct) op = F at *
          have i1 : ((F : Int) != 0) = true := bne_iff_ne.2 (by omega)
          clear hz HBN HBY
          obtain ⟨aN, kN, hvN, -, -⟩ := HS.out.nodes.shape
          obtain ⟨aO, kO, hvO, -, -⟩ := HS.out.row.shape
          subst hvN
          subst hvO
          have hnl := HS.out.nodes.len
          have HneO : Hid (some (w.heap.size + 1) ≠ (Value.slice aO (oi op).length kO).ownBlock) := fun e => owns_ne HS.out.row HS.out.blk (by decide) e.symm
          have HneR : Hid (some w.heap.size ≠ (Value.slice aO (oi op).length kO).ownBlock) := fun e => by have := (owns_typed HS.out.row e.symm).1; omega
          have hWl : w.heap.size < wr.heap.size := by omega
          have hwr : IntKind.i64.wrap ((ns.length : Int) - 1) = (ns.length : Int) - 1 := by rw [IntKind.wrap_i64]; omega
          go_wp2_with (go_at_call 36; refine Calls.mono HBG.out ?_; rintro e wr ⟨rfl, rfl⟩)
          go_region_law
            (first
              | (refine step_appJ _ rfl _ _ rfl (w.heap.size + 1) _ (oi op) ((ns.length : Int) - 1) rfl (RowJ.later HS.out.row (((Below.refl wr.heap.size wr).drew).alloc (Nat.le_refl _) _)) wr.heap.size 1 rfl (cellNewI _ _ _ _ rfl) (by rw [oi_len]; omega) (by simp; omega) ?_; intro g5 k5 w5 ho5 hg5; have d1 : w5.cell? ⟨w.heap.size + 1, 1, none⟩ = some (.slice aO (oi op).length kO) := hg5.cell ((acellI _ _ _ _ hRl).trans c1) HneO.out; have d2 : w5.frozen? ⟨w.heap.size + 1, 1, none⟩ = false := (World.frozen?_of_block (hg5.block (w.heap.size + 1) (by simp; omega) HneO.out)).trans ((World.frozen?_of_block (Below.heap_alloc _ _ _ hRl)).trans cf1); have d3 : w5.cell? ⟨w.heap.size, 0, none⟩ = some (.slice none 0 0) := hg5.cell ((acellI _ _ _ _ hWl).trans r0) HneR.out; have d4 : w5.frozen? ⟨w.heap.size, 0, none⟩ = false := (World.frozen?_of_block (hg5.block w.heap.size (by simp; omega) HneR.out)).trans ((World.frozen?_of_block (Below.heap_alloc _ _ _ hWl)).trans rf)))
          all_goals
            have hSA := Sr.later HS.out (((Below.refl wr.heap.size wr).drew).alloc (Nat.le_refl _) (Obj.cells #[Value.int IntKind.i64 ((ns.length : Int) - 1)] 3))
            have hb6 := Below_grown hg5 hSA.row hSA.size
            have HB6 := hidI (HBLw.out.trans (((Below.refl w.heap.size wr).drew.alloc (show w.heap.size ≤ wr.heap.size by omega) _).trans (hb6.mono (by omega))))
            clear hSA hb6 ho5 hg5
            go_wp2_with fail
            refine bodyPost_ret (v := .tuple #[.agg #[.slice none 0 0], .int .i64 (F : Int), .int .i64 (p : Int)]) (by simp [results, Try.results15, go_sem, d3]) rfl ?_
            rw [HZ.out]
            exact ⟨_, [], rfl, ONs.nil _ _, rfl, (HB6.out.setCell (by simp) _).setCell (by simp) _⟩
      have n40 : (((s[p]'hlt).toNat : Int) == 40) = false := beq_eq_false_iff_ne.2 (by omega)
      have hat : atomB (bn s p) = true := by
        simp [atomB]
        omega
      rw [readF_atom hlt hat] at hz
      have hrun := runE_lt (ok := atomB) hlt hat
      have HLE := hidI (fun (u : World) => l2End_any s p hp (by omega) u)
      have hexs := extract_size s p (runE atomB s (s.size - p) p) hrun.2
      generalize runE atomB s (s.size - p) p = E at *
      have j1 : (p : Int) ≤ (E : Int) := by omega
      have j2 : (E : Int) ≤ (s.size : Int) := by omega
      clear hat h40 h41 h59 h32 hb e1 hbad
      by_cases hbz : begF (ns.map Nd.ct) op = 0
      · rw [if_neg (by omega)] at hz
        have HZ := hidI hz
        have HII := hidI (HI.out.open (t := s.extract p E) hbz).2
        have HBG := hidI (HBY.out (s.extract p E) (by omega) hbz)
        clear hz HBN HBY hbz
        go_wp2_with (go_at_call 37; refine Calls.mono (HLE.out _) ?_; rintro e wr ⟨rfl, rfl⟩)
        refine Calls.mono HBG.out ?_
        rintro e w2 ⟨vN1, vO1, ns1, rfl, hS1, hct, hb1⟩
        have HS1 := hidI hS1
        have HCT := hidI hct
        clear hS1 hct
        go_wp2_with fail
        go_roundw
        case rel =>
          refine ⟨E, f, vN1, vO1, ns1, op, rfl, by omega, by omega, HS1.out, ?_, ?_, HBL1.out.trans hb1⟩
          · rw [HCT.out]; exact HII.out
          · rw [HCT.out]; exact HZ.out
        case measure => simp [intOf]; omega
      · rw [if_pos hbz] at hz
        have HZ := hidI hz.symm
        have HBG := hidI (HBN.out (s.extract p E) hbz)
        generalize begF (ns.map Nd.ct) op = F at *
        have i1 : ((F : Int) != 0) = true := bne_iff_ne.2 (by omega)
        clear hz HBN HBY
        go_wp2_with (first
          | (go_at_call 37; refine Calls.mono (HLE.out _) ?_; rintro e wr ⟨rfl, rfl⟩)
          | (go_at_call 36; refine Calls.mono HBG.out ?_; rintro e wr ⟨rfl, rfl⟩))
        refine bodyPost_ret (v := .tuple #[.agg #[.slice none 0 0], .int .i64 (F : Int), .int .i64 (p : Int)]) (by simp [results, Try.results15, go_sem, r0]) rfl ?_
        rw [HZ.out]
        exact ⟨_, [], rfl, ONs.nil _ _, rfl, HBLw.out.setCell (by simp) _⟩
    · have hpe : p = s.size := by omega
      subst hpe
      rw [readF_end (Nat.le_refl _)] at hz
      obtain ⟨aN, kN, hvN, -, -⟩ := HS.out.nodes.shape
      obtain ⟨aO, kO, hvO, -, -⟩ := HS.out.row.shape
      subst hvN
      subst hvO
      have hnl := HS.out.nodes.len
      rw [oi_len] at c1
      by_cases ho : op ≠ []
      · rw [if_pos ho] at hz
        have HZ := hidI hz.symm
        have h1' : 0 < op.length := List.length_pos_iff.2 ho
        have i1 : (0 : Int) < (op.length : Int) := by omega
        clear hz ho h1'
        go_wp2_with fail
        refine bodyPost_ret (v := .tuple #[.agg #[.slice none 0 0], .int .i64 7, .int .i64 (s.size : Int)]) (by simp [results, Try.results15, go_sem, r0]) rfl ?_
        rw [HZ.out]
        exact ⟨_, [], rfl, ONs.nil _ _, rfl, HBLw.out.setCell (by simp) _⟩
      · rw [if_neg ho] at hz
        have ho' : op = [] := by simpa using ho
        subst ho'
        clear ho
        by_cases hn : ns.length = 0
        · rw [if_pos (by simpa using hn)] at hz
          have HZ := hidI hz.symm
          have i2 : ((ns.length : Int) == 0) = true := beq_iff_eq.2 (by omega)
          clear hz hn
          go_wp2_with fail
          refine bodyPost_ret (v := .tuple #[.agg #[.slice none 0 0], .int .i64 8, .int .i64 (s.size : Int)]) (by simp [results, Try.results15, go_sem, r0]) rfl ?_
          rw [HZ.out]
          exact ⟨_, [], rfl, ONs.nil _ _, rfl, HBLw.out.setCell (by simp) _⟩
        · rw [if_neg (by simpa using hn)] at hz
          have HZ := hidI hz.symm
          have i2 : ((ns.length : Int) == 0) = false := beq_eq_false_iff_ne.2 (by omega)
          have HN := hidI (HS.out.nodes.base (show w.heap.size ≤ w.heap.size + 1 by omega))
          clear hz hn
          go_wp2_with fail
          refine bodyPost_ret (v := .tuple #[.agg #[.slice aN ns.length kN], .int .i64 0, .int .i64 0]) (by simp [results, Try.results15, go_sem, r0]) rfl ?_
          rw [HZ.out]
          exact ⟨_, ns, rfl, HN.out.other grown_set HBRr.out (by decide) (by decide), rfl, HBLw.out.setCell (by simp) _⟩

end Go.Proofs.Yteainbakfeedpaa
