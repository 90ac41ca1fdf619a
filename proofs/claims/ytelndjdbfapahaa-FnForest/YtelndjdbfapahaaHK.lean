/- Links taken back: the program. -/
import Derived.Test.YtelndjdbfapahaaHI
import Derived.Test.YtelndjdbfapahaaGR
import Derived.Handy
namespace Go.Proofs.Ytelndjdbfapahaa
set_option linter.unusedVariables false
set_option linter.unusedSimpArgs false
open Go.RowKit

def undoR (z : Int) (ls : List Lk) (x : Int) : Int × List Lk := match forR z ls with
  | none => (0, [])
  | some _ => if 0 ≤ x ∧ x ≤ (ls.length : Int) then (z, ls.take x.toNat) else (0, [])

/-- A forest of its own. -/
def RetU (w : World) (R : Int × List Lk) (e : Ending) (w' : World) : Prop :=
  ∃ v, e = .returned (.agg #[.int .i64 R.1, v]) ∧ OK3 w' w.heap.size v R.2 ∧ Below w.heap.size w w'

theorem RetU.no {w w' : World} (h : Below w.heap.size w w') : RetU w (0, []) (.returned (.agg #[.int .i64 0, .slice none 0 0])) w' := ⟨_, rfl, ⟨rfl, .inl ⟨rfl, rfl⟩⟩, h⟩

theorem undoR_ok (z : Int) (ls : List Lk) (x : Int) (h1 : ls.length ≤ 1048576) (h2 : ∀ l ∈ ls, in64 l.1 ∧ in64 l.2.1 ∧ in64 l.2.2) : (undoR z ls x).2.length ≤ 1048576 ∧ ∀ l ∈ (undoR z ls x).2, in64 l.1 ∧ in64 l.2.1 ∧ in64 l.2.2 := by
  unfold undoR
  split
  · exact ⟨by simp, by simp⟩
  · split
    · exact ⟨by simp; omega, fun l hl => h2 l (List.mem_of_mem_take hl)⟩
    · exact ⟨by simp, by simp⟩

theorem goF_ne {n : Nat} : ∀ {L L' : Nat → Nat} {ls : List Lk}, goF n L ls = some L' → ∀ l ∈ ls, l.1.toNat ≠ l.2.1.toNat
  | L, L', [], _, l, hl => by simp at hl
  | L, L', k :: t, h, l, hl => by
    rw [goF] at h
    split at h
    · rename_i hk
      obtain ⟨-, -, -, h4⟩ := lkOk_iff.1 hk
      rcases List.mem_cons.1 hl with rfl | hl
      · exact fun e => h4 (by rw [e])
      · exact goF_ne h l hl
    · cases h
theorem forR_ne {z : Int} {L : Nat → Nat} {ls : List Lk} (h : forR z ls = some L) : ∀ l ∈ ls, l.1.toNat ≠ l.2.1.toNat := by
  unfold forR at h
  split at h
  · exact goF_ne h
  · cases h

set_option maxHeartbeats 1000000 in
set_option maxRecDepth 100000 in
theorem implUndo_any (z : Int) (a : Option Addr) (n c : Nat) (ls : List Lk) (x : Int) (w : World) (hr : RdK w a ls) (hn : ls.length = n) :
    Calls Try.prog 28 #[.agg #[.int .i64 z, .slice a n c], .int .i64 x] w (RetU w (undoR z ls x)) := by
  obtain ⟨R, hR⟩ : ∃ R, undoR z ls x = R := ⟨_, rfl⟩
  rw [hR]
  have HR := kide hR
  have hl2 : ls.length ≤ 1048576 := hr.1
  have h2 : Below w.heap.size w ((w.alloc (Obj.cells #[.int .i64 z, .slice a n c] 29)).alloc (Obj.cells #[.int .i64 0, .slice none 0 0] 29)) := ((Below.refl _ _).alloc (Nat.le_refl _) _).alloc (by simp) _
  have XR : Hid (Bx ((w.alloc (Obj.cells #[.int .i64 z, .slice a n c] 29)).alloc (Obj.cells #[.int .i64 0, .slice none 0 0] 29)) (w.heap.size + 1) #[.int .i64 0, .slice none 0 0] 29) := by
    have := Bx.new (w.alloc (Obj.cells #[.int .i64 z, .slice a n c] 29)) #[.int .i64 0, .slice none 0 0] 29
    rwa [World.size_alloc] at this
  have HC := kide (groveOf_any z a n c ls _ (hr.later h2) hn)
  have H2 := kide h2
  have hz0 : Hid (((w.alloc (Obj.cells #[.int .i64 z, .slice a n c] 29)).alloc (Obj.cells #[.int .i64 0, .slice none 0 0] 29)).heap.size = w.heap.size + 2) := by show _ = _; simp
  have HN := kide hn
  clear hr hn hR h2
  go_enter Try.func28, Try.ntmps28
  go_wp2_with fail
  generalize (w.alloc (Obj.cells #[.int .i64 z, .slice a n c] 29)).alloc (Obj.cells #[.int .i64 0, .slice none 0 0] 29) = w0 at *
  refine Calls.mono HC.out ?_
  rintro e w1 ⟨hb, ⟨hf, rfl⟩ | ⟨L, G, s, rt, dp, M, hf, rfl, hg, hnl, huf, hps, hls, hM, hcl, hdg⟩⟩
  · have B1 := kide (H2.out.trans (hb.mono H2.out.size))
    have X1 := kide (XR.out.later hb)
    have hres : R = (0, []) := by rw [← HR.out, undoR, hf]
    subst hres
    have r0 := X1.out.cell 0
    have r1 := X1.out.cell 1
    have f0 := X1.out.froz 0
    have f1 := X1.out.froz 1
    simp at r0 r1
    clear hb hf HR
    go_wp2_with fail
    exact bodyPost_ret (v := .agg #[.int .i64 0, .slice none 0 0]) (by simp [results, Try.results28, go_sem, r0, r1]) rfl (RetU.no ((B1.out.setCell (by simp) _).setCell (by simp) _))
  · have B1 := kide (H2.out.trans (hb.mono H2.out.size))
    have X1 := kide (XR.out.later hb)
    have HF := kide hf
    have HG := kide hg
    have HNL := kide hnl
    have HPS := kide hps
    have HLS := kide hls
    have HCL := kide hcl
    have HDG := kide hdg
    have hz1 := (forR_len hf).1
    obtain ⟨ia, ic, eic⟩ : ∃ ia ic, s.ic = .slice ia n ic := by
      rw [hnl.i]
      obtain ⟨q1, q2⟩ := hg.ir
      have hl3 : s.ts.length = n := by rw [hnl.n, hls]; exact HN.out
      rcases q2 with ⟨e, h0⟩ | ⟨g, cap, cur, e, -⟩
      · exact ⟨none, 0, by rw [e, ← hl3, h0]⟩
      · exact ⟨_, _, by rw [e, hl3]⟩
    have g1 : w1.cell? ⟨G, 1, none⟩ = some (.slice ia n ic) := by rw [cell_of hg.gb, ← eic]; rfl
    have hn2 : n ≤ 1048576 := by rw [← HN.out]; exact hl2
    have HSZ := kide (size_any G 0 n ic ia w1 hn2 g1)
    have r0 := X1.out.cell 0
    have r1 := X1.out.cell 1
    have f0 := X1.out.froz 0
    have f1 := X1.out.froz 1
    simp at r0 r1
    unfold pt
    clear hb hf hg hnl huf hps hls hcl hdg g1 eic
    by_cases hx : 0 ≤ x ∧ x ≤ (n : Int)
    case neg =>
      have hres : R = (0, []) := by
        rw [← HR.out, undoR, HF.out]
        simp only []
        rw [if_neg (by rw [HN.out]; exact hx)]
      subst hres
      by_cases hx0 : x < 0
      · go_wp2_with fail
        exact bodyPost_ret (v := .agg #[.int .i64 0, .slice none 0 0]) (by simp [results, Try.results28, go_sem, r0, r1]) rfl (RetU.no ((B1.out.setCell (by simp) _).setCell (by simp) _))
      · have hx1 : (n : Int) < x := by omega
        go_wp2_with (go_at_call 55; refine Calls.mono HSZ.out ?_; rintro e w2 ⟨rfl, hw2⟩; obtain rfl := hw2.symm)
        exact bodyPost_ret (v := .agg #[.int .i64 0, .slice none 0 0]) (by simp [results, Try.results28, go_sem, r0, r1]) rfl (RetU.no ((B1.out.setCell (by simp) _).setCell (by simp) _))
    obtain ⟨k, rfl⟩ : ∃ k : Nat, x = (k : Int) := ⟨x.toNat, by omega⟩
    have hkn : k ≤ n := by omega
    have hres : R = (z, ls.take k) := by
      rw [← HR.out, undoR, HF.out]
      simp only []
      rw [if_pos (by rw [HN.out]; exact hx)]
      simp
    subst hres
    have i0 : ¬ (k : Int) < 0 := by omega
    have i1 : ¬ (n : Int) < (k : Int) := by omega
    clear HR hx
    go_wp2_with (go_at_call 55; refine Calls.mono HSZ.out ?_; rintro e w2 ⟨rfl, hw2⟩; obtain rfl := hw2.symm)
    have HNE := kide (forR_ne HF.out)
    have HOK := kide (forR_ok HF.out)
    have hful : Hid (ls.take n = ls) := by show _ = _; rw [List.take_of_length_le (by rw [HN.out]; omega)]
    have HKN := kide hkn
    clear HSZ r0 r1 f0 f1 i0 i1 hkn
    go_loopw [] (fun wr => ∃ (m : Nat) (s' : Gs), k ≤ m ∧ m ≤ n ∧ s'.ls = ls.take m ∧ Gv wr (w0.heap.size + 1) G M s' ∧ Nl s' ∧ Cl wr s' ∧ Dg s' ∧ s'.ps = s.ps ∧ Below (w0.heap.size + 1) w1 wr) (fun wr => lenV ((wr.cell? ⟨G, 1, none⟩).getD undef))
    case atStart => exact ⟨n, s, HKN.out, Nat.le_refl _, by rw [HLS.out, hful.out], HG.out, HNL.out, HCL.out, HDG.out, rfl, Below.refl _ _⟩
    case round =>
      obtain ⟨m, s', hkm, hmn, hls, hg, hnl, hcl, hdg, hps, hbl⟩ := hrel
      have HG' := kide hg
      have HN' := kide hnl
      have HC' := kide hcl
      have HD' := kide hdg
      have HL' := kide hls
      have HP' := kide hps
      have HB' := kide hbl
      have hlm : s'.ls.length = m := by rw [hls]; have := HN.out; simp; omega
      obtain ⟨ia, ic, eic⟩ : ∃ ia ic, s'.ic = .slice ia m ic := by
        rw [hnl.i]
        have hl3 : s'.ts.length = m := by rw [hnl.n]; exact hlm
        rcases hg.ir.2 with ⟨e, h0⟩ | ⟨g, cap, cur, e, -⟩
        · exact ⟨none, 0, by rw [e, ← hl3, h0]⟩
        · exact ⟨_, _, by rw [e, hl3]⟩
      have g1 : wr.cell? ⟨G, 1, none⟩ = some (.slice ia m ic) := by rw [cell_of hg.gb, ← eic]; rfl
      have HSZ := kide (size_any G 0 m ic ia wr (by omega) g1)
      have HME : Hid (lenV ((wr.cell? ⟨G, 1, none⟩).getD undef) = m) := by show _ = _; rw [g1]; rfl
      clear hg hnl hcl hdg hls hps hbl eic g1
      by_cases hlt : k < m
      · have j0 : (k : Int) < (m : Int) := by omega
        obtain ⟨m', hm'⟩ : ∃ m', m = m' + 1 := ⟨m - 1, by omega⟩
        obtain ⟨l, hl⟩ : ∃ l, ls[m']? = some l := ⟨ls[m']'(by have := HN.out; omega), List.getElem?_eq_getElem _⟩
        have hsp : s'.ls = ls.take m' ++ [l] := by rw [HL'.out, hm', List.take_add_one, hl]; rfl
        have HUN := kide (undo_any HG'.out HN'.out HC'.out HD'.out hsp (HNE.out l (List.mem_of_getElem? hl)) (by omega) (by rw [hlm]; omega))
        have HM' := kide hm'
        clear hl hsp hm' hlm
        go_wp2_with (go_at_call 55; refine Calls.mono HSZ.out ?_; rintro e w2 ⟨rfl, hw2⟩; obtain rfl := hw2.symm)
        refine Calls.mono HUN.out ?_
        rintro e w3 ⟨rfl, s3, hg3, hn3, hc3, hd3, hl3, hp3, hb3⟩
        have HG3 := kide hg3
        have HN3 := kide hn3
        have HC3 := kide hc3
        have HD3 := kide hd3
        have HL3 := kide hl3
        have HP3 := kide (hp3.trans HP'.out)
        have HB3 := kide (HB'.out.trans hb3)
        clear hg3 hn3 hc3 hd3 hl3 hp3 hb3
        go_wp2_with fail
        go_roundw
        case rel =>
          have h1 : decide (n < k) = false := decide_eq_false (by have := HKN.out; omega)
          simp only [h1, Bool.or_false]
          exact ⟨_, _, _, _, _, _, _, _, ⟨m', s3, by have := HM'.out; omega, by have := HM'.out; omega, HL3.out, HG3.out, HN3.out, HC3.out, HD3.out, HP3.out, HB3.out⟩, rfl⟩
        case measure =>
          rw [HME.out, cell_of HG3.out.gb]
          have hlm3 : s3.ts.length = m' := by rw [HN3.out.n, HL3.out]; have := HN.out; have := HM'.out; simp; omega
          have := own_lenV HG3.out.ir
          rw [← HN3.out.i] at this
          show lenV s3.ic < m
          have := HM'.out
          omega
      · have hmk : m = k := by omega
        subst hmk
        have j0 : ¬ (m : Int) < (m : Int) := by omega
        have hpl : s'.ps.length ≤ 1000 := by rw [HP'.out]; have := HPS.out; omega
        have HMEM : ∀ l ∈ s'.ls, (0 ≤ l.1 ∧ l.1 < (s'.ps.length : Int)) ∧ 0 ≤ l.2.1 ∧ l.2.1 < (s'.ps.length : Int) := by
          intro l hl
          rw [HL'.out] at hl
          have := HOK.out l (List.mem_of_mem_take hl)
          have := HPS.out
          rw [HP'.out]
          omega
        have HFO := kide (forest_any G wr (w0.heap.size + 1) M s' HG'.out HN'.out (by rw [hlm]; omega) hpl HMEM)
        have X3 : Hid (Bx wr (w.heap.size + 1) #[.int .i64 0, .slice none 0 0] 29) := by
          show wr.heap[w.heap.size + 1]? = _
          rw [HB'.out.block _ (by have := hz0.out; omega)]
          exact X1.out
        have B3 : Hid (Below w.heap.size w wr) := B1.out.trans (HB'.out.mono (by have := hz0.out; omega))
        have hsz3 : Hid (w.heap.size ≤ wr.heap.size) := B3.out.size
        clear HMEM hpl hlm
        go_wp2_with (first | (go_at_call 55; refine Calls.mono HSZ.out ?_; rintro e w2 ⟨rfl, hw2⟩; obtain rfl := hw2.symm))
        refine Calls.mono HFO.out ?_
        rintro e w5 ⟨v5, rfl, o5, hb5⟩
        have O5 := kide (show OK3 w5 (wr.heap.size + 2) v5 (ls.take m) by rw [← HL'.out]; exact o5)
        have X5 := kide (X3.out.later hb5)
        have B5 := kide (B3.out.trans (hb5.mono B3.out.size))
        obtain ⟨a5, c5, rfl⟩ := ok3_form O5.out
        have hpl : Hid ((s'.ps.length : Int) = z) := by show _ = _; rw [HP'.out]; exact HPS.out
        rw [hpl.out]
        have r0 := X5.out.cell 0
        have r1 := X5.out.cell 1
        have f0 := X5.out.froz 0
        have f1 := X5.out.froz 1
        simp at r0 r1
        clear o5 hb5
        have OE : Hid (OK3 ((w5.setCell ⟨w.heap.size + 1, 0, none⟩ (.int .i64 z)).setCell ⟨w.heap.size + 1, 1, none⟩ (.slice a5 (ls.take m).length c5)) w.heap.size (.slice a5 (ls.take m).length c5) (ls.take m)) :=
          ok3_base (own3_set (own3_set O5.out X5.out (by decide) _) (X5.out.set 0 (.int .i64 z)) (by decide) _) (by have := hsz3.out; omega)
        have BE : Hid (Below w.heap.size w ((w5.setCell ⟨w.heap.size + 1, 0, none⟩ (.int .i64 z)).setCell ⟨w.heap.size + 1, 1, none⟩ (.slice a5 (ls.take m).length c5))) := (B5.out.setCell (by simp) _).setCell (by simp) _
        have XE : Hid (Bx ((w5.setCell ⟨w.heap.size + 1, 0, none⟩ (.int .i64 z)).setCell ⟨w.heap.size + 1, 1, none⟩ (.slice a5 (ls.take m).length c5)) (w.heap.size + 1) #[.int .i64 z, .slice a5 (ls.take m).length c5] 29) := (X5.out.set 0 _).set 1 _
        generalize hLE : ls.take m = LE at *
        clear hLE
        go_wp2_with fail
        generalize (w5.setCell ⟨w.heap.size + 1, 0, none⟩ (.int .i64 z)).setCell ⟨w.heap.size + 1, 1, none⟩ (.slice a5 LE.length c5) = wE at *
        have z0 := XE.out.cell 0
        have z1 := XE.out.cell 1
        simp at z0 z1
        exact bodyPost_ret (v := .agg #[.int .i64 z, .slice a5 LE.length c5]) (by simp [results, Try.results28, go_sem, z0, z1]) rfl ⟨_, rfl, OE.out, BE.out⟩

end Go.Proofs.Ytelndjdbfapahaa
