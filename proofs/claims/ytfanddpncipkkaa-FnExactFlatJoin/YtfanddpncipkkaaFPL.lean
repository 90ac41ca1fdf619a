/- Parts of flat forms, on the program's side. -/
import Derived.Test.YtfanddpncipkkaaFPF
import Derived.Test.YtfanddpncipkkaaFPJ
import Derived.Test.YtfanddpncipkkaaFPK
import Derived.Test.YtfanddpncipkkaaFPB
import Derived.Test.YtfanddpncipkkaaZFH
import Derived.Handy
namespace Go.Proofs.Ytfanddpncipkkaa
set_option linter.unusedVariables false
set_option linter.unusedSimpArgs false
open Go.RowKit Go.Shelf

/-- Segments as an answer: words of their own, no two in one block. -/
def RetFd (R : List Sc × Bool) (w : World) (e : Ending) (w' : World) : Prop := ∃ v l, e = .returned (.tuple #[v, .bool R.2]) ∧ l.map Sg.ct = R.1 ∧ Ss w' w.heap.size v l ∧ Dj l ∧ Below w.heap.size w w'

set_option maxHeartbeats 1000000 in
theorem between_any (va : Option Addr) (N vc : Nat) (lo en : Int) (w : World) :
    Calls Try.prog 33 #[.slice va N vc, .int .i64 lo, .int .i64 en] w fun e w' => e = .returned (.func (.func 58) #[] #[.pointer (some ⟨w.heap.size, 0, none⟩), .pointer (some ⟨w.heap.size + 1, 0, none⟩), .pointer (some ⟨w.heap.size + 1 + 1, 0, none⟩)]) ∧
      w' = (((w.alloc (Obj.cells #[.slice va N vc] 26)).alloc (Obj.cells #[.int .i64 lo] 2)).alloc (Obj.cells #[.int .i64 en] 2)) := by
  go_enter Try.func33, Try.ntmps33
  go_wp2_with fail
  go_ret
  exact ⟨rfl, rfl⟩

set_option maxHeartbeats 2000000 in
set_option maxRecDepth 100000 in
theorem implPartF_any (da fa : Option Addr) (dc fc nf : Nat) (ds : List Dc) (xs : List Sg) (hi lo : Int) (w : World) (hd : RdD w da ds) (hr : RdS w fa xs) (hnf : xs.length = nf) (hno : ∀ x ∈ xs, x.a = none → x.c = 0) (hpl : ∀ x ∈ xs, ∀ q, x.a = some q → q.block < w.heap.size) (hi1 : in64 hi) (lo1 : in64 lo) :
    Calls Try.prog 11 #[.slice da ds.length dc, .slice fa nf fc, .int .i64 hi, .int .i64 lo] w (RetFd (fptR ds (xs.map Sg.ct) hi lo) w) := by
  have HFO := kide (implFlat_any fa da fc dc nf ds xs w hd hr hnf)
  have hwd := rds_words hr
  obtain ⟨R, hR⟩ : ∃ R, fptR ds (xs.map Sg.ct) hi lo = R := ⟨_, rfl⟩
  rw [hR]
  have HR := kide hR
  obtain ⟨nd, hnd⟩ : ∃ n, ds.length = n := ⟨_, rfl⟩
  rw [hnd] at HFO ⊢
  have hNIL : ∀ u, Below w.heap.size w u → RetFd ([], false) w (.returned (.tuple #[.slice none 0 0, .bool false])) u := fun u hu => ⟨_, [], rfl, rfl, ⟨OS5.nil _ _, by simp⟩, Dj.nil, hu⟩
  have NIL := kide hNIL
  clear hNIL
  cases hF : flatR ds (xs.map Sg.ct) with
  | false =>
    rw [hF] at HFO
    obtain rfl : R = ([], false) := by rw [← hR]; unfold fptR; rw [if_neg]; simp [hF]
    clear hR hF
    go_enter Try.func11, Try.ntmps11
    go_wp2_with fail
    refine Calls.mono HFO.out ?_
    rintro e w2 ⟨rfl, hb2⟩
    have B2 := kide hb2
    clear hb2
    go_wp2_with fail
    exact bodyPost_ret (v := .tuple #[.slice none 0 0, .bool false]) (by simp [results, Try.results11, go_sem]) rfl (NIL.out _ B2.out)
  | true =>
    rw [hF] at HFO
    have hF2 := hF
    rw [flatR_form] at hF2
    simp only [Bool.and_eq_true] at hF2
    obtain ⟨hall, hs1, hs2, hl2⟩ := formR_sum hF2.1 hF2.2
    simp only [List.length_map] at hl2
    have HFW := kide (fun u (hu : Below w.heap.size w u) => formWidth_any fa fc nf xs u (hr.later hu) hnf (by omega) (fun x hx => (hall x.ct (List.mem_map_of_mem hx)).2))
    obtain ⟨N, hN⟩ : ∃ N : Nat, sumS (xs.map Sg.ct) = (N : Int) := ⟨(sumS (xs.map Sg.ct)).toNat, by omega⟩
    rw [hN] at HFW
    have hN2 : N ≤ 4096 := by omega
    have HRV : Hid (R = if 0 ≤ lo ∧ lo ≤ hi ∧ hi < (N : Int) then (formB (((formP (xs.map Sg.ct)).drop lo.toNat).take (hi.toNat + 1 - lo.toNat)), true) else ([], false)) := by
      show _ = _
      rw [← hR]
      unfold fptR
      rw [hN, hF]
      simp
    have hok : ∀ s ∈ xs.map Sg.ct, okS s ∧ 0 ≤ s.lo ∧ s.lo + s.wd ≤ 4096 := fun s hs => ⟨sgOk_okS hF2.1 (hall s hs).1 (hwd s hs), sgOk_lo hF2.1 (hall s hs).1⟩
    have HOK := kide hok
    have HNF := kide (formB_nf (Nf.of hF hwd))
    have HRD := kide hr
    have HNO := kide hno
    have HPL := kide hpl
    have HLE := kide hl2
    have HSM := kide hs2
    have HS1 := kide hs1
    have HNX := kide hnf
    have hnf2 : nf ≤ 2000 := by omega
    clear hR hF hF2 hall hs1 hs2 hl2 hN hr hd HR hwd hok hno hpl
    unfold in64 at hi1 lo1
    by_cases hc : 0 ≤ lo ∧ lo ≤ hi ∧ hi < (N : Int)
    · rw [if_pos hc] at HRV
      obtain ⟨h1, h2, h3⟩ := hc
      obtain ⟨L, rfl⟩ : ∃ L : Nat, lo = (L : Int) := ⟨lo.toNat, by omega⟩
      obtain ⟨H, rfl⟩ : ∃ H : Nat, hi = (H : Int) := ⟨hi.toNat, by omega⟩
      simp only [Int.toNat_natCast] at HRV
      have q1 : ¬ (L : Int) < 0 := by omega
      have q2 : ¬ (L : Int) > (H : Int) := by omega
      have q3 : ¬ (H : Int) ≥ (N : Int) := by omega
      have hHw : IntKind.i64.wrap ((H : Int) + 1) = ((H + 1 : Nat) : Int) := by rw [IntKind.wrap_i64]; omega
      go_enter Try.func11, Try.ntmps11
      go_wp2_with fail
      refine Calls.mono HFO.out ?_
      rintro e w2 ⟨rfl, hb2⟩
      have B2 := kide hb2
      clear hb2
      go_wp2_with fail
      refine Calls.mono (HFW.out w2 B2.out) ?_
      rintro e w3 ⟨rfl, hb3⟩
      have B3 := kide (B2.out.trans (hb3.mono B2.out.size))
      clear hb3
      go_wp2_with fail
      refine Calls.mono (between_any _ _ _ _ _ _) ?_
      rintro e w4 ⟨rfl, hw4⟩
      obtain ⟨b, hb⟩ : ∃ b, w3.heap.size = b := ⟨_, rfl⟩
      have hba : Below w3.heap.size w3 w4 := by
        rw [hw4]
        exact (((Below.refl _ _).alloc (Nat.le_refl _) _).alloc (by simp) _).alloc (by simp; omega) _
      have x1 : Bz w4 b #[.slice fa nf fc] 26 := by
        rw [hw4, ← hb]
        exact ((Bz.new w3 #[.slice fa nf fc] 26).later ((Below.refl _ _).alloc (Nat.le_refl _) _)).later ((Below.refl _ _).alloc (Nat.le_refl _) _)
      have x2 : Bz w4 (b + 1) #[.int .i64 (L : Int)] 2 := by
        have h9 := (Bz.new (w3.alloc (Obj.cells #[.slice fa nf fc] 26)) #[.int .i64 (L : Int)] 2).later ((Below.refl _ _).alloc (Nat.le_refl _) (Obj.cells #[.int .i64 ((H + 1 : Nat) : Int)] 2))
        simp only [World.size_alloc, hb] at h9
        rw [hw4]
        exact h9
      have x3 : Bz w4 (b + 1 + 1) #[.int .i64 ((H + 1 : Nat) : Int)] 2 := by
        have h9 := Bz.new ((w3.alloc (Obj.cells #[.slice fa nf fc] 26)).alloc (Obj.cells #[.int .i64 (L : Int)] 2)) #[.int .i64 ((H + 1 : Nat) : Int)] 2
        simp only [World.size_alloc, hb] at h9
        rw [hw4]
        exact h9
      have B4 := kide (B3.out.trans (hba.mono B3.out.size))
      have hz4 : b + 3 ≤ w4.heap.size := by rw [hw4]; simp [hb]
      have hr4 := HRD.out.later B4.out
      obtain ⟨fb, fo, rfl⟩ : ∃ fb fo, fa = some ⟨fb, fo, none⟩ := by
        rcases hr4.2 with h0 | ⟨fb, fo, e, -⟩
        · have h9 := HS1.out
          rw [h0] at h9
          simp [sumS] at h9
        · exact ⟨fb, fo, e⟩
      have hcs : ∀ i x, xs[i]? = some x → SgAt w4 fb (fo + i * 5) x := fun i x hx => by
        rcases hr4.2 with h0 | ⟨b9, o9, e, hc⟩
        · rw [h0] at hx; simp at hx
        · cases e; exact hc i x hx
      have hfb : fb < w4.heap.size := by
        cases hxe : xs with
        | nil =>
          have h9 := HS1.out
          rw [hxe] at h9
          simp [sumS] at h9
        | cons x t =>
          have h9 := (hcs 0 x (by rw [hxe]; rfl)).1.1
          exact block_lt_of_cell h9
      have HSQ : Hid (∀ n, SeqS n 58 #[.pointer (some ⟨b, 0, none⟩), .pointer (some ⟨b + 1, 0, none⟩), .pointer (some ⟨b + 1 + 1, 0, none⟩)] (betS L (H + 1) 0 (xs.map Sg.ct)) w4.heap.size w4) := fun n =>
        between_seq n L (H + 1) w4.heap.size b (b + 1) (b + 1 + 1) fb fo fc nf xs w4 (Nat.le_refl _) HNX.out hnf2 (fun x hx => ⟨(HOK.out x.ct (List.mem_map_of_mem hx)).1, (HOK.out x.ct (List.mem_map_of_mem hx)).2, (by obtain ⟨i, hi9, e9⟩ := List.getElem_of_mem hx; exact (hcs i x (by rw [List.getElem?_eq_getElem hi9, e9])).2.1), HNO.out x hx, fun q hq => Nat.lt_of_lt_of_le (HPL.out x hx q hq) B4.out.size⟩) HSM.out (by omega) (by omega) x1 x2 x3 (by omega) (by omega) (by omega) hfb (fun i x hx => (hcs i x hx).1)
      have HEN : Hid (∀ (args : Array Value) (w : World), (callFunc 58 args).run Try.prog w = .ok (.enter 58 args) w) := enters_of Try.func58 (by kernel_rfl) rfl
      have HGA := kide (gather_any 58 _ _ w4 HEN.out HSQ.out (betS_ok HOK.out) (by have := betS_sum (lo := L) (en := H + 1) (f := 0) HOK.out; have := HSM.out; omega))
      have HBP : Hid (formB (formP (betS L (H + 1) 0 (xs.map Sg.ct))) = R.1 ∧ R.2 = true ∧ R.1.length ≤ 2000) := by
        have e1 := betS_P L (H + 1) (xs.map Sg.ct) 0 (fun s hs => (HOK.out s hs).1)
        rw [Nat.sub_zero, Nat.sub_zero, List.drop_take] at e1
        have h9 := formB_part (formP (xs.map Sg.ct)) L (H + 1 - L)
        rw [HNF.out, List.length_map] at h9
        rw [e1, HRV.out]
        exact ⟨rfl, rfl, Nat.le_trans h9 HLE.out⟩
      clear hw4 hba x1 x2 x3 hr4 hcs hfb
      rw [hb]
      go_wp2_with fail
      refine Calls.mono HGA.out ?_
      rintro e w5 ⟨hb5, (⟨v, l, rfl, hl5, hn5, ho5, hr5, hx5, hra5⟩ | ⟨rfl, h9⟩)⟩
      · obtain ⟨va, vc, rfl⟩ := ho5.form
        have HFR := kide (fresh_any va l.length vc w4.heap.size true l w5 ho5 rfl hn5 hb5.size hr5 hx5 hra5)
        have B5 := kide (B4.out.trans (hb5.mono B4.out.size))
        have HL5 := kide hl5
        have HZ5 : Hid (w4.heap.size ≤ w5.heap.size) := hb5.size
        clear ho5 hr5 hx5 hra5 hb5 hl5
        go_wp2_with fail
        refine Calls.mono HFR.out ?_
        rintro e w6 ⟨rfl, m, hm⟩
        have hrow := hm.row
        rw [List.drop_of_length_le (Nat.le_refl _), List.append_nil] at hrow
        have b6 : Below w.heap.size w w6 := B5.out.trans ⟨hm.gr.os, hm.gr.tape, hm.gr.output, hm.gr.size, fun j hj => hm.gr.block j (Nat.lt_of_lt_of_le hj B5.out.size) (fun e => by
          have h8 := (hrow.lt e.symm).1
          have := B4.out.size
          omega)⟩
        have FIN : Hid (RetFd R w (.returned (.tuple #[.slice va l.length vc, .bool true])) w6) := by
          refine ⟨_, m, by rw [HBP.out.2.1], ?_, ⟨hrow.low B4.out.size, fun x hx => (hm.nw x hx).mono (Nat.le_trans B4.out.size HZ5.out)⟩, hm.dj, b6⟩
          rw [hm.ct, List.take_length, HL5.out, HBP.out.1]
        clear hm hrow b6
        go_wp2_with fail
        exact bodyPost_ret (v := .tuple #[.slice va l.length vc, .bool true]) (by simp [results, Try.results11, go_sem]) rfl FIN.out
      · have h8 := HBP.out.2.2
        rw [← HBP.out.1] at h8
        omega
    · rw [if_neg hc] at HRV
      obtain rfl := HRV.out
      go_enter Try.func11, Try.ntmps11
      go_wp2_with fail
      refine Calls.mono HFO.out ?_
      rintro e w2 ⟨rfl, hb2⟩
      have B2 := kide hb2
      clear hb2
      by_cases q1 : lo < 0
      · go_wp2_with fail
        exact bodyPost_ret (v := .tuple #[.slice none 0 0, .bool false]) (by simp [results, Try.results11, go_sem]) rfl (NIL.out _ B2.out)
      by_cases q2 : lo > hi
      · go_wp2_with fail
        exact bodyPost_ret (v := .tuple #[.slice none 0 0, .bool false]) (by simp [results, Try.results11, go_sem]) rfl (NIL.out _ B2.out)
      have q3 : hi ≥ (N : Int) := by omega
      go_wp2_with fail
      refine Calls.mono (HFW.out w2 B2.out) ?_
      rintro e w3 ⟨rfl, hb3⟩
      have B3 := kide (B2.out.trans (hb3.mono B2.out.size))
      clear hb3
      go_wp2_with fail
      exact bodyPost_ret (v := .tuple #[.slice none 0 0, .bool false]) (by simp [results, Try.results11, go_sem]) rfl (NIL.out _ B3.out)
end Go.Proofs.Ytfanddpncipkkaa
