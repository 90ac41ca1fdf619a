/- Joining two nodes of a forest: the program. -/
import Derived.Test.YtakicdlfolhhcaaGQ
import Derived.Test.YtakicdlfolhhcaaGN
namespace Go.Proofs.Ytakicdlfolhhcaa
set_option linter.unusedVariables false
set_option linter.unusedSimpArgs false
open Go.RowKit

def joinR (z : Int) (ls : List Lk) (x y q : Int) : Int × List Lk × Bool × Bool := match forR z ls with
  | none => (0, [], false, false)
  | some L => if (0 ≤ x ∧ x < z) ∧ (0 ≤ y ∧ y < z) ∧ (0 ≤ q ∧ q ≤ 1000000) then (if L x.toNat = L y.toNat then (z, ls, false, true) else (z, ls ++ [(x, y, q)], true, true)) else (0, [], false, false)

/-- A forest of its own, and two flags. -/
def RetJ (w : World) (R : Int × List Lk × Bool × Bool) (e : Ending) (w' : World) : Prop :=
  ∃ v, e = .returned (.tuple #[.agg #[.int .i64 R.1, v], .bool R.2.2.1, .bool R.2.2.2]) ∧ OK3 w' w.heap.size v R.2.1 ∧ Below w.heap.size w w'

theorem RetJ.no {w w' : World} (h : Below w.heap.size w w') : RetJ w (0, [], false, false) (.returned (.tuple #[.agg #[.int .i64 0, .slice none 0 0], .bool false, .bool false])) w' := ⟨_, rfl, ⟨rfl, .inl ⟨rfl, rfl⟩⟩, h⟩

theorem goF_ok {n : Nat} : ∀ {L L' : Nat → Nat} {ls : List Lk}, goF n L ls = some L' → ∀ l ∈ ls, (0 ≤ l.1 ∧ l.1 < (n : Int)) ∧ (0 ≤ l.2.1 ∧ l.2.1 < (n : Int)) ∧ (0 ≤ l.2.2 ∧ l.2.2 ≤ 1000000)
  | L, L', [], _, l, hl => by simp at hl
  | L, L', k :: t, h, l, hl => by
    rw [goF] at h
    split at h
    · rename_i hk
      obtain ⟨h1, h2, h3, -⟩ := lkOk_iff.1 hk
      rcases List.mem_cons.1 hl with rfl | hl
      · exact ⟨h1, h2, h3⟩
      · exact goF_ok h l hl
    · cases h

theorem forR_ok {z : Int} {L : Nat → Nat} {ls : List Lk} (h : forR z ls = some L) : ∀ l ∈ ls, (0 ≤ l.1 ∧ l.1 < z) ∧ (0 ≤ l.2.1 ∧ l.2.1 < z) ∧ (0 ≤ l.2.2 ∧ l.2.2 ≤ 1000000) := by
  unfold forR at h
  split at h
  · intro l hl
    have := goF_ok h l hl
    omega
  · cases h

theorem ok3_base {w : World} {B B' : Nat} {v : Value} {xs : List Lk} (h : OK3 w B v xs) (hb : B' ≤ B) : OK3 w B' v xs := by
  refine ⟨h.1, ?_⟩
  rcases h.2 with h' | ⟨g, cap, cur, rfl, hB, r⟩
  · exact .inl h'
  · exact .inr ⟨g, cap, cur, rfl, Nat.le_trans hb hB, r⟩

theorem ok3_form {w : World} {B : Nat} {v : Value} {xs : List Lk} (h : OK3 w B v xs) : ∃ a c, v = .slice a xs.length c := by
  rcases h.2 with ⟨rfl, h0⟩ | ⟨g, cap, cur, rfl, hB, r⟩
  · exact ⟨none, 0, by rw [h0]⟩
  · exact ⟨_, _, rfl⟩

set_option maxHeartbeats 1000000 in
set_option maxRecDepth 100000 in
theorem implJoin_any (z : Int) (a : Option Addr) (n c : Nat) (ls : List Lk) (x y q : Int) (w : World) (hr : RdK w a ls) (hn : ls.length = n) :
    Calls Try.prog 19 #[.agg #[.int .i64 z, .slice a n c], .int .i64 x, .int .i64 y, .int .i64 q] w (RetJ w (joinR z ls x y q)) := by
  obtain ⟨R, hR⟩ : ∃ R, joinR z ls x y q = R := ⟨_, rfl⟩
  rw [hR]
  have HR := kide hR
  have hl2 : ls.length ≤ 1048576 := hr.1
  have h2 : Below w.heap.size w ((w.alloc (Obj.cells #[.int .i64 z, .slice a n c] 29)).alloc (Obj.cells #[.int .i64 0, .slice none 0 0] 29)) := ((Below.refl _ _).alloc (Nat.le_refl _) _).alloc (by simp) _
  have XR : Hid (Bx ((w.alloc (Obj.cells #[.int .i64 z, .slice a n c] 29)).alloc (Obj.cells #[.int .i64 0, .slice none 0 0] 29)) (w.heap.size + 1) #[.int .i64 0, .slice none 0 0] 29) := by
    have := Bx.new (w.alloc (Obj.cells #[.int .i64 z, .slice a n c] 29)) #[.int .i64 0, .slice none 0 0] 29
    rwa [World.size_alloc] at this
  have HC := kide (groveOf_any z a n c ls _ (hr.later h2) hn)
  have hz0 : Hid (((w.alloc (Obj.cells #[.int .i64 z, .slice a n c] 29)).alloc (Obj.cells #[.int .i64 0, .slice none 0 0] 29)).heap.size = w.heap.size + 2) := by show _ = _; simp
  have H2 := kide h2
  clear hr hn hR h2
  go_enter Try.func19, Try.ntmps19
  go_wp2_with fail
  generalize (w.alloc (Obj.cells #[.int .i64 z, .slice a n c] 29)).alloc (Obj.cells #[.int .i64 0, .slice none 0 0] 29) = w0 at *
  refine Calls.mono HC.out ?_
  rintro e w1 ⟨hb, ⟨hf, rfl⟩ | ⟨L, G, s, rt, dp, M, hf, rfl, hg, hnl, huf, hps, hls, hM, -⟩⟩
  · have B1 := kide (H2.out.trans (hb.mono H2.out.size))
    have X1 := kide (XR.out.later hb)
    have hres : R = (0, [], false, false) := by rw [← HR.out, joinR, hf]
    subst hres
    have r0 := X1.out.cell 0
    have r1 := X1.out.cell 1
    have f0 := X1.out.froz 0
    have f1 := X1.out.froz 1
    simp at r0 r1
    clear hb hf HR
    go_wp2_with fail
    exact bodyPost_ret (v := .tuple #[.agg #[.int .i64 0, .slice none 0 0], .bool false, .bool false]) (by simp [results, Try.results19, go_sem, r0, r1]) rfl (RetJ.no ((B1.out.setCell (by simp) _).setCell (by simp) _))
  · have B1 := kide (H2.out.trans (hb.mono H2.out.size))
    have X1 := kide (XR.out.later hb)
    have HF := kide hf
    have HG := kide hg
    have HNL := kide hnl
    have HUF := kide huf
    have hz1 := (forR_len hf).1
    have hl : s.ps.length ≤ 1000 := by omega
    have HPS := kide hps
    have HLS := kide hls
    have HHX := kide (has_any hg hnl.k hl x)
    have HHY := kide (has_any hg hnl.k hl y)
    have HHQ := kide (whyOk_any q w1)
    rw [hps] at HHX HHY
    unfold pt at HHX HHY
    unfold pt
    have r0 := X1.out.cell 0
    have r1 := X1.out.cell 1
    have f0 := X1.out.froz 0
    have f1 := X1.out.froz 1
    simp at r0 r1
    clear hb hf hg hnl huf hps hls
    by_cases hxyq : (0 ≤ x ∧ x < z) ∧ (0 ≤ y ∧ y < z) ∧ (0 ≤ q ∧ q ≤ 1000000)
    · obtain ⟨hx, hy, hq⟩ := hxyq
      rw [decide_eq_true hx] at HHX
      rw [decide_eq_true hy] at HHY
      rw [decide_eq_true hq] at HHQ
      obtain ⟨na, rfl⟩ : ∃ m : Nat, x = (m : Int) := ⟨x.toNat, by omega⟩
      obtain ⟨nb, rfl⟩ : ∃ m : Nat, y = (m : Int) := ⟨y.toNat, by omega⟩
      have hna : na < s.ps.length := by have := HPS.out; omega
      have hnb : nb < s.ps.length := by have := HPS.out; omega
      obtain ⟨pA, hpA⟩ : ∃ p, s.ps[na]? = some p := ⟨_, List.getElem?_eq_getElem hna⟩
      obtain ⟨pB, hpB⟩ : ∃ p, s.ps[nb]? = some p := ⟨_, List.getElem?_eq_getElem hnb⟩
      obtain ⟨kb, N, kcap, hN, hks⟩ : ∃ kb N kcap, N = s.ps.length ∧ s.kc = .slice (some ⟨kb, 0, none⟩) N kcap := by
        rw [HNL.out.k]
        rcases HG.out.kr.2 with ⟨-, h0⟩ | ⟨g, cap, cur, h0, -⟩
        · omega
        · exact ⟨g, _, cap, rfl, h0⟩
      have e3 := (HG.out.k0).trans (congrArg some hks)
      have e4 := HG.out.kcell HNL.out.k hks hpA
      have e5 := HG.out.kcell HNL.out.k hks hpB
      unfold pt at e4 e5
      have i0 : (na : Int) < (N : Int) := by omega
      have i1 : (nb : Int) < (N : Int) := by omega
      have hres : R = if L na = L nb then (z, ls, false, true) else (z, ls ++ [((na : Int), (nb : Int), q)], true, true) := by
        rw [← HR.out, joinR, HF.out]
        simp only []
        rw [if_pos ⟨hx, hy, hq⟩]
        simp
      have HRS := kide hres
      have hBw : w0.heap.size + 1 ≤ w1.heap.size := Nat.le_trans HG.out.lo (Nat.le_of_lt (lt_of_block HG.out.gb))
      have hll := (forR_len HF.out).2
      have HKS := kide hks
      have HPA := kide hpA
      have HPB := kide hpB
      have hGd : Gv w1.drew (w0.heap.size + 1) G M s := HG.out.later (Below.refl _ _).drew
      have HJ := kide (join_any hGd HNL.out (by simpa using hBw) HUF.out na nb pA pB hpA hpB q hM (by rw [HNL.out.n, HLS.out]; exact hl2) _ _ _ (X1.out.later (Below.refl _ _).drew) (by decide) (by decide) (by decide))
      unfold pt at HJ
      have hxr : w.heap.size + 1 < w0.heap.size := by have := hz0.out; omega
      have hz0' := hz0.out
      have HHF := kide (forR_ok HF.out)
      clear HR hres hpA hpB hks hna hnb hGd hN
      by_cases hsm : rt na = rt nb
      · have HSM := kide hsm
        have hLL : L na = L nb := (HUF.out.eqv na (by have := HPS.out; omega) nb (by have := HPS.out; omega)).1 hsm
        have hRR : R = (z, ls, false, true) := by rw [HRS.out, if_pos hLL]
        subst hRR
        have hz0H := kide hz0'
        have hxrH := kide hxr
        clear hsm hLL HRS hz0' hxr
        go_wp2_with (first | (go_at_call 49; refine Calls.mono HHQ.out ?_; rintro e w4 ⟨rfl, hw4⟩; obtain rfl := hw4.symm) | (go_at_call 46; with_reducible (first | refine Calls.mono HHX.out ?_ | refine Calls.mono HHY.out ?_); rintro e w2 ⟨rfl, hw2⟩; obtain rfl := hw2.symm))
        go_region_held3 (fun u => u.cell? ⟨G, 0, none⟩ = some (Value.slice (some { block := kb, off := 0 }) N kcap) ∧ u.cell? ⟨kb, na, none⟩ = some (Value.pointer (some { block := pA, off := 0 })) ∧ u.cell? ⟨kb, nb, none⟩ = some (Value.pointer (some { block := pB, off := 0 }))) (simp [*])
          ((go_at_call 50; refine Calls.mono HJ.out ?_; rintro e w3 (⟨-, rfl, hg3, hb3, hx3⟩ | ⟨hj, -⟩); rotate_left; exact absurd HSM.out hj; have k0 := (hg3.k0).trans (congrArg some HKS.out); have k1 := hg3.kcell HNL.out.k HKS.out HPA.out; have k2 := hg3.kcell HNL.out.k HKS.out HPB.out; unfold pt at k1 k2))
        have HFO := kide (forest_any G w3 (w0.heap.size + 1) M s hg3 HNL.out (by rw [HLS.out]; exact hl2) hl (fun l hl => by have := HHF.out l (by rw [← HLS.out]; exact hl); have := HPS.out; omega))
        have X3 := kide hx3
        have B3 : Hid (Below w.heap.size w w3) := B1.out.trans ((kundrew hb3).mono (by have := H2.out.size; have := hz0H.out; omega))
        have hsz3 : Hid (w.heap.size ≤ w3.heap.size) := B3.out.size
        clear hb3 hx3 k0 k1 k2 e3 e4 e5 r0 r1 f0 f1
        go_wp2_with fail
        refine Calls.mono HFO.out ?_
        rintro e w5 ⟨v5, rfl, o5, hb5⟩
        have O5 := kide (show OK3 w5 (w3.heap.size + 2) v5 ls by rw [← HLS.out]; exact o5)
        have X5 := kide (X3.out.later hb5)
        have B5 := kide (B3.out.trans (hb5.mono B3.out.size))
        obtain ⟨a5, c5, rfl⟩ := ok3_form O5.out
        have hpl : Hid ((s.ps.length : Int) = z) := by show _ = _; exact HPS.out
        rw [hpl.out]
        have r0 := X5.out.cell 0
        have r1 := X5.out.cell 1
        have f0 := X5.out.froz 0
        have f1 := X5.out.froz 1
        simp at r0 r1
        clear o5 hb5
        have OE : Hid (OK3 ((w5.setCell ⟨w.heap.size + 1, 0, none⟩ (.int .i64 z)).setCell ⟨w.heap.size + 1, 1, none⟩ (.slice a5 (ls).length c5)) w.heap.size (.slice a5 (ls).length c5) (ls)) :=
          ok3_base (own3_set (own3_set O5.out X5.out (by decide) _) (X5.out.set 0 (.int .i64 z)) (by decide) _) (by have := hsz3.out; omega)
        have BE : Hid (Below w.heap.size w ((w5.setCell ⟨w.heap.size + 1, 0, none⟩ (.int .i64 z)).setCell ⟨w.heap.size + 1, 1, none⟩ (.slice a5 (ls).length c5))) := (B5.out.setCell (by simp) _).setCell (by simp) _
        have XE : Hid (Bx ((w5.setCell ⟨w.heap.size + 1, 0, none⟩ (.int .i64 z)).setCell ⟨w.heap.size + 1, 1, none⟩ (.slice a5 (ls).length c5)) (w.heap.size + 1) #[.int .i64 z, .slice a5 (ls).length c5] 29) := (X5.out.set 0 _).set 1 _
        generalize hLE : (ls) = LE at *
        clear hLE
        go_wp2_with fail
        generalize (w5.setCell ⟨w.heap.size + 1, 0, none⟩ (.int .i64 z)).setCell ⟨w.heap.size + 1, 1, none⟩ (.slice a5 LE.length c5) = wE at *
        have z0 := XE.out.cell 0
        have z1 := XE.out.cell 1
        simp at z0 z1
        exact bodyPost_ret (v := .tuple #[.agg #[.int .i64 z, .slice a5 LE.length c5], .bool false, .bool true]) (by simp [results, Try.results19, go_sem, z0, z1]) rfl ⟨_, rfl, OE.out, BE.out⟩
      · have HSM := kide hsm
        have hLL : ¬ L na = L nb := fun e => hsm ((HUF.out.eqv na (by have := HPS.out; omega) nb (by have := HPS.out; omega)).2 e)
        have hRR : R = (z, ls ++ [((na : Int), (nb : Int), q)], true, true) := by rw [HRS.out, if_neg hLL]
        subst hRR
        have hz0H := kide hz0'
        have hxrH := kide hxr
        clear hsm hLL HRS hz0' hxr
        go_wp2_with (first | (go_at_call 49; refine Calls.mono HHQ.out ?_; rintro e w4 ⟨rfl, hw4⟩; obtain rfl := hw4.symm) | (go_at_call 46; with_reducible (first | refine Calls.mono HHX.out ?_ | refine Calls.mono HHY.out ?_); rintro e w2 ⟨rfl, hw2⟩; obtain rfl := hw2.symm))
        go_region_held3 (fun u => u.cell? ⟨G, 0, none⟩ = some (Value.slice (some { block := kb, off := 0 }) N kcap) ∧ u.cell? ⟨kb, na, none⟩ = some (Value.pointer (some { block := pA, off := 0 })) ∧ u.cell? ⟨kb, nb, none⟩ = some (Value.pointer (some { block := pB, off := 0 }))) (simp [*])
          ((go_at_call 50; refine Calls.mono HJ.out ?_; rintro e w3 (⟨hj, -⟩ | ⟨-, rfl, s3, rt3, dp3, hg3, hn3, hu3, hp3, hl3, hb3, hx3, hk3, -⟩); exact absurd hj HSM.out; have k0 := (hg3.k0).trans (congrArg some (hk3.trans HKS.out)); have k1 := hg3.kcell hn3.k (hk3.trans HKS.out) (show s3.ps[na]? = some pA by rw [hp3]; exact HPA.out); have k2 := hg3.kcell hn3.k (hk3.trans HKS.out) (show s3.ps[nb]? = some pB by rw [hp3]; exact HPB.out); unfold pt at k1 k2))
        have HMEM : ∀ l ∈ s3.ls, (0 ≤ l.1 ∧ l.1 < (s3.ps.length : Int)) ∧ 0 ≤ l.2.1 ∧ l.2.1 < (s3.ps.length : Int) := by
          intro l hl
          rw [hl3, HLS.out] at hl
          have := HPS.out
          rw [hp3]
          rcases List.mem_append.1 hl with hl | hl
          · have := HHF.out l hl
            omega
          · simp at hl
            subst hl
            simp only []
            omega
        have HFO := kide (forest_any G w3 (w0.heap.size + 1) (M + 1) s3 hg3 hn3 (by rw [hl3, HLS.out]; simp; omega) (by rw [hp3]; exact hl) HMEM)
        have X3 := kide hx3
        have B3 : Hid (Below w.heap.size w w3) := B1.out.trans ((kundrew hb3).mono (by have := H2.out.size; have := hz0H.out; omega))
        have hsz3 : Hid (w.heap.size ≤ w3.heap.size) := B3.out.size
        clear hb3 hx3 k0 k1 k2 e3 e4 e5 r0 r1 f0 f1
        go_wp2_with fail
        refine Calls.mono HFO.out ?_
        rintro e w5 ⟨v5, rfl, o5, hb5⟩
        have O5 := kide (show OK3 w5 (w3.heap.size + 2) v5 (ls ++ [((na : Int), (nb : Int), q)]) by rw [← HLS.out, ← hl3]; exact o5)
        have X5 := kide (X3.out.later hb5)
        have B5 := kide (B3.out.trans (hb5.mono B3.out.size))
        obtain ⟨a5, c5, rfl⟩ := ok3_form O5.out
        have hpl : Hid ((s3.ps.length : Int) = z) := by show _ = _; rw [hp3]; exact HPS.out
        rw [hpl.out]
        have r0 := X5.out.cell 0
        have r1 := X5.out.cell 1
        have f0 := X5.out.froz 0
        have f1 := X5.out.froz 1
        simp at r0 r1
        clear o5 hb5
        have OE : Hid (OK3 ((w5.setCell ⟨w.heap.size + 1, 0, none⟩ (.int .i64 z)).setCell ⟨w.heap.size + 1, 1, none⟩ (.slice a5 (ls ++ [((na : Int), (nb : Int), q)]).length c5)) w.heap.size (.slice a5 (ls ++ [((na : Int), (nb : Int), q)]).length c5) (ls ++ [((na : Int), (nb : Int), q)])) :=
          ok3_base (own3_set (own3_set O5.out X5.out (by decide) _) (X5.out.set 0 (.int .i64 z)) (by decide) _) (by have := hsz3.out; omega)
        have BE : Hid (Below w.heap.size w ((w5.setCell ⟨w.heap.size + 1, 0, none⟩ (.int .i64 z)).setCell ⟨w.heap.size + 1, 1, none⟩ (.slice a5 (ls ++ [((na : Int), (nb : Int), q)]).length c5))) := (B5.out.setCell (by simp) _).setCell (by simp) _
        have XE : Hid (Bx ((w5.setCell ⟨w.heap.size + 1, 0, none⟩ (.int .i64 z)).setCell ⟨w.heap.size + 1, 1, none⟩ (.slice a5 (ls ++ [((na : Int), (nb : Int), q)]).length c5)) (w.heap.size + 1) #[.int .i64 z, .slice a5 (ls ++ [((na : Int), (nb : Int), q)]).length c5] 29) := (X5.out.set 0 _).set 1 _
        generalize hLE : (ls ++ [((na : Int), (nb : Int), q)]) = LE at *
        clear hLE
        go_wp2_with fail
        generalize (w5.setCell ⟨w.heap.size + 1, 0, none⟩ (.int .i64 z)).setCell ⟨w.heap.size + 1, 1, none⟩ (.slice a5 LE.length c5) = wE at *
        have z0 := XE.out.cell 0
        have z1 := XE.out.cell 1
        simp at z0 z1
        exact bodyPost_ret (v := .tuple #[.agg #[.int .i64 z, .slice a5 LE.length c5], .bool true, .bool true]) (by simp [results, Try.results19, go_sem, z0, z1]) rfl ⟨_, rfl, OE.out, BE.out⟩
    · have hres : R = (0, [], false, false) := by
        rw [← HR.out, joinR, HF.out]
        simp only []
        rw [if_neg hxyq]
      subst hres
      clear HR
      by_cases hx : 0 ≤ x ∧ x < z
      · rw [decide_eq_true hx] at HHX
        by_cases hy : 0 ≤ y ∧ y < z
        · rw [decide_eq_true hy] at HHY
          rw [decide_eq_false (fun hq => hxyq ⟨hx, hy, hq⟩)] at HHQ
          clear hx hy hxyq
          go_wp2_with (first | (go_at_call 49; refine Calls.mono HHQ.out ?_; rintro e w4 ⟨rfl, hw4⟩; obtain rfl := hw4.symm) | (go_at_call 46; with_reducible (first | refine Calls.mono HHX.out ?_ | refine Calls.mono HHY.out ?_); rintro e w2 ⟨rfl, hw2⟩; obtain rfl := hw2.symm))
          exact bodyPost_ret (v := .tuple #[.agg #[.int .i64 0, .slice none 0 0], .bool false, .bool false]) (by simp [results, Try.results19, go_sem, r0, r1]) rfl (RetJ.no ((B1.out.setCell (by simp) _).setCell (by simp) _))
        · rw [decide_eq_false hy] at HHY
          clear hx hy hxyq HHQ
          go_wp2_with (go_at_call 46; with_reducible (first | refine Calls.mono HHX.out ?_ | refine Calls.mono HHY.out ?_); rintro e w2 ⟨rfl, hw2⟩; obtain rfl := hw2.symm)
          exact bodyPost_ret (v := .tuple #[.agg #[.int .i64 0, .slice none 0 0], .bool false, .bool false]) (by simp [results, Try.results19, go_sem, r0, r1]) rfl (RetJ.no ((B1.out.setCell (by simp) _).setCell (by simp) _))
      · rw [decide_eq_false hx] at HHX
        clear hx hxyq HHQ HHY
        go_wp2_with (go_at_call 46; refine Calls.mono HHX.out ?_; rintro e w2 ⟨rfl, hw2⟩; obtain rfl := hw2.symm)
        exact bodyPost_ret (v := .tuple #[.agg #[.int .i64 0, .slice none 0 0], .bool false, .bool false]) (by simp [results, Try.results19, go_sem, r0, r1]) rfl (RetJ.no ((B1.out.setCell (by simp) _).setCell (by simp) _))

end Go.Proofs.Ytakicdlfolhhcaa
