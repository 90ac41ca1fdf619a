/- Several texts in one. -/
import Derived.Test.YtllojnloldhghaaGreatDoorZEZ
import Derived.Test.YtllojnloldhghaaGreatDoorIG
import Derived.Test.YtllojnloldhghaaGreatDoorKJ
import Derived.Handy

/- Does a literal hold? The two Holds. -/
namespace Go.Proofs.YtllojnloldhghaaGreatDoor
set_option linter.unusedVariables false
set_option linter.unusedSimpArgs false
open Go.RowKit

set_option maxHeartbeats 2000000 in
set_option maxRecDepth 100000 in
theorem specHolds_any (a va : Option Addr) (c vc vn : Nat) (ds : List Dc) (vs : List Bw) (x : Lg) (w : World) (hr : RdD w a ds) (hv : RdW w va vs) (hvn : vs.length = vn) (hs : RdT w x.sa x.ss) (ht : RdT w x.ta x.ts) (hid : in64 x.id) :
    Calls Tryz.prog 39 #[.slice a ds.length c, .slice va vn vc, x.val] w fun e w' => e = .returned (.tuple #[.bool (holR ds (vs.map Bw.ct) x.ct).1, .bool (holR ds (vs.map Bw.ct) x.ct).2]) ∧ Below w.heap.size w w' := by
  have s0 := St.start w (.cells #[.int .i64 x.id, .bool x.eq, .slice x.sa x.ss.length x.sc, .slice x.ta x.ts.length x.tc] 78)
  have HVO := kide (specValues_any a va c vc ds vs _ (hr.later s0.below) (hv.later s0.below) vn hvn)
  have HLO := kide (fun u g (hu : Below w.heap.size w u) (hl : RdL u (some ⟨g, 0, none⟩) [x]) => specLits_any a (some ⟨g, 0, none⟩) c 1 1 ds [x] u (hr.later hu) hl rfl)
  have HRL : Hid (∀ u g, Below w.heap.size w u → u.cell? ⟨g, 0, none⟩ = some (.int .i64 x.id) → u.cell? ⟨g, 1, none⟩ = some (.bool x.eq) → u.cell? ⟨g, 2, none⟩ = some (.slice x.sa x.ss.length x.sc) → u.cell? ⟨g, 3, none⟩ = some (.slice x.ta x.ts.length x.tc) → RdL u (some ⟨g, 0, none⟩) [x]) := fun u g hu h0 h1 h2 h3 =>
    ⟨by simp, .inr ⟨g, 0, rfl, fun i y hy => by
      match i, hy with
      | 0, hy =>
        simp at hy
        subst hy
        exact ⟨⟨h0, h1, h2, h3⟩, hs.later hu, ht.later hu, hid⟩
      | i + 1, hy => simp at hy⟩⟩
  have HES := kide (fun u (hu : Below w.heap.size w u) (h1 : valR ds (vs.map Bw.ct) = true) (h2 : sideR ds x.ct = true) => l4Eval_any va x.sa vc x.sc x.ss.length ds vs x.ss u (hv.later hu) (hs.later hu) rfl (side_widths h2).1 h1)
  have HET := kide (fun u (hu : Below w.heap.size w u) (h1 : valR ds (vs.map Bw.ct) = true) (h2 : sideR ds x.ct = true) => l4Eval_any va x.ta vc x.tc x.ts.length ds vs x.ts u (hv.later hu) (ht.later hu) rfl (side_widths h2).2 h1)
  rw [hvn] at HES HET
  have HOK := kide (fun (h1 : valR ds (vs.map Bw.ct) = true) (h2 : sideR ds x.ct = true) => And.intro (eval_ok (side_widths h2).1 h1 hv.words hs.words) (eval_ok (side_widths h2).2 h1 hv.words ht.words))
  cases hV : valR ds (vs.map Bw.ct) with
  | false =>
    have hR : holR ds (vs.map Bw.ct) x.ct = (false, false) := by simp [holR, hV]
    rw [hR]
    rw [hV] at HVO
    obtain ⟨id, q, ss, sa, sc, ts, ta, tc⟩ := x
    simp only [Lg.val] at *
    generalize ss.length = sn at *
    generalize ts.length = tn at *
    clear hr hv hs ht HLO HRL hV hR HES HET HOK
    go_enter Tryz.func39, Tryz.ntmps39
    go_wp2_with fail
    refine Calls.mono HVO.out ?_
    rintro e w1 ⟨rfl, hb1⟩
    have s1 := s0.next hb1
    go_wp2_with fail
    go_returns
    exact ⟨rfl, s1.below⟩
  | true =>
    rw [hV] at HVO
    cases hL : litR ds [x.ct] with
    | false =>
      have hR : holR ds (vs.map Bw.ct) x.ct = (false, false) := by simp [holR, hL]
      rw [hR]
      have hLL : litR ds ([x].map Lg.ct) = false := hL
      rw [hLL] at HLO
      obtain ⟨id, q, ss, sa, sc, ts, ta, tc⟩ := x
      simp only [Lg.val] at *
      generalize ss.length = sn at *
      generalize ts.length = tn at *
      clear hr hv hs ht hV hR hL hLL HES HET HOK
      go_enter Tryz.func39, Tryz.ntmps39
      go_wp2_with fail
      refine Calls.mono HVO.out ?_
      rintro e w1 ⟨rfl, hb1⟩
      have s1 := s0.next hb1
      have c0 : w1.cell? ⟨w.heap.size, 0, none⟩ = some (.int .i64 id) := s1.cell 0
      have c1 : w1.cell? ⟨w.heap.size, 1, none⟩ = some (.bool q) := s1.cell 1
      have c2 : w1.cell? ⟨w.heap.size, 2, none⟩ = some (.slice sa sn sc) := s1.cell 2
      have c3 : w1.cell? ⟨w.heap.size, 3, none⟩ = some (.slice ta tn tc) := s1.cell 3
      have hbx : Below w1.heap.size w1 (w1.alloc (Obj.cells #[Value.int .i64 id, Value.bool q, Value.slice sa sn sc, Value.slice ta tn tc] 78)) := (Below.refl _ _).alloc (Nat.le_refl _) _
      have s2 := s1.next hbx
      have HC := kide (HLO.out _ w1.heap.size s2.below (HRL.out _ w1.heap.size s2.below (by simp) (by simp) (by simp) (by simp)))
      clear hb1 hbx HLO HRL
      go_wp2_with fail
      refine Calls.mono HC.out ?_
      rintro e w3 ⟨rfl, hb3⟩
      have s3 := s2.next hb3
      clear hb3 HC
      go_wp2_with fail
      go_returns
      exact ⟨rfl, s3.below⟩
    | true =>
      have hR : holR ds (vs.map Bw.ct) x.ct = (hldR (vs.map Bw.ct) x.ct, true) := by simp [holR, hV, hL]
      rw [hR]
      have hLL : litR ds ([x].map Lg.ct) = true := hL
      rw [hLL] at HLO
      have hsd := (lit_each hL x.ct (by simp)).1
      have HESK := kide (fun u hu => HES.out u hu hV hsd)
      have HETK := kide (fun u hu => HET.out u hu hV hsd)
      obtain ⟨hoS, hoT⟩ : okW (evalR (vs.map Bw.ct) (x.ss.map Tg.ct)) ∧ okW (evalR (vs.map Bw.ct) (x.ts.map Tg.ct)) := HOK.out hV hsd
      have hlS := right_W hoS.1
      have hlT := right_W hoT.1
      have HQ : Hid (hldR (vs.map Bw.ct) x.ct = ((decide ((evalR (vs.map Bw.ct) (x.ss.map Tg.ct)).1 = (evalR (vs.map Bw.ct) (x.ts.map Tg.ct)).1) && decide ((evalR (vs.map Bw.ct) (x.ss.map Tg.ct)).2 = (evalR (vs.map Bw.ct) (x.ts.map Tg.ct)).2)) == x.eq)) := by
        show _ = _
        unfold hldR
        rw [show x.ct.ss = x.ss.map Tg.ct from rfl, show x.ct.ts = x.ts.map Tg.ct from rfl, show x.ct.eq = x.eq from rfl]
        congr 1
        generalize evalR (vs.map Bw.ct) (x.ss.map Tg.ct) = P
        generalize evalR (vs.map Bw.ct) (x.ts.map Tg.ct) = Q
        obtain ⟨p1, p2⟩ := P
        obtain ⟨q1, q2⟩ := Q
        by_cases h1 : p1 = q1 <;> by_cases h2 : p2 = q2 <;> simp [h1, h2]
      rw [HQ.out]
      generalize evalR (vs.map Bw.ct) (x.ss.map Tg.ct) = XS at *
      generalize evalR (vs.map Bw.ct) (x.ts.map Tg.ct) = XT at *
      have HOS := kide hoS
      have HOT := kide hoT
      clear HES HET HOK hoS hoT HQ
      obtain ⟨id, q, ss, sa, sc, ts, ta, tc⟩ := x
      simp only [Lg.val] at *
      generalize ss.length = sn at *
      generalize ts.length = tn at *
      clear hr hv hs ht hV hR hL hLL hsd
      go_enter Tryz.func39, Tryz.ntmps39
      go_wp2_with fail
      refine Calls.mono HVO.out ?_
      rintro e w1 ⟨rfl, hb1⟩
      have s1 := s0.next hb1
      have c0 : w1.cell? ⟨w.heap.size, 0, none⟩ = some (.int .i64 id) := s1.cell 0
      have c1 : w1.cell? ⟨w.heap.size, 1, none⟩ = some (.bool q) := s1.cell 1
      have c2 : w1.cell? ⟨w.heap.size, 2, none⟩ = some (.slice sa sn sc) := s1.cell 2
      have c3 : w1.cell? ⟨w.heap.size, 3, none⟩ = some (.slice ta tn tc) := s1.cell 3
      have hbx : Below w1.heap.size w1 (w1.alloc (Obj.cells #[Value.int .i64 id, Value.bool q, Value.slice sa sn sc, Value.slice ta tn tc] 78)) := (Below.refl _ _).alloc (Nat.le_refl _) _
      have s2 := s1.next hbx
      have HC := kide (HLO.out _ w1.heap.size s2.below (HRL.out _ w1.heap.size s2.below (by simp) (by simp) (by simp) (by simp)))
      clear hb1 hbx HLO HRL
      go_wp2_with fail
      refine Calls.mono HC.out ?_
      rintro e w3 ⟨rfl, hb3⟩
      have s3 := s2.next hb3
      have d0 : w3.cell? ⟨w.heap.size, 0, none⟩ = some (.int .i64 id) := s3.cell 0
      have d1 : w3.cell? ⟨w.heap.size, 1, none⟩ = some (.bool q) := s3.cell 1
      have d2 : w3.cell? ⟨w.heap.size, 2, none⟩ = some (.slice sa sn sc) := s3.cell 2
      have d3 : w3.cell? ⟨w.heap.size, 3, none⟩ = some (.slice ta tn tc) := s3.cell 3
      clear hb3 HC c0 c1 c2 c3 s2 s0 s1 HVO
      go_wp2_with fail
      go_region_held3 (fun z => z.cell? ⟨w.heap.size, 1, none⟩ = some (.bool q) ∧ z.cell? ⟨w.heap.size, 2, none⟩ = some (.slice sa sn sc) ∧ z.cell? ⟨w.heap.size, 3, none⟩ = some (.slice ta tn tc)) (simp [*])
        (first
          | (go_at_call 72; refine Calls.mono (HETK.out w4 s4.below) ?_; rintro e w5 ⟨a5, k5, rfl, hn5, hb5⟩; have s5 := s4.next hb5; have u1 := s5.cell 1; have u2 := s5.cell 2; have u3 := s5.cell 3; simp at u1 u2 u3; have R5 := kide (R4.out.later hb5); have T5 := kide (hn5.rd (by omega) HOT.out.2))
          | (go_at_call 72; refine Calls.mono (HESK.out _ ?_) ?_; exact s3.below.drew; rintro e w4 ⟨a4, k4, rfl, hn4, hb4⟩; replace hb4 := kundrew hb4; have s4 := St.next (wk := w3) s3 hb4; have e1 := s4.cell 1; have e2 := s4.cell 2; have e3 := s4.cell 3; simp at e1 e2 e3; have R4 := kide (hn4.rd (by omega) HOS.out.2))
          | (go_at_call 71; refine Calls.mono (l3Same_any _ _ _ _ _ _ _ _ _ R5.out T5.out) ?_; rintro e w6 ⟨rfl, hb6⟩; have s6 := s5.next hb6; have v1 := s6.cell 1; have v2 := s6.cell 2; have v3 := s6.cell 3; simp at v1 v2 v3))
      go_wp2_with fail
      go_returns
      exact ⟨rfl, s6.below⟩


end Go.Proofs.YtllojnloldhghaaGreatDoor

/- What the specification's FirstFails answers. -/
namespace Go.Proofs.YtllojnloldhghaaGreatDoor
set_option linter.unusedVariables false
set_option linter.unusedSimpArgs false
open Go.RowKit

end Go.Proofs.YtllojnloldhghaaGreatDoor
