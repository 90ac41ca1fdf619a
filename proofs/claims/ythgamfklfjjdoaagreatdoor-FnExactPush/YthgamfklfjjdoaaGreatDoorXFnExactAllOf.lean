/- The law FnExactAllOf returns true, whatever it is handed. -/
import Derived.Test.YthgamfklfjjdoaaGreatDoorLTG
import Derived.Test.YthgamfklfjjdoaaGreatDoorLTC
import Derived.Test.YthgamfklfjjdoaaGreatDoorWSB
import Derived.Test.YthgamfklfjjdoaaGreatDoorZKO
namespace Go.Proofs.YthgamfklfjjdoaaGreatDoor
set_option linter.unusedVariables false
set_option linter.unusedSimpArgs false
open Go.RowKit

theorem RdT.okc {w : World} {a : Option Addr} {xs : List Tg} (h : RdT w a xs) : ∀ y ∈ xs.map Tg.ct, okT y := by
  intro y hy
  obtain ⟨x, hx, rfl⟩ := List.mem_map.1 hy
  obtain ⟨i, hi⟩ := List.getElem?_of_mem hx
  obtain ⟨-, h | ⟨b, o, -, hc⟩⟩ := h
  · rw [h] at hi; simp at hi
  · obtain ⟨-, r1, r2, k1, k2, k3, k4, k5⟩ := hc i x hi
    exact ⟨k1, k2, k3, k4, k5, r1.1, r1.2.1, r2.1, r2.2.1⟩

theorem all_ok {w : World} {a : Option Addr} {xs : List Sg} (h : RdS w a xs) (ds : List Dc) (nx : Int) : ∀ y ∈ allR ds (xs.map Sg.ct) nx, okLc y := by
  intro y hy
  unfold allR at hy
  split at hy
  · rw [← allL_map] at hy
    obtain ⟨x, hx, rfl⟩ := List.mem_map.1 hy
    obtain ⟨r1, r2, r3⟩ := flat_mem h x hx
    exact ⟨r3, by simp only [Lg.ct, List.length_map]; exact r1.1, by simp only [Lg.ct, List.length_map]; exact r2.1, r1.okc, r2.okc⟩
  · simp at hy

theorem all_len (ds : List Dc) (ss : List Sc) (nx : Int) : (allR ds ss nx).length ≤ 60 := by
  unfold allR
  split
  · rename_i h
    unfold sesR at h
    simp only [Bool.and_eq_true] at h
    have h2 := h.1.1.2
    unfold idsR at h2
    simp only [Bool.and_eq_true, decide_eq_true_eq] at h2
    exact h2.1
  · simp

theorem sh_of {l : List Lg} {A : List Lc} (e : l.map Lg.ct = A) (h : ∀ y ∈ A, okLc y) : shL l := fun x hx => by
  obtain ⟨-, k2, k3, k4, k5⟩ := h x.ct (by rw [← e]; exact List.mem_map_of_mem hx)
  refine ⟨sh_map rfl k4, sh_map rfl k5, ?_, ?_⟩
  · simpa [Lg.ct] using k2
  · simpa [Lg.ct] using k3

theorem lits_len {w : World} {a : Option Addr} {xs : List Sg} (h : RdS w a xs) : ∀ x ∈ xs, ∀ y ∈ x.ls, y.ss.length ≤ 1048576 ∧ y.ts.length ≤ 1048576 := fun x hx y hy => by
  obtain ⟨r1, r2, -⟩ := flat_mem h y (List.mem_flatMap.2 ⟨x, hx, hy⟩)
  exact ⟨r1.1, r2.1⟩

theorem flat_same {xs ys : List Sg} (h : ys.map Sg.ct = xs.map Sg.ct) : (ys.flatMap Sg.ls).length = (xs.flatMap Sg.ls).length := by
  have h2 := congrArg List.length (allL_map ys)
  rw [h, ← allL_map, List.length_map, List.length_map] at h2
  exact h2

set_option maxHeartbeats 4000000 in
set_option maxRecDepth 100000 in
theorem law_yes_FnExactAllOf (a b : Option Addr) (c e m : Nat) (nx Z : Int) (ds : List Dc) (xs : List Sg) (w : World) (hr : RdD w a ds) (hs : RdS w b xs) (hm : xs.length = m) (hT : (xs.flatMap Sg.ls).length ≤ 1048576) (hG : GF w) (hnx : in64 nx) (hz : 0 ≤ Z)
    (HSZ : Hid (∀ u, Below w.heap.size w u → Calls Tryz.prog 6 #[.agg #[.slice a ds.length c, .slice b m e, .int .i64 nx], .int .i64 1048576] u fun e w' => e = .returned (.int .i64 Z) ∧ Below u.heap.size u w')) :
    Calls Tryz.prog 3 #[.agg #[.slice a ds.length c, .slice b m e, .int .i64 nx]] w fun e w' => e = .returned (.bool true) ∧ Below w.heap.size w w' := by
  have HG := kide (fun u (hu : Below w.heap.size w u) => hG.later hu)
  have HTS := kide (fun u (hu : Below w.heap.size w u) => toSession_own a b c e m nx ds xs u (hr.later hu) (hs.later hu) hm)
  have HM := kide hm
  have HT := kide hT
  have hm2 : m ≤ 1048576 := by rw [← hm]; exact hs.1
  have hd2 : ds.length ≤ 1048576 := hr.1
  have HOK := kide (all_ok hs ds nx)
  have HAL := kide (all_len ds (xs.map Sg.ct) nx)
  have B0 := kide (ses_box w (.cells #[Value.slice a ds.length c, Value.slice b m e, Value.int .i64 nx] 25))
  have X0 : Hid (Bz (w.alloc (.cells #[Value.slice a ds.length c, Value.slice b m e, Value.int .i64 nx] 25)) w.heap.size #[Value.slice a ds.length c, Value.slice b m e, Value.int .i64 nx] 25) := Bz.new _ _ _
  have HDL : Hid (∃ dn, ds.length = dn) := ⟨_, rfl⟩
  clear hr hs hm hT hG
  obtain ⟨dn, hdn⟩ := HDL.out
  have HDN := kide hdn
  rw [hdn] at HSZ HTS B0 X0 hd2
  rw [hdn]
  clear hdn HDL
  have HSPE : Hid (∀ (u : World) (g1 g2 : Nat) (ms : List Sg), Below w.heap.size w u → ms.map Sg.ct = xs.map Sg.ct → RdD u (some ⟨g1, 0, none⟩) ds → RdS u (some ⟨g2, 0, none⟩) ms → (∀ x ∈ ms, SnL x.ls) → Calls Tryz.prog 7 #[.agg #[.slice (some ⟨g1, 0, none⟩) dn dn, .slice (some ⟨g2, 0, none⟩) m m, .int .i64 nx]] u (RetAs (allR ds (xs.map Sg.ct) nx) u)) := fun u g1 g2 ms hu hms hd hs hsn => by
    have := specAll_any (some ⟨g1, 0, none⟩) (some ⟨g2, 0, none⟩) dn m m nx ds ms u hd hs (by have := congrArg List.length hms; simp at this; rw [this]; exact HM.out) (by rw [flat_same hms]; exact HT.out) hnx (by rw [HDN.out]; exact Nat.le_refl _) hsn
    rw [hms, HDN.out] at this
    exact this
  have HIMP : Hid (∀ (u : World) (g1 g2 : Nat) (ms : List Sg), Below w.heap.size w u → ms.map Sg.ct = xs.map Sg.ct → RdD u (some ⟨g1, 0, none⟩) ds → RdS u (some ⟨g2, 0, none⟩) ms → (∀ x ∈ ms, x.la ≠ none) → (∀ x ∈ ms, SnL x.ls) → Calls Tryz.prog 9 #[.agg #[.slice (some ⟨g1, 0, none⟩) dn dn, .slice (some ⟨g2, 0, none⟩) m m, .int .i64 nx]] u (RetAl (allR ds (xs.map Sg.ct) nx) u)) := fun u g1 g2 ms hu hms hd hs hnn hsn => by
    have := implAll_any (some ⟨g1, 0, none⟩) (some ⟨g2, 0, none⟩) dn m m nx ds ms u hd hs (by have := congrArg List.length hms; simp at this; rw [this]; exact HM.out) (by rw [flat_same hms]; exact HT.out) hnn (HG.out u hu) hnx (by rw [HDN.out]; exact Nat.le_refl _) hsn
    rw [hms, HDN.out] at this
    exact this
  generalize allR ds (xs.map Sg.ct) nx = A at *
  obtain ⟨AL, hAL⟩ : ∃ AL, A.length = AL := ⟨_, rfl⟩
  have HAE := kide hAL
  rw [hAL] at HAL
  have HEQ : Hid (∀ (u : World) (v1 v2 : Value) (c1 c2 : Nat) (a1 a2 : Option Addr) (l1 l2 : List Lg), v1 = .slice a1 AL c1 → v2 = .slice a2 AL c2 → RdL u a1 l1 → RdL u a2 l2 → l1.map Lg.ct = A → l2.map Lg.ct = A → Calls Tryz.prog 10 #[v1, v2] u fun e w' => e = .returned (.bool true) ∧ Below u.heap.size u w') := fun u v1 v2 c1 c2 a1 a2 l1 l2 e1 e2 r1 r2 k1 k2 => by
    subst e1
    subst e2
    exact eqLiteralS_same a1 a2 c1 c2 l1 l2 u r1 r2 (k1.trans k2.symm) AL (by rw [← HAE.out, ← k1, List.length_map]) (by rw [← HAE.out, ← k2, List.length_map])
  have HRR : Hid (∀ (u : World) (lo hi c1 : Nat) (a1 : Option Addr) (l1 : List Lg), Lr lo hi (.slice a1 AL c1) l1 u → l1.map Lg.ct = A → RdL u a1 l1) := fun u lo hi c1 a1 l1 h k => by
    have hle : l1.length = AL := by rw [← HAE.out, ← k, List.length_map]
    obtain ⟨a2, c2, e2, r2⟩ := h.rd (by rw [hle]; have := HAL.out; omega) (by rw [k]; exact HOK.out)
    cases e2
    exact r2
  have HSH : Hid (∀ l1 : List Lg, l1.map Lg.ct = A → shL l1 ∧ l1.length = AL) := fun l1 k => ⟨sh_of k HOK.out, by rw [← HAE.out, ← k, List.length_map]⟩
  have hA6 := HAL.out
  clear hAL
  go_enter Tryz.func3, Tryz.ntmps3
  go_wp2_with fail
  generalize w.alloc (.cells #[Value.slice a dn c, Value.slice b m e, Value.int .i64 nx] 25) = w0 at *
  refine Calls.mono (HSZ.out _ B0.out) ?_
  rintro e1 w1 ⟨rfl, hb1⟩
  have B1 := kide (B0.out.trans (hb1.mono B0.out.size))
  have X1 := kide (X0.out.later hb1)
  clear hb1  B0 X0
  have x0 := X1.out.cell 0
  have x1 := X1.out.cell 1
  have x2 := X1.out.cell 2
  have xl := X1.out.lt
  simp at x0 x1 x2
  go_wp2_with fail
  refine Calls.mono (HTS.out _ B1.out) ?_
  rintro e2 w2 ⟨g1, g2, m2, rfl, hm2, r2, s2, nn2, hb2, -, -, -, fz, rz, rs2⟩
  have B2 := kide (B1.out.trans (hb2.mono B1.out.size))
  have X2 := kide (X1.out.later hb2)
  have HSP := kide (HSPE.out w2 g1 g2 m2 B2.out hm2 r2 s2 rs2.sn)
  clear hb2 r2 s2 nn2 hm2 rs2 B1 X1
  clear x0 x1 x2 xl
  have x0 := X2.out.cell 0
  have x1 := X2.out.cell 1
  have x2 := X2.out.cell 2
  have xl := X2.out.lt
  simp at x0 x1 x2
  go_wp2_with fail
  skip
  refine Calls.mono (HSP.out) ?_
  rintro e3 w3 ⟨va, vc, l3, rfl, hlr, hm3, hb3⟩
  have B3 := kide (B2.out.trans (hb3.mono B2.out.size))
  have X3 := kide (X2.out.later hb3)
  rw [HAE.out] at hlr
  rw [HAE.out]
  have WL3 := kide hlr
  have WM := kide hm3
  obtain ⟨hw, hhw⟩ : ∃ x, w3.heap.size = x := ⟨_, rfl⟩
  obtain ⟨lw, hlw⟩ : ∃ x, w2.heap.size = x := ⟨_, rfl⟩
  rw [hhw, hlw] at WL3
  have HHW := kide hhw
  have HBW0 : Hid (w.heap.size ≤ hw) := by show _ ≤ _; rw [← hhw]; exact B3.out.size
  have HBW1 : Hid (w.heap.size < hw) := by show _ < _; rw [← hhw]; exact X3.out.lt
  clear hb3 hlr hm3 hhw hlw HSP B2 X2
  clear x0 x1 x2 xl
  have x0 := X3.out.cell 0
  have x1 := X3.out.cell 1
  have x2 := X3.out.cell 2
  have xl := X3.out.lt
  simp at x0 x1 x2
  go_wp2_with fail
  refine Calls.mono (HTS.out _ B3.out) ?_
  rintro e4 w4 ⟨h1, h2, m4, rfl, hm4, r4, s4, nn4, hb4, q1, q2, ⟨fd, rd4⟩, fs4, rg4, rs4⟩
  have B4 := kide (B3.out.trans (hb4.mono B3.out.size))
  have X4 := kide (X3.out.later hb4)
  have WL4 := kide (WL3.out.later hb4)
  have M4 := kide hm4
  have RD4 := kide r4
  have RS4 := kide s4
  have NN4 := kide nn4
  have RW4 := kide rd4
  have RO4 := kide rs4
  have HQ1 : Hid (hw ≤ h1) := by show _ ≤ _; rw [← HHW.out]; exact q1
  have HQ2 := kide q2
  obtain ⟨hx, hhx⟩ : ∃ x, w4.heap.size = x := ⟨_, rfl⟩
  rw [hhx] at RO4
  have HHX := kide hhx
  have RGX : Hid (h1 < hx) := by show _ < _; rw [← hhx]; exact rowIs_lt RW4.out
  clear hb4 r4 s4 nn4 hm4 rd4 rs4 q1 q2 hhx B3 X3 WL3
  clear x0 x1 x2 xl
  have x0 := X4.out.cell 0
  have x1 := X4.out.cell 1
  have x2 := X4.out.cell 2
  have xl := X4.out.lt
  simp at x0 x1 x2
  go_wp2_with fail
  have hbx := ses_box w4 (.cells #[Value.slice (some ⟨h1, 0, none⟩) dn dn, Value.slice (some ⟨h2, 0, none⟩) m m, Value.int .i64 nx] 32)
  have B5 := kide (B4.out.trans (hbx.mono B4.out.size))
  have X5 := kide (X4.out.later hbx)
  have WL5 := kide (WL4.out.later hbx)
  have RD5 := kide (RD4.out.later hbx)
  have RS5 := kide (RS4.out.later hbx)
  have RW5 := kide (rowIs_later RW4.out hbx)
  have RO5 := kide (RO4.out.later hbx)
  have Y5 : Hid (Bz (w4.alloc (.cells #[Value.slice (some ⟨h1, 0, none⟩) dn dn, Value.slice (some ⟨h2, 0, none⟩) m m, Value.int .i64 nx] 32)) w4.heap.size #[Value.slice (some ⟨h1, 0, none⟩) dn dn, Value.slice (some ⟨h2, 0, none⟩) m m, Value.int .i64 nx] 32) := Bz.new _ _ _
  generalize w4.alloc (.cells #[Value.slice (some ⟨h1, 0, none⟩) dn dn, Value.slice (some ⟨h2, 0, none⟩) m m, Value.int .i64 nx] 32) = w5 at *
  rw [HHX.out] at Y5
  try simp only [HHX.out]
  clear hbx B4 X4 WL4 RD4 RS4 RW4 RO4
  clear x0 x1 x2 xl
  have HY5 : Hid (hx ≤ w5.heap.size) := Nat.le_of_lt Y5.out.lt
  have HI5 := kide (HIMP.out w5 h1 h2 m4 B5.out M4.out RD5.out RS5.out NN4.out RO5.out.sn)
  refine Calls.mono (HI5.out) ?_
  rintro e6 w6 ⟨ga, gc, l6, p6, rfl, hln, hm6, hb6⟩
  have B6 := kide (B5.out.trans (hb6.mono B5.out.size))
  have X6 := kide (X5.out.later hb6)
  have WL6 := kide (WL5.out.later hb6)
  have RD6 := kide (RD5.out.later hb6)
  have RS6 := kide (RS5.out.later hb6)
  have RW6 := kide (rowIs_later RW5.out hb6)
  have RO6 := kide (RO5.out.later hb6)
  have Y6 := kide (Y5.out.later hb6)
  rw [HAE.out] at hln
  rw [HAE.out]
  have GL6 := kide hln
  have GM := kide hm6
  obtain ⟨hg, hhg⟩ : ∃ x, w6.heap.size = x := ⟨_, rfl⟩
  have HLG := kide HY5.out
  obtain ⟨lg, hlg⟩ : ∃ x, w5.heap.size = x := ⟨_, rfl⟩
  rw [hhg, hlg] at GL6
  rw [hlg] at HLG
  clear hb6 hln hm6 hhg hlg HI5 B5 X5 WL5 RD5 RS5 RW5 RO5 Y5
  go_wp2_with fail
  refine Calls.mono (HEQ.out w6 _ _ gc vc ga va l6 l3 rfl rfl (HRR.out _ _ _ _ _ _ GL6.out.lr GM.out) (HRR.out _ _ _ _ _ _ WL6.out WM.out) GM.out WM.out) ?_
  rintro e7 w7 ⟨rfl, hb7⟩
  have B7 := kide (B6.out.trans (hb7.mono B6.out.size))
  have X7 := kide (X6.out.later hb7)
  have WL7 := kide (WL6.out.later hb7)
  have RD7 := kide (RD6.out.later hb7)
  have RS7 := kide (RS6.out.later hb7)
  have RW7 := kide (rowIs_later RW6.out hb7)
  have RO7 := kide (RO6.out.later hb7)
  have Y7 := kide (Y6.out.later hb7)
  have GL7 := kide (GL6.out.later hb7)
  clear hb7  B6 X6 WL6 RD6 RS6 RW6 RO6 Y6 GL6
  have x0 := X7.out.cell 0
  have x1 := X7.out.cell 1
  have x2 := X7.out.cell 2
  have xl := X7.out.lt
  have y0 := Y7.out.cell 0
  have y1 := Y7.out.cell 1
  have y2 := Y7.out.cell 2
  have yl := Y7.out.lt
  simp at x0 x1 x2 y0 y1 y2
  go_wp2_with fail
  have HEQS : Hid (∀ (u : World) (k1 k2 : Nat) (m7 : List Sg), RdD u (some ⟨h1, 0, none⟩) ds → RdD u (some ⟨k1, 0, none⟩) ds → RdS u (some ⟨h2, 0, none⟩) m4 → RdS u (some ⟨k2, 0, none⟩) m7 → m7.map Sg.ct = xs.map Sg.ct → Calls Tryz.prog 11 #[.agg #[.slice (some ⟨h1, 0, none⟩) dn dn, .slice (some ⟨h2, 0, none⟩) m m, .int .i64 nx], .agg #[.slice (some ⟨k1, 0, none⟩) dn dn, .slice (some ⟨k2, 0, none⟩) m m, .int .i64 nx]] u fun e w' => e = .returned (.bool true) ∧ Below u.heap.size u w') := fun u k1 k2 m7 a1 a2 a3 a4 a5 => by
    have h4 : m4.length = m := by have := congrArg List.length M4.out; simp at this; rw [this]; exact HM.out
    have h7 : m7.length = m := by have := congrArg List.length a5; simp at this; rw [this]; exact HM.out
    have := eqSession_same nx (some ⟨h1, 0, none⟩) (some ⟨k1, 0, none⟩) (some ⟨h2, 0, none⟩) (some ⟨k2, 0, none⟩) dn dn m m m ds m4 m7 u a1 a2 a3 a4 (M4.out.trans a5.symm) h4 h7
    rw [HDN.out] at this
    exact this
  go_region_held3 (fun u => u.cell? ⟨w.heap.size, 0, none⟩ = some (Value.slice a dn c) ∧ u.cell? ⟨w.heap.size, 1, none⟩ = some (Value.slice b m e) ∧ u.cell? ⟨w.heap.size, 2, none⟩ = some (Value.int .i64 nx) ∧ u.cell? ⟨hx, 0, none⟩ = some (Value.slice (some ⟨h1, 0, none⟩) dn dn) ∧ u.cell? ⟨hx, 1, none⟩ = some (Value.slice (some ⟨h2, 0, none⟩) m m) ∧ u.cell? ⟨hx, 2, none⟩ = some (Value.int .i64 nx)) (simp [*])
    (first
      | (go_at_call 11; refine Calls.mono (HEQS.out _ k1 k2 m8 RD8.out Q8.out RS8.out T8.out M8.out) ?_; rintro e9 w9 ⟨rfl, hb9⟩; have B9 := kide (B8.out.trans (hb9.mono B8.out.size)); have X9 := kide (X8.out.later hb9); have WL9 := kide (WL8.out.later hb9); have RD9 := kide (RD8.out.later hb9); have RS9 := kide (RS8.out.later hb9); have RW9 := kide (rowIs_later RW8.out hb9); have RO9 := kide (RO8.out.later hb9); have Y9 := kide (Y8.out.later hb9); have GL9 := kide (GL8.out.later hb9); have vx0 := (kcell hb9 w.heap.size 0 xl8).trans ux0; have vx1 := (kcell hb9 w.heap.size 1 xl8).trans ux1; have vx2 := (kcell hb9 w.heap.size 2 xl8).trans ux2; have vy0 := (kcell hb9 hx 0 yl8).trans uy0; have vy1 := (kcell hb9 hx 1 yl8).trans uy1; have vy2 := (kcell hb9 hx 2 yl8).trans uy2)
      | (go_at_call 8; refine Calls.mono (HTS.out _ ?_) ?_; exact B7.out.drew; rintro e8 w8 ⟨k1, k2, m8, rfl, hm8, r8, s8, nn8, hb8, -, -, -, fz, rz, -⟩; replace hb8 := kundrew hb8; have B8 := kide (B7.out.trans (hb8.mono B7.out.size)); have X8 := kide (X7.out.later hb8); have WL8 := kide (WL7.out.later hb8); have RD8 := kide (RD7.out.later hb8); have RS8 := kide (RS7.out.later hb8); have RW8 := kide (rowIs_later RW7.out hb8); have RO8 := kide (RO7.out.later hb8); have Y8 := kide (Y7.out.later hb8); have GL8 := kide (GL7.out.later hb8); have Q8 := kide r8; have T8 := kide s8; have M8 := kide hm8; have xl8 := Nat.lt_of_lt_of_le xl hb8.size; have yl8 := Nat.lt_of_lt_of_le yl hb8.size; have ux0 := (kcell hb8 w.heap.size 0 xl).trans x0; have ux1 := (kcell hb8 w.heap.size 1 xl).trans x1; have ux2 := (kcell hb8 w.heap.size 2 xl).trans x2; have uy0 := (kcell hb8 hx 0 yl).trans y0; have uy1 := (kcell hb8 hx 1 yl).trans y1; have uy2 := (kcell hb8 hx 2 yl).trans y2; clear r8 s8 hm8 nn8))
  clear hb8 hb9 HEQS Q8 T8 M8 xl8 yl8 ux0 ux1 ux2 uy0 uy1 uy2 vx0 vx1 vx2 vy0 vy1 vy2 B7 B8 X7 X8 WL7 WL8 RD7 RD8 RS7 RS8 RW7 RW8 RO7 RO8 Y7 Y8 GL7 GL8
  clear x0 x1 x2 xl y0 y1 y2 yl
  have x0 := X9.out.cell 0
  have x1 := X9.out.cell 1
  have x2 := X9.out.cell 2
  have xl := X9.out.lt
  have y0 := Y9.out.cell 0
  have y1 := Y9.out.cell 1
  have y2 := Y9.out.cell 2
  have yl := Y9.out.lt
  simp at x0 x1 x2 y0 y1 y2
  go_wp2_with fail
  have HB1 : Hid (w.heap.size ≤ h1) := Nat.le_trans HBW0.out HQ1.out
  have HB2 : Hid (w.heap.size < h1) := Nat.lt_of_lt_of_le HBW1.out HQ1.out
  have HMK := kide (markSession_any h1 h2 dn m hx h1 nx m4 w9 fd fs4 rg4 RW9.out RO9.out (Nat.le_refl _) HQ2.out hd2 (by have := congrArg List.length M4.out; simp at this; rw [this]; exact HM.out) hm2 (by rw [flat_same M4.out]; exact HT.out) (lits_len RS9.out))
  refine Calls.mono HMK.out ?_
  rintro e10 w10 ⟨⟨r10, rfl⟩, ho10⟩
  have B10 := kide (Out.bel B9.out ho10 HB1.out)
  have X10 := kide (X9.out.out ho10 (.inl HB2.out))
  have Y10 := kide (Y9.out.out ho10 (.inr (Nat.le_refl _)))
  have WL10 := kide (WL9.out.out ho10 (.inl HQ1.out))
  have GL10 := kide (GL9.out.out ho10 (.inr HLG.out))
  have p10 : ¬ (r10 : Int) < 0 := by omega
  clear ho10 HMK B9 X9 WL9 RD9 RS9 RW9 RO9 Y9 GL9
  clear x0 x1 x2 xl y0 y1 y2 yl
  go_wp2_with fail
  refine Calls.mono (HEQ.out w10 _ _ gc vc ga va l6 l3 rfl rfl (HRR.out _ _ _ _ _ _ GL10.out.lr GM.out) (HRR.out _ _ _ _ _ _ WL10.out WM.out) GM.out WM.out) ?_
  rintro e11 w11 ⟨rfl, hb11⟩
  have B11 := kide (B10.out.trans (hb11.mono B10.out.size))
  have X11 := kide (X10.out.later hb11)
  have WL11 := kide (WL10.out.later hb11)
  have Y11 := kide (Y10.out.later hb11)
  have GL11 := kide (GL10.out.later hb11)
  clear hb11  B10 X10 WL10 Y10 GL10
  go_wp2_with fail
  have HRG := kide RGX.out
  have HBG : Hid (w.heap.size ≤ lg) := Nat.le_trans (Nat.le_of_lt (Nat.lt_of_lt_of_le HB2.out (Nat.le_of_lt HRG.out))) HLG.out
  have HBX : Hid (w.heap.size < lg) := Nat.lt_of_lt_of_le HB2.out (Nat.le_trans (Nat.le_of_lt HRG.out) HLG.out)
  have HBW : Hid (hw ≤ lg) := Nat.le_trans HQ1.out (Nat.le_trans (Nat.le_of_lt HRG.out) HLG.out)
  have HML := kide (markLn_any lg hg AL gc 1 ga l6 p6 w11 GL11.out (HSH.out l6 GM.out).2 hA6 (HSH.out l6 GM.out).1 (by omega))
  refine Calls.mono HML.out ?_
  rintro e12 w12 ⟨rfl, hh12, ho12⟩
  have HL12 := kide hh12
  have B12 := kide (Out.bel B11.out ho12 HBG.out)
  have X12 := kide (X11.out.out ho12 (.inl HBX.out))
  have WL12 := kide (WL11.out.out ho12 (.inl HBW.out))
  obtain ⟨MK, hMK⟩ : ∃ x, mkL l6 1 AL = x := ⟨_, rfl⟩
  have HMKE := kide hMK
  try rw [hMK]
  have hmm : ((MK : Int) != (MK : Int)) = false := by simp
  have pmk : ¬ (MK : Int) < 0 := by omega
  clear hh12 ho12 HML hMK Y11 GL11 B11 X11 WL11
  go_wp2_with fail
  have HH12 := kide (heldLn_any AL gc 1 ga l6 w12 HL12.out (HSH.out l6 GM.out).2 hA6 (HSH.out l6 GM.out).1 (by omega))
  rw [HMKE.out] at HH12
  refine Calls.mono HH12.out ?_
  rintro e12' w12 ⟨rfl, hww⟩
  subst hww
  clear HH12
  have x0 := X12.out.cell 0
  have x1 := X12.out.cell 1
  have x2 := X12.out.cell 2
  have xl := X12.out.lt
  simp at x0 x1 x2
  go_wp2_with fail
  refine Calls.mono (HTS.out _ B12.out) ?_
  rintro e13 w13 ⟨k1, k2, m13, rfl, hm13, r13, s13, nn13, hb13, -, -, -, fz2, rz2, rs13⟩
  have B13 := kide (B12.out.trans (hb13.mono B12.out.size))
  have X13 := kide (X12.out.later hb13)
  have WL13 := kide (WL12.out.later hb13)
  have HL13 := kide (HL12.out.later hb13)
  have HI13 := kide (HIMP.out w13 k1 k2 m13 B13.out hm13 r13 s13 nn13 rs13.sn)
  clear hb13 r13 s13 nn13 hm13 rs13 B12 X12 WL12 HL12
  clear x0 x1 x2 xl
  go_wp2_with fail
  refine Calls.mono (HI13.out) ?_
  rintro e14 w14 ⟨ha, hc, l14, p14, rfl, hln, hm14, hb14⟩
  have B14 := kide (B13.out.trans (hb14.mono B13.out.size))
  have X14 := kide (X13.out.later hb14)
  have WL14 := kide (WL13.out.later hb14)
  have HL14 := kide (HL13.out.later hb14)
  rw [HAE.out] at hln
  rw [HAE.out]
  have KL14 := kide hln
  have KM := kide hm14
  clear hb14 hln hm14 HI13 B13 X13 WL13 HL13
  go_wp2_with fail
  refine Calls.mono (HEQ.out w14 _ _ hc vc ha va l14 l3 rfl rfl (HRR.out _ _ _ _ _ _ KL14.out.lr KM.out) (HRR.out _ _ _ _ _ _ WL14.out WM.out) KM.out WM.out) ?_
  rintro e15 w15 ⟨rfl, hb15⟩
  have B15 := kide (B14.out.trans (hb15.mono B14.out.size))
  have X15 := kide (X14.out.later hb15)
  have WL15 := kide (WL14.out.later hb15)
  have HL15 := kide (HL14.out.later hb15)
  clear hb15  B14 X14 WL14 HL14
  go_wp2_with fail
  have HH15 := kide (heldLn_any AL gc 1 ga l6 w15 HL15.out (HSH.out l6 GM.out).2 hA6 (HSH.out l6 GM.out).1 (by omega))
  rw [HMKE.out] at HH15
  refine Calls.mono HH15.out ?_
  rintro e15' w15 ⟨rfl, hww⟩
  subst hww
  clear HH15
  go_wp2_with fail
  go_ret
  exact ⟨rfl, B15.out⟩

theorem law_big_FnExactAllOf (a b : Option Addr) (n c e m : Nat) (nx Z : Int) (w : World) (hz : Z < 0)
    (HSZ : Hid (∀ u, Below w.heap.size w u → Calls Tryz.prog 6 #[.agg #[.slice a n c, .slice b m e, .int .i64 nx], .int .i64 1048576] u fun e w' => e = .returned (.int .i64 Z) ∧ Below u.heap.size u w')) :
    Calls Tryz.prog 3 #[.agg #[.slice a n c, .slice b m e, .int .i64 nx]] w fun e w' => e = .returned (.bool true) ∧ Below w.heap.size w w' := by
  have B0 := kide (ses_box w (.cells #[Value.slice a n c, Value.slice b m e, Value.int .i64 nx] 25))
  go_enter Tryz.func3, Tryz.ntmps3
  go_wp2_with fail
  refine Calls.mono (HSZ.out _ B0.out) ?_
  rintro e1 w1 ⟨rfl, hb1⟩
  go_wp2_with fail
  go_ret
  exact ⟨rfl, B0.out.trans (hb1.mono B0.out.size)⟩

theorem walk_FnExactAllOf (a : Option Addr) (n c : Nat) (b : Option Addr) (m e : Nat) (nx : Int) (W : World) (hG : GF W) (hnx : in64 nx) (hn : n ≤ 9223372036854775807) (hm : m ≤ 9223372036854775807)
    (hx : n ≤ 1048576 → ∃ ds : List Dc, ds.length = n ∧ RdD W a ds) (hy : m ≤ 1048576 → ∃ hs : List Sh, hs.length = m ∧ RdSh W b hs ∧ ∀ h ∈ hs, ScpOf W h) :
    Calls Tryz.prog 3 #[.agg #[.slice a n c, .slice b m e, .int .i64 nx]] W fun e w' => e = .returned (.bool true) ∧ Below W.heap.size W w' := by
  obtain ⟨Z, HSZ, hZ | ⟨hZ, ds, xs, rfl, hxl, hT, hr, hs⟩⟩ := size_session a n c b m e nx W hn hm hx hy
  · exact law_big_FnExactAllOf a b n c e m nx Z W hZ HSZ
  · exact law_yes_FnExactAllOf a b c e m nx Z ds xs W hr hs hxl hT hG hnx hZ HSZ

end Go.Proofs.YthgamfklfjjdoaaGreatDoor
