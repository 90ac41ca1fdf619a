/- The law FnExactMustBars returns true, whatever it is handed. -/
import Derived.Test.YtddgldfjeklhbaaCI
import Derived.Test.YtddgldfjeklhbaaJY
namespace Go.Proofs.Ytddgldfjeklhbaa
set_option linter.unusedVariables false
set_option linter.unusedSimpArgs false
open Go.RowKit

theorem len_of_pc {xs ys : List Pg} {n : Nat} (h : xs.map Pg.ct = ys.map Pg.ct) (hn : ys.length = n) : xs.length = n := by
  rw [← hn]; simpa using congrArg List.length h

/-- A told row of bars: where it lies, and that it can be read. -/
def Told (w : World) (lo hi : Nat) (v : Value) (l : List Yg) : Prop := OB4 w lo v l ∧ (∀ x ∈ l, Nw w lo x.a x.ct.ws ∧ okY x.ct) ∧ w.heap.size ≤ hi
theorem nw_hi {w w' : World} {lo hi : Nat} {a : Option Addr} {xs : List Nat} (h : Nw w lo a xs) (hk : ∀ b, lo ≤ b → b < w.heap.size → w'.heap[b]? = w.heap[b]?) : Nw w' lo a xs := by
  rcases h with ⟨h1, h2⟩ | ⟨g, cur, h1, h2, h3, h4⟩
  · refine .inl ⟨h1, fun x e => ?_⟩
    obtain ⟨k1, k2, cur, k3⟩ := h2 x e
    exact ⟨k1, k2, cur, (hk _ k1 (lt_of_block k3)).trans k3⟩
  · exact .inr ⟨g, cur, h1, h2, (hk g h2 (lt_of_block h3)).trans h3, h4⟩
/-- A row of bars with its words from the block lo on, below hi. -/
def Bars (w : World) (lo hi : Nat) (v : Value) (l : List Yg) : Prop := OB4 w lo v l ∧ (∀ b, v.ownBlock = some b → b < hi) ∧ (∀ x ∈ l, Nw w lo x.a x.ct.ws ∧ okY x.ct ∧ ∀ p, x.a = some p → p.block < hi)
theorem Bars.of {w : World} {lo : Nat} {v : Value} {l : List Yg} (h : OB4 w lo v l) (hw : ∀ x ∈ l, Nw w lo x.a x.ct.ws ∧ okY x.ct) : Bars w lo w.heap.size v l := ⟨h, fun b hb => (h.lt hb).2, fun x hx => ⟨(hw x hx).1, (hw x hx).2, fun p hp => (nw_lt (hw x hx).1 hp).2⟩⟩
theorem Bars.keep {w w' : World} {lo hi : Nat} {v : Value} {l : List Yg} (h : Bars w lo hi v l) (hk : ∀ b, lo ≤ b → b < hi → b < w.heap.size → w'.heap[b]? = w.heap[b]?) : Bars w' lo hi v l := by
  obtain ⟨h1, h2, h3⟩ := h
  refine ⟨h1.move (fun b hb => hk b (h1.lt hb).1 (h2 b hb) (h1.lt hb).2), h2, fun x hx => ?_⟩
  obtain ⟨k1, k2, k3⟩ := h3 x hx
  refine ⟨?_, k2, k3⟩
  rcases k1 with ⟨e1, e2⟩ | ⟨g, cur, e1, e2, e3, e4⟩
  · refine .inl ⟨e1, fun p hp => ?_⟩
    obtain ⟨j1, j2, cur, j3⟩ := e2 p hp
    exact ⟨j1, j2, cur, (hk _ j1 (k3 p hp) (lt_of_block j3)).trans j3⟩
  · exact .inr ⟨g, cur, e1, e2, (hk g e2 (k3 _ e1) (lt_of_block e3)).trans e3, e4⟩
theorem Bars.later {w w' : World} {lo hi : Nat} {v : Value} {l : List Yg} (h : Bars w lo hi v l) (hb : Below w.heap.size w w') : Bars w' lo hi v l := h.keep (fun b _ _ hl => hb.block b hl)
theorem Bars.rd {w : World} {lo hi : Nat} {v : Value} {l : List Yg} (h : Bars w lo hi v l) (hl : l.length ≤ 1048576) : ∃ a c, v = .slice a l.length c ∧ RdBr w a l := h.1.rd hl (fun x hx => ⟨(h.2.2 x hx).1.rd (h.2.2 x hx).2.1.2.2.2.2 (h.2.2 x hx).2.1.2.2.2.1, (h.2.2 x hx).2.1.1, (h.2.2 x hx).2.1.2.1, (h.2.2 x hx).2.1.2.2.1⟩)
theorem eqBars {w : World} {lo hi lo' hi' : Nat} {a b : Option Addr} {n c d : Nat} {l m : List Yg} (h : Bars w lo hi (.slice a n c) l) (h' : Bars w lo' hi' (.slice b n d) m) (he : l.map Yg.ct = m.map Yg.ct) (hn : l.length = n) (hn2 : n ≤ 1048576) :
    Calls Try.prog 9 #[.slice a n c, .slice b n d] w fun e w' => e = .returned (.bool true) ∧ Below w.heap.size w w' := by
  have hm : m.length = n := by rw [← hn]; simpa using (congrArg List.length he).symm
  obtain ⟨a1, c1, e1, r1⟩ := h.rd (by omega)
  obtain ⟨a2, c2, e2, r2⟩ := h'.rd (by omega)
  rw [hn] at e1
  rw [hm] at e2
  cases e1
  cases e2
  exact eqBarS_same a b c d l m w r1 r2 he n hn hm

set_option maxHeartbeats 4000000 in
set_option maxRecDepth 100000 in
theorem law_yes_FnExactMustBars (b : Option Addr) (c n : Nat) (xs : List Pg) (w : World) (hx : RdP w b xs) (hn : xs.length = n) (Z : Int) (hZ : 0 ≤ Z)
    (HSZ : Hid (∀ u, Below w.heap.size w u → Calls Try.prog 5 #[.slice b n c, .int .i64 1048576] u fun e w' => e = .returned (.int .i64 Z) ∧ Below u.heap.size u w')) :
    Calls Try.prog 3 #[.slice b n c] w fun e w' => e = .returned (.bool true) ∧ Below w.heap.size w w' := by
  have HTB : Hid (∀ u, Below w.heap.size w u → Calls Try.prog 7 #[.slice b n c] u fun e w' => ∃ (g : Nat) (ms : List Pg), e = .returned (.slice (some ⟨g, 0, none⟩) n n) ∧ ms.map Pg.ct = xs.map Pg.ct ∧ RdP w' (some ⟨g, 0, none⟩) ms ∧ TyS w' u.heap.size w'.heap.size (some ⟨g, 0, none⟩) n ∧ Lie ms ∧ Below u.heap.size u w') := fun u hu => by
    subst hn
    refine (toSplitS_ty b c xs u (hx.later hu)).mono ?_
    rintro e w' ⟨ms, rfl, h1, h2, h3, h4⟩
    have hl := len_of_pc h1 rfl
    exact ⟨_, ms, rfl, h1, h2, h3, lie_of h2 (by rw [hl]; exact h3), h4⟩
  have HN := kide hn
  have hn2 := hx.1
  rw [hn] at hn2
  have hml := mustR_len (xs.map Pg.ct)
  rw [List.length_map, hn] at hml
  clear hx hn
  go_enter Try.func3, Try.ntmps3
  go_wp2_with fail
  refine Calls.mono (HSZ.out _ (Below.refl _ _)) ?_
  rintro e w1 ⟨rfl, hb1⟩
  have B1 := kide hb1
  clear hb1
  go_wp2_with fail
  refine Calls.mono (HTB.out w1 B1.out) ?_
  rintro e w2 ⟨g2, m2, rfl, hm2, r2, -, hl2, hb2⟩
  have B2 := kide (B1.out.trans (hb2.mono B1.out.size))
  have HSP := kide (specMust_any (some ⟨g2, 0, none⟩) n n m2 w2 r2 (len_of_pc hm2 HN.out) hl2)
  rw [hm2] at HSP
  clear hb2 hm2 r2 hl2
  go_wp2_with fail
  refine Calls.mono HSP.out ?_
  rintro e w3 ⟨v3, l3, rfl, ho3, hl3, hw3, hb3⟩
  have B3 := kide (B2.out.trans (hb3.mono B2.out.size))
  have Q3 := kide (Bars.of ho3 hw3)
  have L3 := kide hl3
  have hln3 : l3.length ≤ 1048576 := by have h9 := congrArg List.length hl3; rw [List.length_map] at h9; omega
  obtain ⟨a3, c3, rfl⟩ := ho3.form
  clear hb3 ho3 hl3 hw3 HSP
  go_wp2_with fail
  refine Calls.mono (HTB.out w3 B3.out) ?_
  rintro e w4 ⟨g4, m4, rfl, hm4, r4, t4, hl4, hb4⟩
  have B4 := kide (B3.out.trans (hb4.mono B3.out.size))
  have HIM := kide (implMust_any (some ⟨g4, 0, none⟩) n n m4 w4 r4 (len_of_pc hm4 HN.out) hl4)
  rw [hm4] at HIM
  have M4 := kide hm4
  have R4 := kide r4
  have T4 := kide t4
  have Q4 := kide (Q3.out.later hb4)
  have z4 := hb4.size
  clear hb4 hm4 r4 t4 hl4 Q3
  go_wp2_with fail
  refine Calls.mono HIM.out ?_
  rintro e w5 ⟨v5, l5, rfl, ho5, hl5, hw5, hd5, hb5⟩
  have B5 := kide (B4.out.trans (hb5.mono B4.out.size))
  have R5 := kide (R4.out.later hb5)
  have T5 := kide (T4.out.shp (Shp.of hb5))
  have Q5 := kide (Q4.out.later hb5)
  have P5 := kide (Bars.of ho5 hw5)
  have L5 := kide hl5
  have D5 := kide hd5
  have e53 : l5.map Yg.ct = l3.map Yg.ct := by rw [hl5, L3.out]
  have en : l5.length = l3.length := by simpa using congrArg List.length e53
  obtain ⟨a5, c5, rfl⟩ := ho5.form
  rw [en] at P5
  rw [en]
  have E53 := kide e53
  have EN := kide en
  have z5 := hb5.size
  obtain ⟨N, hN⟩ : ∃ N, l3.length = N := ⟨_, rfl⟩
  rw [hN] at P5 Q5 EN hln3
  rw [hN]
  clear hb5 ho5 hl5 hw5 hd5 e53 en HIM Q4 R4 T4 hN
  go_wp2_with fail
  refine Calls.mono (eqBars P5.out Q5.out E53.out EN.out hln3) ?_
  rintro e w6 ⟨rfl, hb6⟩
  have B6 := kide (B5.out.trans (hb6.mono B5.out.size))
  have R6 := kide (R5.out.later hb6)
  have T6 := kide (T5.out.shp (Shp.of hb6))
  have Q6 := kide (Q5.out.later hb6)
  have P6 := kide (P5.out.later hb6)
  have z6 := hb6.size
  clear hb6 R5 T5 Q5 P5
  go_wp2_with fail
  refine Calls.mono (HTB.out w6 B6.out) ?_
  rintro e w7 ⟨g7, m7, rfl, hm7, r7, -, -, hb7⟩
  have B7 := kide (B6.out.trans (hb7.mono B6.out.size))
  have R7 := kide (R6.out.later hb7)
  have T7 := kide (T6.out.shp (Shp.of hb7))
  have Q7 := kide (Q6.out.later hb7)
  have P7 := kide (P6.out.later hb7)
  have S7 := kide r7
  have M7 := kide hm7
  have z7 := hb7.size
  clear hb7 hm7 r7 R6 T6 Q6 P6
  go_wp2_with fail
  refine Calls.mono (eqSplitS_same (some ⟨g4, 0, none⟩) (some ⟨g7, 0, none⟩) n n m4 m7 w7 R7.out S7.out (M4.out.trans M7.out.symm) n (len_of_pc M4.out HN.out) (len_of_pc M7.out HN.out)) ?_
  rintro e w8 ⟨rfl, hb8⟩
  have B8 := kide (B7.out.trans (hb8.mono B7.out.size))
  have T8 := kide (T7.out.shp (Shp.of hb8))
  have Q8 := kide (Q7.out.later hb8)
  have P8 := kide (P7.out.later hb8)
  have z8 := hb8.size
  clear hb8 T7 Q7 P7 R7 S7
  go_wp2_with fail
  refine Calls.mono (markS_ty w3.heap.size w4.heap.size n n (some ⟨g4, 0, none⟩) w8 T8.out) ?_
  rintro e w9 ⟨k9, rfl, hk9, -, ho9⟩
  have z3 := B3.out.size
  have hbb9 : Below w.heap.size w8 w9 := ho9.below z3 B8.out.size
  have B9 := kide (B8.out.trans hbb9)
  have Q9 := kide (Q8.out.keep (fun b _ h2 hl => ho9.2.2.2.2 b hl (.inl h2)))
  have P9 := kide (P8.out.keep (fun b h1 _ hl => ho9.2.2.2.2 b hl (.inr h1)))
  have hk0 : ¬ ((k9 : Int) < 0) := by omega
  have z9 : w8.heap.size ≤ w9.heap.size := ho9.2.2.2.1
  clear ho9 hbb9 T8 Q8 P8
  go_wp2_with fail
  refine Calls.mono (eqBars P9.out Q9.out E53.out EN.out hln3) ?_
  rintro e w10 ⟨rfl, hb10⟩
  have B10 := kide (B9.out.trans (hb10.mono B9.out.size))
  have Q10 := kide (Q9.out.later hb10)
  have P10 := kide (P9.out.later hb10)
  have z10 := hb10.size
  clear hb10 Q9 P9
  have HMK := kide (markV_any w4.heap.size w10.heap.size N c5 a5 l5 w10 P10.out.1 (fun x hx => ⟨(P10.out.2.2 x hx).1, (P10.out.2.2 x hx).2.1⟩) D5.out EN.out hln3 (Nat.le_refl _))
  have hwl : ∀ x ∈ l5, x.ct.ws.length ≤ 1048576 := fun x hx => (P10.out.2.2 x hx).2.1.2.2.2.2
  have HWL := kide hwl
  have HHD := kide (fun u (hu : HeldV u (.slice a5 N c5) l5 1) => heldV_any N c5 a5 l5 u hu HWL.out EN.out hln3)
  generalize mkAt l5 1 l5.length = MK at *
  clear hwl
  go_wp2_with fail
  refine Calls.mono HMK.out ?_
  rintro e w11 ⟨rfl, hh11, ho11⟩
  have hbb11 : Below w.heap.size w10 w11 := ho11.below (by omega) B10.out.size
  have B11 := kide (B10.out.trans hbb11)
  have Q11 := kide (Q10.out.keep (fun b _ h2 hl => ho11.2.2.2.2 b hl (.inl (by omega))))
  have H11 := kide hh11
  clear ho11 hbb11 hh11 HMK Q10 P10
  have hmm : ((MK : Int) != (MK : Int)) = false := by simp
  have hm0 : ¬ ((MK : Int) < 0) := by omega
  go_wp2_with fail
  refine Calls.mono (HHD.out _ H11.out) ?_
  rintro e w12 ⟨rfl, hw12⟩
  obtain rfl := hw12.symm
  go_wp2_with fail
  refine Calls.mono (HTB.out w11 B11.out) ?_
  rintro e w13 ⟨g13, m13, rfl, hm13, r13, -, hl13, hb13⟩
  have B13 := kide (B11.out.trans (hb13.mono B11.out.size))
  have H13 := kide (H11.out.later hb13)
  have Q13 := kide (Q11.out.later hb13)
  have HIM := kide (implMust_any (some ⟨g13, 0, none⟩) n n m13 w13 r13 (len_of_pc hm13 HN.out) hl13)
  rw [hm13] at HIM
  clear hb13 hm13 r13 hl13 H11 Q11
  go_wp2_with fail
  refine Calls.mono HIM.out ?_
  rintro e w14 ⟨v14, l14, rfl, ho14, hl14, hw14, -, hb14⟩
  have B14 := kide (B13.out.trans (hb14.mono B13.out.size))
  have H14 := kide (H13.out.later hb14)
  have Q14 := kide (Q13.out.later hb14)
  have P14 := kide (Bars.of ho14 hw14)
  have e143 : l14.map Yg.ct = l3.map Yg.ct := by rw [hl14, L3.out]
  have en14 : l14.length = N := by rw [← EN.out]; simpa using (congrArg List.length (e143.trans E53.out.symm))
  obtain ⟨a14, c14, rfl⟩ := ho14.form
  rw [en14] at P14
  rw [en14]
  have E143 := kide e143
  have EN14 := kide en14
  clear hb14 ho14 hl14 hw14 e143 en14 HIM H13 Q13
  go_wp2_with fail
  refine Calls.mono (eqBars P14.out Q14.out E143.out EN14.out hln3) ?_
  rintro e w15 ⟨rfl, hb15⟩
  have B15 := kide (B14.out.trans (hb15.mono B14.out.size))
  have H15 := kide (H14.out.later hb15)
  clear hb15 H14 Q14 P14
  go_wp2_with fail
  refine Calls.mono (HHD.out _ H15.out) ?_
  rintro e w16 ⟨rfl, hw16⟩
  obtain rfl := hw16.symm
  go_wp2_with fail
  go_ret
  exact ⟨rfl, B15.out⟩

theorem law_no_FnExactMustBars (b : Option Addr) (c n : Nat) (w : World) (Z : Int) (hZ : Z < 0)
    (HSZ : Hid (∀ u, Below w.heap.size w u → Calls Try.prog 5 #[.slice b n c, .int .i64 1048576] u fun e w' => e = .returned (.int .i64 Z) ∧ Below u.heap.size u w')) :
    Calls Try.prog 3 #[.slice b n c] w fun e w' => e = .returned (.bool true) ∧ Below w.heap.size w w' := by
  go_enter Try.func3, Try.ntmps3
  go_wp2_with fail
  refine Calls.mono (HSZ.out _ (Below.refl _ _)) ?_
  rintro e w1 ⟨rfl, hb1⟩
  go_wp2_with fail
  go_ret
  exact ⟨rfl, hb1⟩

theorem walk_FnExactMustBars (b : Option Addr) (n c : Nat) (hn : n ≤ 9223372036854775807) (w : World)
    (hy : n ≤ 1048576 → ∃ hs : List Ph, hs.length = n ∧ RdPh w b hs ∧ ∀ h ∈ hs, SplitOf w h) :
    Calls Try.prog 3 #[.slice b n c] w fun e w' => e = .returned (.bool true) ∧ Below w.heap.size w w' := by
  by_cases h : (n : Int) ≤ 1048576
  · obtain ⟨hs, rfl, hh, hk⟩ := hy (by omega)
    have hr := szPl_range hs (1048576 - hs.length) (by omega)
    have HSZ := kide (fun u (hu : Below w.heap.size w u) => szSplitS_in b c hs 1048576 u (hh.later hu) (by omega) (by omega) h)
    by_cases hz : szPl hs (1048576 - hs.length) < 0
    · exact law_no_FnExactMustBars b c _ w _ hz HSZ
    · obtain ⟨xs, hxl, hxs⟩ := RdP_of hh hk (L := 1048576 - hs.length) (by omega) (by omega) (by omega)
      exact law_yes_FnExactMustBars b c _ xs w hxs hxl _ (by omega) HSZ
  · exact law_no_FnExactMustBars b c n w (-1) (by omega) (fun u hu => (szSplitS_out b n c 1048576 u (by omega) (by omega) hn h).mono (fun e w' hh => ⟨hh.1, by rw [hh.2]; exact Below.refl _ _⟩))


end Go.Proofs.Ytddgldfjeklhbaa
