/- The law FnReasons returns true, whatever it is handed. -/
import Derived.Test.YtakicdlfolhhcaaREK
import Derived.Test.YtakicdlfolhhcaaREL
import Derived.Handy
namespace Go.Proofs.Ytakicdlfolhhcaa
set_option linter.unusedVariables false
set_option linter.unusedSimpArgs false
open Go.RowKit

theorem hasI_any (a : Option Addr) (c : Nat) (ks : List Int) (x : Int) (w : World) (hr : RdI w a ks) :
    Calls Try.prog 36 #[.slice a ks.length c, .int .i64 x] w fun e w' => e = .returned (.bool (decide (x ∈ ks))) ∧ w' = w := by
  have hlen := hr.1
  go_enter Try.func36, Try.ntmps36
  go_wp2_with fail
  go_loop [5] (fun i => ∃ k : Nat, k ≤ ks.length ∧ i = .int .i64 (k : Int) ∧ ∀ j, j < k → ks.getD j 0 ≠ x) (fun i => ks.length - (intOf i).toNat)
  case atStart => exact ⟨0, Nat.zero_le _, rfl, fun j h => by omega⟩
  case round =>
    obtain ⟨k, hk, rfl, hz⟩ := hrel
    have HZ := kide hz
    by_cases hlt : k < ks.length
    · obtain ⟨-, -, h | ⟨b, o, rfl, hc⟩⟩ := hr
      · subst h; simp at hlt
      have e0 := hc k hlt
      have hmem : ks.getD k 0 ∈ ks := by simp [List.getD, hlt]
      generalize hy : ks.getD k 0 = y at *
      have HY := kide hy
      have i0 : (k : Int) < (ks.length : Int) := by omega
      clear hc hz hy
      by_cases hxy : y = x
      · have e1 : (y == x) = true := by simp [hxy]
        have HR : Hid (decide (x ∈ ks) = true) := decide_eq_true (by rw [← hxy]; exact hmem)
        clear hxy hmem
        go_wp2_with fail
        go_ret
        exact ⟨ret_bool HR.out.symm, rfl⟩
      · have e1 : (y == x) = false := by simp [hxy]
        have HX := kide hxy
        clear hxy hmem
        go_wp2_with fail
        go_round
        case rel =>
          refine ⟨k + 1, by omega, by go_num, fun j hj => ?_⟩
          by_cases hjk : j = k
          · rw [hjk, HY.out]; exact HX.out
          · exact HZ.out j (by omega)
        case measure => simp [intOf]; omega
    · have HR : Hid (decide (x ∈ ks) = false) := decide_eq_false (fun h => by
        obtain ⟨j, hj, e⟩ := List.mem_iff_getElem.1 h
        exact hz j (by omega) (by simp [List.getD, hj, e]))
      clear hz
      go_wp2_with fail
      go_ret
      exact ⟨ret_bool HR.out.symm, rfl⟩


theorem les_take {ls : List Lk} {ks : List Int} {i : Nat} {l : Lk} (h : ls[i]? = some l) : lesL (ls.take (i + 1)) ks = lesL (ls.take i) ks ++ (if l.2.2 ∈ ks then [l] else []) := by
  unfold lesL
  rw [List.take_add_one, h, List.filter_append]
  simp only [Option.toList, List.filter_cons, List.filter_nil]
  by_cases c : l.2.2 ∈ ks
  · rw [if_pos c, if_pos (by simpa using c)]
  · rw [if_neg c, if_neg (by simpa using c)]
theorem les_len (ls : List Lk) (ks : List Int) : (lesL ls ks).length ≤ ls.length := List.length_filter_le _ _

set_option maxHeartbeats 2000000 in
set_option maxRecDepth 100000 in
theorem law_FnReasons (a : Option Addr) (c n : Nat) (bs : List Nat) (w : World) (h : RdB w a bs) (hn : bs.length = n) (hn2 : n ≤ 1048576) :
    Calls Try.prog 10 #[.slice a n c] w fun e w' => e = .returned (.bool true) ∧ Below w.heap.size w w' := by
  have HBG := kide (big_any a n c w (by omega))
  have HDJ := kide (fun u (hu : Below w.heap.size w u) => drawReasons_any a c bs u (h.later hu))
  rw [hn] at HDJ
  have hi : ¬ 1048576 < n := by omega
  simp only [decide_eq_false hi] at HBG
  clear h hn
  go_enter Try.func10, Try.ntmps10
  go_wp2_with fail
  refine Calls.mono HBG.out ?_
  rintro e w1 ⟨rfl, hw1⟩
  obtain rfl := hw1.symm
  have B1 := kide (Below.refl w.heap.size w)
  clear hi HBG
  go_wp2_with fail
  refine Calls.mono (HDJ.out w B1.out) ?_
  rintro e w2 ⟨z, x, y, v, ls, rfl, hz, o2, hl2, hi2, hb2⟩
  obtain ⟨aF, cF, rfl⟩ := ok3_form o2
  have hl3 : ls.length ≤ 1048576 := by omega
  obtain ⟨a', c', e', hh⟩ := OK3.hold o2 hl3 hi2
  cases e'
  have hbx : Below w2.heap.size w2 (w2.alloc (Obj.cells #[.int .i64 z, .slice aF ls.length cF] 29)) := (Below.refl _ _).alloc (Nat.le_refl _) _
  have XF := kide (Bx.new w2 #[.int .i64 z, .slice aF ls.length cF] 29)
  have RF := kide (hh.rd.later hbx)
  have B2 := kide ((B1.out.trans (hb2.mono B1.out.size)).trans (hbx.mono (Nat.le_trans B1.out.size hb2.size)))
  obtain ⟨⟨ZL, Zb⟩, hZ, hR1, hR2⟩ := rea_ok z ls x y
  have HZ := kide hZ
  simp only [] at hR1 hR2
  have HSP := kide (fun (u : World) (hu : RdK u aF ls) => (specReasons_any z aF ls.length cF ls x y _ u hu rfl hZ).mono fun e w' h => h.hold hR1 hR2)
  have HIM := kide (fun (u : World) (hu : RdK u aF ls) => (implReasons_any z aF ls.length cF ls x y _ u hu rfl hZ).mono fun e w' h => h.hold hR1 hR2)
  have HRX := kide (fun (u : World) (al : Option Addr) (cl nl : Nat) (hu : RdK u al (lesL ls ZL)) (hl : (lesL ls ZL).length = nl) => implRoot_any z al nl cl (lesL ls ZL) x u hu hl)
  have HRY := kide (fun (u : World) (al : Option Addr) (cl nl : Nat) (hu : RdK u al (lesL ls ZL)) (hl : (lesL ls ZL).length = nl) => implRoot_any z al nl cl (lesL ls ZL) y u hu hl)
  obtain ⟨N, hN⟩ : ∃ N, ls.length = N := ⟨_, rfl⟩
  obtain ⟨NL, hNL⟩ : ∃ NL, ZL.length = NL := ⟨_, rfl⟩
  simp only [hN, hNL] at XF RF B2 HSP HIM ⊢
  have HN := kide hN
  have HNL := kide hNL
  have HI2 := kide hi2
  have hN64 : N ≤ 64 := by omega
  have hzz : (Zb != Zb) = false := by simp
  clear hb2 o2 hh B1 HDJ hbx hi2 hN hl3 hl2 hz hR1 hR2 hZ hNL
  go_wp2_with fail
  generalize w2.alloc (Obj.cells #[.int .i64 z, .slice aF N cF] 29) = w3 at *
  refine Calls.mono (HSP.out w3 RF.out) ?_
  rintro e w4 ⟨a4, c4, rfl, -, hb4⟩
  obtain ⟨F, hF⟩ : ∃ F, w2.heap.size = F := ⟨_, rfl⟩
  rw [hF] at XF ⊢
  have XF4 := kide (XF.out.later hb4)
  have RF4 := kide (RF.out.later hb4)
  have B4 := kide (B2.out.trans (hb4.mono B2.out.size))
  have p0 := XF4.out.cell 0
  have p1 := XF4.out.cell 1
  simp at p0 p1
  clear hb4 XF RF B2 HSP hF
  go_wp2_with fail
  refine Calls.mono (HIM.out w4 RF4.out) ?_
  rintro e w5 ⟨a5, c5, rfl, h5, hb5⟩
  have XF5 := kide (XF4.out.later hb5)
  have RF5 := kide (RF4.out.later hb5)
  have B5 := kide (B4.out.trans (hb5.mono B4.out.size))
  have H5 := kide h5
  have q0 := XF5.out.cell 0
  have q1 := XF5.out.cell 1
  simp at q0 q1
  clear hb5 h5 XF4 RF4 B4 p0 p1
  cases Zb with
  | false =>
    have hn0 : NL = 0 := by
      have := HZ.out.no (fun L hf hx hy e => by
        have := (HZ.out.yes L hf hx hy e).1
        simp at this)
      have e : ZL = [] := by simpa using this
      rw [← HNL.out, e]; rfl
    subst hn0
    go_wp2_with fail
    go_ret
    exact ⟨rfl, B5.out⟩
  | true =>
    obtain ⟨r, hr1, hr2⟩ := rea_less HZ.out rfl
    simp only [] at hr1 hr2
    have HR1 := kide hr1
    have HR2 := kide hr2
    have hFD := XF5.out.lt
    obtain ⟨D, hD⟩ : ∃ D, w5.heap.size = D := ⟨_, rfl⟩
    have XD : Hid (Bx (w5.alloc (Obj.cells #[Value.int .i64 z, Value.slice none 0 0] 29)) D #[Value.int .i64 z, Value.slice none 0 0] 29) := by
      have := Bx.new w5 #[Value.int .i64 z, Value.slice none 0 0] 29
      rwa [hD] at this
    have BD : Hid (Below D w5 (w5.alloc (Obj.cells #[Value.int .i64 z, Value.slice none 0 0] 29))) := (Below.refl _ _).alloc (by omega) _
    have HD := kide hD
    clear hr1 hr2
    go_wp2_with fail
    rw [HD.out] at hFD
    clear hD
    generalize w5.alloc (Obj.cells #[Value.int .i64 z, Value.slice none 0 0] 29) = wA at *
    go_loopw [11] (fun q wr => ∃ (k : Nat) (vr : Value), q = .int .i64 (k : Int) ∧ k ≤ N ∧ Bx wr D #[Value.int .i64 z, vr] 29 ∧ OK3 wr (D + 1) vr (lesL (ls.take k) ZL) ∧ Below D w5 wr) (fun q _ => N - (intOf q).toNat)
    case atStart => exact ⟨0, _, rfl, Nat.zero_le _, XD.out, ⟨rfl, .inl ⟨rfl, rfl⟩⟩, BD.out⟩
    case round =>
      obtain ⟨k, vr, rfl, hk, hxd, hor, hbw⟩ := hrel
      have XDr := kide hxd
      have ORr := kide hor
      have BWr := kide hbw
      clear hxd hor hbw XD BD
      have f1 : wr.cell? ⟨F, 1, none⟩ = some (Value.slice aF N cF) := by rw [BWr.out.cell (p := ⟨F, 1, none⟩) hFD]; exact q1
      by_cases hlt : k < N
      · have i0 : (k : Int) < (N : Int) := by omega
        obtain ⟨⟨lA, lB, lY⟩, hl⟩ : ∃ l, ls[k]? = some l := ⟨_, List.getElem?_eq_getElem (show k < ls.length by rw [HN.out]; exact hlt)⟩
        obtain ⟨-, -, h | ⟨b2, o2, rfl, hc⟩⟩ := RF5.out
        · rw [h] at hl; simp at hl
        obtain ⟨l0, l1, l2⟩ := hc k _ hl
        simp only [] at l0 l1 l2
        have hbD : b2 < D := by rw [← HD.out]; exact block_lt_of_cell l0
        have m2 : wr.cell? ⟨b2, o2 + k * 3 + 2, none⟩ = some (Value.int .i64 lY) := by rw [BWr.out.cell (p := ⟨b2, _, none⟩) hbD]; exact l2
        have HHAS : Hid (Calls Try.prog 36 #[.slice a5 NL c5, .int .i64 lY] wr fun e w' => e = .returned (.bool (decide (lY ∈ ZL))) ∧ w' = wr) := by
          have := hasI_any a5 c5 ZL lY wr (H5.out.rd.later (show Below w5.heap.size w5 wr by rw [HD.out]; exact BWr.out))
          rwa [HNL.out] at this
        have TK := kide (les_take (ks := ZL) hl)
        simp only [] at TK
        clear hc hl
        by_cases hin : lY ∈ ZL
        · rw [if_pos hin] at TK
          simp only [decide_eq_true hin] at HHAS
          clear hin
          go_wp2_with fail
          refine Calls.mono HHAS.out ?_
          rintro e wx ⟨rfl, rfl⟩
          have XDx := kide XDr.out
          have ORx := kide ORr.out
          have BWx := kide BWr.out
          go_wp2_with fail
          clear HHAS XDr ORr BWr f1 m2
          refine wp_region_x (SA := fun u => u.cell? ⟨D, 1, none⟩ = some vr ∧ u.cell? ⟨F, 1, none⟩ = some (Value.slice (some ⟨b2, o2, none⟩) N cF) ∧ u.cell? ⟨b2, o2 + k * 3, none⟩ = some (Value.int .i64 lA) ∧ u.cell? ⟨b2, o2 + k * 3 + 1, none⟩ = some (Value.int .i64 lB) ∧ u.cell? ⟨b2, o2 + k * 3 + 2, none⟩ = some (Value.int .i64 lY)) (SB := fun _ => True) (k := 10) (by kernel_rfl) ?_
          have hbd : Below wx.heap.size wx wx.drew := (Below.refl _ _).drew
          have XD0 := kide (XDx.out.later hbd)
          have OR0 := kide (own3_later ORx.out hbd)
          have BB0 := kide BWx.out.drew
          clear hbd
          generalize wx.drew = u0 at *
          have OLD : Hid (∀ u, Below D w5 u → u.cell? ⟨F, 1, none⟩ = some (Value.slice (some ⟨b2, o2, none⟩) N cF) ∧ u.cell? ⟨b2, o2 + k * 3, none⟩ = some (Value.int .i64 lA) ∧ u.cell? ⟨b2, o2 + k * 3 + 1, none⟩ = some (Value.int .i64 lB) ∧ u.cell? ⟨b2, o2 + k * 3 + 2, none⟩ = some (Value.int .i64 lY)) := fun u hu => ⟨by rw [hu.cell (p := ⟨F, 1, none⟩) hFD]; exact q1, by rw [hu.cell (p := ⟨b2, _, none⟩) hbD]; exact l0, by rw [hu.cell (p := ⟨b2, _, none⟩) hbD]; exact l1, by rw [hu.cell (p := ⟨b2, _, none⟩) hbD]; exact l2⟩
          have hs0 : Hid ((fun u => u.cell? ⟨D, 1, none⟩ = some vr ∧ u.cell? ⟨F, 1, none⟩ = some (Value.slice (some ⟨b2, o2, none⟩) N cF) ∧ u.cell? ⟨b2, o2 + k * 3, none⟩ = some (Value.int .i64 lA) ∧ u.cell? ⟨b2, o2 + k * 3 + 1, none⟩ = some (Value.int .i64 lB) ∧ u.cell? ⟨b2, o2 + k * 3 + 2, none⟩ = some (Value.int .i64 lY)) u0) := ⟨XD0.out.cell 1, OLD.out _ BB0.out⟩
          try go_simp
          refine wpAnyX_both (T := fun _ => True) (i := 0) (v := Value.pointer (some ⟨D, 1, none⟩)) rfl (by kernel_rfl) (by kernel_rfl) (by kernel_rfl) (fun _ _ _ h => h) (by decide) (fun _ _ => trivial) (fun _ _ => trivial) (Sx.before (by kernel_rfl) hs0.out) (Or.inl ⟨by rfl, fun u hu => by go_simp⟩) ?_
          try go_simp
          refine wpAnyX_take (i := 1) (v := vr) rfl (by kernel_rfl) (by kernel_rfl) (by kernel_rfl) (fun _ _ _ h => h) (by decide) (by kernel_rfl) (by kernel_rfl) hs0.out (Or.inl ⟨by rfl, fun u hu => by obtain ⟨e1, e2, e3, e4, e5⟩ := hu; go_simp⟩) ?_
          try go_simp
          refine wpAnyX_both (T := fun _ => True) (i := 2) (v := Value.pointer (some ⟨F, 1, none⟩)) rfl (by kernel_rfl) (by kernel_rfl) (by kernel_rfl) (fun _ _ _ h => h) (by decide) (fun _ _ => trivial) (fun _ _ => trivial) (Sx.before (by kernel_rfl) hs0.out) (Or.inl ⟨by rfl, fun u hu => by go_simp⟩) ?_
          try go_simp
          refine wpAnyX_take (i := 3) (v := Value.slice (some ⟨b2, o2, none⟩) N cF) rfl (by kernel_rfl) (by kernel_rfl) (by kernel_rfl) (fun _ _ _ h => h) (by decide) (by kernel_rfl) (by kernel_rfl) hs0.out (Or.inl ⟨by rfl, fun u hu => by obtain ⟨e1, e2, e3, e4, e5⟩ := hu; go_simp⟩) ?_
          try go_simp
          refine wpAnyX_both (T := fun _ => True) (i := 4) (v := Value.int .i64 (k : Int)) rfl (by kernel_rfl) (by kernel_rfl) (by kernel_rfl) (fun _ _ _ h => h) (by decide) (fun _ _ => trivial) (fun _ _ => trivial) (Sx.before (by kernel_rfl) hs0.out) (Or.inl ⟨by rfl, fun u hu => by go_simp⟩) ?_
          try go_simp
          refine wpAnyX_both (T := fun _ => True) (i := 5) (v := Value.pointer (some ⟨b2, o2 + k * 3, none⟩)) rfl (by kernel_rfl) (by kernel_rfl) (by kernel_rfl) (fun _ _ _ h => h) (by decide) (fun _ _ => trivial) (fun _ _ => trivial) (Sx.before (by kernel_rfl) hs0.out) (Or.inl ⟨by rfl, fun u hu => by go_simp⟩) ?_
          try go_simp
          refine wpAnyX_take (i := 6) (v := Value.agg #[Value.int .i64 lA, Value.int .i64 lB, Value.int .i64 lY]) rfl (by kernel_rfl) (by kernel_rfl) (by kernel_rfl) (fun _ _ _ h => h) (by decide) (by kernel_rfl) (by kernel_rfl) hs0.out (Or.inl ⟨by rfl, fun u hu => by obtain ⟨e1, e2, e3, e4, e5⟩ := hu; go_simp⟩) ?_
          try go_simp
          refine wpAnyX_ready (rs := [7]) (by kernel_rfl) (by simp) (AllX.cons rfl (fun K hK => ?_) AllX.nil)
          go_simp
          have hbx : Below u0.heap.size u0 (u0.alloc (Obj.cells #[Value.int .i64 lA, Value.int .i64 lB, Value.int .i64 lY] 55)) := (Below.refl _ _).alloc (Nat.le_refl _) _
          have XD1 := kide (XD0.out.later hbx)
          have OR1 := kide (own3_later OR0.out hbx)
          have YB := kide (Bx.new u0 #[Value.int .i64 lA, Value.int .i64 lB, Value.int .i64 lY] 55)
          have BB1 : Hid (Below D w5 (u0.alloc (Obj.cells #[Value.int .i64 lA, Value.int .i64 lB, Value.int .i64 lY] 55))) := BB0.out.alloc (by have := XD0.out.lt; omega) _
          have hz1 : D < (u0.alloc (Obj.cells #[Value.int .i64 lA, Value.int .i64 lB, Value.int .i64 lY] 55)).heap.size := XD1.out.lt
          obtain ⟨b7, hb7⟩ : ∃ x, u0.heap.size = x := ⟨_, rfl⟩
          rw [hb7] at YB ⊢
          clear hb7 hbx
          generalize u0.alloc (Obj.cells #[Value.int .i64 lA, Value.int .i64 lB, Value.int .i64 lY] 55) = u1 at *
          have hs1 : Hid ((fun u => u.cell? ⟨D, 1, none⟩ = some vr ∧ u.cell? ⟨F, 1, none⟩ = some (Value.slice (some ⟨b2, o2, none⟩) N cF) ∧ u.cell? ⟨b2, o2 + k * 3, none⟩ = some (Value.int .i64 lA) ∧ u.cell? ⟨b2, o2 + k * 3 + 1, none⟩ = some (Value.int .i64 lB) ∧ u.cell? ⟨b2, o2 + k * 3 + 2, none⟩ = some (Value.int .i64 lY)) u1) := ⟨XD1.out.cell 1, OLD.out _ BB1.out⟩
          refine hK _ _ (Sx.before (by kernel_rfl) hs1.out) ?_
          clear hK K
          try go_simp
          refine wpAnyX_ready (rs := [8]) (by kernel_rfl) (by simp) (AllX.cons rfl (fun K hK => ?_) AllX.nil)
          refine step_appL _ rfl _ _ rfl (D + 1) vr (lesL (ls.take k) ZL) (lA, lB, lY) (by first | rfl | simp [Act.eval]) OR1.out b7 1 (by first | rfl | simp [Act.eval]) (YB.out.cell 0) (YB.out.cell 1) (YB.out.cell 2) (by have := les_len (ls.take k) ZL; simp at this; omega) (by omega) ?_
          intro g8 c8 N8 u2 ho2 hg2
          have XD2 := kide (XD1.out.far3 OR1.out hg2 (by decide))
          have OR2 := kide ho2
          have BB2 := kide (Below.grown BB1.out hg2 (by omega) (fun j hj => by have := (own3_lt OR1.out hj).1; omega))
          clear ho2 hg2
          have hs2 : Hid ((fun u => u.cell? ⟨D, 1, none⟩ = some vr ∧ u.cell? ⟨F, 1, none⟩ = some (Value.slice (some ⟨b2, o2, none⟩) N cF) ∧ u.cell? ⟨b2, o2 + k * 3, none⟩ = some (Value.int .i64 lA) ∧ u.cell? ⟨b2, o2 + k * 3 + 1, none⟩ = some (Value.int .i64 lB) ∧ u.cell? ⟨b2, o2 + k * 3 + 2, none⟩ = some (Value.int .i64 lY)) u2) := ⟨XD2.out.cell 1, OLD.out _ BB2.out⟩
          refine hK _ _ (Sx.before (by kernel_rfl) hs2.out) ?_
          clear hK K
          try go_simp
          refine wpAnyX_both (T := fun _ => True) (i := 9) (v := Value.pointer (some ⟨D, 1, none⟩)) rfl (by kernel_rfl) (by kernel_rfl) (by kernel_rfl) (fun _ _ _ h => h) (by decide) (fun _ _ => trivial) (fun _ _ => trivial) (Sx.before (by kernel_rfl) hs2.out) (Or.inl ⟨by rfl, fun u hu => by go_simp⟩) ?_
          try go_simp
          refine wpAnyX_ready (rs := [10]) (by kernel_rfl) (by simp) (AllX.cons rfl (fun K hK => ?_) AllX.nil)
          have e9 := XD2.out.cell 1
          have f9 := XD2.out.froz 1
          simp at e9
          go_simp
          have XD3 := kide (XD2.out.set 1 (Value.slice (some ⟨g8, 0, none⟩) N8 c8))
          have OR3 := kide (own3_set OR2.out XD2.out (by decide) (o := 1) (Value.slice (some ⟨g8, 0, none⟩) N8 c8))
          have BB3 : Hid (Below D w5 (u2.setCell ⟨D, 1, none⟩ (Value.slice (some ⟨g8, 0, none⟩) N8 c8))) := BB2.out.setCell (Nat.le_refl _) _
          generalize u2.setCell ⟨D, 1, none⟩ (Value.slice (some ⟨g8, 0, none⟩) N8 c8) = u3 at *
          refine hK _ _ (Sx.behind (by kernel_rfl) trivial) ?_
          clear hK K
          clear e9 f9
          try go_simp
          refine wpAnyX_done (by kernel_rfl) ?_ _
          skip
          go_wp2_with fail
          go_roundw
          case rel => exact ⟨k + 1, _, by go_num, by omega, XD3.out, by rw [TK.out]; exact OR3.out, BB3.out⟩
          case measure => simp [intOf]; omega
        · rw [if_neg hin, List.append_nil] at TK
          simp only [decide_eq_false hin] at HHAS
          clear hin
          go_wp2_with fail
          refine Calls.mono HHAS.out ?_
          rintro e wx ⟨rfl, rfl⟩
          go_wp2_with fail
          go_roundw
          case rel => exact ⟨k + 1, vr, by go_num, by omega, XDr.out, by rw [TK.out]; exact ORr.out, BWr.out⟩
          case measure => simp [intOf]; omega
      · have hke : k = N := by omega
        have hl2 : ¬ (k : Int) < (N : Int) := by omega
        have hfu : lesL (ls.take k) ZL = lesL ls ZL := by rw [List.take_of_length_le (by rw [HN.out]; omega)]
        have ho := ORr.out
        rw [hfu] at ho
        obtain ⟨al, cl, rfl, hh⟩ := OK3.hold ho (by have := les_len ls ZL; have := HN.out; omega) (fun l hl => HI2.out l (List.mem_filter.1 hl).1)
        obtain ⟨nl, hnl⟩ : ∃ nl, (lesL ls ZL).length = nl := ⟨_, rfl⟩
        rw [hnl] at hh XDr
        have RK := kide hh.rd
        have HX : Hid (∀ u, Below wr.heap.size wr u → Calls Try.prog 17 #[.agg #[.int .i64 z, .slice al nl cl], .int .i64 x] u fun e w' => e = .returned (.int .i64 (r : Int)) ∧ Below u.heap.size u w') := fun u hu => by
          have := HRX.out u al cl nl (RK.out.later hu) hnl
          rwa [HR1.out] at this
        have HY : Hid (∀ u, Below wr.heap.size wr u → Calls Try.prog 17 #[.agg #[.int .i64 z, .slice al nl cl], .int .i64 y] u fun e w' => e = .returned (.int .i64 (r : Int)) ∧ Below u.heap.size u w') := fun u hu => by
          have := HRY.out u al cl nl (RK.out.later hu) hnl
          rwa [HR2.out] at this
        have g0 := XDr.out.cell 0
        have g1 := XDr.out.cell 1
        simp at g0 g1
        have BX : Hid (Below w.heap.size w wr) := B5.out.trans (BWr.out.mono (by have := B5.out.size; rw [HD.out] at this; exact this))
        have hrr : ((r : Int) == (r : Int)) = true := by simp
        have hr0 : (r : Int) ≥ 0 := by omega
        clear hfu ho hh hlt hke
        go_wp2_with fail
        go_region_held3 (fun u => u.cell? ⟨D, 0, none⟩ = some (Value.int .i64 z) ∧ u.cell? ⟨D, 1, none⟩ = some (Value.slice al nl cl)) (first | assumption | (refine ⟨?_, ?_⟩ <;> assumption) | simp [*])
          (first
            | (go_at_call 17; refine Calls.mono (HX.out w7 B7.out) ?_; rintro e w8 ⟨rfl, hb8⟩; have B8 := kide (B7.out.trans (hb8.mono B7.out.size)); have j0 : w8.cell? ⟨D, 0, none⟩ = some (Value.int .i64 z) := (B8.out.cell (p := ⟨D, 0, none⟩) XDr.out.lt).trans g0; have j1 : w8.cell? ⟨D, 1, none⟩ = some (Value.slice al nl cl) := (B8.out.cell (p := ⟨D, 1, none⟩) XDr.out.lt).trans g1; clear hb8)
            | (go_at_call 17; refine Calls.mono (HY.out w6 B6.out) ?_; rintro e w7 ⟨rfl, hb7⟩; have B7 := kide (B6.out.trans (hb7.mono B6.out.size)); have i0 : w7.cell? ⟨D, 0, none⟩ = some (Value.int .i64 z) := (B7.out.cell (p := ⟨D, 0, none⟩) XDr.out.lt).trans g0; have i1 : w7.cell? ⟨D, 1, none⟩ = some (Value.slice al nl cl) := (B7.out.cell (p := ⟨D, 1, none⟩) XDr.out.lt).trans g1; clear hb7)
            | (go_at_call 17; refine Calls.mono (HX.out wr.drew (Below.refl _ _).drew) ?_; rintro e w6 ⟨rfl, hb6⟩; have B6 := kide (kundrew hb6); have h0 : w6.cell? ⟨D, 0, none⟩ = some (Value.int .i64 z) := (B6.out.cell (p := ⟨D, 0, none⟩) XDr.out.lt).trans g0; have h1 : w6.cell? ⟨D, 1, none⟩ = some (Value.slice al nl cl) := (B6.out.cell (p := ⟨D, 1, none⟩) XDr.out.lt).trans g1; clear hb6))
        go_wp2_with fail
        go_ret
        exact ⟨rfl, BX.out.trans (B8.out.mono BX.out.size)⟩

theorem law_no_FnReasons (a : Option Addr) (c n : Nat) (w : World) (hn : n ≤ 9223372036854775807) (hi : ¬ n ≤ 1048576) :
    Calls Try.prog 10 #[.slice a n c] w fun e w' => e = .returned (.bool true) ∧ Below w.heap.size w w' := by
  have HBG := kide (big_any a n c w hn)
  have hi2 : 1048576 < n := by omega
  simp only [decide_eq_true hi2] at HBG
  go_enter Try.func10, Try.ntmps10
  go_wp2_with fail
  refine Calls.mono HBG.out ?_
  rintro e w1 ⟨rfl, hw1⟩
  obtain rfl := hw1.symm
  go_wp2_with fail
  go_ret
  exact ⟨rfl, Below.refl _ _⟩

theorem walk_FnReasons (a : Option Addr) (n c : Nat) (hn : n ≤ 9223372036854775807) (w : World) (hx : n ≤ 1048576 → ∃ bs : List Nat, bs.length = n ∧ RdB w a bs) :
    Calls Try.prog 10 #[.slice a n c] w fun e w' => e = .returned (.bool true) ∧ Below w.heap.size w w' := by
  by_cases h : n ≤ 1048576
  · obtain ⟨bs, hl, hr⟩ := hx h
    exact law_FnReasons a c n bs w hr hl h
  · exact law_no_FnReasons a c n w hn h

end Go.Proofs.Ytakicdlfolhhcaa
