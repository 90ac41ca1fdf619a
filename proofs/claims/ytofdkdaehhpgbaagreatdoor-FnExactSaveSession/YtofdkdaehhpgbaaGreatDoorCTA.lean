/- A term copied: the specification's l14CopyTerm. -/
import Derived.Test.YtofdkdaehhpgbaaGreatDoorZTN
import Derived.Test.YtofdkdaehhpgbaaGreatDoorZTS
import Derived.Handy
namespace Go.Proofs.YtofdkdaehhpgbaaGreatDoor
set_option linter.unusedVariables false
set_option linter.unusedSimpArgs false
open Go.RowKit

/-- Rows that have no place have no room. -/
def Sn (xs : List Tg) : Prop := ∀ x ∈ xs, (x.wa = none → x.wc = 0) ∧ (x.ka = none → x.kc = 0)

/-- A copy of a term, in new memory. -/
def RetCt (xs : List Tg) (n : Nat) (w : World) (e : Ending) (w' : World) : Prop := ∃ a2 c2 l, e = .returned (.agg #[.slice a2 n c2]) ∧ Ts w' w.heap.size (.slice a2 n c2) l ∧ l.map Tg.ct = xs.map Tg.ct ∧ Below w.heap.size w w'

set_option maxHeartbeats 4000000 in
set_option maxRecDepth 100000 in
theorem l14Copy_any (a : Option Addr) (n c : Nat) (xs : List Tg) (w : World) (hr : RdT w a xs) (hn : xs.length = n) (hS : Sn xs) :
    Calls Tryz.prog 77 #[.agg #[.slice a n c]] w (RetCt xs n w) := by
  have hl := hr.1
  rw [hn] at hl
  have HR := kide (fun u (hu : Below w.heap.size w u) => hr.later hu)
  have HN := kide hn
  have HS := kide hS
  have hb3 : Below w.heap.size w (((w.alloc (Obj.cells #[Value.slice a n c] 66)).alloc (Obj.cells #[Value.slice none 0 0] 66)).alloc (Obj.cells #[Value.slice none 0 0] 66)) := (((Below.refl _ _).alloc (Nat.le_refl _) _).alloc (by simp) _).alloc (by simp; omega) _
  have KB := kide hb3
  have XT : Hid (Bz (((w.alloc (Obj.cells #[Value.slice a n c] 66)).alloc (Obj.cells #[Value.slice none 0 0] 66)).alloc (Obj.cells #[Value.slice none 0 0] 66)) w.heap.size #[Value.slice a n c] 66) := Bz.later (Bz.later (Bz.new w _ _) ((Below.refl _ _).alloc (Nat.le_refl _) _)) ((Below.refl _ _).alloc (Nat.le_refl _) _)
  have XR : Hid (Bz (((w.alloc (Obj.cells #[Value.slice a n c] 66)).alloc (Obj.cells #[Value.slice none 0 0] 66)).alloc (Obj.cells #[Value.slice none 0 0] 66)) (w.heap.size + 1) #[Value.slice none 0 0] 66) := by
    have h := Bz.later (Bz.new (w.alloc (Obj.cells #[Value.slice a n c] 66)) #[Value.slice none 0 0] 66) ((Below.refl _ _).alloc (Nat.le_refl _) (Obj.cells #[Value.slice none 0 0] 66))
    show Bz _ _ _ _
    simpa using h
  have XO : Hid (Bz (((w.alloc (Obj.cells #[Value.slice a n c] 66)).alloc (Obj.cells #[Value.slice none 0 0] 66)).alloc (Obj.cells #[Value.slice none 0 0] 66)) (w.heap.size + 1 + 1) #[Value.slice none 0 0] 66) := by
    have h := Bz.new ((w.alloc (Obj.cells #[Value.slice a n c] 66)).alloc (Obj.cells #[Value.slice none 0 0] 66)) #[Value.slice none 0 0] 66
    show Bz _ _ _ _
    simpa using h
  have BB : Hid (w.heap.size + 3 ≤ (((w.alloc (Obj.cells #[Value.slice a n c] 66)).alloc (Obj.cells #[Value.slice none 0 0] 66)).alloc (Obj.cells #[Value.slice none 0 0] 66)).heap.size) := by show _ ≤ _; simp
  clear hr hn hS hb3
  go_enter Tryz.func77, Tryz.ntmps77
  go_wp2_with fail
  generalize (((w.alloc (Obj.cells #[Value.slice a n c] 66)).alloc (Obj.cells #[Value.slice none 0 0] 66)).alloc (Obj.cells #[Value.slice none 0 0] 66)) = W at *
  obtain ⟨b0, hb0⟩ : ∃ b0, w.heap.size = b0 := ⟨_, rfl⟩
  rw [hb0] at XT XR XO BB
  simp only [hb0]
  have HB0 := kide hb0
  clear hb0
  go_loopw [4] (fun q wr => ∃ (j : Nat) (va : Option Addr) (vc : Nat) (l : List Tg), j ≤ n ∧ q = .int .i64 (j : Int) ∧ l.length = j ∧ Bz wr (b0 + 1 + 1) #[Value.slice va j vc] 66 ∧ Bz wr b0 #[Value.slice a n c] 66 ∧ Bz wr (b0 + 1) #[Value.slice none 0 0] 66 ∧ Ts wr (b0 + 3) (.slice va j vc) l ∧ l.map Tg.ct = (xs.take j).map Tg.ct ∧ Below w.heap.size w wr ∧ b0 + 3 ≤ wr.heap.size) (fun q _ => n - (intOf q).toNat)
  case atStart => exact ⟨0, none, 0, [], Nat.zero_le _, rfl, rfl, XO.out, XT.out, XR.out, Ts.nil _ _, rfl, KB.out, BB.out⟩
  case round =>
    obtain ⟨j, va, vc, l, hj, rfl, hll, xo, xt, xr, ts, hct, kb, bb⟩ := hrel
    clear XO XT XR KB BB
    have XO := kide xo
    have XT := kide xt
    have XR := kide xr
    have TS := kide ts
    have KB := kide kb
    have BB := kide bb
    have HLL := kide hll
    have t0 : wr.cell? ⟨b0, 0, none⟩ = some (Value.slice a n c) := xt.cell 0
    have u0 : wr.cell? ⟨b0 + 1 + 1, 0, none⟩ = some (Value.slice va j vc) := xo.cell 0
    by_cases hlt : j < n
    · obtain ⟨x, gx⟩ : ∃ x, xs[j]? = some x := ⟨xs[j]'(by rw [HN.out]; exact hlt), List.getElem?_eq_getElem _⟩
      obtain ⟨hw0, hk0⟩ := HS.out x (List.mem_of_getElem? gx)
      have hct2 : ∀ y : Tg, y.ct = x.ct → (l ++ [y]).map Tg.ct = (xs.take (j + 1)).map Tg.ct := fun y hy => by
        rw [List.take_add_one, gx, List.map_append, List.map_append, hct]
        simp [hy]
      obtain ⟨b1, o1, rfl, HRN⟩ : ∃ b1 o1, a = some ⟨b1, o1, none⟩ ∧ Hid (∀ u, Below w.heap.size w u → TgAt u b1 (o1 + j * 7) x) := by
        obtain ⟨-, h | ⟨b1, o1, rfl, -⟩⟩ := HR.out w (Below.refl _ _)
        · rw [h] at gx; simp at gx
        · refine ⟨b1, o1, rfl, fun u hu => ?_⟩
          obtain ⟨-, h | ⟨b2, o2, e2, hc⟩⟩ := HR.out u hu
          · rw [h] at gx; simp at gx
          · cases e2
            exact hc j x gx
      obtain ⟨⟨op, vr, aa, bb', bw, ws, ks⟩, wa, wc, ka, kc⟩ := x
      simp only [TgAt, Tg.hd, ThAt] at HRN hw0 hk0 hct2
      obtain ⟨nw, hnw⟩ : ∃ nw, ws.length = nw := ⟨_, rfl⟩
      obtain ⟨nk, hnk⟩ : ∃ nk, ks.length = nk := ⟨_, rfl⟩
      have HNW := kide hnw
      have HNK := kide hnk
      have HCN : Hid (∀ u, Below w.heap.size w u → Calls Tryz.prog 98 #[.agg #[Value.int .i64 op, Value.int .i64 vr, Value.int .i64 aa, Value.int .i64 bb', Value.int .i64 bw, Value.slice wa nw wc, Value.slice ka nk kc]] u (RetCp op vr aa bb' bw ws ks nw nk u)) := fun u hu => by
        have := l3CopyNode_any ⟨op, vr, aa, bb', bw, ws, ks⟩ wa ka wc kc u (HRN.out u hu).2.1 (HRN.out u hu).2.2.1 hw0 hk0
        simp only [hnw, hnk] at this
        exact this
      have HCT := kide hct2
      rw [hnw, hnk] at HRN
      have i0 : (j : Int) < (n : Int) := by omega
      obtain ⟨r0, r1, r2, r3, r4, r5, r6⟩ := (HRN.out wr kb).1
      clear hct2 hct xo xt xr ts kb bb gx hw0 hk0 hnw hnk hll
      generalize bb' = bb at *
      go_wp2_with fail
      clear t0 u0 r0 r1 r2 r3 r4 r5 r6
      refine wp_region_x (SA := fun uu => uu.cell? ⟨b0 + 1 + 1, 0, none⟩ = some (Value.slice va j vc) ∧ uu.cell? ⟨b0, 0, none⟩ = some (Value.slice (some ⟨b1, o1, none⟩) n c) ∧ uu.cell? ⟨b1, o1 + j * 7, none⟩ = some (Value.int .i64 op) ∧ uu.cell? ⟨b1, o1 + j * 7 + 1, none⟩ = some (Value.int .i64 vr) ∧ uu.cell? ⟨b1, o1 + j * 7 + 2, none⟩ = some (Value.int .i64 aa) ∧ uu.cell? ⟨b1, o1 + j * 7 + 3, none⟩ = some (Value.int .i64 bb) ∧ uu.cell? ⟨b1, o1 + j * 7 + 4, none⟩ = some (Value.int .i64 bw) ∧ uu.cell? ⟨b1, o1 + j * 7 + 5, none⟩ = some (Value.slice wa nw wc) ∧ uu.cell? ⟨b1, o1 + j * 7 + 6, none⟩ = some (Value.slice ka nk kc)) (SB := fun _ => True) (k := 11) (by kernel_rfl) ?_
      have hbd : Below wr.heap.size wr wr.drew := (Below.refl _ _).drew
      have XO0 := kide (XO.out.later hbd)
      have XT0 := kide (XT.out.later hbd)
      have XR0 := kide (XR.out.later hbd)
      have TS0 := kide (TS.out.later hbd)
      have KB0 := kide (KB.out.trans (hbd.mono KB.out.size))
      have BB0 : Hid (b0 + 3 ≤ wr.drew.heap.size) := Nat.le_trans BB.out hbd.size
      clear hbd XO XT XR TS KB BB
      generalize wr.drew = q0 at *
      have c0_0 : q0.cell? ⟨b0 + 1 + 1, 0, none⟩ = some (Value.slice va j vc) := XO0.out.cell 0
      have c1_0 : q0.cell? ⟨b0, 0, none⟩ = some (Value.slice (some ⟨b1, o1, none⟩) n c) := XT0.out.cell 0
      obtain ⟨c2_0, c3_0, c4_0, c5_0, c6_0, c7_0, c8_0⟩ := (HRN.out q0 KB0.out).1
      have hs0 : Hid ((fun uu => uu.cell? ⟨b0 + 1 + 1, 0, none⟩ = some (Value.slice va j vc) ∧ uu.cell? ⟨b0, 0, none⟩ = some (Value.slice (some ⟨b1, o1, none⟩) n c) ∧ uu.cell? ⟨b1, o1 + j * 7, none⟩ = some (Value.int .i64 op) ∧ uu.cell? ⟨b1, o1 + j * 7 + 1, none⟩ = some (Value.int .i64 vr) ∧ uu.cell? ⟨b1, o1 + j * 7 + 2, none⟩ = some (Value.int .i64 aa) ∧ uu.cell? ⟨b1, o1 + j * 7 + 3, none⟩ = some (Value.int .i64 bb) ∧ uu.cell? ⟨b1, o1 + j * 7 + 4, none⟩ = some (Value.int .i64 bw) ∧ uu.cell? ⟨b1, o1 + j * 7 + 5, none⟩ = some (Value.slice wa nw wc) ∧ uu.cell? ⟨b1, o1 + j * 7 + 6, none⟩ = some (Value.slice ka nk kc)) q0) := ⟨c0_0, c1_0, c2_0, c3_0, c4_0, c5_0, c6_0, c7_0, c8_0⟩
      try go_simp
      refine wpAnyX_both (T := fun _ => True) (i := 0) (v := Value.pointer (some ⟨b0 + 1 + 1, 0, none⟩)) rfl (by kernel_rfl) (by kernel_rfl) (by kernel_rfl) (fun _ _ _ h => by first | exact h | exact h.elim) (by decide) (fun _ _ => trivial) (fun _ _ => trivial) (Sx.before (by kernel_rfl) hs0.out) (Or.inl ⟨by rfl, fun uu hu => by go_simp⟩) ?_
      try go_simp
      refine wpAnyX_take (i := 1) (v := Value.slice va j vc) rfl (by kernel_rfl) (by kernel_rfl) (by kernel_rfl) (fun _ _ _ h => by first | exact h | exact h.elim) (by decide) (by kernel_rfl) (by kernel_rfl) hs0.out (Or.inl ⟨by rfl, fun uu hu => by obtain ⟨e0, e1, e2, e3, e4, e5, e6, e7, e8⟩ := hu; go_simp⟩) ?_
      try go_simp
      refine wpAnyX_both (T := fun _ => True) (i := 2) (v := Value.pointer (some ⟨b0, 0, none⟩)) rfl (by kernel_rfl) (by kernel_rfl) (by kernel_rfl) (fun _ _ _ h => by first | exact h | exact h.elim) (by decide) (fun _ _ => trivial) (fun _ _ => trivial) (Sx.before (by kernel_rfl) hs0.out) (Or.inl ⟨by rfl, fun uu hu => by go_simp⟩) ?_
      try go_simp
      refine wpAnyX_take (i := 3) (v := Value.slice (some ⟨b1, o1, none⟩) n c) rfl (by kernel_rfl) (by kernel_rfl) (by kernel_rfl) (fun _ _ _ h => by first | exact h | exact h.elim) (by decide) (by kernel_rfl) (by kernel_rfl) hs0.out (Or.inl ⟨by rfl, fun uu hu => by obtain ⟨e0, e1, e2, e3, e4, e5, e6, e7, e8⟩ := hu; go_simp⟩) ?_
      try go_simp
      refine wpAnyX_both (T := fun _ => True) (i := 4) (v := Value.int .i64 (j : Int)) rfl (by kernel_rfl) (by kernel_rfl) (by kernel_rfl) (fun _ _ _ h => by first | exact h | exact h.elim) (by decide) (fun _ _ => trivial) (fun _ _ => trivial) (Sx.before (by kernel_rfl) hs0.out) (Or.inl ⟨by rfl, fun uu hu => by go_simp⟩) ?_
      try go_simp
      refine wpAnyX_both (T := fun _ => True) (i := 5) (v := Value.pointer (some ⟨b1, o1 + j * 7, none⟩)) rfl (by kernel_rfl) (by kernel_rfl) (by kernel_rfl) (fun _ _ _ h => by first | exact h | exact h.elim) (by decide) (fun _ _ => trivial) (fun _ _ => trivial) (Sx.before (by kernel_rfl) hs0.out) (Or.inl ⟨by rfl, fun uu hu => by go_simp⟩) ?_
      try go_simp
      refine wpAnyX_take (i := 6) (v := Value.agg #[Value.int .i64 op, Value.int .i64 vr, Value.int .i64 aa, Value.int .i64 bb, Value.int .i64 bw, Value.slice wa nw wc, Value.slice ka nk kc]) rfl (by kernel_rfl) (by kernel_rfl) (by kernel_rfl) (fun _ _ _ h => by first | exact h | exact h.elim) (by decide) (by kernel_rfl) (by kernel_rfl) hs0.out (Or.inl ⟨by rfl, fun uu hu => by obtain ⟨e0, e1, e2, e3, e4, e5, e6, e7, e8⟩ := hu; go_simp⟩) ?_
      try go_simp
      refine wpAnyX_ready (rs := [7]) (by kernel_rfl) (by simp) (AllX.cons rfl (fun K hK => ?_) AllX.nil)
      go_simp
      refine Calls.mono (HCN.out _ KB0.out) ?_
      rintro e q1 ⟨a7, c7, a8, c8, rfl, hn7, hn8, hb7⟩
      have XO1 := kide (XO0.out.later hb7)
      have XT1 := kide (XT0.out.later hb7)
      have XR1 := kide (XR0.out.later hb7)
      have TS1 := kide (TS0.out.later hb7)
      have KB1 := kide (KB0.out.trans (hb7.mono KB0.out.size))
      have BB1 := kide (Nat.le_trans BB0.out hb7.size)
      have NW1 := kide hn7
      have NI1 := kide hn8
      have HNN := kide TS0.out.below
      have HNB : Hid (b0 + 3 ≤ q0.heap.size) := BB0.out
      obtain ⟨N, hN⟩ : ∃ N, q0.heap.size = N := ⟨_, rfl⟩
      rw [hN] at NW1 NI1 HNN HNB
      have HNQ : Hid (N ≤ q1.heap.size) := by show _ ≤ _; rw [← hN]; exact hb7.size
      clear hn7 hn8 hb7 hN
      have c0_1 : q1.cell? ⟨b0 + 1 + 1, 0, none⟩ = some (Value.slice va j vc) := XO1.out.cell 0
      have c1_1 : q1.cell? ⟨b0, 0, none⟩ = some (Value.slice (some ⟨b1, o1, none⟩) n c) := XT1.out.cell 0
      obtain ⟨c2_1, c3_1, c4_1, c5_1, c6_1, c7_1, c8_1⟩ := (HRN.out q1 KB1.out).1
      have hs1 : Hid ((fun uu => uu.cell? ⟨b0 + 1 + 1, 0, none⟩ = some (Value.slice va j vc) ∧ uu.cell? ⟨b0, 0, none⟩ = some (Value.slice (some ⟨b1, o1, none⟩) n c) ∧ uu.cell? ⟨b1, o1 + j * 7, none⟩ = some (Value.int .i64 op) ∧ uu.cell? ⟨b1, o1 + j * 7 + 1, none⟩ = some (Value.int .i64 vr) ∧ uu.cell? ⟨b1, o1 + j * 7 + 2, none⟩ = some (Value.int .i64 aa) ∧ uu.cell? ⟨b1, o1 + j * 7 + 3, none⟩ = some (Value.int .i64 bb) ∧ uu.cell? ⟨b1, o1 + j * 7 + 4, none⟩ = some (Value.int .i64 bw) ∧ uu.cell? ⟨b1, o1 + j * 7 + 5, none⟩ = some (Value.slice wa nw wc) ∧ uu.cell? ⟨b1, o1 + j * 7 + 6, none⟩ = some (Value.slice ka nk kc)) q1) := ⟨c0_1, c1_1, c2_1, c3_1, c4_1, c5_1, c6_1, c7_1, c8_1⟩
      refine hK _ _ (Sx.before (by kernel_rfl) hs1.out) ?_
      clear hK K
      try go_simp
      refine wpAnyX_ready (rs := [8]) (by kernel_rfl) (by simp) (AllX.cons rfl (fun K hK => ?_) AllX.nil)
      go_simp
      have hbx : Below q1.heap.size q1 (q1.alloc (Obj.cells #[Value.int .i64 op, Value.int .i64 vr, Value.int .i64 aa, Value.int .i64 bb, Value.int .i64 bw, Value.slice a7 nw c7, Value.slice a8 nk c8] 108)) := (Below.refl _ _).alloc (Nat.le_refl _) _
      have XN2 := kide (Bz.new q1 #[Value.int .i64 op, Value.int .i64 vr, Value.int .i64 aa, Value.int .i64 bb, Value.int .i64 bw, Value.slice a7 nw c7, Value.slice a8 nk c8] 108)
      have XO2 := kide (XO1.out.later hbx)
      have XT2 := kide (XT1.out.later hbx)
      have XR2 := kide (XR1.out.later hbx)
      have TS2 := kide (TS1.out.later hbx)
      have KB2 := kide (KB1.out.trans (hbx.mono KB1.out.size))
      have BB2 := kide (Nat.le_trans BB1.out hbx.size)
      have NW2 := kide (NW1.out.later hbx)
      have NI2 := kide (NI1.out.later hbx)
      obtain ⟨gn, hgn⟩ : ∃ x, q1.heap.size = x := ⟨_, rfl⟩
      rw [hgn] at XN2
      simp only [hgn]
      clear hbx hgn
      generalize q1.alloc (Obj.cells #[Value.int .i64 op, Value.int .i64 vr, Value.int .i64 aa, Value.int .i64 bb, Value.int .i64 bw, Value.slice a7 nw c7, Value.slice a8 nk c8] 108) = q2 at *
      have c0_2 : q2.cell? ⟨b0 + 1 + 1, 0, none⟩ = some (Value.slice va j vc) := XO2.out.cell 0
      have c1_2 : q2.cell? ⟨b0, 0, none⟩ = some (Value.slice (some ⟨b1, o1, none⟩) n c) := XT2.out.cell 0
      obtain ⟨c2_2, c3_2, c4_2, c5_2, c6_2, c7_2, c8_2⟩ := (HRN.out q2 KB2.out).1
      have hs2 : Hid ((fun uu => uu.cell? ⟨b0 + 1 + 1, 0, none⟩ = some (Value.slice va j vc) ∧ uu.cell? ⟨b0, 0, none⟩ = some (Value.slice (some ⟨b1, o1, none⟩) n c) ∧ uu.cell? ⟨b1, o1 + j * 7, none⟩ = some (Value.int .i64 op) ∧ uu.cell? ⟨b1, o1 + j * 7 + 1, none⟩ = some (Value.int .i64 vr) ∧ uu.cell? ⟨b1, o1 + j * 7 + 2, none⟩ = some (Value.int .i64 aa) ∧ uu.cell? ⟨b1, o1 + j * 7 + 3, none⟩ = some (Value.int .i64 bb) ∧ uu.cell? ⟨b1, o1 + j * 7 + 4, none⟩ = some (Value.int .i64 bw) ∧ uu.cell? ⟨b1, o1 + j * 7 + 5, none⟩ = some (Value.slice wa nw wc) ∧ uu.cell? ⟨b1, o1 + j * 7 + 6, none⟩ = some (Value.slice ka nk kc)) q2) := ⟨c0_2, c1_2, c2_2, c3_2, c4_2, c5_2, c6_2, c7_2, c8_2⟩
      refine hK _ _ (Sx.before (by kernel_rfl) hs2.out) ?_
      clear hK K
      try go_simp
      refine wpAnyX_ready (rs := [9]) (by kernel_rfl) (by simp) (AllX.cons rfl (fun K hK => ?_) AllX.nil)
      have HTA : Hid (ThAt q2 gn 0 ((⟨⟨op, vr, aa, bb, bw, ws, ks⟩, a7, c7, a8, c8⟩ : Tg)).hd) := ⟨XN2.out.cell 0, XN2.out.cell 1, XN2.out.cell 2, XN2.out.cell 3, XN2.out.cell 4, (XN2.out.cell 5).trans (by rw [← HNW.out]; rfl), (XN2.out.cell 6).trans (by rw [← HNK.out]; rfl)⟩
      refine step_appT7 _ rfl _ _ rfl (b0 + 3) (Value.slice va j vc) l (⟨⟨op, vr, aa, bb, bw, ws, ks⟩, a7, c7, a8, c8⟩ : Tg) (by first | rfl | simp [Act.eval]) TS2.out.row gn 1 (by first | rfl | simp [Act.eval]) HTA.out (by rw [HLL.out]; omega) BB2.out ?_
      intro g7 c9 q3 ho hg hat
      rw [HLL.out] at ho ⊢
      have TS3 := kide (TS2.out.app (Below.refl _ _) HNB.out HNN.out NW2.out NI2.out hg ho)
      have HVB : ∀ b, (Value.slice va j vc).ownBlock = some b → b0 + 3 ≤ b := fun b hb => (TS2.out.row.lt hb).1
      have XO3 : Hid (Bz q3 (b0 + 1 + 1) #[Value.slice va j vc] 66) := (hg.block _ XO2.out.lt (fun e => by have := HVB _ e.symm; omega)).trans XO2.out
      have XT3 : Hid (Bz q3 b0 #[Value.slice (some ⟨b1, o1, none⟩) n c] 66) := (hg.block _ XT2.out.lt (fun e => by have := HVB _ e.symm; omega)).trans XT2.out
      have XR3 : Hid (Bz q3 (b0 + 1) #[Value.slice none 0 0] 66) := (hg.block _ XR2.out.lt (fun e => by have := HVB _ e.symm; omega)).trans XR2.out
      have KB3 := kide (Below.grown KB2.out hg KB2.out.size (fun b hb => by have := HVB b hb; have := HB0.out; omega))
      have BB3 : Hid (b0 + 3 ≤ q3.heap.size) := Nat.le_trans BB2.out hg.size
      clear ho hg hat HTA HVB
      have c0_3 : q3.cell? ⟨b0 + 1 + 1, 0, none⟩ = some (Value.slice va j vc) := XO3.out.cell 0
      have c1_3 : q3.cell? ⟨b0, 0, none⟩ = some (Value.slice (some ⟨b1, o1, none⟩) n c) := XT3.out.cell 0
      obtain ⟨c2_3, c3_3, c4_3, c5_3, c6_3, c7_3, c8_3⟩ := (HRN.out q3 KB3.out).1
      have hs3 : Hid ((fun uu => uu.cell? ⟨b0 + 1 + 1, 0, none⟩ = some (Value.slice va j vc) ∧ uu.cell? ⟨b0, 0, none⟩ = some (Value.slice (some ⟨b1, o1, none⟩) n c) ∧ uu.cell? ⟨b1, o1 + j * 7, none⟩ = some (Value.int .i64 op) ∧ uu.cell? ⟨b1, o1 + j * 7 + 1, none⟩ = some (Value.int .i64 vr) ∧ uu.cell? ⟨b1, o1 + j * 7 + 2, none⟩ = some (Value.int .i64 aa) ∧ uu.cell? ⟨b1, o1 + j * 7 + 3, none⟩ = some (Value.int .i64 bb) ∧ uu.cell? ⟨b1, o1 + j * 7 + 4, none⟩ = some (Value.int .i64 bw) ∧ uu.cell? ⟨b1, o1 + j * 7 + 5, none⟩ = some (Value.slice wa nw wc) ∧ uu.cell? ⟨b1, o1 + j * 7 + 6, none⟩ = some (Value.slice ka nk kc)) q3) := ⟨c0_3, c1_3, c2_3, c3_3, c4_3, c5_3, c6_3, c7_3, c8_3⟩
      refine hK _ _ (Sx.before (by kernel_rfl) hs3.out) ?_
      clear hK K
      try go_simp
      refine wpAnyX_both (T := fun _ => True) (i := 10) (v := Value.pointer (some ⟨b0 + 1 + 1, 0, none⟩)) rfl (by kernel_rfl) (by kernel_rfl) (by kernel_rfl) (fun _ _ _ h => by first | exact h | exact h.elim) (by decide) (fun _ _ => trivial) (fun _ _ => trivial) (Sx.before (by kernel_rfl) hs3.out) (Or.inl ⟨by rfl, fun uu hu => by go_simp⟩) ?_
      try go_simp
      refine wpAnyX_ready (rs := [11]) (by kernel_rfl) (by simp) (AllX.cons rfl (fun K hK => ?_) AllX.nil)
      have e0 : q3.cell? ⟨b0 + 1 + 1, 0, none⟩ = some (Value.slice va j vc) := XO3.out.cell 0
      have f0 := XO3.out.froz 0
      go_simp
      have XO4 : Hid (Bz (q3.setCell ⟨b0 + 1 + 1, 0, none⟩ (Value.slice (some ⟨g7, 0, none⟩) (j + 1) c9)) (b0 + 1 + 1) #[Value.slice (some ⟨g7, 0, none⟩) (j + 1) c9] 66) := XO3.out.set 0 _
      have XT4 : Hid (Bz (q3.setCell ⟨b0 + 1 + 1, 0, none⟩ (Value.slice (some ⟨g7, 0, none⟩) (j + 1) c9)) b0 #[Value.slice (some ⟨b1, o1, none⟩) n c] 66) := XT3.out.other (by omega) 0 _
      have XR4 : Hid (Bz (q3.setCell ⟨b0 + 1 + 1, 0, none⟩ (Value.slice (some ⟨g7, 0, none⟩) (j + 1) c9)) (b0 + 1) #[Value.slice none 0 0] 66) := XR3.out.other (by omega) 0 _
      have TS4 : Hid (Ts (q3.setCell ⟨b0 + 1 + 1, 0, none⟩ (Value.slice (some ⟨g7, 0, none⟩) (j + 1) c9)) (b0 + 3) (Value.slice (some ⟨g7, 0, none⟩) (j + 1) c9) (l ++ [(⟨⟨op, vr, aa, bb, bw, ws, ks⟩, a7, c7, a8, c8⟩ : Tg)])) := ⟨TS3.out.row.move (fun b hb => heap_setCell_other _ _ _ _ (fun e => by have := (TS3.out.row.lt hb).1; simp at e; omega)), fun x hx => nw_set (TS3.out.wn x hx) XO3.out (by decide) 0 _, fun x hx => ni_set (TS3.out.kn x hx) XO3.out (by decide) 0 _, TS3.out.wd, TS3.out.kd⟩
      have KB4 : Hid (Below w.heap.size w (q3.setCell ⟨b0 + 1 + 1, 0, none⟩ (Value.slice (some ⟨g7, 0, none⟩) (j + 1) c9))) := KB3.out.setCell (by have := HB0.out; simp; omega) _
      have BB4 : Hid (b0 + 3 ≤ (q3.setCell ⟨b0 + 1 + 1, 0, none⟩ (Value.slice (some ⟨g7, 0, none⟩) (j + 1) c9)).heap.size) := by show _ ≤ _; have := BB3.out; simp; omega
      clear e0 f0
      generalize q3.setCell ⟨b0 + 1 + 1, 0, none⟩ (Value.slice (some ⟨g7, 0, none⟩) (j + 1) c9) = q4 at *
      refine hK _ _ (Sx.behind (by kernel_rfl) trivial) ?_
      clear hK K
      try go_simp
      refine wpAnyX_done (by kernel_rfl) ?_ _
      go_wp2_with fail
      go_roundw
      case rel => exact ⟨j + 1, some ⟨g7, 0, none⟩, c9, l ++ [(⟨⟨op, vr, aa, bb, bw, ws, ks⟩, a7, c7, a8, c8⟩ : Tg)], by omega, by go_num, by rw [List.length_append, HLL.out]; rfl, XO4.out, XT4.out, XR4.out, TS4.out, HCT.out _ rfl, KB4.out, BB4.out⟩
      case measure => simp [intOf]; omega
    · have e : j = n := by omega
      have HCT : Hid (l.map Tg.ct = xs.map Tg.ct) := by show _ = _; rw [hct, List.take_of_length_le (by rw [HN.out]; omega)]
      have v0 : wr.cell? ⟨b0 + 1, 0, none⟩ = some (Value.slice none 0 0) := xr.cell 0
      have f0 := xr.froz 0
      subst e
      clear hct xo xt xr ts kb bb hll
      go_wp2_with fail
      refine bodyPost_ret (v := .agg #[.slice va j vc]) (by simp [results, Tryz.results77, go_sem, v0, f0]) rfl ?_
      have tf : Ts (wr.setCell ⟨b0 + 1, 0, none⟩ (Value.slice va j vc)) (b0 + 3) (.slice va j vc) l := ⟨TS.out.row.move (fun b hb => heap_setCell_other _ _ _ _ (fun e => by have := (TS.out.row.lt hb).1; simp at e; omega)), fun x hx => nw_set (TS.out.wn x hx) XR.out (by decide) 0 _, fun x hx => ni_set (TS.out.kn x hx) XR.out (by decide) 0 _, TS.out.wd, TS.out.kd⟩
      exact ⟨va, vc, l, rfl, tf.mono (by have := HB0.out; omega), HCT.out, KB.out.setCell (by have := HB0.out; simp; omega) _⟩

end Go.Proofs.YtofdkdaehhpgbaaGreatDoor
