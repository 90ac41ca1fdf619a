/- A term copied: the program's copyTerm. -/
import Derived.Test.YtofdkdaehhpgbaaGreatDoorZTN
import Derived.Test.YtofdkdaehhpgbaaGreatDoorZTS
import Derived.Test.YtofdkdaehhpgbaaGreatDoorCTA
import Derived.Handy
namespace Go.Proofs.YtofdkdaehhpgbaaGreatDoor
set_option linter.unusedVariables false
set_option linter.unusedSimpArgs false
open Go.RowKit

set_option maxHeartbeats 4000000 in
set_option maxRecDepth 100000 in
theorem copyTerm_any (a : Option Addr) (n c : Nat) (xs : List Tg) (w : World) (hr : RdT w a xs) (hn : xs.length = n) (hS : Sn xs) :
    Calls Tryz.prog 83 #[.agg #[.slice a n c]] w (RetCt xs n w) := by
  have hl := hr.1
  rw [hn] at hl
  have HR := kide (fun u (hu : Below w.heap.size w u) => hr.later hu)
  have HN := kide hn
  have HS := kide hS
  have hb3 : Below w.heap.size w (((w.alloc (Obj.cells #[Value.slice a n c] 66)).alloc (Obj.cells #[Value.slice none 0 0] 66)).alloc (Obj.cells #[Value.slice none 0 0] 66)) := (((Below.refl _ _).alloc (Nat.le_refl _) _).alloc (by simp) _).alloc (by simp; omega) _
  have KB := kide hb3
  have XT : Hid (Bz (((w.alloc (Obj.cells #[Value.slice a n c] 66)).alloc (Obj.cells #[Value.slice none 0 0] 66)).alloc (Obj.cells #[Value.slice none 0 0] 66)) w.heap.size #[Value.slice a n c] 66) := Bz.later (Bz.later (Bz.new w _ _) ((Below.refl _ _).alloc (Nat.le_refl _) _)) ((Below.refl _ _).alloc (Nat.le_refl _) _)
  have XR : Hid (Bz (((w.alloc (Obj.cells #[Value.slice a n c] 66)).alloc (Obj.cells #[Value.slice none 0 0] 66)).alloc (Obj.cells #[Value.slice none 0 0] 66)) (w.heap.size + 1) #[Value.slice none 0 0] 66) := by
    have h := Bz.later (Bz.new (w.alloc (Obj.cells #[Value.slice a n c] 66)) #[Value.slice none 0 0] 66) ((Below.refl _ _).alloc (Nat.le_refl _) (Obj.cells #[Value.slice none 0 0] 66))
    show Bz _ _ _ _
    simpa using h
  have XO : Hid (Bz (((w.alloc (Obj.cells #[Value.slice a n c] 66)).alloc (Obj.cells #[Value.slice none 0 0] 66)).alloc (Obj.cells #[Value.slice none 0 0] 66)) (w.heap.size + 1 + 1) #[Value.slice none 0 0] 66) := by
    have h := Bz.new ((w.alloc (Obj.cells #[Value.slice a n c] 66)).alloc (Obj.cells #[Value.slice none 0 0] 66)) #[Value.slice none 0 0] 66
    show Bz _ _ _ _
    simpa using h
  have BB : Hid (w.heap.size + 3 ≤ (((w.alloc (Obj.cells #[Value.slice a n c] 66)).alloc (Obj.cells #[Value.slice none 0 0] 66)).alloc (Obj.cells #[Value.slice none 0 0] 66)).heap.size) := by show _ ≤ _; simp
  clear hr hn hS hb3
  go_enter Tryz.func83, Tryz.ntmps83
  go_wp2_with fail
  generalize (((w.alloc (Obj.cells #[Value.slice a n c] 66)).alloc (Obj.cells #[Value.slice none 0 0] 66)).alloc (Obj.cells #[Value.slice none 0 0] 66)) = W at *
  obtain ⟨b0, hb0⟩ : ∃ b0, w.heap.size = b0 := ⟨_, rfl⟩
  rw [hb0] at XT XR XO BB
  simp only [hb0]
  have HB0 := kide hb0
  clear hb0
  go_loopw [9] (fun q wr => ∃ (j : Nat) (va : Option Addr) (vc : Nat) (l : List Tg), j ≤ n ∧ q = .int .i64 (j : Int) ∧ l.length = j ∧ Bz wr (b0 + 1 + 1) #[Value.slice va j vc] 66 ∧ Bz wr b0 #[Value.slice a n c] 66 ∧ Bz wr (b0 + 1) #[Value.slice none 0 0] 66 ∧ Ts wr (b0 + 3) (.slice va j vc) l ∧ l.map Tg.ct = (xs.take j).map Tg.ct ∧ Below w.heap.size w wr ∧ b0 + 3 ≤ wr.heap.size) (fun q _ => n - (intOf q).toNat)
  case atStart => exact ⟨0, none, 0, [], Nat.zero_le _, rfl, rfl, XO.out, XT.out, XR.out, Ts.nil _ _, rfl, KB.out, BB.out⟩
  case round =>
    obtain ⟨j, va, vc, l, hj, rfl, hll, xo, xt, xr, ts, hct, kb, bb⟩ := hrel
    clear XO XT XR KB BB
    have XO := kide xo
    have XT := kide xt
    have XR := kide xr
    have TS := kide ts
    have KB := kide kb
    have BB := kide bb
    have HLL := kide hll
    have t0 : wr.cell? ⟨b0, 0, none⟩ = some (Value.slice a n c) := xt.cell 0
    have u0 : wr.cell? ⟨b0 + 1 + 1, 0, none⟩ = some (Value.slice va j vc) := xo.cell 0
    by_cases hlt : j < n
    · obtain ⟨x, gx⟩ : ∃ x, xs[j]? = some x := ⟨xs[j]'(by rw [HN.out]; exact hlt), List.getElem?_eq_getElem _⟩
      obtain ⟨hw0, hk0⟩ := HS.out x (List.mem_of_getElem? gx)
      have hct2 : ∀ y : Tg, y.ct = x.ct → (l ++ [y]).map Tg.ct = (xs.take (j + 1)).map Tg.ct := fun y hy => by
        rw [List.take_add_one, gx, List.map_append, List.map_append, hct]
        simp [hy]
      obtain ⟨b1, o1, rfl, HRN⟩ : ∃ b1 o1, a = some ⟨b1, o1, none⟩ ∧ Hid (∀ u, Below w.heap.size w u → TgAt u b1 (o1 + j * 7) x) := by
        obtain ⟨-, h | ⟨b1, o1, rfl, -⟩⟩ := HR.out w (Below.refl _ _)
        · rw [h] at gx; simp at gx
        · refine ⟨b1, o1, rfl, fun u hu => ?_⟩
          obtain ⟨-, h | ⟨b2, o2, e2, hc⟩⟩ := HR.out u hu
          · rw [h] at gx; simp at gx
          · cases e2
            exact hc j x gx
      obtain ⟨⟨op, vr, aa, bb', bw, ws, ks⟩, wa, wc, ka, kc⟩ := x
      simp only [TgAt, Tg.hd, ThAt] at HRN hw0 hk0 hct2
      obtain ⟨nw, hnw⟩ : ∃ nw, ws.length = nw := ⟨_, rfl⟩
      obtain ⟨nk, hnk⟩ : ∃ nk, ks.length = nk := ⟨_, rfl⟩
      have HNW := kide hnw
      have HNK := kide hnk
      have HCT := kide hct2
      have HWW := kide (fun u (hu : Below w.heap.size w u) => (HRN.out u hu).2.1)
      have HKK := kide (fun u (hu : Below w.heap.size w u) => (HRN.out u hu).2.2.1)
      rw [hnw, hnk] at HRN
      have HW0 := kide hw0
      have HK0 := kide hk0
      have i0 : (j : Int) < (n : Int) := by omega
      obtain ⟨r0, r1, r2, r3, r4, r5, r6⟩ := (HRN.out wr kb).1
      clear hct2 hct xo xt xr ts kb bb gx hw0 hk0 hnw hnk hll
      generalize bb' = bb at *
      have hlw : nw ≤ 1048576 := by rw [← HNW.out]; exact (HWW.out w (Below.refl _ _)).1
      have hlk : nk ≤ 1048576 := by rw [← HNK.out]; exact (HKK.out w (Below.refl _ _)).1
      obtain ⟨Bn, hBn⟩ : ∃ Bn, wr.heap.size = Bn := ⟨_, rfl⟩
      have hbx : Below wr.heap.size wr (wr.alloc (.cells #[Value.int .i64 op, Value.int .i64 vr, Value.int .i64 aa, Value.int .i64 bb, Value.int .i64 bw, Value.slice wa nw wc, Value.slice ka nk kc] 108)) := (Below.refl _ _).alloc (Nat.le_refl _) _
      have XN1 := kide (Bz.new wr #[Value.int .i64 op, Value.int .i64 vr, Value.int .i64 aa, Value.int .i64 bb, Value.int .i64 bw, Value.slice wa nw wc, Value.slice ka nk kc] 108)
      have XO1 := kide (XO.out.later hbx)
      have XT1 := kide (XT.out.later hbx)
      have XR1 := kide (XR.out.later hbx)
      have TS1 := kide (TS.out.later hbx)
      have KB1 := kide (KB.out.trans (hbx.mono KB.out.size))
      have BB1 := kide (Nat.le_trans BB.out hbx.size)
      rw [hBn] at XN1
      have HBn : Hid (b0 + 3 ≤ Bn) := by show _ ≤ _; rw [← hBn]; exact BB.out
      have HNN := kide TS.out.below
      have HRB : Hid (∀ b, b = Bn → (Value.slice va j vc).ownBlock = some b → False) := fun b e hb => by have := (TS.out.row.lt hb).2; omega
      rw [hBn] at HNN
      go_wp2_with fail
      try simp only [hBn]
      have HBN := kide hBn
      clear t0 u0 r0 r1 r2 r3 r4 r5 r6 hBn hbx XO XT XR TS KB BB
      have HBW : Hid (Bn < (wr.alloc (.cells #[Value.int .i64 op, Value.int .i64 vr, Value.int .i64 aa, Value.int .i64 bb, Value.int .i64 bw, Value.slice wa nw wc, Value.slice ka nk kc] 108)).heap.size) := XN1.out.lt
      generalize wr.alloc (.cells #[Value.int .i64 op, Value.int .i64 vr, Value.int .i64 aa, Value.int .i64 bb, Value.int .i64 bw, Value.slice wa nw wc, Value.slice ka nk kc] 108) = w1 at *
      refine Calls.mono (copyW bw wa wc nw ws w1 (HWW.out w1 KB1.out) HNW.out HW0.out) ?_
      rintro e w2 ⟨a7, c7, rfl, hn7, hb2⟩
      have XN2 := kide (XN1.out.later hb2)
      have XO2 := kide (XO1.out.later hb2)
      have XT2 := kide (XT1.out.later hb2)
      have XR2 := kide (XR1.out.later hb2)
      have TS2 := kide (TS1.out.later hb2)
      have KB2 := kide (KB1.out.trans (hb2.mono KB1.out.size))
      have BB2 := kide (Nat.le_trans BB1.out hb2.size)
      have NW2 : Hid (Nw w2 Bn a7 ws) := hn7.mono (Nat.le_of_lt HBW.out)
      have HBW2 : Hid (Bn < w2.heap.size) := XN2.out.lt
      have n4 := XN2.out.cell 4
      have n5 := XN2.out.cell 5
      have n6 := XN2.out.cell 6
      have f4 := XN2.out.froz 4
      have f5 := XN2.out.froz 5
      simp at n4 n5 n6
      have XN3 := kide ((XN2.out.set 4 (.int .i64 bw)).set 5 (.slice a7 nw c7))
      simp at XN3
      clear hn7 hb2 XN1 XO1 XT1 XR1 TS1 KB1 BB1 HBW
      have XO3 : Hid (Bz ((w2.setCell ⟨Bn, 4, none⟩ (Value.int .i64 bw)).setCell ⟨Bn, 5, none⟩ (Value.slice a7 nw c7)) (b0 + 1 + 1) #[Value.slice va j vc] 66) := (XO2.out.other (by have := HBn.out; omega) 4 _).other (by have := HBn.out; omega) 5 _
      have XT3 : Hid (Bz ((w2.setCell ⟨Bn, 4, none⟩ (Value.int .i64 bw)).setCell ⟨Bn, 5, none⟩ (Value.slice a7 nw c7)) b0 #[Value.slice (some ⟨b1, o1, none⟩) n c] 66) := (XT2.out.other (by have := HBn.out; omega) 4 _).other (by have := HBn.out; omega) 5 _
      have XR3 : Hid (Bz ((w2.setCell ⟨Bn, 4, none⟩ (Value.int .i64 bw)).setCell ⟨Bn, 5, none⟩ (Value.slice a7 nw c7)) (b0 + 1) #[Value.slice none 0 0] 66) := (XR2.out.other (by have := HBn.out; omega) 4 _).other (by have := HBn.out; omega) 5 _
      have KB3 : Hid (Below w.heap.size w ((w2.setCell ⟨Bn, 4, none⟩ (Value.int .i64 bw)).setCell ⟨Bn, 5, none⟩ (Value.slice a7 nw c7))) := (KB2.out.setCell (by have := HB0.out; have := HBn.out; simp; omega) _).setCell (by have := HB0.out; have := HBn.out; simp; omega) _
      have BB3 : Hid (b0 + 3 ≤ ((w2.setCell ⟨Bn, 4, none⟩ (Value.int .i64 bw)).setCell ⟨Bn, 5, none⟩ (Value.slice a7 nw c7)).heap.size) := by show _ ≤ _; have := BB2.out; simp; omega
      have NW3 : Hid (Nw ((w2.setCell ⟨Bn, 4, none⟩ (Value.int .i64 bw)).setCell ⟨Bn, 5, none⟩ (Value.slice a7 nw c7)) Bn a7 ws) := nw_set (nw_set NW2.out XN2.out (by decide) 4 _) (XN2.out.set 4 _) (by decide) 5 _
      have TS3 : Hid (Ts ((w2.setCell ⟨Bn, 4, none⟩ (Value.int .i64 bw)).setCell ⟨Bn, 5, none⟩ (Value.slice a7 nw c7)) (b0 + 3) (.slice va j vc) l) := ⟨(TS2.out.row.move (fun b hb => heap_setCell_other _ _ _ _ (fun e => HRB.out b (by simpa using e) hb))).move (fun b hb => heap_setCell_other _ _ _ _ (fun e => HRB.out b (by simpa using e) hb)), fun x hx => nw_set (nw_set (TS2.out.wn x hx) XN2.out (by decide) 4 _) (XN2.out.set 4 _) (by decide) 5 _, fun x hx => ni_set (ni_set (TS2.out.kn x hx) XN2.out (by decide) 4 _) (XN2.out.set 4 _) (by decide) 5 _, TS2.out.wd, TS2.out.kd⟩
      have HSZ3 : Hid (((w2.setCell ⟨Bn, 4, none⟩ (Value.int .i64 bw)).setCell ⟨Bn, 5, none⟩ (Value.slice a7 nw c7)).heap.size = w2.heap.size) := by show _ = _; simp
      have HAPP := kide (HKK.out _ KB3.out)
      have hnn := HK0.out
      go_wp2_with (at_builtin; refine wpList_appIr _ rfl _ _ rfl w2.heap.size (.slice none 0 0) [] ks rfl (show OI _ w2.heap.size (.slice none 0 0) [] from ⟨rfl, .inl ⟨rfl, rfl⟩⟩) ka kc (by rw [HNK.out]; first | rfl | simp [Act.eval]) HK0.out HAPP.out (by have := HNK.out; simp; omega) (by rw [HSZ3.out]; exact Nat.le_refl _) ?_)
      intro v4 w4 hov hg4
      have hb4 : Below w2.heap.size ((w2.setCell ⟨Bn, 4, none⟩ (Value.int .i64 bw)).setCell ⟨Bn, 5, none⟩ (Value.slice a7 nw c7)) w4 := by
        have h := Below.grown (Below.refl _ _) hg4 (Nat.le_refl _) (fun j hj => by cases hj)
        rwa [HSZ3.out] at h
      rw [← HSZ3.out] at hb4
      obtain ⟨a8, c8, rfl, hni⟩ := hov.ni
      have XN4 := kide (XN3.out.later hb4)
      have XO4 := kide (XO3.out.later hb4)
      have XT4 := kide (XT3.out.later hb4)
      have XR4 := kide (XR3.out.later hb4)
      have TS4 := kide (TS3.out.later hb4)
      have NW4 := kide (NW3.out.later hb4)
      have KB4 := kide (KB3.out.trans (hb4.mono KB3.out.size))
      have BB4 := kide (Nat.le_trans BB3.out hb4.size)
      have NI4 : Hid (Ni w4 Bn a8 ks) := hni.mono (Nat.le_of_lt HBW2.out)
      rw [HNK.out]
      clear hb4 hov hg4 hni XN3 XO3 XT3 XR3 TS3 NW3 KB3 BB3 HAPP HSZ3 XN2 XO2 XT2 XR2 TS2 NW2 KB2 BB2 HBW2 n4 n5 n6 f4 f5 hnn
      have n6 := XN4.out.cell 6
      have f6 := XN4.out.froz 6
      have d0 := XN4.out.cell 0
      have d1 := XN4.out.cell 1
      have d2 := XN4.out.cell 2
      have d3 := XN4.out.cell 3
      have d4 := XN4.out.cell 4
      have d5 := XN4.out.cell 5
      have o0 := XO4.out.cell 0
      have ln4 := XN4.out.lt
      have lo4 := XO4.out.lt
      have hne : b0 + 1 + 1 ≠ Bn := by have := HBn.out; omega
      simp at n6 d0 d1 d2 d3 d4 d5 o0
      have XN5 : Hid (Bz (w4.setCell ⟨Bn, 6, none⟩ (Value.slice a8 nk c8)) Bn #[Value.int .i64 op, Value.int .i64 vr, Value.int .i64 aa, Value.int .i64 bb, Value.int .i64 bw, Value.slice a7 nw c7, Value.slice a8 nk c8] 108) := by
        have h := XN4.out.set 6 (.slice a8 nk c8)
        show Bz _ _ _ _
        simpa using h
      have XO5 : Hid (Bz (w4.setCell ⟨Bn, 6, none⟩ (Value.slice a8 nk c8)) (b0 + 1 + 1) #[Value.slice va j vc] 66) := XO4.out.other hne 6 _
      have XT5 : Hid (Bz (w4.setCell ⟨Bn, 6, none⟩ (Value.slice a8 nk c8)) b0 #[Value.slice (some ⟨b1, o1, none⟩) n c] 66) := XT4.out.other (by have := HBn.out; omega) 6 _
      have XR5 : Hid (Bz (w4.setCell ⟨Bn, 6, none⟩ (Value.slice a8 nk c8)) (b0 + 1) #[Value.slice none 0 0] 66) := XR4.out.other (by have := HBn.out; omega) 6 _
      have NW5 : Hid (Nw (w4.setCell ⟨Bn, 6, none⟩ (Value.slice a8 nk c8)) Bn a7 ws) := nw_set NW4.out XN4.out (by decide) 6 _
      have NI5 : Hid (Ni (w4.setCell ⟨Bn, 6, none⟩ (Value.slice a8 nk c8)) Bn a8 ks) := ni_set NI4.out XN4.out (by decide) 6 _
      have TS5 : Hid (Ts (w4.setCell ⟨Bn, 6, none⟩ (Value.slice a8 nk c8)) (b0 + 3) (.slice va j vc) l) := ⟨TS4.out.row.move (fun b hb => heap_setCell_other _ _ _ _ (fun e => HRB.out b (by simpa using e) hb)), fun x hx => nw_set (TS4.out.wn x hx) XN4.out (by decide) 6 _, fun x hx => ni_set (TS4.out.kn x hx) XN4.out (by decide) 6 _, TS4.out.wd, TS4.out.kd⟩
      have KB5 : Hid (Below w.heap.size w (w4.setCell ⟨Bn, 6, none⟩ (Value.slice a8 nk c8))) := KB4.out.setCell (by have := HB0.out; have := HBn.out; simp; omega) _
      have hbx6 : Below (w4.setCell ⟨Bn, 6, none⟩ (Value.slice a8 nk c8)).heap.size (w4.setCell ⟨Bn, 6, none⟩ (Value.slice a8 nk c8)) ((w4.setCell ⟨Bn, 6, none⟩ (Value.slice a8 nk c8)).alloc (Obj.cells #[Value.int .i64 op, Value.int .i64 vr, Value.int .i64 aa, Value.int .i64 bb, Value.int .i64 bw, Value.slice a7 nw c7, Value.slice a8 nk c8] 108)) := (Below.refl _ _).alloc (Nat.le_refl _) _
      have XO6 := kide (XO5.out.later hbx6)
      have XT6 := kide (XT5.out.later hbx6)
      have XR6 := kide (XR5.out.later hbx6)
      have NW6 := kide (NW5.out.later hbx6)
      have NI6 := kide (NI5.out.later hbx6)
      have TS6 := kide (TS5.out.later hbx6)
      have KB6 := kide (KB5.out.trans (hbx6.mono KB5.out.size))
      have BB6 : Hid (b0 + 3 ≤ ((w4.setCell ⟨Bn, 6, none⟩ (Value.slice a8 nk c8)).alloc (Obj.cells #[Value.int .i64 op, Value.int .i64 vr, Value.int .i64 aa, Value.int .i64 bb, Value.int .i64 bw, Value.slice a7 nw c7, Value.slice a8 nk c8] 108)).heap.size) := by show _ ≤ _; have := BB4.out; simp; omega
      have HTA : Hid (ThAt ((w4.setCell ⟨Bn, 6, none⟩ (Value.slice a8 nk c8)).alloc (Obj.cells #[Value.int .i64 op, Value.int .i64 vr, Value.int .i64 aa, Value.int .i64 bb, Value.int .i64 bw, Value.slice a7 nw c7, Value.slice a8 nk c8] 108)) w4.heap.size 0 ((⟨⟨op, vr, aa, bb, bw, ws, ks⟩, a7, c7, a8, c8⟩ : Tg)).hd) := by
        have X6 := Bz.new (w4.setCell ⟨Bn, 6, none⟩ (Value.slice a8 nk c8)) #[Value.int .i64 op, Value.int .i64 vr, Value.int .i64 aa, Value.int .i64 bb, Value.int .i64 bw, Value.slice a7 nw c7, Value.slice a8 nk c8] 108
        rw [show (w4.setCell ⟨Bn, 6, none⟩ (Value.slice a8 nk c8)).heap.size = w4.heap.size by simp] at X6
        exact ⟨X6.cell 0, X6.cell 1, X6.cell 2, X6.cell 3, X6.cell 4, (X6.cell 5).trans (by rw [← HNW.out]; rfl), (X6.cell 6).trans (by rw [← HNK.out]; rfl)⟩
      have HVB : Hid (∀ b, (Value.slice va j vc).ownBlock = some b → b0 + 3 ≤ b) := fun b hb => (TS6.out.row.lt hb).1
      go_wp2_with (at_builtin; refine wpList_appT7 rfl _ _ rfl (b0 + 3) (Value.slice va j vc) l (⟨⟨op, vr, aa, bb, bw, ws, ks⟩, a7, c7, a8, c8⟩ : Tg) (by first | rfl | simp [Act.eval]) TS6.out.row w4.heap.size 1 (by first | rfl | simp [Act.eval]) HTA.out (by have := HLL.out; omega) BB6.out ?_)
      intro g7 c9 w7 ho hg hat
      rw [HLL.out] at ho ⊢
      have TS7 := kide (TS6.out.app (Below.refl _ _) HBn.out HNN.out NW6.out NI6.out hg ho)
      have XO7 : Hid (Bz w7 (b0 + 1 + 1) #[Value.slice va j vc] 66) := (hg.block _ XO6.out.lt (fun e => by have := HVB.out _ e.symm; omega)).trans XO6.out
      have XT7 : Hid (Bz w7 b0 #[Value.slice (some ⟨b1, o1, none⟩) n c] 66) := (hg.block _ XT6.out.lt (fun e => by have := HVB.out _ e.symm; omega)).trans XT6.out
      have XR7 : Hid (Bz w7 (b0 + 1) #[Value.slice none 0 0] 66) := (hg.block _ XR6.out.lt (fun e => by have := HVB.out _ e.symm; omega)).trans XR6.out
      have KB7 := kide (Below.grown KB6.out hg KB6.out.size (fun b hb => by have := HVB.out b hb; have := HB0.out; omega))
      have BB7 : Hid (b0 + 3 ≤ w7.heap.size) := Nat.le_trans BB6.out hg.size
      clear ho hg hat XO6 XT6 XR6 NW6 NI6 TS6 KB6 BB6 HTA XN5 XO5 XT5 XR5 NW5 NI5 TS5 KB5 hbx6 XN4 XO4 XT4 XR4 TS4 NW4 NI4 KB4 BB4 n6 f6 d0 d1 d2 d3 d4 d5 o0 ln4 lo4 hne
      have z0 := XO7.out.cell 0
      have y0 := XO7.out.froz 0
      simp at z0
      have XO8 : Hid (Bz (w7.setCell ⟨b0 + 1 + 1, 0, none⟩ (Value.slice (some ⟨g7, 0, none⟩) (j + 1) c9)) (b0 + 1 + 1) #[Value.slice (some ⟨g7, 0, none⟩) (j + 1) c9] 66) := XO7.out.set 0 _
      have XT8 : Hid (Bz (w7.setCell ⟨b0 + 1 + 1, 0, none⟩ (Value.slice (some ⟨g7, 0, none⟩) (j + 1) c9)) b0 #[Value.slice (some ⟨b1, o1, none⟩) n c] 66) := XT7.out.other (by omega) 0 _
      have XR8 : Hid (Bz (w7.setCell ⟨b0 + 1 + 1, 0, none⟩ (Value.slice (some ⟨g7, 0, none⟩) (j + 1) c9)) (b0 + 1) #[Value.slice none 0 0] 66) := XR7.out.other (by omega) 0 _
      have TS8 : Hid (Ts (w7.setCell ⟨b0 + 1 + 1, 0, none⟩ (Value.slice (some ⟨g7, 0, none⟩) (j + 1) c9)) (b0 + 3) (Value.slice (some ⟨g7, 0, none⟩) (j + 1) c9) (l ++ [(⟨⟨op, vr, aa, bb, bw, ws, ks⟩, a7, c7, a8, c8⟩ : Tg)])) := ⟨TS7.out.row.move (fun b hb => heap_setCell_other _ _ _ _ (fun e => by have := (TS7.out.row.lt hb).1; simp at e; omega)), fun x hx => nw_set (TS7.out.wn x hx) XO7.out (by decide) 0 _, fun x hx => ni_set (TS7.out.kn x hx) XO7.out (by decide) 0 _, TS7.out.wd, TS7.out.kd⟩
      have KB8 : Hid (Below w.heap.size w (w7.setCell ⟨b0 + 1 + 1, 0, none⟩ (Value.slice (some ⟨g7, 0, none⟩) (j + 1) c9))) := KB7.out.setCell (by have := HB0.out; simp; omega) _
      have BB8 : Hid (b0 + 3 ≤ (w7.setCell ⟨b0 + 1 + 1, 0, none⟩ (Value.slice (some ⟨g7, 0, none⟩) (j + 1) c9)).heap.size) := by show _ ≤ _; have := BB7.out; simp; omega
      go_wp2_with fail
      go_roundw
      case rel => exact ⟨j + 1, some ⟨g7, 0, none⟩, c9, l ++ [(⟨⟨op, vr, aa, bb, bw, ws, ks⟩, a7, c7, a8, c8⟩ : Tg)], by omega, by go_num, by rw [List.length_append, HLL.out]; rfl, XO8.out, XT8.out, XR8.out, TS8.out, HCT.out _ rfl, KB8.out, BB8.out⟩
      case measure => simp [intOf]; omega
    · have e : j = n := by omega
      have HCT : Hid (l.map Tg.ct = xs.map Tg.ct) := by show _ = _; rw [hct, List.take_of_length_le (by rw [HN.out]; omega)]
      have v0 : wr.cell? ⟨b0 + 1, 0, none⟩ = some (Value.slice none 0 0) := xr.cell 0
      have f0 := xr.froz 0
      subst e
      clear hct xo xt xr ts kb bb hll
      go_wp2_with fail
      refine bodyPost_ret (v := .agg #[.slice va j vc]) (by simp [results, Tryz.results83, go_sem, v0, f0]) rfl ?_
      have tf : Ts (wr.setCell ⟨b0 + 1, 0, none⟩ (Value.slice va j vc)) (b0 + 3) (.slice va j vc) l := ⟨TS.out.row.move (fun b hb => heap_setCell_other _ _ _ _ (fun e => by have := (TS.out.row.lt hb).1; simp at e; omega)), fun x hx => nw_set (TS.out.wn x hx) XR.out (by decide) 0 _, fun x hx => ni_set (TS.out.kn x hx) XR.out (by decide) 0 _, TS.out.wd, TS.out.kd⟩
      exact ⟨va, vc, l, rfl, tf.mono (by have := HB0.out; omega), HCT.out, KB.out.setCell (by have := HB0.out; simp; omega) _⟩

end Go.Proofs.YtofdkdaehhpgbaaGreatDoor
