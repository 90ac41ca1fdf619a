/- A session copied, by the program. -/
import Derived.Test.YtofdkdaehhpgbaaGreatDoorCSA
import Derived.Test.YtofdkdaehhpgbaaGreatDoorLTE
namespace Go.Proofs.YtofdkdaehhpgbaaGreatDoor
set_option linter.unusedVariables false
set_option linter.unusedSimpArgs false
open Go.RowKit

theorem bz_ne {w : World} {b c : Nat} {cs ds : Array Value} {t t' : TypeId} (h : Bz w b cs t) (h' : Bz w c ds t') (ht : t ≠ t') : b ≠ c := fun e => by
  subst e
  unfold Bz at h h'
  rw [h] at h'
  cases h'
  exact ht rfl

theorem run_copyD (w : World) (ty : TypeId) (B g b1 o1 dn dc : Nat) (ds : List Dc) (hdn : ds.length = dn) (hr : RdD w (some ⟨b1, o1, none⟩) ds)
    (cur : Array Value) (hg : Bz w g cur 50) (hsz : cur.size = dn * 2) (hB : B ≤ g) :
    ∃ w', (Builtin.copy_ #[27, 27] ty #[.slice (some ⟨g, 0, none⟩) dn dn, .slice (some ⟨b1, o1, none⟩) dn dc]).run Tryz.prog w = .ok (goInt dn) w' ∧ OD2 w' B (.slice (some ⟨g, 0, none⟩) dn dn) ds ∧ w.grownBy w' (some g) := by
  have hl2 : (dcS ds).length = dn * 2 := by rw [dcS_len, hdn]
  have hrun := run_copy_two w 27 27 ty 50 g dn dn ⟨b1, o1, none⟩ dn dc cur _ (dcS ds) Tryz.underlying27 (by
    obtain ⟨i0, hi, -, hz1, -⟩ := info_parts Tryz.infoDecl
    rw [hi]; simp [hz1]) hg (by rw [hl2, show Nat.min dn dn = dn from Nat.min_self dn]) hr.cells (by rw [hl2, hsz]; exact Nat.le_refl _) (dcS_one ds)
  rw [show Nat.min dn dn = dn from Nat.min_self dn] at hrun
  have ecur : (dcS ds ++ cur.toList.drop (dcS ds).length).toArray.toList = dcS ds := by
    rw [List.drop_eq_nil_of_le (by rw [hl2, Array.length_toList, hsz]; exact Nat.le_refl _)]
    simp
  refine ⟨_, hrun, ⟨by rw [hl2, hdn], .inr ⟨g, dn, _, by rw [hdn], hB, setRow_heap w g _ _ _ _ hg, by rw [hdn]; exact Nat.le_refl _, ?_, ?_, ?_⟩⟩, ⟨rfl, rfl, rfl, by simp, fun k hk hne => setRow_other w g k _ (fun e => hne (by rw [e]))⟩⟩
  · have := hr.1
    rw [hdn] at this
    unfold maxLen
    omega
  · rw [← Array.length_toList, ecur, hl2]
  · rw [ecur, hdn, ← hl2, List.take_length]

set_option maxHeartbeats 4000000 in
set_option maxRecDepth 100000 in
theorem copySes_any (b1 o1 : Nat) (sa : Option Addr) (dn dc n sc : Nat) (nx : Int) (ds : List Dc) (xs : List Sg) (w : World) (hd : RdD w (some ⟨b1, o1, none⟩) ds) (hdn : ds.length = dn) (hs : RdS w sa xs) (hn : xs.length = n) (hn2 : n ≤ 60) (hS : SnS xs) :
    Calls Tryz.prog 28 #[.agg #[.slice (some ⟨b1, o1, none⟩) dn dc, .slice sa n sc, .int .i64 nx]] w (RetCs ds (xs.map Sg.ct) dn n nx w) := by
  have hdl : dn ≤ 1048576 := by rw [← hdn]; exact hd.1
  have HD := kide (fun u (hu : Below w.heap.size w u) => hd.later hu)
  have HS := kide (fun u (hu : Below w.heap.size w u) => hs.later hu)
  have HDN := kide hdn
  have HN := kide hn
  have HSN := kide hS
  obtain ⟨b0, hb0⟩ : ∃ b0, w.heap.size = b0 := ⟨_, rfl⟩
  have hb2 : Below w.heap.size w ((w.alloc (Obj.cells #[Value.slice (some ⟨b1, o1, none⟩) dn dc, Value.slice sa n sc, Value.int .i64 nx] 30)).alloc (Obj.cells #[Value.slice none 0 0, Value.slice none 0 0, Value.int .i64 0] 30)) := ((Below.refl _ _).alloc (Nat.le_refl _) _).alloc (by simp) _
  have BW := kide hb2
  have XB : Hid (Bz ((w.alloc (Obj.cells #[Value.slice (some ⟨b1, o1, none⟩) dn dc, Value.slice sa n sc, Value.int .i64 nx] 30)).alloc (Obj.cells #[Value.slice none 0 0, Value.slice none 0 0, Value.int .i64 0] 30)) b0 #[Value.slice (some ⟨b1, o1, none⟩) dn dc, Value.slice sa n sc, Value.int .i64 nx] 30) := by rw [← hb0]; exact (Bz.new w #[Value.slice (some ⟨b1, o1, none⟩) dn dc, Value.slice sa n sc, Value.int .i64 nx] (30)).later ((Below.refl _ _).alloc (Nat.le_refl _) _)
  have XR : Hid (Bz ((w.alloc (Obj.cells #[Value.slice (some ⟨b1, o1, none⟩) dn dc, Value.slice sa n sc, Value.int .i64 nx] 30)).alloc (Obj.cells #[Value.slice none 0 0, Value.slice none 0 0, Value.int .i64 0] 30)) (b0 + 1) #[Value.slice none 0 0, Value.slice none 0 0, Value.int .i64 0] 30) := by have h := Bz.new (w.alloc (Obj.cells #[Value.slice (some ⟨b1, o1, none⟩) dn dc, Value.slice sa n sc, Value.int .i64 nx] 30)) #[Value.slice none 0 0, Value.slice none 0 0, Value.int .i64 0] (30); rw [show (w.alloc (Obj.cells #[Value.slice (some ⟨b1, o1, none⟩) dn dc, Value.slice sa n sc, Value.int .i64 nx] 30)).heap.size = b0 + 1 by simp [hb0]] at h; exact h
  have HWZ : Hid (((w.alloc (Obj.cells #[Value.slice (some ⟨b1, o1, none⟩) dn dc, Value.slice sa n sc, Value.int .i64 nx] 30)).alloc (Obj.cells #[Value.slice none 0 0, Value.slice none 0 0, Value.int .i64 0] 30)).heap.size = b0 + 2) := by show _ = _; simp [hb0]
  have HB0 := kide hb0
  clear hd hdn hs hn hS hb2
  have hmk := make_decls dn hdl
  go_enter Tryz.func28, Tryz.ntmps28
  go_wp2_with fail
  try simp only [hb0]
  clear hb0
  generalize ((w.alloc (Obj.cells #[Value.slice (some ⟨b1, o1, none⟩) dn dc, Value.slice sa n sc, Value.int .i64 nx] 30)).alloc (Obj.cells #[Value.slice none 0 0, Value.slice none 0 0, Value.int .i64 0] 30)) = W at *
  refine wp_region_x (SA := fun _ => False) (SB := fun uu => uu.cell? ⟨b0, 0, none⟩ = some (Value.slice (some ⟨b1, o1, none⟩) dn dc) ∧ uu.cell? ⟨b0, 1, none⟩ = some (Value.slice sa n sc) ∧ uu.cell? ⟨b0, 2, none⟩ = some (Value.int .i64 nx)) (k := 999) (by kernel_rfl) ?_
  have hbd : Below W.heap.size W W.drew := (Below.refl _ _).drew
  have XB0 := kide (XB.out.later hbd)
  have XR0 := kide (XR.out.later hbd)
  have HU0 := kide hbd
  clear hbd
  generalize W.drew = u0 at *
  have c0_0 : u0.cell? ⟨b0, 0, none⟩ = some (Value.slice (some ⟨b1, o1, none⟩) dn dc) := XB0.out.cell 0
  have c1_0 : u0.cell? ⟨b0, 1, none⟩ = some (Value.slice sa n sc) := XB0.out.cell 1
  have c2_0 : u0.cell? ⟨b0, 2, none⟩ = some (Value.int .i64 nx) := XB0.out.cell 2
  have hs0 : Hid ((fun uu => uu.cell? ⟨b0, 0, none⟩ = some (Value.slice (some ⟨b1, o1, none⟩) dn dc) ∧ uu.cell? ⟨b0, 1, none⟩ = some (Value.slice sa n sc) ∧ uu.cell? ⟨b0, 2, none⟩ = some (Value.int .i64 nx)) u0) := ⟨c0_0, c1_0, c2_0⟩
  try go_simp
  refine wpAnyX_both (T := (fun _ => True)) (i := 0) (v := Value.pointer (some ⟨b0, 0, none⟩)) rfl (by kernel_rfl) (by kernel_rfl) (by kernel_rfl) (fun _ _ _ h => by first | exact h | exact h.elim) (by decide) (fun _ _ => trivial) (fun _ _ => trivial) (Sx.behind (by kernel_rfl) hs0.out) (Or.inl ⟨by rfl, fun uu hu => by go_simp⟩) ?_
  try go_simp
  refine wpAnyX_both (T := (fun uu => uu.cell? ⟨b0, 0, none⟩ = some (Value.slice (some ⟨b1, o1, none⟩) dn dc) ∧ uu.cell? ⟨b0, 1, none⟩ = some (Value.slice sa n sc) ∧ uu.cell? ⟨b0, 2, none⟩ = some (Value.int .i64 nx))) (i := 1) (v := Value.slice (some ⟨b1, o1, none⟩) dn dc) rfl (by kernel_rfl) (by kernel_rfl) (by kernel_rfl) (fun _ _ _ h => by first | exact h | exact h.elim) (by decide) (fun _ h => h.elim) (fun _ h => h) (Sx.behind (by kernel_rfl) hs0.out) (Or.inl ⟨by rfl, fun uu hu => by obtain ⟨e0, e1, e2⟩ := hu; go_simp⟩) ?_
  try go_simp
  refine wpAnyX_both (T := (fun _ => True)) (i := 2) (v := Value.int .i64 (dn : Int)) rfl (by kernel_rfl) (by kernel_rfl) (by kernel_rfl) (fun _ _ _ h => by first | exact h | exact h.elim) (by decide) (fun _ _ => trivial) (fun _ _ => trivial) (Sx.behind (by kernel_rfl) hs0.out) (Or.inl ⟨by rfl, fun uu hu => by go_simp⟩) ?_
  try go_simp
  refine wpAnyX_both (T := (fun _ => True)) (i := 4) (v := Value.pointer (some ⟨b0, 2, none⟩)) rfl (by kernel_rfl) (by kernel_rfl) (by kernel_rfl) (fun _ _ _ h => by first | exact h | exact h.elim) (by decide) (fun _ _ => trivial) (fun _ _ => trivial) (Sx.behind (by kernel_rfl) hs0.out) (Or.inl ⟨by rfl, fun uu hu => by go_simp⟩) ?_
  try go_simp
  refine wpAnyX_both (T := (fun uu => uu.cell? ⟨b0, 0, none⟩ = some (Value.slice (some ⟨b1, o1, none⟩) dn dc) ∧ uu.cell? ⟨b0, 1, none⟩ = some (Value.slice sa n sc) ∧ uu.cell? ⟨b0, 2, none⟩ = some (Value.int .i64 nx))) (i := 5) (v := Value.int .i64 nx) rfl (by kernel_rfl) (by kernel_rfl) (by kernel_rfl) (fun _ _ _ h => by first | exact h | exact h.elim) (by decide) (fun _ h => h.elim) (fun _ h => h) (Sx.behind (by kernel_rfl) hs0.out) (Or.inl ⟨by rfl, fun uu hu => by obtain ⟨e0, e1, e2⟩ := hu; go_simp⟩) ?_
  try go_simp
  refine wpAnyX_ready (rs := [3, 7]) (by kernel_rfl) (by simp) (AllX.cons rfl (fun K hK => ?_) (AllX.cons rfl (fun K hK => ?_) AllX.nil))
  · go_simp
    have hbx : Below u0.heap.size u0 (u0.alloc (Obj.cells (madeCells #[.string .empty, .int .i64 0] (dn * 2)) 50)) := (Below.refl _ _).alloc (Nat.le_refl _) _
    have HU1 := kide (HU0.out.trans (hbx.mono HU0.out.size))
    have XB1 := kide (XB0.out.later hbx)
    have XR1 := kide (XR0.out.later hbx)
    have MD1 : Hid (Bz (u0.alloc (Obj.cells (madeCells #[.string .empty, .int .i64 0] (dn * 2)) 50)) u0.heap.size (madeCells #[.string .empty, .int .i64 0] (dn * 2)) 50) := Bz.new _ _ _
    have lgm : Hid (W.heap.size ≤ u0.heap.size) := HU0.out.size
    clear hbx
    generalize hqgm : u0.heap.size = gm at *
    generalize u0.alloc (Obj.cells (madeCells #[.string .empty, .int .i64 0] (dn * 2)) 50) = u1 at *
    clear hqgm
    have c0_1 : u1.cell? ⟨b0, 0, none⟩ = some (Value.slice (some ⟨b1, o1, none⟩) dn dc) := XB1.out.cell 0
    have c1_1 : u1.cell? ⟨b0, 1, none⟩ = some (Value.slice sa n sc) := XB1.out.cell 1
    have c2_1 : u1.cell? ⟨b0, 2, none⟩ = some (Value.int .i64 nx) := XB1.out.cell 2
    have hs1 : Hid ((fun uu => uu.cell? ⟨b0, 0, none⟩ = some (Value.slice (some ⟨b1, o1, none⟩) dn dc) ∧ uu.cell? ⟨b0, 1, none⟩ = some (Value.slice sa n sc) ∧ uu.cell? ⟨b0, 2, none⟩ = some (Value.int .i64 nx)) u1) := ⟨c0_1, c1_1, c2_1⟩
    refine hK _ _ (Sx.behind (by kernel_rfl) hs1.out) ?_
    clear hK K c0_0 c1_0 c2_0 hs0 HU0 XB0 XR0
    try go_simp
    refine wpAnyX_both (T := (fun _ => True)) (i := 6) (v := Value.agg #[Value.slice (some ⟨gm, 0, none⟩) dn dn, Value.slice none 0 0, Value.int .i64 nx]) rfl (by kernel_rfl) (by kernel_rfl) (by kernel_rfl) (fun _ _ _ h => by first | exact h | exact h.elim) (by decide) (fun _ _ => trivial) (fun _ _ => trivial) (Sx.behind (by kernel_rfl) hs1.out) (Or.inl ⟨by rfl, fun uu hu => by go_simp⟩) ?_
    try go_simp
    refine wpAnyX_ready (rs := [7]) (by kernel_rfl) (by simp) (AllX.cons rfl (fun K hK => ?_) AllX.nil)
    go_simp
    have hbx : Below u1.heap.size u1 (u1.alloc (Obj.cells #[Value.slice none 0 0, Value.slice none 0 0, Value.int .i64 0] 30)) := (Below.refl _ _).alloc (Nat.le_refl _) _
    have HU2 := kide (HU1.out.trans (hbx.mono HU1.out.size))
    have XB2 := kide (XB1.out.later hbx)
    have XR2 := kide (XR1.out.later hbx)
    have MD2 := kide (MD1.out.later hbx)
    have RB2 : Hid (Bz (u1.alloc (Obj.cells #[Value.slice none 0 0, Value.slice none 0 0, Value.int .i64 0] 30)) u1.heap.size #[Value.slice none 0 0, Value.slice none 0 0, Value.int .i64 0] 30) := Bz.new _ _ _
    have lrb : Hid (W.heap.size ≤ u1.heap.size) := HU1.out.size
    clear hbx
    generalize hqrb : u1.heap.size = rb at *
    generalize u1.alloc (Obj.cells #[Value.slice none 0 0, Value.slice none 0 0, Value.int .i64 0] 30) = u2 at *
    clear hqrb
    have c0_2 : u2.cell? ⟨b0, 0, none⟩ = some (Value.slice (some ⟨b1, o1, none⟩) dn dc) := XB2.out.cell 0
    have c1_2 : u2.cell? ⟨b0, 1, none⟩ = some (Value.slice sa n sc) := XB2.out.cell 1
    have c2_2 : u2.cell? ⟨b0, 2, none⟩ = some (Value.int .i64 nx) := XB2.out.cell 2
    have hs2 : Hid ((fun uu => uu.cell? ⟨b0, 0, none⟩ = some (Value.slice (some ⟨b1, o1, none⟩) dn dc) ∧ uu.cell? ⟨b0, 1, none⟩ = some (Value.slice sa n sc) ∧ uu.cell? ⟨b0, 2, none⟩ = some (Value.int .i64 nx)) u2) := ⟨c0_2, c1_2, c2_2⟩
    refine hK _ _ (Sx.behind (by kernel_rfl) hs2.out) ?_
    clear hK K c0_1 c1_1 c2_1 hs1 HU1 XB1 XR1 MD1
    try go_simp
    refine wpAnyX_ready (rs := [8]) (by kernel_rfl) (by simp) (AllX.cons rfl (fun K hK => ?_) AllX.nil)
    have hne := bz_ne MD2.out RB2.out (by decide)
    have e0 := RB2.out.cell 0
    have f0 := RB2.out.froz 0
    have e1 := RB2.out.cell 1
    have f1 := RB2.out.froz 1
    have e2 := RB2.out.cell 2
    have f2 := RB2.out.froz 2
    simp at e0 e1 e2
    go_simp
    have RB3 : Hid (Bz (((u2.setCell ⟨rb, 0, none⟩ (Value.slice (some ⟨gm, 0, none⟩) dn dn)).setCell ⟨rb, 1, none⟩ (Value.slice none 0 0)).setCell ⟨rb, 2, none⟩ (Value.int .i64 nx)) rb #[Value.slice (some ⟨gm, 0, none⟩) dn dn, Value.slice none 0 0, Value.int .i64 nx] 30) := (((RB2.out.set 0 (Value.slice (some ⟨gm, 0, none⟩) dn dn)).set 1 (Value.slice none 0 0)).set 2 (Value.int .i64 nx))
    have HU3 : Hid (Below W.heap.size W (((u2.setCell ⟨rb, 0, none⟩ (Value.slice (some ⟨gm, 0, none⟩) dn dn)).setCell ⟨rb, 1, none⟩ (Value.slice none 0 0)).setCell ⟨rb, 2, none⟩ (Value.int .i64 nx))) := (((HU2.out.setCell (show _ ≤ rb from lrb.out) _).setCell (show _ ≤ rb from lrb.out) _).setCell (show _ ≤ rb from lrb.out) _)
    have MD3 : Hid (Bz (((u2.setCell ⟨rb, 0, none⟩ (Value.slice (some ⟨gm, 0, none⟩) dn dn)).setCell ⟨rb, 1, none⟩ (Value.slice none 0 0)).setCell ⟨rb, 2, none⟩ (Value.int .i64 nx)) gm (madeCells #[.string .empty, .int .i64 0] (dn * 2)) 50) := (((MD2.out.other hne 0 _).other hne 1 _).other hne 2 _)
    have XB3 : Hid (Bz (((u2.setCell ⟨rb, 0, none⟩ (Value.slice (some ⟨gm, 0, none⟩) dn dn)).setCell ⟨rb, 1, none⟩ (Value.slice none 0 0)).setCell ⟨rb, 2, none⟩ (Value.int .i64 nx)) b0 #[Value.slice (some ⟨b1, o1, none⟩) dn dc, Value.slice sa n sc, Value.int .i64 nx] 30) := (((XB2.out.other (by have := lrb.out; have := HWZ.out; omega) 0 _).other (by have := lrb.out; have := HWZ.out; omega) 1 _).other (by have := lrb.out; have := HWZ.out; omega) 2 _)
    have XR3 : Hid (Bz (((u2.setCell ⟨rb, 0, none⟩ (Value.slice (some ⟨gm, 0, none⟩) dn dn)).setCell ⟨rb, 1, none⟩ (Value.slice none 0 0)).setCell ⟨rb, 2, none⟩ (Value.int .i64 nx)) (b0 + 1) #[Value.slice none 0 0, Value.slice none 0 0, Value.int .i64 0] 30) := (((XR2.out.other (by have := lrb.out; have := HWZ.out; omega) 0 _).other (by have := lrb.out; have := HWZ.out; omega) 1 _).other (by have := lrb.out; have := HWZ.out; omega) 2 _)
    have HNE := kide hne
    clear e0 e1 e2 f0 f1 f2 hne
    generalize (((u2.setCell ⟨rb, 0, none⟩ (Value.slice (some ⟨gm, 0, none⟩) dn dn)).setCell ⟨rb, 1, none⟩ (Value.slice none 0 0)).setCell ⟨rb, 2, none⟩ (Value.int .i64 nx)) = u3 at *
    have c0_3 : u3.cell? ⟨b0, 0, none⟩ = some (Value.slice (some ⟨b1, o1, none⟩) dn dc) := XB3.out.cell 0
    have c1_3 : u3.cell? ⟨b0, 1, none⟩ = some (Value.slice sa n sc) := XB3.out.cell 1
    have c2_3 : u3.cell? ⟨b0, 2, none⟩ = some (Value.int .i64 nx) := XB3.out.cell 2
    have hs3 : Hid ((fun uu => uu.cell? ⟨b0, 0, none⟩ = some (Value.slice (some ⟨b1, o1, none⟩) dn dc) ∧ uu.cell? ⟨b0, 1, none⟩ = some (Value.slice sa n sc) ∧ uu.cell? ⟨b0, 2, none⟩ = some (Value.int .i64 nx)) u3) := ⟨c0_3, c1_3, c2_3⟩
    refine hK _ _ (Sx.behind (by kernel_rfl) hs3.out) ?_
    clear hK K c0_2 c1_2 c2_2 hs2 HU2 XB2 XR2 MD2 RB2
    try go_simp
    refine wpAnyX_done (by kernel_rfl) ?_ _
    have k0 := RB3.out.cell 0
    simp at k0
    clear hmk
    obtain ⟨u4, hrun, ho, hg⟩ := run_copyD u3 3 W.heap.size gm b1 o1 dn dc ds HDN.out (HD.out _ (BW.out.trans (HU3.out.mono BW.out.size))) _ MD3.out (by rw [size_madeCells]) lgm.out
    have HU4 := kide (Below.grown HU3.out hg HU3.out.size (fun b hb => by cases hb; exact lgm.out))
    have XB4 : Hid (Bz u4 b0 #[Value.slice (some ⟨b1, o1, none⟩) dn dc, Value.slice sa n sc, Value.int .i64 nx] 30) := ((hg.block _ XB3.out.lt (fun e => bz_ne MD3.out XB3.out (by decide) (Option.some.inj e).symm)).trans XB3.out)
    have XR4 : Hid (Bz u4 (b0 + 1) #[Value.slice none 0 0, Value.slice none 0 0, Value.int .i64 0] 30) := ((hg.block _ XR3.out.lt (fun e => bz_ne MD3.out XR3.out (by decide) (Option.some.inj e).symm)).trans XR3.out)
    have RB4 : Hid (Bz u4 rb #[Value.slice (some ⟨gm, 0, none⟩) dn dn, Value.slice none 0 0, Value.int .i64 nx] 30) := ((hg.block _ RB3.out.lt (fun e => bz_ne MD3.out RB3.out (by decide) (Option.some.inj e).symm)).trans RB3.out)
    have VD4 := kide ho
    clear ho hg RB3 XB3 XR3 MD3 HU3 c1_3 c2_3 hs3 HNE
    have e1 := XB4.out.cell 1
    simp at e1
    go_wp2_with fail
    obtain ⟨M, hM⟩ : ∃ M, u4.heap.size = M := ⟨_, rfl⟩
    have HMR : Hid (rb < M) := by show _ < _; rw [← hM]; exact RB4.out.lt
    have HMB : Hid (b0 < M) := by show _ < _; rw [← hM]; exact XB4.out.lt
    have HRW : Hid (w.heap.size ≤ rb) := Nat.le_trans BW.out.size lrb.out
    have KB4 := kide (BW.out.trans (HU4.out.mono BW.out.size))
    have VE4 := kide (VD4.out.low BW.out.size)
    have HVM : Hid (∀ b, (Value.slice (some ⟨gm, 0, none⟩) dn dn).ownBlock = some b → b < M) := fun b hb => by rw [← hM]; exact (VD4.out.lt hb).2
    have HMZ4 : Hid (M ≤ u4.heap.size) := by show _ ≤ _; rw [hM]; exact Nat.le_refl _
    have HZ4 : Hid (Zn M u4.heap.size (.slice none 0 0) [] (fun _ => (0, 0)) u4) := Zn.nil _ _ _
    have HBR : Hid (b0 ≠ rb) := by show _ ≠ _; have := lrb.out; have := HWZ.out; omega
    have HBS : Hid (b0 + 1 ≠ rb) := by show _ ≠ _; have := lrb.out; have := HWZ.out; omega
    have HMS : Hid (b0 + 1 < M) := by show _ < _; rw [← hM]; exact XR4.out.lt
    clear hM VD4 HU4 XB XR lrb HWZ BW HDN lgm e1 hrun k0 c0_3
    go_loopw [21] (fun q wr => ∃ (j : Nat) (va : Option Addr) (vc : Nat) (l : List Sg) (p : Nat → Nat × Nat), j ≤ n ∧ q = .int .i64 (j : Int) ∧ l.length = j ∧ Zn M wr.heap.size (.slice va j vc) l p wr ∧ l.map Sg.ct = (xs.take j).map Sg.ct ∧ Bz wr rb #[Value.slice (some ⟨gm, 0, none⟩) dn dn, Value.slice va j vc, Value.int .i64 nx] 30 ∧ Bz wr b0 #[Value.slice (some ⟨b1, o1, none⟩) dn dc, Value.slice sa n sc, Value.int .i64 nx] 30 ∧ Bz wr (b0 + 1) #[Value.slice none 0 0, Value.slice none 0 0, Value.int .i64 0] 30 ∧ OD2 wr w.heap.size (.slice (some ⟨gm, 0, none⟩) dn dn) ds ∧ M ≤ wr.heap.size ∧ Below w.heap.size w wr) (fun q _ => n - (intOf q).toNat)
    case atStart => exact ⟨0, none, 0, [], _, Nat.zero_le _, rfl, rfl, HZ4.out, rfl, RB4.out, XB4.out, XR4.out, VE4.out, HMZ4.out, KB4.out⟩
    case round =>
      obtain ⟨j, va, vc, l, p, hj, rfl, hll, zn, hct, rbz, xb, xr, vd, hmz, kb⟩ := hrel
      have ZN := kide zn
      have RB := kide rbz
      have XB := kide xb
      have XR := kide xr
      have VD := kide vd
      have HMZ := kide hmz
      have KB := kide kb
      have HLL := kide hll
      clear RB4 XB4 XR4 VE4 HMZ4 HZ4 KB4
      clear xb
      by_cases hlt : j < n
      · have i0 : (j : Int) < (n : Int) := by omega
        obtain ⟨x, gx⟩ : ∃ x, xs[j]? = some x := ⟨xs[j]'(by rw [HN.out]; exact hlt), List.getElem?_eq_getElem _⟩
        have hsn := HSN.out x (List.mem_of_getElem? gx)
        have hct2 : ∀ y : Sg, y.ct = x.ct → (l ++ [y]).map Sg.ct = (xs.take (j + 1)).map Sg.ct := fun y hy => by
          rw [List.take_add_one, gx, List.map_append, List.map_append, hct]
          simp [hy]
        obtain ⟨b3, o3, rfl, HRN⟩ : ∃ b3 o3, sa = some ⟨b3, o3, none⟩ ∧ Hid (∀ u, Below w.heap.size w u → SgAt u b3 (o3 + j * 2) x) := by
          obtain ⟨b3, o3, rfl, -⟩ := (HS.out w (Below.refl _ _)).at gx
          refine ⟨b3, o3, rfl, fun u hu => ?_⟩
          obtain ⟨b4, o4, e4, h4⟩ := (HS.out u hu).at gx
          cases e4
          exact h4
        obtain ⟨d, ls, la, lc⟩ := x
        simp only [SgAt] at HRN hsn hct2
        obtain ⟨lm, hlm⟩ : ∃ lm, ls.length = lm := ⟨_, rfl⟩
        have HLM := kide hlm
        rw [hlm] at HRN
        have HCT := kide hct2
        have HSL := kide hsn
        have HRL := kide (fun u (hu : Below w.heap.size w u) => (HRN.out u hu).2.1)
        clear hct2 hct zn rbz xr vd kb hll hmz gx hsn hlm
        obtain ⟨⟨p0, p1⟩, -⟩ := HRN.out wr KB.out
        obtain ⟨Bl, hBl⟩ : ∃ Bl, wr.heap.size = Bl := ⟨_, rfl⟩
        have HBL := kide hBl
        have hbx : Below wr.heap.size wr (wr.alloc (.cells #[Value.int .i64 d, Value.slice la lm lc] 63)) := (Below.refl _ _).alloc (Nat.le_refl _) _
        have BS1 := kide (Bz.new wr #[Value.int .i64 d, Value.slice la lm lc] (63))
        rw [hBl] at BS1
        have XB1 := kide (XB.out.later hbx)
        have XR1 := kide (XR.out.later hbx)
        have RB1 := kide (RB.out.later hbx)
        have VD1 := kide (VD.out.later hbx)
        have KB1 := kide (KB.out.trans (hbx.mono KB.out.size))
        have BK1 := kide hbx
        clear hbx
        go_wp2_with fail
        try simp only [hBl]
        clear p0 p1 hBl
        generalize wr.alloc (.cells #[Value.int .i64 d, Value.slice la lm lc] 63) = w1 at *
        refine wp_region_x (SA := fun uu => uu.cell? ⟨rb, 1, none⟩ = some (Value.slice va j vc) ∧ uu.cell? ⟨Bl, 0, none⟩ = some (Value.int .i64 d) ∧ uu.cell? ⟨Bl, 1, none⟩ = some (Value.slice la lm lc)) (SB := fun _ => True) (k := 11) (by kernel_rfl) ?_
        have hbd : Below w1.heap.size w1 w1.drew := (Below.refl _ _).drew
        have XB0 := kide (XB1.out.later hbd)
        have XR0 := kide (XR1.out.later hbd)
        have RB0 := kide (RB1.out.later hbd)
        have VD0 := kide (VD1.out.later hbd)
        have BS0 := kide (BS1.out.later hbd)
        have KB0 := kide (KB1.out.trans (hbd.mono KB1.out.size))
        have BK0 := kide (BK1.out.trans (hbd.mono BK1.out.size))
        clear hbd XB1 XR1 RB1 VD1 BS1 KB1 BK1
        generalize w1.drew = y0 at *
        have c0_0 : y0.cell? ⟨rb, 1, none⟩ = some (Value.slice va j vc) := RB0.out.cell 1
        have c1_0 : y0.cell? ⟨Bl, 0, none⟩ = some (Value.int .i64 d) := BS0.out.cell 0
        have c2_0 : y0.cell? ⟨Bl, 1, none⟩ = some (Value.slice la lm lc) := BS0.out.cell 1
        have hs0 : Hid ((fun uu => uu.cell? ⟨rb, 1, none⟩ = some (Value.slice va j vc) ∧ uu.cell? ⟨Bl, 0, none⟩ = some (Value.int .i64 d) ∧ uu.cell? ⟨Bl, 1, none⟩ = some (Value.slice la lm lc)) y0) := ⟨c0_0, c1_0, c2_0⟩
        try go_simp
        refine wpAnyX_both (T := fun _ => True) (i := 0) (v := Value.pointer (some ⟨rb, 1, none⟩)) rfl (by kernel_rfl) (by kernel_rfl) (by kernel_rfl) (fun _ _ _ h => by first | exact h | exact h.elim) (by decide) (fun _ _ => trivial) (fun _ _ => trivial) (Sx.before (by kernel_rfl) hs0.out) (Or.inl ⟨by rfl, fun uu hu => by go_simp⟩) ?_
        try go_simp
        refine wpAnyX_take (i := 1) (v := Value.slice va j vc) rfl (by kernel_rfl) (by kernel_rfl) (by kernel_rfl) (fun _ _ _ h => by first | exact h | exact h.elim) (by decide) (by kernel_rfl) (by kernel_rfl) hs0.out (Or.inl ⟨by rfl, fun uu hu => by obtain ⟨e0, e1, e2⟩ := hu; go_simp⟩) ?_
        try go_simp
        refine wpAnyX_both (T := fun _ => True) (i := 2) (v := Value.pointer (some ⟨Bl, 0, none⟩)) rfl (by kernel_rfl) (by kernel_rfl) (by kernel_rfl) (fun _ _ _ h => by first | exact h | exact h.elim) (by decide) (fun _ _ => trivial) (fun _ _ => trivial) (Sx.before (by kernel_rfl) hs0.out) (Or.inl ⟨by rfl, fun uu hu => by go_simp⟩) ?_
        try go_simp
        refine wpAnyX_take (i := 3) (v := Value.int .i64 d) rfl (by kernel_rfl) (by kernel_rfl) (by kernel_rfl) (fun _ _ _ h => by first | exact h | exact h.elim) (by decide) (by kernel_rfl) (by kernel_rfl) hs0.out (Or.inl ⟨by rfl, fun uu hu => by obtain ⟨e0, e1, e2⟩ := hu; go_simp⟩) ?_
        try go_simp
        refine wpAnyX_both (T := fun _ => True) (i := 4) (v := Value.pointer (some ⟨Bl, 1, none⟩)) rfl (by kernel_rfl) (by kernel_rfl) (by kernel_rfl) (fun _ _ _ h => by first | exact h | exact h.elim) (by decide) (fun _ _ => trivial) (fun _ _ => trivial) (Sx.before (by kernel_rfl) hs0.out) (Or.inl ⟨by rfl, fun uu hu => by go_simp⟩) ?_
        try go_simp
        refine wpAnyX_take (i := 5) (v := Value.slice la lm lc) rfl (by kernel_rfl) (by kernel_rfl) (by kernel_rfl) (fun _ _ _ h => by first | exact h | exact h.elim) (by decide) (by kernel_rfl) (by kernel_rfl) hs0.out (Or.inl ⟨by rfl, fun uu hu => by obtain ⟨e0, e1, e2⟩ := hu; go_simp⟩) ?_
        try go_simp
        refine wpAnyX_ready (rs := [6]) (by kernel_rfl) (by simp) (AllX.cons rfl (fun K hK => ?_) AllX.nil)
        go_simp
        refine Calls.mono (copyLits_any la lm lc ls _ (HRL.out _ KB0.out) HLM.out HSL.out) ?_
        rintro e y1 ⟨a2, c2, l2, p2, rfl, hln, hm2, hb2⟩
        have hl2 : l2.length = lm := by have := congrArg List.length hm2; simp at this; rw [this]; exact HLM.out
        have HL2 := kide hl2
        have M2 := kide hm2
        have LX1 : Hid (Lx wr.heap.size y1.heap.size (⟨d, l2, a2, c2⟩ : Sg) y1) := ⟨p2, by simp only []; rw [hl2]; exact hln.mono (Nat.le_refl _) BK0.out.size⟩
        have XB1 := kide (XB0.out.later hb2)
        have XR1 := kide (XR0.out.later hb2)
        have RB1 := kide (RB0.out.later hb2)
        have VD1 := kide (VD0.out.later hb2)
        have KB1 := kide (KB0.out.trans (hb2.mono KB0.out.size))
        have BK1 := kide (BK0.out.trans (hb2.mono BK0.out.size))
        have BS1 := kide (BS0.out.later hb2)
        clear hln hm2 hb2 hl2
        have c0_1 : y1.cell? ⟨rb, 1, none⟩ = some (Value.slice va j vc) := RB1.out.cell 1
        have c1_1 : y1.cell? ⟨Bl, 0, none⟩ = some (Value.int .i64 d) := BS1.out.cell 0
        have c2_1 : y1.cell? ⟨Bl, 1, none⟩ = some (Value.slice la lm lc) := BS1.out.cell 1
        have hs1 : Hid ((fun uu => uu.cell? ⟨rb, 1, none⟩ = some (Value.slice va j vc) ∧ uu.cell? ⟨Bl, 0, none⟩ = some (Value.int .i64 d) ∧ uu.cell? ⟨Bl, 1, none⟩ = some (Value.slice la lm lc)) y1) := ⟨c0_1, c1_1, c2_1⟩
        refine hK _ _ (Sx.before (by kernel_rfl) hs1.out) ?_
        clear hK K
        try go_simp
        refine wpAnyX_both (T := fun _ => True) (i := 7) (v := Value.agg #[Value.int .i64 d, Value.slice a2 lm c2]) rfl (by kernel_rfl) (by kernel_rfl) (by kernel_rfl) (fun _ _ _ h => by first | exact h | exact h.elim) (by decide) (fun _ _ => trivial) (fun _ _ => trivial) (Sx.before (by kernel_rfl) hs1.out) (Or.inl ⟨by rfl, fun uu hu => by go_simp⟩) ?_
        try go_simp
        refine wpAnyX_ready (rs := [8]) (by kernel_rfl) (by simp) (AllX.cons rfl (fun K hK => ?_) AllX.nil)
        go_simp
        have hbx : Below y1.heap.size y1 (y1.alloc (.cells #[Value.int .i64 d, Value.slice a2 lm c2] 63)) := (Below.refl _ _).alloc (Nat.le_refl _) _
        have XN2 := kide (Bz.new y1 #[Value.int .i64 d, Value.slice a2 lm c2] (63))
        have LX2 : Hid (Lx wr.heap.size (y1.alloc (.cells #[Value.int .i64 d, Value.slice a2 lm c2] 63)).heap.size (⟨d, l2, a2, c2⟩ : Sg) (y1.alloc (.cells #[Value.int .i64 d, Value.slice a2 lm c2] 63))) := by
          obtain ⟨q, hq⟩ := LX1.out.later hbx
          exact ⟨q, hq.mono hbx.size (Nat.le_refl _)⟩
        have XB2 := kide (XB1.out.later hbx)
        have XR2 := kide (XR1.out.later hbx)
        have RB2 := kide (RB1.out.later hbx)
        have VD2 := kide (VD1.out.later hbx)
        have KB2 := kide (KB1.out.trans (hbx.mono KB1.out.size))
        have BK2 := kide (BK1.out.trans (hbx.mono BK1.out.size))
        have BS2 := kide (BS1.out.later hbx)
        obtain ⟨gn, hgn⟩ : ∃ x, y1.heap.size = x := ⟨_, rfl⟩
        rw [hgn] at XN2
        simp only [hgn]
        clear hbx hgn
        generalize y1.alloc (.cells #[Value.int .i64 d, Value.slice a2 lm c2] 63) = y2 at *
        have OS2 := kide (ZN.out.row.later BK2.out)
        have h0 : Hid (y2.cell? ⟨gn, 0, none⟩ = some (.int .i64 d)) := XN2.out.cell 0
        have h1 : Hid (y2.cell? ⟨gn, 1, none⟩ = some (.slice a2 l2.length c2)) := by show _ = _; rw [HL2.out]; exact XN2.out.cell 1
        have c0_2 : y2.cell? ⟨rb, 1, none⟩ = some (Value.slice va j vc) := RB2.out.cell 1
        have c1_2 : y2.cell? ⟨Bl, 0, none⟩ = some (Value.int .i64 d) := BS2.out.cell 0
        have c2_2 : y2.cell? ⟨Bl, 1, none⟩ = some (Value.slice la lm lc) := BS2.out.cell 1
        have hs2 : Hid ((fun uu => uu.cell? ⟨rb, 1, none⟩ = some (Value.slice va j vc) ∧ uu.cell? ⟨Bl, 0, none⟩ = some (Value.int .i64 d) ∧ uu.cell? ⟨Bl, 1, none⟩ = some (Value.slice la lm lc)) y2) := ⟨c0_2, c1_2, c2_2⟩
        refine hK _ _ (Sx.before (by kernel_rfl) hs2.out) ?_
        clear hK K
        try go_simp
        refine wpAnyX_ready (rs := [9]) (by kernel_rfl) (by simp) (AllX.cons rfl (fun K hK => ?_) AllX.nil)
        refine step_appS _ rfl _ _ rfl M (.slice va j vc) l (⟨d, l2, a2, c2⟩ : Sg) (by first | rfl | simp [Act.eval]) OS2.out gn 1 (by first | rfl | simp [Act.eval]) h0.out h1.out (by have := HLL.out; omega) (Nat.le_trans HMZ.out BK2.out.size) ?_
        intro v9 y3 ho hg hat
        obtain ⟨p9, ZN9⟩ : ∃ p9, Hid (Zn M y3.heap.size v9 (l ++ [(⟨d, l2, a2, c2⟩ : Sg)]) p9 y3) := ⟨_, Zn.app ZN.out HMZ.out BK2.out LX2.out hg ho hat⟩
        have KB3 := kide (Below.grown KB2.out hg KB2.out.size (fun b hb => by have := (OS2.out.lt hb).1; have := HMR.out; have := HRW.out; omega))
        have XB3 : Hid (Bz y3 b0 #[Value.slice (some ⟨b1, o1, none⟩) dn dc, Value.slice (some ⟨b3, o3, none⟩) n sc, Value.int .i64 nx] 30) := (hg.block _ XB2.out.lt (fun e => by have := (OS2.out.lt e.symm).1; have := HMR.out; have := HMB.out; have := HMS.out; omega)).trans XB2.out
        have XR3 : Hid (Bz y3 (b0 + 1) #[Value.slice none 0 0, Value.slice none 0 0, Value.int .i64 0] 30) := (hg.block _ XR2.out.lt (fun e => by have := (OS2.out.lt e.symm).1; have := HMR.out; have := HMB.out; have := HMS.out; omega)).trans XR2.out
        have RB3 : Hid (Bz y3 rb #[Value.slice (some ⟨gm, 0, none⟩) dn dn, Value.slice va j vc, Value.int .i64 nx] 30) := (hg.block _ RB2.out.lt (fun e => by have := (OS2.out.lt e.symm).1; have := HMR.out; have := HMB.out; have := HMS.out; omega)).trans RB2.out
        have VD3 : Hid (OD2 y3 w.heap.size (.slice (some ⟨gm, 0, none⟩) dn dn) ds) := VD2.out.move (fun b hb => hg.block b (VD2.out.lt hb).2 (fun e => by have := (OS2.out.lt e.symm).1; have := HVM.out b hb; omega))
        have HMZ9 : Hid (M ≤ y3.heap.size) := Nat.le_trans (Nat.le_trans HMZ.out BK2.out.size) hg.size
        have BS3 : Hid (Bz y3 Bl #[Value.int .i64 d, Value.slice la lm lc] 63) := (hg.block _ BS2.out.lt (fun e => by have := (ZN.out.row.lt e.symm).2; have := HBL.out; omega)).trans BS2.out
        obtain ⟨a9, c9, rfl⟩ := ho.form
        have hll9 : (l ++ [(⟨d, l2, a2, c2⟩ : Sg)]).length = j + 1 := by rw [List.length_append, HLL.out]; rfl
        have HL9 := kide hll9
        have HM9 : Hid ((l ++ [(⟨d, l2, a2, c2⟩ : Sg)]).map Sg.ct = (xs.take (j + 1)).map Sg.ct) := HCT.out _ (by simp only [Sg.ct]; rw [M2.out])
        rw [hll9] at ZN9
        rw [hll9]
        clear ho hg hat hll9
        have c0_3 : y3.cell? ⟨rb, 1, none⟩ = some (Value.slice va j vc) := RB3.out.cell 1
        have c1_3 : y3.cell? ⟨Bl, 0, none⟩ = some (Value.int .i64 d) := BS3.out.cell 0
        have c2_3 : y3.cell? ⟨Bl, 1, none⟩ = some (Value.slice la lm lc) := BS3.out.cell 1
        have hs3 : Hid ((fun uu => uu.cell? ⟨rb, 1, none⟩ = some (Value.slice va j vc) ∧ uu.cell? ⟨Bl, 0, none⟩ = some (Value.int .i64 d) ∧ uu.cell? ⟨Bl, 1, none⟩ = some (Value.slice la lm lc)) y3) := ⟨c0_3, c1_3, c2_3⟩
        refine hK _ _ (Sx.before (by kernel_rfl) hs3.out) ?_
        clear hK K
        try go_simp
        refine wpAnyX_both (T := fun _ => True) (i := 10) (v := Value.pointer (some ⟨rb, 1, none⟩)) rfl (by kernel_rfl) (by kernel_rfl) (by kernel_rfl) (fun _ _ _ h => by first | exact h | exact h.elim) (by decide) (fun _ _ => trivial) (fun _ _ => trivial) (Sx.before (by kernel_rfl) hs3.out) (Or.inl ⟨by rfl, fun uu hu => by go_simp⟩) ?_
        try go_simp
        refine wpAnyX_ready (rs := [11]) (by kernel_rfl) (by simp) (AllX.cons rfl (fun K hK => ?_) AllX.nil)
        have e1 := RB3.out.cell 1
        have f1 := RB3.out.froz 1
        simp at e1
        go_simp
        have RB4 : Hid (Bz (y3.setCell ⟨rb, 1, none⟩ (Value.slice a9 (j + 1) c9)) rb #[Value.slice (some ⟨gm, 0, none⟩) dn dn, Value.slice a9 (j + 1) c9, Value.int .i64 nx] 30) := RB3.out.set 1 _
        have XB4 : Hid (Bz (y3.setCell ⟨rb, 1, none⟩ (Value.slice a9 (j + 1) c9)) b0 #[Value.slice (some ⟨b1, o1, none⟩) dn dc, Value.slice (some ⟨b3, o3, none⟩) n sc, Value.int .i64 nx] 30) := XB3.out.other HBR.out 1 _
        have XR4 : Hid (Bz (y3.setCell ⟨rb, 1, none⟩ (Value.slice a9 (j + 1) c9)) (b0 + 1) #[Value.slice none 0 0, Value.slice none 0 0, Value.int .i64 0] 30) := XR3.out.other HBS.out 1 _
        have VD4 : Hid (OD2 (y3.setCell ⟨rb, 1, none⟩ (Value.slice a9 (j + 1) c9)) w.heap.size (.slice (some ⟨gm, 0, none⟩) dn dn) ds) := VD3.out.set_other RB3.out (by decide) 1 _
        have KB4 : Hid (Below w.heap.size w (y3.setCell ⟨rb, 1, none⟩ (Value.slice a9 (j + 1) c9))) := KB3.out.setCell (show _ ≤ rb from HRW.out) _
        have hsz : (y3.setCell ⟨rb, 1, none⟩ (Value.slice a9 (j + 1) c9)).heap.size = y3.heap.size := by simp
        have ZN4 : Hid (Zn M (y3.setCell ⟨rb, 1, none⟩ (Value.slice a9 (j + 1) c9)).heap.size (.slice a9 (j + 1) c9) (l ++ [(⟨d, l2, a2, c2⟩ : Sg)]) p9 (y3.setCell ⟨rb, 1, none⟩ (Value.slice a9 (j + 1) c9))) := by show Zn _ _ _ _ _ _; rw [hsz]; exact ZN9.out.out (Out.setc y3 rb 1 _) (.inr HMR.out)
        have HMZ4 : Hid (M ≤ (y3.setCell ⟨rb, 1, none⟩ (Value.slice a9 (j + 1) c9)).heap.size) := by show _ ≤ _; rw [hsz]; exact HMZ9.out
        clear e1 f1 hsz
        generalize y3.setCell ⟨rb, 1, none⟩ (Value.slice a9 (j + 1) c9) = y4 at *
        refine hK _ _ (Sx.behind (by kernel_rfl) trivial) ?_
        clear hK K
        try go_simp
        refine wpAnyX_done (by kernel_rfl) ?_ _
        go_wp2_with fail
        go_roundw
        case rel => exact ⟨j + 1, a9, c9, l ++ [(⟨d, l2, a2, c2⟩ : Sg)], p9, by omega, by go_num, HL9.out, ZN4.out, HM9.out, RB4.out, XB4.out, XR4.out, VD4.out, HMZ4.out, KB4.out⟩
        case measure => simp [intOf]; omega
      · have e : n = j := by omega
        have HCT : Hid (l.map Sg.ct = xs.map Sg.ct) := by show _ = _; rw [hct, List.take_of_length_le (by rw [HN.out]; omega)]
        subst e
        clear hct zn rbz xr vd kb hll hmz
        have q0 := RB.out.cell 0
        have q1 := RB.out.cell 1
        have q2 := RB.out.cell 2
        have r0 := XR.out.cell 0
        have r1 := XR.out.cell 1
        have r2 := XR.out.cell 2
        have f0 := XR.out.froz 0
        have f1 := XR.out.froz 1
        have f2 := XR.out.froz 2
        simp at q0 q1 q2 r0 r1 r2
        go_wp2_with fail
        have XR1 : Hid (Bz (((wr.setCell ⟨b0 + 1, 0, none⟩ (Value.slice (some ⟨gm, 0, none⟩) dn dn)).setCell ⟨b0 + 1, 1, none⟩ (Value.slice va n vc)).setCell ⟨b0 + 1, 2, none⟩ (Value.int .i64 nx)) (b0 + 1) #[Value.slice (some ⟨gm, 0, none⟩) dn dn, Value.slice va n vc, Value.int .i64 nx] 30) := (((XR.out.set 0 (Value.slice (some ⟨gm, 0, none⟩) dn dn)).set 1 (Value.slice va n vc)).set 2 (Value.int .i64 nx))
        have VD1 : Hid (OD2 (((wr.setCell ⟨b0 + 1, 0, none⟩ (Value.slice (some ⟨gm, 0, none⟩) dn dn)).setCell ⟨b0 + 1, 1, none⟩ (Value.slice va n vc)).setCell ⟨b0 + 1, 2, none⟩ (Value.int .i64 nx)) w.heap.size (.slice (some ⟨gm, 0, none⟩) dn dn) ds) := (OD2.set_other (OD2.set_other (OD2.set_other VD.out XR.out (by decide) 0 (Value.slice (some ⟨gm, 0, none⟩) dn dn)) (XR.out.set 0 (Value.slice (some ⟨gm, 0, none⟩) dn dn)) (by decide) 1 (Value.slice va n vc)) ((XR.out.set 0 (Value.slice (some ⟨gm, 0, none⟩) dn dn)).set 1 (Value.slice va n vc)) (by decide) 2 (Value.int .i64 nx))
        have hsz : (((wr.setCell ⟨b0 + 1, 0, none⟩ (Value.slice (some ⟨gm, 0, none⟩) dn dn)).setCell ⟨b0 + 1, 1, none⟩ (Value.slice va n vc)).setCell ⟨b0 + 1, 2, none⟩ (Value.int .i64 nx)).heap.size = wr.heap.size := by simp
        have ZN1 : Hid (Zn M (((wr.setCell ⟨b0 + 1, 0, none⟩ (Value.slice (some ⟨gm, 0, none⟩) dn dn)).setCell ⟨b0 + 1, 1, none⟩ (Value.slice va n vc)).setCell ⟨b0 + 1, 2, none⟩ (Value.int .i64 nx)).heap.size (.slice va n vc) l p (((wr.setCell ⟨b0 + 1, 0, none⟩ (Value.slice (some ⟨gm, 0, none⟩) dn dn)).setCell ⟨b0 + 1, 1, none⟩ (Value.slice va n vc)).setCell ⟨b0 + 1, 2, none⟩ (Value.int .i64 nx))) := by show Zn _ _ _ _ _ _; rw [hsz]; exact (Zn.out (Zn.out (Zn.out ZN.out (Out.setc wr (b0 + 1) 0 (Value.slice (some ⟨gm, 0, none⟩) dn dn)) (.inr HMS.out)) (Out.setc (wr.setCell ⟨b0 + 1, 0, none⟩ (Value.slice (some ⟨gm, 0, none⟩) dn dn)) (b0 + 1) 1 (Value.slice va n vc)) (.inr HMS.out)) (Out.setc ((wr.setCell ⟨b0 + 1, 0, none⟩ (Value.slice (some ⟨gm, 0, none⟩) dn dn)).setCell ⟨b0 + 1, 1, none⟩ (Value.slice va n vc)) (b0 + 1) 2 (Value.int .i64 nx)) (.inr HMS.out))
        have KB1 : Hid (Below w.heap.size w (((wr.setCell ⟨b0 + 1, 0, none⟩ (Value.slice (some ⟨gm, 0, none⟩) dn dn)).setCell ⟨b0 + 1, 1, none⟩ (Value.slice va n vc)).setCell ⟨b0 + 1, 2, none⟩ (Value.int .i64 nx))) := (((KB.out.setCell (show _ ≤ b0 + 1 by have := HB0.out; omega) _).setCell (show _ ≤ b0 + 1 by have := HB0.out; omega) _).setCell (show _ ≤ b0 + 1 by have := HB0.out; omega) _)
        clear q0 q1 q2 r0 r1 r2 f0 f1 f2 hsz
        generalize (((wr.setCell ⟨b0 + 1, 0, none⟩ (Value.slice (some ⟨gm, 0, none⟩) dn dn)).setCell ⟨b0 + 1, 1, none⟩ (Value.slice va n vc)).setCell ⟨b0 + 1, 2, none⟩ (Value.int .i64 nx)) = V at *
        have y0 := XR1.out.cell 0
        have y1 := XR1.out.cell 1
        have y2 := XR1.out.cell 2
        simp at y0 y1 y2
        exact bodyPost_ret (v := .agg #[Value.slice (some ⟨gm, 0, none⟩) dn dn, Value.slice va n vc, Value.int .i64 nx]) (by simp [results, Tryz.results28, go_sem, y0, y1, y2]) rfl ⟨some ⟨gm, 0, none⟩, dn, va, vc, l, p, rfl, VD1.out, ZN1.out.mono (Nat.le_refl _) (by have := HMR.out; have := HRW.out; omega), HCT.out, (fun b hb i x hx => Nat.lt_of_lt_of_le (HVM.out b hb) (ZN1.out.each i x hx).1), (fun b c hb hc => Nat.lt_of_lt_of_le (HVM.out b hb) (ZN1.out.row.lt hc).1), KB1.out⟩
  · go_simp
    have hbx : Below u0.heap.size u0 (u0.alloc (Obj.cells #[Value.slice none 0 0, Value.slice none 0 0, Value.int .i64 0] 30)) := (Below.refl _ _).alloc (Nat.le_refl _) _
    have HU1 := kide (HU0.out.trans (hbx.mono HU0.out.size))
    have XB1 := kide (XB0.out.later hbx)
    have XR1 := kide (XR0.out.later hbx)
    have RB1 : Hid (Bz (u0.alloc (Obj.cells #[Value.slice none 0 0, Value.slice none 0 0, Value.int .i64 0] 30)) u0.heap.size #[Value.slice none 0 0, Value.slice none 0 0, Value.int .i64 0] 30) := Bz.new _ _ _
    have lrb : Hid (W.heap.size ≤ u0.heap.size) := HU0.out.size
    clear hbx
    generalize hqrb : u0.heap.size = rb at *
    generalize u0.alloc (Obj.cells #[Value.slice none 0 0, Value.slice none 0 0, Value.int .i64 0] 30) = u1 at *
    clear hqrb
    have c0_1 : u1.cell? ⟨b0, 0, none⟩ = some (Value.slice (some ⟨b1, o1, none⟩) dn dc) := XB1.out.cell 0
    have c1_1 : u1.cell? ⟨b0, 1, none⟩ = some (Value.slice sa n sc) := XB1.out.cell 1
    have c2_1 : u1.cell? ⟨b0, 2, none⟩ = some (Value.int .i64 nx) := XB1.out.cell 2
    have hs1 : Hid ((fun uu => uu.cell? ⟨b0, 0, none⟩ = some (Value.slice (some ⟨b1, o1, none⟩) dn dc) ∧ uu.cell? ⟨b0, 1, none⟩ = some (Value.slice sa n sc) ∧ uu.cell? ⟨b0, 2, none⟩ = some (Value.int .i64 nx)) u1) := ⟨c0_1, c1_1, c2_1⟩
    refine hK _ _ (Sx.behind (by kernel_rfl) hs1.out) ?_
    clear hK K c0_0 c1_0 c2_0 hs0 HU0 XB0 XR0
    try go_simp
    refine wpAnyX_ready (rs := [3]) (by kernel_rfl) (by simp) (AllX.cons rfl (fun K hK => ?_) AllX.nil)
    go_simp
    have hbx : Below u1.heap.size u1 (u1.alloc (Obj.cells (madeCells #[.string .empty, .int .i64 0] (dn * 2)) 50)) := (Below.refl _ _).alloc (Nat.le_refl _) _
    have HU2 := kide (HU1.out.trans (hbx.mono HU1.out.size))
    have XB2 := kide (XB1.out.later hbx)
    have XR2 := kide (XR1.out.later hbx)
    have RB2 := kide (RB1.out.later hbx)
    have MD2 : Hid (Bz (u1.alloc (Obj.cells (madeCells #[.string .empty, .int .i64 0] (dn * 2)) 50)) u1.heap.size (madeCells #[.string .empty, .int .i64 0] (dn * 2)) 50) := Bz.new _ _ _
    have lgm : Hid (W.heap.size ≤ u1.heap.size) := HU1.out.size
    clear hbx
    generalize hqgm : u1.heap.size = gm at *
    generalize u1.alloc (Obj.cells (madeCells #[.string .empty, .int .i64 0] (dn * 2)) 50) = u2 at *
    clear hqgm
    have c0_2 : u2.cell? ⟨b0, 0, none⟩ = some (Value.slice (some ⟨b1, o1, none⟩) dn dc) := XB2.out.cell 0
    have c1_2 : u2.cell? ⟨b0, 1, none⟩ = some (Value.slice sa n sc) := XB2.out.cell 1
    have c2_2 : u2.cell? ⟨b0, 2, none⟩ = some (Value.int .i64 nx) := XB2.out.cell 2
    have hs2 : Hid ((fun uu => uu.cell? ⟨b0, 0, none⟩ = some (Value.slice (some ⟨b1, o1, none⟩) dn dc) ∧ uu.cell? ⟨b0, 1, none⟩ = some (Value.slice sa n sc) ∧ uu.cell? ⟨b0, 2, none⟩ = some (Value.int .i64 nx)) u2) := ⟨c0_2, c1_2, c2_2⟩
    refine hK _ _ (Sx.behind (by kernel_rfl) hs2.out) ?_
    clear hK K c0_1 c1_1 c2_1 hs1 HU1 XB1 XR1 RB1
    try go_simp
    refine wpAnyX_both (T := (fun _ => True)) (i := 6) (v := Value.agg #[Value.slice (some ⟨gm, 0, none⟩) dn dn, Value.slice none 0 0, Value.int .i64 nx]) rfl (by kernel_rfl) (by kernel_rfl) (by kernel_rfl) (fun _ _ _ h => by first | exact h | exact h.elim) (by decide) (fun _ _ => trivial) (fun _ _ => trivial) (Sx.behind (by kernel_rfl) hs2.out) (Or.inl ⟨by rfl, fun uu hu => by go_simp⟩) ?_
    try go_simp
    refine wpAnyX_ready (rs := [8]) (by kernel_rfl) (by simp) (AllX.cons rfl (fun K hK => ?_) AllX.nil)
    have hne := bz_ne MD2.out RB2.out (by decide)
    have e0 := RB2.out.cell 0
    have f0 := RB2.out.froz 0
    have e1 := RB2.out.cell 1
    have f1 := RB2.out.froz 1
    have e2 := RB2.out.cell 2
    have f2 := RB2.out.froz 2
    simp at e0 e1 e2
    go_simp
    have RB3 : Hid (Bz (((u2.setCell ⟨rb, 0, none⟩ (Value.slice (some ⟨gm, 0, none⟩) dn dn)).setCell ⟨rb, 1, none⟩ (Value.slice none 0 0)).setCell ⟨rb, 2, none⟩ (Value.int .i64 nx)) rb #[Value.slice (some ⟨gm, 0, none⟩) dn dn, Value.slice none 0 0, Value.int .i64 nx] 30) := (((RB2.out.set 0 (Value.slice (some ⟨gm, 0, none⟩) dn dn)).set 1 (Value.slice none 0 0)).set 2 (Value.int .i64 nx))
    have HU3 : Hid (Below W.heap.size W (((u2.setCell ⟨rb, 0, none⟩ (Value.slice (some ⟨gm, 0, none⟩) dn dn)).setCell ⟨rb, 1, none⟩ (Value.slice none 0 0)).setCell ⟨rb, 2, none⟩ (Value.int .i64 nx))) := (((HU2.out.setCell (show _ ≤ rb from lrb.out) _).setCell (show _ ≤ rb from lrb.out) _).setCell (show _ ≤ rb from lrb.out) _)
    have MD3 : Hid (Bz (((u2.setCell ⟨rb, 0, none⟩ (Value.slice (some ⟨gm, 0, none⟩) dn dn)).setCell ⟨rb, 1, none⟩ (Value.slice none 0 0)).setCell ⟨rb, 2, none⟩ (Value.int .i64 nx)) gm (madeCells #[.string .empty, .int .i64 0] (dn * 2)) 50) := (((MD2.out.other hne 0 _).other hne 1 _).other hne 2 _)
    have XB3 : Hid (Bz (((u2.setCell ⟨rb, 0, none⟩ (Value.slice (some ⟨gm, 0, none⟩) dn dn)).setCell ⟨rb, 1, none⟩ (Value.slice none 0 0)).setCell ⟨rb, 2, none⟩ (Value.int .i64 nx)) b0 #[Value.slice (some ⟨b1, o1, none⟩) dn dc, Value.slice sa n sc, Value.int .i64 nx] 30) := (((XB2.out.other (by have := lrb.out; have := HWZ.out; omega) 0 _).other (by have := lrb.out; have := HWZ.out; omega) 1 _).other (by have := lrb.out; have := HWZ.out; omega) 2 _)
    have XR3 : Hid (Bz (((u2.setCell ⟨rb, 0, none⟩ (Value.slice (some ⟨gm, 0, none⟩) dn dn)).setCell ⟨rb, 1, none⟩ (Value.slice none 0 0)).setCell ⟨rb, 2, none⟩ (Value.int .i64 nx)) (b0 + 1) #[Value.slice none 0 0, Value.slice none 0 0, Value.int .i64 0] 30) := (((XR2.out.other (by have := lrb.out; have := HWZ.out; omega) 0 _).other (by have := lrb.out; have := HWZ.out; omega) 1 _).other (by have := lrb.out; have := HWZ.out; omega) 2 _)
    have HNE := kide hne
    clear e0 e1 e2 f0 f1 f2 hne
    generalize (((u2.setCell ⟨rb, 0, none⟩ (Value.slice (some ⟨gm, 0, none⟩) dn dn)).setCell ⟨rb, 1, none⟩ (Value.slice none 0 0)).setCell ⟨rb, 2, none⟩ (Value.int .i64 nx)) = u3 at *
    have c0_3 : u3.cell? ⟨b0, 0, none⟩ = some (Value.slice (some ⟨b1, o1, none⟩) dn dc) := XB3.out.cell 0
    have c1_3 : u3.cell? ⟨b0, 1, none⟩ = some (Value.slice sa n sc) := XB3.out.cell 1
    have c2_3 : u3.cell? ⟨b0, 2, none⟩ = some (Value.int .i64 nx) := XB3.out.cell 2
    have hs3 : Hid ((fun uu => uu.cell? ⟨b0, 0, none⟩ = some (Value.slice (some ⟨b1, o1, none⟩) dn dc) ∧ uu.cell? ⟨b0, 1, none⟩ = some (Value.slice sa n sc) ∧ uu.cell? ⟨b0, 2, none⟩ = some (Value.int .i64 nx)) u3) := ⟨c0_3, c1_3, c2_3⟩
    refine hK _ _ (Sx.behind (by kernel_rfl) hs3.out) ?_
    clear hK K c0_2 c1_2 c2_2 hs2 HU2 XB2 XR2 RB2 MD2
    try go_simp
    refine wpAnyX_done (by kernel_rfl) ?_ _
    have k0 := RB3.out.cell 0
    simp at k0
    clear hmk
    obtain ⟨u4, hrun, ho, hg⟩ := run_copyD u3 3 W.heap.size gm b1 o1 dn dc ds HDN.out (HD.out _ (BW.out.trans (HU3.out.mono BW.out.size))) _ MD3.out (by rw [size_madeCells]) lgm.out
    have HU4 := kide (Below.grown HU3.out hg HU3.out.size (fun b hb => by cases hb; exact lgm.out))
    have XB4 : Hid (Bz u4 b0 #[Value.slice (some ⟨b1, o1, none⟩) dn dc, Value.slice sa n sc, Value.int .i64 nx] 30) := ((hg.block _ XB3.out.lt (fun e => bz_ne MD3.out XB3.out (by decide) (Option.some.inj e).symm)).trans XB3.out)
    have XR4 : Hid (Bz u4 (b0 + 1) #[Value.slice none 0 0, Value.slice none 0 0, Value.int .i64 0] 30) := ((hg.block _ XR3.out.lt (fun e => bz_ne MD3.out XR3.out (by decide) (Option.some.inj e).symm)).trans XR3.out)
    have RB4 : Hid (Bz u4 rb #[Value.slice (some ⟨gm, 0, none⟩) dn dn, Value.slice none 0 0, Value.int .i64 nx] 30) := ((hg.block _ RB3.out.lt (fun e => bz_ne MD3.out RB3.out (by decide) (Option.some.inj e).symm)).trans RB3.out)
    have VD4 := kide ho
    clear ho hg RB3 XB3 XR3 MD3 HU3 c1_3 c2_3 hs3 HNE
    have e1 := XB4.out.cell 1
    simp at e1
    go_wp2_with fail
    obtain ⟨M, hM⟩ : ∃ M, u4.heap.size = M := ⟨_, rfl⟩
    have HMR : Hid (rb < M) := by show _ < _; rw [← hM]; exact RB4.out.lt
    have HMB : Hid (b0 < M) := by show _ < _; rw [← hM]; exact XB4.out.lt
    have HRW : Hid (w.heap.size ≤ rb) := Nat.le_trans BW.out.size lrb.out
    have KB4 := kide (BW.out.trans (HU4.out.mono BW.out.size))
    have VE4 := kide (VD4.out.low BW.out.size)
    have HVM : Hid (∀ b, (Value.slice (some ⟨gm, 0, none⟩) dn dn).ownBlock = some b → b < M) := fun b hb => by rw [← hM]; exact (VD4.out.lt hb).2
    have HMZ4 : Hid (M ≤ u4.heap.size) := by show _ ≤ _; rw [hM]; exact Nat.le_refl _
    have HZ4 : Hid (Zn M u4.heap.size (.slice none 0 0) [] (fun _ => (0, 0)) u4) := Zn.nil _ _ _
    have HBR : Hid (b0 ≠ rb) := by show _ ≠ _; have := lrb.out; have := HWZ.out; omega
    have HBS : Hid (b0 + 1 ≠ rb) := by show _ ≠ _; have := lrb.out; have := HWZ.out; omega
    have HMS : Hid (b0 + 1 < M) := by show _ < _; rw [← hM]; exact XR4.out.lt
    clear hM VD4 HU4 XB XR lrb HWZ BW HDN lgm e1 hrun k0 c0_3
    go_loopw [21] (fun q wr => ∃ (j : Nat) (va : Option Addr) (vc : Nat) (l : List Sg) (p : Nat → Nat × Nat), j ≤ n ∧ q = .int .i64 (j : Int) ∧ l.length = j ∧ Zn M wr.heap.size (.slice va j vc) l p wr ∧ l.map Sg.ct = (xs.take j).map Sg.ct ∧ Bz wr rb #[Value.slice (some ⟨gm, 0, none⟩) dn dn, Value.slice va j vc, Value.int .i64 nx] 30 ∧ Bz wr b0 #[Value.slice (some ⟨b1, o1, none⟩) dn dc, Value.slice sa n sc, Value.int .i64 nx] 30 ∧ Bz wr (b0 + 1) #[Value.slice none 0 0, Value.slice none 0 0, Value.int .i64 0] 30 ∧ OD2 wr w.heap.size (.slice (some ⟨gm, 0, none⟩) dn dn) ds ∧ M ≤ wr.heap.size ∧ Below w.heap.size w wr) (fun q _ => n - (intOf q).toNat)
    case atStart => exact ⟨0, none, 0, [], _, Nat.zero_le _, rfl, rfl, HZ4.out, rfl, RB4.out, XB4.out, XR4.out, VE4.out, HMZ4.out, KB4.out⟩
    case round =>
      obtain ⟨j, va, vc, l, p, hj, rfl, hll, zn, hct, rbz, xb, xr, vd, hmz, kb⟩ := hrel
      have ZN := kide zn
      have RB := kide rbz
      have XB := kide xb
      have XR := kide xr
      have VD := kide vd
      have HMZ := kide hmz
      have KB := kide kb
      have HLL := kide hll
      clear RB4 XB4 XR4 VE4 HMZ4 HZ4 KB4
      clear xb
      by_cases hlt : j < n
      · have i0 : (j : Int) < (n : Int) := by omega
        obtain ⟨x, gx⟩ : ∃ x, xs[j]? = some x := ⟨xs[j]'(by rw [HN.out]; exact hlt), List.getElem?_eq_getElem _⟩
        have hsn := HSN.out x (List.mem_of_getElem? gx)
        have hct2 : ∀ y : Sg, y.ct = x.ct → (l ++ [y]).map Sg.ct = (xs.take (j + 1)).map Sg.ct := fun y hy => by
          rw [List.take_add_one, gx, List.map_append, List.map_append, hct]
          simp [hy]
        obtain ⟨b3, o3, rfl, HRN⟩ : ∃ b3 o3, sa = some ⟨b3, o3, none⟩ ∧ Hid (∀ u, Below w.heap.size w u → SgAt u b3 (o3 + j * 2) x) := by
          obtain ⟨b3, o3, rfl, -⟩ := (HS.out w (Below.refl _ _)).at gx
          refine ⟨b3, o3, rfl, fun u hu => ?_⟩
          obtain ⟨b4, o4, e4, h4⟩ := (HS.out u hu).at gx
          cases e4
          exact h4
        obtain ⟨d, ls, la, lc⟩ := x
        simp only [SgAt] at HRN hsn hct2
        obtain ⟨lm, hlm⟩ : ∃ lm, ls.length = lm := ⟨_, rfl⟩
        have HLM := kide hlm
        rw [hlm] at HRN
        have HCT := kide hct2
        have HSL := kide hsn
        have HRL := kide (fun u (hu : Below w.heap.size w u) => (HRN.out u hu).2.1)
        clear hct2 hct zn rbz xr vd kb hll hmz gx hsn hlm
        obtain ⟨⟨p0, p1⟩, -⟩ := HRN.out wr KB.out
        obtain ⟨Bl, hBl⟩ : ∃ Bl, wr.heap.size = Bl := ⟨_, rfl⟩
        have HBL := kide hBl
        have hbx : Below wr.heap.size wr (wr.alloc (.cells #[Value.int .i64 d, Value.slice la lm lc] 63)) := (Below.refl _ _).alloc (Nat.le_refl _) _
        have BS1 := kide (Bz.new wr #[Value.int .i64 d, Value.slice la lm lc] (63))
        rw [hBl] at BS1
        have XB1 := kide (XB.out.later hbx)
        have XR1 := kide (XR.out.later hbx)
        have RB1 := kide (RB.out.later hbx)
        have VD1 := kide (VD.out.later hbx)
        have KB1 := kide (KB.out.trans (hbx.mono KB.out.size))
        have BK1 := kide hbx
        clear hbx
        go_wp2_with fail
        try simp only [hBl]
        clear p0 p1 hBl
        generalize wr.alloc (.cells #[Value.int .i64 d, Value.slice la lm lc] 63) = w1 at *
        refine wp_region_x (SA := fun uu => uu.cell? ⟨rb, 1, none⟩ = some (Value.slice va j vc) ∧ uu.cell? ⟨Bl, 0, none⟩ = some (Value.int .i64 d) ∧ uu.cell? ⟨Bl, 1, none⟩ = some (Value.slice la lm lc)) (SB := fun _ => True) (k := 11) (by kernel_rfl) ?_
        have hbd : Below w1.heap.size w1 w1.drew := (Below.refl _ _).drew
        have XB0 := kide (XB1.out.later hbd)
        have XR0 := kide (XR1.out.later hbd)
        have RB0 := kide (RB1.out.later hbd)
        have VD0 := kide (VD1.out.later hbd)
        have BS0 := kide (BS1.out.later hbd)
        have KB0 := kide (KB1.out.trans (hbd.mono KB1.out.size))
        have BK0 := kide (BK1.out.trans (hbd.mono BK1.out.size))
        clear hbd XB1 XR1 RB1 VD1 BS1 KB1 BK1
        generalize w1.drew = y0 at *
        have c0_0 : y0.cell? ⟨rb, 1, none⟩ = some (Value.slice va j vc) := RB0.out.cell 1
        have c1_0 : y0.cell? ⟨Bl, 0, none⟩ = some (Value.int .i64 d) := BS0.out.cell 0
        have c2_0 : y0.cell? ⟨Bl, 1, none⟩ = some (Value.slice la lm lc) := BS0.out.cell 1
        have hs0 : Hid ((fun uu => uu.cell? ⟨rb, 1, none⟩ = some (Value.slice va j vc) ∧ uu.cell? ⟨Bl, 0, none⟩ = some (Value.int .i64 d) ∧ uu.cell? ⟨Bl, 1, none⟩ = some (Value.slice la lm lc)) y0) := ⟨c0_0, c1_0, c2_0⟩
        try go_simp
        refine wpAnyX_both (T := fun _ => True) (i := 0) (v := Value.pointer (some ⟨rb, 1, none⟩)) rfl (by kernel_rfl) (by kernel_rfl) (by kernel_rfl) (fun _ _ _ h => by first | exact h | exact h.elim) (by decide) (fun _ _ => trivial) (fun _ _ => trivial) (Sx.before (by kernel_rfl) hs0.out) (Or.inl ⟨by rfl, fun uu hu => by go_simp⟩) ?_
        try go_simp
        refine wpAnyX_take (i := 1) (v := Value.slice va j vc) rfl (by kernel_rfl) (by kernel_rfl) (by kernel_rfl) (fun _ _ _ h => by first | exact h | exact h.elim) (by decide) (by kernel_rfl) (by kernel_rfl) hs0.out (Or.inl ⟨by rfl, fun uu hu => by obtain ⟨e0, e1, e2⟩ := hu; go_simp⟩) ?_
        try go_simp
        refine wpAnyX_both (T := fun _ => True) (i := 2) (v := Value.pointer (some ⟨Bl, 0, none⟩)) rfl (by kernel_rfl) (by kernel_rfl) (by kernel_rfl) (fun _ _ _ h => by first | exact h | exact h.elim) (by decide) (fun _ _ => trivial) (fun _ _ => trivial) (Sx.before (by kernel_rfl) hs0.out) (Or.inl ⟨by rfl, fun uu hu => by go_simp⟩) ?_
        try go_simp
        refine wpAnyX_take (i := 3) (v := Value.int .i64 d) rfl (by kernel_rfl) (by kernel_rfl) (by kernel_rfl) (fun _ _ _ h => by first | exact h | exact h.elim) (by decide) (by kernel_rfl) (by kernel_rfl) hs0.out (Or.inl ⟨by rfl, fun uu hu => by obtain ⟨e0, e1, e2⟩ := hu; go_simp⟩) ?_
        try go_simp
        refine wpAnyX_both (T := fun _ => True) (i := 4) (v := Value.pointer (some ⟨Bl, 1, none⟩)) rfl (by kernel_rfl) (by kernel_rfl) (by kernel_rfl) (fun _ _ _ h => by first | exact h | exact h.elim) (by decide) (fun _ _ => trivial) (fun _ _ => trivial) (Sx.before (by kernel_rfl) hs0.out) (Or.inl ⟨by rfl, fun uu hu => by go_simp⟩) ?_
        try go_simp
        refine wpAnyX_take (i := 5) (v := Value.slice la lm lc) rfl (by kernel_rfl) (by kernel_rfl) (by kernel_rfl) (fun _ _ _ h => by first | exact h | exact h.elim) (by decide) (by kernel_rfl) (by kernel_rfl) hs0.out (Or.inl ⟨by rfl, fun uu hu => by obtain ⟨e0, e1, e2⟩ := hu; go_simp⟩) ?_
        try go_simp
        refine wpAnyX_ready (rs := [6]) (by kernel_rfl) (by simp) (AllX.cons rfl (fun K hK => ?_) AllX.nil)
        go_simp
        refine Calls.mono (copyLits_any la lm lc ls _ (HRL.out _ KB0.out) HLM.out HSL.out) ?_
        rintro e y1 ⟨a2, c2, l2, p2, rfl, hln, hm2, hb2⟩
        have hl2 : l2.length = lm := by have := congrArg List.length hm2; simp at this; rw [this]; exact HLM.out
        have HL2 := kide hl2
        have M2 := kide hm2
        have LX1 : Hid (Lx wr.heap.size y1.heap.size (⟨d, l2, a2, c2⟩ : Sg) y1) := ⟨p2, by simp only []; rw [hl2]; exact hln.mono (Nat.le_refl _) BK0.out.size⟩
        have XB1 := kide (XB0.out.later hb2)
        have XR1 := kide (XR0.out.later hb2)
        have RB1 := kide (RB0.out.later hb2)
        have VD1 := kide (VD0.out.later hb2)
        have KB1 := kide (KB0.out.trans (hb2.mono KB0.out.size))
        have BK1 := kide (BK0.out.trans (hb2.mono BK0.out.size))
        have BS1 := kide (BS0.out.later hb2)
        clear hln hm2 hb2 hl2
        have c0_1 : y1.cell? ⟨rb, 1, none⟩ = some (Value.slice va j vc) := RB1.out.cell 1
        have c1_1 : y1.cell? ⟨Bl, 0, none⟩ = some (Value.int .i64 d) := BS1.out.cell 0
        have c2_1 : y1.cell? ⟨Bl, 1, none⟩ = some (Value.slice la lm lc) := BS1.out.cell 1
        have hs1 : Hid ((fun uu => uu.cell? ⟨rb, 1, none⟩ = some (Value.slice va j vc) ∧ uu.cell? ⟨Bl, 0, none⟩ = some (Value.int .i64 d) ∧ uu.cell? ⟨Bl, 1, none⟩ = some (Value.slice la lm lc)) y1) := ⟨c0_1, c1_1, c2_1⟩
        refine hK _ _ (Sx.before (by kernel_rfl) hs1.out) ?_
        clear hK K
        try go_simp
        refine wpAnyX_both (T := fun _ => True) (i := 7) (v := Value.agg #[Value.int .i64 d, Value.slice a2 lm c2]) rfl (by kernel_rfl) (by kernel_rfl) (by kernel_rfl) (fun _ _ _ h => by first | exact h | exact h.elim) (by decide) (fun _ _ => trivial) (fun _ _ => trivial) (Sx.before (by kernel_rfl) hs1.out) (Or.inl ⟨by rfl, fun uu hu => by go_simp⟩) ?_
        try go_simp
        refine wpAnyX_ready (rs := [8]) (by kernel_rfl) (by simp) (AllX.cons rfl (fun K hK => ?_) AllX.nil)
        go_simp
        have hbx : Below y1.heap.size y1 (y1.alloc (.cells #[Value.int .i64 d, Value.slice a2 lm c2] 63)) := (Below.refl _ _).alloc (Nat.le_refl _) _
        have XN2 := kide (Bz.new y1 #[Value.int .i64 d, Value.slice a2 lm c2] (63))
        have LX2 : Hid (Lx wr.heap.size (y1.alloc (.cells #[Value.int .i64 d, Value.slice a2 lm c2] 63)).heap.size (⟨d, l2, a2, c2⟩ : Sg) (y1.alloc (.cells #[Value.int .i64 d, Value.slice a2 lm c2] 63))) := by
          obtain ⟨q, hq⟩ := LX1.out.later hbx
          exact ⟨q, hq.mono hbx.size (Nat.le_refl _)⟩
        have XB2 := kide (XB1.out.later hbx)
        have XR2 := kide (XR1.out.later hbx)
        have RB2 := kide (RB1.out.later hbx)
        have VD2 := kide (VD1.out.later hbx)
        have KB2 := kide (KB1.out.trans (hbx.mono KB1.out.size))
        have BK2 := kide (BK1.out.trans (hbx.mono BK1.out.size))
        have BS2 := kide (BS1.out.later hbx)
        obtain ⟨gn, hgn⟩ : ∃ x, y1.heap.size = x := ⟨_, rfl⟩
        rw [hgn] at XN2
        simp only [hgn]
        clear hbx hgn
        generalize y1.alloc (.cells #[Value.int .i64 d, Value.slice a2 lm c2] 63) = y2 at *
        have OS2 := kide (ZN.out.row.later BK2.out)
        have h0 : Hid (y2.cell? ⟨gn, 0, none⟩ = some (.int .i64 d)) := XN2.out.cell 0
        have h1 : Hid (y2.cell? ⟨gn, 1, none⟩ = some (.slice a2 l2.length c2)) := by show _ = _; rw [HL2.out]; exact XN2.out.cell 1
        have c0_2 : y2.cell? ⟨rb, 1, none⟩ = some (Value.slice va j vc) := RB2.out.cell 1
        have c1_2 : y2.cell? ⟨Bl, 0, none⟩ = some (Value.int .i64 d) := BS2.out.cell 0
        have c2_2 : y2.cell? ⟨Bl, 1, none⟩ = some (Value.slice la lm lc) := BS2.out.cell 1
        have hs2 : Hid ((fun uu => uu.cell? ⟨rb, 1, none⟩ = some (Value.slice va j vc) ∧ uu.cell? ⟨Bl, 0, none⟩ = some (Value.int .i64 d) ∧ uu.cell? ⟨Bl, 1, none⟩ = some (Value.slice la lm lc)) y2) := ⟨c0_2, c1_2, c2_2⟩
        refine hK _ _ (Sx.before (by kernel_rfl) hs2.out) ?_
        clear hK K
        try go_simp
        refine wpAnyX_ready (rs := [9]) (by kernel_rfl) (by simp) (AllX.cons rfl (fun K hK => ?_) AllX.nil)
        refine step_appS _ rfl _ _ rfl M (.slice va j vc) l (⟨d, l2, a2, c2⟩ : Sg) (by first | rfl | simp [Act.eval]) OS2.out gn 1 (by first | rfl | simp [Act.eval]) h0.out h1.out (by have := HLL.out; omega) (Nat.le_trans HMZ.out BK2.out.size) ?_
        intro v9 y3 ho hg hat
        obtain ⟨p9, ZN9⟩ : ∃ p9, Hid (Zn M y3.heap.size v9 (l ++ [(⟨d, l2, a2, c2⟩ : Sg)]) p9 y3) := ⟨_, Zn.app ZN.out HMZ.out BK2.out LX2.out hg ho hat⟩
        have KB3 := kide (Below.grown KB2.out hg KB2.out.size (fun b hb => by have := (OS2.out.lt hb).1; have := HMR.out; have := HRW.out; omega))
        have XB3 : Hid (Bz y3 b0 #[Value.slice (some ⟨b1, o1, none⟩) dn dc, Value.slice (some ⟨b3, o3, none⟩) n sc, Value.int .i64 nx] 30) := (hg.block _ XB2.out.lt (fun e => by have := (OS2.out.lt e.symm).1; have := HMR.out; have := HMB.out; have := HMS.out; omega)).trans XB2.out
        have XR3 : Hid (Bz y3 (b0 + 1) #[Value.slice none 0 0, Value.slice none 0 0, Value.int .i64 0] 30) := (hg.block _ XR2.out.lt (fun e => by have := (OS2.out.lt e.symm).1; have := HMR.out; have := HMB.out; have := HMS.out; omega)).trans XR2.out
        have RB3 : Hid (Bz y3 rb #[Value.slice (some ⟨gm, 0, none⟩) dn dn, Value.slice va j vc, Value.int .i64 nx] 30) := (hg.block _ RB2.out.lt (fun e => by have := (OS2.out.lt e.symm).1; have := HMR.out; have := HMB.out; have := HMS.out; omega)).trans RB2.out
        have VD3 : Hid (OD2 y3 w.heap.size (.slice (some ⟨gm, 0, none⟩) dn dn) ds) := VD2.out.move (fun b hb => hg.block b (VD2.out.lt hb).2 (fun e => by have := (OS2.out.lt e.symm).1; have := HVM.out b hb; omega))
        have HMZ9 : Hid (M ≤ y3.heap.size) := Nat.le_trans (Nat.le_trans HMZ.out BK2.out.size) hg.size
        have BS3 : Hid (Bz y3 Bl #[Value.int .i64 d, Value.slice la lm lc] 63) := (hg.block _ BS2.out.lt (fun e => by have := (ZN.out.row.lt e.symm).2; have := HBL.out; omega)).trans BS2.out
        obtain ⟨a9, c9, rfl⟩ := ho.form
        have hll9 : (l ++ [(⟨d, l2, a2, c2⟩ : Sg)]).length = j + 1 := by rw [List.length_append, HLL.out]; rfl
        have HL9 := kide hll9
        have HM9 : Hid ((l ++ [(⟨d, l2, a2, c2⟩ : Sg)]).map Sg.ct = (xs.take (j + 1)).map Sg.ct) := HCT.out _ (by simp only [Sg.ct]; rw [M2.out])
        rw [hll9] at ZN9
        rw [hll9]
        clear ho hg hat hll9
        have c0_3 : y3.cell? ⟨rb, 1, none⟩ = some (Value.slice va j vc) := RB3.out.cell 1
        have c1_3 : y3.cell? ⟨Bl, 0, none⟩ = some (Value.int .i64 d) := BS3.out.cell 0
        have c2_3 : y3.cell? ⟨Bl, 1, none⟩ = some (Value.slice la lm lc) := BS3.out.cell 1
        have hs3 : Hid ((fun uu => uu.cell? ⟨rb, 1, none⟩ = some (Value.slice va j vc) ∧ uu.cell? ⟨Bl, 0, none⟩ = some (Value.int .i64 d) ∧ uu.cell? ⟨Bl, 1, none⟩ = some (Value.slice la lm lc)) y3) := ⟨c0_3, c1_3, c2_3⟩
        refine hK _ _ (Sx.before (by kernel_rfl) hs3.out) ?_
        clear hK K
        try go_simp
        refine wpAnyX_both (T := fun _ => True) (i := 10) (v := Value.pointer (some ⟨rb, 1, none⟩)) rfl (by kernel_rfl) (by kernel_rfl) (by kernel_rfl) (fun _ _ _ h => by first | exact h | exact h.elim) (by decide) (fun _ _ => trivial) (fun _ _ => trivial) (Sx.before (by kernel_rfl) hs3.out) (Or.inl ⟨by rfl, fun uu hu => by go_simp⟩) ?_
        try go_simp
        refine wpAnyX_ready (rs := [11]) (by kernel_rfl) (by simp) (AllX.cons rfl (fun K hK => ?_) AllX.nil)
        have e1 := RB3.out.cell 1
        have f1 := RB3.out.froz 1
        simp at e1
        go_simp
        have RB4 : Hid (Bz (y3.setCell ⟨rb, 1, none⟩ (Value.slice a9 (j + 1) c9)) rb #[Value.slice (some ⟨gm, 0, none⟩) dn dn, Value.slice a9 (j + 1) c9, Value.int .i64 nx] 30) := RB3.out.set 1 _
        have XB4 : Hid (Bz (y3.setCell ⟨rb, 1, none⟩ (Value.slice a9 (j + 1) c9)) b0 #[Value.slice (some ⟨b1, o1, none⟩) dn dc, Value.slice (some ⟨b3, o3, none⟩) n sc, Value.int .i64 nx] 30) := XB3.out.other HBR.out 1 _
        have XR4 : Hid (Bz (y3.setCell ⟨rb, 1, none⟩ (Value.slice a9 (j + 1) c9)) (b0 + 1) #[Value.slice none 0 0, Value.slice none 0 0, Value.int .i64 0] 30) := XR3.out.other HBS.out 1 _
        have VD4 : Hid (OD2 (y3.setCell ⟨rb, 1, none⟩ (Value.slice a9 (j + 1) c9)) w.heap.size (.slice (some ⟨gm, 0, none⟩) dn dn) ds) := VD3.out.set_other RB3.out (by decide) 1 _
        have KB4 : Hid (Below w.heap.size w (y3.setCell ⟨rb, 1, none⟩ (Value.slice a9 (j + 1) c9))) := KB3.out.setCell (show _ ≤ rb from HRW.out) _
        have hsz : (y3.setCell ⟨rb, 1, none⟩ (Value.slice a9 (j + 1) c9)).heap.size = y3.heap.size := by simp
        have ZN4 : Hid (Zn M (y3.setCell ⟨rb, 1, none⟩ (Value.slice a9 (j + 1) c9)).heap.size (.slice a9 (j + 1) c9) (l ++ [(⟨d, l2, a2, c2⟩ : Sg)]) p9 (y3.setCell ⟨rb, 1, none⟩ (Value.slice a9 (j + 1) c9))) := by show Zn _ _ _ _ _ _; rw [hsz]; exact ZN9.out.out (Out.setc y3 rb 1 _) (.inr HMR.out)
        have HMZ4 : Hid (M ≤ (y3.setCell ⟨rb, 1, none⟩ (Value.slice a9 (j + 1) c9)).heap.size) := by show _ ≤ _; rw [hsz]; exact HMZ9.out
        clear e1 f1 hsz
        generalize y3.setCell ⟨rb, 1, none⟩ (Value.slice a9 (j + 1) c9) = y4 at *
        refine hK _ _ (Sx.behind (by kernel_rfl) trivial) ?_
        clear hK K
        try go_simp
        refine wpAnyX_done (by kernel_rfl) ?_ _
        go_wp2_with fail
        go_roundw
        case rel => exact ⟨j + 1, a9, c9, l ++ [(⟨d, l2, a2, c2⟩ : Sg)], p9, by omega, by go_num, HL9.out, ZN4.out, HM9.out, RB4.out, XB4.out, XR4.out, VD4.out, HMZ4.out, KB4.out⟩
        case measure => simp [intOf]; omega
      · have e : n = j := by omega
        have HCT : Hid (l.map Sg.ct = xs.map Sg.ct) := by show _ = _; rw [hct, List.take_of_length_le (by rw [HN.out]; omega)]
        subst e
        clear hct zn rbz xr vd kb hll hmz
        have q0 := RB.out.cell 0
        have q1 := RB.out.cell 1
        have q2 := RB.out.cell 2
        have r0 := XR.out.cell 0
        have r1 := XR.out.cell 1
        have r2 := XR.out.cell 2
        have f0 := XR.out.froz 0
        have f1 := XR.out.froz 1
        have f2 := XR.out.froz 2
        simp at q0 q1 q2 r0 r1 r2
        go_wp2_with fail
        have XR1 : Hid (Bz (((wr.setCell ⟨b0 + 1, 0, none⟩ (Value.slice (some ⟨gm, 0, none⟩) dn dn)).setCell ⟨b0 + 1, 1, none⟩ (Value.slice va n vc)).setCell ⟨b0 + 1, 2, none⟩ (Value.int .i64 nx)) (b0 + 1) #[Value.slice (some ⟨gm, 0, none⟩) dn dn, Value.slice va n vc, Value.int .i64 nx] 30) := (((XR.out.set 0 (Value.slice (some ⟨gm, 0, none⟩) dn dn)).set 1 (Value.slice va n vc)).set 2 (Value.int .i64 nx))
        have VD1 : Hid (OD2 (((wr.setCell ⟨b0 + 1, 0, none⟩ (Value.slice (some ⟨gm, 0, none⟩) dn dn)).setCell ⟨b0 + 1, 1, none⟩ (Value.slice va n vc)).setCell ⟨b0 + 1, 2, none⟩ (Value.int .i64 nx)) w.heap.size (.slice (some ⟨gm, 0, none⟩) dn dn) ds) := (OD2.set_other (OD2.set_other (OD2.set_other VD.out XR.out (by decide) 0 (Value.slice (some ⟨gm, 0, none⟩) dn dn)) (XR.out.set 0 (Value.slice (some ⟨gm, 0, none⟩) dn dn)) (by decide) 1 (Value.slice va n vc)) ((XR.out.set 0 (Value.slice (some ⟨gm, 0, none⟩) dn dn)).set 1 (Value.slice va n vc)) (by decide) 2 (Value.int .i64 nx))
        have hsz : (((wr.setCell ⟨b0 + 1, 0, none⟩ (Value.slice (some ⟨gm, 0, none⟩) dn dn)).setCell ⟨b0 + 1, 1, none⟩ (Value.slice va n vc)).setCell ⟨b0 + 1, 2, none⟩ (Value.int .i64 nx)).heap.size = wr.heap.size := by simp
        have ZN1 : Hid (Zn M (((wr.setCell ⟨b0 + 1, 0, none⟩ (Value.slice (some ⟨gm, 0, none⟩) dn dn)).setCell ⟨b0 + 1, 1, none⟩ (Value.slice va n vc)).setCell ⟨b0 + 1, 2, none⟩ (Value.int .i64 nx)).heap.size (.slice va n vc) l p (((wr.setCell ⟨b0 + 1, 0, none⟩ (Value.slice (some ⟨gm, 0, none⟩) dn dn)).setCell ⟨b0 + 1, 1, none⟩ (Value.slice va n vc)).setCell ⟨b0 + 1, 2, none⟩ (Value.int .i64 nx))) := by show Zn _ _ _ _ _ _; rw [hsz]; exact (Zn.out (Zn.out (Zn.out ZN.out (Out.setc wr (b0 + 1) 0 (Value.slice (some ⟨gm, 0, none⟩) dn dn)) (.inr HMS.out)) (Out.setc (wr.setCell ⟨b0 + 1, 0, none⟩ (Value.slice (some ⟨gm, 0, none⟩) dn dn)) (b0 + 1) 1 (Value.slice va n vc)) (.inr HMS.out)) (Out.setc ((wr.setCell ⟨b0 + 1, 0, none⟩ (Value.slice (some ⟨gm, 0, none⟩) dn dn)).setCell ⟨b0 + 1, 1, none⟩ (Value.slice va n vc)) (b0 + 1) 2 (Value.int .i64 nx)) (.inr HMS.out))
        have KB1 : Hid (Below w.heap.size w (((wr.setCell ⟨b0 + 1, 0, none⟩ (Value.slice (some ⟨gm, 0, none⟩) dn dn)).setCell ⟨b0 + 1, 1, none⟩ (Value.slice va n vc)).setCell ⟨b0 + 1, 2, none⟩ (Value.int .i64 nx))) := (((KB.out.setCell (show _ ≤ b0 + 1 by have := HB0.out; omega) _).setCell (show _ ≤ b0 + 1 by have := HB0.out; omega) _).setCell (show _ ≤ b0 + 1 by have := HB0.out; omega) _)
        clear q0 q1 q2 r0 r1 r2 f0 f1 f2 hsz
        generalize (((wr.setCell ⟨b0 + 1, 0, none⟩ (Value.slice (some ⟨gm, 0, none⟩) dn dn)).setCell ⟨b0 + 1, 1, none⟩ (Value.slice va n vc)).setCell ⟨b0 + 1, 2, none⟩ (Value.int .i64 nx)) = V at *
        have y0 := XR1.out.cell 0
        have y1 := XR1.out.cell 1
        have y2 := XR1.out.cell 2
        simp at y0 y1 y2
        exact bodyPost_ret (v := .agg #[Value.slice (some ⟨gm, 0, none⟩) dn dn, Value.slice va n vc, Value.int .i64 nx]) (by simp [results, Tryz.results28, go_sem, y0, y1, y2]) rfl ⟨some ⟨gm, 0, none⟩, dn, va, vc, l, p, rfl, VD1.out, ZN1.out.mono (Nat.le_refl _) (by have := HMR.out; have := HRW.out; omega), HCT.out, (fun b hb i x hx => Nat.lt_of_lt_of_le (HVM.out b hb) (ZN1.out.each i x hx).1), (fun b c hb hc => Nat.lt_of_lt_of_le (HVM.out b hb) (ZN1.out.row.lt hc).1), KB1.out⟩

end Go.Proofs.YtofdkdaehhpgbaaGreatDoor
