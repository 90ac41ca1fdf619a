/- SaveSession, on the given side. -/
import Derived.Test.YtofdkdaehhpgbaaGreatDoorVSN
import Derived.Test.YtofdkdaehhpgbaaGreatDoorVSH
import Derived.Test.YtofdkdaehhpgbaaGreatDoorVSM
import Derived.Test.YtofdkdaehhpgbaaGreatDoorVSJ
namespace Go.Proofs.YtofdkdaehhpgbaaGreatDoor
set_option linter.unusedVariables false
set_option linter.unusedSimpArgs false
open Go.RowKit

theorem term_le {w : World} {a : Option Addr} {l : List Tg} (hr : RdT w a l) (hok : ∀ x ∈ l, okM x.ct) : (numB (l.length : Int) ++ l.flatMap nodeG).length ≤ 13000000000000 := by
  have h1 := flatN_le nodeG 12000000 l (fun x hx => by
    obtain ⟨k, gx⟩ := List.getElem?_of_mem hx
    obtain ⟨b, o, -, -, -, hk, i1, i2, i3, i4, -⟩ := hr.facts gx
    exact node_le i1 i2 i3 i4 (hok x hx).1 hk.2.1 hk.1)
  have h2 := hr.1
  have h3 := numB_le (n := (l.length : Int)) ⟨by omega, by omega⟩
  rw [List.length_append]
  omega
theorem decl_le {d : Dc} (h1 : d.1.size ≤ 1048576) (h2 : in64 d.2) : (dclB d).length ≤ 1048700 := by
  unfold dclB nameB
  simp only [List.length_append, bl_len]
  have := numB_le h2
  have := numB_le (n := (d.1.size : Int)) ⟨by omega, by omega⟩
  omega
theorem two_own (w : World) (x y : Nat) : OwB (w.alloc (.cells #[Value.int .u8 (x : Int), Value.int .u8 (y : Int)] 5)) w.heap.size (.slice (some ⟨w.heap.size, 0, none⟩) 2 2) [x, y] :=
  ⟨rfl, .inr ⟨w.heap.size, 2, _, rfl, Nat.le_refl _, heap_alloc_new _ _, Nat.le_refl _, by unfold maxLen; omega, rfl, rfl⟩⟩
theorem right_clear {bw : Int} {ws : List Nat} (h : rightB bw ws = true ∨ bw = 0 ∧ ws = []) : ∀ j, bw.toNat ≤ j → tb ws j = false := by
  intro j hj
  rcases h with h | ⟨-, rfl⟩
  · by_cases hl : j < 64 * ws.length
    · unfold rightB clear at h
      simp only [Bool.and_eq_true, List.all_eq_true] at h
      have := h.2 j (List.mem_range.2 hl)
      simp only [Bool.or_eq_true, decide_eq_true_eq, Bool.not_eq_true'] at this
      rcases this with h1 | h1
      · omega
      · exact h1
    · unfold tb
      rw [List.getD_eq_getElem?_getD, List.getElem?_eq_none (by omega)]
      simp
  · simp [tb]
theorem ses_okM {ds : List Dc} {xs : List Sg} {nx : Int} (h : sesR ds (xs.map Sg.ct) nx = true) : ∀ x ∈ xs, ∀ y ∈ x.ls, (∀ z ∈ y.ss, okM z.ct) ∧ ∀ z ∈ y.ts, okM z.ct := by
  intro x hx y hy
  obtain ⟨h1, h2⟩ := ses_nodes h x.ct (List.mem_map_of_mem hx) y.ct (List.mem_map_of_mem hy)
  exact ⟨fun z hz => (fun q => ⟨q.1, right_clear q.2⟩) (h1 z.ct (List.mem_map_of_mem hz)), fun z hz => (fun q => ⟨q.1, right_clear q.2⟩) (h2 z.ct (List.mem_map_of_mem hz))⟩

set_option maxHeartbeats 4000000 in
set_option maxRecDepth 20000 in
theorem specSave_any (db dp dn dc sb sp n sc : Nat) (nx : Int) (ds : List Dc) (xs : List Sg) (w : World) (hd : RdD w (some ⟨db, dp, none⟩) ds) (hdn : ds.length = dn) (hs : RdS w (some ⟨sb, sp, none⟩) xs) (hn : xs.length = n) (hnx : in64 nx)
    (HSK : Hid (∀ u, Below w.heap.size w u → Calls Tryz.prog 19 #[.agg #[Value.slice (some ⟨db, dp, none⟩) dn dc, Value.slice (some ⟨sb, sp, none⟩) n sc, Value.int .i64 nx]] u fun e w' => e = .returned (.bool (sesR ds (xs.map Sg.ct) nx)) ∧ Below u.heap.size u w')) :
    Calls Tryz.prog 12 #[.agg #[Value.slice (some ⟨db, dp, none⟩) dn dc, Value.slice (some ⟨sb, sp, none⟩) n sc, Value.int .i64 nx]] w (RetY (saveR ds (xs.map Sg.ct) nx) w) := by
  have hb0 : Below w.heap.size w (w.alloc (.cells #[Value.slice (some ⟨db, dp, none⟩) dn dc, Value.slice (some ⟨sb, sp, none⟩) n sc, Value.int .i64 nx] 30)) := (Below.refl _ _).alloc (Nat.le_refl _) _
  have B0 := kide hb0
  have X0 := kide (Bz.new w #[Value.slice (some ⟨db, dp, none⟩) dn dc, Value.slice (some ⟨sb, sp, none⟩) n sc, Value.int .i64 nx] 30)
  obtain ⟨R, hR⟩ : ∃ R, saveR ds (xs.map Sg.ct) nx = R := ⟨_, rfl⟩
  rw [hR]
  have HR := kide hR.symm
  have HRD := kide (fun u (hu : Below w.heap.size w u) => hd.later hu)
  have HRS := kide (fun u (hu : Below w.heap.size w u) => hs.later hu)
  have HOKM := kide (fun (h : sesR ds (xs.map Sg.ct) nx = true) => ses_okM h)
  have HDOF := kide (fun (h : sesR ds (xs.map Sg.ct) nx = true) => ses_names h)
  have HDN := kide hdn
  have HN := kide hn
  have HDL : Hid (dn ≤ 1048576) := by show _ ≤ _; rw [← hdn]; exact hd.1
  have HNL : Hid (n ≤ 1048576) := by show _ ≤ _; rw [← hn]; exact hs.1
  have HE : Hid (sesB ds (xs.map Sg.ct) nx = numB nx ++ ((numB dn ++ ds.flatMap dclB) ++ (numB n ++ xs.flatMap scpG))) := by
    show _ = _
    unfold sesB
    rw [hdn, List.length_map, hn, List.flatMap_map]
    rfl
  unfold saveR at HR
  clear hR hb0 hd hdn hs hn
  cases hv : sesR ds (xs.map Sg.ct) nx with
  | false =>
    rw [hv] at HSK HR
    rw [if_neg (by simp)] at HR
    clear hv HOKM HDOF
    go_enter Tryz.func12, Tryz.ntmps12
    go_wp2_with fail
    generalize w.alloc (.cells #[Value.slice (some ⟨db, dp, none⟩) dn dc, Value.slice (some ⟨sb, sp, none⟩) n sc, Value.int .i64 nx] 30) = W at *
    refine Calls.mono (HSK.out _ B0.out) ?_
    rintro e w1 ⟨rfl, hb1⟩
    have B1 := kide (B0.out.trans (hb1.mono B0.out.size))
    clear hb1
    go_wp2_with fail
    go_ret
    rw [HR.out]
    exact ⟨_, rfl, OwB.empty _ _ B1.out.size, B1.out.trans (((Below.refl _ _).alloc (Nat.le_refl _) _ : Below w1.heap.size w1 (w1.alloc (.cells #[] 5))).mono B1.out.size)⟩
  | true =>
    rw [hv] at HSK HR
    rw [if_pos rfl] at HR
    have HOM := kide (HOKM.out hv)
    have HDO := kide (HDOF.out hv)
    clear hv HOKM HDOF
    go_enter Tryz.func12, Tryz.ntmps12
    go_wp2_with fail
    generalize w.alloc (.cells #[Value.slice (some ⟨db, dp, none⟩) dn dc, Value.slice (some ⟨sb, sp, none⟩) n sc, Value.int .i64 nx] 30) = W at *
    refine Calls.mono (HSK.out _ B0.out) ?_
    rintro e w1 ⟨rfl, hb1⟩
    have B1 := kide (B0.out.trans (hb1.mono B0.out.size))
    have X1 := kide (X0.out.later hb1)
    clear hb1 X0 B0
    have hbx : Below w1.heap.size w1 (w1.alloc (.cells #[Value.int .u8 83, Value.int .u8 1] 5)) := (Below.refl _ _).alloc (Nat.le_refl _) _
    have O2 : Hid (OwB (w1.alloc (.cells #[Value.int .u8 83, Value.int .u8 1] 5)) w1.heap.size (.slice (some ⟨w1.heap.size, 0, none⟩) 2 2) [83, 1]) := two_own w1 83 1
    have K2 := kide (Ky.ofB (B := w1.heap.size) hbx (Nat.le_refl _))
    have X2 := kide (X1.out.later hbx)
    have HC3 := kide (l22Put_any w1.heap.size _ [83, 1] nx _ O2.out hbx.size hnx (by simp))
    have x2 := X2.out.cell 2
    simp at x2
    have HXB : Hid (w.heap.size < w1.heap.size) := X1.out.lt
    clear hbx O2 X1
    go_wp2_with fail
    obtain ⟨b0, hb0⟩ : ∃ b0, w.heap.size = b0 := ⟨_, rfl⟩
    obtain ⟨B, hB⟩ : ∃ B, w1.heap.size = B := ⟨_, rfl⟩
    have HWB : Hid (w.heap.size ≤ B) := by show _ ≤ _; rw [← hB]; exact Nat.le_of_lt HXB.out
    have HB1 : Hid (B ≤ w1.heap.size) := by show _ ≤ _; rw [hB]; exact Nat.le_refl _
    rw [hB] at HC3 K2
    simp only [hB, hb0]
    rw [hb0] at X2
    clear x2 hB hb0
    generalize w1.alloc (.cells #[Value.int .u8 83, Value.int .u8 1] 5) = w2 at *
    refine Calls.mono HC3.out ?_
    rintro e w3 ⟨v3, rfl, h1, h2⟩
    have K3 := kide (K2.out.trans h2)
    have X3 := kide (X2.out.ky h2 (by decide))
    have HC4 := kide (l22Put_any B v3 _ (dn : Int) w3 h1 (Nat.le_trans HB1.out K3.out.1.size) ⟨by omega, by have := HDL.out; omega⟩ (by rw [List.length_append]; have := numB_le hnx; simp only [List.length_cons, List.length_nil]; omega))
    clear h1 h2 HC3 K2 X2
    have x0 := X3.out.cell 0
    simp at x0
    go_wp2_with fail
    clear x0
    refine Calls.mono HC4.out ?_
    rintro e w4 ⟨v4, rfl, h1, h2⟩
    have K4 := kide (K3.out.trans h2)
    have X4 := kide (X3.out.ky h2 (by decide))
    have O4 := kide h1
    have HP1 : Hid ((([83, 1] ++ numB nx) ++ numB (dn : Int)).length ≤ 100) := by
      show _ ≤ _
      rw [List.length_append, List.length_append]
      have := numB_le hnx
      have := numB_le (n := (dn : Int)) ⟨by omega, by have := HDL.out; omega⟩
      simp only [List.length_cons, List.length_nil]
      omega
    clear h1 h2 HC4 K3 X3
    go_wp2_with fail
    go_loopw [3, 4] (fun v i wr => ∃ k : Nat, k ≤ dn ∧ i = .int .i64 (k : Int) ∧ OwB wr B v ((([83, 1] ++ numB nx) ++ numB (dn : Int)) ++ (ds.take k).flatMap dclB) ∧ Ky B w1 wr ∧ Bz wr b0 #[Value.slice (some ⟨db, dp, none⟩) dn dc, Value.slice (some ⟨sb, sp, none⟩) n sc, Value.int .i64 nx] 30) (fun _ i _ => dn - (intOf i).toNat)
    case atStart => exact ⟨0, Nat.zero_le _, rfl, by simpa using O4.out, K4.out, X4.out⟩
    case round =>
      obtain ⟨k, hk, rfl, ho, hky, hx⟩ := hrel
      have HO := kide ho
      have KQ := kide hky
      have XXQ := kide hx
      have BQ := kide (B1.out.trans (hky.1.mono HWB.out))
      have SQ : Hid (B ≤ wr.heap.size) := Nat.le_trans HB1.out hky.1.size
      have x0 := hx.cell 0
      simp at x0
      clear ho hky hx
      by_cases hlt : k < dn
      · obtain ⟨⟨s, y⟩, gx⟩ : ∃ y, ds[k]? = some y := ⟨ds[k]'(by rw [HDN.out]; exact hlt), List.getElem?_eq_getElem _⟩
        have HDC : Hid (∀ u, Below w.heap.size w u → u.cell? ⟨db, dp + k * 2, none⟩ = some (Value.string s) ∧ u.cell? ⟨db, dp + k * 2 + 1, none⟩ = some (Value.int .i64 y)) := fun u hu => by
          obtain ⟨-, -, h0 | ⟨b', o', e, hc⟩⟩ := HRD.out u hu
          · rw [h0] at gx; simp at gx
          · cases e
            exact hc k _ gx
        have hy : in64 y := ((HRD.out w (Below.refl _ _)).2.1 _ (List.mem_of_getElem? gx)).1
        have HSS : Hid (s.size ≤ 1048576) := HDO.out _ (List.mem_of_getElem? gx)
        have HST : Hid ((ds.take (k + 1)).flatMap dclB = (ds.take k).flatMap dclB ++ dclB (s, y)) := by
          show _ = _
          rw [List.take_add_one, gx, List.flatMap_append]
          simp
        have HLC : Hid (((([83, 1] ++ numB nx) ++ numB (dn : Int)) ++ (ds.take k).flatMap dclB).length ≤ 2000000000000) := by
          show _ ≤ _
          rw [List.length_append]
          have h1 := take_le dclB 1048700 ds k (fun d hd => decl_le (HDO.out d hd) ((HRD.out w (Below.refl _ _)).2.1 d hd).1)
          have := HP1.out
          have := HDL.out
          omega
        obtain ⟨LC, hLC⟩ : ∃ x, ((([83, 1] ++ numB nx) ++ numB (dn : Int)) ++ (ds.take k).flatMap dclB) = x := ⟨_, rfl⟩
        have HLCE := kide hLC
        rw [hLC] at HO HLC
        have OQ := HO
        have HB0 : Hid (LC.length ≤ 98000000000000) := by show _ ≤ _; have := HLC.out; omega
        have HB1 : Hid ((LC ++ nameB s).length ≤ 99000000000000) := by
          show _ ≤ _
          unfold nameB
          rw [List.length_append, List.length_append, bl_len]
          have := HLC.out
          have := HSS.out
          have := numB_le (n := (s.size : Int)) ⟨by omega, by omega⟩
          omega
        have i0 : (k : Int) < (dn : Int) := by omega
        have HKL : Hid (k + 1 ≤ dn) := hlt
        obtain ⟨p0, p1⟩ := HDC.out wr BQ.out
        clear hLC gx hk hlt HO
        go_wp2_with fail
        clear p0 p1 x0
        refine wp_region_x (SA := fun _ => False) (SB := fun uu => uu.cell? ⟨b0, 0, none⟩ = some (Value.slice (some ⟨db, dp, none⟩) dn dc) ∧ uu.cell? ⟨db, dp + k * 2, none⟩ = some (Value.string s) ∧ uu.cell? ⟨db, dp + k * 2 + 1, none⟩ = some (Value.int .i64 y)) (k := 999) (by kernel_rfl) ?_
        have hbd : Below wr.heap.size wr wr.drew := (Below.refl _ _).drew
        have OO0 := kide (OQ.out.later hbd)
        have XX0 := kide (XXQ.out.later hbd)
        have KK0 := kide (KQ.out.trans (Ky.ofB hbd SQ.out))
        have HS0 : Hid (B ≤ wr.drew.heap.size) := Nat.le_trans SQ.out hbd.size
        have BB0 := kide (BQ.out.trans (hbd.mono BQ.out.size))
        clear hbd
        generalize wr.drew = m0 at *
        have c0_0 : m0.cell? ⟨b0, 0, none⟩ = some (Value.slice (some ⟨db, dp, none⟩) dn dc) := XX0.out.cell 0
        have c12_0 := HDC.out m0 BB0.out
        have c1_0 := c12_0.1
        have c2_0 := c12_0.2
        clear c12_0
        have hs0 : Hid ((fun uu => uu.cell? ⟨b0, 0, none⟩ = some (Value.slice (some ⟨db, dp, none⟩) dn dc) ∧ uu.cell? ⟨db, dp + k * 2, none⟩ = some (Value.string s) ∧ uu.cell? ⟨db, dp + k * 2 + 1, none⟩ = some (Value.int .i64 y)) m0) := ⟨c0_0, c1_0, c2_0⟩
        try go_simp
        refine wpAnyX_both (T := (fun _ => True)) (i := 0) (v := u3) rfl (by kernel_rfl) (by kernel_rfl) (by kernel_rfl) (fun _ _ _ h => by first | exact h | exact h.elim) (by decide) (fun _ _ => trivial) (fun _ _ => trivial) (Sx.behind (by kernel_rfl) hs0.out) (Or.inl ⟨by rfl, fun uu hu => by go_simp⟩) ?_
        try go_simp
        refine wpAnyX_both (T := (fun _ => True)) (i := 1) (v := Value.pointer (some ⟨b0, 0, none⟩)) rfl (by kernel_rfl) (by kernel_rfl) (by kernel_rfl) (fun _ _ _ h => by first | exact h | exact h.elim) (by decide) (fun _ _ => trivial) (fun _ _ => trivial) (Sx.behind (by kernel_rfl) hs0.out) (Or.inl ⟨by rfl, fun uu hu => by go_simp⟩) ?_
        try go_simp
        refine wpAnyX_both (T := (fun uu => uu.cell? ⟨b0, 0, none⟩ = some (Value.slice (some ⟨db, dp, none⟩) dn dc) ∧ uu.cell? ⟨db, dp + k * 2, none⟩ = some (Value.string s) ∧ uu.cell? ⟨db, dp + k * 2 + 1, none⟩ = some (Value.int .i64 y))) (i := 2) (v := Value.slice (some ⟨db, dp, none⟩) dn dc) rfl (by kernel_rfl) (by kernel_rfl) (by kernel_rfl) (fun _ _ _ h => by first | exact h | exact h.elim) (by decide) (fun _ h => h.elim) (fun _ h => h) (Sx.behind (by kernel_rfl) hs0.out) (Or.inl ⟨by rfl, fun uu hu => by obtain ⟨e0, e1, e2⟩ := hu; go_simp⟩) ?_
        try go_simp
        refine wpAnyX_both (T := (fun _ => True)) (i := 3) (v := Value.int .i64 (k : Int)) rfl (by kernel_rfl) (by kernel_rfl) (by kernel_rfl) (fun _ _ _ h => by first | exact h | exact h.elim) (by decide) (fun _ _ => trivial) (fun _ _ => trivial) (Sx.behind (by kernel_rfl) hs0.out) (Or.inl ⟨by rfl, fun uu hu => by go_simp⟩) ?_
        try go_simp
        refine wpAnyX_both (T := (fun _ => True)) (i := 4) (v := Value.pointer (some ⟨db, dp + k * 2, none⟩)) rfl (by kernel_rfl) (by kernel_rfl) (by kernel_rfl) (fun _ _ _ h => by first | exact h | exact h.elim) (by decide) (fun _ _ => trivial) (fun _ _ => trivial) (Sx.behind (by kernel_rfl) hs0.out) (Or.inl ⟨by rfl, fun uu hu => by go_simp⟩) ?_
        try go_simp
        refine wpAnyX_both (T := (fun _ => True)) (i := 5) (v := Value.pointer (some ⟨db, dp + k * 2, none⟩)) rfl (by kernel_rfl) (by kernel_rfl) (by kernel_rfl) (fun _ _ _ h => by first | exact h | exact h.elim) (by decide) (fun _ _ => trivial) (fun _ _ => trivial) (Sx.behind (by kernel_rfl) hs0.out) (Or.inl ⟨by rfl, fun uu hu => by go_simp⟩) ?_
        try go_simp
        refine wpAnyX_both (T := (fun uu => uu.cell? ⟨b0, 0, none⟩ = some (Value.slice (some ⟨db, dp, none⟩) dn dc) ∧ uu.cell? ⟨db, dp + k * 2, none⟩ = some (Value.string s) ∧ uu.cell? ⟨db, dp + k * 2 + 1, none⟩ = some (Value.int .i64 y))) (i := 6) (v := Value.string s) rfl (by kernel_rfl) (by kernel_rfl) (by kernel_rfl) (fun _ _ _ h => by first | exact h | exact h.elim) (by decide) (fun _ h => h.elim) (fun _ h => h) (Sx.behind (by kernel_rfl) hs0.out) (Or.inl ⟨by rfl, fun uu hu => by obtain ⟨e0, e1, e2⟩ := hu; go_simp⟩) ?_
        try go_simp
        refine wpAnyX_both (T := (fun _ => True)) (i := 8) (v := Value.pointer (some ⟨b0, 0, none⟩)) rfl (by kernel_rfl) (by kernel_rfl) (by kernel_rfl) (fun _ _ _ h => by first | exact h | exact h.elim) (by decide) (fun _ _ => trivial) (fun _ _ => trivial) (Sx.behind (by kernel_rfl) hs0.out) (Or.inl ⟨by rfl, fun uu hu => by go_simp⟩) ?_
        try go_simp
        refine wpAnyX_both (T := (fun uu => uu.cell? ⟨b0, 0, none⟩ = some (Value.slice (some ⟨db, dp, none⟩) dn dc) ∧ uu.cell? ⟨db, dp + k * 2, none⟩ = some (Value.string s) ∧ uu.cell? ⟨db, dp + k * 2 + 1, none⟩ = some (Value.int .i64 y))) (i := 9) (v := Value.slice (some ⟨db, dp, none⟩) dn dc) rfl (by kernel_rfl) (by kernel_rfl) (by kernel_rfl) (fun _ _ _ h => by first | exact h | exact h.elim) (by decide) (fun _ h => h.elim) (fun _ h => h) (Sx.behind (by kernel_rfl) hs0.out) (Or.inl ⟨by rfl, fun uu hu => by obtain ⟨e0, e1, e2⟩ := hu; go_simp⟩) ?_
        try go_simp
        refine wpAnyX_both (T := (fun _ => True)) (i := 10) (v := Value.int .i64 (k : Int)) rfl (by kernel_rfl) (by kernel_rfl) (by kernel_rfl) (fun _ _ _ h => by first | exact h | exact h.elim) (by decide) (fun _ _ => trivial) (fun _ _ => trivial) (Sx.behind (by kernel_rfl) hs0.out) (Or.inl ⟨by rfl, fun uu hu => by go_simp⟩) ?_
        try go_simp
        refine wpAnyX_both (T := (fun _ => True)) (i := 11) (v := Value.pointer (some ⟨db, dp + k * 2, none⟩)) rfl (by kernel_rfl) (by kernel_rfl) (by kernel_rfl) (fun _ _ _ h => by first | exact h | exact h.elim) (by decide) (fun _ _ => trivial) (fun _ _ => trivial) (Sx.behind (by kernel_rfl) hs0.out) (Or.inl ⟨by rfl, fun uu hu => by go_simp⟩) ?_
        try go_simp
        refine wpAnyX_both (T := (fun _ => True)) (i := 12) (v := Value.pointer (some ⟨db, dp + k * 2 + 1, none⟩)) rfl (by kernel_rfl) (by kernel_rfl) (by kernel_rfl) (fun _ _ _ h => by first | exact h | exact h.elim) (by decide) (fun _ _ => trivial) (fun _ _ => trivial) (Sx.behind (by kernel_rfl) hs0.out) (Or.inl ⟨by rfl, fun uu hu => by go_simp⟩) ?_
        try go_simp
        refine wpAnyX_both (T := (fun uu => uu.cell? ⟨b0, 0, none⟩ = some (Value.slice (some ⟨db, dp, none⟩) dn dc) ∧ uu.cell? ⟨db, dp + k * 2, none⟩ = some (Value.string s) ∧ uu.cell? ⟨db, dp + k * 2 + 1, none⟩ = some (Value.int .i64 y))) (i := 13) (v := Value.int .i64 y) rfl (by kernel_rfl) (by kernel_rfl) (by kernel_rfl) (fun _ _ _ h => by first | exact h | exact h.elim) (by decide) (fun _ h => h.elim) (fun _ h => h) (Sx.behind (by kernel_rfl) hs0.out) (Or.inl ⟨by rfl, fun uu hu => by obtain ⟨e0, e1, e2⟩ := hu; go_simp⟩) ?_
        try go_simp
        refine wpAnyX_ready (rs := [7]) (by kernel_rfl) (by simp) (AllX.cons rfl (fun K hK => ?_) AllX.nil)
        go_simp
        refine Calls.mono (l22Text_any B _ LC s m0 OO0.out HS0.out HSS.out HB0.out) ?_
        rintro e m1 ⟨z1, rfl, ho, hk⟩
        have OO1 := kide ho
        have XX1 := kide (XX0.out.ky hk (by decide))
        have KK1 := kide (KK0.out.trans hk)
        have HS1 := kide (Nat.le_trans HS0.out hk.1.size)
        have BB1 := kide (BB0.out.trans (hk.1.mono HWB.out))
        clear ho hk
        have c0_1 : m1.cell? ⟨b0, 0, none⟩ = some (Value.slice (some ⟨db, dp, none⟩) dn dc) := XX1.out.cell 0
        have c12_1 := HDC.out m1 BB1.out
        have c1_1 := c12_1.1
        have c2_1 := c12_1.2
        clear c12_1
        have hs1 : Hid ((fun uu => uu.cell? ⟨b0, 0, none⟩ = some (Value.slice (some ⟨db, dp, none⟩) dn dc) ∧ uu.cell? ⟨db, dp + k * 2, none⟩ = some (Value.string s) ∧ uu.cell? ⟨db, dp + k * 2 + 1, none⟩ = some (Value.int .i64 y)) m1) := ⟨c0_1, c1_1, c2_1⟩
        refine hK _ _ (Sx.behind (by kernel_rfl) hs1.out) ?_
        clear hK K
        try go_simp
        refine wpAnyX_ready (rs := [14]) (by kernel_rfl) (by simp) (AllX.cons rfl (fun K hK => ?_) AllX.nil)
        go_simp
        refine Calls.mono (l22Put_any B _ (LC ++ nameB s) y m1 OO1.out HS1.out hy HB1.out) ?_
        rintro e m2 ⟨z2, rfl, ho, hk⟩
        have OO2 := kide ho
        have XX2 := kide (XX1.out.ky hk (by decide))
        have KK2 := kide (KK1.out.trans hk)
        have HS2 := kide (Nat.le_trans HS1.out hk.1.size)
        have BB2 := kide (BB1.out.trans (hk.1.mono HWB.out))
        clear ho hk
        have c0_2 : m2.cell? ⟨b0, 0, none⟩ = some (Value.slice (some ⟨db, dp, none⟩) dn dc) := XX2.out.cell 0
        have c12_2 := HDC.out m2 BB2.out
        have c1_2 := c12_2.1
        have c2_2 := c12_2.2
        clear c12_2
        have hs2 : Hid ((fun uu => uu.cell? ⟨b0, 0, none⟩ = some (Value.slice (some ⟨db, dp, none⟩) dn dc) ∧ uu.cell? ⟨db, dp + k * 2, none⟩ = some (Value.string s) ∧ uu.cell? ⟨db, dp + k * 2 + 1, none⟩ = some (Value.int .i64 y)) m2) := ⟨c0_2, c1_2, c2_2⟩
        refine hK _ _ (Sx.behind (by kernel_rfl) hs2.out) ?_
        clear hK K
        try go_simp
        refine wpAnyX_both (T := (fun _ => True)) (i := 15) (v := z2) rfl (by kernel_rfl) (by kernel_rfl) (by kernel_rfl) (fun _ _ _ h => by first | exact h | exact h.elim) (by decide) (fun _ _ => trivial) (fun _ _ => trivial) (Sx.behind (by kernel_rfl) hs2.out) (Or.inl ⟨by rfl, fun uu hu => by go_simp⟩) ?_
        try go_simp
        refine wpAnyX_done (by kernel_rfl) ?_ _
        have O7 : Hid (OwB m2 B z2 ((([83, 1] ++ numB nx) ++ numB (dn : Int)) ++ (ds.take (k + 1)).flatMap dclB)) := by
          have h := OO2.out
          rw [← HLCE.out] at h
          show OwB _ _ _ _
          rw [HST.out]
          simpa [dclB, List.append_assoc] using h
        have K7 := KK2
        have X7 := XX2
        clear OO0 XX0 KK0 HS0 BB0 c0_0 c1_0 c2_0 hs0 OO1 XX1 KK1 HS1 BB1 c0_1 c1_1 c2_1 hs1 OO2 XX2 KK2 HS2 BB2 c0_2 c1_2 c2_2 hs2
        go_wp2_with fail
        have t9 := wrap_succ (q := k) (by have := HKL.out; have := HDL.out; omega)
        rw [t9]
        clear t9
        go_roundw
        case rel => exact ⟨k + 1, HKL.out, rfl, O7.out, K7.out, X7.out⟩
        case measure => have := HKL.out; simp only [intOf, Int.toNat_natCast]; omega
      · have hkn : k = dn := by omega
        have i0 : ¬ (k : Int) < (dn : Int) := by omega
        have HO5 : Hid (OwB wr B u3 (((([83, 1] ++ numB nx) ++ numB (dn : Int)) ++ ds.flatMap dclB))) := by
          have h := HO.out
          rw [hkn, ← HDN.out, List.take_length] at h
          rw [HDN.out] at h
          exact h
        have x1 := XXQ.out.cell 1
        simp at x1
        have hdl0 := HDL.out
        have hnl0 := HNL.out
        have HPD : Hid (((([83, 1] ++ numB nx) ++ numB (dn : Int)) ++ ds.flatMap dclB).length ≤ 2000000000000) := by
          show _ ≤ _
          rw [List.length_append]
          have h1 := flatN_le dclB 1048700 ds (fun d hd => decl_le (HDO.out d hd) ((HRD.out w (Below.refl _ _)).2.1 d hd).1)
          have := HP1.out
          rw [HDN.out] at h1
          omega
        have HC6 := kide (l22Put_any B u3 _ (n : Int) wr HO5.out SQ.out ⟨by omega, by omega⟩ (by have := HPD.out; omega))
        have HNB := kide (numB_le (n := (n : Int)) ⟨by omega, by omega⟩)
        clear hkn hk hlt HO hdl0 hnl0
        go_wp2_with fail
        refine Calls.mono HC6.out ?_
        rintro e w6 ⟨v6, rfl, h1, h2⟩
        have K6 := kide (KQ.out.trans h2)
        have X6 := kide (XXQ.out.ky h2 (by decide))
        obtain ⟨PP, hPP⟩ : ∃ x, (((([83, 1] ++ numB nx) ++ numB (dn : Int)) ++ ds.flatMap dclB) ++ numB (n : Int)) = x := ⟨_, rfl⟩
        rw [hPP] at h1
        have O6 := kide h1
        have HPL : Hid (PP.length ≤ 2500000000000) := by show _ ≤ _; rw [← hPP, List.length_append]; have := HPD.out; have := HNB.out; omega
        have HTOT : Hid ([83, 1] ++ sesB ds (xs.map Sg.ct) nx = PP ++ xs.flatMap scpG) := by
          show _ = _
          rw [HE.out, ← hPP]
          simp only [List.append_assoc]
        clear h1 h2 HC6 hPP x0 x1 i0 HO5
        go_wp2_with fail
        go_loopw [3, 5] (fun v i wr => ∃ k : Nat, k ≤ n ∧ i = .int .i64 (k : Int) ∧ OwB wr B v (PP ++ (xs.take k).flatMap scpG) ∧ Ky B w1 wr ∧ Bz wr b0 #[Value.slice (some ⟨db, dp, none⟩) dn dc, Value.slice (some ⟨sb, sp, none⟩) n sc, Value.int .i64 nx] 30 ∧ (PP ++ (xs.take k).flatMap scpG).length ≤ 3000000000000 + 22 * k) (fun _ i _ => n - (intOf i).toNat)
        case atStart => exact ⟨0, Nat.zero_le _, rfl, by simpa using O6.out, K6.out, X6.out, by have := HPL.out; simp only [List.take_zero, List.flatMap_nil, List.append_nil]; omega⟩
        case round =>
          obtain ⟨q, hq, rfl, ho, hky, hx, hle⟩ := hrel
          have HO := kide ho
          have KR := kide hky
          have XXR := kide hx
          have BR := kide (B1.out.trans (hky.1.mono HWB.out))
          have SR : Hid (B ≤ wr.heap.size) := Nat.le_trans HB1.out hky.1.size
          have x1 := hx.cell 1
          simp at x1
          have hxl := hx.lt
          have HLE2 := kide hle
          clear ho hky hx hle
          by_cases hqn : q < n
          · obtain ⟨x, gx⟩ : ∃ y, xs[q]? = some y := ⟨xs[q]'(by rw [HN.out]; exact hqn), List.getElem?_eq_getElem _⟩
            obtain ⟨b2, o2, e2, ⟨p0, p1⟩, -⟩ := (HRS.out wr BR.out).at gx
            cases e2
            obtain ⟨b3, o3, e3, -, hrl, hd1⟩ := (HRS.out w (Below.refl _ _)).at gx
            cases e3
            have HOX := kide (HOM.out x (List.mem_of_getElem? gx))
            have HST : Hid ((xs.take (q + 1)).flatMap scpG = (xs.take q).flatMap scpG ++ scpG x) := by
              show _ = _
              rw [List.take_add_one, gx, List.flatMap_append]
              simp
            have HSA : Hid ((xs.take (q + 1)).flatMap scpG ++ (xs.drop (q + 1)).flatMap scpG = xs.flatMap scpG) := by
              show _ = _
              rw [← List.flatMap_append, List.take_append_drop]
            have HSG : Hid (scpG x = numB x.d ++ (numB x.ls.length ++ x.ls.flatMap litG)) := by
              show _ = _
              unfold scpG scpB Sg.ct
              rw [lits_map]
            obtain ⟨d, ls, la, lc⟩ := x
            simp only [] at p0 p1 hrl hd1 HOX HSG
            obtain ⟨ln, hln⟩ : ∃ x, ls.length = x := ⟨_, rfl⟩
            rw [hln] at p1 HSG
            have HLN := kide hln
            have hln0 : ln ≤ 1048576 := by rw [← hln]; exact hrl.1
            have HLNL := kide hln0
            have hln1 : in64 (ln : Int) := ⟨by omega, by omega⟩
            obtain ⟨LS, hLS⟩ : ∃ x, PP ++ (xs.take q).flatMap scpG = x := ⟨_, rfl⟩
            rw [hLS] at HO HLE2
            have HLSE := kide hLS
            have HLS : Hid (LS.length ≤ 4000000000000) := by show _ ≤ _; have := HLE2.out; have := HNL.out; omega
            have HB0 : Hid (LS.length ≤ 99000000000000) := by show _ ≤ _; have := HLS.out; omega
            have HB9 : Hid ((LS ++ numB d).length ≤ 99000000000000) := by show _ ≤ _; rw [List.length_append]; have := HLS.out; have := numB_le hd1; omega
            have HLQ : Hid (((LS ++ numB d) ++ numB (ln : Int)).length ≤ 3000000000000 + 22 * (q + 1)) := by show _ ≤ _; rw [List.length_append, List.length_append]; have := HLE2.out; have := numB_le hd1; have := numB_le hln1; omega
            have i0 : (q : Int) < (n : Int) := by omega
            have HQL : Hid (q + 1 ≤ n) := hqn
            have hbx : Below wr.heap.size wr (wr.alloc (.cells #[Value.int .i64 d, Value.slice la ln lc] 63)) := (Below.refl _ _).alloc (Nat.le_refl _) _
            have YYQ := kide (Bz.new wr #[Value.int .i64 d, Value.slice la ln lc] 63)
            have OQ := kide (HO.out.later hbx)
            have KQ := kide (KR.out.trans (Ky.ofB hbx SR.out))
            have XXQ := kide (XXR.out.later hbx)
            have SQ : Hid (B ≤ (wr.alloc (.cells #[Value.int .i64 d, Value.slice la ln lc] 63)).heap.size) := Nat.le_trans SR.out hbx.size
            have BQ := kide (BR.out.trans (hbx.mono BR.out.size))
            have HRL := kide (fun u (hu : Below w.heap.size w u) => hrl.later hu)
            clear hbx hLS hln hln0 gx hq hqn HO KR XXR BR SR hrl
            go_wp2_with fail
            obtain ⟨g, hg⟩ : ∃ g, wr.heap.size = g := ⟨_, rfl⟩
            rw [hg] at YYQ
            simp only [hg]
            clear hg p0 p1 x1 hxl
            generalize wr.alloc (.cells #[Value.int .i64 d, Value.slice la ln lc] 63) = WC at *
            refine wp_region_x (SA := fun _ => False) (SB := fun uu => uu.cell? ⟨g, 0, none⟩ = some (Value.int .i64 d) ∧ uu.cell? ⟨g, 1, none⟩ = some (Value.slice la ln lc)) (k := 999) (by kernel_rfl) ?_
            have hbd : Below WC.heap.size WC WC.drew := (Below.refl _ _).drew
            have OO0 := kide (OQ.out.later hbd)
            have XX0 := kide (XXQ.out.later hbd)
            have YY0 := kide (YYQ.out.later hbd)
            have KK0 := kide (KQ.out.trans (Ky.ofB hbd SQ.out))
            have HS0 : Hid (B ≤ WC.drew.heap.size) := Nat.le_trans SQ.out hbd.size
            have BB0 := kide (BQ.out.trans (hbd.mono BQ.out.size))
            clear hbd
            generalize WC.drew = m0 at *
            have c0_0 : m0.cell? ⟨g, 0, none⟩ = some (Value.int .i64 d) := YY0.out.cell 0
            have c1_0 : m0.cell? ⟨g, 1, none⟩ = some (Value.slice la ln lc) := YY0.out.cell 1
            have hs0 : Hid ((fun uu => uu.cell? ⟨g, 0, none⟩ = some (Value.int .i64 d) ∧ uu.cell? ⟨g, 1, none⟩ = some (Value.slice la ln lc)) m0) := ⟨c0_0, c1_0⟩
            try go_simp
            refine wpAnyX_both (T := (fun _ => True)) (i := 0) (v := u3) rfl (by kernel_rfl) (by kernel_rfl) (by kernel_rfl) (fun _ _ _ h => by first | exact h | exact h.elim) (by decide) (fun _ _ => trivial) (fun _ _ => trivial) (Sx.behind (by kernel_rfl) hs0.out) (Or.inl ⟨by rfl, fun uu hu => by go_simp⟩) ?_
            try go_simp
            refine wpAnyX_both (T := (fun _ => True)) (i := 1) (v := Value.pointer (some ⟨g, 0, none⟩)) rfl (by kernel_rfl) (by kernel_rfl) (by kernel_rfl) (fun _ _ _ h => by first | exact h | exact h.elim) (by decide) (fun _ _ => trivial) (fun _ _ => trivial) (Sx.behind (by kernel_rfl) hs0.out) (Or.inl ⟨by rfl, fun uu hu => by go_simp⟩) ?_
            try go_simp
            refine wpAnyX_both (T := (fun uu => uu.cell? ⟨g, 0, none⟩ = some (Value.int .i64 d) ∧ uu.cell? ⟨g, 1, none⟩ = some (Value.slice la ln lc))) (i := 2) (v := Value.int .i64 d) rfl (by kernel_rfl) (by kernel_rfl) (by kernel_rfl) (fun _ _ _ h => by first | exact h | exact h.elim) (by decide) (fun _ h => h.elim) (fun _ h => h) (Sx.behind (by kernel_rfl) hs0.out) (Or.inl ⟨by rfl, fun uu hu => by obtain ⟨e0, e1⟩ := hu; go_simp⟩) ?_
            try go_simp
            refine wpAnyX_both (T := (fun _ => True)) (i := 4) (v := Value.pointer (some ⟨g, 1, none⟩)) rfl (by kernel_rfl) (by kernel_rfl) (by kernel_rfl) (fun _ _ _ h => by first | exact h | exact h.elim) (by decide) (fun _ _ => trivial) (fun _ _ => trivial) (Sx.behind (by kernel_rfl) hs0.out) (Or.inl ⟨by rfl, fun uu hu => by go_simp⟩) ?_
            try go_simp
            refine wpAnyX_both (T := (fun uu => uu.cell? ⟨g, 0, none⟩ = some (Value.int .i64 d) ∧ uu.cell? ⟨g, 1, none⟩ = some (Value.slice la ln lc))) (i := 5) (v := Value.slice la ln lc) rfl (by kernel_rfl) (by kernel_rfl) (by kernel_rfl) (fun _ _ _ h => by first | exact h | exact h.elim) (by decide) (fun _ h => h.elim) (fun _ h => h) (Sx.behind (by kernel_rfl) hs0.out) (Or.inl ⟨by rfl, fun uu hu => by obtain ⟨e0, e1⟩ := hu; go_simp⟩) ?_
            try go_simp
            refine wpAnyX_both (T := (fun _ => True)) (i := 6) (v := Value.int .i64 (ln : Int)) rfl (by kernel_rfl) (by kernel_rfl) (by kernel_rfl) (fun _ _ _ h => by first | exact h | exact h.elim) (by decide) (fun _ _ => trivial) (fun _ _ => trivial) (Sx.behind (by kernel_rfl) hs0.out) (Or.inl ⟨by rfl, fun uu hu => by go_simp⟩) ?_
            try go_simp
            refine wpAnyX_ready (rs := [3]) (by kernel_rfl) (by simp) (AllX.cons rfl (fun K hK => ?_) AllX.nil)
            go_simp
            refine Calls.mono (l22Put_any B _ LS d m0 OO0.out HS0.out hd1 HB0.out) ?_
            rintro e m1 ⟨z1, rfl, ho, hk⟩
            have OO1 := kide ho
            have XX1 := kide (XX0.out.ky hk (by decide))
            have YY1 := kide (YY0.out.ky hk (by decide))
            have KK1 := kide (KK0.out.trans hk)
            have HS1 := kide (Nat.le_trans HS0.out hk.1.size)
            have BB1 := kide (BB0.out.trans (hk.1.mono HWB.out))
            clear ho hk
            have c0_1 : m1.cell? ⟨g, 0, none⟩ = some (Value.int .i64 d) := YY1.out.cell 0
            have c1_1 : m1.cell? ⟨g, 1, none⟩ = some (Value.slice la ln lc) := YY1.out.cell 1
            have hs1 : Hid ((fun uu => uu.cell? ⟨g, 0, none⟩ = some (Value.int .i64 d) ∧ uu.cell? ⟨g, 1, none⟩ = some (Value.slice la ln lc)) m1) := ⟨c0_1, c1_1⟩
            refine hK _ _ (Sx.behind (by kernel_rfl) hs1.out) ?_
            clear hK K
            try go_simp
            refine wpAnyX_ready (rs := [7]) (by kernel_rfl) (by simp) (AllX.cons rfl (fun K hK => ?_) AllX.nil)
            go_simp
            refine Calls.mono (l22Put_any B _ (LS ++ numB d) (ln : Int) m1 OO1.out HS1.out hln1 HB9.out) ?_
            rintro e m2 ⟨z2, rfl, ho, hk⟩
            have OO2 := kide ho
            have XX2 := kide (XX1.out.ky hk (by decide))
            have YY2 := kide (YY1.out.ky hk (by decide))
            have KK2 := kide (KK1.out.trans hk)
            have HS2 := kide (Nat.le_trans HS1.out hk.1.size)
            have BB2 := kide (BB1.out.trans (hk.1.mono HWB.out))
            clear ho hk
            have c0_2 : m2.cell? ⟨g, 0, none⟩ = some (Value.int .i64 d) := YY2.out.cell 0
            have c1_2 : m2.cell? ⟨g, 1, none⟩ = some (Value.slice la ln lc) := YY2.out.cell 1
            have hs2 : Hid ((fun uu => uu.cell? ⟨g, 0, none⟩ = some (Value.int .i64 d) ∧ uu.cell? ⟨g, 1, none⟩ = some (Value.slice la ln lc)) m2) := ⟨c0_2, c1_2⟩
            refine hK _ _ (Sx.behind (by kernel_rfl) hs2.out) ?_
            clear hK K
            try go_simp
            refine wpAnyX_both (T := (fun _ => True)) (i := 8) (v := z2) rfl (by kernel_rfl) (by kernel_rfl) (by kernel_rfl) (fun _ _ _ h => by first | exact h | exact h.elim) (by decide) (fun _ _ => trivial) (fun _ _ => trivial) (Sx.behind (by kernel_rfl) hs2.out) (Or.inl ⟨by rfl, fun uu hu => by go_simp⟩) ?_
            try go_simp
            refine wpAnyX_done (by kernel_rfl) ?_ _
            clear OO0 XX0 YY0 KK0 HS0 BB0 OO1 XX1 YY1 KK1 HS1 BB1 c0_0 c0_1 c0_2 c1_0 c1_1 c1_2 hs0 hs1 hs2
            obtain ⟨LQ, hLQ⟩ : ∃ x, (LS ++ numB d) ++ numB (ln : Int) = x := ⟨_, rfl⟩
            rw [hLQ] at OO2 HLQ
            have HLQE := kide hLQ
            have O3 := OO2
            have X3 := XX2
            have Y3 := YY2
            have K3 := KK2
            clear hLQ OO2 XX2 YY2 KK2 HS2 BB2 OQ XXQ YYQ KQ SQ BQ
            go_wp2_with fail
            go_loopw [3, 7] (fun v i wr => ∃ j : Nat, j ≤ ln ∧ i = .int .i64 (j : Int) ∧ OwB wr B v (LQ ++ (ls.take j).flatMap litG) ∧ Ky B w1 wr ∧ Bz wr b0 #[Value.slice (some ⟨db, dp, none⟩) dn dc, Value.slice (some ⟨sb, sp, none⟩) n sc, Value.int .i64 nx] 30 ∧ Bz wr g #[Value.int .i64 d, Value.slice la ln lc] 63 ∧ (LQ ++ (ls.take j).flatMap litG).length ≤ 3000000000000 + 22 * (q + 1)) (fun _ i _ => ln - (intOf i).toNat)
            case atStart => exact ⟨0, Nat.zero_le _, rfl, by simpa using O3.out, K3.out, X3.out, Y3.out, by simpa using HLQ.out⟩
            case round =>
              obtain ⟨j, hj, rfl, ho, hky, hx, hy, hle⟩ := hrel
              have HO := kide ho
              have KR := kide hky
              have XXR := kide hx
              have YYR := kide hy
              have BR := kide (B1.out.trans (hky.1.mono HWB.out))
              have SR : Hid (B ≤ wr.heap.size) := Nat.le_trans HB1.out hky.1.size
              have y1 := hy.cell 1
              simp at y1
              have hyl := hy.lt
              have HLE3 := kide hle
              clear ho hky hx hy hle
              by_cases hjl : j < ln
              · obtain ⟨y, gy⟩ : ∃ y, ls[j]? = some y := ⟨ls[j]'(by rw [HLN.out]; exact hjl), List.getElem?_eq_getElem _⟩
                have HOY := kide (HOX.out y (List.mem_of_getElem? gy))
                obtain ⟨-, h0 | ⟨lb, lp, ea1, hc⟩⟩ := HRL.out wr BR.out
                · rw [h0] at gy; simp at gy
                obtain ⟨-, h0 | ⟨lb', lp', ea2, hc2⟩⟩ := HRL.out w (Below.refl _ _)
                · rw [h0] at gy; simp at gy
                obtain ⟨⟨p0, p1, p2, p3⟩, -⟩ := hc j y gy
                obtain ⟨-, he1, ht1, hid1⟩ := hc2 j y gy
                clear hc hc2 ea2
                have HSTJ : Hid ((ls.take (j + 1)).flatMap litG = (ls.take j).flatMap litG ++ litG y) := by
                  show _ = _
                  rw [List.take_add_one, gy, List.flatMap_append]
                  simp
                have HSAJ : Hid ((ls.take (j + 1)).flatMap litG ++ (ls.drop (j + 1)).flatMap litG = ls.flatMap litG) := by
                  show _ = _
                  rw [← List.flatMap_append, List.take_append_drop]
                have HLG : Hid (litG y = numB y.id ++ (flagB y.eq ++ ((numB y.ss.length ++ y.ss.flatMap nodeG) ++ (numB y.ts.length ++ y.ts.flatMap nodeG)))) := by
                  show _ = _
                  unfold litG litB Lg.ct
                  rw [term_map, term_map]
                obtain ⟨id, eq, ess, ea, ec, tss, ta, tc⟩ := y
                simp only [] at p0 p1 p2 p3 he1 ht1 hid1 HOY HLG
                have HEO := kide HOY.out.1
                have HTO := kide HOY.out.2
                have HTE := kide (term_le he1 HEO.out)
                obtain ⟨en, hen⟩ : ∃ x, ess.length = x := ⟨_, rfl⟩
                obtain ⟨tn, htn⟩ : ∃ x, tss.length = x := ⟨_, rfl⟩
                rw [hen] at p2 HLG HTE
                rw [htn] at p3 HLG
                have HEN := kide hen
                have HTN := kide htn
                have HB7 : Hid ((LQ ++ (ls.take j).flatMap litG).length ≤ 4000000000000) := by show _ ≤ _; have := HLE3.out; have := HQL.out; have := HNL.out; omega
                subst ea1
                obtain ⟨LJ, hLJ⟩ : ∃ x, LQ ++ (ls.take j).flatMap litG = x := ⟨_, rfl⟩
                rw [hLJ] at HO HB7
                have HLJE := kide hLJ
                have j1 : (j : Int) < (ln : Int) := by omega
                have HJL : Hid (j + 1 ≤ ln) := hjl
                clear hLJ hen htn gy hj hjl
                cases eq with
                | true =>
                  have hbx : Below wr.heap.size wr (wr.alloc (.cells #[Value.int .i64 id, Value.bool true, Value.slice ea en ec, Value.slice ta tn tc] 68)) := (Below.refl _ _).alloc (Nat.le_refl _) _
                  have Z5 := kide (Bz.new wr #[Value.int .i64 id, Value.bool true, Value.slice ea en ec, Value.slice ta tn tc] 68)
                  have O5 := kide (HO.out.later hbx)
                  have K5 := kide (KR.out.trans (Ky.ofB hbx SR.out))
                  have X5 := kide (XXR.out.later hbx)
                  have Y5 := kide (YYR.out.later hbx)
                  have HC7 := kide (l22Put_any B _ LJ id _ O5.out (Nat.le_trans SR.out hbx.size) hid1 (by have := HB7.out; omega))
                  have z0 := Z5.out.cell 0
                  simp at z0
                  clear hbx O5
                  go_wp2_with fail
                  obtain ⟨g8, hg8⟩ : ∃ g, wr.heap.size = g := ⟨_, rfl⟩
                  rw [hg8] at Z5
                  simp only [hg8]
                  clear hg8 p0 p1 p2 p3 y1 hyl z0
                  generalize wr.alloc (.cells #[Value.int .i64 id, Value.bool true, Value.slice ea en ec, Value.slice ta tn tc] 68) = W5 at *
                  refine Calls.mono HC7.out ?_
                  rintro e w7 ⟨v7, rfl, h1, h2⟩
                  have O7 := kide h1
                  have K7 := kide (K5.out.trans h2)
                  have X7 := kide (X5.out.ky h2 (by decide))
                  have Y7 := kide (Y5.out.ky h2 (by decide))
                  have Z7 := kide (Z5.out.ky h2 (by decide))
                  clear h1 h2 HC7 K5 X5 Y5 Z5
                  have z1 := Z7.out.cell 1
                  simp at z1
                  have S7 : Hid (B ≤ w7.heap.size) := Nat.le_trans HB1.out K7.out.1.size
                  have hby : Below w7.heap.size w7 (w7.alloc (.cells #[Value.int .u8 1] 5)) := (Below.refl _ _).alloc (Nat.le_refl _) _
                  have O8 := kide (O7.out.later hby)
                  have N8 : Hid ((w7.alloc (.cells #[Value.int .u8 1] 5)).cell? ⟨w7.heap.size, 0, none⟩ = some (.int .u8 ((1 : Nat) : Int))) := (Bz.new w7 #[Value.int .u8 1] 5).cell 0
                  have K8 := kide (K7.out.trans (Ky.ofB hby S7.out))
                  have X8 := kide (X7.out.later hby)
                  have Y8 := kide (Y7.out.later hby)
                  have Z8 := kide (Z7.out.later hby)
                  have S8 : Hid (B ≤ (w7.alloc (.cells #[Value.int .u8 1] 5)).heap.size) := Nat.le_trans S7.out hby.size
                  have HB8 : Hid ((LJ ++ numB id).length ≤ 5000000000000) := by show _ ≤ _; rw [List.length_append]; have := HB7.out; have := numB_le hid1; omega
                  clear hby O7 K7 X7 Y7 Z7
                  go_wp2_with (at_builtin; refine wpList_appC _ rfl _ _ rfl B v7 (LJ ++ numB id) 1 (by first | rfl | simp [Act.eval]) O8.out w7.heap.size (by first | rfl | simp [Act.eval]) N8.out (by have := HB8.out; omega) S8.out ?_)
                  intro zf WL q1 q2
                  obtain ⟨LT, hLT⟩ : ∃ x, (LJ ++ numB id) ++ [1] = x := ⟨_, rfl⟩
                  have OQ : Hid (OwB WL B zf LT) := by
                    show OwB _ _ _ _
                    rw [← hLT]
                    simpa using q1
                  have HLTE := kide hLT
                  have KQ := kide (K8.out.trans q2)
                  have XXQ := kide (X8.out.ky q2 (by decide))
                  have YYQ := kide (Y8.out.ky q2 (by decide))
                  have ZZQ := kide (Z8.out.ky q2 (by decide))
                  have SQ : Hid (B ≤ WL.heap.size) := Nat.le_trans HB1.out KQ.out.1.size
                  have BQ := kide (B1.out.trans (KQ.out.1.mono HWB.out))
                  have HBW := HB1
                  have HB0 : Hid (LT.length ≤ 60000000000000) := by show _ ≤ _; rw [← hLT, List.length_append]; have := HB8.out; simp only [List.length_cons, List.length_nil]; omega
                  have HB1 : Hid ((LT ++ (numB (en : Int) ++ ess.flatMap nodeG)).length ≤ 60000000000000) := by show _ ≤ _; rw [← hLT, List.length_append, List.length_append]; have := HB8.out; have := HTE.out; simp only [List.length_cons, List.length_nil]; omega
                  clear q1 q2 O8 N8 K8 X8 Y8 Z8 S8 S7 z1 hLT
                  go_wp2_with fail
                  refine wp_region_x (SA := fun _ => False) (SB := fun uu => uu.cell? ⟨g8, 2, none⟩ = some (Value.slice ea en ec) ∧ uu.cell? ⟨g8, 3, none⟩ = some (Value.slice ta tn tc)) (k := 999) (by kernel_rfl) ?_
                  have hbd : Below WL.heap.size WL WL.drew := (Below.refl _ _).drew
                  have OO0 := kide (OQ.out.later hbd)
                  have XX0 := kide (XXQ.out.later hbd)
                  have YY0 := kide (YYQ.out.later hbd)
                  have ZZ0 := kide (ZZQ.out.later hbd)
                  have KK0 := kide (KQ.out.trans (Ky.ofB hbd SQ.out))
                  have HS0 : Hid (B ≤ WL.drew.heap.size) := Nat.le_trans SQ.out hbd.size
                  have BB0 := kide (BQ.out.trans (hbd.mono BQ.out.size))
                  clear hbd
                  generalize WL.drew = m0 at *
                  have c0_0 : m0.cell? ⟨g8, 2, none⟩ = some (Value.slice ea en ec) := ZZ0.out.cell 2
                  have c1_0 : m0.cell? ⟨g8, 3, none⟩ = some (Value.slice ta tn tc) := ZZ0.out.cell 3
                  have hs0 : Hid ((fun uu => uu.cell? ⟨g8, 2, none⟩ = some (Value.slice ea en ec) ∧ uu.cell? ⟨g8, 3, none⟩ = some (Value.slice ta tn tc)) m0) := ⟨c0_0, c1_0⟩
                  try go_simp
                  refine wpAnyX_both (T := (fun _ => True)) (i := 0) (v := zf) rfl (by kernel_rfl) (by kernel_rfl) (by kernel_rfl) (fun _ _ _ h => by first | exact h | exact h.elim) (by decide) (fun _ _ => trivial) (fun _ _ => trivial) (Sx.behind (by kernel_rfl) hs0.out) (Or.inl ⟨by rfl, fun uu hu => by go_simp⟩) ?_
                  try go_simp
                  refine wpAnyX_both (T := (fun _ => True)) (i := 1) (v := Value.pointer (some ⟨g8, 2, none⟩)) rfl (by kernel_rfl) (by kernel_rfl) (by kernel_rfl) (fun _ _ _ h => by first | exact h | exact h.elim) (by decide) (fun _ _ => trivial) (fun _ _ => trivial) (Sx.behind (by kernel_rfl) hs0.out) (Or.inl ⟨by rfl, fun uu hu => by go_simp⟩) ?_
                  try go_simp
                  refine wpAnyX_both (T := (fun uu => uu.cell? ⟨g8, 2, none⟩ = some (Value.slice ea en ec) ∧ uu.cell? ⟨g8, 3, none⟩ = some (Value.slice ta tn tc))) (i := 2) (v := Value.agg #[Value.slice ea en ec]) rfl (by kernel_rfl) (by kernel_rfl) (by kernel_rfl) (fun _ _ _ h => by first | exact h | exact h.elim) (by decide) (fun _ h => h.elim) (fun _ h => h) (Sx.behind (by kernel_rfl) hs0.out) (Or.inl ⟨by rfl, fun uu hu => by obtain ⟨e0, e1⟩ := hu; go_simp⟩) ?_
                  try go_simp
                  refine wpAnyX_both (T := (fun _ => True)) (i := 4) (v := Value.pointer (some ⟨g8, 3, none⟩)) rfl (by kernel_rfl) (by kernel_rfl) (by kernel_rfl) (fun _ _ _ h => by first | exact h | exact h.elim) (by decide) (fun _ _ => trivial) (fun _ _ => trivial) (Sx.behind (by kernel_rfl) hs0.out) (Or.inl ⟨by rfl, fun uu hu => by go_simp⟩) ?_
                  try go_simp
                  refine wpAnyX_both (T := (fun uu => uu.cell? ⟨g8, 2, none⟩ = some (Value.slice ea en ec) ∧ uu.cell? ⟨g8, 3, none⟩ = some (Value.slice ta tn tc))) (i := 5) (v := Value.agg #[Value.slice ta tn tc]) rfl (by kernel_rfl) (by kernel_rfl) (by kernel_rfl) (fun _ _ _ h => by first | exact h | exact h.elim) (by decide) (fun _ h => h.elim) (fun _ h => h) (Sx.behind (by kernel_rfl) hs0.out) (Or.inl ⟨by rfl, fun uu hu => by obtain ⟨e0, e1⟩ := hu; go_simp⟩) ?_
                  try go_simp
                  refine wpAnyX_ready (rs := [3]) (by kernel_rfl) (by simp) (AllX.cons rfl (fun K hK => ?_) AllX.nil)
                  go_simp
                  refine Calls.mono (l22Term_any B en ec ea _ LT ess w m0 OO0.out HS0.out BB0.out HWB.out he1 HEN.out HEO.out HB0.out) ?_
                  rintro e m1 ⟨z1, rfl, ho, hk⟩
                  have OO1 := kide ho
                  have XX1 := kide (XX0.out.ky hk (by decide))
                  have YY1 := kide (YY0.out.ky hk (by decide))
                  have ZZ1 := kide (ZZ0.out.ky hk (by decide))
                  have KK1 := kide (KK0.out.trans hk)
                  have HS1 := kide (Nat.le_trans HS0.out hk.1.size)
                  have BB1 := kide (BB0.out.trans (hk.1.mono HWB.out))
                  clear ho hk
                  have c0_1 : m1.cell? ⟨g8, 2, none⟩ = some (Value.slice ea en ec) := ZZ1.out.cell 2
                  have c1_1 : m1.cell? ⟨g8, 3, none⟩ = some (Value.slice ta tn tc) := ZZ1.out.cell 3
                  have hs1 : Hid ((fun uu => uu.cell? ⟨g8, 2, none⟩ = some (Value.slice ea en ec) ∧ uu.cell? ⟨g8, 3, none⟩ = some (Value.slice ta tn tc)) m1) := ⟨c0_1, c1_1⟩
                  refine hK _ _ (Sx.behind (by kernel_rfl) hs1.out) ?_
                  clear hK K
                  try go_simp
                  refine wpAnyX_ready (rs := [6]) (by kernel_rfl) (by simp) (AllX.cons rfl (fun K hK => ?_) AllX.nil)
                  go_simp
                  refine Calls.mono (l22Term_any B tn tc ta _ (LT ++ (numB (en : Int) ++ ess.flatMap nodeG)) tss w m1 OO1.out HS1.out BB1.out HWB.out ht1 HTN.out HTO.out HB1.out) ?_
                  rintro e m2 ⟨z2, rfl, ho, hk⟩
                  have OO2 := kide ho
                  have XX2 := kide (XX1.out.ky hk (by decide))
                  have YY2 := kide (YY1.out.ky hk (by decide))
                  have ZZ2 := kide (ZZ1.out.ky hk (by decide))
                  have KK2 := kide (KK1.out.trans hk)
                  have HS2 := kide (Nat.le_trans HS1.out hk.1.size)
                  have BB2 := kide (BB1.out.trans (hk.1.mono HWB.out))
                  clear ho hk
                  have c0_2 : m2.cell? ⟨g8, 2, none⟩ = some (Value.slice ea en ec) := ZZ2.out.cell 2
                  have c1_2 : m2.cell? ⟨g8, 3, none⟩ = some (Value.slice ta tn tc) := ZZ2.out.cell 3
                  have hs2 : Hid ((fun uu => uu.cell? ⟨g8, 2, none⟩ = some (Value.slice ea en ec) ∧ uu.cell? ⟨g8, 3, none⟩ = some (Value.slice ta tn tc)) m2) := ⟨c0_2, c1_2⟩
                  refine hK _ _ (Sx.behind (by kernel_rfl) hs2.out) ?_
                  clear hK K
                  try go_simp
                  refine wpAnyX_both (T := (fun _ => True)) (i := 7) (v := z2) rfl (by kernel_rfl) (by kernel_rfl) (by kernel_rfl) (fun _ _ _ h => by first | exact h | exact h.elim) (by decide) (fun _ _ => trivial) (fun _ _ => trivial) (Sx.behind (by kernel_rfl) hs2.out) (Or.inl ⟨by rfl, fun uu hu => by go_simp⟩) ?_
                  try go_simp
                  refine wpAnyX_done (by kernel_rfl) ?_ _
                  clear OO0 XX0 YY0 ZZ0 KK0 HS0 BB0 OO1 XX1 YY1 ZZ1 KK1 HS1 BB1 c0_0 c0_1 c0_2 c1_0 c1_1 c1_2 hs0 hs1 hs2
                  have HNL2 : Hid (OwB m2 B z2 (LQ ++ (ls.take (j + 1)).flatMap litG)) := by
                    have h := OO2.out
                    rw [← HLTE.out, ← HLJE.out] at h
                    show OwB _ _ _ _
                    rw [HSTJ.out, HLG.out]
                    simpa [flagB, List.append_assoc] using h
                  obtain ⟨fa, fc, rfl, -⟩ := HNL2.out.rd
                  obtain ⟨fn, hfn⟩ : ∃ x, (LQ ++ (ls.take (j + 1)).flatMap litG).length = x := ⟨_, rfl⟩
                  rw [hfn] at HNL2
                  simp only [hfn]
                  have HFN := kide hfn
                  clear hfn OO2
                  by_cases h6 : fn ≤ 60000
                  · have j6 : ¬ (60000 : Int) < (fn : Int) := by omega
                    have H6 := kide h6
                    clear h6
                    go_wp2_with fail
                    have t9 := wrap_succ (q := j) (by have := HJL.out; have := HLNL.out; omega)
                    rw [t9]
                    clear t9
                    go_roundw
                    case rel => exact ⟨j + 1, HJL.out, rfl, HNL2.out, KK2.out, XX2.out, YY2.out, by rw [HFN.out]; have := H6.out; omega⟩
                    case measure => have := HJL.out; simp only [intOf, Int.toNat_natCast]; omega
                  · have j6 : (60000 : Int) < (fn : Int) := by omega
                    have HZ : Hid (R = []) := by
                      show _ = _
                      rw [HR.out, if_neg]
                      intro h
                      rw [HTOT.out, ← HSA.out, HST.out, HSG.out, ← HSAJ.out] at h
                      have h2 := HFN.out
                      rw [← HLQE.out, ← HLSE.out] at h2
                      simp only [List.length_append] at h h2
                      omega
                    clear h6
                    go_wp2_with fail
                    go_ret
                    rw [HZ.out]
                    exact ⟨_, rfl, OwB.empty _ _ BB2.out.size, BB2.out.trans (((Below.refl _ _).alloc (Nat.le_refl _) _ : Below m2.heap.size m2 (m2.alloc (.cells #[] 5))).mono BB2.out.size)⟩
                | false =>
                  have hbx : Below wr.heap.size wr (wr.alloc (.cells #[Value.int .i64 id, Value.bool false, Value.slice ea en ec, Value.slice ta tn tc] 68)) := (Below.refl _ _).alloc (Nat.le_refl _) _
                  have Z5 := kide (Bz.new wr #[Value.int .i64 id, Value.bool false, Value.slice ea en ec, Value.slice ta tn tc] 68)
                  have O5 := kide (HO.out.later hbx)
                  have K5 := kide (KR.out.trans (Ky.ofB hbx SR.out))
                  have X5 := kide (XXR.out.later hbx)
                  have Y5 := kide (YYR.out.later hbx)
                  have HC7 := kide (l22Put_any B _ LJ id _ O5.out (Nat.le_trans SR.out hbx.size) hid1 (by have := HB7.out; omega))
                  have z0 := Z5.out.cell 0
                  simp at z0
                  clear hbx O5
                  go_wp2_with fail
                  obtain ⟨g8, hg8⟩ : ∃ g, wr.heap.size = g := ⟨_, rfl⟩
                  rw [hg8] at Z5
                  simp only [hg8]
                  clear hg8 p0 p1 p2 p3 y1 hyl z0
                  generalize wr.alloc (.cells #[Value.int .i64 id, Value.bool false, Value.slice ea en ec, Value.slice ta tn tc] 68) = W5 at *
                  refine Calls.mono HC7.out ?_
                  rintro e w7 ⟨v7, rfl, h1, h2⟩
                  have O7 := kide h1
                  have K7 := kide (K5.out.trans h2)
                  have X7 := kide (X5.out.ky h2 (by decide))
                  have Y7 := kide (Y5.out.ky h2 (by decide))
                  have Z7 := kide (Z5.out.ky h2 (by decide))
                  clear h1 h2 HC7 K5 X5 Y5 Z5
                  have z1 := Z7.out.cell 1
                  simp at z1
                  have S7 : Hid (B ≤ w7.heap.size) := Nat.le_trans HB1.out K7.out.1.size
                  have hby : Below w7.heap.size w7 (w7.alloc (.cells #[Value.int .u8 0] 5)) := (Below.refl _ _).alloc (Nat.le_refl _) _
                  have O8 := kide (O7.out.later hby)
                  have N8 : Hid ((w7.alloc (.cells #[Value.int .u8 0] 5)).cell? ⟨w7.heap.size, 0, none⟩ = some (.int .u8 ((0 : Nat) : Int))) := (Bz.new w7 #[Value.int .u8 0] 5).cell 0
                  have K8 := kide (K7.out.trans (Ky.ofB hby S7.out))
                  have X8 := kide (X7.out.later hby)
                  have Y8 := kide (Y7.out.later hby)
                  have Z8 := kide (Z7.out.later hby)
                  have S8 : Hid (B ≤ (w7.alloc (.cells #[Value.int .u8 0] 5)).heap.size) := Nat.le_trans S7.out hby.size
                  have HB8 : Hid ((LJ ++ numB id).length ≤ 5000000000000) := by show _ ≤ _; rw [List.length_append]; have := HB7.out; have := numB_le hid1; omega
                  clear hby O7 K7 X7 Y7 Z7
                  go_wp2_with (at_builtin; refine wpList_appC _ rfl _ _ rfl B v7 (LJ ++ numB id) 0 (by first | rfl | simp [Act.eval]) O8.out w7.heap.size (by first | rfl | simp [Act.eval]) N8.out (by have := HB8.out; omega) S8.out ?_)
                  intro zf WL q1 q2
                  obtain ⟨LT, hLT⟩ : ∃ x, (LJ ++ numB id) ++ [0] = x := ⟨_, rfl⟩
                  have OQ : Hid (OwB WL B zf LT) := by
                    show OwB _ _ _ _
                    rw [← hLT]
                    simpa using q1
                  have HLTE := kide hLT
                  have KQ := kide (K8.out.trans q2)
                  have XXQ := kide (X8.out.ky q2 (by decide))
                  have YYQ := kide (Y8.out.ky q2 (by decide))
                  have ZZQ := kide (Z8.out.ky q2 (by decide))
                  have SQ : Hid (B ≤ WL.heap.size) := Nat.le_trans HB1.out KQ.out.1.size
                  have BQ := kide (B1.out.trans (KQ.out.1.mono HWB.out))
                  have HBW := HB1
                  have HB0 : Hid (LT.length ≤ 60000000000000) := by show _ ≤ _; rw [← hLT, List.length_append]; have := HB8.out; simp only [List.length_cons, List.length_nil]; omega
                  have HB1 : Hid ((LT ++ (numB (en : Int) ++ ess.flatMap nodeG)).length ≤ 60000000000000) := by show _ ≤ _; rw [← hLT, List.length_append, List.length_append]; have := HB8.out; have := HTE.out; simp only [List.length_cons, List.length_nil]; omega
                  clear q1 q2 O8 N8 K8 X8 Y8 Z8 S8 S7 z1 hLT
                  go_wp2_with fail
                  refine wp_region_x (SA := fun _ => False) (SB := fun uu => uu.cell? ⟨g8, 2, none⟩ = some (Value.slice ea en ec) ∧ uu.cell? ⟨g8, 3, none⟩ = some (Value.slice ta tn tc)) (k := 999) (by kernel_rfl) ?_
                  have hbd : Below WL.heap.size WL WL.drew := (Below.refl _ _).drew
                  have OO0 := kide (OQ.out.later hbd)
                  have XX0 := kide (XXQ.out.later hbd)
                  have YY0 := kide (YYQ.out.later hbd)
                  have ZZ0 := kide (ZZQ.out.later hbd)
                  have KK0 := kide (KQ.out.trans (Ky.ofB hbd SQ.out))
                  have HS0 : Hid (B ≤ WL.drew.heap.size) := Nat.le_trans SQ.out hbd.size
                  have BB0 := kide (BQ.out.trans (hbd.mono BQ.out.size))
                  clear hbd
                  generalize WL.drew = m0 at *
                  have c0_0 : m0.cell? ⟨g8, 2, none⟩ = some (Value.slice ea en ec) := ZZ0.out.cell 2
                  have c1_0 : m0.cell? ⟨g8, 3, none⟩ = some (Value.slice ta tn tc) := ZZ0.out.cell 3
                  have hs0 : Hid ((fun uu => uu.cell? ⟨g8, 2, none⟩ = some (Value.slice ea en ec) ∧ uu.cell? ⟨g8, 3, none⟩ = some (Value.slice ta tn tc)) m0) := ⟨c0_0, c1_0⟩
                  try go_simp
                  refine wpAnyX_both (T := (fun _ => True)) (i := 0) (v := zf) rfl (by kernel_rfl) (by kernel_rfl) (by kernel_rfl) (fun _ _ _ h => by first | exact h | exact h.elim) (by decide) (fun _ _ => trivial) (fun _ _ => trivial) (Sx.behind (by kernel_rfl) hs0.out) (Or.inl ⟨by rfl, fun uu hu => by go_simp⟩) ?_
                  try go_simp
                  refine wpAnyX_both (T := (fun _ => True)) (i := 1) (v := Value.pointer (some ⟨g8, 2, none⟩)) rfl (by kernel_rfl) (by kernel_rfl) (by kernel_rfl) (fun _ _ _ h => by first | exact h | exact h.elim) (by decide) (fun _ _ => trivial) (fun _ _ => trivial) (Sx.behind (by kernel_rfl) hs0.out) (Or.inl ⟨by rfl, fun uu hu => by go_simp⟩) ?_
                  try go_simp
                  refine wpAnyX_both (T := (fun uu => uu.cell? ⟨g8, 2, none⟩ = some (Value.slice ea en ec) ∧ uu.cell? ⟨g8, 3, none⟩ = some (Value.slice ta tn tc))) (i := 2) (v := Value.agg #[Value.slice ea en ec]) rfl (by kernel_rfl) (by kernel_rfl) (by kernel_rfl) (fun _ _ _ h => by first | exact h | exact h.elim) (by decide) (fun _ h => h.elim) (fun _ h => h) (Sx.behind (by kernel_rfl) hs0.out) (Or.inl ⟨by rfl, fun uu hu => by obtain ⟨e0, e1⟩ := hu; go_simp⟩) ?_
                  try go_simp
                  refine wpAnyX_both (T := (fun _ => True)) (i := 4) (v := Value.pointer (some ⟨g8, 3, none⟩)) rfl (by kernel_rfl) (by kernel_rfl) (by kernel_rfl) (fun _ _ _ h => by first | exact h | exact h.elim) (by decide) (fun _ _ => trivial) (fun _ _ => trivial) (Sx.behind (by kernel_rfl) hs0.out) (Or.inl ⟨by rfl, fun uu hu => by go_simp⟩) ?_
                  try go_simp
                  refine wpAnyX_both (T := (fun uu => uu.cell? ⟨g8, 2, none⟩ = some (Value.slice ea en ec) ∧ uu.cell? ⟨g8, 3, none⟩ = some (Value.slice ta tn tc))) (i := 5) (v := Value.agg #[Value.slice ta tn tc]) rfl (by kernel_rfl) (by kernel_rfl) (by kernel_rfl) (fun _ _ _ h => by first | exact h | exact h.elim) (by decide) (fun _ h => h.elim) (fun _ h => h) (Sx.behind (by kernel_rfl) hs0.out) (Or.inl ⟨by rfl, fun uu hu => by obtain ⟨e0, e1⟩ := hu; go_simp⟩) ?_
                  try go_simp
                  refine wpAnyX_ready (rs := [3]) (by kernel_rfl) (by simp) (AllX.cons rfl (fun K hK => ?_) AllX.nil)
                  go_simp
                  refine Calls.mono (l22Term_any B en ec ea _ LT ess w m0 OO0.out HS0.out BB0.out HWB.out he1 HEN.out HEO.out HB0.out) ?_
                  rintro e m1 ⟨z1, rfl, ho, hk⟩
                  have OO1 := kide ho
                  have XX1 := kide (XX0.out.ky hk (by decide))
                  have YY1 := kide (YY0.out.ky hk (by decide))
                  have ZZ1 := kide (ZZ0.out.ky hk (by decide))
                  have KK1 := kide (KK0.out.trans hk)
                  have HS1 := kide (Nat.le_trans HS0.out hk.1.size)
                  have BB1 := kide (BB0.out.trans (hk.1.mono HWB.out))
                  clear ho hk
                  have c0_1 : m1.cell? ⟨g8, 2, none⟩ = some (Value.slice ea en ec) := ZZ1.out.cell 2
                  have c1_1 : m1.cell? ⟨g8, 3, none⟩ = some (Value.slice ta tn tc) := ZZ1.out.cell 3
                  have hs1 : Hid ((fun uu => uu.cell? ⟨g8, 2, none⟩ = some (Value.slice ea en ec) ∧ uu.cell? ⟨g8, 3, none⟩ = some (Value.slice ta tn tc)) m1) := ⟨c0_1, c1_1⟩
                  refine hK _ _ (Sx.behind (by kernel_rfl) hs1.out) ?_
                  clear hK K
                  try go_simp
                  refine wpAnyX_ready (rs := [6]) (by kernel_rfl) (by simp) (AllX.cons rfl (fun K hK => ?_) AllX.nil)
                  go_simp
                  refine Calls.mono (l22Term_any B tn tc ta _ (LT ++ (numB (en : Int) ++ ess.flatMap nodeG)) tss w m1 OO1.out HS1.out BB1.out HWB.out ht1 HTN.out HTO.out HB1.out) ?_
                  rintro e m2 ⟨z2, rfl, ho, hk⟩
                  have OO2 := kide ho
                  have XX2 := kide (XX1.out.ky hk (by decide))
                  have YY2 := kide (YY1.out.ky hk (by decide))
                  have ZZ2 := kide (ZZ1.out.ky hk (by decide))
                  have KK2 := kide (KK1.out.trans hk)
                  have HS2 := kide (Nat.le_trans HS1.out hk.1.size)
                  have BB2 := kide (BB1.out.trans (hk.1.mono HWB.out))
                  clear ho hk
                  have c0_2 : m2.cell? ⟨g8, 2, none⟩ = some (Value.slice ea en ec) := ZZ2.out.cell 2
                  have c1_2 : m2.cell? ⟨g8, 3, none⟩ = some (Value.slice ta tn tc) := ZZ2.out.cell 3
                  have hs2 : Hid ((fun uu => uu.cell? ⟨g8, 2, none⟩ = some (Value.slice ea en ec) ∧ uu.cell? ⟨g8, 3, none⟩ = some (Value.slice ta tn tc)) m2) := ⟨c0_2, c1_2⟩
                  refine hK _ _ (Sx.behind (by kernel_rfl) hs2.out) ?_
                  clear hK K
                  try go_simp
                  refine wpAnyX_both (T := (fun _ => True)) (i := 7) (v := z2) rfl (by kernel_rfl) (by kernel_rfl) (by kernel_rfl) (fun _ _ _ h => by first | exact h | exact h.elim) (by decide) (fun _ _ => trivial) (fun _ _ => trivial) (Sx.behind (by kernel_rfl) hs2.out) (Or.inl ⟨by rfl, fun uu hu => by go_simp⟩) ?_
                  try go_simp
                  refine wpAnyX_done (by kernel_rfl) ?_ _
                  clear OO0 XX0 YY0 ZZ0 KK0 HS0 BB0 OO1 XX1 YY1 ZZ1 KK1 HS1 BB1 c0_0 c0_1 c0_2 c1_0 c1_1 c1_2 hs0 hs1 hs2
                  have HNL2 : Hid (OwB m2 B z2 (LQ ++ (ls.take (j + 1)).flatMap litG)) := by
                    have h := OO2.out
                    rw [← HLTE.out, ← HLJE.out] at h
                    show OwB _ _ _ _
                    rw [HSTJ.out, HLG.out]
                    simpa [flagB, List.append_assoc] using h
                  obtain ⟨fa, fc, rfl, -⟩ := HNL2.out.rd
                  obtain ⟨fn, hfn⟩ : ∃ x, (LQ ++ (ls.take (j + 1)).flatMap litG).length = x := ⟨_, rfl⟩
                  rw [hfn] at HNL2
                  simp only [hfn]
                  have HFN := kide hfn
                  clear hfn OO2
                  by_cases h6 : fn ≤ 60000
                  · have j6 : ¬ (60000 : Int) < (fn : Int) := by omega
                    have H6 := kide h6
                    clear h6
                    go_wp2_with fail
                    have t9 := wrap_succ (q := j) (by have := HJL.out; have := HLNL.out; omega)
                    rw [t9]
                    clear t9
                    go_roundw
                    case rel => exact ⟨j + 1, HJL.out, rfl, HNL2.out, KK2.out, XX2.out, YY2.out, by rw [HFN.out]; have := H6.out; omega⟩
                    case measure => have := HJL.out; simp only [intOf, Int.toNat_natCast]; omega
                  · have j6 : (60000 : Int) < (fn : Int) := by omega
                    have HZ : Hid (R = []) := by
                      show _ = _
                      rw [HR.out, if_neg]
                      intro h
                      rw [HTOT.out, ← HSA.out, HST.out, HSG.out, ← HSAJ.out] at h
                      have h2 := HFN.out
                      rw [← HLQE.out, ← HLSE.out] at h2
                      simp only [List.length_append] at h h2
                      omega
                    clear h6
                    go_wp2_with fail
                    go_ret
                    rw [HZ.out]
                    exact ⟨_, rfl, OwB.empty _ _ BB2.out.size, BB2.out.trans (((Below.refl _ _).alloc (Nat.le_refl _) _ : Below m2.heap.size m2 (m2.alloc (.cells #[] 5))).mono BB2.out.size)⟩
              · have hje : j = ln := by omega
                have j1 : ¬ (j : Int) < (ln : Int) := by omega
                have O9 : Hid (OwB wr B u3 (PP ++ (xs.take (q + 1)).flatMap scpG)) := by
                  have h := HO.out
                  rw [hje, ← HLN.out, List.take_length, ← HLQE.out, ← HLSE.out] at h
                  show OwB _ _ _ _
                  rw [HST.out, HSG.out]
                  simpa [List.append_assoc] using h
                have L9 : Hid ((PP ++ (xs.take (q + 1)).flatMap scpG).length ≤ 3000000000000 + 22 * (q + 1)) := by
                  have h := HLE3.out
                  rw [hje, ← HLN.out, List.take_length, ← HLQE.out, ← HLSE.out] at h
                  show _ ≤ _
                  rw [HST.out, HSG.out]
                  simpa [List.append_assoc] using h
                clear hje hj hjl
                go_wp2_with fail
                have t9 := wrap_succ (q := q) (by have := HQL.out; have := HNL.out; omega)
                rw [t9]
                clear t9
                go_roundw
                case rel => exact ⟨q + 1, HQL.out, rfl, O9.out, KR.out, XXR.out, L9.out⟩
                case measure => have := HQL.out; simp only [intOf, Int.toNat_natCast]; omega
          · have hqe : q = n := by omega
            have i0 : ¬ (q : Int) < (n : Int) := by omega
            have HT9 : Hid (PP ++ (xs.take q).flatMap scpG = [83, 1] ++ sesB ds (xs.map Sg.ct) nx) := by
              show _ = _
              rw [HTOT.out, hqe, ← HN.out, List.take_length]
            rw [HT9.out] at HO
            obtain ⟨T, hT⟩ : ∃ T, [83, 1] ++ sesB ds (xs.map Sg.ct) nx = T := ⟨_, rfl⟩
            rw [hT] at HO HR
            obtain ⟨ta, tc, rfl, -⟩ := HO.out.rd
            obtain ⟨tn, htn⟩ : ∃ x, T.length = x := ⟨_, rfl⟩
            rw [htn] at HR HO
            simp only [htn]
            have HTN := kide htn
            clear hqe hq hqn hT htn
            by_cases h6 : tn ≤ 60000
            · rw [if_pos h6] at HR
              have j0 : ¬ (60000 : Int) < (tn : Int) := by omega
              clear h6
              go_wp2_with fail
              go_ret
              rw [HR.out]
              exact ⟨_, rfl, HO.out.low HWB.out, BR.out⟩
            · rw [if_neg h6] at HR
              have j0 : (60000 : Int) < (tn : Int) := by omega
              clear h6
              go_wp2_with fail
              go_ret
              rw [HR.out]
              exact ⟨_, rfl, OwB.empty _ _ BR.out.size, BR.out.trans (((Below.refl _ _).alloc (Nat.le_refl _) _ : Below wr.heap.size wr (wr.alloc (.cells #[] 5))).mono BR.out.size)⟩

end Go.Proofs.YtofdkdaehhpgbaaGreatDoor
