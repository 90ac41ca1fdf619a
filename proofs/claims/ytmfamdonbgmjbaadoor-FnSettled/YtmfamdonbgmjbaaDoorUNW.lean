/- newWatcher. -/
import Derived.Test.YtmfamdonbgmjbaaDoorZGAH
import Derived.Test.YtmfamdonbgmjbaaDoorZGAF
namespace Go.Proofs.YtmfamdonbgmjbaaDoor
set_option linter.unusedVariables false
set_option linter.unusedSimpArgs false
open Go.RowKit

/-- Only the plain way out. -/
def onN (R : Act → World → Prop) : Exit → Act → World → Prop
  | .normal, a, w => R a w
  | _, _, _ => False
theorem code_cut {P : Program} {cd : Code} {Q : Exit → Act → World → Prop} {a : Act} {w : World} (R : Act → World → Prop) (h1 : cd.wp P (onN R) a w) (h2 : ∀ a w, R a w → Q .normal a w) : cd.wp P Q a w :=
  Code.wp_mono (fun e a w h => by
    cases e with
    | normal => exact h2 a w h
    | _ => exact h.elim) h1
theorem act_u {T : Array Value} {X : (Nat → Value) → Array Value} (h : T = X (fun i => T.getD i undef)) : ∃ u : Nat → Value, ({ tmps := T, defers := [] } : Act) = { tmps := X u, defers := [] } := ⟨_, congrArg (fun t => ({ tmps := t, defers := [] } : Act)) h⟩
theorem made_eyes (n : Nat) : madeCells #[.int .i64 0, .int .i64 0] (n * 2) = eyV (List.replicate n (0, 0)) := by
  apply Array.ext_getElem?
  intro i
  by_cases h : i < n * 2
  · have e1 : (madeCells #[Value.int .i64 0, Value.int .i64 0] (n * 2))[i]? = some (.int .i64 0) := by
      have h2 : i % 2 < 2 := Nat.mod_lt _ (by omega)
      have h3 : i % 2 = 0 ∨ i % 2 = 1 := by omega
      rcases h3 with h3 | h3 <;> simp [madeCells, h, h3]
    rw [e1]
    have h4 : (List.replicate n ((0 : Nat), (0 : Nat)))[i / 2]? = some (0, 0) := by rw [List.getElem?_replicate, if_pos (by omega)]
    obtain ⟨h5, h6⟩ := eyV_at h4
    have h3 : i = i / 2 * 2 ∨ i = i / 2 * 2 + 1 := by omega
    rcases h3 with h3 | h3
    · rw [h3, h5]; rfl
    · rw [h3, h6]; rfl
  · rw [Array.getElem?_eq_none (by rw [size_madeCells]; omega), Array.getElem?_eq_none (by rw [eyV_len, List.length_replicate]; omega)]
theorem make_eyes (n : Nat) (hn : n ≤ 1048576) (kl kc : IntKind) (w : World) :
    (Instr.makeSlice 62 (.int kl (n : Int)) (.int kc (n : Int))).run Tryd.prog w = .ok (.slice (some ⟨w.heap.size, 0, none⟩) n n) (w.alloc (.cells (eyV (List.replicate n (0, 0))) 96)) := by
  obtain ⟨i0, hi, hz0, hz1, hz2⟩ := info_parts (show (Tryd.prog.info? 96).map (fun i => (i.zero, i.size, i.bytes)) = some (some (.agg #[.int .i64 0, .int .i64 0]), 2, 16) by kernel_rfl)
  have := run_make (P := Tryd.prog) w 62 96 i0 _ Tryd.underlying62 hi hz0 kl kc n n (by omega) (Int.le_refl _) (by rw [hz2]; omega) (by omega)
  rw [hz1] at this
  simp only [Int.toNat_natCast] at this
  rw [show (Value.agg #[Value.int .i64 0, Value.int .i64 0]).cells = #[Value.int .i64 0, Value.int .i64 0] from by rfl, made_eyes] at this
  exact this
theorem make_rows (n : Nat) (hn : n ≤ 1048576) (kl kc : IntKind) (w : World) :
    (Instr.makeSlice 63 (.int kl (n : Int)) (.int kc (n : Int))).run Tryd.prog w = .ok (.slice (some ⟨w.heap.size, 0, none⟩) n n) (w.alloc (.cells ((List.replicate n ((Value.slice none 0 0, []) : Value × List Nat)).map Prod.fst).toArray 97)) := by
  obtain ⟨i0, hi, hz0, hz1, hz2⟩ := info_parts (show (Tryd.prog.info? 97).map (fun i => (i.zero, i.size, i.bytes)) = some (some (.slice none 0 0), 1, 24) by kernel_rfl)
  have := run_make (P := Tryd.prog) w 63 97 i0 _ Tryd.underlying63 hi hz0 kl kc n n (by omega) (Int.le_refl _) (by rw [hz2]; omega) (by omega)
  rw [hz1, Nat.mul_one] at this
  simp only [Int.toNat_natCast] at this
  rw [show madeCells (Value.slice none 0 0).cells n = ((List.replicate n ((Value.slice none 0 0, []) : Value × List Nat)).map Prod.fst).toArray from by
    apply Array.toList_inj.1
    rw [show (Value.slice none 0 0).cells = #[Value.slice none 0 0] from by rfl, toList_madeCells_one]
    simp] at this
  exact this
theorem make_flags (S n : Nat) (hn : n ≤ 1048576) (kl kc : IntKind) (w : World) :
    (Instr.makeSlice 37 (.int kl (n : Int)) (.int kc (n : Int))).run Tryd.prog w = .ok (.slice (some ⟨w.heap.size, 0, none⟩) n n) (w.alloc (.cells (seL S n []).toArray 4)) := by
  have := make_bools n hn kl kc w
  rw [made_bools, ← seL_nil S n] at this
  exact this
theorem RdII.at' {w : World} {a : Option Addr} {xs : List Iw} (h : RdII w a xs) {i : Nat} {x : Iw} (hi : xs[i]? = some x) : ∃ b o, a = some ⟨b, o, none⟩ ∧ w.cell? ⟨b, o + i, none⟩ = some (.slice x.a x.ks.length x.c) ∧ RdI w x.a x.ks := by
  rcases h.2 with h0 | ⟨b, o, h1, h2⟩
  · subst h0; simp at hi
  · exact ⟨b, o, h1, (h2 i x hi).1, (h2 i x hi).2⟩
/-- The blocks are laid. -/
def RNw (w w0 : World) (S N nc cc nw : Nat) (ca : Option Addr) (A1 A2 A3 A4 : Array Value) (a : Act) (u : World) : Prop := ∃ be bw bs bd bx : Nat, (w0.heap.size ≤ be ∧ w0.heap.size ≤ bw ∧ w0.heap.size ≤ bs ∧ w0.heap.size ≤ bd ∧ w0.heap.size ≤ bx) ∧ Bz u be A1 96 ∧ Bz u bw A2 97 ∧ Bz u bs A3 4 ∧ Bz u bd A4 108 ∧ Bz u bx #[Value.int .i64 (S : Int), Value.slice ca nc cc, Value.slice (some ⟨be, 0, none⟩) nc nc, Value.slice (some ⟨bw, 0, none⟩) N N, Value.slice (some ⟨bs, 0, none⟩) N N, Value.slice none 0 0, Value.slice (some ⟨bd, 0, none⟩) nw nw] 68 ∧ Below w0.heap.size w0 u ∧
  ∃ x : Nat → Value, a = ({ tmps := #[Value.agg #[Value.int .i64 (S : Int), Value.slice ca nc cc], Value.pointer (some ⟨w.heap.size, 0, none⟩), Value.pointer none, Value.int .i64 (N : Int), Value.pointer (some ⟨bx, 0, none⟩), x 5, x 6, x 7, x 8, x 9, x 10, x 11, x 12, x 13, x 14, x 15, x 16, x 17, x 18, x 19, x 20, x 21, x 22, x 23, x 24, x 25, x 26, x 27, x 28, x 29, x 30, x 31, x 32, x 33, x 34, x 35, x 36, x 37, x 38, x 39, x 40, x 41, x 42, x 43, x 44, x 45, x 46, x 47, x 48, x 49, x 50, x 51, x 52, x 53, x 54, x 55, x 56, x 57, x 58, x 59, x 60, x 61, x 62, x 63, x 64, x 65, x 66, x 67, x 68, x 69, x 70, x 71, x 72, x 73, x 74, x 75, x 76, x 77, x 78, x 79, x 80, x 81, x 82, x 83, x 84], defers := [] } : Act)

set_option maxHeartbeats 4000000 in
set_option maxRecDepth 100000 in
theorem newWatcher_any {w : World} {S : Nat} {ca : Option Addr} {nc cc : Nat} (xs : List Iw) (hc : RdII w ca xs) (hnc : xs.length = nc) (hn4 : nc ≤ 4000) (hS : S ≤ 400) (hcap : ∀ x ∈ xs, x.ks.length ≤ x.c)
    (hcs : ∀ cl ∈ xs.map Iw.ks, Cd cl ∧ cl.length ≤ 400 ∧ ∀ x ∈ cl, x ≠ 0 ∧ -(S : Int) ≤ x ∧ x ≤ (S : Int)) :
    Calls Tryd.prog 36 #[.agg #[.int .i64 (S : Int), .slice ca nc cc]] w fun e w' => ∃ M tv eyl rows ws, M.ex = [] ∧ e = .returned (.pointer (some ⟨M.bx, 0, none⟩)) ∧ Wm w' w.heap.size M S (2 * S + 1) ca nc cc tv eyl rows [] ws ∧ Wi (xs.map Iw.ks) [] (eyF eyl) (wtF S rows) (plB ws) ∧ ws.length = (nc + 63) / 64 ∧ Below w.heap.size w w' := by
  obtain ⟨N, hN⟩ : ∃ N, 2 * S + 1 = N := ⟨_, rfl⟩
  obtain ⟨nw, hnw⟩ : ∃ nw, (nc + 63) / 64 = nw := ⟨_, rfl⟩
  have eN : 2 * (S : Int) + 1 = (N : Int) := by omega
  have HNP := kide (fun u => newPlaceSet_any nc hn4 u)
  rw [hnw] at HNP
  rw [hN, hnw]
  have HN := kide hN
  have HNW := kide hnw
  have m1 : ∀ (kl kc : IntKind) (u : World), (Instr.makeSlice 62 (.int kl (nc : Int)) (.int kc (nc : Int))).run Tryd.prog u = .ok (.slice (some ⟨u.heap.size, 0, none⟩) nc nc) (u.alloc (.cells (eyV (List.replicate nc (0, 0))) 96)) := fun kl kc u => make_eyes nc (by omega) kl kc u
  have m2 : ∀ (kl kc : IntKind) (u : World), (Instr.makeSlice 63 (.int kl (N : Int)) (.int kc (N : Int))).run Tryd.prog u = .ok (.slice (some ⟨u.heap.size, 0, none⟩) N N) (u.alloc (.cells ((List.replicate N ((Value.slice none 0 0, []) : Value × List Nat)).map Prod.fst).toArray 97)) := fun kl kc u => make_rows N (by omega) kl kc u
  have m3 : ∀ (kl kc : IntKind) (u : World), (Instr.makeSlice 37 (.int kl (N : Int)) (.int kc (N : Int))).run Tryd.prog u = .ok (.slice (some ⟨u.heap.size, 0, none⟩) N N) (u.alloc (.cells (seL S N []).toArray 4)) := fun kl kc u => make_flags S N (by omega) kl kc u
  have hb0 : Below w.heap.size w (w.alloc (Obj.cells #[Value.int .i64 (S : Int), Value.slice ca nc cc] 29)) := (Below.refl _ _).alloc (Nat.le_refl _) _
  have X0 := kide (Bz.new w #[Value.int .i64 (S : Int), Value.slice ca nc cc] 29)
  have B0 := kide hb0
  have HC := kide hc
  have HCS := kide hcs
  have HCAP := kide hcap
  clear hb0 hc hcs hN hnw hcap
  go_enter Tryd.func36, Tryd.ntmps36
  go_wp2_with fail
  generalize w.alloc (Obj.cells #[Value.int .i64 (S : Int), Value.slice ca nc cc] 29) = w0 at *
  have g0 : w0.cell? ⟨w.heap.size, 0, none⟩ = some (Value.int .i64 (S : Int)) := X0.out.cell 0
  have g1 : w0.cell? ⟨w.heap.size, 1, none⟩ = some (Value.slice ca nc cc) := X0.out.cell 1
  have l0 : w.heap.size < w0.heap.size := X0.out.lt
  obtain ⟨A1, hA1⟩ : ∃ A, eyV (List.replicate nc (0, 0)) = A := ⟨_, rfl⟩
  obtain ⟨A2, hA2⟩ : ∃ A, ((List.replicate N ((Value.slice none 0 0, []) : Value × List Nat)).map Prod.fst).toArray = A := ⟨_, rfl⟩
  obtain ⟨A3, hA3⟩ : ∃ A, (seL S N []).toArray = A := ⟨_, rfl⟩
  obtain ⟨A4, hA4⟩ : ∃ A, wsV (List.replicate nw 0) = A := ⟨_, rfl⟩
  rw [hA1] at m1
  rw [hA2] at m2
  rw [hA3] at m3
  rw [hA4] at HNP
  have HA1 := kide hA1
  have HA2 := kide hA2
  have HA3 := kide hA3
  have HA4 := kide hA4
  clear hA1 hA2 hA3 hA4
  refine code_cut (RNw w w0 S N nc cc nw ca A1 A2 A3 A4) ?_ ?_
  · refine wp_region_x (SA := fun _ => False) (SB := fun uu => Below w0.heap.size w0 uu) (k := 999) (by kernel_rfl) ?_
    have hu0 : Hid (Below w0.heap.size w0 w0.drew) := (Below.refl _ _).drew
    generalize w0.drew = u0 at *
    try go_simp
    refine wpAnyX_both (T := fun uu => Below w0.heap.size w0 uu) (i := 0) (v := Value.pointer (some ⟨w.heap.size, 0, none⟩)) rfl (by kernel_rfl) (by kernel_rfl) (by kernel_rfl) (fun _ _ _ h => by first | exact h | exact h.elim) (by decide) (fun _ h => h.elim) (fun _ h => h) (Sx.behind (by kernel_rfl) hu0.out) (Or.inl ⟨by rfl, fun uu hu => by go_simp⟩) ?_
    try go_simp
    refine wpAnyX_both (T := fun uu => Below w0.heap.size w0 uu) (i := 1) (v := Value.int .i64 (S : Int)) rfl (by kernel_rfl) (by kernel_rfl) (by kernel_rfl) (fun _ _ _ h => by first | exact h | exact h.elim) (by decide) (fun _ h => h.elim) (fun _ h => h) (Sx.behind (by kernel_rfl) hu0.out) (Or.inl ⟨by rfl, fun uu hu => by have e1 := (kcell hu w.heap.size 0 l0).trans g0; go_simp⟩) ?_
    try go_simp
    refine wpAnyX_both (T := fun uu => Below w0.heap.size w0 uu) (i := 2) (v := Value.pointer (some ⟨w.heap.size, 1, none⟩)) rfl (by kernel_rfl) (by kernel_rfl) (by kernel_rfl) (fun _ _ _ h => by first | exact h | exact h.elim) (by decide) (fun _ h => h.elim) (fun _ h => h) (Sx.behind (by kernel_rfl) hu0.out) (Or.inl ⟨by rfl, fun uu hu => by go_simp⟩) ?_
    try go_simp
    refine wpAnyX_both (T := fun uu => Below w0.heap.size w0 uu) (i := 3) (v := Value.slice ca nc cc) rfl (by kernel_rfl) (by kernel_rfl) (by kernel_rfl) (fun _ _ _ h => by first | exact h | exact h.elim) (by decide) (fun _ h => h.elim) (fun _ h => h) (Sx.behind (by kernel_rfl) hu0.out) (Or.inl ⟨by rfl, fun uu hu => by have e1 := (kcell hu w.heap.size 1 l0).trans g1; go_simp⟩) ?_
    try go_simp
    refine wpAnyX_both (T := fun uu => Below w0.heap.size w0 uu) (i := 4) (v := Value.pointer (some ⟨w.heap.size, 1, none⟩)) rfl (by kernel_rfl) (by kernel_rfl) (by kernel_rfl) (fun _ _ _ h => by first | exact h | exact h.elim) (by decide) (fun _ h => h.elim) (fun _ h => h) (Sx.behind (by kernel_rfl) hu0.out) (Or.inl ⟨by rfl, fun uu hu => by go_simp⟩) ?_
    try go_simp
    refine wpAnyX_both (T := fun uu => Below w0.heap.size w0 uu) (i := 5) (v := Value.slice ca nc cc) rfl (by kernel_rfl) (by kernel_rfl) (by kernel_rfl) (fun _ _ _ h => by first | exact h | exact h.elim) (by decide) (fun _ h => h.elim) (fun _ h => h) (Sx.behind (by kernel_rfl) hu0.out) (Or.inl ⟨by rfl, fun uu hu => by have e1 := (kcell hu w.heap.size 1 l0).trans g1; go_simp⟩) ?_
    try go_simp
    refine wpAnyX_both (T := fun uu => Below w0.heap.size w0 uu) (i := 6) (v := Value.int .i64 (nc : Int)) rfl (by kernel_rfl) (by kernel_rfl) (by kernel_rfl) (fun _ _ _ h => by first | exact h | exact h.elim) (by decide) (fun _ h => h.elim) (fun _ h => h) (Sx.behind (by kernel_rfl) hu0.out) (Or.inl ⟨by rfl, fun uu hu => by go_simp⟩) ?_
    try go_simp
    refine wpAnyX_both (T := fun uu => Below w0.heap.size w0 uu) (i := 8) (v := Value.int .i64 (N : Int)) rfl (by kernel_rfl) (by kernel_rfl) (by kernel_rfl) (fun _ _ _ h => by first | exact h | exact h.elim) (by decide) (fun _ h => h.elim) (fun _ h => h) (Sx.behind (by kernel_rfl) hu0.out) (Or.inl ⟨by rfl, fun uu hu => by go_simp⟩) ?_
    try go_simp
    refine wpAnyX_both (T := fun uu => Below w0.heap.size w0 uu) (i := 10) (v := Value.int .i64 (N : Int)) rfl (by kernel_rfl) (by kernel_rfl) (by kernel_rfl) (fun _ _ _ h => by first | exact h | exact h.elim) (by decide) (fun _ h => h.elim) (fun _ h => h) (Sx.behind (by kernel_rfl) hu0.out) (Or.inl ⟨by rfl, fun uu hu => by go_simp⟩) ?_
    try go_simp
    refine wpAnyX_both (T := fun uu => Below w0.heap.size w0 uu) (i := 12) (v := Value.pointer (some ⟨w.heap.size, 1, none⟩)) rfl (by kernel_rfl) (by kernel_rfl) (by kernel_rfl) (fun _ _ _ h => by first | exact h | exact h.elim) (by decide) (fun _ h => h.elim) (fun _ h => h) (Sx.behind (by kernel_rfl) hu0.out) (Or.inl ⟨by rfl, fun uu hu => by go_simp⟩) ?_
    try go_simp
    refine wpAnyX_both (T := fun uu => Below w0.heap.size w0 uu) (i := 13) (v := Value.slice ca nc cc) rfl (by kernel_rfl) (by kernel_rfl) (by kernel_rfl) (fun _ _ _ h => by first | exact h | exact h.elim) (by decide) (fun _ h => h.elim) (fun _ h => h) (Sx.behind (by kernel_rfl) hu0.out) (Or.inl ⟨by rfl, fun uu hu => by have e1 := (kcell hu w.heap.size 1 l0).trans g1; go_simp⟩) ?_
    try go_simp
    refine wpAnyX_both (T := fun uu => Below w0.heap.size w0 uu) (i := 14) (v := Value.int .i64 (nc : Int)) rfl (by kernel_rfl) (by kernel_rfl) (by kernel_rfl) (fun _ _ _ h => by first | exact h | exact h.elim) (by decide) (fun _ h => h.elim) (fun _ h => h) (Sx.behind (by kernel_rfl) hu0.out) (Or.inl ⟨by rfl, fun uu hu => by go_simp⟩) ?_
    try go_simp
    refine wpAnyX_ready (rs := [7, 9, 11, 15]) (by kernel_rfl) (by simp) (AllX.cons rfl (fun K hK => ?_) (AllX.cons rfl (fun K hK => ?_) (AllX.cons rfl (fun K hK => ?_) (AllX.cons rfl (fun K hK => ?_) AllX.nil))))
    · go_simp
      refine hK _ _ (Sx.behind (by kernel_rfl) (hu0.out.alloc hu0.out.size _)) ?_
      clear hK K
      have hu1 : Hid (Below w0.heap.size w0 (u0.alloc (Obj.cells A1 96))) := hu0.out.alloc hu0.out.size _
      have bbe_1 : Hid (Bz (u0.alloc (Obj.cells A1 96)) u0.heap.size A1 96) := Bz.new _ _ _
      have w1 : Below u0.heap.size u0 (u0.alloc (Obj.cells A1 96)) := (Below.refl _ _).alloc (Nat.le_refl _) _
      have lbe : w0.heap.size ≤ u0.heap.size := hu0.out.size
      clear w1
      generalize hqbe : u0.heap.size = be at *
      generalize u0.alloc (Obj.cells A1 96) = u1 at *
      clear hqbe
      try go_simp
      refine wpAnyX_ready (rs := [9, 11, 15]) (by kernel_rfl) (by simp) (AllX.cons rfl (fun K hK => ?_) (AllX.cons rfl (fun K hK => ?_) (AllX.cons rfl (fun K hK => ?_) AllX.nil)))
      · go_simp
        refine hK _ _ (Sx.behind (by kernel_rfl) (hu1.out.alloc hu1.out.size _)) ?_
        clear hK K
        have hu2 : Hid (Below w0.heap.size w0 (u1.alloc (Obj.cells A2 97))) := hu1.out.alloc hu1.out.size _
        have bbw_2 : Hid (Bz (u1.alloc (Obj.cells A2 97)) u1.heap.size A2 97) := Bz.new _ _ _
        have w2 : Below u1.heap.size u1 (u1.alloc (Obj.cells A2 97)) := (Below.refl _ _).alloc (Nat.le_refl _) _
        have bbe_2 : Hid (Bz (u1.alloc (Obj.cells A2 97)) be A1 96) := Bz.later bbe_1.out w2
        have lbw : w0.heap.size ≤ u1.heap.size := hu1.out.size
        clear w2
        generalize hqbw : u1.heap.size = bw at *
        generalize u1.alloc (Obj.cells A2 97) = u2 at *
        clear hqbw
        try go_simp
        refine wpAnyX_ready (rs := [11, 15]) (by kernel_rfl) (by simp) (AllX.cons rfl (fun K hK => ?_) (AllX.cons rfl (fun K hK => ?_) AllX.nil))
        · go_simp
          refine hK _ _ (Sx.behind (by kernel_rfl) (hu2.out.alloc hu2.out.size _)) ?_
          clear hK K
          have hu3 : Hid (Below w0.heap.size w0 (u2.alloc (Obj.cells A3 4))) := hu2.out.alloc hu2.out.size _
          have bbs_3 : Hid (Bz (u2.alloc (Obj.cells A3 4)) u2.heap.size A3 4) := Bz.new _ _ _
          have w3 : Below u2.heap.size u2 (u2.alloc (Obj.cells A3 4)) := (Below.refl _ _).alloc (Nat.le_refl _) _
          have bbe_3 : Hid (Bz (u2.alloc (Obj.cells A3 4)) be A1 96) := Bz.later bbe_2.out w3
          have bbw_3 : Hid (Bz (u2.alloc (Obj.cells A3 4)) bw A2 97) := Bz.later bbw_2.out w3
          have lbs : w0.heap.size ≤ u2.heap.size := hu2.out.size
          clear w3
          generalize hqbs : u2.heap.size = bs at *
          generalize u2.alloc (Obj.cells A3 4) = u3 at *
          clear hqbs
          try go_simp
          refine wpAnyX_ready (rs := [15]) (by kernel_rfl) (by simp) (AllX.cons rfl (fun K hK => ?_) AllX.nil)
          go_simp
          refine Calls.mono (HNP.out u3) ?_
          rintro e u4 ⟨bd, hd9, rfl, hz9, hb9⟩
          have hu4 : Hid (Below w0.heap.size w0 u4) := hu3.out.trans (hb9.mono hu3.out.size)
          have bbe_4 : Hid (Bz u4 be A1 96) := Bz.later bbe_3.out hb9
          have bbw_4 : Hid (Bz u4 bw A2 97) := Bz.later bbw_3.out hb9
          have bbs_4 : Hid (Bz u4 bs A3 4) := Bz.later bbs_3.out hb9
          have bbd_4 := kide hz9
          have lbd : w0.heap.size ≤ bd := Nat.le_trans hu3.out.size hd9
          refine hK _ _ (Sx.behind (by kernel_rfl) hu4.out) ?_
          clear hK K hb9 hd9 hz9
          try go_simp
          refine wpAnyX_both (T := fun uu => Below w0.heap.size w0 uu) (i := 16) (v := Value.agg #[Value.int .i64 (S : Int), Value.slice ca nc cc, Value.slice (some ⟨be, 0, none⟩) nc nc, Value.slice (some ⟨bw, 0, none⟩) N N, Value.slice (some ⟨bs, 0, none⟩) N N, Value.slice none 0 0, Value.slice (some ⟨bd, 0, none⟩) nw nw]) rfl (by kernel_rfl) (by kernel_rfl) (by kernel_rfl) (fun _ _ _ h => by first | exact h | exact h.elim) (by decide) (fun _ h => h.elim) (fun _ h => h) (Sx.behind (by kernel_rfl) hu4.out) (Or.inl ⟨by rfl, fun uu hu => by go_simp⟩) ?_
          try go_simp
          refine wpAnyX_ready (rs := [17]) (by kernel_rfl) (by simp) (AllX.cons rfl (fun K hK => ?_) AllX.nil)
          go_simp
          refine hK _ _ (Sx.behind (by kernel_rfl) (hu4.out.alloc hu4.out.size _)) ?_
          clear hK K
          have hu5 : Hid (Below w0.heap.size w0 (u4.alloc (Obj.cells #[Value.int .i64 (S : Int), Value.slice ca nc cc, Value.slice (some ⟨be, 0, none⟩) nc nc, Value.slice (some ⟨bw, 0, none⟩) N N, Value.slice (some ⟨bs, 0, none⟩) N N, Value.slice none 0 0, Value.slice (some ⟨bd, 0, none⟩) nw nw] 68))) := hu4.out.alloc hu4.out.size _
          have bbx_5 : Hid (Bz (u4.alloc (Obj.cells #[Value.int .i64 (S : Int), Value.slice ca nc cc, Value.slice (some ⟨be, 0, none⟩) nc nc, Value.slice (some ⟨bw, 0, none⟩) N N, Value.slice (some ⟨bs, 0, none⟩) N N, Value.slice none 0 0, Value.slice (some ⟨bd, 0, none⟩) nw nw] 68)) u4.heap.size #[Value.int .i64 (S : Int), Value.slice ca nc cc, Value.slice (some ⟨be, 0, none⟩) nc nc, Value.slice (some ⟨bw, 0, none⟩) N N, Value.slice (some ⟨bs, 0, none⟩) N N, Value.slice none 0 0, Value.slice (some ⟨bd, 0, none⟩) nw nw] 68) := Bz.new _ _ _
          have w5 : Below u4.heap.size u4 (u4.alloc (Obj.cells #[Value.int .i64 (S : Int), Value.slice ca nc cc, Value.slice (some ⟨be, 0, none⟩) nc nc, Value.slice (some ⟨bw, 0, none⟩) N N, Value.slice (some ⟨bs, 0, none⟩) N N, Value.slice none 0 0, Value.slice (some ⟨bd, 0, none⟩) nw nw] 68)) := (Below.refl _ _).alloc (Nat.le_refl _) _
          have bbe_5 : Hid (Bz (u4.alloc (Obj.cells #[Value.int .i64 (S : Int), Value.slice ca nc cc, Value.slice (some ⟨be, 0, none⟩) nc nc, Value.slice (some ⟨bw, 0, none⟩) N N, Value.slice (some ⟨bs, 0, none⟩) N N, Value.slice none 0 0, Value.slice (some ⟨bd, 0, none⟩) nw nw] 68)) be A1 96) := Bz.later bbe_4.out w5
          have bbw_5 : Hid (Bz (u4.alloc (Obj.cells #[Value.int .i64 (S : Int), Value.slice ca nc cc, Value.slice (some ⟨be, 0, none⟩) nc nc, Value.slice (some ⟨bw, 0, none⟩) N N, Value.slice (some ⟨bs, 0, none⟩) N N, Value.slice none 0 0, Value.slice (some ⟨bd, 0, none⟩) nw nw] 68)) bw A2 97) := Bz.later bbw_4.out w5
          have bbs_5 : Hid (Bz (u4.alloc (Obj.cells #[Value.int .i64 (S : Int), Value.slice ca nc cc, Value.slice (some ⟨be, 0, none⟩) nc nc, Value.slice (some ⟨bw, 0, none⟩) N N, Value.slice (some ⟨bs, 0, none⟩) N N, Value.slice none 0 0, Value.slice (some ⟨bd, 0, none⟩) nw nw] 68)) bs A3 4) := Bz.later bbs_4.out w5
          have bbd_5 : Hid (Bz (u4.alloc (Obj.cells #[Value.int .i64 (S : Int), Value.slice ca nc cc, Value.slice (some ⟨be, 0, none⟩) nc nc, Value.slice (some ⟨bw, 0, none⟩) N N, Value.slice (some ⟨bs, 0, none⟩) N N, Value.slice none 0 0, Value.slice (some ⟨bd, 0, none⟩) nw nw] 68)) bd A4 108) := Bz.later bbd_4.out w5
          have lbx : w0.heap.size ≤ u4.heap.size := hu4.out.size
          clear w5
          generalize hqbx : u4.heap.size = bx at *
          generalize u4.alloc (Obj.cells #[Value.int .i64 (S : Int), Value.slice ca nc cc, Value.slice (some ⟨be, 0, none⟩) nc nc, Value.slice (some ⟨bw, 0, none⟩) N N, Value.slice (some ⟨bs, 0, none⟩) N N, Value.slice none 0 0, Value.slice (some ⟨bd, 0, none⟩) nw nw] 68) = u5 at *
          clear hqbx
          try go_simp
          refine wpAnyX_both (T := fun uu => Below w0.heap.size w0 uu) (i := 18) (v := Value.pointer (some ⟨bx, 0, none⟩)) rfl (by kernel_rfl) (by kernel_rfl) (by kernel_rfl) (fun _ _ _ h => by first | exact h | exact h.elim) (by decide) (fun _ h => h.elim) (fun _ h => h) (Sx.behind (by kernel_rfl) hu5.out) (Or.inl ⟨by rfl, fun uu hu => by go_simp⟩) ?_
          try go_simp
          refine wpAnyX_done (by kernel_rfl) ?_ _
          exact (show RNw w w0 S N nc cc nw ca A1 A2 A3 A4 _ _ from ⟨be, bw, bs, bd, bx, ⟨lbe, lbw, lbs, lbd, lbx⟩, bbe_5.out, bbw_5.out, bbs_5.out, bbd_5.out, bbx_5.out, hu5.out, act_u (by kernel_rfl)⟩)
        · go_simp
          refine Calls.mono (HNP.out u2) ?_
          rintro e u3 ⟨bd, hd9, rfl, hz9, hb9⟩
          have hu3 : Hid (Below w0.heap.size w0 u3) := hu2.out.trans (hb9.mono hu2.out.size)
          have bbe_3 : Hid (Bz u3 be A1 96) := Bz.later bbe_2.out hb9
          have bbw_3 : Hid (Bz u3 bw A2 97) := Bz.later bbw_2.out hb9
          have bbd_3 := kide hz9
          have lbd : w0.heap.size ≤ bd := Nat.le_trans hu2.out.size hd9
          refine hK _ _ (Sx.behind (by kernel_rfl) hu3.out) ?_
          clear hK K hb9 hd9 hz9
          try go_simp
          refine wpAnyX_ready (rs := [11]) (by kernel_rfl) (by simp) (AllX.cons rfl (fun K hK => ?_) AllX.nil)
          go_simp
          refine hK _ _ (Sx.behind (by kernel_rfl) (hu3.out.alloc hu3.out.size _)) ?_
          clear hK K
          have hu4 : Hid (Below w0.heap.size w0 (u3.alloc (Obj.cells A3 4))) := hu3.out.alloc hu3.out.size _
          have bbs_4 : Hid (Bz (u3.alloc (Obj.cells A3 4)) u3.heap.size A3 4) := Bz.new _ _ _
          have w4 : Below u3.heap.size u3 (u3.alloc (Obj.cells A3 4)) := (Below.refl _ _).alloc (Nat.le_refl _) _
          have bbe_4 : Hid (Bz (u3.alloc (Obj.cells A3 4)) be A1 96) := Bz.later bbe_3.out w4
          have bbw_4 : Hid (Bz (u3.alloc (Obj.cells A3 4)) bw A2 97) := Bz.later bbw_3.out w4
          have bbd_4 : Hid (Bz (u3.alloc (Obj.cells A3 4)) bd A4 108) := Bz.later bbd_3.out w4
          have lbs : w0.heap.size ≤ u3.heap.size := hu3.out.size
          clear w4
          generalize hqbs : u3.heap.size = bs at *
          generalize u3.alloc (Obj.cells A3 4) = u4 at *
          clear hqbs
          try go_simp
          refine wpAnyX_both (T := fun uu => Below w0.heap.size w0 uu) (i := 16) (v := Value.agg #[Value.int .i64 (S : Int), Value.slice ca nc cc, Value.slice (some ⟨be, 0, none⟩) nc nc, Value.slice (some ⟨bw, 0, none⟩) N N, Value.slice (some ⟨bs, 0, none⟩) N N, Value.slice none 0 0, Value.slice (some ⟨bd, 0, none⟩) nw nw]) rfl (by kernel_rfl) (by kernel_rfl) (by kernel_rfl) (fun _ _ _ h => by first | exact h | exact h.elim) (by decide) (fun _ h => h.elim) (fun _ h => h) (Sx.behind (by kernel_rfl) hu4.out) (Or.inl ⟨by rfl, fun uu hu => by go_simp⟩) ?_
          try go_simp
          refine wpAnyX_ready (rs := [17]) (by kernel_rfl) (by simp) (AllX.cons rfl (fun K hK => ?_) AllX.nil)
          go_simp
          refine hK _ _ (Sx.behind (by kernel_rfl) (hu4.out.alloc hu4.out.size _)) ?_
          clear hK K
          have hu5 : Hid (Below w0.heap.size w0 (u4.alloc (Obj.cells #[Value.int .i64 (S : Int), Value.slice ca nc cc, Value.slice (some ⟨be, 0, none⟩) nc nc, Value.slice (some ⟨bw, 0, none⟩) N N, Value.slice (some ⟨bs, 0, none⟩) N N, Value.slice none 0 0, Value.slice (some ⟨bd, 0, none⟩) nw nw] 68))) := hu4.out.alloc hu4.out.size _
          have bbx_5 : Hid (Bz (u4.alloc (Obj.cells #[Value.int .i64 (S : Int), Value.slice ca nc cc, Value.slice (some ⟨be, 0, none⟩) nc nc, Value.slice (some ⟨bw, 0, none⟩) N N, Value.slice (some ⟨bs, 0, none⟩) N N, Value.slice none 0 0, Value.slice (some ⟨bd, 0, none⟩) nw nw] 68)) u4.heap.size #[Value.int .i64 (S : Int), Value.slice ca nc cc, Value.slice (some ⟨be, 0, none⟩) nc nc, Value.slice (some ⟨bw, 0, none⟩) N N, Value.slice (some ⟨bs, 0, none⟩) N N, Value.slice none 0 0, Value.slice (some ⟨bd, 0, none⟩) nw nw] 68) := Bz.new _ _ _
          have w5 : Below u4.heap.size u4 (u4.alloc (Obj.cells #[Value.int .i64 (S : Int), Value.slice ca nc cc, Value.slice (some ⟨be, 0, none⟩) nc nc, Value.slice (some ⟨bw, 0, none⟩) N N, Value.slice (some ⟨bs, 0, none⟩) N N, Value.slice none 0 0, Value.slice (some ⟨bd, 0, none⟩) nw nw] 68)) := (Below.refl _ _).alloc (Nat.le_refl _) _
          have bbe_5 : Hid (Bz (u4.alloc (Obj.cells #[Value.int .i64 (S : Int), Value.slice ca nc cc, Value.slice (some ⟨be, 0, none⟩) nc nc, Value.slice (some ⟨bw, 0, none⟩) N N, Value.slice (some ⟨bs, 0, none⟩) N N, Value.slice none 0 0, Value.slice (some ⟨bd, 0, none⟩) nw nw] 68)) be A1 96) := Bz.later bbe_4.out w5
          have bbw_5 : Hid (Bz (u4.alloc (Obj.cells #[Value.int .i64 (S : Int), Value.slice ca nc cc, Value.slice (some ⟨be, 0, none⟩) nc nc, Value.slice (some ⟨bw, 0, none⟩) N N, Value.slice (some ⟨bs, 0, none⟩) N N, Value.slice none 0 0, Value.slice (some ⟨bd, 0, none⟩) nw nw] 68)) bw A2 97) := Bz.later bbw_4.out w5
          have bbd_5 : Hid (Bz (u4.alloc (Obj.cells #[Value.int .i64 (S : Int), Value.slice ca nc cc, Value.slice (some ⟨be, 0, none⟩) nc nc, Value.slice (some ⟨bw, 0, none⟩) N N, Value.slice (some ⟨bs, 0, none⟩) N N, Value.slice none 0 0, Value.slice (some ⟨bd, 0, none⟩) nw nw] 68)) bd A4 108) := Bz.later bbd_4.out w5
          have bbs_5 : Hid (Bz (u4.alloc (Obj.cells #[Value.int .i64 (S : Int), Value.slice ca nc cc, Value.slice (some ⟨be, 0, none⟩) nc nc, Value.slice (some ⟨bw, 0, none⟩) N N, Value.slice (some ⟨bs, 0, none⟩) N N, Value.slice none 0 0, Value.slice (some ⟨bd, 0, none⟩) nw nw] 68)) bs A3 4) := Bz.later bbs_4.out w5
          have lbx : w0.heap.size ≤ u4.heap.size := hu4.out.size
          clear w5
          generalize hqbx : u4.heap.size = bx at *
          generalize u4.alloc (Obj.cells #[Value.int .i64 (S : Int), Value.slice ca nc cc, Value.slice (some ⟨be, 0, none⟩) nc nc, Value.slice (some ⟨bw, 0, none⟩) N N, Value.slice (some ⟨bs, 0, none⟩) N N, Value.slice none 0 0, Value.slice (some ⟨bd, 0, none⟩) nw nw] 68) = u5 at *
          clear hqbx
          try go_simp
          refine wpAnyX_both (T := fun uu => Below w0.heap.size w0 uu) (i := 18) (v := Value.pointer (some ⟨bx, 0, none⟩)) rfl (by kernel_rfl) (by kernel_rfl) (by kernel_rfl) (fun _ _ _ h => by first | exact h | exact h.elim) (by decide) (fun _ h => h.elim) (fun _ h => h) (Sx.behind (by kernel_rfl) hu5.out) (Or.inl ⟨by rfl, fun uu hu => by go_simp⟩) ?_
          try go_simp
          refine wpAnyX_done (by kernel_rfl) ?_ _
          exact (show RNw w w0 S N nc cc nw ca A1 A2 A3 A4 _ _ from ⟨be, bw, bs, bd, bx, ⟨lbe, lbw, lbs, lbd, lbx⟩, bbe_5.out, bbw_5.out, bbs_5.out, bbd_5.out, bbx_5.out, hu5.out, act_u (by kernel_rfl)⟩)
      · go_simp
        refine hK _ _ (Sx.behind (by kernel_rfl) (hu1.out.alloc hu1.out.size _)) ?_
        clear hK K
        have hu2 : Hid (Below w0.heap.size w0 (u1.alloc (Obj.cells A3 4))) := hu1.out.alloc hu1.out.size _
        have bbs_2 : Hid (Bz (u1.alloc (Obj.cells A3 4)) u1.heap.size A3 4) := Bz.new _ _ _
        have w2 : Below u1.heap.size u1 (u1.alloc (Obj.cells A3 4)) := (Below.refl _ _).alloc (Nat.le_refl _) _
        have bbe_2 : Hid (Bz (u1.alloc (Obj.cells A3 4)) be A1 96) := Bz.later bbe_1.out w2
        have lbs : w0.heap.size ≤ u1.heap.size := hu1.out.size
        clear w2
        generalize hqbs : u1.heap.size = bs at *
        generalize u1.alloc (Obj.cells A3 4) = u2 at *
        clear hqbs
        try go_simp
        refine wpAnyX_ready (rs := [9, 15]) (by kernel_rfl) (by simp) (AllX.cons rfl (fun K hK => ?_) (AllX.cons rfl (fun K hK => ?_) AllX.nil))
        · go_simp
          refine hK _ _ (Sx.behind (by kernel_rfl) (hu2.out.alloc hu2.out.size _)) ?_
          clear hK K
          have hu3 : Hid (Below w0.heap.size w0 (u2.alloc (Obj.cells A2 97))) := hu2.out.alloc hu2.out.size _
          have bbw_3 : Hid (Bz (u2.alloc (Obj.cells A2 97)) u2.heap.size A2 97) := Bz.new _ _ _
          have w3 : Below u2.heap.size u2 (u2.alloc (Obj.cells A2 97)) := (Below.refl _ _).alloc (Nat.le_refl _) _
          have bbe_3 : Hid (Bz (u2.alloc (Obj.cells A2 97)) be A1 96) := Bz.later bbe_2.out w3
          have bbs_3 : Hid (Bz (u2.alloc (Obj.cells A2 97)) bs A3 4) := Bz.later bbs_2.out w3
          have lbw : w0.heap.size ≤ u2.heap.size := hu2.out.size
          clear w3
          generalize hqbw : u2.heap.size = bw at *
          generalize u2.alloc (Obj.cells A2 97) = u3 at *
          clear hqbw
          try go_simp
          refine wpAnyX_ready (rs := [15]) (by kernel_rfl) (by simp) (AllX.cons rfl (fun K hK => ?_) AllX.nil)
          go_simp
          refine Calls.mono (HNP.out u3) ?_
          rintro e u4 ⟨bd, hd9, rfl, hz9, hb9⟩
          have hu4 : Hid (Below w0.heap.size w0 u4) := hu3.out.trans (hb9.mono hu3.out.size)
          have bbe_4 : Hid (Bz u4 be A1 96) := Bz.later bbe_3.out hb9
          have bbs_4 : Hid (Bz u4 bs A3 4) := Bz.later bbs_3.out hb9
          have bbw_4 : Hid (Bz u4 bw A2 97) := Bz.later bbw_3.out hb9
          have bbd_4 := kide hz9
          have lbd : w0.heap.size ≤ bd := Nat.le_trans hu3.out.size hd9
          refine hK _ _ (Sx.behind (by kernel_rfl) hu4.out) ?_
          clear hK K hb9 hd9 hz9
          try go_simp
          refine wpAnyX_both (T := fun uu => Below w0.heap.size w0 uu) (i := 16) (v := Value.agg #[Value.int .i64 (S : Int), Value.slice ca nc cc, Value.slice (some ⟨be, 0, none⟩) nc nc, Value.slice (some ⟨bw, 0, none⟩) N N, Value.slice (some ⟨bs, 0, none⟩) N N, Value.slice none 0 0, Value.slice (some ⟨bd, 0, none⟩) nw nw]) rfl (by kernel_rfl) (by kernel_rfl) (by kernel_rfl) (fun _ _ _ h => by first | exact h | exact h.elim) (by decide) (fun _ h => h.elim) (fun _ h => h) (Sx.behind (by kernel_rfl) hu4.out) (Or.inl ⟨by rfl, fun uu hu => by go_simp⟩) ?_
          try go_simp
          refine wpAnyX_ready (rs := [17]) (by kernel_rfl) (by simp) (AllX.cons rfl (fun K hK => ?_) AllX.nil)
          go_simp
          refine hK _ _ (Sx.behind (by kernel_rfl) (hu4.out.alloc hu4.out.size _)) ?_
          clear hK K
          have hu5 : Hid (Below w0.heap.size w0 (u4.alloc (Obj.cells #[Value.int .i64 (S : Int), Value.slice ca nc cc, Value.slice (some ⟨be, 0, none⟩) nc nc, Value.slice (some ⟨bw, 0, none⟩) N N, Value.slice (some ⟨bs, 0, none⟩) N N, Value.slice none 0 0, Value.slice (some ⟨bd, 0, none⟩) nw nw] 68))) := hu4.out.alloc hu4.out.size _
          have bbx_5 : Hid (Bz (u4.alloc (Obj.cells #[Value.int .i64 (S : Int), Value.slice ca nc cc, Value.slice (some ⟨be, 0, none⟩) nc nc, Value.slice (some ⟨bw, 0, none⟩) N N, Value.slice (some ⟨bs, 0, none⟩) N N, Value.slice none 0 0, Value.slice (some ⟨bd, 0, none⟩) nw nw] 68)) u4.heap.size #[Value.int .i64 (S : Int), Value.slice ca nc cc, Value.slice (some ⟨be, 0, none⟩) nc nc, Value.slice (some ⟨bw, 0, none⟩) N N, Value.slice (some ⟨bs, 0, none⟩) N N, Value.slice none 0 0, Value.slice (some ⟨bd, 0, none⟩) nw nw] 68) := Bz.new _ _ _
          have w5 : Below u4.heap.size u4 (u4.alloc (Obj.cells #[Value.int .i64 (S : Int), Value.slice ca nc cc, Value.slice (some ⟨be, 0, none⟩) nc nc, Value.slice (some ⟨bw, 0, none⟩) N N, Value.slice (some ⟨bs, 0, none⟩) N N, Value.slice none 0 0, Value.slice (some ⟨bd, 0, none⟩) nw nw] 68)) := (Below.refl _ _).alloc (Nat.le_refl _) _
          have bbe_5 : Hid (Bz (u4.alloc (Obj.cells #[Value.int .i64 (S : Int), Value.slice ca nc cc, Value.slice (some ⟨be, 0, none⟩) nc nc, Value.slice (some ⟨bw, 0, none⟩) N N, Value.slice (some ⟨bs, 0, none⟩) N N, Value.slice none 0 0, Value.slice (some ⟨bd, 0, none⟩) nw nw] 68)) be A1 96) := Bz.later bbe_4.out w5
          have bbs_5 : Hid (Bz (u4.alloc (Obj.cells #[Value.int .i64 (S : Int), Value.slice ca nc cc, Value.slice (some ⟨be, 0, none⟩) nc nc, Value.slice (some ⟨bw, 0, none⟩) N N, Value.slice (some ⟨bs, 0, none⟩) N N, Value.slice none 0 0, Value.slice (some ⟨bd, 0, none⟩) nw nw] 68)) bs A3 4) := Bz.later bbs_4.out w5
          have bbw_5 : Hid (Bz (u4.alloc (Obj.cells #[Value.int .i64 (S : Int), Value.slice ca nc cc, Value.slice (some ⟨be, 0, none⟩) nc nc, Value.slice (some ⟨bw, 0, none⟩) N N, Value.slice (some ⟨bs, 0, none⟩) N N, Value.slice none 0 0, Value.slice (some ⟨bd, 0, none⟩) nw nw] 68)) bw A2 97) := Bz.later bbw_4.out w5
          have bbd_5 : Hid (Bz (u4.alloc (Obj.cells #[Value.int .i64 (S : Int), Value.slice ca nc cc, Value.slice (some ⟨be, 0, none⟩) nc nc, Value.slice (some ⟨bw, 0, none⟩) N N, Value.slice (some ⟨bs, 0, none⟩) N N, Value.slice none 0 0, Value.slice (some ⟨bd, 0, none⟩) nw nw] 68)) bd A4 108) := Bz.later bbd_4.out w5
          have lbx : w0.heap.size ≤ u4.heap.size := hu4.out.size
          clear w5
          generalize hqbx : u4.heap.size = bx at *
          generalize u4.alloc (Obj.cells #[Value.int .i64 (S : Int), Value.slice ca nc cc, Value.slice (some ⟨be, 0, none⟩) nc nc, Value.slice (some ⟨bw, 0, none⟩) N N, Value.slice (some ⟨bs, 0, none⟩) N N, Value.slice none 0 0, Value.slice (some ⟨bd, 0, none⟩) nw nw] 68) = u5 at *
          clear hqbx
          try go_simp
          refine wpAnyX_both (T := fun uu => Below w0.heap.size w0 uu) (i := 18) (v := Value.pointer (some ⟨bx, 0, none⟩)) rfl (by kernel_rfl) (by kernel_rfl) (by kernel_rfl) (fun _ _ _ h => by first | exact h | exact h.elim) (by decide) (fun _ h => h.elim) (fun _ h => h) (Sx.behind (by kernel_rfl) hu5.out) (Or.inl ⟨by rfl, fun uu hu => by go_simp⟩) ?_
          try go_simp
          refine wpAnyX_done (by kernel_rfl) ?_ _
          exact (show RNw w w0 S N nc cc nw ca A1 A2 A3 A4 _ _ from ⟨be, bw, bs, bd, bx, ⟨lbe, lbw, lbs, lbd, lbx⟩, bbe_5.out, bbw_5.out, bbs_5.out, bbd_5.out, bbx_5.out, hu5.out, act_u (by kernel_rfl)⟩)
        · go_simp
          refine Calls.mono (HNP.out u2) ?_
          rintro e u3 ⟨bd, hd9, rfl, hz9, hb9⟩
          have hu3 : Hid (Below w0.heap.size w0 u3) := hu2.out.trans (hb9.mono hu2.out.size)
          have bbe_3 : Hid (Bz u3 be A1 96) := Bz.later bbe_2.out hb9
          have bbs_3 : Hid (Bz u3 bs A3 4) := Bz.later bbs_2.out hb9
          have bbd_3 := kide hz9
          have lbd : w0.heap.size ≤ bd := Nat.le_trans hu2.out.size hd9
          refine hK _ _ (Sx.behind (by kernel_rfl) hu3.out) ?_
          clear hK K hb9 hd9 hz9
          try go_simp
          refine wpAnyX_ready (rs := [9]) (by kernel_rfl) (by simp) (AllX.cons rfl (fun K hK => ?_) AllX.nil)
          go_simp
          refine hK _ _ (Sx.behind (by kernel_rfl) (hu3.out.alloc hu3.out.size _)) ?_
          clear hK K
          have hu4 : Hid (Below w0.heap.size w0 (u3.alloc (Obj.cells A2 97))) := hu3.out.alloc hu3.out.size _
          have bbw_4 : Hid (Bz (u3.alloc (Obj.cells A2 97)) u3.heap.size A2 97) := Bz.new _ _ _
          have w4 : Below u3.heap.size u3 (u3.alloc (Obj.cells A2 97)) := (Below.refl _ _).alloc (Nat.le_refl _) _
          have bbe_4 : Hid (Bz (u3.alloc (Obj.cells A2 97)) be A1 96) := Bz.later bbe_3.out w4
          have bbs_4 : Hid (Bz (u3.alloc (Obj.cells A2 97)) bs A3 4) := Bz.later bbs_3.out w4
          have bbd_4 : Hid (Bz (u3.alloc (Obj.cells A2 97)) bd A4 108) := Bz.later bbd_3.out w4
          have lbw : w0.heap.size ≤ u3.heap.size := hu3.out.size
          clear w4
          generalize hqbw : u3.heap.size = bw at *
          generalize u3.alloc (Obj.cells A2 97) = u4 at *
          clear hqbw
          try go_simp
          refine wpAnyX_both (T := fun uu => Below w0.heap.size w0 uu) (i := 16) (v := Value.agg #[Value.int .i64 (S : Int), Value.slice ca nc cc, Value.slice (some ⟨be, 0, none⟩) nc nc, Value.slice (some ⟨bw, 0, none⟩) N N, Value.slice (some ⟨bs, 0, none⟩) N N, Value.slice none 0 0, Value.slice (some ⟨bd, 0, none⟩) nw nw]) rfl (by kernel_rfl) (by kernel_rfl) (by kernel_rfl) (fun _ _ _ h => by first | exact h | exact h.elim) (by decide) (fun _ h => h.elim) (fun _ h => h) (Sx.behind (by kernel_rfl) hu4.out) (Or.inl ⟨by rfl, fun uu hu => by go_simp⟩) ?_
          try go_simp
          refine wpAnyX_ready (rs := [17]) (by kernel_rfl) (by simp) (AllX.cons rfl (fun K hK => ?_) AllX.nil)
          go_simp
          refine hK _ _ (Sx.behind (by kernel_rfl) (hu4.out.alloc hu4.out.size _)) ?_
          clear hK K
          have hu5 : Hid (Below w0.heap.size w0 (u4.alloc (Obj.cells #[Value.int .i64 (S : Int), Value.slice ca nc cc, Value.slice (some ⟨be, 0, none⟩) nc nc, Value.slice (some ⟨bw, 0, none⟩) N N, Value.slice (some ⟨bs, 0, none⟩) N N, Value.slice none 0 0, Value.slice (some ⟨bd, 0, none⟩) nw nw] 68))) := hu4.out.alloc hu4.out.size _
          have bbx_5 : Hid (Bz (u4.alloc (Obj.cells #[Value.int .i64 (S : Int), Value.slice ca nc cc, Value.slice (some ⟨be, 0, none⟩) nc nc, Value.slice (some ⟨bw, 0, none⟩) N N, Value.slice (some ⟨bs, 0, none⟩) N N, Value.slice none 0 0, Value.slice (some ⟨bd, 0, none⟩) nw nw] 68)) u4.heap.size #[Value.int .i64 (S : Int), Value.slice ca nc cc, Value.slice (some ⟨be, 0, none⟩) nc nc, Value.slice (some ⟨bw, 0, none⟩) N N, Value.slice (some ⟨bs, 0, none⟩) N N, Value.slice none 0 0, Value.slice (some ⟨bd, 0, none⟩) nw nw] 68) := Bz.new _ _ _
          have w5 : Below u4.heap.size u4 (u4.alloc (Obj.cells #[Value.int .i64 (S : Int), Value.slice ca nc cc, Value.slice (some ⟨be, 0, none⟩) nc nc, Value.slice (some ⟨bw, 0, none⟩) N N, Value.slice (some ⟨bs, 0, none⟩) N N, Value.slice none 0 0, Value.slice (some ⟨bd, 0, none⟩) nw nw] 68)) := (Below.refl _ _).alloc (Nat.le_refl _) _
          have bbe_5 : Hid (Bz (u4.alloc (Obj.cells #[Value.int .i64 (S : Int), Value.slice ca nc cc, Value.slice (some ⟨be, 0, none⟩) nc nc, Value.slice (some ⟨bw, 0, none⟩) N N, Value.slice (some ⟨bs, 0, none⟩) N N, Value.slice none 0 0, Value.slice (some ⟨bd, 0, none⟩) nw nw] 68)) be A1 96) := Bz.later bbe_4.out w5
          have bbs_5 : Hid (Bz (u4.alloc (Obj.cells #[Value.int .i64 (S : Int), Value.slice ca nc cc, Value.slice (some ⟨be, 0, none⟩) nc nc, Value.slice (some ⟨bw, 0, none⟩) N N, Value.slice (some ⟨bs, 0, none⟩) N N, Value.slice none 0 0, Value.slice (some ⟨bd, 0, none⟩) nw nw] 68)) bs A3 4) := Bz.later bbs_4.out w5
          have bbd_5 : Hid (Bz (u4.alloc (Obj.cells #[Value.int .i64 (S : Int), Value.slice ca nc cc, Value.slice (some ⟨be, 0, none⟩) nc nc, Value.slice (some ⟨bw, 0, none⟩) N N, Value.slice (some ⟨bs, 0, none⟩) N N, Value.slice none 0 0, Value.slice (some ⟨bd, 0, none⟩) nw nw] 68)) bd A4 108) := Bz.later bbd_4.out w5
          have bbw_5 : Hid (Bz (u4.alloc (Obj.cells #[Value.int .i64 (S : Int), Value.slice ca nc cc, Value.slice (some ⟨be, 0, none⟩) nc nc, Value.slice (some ⟨bw, 0, none⟩) N N, Value.slice (some ⟨bs, 0, none⟩) N N, Value.slice none 0 0, Value.slice (some ⟨bd, 0, none⟩) nw nw] 68)) bw A2 97) := Bz.later bbw_4.out w5
          have lbx : w0.heap.size ≤ u4.heap.size := hu4.out.size
          clear w5
          generalize hqbx : u4.heap.size = bx at *
          generalize u4.alloc (Obj.cells #[Value.int .i64 (S : Int), Value.slice ca nc cc, Value.slice (some ⟨be, 0, none⟩) nc nc, Value.slice (some ⟨bw, 0, none⟩) N N, Value.slice (some ⟨bs, 0, none⟩) N N, Value.slice none 0 0, Value.slice (some ⟨bd, 0, none⟩) nw nw] 68) = u5 at *
          clear hqbx
          try go_simp
          refine wpAnyX_both (T := fun uu => Below w0.heap.size w0 uu) (i := 18) (v := Value.pointer (some ⟨bx, 0, none⟩)) rfl (by kernel_rfl) (by kernel_rfl) (by kernel_rfl) (fun _ _ _ h => by first | exact h | exact h.elim) (by decide) (fun _ h => h.elim) (fun _ h => h) (Sx.behind (by kernel_rfl) hu5.out) (Or.inl ⟨by rfl, fun uu hu => by go_simp⟩) ?_
          try go_simp
          refine wpAnyX_done (by kernel_rfl) ?_ _
          exact (show RNw w w0 S N nc cc nw ca A1 A2 A3 A4 _ _ from ⟨be, bw, bs, bd, bx, ⟨lbe, lbw, lbs, lbd, lbx⟩, bbe_5.out, bbw_5.out, bbs_5.out, bbd_5.out, bbx_5.out, hu5.out, act_u (by kernel_rfl)⟩)
      · go_simp
        refine Calls.mono (HNP.out u1) ?_
        rintro e u2 ⟨bd, hd9, rfl, hz9, hb9⟩
        have hu2 : Hid (Below w0.heap.size w0 u2) := hu1.out.trans (hb9.mono hu1.out.size)
        have bbe_2 : Hid (Bz u2 be A1 96) := Bz.later bbe_1.out hb9
        have bbd_2 := kide hz9
        have lbd : w0.heap.size ≤ bd := Nat.le_trans hu1.out.size hd9
        refine hK _ _ (Sx.behind (by kernel_rfl) hu2.out) ?_
        clear hK K hb9 hd9 hz9
        try go_simp
        refine wpAnyX_ready (rs := [9, 11]) (by kernel_rfl) (by simp) (AllX.cons rfl (fun K hK => ?_) (AllX.cons rfl (fun K hK => ?_) AllX.nil))
        · go_simp
          refine hK _ _ (Sx.behind (by kernel_rfl) (hu2.out.alloc hu2.out.size _)) ?_
          clear hK K
          have hu3 : Hid (Below w0.heap.size w0 (u2.alloc (Obj.cells A2 97))) := hu2.out.alloc hu2.out.size _
          have bbw_3 : Hid (Bz (u2.alloc (Obj.cells A2 97)) u2.heap.size A2 97) := Bz.new _ _ _
          have w3 : Below u2.heap.size u2 (u2.alloc (Obj.cells A2 97)) := (Below.refl _ _).alloc (Nat.le_refl _) _
          have bbe_3 : Hid (Bz (u2.alloc (Obj.cells A2 97)) be A1 96) := Bz.later bbe_2.out w3
          have bbd_3 : Hid (Bz (u2.alloc (Obj.cells A2 97)) bd A4 108) := Bz.later bbd_2.out w3
          have lbw : w0.heap.size ≤ u2.heap.size := hu2.out.size
          clear w3
          generalize hqbw : u2.heap.size = bw at *
          generalize u2.alloc (Obj.cells A2 97) = u3 at *
          clear hqbw
          try go_simp
          refine wpAnyX_ready (rs := [11]) (by kernel_rfl) (by simp) (AllX.cons rfl (fun K hK => ?_) AllX.nil)
          go_simp
          refine hK _ _ (Sx.behind (by kernel_rfl) (hu3.out.alloc hu3.out.size _)) ?_
          clear hK K
          have hu4 : Hid (Below w0.heap.size w0 (u3.alloc (Obj.cells A3 4))) := hu3.out.alloc hu3.out.size _
          have bbs_4 : Hid (Bz (u3.alloc (Obj.cells A3 4)) u3.heap.size A3 4) := Bz.new _ _ _
          have w4 : Below u3.heap.size u3 (u3.alloc (Obj.cells A3 4)) := (Below.refl _ _).alloc (Nat.le_refl _) _
          have bbe_4 : Hid (Bz (u3.alloc (Obj.cells A3 4)) be A1 96) := Bz.later bbe_3.out w4
          have bbd_4 : Hid (Bz (u3.alloc (Obj.cells A3 4)) bd A4 108) := Bz.later bbd_3.out w4
          have bbw_4 : Hid (Bz (u3.alloc (Obj.cells A3 4)) bw A2 97) := Bz.later bbw_3.out w4
          have lbs : w0.heap.size ≤ u3.heap.size := hu3.out.size
          clear w4
          generalize hqbs : u3.heap.size = bs at *
          generalize u3.alloc (Obj.cells A3 4) = u4 at *
          clear hqbs
          try go_simp
          refine wpAnyX_both (T := fun uu => Below w0.heap.size w0 uu) (i := 16) (v := Value.agg #[Value.int .i64 (S : Int), Value.slice ca nc cc, Value.slice (some ⟨be, 0, none⟩) nc nc, Value.slice (some ⟨bw, 0, none⟩) N N, Value.slice (some ⟨bs, 0, none⟩) N N, Value.slice none 0 0, Value.slice (some ⟨bd, 0, none⟩) nw nw]) rfl (by kernel_rfl) (by kernel_rfl) (by kernel_rfl) (fun _ _ _ h => by first | exact h | exact h.elim) (by decide) (fun _ h => h.elim) (fun _ h => h) (Sx.behind (by kernel_rfl) hu4.out) (Or.inl ⟨by rfl, fun uu hu => by go_simp⟩) ?_
          try go_simp
          refine wpAnyX_ready (rs := [17]) (by kernel_rfl) (by simp) (AllX.cons rfl (fun K hK => ?_) AllX.nil)
          go_simp
          refine hK _ _ (Sx.behind (by kernel_rfl) (hu4.out.alloc hu4.out.size _)) ?_
          clear hK K
          have hu5 : Hid (Below w0.heap.size w0 (u4.alloc (Obj.cells #[Value.int .i64 (S : Int), Value.slice ca nc cc, Value.slice (some ⟨be, 0, none⟩) nc nc, Value.slice (some ⟨bw, 0, none⟩) N N, Value.slice (some ⟨bs, 0, none⟩) N N, Value.slice none 0 0, Value.slice (some ⟨bd, 0, none⟩) nw nw] 68))) := hu4.out.alloc hu4.out.size _
          have bbx_5 : Hid (Bz (u4.alloc (Obj.cells #[Value.int .i64 (S : Int), Value.slice ca nc cc, Value.slice (some ⟨be, 0, none⟩) nc nc, Value.slice (some ⟨bw, 0, none⟩) N N, Value.slice (some ⟨bs, 0, none⟩) N N, Value.slice none 0 0, Value.slice (some ⟨bd, 0, none⟩) nw nw] 68)) u4.heap.size #[Value.int .i64 (S : Int), Value.slice ca nc cc, Value.slice (some ⟨be, 0, none⟩) nc nc, Value.slice (some ⟨bw, 0, none⟩) N N, Value.slice (some ⟨bs, 0, none⟩) N N, Value.slice none 0 0, Value.slice (some ⟨bd, 0, none⟩) nw nw] 68) := Bz.new _ _ _
          have w5 : Below u4.heap.size u4 (u4.alloc (Obj.cells #[Value.int .i64 (S : Int), Value.slice ca nc cc, Value.slice (some ⟨be, 0, none⟩) nc nc, Value.slice (some ⟨bw, 0, none⟩) N N, Value.slice (some ⟨bs, 0, none⟩) N N, Value.slice none 0 0, Value.slice (some ⟨bd, 0, none⟩) nw nw] 68)) := (Below.refl _ _).alloc (Nat.le_refl _) _
          have bbe_5 : Hid (Bz (u4.alloc (Obj.cells #[Value.int .i64 (S : Int), Value.slice ca nc cc, Value.slice (some ⟨be, 0, none⟩) nc nc, Value.slice (some ⟨bw, 0, none⟩) N N, Value.slice (some ⟨bs, 0, none⟩) N N, Value.slice none 0 0, Value.slice (some ⟨bd, 0, none⟩) nw nw] 68)) be A1 96) := Bz.later bbe_4.out w5
          have bbd_5 : Hid (Bz (u4.alloc (Obj.cells #[Value.int .i64 (S : Int), Value.slice ca nc cc, Value.slice (some ⟨be, 0, none⟩) nc nc, Value.slice (some ⟨bw, 0, none⟩) N N, Value.slice (some ⟨bs, 0, none⟩) N N, Value.slice none 0 0, Value.slice (some ⟨bd, 0, none⟩) nw nw] 68)) bd A4 108) := Bz.later bbd_4.out w5
          have bbw_5 : Hid (Bz (u4.alloc (Obj.cells #[Value.int .i64 (S : Int), Value.slice ca nc cc, Value.slice (some ⟨be, 0, none⟩) nc nc, Value.slice (some ⟨bw, 0, none⟩) N N, Value.slice (some ⟨bs, 0, none⟩) N N, Value.slice none 0 0, Value.slice (some ⟨bd, 0, none⟩) nw nw] 68)) bw A2 97) := Bz.later bbw_4.out w5
          have bbs_5 : Hid (Bz (u4.alloc (Obj.cells #[Value.int .i64 (S : Int), Value.slice ca nc cc, Value.slice (some ⟨be, 0, none⟩) nc nc, Value.slice (some ⟨bw, 0, none⟩) N N, Value.slice (some ⟨bs, 0, none⟩) N N, Value.slice none 0 0, Value.slice (some ⟨bd, 0, none⟩) nw nw] 68)) bs A3 4) := Bz.later bbs_4.out w5
          have lbx : w0.heap.size ≤ u4.heap.size := hu4.out.size
          clear w5
          generalize hqbx : u4.heap.size = bx at *
          generalize u4.alloc (Obj.cells #[Value.int .i64 (S : Int), Value.slice ca nc cc, Value.slice (some ⟨be, 0, none⟩) nc nc, Value.slice (some ⟨bw, 0, none⟩) N N, Value.slice (some ⟨bs, 0, none⟩) N N, Value.slice none 0 0, Value.slice (some ⟨bd, 0, none⟩) nw nw] 68) = u5 at *
          clear hqbx
          try go_simp
          refine wpAnyX_both (T := fun uu => Below w0.heap.size w0 uu) (i := 18) (v := Value.pointer (some ⟨bx, 0, none⟩)) rfl (by kernel_rfl) (by kernel_rfl) (by kernel_rfl) (fun _ _ _ h => by first | exact h | exact h.elim) (by decide) (fun _ h => h.elim) (fun _ h => h) (Sx.behind (by kernel_rfl) hu5.out) (Or.inl ⟨by rfl, fun uu hu => by go_simp⟩) ?_
          try go_simp
          refine wpAnyX_done (by kernel_rfl) ?_ _
          exact (show RNw w w0 S N nc cc nw ca A1 A2 A3 A4 _ _ from ⟨be, bw, bs, bd, bx, ⟨lbe, lbw, lbs, lbd, lbx⟩, bbe_5.out, bbw_5.out, bbs_5.out, bbd_5.out, bbx_5.out, hu5.out, act_u (by kernel_rfl)⟩)
        · go_simp
          refine hK _ _ (Sx.behind (by kernel_rfl) (hu2.out.alloc hu2.out.size _)) ?_
          clear hK K
          have hu3 : Hid (Below w0.heap.size w0 (u2.alloc (Obj.cells A3 4))) := hu2.out.alloc hu2.out.size _
          have bbs_3 : Hid (Bz (u2.alloc (Obj.cells A3 4)) u2.heap.size A3 4) := Bz.new _ _ _
          have w3 : Below u2.heap.size u2 (u2.alloc (Obj.cells A3 4)) := (Below.refl _ _).alloc (Nat.le_refl _) _
          have bbe_3 : Hid (Bz (u2.alloc (Obj.cells A3 4)) be A1 96) := Bz.later bbe_2.out w3
          have bbd_3 : Hid (Bz (u2.alloc (Obj.cells A3 4)) bd A4 108) := Bz.later bbd_2.out w3
          have lbs : w0.heap.size ≤ u2.heap.size := hu2.out.size
          clear w3
          generalize hqbs : u2.heap.size = bs at *
          generalize u2.alloc (Obj.cells A3 4) = u3 at *
          clear hqbs
          try go_simp
          refine wpAnyX_ready (rs := [9]) (by kernel_rfl) (by simp) (AllX.cons rfl (fun K hK => ?_) AllX.nil)
          go_simp
          refine hK _ _ (Sx.behind (by kernel_rfl) (hu3.out.alloc hu3.out.size _)) ?_
          clear hK K
          have hu4 : Hid (Below w0.heap.size w0 (u3.alloc (Obj.cells A2 97))) := hu3.out.alloc hu3.out.size _
          have bbw_4 : Hid (Bz (u3.alloc (Obj.cells A2 97)) u3.heap.size A2 97) := Bz.new _ _ _
          have w4 : Below u3.heap.size u3 (u3.alloc (Obj.cells A2 97)) := (Below.refl _ _).alloc (Nat.le_refl _) _
          have bbe_4 : Hid (Bz (u3.alloc (Obj.cells A2 97)) be A1 96) := Bz.later bbe_3.out w4
          have bbd_4 : Hid (Bz (u3.alloc (Obj.cells A2 97)) bd A4 108) := Bz.later bbd_3.out w4
          have bbs_4 : Hid (Bz (u3.alloc (Obj.cells A2 97)) bs A3 4) := Bz.later bbs_3.out w4
          have lbw : w0.heap.size ≤ u3.heap.size := hu3.out.size
          clear w4
          generalize hqbw : u3.heap.size = bw at *
          generalize u3.alloc (Obj.cells A2 97) = u4 at *
          clear hqbw
          try go_simp
          refine wpAnyX_both (T := fun uu => Below w0.heap.size w0 uu) (i := 16) (v := Value.agg #[Value.int .i64 (S : Int), Value.slice ca nc cc, Value.slice (some ⟨be, 0, none⟩) nc nc, Value.slice (some ⟨bw, 0, none⟩) N N, Value.slice (some ⟨bs, 0, none⟩) N N, Value.slice none 0 0, Value.slice (some ⟨bd, 0, none⟩) nw nw]) rfl (by kernel_rfl) (by kernel_rfl) (by kernel_rfl) (fun _ _ _ h => by first | exact h | exact h.elim) (by decide) (fun _ h => h.elim) (fun _ h => h) (Sx.behind (by kernel_rfl) hu4.out) (Or.inl ⟨by rfl, fun uu hu => by go_simp⟩) ?_
          try go_simp
          refine wpAnyX_ready (rs := [17]) (by kernel_rfl) (by simp) (AllX.cons rfl (fun K hK => ?_) AllX.nil)
          go_simp
          refine hK _ _ (Sx.behind (by kernel_rfl) (hu4.out.alloc hu4.out.size _)) ?_
          clear hK K
          have hu5 : Hid (Below w0.heap.size w0 (u4.alloc (Obj.cells #[Value.int .i64 (S : Int), Value.slice ca nc cc, Value.slice (some ⟨be, 0, none⟩) nc nc, Value.slice (some ⟨bw, 0, none⟩) N N, Value.slice (some ⟨bs, 0, none⟩) N N, Value.slice none 0 0, Value.slice (some ⟨bd, 0, none⟩) nw nw] 68))) := hu4.out.alloc hu4.out.size _
          have bbx_5 : Hid (Bz (u4.alloc (Obj.cells #[Value.int .i64 (S : Int), Value.slice ca nc cc, Value.slice (some ⟨be, 0, none⟩) nc nc, Value.slice (some ⟨bw, 0, none⟩) N N, Value.slice (some ⟨bs, 0, none⟩) N N, Value.slice none 0 0, Value.slice (some ⟨bd, 0, none⟩) nw nw] 68)) u4.heap.size #[Value.int .i64 (S : Int), Value.slice ca nc cc, Value.slice (some ⟨be, 0, none⟩) nc nc, Value.slice (some ⟨bw, 0, none⟩) N N, Value.slice (some ⟨bs, 0, none⟩) N N, Value.slice none 0 0, Value.slice (some ⟨bd, 0, none⟩) nw nw] 68) := Bz.new _ _ _
          have w5 : Below u4.heap.size u4 (u4.alloc (Obj.cells #[Value.int .i64 (S : Int), Value.slice ca nc cc, Value.slice (some ⟨be, 0, none⟩) nc nc, Value.slice (some ⟨bw, 0, none⟩) N N, Value.slice (some ⟨bs, 0, none⟩) N N, Value.slice none 0 0, Value.slice (some ⟨bd, 0, none⟩) nw nw] 68)) := (Below.refl _ _).alloc (Nat.le_refl _) _
          have bbe_5 : Hid (Bz (u4.alloc (Obj.cells #[Value.int .i64 (S : Int), Value.slice ca nc cc, Value.slice (some ⟨be, 0, none⟩) nc nc, Value.slice (some ⟨bw, 0, none⟩) N N, Value.slice (some ⟨bs, 0, none⟩) N N, Value.slice none 0 0, Value.slice (some ⟨bd, 0, none⟩) nw nw] 68)) be A1 96) := Bz.later bbe_4.out w5
          have bbd_5 : Hid (Bz (u4.alloc (Obj.cells #[Value.int .i64 (S : Int), Value.slice ca nc cc, Value.slice (some ⟨be, 0, none⟩) nc nc, Value.slice (some ⟨bw, 0, none⟩) N N, Value.slice (some ⟨bs, 0, none⟩) N N, Value.slice none 0 0, Value.slice (some ⟨bd, 0, none⟩) nw nw] 68)) bd A4 108) := Bz.later bbd_4.out w5
          have bbs_5 : Hid (Bz (u4.alloc (Obj.cells #[Value.int .i64 (S : Int), Value.slice ca nc cc, Value.slice (some ⟨be, 0, none⟩) nc nc, Value.slice (some ⟨bw, 0, none⟩) N N, Value.slice (some ⟨bs, 0, none⟩) N N, Value.slice none 0 0, Value.slice (some ⟨bd, 0, none⟩) nw nw] 68)) bs A3 4) := Bz.later bbs_4.out w5
          have bbw_5 : Hid (Bz (u4.alloc (Obj.cells #[Value.int .i64 (S : Int), Value.slice ca nc cc, Value.slice (some ⟨be, 0, none⟩) nc nc, Value.slice (some ⟨bw, 0, none⟩) N N, Value.slice (some ⟨bs, 0, none⟩) N N, Value.slice none 0 0, Value.slice (some ⟨bd, 0, none⟩) nw nw] 68)) bw A2 97) := Bz.later bbw_4.out w5
          have lbx : w0.heap.size ≤ u4.heap.size := hu4.out.size
          clear w5
          generalize hqbx : u4.heap.size = bx at *
          generalize u4.alloc (Obj.cells #[Value.int .i64 (S : Int), Value.slice ca nc cc, Value.slice (some ⟨be, 0, none⟩) nc nc, Value.slice (some ⟨bw, 0, none⟩) N N, Value.slice (some ⟨bs, 0, none⟩) N N, Value.slice none 0 0, Value.slice (some ⟨bd, 0, none⟩) nw nw] 68) = u5 at *
          clear hqbx
          try go_simp
          refine wpAnyX_both (T := fun uu => Below w0.heap.size w0 uu) (i := 18) (v := Value.pointer (some ⟨bx, 0, none⟩)) rfl (by kernel_rfl) (by kernel_rfl) (by kernel_rfl) (fun _ _ _ h => by first | exact h | exact h.elim) (by decide) (fun _ h => h.elim) (fun _ h => h) (Sx.behind (by kernel_rfl) hu5.out) (Or.inl ⟨by rfl, fun uu hu => by go_simp⟩) ?_
          try go_simp
          refine wpAnyX_done (by kernel_rfl) ?_ _
          exact (show RNw w w0 S N nc cc nw ca A1 A2 A3 A4 _ _ from ⟨be, bw, bs, bd, bx, ⟨lbe, lbw, lbs, lbd, lbx⟩, bbe_5.out, bbw_5.out, bbs_5.out, bbd_5.out, bbx_5.out, hu5.out, act_u (by kernel_rfl)⟩)
    · go_simp
      refine hK _ _ (Sx.behind (by kernel_rfl) (hu0.out.alloc hu0.out.size _)) ?_
      clear hK K
      have hu1 : Hid (Below w0.heap.size w0 (u0.alloc (Obj.cells A2 97))) := hu0.out.alloc hu0.out.size _
      have bbw_1 : Hid (Bz (u0.alloc (Obj.cells A2 97)) u0.heap.size A2 97) := Bz.new _ _ _
      have w1 : Below u0.heap.size u0 (u0.alloc (Obj.cells A2 97)) := (Below.refl _ _).alloc (Nat.le_refl _) _
      have lbw : w0.heap.size ≤ u0.heap.size := hu0.out.size
      clear w1
      generalize hqbw : u0.heap.size = bw at *
      generalize u0.alloc (Obj.cells A2 97) = u1 at *
      clear hqbw
      try go_simp
      refine wpAnyX_ready (rs := [7, 11, 15]) (by kernel_rfl) (by simp) (AllX.cons rfl (fun K hK => ?_) (AllX.cons rfl (fun K hK => ?_) (AllX.cons rfl (fun K hK => ?_) AllX.nil)))
      · go_simp
        refine hK _ _ (Sx.behind (by kernel_rfl) (hu1.out.alloc hu1.out.size _)) ?_
        clear hK K
        have hu2 : Hid (Below w0.heap.size w0 (u1.alloc (Obj.cells A1 96))) := hu1.out.alloc hu1.out.size _
        have bbe_2 : Hid (Bz (u1.alloc (Obj.cells A1 96)) u1.heap.size A1 96) := Bz.new _ _ _
        have w2 : Below u1.heap.size u1 (u1.alloc (Obj.cells A1 96)) := (Below.refl _ _).alloc (Nat.le_refl _) _
        have bbw_2 : Hid (Bz (u1.alloc (Obj.cells A1 96)) bw A2 97) := Bz.later bbw_1.out w2
        have lbe : w0.heap.size ≤ u1.heap.size := hu1.out.size
        clear w2
        generalize hqbe : u1.heap.size = be at *
        generalize u1.alloc (Obj.cells A1 96) = u2 at *
        clear hqbe
        try go_simp
        refine wpAnyX_ready (rs := [11, 15]) (by kernel_rfl) (by simp) (AllX.cons rfl (fun K hK => ?_) (AllX.cons rfl (fun K hK => ?_) AllX.nil))
        · go_simp
          refine hK _ _ (Sx.behind (by kernel_rfl) (hu2.out.alloc hu2.out.size _)) ?_
          clear hK K
          have hu3 : Hid (Below w0.heap.size w0 (u2.alloc (Obj.cells A3 4))) := hu2.out.alloc hu2.out.size _
          have bbs_3 : Hid (Bz (u2.alloc (Obj.cells A3 4)) u2.heap.size A3 4) := Bz.new _ _ _
          have w3 : Below u2.heap.size u2 (u2.alloc (Obj.cells A3 4)) := (Below.refl _ _).alloc (Nat.le_refl _) _
          have bbw_3 : Hid (Bz (u2.alloc (Obj.cells A3 4)) bw A2 97) := Bz.later bbw_2.out w3
          have bbe_3 : Hid (Bz (u2.alloc (Obj.cells A3 4)) be A1 96) := Bz.later bbe_2.out w3
          have lbs : w0.heap.size ≤ u2.heap.size := hu2.out.size
          clear w3
          generalize hqbs : u2.heap.size = bs at *
          generalize u2.alloc (Obj.cells A3 4) = u3 at *
          clear hqbs
          try go_simp
          refine wpAnyX_ready (rs := [15]) (by kernel_rfl) (by simp) (AllX.cons rfl (fun K hK => ?_) AllX.nil)
          go_simp
          refine Calls.mono (HNP.out u3) ?_
          rintro e u4 ⟨bd, hd9, rfl, hz9, hb9⟩
          have hu4 : Hid (Below w0.heap.size w0 u4) := hu3.out.trans (hb9.mono hu3.out.size)
          have bbw_4 : Hid (Bz u4 bw A2 97) := Bz.later bbw_3.out hb9
          have bbe_4 : Hid (Bz u4 be A1 96) := Bz.later bbe_3.out hb9
          have bbs_4 : Hid (Bz u4 bs A3 4) := Bz.later bbs_3.out hb9
          have bbd_4 := kide hz9
          have lbd : w0.heap.size ≤ bd := Nat.le_trans hu3.out.size hd9
          refine hK _ _ (Sx.behind (by kernel_rfl) hu4.out) ?_
          clear hK K hb9 hd9 hz9
          try go_simp
          refine wpAnyX_both (T := fun uu => Below w0.heap.size w0 uu) (i := 16) (v := Value.agg #[Value.int .i64 (S : Int), Value.slice ca nc cc, Value.slice (some ⟨be, 0, none⟩) nc nc, Value.slice (some ⟨bw, 0, none⟩) N N, Value.slice (some ⟨bs, 0, none⟩) N N, Value.slice none 0 0, Value.slice (some ⟨bd, 0, none⟩) nw nw]) rfl (by kernel_rfl) (by kernel_rfl) (by kernel_rfl) (fun _ _ _ h => by first | exact h | exact h.elim) (by decide) (fun _ h => h.elim) (fun _ h => h) (Sx.behind (by kernel_rfl) hu4.out) (Or.inl ⟨by rfl, fun uu hu => by go_simp⟩) ?_
          try go_simp
          refine wpAnyX_ready (rs := [17]) (by kernel_rfl) (by simp) (AllX.cons rfl (fun K hK => ?_) AllX.nil)
          go_simp
          refine hK _ _ (Sx.behind (by kernel_rfl) (hu4.out.alloc hu4.out.size _)) ?_
          clear hK K
          have hu5 : Hid (Below w0.heap.size w0 (u4.alloc (Obj.cells #[Value.int .i64 (S : Int), Value.slice ca nc cc, Value.slice (some ⟨be, 0, none⟩) nc nc, Value.slice (some ⟨bw, 0, none⟩) N N, Value.slice (some ⟨bs, 0, none⟩) N N, Value.slice none 0 0, Value.slice (some ⟨bd, 0, none⟩) nw nw] 68))) := hu4.out.alloc hu4.out.size _
          have bbx_5 : Hid (Bz (u4.alloc (Obj.cells #[Value.int .i64 (S : Int), Value.slice ca nc cc, Value.slice (some ⟨be, 0, none⟩) nc nc, Value.slice (some ⟨bw, 0, none⟩) N N, Value.slice (some ⟨bs, 0, none⟩) N N, Value.slice none 0 0, Value.slice (some ⟨bd, 0, none⟩) nw nw] 68)) u4.heap.size #[Value.int .i64 (S : Int), Value.slice ca nc cc, Value.slice (some ⟨be, 0, none⟩) nc nc, Value.slice (some ⟨bw, 0, none⟩) N N, Value.slice (some ⟨bs, 0, none⟩) N N, Value.slice none 0 0, Value.slice (some ⟨bd, 0, none⟩) nw nw] 68) := Bz.new _ _ _
          have w5 : Below u4.heap.size u4 (u4.alloc (Obj.cells #[Value.int .i64 (S : Int), Value.slice ca nc cc, Value.slice (some ⟨be, 0, none⟩) nc nc, Value.slice (some ⟨bw, 0, none⟩) N N, Value.slice (some ⟨bs, 0, none⟩) N N, Value.slice none 0 0, Value.slice (some ⟨bd, 0, none⟩) nw nw] 68)) := (Below.refl _ _).alloc (Nat.le_refl _) _
          have bbw_5 : Hid (Bz (u4.alloc (Obj.cells #[Value.int .i64 (S : Int), Value.slice ca nc cc, Value.slice (some ⟨be, 0, none⟩) nc nc, Value.slice (some ⟨bw, 0, none⟩) N N, Value.slice (some ⟨bs, 0, none⟩) N N, Value.slice none 0 0, Value.slice (some ⟨bd, 0, none⟩) nw nw] 68)) bw A2 97) := Bz.later bbw_4.out w5
          have bbe_5 : Hid (Bz (u4.alloc (Obj.cells #[Value.int .i64 (S : Int), Value.slice ca nc cc, Value.slice (some ⟨be, 0, none⟩) nc nc, Value.slice (some ⟨bw, 0, none⟩) N N, Value.slice (some ⟨bs, 0, none⟩) N N, Value.slice none 0 0, Value.slice (some ⟨bd, 0, none⟩) nw nw] 68)) be A1 96) := Bz.later bbe_4.out w5
          have bbs_5 : Hid (Bz (u4.alloc (Obj.cells #[Value.int .i64 (S : Int), Value.slice ca nc cc, Value.slice (some ⟨be, 0, none⟩) nc nc, Value.slice (some ⟨bw, 0, none⟩) N N, Value.slice (some ⟨bs, 0, none⟩) N N, Value.slice none 0 0, Value.slice (some ⟨bd, 0, none⟩) nw nw] 68)) bs A3 4) := Bz.later bbs_4.out w5
          have bbd_5 : Hid (Bz (u4.alloc (Obj.cells #[Value.int .i64 (S : Int), Value.slice ca nc cc, Value.slice (some ⟨be, 0, none⟩) nc nc, Value.slice (some ⟨bw, 0, none⟩) N N, Value.slice (some ⟨bs, 0, none⟩) N N, Value.slice none 0 0, Value.slice (some ⟨bd, 0, none⟩) nw nw] 68)) bd A4 108) := Bz.later bbd_4.out w5
          have lbx : w0.heap.size ≤ u4.heap.size := hu4.out.size
          clear w5
          generalize hqbx : u4.heap.size = bx at *
          generalize u4.alloc (Obj.cells #[Value.int .i64 (S : Int), Value.slice ca nc cc, Value.slice (some ⟨be, 0, none⟩) nc nc, Value.slice (some ⟨bw, 0, none⟩) N N, Value.slice (some ⟨bs, 0, none⟩) N N, Value.slice none 0 0, Value.slice (some ⟨bd, 0, none⟩) nw nw] 68) = u5 at *
          clear hqbx
          try go_simp
          refine wpAnyX_both (T := fun uu => Below w0.heap.size w0 uu) (i := 18) (v := Value.pointer (some ⟨bx, 0, none⟩)) rfl (by kernel_rfl) (by kernel_rfl) (by kernel_rfl) (fun _ _ _ h => by first | exact h | exact h.elim) (by decide) (fun _ h => h.elim) (fun _ h => h) (Sx.behind (by kernel_rfl) hu5.out) (Or.inl ⟨by rfl, fun uu hu => by go_simp⟩) ?_
          try go_simp
          refine wpAnyX_done (by kernel_rfl) ?_ _
          exact (show RNw w w0 S N nc cc nw ca A1 A2 A3 A4 _ _ from ⟨be, bw, bs, bd, bx, ⟨lbe, lbw, lbs, lbd, lbx⟩, bbe_5.out, bbw_5.out, bbs_5.out, bbd_5.out, bbx_5.out, hu5.out, act_u (by kernel_rfl)⟩)
        · go_simp
          refine Calls.mono (HNP.out u2) ?_
          rintro e u3 ⟨bd, hd9, rfl, hz9, hb9⟩
          have hu3 : Hid (Below w0.heap.size w0 u3) := hu2.out.trans (hb9.mono hu2.out.size)
          have bbw_3 : Hid (Bz u3 bw A2 97) := Bz.later bbw_2.out hb9
          have bbe_3 : Hid (Bz u3 be A1 96) := Bz.later bbe_2.out hb9
          have bbd_3 := kide hz9
          have lbd : w0.heap.size ≤ bd := Nat.le_trans hu2.out.size hd9
          refine hK _ _ (Sx.behind (by kernel_rfl) hu3.out) ?_
          clear hK K hb9 hd9 hz9
          try go_simp
          refine wpAnyX_ready (rs := [11]) (by kernel_rfl) (by simp) (AllX.cons rfl (fun K hK => ?_) AllX.nil)
          go_simp
          refine hK _ _ (Sx.behind (by kernel_rfl) (hu3.out.alloc hu3.out.size _)) ?_
          clear hK K
          have hu4 : Hid (Below w0.heap.size w0 (u3.alloc (Obj.cells A3 4))) := hu3.out.alloc hu3.out.size _
          have bbs_4 : Hid (Bz (u3.alloc (Obj.cells A3 4)) u3.heap.size A3 4) := Bz.new _ _ _
          have w4 : Below u3.heap.size u3 (u3.alloc (Obj.cells A3 4)) := (Below.refl _ _).alloc (Nat.le_refl _) _
          have bbw_4 : Hid (Bz (u3.alloc (Obj.cells A3 4)) bw A2 97) := Bz.later bbw_3.out w4
          have bbe_4 : Hid (Bz (u3.alloc (Obj.cells A3 4)) be A1 96) := Bz.later bbe_3.out w4
          have bbd_4 : Hid (Bz (u3.alloc (Obj.cells A3 4)) bd A4 108) := Bz.later bbd_3.out w4
          have lbs : w0.heap.size ≤ u3.heap.size := hu3.out.size
          clear w4
          generalize hqbs : u3.heap.size = bs at *
          generalize u3.alloc (Obj.cells A3 4) = u4 at *
          clear hqbs
          try go_simp
          refine wpAnyX_both (T := fun uu => Below w0.heap.size w0 uu) (i := 16) (v := Value.agg #[Value.int .i64 (S : Int), Value.slice ca nc cc, Value.slice (some ⟨be, 0, none⟩) nc nc, Value.slice (some ⟨bw, 0, none⟩) N N, Value.slice (some ⟨bs, 0, none⟩) N N, Value.slice none 0 0, Value.slice (some ⟨bd, 0, none⟩) nw nw]) rfl (by kernel_rfl) (by kernel_rfl) (by kernel_rfl) (fun _ _ _ h => by first | exact h | exact h.elim) (by decide) (fun _ h => h.elim) (fun _ h => h) (Sx.behind (by kernel_rfl) hu4.out) (Or.inl ⟨by rfl, fun uu hu => by go_simp⟩) ?_
          try go_simp
          refine wpAnyX_ready (rs := [17]) (by kernel_rfl) (by simp) (AllX.cons rfl (fun K hK => ?_) AllX.nil)
          go_simp
          refine hK _ _ (Sx.behind (by kernel_rfl) (hu4.out.alloc hu4.out.size _)) ?_
          clear hK K
          have hu5 : Hid (Below w0.heap.size w0 (u4.alloc (Obj.cells #[Value.int .i64 (S : Int), Value.slice ca nc cc, Value.slice (some ⟨be, 0, none⟩) nc nc, Value.slice (some ⟨bw, 0, none⟩) N N, Value.slice (some ⟨bs, 0, none⟩) N N, Value.slice none 0 0, Value.slice (some ⟨bd, 0, none⟩) nw nw] 68))) := hu4.out.alloc hu4.out.size _
          have bbx_5 : Hid (Bz (u4.alloc (Obj.cells #[Value.int .i64 (S : Int), Value.slice ca nc cc, Value.slice (some ⟨be, 0, none⟩) nc nc, Value.slice (some ⟨bw, 0, none⟩) N N, Value.slice (some ⟨bs, 0, none⟩) N N, Value.slice none 0 0, Value.slice (some ⟨bd, 0, none⟩) nw nw] 68)) u4.heap.size #[Value.int .i64 (S : Int), Value.slice ca nc cc, Value.slice (some ⟨be, 0, none⟩) nc nc, Value.slice (some ⟨bw, 0, none⟩) N N, Value.slice (some ⟨bs, 0, none⟩) N N, Value.slice none 0 0, Value.slice (some ⟨bd, 0, none⟩) nw nw] 68) := Bz.new _ _ _
          have w5 : Below u4.heap.size u4 (u4.alloc (Obj.cells #[Value.int .i64 (S : Int), Value.slice ca nc cc, Value.slice (some ⟨be, 0, none⟩) nc nc, Value.slice (some ⟨bw, 0, none⟩) N N, Value.slice (some ⟨bs, 0, none⟩) N N, Value.slice none 0 0, Value.slice (some ⟨bd, 0, none⟩) nw nw] 68)) := (Below.refl _ _).alloc (Nat.le_refl _) _
          have bbw_5 : Hid (Bz (u4.alloc (Obj.cells #[Value.int .i64 (S : Int), Value.slice ca nc cc, Value.slice (some ⟨be, 0, none⟩) nc nc, Value.slice (some ⟨bw, 0, none⟩) N N, Value.slice (some ⟨bs, 0, none⟩) N N, Value.slice none 0 0, Value.slice (some ⟨bd, 0, none⟩) nw nw] 68)) bw A2 97) := Bz.later bbw_4.out w5
          have bbe_5 : Hid (Bz (u4.alloc (Obj.cells #[Value.int .i64 (S : Int), Value.slice ca nc cc, Value.slice (some ⟨be, 0, none⟩) nc nc, Value.slice (some ⟨bw, 0, none⟩) N N, Value.slice (some ⟨bs, 0, none⟩) N N, Value.slice none 0 0, Value.slice (some ⟨bd, 0, none⟩) nw nw] 68)) be A1 96) := Bz.later bbe_4.out w5
          have bbd_5 : Hid (Bz (u4.alloc (Obj.cells #[Value.int .i64 (S : Int), Value.slice ca nc cc, Value.slice (some ⟨be, 0, none⟩) nc nc, Value.slice (some ⟨bw, 0, none⟩) N N, Value.slice (some ⟨bs, 0, none⟩) N N, Value.slice none 0 0, Value.slice (some ⟨bd, 0, none⟩) nw nw] 68)) bd A4 108) := Bz.later bbd_4.out w5
          have bbs_5 : Hid (Bz (u4.alloc (Obj.cells #[Value.int .i64 (S : Int), Value.slice ca nc cc, Value.slice (some ⟨be, 0, none⟩) nc nc, Value.slice (some ⟨bw, 0, none⟩) N N, Value.slice (some ⟨bs, 0, none⟩) N N, Value.slice none 0 0, Value.slice (some ⟨bd, 0, none⟩) nw nw] 68)) bs A3 4) := Bz.later bbs_4.out w5
          have lbx : w0.heap.size ≤ u4.heap.size := hu4.out.size
          clear w5
          generalize hqbx : u4.heap.size = bx at *
          generalize u4.alloc (Obj.cells #[Value.int .i64 (S : Int), Value.slice ca nc cc, Value.slice (some ⟨be, 0, none⟩) nc nc, Value.slice (some ⟨bw, 0, none⟩) N N, Value.slice (some ⟨bs, 0, none⟩) N N, Value.slice none 0 0, Value.slice (some ⟨bd, 0, none⟩) nw nw] 68) = u5 at *
          clear hqbx
          try go_simp
          refine wpAnyX_both (T := fun uu => Below w0.heap.size w0 uu) (i := 18) (v := Value.pointer (some ⟨bx, 0, none⟩)) rfl (by kernel_rfl) (by kernel_rfl) (by kernel_rfl) (fun _ _ _ h => by first | exact h | exact h.elim) (by decide) (fun _ h => h.elim) (fun _ h => h) (Sx.behind (by kernel_rfl) hu5.out) (Or.inl ⟨by rfl, fun uu hu => by go_simp⟩) ?_
          try go_simp
          refine wpAnyX_done (by kernel_rfl) ?_ _
          exact (show RNw w w0 S N nc cc nw ca A1 A2 A3 A4 _ _ from ⟨be, bw, bs, bd, bx, ⟨lbe, lbw, lbs, lbd, lbx⟩, bbe_5.out, bbw_5.out, bbs_5.out, bbd_5.out, bbx_5.out, hu5.out, act_u (by kernel_rfl)⟩)
      · go_simp
        refine hK _ _ (Sx.behind (by kernel_rfl) (hu1.out.alloc hu1.out.size _)) ?_
        clear hK K
        have hu2 : Hid (Below w0.heap.size w0 (u1.alloc (Obj.cells A3 4))) := hu1.out.alloc hu1.out.size _
        have bbs_2 : Hid (Bz (u1.alloc (Obj.cells A3 4)) u1.heap.size A3 4) := Bz.new _ _ _
        have w2 : Below u1.heap.size u1 (u1.alloc (Obj.cells A3 4)) := (Below.refl _ _).alloc (Nat.le_refl _) _
        have bbw_2 : Hid (Bz (u1.alloc (Obj.cells A3 4)) bw A2 97) := Bz.later bbw_1.out w2
        have lbs : w0.heap.size ≤ u1.heap.size := hu1.out.size
        clear w2
        generalize hqbs : u1.heap.size = bs at *
        generalize u1.alloc (Obj.cells A3 4) = u2 at *
        clear hqbs
        try go_simp
        refine wpAnyX_ready (rs := [7, 15]) (by kernel_rfl) (by simp) (AllX.cons rfl (fun K hK => ?_) (AllX.cons rfl (fun K hK => ?_) AllX.nil))
        · go_simp
          refine hK _ _ (Sx.behind (by kernel_rfl) (hu2.out.alloc hu2.out.size _)) ?_
          clear hK K
          have hu3 : Hid (Below w0.heap.size w0 (u2.alloc (Obj.cells A1 96))) := hu2.out.alloc hu2.out.size _
          have bbe_3 : Hid (Bz (u2.alloc (Obj.cells A1 96)) u2.heap.size A1 96) := Bz.new _ _ _
          have w3 : Below u2.heap.size u2 (u2.alloc (Obj.cells A1 96)) := (Below.refl _ _).alloc (Nat.le_refl _) _
          have bbw_3 : Hid (Bz (u2.alloc (Obj.cells A1 96)) bw A2 97) := Bz.later bbw_2.out w3
          have bbs_3 : Hid (Bz (u2.alloc (Obj.cells A1 96)) bs A3 4) := Bz.later bbs_2.out w3
          have lbe : w0.heap.size ≤ u2.heap.size := hu2.out.size
          clear w3
          generalize hqbe : u2.heap.size = be at *
          generalize u2.alloc (Obj.cells A1 96) = u3 at *
          clear hqbe
          try go_simp
          refine wpAnyX_ready (rs := [15]) (by kernel_rfl) (by simp) (AllX.cons rfl (fun K hK => ?_) AllX.nil)
          go_simp
          refine Calls.mono (HNP.out u3) ?_
          rintro e u4 ⟨bd, hd9, rfl, hz9, hb9⟩
          have hu4 : Hid (Below w0.heap.size w0 u4) := hu3.out.trans (hb9.mono hu3.out.size)
          have bbw_4 : Hid (Bz u4 bw A2 97) := Bz.later bbw_3.out hb9
          have bbs_4 : Hid (Bz u4 bs A3 4) := Bz.later bbs_3.out hb9
          have bbe_4 : Hid (Bz u4 be A1 96) := Bz.later bbe_3.out hb9
          have bbd_4 := kide hz9
          have lbd : w0.heap.size ≤ bd := Nat.le_trans hu3.out.size hd9
          refine hK _ _ (Sx.behind (by kernel_rfl) hu4.out) ?_
          clear hK K hb9 hd9 hz9
          try go_simp
          refine wpAnyX_both (T := fun uu => Below w0.heap.size w0 uu) (i := 16) (v := Value.agg #[Value.int .i64 (S : Int), Value.slice ca nc cc, Value.slice (some ⟨be, 0, none⟩) nc nc, Value.slice (some ⟨bw, 0, none⟩) N N, Value.slice (some ⟨bs, 0, none⟩) N N, Value.slice none 0 0, Value.slice (some ⟨bd, 0, none⟩) nw nw]) rfl (by kernel_rfl) (by kernel_rfl) (by kernel_rfl) (fun _ _ _ h => by first | exact h | exact h.elim) (by decide) (fun _ h => h.elim) (fun _ h => h) (Sx.behind (by kernel_rfl) hu4.out) (Or.inl ⟨by rfl, fun uu hu => by go_simp⟩) ?_
          try go_simp
          refine wpAnyX_ready (rs := [17]) (by kernel_rfl) (by simp) (AllX.cons rfl (fun K hK => ?_) AllX.nil)
          go_simp
          refine hK _ _ (Sx.behind (by kernel_rfl) (hu4.out.alloc hu4.out.size _)) ?_
          clear hK K
          have hu5 : Hid (Below w0.heap.size w0 (u4.alloc (Obj.cells #[Value.int .i64 (S : Int), Value.slice ca nc cc, Value.slice (some ⟨be, 0, none⟩) nc nc, Value.slice (some ⟨bw, 0, none⟩) N N, Value.slice (some ⟨bs, 0, none⟩) N N, Value.slice none 0 0, Value.slice (some ⟨bd, 0, none⟩) nw nw] 68))) := hu4.out.alloc hu4.out.size _
          have bbx_5 : Hid (Bz (u4.alloc (Obj.cells #[Value.int .i64 (S : Int), Value.slice ca nc cc, Value.slice (some ⟨be, 0, none⟩) nc nc, Value.slice (some ⟨bw, 0, none⟩) N N, Value.slice (some ⟨bs, 0, none⟩) N N, Value.slice none 0 0, Value.slice (some ⟨bd, 0, none⟩) nw nw] 68)) u4.heap.size #[Value.int .i64 (S : Int), Value.slice ca nc cc, Value.slice (some ⟨be, 0, none⟩) nc nc, Value.slice (some ⟨bw, 0, none⟩) N N, Value.slice (some ⟨bs, 0, none⟩) N N, Value.slice none 0 0, Value.slice (some ⟨bd, 0, none⟩) nw nw] 68) := Bz.new _ _ _
          have w5 : Below u4.heap.size u4 (u4.alloc (Obj.cells #[Value.int .i64 (S : Int), Value.slice ca nc cc, Value.slice (some ⟨be, 0, none⟩) nc nc, Value.slice (some ⟨bw, 0, none⟩) N N, Value.slice (some ⟨bs, 0, none⟩) N N, Value.slice none 0 0, Value.slice (some ⟨bd, 0, none⟩) nw nw] 68)) := (Below.refl _ _).alloc (Nat.le_refl _) _
          have bbw_5 : Hid (Bz (u4.alloc (Obj.cells #[Value.int .i64 (S : Int), Value.slice ca nc cc, Value.slice (some ⟨be, 0, none⟩) nc nc, Value.slice (some ⟨bw, 0, none⟩) N N, Value.slice (some ⟨bs, 0, none⟩) N N, Value.slice none 0 0, Value.slice (some ⟨bd, 0, none⟩) nw nw] 68)) bw A2 97) := Bz.later bbw_4.out w5
          have bbs_5 : Hid (Bz (u4.alloc (Obj.cells #[Value.int .i64 (S : Int), Value.slice ca nc cc, Value.slice (some ⟨be, 0, none⟩) nc nc, Value.slice (some ⟨bw, 0, none⟩) N N, Value.slice (some ⟨bs, 0, none⟩) N N, Value.slice none 0 0, Value.slice (some ⟨bd, 0, none⟩) nw nw] 68)) bs A3 4) := Bz.later bbs_4.out w5
          have bbe_5 : Hid (Bz (u4.alloc (Obj.cells #[Value.int .i64 (S : Int), Value.slice ca nc cc, Value.slice (some ⟨be, 0, none⟩) nc nc, Value.slice (some ⟨bw, 0, none⟩) N N, Value.slice (some ⟨bs, 0, none⟩) N N, Value.slice none 0 0, Value.slice (some ⟨bd, 0, none⟩) nw nw] 68)) be A1 96) := Bz.later bbe_4.out w5
          have bbd_5 : Hid (Bz (u4.alloc (Obj.cells #[Value.int .i64 (S : Int), Value.slice ca nc cc, Value.slice (some ⟨be, 0, none⟩) nc nc, Value.slice (some ⟨bw, 0, none⟩) N N, Value.slice (some ⟨bs, 0, none⟩) N N, Value.slice none 0 0, Value.slice (some ⟨bd, 0, none⟩) nw nw] 68)) bd A4 108) := Bz.later bbd_4.out w5
          have lbx : w0.heap.size ≤ u4.heap.size := hu4.out.size
          clear w5
          generalize hqbx : u4.heap.size = bx at *
          generalize u4.alloc (Obj.cells #[Value.int .i64 (S : Int), Value.slice ca nc cc, Value.slice (some ⟨be, 0, none⟩) nc nc, Value.slice (some ⟨bw, 0, none⟩) N N, Value.slice (some ⟨bs, 0, none⟩) N N, Value.slice none 0 0, Value.slice (some ⟨bd, 0, none⟩) nw nw] 68) = u5 at *
          clear hqbx
          try go_simp
          refine wpAnyX_both (T := fun uu => Below w0.heap.size w0 uu) (i := 18) (v := Value.pointer (some ⟨bx, 0, none⟩)) rfl (by kernel_rfl) (by kernel_rfl) (by kernel_rfl) (fun _ _ _ h => by first | exact h | exact h.elim) (by decide) (fun _ h => h.elim) (fun _ h => h) (Sx.behind (by kernel_rfl) hu5.out) (Or.inl ⟨by rfl, fun uu hu => by go_simp⟩) ?_
          try go_simp
          refine wpAnyX_done (by kernel_rfl) ?_ _
          exact (show RNw w w0 S N nc cc nw ca A1 A2 A3 A4 _ _ from ⟨be, bw, bs, bd, bx, ⟨lbe, lbw, lbs, lbd, lbx⟩, bbe_5.out, bbw_5.out, bbs_5.out, bbd_5.out, bbx_5.out, hu5.out, act_u (by kernel_rfl)⟩)
        · go_simp
          refine Calls.mono (HNP.out u2) ?_
          rintro e u3 ⟨bd, hd9, rfl, hz9, hb9⟩
          have hu3 : Hid (Below w0.heap.size w0 u3) := hu2.out.trans (hb9.mono hu2.out.size)
          have bbw_3 : Hid (Bz u3 bw A2 97) := Bz.later bbw_2.out hb9
          have bbs_3 : Hid (Bz u3 bs A3 4) := Bz.later bbs_2.out hb9
          have bbd_3 := kide hz9
          have lbd : w0.heap.size ≤ bd := Nat.le_trans hu2.out.size hd9
          refine hK _ _ (Sx.behind (by kernel_rfl) hu3.out) ?_
          clear hK K hb9 hd9 hz9
          try go_simp
          refine wpAnyX_ready (rs := [7]) (by kernel_rfl) (by simp) (AllX.cons rfl (fun K hK => ?_) AllX.nil)
          go_simp
          refine hK _ _ (Sx.behind (by kernel_rfl) (hu3.out.alloc hu3.out.size _)) ?_
          clear hK K
          have hu4 : Hid (Below w0.heap.size w0 (u3.alloc (Obj.cells A1 96))) := hu3.out.alloc hu3.out.size _
          have bbe_4 : Hid (Bz (u3.alloc (Obj.cells A1 96)) u3.heap.size A1 96) := Bz.new _ _ _
          have w4 : Below u3.heap.size u3 (u3.alloc (Obj.cells A1 96)) := (Below.refl _ _).alloc (Nat.le_refl _) _
          have bbw_4 : Hid (Bz (u3.alloc (Obj.cells A1 96)) bw A2 97) := Bz.later bbw_3.out w4
          have bbs_4 : Hid (Bz (u3.alloc (Obj.cells A1 96)) bs A3 4) := Bz.later bbs_3.out w4
          have bbd_4 : Hid (Bz (u3.alloc (Obj.cells A1 96)) bd A4 108) := Bz.later bbd_3.out w4
          have lbe : w0.heap.size ≤ u3.heap.size := hu3.out.size
          clear w4
          generalize hqbe : u3.heap.size = be at *
          generalize u3.alloc (Obj.cells A1 96) = u4 at *
          clear hqbe
          try go_simp
          refine wpAnyX_both (T := fun uu => Below w0.heap.size w0 uu) (i := 16) (v := Value.agg #[Value.int .i64 (S : Int), Value.slice ca nc cc, Value.slice (some ⟨be, 0, none⟩) nc nc, Value.slice (some ⟨bw, 0, none⟩) N N, Value.slice (some ⟨bs, 0, none⟩) N N, Value.slice none 0 0, Value.slice (some ⟨bd, 0, none⟩) nw nw]) rfl (by kernel_rfl) (by kernel_rfl) (by kernel_rfl) (fun _ _ _ h => by first | exact h | exact h.elim) (by decide) (fun _ h => h.elim) (fun _ h => h) (Sx.behind (by kernel_rfl) hu4.out) (Or.inl ⟨by rfl, fun uu hu => by go_simp⟩) ?_
          try go_simp
          refine wpAnyX_ready (rs := [17]) (by kernel_rfl) (by simp) (AllX.cons rfl (fun K hK => ?_) AllX.nil)
          go_simp
          refine hK _ _ (Sx.behind (by kernel_rfl) (hu4.out.alloc hu4.out.size _)) ?_
          clear hK K
          have hu5 : Hid (Below w0.heap.size w0 (u4.alloc (Obj.cells #[Value.int .i64 (S : Int), Value.slice ca nc cc, Value.slice (some ⟨be, 0, none⟩) nc nc, Value.slice (some ⟨bw, 0, none⟩) N N, Value.slice (some ⟨bs, 0, none⟩) N N, Value.slice none 0 0, Value.slice (some ⟨bd, 0, none⟩) nw nw] 68))) := hu4.out.alloc hu4.out.size _
          have bbx_5 : Hid (Bz (u4.alloc (Obj.cells #[Value.int .i64 (S : Int), Value.slice ca nc cc, Value.slice (some ⟨be, 0, none⟩) nc nc, Value.slice (some ⟨bw, 0, none⟩) N N, Value.slice (some ⟨bs, 0, none⟩) N N, Value.slice none 0 0, Value.slice (some ⟨bd, 0, none⟩) nw nw] 68)) u4.heap.size #[Value.int .i64 (S : Int), Value.slice ca nc cc, Value.slice (some ⟨be, 0, none⟩) nc nc, Value.slice (some ⟨bw, 0, none⟩) N N, Value.slice (some ⟨bs, 0, none⟩) N N, Value.slice none 0 0, Value.slice (some ⟨bd, 0, none⟩) nw nw] 68) := Bz.new _ _ _
          have w5 : Below u4.heap.size u4 (u4.alloc (Obj.cells #[Value.int .i64 (S : Int), Value.slice ca nc cc, Value.slice (some ⟨be, 0, none⟩) nc nc, Value.slice (some ⟨bw, 0, none⟩) N N, Value.slice (some ⟨bs, 0, none⟩) N N, Value.slice none 0 0, Value.slice (some ⟨bd, 0, none⟩) nw nw] 68)) := (Below.refl _ _).alloc (Nat.le_refl _) _
          have bbw_5 : Hid (Bz (u4.alloc (Obj.cells #[Value.int .i64 (S : Int), Value.slice ca nc cc, Value.slice (some ⟨be, 0, none⟩) nc nc, Value.slice (some ⟨bw, 0, none⟩) N N, Value.slice (some ⟨bs, 0, none⟩) N N, Value.slice none 0 0, Value.slice (some ⟨bd, 0, none⟩) nw nw] 68)) bw A2 97) := Bz.later bbw_4.out w5
          have bbs_5 : Hid (Bz (u4.alloc (Obj.cells #[Value.int .i64 (S : Int), Value.slice ca nc cc, Value.slice (some ⟨be, 0, none⟩) nc nc, Value.slice (some ⟨bw, 0, none⟩) N N, Value.slice (some ⟨bs, 0, none⟩) N N, Value.slice none 0 0, Value.slice (some ⟨bd, 0, none⟩) nw nw] 68)) bs A3 4) := Bz.later bbs_4.out w5
          have bbd_5 : Hid (Bz (u4.alloc (Obj.cells #[Value.int .i64 (S : Int), Value.slice ca nc cc, Value.slice (some ⟨be, 0, none⟩) nc nc, Value.slice (some ⟨bw, 0, none⟩) N N, Value.slice (some ⟨bs, 0, none⟩) N N, Value.slice none 0 0, Value.slice (some ⟨bd, 0, none⟩) nw nw] 68)) bd A4 108) := Bz.later bbd_4.out w5
          have bbe_5 : Hid (Bz (u4.alloc (Obj.cells #[Value.int .i64 (S : Int), Value.slice ca nc cc, Value.slice (some ⟨be, 0, none⟩) nc nc, Value.slice (some ⟨bw, 0, none⟩) N N, Value.slice (some ⟨bs, 0, none⟩) N N, Value.slice none 0 0, Value.slice (some ⟨bd, 0, none⟩) nw nw] 68)) be A1 96) := Bz.later bbe_4.out w5
          have lbx : w0.heap.size ≤ u4.heap.size := hu4.out.size
          clear w5
          generalize hqbx : u4.heap.size = bx at *
          generalize u4.alloc (Obj.cells #[Value.int .i64 (S : Int), Value.slice ca nc cc, Value.slice (some ⟨be, 0, none⟩) nc nc, Value.slice (some ⟨bw, 0, none⟩) N N, Value.slice (some ⟨bs, 0, none⟩) N N, Value.slice none 0 0, Value.slice (some ⟨bd, 0, none⟩) nw nw] 68) = u5 at *
          clear hqbx
          try go_simp
          refine wpAnyX_both (T := fun uu => Below w0.heap.size w0 uu) (i := 18) (v := Value.pointer (some ⟨bx, 0, none⟩)) rfl (by kernel_rfl) (by kernel_rfl) (by kernel_rfl) (fun _ _ _ h => by first | exact h | exact h.elim) (by decide) (fun _ h => h.elim) (fun _ h => h) (Sx.behind (by kernel_rfl) hu5.out) (Or.inl ⟨by rfl, fun uu hu => by go_simp⟩) ?_
          try go_simp
          refine wpAnyX_done (by kernel_rfl) ?_ _
          exact (show RNw w w0 S N nc cc nw ca A1 A2 A3 A4 _ _ from ⟨be, bw, bs, bd, bx, ⟨lbe, lbw, lbs, lbd, lbx⟩, bbe_5.out, bbw_5.out, bbs_5.out, bbd_5.out, bbx_5.out, hu5.out, act_u (by kernel_rfl)⟩)
      · go_simp
        refine Calls.mono (HNP.out u1) ?_
        rintro e u2 ⟨bd, hd9, rfl, hz9, hb9⟩
        have hu2 : Hid (Below w0.heap.size w0 u2) := hu1.out.trans (hb9.mono hu1.out.size)
        have bbw_2 : Hid (Bz u2 bw A2 97) := Bz.later bbw_1.out hb9
        have bbd_2 := kide hz9
        have lbd : w0.heap.size ≤ bd := Nat.le_trans hu1.out.size hd9
        refine hK _ _ (Sx.behind (by kernel_rfl) hu2.out) ?_
        clear hK K hb9 hd9 hz9
        try go_simp
        refine wpAnyX_ready (rs := [7, 11]) (by kernel_rfl) (by simp) (AllX.cons rfl (fun K hK => ?_) (AllX.cons rfl (fun K hK => ?_) AllX.nil))
        · go_simp
          refine hK _ _ (Sx.behind (by kernel_rfl) (hu2.out.alloc hu2.out.size _)) ?_
          clear hK K
          have hu3 : Hid (Below w0.heap.size w0 (u2.alloc (Obj.cells A1 96))) := hu2.out.alloc hu2.out.size _
          have bbe_3 : Hid (Bz (u2.alloc (Obj.cells A1 96)) u2.heap.size A1 96) := Bz.new _ _ _
          have w3 : Below u2.heap.size u2 (u2.alloc (Obj.cells A1 96)) := (Below.refl _ _).alloc (Nat.le_refl _) _
          have bbw_3 : Hid (Bz (u2.alloc (Obj.cells A1 96)) bw A2 97) := Bz.later bbw_2.out w3
          have bbd_3 : Hid (Bz (u2.alloc (Obj.cells A1 96)) bd A4 108) := Bz.later bbd_2.out w3
          have lbe : w0.heap.size ≤ u2.heap.size := hu2.out.size
          clear w3
          generalize hqbe : u2.heap.size = be at *
          generalize u2.alloc (Obj.cells A1 96) = u3 at *
          clear hqbe
          try go_simp
          refine wpAnyX_ready (rs := [11]) (by kernel_rfl) (by simp) (AllX.cons rfl (fun K hK => ?_) AllX.nil)
          go_simp
          refine hK _ _ (Sx.behind (by kernel_rfl) (hu3.out.alloc hu3.out.size _)) ?_
          clear hK K
          have hu4 : Hid (Below w0.heap.size w0 (u3.alloc (Obj.cells A3 4))) := hu3.out.alloc hu3.out.size _
          have bbs_4 : Hid (Bz (u3.alloc (Obj.cells A3 4)) u3.heap.size A3 4) := Bz.new _ _ _
          have w4 : Below u3.heap.size u3 (u3.alloc (Obj.cells A3 4)) := (Below.refl _ _).alloc (Nat.le_refl _) _
          have bbw_4 : Hid (Bz (u3.alloc (Obj.cells A3 4)) bw A2 97) := Bz.later bbw_3.out w4
          have bbd_4 : Hid (Bz (u3.alloc (Obj.cells A3 4)) bd A4 108) := Bz.later bbd_3.out w4
          have bbe_4 : Hid (Bz (u3.alloc (Obj.cells A3 4)) be A1 96) := Bz.later bbe_3.out w4
          have lbs : w0.heap.size ≤ u3.heap.size := hu3.out.size
          clear w4
          generalize hqbs : u3.heap.size = bs at *
          generalize u3.alloc (Obj.cells A3 4) = u4 at *
          clear hqbs
          try go_simp
          refine wpAnyX_both (T := fun uu => Below w0.heap.size w0 uu) (i := 16) (v := Value.agg #[Value.int .i64 (S : Int), Value.slice ca nc cc, Value.slice (some ⟨be, 0, none⟩) nc nc, Value.slice (some ⟨bw, 0, none⟩) N N, Value.slice (some ⟨bs, 0, none⟩) N N, Value.slice none 0 0, Value.slice (some ⟨bd, 0, none⟩) nw nw]) rfl (by kernel_rfl) (by kernel_rfl) (by kernel_rfl) (fun _ _ _ h => by first | exact h | exact h.elim) (by decide) (fun _ h => h.elim) (fun _ h => h) (Sx.behind (by kernel_rfl) hu4.out) (Or.inl ⟨by rfl, fun uu hu => by go_simp⟩) ?_
          try go_simp
          refine wpAnyX_ready (rs := [17]) (by kernel_rfl) (by simp) (AllX.cons rfl (fun K hK => ?_) AllX.nil)
          go_simp
          refine hK _ _ (Sx.behind (by kernel_rfl) (hu4.out.alloc hu4.out.size _)) ?_
          clear hK K
          have hu5 : Hid (Below w0.heap.size w0 (u4.alloc (Obj.cells #[Value.int .i64 (S : Int), Value.slice ca nc cc, Value.slice (some ⟨be, 0, none⟩) nc nc, Value.slice (some ⟨bw, 0, none⟩) N N, Value.slice (some ⟨bs, 0, none⟩) N N, Value.slice none 0 0, Value.slice (some ⟨bd, 0, none⟩) nw nw] 68))) := hu4.out.alloc hu4.out.size _
          have bbx_5 : Hid (Bz (u4.alloc (Obj.cells #[Value.int .i64 (S : Int), Value.slice ca nc cc, Value.slice (some ⟨be, 0, none⟩) nc nc, Value.slice (some ⟨bw, 0, none⟩) N N, Value.slice (some ⟨bs, 0, none⟩) N N, Value.slice none 0 0, Value.slice (some ⟨bd, 0, none⟩) nw nw] 68)) u4.heap.size #[Value.int .i64 (S : Int), Value.slice ca nc cc, Value.slice (some ⟨be, 0, none⟩) nc nc, Value.slice (some ⟨bw, 0, none⟩) N N, Value.slice (some ⟨bs, 0, none⟩) N N, Value.slice none 0 0, Value.slice (some ⟨bd, 0, none⟩) nw nw] 68) := Bz.new _ _ _
          have w5 : Below u4.heap.size u4 (u4.alloc (Obj.cells #[Value.int .i64 (S : Int), Value.slice ca nc cc, Value.slice (some ⟨be, 0, none⟩) nc nc, Value.slice (some ⟨bw, 0, none⟩) N N, Value.slice (some ⟨bs, 0, none⟩) N N, Value.slice none 0 0, Value.slice (some ⟨bd, 0, none⟩) nw nw] 68)) := (Below.refl _ _).alloc (Nat.le_refl _) _
          have bbw_5 : Hid (Bz (u4.alloc (Obj.cells #[Value.int .i64 (S : Int), Value.slice ca nc cc, Value.slice (some ⟨be, 0, none⟩) nc nc, Value.slice (some ⟨bw, 0, none⟩) N N, Value.slice (some ⟨bs, 0, none⟩) N N, Value.slice none 0 0, Value.slice (some ⟨bd, 0, none⟩) nw nw] 68)) bw A2 97) := Bz.later bbw_4.out w5
          have bbd_5 : Hid (Bz (u4.alloc (Obj.cells #[Value.int .i64 (S : Int), Value.slice ca nc cc, Value.slice (some ⟨be, 0, none⟩) nc nc, Value.slice (some ⟨bw, 0, none⟩) N N, Value.slice (some ⟨bs, 0, none⟩) N N, Value.slice none 0 0, Value.slice (some ⟨bd, 0, none⟩) nw nw] 68)) bd A4 108) := Bz.later bbd_4.out w5
          have bbe_5 : Hid (Bz (u4.alloc (Obj.cells #[Value.int .i64 (S : Int), Value.slice ca nc cc, Value.slice (some ⟨be, 0, none⟩) nc nc, Value.slice (some ⟨bw, 0, none⟩) N N, Value.slice (some ⟨bs, 0, none⟩) N N, Value.slice none 0 0, Value.slice (some ⟨bd, 0, none⟩) nw nw] 68)) be A1 96) := Bz.later bbe_4.out w5
          have bbs_5 : Hid (Bz (u4.alloc (Obj.cells #[Value.int .i64 (S : Int), Value.slice ca nc cc, Value.slice (some ⟨be, 0, none⟩) nc nc, Value.slice (some ⟨bw, 0, none⟩) N N, Value.slice (some ⟨bs, 0, none⟩) N N, Value.slice none 0 0, Value.slice (some ⟨bd, 0, none⟩) nw nw] 68)) bs A3 4) := Bz.later bbs_4.out w5
          have lbx : w0.heap.size ≤ u4.heap.size := hu4.out.size
          clear w5
          generalize hqbx : u4.heap.size = bx at *
          generalize u4.alloc (Obj.cells #[Value.int .i64 (S : Int), Value.slice ca nc cc, Value.slice (some ⟨be, 0, none⟩) nc nc, Value.slice (some ⟨bw, 0, none⟩) N N, Value.slice (some ⟨bs, 0, none⟩) N N, Value.slice none 0 0, Value.slice (some ⟨bd, 0, none⟩) nw nw] 68) = u5 at *
          clear hqbx
          try go_simp
          refine wpAnyX_both (T := fun uu => Below w0.heap.size w0 uu) (i := 18) (v := Value.pointer (some ⟨bx, 0, none⟩)) rfl (by kernel_rfl) (by kernel_rfl) (by kernel_rfl) (fun _ _ _ h => by first | exact h | exact h.elim) (by decide) (fun _ h => h.elim) (fun _ h => h) (Sx.behind (by kernel_rfl) hu5.out) (Or.inl ⟨by rfl, fun uu hu => by go_simp⟩) ?_
          try go_simp
          refine wpAnyX_done (by kernel_rfl) ?_ _
          exact (show RNw w w0 S N nc cc nw ca A1 A2 A3 A4 _ _ from ⟨be, bw, bs, bd, bx, ⟨lbe, lbw, lbs, lbd, lbx⟩, bbe_5.out, bbw_5.out, bbs_5.out, bbd_5.out, bbx_5.out, hu5.out, act_u (by kernel_rfl)⟩)
        · go_simp
          refine hK _ _ (Sx.behind (by kernel_rfl) (hu2.out.alloc hu2.out.size _)) ?_
          clear hK K
          have hu3 : Hid (Below w0.heap.size w0 (u2.alloc (Obj.cells A3 4))) := hu2.out.alloc hu2.out.size _
          have bbs_3 : Hid (Bz (u2.alloc (Obj.cells A3 4)) u2.heap.size A3 4) := Bz.new _ _ _
          have w3 : Below u2.heap.size u2 (u2.alloc (Obj.cells A3 4)) := (Below.refl _ _).alloc (Nat.le_refl _) _
          have bbw_3 : Hid (Bz (u2.alloc (Obj.cells A3 4)) bw A2 97) := Bz.later bbw_2.out w3
          have bbd_3 : Hid (Bz (u2.alloc (Obj.cells A3 4)) bd A4 108) := Bz.later bbd_2.out w3
          have lbs : w0.heap.size ≤ u2.heap.size := hu2.out.size
          clear w3
          generalize hqbs : u2.heap.size = bs at *
          generalize u2.alloc (Obj.cells A3 4) = u3 at *
          clear hqbs
          try go_simp
          refine wpAnyX_ready (rs := [7]) (by kernel_rfl) (by simp) (AllX.cons rfl (fun K hK => ?_) AllX.nil)
          go_simp
          refine hK _ _ (Sx.behind (by kernel_rfl) (hu3.out.alloc hu3.out.size _)) ?_
          clear hK K
          have hu4 : Hid (Below w0.heap.size w0 (u3.alloc (Obj.cells A1 96))) := hu3.out.alloc hu3.out.size _
          have bbe_4 : Hid (Bz (u3.alloc (Obj.cells A1 96)) u3.heap.size A1 96) := Bz.new _ _ _
          have w4 : Below u3.heap.size u3 (u3.alloc (Obj.cells A1 96)) := (Below.refl _ _).alloc (Nat.le_refl _) _
          have bbw_4 : Hid (Bz (u3.alloc (Obj.cells A1 96)) bw A2 97) := Bz.later bbw_3.out w4
          have bbd_4 : Hid (Bz (u3.alloc (Obj.cells A1 96)) bd A4 108) := Bz.later bbd_3.out w4
          have bbs_4 : Hid (Bz (u3.alloc (Obj.cells A1 96)) bs A3 4) := Bz.later bbs_3.out w4
          have lbe : w0.heap.size ≤ u3.heap.size := hu3.out.size
          clear w4
          generalize hqbe : u3.heap.size = be at *
          generalize u3.alloc (Obj.cells A1 96) = u4 at *
          clear hqbe
          try go_simp
          refine wpAnyX_both (T := fun uu => Below w0.heap.size w0 uu) (i := 16) (v := Value.agg #[Value.int .i64 (S : Int), Value.slice ca nc cc, Value.slice (some ⟨be, 0, none⟩) nc nc, Value.slice (some ⟨bw, 0, none⟩) N N, Value.slice (some ⟨bs, 0, none⟩) N N, Value.slice none 0 0, Value.slice (some ⟨bd, 0, none⟩) nw nw]) rfl (by kernel_rfl) (by kernel_rfl) (by kernel_rfl) (fun _ _ _ h => by first | exact h | exact h.elim) (by decide) (fun _ h => h.elim) (fun _ h => h) (Sx.behind (by kernel_rfl) hu4.out) (Or.inl ⟨by rfl, fun uu hu => by go_simp⟩) ?_
          try go_simp
          refine wpAnyX_ready (rs := [17]) (by kernel_rfl) (by simp) (AllX.cons rfl (fun K hK => ?_) AllX.nil)
          go_simp
          refine hK _ _ (Sx.behind (by kernel_rfl) (hu4.out.alloc hu4.out.size _)) ?_
          clear hK K
          have hu5 : Hid (Below w0.heap.size w0 (u4.alloc (Obj.cells #[Value.int .i64 (S : Int), Value.slice ca nc cc, Value.slice (some ⟨be, 0, none⟩) nc nc, Value.slice (some ⟨bw, 0, none⟩) N N, Value.slice (some ⟨bs, 0, none⟩) N N, Value.slice none 0 0, Value.slice (some ⟨bd, 0, none⟩) nw nw] 68))) := hu4.out.alloc hu4.out.size _
          have bbx_5 : Hid (Bz (u4.alloc (Obj.cells #[Value.int .i64 (S : Int), Value.slice ca nc cc, Value.slice (some ⟨be, 0, none⟩) nc nc, Value.slice (some ⟨bw, 0, none⟩) N N, Value.slice (some ⟨bs, 0, none⟩) N N, Value.slice none 0 0, Value.slice (some ⟨bd, 0, none⟩) nw nw] 68)) u4.heap.size #[Value.int .i64 (S : Int), Value.slice ca nc cc, Value.slice (some ⟨be, 0, none⟩) nc nc, Value.slice (some ⟨bw, 0, none⟩) N N, Value.slice (some ⟨bs, 0, none⟩) N N, Value.slice none 0 0, Value.slice (some ⟨bd, 0, none⟩) nw nw] 68) := Bz.new _ _ _
          have w5 : Below u4.heap.size u4 (u4.alloc (Obj.cells #[Value.int .i64 (S : Int), Value.slice ca nc cc, Value.slice (some ⟨be, 0, none⟩) nc nc, Value.slice (some ⟨bw, 0, none⟩) N N, Value.slice (some ⟨bs, 0, none⟩) N N, Value.slice none 0 0, Value.slice (some ⟨bd, 0, none⟩) nw nw] 68)) := (Below.refl _ _).alloc (Nat.le_refl _) _
          have bbw_5 : Hid (Bz (u4.alloc (Obj.cells #[Value.int .i64 (S : Int), Value.slice ca nc cc, Value.slice (some ⟨be, 0, none⟩) nc nc, Value.slice (some ⟨bw, 0, none⟩) N N, Value.slice (some ⟨bs, 0, none⟩) N N, Value.slice none 0 0, Value.slice (some ⟨bd, 0, none⟩) nw nw] 68)) bw A2 97) := Bz.later bbw_4.out w5
          have bbd_5 : Hid (Bz (u4.alloc (Obj.cells #[Value.int .i64 (S : Int), Value.slice ca nc cc, Value.slice (some ⟨be, 0, none⟩) nc nc, Value.slice (some ⟨bw, 0, none⟩) N N, Value.slice (some ⟨bs, 0, none⟩) N N, Value.slice none 0 0, Value.slice (some ⟨bd, 0, none⟩) nw nw] 68)) bd A4 108) := Bz.later bbd_4.out w5
          have bbs_5 : Hid (Bz (u4.alloc (Obj.cells #[Value.int .i64 (S : Int), Value.slice ca nc cc, Value.slice (some ⟨be, 0, none⟩) nc nc, Value.slice (some ⟨bw, 0, none⟩) N N, Value.slice (some ⟨bs, 0, none⟩) N N, Value.slice none 0 0, Value.slice (some ⟨bd, 0, none⟩) nw nw] 68)) bs A3 4) := Bz.later bbs_4.out w5
          have bbe_5 : Hid (Bz (u4.alloc (Obj.cells #[Value.int .i64 (S : Int), Value.slice ca nc cc, Value.slice (some ⟨be, 0, none⟩) nc nc, Value.slice (some ⟨bw, 0, none⟩) N N, Value.slice (some ⟨bs, 0, none⟩) N N, Value.slice none 0 0, Value.slice (some ⟨bd, 0, none⟩) nw nw] 68)) be A1 96) := Bz.later bbe_4.out w5
          have lbx : w0.heap.size ≤ u4.heap.size := hu4.out.size
          clear w5
          generalize hqbx : u4.heap.size = bx at *
          generalize u4.alloc (Obj.cells #[Value.int .i64 (S : Int), Value.slice ca nc cc, Value.slice (some ⟨be, 0, none⟩) nc nc, Value.slice (some ⟨bw, 0, none⟩) N N, Value.slice (some ⟨bs, 0, none⟩) N N, Value.slice none 0 0, Value.slice (some ⟨bd, 0, none⟩) nw nw] 68) = u5 at *
          clear hqbx
          try go_simp
          refine wpAnyX_both (T := fun uu => Below w0.heap.size w0 uu) (i := 18) (v := Value.pointer (some ⟨bx, 0, none⟩)) rfl (by kernel_rfl) (by kernel_rfl) (by kernel_rfl) (fun _ _ _ h => by first | exact h | exact h.elim) (by decide) (fun _ h => h.elim) (fun _ h => h) (Sx.behind (by kernel_rfl) hu5.out) (Or.inl ⟨by rfl, fun uu hu => by go_simp⟩) ?_
          try go_simp
          refine wpAnyX_done (by kernel_rfl) ?_ _
          exact (show RNw w w0 S N nc cc nw ca A1 A2 A3 A4 _ _ from ⟨be, bw, bs, bd, bx, ⟨lbe, lbw, lbs, lbd, lbx⟩, bbe_5.out, bbw_5.out, bbs_5.out, bbd_5.out, bbx_5.out, hu5.out, act_u (by kernel_rfl)⟩)
    · go_simp
      refine hK _ _ (Sx.behind (by kernel_rfl) (hu0.out.alloc hu0.out.size _)) ?_
      clear hK K
      have hu1 : Hid (Below w0.heap.size w0 (u0.alloc (Obj.cells A3 4))) := hu0.out.alloc hu0.out.size _
      have bbs_1 : Hid (Bz (u0.alloc (Obj.cells A3 4)) u0.heap.size A3 4) := Bz.new _ _ _
      have w1 : Below u0.heap.size u0 (u0.alloc (Obj.cells A3 4)) := (Below.refl _ _).alloc (Nat.le_refl _) _
      have lbs : w0.heap.size ≤ u0.heap.size := hu0.out.size
      clear w1
      generalize hqbs : u0.heap.size = bs at *
      generalize u0.alloc (Obj.cells A3 4) = u1 at *
      clear hqbs
      try go_simp
      refine wpAnyX_ready (rs := [7, 9, 15]) (by kernel_rfl) (by simp) (AllX.cons rfl (fun K hK => ?_) (AllX.cons rfl (fun K hK => ?_) (AllX.cons rfl (fun K hK => ?_) AllX.nil)))
      · go_simp
        refine hK _ _ (Sx.behind (by kernel_rfl) (hu1.out.alloc hu1.out.size _)) ?_
        clear hK K
        have hu2 : Hid (Below w0.heap.size w0 (u1.alloc (Obj.cells A1 96))) := hu1.out.alloc hu1.out.size _
        have bbe_2 : Hid (Bz (u1.alloc (Obj.cells A1 96)) u1.heap.size A1 96) := Bz.new _ _ _
        have w2 : Below u1.heap.size u1 (u1.alloc (Obj.cells A1 96)) := (Below.refl _ _).alloc (Nat.le_refl _) _
        have bbs_2 : Hid (Bz (u1.alloc (Obj.cells A1 96)) bs A3 4) := Bz.later bbs_1.out w2
        have lbe : w0.heap.size ≤ u1.heap.size := hu1.out.size
        clear w2
        generalize hqbe : u1.heap.size = be at *
        generalize u1.alloc (Obj.cells A1 96) = u2 at *
        clear hqbe
        try go_simp
        refine wpAnyX_ready (rs := [9, 15]) (by kernel_rfl) (by simp) (AllX.cons rfl (fun K hK => ?_) (AllX.cons rfl (fun K hK => ?_) AllX.nil))
        · go_simp
          refine hK _ _ (Sx.behind (by kernel_rfl) (hu2.out.alloc hu2.out.size _)) ?_
          clear hK K
          have hu3 : Hid (Below w0.heap.size w0 (u2.alloc (Obj.cells A2 97))) := hu2.out.alloc hu2.out.size _
          have bbw_3 : Hid (Bz (u2.alloc (Obj.cells A2 97)) u2.heap.size A2 97) := Bz.new _ _ _
          have w3 : Below u2.heap.size u2 (u2.alloc (Obj.cells A2 97)) := (Below.refl _ _).alloc (Nat.le_refl _) _
          have bbs_3 : Hid (Bz (u2.alloc (Obj.cells A2 97)) bs A3 4) := Bz.later bbs_2.out w3
          have bbe_3 : Hid (Bz (u2.alloc (Obj.cells A2 97)) be A1 96) := Bz.later bbe_2.out w3
          have lbw : w0.heap.size ≤ u2.heap.size := hu2.out.size
          clear w3
          generalize hqbw : u2.heap.size = bw at *
          generalize u2.alloc (Obj.cells A2 97) = u3 at *
          clear hqbw
          try go_simp
          refine wpAnyX_ready (rs := [15]) (by kernel_rfl) (by simp) (AllX.cons rfl (fun K hK => ?_) AllX.nil)
          go_simp
          refine Calls.mono (HNP.out u3) ?_
          rintro e u4 ⟨bd, hd9, rfl, hz9, hb9⟩
          have hu4 : Hid (Below w0.heap.size w0 u4) := hu3.out.trans (hb9.mono hu3.out.size)
          have bbs_4 : Hid (Bz u4 bs A3 4) := Bz.later bbs_3.out hb9
          have bbe_4 : Hid (Bz u4 be A1 96) := Bz.later bbe_3.out hb9
          have bbw_4 : Hid (Bz u4 bw A2 97) := Bz.later bbw_3.out hb9
          have bbd_4 := kide hz9
          have lbd : w0.heap.size ≤ bd := Nat.le_trans hu3.out.size hd9
          refine hK _ _ (Sx.behind (by kernel_rfl) hu4.out) ?_
          clear hK K hb9 hd9 hz9
          try go_simp
          refine wpAnyX_both (T := fun uu => Below w0.heap.size w0 uu) (i := 16) (v := Value.agg #[Value.int .i64 (S : Int), Value.slice ca nc cc, Value.slice (some ⟨be, 0, none⟩) nc nc, Value.slice (some ⟨bw, 0, none⟩) N N, Value.slice (some ⟨bs, 0, none⟩) N N, Value.slice none 0 0, Value.slice (some ⟨bd, 0, none⟩) nw nw]) rfl (by kernel_rfl) (by kernel_rfl) (by kernel_rfl) (fun _ _ _ h => by first | exact h | exact h.elim) (by decide) (fun _ h => h.elim) (fun _ h => h) (Sx.behind (by kernel_rfl) hu4.out) (Or.inl ⟨by rfl, fun uu hu => by go_simp⟩) ?_
          try go_simp
          refine wpAnyX_ready (rs := [17]) (by kernel_rfl) (by simp) (AllX.cons rfl (fun K hK => ?_) AllX.nil)
          go_simp
          refine hK _ _ (Sx.behind (by kernel_rfl) (hu4.out.alloc hu4.out.size _)) ?_
          clear hK K
          have hu5 : Hid (Below w0.heap.size w0 (u4.alloc (Obj.cells #[Value.int .i64 (S : Int), Value.slice ca nc cc, Value.slice (some ⟨be, 0, none⟩) nc nc, Value.slice (some ⟨bw, 0, none⟩) N N, Value.slice (some ⟨bs, 0, none⟩) N N, Value.slice none 0 0, Value.slice (some ⟨bd, 0, none⟩) nw nw] 68))) := hu4.out.alloc hu4.out.size _
          have bbx_5 : Hid (Bz (u4.alloc (Obj.cells #[Value.int .i64 (S : Int), Value.slice ca nc cc, Value.slice (some ⟨be, 0, none⟩) nc nc, Value.slice (some ⟨bw, 0, none⟩) N N, Value.slice (some ⟨bs, 0, none⟩) N N, Value.slice none 0 0, Value.slice (some ⟨bd, 0, none⟩) nw nw] 68)) u4.heap.size #[Value.int .i64 (S : Int), Value.slice ca nc cc, Value.slice (some ⟨be, 0, none⟩) nc nc, Value.slice (some ⟨bw, 0, none⟩) N N, Value.slice (some ⟨bs, 0, none⟩) N N, Value.slice none 0 0, Value.slice (some ⟨bd, 0, none⟩) nw nw] 68) := Bz.new _ _ _
          have w5 : Below u4.heap.size u4 (u4.alloc (Obj.cells #[Value.int .i64 (S : Int), Value.slice ca nc cc, Value.slice (some ⟨be, 0, none⟩) nc nc, Value.slice (some ⟨bw, 0, none⟩) N N, Value.slice (some ⟨bs, 0, none⟩) N N, Value.slice none 0 0, Value.slice (some ⟨bd, 0, none⟩) nw nw] 68)) := (Below.refl _ _).alloc (Nat.le_refl _) _
          have bbs_5 : Hid (Bz (u4.alloc (Obj.cells #[Value.int .i64 (S : Int), Value.slice ca nc cc, Value.slice (some ⟨be, 0, none⟩) nc nc, Value.slice (some ⟨bw, 0, none⟩) N N, Value.slice (some ⟨bs, 0, none⟩) N N, Value.slice none 0 0, Value.slice (some ⟨bd, 0, none⟩) nw nw] 68)) bs A3 4) := Bz.later bbs_4.out w5
          have bbe_5 : Hid (Bz (u4.alloc (Obj.cells #[Value.int .i64 (S : Int), Value.slice ca nc cc, Value.slice (some ⟨be, 0, none⟩) nc nc, Value.slice (some ⟨bw, 0, none⟩) N N, Value.slice (some ⟨bs, 0, none⟩) N N, Value.slice none 0 0, Value.slice (some ⟨bd, 0, none⟩) nw nw] 68)) be A1 96) := Bz.later bbe_4.out w5
          have bbw_5 : Hid (Bz (u4.alloc (Obj.cells #[Value.int .i64 (S : Int), Value.slice ca nc cc, Value.slice (some ⟨be, 0, none⟩) nc nc, Value.slice (some ⟨bw, 0, none⟩) N N, Value.slice (some ⟨bs, 0, none⟩) N N, Value.slice none 0 0, Value.slice (some ⟨bd, 0, none⟩) nw nw] 68)) bw A2 97) := Bz.later bbw_4.out w5
          have bbd_5 : Hid (Bz (u4.alloc (Obj.cells #[Value.int .i64 (S : Int), Value.slice ca nc cc, Value.slice (some ⟨be, 0, none⟩) nc nc, Value.slice (some ⟨bw, 0, none⟩) N N, Value.slice (some ⟨bs, 0, none⟩) N N, Value.slice none 0 0, Value.slice (some ⟨bd, 0, none⟩) nw nw] 68)) bd A4 108) := Bz.later bbd_4.out w5
          have lbx : w0.heap.size ≤ u4.heap.size := hu4.out.size
          clear w5
          generalize hqbx : u4.heap.size = bx at *
          generalize u4.alloc (Obj.cells #[Value.int .i64 (S : Int), Value.slice ca nc cc, Value.slice (some ⟨be, 0, none⟩) nc nc, Value.slice (some ⟨bw, 0, none⟩) N N, Value.slice (some ⟨bs, 0, none⟩) N N, Value.slice none 0 0, Value.slice (some ⟨bd, 0, none⟩) nw nw] 68) = u5 at *
          clear hqbx
          try go_simp
          refine wpAnyX_both (T := fun uu => Below w0.heap.size w0 uu) (i := 18) (v := Value.pointer (some ⟨bx, 0, none⟩)) rfl (by kernel_rfl) (by kernel_rfl) (by kernel_rfl) (fun _ _ _ h => by first | exact h | exact h.elim) (by decide) (fun _ h => h.elim) (fun _ h => h) (Sx.behind (by kernel_rfl) hu5.out) (Or.inl ⟨by rfl, fun uu hu => by go_simp⟩) ?_
          try go_simp
          refine wpAnyX_done (by kernel_rfl) ?_ _
          exact (show RNw w w0 S N nc cc nw ca A1 A2 A3 A4 _ _ from ⟨be, bw, bs, bd, bx, ⟨lbe, lbw, lbs, lbd, lbx⟩, bbe_5.out, bbw_5.out, bbs_5.out, bbd_5.out, bbx_5.out, hu5.out, act_u (by kernel_rfl)⟩)
        · go_simp
          refine Calls.mono (HNP.out u2) ?_
          rintro e u3 ⟨bd, hd9, rfl, hz9, hb9⟩
          have hu3 : Hid (Below w0.heap.size w0 u3) := hu2.out.trans (hb9.mono hu2.out.size)
          have bbs_3 : Hid (Bz u3 bs A3 4) := Bz.later bbs_2.out hb9
          have bbe_3 : Hid (Bz u3 be A1 96) := Bz.later bbe_2.out hb9
          have bbd_3 := kide hz9
          have lbd : w0.heap.size ≤ bd := Nat.le_trans hu2.out.size hd9
          refine hK _ _ (Sx.behind (by kernel_rfl) hu3.out) ?_
          clear hK K hb9 hd9 hz9
          try go_simp
          refine wpAnyX_ready (rs := [9]) (by kernel_rfl) (by simp) (AllX.cons rfl (fun K hK => ?_) AllX.nil)
          go_simp
          refine hK _ _ (Sx.behind (by kernel_rfl) (hu3.out.alloc hu3.out.size _)) ?_
          clear hK K
          have hu4 : Hid (Below w0.heap.size w0 (u3.alloc (Obj.cells A2 97))) := hu3.out.alloc hu3.out.size _
          have bbw_4 : Hid (Bz (u3.alloc (Obj.cells A2 97)) u3.heap.size A2 97) := Bz.new _ _ _
          have w4 : Below u3.heap.size u3 (u3.alloc (Obj.cells A2 97)) := (Below.refl _ _).alloc (Nat.le_refl _) _
          have bbs_4 : Hid (Bz (u3.alloc (Obj.cells A2 97)) bs A3 4) := Bz.later bbs_3.out w4
          have bbe_4 : Hid (Bz (u3.alloc (Obj.cells A2 97)) be A1 96) := Bz.later bbe_3.out w4
          have bbd_4 : Hid (Bz (u3.alloc (Obj.cells A2 97)) bd A4 108) := Bz.later bbd_3.out w4
          have lbw : w0.heap.size ≤ u3.heap.size := hu3.out.size
          clear w4
          generalize hqbw : u3.heap.size = bw at *
          generalize u3.alloc (Obj.cells A2 97) = u4 at *
          clear hqbw
          try go_simp
          refine wpAnyX_both (T := fun uu => Below w0.heap.size w0 uu) (i := 16) (v := Value.agg #[Value.int .i64 (S : Int), Value.slice ca nc cc, Value.slice (some ⟨be, 0, none⟩) nc nc, Value.slice (some ⟨bw, 0, none⟩) N N, Value.slice (some ⟨bs, 0, none⟩) N N, Value.slice none 0 0, Value.slice (some ⟨bd, 0, none⟩) nw nw]) rfl (by kernel_rfl) (by kernel_rfl) (by kernel_rfl) (fun _ _ _ h => by first | exact h | exact h.elim) (by decide) (fun _ h => h.elim) (fun _ h => h) (Sx.behind (by kernel_rfl) hu4.out) (Or.inl ⟨by rfl, fun uu hu => by go_simp⟩) ?_
          try go_simp
          refine wpAnyX_ready (rs := [17]) (by kernel_rfl) (by simp) (AllX.cons rfl (fun K hK => ?_) AllX.nil)
          go_simp
          refine hK _ _ (Sx.behind (by kernel_rfl) (hu4.out.alloc hu4.out.size _)) ?_
          clear hK K
          have hu5 : Hid (Below w0.heap.size w0 (u4.alloc (Obj.cells #[Value.int .i64 (S : Int), Value.slice ca nc cc, Value.slice (some ⟨be, 0, none⟩) nc nc, Value.slice (some ⟨bw, 0, none⟩) N N, Value.slice (some ⟨bs, 0, none⟩) N N, Value.slice none 0 0, Value.slice (some ⟨bd, 0, none⟩) nw nw] 68))) := hu4.out.alloc hu4.out.size _
          have bbx_5 : Hid (Bz (u4.alloc (Obj.cells #[Value.int .i64 (S : Int), Value.slice ca nc cc, Value.slice (some ⟨be, 0, none⟩) nc nc, Value.slice (some ⟨bw, 0, none⟩) N N, Value.slice (some ⟨bs, 0, none⟩) N N, Value.slice none 0 0, Value.slice (some ⟨bd, 0, none⟩) nw nw] 68)) u4.heap.size #[Value.int .i64 (S : Int), Value.slice ca nc cc, Value.slice (some ⟨be, 0, none⟩) nc nc, Value.slice (some ⟨bw, 0, none⟩) N N, Value.slice (some ⟨bs, 0, none⟩) N N, Value.slice none 0 0, Value.slice (some ⟨bd, 0, none⟩) nw nw] 68) := Bz.new _ _ _
          have w5 : Below u4.heap.size u4 (u4.alloc (Obj.cells #[Value.int .i64 (S : Int), Value.slice ca nc cc, Value.slice (some ⟨be, 0, none⟩) nc nc, Value.slice (some ⟨bw, 0, none⟩) N N, Value.slice (some ⟨bs, 0, none⟩) N N, Value.slice none 0 0, Value.slice (some ⟨bd, 0, none⟩) nw nw] 68)) := (Below.refl _ _).alloc (Nat.le_refl _) _
          have bbs_5 : Hid (Bz (u4.alloc (Obj.cells #[Value.int .i64 (S : Int), Value.slice ca nc cc, Value.slice (some ⟨be, 0, none⟩) nc nc, Value.slice (some ⟨bw, 0, none⟩) N N, Value.slice (some ⟨bs, 0, none⟩) N N, Value.slice none 0 0, Value.slice (some ⟨bd, 0, none⟩) nw nw] 68)) bs A3 4) := Bz.later bbs_4.out w5
          have bbe_5 : Hid (Bz (u4.alloc (Obj.cells #[Value.int .i64 (S : Int), Value.slice ca nc cc, Value.slice (some ⟨be, 0, none⟩) nc nc, Value.slice (some ⟨bw, 0, none⟩) N N, Value.slice (some ⟨bs, 0, none⟩) N N, Value.slice none 0 0, Value.slice (some ⟨bd, 0, none⟩) nw nw] 68)) be A1 96) := Bz.later bbe_4.out w5
          have bbd_5 : Hid (Bz (u4.alloc (Obj.cells #[Value.int .i64 (S : Int), Value.slice ca nc cc, Value.slice (some ⟨be, 0, none⟩) nc nc, Value.slice (some ⟨bw, 0, none⟩) N N, Value.slice (some ⟨bs, 0, none⟩) N N, Value.slice none 0 0, Value.slice (some ⟨bd, 0, none⟩) nw nw] 68)) bd A4 108) := Bz.later bbd_4.out w5
          have bbw_5 : Hid (Bz (u4.alloc (Obj.cells #[Value.int .i64 (S : Int), Value.slice ca nc cc, Value.slice (some ⟨be, 0, none⟩) nc nc, Value.slice (some ⟨bw, 0, none⟩) N N, Value.slice (some ⟨bs, 0, none⟩) N N, Value.slice none 0 0, Value.slice (some ⟨bd, 0, none⟩) nw nw] 68)) bw A2 97) := Bz.later bbw_4.out w5
          have lbx : w0.heap.size ≤ u4.heap.size := hu4.out.size
          clear w5
          generalize hqbx : u4.heap.size = bx at *
          generalize u4.alloc (Obj.cells #[Value.int .i64 (S : Int), Value.slice ca nc cc, Value.slice (some ⟨be, 0, none⟩) nc nc, Value.slice (some ⟨bw, 0, none⟩) N N, Value.slice (some ⟨bs, 0, none⟩) N N, Value.slice none 0 0, Value.slice (some ⟨bd, 0, none⟩) nw nw] 68) = u5 at *
          clear hqbx
          try go_simp
          refine wpAnyX_both (T := fun uu => Below w0.heap.size w0 uu) (i := 18) (v := Value.pointer (some ⟨bx, 0, none⟩)) rfl (by kernel_rfl) (by kernel_rfl) (by kernel_rfl) (fun _ _ _ h => by first | exact h | exact h.elim) (by decide) (fun _ h => h.elim) (fun _ h => h) (Sx.behind (by kernel_rfl) hu5.out) (Or.inl ⟨by rfl, fun uu hu => by go_simp⟩) ?_
          try go_simp
          refine wpAnyX_done (by kernel_rfl) ?_ _
          exact (show RNw w w0 S N nc cc nw ca A1 A2 A3 A4 _ _ from ⟨be, bw, bs, bd, bx, ⟨lbe, lbw, lbs, lbd, lbx⟩, bbe_5.out, bbw_5.out, bbs_5.out, bbd_5.out, bbx_5.out, hu5.out, act_u (by kernel_rfl)⟩)
      · go_simp
        refine hK _ _ (Sx.behind (by kernel_rfl) (hu1.out.alloc hu1.out.size _)) ?_
        clear hK K
        have hu2 : Hid (Below w0.heap.size w0 (u1.alloc (Obj.cells A2 97))) := hu1.out.alloc hu1.out.size _
        have bbw_2 : Hid (Bz (u1.alloc (Obj.cells A2 97)) u1.heap.size A2 97) := Bz.new _ _ _
        have w2 : Below u1.heap.size u1 (u1.alloc (Obj.cells A2 97)) := (Below.refl _ _).alloc (Nat.le_refl _) _
        have bbs_2 : Hid (Bz (u1.alloc (Obj.cells A2 97)) bs A3 4) := Bz.later bbs_1.out w2
        have lbw : w0.heap.size ≤ u1.heap.size := hu1.out.size
        clear w2
        generalize hqbw : u1.heap.size = bw at *
        generalize u1.alloc (Obj.cells A2 97) = u2 at *
        clear hqbw
        try go_simp
        refine wpAnyX_ready (rs := [7, 15]) (by kernel_rfl) (by simp) (AllX.cons rfl (fun K hK => ?_) (AllX.cons rfl (fun K hK => ?_) AllX.nil))
        · go_simp
          refine hK _ _ (Sx.behind (by kernel_rfl) (hu2.out.alloc hu2.out.size _)) ?_
          clear hK K
          have hu3 : Hid (Below w0.heap.size w0 (u2.alloc (Obj.cells A1 96))) := hu2.out.alloc hu2.out.size _
          have bbe_3 : Hid (Bz (u2.alloc (Obj.cells A1 96)) u2.heap.size A1 96) := Bz.new _ _ _
          have w3 : Below u2.heap.size u2 (u2.alloc (Obj.cells A1 96)) := (Below.refl _ _).alloc (Nat.le_refl _) _
          have bbs_3 : Hid (Bz (u2.alloc (Obj.cells A1 96)) bs A3 4) := Bz.later bbs_2.out w3
          have bbw_3 : Hid (Bz (u2.alloc (Obj.cells A1 96)) bw A2 97) := Bz.later bbw_2.out w3
          have lbe : w0.heap.size ≤ u2.heap.size := hu2.out.size
          clear w3
          generalize hqbe : u2.heap.size = be at *
          generalize u2.alloc (Obj.cells A1 96) = u3 at *
          clear hqbe
          try go_simp
          refine wpAnyX_ready (rs := [15]) (by kernel_rfl) (by simp) (AllX.cons rfl (fun K hK => ?_) AllX.nil)
          go_simp
          refine Calls.mono (HNP.out u3) ?_
          rintro e u4 ⟨bd, hd9, rfl, hz9, hb9⟩
          have hu4 : Hid (Below w0.heap.size w0 u4) := hu3.out.trans (hb9.mono hu3.out.size)
          have bbs_4 : Hid (Bz u4 bs A3 4) := Bz.later bbs_3.out hb9
          have bbw_4 : Hid (Bz u4 bw A2 97) := Bz.later bbw_3.out hb9
          have bbe_4 : Hid (Bz u4 be A1 96) := Bz.later bbe_3.out hb9
          have bbd_4 := kide hz9
          have lbd : w0.heap.size ≤ bd := Nat.le_trans hu3.out.size hd9
          refine hK _ _ (Sx.behind (by kernel_rfl) hu4.out) ?_
          clear hK K hb9 hd9 hz9
          try go_simp
          refine wpAnyX_both (T := fun uu => Below w0.heap.size w0 uu) (i := 16) (v := Value.agg #[Value.int .i64 (S : Int), Value.slice ca nc cc, Value.slice (some ⟨be, 0, none⟩) nc nc, Value.slice (some ⟨bw, 0, none⟩) N N, Value.slice (some ⟨bs, 0, none⟩) N N, Value.slice none 0 0, Value.slice (some ⟨bd, 0, none⟩) nw nw]) rfl (by kernel_rfl) (by kernel_rfl) (by kernel_rfl) (fun _ _ _ h => by first | exact h | exact h.elim) (by decide) (fun _ h => h.elim) (fun _ h => h) (Sx.behind (by kernel_rfl) hu4.out) (Or.inl ⟨by rfl, fun uu hu => by go_simp⟩) ?_
          try go_simp
          refine wpAnyX_ready (rs := [17]) (by kernel_rfl) (by simp) (AllX.cons rfl (fun K hK => ?_) AllX.nil)
          go_simp
          refine hK _ _ (Sx.behind (by kernel_rfl) (hu4.out.alloc hu4.out.size _)) ?_
          clear hK K
          have hu5 : Hid (Below w0.heap.size w0 (u4.alloc (Obj.cells #[Value.int .i64 (S : Int), Value.slice ca nc cc, Value.slice (some ⟨be, 0, none⟩) nc nc, Value.slice (some ⟨bw, 0, none⟩) N N, Value.slice (some ⟨bs, 0, none⟩) N N, Value.slice none 0 0, Value.slice (some ⟨bd, 0, none⟩) nw nw] 68))) := hu4.out.alloc hu4.out.size _
          have bbx_5 : Hid (Bz (u4.alloc (Obj.cells #[Value.int .i64 (S : Int), Value.slice ca nc cc, Value.slice (some ⟨be, 0, none⟩) nc nc, Value.slice (some ⟨bw, 0, none⟩) N N, Value.slice (some ⟨bs, 0, none⟩) N N, Value.slice none 0 0, Value.slice (some ⟨bd, 0, none⟩) nw nw] 68)) u4.heap.size #[Value.int .i64 (S : Int), Value.slice ca nc cc, Value.slice (some ⟨be, 0, none⟩) nc nc, Value.slice (some ⟨bw, 0, none⟩) N N, Value.slice (some ⟨bs, 0, none⟩) N N, Value.slice none 0 0, Value.slice (some ⟨bd, 0, none⟩) nw nw] 68) := Bz.new _ _ _
          have w5 : Below u4.heap.size u4 (u4.alloc (Obj.cells #[Value.int .i64 (S : Int), Value.slice ca nc cc, Value.slice (some ⟨be, 0, none⟩) nc nc, Value.slice (some ⟨bw, 0, none⟩) N N, Value.slice (some ⟨bs, 0, none⟩) N N, Value.slice none 0 0, Value.slice (some ⟨bd, 0, none⟩) nw nw] 68)) := (Below.refl _ _).alloc (Nat.le_refl _) _
          have bbs_5 : Hid (Bz (u4.alloc (Obj.cells #[Value.int .i64 (S : Int), Value.slice ca nc cc, Value.slice (some ⟨be, 0, none⟩) nc nc, Value.slice (some ⟨bw, 0, none⟩) N N, Value.slice (some ⟨bs, 0, none⟩) N N, Value.slice none 0 0, Value.slice (some ⟨bd, 0, none⟩) nw nw] 68)) bs A3 4) := Bz.later bbs_4.out w5
          have bbw_5 : Hid (Bz (u4.alloc (Obj.cells #[Value.int .i64 (S : Int), Value.slice ca nc cc, Value.slice (some ⟨be, 0, none⟩) nc nc, Value.slice (some ⟨bw, 0, none⟩) N N, Value.slice (some ⟨bs, 0, none⟩) N N, Value.slice none 0 0, Value.slice (some ⟨bd, 0, none⟩) nw nw] 68)) bw A2 97) := Bz.later bbw_4.out w5
          have bbe_5 : Hid (Bz (u4.alloc (Obj.cells #[Value.int .i64 (S : Int), Value.slice ca nc cc, Value.slice (some ⟨be, 0, none⟩) nc nc, Value.slice (some ⟨bw, 0, none⟩) N N, Value.slice (some ⟨bs, 0, none⟩) N N, Value.slice none 0 0, Value.slice (some ⟨bd, 0, none⟩) nw nw] 68)) be A1 96) := Bz.later bbe_4.out w5
          have bbd_5 : Hid (Bz (u4.alloc (Obj.cells #[Value.int .i64 (S : Int), Value.slice ca nc cc, Value.slice (some ⟨be, 0, none⟩) nc nc, Value.slice (some ⟨bw, 0, none⟩) N N, Value.slice (some ⟨bs, 0, none⟩) N N, Value.slice none 0 0, Value.slice (some ⟨bd, 0, none⟩) nw nw] 68)) bd A4 108) := Bz.later bbd_4.out w5
          have lbx : w0.heap.size ≤ u4.heap.size := hu4.out.size
          clear w5
          generalize hqbx : u4.heap.size = bx at *
          generalize u4.alloc (Obj.cells #[Value.int .i64 (S : Int), Value.slice ca nc cc, Value.slice (some ⟨be, 0, none⟩) nc nc, Value.slice (some ⟨bw, 0, none⟩) N N, Value.slice (some ⟨bs, 0, none⟩) N N, Value.slice none 0 0, Value.slice (some ⟨bd, 0, none⟩) nw nw] 68) = u5 at *
          clear hqbx
          try go_simp
          refine wpAnyX_both (T := fun uu => Below w0.heap.size w0 uu) (i := 18) (v := Value.pointer (some ⟨bx, 0, none⟩)) rfl (by kernel_rfl) (by kernel_rfl) (by kernel_rfl) (fun _ _ _ h => by first | exact h | exact h.elim) (by decide) (fun _ h => h.elim) (fun _ h => h) (Sx.behind (by kernel_rfl) hu5.out) (Or.inl ⟨by rfl, fun uu hu => by go_simp⟩) ?_
          try go_simp
          refine wpAnyX_done (by kernel_rfl) ?_ _
          exact (show RNw w w0 S N nc cc nw ca A1 A2 A3 A4 _ _ from ⟨be, bw, bs, bd, bx, ⟨lbe, lbw, lbs, lbd, lbx⟩, bbe_5.out, bbw_5.out, bbs_5.out, bbd_5.out, bbx_5.out, hu5.out, act_u (by kernel_rfl)⟩)
        · go_simp
          refine Calls.mono (HNP.out u2) ?_
          rintro e u3 ⟨bd, hd9, rfl, hz9, hb9⟩
          have hu3 : Hid (Below w0.heap.size w0 u3) := hu2.out.trans (hb9.mono hu2.out.size)
          have bbs_3 : Hid (Bz u3 bs A3 4) := Bz.later bbs_2.out hb9
          have bbw_3 : Hid (Bz u3 bw A2 97) := Bz.later bbw_2.out hb9
          have bbd_3 := kide hz9
          have lbd : w0.heap.size ≤ bd := Nat.le_trans hu2.out.size hd9
          refine hK _ _ (Sx.behind (by kernel_rfl) hu3.out) ?_
          clear hK K hb9 hd9 hz9
          try go_simp
          refine wpAnyX_ready (rs := [7]) (by kernel_rfl) (by simp) (AllX.cons rfl (fun K hK => ?_) AllX.nil)
          go_simp
          refine hK _ _ (Sx.behind (by kernel_rfl) (hu3.out.alloc hu3.out.size _)) ?_
          clear hK K
          have hu4 : Hid (Below w0.heap.size w0 (u3.alloc (Obj.cells A1 96))) := hu3.out.alloc hu3.out.size _
          have bbe_4 : Hid (Bz (u3.alloc (Obj.cells A1 96)) u3.heap.size A1 96) := Bz.new _ _ _
          have w4 : Below u3.heap.size u3 (u3.alloc (Obj.cells A1 96)) := (Below.refl _ _).alloc (Nat.le_refl _) _
          have bbs_4 : Hid (Bz (u3.alloc (Obj.cells A1 96)) bs A3 4) := Bz.later bbs_3.out w4
          have bbw_4 : Hid (Bz (u3.alloc (Obj.cells A1 96)) bw A2 97) := Bz.later bbw_3.out w4
          have bbd_4 : Hid (Bz (u3.alloc (Obj.cells A1 96)) bd A4 108) := Bz.later bbd_3.out w4
          have lbe : w0.heap.size ≤ u3.heap.size := hu3.out.size
          clear w4
          generalize hqbe : u3.heap.size = be at *
          generalize u3.alloc (Obj.cells A1 96) = u4 at *
          clear hqbe
          try go_simp
          refine wpAnyX_both (T := fun uu => Below w0.heap.size w0 uu) (i := 16) (v := Value.agg #[Value.int .i64 (S : Int), Value.slice ca nc cc, Value.slice (some ⟨be, 0, none⟩) nc nc, Value.slice (some ⟨bw, 0, none⟩) N N, Value.slice (some ⟨bs, 0, none⟩) N N, Value.slice none 0 0, Value.slice (some ⟨bd, 0, none⟩) nw nw]) rfl (by kernel_rfl) (by kernel_rfl) (by kernel_rfl) (fun _ _ _ h => by first | exact h | exact h.elim) (by decide) (fun _ h => h.elim) (fun _ h => h) (Sx.behind (by kernel_rfl) hu4.out) (Or.inl ⟨by rfl, fun uu hu => by go_simp⟩) ?_
          try go_simp
          refine wpAnyX_ready (rs := [17]) (by kernel_rfl) (by simp) (AllX.cons rfl (fun K hK => ?_) AllX.nil)
          go_simp
          refine hK _ _ (Sx.behind (by kernel_rfl) (hu4.out.alloc hu4.out.size _)) ?_
          clear hK K
          have hu5 : Hid (Below w0.heap.size w0 (u4.alloc (Obj.cells #[Value.int .i64 (S : Int), Value.slice ca nc cc, Value.slice (some ⟨be, 0, none⟩) nc nc, Value.slice (some ⟨bw, 0, none⟩) N N, Value.slice (some ⟨bs, 0, none⟩) N N, Value.slice none 0 0, Value.slice (some ⟨bd, 0, none⟩) nw nw] 68))) := hu4.out.alloc hu4.out.size _
          have bbx_5 : Hid (Bz (u4.alloc (Obj.cells #[Value.int .i64 (S : Int), Value.slice ca nc cc, Value.slice (some ⟨be, 0, none⟩) nc nc, Value.slice (some ⟨bw, 0, none⟩) N N, Value.slice (some ⟨bs, 0, none⟩) N N, Value.slice none 0 0, Value.slice (some ⟨bd, 0, none⟩) nw nw] 68)) u4.heap.size #[Value.int .i64 (S : Int), Value.slice ca nc cc, Value.slice (some ⟨be, 0, none⟩) nc nc, Value.slice (some ⟨bw, 0, none⟩) N N, Value.slice (some ⟨bs, 0, none⟩) N N, Value.slice none 0 0, Value.slice (some ⟨bd, 0, none⟩) nw nw] 68) := Bz.new _ _ _
          have w5 : Below u4.heap.size u4 (u4.alloc (Obj.cells #[Value.int .i64 (S : Int), Value.slice ca nc cc, Value.slice (some ⟨be, 0, none⟩) nc nc, Value.slice (some ⟨bw, 0, none⟩) N N, Value.slice (some ⟨bs, 0, none⟩) N N, Value.slice none 0 0, Value.slice (some ⟨bd, 0, none⟩) nw nw] 68)) := (Below.refl _ _).alloc (Nat.le_refl _) _
          have bbs_5 : Hid (Bz (u4.alloc (Obj.cells #[Value.int .i64 (S : Int), Value.slice ca nc cc, Value.slice (some ⟨be, 0, none⟩) nc nc, Value.slice (some ⟨bw, 0, none⟩) N N, Value.slice (some ⟨bs, 0, none⟩) N N, Value.slice none 0 0, Value.slice (some ⟨bd, 0, none⟩) nw nw] 68)) bs A3 4) := Bz.later bbs_4.out w5
          have bbw_5 : Hid (Bz (u4.alloc (Obj.cells #[Value.int .i64 (S : Int), Value.slice ca nc cc, Value.slice (some ⟨be, 0, none⟩) nc nc, Value.slice (some ⟨bw, 0, none⟩) N N, Value.slice (some ⟨bs, 0, none⟩) N N, Value.slice none 0 0, Value.slice (some ⟨bd, 0, none⟩) nw nw] 68)) bw A2 97) := Bz.later bbw_4.out w5
          have bbd_5 : Hid (Bz (u4.alloc (Obj.cells #[Value.int .i64 (S : Int), Value.slice ca nc cc, Value.slice (some ⟨be, 0, none⟩) nc nc, Value.slice (some ⟨bw, 0, none⟩) N N, Value.slice (some ⟨bs, 0, none⟩) N N, Value.slice none 0 0, Value.slice (some ⟨bd, 0, none⟩) nw nw] 68)) bd A4 108) := Bz.later bbd_4.out w5
          have bbe_5 : Hid (Bz (u4.alloc (Obj.cells #[Value.int .i64 (S : Int), Value.slice ca nc cc, Value.slice (some ⟨be, 0, none⟩) nc nc, Value.slice (some ⟨bw, 0, none⟩) N N, Value.slice (some ⟨bs, 0, none⟩) N N, Value.slice none 0 0, Value.slice (some ⟨bd, 0, none⟩) nw nw] 68)) be A1 96) := Bz.later bbe_4.out w5
          have lbx : w0.heap.size ≤ u4.heap.size := hu4.out.size
          clear w5
          generalize hqbx : u4.heap.size = bx at *
          generalize u4.alloc (Obj.cells #[Value.int .i64 (S : Int), Value.slice ca nc cc, Value.slice (some ⟨be, 0, none⟩) nc nc, Value.slice (some ⟨bw, 0, none⟩) N N, Value.slice (some ⟨bs, 0, none⟩) N N, Value.slice none 0 0, Value.slice (some ⟨bd, 0, none⟩) nw nw] 68) = u5 at *
          clear hqbx
          try go_simp
          refine wpAnyX_both (T := fun uu => Below w0.heap.size w0 uu) (i := 18) (v := Value.pointer (some ⟨bx, 0, none⟩)) rfl (by kernel_rfl) (by kernel_rfl) (by kernel_rfl) (fun _ _ _ h => by first | exact h | exact h.elim) (by decide) (fun _ h => h.elim) (fun _ h => h) (Sx.behind (by kernel_rfl) hu5.out) (Or.inl ⟨by rfl, fun uu hu => by go_simp⟩) ?_
          try go_simp
          refine wpAnyX_done (by kernel_rfl) ?_ _
          exact (show RNw w w0 S N nc cc nw ca A1 A2 A3 A4 _ _ from ⟨be, bw, bs, bd, bx, ⟨lbe, lbw, lbs, lbd, lbx⟩, bbe_5.out, bbw_5.out, bbs_5.out, bbd_5.out, bbx_5.out, hu5.out, act_u (by kernel_rfl)⟩)
      · go_simp
        refine Calls.mono (HNP.out u1) ?_
        rintro e u2 ⟨bd, hd9, rfl, hz9, hb9⟩
        have hu2 : Hid (Below w0.heap.size w0 u2) := hu1.out.trans (hb9.mono hu1.out.size)
        have bbs_2 : Hid (Bz u2 bs A3 4) := Bz.later bbs_1.out hb9
        have bbd_2 := kide hz9
        have lbd : w0.heap.size ≤ bd := Nat.le_trans hu1.out.size hd9
        refine hK _ _ (Sx.behind (by kernel_rfl) hu2.out) ?_
        clear hK K hb9 hd9 hz9
        try go_simp
        refine wpAnyX_ready (rs := [7, 9]) (by kernel_rfl) (by simp) (AllX.cons rfl (fun K hK => ?_) (AllX.cons rfl (fun K hK => ?_) AllX.nil))
        · go_simp
          refine hK _ _ (Sx.behind (by kernel_rfl) (hu2.out.alloc hu2.out.size _)) ?_
          clear hK K
          have hu3 : Hid (Below w0.heap.size w0 (u2.alloc (Obj.cells A1 96))) := hu2.out.alloc hu2.out.size _
          have bbe_3 : Hid (Bz (u2.alloc (Obj.cells A1 96)) u2.heap.size A1 96) := Bz.new _ _ _
          have w3 : Below u2.heap.size u2 (u2.alloc (Obj.cells A1 96)) := (Below.refl _ _).alloc (Nat.le_refl _) _
          have bbs_3 : Hid (Bz (u2.alloc (Obj.cells A1 96)) bs A3 4) := Bz.later bbs_2.out w3
          have bbd_3 : Hid (Bz (u2.alloc (Obj.cells A1 96)) bd A4 108) := Bz.later bbd_2.out w3
          have lbe : w0.heap.size ≤ u2.heap.size := hu2.out.size
          clear w3
          generalize hqbe : u2.heap.size = be at *
          generalize u2.alloc (Obj.cells A1 96) = u3 at *
          clear hqbe
          try go_simp
          refine wpAnyX_ready (rs := [9]) (by kernel_rfl) (by simp) (AllX.cons rfl (fun K hK => ?_) AllX.nil)
          go_simp
          refine hK _ _ (Sx.behind (by kernel_rfl) (hu3.out.alloc hu3.out.size _)) ?_
          clear hK K
          have hu4 : Hid (Below w0.heap.size w0 (u3.alloc (Obj.cells A2 97))) := hu3.out.alloc hu3.out.size _
          have bbw_4 : Hid (Bz (u3.alloc (Obj.cells A2 97)) u3.heap.size A2 97) := Bz.new _ _ _
          have w4 : Below u3.heap.size u3 (u3.alloc (Obj.cells A2 97)) := (Below.refl _ _).alloc (Nat.le_refl _) _
          have bbs_4 : Hid (Bz (u3.alloc (Obj.cells A2 97)) bs A3 4) := Bz.later bbs_3.out w4
          have bbd_4 : Hid (Bz (u3.alloc (Obj.cells A2 97)) bd A4 108) := Bz.later bbd_3.out w4
          have bbe_4 : Hid (Bz (u3.alloc (Obj.cells A2 97)) be A1 96) := Bz.later bbe_3.out w4
          have lbw : w0.heap.size ≤ u3.heap.size := hu3.out.size
          clear w4
          generalize hqbw : u3.heap.size = bw at *
          generalize u3.alloc (Obj.cells A2 97) = u4 at *
          clear hqbw
          try go_simp
          refine wpAnyX_both (T := fun uu => Below w0.heap.size w0 uu) (i := 16) (v := Value.agg #[Value.int .i64 (S : Int), Value.slice ca nc cc, Value.slice (some ⟨be, 0, none⟩) nc nc, Value.slice (some ⟨bw, 0, none⟩) N N, Value.slice (some ⟨bs, 0, none⟩) N N, Value.slice none 0 0, Value.slice (some ⟨bd, 0, none⟩) nw nw]) rfl (by kernel_rfl) (by kernel_rfl) (by kernel_rfl) (fun _ _ _ h => by first | exact h | exact h.elim) (by decide) (fun _ h => h.elim) (fun _ h => h) (Sx.behind (by kernel_rfl) hu4.out) (Or.inl ⟨by rfl, fun uu hu => by go_simp⟩) ?_
          try go_simp
          refine wpAnyX_ready (rs := [17]) (by kernel_rfl) (by simp) (AllX.cons rfl (fun K hK => ?_) AllX.nil)
          go_simp
          refine hK _ _ (Sx.behind (by kernel_rfl) (hu4.out.alloc hu4.out.size _)) ?_
          clear hK K
          have hu5 : Hid (Below w0.heap.size w0 (u4.alloc (Obj.cells #[Value.int .i64 (S : Int), Value.slice ca nc cc, Value.slice (some ⟨be, 0, none⟩) nc nc, Value.slice (some ⟨bw, 0, none⟩) N N, Value.slice (some ⟨bs, 0, none⟩) N N, Value.slice none 0 0, Value.slice (some ⟨bd, 0, none⟩) nw nw] 68))) := hu4.out.alloc hu4.out.size _
          have bbx_5 : Hid (Bz (u4.alloc (Obj.cells #[Value.int .i64 (S : Int), Value.slice ca nc cc, Value.slice (some ⟨be, 0, none⟩) nc nc, Value.slice (some ⟨bw, 0, none⟩) N N, Value.slice (some ⟨bs, 0, none⟩) N N, Value.slice none 0 0, Value.slice (some ⟨bd, 0, none⟩) nw nw] 68)) u4.heap.size #[Value.int .i64 (S : Int), Value.slice ca nc cc, Value.slice (some ⟨be, 0, none⟩) nc nc, Value.slice (some ⟨bw, 0, none⟩) N N, Value.slice (some ⟨bs, 0, none⟩) N N, Value.slice none 0 0, Value.slice (some ⟨bd, 0, none⟩) nw nw] 68) := Bz.new _ _ _
          have w5 : Below u4.heap.size u4 (u4.alloc (Obj.cells #[Value.int .i64 (S : Int), Value.slice ca nc cc, Value.slice (some ⟨be, 0, none⟩) nc nc, Value.slice (some ⟨bw, 0, none⟩) N N, Value.slice (some ⟨bs, 0, none⟩) N N, Value.slice none 0 0, Value.slice (some ⟨bd, 0, none⟩) nw nw] 68)) := (Below.refl _ _).alloc (Nat.le_refl _) _
          have bbs_5 : Hid (Bz (u4.alloc (Obj.cells #[Value.int .i64 (S : Int), Value.slice ca nc cc, Value.slice (some ⟨be, 0, none⟩) nc nc, Value.slice (some ⟨bw, 0, none⟩) N N, Value.slice (some ⟨bs, 0, none⟩) N N, Value.slice none 0 0, Value.slice (some ⟨bd, 0, none⟩) nw nw] 68)) bs A3 4) := Bz.later bbs_4.out w5
          have bbd_5 : Hid (Bz (u4.alloc (Obj.cells #[Value.int .i64 (S : Int), Value.slice ca nc cc, Value.slice (some ⟨be, 0, none⟩) nc nc, Value.slice (some ⟨bw, 0, none⟩) N N, Value.slice (some ⟨bs, 0, none⟩) N N, Value.slice none 0 0, Value.slice (some ⟨bd, 0, none⟩) nw nw] 68)) bd A4 108) := Bz.later bbd_4.out w5
          have bbe_5 : Hid (Bz (u4.alloc (Obj.cells #[Value.int .i64 (S : Int), Value.slice ca nc cc, Value.slice (some ⟨be, 0, none⟩) nc nc, Value.slice (some ⟨bw, 0, none⟩) N N, Value.slice (some ⟨bs, 0, none⟩) N N, Value.slice none 0 0, Value.slice (some ⟨bd, 0, none⟩) nw nw] 68)) be A1 96) := Bz.later bbe_4.out w5
          have bbw_5 : Hid (Bz (u4.alloc (Obj.cells #[Value.int .i64 (S : Int), Value.slice ca nc cc, Value.slice (some ⟨be, 0, none⟩) nc nc, Value.slice (some ⟨bw, 0, none⟩) N N, Value.slice (some ⟨bs, 0, none⟩) N N, Value.slice none 0 0, Value.slice (some ⟨bd, 0, none⟩) nw nw] 68)) bw A2 97) := Bz.later bbw_4.out w5
          have lbx : w0.heap.size ≤ u4.heap.size := hu4.out.size
          clear w5
          generalize hqbx : u4.heap.size = bx at *
          generalize u4.alloc (Obj.cells #[Value.int .i64 (S : Int), Value.slice ca nc cc, Value.slice (some ⟨be, 0, none⟩) nc nc, Value.slice (some ⟨bw, 0, none⟩) N N, Value.slice (some ⟨bs, 0, none⟩) N N, Value.slice none 0 0, Value.slice (some ⟨bd, 0, none⟩) nw nw] 68) = u5 at *
          clear hqbx
          try go_simp
          refine wpAnyX_both (T := fun uu => Below w0.heap.size w0 uu) (i := 18) (v := Value.pointer (some ⟨bx, 0, none⟩)) rfl (by kernel_rfl) (by kernel_rfl) (by kernel_rfl) (fun _ _ _ h => by first | exact h | exact h.elim) (by decide) (fun _ h => h.elim) (fun _ h => h) (Sx.behind (by kernel_rfl) hu5.out) (Or.inl ⟨by rfl, fun uu hu => by go_simp⟩) ?_
          try go_simp
          refine wpAnyX_done (by kernel_rfl) ?_ _
          exact (show RNw w w0 S N nc cc nw ca A1 A2 A3 A4 _ _ from ⟨be, bw, bs, bd, bx, ⟨lbe, lbw, lbs, lbd, lbx⟩, bbe_5.out, bbw_5.out, bbs_5.out, bbd_5.out, bbx_5.out, hu5.out, act_u (by kernel_rfl)⟩)
        · go_simp
          refine hK _ _ (Sx.behind (by kernel_rfl) (hu2.out.alloc hu2.out.size _)) ?_
          clear hK K
          have hu3 : Hid (Below w0.heap.size w0 (u2.alloc (Obj.cells A2 97))) := hu2.out.alloc hu2.out.size _
          have bbw_3 : Hid (Bz (u2.alloc (Obj.cells A2 97)) u2.heap.size A2 97) := Bz.new _ _ _
          have w3 : Below u2.heap.size u2 (u2.alloc (Obj.cells A2 97)) := (Below.refl _ _).alloc (Nat.le_refl _) _
          have bbs_3 : Hid (Bz (u2.alloc (Obj.cells A2 97)) bs A3 4) := Bz.later bbs_2.out w3
          have bbd_3 : Hid (Bz (u2.alloc (Obj.cells A2 97)) bd A4 108) := Bz.later bbd_2.out w3
          have lbw : w0.heap.size ≤ u2.heap.size := hu2.out.size
          clear w3
          generalize hqbw : u2.heap.size = bw at *
          generalize u2.alloc (Obj.cells A2 97) = u3 at *
          clear hqbw
          try go_simp
          refine wpAnyX_ready (rs := [7]) (by kernel_rfl) (by simp) (AllX.cons rfl (fun K hK => ?_) AllX.nil)
          go_simp
          refine hK _ _ (Sx.behind (by kernel_rfl) (hu3.out.alloc hu3.out.size _)) ?_
          clear hK K
          have hu4 : Hid (Below w0.heap.size w0 (u3.alloc (Obj.cells A1 96))) := hu3.out.alloc hu3.out.size _
          have bbe_4 : Hid (Bz (u3.alloc (Obj.cells A1 96)) u3.heap.size A1 96) := Bz.new _ _ _
          have w4 : Below u3.heap.size u3 (u3.alloc (Obj.cells A1 96)) := (Below.refl _ _).alloc (Nat.le_refl _) _
          have bbs_4 : Hid (Bz (u3.alloc (Obj.cells A1 96)) bs A3 4) := Bz.later bbs_3.out w4
          have bbd_4 : Hid (Bz (u3.alloc (Obj.cells A1 96)) bd A4 108) := Bz.later bbd_3.out w4
          have bbw_4 : Hid (Bz (u3.alloc (Obj.cells A1 96)) bw A2 97) := Bz.later bbw_3.out w4
          have lbe : w0.heap.size ≤ u3.heap.size := hu3.out.size
          clear w4
          generalize hqbe : u3.heap.size = be at *
          generalize u3.alloc (Obj.cells A1 96) = u4 at *
          clear hqbe
          try go_simp
          refine wpAnyX_both (T := fun uu => Below w0.heap.size w0 uu) (i := 16) (v := Value.agg #[Value.int .i64 (S : Int), Value.slice ca nc cc, Value.slice (some ⟨be, 0, none⟩) nc nc, Value.slice (some ⟨bw, 0, none⟩) N N, Value.slice (some ⟨bs, 0, none⟩) N N, Value.slice none 0 0, Value.slice (some ⟨bd, 0, none⟩) nw nw]) rfl (by kernel_rfl) (by kernel_rfl) (by kernel_rfl) (fun _ _ _ h => by first | exact h | exact h.elim) (by decide) (fun _ h => h.elim) (fun _ h => h) (Sx.behind (by kernel_rfl) hu4.out) (Or.inl ⟨by rfl, fun uu hu => by go_simp⟩) ?_
          try go_simp
          refine wpAnyX_ready (rs := [17]) (by kernel_rfl) (by simp) (AllX.cons rfl (fun K hK => ?_) AllX.nil)
          go_simp
          refine hK _ _ (Sx.behind (by kernel_rfl) (hu4.out.alloc hu4.out.size _)) ?_
          clear hK K
          have hu5 : Hid (Below w0.heap.size w0 (u4.alloc (Obj.cells #[Value.int .i64 (S : Int), Value.slice ca nc cc, Value.slice (some ⟨be, 0, none⟩) nc nc, Value.slice (some ⟨bw, 0, none⟩) N N, Value.slice (some ⟨bs, 0, none⟩) N N, Value.slice none 0 0, Value.slice (some ⟨bd, 0, none⟩) nw nw] 68))) := hu4.out.alloc hu4.out.size _
          have bbx_5 : Hid (Bz (u4.alloc (Obj.cells #[Value.int .i64 (S : Int), Value.slice ca nc cc, Value.slice (some ⟨be, 0, none⟩) nc nc, Value.slice (some ⟨bw, 0, none⟩) N N, Value.slice (some ⟨bs, 0, none⟩) N N, Value.slice none 0 0, Value.slice (some ⟨bd, 0, none⟩) nw nw] 68)) u4.heap.size #[Value.int .i64 (S : Int), Value.slice ca nc cc, Value.slice (some ⟨be, 0, none⟩) nc nc, Value.slice (some ⟨bw, 0, none⟩) N N, Value.slice (some ⟨bs, 0, none⟩) N N, Value.slice none 0 0, Value.slice (some ⟨bd, 0, none⟩) nw nw] 68) := Bz.new _ _ _
          have w5 : Below u4.heap.size u4 (u4.alloc (Obj.cells #[Value.int .i64 (S : Int), Value.slice ca nc cc, Value.slice (some ⟨be, 0, none⟩) nc nc, Value.slice (some ⟨bw, 0, none⟩) N N, Value.slice (some ⟨bs, 0, none⟩) N N, Value.slice none 0 0, Value.slice (some ⟨bd, 0, none⟩) nw nw] 68)) := (Below.refl _ _).alloc (Nat.le_refl _) _
          have bbs_5 : Hid (Bz (u4.alloc (Obj.cells #[Value.int .i64 (S : Int), Value.slice ca nc cc, Value.slice (some ⟨be, 0, none⟩) nc nc, Value.slice (some ⟨bw, 0, none⟩) N N, Value.slice (some ⟨bs, 0, none⟩) N N, Value.slice none 0 0, Value.slice (some ⟨bd, 0, none⟩) nw nw] 68)) bs A3 4) := Bz.later bbs_4.out w5
          have bbd_5 : Hid (Bz (u4.alloc (Obj.cells #[Value.int .i64 (S : Int), Value.slice ca nc cc, Value.slice (some ⟨be, 0, none⟩) nc nc, Value.slice (some ⟨bw, 0, none⟩) N N, Value.slice (some ⟨bs, 0, none⟩) N N, Value.slice none 0 0, Value.slice (some ⟨bd, 0, none⟩) nw nw] 68)) bd A4 108) := Bz.later bbd_4.out w5
          have bbw_5 : Hid (Bz (u4.alloc (Obj.cells #[Value.int .i64 (S : Int), Value.slice ca nc cc, Value.slice (some ⟨be, 0, none⟩) nc nc, Value.slice (some ⟨bw, 0, none⟩) N N, Value.slice (some ⟨bs, 0, none⟩) N N, Value.slice none 0 0, Value.slice (some ⟨bd, 0, none⟩) nw nw] 68)) bw A2 97) := Bz.later bbw_4.out w5
          have bbe_5 : Hid (Bz (u4.alloc (Obj.cells #[Value.int .i64 (S : Int), Value.slice ca nc cc, Value.slice (some ⟨be, 0, none⟩) nc nc, Value.slice (some ⟨bw, 0, none⟩) N N, Value.slice (some ⟨bs, 0, none⟩) N N, Value.slice none 0 0, Value.slice (some ⟨bd, 0, none⟩) nw nw] 68)) be A1 96) := Bz.later bbe_4.out w5
          have lbx : w0.heap.size ≤ u4.heap.size := hu4.out.size
          clear w5
          generalize hqbx : u4.heap.size = bx at *
          generalize u4.alloc (Obj.cells #[Value.int .i64 (S : Int), Value.slice ca nc cc, Value.slice (some ⟨be, 0, none⟩) nc nc, Value.slice (some ⟨bw, 0, none⟩) N N, Value.slice (some ⟨bs, 0, none⟩) N N, Value.slice none 0 0, Value.slice (some ⟨bd, 0, none⟩) nw nw] 68) = u5 at *
          clear hqbx
          try go_simp
          refine wpAnyX_both (T := fun uu => Below w0.heap.size w0 uu) (i := 18) (v := Value.pointer (some ⟨bx, 0, none⟩)) rfl (by kernel_rfl) (by kernel_rfl) (by kernel_rfl) (fun _ _ _ h => by first | exact h | exact h.elim) (by decide) (fun _ h => h.elim) (fun _ h => h) (Sx.behind (by kernel_rfl) hu5.out) (Or.inl ⟨by rfl, fun uu hu => by go_simp⟩) ?_
          try go_simp
          refine wpAnyX_done (by kernel_rfl) ?_ _
          exact (show RNw w w0 S N nc cc nw ca A1 A2 A3 A4 _ _ from ⟨be, bw, bs, bd, bx, ⟨lbe, lbw, lbs, lbd, lbx⟩, bbe_5.out, bbw_5.out, bbs_5.out, bbd_5.out, bbx_5.out, hu5.out, act_u (by kernel_rfl)⟩)
    · go_simp
      refine Calls.mono (HNP.out u0) ?_
      rintro e u1 ⟨bd, hd9, rfl, hz9, hb9⟩
      have hu1 : Hid (Below w0.heap.size w0 u1) := hu0.out.trans (hb9.mono hu0.out.size)
      have bbd_1 := kide hz9
      have lbd : w0.heap.size ≤ bd := Nat.le_trans hu0.out.size hd9
      refine hK _ _ (Sx.behind (by kernel_rfl) hu1.out) ?_
      clear hK K hb9 hd9 hz9
      try go_simp
      refine wpAnyX_ready (rs := [7, 9, 11]) (by kernel_rfl) (by simp) (AllX.cons rfl (fun K hK => ?_) (AllX.cons rfl (fun K hK => ?_) (AllX.cons rfl (fun K hK => ?_) AllX.nil)))
      · go_simp
        refine hK _ _ (Sx.behind (by kernel_rfl) (hu1.out.alloc hu1.out.size _)) ?_
        clear hK K
        have hu2 : Hid (Below w0.heap.size w0 (u1.alloc (Obj.cells A1 96))) := hu1.out.alloc hu1.out.size _
        have bbe_2 : Hid (Bz (u1.alloc (Obj.cells A1 96)) u1.heap.size A1 96) := Bz.new _ _ _
        have w2 : Below u1.heap.size u1 (u1.alloc (Obj.cells A1 96)) := (Below.refl _ _).alloc (Nat.le_refl _) _
        have bbd_2 : Hid (Bz (u1.alloc (Obj.cells A1 96)) bd A4 108) := Bz.later bbd_1.out w2
        have lbe : w0.heap.size ≤ u1.heap.size := hu1.out.size
        clear w2
        generalize hqbe : u1.heap.size = be at *
        generalize u1.alloc (Obj.cells A1 96) = u2 at *
        clear hqbe
        try go_simp
        refine wpAnyX_ready (rs := [9, 11]) (by kernel_rfl) (by simp) (AllX.cons rfl (fun K hK => ?_) (AllX.cons rfl (fun K hK => ?_) AllX.nil))
        · go_simp
          refine hK _ _ (Sx.behind (by kernel_rfl) (hu2.out.alloc hu2.out.size _)) ?_
          clear hK K
          have hu3 : Hid (Below w0.heap.size w0 (u2.alloc (Obj.cells A2 97))) := hu2.out.alloc hu2.out.size _
          have bbw_3 : Hid (Bz (u2.alloc (Obj.cells A2 97)) u2.heap.size A2 97) := Bz.new _ _ _
          have w3 : Below u2.heap.size u2 (u2.alloc (Obj.cells A2 97)) := (Below.refl _ _).alloc (Nat.le_refl _) _
          have bbd_3 : Hid (Bz (u2.alloc (Obj.cells A2 97)) bd A4 108) := Bz.later bbd_2.out w3
          have bbe_3 : Hid (Bz (u2.alloc (Obj.cells A2 97)) be A1 96) := Bz.later bbe_2.out w3
          have lbw : w0.heap.size ≤ u2.heap.size := hu2.out.size
          clear w3
          generalize hqbw : u2.heap.size = bw at *
          generalize u2.alloc (Obj.cells A2 97) = u3 at *
          clear hqbw
          try go_simp
          refine wpAnyX_ready (rs := [11]) (by kernel_rfl) (by simp) (AllX.cons rfl (fun K hK => ?_) AllX.nil)
          go_simp
          refine hK _ _ (Sx.behind (by kernel_rfl) (hu3.out.alloc hu3.out.size _)) ?_
          clear hK K
          have hu4 : Hid (Below w0.heap.size w0 (u3.alloc (Obj.cells A3 4))) := hu3.out.alloc hu3.out.size _
          have bbs_4 : Hid (Bz (u3.alloc (Obj.cells A3 4)) u3.heap.size A3 4) := Bz.new _ _ _
          have w4 : Below u3.heap.size u3 (u3.alloc (Obj.cells A3 4)) := (Below.refl _ _).alloc (Nat.le_refl _) _
          have bbd_4 : Hid (Bz (u3.alloc (Obj.cells A3 4)) bd A4 108) := Bz.later bbd_3.out w4
          have bbe_4 : Hid (Bz (u3.alloc (Obj.cells A3 4)) be A1 96) := Bz.later bbe_3.out w4
          have bbw_4 : Hid (Bz (u3.alloc (Obj.cells A3 4)) bw A2 97) := Bz.later bbw_3.out w4
          have lbs : w0.heap.size ≤ u3.heap.size := hu3.out.size
          clear w4
          generalize hqbs : u3.heap.size = bs at *
          generalize u3.alloc (Obj.cells A3 4) = u4 at *
          clear hqbs
          try go_simp
          refine wpAnyX_both (T := fun uu => Below w0.heap.size w0 uu) (i := 16) (v := Value.agg #[Value.int .i64 (S : Int), Value.slice ca nc cc, Value.slice (some ⟨be, 0, none⟩) nc nc, Value.slice (some ⟨bw, 0, none⟩) N N, Value.slice (some ⟨bs, 0, none⟩) N N, Value.slice none 0 0, Value.slice (some ⟨bd, 0, none⟩) nw nw]) rfl (by kernel_rfl) (by kernel_rfl) (by kernel_rfl) (fun _ _ _ h => by first | exact h | exact h.elim) (by decide) (fun _ h => h.elim) (fun _ h => h) (Sx.behind (by kernel_rfl) hu4.out) (Or.inl ⟨by rfl, fun uu hu => by go_simp⟩) ?_
          try go_simp
          refine wpAnyX_ready (rs := [17]) (by kernel_rfl) (by simp) (AllX.cons rfl (fun K hK => ?_) AllX.nil)
          go_simp
          refine hK _ _ (Sx.behind (by kernel_rfl) (hu4.out.alloc hu4.out.size _)) ?_
          clear hK K
          have hu5 : Hid (Below w0.heap.size w0 (u4.alloc (Obj.cells #[Value.int .i64 (S : Int), Value.slice ca nc cc, Value.slice (some ⟨be, 0, none⟩) nc nc, Value.slice (some ⟨bw, 0, none⟩) N N, Value.slice (some ⟨bs, 0, none⟩) N N, Value.slice none 0 0, Value.slice (some ⟨bd, 0, none⟩) nw nw] 68))) := hu4.out.alloc hu4.out.size _
          have bbx_5 : Hid (Bz (u4.alloc (Obj.cells #[Value.int .i64 (S : Int), Value.slice ca nc cc, Value.slice (some ⟨be, 0, none⟩) nc nc, Value.slice (some ⟨bw, 0, none⟩) N N, Value.slice (some ⟨bs, 0, none⟩) N N, Value.slice none 0 0, Value.slice (some ⟨bd, 0, none⟩) nw nw] 68)) u4.heap.size #[Value.int .i64 (S : Int), Value.slice ca nc cc, Value.slice (some ⟨be, 0, none⟩) nc nc, Value.slice (some ⟨bw, 0, none⟩) N N, Value.slice (some ⟨bs, 0, none⟩) N N, Value.slice none 0 0, Value.slice (some ⟨bd, 0, none⟩) nw nw] 68) := Bz.new _ _ _
          have w5 : Below u4.heap.size u4 (u4.alloc (Obj.cells #[Value.int .i64 (S : Int), Value.slice ca nc cc, Value.slice (some ⟨be, 0, none⟩) nc nc, Value.slice (some ⟨bw, 0, none⟩) N N, Value.slice (some ⟨bs, 0, none⟩) N N, Value.slice none 0 0, Value.slice (some ⟨bd, 0, none⟩) nw nw] 68)) := (Below.refl _ _).alloc (Nat.le_refl _) _
          have bbd_5 : Hid (Bz (u4.alloc (Obj.cells #[Value.int .i64 (S : Int), Value.slice ca nc cc, Value.slice (some ⟨be, 0, none⟩) nc nc, Value.slice (some ⟨bw, 0, none⟩) N N, Value.slice (some ⟨bs, 0, none⟩) N N, Value.slice none 0 0, Value.slice (some ⟨bd, 0, none⟩) nw nw] 68)) bd A4 108) := Bz.later bbd_4.out w5
          have bbe_5 : Hid (Bz (u4.alloc (Obj.cells #[Value.int .i64 (S : Int), Value.slice ca nc cc, Value.slice (some ⟨be, 0, none⟩) nc nc, Value.slice (some ⟨bw, 0, none⟩) N N, Value.slice (some ⟨bs, 0, none⟩) N N, Value.slice none 0 0, Value.slice (some ⟨bd, 0, none⟩) nw nw] 68)) be A1 96) := Bz.later bbe_4.out w5
          have bbw_5 : Hid (Bz (u4.alloc (Obj.cells #[Value.int .i64 (S : Int), Value.slice ca nc cc, Value.slice (some ⟨be, 0, none⟩) nc nc, Value.slice (some ⟨bw, 0, none⟩) N N, Value.slice (some ⟨bs, 0, none⟩) N N, Value.slice none 0 0, Value.slice (some ⟨bd, 0, none⟩) nw nw] 68)) bw A2 97) := Bz.later bbw_4.out w5
          have bbs_5 : Hid (Bz (u4.alloc (Obj.cells #[Value.int .i64 (S : Int), Value.slice ca nc cc, Value.slice (some ⟨be, 0, none⟩) nc nc, Value.slice (some ⟨bw, 0, none⟩) N N, Value.slice (some ⟨bs, 0, none⟩) N N, Value.slice none 0 0, Value.slice (some ⟨bd, 0, none⟩) nw nw] 68)) bs A3 4) := Bz.later bbs_4.out w5
          have lbx : w0.heap.size ≤ u4.heap.size := hu4.out.size
          clear w5
          generalize hqbx : u4.heap.size = bx at *
          generalize u4.alloc (Obj.cells #[Value.int .i64 (S : Int), Value.slice ca nc cc, Value.slice (some ⟨be, 0, none⟩) nc nc, Value.slice (some ⟨bw, 0, none⟩) N N, Value.slice (some ⟨bs, 0, none⟩) N N, Value.slice none 0 0, Value.slice (some ⟨bd, 0, none⟩) nw nw] 68) = u5 at *
          clear hqbx
          try go_simp
          refine wpAnyX_both (T := fun uu => Below w0.heap.size w0 uu) (i := 18) (v := Value.pointer (some ⟨bx, 0, none⟩)) rfl (by kernel_rfl) (by kernel_rfl) (by kernel_rfl) (fun _ _ _ h => by first | exact h | exact h.elim) (by decide) (fun _ h => h.elim) (fun _ h => h) (Sx.behind (by kernel_rfl) hu5.out) (Or.inl ⟨by rfl, fun uu hu => by go_simp⟩) ?_
          try go_simp
          refine wpAnyX_done (by kernel_rfl) ?_ _
          exact (show RNw w w0 S N nc cc nw ca A1 A2 A3 A4 _ _ from ⟨be, bw, bs, bd, bx, ⟨lbe, lbw, lbs, lbd, lbx⟩, bbe_5.out, bbw_5.out, bbs_5.out, bbd_5.out, bbx_5.out, hu5.out, act_u (by kernel_rfl)⟩)
        · go_simp
          refine hK _ _ (Sx.behind (by kernel_rfl) (hu2.out.alloc hu2.out.size _)) ?_
          clear hK K
          have hu3 : Hid (Below w0.heap.size w0 (u2.alloc (Obj.cells A3 4))) := hu2.out.alloc hu2.out.size _
          have bbs_3 : Hid (Bz (u2.alloc (Obj.cells A3 4)) u2.heap.size A3 4) := Bz.new _ _ _
          have w3 : Below u2.heap.size u2 (u2.alloc (Obj.cells A3 4)) := (Below.refl _ _).alloc (Nat.le_refl _) _
          have bbd_3 : Hid (Bz (u2.alloc (Obj.cells A3 4)) bd A4 108) := Bz.later bbd_2.out w3
          have bbe_3 : Hid (Bz (u2.alloc (Obj.cells A3 4)) be A1 96) := Bz.later bbe_2.out w3
          have lbs : w0.heap.size ≤ u2.heap.size := hu2.out.size
          clear w3
          generalize hqbs : u2.heap.size = bs at *
          generalize u2.alloc (Obj.cells A3 4) = u3 at *
          clear hqbs
          try go_simp
          refine wpAnyX_ready (rs := [9]) (by kernel_rfl) (by simp) (AllX.cons rfl (fun K hK => ?_) AllX.nil)
          go_simp
          refine hK _ _ (Sx.behind (by kernel_rfl) (hu3.out.alloc hu3.out.size _)) ?_
          clear hK K
          have hu4 : Hid (Below w0.heap.size w0 (u3.alloc (Obj.cells A2 97))) := hu3.out.alloc hu3.out.size _
          have bbw_4 : Hid (Bz (u3.alloc (Obj.cells A2 97)) u3.heap.size A2 97) := Bz.new _ _ _
          have w4 : Below u3.heap.size u3 (u3.alloc (Obj.cells A2 97)) := (Below.refl _ _).alloc (Nat.le_refl _) _
          have bbd_4 : Hid (Bz (u3.alloc (Obj.cells A2 97)) bd A4 108) := Bz.later bbd_3.out w4
          have bbe_4 : Hid (Bz (u3.alloc (Obj.cells A2 97)) be A1 96) := Bz.later bbe_3.out w4
          have bbs_4 : Hid (Bz (u3.alloc (Obj.cells A2 97)) bs A3 4) := Bz.later bbs_3.out w4
          have lbw : w0.heap.size ≤ u3.heap.size := hu3.out.size
          clear w4
          generalize hqbw : u3.heap.size = bw at *
          generalize u3.alloc (Obj.cells A2 97) = u4 at *
          clear hqbw
          try go_simp
          refine wpAnyX_both (T := fun uu => Below w0.heap.size w0 uu) (i := 16) (v := Value.agg #[Value.int .i64 (S : Int), Value.slice ca nc cc, Value.slice (some ⟨be, 0, none⟩) nc nc, Value.slice (some ⟨bw, 0, none⟩) N N, Value.slice (some ⟨bs, 0, none⟩) N N, Value.slice none 0 0, Value.slice (some ⟨bd, 0, none⟩) nw nw]) rfl (by kernel_rfl) (by kernel_rfl) (by kernel_rfl) (fun _ _ _ h => by first | exact h | exact h.elim) (by decide) (fun _ h => h.elim) (fun _ h => h) (Sx.behind (by kernel_rfl) hu4.out) (Or.inl ⟨by rfl, fun uu hu => by go_simp⟩) ?_
          try go_simp
          refine wpAnyX_ready (rs := [17]) (by kernel_rfl) (by simp) (AllX.cons rfl (fun K hK => ?_) AllX.nil)
          go_simp
          refine hK _ _ (Sx.behind (by kernel_rfl) (hu4.out.alloc hu4.out.size _)) ?_
          clear hK K
          have hu5 : Hid (Below w0.heap.size w0 (u4.alloc (Obj.cells #[Value.int .i64 (S : Int), Value.slice ca nc cc, Value.slice (some ⟨be, 0, none⟩) nc nc, Value.slice (some ⟨bw, 0, none⟩) N N, Value.slice (some ⟨bs, 0, none⟩) N N, Value.slice none 0 0, Value.slice (some ⟨bd, 0, none⟩) nw nw] 68))) := hu4.out.alloc hu4.out.size _
          have bbx_5 : Hid (Bz (u4.alloc (Obj.cells #[Value.int .i64 (S : Int), Value.slice ca nc cc, Value.slice (some ⟨be, 0, none⟩) nc nc, Value.slice (some ⟨bw, 0, none⟩) N N, Value.slice (some ⟨bs, 0, none⟩) N N, Value.slice none 0 0, Value.slice (some ⟨bd, 0, none⟩) nw nw] 68)) u4.heap.size #[Value.int .i64 (S : Int), Value.slice ca nc cc, Value.slice (some ⟨be, 0, none⟩) nc nc, Value.slice (some ⟨bw, 0, none⟩) N N, Value.slice (some ⟨bs, 0, none⟩) N N, Value.slice none 0 0, Value.slice (some ⟨bd, 0, none⟩) nw nw] 68) := Bz.new _ _ _
          have w5 : Below u4.heap.size u4 (u4.alloc (Obj.cells #[Value.int .i64 (S : Int), Value.slice ca nc cc, Value.slice (some ⟨be, 0, none⟩) nc nc, Value.slice (some ⟨bw, 0, none⟩) N N, Value.slice (some ⟨bs, 0, none⟩) N N, Value.slice none 0 0, Value.slice (some ⟨bd, 0, none⟩) nw nw] 68)) := (Below.refl _ _).alloc (Nat.le_refl _) _
          have bbd_5 : Hid (Bz (u4.alloc (Obj.cells #[Value.int .i64 (S : Int), Value.slice ca nc cc, Value.slice (some ⟨be, 0, none⟩) nc nc, Value.slice (some ⟨bw, 0, none⟩) N N, Value.slice (some ⟨bs, 0, none⟩) N N, Value.slice none 0 0, Value.slice (some ⟨bd, 0, none⟩) nw nw] 68)) bd A4 108) := Bz.later bbd_4.out w5
          have bbe_5 : Hid (Bz (u4.alloc (Obj.cells #[Value.int .i64 (S : Int), Value.slice ca nc cc, Value.slice (some ⟨be, 0, none⟩) nc nc, Value.slice (some ⟨bw, 0, none⟩) N N, Value.slice (some ⟨bs, 0, none⟩) N N, Value.slice none 0 0, Value.slice (some ⟨bd, 0, none⟩) nw nw] 68)) be A1 96) := Bz.later bbe_4.out w5
          have bbs_5 : Hid (Bz (u4.alloc (Obj.cells #[Value.int .i64 (S : Int), Value.slice ca nc cc, Value.slice (some ⟨be, 0, none⟩) nc nc, Value.slice (some ⟨bw, 0, none⟩) N N, Value.slice (some ⟨bs, 0, none⟩) N N, Value.slice none 0 0, Value.slice (some ⟨bd, 0, none⟩) nw nw] 68)) bs A3 4) := Bz.later bbs_4.out w5
          have bbw_5 : Hid (Bz (u4.alloc (Obj.cells #[Value.int .i64 (S : Int), Value.slice ca nc cc, Value.slice (some ⟨be, 0, none⟩) nc nc, Value.slice (some ⟨bw, 0, none⟩) N N, Value.slice (some ⟨bs, 0, none⟩) N N, Value.slice none 0 0, Value.slice (some ⟨bd, 0, none⟩) nw nw] 68)) bw A2 97) := Bz.later bbw_4.out w5
          have lbx : w0.heap.size ≤ u4.heap.size := hu4.out.size
          clear w5
          generalize hqbx : u4.heap.size = bx at *
          generalize u4.alloc (Obj.cells #[Value.int .i64 (S : Int), Value.slice ca nc cc, Value.slice (some ⟨be, 0, none⟩) nc nc, Value.slice (some ⟨bw, 0, none⟩) N N, Value.slice (some ⟨bs, 0, none⟩) N N, Value.slice none 0 0, Value.slice (some ⟨bd, 0, none⟩) nw nw] 68) = u5 at *
          clear hqbx
          try go_simp
          refine wpAnyX_both (T := fun uu => Below w0.heap.size w0 uu) (i := 18) (v := Value.pointer (some ⟨bx, 0, none⟩)) rfl (by kernel_rfl) (by kernel_rfl) (by kernel_rfl) (fun _ _ _ h => by first | exact h | exact h.elim) (by decide) (fun _ h => h.elim) (fun _ h => h) (Sx.behind (by kernel_rfl) hu5.out) (Or.inl ⟨by rfl, fun uu hu => by go_simp⟩) ?_
          try go_simp
          refine wpAnyX_done (by kernel_rfl) ?_ _
          exact (show RNw w w0 S N nc cc nw ca A1 A2 A3 A4 _ _ from ⟨be, bw, bs, bd, bx, ⟨lbe, lbw, lbs, lbd, lbx⟩, bbe_5.out, bbw_5.out, bbs_5.out, bbd_5.out, bbx_5.out, hu5.out, act_u (by kernel_rfl)⟩)
      · go_simp
        refine hK _ _ (Sx.behind (by kernel_rfl) (hu1.out.alloc hu1.out.size _)) ?_
        clear hK K
        have hu2 : Hid (Below w0.heap.size w0 (u1.alloc (Obj.cells A2 97))) := hu1.out.alloc hu1.out.size _
        have bbw_2 : Hid (Bz (u1.alloc (Obj.cells A2 97)) u1.heap.size A2 97) := Bz.new _ _ _
        have w2 : Below u1.heap.size u1 (u1.alloc (Obj.cells A2 97)) := (Below.refl _ _).alloc (Nat.le_refl _) _
        have bbd_2 : Hid (Bz (u1.alloc (Obj.cells A2 97)) bd A4 108) := Bz.later bbd_1.out w2
        have lbw : w0.heap.size ≤ u1.heap.size := hu1.out.size
        clear w2
        generalize hqbw : u1.heap.size = bw at *
        generalize u1.alloc (Obj.cells A2 97) = u2 at *
        clear hqbw
        try go_simp
        refine wpAnyX_ready (rs := [7, 11]) (by kernel_rfl) (by simp) (AllX.cons rfl (fun K hK => ?_) (AllX.cons rfl (fun K hK => ?_) AllX.nil))
        · go_simp
          refine hK _ _ (Sx.behind (by kernel_rfl) (hu2.out.alloc hu2.out.size _)) ?_
          clear hK K
          have hu3 : Hid (Below w0.heap.size w0 (u2.alloc (Obj.cells A1 96))) := hu2.out.alloc hu2.out.size _
          have bbe_3 : Hid (Bz (u2.alloc (Obj.cells A1 96)) u2.heap.size A1 96) := Bz.new _ _ _
          have w3 : Below u2.heap.size u2 (u2.alloc (Obj.cells A1 96)) := (Below.refl _ _).alloc (Nat.le_refl _) _
          have bbd_3 : Hid (Bz (u2.alloc (Obj.cells A1 96)) bd A4 108) := Bz.later bbd_2.out w3
          have bbw_3 : Hid (Bz (u2.alloc (Obj.cells A1 96)) bw A2 97) := Bz.later bbw_2.out w3
          have lbe : w0.heap.size ≤ u2.heap.size := hu2.out.size
          clear w3
          generalize hqbe : u2.heap.size = be at *
          generalize u2.alloc (Obj.cells A1 96) = u3 at *
          clear hqbe
          try go_simp
          refine wpAnyX_ready (rs := [11]) (by kernel_rfl) (by simp) (AllX.cons rfl (fun K hK => ?_) AllX.nil)
          go_simp
          refine hK _ _ (Sx.behind (by kernel_rfl) (hu3.out.alloc hu3.out.size _)) ?_
          clear hK K
          have hu4 : Hid (Below w0.heap.size w0 (u3.alloc (Obj.cells A3 4))) := hu3.out.alloc hu3.out.size _
          have bbs_4 : Hid (Bz (u3.alloc (Obj.cells A3 4)) u3.heap.size A3 4) := Bz.new _ _ _
          have w4 : Below u3.heap.size u3 (u3.alloc (Obj.cells A3 4)) := (Below.refl _ _).alloc (Nat.le_refl _) _
          have bbd_4 : Hid (Bz (u3.alloc (Obj.cells A3 4)) bd A4 108) := Bz.later bbd_3.out w4
          have bbw_4 : Hid (Bz (u3.alloc (Obj.cells A3 4)) bw A2 97) := Bz.later bbw_3.out w4
          have bbe_4 : Hid (Bz (u3.alloc (Obj.cells A3 4)) be A1 96) := Bz.later bbe_3.out w4
          have lbs : w0.heap.size ≤ u3.heap.size := hu3.out.size
          clear w4
          generalize hqbs : u3.heap.size = bs at *
          generalize u3.alloc (Obj.cells A3 4) = u4 at *
          clear hqbs
          try go_simp
          refine wpAnyX_both (T := fun uu => Below w0.heap.size w0 uu) (i := 16) (v := Value.agg #[Value.int .i64 (S : Int), Value.slice ca nc cc, Value.slice (some ⟨be, 0, none⟩) nc nc, Value.slice (some ⟨bw, 0, none⟩) N N, Value.slice (some ⟨bs, 0, none⟩) N N, Value.slice none 0 0, Value.slice (some ⟨bd, 0, none⟩) nw nw]) rfl (by kernel_rfl) (by kernel_rfl) (by kernel_rfl) (fun _ _ _ h => by first | exact h | exact h.elim) (by decide) (fun _ h => h.elim) (fun _ h => h) (Sx.behind (by kernel_rfl) hu4.out) (Or.inl ⟨by rfl, fun uu hu => by go_simp⟩) ?_
          try go_simp
          refine wpAnyX_ready (rs := [17]) (by kernel_rfl) (by simp) (AllX.cons rfl (fun K hK => ?_) AllX.nil)
          go_simp
          refine hK _ _ (Sx.behind (by kernel_rfl) (hu4.out.alloc hu4.out.size _)) ?_
          clear hK K
          have hu5 : Hid (Below w0.heap.size w0 (u4.alloc (Obj.cells #[Value.int .i64 (S : Int), Value.slice ca nc cc, Value.slice (some ⟨be, 0, none⟩) nc nc, Value.slice (some ⟨bw, 0, none⟩) N N, Value.slice (some ⟨bs, 0, none⟩) N N, Value.slice none 0 0, Value.slice (some ⟨bd, 0, none⟩) nw nw] 68))) := hu4.out.alloc hu4.out.size _
          have bbx_5 : Hid (Bz (u4.alloc (Obj.cells #[Value.int .i64 (S : Int), Value.slice ca nc cc, Value.slice (some ⟨be, 0, none⟩) nc nc, Value.slice (some ⟨bw, 0, none⟩) N N, Value.slice (some ⟨bs, 0, none⟩) N N, Value.slice none 0 0, Value.slice (some ⟨bd, 0, none⟩) nw nw] 68)) u4.heap.size #[Value.int .i64 (S : Int), Value.slice ca nc cc, Value.slice (some ⟨be, 0, none⟩) nc nc, Value.slice (some ⟨bw, 0, none⟩) N N, Value.slice (some ⟨bs, 0, none⟩) N N, Value.slice none 0 0, Value.slice (some ⟨bd, 0, none⟩) nw nw] 68) := Bz.new _ _ _
          have w5 : Below u4.heap.size u4 (u4.alloc (Obj.cells #[Value.int .i64 (S : Int), Value.slice ca nc cc, Value.slice (some ⟨be, 0, none⟩) nc nc, Value.slice (some ⟨bw, 0, none⟩) N N, Value.slice (some ⟨bs, 0, none⟩) N N, Value.slice none 0 0, Value.slice (some ⟨bd, 0, none⟩) nw nw] 68)) := (Below.refl _ _).alloc (Nat.le_refl _) _
          have bbd_5 : Hid (Bz (u4.alloc (Obj.cells #[Value.int .i64 (S : Int), Value.slice ca nc cc, Value.slice (some ⟨be, 0, none⟩) nc nc, Value.slice (some ⟨bw, 0, none⟩) N N, Value.slice (some ⟨bs, 0, none⟩) N N, Value.slice none 0 0, Value.slice (some ⟨bd, 0, none⟩) nw nw] 68)) bd A4 108) := Bz.later bbd_4.out w5
          have bbw_5 : Hid (Bz (u4.alloc (Obj.cells #[Value.int .i64 (S : Int), Value.slice ca nc cc, Value.slice (some ⟨be, 0, none⟩) nc nc, Value.slice (some ⟨bw, 0, none⟩) N N, Value.slice (some ⟨bs, 0, none⟩) N N, Value.slice none 0 0, Value.slice (some ⟨bd, 0, none⟩) nw nw] 68)) bw A2 97) := Bz.later bbw_4.out w5
          have bbe_5 : Hid (Bz (u4.alloc (Obj.cells #[Value.int .i64 (S : Int), Value.slice ca nc cc, Value.slice (some ⟨be, 0, none⟩) nc nc, Value.slice (some ⟨bw, 0, none⟩) N N, Value.slice (some ⟨bs, 0, none⟩) N N, Value.slice none 0 0, Value.slice (some ⟨bd, 0, none⟩) nw nw] 68)) be A1 96) := Bz.later bbe_4.out w5
          have bbs_5 : Hid (Bz (u4.alloc (Obj.cells #[Value.int .i64 (S : Int), Value.slice ca nc cc, Value.slice (some ⟨be, 0, none⟩) nc nc, Value.slice (some ⟨bw, 0, none⟩) N N, Value.slice (some ⟨bs, 0, none⟩) N N, Value.slice none 0 0, Value.slice (some ⟨bd, 0, none⟩) nw nw] 68)) bs A3 4) := Bz.later bbs_4.out w5
          have lbx : w0.heap.size ≤ u4.heap.size := hu4.out.size
          clear w5
          generalize hqbx : u4.heap.size = bx at *
          generalize u4.alloc (Obj.cells #[Value.int .i64 (S : Int), Value.slice ca nc cc, Value.slice (some ⟨be, 0, none⟩) nc nc, Value.slice (some ⟨bw, 0, none⟩) N N, Value.slice (some ⟨bs, 0, none⟩) N N, Value.slice none 0 0, Value.slice (some ⟨bd, 0, none⟩) nw nw] 68) = u5 at *
          clear hqbx
          try go_simp
          refine wpAnyX_both (T := fun uu => Below w0.heap.size w0 uu) (i := 18) (v := Value.pointer (some ⟨bx, 0, none⟩)) rfl (by kernel_rfl) (by kernel_rfl) (by kernel_rfl) (fun _ _ _ h => by first | exact h | exact h.elim) (by decide) (fun _ h => h.elim) (fun _ h => h) (Sx.behind (by kernel_rfl) hu5.out) (Or.inl ⟨by rfl, fun uu hu => by go_simp⟩) ?_
          try go_simp
          refine wpAnyX_done (by kernel_rfl) ?_ _
          exact (show RNw w w0 S N nc cc nw ca A1 A2 A3 A4 _ _ from ⟨be, bw, bs, bd, bx, ⟨lbe, lbw, lbs, lbd, lbx⟩, bbe_5.out, bbw_5.out, bbs_5.out, bbd_5.out, bbx_5.out, hu5.out, act_u (by kernel_rfl)⟩)
        · go_simp
          refine hK _ _ (Sx.behind (by kernel_rfl) (hu2.out.alloc hu2.out.size _)) ?_
          clear hK K
          have hu3 : Hid (Below w0.heap.size w0 (u2.alloc (Obj.cells A3 4))) := hu2.out.alloc hu2.out.size _
          have bbs_3 : Hid (Bz (u2.alloc (Obj.cells A3 4)) u2.heap.size A3 4) := Bz.new _ _ _
          have w3 : Below u2.heap.size u2 (u2.alloc (Obj.cells A3 4)) := (Below.refl _ _).alloc (Nat.le_refl _) _
          have bbd_3 : Hid (Bz (u2.alloc (Obj.cells A3 4)) bd A4 108) := Bz.later bbd_2.out w3
          have bbw_3 : Hid (Bz (u2.alloc (Obj.cells A3 4)) bw A2 97) := Bz.later bbw_2.out w3
          have lbs : w0.heap.size ≤ u2.heap.size := hu2.out.size
          clear w3
          generalize hqbs : u2.heap.size = bs at *
          generalize u2.alloc (Obj.cells A3 4) = u3 at *
          clear hqbs
          try go_simp
          refine wpAnyX_ready (rs := [7]) (by kernel_rfl) (by simp) (AllX.cons rfl (fun K hK => ?_) AllX.nil)
          go_simp
          refine hK _ _ (Sx.behind (by kernel_rfl) (hu3.out.alloc hu3.out.size _)) ?_
          clear hK K
          have hu4 : Hid (Below w0.heap.size w0 (u3.alloc (Obj.cells A1 96))) := hu3.out.alloc hu3.out.size _
          have bbe_4 : Hid (Bz (u3.alloc (Obj.cells A1 96)) u3.heap.size A1 96) := Bz.new _ _ _
          have w4 : Below u3.heap.size u3 (u3.alloc (Obj.cells A1 96)) := (Below.refl _ _).alloc (Nat.le_refl _) _
          have bbd_4 : Hid (Bz (u3.alloc (Obj.cells A1 96)) bd A4 108) := Bz.later bbd_3.out w4
          have bbw_4 : Hid (Bz (u3.alloc (Obj.cells A1 96)) bw A2 97) := Bz.later bbw_3.out w4
          have bbs_4 : Hid (Bz (u3.alloc (Obj.cells A1 96)) bs A3 4) := Bz.later bbs_3.out w4
          have lbe : w0.heap.size ≤ u3.heap.size := hu3.out.size
          clear w4
          generalize hqbe : u3.heap.size = be at *
          generalize u3.alloc (Obj.cells A1 96) = u4 at *
          clear hqbe
          try go_simp
          refine wpAnyX_both (T := fun uu => Below w0.heap.size w0 uu) (i := 16) (v := Value.agg #[Value.int .i64 (S : Int), Value.slice ca nc cc, Value.slice (some ⟨be, 0, none⟩) nc nc, Value.slice (some ⟨bw, 0, none⟩) N N, Value.slice (some ⟨bs, 0, none⟩) N N, Value.slice none 0 0, Value.slice (some ⟨bd, 0, none⟩) nw nw]) rfl (by kernel_rfl) (by kernel_rfl) (by kernel_rfl) (fun _ _ _ h => by first | exact h | exact h.elim) (by decide) (fun _ h => h.elim) (fun _ h => h) (Sx.behind (by kernel_rfl) hu4.out) (Or.inl ⟨by rfl, fun uu hu => by go_simp⟩) ?_
          try go_simp
          refine wpAnyX_ready (rs := [17]) (by kernel_rfl) (by simp) (AllX.cons rfl (fun K hK => ?_) AllX.nil)
          go_simp
          refine hK _ _ (Sx.behind (by kernel_rfl) (hu4.out.alloc hu4.out.size _)) ?_
          clear hK K
          have hu5 : Hid (Below w0.heap.size w0 (u4.alloc (Obj.cells #[Value.int .i64 (S : Int), Value.slice ca nc cc, Value.slice (some ⟨be, 0, none⟩) nc nc, Value.slice (some ⟨bw, 0, none⟩) N N, Value.slice (some ⟨bs, 0, none⟩) N N, Value.slice none 0 0, Value.slice (some ⟨bd, 0, none⟩) nw nw] 68))) := hu4.out.alloc hu4.out.size _
          have bbx_5 : Hid (Bz (u4.alloc (Obj.cells #[Value.int .i64 (S : Int), Value.slice ca nc cc, Value.slice (some ⟨be, 0, none⟩) nc nc, Value.slice (some ⟨bw, 0, none⟩) N N, Value.slice (some ⟨bs, 0, none⟩) N N, Value.slice none 0 0, Value.slice (some ⟨bd, 0, none⟩) nw nw] 68)) u4.heap.size #[Value.int .i64 (S : Int), Value.slice ca nc cc, Value.slice (some ⟨be, 0, none⟩) nc nc, Value.slice (some ⟨bw, 0, none⟩) N N, Value.slice (some ⟨bs, 0, none⟩) N N, Value.slice none 0 0, Value.slice (some ⟨bd, 0, none⟩) nw nw] 68) := Bz.new _ _ _
          have w5 : Below u4.heap.size u4 (u4.alloc (Obj.cells #[Value.int .i64 (S : Int), Value.slice ca nc cc, Value.slice (some ⟨be, 0, none⟩) nc nc, Value.slice (some ⟨bw, 0, none⟩) N N, Value.slice (some ⟨bs, 0, none⟩) N N, Value.slice none 0 0, Value.slice (some ⟨bd, 0, none⟩) nw nw] 68)) := (Below.refl _ _).alloc (Nat.le_refl _) _
          have bbd_5 : Hid (Bz (u4.alloc (Obj.cells #[Value.int .i64 (S : Int), Value.slice ca nc cc, Value.slice (some ⟨be, 0, none⟩) nc nc, Value.slice (some ⟨bw, 0, none⟩) N N, Value.slice (some ⟨bs, 0, none⟩) N N, Value.slice none 0 0, Value.slice (some ⟨bd, 0, none⟩) nw nw] 68)) bd A4 108) := Bz.later bbd_4.out w5
          have bbw_5 : Hid (Bz (u4.alloc (Obj.cells #[Value.int .i64 (S : Int), Value.slice ca nc cc, Value.slice (some ⟨be, 0, none⟩) nc nc, Value.slice (some ⟨bw, 0, none⟩) N N, Value.slice (some ⟨bs, 0, none⟩) N N, Value.slice none 0 0, Value.slice (some ⟨bd, 0, none⟩) nw nw] 68)) bw A2 97) := Bz.later bbw_4.out w5
          have bbs_5 : Hid (Bz (u4.alloc (Obj.cells #[Value.int .i64 (S : Int), Value.slice ca nc cc, Value.slice (some ⟨be, 0, none⟩) nc nc, Value.slice (some ⟨bw, 0, none⟩) N N, Value.slice (some ⟨bs, 0, none⟩) N N, Value.slice none 0 0, Value.slice (some ⟨bd, 0, none⟩) nw nw] 68)) bs A3 4) := Bz.later bbs_4.out w5
          have bbe_5 : Hid (Bz (u4.alloc (Obj.cells #[Value.int .i64 (S : Int), Value.slice ca nc cc, Value.slice (some ⟨be, 0, none⟩) nc nc, Value.slice (some ⟨bw, 0, none⟩) N N, Value.slice (some ⟨bs, 0, none⟩) N N, Value.slice none 0 0, Value.slice (some ⟨bd, 0, none⟩) nw nw] 68)) be A1 96) := Bz.later bbe_4.out w5
          have lbx : w0.heap.size ≤ u4.heap.size := hu4.out.size
          clear w5
          generalize hqbx : u4.heap.size = bx at *
          generalize u4.alloc (Obj.cells #[Value.int .i64 (S : Int), Value.slice ca nc cc, Value.slice (some ⟨be, 0, none⟩) nc nc, Value.slice (some ⟨bw, 0, none⟩) N N, Value.slice (some ⟨bs, 0, none⟩) N N, Value.slice none 0 0, Value.slice (some ⟨bd, 0, none⟩) nw nw] 68) = u5 at *
          clear hqbx
          try go_simp
          refine wpAnyX_both (T := fun uu => Below w0.heap.size w0 uu) (i := 18) (v := Value.pointer (some ⟨bx, 0, none⟩)) rfl (by kernel_rfl) (by kernel_rfl) (by kernel_rfl) (fun _ _ _ h => by first | exact h | exact h.elim) (by decide) (fun _ h => h.elim) (fun _ h => h) (Sx.behind (by kernel_rfl) hu5.out) (Or.inl ⟨by rfl, fun uu hu => by go_simp⟩) ?_
          try go_simp
          refine wpAnyX_done (by kernel_rfl) ?_ _
          exact (show RNw w w0 S N nc cc nw ca A1 A2 A3 A4 _ _ from ⟨be, bw, bs, bd, bx, ⟨lbe, lbw, lbs, lbd, lbx⟩, bbe_5.out, bbw_5.out, bbs_5.out, bbd_5.out, bbx_5.out, hu5.out, act_u (by kernel_rfl)⟩)
      · go_simp
        refine hK _ _ (Sx.behind (by kernel_rfl) (hu1.out.alloc hu1.out.size _)) ?_
        clear hK K
        have hu2 : Hid (Below w0.heap.size w0 (u1.alloc (Obj.cells A3 4))) := hu1.out.alloc hu1.out.size _
        have bbs_2 : Hid (Bz (u1.alloc (Obj.cells A3 4)) u1.heap.size A3 4) := Bz.new _ _ _
        have w2 : Below u1.heap.size u1 (u1.alloc (Obj.cells A3 4)) := (Below.refl _ _).alloc (Nat.le_refl _) _
        have bbd_2 : Hid (Bz (u1.alloc (Obj.cells A3 4)) bd A4 108) := Bz.later bbd_1.out w2
        have lbs : w0.heap.size ≤ u1.heap.size := hu1.out.size
        clear w2
        generalize hqbs : u1.heap.size = bs at *
        generalize u1.alloc (Obj.cells A3 4) = u2 at *
        clear hqbs
        try go_simp
        refine wpAnyX_ready (rs := [7, 9]) (by kernel_rfl) (by simp) (AllX.cons rfl (fun K hK => ?_) (AllX.cons rfl (fun K hK => ?_) AllX.nil))
        · go_simp
          refine hK _ _ (Sx.behind (by kernel_rfl) (hu2.out.alloc hu2.out.size _)) ?_
          clear hK K
          have hu3 : Hid (Below w0.heap.size w0 (u2.alloc (Obj.cells A1 96))) := hu2.out.alloc hu2.out.size _
          have bbe_3 : Hid (Bz (u2.alloc (Obj.cells A1 96)) u2.heap.size A1 96) := Bz.new _ _ _
          have w3 : Below u2.heap.size u2 (u2.alloc (Obj.cells A1 96)) := (Below.refl _ _).alloc (Nat.le_refl _) _
          have bbd_3 : Hid (Bz (u2.alloc (Obj.cells A1 96)) bd A4 108) := Bz.later bbd_2.out w3
          have bbs_3 : Hid (Bz (u2.alloc (Obj.cells A1 96)) bs A3 4) := Bz.later bbs_2.out w3
          have lbe : w0.heap.size ≤ u2.heap.size := hu2.out.size
          clear w3
          generalize hqbe : u2.heap.size = be at *
          generalize u2.alloc (Obj.cells A1 96) = u3 at *
          clear hqbe
          try go_simp
          refine wpAnyX_ready (rs := [9]) (by kernel_rfl) (by simp) (AllX.cons rfl (fun K hK => ?_) AllX.nil)
          go_simp
          refine hK _ _ (Sx.behind (by kernel_rfl) (hu3.out.alloc hu3.out.size _)) ?_
          clear hK K
          have hu4 : Hid (Below w0.heap.size w0 (u3.alloc (Obj.cells A2 97))) := hu3.out.alloc hu3.out.size _
          have bbw_4 : Hid (Bz (u3.alloc (Obj.cells A2 97)) u3.heap.size A2 97) := Bz.new _ _ _
          have w4 : Below u3.heap.size u3 (u3.alloc (Obj.cells A2 97)) := (Below.refl _ _).alloc (Nat.le_refl _) _
          have bbd_4 : Hid (Bz (u3.alloc (Obj.cells A2 97)) bd A4 108) := Bz.later bbd_3.out w4
          have bbs_4 : Hid (Bz (u3.alloc (Obj.cells A2 97)) bs A3 4) := Bz.later bbs_3.out w4
          have bbe_4 : Hid (Bz (u3.alloc (Obj.cells A2 97)) be A1 96) := Bz.later bbe_3.out w4
          have lbw : w0.heap.size ≤ u3.heap.size := hu3.out.size
          clear w4
          generalize hqbw : u3.heap.size = bw at *
          generalize u3.alloc (Obj.cells A2 97) = u4 at *
          clear hqbw
          try go_simp
          refine wpAnyX_both (T := fun uu => Below w0.heap.size w0 uu) (i := 16) (v := Value.agg #[Value.int .i64 (S : Int), Value.slice ca nc cc, Value.slice (some ⟨be, 0, none⟩) nc nc, Value.slice (some ⟨bw, 0, none⟩) N N, Value.slice (some ⟨bs, 0, none⟩) N N, Value.slice none 0 0, Value.slice (some ⟨bd, 0, none⟩) nw nw]) rfl (by kernel_rfl) (by kernel_rfl) (by kernel_rfl) (fun _ _ _ h => by first | exact h | exact h.elim) (by decide) (fun _ h => h.elim) (fun _ h => h) (Sx.behind (by kernel_rfl) hu4.out) (Or.inl ⟨by rfl, fun uu hu => by go_simp⟩) ?_
          try go_simp
          refine wpAnyX_ready (rs := [17]) (by kernel_rfl) (by simp) (AllX.cons rfl (fun K hK => ?_) AllX.nil)
          go_simp
          refine hK _ _ (Sx.behind (by kernel_rfl) (hu4.out.alloc hu4.out.size _)) ?_
          clear hK K
          have hu5 : Hid (Below w0.heap.size w0 (u4.alloc (Obj.cells #[Value.int .i64 (S : Int), Value.slice ca nc cc, Value.slice (some ⟨be, 0, none⟩) nc nc, Value.slice (some ⟨bw, 0, none⟩) N N, Value.slice (some ⟨bs, 0, none⟩) N N, Value.slice none 0 0, Value.slice (some ⟨bd, 0, none⟩) nw nw] 68))) := hu4.out.alloc hu4.out.size _
          have bbx_5 : Hid (Bz (u4.alloc (Obj.cells #[Value.int .i64 (S : Int), Value.slice ca nc cc, Value.slice (some ⟨be, 0, none⟩) nc nc, Value.slice (some ⟨bw, 0, none⟩) N N, Value.slice (some ⟨bs, 0, none⟩) N N, Value.slice none 0 0, Value.slice (some ⟨bd, 0, none⟩) nw nw] 68)) u4.heap.size #[Value.int .i64 (S : Int), Value.slice ca nc cc, Value.slice (some ⟨be, 0, none⟩) nc nc, Value.slice (some ⟨bw, 0, none⟩) N N, Value.slice (some ⟨bs, 0, none⟩) N N, Value.slice none 0 0, Value.slice (some ⟨bd, 0, none⟩) nw nw] 68) := Bz.new _ _ _
          have w5 : Below u4.heap.size u4 (u4.alloc (Obj.cells #[Value.int .i64 (S : Int), Value.slice ca nc cc, Value.slice (some ⟨be, 0, none⟩) nc nc, Value.slice (some ⟨bw, 0, none⟩) N N, Value.slice (some ⟨bs, 0, none⟩) N N, Value.slice none 0 0, Value.slice (some ⟨bd, 0, none⟩) nw nw] 68)) := (Below.refl _ _).alloc (Nat.le_refl _) _
          have bbd_5 : Hid (Bz (u4.alloc (Obj.cells #[Value.int .i64 (S : Int), Value.slice ca nc cc, Value.slice (some ⟨be, 0, none⟩) nc nc, Value.slice (some ⟨bw, 0, none⟩) N N, Value.slice (some ⟨bs, 0, none⟩) N N, Value.slice none 0 0, Value.slice (some ⟨bd, 0, none⟩) nw nw] 68)) bd A4 108) := Bz.later bbd_4.out w5
          have bbs_5 : Hid (Bz (u4.alloc (Obj.cells #[Value.int .i64 (S : Int), Value.slice ca nc cc, Value.slice (some ⟨be, 0, none⟩) nc nc, Value.slice (some ⟨bw, 0, none⟩) N N, Value.slice (some ⟨bs, 0, none⟩) N N, Value.slice none 0 0, Value.slice (some ⟨bd, 0, none⟩) nw nw] 68)) bs A3 4) := Bz.later bbs_4.out w5
          have bbe_5 : Hid (Bz (u4.alloc (Obj.cells #[Value.int .i64 (S : Int), Value.slice ca nc cc, Value.slice (some ⟨be, 0, none⟩) nc nc, Value.slice (some ⟨bw, 0, none⟩) N N, Value.slice (some ⟨bs, 0, none⟩) N N, Value.slice none 0 0, Value.slice (some ⟨bd, 0, none⟩) nw nw] 68)) be A1 96) := Bz.later bbe_4.out w5
          have bbw_5 : Hid (Bz (u4.alloc (Obj.cells #[Value.int .i64 (S : Int), Value.slice ca nc cc, Value.slice (some ⟨be, 0, none⟩) nc nc, Value.slice (some ⟨bw, 0, none⟩) N N, Value.slice (some ⟨bs, 0, none⟩) N N, Value.slice none 0 0, Value.slice (some ⟨bd, 0, none⟩) nw nw] 68)) bw A2 97) := Bz.later bbw_4.out w5
          have lbx : w0.heap.size ≤ u4.heap.size := hu4.out.size
          clear w5
          generalize hqbx : u4.heap.size = bx at *
          generalize u4.alloc (Obj.cells #[Value.int .i64 (S : Int), Value.slice ca nc cc, Value.slice (some ⟨be, 0, none⟩) nc nc, Value.slice (some ⟨bw, 0, none⟩) N N, Value.slice (some ⟨bs, 0, none⟩) N N, Value.slice none 0 0, Value.slice (some ⟨bd, 0, none⟩) nw nw] 68) = u5 at *
          clear hqbx
          try go_simp
          refine wpAnyX_both (T := fun uu => Below w0.heap.size w0 uu) (i := 18) (v := Value.pointer (some ⟨bx, 0, none⟩)) rfl (by kernel_rfl) (by kernel_rfl) (by kernel_rfl) (fun _ _ _ h => by first | exact h | exact h.elim) (by decide) (fun _ h => h.elim) (fun _ h => h) (Sx.behind (by kernel_rfl) hu5.out) (Or.inl ⟨by rfl, fun uu hu => by go_simp⟩) ?_
          try go_simp
          refine wpAnyX_done (by kernel_rfl) ?_ _
          exact (show RNw w w0 S N nc cc nw ca A1 A2 A3 A4 _ _ from ⟨be, bw, bs, bd, bx, ⟨lbe, lbw, lbs, lbd, lbx⟩, bbe_5.out, bbw_5.out, bbs_5.out, bbd_5.out, bbx_5.out, hu5.out, act_u (by kernel_rfl)⟩)
        · go_simp
          refine hK _ _ (Sx.behind (by kernel_rfl) (hu2.out.alloc hu2.out.size _)) ?_
          clear hK K
          have hu3 : Hid (Below w0.heap.size w0 (u2.alloc (Obj.cells A2 97))) := hu2.out.alloc hu2.out.size _
          have bbw_3 : Hid (Bz (u2.alloc (Obj.cells A2 97)) u2.heap.size A2 97) := Bz.new _ _ _
          have w3 : Below u2.heap.size u2 (u2.alloc (Obj.cells A2 97)) := (Below.refl _ _).alloc (Nat.le_refl _) _
          have bbd_3 : Hid (Bz (u2.alloc (Obj.cells A2 97)) bd A4 108) := Bz.later bbd_2.out w3
          have bbs_3 : Hid (Bz (u2.alloc (Obj.cells A2 97)) bs A3 4) := Bz.later bbs_2.out w3
          have lbw : w0.heap.size ≤ u2.heap.size := hu2.out.size
          clear w3
          generalize hqbw : u2.heap.size = bw at *
          generalize u2.alloc (Obj.cells A2 97) = u3 at *
          clear hqbw
          try go_simp
          refine wpAnyX_ready (rs := [7]) (by kernel_rfl) (by simp) (AllX.cons rfl (fun K hK => ?_) AllX.nil)
          go_simp
          refine hK _ _ (Sx.behind (by kernel_rfl) (hu3.out.alloc hu3.out.size _)) ?_
          clear hK K
          have hu4 : Hid (Below w0.heap.size w0 (u3.alloc (Obj.cells A1 96))) := hu3.out.alloc hu3.out.size _
          have bbe_4 : Hid (Bz (u3.alloc (Obj.cells A1 96)) u3.heap.size A1 96) := Bz.new _ _ _
          have w4 : Below u3.heap.size u3 (u3.alloc (Obj.cells A1 96)) := (Below.refl _ _).alloc (Nat.le_refl _) _
          have bbd_4 : Hid (Bz (u3.alloc (Obj.cells A1 96)) bd A4 108) := Bz.later bbd_3.out w4
          have bbs_4 : Hid (Bz (u3.alloc (Obj.cells A1 96)) bs A3 4) := Bz.later bbs_3.out w4
          have bbw_4 : Hid (Bz (u3.alloc (Obj.cells A1 96)) bw A2 97) := Bz.later bbw_3.out w4
          have lbe : w0.heap.size ≤ u3.heap.size := hu3.out.size
          clear w4
          generalize hqbe : u3.heap.size = be at *
          generalize u3.alloc (Obj.cells A1 96) = u4 at *
          clear hqbe
          try go_simp
          refine wpAnyX_both (T := fun uu => Below w0.heap.size w0 uu) (i := 16) (v := Value.agg #[Value.int .i64 (S : Int), Value.slice ca nc cc, Value.slice (some ⟨be, 0, none⟩) nc nc, Value.slice (some ⟨bw, 0, none⟩) N N, Value.slice (some ⟨bs, 0, none⟩) N N, Value.slice none 0 0, Value.slice (some ⟨bd, 0, none⟩) nw nw]) rfl (by kernel_rfl) (by kernel_rfl) (by kernel_rfl) (fun _ _ _ h => by first | exact h | exact h.elim) (by decide) (fun _ h => h.elim) (fun _ h => h) (Sx.behind (by kernel_rfl) hu4.out) (Or.inl ⟨by rfl, fun uu hu => by go_simp⟩) ?_
          try go_simp
          refine wpAnyX_ready (rs := [17]) (by kernel_rfl) (by simp) (AllX.cons rfl (fun K hK => ?_) AllX.nil)
          go_simp
          refine hK _ _ (Sx.behind (by kernel_rfl) (hu4.out.alloc hu4.out.size _)) ?_
          clear hK K
          have hu5 : Hid (Below w0.heap.size w0 (u4.alloc (Obj.cells #[Value.int .i64 (S : Int), Value.slice ca nc cc, Value.slice (some ⟨be, 0, none⟩) nc nc, Value.slice (some ⟨bw, 0, none⟩) N N, Value.slice (some ⟨bs, 0, none⟩) N N, Value.slice none 0 0, Value.slice (some ⟨bd, 0, none⟩) nw nw] 68))) := hu4.out.alloc hu4.out.size _
          have bbx_5 : Hid (Bz (u4.alloc (Obj.cells #[Value.int .i64 (S : Int), Value.slice ca nc cc, Value.slice (some ⟨be, 0, none⟩) nc nc, Value.slice (some ⟨bw, 0, none⟩) N N, Value.slice (some ⟨bs, 0, none⟩) N N, Value.slice none 0 0, Value.slice (some ⟨bd, 0, none⟩) nw nw] 68)) u4.heap.size #[Value.int .i64 (S : Int), Value.slice ca nc cc, Value.slice (some ⟨be, 0, none⟩) nc nc, Value.slice (some ⟨bw, 0, none⟩) N N, Value.slice (some ⟨bs, 0, none⟩) N N, Value.slice none 0 0, Value.slice (some ⟨bd, 0, none⟩) nw nw] 68) := Bz.new _ _ _
          have w5 : Below u4.heap.size u4 (u4.alloc (Obj.cells #[Value.int .i64 (S : Int), Value.slice ca nc cc, Value.slice (some ⟨be, 0, none⟩) nc nc, Value.slice (some ⟨bw, 0, none⟩) N N, Value.slice (some ⟨bs, 0, none⟩) N N, Value.slice none 0 0, Value.slice (some ⟨bd, 0, none⟩) nw nw] 68)) := (Below.refl _ _).alloc (Nat.le_refl _) _
          have bbd_5 : Hid (Bz (u4.alloc (Obj.cells #[Value.int .i64 (S : Int), Value.slice ca nc cc, Value.slice (some ⟨be, 0, none⟩) nc nc, Value.slice (some ⟨bw, 0, none⟩) N N, Value.slice (some ⟨bs, 0, none⟩) N N, Value.slice none 0 0, Value.slice (some ⟨bd, 0, none⟩) nw nw] 68)) bd A4 108) := Bz.later bbd_4.out w5
          have bbs_5 : Hid (Bz (u4.alloc (Obj.cells #[Value.int .i64 (S : Int), Value.slice ca nc cc, Value.slice (some ⟨be, 0, none⟩) nc nc, Value.slice (some ⟨bw, 0, none⟩) N N, Value.slice (some ⟨bs, 0, none⟩) N N, Value.slice none 0 0, Value.slice (some ⟨bd, 0, none⟩) nw nw] 68)) bs A3 4) := Bz.later bbs_4.out w5
          have bbw_5 : Hid (Bz (u4.alloc (Obj.cells #[Value.int .i64 (S : Int), Value.slice ca nc cc, Value.slice (some ⟨be, 0, none⟩) nc nc, Value.slice (some ⟨bw, 0, none⟩) N N, Value.slice (some ⟨bs, 0, none⟩) N N, Value.slice none 0 0, Value.slice (some ⟨bd, 0, none⟩) nw nw] 68)) bw A2 97) := Bz.later bbw_4.out w5
          have bbe_5 : Hid (Bz (u4.alloc (Obj.cells #[Value.int .i64 (S : Int), Value.slice ca nc cc, Value.slice (some ⟨be, 0, none⟩) nc nc, Value.slice (some ⟨bw, 0, none⟩) N N, Value.slice (some ⟨bs, 0, none⟩) N N, Value.slice none 0 0, Value.slice (some ⟨bd, 0, none⟩) nw nw] 68)) be A1 96) := Bz.later bbe_4.out w5
          have lbx : w0.heap.size ≤ u4.heap.size := hu4.out.size
          clear w5
          generalize hqbx : u4.heap.size = bx at *
          generalize u4.alloc (Obj.cells #[Value.int .i64 (S : Int), Value.slice ca nc cc, Value.slice (some ⟨be, 0, none⟩) nc nc, Value.slice (some ⟨bw, 0, none⟩) N N, Value.slice (some ⟨bs, 0, none⟩) N N, Value.slice none 0 0, Value.slice (some ⟨bd, 0, none⟩) nw nw] 68) = u5 at *
          clear hqbx
          try go_simp
          refine wpAnyX_both (T := fun uu => Below w0.heap.size w0 uu) (i := 18) (v := Value.pointer (some ⟨bx, 0, none⟩)) rfl (by kernel_rfl) (by kernel_rfl) (by kernel_rfl) (fun _ _ _ h => by first | exact h | exact h.elim) (by decide) (fun _ h => h.elim) (fun _ h => h) (Sx.behind (by kernel_rfl) hu5.out) (Or.inl ⟨by rfl, fun uu hu => by go_simp⟩) ?_
          try go_simp
          refine wpAnyX_done (by kernel_rfl) ?_ _
          exact (show RNw w w0 S N nc cc nw ca A1 A2 A3 A4 _ _ from ⟨be, bw, bs, bd, bx, ⟨lbe, lbw, lbs, lbd, lbx⟩, bbe_5.out, bbw_5.out, bbs_5.out, bbd_5.out, bbx_5.out, hu5.out, act_u (by kernel_rfl)⟩)
  clear m1 m2 m3 HNP g0 g1
  rintro a2 u ⟨be, bw, bs, bd, bx, ⟨lbe, lbw, lbs, lbd, lbx⟩, z1, z2, z3, z4, z5, hbu, x, rfl⟩
  rw [← HA1.out] at z1
  rw [← HA2.out] at z2
  rw [← HA3.out] at z3
  rw [← HA4.out] at z4
  clear HA1 HA2 HA3 HA4
  have WM : Hid (Wm u w.heap.size ⟨[], bx, be, bw, bs, bd⟩ S N ca nc cc (.slice none 0 0) (List.replicate nc (0, 0)) (List.replicate N ((Value.slice none 0 0, []) : Value × List Nat)) [] (List.replicate nw 0)) := by
    refine ⟨?_, z1, z2, z3, z4, ⟨rfl, .inl ⟨rfl, rfl⟩⟩, ?_, ?_, ⟨by show _ ≤ bx; omega, by show _ ≤ be; omega, by show _ ≤ bw; omega, by show _ ≤ bs; omega, by show _ ≤ bd; omega⟩, List.length_replicate, List.length_replicate, ?_, HN.out.symm, ?_⟩
    · rw [List.length_replicate]; exact z5
    · intro k r hk
      rw [List.getElem?_replicate] at hk
      split at hk
      · cases hk; exact ⟨rfl, .inl ⟨rfl, rfl⟩⟩
      · cases hk
    · intro k k' r r' b hk _ hb _
      rw [List.getElem?_replicate] at hk
      split at hk
      · cases hk; cases hb
      · cases hk
    · intro i
      rw [List.getD_eq_getElem?_getD, List.getElem?_replicate]
      split <;> decide
    · intro y hy; cases hy
  have WN : Hid (Wn (xs.map Iw.ks) 0 0 (eyF (List.replicate nc (0, 0))) (wtF S (List.replicate N ((Value.slice none 0 0, []) : Value × List Nat))) (plB (List.replicate nw 0))) := by
    refine Wn.begin _ (fun n => ?_) (fun p => plB_none (fun j hj => ?_) p)
    · unfold wtF
      split
      · rw [List.getD_eq_getElem?_getD, List.getElem?_replicate]
        split <;> rfl
      · rfl
    · rw [List.getD_eq_getElem?_getD, List.getElem?_replicate]
      split <;> rfl
  have BU := kide (B0.out.trans (hbu.mono (Nat.le_of_lt l0)))
  have g1 : u.cell? ⟨w.heap.size, 1, none⟩ = some (Value.slice ca nc cc) := by rw [kcell hbu _ _ l0]; exact X0.out.cell 1
  clear z1 z2 z3 z4 z5 hbu
  obtain ⟨M, hM⟩ : ∃ M : Wb, (⟨[], bx, be, bw, bs, bd⟩ : Wb) = M := ⟨_, rfl⟩
  have hbx : bx = M.bx := by rw [← hM]
  have HME : Hid (M.ex = []) := by show M.ex = []; rw [← hM]
  rw [hM] at WM
  subst hbx
  clear hM lbe lbw lbs lbd lbx
  obtain ⟨eyl0, hey0⟩ : ∃ e, List.replicate nc ((0 : Nat), (0 : Nat)) = e := ⟨_, rfl⟩
  obtain ⟨rows0, hrw0⟩ : ∃ e, List.replicate N ((Value.slice none 0 0, []) : Value × List Nat) = e := ⟨_, rfl⟩
  obtain ⟨ws0, hws0⟩ : ∃ e, List.replicate nw (0 : Nat) = e := ⟨_, rfl⟩
  have WL0 : Hid (ws0.length = nw) := by show ws0.length = nw; rw [← hws0, List.length_replicate]
  rw [hey0, hrw0, hws0] at WM WN
  clear hey0 hrw0 hws0
  go_wp2_with fail
  go_loopw [34] (fun i wr => ∃ (t : Nat) (eyl : List (Nat × Nat)) (rows : List (Value × List Nat)) (ws : List Nat), t ≤ nc ∧ i = .int .i64 (t : Int) ∧ Wm wr w.heap.size M S N ca nc cc (.slice none 0 0) eyl rows [] ws ∧ Wn (xs.map Iw.ks) t 0 (eyF eyl) (wtF S rows) (plB ws) ∧ ws.length = nw ∧ Below w.heap.size w wr) (fun i _ => nc - (intOf i).toNat)
  case atStart => exact ⟨0, eyl0, rows0, ws0, Nat.zero_le _, rfl, WM.out, WN.out, WL0.out, BU.out⟩
  case round =>
    obtain ⟨t, eyl, rows, ws, ht, rfl, hwm, hwn, hwl, hbr⟩ := hrel
    have WR := kide hwm
    have WNR := kide hwn
    have WL := kide hwl
    have BR := kide hbr
    clear WM WN BU WL0 g1 X0 hwm hwn hwl hbr
    by_cases hlt : t < nc
    · obtain ⟨x, hx⟩ : ∃ x, xs[t]? = some x := ⟨_, List.getElem?_eq_getElem (show t < xs.length by rw [hnc]; exact hlt)⟩
      have hcl : (xs.map Iw.ks)[t]? = some x.ks := by rw [List.getElem?_map, hx]; rfl
      obtain ⟨b2, o2, hca, hcell, hrd⟩ := HC.out.at' hx
      have hcp := HCAP.out x (List.mem_of_getElem? hx)
      obtain ⟨xa, xc, cl⟩ := x
      simp only [] at hcl hcell hrd hcp
      obtain ⟨hcd, hl4, hcn⟩ := HCS.out cl (List.mem_of_getElem? hcl)
      have d2 : wr.cell? ⟨b2, o2 + t, none⟩ = some (.slice xa cl.length xc) := by rw [kcell BR.out _ _ (block_lt_of_cell hcell)]; exact hcell
      subst hca
      have i0 : (t : Int) < (nc : Int) := by omega
      have HCL := kide hcl
      have HRD := kide hrd
      have HCN := kide hcn
      have HCD := kide hcd
      obtain ⟨ln, hln⟩ : ∃ ln, cl.length = ln := ⟨_, rfl⟩
      rw [hln] at d2 hl4 hcp
      have HLN := kide hln
      clear hcl hrd hcn hcd hcell hx hln
      by_cases hn2 : ln < 2
      · have k1 : (ln : Int) < 2 := by omega
        have hpw : t / 64 < ws.length := by have := HNW.out; have := WL.out; omega
        have HPW := kide hpw
        have d6 : wr.cell? ⟨M.bx, 6, none⟩ = some (.slice (some ⟨M.du, 0, none⟩) ws.length ws.length) := WR.out.bx.cell 6
        have HAD := kide (addP_any M.du ws.length ws.length t ws wr WR.out.du rfl hpw (by omega) WR.out.wl)
        clear hpw
        go_wp2_with fail
        refine Calls.mono HAD.out ?_
        rintro e u3 ⟨rfl, hb3, ho3⟩
        have W3 := kide (WR.out.duAt ho3 hb3 (by rw [List.length_set]) (fun i => by
          by_cases e : t / 64 = i
          · subst e
            rw [List.getD_eq_getElem?_getD, List.getElem?_set_self HPW.out, Option.getD_some, Nat.shiftLeft_eq, Nat.one_mul]
            exact Nat.or_lt_two_pow (n := 64) (WR.out.wl _) (Nat.pow_lt_pow_right (by omega) (Nat.mod_lt _ (by omega)))
          · rw [List.getD_eq_getElem?_getD, List.getElem?_set_ne e, ← List.getD_eq_getElem?_getD]
            exact WR.out.wl i))
        have B3 := kide (BR.out.trans (ho3.bel WR.out.lo.2.2.2.2 BR.out.size))
        have WN3 := kide (WNR.out.narrow HCL.out (by rw [HLN.out]; exact hn2) (fun q => plB_add HPW.out))
        clear hb3 ho3 d6 d2 HAD
        go_wp2_with fail
        go_roundw
        case rel => exact ⟨t + 1, eyl, rows, _, by omega, by go_num, W3.out, WN3.out, by rw [List.length_set]; exact WL.out, B3.out⟩
        case measure => simp only [intOf]; omega
      · have k1 : ¬ (ln : Int) < 2 := by omega
        have k3 : (2 : Int) ≤ (xc : Int) := by omega
        obtain ⟨⟨y0, y1⟩, hee⟩ : ∃ e, eyl[t]? = some e := ⟨_, List.getElem?_eq_getElem (by rw [WR.out.ne]; exact hlt)⟩
        have d3 : wr.cell? ⟨M.bx, 2, none⟩ = some (.slice (some ⟨M.ey, 0, none⟩) nc nc) := WR.out.bx.cell 2
        have d4 : wr.cell? ⟨M.ey, t * 2, none⟩ = some (.int .i64 (y0 : Int)) := (WR.out.ey.cell (t * 2)).trans (eyV_at hee).1
        have d5 : wr.cell? ⟨M.ey, t * 2 + 1, none⟩ = some (.int .i64 (y1 : Int)) := (WR.out.ey.cell (t * 2 + 1)).trans (eyV_at hee).2
        have f4 := WR.out.ey.froz (t * 2)
        have f5 := WR.out.ey.froz (t * 2 + 1)
        have OB8 : Hid (Ob M.ey wr ((wr.setCell ⟨M.ey, t * 2, none⟩ (.int .i64 0)).setCell ⟨M.ey, t * 2 + 1, none⟩ (.int .i64 1))) := (Ob.set wr _).trans (Ob.set _ _)
        have W8 : Hid (Wm ((wr.setCell ⟨M.ey, t * 2, none⟩ (.int .i64 0)).setCell ⟨M.ey, t * 2 + 1, none⟩ (.int .i64 1)) w.heap.size M S N (some ⟨b2, o2, none⟩) nc cc (.slice none 0 0) (eyl.set t (0, 1)) rows [] ws) := by
          have h1 := (WR.out.ey.set (t * 2) (.int .i64 ((0 : Nat) : Int))).set (t * 2 + 1) (.int .i64 ((1 : Nat) : Int))
          rw [eyV_set0 hee, eyV_set1 (List.getElem?_set_self (List.getElem?_eq_some_iff.1 hee).1), List.set_set] at h1
          exact WR.out.eyAt OB8.out h1 (by rw [List.length_set])
        have B8 := kide (BR.out.trans (OB8.out.bel WR.out.lo.2.1 BR.out.size))
        have WN8 := kide (WNR.out.eyes (ey' := eyF (eyl.set t (0, 1))) fun q hq => by rw [eyF_set hee, if_neg hq])
        have HE8 : Hid (eyF (eyl.set t (0, 1)) t = (0, 1)) := by show _ = _; rw [eyF_set hee, if_pos rfl]
        clear OB8 hee
        go_wp2_with fail
        generalize (wr.setCell ⟨M.ey, t * 2, none⟩ (.int .i64 0)).setCell ⟨M.ey, t * 2 + 1, none⟩ (.int .i64 1) = u8 at *
        generalize eyl.set t (0, 1) = eyl8 at *
        clear d2 d3 d4 d5 f4 f5
        go_loopw [58] (fun i wr => ∃ (s : Nat) (rows : List (Value × List Nat)), s ≤ 2 ∧ i = .int .i64 (s : Int) ∧ Wm wr w.heap.size M S N (some ⟨b2, o2, none⟩) nc cc (.slice none 0 0) eyl8 rows [] ws ∧ Wn (xs.map Iw.ks) t s (eyF eyl8) (wtF S rows) (plB ws) ∧ Below w.heap.size w wr) (fun i _ => 2 - (intOf i).toNat)
        case atStart => exact ⟨0, rows, by omega, rfl, W8.out, WN8.out, B8.out⟩
        case round =>
          obtain ⟨s, rows2, hs, rfl, hwm, hwn, hbr⟩ := hrel
          have W9 := kide hwm
          have WN9 := kide hwn
          have B9 := kide hbr
          clear W8 WN8 B8 hwm hwn hbr
          by_cases hsl : s < 2
          · obtain ⟨k, hk⟩ : ∃ k, cl[s]? = some k := ⟨_, List.getElem?_eq_getElem (show s < cl.length by rw [HLN.out]; omega)⟩
            obtain ⟨-, -, h9 | ⟨b3, o3, hxa, hc3⟩⟩ := HRD.out
            · subst h9; simp at hk
            have d5 := hc3 s (List.getElem?_eq_some_iff.1 hk).1
            rw [show cl.getD s 0 = k by rw [List.getD_eq_getElem?_getD, hk]; rfl] at d5
            rw [← kcell B9.out _ _ (block_lt_of_cell d5)] at d5
            subst hxa
            have hkb := HCN.out k (List.mem_of_getElem? hk)
            obtain ⟨j, hj⟩ : ∃ j : Nat, (S : Int) + k = (j : Int) := ⟨((S : Int) + k).toNat, by omega⟩
            have hjN : j < N := by have := HN.out; omega
            have k4 : (j : Int) < (N : Int) := by omega
            have k5 : (s : Int) < 2 := by omega
            have HSEAT : Hid (∀ v, Wm v w.heap.size M S N (some ⟨b2, o2, none⟩) nc cc (.slice none 0 0) eyl8 rows2 [] ws → Calls Tryd.prog 62 #[.pointer (some ⟨M.bx, 0, none⟩), .int .i64 k] v fun e w' => e = .returned (.int .i64 (j : Int)) ∧ w' = v) := fun v hv => by
              have := seat_any k v hv.bx rfl hS (by omega)
              rwa [hj] at this
            obtain ⟨⟨rv, rl⟩, hrw⟩ : ∃ r, rows2[j]? = some r := ⟨_, List.getElem?_eq_getElem (by rw [W9.out.nr]; exact hjN)⟩
            have HRW := kide hrw
            have HRV : Hid ((rows2.map Prod.fst).toArray[j]? = some rv) := by show _ = _; rw [List.getElem?_toArray, List.getElem?_map, hrw]; rfl
            have hwt := wtF_at hrw hj hkb.2
            simp only [] at hwt
            have HL4 : Hid (rl.length ≤ 4000) := by
              show rl.length ≤ 4000
              rw [← hwt]
              refine Nat.le_trans (nodup_le nc _ (WN9.out.nd k) fun z hz => ?_) hn4
              obtain ⟨c, i, hc, -⟩ := (WN9.out.b k z).1 hz
              have := (List.getElem?_eq_some_iff.1 hc).1
              rw [List.length_map] at this
              omega
            obtain ⟨l, hll⟩ : ∃ l, rl.map (fun (q : Nat) => (q : Int)) = l := ⟨_, rfl⟩
            have HLL := kide hll
            have HLN2 : Hid (l.length = rl.length) := by show l.length = rl.length; rw [← hll, List.length_map]
            have HK := kide hk
            have HJ := kide hj
            have HKB := kide hkb.2
            clear hc3 hk hkb hj hrw hwt hll
            go_wp2_with fail
            refine wp_region_x (SA := fun uu => uu.cell? ⟨M.bx, 3, none⟩ = some (Value.slice (some ⟨M.wt, 0, none⟩) N N) ∧ uu.cell? ⟨M.wt, j, none⟩ = some (rv)) (SB := fun _ => True) (k := 20) (by kernel_rfl) ?_
            have hbd : Below wr.heap.size wr wr.drew := (Below.refl _ _).drew
            have WW0 := kide (W9.out.later hbd)
            have BB0 := kide (B9.out.trans (hbd.mono B9.out.size))
            clear hbd
            generalize wr.drew = q0 at *
            have c0_0 : q0.cell? ⟨M.bx, 3, none⟩ = some (Value.slice (some ⟨M.wt, 0, none⟩) N N) := WW0.out.bx.cell 3
            have c1_0 : q0.cell? ⟨M.wt, j, none⟩ = some rv := (WW0.out.wt.cell j).trans HRV.out
            have hs0 : Hid ((fun uu => uu.cell? ⟨M.bx, 3, none⟩ = some (Value.slice (some ⟨M.wt, 0, none⟩) N N) ∧ uu.cell? ⟨M.wt, j, none⟩ = some (rv)) q0) := ⟨c0_0, c1_0⟩
            try go_simp
            refine wpAnyX_both (T := fun _ => True) (i := 0) (v := Value.pointer (some ⟨M.bx, 0, none⟩)) rfl (by kernel_rfl) (by kernel_rfl) (by kernel_rfl) (fun _ _ _ h => by first | exact h | exact h.elim) (by decide) (fun _ _ => trivial) (fun _ _ => trivial) (Sx.before (by kernel_rfl) hs0.out) (Or.inl ⟨by rfl, fun uu hu => by go_simp⟩) ?_
            try go_simp
            refine wpAnyX_both (T := fun _ => True) (i := 1) (v := Value.pointer (some ⟨M.bx, 0, none⟩)) rfl (by kernel_rfl) (by kernel_rfl) (by kernel_rfl) (fun _ _ _ h => by first | exact h | exact h.elim) (by decide) (fun _ _ => trivial) (fun _ _ => trivial) (Sx.before (by kernel_rfl) hs0.out) (Or.inl ⟨by rfl, fun uu hu => by go_simp⟩) ?_
            try go_simp
            refine wpAnyX_both (T := fun _ => True) (i := 2) (v := Value.pointer (some ⟨M.bx, 3, none⟩)) rfl (by kernel_rfl) (by kernel_rfl) (by kernel_rfl) (fun _ _ _ h => by first | exact h | exact h.elim) (by decide) (fun _ _ => trivial) (fun _ _ => trivial) (Sx.before (by kernel_rfl) hs0.out) (Or.inl ⟨by rfl, fun uu hu => by go_simp⟩) ?_
            try go_simp
            refine wpAnyX_take (i := 3) (v := Value.slice (some ⟨M.wt, 0, none⟩) N N) rfl (by kernel_rfl) (by kernel_rfl) (by kernel_rfl) (fun _ _ _ h => by first | exact h | exact h.elim) (by decide) (by kernel_rfl) (by kernel_rfl) hs0.out (Or.inl ⟨by rfl, fun uu hu => by obtain ⟨e0, e1⟩ := hu; go_simp⟩) ?_
            try go_simp
            refine wpAnyX_both (T := fun _ => True) (i := 4) (v := Value.pointer (some ⟨M.bx, 0, none⟩)) rfl (by kernel_rfl) (by kernel_rfl) (by kernel_rfl) (fun _ _ _ h => by first | exact h | exact h.elim) (by decide) (fun _ _ => trivial) (fun _ _ => trivial) (Sx.before (by kernel_rfl) hs0.out) (Or.inl ⟨by rfl, fun uu hu => by go_simp⟩) ?_
            try go_simp
            refine wpAnyX_both (T := fun _ => True) (i := 5) (v := Value.int .i64 k) rfl (by kernel_rfl) (by kernel_rfl) (by kernel_rfl) (fun _ _ _ h => by first | exact h | exact h.elim) (by decide) (fun _ _ => trivial) (fun _ _ => trivial) (Sx.before (by kernel_rfl) hs0.out) (Or.inl ⟨by rfl, fun uu hu => by go_simp⟩) ?_
            try go_simp
            refine wpAnyX_both (T := fun _ => True) (i := 7) (v := Value.pointer (some ⟨M.bx, 0, none⟩)) rfl (by kernel_rfl) (by kernel_rfl) (by kernel_rfl) (fun _ _ _ h => by first | exact h | exact h.elim) (by decide) (fun _ _ => trivial) (fun _ _ => trivial) (Sx.before (by kernel_rfl) hs0.out) (Or.inl ⟨by rfl, fun uu hu => by go_simp⟩) ?_
            try go_simp
            refine wpAnyX_both (T := fun _ => True) (i := 8) (v := Value.pointer (some ⟨M.bx, 0, none⟩)) rfl (by kernel_rfl) (by kernel_rfl) (by kernel_rfl) (fun _ _ _ h => by first | exact h | exact h.elim) (by decide) (fun _ _ => trivial) (fun _ _ => trivial) (Sx.before (by kernel_rfl) hs0.out) (Or.inl ⟨by rfl, fun uu hu => by go_simp⟩) ?_
            try go_simp
            refine wpAnyX_both (T := fun _ => True) (i := 9) (v := Value.pointer (some ⟨M.bx, 3, none⟩)) rfl (by kernel_rfl) (by kernel_rfl) (by kernel_rfl) (fun _ _ _ h => by first | exact h | exact h.elim) (by decide) (fun _ _ => trivial) (fun _ _ => trivial) (Sx.before (by kernel_rfl) hs0.out) (Or.inl ⟨by rfl, fun uu hu => by go_simp⟩) ?_
            try go_simp
            refine wpAnyX_take (i := 10) (v := Value.slice (some ⟨M.wt, 0, none⟩) N N) rfl (by kernel_rfl) (by kernel_rfl) (by kernel_rfl) (fun _ _ _ h => by first | exact h | exact h.elim) (by decide) (by kernel_rfl) (by kernel_rfl) hs0.out (Or.inl ⟨by rfl, fun uu hu => by obtain ⟨e0, e1⟩ := hu; go_simp⟩) ?_
            try go_simp
            refine wpAnyX_both (T := fun _ => True) (i := 11) (v := Value.pointer (some ⟨M.bx, 0, none⟩)) rfl (by kernel_rfl) (by kernel_rfl) (by kernel_rfl) (fun _ _ _ h => by first | exact h | exact h.elim) (by decide) (fun _ _ => trivial) (fun _ _ => trivial) (Sx.before (by kernel_rfl) hs0.out) (Or.inl ⟨by rfl, fun uu hu => by go_simp⟩) ?_
            try go_simp
            refine wpAnyX_both (T := fun _ => True) (i := 12) (v := Value.int .i64 k) rfl (by kernel_rfl) (by kernel_rfl) (by kernel_rfl) (fun _ _ _ h => by first | exact h | exact h.elim) (by decide) (fun _ _ => trivial) (fun _ _ => trivial) (Sx.before (by kernel_rfl) hs0.out) (Or.inl ⟨by rfl, fun uu hu => by go_simp⟩) ?_
            try go_simp
            refine wpAnyX_both (T := fun _ => True) (i := 16) (v := Value.int .i64 (t : Int)) rfl (by kernel_rfl) (by kernel_rfl) (by kernel_rfl) (fun _ _ _ h => by first | exact h | exact h.elim) (by decide) (fun _ _ => trivial) (fun _ _ => trivial) (Sx.before (by kernel_rfl) hs0.out) (Or.inl ⟨by rfl, fun uu hu => by go_simp⟩) ?_
            try go_simp
            refine wpAnyX_ready (rs := [6, 17]) (by kernel_rfl) (by simp) (AllX.cons rfl (fun K hK => ?_) (AllX.cons rfl (fun K hK => ?_) AllX.nil))
            · go_simp
              refine Calls.mono (HSEAT.out q0 WW0.out) ?_
              rintro e q1 ⟨rfl, hw9⟩
              obtain rfl := hw9
              have WW1 := WW0
              have BB1 := BB0
              have c0_1 : q1.cell? ⟨M.bx, 3, none⟩ = some (Value.slice (some ⟨M.wt, 0, none⟩) N N) := WW1.out.bx.cell 3
              have c1_1 : q1.cell? ⟨M.wt, j, none⟩ = some rv := (WW1.out.wt.cell j).trans HRV.out
              have hs1 : Hid ((fun uu => uu.cell? ⟨M.bx, 3, none⟩ = some (Value.slice (some ⟨M.wt, 0, none⟩) N N) ∧ uu.cell? ⟨M.wt, j, none⟩ = some (rv)) q1) := ⟨c0_1, c1_1⟩
              refine hK _ _ (Sx.before (by kernel_rfl) hs1.out) ?_
              clear hK K
              try go_simp
              refine wpAnyX_ready (rs := [13, 17]) (by kernel_rfl) (by simp) (AllX.cons rfl (fun K hK => ?_) (AllX.cons rfl (fun K hK => ?_) AllX.nil))
              · go_simp
                refine Calls.mono (HSEAT.out q1 WW1.out) ?_
                rintro e q2 ⟨rfl, hw9⟩
                obtain rfl := hw9
                have WW2 := WW1
                have BB2 := BB1
                have c0_2 : q2.cell? ⟨M.bx, 3, none⟩ = some (Value.slice (some ⟨M.wt, 0, none⟩) N N) := WW2.out.bx.cell 3
                have c1_2 : q2.cell? ⟨M.wt, j, none⟩ = some rv := (WW2.out.wt.cell j).trans HRV.out
                have hs2 : Hid ((fun uu => uu.cell? ⟨M.bx, 3, none⟩ = some (Value.slice (some ⟨M.wt, 0, none⟩) N N) ∧ uu.cell? ⟨M.wt, j, none⟩ = some (rv)) q2) := ⟨c0_2, c1_2⟩
                refine hK _ _ (Sx.before (by kernel_rfl) hs2.out) ?_
                clear hK K
                try go_simp
                refine wpAnyX_both (T := fun _ => True) (i := 14) (v := Value.pointer (some ⟨M.wt, j, none⟩)) rfl (by kernel_rfl) (by kernel_rfl) (by kernel_rfl) (fun _ _ _ h => by first | exact h | exact h.elim) (by decide) (fun _ _ => trivial) (fun _ _ => trivial) (Sx.before (by kernel_rfl) hs2.out) (Or.inl ⟨by rfl, fun uu hu => by go_simp⟩) ?_
                try go_simp
                refine wpAnyX_take (i := 15) (v := rv) rfl (by kernel_rfl) (by kernel_rfl) (by kernel_rfl) (fun _ _ _ h => by first | exact h | exact h.elim) (by decide) (by kernel_rfl) (by kernel_rfl) hs2.out (Or.inl ⟨by rfl, fun uu hu => by obtain ⟨e0, e1⟩ := hu; go_simp⟩) ?_
                try go_simp
                refine wpAnyX_ready (rs := [17]) (by kernel_rfl) (by simp) (AllX.cons rfl (fun K hK => ?_) AllX.nil)
                go_simp
                have hbx : Below q2.heap.size q2 (q2.alloc (Obj.cells #[Value.int .i64 (t : Int)] 3)) := (Below.refl _ _).alloc (Nat.le_refl _) _
                have XN3 := kide (Bz.new q2 #[Value.int .i64 (t : Int)] 3)
                have WW3 := kide (WW2.out.later hbx)
                have BB3 := kide (BB2.out.trans (hbx.mono BB2.out.size))
                obtain ⟨gn, hgn⟩ : ∃ x, q2.heap.size = x := ⟨_, rfl⟩
                rw [hgn] at XN3
                simp only [hgn]
                clear hbx hgn
                generalize q2.alloc (Obj.cells #[Value.int .i64 (t : Int)] 3) = q3 at *
                have c0_3 : q3.cell? ⟨M.bx, 3, none⟩ = some (Value.slice (some ⟨M.wt, 0, none⟩) N N) := WW3.out.bx.cell 3
                have c1_3 : q3.cell? ⟨M.wt, j, none⟩ = some rv := (WW3.out.wt.cell j).trans HRV.out
                have hs3 : Hid ((fun uu => uu.cell? ⟨M.bx, 3, none⟩ = some (Value.slice (some ⟨M.wt, 0, none⟩) N N) ∧ uu.cell? ⟨M.wt, j, none⟩ = some (rv)) q3) := ⟨c0_3, c1_3⟩
                refine hK _ _ (Sx.before (by kernel_rfl) hs3.out) ?_
                clear hK K
                try go_simp
                refine wpAnyX_ready (rs := [18]) (by kernel_rfl) (by simp) (AllX.cons rfl (fun K hK => ?_) AllX.nil)
                have OO3 : Hid (OJ q3 w.heap.size rv l) := by have := WW3.out.rw j _ HRW.out; rw [HLL.out] at this; exact this
                refine step_appJ _ rfl _ _ rfl w.heap.size rv l (t : Int) (by first | rfl | simp [Act.eval]) OO3.out gn 1 (by first | rfl | simp [Act.eval]) (XN3.out.cell 0) (by have := HL4.out; have := HLN2.out; omega) BB3.out.size ?_
                intro g7 c7 q4 ho hg hat
                have HO4 := kide ho
                have HG4 := kide hg
                have HAT7 := kide hat
                clear ho hg hat
                have WT4 : Hid (Bz q4 M.wt (rows2.map Prod.fst).toArray 97) := gBz WW3.out.wt HG4.out (fun g e => OO3.out.notBz WW3.out.wt (by decide) e)
                have BB4 := kide (BB3.out.trans (⟨HG4.out.os, HG4.out.tape, HG4.out.output, HG4.out.size, fun k hk => HG4.out.block k (Nat.lt_of_lt_of_le hk BB3.out.size) (fun e => by have := (OO3.out.lt e.symm).1; omega)⟩ : Below w.heap.size q3 q4))
                have c0_4 : q4.cell? ⟨M.bx, 3, none⟩ = some (Value.slice (some ⟨M.wt, 0, none⟩) N N) := (gBz WW3.out.bx HG4.out (fun g e => OO3.out.notBz WW3.out.bx (by decide) e)).cell 3
                have c1_4 : q4.cell? ⟨M.wt, j, none⟩ = some rv := (WT4.out.cell j).trans HRV.out
                have hs4 : Hid ((fun uu => uu.cell? ⟨M.bx, 3, none⟩ = some (Value.slice (some ⟨M.wt, 0, none⟩) N N) ∧ uu.cell? ⟨M.wt, j, none⟩ = some (rv)) q4) := ⟨c0_4, c1_4⟩
                refine hK _ _ (Sx.before (by kernel_rfl) hs4.out) ?_
                clear hK K
                try go_simp
                refine wpAnyX_both (T := fun _ => True) (i := 19) (v := Value.pointer (some ⟨M.wt, j, none⟩)) rfl (by kernel_rfl) (by kernel_rfl) (by kernel_rfl) (fun _ _ _ h => by first | exact h | exact h.elim) (by decide) (fun _ _ => trivial) (fun _ _ => trivial) (Sx.before (by kernel_rfl) hs4.out) (Or.inl ⟨by rfl, fun uu hu => by go_simp⟩) ?_
                try go_simp
                refine wpAnyX_ready (rs := [20]) (by kernel_rfl) (by simp) (AllX.cons rfl (fun K hK => ?_) AllX.nil)
                have ce0 : q4.cell? ⟨M.wt, j, none⟩ = some rv := (WT4.out.cell j).trans HRV.out
                have cf0 := WT4.out.froz j
                go_simp
                have WW5 : Hid (Wm (q4.setCell ⟨M.wt, j, none⟩ (Value.slice (some ⟨g7, 0, none⟩) (l.length + 1) c7)) w.heap.size M S N (some ⟨b2, o2, none⟩) nc cc (.slice none 0 0) eyl8 (rows2.set j (Value.slice (some ⟨g7, 0, none⟩) (l.length + 1) c7, rl ++ [t])) [] ws) := WW3.out.rowAt HRW.out BB3.out.size (by rw [List.map_append, HLL.out]; exact HO4.out) HG4.out (HAT7.out.imp (fun h => h.symm) (fun h => by rw [h]; rfl))
                have BB5 := kide (BB4.out.setCell (p := ⟨M.wt, j, none⟩) W9.out.lo.2.2.1 (Value.slice (some ⟨g7, 0, none⟩) (l.length + 1) c7))
                clear ce0 cf0
                generalize q4.setCell ⟨M.wt, j, none⟩ (Value.slice (some ⟨g7, 0, none⟩) (l.length + 1) c7) = q5 at *
                refine hK _ _ (Sx.behind (by kernel_rfl) trivial) ?_
                clear hK K
                try go_simp
                refine wpAnyX_done (by kernel_rfl) ?_ _
                have WNE := kide (WN9.out.watch (wt' := wtF S (rows2.set j (Value.slice (some ⟨g7, 0, none⟩) (l.length + 1) c7, rl ++ [t]))) HCL.out HCD.out (by rw [HLN.out]; omega) hsl HK.out (by rw [wtF_set HRW.out HJ.out HKB.out, if_pos rfl, wtF_at HRW.out HJ.out HKB.out]) (fun q hq => by rw [wtF_set HRW.out HJ.out HKB.out, if_neg hq]))
                go_wp2_with fail
                go_roundw
                case rel => exact ⟨s + 1, _, by omega, by go_num, WW5.out, WNE.out, BB5.out⟩
                case measure => simp only [intOf]; omega
              · go_simp
                have hbx : Below q1.heap.size q1 (q1.alloc (Obj.cells #[Value.int .i64 (t : Int)] 3)) := (Below.refl _ _).alloc (Nat.le_refl _) _
                have XN2 := kide (Bz.new q1 #[Value.int .i64 (t : Int)] 3)
                have WW2 := kide (WW1.out.later hbx)
                have BB2 := kide (BB1.out.trans (hbx.mono BB1.out.size))
                obtain ⟨gn, hgn⟩ : ∃ x, q1.heap.size = x := ⟨_, rfl⟩
                rw [hgn] at XN2
                simp only [hgn]
                clear hbx hgn
                generalize q1.alloc (Obj.cells #[Value.int .i64 (t : Int)] 3) = q2 at *
                have c0_2 : q2.cell? ⟨M.bx, 3, none⟩ = some (Value.slice (some ⟨M.wt, 0, none⟩) N N) := WW2.out.bx.cell 3
                have c1_2 : q2.cell? ⟨M.wt, j, none⟩ = some rv := (WW2.out.wt.cell j).trans HRV.out
                have hs2 : Hid ((fun uu => uu.cell? ⟨M.bx, 3, none⟩ = some (Value.slice (some ⟨M.wt, 0, none⟩) N N) ∧ uu.cell? ⟨M.wt, j, none⟩ = some (rv)) q2) := ⟨c0_2, c1_2⟩
                refine hK _ _ (Sx.before (by kernel_rfl) hs2.out) ?_
                clear hK K
                try go_simp
                refine wpAnyX_ready (rs := [13]) (by kernel_rfl) (by simp) (AllX.cons rfl (fun K hK => ?_) AllX.nil)
                go_simp
                refine Calls.mono (HSEAT.out q2 WW2.out) ?_
                rintro e q3 ⟨rfl, hw9⟩
                obtain rfl := hw9
                have WW3 := WW2
                have BB3 := BB2
                have c0_3 : q3.cell? ⟨M.bx, 3, none⟩ = some (Value.slice (some ⟨M.wt, 0, none⟩) N N) := WW3.out.bx.cell 3
                have c1_3 : q3.cell? ⟨M.wt, j, none⟩ = some rv := (WW3.out.wt.cell j).trans HRV.out
                have XN3 := XN2
                have hs3 : Hid ((fun uu => uu.cell? ⟨M.bx, 3, none⟩ = some (Value.slice (some ⟨M.wt, 0, none⟩) N N) ∧ uu.cell? ⟨M.wt, j, none⟩ = some (rv)) q3) := ⟨c0_3, c1_3⟩
                refine hK _ _ (Sx.before (by kernel_rfl) hs3.out) ?_
                clear hK K
                try go_simp
                refine wpAnyX_both (T := fun _ => True) (i := 14) (v := Value.pointer (some ⟨M.wt, j, none⟩)) rfl (by kernel_rfl) (by kernel_rfl) (by kernel_rfl) (fun _ _ _ h => by first | exact h | exact h.elim) (by decide) (fun _ _ => trivial) (fun _ _ => trivial) (Sx.before (by kernel_rfl) hs3.out) (Or.inl ⟨by rfl, fun uu hu => by go_simp⟩) ?_
                try go_simp
                refine wpAnyX_take (i := 15) (v := rv) rfl (by kernel_rfl) (by kernel_rfl) (by kernel_rfl) (fun _ _ _ h => by first | exact h | exact h.elim) (by decide) (by kernel_rfl) (by kernel_rfl) hs3.out (Or.inl ⟨by rfl, fun uu hu => by obtain ⟨e0, e1⟩ := hu; go_simp⟩) ?_
                try go_simp
                refine wpAnyX_ready (rs := [18]) (by kernel_rfl) (by simp) (AllX.cons rfl (fun K hK => ?_) AllX.nil)
                have OO3 : Hid (OJ q3 w.heap.size rv l) := by have := WW3.out.rw j _ HRW.out; rw [HLL.out] at this; exact this
                refine step_appJ _ rfl _ _ rfl w.heap.size rv l (t : Int) (by first | rfl | simp [Act.eval]) OO3.out gn 1 (by first | rfl | simp [Act.eval]) (XN3.out.cell 0) (by have := HL4.out; have := HLN2.out; omega) BB3.out.size ?_
                intro g7 c7 q4 ho hg hat
                have HO4 := kide ho
                have HG4 := kide hg
                have HAT7 := kide hat
                clear ho hg hat
                have WT4 : Hid (Bz q4 M.wt (rows2.map Prod.fst).toArray 97) := gBz WW3.out.wt HG4.out (fun g e => OO3.out.notBz WW3.out.wt (by decide) e)
                have BB4 := kide (BB3.out.trans (⟨HG4.out.os, HG4.out.tape, HG4.out.output, HG4.out.size, fun k hk => HG4.out.block k (Nat.lt_of_lt_of_le hk BB3.out.size) (fun e => by have := (OO3.out.lt e.symm).1; omega)⟩ : Below w.heap.size q3 q4))
                have c0_4 : q4.cell? ⟨M.bx, 3, none⟩ = some (Value.slice (some ⟨M.wt, 0, none⟩) N N) := (gBz WW3.out.bx HG4.out (fun g e => OO3.out.notBz WW3.out.bx (by decide) e)).cell 3
                have c1_4 : q4.cell? ⟨M.wt, j, none⟩ = some rv := (WT4.out.cell j).trans HRV.out
                have hs4 : Hid ((fun uu => uu.cell? ⟨M.bx, 3, none⟩ = some (Value.slice (some ⟨M.wt, 0, none⟩) N N) ∧ uu.cell? ⟨M.wt, j, none⟩ = some (rv)) q4) := ⟨c0_4, c1_4⟩
                refine hK _ _ (Sx.before (by kernel_rfl) hs4.out) ?_
                clear hK K
                try go_simp
                refine wpAnyX_both (T := fun _ => True) (i := 19) (v := Value.pointer (some ⟨M.wt, j, none⟩)) rfl (by kernel_rfl) (by kernel_rfl) (by kernel_rfl) (fun _ _ _ h => by first | exact h | exact h.elim) (by decide) (fun _ _ => trivial) (fun _ _ => trivial) (Sx.before (by kernel_rfl) hs4.out) (Or.inl ⟨by rfl, fun uu hu => by go_simp⟩) ?_
                try go_simp
                refine wpAnyX_ready (rs := [20]) (by kernel_rfl) (by simp) (AllX.cons rfl (fun K hK => ?_) AllX.nil)
                have ce0 : q4.cell? ⟨M.wt, j, none⟩ = some rv := (WT4.out.cell j).trans HRV.out
                have cf0 := WT4.out.froz j
                go_simp
                have WW5 : Hid (Wm (q4.setCell ⟨M.wt, j, none⟩ (Value.slice (some ⟨g7, 0, none⟩) (l.length + 1) c7)) w.heap.size M S N (some ⟨b2, o2, none⟩) nc cc (.slice none 0 0) eyl8 (rows2.set j (Value.slice (some ⟨g7, 0, none⟩) (l.length + 1) c7, rl ++ [t])) [] ws) := WW3.out.rowAt HRW.out BB3.out.size (by rw [List.map_append, HLL.out]; exact HO4.out) HG4.out (HAT7.out.imp (fun h => h.symm) (fun h => by rw [h]; rfl))
                have BB5 := kide (BB4.out.setCell (p := ⟨M.wt, j, none⟩) W9.out.lo.2.2.1 (Value.slice (some ⟨g7, 0, none⟩) (l.length + 1) c7))
                clear ce0 cf0
                generalize q4.setCell ⟨M.wt, j, none⟩ (Value.slice (some ⟨g7, 0, none⟩) (l.length + 1) c7) = q5 at *
                refine hK _ _ (Sx.behind (by kernel_rfl) trivial) ?_
                clear hK K
                try go_simp
                refine wpAnyX_done (by kernel_rfl) ?_ _
                have WNE := kide (WN9.out.watch (wt' := wtF S (rows2.set j (Value.slice (some ⟨g7, 0, none⟩) (l.length + 1) c7, rl ++ [t]))) HCL.out HCD.out (by rw [HLN.out]; omega) hsl HK.out (by rw [wtF_set HRW.out HJ.out HKB.out, if_pos rfl, wtF_at HRW.out HJ.out HKB.out]) (fun q hq => by rw [wtF_set HRW.out HJ.out HKB.out, if_neg hq]))
                go_wp2_with fail
                go_roundw
                case rel => exact ⟨s + 1, _, by omega, by go_num, WW5.out, WNE.out, BB5.out⟩
                case measure => simp only [intOf]; omega
            · go_simp
              have hbx : Below q0.heap.size q0 (q0.alloc (Obj.cells #[Value.int .i64 (t : Int)] 3)) := (Below.refl _ _).alloc (Nat.le_refl _) _
              have XN1 := kide (Bz.new q0 #[Value.int .i64 (t : Int)] 3)
              have WW1 := kide (WW0.out.later hbx)
              have BB1 := kide (BB0.out.trans (hbx.mono BB0.out.size))
              obtain ⟨gn, hgn⟩ : ∃ x, q0.heap.size = x := ⟨_, rfl⟩
              rw [hgn] at XN1
              simp only [hgn]
              clear hbx hgn
              generalize q0.alloc (Obj.cells #[Value.int .i64 (t : Int)] 3) = q1 at *
              have c0_1 : q1.cell? ⟨M.bx, 3, none⟩ = some (Value.slice (some ⟨M.wt, 0, none⟩) N N) := WW1.out.bx.cell 3
              have c1_1 : q1.cell? ⟨M.wt, j, none⟩ = some rv := (WW1.out.wt.cell j).trans HRV.out
              have hs1 : Hid ((fun uu => uu.cell? ⟨M.bx, 3, none⟩ = some (Value.slice (some ⟨M.wt, 0, none⟩) N N) ∧ uu.cell? ⟨M.wt, j, none⟩ = some (rv)) q1) := ⟨c0_1, c1_1⟩
              refine hK _ _ (Sx.before (by kernel_rfl) hs1.out) ?_
              clear hK K
              try go_simp
              refine wpAnyX_ready (rs := [6]) (by kernel_rfl) (by simp) (AllX.cons rfl (fun K hK => ?_) AllX.nil)
              go_simp
              refine Calls.mono (HSEAT.out q1 WW1.out) ?_
              rintro e q2 ⟨rfl, hw9⟩
              obtain rfl := hw9
              have WW2 := WW1
              have BB2 := BB1
              have c0_2 : q2.cell? ⟨M.bx, 3, none⟩ = some (Value.slice (some ⟨M.wt, 0, none⟩) N N) := WW2.out.bx.cell 3
              have c1_2 : q2.cell? ⟨M.wt, j, none⟩ = some rv := (WW2.out.wt.cell j).trans HRV.out
              have XN2 := XN1
              have hs2 : Hid ((fun uu => uu.cell? ⟨M.bx, 3, none⟩ = some (Value.slice (some ⟨M.wt, 0, none⟩) N N) ∧ uu.cell? ⟨M.wt, j, none⟩ = some (rv)) q2) := ⟨c0_2, c1_2⟩
              refine hK _ _ (Sx.before (by kernel_rfl) hs2.out) ?_
              clear hK K
              try go_simp
              refine wpAnyX_ready (rs := [13]) (by kernel_rfl) (by simp) (AllX.cons rfl (fun K hK => ?_) AllX.nil)
              go_simp
              refine Calls.mono (HSEAT.out q2 WW2.out) ?_
              rintro e q3 ⟨rfl, hw9⟩
              obtain rfl := hw9
              have WW3 := WW2
              have BB3 := BB2
              have c0_3 : q3.cell? ⟨M.bx, 3, none⟩ = some (Value.slice (some ⟨M.wt, 0, none⟩) N N) := WW3.out.bx.cell 3
              have c1_3 : q3.cell? ⟨M.wt, j, none⟩ = some rv := (WW3.out.wt.cell j).trans HRV.out
              have XN3 := XN2
              have hs3 : Hid ((fun uu => uu.cell? ⟨M.bx, 3, none⟩ = some (Value.slice (some ⟨M.wt, 0, none⟩) N N) ∧ uu.cell? ⟨M.wt, j, none⟩ = some (rv)) q3) := ⟨c0_3, c1_3⟩
              refine hK _ _ (Sx.before (by kernel_rfl) hs3.out) ?_
              clear hK K
              try go_simp
              refine wpAnyX_both (T := fun _ => True) (i := 14) (v := Value.pointer (some ⟨M.wt, j, none⟩)) rfl (by kernel_rfl) (by kernel_rfl) (by kernel_rfl) (fun _ _ _ h => by first | exact h | exact h.elim) (by decide) (fun _ _ => trivial) (fun _ _ => trivial) (Sx.before (by kernel_rfl) hs3.out) (Or.inl ⟨by rfl, fun uu hu => by go_simp⟩) ?_
              try go_simp
              refine wpAnyX_take (i := 15) (v := rv) rfl (by kernel_rfl) (by kernel_rfl) (by kernel_rfl) (fun _ _ _ h => by first | exact h | exact h.elim) (by decide) (by kernel_rfl) (by kernel_rfl) hs3.out (Or.inl ⟨by rfl, fun uu hu => by obtain ⟨e0, e1⟩ := hu; go_simp⟩) ?_
              try go_simp
              refine wpAnyX_ready (rs := [18]) (by kernel_rfl) (by simp) (AllX.cons rfl (fun K hK => ?_) AllX.nil)
              have OO3 : Hid (OJ q3 w.heap.size rv l) := by have := WW3.out.rw j _ HRW.out; rw [HLL.out] at this; exact this
              refine step_appJ _ rfl _ _ rfl w.heap.size rv l (t : Int) (by first | rfl | simp [Act.eval]) OO3.out gn 1 (by first | rfl | simp [Act.eval]) (XN3.out.cell 0) (by have := HL4.out; have := HLN2.out; omega) BB3.out.size ?_
              intro g7 c7 q4 ho hg hat
              have HO4 := kide ho
              have HG4 := kide hg
              have HAT7 := kide hat
              clear ho hg hat
              have WT4 : Hid (Bz q4 M.wt (rows2.map Prod.fst).toArray 97) := gBz WW3.out.wt HG4.out (fun g e => OO3.out.notBz WW3.out.wt (by decide) e)
              have BB4 := kide (BB3.out.trans (⟨HG4.out.os, HG4.out.tape, HG4.out.output, HG4.out.size, fun k hk => HG4.out.block k (Nat.lt_of_lt_of_le hk BB3.out.size) (fun e => by have := (OO3.out.lt e.symm).1; omega)⟩ : Below w.heap.size q3 q4))
              have c0_4 : q4.cell? ⟨M.bx, 3, none⟩ = some (Value.slice (some ⟨M.wt, 0, none⟩) N N) := (gBz WW3.out.bx HG4.out (fun g e => OO3.out.notBz WW3.out.bx (by decide) e)).cell 3
              have c1_4 : q4.cell? ⟨M.wt, j, none⟩ = some rv := (WT4.out.cell j).trans HRV.out
              have hs4 : Hid ((fun uu => uu.cell? ⟨M.bx, 3, none⟩ = some (Value.slice (some ⟨M.wt, 0, none⟩) N N) ∧ uu.cell? ⟨M.wt, j, none⟩ = some (rv)) q4) := ⟨c0_4, c1_4⟩
              refine hK _ _ (Sx.before (by kernel_rfl) hs4.out) ?_
              clear hK K
              try go_simp
              refine wpAnyX_both (T := fun _ => True) (i := 19) (v := Value.pointer (some ⟨M.wt, j, none⟩)) rfl (by kernel_rfl) (by kernel_rfl) (by kernel_rfl) (fun _ _ _ h => by first | exact h | exact h.elim) (by decide) (fun _ _ => trivial) (fun _ _ => trivial) (Sx.before (by kernel_rfl) hs4.out) (Or.inl ⟨by rfl, fun uu hu => by go_simp⟩) ?_
              try go_simp
              refine wpAnyX_ready (rs := [20]) (by kernel_rfl) (by simp) (AllX.cons rfl (fun K hK => ?_) AllX.nil)
              have ce0 : q4.cell? ⟨M.wt, j, none⟩ = some rv := (WT4.out.cell j).trans HRV.out
              have cf0 := WT4.out.froz j
              go_simp
              have WW5 : Hid (Wm (q4.setCell ⟨M.wt, j, none⟩ (Value.slice (some ⟨g7, 0, none⟩) (l.length + 1) c7)) w.heap.size M S N (some ⟨b2, o2, none⟩) nc cc (.slice none 0 0) eyl8 (rows2.set j (Value.slice (some ⟨g7, 0, none⟩) (l.length + 1) c7, rl ++ [t])) [] ws) := WW3.out.rowAt HRW.out BB3.out.size (by rw [List.map_append, HLL.out]; exact HO4.out) HG4.out (HAT7.out.imp (fun h => h.symm) (fun h => by rw [h]; rfl))
              have BB5 := kide (BB4.out.setCell (p := ⟨M.wt, j, none⟩) W9.out.lo.2.2.1 (Value.slice (some ⟨g7, 0, none⟩) (l.length + 1) c7))
              clear ce0 cf0
              generalize q4.setCell ⟨M.wt, j, none⟩ (Value.slice (some ⟨g7, 0, none⟩) (l.length + 1) c7) = q5 at *
              refine hK _ _ (Sx.behind (by kernel_rfl) trivial) ?_
              clear hK K
              try go_simp
              refine wpAnyX_done (by kernel_rfl) ?_ _
              have WNE := kide (WN9.out.watch (wt' := wtF S (rows2.set j (Value.slice (some ⟨g7, 0, none⟩) (l.length + 1) c7, rl ++ [t]))) HCL.out HCD.out (by rw [HLN.out]; omega) hsl HK.out (by rw [wtF_set HRW.out HJ.out HKB.out, if_pos rfl, wtF_at HRW.out HJ.out HKB.out]) (fun q hq => by rw [wtF_set HRW.out HJ.out HKB.out, if_neg hq]))
              go_wp2_with fail
              go_roundw
              case rel => exact ⟨s + 1, _, by omega, by go_num, WW5.out, WNE.out, BB5.out⟩
              case measure => simp only [intOf]; omega
          · obtain rfl : s = 2 := by omega
            have WNX := kide (WN9.out.next HCL.out (by rw [HLN.out]; omega) HE8.out)
            go_wp2_with fail
            go_roundw
            case rel => exact ⟨t + 1, eyl8, rows2, ws, by omega, by go_num, W9.out, WNX.out, WL.out, B9.out⟩
            case measure => simp only [intOf]; omega
    · obtain rfl : t = nc := by omega
      have WIE := kide (WNR.out.end (by rw [List.length_map, hnc]; exact Nat.le_refl _))
      go_wp2_with fail
      go_ret
      exact ⟨M, _, eyl, rows, ws, HME.out, rfl, WR.out, WIE.out, WL.out, BR.out⟩
end Go.Proofs.YtmfamdonbgmjbaaDoor
