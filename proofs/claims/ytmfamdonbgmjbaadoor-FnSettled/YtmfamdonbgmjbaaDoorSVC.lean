/- The settler in memory: its box, the stack of tries. -/
import Derived.Test.YtmfamdonbgmjbaaDoorSVB
namespace Go.Proofs.YtmfamdonbgmjbaaDoor
set_option linter.unusedVariables false
set_option linter.unusedSimpArgs false
open Go.RowKit
/-- The cells of the tries, the last one at the end. -/
def kcL : List Fr → List Value
  | [] => []
  | fr :: K => kcL K ++ [.int .i64 ((fr.i : Int) + 1), .int .i64 (fr.T.length : Int), .bool fr.on]
theorem kcL_len : ∀ K : List Fr, (kcL K).length = K.length * 3
  | [] => rfl
  | fr :: K => by rw [kcL, List.length_append, kcL_len K, List.length_cons]; simp; omega
/-- The settler as it lies. -/
structure Se (u : World) (B sb bx : Nat) (v : Value) (K : List Fr) (vis most : Nat) : Prop where
  box : Bz u sb #[.pointer (some ⟨bx, 0, none⟩), v, .int .i64 (vis : Int), .int .i64 (most : Int)] 78
  row : u.ownsRow B 113 3 v K.length (kcL K)
  lo : B ≤ sb
theorem row_move {w w' : World} {B n size : Nat} {e : TypeId} {v : Value} {xs : List Value} (h : w.ownsRow B e size v n xs) (hk : ∀ b, v.ownBlock = some b → w'.heap[b]? = w.heap[b]?) : w'.ownsRow B e size v n xs := by
  refine ⟨h.1, ?_⟩
  rcases h.2 with h0 | ⟨g, cap, cur, rfl, hg, hh, r⟩
  · exact .inl h0
  · exact .inr ⟨g, cap, cur, rfl, hg, (hk g rfl).trans hh, r⟩
theorem row_ty {w : World} {B n size : Nat} {e : TypeId} {v : Value} {xs : List Value} (h : w.ownsRow B e size v n xs) {b : Nat} (hb : v.ownBlock = some b) : B ≤ b ∧ ∃ cur, Bz w b cur e := by
  rcases h.2 with ⟨rfl, -⟩ | ⟨g, cap, cur, rfl, hg, hh, -⟩
  · cases hb
  · cases hb
    exact ⟨hg, cur, hh⟩
/-- Blocks beside the watcher. -/
def Wb.withs (M : Wb) (l : List (Nat × Array Value × TypeId)) : Wb := ⟨l ++ M.ex, M.bx, M.ey, M.wt, M.st, M.du⟩
theorem Wm.withs {u : World} {B : Nat} {M : Wb} {S N : Nat} {ca : Option Addr} {nc cc : Nat} {tv : Value} {eyl : List (Nat × Nat)} {rows : List (Value × List Nat)} {T : List Int} {ws : List Nat} (h : Wm u B M S N ca nc cc tv eyl rows T ws) {l : List (Nat × Array Value × TypeId)} (hl : ∀ x ∈ l, Bz u x.1 x.2.1 x.2.2 ∧ okX x.2.2) : Wm u B (M.withs l) S N ca nc cc tv eyl rows T ws :=
  ⟨h.bx, h.ey, h.wt, h.st, h.du, h.tr, h.rw, h.ap, h.lo, h.ne, h.nr, h.wl, h.sz, fun y hy => by
    rcases List.mem_append.1 hy with hy | hy
    · exact hl y hy
    · exact h.xx y hy⟩
theorem Wm.without {u : World} {B : Nat} {M : Wb} {S N : Nat} {ca : Option Addr} {nc cc : Nat} {tv : Value} {eyl : List (Nat × Nat)} {rows : List (Value × List Nat)} {T : List Int} {ws : List Nat} {l : List (Nat × Array Value × TypeId)} (h : Wm u B (M.withs l) S N ca nc cc tv eyl rows T ws) : Wm u B M S N ca nc cc tv eyl rows T ws ∧ ∀ x ∈ l, Bz u x.1 x.2.1 x.2.2 :=
  ⟨⟨h.bx, h.ey, h.wt, h.st, h.du, h.tr, h.rw, h.ap, h.lo, h.ne, h.nr, h.wl, h.sz, fun y hy => h.xx y (List.mem_append_right _ hy)⟩, fun x hx => (h.xx x (List.mem_append_left _ hx)).1⟩
theorem okX_settler : okX 78 := ⟨by decide, by decide, by decide, by decide, by decide, by decide, by decide⟩
theorem okX_try : okX 113 := ⟨by decide, by decide, by decide, by decide, by decide, by decide, by decide⟩
/-- The settler's blocks, so that they stay whatever the watcher does. -/
theorem Se.ex {u : World} {B sb bx : Nat} {v : Value} {K : List Fr} {vis most : Nat} (h : Se u B sb bx v K vis most) : ∃ l : List (Nat × Array Value × TypeId), (∀ x ∈ l, Bz u x.1 x.2.1 x.2.2 ∧ okX x.2.2) ∧ ∀ u' : World, (∀ x ∈ l, Bz u' x.1 x.2.1 x.2.2) → Se u' B sb bx v K vis most := by
  rcases hv : v.ownBlock with _ | b
  · refine ⟨[(sb, _, _)], fun x hx => ?_, fun u' hu => ⟨hu _ (List.mem_singleton.2 rfl), row_move h.row (fun b hb => by rw [hv] at hb; cases hb), h.lo⟩⟩
    rw [List.mem_singleton.1 hx]
    exact ⟨h.box, okX_settler⟩
  · obtain ⟨h1, cur, h2⟩ := row_ty h.row hv
    refine ⟨[(sb, _, _), (b, cur, 113)], fun x hx => ?_, fun u' hu => ⟨hu _ List.mem_cons_self, row_move h.row (fun b' hb => ?_), h.lo⟩⟩
    · rcases List.mem_cons.1 hx with rfl | hx
      · exact ⟨h.box, okX_settler⟩
      · rw [List.mem_singleton.1 hx]
        exact ⟨h2, okX_try⟩
    · rw [hv] at hb
      cases hb
      have h3 : Bz u' b cur 113 := hu (b, cur, 113) (List.mem_cons_of_mem _ (List.mem_singleton.2 rfl))
      exact h3.trans h2.symm
/-- Only blocks of a settler's types change. -/
def Ft (u u' : World) : Prop := u'.os = u.os ∧ u'.tape = u.tape ∧ u'.output = u.output ∧ u.heap.size ≤ u'.heap.size ∧ ∀ k cs t, Bz u k cs t → t ≠ 78 → t ≠ 113 → Bz u' k cs t
theorem Ft.refl (u : World) : Ft u u := ⟨rfl, rfl, rfl, Nat.le_refl _, fun _ _ _ h _ _ => h⟩
theorem Ft.trans {a b c : World} (h : Ft a b) (h' : Ft b c) : Ft a c := ⟨h'.1.trans h.1, h'.2.1.trans h.2.1, h'.2.2.1.trans h.2.2.1, Nat.le_trans h.2.2.2.1 h'.2.2.2.1, fun k cs t hb h1 h2 => h'.2.2.2.2 k cs t (h.2.2.2.2 k cs t hb h1 h2) h1 h2⟩
theorem Ft.below {u u' : World} (h : Below u.heap.size u u') : Ft u u' := ⟨h.os, h.tape, h.output, h.size, fun _ _ _ hb _ _ => hb.later h⟩
theorem Wm.ft {u u' : World} {B : Nat} {M : Wb} {S N : Nat} {ca : Option Addr} {nc cc : Nat} {tv : Value} {eyl : List (Nat × Nat)} {rows : List (Value × List Nat)} {T : List Int} {ws : List Nat} (h : Wm u B M S N ca nc cc tv eyl rows T ws) (hx : M.ex = []) (hf : Ft u u') : Wm u' B M S N ca nc cc tv eyl rows T ws := by
  refine ⟨hf.2.2.2.2 _ _ _ h.bx (by decide) (by decide), hf.2.2.2.2 _ _ _ h.ey (by decide) (by decide), hf.2.2.2.2 _ _ _ h.wt (by decide) (by decide), hf.2.2.2.2 _ _ _ h.st (by decide) (by decide), hf.2.2.2.2 _ _ _ h.du (by decide) (by decide), ?_, ?_, h.ap, h.lo, h.ne, h.nr, h.wl, h.sz, fun x hx' => by rw [hx] at hx'; cases hx'⟩
  · refine h.tr.move fun b hb => ?_
    obtain ⟨-, cur, h2⟩ := row_ty h.tr hb
    exact (hf.2.2.2.2 _ _ _ h2 (by decide) (by decide)).trans h2.symm
  · intro k r hk
    refine (h.rw k r hk).move fun b hb => ?_
    obtain ⟨-, cur, h2⟩ := row_ty (h.rw k r hk) hb
    exact (hf.2.2.2.2 _ _ _ h2 (by decide) (by decide)).trans h2.symm
theorem Se.later {u u' : World} {B sb bx : Nat} {v : Value} {K : List Fr} {vis most : Nat} (h : Se u B sb bx v K vis most) (hb : Below u.heap.size u u') : Se u' B sb bx v K vis most := ⟨h.box.later hb, row_move h.row fun b hb' => by obtain ⟨-, cur, h2⟩ := row_ty h.row hb'; exact hb.block b h2.lt, h.lo⟩
theorem Se.form {u : World} {B sb bx : Nat} {v : Value} {K : List Fr} {vis most : Nat} (h : Se u B sb bx v K vis most) : ∃ a c, v = .slice a K.length c ∧ K.length ≤ c := by
  rcases h.row.2 with ⟨rfl, h0⟩ | ⟨g, cap, cur, rfl, -, -, h1, -⟩
  · exact ⟨none, 0, by rw [h0], by omega⟩
  · exact ⟨_, _, rfl, h1⟩
theorem tsize_any {u : World} {B sb bx : Nat} {v : Value} {K : List Fr} {vis most : Nat} (h : Se u B sb bx v K vis most) (hK : K.length ≤ 1000) :
    Calls Tryd.prog 77 #[.pointer (some ⟨sb, 1, none⟩)] u fun e w' => e = .returned (.int .i64 (K.length : Int)) ∧ w' = u := by
  obtain ⟨a, c, rfl, -⟩ := h.form
  have d1 : u.cell? ⟨sb, 1, none⟩ = some (.slice a K.length c) := h.box.cell 1
  clear h
  go_enter Tryd.func77, Tryd.ntmps77
  go_wp2_with fail
  go_ret
  exact ⟨rfl, rfl⟩
/-- The last try. -/
theorem Se.top {u : World} {B sb bx : Nat} {v : Value} {fr : Fr} {K : List Fr} {vis most : Nat} (h : Se u B sb bx v (fr :: K) vis most) : ∃ g c cur, v = .slice (some ⟨g, 0, none⟩) (K.length + 1) c ∧ K.length + 1 ≤ c ∧ B ≤ g ∧ Bz u g cur 113 ∧ u.cell? ⟨g, K.length * 3, none⟩ = some (.int .i64 ((fr.i : Int) + 1)) ∧ u.cell? ⟨g, K.length * 3 + 1, none⟩ = some (.int .i64 (fr.T.length : Int)) ∧ u.cell? ⟨g, K.length * 3 + 2, none⟩ = some (.bool fr.on) := by
  have hcells := fun g hg => World.ownsRow.cells h.row (g := g) hg
  rcases h.row.2 with ⟨rfl, h0⟩ | ⟨g, cap, cur, rfl, hg, hh, h1, -⟩
  · simp at h0
  · have hat : ∀ j x, [Value.int .i64 ((fr.i : Int) + 1), .int .i64 (fr.T.length : Int), .bool fr.on][j]? = some x → u.cell? ⟨g, K.length * 3 + j, none⟩ = some x := fun j x hj => by
      have := hcells g rfl (K.length * 3 + j) x (by rw [kcL, List.getElem?_append_right (by rw [kcL_len]; omega), kcL_len, Nat.add_sub_cancel_left]; exact hj)
      rw [Addr.add_lit] at this
      simpa using this
    exact ⟨g, cap, cur, rfl, h1, hg, hh, hat 0 _ rfl, hat 1 _ rfl, hat 2 _ rfl⟩
theorem ttop_any {u : World} {B sb bx g c : Nat} {fr : Fr} {K : List Fr} {vis most : Nat} (h : Se u B sb bx (.slice (some ⟨g, 0, none⟩) (K.length + 1) c) (fr :: K) vis most) (hK : K.length ≤ 1000) :
    Calls Tryd.prog 78 #[.pointer (some ⟨sb, 1, none⟩)] u fun e w' => e = .returned (.pointer (some ⟨g, K.length * 3, none⟩)) ∧ Below u.heap.size u w' := by
  obtain ⟨kn, hkn⟩ : ∃ kn, K.length + 1 = kn := ⟨_, rfl⟩
  obtain ⟨j, hj⟩ : ∃ j, K.length = j := ⟨_, rfl⟩
  have d1 : u.cell? ⟨sb, 1, none⟩ = some (.slice (some ⟨g, 0, none⟩) kn c) := by rw [← hkn]; exact h.box.cell 1
  rw [hj]
  have iA : (kn : Int) - 1 = (j : Int) := by omega
  have wA : IntKind.i64.wrap (j : Int) = (j : Int) := by rw [IntKind.wrap_i64]; omega
  have iL : (j : Int) < (kn : Int) := by omega
  clear h hkn hj
  go_enter Tryd.func78, Tryd.ntmps78
  go_wp2_with fail
  go_quiet (fail)
  go_wp2_with fail
  go_ret
  exact ⟨rfl, below_drewN (Below.refl _ _) _⟩
set_option maxHeartbeats 1000000 in
theorem tpop_any {u : World} {B sb bx : Nat} {v : Value} {fr : Fr} {K : List Fr} {vis most : Nat} (h : Se u B sb bx v (fr :: K) vis most) (hK : K.length ≤ 1000) :
    Calls Tryd.prog 79 #[.pointer (some ⟨sb, 1, none⟩)] u fun e w' => e = .returned (.tuple #[]) ∧ ∃ v', Se w' B sb bx v' K vis most ∧ Ft u w' ∧ Below B u w' := by
  obtain ⟨g, c, cur, rfl, hc, hg, hbz, -, -, -⟩ := h.top
  obtain ⟨kn, hkn⟩ : ∃ kn, K.length + 1 = kn := ⟨_, rfl⟩
  obtain ⟨j, hj⟩ : ∃ j, K.length = j := ⟨_, rfl⟩
  have HS := kide h
  have d1 : u.cell? ⟨sb, 1, none⟩ = some (.slice (some ⟨g, 0, none⟩) kn c) := by rw [← hkn]; exact h.box.cell 1
  have f1 := h.box.froz 1
  have iA : (kn : Int) - 1 = (j : Int) := by omega
  have wA : IntKind.i64.wrap (j : Int) = (j : Int) := by rw [IntKind.wrap_i64]; omega
  have iL : (j : Int) < (kn : Int) := by omega
  have iC : (j : Int) ≤ (c : Int) := by omega
  have hle : j ≤ c := by omega
  have HJ := kide hj
  have FIN : Hid (∀ (u' : World), Below u.heap.size u u' → Se (u'.setCell ⟨sb, 1, none⟩ (.slice (some ⟨g, 0, none⟩) j c)) B sb bx (.slice (some ⟨g, 0, none⟩) j c) K vis most ∧ Ft u (u'.setCell ⟨sb, 1, none⟩ (.slice (some ⟨g, 0, none⟩) j c)) ∧ Below B u (u'.setCell ⟨sb, 1, none⟩ (.slice (some ⟨g, 0, none⟩) j c))) := fun u' hb => by
    have b1 := h.box.later hb
    have g1 : Bz u' g cur 113 := hbz.later hb
    have hgs : g ≠ sb := bzNe hbz h.box (by decide)
    refine ⟨⟨b1.set 1 _, ?_, h.lo⟩, ?_, ?_⟩
    · rcases h.row with ⟨r1, ⟨e, -⟩ | ⟨g', cap, cur', e, r2, r3, r4, r5, r6, r7⟩⟩
      · cases e
      · cases e
        have e2 := hbz.symm.trans r3
        simp at e2
        subst e2
        refine ⟨kcL_len K, .inr ⟨g, c, cur, by rw [hj], hg, (heap_setCell_other _ _ _ _ hgs).trans g1, by omega, r5, r6, ?_⟩⟩
        have h9 := congrArg (List.take (K.length * 3)) r7
        rw [List.take_take, Nat.min_eq_left (by simp; omega), kcL, List.take_left' (kcL_len K)] at h9
        exact h9
    · exact (Ft.below hb).trans ⟨rfl, rfl, rfl, by simp, fun k cs t hk h1 h2 => (heap_setCell_other _ _ _ _ (bzNe hk b1 h1)).trans hk⟩
    · exact (hb.mono (Nat.le_trans h.lo (Nat.le_of_lt h.box.lt))).setCell (p := ⟨sb, 1, none⟩) h.lo _
  clear h hkn hj hbz
  go_enter Tryd.func79, Tryd.ntmps79
  go_wp2_with fail
  refine wp_region_x (SA := fun uu => uu.cell? ⟨sb, 1, none⟩ = some (Value.slice (some ⟨g, 0, none⟩) kn c) ∧ uu.cell? ⟨sb, 0, none⟩ = some (Value.pointer (some ⟨bx, 0, none⟩))) (SB := fun _ => True) (k := 14) (by kernel_rfl) ?_
  have hbd : Below u.heap.size u u.drew := (Below.refl _ _).drew
  have BB0 := kide hbd
  have XB0 := kide (HS.out.box.later hbd)
  have c0_0 : u.drew.cell? ⟨sb, 1, none⟩ = some (Value.slice (some ⟨g, 0, none⟩) kn c) := by rw [kcell hbd _ _ HS.out.box.lt]; exact d1
  clear hbd
  generalize u.drew = q0 at *
  have c1_0 : q0.cell? ⟨sb, 0, none⟩ = some (Value.pointer (some ⟨bx, 0, none⟩)) := XB0.out.cell 0
  have hs0 : Hid ((fun uu => uu.cell? ⟨sb, 1, none⟩ = some (Value.slice (some ⟨g, 0, none⟩) kn c) ∧ uu.cell? ⟨sb, 0, none⟩ = some (Value.pointer (some ⟨bx, 0, none⟩))) q0) := ⟨c0_0, c1_0⟩
  try go_simp
  refine wpAnyX_both (T := fun _ => True) (i := 0) (v := Value.pointer (some ⟨sb, 1, none⟩)) rfl (by kernel_rfl) (by kernel_rfl) (by kernel_rfl) (fun _ _ _ h => by first | exact h | exact h.elim) (by decide) (fun _ _ => trivial) (fun _ _ => trivial) (Sx.before (by kernel_rfl) hs0.out) (Or.inl ⟨by rfl, fun uu hu => by go_simp⟩) ?_
  try go_simp
  refine wpAnyX_both (T := fun _ => True) (i := 1) (v := Value.pointer (some ⟨sb, 1, none⟩)) rfl (by kernel_rfl) (by kernel_rfl) (by kernel_rfl) (fun _ _ _ h => by first | exact h | exact h.elim) (by decide) (fun _ _ => trivial) (fun _ _ => trivial) (Sx.before (by kernel_rfl) hs0.out) (Or.inl ⟨by rfl, fun uu hu => by go_simp⟩) ?_
  try go_simp
  refine wpAnyX_both (T := fun _ => True) (i := 2) (v := Value.pointer (some ⟨sb, 1, none⟩)) rfl (by kernel_rfl) (by kernel_rfl) (by kernel_rfl) (fun _ _ _ h => by first | exact h | exact h.elim) (by decide) (fun _ _ => trivial) (fun _ _ => trivial) (Sx.before (by kernel_rfl) hs0.out) (Or.inl ⟨by rfl, fun uu hu => by go_simp⟩) ?_
  try go_simp
  refine wpAnyX_both (T := fun _ => True) (i := 3) (v := Value.pointer (some ⟨sb, 1, none⟩)) rfl (by kernel_rfl) (by kernel_rfl) (by kernel_rfl) (fun _ _ _ h => by first | exact h | exact h.elim) (by decide) (fun _ _ => trivial) (fun _ _ => trivial) (Sx.before (by kernel_rfl) hs0.out) (Or.inl ⟨by rfl, fun uu hu => by go_simp⟩) ?_
  try go_simp
  refine wpAnyX_take (i := 4) (v := Value.slice (some ⟨g, 0, none⟩) kn c) rfl (by kernel_rfl) (by kernel_rfl) (by kernel_rfl) (fun _ _ _ h => by first | exact h | exact h.elim) (by decide) (by kernel_rfl) (by kernel_rfl) hs0.out (Or.inl ⟨by rfl, fun uu hu => by obtain ⟨e0, e1⟩ := hu; go_simp⟩) ?_
  try go_simp
  refine wpAnyX_both (T := fun _ => True) (i := 5) (v := Value.pointer (some ⟨sb, 1, none⟩)) rfl (by kernel_rfl) (by kernel_rfl) (by kernel_rfl) (fun _ _ _ h => by first | exact h | exact h.elim) (by decide) (fun _ _ => trivial) (fun _ _ => trivial) (Sx.before (by kernel_rfl) hs0.out) (Or.inl ⟨by rfl, fun uu hu => by go_simp⟩) ?_
  try go_simp
  refine wpAnyX_both (T := fun _ => True) (i := 6) (v := Value.pointer (some ⟨sb, 1, none⟩)) rfl (by kernel_rfl) (by kernel_rfl) (by kernel_rfl) (fun _ _ _ h => by first | exact h | exact h.elim) (by decide) (fun _ _ => trivial) (fun _ _ => trivial) (Sx.before (by kernel_rfl) hs0.out) (Or.inl ⟨by rfl, fun uu hu => by go_simp⟩) ?_
  try go_simp
  refine wpAnyX_both (T := fun _ => True) (i := 7) (v := Value.pointer (some ⟨sb, 1, none⟩)) rfl (by kernel_rfl) (by kernel_rfl) (by kernel_rfl) (fun _ _ _ h => by first | exact h | exact h.elim) (by decide) (fun _ _ => trivial) (fun _ _ => trivial) (Sx.before (by kernel_rfl) hs0.out) (Or.inl ⟨by rfl, fun uu hu => by go_simp⟩) ?_
  try go_simp
  refine wpAnyX_take (i := 8) (v := Value.slice (some ⟨g, 0, none⟩) kn c) rfl (by kernel_rfl) (by kernel_rfl) (by kernel_rfl) (fun _ _ _ h => by first | exact h | exact h.elim) (by decide) (by kernel_rfl) (by kernel_rfl) hs0.out (Or.inl ⟨by rfl, fun uu hu => by obtain ⟨e0, e1⟩ := hu; go_simp⟩) ?_
  try go_simp
  refine wpAnyX_both (T := fun _ => True) (i := 9) (v := Value.int .i64 (kn : Int)) rfl (by kernel_rfl) (by kernel_rfl) (by kernel_rfl) (fun _ _ _ h => by first | exact h | exact h.elim) (by decide) (fun _ _ => trivial) (fun _ _ => trivial) (Sx.before (by kernel_rfl) hs0.out) (Or.inl ⟨by rfl, fun uu hu => by go_simp⟩) ?_
  try go_simp
  refine wpAnyX_both (T := fun _ => True) (i := 10) (v := Value.int .i64 (j : Int)) rfl (by kernel_rfl) (by kernel_rfl) (by kernel_rfl) (fun _ _ _ h => by first | exact h | exact h.elim) (by decide) (fun _ _ => trivial) (fun _ _ => trivial) (Sx.before (by kernel_rfl) hs0.out) (Or.inl ⟨by rfl, fun uu hu => by go_simp⟩) ?_
  try go_simp
  refine wpAnyX_both (T := fun _ => True) (i := 11) (v := Value.slice (some ⟨g, 0, none⟩) j c) rfl (by kernel_rfl) (by kernel_rfl) (by kernel_rfl) (fun _ _ _ h => by first | exact h | exact h.elim) (by decide) (fun _ _ => trivial) (fun _ _ => trivial) (Sx.before (by kernel_rfl) hs0.out) (Or.inl ⟨by rfl, fun uu hu => by go_simp⟩) ?_
  try go_simp
  refine wpAnyX_both (T := fun _ => True) (i := 12) (v := Value.pointer (some ⟨sb, 1, none⟩)) rfl (by kernel_rfl) (by kernel_rfl) (by kernel_rfl) (fun _ _ _ h => by first | exact h | exact h.elim) (by decide) (fun _ _ => trivial) (fun _ _ => trivial) (Sx.before (by kernel_rfl) hs0.out) (Or.inl ⟨by rfl, fun uu hu => by go_simp⟩) ?_
  try go_simp
  refine wpAnyX_both (T := fun _ => True) (i := 13) (v := Value.pointer (some ⟨sb, 1, none⟩)) rfl (by kernel_rfl) (by kernel_rfl) (by kernel_rfl) (fun _ _ _ h => by first | exact h | exact h.elim) (by decide) (fun _ _ => trivial) (fun _ _ => trivial) (Sx.before (by kernel_rfl) hs0.out) (Or.inl ⟨by rfl, fun uu hu => by go_simp⟩) ?_
  try go_simp
  refine wpAnyX_ready (rs := [14]) (by kernel_rfl) (by simp) (AllX.cons rfl (fun K hK => ?_) AllX.nil)
  have cf0 : q0.frozen? ⟨sb, 1, none⟩ = false := XB0.out.froz 1
  go_simp
  have FN := kide (FIN.out q0 BB0.out)
  clear cf0
  generalize q0.setCell ⟨sb, 1, none⟩ (Value.slice (some ⟨g, 0, none⟩) j c) = q1 at *
  refine hK _ _ (Sx.behind (by kernel_rfl) trivial) ?_
  clear hK K
  try go_simp
  refine wpAnyX_done (by kernel_rfl) ?_ _
  go_wp2_with fail
  first | exact bodyPost_end (v := .tuple #[]) (by simp [results, Tryd.results79, go_sem]) rfl ⟨rfl, _, FN.out⟩ | exact bodyPost_end (v := .tuple #[]) (by simp [results, Tryd.results79, go_sem]) rfl ⟨rfl, ⟨_, FN.out.1⟩, FN.out.2⟩
theorem Tryd.infoTry : (Tryd.prog.info? 113).map (fun i => (i.zero, i.size, i.bytes)) = some (some (.agg #[.int .i64 0, .int .i64 0, .bool false]), 3, 24) := by kernel_rfl
theorem step_appT3 (w : World) {ops : Array Oper} {o : Oper} {a : Act} {K : Act → World → Prop} {Q : Exit → Act → World → Prop} {E : Prop} (hgd : o.guard = none) (s x : Operand)
    (ho : o.op = .call { callee := .builtin .append, args := #[s, x], argTypes := #[74, 74] })
    (B : Nat) (v : Value) (L : List Fr) (fr : Fr) (hs : a.eval s = v) (hown : w.ownsRow B 113 3 v L.length (kcL L)) (gx c : Nat) (hx : a.eval x = .slice (some ⟨gx, 0, none⟩) 1 c)
    (h0 : Bz w gx #[.int .i64 ((fr.i : Int) + 1), .int .i64 (fr.T.length : Int), .bool fr.on] 113) (hl : L.length ≤ 1000) (hB : B ≤ w.heap.size)
    (h : ∀ g cap w', w'.ownsRow B 113 3 (.slice (some ⟨g, 0, none⟩) (L.length + 1) cap) (fr :: L).length (kcL (fr :: L)) → w.grownBy w' v.ownBlock → K (a.put o.dst (.slice (some ⟨g, 0, none⟩) (L.length + 1) cap)) w') :
    if Region.wanted o (yielded ops a.tmps) = true then Oper.wp Tryd.prog o a w K Q else E := by
  obtain ⟨i0, hi, hz0, hz1, hz2⟩ := info_parts Tryd.infoTry
  refine step_append_lies w hgd s x 74 ho B 113 i0 _ 3 24 Tryd.underlying74 hi hz0 hz1 hz2 rfl (by decide) v L.length (kcL L) hs hown ⟨gx, 0, none⟩ 1 c [.int .i64 ((fr.i : Int) + 1), .int .i64 (fr.T.length : Int), .bool fr.on] hx rfl ?_ ?_ (by decide) ?_ ?_ hB _ rfl ?_
  · intro j u hj
    rw [Addr.add_lit, Nat.zero_add]
    rw [h0.cell j]
    simpa using hj
  · intro u hu
    simp at hu
    rcases hu with rfl | rfl | rfl <;> rfl
  · unfold maxLen; omega
  · omega
  · intro g cap w' h1 h2 h3 _
    exact h g cap w' h1 h2
set_option maxHeartbeats 1000000 in
theorem tpush_any {u : World} {B sb bx : Nat} {v : Value} {KL : List Fr} {vis most : Nat} (fr : Fr) (h : Se u B sb bx v KL vis most) (hKL : KL.length ≤ 1000) :
    Calls Tryd.prog 76 #[.pointer (some ⟨sb, 1, none⟩), .agg #[.int .i64 ((fr.i : Int) + 1), .int .i64 (fr.T.length : Int), .bool fr.on]] u fun e w' => e = .returned (.tuple #[]) ∧ ∃ v', Se w' B sb bx v' (fr :: KL) vis most ∧ Ft u w' ∧ Below B u w' := by
  obtain ⟨a, c, rfl, hc⟩ := h.form
  obtain ⟨kn, hkn⟩ : ∃ kn, KL.length = kn := ⟨_, rfl⟩
  rw [hkn] at h
  have HKN := kide hkn
  have HB0 : Hid (B ≤ u.heap.size) := Nat.le_trans h.lo (Nat.le_of_lt h.box.lt)
  have HLO := kide h.lo
  have hb0 : Below u.heap.size u (u.alloc (Obj.cells #[Value.int .i64 ((fr.i : Int) + 1), Value.int .i64 (fr.T.length : Int), Value.bool fr.on] 113)) := (Below.refl _ _).alloc (Nat.le_refl _) _
  have SU := kide (h.later hb0)
  have IU := kide (Bz.new u #[Value.int .i64 ((fr.i : Int) + 1), Value.int .i64 (fr.T.length : Int), Value.bool fr.on] 113)
  have FU := kide (Ft.below hb0)
  have BU := kide (hb0.mono HB0.out)
  have HNI : Hid ((Value.slice a kn c).ownBlock ≠ some u.heap.size) := fun e => by
    obtain ⟨-, cur, h2⟩ := row_ty h.row e
    have := h2.lt
    omega
  clear h hkn hb0 hc
  go_enter Tryd.func76, Tryd.ntmps76
  go_wp2_with fail
  generalize u.alloc (Obj.cells #[Value.int .i64 ((fr.i : Int) + 1), Value.int .i64 (fr.T.length : Int), Value.bool fr.on] 113) = u0 at *
  refine wp_region_x (SA := fun uu => uu.cell? ⟨sb, 1, none⟩ = some (Value.slice a kn c) ∧ uu.cell? ⟨u.heap.size, 0, none⟩ = some (Value.int .i64 ((fr.i : Int) + 1)) ∧ uu.cell? ⟨u.heap.size, 1, none⟩ = some (Value.int .i64 (fr.T.length : Int)) ∧ uu.cell? ⟨u.heap.size, 2, none⟩ = some (Value.bool fr.on)) (SB := fun _ => True) (k := 10) (by kernel_rfl) ?_
  have hbd : Below u0.heap.size u0 u0.drew := (Below.refl _ _).drew
  have SE0 := kide (SU.out.later hbd)
  have IB0 := kide (IU.out.later hbd)
  have FT0 := kide (FU.out.trans (Ft.below hbd))
  have BL0 := kide (BU.out.trans (hbd.mono (Nat.le_trans HB0.out BU.out.size)))
  clear hbd
  generalize u0.drew = q0 at *
  have c0_0 : q0.cell? ⟨sb, 1, none⟩ = some (Value.slice a kn c) := SE0.out.box.cell 1
  have c1_0 : q0.cell? ⟨u.heap.size, 0, none⟩ = some (Value.int .i64 ((fr.i : Int) + 1)) := IB0.out.cell 0
  have c2_0 : q0.cell? ⟨u.heap.size, 1, none⟩ = some (Value.int .i64 (fr.T.length : Int)) := IB0.out.cell 1
  have c3_0 : q0.cell? ⟨u.heap.size, 2, none⟩ = some (Value.bool fr.on) := IB0.out.cell 2
  have hs0 : Hid ((fun uu => uu.cell? ⟨sb, 1, none⟩ = some (Value.slice a kn c) ∧ uu.cell? ⟨u.heap.size, 0, none⟩ = some (Value.int .i64 ((fr.i : Int) + 1)) ∧ uu.cell? ⟨u.heap.size, 1, none⟩ = some (Value.int .i64 (fr.T.length : Int)) ∧ uu.cell? ⟨u.heap.size, 2, none⟩ = some (Value.bool fr.on)) q0) := ⟨c0_0, c1_0, c2_0, c3_0⟩
  try go_simp
  refine wpAnyX_both (T := fun _ => True) (i := 0) (v := Value.pointer (some ⟨sb, 1, none⟩)) rfl (by kernel_rfl) (by kernel_rfl) (by kernel_rfl) (fun _ _ _ h => by first | exact h | exact h.elim) (by decide) (fun _ _ => trivial) (fun _ _ => trivial) (Sx.before (by kernel_rfl) hs0.out) (Or.inl ⟨by rfl, fun uu hu => by go_simp⟩) ?_
  try go_simp
  refine wpAnyX_both (T := fun _ => True) (i := 1) (v := Value.pointer (some ⟨sb, 1, none⟩)) rfl (by kernel_rfl) (by kernel_rfl) (by kernel_rfl) (fun _ _ _ h => by first | exact h | exact h.elim) (by decide) (fun _ _ => trivial) (fun _ _ => trivial) (Sx.before (by kernel_rfl) hs0.out) (Or.inl ⟨by rfl, fun uu hu => by go_simp⟩) ?_
  try go_simp
  refine wpAnyX_both (T := fun _ => True) (i := 2) (v := Value.pointer (some ⟨sb, 1, none⟩)) rfl (by kernel_rfl) (by kernel_rfl) (by kernel_rfl) (fun _ _ _ h => by first | exact h | exact h.elim) (by decide) (fun _ _ => trivial) (fun _ _ => trivial) (Sx.before (by kernel_rfl) hs0.out) (Or.inl ⟨by rfl, fun uu hu => by go_simp⟩) ?_
  try go_simp
  refine wpAnyX_both (T := fun _ => True) (i := 3) (v := Value.pointer (some ⟨sb, 1, none⟩)) rfl (by kernel_rfl) (by kernel_rfl) (by kernel_rfl) (fun _ _ _ h => by first | exact h | exact h.elim) (by decide) (fun _ _ => trivial) (fun _ _ => trivial) (Sx.before (by kernel_rfl) hs0.out) (Or.inl ⟨by rfl, fun uu hu => by go_simp⟩) ?_
  try go_simp
  refine wpAnyX_take (i := 4) (v := Value.slice a kn c) rfl (by kernel_rfl) (by kernel_rfl) (by kernel_rfl) (fun _ _ _ h => by first | exact h | exact h.elim) (by decide) (by kernel_rfl) (by kernel_rfl) hs0.out (Or.inl ⟨by rfl, fun uu hu => by obtain ⟨e0, e1, e2, e3⟩ := hu; go_simp⟩) ?_
  try go_simp
  refine wpAnyX_take (i := 5) (v := Value.agg #[Value.int .i64 ((fr.i : Int) + 1), Value.int .i64 (fr.T.length : Int), Value.bool fr.on]) rfl (by kernel_rfl) (by kernel_rfl) (by kernel_rfl) (fun _ _ _ h => by first | exact h | exact h.elim) (by decide) (by kernel_rfl) (by kernel_rfl) hs0.out (Or.inl ⟨by rfl, fun uu hu => by obtain ⟨e0, e1, e2, e3⟩ := hu; go_simp⟩) ?_
  try go_simp
  refine wpAnyX_ready (rs := [6]) (by kernel_rfl) (by simp) (AllX.cons rfl (fun K hK => ?_) AllX.nil)
  go_simp
  have hbx : Below q0.heap.size q0 (q0.alloc (Obj.cells #[Value.int .i64 ((fr.i : Int) + 1), Value.int .i64 (fr.T.length : Int), Value.bool fr.on] 113)) := (Below.refl _ _).alloc (Nat.le_refl _) _
  have XN1 := kide (Bz.new q0 #[Value.int .i64 ((fr.i : Int) + 1), Value.int .i64 (fr.T.length : Int), Value.bool fr.on] 113)
  have SE1 := kide (SE0.out.later hbx)
  have IB1 := kide (IB0.out.later hbx)
  have FT1 := kide (FT0.out.trans (Ft.below hbx))
  have BL1 := kide (BL0.out.trans (hbx.mono (Nat.le_trans HB0.out BL0.out.size)))
  obtain ⟨gn, hgn⟩ : ∃ x, q0.heap.size = x := ⟨_, rfl⟩
  rw [hgn] at XN1
  simp only [hgn]
  clear hbx hgn
  generalize q0.alloc (Obj.cells #[Value.int .i64 ((fr.i : Int) + 1), Value.int .i64 (fr.T.length : Int), Value.bool fr.on] 113) = q1 at *
  have c0_1 : q1.cell? ⟨sb, 1, none⟩ = some (Value.slice a kn c) := SE1.out.box.cell 1
  have c1_1 : q1.cell? ⟨u.heap.size, 0, none⟩ = some (Value.int .i64 ((fr.i : Int) + 1)) := IB1.out.cell 0
  have c2_1 : q1.cell? ⟨u.heap.size, 1, none⟩ = some (Value.int .i64 (fr.T.length : Int)) := IB1.out.cell 1
  have c3_1 : q1.cell? ⟨u.heap.size, 2, none⟩ = some (Value.bool fr.on) := IB1.out.cell 2
  have hs1 : Hid ((fun uu => uu.cell? ⟨sb, 1, none⟩ = some (Value.slice a kn c) ∧ uu.cell? ⟨u.heap.size, 0, none⟩ = some (Value.int .i64 ((fr.i : Int) + 1)) ∧ uu.cell? ⟨u.heap.size, 1, none⟩ = some (Value.int .i64 (fr.T.length : Int)) ∧ uu.cell? ⟨u.heap.size, 2, none⟩ = some (Value.bool fr.on)) q1) := ⟨c0_1, c1_1, c2_1, c3_1⟩
  refine hK _ _ (Sx.before (by kernel_rfl) hs1.out) ?_
  clear hK K
  try go_simp
  refine wpAnyX_ready (rs := [7]) (by kernel_rfl) (by simp) (AllX.cons rfl (fun K hK => ?_) AllX.nil)
  have hkn : KL.length = kn := HKN.out
  refine step_appT3 _ rfl _ _ rfl B (Value.slice a kn c) KL fr (by first | rfl | simp [Act.eval]) SE1.out.row gn 1 (by first | rfl | simp [Act.eval]) XN1.out hKL (Nat.le_trans HB0.out BL1.out.size) ?_
  intro g7 c7 q2 ho hg
  rw [hkn]
  rw [hkn] at ho
  clear hkn
  have SB2 : Hid (Bz q2 sb _ 78) := (hg.block sb SE1.out.box.lt (fun e => by obtain ⟨-, cur, h2⟩ := row_ty SE1.out.row e.symm; exact bzNe h2 SE1.out.box (by decide) rfl)).trans SE1.out.box
  have IB2 : Hid (Bz q2 u.heap.size #[Value.int .i64 ((fr.i : Int) + 1), Value.int .i64 (fr.T.length : Int), Value.bool fr.on] 113) := (hg.block u.heap.size IB1.out.lt (fun e => HNI.out e.symm)).trans IB1.out
  have FT2 : Hid (Ft u q2) := FT1.out.trans ⟨hg.os, hg.tape, hg.output, hg.size, fun k cs t hk h1 h2 => (hg.block k hk.lt (fun e => by obtain ⟨-, cur, h3⟩ := row_ty SE1.out.row e.symm; exact bzNe h3 hk (fun e => h2 e.symm) rfl)).trans hk⟩
  have BL2 : Hid (Below B u q2) := BL1.out.trans ⟨hg.os, hg.tape, hg.output, hg.size, fun k hk => hg.block k (Nat.lt_of_lt_of_le hk (Nat.le_trans HB0.out BL1.out.size)) (fun e => by have := (row_ty SE1.out.row e.symm).1; omega)⟩
  have HO2 := kide ho
  clear ho hg
  have c0_2 : q2.cell? ⟨sb, 1, none⟩ = some (Value.slice a kn c) := SB2.out.cell 1
  have c1_2 : q2.cell? ⟨u.heap.size, 0, none⟩ = some (Value.int .i64 ((fr.i : Int) + 1)) := IB2.out.cell 0
  have c2_2 : q2.cell? ⟨u.heap.size, 1, none⟩ = some (Value.int .i64 (fr.T.length : Int)) := IB2.out.cell 1
  have c3_2 : q2.cell? ⟨u.heap.size, 2, none⟩ = some (Value.bool fr.on) := IB2.out.cell 2
  have hs2 : Hid ((fun uu => uu.cell? ⟨sb, 1, none⟩ = some (Value.slice a kn c) ∧ uu.cell? ⟨u.heap.size, 0, none⟩ = some (Value.int .i64 ((fr.i : Int) + 1)) ∧ uu.cell? ⟨u.heap.size, 1, none⟩ = some (Value.int .i64 (fr.T.length : Int)) ∧ uu.cell? ⟨u.heap.size, 2, none⟩ = some (Value.bool fr.on)) q2) := ⟨c0_2, c1_2, c2_2, c3_2⟩
  refine hK _ _ (Sx.before (by kernel_rfl) hs2.out) ?_
  clear hK K
  try go_simp
  refine wpAnyX_both (T := fun _ => True) (i := 8) (v := Value.pointer (some ⟨sb, 1, none⟩)) rfl (by kernel_rfl) (by kernel_rfl) (by kernel_rfl) (fun _ _ _ h => by first | exact h | exact h.elim) (by decide) (fun _ _ => trivial) (fun _ _ => trivial) (Sx.before (by kernel_rfl) hs2.out) (Or.inl ⟨by rfl, fun uu hu => by go_simp⟩) ?_
  try go_simp
  refine wpAnyX_both (T := fun _ => True) (i := 9) (v := Value.pointer (some ⟨sb, 1, none⟩)) rfl (by kernel_rfl) (by kernel_rfl) (by kernel_rfl) (fun _ _ _ h => by first | exact h | exact h.elim) (by decide) (fun _ _ => trivial) (fun _ _ => trivial) (Sx.before (by kernel_rfl) hs2.out) (Or.inl ⟨by rfl, fun uu hu => by go_simp⟩) ?_
  try go_simp
  refine wpAnyX_ready (rs := [10]) (by kernel_rfl) (by simp) (AllX.cons rfl (fun K hK => ?_) AllX.nil)
  have ce0 : q2.cell? ⟨sb, 1, none⟩ = some (Value.slice a kn c) := SB2.out.cell 1
  have cf0 := SB2.out.froz 1
  go_simp
  have SEE : Hid (Se (q2.setCell ⟨sb, 1, none⟩ (Value.slice (some ⟨g7, 0, none⟩) (kn + 1) c7)) B sb bx (Value.slice (some ⟨g7, 0, none⟩) (kn + 1) c7) (fr :: KL) vis most) := ⟨SB2.out.set 1 _, row_move HO2.out (fun b hb => heap_setCell_other _ _ _ _ (by obtain ⟨-, cur, h2⟩ := row_ty HO2.out hb; exact bzNe h2 SB2.out (by decide))), HLO.out⟩
  have FTE : Hid (Ft u (q2.setCell ⟨sb, 1, none⟩ (Value.slice (some ⟨g7, 0, none⟩) (kn + 1) c7))) := FT2.out.trans ⟨rfl, rfl, rfl, by simp, fun k cs t hk h1 h2 => (heap_setCell_other _ _ _ _ (bzNe hk SB2.out h1)).trans hk⟩
  have BLE : Hid (Below B u (q2.setCell ⟨sb, 1, none⟩ (Value.slice (some ⟨g7, 0, none⟩) (kn + 1) c7))) := BL2.out.setCell (p := ⟨sb, 1, none⟩) HLO.out _
  clear ce0 cf0
  generalize q2.setCell ⟨sb, 1, none⟩ (Value.slice (some ⟨g7, 0, none⟩) (kn + 1) c7) = q3 at *
  refine hK _ _ (Sx.behind (by kernel_rfl) trivial) ?_
  clear hK K
  try go_simp
  refine wpAnyX_done (by kernel_rfl) ?_ _
  go_wp2_with fail
  first | exact bodyPost_end (v := .tuple #[]) (by simp [results, Tryd.results76, go_sem]) rfl ⟨rfl, _, SEE.out, FTE.out, BLE.out⟩ | exact bodyPost_end (v := .tuple #[]) (by simp [results, Tryd.results76, go_sem]) rfl ⟨rfl, ⟨_, SEE.out⟩, FTE.out, BLE.out⟩
end Go.Proofs.YtmfamdonbgmjbaaDoor
