/- Joining two nodes of a forest: the specification; what the law carries. -/
import Derived.Test.YtakicdlfolhhcaaGR
namespace Go.Proofs.Ytakicdlfolhhcaa
set_option linter.unusedVariables false
set_option linter.unusedSimpArgs false
open Go.RowKit

theorem Bx.out {u u' : World} {B1 B2 b : Nat} {cs : Array Value} {t : TypeId} (h : Bx u b cs t) (ho : Out B1 B2 u u') (hd : b < B1 ∨ B2 ≤ b) : Bx u' b cs t := by
  unfold Bx
  rw [ho.2.2.2.2 b h.lt hd]
  exact h
theorem belowOut {B B1 B2 : Nat} {w u u' : World} (h : Below B w u) (ho : Out B1 B2 u u') (h1 : B ≤ B1) (h2 : B ≤ w.heap.size) : Below B w u' :=
  Below.trans h ⟨ho.1, ho.2.1, ho.2.2.1, ho.2.2.2.1, fun k hk => ho.2.2.2.2 k (Nat.lt_of_lt_of_le hk (Nat.le_trans h2 h.size)) (.inl (Nat.lt_of_lt_of_le hk h1))⟩

/-- What holds of all that the law carries, in a world u. -/
structure Cj (w : World) (F BW BX BG : Nat) (z : Int) (a : Option Addr) (n c : Nat) (Rz : Int) (a3 : Option Addr) (k3 : Nat) (a5 : Option Addr) (k5 gx Lw Hw Lg Hg : Nat) (ls ZL : List Lk) (u : World) : Prop where
  s : Bx u F #[.int .i64 z, .slice a n c] 24
  xw : Bx u BW #[.int .i64 Rz, .slice a3 ZL.length k3] 29
  xx : Bx u BX #[.int .i64 z, .slice (some ⟨gx, 0, none⟩) n n] 29
  xg : Bx u BG #[.int .i64 Rz, .slice a5 ZL.length k5] 29
  hw : HoldK u Lw Hw a3 ZL.length ZL
  hx : HoldK u gx (gx + 1) (some ⟨gx, 0, none⟩) n ls
  hg : HoldK u Lg Hg a5 ZL.length ZL
  bl : Below w.heap.size w u

theorem Cj.later {w : World} {F BW BX BG : Nat} {z : Int} {a : Option Addr} {n c : Nat} {Rz : Int} {a3 : Option Addr} {k3 : Nat} {a5 : Option Addr} {k5 gx Lw Hw Lg Hg : Nat} {ls ZL : List Lk} {u u' : World}
    (h : Cj w F BW BX BG z a n c Rz a3 k3 a5 k5 gx Lw Hw Lg Hg ls ZL u) (hb : Below u.heap.size u u') : Cj w F BW BX BG z a n c Rz a3 k3 a5 k5 gx Lw Hw Lg Hg ls ZL u' :=
  ⟨h.s.later hb, h.xw.later hb, h.xx.later hb, h.xg.later hb, h.hw.later hb, h.hx.later hb, h.hg.later hb, h.bl.trans (hb.mono h.bl.size)⟩

theorem joinR_ok (z : Int) (ls : List Lk) (x y q : Int) (h1 : ls.length ≤ 1048576) (h2 : ∀ l ∈ ls, in64 l.1 ∧ in64 l.2.1 ∧ in64 l.2.2) : (joinR z ls x y q).2.1.length ≤ 1048576 ∧ ∀ l ∈ (joinR z ls x y q).2.1, in64 l.1 ∧ in64 l.2.1 ∧ in64 l.2.2 := by
  unfold joinR
  cases hf : forR z ls with
  | none => exact ⟨by simp, by simp⟩
  | some L =>
    obtain ⟨hz, hl⟩ := forR_len hf
    simp only []
    split
    · rename_i hxyq
      split
      · exact ⟨h1, h2⟩
      · refine ⟨by simp; omega, fun l hl => ?_⟩
        rcases List.mem_append.1 hl with hl | hl
        · exact h2 l hl
        · simp at hl
          subst hl
          unfold in64
          simp only []
          omega
    · exact ⟨by simp, by simp⟩

theorem lkc_at : ∀ {ms : List Lk} {j : Nat} {u : Value}, (lkc ms)[j]? = some u → ∃ i l, ms[i]? = some l ∧ (j = i * 3 ∧ u = .int .i64 l.1 ∨ j = i * 3 + 1 ∧ u = .int .i64 l.2.1 ∨ j = i * 3 + 2 ∧ u = .int .i64 l.2.2)
  | [], j, u, h => by simp [lkc] at h
  | l :: t, 0, u, h => ⟨0, l, rfl, .inl ⟨rfl, by simp [lkc] at h; exact h.symm⟩⟩
  | l :: t, 1, u, h => ⟨0, l, rfl, .inr (.inl ⟨rfl, by simp [lkc] at h; exact h.symm⟩)⟩
  | l :: t, 2, u, h => ⟨0, l, rfl, .inr (.inr ⟨rfl, by simp [lkc] at h; exact h.symm⟩)⟩
  | l :: t, j + 3, u, h => by
    obtain ⟨i, l', h1, h2⟩ := lkc_at (ms := t) (j := j) (u := u) (by simpa [lkc] using h)
    refine ⟨i + 1, l', by simpa using h1, ?_⟩
    rcases h2 with ⟨h2, h3⟩ | ⟨h2, h3⟩ | ⟨h2, h3⟩
    · exact .inl ⟨by omega, h3⟩
    · exact .inr (.inl ⟨by omega, h3⟩)
    · exact .inr (.inr ⟨by omega, h3⟩)

theorem wpList_appLs {w : World} {ops : Array Oper} {rest : List Oper} {o : Oper} {a : Act} {Q : Exit → Act → World → Prop} (hgd : o.guard = none) (s x : Operand)
    (ho : o.op = .call { callee := .builtin .append, args := #[s, x], argTypes := #[27, 27] })
    (B : Nat) (v : Value) (ls ms : List Lk) (hs : a.eval s = v) (hown : OK3 w B v ls) (b oo c m : Nat) (hx : a.eval x = .slice (some ⟨b, oo, none⟩) m c) (hm : ms.length = m)
    (h0 : ∀ i l, ms[i]? = some l → LkAt w b (oo + i * 3) l) (hl : ls.length + ms.length ≤ 1073741824) (hB : B ≤ w.heap.size)
    (h : ∀ v' w', OK3 w' B v' (ls ++ ms) → w.grownBy w' v.ownBlock → wpList Try.prog ops Q rest (a.put o.dst v') w') : wpList Try.prog ops Q (o :: rest) a w := by
  subst hm
  obtain ⟨i0, hi, hz0, hz1, hz2⟩ := info_parts Try.infoLink
  refine wpList_append_own_at w hgd s x 27 ho B 55 i0 _ 3 24 Try.underlying27 hi hz0 hz1 hz2 rfl (by decide) v ls.length (lkc ls) hs hown ⟨b, oo, none⟩ ms.length c (lkc ms) hx (lkc_len ms) ?_ ?_ (by unfold maxLen; omega) (by omega) hB ?_
  · intro j u hj
    rw [Addr.add_lit]
    obtain ⟨i, l, h1, h2⟩ := lkc_at hj
    obtain ⟨e0, e1, e2⟩ := h0 i l h1
    rcases h2 with ⟨rfl, rfl⟩ | ⟨rfl, rfl⟩ | ⟨rfl, rfl⟩
    · exact e0
    · exact e1
    · exact e2
  · intro u hu
    obtain ⟨j, hj, rfl⟩ := List.mem_iff_getElem.1 hu
    obtain ⟨i, l, h1, h2⟩ := lkc_at (List.getElem?_eq_getElem hj)
    rcases h2 with ⟨-, h2⟩ | ⟨-, h2⟩ | ⟨-, h2⟩ <;> rw [h2] <;> rfl
  · intro v' w' ho' hg _ _
    refine h v' w' ?_ hg
    unfold OK3
    rw [lkc_append, List.length_append]
    exact ho'

theorem step_appLs (w : World) {ops : Array Oper} {o : Oper} {a : Act} {K : Act → World → Prop} {Q : Exit → Act → World → Prop} {E : Prop} (hgd : o.guard = none) (s x : Operand)
    (ho : o.op = .call { callee := .builtin .append, args := #[s, x], argTypes := #[27, 27] })
    (B : Nat) (v : Value) (ls ms : List Lk) (hs : a.eval s = v) (hown : OK3 w B v ls) (b oo c m : Nat) (hx : a.eval x = .slice (some ⟨b, oo, none⟩) m c) (hm : ms.length = m)
    (h0 : ∀ i l, ms[i]? = some l → LkAt w b (oo + i * 3) l) (hl : ls.length + ms.length ≤ 1073741824) (hB : B ≤ w.heap.size)
    (h : ∀ a' N c' w', OK3 w' B (.slice a' N c') (ls ++ ms) → w.grownBy w' v.ownBlock → K (a.put o.dst (.slice a' N c')) w') :
    if Region.wanted o (yielded ops a.tmps) = true then Oper.wp Try.prog o a w K Q else E := by
  subst hm
  obtain ⟨i0, hi, hz0, hz1, hz2⟩ := info_parts Try.infoLink
  obtain ⟨v', w', hr, h2, h3, -, -⟩ := run_append_own_at (P := Try.prog) w B 27 o.type 55 i0 _ 3 24 Try.underlying27 hi hz0 hz1 hz2 rfl (by decide) v ls.length (lkc ls) hown ⟨b, oo, none⟩ ms.length c (lkc ms) (lkc_len ms) (by
    intro j u hj
    rw [Addr.add_lit]
    obtain ⟨i, l, h1, h2⟩ := lkc_at hj
    obtain ⟨e0, e1, e2⟩ := h0 i l h1
    rcases h2 with ⟨rfl, rfl⟩ | ⟨rfl, rfl⟩ | ⟨rfl, rfl⟩
    · exact e0
    · exact e1
    · exact e2) (by
    intro u hu
    obtain ⟨j, hj, rfl⟩ := List.mem_iff_getElem.1 hu
    obtain ⟨i, l, h1, h2⟩ := lkc_at (List.getElem?_eq_getElem hj)
    rcases h2 with ⟨-, h2⟩ | ⟨-, h2⟩ | ⟨-, h2⟩ <;> rw [h2] <;> rfl) (by unfold maxLen; omega) (by omega) hB
  have h4 : OK3 w' B v' (ls ++ ms) := by
    unfold OK3
    rw [lkc_append, List.length_append]
    exact h2
  obtain ⟨a', c', rfl⟩ := ok3_form h4
  have hw : Region.wanted o (yielded ops a.tmps) = true := by simp [Region.wanted, hgd]
  rw [if_pos hw]
  unfold Oper.wp execOp
  simp only [ho, resolve, invoke, builtin, Sem.run_bind, Sem.run_pure, Result.andThen_ok, List.map_toArray, List.map_cons, List.map_nil, hs, hx, hr]
  exact h _ _ _ w' h4 h3

theorem OK3.fresh (w : World) (B : Nat) (hB : B ≤ w.heap.size) : OK3 (w.alloc (Obj.cells #[] 55)) B (.slice (some ⟨w.heap.size, 0, none⟩) 0 0) [] :=
  ⟨rfl, .inr ⟨w.heap.size, 0, #[], rfl, hB, heap_alloc_new _ _, Nat.le_refl _, by unfold maxLen; omega, rfl, rfl⟩⟩

set_option maxHeartbeats 1000000 in
set_option maxRecDepth 100000 in
theorem l7Copy_any (z : Int) (g n c : Nat) (ls : List Lk) (w : World) (hr : RdK w (some ⟨g, 0, none⟩) ls) (hn : ls.length = n) :
    Calls Try.prog 48 #[.agg #[.int .i64 z, .slice (some ⟨g, 0, none⟩) n c]] w fun e w' => ∃ v, e = .returned (.agg #[.int .i64 z, v]) ∧ OK3 w' w.heap.size v ls ∧ Below w.heap.size w w' := by
  have hl2 := hr.1
  have h2 : Below w.heap.size w ((w.alloc (Obj.cells #[.int .i64 z, .slice (some ⟨g, 0, none⟩) n c] 29)).alloc (Obj.cells #[.int .i64 0, .slice none 0 0] 29)) := ((Below.refl _ _).alloc (Nat.le_refl _) _).alloc (by simp) _
  have XF : Hid (Bx ((w.alloc (Obj.cells #[.int .i64 z, .slice (some ⟨g, 0, none⟩) n c] 29)).alloc (Obj.cells #[.int .i64 0, .slice none 0 0] 29)) w.heap.size #[.int .i64 z, .slice (some ⟨g, 0, none⟩) n c] 29) := (Bx.new w #[.int .i64 z, .slice (some ⟨g, 0, none⟩) n c] 29).alloc _
  have XR : Hid (Bx ((w.alloc (Obj.cells #[.int .i64 z, .slice (some ⟨g, 0, none⟩) n c] 29)).alloc (Obj.cells #[.int .i64 0, .slice none 0 0] 29)) (w.heap.size + 1) #[.int .i64 0, .slice none 0 0] 29) := by
    have := Bx.new (w.alloc (Obj.cells #[.int .i64 z, .slice (some ⟨g, 0, none⟩) n c] 29)) #[.int .i64 0, .slice none 0 0] 29
    rwa [World.size_alloc] at this
  have HR := kide (hr.later h2)
  have H2 := kide h2
  have HN := kide hn
  clear hr hn h2
  go_enter Try.func48, Try.ntmps48
  go_wp2_with fail
  generalize (w.alloc (Obj.cells #[.int .i64 z, .slice (some ⟨g, 0, none⟩) n c] 29)).alloc (Obj.cells #[.int .i64 0, .slice none 0 0] 29) = w0 at *
  refine wp_region_x (SA := fun u => u.cell? ⟨w.heap.size, 0, none⟩ = some (Value.int .i64 z) ∧ u.cell? ⟨w.heap.size, 1, none⟩ = some (Value.slice (some ⟨g, 0, none⟩) n c)) (SB := fun _ => True) (k := 7) (by kernel_rfl) ?_
  have hbd : Below w0.heap.size w0 w0.drew := (Below.refl _ _).drew
  have XF0 := kide (XF.out.later hbd)
  have XR0 := kide (XR.out.later hbd)
  have HR0 := kide (HR.out.later hbd)
  have B0 := kide H2.out.drew
  clear hbd XF XR HR H2
  generalize w0.drew = u0 at *
  have HRL : Hid (∀ u, RdK u (some ⟨g, 0, none⟩) ls → ∀ i l, ls[i]? = some l → LkAt u g (0 + i * 3) l) := fun u hu i l hi => by
    obtain ⟨-, -, h0 | ⟨b, o, hb, hc⟩⟩ := hu
    · rw [h0] at hi; simp at hi
    · cases hb
      exact hc i l hi
  have hs0 : Hid ((fun u => u.cell? ⟨w.heap.size, 0, none⟩ = some (Value.int .i64 z) ∧ u.cell? ⟨w.heap.size, 1, none⟩ = some (Value.slice (some ⟨g, 0, none⟩) n c)) u0) := ⟨XF0.out.cell 0, XF0.out.cell 1⟩
  try go_simp
  refine wpAnyX_both (T := fun _ => True) (i := 0) (v := Value.pointer (some ⟨w.heap.size, 0, none⟩)) rfl (by kernel_rfl) (by kernel_rfl) (by kernel_rfl) (fun _ _ _ h => h) (by decide) (fun _ _ => trivial) (fun _ _ => trivial) (Sx.before (by kernel_rfl) hs0.out) (Or.inl ⟨by rfl, fun u hu => by go_simp⟩) ?_
  try go_simp
  refine wpAnyX_take (i := 1) (v := Value.int .i64 z) rfl (by kernel_rfl) (by kernel_rfl) (by kernel_rfl) (fun _ _ _ h => h) (by decide) (by kernel_rfl) (by kernel_rfl) hs0.out (Or.inl ⟨by rfl, fun u hu => by obtain ⟨e1, e2⟩ := hu; go_simp⟩) ?_
  try go_simp
  refine wpAnyX_both (T := fun _ => True) (i := 3) (v := Value.pointer (some ⟨w.heap.size, 1, none⟩)) rfl (by kernel_rfl) (by kernel_rfl) (by kernel_rfl) (fun _ _ _ h => h) (by decide) (fun _ _ => trivial) (fun _ _ => trivial) (Sx.before (by kernel_rfl) hs0.out) (Or.inl ⟨by rfl, fun u hu => by go_simp⟩) ?_
  try go_simp
  refine wpAnyX_take (i := 4) (v := Value.slice (some ⟨g, 0, none⟩) n c) rfl (by kernel_rfl) (by kernel_rfl) (by kernel_rfl) (fun _ _ _ h => h) (by decide) (by kernel_rfl) (by kernel_rfl) hs0.out (Or.inl ⟨by rfl, fun u hu => by obtain ⟨e1, e2⟩ := hu; go_simp⟩) ?_
  try go_simp
  refine wpAnyX_ready (rs := [2]) (by kernel_rfl) (by simp) (AllX.cons rfl (fun K hK => ?_) AllX.nil)
  go_simp
  have hbx : Below u0.heap.size u0 (u0.alloc (Obj.cells #[] 55)) := (Below.refl _ _).alloc (Nat.le_refl _) _
  have XF1 := kide (XF0.out.later hbx)
  have XR1 := kide (XR0.out.later hbx)
  have HR1 := kide (HR0.out.later hbx)
  have OR1 := kide (OK3.fresh u0 w.heap.size B0.out.size)
  have B1 : Hid (Below w.heap.size w (u0.alloc (Obj.cells #[] 55))) := B0.out.alloc B0.out.size _
  obtain ⟨b7, hb7⟩ : ∃ x, u0.heap.size = x := ⟨_, rfl⟩
  rw [hb7] at OR1 ⊢
  clear hb7 hbx
  generalize u0.alloc (Obj.cells #[] 55) = u1 at *
  have hs1 : Hid ((fun u => u.cell? ⟨w.heap.size, 0, none⟩ = some (Value.int .i64 z) ∧ u.cell? ⟨w.heap.size, 1, none⟩ = some (Value.slice (some ⟨g, 0, none⟩) n c)) u1) := ⟨XF1.out.cell 0, XF1.out.cell 1⟩
  refine hK _ _ (Sx.before (by kernel_rfl) hs1.out) ?_
  clear hK K
  try go_simp
  refine wpAnyX_ready (rs := [5]) (by kernel_rfl) (by simp) (AllX.cons rfl (fun K hK => ?_) AllX.nil)
  refine step_appLs _ rfl _ _ rfl w.heap.size (Value.slice (some ⟨b7, 0, none⟩) 0 0) [] ls (by first | rfl | simp [Act.eval]) OR1.out g 0 c n (by first | rfl | simp [Act.eval]) HN.out (HRL.out _ HR1.out) (by simp; omega) B1.out.size ?_
  intro a2 n2 c2 u2 ho2 hg2
  have XF2 := kide (XF1.out.far3 OR1.out hg2 (by decide))
  have XR2 := kide (XR1.out.far3 OR1.out hg2 (by decide))
  have OR2 : Hid (OK3 u2 w.heap.size (Value.slice a2 n2 c2) ls) := ho2
  have B2 := kide (Below.grown B1.out hg2 B1.out.size (fun j hj => (own3_lt OR1.out hj).1))
  clear ho2 hg2
  have hs2 : Hid ((fun u => u.cell? ⟨w.heap.size, 0, none⟩ = some (Value.int .i64 z) ∧ u.cell? ⟨w.heap.size, 1, none⟩ = some (Value.slice (some ⟨g, 0, none⟩) n c)) u2) := ⟨XF2.out.cell 0, XF2.out.cell 1⟩
  refine hK _ _ (Sx.before (by kernel_rfl) hs2.out) ?_
  clear hK K
  try go_simp
  refine wpAnyX_both (T := fun _ => True) (i := 6) (v := Value.agg #[Value.int .i64 z, Value.slice a2 n2 c2]) rfl (by kernel_rfl) (by kernel_rfl) (by kernel_rfl) (fun _ _ _ h => h) (by decide) (fun _ _ => trivial) (fun _ _ => trivial) (Sx.before (by kernel_rfl) hs2.out) (Or.inl ⟨by rfl, fun u hu => by go_simp⟩) ?_
  try go_simp
  refine wpAnyX_ready (rs := [7]) (by kernel_rfl) (by simp) (AllX.cons rfl (fun K hK => ?_) AllX.nil)
  have e8 := XR2.out.cell 0
  have e9 := XR2.out.cell 1
  have f8 := XR2.out.froz 0
  have f9 := XR2.out.froz 1
  simp at e8 e9
  go_simp
  have XR3 : Hid (Bx ((u2.setCell ⟨(w.heap.size + 1), 0, none⟩ (Value.int .i64 z)).setCell ⟨(w.heap.size + 1), 1, none⟩ (Value.slice a2 n2 c2)) (w.heap.size + 1) #[Value.int .i64 z, Value.slice a2 n2 c2] 29) := (XR2.out.set 0 _).set 1 _
  have OR3 : Hid (OK3 ((u2.setCell ⟨(w.heap.size + 1), 0, none⟩ (Value.int .i64 z)).setCell ⟨(w.heap.size + 1), 1, none⟩ (Value.slice a2 n2 c2)) w.heap.size (Value.slice a2 n2 c2) ls) := own3_set (own3_set OR2.out XR2.out (by decide) _) (XR2.out.set 0 (Value.int .i64 z)) (by decide) _
  have B3 : Hid (Below w.heap.size w ((u2.setCell ⟨(w.heap.size + 1), 0, none⟩ (Value.int .i64 z)).setCell ⟨(w.heap.size + 1), 1, none⟩ (Value.slice a2 n2 c2))) := (B2.out.setCell (by simp) _).setCell (by simp) _
  generalize (u2.setCell ⟨(w.heap.size + 1), 0, none⟩ (Value.int .i64 z)).setCell ⟨(w.heap.size + 1), 1, none⟩ (Value.slice a2 n2 c2) = u3 at *
  refine hK _ _ (Sx.behind (by kernel_rfl) trivial) ?_
  clear hK K
  clear e8 e9 f8 f9
  try go_simp
  refine wpAnyX_done (by kernel_rfl) ?_ _
  skip
  go_wp2_with fail
  have z0 := XR3.out.cell 0
  have z1 := XR3.out.cell 1
  simp at z0 z1
  exact bodyPost_ret (v := .agg #[.int .i64 z, .slice a2 n2 c2]) (by simp [results, Try.results48, go_sem, z0, z1]) rfl ⟨_, rfl, OR3.out, B3.out⟩

end Go.Proofs.Ytakicdlfolhhcaa
