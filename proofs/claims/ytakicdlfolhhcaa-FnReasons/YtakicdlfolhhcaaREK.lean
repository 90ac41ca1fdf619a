/- The draw of a forest and two nodes. -/
import Derived.Test.YtakicdlfolhhcaaHOA
import Derived.Test.YtakicdlfolhhcaaHOB
namespace Go.Proofs.Ytakicdlfolhhcaa
set_option linter.unusedVariables false
set_option linter.unusedSimpArgs false
open Go.RowKit

theorem forest_draw (β : Nat) (a : Option Addr) (c : Nat) (bs : List Nat) (w : World) (h : Rr w β a c bs) (hba : Ah w.heap.size a bs) :
    Calls Try.prog 61 #[.pointer (some ⟨β, 0, none⟩)] w (RetFo β a c bs w) := by
  by_cases hm : (14 : Int) ≤ 2 + (bs.length : Int) / 4
  · exact forest_drawA β a c bs w h hba hm
  · exact forest_drawB β a c bs w h hba hm

/-- A drawn forest in new memory, two nodes. -/
def RetDR (w : World) (e : Ending) (w' : World) : Prop := ∃ (z x y : Int) (v : Value) (ls : List Lk), e = .returned (.tuple #[.agg #[.int .i64 z, v], .int .i64 x, .int .i64 y]) ∧ in64 z ∧ OK3 w' w.heap.size v ls ∧ ls.length ≤ 64 ∧ (∀ l ∈ ls, in64 l.1 ∧ in64 l.2.1 ∧ in64 l.2.2) ∧ Below w.heap.size w w'

theorem RdB.ah {w : World} {a : Option Addr} {bs : List Nat} (h : RdB w a bs) {B : Nat} (hB : w.heap.size ≤ B) : Ah B a bs := fun x e hbs => by
  obtain ⟨-, -, h | ⟨b, o, rfl, hc⟩⟩ := h
  · exact absurd h hbs
  · cases e
    have := block_lt_of_cell (hc 0 (List.length_pos_iff.2 hbs))
    exact Nat.lt_of_lt_of_le this hB

set_option maxHeartbeats 1000000 in
set_option maxRecDepth 100000 in
theorem drawReasons_any (a : Option Addr) (c : Nat) (bs : List Nat) (w : World) (h : RdB w a bs) :
    Calls Try.prog 37 #[.slice a bs.length c] w (RetDR w) := by
  have h2 : Below w.heap.size w (w.alloc (Obj.cells #[.int .i64 0, .slice none 0 0] 29)) := (Below.refl _ _).alloc (Nat.le_refl _) _
  have XR := kide (Bx.new w #[.int .i64 0, .slice none 0 0] 29)
  have HO := kide (rdOpen_any a c bs _ (h.later h2))
  have HA := kide (fun B (hB : w.heap.size ≤ B) => h.ah hB)
  have H2 := kide h2
  clear h h2
  go_enter Try.func37, Try.ntmps37
  go_wp2_with fail
  generalize w.alloc (Obj.cells #[.int .i64 0, .slice none 0 0] 29) = w0 at *
  refine Calls.mono HO.out ?_
  rintro e w1 ⟨β, rfl, hβ, hr1, hb1⟩
  have XR1 := kide (XR.out.later hb1)
  have B1 := kide (H2.out.trans (hb1.mono H2.out.size))
  have R1 := kide hr1
  have hβ1 : w.heap.size < β := Nat.lt_of_lt_of_le XR.out.lt hβ
  have hlβ : β < w1.heap.size := by obtain ⟨p, _, hk, _⟩ := hr1; exact hk.lt
  clear hb1 hr1 hβ XR H2 HO
  go_wp2_with fail
  refine Calls.mono (forest_draw β a c bs w1 R1.out (HA.out _ B1.out.size)) ?_
  rintro e w2 ⟨z, v, ls, rfl, hz, o2, hl2, hi2, hr2, hd2⟩
  obtain ⟨a2, c2, rfl⟩ := ok3_form o2
  have hbx : Below w2.heap.size w2 (w2.alloc (Obj.cells #[.int .i64 z, .slice a2 ls.length c2] 29)) := (Below.refl _ _).alloc (Nat.le_refl _) _
  have XF := kide (Bx.new w2 #[.int .i64 z, .slice a2 ls.length c2] 29)
  have keep : Hid (∀ (u u' : World) (b : Nat) (cs : Array Value), b ≠ β → Dw β u u' → Bx u b cs 29 → Bx u' b cs 29) := fun u u' b cs hb hd hx => by
    show u'.heap[b]? = _
    rw [World.grownBy.block hd _ hx.lt (by simp; omega)]
    exact hx
  have XR3 := kide ((keep.out _ _ _ _ (by omega) hd2 XR1.out).later hbx)
  have RR3 := kide (hr2.later hbx)
  have OQ3 : Hid (OK3 _ _ _ _) := own3_later o2 hbx
  have B3 : Hid (Below w.heap.size w (w2.alloc (Obj.cells #[.int .i64 z, .slice a2 ls.length c2] 29))) := (B1.out.trans (hd2.below (by omega) B1.out.size)).trans (hbx.mono (Nat.le_trans B1.out.size hd2.size))
  have hZ := kide hz
  have HL := kide hl2
  have HI := kide hi2
  have hw12 : w1.heap.size ≤ w2.heap.size := hd2.size
  have hFw : Hid (w1.heap.size ≤ w2.heap.size) := hw12
  obtain ⟨N, hN⟩ : ∃ N, ls.length = N := ⟨_, rfl⟩
  rw [hN] at XF OQ3 B3 RR3 XR3 hbx ⊢
  clear o2 hbx hz hl2 hi2 hr2 hd2 XR1 R1 B1 hw12 hN
  go_wp2_with fail
  obtain ⟨F, hF⟩ : ∃ F, w2.heap.size = F := ⟨_, rfl⟩
  have hFb : F ≠ β := by have := hFw.out; omega
  have hFR : F ≠ w.heap.size := by have := hFw.out; omega
  rw [hF] at XF ⊢
  clear hF
  generalize w2.alloc (Obj.cells #[.int .i64 z, .slice a2 N c2] 29) = w3 at *
  refine wp_region_x (SA := fun _ => False) (SB := fun u => u.cell? ⟨F, 0, none⟩ = some (Value.int .i64 z) ∧ u.cell? ⟨F, 1, none⟩ = some (Value.slice a2 N c2)) (k := 999) (by kernel_rfl) ?_
  have hbd : Below w3.heap.size w3 w3.drew := (Below.refl _ _).drew
  have XF0 := kide (XF.out.later hbd)
  have XR0 := kide (XR3.out.later hbd)
  have OQ0 : Hid (OK3 _ _ _ _) := own3_later OQ3.out hbd
  have RR0 := kide (RR3.out.later hbd)
  have B0 := kide B3.out.drew
  clear hbd XF XR3 OQ3 RR3 B3
  generalize w3.drew = u0 at *
  have hs0 : Hid ((fun u => u.cell? ⟨F, 0, none⟩ = some (Value.int .i64 z) ∧ u.cell? ⟨F, 1, none⟩ = some (Value.slice a2 N c2)) u0) := ⟨XF0.out.cell 0, XF0.out.cell 1⟩
  try go_simp
  refine wpAnyX_both (T := fun u => u.cell? ⟨F, 0, none⟩ = some (Value.int .i64 z) ∧ u.cell? ⟨F, 1, none⟩ = some (Value.slice a2 N c2)) (i := 0) (v := Value.agg #[Value.int .i64 z, Value.slice a2 N c2]) rfl (by kernel_rfl) (by kernel_rfl) (by kernel_rfl) (fun _ _ _ h => by first | exact h | exact h.elim | cases h.1) (by decide) (fun _ h => h.elim) (fun _ h => h) (Sx.behind (by kernel_rfl) hs0.out) (Or.inl ⟨by rfl, fun u hu => by obtain ⟨e1, e2⟩ := hu; go_simp⟩) ?_
  try go_simp
  refine wpAnyX_both (T := fun u => u.cell? ⟨F, 0, none⟩ = some (Value.int .i64 z) ∧ u.cell? ⟨F, 1, none⟩ = some (Value.slice a2 N c2)) (i := 1) (v := Value.pointer (some ⟨β, 0, none⟩)) rfl (by kernel_rfl) (by kernel_rfl) (by kernel_rfl) (fun _ _ _ h => by first | exact h | exact h.elim | cases h.1) (by decide) (fun _ h => h.elim) (fun _ h => h) (Sx.behind (by kernel_rfl) hs0.out) (Or.inl ⟨by rfl, fun u hu => by obtain ⟨e1, e2⟩ := hu; go_simp⟩) ?_
  try go_simp
  refine wpAnyX_both (T := fun u => u.cell? ⟨F, 0, none⟩ = some (Value.int .i64 z) ∧ u.cell? ⟨F, 1, none⟩ = some (Value.slice a2 N c2)) (i := 2) (v := Value.pointer (some ⟨F, 0, none⟩)) rfl (by kernel_rfl) (by kernel_rfl) (by kernel_rfl) (fun _ _ _ h => by first | exact h | exact h.elim | cases h.1) (by decide) (fun _ h => h.elim) (fun _ h => h) (Sx.behind (by kernel_rfl) hs0.out) (Or.inl ⟨by rfl, fun u hu => by obtain ⟨e1, e2⟩ := hu; go_simp⟩) ?_
  try go_simp
  refine wpAnyX_both (T := fun u => u.cell? ⟨F, 0, none⟩ = some (Value.int .i64 z) ∧ u.cell? ⟨F, 1, none⟩ = some (Value.slice a2 N c2)) (i := 3) (v := Value.int .i64 z) rfl (by kernel_rfl) (by kernel_rfl) (by kernel_rfl) (fun _ _ _ h => by first | exact h | exact h.elim | cases h.1) (by decide) (fun _ h => h.elim) (fun _ h => h) (Sx.behind (by kernel_rfl) hs0.out) (Or.inl ⟨by rfl, fun u hu => by obtain ⟨e1, e2⟩ := hu; go_simp⟩) ?_
  try go_simp
  refine wpAnyX_both (T := fun u => u.cell? ⟨F, 0, none⟩ = some (Value.int .i64 z) ∧ u.cell? ⟨F, 1, none⟩ = some (Value.slice a2 N c2)) (i := 4) (v := Value.int .i64 (IntKind.i64.wrap (z - 1))) rfl (by kernel_rfl) (by kernel_rfl) (by kernel_rfl) (fun _ _ _ h => by first | exact h | exact h.elim | cases h.1) (by decide) (fun _ h => h.elim) (fun _ h => h) (Sx.behind (by kernel_rfl) hs0.out) (Or.inl ⟨by rfl, fun u hu => by obtain ⟨e1, e2⟩ := hu; go_simp⟩) ?_
  try go_simp
  refine wpAnyX_both (T := fun u => u.cell? ⟨F, 0, none⟩ = some (Value.int .i64 z) ∧ u.cell? ⟨F, 1, none⟩ = some (Value.slice a2 N c2)) (i := 6) (v := Value.pointer (some ⟨β, 0, none⟩)) rfl (by kernel_rfl) (by kernel_rfl) (by kernel_rfl) (fun _ _ _ h => by first | exact h | exact h.elim | cases h.1) (by decide) (fun _ h => h.elim) (fun _ h => h) (Sx.behind (by kernel_rfl) hs0.out) (Or.inl ⟨by rfl, fun u hu => by obtain ⟨e1, e2⟩ := hu; go_simp⟩) ?_
  try go_simp
  refine wpAnyX_both (T := fun u => u.cell? ⟨F, 0, none⟩ = some (Value.int .i64 z) ∧ u.cell? ⟨F, 1, none⟩ = some (Value.slice a2 N c2)) (i := 7) (v := Value.pointer (some ⟨F, 0, none⟩)) rfl (by kernel_rfl) (by kernel_rfl) (by kernel_rfl) (fun _ _ _ h => by first | exact h | exact h.elim | cases h.1) (by decide) (fun _ h => h.elim) (fun _ h => h) (Sx.behind (by kernel_rfl) hs0.out) (Or.inl ⟨by rfl, fun u hu => by obtain ⟨e1, e2⟩ := hu; go_simp⟩) ?_
  try go_simp
  refine wpAnyX_both (T := fun u => u.cell? ⟨F, 0, none⟩ = some (Value.int .i64 z) ∧ u.cell? ⟨F, 1, none⟩ = some (Value.slice a2 N c2)) (i := 8) (v := Value.int .i64 z) rfl (by kernel_rfl) (by kernel_rfl) (by kernel_rfl) (fun _ _ _ h => by first | exact h | exact h.elim | cases h.1) (by decide) (fun _ h => h.elim) (fun _ h => h) (Sx.behind (by kernel_rfl) hs0.out) (Or.inl ⟨by rfl, fun u hu => by obtain ⟨e1, e2⟩ := hu; go_simp⟩) ?_
  try go_simp
  refine wpAnyX_both (T := fun u => u.cell? ⟨F, 0, none⟩ = some (Value.int .i64 z) ∧ u.cell? ⟨F, 1, none⟩ = some (Value.slice a2 N c2)) (i := 9) (v := Value.int .i64 (IntKind.i64.wrap (z - 1))) rfl (by kernel_rfl) (by kernel_rfl) (by kernel_rfl) (fun _ _ _ h => by first | exact h | exact h.elim | cases h.1) (by decide) (fun _ h => h.elim) (fun _ h => h) (Sx.behind (by kernel_rfl) hs0.out) (Or.inl ⟨by rfl, fun u hu => by obtain ⟨e1, e2⟩ := hu; go_simp⟩) ?_
  try go_simp
  refine wpAnyX_ready (rs := [5]) (by kernel_rfl) (by simp) (AllX.cons rfl (fun K hK => ?_) AllX.nil)
  go_simp
  refine Calls.mono (off0_any (IntKind.i64.wrap (z - 1)) (by unfold in64; rw [IntKind.wrap_i64]; omega) β a c bs u0 RR0.out) ?_
  rintro e u1 ⟨x5, rfl, -, hr1, hd1⟩
  have RR1 := kide hr1
  have B1 := kide (B0.out.trans (hd1.below (B := w.heap.size) (by omega) B0.out.size))
  have XF1 := kide (keep.out _ _ _ _ hFb hd1 XF0.out)
  have XR1 := kide (keep.out _ _ _ _ (by omega) hd1 XR0.out)
  have OQ1 := kide (OQ0.out.dw hd1 hlβ)
  clear hr1 hd1
  have hs1 : Hid ((fun u => u.cell? ⟨F, 0, none⟩ = some (Value.int .i64 z) ∧ u.cell? ⟨F, 1, none⟩ = some (Value.slice a2 N c2)) u1) := ⟨XF1.out.cell 0, XF1.out.cell 1⟩
  refine hK _ _ (Sx.behind (by kernel_rfl) hs1.out) ?_
  clear hK K
  try go_simp
  refine wpAnyX_ready (rs := [10]) (by kernel_rfl) (by simp) (AllX.cons rfl (fun K hK => ?_) AllX.nil)
  go_simp
  refine Calls.mono (off0_any (IntKind.i64.wrap (z - 1)) (by unfold in64; rw [IntKind.wrap_i64]; omega) β a c bs u1 RR1.out) ?_
  rintro e u2 ⟨x6, rfl, -, hr2, hd2⟩
  have RR2 := kide hr2
  have B2 := kide (B1.out.trans (hd2.below (B := w.heap.size) (by omega) B1.out.size))
  have XF2 := kide (keep.out _ _ _ _ hFb hd2 XF1.out)
  have XR2 := kide (keep.out _ _ _ _ (by omega) hd2 XR1.out)
  have OQ2 := kide (OQ1.out.dw hd2 hlβ)
  clear hr2 hd2
  have hs2 : Hid ((fun u => u.cell? ⟨F, 0, none⟩ = some (Value.int .i64 z) ∧ u.cell? ⟨F, 1, none⟩ = some (Value.slice a2 N c2)) u2) := ⟨XF2.out.cell 0, XF2.out.cell 1⟩
  refine hK _ _ (Sx.behind (by kernel_rfl) hs2.out) ?_
  clear hK K
  try go_simp
  refine wpAnyX_ready (rs := [11]) (by kernel_rfl) (by simp) (AllX.cons rfl (fun K hK => ?_) AllX.nil)
  have e8 := XR2.out.cell 0
  have e9 := XR2.out.cell 1
  have f8 := XR2.out.froz 0
  have f9 := XR2.out.froz 1
  simp at e8 e9
  go_simp
  have XR3 : Hid (Bx ((u2.setCell ⟨w.heap.size, 0, none⟩ (Value.int .i64 z)).setCell ⟨w.heap.size, 1, none⟩ (Value.slice a2 N c2)) w.heap.size #[Value.int .i64 z, Value.slice a2 N c2] 29) := (XR2.out.set 0 _).set 1 _
  have XF3 : Hid (Bx ((u2.setCell ⟨w.heap.size, 0, none⟩ (Value.int .i64 z)).setCell ⟨w.heap.size, 1, none⟩ (Value.slice a2 N c2)) F #[Value.int .i64 z, Value.slice a2 N c2] 29) := (XF2.out.other hFR 0 _).other hFR 1 _
  have OQ3 : Hid (OK3 ((u2.setCell ⟨w.heap.size, 0, none⟩ (Value.int .i64 z)).setCell ⟨w.heap.size, 1, none⟩ (Value.slice a2 N c2)) w1.heap.size (Value.slice a2 N c2) ls) := own3_set (own3_set OQ2.out XR2.out (by decide) _) (XR2.out.set 0 (Value.int .i64 z)) (by decide) _
  have B3 : Hid (Below w.heap.size w ((u2.setCell ⟨w.heap.size, 0, none⟩ (Value.int .i64 z)).setCell ⟨w.heap.size, 1, none⟩ (Value.slice a2 N c2))) := (B2.out.setCell (Nat.le_refl _) _).setCell (Nat.le_refl _) _
  generalize (u2.setCell ⟨w.heap.size, 0, none⟩ (Value.int .i64 z)).setCell ⟨w.heap.size, 1, none⟩ (Value.slice a2 N c2) = u3 at *
  clear e8 e9 f8 f9
  have hs3 : Hid ((fun u => u.cell? ⟨F, 0, none⟩ = some (Value.int .i64 z) ∧ u.cell? ⟨F, 1, none⟩ = some (Value.slice a2 N c2)) u3) := ⟨XF3.out.cell 0, XF3.out.cell 1⟩
  refine hK _ _ (Sx.behind (by kernel_rfl) hs3.out) ?_
  clear hK K
  try go_simp
  refine wpAnyX_both (T := fun u => u.cell? ⟨F, 0, none⟩ = some (Value.int .i64 z) ∧ u.cell? ⟨F, 1, none⟩ = some (Value.slice a2 N c2)) (i := 12) (v := Value.int .i64 x5) rfl (by kernel_rfl) (by kernel_rfl) (by kernel_rfl) (fun _ _ _ h => by first | exact h | exact h.elim | cases h.1) (by decide) (fun _ h => h.elim) (fun _ h => h) (Sx.behind (by kernel_rfl) hs3.out) (Or.inl ⟨by rfl, fun u hu => by obtain ⟨e1, e2⟩ := hu; go_simp⟩) ?_
  try go_simp
  refine wpAnyX_both (T := fun u => u.cell? ⟨F, 0, none⟩ = some (Value.int .i64 z) ∧ u.cell? ⟨F, 1, none⟩ = some (Value.slice a2 N c2)) (i := 13) (v := Value.int .i64 x6) rfl (by kernel_rfl) (by kernel_rfl) (by kernel_rfl) (fun _ _ _ h => by first | exact h | exact h.elim | cases h.1) (by decide) (fun _ h => h.elim) (fun _ h => h) (Sx.behind (by kernel_rfl) hs3.out) (Or.inl ⟨by rfl, fun u hu => by obtain ⟨e1, e2⟩ := hu; go_simp⟩) ?_
  try go_simp
  refine wpAnyX_done (by kernel_rfl) ?_ _
  skip
  have z0 := XR3.out.cell 0
  have z1 := XR3.out.cell 1
  simp at z0 z1
  go_wp2_with fail
  exact bodyPost_ret (v := .tuple #[.agg #[.int .i64 z, .slice a2 N c2], .int .i64 x5, .int .i64 x6]) (by simp [results, Try.results37, go_sem, z0, z1]) rfl ⟨z, x5, x6, _, ls, rfl, hZ.out, ok3_base OQ3.out (by omega), HL.out, HI.out, B3.out⟩

end Go.Proofs.Ytakicdlfolhhcaa
