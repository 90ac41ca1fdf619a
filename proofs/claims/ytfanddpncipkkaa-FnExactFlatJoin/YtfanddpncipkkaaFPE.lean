/- copyBits: the copy is an owned row. -/
import Derived.Test.YtfanddpncipkkaaAPW
import Derived.Test.YtfanddpncipkkaaRX
import Derived.Test.YtfanddpncipkkaaFPD
namespace Go.Proofs.Ytfanddpncipkkaa
set_option linter.unusedVariables false
set_option linter.unusedSimpArgs false
open Go.RowKit

theorem oww_low {w : World} {B B' : Nat} {v : Value} {l : List Nat} (h : OwW w B v l) (hB : B' ≤ B) : OwW w B' v l := by
  obtain ⟨h1, h2⟩ := h
  refine ⟨h1, ?_⟩
  rcases h2 with h2 | ⟨g, cap, cur, rfl, hg, hh, r⟩
  · exact .inl h2
  · exact .inr ⟨g, cap, cur, rfl, by omega, hh, r⟩
set_option maxHeartbeats 4000000 in
set_option maxRecDepth 100000 in
theorem copyO (bw : Int) (wa : Option Addr) (c n : Nat) (ws : List Nat) (w : World) (hr : Rd w wa ws) (hn : ws.length = n) (hw0 : wa = none → c = 0) :
    Calls Try.prog 55 #[.agg #[.int .i64 bw, .slice wa n c]] w fun e w' => ∃ a2 c2, e = .returned (.agg #[.int .i64 bw, .slice a2 n c2]) ∧ OwW w' w.heap.size (.slice a2 n c2) ws ∧ Below w.heap.size w w' := by
  have hb2 : Below w.heap.size w ((w.alloc (Obj.cells #[Value.int .i64 bw, Value.slice wa n c] 45)).alloc (Obj.cells #[Value.int .i64 0, Value.slice none 0 0] 45)) := ((Below.refl _ _).alloc (Nat.le_refl _) _).alloc (by simp) _
  have hr2 := hr.later hb2
  have XP := kide (Bz.later (Bz.new w #[Value.int .i64 bw, Value.slice wa n c] 45) ((Below.refl _ _).alloc (Nat.le_refl _) (Obj.cells #[Value.int .i64 0, Value.slice none 0 0] 45)))
  have XR : Hid (Bz ((w.alloc (Obj.cells #[Value.int .i64 bw, Value.slice wa n c] 45)).alloc (Obj.cells #[Value.int .i64 0, Value.slice none 0 0] 45)) (w.heap.size + 1) #[Value.int .i64 0, Value.slice none 0 0] 45) := by
    have h9 := Bz.new (w.alloc (Obj.cells #[Value.int .i64 bw, Value.slice wa n c] 45)) #[Value.int .i64 0, Value.slice none 0 0] 45
    rw [show (w.alloc (Obj.cells #[Value.int .i64 bw, Value.slice wa n c] 45)).heap.size = w.heap.size + 1 by simp] at h9
    exact h9
  have hlW : Hid (w.heap.size + 2 ≤ ((w.alloc (Obj.cells #[Value.int .i64 bw, Value.slice wa n c] 45)).alloc (Obj.cells #[Value.int .i64 0, Value.slice none 0 0] 45)).heap.size) := by show _ ≤ _; simp
  have hl := hr2.1
  have HC := kide (fun u (hu : Below w.heap.size w u) => hr.later hu)
  have HN := kide hn
  have BW := kide hb2
  clear hr hr2 hb2
  go_enter Try.func55, Try.ntmps55
  go_wp2_with fail
  generalize ((w.alloc (Obj.cells #[Value.int .i64 bw, Value.slice wa n c] 45)).alloc (Obj.cells #[Value.int .i64 0, Value.slice none 0 0] 45)) = W at *
  obtain ⟨b0, hb0⟩ : ∃ b0, w.heap.size = b0 := ⟨_, rfl⟩
  rw [hb0] at XP XR hlW
  simp only [hb0]
  have HB0 := kide hb0
  clear hb0
  refine wp_region_x (SA := fun _ => False) (SB := fun uu => uu.cell? ⟨b0, 0, none⟩ = some (Value.int .i64 bw) ∧ uu.cell? ⟨b0, 1, none⟩ = some (Value.slice wa n c)) (k := 999) (by kernel_rfl) ?_
  have hbd : Below W.heap.size W W.drew := (Below.refl _ _).drew
  have XP0 := kide (XP.out.later hbd)
  have XR0 := kide (XR.out.later hbd)
  have hu0 := kide hbd
  clear hbd
  generalize W.drew = u0 at *
  have c0_0 : u0.cell? ⟨b0, 0, none⟩ = some (Value.int .i64 bw) := XP0.out.cell 0
  have c1_0 : u0.cell? ⟨b0, 1, none⟩ = some (Value.slice wa n c) := XP0.out.cell 1
  have hs0 : Hid ((fun uu => uu.cell? ⟨b0, 0, none⟩ = some (Value.int .i64 bw) ∧ uu.cell? ⟨b0, 1, none⟩ = some (Value.slice wa n c)) u0) := ⟨c0_0, c1_0⟩
  try go_simp
  refine wpAnyX_both (T := (fun _ => True)) (i := 0) (v := Value.pointer (some ⟨b0, 0, none⟩)) rfl (by kernel_rfl) (by kernel_rfl) (by kernel_rfl) (fun _ _ _ h => by first | exact h | exact h.elim) (by decide) (fun _ _ => trivial) (fun _ _ => trivial) (Sx.behind (by kernel_rfl) hs0.out) (Or.inl ⟨by rfl, fun uu hu => by go_simp⟩) ?_
  try go_simp
  refine wpAnyX_both (T := (fun uu => uu.cell? ⟨b0, 0, none⟩ = some (Value.int .i64 bw) ∧ uu.cell? ⟨b0, 1, none⟩ = some (Value.slice wa n c))) (i := 1) (v := Value.int .i64 bw) rfl (by kernel_rfl) (by kernel_rfl) (by kernel_rfl) (fun _ _ _ h => by first | exact h | exact h.elim) (by decide) (fun _ h => h.elim) (fun _ h => h) (Sx.behind (by kernel_rfl) hs0.out) (Or.inl ⟨by rfl, fun uu hu => by obtain ⟨e0, e1⟩ := hu; go_simp⟩) ?_
  try go_simp
  refine wpAnyX_both (T := (fun _ => True)) (i := 2) (v := Value.pointer (some ⟨b0, 1, none⟩)) rfl (by kernel_rfl) (by kernel_rfl) (by kernel_rfl) (fun _ _ _ h => by first | exact h | exact h.elim) (by decide) (fun _ _ => trivial) (fun _ _ => trivial) (Sx.behind (by kernel_rfl) hs0.out) (Or.inl ⟨by rfl, fun uu hu => by go_simp⟩) ?_
  try go_simp
  refine wpAnyX_both (T := (fun uu => uu.cell? ⟨b0, 0, none⟩ = some (Value.int .i64 bw) ∧ uu.cell? ⟨b0, 1, none⟩ = some (Value.slice wa n c))) (i := 3) (v := Value.slice wa n c) rfl (by kernel_rfl) (by kernel_rfl) (by kernel_rfl) (fun _ _ _ h => by first | exact h | exact h.elim) (by decide) (fun _ h => h.elim) (fun _ h => h) (Sx.behind (by kernel_rfl) hs0.out) (Or.inl ⟨by rfl, fun uu hu => by obtain ⟨e0, e1⟩ := hu; go_simp⟩) ?_
  try go_simp
  refine wpAnyX_ready (rs := [4]) (by kernel_rfl) (by simp) (AllX.cons rfl (fun K hK => ?_) AllX.nil)
  refine step_appWr _ rfl _ _ rfl W.heap.size (.slice none 0 0) [] ws (by first | rfl | simp [Act.eval]) (OwW.nils _ _) wa c (by rw [HN.out]; first | rfl | simp [Act.eval]) hw0 (HC.out _ (BW.out.trans (hu0.out.mono BW.out.size))) (by simp; omega) hu0.out.size ?_
  intro v5 u1 how hgr
  obtain ⟨a5, c5, rfl, hn5⟩ := how.shape
  have hbg : Below W.heap.size u0 u1 := Below.grown (Below.refl _ _) hgr hu0.out.size (fun j hj => by cases hj)
  have NN1 := kide how
  have XP1 : Hid (Bz u1 b0 #[Value.int .i64 bw, Value.slice wa n c] 45) := (hbg.block b0 (by have := hlW.out; omega)).trans XP0.out
  have XR1 : Hid (Bz u1 (b0 + 1) #[Value.int .i64 0, Value.slice none 0 0] 45) := (hbg.block (b0 + 1) (by have := hlW.out; omega)).trans XR0.out
  have hu1 := kide (hu0.out.trans hbg)
  rw [List.nil_append, HN.out]
  rw [List.nil_append, HN.out] at NN1
  clear how hgr hbg hn5
  have c0_1 : u1.cell? ⟨b0, 0, none⟩ = some (Value.int .i64 bw) := XP1.out.cell 0
  have c1_1 : u1.cell? ⟨b0, 1, none⟩ = some (Value.slice wa n c) := XP1.out.cell 1
  have hs1 : Hid ((fun uu => uu.cell? ⟨b0, 0, none⟩ = some (Value.int .i64 bw) ∧ uu.cell? ⟨b0, 1, none⟩ = some (Value.slice wa n c)) u1) := ⟨c0_1, c1_1⟩
  refine hK _ _ (Sx.behind (by kernel_rfl) hs1.out) ?_
  clear hK K
  try go_simp
  refine wpAnyX_both (T := (fun _ => True)) (i := 5) (v := Value.agg #[Value.int .i64 bw, Value.slice a5 n c5]) rfl (by kernel_rfl) (by kernel_rfl) (by kernel_rfl) (fun _ _ _ h => by first | exact h | exact h.elim) (by decide) (fun _ _ => trivial) (fun _ _ => trivial) (Sx.behind (by kernel_rfl) hs1.out) (Or.inl ⟨by rfl, fun uu hu => by go_simp⟩) ?_
  try go_simp
  refine wpAnyX_ready (rs := [6]) (by kernel_rfl) (by simp) (AllX.cons rfl (fun K hK => ?_) AllX.nil)
  have e0 : u1.cell? ⟨b0 + 1, 0, none⟩ = some (Value.int .i64 0) := XR1.out.cell 0
  have e1 : u1.cell? ⟨b0 + 1, 1, none⟩ = some (Value.slice none 0 0) := XR1.out.cell 1
  have f0 := XR1.out.froz 0
  have f1 := XR1.out.froz 1
  go_simp
  have XR2 : Hid (Bz ((u1.setCell ⟨b0 + 1, 0, none⟩ (Value.int .i64 bw)).setCell ⟨b0 + 1, 1, none⟩ (Value.slice a5 n c5)) (b0 + 1) #[Value.int .i64 bw, Value.slice a5 n c5] 45) := (XR1.out.set 0 _).set 1 _
  have XP2 : Hid (Bz ((u1.setCell ⟨b0 + 1, 0, none⟩ (Value.int .i64 bw)).setCell ⟨b0 + 1, 1, none⟩ (Value.slice a5 n c5)) b0 #[Value.int .i64 bw, Value.slice wa n c] 45) := (XP1.out.other (by omega) 0 _).other (by omega) 1 _
  have NN2 : Hid (OwW ((u1.setCell ⟨b0 + 1, 0, none⟩ (Value.int .i64 bw)).setCell ⟨b0 + 1, 1, none⟩ (Value.slice a5 n c5)) W.heap.size (.slice a5 n c5) ws) := oww_set (i := 1) (oww_set (i := 0) NN1.out XR1.out (by decide) _) (XR1.out.set 0 (Value.int .i64 bw)) (by decide) _
  have BB2 : Hid (Below w.heap.size w ((u1.setCell ⟨b0 + 1, 0, none⟩ (Value.int .i64 bw)).setCell ⟨b0 + 1, 1, none⟩ (Value.slice a5 n c5))) := ((BW.out.trans (hu1.out.mono BW.out.size)).setCell (by rw [HB0.out]; exact Nat.le_succ _) _).setCell (by rw [HB0.out]; exact Nat.le_succ _) _
  clear e0 e1 f0 f1
  generalize (u1.setCell ⟨b0 + 1, 0, none⟩ (Value.int .i64 bw)).setCell ⟨b0 + 1, 1, none⟩ (Value.slice a5 n c5) = u2 at *
  have c0_2 : u2.cell? ⟨b0, 0, none⟩ = some (Value.int .i64 bw) := XP2.out.cell 0
  have c1_2 : u2.cell? ⟨b0, 1, none⟩ = some (Value.slice wa n c) := XP2.out.cell 1
  have hs2 : Hid ((fun uu => uu.cell? ⟨b0, 0, none⟩ = some (Value.int .i64 bw) ∧ uu.cell? ⟨b0, 1, none⟩ = some (Value.slice wa n c)) u2) := ⟨c0_2, c1_2⟩
  refine hK _ _ (Sx.behind (by kernel_rfl) hs2.out) ?_
  clear hK K
  try go_simp
  refine wpAnyX_done (by kernel_rfl) ?_ _
  go_wp2_with fail
  have y0 : u2.cell? ⟨b0 + 1, 0, none⟩ = some (Value.int .i64 bw) := XR2.out.cell 0
  have y1 : u2.cell? ⟨b0 + 1, 1, none⟩ = some (Value.slice a5 n c5) := XR2.out.cell 1
  exact bodyPost_ret (v := Value.agg #[Value.int .i64 bw, Value.slice a5 n c5]) (by simp [results, Try.results55, go_sem, y0, y1]) rfl ⟨a5, c5, rfl, oww_low NN2.out (by have := hlW.out; have := HB0.out; omega), BB2.out⟩

end Go.Proofs.Ytfanddpncipkkaa
