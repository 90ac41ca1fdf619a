/- A term node copied. -/
import Derived.Test.YteenmffhbgpahaaDoorQA
namespace Go.Proofs.YteenmffhbgpahaaDoor
set_option linter.unusedVariables false
set_option linter.unusedSimpArgs false
open Go.RowKit

set_option maxHeartbeats 1000000 in
theorem toTNode_any (s : Tc) (wa ka : Option Addr) (c1 c2 : Nat) (w : World) (hr1 : Rd w wa s.ws) (hr2 : RdI w ka s.ks) :
    Calls Tryd.prog 33 #[.agg #[.int .i64 s.op, .int .i64 s.vr, .int .i64 s.a, .int .i64 s.b, .int .i64 s.bw, .slice wa s.ws.length c1, .slice ka s.ks.length c2]] w fun e w' => ∃ g1 g2, e = .returned (.agg #[.int .i64 s.op, .int .i64 s.vr, .int .i64 s.a, .int .i64 s.b, .int .i64 s.bw, .slice (some ⟨g1, 0, none⟩) s.ws.length s.ws.length, .slice (some ⟨g2, 0, none⟩) s.ks.length s.ks.length]) ∧ w.heap.size ≤ g1 ∧ w.heap.size ≤ g2 ∧ Own w' g1 s.ws ∧ OwnI w' g2 s.ks ∧ Below w.heap.size w w' := by
  obtain ⟨op, vr, a, b, bw, ws, ks⟩ := s
  simp only [] at hr1 hr2 ⊢
  go_enter Tryd.func33, Tryd.ntmps33
  go_wp2_with fail
  have h3 : Below w.heap.size w (((w.alloc (Obj.cells #[Value.int .i64 op, Value.int .i64 vr, Value.int .i64 a, Value.int .i64 b, Value.int .i64 bw, Value.slice wa ws.length c1, Value.slice ka ks.length c2] 71)).alloc (Obj.cells #[Value.int .i64 0, Value.int .i64 0, Value.int .i64 0, Value.int .i64 0, Value.int .i64 0, Value.slice none 0 0, Value.slice none 0 0] 54)).alloc (Obj.cells #[Value.int .i64 op, Value.int .i64 vr, Value.int .i64 a, Value.int .i64 b, Value.int .i64 0, Value.slice none 0 0, Value.slice none 0 0] 54)) := (((Below.refl _ _).alloc (Nat.le_refl _) _).alloc (by simp) _).alloc (by simp; omega) _
  refine (toBits_any bw wa c1 ws _ (hr1.later h3)).mono ?_
  rintro e w1 ⟨g, rfl, hg, hown, hb⟩
  obtain ⟨hc, hf⟩ := bcell hb
  have hz : w.heap.size + 1 + 1 < w1.heap.size := by have := hb.size; simp at this; omega
  have hg3 : w.heap.size + 3 ≤ g := by simp at hg; omega
  have za0 : w1.cell? ⟨w.heap.size + 1, 0, none⟩ = some (Value.int .i64 0) := by rw [hc _ _ (by first | (simp; done) | (simp; omega))]; simp [go_sem]
  have zb0 : w1.cell? ⟨w.heap.size + 1 + 1, 0, none⟩ = some (Value.int .i64 op) := by rw [hc _ _ (by first | (simp; done) | (simp; omega))]; simp [go_sem]
  have fa0 : w1.frozen? ⟨w.heap.size + 1, 0, none⟩ = false := by rw [hf _ _ (by first | (simp; done) | (simp; omega))]; simp [go_sem]
  have fb0 : w1.frozen? ⟨w.heap.size + 1 + 1, 0, none⟩ = false := by rw [hf _ _ (by first | (simp; done) | (simp; omega))]; simp [go_sem]
  have za1 : w1.cell? ⟨w.heap.size + 1, 1, none⟩ = some (Value.int .i64 0) := by rw [hc _ _ (by first | (simp; done) | (simp; omega))]; simp [go_sem]
  have zb1 : w1.cell? ⟨w.heap.size + 1 + 1, 1, none⟩ = some (Value.int .i64 vr) := by rw [hc _ _ (by first | (simp; done) | (simp; omega))]; simp [go_sem]
  have fa1 : w1.frozen? ⟨w.heap.size + 1, 1, none⟩ = false := by rw [hf _ _ (by first | (simp; done) | (simp; omega))]; simp [go_sem]
  have fb1 : w1.frozen? ⟨w.heap.size + 1 + 1, 1, none⟩ = false := by rw [hf _ _ (by first | (simp; done) | (simp; omega))]; simp [go_sem]
  have za2 : w1.cell? ⟨w.heap.size + 1, 2, none⟩ = some (Value.int .i64 0) := by rw [hc _ _ (by first | (simp; done) | (simp; omega))]; simp [go_sem]
  have zb2 : w1.cell? ⟨w.heap.size + 1 + 1, 2, none⟩ = some (Value.int .i64 a) := by rw [hc _ _ (by first | (simp; done) | (simp; omega))]; simp [go_sem]
  have fa2 : w1.frozen? ⟨w.heap.size + 1, 2, none⟩ = false := by rw [hf _ _ (by first | (simp; done) | (simp; omega))]; simp [go_sem]
  have fb2 : w1.frozen? ⟨w.heap.size + 1 + 1, 2, none⟩ = false := by rw [hf _ _ (by first | (simp; done) | (simp; omega))]; simp [go_sem]
  have za3 : w1.cell? ⟨w.heap.size + 1, 3, none⟩ = some (Value.int .i64 0) := by rw [hc _ _ (by first | (simp; done) | (simp; omega))]; simp [go_sem]
  have zb3 : w1.cell? ⟨w.heap.size + 1 + 1, 3, none⟩ = some (Value.int .i64 b) := by rw [hc _ _ (by first | (simp; done) | (simp; omega))]; simp [go_sem]
  have fa3 : w1.frozen? ⟨w.heap.size + 1, 3, none⟩ = false := by rw [hf _ _ (by first | (simp; done) | (simp; omega))]; simp [go_sem]
  have fb3 : w1.frozen? ⟨w.heap.size + 1 + 1, 3, none⟩ = false := by rw [hf _ _ (by first | (simp; done) | (simp; omega))]; simp [go_sem]
  have za4 : w1.cell? ⟨w.heap.size + 1, 4, none⟩ = some (Value.int .i64 0) := by rw [hc _ _ (by first | (simp; done) | (simp; omega))]; simp [go_sem]
  have zb4 : w1.cell? ⟨w.heap.size + 1 + 1, 4, none⟩ = some (Value.int .i64 0) := by rw [hc _ _ (by first | (simp; done) | (simp; omega))]; simp [go_sem]
  have fa4 : w1.frozen? ⟨w.heap.size + 1, 4, none⟩ = false := by rw [hf _ _ (by first | (simp; done) | (simp; omega))]; simp [go_sem]
  have fb4 : w1.frozen? ⟨w.heap.size + 1 + 1, 4, none⟩ = false := by rw [hf _ _ (by first | (simp; done) | (simp; omega))]; simp [go_sem]
  have za5 : w1.cell? ⟨w.heap.size + 1, 5, none⟩ = some (Value.slice none 0 0) := by rw [hc _ _ (by first | (simp; done) | (simp; omega))]; simp [go_sem]
  have zb5 : w1.cell? ⟨w.heap.size + 1 + 1, 5, none⟩ = some (Value.slice none 0 0) := by rw [hc _ _ (by first | (simp; done) | (simp; omega))]; simp [go_sem]
  have fa5 : w1.frozen? ⟨w.heap.size + 1, 5, none⟩ = false := by rw [hf _ _ (by first | (simp; done) | (simp; omega))]; simp [go_sem]
  have fb5 : w1.frozen? ⟨w.heap.size + 1 + 1, 5, none⟩ = false := by rw [hf _ _ (by first | (simp; done) | (simp; omega))]; simp [go_sem]
  have za6 : w1.cell? ⟨w.heap.size + 1, 6, none⟩ = some (Value.slice none 0 0) := by rw [hc _ _ (by first | (simp; done) | (simp; omega))]; simp [go_sem]
  have zb6 : w1.cell? ⟨w.heap.size + 1 + 1, 6, none⟩ = some (Value.slice none 0 0) := by rw [hc _ _ (by first | (simp; done) | (simp; omega))]; simp [go_sem]
  have fa6 : w1.frozen? ⟨w.heap.size + 1, 6, none⟩ = false := by rw [hf _ _ (by first | (simp; done) | (simp; omega))]; simp [go_sem]
  have fb6 : w1.frozen? ⟨w.heap.size + 1 + 1, 6, none⟩ = false := by rw [hf _ _ (by first | (simp; done) | (simp; omega))]; simp [go_sem]
  have zp : w1.cell? ⟨w.heap.size, 6, none⟩ = some (Value.slice ka ks.length c2) := by rw [hc _ _ (by first | (simp; done) | (simp; omega))]; simp [go_sem]
  have HO := kide hown
  have HB := kide (h3.trans (hb.mono h3.size))
  have HR2 := kide hr2
  have hgl : g < w1.heap.size := hown.lt
  clear hown hb hr1 hr2 h3 hg hc hf
  go_wp2_with fail
  refine (toInt64S_any ka c2 ks _ (HR2.out.later ((HB.out.setCell (by simp; omega) _).setCell (by simp; omega) _))).mono ?_
  rintro e w2 ⟨rfl, hown2, hb2⟩
  obtain ⟨hc2, hf2⟩ := bcell hb2
  have hz2 : w1.heap.size ≤ w2.heap.size := by have := hb2.size; simpa using this
  have HO2 := kide (show OwnI w2 w1.heap.size ks by simpa using hown2)
  have HB2 : Hid (Below w.heap.size w w2) := Below.trans ((HB.out.setCell (by simp; omega) _).setCell (by simp; omega) _) (hb2.mono (by simp; omega))
  have HO1 : Hid (Own w2 g ws) := Own.later ((Own.other HO.out (by simp; omega) _).other (by simp; omega) _) hb2 (by simpa using hgl)
  have ya0 : w2.cell? ⟨w.heap.size + 1, 0, none⟩ = some (Value.int .i64 0) := by rw [hc2 _ _ (by first | (simp; done) | (simp; omega))]; simp [go_sem, za0]
  have yb0 : w2.cell? ⟨w.heap.size + 1 + 1, 0, none⟩ = some (Value.int .i64 op) := by rw [hc2 _ _ (by first | (simp; done) | (simp; omega))]; simp [go_sem, zb0, zb1, zb2, zb3, zb4, zb5, zb6, fb0, fb1, fb2, fb3, fb4, fb5, fb6]
  have ga0 : w2.frozen? ⟨w.heap.size + 1, 0, none⟩ = false := by rw [hf2 _ _ (by first | (simp; done) | (simp; omega))]; simp [go_sem, fa0]
  have gb0 : w2.frozen? ⟨w.heap.size + 1 + 1, 0, none⟩ = false := by rw [hf2 _ _ (by first | (simp; done) | (simp; omega))]; simp [go_sem, fb0]
  have ya1 : w2.cell? ⟨w.heap.size + 1, 1, none⟩ = some (Value.int .i64 0) := by rw [hc2 _ _ (by first | (simp; done) | (simp; omega))]; simp [go_sem, za1]
  have yb1 : w2.cell? ⟨w.heap.size + 1 + 1, 1, none⟩ = some (Value.int .i64 vr) := by rw [hc2 _ _ (by first | (simp; done) | (simp; omega))]; simp [go_sem, zb0, zb1, zb2, zb3, zb4, zb5, zb6, fb0, fb1, fb2, fb3, fb4, fb5, fb6]
  have ga1 : w2.frozen? ⟨w.heap.size + 1, 1, none⟩ = false := by rw [hf2 _ _ (by first | (simp; done) | (simp; omega))]; simp [go_sem, fa1]
  have gb1 : w2.frozen? ⟨w.heap.size + 1 + 1, 1, none⟩ = false := by rw [hf2 _ _ (by first | (simp; done) | (simp; omega))]; simp [go_sem, fb1]
  have ya2 : w2.cell? ⟨w.heap.size + 1, 2, none⟩ = some (Value.int .i64 0) := by rw [hc2 _ _ (by first | (simp; done) | (simp; omega))]; simp [go_sem, za2]
  have yb2 : w2.cell? ⟨w.heap.size + 1 + 1, 2, none⟩ = some (Value.int .i64 a) := by rw [hc2 _ _ (by first | (simp; done) | (simp; omega))]; simp [go_sem, zb0, zb1, zb2, zb3, zb4, zb5, zb6, fb0, fb1, fb2, fb3, fb4, fb5, fb6]
  have ga2 : w2.frozen? ⟨w.heap.size + 1, 2, none⟩ = false := by rw [hf2 _ _ (by first | (simp; done) | (simp; omega))]; simp [go_sem, fa2]
  have gb2 : w2.frozen? ⟨w.heap.size + 1 + 1, 2, none⟩ = false := by rw [hf2 _ _ (by first | (simp; done) | (simp; omega))]; simp [go_sem, fb2]
  have ya3 : w2.cell? ⟨w.heap.size + 1, 3, none⟩ = some (Value.int .i64 0) := by rw [hc2 _ _ (by first | (simp; done) | (simp; omega))]; simp [go_sem, za3]
  have yb3 : w2.cell? ⟨w.heap.size + 1 + 1, 3, none⟩ = some (Value.int .i64 b) := by rw [hc2 _ _ (by first | (simp; done) | (simp; omega))]; simp [go_sem, zb0, zb1, zb2, zb3, zb4, zb5, zb6, fb0, fb1, fb2, fb3, fb4, fb5, fb6]
  have ga3 : w2.frozen? ⟨w.heap.size + 1, 3, none⟩ = false := by rw [hf2 _ _ (by first | (simp; done) | (simp; omega))]; simp [go_sem, fa3]
  have gb3 : w2.frozen? ⟨w.heap.size + 1 + 1, 3, none⟩ = false := by rw [hf2 _ _ (by first | (simp; done) | (simp; omega))]; simp [go_sem, fb3]
  have ya4 : w2.cell? ⟨w.heap.size + 1, 4, none⟩ = some (Value.int .i64 0) := by rw [hc2 _ _ (by first | (simp; done) | (simp; omega))]; simp [go_sem, za4]
  have yb4 : w2.cell? ⟨w.heap.size + 1 + 1, 4, none⟩ = some (Value.int .i64 bw) := by rw [hc2 _ _ (by first | (simp; done) | (simp; omega))]; simp [go_sem, zb0, zb1, zb2, zb3, zb4, zb5, zb6, fb0, fb1, fb2, fb3, fb4, fb5, fb6]
  have ga4 : w2.frozen? ⟨w.heap.size + 1, 4, none⟩ = false := by rw [hf2 _ _ (by first | (simp; done) | (simp; omega))]; simp [go_sem, fa4]
  have gb4 : w2.frozen? ⟨w.heap.size + 1 + 1, 4, none⟩ = false := by rw [hf2 _ _ (by first | (simp; done) | (simp; omega))]; simp [go_sem, fb4]
  have ya5 : w2.cell? ⟨w.heap.size + 1, 5, none⟩ = some (Value.slice none 0 0) := by rw [hc2 _ _ (by first | (simp; done) | (simp; omega))]; simp [go_sem, za5]
  have yb5 : w2.cell? ⟨w.heap.size + 1 + 1, 5, none⟩ = some (Value.slice (some ⟨g, 0, none⟩) ws.length ws.length) := by rw [hc2 _ _ (by first | (simp; done) | (simp; omega))]; simp [go_sem, zb0, zb1, zb2, zb3, zb4, zb5, zb6, fb0, fb1, fb2, fb3, fb4, fb5, fb6]
  have ga5 : w2.frozen? ⟨w.heap.size + 1, 5, none⟩ = false := by rw [hf2 _ _ (by first | (simp; done) | (simp; omega))]; simp [go_sem, fa5]
  have gb5 : w2.frozen? ⟨w.heap.size + 1 + 1, 5, none⟩ = false := by rw [hf2 _ _ (by first | (simp; done) | (simp; omega))]; simp [go_sem, fb5]
  have ya6 : w2.cell? ⟨w.heap.size + 1, 6, none⟩ = some (Value.slice none 0 0) := by rw [hc2 _ _ (by first | (simp; done) | (simp; omega))]; simp [go_sem, za6]
  have yb6 : w2.cell? ⟨w.heap.size + 1 + 1, 6, none⟩ = some (Value.slice none 0 0) := by rw [hc2 _ _ (by first | (simp; done) | (simp; omega))]; simp [go_sem, zb0, zb1, zb2, zb3, zb4, zb5, zb6, fb0, fb1, fb2, fb3, fb4, fb5, fb6]
  have ga6 : w2.frozen? ⟨w.heap.size + 1, 6, none⟩ = false := by rw [hf2 _ _ (by first | (simp; done) | (simp; omega))]; simp [go_sem, fa6]
  have gb6 : w2.frozen? ⟨w.heap.size + 1 + 1, 6, none⟩ = false := by rw [hf2 _ _ (by first | (simp; done) | (simp; omega))]; simp [go_sem, fb6]
  clear hown2 hb2 HO HB HR2 hc2 hf2 zp za0 zb0 fa0 fb0 za1 zb1 fa1 fb1 za2 zb2 fa2 fb2 za3 zb3 fa3 fb3 za4 zb4 fa4 fb4 za5 zb5 fa5 fb5 za6 zb6 fa6 fb6
  go_wp2_with fail
  refine bodyPost_ret (v := .agg #[.int .i64 op, .int .i64 vr, .int .i64 a, .int .i64 b, .int .i64 bw, .slice (some ⟨g, 0, none⟩) ws.length ws.length, .slice (some ⟨w1.heap.size, 0, none⟩) ks.length ks.length]) (by simp [results, Tryd.results33, go_sem, ya0, yb0, ya1, yb1, ya2, yb2, ya3, yb3, ya4, yb4, ya5, yb5, ya6, yb6]) rfl ⟨g, w1.heap.size, rfl, by omega, by omega, ?_, ?_, ?_⟩
  · repeat (refine Own.other ?_ (by simp; omega) _)
    exact HO1.out
  · repeat (refine OwnI.other ?_ (by simp; omega) _)
    exact HO2.out
  · repeat (refine Below.setCell ?_ (by simp <;> omega) _)
    exact HB2.out

end Go.Proofs.YteenmffhbgpahaaDoor
