/- What the program's ReadTree answers. -/
import Derived.Test.YteainbakfeedpaaVG
namespace Go.Proofs.Yteainbakfeedpaa
set_option linter.unusedVariables false
set_option linter.unusedSimpArgs false
open Go.RowKit

/-- A call hands a tree of its own back, a code and a place. -/
def RetR (Z : Rs) (w : World) (e : Ending) (w' : World) : Prop :=
  ∃ (v : Value) (ns : List Nd), e = .returned (.tuple #[.agg #[v], .int .i64 (Z.2.1 : Int), .int .i64 (Z.2.2 : Int)]) ∧ ONs w' w.heap.size v ns ∧ ns.map Nd.ct = Z.1 ∧ Below w.heap.size w w'

theorem owns_base {w : World} {B B' e size n : Nat} {v : Value} {xs : List Value} (h : w.ownsRow B e size v n xs) (hb : B' ≤ B) : w.ownsRow B' e size v n xs := by
  refine ⟨h.1, ?_⟩
  rcases h.2 with h' | ⟨g, cap, cur, rfl, hB, r⟩
  · exact .inl h'
  · exact .inr ⟨g, cap, cur, rfl, Nat.le_trans hb hB, r⟩
theorem ONs.base {w : World} {B B' : Nat} {v : Value} {ns : List Nd} (h : ONs w B v ns) (hb : B' ≤ B) : ONs w B' v ns :=
  ⟨h.len, owns_base h.row hb, fun i n hi => owns_base (h.kid i n hi) hb, h.apart, h.fit⟩

set_option maxHeartbeats 1000000 in
set_option maxRecDepth 100000 in
theorem implRead_any (s : ByteArray) (w : World) (hs : s.size ≤ 9223372036854775807) :
    Calls Try.prog 12 #[.string s] w (RetR (readT s) w) := by
  by_cases hlong : 20000 < s.size
  · have hi : (20000 : Int) < (s.size : Int) := by omega
    have hz : readT s = ([], 1, 0) := by rw [readT, if_pos hlong]
    rw [hz]
    clear hz
    go_enter Try.func12, Try.ntmps12
    go_wp2_with fail
    exact bodyPost_ret (v := .tuple #[.agg #[.slice none 0 0], .int .i64 1, .int .i64 0]) (by simp [results, Try.results12, go_sem]) rfl ⟨_, [], rfl, ONs.nil _ _, rfl, (Below.refl _ _).alloc (Nat.le_refl _) _⟩
  · have hi : (s.size : Int) ≤ 20000 := by omega
    have hz : readT s = readF s (s.size + 1) 0 [] [] := by rw [readT, if_neg hlong]
    rw [hz]
    generalize hZ : readF s (s.size + 1) 0 [] [] = Z
    have HSC := hidI (fun (u : World) (B S : Nat) (hu : Sc u B S s (.slice none 0 0) (.slice none 0 0) [] []) => scan_any u B S s _ _ hu (by omega))
    rw [hZ] at HSC
    clear hz hZ
    go_enter Try.func12, Try.ntmps12
    go_wp2_with fail
    have hbk : ((w.alloc (Obj.cells #[Value.slice none 0 0] 26)).alloc (Obj.cells #[Value.string s, Value.slice none 0 0, Value.slice none 0 0] 55)).heap[w.heap.size + 1]? = some (.cells #[.string s, .slice none 0 0, .slice none 0 0] 55 (0, 0)) := by
      have := heap_alloc_new (w.alloc (Obj.cells #[Value.slice none 0 0] 26)) (Obj.cells #[Value.string s, Value.slice none 0 0, Value.slice none 0 0] 55)
      simpa using this
    have hbR : ((w.alloc (Obj.cells #[Value.slice none 0 0] 26)).alloc (Obj.cells #[Value.string s, Value.slice none 0 0, Value.slice none 0 0] 55)).heap[w.heap.size]? = some (.cells #[.slice none 0 0] 26 (0, 0)) := (Below.heap_alloc _ _ _ (by simp)).trans (heap_alloc_new _ _)
    have hb0 : Below w.heap.size w ((w.alloc (Obj.cells #[Value.slice none 0 0] 26)).alloc (Obj.cells #[Value.string s, Value.slice none 0 0, Value.slice none 0 0] 55)) := ((Below.refl _ _).alloc (Nat.le_refl _) _).alloc (by simp) _
    refine Calls.mono (HSC.out _ (w.heap.size + 1) (w.heap.size + 1) ⟨Nat.le_refl _, by simp, hbk, ONs.nil _ _, World.ownsRow_nil _ _ _ _, fun i n k h => by simp at h⟩) ?_
    generalize ((w.alloc (Obj.cells #[Value.slice none 0 0] 26)).alloc (Obj.cells #[Value.string s, Value.slice none 0 0, Value.slice none 0 0] 55)) = w1 at *
    rintro e w2 ⟨cc, aa, vN, vO, ns, op, rfl, hsc, hb2, hz0, hz1, hcc, haa⟩
    have hbR2 : w2.heap[w.heap.size]? = some (.cells #[.slice none 0 0] 26 (0, 0)) := (hb2.block _ (by omega)).trans hbR
    have B2 : Below w.heap.size w w2 := hb0.trans (hb2.mono (by omega))
    have r0 := cell_of_one hbR2
    have f0 := free_of_one hbR2
    obtain ⟨x0, x1, x2, xf⟩ := hsc.cells
    have hsl := hsc.lt
    have HN := hidI (hsc.nodes.base (show w.heap.size ≤ w.heap.size + 1 by omega))
    have HBR := hidI hbR2
    clear hsc hbR hbR2 hbk hb0 hb2 HSC
    by_cases hc0 : cc = 0
    · subst hc0
      have HZ := hidI (hz0 rfl)
      obtain ⟨aN, kN, rfl, -, -⟩ := HN.out.shape
      clear hz0 hz1
      go_wp2_with fail
      refine bodyPost_ret (v := .tuple #[.agg #[.slice aN ns.length kN], .int .i64 0, .int .i64 0]) (by simp [results, Try.results12, go_sem, r0]) rfl ?_
      rw [HZ.out]
      exact ⟨_, ns, rfl, HN.out.other grown_set HBR.out (by decide) (by decide), rfl, B2.setCell (by simp) _⟩
    · have HZ := hidI (hz1 hc0)
      have i1 : ((cc : Int) != 0) = true := bne_iff_ne.2 (by omega)
      clear hz0 hz1
      go_wp2_with fail
      refine bodyPost_ret (v := .tuple #[.agg #[.slice none 0 0], .int .i64 (cc : Int), .int .i64 (aa : Int)]) (by simp [results, Try.results12, go_sem, r0]) rfl ?_
      rw [HZ.out]
      exact ⟨_, [], rfl, ONs.nil _ _, rfl, B2.setCell (by simp) _⟩

end Go.Proofs.Yteainbakfeedpaa
