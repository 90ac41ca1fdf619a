/- How an argument that is a literal is opened; how long it is. -/
import Derived.Test.YtpkdoanccjchdaaGreatDoorZOO
namespace Go.Proofs.YtpkdoanccjchdaaGreatDoor
set_option linter.unusedVariables false
set_option linter.unusedSimpArgs false
open Go.ChangeShapes Go.WideShapes Go.ChangeAt Go.RowKit Go.Joins

set_option maxRecDepth 100000 in
theorem open_literal {H : Type} {enc : TypeId × Value → H} {W : World} {r : Reach} {b0 base : Nat} {v : Value} {d : DataW H} {p : List MemPlace}
    (hv : Value.okWide Tryz.prog W r b0 74 v) (h : DataW.Trod enc Tryz.prog W base (fun _ => true) true 74 v d p) :
    ∃ h : Lh, v = h.val ∧ TmOk W h.sa h.sn h.ss ∧ TmOk W h.ta h.tn h.ts ∧ LitOf W h := by
  obtain ⟨cs, rfl, hsz⟩ := okWide_struct Tryz.underlying74 hv
  have hC : Tryz.prog.cellsOf 74 = 4 := by kernel_rfl
  have cI : Tryz.prog.cellsOf 2 = 1 := by kernel_rfl
  have cb : Tryz.prog.cellsOf 4 = 1 := by kernel_rfl
  have cT : Tryz.prog.cellsOf 57 = 1 := by kernel_rfl
  have cN : Tryz.prog.cellsOf 55 = 1 := by kernel_rfl
  obtain ⟨fuel, hf⟩ := h
  obtain ⟨xs, m, _, _, _, hxl, hfd⟩ := DataW.trod_struct Tryz.underlying74 hf
  obtain ⟨l⟩ := cs
  match l, hsz.trans hC, xs, hxl with
  | [v0, v1, v2, v3], _, [y0, y1, y2, y3], _ =>
    have g0 := hfd 0 _ rfl
    have g1 := hfd 1 _ rfl
    have g2 := hfd 2 _ rfl
    have g3 := hfd 3 _ rfl
    simp [Value.cells, cI, cb, cT] at g0 g1 g2 g3
    obtain ⟨n0, e0, _, w0⟩ := DataW.trod_int Tryz.underlying2 g0
    obtain ⟨q, e1, _⟩ := DataW.trod_bool Tryz.underlying4 g1
    obtain ⟨us, _, _, _, _, hul, hus⟩ := DataW.trod_struct Tryz.underlying57 g2
    obtain ⟨zs, _, _, _, _, hzl, hzs⟩ := DataW.trod_struct Tryz.underlying57 g3
    match us, hul, zs, hzl with
    | [u0], _, [z0], _ =>
      have g4 := hus 0 _ rfl
      have g5 := hzs 0 _ rfl
      simp [cN] at g4 g5
      obtain ⟨a, n, c, e2, hn, hk2⟩ := open_nodes g4
      obtain ⟨a', n', c', e3, hn', hk3⟩ := open_nodes g5
      obtain ⟨hs, f1, f2⟩ := pick_nodes hn hk2
      obtain ⟨ht, f3, f4⟩ := pick_nodes hn' hk3
      simp at e0 e1
      subst e0 e1 e2 e3
      exact ⟨⟨n0, q, a, n, c, hs, a', n', c', ht⟩, rfl, f1, f3, bounds_i64 w0, f2, f4⟩

/-- Where all is short enough the literal is there. -/
theorem lit_of {W : World} {h : Lh} {L : Int} (hs : TmOk W h.sa h.sn h.ss) (ht : TmOk W h.ta h.tn h.ts) (hl : LitOf W h) (hL : 0 ≤ L) (hL2 : L ≤ 1048576) (hz : 0 ≤ szL h L) : ∃ x : Lg, x.val = h.val ∧ RdT W x.sa x.ss ∧ RdT W x.ta x.ts ∧ in64 x.id := by
  unfold szL at hz
  split at hz
  · rename_i h1
    have r1 := szTm_range h.sn h.ss L hL
    obtain ⟨xs, e1, f1⟩ := term_of hL hL2 hs hl.2.1 h1
    obtain ⟨ys, e2, f2⟩ := term_of h1 (by omega) ht hl.2.2 hz
    exact ⟨⟨h.id, h.eq, xs, h.sa, h.sc, ys, h.ta, h.tc⟩, by simp [Lg.val, Lh.val, e1, e2], f1, f2, hl.1⟩
  · omega

theorem sizes_lt (h : Lh) (L : Int) (w : World) (hL : 0 ≤ L) (hL2 : L ≤ 1048576) (hs : TmOk w h.sa h.sn h.ss) (ht : TmOk w h.ta h.tn h.ts) (hl : LitOf w h) :
    ∃ Z : Int, (∀ u, Below w.heap.size w u → Calls Tryz.prog 43 #[h.val, .int .i64 L] u fun e w' => e = .returned (.int .i64 Z) ∧ Below u.heap.size u w') ∧ (0 ≤ Z → ∃ x : Lg, x.val = h.val ∧ RdT w x.sa x.ss ∧ RdT w x.ta x.ts ∧ in64 x.id) :=
  ⟨szL h L, fun u hu => szLiteral_any h L u hL hL2 (hs.later hu) (ht.later hu), fun hz => lit_of hs ht hl hL hL2 hz⟩

end Go.Proofs.YtpkdoanccjchdaaGreatDoor
