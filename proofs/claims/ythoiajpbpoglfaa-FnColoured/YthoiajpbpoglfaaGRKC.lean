/- A graph under way whose Values have places enough: GRK's structures again. -/
import Derived.Test.YthoiajpbpoglfaaZKAF
namespace Go.Proofs.Ythoiajpbpoglfaa
set_option linter.unusedVariables false
set_option linter.unusedSimpArgs false
namespace Cp
open Go.RowKit

/-- A graph under way, but for its box. -/
structure Gc (w0 w : World) (β : Nat) (a : Option Addr) (c : Nat) (bs : List Nat) (vw : Value) (ws : List Int) (vb : Value) (ys : List Yg) : Prop where
  wid : OI w w0.heap.size vw ws
  bar : OB4 w w0.heap.size vb ys
  wok : ∀ x ∈ ws, in64 x
  yok : ∀ y ∈ ys, Wq w y.a y.ct.ws ∧ in64 y.ct.v ∧ in64 y.ct.lo ∧ in64 y.ct.bw ∧ y.ct.ws.length ≤ y.c
  rr : Rr w β a c bs
  dw : Dw β w0 w

section
variable {w0 w w' : World} {β : Nat} {a : Option Addr} {c : Nat} {bs : List Nat} {vw vb : Value} {ws : List Int} {ys : List Yg}
theorem Gc.kept (h : Gc w0 w β a c bs vw ws vb ys) (hk : Ktg w w' none) (hr : Rr w' β a c bs) (hd : Dw β w0 w') : Gc w0 w' β a c bs vw ws vb ys := by
  refine ⟨h.wid.move fun b hb => ?_, h.bar.move fun b hb => ?_, h.wok, fun y hy => ⟨(h.yok y hy).1.kept hk (fun _ _ => by simp), (h.yok y hy).2⟩, hr, hd⟩
  · obtain ⟨cur, hh⟩ := h.wid.typedG hb
    exact hk _ _ _ _ hh (.inl rfl) (by simp)
  · obtain ⟨cur, hh⟩ := h.bar.typed hb
    exact hk _ _ _ _ hh (.inr (.inl rfl)) (by simp)
theorem Gc.later (h : Gc w0 w β a c bs vw ws vb ys) (hb : Below w.heap.size w w') : Gc w0 w' β a c bs vw ws vb ys :=
  h.kept (fun b cur t fr hh _ _ => hb.block b (lt_of_block hh)) (h.rr.later hb) (h.dw.trans (Dw.of hb))
theorem Gc.far (h : Gc w0 w β a c bs vw ws vb ys) (hd : Dw β w w') (hr : Rr w' β a c bs) : Gc w0 w' β a c bs vw ws vb ys := by
  refine h.kept (fun b cur t fr hh ht _ => hd.block b (lt_of_block hh) (fun e => ?_)) hr (h.dw.trans hd)
  cases e
  obtain ⟨cur2, fr2, h2⟩ := h.rr.typeG
  rw [h2] at hh
  cases hh
  revert ht
  decide
/-- Another block is written to. -/
theorem Gc.other (h : Gc w0 w β a c bs vw ws vb ys) {g i : Nat} {cs : Array Value} {t : TypeId} (hg : Bz w g cs t) (ht : t ≠ 2 ∧ t ≠ 86 ∧ t ≠ 88 ∧ t ≠ 107) (hr0 : Rr w0 β a c bs) (hw : w0.heap.size ≤ g) (u : Value) : Gc w0 (w.setCell ⟨g, i, none⟩ u) β a c bs vw ws vb ys := by
  refine h.kept (fun b cur t2 fr hh ht2 _ => (gsc w ⟨g, i, none⟩ u).block b (lt_of_block hh) (fun e => ?_)) (hr0.far h.rr (gsc w ⟨g, i, none⟩ u) (fun k e => by cases e; exact hw)) (h.dw.own (gsc w ⟨g, i, none⟩ u) (fun k e => by cases e; exact hw))
  cases e
  have hg2 : w.heap[g]? = _ := hg
  rw [hg2] at hh
  cases hh
  rcases ht2 with rfl | rfl | rfl
  · exact ht.1 rfl
  · exact ht.2.1 rfl
  · exact ht.2.2.1 rfl
theorem Gc.low (h : Gc w0 w β a c bs vw ws vb ys) : (∀ k, vw.ownBlock = some k → w0.heap.size ≤ k) ∧ ∀ k, vb.ownBlock = some k → w0.heap.size ≤ k :=
  ⟨fun k e => (h.wid.lt e).1, fun k e => (h.bar.lt e).1⟩
/-- A width more. -/
theorem Gc.addW (h : Gc w0 w β a c bs vw ws vb ys) (hr0 : Rr w0 β a c bs) {v' : Value} {x : Int} (ho : OI w' w0.heap.size v' (ws ++ [x])) (hg : w.grownBy w' vw.ownBlock) (hx : in64 x) : Gc w0 w' β a c bs v' (ws ++ [x]) vb ys := by
  have key : ∀ b cur (t : TypeId) fr, w.heap[b]? = some (.cells cur t fr) → t ≠ 2 → some b ≠ vw.ownBlock := fun b cur t fr hh ht e => by
    obtain ⟨cur2, h2⟩ := h.wid.typedG e.symm
    rw [h2] at hh
    cases hh
    exact ht rfl
  refine ⟨ho, h.bar.move fun b hb => ?_, fun y hy => ?_, fun y hy => ⟨?_, (h.yok y hy).2⟩, hr0.far h.rr hg h.low.1, h.dw.own hg h.low.1⟩
  · obtain ⟨cur, hh⟩ := h.bar.typed hb
    exact hg.block b (lt_of_block hh) (key _ _ _ _ hh (by decide))
  · rcases List.mem_append.1 hy with hy | hy
    · exact h.wok y hy
    · rw [List.mem_singleton.1 hy]; exact hx
  · refine (h.yok y hy).1.kept (o := vw.ownBlock) (fun b cur t fr hh _ hne => hg.block b (lt_of_block hh) hne) (fun ad e => ?_)
    obtain ⟨cur, fr, hh⟩ := (h.yok y hy).1.2 ad e
    exact key _ _ _ _ hh (by decide)
/-- A bar more. -/
theorem Gc.addB (h : Gc w0 w β a c bs vw ws vb ys) (hr0 : Rr w0 β a c bs) {v' : Value} {y : Yg} (ho : OB4 w' w0.heap.size v' (ys ++ [y])) (hg : w.grownBy w' vb.ownBlock) (hy : Wq w y.a y.ct.ws ∧ in64 y.ct.v ∧ in64 y.ct.lo ∧ in64 y.ct.bw ∧ y.ct.ws.length ≤ y.c) : Gc w0 w' β a c bs vw ws v' (ys ++ [y]) := by
  have key : ∀ b cur (t : TypeId) fr, w.heap[b]? = some (.cells cur t fr) → t ≠ 86 → some b ≠ vb.ownBlock := fun b cur t fr hh ht e => by
    obtain ⟨cur2, h2⟩ := h.bar.typed e.symm
    rw [h2] at hh
    cases hh
    exact ht rfl
  have kw : ∀ (z : Yg), Wq w z.a z.ct.ws → Wq w' z.a z.ct.ws := fun z hz => hz.kept (o := vb.ownBlock) (fun b cur t fr hh _ hne => hg.block b (lt_of_block hh) hne) (fun ad e => by
    obtain ⟨cur, fr, hh⟩ := hz.2 ad e
    exact key _ _ _ _ hh (by decide))
  refine ⟨h.wid.move fun b hb => ?_, ho, h.wok, fun z hz => ?_, hr0.far h.rr hg h.low.2, h.dw.own hg h.low.2⟩
  · obtain ⟨cur, hh⟩ := h.wid.typedG hb
    exact hg.block b (lt_of_block hh) (key _ _ _ _ hh (by decide))
  · rcases List.mem_append.1 hz with hz | hz
    · exact ⟨kw z (h.yok z hz).1, (h.yok z hz).2⟩
    · rw [List.mem_singleton.1 hz]; exact ⟨kw y hy.1, hy.2⟩
/-- A width is written anew. -/
theorem Gc.setW {g n cp : Nat} (h : Gc w0 w β a c bs (.slice (some ⟨g, 0, none⟩) n cp) ws vb ys) (hr0 : Rr w0 β a c bs) {i : Nat} (hi : i < ws.length) {x : Int} (hx : in64 x) : Gc w0 (w.setCell ⟨g, i, none⟩ (.int .i64 x)) β a c bs (.slice (some ⟨g, 0, none⟩) n cp) (ws.set i x) vb ys := by
  have hg := gsc w ⟨g, i, none⟩ (.int .i64 x)
  have hlo : ∀ k, some g = some k → w0.heap.size ≤ k := fun k e => by cases e; exact (h.wid.lt rfl).1
  have key : ∀ b cur (t : TypeId) fr, w.heap[b]? = some (.cells cur t fr) → t ≠ 2 → some b ≠ some g := fun b cur t fr hh ht e => by
    cases e
    obtain ⟨cur2, h2⟩ := h.wid.typedG (b := g) rfl
    rw [h2] at hh
    cases hh
    exact ht rfl
  refine ⟨h.wid.setO hi x, h.bar.move fun b hb => ?_, fun y hy => ?_, fun y hy => ⟨?_, (h.yok y hy).2⟩, hr0.far h.rr hg hlo, h.dw.own hg hlo⟩
  · obtain ⟨cur, hh⟩ := h.bar.typed hb
    exact hg.block b (lt_of_block hh) (key _ _ _ _ hh (by decide))
  · rcases List.mem_or_eq_of_mem_set hy with hy | hy
    · exact h.wok y hy
    · rw [hy]; exact hx
  · refine (h.yok y hy).1.kept (o := some g) (fun b cur t fr hh _ hne => hg.block b (lt_of_block hh) hne) (fun ad e => ?_)
    obtain ⟨cur, fr, hh⟩ := (h.yok y hy).1.2 ad e
    exact key _ _ _ _ hh (by decide)
/-- .. with its box, and the answer's. -/
structure Gf (w0 w : World) (β : Nat) (a : Option Addr) (c : Nat) (bs : List Nat) (vw : Value) (ws : List Int) (vb : Value) (ys : List Yg) : Prop where
  core : Gc w0 w β a c bs vw ws vb ys
  rb : Bz w w0.heap.size #[.slice none 0 0, .slice none 0 0] 32
  xb : Bz w (w0.heap.size + 1) #[vw, vb] 32
theorem Gf.later (h : Gf w0 w β a c bs vw ws vb ys) (hb : Below w.heap.size w w') : Gf w0 w' β a c bs vw ws vb ys := ⟨h.core.later hb, h.rb.later hb, h.xb.later hb⟩
theorem Gf.far (h : Gf w0 w β a c bs vw ws vb ys) (hβ : β < w0.heap.size) (hd : Dw β w w') (hr : Rr w' β a c bs) : Gf w0 w' β a c bs vw ws vb ys :=
  ⟨h.core.far hd hr, bz_grown h.rb hd (fun e => by cases e; omega), bz_grown h.xb hd (fun e => by cases e; omega)⟩
/-- A width more, and the box written. -/
theorem Gf.addW (h : Gf w0 w β a c bs vw ws vb ys) (hr0 : Rr w0 β a c bs) {v' : Value} {x : Int} (ho : OI w' w0.heap.size v' (ws ++ [x])) (hg : w.grownBy w' vw.ownBlock) (hx : in64 x) : Gf w0 (w'.setCell ⟨w0.heap.size + 1, 0, none⟩ v') β a c bs v' (ws ++ [x]) vb ys ∧ Bz w' (w0.heap.size + 1) #[vw, vb] 32 := by
  have r1 := bz_grown h.rb hg (bz_typed h.rb (fun k e => h.core.wid.typedG e) (by decide))
  have x1 := bz_grown h.xb hg (bz_typed h.xb (fun k e => h.core.wid.typedG e) (by decide))
  have hc := h.core.addW hr0 ho hg hx
  refine ⟨⟨hc.other x1 (by decide) hr0 (Nat.le_succ _) _, ?_, x1.set 0 v'⟩, x1⟩
  exact bz_grown r1 (gsc w' ⟨w0.heap.size + 1, 0, none⟩ v') (fun e => by simp at e)
/-- A bar more, and the box written. -/
theorem Gf.addB (h : Gf w0 w β a c bs vw ws vb ys) (hr0 : Rr w0 β a c bs) {v' : Value} {y : Yg} (ho : OB4 w' w0.heap.size v' (ys ++ [y])) (hg : w.grownBy w' vb.ownBlock) (hy : Wq w y.a y.ct.ws ∧ in64 y.ct.v ∧ in64 y.ct.lo ∧ in64 y.ct.bw ∧ y.ct.ws.length ≤ y.c) : Gf w0 (w'.setCell ⟨w0.heap.size + 1, 1, none⟩ v') β a c bs vw ws v' (ys ++ [y]) ∧ Bz w' (w0.heap.size + 1) #[vw, vb] 32 ∧ Gc w0 w' β a c bs vw ws v' (ys ++ [y]) := by
  have r1 := bz_grown h.rb hg (bz_typed h.rb (fun k e => h.core.bar.typed e) (by decide))
  have x1 := bz_grown h.xb hg (bz_typed h.xb (fun k e => h.core.bar.typed e) (by decide))
  have hc := h.core.addB hr0 ho hg hy
  refine ⟨⟨hc.other x1 (by decide) hr0 (Nat.le_succ _) _, ?_, x1.set 1 v'⟩, x1, hc⟩
  exact bz_grown r1 (gsc w' ⟨w0.heap.size + 1, 1, none⟩ v') (fun e => by simp at e)
theorem Gf.setW {g n cp : Nat} (h : Gf w0 w β a c bs (.slice (some ⟨g, 0, none⟩) n cp) ws vb ys) (hr0 : Rr w0 β a c bs) {i : Nat} (hi : i < ws.length) {x : Int} (hx : in64 x) : Gf w0 (w.setCell ⟨g, i, none⟩ (.int .i64 x)) β a c bs (.slice (some ⟨g, 0, none⟩) n cp) (ws.set i x) vb ys := by
  have hn : ∀ {b : Nat} {cs : Array Value}, Bz w b cs 32 → some b ≠ some g := fun hB => bz_typed hB (fun k e => by cases e; exact h.core.wid.typedG rfl) (by decide)
  exact ⟨h.core.setW hr0 hi hx, bz_grown h.rb (gsc w ⟨g, i, none⟩ _) (hn h.rb), bz_grown h.xb (gsc w ⟨g, i, none⟩ _) (hn h.xb)⟩
theorem Gf.start (hr : Rr w β a c bs) : Gf w ((w.alloc (.cells #[.slice none 0 0, .slice none 0 0] 32)).alloc (.cells #[.slice none 0 0, .slice none 0 0] 32)) β a c bs (.slice none 0 0) [] (.slice none 0 0) [] := by
  have g : ∀ (u : World) (o : Obj), Below u.heap.size u (u.alloc o) := fun u o => (Below.refl _ _).alloc (Nat.le_refl _) _
  have h2 := Bz.new (w.alloc (.cells #[.slice none 0 0, .slice none 0 0] 32)) #[.slice none 0 0, .slice none 0 0] 32
  rw [World.size_alloc] at h2
  refine ⟨⟨OI.nilG _ _, OB4.nil _ _, by simp, by simp, (hr.later (g _ _)).later (g _ _), (Dw.of (g _ _)).trans (Dw.of (g _ _))⟩, (Bz.new w _ _).later (g _ _), h2⟩
/-- The bars are forgotten. -/
theorem Gf.nilB (h : Gf w0 w β a c bs vw ws vb ys) (hr0 : Rr w0 β a c bs) : Gf w0 (w.setCell ⟨w0.heap.size + 1, 1, none⟩ (.slice none 0 0)) β a c bs vw ws (.slice none 0 0) [] := by
  have hc := h.core.other (i := 1) h.xb (by decide) hr0 (Nat.le_succ _) (.slice none 0 0)
  exact ⟨⟨hc.wid, OB4.nil _ _, hc.wok, by simp, hc.rr, hc.dw⟩, bz_grown h.rb (gsc w ⟨w0.heap.size + 1, 1, none⟩ _) (fun e => by simp at e), h.xb.set 1 _⟩
/-- The widths are a row of zeros of its own. -/
theorem Gf.newW (h : Gf w0 w β a c bs vw ws vb ys) (hr0 : Rr w0 β a c bs) (M : Nat) (hM : M ≤ 1048576) :
    Gf w0 ((w.alloc (.cells (madeCells #[.int .i64 0] M) 2)).setCell ⟨w0.heap.size + 1, 0, none⟩ (.slice (some ⟨w.heap.size, 0, none⟩) M M)) β a c bs (.slice (some ⟨w.heap.size, 0, none⟩) M M) (List.replicate M 0) vb ys ∧ Bz (w.alloc (.cells (madeCells #[.int .i64 0] M) 2)) (w0.heap.size + 1) #[vw, vb] 32 := by
  have hl := h.later ((Below.refl _ _).alloc (Nat.le_refl _) (.cells (madeCells #[.int .i64 0] M) 2))
  have hz := OI.zeros w w0.heap.size M (by have := h.xb.lt; omega) hM
  have k1 : Gc w0 (w.alloc (.cells (madeCells #[.int .i64 0] M) 2)) β a c bs (.slice (some ⟨w.heap.size, 0, none⟩) M M) (List.replicate M 0) vb ys := ⟨hz, hl.core.bar, fun x hx => by rw [(List.mem_replicate.1 hx).2]; unfold in64; omega, hl.core.yok, hl.core.rr, hl.core.dw⟩
  exact ⟨⟨k1.other (i := 0) hl.xb (by decide) hr0 (Nat.le_succ _) _, bz_grown hl.rb (gsc _ ⟨w0.heap.size + 1, 0, none⟩ _) (fun e => by simp at e), hl.xb.set 0 _⟩, hl.xb⟩
/-- What a draw of a graph answers. -/
def RetGr (β : Nat) (a : Option Addr) (c : Nat) (bs : List Nat) (w : World) (e : Ending) (w' : World) : Prop := ∃ z : Gz, e = .returned z.val ∧ RdG w' z ∧ z.ks.length ≤ 201 ∧ 1 ≤ z.ks.length ∧ z.bs.length ≤ 1001 ∧ Rr w' β a c bs ∧ Dw β w w' ∧ (∀ x ∈ z.bs, x.ct.ws.length ≤ x.c) ∧ ∀ u, Ktg w' u none → RdG u z
theorem Gf.fin {a1 a2 : Option Addr} {n1 c1 n2 c2 : Nat} (h : Gf w0 w β a c bs (.slice a1 n1 c1) ws (.slice a2 n2 c2) ys) (hr0 : Rr w0 β a c bs) (hw : ws.length ≤ 201) (hw1 : 1 ≤ ws.length) (hy : ys.length ≤ 1001) :
    RetGr β a c bs w0 (.returned (.agg #[.slice a1 n1 c1, .slice a2 n2 c2])) ((w.setCell ⟨w0.heap.size, 0, none⟩ (.slice a1 n1 c1)).setCell ⟨w0.heap.size, 1, none⟩ (.slice a2 n2 c2)) := by
  have k1 := h.core.other (g := w0.heap.size) (i := 0) h.rb (by decide) hr0 (Nat.le_refl _) (.slice a1 n1 c1)
  have k2 := k1.other (g := w0.heap.size) (i := 1) (h.rb.set 0 (.slice a1 n1 c1)) (by decide) hr0 (Nat.le_refl _) (.slice a2 n2 c2)
  have far : ∀ u, Ktg ((w.setCell ⟨w0.heap.size, 0, none⟩ (.slice a1 n1 c1)).setCell ⟨w0.heap.size, 1, none⟩ (.slice a2 n2 c2)) u none → RdG u ⟨a1, c1, ws, a2, c2, ys⟩ := fun u hk => by
    obtain ⟨q1, d1, e1, r1⟩ := (k2.wid.move fun b hb => by
      obtain ⟨cur, hh⟩ := k2.wid.typedG hb
      exact hk _ _ _ _ hh (.inl rfl) (by simp)).rd (by omega) k2.wok
    obtain ⟨q2, d2, e2, r2⟩ := (k2.bar.move fun b hb => by
      obtain ⟨cur, hh⟩ := k2.bar.typed hb
      exact hk _ _ _ _ hh (.inr (.inl rfl)) (by simp)).rd (by omega) (fun y hy => ⟨((k2.yok y hy).1.kept hk (fun _ _ => by simp)).1, (k2.yok y hy).2.1, (k2.yok y hy).2.2.1, (k2.yok y hy).2.2.2.1⟩)
    cases e1
    cases e2
    exact ⟨r1, r2⟩
  obtain ⟨q1, d1, e1, r1⟩ := k2.wid.rd (by omega) k2.wok
  obtain ⟨q2, d2, e2, r2⟩ := k2.bar.rd (by omega) (fun y hy => ⟨(k2.yok y hy).1.1, (k2.yok y hy).2.1, (k2.yok y hy).2.2.1, (k2.yok y hy).2.2.2.1⟩)
  cases e1
  cases e2
  exact ⟨⟨a1, c1, ws, a2, c2, ys⟩, rfl, ⟨r1, r2⟩, hw, hw1, hy, k2.rr, k2.dw, fun x hx => (k2.yok x hx).2.2.2.2, far⟩
end

end Cp
end Go.Proofs.Ythoiajpbpoglfaa
