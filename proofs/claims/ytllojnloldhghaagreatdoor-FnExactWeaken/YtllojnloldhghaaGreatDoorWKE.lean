/- Copied literals, as the laws mark them. -/
import Derived.Test.YtllojnloldhghaaGreatDoorWKD
import Derived.Test.YtllojnloldhghaaGreatDoorEVQ
import Derived.Test.YtllojnloldhghaaGreatDoorZIA
namespace Go.Proofs.YtllojnloldhghaaGreatDoor
set_option linter.unusedVariables false
set_option linter.unusedSimpArgs false
open Go.RowKit

/-- A term that may be written to: all of it lies between two blocks. -/
def WrTm (w : World) (B1 B2 : Nat) (a : Option Addr) (xs : List Tg) : Prop := ∃ g f, a = some ⟨g, 0, none⟩ ∧ B1 ≤ g ∧ g < B2 ∧ w.rowIs g 116 (xs.length * 7) f ∧ TnF f xs ∧ ∀ x ∈ xs, WrT w B1 B2 x ∧ x.ct.ws.length ≤ 1048576 ∧ x.ct.ks.length ≤ 1048576

theorem WrTm.out {w w' : World} {B1 B2 C1 C2 : Nat} {a : Option Addr} {xs : List Tg} (h : WrTm w B1 B2 a xs) (ho : Out C1 C2 w w') (hd : C2 ≤ B1 ∨ B2 ≤ C1) : WrTm w' B1 B2 a xs := by
  obtain ⟨g, f, e, h1, h2, h3, h4, h5⟩ := h
  exact ⟨g, f, e, h1, h2, rowIs_out h3 ho (by omega), h4, fun x hx => ⟨(h5 x hx).1.out ho hd, (h5 x hx).2⟩⟩

theorem WrTm.later {w w' : World} {B1 B2 : Nat} {a : Option Addr} {xs : List Tg} (h : WrTm w B1 B2 a xs) (hb : Below w.heap.size w w') : WrTm w' B1 B2 a xs := h.out (Out.below (B1 := B2) (B2 := B2) hb) (.inr (Nat.le_refl _))

theorem WrTm.set {w : World} {B1 B2 b : Nat} {a : Option Addr} {xs : List Tg} (h : WrTm w B1 B2 a xs) (hd : b < B1 ∨ B2 ≤ b) (o : Nat) (v : Value) : WrTm (w.setCell ⟨b, o, none⟩ v) B1 B2 a xs := h.out (Out.grown (B1 := b) (B2 := b + 1) (grow_set (World.grownBy.refl w (some b)) o v) (Nat.le_refl _) (Nat.lt_succ_self _)) (by omega)

theorem WrTm.setp {w : World} {B1 B2 : Nat} {p : Addr} {a : Option Addr} {xs : List Tg} (h : WrTm w B1 B2 a xs) (hd : p.block < B1 ∨ B2 ≤ p.block) (v : Value) : WrTm (w.setCell p v) B1 B2 a xs :=
  h.out (C1 := p.block) (C2 := p.block + 1) ⟨rfl, rfl, rfl, by simp, fun k hk hne => heap_setCell_other w p k v (fun e => by omega)⟩ (by omega)

theorem WrTm.mono {w : World} {B B1 B2 : Nat} {a : Option Addr} {xs : List Tg} (h : WrTm w B1 B2 a xs) (hB : B ≤ B1) : WrTm w B B2 a xs := by
  obtain ⟨g, f, e, h1, h2, h3, h4, h5⟩ := h
  refine ⟨g, f, e, by omega, h2, h3, h4, fun x hx => ⟨?_, (h5 x hx).2⟩⟩
  obtain ⟨⟨g1, z1, a1, a2, a3, a4⟩, g2, z2, b1, b2, b3, b4⟩ := (h5 x hx).1
  exact ⟨⟨g1, z1, a1, by omega, a3, a4⟩, g2, z2, b1, by omega, b3, b4⟩

theorem toTerm_wm (a : Option Addr) (c : Nat) (xs : List Tg) (w : World) (hr : RdT w a xs) (n : Nat) (hn : xs.length = n) :
    Calls Tryz.prog 73 #[.agg #[.slice a n c]] w fun e w' => ∃ (g : Nat) (ms : List Tg), e = .returned (.agg #[.slice (some ⟨g, 0, none⟩) n n]) ∧ ms.map Tg.ct = xs.map Tg.ct ∧ RdT w' (some ⟨g, 0, none⟩) ms ∧ FarT w.heap.size (some ⟨g, 0, none⟩) ms ∧ WrTm w' w.heap.size w'.heap.size (some ⟨g, 0, none⟩) ms ∧ Below w.heap.size w w' := by
  refine Calls.mono (toTerm_own a c xs w hr n hn) ?_
  rintro e w' ⟨g, ms, h1, h2, h3, h4, h5, ⟨f, h6, h7⟩, h8⟩
  refine ⟨g, ms, h1, h2, h3, h4, ⟨g, f, rfl, h5, rowIs_lt h6, by rw [len_of_tc h2 hn]; exact h6, TgOwn.tnf h7, fun x hx => ?_⟩, h8⟩
  obtain ⟨i, hi, e⟩ := List.mem_iff_getElem.1 hx
  have hi' : ms[i]? = some x := by rw [List.getElem?_eq_getElem hi, e]
  refine ⟨(h7 i x hi').wr h5, ?_⟩
  obtain ⟨-, h | ⟨b, o, -, hc⟩⟩ := h3
  · subst h; simp at hx
  · obtain ⟨-, r1, r2, -⟩ := hc i x hi'
    exact ⟨r1.1, r2.1⟩

set_option maxHeartbeats 1000000 in
theorem toLiteral_own (z : Lg) (w : World) (h1 : RdT w z.sa z.ss) (h2 : RdT w z.ta z.ts) :
    Calls Tryz.prog 41 #[z.val] w fun e w' => ∃ (y : Lg) (M H : Nat), e = .returned y.val ∧ y.ct = z.ct ∧ RdT w' y.sa y.ss ∧ FarT w.heap.size y.sa y.ss ∧ RdT w' y.ta y.ts ∧ FarT w.heap.size y.ta y.ts ∧ Below w.heap.size w w' ∧ (w.heap.size ≤ M ∧ M ≤ H ∧ H ≤ w'.heap.size) ∧ WrTm w' w.heap.size M y.sa y.ss ∧ WrTm w' M H y.ta y.ts := by
  obtain ⟨id, q, ss, sa, sc, ts, ta, tc⟩ := z
  simp only [Lg.val, Lg.ct] at h1 h2 ⊢
  have H1 := kide (fun u (hu : Below w.heap.size w u) => toTerm_wm sa sc ss u (h1.later hu) _ rfl)
  have H2 := kide (fun u (hu : Below w.heap.size w u) => toTerm_wm ta tc ts u (h2.later hu) _ rfl)
  clear h1 h2
  have h3 : Below w.heap.size w (((w.alloc (Obj.cells #[Value.int .i64 id, Value.bool q, Value.slice sa ss.length sc, Value.slice ta ts.length tc] 65)).alloc (Obj.cells #[Value.int .i64 0, Value.bool false, Value.slice none 0 0, Value.slice none 0 0] 78)).alloc (Obj.cells #[Value.int .i64 id, Value.bool q, Value.slice none 0 0, Value.slice none 0 0] 78)) := (((Below.refl _ _).alloc (Nat.le_refl _) _).alloc (by simp) _).alloc (by simp; omega) _
  have B0 := kide h3
  clear h3
  go_enter Tryz.func41, Tryz.ntmps41
  go_wp2_with fail
  refine Calls.mono (H1.out _ B0.out) ?_
  rintro e w1 ⟨g1, m1, rfl, hm1, r1, f1, t1, hb1⟩
  have hz1 : w.heap.size + 3 ≤ w1.heap.size := by have := hb1.size; simp at this; omega
  have F1 : Hid (FarT (w.heap.size + 3) (some ⟨g1, 0, none⟩) m1) := by have h := f1; simp at h; exact h
  have T1 : Hid (WrTm w1 (w.heap.size + 3) w1.heap.size (some ⟨g1, 0, none⟩) m1) := by have h := t1; simp at h; exact h
  have HZ1 := kide hz1
  have p3 : w1.cell? ⟨w.heap.size, 3, none⟩ = some (Value.slice ta ts.length tc) := by rw [kcell hb1 _ _ (by first | (simp; done) | (simp; omega))]; simp [go_sem]
  have qa0 : w1.cell? ⟨w.heap.size + 1, 0, none⟩ = some (Value.int .i64 0) := by rw [kcell hb1 _ _ (by first | (simp; done) | (simp; omega))]; simp [go_sem]
  have qa1 : w1.cell? ⟨w.heap.size + 1, 1, none⟩ = some (Value.bool false) := by rw [kcell hb1 _ _ (by first | (simp; done) | (simp; omega))]; simp [go_sem]
  have qa2 : w1.cell? ⟨w.heap.size + 1, 2, none⟩ = some (Value.slice none 0 0) := by rw [kcell hb1 _ _ (by first | (simp; done) | (simp; omega))]; simp [go_sem]
  have qa3 : w1.cell? ⟨w.heap.size + 1, 3, none⟩ = some (Value.slice none 0 0) := by rw [kcell hb1 _ _ (by first | (simp; done) | (simp; omega))]; simp [go_sem]
  have qb0 : w1.cell? ⟨w.heap.size + 1 + 1, 0, none⟩ = some (Value.int .i64 id) := by rw [kcell hb1 _ _ (by first | (simp; done) | (simp; omega))]; simp [go_sem]
  have qb1 : w1.cell? ⟨w.heap.size + 1 + 1, 1, none⟩ = some (Value.bool q) := by rw [kcell hb1 _ _ (by first | (simp; done) | (simp; omega))]; simp [go_sem]
  have qb2 : w1.cell? ⟨w.heap.size + 1 + 1, 2, none⟩ = some (Value.slice none 0 0) := by rw [kcell hb1 _ _ (by first | (simp; done) | (simp; omega))]; simp [go_sem]
  have qb3 : w1.cell? ⟨w.heap.size + 1 + 1, 3, none⟩ = some (Value.slice none 0 0) := by rw [kcell hb1 _ _ (by first | (simp; done) | (simp; omega))]; simp [go_sem]
  have fa0 : w1.frozen? ⟨w.heap.size + 1, 0, none⟩ = false := by rw [kfrozL hb1 _ _ (by first | (simp; done) | (simp; omega))]; simp [go_sem]
  have fb0 : w1.frozen? ⟨w.heap.size + 1 + 1, 0, none⟩ = false := by rw [kfrozL hb1 _ _ (by first | (simp; done) | (simp; omega))]; simp [go_sem]
  have fa1 : w1.frozen? ⟨w.heap.size + 1, 1, none⟩ = false := by rw [kfrozL hb1 _ _ (by first | (simp; done) | (simp; omega))]; simp [go_sem]
  have fb1 : w1.frozen? ⟨w.heap.size + 1 + 1, 1, none⟩ = false := by rw [kfrozL hb1 _ _ (by first | (simp; done) | (simp; omega))]; simp [go_sem]
  have fa2 : w1.frozen? ⟨w.heap.size + 1, 2, none⟩ = false := by rw [kfrozL hb1 _ _ (by first | (simp; done) | (simp; omega))]; simp [go_sem]
  have fb2 : w1.frozen? ⟨w.heap.size + 1 + 1, 2, none⟩ = false := by rw [kfrozL hb1 _ _ (by first | (simp; done) | (simp; omega))]; simp [go_sem]
  have fa3 : w1.frozen? ⟨w.heap.size + 1, 3, none⟩ = false := by rw [kfrozL hb1 _ _ (by first | (simp; done) | (simp; omega))]; simp [go_sem]
  have fb3 : w1.frozen? ⟨w.heap.size + 1 + 1, 3, none⟩ = false := by rw [kfrozL hb1 _ _ (by first | (simp; done) | (simp; omega))]; simp [go_sem]
  have B1 := kide (B0.out.trans (hb1.mono B0.out.size))
  have R1 := kide r1
  have M1 := kide hm1
  clear hb1 r1 f1 t1 hm1 B0 H1
  have uc03 : (w1.setCell ⟨w.heap.size + 1 + 1, 2, none⟩ (Value.slice (some ⟨g1, 0, none⟩) ss.length ss.length)).cell? ⟨w.heap.size, 3, none⟩ = some (Value.slice ta ts.length tc) := by simp [go_sem, p3, qa0, qa1, qa2, qa3, qb0, qb1, qb2, qb3, fa0, fb0, fa1, fb1, fa2, fb2, fa3, fb3]
  have uc10 : (w1.setCell ⟨w.heap.size + 1 + 1, 2, none⟩ (Value.slice (some ⟨g1, 0, none⟩) ss.length ss.length)).cell? ⟨w.heap.size + 1, 0, none⟩ = some (Value.int .i64 0) := by simp [go_sem, p3, qa0, qa1, qa2, qa3, qb0, qb1, qb2, qb3, fa0, fb0, fa1, fb1, fa2, fb2, fa3, fb3]
  have uc11 : (w1.setCell ⟨w.heap.size + 1 + 1, 2, none⟩ (Value.slice (some ⟨g1, 0, none⟩) ss.length ss.length)).cell? ⟨w.heap.size + 1, 1, none⟩ = some (Value.bool false) := by simp [go_sem, p3, qa0, qa1, qa2, qa3, qb0, qb1, qb2, qb3, fa0, fb0, fa1, fb1, fa2, fb2, fa3, fb3]
  have uc12 : (w1.setCell ⟨w.heap.size + 1 + 1, 2, none⟩ (Value.slice (some ⟨g1, 0, none⟩) ss.length ss.length)).cell? ⟨w.heap.size + 1, 2, none⟩ = some (Value.slice none 0 0) := by simp [go_sem, p3, qa0, qa1, qa2, qa3, qb0, qb1, qb2, qb3, fa0, fb0, fa1, fb1, fa2, fb2, fa3, fb3]
  have uc13 : (w1.setCell ⟨w.heap.size + 1 + 1, 2, none⟩ (Value.slice (some ⟨g1, 0, none⟩) ss.length ss.length)).cell? ⟨w.heap.size + 1, 3, none⟩ = some (Value.slice none 0 0) := by simp [go_sem, p3, qa0, qa1, qa2, qa3, qb0, qb1, qb2, qb3, fa0, fb0, fa1, fb1, fa2, fb2, fa3, fb3]
  have uc20 : (w1.setCell ⟨w.heap.size + 1 + 1, 2, none⟩ (Value.slice (some ⟨g1, 0, none⟩) ss.length ss.length)).cell? ⟨w.heap.size + 1 + 1, 0, none⟩ = some (Value.int .i64 id) := by simp [go_sem, p3, qa0, qa1, qa2, qa3, qb0, qb1, qb2, qb3, fa0, fb0, fa1, fb1, fa2, fb2, fa3, fb3]
  have uc21 : (w1.setCell ⟨w.heap.size + 1 + 1, 2, none⟩ (Value.slice (some ⟨g1, 0, none⟩) ss.length ss.length)).cell? ⟨w.heap.size + 1 + 1, 1, none⟩ = some (Value.bool q) := by simp [go_sem, p3, qa0, qa1, qa2, qa3, qb0, qb1, qb2, qb3, fa0, fb0, fa1, fb1, fa2, fb2, fa3, fb3]
  have uc22 : (w1.setCell ⟨w.heap.size + 1 + 1, 2, none⟩ (Value.slice (some ⟨g1, 0, none⟩) ss.length ss.length)).cell? ⟨w.heap.size + 1 + 1, 2, none⟩ = some (Value.slice (some ⟨g1, 0, none⟩) ss.length ss.length) := by simp [go_sem, p3, qa0, qa1, qa2, qa3, qb0, qb1, qb2, qb3, fa0, fb0, fa1, fb1, fa2, fb2, fa3, fb3]
  have uc23 : (w1.setCell ⟨w.heap.size + 1 + 1, 2, none⟩ (Value.slice (some ⟨g1, 0, none⟩) ss.length ss.length)).cell? ⟨w.heap.size + 1 + 1, 3, none⟩ = some (Value.slice none 0 0) := by simp [go_sem, p3, qa0, qa1, qa2, qa3, qb0, qb1, qb2, qb3, fa0, fb0, fa1, fb1, fa2, fb2, fa3, fb3]
  have uf10 : (w1.setCell ⟨w.heap.size + 1 + 1, 2, none⟩ (Value.slice (some ⟨g1, 0, none⟩) ss.length ss.length)).frozen? ⟨w.heap.size + 1, 0, none⟩ = false := by simp [go_sem, p3, qa0, qa1, qa2, qa3, qb0, qb1, qb2, qb3, fa0, fb0, fa1, fb1, fa2, fb2, fa3, fb3]
  have uf11 : (w1.setCell ⟨w.heap.size + 1 + 1, 2, none⟩ (Value.slice (some ⟨g1, 0, none⟩) ss.length ss.length)).frozen? ⟨w.heap.size + 1, 1, none⟩ = false := by simp [go_sem, p3, qa0, qa1, qa2, qa3, qb0, qb1, qb2, qb3, fa0, fb0, fa1, fb1, fa2, fb2, fa3, fb3]
  have uf12 : (w1.setCell ⟨w.heap.size + 1 + 1, 2, none⟩ (Value.slice (some ⟨g1, 0, none⟩) ss.length ss.length)).frozen? ⟨w.heap.size + 1, 2, none⟩ = false := by simp [go_sem, p3, qa0, qa1, qa2, qa3, qb0, qb1, qb2, qb3, fa0, fb0, fa1, fb1, fa2, fb2, fa3, fb3]
  have uf13 : (w1.setCell ⟨w.heap.size + 1 + 1, 2, none⟩ (Value.slice (some ⟨g1, 0, none⟩) ss.length ss.length)).frozen? ⟨w.heap.size + 1, 3, none⟩ = false := by simp [go_sem, p3, qa0, qa1, qa2, qa3, qb0, qb1, qb2, qb3, fa0, fb0, fa1, fb1, fa2, fb2, fa3, fb3]
  have uf20 : (w1.setCell ⟨w.heap.size + 1 + 1, 2, none⟩ (Value.slice (some ⟨g1, 0, none⟩) ss.length ss.length)).frozen? ⟨w.heap.size + 1 + 1, 0, none⟩ = false := by simp [go_sem, p3, qa0, qa1, qa2, qa3, qb0, qb1, qb2, qb3, fa0, fb0, fa1, fb1, fa2, fb2, fa3, fb3]
  have uf21 : (w1.setCell ⟨w.heap.size + 1 + 1, 2, none⟩ (Value.slice (some ⟨g1, 0, none⟩) ss.length ss.length)).frozen? ⟨w.heap.size + 1 + 1, 1, none⟩ = false := by simp [go_sem, p3, qa0, qa1, qa2, qa3, qb0, qb1, qb2, qb3, fa0, fb0, fa1, fb1, fa2, fb2, fa3, fb3]
  have uf22 : (w1.setCell ⟨w.heap.size + 1 + 1, 2, none⟩ (Value.slice (some ⟨g1, 0, none⟩) ss.length ss.length)).frozen? ⟨w.heap.size + 1 + 1, 2, none⟩ = false := by simp [go_sem, p3, qa0, qa1, qa2, qa3, qb0, qb1, qb2, qb3, fa0, fb0, fa1, fb1, fa2, fb2, fa3, fb3]
  have uf23 : (w1.setCell ⟨w.heap.size + 1 + 1, 2, none⟩ (Value.slice (some ⟨g1, 0, none⟩) ss.length ss.length)).frozen? ⟨w.heap.size + 1 + 1, 3, none⟩ = false := by simp [go_sem, p3, qa0, qa1, qa2, qa3, qb0, qb1, qb2, qb3, fa0, fb0, fa1, fb1, fa2, fb2, fa3, fb3]
  have BW1 : Hid (Below w.heap.size w (w1.setCell ⟨w.heap.size + 1 + 1, 2, none⟩ (Value.slice (some ⟨g1, 0, none⟩) ss.length ss.length))) := B1.out.setCell (by first | (simp; done) | (simp; omega)) _
  have RW1 : Hid (RdT (w1.setCell ⟨w.heap.size + 1 + 1, 2, none⟩ (Value.slice (some ⟨g1, 0, none⟩) ss.length ss.length)) (some ⟨g1, 0, none⟩) m1) := R1.out.set F1.out (by first | (simp; done) | (simp; omega)) _
  have TW1 : Hid (WrTm (w1.setCell ⟨w.heap.size + 1 + 1, 2, none⟩ (Value.slice (some ⟨g1, 0, none⟩) ss.length ss.length)) (w.heap.size + 3) w1.heap.size (some ⟨g1, 0, none⟩) m1) := T1.out.set (.inl (by omega)) _ _
  have HZM : Hid (w1.heap.size = (w1.setCell ⟨w.heap.size + 1 + 1, 2, none⟩ (Value.slice (some ⟨g1, 0, none⟩) ss.length ss.length)).heap.size) := by show _ = _; simp
  have hzW1 : w.heap.size + 3 ≤ (w1.setCell ⟨w.heap.size + 1 + 1, 2, none⟩ (Value.slice (some ⟨g1, 0, none⟩) ss.length ss.length)).heap.size := by simp; omega
  go_wp2_with fail
  clear p3 qa0 qa1 qa2 qa3 qb0 qb1 qb2 qb3 fa0 fb0 fa1 fb1 fa2 fb2 fa3 fb3
  generalize w1.setCell ⟨w.heap.size + 1 + 1, 2, none⟩ (Value.slice (some ⟨g1, 0, none⟩) ss.length ss.length) = W1 at *
  clear B1 R1 hz1 T1
  refine Calls.mono (H2.out W1 BW1.out) ?_
  rintro e w2 ⟨g2, m2, rfl, hm2, r2, f2, t2, hb2⟩
  have BX2 := kide (BW1.out.trans (hb2.mono BW1.out.size))
  have RX1 := kide (RW1.out.later hb2)
  have R2 := kide r2
  have TX1 := kide (TW1.out.later hb2)
  have T2 : Hid (WrTm w2 w1.heap.size w2.heap.size (some ⟨g2, 0, none⟩) m2) := by rw [HZM.out]; exact t2
  have HM2 : Hid (w1.heap.size ≤ w2.heap.size) := by rw [HZM.out]; exact hb2.size
  have F2 : Hid (FarT (w.heap.size + 3) (some ⟨g2, 0, none⟩) m2) := f2.mono hzW1
  have M2 := kide hm2
  have hz2 : w.heap.size + 3 ≤ w2.heap.size := Nat.le_trans hzW1 hb2.size
  have vc03 := (kcell hb2 (w.heap.size) 3 (by omega)).trans uc03
  have vc10 := (kcell hb2 (w.heap.size + 1) 0 (by omega)).trans uc10
  have vc11 := (kcell hb2 (w.heap.size + 1) 1 (by omega)).trans uc11
  have vc12 := (kcell hb2 (w.heap.size + 1) 2 (by omega)).trans uc12
  have vc13 := (kcell hb2 (w.heap.size + 1) 3 (by omega)).trans uc13
  have vc20 := (kcell hb2 (w.heap.size + 1 + 1) 0 (by omega)).trans uc20
  have vc21 := (kcell hb2 (w.heap.size + 1 + 1) 1 (by omega)).trans uc21
  have vc22 := (kcell hb2 (w.heap.size + 1 + 1) 2 (by omega)).trans uc22
  have vc23 := (kcell hb2 (w.heap.size + 1 + 1) 3 (by omega)).trans uc23
  have vf10 := (kfrozL hb2 (w.heap.size + 1) 0 (by omega)).trans uf10
  have vf11 := (kfrozL hb2 (w.heap.size + 1) 1 (by omega)).trans uf11
  have vf12 := (kfrozL hb2 (w.heap.size + 1) 2 (by omega)).trans uf12
  have vf13 := (kfrozL hb2 (w.heap.size + 1) 3 (by omega)).trans uf13
  have vf20 := (kfrozL hb2 (w.heap.size + 1 + 1) 0 (by omega)).trans uf20
  have vf21 := (kfrozL hb2 (w.heap.size + 1 + 1) 1 (by omega)).trans uf21
  have vf22 := (kfrozL hb2 (w.heap.size + 1 + 1) 2 (by omega)).trans uf22
  have vf23 := (kfrozL hb2 (w.heap.size + 1 + 1) 3 (by omega)).trans uf23
  clear hb2 r2 f2 t2 hm2 uc03 uc10 uc11 uc12 uc13 uc20 uc21 uc22 uc23 uf10 uf11 uf12 uf13 uf20 uf21 uf22 uf23 BW1 RW1 H2 TW1
  go_wp2_with fail
  refine bodyPost_ret (v := .agg #[.int .i64 id, .bool q, Value.slice (some ⟨g1, 0, none⟩) ss.length ss.length, .slice (some ⟨g2, 0, none⟩) ts.length ts.length]) (by simp [results, Tryz.results41, go_sem, vc03, vc10, vc11, vc12, vc13, vc20, vc21, vc22, vc23, vf10, vf11, vf12, vf13, vf20, vf21, vf22, vf23]) rfl ?_
  have hl1 : m1.length = ss.length := by simpa using congrArg List.length M1.out
  have hl2 : m2.length = ts.length := by simpa using congrArg List.length M2.out
  have hy1 := HZ1.out
  refine ⟨⟨id, q, m1, some ⟨g1, 0, none⟩, ss.length, m2, some ⟨g2, 0, none⟩, ts.length⟩, w1.heap.size, w2.heap.size, by simp [hl1, hl2], by simp [M1.out, M2.out], ?_, F1.out.mono (by omega), ?_, F2.out.mono (by omega), ?_, ⟨by omega, HM2.out, by simp⟩, ?_, ?_⟩
  · repeat (refine RdT.set ?_ F1.out (by first | (simp; done) | (simp; omega)) _)
    exact RX1.out
  · repeat (refine RdT.set ?_ F2.out (by first | (simp; done) | (simp; omega)) _)
    exact R2.out
  · repeat (refine Below.setCell ?_ (by first | (simp; done) | (simp; omega)) _)
    exact BX2.out
  · refine WrTm.mono (B1 := w.heap.size + 3) ?_ (by omega)
    show WrTm _ (w.heap.size + 3) w1.heap.size (some ⟨g1, 0, none⟩) m1
    repeat (with_reducible refine WrTm.setp ?_ ?_ _; rotate_left; (refine .inl ?_; first | (show w.heap.size + 1 < _; omega) | (show w.heap.size + 1 + 1 < _; omega)))
    with_reducible exact TX1.out
  · show WrTm _ w1.heap.size w2.heap.size (some ⟨g2, 0, none⟩) m2
    repeat (with_reducible refine WrTm.setp ?_ ?_ _; rotate_left; (refine .inl ?_; first | (show w.heap.size + 1 < _; omega) | (show w.heap.size + 1 + 1 < _; omega)))
    with_reducible exact T2.out

end Go.Proofs.YtllojnloldhghaaGreatDoor
