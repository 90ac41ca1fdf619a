/- Contracts of the laws' own small functions on literals: compared, copied. -/
import Derived.Test.YthgamfklfjjdoaaDoorIA
namespace Go.Proofs.YthgamfklfjjdoaaDoor
set_option linter.unusedVariables false
set_option linter.unusedSimpArgs false
open Go.RowKit

theorem kfrozL {W w1 : World} (hb : Below W.heap.size W w1) (b o : Nat) (h : b < W.heap.size) : w1.frozen? ⟨b, o, none⟩ = W.frozen? ⟨b, o, none⟩ := hb.frozen (p := ⟨b, o, none⟩) h

/-- A literal: its number, whether it is an equality, its two terms. -/
structure Lc where
  id : Int
  eq : Bool
  ss : List Tc
  ts : List Tc

/-- .. as it lies. -/
structure Lg where
  id : Int
  eq : Bool
  ss : List Tg
  sa : Option Addr
  sc : Nat
  ts : List Tg
  ta : Option Addr
  tc : Nat

def Lg.ct (x : Lg) : Lc := ⟨x.id, x.eq, x.ss.map Tg.ct, x.ts.map Tg.ct⟩
def Lg.val (x : Lg) : Value := .agg #[.int .i64 x.id, .bool x.eq, .slice x.sa x.ss.length x.sc, .slice x.ta x.ts.length x.tc]

def LgAt (w : World) (b o : Nat) (x : Lg) : Prop :=
  (w.cell? ⟨b, o, none⟩ = some (.int .i64 x.id) ∧ w.cell? ⟨b, o + 1, none⟩ = some (.bool x.eq) ∧ w.cell? ⟨b, o + 2, none⟩ = some (.slice x.sa x.ss.length x.sc) ∧ w.cell? ⟨b, o + 3, none⟩ = some (.slice x.ta x.ts.length x.tc)) ∧ RdT w x.sa x.ss ∧ RdT w x.ta x.ts ∧ in64 x.id

theorem LgAt.later {w w' : World} {b o : Nat} {x : Lg} (h : LgAt w b o x) (hb : Below w.heap.size w w') : LgAt w' b o x := by
  obtain ⟨⟨f0, f1, f2, f3⟩, f4, f5, f6⟩ := h
  have l := block_lt_of_cell f0
  exact ⟨⟨by rw [kcell hb _ _ l]; exact f0, by rw [kcell hb _ _ l]; exact f1, by rw [kcell hb _ _ l]; exact f2, by rw [kcell hb _ _ l]; exact f3⟩, f4.later hb, f5.later hb, f6⟩

/-- A slice whose literals are xs, wherever it lies. -/
def RdL (w : World) (a : Option Addr) (xs : List Lg) : Prop :=
  xs.length ≤ 1048576 ∧ (xs = [] ∨ ∃ b o, a = some ⟨b, o, none⟩ ∧ ∀ i n, xs[i]? = some n → LgAt w b (o + i * 4) n)

theorem RdL.later {w w' : World} {a : Option Addr} {xs : List Lg} (h : RdL w a xs) (hb : Below w.heap.size w w') : RdL w' a xs := by
  refine ⟨h.1, ?_⟩
  rcases h.2 with h | ⟨b, o, rfl, hc⟩
  · exact .inl h
  · exact .inr ⟨b, o, rfl, fun i n hi => (hc i n hi).later hb⟩

theorem eqLiteral_same (id : Int) (q : Bool) (sa sb ta tb : Option Addr) (sc sd tc td n m : Nat) (xs ys zs us : List Tg) (w : World) (h1 : RdT w sa xs) (h2 : RdT w sb ys) (h3 : RdT w ta zs) (h4 : RdT w tb us) (e1 : xs.map Tg.ct = ys.map Tg.ct) (e2 : zs.map Tg.ct = us.map Tg.ct) (l1 : xs.length = n) (l2 : ys.length = n) (l3 : zs.length = m) (l4 : us.length = m) :
    Calls Tryd.prog 37 #[.agg #[.int .i64 id, .bool q, .slice sa n sc, .slice ta m tc], .agg #[.int .i64 id, .bool q, .slice sb n sd, .slice tb m td]] w fun e w' => e = .returned (.bool true) ∧ Below w.heap.size w w' := by
  have hb0 : Below w.heap.size w ((w.alloc (Obj.cells #[Value.int .i64 id, Value.bool q, Value.slice sa n sc, Value.slice ta m tc] 54)).alloc (Obj.cells #[Value.int .i64 id, Value.bool q, Value.slice sb n sd, Value.slice tb m td] 54)) := ((Below.refl _ _).alloc (Nat.le_refl _) _).alloc (by simp) _
  have HA := kide (fun u (hu : Below w.heap.size w u) => eqTerm_same sa sb sc sd xs ys u (h1.later hu) (h2.later hu) e1 n l1 l2)
  have HB := kide (fun u (hu : Below w.heap.size w u) => eqTerm_same ta tb tc td zs us u (h3.later hu) (h4.later hu) e2 m l3 l4)
  have B2 := kide hb0
  have f0 : (id != id) = false := by simp
  have f1 : (q != q) = false := by simp
  clear h1 h2 h3 h4 e1 e2 l1 l2 l3 l4 hb0
  go_enter Tryd.func37, Tryd.ntmps37
  go_wp2_with fail
  refine Calls.mono (HA.out _ B2.out) ?_
  rintro e w1 ⟨rfl, hb1⟩
  have k3 : w1.cell? ⟨w.heap.size, 3, none⟩ = some (Value.slice ta m tc) := by rw [kcell hb1 _ _ (by simp; omega)]; simp [go_sem]
  have j3 : w1.cell? ⟨w.heap.size + 1, 3, none⟩ = some (Value.slice tb m td) := by rw [kcell hb1 _ _ (by simp)]; simp [go_sem]
  have B3 := kide (B2.out.trans (hb1.mono B2.out.size))
  clear hb1
  go_wp2_with fail
  refine Calls.mono (HB.out _ B3.out) ?_
  rintro e w2 ⟨rfl, hb2⟩
  go_wp2_with fail
  go_ret
  exact ⟨rfl, B3.out.trans (hb2.mono B3.out.size)⟩

set_option maxHeartbeats 1000000 in
theorem toLiteral_far (z : Lg) (w : World) (h1 : RdT w z.sa z.ss) (h2 : RdT w z.ta z.ts) :
    Calls Tryd.prog 35 #[z.val] w fun e w' => ∃ y : Lg, e = .returned y.val ∧ y.ct = z.ct ∧ RdT w' y.sa y.ss ∧ FarT w.heap.size y.sa y.ss ∧ RdT w' y.ta y.ts ∧ FarT w.heap.size y.ta y.ts ∧ Below w.heap.size w w' := by
  obtain ⟨id, q, ss, sa, sc, ts, ta, tc⟩ := z
  simp only [Lg.val, Lg.ct] at h1 h2 ⊢
  have H1 := kide (fun u (hu : Below w.heap.size w u) => toTerm_far sa sc ss u (h1.later hu) _ rfl)
  have H2 := kide (fun u (hu : Below w.heap.size w u) => toTerm_far ta tc ts u (h2.later hu) _ rfl)
  clear h1 h2
  have h3 : Below w.heap.size w (((w.alloc (Obj.cells #[Value.int .i64 id, Value.bool q, Value.slice sa ss.length sc, Value.slice ta ts.length tc] 71)).alloc (Obj.cells #[Value.int .i64 0, Value.bool false, Value.slice none 0 0, Value.slice none 0 0] 54)).alloc (Obj.cells #[Value.int .i64 id, Value.bool q, Value.slice none 0 0, Value.slice none 0 0] 54)) := (((Below.refl _ _).alloc (Nat.le_refl _) _).alloc (by simp) _).alloc (by simp; omega) _
  have B0 := kide h3
  clear h3
  go_enter Tryd.func35, Tryd.ntmps35
  go_wp2_with fail
  refine Calls.mono (H1.out _ B0.out) ?_
  rintro e w1 ⟨g1, m1, rfl, hm1, r1, f1, hb1⟩
  have hz1 : w.heap.size + 3 ≤ w1.heap.size := by have := hb1.size; simp at this; omega
  have F1 : Hid (FarT (w.heap.size + 3) (some ⟨g1, 0, none⟩) m1) := by have h := f1; simp at h; exact h
  have p3 : w1.cell? ⟨w.heap.size, 3, none⟩ = some (Value.slice ta ts.length tc) := by rw [kcell hb1 _ _ (by first | (simp; done) | (simp; omega))]; simp [go_sem]
  have qa0 : w1.cell? ⟨w.heap.size + 1, 0, none⟩ = some (Value.int .i64 0) := by rw [kcell hb1 _ _ (by first | (simp; done) | (simp; omega))]; simp [go_sem]
  have qa1 : w1.cell? ⟨w.heap.size + 1, 1, none⟩ = some (Value.bool false) := by rw [kcell hb1 _ _ (by first | (simp; done) | (simp; omega))]; simp [go_sem]
  have qa2 : w1.cell? ⟨w.heap.size + 1, 2, none⟩ = some (Value.slice none 0 0) := by rw [kcell hb1 _ _ (by first | (simp; done) | (simp; omega))]; simp [go_sem]
  have qa3 : w1.cell? ⟨w.heap.size + 1, 3, none⟩ = some (Value.slice none 0 0) := by rw [kcell hb1 _ _ (by first | (simp; done) | (simp; omega))]; simp [go_sem]
  have qb0 : w1.cell? ⟨w.heap.size + 1 + 1, 0, none⟩ = some (Value.int .i64 id) := by rw [kcell hb1 _ _ (by first | (simp; done) | (simp; omega))]; simp [go_sem]
  have qb1 : w1.cell? ⟨w.heap.size + 1 + 1, 1, none⟩ = some (Value.bool q) := by rw [kcell hb1 _ _ (by first | (simp; done) | (simp; omega))]; simp [go_sem]
  have qb2 : w1.cell? ⟨w.heap.size + 1 + 1, 2, none⟩ = some (Value.slice none 0 0) := by rw [kcell hb1 _ _ (by first | (simp; done) | (simp; omega))]; simp [go_sem]
  have qb3 : w1.cell? ⟨w.heap.size + 1 + 1, 3, none⟩ = some (Value.slice none 0 0) := by rw [kcell hb1 _ _ (by first | (simp; done) | (simp; omega))]; simp [go_sem]
  have fa0 : w1.frozen? ⟨w.heap.size + 1, 0, none⟩ = false := by rw [kfrozL hb1 _ _ (by first | (simp; done) | (simp; omega))]; simp [go_sem]
  have fb0 : w1.frozen? ⟨w.heap.size + 1 + 1, 0, none⟩ = false := by rw [kfrozL hb1 _ _ (by first | (simp; done) | (simp; omega))]; simp [go_sem]
  have fa1 : w1.frozen? ⟨w.heap.size + 1, 1, none⟩ = false := by rw [kfrozL hb1 _ _ (by first | (simp; done) | (simp; omega))]; simp [go_sem]
  have fb1 : w1.frozen? ⟨w.heap.size + 1 + 1, 1, none⟩ = false := by rw [kfrozL hb1 _ _ (by first | (simp; done) | (simp; omega))]; simp [go_sem]
  have fa2 : w1.frozen? ⟨w.heap.size + 1, 2, none⟩ = false := by rw [kfrozL hb1 _ _ (by first | (simp; done) | (simp; omega))]; simp [go_sem]
  have fb2 : w1.frozen? ⟨w.heap.size + 1 + 1, 2, none⟩ = false := by rw [kfrozL hb1 _ _ (by first | (simp; done) | (simp; omega))]; simp [go_sem]
  have fa3 : w1.frozen? ⟨w.heap.size + 1, 3, none⟩ = false := by rw [kfrozL hb1 _ _ (by first | (simp; done) | (simp; omega))]; simp [go_sem]
  have fb3 : w1.frozen? ⟨w.heap.size + 1 + 1, 3, none⟩ = false := by rw [kfrozL hb1 _ _ (by first | (simp; done) | (simp; omega))]; simp [go_sem]
  have B1 := kide (B0.out.trans (hb1.mono B0.out.size))
  have R1 := kide r1
  have M1 := kide hm1
  clear hb1 r1 f1 hm1 B0 H1
  have uc03 : (w1.setCell ⟨w.heap.size + 1 + 1, 2, none⟩ (Value.slice (some ⟨g1, 0, none⟩) ss.length ss.length)).cell? ⟨w.heap.size, 3, none⟩ = some (Value.slice ta ts.length tc) := by simp [go_sem, p3, qa0, qa1, qa2, qa3, qb0, qb1, qb2, qb3, fa0, fb0, fa1, fb1, fa2, fb2, fa3, fb3]
  have uc10 : (w1.setCell ⟨w.heap.size + 1 + 1, 2, none⟩ (Value.slice (some ⟨g1, 0, none⟩) ss.length ss.length)).cell? ⟨w.heap.size + 1, 0, none⟩ = some (Value.int .i64 0) := by simp [go_sem, p3, qa0, qa1, qa2, qa3, qb0, qb1, qb2, qb3, fa0, fb0, fa1, fb1, fa2, fb2, fa3, fb3]
  have uc11 : (w1.setCell ⟨w.heap.size + 1 + 1, 2, none⟩ (Value.slice (some ⟨g1, 0, none⟩) ss.length ss.length)).cell? ⟨w.heap.size + 1, 1, none⟩ = some (Value.bool false) := by simp [go_sem, p3, qa0, qa1, qa2, qa3, qb0, qb1, qb2, qb3, fa0, fb0, fa1, fb1, fa2, fb2, fa3, fb3]
  have uc12 : (w1.setCell ⟨w.heap.size + 1 + 1, 2, none⟩ (Value.slice (some ⟨g1, 0, none⟩) ss.length ss.length)).cell? ⟨w.heap.size + 1, 2, none⟩ = some (Value.slice none 0 0) := by simp [go_sem, p3, qa0, qa1, qa2, qa3, qb0, qb1, qb2, qb3, fa0, fb0, fa1, fb1, fa2, fb2, fa3, fb3]
  have uc13 : (w1.setCell ⟨w.heap.size + 1 + 1, 2, none⟩ (Value.slice (some ⟨g1, 0, none⟩) ss.length ss.length)).cell? ⟨w.heap.size + 1, 3, none⟩ = some (Value.slice none 0 0) := by simp [go_sem, p3, qa0, qa1, qa2, qa3, qb0, qb1, qb2, qb3, fa0, fb0, fa1, fb1, fa2, fb2, fa3, fb3]
  have uc20 : (w1.setCell ⟨w.heap.size + 1 + 1, 2, none⟩ (Value.slice (some ⟨g1, 0, none⟩) ss.length ss.length)).cell? ⟨w.heap.size + 1 + 1, 0, none⟩ = some (Value.int .i64 id) := by simp [go_sem, p3, qa0, qa1, qa2, qa3, qb0, qb1, qb2, qb3, fa0, fb0, fa1, fb1, fa2, fb2, fa3, fb3]
  have uc21 : (w1.setCell ⟨w.heap.size + 1 + 1, 2, none⟩ (Value.slice (some ⟨g1, 0, none⟩) ss.length ss.length)).cell? ⟨w.heap.size + 1 + 1, 1, none⟩ = some (Value.bool q) := by simp [go_sem, p3, qa0, qa1, qa2, qa3, qb0, qb1, qb2, qb3, fa0, fb0, fa1, fb1, fa2, fb2, fa3, fb3]
  have uc22 : (w1.setCell ⟨w.heap.size + 1 + 1, 2, none⟩ (Value.slice (some ⟨g1, 0, none⟩) ss.length ss.length)).cell? ⟨w.heap.size + 1 + 1, 2, none⟩ = some (Value.slice (some ⟨g1, 0, none⟩) ss.length ss.length) := by simp [go_sem, p3, qa0, qa1, qa2, qa3, qb0, qb1, qb2, qb3, fa0, fb0, fa1, fb1, fa2, fb2, fa3, fb3]
  have uc23 : (w1.setCell ⟨w.heap.size + 1 + 1, 2, none⟩ (Value.slice (some ⟨g1, 0, none⟩) ss.length ss.length)).cell? ⟨w.heap.size + 1 + 1, 3, none⟩ = some (Value.slice none 0 0) := by simp [go_sem, p3, qa0, qa1, qa2, qa3, qb0, qb1, qb2, qb3, fa0, fb0, fa1, fb1, fa2, fb2, fa3, fb3]
  have uf10 : (w1.setCell ⟨w.heap.size + 1 + 1, 2, none⟩ (Value.slice (some ⟨g1, 0, none⟩) ss.length ss.length)).frozen? ⟨w.heap.size + 1, 0, none⟩ = false := by simp [go_sem, p3, qa0, qa1, qa2, qa3, qb0, qb1, qb2, qb3, fa0, fb0, fa1, fb1, fa2, fb2, fa3, fb3]
  have uf11 : (w1.setCell ⟨w.heap.size + 1 + 1, 2, none⟩ (Value.slice (some ⟨g1, 0, none⟩) ss.length ss.length)).frozen? ⟨w.heap.size + 1, 1, none⟩ = false := by simp [go_sem, p3, qa0, qa1, qa2, qa3, qb0, qb1, qb2, qb3, fa0, fb0, fa1, fb1, fa2, fb2, fa3, fb3]
  have uf12 : (w1.setCell ⟨w.heap.size + 1 + 1, 2, none⟩ (Value.slice (some ⟨g1, 0, none⟩) ss.length ss.length)).frozen? ⟨w.heap.size + 1, 2, none⟩ = false := by simp [go_sem, p3, qa0, qa1, qa2, qa3, qb0, qb1, qb2, qb3, fa0, fb0, fa1, fb1, fa2, fb2, fa3, fb3]
  have uf13 : (w1.setCell ⟨w.heap.size + 1 + 1, 2, none⟩ (Value.slice (some ⟨g1, 0, none⟩) ss.length ss.length)).frozen? ⟨w.heap.size + 1, 3, none⟩ = false := by simp [go_sem, p3, qa0, qa1, qa2, qa3, qb0, qb1, qb2, qb3, fa0, fb0, fa1, fb1, fa2, fb2, fa3, fb3]
  have uf20 : (w1.setCell ⟨w.heap.size + 1 + 1, 2, none⟩ (Value.slice (some ⟨g1, 0, none⟩) ss.length ss.length)).frozen? ⟨w.heap.size + 1 + 1, 0, none⟩ = false := by simp [go_sem, p3, qa0, qa1, qa2, qa3, qb0, qb1, qb2, qb3, fa0, fb0, fa1, fb1, fa2, fb2, fa3, fb3]
  have uf21 : (w1.setCell ⟨w.heap.size + 1 + 1, 2, none⟩ (Value.slice (some ⟨g1, 0, none⟩) ss.length ss.length)).frozen? ⟨w.heap.size + 1 + 1, 1, none⟩ = false := by simp [go_sem, p3, qa0, qa1, qa2, qa3, qb0, qb1, qb2, qb3, fa0, fb0, fa1, fb1, fa2, fb2, fa3, fb3]
  have uf22 : (w1.setCell ⟨w.heap.size + 1 + 1, 2, none⟩ (Value.slice (some ⟨g1, 0, none⟩) ss.length ss.length)).frozen? ⟨w.heap.size + 1 + 1, 2, none⟩ = false := by simp [go_sem, p3, qa0, qa1, qa2, qa3, qb0, qb1, qb2, qb3, fa0, fb0, fa1, fb1, fa2, fb2, fa3, fb3]
  have uf23 : (w1.setCell ⟨w.heap.size + 1 + 1, 2, none⟩ (Value.slice (some ⟨g1, 0, none⟩) ss.length ss.length)).frozen? ⟨w.heap.size + 1 + 1, 3, none⟩ = false := by simp [go_sem, p3, qa0, qa1, qa2, qa3, qb0, qb1, qb2, qb3, fa0, fb0, fa1, fb1, fa2, fb2, fa3, fb3]
  have BW1 : Hid (Below w.heap.size w (w1.setCell ⟨w.heap.size + 1 + 1, 2, none⟩ (Value.slice (some ⟨g1, 0, none⟩) ss.length ss.length))) := B1.out.setCell (by first | (simp; done) | (simp; omega)) _
  have RW1 : Hid (RdT (w1.setCell ⟨w.heap.size + 1 + 1, 2, none⟩ (Value.slice (some ⟨g1, 0, none⟩) ss.length ss.length)) (some ⟨g1, 0, none⟩) m1) := R1.out.set F1.out (by first | (simp; done) | (simp; omega)) _
  have hzW1 : w.heap.size + 3 ≤ (w1.setCell ⟨w.heap.size + 1 + 1, 2, none⟩ (Value.slice (some ⟨g1, 0, none⟩) ss.length ss.length)).heap.size := by simp; omega
  go_wp2_with fail
  clear p3 qa0 qa1 qa2 qa3 qb0 qb1 qb2 qb3 fa0 fb0 fa1 fb1 fa2 fb2 fa3 fb3
  generalize w1.setCell ⟨w.heap.size + 1 + 1, 2, none⟩ (Value.slice (some ⟨g1, 0, none⟩) ss.length ss.length) = W1 at *
  clear B1 R1 hz1
  refine Calls.mono (H2.out W1 BW1.out) ?_
  rintro e w2 ⟨g2, m2, rfl, hm2, r2, f2, hb2⟩
  have BX2 := kide (BW1.out.trans (hb2.mono BW1.out.size))
  have RX1 := kide (RW1.out.later hb2)
  have R2 := kide r2
  have F2 : Hid (FarT (w.heap.size + 3) (some ⟨g2, 0, none⟩) m2) := f2.mono hzW1
  have M2 := kide hm2
  have hz2 : w.heap.size + 3 ≤ w2.heap.size := Nat.le_trans hzW1 hb2.size
  have vc03 := (kcell hb2 (w.heap.size) 3 (by omega)).trans uc03
  have vc10 := (kcell hb2 (w.heap.size + 1) 0 (by omega)).trans uc10
  have vc11 := (kcell hb2 (w.heap.size + 1) 1 (by omega)).trans uc11
  have vc12 := (kcell hb2 (w.heap.size + 1) 2 (by omega)).trans uc12
  have vc13 := (kcell hb2 (w.heap.size + 1) 3 (by omega)).trans uc13
  have vc20 := (kcell hb2 (w.heap.size + 1 + 1) 0 (by omega)).trans uc20
  have vc21 := (kcell hb2 (w.heap.size + 1 + 1) 1 (by omega)).trans uc21
  have vc22 := (kcell hb2 (w.heap.size + 1 + 1) 2 (by omega)).trans uc22
  have vc23 := (kcell hb2 (w.heap.size + 1 + 1) 3 (by omega)).trans uc23
  have vf10 := (kfrozL hb2 (w.heap.size + 1) 0 (by omega)).trans uf10
  have vf11 := (kfrozL hb2 (w.heap.size + 1) 1 (by omega)).trans uf11
  have vf12 := (kfrozL hb2 (w.heap.size + 1) 2 (by omega)).trans uf12
  have vf13 := (kfrozL hb2 (w.heap.size + 1) 3 (by omega)).trans uf13
  have vf20 := (kfrozL hb2 (w.heap.size + 1 + 1) 0 (by omega)).trans uf20
  have vf21 := (kfrozL hb2 (w.heap.size + 1 + 1) 1 (by omega)).trans uf21
  have vf22 := (kfrozL hb2 (w.heap.size + 1 + 1) 2 (by omega)).trans uf22
  have vf23 := (kfrozL hb2 (w.heap.size + 1 + 1) 3 (by omega)).trans uf23
  clear hb2 r2 f2 hm2 uc03 uc10 uc11 uc12 uc13 uc20 uc21 uc22 uc23 uf10 uf11 uf12 uf13 uf20 uf21 uf22 uf23 BW1 RW1 H2
  go_wp2_with fail
  refine bodyPost_ret (v := .agg #[.int .i64 id, .bool q, Value.slice (some ⟨g1, 0, none⟩) ss.length ss.length, .slice (some ⟨g2, 0, none⟩) ts.length ts.length]) (by simp [results, Tryd.results35, go_sem, vc03, vc10, vc11, vc12, vc13, vc20, vc21, vc22, vc23, vf10, vf11, vf12, vf13, vf20, vf21, vf22, vf23]) rfl ?_
  have hl1 : m1.length = ss.length := by simpa using congrArg List.length M1.out
  have hl2 : m2.length = ts.length := by simpa using congrArg List.length M2.out
  refine ⟨⟨id, q, m1, some ⟨g1, 0, none⟩, ss.length, m2, some ⟨g2, 0, none⟩, ts.length⟩, by simp [hl1, hl2], by simp [M1.out, M2.out], ?_, F1.out.mono (by omega), ?_, F2.out.mono (by omega), ?_⟩
  · repeat (refine RdT.set ?_ F1.out (by first | (simp; done) | (simp; omega)) _)
    exact RX1.out
  · repeat (refine RdT.set ?_ F2.out (by first | (simp; done) | (simp; omega)) _)
    exact R2.out
  · repeat (refine Below.setCell ?_ (by first | (simp; done) | (simp; omega)) _)
    exact BX2.out

end Go.Proofs.YthgamfklfjjdoaaDoor
