/- Contracts of the laws' own functions on classes. -/
import Derived.Test.YticpjfdnpdfmeaaNC
namespace Go.Proofs.Yticpjfdnpdfmeaa
set_option linter.unusedVariables false
set_option linter.unusedSimpArgs false
open Go.RowKit

theorem szClasses_any (a1 a2 a3 : Option Addr) (n1 c1 n2 c2 n3 c3 : Nat) (Z1 Z2 : Int) (w : World) (hn3 : n3 ≤ 9223372036854775807) (hZ2 : Z2 ≤ 1048576)
    (H1 : Hid (∀ u, Below w.heap.size w u → Calls Try.prog 16 #[.agg #[.slice a1 n1 c1], .int .i64 1048576] u fun e w' => e = .returned (.int .i64 Z1) ∧ Below u.heap.size u w'))
    (H2 : Hid (0 ≤ Z1 → ∀ u, Below w.heap.size w u → Calls Try.prog 52 #[.slice a2 n2 c2, .int .i64 Z1] u fun e w' => e = .returned (.int .i64 Z2) ∧ Below u.heap.size u w')) :
    Calls Try.prog 30 #[.agg #[.slice a1 n1 c1, .slice a2 n2 c2, .slice a3 n3 c3], .int .i64 1048576] w fun e w' => e = .returned (.int .i64 (if Z1 < 0 then -1 else if Z2 < 0 then -1 else if (n3 : Int) ≤ Z2 then Z2 - n3 else -1)) ∧ Below w.heap.size w w' := by
  have hb0 : Below w.heap.size w (w.alloc (Obj.cells #[Value.slice a1 n1 c1, Value.slice a2 n2 c2, Value.slice a3 n3 c3] 53)) := (Below.refl _ _).alloc (Nat.le_refl _) _
  have B0 := kide hb0
  have l0 : w.heap.size < (w.alloc (Obj.cells #[Value.slice a1 n1 c1, Value.slice a2 n2 c2, Value.slice a3 n3 c3] 53)).heap.size := by simp
  have c1' : (w.alloc (Obj.cells #[Value.slice a1 n1 c1, Value.slice a2 n2 c2, Value.slice a3 n3 c3] 53)).cell? ⟨w.heap.size, 1, none⟩ = some (Value.slice a2 n2 c2) := by simp
  have c2' : (w.alloc (Obj.cells #[Value.slice a1 n1 c1, Value.slice a2 n2 c2, Value.slice a3 n3 c3] 53)).cell? ⟨w.heap.size, 2, none⟩ = some (Value.slice a3 n3 c3) := by simp
  clear hb0
  by_cases h1 : Z1 < 0
  · rw [if_pos h1]
    go_enter Try.func30, Try.ntmps30
    go_wp2_with fail
    refine Calls.mono (H1.out _ B0.out) ?_
    rintro e w1 ⟨rfl, hb1⟩
    go_wp2_with fail
    go_ret
    exact ⟨rfl, B0.out.trans (hb1.mono B0.out.size)⟩
  have HC := kide (H2.out (by omega))
  rw [if_neg h1]
  by_cases h2 : Z2 < 0
  · rw [if_pos h2]
    go_enter Try.func30, Try.ntmps30
    go_wp2_with fail
    refine Calls.mono (H1.out _ B0.out) ?_
    rintro e w1 ⟨rfl, hb1⟩
    have k1 := (kcell hb1 w.heap.size 1 l0).trans c1'
    have B1 := kide (B0.out.trans (hb1.mono B0.out.size))
    clear hb1 c1' c2'
    go_wp2_with fail
    refine Calls.mono (HC.out _ B1.out) ?_
    rintro e w2 ⟨rfl, hb2⟩
    go_wp2_with fail
    go_ret
    exact ⟨rfl, B1.out.trans (hb2.mono B1.out.size)⟩
  rw [if_neg h2]
  have HI := kide (fun u => szInt64S_any a3 n3 c3 Z2 u (by omega) (by omega) hn3)
  generalize hR : (if (n3 : Int) ≤ Z2 then Z2 - n3 else -1) = R at *
  have hRr : R = -1 ∨ 0 ≤ R := by rw [← hR]; split <;> omega
  clear hR
  rcases hRr with rfl | hR
  · go_enter Try.func30, Try.ntmps30
    go_wp2_with fail
    refine Calls.mono (H1.out _ B0.out) ?_
    rintro e w1 ⟨rfl, hb1⟩
    have k1 := (kcell hb1 w.heap.size 1 l0).trans c1'
    have k2 := (kcell hb1 w.heap.size 2 l0).trans c2'
    have l1 : w.heap.size < w1.heap.size := Nat.lt_of_lt_of_le l0 hb1.size
    have B1 := kide (B0.out.trans (hb1.mono B0.out.size))
    clear hb1 c1' c2'
    go_wp2_with fail
    refine Calls.mono (HC.out _ B1.out) ?_
    rintro e w2 ⟨rfl, hb2⟩
    have k3 := (kcell hb2 w.heap.size 2 l1).trans k2
    have B2 := kide (B1.out.trans (hb2.mono B1.out.size))
    clear hb2
    go_wp2_with fail
    refine Calls.mono (HI.out _) ?_
    rintro e wx ⟨rfl, rfl⟩
    go_wp2_with fail
    go_ret
    exact ⟨rfl, B2.out⟩
  · go_enter Try.func30, Try.ntmps30
    go_wp2_with fail
    refine Calls.mono (H1.out _ B0.out) ?_
    rintro e w1 ⟨rfl, hb1⟩
    have k1 := (kcell hb1 w.heap.size 1 l0).trans c1'
    have k2 := (kcell hb1 w.heap.size 2 l0).trans c2'
    have l1 : w.heap.size < w1.heap.size := Nat.lt_of_lt_of_le l0 hb1.size
    have B1 := kide (B0.out.trans (hb1.mono B0.out.size))
    clear hb1 c1' c2'
    go_wp2_with fail
    refine Calls.mono (HC.out _ B1.out) ?_
    rintro e w2 ⟨rfl, hb2⟩
    have k3 := (kcell hb2 w.heap.size 2 l1).trans k2
    have B2 := kide (B1.out.trans (hb2.mono B1.out.size))
    clear hb2
    go_wp2_with fail
    refine Calls.mono (HI.out _) ?_
    rintro e wx ⟨rfl, rfl⟩
    go_wp2_with fail
    go_ret
    exact ⟨rfl, B2.out⟩

/-- Classes as they lie: cuts, list, clash. -/
structure Cz where
  a1 : Option Addr
  c1 : Nat
  xs : List Iw
  a2 : Option Addr
  c2 : Nat
  cs : List Cg
  a3 : Option Addr
  c3 : Nat
  ks : List Int

def Cz.val (z : Cz) : Value := .agg #[.slice z.a1 z.xs.length z.c1, .slice z.a2 z.cs.length z.c2, .slice z.a3 z.ks.length z.c3]
def Cz.ct (z : Cz) : List (List Int) × List Cc × List Int := (z.xs.map Iw.ks, z.cs.map Cg.ct, z.ks)
def RdZ (w : World) (z : Cz) : Prop := RdII w z.a1 z.xs ∧ RdC w z.a2 z.cs ∧ RdI w z.a3 z.ks
theorem RdZ.later {w w' : World} {z : Cz} (h : RdZ w z) (hb : Below w.heap.size w w') : RdZ w' z := ⟨h.1.later hb, h.2.1.later hb, h.2.2.later hb⟩

theorem eqClasses_same (x y : Cz) (w : World) (hx : RdZ w x) (hy : RdZ w y) (he : x.ct = y.ct) :
    Calls Try.prog 34 #[x.val, y.val] w fun e w' => e = .returned (.bool true) ∧ Below w.heap.size w w' := by
  obtain ⟨xa1, xc1, xxs, xa2, xc2, xcs, xa3, xc3, xks⟩ := x
  obtain ⟨ya1, yc1, yxs, ya2, yc2, ycs, ya3, yc3, yks⟩ := y
  simp only [Cz.ct, Prod.mk.injEq] at he
  obtain ⟨he1, he2, rfl⟩ := he
  have hl1 : yxs.length = xxs.length := by simpa using (congrArg List.length he1).symm
  have hl2 : ycs.length = xcs.length := by simpa using (congrArg List.length he2).symm
  simp only [Cz.val, hl1, hl2]
  obtain ⟨x1, x2, x3⟩ := hx
  obtain ⟨y1, y2, y3⟩ := hy
  simp only [] at x1 x2 x3 y1 y2 y3
  have H1 := kide (fun u (hu : Below w.heap.size w u) => eqCuts_same xa1 ya1 xc1 yc1 xxs yxs u (x1.later hu) (y1.later hu) he1 _ rfl hl1)
  have H2 := kide (fun u (hu : Below w.heap.size w u) => eqClassS_same xa2 ya2 xc2 yc2 xcs ycs u (x2.later hu) (y2.later hu) he2 _ rfl hl2)
  have H3 : Hid (∀ u, Below w.heap.size w u → Calls Try.prog 61 #[.slice xa3 xks.length xc3, .slice ya3 xks.length yc3] u fun e w' => e = .returned (.bool true) ∧ Below u.heap.size u w') := fun u hu => by
    have := eqInt64S_any xa3 ya3 xc3 yc3 xks xks u (x3.later hu) (y3.later hu)
    simpa using this
  generalize xxs.length = n1 at *
  generalize xcs.length = n2 at *
  generalize xks.length = n3 at *
  have h2 : Below w.heap.size w ((w.alloc (Obj.cells #[Value.slice xa1 n1 xc1, Value.slice xa2 n2 xc2, Value.slice xa3 n3 xc3] 58)).alloc (Obj.cells #[Value.slice ya1 n1 yc1, Value.slice ya2 n2 yc2, Value.slice ya3 n3 yc3] 58)) := ((Below.refl _ _).alloc (Nat.le_refl _) _).alloc (by simp) _
  have B2 := kide h2
  clear x1 x2 x3 y1 y2 y3 he1 he2 hl1 hl2 h2
  go_enter Try.func34, Try.ntmps34
  go_wp2_with fail
  refine Calls.mono (H1.out _ B2.out) ?_
  rintro e w1 ⟨rfl, hb1⟩
  have k1 : w1.cell? ⟨w.heap.size, 1, none⟩ = some (Value.slice xa2 n2 xc2) := by rw [kcell hb1 _ _ (by simp; omega)]; simp [go_sem]
  have k2 : w1.cell? ⟨w.heap.size, 2, none⟩ = some (Value.slice xa3 n3 xc3) := by rw [kcell hb1 _ _ (by simp; omega)]; simp [go_sem]
  have j1 : w1.cell? ⟨w.heap.size + 1, 1, none⟩ = some (Value.slice ya2 n2 yc2) := by rw [kcell hb1 _ _ (by simp)]; simp [go_sem]
  have j2 : w1.cell? ⟨w.heap.size + 1, 2, none⟩ = some (Value.slice ya3 n3 yc3) := by rw [kcell hb1 _ _ (by simp)]; simp [go_sem]
  have l1 : w.heap.size + 1 < w1.heap.size := by have := hb1.size; simp at this; omega
  have B3 := kide (B2.out.trans (hb1.mono B2.out.size))
  clear hb1
  go_wp2_with fail
  refine Calls.mono (H2.out _ B3.out) ?_
  rintro e w2 ⟨rfl, hb2⟩
  have k3 := (kcell hb2 w.heap.size 2 (by omega)).trans k2
  have j3 := (kcell hb2 (w.heap.size + 1) 2 (by omega)).trans j2
  have B4 := kide (B3.out.trans (hb2.mono B3.out.size))
  clear hb2 k1 k2 j1 j2
  go_wp2_with fail
  refine Calls.mono (H3.out _ B4.out) ?_
  rintro e w3 ⟨rfl, hb3⟩
  go_wp2_with fail
  go_ret
  exact ⟨rfl, B4.out.trans (hb3.mono B4.out.size)⟩

end Go.Proofs.Yticpjfdnpdfmeaa
