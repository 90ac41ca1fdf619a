/- A stack of knots; the other end of a tie. -/
import Derived.Test.YtakicdlfolhhcaaGF
import Derived.Test.YtakicdlfolhhcaaREB
namespace Go.Proofs.Ytakicdlfolhhcaa
set_option linter.unusedVariables false
set_option linter.unusedSimpArgs false
open Go.RowKit

theorem kfrozR {W w1 : World} (hb : Below W.heap.size W w1) (b o : Nat) (h : b < W.heap.size) : w1.frozen? ⟨b, o, none⟩ = W.frozen? ⟨b, o, none⟩ := hb.frozen (p := ⟨b, o, none⟩) h

theorem sizeK_any (G gi k c : Nat) (a : Option Addr) (w : World) (hk : k ≤ 1048576) (h : w.cell? ⟨G, 0, none⟩ = some (.slice a k c)) :
    Calls Try.prog 79 #[Value.pointer (some ⟨G, 0, none⟩)] w fun e w' => e = .returned (.int .i64 (k : Int)) ∧ w' = w := by
  go_enter Try.func79, Try.ntmps79
  go_wp2_with fail
  go_ret
  exact ⟨rfl, rfl⟩

theorem topK_any (G gi k j c : Nat) (w : World) (h : w.cell? ⟨G, 0, none⟩ = some (.slice (some ⟨gi, 0, none⟩) k c)) (hj : (k : Int) - 1 = (j : Int)) (hw : IntKind.i64.wrap (j : Int) = (j : Int)) (hl : (j : Int) < (k : Int)) :
    Calls Try.prog 80 #[Value.pointer (some ⟨G, 0, none⟩)] w fun e w' => e = .returned (Value.pointer (some ⟨gi, j, none⟩)) ∧ Below w.heap.size w w' := by
  go_enter Try.func80, Try.ntmps80
  go_wp2_with fail
  first
    | (go_ret
       exact ⟨rfl, Below.refl _ _⟩)
    | (go_quiet (fail)
       go_wp2_with fail
       go_ret
       exact ⟨rfl, below_drewN (Below.refl _ _) _⟩)

theorem popK_any (G gi k j c : Nat) (w : World) (h : w.cell? ⟨G, 0, none⟩ = some (.slice (some ⟨gi, 0, none⟩) k c)) (hf : w.frozen? ⟨G, 0, none⟩ = false) (hj : (k : Int) - 1 = (j : Int)) (hw : IntKind.i64.wrap (j : Int) = (j : Int)) (hl : j ≤ c) :
    Calls Try.prog 81 #[Value.pointer (some ⟨G, 0, none⟩)] w fun e w' => e = .returned (.tuple #[]) ∧ ∃ u, Below w.heap.size w u ∧ w' = u.setCell ⟨G, 0, none⟩ (.slice (some ⟨gi, 0, none⟩) j c) := by
  have i1 : (j : Int) ≤ (c : Int) := by omega
  go_enter Try.func81, Try.ntmps81
  go_wp2_with fail
  refine wp_region_x (SA := fun u => u.cell? ⟨G, 0, none⟩ = some (Value.slice (some ⟨gi, 0, none⟩) k c)) (SB := fun _ => True) (k := 14) (by kernel_rfl) ?_
  have hb0 : Hid (Below w.heap.size w w.drew) := (Below.refl _ _).drew
  have hs0 : Hid ((fun u => u.cell? ⟨G, 0, none⟩ = some (Value.slice (some ⟨gi, 0, none⟩) k c)) w.drew) := h
  have hf0 : Hid (w.drew.frozen? ⟨G, 0, none⟩ = false) := hf
  clear h hf
  generalize w.drew = u0 at *
  try go_simp
  refine wpAnyX_both (T := fun _ => True) (i := 0) (v := Value.pointer (some ⟨G, 0, none⟩)) rfl (by kernel_rfl) (by kernel_rfl) (by kernel_rfl) (fun _ _ _ h => h) (by decide) (fun _ _ => trivial) (fun _ _ => trivial) (Sx.before (by kernel_rfl) hs0.out) (Or.inl ⟨by rfl, fun u hu => by go_simp⟩) ?_
  try go_simp
  refine wpAnyX_both (T := fun _ => True) (i := 1) (v := Value.pointer (some ⟨G, 0, none⟩)) rfl (by kernel_rfl) (by kernel_rfl) (by kernel_rfl) (fun _ _ _ h => h) (by decide) (fun _ _ => trivial) (fun _ _ => trivial) (Sx.before (by kernel_rfl) hs0.out) (Or.inl ⟨by rfl, fun u hu => by go_simp⟩) ?_
  try go_simp
  refine wpAnyX_both (T := fun _ => True) (i := 2) (v := Value.pointer (some ⟨G, 0, none⟩)) rfl (by kernel_rfl) (by kernel_rfl) (by kernel_rfl) (fun _ _ _ h => h) (by decide) (fun _ _ => trivial) (fun _ _ => trivial) (Sx.before (by kernel_rfl) hs0.out) (Or.inl ⟨by rfl, fun u hu => by go_simp⟩) ?_
  try go_simp
  refine wpAnyX_both (T := fun _ => True) (i := 3) (v := Value.pointer (some ⟨G, 0, none⟩)) rfl (by kernel_rfl) (by kernel_rfl) (by kernel_rfl) (fun _ _ _ h => h) (by decide) (fun _ _ => trivial) (fun _ _ => trivial) (Sx.before (by kernel_rfl) hs0.out) (Or.inl ⟨by rfl, fun u hu => by go_simp⟩) ?_
  try go_simp
  refine wpAnyX_take (i := 4) (v := Value.slice (some ⟨gi, 0, none⟩) k c) rfl (by kernel_rfl) (by kernel_rfl) (by kernel_rfl) (fun _ _ _ h => h) (by decide) (by kernel_rfl) (by kernel_rfl) hs0.out (Or.inl ⟨by rfl, fun u hu => by have e1 := hu; go_simp⟩) ?_
  try go_simp
  refine wpAnyX_both (T := fun _ => True) (i := 5) (v := Value.pointer (some ⟨G, 0, none⟩)) rfl (by kernel_rfl) (by kernel_rfl) (by kernel_rfl) (fun _ _ _ h => h) (by decide) (fun _ _ => trivial) (fun _ _ => trivial) (Sx.before (by kernel_rfl) hs0.out) (Or.inl ⟨by rfl, fun u hu => by go_simp⟩) ?_
  try go_simp
  refine wpAnyX_both (T := fun _ => True) (i := 6) (v := Value.pointer (some ⟨G, 0, none⟩)) rfl (by kernel_rfl) (by kernel_rfl) (by kernel_rfl) (fun _ _ _ h => h) (by decide) (fun _ _ => trivial) (fun _ _ => trivial) (Sx.before (by kernel_rfl) hs0.out) (Or.inl ⟨by rfl, fun u hu => by go_simp⟩) ?_
  try go_simp
  refine wpAnyX_both (T := fun _ => True) (i := 7) (v := Value.pointer (some ⟨G, 0, none⟩)) rfl (by kernel_rfl) (by kernel_rfl) (by kernel_rfl) (fun _ _ _ h => h) (by decide) (fun _ _ => trivial) (fun _ _ => trivial) (Sx.before (by kernel_rfl) hs0.out) (Or.inl ⟨by rfl, fun u hu => by go_simp⟩) ?_
  try go_simp
  refine wpAnyX_take (i := 8) (v := Value.slice (some ⟨gi, 0, none⟩) k c) rfl (by kernel_rfl) (by kernel_rfl) (by kernel_rfl) (fun _ _ _ h => h) (by decide) (by kernel_rfl) (by kernel_rfl) hs0.out (Or.inl ⟨by rfl, fun u hu => by have e1 := hu; go_simp⟩) ?_
  try go_simp
  refine wpAnyX_both (T := fun _ => True) (i := 9) (v := Value.int .i64 (k : Int)) rfl (by kernel_rfl) (by kernel_rfl) (by kernel_rfl) (fun _ _ _ h => h) (by decide) (fun _ _ => trivial) (fun _ _ => trivial) (Sx.before (by kernel_rfl) hs0.out) (Or.inl ⟨by rfl, fun u hu => by go_simp⟩) ?_
  try go_simp
  refine wpAnyX_both (T := fun _ => True) (i := 10) (v := Value.int .i64 (j : Int)) rfl (by kernel_rfl) (by kernel_rfl) (by kernel_rfl) (fun _ _ _ h => h) (by decide) (fun _ _ => trivial) (fun _ _ => trivial) (Sx.before (by kernel_rfl) hs0.out) (Or.inl ⟨by rfl, fun u hu => by go_simp⟩) ?_
  try go_simp
  refine wpAnyX_both (T := fun _ => True) (i := 11) (v := Value.slice (some ⟨gi, 0, none⟩) j c) rfl (by kernel_rfl) (by kernel_rfl) (by kernel_rfl) (fun _ _ _ h => h) (by decide) (fun _ _ => trivial) (fun _ _ => trivial) (Sx.before (by kernel_rfl) hs0.out) (Or.inl ⟨by rfl, fun u hu => by go_simp⟩) ?_
  try go_simp
  refine wpAnyX_both (T := fun _ => True) (i := 12) (v := Value.pointer (some ⟨G, 0, none⟩)) rfl (by kernel_rfl) (by kernel_rfl) (by kernel_rfl) (fun _ _ _ h => h) (by decide) (fun _ _ => trivial) (fun _ _ => trivial) (Sx.before (by kernel_rfl) hs0.out) (Or.inl ⟨by rfl, fun u hu => by go_simp⟩) ?_
  try go_simp
  refine wpAnyX_both (T := fun _ => True) (i := 13) (v := Value.pointer (some ⟨G, 0, none⟩)) rfl (by kernel_rfl) (by kernel_rfl) (by kernel_rfl) (fun _ _ _ h => h) (by decide) (fun _ _ => trivial) (fun _ _ => trivial) (Sx.before (by kernel_rfl) hs0.out) (Or.inl ⟨by rfl, fun u hu => by go_simp⟩) ?_
  try go_simp
  refine wpAnyX_ready (rs := [14]) (by kernel_rfl) (by simp) (AllX.cons rfl (fun K hK => ?_) AllX.nil)
  have e9 := hs0.out
  have f9 := hf0.out
  go_simp
  refine hK _ _ (Sx.behind (by kernel_rfl) trivial) ?_
  clear hK K
  clear e9 f9
  try go_simp
  refine wpAnyX_done (by kernel_rfl) ?_ _
  skip
  go_wp2_with fail
  first | go_end0 | go_ret
  exact ⟨rfl, u0, hb0.out, rfl⟩


/-- Blocks of other types than stacks of knots and their rows are as they were. -/
def Kk (w u : World) : Prop := ∀ (b : Nat) (cs : Array Value) (t : TypeId), w.heap[b]? = some (.cells cs t (0, 0)) → t ≠ 110 → t ≠ 70 → u.heap[b]? = some (.cells cs t (0, 0))
theorem Kk.refl (w : World) : Kk w w := fun _ _ _ h _ _ => h
theorem Kk.trans {w u v : World} (h : Kk w u) (h' : Kk u v) : Kk w v := fun b cs t hb h1 h2 => h' b cs t (h b cs t hb h1 h2) h1 h2
theorem Kk.of_below {w u : World} (h : Below w.heap.size w u) : Kk w u := fun b cs t hb _ _ => by rw [h.block b (lt_of_block hb)]; exact hb
theorem Kk.set {w u : World} (h : Kk w u) {p o : Nat} {c : Array Value} (hp : u.heap[p]? = some (.cells c 110 (0, 0))) (x : Value) : Kk w (u.setCell ⟨p, o, none⟩ x) := fun b cs t hb h1 h2 => by
  have h4 := h b cs t hb h1 h2
  rw [heap_setCell_other _ _ _ _ (fun e => by
    have e' : b = p := e
    subst e'
    rw [hp] at h4
    cases h4
    exact h1 rfl)]
  exact h4
theorem Kk.grown {w u u' : World} (h : Kk w u) {B n : Nat} {v : Value} {xs : List Value} (ho : u.ownsRow B 70 1 v n xs) (hg : u.grownBy u' v.ownBlock) : Kk w u' := fun b cs t hb h1 h2 => by
  have h4 := h b cs t hb h1 h2
  rw [hg.block b (lt_of_block h4) (own_typed ho h4 h2)]
  exact h4

/-- A stack of knots in a box of one's own. -/
structure Sv (w : World) (N b : Nat) (v : Value) (l : List Nat) : Prop where
  lo : N ≤ b
  bx : w.heap[b]? = some (.cells #[v] 110 (0, 0))
  row : w.ownsRow N 70 1 v l.length (l.map pt)
theorem Sv.later {w w' : World} {N b : Nat} {v : Value} {l : List Nat} (h : Sv w N b v l) (hb : Below w.heap.size w w') : Sv w' N b v l := ⟨h.lo, by rw [hb.block _ (lt_of_block h.bx)]; exact h.bx, own_later h.row hb⟩
/-- A cell of a row of ties is written. -/
theorem Sv.tie {w : World} {N b g o : Nat} {v : Value} {l : List Nat} {c : Array Value} (h : Sv w N b v l) (hg : w.heap[g]? = some (.cells c 85 (0, 0))) (x : Value) : Sv (w.setCell ⟨g, o, none⟩ x) N b v l :=
  ⟨h.lo, by
    rw [heap_setCell_other _ _ _ _ (fun e => by
      have e' : b = g := e
      subst e'
      have := h.bx
      rw [hg] at this
      cases this)]
    exact h.bx, own_set h.row hg (by decide) x⟩

set_option maxHeartbeats 1000000 in
theorem pushK_any {w : World} {N b p : Nat} {v : Value} {l : List Nat} (h : Sv w N b v l) (hl : l.length ≤ 1048576) :
    Calls Try.prog 78 #[.pointer (some ⟨b, 0, none⟩), .pointer (some ⟨p, 0, none⟩)] w fun e w' => e = .returned (.tuple #[]) ∧ (∃ v', Sv w' N b v' (l ++ [p])) ∧ Below N w w' ∧ Kk w w' := by
  obtain ⟨a, c, e⟩ : ∃ a c, v = .slice a l.length c := by
    rcases h.row.2 with ⟨e, hn⟩ | ⟨g, cap, cur, e, -⟩
    · exact ⟨none, 0, by rw [e, hn]⟩
    · exact ⟨_, _, e⟩
  subst e
  have q0 : w.cell? ⟨b, 0, none⟩ = some (.slice a l.length c) := by rw [cell_of h.bx]; rfl
  have hb0 := lt_of_block h.bx
  have hlo := h.lo
  have hlm : (l.map pt).length ≤ 1073741824 := by simp; omega
  have hkr : Hid (∀ o, (w.alloc o).ownsRow N 70 1 (.slice a l.length c) (l.map pt).length (l.map pt)) := fun o => by
    have h2 := World.ownsRow.alloc h.row o
    simpa using h2
  have HH := kide h
  clear h
  generalize hn : l.length = n at q0 hkr hl
  have HN := kide hn
  clear hn
  go_enter Try.func78, Try.ntmps78
  go_wp2_with (at_builtin; refine wpList_appK rfl _ _ rfl N _ (l.map pt) ⟨p, 0, none⟩ rfl (hkr.out _) _ rfl (by simp) hlm (by simp; omega) ?_)
  intro v2 w2 hos hg hat
  obtain ⟨g2', c2', N2, rfl⟩ := own_form hos
  have hb1 : Below w.heap.size w (w.alloc (Obj.cells #[Value.pointer (some ⟨p, 0, none⟩)] 70)) := (Below.refl _ _).alloc (Nat.le_refl _) _
  have H1 := kide (HH.out.later hb1)
  rw [HN.out] at H1
  have BB : Hid (Below N w w2) := by
    have h1 : Below N w (w.alloc (Obj.cells #[Value.pointer (some ⟨p, 0, none⟩)] 70)) := (Below.refl _ _).alloc (by omega) _
    exact Below.grown h1 hg (by simp; omega) (fun j hj => (own_lt H1.out.row hj).1)
  have hbx : w2.heap[b]? = some (.cells #[.slice a n c] 110 (0, 0)) := by
    rw [hg.block b (lt_of_block H1.out.bx) (own_typed H1.out.row H1.out.bx (by decide))]
    exact H1.out.bx
  have hro : Hid (w2.ownsRow N 70 1 (.slice (some ⟨g2', 0, none⟩) c2' N2) (l ++ [p]).length ((l ++ [p]).map pt)) ∨ True := .inr trivial
  have HO := kide hos
  have g2 : w2.cell? ⟨b, 0, none⟩ = some (.slice a n c) := by rw [cell_of hbx]; rfl
  have r2 : w2.frozen? ⟨b, 0, none⟩ = false := frozen_of_row w2 b 0 _ _ hbx
  have HBX := kide hbx
  have hkk : Hid (Kk w w2) := (Kk.of_below hb1).grown H1.out.row hg
  clear hos hg hat hb1 H1 hkr q0 hbx hro
  go_wp2_with fail
  go_end0
  refine ⟨rfl, ⟨_, hlo, heap_setCell_same w2 b 0 _ _ _ HBX.out, ?_⟩, BB.out.setCell hlo _, hkk.out.set HBX.out _⟩
  have h1 := own_set (o := 0) HO.out HBX.out (by decide) (.slice (some ⟨g2', 0, none⟩) N2 c2')
  have e1 : (l ++ [p]).map pt = l.map pt ++ [Value.pointer (some ⟨p, 0, none⟩)] := by rw [List.map_append]; rfl
  rw [e1]
  simpa using h1

theorem own_short' {w : World} {N n : Nat} {e : TypeId} {v : Value} {xs : List Value} (h : w.ownsRow N e 1 v (n + 1) xs) : ∃ g cap, v = .slice (some ⟨g, 0, none⟩) (n + 1) cap ∧ n + 1 ≤ cap ∧ w.ownsRow N e 1 (.slice (some ⟨g, 0, none⟩) n cap) n (xs.take n) := by
  obtain ⟨h1, h2⟩ := h
  rcases h2 with ⟨-, h0⟩ | ⟨g, cap, cur, rfl, hg, hh, hc1, hc2, hsz, hcur⟩
  · omega
  · refine ⟨g, cap, rfl, hc1, by simp at h1 ⊢; omega, .inr ⟨g, cap, cur, rfl, hg, hh, by omega, hc2, hsz, ?_⟩⟩
    rw [← hcur, List.take_take]
    congr 1
    omega

/-- The tie's other end. -/
theorem other_any (t k pa pb : Nat) (y f : Value) (w : World) (ht : w.heap[t]? = some (.cells #[.pointer (some ⟨pa, 0, none⟩), .pointer (some ⟨pb, 0, none⟩), y, f] 97 (0, 0)))
    (hx : (binOp .eql 70 (.pointer (some ⟨pa, 0, none⟩)) (.pointer (some ⟨k, 0, none⟩))).run Try.prog w = .ok (.bool (decide (pa = k))) w) :
    Calls Try.prog 72 #[.pointer (some ⟨t, 0, none⟩), .pointer (some ⟨k, 0, none⟩)] w fun e w' => e = .returned (.pointer (some ⟨if pa = k then pb else pa, 0, none⟩)) ∧ w' = w := by
  have t0 := cell_of (o := 0) ht
  have t1 := cell_of (o := 1) ht
  simp at t0 t1
  clear ht
  by_cases hc : pa = k
  · rw [decide_eq_true hc] at hx
    rw [if_pos hc]
    clear hc
    go_enter Try.func72, Try.ntmps72
    go_wp2_with fail
    go_ret
    exact ⟨rfl, rfl⟩
  · rw [decide_eq_false hc] at hx
    rw [if_neg hc]
    clear hc
    go_enter Try.func72, Try.ntmps72
    go_wp2_with fail
    go_ret
    exact ⟨rfl, rfl⟩

end Go.Proofs.Ytakicdlfolhhcaa
