/- The comparison of the law of trees, where both are the same. -/
import Derived.Test.YteainbakfeedpaaTD
import Derived.Test.YteainbakfeedpaaYE
namespace Go.Proofs.Yteainbakfeedpaa
set_option linter.unusedVariables false
set_option linter.unusedSimpArgs false
open Go.RowKit

theorem sameInts_same (a b : Option Addr) (c d : Nat) (ks : List Int) (w : World) (hr : RdI w a ks) (hs : RdI w b ks) :
    Calls Try.prog 31 #[.slice a ks.length c, .slice b ks.length d] w fun e w' => e = .returned (.bool true) ∧ Below w.heap.size w w' := by
  have hl1 := hr.1
  go_enter Try.func31, Try.ntmps31
  go_wp2
  go_loopw [5] (fun i wr => ∃ k : Nat, k ≤ ks.length ∧ i = .int .i64 k ∧ Below w.heap.size w wr) (fun i _ => ks.length - (intOf i).toNat)
  case atStart => exact ⟨0, Nat.zero_le _, rfl, Below.refl _ _⟩
  case round =>
    obtain ⟨k, hk, rfl, hbel⟩ := hrel
    by_cases hlt : k < ks.length
    · obtain ⟨-, -, h | ⟨b1, o1, rfl, hc1⟩⟩ := hr
      · subst h; simp at hlt
      obtain ⟨-, -, h | ⟨b2, o2, rfl, hc2⟩⟩ := hs
      · subst h; simp at hlt
      have e1 := hc1 k hlt
      have e2 := hc2 k hlt
      have f1 : wr.cell? ⟨b1, o1 + k, none⟩ = some (.int .i64 (ks.getD k 0)) := by rw [hbel.cell (by exact block_lt_of_cell e1)]; exact e1
      have f2 : wr.cell? ⟨b2, o2 + k, none⟩ = some (.int .i64 (ks.getD k 0)) := by rw [hbel.cell (by exact block_lt_of_cell e2)]; exact e2
      have HB := hidE hbel
      clear hc1 hc2 hbel e1 e2
      have i0 : (k : Int) < (ks.length : Int) := by omega
      generalize ks.getD k 0 = x1 at *
      go_wp2_with fail
      go_quiet (fail)
      go_wp2
      go_roundw
      case rel => exact ⟨k + 1, by omega, by go_num, HB.out.trans ((bdr _ _).mono HB.out.size)⟩
      case measure => simp [intOf]; omega
    · go_wp2
      go_ret
      exact ⟨rfl, hbel⟩

set_option maxHeartbeats 1000000 in
theorem sameTree_same (a b : Option Addr) (c d : Nat) (xs ys : List Nd) (w : World) (hr : RdN w a xs) (hs : RdN w b ys) (hct : xs.map Nd.ct = ys.map Nd.ct) :
    Calls Try.prog 13 #[.agg #[.slice a xs.length c], .agg #[.slice b ys.length d]] w fun e w' => e = .returned (.bool true) ∧ Below w.heap.size w w' := by
  have hl1 := hr.1
  have hlen : ys.length = xs.length := by have := congrArg List.length hct; simpa using this.symm
  rw [hlen]
  have HL := hidE hlen
  clear hlen
  have h2 : Below w.heap.size w ((w.alloc (Obj.cells #[Value.slice a xs.length c] 26)).alloc (Obj.cells #[Value.slice b xs.length d] 26)) := ((Below.refl _ _).alloc (Nat.le_refl _) _).alloc (by simp) _
  have z1 : ((w.alloc (Obj.cells #[Value.slice a xs.length c] 26)).alloc (Obj.cells #[Value.slice b xs.length d] 26)).cell? ⟨w.heap.size, 0, none⟩ = some (.slice a xs.length c) := by simp
  have z2 : ((w.alloc (Obj.cells #[Value.slice a xs.length c] 26)).alloc (Obj.cells #[Value.slice b xs.length d] 26)).cell? ⟨w.heap.size + 1, 0, none⟩ = some (.slice b xs.length d) := by simp
  have z3 : ((w.alloc (Obj.cells #[Value.slice a xs.length c] 26)).alloc (Obj.cells #[Value.slice b xs.length d] 26)).heap.size ≥ w.heap.size + 2 := by simp
  have HC := hidE hct
  clear hct
  go_enter Try.func13, Try.ntmps13
  go_wp2_with fail
  generalize ((w.alloc (Obj.cells #[Value.slice a xs.length c] 26)).alloc (Obj.cells #[Value.slice b xs.length d] 26)) = w0 at *
  have hr' := hr.later h2
  have hs' := hs.later h2
  have H2 := hidE h2
  clear hr hs h2
  go_loopw [5] (fun i wr => ∃ k : Nat, k ≤ xs.length ∧ i = .int .i64 k ∧ Below w0.heap.size w0 wr) (fun i _ => xs.length - (intOf i).toNat)
  case atStart => exact ⟨0, Nat.zero_le _, rfl, Below.refl _ _⟩
  case round =>
    obtain ⟨k, hk, rfl, hbel⟩ := hrel
    have y1 := ((bcell hbel).1 w.heap.size 0 (by omega)).trans z1
    have y2 := ((bcell hbel).1 (w.heap.size + 1) 0 (by omega)).trans z2
    have hsr := hbel.size
    have HB := hidE hbel
    by_cases hlt : k < xs.length
    · obtain ⟨-, h | ⟨b1, o1, rfl, hc1⟩⟩ := hr'
      · subst h; simp at hlt
      have hlt2 : k < ys.length := by have := HL.out; omega
      obtain ⟨-, h | ⟨b2, o2, rfl, hc2⟩⟩ := hs'
      · subst h; simp at hlt2
      obtain ⟨⟨s1, a1, c1, k1⟩, hx⟩ : ∃ x, xs[k] = x := ⟨_, rfl⟩
      obtain ⟨⟨s2, a2, c2, k2⟩, hy⟩ : ∃ y, ys[k] = y := ⟨_, rfl⟩
      have gx : xs[k]? = some ⟨s1, a1, c1, k1⟩ := by rw [List.getElem?_eq_getElem hlt, hx]
      have gy : ys[k]? = some ⟨s2, a2, c2, k2⟩ := by rw [List.getElem?_eq_getElem hlt2, hy]
      obtain ⟨p0, p1, p2, p3⟩ := (hc1 k _ gx)
      obtain ⟨q0, q1, q2, q3⟩ := (hc2 k _ gy)
      have hcc : s1 = s2 ∧ k1 = k2 := by
        have h := congrArg (fun l => l[k]?) HC.out
        simp only [List.getElem?_map, gx, gy, Option.map_some, Nd.ct, Option.some.injEq, Prod.mk.injEq] at h
        exact h
      obtain ⟨e1, e2⟩ := hcc
      subst e1
      subst e2
      have p0' : wr.cell? ⟨b1, o1 + k * 2, none⟩ = some (.string s1) := by rw [hbel.cell (by exact block_lt_of_cell p0)]; exact p0
      have p1' : wr.cell? ⟨b1, o1 + k * 2 + 1, none⟩ = some (.slice a1 k1.length c1) := by rw [hbel.cell (by exact block_lt_of_cell p1)]; exact p1
      have q0' : wr.cell? ⟨b2, o2 + k * 2, none⟩ = some (.string s1) := by rw [hbel.cell (by exact block_lt_of_cell q0)]; exact q0
      have q1' : wr.cell? ⟨b2, o2 + k * 2 + 1, none⟩ = some (.slice a2 k1.length c2) := by rw [hbel.cell (by exact block_lt_of_cell q1)]; exact q1
      have p2' : RdI wr a1 k1 := p2.later hbel
      have q2' : RdI wr a2 k1 := q2.later hbel
      have HE := hidE (fun (u : World) (hu : Below wr.heap.size wr u) => sameInts_same a1 a2 c1 c2 k1 u (p2'.later hu) (q2'.later hu))
      clear p2' q2' gx gy hx hy hc1 hc2 hbel p0 p1 p2 p3 q0 q1 q2 q3
      have i0 : (k : Int) < (xs.length : Int) := by omega
      go_wp2_with fail
      go_region_held3 (fun u => u.cell? ⟨w.heap.size, 0, none⟩ = some (Value.slice (some ⟨b1, o1, none⟩) xs.length c) ∧ u.cell? ⟨w.heap.size + 1, 0, none⟩ = some (Value.slice (some ⟨b2, o2, none⟩) xs.length d) ∧ u.cell? ⟨b1, o1 + k * 2, none⟩ = some (Value.string s1) ∧ u.cell? ⟨b1, o1 + k * 2 + 1, none⟩ = some (Value.slice a1 k1.length c1) ∧ u.cell? ⟨b2, o2 + k * 2, none⟩ = some (Value.string s1) ∧ u.cell? ⟨b2, o2 + k * 2 + 1, none⟩ = some (Value.slice a2 k1.length c2)) (simp [*])
        ((go_at_call 31; refine Calls.mono (HE.out _ ?_) ?_; exact (Below.refl _ _).drew; rintro e w1 ⟨rfl, hb1⟩; replace hb1 := undrew hb1; have l0 := ((bcell hb1).1 b1 (o1 + k * 2) (block_lt_of_cell p0')).trans p0'; have l1 := ((bcell hb1).1 b1 (o1 + k * 2 + 1) (block_lt_of_cell p0')).trans p1'; have l2 := ((bcell hb1).1 b2 (o2 + k * 2) (block_lt_of_cell q0')).trans q0'; have l3 := ((bcell hb1).1 b2 (o2 + k * 2 + 1) (block_lt_of_cell q0')).trans q1'; have l4 := ((bcell hb1).1 w.heap.size 0 (by omega)).trans y1; have l5 := ((bcell hb1).1 (w.heap.size + 1) 0 (by omega)).trans y2))
      all_goals
        go_wp2_with fail
        go_roundw
        case rel => exact ⟨k + 1, by omega, by go_num, HB.out.trans (hb1.mono HB.out.size)⟩
        case measure => simp [intOf]; omega
    · have i0 : ¬ (k : Int) < (xs.length : Int) := by omega
      go_wp2_with fail
      go_ret
      exact ⟨rfl, H2.out.trans (HB.out.mono H2.out.size)⟩

end Go.Proofs.Yteainbakfeedpaa
