/- The program's grove: a knot's head, a place, one more knot, one more tie on the trail. -/
import Derived.Test.YtakicdlfolhhcaaGC
import Derived.Deep.LoopGhost
namespace Go.Proofs.Ytakicdlfolhhcaa
set_option linter.unusedVariables false
set_option linter.unusedSimpArgs false
open Go.RowKit

theorem cell_of {w : World} {b o : Nat} {cs : Array Value} {t : TypeId} {fr : Nat × Nat} (h : w.heap[b]? = some (.cells cs t fr)) : w.cell? ⟨b, o, none⟩ = cs[o]? := by
  simp [World.cell?, h]

theorem Gv.get {w : World} {B G M i p : Nat} {s : Gs} (h : Gv w B G M s) (hi : s.ps[i]? = some p) : w.cell? ⟨p, 0, none⟩ = some (.int .i64 (i : Int)) ∧ w.cell? ⟨p, 1, none⟩ = some (s.tc i) ∧ w.cell? ⟨p, 2, none⟩ = some (upv s.ps (s.up i)) ∧ w.cell? ⟨p, 3, none⟩ = some (.int .i64 (s.sz i)) ∧ w.cell? ⟨p, 4, none⟩ = some (.int .i64 (s.le i)) := by
  have hp := (h.kn i p hi).2
  rw [cell_of hp, cell_of hp, cell_of hp, cell_of hp, cell_of hp]
  exact ⟨rfl, rfl, rfl, rfl, rfl⟩

theorem head_any {w : World} {B G M : Nat} {s : Gs} (h : Gv w B G M s) {L : Nat → Nat} {rt dp : Nat → Nat} (hu : Uf s.ps.length L s.up s.le rt dp) (i p : Nat) (hi : s.ps[i]? = some p) :
    Calls Try.prog 47 #[pt p] w fun e w' => e = .returned (pt (s.ps.getD (rt i) 0)) ∧ w' = w := by
  have HU := kide hu
  have HH := kide h
  have HI := kide hi
  clear hu h hi
  unfold pt
  go_enter Try.func47, Try.ntmps47
  go_wp2_with fail
  go_loopg [0] (dp i) (fun g q wr => ∃ j pj : Nat, s.ps[j]? = some pj ∧ rt j = rt i ∧ dp j ≤ g ∧ q = .pointer (some ⟨pj, 0, none⟩) ∧ wr = w)
  case atStart => exact ⟨i, p, HI.out, rfl, Nat.le_refl _, rfl, rfl⟩
  case round =>
    obtain ⟨j, pj, hj, hr, hg, rfl, rfl⟩ := hrel
    obtain ⟨-, -, q2, -, -⟩ := HH.out.get hj
    have hjl : j < s.ps.length := (List.getElem?_eq_some_iff.1 hj).1
    have HR := kide hr
    cases hu : s.up j with
    | none =>
      have hrj : Hid (rt j = j) := HU.out.root j hjl hu
      have hfin : Hid (s.ps.getD (rt i) 0 = pj) := by
        show _ = _
        rw [← HR.out, hrj.out, List.getD, hj]; rfl
      rw [hu] at q2
      simp only [upv] at q2
      clear hu hj hr hrj
      go_wp2_with fail
      go_ret
      exact ⟨by rw [hfin.out]; rfl, rfl⟩
    | some m =>
      obtain ⟨h1, h2, h3⟩ := HU.out.step j hjl m hu
      obtain ⟨pm, hm⟩ : ∃ pm, s.ps[m]? = some pm := ⟨s.ps[m], List.getElem?_eq_getElem h1⟩
      have hpm : s.ps.getD m 0 = pm := by rw [List.getD, hm]; rfl
      rw [hu] at q2
      simp only [upv, pt] at q2
      rw [hpm] at q2
      have HM := kide hm
      have H2 := kide (h2.trans hr)
      clear hu hj hr hm h2 hpm
      go_wp2_with fail
      go_roundg (dp m)
      case measure => omega
      case rel => exact ⟨m, pm, HM.out, H2.out, Nat.le_refl _, rfl, rfl⟩

theorem Gv.kform {w : World} {B G M : Nat} {s : Gs} (h : Gv w B G M s) : ∃ a c, s.kv = .slice a s.ps.length c ∧ ∀ i p, s.ps[i]? = some p → ∃ g, a = some ⟨g, 0, none⟩ ∧ w.cell? ⟨g, i, none⟩ = some (pt p) := by
  have hcells := fun g hg => World.ownsRow.cells h.kr (g := g) hg
  rcases h.kr.2 with ⟨e, hn⟩ | ⟨g, cap, cur, e, -, -, -⟩
  · refine ⟨none, 0, by rw [e, hn], fun i p hi => ?_⟩
    have := (List.getElem?_eq_some_iff.1 hi).1
    omega
  · refine ⟨some ⟨g, 0, none⟩, cap, e, fun i p hi => ⟨g, rfl, ?_⟩⟩
    have c0 := hcells g (by rw [e]; rfl) i (pt p) (by rw [List.getElem?_map, hi]; rfl)
    rw [Addr.add_lit] at c0
    simpa using c0

theorem has_any {w : World} {B G M : Nat} {s : Gs} (h : Gv w B G M s) (hk : s.kc = s.kv) (hl : s.ps.length ≤ 1000) (x : Int) :
    Calls Try.prog 46 #[pt G, .int .i64 x] w fun e w' => e = .returned (.bool (decide (0 ≤ x ∧ x < (s.ps.length : Int)))) ∧ w' = w := by
  obtain ⟨a, c, e, -⟩ := h.kform
  have q0 : w.cell? ⟨G, 0, none⟩ = some (.slice a s.ps.length c) := by rw [cell_of h.gb]; simp [hk, e]
  generalize s.ps.length = n at *
  clear h e hk
  unfold pt
  by_cases h1 : 0 ≤ x
  · by_cases h2 : x < (n : Int)
    · rw [decide_eq_true ⟨h1, h2⟩]
      go_enter Try.func46, Try.ntmps46
      go_wp2
      go_ret
      exact ⟨rfl, rfl⟩
    · rw [decide_eq_false (fun h => h2 h.2)]
      go_enter Try.func46, Try.ntmps46
      go_wp2
      go_ret
      exact ⟨rfl, rfl⟩
  · rw [decide_eq_false (fun h => h1 h.1)]
    go_enter Try.func46, Try.ntmps46
    go_wp2
    go_ret
    exact ⟨rfl, rfl⟩

end Go.Proofs.Ytakicdlfolhhcaa
