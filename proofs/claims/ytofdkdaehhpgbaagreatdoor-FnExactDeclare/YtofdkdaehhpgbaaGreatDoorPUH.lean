/- Answers that are a session and a code. -/
import Derived.Test.YtofdkdaehhpgbaaGreatDoorKSA
namespace Go.Proofs.YtofdkdaehhpgbaaGreatDoor
set_option linter.unusedVariables false
set_option linter.unusedSimpArgs false
open Go.RowKit

/-- A session's content, and a code. -/
structure Rv where
  ds : List Dc
  cs : List Sc
  nx : Int
  code : Int
def RetP (R : Rv) (w : World) (e : Ending) (w' : World) : Prop := ∃ a1 c1 a2 c2 l p M, e = .returned (.tuple #[.agg #[.slice a1 R.ds.length c1, .slice a2 R.cs.length c2, .int .i64 R.nx], .int .i64 R.code]) ∧ Sn2 w.heap.size M w'.heap.size (.slice a1 R.ds.length c1) (.slice a2 R.cs.length c2) R.ds l p w' ∧ l.map Sg.ct = R.cs ∧ Below w.heap.size w w'
def zeSR : Rv := ⟨[], [], 0, 1⟩
def pushR (ds : List Dc) (cs : List Sc) (nx : Int) : Rv := if sesR ds cs nx = true then (if cs.length = 20 then ⟨ds, cs, nx, 5⟩ else ⟨ds, cs ++ [⟨ds.length, []⟩], nx, 0⟩) else zeSR
theorem ses_len {ds : List Dc} {cs : List Sc} {nx : Int} (h : sesR ds cs nx = true) : 1 ≤ cs.length ∧ cs.length ≤ 20 := by
  unfold sesR scpR at h
  simp only [Bool.and_eq_true, decide_eq_true_eq] at h
  exact h.1.1.1.1.2.1.1
theorem Sn2.wide {lo lo' M hi hi' : Nat} {v1 v2 : Value} {ds : List Dc} {l : List Sg} {p : Nat → Nat × Nat} {w : World} (h : Sn2 lo M hi v1 v2 ds l p w) (hl : lo' ≤ lo) (hh : hi ≤ hi') : Sn2 lo' M hi' v1 v2 ds l p w :=
  ⟨Nat.le_trans hl h.le, Nat.le_trans h.le2 hh, h.dec.low hl, h.decb, h.scp.mono hh (Nat.le_refl _)⟩
theorem Zn.set_other {lo hi β : Nat} {v : Value} {l : List Sg} {p : Nat → Nat × Nat} {w : World} {cs : Array Value} {t : TypeId} (h : Zn lo hi v l p w) (hb : Bz w β cs t) (ht : t ≠ 63) (hp : ∀ i x, l[i]? = some x → β < (p i).1 ∨ (p i).2 ≤ β) (o : Nat) (u : Value) : Zn lo hi v l p (w.setCell ⟨β, o, none⟩ u) :=
  ⟨h.row.move fun b hb' => heap_setCell_other _ _ _ _ (fun e => by
    simp only [] at e
    subst e
    rcases h.row.2 with ⟨rfl, -⟩ | ⟨g, cap, cur, rfl, hg, hh, -⟩
    · cases hb'
    · cases hb'
      unfold Bz at hb
      rw [hb] at hh
      cases hh
      exact ht rfl), h.rb, fun i x hx => by
    obtain ⟨q1, q2, q3, q4, q5⟩ := h.each i x hx
    exact ⟨q1, q2, q3, q4.out (Out.setc w β o u) (by have := hp i x hx; omega), q5⟩, h.dis⟩
theorem Zn.bz {lo hi b : Nat} {v : Value} {l : List Sg} {p : Nat → Nat × Nat} {w w' w0 : World} {cs : Array Value} {t : TypeId} (h : Zn lo hi v l p w0) (hb : Bz w b cs t) (hg : w.grownBy w' v.ownBlock) (hd : b < lo ∨ hi ≤ b) : Bz w' b cs t :=
  (hg.block b hb.lt (fun e => by have := (h.row.lt e.symm).1; have := h.rb _ e.symm; omega)).trans hb
theorem Ln.none (w : World) (lo hi : Nat) : Ln lo hi (.slice none 0 0) [] (fun _ => (0, 0)) w := Ln.nil _ _ _

def okR (R : Rv) : Prop := okDs R.ds ∧ (∀ c ∈ R.cs, okSc c ∧ c.ls.length ≤ 60) ∧ R.cs.length ≤ 60
theorem ses_each {ds : List Dc} {cs : List Sc} {nx : Int} (h : sesR ds cs nx = true) : ∀ c ∈ cs, c.ls.length ≤ 60 := fun c hc => by
  have h60 := all_len ds cs nx
  unfold allR at h60
  rw [if_pos h] at h60
  obtain ⟨xs, ys, rfl⟩ := List.append_of_mem hc
  unfold allL at h60
  rw [List.flatMap_append, List.flatMap_cons, List.length_append, List.length_append] at h60
  omega
theorem zero_ok : okR zeSR := ⟨⟨by simp [zeSR], fun x hx => by simp [zeSR] at hx⟩, (fun c hc => by simp [zeSR] at hc), by simp [zeSR]⟩
theorem push_ok {w : World} {a b : Option Addr} {ds : List Dc} {xs : List Sg} (hr : RdD w a ds) (hs : RdS w b xs) (nx : Int) : okR (pushR ds (xs.map Sg.ct) nx) := by
  unfold pushR
  cases hv : sesR ds (xs.map Sg.ct) nx with
  | false => rw [if_neg (by simp)]; exact zero_ok
  | true =>
    rw [if_pos rfl]
    have h1 := hs.okc
    have h2 := ses_each hv
    have h3 := (ses_len hv).2
    split
    · exact ⟨hr.okd, fun c hc => ⟨h1 c hc, h2 c hc⟩, by show (xs.map Sg.ct).length ≤ 60; omega⟩
    · refine ⟨hr.okd, fun c hc => ?_, by show (xs.map Sg.ct ++ _).length ≤ 60; rw [List.length_append]; simp only [List.length_cons, List.length_nil]; omega⟩
      rcases List.mem_append.1 hc with hc | hc
      · exact ⟨h1 c hc, h2 c hc⟩
      · simp at hc
        subst hc
        have := hr.1
        exact ⟨⟨⟨by simp only []; omega, by simp only []; omega⟩, by simp, fun y hy => by simp at hy⟩, by simp⟩

/-- An answer: its session stays readable, and can be marked. -/
def RetG (R : Rv) (rd rn : Nat) (w : World) (e : Ending) (w' : World) : Prop := ∃ a1 c1 a2 c2 l, e = .returned (.tuple #[.agg #[.slice a1 rd c1, .slice a2 rn c2, .int .i64 R.nx], .int .i64 R.code]) ∧ l.map Sg.ct = R.cs ∧ Rs w.heap.size w'.heap.size a1 a2 R.ds l w' ∧ Gs w.heap.size w'.heap.size (.agg #[.slice a1 rd c1, .slice a2 rn c2, .int .i64 R.nx]) w' ∧ Below w.heap.size w w'
theorem RetP.g {R : Rv} {w w' : World} {e : Ending} (h : RetP R w e w') (hk : okR R) : RetG R R.ds.length R.cs.length w e w' := by
  obtain ⟨a1, c1, a2, c2, l, p, M, e, sn, hct, hb⟩ := h
  obtain ⟨k1, k2, k3⟩ := hk
  have hl : l.length = R.cs.length := by rw [← hct, List.length_map]
  refine ⟨a1, c1, a2, c2, l, e, hct, sn.rs k1 (by omega) (fun c hc => (k2 c (by rw [← hct]; exact hc)).1), sn.gs R.nx k1.1 hl k3 (fun x hx => ?_), hb⟩
  obtain ⟨q1, q2⟩ := k2 x.ct (by rw [← hct]; exact List.mem_map_of_mem hx)
  exact ⟨sh_of rfl q1.2.2, by simpa [Sg.ct] using q2⟩
/-- .. of which only the reading is asked. -/
def RetR (R : Rv) (rd rn : Nat) (w : World) (e : Ending) (w' : World) : Prop := ∃ a1 c1 a2 c2 l, e = .returned (.tuple #[.agg #[.slice a1 rd c1, .slice a2 rn c2, .int .i64 R.nx], .int .i64 R.code]) ∧ l.map Sg.ct = R.cs ∧ Rs w.heap.size w'.heap.size a1 a2 R.ds l w' ∧ Below w.heap.size w w'
theorem RetP.r {R : Rv} {w w' : World} {e : Ending} (h : RetP R w e w') (hk : okR R) : RetR R R.ds.length R.cs.length w e w' := by
  obtain ⟨a1, c1, a2, c2, l, e, h1, h2, -, h3⟩ := h.g hk
  exact ⟨a1, c1, a2, c2, l, e, h1, h2, h3⟩

end Go.Proofs.YtofdkdaehhpgbaaGreatDoor
