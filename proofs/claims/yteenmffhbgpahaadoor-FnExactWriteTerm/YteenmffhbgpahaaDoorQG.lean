/- An owned row of whole numbers that grows; what the widths of a term are. -/
import Derived.Test.YteenmffhbgpahaaDoorQD
import Derived.Test.YteenmffhbgpahaaDoorQF
namespace Go.Proofs.YteenmffhbgpahaaDoor
set_option linter.unusedVariables false
set_option linter.unusedSimpArgs false
open Go.RowKit

/-- A row of whole numbers that is the owner's own. -/
def OW (w : World) (B : Nat) (v : Value) (xs : List Int) : Prop := w.ownsRow B 2 1 v xs.length (xs.map (Value.int .i64))

theorem OW.lt {w : World} {B : Nat} {v : Value} {xs : List Int} (h : OW w B v xs) {k : Nat} (hk : v.ownBlock = some k) : B ≤ k ∧ k < w.heap.size := World.ownsRow.lt h k hk

theorem OW.typed {w : World} {B : Nat} {v : Value} {xs : List Int} (h : OW w B v xs) {b : Nat} {cs : Array Value} {t : TypeId} {fr : Nat × Nat} (hb : w.heap[b]? = some (.cells cs t fr)) (ht : t ≠ 2) : some b ≠ v.ownBlock := fun hk => by
  rcases h.2 with ⟨rfl, -⟩ | ⟨g, cap, cur, rfl, hg, hh, -⟩
  · cases hk
  · cases hk
    rw [hb] at hh
    cases hh
    exact ht rfl

theorem OW.kept {w w' : World} {B : Nat} {v : Value} {xs : List Int} (h : OW w B v xs) {g : Option Nat} (hg : w.grownBy w' g) (hn : v.ownBlock = none ∨ v.ownBlock ≠ g) : OW w' B v xs := World.ownsRow.kept h hg (by
  rcases hn with hn | hn
  · exact .inl hn
  · exact .inr hn)

theorem OW.later {w w' : World} {B : Nat} {v : Value} {xs : List Int} (h : OW w B v xs) (hb : Below w.heap.size w w') : OW w' B v xs := World.ownsRow.kept (row := none) h ⟨hb.os, hb.tape, hb.output, hb.size, fun k hk _ => hb.block k hk⟩ (by
  cases h' : v.ownBlock with
  | none => exact .inl rfl
  | some k => exact .inr (by simp))

theorem OW.rd {w : World} {B : Nat} {v : Value} {xs : List Int} (h : OW w B v xs) (hl : xs.length ≤ 1048576) (hi : ∀ x ∈ xs, in64 x) : ∃ a c, v = .slice a xs.length c ∧ RdI w a xs := by
  have hcells := fun g hg => World.ownsRow.cells h (g := g) hg
  rcases h.2 with ⟨rfl, hn⟩ | ⟨g, cap, cur, rfl, -, -, -⟩
  · exact ⟨none, 0, by rw [hn], hl, hi, .inl (List.eq_nil_of_length_eq_zero hn)⟩
  · refine ⟨some ⟨g, 0, none⟩, cap, rfl, hl, hi, .inr ⟨g, 0, rfl, fun i hi' => ?_⟩⟩
    have c0 := hcells g rfl i (.int .i64 (xs.getD i 0)) (by simp [List.getD, hi'])
    rw [Addr.add_lit] at c0
    simpa using c0

theorem wpList_appW {w : World} {ops : Array Oper} {rest : List Oper} {o : Oper} {a : Act} {Q : Exit → Act → World → Prop} (hgd : o.guard = none) (s x : Operand)
    (ho : o.op = .call { callee := .builtin .append, args := #[s, x], argTypes := #[43, 43] })
    (B : Nat) (v : Value) (xs : List Int) (y : Int) (hs : a.eval s = v) (hown : OW w B v xs) (gx : Nat) (hx : a.eval x = .slice (some ⟨gx, 0, none⟩) 1 1)
    (h0 : w.cell? ⟨gx, 0, none⟩ = some (.int .i64 y)) (hl : xs.length ≤ 1073741824) (hB : B ≤ w.heap.size)
    (h : ∀ v' w', OW w' B v' (xs ++ [y]) → w.grownBy w' v.ownBlock → wpList Tryd.prog ops Q rest (a.put o.dst v') w') : wpList Tryd.prog ops Q (o :: rest) a w := by
  obtain ⟨i0, hi, hz0, hz1, hz2⟩ := info_parts Tryd.infoI64
  refine wpList_append_own_at w hgd s x 43 ho B 2 i0 _ 1 8 Tryd.underlying43 hi hz0 hz1 hz2 rfl (by decide) v xs.length (xs.map (Value.int .i64)) hs hown ⟨gx, 0, none⟩ 1 1 [.int .i64 y] hx rfl ?_ ?_ (by unfold maxLen; omega) (by omega) hB ?_
  · intro j u hj
    rw [Addr.add_lit]
    match j, hj with
    | 0, hj => simp at hj; subst hj; exact h0
    | j + 1, hj => simp at hj
  · intro u hu
    simp at hu
    subst hu
    rfl
  · intro v' w' ho' hg _ _
    refine h v' w' ?_ hg
    unfold OW
    rw [List.map_append, List.length_append]
    exact ho'

/-- The width of a node behind those whose widths are told; none: it is not right. -/
def stepR (ds : List Dc) (wide : List Int) (n : Tc) : Option Int :=
  if (kidsR wide.length n.ks && fieldR n && manyR ds.length n) = true then
    (if 1 ≤ wideR ds n (sumR wide n.ks 0) ∧ wideR ds n (sumR wide n.ks 0) ≤ 4096 then some (wideR ds n (sumR wide n.ks 0)) else none)
  else none

/-- .. of all, one behind the other. -/
def goR (ds : List Dc) : List Int → List Tc → Option (List Int)
  | wide, [] => some wide
  | wide, n :: t => match stepR ds wide n with
    | none => none
    | some v => goR ds (wide ++ [v]) t

def usedR (ns : List Tc) (i : Nat) : Bool := ns.any (fun n => n.ks.any (fun k => decide (k = (i : Int))))

/-- The widths of all nodes; nothing: the term is not right. -/
def widthsR (ds : List Dc) (ns : List Tc) : List Int :=
  if (dclR ds && decide (1 ≤ ns.length) && decide (ns.length ≤ 400)) = true then
    match goR ds [] ns with
    | none => []
    | some wide => if (List.range (ns.length - 1)).all (usedR ns) = true then wide else []
  else []

theorem goR_none {ds : List Dc} {wide : List Int} {ns : List Tc} {k : Nat} {n : Tc} (hk : ns[k]? = some n) (h : stepR ds wide n = none) : goR ds wide (ns.drop k) = none := by
  have l := (List.getElem?_eq_some_iff.1 hk).1
  rw [List.drop_eq_getElem_cons l, goR]
  rw [List.getElem?_eq_getElem l] at hk
  cases hk
  rw [h]

theorem goR_some {ds : List Dc} {wide : List Int} {ns : List Tc} {k : Nat} {n : Tc} {v : Int} (hk : ns[k]? = some n) (h : stepR ds wide n = some v) : goR ds wide (ns.drop k) = goR ds (wide ++ [v]) (ns.drop (k + 1)) := by
  have l := (List.getElem?_eq_some_iff.1 hk).1
  rw [List.drop_eq_getElem_cons l, goR]
  rw [List.getElem?_eq_getElem l] at hk
  cases hk
  rw [h]

theorem stepR_range {ds : List Dc} {wide : List Int} {n : Tc} {v : Int} (h : stepR ds wide n = some v) : 1 ≤ v ∧ v ≤ 4096 := by
  unfold stepR at h
  split at h
  · split at h
    · cases h; assumption
    · cases h
  · cases h

theorem stepR_kids {ds : List Dc} {wide : List Int} {n : Tc} {v : Int} (h : stepR ds wide n = some v) : (kidsR wide.length n.ks && fieldR n && manyR ds.length n) = true := by
  unfold stepR at h
  split at h
  · assumption
  · cases h

/-- A node of a variable that is as it should be names one. -/
theorem manyR_var {nd : Nat} {n : Tc} (h : manyR nd n = true) : n.op = 1 → 0 ≤ n.vr ∧ n.vr ≤ (nd : Int) - 1 := by
  intro e
  unfold manyR at h
  rw [if_pos e] at h
  simp at h
  omega

end Go.Proofs.YteenmffhbgpahaaDoor
