/- Several texts in one. -/
import Derived.Lib.SlicesCompact
import Derived.Test.YtkkboaiablfdbaaGreatDoorQG
import Derived.Test.YtkkboaiablfdbaaGreatDoorQK
import Derived.Shelf.SlGeneric
import Derived.Shelf.SortM.Plain
import Derived.Shelf.SortM.SortNone
import Derived.Shelf.SlicesG.CompactI
import Derived.Ground.SlgmProg
import Derived.Ground.SlgnProg
import Derived.Test.YtkkboaiablfdbaaGreatDoorProg
import Derived.Lib.OwnBridge
import Derived.Sort.OwnSortedInts

/- The variables of a term: sorted, each once; or one by one. -/
namespace Go.Proofs.YtkkboaiablfdbaaGreatDoor
set_option linter.unusedVariables false
set_option linter.unusedSimpArgs false
open Go.RowKit Go.Lib

theorem rise_ext : ∀ l1 l2 : List Int, l1.Pairwise (· < ·) → l2.Pairwise (· < ·) → (∀ x, x ∈ l1 ↔ x ∈ l2) → l1 = l2
  | [], [], _, _, _ => rfl
  | [], y :: t, _, _, h => by have := (h y).2 (by simp); simp at this
  | x :: s, [], _, _, h => by have := (h x).1 (by simp); simp at this
  | x :: s, y :: t, h1, h2, h => by
    rw [List.pairwise_cons] at h1 h2
    have e : x = y := by
      rcases List.mem_cons.1 ((h x).1 (by simp)) with e | e
      · exact e
      · rcases List.mem_cons.1 ((h y).2 (by simp)) with e' | e'
        · exact e'.symm
        · have a := h2.1 x e
          have b := h1.1 y e'
          omega
    subst e
    congr 1
    refine rise_ext s t h1.2 h2.2 (fun z => ⟨fun hz => ?_, fun hz => ?_⟩)
    · rcases List.mem_cons.1 ((h z).1 (by simp [hz])) with e | e
      · have := h1.1 z hz; omega
      · exact e
    · rcases List.mem_cons.1 ((h z).2 (by simp [hz])) with e | e
      · have := h2.1 z hz; omega
      · exact e

theorem compact_facts (d : Array Int) (hs : ∀ i, i + 1 < d.size → d[i]! ≤ d[i + 1]!) : ∀ m, m ≤ d.size → (compactUpTo d m).Pairwise (· < ·) ∧ (∀ x, x ∈ compactUpTo d m ↔ ∃ j, j < m ∧ d[j]! = x) ∧ (0 < m → ∀ x ∈ compactUpTo d m, x ≤ d[m - 1]!)
  | 0, _ => ⟨by simp [compactUpTo], by simp [compactUpTo], by omega⟩
  | m + 1, hm => by
    obtain ⟨h1, h2, h3⟩ := compact_facts d hs m (by omega)
    rw [compactUpTo_succ]
    by_cases hk : keeps d m = true
    · rw [if_pos hk]
      have hall : ∀ x ∈ compactUpTo d m, x < d[m]! := by
        intro x hx
        by_cases h0 : m = 0
        · subst h0; simp [compactUpTo] at hx
        · have a := h3 (by omega) x hx
          have b := hs (m - 1) (by omega)
          rw [show m - 1 + 1 = m by omega] at b
          simp [keeps, h0] at hk
          omega
      refine ⟨?_, fun x => ?_, fun _ x hx => ?_⟩
      · rw [List.pairwise_append]
        refine ⟨h1, by simp, fun a ha b hb => ?_⟩
        simp at hb
        subst hb
        exact hall a ha
      · rw [List.mem_append, h2 x]
        simp
        constructor
        · rintro (⟨j, hj, e⟩ | e)
          · exact ⟨j, by omega, e⟩
          · exact ⟨m, by omega, e.symm⟩
        · rintro ⟨j, hj, e⟩
          by_cases hjm : j = m
          · subst hjm; exact .inr e.symm
          · exact .inl ⟨j, by omega, e⟩
      · simp at hx ⊢
        rcases hx with hx | rfl
        · exact Int.le_of_lt (hall x hx)
        · exact Int.le_refl _
    · rw [if_neg hk, List.append_nil]
      have h0 : m ≠ 0 := fun h => hk (by subst h; simp [keeps])
      have he : d[m]! = d[m - 1]! := by
        have := hk
        simp [keeps, h0] at this
        exact this
      refine ⟨h1, fun x => ?_, fun _ x hx => ?_⟩
      · rw [h2 x]
        constructor
        · rintro ⟨j, hj, e⟩
          exact ⟨j, by omega, e⟩
        · rintro ⟨j, hj, e⟩
          by_cases hjm : j = m
          · subst hjm; exact ⟨j - 1, by omega, by rw [← he]; exact e⟩
          · exact ⟨j, by omega, e⟩
      · have := h3 (by omega) x hx
        simp
        rw [he]
        exact this

theorem sort_compact (zs : List Int) : (compact (zs.mergeSort fun x y => decide (x ≤ y))).Pairwise (· < ·) ∧ ∀ x, x ∈ compact (zs.mergeSort fun x y => decide (x ≤ y)) ↔ x ∈ zs := by
  have hso : (zs.mergeSort fun x y => decide (x ≤ y)).Pairwise (fun x y => decide (x ≤ y) = true) := List.pairwise_mergeSort (le := fun x y : Int => decide (x ≤ y)) (by intro a b c; simp; omega) (by intro a b; simp; omega) zs
  have hmem : ∀ x, x ∈ (zs.mergeSort fun x y => decide (x ≤ y)) ↔ x ∈ zs := fun x => List.mem_mergeSort
  generalize (zs.mergeSort fun x y => decide (x ≤ y)) = ys at hso hmem
  have hs : ∀ i, i + 1 < ys.toArray.size → ys.toArray[i]! ≤ ys.toArray[i + 1]! := by
    intro i hi
    have hi' : i + 1 < ys.length := by simpa using hi
    have := (List.pairwise_iff_getElem.1 hso) i (i + 1) (by omega) hi' (by omega)
    simp at this
    rw [getElem!_pos _ i (by simp; omega), getElem!_pos _ (i + 1) (by simp; omega)]
    simpa using this
  obtain ⟨h1, h2, -⟩ := compact_facts ys.toArray hs ys.length (by simp)
  refine ⟨h1, fun x => ?_⟩
  rw [← hmem x]
  show x ∈ compactUpTo _ _ ↔ _
  rw [h2 x]
  constructor
  · rintro ⟨j, hj, e⟩
    rw [getElem!_pos _ j (by simpa using hj)] at e
    subst e
    simp
  · intro hx
    obtain ⟨j, hj, e⟩ := List.mem_iff_getElem.1 hx
    exact ⟨j, hj, by rw [getElem!_pos _ j (by simpa using hj)]; simpa using e⟩
/-- The places that nodes of variables name, in their order. -/
def varL (ns : List Tc) : List Int := ns.filterMap (fun n => if n.op = 1 then some n.vr else none)

/-- Is v named? -/
def hasV (ns : List Tc) (v : Nat) : Bool := ns.any (fun n => decide (n.op = 1) && decide (n.vr = (v : Int)))

/-- Those of the first m variables that are named. -/
def upV (ns : List Tc) (m : Nat) : List Int := ((List.range m).filter (hasV ns)).map (fun v : Nat => (v : Int))

def varsR (ds : List Dc) (ns : List Tc) : List Int := if (widthsR ds ns).length = 0 then [] else upV ns ds.length

theorem upV_succ (ns : List Tc) (m : Nat) : upV ns (m + 1) = upV ns m ++ (if hasV ns m = true then [(m : Int)] else []) := by
  unfold upV
  rw [List.range_succ, List.filter_append, List.map_append]
  congr 1
  by_cases h : hasV ns m = true <;> simp [h]

theorem upV_len (ns : List Tc) (m : Nat) : (upV ns m).length ≤ m := by
  unfold upV
  rw [List.length_map]
  exact Nat.le_trans (List.length_filter_le _ _) (by simp)

theorem upV_mem (ns : List Tc) (m : Nat) (x : Int) : x ∈ upV ns m ↔ ∃ v : Nat, v < m ∧ hasV ns v = true ∧ (v : Int) = x := by
  unfold upV
  simp [List.mem_filter, List.mem_map]
  constructor
  · rintro ⟨v, ⟨h1, h2⟩, h3⟩; exact ⟨v, h1, h2, h3⟩
  · rintro ⟨v, h1, h2, h3⟩; exact ⟨v, ⟨h1, h2⟩, h3⟩

theorem upV_rise (ns : List Tc) : ∀ m, (upV ns m).Pairwise (· < ·)
  | 0 => by simp [upV]
  | m + 1 => by
    rw [upV_succ, List.pairwise_append]
    refine ⟨upV_rise ns m, by split <;> simp, fun a ha b hb => ?_⟩
    obtain ⟨v, h1, -, rfl⟩ := (upV_mem ns m a).1 ha
    split at hb
    · simp at hb; omega
    · simp at hb

theorem goR_many {ds : List Dc} : ∀ (ns : List Tc) (wide r : List Int), goR ds wide ns = some r → ∀ n ∈ ns, manyR ds.length n = true
  | [], _, _, _, n, hn => by simp at hn
  | m :: t, wide, r, h, n, hn => by
    rw [goR] at h
    cases hs : stepR ds wide m with
    | none => rw [hs] at h; cases h
    | some v =>
      rw [hs] at h
      rcases List.mem_cons.1 hn with rfl | hn
      · have := stepR_kids hs
        simp at this
        exact this.2
      · exact goR_many t _ r h n hn

theorem widthsR_many {ds : List Dc} {ns : List Tc} (h : ¬ (widthsR ds ns).length = 0) : ∀ n ∈ ns, manyR ds.length n = true := by
  unfold widthsR at h
  split at h
  · cases hg : goR ds [] ns with
    | none => rw [hg] at h; simp at h
    | some r => exact goR_many ns [] r hg
  · simp at h

theorem varL_mem (ns : List Tc) (x : Int) : x ∈ varL ns ↔ ∃ n ∈ ns, n.op = 1 ∧ n.vr = x := by
  unfold varL
  rw [List.mem_filterMap]
  constructor
  · rintro ⟨n, h1, h2⟩
    split at h2
    · cases h2; exact ⟨n, h1, by assumption, rfl⟩
    · cases h2
  · rintro ⟨n, h1, h2, h3⟩
    exact ⟨n, h1, by rw [if_pos h2, h3]⟩

theorem hasV_iff (ns : List Tc) (v : Nat) : hasV ns v = true ↔ ∃ n ∈ ns, n.op = 1 ∧ n.vr = (v : Int) := by
  unfold hasV
  simp [List.any_eq_true]

theorem vars_eq {ds : List Dc} {ns : List Tc} (h : ¬ (widthsR ds ns).length = 0) : compact ((varL ns).mergeSort fun x y => decide (x ≤ y)) = upV ns ds.length := by
  obtain ⟨h1, h2⟩ := sort_compact (varL ns)
  refine rise_ext _ _ h1 (upV_rise _ _) (fun x => ?_)
  rw [h2 x, varL_mem, upV_mem]
  constructor
  · rintro ⟨n, hn, ho, rfl⟩
    have hm := manyR_var (widthsR_many h n hn) ho
    obtain ⟨v, hv⟩ : ∃ v : Nat, (v : Int) = n.vr := ⟨n.vr.toNat, by omega⟩
    exact ⟨v, by omega, (hasV_iff ns v).2 ⟨n, hn, ho, hv.symm⟩, hv⟩
  · rintro ⟨v, hv, hh, rfl⟩
    obtain ⟨n, hn, ho, e⟩ := (hasV_iff ns v).1 hh
    exact ⟨n, hn, ho, e⟩

theorem varL_take {ns : List Tc} {k : Nat} {n : Tc} (h : ns[k]? = some n) : varL (ns.take (k + 1)) = varL (ns.take k) ++ (if n.op = 1 then [n.vr] else []) := by
  unfold varL
  rw [List.take_add_one, h, List.filterMap_append]
  congr 1
  by_cases e : n.op = 1 <;> simp [e]

theorem varL_len (ns : List Tc) : (varL ns).length ≤ ns.length := List.length_filterMap_le _ _

end Go.Proofs.YtkkboaiablfdbaaGreatDoor

/- What the specification's VarsOf answers. -/
namespace Go.Proofs.YtkkboaiablfdbaaGreatDoor
set_option linter.unusedVariables false
set_option linter.unusedSimpArgs false
open Go.RowKit

theorem St.grown {w wr wr' : World} {bx : Obj} {v : Value} {xs : List Int} (h : St w bx wr) (ho : OW wr (w.heap.size + 1) v xs) (hg : wr.grownBy wr' v.ownBlock) : St w bx wr' :=
  Below.grown h hg (by have := h.size; omega) (fun j hj => (ho.lt hj).1)

theorem hasV_take {ns : List Tc} {k v : Nat} {n : Tc} (h : ns[k]? = some n) : hasV (ns.take (k + 1)) v = (hasV (ns.take k) v || (decide (n.op = 1) && decide (n.vr = (v : Int)))) := by
  unfold hasV
  rw [List.take_add_one, h, List.any_append]
  simp


end Go.Proofs.YtkkboaiablfdbaaGreatDoor

/- The library's contracts at this program. -/
namespace Go.Proofs
open Go.Shelf
def Tryz.sortV_ren : Go.Shelf.Ren := ⟨fun | 5 => 41 | 8 => 61 | 7 => 60 | 19 => 89 | 20 => 90 | 10 => 80 | 11 => 81 | 12 => 82 | 13 => 83 | 14 => 84 | 15 => 85 | 16 => 86 | 17 => 87 | 18 => 88 | 30 => 101 | 31 => 102 | 32 => 103 | 33 => 104 | 34 => 105 | 35 => 106 | 40 => 109 | n => n, fun | 23 => 48 | 25 => 2 | 3 => 3 | 32 => 96 | 22 => 48 | 0 => 0 | 44 => 125 | 46 => 104 | 4 => 4 | 36 => 117 | 35 => 116 | 41 => 122 | 5 => 5 | 9 => 9 | 53 => 146 | 57 => 150 | 63 => 168 | 64 => 169 | n => n, fun | n => n⟩
theorem Tryz.sortV : Go.Proofs.SlLaysM.n5 Tryz.prog Tryz.sortV_ren := {
  mixed := by kernel_rfl
  f5 := ⟨Tryz.f41.name, by decide, Tryz.func41.trans (congrArg some (by kernel_rfl))⟩
  f7 := ⟨Tryz.f60.name, by decide, Tryz.func60.trans (congrArg some (by kernel_rfl))⟩
  f8 := Tryz.func61.trans (congrArg some (by kernel_rfl))
  f10 := ⟨Tryz.f80.name, by decide, Tryz.func80.trans (congrArg some (by kernel_rfl))⟩
  f11 := ⟨Tryz.f81.name, by decide, Tryz.func81.trans (congrArg some (by kernel_rfl))⟩
  f12 := ⟨Tryz.f82.name, by decide, Tryz.func82.trans (congrArg some (by kernel_rfl))⟩
  f13 := ⟨Tryz.f83.name, by decide, Tryz.func83.trans (congrArg some (by kernel_rfl))⟩
  f14 := ⟨Tryz.f84.name, by decide, Tryz.func84.trans (congrArg some (by kernel_rfl))⟩
  f15 := ⟨Tryz.f85.name, by decide, Tryz.func85.trans (congrArg some (by kernel_rfl))⟩
  f16 := ⟨Tryz.f86.name, by decide, Tryz.func86.trans (congrArg some (by kernel_rfl))⟩
  f17 := ⟨Tryz.f87.name, by decide, Tryz.func87.trans (congrArg some (by kernel_rfl))⟩
  f18 := ⟨Tryz.f88.name, by decide, Tryz.func88.trans (congrArg some (by kernel_rfl))⟩
  f19 := Tryz.func89.trans (congrArg some (by kernel_rfl))
  f20 := Tryz.func90.trans (congrArg some (by kernel_rfl))
  f30 := ⟨Tryz.f101.name, by decide, Tryz.func101.trans (congrArg some (by kernel_rfl))⟩
  f31 := Tryz.func102.trans (congrArg some (by kernel_rfl))
  f32 := Tryz.func103.trans (congrArg some (by kernel_rfl))
  f33 := ⟨Tryz.f104.name, by decide, Tryz.func104.trans (congrArg some (by kernel_rfl))⟩
  f34 := ⟨Tryz.f105.name, by decide, Tryz.func105.trans (congrArg some (by kernel_rfl))⟩
  f35 := ⟨Tryz.f106.name, by decide, Tryz.func106.trans (congrArg some (by kernel_rfl))⟩
  f40 := ⟨Tryz.f109.name, by decide, Tryz.func109.trans (congrArg some (by kernel_rfl))⟩
  t0 := Tryz.underlying0
  a0 := Tryz.isAgg0
  z0 := Tryz.sizeOf0
  v0 := Tryz.zeroValue0
  t3 := Tryz.underlying3
  a3 := Tryz.isAgg3
  z3 := Tryz.sizeOf3
  v3 := Tryz.zeroValue3
  t4 := Tryz.underlying4
  a4 := Tryz.isAgg4
  z4 := Tryz.sizeOf4
  v4 := Tryz.zeroValue4
  t5 := Tryz.underlying5
  a5 := Tryz.isAgg5
  z5 := Tryz.sizeOf5
  v5 := Tryz.zeroValue5
  t9 := Tryz.underlying9
  a9 := Tryz.isAgg9
  z9 := Tryz.sizeOf9
  v9 := Tryz.zeroValue9
  t22 := Tryz.underlying48
  a22 := Tryz.isAgg48
  z22 := Tryz.sizeOf48
  v22 := Tryz.zeroValue48
  t23 := Tryz.underlying48
  a23 := Tryz.isAgg48
  z23 := Tryz.sizeOf48
  v23 := Tryz.zeroValue48
  t25 := Tryz.underlying2
  a25 := Tryz.isAgg2
  z25 := Tryz.sizeOf2
  v25 := Tryz.zeroValue2
  t32 := Tryz.underlying96
  a32 := Tryz.isAgg96
  z32 := Tryz.sizeOf96
  v32 := Tryz.zeroValue96
  t35 := Tryz.underlying116
  a35 := Tryz.isAgg116
  z35 := Tryz.sizeOf116
  v35 := Tryz.zeroValue116
  t36 := Tryz.underlying117
  a36 := Tryz.isAgg117
  z36 := Tryz.sizeOf117
  v36 := Tryz.zeroValue117
  t41 := Tryz.underlying122
  a41 := Tryz.isAgg122
  z41 := Tryz.sizeOf122
  v41 := Tryz.zeroValue122
  t44 := Tryz.underlying125
  a44 := Tryz.isAgg125
  z44 := Tryz.sizeOf125
  v44 := Tryz.zeroValue125
  t46 := Tryz.underlying104
  a46 := Tryz.isAgg104
  z46 := Tryz.sizeOf104
  v46 := Tryz.zeroValue104
  t53 := Tryz.underlying146
  a53 := Tryz.isAgg146
  z53 := Tryz.sizeOf146
  v53 := Tryz.zeroValue146
  t57 := Tryz.underlying150
  a57 := Tryz.isAgg150
  z57 := Tryz.sizeOf150
  v57 := Tryz.zeroValue150
  t63 := Tryz.underlying168
  a63 := Tryz.isAgg168
  z63 := Tryz.sizeOf168
  v63 := Tryz.zeroValue168
  t64 := Tryz.underlying169
  a64 := Tryz.isAgg169
  z64 := Tryz.sizeOf169
  v64 := Tryz.zeroValue169 }
def Tryz.compV_ren : Go.Shelf.Ren := ⟨fun | 43 => 42 | n => n, fun | 22 => 48 | 23 => 2 | 3 => 3 | 4 => 4 | 0 => 0 | n => n, fun | n => n⟩
theorem Tryz.compV : Go.Proofs.SlLaysN.n43 Tryz.prog Tryz.compV_ren := {
  mixed := by kernel_rfl
  f43 := ⟨Tryz.f42.name, by decide, Tryz.func42.trans (congrArg some (by kernel_rfl))⟩
  t0 := Tryz.underlying0
  a0 := Tryz.isAgg0
  z0 := Tryz.sizeOf0
  v0 := Tryz.zeroValue0
  t3 := Tryz.underlying3
  a3 := Tryz.isAgg3
  z3 := Tryz.sizeOf3
  v3 := Tryz.zeroValue3
  t4 := Tryz.underlying4
  a4 := Tryz.isAgg4
  z4 := Tryz.sizeOf4
  v4 := Tryz.zeroValue4
  t22 := Tryz.underlying48
  a22 := Tryz.isAgg48
  z22 := Tryz.sizeOf48
  v22 := Tryz.zeroValue48
  t23 := Tryz.underlying2
  a23 := Tryz.isAgg2
  z23 := Tryz.sizeOf2
  v23 := Tryz.zeroValue2
  i23 := by kernel_rfl }
end Go.Proofs

/- Sort and Compact over a row that is the owner's own. -/
namespace Go.Proofs.YtkkboaiablfdbaaGreatDoor
set_option linter.unusedVariables false
set_option linter.unusedSimpArgs false
open Go.RowKit Go.Lib Go.Sort

theorem sort_own (w : World) (B : Nat) (v : Value) (xs : List Int) (h : OW w B v xs) (hl : xs.length ≤ 1048576) :
    Calls Tryz.prog 41 #[v] w fun e w' => e = .returned (.tuple #[]) ∧ OW w' B v (xs.mergeSort fun x y => decide (x ≤ y)) ∧ w.grownBy w' v.ownBlock := by
  rcases h.2 with ⟨rfl, hn⟩ | ⟨g, cap, cur, rfl, hB, hh, hcap, hmx, hsz, htk⟩
  · have e : xs = [] := List.eq_nil_of_length_eq_zero hn
    subst e
    refine Calls.mono (AnyM.slices_Sort_int_none Tryz.sortV none 0 w) ?_
    rintro e w' ⟨rfl, rfl⟩
    exact ⟨rfl, by simpa using h, World.grownBy.refl _ _⟩
  · have hH : Holds (Value.int .i64) w g 0 xs.toArray := holds_of_blockI hh (by simpa using htk)
    have hlt : g < w.heap.size := lt_of_block hh
    refine Calls.mono (AnyM.slices_Sort_int Tryz.sortV g 0 cap xs w hH hlt (by omega)) ?_
    rintro e w' ⟨rfl, n, os, rfl⟩
    refine ⟨rfl, ?_, grownBy_sortedI _⟩
    have hs := ownsRow_sortedI (n := n) (os := os) (ts := xs.mergeSort fun x y => decide (x ≤ y)) (ss := xs) (base := B) (List.length_mergeSort xs) hB hh hcap hmx hsz
    unfold OW
    rw [List.length_mergeSort]
    exact hs

theorem compact_own (w : World) (B : Nat) (v : Value) (xs : List Int) (h : OW w B v xs) (hl : xs.length ≤ 1048576) :
    Calls Tryz.prog 42 #[v] w fun e w' => ∃ v', e = .returned v' ∧ OW w' B v' (compact xs) ∧ w.grownBy w' v.ownBlock := by
  rcases h.2 with ⟨rfl, hn⟩ | ⟨g, cap, cur, rfl, hB, hh, hcap, hmx, hsz, htk⟩
  · have e : xs = [] := List.eq_nil_of_length_eq_zero hn
    subst e
    refine Calls.mono (AnyG.slices_Compact_int_empty Tryz.compV none 0 w) ?_
    rintro e w' ⟨rfl, rfl⟩
    exact ⟨_, rfl, by simpa [compact, compactUpTo] using h, World.grownBy.refl _ _⟩
  · have hH : Holds (Value.int .i64) w g 0 xs.toArray := holds_of_blockI hh (by simpa using htk)
    refine Calls.mono (AnyG.slices_Compact_int Tryz.compV g 0 cap xs w hH (by omega) (by omega)) ?_
    rintro e w' ⟨rfl, q, rfl⟩
    have hle := compact_length_le xs
    have hc := ownsRow_putRow (q := q) (k := (compact xs).length) (ys := compact xs ++ List.replicate (xs.length - (compact xs).length) 0) h (by simp; omega) (by omega)
    rw [List.take_left] at hc
    refine ⟨_, rfl, hc, ?_⟩
    refine ⟨rfl, rfl, rfl, by simp [putRow, mapBlock, Sort.ahead], fun k hk hne => ?_⟩
    have : g ≠ k := fun e => hne (by rw [e]; rfl)
    simp [putRow, mapBlock, Sort.ahead, Array.getElem?_modify, this]

end Go.Proofs.YtkkboaiablfdbaaGreatDoor
