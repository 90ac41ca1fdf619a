/- Several texts in one. -/
import Derived.Test.YtnpjgoklpaigjaaGreatDoorGAL
import Derived.Test.YtnpjgoklpaigjaaGreatDoorGAM
import Derived.Test.YtnpjgoklpaigjaaGreatDoorGAB
import Derived.Handy
import Derived.Test.YtnpjgoklpaigjaaGreatDoorRXI
import Derived.Laws.CopyRow
import Derived.Test.YtnpjgoklpaigjaaGreatDoorGAI
import Derived.Test.YtnpjgoklpaigjaaGreatDoorGAH
import Derived.Test.YtnpjgoklpaigjaaGreatDoorGAO
namespace Go.Proofs.YtnpjgoklpaigjaaGreatDoor
open Go.RowKit
set_option linter.unusedVariables false
set_option linter.unusedSimpArgs false
def kidsB (all : List (List Ib)) (ks : List Int) : List (List Ib) := ks.map fun k => all.getD k.toNat []
def turnB (k : List Ib) (by' : Nat) : List Ib := k.drop (k.length - by') ++ k.take (k.length - by')
def nodB (ds : List Dc) (all : List (List Ib)) (n : Tc) : List Ib :=
 if n.op = 1 then runL n.vr 0 (ds.getD n.vr.toNat (.empty, 0)).2.toNat
 else if n.op = 2 then (List.range n.bw.toNat).map fun k => (-1, (((tb n.ws k).toNat : Nat) : Int))
 else if n.op = 3 then (kidsB all n.ks).reverse.flatten
 else if n.op = 4 then (((kidsB all n.ks).getD 0 []).drop n.b.toNat).take (n.a.toNat + 1 - n.b.toNat)
 else if n.op = 5 then (kidsB all n.ks).getD 0 [] ++ List.replicate n.a.toNat (-1, 0)
 else if n.op = 6 then (kidsB all n.ks).getD 0 [] ++ List.replicate n.a.toNat (((kidsB all n.ks).getD 0 []).getD (((kidsB all n.ks).getD 0 []).length - 1) (-1, 0))
 else if n.op = 7 then turnB ((kidsB all n.ks).getD 0 []) (n.a.toNat % ((kidsB all n.ks).getD 0 []).length)
 else if n.op = 8 then turnB ((kidsB all n.ks).getD 0 []) ((((kidsB all n.ks).getD 0 []).length - n.a.toNat % ((kidsB all n.ks).getD 0 []).length) % ((kidsB all n.ks).getD 0 []).length)
 else (List.replicate n.a.toNat ((kidsB all n.ks).getD 0 [])).flatten

structure AheadB (wide : List Int) (all : List (List Ib)) : Prop where
 len : all.length = wide.length
 ok : ∀ i, i < all.length → ((all.getD i []).length : Int) = wide.getD i 0 ∧ 1 ≤ wide.getD i 0 ∧ wide.getD i 0 ≤ 4096 ∧ ∀ p ∈ all.getD i [], okI p
theorem AheadB.nil : AheadB [] [] := ⟨rfl, fun i hi => by simp at hi⟩
theorem AheadB.push {wide : List Int} {all : List (List Ib)} {v : Int} {x : List Ib} (h : AheadB wide all) (h1 : (x.length : Int) = v) (h2 : 1 ≤ v ∧ v ≤ 4096) (h3 : ∀ p ∈ x, okI p) : AheadB (wide ++ [v]) (all ++ [x]) := by
 refine ⟨by simp [h.len], fun i hi => ?_⟩
 by_cases hlt : i < all.length
 ·have hw : i < wide.length := by rw [← h.len]; exact hlt
  have e1 : (all ++ [x]).getD i [] = all.getD i [] := by simp [List.getD, List.getElem?_append_left hlt]
  have e2 : (wide ++ [v]).getD i 0 = wide.getD i 0 := by simp [List.getD, List.getElem?_append_left hw]
  rw [e1, e2]
  exact h.ok i hlt
 ·have e : i = all.length := by simp at hi; omega
  subst e
  have e1 : (all ++ [x]).getD all.length [] = x := by simp [List.getD]
  have e2 : (wide ++ [v]).getD all.length 0 = v := by rw [h.len]; simp [List.getD]
  rw [e1, e2]
  exact ⟨h1, h2.1, h2.2, h3⟩
theorem AheadB.nonneg {wide : List Int} {all : List (List Ib)} (h : AheadB wide all) (i : Nat) : 0 ≤ wide.getD i 0 := by
 by_cases hi : i < all.length
 ·have := (h.ok i hi).2.1
  omega
 ·have : wide.getD i 0 = 0 := by simp [List.getD, List.getElem?_eq_none (show wide.length ≤ i by rw [← h.len]; omega)]
  omega
theorem sumB_eq (wide : List Int) (hw : ∀ i, 0 ≤ wide.getD i 0) : ∀ (ks : List Int) (s : Int), 0 ≤ s → sumR wide ks s ≤ 4096 → sumR wide ks s = s + (ks.map fun k => wide.getD k.toNat 0).sum
 | [], s, _, h => by simp [sumR]
 | k :: t, s, h0, h => by
  rw [sumR] at h ⊢
  have a := hw k.toNat
  have h1 := sumB_eq wide hw t _ (by omega) h
  have h2 : 0 ≤ (t.map fun k => wide.getD k.toNat 0).sum := by
   clear h1 h
   induction t with
   | nil => simp
   | cons x t ih => simp only [List.map_cons, List.sum_cons]; have := hw x.toNat; omega
  rw [List.map_cons, List.sum_cons, h1]
  rw [h1] at h
  omega
theorem AheadB.kid {wide : List Int} {all : List (List Ib)} (h : AheadB wide all) {ks : List Int} (hk : kidsR wide.length ks = true) {k : Int} (hm : k ∈ ks) : (0 ≤ k ∧ k < (all.length : Int)) ∧ ((all.getD k.toNat []).length : Int) = wide.getD k.toNat 0 ∧ 1 ≤ wide.getD k.toNat 0 ∧ wide.getD k.toNat 0 ≤ 4096 ∧ ∀ p ∈ all.getD k.toNat [], okI p := by
 unfold kidsR at hk
 have h9 := List.all_eq_true.1 hk k hm
 simp only [decide_eq_true_eq] at h9
 have hl := h.len
 exact ⟨by omega, h.ok k.toNat (by omega)⟩
theorem kidsB_len {wide : List Int} {all : List (List Ib)} (h : AheadB wide all) : ∀ {ks : List Int}, kidsR wide.length ks = true → ((kidsB all ks).flatten.length : Int) = (ks.map fun k => wide.getD k.toNat 0).sum
 | [], _ => by simp [kidsB]
 | k :: t, hk => by
  have h1 := (h.kid hk (k := k) (by simp)).2.1
  have h2 := kidsB_len h (ks := t) (by unfold kidsR at hk ⊢; simp only [List.all_cons, Bool.and_eq_true] at hk; exact hk.2)
  simp only [kidsB, List.map_cons, List.flatten_cons, List.length_append, List.sum_cons] at h2 ⊢
  omega
theorem runL_len (v a : Int) (m : Nat) : (runL v a m).length = m := by simp [runL]
theorem turnB_len (k : List Ib) (b : Nat) : (turnB k b).length = k.length := by
 unfold turnB
 rw [List.length_append, List.length_drop, List.length_take]
 omega
theorem turnB_mem {k : List Ib} {b : Nat} {p : Ib} (h : p ∈ turnB k b) : p ∈ k := by
 unfold turnB at h
 rcases List.mem_append.1 h with h | h
 ·exact List.mem_of_mem_drop h
 ·exact List.mem_of_mem_take h

structure FNode (ds : List Dc) (all : List (List Ib)) (n : Tc) : Prop where
 op : 1 ≤ n.op ∧ n.op ≤ 9
 kid : ∀ j ∈ n.ks, (0 ≤ j ∧ j < (all.length : Int)) ∧ 1 ≤ (all.getD j.toNat []).length ∧ (all.getD j.toNat []).length ≤ 4096 ∧ ∀ p ∈ all.getD j.toNat [], okI p
 var : n.op = 1 → (0 ≤ n.vr ∧ n.vr < (ds.length : Int)) ∧ 1 ≤ (ds.getD n.vr.toNat (.empty, 0)).2 ∧ (ds.getD n.vr.toNat (.empty, 0)).2 ≤ 4096
 cst : n.op = 2 → rightB n.bw n.ws = true
 many : n.op = 3 → 2 ≤ n.ks.length
 one : 4 ≤ n.op → ∃ j, n.ks = [j]
 part : n.op = 4 → 0 ≤ n.b ∧ n.b ≤ n.a ∧ n.a < ((kidsB all n.ks).getD 0 []).length
 amt : 5 ≤ n.op → 0 ≤ n.a ∧ n.a ≤ 4096
 rep : n.op = 9 → 1 ≤ n.a
 len : 1 ≤ (nodB ds all n).length ∧ (nodB ds all n).length ≤ 4096
 ok : ∀ p ∈ nodB ds all n, okI p
theorem nodB_ok {ds : List Dc} {wide : List Int} {all : List (List Ib)} {n : Tc} {v : Int} (ha : AheadB wide all) (hd : dclR ds = true) (hv64 : in64 n.vr) (hs : stepR ds wide n = some v) :
  FNode ds all n ∧ ((nodB ds all n).length : Int) = v := by
 unfold stepR at hs
 split at hs
 ·rename_i hc
  simp only [Bool.and_eq_true] at hc
  obtain ⟨⟨hk, hf⟩, hm⟩ := hc
  split at hs
  ·rename_i hw
   obtain rfl := Option.some.inj hs
   have hkid : ∀ j ∈ n.ks, (0 ≤ j ∧ j < (all.length : Int)) ∧ 1 ≤ (all.getD j.toNat []).length ∧ (all.getD j.toNat []).length ≤ 4096 ∧ ∀ p ∈ all.getD j.toNat [], okI p := fun j hj => by
    obtain ⟨h1, h2, h3, h4, h5⟩ := ha.kid hk hj
    exact ⟨h1, by omega, by omega, h5⟩
   have hop : 1 ≤ n.op ∧ n.op ≤ 9 := by
    unfold manyR at hm
    split at hm
    ·omega
    ·split at hm
     ·omega
     ·split at hm
      ·omega
      ·split at hm
       ·omega
       ·cases hm
   have hone : 4 ≤ n.op → ∃ j, n.ks = [j] := fun h4 => by
    unfold manyR at hm
    rw [if_neg (by omega), if_neg (by omega), if_neg (by omega), if_pos ⟨h4, hop.2⟩] at hm
    simp only [decide_eq_true_eq] at hm
    exact List.length_eq_one_iff.1 hm
   -- of one kid
   have hK : 4 ≤ n.op → ((((kidsB all n.ks).getD 0 []).length : Int) = sumR wide n.ks 0) ∧ 1 ≤ ((kidsB all n.ks).getD 0 []).length ∧ ((kidsB all n.ks).getD 0 []).length ≤ 4096 ∧ ∀ p ∈ (kidsB all n.ks).getD 0 [], okI p := fun h4 => by
    obtain ⟨j, hj⟩ := hone h4
    obtain ⟨h1, h2, h3, h4, h5⟩ := ha.kid hk (k := j) (by rw [hj]; simp)
    have e : (kidsB all n.ks).getD 0 [] = all.getD j.toNat [] := by rw [hj]; simp [kidsB]
    rw [e, hj, sumR, sumR]
    exact ⟨by omega, by omega, by omega, h5⟩
   have key : (((nodB ds all n).length : Int) = wideR ds n (sumR wide n.ks 0)) ∧ ∀ p ∈ nodB ds all n, okI p := by
    rcases (show n.op = 1 ∨ n.op = 2 ∨ n.op = 3 ∨ n.op = 4 ∨ n.op = 5 ∨ n.op = 6 ∨ n.op = 7 ∨ n.op = 8 ∨ n.op = 9 by omega) with e | e | e | e | e | e | e | e | e
    ·have hm1 := hm
     unfold manyR at hm1
     rw [if_pos e] at hm1
     simp only [Bool.and_eq_true, decide_eq_true_eq] at hm1
     have hwd : wideR ds n (sumR wide n.ks 0) = (ds.getD n.vr.toNat (.empty, 0)).2 := by unfold wideR; rw [if_pos e]
     rw [hwd] at hw ⊢
     have hn : nodB ds all n = runL n.vr 0 (ds.getD n.vr.toNat (.empty, 0)).2.toNat := by unfold nodB; rw [if_pos e]
     rw [hn]
     refine ⟨by rw [runL_len]; omega, fun p hp => ?_⟩
     obtain ⟨k, hk9, rfl⟩ := List.mem_map.1 hp
     have := List.mem_range.1 hk9
     exact ⟨hv64, .inr ⟨hm1.2.1, by simp only []; omega, by simp only []; omega⟩⟩
    ·have hm1 := hm
     unfold manyR at hm1
     rw [if_neg (by omega), if_pos e] at hm1
     simp only [Bool.and_eq_true, decide_eq_true_eq] at hm1
     have hwd : wideR ds n (sumR wide n.ks 0) = n.bw := by unfold wideR; rw [if_neg (by omega), if_pos e]
     rw [hwd] at hw ⊢
     have hn : nodB ds all n = (List.range n.bw.toNat).map fun k => (-1, (((tb n.ws k).toNat : Nat) : Int)) := by unfold nodB; rw [if_neg (by omega), if_pos e]
     rw [hn]
     refine ⟨by simp; omega, fun p hp => ?_⟩
     obtain ⟨k, hk9, rfl⟩ := List.mem_map.1 hp
     refine ⟨by unfold in64; simp, .inl ⟨rfl, ?_⟩⟩
     cases tb n.ws k <;> simp
    ·have hwd : wideR ds n (sumR wide n.ks 0) = sumR wide n.ks 0 := by unfold wideR; simp [e]
     rw [hwd] at hw ⊢
     have hn : nodB ds all n = (kidsB all n.ks).reverse.flatten := by unfold nodB; simp [e]
     rw [hn]
     refine ⟨?_, fun p hp => ?_⟩
     ·rw [sumB_eq wide ha.nonneg _ _ (Int.le_refl _) hw.2, Int.zero_add, ← kidsB_len ha hk]
      congr 1
      rw [List.length_flatten, List.length_flatten, List.map_reverse, List.sum_reverse]
     ·obtain ⟨l, hl, hp⟩ := List.mem_flatten.1 hp
      obtain ⟨k, hk9, rfl⟩ := List.mem_map.1 (List.mem_reverse.1 hl)
      exact (hkid k hk9).2.2.2 p hp
    ·obtain ⟨k1, k2, k3, k4⟩ := hK (by omega)
     have hwd : wideR ds n (sumR wide n.ks 0) = if n.b < 0 ∨ n.a < n.b ∨ sumR wide n.ks 0 ≤ n.a then -1 else n.a - n.b + 1 := by unfold wideR; simp [e]
     rw [hwd] at hw ⊢
     split at hw
     ·omega
     ·rename_i hc
      rw [if_neg hc]
      have hn : nodB ds all n = (((kidsB all n.ks).getD 0 []).drop n.b.toNat).take (n.a.toNat + 1 - n.b.toNat) := by unfold nodB; simp [e]
      rw [hn]
      refine ⟨by rw [List.length_take, List.length_drop]; omega, fun p hp => k4 p (List.mem_of_mem_drop (List.mem_of_mem_take hp))⟩
    ·obtain ⟨k1, k2, k3, k4⟩ := hK (by omega)
     have hwd : wideR ds n (sumR wide n.ks 0) = if 0 ≤ n.a ∧ n.a ≤ 4096 then sumR wide n.ks 0 + n.a else -1 := by unfold wideR; simp [e]
     rw [hwd] at hw ⊢
     split at hw
     ·rename_i hc
      rw [if_pos hc]
      have hn : nodB ds all n = (kidsB all n.ks).getD 0 [] ++ List.replicate n.a.toNat (-1, 0) := by unfold nodB; simp [e]
      rw [hn]
      refine ⟨by rw [List.length_append, List.length_replicate]; omega, fun p hp => ?_⟩
      rcases List.mem_append.1 hp with hp | hp
      ·exact k4 p hp
      ·rw [(List.mem_replicate.1 hp).2]
       exact ⟨by unfold in64; simp, .inl ⟨rfl, .inl rfl⟩⟩
     ·omega
    ·obtain ⟨k1, k2, k3, k4⟩ := hK (by omega)
     have hwd : wideR ds n (sumR wide n.ks 0) = if 0 ≤ n.a ∧ n.a ≤ 4096 then sumR wide n.ks 0 + n.a else -1 := by unfold wideR; simp [e]
     rw [hwd] at hw ⊢
     split at hw
     ·rename_i hc
      rw [if_pos hc]
      have hn : nodB ds all n = (kidsB all n.ks).getD 0 [] ++ List.replicate n.a.toNat (((kidsB all n.ks).getD 0 []).getD (((kidsB all n.ks).getD 0 []).length - 1) (-1, 0)) := by unfold nodB; simp [e]
      rw [hn]
      refine ⟨by rw [List.length_append, List.length_replicate]; omega, fun p hp => ?_⟩
      rcases List.mem_append.1 hp with hp | hp
      ·exact k4 p hp
      ·rw [(List.mem_replicate.1 hp).2]
       refine k4 _ ?_
       generalize (kidsB all n.ks).getD 0 [] = K at *
       have hl : K.length - 1 < K.length := by omega
       simp [List.getD, hl]
     ·omega
    ·obtain ⟨k1, k2, k3, k4⟩ := hK (by omega)
     have hwd : wideR ds n (sumR wide n.ks 0) = if 0 ≤ n.a ∧ n.a ≤ 4096 then sumR wide n.ks 0 else -1 := by unfold wideR; simp [e]
     rw [hwd] at hw ⊢
     split at hw
     ·rename_i hc
      rw [if_pos hc]
      have hn : nodB ds all n = turnB ((kidsB all n.ks).getD 0 []) (n.a.toNat % ((kidsB all n.ks).getD 0 []).length) := by unfold nodB; simp [e]
      rw [hn, turnB_len]
      exact ⟨k1, fun p hp => k4 p (turnB_mem hp)⟩
     ·omega
    ·obtain ⟨k1, k2, k3, k4⟩ := hK (by omega)
     have hwd : wideR ds n (sumR wide n.ks 0) = if 0 ≤ n.a ∧ n.a ≤ 4096 then sumR wide n.ks 0 else -1 := by unfold wideR; simp [e]
     rw [hwd] at hw ⊢
     split at hw
     ·rename_i hc
      rw [if_pos hc]
      have hn : nodB ds all n = turnB ((kidsB all n.ks).getD 0 []) ((((kidsB all n.ks).getD 0 []).length - n.a.toNat % ((kidsB all n.ks).getD 0 []).length) % ((kidsB all n.ks).getD 0 []).length) := by unfold nodB; simp [e]
      rw [hn, turnB_len]
      exact ⟨k1, fun p hp => k4 p (turnB_mem hp)⟩
     ·omega
    ·obtain ⟨k1, k2, k3, k4⟩ := hK (by omega)
     have hwd : wideR ds n (sumR wide n.ks 0) = if 1 ≤ n.a ∧ n.a ≤ 4096 then sumR wide n.ks 0 * n.a else -1 := by unfold wideR; simp [e]
     rw [hwd] at hw ⊢
     split at hw
     ·rename_i hc
      rw [if_pos hc]
      have hn : nodB ds all n = (List.replicate n.a.toNat ((kidsB all n.ks).getD 0 [])).flatten := by unfold nodB; simp [e]
      rw [hn]
      refine ⟨?_, fun p hp => ?_⟩
      ·rw [List.length_flatten, List.map_replicate, List.sum_replicate_nat]
       obtain ⟨A, hA⟩ : ∃ A : Nat, n.a = (A : Int) := ⟨n.a.toNat, by omega⟩
       rw [hA, Int.toNat_natCast, ← k1]
       push_cast
       rw [Int.mul_comm]
      ·obtain ⟨l, hl, hp⟩ := List.mem_flatten.1 hp
       rw [(List.mem_replicate.1 hl).2] at hp
       exact k4 p hp
     ·omega
   refine ⟨⟨hop, hkid, fun e => ?_, fun e => ?_, fun e => ?_, hone, fun e => ?_, fun e => ?_, fun e => ?_, by omega, key.2⟩, key.1⟩
   ·have hm1 := hm
    unfold manyR at hm1
    rw [if_pos e] at hm1
    simp only [Bool.and_eq_true, decide_eq_true_eq] at hm1
    have hwd : wideR ds n (sumR wide n.ks 0) = (ds.getD n.vr.toNat (.empty, 0)).2 := by unfold wideR; rw [if_pos e]
    rw [hwd] at hw
    exact ⟨by omega, hw⟩
   ·have hm1 := hm
    unfold manyR at hm1
    rw [if_neg (by omega), if_pos e] at hm1
    simp only [Bool.and_eq_true, decide_eq_true_eq] at hm1
    exact hm1.2
   ·have hm1 := hm
    unfold manyR at hm1
    rw [if_neg (by omega), if_neg (by omega), if_pos e] at hm1
    simpa using hm1
   ·have h9 := hw
    unfold wideR at h9
    simp only [e] at h9
    have k1 := (hK (by omega)).1
    simp at h9
    split at h9
    ·omega
    ·omega
   ·have h9 := hw
    unfold wideR at h9
    rw [if_neg (by omega), if_neg (by omega), if_neg (by omega)] at h9
    split at h9
    ·split at h9 <;> omega
    ·split at h9
     ·split at h9 <;> omega
     ·rw [if_pos (by omega)] at h9
      split at h9 <;> omega
   ·have h9 := hw
    unfold wideR at h9
    simp only [e] at h9
    simp at h9
    split at h9 <;> omega
  ·cases hs
 ·cases hs

def bitsN (ds : List Dc) : List (List Ib) → List Tc → List (List Ib)
 | all, [] => all
 | all, n :: t => bitsN ds (all ++ [nodB ds all n]) t
theorem bitsN_app (ds : List Dc) : ∀ (a b : List Tc) (all : List (List Ib)), bitsN ds all (a ++ b) = bitsN ds (bitsN ds all a) b
 | [], b, all => rfl
 | n :: t, b, all => by
  rw [List.cons_append, bitsN, bitsN]
  exact bitsN_app ds t b _
theorem bitsN_next (ds : List Dc) {ns : List Tc} {k : Nat} {n : Tc} (h : ns[k]? = some n) (all : List (List Ib)) : bitsN ds all (ns.take (k + 1)) = bitsN ds all (ns.take k) ++ [nodB ds (bitsN ds all (ns.take k)) n] := by
 rw [List.take_add_one, h, Option.toList_some, bitsN_app]
 rfl
theorem bitsN_len (ds : List Dc) : ∀ (ns : List Tc) (all : List (List Ib)), (bitsN ds all ns).length = all.length + ns.length
 | [], all => by simp [bitsN]
 | n :: t, all => by
  rw [bitsN, bitsN_len ds t]
  simp
  omega
theorem bitsN_mem (ds : List Dc) : ∀ (ns : List Tc) (all : List (List Ib)) (y : List Ib), y ∈ all → y ∈ bitsN ds all ns
 | [], all, y, h => h
 | n :: t, all, y, h => by
  rw [bitsN]
  exact bitsN_mem ds t _ y (List.mem_append.2 (.inl h))
theorem goR_at {ds : List Dc} : ∀ (ns : List Tc) (wide W : List Int), goR ds wide ns = some W → W.take wide.length = wide ∧ W.length = wide.length + ns.length ∧ ∀ i n, ns[i]? = some n → stepR ds (W.take (wide.length + i)) n = some (W.getD (wide.length + i) 0)
 | [], wide, W, h => by
  rw [goR] at h
  obtain rfl := Option.some.inj h
  exact ⟨List.take_length, by simp, fun i n hn => by simp at hn⟩
 | n :: t, wide, W, h => by
  rw [goR] at h
  cases hs : stepR ds wide n with
  | none => rw [hs] at h; cases h
  | some v =>
   rw [hs] at h
   obtain ⟨h1, h2, h3⟩ := goR_at t (wide ++ [v]) W h
   rw [List.length_append, List.length_singleton] at h1 h2 h3
   have hl : wide.length < W.length := by omega
   have e1 : W.take wide.length = wide := by
    have := congrArg (List.take wide.length) h1
    rw [List.take_take, Nat.min_eq_left (by omega), List.take_left'] at this
    ·exact this
    ·rfl
   have e2 : W.getD wide.length 0 = v := by
    have h9 : (W.take (wide.length + 1))[wide.length]? = some v := by rw [h1]; simp
    rw [List.getElem?_take, if_pos (by omega)] at h9
    simp [List.getD, h9]
   refine ⟨e1, by simp; omega, fun i m hm => ?_⟩
   cases i with
   | zero =>
    simp at hm
    subst hm
    rw [Nat.add_zero, e1, e2]
    exact hs
   | succ i =>
    simp at hm
    have := h3 i m hm
    rw [show wide.length + 1 + i = wide.length + (i + 1) by omega] at this
    exact this
theorem right_at {ds : List Dc} {ns : List Tc} (h : ¬ (widthsR ds ns).length = 0) (hv : ∀ n ∈ ns, in64 n.vr) : dclR ds = true ∧ 1 ≤ ns.length ∧ ns.length ≤ 400 ∧ (∀ k, k ≤ ns.length → AheadB ((widthsR ds ns).take k) (bitsN ds [] (ns.take k))) ∧ ∀ k n, ns[k]? = some n → FNode ds (bitsN ds [] (ns.take k)) n := by
 unfold widthsR at h ⊢
 split at h
 ·rename_i hc
  rw [if_pos hc]
  simp only [Bool.and_eq_true, decide_eq_true_eq] at hc
  cases hg : goR ds [] ns with
  | none => rw [hg] at h; simp at h
  | some W =>
   rw [hg] at h
   simp only [] at h ⊢
   split at h
   ·rename_i hu
    rw [if_pos hu]
    obtain ⟨-, h2, h3⟩ := goR_at ns [] W hg
    simp only [List.length_nil, Nat.zero_add] at h2 h3
    have key : ∀ k, k ≤ ns.length → AheadB (W.take k) (bitsN ds [] (ns.take k)) := fun k => by
     induction k with
     | zero => intro _; simp [bitsN]; exact AheadB.nil
     | succ k ih =>
      intro hk
      have hn : ns[k]? = some (ns[k]'(by omega)) := List.getElem?_eq_getElem _
      have hA := ih (by omega)
      have hst := h3 k _ hn
      obtain ⟨f1, f2⟩ := nodB_ok hA hc.1.1 (hv _ (List.mem_of_getElem? hn)) hst
      rw [bitsN_next ds hn, List.take_add_one, List.getElem?_eq_getElem (show k < W.length by omega), Option.toList_some]
      have e : W.getD k 0 = W[k]'(by omega) := by simp [List.getD, show k < W.length by omega]
      rw [e] at f2
      have hl := f1.len
      exact hA.push f2 (by omega) f1.ok
    refine ⟨hc.1.1, hc.1.2, hc.2, key, fun k n hn => ?_⟩
    have hk := (List.getElem?_eq_some_iff.1 hn).1
    exact (nodB_ok (key k (by omega)) hc.1.1 (hv n (List.mem_of_getElem? hn)) (h3 k n hn)).1
   ·simp at h
 ·simp at h
def fltR (ds : List Dc) (ns : List Tc) : List Sc × Bool :=
 if (widthsR ds ns).length = 0 then ([], false)
 else if (bitsN ds [] ns).all (fun l => decide ((formB l).length ≤ 2000)) = true then (formB ((bitsN ds [] ns).getD (ns.length - 1) []), true) else ([], false)
def lastS (f : List Sc) : Sc := f.getD (f.length - 1) ⟨0, 0, 0, 0, []⟩
def sgL (ds : List Dc) (all : List (List Ib)) (n : Tc) : List Sc :=
 if n.op = 1 then [⟨n.vr, 0, (ds.getD n.vr.toNat (.empty, 0)).2, 0, []⟩]
 else if n.op = 2 then [⟨-1, 0, n.bw, n.bw, n.ws⟩]
 else if n.op = 3 then ((kidsB all n.ks).reverse.map formB).flatten
 else if n.op = 4 then betS n.b.toNat (n.a.toNat + 1) 0 (formB ((kidsB all n.ks).getD 0 []))
 else if n.op = 5 then formB ((kidsB all n.ks).getD 0 []) ++ List.replicate n.a.toNat ⟨-1, 0, 1, 1, [0]⟩
 else if n.op = 6 then formB ((kidsB all n.ks).getD 0 []) ++ List.replicate n.a.toNat (cutS (lastS (formB ((kidsB all n.ks).getD 0 []))) ((lastS (formB ((kidsB all n.ks).getD 0 []))).wd.toNat - 1) 1)
 else if n.op = 7 then betS (((kidsB all n.ks).getD 0 []).length - n.a.toNat % ((kidsB all n.ks).getD 0 []).length) ((kidsB all n.ks).getD 0 []).length 0 (formB ((kidsB all n.ks).getD 0 [])) ++ betS 0 (((kidsB all n.ks).getD 0 []).length - n.a.toNat % ((kidsB all n.ks).getD 0 []).length) 0 (formB ((kidsB all n.ks).getD 0 []))
 else if n.op = 8 then betS (n.a.toNat % ((kidsB all n.ks).getD 0 []).length) ((kidsB all n.ks).getD 0 []).length 0 (formB ((kidsB all n.ks).getD 0 [])) ++ betS 0 (n.a.toNat % ((kidsB all n.ks).getD 0 []).length) 0 (formB ((kidsB all n.ks).getD 0 []))
 else (List.replicate n.a.toNat (formB ((kidsB all n.ks).getD 0 []))).flatten

abbrev okL (l : List Sc) : Prop := ∀ s ∈ l, okS s ∧ 0 ≤ s.lo ∧ s.lo ≤ 4096
theorem okL_of {l : List Sc} (h : ∀ s ∈ l, okS s ∧ 0 ≤ s.lo ∧ s.lo + s.wd ≤ 4096) : okL l := fun s hs => by
 have h9 := h s hs
 have := h9.1.1
 exact ⟨h9.1, h9.2.1, by omega⟩
theorem okL_app {a b : List Sc} (h : okL a) (k : okL b) : okL (a ++ b) := fun s hs => by
 rcases List.mem_append.1 hs with hs | hs
 ·exact h s hs
 ·exact k s hs
theorem formP_flat : ∀ (ls : List (List Sc)), formP ls.flatten = (ls.map formP).flatten
 | [] => rfl
 | l :: t => by rw [List.flatten_cons, formP_app, formP_flat t, List.map_cons, List.flatten_cons]
theorem formP_rep (s : Sc) (m : Nat) : formP (List.replicate m s) = (List.replicate m (segPs s s.wd.toNat)).flatten := by
 induction m with
 | zero => rfl
 | succ m ih => rw [List.replicate_succ, formP_cons, ih, List.replicate_succ, List.flatten_cons]
theorem rep_one (p : Ib) (m : Nat) : (List.replicate m [p]).flatten = List.replicate m p := by
 induction m with
 | zero => rfl
 | succ m ih => rw [List.replicate_succ, List.flatten_cons, ih, List.replicate_succ]; rfl
theorem last_bit {K : List Ib} (hk : 1 ≤ K.length) (h4 : K.length ≤ 4096) (hok : ∀ p ∈ K, okI p) : (lastS (formB K)) ∈ formB K ∧ segPs (cutS (lastS (formB K)) ((lastS (formB K)).wd.toNat - 1) 1) 1 = [K.getD (K.length - 1) (-1, 0)] := by
 obtain ⟨hP, hO⟩ := formB_P _ K (Nat.le_refl _) h4 hok
 have hne : formB K ≠ [] := fun e => by rw [e] at hP; simp [formP] at hP; rw [hP] at hk; simp at hk
 have hl : (formB K).length - 1 < (formB K).length := by have := List.length_pos_iff.2 hne; omega
 have hmem : lastS (formB K) ∈ formB K := by unfold lastS; simp [List.getD, hl]
 refine ⟨hmem, ?_⟩
 have ho := hO _ hmem
 have hw := ho.1.1
 rw [cutS_P ho.1 (by omega) (by omega)]
 have e : formB K = (formB K).take ((formB K).length - 1) ++ [lastS (formB K)] := by
  have h9 := List.take_append_drop ((formB K).length - 1) (formB K)
  rw [List.drop_eq_getElem_cons hl, List.drop_of_length_le (by omega)] at h9
  have e2 : lastS (formB K) = (formB K)[(formB K).length - 1]'hl := by unfold lastS; simp [List.getD, hl]
  rw [e2]
  exact h9.symm
 have e3 : K = formP ((formB K).take ((formB K).length - 1)) ++ segPs (lastS (formB K)) (lastS (formB K)).wd.toNat := by
  conv => lhs; rw [← hP, e, formP_app]
  congr 1
  simp [formP]
 have hAl : (segPs (lastS (formB K)) (lastS (formB K)).wd.toNat).length = (lastS (formB K)).wd.toNat := segPs_len _ _
 have hKl := congrArg List.length e3
 rw [List.length_append, hAl] at hKl
 have e4 : K.getD (K.length - 1) (-1, 0) = (segPs (lastS (formB K)) (lastS (formB K)).wd.toNat).getD ((lastS (formB K)).wd.toNat - 1) (-1, 0) := by
  simp only [List.getD]
  congr 1
  conv => lhs; rw [e3]
  rw [List.getElem?_append_right (by rw [List.length_append, hAl]; omega), List.length_append, hAl]
  congr 1
  omega
 rw [e4]
 have hm1 : 1 ≤ (lastS (formB K)).wd.toNat := by omega
 generalize (lastS (formB K)).wd.toNat = m at *
 generalize segPs (lastS (formB K)) m = A at *
 have hm : m - 1 < A.length := by omega
 rw [List.drop_eq_getElem_cons hm, List.take_succ_cons, List.take_zero]
 simp [List.getD, hm]
theorem sgL_P {ds : List Dc} {all : List (List Ib)} {n : Tc} (h : FNode ds all n) (hwb : ∀ y ∈ n.ws, y < 18446744073709551616) : formP (sgL ds all n) = nodB ds all n ∧ okL (sgL ds all n) ∧ sumS (sgL ds all n) ≤ 4096 := by
 suffices hh : formP (sgL ds all n) = nodB ds all n ∧ okL (sgL ds all n) by
  refine ⟨hh.1, hh.2, ?_⟩
  have h9 := formP_len (sgL ds all n) (fun s hs => by have := (hh.2 s hs).1.1; omega)
  rw [hh.1] at h9
  have := h.len.2
  omega
 have hop := h.op
 -- of one kid
 have hK : 4 ≤ n.op → 1 ≤ ((kidsB all n.ks).getD 0 []).length ∧ ((kidsB all n.ks).getD 0 []).length ≤ 4096 ∧ ∀ p ∈ (kidsB all n.ks).getD 0 [], okI p := fun h4 => by
  obtain ⟨j, hj⟩ := h.one h4
  have e : (kidsB all n.ks).getD 0 [] = all.getD j.toNat [] := by rw [hj]; simp [kidsB]
  rw [e]
  exact (h.kid j (by rw [hj]; simp)).2
 rcases (show n.op = 1 ∨ n.op = 2 ∨ n.op = 3 ∨ n.op = 4 ∨ n.op = 5 ∨ n.op = 6 ∨ n.op = 7 ∨ n.op = 8 ∨ n.op = 9 by omega) with e | e | e | e | e | e | e | e | e
 ·obtain ⟨v1, v2, v3⟩ := h.var e
  have e1 : sgL ds all n = [⟨n.vr, 0, (ds.getD n.vr.toNat (.empty, 0)).2, 0, []⟩] := by unfold sgL; rw [if_pos e]
  have e2 : nodB ds all n = runL n.vr 0 (ds.getD n.vr.toNat (.empty, 0)).2.toNat := by unfold nodB; rw [if_pos e]
  rw [e1, e2]
  refine ⟨?_, fun s hs => ?_⟩
  ·rw [formP_cons, formP_nil, List.append_nil, segPs_var (by simpa using v1.1)]
  ·rw [List.mem_singleton.1 hs]
   exact ⟨⟨v2, v3, by simp, .inr ⟨v1.1, rfl, rfl⟩⟩, by simp, by simp⟩
 ·have hc := h.cst e
  have hW := right_W hc
  have e1 : sgL ds all n = [⟨-1, 0, n.bw, n.bw, n.ws⟩] := by unfold sgL; rw [if_neg (by omega), if_pos e]
  have e2 : nodB ds all n = (List.range n.bw.toNat).map fun k => (-1, (((tb n.ws k).toNat : Nat) : Int)) := by unfold nodB; rw [if_neg (by omega), if_pos e]
  rw [e1, e2]
  refine ⟨?_, fun s hs => ?_⟩
  ·rw [formP_cons, formP_nil, List.append_nil, segPs_cst rfl]
  ·rw [List.mem_singleton.1 hs]
   exact ⟨⟨by simp only []; omega, by simp only []; omega, hwb, .inl ⟨rfl, rfl, rfl, hc⟩⟩, by simp, by simp⟩
 ·have e1 : sgL ds all n = ((kidsB all n.ks).reverse.map formB).flatten := by unfold sgL; simp [e]
  have e2 : nodB ds all n = (kidsB all n.ks).reverse.flatten := by unfold nodB; simp [e]
  have hk : ∀ l ∈ kidsB all n.ks, formP (formB l) = l ∧ ∀ s ∈ formB l, okS s ∧ 0 ≤ s.lo ∧ s.lo + s.wd ≤ 4096 := fun l hl => by
   obtain ⟨k, hk, rfl⟩ := List.mem_map.1 hl
   obtain ⟨-, -, k2, k3⟩ := h.kid k hk
   exact formB_P _ _ (Nat.le_refl _) k2 k3
  rw [e1, e2]
  refine ⟨?_, fun s hs => ?_⟩
  ·rw [formP_flat, List.map_map]
   congr 1
   conv => rhs; rw [← List.map_id (kidsB all n.ks).reverse]
   exact List.map_congr_left fun l hl => (hk l (List.mem_reverse.1 hl)).1
  ·obtain ⟨l, hl, hs⟩ := List.mem_flatten.1 hs
   obtain ⟨k, hk9, rfl⟩ := List.mem_map.1 hl
   exact okL_of (hk k (List.mem_reverse.1 hk9)).2 s hs
 ·obtain ⟨k1, k2, k3⟩ := hK (by omega)
  obtain ⟨p1, p2, p3⟩ := h.part e
  have e1 : sgL ds all n = betS n.b.toNat (n.a.toNat + 1) 0 (formB ((kidsB all n.ks).getD 0 [])) := by unfold sgL; simp [e]
  have e2 : nodB ds all n = (((kidsB all n.ks).getD 0 []).drop n.b.toNat).take (n.a.toNat + 1 - n.b.toNat) := by unfold nodB; simp [e]
  rw [e1, e2]
  generalize (kidsB all n.ks).getD 0 [] = K at *
  obtain ⟨hP, hO⟩ := formB_P _ K (Nat.le_refl _) k2 k3
  refine ⟨?_, betS_ok hO⟩
  rw [betS_P _ _ _ _ (fun s hs => (hO s hs).1), hP, Nat.sub_zero, Nat.sub_zero, List.drop_take]
 ·obtain ⟨k1, k2, k3⟩ := hK (by omega)
  have e1 : sgL ds all n = formB ((kidsB all n.ks).getD 0 []) ++ List.replicate n.a.toNat ⟨-1, 0, 1, 1, [0]⟩ := by unfold sgL; simp [e]
  have e2 : nodB ds all n = (kidsB all n.ks).getD 0 [] ++ List.replicate n.a.toNat (-1, 0) := by unfold nodB; simp [e]
  rw [e1, e2]
  generalize (kidsB all n.ks).getD 0 [] = K at *
  obtain ⟨hP, hO⟩ := formB_P _ K (Nat.le_refl _) k2 k3
  refine ⟨?_, okL_app (okL_of hO) (fun s hs => ?_)⟩
  ·rw [formP_app, hP, formP_rep]
   have e9 : segPs ⟨-1, 0, 1, 1, [0]⟩ (1 : Int).toNat = [(-1, 0)] := by rfl
   rw [e9, rep_one]
  ·rw [(List.mem_replicate.1 hs).2]
   exact ⟨⟨by simp, by simp, by simp, .inl ⟨rfl, rfl, rfl, by decide⟩⟩, by simp, by simp⟩
 ·obtain ⟨k1, k2, k3⟩ := hK (by omega)
  have e1 : sgL ds all n = formB ((kidsB all n.ks).getD 0 []) ++ List.replicate n.a.toNat (cutS (lastS (formB ((kidsB all n.ks).getD 0 []))) ((lastS (formB ((kidsB all n.ks).getD 0 []))).wd.toNat - 1) 1) := by unfold sgL; simp [e]
  have e2 : nodB ds all n = (kidsB all n.ks).getD 0 [] ++ List.replicate n.a.toNat (((kidsB all n.ks).getD 0 []).getD (((kidsB all n.ks).getD 0 []).length - 1) (-1, 0)) := by unfold nodB; simp [e]
  rw [e1, e2]
  generalize (kidsB all n.ks).getD 0 [] = K at *
  obtain ⟨hP, hO⟩ := formB_P _ K (Nat.le_refl _) k2 k3
  obtain ⟨hl1, hl2⟩ := last_bit k1 k2 k3
  have ho := hO _ hl1
  have hw := ho.1.1
  refine ⟨?_, okL_app (okL_of hO) (fun s hs => ?_)⟩
  ·rw [formP_app, hP, formP_rep, cutS_wd]
   rw [show ((1 : Nat) : Int).toNat = 1 from rfl, hl2, rep_one]
  ·rw [(List.mem_replicate.1 hs).2]
   have := cutS_lo (p := (lastS (formB K)).wd.toNat - 1) (m := 1) ho.2 (by omega) (by omega)
   exact ⟨cutS_ok ho.1 (by omega) (by omega), this⟩
 ·obtain ⟨k1, k2, k3⟩ := hK (by omega)
  have e1 : sgL ds all n = betS (((kidsB all n.ks).getD 0 []).length - n.a.toNat % ((kidsB all n.ks).getD 0 []).length) ((kidsB all n.ks).getD 0 []).length 0 (formB ((kidsB all n.ks).getD 0 [])) ++ betS 0 (((kidsB all n.ks).getD 0 []).length - n.a.toNat % ((kidsB all n.ks).getD 0 []).length) 0 (formB ((kidsB all n.ks).getD 0 [])) := by unfold sgL; simp [e]
  have e2 : nodB ds all n = turnB ((kidsB all n.ks).getD 0 []) (n.a.toNat % ((kidsB all n.ks).getD 0 []).length) := by unfold nodB; simp [e]
  rw [e1, e2]
  generalize (kidsB all n.ks).getD 0 [] = K at *
  obtain ⟨hP, hO⟩ := formB_P _ K (Nat.le_refl _) k2 k3
  refine ⟨?_, okL_app (betS_ok hO) (betS_ok hO)⟩
  rw [formP_app, betS_P _ _ _ _ (fun s hs => (hO s hs).1), betS_P _ _ _ _ (fun s hs => (hO s hs).1), hP]
  unfold turnB
  simp only [Nat.sub_zero, List.drop_zero, List.take_length]
 ·obtain ⟨k1, k2, k3⟩ := hK (by omega)
  have e1 : sgL ds all n = betS (n.a.toNat % ((kidsB all n.ks).getD 0 []).length) ((kidsB all n.ks).getD 0 []).length 0 (formB ((kidsB all n.ks).getD 0 [])) ++ betS 0 (n.a.toNat % ((kidsB all n.ks).getD 0 []).length) 0 (formB ((kidsB all n.ks).getD 0 [])) := by unfold sgL; simp [e]
  have e2 : nodB ds all n = turnB ((kidsB all n.ks).getD 0 []) ((((kidsB all n.ks).getD 0 []).length - n.a.toNat % ((kidsB all n.ks).getD 0 []).length) % ((kidsB all n.ks).getD 0 []).length) := by unfold nodB; simp [e]
  rw [e1, e2]
  generalize (kidsB all n.ks).getD 0 [] = K at *
  obtain ⟨hP, hO⟩ := formB_P _ K (Nat.le_refl _) k2 k3
  refine ⟨?_, okL_app (betS_ok hO) (betS_ok hO)⟩
  rw [formP_app, betS_P _ _ _ _ (fun s hs => (hO s hs).1), betS_P _ _ _ _ (fun s hs => (hO s hs).1), hP]
  unfold turnB
  simp only [Nat.sub_zero, List.drop_zero, List.take_length]
  have hm := Nat.mod_lt n.a.toNat (show 0 < K.length by omega)
  by_cases h0 : n.a.toNat % K.length = 0
  ·rw [h0, Nat.sub_zero, Nat.mod_self]
   simp
  ·rw [Nat.mod_eq_of_lt (show K.length - n.a.toNat % K.length < K.length by omega), show K.length - (K.length - n.a.toNat % K.length) = n.a.toNat % K.length by omega]
 ·obtain ⟨k1, k2, k3⟩ := hK (by omega)
  have e1 : sgL ds all n = (List.replicate n.a.toNat (formB ((kidsB all n.ks).getD 0 []))).flatten := by unfold sgL; simp [e]
  have e2 : nodB ds all n = (List.replicate n.a.toNat ((kidsB all n.ks).getD 0 [])).flatten := by unfold nodB; simp [e]
  rw [e1, e2]
  generalize (kidsB all n.ks).getD 0 [] = K at *
  obtain ⟨hP, hO⟩ := formB_P _ K (Nat.le_refl _) k2 k3
  refine ⟨by rw [formP_flat, List.map_replicate, hP], fun s hs => ?_⟩
  obtain ⟨l, hl, hs⟩ := List.mem_flatten.1 hs
  rw [(List.mem_replicate.1 hl).2] at hs
  exact okL_of hO s hs
open Go.RowKit Go.Shelf
theorem SeqS.more {n g B B' : Nat} {lb : Array Value} {L : List Sc} {w w' : World} (h : SeqS n g lb L B w) (hw : Below B w w') (hB : B ≤ B') : SeqS n g lb L B' w' := by
 intro l J Jx O W hbW hJ hJx hlt hOw h0
 refine h l J Jx O W (hw.trans (hbW.mono hB)) hJ hJx hlt (fun pre O x W0 W1 j0 hcz j1 hr => ?_) h0
 refine YieldAt.mono (hOw pre O x W0 W1 j0 hcz j1 ⟨hr.1, hr.2.1, hr.2.2.1, fun p hp => ⟨(hr.2.2.2 p hp).1.imp (fun h9 => Nat.lt_of_lt_of_le h9 hB) id, (hr.2.2.2 p hp).2⟩⟩) ?_
 rintro e W' (⟨rfl, hK, r⟩ | h9)
 ·exact .inl ⟨rfl, hK.mono hB, r⟩
 ·exact .inr h9
structure Itr (L : List Sc) (w : World) (v : Value) : Prop where
 is : ∃ g lb, v = .func (.func g) #[] lb ∧ (∀ (args : Array Value) (w : World), (callFunc g args).run Tryz.prog w = .ok (.enter g args) w) ∧ ∀ n, SeqS n g lb L w.heap.size w
theorem Itr.later {L : List Sc} {w w' : World} {v : Value} (h : Itr L w v) (hb : Below w.heap.size w w') : Itr L w' v := by
 obtain ⟨g, lb, h1, h2, h3⟩ := h.is
 exact ⟨g, lb, h1, h2, fun n => (h3 n).more hb hb.size⟩
def RetIt (L : List Sc) (w : World) (e : Ending) (w' : World) : Prop := ∃ v, e = .returned v ∧ Itr L w' v ∧ Below w.heap.size w w'
theorem AtS.later {B : Nat} {w w' : World} {x : Sg} (h : AtS B w x) (hb : Below w.heap.size w w') {B' : Nat} (hB : B ≤ B') : AtS B' w' x := ⟨h.ok, h.lo, h.rd.later hb, h.no, fun q hq => Nat.lt_of_lt_of_le (h.pl q hq) hB⟩
structure Fm (w : World) (v : Value) (F : List Sc) (xs : List Sg) : Prop where
 pl : ∃ fb fo c, v = .slice (some ⟨fb, fo, none⟩) xs.length c ∧ fb < w.heap.size ∧ ∀ i x, xs[i]? = some x → ShAt w fb (fo + i * 5) x.hd
 ct : xs.map Sg.ct = F
 at' : ∀ x ∈ xs, AtS w.heap.size w x
 n1 : 1 ≤ xs.length
 n2 : xs.length ≤ 2000
 v64 : ∀ x ∈ xs, in64 x.ct.v
theorem Fm.later {w w' : World} {v : Value} {F : List Sc} {xs : List Sg} (h : Fm w v F xs) (hb : Below w.heap.size w w') : Fm w' v F xs := by
 obtain ⟨fb, fo, c, h1, h2, h3⟩ := h.pl
 exact ⟨⟨fb, fo, c, h1, Nat.lt_of_lt_of_le h2 hb.size, fun i x hx => (h3 i x hx).later hb⟩, h.ct, fun x hx => (h.at' x hx).later hb hb.size, h.n1, h.n2, h.v64⟩
theorem Fm.rds {w : World} {fb fo c : Nat} {F : List Sc} {xs : List Sg} (h : Fm w (.slice (some ⟨fb, fo, none⟩) xs.length c) F xs) : RdS w (some ⟨fb, fo, none⟩) xs := by
 obtain ⟨fb', fo', c', e, h2, h3⟩ := h.pl
 cases e
 refine ⟨by have := h.n2; omega, .inr ⟨fb, fo, rfl, fun i x hx => ?_⟩⟩
 have hm := List.mem_of_getElem? hx
 have ha := h.at' x hm
 have hw := ha.ok.1
 have hw2 := ha.ok.2.1
 have hl := ha.lo
 refine ⟨h3 i x hx, ha.rd, h.v64 x hm, by unfold in64; omega, by unfold in64; omega, ?_⟩
 rcases ha.ok.2.2.2 with ⟨-, -, e9, -⟩ | ⟨-, e9, -⟩ <;> unfold in64 <;> omega
theorem values_of {v : Value} {F : List Sc} {xs : List Sg} {w : World} {β : Nat} (h : Fm w v F xs) (hb : Bz w β #[v] 45) : Itr F w (.func (.func 119) #[] #[.pointer (some ⟨β, 0, none⟩)]) := by
 obtain ⟨fb, fo, c, rfl, h2, h3⟩ := h.pl
 refine ⟨_, _, rfl, enters_of Tryz.func119 (by kernel_rfl) rfl, fun n => ?_⟩
 rw [← h.ct]
 exact values_seq n _ β fb fo c xs.length xs _ (Nat.le_refl _) rfl h.n2 h.at' hb hb.lt h2 h3
theorem values_it {v : Value} {F : List Sc} {xs : List Sg} {w : World} (h : Fm w v F xs) : Calls Tryz.prog 95 #[v] w (RetIt F w) := by
 obtain ⟨fb, fo, c, rfl, h2, h3⟩ := h.pl
 refine (values_any _ _ _ w).mono ?_
 rintro e w' ⟨rfl, rfl⟩
 have hb : Below w.heap.size w (w.alloc (Obj.cells #[.slice (some ⟨fb, fo, none⟩) xs.length c] 45)) := blA _ _
 exact ⟨_, rfl, values_of (h.later hb) (Bz.new w _ _), hb⟩
theorem again_it {m : Nat} {x : Sg} {w : World} (hm : m ≤ 4096) (hx : AtS w.heap.size w x) : Calls Tryz.prog 89 #[.int .i64 (m : Int), sgV x] w (RetIt (List.replicate m x.ct) w) := by
 refine (again_any _ _ w).mono ?_
 rintro e w' ⟨rfl, hw'⟩
 have hb : Below w.heap.size w w' := by rw [hw']; exact (blA _ _).alloc (by simp) _
 have x1 : Bz w' w.heap.size #[.int .i64 (m : Int)] 2 := by rw [hw']; exact (Bz.new w _ _).later (blA _ _)
 have x2 : Bz w' (w.heap.size + 1) #[.int .i64 x.ct.v, .int .i64 x.ct.lo, .int .i64 x.ct.wd, .int .i64 x.ct.bw, .slice x.a x.ct.ws.length x.c] 73 := by
  have h9 := Bz.new (w.alloc (Obj.cells #[.int .i64 (m : Int)] 2)) #[.int .i64 x.ct.v, .int .i64 x.ct.lo, .int .i64 x.ct.wd, .int .i64 x.ct.bw, .slice x.a x.ct.ws.length x.c] 73
  rw [World.size_alloc] at h9
  rw [hw']
  exact h9
 exact ⟨_, rfl, ⟨_, _, rfl, enters_of Tryz.func114 (by kernel_rfl) rfl, fun n => again_seq n _ _ _ m x w' (Nat.le_refl _) hm (hx.later hb hb.size) x1 x1.lt x2 x2.lt⟩, hb⟩
theorem between_it {v : Value} {F : List Sc} {xs : List Sg} {w : World} {lo en : Nat} (h : Fm w v F xs) (hs : sumS F ≤ 4096) (hlo : lo ≤ 4096) (hen : en ≤ 4096) : Calls Tryz.prog 93 #[v, .int .i64 (lo : Int), .int .i64 (en : Int)] w (RetIt (betS lo en 0 F) w) := by
 obtain ⟨fb, fo, c, rfl, h2, h3⟩ := h.pl
 refine (between_any _ _ _ _ _ w).mono ?_
 rintro e w' ⟨rfl, hw'⟩
 have hb : Below w.heap.size w w' := by rw [hw']; exact ((blA _ _).alloc (by simp) _).alloc (by simp; omega) _
 have x1 : Bz w' w.heap.size #[.slice (some ⟨fb, fo, none⟩) xs.length c] 45 := by
  rw [hw']
  exact ((Bz.new w _ _).later (blA _ _)).later (blA _ _)
 have x2 : Bz w' (w.heap.size + 1) #[.int .i64 (lo : Int)] 2 := by
  have h9 := (Bz.new (w.alloc (Obj.cells #[.slice (some ⟨fb, fo, none⟩) xs.length c] 45)) #[.int .i64 (lo : Int)] 2).later ((Below.refl _ _).alloc (Nat.le_refl _) (Obj.cells #[.int .i64 (en : Int)] 2))
  rw [World.size_alloc] at h9
  rw [hw']
  exact h9
 have x3 : Bz w' (w.heap.size + 1 + 1) #[.int .i64 (en : Int)] 2 := by
  have h9 := Bz.new ((w.alloc (Obj.cells #[.slice (some ⟨fb, fo, none⟩) xs.length c] 45)).alloc (Obj.cells #[.int .i64 (lo : Int)] 2)) #[.int .i64 (en : Int)] 2
  rw [World.size_alloc, World.size_alloc] at h9
  rw [hw']
  exact h9
 have h9 := h.later hb
 obtain ⟨fb', fo', c', e', h2', h3'⟩ := h9.pl
 cases e'
 refine ⟨_, rfl, ⟨_, _, rfl, enters_of Tryz.func116 (by kernel_rfl) rfl, fun n => ?_⟩, hb⟩
 have hct := h.ct
 subst hct
 exact between_seq n lo en _ _ _ _ fb fo c xs.length xs w' (Nat.le_refl _) rfl h.n2 h9.at' hs hlo hen x1 x2 x3 x1.lt x2.lt x3.lt h2' h3'
theorem inTurn_of {β g N c : Nat} {Ls : List (List Sc)} {vs : List Value} {w : World} (x1 : Bz w β #[.slice (some ⟨g, 0, none⟩) N c] 146) (hN : vs.length = N) (hN2 : N ≤ 1048576) (hL : Ls.length = N) (hg : g < w.heap.size) (hc : ∀ i v, vs[i]? = some v → w.cell? ⟨g, i, none⟩ = some v) (hi : ∀ (i : Nat) (L : List Sc) (v : Value), Ls[i]? = some L → vs[i]? = some v → Itr L w v) :
  Itr Ls.flatten w (.func (.func 118) #[] #[.pointer (some ⟨β, 0, none⟩)]) := by
 -- the parts
 have hp : ∀ i : Nat, i < N → ∃ p : Pt, Ls[i]? = some p.L ∧ vs[i]? = some (.func (.func p.g) #[] p.lb) ∧ (∀ (args : Array Value) (w : World), (callFunc p.g args).run Tryz.prog w = .ok (.enter p.g args) w) ∧ ∀ n, SeqS n p.g p.lb p.L w.heap.size w := fun i hiN => by
  have hv : vs[i]? = some (vs[i]'(by omega)) := List.getElem?_eq_getElem _
  have hl : Ls[i]? = some (Ls[i]'(by omega)) := List.getElem?_eq_getElem _
  obtain ⟨g9, lb, e1, e2, e3⟩ := (hi i _ _ hl hv).is
  exact ⟨⟨g9, lb, _⟩, hl, by rw [hv, e1], e2, e3⟩
 let ps : List Pt := (List.range N).map fun i => if h : i < N then (hp i h).choose else ⟨0, #[], []⟩
 have hps : ∀ (i : Nat) (p : Pt), ps[i]? = some p → Ls[i]? = some p.L ∧ vs[i]? = some (.func (.func p.g) #[] p.lb) ∧ (∀ (args : Array Value) (w : World), (callFunc p.g args).run Tryz.prog w = .ok (.enter p.g args) w) ∧ ∀ n, SeqS n p.g p.lb p.L w.heap.size w := fun i p h => by
  have hiN : i < N := by have := (List.getElem?_eq_some_iff.1 h).1; simpa [ps] using this
  have e : p = (hp i hiN).choose := by
   simp [ps, hiN] at h
   exact h.symm
  rw [e]
  exact (hp i hiN).choose_spec
 have hpl : ps.length = N := by simp [ps]
 have hLs : ps.flatMap Pt.L = Ls.flatten := by
  rw [List.flatMap_def]
  congr 1
  apply List.ext_getElem?
  intro i
  by_cases hi9 : i < N
  ·have h9 : ps[i]? = some (ps[i]'(by omega)) := List.getElem?_eq_getElem _
   rw [List.getElem?_map, h9, (hps i _ h9).1]
   rfl
  ·rw [List.getElem?_eq_none (by simp [hpl]; omega), List.getElem?_eq_none (by omega)]
 refine ⟨_, _, rfl, enters_of Tryz.func118 (by kernel_rfl) rfl, fun n => ?_⟩
 rw [← hLs]
 refine inTurn_seq n _ β g 0 c N ps w (Nat.le_refl _) hpl hN2 (fun p hp9 => ?_) x1 x1.lt hg (fun i p h => ?_)
 ·obtain ⟨i, hi9, e⟩ := List.getElem_of_mem hp9
  exact (hps i p (by rw [List.getElem?_eq_getElem hi9, e])).2.2
 ·rw [Nat.zero_add]
  exact hc i _ (hps i p h).2.1
theorem inTurn_it {g N c : Nat} {Ls : List (List Sc)} {vs : List Value} {w : World} (hN : vs.length = N) (hN2 : N ≤ 1048576) (hL : Ls.length = N) (hg : g < w.heap.size) (hc : ∀ i v, vs[i]? = some v → w.cell? ⟨g, i, none⟩ = some v) (hi : ∀ (i : Nat) (L : List Sc) (v : Value), Ls[i]? = some L → vs[i]? = some v → Itr L w v) :
  Calls Tryz.prog 94 #[.slice (some ⟨g, 0, none⟩) N c] w (RetIt Ls.flatten w) := by
 refine (inTurn_any _ _ _ w).mono ?_
 rintro e w' ⟨rfl, hw'⟩
 have hb : Below w.heap.size w w' := by rw [hw']; exact blA _ _
 have x1 : Bz w' w.heap.size #[.slice (some ⟨g, 0, none⟩) N c] 146 := by rw [hw']; exact Bz.new w _ _
 exact ⟨_, rfl, inTurn_of x1 hN hN2 hL (Nat.lt_of_lt_of_le hg hb.size) (fun i v h => (hb.cell (p := ⟨g, i, none⟩) hg).trans (hc i v h)) (fun i L v h1 h2 => (hi i L v h1 h2).later hb), hb⟩
open Go.RowKit Go.Shelf
attribute [local go_sem] Oper.semAt_some
def Ah (w : World) (aa : Option Addr) (Fs : List (List Sc)) : Prop := Fs = [] ∨ ∃ ab ao, aa = some ⟨ab, ao, none⟩ ∧ ∀ i F, Fs[i]? = some F → ∃ v xs, w.cell? ⟨ab, ao + i, none⟩ = some v ∧ Fm w v F xs
theorem Ah.later {w w' : World} {aa : Option Addr} {Fs : List (List Sc)} (h : Ah w aa Fs) (hb : Below w.heap.size w w') : Ah w' aa Fs := by
 rcases h with h | ⟨ab, ao, e, h⟩
 ·exact .inl h
 ·refine .inr ⟨ab, ao, e, fun i F hi => ?_⟩
  obtain ⟨v, xs, h1, h2⟩ := h i F hi
  exact ⟨v, xs, (hb.cell (p := ⟨ab, ao + i, none⟩) (block_lt_of_cell h1)).trans h1, h2.later hb⟩
def fnV (β : Nat) : Value := .func (.func 119) #[] #[.pointer (some ⟨β, 0, none⟩)]
theorem Tryz.infoSq : (Tryz.prog.info? 108).map (fun i => (i.zero, i.size, i.bytes)) = some (some .nilFunc, 1, 8) := by kernel_rfl
def OF1 (w : World) (B : Nat) (v : Value) (l : List Value) : Prop := w.ownsRow B 108 1 v l.length l
theorem OF1.lt {w : World} {B : Nat} {v : Value} {l : List Value} (h : OF1 w B v l) {b : Nat} (hb : v.ownBlock = some b) : B ≤ b ∧ b < w.heap.size := World.ownsRow.lt h b hb
theorem OF1.form {w : World} {B : Nat} {v : Value} {l : List Value} (h : OF1 w B v l) : ∃ a c, v = .slice a l.length c := by
 rcases h.2 with ⟨rfl, h0⟩ | ⟨g, cap, cur, rfl, -⟩
 ·exact ⟨none, 0, by rw [h0]⟩
 ·exact ⟨_, cap, rfl⟩
theorem OF1.nil (w : World) (B : Nat) : OF1 w B (.slice none 0 0) [] := ⟨rfl, .inl ⟨rfl, rfl⟩⟩
theorem OF1.typed {w : World} {B : Nat} {v : Value} {l : List Value} (h : OF1 w B v l) {b : Nat} (hb : v.ownBlock = some b) : ∃ cur, w.heap[b]? = some (.cells cur 108 (0, 0)) := by
 rcases h.2 with ⟨rfl, -⟩ | ⟨g, cap, cur, rfl, -, hh, -⟩
 ·cases hb
 ·cases hb; exact ⟨cur, hh⟩
theorem step_appF1 (w : World) {ops : Array Oper} {o : Oper} {a : Act} {K : Act → World → Prop} {Q : Exit → Act → World → Prop} {E : Prop} (hgd : o.guard = none) (s x : Operand)
  (ho : o.op = .call { callee := .builtin .append, args := #[s, x], argTypes := #[146, 146] })
  (B : Nat) (v : Value) (l : List Value) (y : Value) (hs : a.eval s = v) (hown : OF1 w B v l) (gx c : Nat) (hx : a.eval x = .slice (some ⟨gx, 0, none⟩) 1 c)
  (h0 : w.cell? ⟨gx, 0, none⟩ = some y) (hy : y.oneCell' = true) (hl : l.length ≤ 1073741824) (hB : B ≤ w.heap.size)
  (h : ∀ g cap w', OF1 w' B (.slice (some ⟨g, 0, none⟩) (l.length + 1) cap) (l ++ [y]) → w.grownBy w' v.ownBlock → (v.ownBlock = some g ∨ g = w.heap.size) → K (a.put o.dst (.slice (some ⟨g, 0, none⟩) (l.length + 1) cap)) w') :
  if Region.wanted o (yielded ops a.tmps) = true then Oper.wp Tryz.prog o a w K Q else E := by
 obtain ⟨i0, hi, hz0, hz1, hz2⟩ := info_parts Tryz.infoSq
 refine step_append_lies w hgd s x 146 ho B 108 i0 _ 1 8 Tryz.underlying146 hi hz0 hz1 hz2 rfl (by decide) v l.length l hs hown ⟨gx, 0, none⟩ 1 c [y] hx rfl ?_ ?_ (by decide) ?_ ?_ hB _ rfl ?_
 ·intro j u hj
  rw [Addr.add_lit]
  match j, hj with
  | 0, hj => simp at hj; subst hj; exact h0
  | j + 1, hj => simp at hj
 ·intro u hu
  simp at hu
  subst hu
  exact hy
 ·unfold maxLen; omega
 ·omega
 ·intro g cap w' h1 h2 h3 _
  refine h g cap w' ?_ h2 h3
  unfold OF1
  rw [List.length_append]
  exact h1
open Go.RowKit Go.Shelf
attribute [local go_sem] Oper.semAt_some

structure Jp (w : World) (b : Nat) (aa : Option Addr) (na ac : Nat) (Fs : List (List Sc)) (ks : List Int) (kv : Value) (pre : List (Int × Int)) (v : Value) (bs : List Nat) (W : World) : Prop where
 kx : Bz W (b + 1 + 1) #[kv] 60
 ax : Bz W b #[.slice aa na ac] 105
 px : Bz W (b + 1) #[v] 146
 row : OF1 W b v (bs.map fnV)
 len : bs.length = pre.length
 at' : ∀ (j : Nat) (β : Nat) (x : Int × Int), bs[j]? = some β → pre[j]? = some x → ∃ fv xs, Fm w fv (Fs.getD x.2.toNat []) xs ∧ Bz W β #[fv] 45
 pre : pre <+: bwL ks
 bel : Below b w W
def OJ (b : Nat) (v : Value) : Nat → Prop := fun k => k = b + 1 ∨ v.ownBlock = some k
theorem Jp.cz {w : World} {b : Nat} {aa : Option Addr} {na ac : Nat} {Fs : List (List Sc)} {ks : List Int} {kv : Value} {pre : List (Int × Int)} {v : Value} {bs : List Nat} {W W' : World} (h : Jp w b aa na ac Fs ks kv pre v bs W) (hc : Cz W W') (hb : Below b w W') : Jp w b aa na ac Fs ks kv pre v bs W' :=
 ⟨cz_bz h.kx hc, cz_bz h.ax hc, cz_bz h.px hc, cz_own h.row hc, h.len, fun j β x h1 h2 => by
  obtain ⟨fv, xs, h3, h4⟩ := h.at' j β x h1 h2
  exact ⟨fv, xs, h3, cz_bz h4 hc⟩, h.pre, hb⟩
theorem bz_of1 {w w' : World} {b B : Nat} {v : Value} {l : List Value} {cs : Array Value} {t : TypeId} (hb : Bz w b cs t) (h : OF1 w B v l) (ht : t ≠ 108) (hg : w.grownBy w' v.ownBlock) : Bz w' b cs t := by
 unfold Bz at hb ⊢
 rw [hg.block b (lt_of_block hb) (fun e => by
  obtain ⟨cur, hc⟩ := h.typed e.symm
  rw [hb] at hc
  cases hc
  exact ht rfl)]
 exact hb
theorem OF1.move {w w' : World} {B : Nat} {v : Value} {l : List Value} (h : OF1 w B v l) (hk : ∀ b, v.ownBlock = some b → w'.heap[b]? = w.heap[b]?) : OF1 w' B v l := by
 obtain ⟨h1, h2⟩ := h
 refine ⟨h1, ?_⟩
 rcases h2 with h2 | ⟨g, cap, cur, rfl, hg, hh, r⟩
 ·exact .inl h2
 ·exact .inr ⟨g, cap, cur, rfl, hg, (hk g rfl).trans hh, r⟩
theorem Jp.app {w m w6 : World} {b N g6 c6 vc β : Nat} {va aa : Option Addr} {na ac : Nat} {Fs : List (List Sc)} {ks : List Int} {kv : Value} {pre : List (Int × Int)} {bs : List Nat} {x : Int × Int} {fv : Value} {xs : List Sg} (h : Jp w b aa na ac Fs ks kv pre (.slice va N vc) bs m) (hF : Fm w fv (Fs.getD x.2.toNat []) xs) (hβ : Bz m β #[fv] 45) (hp : pre ++ [x] <+: bwL ks)
  (ho : OF1 w6 b (.slice (some ⟨g6, 0, none⟩) (N + 1) c6) (bs.map fnV ++ [fnV β])) (hg : m.grownBy w6 (Value.slice va N vc).ownBlock) (hl : (Value.slice va N vc).ownBlock = some g6 ∨ g6 = m.heap.size) :
  Jp w b aa na ac Fs ks kv (pre ++ [x]) (.slice (some ⟨g6, 0, none⟩) (N + 1) c6) (bs ++ [β]) (w6.setCell ⟨b + 1, 0, none⟩ (.slice (some ⟨g6, 0, none⟩) (N + 1) c6)) ∧ Nz m (w6.setCell ⟨b + 1, 0, none⟩ (.slice (some ⟨g6, 0, none⟩) (N + 1) c6)) ∧ Below b m (w6.setCell ⟨b + 1, 0, none⟩ (.slice (some ⟨g6, 0, none⟩) (N + 1) c6)) ∧
  Ko (OJ b (.slice va N vc)) m (w6.setCell ⟨b + 1, 0, none⟩ (.slice (some ⟨g6, 0, none⟩) (N + 1) c6)) ∧ (∀ r, OJ b (.slice (some ⟨g6, 0, none⟩) (N + 1) c6) r → OJ b (.slice va N vc) r ∨ m.heap.size ≤ r) := by
 have q0 := bz_of1 h.ax h.row (by decide) hg
 have qk := bz_of1 h.kx h.row (by decide) hg
 have q1 := bz_of1 h.px h.row (by decide) hg
 have hge : ∀ j, (Value.slice va N vc).ownBlock = some j → b ≤ j := fun j hj => (h.row.lt hj).1
 have hbm : b ≤ m.heap.size := by have := h.ax.lt; omega
 have hb6 : Below b m w6 := ⟨hg.os, hg.tape, hg.output, hg.size, fun j hj => hg.block j (by omega) (fun e => by have := hge j e.symm; omega)⟩
 have hb9 : Below b m (w6.setCell ⟨b + 1, 0, none⟩ (.slice (some ⟨g6, 0, none⟩) (N + 1) c6)) := hb6.setCell (p := ⟨b + 1, 0, none⟩) (by simp only []; omega) _
 have hg1 : g6 ≠ b + 1 := fun e => by
  obtain ⟨cur, hc⟩ := ho.typed (b := g6) rfl
  have h9 := q1
  unfold Bz at h9
  rw [← e, hc] at h9
  cases h9
 refine ⟨⟨qk.other (by omega) 0 _, q0.other (by omega) 0 _, q1.set 0 _, ?_, by simp [h.len], ?_, hp, h.bel.trans hb9⟩, ?_, hb9, ?_, ?_⟩
 ·rw [List.map_append]
  exact ho.move fun k hk => by
   cases hk
   exact heap_setCell_other _ _ _ _ (by simpa using hg1)
 ·intro j γ y h1 h2
  have hne : ∀ γ fv', Bz m γ #[fv'] 45 → Bz (w6.setCell ⟨b + 1, 0, none⟩ (.slice (some ⟨g6, 0, none⟩) (N + 1) c6)) γ #[fv'] 45 := fun γ fv' hz => by
   have h9 := bz_of1 hz h.row (by decide) hg
   have hne : γ ≠ b + 1 := fun e => by
    have h8 := q1
    unfold Bz at h8 h9
    rw [e, h8] at h9
    cases h9
   exact h9.other hne 0 _
  by_cases hj : j < bs.length
  ·rw [List.getElem?_append_left hj] at h1
   rw [List.getElem?_append_left (by rw [← h.len]; exact hj)] at h2
   obtain ⟨fv', xs', h3, h4⟩ := h.at' j γ y h1 h2
   exact ⟨fv', xs', h3, hne γ fv' h4⟩
  ·have hj2 : j = bs.length := by have := (List.getElem?_eq_some_iff.1 h1).1; simp at this; omega
   subst hj2
   simp at h1
   rw [h.len] at h2
   simp at h2
   subst h1 h2
   exact ⟨fv, xs, hF, hne _ _ hβ⟩
 ·refine (Nz.grown hg (fun r e => ?_)).trans (Nz.set q1 _)
  obtain ⟨cur, hc⟩ := h.row.typed e
  exact ⟨cur, _, hc⟩
 ·exact ((Ko.refl _ m).grown hg (fun r hr => .inl (.inr hr))).set (.inl rfl) _
 ·intro r hr
  rcases hr with hr | hr
  ·exact .inl (.inl hr)
  ·have e : g6 = r := Option.some.inj hr
   subst e
   rcases hl with hl | hl
   ·exact .inl (.inr hl)
   ·exact .inr (by omega)
set_option maxHeartbeats 4000000 in
set_option maxRecDepth 100000 in
theorem joined_it (ka : Option Addr) (nk kc : Nat) (aa : Option Addr) (na ac : Nat) (ks : List Int) (Fs : List (List Sc)) (w : World) (hk : RdI w ka ks) (hkl : ∀ q, ka = some q → q.block < w.heap.size) (hnk : ks.length = nk) (hn1 : 1 ≤ nk) (hA : Ah w aa Fs) (hna : Fs.length ≤ na) (hna2 : na ≤ 1048576) (hks : ∀ k ∈ ks, 0 ≤ k ∧ k < (Fs.length : Int)) :
  Calls Tryz.prog 91 #[.slice ka nk kc, .slice aa na ac] w (RetIt (ks.reverse.map fun k => Fs.getD k.toNat []).flatten w) := by
 refine (callsIn_wide (n := 5)).1 ?_
 refine callsIn_of_wp_marks Tryz.func91 rfl trivial ?_ rfl
 simp only [Tryz.ntmps91, List.size_toArray, List.length_cons, List.length_nil, Nat.reduceAdd, Nat.reduceSub, Array.replicate_succ, Array.replicate_zero, List.push_toArray, List.append_toArray, List.nil_append, List.cons_append]
 have hnk2 : nk ≤ 1048576 := by rw [← hnk]; exact hk.1
 have HK := kide hk
 have HKL := kide hkl
 have HNK := kide hnk
 have HA := kide hA
 have HKS := kide hks
 obtain ⟨b, hb⟩ : ∃ b, w.heap.size = b := ⟨_, rfl⟩
 have HB := kide hb
 obtain ⟨w3, hw3⟩ : ∃ w3, (((w.alloc (Obj.cells #[.slice aa na ac] 105)).alloc (Obj.cells #[.slice none 0 0] 146)).alloc (Obj.cells #[.slice ka nk kc] 60)) = w3 := ⟨_, rfl⟩
 have b3 : Below w.heap.size w w3 := by rw [← hw3]; exact ((blA _ _).alloc (by simp) _).alloc (by simp; omega) _
 have x0 : Bz w3 b #[.slice aa na ac] 105 := by
  rw [← hw3, ← hb]
  exact ((Bz.new w _ _).later (blA _ _)).later (blA _ _)
 have x1 : Bz w3 (b + 1) #[.slice none 0 0] 146 := by
  have h9 := (Bz.new (w.alloc (Obj.cells #[.slice aa na ac] 105)) #[.slice none 0 0] 146).later ((Below.refl _ _).alloc (Nat.le_refl _) (Obj.cells #[.slice ka nk kc] 60))
  rw [World.size_alloc, hb] at h9
  rw [← hw3]
  exact h9
 have x2 : Bz w3 (b + 1 + 1) #[.slice ka nk kc] 60 := by
  have h9 := Bz.new ((w.alloc (Obj.cells #[.slice aa na ac] 105)).alloc (Obj.cells #[.slice none 0 0] 146)) #[.slice ka nk kc] 60
  rw [World.size_alloc, World.size_alloc, hb] at h9
  rw [← hw3]
  exact h9
 have hz3 : w3.heap.size = b + 3 := by rw [← hw3]; simp [hb]
 rw [hb] at b3
 have J0 : Hid (Jp w b aa na ac Fs ks (.slice ka nk kc) [] (.slice none 0 0) [] w3) := ⟨x2, x0, x1, OF1.nil _ _, rfl, fun j β x h => by simp at h, ⟨bwL ks, rfl⟩, b3⟩
 have B3 := kide b3
 have X2 := kide x2
 have HSQ := kide (backI_seq 4 b (b + 1 + 1) kc nk ka ks w3 (by omega) hnk hnk2 (hk.later (by rw [hb]; exact b3)) (fun q hq => by rw [← hb]; exact hkl q hq) x2)
 clear hk hkl hnk hA hks b3 x0 x1 x2
 gi_wp2
 refine ⟨trivial, callsIn_wide.2 (Calls.mono (backI_any _ _ _ _) ?_)⟩
 rintro e w2 ⟨rfl, hw2⟩
 rw [hw3] at hw2
 obtain rfl := hw2.symm
 clear hw2
 gi_wp2
 clear hb hw3
 refine wpIn_rangeW (F := Fence.wide) rfl (fun h => by cases h) (gf := 123) (lb := #[.pointer (some ⟨b + 1 + 1, 0, none⟩)]) rfl trivial (enters_of Tryz.func123 (by kernel_rfl) rfl) HSQ.out ?kr (fun h k => h.trans k) ?kb ?rp (KpI.refl _ _ _) (fun _ => rfl)
  (fun s W => ∃ v bs, Jp w b aa na ac Fs ks (.slice ka nk kc) s.1 v bs W ∧ s.2 = OJ b v) (fun _ _ => False) (OJ b (.slice none 0 0)) ?hi ?hix ?ho ⟨_, _, J0.out, rfl⟩
  (fun T x a' W => a' = { tmps := #[.slice ka nk kc, .slice aa na ac, undef, .pointer (some ⟨b, 0, none⟩), Value.nilFunc, .pointer (some ⟨b + 1, 0, none⟩), undef, .int .i64 x.2, .slice ka nk kc, .func (Fn.func 123) #[] #[.pointer (some ⟨b + 1 + 1, 0, none⟩)], .int .i64 x.1, .int .i64 x.2, undef, undef, undef, undef, undef, undef, undef, undef, undef, undef], defers := [] }) ?hax ?assign ?body ?done ?stop
 case kr =>
  intro o o'
  have h9 : Below w3.heap.size w3 ((w3.alloc o).alloc o') := ((Below.refl _ w3).alloc (Nat.le_refl _) _).alloc (by simp) _
  exact ⟨h9.mono (by omega), h9.block _ (by omega)⟩
 case kb =>
  intro W l o o' hl _ _
  exact ⟨⟨rfl, rfl, rfl, by simp, fun k hk => World.putObj_heap_other (fun e => by omega)⟩, World.putObj_heap_other (fun e => by omega)⟩
 case rp => exact fun T pre x W l o o' _ _ h => h
 case hi =>
  rintro s A A' row ⟨v, bs, h, hO9⟩ hg hr
  refine ⟨v, bs, h.cz (cz_grown hg (fun r e => (hr r e).2)) (h.bel.trans ⟨hg.os, hg.tape, hg.output, hg.size, fun k hk => hg.block k ?_ ?_⟩), hO9⟩
  ·have := h.ax.lt; omega
  ·intro e; have := (hr k e.symm).1; omega
 case hix => exact fun s A A' row h => h.elim
 case ho =>
  rintro s W ⟨v, bs, h, hO9⟩ k hk
  rw [hO9] at hk
  rcases hk with rfl | hk
  ·exact h.px.lt
  ·exact (h.row.lt hk).2
 case hax => exact fun T x a' _ A A' row h _ _ => h
 case assign =>
  rintro l T pre O x W K hTW ⟨v, bs, h, hO9⟩ r1 hK
  gi_wp2
  exact hK _ _ (KeepsFrom.refl _ _) (KpI.refl _ _ _) (Cz.refl _) ⟨v, bs, h, hO9⟩ r1 rfl
 case body =>
  rintro lq pre O x a' W0 W hlq - hcz ⟨v, bs, hg, hO9⟩ hrdy rfl
  simp only [] at hg hO9
  subst hO9
  have hmem : x ∈ bwL ks := by
   obtain ⟨r, hr⟩ := hrdy
   rw [← hr]
   simp
  have hmk : x.2 ∈ ks := by
   have h9 := List.mem_map_of_mem (f := Prod.snd) hmem
   rw [bwL_snd] at h9
   exact List.mem_reverse.1 h9
  obtain ⟨hx0, hx1⟩ := HKS.out x.2 hmk
  obtain ⟨kid, hkid⟩ : ∃ kid : Nat, x.2 = (kid : Int) := ⟨x.2.toNat, by omega⟩
  have hkF : kid < Fs.length := by omega
  have hgF : Fs[kid]? = some (Fs.getD x.2.toNat []) := by rw [hkid, Int.toNat_natCast]; simp [List.getD, hkF]
  obtain ⟨ab, ao, rfl, fv, xs, hcell, hFm⟩ : ∃ ab ao, aa = some ⟨ab, ao, none⟩ ∧ ∃ fv xs, w.cell? ⟨ab, ao + kid, none⟩ = some fv ∧ Fm w fv (Fs.getD x.2.toNat []) xs := by
   rcases HA.out with h9 | ⟨ab, ao, e, h9⟩
   ·rw [h9] at hkF; simp at hkF
   ·obtain ⟨fv, xs, h8⟩ := h9 kid _ hgF
    exact ⟨ab, ao, e, fv, xs, h8⟩
  have HFM := kide hFm
  obtain ⟨fb, fo, fc, hfv, -, -⟩ := hFm.pl
  have hab : ab < b := by rw [← HB.out]; exact block_lt_of_cell hcell
  have k2 := (hg.bel.cell (p := ⟨ab, ao + kid, none⟩) hab).trans hcell
  have k1 := hg.ax.cell 0
  have k0 := hg.px.cell 0
  simp at k0 k1
  obtain ⟨N, hN⟩ : ∃ N, bs.length = N := ⟨_, rfl⟩
  obtain ⟨va, vc, hv⟩ := hg.row.form
  rw [List.length_map, hN] at hv
  subst hv
  generalize hxl : xs.length = xn at *
  subst hfv
  have l0 := hg.px.lt
  have l1 := hg.ax.lt
  have l2 : ab < W.heap.size := by omega
  have hN2 : N ≤ 1048576 := by
   have h9 := hg.pre.length_le
   rw [bwL_len, HNK.out] at h9
   have := hg.len
   omega
  have HG := kide hg
  have HRD := kide hrdy
  have HN := kide hN
  have hkn : (kid : Int) < (na : Int) := by omega
  have hk0 : (kid : Int) ≥ 0 := by omega
  have hmx : Tryz.prog.follows .mixedOrders = true := by kernel_rfl
  have HKID := kide hkid
  rw [hkid]
  clear hg hrdy hFm hcz hmem hmk hkid hx0 hx1 hgF hkF hcell hN
  gi_wp2
  refine wpIn_region_x (SA := fun uu => uu.cell? ⟨b + 1, 0, none⟩ = some (Value.slice va N vc) ∧ uu.cell? ⟨b, 0, none⟩ = some (Value.slice (some ⟨ab, ao, none⟩) na ac) ∧ uu.cell? ⟨ab, ao + kid, none⟩ = some (Value.slice (some ⟨fb, fo, none⟩) xn fc)) (SB := fun _ => True) (k := 8) hmx (by kernel_rfl) ?_
  have hn0 : Hid (Below W.heap.size W W.drew) := (Below.refl _ _).drew
  have c0_0 := (kcell hn0.out (b + 1) 0 l0).trans k0
  have c1_0 := (kcell hn0.out b 0 l1).trans k1
  have c2_0 := (kcell hn0.out ab (ao + kid) l2).trans k2
  generalize W.drew = n0 at *
  have hs0 : Hid ((fun uu => uu.cell? ⟨b + 1, 0, none⟩ = some (Value.slice va N vc) ∧ uu.cell? ⟨b, 0, none⟩ = some (Value.slice (some ⟨ab, ao, none⟩) na ac) ∧ uu.cell? ⟨ab, ao + kid, none⟩ = some (Value.slice (some ⟨fb, fo, none⟩) xn fc)) n0) := ⟨c0_0, c1_0, c2_0⟩
  try go_simp
  refine tkY (i := 0) (v := Value.slice va N vc) rfl hs0.out (fun uu hu => by obtain ⟨e0, e1, e2⟩ := hu; go_simp) ?_
  try go_simp
  refine tkY (i := 1) (v := Value.slice (some ⟨ab, ao, none⟩) na ac) rfl hs0.out (fun uu hu => by obtain ⟨e0, e1, e2⟩ := hu; go_simp) ?_
  try go_simp
  refine tkU (i := 2) (v := Value.int .i64 (kid : Int)) rfl (Sx.before (by kernel_rfl) hs0.out) ?_
  try go_simp
  refine tkU (i := 3) (v := Value.pointer (some ⟨ab, ao + kid, none⟩)) rfl (Sx.before (by kernel_rfl) hs0.out) ?_
  try go_simp
  refine tkY (i := 4) (v := Value.slice (some ⟨fb, fo, none⟩) xn fc) rfl hs0.out (fun uu hu => by obtain ⟨e0, e1, e2⟩ := hu; go_simp) ?_
  try go_simp
  refine rdX (rs := [5]) (AllX.cons rfl (fun K hK => ?_) AllX.nil)
  go_simp
  refine Calls.mono (values_any _ _ _ n0) ?_
  rintro e n1 ⟨rfl, hw9⟩
  have hb9 : Below n0.heap.size n0 n1 := by rw [hw9]; exact blA _ _
  have BX : Hid (Bz n1 n0.heap.size #[.slice (some ⟨fb, fo, none⟩) xn fc] 45) := by show Bz _ _ _ _; rw [hw9]; exact Bz.new n0 _ _
  have hn1 : Hid (Below W.heap.size W n1) := hn0.out.trans (hb9.mono hn0.out.size)
  generalize n0.heap.size = bx at *
  clear hb9 hw9
  have c0_1 := (kcell hn1.out (b + 1) 0 l0).trans k0
  have c1_1 := (kcell hn1.out b 0 l1).trans k1
  have c2_1 := (kcell hn1.out ab (ao + kid) l2).trans k2
  have hs1 : Hid ((fun uu => uu.cell? ⟨b + 1, 0, none⟩ = some (Value.slice va N vc) ∧ uu.cell? ⟨b, 0, none⟩ = some (Value.slice (some ⟨ab, ao, none⟩) na ac) ∧ uu.cell? ⟨ab, ao + kid, none⟩ = some (Value.slice (some ⟨fb, fo, none⟩) xn fc)) n1) := ⟨c0_1, c1_1, c2_1⟩
  refine hK _ _ (Sx.before (by kernel_rfl) hs1.out) ?_
  clear hK K
  try go_simp
  refine rdX (rs := [6]) (AllX.cons rfl (fun K hK => ?_) AllX.nil)
  go_simp
  have hb9 : Below n1.heap.size n1 (n1.alloc (Obj.cells #[.func (Fn.func 119) #[] #[.pointer (some ⟨bx, 0, none⟩)]] 108)) := blA _ _
  have YX : Hid (Bz (n1.alloc (Obj.cells #[.func (Fn.func 119) #[] #[.pointer (some ⟨bx, 0, none⟩)]] 108)) n1.heap.size #[.func (Fn.func 119) #[] #[.pointer (some ⟨bx, 0, none⟩)]] 108) := Bz.new n1 _ _
  have hn2 : Hid (Below W.heap.size W (n1.alloc (Obj.cells #[.func (Fn.func 119) #[] #[.pointer (some ⟨bx, 0, none⟩)]] 108))) := hn1.out.trans (hb9.mono hn1.out.size)
  have BY := kide (BX.out.later hb9)
  clear hb9
  generalize n1.heap.size = by9 at *
  generalize n1.alloc (Obj.cells #[.func (Fn.func 119) #[] #[.pointer (some ⟨bx, 0, none⟩)]] 108) = n2 at *
  have c0_2 := (kcell hn2.out (b + 1) 0 l0).trans k0
  have c1_2 := (kcell hn2.out b 0 l1).trans k1
  have c2_2 := (kcell hn2.out ab (ao + kid) l2).trans k2
  have hs2 : Hid ((fun uu => uu.cell? ⟨b + 1, 0, none⟩ = some (Value.slice va N vc) ∧ uu.cell? ⟨b, 0, none⟩ = some (Value.slice (some ⟨ab, ao, none⟩) na ac) ∧ uu.cell? ⟨ab, ao + kid, none⟩ = some (Value.slice (some ⟨fb, fo, none⟩) xn fc)) n2) := ⟨c0_2, c1_2, c2_2⟩
  refine hK _ _ (Sx.before (by kernel_rfl) hs2.out) ?_
  clear hK K
  try go_simp
  refine rdX (rs := [7]) (AllX.cons rfl (fun K hK => ?_) AllX.nil)
  have GN := kide (HG.out.cz (Cz.below hn2.out) (HG.out.bel.trans (hn2.out.mono (by omega))))
  have hbn : b ≤ n2.heap.size := by have := GN.out.ax.lt; omega
  have hll : (bs.map fnV).length ≤ 1073741824 := by rw [List.length_map, HN.out]; omega
  have y0 := YX.out.cell 0
  simp at y0
  refine step_appF1 n2 rfl _ _ rfl b _ (bs.map fnV) (fnV bx) rfl GN.out.row by9 _ rfl y0 rfl hll hbn ?_
  intro g6 c6 n3 ho6 hg6 hl6
  rw [List.length_map, HN.out] at ho6
  have hgA := GN.out.app (x := x) (xs := xs) (fv := Value.slice (some ⟨fb, fo, none⟩) xs.length fc) (by first | exact HFM.out | (rw [hxl]; exact HFM.out)) (by first | exact BY.out | (rw [hxl]; exact BY.out)) HRD.out ho6 hg6 hl6
  have HGA := kide hgA
  have u0 := (bz_of1 GN.out.px GN.out.row (by decide) hg6).cell 0
  have u1 := (bz_of1 GN.out.px GN.out.row (by decide) hg6).froz 0
  simp at u0
  have c0_3 : n3.cell? ⟨b + 1, 0, none⟩ = some (Value.slice va N vc) := u0
  have c1_3 : n3.cell? ⟨b, 0, none⟩ = some (Value.slice (some ⟨ab, ao, none⟩) na ac) := (bz_of1 GN.out.ax GN.out.row (by decide) hg6).cell 0
  have c2_3 : n3.cell? ⟨ab, ao + kid, none⟩ = some (Value.slice (some ⟨fb, fo, none⟩) xn fc) := (World.cell?_of_block (hg6.block ab (by omega) (fun e => by have := (GN.out.row.lt e.symm).1; omega))).trans c2_2
  rw [List.length_map, HN.out]
  clear ho6 hg6 hl6 hgA
  have hs3 : Hid ((fun uu => uu.cell? ⟨b + 1, 0, none⟩ = some (Value.slice va N vc) ∧ uu.cell? ⟨b, 0, none⟩ = some (Value.slice (some ⟨ab, ao, none⟩) na ac) ∧ uu.cell? ⟨ab, ao + kid, none⟩ = some (Value.slice (some ⟨fb, fo, none⟩) xn fc)) n3) := ⟨c0_3, c1_3, c2_3⟩
  refine hK _ _ (Sx.before (by kernel_rfl) hs3.out) ?_
  clear hK K
  try go_simp
  refine rdX (rs := [8]) (AllX.cons rfl (fun K hK => ?_) AllX.nil)
  go_simp
  refine hK _ _ (Sx.behind (by kernel_rfl) trivial) ?_
  clear hK K
  try go_simp
  refine wpAnyX_done (by kernel_rfl) ?_ _
  refine onlyN_in ?_
  gi_wp2
  obtain ⟨G9, N9, B9, K9, I9⟩ := HGA.out
  exact ⟨((Nz.below hn2.out).trans N9).keeps _, ⟨(hn2.out.mono (by omega)).trans B9, (show _ = _ from G9.kx).trans (show _ = _ from HG.out.kx).symm⟩, ((Ko.refl _ W).below hn2.out).trans K9, _, (by first | exact ⟨_, ⟨_, G9⟩, rfl⟩ | exact ⟨_, _, G9, rfl⟩), fun r hr => (I9 r hr).imp id (fun h9 => Nat.le_trans hn2.out.size h9)⟩
 case done =>
  rintro D xs O W hD hS ⟨v, bs, h, -⟩ hdf
  simp only [] at h
  subst hS
  obtain ⟨N, hN⟩ : ∃ N, bs.length = N := ⟨_, rfl⟩
  have hNk : N = nk := by
   have h9 := h.len
   rw [bwL_len, HNK.out] at h9
   omega
  obtain ⟨va, vc, hv⟩ := h.row.form
  rw [List.length_map, hN] at hv
  subst hv
  obtain ⟨g, rfl⟩ : ∃ g, va = some ⟨g, 0, none⟩ := by
   rcases h.row.2 with ⟨e, h9⟩ | ⟨g, cap, cur, e, -⟩
   ·rw [List.length_map] at h9; omega
   ·cases e; exact ⟨g, rfl⟩
  have f0 := h.px.cell 0
  simp at f0
  have HH := kide h
  have HN := kide hN
  have HDF := kide hdf
  clear h hdf hN
  gi_wp2
  refine ⟨trivial, callsIn_wide.2 (Calls.mono (inTurn_any _ _ _ W) ?_)⟩
  rintro e w6 ⟨rfl, hw6⟩
  gi_wp2
  have KD : (W.alloc (Obj.cells #[.slice (some ⟨g, 0, none⟩) nk vc] 146)).heap[D]? = some (.deferred (some [])) := (Below.heap_alloc _ _ _ (lt_of_block HDF.out)).trans HDF.out
  refine ⟨by simp, .inl ⟨_, _, rfl, run_takeDeferred KD, ?_⟩⟩
  have hcz : Cz W ((W.alloc (Obj.cells #[.slice (some ⟨g, 0, none⟩) nk vc] 146)).putObj D (.deferred none)) := (Cz.below (blA _ _)).trans (Cz.put _ KD rfl)
  have hbz : Bz ((W.alloc (Obj.cells #[.slice (some ⟨g, 0, none⟩) nk vc] 146)).putObj D (.deferred none)) W.heap.size #[.slice (some ⟨g, 0, none⟩) nk vc] 146 := cz_bz (Bz.new W _ _) (Cz.put _ KD rfl)
  have hbw : Below w.heap.size w ((W.alloc (Obj.cells #[.slice (some ⟨g, 0, none⟩) nk vc] 146)).putObj D (.deferred none)) := by
   rw [HB.out]
   have hbW : b ≤ W.heap.size := by have := HH.out.ax.lt; omega
   refine (HH.out.bel.trans (((Below.refl _ W).alloc (Nat.le_refl _) _).mono hbW)).trans ⟨rfl, rfl, rfl, by simp, fun k hk => World.putObj_heap_other (fun e => by omega)⟩
  have hrow := cz_own HH.out.row hcz
  refine ⟨.func (.func 118) #[] #[.pointer (some ⟨W.heap.size, 0, none⟩)], by simp [results, Tryz.results91, go_sem], _, rfl, ?_, hbw⟩
  refine inTurn_of (vs := bs.map fnV) hbz (by rw [List.length_map, HN.out]; exact hNk) hnk2 (by rw [List.length_map, List.length_reverse, HNK.out]) (World.ownsRow.lt hrow g rfl).2 (fun i v hv => ?_) (fun i L v hL hv => ?_)
  ·have hc := World.ownsRow.cells hrow (g := g) rfl i v hv
   rw [Addr.add_lit] at hc
   simpa using hc
  ·rw [List.getElem?_map] at hL hv
   have hib : i < bs.length := by
    cases hb9 : bs[i]? with
    | none => rw [hb9] at hv; simp at hv
    | some β => exact (List.getElem?_eq_some_iff.1 hb9).1
   have hbi : bs[i]? = some (bs[i]'hib) := List.getElem?_eq_getElem _
   have hki : i < ks.length := by rw [HNK.out, ← hNk, ← HN.out]; exact hib
   have hxi := bwL_at ks hki
   obtain ⟨fv, xs, h1, h2⟩ := HH.out.at' i _ _ hbi hxi
   have e1 : ks.reverse[i]? = some (ks.getD (ks.length - 1 - i) 0) := by
    rw [List.getElem?_reverse hki]
    have : ks.length - 1 - i < ks.length := by omega
    simp [List.getD, this]
   rw [e1] at hL
   obtain rfl := Option.some.inj hL
   rw [hbi] at hv
   obtain rfl := Option.some.inj hv
   exact values_of (h1.later hbw) (cz_bz h2 hcz)
 case stop => exact fun D pre W _ _ h _ => h.elim
open Go.RowKit Go.Shelf
theorem mask32 (y : Nat) (h : y < 4294967296) : bits BinOp.and IntKind.u64 (y : Int) 4294967295 = (y : Int) := by
  have h9 := andMask y 32 (by omega)
  rw [show (18446744073709551615 : Int) / 2 ^ 32 = 4294967295 by decide, show (18446744073709551615 : Nat) / 2 ^ 32 = 2 ^ 32 - 1 by decide, Nat.and_two_pow_sub_one_eq_mod] at h9
  rw [h9, Nat.mod_eq_of_lt h]
set_option maxHeartbeats 1000000 in
set_option maxRecDepth 100000 in
theorem mul64_one (A : Nat) (w : World) (hA2 : A ≤ 4096) :
    Calls Tryz.prog 126 #[.int .u64 1, .int .u64 (A : Int)] w fun e w' => e = .returned (.tuple #[.int .u64 0, .int .u64 (A : Int)]) ∧ w' = w := by
  have a1 : bits BinOp.and IntKind.u64 1 4294967295 = 1 := mask32 1 (by omega)
  have a2 : bits BinOp.and IntKind.u64 (A : Int) 4294967295 = (A : Int) := mask32 A (by omega)
  have a3 : (A : Int) / 4294967296 = 0 := by omega
  have a4 : bits BinOp.and IntKind.u64 0 4294967295 = 0 := mask32 0 (by omega)
  have a5 : IntKind.u64.wrap (A : Int) = (A : Int) := by rw [IntKind.wrap_u64]; omega
  go_enter Tryz.func126, Tryz.ntmps126
  go_wp2_with fail
  exact bodyPost_ret (v := .tuple #[.int .u64 0, .int .u64 (A : Int)]) (by simp [results, Tryz.results126, go_sem]) rfl ⟨rfl, rfl⟩
set_option maxHeartbeats 1000000 in
set_option maxRecDepth 100000 in
theorem mul_one' (A : Nat) (w : World) (hA2 : A ≤ 4096) :
    Calls Tryz.prog 120 #[.int .u64 1, .int .u64 (A : Int)] w fun e w' => e = .returned (.tuple #[.int .u64 0, .int .u64 (A : Int)]) ∧ w' = w := by
  go_enter Tryz.func120, Tryz.ntmps120
  go_wp2_with fail
  refine Calls.mono (mul64_one A w hA2) ?_
  rintro e w' ⟨rfl, hw'⟩
  obtain rfl := hw'.symm
  go_wp2_with fail
  exact bodyPost_ret (v := .tuple #[.int .u64 0, .int .u64 (A : Int)]) (by simp [results, Tryz.results120, go_sem]) rfl ⟨rfl, rfl⟩
theorem make_sqs (n : Nat) (hn : n ≤ 1048576) (kl kc : IntKind) (w : World) :
    (Instr.makeSlice 146 (.int kl (n : Int)) (.int kc (n : Int))).run Tryz.prog w = .ok (.slice (some ⟨w.heap.size, 0, none⟩) n n) (w.alloc (.cells (madeCells #[.nilFunc] n) 108)) := by
  obtain ⟨i0, hi, hz0, hz1, hz2⟩ := info_parts Tryz.infoSq
  have := run_make (P := Tryz.prog) w 146 108 i0 _ Tryz.underlying146 hi hz0 kl kc n n (by omega) (Int.le_refl _) (by rw [hz2]; omega) (by omega)
  rw [hz1, Nat.mul_one] at this
  simp only [Int.toNat_natCast] at this
  exact this
theorem Tryz.sizeSq : (Tryz.prog.info? 108).map (·.size) = some 1 := by kernel_rfl
def Rp (w : World) (G A n : Nat) (y : Value) : Prop := ∃ cur : Array Value, w.heap[G]? = some (.cells cur 108 (0, 0)) ∧ cur.size = A ∧ ∀ i, i < n → cur[i]? = some y
theorem Rp.copy {w : World} {G A n : Nat} {y : Value} (h : Rp w G A n y) (hy : y.oneCell' = true) (hn : n ≤ A) (ty : TypeId) (src : Addr) (k dl dc sc : Nat) {m : Nat} (hk : Nat.min k dl = m) (hm : n + m ≤ A) (hs : ∀ i, i < m → w.cell? (src.add i) = some y) : ∃ w', (Builtin.copy_ #[146, 146] ty #[.slice (some ⟨G, n, none⟩) dl dc, .slice (some src) k sc]).run Tryz.prog w = .ok (.int .i64 (m : Int)) w' ∧ Rp w' G A (n + m) y ∧ w.grownBy w' (some G) := by
  obtain ⟨cur, h1, h2, h3⟩ := h
  have h9 := run_copy_row (P := Tryz.prog) w 146 146 ty 108 G n dl dc src k sc cur 108 (List.replicate m y) Tryz.underlying146 Tryz.sizeSq h1 (by rw [List.length_replicate, hk]) (fun j v hj => by
    have hj2 := (List.getElem?_eq_some_iff.1 hj).1
    rw [List.length_replicate] at hj2
    rw [List.getElem?_replicate, if_pos hj2] at hj
    cases hj
    exact hs j hj2) (by rw [List.length_replicate, h2]; exact hm) (fun v hv => by rw [(List.mem_replicate.1 hv).2]; exact hy)
  rw [List.length_replicate] at h9
  refine ⟨_, h9, ?_, ?_⟩
  · refine ⟨_, setRow_heap w G cur _ _ _ h1, by simp [h2]; omega, fun i hi => ?_⟩
    rw [List.getElem?_toArray, List.append_assoc]
    have hl : (cur.toList.take n).length = n := by rw [List.length_take, Array.length_toList, h2]; omega
    by_cases hin : i < n
    · rw [List.getElem?_append_left (by omega), List.getElem?_take, if_pos hin, Array.getElem?_toList]
      exact h3 i hin
    · rw [List.getElem?_append_right (by omega), hl, List.getElem?_append_left (by rw [List.length_replicate]; omega), List.getElem?_replicate, if_pos (by omega)]
  · exact ⟨rfl, rfl, rfl, by rw [size_setRow]; exact Nat.le_refl _, fun k hk hne => setRow_other w G k _ (fun e => hne (by rw [e]))⟩
set_option maxHeartbeats 1000000 in
set_option maxRecDepth 100000 in
theorem repeat_any (g c A : Nat) (y : Value) (w : World) (hA : 1 ≤ A) (hA2 : A ≤ 4096) (hy : y.oneCell' = true) (h0 : w.cell? ⟨g, 0, none⟩ = some y) :
    Calls Tryz.prog 99 #[.slice (some ⟨g, 0, none⟩) 1 c, .int .i64 (A : Int)] w fun e w' => ∃ g', e = .returned (.slice (some ⟨g', 0, none⟩) A A) ∧ (∀ i, i < A → w'.cell? ⟨g', i, none⟩ = some y) ∧ Below w.heap.size w w' := by
  have q0 : ¬ (A : Int) < 0 := by omega
  go_enter Tryz.func99, Tryz.ntmps99
  go_wp2_with fail
  refine Calls.mono (mul_one' A w hA2) ?_
  rintro e w' ⟨rfl, hw'⟩
  obtain rfl := hw'.symm
  clear hw'
  have q1 : ¬ (A : Int) > 9223372036854775807 := by omega
  have q2 : IntKind.i64.wrap (A : Int) = (A : Int) := by rw [IntKind.wrap_i64]; omega
  have hmk := make_sqs A (by omega)
  obtain ⟨w1, hw1⟩ : ∃ w1, w.alloc (.cells (madeCells #[.nilFunc] A) 108) = w1 := ⟨_, rfl⟩
  obtain ⟨G, hG⟩ : ∃ G, w.heap.size = G := ⟨_, rfl⟩
  have hb1 : Below w.heap.size w w1 := by rw [← hw1]; exact blA _ _
  have r0 : Rp w1 G A 0 y := ⟨_, by rw [← hw1, ← hG]; exact heap_alloc_new w _, by rw [size_madeCells], fun i h => by omega⟩
  have hgl := block_lt_of_cell h0
  obtain ⟨w2, hcp, r1, hg2⟩ := r0.copy hy (Nat.zero_le _) 3 ⟨g, 0, none⟩ 1 A A c (m := 1) (by simp [Nat.min_def]; omega) (by omega) (fun i hi => by
    have : i = 0 := by omega
    subst this
    exact (hb1.cell (p := ⟨g, 0, none⟩) hgl).trans h0)
  rw [Nat.zero_add] at r1
  have hb2 : Below w.heap.size w w2 := hb1.trans ⟨hg2.os, hg2.tape, hg2.output, hg2.size, fun k hk => hg2.block k (Nat.lt_of_lt_of_le hk hb1.size) (fun e => by cases e; omega)⟩
  have R1 := kide r1
  have B2 := kide hb2
  have HG := kide hG
  clear r0 r1 hg2 hb1 hb2
  go_wp2_with fail
  clear hcp hmk hw1 h0 hG
  go_loopw [8] (fun i wr => ∃ n : Nat, 1 ≤ n ∧ n ≤ A ∧ i = .int .i64 (n : Int) ∧ Rp wr G A n y ∧ Below w.heap.size w wr) (fun i _ => A - (intOf i).toNat)
  case atStart => exact ⟨1, Nat.le_refl _, hA, rfl, R1.out, B2.out⟩
  case round =>
    obtain ⟨n, hn1, hn2, rfl, hr, hb⟩ := hrel
    by_cases hlt : n < A
    · obtain ⟨m, hm⟩ : ∃ m, Nat.min n (A - n) = m := ⟨_, rfl⟩
      have hmb : 1 ≤ m ∧ n + m ≤ A := by rw [← hm]; simp only [Nat.min_def]; split <;> omega
      have hr' : Rp wr.drew G A n y := hr
      obtain ⟨cur, hc1, hc2, hc3⟩ := hr
      obtain ⟨w3, hcp, r3, hg3⟩ := hr'.copy hy hn2 3 ⟨G, 0, none⟩ n (A - n) (A - n) A (m := m) hm hmb.2 (fun i hi => by
        rw [Addr.add_lit, Nat.zero_add]
        show wr.cell? _ = _
        rw [cell_of_row wr G i cur _ _ hc1]
        exact hc3 i (by have : m ≤ n := by rw [← hm]; exact Nat.min_le_left _ _
                        omega))
      have hb3 : Below w.heap.size w w3 := (hb.drew).trans ⟨hg3.os, hg3.tape, hg3.output, hg3.size, fun k hk => hg3.block k (Nat.lt_of_lt_of_le hk hb.size) (fun e => by cases e; have := HG.out; omega)⟩
      have R3 := kide r3
      have B3 := kide hb3
      have hnA : (n : Int) < (A : Int) := by omega
      have hn0 : (n : Int) ≥ 0 := by omega
      have hnA2 : (n : Int) ≤ (A : Int) := by omega
      have hw9 : IntKind.i64.wrap ((n : Int) + (m : Int)) = ((n + m : Nat) : Int) := by rw [IntKind.wrap_i64]; omega
      clear hr' hc1 hc2 hc3 r3 hg3 hb3 hb hm
      go_wp2_with fail
      go_region
      go_wp2_with fail
      go_roundw
      case rel => exact ⟨n + m, by omega, hmb.2, rfl, R3.out, B3.out⟩
      case measure => simp only [intOf]; omega
    · obtain rfl : n = A := by omega
      obtain ⟨cur, hc1, hc2, hc3⟩ := hr
      have hcell : ∀ i, i < n → wr.cell? ⟨G, i, none⟩ = some y := fun i hi => by rw [cell_of_row wr G i cur _ _ hc1]; exact hc3 i hi
      have HCL := kide hcell
      have B9 := kide hb
      clear hc1 hc2 hc3 hcell hb
      go_wp2_with fail
      exact bodyPost_ret (v := .slice (some ⟨G, 0, none⟩) n n) (by simp [results, Tryz.results99, go_sem]) rfl ⟨G, rfl, HCL.out, B9.out⟩
open Go.RowKit Go.Shelf
set_option maxHeartbeats 1000000 in
theorem highest_any {v : Value} {F : List Sc} {xs : List Sg} {w : World} (h : Fm w v F xs) :
  Calls Tryz.prog 97 #[v] w fun e w' => ∃ y : Sg, e = .returned (sgV y) ∧ y.ct = cutS (lastS F) ((lastS F).wd.toNat - 1) 1 ∧ AtS w'.heap.size w' y ∧ in64 y.ct.v ∧ Below w.heap.size w w' := by
 obtain ⟨fb, fo, c, rfl, h2, h3⟩ := h.pl
 obtain ⟨N, hN⟩ : ∃ N, xs.length = N + 1 := ⟨xs.length - 1, by have := h.n1; omega⟩
 obtain ⟨x, hx⟩ : ∃ x, xs[N]? = some x := ⟨xs[N]'(by omega), List.getElem?_eq_getElem _⟩
 have hm := List.mem_of_getElem? hx
 have hl : lastS F = x.ct := by
  rw [← h.ct]
  unfold lastS
  rw [List.length_map, hN, Nat.add_sub_cancel]
  simp [List.getD, hx]
 rw [hl]
 have hA := h.at' x hm
 have hw1 := hA.ok.1
 have hw2 := hA.ok.2.1
 obtain ⟨D, hD⟩ : ∃ D : Nat, x.ct.wd = ((D + 1 : Nat) : Int) := ⟨x.ct.wd.toNat - 1, by omega⟩
 obtain ⟨p0, p1, p2, p3, p4⟩ := h3 N x hx
 simp only [Sg.hd] at p0 p1 p2 p3 p4
 have HSP := kide (fun u (hu : Below w.heap.size w u) => segPart_any x D 1 u hA.ok hA.lo (by omega) (by omega) (hA.rd.later hu) hA.no (fun q hq => Nat.lt_of_lt_of_le (hA.pl q hq) hu.size))
 have HA := kide hA
 have HV := kide (h.v64 x hm)
 have hn2 := h.n2
 have e1 : x.ct.wd.toNat - 1 = D := by rw [hD, Int.toNat_natCast]; omega
 rw [e1]
 rw [hN] at hn2 ⊢
 have q1 : IntKind.i64.wrap (((N + 1 : Nat) : Int) - 1) = (N : Int) := by rw [IntKind.wrap_i64]; omega
 have q2 : (N : Int) < ((N + 1 : Nat) : Int) := by omega
 have q3 : (N : Int) ≥ 0 := by omega
 have q4 : IntKind.i64.wrap (x.ct.wd - 1) = (D : Int) := by rw [IntKind.wrap_i64]; omega
 have HD : Hid ((D : Int) + 1 = x.ct.wd) := by show _ = _; omega
 obtain ⟨E, hE⟩ : ∃ E, x.ct.wd = E := ⟨_, rfl⟩
 rw [hE] at p2 HSP q4
 have BA : Hid (Below w.heap.size w ((w.alloc (Obj.cells #[.int .i64 0, .int .i64 0, .int .i64 0, .int .i64 0, .slice none 0 0] 73)).alloc (Obj.cells #[.int .i64 x.ct.v, .int .i64 x.ct.lo, .int .i64 E, .int .i64 x.ct.bw, .slice x.a x.ct.ws.length x.c] 73))) := (blA _ _).alloc (by simp) _
 have XR : Hid (Bz ((w.alloc (Obj.cells #[.int .i64 0, .int .i64 0, .int .i64 0, .int .i64 0, .slice none 0 0] 73)).alloc (Obj.cells #[.int .i64 x.ct.v, .int .i64 x.ct.lo, .int .i64 E, .int .i64 x.ct.bw, .slice x.a x.ct.ws.length x.c] 73)) w.heap.size #[.int .i64 0, .int .i64 0, .int .i64 0, .int .i64 0, .slice none 0 0] 73) := (Bz.new w _ _).later (blA _ _)
 clear hA hx hm h hl e1 hD h3 hN hE hw1 hw2
 go_enter Tryz.func97, Tryz.ntmps97
 go_wp2_with fail
 refine Calls.mono (HSP.out _ BA.out) ?_
 rintro e V3 ⟨a9, c9, rfl, hr9, hn9, hq9, hb9⟩
 obtain ⟨y, hyc, hya, hyd⟩ : ∃ y : Sg, y.ct = cutS x.ct D 1 ∧ y.a = a9 ∧ y.c = c9 := ⟨⟨_, a9, c9⟩, rfl, rfl, rfl⟩
 subst hya hyd
 have eY : sgV ⟨cutS x.ct D 1, y.a, y.c⟩ = sgV y := by rw [← hyc]
 rw [← hyc] at hr9
 have B3 := kide (BA.out.trans (hb9.mono BA.out.size))
 have XR9 := kide (XR.out.later hb9)
 have R9 := kide hr9
 have N9 := kide hn9
 have Q9 : Hid (∀ q, y.a = some q → q.block < V3.heap.size ∧ q.block ≠ w.heap.size) := fun q hq => by
  have h8 := hq9 q hq
  refine ⟨h8.2, fun e => ?_⟩
  rcases h8.1 with h7 | h7
  ·have := HA.out.pl q h7; omega
  ·have h6 := BA.out.size; have h5 := XR.out.lt; omega
 have YC := kide hyc
 have y0 := XR9.out.cell 0
 have y1 := XR9.out.cell 1
 have y2 := XR9.out.cell 2
 have y3 := XR9.out.cell 3
 have y4 := XR9.out.cell 4
 have z0 := XR9.out.froz 0
 have z1 := XR9.out.froz 1
 have z2 := XR9.out.froz 2
 have z3 := XR9.out.froz 3
 have z4 := XR9.out.froz 4
 simp at y0 y1 y2 y3 y4
 rw [eY]
 unfold sgV
 have Y9 : Hid (Bz (((((V3.setCell ⟨w.heap.size, 0, none⟩ (Value.int .i64 y.ct.v)).setCell ⟨w.heap.size, 1, none⟩ (Value.int .i64 y.ct.lo)).setCell ⟨w.heap.size, 2, none⟩ (Value.int .i64 y.ct.wd)).setCell ⟨w.heap.size, 3, none⟩ (Value.int .i64 y.ct.bw)).setCell ⟨w.heap.size, 4, none⟩ (Value.slice y.a y.ct.ws.length y.c)) w.heap.size #[.int .i64 y.ct.v, .int .i64 y.ct.lo, .int .i64 y.ct.wd, .int .i64 y.ct.bw, .slice y.a y.ct.ws.length y.c] 73) := (((((XR9.out.set 0 _).set 1 _).set 2 _).set 3 _).set 4 _)
 have BZ : Hid (Below w.heap.size w (((((V3.setCell ⟨w.heap.size, 0, none⟩ (Value.int .i64 y.ct.v)).setCell ⟨w.heap.size, 1, none⟩ (Value.int .i64 y.ct.lo)).setCell ⟨w.heap.size, 2, none⟩ (Value.int .i64 y.ct.wd)).setCell ⟨w.heap.size, 3, none⟩ (Value.int .i64 y.ct.bw)).setCell ⟨w.heap.size, 4, none⟩ (Value.slice y.a y.ct.ws.length y.c))) := (((((B3.out.setCell (p := ⟨w.heap.size, 0, none⟩) (Nat.le_refl _) _).setCell (p := ⟨w.heap.size, 1, none⟩) (Nat.le_refl _) _).setCell (p := ⟨w.heap.size, 2, none⟩) (Nat.le_refl _) _).setCell (p := ⟨w.heap.size, 3, none⟩) (Nat.le_refl _) _).setCell (p := ⟨w.heap.size, 4, none⟩) (Nat.le_refl _) _)
 have GZ : Hid (V3.grownBy (((((V3.setCell ⟨w.heap.size, 0, none⟩ (Value.int .i64 y.ct.v)).setCell ⟨w.heap.size, 1, none⟩ (Value.int .i64 y.ct.lo)).setCell ⟨w.heap.size, 2, none⟩ (Value.int .i64 y.ct.wd)).setCell ⟨w.heap.size, 3, none⟩ (Value.int .i64 y.ct.bw)).setCell ⟨w.heap.size, 4, none⟩ (Value.slice y.a y.ct.ws.length y.c)) (some w.heap.size)) := ⟨rfl, rfl, rfl, by simp, fun k hk hne => by
  have h9 : k ≠ w.heap.size := fun e => hne (by rw [e])
  rw [heap_setCell_other _ _ _ _ (by simpa using h9), heap_setCell_other _ _ _ _ (by simpa using h9), heap_setCell_other _ _ _ _ (by simpa using h9), heap_setCell_other _ _ _ _ (by simpa using h9), heap_setCell_other _ _ _ _ (by simpa using h9)]⟩
 have RZ := kide (rd_gr R9.out GZ.out (fun q hq e => (Q9.out q hq).2 (Option.some.inj e).symm))
 clear hr9 hn9 hq9 hb9 hyc eY
 go_wp2_with fail
 generalize (((((V3.setCell ⟨w.heap.size, 0, none⟩ (Value.int .i64 y.ct.v)).setCell ⟨w.heap.size, 1, none⟩ (Value.int .i64 y.ct.lo)).setCell ⟨w.heap.size, 2, none⟩ (Value.int .i64 y.ct.wd)).setCell ⟨w.heap.size, 3, none⟩ (Value.int .i64 y.ct.bw)).setCell ⟨w.heap.size, 4, none⟩ (Value.slice y.a y.ct.ws.length y.c)) = Z at *
 have x0 := Y9.out.cell 0
 have x1 := Y9.out.cell 1
 have x2 := Y9.out.cell 2
 have x3 := Y9.out.cell 3
 have x4 := Y9.out.cell 4
 simp at x0 x1 x2 x3 x4
 refine bodyPost_ret (v := .agg #[.int .i64 y.ct.v, .int .i64 y.ct.lo, .int .i64 y.ct.wd, .int .i64 y.ct.bw, .slice y.a y.ct.ws.length y.c]) (by simp [results, Tryz.results97, go_sem, x0, x1, x2, x3, x4]) rfl ⟨y, rfl, YC.out, ⟨?_, ?_, RZ.out, N9.out, fun q hq => Nat.lt_of_lt_of_le (Q9.out q hq).1 GZ.out.size⟩, ?_, BZ.out⟩
 ·rw [YC.out]; exact cutS_ok HA.out.ok (by omega) (by have := HD.out; omega)
 ·rw [YC.out, cutS_wd]
  have h8 := HA.out.lo
  have h7 := HD.out
  unfold cutS
  split
  ·exact ⟨h8.1, by omega⟩
  ·split
   ·simp
   ·simp only []; omega
 ·rw [YC.out]
  unfold cutS
  split
  ·exact HV.out
  ·split
   ·unfold in64; simp
   ·exact HV.out
set_option maxHeartbeats 1000000 in
theorem turned_it {v : Value} {F : List Sc} {xs : List Sg} {w : World} {W k : Nat} (h : Fm w v F xs) (hs : sumS F = (W : Int)) (hW : W ≤ 4096) (hk : k ≤ W) :
  Calls Tryz.prog 98 #[v, .int .i64 (W : Int), .int .i64 (k : Int)] w (RetIt (betS (W - k) W 0 F ++ betS 0 (W - k) 0 F) w) := by
 have HB1 := kide (fun u (hu : Below w.heap.size w u) => between_it (lo := W - k) (en := W) (h.later hu) (by omega) (by omega) (by omega))
 have HB2 := kide (fun u (hu : Below w.heap.size w u) => between_it (lo := 0) (en := W - k) (h.later hu) (by omega) (by omega) (by omega))
 have q1 : IntKind.i64.wrap ((W : Int) - (k : Int)) = ((W - k : Nat) : Int) := by rw [IntKind.wrap_i64]; omega
 clear h
 go_enter Tryz.func98, Tryz.ntmps98
 go_wp2_with fail
 refine Calls.mono (HB1.out w (Below.refl _ _)) ?_
 rintro e w1 ⟨v1, rfl, hi1, hb1⟩
 obtain ⟨g1, lb1, rfl, -⟩ := id hi1.is
 have I1 := kide hi1
 have B1 := kide hb1
 clear hi1 hb1
 go_wp2_with fail
 refine Calls.mono (HB2.out w1 B1.out) ?_
 rintro e w2 ⟨v2, rfl, hi2, hb2⟩
 obtain ⟨g2, lb2, rfl, -⟩ := id hi2.is
 have hb3 : Below w2.heap.size w2 (w2.alloc (Obj.cells #[.func (.func g1) #[] lb1, .func (.func g2) #[] lb2] 108)) := blA _ _
 have I1' := kide ((I1.out.later hb2).later hb3)
 have I2' := kide (hi2.later hb3)
 have B2 := kide ((B1.out.trans (hb2.mono B1.out.size)).trans (hb3.mono (Nat.le_trans B1.out.size hb2.size)))
 have X2 := kide (Bz.new w2 #[.func (.func g1) #[] lb1, .func (.func g2) #[] lb2] 108)
 clear hi2 hb2 hb3
 go_wp2_with fail
 refine Calls.mono (inTurn_it (Ls := [betS (W - k) W 0 F, betS 0 (W - k) 0 F]) (vs := [.func (.func g1) #[] lb1, .func (.func g2) #[] lb2]) rfl (by omega) rfl X2.out.lt (fun i v hv => ?_) (fun i L v hL hv => ?_)) ?_
 ·match i, hv with
  | 0, hv => simp at hv; subst hv; exact X2.out.cell 0
  | 1, hv => simp at hv; subst hv; exact X2.out.cell 1
  | i + 2, hv => simp at hv
 ·match i, hL, hv with
  | 0, hL, hv => simp at hL hv; subst hL hv; exact I1'.out
  | 1, hL, hv => simp at hL hv; subst hL hv; exact I2'.out
  | i + 2, hL, hv => simp at hv
 ·rintro e w4 ⟨v4, rfl, hi4, hb4⟩
  have I4 := kide hi4
  have B4 := kide (B2.out.trans (hb4.mono B2.out.size))
  clear hi4 hb4
  go_wp2_with fail
  refine bodyPost_ret (v := v4) (by simp [results, Tryz.results98, go_sem]) rfl ⟨v4, rfl, ?_, B4.out⟩
  have h9 := I4.out
  simpa using h9
def Dj (l : List Sg) : Prop := ∀ (i j : Nat) (x y : Sg), i < j → l[i]? = some x → l[j]? = some y → ∀ p q, x.a = some p → y.a = some q → p.block ≠ q.block
theorem Dj.nil : Dj [] := fun i j x y _ h => by simp at h
theorem Dj.snoc {N : Nat} {l : List Sg} {x : Sg} (h : Dj l) (hl : ∀ y ∈ l, ∀ p, y.a = some p → p.block < N) (hx : ∀ p, x.a = some p → N ≤ p.block) : Dj (l ++ [x]) := fun i j y z hij hi hj p q hp hq => by
 have hjl := (List.getElem?_eq_some_iff.1 hj).1
 simp at hjl
 by_cases e : j = l.length
 ·subst e
  rw [List.getElem?_append_left (by omega)] at hi
  simp at hj
  subst hj
  have := hl y (List.mem_of_getElem? hi) p hp
  have := hx q hq
  omega
 ·rw [List.getElem?_append_left (by omega)] at hi hj
  exact h i j y z hij hi hj p q hp hq
theorem os5_mid {w : World} {B g n c M : Nat} {k t : List Sg} {y : Sg} (h : OS5 w B (.slice (some ⟨g, 0, none⟩) n c) (k ++ y :: t)) (hM : k.length = M) :
  w.cell? ⟨g, M * 5, none⟩ = some (.int .i64 y.ct.v) ∧ w.cell? ⟨g, M * 5 + 1, none⟩ = some (.int .i64 y.ct.lo) ∧ w.cell? ⟨g, M * 5 + 2, none⟩ = some (.int .i64 y.ct.wd) ∧ w.cell? ⟨g, M * 5 + 3, none⟩ = some (.int .i64 y.ct.bw) ∧ w.cell? ⟨g, M * 5 + 4, none⟩ = some (.slice y.a y.ct.ws.length y.c) := by
 have key : ∀ (j : Nat) (u : Value), (sgc [y])[j]? = some u → w.cell? ⟨g, M * 5 + j, none⟩ = some u := fun j u hj => by
  have hl : (sgc k).length = M * 5 := by rw [sgc_len, hM]
  have hj5 : j < (sgc [y]).length := (List.getElem?_eq_some_iff.1 hj).1
  have hc := World.ownsRow.cells h (g := g) rfl (M * 5 + j) u (by rw [sgc_append, List.getElem?_append_right (by omega), hl, Nat.add_sub_cancel_left, show y :: t = [y] ++ t from rfl, sgc_append, List.getElem?_append_left hj5]; exact hj)
  rw [Addr.add_lit] at hc
  simpa using hc
 exact ⟨key 0 _ rfl, key 1 _ rfl, key 2 _ rfl, key 3 _ rfl, key 4 _ rfl⟩
theorem os5_put2i {w : World} {B g n c M : Nat} {k t : List Sg} {y z : Sg} (h : OS5 w B (.slice (some ⟨g, 0, none⟩) n c) (k ++ y :: t)) (hM : k.length = M) (hz : z.ct = y.ct) : OS5 (put2 w g (M * 5) z) B (.slice (some ⟨g, 0, none⟩) n c) (k ++ z :: t) ∧ w.grownBy (put2 w g (M * 5) z) (some g) := by
 obtain ⟨a, c', e⟩ := h.form
 cases e
 have s1 := World.ownsRow.stored h (M * 5 + 3) (.int .i64 z.ct.bw)
 have s2 := World.ownsRow.stored s1.1 (M * 5 + 4) (.slice z.a z.ct.ws.length z.c)
 refine ⟨?_, grown_same s1.2 s2.2⟩
 have hl : (sgc k).length = M * 5 := by rw [sgc_len, hM]
 have e : sgc (k ++ z :: t) = ((sgc (k ++ y :: t)).set (M * 5 + 3) (.int .i64 z.ct.bw)).set (M * 5 + 4) (.slice z.a z.ct.ws.length z.c) := by
  rw [sgc_append, sgc_append]
  simp [sgc, List.set_append, hl, hz]
 have h9 := s2.1
 unfold OS5
 rw [e, show (k ++ z :: t).length = (k ++ y :: t).length by simp]
 exact h9
theorem nw_gr {w w' : World} {lo : Nat} {a : Option Addr} {xs : List Nat} {r : Option Nat} (h : Nw w lo a xs) (hg : w.grownBy w' r) (hr : ∀ j, r = some j → j < lo) : Nw w' lo a xs := by
 have key : ∀ b, lo ≤ b → b < w.heap.size → w'.heap[b]? = w.heap[b]? := fun b h1 h2 => hg.block b h2 (fun e => by have := hr b e.symm; omega)
 rcases h with ⟨h1, h2⟩ | ⟨g, cur, h1, h2, h3, h4⟩
 ·exact .inl ⟨h1, fun x hx => by
   obtain ⟨k1, k2, cur, k3⟩ := h2 x hx
   exact ⟨k1, k2, cur, by rw [key _ k1 (lt_of_block k3)]; exact k3⟩⟩
 ·exact .inr ⟨g, cur, h1, h2, by rw [key _ h2 (lt_of_block h3)]; exact h3, h4⟩

structure Fh (w : World) (B : Nat) (v : Value) (l : List Sg) (k : Nat) (m : List Sg) (wr : World) : Prop where
 row : OS5 wr B v (m ++ l.drop k)
 ct : m.map Sg.ct = (l.take k).map Sg.ct
 len : m.length = k
 nw : ∀ x ∈ m, Nw wr w.heap.size x.a x.ct.ws
 dj : Dj m
 no : ∀ x ∈ m, x.a = none → x.c = 0
 gr : w.grownBy wr v.ownBlock
def RetFr (v : Value) (ok : Bool) (B : Nat) (l : List Sg) (w : World) (e : Ending) (w' : World) : Prop := e = .returned (.tuple #[v, .bool ok]) ∧ ∃ m, Fh w B v l l.length m w'
set_option maxHeartbeats 2000000 in
set_option maxRecDepth 100000 in
theorem fresh_any (va : Option Addr) (N vc B : Nat) (ok : Bool) (l : List Sg) (w : World) (hrow : OS5 w B (.slice va N vc) l) (hN : l.length = N) (hN2 : N ≤ 2000) (hB : B ≤ w.heap.size) (hrd : ∀ x ∈ l, Rd w x.a x.ct.ws) (hno : ∀ x ∈ l, x.a = none → x.c = 0) (hne : ∀ x ∈ l, ∀ p, x.a = some p → (Value.slice va N vc).ownBlock ≠ some p.block) :
  Calls Tryz.prog 36 #[.slice va N vc, .bool ok] w (RetFr (.slice va N vc) ok B l w) := by
 have HROW := kide hrow
 have HN := kide hN
 have HRD := kide hrd
 have HNO := kide hno
 have HNE := kide hne
 clear hrow hN hrd hno hne
 go_enter Tryz.func36, Tryz.ntmps36
 go_wp2_with fail
 have H0 : Hid (Fh w B (.slice va N vc) l 0 [] w) := ⟨HROW.out, rfl, rfl, fun x hx => by (cases hx), Dj.nil, fun x hx => by (cases hx), ⟨rfl, rfl, rfl, Nat.le_refl _, fun _ _ _ => rfl⟩⟩
 go_loopw [10] (fun i wr => ∃ (k : Nat) (m : List Sg), k ≤ N ∧ i = .int .i64 (k : Int) ∧ Fh w B (.slice va N vc) l k m wr) (fun i _ => N - (intOf i).toNat)
 case atStart => exact ⟨0, [], Nat.zero_le _, rfl, H0.out⟩
 case round =>
  obtain ⟨k, m, hk, rfl, hf⟩ := hrel
  have HF := kide hf
  by_cases hlt : k < N
  ·obtain ⟨x, hx⟩ : ∃ x, l[k]? = some x := ⟨l[k]'(by rw [HN.out]; exact hlt), List.getElem?_eq_getElem _⟩
   have hdr : l.drop k = x :: l.drop (k + 1) := by
    have h9 := List.getElem?_eq_some_iff.1 hx
    rw [← h9.2, List.drop_eq_getElem_cons h9.1]
   have hrow := hf.row
   rw [hdr] at hrow
   obtain ⟨g, rfl⟩ : ∃ g, va = some ⟨g, 0, none⟩ := by
    rcases hrow.2 with ⟨e, h9⟩ | ⟨g, cap, cur, e, -⟩
    ·simp at h9
    ·cases e; exact ⟨g, rfl⟩
   obtain ⟨c0, c1, c2, c3, c4⟩ := os5_mid hrow hf.len
   have hmem := List.mem_of_getElem? hx
   have hrr : Rd wr x.a x.ct.ws := rd_gr (HRD.out x hmem) hf.gr (HNE.out x hmem)
   have lg := (hrow.lt (b := g) rfl).2
   have lg0 := (HROW.out.lt (b := g) rfl).2
   have BA : Hid (Below wr.heap.size wr (wr.alloc (Obj.cells #[.int .i64 x.ct.v, .int .i64 x.ct.lo, .int .i64 x.ct.wd, .int .i64 x.ct.bw, .slice x.a x.ct.ws.length x.c] 73))) := blA _ _
   have HCP := kide (fun u (hu : Below wr.heap.size wr u) => copyO x.ct.bw x.a x.c x.ct.ws.length x.ct.ws u (hrr.later hu) rfl (HNO.out x hmem))
   have HROW2 := kide hrow
   have hkN : (k : Int) < (N : Int) := by omega
   have hk0 : (k : Int) ≥ 0 := by omega
   have hkw : IntKind.i64.wrap ((k : Int) + 1) = (k : Int) + 1 := by rw [IntKind.wrap_i64]; omega
   have HDR := kide hdr
   have HX := kide hx
   clear hx hdr hf hrow hmem hrr
   go_wp2_with fail
   refine Calls.mono (HCP.out _ BA.out) ?_
   rintro e V ⟨a2, c2', rfl, ho2, hb2⟩
   have b2 := BA.out.trans (hb2.mono BA.out.size)
   have hrV := HROW2.out.later b2
   obtain ⟨k0, k1, k2, k3, k4⟩ := os5_mid hrV HF.out.len
   obtain ⟨cur9, hcur9⟩ := hrV.typed (b := g) rfl
   have z3 := frozen_of_row V g (k * 5 + 3) cur9 _ hcur9
   have z4 := frozen_of_row V g (k * 5 + 4) cur9 _ hcur9
   obtain ⟨Y, hYc, hYa, hYd⟩ : ∃ Y : Sg, Y.ct = x.ct ∧ Y.a = a2 ∧ Y.c = c2' := ⟨⟨x.ct, a2, c2'⟩, rfl, rfl, rfl⟩
   subst hYa hYd
   have hU : (V.setCell ⟨g, k * 5 + 3, none⟩ (Value.int .i64 x.ct.bw)).setCell ⟨g, k * 5 + 4, none⟩ (Value.slice Y.a x.ct.ws.length Y.c) = put2 V g (k * 5) Y := by unfold put2; rw [hYc]
   obtain ⟨P1, P2⟩ := os5_put2i hrV HF.out.len hYc
   have hg1 : w.grownBy V (some g) := ⟨b2.os.trans HF.out.gr.os, b2.tape.trans HF.out.gr.tape, b2.output.trans HF.out.gr.output, Nat.le_trans HF.out.gr.size b2.size, fun j hj hn => (b2.block j (Nat.lt_of_lt_of_le hj HF.out.gr.size)).trans (HF.out.gr.block j hj hn)⟩
   have hlow : w.heap.size ≤ (wr.alloc (Obj.cells #[.int .i64 x.ct.v, .int .i64 x.ct.lo, .int .i64 x.ct.wd, .int .i64 x.ct.bw, .slice x.a x.ct.ws.length x.c] 73)).heap.size := Nat.le_trans HF.out.gr.size BA.out.size
   have hnY : Nw V (wr.alloc (Obj.cells #[.int .i64 x.ct.v, .int .i64 x.ct.lo, .int .i64 x.ct.wd, .int .i64 x.ct.bw, .slice x.a x.ct.ws.length x.c] 73)).heap.size Y.a x.ct.ws := by
    obtain ⟨a9, c9, e9, h9⟩ := ho2.shape
    cases e9
    exact h9
   have hnoY : Y.a = none → Y.c = 0 := fun e9 => by
    rcases ho2.2 with ⟨e8, -⟩ | ⟨g9, cap9, cur9, e8, -⟩
    ·exact (Value.slice.inj e8).2.2
    ·have := (Value.slice.inj e8).1
     rw [e9] at this
     cases this
   have NX : Hid (Fh w B (.slice (some ⟨g, 0, none⟩) N vc) l (k + 1) (m ++ [Y]) (put2 V g (k * 5) Y)) := by
    refine ⟨by rw [List.append_assoc]; exact P1, ?_, by rw [List.length_append, HF.out.len]; rfl, ?_, ?_, fun y hy => ?_, grown_same hg1 P2⟩
    ·rw [List.map_append, HF.out.ct, List.take_add_one, HX.out, Option.toList_some, List.map_append, show [Y].map Sg.ct = [x].map Sg.ct by simp [hYc]]
    ·intro y hy
     refine nw_gr ?_ P2 (fun j hj => by cases hj; exact lg0)
     rcases List.mem_append.1 hy with hy | hy
     ·exact (HF.out.nw y hy).later b2
     ·rw [List.mem_singleton.1 hy, hYc]
      exact hnY.mono hlow
    ·refine HF.out.dj.snoc (N := wr.heap.size) (fun y hy p hp => (nw_lt (HF.out.nw y hy) hp).2) (fun p hp => ?_)
     have := (nw_lt hnY hp).1
     have := BA.out.size
     omega
    ·rcases List.mem_append.1 hy with hy | hy
     ·exact HF.out.no y hy
     ·rw [List.mem_singleton.1 hy]
      exact hnoY
   clear ho2 hb2 b2 hrV P1 P2 hg1 hlow hnY hcur9 hYc hnoY
   go_wp2_with fail
   go_roundw
   case rel => exact ⟨k + 1, m ++ [Y], by omega, rfl, NX.out⟩
   case measure => simp only [intOf]; omega
  ·obtain rfl : k = N := by omega
   clear hf
   go_wp2_with fail
   refine bodyPost_ret (v := .tuple #[.slice va k vc, .bool ok]) (by simp [results, Tryz.results36, go_sem]) rfl ⟨rfl, m, ?_⟩
   rw [HN.out]
   exact HF.out
def RetFdN (R : List Sc × Bool) (w : World) (e : Ending) (w' : World) : Prop := ∃ v l, e = .returned (.tuple #[v, .bool R.2]) ∧ l.map Sg.ct = R.1 ∧ Ss w' w.heap.size v l ∧ Dj l ∧ Below w.heap.size w w' ∧ ∀ x ∈ l, x.a = none → x.c = 0
theorem sgc_get : ∀ {l : List Sg} {i : Nat} {x : Sg}, l[i]? = some x → (sgc l)[i * 5]? = some (.int .i64 x.ct.v) ∧ (sgc l)[i * 5 + 1]? = some (.int .i64 x.ct.lo) ∧ (sgc l)[i * 5 + 2]? = some (.int .i64 x.ct.wd) ∧ (sgc l)[i * 5 + 3]? = some (.int .i64 x.ct.bw) ∧ (sgc l)[i * 5 + 4]? = some (.slice x.a x.ct.ws.length x.c)
 | [], i, x, h => by simp at h
 | y :: t, 0, x, h => by simp at h; subst h; simp [sgc]
 | y :: t, i + 1, x, h => by
  simp only [List.getElem?_cons_succ] at h
  have := sgc_get h
  rw [show (i + 1) * 5 = i * 5 + 5 by omega, show i * 5 + 5 + 1 = (i * 5 + 1) + 5 by omega, show i * 5 + 5 + 2 = (i * 5 + 2) + 5 by omega, show i * 5 + 5 + 3 = (i * 5 + 3) + 5 by omega, show i * 5 + 5 + 4 = (i * 5 + 4) + 5 by omega]
  simpa [sgc] using this

structure Nb (w : World) (cs : Array Value) (v : Value) (l : List Ib) (wr : World) : Prop where
 bx : Bz wr w.heap.size cs 67
 row : OL5 wr (w.heap.size + 1) v l
 bel : Below w.heap.size w wr
theorem bz_ol5 {w w' : World} {b B : Nat} {v : Value} {l : List Ib} {cs : Array Value} {t : TypeId} (hb : Bz w b cs t) (h : OL5 w B v l) (ht : t ≠ 95) (hg : w.grownBy w' v.ownBlock) : Bz w' b cs t := by
 unfold Bz at hb ⊢
 rw [hg.block b (lt_of_block hb) (fun e => by
  obtain ⟨cur, hc⟩ := h.typed e.symm
  rw [hb] at hc
  cases hc
  exact ht rfl)]
 exact hb
theorem Nb.later {w wr u : World} {cs : Array Value} {v : Value} {l : List Ib} (h : Nb w cs v l wr) (hb : Below wr.heap.size wr u) : Nb w cs v l u := ⟨h.bx.later hb, h.row.later hb, h.bel.trans (hb.mono h.bel.size)⟩
theorem Nb.app {w u w' : World} {cs : Array Value} {v v' : Value} {l m : List Ib} (h : Nb w cs v l u) (ho : OL5 w' (w.heap.size + 1) v' (l ++ m)) (hg : u.grownBy w' v.ownBlock) : Nb w cs v' (l ++ m) w' := by
 refine ⟨bz_ol5 h.bx h.row (by decide) hg, ho, h.bel.trans ⟨hg.os, hg.tape, hg.output, hg.size, fun k hk => hg.block k (Nat.lt_of_lt_of_le hk h.bel.size) (fun e => ?_)⟩⟩
 have := (h.row.lt e.symm).1
 omega
theorem OL5.lowB {w : World} {B B' : Nat} {v : Value} {l : List Ib} (h : OL5 w B v l) (hB : B' ≤ B) : OL5 w B' v l := by
 obtain ⟨h1, h2⟩ := h
 refine ⟨h1, ?_⟩
 rcases h2 with h2 | ⟨g, cap, cur, rfl, hg, hh, r⟩
 ·exact .inl h2
 ·exact .inr ⟨g, cap, cur, rfl, by omega, hh, r⟩
def RetNb (L : List Ib) (w : World) (e : Ending) (w' : World) : Prop := ∃ v, e = .returned v ∧ OL5 w' w.heap.size v L ∧ Below w.heap.size w w'
theorem Nb.start (w : World) (cs : Array Value) : Nb w cs (.slice (some ⟨w.heap.size + 1, 0, none⟩) 0 0) [] ((w.alloc (Obj.cells cs 67)).alloc (Obj.cells #[] 95)) := by
 refine ⟨(Bz.new w _ _).later (blA _ _), ?_, (blA _ _).alloc (by simp) _⟩
 have h9 := OL5.empty (w.alloc (Obj.cells cs 67)) (w.heap.size + 1) (by simp)
 rw [World.size_alloc] at h9
 exact h9
theorem runL_snoc (v a : Int) (k : Nat) : runL v a (k + 1) = runL v a k ++ [(v, a + (k : Int))] := by simp [runL, List.range_succ]
set_option maxHeartbeats 2000000 in
set_option maxRecDepth 100000 in
theorem l5n1 {da wa ka aa : Option Addr} {dc nd nw wc nk kc na ac V : Nat} {ds : List Dc} {A Bb bw : Int} {w : World} (hd : RdD w da ds) (hnd : ds.length = nd) (hV : V < nd) (h1 : 1 ≤ (ds.getD V (.empty, 0)).2) (h2 : (ds.getD V (.empty, 0)).2 ≤ 4096) :
  Calls Tryz.prog 30 #[.slice da nd dc, .agg #[.int .i64 1, .int .i64 (V : Int), .int .i64 A, .int .i64 Bb, .int .i64 bw, .slice wa nw wc, .slice ka nk kc], .slice aa na ac] w (RetNb (runL (V : Int) 0 (ds.getD V (.empty, 0)).2.toNat) w) := by
 obtain ⟨db, dq, rfl, hdc⟩ : ∃ b o, da = some ⟨b, o, none⟩ ∧ DcAt w b (o + V * 2) (ds.getD V (.empty, 0)) := by
  rcases hd.2.2 with h9 | ⟨b, o, e, hc⟩
  ·rw [h9] at hnd; simp at hnd; omega
  ·refine ⟨b, o, e, hc V _ ?_⟩
   have hl : V < ds.length := by omega
   simp [List.getD, hl]
 obtain ⟨-, d1⟩ := hdc
 obtain ⟨E, hE⟩ : ∃ E : Nat, (ds.getD V (.empty, 0)).2 = (E : Int) := ⟨(ds.getD V (.empty, 0)).2.toNat, by omega⟩
 rw [hE] at d1 h1 h2 ⊢
 rw [Int.toNat_natCast]
 have ldb := block_lt_of_cell d1
 have S0 := kide (Nb.start w #[.int .i64 1, .int .i64 (V : Int), .int .i64 A, .int .i64 Bb, .int .i64 bw, .slice wa nw wc, .slice ka nk kc])
 have q1 : (V : Int) < (nd : Int) := by omega
 have q2 : (V : Int) ≥ 0 := by omega
 clear hd hnd hE
 go_enter Tryz.func30, Tryz.ntmps30
 go_wp2_with fail
 go_loopw [7, 8] (fun v i wr => ∃ k : Nat, k ≤ E ∧ i = .int .i64 (k : Int) ∧ Nb w #[.int .i64 1, .int .i64 (V : Int), .int .i64 A, .int .i64 Bb, .int .i64 bw, .slice wa nw wc, .slice ka nk kc] v (runL (V : Int) 0 k) wr) (fun _ i _ => E - (intOf i).toNat)
 case atStart => exact ⟨0, Nat.zero_le _, rfl, by simpa [runL] using S0.out⟩
 case round =>
  obtain ⟨k, hk, rfl, hnb⟩ := hrel
  have c1 := hnb.bx.cell 1
  simp at c1
  have c9 := (hnb.bel.cell (p := ⟨db, dq + V * 2 + 1, none⟩) ldb).trans d1
  have HNB := kide hnb
  have lbx := hnb.bx.lt
  clear hnb
  by_cases hlt : k < E
  ·have q3 : (k : Int) < (E : Int) := by omega
   have hkw : IntKind.i64.wrap ((k : Int) + 1) = (k : Int) + 1 := by rw [IntKind.wrap_i64]; omega
   have BA : Hid (Below wr.heap.size wr (wr.alloc (Obj.cells #[.int .i64 (V : Int), .int .i64 (k : Int)] 95))) := blA _ _
   have XA := kide (Bz.new wr #[.int .i64 (V : Int), .int .i64 (k : Int)] 95)
   have NA := kide (HNB.out.later BA.out)
   have hll : (runL (V : Int) 0 k).length ≤ 1073741824 := by simp [runL]; omega
   have hsz : w.heap.size + 1 ≤ (wr.alloc (Obj.cells #[.int .i64 (V : Int), .int .i64 (k : Int)] 95)).heap.size := by simp; omega
   go_wp2_with (refine wpList_appL5 rfl _ _ rfl (w.heap.size + 1) _ (runL (V : Int) 0 k) ((V : Int), (k : Int)) rfl NA.out.row wr.heap.size _ rfl (XA.out.cell 0) (XA.out.cell 1) hll hsz ?_)
   intro g6 c6 w6 ho6 hg6
   have N6 := kide (NA.out.app ho6 hg6)
   rw [show runL (V : Int) 0 k ++ [((V : Int), (k : Int))] = runL (V : Int) 0 (k + 1) by rw [runL_snoc, Int.zero_add]] at N6
   clear ho6 hg6
   go_wp2_with fail
   go_roundw
   case rel => exact ⟨k + 1, by omega, rfl, N6.out⟩
   case measure => simp only [intOf]; omega
  ·obtain rfl : k = E := by omega
   go_wp2_with fail
   exact bodyPost_ret (v := u7) (by simp [results, Tryz.results30, go_sem]) rfl ⟨u7, rfl, HNB.out.row.lowB (Nat.le_succ _), HNB.out.bel⟩
set_option maxHeartbeats 2000000 in
set_option maxRecDepth 100000 in
theorem l5n2 {da wa ka aa : Option Addr} {dc nd wc nk kc na ac E : Nat} {ws : List Nat} {vr A Bb : Int} {w : World} (hw : Rd w wa ws) (hr : rightB (E : Int) ws = true) :
  Calls Tryz.prog 30 #[.slice da nd dc, .agg #[.int .i64 2, .int .i64 vr, .int .i64 A, .int .i64 Bb, .int .i64 (E : Int), .slice wa ws.length wc, .slice ka nk kc], .slice aa na ac] w (RetNb ((List.range E).map fun k => (-1, (((tb ws k).toNat : Nat) : Int))) w) := by
 have hW := right_W hr
 obtain ⟨nw, hnw⟩ : ∃ n, ws.length = n := ⟨_, rfl⟩
 rw [hnw]
 have HNW := kide hnw
 have HW := kide hw
 have S0 := kide (Nb.start w #[.int .i64 2, .int .i64 vr, .int .i64 A, .int .i64 Bb, .int .i64 (E : Int), .slice wa nw wc, .slice ka nk kc])
 have HB := kide (fun (k : Nat) (hk : k < E) u (hu : Below w.heap.size w u) => l1Bit_any (E : Int) wa wc ws k u (hw.later hu) (by omega))
 rw [hnw] at HB
 clear hw hnw
 have hE : E ≤ 4096 := by omega
 clear hW
 go_enter Tryz.func30, Tryz.ntmps30
 go_wp2_with fail
 go_loopw [7, 9] (fun v i wr => ∃ k : Nat, k ≤ E ∧ i = .int .i64 (k : Int) ∧ Nb w #[.int .i64 2, .int .i64 vr, .int .i64 A, .int .i64 Bb, .int .i64 (E : Int), .slice wa nw wc, .slice ka nk kc] v ((List.range k).map fun k => (-1, (((tb ws k).toNat : Nat) : Int))) wr) (fun _ i _ => E - (intOf i).toNat)
 case atStart => exact ⟨0, Nat.zero_le _, rfl, by simpa using S0.out⟩
 case round =>
  obtain ⟨k, hk, rfl, hnb⟩ := hrel
  have c4 := hnb.bx.cell 4
  have c5 := hnb.bx.cell 5
  simp at c4 c5
  have HNB := kide hnb
  have lbx := hnb.bx.lt
  clear hnb
  by_cases hlt : k < E
  ·have q3 : (k : Int) < (E : Int) := by omega
   have hkw : IntKind.i64.wrap ((k : Int) + 1) = (k : Int) + 1 := by rw [IntKind.wrap_i64]; omega
   have HB1 := kide (HB.out k hlt wr HNB.out.bel)
   have hsn : (List.range (k + 1)).map (fun k => ((-1, (((tb ws k).toNat : Nat) : Int)) : Ib)) = (List.range k).map (fun k => (-1, (((tb ws k).toNat : Nat) : Int))) ++ [(-1, (((tb ws k).toNat : Nat) : Int))] := by rw [List.range_succ, List.map_append]; rfl
   have htb : (tb ws k).toNat ≤ 1 := by cases tb ws k <;> simp
   generalize (tb ws k).toNat = t at *
   have HSN := kide hsn
   have hll : ((List.range k).map fun k => ((-1, (((tb ws k).toNat : Nat) : Int)) : Ib)).length ≤ 1073741824 := by simp; omega
   generalize (List.range k).map (fun k => ((-1, (((tb ws k).toNat : Nat) : Int)) : Ib)) = Lk at *
   have htw : IntKind.i64.wrap (t : Int) = (t : Int) := by rw [IntKind.wrap_i64]; omega
   clear hsn
   go_wp2_with fail
   refine Calls.mono HB1.out ?_
   rintro e w1 ⟨rfl, hb1⟩
   have N1 := kide (HNB.out.later hb1)
   have BA : Hid (Below w1.heap.size w1 (w1.alloc (Obj.cells #[.int .i64 (-1), .int .i64 (t : Int)] 95))) := blA _ _
   have XA := kide (Bz.new w1 #[.int .i64 (-1), .int .i64 (t : Int)] 95)
   have NA := kide (N1.out.later BA.out)
   have hsz : w.heap.size + 1 ≤ (w1.alloc (Obj.cells #[.int .i64 (-1), .int .i64 (t : Int)] 95)).heap.size := by have := N1.out.bx.lt; simp; omega
   clear hb1
   go_wp2_with (refine wpList_appL5 rfl _ _ rfl (w.heap.size + 1) _ Lk (-1, (t : Int)) rfl NA.out.row w1.heap.size _ rfl (XA.out.cell 0) (XA.out.cell 1) hll hsz ?_)
   intro g6 c6 w6 ho6 hg6
   have N6 := kide (NA.out.app ho6 hg6)
   rw [← HSN.out] at N6
   clear ho6 hg6
   go_wp2_with fail
   go_roundw
   case rel => exact ⟨k + 1, by omega, rfl, N6.out⟩
   case measure => simp only [intOf]; omega
  ·obtain rfl : k = E := by omega
   go_wp2_with fail
   exact bodyPost_ret (v := u7) (by simp [results, Tryz.results30, go_sem]) rfl ⟨u7, rfl, HNB.out.row.lowB (Nat.le_succ _), HNB.out.bel⟩
theorem flt_ok (ds : List Dc) (ns : List Tc) (hv : ∀ n ∈ ns, in64 n.vr) : (∀ s ∈ (fltR ds ns).1, okF s) ∧ (fltR ds ns).1.length ≤ 2000 := by
 unfold fltR
 split
 ·simp
 ·rename_i h0
  split
  ·rename_i hall
   obtain ⟨-, hn1, -, hA, -⟩ := right_at h0 hv
   have hb := hA ns.length (Nat.le_refl _)
   rw [List.take_length] at hb
   have hlen : (bitsN ds [] ns).length = ns.length := by rw [bitsN_len]; simp
   have hlt : ns.length - 1 < (bitsN ds [] ns).length := by omega
   obtain ⟨h1, h2, h3, h4⟩ := hb.ok (ns.length - 1) hlt
   have hm : (bitsN ds [] ns).getD (ns.length - 1) [] ∈ bitsN ds [] ns := by simp [List.getD, hlt]
   have hl := List.all_eq_true.1 hall _ hm
   simp only [decide_eq_true_eq] at hl
   refine ⟨formB_ok _ _ (Nat.le_refl _) (by omega) (fun p hp => ?_), hl⟩
   have h9 := h4 p hp
   refine ⟨h9.1, ?_⟩
   unfold in64
   rcases h9.2 with h | h
   ·omega
   ·omega
  ·simp
theorem RdT.v64 {w : World} {a : Option Addr} {xs : List Tg} (hs : RdT w a xs) : ∀ m ∈ xs.map Tg.ct, in64 m.vr := fun m hm => by
 obtain ⟨x, hx, rfl⟩ := List.mem_map.1 hm
 obtain ⟨i, hi⟩ := List.getElem?_of_mem hx
 rcases hs.2 with h0 | ⟨b, o, -, hc⟩
 ·rw [h0] at hi; simp at hi
 ·exact (hc i x hi).2.2.2.2.1
end Go.Proofs.YtnpjgoklpaigjaaGreatDoor
