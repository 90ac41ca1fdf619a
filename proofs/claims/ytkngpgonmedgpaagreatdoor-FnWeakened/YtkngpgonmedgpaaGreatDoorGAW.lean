/- Several texts in one. -/
import Derived.Test.YtkngpgonmedgpaaGreatDoorGAP
import Derived.Test.YtkngpgonmedgpaaGreatDoorGAK
import Derived.Test.YtkngpgonmedgpaaGreatDoorGAO
import Derived.Test.YtkngpgonmedgpaaGreatDoorQ
namespace Go.Proofs.YtkngpgonmedgpaaGreatDoor
open Go.RowKit
set_option linter.unusedVariables false
set_option linter.unusedSimpArgs false
theorem sumR_eq (wide : List Int) (hw : ∀ i, 0 ≤ wide.getD i 0) : ∀ (ks : List Int) (s : Int), 0 ≤ s → sumR wide ks s ≤ 4096 → sumR wide ks s = s + (ks.map fun k => wide.getD k.toNat 0).sum ∧ s ≤ 4096
 | [], s, _, h => by simp [sumR] at h ⊢; exact h
 | k :: t, s, h0, h => by
  rw [sumR] at h ⊢
  have a := hw k.toNat
  obtain ⟨h1, h2⟩ := sumR_eq wide hw t _ (by omega) h
  rw [List.map_cons, List.sum_cons]
  constructor
  ·rw [h1]; omega
  ·omega
theorem sumR_one (wide : List Int) (k : Int) (h : 0 ≤ wide.getD k.toNat 0 ∧ wide.getD k.toNat 0 ≤ 4096) : sumR wide [k] 0 = wide.getD k.toNat 0 := by
 rw [sumR, sumR]; omega

structure Ahead (wide : List Int) (all : List Wd) : Prop where
 len : all.length = wide.length
 ok : ∀ i, i < all.length → (all.getD i (0, [])).1 = wide.getD i 0 ∧ okWd (all.getD i (0, []))
theorem Ahead.nil : Ahead [] [] := ⟨rfl, fun i hi => by simp at hi⟩
theorem Ahead.push {wide : List Int} {all : List Wd} {v : Int} {x : Wd} (h : Ahead wide all) (h1 : x.1 = v) (h2 : okWd x) : Ahead (wide ++ [v]) (all ++ [x]) := by
 refine ⟨by simp [h.len], fun i hi => ?_⟩
 by_cases hlt : i < all.length
 ·have := h.ok i hlt
  have hw : i < wide.length := by rw [← h.len]; exact hlt
  have e1 : (all ++ [x]).getD i (0, []) = all.getD i (0, []) := getD_left _ _ _ _ hlt
  have e2 : (wide ++ [v]).getD i 0 = wide.getD i 0 := getD_left _ _ _ _ hw
  rw [e1, e2]
  exact this
 ·have e : i = all.length := by simp at hi; omega
  subst e
  have e1 : (all ++ [x]).getD all.length (0, []) = x := by simp [List.getD]
  have e2 : (wide ++ [v]).getD all.length 0 = v := by rw [h.len]; simp [List.getD]
  rw [e1, e2]
  exact ⟨h1, h2⟩
theorem Ahead.mem {wide : List Int} {all : List Wd} (h : Ahead wide all) : ∀ x ∈ all, okWd x := fun x hx => by
 obtain ⟨i, hi, rfl⟩ := List.mem_iff_getElem.1 hx
 have := (h.ok i hi).2
 simpa [List.getD, hi] using this
theorem Ahead.wide_nonneg {wide : List Int} {all : List Wd} (h : Ahead wide all) (i : Nat) : 0 ≤ wide.getD i 0 := by
 by_cases hi : i < all.length
 ·obtain ⟨a, b⟩ := h.ok i hi
  have := right_W b.1
  omega
 ·have : wide.getD i 0 = 0 := by simp [List.getD, List.getElem?_eq_none (show wide.length ≤ i by rw [← h.len]; omega)]
  omega
theorem Ahead.kids {wide : List Int} {all : List Wd} (h : Ahead wide all) {ks : List Int} (hk : kidsR wide.length ks = true) : (∀ x ∈ kidsV all ks, okWd x) ∧ sumV (kidsV all ks) = (ks.map fun k => wide.getD k.toNat 0).sum := by
 induction ks with
 | nil => simp [kidsV, sumV]
 | cons k t ih =>
  simp only [kidsR, List.all_cons, Bool.and_eq_true, decide_eq_true_eq] at hk ih
  obtain ⟨h1, h2⟩ := ih hk.2
  obtain ⟨a, b⟩ := h.ok k.toNat (by rw [h.len]; omega)
  refine ⟨fun x hx => ?_, ?_⟩
  ·simp only [kidsV, List.map_cons, List.mem_cons] at hx
   rcases hx with rfl | hx
   ·exact b
   ·exact h1 x (by simpa [kidsV] using hx)
  ·simp only [kidsV, sumV, List.map_cons, List.sum_cons] at h2 ⊢
   rw [a, h2]
theorem part_ok {x : Wd} (hx : okWd x) {a b : Int} (h0 : 0 ≤ b) (h1 : b ≤ a) (h2 : a < x.1) : (two (partR x.1 x.2 a b)).1 = a - b + 1 ∧ okWd (two (partR x.1 x.2 a b)) := by
 have hr := right_W hx.1
 have hl : (((bitsTo x.2 x.1.toNat).drop b.toNat).take (a - b + 1).toNat).length = (a - b + 1).toNat := by
  rw [List.length_take, List.length_drop, bitsTo_len]; omega
 rw [partR, if_pos ⟨hx.1, h0, h1, h2⟩]
 refine ⟨rfl, pkW_ok _ (fun z hz => bitsTo_le _ _ z (List.mem_of_mem_drop (List.mem_of_mem_take hz))) (by omega) (by omega) (by omega)⟩
theorem wdn_ok {x : Wd} (hx : okWd x) {a : Int} (s : Bool) (h0 : 0 ≤ a) (h1 : a ≤ 4096) (h2 : x.1 + a ≤ 4096) : (two (wdnR x.1 x.2 a s)).1 = x.1 + a ∧ okWd (two (wdnR x.1 x.2 a s)) := by
 have hr := right_W hx.1
 have hl : (bitsTo x.2 x.1.toNat ++ List.replicate a.toNat (topOf x.1.toNat x.2 s)).length = (x.1 + a).toNat := by
  rw [List.length_append, bitsTo_len, List.length_replicate]; omega
 rw [wdnR, if_pos ⟨hx.1, h0, h1, h2⟩]
 refine ⟨rfl, pkW_ok _ (fun z hz => ?_) (by omega) (by omega) (by omega)⟩
 rcases List.mem_append.1 hz with hz | hz
 ·exact bitsTo_le _ _ z hz
 ·rw [List.eq_of_mem_replicate hz]; exact topOf_le _ _ _
theorem turn_ok {x : Wd} (hx : okWd x) {a : Int} (h0 : 0 ≤ a) (h1 : a ≤ 4096) : (two (turnR x.1 x.2 a)).1 = x.1 ∧ okWd (two (turnR x.1 x.2 a)) := by
 have hr := right_W hx.1
 have hl : (turnL (bitsTo x.2 x.1.toNat) (a.toNat % x.1.toNat)).length = x.1.toNat := by rw [turnL_len, bitsTo_len]
 rw [turnR, if_pos ⟨hx.1, h0, h1⟩]
 exact ⟨rfl, pkW_ok _ (fun z hz => bitsTo_le _ _ z (turnL_mem _ _ _ hz)) (by omega) (by omega) (by omega)⟩
theorem rep_ok {x : Wd} (hx : okWd x) {a : Int} (h0 : 1 ≤ a) (h1 : a ≤ 4096) (h2 : x.1 * a ≤ 4096) : (two (repR x.1 x.2 a)).1 = x.1 * a ∧ okWd (two (repR x.1 x.2 a)) := by
 have hr := right_W hx.1
 have hp : 1 * 1 ≤ x.1 * a := Int.mul_le_mul hr.1 h0 (by omega) (by omega)
 have hl : (repList (bitsTo x.2 x.1.toNat) a.toNat).length = (x.1 * a).toNat := by
  rw [repList_len, bitsTo_len]
  have : ((a.toNat * x.1.toNat : Nat) : Int) = x.1 * a := by
   rw [Int.natCast_mul, Int.toNat_of_nonneg (by omega), Int.toNat_of_nonneg (by omega), Int.mul_comm]
  omega
 rw [repR, if_pos ⟨hx.1, h0, h1, h2⟩]
 exact ⟨rfl, pkW_ok _ (fun z hz => bitsTo_le _ _ z (repList_mem _ _ _ hz)) (by omega) (by omega) (by omega)⟩
theorem emod_range (a W : Int) (h : 1 ≤ W) : 0 ≤ (W - a % W) % W ∧ (W - a % W) % W < W := ⟨Int.emod_nonneg _ (by omega), Int.emod_lt_of_pos _ (by omega)⟩

structure NodeAt (vs all : List Wd) (n : Tc) : Prop where
 op : 1 ≤ n.op ∧ n.op ≤ 9
 kid : ∀ j ∈ n.ks, 0 ≤ j ∧ j < (all.length : Int)
 var : n.op = 1 → 0 ≤ n.vr ∧ n.vr < (vs.length : Int)
 many : n.op = 3 → 2 ≤ n.ks.length
 fit : n.op = 3 → sumV (kidsV all n.ks) ≤ 4096
 one : 4 ≤ n.op → n.ks.length = 1
 wide : n.op = 8 → 0 ≤ n.a ∧ n.a ≤ 4096
 oks : ∀ x ∈ all, okWd x
 is : okWd (nodV vs all n)
theorem nodV_ok {ds : List Dc} {vs all : List Wd} {wide : List Int} {n : Tc} {v : Int} (ha : Ahead wide all) (hv : valR ds vs = true) (hvb : ∀ x ∈ vs, ∀ y ∈ x.2, y < 18446744073709551616) (hnb : ∀ y ∈ n.ws, y < 18446744073709551616) (hs : stepR ds wide n = some v) :
  NodeAt vs all n ∧ (nodV vs all n).1 = v := by
 obtain ⟨-, hvl, hvr⟩ := valR_iff.1 hv
 have hcond := stepR_kids hs
 simp only [Bool.and_eq_true] at hcond
 obtain ⟨⟨hk, -⟩, hm⟩ := hcond
 obtain ⟨hko, hks⟩ := ha.kids hk
 have hval : 1 ≤ wideR ds n (sumR wide n.ks 0) ∧ wideR ds n (sumR wide n.ks 0) ≤ 4096 ∧ wideR ds n (sumR wide n.ks 0) = v := by
  unfold stepR at hs
  split at hs
  ·split at hs
   ·rename_i h; cases hs; exact ⟨h.1, h.2, rfl⟩
   ·cases hs
  ·cases hs
 obtain ⟨hv1, hv2, hv3⟩ := hval
 have hkid : ∀ j ∈ n.ks, 0 ≤ j ∧ j < (all.length : Int) := fun j hj => by
  simp only [kidsR, List.all_eq_true, decide_eq_true_eq] at hk
  have := hk j hj
  rw [ha.len]
  omega
 obtain ⟨op, vr, A, B, bw, ws, ks⟩ := n
 simp only [] at *
 have hop : 1 ≤ op ∧ op ≤ 9 := by
  unfold manyR at hm
  simp only [] at hm
  repeat' split at hm
  all_goals first | omega | (simp at hm)
 have hwn := ha.wide_nonneg
 have h1k : 4 ≤ op → ks.length = 1 := fun h => by
  unfold manyR at hm
  simp only [] at hm
  rw [if_neg (by omega), if_neg (by omega), if_neg (by omega), if_pos (by omega)] at hm
  simpa using hm
 have hone : 4 ≤ op → sumR wide ks 0 = (all.getD (ks.getD 0 0).toNat (0, [])).1 ∧ okWd (all.getD (ks.getD 0 0).toNat (0, [])) := fun h => by
  match ks, h1k h, hkid with
  | [k], _, hkid =>
   have hkk := hkid k (by simp)
   obtain ⟨a, b⟩ := ha.ok k.toNat (by omega)
   have hr := right_W b.1
   have e : ([k] : List Int).getD 0 0 = k := rfl
   rw [e, sumR_one wide k (by omega)]
   exact ⟨a.symm, b⟩
 have fin : 4 ≤ op → (op = 8 → 0 ≤ A ∧ A ≤ 4096) → ∀ y : Wd, nodV vs all ⟨op, vr, A, B, bw, ws, ks⟩ = y → y.1 = v → okWd y → NodeAt vs all ⟨op, vr, A, B, bw, ws, ks⟩ ∧ (nodV vs all ⟨op, vr, A, B, bw, ws, ks⟩).1 = v := fun h4 h8 y hy h1 h2 =>
  ⟨⟨hop, hkid, fun h => by simp only [] at h; omega, fun h => by simp only [] at h; omega, fun h => by simp only [] at h; omega, h1k, h8, ha.mem, by rw [hy]; exact h2⟩, by rw [hy]; exact h1⟩
 rcases op_nine hop.1 hop.2 with rfl | rfl | rfl | rfl | rfl | rfl | rfl | rfl | rfl
 ·have hm' : ks.length = 0 ∧ 0 ≤ vr ∧ vr ≤ (ds.length : Int) - 1 := by simpa [manyR] using hm
  have hlt : vr.toNat < vs.length := by omega
  obtain ⟨a, b⟩ := hvr vr.toNat hlt
  have hb : okWd (vs.getD vr.toNat (0, [])) := ⟨a, hvb _ (by simp [List.getD, hlt])⟩
  have e : nodV vs all ⟨1, vr, A, B, bw, ws, ks⟩ = vs.getD vr.toNat (0, []) := by simp [nodV]
  simp only [wideR, if_true] at hv3
  refine ⟨⟨hop, hkid, fun _ => ⟨hm'.2.1, show vr < (vs.length : Int) by omega⟩, by simp, by simp, by simp, by simp, ha.mem, by rw [e]; exact hb⟩, by rw [e, b]; exact hv3⟩
 ·have hm' : ks.length = 0 ∧ rightB bw ws = true := by simpa [manyR] using hm
  have e : nodV vs all ⟨2, vr, A, B, bw, ws, ks⟩ = (bw, ws) := by simp [nodV]
  have hv3' : bw = v := by simpa [wideR] using hv3
  exact ⟨⟨hop, hkid, by simp, by simp, by simp, by simp, by simp, ha.mem, by rw [e]; exact ⟨hm'.2, hnb⟩⟩, by rw [e]; exact hv3'⟩
 ·have hm' : 2 ≤ ks.length := by simpa [manyR] using hm
  have e : nodV vs all ⟨3, vr, A, B, bw, ws, ks⟩ = catS (kidsV all ks) := by simp [nodV]
  have hw : wideR ds ⟨3, vr, A, B, bw, ws, ks⟩ (sumR wide ks 0) = sumR wide ks 0 := by simp [wideR]
  rw [hw] at hv1 hv2 hv3
  obtain ⟨hse, -⟩ := sumR_eq wide hwn ks 0 (by omega) hv2
  have hsum : sumV (kidsV all ks) = v := by rw [hks, ← hv3, hse]; omega
  obtain ⟨c1, c2⟩ := cat_all hko (by rw [hsum]; omega) (by simp [kidsV]; omega)
  exact ⟨⟨hop, hkid, by simp, fun _ => hm', fun _ => by rw [hsum]; omega, by simp, by simp, ha.mem, by rw [e]; exact c2⟩, by rw [e, c1]; exact hsum⟩
 all_goals obtain ⟨hsw, hxo⟩ := hone (by omega)
 all_goals rw [hsw] at hv1 hv2 hv3
 all_goals have hxr := right_W hxo.1
 all_goals obtain ⟨x, hx⟩ : ∃ x, all.getD (ks.getD 0 0).toNat (0, []) = x := ⟨_, rfl⟩
 all_goals rw [hx] at hv1 hv2 hv3 hxo hxr
 ·have hw : wideR ds ⟨4, vr, A, B, bw, ws, ks⟩ x.1 = if B < 0 ∨ A < B ∨ x.1 ≤ A then -1 else A - B + 1 := by simp [wideR]
  rw [hw] at hv1 hv2 hv3
  by_cases hc : B < 0 ∨ A < B ∨ x.1 ≤ A
  ·rw [if_pos hc] at hv1; omega
  rw [if_neg hc] at hv3
  obtain ⟨p1, p2⟩ := part_ok hxo (a := A) (b := B) (by omega) (by omega) (by omega)
  exact fin (by omega) (by omega) (two (partR x.1 x.2 A B)) (by rw [← hx]; simp [nodV, opV]) (by rw [p1]; exact hv3) p2
 ·have hw : wideR ds ⟨5, vr, A, B, bw, ws, ks⟩ x.1 = if 0 ≤ A ∧ A ≤ 4096 then x.1 + A else -1 := by simp [wideR]
  rw [hw] at hv1 hv2 hv3
  by_cases hc : 0 ≤ A ∧ A ≤ 4096
  ·rw [if_pos hc] at hv1 hv2 hv3
   obtain ⟨p1, p2⟩ := wdn_ok hxo (a := A) false hc.1 hc.2 hv2
   exact fin (by omega) (by omega) (two (wdnR x.1 x.2 A false)) (by rw [← hx]; simp [nodV, opV]) (by rw [p1]; exact hv3) p2
  ·rw [if_neg hc] at hv1; omega
 ·have hw : wideR ds ⟨6, vr, A, B, bw, ws, ks⟩ x.1 = if 0 ≤ A ∧ A ≤ 4096 then x.1 + A else -1 := by simp [wideR]
  rw [hw] at hv1 hv2 hv3
  by_cases hc : 0 ≤ A ∧ A ≤ 4096
  ·rw [if_pos hc] at hv1 hv2 hv3
   obtain ⟨p1, p2⟩ := wdn_ok hxo (a := A) true hc.1 hc.2 hv2
   exact fin (by omega) (by omega) (two (wdnR x.1 x.2 A true)) (by rw [← hx]; simp [nodV, opV]) (by rw [p1]; exact hv3) p2
  ·rw [if_neg hc] at hv1; omega
 ·have hw : wideR ds ⟨7, vr, A, B, bw, ws, ks⟩ x.1 = if 0 ≤ A ∧ A ≤ 4096 then x.1 else -1 := by simp [wideR]
  rw [hw] at hv1 hv2 hv3
  by_cases hc : 0 ≤ A ∧ A ≤ 4096
  ·rw [if_pos hc] at hv1 hv2 hv3
   obtain ⟨p1, p2⟩ := turn_ok hxo (a := A) hc.1 hc.2
   exact fin (by omega) (by omega) (two (turnR x.1 x.2 A)) (by rw [← hx]; simp [nodV, opV]) (by rw [p1]; exact hv3) p2
  ·rw [if_neg hc] at hv1; omega
 ·have hw : wideR ds ⟨8, vr, A, B, bw, ws, ks⟩ x.1 = if 0 ≤ A ∧ A ≤ 4096 then x.1 else -1 := by simp [wideR]
  rw [hw] at hv1 hv2 hv3
  by_cases hc : 0 ≤ A ∧ A ≤ 4096
  ·rw [if_pos hc] at hv1 hv2 hv3
   have hr := emod_range A x.1 hxr.1
   obtain ⟨p1, p2⟩ := turn_ok hxo (a := (x.1 - A % x.1) % x.1) hr.1 (by omega)
   exact fin (by omega) (fun _ => hc) (two (turnR x.1 x.2 ((x.1 - A % x.1) % x.1))) (by rw [← hx]; simp [nodV, opV]) (by rw [p1]; exact hv3) p2
  ·rw [if_neg hc] at hv1; omega
 ·have hw : wideR ds ⟨9, vr, A, B, bw, ws, ks⟩ x.1 = if 1 ≤ A ∧ A ≤ 4096 then x.1 * A else -1 := by simp [wideR]
  rw [hw] at hv1 hv2 hv3
  by_cases hc : 1 ≤ A ∧ A ≤ 4096
  ·rw [if_pos hc] at hv1 hv2 hv3
   obtain ⟨p1, p2⟩ := rep_ok hxo (a := A) hc.1 hc.2 hv2
   exact fin (by omega) (by omega) (two (repR x.1 x.2 A)) (by rw [← hx]; simp [nodV, opV]) (by rw [p1]; exact hv3) p2
  ·rw [if_neg hc] at hv1; omega
theorem ev_take {vs : List Wd} {ns : List Tc} {k : Nat} {n : Tc} (h : ns[k]? = some n) : evR vs (ns.take (k + 1)) = evR vs (ns.take k) ++ [nodV vs (evR vs (ns.take k)) n] := by
 unfold evR
 rw [List.take_add_one, h, List.foldl_append]
 simp
theorem fold_ev_len (vs : List Wd) (ns : List Tc) : ∀ all : List Wd, (ns.foldl (fun all n => all ++ [nodV vs all n]) all).length = all.length + ns.length := by
 induction ns with
 | nil => simp
 | cons n t ih => intro all; rw [List.foldl_cons, ih]; simp; omega
theorem ev_len (vs : List Wd) (ns : List Tc) : (evR vs ns).length = ns.length := by
 have := fold_ev_len vs ns []
 simpa [evR] using this
theorem ev_steps {ds : List Dc} {vs : List Wd} (hv : valR ds vs = true) (hvb : ∀ x ∈ vs, ∀ y ∈ x.2, y < 18446744073709551616) : ∀ (ns : List Tc) (wide : List Int) (all : List Wd) (r : List Int), (∀ n ∈ ns, ∀ y ∈ n.ws, y < 18446744073709551616) → Ahead wide all → goR ds wide ns = some r →
  ∀ (k : Nat) (n : Tc), ns[k]? = some n → NodeAt vs ((ns.take k).foldl (fun all n => all ++ [nodV vs all n]) all) n
 | [], _, _, _, _, _, _ => by simp
 | m :: t, wide, all, r, hb, ha, h => by
  rw [goR] at h
  cases hst : stepR ds wide m with
  | none => rw [hst] at h; cases h
  | some v =>
   rw [hst] at h
   obtain ⟨h1, h2⟩ := nodV_ok ha hv hvb (hb m (by simp)) hst
   intro k n hk
   cases k with
   | zero => simp at hk; subst hk; exact h1
   | succ k =>
    have := ev_steps hv hvb t _ _ r (fun n hn => hb n (by simp [hn])) (ha.push h2 h1.is) h k n (by simpa using hk)
    simpa using this
theorem ev_at {ds : List Dc} {vs : List Wd} {ns : List Tc} (hw : ¬ (widthsR ds ns).length = 0) (hv : valR ds vs = true) (hvb : ∀ x ∈ vs, ∀ y ∈ x.2, y < 18446744073709551616) (hnb : ∀ n ∈ ns, ∀ y ∈ n.ws, y < 18446744073709551616) {k : Nat} {n : Tc} (hk : ns[k]? = some n) : NodeAt vs (evR vs (ns.take k)) n := by
 unfold widthsR at hw
 split at hw
 ·cases hg : goR ds [] ns with
  | none => rw [hg] at hw; simp at hw
  | some wide => exact ev_steps hv hvb ns [] [] wide hnb Ahead.nil hg k n hk
 ·simp at hw
def evalR (vs : List Wd) (ns : List Tc) : Wd := (evR vs ns).getD (ns.length - 1) (0, [])
theorem eval_ok {ds : List Dc} {vs : List Wd} {ns : List Tc} (hw : ¬ (widthsR ds ns).length = 0) (hv : valR ds vs = true) (hvb : ∀ x ∈ vs, ∀ y ∈ x.2, y < 18446744073709551616) (hnb : ∀ n ∈ ns, ∀ y ∈ n.ws, y < 18446744073709551616) : okWd (evalR vs ns) := by
 have hl := (right_kids hw).1
 have hk : ns[ns.length - 1]? = some ns[ns.length - 1] := List.getElem?_eq_getElem (by omega)
 have h := (ev_at hw hv hvb hnb hk).is
 have e := ev_take (vs := vs) hk
 rw [show ns.length - 1 + 1 = ns.length by omega, List.take_length] at e
 unfold evalR
 rw [e]
 have hlen : (evR vs (ns.take (ns.length - 1))).length = ns.length - 1 := by rw [ev_len]; simp
 rw [getD_right _ _ _ _ (by omega), hlen]
 simpa using h


abbrev S7 (b : Nat) (op vr A B bw : Int) (wa : Option Addr) (wl wc : Nat) (ka : Option Addr) (kl kc : Nat) (z : World) : Prop := z.cell? ⟨b, 0, none⟩ = some (.int .i64 op) ∧ z.cell? ⟨b, 1, none⟩ = some (.int .i64 vr) ∧ z.cell? ⟨b, 2, none⟩ = some (.int .i64 A) ∧ z.cell? ⟨b, 3, none⟩ = some (.int .i64 B) ∧ z.cell? ⟨b, 4, none⟩ = some (.int .i64 bw) ∧ z.cell? ⟨b, 5, none⟩ = some (.slice wa wl wc) ∧ z.cell? ⟨b, 6, none⟩ = some (.slice ka kl kc)
abbrev S9 (b : Nat) (op vr A B bw : Int) (wa : Option Addr) (wl wc : Nat) (ka : Option Addr) (kl kc : Nat) (kb : Nat) (wd : Int) (xa : Option Addr) (xl xc : Nat) (z : World) : Prop := z.cell? ⟨b, 0, none⟩ = some (.int .i64 op) ∧ z.cell? ⟨b, 1, none⟩ = some (.int .i64 vr) ∧ z.cell? ⟨b, 2, none⟩ = some (.int .i64 A) ∧ z.cell? ⟨b, 3, none⟩ = some (.int .i64 B) ∧ z.cell? ⟨b, 4, none⟩ = some (.int .i64 bw) ∧ z.cell? ⟨b, 5, none⟩ = some (.slice wa wl wc) ∧ z.cell? ⟨b, 6, none⟩ = some (.slice ka kl kc) ∧ z.cell? ⟨kb, 0, none⟩ = some (.int .i64 wd) ∧ z.cell? ⟨kb, 1, none⟩ = some (.slice xa xl xc)

abbrev nodA (n : Tc) (wa ka : Option Addr) (wc kc : Nat) : Value := .agg #[.int .i64 n.op, .int .i64 n.vr, .int .i64 n.a, .int .i64 n.b, .int .i64 n.bw, .slice wa n.ws.length wc, .slice ka n.ks.length kc]

structure Evl (u : World) (eb : Nat) (vs l : List Bw) : Prop where
 vals : ∃ va vc, u.cell? ⟨eb, 0, none⟩ = some (.slice va vs.length vc) ∧ RdW u va vs
 ahd : ∃ aa ac, u.cell? ⟨eb, 1, none⟩ = some (.slice aa l.length ac) ∧ RdW u aa l
theorem Evl.later {u u' : World} {eb : Nat} {vs l : List Bw} (h : Evl u eb vs l) (hb : Below u.heap.size u u') : Evl u' eb vs l := by
 obtain ⟨⟨va, vc, h1, h2⟩, ⟨aa, ac, h3, h4⟩⟩ := h
 exact ⟨⟨va, vc, by rw [kcell hb _ _ (block_lt_of_cell h1)]; exact h1, h2.later hb⟩, ⟨aa, ac, by rw [kcell hb _ _ (block_lt_of_cell h3)]; exact h3, h4.later hb⟩⟩
set_option maxHeartbeats 1000000 in
theorem kid_any (eb : Nat) (vs l : List Bw) (n : Tc) (wa ka : Option Addr) (wc kc : Nat) (u : World) (hE : Evl u eb vs l) (hk : RdI u ka n.ks) (h1 : n.ks.length = 1) (j : Nat) (x : Bw) (hj : n.ks.getD 0 0 = (j : Int)) (hx : l[j]? = some x) :
  Calls Tryz.prog 138 #[.pointer (some ⟨eb, 0, none⟩), nodA n wa ka wc kc] u fun e w' => e = .returned (.agg #[.int .i64 x.wd, .slice x.a x.ws.length x.c]) ∧ Below u.heap.size u w' := by
 obtain ⟨-, ⟨aa, ac, c1, ha⟩⟩ := hE
 have hjl := (List.getElem?_eq_some_iff.1 hx).1
 have hla := ha.1
 obtain ⟨-, -, h | ⟨kb, ko, rfl, hkc⟩⟩ := hk
 ·rw [h] at h1; simp at h1
 have q0 := hkc 0 (by omega)
 rw [hj, Nat.add_zero] at q0
 obtain ⟨-, h | ⟨ab, ao, rfl, hac⟩⟩ := ha
 ·rw [h] at hjl; simp at hjl
 obtain ⟨p0, p1, -, -⟩ := hac j x hx
 have l0 := block_lt_of_cell c1
 have l1 := block_lt_of_cell q0
 have l2 := block_lt_of_cell p0
 have l3 := block_lt_of_cell p1
 obtain ⟨op, vr, A, B, bw, ws, ks⟩ := n
 obtain ⟨wd, xa, xc, xs⟩ := x
 simp only [nodA] at *
 rw [h1]
 have hb1 : Below u.heap.size u ((u.alloc (Obj.cells #[.int .i64 op, .int .i64 vr, .int .i64 A, .int .i64 B, .int .i64 bw, .slice wa ws.length wc, .slice (some ⟨kb, ko, none⟩) 1 kc] 119)).alloc (Obj.cells #[.int .i64 0, .slice none 0 0] 80)) := Ba (Ba (Below.refl _ _) _) _
 have hR := Blk.new1 u (Obj.cells #[.int .i64 op, .int .i64 vr, .int .i64 A, .int .i64 B, .int .i64 bw, .slice wa ws.length wc, .slice (some ⟨kb, ko, none⟩) 1 kc] 119) (.int .i64 0) (.slice none 0 0) 80
 have t6 : ((u.alloc (Obj.cells #[.int .i64 op, .int .i64 vr, .int .i64 A, .int .i64 B, .int .i64 bw, .slice wa ws.length wc, .slice (some ⟨kb, ko, none⟩) 1 kc] 119)).alloc (Obj.cells #[.int .i64 0, .slice none 0 0] 80)).cell? ⟨u.heap.size, 6, none⟩ = some (.slice (some ⟨kb, ko, none⟩) 1 kc) := by
  rw [acell _ _ _ (by simp)]; simp
 have d1 := (kcell hb1 _ _ l0).trans c1
 have d2 := (kcell hb1 _ _ l1).trans q0
 have d3 := (kcell hb1 _ _ l2).trans p0
 have d4 := (kcell hb1 _ _ l3).trans p1
 have f50 := frozen_of_row _ _ 0 _ _ hR
 have f51 := frozen_of_row _ _ 1 _ _ hR
 obtain ⟨r0, r1⟩ := hR.cells
 have hjl' : (j : Int) < (l.length : Int) := by omega
 try simp only [] at l0 l1 l2 l3
 clear c1 q0 p0 p1 hkc hac hx hj
 go_enter Tryz.func138, Tryz.ntmps138
 go_wp2_with fail
 generalize ((u.alloc (Obj.cells #[.int .i64 op, .int .i64 vr, .int .i64 A, .int .i64 B, .int .i64 bw, .slice wa ws.length wc, .slice (some ⟨kb, ko, none⟩) 1 kc] 119)).alloc (Obj.cells #[.int .i64 0, .slice none 0 0] 80)) = w1 at *
 go_region_held_law (fun v => v.cell? ⟨eb, 1, none⟩ = some (.slice (some ⟨ab, ao, none⟩) l.length ac) ∧ v.cell? ⟨u.heap.size, 6, none⟩ = some (.slice (some ⟨kb, ko, none⟩) 1 kc) ∧ v.cell? ⟨kb, ko, none⟩ = some (.int .i64 (j : Int)) ∧ v.cell? ⟨ab, ao + j * 2, none⟩ = some (.int .i64 wd) ∧ v.cell? ⟨ab, ao + j * 2 + 1, none⟩ = some (.slice xa xs.length xc))
  (first | (refine ⟨?_, ?_, ?_, ?_, ?_⟩ <;> assumption) | (refine ⟨?_, ?_, ?_, ?_, ?_⟩ <;> ((first | rw [set2_far _ _ _ _ _ (by simp only []; omega)] | rw [drew2_far _ _ _ _ _ (by simp only []; omega)]); assumption)))
  (fail)
 go_wp2
 obtain ⟨q0, q1⟩ := ((hR.put0' (.int .i64 wd)).put1' (.slice xa xs.length xc)).cells
 exact bodyPost_ret (v := .agg #[.int .i64 wd, .slice xa xs.length xc]) (by simp [results, Tryz.results138, go_sem, q0, q1]) rfl ⟨rfl, ((hb1.setCell (Nat.le_succ _) _).setCell (Nat.le_succ _) _).drew⟩

theorem op_cases {x : Int} (h1 : 1 ≤ x) (h9 : x ≤ 9) : x = 1 ∨ x = 2 ∨ x = 3 ∨ x = 4 ∨ x = 5 ∨ x = 6 ∨ x = 7 ∨ x = 8 ∨ x = 9 := by omega
theorem kw_one {wide ks : List Int} (h : ks.length = 1) : (kwR wide ks).getD 0 0 = sumK (kwR wide ks) := by
 match ks, h with
 | [k], _ => simp [kwR, sumK]
theorem step_some {ds : List Dc} {wide : List Int} {n : Tc} {v : Int} (hw : ∀ x ∈ wide, 1 ≤ x ∧ x ≤ 4096) (h : stepR ds wide n = some v) : fldR n = true ∧ kidsR wide.length n.ks = true := by
 have h0 := stepR_kids h
 simp only [Bool.and_eq_true] at h0
 obtain ⟨⟨hk, hf⟩, hm⟩ := h0
 refine ⟨?_, hk⟩
 have hg := kids_get hw hk
 obtain ⟨hs, hl⟩ := sumR_min hg 0 (by omega) (by omega)
 have hr := stepR_range h
 have hwd : wideR ds n (sumR wide n.ks 0) ≤ 4096 := by
  unfold stepR at h
  split at h
  ·split at h
   ·rename_i hb; exact hb.2
   ·cases h
  ·cases h
 clear h hr
 obtain ⟨op, vr, a, b, bw, ws, ks⟩ := n
 simp only [] at *
 have hop : 1 ≤ op ∧ op ≤ 9 := by
  unfold manyR at hm
  simp only [] at hm
  split at hm
  ·omega
  ·split at hm
   ·omega
   ·split at hm
    ·omega
    ·split at hm
     ·omega
     ·cases hm
 rcases op_cases hop.1 hop.2 with rfl | rfl | rfl | rfl | rfl | rfl | rfl | rfl | rfl
 case inr.inr.inl =>
  simp only [fldR, fldT, tabR, manyR, fieldR, wideR] at *
  simp at hf hm hwd ⊢
  rw [hs] at hwd
  refine ⟨⟨⟨⟨hf.1.1.1, hf.2⟩, hf.1.2⟩, hf.1.1.2.1, hf.1.1.2.2⟩, by omega, by omega⟩
 all_goals
  simp only [fldR, fldT, tabR, manyR, fieldR] at *
  simp at hf hm ⊢
  grind
theorem bndR_if (x : Int) : (if (bndR x).2 = 0 then some (bndR x).1 else none) = (if 1 ≤ x ∧ x ≤ 4096 then some x else (none : Option Int)) := by
 by_cases h : 1 ≤ x ∧ x ≤ 4096
 ·rw [(bndR_spec x).1 h, if_pos rfl, if_pos h]
 ·rw [if_neg ((bndR_spec x).2 h), if_neg h]
theorem fldR_op {n : Tc} (h : fldR n = true) : 1 ≤ n.op ∧ n.op ≤ 9 := by
 simp only [fldR, Bool.and_eq_true, decide_eq_true_eq] at h
 exact h.1
theorem step_both {ds : List Dc} {wide : List Int} {n : Tc} (hw : ∀ x ∈ wide, 1 ≤ x ∧ x ≤ 4096) (hf : fldR n = true) (hk : kidsR wide.length n.ks = true) :
  stepR ds wide n = (if (nodR ds n (kwR wide n.ks)).2 = 0 then some (nodR ds n (kwR wide n.ks)).1 else none) := by
 have hg := kids_get hw hk
 obtain ⟨hs, hl⟩ := sumR_min hg 0 (by omega) (by omega)
 have hop := fldR_op hf
 unfold stepR
 rw [hk, Bool.true_and]
 obtain ⟨op, vr, a, b, bw, ws, ks⟩ := n
 simp only [] at *
 have hone : ks.length = 1 → (kwR wide ks).getD 0 0 = sumK (kwR wide ks) ∧ sumR wide ks 0 = sumK (kwR wide ks) ∧ 1 ≤ sumK (kwR wide ks) ∧ sumK (kwR wide ks) ≤ 4096 := by
  intro h1
  have e := kw_one (wide := wide) h1
  have : 1 ≤ sumK (kwR wide ks) ∧ sumK (kwR wide ks) ≤ 4096 := by
   match ks, h1 with
   | [k], _ =>
    have := hg k (by simp)
    simpa [kwR, sumK] using this
  exact ⟨e, by rw [hs]; omega, this⟩
 rcases op_cases hop.1 hop.2 with rfl | rfl | rfl | rfl | rfl | rfl | rfl | rfl | rfl
 ·-- a variable
  simp only [fldR, fldT, tabR] at hf
  simp at hf
  have hfm : (fieldR ⟨1, vr, a, b, bw, ws, ks⟩ && manyR ds.length ⟨1, vr, a, b, bw, ws, ks⟩) = decide (0 ≤ vr ∧ vr < (ds.length : Int)) := by
   rw [Bool.eq_iff_iff]
   simp [fieldR, manyR]
   grind
  rw [hfm]
  simp only [nodR, wideR, if_true]
  by_cases hv : 0 ≤ vr ∧ vr < (ds.length : Int)
  ·simp only [decide_eq_true hv, if_true, if_pos hv]
   rw [bndR_if]
  ·simp only [decide_eq_false hv, if_neg hv]
   simp
 ·-- bits
  simp only [fldR, fldT, tabR] at hf
  simp at hf
  have hfm : (fieldR ⟨2, vr, a, b, bw, ws, ks⟩ && manyR ds.length ⟨2, vr, a, b, bw, ws, ks⟩) = rightB bw ws := by
   rw [Bool.eq_iff_iff]
   simp [fieldR, manyR]
   grind
  rw [hfm]
  simp only [nodR, wideR]
  cases hR : rightB bw ws with
  | false => simp
  | true =>
   have : 1 ≤ bw ∧ bw ≤ 4096 := by
    simp [rightB, wOk] at hR
    exact hR.1.1
   simp [this]
 ·-- a cat
  simp only [fldR, fldT, tabR] at hf
  simp at hf
  have hfm : (fieldR ⟨3, vr, a, b, bw, ws, ks⟩ && manyR ds.length ⟨3, vr, a, b, bw, ws, ks⟩) = true := by
   simp [fieldR, manyR]
   grind
  rw [hfm]
  simp only [nodR, wideR]
  simp
  rw [bndR_if, hs]
  by_cases h : 1 ≤ sumK (kwR wide ks) ∧ sumK (kwR wide ks) ≤ 4096
  ·rw [if_pos h, if_pos (by omega)]
   congr 1
   omega
  ·rw [if_neg h, if_neg (by omega)]
 all_goals
  simp only [fldR, fldT, tabR] at hf
  simp at hf
  have h1 : ks.length = 1 := by omega
  obtain ⟨o1, o2, o3, o4⟩ := hone h1
  simp only [nodR, wideR, o1, o2]
  clear hone o1 o2 hs hl hg hk hw
  generalize sumK (kwR wide ks) = q at *
 ·have hfm : (fieldR ⟨4, vr, a, b, bw, ws, ks⟩ && manyR ds.length ⟨4, vr, a, b, bw, ws, ks⟩) = true := by
   simp [fieldR, manyR]
   grind
  rw [hfm]
  simp
  by_cases h : b < 0 ∨ a < b ∨ q ≤ a
  ·simp [h]
  ·rw [if_neg h, if_neg h]
   simp
   omega
 ·have hfm : (fieldR ⟨5, vr, a, b, bw, ws, ks⟩ && manyR ds.length ⟨5, vr, a, b, bw, ws, ks⟩) = true := by
   simp [fieldR, manyR]
   grind
  rw [hfm]
  simp
  by_cases h : 0 ≤ a ∧ a ≤ 4096
  ·simp only [if_pos h]
   rw [bndR_if]
  ·simp only [if_neg h]
   simp
 ·have hfm : (fieldR ⟨6, vr, a, b, bw, ws, ks⟩ && manyR ds.length ⟨6, vr, a, b, bw, ws, ks⟩) = true := by
   simp [fieldR, manyR]
   grind
  rw [hfm]
  simp
  by_cases h : 0 ≤ a ∧ a ≤ 4096
  ·simp only [if_pos h]
   rw [bndR_if]
  ·simp only [if_neg h]
   simp
 ·have hfm : (fieldR ⟨7, vr, a, b, bw, ws, ks⟩ && manyR ds.length ⟨7, vr, a, b, bw, ws, ks⟩) = true := by
   simp [fieldR, manyR]
   grind
  rw [hfm]
  simp
  by_cases h : 0 ≤ a ∧ a ≤ 4096
  ·simp only [if_pos h]
   simp [o3, o4]
  ·simp only [if_neg h]
   simp
 ·have hfm : (fieldR ⟨8, vr, a, b, bw, ws, ks⟩ && manyR ds.length ⟨8, vr, a, b, bw, ws, ks⟩) = true := by
   simp [fieldR, manyR]
   grind
  rw [hfm]
  simp
  by_cases h : 0 ≤ a ∧ a ≤ 4096
  ·simp only [if_pos h]
   simp [o3, o4]
  ·simp only [if_neg h]
   simp
 ·have hfm : (fieldR ⟨9, vr, a, b, bw, ws, ks⟩ && manyR ds.length ⟨9, vr, a, b, bw, ws, ks⟩) = true := by
   simp [fieldR, manyR]
   grind
  rw [hfm]
  simp
  by_cases h : 1 ≤ a ∧ a ≤ 4096
  ·simp only [if_pos h]
   rw [bndR_if]
  ·simp only [if_neg h]
   simp
theorem step_not {ds : List Dc} {wide : List Int} {n : Tc} (hw : ∀ x ∈ wide, 1 ≤ x ∧ x ≤ 4096) (h : fldR n = false ∨ kidsR wide.length n.ks = false) : stepR ds wide n = none := by
 cases hs : stepR ds wide n with
 | none => rfl
 | some v =>
  obtain ⟨h1, h2⟩ := step_some hw hs
  rcases h with h | h
  ·rw [h1] at h; cases h
  ·rw [h2] at h; cases h

theorem opOf_cat (a : Option Addr) (nd c : Nat) (vr A B bw : Int) (wa ka : Option Addr) (wl wc kl kc : Nat) (w : World) :
  Calls Tryz.prog 147 #[.slice a nd c, .agg #[.int .i64 3, .int .i64 vr, .int .i64 A, .int .i64 B, .int .i64 bw, .slice wa wl wc, .slice ka kl kc]] w fun e w' => e = .returned (.iface 190 (.agg #[])) ∧ Below w.heap.size w w' := by
 have hb0 : Below w.heap.size w (w.alloc (Obj.cells #[.int .i64 3, .int .i64 vr, .int .i64 A, .int .i64 B, .int .i64 bw, .slice wa wl wc, .slice ka kl kc] 119)) := (Below.refl _ _).alloc (Nat.le_refl _) _
 have B0 := kide hb0
 clear hb0
 go_enter Tryz.func147, Tryz.ntmps147
 go_wp2_with fail
 go_ret
 exact ⟨rfl, B0.out⟩
theorem opOf_part (a : Option Addr) (nd c : Nat) (vr A B bw : Int) (wa ka : Option Addr) (wl wc kl kc : Nat) (w : World) :
  Calls Tryz.prog 147 #[.slice a nd c, .agg #[.int .i64 4, .int .i64 vr, .int .i64 A, .int .i64 B, .int .i64 bw, .slice wa wl wc, .slice ka kl kc]] w fun e w' => e = .returned (.iface 192 (.agg #[.int .i64 A, .int .i64 B])) ∧ Below w.heap.size w w' := by
 have hb0 : Below w.heap.size w (w.alloc (Obj.cells #[.int .i64 4, .int .i64 vr, .int .i64 A, .int .i64 B, .int .i64 bw, .slice wa wl wc, .slice ka kl kc] 119)) := (Below.refl _ _).alloc (Nat.le_refl _) _
 have B0 := kide hb0
 clear hb0
 go_enter Tryz.func147, Tryz.ntmps147
 go_wp2_with fail
 go_ret
 exact ⟨rfl, B0.out⟩
theorem opOf_bits (a : Option Addr) (nd c : Nat) (vr A B bw : Int) (wa ka : Option Addr) (wl wc kl kc : Nat) (w : World) :
  Calls Tryz.prog 147 #[.slice a nd c, .agg #[.int .i64 2, .int .i64 vr, .int .i64 A, .int .i64 B, .int .i64 bw, .slice wa wl wc, .slice ka kl kc]] w fun e w' => e = .returned (.iface 188 (.agg #[.int .i64 bw, .slice wa wl wc])) ∧ Below w.heap.size w w' := by
 have hb0 : Below w.heap.size w (w.alloc (Obj.cells #[.int .i64 2, .int .i64 vr, .int .i64 A, .int .i64 B, .int .i64 bw, .slice wa wl wc, .slice ka kl kc] 119)) := (Below.refl _ _).alloc (Nat.le_refl _) _
 have B0 := kide hb0
 clear hb0
 go_enter Tryz.func147, Tryz.ntmps147
 go_wp2_with fail
 go_ret
 exact ⟨rfl, B0.out⟩
theorem opOf_rep (a : Option Addr) (nd c : Nat) (vr A B bw : Int) (wa ka : Option Addr) (wl wc kl kc : Nat) (w : World) :
  Calls Tryz.prog 147 #[.slice a nd c, .agg #[.int .i64 9, .int .i64 vr, .int .i64 A, .int .i64 B, .int .i64 bw, .slice wa wl wc, .slice ka kl kc]] w fun e w' => e = .returned (.iface 198 (.agg #[.int .i64 A])) ∧ Below w.heap.size w w' := by
 have hb0 : Below w.heap.size w (w.alloc (Obj.cells #[.int .i64 9, .int .i64 vr, .int .i64 A, .int .i64 B, .int .i64 bw, .slice wa wl wc, .slice ka kl kc] 119)) := (Below.refl _ _).alloc (Nat.le_refl _) _
 have B0 := kide hb0
 clear hb0
 go_enter Tryz.func147, Tryz.ntmps147
 go_wp2_with fail
 go_ret
 exact ⟨rfl, B0.out⟩
theorem opOf_zero (a : Option Addr) (nd c : Nat) (vr A B bw : Int) (wa ka : Option Addr) (wl wc kl kc : Nat) (w : World) (hG : GF w) :
  Calls Tryz.prog 147 #[.slice a nd c, .agg #[.int .i64 5, .int .i64 vr, .int .i64 A, .int .i64 B, .int .i64 bw, .slice wa wl wc, .slice ka kl kc]] w fun e w' => (∃ s, e = .returned (.iface 194 (.agg #[.string s, .int .i64 A]))) ∧ Below w.heap.size w w' := by
 have hb0 : Below w.heap.size w (w.alloc (Obj.cells #[.int .i64 5, .int .i64 vr, .int .i64 A, .int .i64 B, .int .i64 bw, .slice wa wl wc, .slice ka kl kc] 119)) := (Below.refl _ _).alloc (Nat.le_refl _) _
 have B0 := kide hb0
 clear hb0
 obtain ⟨⟨s, h0⟩, -⟩ := hG 5 (by omega)
 have l0 : 0 < w.heap.size := block_lt_of_cell h0
 simp only [Nat.reduceMul] at h0
 go_enter Tryz.func147, Tryz.ntmps147
 go_wp2_with fail
 go_quiet (fail)
 go_wp2_with fail
 go_ret
 exact ⟨⟨_, rfl⟩, below_drewN B0.out _⟩
theorem opOf_sign (a : Option Addr) (nd c : Nat) (vr A B bw : Int) (wa ka : Option Addr) (wl wc kl kc : Nat) (w : World) (hG : GF w) :
  Calls Tryz.prog 147 #[.slice a nd c, .agg #[.int .i64 6, .int .i64 vr, .int .i64 A, .int .i64 B, .int .i64 bw, .slice wa wl wc, .slice ka kl kc]] w fun e w' => (∃ s, e = .returned (.iface 194 (.agg #[.string s, .int .i64 A]))) ∧ Below w.heap.size w w' := by
 have hb0 : Below w.heap.size w (w.alloc (Obj.cells #[.int .i64 6, .int .i64 vr, .int .i64 A, .int .i64 B, .int .i64 bw, .slice wa wl wc, .slice ka kl kc] 119)) := (Below.refl _ _).alloc (Nat.le_refl _) _
 have B0 := kide hb0
 clear hb0
 obtain ⟨⟨s, h0⟩, -⟩ := hG 6 (by omega)
 have l0 : 0 < w.heap.size := block_lt_of_cell h0
 simp only [Nat.reduceMul] at h0
 go_enter Tryz.func147, Tryz.ntmps147
 go_wp2_with fail
 go_quiet (fail)
 go_wp2_with fail
 go_ret
 exact ⟨⟨_, rfl⟩, below_drewN B0.out _⟩
theorem opOf_left (a : Option Addr) (nd c : Nat) (vr A B bw : Int) (wa ka : Option Addr) (wl wc kl kc : Nat) (w : World) (hG : GF w) :
  Calls Tryz.prog 147 #[.slice a nd c, .agg #[.int .i64 7, .int .i64 vr, .int .i64 A, .int .i64 B, .int .i64 bw, .slice wa wl wc, .slice ka kl kc]] w fun e w' => (∃ s, e = .returned (.iface 196 (.agg #[.string s, .int .i64 A]))) ∧ Below w.heap.size w w' := by
 have hb0 : Below w.heap.size w (w.alloc (Obj.cells #[.int .i64 7, .int .i64 vr, .int .i64 A, .int .i64 B, .int .i64 bw, .slice wa wl wc, .slice ka kl kc] 119)) := (Below.refl _ _).alloc (Nat.le_refl _) _
 have B0 := kide hb0
 clear hb0
 obtain ⟨⟨s, h0⟩, -⟩ := hG 7 (by omega)
 have l0 : 0 < w.heap.size := block_lt_of_cell h0
 simp only [Nat.reduceMul] at h0
 go_enter Tryz.func147, Tryz.ntmps147
 go_wp2_with fail
 go_quiet (fail)
 go_wp2_with fail
 go_ret
 exact ⟨⟨_, rfl⟩, below_drewN B0.out _⟩
theorem opOf_right (a : Option Addr) (nd c : Nat) (vr A B bw : Int) (wa ka : Option Addr) (wl wc kl kc : Nat) (w : World) (hG : GF w) :
  Calls Tryz.prog 147 #[.slice a nd c, .agg #[.int .i64 8, .int .i64 vr, .int .i64 A, .int .i64 B, .int .i64 bw, .slice wa wl wc, .slice ka kl kc]] w fun e w' => (∃ s, e = .returned (.iface 196 (.agg #[.string s, .int .i64 A]))) ∧ Below w.heap.size w w' := by
 have hb0 : Below w.heap.size w (w.alloc (Obj.cells #[.int .i64 8, .int .i64 vr, .int .i64 A, .int .i64 B, .int .i64 bw, .slice wa wl wc, .slice ka kl kc] 119)) := (Below.refl _ _).alloc (Nat.le_refl _) _
 have B0 := kide hb0
 clear hb0
 obtain ⟨⟨s, h0⟩, -⟩ := hG 8 (by omega)
 have l0 : 0 < w.heap.size := block_lt_of_cell h0
 simp only [Nat.reduceMul] at h0
 go_enter Tryz.func147, Tryz.ntmps147
 go_wp2_with fail
 go_quiet (fail)
 go_wp2_with fail
 go_ret
 exact ⟨⟨_, rfl⟩, below_drewN B0.out _⟩
theorem opOf_off (a : Option Addr) (nd c : Nat) (vr A B bw : Int) (wa ka : Option Addr) (wl wc kl kc : Nat) (w : World) (h : vr < 0 ∨ (nd : Int) ≤ vr) (hn : nd ≤ 1048576) :
  Calls Tryz.prog 147 #[.slice a nd c, .agg #[.int .i64 1, .int .i64 vr, .int .i64 A, .int .i64 B, .int .i64 bw, .slice wa wl wc, .slice ka kl kc]] w fun e w' => e = .returned (.iface 186 (.agg #[.string .empty, .int .i64 0])) ∧ Below w.heap.size w w' := by
 have hb0 : Below w.heap.size w (w.alloc (Obj.cells #[.int .i64 1, .int .i64 vr, .int .i64 A, .int .i64 B, .int .i64 bw, .slice wa wl wc, .slice ka kl kc] 119)) := (Below.refl _ _).alloc (Nat.le_refl _) _
 have B0 := kide hb0
 clear hb0
 by_cases hv : vr < 0
 ·clear h
  go_enter Tryz.func147, Tryz.ntmps147
  go_wp2_with fail
  go_ret
  exact ⟨rfl, B0.out⟩
 have hv2 : (nd : Int) ≤ vr := by omega
 clear h
 go_enter Tryz.func147, Tryz.ntmps147
 go_wp2_with fail
 go_ret
 exact ⟨rfl, B0.out⟩
theorem opOf_var (a : Option Addr) (nd c : Nat) (vr A B bw : Int) (wa ka : Option Addr) (wl wc kl kc : Nat) (w : World) (b o k : Nat) (s : ByteArray) (x : Int) (ha : a = some ⟨b, o, none⟩) (hv : vr = (k : Int)) (hk : k < nd) (hn : nd ≤ 1048576) (h0 : w.cell? ⟨b, o + k * 2, none⟩ = some (.string s)) (h1 : w.cell? ⟨b, o + k * 2 + 1, none⟩ = some (.int .i64 x)) :
  Calls Tryz.prog 147 #[.slice a nd c, .agg #[.int .i64 1, .int .i64 vr, .int .i64 A, .int .i64 B, .int .i64 bw, .slice wa wl wc, .slice ka kl kc]] w fun e w' => e = .returned (.iface 186 (.agg #[.string s, .int .i64 x])) ∧ Below w.heap.size w w' := by
 have hb0 : Below w.heap.size w (w.alloc (Obj.cells #[.int .i64 1, .int .i64 vr, .int .i64 A, .int .i64 B, .int .i64 bw, .slice wa wl wc, .slice ka kl kc] 119)) := (Below.refl _ _).alloc (Nat.le_refl _) _
 have B0 := kide hb0
 clear hb0
 subst ha
 subst hv
 have lb : b < w.heap.size := block_lt_of_cell h0
 have hki : (k : Int) < (nd : Int) := by omega
 go_enter Tryz.func147, Tryz.ntmps147
 go_wp2_with fail
 go_ret
 exact ⟨rfl, B0.out⟩

set_option maxHeartbeats 1000000 in
theorem varWidth_any (s : ByteArray) (x : Int) (ky : Option Addr) (kl kc : Nat) (w : World) :
  Calls Tryz.prog 169 #[.agg #[.string s, .int .i64 x], .slice ky kl kc] w fun e w' => e = .returned (.tuple #[.int .i64 (bndR x).1, .int .i64 (bndR x).2]) ∧ Below w.heap.size w w' := by
 have hb0 : Below w.heap.size w (w.alloc (Obj.cells #[.string s, .int .i64 x] 186)) := (Below.refl _ _).alloc (Nat.le_refl _) _
 have B0 := kide hb0
 clear hb0
 go_enter Tryz.func169, Tryz.ntmps169
 go_wp2_with fail
 refine Calls.mono (boundWidth_any x _) ?_
 rintro e w1 ⟨rfl, rfl⟩
 go_wp2_with fail
 go_returns
 exact ⟨rfl, B0.out⟩
set_option maxHeartbeats 1000000 in
theorem bitsWidth_any (bw : Int) (wa : Option Addr) (wc : Nat) (ws : List Nat) (ky : Option Addr) (kl kc : Nat) (w : World) (hr : Rd w wa ws) :
  Calls Tryz.prog 171 #[.agg #[.int .i64 bw, .slice wa ws.length wc], .slice ky kl kc] w fun e w' => e = .returned (.tuple #[.int .i64 (if rightB bw ws = true then (bw, 0) else ((0 : Int), (15 : Int))).1, .int .i64 (if rightB bw ws = true then (bw, 0) else ((0 : Int), (15 : Int))).2]) ∧ Below w.heap.size w w' := by
 have hb0 : Below w.heap.size w (w.alloc (Obj.cells #[.int .i64 bw, .slice wa ws.length wc] 188)) := (Below.refl _ _).alloc (Nat.le_refl _) _
 have B0 := kide hb0
 clear hb0
 have HOK := kide (fun u (hu : Below w.heap.size w u) => implOk_any bw wa wc ws u (hr.later hu))
 clear hr
 cases hR : rightB bw ws with
 | false =>
  rw [hR] at HOK
  rw [if_neg (by simp)]
  clear hR
  go_enter Tryz.func171, Tryz.ntmps171
  go_wp2_with fail
  refine Calls.mono (HOK.out _ B0.out) ?_
  rintro e w1 ⟨rfl, hb1⟩
  go_wp2_with fail
  go_returns
  exact ⟨rfl, B0.out.trans (hb1.mono B0.out.size)⟩
 | true =>
  rw [hR] at HOK
  rw [if_pos rfl]
  clear hR
  go_enter Tryz.func171, Tryz.ntmps171
  go_wp2_with fail
  refine Calls.mono (HOK.out _ B0.out) ?_
  rintro e w1 ⟨rfl, hb1⟩
  have k0 := kcell hb1 w.heap.size 0 (by simp)
  simp at k0
  go_wp2_with fail
  go_returns
  exact ⟨rfl, B0.out.trans (hb1.mono B0.out.size)⟩
set_option maxHeartbeats 1000000 in
theorem partWidth_any (A B : Int) (ky : Option Addr) (kl kc : Nat) (w : World) (b o : Nat) (q : Int) (ha : ky = some ⟨b, o, none⟩) (hk : kl = 1) (h0 : w.cell? ⟨b, o, none⟩ = some (.int .i64 q)) (hq1 : 1 ≤ q) (hq2 : q ≤ 4096) :
  Calls Tryz.prog 173 #[.agg #[.int .i64 A, .int .i64 B], .slice ky kl kc] w fun e w' => e = .returned (.tuple #[.int .i64 (if B < 0 ∨ A < B ∨ q ≤ A then ((0 : Int), (15 : Int)) else (A - B + 1, 0)).1, .int .i64 (if B < 0 ∨ A < B ∨ q ≤ A then ((0 : Int), (15 : Int)) else (A - B + 1, 0)).2]) ∧ Below w.heap.size w w' := by
 have hb0 : Below w.heap.size w (w.alloc (Obj.cells #[.int .i64 A, .int .i64 B] 192)) := (Below.refl _ _).alloc (Nat.le_refl _) _
 have B0 := kide hb0
 clear hb0
 subst ha
 subst hk
 have lb : b < w.heap.size := block_lt_of_cell h0
 by_cases h : B < 0 ∨ A < B ∨ q ≤ A
 ·rw [if_pos h]
  by_cases h1 : B < 0
  ·clear h
   go_enter Tryz.func173, Tryz.ntmps173
   go_wp2_with fail
   try (go_quiet (fail); go_wp2_with fail)
   try (go_quiet (fail); go_wp2_with fail)
   go_returns
   exact ⟨rfl, by first | exact B0.out | exact below_drewN B0.out _ | exact below_drewN (below_drewN B0.out _) _⟩
  by_cases h2 : A < B
  ·clear h
   go_enter Tryz.func173, Tryz.ntmps173
   go_wp2_with fail
   try (go_quiet (fail); go_wp2_with fail)
   try (go_quiet (fail); go_wp2_with fail)
   go_returns
   exact ⟨rfl, by first | exact B0.out | exact below_drewN B0.out _ | exact below_drewN (below_drewN B0.out _) _⟩
  have h3 : q ≤ A := by omega
  clear h
  go_enter Tryz.func173, Tryz.ntmps173
  go_wp2_with fail
  try (go_quiet (fail); go_wp2_with fail)
  try (go_quiet (fail); go_wp2_with fail)
  go_returns
  exact ⟨rfl, by first | exact B0.out | exact below_drewN B0.out _ | exact below_drewN (below_drewN B0.out _) _⟩
 ·rw [if_neg h]
  have h1 : 0 ≤ B := by omega
  have h2 : B ≤ A := by omega
  have h3 : A < q := by omega
  clear h
  go_enter Tryz.func173, Tryz.ntmps173
  go_wp2_with fail
  try (go_quiet (fail); go_wp2_with fail)
  try (go_quiet (fail); go_wp2_with fail)
  go_returns
  exact ⟨rfl, by first | exact B0.out | exact below_drewN B0.out _ | exact below_drewN (below_drewN B0.out _) _⟩
set_option maxHeartbeats 1000000 in
theorem widenWidth_any (s : ByteArray) (A : Int) (ky : Option Addr) (kl kc : Nat) (w : World) (b o : Nat) (q : Int) (ha : ky = some ⟨b, o, none⟩) (hk : kl = 1) (h0 : w.cell? ⟨b, o, none⟩ = some (.int .i64 q)) (hq1 : 1 ≤ q) (hq2 : q ≤ 4096) :
  Calls Tryz.prog 174 #[.agg #[.string s, .int .i64 A], .slice ky kl kc] w fun e w' => e = .returned (.tuple #[.int .i64 (if 0 ≤ A ∧ A ≤ 4096 then bndR (q + A) else ((0 : Int), (15 : Int))).1, .int .i64 (if 0 ≤ A ∧ A ≤ 4096 then bndR (q + A) else ((0 : Int), (15 : Int))).2]) ∧ Below w.heap.size w w' := by
 have hb0 : Below w.heap.size w (w.alloc (Obj.cells #[.string s, .int .i64 A] 194)) := (Below.refl _ _).alloc (Nat.le_refl _) _
 have B0 := kide hb0
 clear hb0
 subst ha
 subst hk
 have lb : b < w.heap.size := block_lt_of_cell h0
 by_cases h : 0 ≤ A ∧ A ≤ 4096
 ·rw [if_pos h]
  obtain ⟨h1, h2⟩ := h
  go_enter Tryz.func174, Tryz.ntmps174
  go_wp2_with fail
  go_quiet ((go_at_call 170; exact Calls.quiet_of_same (boundWidth_any _ _)))
  go_wp2_with fail
  go_returns
  exact ⟨rfl, by first | exact B0.out | exact below_drewN B0.out _ | exact below_drewN (below_drewN B0.out _) _⟩
 ·rw [if_neg h]
  by_cases h1 : A < 0
  ·clear h
   go_enter Tryz.func174, Tryz.ntmps174
   go_wp2_with fail
   try (go_quiet (fail); go_wp2_with fail)
   try (go_quiet (fail); go_wp2_with fail)
   go_returns
   exact ⟨rfl, by first | exact B0.out | exact below_drewN B0.out _ | exact below_drewN (below_drewN B0.out _) _⟩
  have h2 : 4096 < A := by omega
  clear h
  go_enter Tryz.func174, Tryz.ntmps174
  go_wp2_with fail
  try (go_quiet (fail); go_wp2_with fail)
  try (go_quiet (fail); go_wp2_with fail)
  go_returns
  exact ⟨rfl, by first | exact B0.out | exact below_drewN B0.out _ | exact below_drewN (below_drewN B0.out _) _⟩
set_option maxHeartbeats 1000000 in
theorem turnWidth_any (s : ByteArray) (A : Int) (ky : Option Addr) (kl kc : Nat) (w : World) (b o : Nat) (q : Int) (ha : ky = some ⟨b, o, none⟩) (hk : kl = 1) (h0 : w.cell? ⟨b, o, none⟩ = some (.int .i64 q)) (hq1 : 1 ≤ q) (hq2 : q ≤ 4096) :
  Calls Tryz.prog 175 #[.agg #[.string s, .int .i64 A], .slice ky kl kc] w fun e w' => e = .returned (.tuple #[.int .i64 (if 0 ≤ A ∧ A ≤ 4096 then (q, 0) else ((0 : Int), (15 : Int))).1, .int .i64 (if 0 ≤ A ∧ A ≤ 4096 then (q, 0) else ((0 : Int), (15 : Int))).2]) ∧ Below w.heap.size w w' := by
 have hb0 : Below w.heap.size w (w.alloc (Obj.cells #[.string s, .int .i64 A] 196)) := (Below.refl _ _).alloc (Nat.le_refl _) _
 have B0 := kide hb0
 clear hb0
 subst ha
 subst hk
 have lb : b < w.heap.size := block_lt_of_cell h0
 by_cases h : 0 ≤ A ∧ A ≤ 4096
 ·rw [if_pos h]
  obtain ⟨h1, h2⟩ := h
  go_enter Tryz.func175, Tryz.ntmps175
  go_wp2_with fail
  try (go_quiet (fail); go_wp2_with fail)
  try (go_quiet (fail); go_wp2_with fail)
  go_returns
  exact ⟨rfl, by first | exact B0.out | exact below_drewN B0.out _ | exact below_drewN (below_drewN B0.out _) _⟩
 ·rw [if_neg h]
  by_cases h1 : A < 0
  ·clear h
   go_enter Tryz.func175, Tryz.ntmps175
   go_wp2_with fail
   try (go_quiet (fail); go_wp2_with fail)
   try (go_quiet (fail); go_wp2_with fail)
   go_returns
   exact ⟨rfl, by first | exact B0.out | exact below_drewN B0.out _ | exact below_drewN (below_drewN B0.out _) _⟩
  have h2 : 4096 < A := by omega
  clear h
  go_enter Tryz.func175, Tryz.ntmps175
  go_wp2_with fail
  try (go_quiet (fail); go_wp2_with fail)
  try (go_quiet (fail); go_wp2_with fail)
  go_returns
  exact ⟨rfl, by first | exact B0.out | exact below_drewN B0.out _ | exact below_drewN (below_drewN B0.out _) _⟩
set_option maxHeartbeats 1000000 in
theorem repWidth_any (A : Int) (ky : Option Addr) (kl kc : Nat) (w : World) (b o : Nat) (q : Int) (ha : ky = some ⟨b, o, none⟩) (hk : kl = 1) (h0 : w.cell? ⟨b, o, none⟩ = some (.int .i64 q)) (hq1 : 1 ≤ q) (hq2 : q ≤ 4096) :
  Calls Tryz.prog 176 #[.agg #[.int .i64 A], .slice ky kl kc] w fun e w' => e = .returned (.tuple #[.int .i64 (if 1 ≤ A ∧ A ≤ 4096 then bndR (q * A) else ((0 : Int), (15 : Int))).1, .int .i64 (if 1 ≤ A ∧ A ≤ 4096 then bndR (q * A) else ((0 : Int), (15 : Int))).2]) ∧ Below w.heap.size w w' := by
 have hb0 : Below w.heap.size w (w.alloc (Obj.cells #[.int .i64 A] 198)) := (Below.refl _ _).alloc (Nat.le_refl _) _
 have B0 := kide hb0
 clear hb0
 subst ha
 subst hk
 have lb : b < w.heap.size := block_lt_of_cell h0
 by_cases h : 1 ≤ A ∧ A ≤ 4096
 ·rw [if_pos h]
  obtain ⟨h1, h2⟩ := h
  have hqa : 0 ≤ q * A ∧ q * A ≤ 16777216 := ⟨Int.mul_nonneg (by omega) (by omega), by have := Int.mul_le_mul hq2 h2 (by omega) (by omega); omega⟩
  obtain ⟨hqa1, hqa2⟩ := hqa
  go_enter Tryz.func176, Tryz.ntmps176
  go_wp2_with fail
  go_quiet ((go_at_call 170; exact Calls.quiet_of_same (boundWidth_any _ _)))
  go_wp2_with fail
  go_returns
  exact ⟨rfl, by first | exact B0.out | exact below_drewN B0.out _ | exact below_drewN (below_drewN B0.out _) _⟩
 ·rw [if_neg h]
  by_cases h1 : A < 1
  ·clear h
   go_enter Tryz.func176, Tryz.ntmps176
   go_wp2_with fail
   try (go_quiet (fail); go_wp2_with fail)
   try (go_quiet (fail); go_wp2_with fail)
   go_returns
   exact ⟨rfl, by first | exact B0.out | exact below_drewN B0.out _ | exact below_drewN (below_drewN B0.out _) _⟩
  have h2 : 4096 < A := by omega
  clear h
  go_enter Tryz.func176, Tryz.ntmps176
  go_wp2_with fail
  try (go_quiet (fail); go_wp2_with fail)
  try (go_quiet (fail); go_wp2_with fail)
  go_returns
  exact ⟨rfl, by first | exact B0.out | exact below_drewN B0.out _ | exact below_drewN (below_drewN B0.out _) _⟩
theorem sumK_append (xs ys : List Int) : sumK (xs ++ ys) = sumK xs + sumK ys := by
 induction xs with
 | nil => simp [sumK]
 | cons x t ih => simp [sumK, ih]; omega
theorem sumK_take {xs : List Int} {k : Nat} (h : k < xs.length) : sumK (xs.take (k + 1)) = sumK (xs.take k) + xs.getD k 0 := by
 rw [List.take_add_one, sumK_append]
 simp [sumK, List.getD, h]
theorem sumK_le {xs : List Int} (h : ∀ x ∈ xs, 1 ≤ x ∧ x ≤ 4096) : 0 ≤ sumK xs ∧ sumK xs ≤ 4096 * xs.length := by
 induction xs with
 | nil => simp [sumK]
 | cons x t ih =>
  have h1 := h x (by simp)
  have h2 := ih (fun y hy => h y (by simp [hy]))
  simp only [sumK, List.length_cons]
  omega
set_option maxHeartbeats 1000000 in
theorem catWidth_any (ky : Option Addr) (n kc : Nat) (ys : List Int) (w : World) (hr : RdI w ky ys) (hn : ys.length = n) (hb : ∀ x ∈ ys, 1 ≤ x ∧ x ≤ 4096) (hl : n ≤ 4096) :
  Calls Tryz.prog 172 #[.agg #[], .slice ky n kc] w fun e w' => e = .returned (.tuple #[.int .i64 (bndR (sumK ys)).1, .int .i64 (bndR (sumK ys)).2]) ∧ Below w.heap.size w w' := by
 subst hn
 have hb0 : Below w.heap.size w (w.alloc (Obj.cells #[] 190)) := (Below.refl _ _).alloc (Nat.le_refl _) _
 have HR := kide (fun u (hu : Below w.heap.size w u) => hr.later hu)
 have HY := kide hb
 clear hr hb
 go_enter Tryz.func172, Tryz.ntmps172
 go_wp2_with fail
 go_loopw [6, 11] (fun q i wr => ∃ k : Nat, k ≤ ys.length ∧ i = .int .i64 k ∧ q = .int .i64 (sumK (ys.take k)) ∧ Below w.heap.size w wr) (fun _ i _ => ys.length - (intOf i).toNat)
 case atStart => exact ⟨0, Nat.zero_le _, rfl, by simp [sumK], by first | exact hb0 | exact Below.refl _ _⟩
 case round =>
  obtain ⟨k, hk, rfl, rfl, hbel⟩ := hrel
  have HB := kide hbel
  by_cases hlt : k < ys.length
  ·obtain ⟨-, -, h | ⟨b, o, rfl, hc⟩⟩ := HR.out wr hbel
   ·subst h; simp at hlt
   have p0 := hc k hlt
   have hki : (k : Int) < (ys.length : Int) := by omega
   have hst := sumK_take hlt
   have hx := HY.out _ (List.getElem_mem hlt)
   have hxe : ys.getD k 0 = ys[k] := by simp [List.getD, hlt]
   rw [← hxe] at hx
   have hle := sumK_le (xs := ys.take k) (fun x hx => HY.out x (List.mem_of_mem_take hx))
   have htl : (ys.take k).length ≤ 4096 := by simp; omega
   generalize ys.getD k 0 = x at *
   generalize sumK (ys.take k) = Q at *
   generalize (ys.take k).length = L at *
   obtain ⟨hx1, hx2⟩ := hx
   obtain ⟨hle1, hle2⟩ := hle
   have hQ : Q ≤ 16777216 := by omega
   have HST := kide hst
   clear hc hst hxe hbel hb0 hle2 htl
   go_wp2_with fail
   go_roundw
   case rel => exact ⟨k + 1, by omega, by go_num, by rw [HST.out], HB.out⟩
   case measure => simp [intOf]; omega
  ·have e : k = ys.length := by omega
   rw [e, List.take_length]
   clear hbel hb0 hlt
   go_wp2_with fail
   refine Calls.mono (boundWidth_any (sumK ys) _) ?_
   rintro e w1 ⟨rfl, rfl⟩
   go_wp2_with fail
   go_returns
   exact ⟨rfl, HB.out⟩

end Go.Proofs.YtkngpgonmedgpaaGreatDoor
