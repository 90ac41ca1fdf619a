/- By right values each node of a right term is a right word, of its width. No program in sight. -/
import Derived.Test.YtbpodkdlhjgncaaGreatDoorZVH
namespace Go.Proofs.YtbpodkdlhjgncaaGreatDoor
set_option linter.unusedVariables false
set_option linter.unusedSimpArgs false
open Go.RowKit

theorem sumR_eq (wide : List Int) (hw : ∀ i, 0 ≤ wide.getD i 0) : ∀ (ks : List Int) (s : Int), 0 ≤ s → sumR wide ks s ≤ 4096 → sumR wide ks s = s + (ks.map fun k => wide.getD k.toNat 0).sum ∧ s ≤ 4096
  | [], s, _, h => by simp [sumR] at h ⊢; exact h
  | k :: t, s, h0, h => by
    rw [sumR] at h ⊢
    have a := hw k.toNat
    obtain ⟨h1, h2⟩ := sumR_eq wide hw t _ (by omega) h
    rw [List.map_cons, List.sum_cons]
    constructor
    · rw [h1]; omega
    · omega

theorem sumR_one (wide : List Int) (k : Int) (h : 0 ≤ wide.getD k.toNat 0 ∧ wide.getD k.toNat 0 ≤ 4096) : sumR wide [k] 0 = wide.getD k.toNat 0 := by
  rw [sumR, sumR]; omega

/-- What stands of the nodes ahead. -/
structure Ahead (wide : List Int) (all : List Wd) : Prop where
  len : all.length = wide.length
  ok : ∀ i, i < all.length → (all.getD i (0, [])).1 = wide.getD i 0 ∧ okWd (all.getD i (0, []))

theorem Ahead.nil : Ahead [] [] := ⟨rfl, fun i hi => by simp at hi⟩

theorem Ahead.push {wide : List Int} {all : List Wd} {v : Int} {x : Wd} (h : Ahead wide all) (h1 : x.1 = v) (h2 : okWd x) : Ahead (wide ++ [v]) (all ++ [x]) := by
  refine ⟨by simp [h.len], fun i hi => ?_⟩
  by_cases hlt : i < all.length
  · have := h.ok i hlt
    have hw : i < wide.length := by rw [← h.len]; exact hlt
    have e1 : (all ++ [x]).getD i (0, []) = all.getD i (0, []) := getD_left _ _ _ _ hlt
    have e2 : (wide ++ [v]).getD i 0 = wide.getD i 0 := getD_left _ _ _ _ hw
    rw [e1, e2]
    exact this
  · have e : i = all.length := by simp at hi; omega
    subst e
    have e1 : (all ++ [x]).getD all.length (0, []) = x := by simp [List.getD]
    have e2 : (wide ++ [v]).getD all.length 0 = v := by rw [h.len]; simp [List.getD]
    rw [e1, e2]
    exact ⟨h1, h2⟩

theorem Ahead.mem {wide : List Int} {all : List Wd} (h : Ahead wide all) : ∀ x ∈ all, okWd x := fun x hx => by
  obtain ⟨i, hi, rfl⟩ := List.mem_iff_getElem.1 hx
  have := (h.ok i hi).2
  simpa [List.getD, hi] using this

theorem Ahead.wide_nonneg {wide : List Int} {all : List Wd} (h : Ahead wide all) (i : Nat) : 0 ≤ wide.getD i 0 := by
  by_cases hi : i < all.length
  · obtain ⟨a, b⟩ := h.ok i hi
    have := right_W b.1
    omega
  · have : wide.getD i 0 = 0 := by simp [List.getD, List.getElem?_eq_none (show wide.length ≤ i by rw [← h.len]; omega)]
    omega

/-- Kids that stand ahead are right words. -/
theorem Ahead.kids {wide : List Int} {all : List Wd} (h : Ahead wide all) {ks : List Int} (hk : kidsR wide.length ks = true) : (∀ x ∈ kidsV all ks, okWd x) ∧ sumV (kidsV all ks) = (ks.map fun k => wide.getD k.toNat 0).sum := by
  induction ks with
  | nil => simp [kidsV, sumV]
  | cons k t ih =>
    simp only [kidsR, List.all_cons, Bool.and_eq_true, decide_eq_true_eq] at hk ih
    obtain ⟨h1, h2⟩ := ih hk.2
    obtain ⟨a, b⟩ := h.ok k.toNat (by rw [h.len]; omega)
    refine ⟨fun x hx => ?_, ?_⟩
    · simp only [kidsV, List.map_cons, List.mem_cons] at hx
      rcases hx with rfl | hx
      · exact b
      · exact h1 x (by simpa [kidsV] using hx)
    · simp only [kidsV, sumV, List.map_cons, List.sum_cons] at h2 ⊢
      rw [a, h2]

theorem part_ok {x : Wd} (hx : okWd x) {a b : Int} (h0 : 0 ≤ b) (h1 : b ≤ a) (h2 : a < x.1) : (two (partR x.1 x.2 a b)).1 = a - b + 1 ∧ okWd (two (partR x.1 x.2 a b)) := by
  have hr := right_W hx.1
  have hl : (((bitsTo x.2 x.1.toNat).drop b.toNat).take (a - b + 1).toNat).length = (a - b + 1).toNat := by
    rw [List.length_take, List.length_drop, bitsTo_len]; omega
  rw [partR, if_pos ⟨hx.1, h0, h1, h2⟩]
  refine ⟨rfl, pk_ok _ (fun z hz => bitsTo_le _ _ z (List.mem_of_mem_drop (List.mem_of_mem_take hz))) (by omega) (by omega) (by omega)⟩

theorem wdn_ok {x : Wd} (hx : okWd x) {a : Int} (s : Bool) (h0 : 0 ≤ a) (h1 : a ≤ 4096) (h2 : x.1 + a ≤ 4096) : (two (wdnR x.1 x.2 a s)).1 = x.1 + a ∧ okWd (two (wdnR x.1 x.2 a s)) := by
  have hr := right_W hx.1
  have hl : (bitsTo x.2 x.1.toNat ++ List.replicate a.toNat (topOf x.1.toNat x.2 s)).length = (x.1 + a).toNat := by
    rw [List.length_append, bitsTo_len, List.length_replicate]; omega
  rw [wdnR, if_pos ⟨hx.1, h0, h1, h2⟩]
  refine ⟨rfl, pk_ok _ (fun z hz => ?_) (by omega) (by omega) (by omega)⟩
  rcases List.mem_append.1 hz with hz | hz
  · exact bitsTo_le _ _ z hz
  · rw [List.eq_of_mem_replicate hz]; exact topOf_le _ _ _

theorem turn_ok {x : Wd} (hx : okWd x) {a : Int} (h0 : 0 ≤ a) (h1 : a ≤ 4096) : (two (turnR x.1 x.2 a)).1 = x.1 ∧ okWd (two (turnR x.1 x.2 a)) := by
  have hr := right_W hx.1
  have hl : (turnL (bitsTo x.2 x.1.toNat) (a.toNat % x.1.toNat)).length = x.1.toNat := by rw [turnL_len, bitsTo_len]
  rw [turnR, if_pos ⟨hx.1, h0, h1⟩]
  exact ⟨rfl, pk_ok _ (fun z hz => bitsTo_le _ _ z (turnL_mem _ _ _ hz)) (by omega) (by omega) (by omega)⟩

theorem rep_ok {x : Wd} (hx : okWd x) {a : Int} (h0 : 1 ≤ a) (h1 : a ≤ 4096) (h2 : x.1 * a ≤ 4096) : (two (repR x.1 x.2 a)).1 = x.1 * a ∧ okWd (two (repR x.1 x.2 a)) := by
  have hr := right_W hx.1
  have hp : 1 * 1 ≤ x.1 * a := Int.mul_le_mul hr.1 h0 (by omega) (by omega)
  have hl : (repList (bitsTo x.2 x.1.toNat) a.toNat).length = (x.1 * a).toNat := by
    rw [repList_len, bitsTo_len]
    have : ((a.toNat * x.1.toNat : Nat) : Int) = x.1 * a := by
      rw [Int.natCast_mul, Int.toNat_of_nonneg (by omega), Int.toNat_of_nonneg (by omega), Int.mul_comm]
    omega
  rw [repR, if_pos ⟨hx.1, h0, h1, h2⟩]
  exact ⟨rfl, pk_ok _ (fun z hz => bitsTo_le _ _ z (repList_mem _ _ _ hz)) (by omega) (by omega) (by omega)⟩

theorem emod_range (a W : Int) (h : 1 ≤ W) : 0 ≤ (W - a % W) % W ∧ (W - a % W) % W < W := ⟨Int.emod_nonneg _ (by omega), Int.emod_lt_of_pos _ (by omega)⟩

/-- What is known of a node at its place. -/
structure NodeAt (vs all : List Wd) (n : Tc) : Prop where
  op : 1 ≤ n.op ∧ n.op ≤ 9
  kid : ∀ j ∈ n.ks, 0 ≤ j ∧ j < (all.length : Int)
  var : n.op = 1 → 0 ≤ n.vr ∧ n.vr < (vs.length : Int)
  many : n.op = 3 → 2 ≤ n.ks.length
  fit : n.op = 3 → sumV (kidsV all n.ks) ≤ 4096
  one : 4 ≤ n.op → n.ks.length = 1
  wide : n.op = 8 → 0 ≤ n.a ∧ n.a ≤ 4096
  oks : ∀ x ∈ all, okWd x
  is : okWd (nodV vs all n)

theorem nodV_ok {ds : List Dc} {vs all : List Wd} {wide : List Int} {n : Tc} {v : Int} (ha : Ahead wide all) (hv : valR ds vs = true) (hvb : ∀ x ∈ vs, ∀ y ∈ x.2, y < 18446744073709551616) (hnb : ∀ y ∈ n.ws, y < 18446744073709551616) (hs : stepR ds wide n = some v) :
    NodeAt vs all n ∧ (nodV vs all n).1 = v := by
  obtain ⟨-, hvl, hvr⟩ := valR_iff.1 hv
  have hcond := stepR_kids hs
  simp only [Bool.and_eq_true] at hcond
  obtain ⟨⟨hk, -⟩, hm⟩ := hcond
  obtain ⟨hko, hks⟩ := ha.kids hk
  have hval : 1 ≤ wideR ds n (sumR wide n.ks 0) ∧ wideR ds n (sumR wide n.ks 0) ≤ 4096 ∧ wideR ds n (sumR wide n.ks 0) = v := by
    unfold stepR at hs
    split at hs
    · split at hs
      · rename_i h; cases hs; exact ⟨h.1, h.2, rfl⟩
      · cases hs
    · cases hs
  obtain ⟨hv1, hv2, hv3⟩ := hval
  have hkid : ∀ j ∈ n.ks, 0 ≤ j ∧ j < (all.length : Int) := fun j hj => by
    simp only [kidsR, List.all_eq_true, decide_eq_true_eq] at hk
    have := hk j hj
    rw [ha.len]
    omega
  obtain ⟨op, vr, A, B, bw, ws, ks⟩ := n
  simp only [] at *
  have hop : 1 ≤ op ∧ op ≤ 9 := by
    unfold manyR at hm
    simp only [] at hm
    repeat' split at hm
    all_goals first | omega | (simp at hm)
  have hwn := ha.wide_nonneg
  have h1k : 4 ≤ op → ks.length = 1 := fun h => by
    unfold manyR at hm
    simp only [] at hm
    rw [if_neg (by omega), if_neg (by omega), if_neg (by omega), if_pos (by omega)] at hm
    simpa using hm
  have hone : 4 ≤ op → sumR wide ks 0 = (all.getD (ks.getD 0 0).toNat (0, [])).1 ∧ okWd (all.getD (ks.getD 0 0).toNat (0, [])) := fun h => by
    match ks, h1k h, hkid with
    | [k], _, hkid =>
      have hkk := hkid k (by simp)
      obtain ⟨a, b⟩ := ha.ok k.toNat (by omega)
      have hr := right_W b.1
      have e : ([k] : List Int).getD 0 0 = k := rfl
      rw [e, sumR_one wide k (by omega)]
      exact ⟨a.symm, b⟩
  have fin : 4 ≤ op → (op = 8 → 0 ≤ A ∧ A ≤ 4096) → ∀ y : Wd, nodV vs all ⟨op, vr, A, B, bw, ws, ks⟩ = y → y.1 = v → okWd y → NodeAt vs all ⟨op, vr, A, B, bw, ws, ks⟩ ∧ (nodV vs all ⟨op, vr, A, B, bw, ws, ks⟩).1 = v := fun h4 h8 y hy h1 h2 =>
    ⟨⟨hop, hkid, fun h => by simp only [] at h; omega, fun h => by simp only [] at h; omega, fun h => by simp only [] at h; omega, h1k, h8, ha.mem, by rw [hy]; exact h2⟩, by rw [hy]; exact h1⟩
  rcases op_nine hop.1 hop.2 with rfl | rfl | rfl | rfl | rfl | rfl | rfl | rfl | rfl
  · have hm' : ks.length = 0 ∧ 0 ≤ vr ∧ vr ≤ (ds.length : Int) - 1 := by simpa [manyR] using hm
    have hlt : vr.toNat < vs.length := by omega
    obtain ⟨a, b⟩ := hvr vr.toNat hlt
    have hb : okWd (vs.getD vr.toNat (0, [])) := ⟨a, hvb _ (by simp [List.getD, hlt])⟩
    have e : nodV vs all ⟨1, vr, A, B, bw, ws, ks⟩ = vs.getD vr.toNat (0, []) := by simp [nodV]
    simp only [wideR, if_true] at hv3
    refine ⟨⟨hop, hkid, fun _ => ⟨hm'.2.1, show vr < (vs.length : Int) by omega⟩, by simp, by simp, by simp, by simp, ha.mem, by rw [e]; exact hb⟩, by rw [e, b]; exact hv3⟩
  · have hm' : ks.length = 0 ∧ rightB bw ws = true := by simpa [manyR] using hm
    have e : nodV vs all ⟨2, vr, A, B, bw, ws, ks⟩ = (bw, ws) := by simp [nodV]
    have hv3' : bw = v := by simpa [wideR] using hv3
    exact ⟨⟨hop, hkid, by simp, by simp, by simp, by simp, by simp, ha.mem, by rw [e]; exact ⟨hm'.2, hnb⟩⟩, by rw [e]; exact hv3'⟩
  · have hm' : 2 ≤ ks.length := by simpa [manyR] using hm
    have e : nodV vs all ⟨3, vr, A, B, bw, ws, ks⟩ = catS (kidsV all ks) := by simp [nodV]
    have hw : wideR ds ⟨3, vr, A, B, bw, ws, ks⟩ (sumR wide ks 0) = sumR wide ks 0 := by simp [wideR]
    rw [hw] at hv1 hv2 hv3
    obtain ⟨hse, -⟩ := sumR_eq wide hwn ks 0 (by omega) hv2
    have hsum : sumV (kidsV all ks) = v := by rw [hks, ← hv3, hse]; omega
    obtain ⟨c1, c2⟩ := cat_all hko (by rw [hsum]; omega) (by simp [kidsV]; omega)
    exact ⟨⟨hop, hkid, by simp, fun _ => hm', fun _ => by rw [hsum]; omega, by simp, by simp, ha.mem, by rw [e]; exact c2⟩, by rw [e, c1]; exact hsum⟩
  all_goals obtain ⟨hsw, hxo⟩ := hone (by omega)
  all_goals rw [hsw] at hv1 hv2 hv3
  all_goals have hxr := right_W hxo.1
  all_goals obtain ⟨x, hx⟩ : ∃ x, all.getD (ks.getD 0 0).toNat (0, []) = x := ⟨_, rfl⟩
  all_goals rw [hx] at hv1 hv2 hv3 hxo hxr
  · have hw : wideR ds ⟨4, vr, A, B, bw, ws, ks⟩ x.1 = if B < 0 ∨ A < B ∨ x.1 ≤ A then -1 else A - B + 1 := by simp [wideR]
    rw [hw] at hv1 hv2 hv3
    by_cases hc : B < 0 ∨ A < B ∨ x.1 ≤ A
    · rw [if_pos hc] at hv1; omega
    rw [if_neg hc] at hv3
    obtain ⟨p1, p2⟩ := part_ok hxo (a := A) (b := B) (by omega) (by omega) (by omega)
    exact fin (by omega) (by omega) (two (partR x.1 x.2 A B)) (by rw [← hx]; simp [nodV, opV]) (by rw [p1]; exact hv3) p2
  · have hw : wideR ds ⟨5, vr, A, B, bw, ws, ks⟩ x.1 = if 0 ≤ A ∧ A ≤ 4096 then x.1 + A else -1 := by simp [wideR]
    rw [hw] at hv1 hv2 hv3
    by_cases hc : 0 ≤ A ∧ A ≤ 4096
    · rw [if_pos hc] at hv1 hv2 hv3
      obtain ⟨p1, p2⟩ := wdn_ok hxo (a := A) false hc.1 hc.2 hv2
      exact fin (by omega) (by omega) (two (wdnR x.1 x.2 A false)) (by rw [← hx]; simp [nodV, opV]) (by rw [p1]; exact hv3) p2
    · rw [if_neg hc] at hv1; omega
  · have hw : wideR ds ⟨6, vr, A, B, bw, ws, ks⟩ x.1 = if 0 ≤ A ∧ A ≤ 4096 then x.1 + A else -1 := by simp [wideR]
    rw [hw] at hv1 hv2 hv3
    by_cases hc : 0 ≤ A ∧ A ≤ 4096
    · rw [if_pos hc] at hv1 hv2 hv3
      obtain ⟨p1, p2⟩ := wdn_ok hxo (a := A) true hc.1 hc.2 hv2
      exact fin (by omega) (by omega) (two (wdnR x.1 x.2 A true)) (by rw [← hx]; simp [nodV, opV]) (by rw [p1]; exact hv3) p2
    · rw [if_neg hc] at hv1; omega
  · have hw : wideR ds ⟨7, vr, A, B, bw, ws, ks⟩ x.1 = if 0 ≤ A ∧ A ≤ 4096 then x.1 else -1 := by simp [wideR]
    rw [hw] at hv1 hv2 hv3
    by_cases hc : 0 ≤ A ∧ A ≤ 4096
    · rw [if_pos hc] at hv1 hv2 hv3
      obtain ⟨p1, p2⟩ := turn_ok hxo (a := A) hc.1 hc.2
      exact fin (by omega) (by omega) (two (turnR x.1 x.2 A)) (by rw [← hx]; simp [nodV, opV]) (by rw [p1]; exact hv3) p2
    · rw [if_neg hc] at hv1; omega
  · have hw : wideR ds ⟨8, vr, A, B, bw, ws, ks⟩ x.1 = if 0 ≤ A ∧ A ≤ 4096 then x.1 else -1 := by simp [wideR]
    rw [hw] at hv1 hv2 hv3
    by_cases hc : 0 ≤ A ∧ A ≤ 4096
    · rw [if_pos hc] at hv1 hv2 hv3
      have hr := emod_range A x.1 hxr.1
      obtain ⟨p1, p2⟩ := turn_ok hxo (a := (x.1 - A % x.1) % x.1) hr.1 (by omega)
      exact fin (by omega) (fun _ => hc) (two (turnR x.1 x.2 ((x.1 - A % x.1) % x.1))) (by rw [← hx]; simp [nodV, opV]) (by rw [p1]; exact hv3) p2
    · rw [if_neg hc] at hv1; omega
  · have hw : wideR ds ⟨9, vr, A, B, bw, ws, ks⟩ x.1 = if 1 ≤ A ∧ A ≤ 4096 then x.1 * A else -1 := by simp [wideR]
    rw [hw] at hv1 hv2 hv3
    by_cases hc : 1 ≤ A ∧ A ≤ 4096
    · rw [if_pos hc] at hv1 hv2 hv3
      obtain ⟨p1, p2⟩ := rep_ok hxo (a := A) hc.1 hc.2 hv2
      exact fin (by omega) (by omega) (two (repR x.1 x.2 A)) (by rw [← hx]; simp [nodV, opV]) (by rw [p1]; exact hv3) p2
    · rw [if_neg hc] at hv1; omega

theorem ev_take {vs : List Wd} {ns : List Tc} {k : Nat} {n : Tc} (h : ns[k]? = some n) : evR vs (ns.take (k + 1)) = evR vs (ns.take k) ++ [nodV vs (evR vs (ns.take k)) n] := by
  unfold evR
  rw [List.take_add_one, h, List.foldl_append]
  simp

theorem fold_ev_len (vs : List Wd) (ns : List Tc) : ∀ all : List Wd, (ns.foldl (fun all n => all ++ [nodV vs all n]) all).length = all.length + ns.length := by
  induction ns with
  | nil => simp
  | cons n t ih => intro all; rw [List.foldl_cons, ih]; simp; omega

theorem ev_len (vs : List Wd) (ns : List Tc) : (evR vs ns).length = ns.length := by
  have := fold_ev_len vs ns []
  simpa [evR] using this

theorem ev_steps {ds : List Dc} {vs : List Wd} (hv : valR ds vs = true) (hvb : ∀ x ∈ vs, ∀ y ∈ x.2, y < 18446744073709551616) : ∀ (ns : List Tc) (wide : List Int) (all : List Wd) (r : List Int), (∀ n ∈ ns, ∀ y ∈ n.ws, y < 18446744073709551616) → Ahead wide all → goR ds wide ns = some r →
    ∀ (k : Nat) (n : Tc), ns[k]? = some n → NodeAt vs ((ns.take k).foldl (fun all n => all ++ [nodV vs all n]) all) n
  | [], _, _, _, _, _, _ => by simp
  | m :: t, wide, all, r, hb, ha, h => by
    rw [goR] at h
    cases hst : stepR ds wide m with
    | none => rw [hst] at h; cases h
    | some v =>
      rw [hst] at h
      obtain ⟨h1, h2⟩ := nodV_ok ha hv hvb (hb m (by simp)) hst
      intro k n hk
      cases k with
      | zero => simp at hk; subst hk; exact h1
      | succ k =>
        have := ev_steps hv hvb t _ _ r (fun n hn => hb n (by simp [hn])) (ha.push h2 h1.is) h k n (by simpa using hk)
        simpa using this

/-- Each node of a right term, by right values. -/
theorem ev_at {ds : List Dc} {vs : List Wd} {ns : List Tc} (hw : ¬ (widthsR ds ns).length = 0) (hv : valR ds vs = true) (hvb : ∀ x ∈ vs, ∀ y ∈ x.2, y < 18446744073709551616) (hnb : ∀ n ∈ ns, ∀ y ∈ n.ws, y < 18446744073709551616) {k : Nat} {n : Tc} (hk : ns[k]? = some n) : NodeAt vs (evR vs (ns.take k)) n := by
  unfold widthsR at hw
  split at hw
  · cases hg : goR ds [] ns with
    | none => rw [hg] at hw; simp at hw
    | some wide => exact ev_steps hv hvb ns [] [] wide hnb Ahead.nil hg k n hk
  · simp at hw

/-- What a term is by values. -/
def evalR (vs : List Wd) (ns : List Tc) : Wd := (evR vs ns).getD (ns.length - 1) (0, [])

theorem eval_ok {ds : List Dc} {vs : List Wd} {ns : List Tc} (hw : ¬ (widthsR ds ns).length = 0) (hv : valR ds vs = true) (hvb : ∀ x ∈ vs, ∀ y ∈ x.2, y < 18446744073709551616) (hnb : ∀ n ∈ ns, ∀ y ∈ n.ws, y < 18446744073709551616) : okWd (evalR vs ns) := by
  have hl := (right_kids hw).1
  have hk : ns[ns.length - 1]? = some ns[ns.length - 1] := List.getElem?_eq_getElem (by omega)
  have h := (ev_at hw hv hvb hnb hk).is
  have e := ev_take (vs := vs) hk
  rw [show ns.length - 1 + 1 = ns.length by omega, List.take_length] at e
  unfold evalR
  rw [e]
  have hlen : (evR vs (ns.take (ns.length - 1))).length = ns.length - 1 := by rw [ev_len]; simp
  rw [getD_right _ _ _ _ (by omega), hlen]
  simpa using h

end Go.Proofs.YtbpodkdlhjgncaaGreatDoor
