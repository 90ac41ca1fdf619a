/- What a right term's nodes are; plain facts on sizes. -/
import Derived.Test.YteenmffhbgpahaaDoorWTB
import Derived.Test.YteenmffhbgpahaaDoorWS
namespace Go.Proofs.YteenmffhbgpahaaDoor
set_option linter.unusedVariables false
set_option linter.unusedSimpArgs false
open Go.RowKit

/-- A node that stands right: what it has, and numbers that are small. -/
def rtN (nd : Nat) (n : Tc) : Prop := fieldR n = true ∧ manyR nd n = true ∧ (4 ≤ n.op → 0 ≤ n.a ∧ n.a ≤ 8192) ∧ (n.op = 4 → 0 ≤ n.b ∧ n.b ≤ 8192)
theorem stepR_num {ds : List Dc} {wide : List Int} {n : Tc} {v : Int} (hw : ∀ x ∈ wide, 1 ≤ x ∧ x ≤ 4096) (h : stepR ds wide n = some v) : rtN ds.length n := by
  have h1 := stepR_kids h
  simp only [Bool.and_eq_true] at h1
  refine ⟨h1.1.2, h1.2, ?_⟩
  have hm := h1.2
  have hs := sumR_range wide n.ks 0 hw (by omega) (by omega)
  have hr := stepR_range h
  have hv : v = wideR ds n (sumR wide n.ks 0) := by
    unfold stepR at h
    split at h
    · split at h
      · cases h; rfl
      · cases h
    · cases h
  generalize sumR wide n.ks 0 = s at *
  have ho : n.op ≤ 9 := by
    unfold manyR at hm
    split at hm
    · omega
    · split at hm
      · omega
      · split at hm
        · omega
        · split at hm
          · omega
          · cases hm
  refine ⟨fun h4 => ?_, fun h4 => ?_⟩
  · unfold wideR at hv
    rw [if_neg (by omega), if_neg (by omega)] at hv
    split at hv
    · split at hv <;> omega
    · split at hv
      · split at hv <;> omega
      · split at hv
        · split at hv <;> omega
        · rw [if_pos (by omega)] at hv
          split at hv <;> omega
  · unfold wideR at hv
    rw [if_neg (by omega), if_neg (by omega), if_pos h4] at hv
    split at hv <;> omega
theorem goT_node {ds : List Dc} : ∀ (ns : List Tc) (wide r : List Int), (∀ x ∈ wide, 1 ≤ x ∧ x ≤ 4096) → goR ds wide ns = some r → ∀ n ∈ ns, rtN ds.length n
  | [], _, _, _, _ => by simp
  | m :: t, wide, r, hw, h => by
    rw [goR] at h
    cases hst : stepR ds wide m with
    | none => rw [hst] at h; cases h
    | some v =>
      rw [hst] at h
      intro n hn
      rcases List.mem_cons.1 hn with rfl | hn
      · exact stepR_num hw hst
      · refine goT_node t _ r ?_ h n hn
        intro x hx
        rcases List.mem_append.1 hx with hx | hx
        · exact hw x hx
        · simp at hx; subst hx; exact stepR_range hst
theorem rightT_node {ds : List Dc} {ns : List Tc} (h : ¬ (widthsR ds ns).length = 0) : ∀ n ∈ ns, rtN ds.length n := by
  unfold widthsR at h
  split at h
  · cases hg : goR ds [] ns with
    | none => rw [hg] at h; simp at h
    | some wide => exact goT_node ns [] wide (by simp) hg
  · simp at h
theorem rt_op {nd : Nat} {n : Tc} (h : rtN nd n) : (n.op = 1 ∧ n.ks = [] ∧ 0 ≤ n.vr ∧ n.vr ≤ (nd : Int) - 1) ∨ (n.op = 2 ∧ n.ks = [] ∧ rightB n.bw n.ws = true) ∨ (3 ≤ n.op ∧ n.op ≤ 9 ∧ n.ks ≠ []) := by
  have hm := h.2.1
  unfold manyR at hm
  split at hm
  · rename_i e
    simp only [Bool.and_eq_true, decide_eq_true_eq] at hm
    exact .inl ⟨e, List.eq_nil_of_length_eq_zero hm.1, hm.2⟩
  · split at hm
    · rename_i e
      simp only [Bool.and_eq_true, decide_eq_true_eq] at hm
      exact .inr (.inl ⟨e, List.eq_nil_of_length_eq_zero hm.1, hm.2⟩)
    · split at hm
      · simp only [decide_eq_true_eq] at hm
        exact .inr (.inr ⟨by omega, by omega, by intro e; rw [e] at hm; simp at hm⟩)
      · split at hm
        · simp only [decide_eq_true_eq] at hm
          exact .inr (.inr ⟨by omega, by omega, by intro e; rw [e] at hm; simp at hm⟩)
        · cases hm

/-- A right word's text, by the given text. -/
theorem specWr_any (W : Int) (a : Option Addr) (c : Nat) (xs : List Nat) (w : World) (hr : Rd w a xs) (hok : rightB W xs = true) :
    Calls Tryd.prog 29 #[.agg #[.int .i64 W, .slice a xs.length c]] w fun e w' => e = .returned (.string (txt (writeR W xs))) ∧ Below w.heap.size w w' := by
  rw [writeR, if_pos hok]
  obtain ⟨hW1, hW2, _⟩ := right_W hok
  obtain ⟨V, rfl⟩ := Int.eq_ofNat_of_zero_le (show 0 ≤ W by omega)
  rw [Int.toNat_natCast]
  by_cases h4 : V % 4 = 0
  · exact specWrite_x V a c xs w hr hok h4
  · exact specWrite_b V a c xs w hr hok h4

/-- Sizes of kids, one byte ahead of each. -/
def sZ (zs : List Nat) (ks : List Int) : Nat := (ks.map fun k => 1 + zs.getD k.toNat 0).sum
theorem sZ_take {zs : List Nat} {ks : List Int} {i : Nat} {k : Int} (h : ks[i]? = some k) : sZ zs (ks.take (i + 1)) = sZ zs (ks.take i) + (1 + zs.getD k.toNat 0) := by
  unfold sZ
  rw [List.take_add_one, h, List.map_append, List.sum_append]
  simp
theorem sz_range (ds : List Dc) (ns : List Tc) : ∀ x ∈ szR ds ns, x ≤ 20001 := by
  unfold szR
  have : ∀ (ns : List Tc) (zs : List Nat), (∀ x ∈ zs, x ≤ 20001) → ∀ x ∈ ns.foldl (fun zs n => zs ++ [ndZ ds zs n]) zs, x ≤ 20001 := by
    intro ns
    induction ns with
    | nil => intro zs h; exact h
    | cons n t ih =>
      intro zs h
      rw [List.foldl_cons]
      refine ih _ fun x hx => ?_
      rcases List.mem_append.1 hx with hx | hx
      · exact h x hx
      · simp at hx; subst hx; unfold ndZ; exact Nat.min_le_right _ _
  exact this ns [] (by simp)
theorem szT_range {zs : List Nat} (h : ∀ x ∈ zs, x ≤ 20001) (i : Nat) : zs.getD i 0 ≤ 20001 := by
  by_cases hi : i < zs.length
  · have e : zs.getD i 0 = zs[i] := by simp [List.getD, hi]
    rw [e]; exact h _ (List.getElem_mem hi)
  · have e : zs.getD i 0 = 0 := by simp [List.getD, hi]
    omega
theorem sZ_range {zs : List Nat} (h : ∀ x ∈ zs, x ≤ 20001) (ks : List Int) : sZ zs ks ≤ 20002 * ks.length := by
  induction ks with
  | nil => simp [sZ]
  | cons k t ih =>
    have := szT_range h k.toNat
    simp only [sZ, List.map_cons, List.sum_cons, List.length_cons] at ih ⊢
    omega
/-- The row of sizes as the program holds it. -/
def ziR (zs : List Nat) : List Int := zs.map Int.ofNat
theorem zi_len (zs : List Nat) : (ziR zs).length = zs.length := by simp [ziR]
theorem zi_at (zs : List Nat) (i : Nat) : (ziR zs).getD i 0 = ((zs.getD i 0 : Nat) : Int) := by
  unfold ziR
  by_cases hi : i < zs.length
  · simp [List.getD, hi]
  · simp [List.getD, hi]
theorem zi_in64 {zs : List Nat} (h : ∀ x ∈ zs, x ≤ 20001) : ∀ x ∈ ziR zs, in64 x := fun x hx => by
  unfold ziR at hx
  obtain ⟨n, hn, rfl⟩ := List.mem_map.1 hx
  have := h n hn
  unfold in64
  rw [Int.ofNat_eq_natCast]; omega
theorem zi_app (zs : List Nat) (y : Nat) : ziR (zs ++ [y]) = ziR zs ++ [(y : Int)] := by unfold ziR; rw [List.map_append]; rfl
theorem ndZ_eq (ds : List Dc) (zs : List Nat) (x : Tc) : ndZ ds zs x = min ((hdT ds x).length + sZ zs x.ks + (if x.ks = [] then 0 else 1)) 20001 := rfl
theorem decN_small {n : Nat} (h : n ≤ 8192) : (decN n).length ≤ 8193 := by have := decN_len n; omega
theorem wordN_len (op : Int) : (wordN op).length ≤ 5 := by
  unfold wordN
  repeat' split
  all_goals decide
/-- The head of a list. -/
theorem hd_list {ds : List Dc} {x : Tc} (h : 3 ≤ x.op) : (hdT ds x).length = 1 + (wordN x.op).length + ((if 4 ≤ x.op then 1 + (decN x.a.toNat).length else 0) + (if x.op = 4 then 1 + (decN x.b.toNat).length else 0)) := by
  unfold hdT
  rw [if_neg (by omega), if_neg (by omega)]
  simp only [List.length_append, List.length_cons]
  split <;> split <;> simp <;> omega

end Go.Proofs.YteenmffhbgpahaaDoor
