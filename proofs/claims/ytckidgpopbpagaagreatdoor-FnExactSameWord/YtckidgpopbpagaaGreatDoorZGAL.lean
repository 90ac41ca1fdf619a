/- Several texts in one. -/
import Derived.Test.YtckidgpopbpagaaGreatDoorZGAK
import Derived.Handy
import Derived.Test.YtckidgpopbpagaaGreatDoorRFW
import Derived.Test.YtckidgpopbpagaaGreatDoorZGAG
import Derived.Test.YtckidgpopbpagaaGreatDoorZGAJ
import Derived.Test.YtckidgpopbpagaaGreatDoorRXI
import Derived.Laws.CopyRow

/- The segments of a term's nodes, as they are told one after another. No program in sight. -/
namespace Go.Proofs.YtckidgpopbpagaaGreatDoor
set_option linter.unusedVariables false
set_option linter.unusedSimpArgs false
open Go.RowKit

/-- The bits of all nodes, one behind the other. -/
def bitsN (ds : List Dc) : List (List Ib) → List Tc → List (List Ib)
  | all, [] => all
  | all, n :: t => bitsN ds (all ++ [nodB ds all n]) t
theorem bitsN_app (ds : List Dc) : ∀ (a b : List Tc) (all : List (List Ib)), bitsN ds all (a ++ b) = bitsN ds (bitsN ds all a) b
  | [], b, all => rfl
  | n :: t, b, all => by
    rw [List.cons_append, bitsN, bitsN]
    exact bitsN_app ds t b _
theorem bitsN_next (ds : List Dc) {ns : List Tc} {k : Nat} {n : Tc} (h : ns[k]? = some n) (all : List (List Ib)) : bitsN ds all (ns.take (k + 1)) = bitsN ds all (ns.take k) ++ [nodB ds (bitsN ds all (ns.take k)) n] := by
  rw [List.take_add_one, h, Option.toList_some, bitsN_app]
  rfl
theorem bitsN_len (ds : List Dc) : ∀ (ns : List Tc) (all : List (List Ib)), (bitsN ds all ns).length = all.length + ns.length
  | [], all => by simp [bitsN]
  | n :: t, all => by
    rw [bitsN, bitsN_len ds t]
    simp
    omega
theorem goR_at {ds : List Dc} : ∀ (ns : List Tc) (wide W : List Int), goR ds wide ns = some W → W.take wide.length = wide ∧ W.length = wide.length + ns.length ∧ ∀ i n, ns[i]? = some n → stepR ds (W.take (wide.length + i)) n = some (W.getD (wide.length + i) 0)
  | [], wide, W, h => by
    rw [goR] at h
    obtain rfl := Option.some.inj h
    exact ⟨List.take_length, by simp, fun i n hn => by simp at hn⟩
  | n :: t, wide, W, h => by
    rw [goR] at h
    cases hs : stepR ds wide n with
    | none => rw [hs] at h; cases h
    | some v =>
      rw [hs] at h
      obtain ⟨h1, h2, h3⟩ := goR_at t (wide ++ [v]) W h
      rw [List.length_append, List.length_singleton] at h1 h2 h3
      have hl : wide.length < W.length := by omega
      have e1 : W.take wide.length = wide := by
        have := congrArg (List.take wide.length) h1
        rw [List.take_take, Nat.min_eq_left (by omega), List.take_left'] at this
        · exact this
        · rfl
      have e2 : W.getD wide.length 0 = v := by
        have h9 : (W.take (wide.length + 1))[wide.length]? = some v := by rw [h1]; simp
        rw [List.getElem?_take, if_pos (by omega)] at h9
        simp [List.getD, h9]
      refine ⟨e1, by simp; omega, fun i m hm => ?_⟩
      cases i with
      | zero =>
        simp at hm
        subst hm
        rw [Nat.add_zero, e1, e2]
        exact hs
      | succ i =>
        simp at hm
        have := h3 i m hm
        rw [show wide.length + 1 + i = wide.length + (i + 1) by omega] at this
        exact this
/-- Of a right term: what stands when k nodes are over. -/
theorem right_at {ds : List Dc} {ns : List Tc} (h : ¬ (widthsR ds ns).length = 0) (hv : ∀ n ∈ ns, in64 n.vr) : dclR ds = true ∧ 1 ≤ ns.length ∧ ns.length ≤ 400 ∧ (∀ k, k ≤ ns.length → AheadB ((widthsR ds ns).take k) (bitsN ds [] (ns.take k))) ∧ ∀ k n, ns[k]? = some n → FNode ds (bitsN ds [] (ns.take k)) n := by
  unfold widthsR at h ⊢
  split at h
  · rename_i hc
    rw [if_pos hc]
    simp only [Bool.and_eq_true, decide_eq_true_eq] at hc
    cases hg : goR ds [] ns with
    | none => rw [hg] at h; simp at h
    | some W =>
      rw [hg] at h
      simp only [] at h ⊢
      split at h
      · rename_i hu
        rw [if_pos hu]
        obtain ⟨-, h2, h3⟩ := goR_at ns [] W hg
        simp only [List.length_nil, Nat.zero_add] at h2 h3
        have key : ∀ k, k ≤ ns.length → AheadB (W.take k) (bitsN ds [] (ns.take k)) := fun k => by
          induction k with
          | zero => intro _; simp [bitsN]; exact AheadB.nil
          | succ k ih =>
            intro hk
            have hn : ns[k]? = some (ns[k]'(by omega)) := List.getElem?_eq_getElem _
            have hA := ih (by omega)
            have hst := h3 k _ hn
            obtain ⟨f1, f2⟩ := nodB_ok hA hc.1.1 (hv _ (List.mem_of_getElem? hn)) hst
            rw [bitsN_next ds hn, List.take_add_one, List.getElem?_eq_getElem (show k < W.length by omega), Option.toList_some]
            have e : W.getD k 0 = W[k]'(by omega) := by simp [List.getD, show k < W.length by omega]
            rw [e] at f2
            have hl := f1.len
            exact hA.push f2 (by omega) f1.ok
        refine ⟨hc.1.1, hc.1.2, hc.2, key, fun k n hn => ?_⟩
        have hk := (List.getElem?_eq_some_iff.1 hn).1
        exact (nodB_ok (key k (by omega)) hc.1.1 (hv n (List.mem_of_getElem? hn)) (h3 k n hn)).1
      · simp at h
  · simp at h

/-- What Flatten answers. -/
def fltR (ds : List Dc) (ns : List Tc) : List Sc × Bool :=
  if (widthsR ds ns).length = 0 then ([], false)
  else if (bitsN ds [] ns).all (fun l => decide ((formB l).length ≤ 2000)) = true then (formB ((bitsN ds [] ns).getD (ns.length - 1) []), true) else ([], false)

def lastS (f : List Sc) : Sc := f.getD (f.length - 1) ⟨0, 0, 0, 0, []⟩
/-- The segments of a node, as they are told. -/
def sgL (ds : List Dc) (all : List (List Ib)) (n : Tc) : List Sc :=
  if n.op = 1 then [⟨n.vr, 0, (ds.getD n.vr.toNat (.empty, 0)).2, 0, []⟩]
  else if n.op = 2 then [⟨-1, 0, n.bw, n.bw, n.ws⟩]
  else if n.op = 3 then ((kidsB all n.ks).reverse.map formB).flatten
  else if n.op = 4 then betS n.b.toNat (n.a.toNat + 1) 0 (formB ((kidsB all n.ks).getD 0 []))
  else if n.op = 5 then formB ((kidsB all n.ks).getD 0 []) ++ List.replicate n.a.toNat ⟨-1, 0, 1, 1, [0]⟩
  else if n.op = 6 then formB ((kidsB all n.ks).getD 0 []) ++ List.replicate n.a.toNat (cutS (lastS (formB ((kidsB all n.ks).getD 0 []))) ((lastS (formB ((kidsB all n.ks).getD 0 []))).wd.toNat - 1) 1)
  else if n.op = 7 then betS (((kidsB all n.ks).getD 0 []).length - n.a.toNat % ((kidsB all n.ks).getD 0 []).length) ((kidsB all n.ks).getD 0 []).length 0 (formB ((kidsB all n.ks).getD 0 [])) ++ betS 0 (((kidsB all n.ks).getD 0 []).length - n.a.toNat % ((kidsB all n.ks).getD 0 []).length) 0 (formB ((kidsB all n.ks).getD 0 []))
  else if n.op = 8 then betS (n.a.toNat % ((kidsB all n.ks).getD 0 []).length) ((kidsB all n.ks).getD 0 []).length 0 (formB ((kidsB all n.ks).getD 0 [])) ++ betS 0 (n.a.toNat % ((kidsB all n.ks).getD 0 []).length) 0 (formB ((kidsB all n.ks).getD 0 []))
  else (List.replicate n.a.toNat (formB ((kidsB all n.ks).getD 0 []))).flatten

abbrev okL (l : List Sc) : Prop := ∀ s ∈ l, okS s ∧ 0 ≤ s.lo ∧ s.lo ≤ 4096
theorem okL_of {l : List Sc} (h : ∀ s ∈ l, okS s ∧ 0 ≤ s.lo ∧ s.lo + s.wd ≤ 4096) : okL l := fun s hs => by
  have h9 := h s hs
  have := h9.1.1
  exact ⟨h9.1, h9.2.1, by omega⟩
theorem okL_app {a b : List Sc} (h : okL a) (k : okL b) : okL (a ++ b) := fun s hs => by
  rcases List.mem_append.1 hs with hs | hs
  · exact h s hs
  · exact k s hs
theorem formP_flat : ∀ (ls : List (List Sc)), formP ls.flatten = (ls.map formP).flatten
  | [] => rfl
  | l :: t => by rw [List.flatten_cons, formP_app, formP_flat t, List.map_cons, List.flatten_cons]
theorem formP_rep (s : Sc) (m : Nat) : formP (List.replicate m s) = (List.replicate m (segPs s s.wd.toNat)).flatten := by
  induction m with
  | zero => rfl
  | succ m ih => rw [List.replicate_succ, formP_cons, ih, List.replicate_succ, List.flatten_cons]
theorem rep_one (p : Ib) (m : Nat) : (List.replicate m [p]).flatten = List.replicate m p := by
  induction m with
  | zero => rfl
  | succ m ih => rw [List.replicate_succ, List.flatten_cons, ih, List.replicate_succ]; rfl
/-- The highest bit of a form. -/
theorem last_bit {K : List Ib} (hk : 1 ≤ K.length) (h4 : K.length ≤ 4096) (hok : ∀ p ∈ K, okI p) : (lastS (formB K)) ∈ formB K ∧ segPs (cutS (lastS (formB K)) ((lastS (formB K)).wd.toNat - 1) 1) 1 = [K.getD (K.length - 1) (-1, 0)] := by
  obtain ⟨hP, hO⟩ := formB_P _ K (Nat.le_refl _) h4 hok
  have hne : formB K ≠ [] := fun e => by rw [e] at hP; simp [formP] at hP; rw [hP] at hk; simp at hk
  have hl : (formB K).length - 1 < (formB K).length := by have := List.length_pos_iff.2 hne; omega
  have hmem : lastS (formB K) ∈ formB K := by unfold lastS; simp [List.getD, hl]
  refine ⟨hmem, ?_⟩
  have ho := hO _ hmem
  have hw := ho.1.1
  rw [cutS_P ho.1 (by omega) (by omega)]
  have e : formB K = (formB K).take ((formB K).length - 1) ++ [lastS (formB K)] := by
    have h9 := List.take_append_drop ((formB K).length - 1) (formB K)
    rw [List.drop_eq_getElem_cons hl, List.drop_of_length_le (by omega)] at h9
    have e2 : lastS (formB K) = (formB K)[(formB K).length - 1]'hl := by unfold lastS; simp [List.getD, hl]
    rw [e2]
    exact h9.symm
  have e3 : K = formP ((formB K).take ((formB K).length - 1)) ++ segPs (lastS (formB K)) (lastS (formB K)).wd.toNat := by
    conv => lhs; rw [← hP, e, formP_app]
    congr 1
    simp [formP]
  have hAl : (segPs (lastS (formB K)) (lastS (formB K)).wd.toNat).length = (lastS (formB K)).wd.toNat := segPs_len _ _
  have hKl := congrArg List.length e3
  rw [List.length_append, hAl] at hKl
  have e4 : K.getD (K.length - 1) (-1, 0) = (segPs (lastS (formB K)) (lastS (formB K)).wd.toNat).getD ((lastS (formB K)).wd.toNat - 1) (-1, 0) := by
    simp only [List.getD]
    congr 1
    conv => lhs; rw [e3]
    rw [List.getElem?_append_right (by rw [List.length_append, hAl]; omega), List.length_append, hAl]
    congr 1
    omega
  rw [e4]
  have hm1 : 1 ≤ (lastS (formB K)).wd.toNat := by omega
  generalize (lastS (formB K)).wd.toNat = m at *
  generalize segPs (lastS (formB K)) m = A at *
  have hm : m - 1 < A.length := by omega
  rw [List.drop_eq_getElem_cons hm, List.take_succ_cons, List.take_zero]
  simp [List.getD, hm]
/-- The segments of a right node have the node's bits, and are right. -/
theorem sgL_P {ds : List Dc} {all : List (List Ib)} {n : Tc} (h : FNode ds all n) (hwb : ∀ y ∈ n.ws, y < 18446744073709551616) : formP (sgL ds all n) = nodB ds all n ∧ okL (sgL ds all n) ∧ sumS (sgL ds all n) ≤ 4096 := by
  suffices hh : formP (sgL ds all n) = nodB ds all n ∧ okL (sgL ds all n) by
    refine ⟨hh.1, hh.2, ?_⟩
    have h9 := formP_len (sgL ds all n) (fun s hs => by have := (hh.2 s hs).1.1; omega)
    rw [hh.1] at h9
    have := h.len.2
    omega
  have hop := h.op
  -- of one kid
  have hK : 4 ≤ n.op → 1 ≤ ((kidsB all n.ks).getD 0 []).length ∧ ((kidsB all n.ks).getD 0 []).length ≤ 4096 ∧ ∀ p ∈ (kidsB all n.ks).getD 0 [], okI p := fun h4 => by
    obtain ⟨j, hj⟩ := h.one h4
    have e : (kidsB all n.ks).getD 0 [] = all.getD j.toNat [] := by rw [hj]; simp [kidsB]
    rw [e]
    exact (h.kid j (by rw [hj]; simp)).2
  rcases (show n.op = 1 ∨ n.op = 2 ∨ n.op = 3 ∨ n.op = 4 ∨ n.op = 5 ∨ n.op = 6 ∨ n.op = 7 ∨ n.op = 8 ∨ n.op = 9 by omega) with e | e | e | e | e | e | e | e | e
  · obtain ⟨v1, v2, v3⟩ := h.var e
    have e1 : sgL ds all n = [⟨n.vr, 0, (ds.getD n.vr.toNat (.empty, 0)).2, 0, []⟩] := by unfold sgL; rw [if_pos e]
    have e2 : nodB ds all n = runL n.vr 0 (ds.getD n.vr.toNat (.empty, 0)).2.toNat := by unfold nodB; rw [if_pos e]
    rw [e1, e2]
    refine ⟨?_, fun s hs => ?_⟩
    · rw [formP_cons, formP_nil, List.append_nil, segPs_var (by simpa using v1.1)]
    · rw [List.mem_singleton.1 hs]
      exact ⟨⟨v2, v3, by simp, .inr ⟨v1.1, rfl, rfl⟩⟩, by simp, by simp⟩
  · have hc := h.cst e
    have hW := right_W hc
    have e1 : sgL ds all n = [⟨-1, 0, n.bw, n.bw, n.ws⟩] := by unfold sgL; rw [if_neg (by omega), if_pos e]
    have e2 : nodB ds all n = (List.range n.bw.toNat).map fun k => (-1, (((tb n.ws k).toNat : Nat) : Int)) := by unfold nodB; rw [if_neg (by omega), if_pos e]
    rw [e1, e2]
    refine ⟨?_, fun s hs => ?_⟩
    · rw [formP_cons, formP_nil, List.append_nil, segPs_cst rfl]
    · rw [List.mem_singleton.1 hs]
      exact ⟨⟨by simp only []; omega, by simp only []; omega, hwb, .inl ⟨rfl, rfl, rfl, hc⟩⟩, by simp, by simp⟩
  · have e1 : sgL ds all n = ((kidsB all n.ks).reverse.map formB).flatten := by unfold sgL; simp [e]
    have e2 : nodB ds all n = (kidsB all n.ks).reverse.flatten := by unfold nodB; simp [e]
    have hk : ∀ l ∈ kidsB all n.ks, formP (formB l) = l ∧ ∀ s ∈ formB l, okS s ∧ 0 ≤ s.lo ∧ s.lo + s.wd ≤ 4096 := fun l hl => by
      obtain ⟨k, hk, rfl⟩ := List.mem_map.1 hl
      obtain ⟨-, -, k2, k3⟩ := h.kid k hk
      exact formB_P _ _ (Nat.le_refl _) k2 k3
    rw [e1, e2]
    refine ⟨?_, fun s hs => ?_⟩
    · rw [formP_flat, List.map_map]
      congr 1
      conv => rhs; rw [← List.map_id (kidsB all n.ks).reverse]
      exact List.map_congr_left fun l hl => (hk l (List.mem_reverse.1 hl)).1
    · obtain ⟨l, hl, hs⟩ := List.mem_flatten.1 hs
      obtain ⟨k, hk9, rfl⟩ := List.mem_map.1 hl
      exact okL_of (hk k (List.mem_reverse.1 hk9)).2 s hs
  · obtain ⟨k1, k2, k3⟩ := hK (by omega)
    obtain ⟨p1, p2, p3⟩ := h.part e
    have e1 : sgL ds all n = betS n.b.toNat (n.a.toNat + 1) 0 (formB ((kidsB all n.ks).getD 0 [])) := by unfold sgL; simp [e]
    have e2 : nodB ds all n = (((kidsB all n.ks).getD 0 []).drop n.b.toNat).take (n.a.toNat + 1 - n.b.toNat) := by unfold nodB; simp [e]
    rw [e1, e2]
    generalize (kidsB all n.ks).getD 0 [] = K at *
    obtain ⟨hP, hO⟩ := formB_P _ K (Nat.le_refl _) k2 k3
    refine ⟨?_, betS_ok hO⟩
    rw [betS_P _ _ _ _ (fun s hs => (hO s hs).1), hP, Nat.sub_zero, Nat.sub_zero, List.drop_take]
  · obtain ⟨k1, k2, k3⟩ := hK (by omega)
    have e1 : sgL ds all n = formB ((kidsB all n.ks).getD 0 []) ++ List.replicate n.a.toNat ⟨-1, 0, 1, 1, [0]⟩ := by unfold sgL; simp [e]
    have e2 : nodB ds all n = (kidsB all n.ks).getD 0 [] ++ List.replicate n.a.toNat (-1, 0) := by unfold nodB; simp [e]
    rw [e1, e2]
    generalize (kidsB all n.ks).getD 0 [] = K at *
    obtain ⟨hP, hO⟩ := formB_P _ K (Nat.le_refl _) k2 k3
    refine ⟨?_, okL_app (okL_of hO) (fun s hs => ?_)⟩
    · rw [formP_app, hP, formP_rep]
      have e9 : segPs ⟨-1, 0, 1, 1, [0]⟩ (1 : Int).toNat = [(-1, 0)] := by rfl
      rw [e9, rep_one]
    · rw [(List.mem_replicate.1 hs).2]
      exact ⟨⟨by simp, by simp, by simp, .inl ⟨rfl, rfl, rfl, by decide⟩⟩, by simp, by simp⟩
  · obtain ⟨k1, k2, k3⟩ := hK (by omega)
    have e1 : sgL ds all n = formB ((kidsB all n.ks).getD 0 []) ++ List.replicate n.a.toNat (cutS (lastS (formB ((kidsB all n.ks).getD 0 []))) ((lastS (formB ((kidsB all n.ks).getD 0 []))).wd.toNat - 1) 1) := by unfold sgL; simp [e]
    have e2 : nodB ds all n = (kidsB all n.ks).getD 0 [] ++ List.replicate n.a.toNat (((kidsB all n.ks).getD 0 []).getD (((kidsB all n.ks).getD 0 []).length - 1) (-1, 0)) := by unfold nodB; simp [e]
    rw [e1, e2]
    generalize (kidsB all n.ks).getD 0 [] = K at *
    obtain ⟨hP, hO⟩ := formB_P _ K (Nat.le_refl _) k2 k3
    obtain ⟨hl1, hl2⟩ := last_bit k1 k2 k3
    have ho := hO _ hl1
    have hw := ho.1.1
    refine ⟨?_, okL_app (okL_of hO) (fun s hs => ?_)⟩
    · rw [formP_app, hP, formP_rep, cutS_wd]
      rw [show ((1 : Nat) : Int).toNat = 1 from rfl, hl2, rep_one]
    · rw [(List.mem_replicate.1 hs).2]
      have := cutS_lo (p := (lastS (formB K)).wd.toNat - 1) (m := 1) ho.2 (by omega) (by omega)
      exact ⟨cutS_ok ho.1 (by omega) (by omega), this⟩
  · obtain ⟨k1, k2, k3⟩ := hK (by omega)
    have e1 : sgL ds all n = betS (((kidsB all n.ks).getD 0 []).length - n.a.toNat % ((kidsB all n.ks).getD 0 []).length) ((kidsB all n.ks).getD 0 []).length 0 (formB ((kidsB all n.ks).getD 0 [])) ++ betS 0 (((kidsB all n.ks).getD 0 []).length - n.a.toNat % ((kidsB all n.ks).getD 0 []).length) 0 (formB ((kidsB all n.ks).getD 0 [])) := by unfold sgL; simp [e]
    have e2 : nodB ds all n = turnB ((kidsB all n.ks).getD 0 []) (n.a.toNat % ((kidsB all n.ks).getD 0 []).length) := by unfold nodB; simp [e]
    rw [e1, e2]
    generalize (kidsB all n.ks).getD 0 [] = K at *
    obtain ⟨hP, hO⟩ := formB_P _ K (Nat.le_refl _) k2 k3
    refine ⟨?_, okL_app (betS_ok hO) (betS_ok hO)⟩
    rw [formP_app, betS_P _ _ _ _ (fun s hs => (hO s hs).1), betS_P _ _ _ _ (fun s hs => (hO s hs).1), hP]
    unfold turnB
    simp only [Nat.sub_zero, List.drop_zero, List.take_length]
  · obtain ⟨k1, k2, k3⟩ := hK (by omega)
    have e1 : sgL ds all n = betS (n.a.toNat % ((kidsB all n.ks).getD 0 []).length) ((kidsB all n.ks).getD 0 []).length 0 (formB ((kidsB all n.ks).getD 0 [])) ++ betS 0 (n.a.toNat % ((kidsB all n.ks).getD 0 []).length) 0 (formB ((kidsB all n.ks).getD 0 [])) := by unfold sgL; simp [e]
    have e2 : nodB ds all n = turnB ((kidsB all n.ks).getD 0 []) ((((kidsB all n.ks).getD 0 []).length - n.a.toNat % ((kidsB all n.ks).getD 0 []).length) % ((kidsB all n.ks).getD 0 []).length) := by unfold nodB; simp [e]
    rw [e1, e2]
    generalize (kidsB all n.ks).getD 0 [] = K at *
    obtain ⟨hP, hO⟩ := formB_P _ K (Nat.le_refl _) k2 k3
    refine ⟨?_, okL_app (betS_ok hO) (betS_ok hO)⟩
    rw [formP_app, betS_P _ _ _ _ (fun s hs => (hO s hs).1), betS_P _ _ _ _ (fun s hs => (hO s hs).1), hP]
    unfold turnB
    simp only [Nat.sub_zero, List.drop_zero, List.take_length]
    have hm := Nat.mod_lt n.a.toNat (show 0 < K.length by omega)
    by_cases h0 : n.a.toNat % K.length = 0
    · rw [h0, Nat.sub_zero, Nat.mod_self]
      simp
    · rw [Nat.mod_eq_of_lt (show K.length - n.a.toNat % K.length < K.length by omega), show K.length - (K.length - n.a.toNat % K.length) = n.a.toNat % K.length by omega]
  · obtain ⟨k1, k2, k3⟩ := hK (by omega)
    have e1 : sgL ds all n = (List.replicate n.a.toNat (formB ((kidsB all n.ks).getD 0 []))).flatten := by unfold sgL; simp [e]
    have e2 : nodB ds all n = (List.replicate n.a.toNat ((kidsB all n.ks).getD 0 [])).flatten := by unfold nodB; simp [e]
    rw [e1, e2]
    generalize (kidsB all n.ks).getD 0 [] = K at *
    obtain ⟨hP, hO⟩ := formB_P _ K (Nat.le_refl _) k2 k3
    refine ⟨by rw [formP_flat, List.map_replicate, hP], fun s hs => ?_⟩
    obtain ⟨l, hl, hs⟩ := List.mem_flatten.1 hs
    rw [(List.mem_replicate.1 hl).2] at hs
    exact okL_of hO s hs
end Go.Proofs.YtckidgpopbpagaaGreatDoor

/- Iterators over segments, put together. -/
namespace Go.Proofs.YtckidgpopbpagaaGreatDoor
set_option linter.unusedVariables false
set_option linter.unusedSimpArgs false
open Go.RowKit Go.Shelf

/-- An iterator keeps its word where more has been laid. -/
theorem SeqS.more {n g B B' : Nat} {lb : Array Value} {L : List Sc} {w w' : World} (h : SeqS n g lb L B w) (hw : Below B w w') (hB : B ≤ B') : SeqS n g lb L B' w' := by
  intro l J Jx O W hbW hJ hJx hlt hOw h0
  refine h l J Jx O W (hw.trans (hbW.mono hB)) hJ hJx hlt (fun pre O x W0 W1 j0 hcz j1 hr => ?_) h0
  refine YieldAt.mono (hOw pre O x W0 W1 j0 hcz j1 ⟨hr.1, hr.2.1, hr.2.2.1, fun p hp => ⟨(hr.2.2.2 p hp).1.imp (fun h9 => Nat.lt_of_lt_of_le h9 hB) id, (hr.2.2.2 p hp).2⟩⟩) ?_
  rintro e W' (⟨rfl, hK, r⟩ | h9)
  · exact .inl ⟨rfl, hK.mono hB, r⟩
  · exact .inr h9
/-- A function value that is an iterator over these. -/
structure Itr (L : List Sc) (w : World) (v : Value) : Prop where
  is : ∃ g lb, v = .func (.func g) #[] lb ∧ (∀ (args : Array Value) (w : World), (callFunc g args).run Tryz.prog w = .ok (.enter g args) w) ∧ ∀ n, SeqS n g lb L w.heap.size w
theorem Itr.later {L : List Sc} {w w' : World} {v : Value} (h : Itr L w v) (hb : Below w.heap.size w w') : Itr L w' v := by
  obtain ⟨g, lb, h1, h2, h3⟩ := h.is
  exact ⟨g, lb, h1, h2, fun n => (h3 n).more hb hb.size⟩
def RetIt (L : List Sc) (w : World) (e : Ending) (w' : World) : Prop := ∃ v, e = .returned v ∧ Itr L w' v ∧ Below w.heap.size w w'

theorem AtS.later {B : Nat} {w w' : World} {x : Sg} (h : AtS B w x) (hb : Below w.heap.size w w') {B' : Nat} (hB : B ≤ B') : AtS B' w' x := ⟨h.ok, h.lo, h.rd.later hb, h.no, fun q hq => Nat.lt_of_lt_of_le (h.pl q hq) hB⟩
/-- A form that is at hand. -/
structure Fm (w : World) (v : Value) (F : List Sc) (xs : List Sg) : Prop where
  pl : ∃ fb fo c, v = .slice (some ⟨fb, fo, none⟩) xs.length c ∧ fb < w.heap.size ∧ ∀ i x, xs[i]? = some x → ShAt w fb (fo + i * 5) x.hd
  ct : xs.map Sg.ct = F
  at' : ∀ x ∈ xs, AtS w.heap.size w x
  n1 : 1 ≤ xs.length
  n2 : xs.length ≤ 2000
  v64 : ∀ x ∈ xs, in64 x.ct.v
theorem Fm.later {w w' : World} {v : Value} {F : List Sc} {xs : List Sg} (h : Fm w v F xs) (hb : Below w.heap.size w w') : Fm w' v F xs := by
  obtain ⟨fb, fo, c, h1, h2, h3⟩ := h.pl
  exact ⟨⟨fb, fo, c, h1, Nat.lt_of_lt_of_le h2 hb.size, fun i x hx => (h3 i x hx).later hb⟩, h.ct, fun x hx => (h.at' x hx).later hb hb.size, h.n1, h.n2, h.v64⟩
theorem Fm.rds {w : World} {fb fo c : Nat} {F : List Sc} {xs : List Sg} (h : Fm w (.slice (some ⟨fb, fo, none⟩) xs.length c) F xs) : RdS w (some ⟨fb, fo, none⟩) xs := by
  obtain ⟨fb', fo', c', e, h2, h3⟩ := h.pl
  cases e
  refine ⟨by have := h.n2; omega, .inr ⟨fb, fo, rfl, fun i x hx => ?_⟩⟩
  have hm := List.mem_of_getElem? hx
  have ha := h.at' x hm
  have hw := ha.ok.1
  have hw2 := ha.ok.2.1
  have hl := ha.lo
  refine ⟨h3 i x hx, ha.rd, h.v64 x hm, by unfold in64; omega, by unfold in64; omega, ?_⟩
  rcases ha.ok.2.2.2 with ⟨-, -, e9, -⟩ | ⟨-, e9, -⟩ <;> unfold in64 <;> omega

theorem values_of {v : Value} {F : List Sc} {xs : List Sg} {w : World} {β : Nat} (h : Fm w v F xs) (hb : Bz w β #[v] 42) : Itr F w (.func (.func 92) #[] #[.pointer (some ⟨β, 0, none⟩)]) := by
  obtain ⟨fb, fo, c, rfl, h2, h3⟩ := h.pl
  refine ⟨_, _, rfl, enters_of Tryz.func92 (by kernel_rfl) rfl, fun n => ?_⟩
  rw [← h.ct]
  exact values_seq n _ β fb fo c xs.length xs _ (Nat.le_refl _) rfl h.n2 h.at' hb hb.lt h2 h3
theorem values_it {v : Value} {F : List Sc} {xs : List Sg} {w : World} (h : Fm w v F xs) : Calls Tryz.prog 71 #[v] w (RetIt F w) := by
  obtain ⟨fb, fo, c, rfl, h2, h3⟩ := h.pl
  refine (values_any _ _ _ w).mono ?_
  rintro e w' ⟨rfl, rfl⟩
  have hb : Below w.heap.size w (w.alloc (Obj.cells #[.slice (some ⟨fb, fo, none⟩) xs.length c] 42)) := (Below.refl _ _).alloc (Nat.le_refl _) _
  exact ⟨_, rfl, values_of (h.later hb) (Bz.new w _ _), hb⟩
theorem again_it {m : Nat} {x : Sg} {w : World} (hm : m ≤ 4096) (hx : AtS w.heap.size w x) : Calls Tryz.prog 65 #[.int .i64 (m : Int), sgV x] w (RetIt (List.replicate m x.ct) w) := by
  refine (again_any _ _ w).mono ?_
  rintro e w' ⟨rfl, hw'⟩
  have hb : Below w.heap.size w w' := by rw [hw']; exact ((Below.refl _ _).alloc (Nat.le_refl _) _).alloc (by simp) _
  have x1 : Bz w' w.heap.size #[.int .i64 (m : Int)] 2 := by rw [hw']; exact (Bz.new w _ _).later ((Below.refl _ _).alloc (Nat.le_refl _) _)
  have x2 : Bz w' (w.heap.size + 1) #[.int .i64 x.ct.v, .int .i64 x.ct.lo, .int .i64 x.ct.wd, .int .i64 x.ct.bw, .slice x.a x.ct.ws.length x.c] 67 := by
    have h9 := Bz.new (w.alloc (Obj.cells #[.int .i64 (m : Int)] 2)) #[.int .i64 x.ct.v, .int .i64 x.ct.lo, .int .i64 x.ct.wd, .int .i64 x.ct.bw, .slice x.a x.ct.ws.length x.c] 67
    rw [World.size_alloc] at h9
    rw [hw']
    exact h9
  exact ⟨_, rfl, ⟨_, _, rfl, enters_of Tryz.func87 (by kernel_rfl) rfl, fun n => again_seq n _ _ _ m x w' (Nat.le_refl _) hm (hx.later hb hb.size) x1 x1.lt x2 x2.lt⟩, hb⟩
theorem between_it {v : Value} {F : List Sc} {xs : List Sg} {w : World} {lo en : Nat} (h : Fm w v F xs) (hs : sumS F ≤ 4096) (hlo : lo ≤ 4096) (hen : en ≤ 4096) : Calls Tryz.prog 69 #[v, .int .i64 (lo : Int), .int .i64 (en : Int)] w (RetIt (betS lo en 0 F) w) := by
  obtain ⟨fb, fo, c, rfl, h2, h3⟩ := h.pl
  refine (between_any _ _ _ _ _ w).mono ?_
  rintro e w' ⟨rfl, hw'⟩
  have hb : Below w.heap.size w w' := by rw [hw']; exact (((Below.refl _ _).alloc (Nat.le_refl _) _).alloc (by simp) _).alloc (by simp; omega) _
  have x1 : Bz w' w.heap.size #[.slice (some ⟨fb, fo, none⟩) xs.length c] 42 := by
    rw [hw']
    exact ((Bz.new w _ _).later ((Below.refl _ _).alloc (Nat.le_refl _) _)).later ((Below.refl _ _).alloc (Nat.le_refl _) _)
  have x2 : Bz w' (w.heap.size + 1) #[.int .i64 (lo : Int)] 2 := by
    have h9 := (Bz.new (w.alloc (Obj.cells #[.slice (some ⟨fb, fo, none⟩) xs.length c] 42)) #[.int .i64 (lo : Int)] 2).later ((Below.refl _ _).alloc (Nat.le_refl _) (Obj.cells #[.int .i64 (en : Int)] 2))
    rw [World.size_alloc] at h9
    rw [hw']
    exact h9
  have x3 : Bz w' (w.heap.size + 1 + 1) #[.int .i64 (en : Int)] 2 := by
    have h9 := Bz.new ((w.alloc (Obj.cells #[.slice (some ⟨fb, fo, none⟩) xs.length c] 42)).alloc (Obj.cells #[.int .i64 (lo : Int)] 2)) #[.int .i64 (en : Int)] 2
    rw [World.size_alloc, World.size_alloc] at h9
    rw [hw']
    exact h9
  have h9 := h.later hb
  obtain ⟨fb', fo', c', e', h2', h3'⟩ := h9.pl
  cases e'
  refine ⟨_, rfl, ⟨_, _, rfl, enters_of Tryz.func89 (by kernel_rfl) rfl, fun n => ?_⟩, hb⟩
  have hct := h.ct
  subst hct
  exact between_seq n lo en _ _ _ _ fb fo c xs.length xs w' (Nat.le_refl _) rfl h.n2 h9.at' hs hlo hen x1 x2 x3 x1.lt x2.lt x3.lt h2' h3'
/-- Iterators in a row, in turn. -/
theorem inTurn_of {β g N c : Nat} {Ls : List (List Sc)} {vs : List Value} {w : World} (x1 : Bz w β #[.slice (some ⟨g, 0, none⟩) N c] 121) (hN : vs.length = N) (hN2 : N ≤ 1048576) (hL : Ls.length = N) (hg : g < w.heap.size) (hc : ∀ i v, vs[i]? = some v → w.cell? ⟨g, i, none⟩ = some v) (hi : ∀ (i : Nat) (L : List Sc) (v : Value), Ls[i]? = some L → vs[i]? = some v → Itr L w v) :
    Itr Ls.flatten w (.func (.func 91) #[] #[.pointer (some ⟨β, 0, none⟩)]) := by
  -- the parts
  have hp : ∀ i : Nat, i < N → ∃ p : Pt, Ls[i]? = some p.L ∧ vs[i]? = some (.func (.func p.g) #[] p.lb) ∧ (∀ (args : Array Value) (w : World), (callFunc p.g args).run Tryz.prog w = .ok (.enter p.g args) w) ∧ ∀ n, SeqS n p.g p.lb p.L w.heap.size w := fun i hiN => by
    have hv : vs[i]? = some (vs[i]'(by omega)) := List.getElem?_eq_getElem _
    have hl : Ls[i]? = some (Ls[i]'(by omega)) := List.getElem?_eq_getElem _
    obtain ⟨g9, lb, e1, e2, e3⟩ := (hi i _ _ hl hv).is
    exact ⟨⟨g9, lb, _⟩, hl, by rw [hv, e1], e2, e3⟩
  let ps : List Pt := (List.range N).map fun i => if h : i < N then (hp i h).choose else ⟨0, #[], []⟩
  have hps : ∀ (i : Nat) (p : Pt), ps[i]? = some p → Ls[i]? = some p.L ∧ vs[i]? = some (.func (.func p.g) #[] p.lb) ∧ (∀ (args : Array Value) (w : World), (callFunc p.g args).run Tryz.prog w = .ok (.enter p.g args) w) ∧ ∀ n, SeqS n p.g p.lb p.L w.heap.size w := fun i p h => by
    have hiN : i < N := by have := (List.getElem?_eq_some_iff.1 h).1; simpa [ps] using this
    have e : p = (hp i hiN).choose := by
      simp [ps, hiN] at h
      exact h.symm
    rw [e]
    exact (hp i hiN).choose_spec
  have hpl : ps.length = N := by simp [ps]
  have hLs : ps.flatMap Pt.L = Ls.flatten := by
    rw [List.flatMap_def]
    congr 1
    apply List.ext_getElem?
    intro i
    by_cases hi9 : i < N
    · have h9 : ps[i]? = some (ps[i]'(by omega)) := List.getElem?_eq_getElem _
      rw [List.getElem?_map, h9, (hps i _ h9).1]
      rfl
    · rw [List.getElem?_eq_none (by simp [hpl]; omega), List.getElem?_eq_none (by omega)]
  refine ⟨_, _, rfl, enters_of Tryz.func91 (by kernel_rfl) rfl, fun n => ?_⟩
  rw [← hLs]
  refine inTurn_seq n _ β g 0 c N ps w (Nat.le_refl _) hpl hN2 (fun p hp9 => ?_) x1 x1.lt hg (fun i p h => ?_)
  · obtain ⟨i, hi9, e⟩ := List.getElem_of_mem hp9
    exact (hps i p (by rw [List.getElem?_eq_getElem hi9, e])).2.2
  · rw [Nat.zero_add]
    exact hc i _ (hps i p h).2.1
theorem inTurn_it {g N c : Nat} {Ls : List (List Sc)} {vs : List Value} {w : World} (hN : vs.length = N) (hN2 : N ≤ 1048576) (hL : Ls.length = N) (hg : g < w.heap.size) (hc : ∀ i v, vs[i]? = some v → w.cell? ⟨g, i, none⟩ = some v) (hi : ∀ (i : Nat) (L : List Sc) (v : Value), Ls[i]? = some L → vs[i]? = some v → Itr L w v) :
    Calls Tryz.prog 70 #[.slice (some ⟨g, 0, none⟩) N c] w (RetIt Ls.flatten w) := by
  refine (inTurn_any _ _ _ w).mono ?_
  rintro e w' ⟨rfl, hw'⟩
  have hb : Below w.heap.size w w' := by rw [hw']; exact (Below.refl _ _).alloc (Nat.le_refl _) _
  have x1 : Bz w' w.heap.size #[.slice (some ⟨g, 0, none⟩) N c] 121 := by rw [hw']; exact Bz.new w _ _
  exact ⟨_, rfl, inTurn_of x1 hN hN2 hL (Nat.lt_of_lt_of_le hg hb.size) (fun i v h => (hb.cell (p := ⟨g, i, none⟩) hg).trans (hc i v h)) (fun i L v h1 h2 => (hi i L v h1 h2).later hb), hb⟩
end Go.Proofs.YtckidgpopbpagaaGreatDoor

/- slices.Backward of whole numbers: the word that it keeps. -/
namespace Go.Proofs.YtckidgpopbpagaaGreatDoor
set_option linter.unusedVariables false
set_option linter.unusedSimpArgs false
open Go.RowKit Go.Shelf
attribute [local go_sem] Oper.semAt_some

/-- What it tells: places and numbers, from the last one on. -/
def bwL (ks : List Int) : List (Int × Int) := (List.range ks.length).map fun j => (((ks.length - 1 - j : Nat) : Int), ks.getD (ks.length - 1 - j) 0)
theorem bwL_len (ks : List Int) : (bwL ks).length = ks.length := by simp [bwL]
theorem bwL_at (ks : List Int) {k : Nat} (h : k < ks.length) : (bwL ks)[k]? = some (((ks.length - 1 - k : Nat) : Int), ks.getD (ks.length - 1 - k) 0) := by
  unfold bwL
  rw [List.getElem?_map, List.getElem?_range h]
  rfl
theorem bwL_snd (ks : List Int) : (bwL ks).map Prod.snd = ks.reverse := by
  apply List.ext_getElem?
  intro i
  by_cases h : i < ks.length
  · rw [List.getElem?_map, bwL_at ks h, List.getElem?_reverse h]
    have : ks.length - 1 - i < ks.length := by omega
    simp [List.getD, this]
  · rw [List.getElem?_eq_none (by simp [bwL_len]; omega), List.getElem?_eq_none (by simp; omega)]
def RdyI (ks : List Int) (_ : Nat) (pre : List (Int × Int)) (x : Int × Int) (_ : World) : Prop := pre ++ [x] <+: bwL ks
/-- What lay below B stays, and one block more. -/
def KpI (B bf : Nat) (W W' : World) : Prop := Below B W W' ∧ W'.heap[bf]? = W.heap[bf]?
theorem KpI.trans {B bf : Nat} {X Y Z : World} (h : KpI B bf X Y) (k : KpI B bf Y Z) : KpI B bf X Z := ⟨h.1.trans k.1, k.2.trans h.2⟩
theorem KpI.refl (B bf : Nat) (X : World) : KpI B bf X X := ⟨Below.refl _ _, rfl⟩
abbrev SeqI (n : Nat) (g : Nat) (lb : Array Value) (ks : List Int) (B bf : Nat) (w : World) : Prop :=
  SeqW Fence.wide n Tryz.prog g lb (fun x : Int × Int => #[.int .i64 x.1, .int .i64 x.2]) (KpI B bf) (RdyI ks) (fun xs => xs = bwL ks) (fun pre => pre <+: bwL ks) w

set_option maxHeartbeats 400000 in
theorem backI_any (va : Option Addr) (N vc : Nat) (w : World) :
    Calls Tryz.prog 88 #[.slice va N vc] w fun e w' => e = .returned (.func (.func 95) #[] #[.pointer (some ⟨w.heap.size, 0, none⟩)]) ∧ w' = w.alloc (Obj.cells #[.slice va N vc] 55) := by
  go_enter Tryz.func88, Tryz.ntmps88
  go_wp2_with fail
  go_ret
  exact ⟨rfl, rfl⟩

set_option maxHeartbeats 2000000 in
set_option maxRecDepth 100000 in
theorem backI_seq (n : Nat) (B : Nat) (bf fc N : Nat) (ka : Option Addr) (ks : List Int) (w : World) (hB : B ≤ w.heap.size) (hN : ks.length = N) (hN2 : N ≤ 1048576) (hk : RdI w ka ks) (hkl : ∀ q, ka = some q → q.block < B)
    (h1 : Bz w bf #[.slice ka N fc] 55) :
    SeqI n 95 #[.pointer (some ⟨bf, 0, none⟩)] ks B bf w := by
  intro l J Jx O0 W hbW hJ hJx hlt hOw h0
  refine callsIn_of_wp Tryz.func95 rfl trivial ?_ rfl
  simp only [Tryz.ntmps95, List.size_toArray, List.length_cons, List.length_nil, Nat.reduceAdd, Nat.reduceSub, Array.replicate_succ, Array.replicate_zero, List.push_toArray, List.append_toArray, List.nil_append, List.cons_append]
  have h1W : Bz W bf #[.slice ka N fc] 55 := hbW.2.trans h1
  have c1 := h1W.cell 0
  simp at c1
  have hw1 : IntKind.i64.wrap ((N : Int) - 1) = (N : Int) - 1 := by rw [IntKind.wrap_i64]; omega
  have HK := kide hk
  have HKL := kide hkl
  have H1 := kide h1
  have HN := kide hN
  have HJ := kide hJ
  have HOW := kide hOw
  have HBW := kide hbW
  have HN2 := kide hN2
  clear hk hkl h1 h1W hN hJ hOw hbW hJx hlt hN2
  gi_wp2
  gi_loopw [3] (fun i wr => ∃ (k : Nat) (O : Nat → Prop), k ≤ N ∧ i = .int .i64 ((N : Int) - 1 - (k : Int)) ∧ J ((bwL ks).take k, O) wr ∧ KpI B bf W wr) (fun i _ => (intOf i + 1).toNat)
  case atStart => exact ⟨0, O0, Nat.zero_le _, by simp, by simpa using h0, KpI.refl _ _ _⟩
  case round =>
    obtain ⟨k, O, hk, rfl, hJp, hBr⟩ := hrel
    have HJP := kide hJp
    have HBR := kide hBr
    clear hJp hBr
    have hB9 := HBW.out.trans HBR.out
    have hc1 := (show Bz wr bf #[.slice ka N fc] 55 from hB9.2.trans H1.out).cell 0
    simp at hc1
    by_cases hlt : k < N
    · obtain ⟨q, hq⟩ : ∃ q : Nat, N - 1 - k = q := ⟨_, rfl⟩
      have eq : (N : Int) - 1 - (k : Int) = (q : Int) := by omega
      rw [eq]
      have hqw : IntKind.i64.wrap ((q : Int) - 1) = (q : Int) - 1 := by rw [IntKind.wrap_i64]; have := HN2.out; omega
      have q0 : (q : Int) ≥ 0 := by omega
      have q1 : (q : Int) < (N : Int) := by omega
      have hxa := bwL_at ks (k := k) (by rw [HN.out]; exact hlt)
      rw [HN.out, hq] at hxa
      obtain ⟨kb, ko, rfl, hcell⟩ : ∃ kb ko, ka = some ⟨kb, ko, none⟩ ∧ wr.cell? ⟨kb, ko + q, none⟩ = some (.int .i64 (ks.getD q 0)) := by
        rcases HK.out.2.2 with h9 | ⟨b, o, e, hc⟩
        · have := HN.out; rw [h9] at this; simp at this; omega
        · refine ⟨b, o, e, ?_⟩
          rw [hB9.1.cell (p := ⟨b, o + q, none⟩) (HKL.out ⟨b, o, none⟩ e)]
          exact hc q (by rw [HN.out]; omega)
      generalize ks.getD q 0 = y at *
      have hPP : (bwL ks).take k ++ [((q : Int), y)] <+: bwL ks := by
        have h9 := List.take_add_one (l := bwL ks) (i := k)
        rw [hxa, Option.toList_some] at h9
        rw [← h9]
        exact List.take_prefix _ _
      have HTK : Hid ((bwL ks).take (k + 1) = (bwL ks).take k ++ [((q : Int), y)]) := by
        show _ = _
        rw [List.take_add_one, hxa, Option.toList_some]
      obtain ⟨fn, tmps, assign, body, hy, hR⟩ := HOW.out _ O ((q : Int), y) wr wr HJP.out (Cz.refl wr) HJP.out hPP
      dsimp only at hy
      have HPP := kide hPP
      clear hB9 hPP hxa hq
      gi_wp2
      refine ⟨(fun h => by cases h), hR.mono ?_⟩
      rintro e W3 (⟨rfl, hK3, -, -, O', hJ3, -⟩ | ⟨rfl, -, hJx3⟩)
      · gi_wp2
        go_roundw
        case rel => exact ⟨k + 1, O', by omega, by congr 1; push_cast; omega, by rw [HTK.out]; exact hJ3, HBR.out.trans hK3⟩
        case measure => simp only [intOf]; omega
      · gi_wp2
        refine bodyPost_ret (results_none rfl _ _ _) rfl ?_
        exact ⟨⟨_, rfl⟩, .inr ⟨_, HPP.out, hJx3⟩⟩
    · obtain rfl : k = N := by omega
      have eq : (k : Int) - 1 - (k : Int) = -1 := by omega
      rw [eq]
      clear hB9
      gi_wp2
      go_end0
      refine ⟨⟨_, rfl⟩, .inl ⟨_, O, ?_, HJP.out⟩⟩
      rw [List.take_of_length_le (by rw [bwL_len, HN.out]; exact Nat.le_refl _)]
end Go.Proofs.YtckidgpopbpagaaGreatDoor

/- Forms of kids, joined. -/
namespace Go.Proofs.YtckidgpopbpagaaGreatDoor
set_option linter.unusedVariables false
set_option linter.unusedSimpArgs false
open Go.RowKit Go.Shelf
attribute [local go_sem] Oper.semAt_some

/-- The forms of the nodes ahead. -/
def Ah (w : World) (aa : Option Addr) (Fs : List (List Sc)) : Prop := Fs = [] ∨ ∃ ab ao, aa = some ⟨ab, ao, none⟩ ∧ ∀ i F, Fs[i]? = some F → ∃ v xs, w.cell? ⟨ab, ao + i, none⟩ = some v ∧ Fm w v F xs
theorem Ah.later {w w' : World} {aa : Option Addr} {Fs : List (List Sc)} (h : Ah w aa Fs) (hb : Below w.heap.size w w') : Ah w' aa Fs := by
  rcases h with h | ⟨ab, ao, e, h⟩
  · exact .inl h
  · refine .inr ⟨ab, ao, e, fun i F hi => ?_⟩
    obtain ⟨v, xs, h1, h2⟩ := h i F hi
    exact ⟨v, xs, (hb.cell (p := ⟨ab, ao + i, none⟩) (block_lt_of_cell h1)).trans h1, h2.later hb⟩

def fnV (β : Nat) : Value := .func (.func 92) #[] #[.pointer (some ⟨β, 0, none⟩)]
theorem Tryz.infoSq : (Tryz.prog.info? 91).map (fun i => (i.zero, i.size, i.bytes)) = some (some .nilFunc, 1, 8) := by kernel_rfl
/-- A row of iterators of the owner's own. -/
def OF1 (w : World) (B : Nat) (v : Value) (l : List Value) : Prop := w.ownsRow B 91 1 v l.length l
theorem OF1.lt {w : World} {B : Nat} {v : Value} {l : List Value} (h : OF1 w B v l) {b : Nat} (hb : v.ownBlock = some b) : B ≤ b ∧ b < w.heap.size := World.ownsRow.lt h b hb
theorem OF1.later {w w' : World} {B : Nat} {v : Value} {l : List Value} (h : OF1 w B v l) (hb : Below w.heap.size w w') : OF1 w' B v l := World.ownsRow.kept (row := none) h ⟨hb.os, hb.tape, hb.output, hb.size, fun k hk _ => hb.block k hk⟩ (by
  cases h' : v.ownBlock with
  | none => exact .inl rfl
  | some k => exact .inr (by simp))
theorem OF1.form {w : World} {B : Nat} {v : Value} {l : List Value} (h : OF1 w B v l) : ∃ a c, v = .slice a l.length c := by
  rcases h.2 with ⟨rfl, h0⟩ | ⟨g, cap, cur, rfl, -⟩
  · exact ⟨none, 0, by rw [h0]⟩
  · exact ⟨_, cap, rfl⟩
theorem OF1.nil (w : World) (B : Nat) : OF1 w B (.slice none 0 0) [] := ⟨rfl, .inl ⟨rfl, rfl⟩⟩
theorem OF1.typed {w : World} {B : Nat} {v : Value} {l : List Value} (h : OF1 w B v l) {b : Nat} (hb : v.ownBlock = some b) : ∃ cur, w.heap[b]? = some (.cells cur 91 (0, 0)) := by
  rcases h.2 with ⟨rfl, -⟩ | ⟨g, cap, cur, rfl, -, hh, -⟩
  · cases hb
  · cases hb; exact ⟨cur, hh⟩

theorem step_appF1 (w : World) {ops : Array Oper} {o : Oper} {a : Act} {K : Act → World → Prop} {Q : Exit → Act → World → Prop} {E : Prop} (hgd : o.guard = none) (s x : Operand)
    (ho : o.op = .call { callee := .builtin .append, args := #[s, x], argTypes := #[121, 121] })
    (B : Nat) (v : Value) (l : List Value) (y : Value) (hs : a.eval s = v) (hown : OF1 w B v l) (gx c : Nat) (hx : a.eval x = .slice (some ⟨gx, 0, none⟩) 1 c)
    (h0 : w.cell? ⟨gx, 0, none⟩ = some y) (hy : y.oneCell' = true) (hl : l.length ≤ 1073741824) (hB : B ≤ w.heap.size)
    (h : ∀ g cap w', OF1 w' B (.slice (some ⟨g, 0, none⟩) (l.length + 1) cap) (l ++ [y]) → w.grownBy w' v.ownBlock → (v.ownBlock = some g ∨ g = w.heap.size) → K (a.put o.dst (.slice (some ⟨g, 0, none⟩) (l.length + 1) cap)) w') :
    if Region.wanted o (yielded ops a.tmps) = true then Oper.wp Tryz.prog o a w K Q else E := by
  obtain ⟨i0, hi, hz0, hz1, hz2⟩ := info_parts Tryz.infoSq
  refine step_append_lies w hgd s x 121 ho B 91 i0 _ 1 8 Tryz.underlying121 hi hz0 hz1 hz2 rfl (by decide) v l.length l hs hown ⟨gx, 0, none⟩ 1 c [y] hx rfl ?_ ?_ (by decide) ?_ ?_ hB _ rfl ?_
  · intro j u hj
    rw [Addr.add_lit]
    match j, hj with
    | 0, hj => simp at hj; subst hj; exact h0
    | j + 1, hj => simp at hj
  · intro u hu
    simp at hu
    subst hu
    exact hy
  · unfold maxLen; omega
  · omega
  · intro g cap w' h1 h2 h3 _
    refine h g cap w' ?_ h2 h3
    unfold OF1
    rw [List.length_append]
    exact h1
end Go.Proofs.YtckidgpopbpagaaGreatDoor

/- slices.Repeat of one iterator. -/
namespace Go.Proofs.YtckidgpopbpagaaGreatDoor
set_option linter.unusedVariables false
set_option linter.unusedSimpArgs false
open Go.RowKit Go.Shelf

theorem mask32 (y : Nat) (h : y < 4294967296) : bits BinOp.and IntKind.u64 (y : Int) 4294967295 = (y : Int) := by
  have h9 := andMask y 32 (by omega)
  rw [show (18446744073709551615 : Int) / 2 ^ 32 = 4294967295 by decide, show (18446744073709551615 : Nat) / 2 ^ 32 = 2 ^ 32 - 1 by decide, Nat.and_two_pow_sub_one_eq_mod] at h9
  rw [h9, Nat.mod_eq_of_lt h]
set_option maxHeartbeats 1000000 in
set_option maxRecDepth 100000 in
theorem mul64_one (A : Nat) (w : World) (hA2 : A ≤ 4096) :
    Calls Tryz.prog 98 #[.int .u64 1, .int .u64 (A : Int)] w fun e w' => e = .returned (.tuple #[.int .u64 0, .int .u64 (A : Int)]) ∧ w' = w := by
  have a1 : bits BinOp.and IntKind.u64 1 4294967295 = 1 := mask32 1 (by omega)
  have a2 : bits BinOp.and IntKind.u64 (A : Int) 4294967295 = (A : Int) := mask32 A (by omega)
  have a3 : (A : Int) / 4294967296 = 0 := by omega
  have a4 : bits BinOp.and IntKind.u64 0 4294967295 = 0 := mask32 0 (by omega)
  have a5 : IntKind.u64.wrap (A : Int) = (A : Int) := by rw [IntKind.wrap_u64]; omega
  go_enter Tryz.func98, Tryz.ntmps98
  go_wp2_with fail
  exact bodyPost_ret (v := .tuple #[.int .u64 0, .int .u64 (A : Int)]) (by simp [results, Tryz.results98, go_sem]) rfl ⟨rfl, rfl⟩
set_option maxHeartbeats 1000000 in
set_option maxRecDepth 100000 in
theorem mul_one' (A : Nat) (w : World) (hA2 : A ≤ 4096) :
    Calls Tryz.prog 93 #[.int .u64 1, .int .u64 (A : Int)] w fun e w' => e = .returned (.tuple #[.int .u64 0, .int .u64 (A : Int)]) ∧ w' = w := by
  go_enter Tryz.func93, Tryz.ntmps93
  go_wp2_with fail
  refine Calls.mono (mul64_one A w hA2) ?_
  rintro e w' ⟨rfl, hw'⟩
  obtain rfl := hw'.symm
  go_wp2_with fail
  exact bodyPost_ret (v := .tuple #[.int .u64 0, .int .u64 (A : Int)]) (by simp [results, Tryz.results93, go_sem]) rfl ⟨rfl, rfl⟩
theorem make_sqs (n : Nat) (hn : n ≤ 1048576) (kl kc : IntKind) (w : World) :
    (Instr.makeSlice 121 (.int kl (n : Int)) (.int kc (n : Int))).run Tryz.prog w = .ok (.slice (some ⟨w.heap.size, 0, none⟩) n n) (w.alloc (.cells (madeCells #[.nilFunc] n) 91)) := by
  obtain ⟨i0, hi, hz0, hz1, hz2⟩ := info_parts Tryz.infoSq
  have := run_make (P := Tryz.prog) w 121 91 i0 _ Tryz.underlying121 hi hz0 kl kc n n (by omega) (Int.le_refl _) (by rw [hz2]; omega) (by omega)
  rw [hz1, Nat.mul_one] at this
  simp only [Int.toNat_natCast] at this
  exact this
theorem Tryz.sizeSq : (Tryz.prog.info? 91).map (·.size) = some 1 := by kernel_rfl
/-- The first n cells of a block of A are y. -/
def Rp (w : World) (G A n : Nat) (y : Value) : Prop := ∃ cur : Array Value, w.heap[G]? = some (.cells cur 91 (0, 0)) ∧ cur.size = A ∧ ∀ i, i < n → cur[i]? = some y
theorem Rp.copy {w : World} {G A n : Nat} {y : Value} (h : Rp w G A n y) (hy : y.oneCell' = true) (hn : n ≤ A) (ty : TypeId) (src : Addr) (k dl dc sc : Nat) {m : Nat} (hk : Nat.min k dl = m) (hm : n + m ≤ A) (hs : ∀ i, i < m → w.cell? (src.add i) = some y) : ∃ w', (Builtin.copy_ #[121, 121] ty #[.slice (some ⟨G, n, none⟩) dl dc, .slice (some src) k sc]).run Tryz.prog w = .ok (.int .i64 (m : Int)) w' ∧ Rp w' G A (n + m) y ∧ w.grownBy w' (some G) := by
  obtain ⟨cur, h1, h2, h3⟩ := h
  have h9 := run_copy_row (P := Tryz.prog) w 121 121 ty 91 G n dl dc src k sc cur 91 (List.replicate m y) Tryz.underlying121 Tryz.sizeSq h1 (by rw [List.length_replicate, hk]) (fun j v hj => by
    have hj2 := (List.getElem?_eq_some_iff.1 hj).1
    rw [List.length_replicate] at hj2
    rw [List.getElem?_replicate, if_pos hj2] at hj
    cases hj
    exact hs j hj2) (by rw [List.length_replicate, h2]; exact hm) (fun v hv => by rw [(List.mem_replicate.1 hv).2]; exact hy)
  rw [List.length_replicate] at h9
  refine ⟨_, h9, ?_, ?_⟩
  · refine ⟨_, setRow_heap w G cur _ _ _ h1, by simp [h2]; omega, fun i hi => ?_⟩
    rw [List.getElem?_toArray, List.append_assoc]
    have hl : (cur.toList.take n).length = n := by rw [List.length_take, Array.length_toList, h2]; omega
    by_cases hin : i < n
    · rw [List.getElem?_append_left (by omega), List.getElem?_take, if_pos hin, Array.getElem?_toList]
      exact h3 i hin
    · rw [List.getElem?_append_right (by omega), hl, List.getElem?_append_left (by rw [List.length_replicate]; omega), List.getElem?_replicate, if_pos (by omega)]
  · exact ⟨rfl, rfl, rfl, by rw [size_setRow]; exact Nat.le_refl _, fun k hk hne => setRow_other w G k _ (fun e => hne (by rw [e]))⟩
set_option maxHeartbeats 1000000 in
set_option maxRecDepth 100000 in
theorem repeat_any (g c A : Nat) (y : Value) (w : World) (hA : 1 ≤ A) (hA2 : A ≤ 4096) (hy : y.oneCell' = true) (h0 : w.cell? ⟨g, 0, none⟩ = some y) :
    Calls Tryz.prog 75 #[.slice (some ⟨g, 0, none⟩) 1 c, .int .i64 (A : Int)] w fun e w' => ∃ g', e = .returned (.slice (some ⟨g', 0, none⟩) A A) ∧ (∀ i, i < A → w'.cell? ⟨g', i, none⟩ = some y) ∧ Below w.heap.size w w' := by
  have q0 : ¬ (A : Int) < 0 := by omega
  go_enter Tryz.func75, Tryz.ntmps75
  go_wp2_with fail
  refine Calls.mono (mul_one' A w hA2) ?_
  rintro e w' ⟨rfl, hw'⟩
  obtain rfl := hw'.symm
  clear hw'
  have q1 : ¬ (A : Int) > 9223372036854775807 := by omega
  have q2 : IntKind.i64.wrap (A : Int) = (A : Int) := by rw [IntKind.wrap_i64]; omega
  have hmk := make_sqs A (by omega)
  obtain ⟨w1, hw1⟩ : ∃ w1, w.alloc (.cells (madeCells #[.nilFunc] A) 91) = w1 := ⟨_, rfl⟩
  obtain ⟨G, hG⟩ : ∃ G, w.heap.size = G := ⟨_, rfl⟩
  have hb1 : Below w.heap.size w w1 := by rw [← hw1]; exact (Below.refl _ _).alloc (Nat.le_refl _) _
  have r0 : Rp w1 G A 0 y := ⟨_, by rw [← hw1, ← hG]; exact heap_alloc_new w _, by rw [size_madeCells], fun i h => by omega⟩
  have hgl := block_lt_of_cell h0
  obtain ⟨w2, hcp, r1, hg2⟩ := r0.copy hy (Nat.zero_le _) 3 ⟨g, 0, none⟩ 1 A A c (m := 1) (by simp [Nat.min_def]; omega) (by omega) (fun i hi => by
    have : i = 0 := by omega
    subst this
    exact (hb1.cell (p := ⟨g, 0, none⟩) hgl).trans h0)
  rw [Nat.zero_add] at r1
  have hb2 : Below w.heap.size w w2 := hb1.trans ⟨hg2.os, hg2.tape, hg2.output, hg2.size, fun k hk => hg2.block k (Nat.lt_of_lt_of_le hk hb1.size) (fun e => by cases e; omega)⟩
  have R1 := kide r1
  have B2 := kide hb2
  have HG := kide hG
  clear r0 r1 hg2 hb1 hb2
  go_wp2_with fail
  clear hcp hmk hw1 h0 hG
  go_loopw [8] (fun i wr => ∃ n : Nat, 1 ≤ n ∧ n ≤ A ∧ i = .int .i64 (n : Int) ∧ Rp wr G A n y ∧ Below w.heap.size w wr) (fun i _ => A - (intOf i).toNat)
  case atStart => exact ⟨1, Nat.le_refl _, hA, rfl, R1.out, B2.out⟩
  case round =>
    obtain ⟨n, hn1, hn2, rfl, hr, hb⟩ := hrel
    by_cases hlt : n < A
    · obtain ⟨m, hm⟩ : ∃ m, Nat.min n (A - n) = m := ⟨_, rfl⟩
      have hmb : 1 ≤ m ∧ n + m ≤ A := by rw [← hm]; simp only [Nat.min_def]; split <;> omega
      have hr' : Rp wr.drew G A n y := hr
      obtain ⟨cur, hc1, hc2, hc3⟩ := hr
      obtain ⟨w3, hcp, r3, hg3⟩ := hr'.copy hy hn2 3 ⟨G, 0, none⟩ n (A - n) (A - n) A (m := m) hm hmb.2 (fun i hi => by
        rw [Addr.add_lit, Nat.zero_add]
        show wr.cell? _ = _
        rw [cell_of_row wr G i cur _ _ hc1]
        exact hc3 i (by have : m ≤ n := by rw [← hm]; exact Nat.min_le_left _ _
                        omega))
      have hb3 : Below w.heap.size w w3 := (hb.drew).trans ⟨hg3.os, hg3.tape, hg3.output, hg3.size, fun k hk => hg3.block k (Nat.lt_of_lt_of_le hk hb.size) (fun e => by cases e; have := HG.out; omega)⟩
      have R3 := kide r3
      have B3 := kide hb3
      have hnA : (n : Int) < (A : Int) := by omega
      have hn0 : (n : Int) ≥ 0 := by omega
      have hnA2 : (n : Int) ≤ (A : Int) := by omega
      have hw9 : IntKind.i64.wrap ((n : Int) + (m : Int)) = ((n + m : Nat) : Int) := by rw [IntKind.wrap_i64]; omega
      clear hr' hc1 hc2 hc3 r3 hg3 hb3 hb hm
      go_wp2_with fail
      go_region
      go_wp2_with fail
      go_roundw
      case rel => exact ⟨n + m, by omega, hmb.2, rfl, R3.out, B3.out⟩
      case measure => simp only [intOf]; omega
    · obtain rfl : n = A := by omega
      obtain ⟨cur, hc1, hc2, hc3⟩ := hr
      have hcell : ∀ i, i < n → wr.cell? ⟨G, i, none⟩ = some y := fun i hi => by rw [cell_of_row wr G i cur _ _ hc1]; exact hc3 i hi
      have HCL := kide hcell
      have B9 := kide hb
      clear hc1 hc2 hc3 hcell hb
      go_wp2_with fail
      exact bodyPost_ret (v := .slice (some ⟨G, 0, none⟩) n n) (by simp [results, Tryz.results75, go_sem]) rfl ⟨G, rfl, HCL.out, B9.out⟩
end Go.Proofs.YtckidgpopbpagaaGreatDoor

/- Each segment gets words of its own. -/
namespace Go.Proofs.YtckidgpopbpagaaGreatDoor
set_option linter.unusedVariables false
set_option linter.unusedSimpArgs false
open Go.RowKit

/-- The words of no two lie in one block. -/
def Dj (l : List Sg) : Prop := ∀ (i j : Nat) (x y : Sg), i < j → l[i]? = some x → l[j]? = some y → ∀ p q, x.a = some p → y.a = some q → p.block ≠ q.block
theorem Dj.nil : Dj [] := fun i j x y _ h => by simp at h
theorem Dj.snoc {N : Nat} {l : List Sg} {x : Sg} (h : Dj l) (hl : ∀ y ∈ l, ∀ p, y.a = some p → p.block < N) (hx : ∀ p, x.a = some p → N ≤ p.block) : Dj (l ++ [x]) := fun i j y z hij hi hj p q hp hq => by
  have hjl := (List.getElem?_eq_some_iff.1 hj).1
  simp at hjl
  by_cases e : j = l.length
  · subst e
    rw [List.getElem?_append_left (by omega)] at hi
    simp at hj
    subst hj
    have := hl y (List.mem_of_getElem? hi) p hp
    have := hx q hq
    omega
  · rw [List.getElem?_append_left (by omega)] at hi hj
    exact h i j y z hij hi hj p q hp hq

theorem os5_mid {w : World} {B g n c M : Nat} {k t : List Sg} {y : Sg} (h : OS5 w B (.slice (some ⟨g, 0, none⟩) n c) (k ++ y :: t)) (hM : k.length = M) :
    w.cell? ⟨g, M * 5, none⟩ = some (.int .i64 y.ct.v) ∧ w.cell? ⟨g, M * 5 + 1, none⟩ = some (.int .i64 y.ct.lo) ∧ w.cell? ⟨g, M * 5 + 2, none⟩ = some (.int .i64 y.ct.wd) ∧ w.cell? ⟨g, M * 5 + 3, none⟩ = some (.int .i64 y.ct.bw) ∧ w.cell? ⟨g, M * 5 + 4, none⟩ = some (.slice y.a y.ct.ws.length y.c) := by
  have key : ∀ (j : Nat) (u : Value), (sgc [y])[j]? = some u → w.cell? ⟨g, M * 5 + j, none⟩ = some u := fun j u hj => by
    have hl : (sgc k).length = M * 5 := by rw [sgc_len, hM]
    have hj5 : j < (sgc [y]).length := (List.getElem?_eq_some_iff.1 hj).1
    have hc := World.ownsRow.cells h (g := g) rfl (M * 5 + j) u (by rw [sgc_append, List.getElem?_append_right (by omega), hl, Nat.add_sub_cancel_left, show y :: t = [y] ++ t from rfl, sgc_append, List.getElem?_append_left hj5]; exact hj)
    rw [Addr.add_lit] at hc
    simpa using hc
  exact ⟨key 0 _ rfl, key 1 _ rfl, key 2 _ rfl, key 3 _ rfl, key 4 _ rfl⟩
theorem os5_put2i {w : World} {B g n c M : Nat} {k t : List Sg} {y z : Sg} (h : OS5 w B (.slice (some ⟨g, 0, none⟩) n c) (k ++ y :: t)) (hM : k.length = M) (hz : z.ct = y.ct) : OS5 (put2 w g (M * 5) z) B (.slice (some ⟨g, 0, none⟩) n c) (k ++ z :: t) ∧ w.grownBy (put2 w g (M * 5) z) (some g) := by
  obtain ⟨a, c', e⟩ := h.form
  cases e
  have s1 := World.ownsRow.stored h (M * 5 + 3) (.int .i64 z.ct.bw)
  have s2 := World.ownsRow.stored s1.1 (M * 5 + 4) (.slice z.a z.ct.ws.length z.c)
  refine ⟨?_, grown_same s1.2 s2.2⟩
  have hl : (sgc k).length = M * 5 := by rw [sgc_len, hM]
  have e : sgc (k ++ z :: t) = ((sgc (k ++ y :: t)).set (M * 5 + 3) (.int .i64 z.ct.bw)).set (M * 5 + 4) (.slice z.a z.ct.ws.length z.c) := by
    rw [sgc_append, sgc_append]
    simp [sgc, List.set_append, hl, hz]
  have h9 := s2.1
  unfold OS5
  rw [e, show (k ++ z :: t).length = (k ++ y :: t).length by simp]
  exact h9
theorem nw_gr {w w' : World} {lo : Nat} {a : Option Addr} {xs : List Nat} {r : Option Nat} (h : Nw w lo a xs) (hg : w.grownBy w' r) (hr : ∀ j, r = some j → j < lo) : Nw w' lo a xs := by
  have key : ∀ b, lo ≤ b → b < w.heap.size → w'.heap[b]? = w.heap[b]? := fun b h1 h2 => hg.block b h2 (fun e => by have := hr b e.symm; omega)
  rcases h with ⟨h1, h2⟩ | ⟨g, cur, h1, h2, h3, h4⟩
  · exact .inl ⟨h1, fun x hx => by
      obtain ⟨k1, k2, cur, k3⟩ := h2 x hx
      exact ⟨k1, k2, cur, by rw [key _ k1 (lt_of_block k3)]; exact k3⟩⟩
  · exact .inr ⟨g, cur, h1, h2, by rw [key _ h2 (lt_of_block h3)]; exact h3, h4⟩

/-- What is at hand when k have got theirs: k new ones and the rest as it was. -/
structure Fh (w : World) (B : Nat) (v : Value) (l : List Sg) (k : Nat) (m : List Sg) (wr : World) : Prop where
  row : OS5 wr B v (m ++ l.drop k)
  ct : m.map Sg.ct = (l.take k).map Sg.ct
  len : m.length = k
  nw : ∀ x ∈ m, Nw wr w.heap.size x.a x.ct.ws
  dj : Dj m
  gr : w.grownBy wr v.ownBlock

def RetFr (v : Value) (ok : Bool) (B : Nat) (l : List Sg) (w : World) (e : Ending) (w' : World) : Prop := e = .returned (.tuple #[v, .bool ok]) ∧ ∃ m, Fh w B v l l.length m w'

set_option maxHeartbeats 2000000 in
set_option maxRecDepth 100000 in
theorem fresh_any (va : Option Addr) (N vc B : Nat) (ok : Bool) (l : List Sg) (w : World) (hrow : OS5 w B (.slice va N vc) l) (hN : l.length = N) (hN2 : N ≤ 2000) (hB : B ≤ w.heap.size) (hrd : ∀ x ∈ l, Rd w x.a x.ct.ws) (hno : ∀ x ∈ l, x.a = none → x.c = 0) (hne : ∀ x ∈ l, ∀ p, x.a = some p → (Value.slice va N vc).ownBlock ≠ some p.block) :
    Calls Tryz.prog 29 #[.slice va N vc, .bool ok] w (RetFr (.slice va N vc) ok B l w) := by
  have HROW := kide hrow
  have HN := kide hN
  have HRD := kide hrd
  have HNO := kide hno
  have HNE := kide hne
  clear hrow hN hrd hno hne
  go_enter Tryz.func29, Tryz.ntmps29
  go_wp2_with fail
  have H0 : Hid (Fh w B (.slice va N vc) l 0 [] w) := ⟨HROW.out, rfl, rfl, fun x hx => by (cases hx), Dj.nil, ⟨rfl, rfl, rfl, Nat.le_refl _, fun _ _ _ => rfl⟩⟩
  go_loopw [10] (fun i wr => ∃ (k : Nat) (m : List Sg), k ≤ N ∧ i = .int .i64 (k : Int) ∧ Fh w B (.slice va N vc) l k m wr) (fun i _ => N - (intOf i).toNat)
  case atStart => exact ⟨0, [], Nat.zero_le _, rfl, H0.out⟩
  case round =>
    obtain ⟨k, m, hk, rfl, hf⟩ := hrel
    have HF := kide hf
    by_cases hlt : k < N
    · obtain ⟨x, hx⟩ : ∃ x, l[k]? = some x := ⟨l[k]'(by rw [HN.out]; exact hlt), List.getElem?_eq_getElem _⟩
      have hdr : l.drop k = x :: l.drop (k + 1) := by
        have h9 := List.getElem?_eq_some_iff.1 hx
        rw [← h9.2, List.drop_eq_getElem_cons h9.1]
      have hrow := hf.row
      rw [hdr] at hrow
      obtain ⟨g, rfl⟩ : ∃ g, va = some ⟨g, 0, none⟩ := by
        rcases hrow.2 with ⟨e, h9⟩ | ⟨g, cap, cur, e, -⟩
        · simp at h9
        · cases e; exact ⟨g, rfl⟩
      obtain ⟨c0, c1, c2, c3, c4⟩ := os5_mid hrow hf.len
      have hmem := List.mem_of_getElem? hx
      have hrr : Rd wr x.a x.ct.ws := rd_gr (HRD.out x hmem) hf.gr (HNE.out x hmem)
      have lg := (hrow.lt (b := g) rfl).2
      have lg0 := (HROW.out.lt (b := g) rfl).2
      have BA : Hid (Below wr.heap.size wr (wr.alloc (Obj.cells #[Value.int .i64 x.ct.v, Value.int .i64 x.ct.lo, Value.int .i64 x.ct.wd, Value.int .i64 x.ct.bw, Value.slice x.a x.ct.ws.length x.c] 67))) := (Below.refl _ _).alloc (Nat.le_refl _) _
      have HCP := kide (fun u (hu : Below wr.heap.size wr u) => copyO x.ct.bw x.a x.c x.ct.ws.length x.ct.ws u (hrr.later hu) rfl (HNO.out x hmem))
      have HROW2 := kide hrow
      have hkN : (k : Int) < (N : Int) := by omega
      have hk0 : (k : Int) ≥ 0 := by omega
      have hkw : IntKind.i64.wrap ((k : Int) + 1) = (k : Int) + 1 := by rw [IntKind.wrap_i64]; omega
      have HDR := kide hdr
      have HX := kide hx
      clear hx hdr hf hrow hmem hrr
      go_wp2_with fail
      refine Calls.mono (HCP.out _ BA.out) ?_
      rintro e V ⟨a2, c2', rfl, ho2, hb2⟩
      have b2 := BA.out.trans (hb2.mono BA.out.size)
      have hrV := HROW2.out.later b2
      obtain ⟨k0, k1, k2, k3, k4⟩ := os5_mid hrV HF.out.len
      obtain ⟨cur9, hcur9⟩ := hrV.typed (b := g) rfl
      have z3 := frozen_of_row V g (k * 5 + 3) cur9 _ hcur9
      have z4 := frozen_of_row V g (k * 5 + 4) cur9 _ hcur9
      obtain ⟨Y, hYc, hYa, hYd⟩ : ∃ Y : Sg, Y.ct = x.ct ∧ Y.a = a2 ∧ Y.c = c2' := ⟨⟨x.ct, a2, c2'⟩, rfl, rfl, rfl⟩
      subst hYa hYd
      have hU : (V.setCell ⟨g, k * 5 + 3, none⟩ (Value.int .i64 x.ct.bw)).setCell ⟨g, k * 5 + 4, none⟩ (Value.slice Y.a x.ct.ws.length Y.c) = put2 V g (k * 5) Y := by unfold put2; rw [hYc]
      obtain ⟨P1, P2⟩ := os5_put2i hrV HF.out.len hYc
      have hg1 : w.grownBy V (some g) := ⟨b2.os.trans HF.out.gr.os, b2.tape.trans HF.out.gr.tape, b2.output.trans HF.out.gr.output, Nat.le_trans HF.out.gr.size b2.size, fun j hj hn => (b2.block j (Nat.lt_of_lt_of_le hj HF.out.gr.size)).trans (HF.out.gr.block j hj hn)⟩
      have hlow : w.heap.size ≤ (wr.alloc (Obj.cells #[Value.int .i64 x.ct.v, Value.int .i64 x.ct.lo, Value.int .i64 x.ct.wd, Value.int .i64 x.ct.bw, Value.slice x.a x.ct.ws.length x.c] 67)).heap.size := Nat.le_trans HF.out.gr.size BA.out.size
      have hnY : Nw V (wr.alloc (Obj.cells #[Value.int .i64 x.ct.v, Value.int .i64 x.ct.lo, Value.int .i64 x.ct.wd, Value.int .i64 x.ct.bw, Value.slice x.a x.ct.ws.length x.c] 67)).heap.size Y.a x.ct.ws := by
        obtain ⟨a9, c9, e9, h9⟩ := ho2.shape
        cases e9
        exact h9
      have NX : Hid (Fh w B (.slice (some ⟨g, 0, none⟩) N vc) l (k + 1) (m ++ [Y]) (put2 V g (k * 5) Y)) := by
        refine ⟨by rw [List.append_assoc]; exact P1, ?_, by rw [List.length_append, HF.out.len]; rfl, ?_, ?_, grown_same hg1 P2⟩
        · rw [List.map_append, HF.out.ct, List.take_add_one, HX.out, Option.toList_some, List.map_append, show [Y].map Sg.ct = [x].map Sg.ct by simp [hYc]]
        · intro y hy
          refine nw_gr ?_ P2 (fun j hj => by cases hj; exact lg0)
          rcases List.mem_append.1 hy with hy | hy
          · exact (HF.out.nw y hy).later b2
          · rw [List.mem_singleton.1 hy, hYc]
            exact hnY.mono hlow
        · refine HF.out.dj.snoc (N := wr.heap.size) (fun y hy p hp => (nw_lt (HF.out.nw y hy) hp).2) (fun p hp => ?_)
          have := (nw_lt hnY hp).1
          have := BA.out.size
          omega
      clear ho2 hb2 b2 hrV P1 P2 hg1 hlow hnY hcur9 hYc
      go_wp2_with fail
      go_roundw
      case rel => exact ⟨k + 1, m ++ [Y], by omega, rfl, NX.out⟩
      case measure => simp only [intOf]; omega
    · obtain rfl : k = N := by omega
      clear hf
      go_wp2_with fail
      refine bodyPost_ret (v := .tuple #[.slice va k vc, .bool ok]) (by simp [results, Tryz.results29, go_sem]) rfl ⟨rfl, m, ?_⟩
      rw [HN.out]
      exact HF.out

/-- Segments as an answer: words of their own, no two in one block. -/
def RetFd (R : List Sc × Bool) (w : World) (e : Ending) (w' : World) : Prop := ∃ v l, e = .returned (.tuple #[v, .bool R.2]) ∧ l.map Sg.ct = R.1 ∧ Ss w' w.heap.size v l ∧ Dj l ∧ Below w.heap.size w w'

end Go.Proofs.YtckidgpopbpagaaGreatDoor
