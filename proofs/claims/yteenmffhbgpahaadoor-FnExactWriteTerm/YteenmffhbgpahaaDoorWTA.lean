/- The text of a term, plainly. -/
import Derived.Test.YteenmffhbgpahaaDoorZWE
import Derived.Test.YteenmffhbgpahaaDoorWM
import Derived.Lib.ItoaNum
namespace Go.Proofs.YteenmffhbgpahaaDoor
set_option linter.unusedVariables false
set_option linter.unusedSimpArgs false
open Go.RowKit

def blT (s : ByteArray) : List Nat := s.data.toList.map UInt8.toNat
theorem txt_blT (s : ByteArray) : txt (blT s) = s := by
  unfold txt blT
  rw [List.map_map]
  have : (UInt8.ofNat ∘ UInt8.toNat) = id := by funext x; simp
  rw [this, List.map_id]
theorem txt_appT (l m : List Nat) : txt (l ++ m) = txt l ++ txt m := by
  unfold txt
  rw [List.map_append]
  apply ByteArray.ext
  simp
theorem txt_sizeT (l : List Nat) : (txt l).size = l.length := by
  show (txt l).data.size = _
  simp [txt]
/-- A number in decimal. -/
def decN (n : Nat) : List Nat := (Lib.decDigits n).map UInt8.toNat
theorem txt_decN (n : Nat) : txt (decN n) = ⟨(Lib.decDigits n).toArray⟩ := by
  unfold txt decN
  rw [List.map_map]
  have : (UInt8.ofNat ∘ UInt8.toNat) = id := by funext x; simp
  rw [this, List.map_id]
/-- What is left to write of a number; nothing of 0. -/
def restN (n : Nat) : List Nat := if n = 0 then [] else decN n
theorem restN_step {n : Nat} (h : 0 < n) : restN n = restN (n / 10) ++ [48 + n % 10] := by
  unfold restN
  rw [if_neg (by omega)]
  unfold decN
  rw [Lib.decDigits]
  by_cases h1 : n < 10
  · rw [dif_pos h1, if_pos (by omega)]
    simp
    omega
  · rw [dif_neg h1, if_neg (by omega)]
    simp
    omega
theorem decN_zero : decN 0 = [48] := by
  unfold decN
  rw [Lib.decDigits]
  simp
theorem decN_len : ∀ n : Nat, 1 ≤ (decN n).length ∧ (decN n).length ≤ n + 1 := by
  intro n
  induction n using Nat.strongRecOn with
  | ind n ih =>
    unfold decN
    rw [Lib.decDigits]
    by_cases h1 : n < 10
    · rw [dif_pos h1]; simp
    · rw [dif_neg h1]
      have := ih (n / 10) (by omega)
      simp [decN] at this
      simp
      omega

def wordN (op : Int) : List Nat := if op = 3 then [99, 97, 116] else if op = 4 then [112, 97, 114, 116] else if op = 5 then [122, 101, 114, 111] else if op = 6 then [115, 105, 103, 110] else if op = 7 then [108, 101, 102, 116] else if op = 8 then [114, 105, 103, 104, 116] else [114, 101, 112]
/-- A node's text as far as its kids. -/
def hdT (ds : List Dc) (x : Tc) : List Nat := if x.op = 1 then blT (ds.getD x.vr.toNat (.empty, 0)).1 else if x.op = 2 then writeR x.bw x.ws else (40 :: wordN x.op) ++ ((if 4 ≤ x.op then 32 :: decN x.a.toNat else []) ++ (if x.op = 4 then 32 :: decN x.b.toNat else []))
def kdT (all : List (List Nat)) (ks : List Int) : List Nat := ks.flatMap fun k => 32 :: all.getD k.toNat []
def ndT (ds : List Dc) (all : List (List Nat)) (x : Tc) : List Nat := hdT ds x ++ (kdT all x.ks ++ (if x.ks = [] then [] else [41]))
def txR (ds : List Dc) (ns : List Tc) : List (List Nat) := ns.foldl (fun all n => all ++ [ndT ds all n]) []
def ndZ (ds : List Dc) (zs : List Nat) (x : Tc) : Nat := min ((hdT ds x).length + (x.ks.map fun k => 1 + zs.getD k.toNat 0).sum + (if x.ks = [] then 0 else 1)) 20001
def szR (ds : List Dc) (ns : List Tc) : List Nat := ns.foldl (fun zs n => zs ++ [ndZ ds zs n]) []
def wtR (ds : List Dc) (ns : List Tc) : List Nat := if widR ds ns < 0 ∨ 20000 < (szR ds ns).getD (ns.length - 1) 0 then [] else (txR ds ns).getD (ns.length - 1) []

theorem tx_take {ds : List Dc} {ns : List Tc} {k : Nat} {n : Tc} (h : ns[k]? = some n) : txR ds (ns.take (k + 1)) = txR ds (ns.take k) ++ [ndT ds (txR ds (ns.take k)) n] := by
  unfold txR
  rw [List.take_add_one, h, List.foldl_append]
  simp
theorem sz_take {ds : List Dc} {ns : List Tc} {k : Nat} {n : Tc} (h : ns[k]? = some n) : szR ds (ns.take (k + 1)) = szR ds (ns.take k) ++ [ndZ ds (szR ds (ns.take k)) n] := by
  unfold szR
  rw [List.take_add_one, h, List.foldl_append]
  simp
theorem tx_len (ds : List Dc) (ns : List Tc) : ∀ k, k ≤ ns.length → (txR ds (ns.take k)).length = k
  | 0, _ => rfl
  | k + 1, hk => by
    rw [tx_take (List.getElem?_eq_getElem (show k < ns.length by omega)), List.length_append, tx_len ds ns k (by omega)]
    rfl
theorem sz_len (ds : List Dc) (ns : List Tc) : ∀ k, k ≤ ns.length → (szR ds (ns.take k)).length = k
  | 0, _ => rfl
  | k + 1, hk => by
    rw [sz_take (List.getElem?_eq_getElem (show k < ns.length by omega)), List.length_append, sz_len ds ns k (by omega)]
    rfl
/-- What stands stays. -/
theorem tx_old (ds : List Dc) (ns : List Tc) {i : Nat} : ∀ k, i < k → k ≤ ns.length → (txR ds (ns.take k)).getD i [] = (txR ds (ns.take (i + 1))).getD i []
  | 0, h, _ => by omega
  | k + 1, h, hk => by
    by_cases e : i = k
    · subst e; rfl
    · rw [tx_take (List.getElem?_eq_getElem (show k < ns.length by omega)), List.getD_eq_getElem?_getD, List.getElem?_append_left (by rw [tx_len ds ns k (by omega)]; omega), ← List.getD_eq_getElem?_getD]
      exact tx_old ds ns k (by omega) (by omega)
theorem tx_all {ds : List Dc} {ns : List Tc} {i k : Nat} (hi : i < k) (hk : k ≤ ns.length) : (txR ds (ns.take k)).getD i [] = (txR ds ns).getD i [] := by
  have h := tx_old ds ns (i := i) ns.length (by omega) (Nat.le_refl _)
  rw [List.take_length] at h
  rw [tx_old ds ns k hi hk, h]
theorem tx_at {ds : List Dc} {ns : List Tc} {p : Nat} {x : Tc} (hx : ns[p]? = some x) : (txR ds ns).getD p [] = ndT ds (txR ds (ns.take p)) x := by
  have hp := (List.getElem?_eq_some_iff.1 hx).1
  rw [← tx_all (k := p + 1) (by omega) (by omega), tx_take hx, List.getD_eq_getElem?_getD, List.getElem?_append_right (by rw [tx_len ds ns p (by omega)]; exact Nat.le_refl _), tx_len ds ns p (by omega)]
  simp
theorem kd_same {a b : List (List Nat)} {ks : List Int} (h : ∀ k ∈ ks, a.getD k.toNat [] = b.getD k.toNat []) : kdT a ks = kdT b ks := by
  unfold kdT
  induction ks with
  | nil => rfl
  | cons k t ih =>
    rw [List.flatMap_cons, List.flatMap_cons, h k (by simp), ih fun x hx => h x (List.mem_cons_of_mem _ hx)]
theorem tx_node {ds : List Dc} {ns : List Tc} {p : Nat} {x : Tc} (hx : ns[p]? = some x) (hk : ∀ j ∈ x.ks, 0 ≤ j ∧ j < (p : Int)) : (txR ds ns).getD p [] = ndT ds (txR ds ns) x := by
  have hp := (List.getElem?_eq_some_iff.1 hx).1
  rw [tx_at hx]
  unfold ndT
  rw [kd_same (b := txR ds ns) fun k hk' => by
    have := hk k hk'
    exact tx_all (by omega) (by omega)]
theorem min_sum (M : Nat) {all : List (List Nat)} {zs : List Nat} : ∀ (ks : List Int) (c : Nat), (∀ k ∈ ks, zs.getD k.toNat 0 = min (all.getD k.toNat []).length M) → min (c + (ks.map fun k => 1 + zs.getD k.toNat 0).sum) M = min (c + (kdT all ks).length) M
  | [], c, _ => by simp [kdT]
  | k :: t, c, h => by
    have h1 := h k (by simp)
    have h2 := min_sum M t (c + (1 + zs.getD k.toNat 0)) fun x hx => h x (List.mem_cons_of_mem _ hx)
    simp only [List.map_cons, List.sum_cons, kdT, List.flatMap_cons, List.length_append, List.length_cons] at h2 ⊢
    rw [h1] at h2 ⊢
    omega
theorem sz_tx {ds : List Dc} {ns : List Tc} (hk : ∀ (k : Nat) (n : Tc), ns[k]? = some n → ∀ j ∈ n.ks, 0 ≤ j ∧ j < (k : Int)) : ∀ k, k ≤ ns.length → ∀ i, i < k → (szR ds (ns.take k)).getD i 0 = min ((txR ds (ns.take k)).getD i []).length 20001
  | 0, _, i, h => by omega
  | k + 1, hkl, i, h => by
    have hx : ns[k]? = some (ns[k]'(by omega)) := List.getElem?_eq_getElem (by omega)
    have ih := sz_tx (ds := ds) hk k (by omega)
    have l1 := tx_len ds ns k (by omega)
    have l2 := sz_len ds ns k (by omega)
    rw [sz_take hx, tx_take hx]
    by_cases e : i = k
    · subst e
      rw [List.getD_eq_getElem?_getD, List.getD_eq_getElem?_getD, List.getElem?_append_right (by omega), List.getElem?_append_right (by omega), l1, l2]
      simp only [Nat.sub_self, List.getElem?_cons_zero, Option.getD_some]
      unfold ndZ ndT
      have hm := min_sum 20001 (all := txR ds (ns.take i)) (zs := szR ds (ns.take i)) (ns[i]'(by omega)).ks ((hdT ds (ns[i]'(by omega))).length + (if (ns[i]'(by omega)).ks = [] then 0 else 1)) fun j hj => by
        have := hk i _ hx j hj
        exact ih _ (by omega)
      rw [List.length_append, List.length_append]
      split at hm
      · rename_i h0
        rw [if_pos h0, if_pos h0]
        simp only [List.length_nil] at hm ⊢
        omega
      · rename_i h0
        rw [if_neg h0, if_neg h0]
        simp only [List.length_cons, List.length_nil] at hm ⊢
        omega
    · rw [List.getD_eq_getElem?_getD, List.getD_eq_getElem?_getD, List.getElem?_append_left (by omega), List.getElem?_append_left (by omega), ← List.getD_eq_getElem?_getD, ← List.getD_eq_getElem?_getD]
      exact ih i (by omega)
/-- A kid's text is shorter. -/
theorem kd_lt {all : List (List Nat)} {ks : List Int} {k : Int} (hk : k ∈ ks) : (all.getD k.toNat []).length + 1 ≤ (kdT all ks).length := by
  unfold kdT
  induction ks with
  | nil => cases hk
  | cons x t ih =>
    rw [List.flatMap_cons, List.length_append, List.length_cons]
    rcases List.mem_cons.1 hk with rfl | hk
    · omega
    · have := ih hk
      omega

end Go.Proofs.YteenmffhbgpahaaDoor
