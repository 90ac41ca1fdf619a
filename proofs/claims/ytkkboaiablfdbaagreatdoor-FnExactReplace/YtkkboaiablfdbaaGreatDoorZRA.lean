/- Several texts in one. -/
import Derived.Test.YtkkboaiablfdbaaGreatDoorZLV

/- A variable replaced: maths. Nodes behind one another, what is used, sharing. -/
namespace Go.Proofs.YtkkboaiablfdbaaGreatDoor
set_option linter.unusedVariables false
set_option linter.unusedSimpArgs false
open Go.RowKit

/-- The given side: nodes of t behind those of u; the variable v stands where u's last node is. -/
def isV (v : Int) (n : Tc) : Bool := decide (n.op = 1) && decide (n.vr = v)
def rpStep (v top : Int) (st : List Tc × List Int) (n : Tc) : List Tc × List Int :=
  if isV v n = true then (st.1, st.2 ++ [top]) else (st.1 ++ [mvT st.2 n], st.2 ++ [(st.1.length : Int)])
def rpTo (v : Int) (us ts : List Tc) : Nat → List Tc × List Int
  | 0 => (us, [])
  | k + 1 => match ts[k]? with
    | some n => rpStep v ((us.length : Int) - 1) (rpTo v us ts k) n
    | none => rpTo v us ts k
theorem rpTo_succ {v : Int} {us ts : List Tc} {k : Nat} {n : Tc} (h : ts[k]? = some n) : rpTo v us ts (k + 1) = rpStep v ((us.length : Int) - 1) (rpTo v us ts k) n := by
  rw [rpTo, h]

/-- Kids stand ahead. -/
def Ahd (ns : List Tc) : Prop := ∀ (k : Nat) (n : Tc), ns[k]? = some n → ∀ j ∈ n.ks, 0 ≤ j ∧ j < (k : Int)
theorem Ahd.snoc {ns : List Tc} {x : Tc} (h : Ahd ns) (hx : ∀ j ∈ x.ks, 0 ≤ j ∧ j < (ns.length : Int)) : Ahd (ns ++ [x]) := by
  intro k n hk j hj
  by_cases hl : k < ns.length
  · rw [List.getElem?_append_left hl] at hk
    exact h k n hk j hj
  · rw [List.getElem?_append_right (by omega)] at hk
    have h0 : k - ns.length = 0 := by
      have := (List.getElem?_eq_some_iff.1 hk).1
      simp at this
      omega
    rw [h0] at hk
    simp at hk
    subst hk
    have := hx j hj
    omega

theorem gD_lt {l : List Int} {i : Nat} (h : i < l.length) : l.getD i 0 ∈ l := by
  rw [List.getD_eq_getElem?_getD, List.getElem?_eq_getElem h]
  exact List.getElem_mem h

/-- What holds on the way. -/
structure RpF (v : Int) (us ts : List Tc) (k : Nat) (st : List Tc × List Int) : Prop where
  l2 : st.2.length = k
  l1 : us.length ≤ st.1.length ∧ st.1.length ≤ us.length + k
  pre : st.1.take us.length = us
  rg : ∀ x ∈ st.2, 0 ≤ x ∧ x < (st.1.length : Int)
  ah : Ahd st.1
  /-- each node of t that stays is there -/
  is : ∀ (q : Nat) (n : Tc), q < k → ts[q]? = some n → isV v n = false → (us.length : Int) ≤ st.2.getD q 0 ∧ st.1[(st.2.getD q 0).toNat]? = some (mvT st.2 n)
  vr : ∀ (q : Nat) (n : Tc), q < k → ts[q]? = some n → isV v n = true → st.2.getD q 0 = (us.length : Int) - 1
  /-- and nothing else is behind u -/
  on : ∀ i, us.length ≤ i → i < st.1.length → ∃ q n, q < k ∧ ts[q]? = some n ∧ isV v n = false ∧ st.2.getD q 0 = (i : Int)

theorem mvT_more {to : List Int} {n : Tc} {k : Nat} (hl : to.length = k) (h : ∀ j ∈ n.ks, 0 ≤ j ∧ j < (k : Int)) (x : Int) : mvT (to ++ [x]) n = mvT to n := by
  unfold mvT
  congr 1
  apply List.map_congr_left
  intro j hj
  obtain ⟨h0, h1⟩ := h j hj
  rw [getD_left _ _ _ _ (by omega)]

theorem rpTo_f {v : Int} {us ts : List Tc} (hu1 : 1 ≤ us.length) (hu : Ahd us) (ht : Ahd ts) : ∀ k, k ≤ ts.length → RpF v us ts k (rpTo v us ts k)
  | 0, _ => ⟨rfl, ⟨Nat.le_refl _, Nat.le_refl _⟩, by rw [rpTo, List.take_length], by simp [rpTo], hu, fun q n h => by omega, fun q n h => by omega, fun i h1 h2 => by simp only [rpTo] at h2; omega⟩
  | k + 1, h => by
    have hk2 : ts[k]? = some (ts[k]'(by omega)) := List.getElem?_eq_getElem (by omega)
    rw [rpTo_succ hk2]
    have ih := rpTo_f hu1 hu ht k (by omega) (v := v)
    generalize rpTo v us ts k = st at ih
    generalize ts[k]'(by omega) = n at hk2
    have hkid := ht k n hk2
    obtain ⟨l2, l1, pre, rg, ah, is, vr, on⟩ := ih
    have hmem : ∀ (q : Nat) (m : Tc), q < k → ts[q]? = some m → ∀ x, mvT (st.2 ++ [x]) m = mvT st.2 m := fun q m hq hm x => mvT_more l2 (fun j hj => by have := ht q m hm j hj; omega) x
    have hgd : ∀ (q : Nat) (x : Int), q < k → (st.2 ++ [x]).getD q 0 = st.2.getD q 0 := fun q x hq => getD_left _ _ _ _ (by omega)
    have hgk : ∀ x : Int, (st.2 ++ [x]).getD k 0 = x := fun x => by rw [getD_right _ _ _ _ (by omega), l2]; simp
    unfold rpStep
    by_cases hv : isV v n = true
    · rw [if_pos hv]
      refine ⟨by simp [l2], ⟨l1.1, by simp only; omega⟩, pre, fun x hx => ?_, ah, fun q m hq hm hmv => ?_, fun q m hq hm hmv => ?_, fun i h1 h2 => ?_⟩
      · rcases List.mem_append.1 hx with hx | hx
        · exact rg x hx
        · simp at hx
          subst hx
          simp only
          omega
      · by_cases e : q = k
        · subst e
          rw [hk2] at hm
          cases hm
          rw [hv] at hmv
          cases hmv
        · have hq' : q < k := by omega
          simp only
          rw [hgd q _ hq', hmem q m hq' hm]
          exact is q m hq' hm hmv
      · by_cases e : q = k
        · subst e
          exact hgk _
        · have hq' : q < k := by omega
          simp only
          rw [hgd q _ hq']
          exact vr q m hq' hm hmv
      · obtain ⟨q, m, hq, hm, hmv, e⟩ := on i h1 h2
        exact ⟨q, m, by omega, hm, hmv, by simp only; rw [hgd q _ hq]; exact e⟩
    · rw [if_neg hv]
      have hv' : isV v n = false := by simpa using hv
      have hkm : ∀ j ∈ (mvT st.2 n).ks, 0 ≤ j ∧ j < (st.1.length : Int) := fun j hj => by
        obtain ⟨q, hq, rfl⟩ := List.mem_map.1 hj
        have := hkid q hq
        exact rg _ (gD_lt (by omega))
      refine ⟨by simp [l2], ⟨by simp; omega, by simp; omega⟩, ?_, fun x hx => ?_, ah.snoc hkm, fun q m hq hm hmv => ?_, fun q m hq hm hmv => ?_, fun i h1 h2 => ?_⟩
      · simp only
        rw [List.take_append_of_le_length l1.1]
        exact pre
      · simp only [List.length_append, List.length_cons, List.length_nil]
        rcases List.mem_append.1 hx with hx | hx
        · have := rg x hx
          omega
        · simp at hx
          subst hx
          omega
      · by_cases e : q = k
        · subst e
          rw [hk2] at hm
          cases hm
          simp only
          rw [hgk, mvT_more l2 hkid]
          refine ⟨by omega, ?_⟩
          rw [Int.toNat_natCast, List.getElem?_append_right (Nat.le_refl _), Nat.sub_self]
          rfl
        · have hq' : q < k := by omega
          simp only
          rw [hgd q _ hq', hmem q m hq' hm]
          obtain ⟨a1, a2⟩ := is q m hq' hm hmv
          refine ⟨a1, ?_⟩
          rw [List.getElem?_append_left (List.getElem?_eq_some_iff.1 a2).1]
          exact a2
      · by_cases e : q = k
        · subst e
          rw [hk2] at hm
          cases hm
          rw [hv'] at hmv
          cases hmv
        · have hq' : q < k := by omega
          simp only
          rw [hgd q _ hq']
          exact vr q m hq' hm hmv
      · simp only [List.length_append, List.length_cons, List.length_nil] at h2
        by_cases e : i = st.1.length
        · exact ⟨k, n, by omega, hk2, hv', by simp only; rw [hgk, e]⟩
        · obtain ⟨q, m, hq, hm, hmv, e⟩ := on i h1 (by omega)
          exact ⟨q, m, by omega, hm, hmv, by simp only; rw [hgd q _ hq]; exact e⟩

/-- The program's side: nodes shared as they come. -/
def arStep (v root : Int) (st : List Tc × List Int) (n : Tc) : List Tc × List Int := if isV v n = true then (st.1, st.2 ++ [root]) else shStep st n
def arTo (v root : Int) (o1 : List Tc) (ts : List Tc) : Nat → List Tc × List Int
  | 0 => (o1, [])
  | k + 1 => match ts[k]? with
    | some n => arStep v root (arTo v root o1 ts k) n
    | none => arTo v root o1 ts k
theorem arTo_succ {v root : Int} {o1 ts : List Tc} {k : Nat} {n : Tc} (h : ts[k]? = some n) : arTo v root o1 ts (k + 1) = arStep v root (arTo v root o1 ts k) n := by
  rw [arTo, h]

theorem shTo_pre {ns ms : List Tc} : ∀ k, k ≤ ns.length → shTo (ns ++ ms) k = shTo ns k
  | 0, _ => rfl
  | k + 1, h => by
    have hk2 : ns[k]? = some (ns[k]'(by omega)) := List.getElem?_eq_getElem (by omega)
    rw [shTo_succ hk2, shTo_succ (ns := ns ++ ms) (n := ns[k]'(by omega)) (by rw [List.getElem?_append_left (by omega)]; exact hk2), shTo_pre k (by omega)]
theorem shTo_snoc (ns : List Tc) (x : Tc) : shTo (ns ++ [x]) (ns ++ [x]).length = shStep (shTo ns ns.length) x := by
  rw [List.length_append, List.length_singleton, shTo_succ (n := x) (by simp), shTo_pre _ (Nat.le_refl _)]

theorem mvT_mvT {pl to : List Int} {n : Tc} (h : ∀ j ∈ n.ks, 0 ≤ j ∧ j < (to.length : Int)) : mvT pl (mvT to n) = mvT (to.map fun x => pl.getD x.toNat 0) n := by
  unfold mvT
  simp only [List.map_map]
  congr 1
  apply List.map_congr_left
  intro j hj
  have := h j hj
  have hj' : j.toNat < to.length := by omega
  simp [List.getD, List.getElem?_map, List.getElem?_eq_getElem hj']

theorem shTo_len2 {ns : List Tc} (h : Ahd ns) : (shTo ns ns.length).2.length = ns.length := (shTo_f h _ (Nat.le_refl _)).l2

/-- Both go alike. -/
theorem ar_rp {v : Int} {us ts : List Tc} (hu1 : 1 ≤ us.length) (hu : Ahd us) (ht : Ahd ts) : ∀ k, k ≤ ts.length →
    arTo v ((shTo us us.length).2.getD (us.length - 1) 0) (shTo us us.length).1 ts k = ((shTo (rpTo v us ts k).1 (rpTo v us ts k).1.length).1, (rpTo v us ts k).2.map fun x => (shTo (rpTo v us ts k).1 (rpTo v us ts k).1.length).2.getD x.toNat 0)
  | 0, _ => by simp [arTo, rpTo]
  | k + 1, h => by
    have hk2 : ts[k]? = some (ts[k]'(by omega)) := List.getElem?_eq_getElem (by omega)
    have F := rpTo_f (v := v) hu1 hu ht k (by omega)
    rw [arTo_succ hk2, rpTo_succ hk2, ar_rp hu1 hu ht k (by omega)]
    have hkid := ht k _ hk2
    generalize ts[k]'(by omega) = n at hk2 hkid
    generalize rpTo v us ts k = st at F
    unfold arStep rpStep
    by_cases hv : isV v n = true
    · rw [if_pos hv, if_pos hv]
      simp only [List.map_append, List.map_cons, List.map_nil]
      congr 3
      have e : st.1 = us ++ st.1.drop us.length := by
        conv => lhs; rw [← List.take_append_drop us.length st.1, F.pre]
      have e2 : ((us.length : Int) - 1).toNat = us.length - 1 := by omega
      rw [e2]
      have key : ∀ (m : Nat), us.length ≤ m → m ≤ st.1.length → (shTo st.1 m).2.getD (us.length - 1) 0 = (shTo us us.length).2.getD (us.length - 1) 0 := by
        intro m hm
        induction m with
        | zero => omega
        | succ m ih =>
          intro hml
          by_cases hle : us.length = m + 1
          · rw [← hle, e, shTo_pre _ (Nat.le_refl _)]
          · have hm2 : st.1[m]? = some (st.1[m]'(by omega)) := List.getElem?_eq_getElem (by omega)
            rw [shTo_succ hm2, ← ih (by omega) (by omega)]
            have hl := (shTo_f F.ah m (by omega)).l2
            unfold shStep
            split <;> exact getD_left _ _ _ _ (by omega)
      exact (key _ F.l1.1 (Nat.le_refl _)).symm
    · rw [if_neg hv, if_neg hv]
      simp only
      rw [shTo_snoc]
      have hS := shTo_f F.ah _ (Nat.le_refl _)
      generalize shTo st.1 st.1.length = sh at hS
      have hkk : ∀ j ∈ n.ks, 0 ≤ j ∧ j < (st.2.length : Int) := by rw [F.l2]; exact hkid
      have hmv := mvT_mvT (pl := sh.2) hkk
      have hcg : ∀ y : Int, (st.2.map fun x => (sh.2 ++ [y]).getD x.toNat 0) = st.2.map fun x => sh.2.getD x.toNat 0 := fun y => List.map_congr_left fun x hx => by
        have := F.rg x hx
        exact getD_left _ _ _ _ (by rw [hS.l2]; omega)
      have hst : ∀ y : Int, (sh.2 ++ [y]).getD st.1.length 0 = y := fun y => by rw [getD_right _ _ _ _ (by rw [hS.l2]; omega), hS.l2]; simp
      unfold shStep
      simp only []
      rw [← hmv]
      split <;> simp only [List.map_append, List.map_cons, List.map_nil, Int.toNat_natCast, hcg, hst]

end Go.Proofs.YtkkboaiablfdbaaGreatDoor

/- A variable replaced: maths. What is used of nodes, and that the last node is not shared. -/
namespace Go.Proofs.YtkkboaiablfdbaaGreatDoor
set_option linter.unusedVariables false
set_option linter.unusedSimpArgs false
open Go.RowKit

def setK (us : List Bool) (ks : List Int) : List Bool := ks.foldl (fun u k => u.set k.toNat true) us
theorem setK_len (us : List Bool) (ks : List Int) : (setK us ks).length = us.length := by
  unfold setK
  induction ks generalizing us with
  | nil => rfl
  | cons k t ih => rw [List.foldl_cons, ih, List.length_set]
theorem setK_get (ks : List Int) : ∀ (us : List Bool) (j : Nat), j < us.length → ((setK us ks).getD j false = true ↔ us.getD j false = true ∨ ∃ k ∈ ks, k.toNat = j) := by
  induction ks with
  | nil => intro us j hj; simp [setK]
  | cons k t ih =>
    intro us j hj
    have e : setK us (k :: t) = setK (us.set k.toNat true) t := rfl
    rw [e, ih _ j (by rw [List.length_set]; exact hj)]
    have h2 : (us.set k.toNat true).getD j false = true ↔ us.getD j false = true ∨ k.toNat = j := by
      by_cases hk : k.toNat = j
      · subst hk
        simp [List.getD, hj]
      · simp [List.getD, List.getElem?_set_ne hk, hk]
    rw [h2]
    simp only [List.mem_cons, exists_eq_or_imp]
    exact or_assoc

def puStep (ns : List Tc) (us : List Bool) (i : Nat) : List Bool :=
  match ns[i]? with
  | some n => if us.getD i false = true then setK us n.ks else us
  | none => us
def puDn (ns : List Tc) : Nat → List Bool → List Bool
  | 0, us => us
  | i + 1, us => puDn ns i (puStep ns us i)
def usedL (ns : List Tc) (root : Nat) : List Bool := puDn ns ns.length ((List.replicate ns.length false).set root true)
def PuI (ns : List Tc) (root m i : Nat) (us : List Bool) : Prop := us.length = ns.length ∧ ∀ j, j < ns.length → (us.getD j false = true ↔ (j = root ∨ ∃ p n, i ≤ p ∧ m ≤ p ∧ ns[p]? = some n ∧ (j : Int) ∈ n.ks))
/-- What is used, told by what stands under what. -/
def Hu (ns : List Tc) (root m : Nat) : Prop := ∀ i, i < ns.length → ((i = root ∨ ∃ p n, i < p ∧ m ≤ p ∧ ns[p]? = some n ∧ (i : Int) ∈ n.ks) ↔ m ≤ i)

theorem puStep_len (ns : List Tc) (us : List Bool) (i : Nat) : (puStep ns us i).length = us.length := by
  unfold puStep
  split
  · split
    · exact setK_len _ _
    · rfl
  · rfl

theorem puDn_inv {ns : List Tc} {root m : Nat} (hA : Ahd ns) (H : Hu ns root m) : ∀ (i : Nat) (us : List Bool), i ≤ ns.length → PuI ns root m i us → PuI ns root m 0 (puDn ns i us)
  | 0, us, _, h => h
  | i + 1, us, hi, h => by
    rw [puDn]
    refine puDn_inv hA H i _ (by omega) ⟨by rw [puStep_len]; exact h.1, fun j hj => ?_⟩
    have hi2 : ns[i]? = some (ns[i]'(by omega)) := List.getElem?_eq_getElem (by omega)
    unfold puStep
    rw [hi2]
    generalize ns[i]'(by omega) = x at hi2
    simp only []
    have hsucc : ∀ j, (∃ p n, i ≤ p ∧ m ≤ p ∧ ns[p]? = some n ∧ (j : Int) ∈ n.ks) ↔ (∃ p n, i + 1 ≤ p ∧ m ≤ p ∧ ns[p]? = some n ∧ (j : Int) ∈ n.ks) ∨ (m ≤ i ∧ (j : Int) ∈ x.ks) := fun j => by
      constructor
      · rintro ⟨p, n, h1, h2, h3, h4⟩
        by_cases e : p = i
        · subst e
          rw [hi2] at h3
          cases h3
          exact .inr ⟨h2, h4⟩
        · exact .inl ⟨p, n, by omega, h2, h3, h4⟩
      · rintro (⟨p, n, h1, h2, h3, h4⟩ | ⟨h1, h2⟩)
        · exact ⟨p, n, by omega, h2, h3, h4⟩
        · exact ⟨i, x, Nat.le_refl _, h1, hi2, h2⟩
    have hui : us.getD i false = true ↔ m ≤ i := by
      rw [h.2 i (by omega), ← H i (by omega)]
      rfl
    rw [hsucc]
    by_cases hm : m ≤ i
    · rw [if_pos (hui.2 hm), setK_get _ _ _ (by rw [h.1]; exact hj), h.2 j hj, or_assoc]
      refine or_congr_right (or_congr_right ?_)
      constructor
      · rintro ⟨k, hk, e⟩
        refine ⟨hm, ?_⟩
        have := hA i x hi2 k hk
        rw [← e, Int.toNat_of_nonneg this.1]
        exact hk
      · rintro ⟨-, hk⟩
        exact ⟨_, hk, by simp⟩
    · rw [if_neg (fun h9 => hm (hui.1 h9)), h.2 j hj]
      refine or_congr_right ⟨fun h9 => .inl h9, fun h9 => ?_⟩
      rcases h9 with h9 | ⟨h9, -⟩
      · exact h9
      · exact absurd h9 hm

theorem used_iff {ns : List Tc} {root m : Nat} (hA : Ahd ns) (hr : root < ns.length) (H : Hu ns root m) : (usedL ns root).length = ns.length ∧ ∀ j, j < ns.length → ((usedL ns root).getD j false = true ↔ m ≤ j) := by
  have h0 : PuI ns root m ns.length ((List.replicate ns.length false).set root true) := by
    refine ⟨by simp, fun j hj => ?_⟩
    by_cases e : j = root
    · subst e
      simp [List.getD, hj]
    · constructor
      · intro h
        rw [List.getD_eq_getElem?_getD, List.getElem?_set_ne (fun h => e h.symm)] at h
        simp [List.getElem?_replicate, hj] at h
      · rintro (h | ⟨p, n, h1, -, h3, -⟩)
        · exact absurd h e
        · have := (List.getElem?_eq_some_iff.1 h3).1
          omega
  have h1 := puDn_inv hA H ns.length _ (Nat.le_refl _) h0
  refine ⟨h1.1, fun j hj => ?_⟩
  unfold usedL
  rw [h1.2 j hj, ← H j hj]
  refine or_congr_right ⟨?_, ?_⟩
  · rintro ⟨p, n, -, h2, h3, h4⟩
    have := hA p n h3 _ h4
    exact ⟨p, n, by omega, h2, h3, h4⟩
  · rintro ⟨p, n, -, h2, h3, h4⟩
    exact ⟨p, n, Nat.zero_le _, h2, h3, h4⟩

def pkStep (used : List Bool) (i : Nat) (st : List Tc × List Int) (n : Tc) : List Tc × List Int :=
  if used.getD i false = true then (st.1 ++ [mvT st.2 n], st.2.set i (st.1.length : Int)) else st
def pkTo (ns : List Tc) (used : List Bool) : Nat → List Tc × List Int
  | 0 => ([], List.replicate ns.length 0)
  | k + 1 => match ns[k]? with
    | some n => pkStep used k (pkTo ns used k) n
    | none => pkTo ns used k
theorem pkTo_succ {ns : List Tc} {used : List Bool} {k : Nat} {n : Tc} (h : ns[k]? = some n) : pkTo ns used (k + 1) = pkStep used k (pkTo ns used k) n := by
  rw [pkTo, h]
def prR (ns : List Tc) (root : Nat) : List Tc := (pkTo ns (usedL ns root) ns.length).1

/-- A node whose kids are m places nearer. -/
def shK (m : Nat) (n : Tc) : Tc := ⟨n.op, n.vr, n.a, n.b, n.bw, n.ws, n.ks.map fun k => k - (m : Int)⟩

theorem pk_f {ns : List Tc} {used : List Bool} {m : Nat} (hm : m ≤ ns.length) (hk : ∀ (p : Nat) (n : Tc), m ≤ p → ns[p]? = some n → ∀ j ∈ n.ks, (m : Int) ≤ j ∧ j < (p : Int)) (hu : ∀ j, j < ns.length → (used.getD j false = true ↔ m ≤ j)) : ∀ k, k ≤ ns.length →
    (pkTo ns used k).1 = ((ns.take k).drop m).map (shK m) ∧ (pkTo ns used k).2.length = ns.length ∧ ∀ j, m ≤ j → j < k → (pkTo ns used k).2.getD j 0 = (j : Int) - (m : Int)
  | 0, _ => ⟨by simp [pkTo], by simp [pkTo], fun j h1 h2 => by omega⟩
  | k + 1, h => by
    have hk2 : ns[k]? = some (ns[k]'(by omega)) := List.getElem?_eq_getElem (by omega)
    obtain ⟨i1, i2, i3⟩ := pk_f hm hk hu k (by omega)
    rw [pkTo_succ hk2]
    generalize ns[k]'(by omega) = n at hk2
    generalize pkTo ns used k = st at i1 i2 i3
    have htk : ns.take (k + 1) = ns.take k ++ [n] := by rw [List.take_add_one, hk2]; rfl
    have hl : (ns.take k).length = k := by rw [List.length_take]; omega
    unfold pkStep
    by_cases hmk : m ≤ k
    · rw [if_pos ((hu k (by omega)).2 hmk)]
      have hlen : st.1.length = k - m := by rw [i1, List.length_map, List.length_drop, hl]
      refine ⟨?_, by simpa using i2, fun j h1 h2 => ?_⟩
      · simp only
        rw [htk, List.drop_append_of_le_length (by omega), List.map_append, ← i1]
        congr 1
        simp only [List.map_cons, List.map_nil]
        congr 1
        unfold mvT shK
        congr 1
        apply List.map_congr_left
        intro j hj
        have := hk k n hmk hk2 j hj
        rw [i3 _ (by omega) (by omega), Int.toNat_of_nonneg (by omega)]
      · simp only
        by_cases e : j = k
        · subst e
          rw [List.getD_eq_getElem?_getD, List.getElem?_set_self (by rw [i2]; omega), hlen]
          simp
          omega
        · rw [List.getD_eq_getElem?_getD, List.getElem?_set_ne (fun h => e h.symm), ← List.getD_eq_getElem?_getD]
          exact i3 j h1 (by omega)
    · rw [if_neg (fun h9 => hmk ((hu k (by omega)).1 h9))]
      refine ⟨?_, i2, fun j h1 h2 => by omega⟩
      rw [i1, List.drop_eq_nil_of_le (by omega), List.drop_eq_nil_of_le (by rw [htk]; simp; omega)]

theorem prune_eq {ns : List Tc} {root m : Nat} (hA : Ahd ns) (hr : root < ns.length) (hm : m ≤ ns.length) (H : Hu ns root m) : prR ns root = (ns.drop m).map (shK m) := by
  have hu := used_iff hA hr H
  have hk : ∀ (p : Nat) (n : Tc), m ≤ p → ns[p]? = some n → ∀ j ∈ n.ks, (m : Int) ≤ j ∧ j < (p : Int) := fun p n hp hn j hj => by
    obtain ⟨h0, h1⟩ := hA p n hn j hj
    have hpl := (List.getElem?_eq_some_iff.1 hn).1
    have := (H j.toNat (by omega)).1 (.inr ⟨p, n, by omega, hp, hn, by rw [Int.toNat_of_nonneg h0]; exact hj⟩)
    omega
  unfold prR
  rw [(pk_f hm hk hu.2 _ (Nat.le_refl _)).1, List.take_length]

theorem shK_zero (n : Tc) : shK 0 n = n := by
  cases n
  simp [shK]

/-- How high a node stands. -/
def htN (hs : List Nat) (ks : List Int) : Nat := 1 + (ks.map fun k => hs.getD k.toNat 0).foldr max 0
def htL (ns : List Tc) : Nat → List Nat
  | 0 => []
  | k + 1 => match ns[k]? with
    | some n => htL ns k ++ [htN (htL ns k) n.ks]
    | none => htL ns k
theorem htL_succ {ns : List Tc} {k : Nat} {n : Tc} (h : ns[k]? = some n) : htL ns (k + 1) = htL ns k ++ [htN (htL ns k) n.ks] := by
  rw [htL, h]
theorem htL_len {ns : List Tc} : ∀ k, k ≤ ns.length → (htL ns k).length = k
  | 0, _ => rfl
  | k + 1, h => by
    have hk2 : ns[k]? = some (ns[k]'(by omega)) := List.getElem?_eq_getElem (by omega)
    rw [htL_succ hk2, List.length_append, htL_len k (by omega)]
    rfl
theorem htL_stay {ns : List Tc} {i : Nat} : ∀ d k, k + d ≤ ns.length → i < k → (htL ns (k + d)).getD i 0 = (htL ns k).getD i 0
  | 0, k, _, _ => rfl
  | d + 1, k, h, hi => by
    have hk2 : ns[k + d]? = some (ns[k + d]'(by omega)) := List.getElem?_eq_getElem (by omega)
    rw [show k + (d + 1) = (k + d) + 1 by omega, htL_succ hk2, getD_left _ _ _ _ (by rw [htL_len _ (by omega)]; omega), htL_stay d k (by omega) hi]
theorem htN_congr {hs hs' : List Nat} {ks ks' : List Int} (h : (ks.map fun k => hs.getD k.toNat 0) = ks'.map fun k => hs'.getD k.toNat 0) : htN hs ks = htN hs' ks' := by
  unfold htN
  rw [h]
def hs (ns : List Tc) : List Nat := htL ns ns.length
theorem hs_eq {ns : List Tc} (hA : Ahd ns) {p : Nat} {n : Tc} (hp : ns[p]? = some n) : (hs ns).getD p 0 = htN (hs ns) n.ks := by
  have hpl := (List.getElem?_eq_some_iff.1 hp).1
  unfold hs
  have e1 := htL_stay (ns := ns) (i := p) (ns.length - (p + 1)) (p + 1) (by omega) (by omega)
  rw [show p + 1 + (ns.length - (p + 1)) = ns.length by omega] at e1
  rw [e1, htL_succ hp, getD_right _ _ _ _ (by rw [htL_len _ (by omega)]; omega), htL_len _ (by omega), Nat.sub_self]
  show htN (htL ns p) n.ks = _
  refine htN_congr (List.map_congr_left fun k hk => ?_)
  have hk' := hA p n hp k hk
  have e2 := htL_stay (ns := ns) (i := k.toNat) (ns.length - p) p (by omega) (by omega)
  rw [show p + (ns.length - p) = ns.length by omega] at e2
  exact e2.symm
theorem hs_snoc (ns : List Tc) (x : Tc) : hs (ns ++ [x]) = hs ns ++ [htN (hs ns) x.ks] := by
  have pre : ∀ k, k ≤ ns.length → htL (ns ++ [x]) k = htL ns k := by
    intro k
    induction k with
    | zero => intro _; rfl
    | succ k ih =>
      intro h
      have hk2 : ns[k]? = some (ns[k]'(by omega)) := List.getElem?_eq_getElem (by omega)
      rw [htL_succ hk2, htL_succ (ns := ns ++ [x]) (n := ns[k]'(by omega)) (by rw [List.getElem?_append_left (by omega)]; exact hk2), ih (by omega)]
  unfold hs
  rw [List.length_append, List.length_singleton, htL_succ (n := x) (by simp), pre _ (Nat.le_refl _)]
theorem hs_len (ns : List Tc) : (hs ns).length = ns.length := htL_len _ (Nat.le_refl _)
theorem htN_lt {h : List Nat} {ks : List Int} {k : Int} (hk : k ∈ ks) : h.getD k.toNat 0 < htN h ks := by
  unfold htN
  have : ∀ l : List Nat, ∀ x ∈ l, x ≤ l.foldr max 0 := by
    intro l
    induction l with
    | nil => simp
    | cons y t ih =>
      intro x hx
      rw [List.foldr_cons]
      rcases List.mem_cons.1 hx with rfl | hx
      · exact Nat.le_max_left _ _
      · exact Nat.le_trans (ih x hx) (Nat.le_max_right _ _)
  have := this _ _ (List.mem_map_of_mem (f := fun k : Int => h.getD k.toNat 0) hk)
  omega

structure ShH (ns : List Tc) (k : Nat) (st : List Tc × List Int) : Prop where
  ah : Ahd st.1
  ht : ∀ i, i < k → (hs st.1).getD (st.2.getD i 0).toNat 0 = (hs ns).getD i 0
  on : ∀ j, j < st.1.length → ∃ i, i < k ∧ st.2.getD i 0 = (j : Int)
theorem shTo_h {ns : List Tc} (hA : Ahd ns) : ∀ k, k ≤ ns.length → ShH ns k (shTo ns k)
  | 0, _ => ⟨fun k n h => by simp [shTo] at h, fun i h => by omega, fun j h => by simp [shTo] at h⟩
  | k + 1, h => by
    have hk2 : ns[k]? = some (ns[k]'(by omega)) := List.getElem?_eq_getElem (by omega)
    have F := shTo_f hA k (by omega)
    obtain ⟨ah, ht, on⟩ := shTo_h hA k (by omega)
    rw [shTo_succ hk2]
    generalize ns[k]'(by omega) = n at hk2
    generalize shTo ns k = st at F ah ht on
    have hkid := hA k n hk2
    have hmv : htN (hs st.1) (mvT st.2 n).ks = (hs ns).getD k 0 := by
      rw [hs_eq hA hk2]
      refine htN_congr ?_
      show ((n.ks.map fun k => st.2.getD k.toNat 0).map fun k => (hs st.1).getD k.toNat 0) = _
      rw [List.map_map]
      refine List.map_congr_left fun j hj => ?_
      have := hkid j hj
      exact ht j.toNat (by omega)
    have hgd : ∀ (q : Nat) (x : Int), q < k → (st.2 ++ [x]).getD q 0 = st.2.getD q 0 := fun q x hq => getD_left _ _ _ _ (by rw [F.l2]; omega)
    have hgk : ∀ x : Int, (st.2 ++ [x]).getD k 0 = x := fun x => by rw [getD_right _ _ _ _ (by rw [F.l2]; omega), F.l2]; simp
    have hkm : ∀ j ∈ (mvT st.2 n).ks, 0 ≤ j ∧ j < (st.1.length : Int) := fun j hj => by
      obtain ⟨q, hq, rfl⟩ := List.mem_map.1 hj
      have := hkid q hq
      exact F.rg _ (gD_lt (by rw [F.l2]; omega))
    unfold shStep
    split
    · rename_i j e
      obtain ⟨h1, -⟩ := fndT_some e
      refine ⟨ah, fun i hi => ?_, fun j' hj' => ?_⟩
      · simp only
        by_cases ei : i = k
        · subst ei
          rw [hgk, Int.toNat_natCast, hs_eq ah h1]
          exact hmv
        · rw [hgd i _ (by omega)]
          exact ht i (by omega)
      · obtain ⟨i, hi, e⟩ := on j' hj'
        exact ⟨i, by omega, by simp only; rw [hgd i _ hi]; exact e⟩
    · refine ⟨ah.snoc hkm, fun i hi => ?_, fun j' hj' => ?_⟩
      · simp only
        rw [hs_snoc]
        by_cases ei : i = k
        · subst ei
          rw [hgk, Int.toNat_natCast, getD_right _ _ _ _ (by rw [hs_len]; omega), hs_len, Nat.sub_self]
          exact hmv
        · rw [hgd i _ (by omega)]
          have hr := F.rg _ (gD_lt (l := st.2) (i := i) (by rw [F.l2]; omega))
          rw [getD_left _ _ _ _ (by rw [hs_len]; omega)]
          exact ht i (by omega)
      · simp only [List.length_append, List.length_singleton] at hj'
        by_cases e : j' = st.1.length
        · exact ⟨k, by omega, by simp only; rw [hgk, e]⟩
        · obtain ⟨i, hi, e⟩ := on j' (by omega)
          exact ⟨i, by omega, by simp only; rw [hgd i _ hi]; exact e⟩

/-- Every node but the last stands under a later one: then the last one is alone. -/
theorem sh_last {ns : List Tc} (hA : Ahd ns) {k : Nat} (hl : ns.length = k + 1) (hu : ∀ i, i < k → ∃ p n, i < p ∧ ns[p]? = some n ∧ (i : Int) ∈ n.ks) :
    (shTo ns ns.length).2.getD k 0 = ((shTo ns ns.length).1.length : Int) - 1 ∧ 1 ≤ (shTo ns ns.length).1.length := by
  have hk2 : ns[k]? = some (ns[k]'(by omega)) := List.getElem?_eq_getElem (by omega)
  have hlow : ∀ d i, k - i = d → i < k → (hs ns).getD i 0 < (hs ns).getD k 0 := by
    intro d
    induction d using Nat.strongRecOn with
    | _ d ih =>
      intro i e hi
      obtain ⟨p, n, h1, h2, h3⟩ := hu i hi
      have hpl := (List.getElem?_eq_some_iff.1 h2).1
      have hlt : (hs ns).getD i 0 < (hs ns).getD p 0 := by
        rw [hs_eq hA h2]
        have := htN_lt (h := hs ns) h3
        simpa using this
      by_cases ep : p = k
      · subst ep; exact hlt
      · exact Nat.lt_trans hlt (ih (k - p) (by omega) p rfl (by omega))
  have F := shTo_f hA k (by omega)
  have G := shTo_h hA k (by omega)
  have G' := shTo_h hA (k + 1) (by omega)
  rw [hl]
  rw [shTo_succ hk2] at G' ⊢
  generalize ns[k]'(by omega) = n at hk2 G'
  generalize shTo ns k = st at F G G'
  have hgk : ∀ x : Int, (st.2 ++ [x]).getD k 0 = x := fun x => by rw [getD_right _ _ _ _ (by rw [F.l2]; omega), F.l2]; simp
  unfold shStep at G' ⊢
  split
  · rename_i j e
    rw [e] at G'
    exfalso
    have hj := (List.getElem?_eq_some_iff.1 (fndT_some e).1).1
    obtain ⟨i, hi, e2⟩ := G.on j hj
    have h1 := G.ht i hi
    have h2 := G'.ht k (by omega)
    simp only at h2
    rw [hgk] at h2
    rw [e2, h2] at h1
    have := hlow _ i rfl hi
    omega
  · simp only
    rw [hgk, List.length_append, List.length_singleton]
    omega

end Go.Proofs.YtkkboaiablfdbaaGreatDoor

/- A variable replaced: maths. Both sides answer alike. -/
namespace Go.Proofs.YtkkboaiablfdbaaGreatDoor
set_option linter.unusedVariables false
set_option linter.unusedSimpArgs false
open Go.RowKit

def Usd (ns : List Tc) : Prop := ∀ i, i + 1 < ns.length → ∃ p n, i < p ∧ ns[p]? = some n ∧ (i : Int) ∈ n.ks
theorem right_used {ds : List Dc} {ns : List Tc} (h : ¬ (widthsR ds ns).length = 0) : Usd ns := by
  have hA : Ahd ns := (right_kids h).2.2.2
  unfold widthsR at h
  split at h
  · cases hg : goR ds [] ns with
    | none => rw [hg] at h; simp at h
    | some wide =>
      rw [hg] at h
      simp only [] at h
      split at h
      · rename_i hu
        intro i hi
        rw [List.all_eq_true] at hu
        have h1 := hu i (List.mem_range.2 (by omega))
        unfold usedR at h1
        rw [List.any_eq_true] at h1
        obtain ⟨n, hn, h2⟩ := h1
        rw [List.any_eq_true] at h2
        obtain ⟨k, hk, h3⟩ := h2
        have h4 := of_decide_eq_true h3
        subst h4
        obtain ⟨p, hp⟩ := List.mem_iff_getElem?.1 hn
        exact ⟨p, n, by have := hA p n hp _ hk; omega, hp, hk⟩
      · simp at h
  · simp at h
theorem var_noks {ds : List Dc} {ns : List Tc} (h : ¬ (widthsR ds ns).length = 0) {n : Tc} (hn : n ∈ ns) (e : n.op = 1) : n.ks = [] := by
  have := (right_node h n hn).2
  unfold manyR at this
  rw [if_pos e] at this
  simp only [Bool.and_eq_true, decide_eq_true_eq] at this
  exact List.eq_nil_of_length_eq_zero this.1

def vIn (v : Int) (ts : List Tc) : Bool := ts.any (isV v)

/-- The root of t in the nodes of both. -/
def rpRoot (v : Int) (us ts : List Tc) : Nat := ((rpTo v us ts ts.length).2.getD (ts.length - 1) 0).toNat

theorem isV_op {v : Int} {n : Tc} (h : isV v n = true) : n.op = 1 := by
  simp only [isV, Bool.and_eq_true, decide_eq_true_eq] at h
  exact h.1

theorem rp_all {v : Int} {us ts : List Tc} (hu1 : 1 ≤ us.length) (ht1 : 1 ≤ ts.length) (hu : Ahd us) (ht : Ahd ts) (uu : Usd us) (ut : Usd ts) (hvk : ∀ n ∈ ts, n.op = 1 → n.ks = []) (hv : vIn v ts = true) : Hu (rpTo v us ts ts.length).1 (rpRoot v us ts) 0 := by
  have F := rpTo_f (v := v) hu1 hu ht ts.length (Nat.le_refl _)
  unfold rpRoot
  generalize rpTo v us ts ts.length = st at F
  intro i hi
  refine ⟨fun _ => Nat.zero_le _, fun _ => ?_⟩
  /- a node of t that stands under another one -/
  have under : ∀ (q : Nat) (m : Tc), q + 1 < ts.length → ts[q]? = some m → st.2.getD q 0 = (i : Int) → ∃ p n, i < p ∧ 0 ≤ p ∧ st.1[p]? = some n ∧ (i : Int) ∈ n.ks := fun q m hq hm e => by
    obtain ⟨p, n, h1, h2, h3⟩ := ut q hq
    have hpl := (List.getElem?_eq_some_iff.1 h2).1
    have hnv : isV v n = false := by
      cases hb : isV v n with
      | false => rfl
      | true =>
        rw [hvk n (List.mem_of_getElem? h2) (isV_op hb)] at h3
        cases h3
    obtain ⟨b1, b2⟩ := F.is p n hpl h2 hnv
    have hin : (i : Int) ∈ (mvT st.2 n).ks := by
      have := List.mem_map_of_mem (f := fun k : Int => st.2.getD k.toNat 0) h3
      simp only [Int.toNat_natCast, e] at this
      exact this
    have := F.ah _ _ b2 _ hin
    exact ⟨_, _, by omega, Nat.zero_le _, b2, hin⟩
  by_cases hil : i + 1 < us.length
  · obtain ⟨p, n, h1, h2, h3⟩ := uu i hil
    have hpl := (List.getElem?_eq_some_iff.1 h2).1
    refine .inr ⟨p, n, h1, Nat.zero_le _, ?_, h3⟩
    have e : st.1 = us ++ st.1.drop us.length := by
      conv => lhs; rw [← List.take_append_drop us.length st.1, F.pre]
    rw [e, List.getElem?_append_left hpl]
    exact h2
  · by_cases hiu : i < us.length
    · obtain ⟨n, hn, hnv⟩ := List.any_eq_true.1 hv
      obtain ⟨q, hq⟩ := List.mem_iff_getElem?.1 hn
      have hql := (List.getElem?_eq_some_iff.1 hq).1
      have e1 := F.vr q n hql hq hnv
      by_cases hq1 : q + 1 < ts.length
      · exact .inr (under q n hq1 hq (by rw [e1]; omega))
      · left
        rw [show ts.length - 1 = q by omega, e1]
        omega
    · obtain ⟨q, n, hq, hqn, -, e1⟩ := F.on i (by omega) hi
      by_cases hq1 : q + 1 < ts.length
      · exact .inr (under q n hq1 hqn e1)
      · left
        rw [show ts.length - 1 = q by omega, e1]
        omega

theorem rp_none {v : Int} {us ts : List Tc} (hu1 : 1 ≤ us.length) (hu : Ahd us) (ht : Ahd ts) (hv : vIn v ts = false) : ∀ k, k ≤ ts.length → (rpTo v us ts k).1.length = us.length + k ∧ ∀ q, q < k → (rpTo v us ts k).2.getD q 0 = (us.length : Int) + (q : Int)
  | 0, _ => ⟨rfl, fun q h => by omega⟩
  | k + 1, h => by
    have hk2 : ts[k]? = some (ts[k]'(by omega)) := List.getElem?_eq_getElem (by omega)
    obtain ⟨i1, i2⟩ := rp_none hu1 hu ht hv k (by omega)
    have F := rpTo_f (v := v) hu1 hu ht k (by omega)
    have hnv : ¬ isV v (ts[k]'(by omega)) = true := fun h9 => by
      have : vIn v ts = true := List.any_eq_true.2 ⟨_, List.getElem_mem _, h9⟩
      rw [hv] at this
      cases this
    rw [rpTo_succ hk2]
    generalize ts[k]'(by omega) = n at hk2 hnv
    generalize rpTo v us ts k = st at F i1 i2
    unfold rpStep
    rw [if_neg hnv]
    refine ⟨by simp; omega, fun q hq => ?_⟩
    simp only
    by_cases e : q = k
    · subst e
      rw [getD_right _ _ _ _ (by rw [F.l2]; omega), F.l2, i1]
      simp
    · rw [getD_left _ _ _ _ (by rw [F.l2]; omega)]
      exact i2 q (by omega)

theorem rp_drop {v : Int} {us ts : List Tc} (hu1 : 1 ≤ us.length) (hu : Ahd us) (ht : Ahd ts) (hv : vIn v ts = false) : ((rpTo v us ts ts.length).1.drop us.length).map (shK us.length) = ts ∧ ∀ (q : Nat) (n : Tc), ts[q]? = some n → (rpTo v us ts ts.length).1[us.length + q]? = some (mvT (rpTo v us ts ts.length).2 n) := by
  obtain ⟨i1, i2⟩ := rp_none hu1 hu ht hv ts.length (Nat.le_refl _)
  have F := rpTo_f (v := v) hu1 hu ht ts.length (Nat.le_refl _)
  generalize rpTo v us ts ts.length = st at F i1 i2
  have key : ∀ (q : Nat) (n : Tc), ts[q]? = some n → st.1[us.length + q]? = some (mvT st.2 n) := fun q n hq => by
    have hql := (List.getElem?_eq_some_iff.1 hq).1
    have hnv : isV v n = false := by
      cases hb : isV v n with
      | false => rfl
      | true =>
        have : vIn v ts = true := List.any_eq_true.2 ⟨n, List.mem_of_getElem? hq, hb⟩
        rw [hv] at this
        cases this
    have := (F.is q n hql hq hnv).2
    rw [i2 q hql, show ((us.length : Int) + (q : Int)).toNat = us.length + q by omega] at this
    exact this
  refine ⟨List.ext_getElem? fun q => ?_, key⟩
  rw [List.getElem?_map, List.getElem?_drop]
  by_cases hq : q < ts.length
  · have hq2 : ts[q]? = some (ts[q]'hq) := List.getElem?_eq_getElem hq
    rw [key q _ hq2, hq2]
    simp only [Option.map_some]
    congr 1
    generalize ts[q]'hq = n at hq2
    have hkid := ht q n hq2
    obtain ⟨op, vr, a, b, bw, ws, ks⟩ := n
    simp only [shK, mvT, List.map_map]
    congr 1
    have : ∀ k ∈ ks, ((fun k : Int => k - (us.length : Int)) ∘ fun k : Int => st.2.getD k.toNat 0) k = k := fun k hk => by
      have h9 := hkid k hk
      simp only [Function.comp]
      rw [i2 _ (by omega)]
      omega
    rw [List.map_congr_left this, List.map_id']
  · rw [List.getElem?_eq_none (by omega), List.getElem?_eq_none (by omega)]
    rfl

theorem rp_some {v : Int} {us ts : List Tc} (hu1 : 1 ≤ us.length) (ht1 : 1 ≤ ts.length) (hu : Ahd us) (ht : Ahd ts) (ut : Usd ts) (hv : vIn v ts = false) : Hu (rpTo v us ts ts.length).1 (rpRoot v us ts) us.length := by
  obtain ⟨i1, i2⟩ := rp_none hu1 hu ht hv ts.length (Nat.le_refl _)
  have F := rpTo_f (v := v) hu1 hu ht ts.length (Nat.le_refl _)
  have key := (rp_drop hu1 hu ht hv).2
  unfold rpRoot
  generalize rpTo v us ts ts.length = st at F i1 i2 key
  have hroot : (st.2.getD (ts.length - 1) 0).toNat = us.length + (ts.length - 1) := by rw [i2 _ (by omega)]; omega
  rw [hroot]
  intro i hi
  constructor
  · rintro (h | ⟨p, n, h1, h2, h3, h4⟩)
    · omega
    · have hpl := (List.getElem?_eq_some_iff.1 h3).1
      have hq2 : ts[p - us.length]? = some (ts[p - us.length]'(by omega)) := List.getElem?_eq_getElem (by omega)
      have h5 := key _ _ hq2
      rw [show us.length + (p - us.length) = p by omega, h3] at h5
      cases h5
      obtain ⟨k, hk, e⟩ := List.mem_map.1 h4
      have h9 := ht _ _ hq2 k hk
      rw [i2 _ (by omega)] at e
      omega
  · intro hm
    by_cases e : i = us.length + (ts.length - 1)
    · exact .inl e
    · obtain ⟨p, n, h1, h2, h3⟩ := ut (i - us.length) (by omega)
      refine .inr ⟨us.length + p, mvT st.2 n, by omega, by omega, key p n h2, ?_⟩
      have := List.mem_map_of_mem (f := fun k : Int => st.2.getD k.toNat 0) h3
      simp only [Int.toNat_natCast] at this
      rw [i2 _ (by omega), show (us.length : Int) + ((i - us.length : Nat) : Int) = (i : Int) by omega] at this
      exact this

/-- The nodes that stand in the end. -/
def repC (v : Int) (us ts : List Tc) : List Tc := if vIn v ts = true then (arTo v ((shTo us us.length).2.getD (us.length - 1) 0) (shTo us us.length).1 ts ts.length).1 else (shTo ts ts.length).1
/-- What is shared in the end on the given side. -/
def repP (v : Int) (us ts : List Tc) : List Tc := prR (rpTo v us ts ts.length).1 (rpRoot v us ts)

theorem root_lt {v : Int} {us ts : List Tc} (hu1 : 1 ≤ us.length) (ht1 : 1 ≤ ts.length) (hu : Ahd us) (ht : Ahd ts) : rpRoot v us ts < (rpTo v us ts ts.length).1.length := by
  have F := rpTo_f (v := v) hu1 hu ht ts.length (Nat.le_refl _)
  have := F.rg _ (gD_lt (l := (rpTo v us ts ts.length).2) (i := ts.length - 1) (by rw [F.l2]; omega))
  unfold rpRoot
  omega

theorem map_shK_zero (l : List Tc) : l.map (shK 0) = l := by
  have : ∀ x ∈ l, shK 0 x = x := fun x _ => shK_zero x
  rw [List.map_congr_left this, List.map_id']

theorem rep_core {ds : List Dc} {v : Int} {us ts : List Tc} (hu : ¬ (widthsR ds us).length = 0) (ht : ¬ (widthsR ds ts).length = 0) :
    1 ≤ (repP v us ts).length ∧ (repP v us ts).length ≤ 800 ∧ Ahd (repP v us ts) ∧ (shTo (repP v us ts) (repP v us ts).length).1 = repC v us ts ∧ (shTo (repP v us ts) (repP v us ts).length).2.getD ((repP v us ts).length - 1) 0 = ((repC v us ts).length : Int) - 1 ∧ (vIn v ts = false → (repC v us ts).length ≤ 400) := by
  obtain ⟨u1, u4, -, ua⟩ := right_kids hu
  obtain ⟨t1, t4, -, ta⟩ := right_kids ht
  have uu := right_used hu
  have ut := right_used ht
  have hr := root_lt (v := v) u1 t1 ua ta
  have F := rpTo_f (v := v) u1 ua ta ts.length (Nat.le_refl _)
  cases hv : vIn v ts with
  | true =>
    have H := rp_all u1 t1 ua ta uu ut (fun n hn e => var_noks ht hn e) hv
    have hP : repP v us ts = (rpTo v us ts ts.length).1 := by
      unfold repP
      rw [prune_eq F.ah hr (Nat.zero_le _) H, List.drop_zero, map_shK_zero]
    have hC : repC v us ts = (shTo (repP v us ts) (repP v us ts).length).1 := by
      unfold repC
      rw [if_pos hv, ar_rp u1 ua ta _ (Nat.le_refl _), hP]
    have hl := F.l1
    rw [hC]
    have hAP : Ahd (repP v us ts) := by rw [hP]; exact F.ah
    rw [← hP] at H hl
    have h1 : 1 ≤ (repP v us ts).length := by omega
    have hroot : rpRoot v us ts = (repP v us ts).length - 1 := by
      rcases (H ((repP v us ts).length - 1) (by omega)).2 (Nat.zero_le _) with h | ⟨p, n, h1, -, h3, -⟩
      · exact h.symm
      · have := (List.getElem?_eq_some_iff.1 h3).1
        omega
    have hlast := sh_last hAP (k := (repP v us ts).length - 1) (by omega) (fun i hi => by
      rcases (H i (by omega)).2 (Nat.zero_le _) with h | ⟨p, n, h1, -, h3, h4⟩
      · rw [hroot] at h
        omega
      · exact ⟨p, n, h1, h3, h4⟩)
    exact ⟨h1, by omega, hAP, rfl, hlast.1, fun h => by cases h⟩
  | false =>
    have H := rp_some u1 t1 ua ta ut hv
    have hP : repP v us ts = ts := by
      unfold repP
      rw [prune_eq F.ah hr F.l1.1 H]
      exact (rp_drop u1 ua ta hv).1
    have hC : repC v us ts = (shTo ts ts.length).1 := by
      unfold repC
      rw [if_neg (by rw [hv]; simp)]
    rw [hP, hC]
    have hlast := sh_last ta (k := ts.length - 1) (by omega) (fun i hi => ut i (by omega))
    exact ⟨t1, by omega, ta, rfl, hlast.1, fun _ => by have := (shTo_f ta _ (Nat.le_refl _)).l1; omega⟩

/-- Replace's answer. -/
def repOk (ds : List Dc) (ts : List Tc) (v : Int) (us : List Tc) : Bool := decide (0 ≤ widR ds ts) && decide (0 ≤ v ∧ v < (ds.length : Int)) && (match ds[v.toNat]? with | some d => decide (d.2 = widR ds us) | none => false)
def repR (ds : List Dc) (ts : List Tc) (v : Int) (us : List Tc) : List Tc × Bool :=
  if repOk ds ts v us = true then if (repC v us ts).length ≤ 400 then (repC v us ts, true) else ([], false) else ([], false)

end Go.Proofs.YtkkboaiablfdbaaGreatDoor
