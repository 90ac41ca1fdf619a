/- Plain facts on trees as lists of nodes: walked from the root down, and node by node with a stack of open lists. No program in sight. -/
import Derived.WalkKit
namespace Go.Proofs.Ythoiajpbpoglfaa
set_option linter.unusedVariables false
set_option linter.unusedSimpArgs false
open Go.RowKit

/-- The byte at a place of a text. -/
def bn (s : ByteArray) (k : Nat) : Nat := if h : k < s.size then (s[k]'h).toNat else 0
theorem get_bn (s : ByteArray) : ∀ (n : Nat) (h : n < s.size), (s[n]'h).toNat = bn s n := fun n h => by unfold bn; rw [dif_pos h]
theorem bn_lt (s : ByteArray) (k : Nat) : bn s k < 256 := by
  unfold bn; split
  · exact UInt8.toNat_lt _
  · omega

/-- A byte that may stand in an atom. -/
def atomB (c : Nat) : Bool := decide (33 ≤ c) && decide (c ≤ 126) && !decide (c = 40) && !decide (c = 41) && !decide (c = 59)

def allAtom (s : ByteArray) : Bool := (List.range s.size).all fun i => atomB (bn s i)

theorem allAtom_iff (s : ByteArray) : allAtom s = true ↔ ∀ i, i < s.size → atomB (bn s i) = true := by
  unfold allAtom
  rw [List.all_eq_true]
  exact ⟨fun h i hi => h i (List.mem_range.2 hi), fun h i hi => h i (List.mem_range.1 hi)⟩

/-- A node: its text, its kids. -/
abbrev Ct := ByteArray × List Int

def okC (n : Ct) : Bool := decide (n.1.size = 0) || (allAtom n.1 && n.2.isEmpty)

/-- All kids of a list, one behind the other: the place behind them, the deepest one. -/
def WL (len : Nat) (rec : Nat → Option (Nat × Nat)) : List Int → Nat → Option (Nat × Nat)
  | [], nx => some (nx, 0)
  | k :: ks, nx => if k ≠ (nx : Int) ∨ len ≤ nx then none else
      match rec nx with
      | none => none
      | some (nx', d) => match WL len rec ks nx' with
        | none => none
        | some (e, d') => some (e, max d d')

/-- The place behind all that is below a node, and its depth. -/
def W (ns : List Ct) : Nat → Nat → Nat → Option (Nat × Nat)
  | 0, _, _ => none
  | f + 1, p, deep =>
    if 100 < deep ∨ okC (ns.getD p (.empty, [])) = false then none else
      match WL ns.length (fun nx => W ns f nx (deep + 1)) (ns.getD p (.empty, [])).2 (p + 1) with
      | none => none
      | some (e, d) => some (e, if (ns.getD p (.empty, [])).1.size = 0 then d + 1 else 0)

theorem WL_le {len : Nat} {rec : Nat → Option (Nat × Nat)} (hrec : ∀ nx e d, nx < len → rec nx = some (e, d) → nx < e ∧ e ≤ len) {ks : List Int} {nx e d : Nat} (hnx : nx ≤ len) (h : WL len rec ks nx = some (e, d)) : nx ≤ e ∧ e ≤ len := by
  induction ks generalizing nx e d with
  | nil => simp [WL] at h; omega
  | cons k ks ih =>
    rw [WL] at h
    split at h
    · cases h
    · rename_i hc
      have hc' : nx < len := by omega
      cases hr : rec nx with
      | none => rw [hr] at h; cases h
      | some q =>
        obtain ⟨nx', d1⟩ := q
        rw [hr] at h
        cases hl : WL len rec ks nx' with
        | none => simp [hl] at h
        | some q2 =>
          obtain ⟨e2, d2⟩ := q2
          simp [hl] at h
          obtain ⟨rfl, rfl⟩ := h
          have h1 := hrec nx nx' d1 hc' hr
          have h2 := ih (by omega) hl
          omega

theorem W_le {ns : List Ct} {f p deep e d : Nat} (hp : p < ns.length) (h : W ns f p deep = some (e, d)) : p < e ∧ e ≤ ns.length := by
  induction f generalizing p deep e d with
  | zero => simp [W] at h
  | succ f ih =>
    rw [W] at h
    split at h
    · cases h
    · cases hl : WL ns.length (fun nx => W ns f nx (deep + 1)) (ns.getD p (.empty, [])).2 (p + 1) with
      | none => rw [hl] at h; cases h
      | some q =>
        obtain ⟨e2, d2⟩ := q
        rw [hl] at h
        simp at h
        obtain ⟨rfl, -⟩ := h
        have := WL_le (fun nx e d hnx hr => ih hnx hr) (by omega) hl
        omega

/-- Lists that lack no kid any more fall off the top. -/
def dropF : List (List Int × Nat) → List (List Int × Nat)
  | [] => []
  | x :: r => if x.2 = x.1.length then dropF r else x :: r

def body (n : Ct) (st : List (List Int × Nat)) (dp : Nat) (K : List (List Int × Nat) → Nat → Option Nat) : Option Nat :=
  if 100 < st.length ∨ okC n = false then none
  else if n.1.size = 0 then K ((n.2, 0) :: st) (max dp (st.length + 1)) else K st (max dp st.length)

/-- Node by node: r nodes are left, from p on. -/
def M (ns : List Ct) : Nat → Nat → List (List Int × Nat) → Nat → Option Nat
  | 0, _, st, dp => if dropF st = [] then some dp else none
  | r + 1, p, st, dp => match dropF st with
    | [] => none
    | x :: t => if x.1.getD x.2 0 ≠ (p : Int) then none else body (ns.getD p (.empty, [])) ((x.1, x.2 + 1) :: t) dp (M ns r (p + 1))

theorem M_full (ns : List Ct) (r p : Nat) (ks : List Int) (st : List (List Int × Nat)) (dp : Nat) : M ns r p ((ks, ks.length) :: st) dp = M ns r p st dp := by
  cases r with
  | zero => simp [M, dropF]
  | succ r => simp only [M, dropF, if_pos]

theorem body_M {ns : List Ct} {f : Nat} : ∀ {p deep : Nat} {st : List (List Int × Nat)} {dp : Nat}, p < ns.length → ns.length - p ≤ f → st.length = deep →
    body (ns.getD p (.empty, [])) st dp (M ns (ns.length - (p + 1)) (p + 1)) = match W ns f p deep with | none => none | some (e, d) => M ns (ns.length - e) e st (max dp (deep + d)) := by
  induction f with
  | zero => intro p deep st dp h1 h2; omega
  | succ f ih =>
    intro p deep st dp hp hf hst
    subst hst
    rw [body, W]
    by_cases hc : 100 < st.length ∨ okC (ns.getD p (.empty, [])) = false
    · rw [if_pos hc, if_pos hc]
    rw [if_neg hc, if_neg hc]
    generalize hn : ns.getD p (.empty, []) = n at *
    have kids : ∀ (ks : List Int) (i nx dp : Nat), n.2.drop i = ks → i ≤ n.2.length → p < nx → nx ≤ ns.length → st.length + 1 ≤ dp →
        M ns (ns.length - nx) nx ((n.2, i) :: st) dp = match WL ns.length (fun nx => W ns f nx (st.length + 1)) ks nx with | none => none | some (e, d) => M ns (ns.length - e) e st (max dp (st.length + 1 + d)) := by
      intro ks
      induction ks with
      | nil =>
        intro i nx dp hd hi hnx hle hdp
        have hi' : i = n.2.length := by
          have := congrArg List.length hd
          simp at this; omega
        subst hi'
        rw [M_full]
        simp [WL, Nat.max_eq_left hdp]
      | cons k ks ihk =>
        intro i nx dp hd hi hnx hle hdp
        have hil : i < n.2.length := by
          have := congrArg List.length hd
          simp at this; omega
        have hg : n.2.getD i 0 = k := by
          have := congrArg (fun l => l.getD 0 0) hd
          simpa [List.getD] using this
        have hd' : n.2.drop (i + 1) = ks := by
          have := congrArg List.tail hd
          simpa using this
        have hdrop : dropF ((n.2, i) :: st) = (n.2, i) :: st := by
          rw [dropF, if_neg]; simp; omega
        rw [WL]
        by_cases hlen : ns.length ≤ nx
        · rw [if_pos (.inr hlen), show ns.length - nx = 0 by omega, M, hdrop]
          simp
        · obtain ⟨r, hr⟩ : ∃ r, ns.length - nx = r + 1 := ⟨ns.length - nx - 1, by omega⟩
          rw [hr, M, hdrop]
          simp only [hg]
          by_cases hk : k ≠ (nx : Int)
          · rw [if_pos hk, if_pos (.inl hk)]
          · rw [if_neg hk, if_neg (by omega)]
            have hr' : r = ns.length - (nx + 1) := by omega
            rw [hr']
            rw [ih (p := nx) (deep := st.length + 1) (st := (n.2, i + 1) :: st) (by omega) (by omega) (by simp)]
            cases hw : W ns f nx (st.length + 1) with
            | none => rfl
            | some q =>
              obtain ⟨e, d⟩ := q
              simp only []
              have hle2 := W_le (by omega) hw
              rw [ihk (i + 1) e (max dp (st.length + 1 + d)) hd' (by omega) (by omega) hle2.2 (by omega)]
              cases WL ns.length (fun nx => W ns f nx (st.length + 1)) ks e with
              | none => rfl
              | some q2 =>
                obtain ⟨e2, d2⟩ := q2
                simp only []
                congr 1
                omega
    by_cases hz : n.1.size = 0
    · rw [if_pos hz]
      rw [kids n.2 0 (p + 1) _ (by simp) (by omega) (by omega) (by omega) (by omega)]
      cases WL ns.length (fun nx => W ns f nx (st.length + 1)) n.2 (p + 1) with
      | none => rfl
      | some q =>
        obtain ⟨e, d⟩ := q
        simp only [hz, if_true]
        congr 1
        omega
    · have he : n.2 = [] := by
        have : ¬ okC n = false := fun h => hc (.inr h)
        simp [okC, hz] at this
        exact this.2
      rw [if_neg hz, he, WL]
      simp [hz]

/-- What a tree's depth is; -1 of one that is not right. -/
def depR (ns : List Ct) : Int :=
  if 1 ≤ ns.length ∧ ns.length ≤ 2000 then
    match W ns ns.length 0 0 with
    | none => -1
    | some (e, d) => if e = ns.length then (d : Int) else -1
  else -1

theorem depR_M (ns : List Ct) (h : 1 ≤ ns.length ∧ ns.length ≤ 2000) : depR ns = match body (ns.getD 0 (.empty, [])) [] 0 (M ns (ns.length - 1) 1) with | none => -1 | some d => (d : Int) := by
  have := body_M (ns := ns) (f := ns.length) (p := 0) (deep := 0) (st := []) (dp := 0) (by omega) (by omega) rfl
  rw [Nat.zero_add] at this
  rw [this, depR, if_pos h]
  cases hw : W ns ns.length 0 0 with
  | none => rfl
  | some q =>
    obtain ⟨e, d⟩ := q
    simp only []
    have hle := W_le (by omega) hw
    by_cases he : e = ns.length
    · subst he
      rw [if_pos rfl, Nat.sub_self, M]
      simp [dropF]
    · rw [if_neg he]
      obtain ⟨r, hr⟩ : ∃ r, ns.length - e = r + 1 := ⟨ns.length - e - 1, by omega⟩
      rw [hr, M]
      simp [dropF]

end Go.Proofs.Ythoiajpbpoglfaa
