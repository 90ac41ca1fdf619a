/- How many bars a node has: both ways of counting are one. No program in sight. -/
import Derived.Test.YtddgldfjeklhbaaBU
namespace Go.Proofs.Ytddgldfjeklhbaa
set_option linter.unusedVariables false
set_option linter.unusedSimpArgs false
open Go.RowKit

/-- Each once, in the order in which they came. -/
def setY (l : List Yc) (xs : List Yc) : List Yc := xs.foldl putY l

theorem putG_ct (l : List Yg) (x : Yg) : (putG l x).map Yg.ct = putY (l.map Yg.ct) x.ct := by
  unfold putG putY
  split <;> simp
theorem setG_ct (xs : List Yg) : ∀ l, (setG l xs).map Yg.ct = setY (l.map Yg.ct) (xs.map Yg.ct) := by
  induction xs with
  | nil => intro l; rfl
  | cons x t ih =>
    intro l
    have h := ih (putG l x)
    rw [putG_ct] at h
    exact h

theorem setY_nodup (xs : List Yc) : ∀ l : List Yc, l.Nodup → (setY l xs).Nodup := by
  induction xs with
  | nil => intro l h; exact h
  | cons x t ih =>
    intro l h
    refine ih (putY l x) ?_
    unfold putY
    split
    · exact h
    · rename_i hn
      refine List.nodup_append.2 ⟨h, by simp, fun a ha b hb => ?_⟩
      simp at hb
      subst hb
      intro e; subst e; exact hn ha
theorem setY_mem (xs : List Yc) : ∀ (l : List Yc) (s : Yc), s ∈ setY l xs ↔ s ∈ l ∨ s ∈ xs := by
  induction xs with
  | nil => intro l s; simp [setY]
  | cons x t ih =>
    intro l s
    rw [show setY l (x :: t) = setY (putY l x) t from rfl, ih]
    unfold putY
    by_cases e : x ∈ l
    · rw [if_pos e]
      constructor
      · rintro (h | h)
        · exact .inl h
        · exact .inr (List.mem_cons_of_mem _ h)
      · rintro (h | h)
        · exact .inl h
        · rcases List.mem_cons.1 h with rfl | h
          · exact .inl e
          · exact .inr h
    · rw [if_neg e]
      simp only [List.mem_append, List.mem_cons, List.not_mem_nil, or_false]
      constructor
      · rintro ((h | h) | h)
        · exact .inl h
        · exact .inr (.inl h)
        · exact .inr (.inr h)
      · rintro (h | h | h)
        · exact .inl (.inl h)
        · exact .inl (.inr h)
        · exact .inr h

theorem insI_nodup {out : List Int} {x : Int} (h : out.Nodup) (hx : x ∉ out) : (insI out x).Nodup := by
  unfold insI
  generalize posI out x out.length = p
  have h' := h
  rw [← List.take_append_drop p out] at h'
  obtain ⟨h1, h2, h3⟩ := List.nodup_append.1 h'
  have hd : x ∉ out.drop p := fun hm => hx (List.mem_of_mem_drop hm)
  have ht : x ∉ out.take p := fun hm => hx (List.mem_of_mem_take hm)
  refine List.nodup_append.2 ⟨h1, List.nodup_cons.2 ⟨hd, h2⟩, fun a ha b hb => ?_⟩
  rcases List.mem_cons.1 hb with rfl | hb
  · intro e; subst e; exact ht ha
  · exact h3 a ha b hb
theorem risI_nodup : ∀ (xs out : List Int), out.Nodup → (risI out xs).Nodup
  | [], out, h => h
  | x :: t, out, h => by
    rw [risI]
    refine risI_nodup t _ ?_
    split
    · exact h
    · exact insI_nodup h (by assumption)

/-- How often a bar counts for a node. -/
def cntC (i : Nat) (s : Yc) : Int := if s.lo = -1 then (if s.v.toNat = i then 1 else 0) else (if s.v.toNat = i then 1 else 0) + (if s.lo.toNat = i then 1 else 0)
theorem stepC_cnt (cr : Nat → Int) (s : Yc) (i : Nat) : stepC cr s i = cr i + cntC i s := by
  unfold cntC
  by_cases e : s.lo = -1
  · rw [show stepC cr s = _ from if_pos e, if_pos e]
    unfold upd
    by_cases h1 : i = s.v.toNat
    · subst h1; simp
    · rw [if_neg h1, if_neg (fun h => h1 h.symm)]; omega
  · rw [show stepC cr s = _ from if_neg e, if_neg e]
    unfold upd
    by_cases h2 : i = s.lo.toNat
    · subst h2
      by_cases h1 : s.lo.toNat = s.v.toNat
      · simp [h1]; omega
      · rw [if_pos rfl, if_neg h1, if_neg (fun h => h1 h.symm), if_pos rfl]; omega
    · by_cases h1 : i = s.v.toNat
      · subst h1
        rw [if_neg h2, if_pos rfl, if_pos rfl, if_neg (fun h => h2 h.symm)]; omega
      · rw [if_neg h2, if_neg h1, if_neg (fun h => h1 h.symm), if_neg (fun h => h2 h.symm)]; omega
theorem crF_sum (i : Nat) : ∀ (ys : List Yc) (cr : Nat → Int), (ys.foldl stepC cr) i = cr i + (ys.map (cntC i)).sum
  | [], cr => by simp
  | s :: t, cr => by
    rw [List.foldl_cons, crF_sum i t, stepC_cnt, List.map_cons, List.sum_cons]; omega

theorem nodup_sub_len {α : Type} [DecidableEq α] : ∀ (l1 l2 : List α), l1.Nodup → (∀ a ∈ l1, a ∈ l2) → l1.length ≤ l2.length
  | [], _, _, _ => Nat.zero_le _
  | x :: t, l2, h, hs => by
    obtain ⟨hx, ht⟩ := List.nodup_cons.1 h
    have h2 := nodup_sub_len t (l2.erase x) ht (fun a ha => (List.mem_erase_of_ne (fun e => hx (by rw [← e]; exact ha))).2 (hs a (List.mem_cons_of_mem _ ha)))
    have hm := hs x (by simp)
    rw [List.length_erase_of_mem hm] at h2
    have := List.length_pos_of_mem hm
    simp only [List.length_cons]
    omega
theorem nodup_len {α : Type} [DecidableEq α] {l1 l2 : List α} (h1 : l1.Nodup) (h2 : l2.Nodup) (h : ∀ a, a ∈ l1 ↔ a ∈ l2) : l1.length = l2.length :=
  Nat.le_antisymm (nodup_sub_len l1 l2 h1 (fun a => (h a).1)) (nodup_sub_len l2 l1 h2 (fun a => (h a).2))
theorem nodup_fm {α β : Type} {f : α → Option β} : ∀ {l : List α}, l.Nodup → (∀ s ∈ l, ∀ t ∈ l, ∀ b, f s = some b → f t = some b → s = t) → (l.filterMap f).Nodup
  | [], _, _ => by simp
  | x :: t, h, hi => by
    obtain ⟨hx, ht⟩ := List.nodup_cons.1 h
    have h2 := nodup_fm ht (fun s hs u hu => hi s (List.mem_cons_of_mem _ hs) u (List.mem_cons_of_mem _ hu))
    rw [List.filterMap_cons]
    cases e : f x with
    | none => exact h2
    | some b =>
      refine List.nodup_cons.2 ⟨fun hm => ?_, h2⟩
      obtain ⟨u, hu, eu⟩ := List.mem_filterMap.1 hm
      exact hx (by rw [hi x (by simp) u (List.mem_cons_of_mem _ hu) b e eu]; exact hu)

/-- A bar of a right graph. -/
def gdB (n : Nat) (s : Yc) : Prop := (0 ≤ s.v ∧ s.v < n) ∧ (s.lo = -1 ∨ (0 ≤ s.lo ∧ s.lo < n ∧ s.lo ≠ s.v ∧ s.bw = 0 ∧ s.ws = []))
/-- .. with its lesser node ahead. -/
def gdN (s : Yc) : Prop := s.lo = -1 ∨ s.v < s.lo

theorem gdB_nrm {n : Nat} {s : Yc} (h : gdB n s) : gdB n (nrmC s) ∧ gdN (nrmC s) := by
  obtain ⟨⟨h1, h2⟩, h3⟩ := h
  unfold nrmC
  by_cases e : s.lo = -1
  · rw [if_pos e]
    exact ⟨⟨⟨h1, h2⟩, .inl e⟩, .inl e⟩
  · rw [if_neg e]
    rcases h3 with h3 | ⟨h4, h5, h6, h7, h8⟩
    · exact absurd h3 e
    · refine ⟨⟨⟨by simp only []; omega, by simp only []; omega⟩, .inr ⟨by simp only []; omega, by simp only []; omega, by simp only []; omega, h7, h8⟩⟩, .inr (by simp only []; omega)⟩

theorem othC_nrm {n : Nat} {s : Yc} (h : gdB n s) (x : Int) : othC x (nrmC s) = othC x s := by
  obtain ⟨⟨h1, h2⟩, h3⟩ := h
  unfold nrmC
  by_cases e : s.lo = -1
  · rw [if_pos e]
  · rw [if_neg e]
    rcases h3 with h3 | ⟨h4, h5, h6, h7, h8⟩
    · exact absurd h3 e
    · unfold othC
      simp only []
      by_cases hle : s.v ≤ s.lo
      · rw [show min s.v s.lo = s.v by omega, show max s.v s.lo = s.lo by omega]
      · rw [show min s.v s.lo = s.lo by omega, show max s.v s.lo = s.v by omega]
        by_cases a1 : s.lo = x
        · rw [if_pos a1, if_neg (by omega), if_neg (by omega), if_pos a1]
        · rw [if_neg a1]
          by_cases a2 : s.v = x
          · rw [if_pos a2, if_pos a2, if_neg (by omega)]
          · rw [if_neg a2, if_neg a2, if_neg a1]

theorem valC_nrm {n : Nat} {s t : Yc} (h : gdB n s) (x : Int) (e : nrmC s = t) (hv : valC x t = true) : s = t := by
  obtain ⟨⟨h1, h2⟩, h3⟩ := h
  unfold nrmC at e
  by_cases e1 : s.lo = -1
  · rw [if_pos e1] at e; exact e
  · rw [if_neg e1] at e
    rcases h3 with h3 | ⟨h4, h5, -⟩
    · exact absurd h3 e1
    · subst e
      simp [valC] at hv
      omega
theorem valC_keep {s : Yc} {n : Nat} (h : gdB n s) {x : Int} (hv : valC x s = true) : nrmC s = s := by
  simp [valC] at hv
  unfold nrmC
  rcases h.2 with h3 | ⟨h4, -⟩
  · rw [if_pos h3]
  · omega

theorem othC_inj {n : Nat} {s t : Yc} (hs : gdB n s) (ht : gdB n t) (ns : gdN s) (nt : gdN t) {x b : Int} (hx0 : 0 ≤ x) (h1 : othC x s = some b) (h2 : othC x t = some b) : s = t := by
  obtain ⟨⟨s1, s2⟩, s3⟩ := hs
  obtain ⟨⟨t1, t2⟩, t3⟩ := ht
  have key : ∀ u : Yc, 0 ≤ u.v → gdN u → (u.lo = -1 ∨ (0 ≤ u.lo ∧ u.lo < n ∧ u.lo ≠ u.v ∧ u.bw = 0 ∧ u.ws = [])) → othC x u = some b → u.v = min x b ∧ u.lo = max x b ∧ u.bw = 0 ∧ u.ws = [] := by
    intro u u1 nu u3 hu
    unfold othC at hu
    rcases u3 with u3 | ⟨u4, u5, u6, u7, u8⟩
    · by_cases a1 : u.v = x
      · rw [if_pos a1, if_pos (by omega)] at hu; cases hu
      · rw [if_neg a1] at hu
        by_cases a2 : u.lo = x
        · rw [if_pos a2] at hu
          cases hu
          omega
        · rw [if_neg a2] at hu; cases hu
    · rcases nu with nu | nu
      · omega
      · by_cases a1 : u.v = x
        · rw [if_pos a1, if_neg (by omega)] at hu
          cases hu
          exact ⟨by omega, by omega, u7, u8⟩
        · rw [if_neg a1] at hu
          by_cases a2 : u.lo = x
          · rw [if_pos a2] at hu
            cases hu
            exact ⟨by omega, by omega, u7, u8⟩
          · rw [if_neg a2] at hu; cases hu
  obtain ⟨a1, a2, a3, a4⟩ := key s s1 ns s3 h1
  obtain ⟨b1, b2, b3, b4⟩ := key t t1 nt t3 h2
  cases s; cases t
  simp only at a1 a2 a3 a4 b1 b2 b3 b4
  subst a1; subst a2; subst a3; subst a4; subst b1; subst b2; subst b3; subst b4
  rfl

end Go.Proofs.Ytddgldfjeklhbaa
