/- Plain facts: what is read is a right tree: step by step. No program in sight. -/
import Derived.Test.YteainbakfeedpaaYB
namespace Go.Proofs.Yteainbakfeedpaa
set_option linter.unusedVariables false
set_option linter.unusedSimpArgs false
open Go.RowKit

theorem WL_fuel {cs : List Ct} {f g deep : Nat} (hg : cs.length ≤ g) : ∀ {ks : List Int} {nx e d : Nat}, WL cs.length (fun nx => W cs f nx deep) ks nx = some (e, d) → WL cs.length (fun nx => W cs g nx deep) ks nx = some (e, d) := by
  intro ks
  induction ks with
  | nil => intro nx e d h; simpa [WL] using h
  | cons k ks ihk =>
    intro nx e d h
    obtain ⟨rfl, hlt, nx', d1, d2, hr, hr2, rfl⟩ := WLsome h
    rw [WL, if_neg (by omega), W_fuel f hr hlt (by omega)]
    simp only []
    rw [ihk hr2]

theorem getD_put {cs : List Ct} {u : Nat} {t : ByteArray} (hu : u < cs.length) :
    (∀ i, i < cs.length → i ≠ u → (addKid cs u ++ [(t, [])]).getD i (.empty, []) = cs.getD i (.empty, [])) ∧
    (addKid cs u ++ [(t, [])]).getD u (.empty, []) = ((cs.getD u (.empty, [])).1, (cs.getD u (.empty, [])).2 ++ [(cs.length : Int)]) ∧
    (addKid cs u ++ [(t, [])]).getD cs.length (.empty, []) = (t, []) ∧ (addKid cs u ++ [(t, [])]).length = cs.length + 1 := by
  have hl : (addKid cs u).length = cs.length := addKid_len cs u
  refine ⟨fun i hi hne => ?_, ?_, ?_, by simp [hl]⟩
  · simp only [List.getD]
    rw [List.getElem?_append_left (by omega), addKid, List.getElem?_set_ne (fun e => hne e.symm)]
  · simp only [List.getD]
    rw [List.getElem?_append_left (by omega), addKid, List.getElem?_set_self hu]
    rfl
  · simp only [List.getD]
    rw [List.getElem?_append_right (by omega), hl, Nat.sub_self]
    rfl

theorem W_atom {cs : List Ct} {q deep : Nat} {t : ByteArray} (hg : cs.getD q (.empty, []) = (t, [])) (hz : t.size ≠ 0) (ha : allAtom t = true) (hd : deep ≤ 100) : W cs FU q deep = some (q + 1, 0) := by
  rw [show FU = 2999 + 1 from rfl, W, hg]
  have hok : okC (t, ([] : List Int)) = true := by simp [okC, hz, ha]
  rw [if_neg (by rintro (h | h); omega; rw [hok] at h; cases h)]
  simp [WL, hz]

theorem begF_ok {cs : List Ct} {op : List Nat} (h : begF cs op = 0) : (op = [] → cs = []) ∧ op.length ≤ 100 ∧ cs.length ≠ 2000 := by
  unfold begF at h
  split at h
  · omega
  · rename_i h1
    split at h
    · omega
    · split at h
      · omega
      · refine ⟨fun e => ?_, by omega, by omega⟩
        cases cs with
        | nil => rfl
        | cons x r => exact absurd ⟨e, by simp⟩ h1

theorem PR_atom {cs : List Ct} {op : List Nat} {t : ByteArray} (h : PR cs op) (hb : begF cs op = 0) (hz : t.size ≠ 0) (ha : allAtom t = true) : PR (putC cs op t) op := by
  obtain ⟨h1, h2, h3⟩ := begF_ok hb
  cases op with
  | nil =>
    have e := h1 rfl
    subst e
    exact .inr ⟨0, W_atom (by rfl) hz ha (by omega)⟩
  | cons u r =>
    obtain ⟨g1, g2, g3, ⟨ks, d, g4, g5⟩, g6⟩ := h
    obtain ⟨p1, p2, p3, p4⟩ := getD_put (t := t) g1
    rw [List.append_nil] at g4
    rw [g4] at p2
    simp only [] at p2
    have hput : putC cs (u :: r) t = addKid cs u ++ [(t, [])] := rfl
    rw [hput]
    simp only [List.length_cons] at h2
    have w1 := W_atom (cs := addKid cs u ++ [(t, [])]) (deep := r.length + 1) p3 hz ha h2
    have l1 := (WL_local (cs' := addKid cs u ++ [(t, [])]) g5 (by omega) (fun i hi1 hi2 => p1 i hi2 (by omega)) (by omega)).1
    obtain ⟨d3, l2⟩ := WL_snoc l1 (by omega) w1
    refine ⟨by omega, by omega, g3, ⟨ks ++ [(cs.length : Int)], d3, by rw [List.append_nil]; exact p2, ?_⟩, Ch_local g6 (fun i hi => p1 i (by omega) (by omega)) (by omega)⟩
    rw [p4] at l2 ⊢
    exact l2

theorem PR_open {cs : List Ct} {op : List Nat} (h : PR cs op) (hb : begF cs op = 0) : PR (putC cs op .empty) (cs.length :: op) := by
  obtain ⟨h1, h2, h3⟩ := begF_ok hb
  cases op with
  | nil =>
    have e := h1 rfl
    subst e
    exact ⟨by simp [putC], by simp [putC], by simp, ⟨[], 0, rfl, by simp [WL, putC]⟩, rfl⟩
  | cons u r =>
    obtain ⟨g1, g2, g3, ⟨ks, d, g4, g5⟩, g6⟩ := h
    obtain ⟨p1, p2, p3, p4⟩ := getD_put (t := .empty) g1
    rw [List.append_nil] at g4
    rw [g4] at p2
    simp only [] at p2
    have hput : putC cs (u :: r) .empty = addKid cs u ++ [(.empty, [])] := rfl
    rw [hput]
    have l1 := (WL_local (cs' := addKid cs u ++ [(.empty, [])]) g5 (by omega) (fun i hi1 hi2 => p1 i hi2 (by omega)) (by omega)).1
    refine ⟨by omega, by omega, by simpa using h2, ⟨[], 0, by simpa using p3, by simp [WL, p4]⟩, ?_⟩
    exact ⟨g1, by omega, g3, ⟨ks, d, p2, l1⟩, Ch_local g6 (fun i hi => p1 i (by omega) (by omega)) (by omega)⟩

theorem PR_shut {cs : List Ct} {u : Nat} {r : List Nat} (h : PR cs (u :: r)) (hl : cs.length ≤ 2000) : PR cs r := by
  obtain ⟨g1, g2, g3, ⟨ks, d, g4, g5⟩, g6⟩ := h
  rw [List.append_nil] at g4
  have hw : W cs FU u r.length = some (cs.length, d + 1) := by
    rw [show FU = 2999 + 1 from rfl, W, g4]
    have hok : okC (ByteArray.empty, ks) = true := by simp [okC]
    rw [if_neg (by rintro (h | h); omega; rw [hok] at h; cases h)]
    have := WL_fuel (g := 2999) (by omega) g5
    rw [this]
    simp
  cases r with
  | nil =>
    have hu : u = 0 := g6
    subst hu
    exact .inr ⟨d + 1, hw⟩
  | cons v r =>
    obtain ⟨k1, k2, k3, ⟨ks', d', k4, k5⟩, k6⟩ := g6
    obtain ⟨d3, l2⟩ := WL_snoc k5 (by omega) hw
    exact ⟨by omega, Nat.le_refl _, k3, ⟨ks' ++ [(u : Int)], d3, by rw [List.append_nil]; exact k4, l2⟩, k6⟩

theorem runE_all (ok : Nat → Bool) (s : ByteArray) (f p : Nat) : ∀ i, p ≤ i → i < runE ok s f p → ok (bn s i) = true := by
  induction f generalizing p with
  | zero => intro i h1 h2; simp [runE] at h2; omega
  | succ f ih =>
    intro i h1 h2
    rw [runE] at h2
    split at h2
    · rename_i h
      by_cases e : i = p
      · rw [e]; exact h
      · exact ih (p + 1) i (by omega) h2
    · omega

theorem ext_atom (s : ByteArray) (p e : Nat) (he : e ≤ s.size) (h : ∀ i, p ≤ i → i < e → atomB (bn s i) = true) : allAtom (s.extract p e) = true := by
  rw [allAtom_iff]
  have hs := extract_size s p e he
  intro i hi
  have hx : bn (s.extract p e) i = bn s (p + i) := by
    unfold bn
    rw [dif_pos (by omega), dif_pos (by omega), ByteArray.getElem_extract]
  rw [hx]
  exact h _ (by omega) (by omega)

theorem readF_right {s : ByteArray} (F : Nat) : ∀ {p : Nat} {cs : List Ct} {op : List Nat} {cs' : List Ct}, s.size - p < F → PR cs op → cs.length ≤ 2000 → readF s F p cs op = (cs', 0, 0) → 0 ≤ depR cs' ∧ cs'.length ≤ 2000 := by
  induction F with
  | zero => intro p cs op cs' h; omega
  | succ F ih =>
    intro p cs op cs' hF hpr hl hr
    by_cases hp : s.size ≤ p
    · rw [readF_end hp] at hr
      by_cases ho : op ≠ []
      · rw [if_pos ho] at hr; simp at hr
      · rw [if_neg ho] at hr
        have ho' : op = [] := by simpa using ho
        subst ho'
        by_cases hc : cs = []
        · rw [if_pos hc] at hr; simp at hr
        · rw [if_neg hc] at hr
          simp only [Prod.mk.injEq, and_true] at hr
          subst hr
          rcases hpr with h | ⟨d, h⟩
          · exact absurd h hc
          · have hp := List.length_pos_iff.2 hc
            have hw := W_fuel FU (g := cs.length) h hp (by omega)
            refine ⟨?_, hl⟩
            rw [depR, if_pos ⟨hp, hl⟩, hw]
            simp
    · have hp' : p < s.size := by omega
      by_cases h32 : bn s p = 32 ∨ bn s p = 10
      · rw [readF_skip hp' h32] at hr
        exact ih (by omega) hpr hl hr
      by_cases h59 : bn s p = 59
      · rw [readF_rem hp' h59] at hr
        have := runE_lt (ok := remB) hp' (by rw [h59]; rfl)
        exact ih (by omega) hpr hl hr
      by_cases h41 : bn s p = 41
      · rw [readF_shut hp' h41] at hr
        cases op with
        | nil => simp [shutK] at hr
        | cons u r => exact ih (by omega) (PR_shut hpr hl) hl hr
      by_cases h40 : bn s p = 40
      · rw [readF_open hp' h40] at hr
        by_cases hb : begF cs op = 0
        · rw [if_neg (by omega)] at hr
          exact ih (by omega) (PR_open hpr hb) (by rw [putC_len]; have := (begF_ok hb).2.2; omega) hr
        · rw [if_pos hb] at hr
          simp only [Prod.mk.injEq] at hr
          exact absurd hr.2.1 hb
      cases ha : atomB (bn s p) with
      | true =>
        rw [readF_atom hp' ha] at hr
        have hrun := runE_lt (ok := atomB) hp' ha
        by_cases hb : begF cs op = 0
        · rw [if_neg (by omega)] at hr
          have hex := extract_size s p _ hrun.2
          exact ih (by omega) (PR_atom hpr hb (by omega) (ext_atom s p _ hrun.2 (runE_all _ _ _ _))) (by rw [putC_len]; have := (begF_ok hb).2.2; omega) hr
        · rw [if_pos hb] at hr
          simp only [Prod.mk.injEq] at hr
          exact absurd hr.2.1 hb
      | false =>
        rw [readF_bad hp' h32 h59 h41 h40 ha] at hr
        simp at hr

/-- What a text says is a right tree. -/
theorem read_right {s : ByteArray} {cs : List Ct} (h : readT s = (cs, 0, 0)) : 0 ≤ depR cs ∧ cs.length ≤ 2000 := by
  unfold readT at h
  split at h
  · simp at h
  · exact readF_right _ (p := 0) (cs := []) (op := []) (by omega) (Or.inl rfl) (by simp) h

end Go.Proofs.Yteainbakfeedpaa
