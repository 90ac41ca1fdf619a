/- Plain facts: what is read is a right tree. No program in sight. -/
import Derived.Test.YteainbakfeedpaaYA
namespace Go.Proofs.Yteainbakfeedpaa
set_option linter.unusedVariables false
set_option linter.unusedSimpArgs false
open Go.RowKit

theorem bn_txt (l : List Nat) (hl : ∀ x ∈ l, x < 256) (i : Nat) (hi : i < l.length) : bn (txt l) i = l.getD i 0 := by
  have hs : (txt l).size = l.length := by simp [txt, ByteArray.size]
  unfold bn
  rw [dif_pos (by omega)]
  have hx := hl l[i] (List.getElem_mem hi)
  have e : (txt l)[i]'(by omega) = UInt8.ofNat l[i] := by
    show (txt l).data[i]'(by simpa [txt] using hi) = _
    simp [txt]
  rw [e]
  simp [List.getD, hi, Nat.mod_eq_of_lt hx]
theorem txt_size (l : List Nat) : (txt l).size = l.length := by simp [txt, ByteArray.size]

theorem depR_W {cs : List Ct} (h : 0 ≤ depR cs) : 1 ≤ cs.length ∧ cs.length ≤ 2000 ∧ ∃ d : Nat, W cs cs.length 0 0 = some (cs.length, d) ∧ depR cs = (d : Int) := by
  by_cases hl : 1 ≤ cs.length ∧ cs.length ≤ 2000
  · refine ⟨hl.1, hl.2, ?_⟩
    rw [depR, if_pos hl] at h ⊢
    cases hw : W cs cs.length 0 0 with
    | none => rw [hw] at h; simp at h
    | some q =>
      obtain ⟨e, d⟩ := q
      rw [hw] at h
      simp only [] at h ⊢
      by_cases he : e = cs.length
      · rw [if_pos he]; exact ⟨d, by rw [he], rfl⟩
      · rw [if_neg he] at h; omega
  · rw [depR, if_neg hl] at h; omega

/-- The text of a right tree is read as that tree. -/
theorem read_back {cs : List Ct} (h : 0 ≤ depR cs) (hne : writeT cs ≠ []) : readT (txt (writeT cs)) = (cs, 0, 0) := by
  obtain ⟨h1, h2, d, hw, -⟩ := depR_W h
  have hT : writeT cs = Tx cs cs.length 0 ∧ (Tx cs cs.length 0).length ≤ 20000 := by
    unfold writeT at hne ⊢
    by_cases hc : 0 ≤ depR cs ∧ (Tx cs cs.length 0).length ≤ 20000
    · rw [if_pos hc]; exact ⟨rfl, hc.2⟩
    · rw [if_neg hc] at hne; exact absurd rfl hne
  rw [hT.1]
  have hlt := Tx_lt cs cs.length 0
  have hs := txt_size (Tx cs cs.length 0)
  rw [readT, if_neg (by omega)]
  have hat : At (txt (Tx cs cs.length 0)) 0 (Tx cs cs.length 0) := ⟨by omega, fun i hi => by rw [Nat.zero_add]; exact bn_txt _ hlt i hi⟩
  obtain ⟨F', hF, he⟩ := readSub h2 cs.length (cs0 := []) (op := []) (F := (txt (Tx cs cs.length 0)).size + 1) hw (by omega) rfl rfl (fun _ => rfl) hat (.inl (by omega)) (by omega)
  rw [he]
  obtain ⟨F', rfl⟩ : ∃ F1, F' = F1 + 1 := ⟨F' - 1, by omega⟩
  rw [readF_end (by omega), if_neg (by simp)]
  have hseg : bump ([] : List Ct) [] ++ seg cs 0 cs.length = cs := by simp [bump, seg]
  rw [hseg, if_neg (by intro e; rw [e] at h1; simp at h1)]

theorem W_local {cs cs' : List Ct} (f : Nat) : ∀ {q deep e d : Nat}, W cs f q deep = some (e, d) → q < cs.length → (∀ i, q ≤ i → i < e → cs'.getD i (.empty, []) = cs.getD i (.empty, [])) → e ≤ cs'.length → W cs' f q deep = some (e, d) := by
  induction f with
  | zero => intro q deep e d h; simp [W] at h
  | succ f ih =>
    intro q deep e d hw hq hag hlen
    obtain ⟨hdeep, hok, d', hl, hd⟩ := Wsome hw
    have hle := W_le hq hw
    have key : ∀ (ks : List Int) (nx e' d' : Nat), q < nx → nx ≤ cs.length → e' ≤ e → WL cs.length (fun nx => W cs f nx (deep + 1)) ks nx = some (e', d') → WL cs'.length (fun nx => W cs' f nx (deep + 1)) ks nx = some (e', d') ∧ nx ≤ e' := by
      intro ks
      induction ks with
      | nil => intro nx e' d' h1 h2 h3 h; simp [WL] at h; obtain ⟨rfl, rfl⟩ := h; simp [WL]
      | cons k ks ihk =>
        intro nx e' d' h1 h2 h3 h
        obtain ⟨rfl, hlt, nx', d1, d2, hr, hr2, rfl⟩ := WLsome h
        have hle1 := W_le hlt hr
        obtain ⟨h4, h5⟩ := ihk nx' e' d2 (by omega) hle1.2 h3 hr2
        have h6 := ih hr hlt (fun i hi1 hi2 => hag i (by omega) (by omega)) (by omega)
        refine ⟨?_, by omega⟩
        rw [WL, if_neg (by omega), h6]
        simp only []
        rw [h4]
    have hg := hag q (Nat.le_refl _) hle.1
    rw [W, hg, if_neg (by rintro (h | h); omega; rw [hok] at h; cases h)]
    rw [(key _ _ _ _ (by omega) (by omega) (Nat.le_refl _) hl).1, hd]

theorem W_fuel {cs : List Ct} (f : Nat) : ∀ {g q deep e d : Nat}, W cs f q deep = some (e, d) → q < cs.length → cs.length - q ≤ g → W cs g q deep = some (e, d) := by
  induction f with
  | zero => intro g q deep e d h; simp [W] at h
  | succ f ih =>
    intro g q deep e d hw hq hg
    obtain ⟨g, rfl⟩ : ∃ g', g = g' + 1 := ⟨g - 1, by omega⟩
    obtain ⟨hdeep, hok, d', hl, hd⟩ := Wsome hw
    have key : ∀ (ks : List Int) (nx e' d' : Nat), q < nx → WL cs.length (fun nx => W cs f nx (deep + 1)) ks nx = some (e', d') → WL cs.length (fun nx => W cs g nx (deep + 1)) ks nx = some (e', d') := by
      intro ks
      induction ks with
      | nil => intro nx e' d' h1 h; simpa [WL] using h
      | cons k ks ihk =>
        intro nx e' d' h1 h
        obtain ⟨rfl, hlt, nx', d1, d2, hr, hr2, rfl⟩ := WLsome h
        have hle1 := W_le hlt hr
        rw [WL, if_neg (by omega), ih hr hlt (by omega)]
        simp only []
        rw [ihk nx' e' d2 (by omega) hr2]
    rw [W, if_neg (by rintro (h | h); omega; rw [hok] at h; cases h), key _ _ _ _ (by omega) hl, hd]

/-- Kids one behind the other, and one more. -/
theorem WL_snoc {len : Nat} {rec : Nat → Option (Nat × Nat)} {ks : List Int} {nx e d e2 d2 : Nat} (h : WL len rec ks nx = some (e, d)) (he : e < len) (h2 : rec e = some (e2, d2)) : ∃ d3, WL len rec (ks ++ [(e : Int)]) nx = some (e2, d3) := by
  induction ks generalizing nx d with
  | nil =>
    simp [WL] at h
    obtain ⟨rfl, rfl⟩ := h
    refine ⟨max d2 0, ?_⟩
    rw [List.nil_append, WL, if_neg (by omega), h2]
    simp [WL]
  | cons k ks ih =>
    obtain ⟨rfl, hlt, nx', d1, d3, hr, hr2, rfl⟩ := WLsome h
    obtain ⟨d4, h4⟩ := ih hr2
    refine ⟨max d1 d4, ?_⟩
    rw [List.cons_append, WL, if_neg (by omega), hr]
    simp only []
    rw [h4]

/-- The fuel that is always enough. -/
def FU : Nat := 3000

/-- Open lists: the innermost has kids up to a place, and 'more' behind them. -/
def Ch (cs : List Ct) : List Int → List Nat → Nat → Prop
  | _, [], e => e = 0
  | more, u :: r, e => u < e ∧ e ≤ cs.length ∧ r.length ≤ 100 ∧ (∃ ks d, cs.getD u (.empty, []) = (.empty, ks ++ more) ∧ WL cs.length (fun nx => W cs FU nx (r.length + 1)) ks (u + 1) = some (e, d)) ∧ Ch cs [(u : Int)] r u

/-- What a reader holds is right as far as it goes. -/
def PR (cs : List Ct) : List Nat → Prop
  | [] => cs = [] ∨ ∃ d, W cs FU 0 0 = some (cs.length, d)
  | u :: r => Ch cs [] (u :: r) cs.length

theorem WL_local {cs cs' : List Ct} {f deep : Nat} : ∀ {ks : List Int} {nx e d : Nat}, WL cs.length (fun nx => W cs f nx deep) ks nx = some (e, d) → nx ≤ cs.length → (∀ i, nx ≤ i → i < e → cs'.getD i (.empty, []) = cs.getD i (.empty, [])) → e ≤ cs'.length → WL cs'.length (fun nx => W cs' f nx deep) ks nx = some (e, d) ∧ nx ≤ e := by
  intro ks
  induction ks with
  | nil => intro nx e d h h1 h2 h3; simp [WL] at h; obtain ⟨rfl, rfl⟩ := h; simp [WL]
  | cons k ks ihk =>
    intro nx e d h h1 h2 h3
    obtain ⟨rfl, hlt, nx', d1, d2, hr, hr2, rfl⟩ := WLsome h
    have hle1 := W_le hlt hr
    have hmono : nx' ≤ e := (WL_le (fun a b c ha hb => W_le ha hb) hle1.2 hr2).1
    obtain ⟨h4, h5⟩ := ihk hr2 hle1.2 (fun i hi1 hi2 => h2 i (by omega) hi2) h3
    have h6 := W_local f hr hlt (fun i hi1 hi2 => h2 i hi1 (by omega)) (by omega)
    refine ⟨?_, by omega⟩
    rw [WL, if_neg (by omega), h6]
    simp only []
    rw [h4]

/-- Open lists that end below a change stay. -/
theorem Ch_local {cs cs' : List Ct} : ∀ {op : List Nat} {more : List Int} {e : Nat}, Ch cs more op e → (∀ i, i < e → cs'.getD i (.empty, []) = cs.getD i (.empty, [])) → e ≤ cs'.length → Ch cs' more op e := by
  intro op
  induction op with
  | nil => intro more e h _ _; exact h
  | cons u r ih =>
    intro more e h hag hlen
    obtain ⟨h1, h2, h3, ⟨ks, d, h4, h5⟩, h6⟩ := h
    refine ⟨h1, hlen, h3, ⟨ks, d, ?_, ?_⟩, ih h6 (fun i hi => hag i (by omega)) (by omega)⟩
    · rw [hag u h1]; exact h4
    · exact (WL_local h5 (by omega) (fun i _ hi => hag i hi) hlen).1

end Go.Proofs.Yteainbakfeedpaa
