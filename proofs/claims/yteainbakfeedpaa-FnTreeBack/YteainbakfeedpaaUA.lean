/- Plain facts on the text of a tree. No program in sight. -/
import Derived.Test.YteainbakfeedpaaTM
namespace Go.Proofs.Yteainbakfeedpaa
set_option linter.unusedVariables false
set_option linter.unusedSimpArgs false
open Go.RowKit

/-- The bytes of a text as numbers. -/
def bl (s : ByteArray) : List Nat := s.data.toList.map UInt8.toNat
def txt (l : List Nat) : ByteArray := ⟨(l.map UInt8.ofNat).toArray⟩

theorem txt_bl (s : ByteArray) : txt (bl s) = s := by
  apply ByteArray.ext
  apply Array.toList_inj.1
  simp only [txt, bl, List.map_map]
  have : (UInt8.ofNat ∘ UInt8.toNat) = id := by
    funext x
    simp
  rw [this, List.map_id]
theorem bl_len (s : ByteArray) : (bl s).length = s.size := by simp [bl]
theorem bl_lt (s : ByteArray) : ∀ x ∈ bl s, x < 256 := by
  intro x hx
  obtain ⟨y, -, rfl⟩ := List.mem_map.1 hx
  exact UInt8.toNat_lt y

/-- The texts of some kids, a blank ahead of each but the first one. -/
def TxR (rec : Nat → List Nat) : Bool → List Int → List Nat
  | _, [] => []
  | first, k :: ks => (if first then [] else [32]) ++ (rec k.toNat ++ TxR rec false ks)

/-- The text of a node. -/
def Tx (cs : List Ct) : Nat → Nat → List Nat
  | 0, _ => []
  | f + 1, p => if (cs.getD p (.empty, [])).1.size = 0 then [40] ++ (TxR (Tx cs f) true (cs.getD p (.empty, [])).2 ++ [41]) else bl (cs.getD p (.empty, [])).1

/-- How much of a text a node takes. -/
def wl (n : Ct) : Nat := if n.1.size = 0 then 2 + (n.2.length - 1) else n.1.size

def sumTo (cs : List Ct) : Nat → Nat
  | 0 => 0
  | n + 1 => sumTo cs n + wl (cs.getD n (.empty, []))

theorem sumTo_le (cs : List Ct) (h : ∀ n ∈ cs, n.1.size ≤ 1048576 ∧ n.2.length ≤ 1048576) (k : Nat) : sumTo cs k ≤ k * 1048578 := by
  induction k with
  | zero => simp [sumTo]
  | succ k ih =>
    rw [sumTo]
    have : wl (cs.getD k (.empty, [])) ≤ 1048578 := by
      have hx : (cs.getD k (.empty, [])).1.size ≤ 1048576 ∧ (cs.getD k (.empty, [])).2.length ≤ 1048576 := by
        by_cases hk : k < cs.length
        · rw [show cs.getD k (.empty, []) = cs[k] by simp [List.getD, hk]]
          exact h _ (List.getElem_mem hk)
        · rw [show cs.getD k (.empty, []) = (.empty, []) by simp [List.getD, hk]]
          exact ⟨by decide, by simp⟩
      unfold wl
      split <;> omega
    omega

theorem WLsome {len : Nat} {rec : Nat → Option (Nat × Nat)} {k : Int} {ks : List Int} {nx e d : Nat} (h : WL len rec (k :: ks) nx = some (e, d)) :
    k = (nx : Int) ∧ nx < len ∧ ∃ nx' d1 d2, rec nx = some (nx', d1) ∧ WL len rec ks nx' = some (e, d2) ∧ d = max d1 d2 := by
  rw [WL] at h
  split at h
  · cases h
  · rename_i hc
    cases hr : rec nx with
    | none => rw [hr] at h; cases h
    | some q =>
      obtain ⟨nx', d1⟩ := q
      rw [hr] at h
      cases hl : WL len rec ks nx' with
      | none => simp [hl] at h
      | some q2 =>
        obtain ⟨e2, d2⟩ := q2
        simp [hl] at h
        obtain ⟨rfl, rfl⟩ := h
        refine ⟨?_, by omega, nx', d1, d2, rfl, hl, rfl⟩
        by_cases hk : k = (nx : Int)
        · exact hk
        · exact absurd (.inl hk) hc

theorem Wsome {cs : List Ct} {f p deep e d : Nat} (h : W cs (f + 1) p deep = some (e, d)) :
    deep ≤ 100 ∧ okC (cs.getD p (.empty, [])) = true ∧ ∃ d', WL cs.length (fun nx => W cs f nx (deep + 1)) (cs.getD p (.empty, [])).2 (p + 1) = some (e, d') ∧ d = if (cs.getD p (.empty, [])).1.size = 0 then d' + 1 else 0 := by
  rw [W] at h
  split at h
  · cases h
  · rename_i hc
    cases hl : WL cs.length (fun nx => W cs f nx (deep + 1)) (cs.getD p (.empty, [])).2 (p + 1) with
    | none => rw [hl] at h; cases h
    | some q =>
      obtain ⟨e2, d2⟩ := q
      rw [hl] at h
      simp only [Option.some.injEq, Prod.mk.injEq] at h
      obtain ⟨rfl, rfl⟩ := h
      refine ⟨by omega, ?_, d2, rfl, rfl⟩
      cases ho : okC (cs.getD p (.empty, [])) with
      | true => rfl
      | false => exact absurd (.inr ho) hc

theorem okC_kids {n : Ct} (h : okC n = true) (hz : n.1.size ≠ 0) : n.2 = [] ∧ allAtom n.1 = true := by
  simp [okC, hz] at h
  exact ⟨h.2, h.1⟩

theorem Tx_len {cs : List Ct} {f : Nat} : ∀ {p deep e d : Nat}, p < cs.length → W cs f p deep = some (e, d) → sumTo cs p + (Tx cs f p).length = sumTo cs e := by
  induction f with
  | zero => intro p deep e d hp h; simp [W] at h
  | succ f ih =>
    intro p deep e d hp h
    obtain ⟨-, hok, d', hl, -⟩ := Wsome h
    have kids : ∀ (ks : List Int) (nx e d' : Nat) (first : Bool), WL cs.length (fun nx => W cs f nx (deep + 1)) ks nx = some (e, d') →
        sumTo cs nx + (TxR (Tx cs f) first ks).length = sumTo cs e + (if first then ks.length - 1 else ks.length) := by
      intro ks
      induction ks with
      | nil => intro nx e d' first h; simp [WL] at h; obtain ⟨rfl, -⟩ := h; simp [TxR]
      | cons k ks ihk =>
        intro nx e d' first h
        obtain ⟨rfl, hnl, nx', d1, d2, h1, h2, -⟩ := WLsome h
        have a1 := ih hnl h1
        have a2 := ihk nx' e d2 false h2
        rw [TxR]
        simp only [Int.toNat_natCast, List.length_append]
        cases first <;> simp at a2 ⊢ <;> omega
    rw [Tx]
    have hs : sumTo cs (p + 1) = sumTo cs p + wl (cs.getD p (.empty, [])) := rfl
    generalize cs.getD p (.empty, []) = n at *
    by_cases hz : n.1.size = 0
    · rw [if_pos hz]
      have := kids _ _ _ _ true hl
      rw [hs, wl, if_pos hz] at this
      simp only [List.length_append, if_true, List.length_cons, List.length_nil] at this ⊢
      omega
    · obtain ⟨hk, -⟩ := okC_kids hok hz
      rw [hk] at hl
      simp [WL] at hl
      obtain ⟨rfl, -⟩ := hl
      rw [if_neg hz, hs, wl, if_neg hz, bl_len]

/-- What is written of a tree. -/
def writeT (cs : List Ct) : List Nat := if 0 ≤ depR cs ∧ (Tx cs cs.length 0).length ≤ 20000 then Tx cs cs.length 0 else []

theorem TxR_lt {rec : Nat → List Nat} (h : ∀ k, ∀ x ∈ rec k, x < 256) : ∀ (first : Bool) (ks : List Int), ∀ x ∈ TxR rec first ks, x < 256 := by
  intro first ks
  induction ks generalizing first with
  | nil => intro x hx; simp [TxR] at hx
  | cons k ks ih =>
    intro x hx
    rw [TxR] at hx
    rcases List.mem_append.1 hx with hx | hx
    · cases first <;> simp at hx; omega
    · rcases List.mem_append.1 hx with hx | hx
      · exact h _ x hx
      · exact ih false x hx
theorem Tx_lt (cs : List Ct) (f p : Nat) : ∀ x ∈ Tx cs f p, x < 256 := by
  induction f generalizing p with
  | zero => intro x hx; simp [Tx] at hx
  | succ f ih =>
    intro x hx
    rw [Tx] at hx
    split at hx
    · rcases List.mem_append.1 hx with hx | hx
      · simp at hx; omega
      · rcases List.mem_append.1 hx with hx | hx
        · exact TxR_lt ih _ _ x hx
        · simp at hx; omega
    · exact bl_lt _ x hx

/-- What a text is put behind: the whole of it, or more than enough. -/
def TxOk (out t R : List Nat) : Prop := R.length ≤ out.length + t.length ∧ (∀ x ∈ out, x < 256) ∧ (∀ x ∈ R, x < 256) ∧ (R = out ++ t ∨ (20000 < R.length ∧ 20000 < out.length + t.length))

end Go.Proofs.Yteainbakfeedpaa
