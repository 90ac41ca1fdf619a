/- Plain facts: the text of a right tree is read as that tree. No program in sight. -/
import Derived.Test.YteainbakfeedpaaVA
namespace Go.Proofs.Yteainbakfeedpaa
set_option linter.unusedVariables false
set_option linter.unusedSimpArgs false
open Go.RowKit

/-- The bytes l stand at a place of a text. -/
def At (s : ByteArray) (p : Nat) (l : List Nat) : Prop := p + l.length ≤ s.size ∧ ∀ i, i < l.length → bn s (p + i) = l.getD i 0

theorem At.left {s : ByteArray} {p : Nat} {l m : List Nat} (h : At s p (l ++ m)) : At s p l := by
  refine ⟨by have := h.1; simp at this; omega, fun i hi => ?_⟩
  rw [h.2 i (by simp; omega)]
  simp [List.getD, List.getElem?_append_left hi]
theorem At.right {s : ByteArray} {p : Nat} {l m : List Nat} (h : At s p (l ++ m)) : At s (p + l.length) m := by
  refine ⟨by have := h.1; simp at this; omega, fun i hi => ?_⟩
  have := h.2 (l.length + i) (by simp; omega)
  rw [← Nat.add_assoc] at this
  rw [this]
  simp [List.getD, List.getElem?_append_right]
theorem At.head {s : ByteArray} {p c : Nat} {l : List Nat} (h : At s p (c :: l)) : p < s.size ∧ bn s p = c ∧ At s (p + 1) l := by
  have h1 := h.1
  simp at h1
  refine ⟨by omega, by have := h.2 0 (by simp); simpa using this, ?_⟩
  have : At s p ([c] ++ l) := h
  simpa using this.right

/-- Nothing of an atom stands at a place. -/
def Stops (s : ByteArray) (p : Nat) : Prop := p = s.size ∨ (p < s.size ∧ atomB (bn s p) = false)

theorem bn_bl (t : ByteArray) (i : Nat) (hi : i < t.size) : (bl t).getD i 0 = bn t i := by
  unfold bl bn
  rw [dif_pos hi]
  have hi' : i < t.data.size := hi
  simp only [List.getD, List.getElem?_map, Array.getElem?_toList, Array.getElem?_eq_getElem hi', Option.map_some, Option.getD_some]
  rfl

theorem run_atom {s t : ByteArray} {p : Nat} (h : At s p (bl t)) (ha : allAtom t = true) (hs : Stops s (p + t.size)) : runE atomB s (s.size - p) p = p + t.size := by
  rw [allAtom_iff] at ha
  have hl := h.1
  rw [bl_len] at hl
  have key : ∀ n j, j + n = t.size → runE atomB s (s.size - (p + j)) (p + j) = p + t.size := by
    intro n
    induction n with
    | zero =>
      intro j hj
      have e : p + j = p + t.size := by omega
      rw [e]
      rcases hs with hs | ⟨hs, hb⟩
      · rw [hs, Nat.sub_self, runE]
      · rw [show s.size - (p + t.size) = (s.size - (p + t.size) - 1) + 1 by omega, runE, if_neg (by rw [hb]; simp)]
    | succ n ih =>
      intro j hj
      have hb : bn s (p + j) = bn t j := by rw [h.2 j (by rw [bl_len]; omega), bn_bl t j (by omega)]
      rw [show s.size - (p + j) = (s.size - (p + (j + 1))) + 1 by omega, runE, if_pos (by rw [hb]; exact ha j (by omega))]
      have := ih (j + 1) (by omega)
      rwa [← Nat.add_assoc] at this
  have := key t.size 0 (by omega)
  simpa using this

theorem extract_at {s t : ByteArray} {p : Nat} (h : At s p (bl t)) : s.extract p (p + t.size) = t := by
  have hl := h.1
  rw [bl_len] at hl
  have hsz := extract_size s p (p + t.size) hl
  apply ByteArray.ext
  apply Array.ext
  · show (s.extract p (p + t.size)).size = t.size
    omega
  · intro i h1 h2
    have hi : i < t.size := h2
    have e1 : bn (s.extract p (p + t.size)) i = bn t i := by
      have hx : bn (s.extract p (p + t.size)) i = bn s (p + i) := by
        unfold bn
        rw [dif_pos (by omega), dif_pos (by omega), ByteArray.getElem_extract]
      rw [hx, h.2 i (by rw [bl_len]; exact hi), bn_bl t i hi]
    unfold bn at e1
    rw [dif_pos (by omega), dif_pos hi] at e1
    exact UInt8.toNat_inj.1 e1

/-- Some nodes in a row. -/
def seg (cs : List Ct) (q e : Nat) : List Ct := (cs.drop q).take (e - q)
theorem seg_len {cs : List Ct} {q e : Nat} (h : e ≤ cs.length) (hq : q ≤ e) : (seg cs q e).length = e - q := by simp [seg]; omega
theorem seg_one {cs : List Ct} {q e : Nat} (h : q < cs.length) (he : q < e) : seg cs q e = cs.getD q (.empty, []) :: seg cs (q + 1) e := by
  unfold seg
  rw [List.drop_eq_getElem_cons h, show e - q = (e - (q + 1)) + 1 by omega, List.take_succ_cons]
  simp [List.getD, h]
theorem seg_join {cs : List Ct} {q m e : Nat} (h1 : q ≤ m) (h2 : m ≤ e) : seg cs q m ++ seg cs m e = seg cs q e := by
  unfold seg
  rw [show e - q = (m - q) + (e - m) by omega, List.take_add, List.drop_drop, show q + (m - q) = m by omega]
theorem seg_nil (cs : List Ct) (q : Nat) : seg cs q q = [] := by simp [seg]

/-- The innermost open list has one kid more. -/
def bump (cs0 : List Ct) : List Nat → List Ct
  | [] => cs0
  | u :: _ => addKid cs0 u
theorem bump_len (cs0 : List Ct) (op : List Nat) : (bump cs0 op).length = cs0.length := by cases op <;> simp [bump, addKid_len]
theorem putC_bump (cs0 : List Ct) (op : List Nat) (t : ByteArray) : putC cs0 op t = bump cs0 op ++ [(t, [])] := by cases op <;> rfl

theorem addKid_mid (base mid : List Ct) (t : ByteArray) (kd : List Int) : addKid (base ++ [(t, kd)] ++ mid) base.length = base ++ [(t, kd ++ [((base.length + 1 + mid.length : Nat) : Int)])] ++ mid := by
  unfold addKid
  have hg : (base ++ [(t, kd)] ++ mid).getD base.length (.empty, []) = (t, kd) := by simp [List.getD]
  rw [hg]
  have hl : (base ++ [(t, kd)] ++ mid).length = base.length + 1 + mid.length := by simp; omega
  rw [hl, List.append_assoc, List.set_append_right _ _ (Nat.le_refl _), Nat.sub_self]
  simp

theorem begF_no {cs0 : List Ct} {op : List Nat} (h1 : op = [] → cs0 = []) (h2 : op.length ≤ 100) (h3 : cs0.length < 2000) : begF cs0 op = 0 := by
  unfold begF
  rw [if_neg (fun h => h.2 (h1 h.1)), if_neg (by omega), if_neg (by omega)]

theorem TxR_head {rec : Nat → List Nat} (ks : List Int) : ∃ c l, TxR rec false ks ++ [41] = c :: l ∧ atomB c = false := by
  cases ks with
  | nil => exact ⟨41, [], rfl, rfl⟩
  | cons k ks => exact ⟨32, _, rfl, rfl⟩

theorem readSub {cs : List Ct} (hN : cs.length ≤ 2000) {s : ByteArray} (f : Nat) : ∀ {q deep e d p F : Nat} {cs0 : List Ct} {op : List Nat}, W cs f q deep = some (e, d) → q < cs.length → cs0.length = q → op.length = deep → (op = [] → cs0 = []) →
    At s p (Tx cs f q) → Stops s (p + (Tx cs f q).length) → s.size - p < F →
    ∃ F', s.size - (p + (Tx cs f q).length) < F' ∧ readF s F p cs0 op = readF s F' (p + (Tx cs f q).length) (bump cs0 op ++ seg cs q e) op := by
  induction f with
  | zero => intro q deep e d p F cs0 op h; simp [W] at h
  | succ f ih =>
    intro q deep e d p F cs0 op hw hq hc0 hop hroot hat hst hF
    obtain ⟨hdeep, hok, d', hl, -⟩ := Wsome hw
    have hbz := begF_no (cs0 := cs0) (op := op) hroot (by omega) (by omega)
    obtain ⟨F, rfl⟩ : ∃ F', F = F' + 1 := ⟨F - 1, by omega⟩
    have hTx : Tx cs (f + 1) q = if (cs.getD q (.empty, [])).1.size = 0 then [40] ++ (TxR (Tx cs f) true (cs.getD q (.empty, [])).2 ++ [41]) else bl (cs.getD q (.empty, [])).1 := rfl
    obtain ⟨⟨t, ks⟩, hn⟩ : ∃ n, cs.getD q (.empty, []) = n := ⟨_, rfl⟩
    rw [hn] at hTx hok hl
    simp only [] at hTx hl
    by_cases hz : t.size = 0
    · rw [if_pos hz] at hTx
      have hte : t = .empty := ByteArray.ext (Array.eq_empty_of_size_eq_zero hz)
      rw [hTx] at hat hst ⊢
      have hh := At.head (s := s) (p := p) (c := 40) (l := TxR (Tx cs f) true ks ++ [41]) hat
      obtain ⟨hps, hb, hat1⟩ := hh
      have kids : ∀ (ks : List Int) (first : Bool) (nx e' d' p F : Nat) (base mid : List Ct) (kd : List Int), base.length = q → base.length + 1 + mid.length = nx → nx ≤ cs.length →
          WL cs.length (fun nx => W cs f nx (deep + 1)) ks nx = some (e', d') → At s p (TxR (Tx cs f) first ks ++ [41]) → s.size - p < F →
          ∃ F', s.size - (p + (TxR (Tx cs f) first ks).length) < F' ∧ nx ≤ e' ∧ e' ≤ cs.length ∧
            readF s F p (base ++ [(.empty, kd)] ++ mid) (q :: op) = readF s F' (p + (TxR (Tx cs f) first ks).length) (base ++ [(.empty, kd ++ ks)] ++ (mid ++ seg cs nx e')) (q :: op) := by
        intro ks
        induction ks with
        | nil =>
          intro first nx e' d' p F base mid kd hbl hml hnl hw hat hF
          simp [WL] at hw
          obtain ⟨rfl, -⟩ := hw
          exact ⟨F, by simpa [TxR] using hF, Nat.le_refl _, hnl, by simp [TxR, seg_nil]⟩
        | cons k ks ihk =>
          intro first nx e' d' p F base mid kd hbl hml hnl hw hat hF
          obtain ⟨rfl, hlt, nx', d1, d2, h1, h2, -⟩ := WLsome hw
          have hle := W_le (by exact hlt) h1
          -- behind the blank
          have step : ∀ (p F : Nat), At s p (Tx cs f nx ++ (TxR (Tx cs f) false ks ++ [41])) → s.size - p < F →
              ∃ F', s.size - (p + (Tx cs f nx ++ TxR (Tx cs f) false ks).length) < F' ∧ nx ≤ e' ∧ e' ≤ cs.length ∧
                readF s F p (base ++ [(.empty, kd)] ++ mid) (q :: op) = readF s F' (p + (Tx cs f nx ++ TxR (Tx cs f) false ks).length) (base ++ [(.empty, kd ++ ((nx : Int) :: ks))] ++ (mid ++ seg cs nx e')) (q :: op) := by
            intro p F hat hF
            have hst : Stops s (p + (Tx cs f nx).length) := by
              obtain ⟨c, l, hcl, hca⟩ := TxR_head (rec := Tx cs f) ks
              have hr := hat.right
              rw [hcl] at hr
              obtain ⟨h3, h4, -⟩ := hr.head
              exact .inr ⟨h3, by rw [h4]; exact hca⟩
            obtain ⟨F1, hF1, he1⟩ := ih (cs0 := base ++ [(.empty, kd)] ++ mid) (op := q :: op) h1 hlt (by simp; omega) (by simp; omega) (by simp) hat.left hst hF
            have hbm : bump (base ++ [(.empty, kd)] ++ mid) (q :: op) = base ++ [(.empty, kd ++ [(nx : Int)])] ++ mid := by
              show addKid _ q = _
              rw [← hbl, addKid_mid, hml]
            rw [hbm] at he1
            have hsl := seg_len (cs := cs) hle.2 (Nat.le_of_lt hle.1)
            obtain ⟨F2, hF2, hn1, hn2, he2⟩ := ihk false nx' e' d2 (p + (Tx cs f nx).length) F1 base (mid ++ seg cs nx nx') (kd ++ [(nx : Int)]) hbl (by simp [hsl]; omega) hle.2 h2 hat.right hF1
            refine ⟨F2, by simpa [Nat.add_assoc] using hF2, by omega, hn2, ?_⟩
            rw [he1, List.append_assoc (base ++ [(ByteArray.empty, kd ++ [(nx : Int)])]), he2]
            have hj := seg_join (cs := cs) (q := nx) (m := nx') (e := e') (by omega) hn1
            rw [← hj]
            simp [Nat.add_assoc]
          rw [TxR, Int.toNat_natCast] at hat ⊢
          cases first with
          | true =>
            simp only [if_true, List.nil_append] at hat ⊢
            rw [List.append_assoc] at hat
            exact step p F hat hF
          | false =>
            simp only [Bool.false_eq_true, if_false] at hat ⊢
            rw [List.append_assoc, List.append_assoc] at hat
            obtain ⟨h3, h4, h5⟩ := At.head (s := s) (p := p) (c := 32) (l := Tx cs f nx ++ (TxR (Tx cs f) false ks ++ [41])) hat
            obtain ⟨F, rfl⟩ : ∃ F', F = F' + 1 := ⟨F - 1, by omega⟩
            rw [readF_skip h3 (.inl h4)]
            obtain ⟨F2, hF2, hn1, hn2, he2⟩ := step (p + 1) F h5 (by omega)
            have hlen : ([32] ++ (Tx cs f nx ++ TxR (Tx cs f) false ks)).length = (Tx cs f nx ++ TxR (Tx cs f) false ks).length + 1 := by simp
            rw [hlen, show p + ((Tx cs f nx ++ TxR (Tx cs f) false ks).length + 1) = p + 1 + (Tx cs f nx ++ TxR (Tx cs f) false ks).length by omega]
            exact ⟨F2, hF2, hn1, hn2, he2⟩
      rw [readF_open hps hb, if_neg (by omega), putC_bump, hc0]
      obtain ⟨F2, hF2, hn1, hn2, he2⟩ := kids ks true (q + 1) e d' (p + 1) F (bump cs0 op) [] [] (by rw [bump_len, hc0]) (by simp [bump_len, hc0]) (by omega) hl hat1 (by omega)
      rw [List.append_nil] at he2
      rw [he2]
      have hr := hat1.right
      obtain ⟨h3, h4, -⟩ := hr.head
      obtain ⟨F2, rfl⟩ : ∃ F', F2 = F' + 1 := ⟨F2 - 1, by omega⟩
      rw [readF_shut h3 h4]
      have hlen : ([40] ++ (TxR (Tx cs f) true ks ++ [41])).length = (TxR (Tx cs f) true ks).length + 2 := by simp
      rw [hlen]
      refine ⟨F2, by omega, ?_⟩
      show readF s F2 (p + 1 + (TxR (Tx cs f) true ks).length + 1) _ op = _
      rw [show p + 1 + (TxR (Tx cs f) true ks).length + 1 = p + ((TxR (Tx cs f) true ks).length + 2) by omega, seg_one hq (by omega), hn, hte]
      simp
    · obtain ⟨hk, ha⟩ := okC_kids hok hz
      simp only [] at hk ha
      rw [if_neg hz] at hTx
      rw [hTx] at hat hst ⊢
      rw [bl_len] at hst ⊢
      rw [hk] at hl
      simp [WL] at hl
      obtain ⟨rfl, -⟩ := hl
      have hps : p < s.size := by have := hat.1; rw [bl_len] at this; omega
      have hb : atomB (bn s p) = true := by
        have h0 := hat.2 0 (by rw [bl_len]; omega)
        rw [Nat.add_zero, bn_bl t 0 (by omega)] at h0
        rw [h0]
        exact (allAtom_iff t).1 ha 0 (by omega)
      rw [readF_atom hps hb, if_neg (by omega), run_atom hat ha hst, extract_at hat, putC_bump]
      refine ⟨F, by omega, ?_⟩
      rw [seg_one hq (by omega), hn, hk, seg_nil]

end Go.Proofs.Yteainbakfeedpaa
