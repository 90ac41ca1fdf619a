/- The bits between two places of a form, segment by segment. -/
import Derived.Test.YtfanddpncipkkaaZFL
import Derived.Test.YtfanddpncipkkaaFPC
namespace Go.Proofs.Ytfanddpncipkkaa
set_option linter.unusedVariables false
set_option linter.unusedSimpArgs false
open Go.RowKit

/-- So many bits of a segment, from its bit p on. -/
def cutS (s : Sc) (p m : Nat) : Sc := if (m : Int) = s.wd then s else if s.v = -1 then ⟨-1, 0, m, m, pack (((bitsTo s.ws s.bw.toNat).drop p).take m)⟩ else ⟨s.v, s.lo + p, m, 0, []⟩
/-- The segments that lie between two places. -/
def betS (lo en : Nat) : Nat → List Sc → List Sc
  | _, [] => []
  | f, s :: t => (if max f lo < min (f + s.wd.toNat) en then [cutS s (max f lo - f) (min (f + s.wd.toNat) en - max f lo)] else []) ++ betS lo en (f + s.wd.toNat) t

theorem cutS_wd (s : Sc) (p m : Nat) : (cutS s p m).wd = m := by
  unfold cutS
  split
  · rename_i h; exact h.symm
  · split <;> rfl
theorem range_drop_take {β : Type} (f : Nat → β) (N p m : Nat) (h : p + m ≤ N) : (((List.range N).map f).drop p).take m = (List.range m).map fun k => f (p + k) := by
  apply List.ext_getElem?
  intro i
  by_cases hi : i < m
  · rw [List.getElem?_take, if_pos hi, List.getElem?_drop]
    simp [hi, show p + i < N by omega]
  · rw [List.getElem?_eq_none (by simp; omega), List.getElem?_eq_none (by simp; omega)]
theorem tb_cut (ws : List Nat) (V p m k : Nat) (h : p + m ≤ V) (hk : k < m) : tb (pack (((bitsTo ws V).drop p).take m)) k = tb ws (p + k) := by
  rw [tb_pack _ (fun x hx => bitsTo_le ws V x (List.mem_of_mem_drop (List.mem_of_mem_take hx))), List.getD, List.getElem?_take, if_pos hk, List.getElem?_drop]
  have := bits_getD3 ws V (p + k) (by omega)
  simp only [List.getD] at this
  rw [this]
  cases tb ws (p + k) <;> rfl
theorem cut_len (ws : List Nat) (V p m : Nat) (h : p + m ≤ V) : (((bitsTo ws V).drop p).take m).length = m := by
  rw [List.length_take, List.length_drop, bitsTo_len]
  omega
theorem cutS_ok {s : Sc} {p m : Nat} (h : okS s) (hm : 1 ≤ m) (hp : (p : Int) + m ≤ s.wd) : okS (cutS s p m) := by
  have h1 := h.2.1
  unfold cutS
  split
  · exact h
  · split
    · rename_i e
      refine ⟨by simp only []; omega, by simp only []; omega, fun y hy => pack_lt _ y hy, .inl ⟨rfl, rfl, rfl, ?_⟩⟩
      have hb : s.bw = s.wd := by
        rcases h.2.2.2 with h9 | h9
        · exact h9.2.2.1
        · omega
      have h8 := cut_len s.ws s.bw.toNat p m (by omega)
      have := pack_right (((bitsTo s.ws s.bw.toNat).drop p).take m) (fun x hx => bitsTo_le _ _ x (List.mem_of_mem_drop (List.mem_of_mem_take hx))) (by omega) (by omega)
      rw [h8] at this
      exact this
    · rename_i e
      have hv : 0 ≤ s.v := by
        rcases h.2.2.2 with h9 | h9
        · exact absurd h9.1 e
        · exact h9.1
      exact ⟨by simp only []; omega, by simp only []; omega, by simp, .inr ⟨hv, rfl, rfl⟩⟩
theorem cutS_lo {s : Sc} {p m : Nat} (h : 0 ≤ s.lo ∧ s.lo + s.wd ≤ 4096) (hm : 1 ≤ m) (hp : (p : Int) + m ≤ s.wd) : 0 ≤ (cutS s p m).lo ∧ (cutS s p m).lo ≤ 4096 := by
  unfold cutS
  split
  · omega
  · split
    · simp
    · simp only []; omega
theorem cutS_P {s : Sc} {p m : Nat} (h : okS s) (hm : 1 ≤ m) (hp : (p : Int) + m ≤ s.wd) : segPs (cutS s p m) m = ((segPs s s.wd.toNat).drop p).take m := by
  have h1 := h.1
  unfold cutS
  split
  · rename_i e
    have e2 : p = 0 := by omega
    subst e2
    rw [List.drop_zero, ← e, Int.toNat_natCast, List.take_of_length_le (by rw [segPs_len]; omega)]
  · split
    · rename_i e
      have hb : s.bw = s.wd := by
        rcases h.2.2.2 with h9 | h9
        · exact h9.2.2.1
        · omega
      rw [segPs_cst rfl, segPs_cst e, range_drop_take _ _ _ _ (by omega)]
      refine List.map_congr_left fun k hk => ?_
      simp only []
      rw [tb_cut _ _ _ _ _ (by omega) (List.mem_range.1 hk)]
    · rename_i e
      have hv : 0 ≤ s.v := by
        rcases h.2.2.2 with h9 | h9
        · exact absurd h9.1 e
        · exact h9.1
      rw [segPs_var (s := ⟨s.v, s.lo + p, m, 0, []⟩) hv, segPs_var hv]
      unfold runL
      rw [range_drop_take _ _ _ _ (by omega)]
      refine List.map_congr_left fun k hk => ?_
      simp only []
      congr 1
      push_cast
      omega

theorem formP_length (l : List Sc) : (formP l).length = (l.map fun s => s.wd.toNat).sum := by
  unfold formP
  rw [List.length_flatMap]
  congr 1
  exact List.map_congr_left fun s _ => segPs_len s _
theorem betS_app (lo en : Nat) : ∀ (a b : List Sc) (f : Nat), betS lo en f (a ++ b) = betS lo en f a ++ betS lo en (f + (formP a).length) b
  | [], b, f => by simp [betS, formP_nil]
  | s :: t, b, f => by
    rw [List.cons_append, betS, betS, betS_app lo en t b, formP_cons, List.length_append, segPs_len, List.append_assoc, Nat.add_assoc]
theorem bet_in {f lo en wd : Nat} (h : max f lo < min (f + wd) en) : 1 ≤ min (f + wd) en - max f lo ∧ max f lo - f + (min (f + wd) en - max f lo) ≤ wd := by omega
theorem betS_mem (lo en : Nat) : ∀ (l : List Sc) (f : Nat) (x : Sc), x ∈ betS lo en f l → ∃ s ∈ l, ∃ p m, 1 ≤ m ∧ p + m ≤ s.wd.toNat ∧ x = cutS s p m
  | [], f, x, h => by simp [betS] at h
  | s :: t, f, x, h => by
    rw [betS] at h
    rcases List.mem_append.1 h with h | h
    · split at h
      · rename_i hc
        have := bet_in hc
        exact ⟨s, by simp, _, _, this.1, this.2, List.mem_singleton.1 h⟩
      · cases h
    · obtain ⟨s', hs', r⟩ := betS_mem lo en t _ x h
      exact ⟨s', List.mem_cons_of_mem _ hs', r⟩
theorem betS_P (lo en : Nat) : ∀ (l : List Sc) (f : Nat), (∀ s ∈ l, okS s) → formP (betS lo en f l) = ((formP l).take (en - f)).drop (lo - f)
  | [], f, _ => by simp [betS, formP_nil]
  | s :: t, f, h => by
    have hs := h s (by simp)
    have h1 := hs.1
    rw [betS, formP_app, betS_P lo en t _ (fun x hx => h x (by simp [hx])), formP_cons, List.take_append, segPs_len, List.drop_append]
    have e2 : ((formP t).take (en - f - s.wd.toNat)).drop (lo - f - ((segPs s s.wd.toNat).take (en - f)).length) = ((formP t).take (en - (f + s.wd.toNat))).drop (lo - (f + s.wd.toNat)) := by
      rw [List.length_take, segPs_len]
      by_cases e : s.wd.toNat ≤ en - f
      · rw [Nat.min_eq_right e, Nat.sub_sub, Nat.sub_sub]
      · rw [show en - f - s.wd.toNat = 0 by omega, show en - (f + s.wd.toNat) = 0 by omega]
        simp
    rw [e2]
    congr 1
    split
    · rename_i hc
      have hb := bet_in hc
      have h9 := cutS_P (p := max f lo - f) (m := min (f + s.wd.toNat) en - max f lo) hs hb.1 (by omega)
      have h8 : formP [cutS s (max f lo - f) (min (f + s.wd.toNat) en - max f lo)] = segPs (cutS s (max f lo - f) (min (f + s.wd.toNat) en - max f lo)) (min (f + s.wd.toNat) en - max f lo) := by
        simp only [formP, List.flatMap_cons, List.flatMap_nil, List.append_nil, cutS_wd, Int.toNat_natCast]
      rw [h8, h9, List.drop_take, show max f lo - f = lo - f by omega]
      by_cases e : f + s.wd.toNat ≤ en
      · rw [List.take_of_length_le (i := en - f - (lo - f)) (by rw [List.length_drop, segPs_len]; omega), List.take_of_length_le (i := min (f + s.wd.toNat) en - max f lo) (by rw [List.length_drop, segPs_len]; omega)]
      · congr 1
        omega
    · rename_i hc
      rw [formP_nil, List.drop_eq_nil_of_le]
      rw [List.length_take, segPs_len]
      omega
theorem betS_ok {lo en f : Nat} {l : List Sc} (h : ∀ s ∈ l, okS s ∧ 0 ≤ s.lo ∧ s.lo + s.wd ≤ 4096) : ∀ s ∈ betS lo en f l, okS s ∧ 0 ≤ s.lo ∧ s.lo ≤ 4096 := fun x hx => by
  obtain ⟨s, hs, p, m, h1, h2, rfl⟩ := betS_mem lo en l f x hx
  obtain ⟨h3, h4⟩ := h s hs
  have := h3.1
  exact ⟨cutS_ok h3 h1 (by omega), cutS_lo h4 h1 (by omega)⟩
theorem betS_sum {lo en f : Nat} {l : List Sc} (h : ∀ s ∈ l, okS s ∧ 0 ≤ s.lo ∧ s.lo + s.wd ≤ 4096) : sumS (betS lo en f l) ≤ sumS l := by
  have h1 := formP_len (betS lo en f l) (fun s hs => by have := (betS_ok h s hs).1.1; omega)
  have h2 := formP_len l (fun s hs => by have := (h s hs).1.1; omega)
  rw [betS_P lo en l f (fun s hs => (h s hs).1), List.length_drop, List.length_take] at h1
  omega
/-- One segment more. -/
theorem betS_snoc (lo en : Nat) (l : List Sc) {k : Nat} {s : Sc} (h : l[k]? = some s) : betS lo en 0 (l.take (k + 1)) = betS lo en 0 (l.take k) ++ (if max (formP (l.take k)).length lo < min ((formP (l.take k)).length + s.wd.toNat) en then [cutS s (max (formP (l.take k)).length lo - (formP (l.take k)).length) (min ((formP (l.take k)).length + s.wd.toNat) en - max (formP (l.take k)).length lo)] else []) := by
  rw [List.take_add_one, h, Option.toList_some, betS_app, Nat.zero_add, betS, betS, List.append_nil]
theorem betS_pre (lo en : Nat) (l : List Sc) (k : Nat) : betS lo en 0 (l.take k) <+: betS lo en 0 l := by
  have h9 := betS_app lo en (l.take k) (l.drop k) 0
  rw [List.take_append_drop] at h9
  exact ⟨_, h9.symm⟩
theorem sgOk_lo {ds : List Dc} {s : Sc} (hd : dclR ds = true) (h : sgOk ds s = true) : 0 ≤ s.lo ∧ s.lo + s.wd ≤ 4096 := by
  have h9 := sgOk_wdt hd h
  by_cases e : s.v = -1
  · obtain ⟨h1, h2, h3⟩ := sgOk_cst h e
    omega
  · obtain ⟨a, b, c, d, f⟩ := sgOk_vr h e
    have hw : (ds.getD s.v.toNat (.empty, 0)).2 ≤ 4096 := by
      have hl : s.v.toNat < ds.length := by omega
      have := dclR_wd hd (k := s.v.toNat) (List.getElem?_eq_getElem hl)
      simp [List.getD, hl]
      exact this.2
    omega
end Go.Proofs.Ytfanddpncipkkaa
