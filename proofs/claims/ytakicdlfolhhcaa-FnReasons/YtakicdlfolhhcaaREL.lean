/- The links whose reasons are told join the two nodes. Nothing of any program. -/
import Derived.Test.YtakicdlfolhhcaaREJ
namespace Go.Proofs.Ytakicdlfolhhcaa
set_option linter.unusedVariables false
set_option linter.unusedSimpArgs false
open Go.RowKit

theorem Wk.cat {ls : List Lk} : ∀ {a b c : Nat} {p q : List Nat}, Wk ls a p b → Wk ls b q c → Wk ls a (p ++ q) c
  | a, b, c, [], q, h, h2 => by
    have e : a = b := h
    rw [e]
    exact h2
  | a, b, c, k :: p, q, h, h2 => by
    obtain ⟨l, hl, h⟩ := h
    refine ⟨l, hl, ?_⟩
    rcases h with ⟨h1, h3⟩ | ⟨h1, h3⟩
    · exact .inl ⟨h1, h3.cat h2⟩
    · exact .inr ⟨h1, h3.cat h2⟩

/-- What is joined has a way. -/
theorem goF_way {n : Nat} {L : Nat → Nat} {ls : List Lk} (h : goF n id ls = some L) : ∀ i j, L i = L j → ∃ p, Wk ls i p j ∧ p.Nodup := by
  have key := goF_all h (fun k L => ∀ i j, L i = L j → ∃ p, Wk ls i p j ∧ p.Nodup ∧ ∀ t ∈ p, t < k ∧ ∀ m : Lk, ls[t]? = some m → L m.1.toNat = L i) (fun i j e => ⟨[], e, by simp, by simp⟩) (by
    intro k l L' hl hgo hok ih i j e
    have hne := (lkOk_iff.1 hok).2.2.2
    by_cases q : L' i = L' j
    · obtain ⟨p, h1, h2, h3⟩ := ih i j q
      exact ⟨p, h1, h2, fun t ht => ⟨by have := (h3 t ht).1; omega, fun m hm => mrg_same ((h3 t ht).2 m hm)⟩⟩
    · have hmin : mrg L' l.1.toNat l.2.1.toNat i = min (L' l.1.toNat) (L' l.2.1.toNat) := by
        by_cases c1 : L' i = L' l.1.toNat ∨ L' i = L' l.2.1.toNat
        · exact (mrg_min i).2 c1
        · by_cases c2 : L' j = L' l.1.toNat ∨ L' j = L' l.2.1.toNat
          · rw [e]; exact (mrg_min j).2 c2
          · rw [mrg_other c1, mrg_other c2] at e
            exact absurd e q
      have c1 := (mrg_min i).1 hmin
      have c2 := (mrg_min j).1 (e ▸ hmin)
      have go : ∀ x y, Ends ls k x y → L' x ≠ L' y → L' i = L' x → L' j = L' y → (mrg L' l.1.toNat l.2.1.toNat x = mrg L' l.1.toNat l.2.1.toNat y) → ∃ p, Wk ls i p j ∧ p.Nodup ∧ ∀ t ∈ p, t < k + 1 ∧ ∀ m : Lk, ls[t]? = some m → mrg L' l.1.toNat l.2.1.toNat m.1.toNat = mrg L' l.1.toNat l.2.1.toNat i := fun x y he hxy hi hj hm => by
        obtain ⟨p1, w1, d1, f1⟩ := ih i x hi
        obtain ⟨p2, w2, d2, f2⟩ := ih y j hj.symm
        refine ⟨p1 ++ k :: p2, w1.cat ?_, ?_, fun t ht => ?_⟩
        · obtain ⟨l2, hl2, he⟩ := he
          refine ⟨l2, hl2, ?_⟩
          rcases he with ⟨e1, e2⟩ | ⟨e1, e2⟩
          · exact .inl ⟨e1, by rw [e2]; exact w2⟩
          · exact .inr ⟨e1, by rw [e2]; exact w2⟩
        · rw [List.nodup_append]
          refine ⟨d1, List.nodup_cons.2 ⟨fun hk => by have := (f2 k hk).1; omega, d2⟩, fun t ht u hu => ?_⟩
          rintro rfl
          rcases List.mem_cons.1 hu with rfl | hu
          · have := (f1 t ht).1; omega
          · obtain ⟨m, hm2⟩ := w1.in t ht
            have q1 := (f1 t ht).2 m hm2
            have q2 := (f2 t hu).2 m hm2
            exact hxy (by rw [← hi, ← q1, q2])
        · rcases List.mem_append.1 ht with ht | ht
          · exact ⟨by have := (f1 t ht).1; omega, fun m hm => mrg_same ((f1 t ht).2 m hm)⟩
          · rcases List.mem_cons.1 ht with rfl | ht
            · refine ⟨by omega, fun m hm2 => ?_⟩
              rw [hl] at hm2
              cases hm2
              rw [hmin]
              exact (mrg_min _).2 (.inl rfl)
            · refine ⟨by have := (f2 t ht).1; omega, fun m hm2 => ?_⟩
              rw [mrg_same ((f2 t ht).2 m hm2), ← hm]
              exact mrg_same hi.symm
      have hab := mrg_ab L' l.1.toNat l.2.1.toNat
      rcases c1 with c1 | c1 <;> rcases c2 with c2 | c2
      · exact absurd (c1.trans c2.symm) q
      · exact go _ _ ⟨l, hl, .inl ⟨rfl, rfl⟩⟩ hne c1 c2 hab
      · exact go _ _ ⟨l, hl, .inr ⟨rfl, rfl⟩⟩ (Ne.symm hne) c1 c2 hab.symm
      · exact absurd (c1.trans c2.symm) q)
  exact fun i j e => by
    obtain ⟨p, h1, h2, -⟩ := key i j e
    exact ⟨p, h1, h2⟩

theorem goF_sub {n : Nat} {L : Nat → Nat} {ls : List Lk} (h : goF n id ls = some L) (P : Lk → Bool) : ∃ L2, goF n id (ls.filter P) = some L2 := by
  have key := goF_all h (fun k L => ∃ L2, goF n id ((ls.take k).filter P) = some L2 ∧ ∀ x y, L2 x = L2 y → L x = L y) ⟨id, rfl, fun x y e => e⟩ (by
    intro k l L' hl hgo hok ⟨L2, h2, hr⟩
    rw [List.take_add_one, hl, List.filter_append]
    simp only [Option.toList, List.filter_cons, List.filter_nil]
    cases hP : P l with
    | false => exact ⟨L2, by simpa using h2, fun x y e => mrg_same (hr x y e)⟩
    | true =>
      obtain ⟨q1, q2, q3, q4⟩ := lkOk_iff.1 hok
      have hok2 : lkOk n L2 l = true := lkOk_iff.2 ⟨q1, q2, q3, fun e => q4 (hr _ _ e)⟩
      refine ⟨mrg L2 l.1.toNat l.2.1.toNat, ?_, fun x y e => ?_⟩
      · rw [goF_append, h2]
        simp [goF, hok2]
      · have up : ∀ v, mrg L2 l.1.toNat l.2.1.toNat v = min (L2 l.1.toNat) (L2 l.2.1.toNat) → mrg L' l.1.toNat l.2.1.toNat v = min (L' l.1.toNat) (L' l.2.1.toNat) := fun v hv => by
          refine (mrg_min v).2 ?_
          rcases (mrg_min v).1 hv with c | c
          · exact .inl (hr _ _ c)
          · exact .inr (hr _ _ c)
        by_cases c : mrg L2 l.1.toNat l.2.1.toNat x = min (L2 l.1.toNat) (L2 l.2.1.toNat)
        · rw [up x c, up y (e ▸ c)]
        · have c2 : ¬ mrg L2 l.1.toNat l.2.1.toNat y = min (L2 l.1.toNat) (L2 l.2.1.toNat) := fun q => c (e.trans q)
          rw [mrg_other (fun q => c ((mrg_min x).2 q)), mrg_other (fun q => c2 ((mrg_min y).2 q))] at e
          exact mrg_same (hr _ _ e))
  obtain ⟨L2, h2, -⟩ := key
  rw [List.take_length] at h2
  exact ⟨L2, h2⟩

theorem Wk.within {ls : List Lk} {L : Nat → Nat} : ∀ {a b : Nat} {p : List Nat}, Wk ls a p b → (∀ i ∈ p, ∀ l : Lk, ls[i]? = some l → L l.1.toNat = L l.2.1.toNat) → L a = L b
  | a, b, [], hp, _ => by rw [show a = b from hp]
  | a, b, k :: p, hp, h => by
    obtain ⟨l, hl, hp⟩ := hp
    have hj := h k (by simp) l hl
    have hr := fun i hi => h i (List.mem_cons_of_mem _ hi)
    rcases hp with ⟨ha, hp⟩ | ⟨ha, hp⟩
    · rw [← ha, hj]; exact hp.within hr
    · rw [← ha, ← hj]; exact hp.within hr

/-- The links whose reasons are told. -/
def lesL (ls : List Lk) (ks : List Int) : List Lk := ls.filter fun l => decide (l.2.2 ∈ ks)

theorem rea_less {z : Int} {ls : List Lk} {a b : Int} {Z : List Int × Bool} (hZ : ReaOk z ls a b Z) (h2 : Z.2 = true) : ∃ r : Nat, rootR z (lesL ls Z.1) a = (r : Int) ∧ rootR z (lesL ls Z.1) b = (r : Int) := by
  by_cases h : ∃ L, forR z ls = some L ∧ (0 ≤ a ∧ a < z) ∧ (0 ≤ b ∧ b < z) ∧ L a.toNat = L b.toNat
  · obtain ⟨L, hf, ha, hb, hL⟩ := h
    have hz : 0 ≤ z ∧ z ≤ 1000 := by
      unfold forR at hf
      split at hf
      · assumption
      · cases hf
    have hg : goF z.toNat id ls = some L := by
      unfold forR at hf
      rw [if_pos hz] at hf
      exact hf
    obtain ⟨p, hw, hd⟩ := goF_way hg _ _ hL
    obtain ⟨-, hp⟩ := hZ.yes L hf ha hb hL
    have hks := hp p (.inl hw) hd
    obtain ⟨L2, hs⟩ := goF_sub hg (fun l => decide (l.2.2 ∈ Z.1))
    have hf2 : forR z (lesL ls Z.1) = some L2 := by
      unfold forR
      rw [if_pos hz]
      exact hs
    have hj : L2 a.toNat = L2 b.toNat := hw.within fun i hi l hl => by
      have hm : l ∈ lesL ls Z.1 := by
        unfold lesL
        rw [List.mem_filter]
        refine ⟨List.mem_of_getElem? hl, decide_eq_true ?_⟩
        rw [← hks]
        refine ((sort_compact (whyL ls p)).2 _).2 ?_
        unfold whyL
        exact List.mem_map.2 ⟨i, hi, by simp [List.getD, hl]⟩
      obtain ⟨j, hj⟩ := List.getElem?_of_mem hm
      exact goF_joins hs j l hj
    refine ⟨L2 a.toNat, ?_, ?_⟩
    · unfold rootR
      rw [hf2]
      simp only []
      rw [if_pos ha]
    · unfold rootR
      rw [hf2]
      simp only []
      rw [if_pos hb, hj]
  · have := hZ.no (fun L hf ha hb hL => h ⟨L, hf, ha, hb, hL⟩)
    rw [this] at h2
    cases h2

end Go.Proofs.Ytakicdlfolhhcaa
