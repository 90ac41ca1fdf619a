/- handsOver. -/
import Derived.Test.YtmfamdonbgmjbaaDoorUNL
namespace Go.Proofs.YtmfamdonbgmjbaaDoor
set_option linter.unusedVariables false
set_option linter.unusedSimpArgs false
open Go.RowKit

theorem eyV_at {l : List (Nat × Nat)} {p : Nat} {e : Nat × Nat} (h : l[p]? = some e) : (eyV l)[p * 2]? = some (.int .i64 (e.1 : Int)) ∧ (eyV l)[p * 2 + 1]? = some (.int .i64 (e.2 : Int)) := by
  unfold eyV
  simp only [List.getElem?_toArray]
  induction l generalizing p with
  | nil => simp at h
  | cons a t ih =>
    cases p with
    | zero => simp at h; subst h; simp
    | succ p =>
      simp at h
      obtain ⟨h1, h2⟩ := ih h
      rw [List.flatMap_cons]
      constructor
      · rw [show (p + 1) * 2 = 2 + p * 2 by omega, List.getElem?_append_right (by simp)]
        simpa using h1
      · rw [show (p + 1) * 2 + 1 = 2 + (p * 2 + 1) by omega, List.getElem?_append_right (by simp)]
        simpa using h2
theorem eyV_len (l : List (Nat × Nat)) : (eyV l).size = l.length * 2 := by
  unfold eyV
  rw [List.size_toArray]
  induction l with
  | nil => rfl
  | cons a t ih => rw [List.flatMap_cons, List.length_append, ih, List.length_cons]; simp; omega
theorem eyV_set0 {l : List (Nat × Nat)} {p : Nat} {e : Nat × Nat} (h : l[p]? = some e) (i : Nat) : (eyV l).setIfInBounds (p * 2) (.int .i64 (i : Int)) = eyV (l.set p (i, e.2)) := by
  unfold eyV
  rw [List.setIfInBounds_toArray]
  congr 1
  induction l generalizing p with
  | nil => simp at h
  | cons a t ih =>
    cases p with
    | zero => simp at h; subst h; simp
    | succ p =>
      simp at h
      rw [List.set_cons_succ, List.flatMap_cons, List.flatMap_cons, ← ih h, show (p + 1) * 2 = 2 + p * 2 by omega, List.set_append_right _ _ (by simp)]
      simp
theorem eyV_set1 {l : List (Nat × Nat)} {p : Nat} {e : Nat × Nat} (h : l[p]? = some e) (i : Nat) : (eyV l).setIfInBounds (p * 2 + 1) (.int .i64 (i : Int)) = eyV (l.set p (e.1, i)) := by
  unfold eyV
  rw [List.setIfInBounds_toArray]
  congr 1
  induction l generalizing p with
  | nil => simp at h
  | cons a t ih =>
    cases p with
    | zero => simp at h; subst h; simp
    | succ p =>
      simp at h
      rw [List.set_cons_succ, List.flatMap_cons, List.flatMap_cons, ← ih h, show (p + 1) * 2 + 1 = 2 + (p * 2 + 1) by omega, List.set_append_right _ _ (by simp)]
      simp
/-- Round a clause from an eye on: all others are met. -/
theorem round_all {n e i : Nat} (he : e < n) (hi : i < n) (hne : i ≠ e) : ∃ s, 1 ≤ s ∧ s ≤ n - 1 ∧ (e + s) % n = i := by
  by_cases h : e < i
  · exact ⟨i - e, by omega, by omega, by rw [show e + (i - e) = i by omega, Nat.mod_eq_of_lt hi]⟩
  · exact ⟨n - e + i, by omega, by omega, by rw [show e + (n - e + i) = n + i by omega, Nat.add_mod_left, Nat.mod_eq_of_lt hi]⟩

theorem bzNe {u : World} {a b : Nat} {cs ds : Array Value} {t t' : TypeId} (h : Bz u a cs t) (h' : Bz u b ds t') (ht : t ≠ t') : a ≠ b := fun e => by
  subst e
  have := h.symm.trans h'
  simp at this
  exact ht this.2
theorem OI.notBz {u : World} {B b : Nat} {v : Value} {l : List Int} {cs : Array Value} {t : TypeId} (h : OI u B v l) (hb : Bz u b cs t) (ht : t ≠ 2) {g : Nat} (hg : v.ownBlock = some g) : g ≠ b := by
  rcases h.2 with ⟨rfl, -⟩ | ⟨g', cap, cur, rfl, -, hh, -⟩
  · cases hg
  · cases hg
    exact bzNe hh hb (fun e => ht e.symm)
theorem OJ.notBz {u : World} {B b : Nat} {v : Value} {l : List Int} {cs : Array Value} {t : TypeId} (h : OJ u B v l) (hb : Bz u b cs t) (ht : t ≠ 3) {g : Nat} (hg : v.ownBlock = some g) : g ≠ b := by
  rcases h.2 with ⟨rfl, -⟩ | ⟨g', cap, cur, rfl, -, hh, -⟩
  · cases hg
  · cases hg
    exact bzNe hh hb (fun e => ht e.symm)
theorem OI.notJ {u : World} {B B' : Nat} {v v' : Value} {l l' : List Int} (h : OI u B v l) (h' : OJ u B' v' l') {g : Nat} (hg : v.ownBlock = some g) : v'.ownBlock ≠ some g := by
  rcases h.2 with ⟨rfl, -⟩ | ⟨g', cap, cur, rfl, -, hh, -⟩
  · cases hg
  · cases hg
    intro e
    exact h'.notBz (b := g') (cs := cur) (t := 2) hh (by decide) e rfl
/-- More is due. -/
theorem Wm.duAt {u u' : World} {B : Nat} {M : Wb} {S N : Nat} {ca : Option Addr} {nc cc : Nat} {tv : Value} {eyl : List (Nat × Nat)} {rows : List (Value × List Nat)} {T : List Int} {ws ws' : List Nat} (h : Wm u B M S N ca nc cc tv eyl rows T ws) (ho : Ob M.du u u') (hd : Bz u' M.du (wsV ws') 108) (hl : ws'.length = ws.length) (hw : ∀ i, ws'.getD i 0 < 18446744073709551616) : Wm u' B M S N ca nc cc tv eyl rows T ws' := by
  refine ⟨?_, ho.bz h.ey (bzNe h.ey h.du (by decide)), ho.bz h.wt (bzNe h.wt h.du (by decide)), ho.bz h.st (bzNe h.st h.du (by decide)), hd, ?_, ?_, h.ap, h.lo, h.ne, h.nr, hw, h.sz, fun x hx => ⟨ho.bz (h.xx x hx).1 (bzNe (h.xx x hx).1 h.du (h.xx x hx).2.2.2.2.2.1), (h.xx x hx).2⟩⟩
  · rw [hl]; exact ho.bz h.bx (bzNe h.bx h.du (by decide))
  · exact h.tr.move fun b hb => ho.2.2.2.2 b (h.tr.lt hb).2 (h.tr.notBz h.du (by decide) hb)
  · exact fun k r hk => (h.rw k r hk).move fun b hb => ho.2.2.2.2 b ((h.rw k r hk).lt hb).2 ((h.rw k r hk).notBz h.du (by decide) hb)
/-- An eye moves. -/
theorem Wm.eyAt {u u' : World} {B : Nat} {M : Wb} {S N : Nat} {ca : Option Addr} {nc cc : Nat} {tv : Value} {eyl eyl' : List (Nat × Nat)} {rows : List (Value × List Nat)} {T : List Int} {ws : List Nat} (h : Wm u B M S N ca nc cc tv eyl rows T ws) (ho : Ob M.ey u u') (hd : Bz u' M.ey (eyV eyl') 96) (hl : eyl'.length = eyl.length) : Wm u' B M S N ca nc cc tv eyl' rows T ws := by
  refine ⟨ho.bz h.bx (bzNe h.bx h.ey (by decide)), hd, ho.bz h.wt (bzNe h.wt h.ey (by decide)), ho.bz h.st (bzNe h.st h.ey (by decide)), ho.bz h.du (bzNe h.du h.ey (by decide)), ?_, ?_, h.ap, h.lo, hl.trans h.ne, h.nr, h.wl, h.sz, fun x hx => ⟨ho.bz (h.xx x hx).1 (bzNe (h.xx x hx).1 h.ey (h.xx x hx).2.2.1), (h.xx x hx).2⟩⟩
  · exact h.tr.move fun b hb => ho.2.2.2.2 b (h.tr.lt hb).2 (h.tr.notBz h.ey (by decide) hb)
  · exact fun k r hk => (h.rw k r hk).move fun b hb => ho.2.2.2.2 b ((h.rw k r hk).lt hb).2 ((h.rw k r hk).notBz h.ey (by decide) hb)
theorem gBz {u u' : World} {b : Nat} {cs : Array Value} {t : TypeId} {row : Option Nat} (h : Bz u b cs t) (hg : u.grownBy u' row) (hn : ∀ g, row = some g → g ≠ b) : Bz u' b cs t := by
  refine (hg.block b h.lt (fun e => ?_)).trans h
  exact hn b e.symm rfl
/-- A row gets a place more. -/
theorem Wm.rowAt {u u' : World} {B : Nat} {M : Wb} {S N : Nat} {ca : Option Addr} {nc cc : Nat} {tv v' : Value} {eyl : List (Nat × Nat)} {rows : List (Value × List Nat)} {T : List Int} {ws : List Nat} (h : Wm u B M S N ca nc cc tv eyl rows T ws) {j p : Nat} {r : Value × List Nat} (hr : rows[j]? = some r) (hB : B ≤ u.heap.size) (ho : OJ u' B v' ((r.2 ++ [p]).map fun (q : Nat) => (q : Int))) (hg : u.grownBy u' r.1.ownBlock) (hv : v'.ownBlock = r.1.ownBlock ∨ v'.ownBlock = some u.heap.size) :
    Wm (u'.setCell ⟨M.wt, j, none⟩ v') B M S N ca nc cc tv eyl (rows.set j (v', r.2 ++ [p])) T ws := by
  have hj := h.rw j r hr
  have b1 : Bz u' M.bx _ _ := gBz h.bx hg fun g e => hj.notBz h.bx (by decide) e
  have b2 : Bz u' M.ey _ _ := gBz h.ey hg fun g e => hj.notBz h.ey (by decide) e
  have b3 : Bz u' M.wt _ _ := gBz h.wt hg fun g e => hj.notBz h.wt (by decide) e
  have b4 : Bz u' M.st _ _ := gBz h.st hg fun g e => hj.notBz h.st (by decide) e
  have b5 : Bz u' M.du _ _ := gBz h.du hg fun g e => hj.notBz h.du (by decide) e
  have b6 : OI u' B tv T := h.tr.move fun b hb => hg.block b (h.tr.lt hb).2 (fun e => h.tr.notJ hj hb e.symm)
  have os : Ob M.wt u' (u'.setCell ⟨M.wt, j, none⟩ v') := Ob.set u' v'
  have hne : v'.ownBlock ≠ some M.wt := fun e => ho.notBz b3 (by decide) e rfl
  refine ⟨os.bz b1 (bzNe h.bx h.wt (by decide)), os.bz b2 (bzNe h.ey h.wt (by decide)), ?_, os.bz b4 (bzNe h.st h.wt (by decide)), os.bz b5 (bzNe h.du h.wt (by decide)), ?_, ?_, ?_, h.lo, h.ne, by rw [List.length_set]; exact h.nr, h.wl, h.sz, fun x hx => ⟨os.bz (gBz (h.xx x hx).1 hg fun g e => hj.notBz (h.xx x hx).1 (h.xx x hx).2.2.2.2.2.2.2 e) (bzNe (h.xx x hx).1 h.wt (h.xx x hx).2.2.2.1), (h.xx x hx).2⟩⟩
  · have := b3.set j v'
    rw [List.setIfInBounds_toArray, ← List.map_set (f := Prod.fst) (a := (v', r.2 ++ [p]))] at this
    exact this
  · exact b6.move fun b hb => os.2.2.2.2 b (b6.lt hb).2 (b6.notBz b3 (by decide) hb)
  · intro k s hk
    by_cases e : j = k
    · subst e
      rw [List.getElem?_set_self (List.getElem?_eq_some_iff.1 hr).1] at hk
      obtain rfl := Option.some.inj hk
      exact ho.move fun b hb => os.2.2.2.2 b (ho.lt hb).2 (ho.notBz b3 (by decide) hb)
    · rw [List.getElem?_set_ne e] at hk
      have h1 := h.rw k s hk
      have h2 : OJ u' B s.1 _ := h1.move fun b hb => hg.block b (h1.lt hb).2 (fun e2 => e (h.ap j k r s b hr hk e2.symm hb))
      exact h2.move fun b hb => os.2.2.2.2 b (h2.lt hb).2 (h2.notBz b3 (by decide) hb)
  · intro k k' s s' b hk hk' hb hb'
    by_cases e : j = k
    · by_cases e' : j = k'
      · exact e.symm.trans e'
      · exfalso
        subst e
        rw [List.getElem?_set_self (List.getElem?_eq_some_iff.1 hr).1] at hk
        obtain rfl := Option.some.inj hk
        rw [List.getElem?_set_ne e'] at hk'
        simp only [] at hb
        rcases hv with h1 | h1
        · rw [h1] at hb
          exact e' (h.ap j k' r s' b hr hk' hb hb')
        · rw [h1] at hb
          cases hb
          have := ((h.rw k' s' hk').lt hb').2
          omega
    · rw [List.getElem?_set_ne e] at hk
      by_cases e' : j = k'
      · exfalso
        subst e'
        rw [List.getElem?_set_self (List.getElem?_eq_some_iff.1 hr).1] at hk'
        obtain rfl := Option.some.inj hk'
        simp only [] at hb'
        rcases hv with h1 | h1
        · rw [h1] at hb'
          exact e (h.ap j k r s b hr hk hb' hb)
        · rw [h1] at hb'
          cases hb'
          have := ((h.rw k s hk).lt hb).2
          omega
      · rw [List.getElem?_set_ne e'] at hk'
        exact h.ap k k' s s' b hk hk' hb hb'

/-- What handsOver leaves. -/
def RetHn (w u : World) (M : Wb) (S N : Nat) (ca : Option Addr) (nc cc : Nat) (tv : Value) (eyl : List (Nat × Nat)) (rows : List (Value × List Nat)) (T : List Int) (ws : List Nat) (cl : List Int) (p : Nat) (m : Int) (e0 e1 : Nat) (e : Ending) (w' : World) : Prop :=
  ∃ f eyl' rows' ws', e = .returned (.bool f) ∧ Wm w' w.heap.size M S N ca nc cc tv eyl' rows' T ws' ∧ Below w.heap.size u w' ∧
    ((f = false ∧ eyl' = eyl ∧ rows' = rows ∧ ws' = ws ∧ metB T cl = true) ∨
     (f = false ∧ eyl' = eyl ∧ rows' = rows ∧ ws'.length = ws.length ∧ (∀ q, plB ws' q = (plB ws q || decide (q = p))) ∧ (opn T cl).length ≤ 1) ∨
     (f = true ∧ ws' = ws ∧ ∃ (i : Nat) (k : Int) (j : Nat) (r : Value × List Nat) (v' : Value), cl[i]? = some k ∧ -k ∉ T ∧ (S : Int) + k = (j : Int) ∧ rows[j]? = some r ∧ rows' = rows.set j (v', r.2 ++ [p]) ∧
       ((cl[e0]? = some m ∧ i ≠ e1 ∧ eyl' = eyl.set p (i, e1)) ∨ (cl[e1]? = some m ∧ i ≠ e0 ∧ eyl' = eyl.set p (e0, i)))))
end Go.Proofs.YtmfamdonbgmjbaaDoor
