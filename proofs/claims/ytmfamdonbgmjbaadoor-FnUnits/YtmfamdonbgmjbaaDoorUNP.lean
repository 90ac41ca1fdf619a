/- put: the memory. -/
import Derived.Test.YtmfamdonbgmjbaaDoorUNO
namespace Go.Proofs.YtmfamdonbgmjbaaDoor
set_option linter.unusedVariables false
set_option linter.unusedSimpArgs false
open Go.RowKit

theorem Wm.trLater {u u1 u1' : World} {B : Nat} {M : Wb} {S N : Nat} {ca : Option Addr} {nc cc : Nat} {tv : Value} {eyl : List (Nat × Nat)} {rows : List (Value × List Nat)} {T : List Int} {ws : List Nat} (h : Wm u B M S N ca nc cc tv eyl rows T ws) (ho : Ob M.st u u1) (hu : Below u1.heap.size u1 u1') : OI u1' B tv T :=
  (h.tr.move fun b hb => ho.2.2.2.2 b (h.tr.lt hb).2 (h.tr.notBz h.st (by decide) hb)).later hu
/-- A number more stands: the table, then the trail. -/
theorem Wm.putAt {u u1 u1' u2 : World} {B : Nat} {M : Wb} {S N : Nat} {ca : Option Addr} {nc cc : Nat} {tv tv' : Value} {eyl : List (Nat × Nat)} {rows : List (Value × List Nat)} {T : List Int} {ws : List Nat} {n : Int} (h : Wm u B M S N ca nc cc tv eyl rows T ws) (ho : Ob M.st u u1) (hs : Bz u1 M.st (seL S N (T ++ [n])).toArray 4) (hu : Below u1.heap.size u1 u1') (hot : OI u2 B tv' (T ++ [n])) (hg : u1'.grownBy u2 tv.ownBlock) :
    Wm (u2.setCell ⟨M.bx, 5, none⟩ tv') B M S N ca nc cc tv' eyl rows (T ++ [n]) ws := by
  have tr := h.trLater ho hu
  have s1 : Bz u1' M.st _ _ := hs.later hu
  have x1 : Bz u1' M.bx _ _ := (ho.bz h.bx (bzNe h.bx h.st (by decide))).later hu
  have x2 : Bz u1' M.ey _ _ := (ho.bz h.ey (bzNe h.ey h.st (by decide))).later hu
  have x3 : Bz u1' M.wt _ _ := (ho.bz h.wt (bzNe h.wt h.st (by decide))).later hu
  have x5 : Bz u1' M.du _ _ := (ho.bz h.du (bzNe h.du h.st (by decide))).later hu
  have y1 := gBz x1 hg fun g e => tr.notBz x1 (by decide) e
  have y2 := gBz x2 hg fun g e => tr.notBz x2 (by decide) e
  have y3 := gBz x3 hg fun g e => tr.notBz x3 (by decide) e
  have y4 := gBz s1 hg fun g e => tr.notBz s1 (by decide) e
  have y5 := gBz x5 hg fun g e => tr.notBz x5 (by decide) e
  have os : Ob M.bx u2 (u2.setCell ⟨M.bx, 5, none⟩ tv') := Ob.set u2 tv'
  refine ⟨?_, os.bz y2 (bzNe h.ey h.bx (by decide)), os.bz y3 (bzNe h.wt h.bx (by decide)), os.bz y4 (bzNe h.st h.bx (by decide)), os.bz y5 (bzNe h.du h.bx (by decide)), ?_, ?_, h.ap, h.lo, h.ne, h.nr, h.wl, h.sz, fun x hx => ?_⟩
  · have := y1.set 5 tv'
    exact this
  · exact hot.move fun b hb => os.2.2.2.2 b (hot.lt hb).2 (hot.notBz y1 (by decide) hb)
  · intro k r hk
    have r0 := h.rw k r hk
    have r1 : OJ u1' B r.1 _ := (r0.move fun b hb => ho.2.2.2.2 b (r0.lt hb).2 (r0.notBz h.st (by decide) hb)).later hu
    have r2 : OJ u2 B r.1 _ := r1.move fun b hb => hg.block b (r1.lt hb).2 (fun e => tr.notJ r1 e.symm hb)
    exact r2.move fun b hb => os.2.2.2.2 b (r2.lt hb).2 (r2.notBz y1 (by decide) hb)
  · have z1 : Bz u1' x.1 _ _ := (ho.bz (h.xx x hx).1 (bzNe (h.xx x hx).1 h.st (h.xx x hx).2.2.2.2.1)).later hu
    have z2 := gBz z1 hg fun g e => tr.notBz z1 (h.xx x hx).2.2.2.2.2.2.1 e
    exact ⟨os.bz z2 (bzNe (h.xx x hx).1 h.bx (h.xx x hx).2.1), (h.xx x hx).2⟩
/-- A row is written to in place. -/
theorem Wm.cellAt {u : World} {B : Nat} {M : Wb} {S N : Nat} {ca : Option Addr} {nc cc : Nat} {tv : Value} {eyl : List (Nat × Nat)} {rows : List (Value × List Nat)} {T : List Int} {ws : List Nat} (h : Wm u B M S N ca nc cc tv eyl rows T ws) {k g c i p : Nat} {l : List Nat} (hr : rows[k]? = some (.slice (some ⟨g, 0, none⟩) l.length c, l)) (hi : i < l.length) :
    Wm (u.setCell ⟨g, i, none⟩ (.int .i64 (p : Int))) B M S N ca nc cc tv eyl (rows.set k (.slice (some ⟨g, 0, none⟩) l.length c, l.set i p)) T ws := by
  have hj := h.rw k _ hr
  have os : Ob g u (u.setCell ⟨g, i, none⟩ (.int .i64 (p : Int))) := Ob.set u _
  have hB : (Value.slice (some ⟨g, 0, none⟩) l.length c).ownBlock = some g := rfl
  have e1 : rows.map Prod.fst = (rows.set k (.slice (some ⟨g, 0, none⟩) l.length c, l.set i p)).map Prod.fst := by
    rw [List.map_set]
    apply List.ext_getElem?
    intro q
    rw [List.getElem?_set]
    by_cases e : k = q
    · subst e
      have := (List.getElem?_eq_some_iff.1 hr).1
      rw [if_pos rfl, if_pos (by simpa using this), List.getElem?_map, hr]
      rfl
    · rw [if_neg e]
  refine ⟨os.bz h.bx (hj.notBz h.bx (by decide) hB).symm, os.bz h.ey (hj.notBz h.ey (by decide) hB).symm, ?_, os.bz h.st (hj.notBz h.st (by decide) hB).symm, os.bz h.du (hj.notBz h.du (by decide) hB).symm, ?_, ?_, ?_, h.lo, h.ne, by rw [List.length_set]; exact h.nr, h.wl, h.sz, fun x hx => ⟨os.bz (h.xx x hx).1 (hj.notBz (h.xx x hx).1 (h.xx x hx).2.2.2.2.2.2.2 hB).symm, (h.xx x hx).2⟩⟩
  · rw [← e1]; exact os.bz h.wt (hj.notBz h.wt (by decide) hB).symm
  · exact h.tr.move fun b hb => os.2.2.2.2 b (h.tr.lt hb).2 (fun e => h.tr.notJ hj hb (by rw [e]; exact hB))
  · intro q s hq
    by_cases e : k = q
    · subst e
      rw [List.getElem?_set_self (List.getElem?_eq_some_iff.1 hr).1] at hq
      obtain rfl := Option.some.inj hq
      have := OJ.setO hj (i := i) (by rw [List.length_map]; exact hi) (p : Int)
      rw [List.map_set]
      exact this
    · rw [List.getElem?_set_ne e] at hq
      exact (h.rw q s hq).move fun b hb => os.2.2.2.2 b ((h.rw q s hq).lt hb).2 (fun e2 => e (h.ap k q _ s b hr hq (by rw [e2]; exact hB) hb))
  · intro a a' s s' b ha ha' hb hb'
    have key : ∀ (q : Nat) z, (rows.set k (.slice (some ⟨g, 0, none⟩) l.length c, l.set i p))[q]? = some z → ∃ z', rows[q]? = some z' ∧ z'.1 = z.1 := fun q z hz => by
      by_cases e : k = q
      · subst e
        rw [List.getElem?_set_self (List.getElem?_eq_some_iff.1 hr).1] at hz
        obtain rfl := Option.some.inj hz
        exact ⟨_, hr, rfl⟩
      · rw [List.getElem?_set_ne e] at hz
        exact ⟨z, hz, rfl⟩
    obtain ⟨z, hz, ez⟩ := key a s ha
    obtain ⟨z', hz', ez'⟩ := key a' s' ha'
    exact h.ap a a' z z' b hz hz' (by rw [ez]; exact hb) (by rw [ez']; exact hb')
theorem i64s_take (l : List Int) (i : Nat) : (i64s (l.take i)).toList = (i64s l).toList.take i := by simp [i64s, List.map_take]
/-- The first ones of a row. -/
theorem OJ.first {w : World} {B g n c : Nat} {l : List Int} (h : OJ w B (.slice (some ⟨g, 0, none⟩) n c) l) (i : Nat) (hi : i ≤ l.length) : OJ w B (.slice (some ⟨g, 0, none⟩) i c) (l.take i) := by
  obtain ⟨h1, h2⟩ := h
  rcases h2 with ⟨h2, -⟩ | ⟨g', cap, cur, he, hg, hh, hc1, hc2, hsz, hcur⟩
  · cases h2
  · cases he
    have hl : (l.take i).length = i := by rw [List.length_take]; omega
    unfold OJ
    rw [hl, i64s_take]
    refine ⟨?_, .inr ⟨g, c, cur, rfl, hg, hh, by omega, hc2, hsz, ?_⟩⟩
    · rw [List.length_take, h1]; omega
    · rw [← hcur, List.take_take]
      congr 1
      omega
/-- What is kept of a row takes its place. -/
theorem Wm.keptAt {u : World} {B : Nat} {M : Wb} {S N : Nat} {ca : Option Addr} {nc cc : Nat} {tv : Value} {eyl : List (Nat × Nat)} {rows : List (Value × List Nat)} {T : List Int} {ws : List Nat} (h : Wm u B M S N ca nc cc tv eyl rows T ws) {k g c i : Nat} {l : List Nat} (hr : rows[k]? = some (.slice (some ⟨g, 0, none⟩) l.length c, l)) (hi : i ≤ l.length) (hB : B ≤ u.heap.size) :
    Wm (u.setCell ⟨M.wt, k, none⟩ (.slice (some ⟨g, 0, none⟩) i c)) B M S N ca nc cc tv eyl (rows.set k (.slice (some ⟨g, 0, none⟩) i c, l.take i)) T ws := by
  have hj := h.rw k _ hr
  have os : Ob M.wt u (u.setCell ⟨M.wt, k, none⟩ (.slice (some ⟨g, 0, none⟩) i c)) := Ob.set u _
  refine ⟨os.bz h.bx (bzNe h.bx h.wt (by decide)), os.bz h.ey (bzNe h.ey h.wt (by decide)), ?_, os.bz h.st (bzNe h.st h.wt (by decide)), os.bz h.du (bzNe h.du h.wt (by decide)), ?_, ?_, ?_, h.lo, h.ne, by rw [List.length_set]; exact h.nr, h.wl, h.sz, fun x hx => ⟨os.bz (h.xx x hx).1 (bzNe (h.xx x hx).1 h.wt (h.xx x hx).2.2.2.1), (h.xx x hx).2⟩⟩
  · have := h.wt.set k (.slice (some ⟨g, 0, none⟩) i c)
    rw [List.setIfInBounds_toArray, ← List.map_set (f := Prod.fst) (a := ((.slice (some ⟨g, 0, none⟩) i c : Value), l.take i))] at this
    exact this
  · exact h.tr.move fun b hb => os.2.2.2.2 b (h.tr.lt hb).2 (h.tr.notBz h.wt (by decide) hb)
  · intro q s hq
    by_cases e : k = q
    · subst e
      rw [List.getElem?_set_self (List.getElem?_eq_some_iff.1 hr).1] at hq
      obtain rfl := Option.some.inj hq
      have h1 := OJ.first hj i (by rw [List.length_map]; exact hi)
      rw [← List.map_take] at h1
      exact h1.move fun b hb => os.2.2.2.2 b (h1.lt hb).2 (h1.notBz h.wt (by decide) hb)
    · rw [List.getElem?_set_ne e] at hq
      exact (h.rw q s hq).move fun b hb => os.2.2.2.2 b ((h.rw q s hq).lt hb).2 ((h.rw q s hq).notBz h.wt (by decide) hb)
  · intro a a' s s' b ha ha' hb hb'
    have key : ∀ (q : Nat) z, (rows.set k ((.slice (some ⟨g, 0, none⟩) i c : Value), l.take i))[q]? = some z → ∃ z', rows[q]? = some z' ∧ z'.1.ownBlock = z.1.ownBlock := fun q z hz => by
      by_cases e : k = q
      · subst e
        rw [List.getElem?_set_self (List.getElem?_eq_some_iff.1 hr).1] at hz
        obtain rfl := Option.some.inj hz
        exact ⟨_, hr, rfl⟩
      · rw [List.getElem?_set_ne e] at hz
        exact ⟨z, hz, rfl⟩
    obtain ⟨z, hz, ez⟩ := key a s ha
    obtain ⟨z', hz', ez'⟩ := key a' s' ha'
    exact h.ap a a' z z' b hz hz' (by rw [ez]; exact hb) (by rw [ez']; exact hb')
theorem Bz.same {u : World} {b k : Nat} {cs : Array Value} {t : TypeId} {v : Value} (h : Bz u b cs t) (hv : cs[k]? = some v) : Bz (u.setCell ⟨b, k, none⟩ v) b cs t := by
  have := h.set k v
  rwa [show cs.setIfInBounds k v = cs from by
    apply Array.ext_getElem?
    intro i
    rw [Array.getElem?_setIfInBounds]
    by_cases e : k = i
    · subst e
      obtain ⟨h1, h2⟩ := Array.getElem?_eq_some_iff.1 hv
      rw [if_pos rfl, if_pos h1, hv]
    · rw [if_neg e]] at this
/-- A row takes its own place. -/
theorem Wm.sameAt {u : World} {B : Nat} {M : Wb} {S N : Nat} {ca : Option Addr} {nc cc : Nat} {tv : Value} {eyl : List (Nat × Nat)} {rows : List (Value × List Nat)} {T : List Int} {ws : List Nat} (h : Wm u B M S N ca nc cc tv eyl rows T ws) {k : Nat} {r : Value × List Nat} (hr : rows[k]? = some r) : Wm (u.setCell ⟨M.wt, k, none⟩ r.1) B M S N ca nc cc tv eyl rows T ws := by
  have os : Ob M.wt u (u.setCell ⟨M.wt, k, none⟩ r.1) := Ob.set u _
  refine ⟨os.bz h.bx (bzNe h.bx h.wt (by decide)), os.bz h.ey (bzNe h.ey h.wt (by decide)), h.wt.same (by rw [List.getElem?_toArray, List.getElem?_map, hr]; rfl), os.bz h.st (bzNe h.st h.wt (by decide)), os.bz h.du (bzNe h.du h.wt (by decide)), ?_, ?_, h.ap, h.lo, h.ne, h.nr, h.wl, h.sz, fun x hx => ⟨os.bz (h.xx x hx).1 (bzNe (h.xx x hx).1 h.wt (h.xx x hx).2.2.2.1), (h.xx x hx).2⟩⟩
  · exact h.tr.move fun b hb => os.2.2.2.2 b (h.tr.lt hb).2 (h.tr.notBz h.wt (by decide) hb)
  · exact fun q s hq => (h.rw q s hq).move fun b hb => os.2.2.2.2 b ((h.rw q s hq).lt hb).2 ((h.rw q s hq).notBz h.wt (by decide) hb)
end Go.Proofs.YtmfamdonbgmjbaaDoor
