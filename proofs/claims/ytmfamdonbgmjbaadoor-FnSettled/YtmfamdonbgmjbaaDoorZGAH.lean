/- Several texts in one. -/
import Derived.Test.YtmfamdonbgmjbaaDoorUNN
import Derived.Test.YtmfamdonbgmjbaaDoorZGAF

/- From what handsOver leaves to the watches. -/
namespace Go.Proofs.YtmfamdonbgmjbaaDoor
set_option linter.unusedVariables false
set_option linter.unusedSimpArgs false
open Go.RowKit

def eyF (eyl : List (Nat × Nat)) (p : Nat) : Nat × Nat := eyl.getD p (0, 0)
/-- The clauses that a number watches, by its seat. -/
def wtF (S : Nat) (rows : List (Value × List Nat)) (n : Int) : List Nat := if -(S : Int) ≤ n ∧ n ≤ (S : Int) then (rows.getD ((S : Int) + n).toNat (undef, [])).2 else []
theorem eyF_set {eyl : List (Nat × Nat)} {p : Nat} {e x : Nat × Nat} (h : eyl[p]? = some e) (q : Nat) : eyF (eyl.set p x) q = if q = p then x else eyF eyl q := by
  unfold eyF
  rw [List.getD_eq_getElem?_getD, List.getElem?_set]
  by_cases e : p = q
  · subst e
    have := (List.getElem?_eq_some_iff.1 h).1
    simp [this]
  · rw [if_neg e, if_neg (fun h => e h.symm), ← List.getD_eq_getElem?_getD]
theorem wtF_set {S : Nat} {rows : List (Value × List Nat)} {j : Nat} {r x : Value × List Nat} (h : rows[j]? = some r) {k : Int} (hk : (S : Int) + k = (j : Int)) (hb : -(S : Int) ≤ k ∧ k ≤ (S : Int)) (q : Int) : wtF S (rows.set j x) q = if q = k then x.2 else wtF S rows q := by
  unfold wtF
  by_cases e : q = k
  · subst e
    rw [if_pos hb, if_pos rfl, hk, Int.toNat_natCast, List.getD_eq_getElem?_getD, List.getElem?_set_self (List.getElem?_eq_some_iff.1 h).1, Option.getD_some]
  · rw [if_neg e]
    by_cases hq : -(S : Int) ≤ q ∧ q ≤ (S : Int)
    · rw [if_pos hq, if_pos hq, List.getD_eq_getElem?_getD, List.getElem?_set_ne (by omega), ← List.getD_eq_getElem?_getD]
    · rw [if_neg hq, if_neg hq]
theorem wtF_at {S : Nat} {rows : List (Value × List Nat)} {j : Nat} {r : Value × List Nat} (h : rows[j]? = some r) {k : Int} (hk : (S : Int) + k = (j : Int)) (hb : -(S : Int) ≤ k ∧ k ≤ (S : Int)) : wtF S rows k = r.2 := by
  unfold wtF
  rw [if_pos hb, hk, Int.toNat_natCast, List.getD_eq_getElem?_getD, h, Option.getD_some]
/-- What the row that is gone through holds is no matter. -/
theorem Wj.wtO {cs : List (List Int)} {T : List Int} {n : Int} {row kept : List Nat} {ey : Nat → Nat × Nat} {wt wt' : Int → List Nat} {du : Nat → Bool} {j : Nat} (h : Wj cs T n row j kept ey wt du) (hw : ∀ k, k ≠ -n → wt' k = wt k) : Wj cs T n row j kept ey wt' du :=
  ⟨h.a, fun k hk p => by rw [hw k hk]; exact h.b k hk p, h.b0, fun k hk => by rw [hw k hk]; exact h.nd k hk, h.nd0, h.c, h.o, h.d, h.r, h.e, h.e1⟩
/-- Places that are due, and some more. -/
def plX (ex : Nat → Bool) (ws : List Nat) (q : Nat) : Bool := plB ws q || ex q
theorem plX_none (ws : List Nat) : plX (fun _ => false) ws = plB ws := funext fun q => by unfold plX; rw [Bool.or_false]
theorem Wi.dropX {cs : List (List Int)} {T : List Int} {ey : Nat → Nat × Nat} {wt : Int → List Nat} {ex : Nat → Bool} {ws : List Nat} (h : Wi cs T ey wt (plX ex ws)) (hx : ∀ q, ex q = true → ∀ cl, cs[q]? = some cl → metB T cl = true) : Wi cs T ey wt (plB ws) := by
  have hup : ∀ q, plB ws q = true → plX ex ws q = true := fun q hq => by unfold plX; rw [hq]; rfl
  refine ⟨h.a, h.b, h.nd, fun q c hq => ?_, fun q c hq hd => h.d q c hq (hup q hd), fun q hd => h.r q (hup q hd), h.e⟩
  rcases h.c q c hq with h1 | h1
  · unfold plX at h1
    rw [Bool.or_eq_true] at h1
    rcases h1 with h2 | h2
    · exact .inl h2
    · exact .inr (.inl (hx q h2 c hq))
  · exact .inr h1
/-- One of the row is done. -/
theorem Wj.hands {ex : Nat → Bool} {w u : World} {M : Wb} {S N : Nat} {ca : Option Addr} {nc cc : Nat} {tv : Value} {eyl : List (Nat × Nat)} {rows : List (Value × List Nat)} {ws : List Nat} {cs : List (List Int)} {T : List Int} {n : Int} {row kept : List Nat} {j p e0 e1 : Nat} {cl : List Int} {e : Ending} {w' : World}
    (h : Wj cs T n row j kept (eyF eyl) (wtF S rows) (plX ex ws)) (hcd : Cd cl) (hcn : ∀ x ∈ cl, -(S : Int) ≤ x ∧ x ≤ (S : Int)) (hr : row[j]? = some p) (hp : cs[p]? = some cl) (hey : eyl[p]? = some (e0, e1)) (hl : e0 < cl.length ∧ e1 < cl.length) (hx : eyeN cl (e0, e1) (-n))
    (hret : RetHn w u M S N ca nc cc tv eyl rows (T ++ [n]) ws cl p (-n) e0 e1 e w') :
    ∃ f eyl' rows' ws', e = .returned (.bool f) ∧ Wm w' w.heap.size M S N ca nc cc tv eyl' rows' (T ++ [n]) ws' ∧ Below w.heap.size u w' ∧ ws'.length = ws.length ∧
      (∀ (k0 : Nat) r, (S : Int) + -n = (k0 : Int) → rows[k0]? = some r → rows'[k0]? = some r) ∧
      Wj cs T n row (j + 1) (if f = true then kept else kept ++ [p]) (eyF eyl') (wtF S rows') (plX ex ws') := by
  have hE : eyF eyl p = (e0, e1) := by unfold eyF; rw [List.getD_eq_getElem?_getD, hey]; rfl
  obtain ⟨f, eyl', rows', ws', he, hm, hb, hc⟩ := hret
  refine ⟨f, eyl', rows', ws', he, hm, hb, ?_⟩
  rcases hc with ⟨rfl, rfl, rfl, rfl, h1⟩ | ⟨rfl, rfl, rfl, h1, h2, h3⟩ | ⟨rfl, rfl, i, k, j2, r, v', h1, h2, h3, h4, rfl, h5⟩
  · exact ⟨rfl, fun _ _ _ h => h, by rw [if_neg (by decide)]; exact h.keep hr hp (fun _ _ => rfl) (fun h => h) (.inr h1) (fun _ => .inl h1)⟩
  · refine ⟨h1, fun _ _ _ h => h, ?_⟩
    rw [if_neg (by decide)]
    refine h.keep hr hp (fun q hq => by unfold plX; rw [h2 q, decide_eq_false hq, Bool.or_false]) (fun _ => by unfold plX; rw [h2 p]; simp) (.inl (by unfold plX; rw [h2 p]; simp)) (fun _ => .inr h3)
  · have hkb := hcn k (List.mem_of_getElem? h1)
    have hkn : k ≠ -n := fun e => h2 (by rw [e, Int.neg_neg]; simp)
    refine ⟨rfl, fun k0 s hk0 hs => ?_, ?_⟩
    · rw [List.getElem?_set_ne (by omega)]
      exact hs
    · rw [if_pos rfl]
      obtain ⟨y0, hy0⟩ : ∃ y, cl[e0]? = some y := ⟨_, List.getElem?_eq_getElem hl.1⟩
      obtain ⟨y1, hy1⟩ : ∃ y, cl[e1]? = some y := ⟨_, List.getElem?_eq_getElem hl.2⟩
      have hw1 : wtF S (rows.set j2 (v', r.2 ++ [p])) k = wtF S rows k ++ [p] := by rw [wtF_set h4 h3 hkb, if_pos rfl, wtF_at h4 h3 hkb]
      have hw2 : ∀ q, q ≠ k → wtF S (rows.set j2 (v', r.2 ++ [p])) q = wtF S rows q := fun q hq => by rw [wtF_set h4 h3 hkb, if_neg hq]
      rcases h5 with ⟨g1, g2, rfl⟩ | ⟨g1, g2, rfl⟩
      · exact h.pass (x := y1) hcd hr hp h1 h2 (by rw [hE]; exact hx) (fun q hq => by rw [eyF_set hey, if_neg hq]) (.inl ⟨by rw [eyF_set hey, if_pos rfl, hE], by rw [hE]; exact g1, by rw [hE]; exact g2, by rw [hE]; exact hy1⟩) hw1 hw2
      · exact h.pass (x := y0) hcd hr hp h1 h2 (by rw [hE]; exact hx) (fun q hq => by rw [eyF_set hey, if_neg hq]) (.inr ⟨by rw [eyF_set hey, if_pos rfl, hE], by rw [hE]; exact g1, by rw [hE]; exact g2, by rw [hE]; exact hy0⟩) hw1 hw2
end Go.Proofs.YtmfamdonbgmjbaaDoor

/- put: the memory. -/
namespace Go.Proofs.YtmfamdonbgmjbaaDoor
set_option linter.unusedVariables false
set_option linter.unusedSimpArgs false
open Go.RowKit

theorem Wm.trLater {u u1 u1' : World} {B : Nat} {M : Wb} {S N : Nat} {ca : Option Addr} {nc cc : Nat} {tv : Value} {eyl : List (Nat × Nat)} {rows : List (Value × List Nat)} {T : List Int} {ws : List Nat} (h : Wm u B M S N ca nc cc tv eyl rows T ws) (ho : Ob M.st u u1) (hu : Below u1.heap.size u1 u1') : OI u1' B tv T :=
  (h.tr.move fun b hb => ho.2.2.2.2 b (h.tr.lt hb).2 (h.tr.notBz h.st (by decide) hb)).later hu
/-- A number more stands: the table, then the trail. -/
theorem Wm.putAt {u u1 u1' u2 : World} {B : Nat} {M : Wb} {S N : Nat} {ca : Option Addr} {nc cc : Nat} {tv tv' : Value} {eyl : List (Nat × Nat)} {rows : List (Value × List Nat)} {T : List Int} {ws : List Nat} {n : Int} (h : Wm u B M S N ca nc cc tv eyl rows T ws) (ho : Ob M.st u u1) (hs : Bz u1 M.st (seL S N (T ++ [n])).toArray 4) (hu : Below u1.heap.size u1 u1') (hot : OI u2 B tv' (T ++ [n])) (hg : u1'.grownBy u2 tv.ownBlock) :
    Wm (u2.setCell ⟨M.bx, 5, none⟩ tv') B M S N ca nc cc tv' eyl rows (T ++ [n]) ws := by
  have tr := h.trLater ho hu
  have s1 : Bz u1' M.st _ _ := hs.later hu
  have x1 : Bz u1' M.bx _ _ := (ho.bz h.bx (bzNe h.bx h.st (by decide))).later hu
  have x2 : Bz u1' M.ey _ _ := (ho.bz h.ey (bzNe h.ey h.st (by decide))).later hu
  have x3 : Bz u1' M.wt _ _ := (ho.bz h.wt (bzNe h.wt h.st (by decide))).later hu
  have x5 : Bz u1' M.du _ _ := (ho.bz h.du (bzNe h.du h.st (by decide))).later hu
  have y1 := gBz x1 hg fun g e => tr.notBz x1 (by decide) e
  have y2 := gBz x2 hg fun g e => tr.notBz x2 (by decide) e
  have y3 := gBz x3 hg fun g e => tr.notBz x3 (by decide) e
  have y4 := gBz s1 hg fun g e => tr.notBz s1 (by decide) e
  have y5 := gBz x5 hg fun g e => tr.notBz x5 (by decide) e
  have os : Ob M.bx u2 (u2.setCell ⟨M.bx, 5, none⟩ tv') := Ob.set u2 tv'
  refine ⟨?_, os.bz y2 (bzNe h.ey h.bx (by decide)), os.bz y3 (bzNe h.wt h.bx (by decide)), os.bz y4 (bzNe h.st h.bx (by decide)), os.bz y5 (bzNe h.du h.bx (by decide)), ?_, ?_, h.ap, h.lo, h.ne, h.nr, h.wl, h.sz, fun x hx => ?_⟩
  · have := y1.set 5 tv'
    exact this
  · exact hot.move fun b hb => os.2.2.2.2 b (hot.lt hb).2 (hot.notBz y1 (by decide) hb)
  · intro k r hk
    have r0 := h.rw k r hk
    have r1 : OJ u1' B r.1 _ := (r0.move fun b hb => ho.2.2.2.2 b (r0.lt hb).2 (r0.notBz h.st (by decide) hb)).later hu
    have r2 : OJ u2 B r.1 _ := r1.move fun b hb => hg.block b (r1.lt hb).2 (fun e => tr.notJ r1 e.symm hb)
    exact r2.move fun b hb => os.2.2.2.2 b (r2.lt hb).2 (r2.notBz y1 (by decide) hb)
  · have z1 : Bz u1' x.1 _ _ := (ho.bz (h.xx x hx).1 (bzNe (h.xx x hx).1 h.st (h.xx x hx).2.2.2.2.1)).later hu
    have z2 := gBz z1 hg fun g e => tr.notBz z1 (h.xx x hx).2.2.2.2.2.2.1 e
    exact ⟨os.bz z2 (bzNe (h.xx x hx).1 h.bx (h.xx x hx).2.1), (h.xx x hx).2⟩
/-- A row is written to in place. -/
theorem Wm.cellAt {u : World} {B : Nat} {M : Wb} {S N : Nat} {ca : Option Addr} {nc cc : Nat} {tv : Value} {eyl : List (Nat × Nat)} {rows : List (Value × List Nat)} {T : List Int} {ws : List Nat} (h : Wm u B M S N ca nc cc tv eyl rows T ws) {k g c i p : Nat} {l : List Nat} (hr : rows[k]? = some (.slice (some ⟨g, 0, none⟩) l.length c, l)) (hi : i < l.length) :
    Wm (u.setCell ⟨g, i, none⟩ (.int .i64 (p : Int))) B M S N ca nc cc tv eyl (rows.set k (.slice (some ⟨g, 0, none⟩) l.length c, l.set i p)) T ws := by
  have hj := h.rw k _ hr
  have os : Ob g u (u.setCell ⟨g, i, none⟩ (.int .i64 (p : Int))) := Ob.set u _
  have hB : (Value.slice (some ⟨g, 0, none⟩) l.length c).ownBlock = some g := rfl
  have e1 : rows.map Prod.fst = (rows.set k (.slice (some ⟨g, 0, none⟩) l.length c, l.set i p)).map Prod.fst := by
    rw [List.map_set]
    apply List.ext_getElem?
    intro q
    rw [List.getElem?_set]
    by_cases e : k = q
    · subst e
      have := (List.getElem?_eq_some_iff.1 hr).1
      rw [if_pos rfl, if_pos (by simpa using this), List.getElem?_map, hr]
      rfl
    · rw [if_neg e]
  refine ⟨os.bz h.bx (hj.notBz h.bx (by decide) hB).symm, os.bz h.ey (hj.notBz h.ey (by decide) hB).symm, ?_, os.bz h.st (hj.notBz h.st (by decide) hB).symm, os.bz h.du (hj.notBz h.du (by decide) hB).symm, ?_, ?_, ?_, h.lo, h.ne, by rw [List.length_set]; exact h.nr, h.wl, h.sz, fun x hx => ⟨os.bz (h.xx x hx).1 (hj.notBz (h.xx x hx).1 (h.xx x hx).2.2.2.2.2.2.2 hB).symm, (h.xx x hx).2⟩⟩
  · rw [← e1]; exact os.bz h.wt (hj.notBz h.wt (by decide) hB).symm
  · exact h.tr.move fun b hb => os.2.2.2.2 b (h.tr.lt hb).2 (fun e => h.tr.notJ hj hb (by rw [e]; exact hB))
  · intro q s hq
    by_cases e : k = q
    · subst e
      rw [List.getElem?_set_self (List.getElem?_eq_some_iff.1 hr).1] at hq
      obtain rfl := Option.some.inj hq
      have := OJ.setO hj (i := i) (by rw [List.length_map]; exact hi) (p : Int)
      rw [List.map_set]
      exact this
    · rw [List.getElem?_set_ne e] at hq
      exact (h.rw q s hq).move fun b hb => os.2.2.2.2 b ((h.rw q s hq).lt hb).2 (fun e2 => e (h.ap k q _ s b hr hq (by rw [e2]; exact hB) hb))
  · intro a a' s s' b ha ha' hb hb'
    have key : ∀ (q : Nat) z, (rows.set k (.slice (some ⟨g, 0, none⟩) l.length c, l.set i p))[q]? = some z → ∃ z', rows[q]? = some z' ∧ z'.1 = z.1 := fun q z hz => by
      by_cases e : k = q
      · subst e
        rw [List.getElem?_set_self (List.getElem?_eq_some_iff.1 hr).1] at hz
        obtain rfl := Option.some.inj hz
        exact ⟨_, hr, rfl⟩
      · rw [List.getElem?_set_ne e] at hz
        exact ⟨z, hz, rfl⟩
    obtain ⟨z, hz, ez⟩ := key a s ha
    obtain ⟨z', hz', ez'⟩ := key a' s' ha'
    exact h.ap a a' z z' b hz hz' (by rw [ez]; exact hb) (by rw [ez']; exact hb')
theorem i64s_take (l : List Int) (i : Nat) : (i64s (l.take i)).toList = (i64s l).toList.take i := by simp [i64s, List.map_take]
/-- The first ones of a row. -/
theorem OJ.first {w : World} {B g n c : Nat} {l : List Int} (h : OJ w B (.slice (some ⟨g, 0, none⟩) n c) l) (i : Nat) (hi : i ≤ l.length) : OJ w B (.slice (some ⟨g, 0, none⟩) i c) (l.take i) := by
  obtain ⟨h1, h2⟩ := h
  rcases h2 with ⟨h2, -⟩ | ⟨g', cap, cur, he, hg, hh, hc1, hc2, hsz, hcur⟩
  · cases h2
  · cases he
    have hl : (l.take i).length = i := by rw [List.length_take]; omega
    unfold OJ
    rw [hl, i64s_take]
    refine ⟨?_, .inr ⟨g, c, cur, rfl, hg, hh, by omega, hc2, hsz, ?_⟩⟩
    · rw [List.length_take, h1]; omega
    · rw [← hcur, List.take_take]
      congr 1
      omega
/-- What is kept of a row takes its place. -/
theorem Wm.keptAt {u : World} {B : Nat} {M : Wb} {S N : Nat} {ca : Option Addr} {nc cc : Nat} {tv : Value} {eyl : List (Nat × Nat)} {rows : List (Value × List Nat)} {T : List Int} {ws : List Nat} (h : Wm u B M S N ca nc cc tv eyl rows T ws) {k g c i : Nat} {l : List Nat} (hr : rows[k]? = some (.slice (some ⟨g, 0, none⟩) l.length c, l)) (hi : i ≤ l.length) (hB : B ≤ u.heap.size) :
    Wm (u.setCell ⟨M.wt, k, none⟩ (.slice (some ⟨g, 0, none⟩) i c)) B M S N ca nc cc tv eyl (rows.set k (.slice (some ⟨g, 0, none⟩) i c, l.take i)) T ws := by
  have hj := h.rw k _ hr
  have os : Ob M.wt u (u.setCell ⟨M.wt, k, none⟩ (.slice (some ⟨g, 0, none⟩) i c)) := Ob.set u _
  refine ⟨os.bz h.bx (bzNe h.bx h.wt (by decide)), os.bz h.ey (bzNe h.ey h.wt (by decide)), ?_, os.bz h.st (bzNe h.st h.wt (by decide)), os.bz h.du (bzNe h.du h.wt (by decide)), ?_, ?_, ?_, h.lo, h.ne, by rw [List.length_set]; exact h.nr, h.wl, h.sz, fun x hx => ⟨os.bz (h.xx x hx).1 (bzNe (h.xx x hx).1 h.wt (h.xx x hx).2.2.2.1), (h.xx x hx).2⟩⟩
  · have := h.wt.set k (.slice (some ⟨g, 0, none⟩) i c)
    rw [List.setIfInBounds_toArray, ← List.map_set (f := Prod.fst) (a := ((.slice (some ⟨g, 0, none⟩) i c : Value), l.take i))] at this
    exact this
  · exact h.tr.move fun b hb => os.2.2.2.2 b (h.tr.lt hb).2 (h.tr.notBz h.wt (by decide) hb)
  · intro q s hq
    by_cases e : k = q
    · subst e
      rw [List.getElem?_set_self (List.getElem?_eq_some_iff.1 hr).1] at hq
      obtain rfl := Option.some.inj hq
      have h1 := OJ.first hj i (by rw [List.length_map]; exact hi)
      rw [← List.map_take] at h1
      exact h1.move fun b hb => os.2.2.2.2 b (h1.lt hb).2 (h1.notBz h.wt (by decide) hb)
    · rw [List.getElem?_set_ne e] at hq
      exact (h.rw q s hq).move fun b hb => os.2.2.2.2 b ((h.rw q s hq).lt hb).2 ((h.rw q s hq).notBz h.wt (by decide) hb)
  · intro a a' s s' b ha ha' hb hb'
    have key : ∀ (q : Nat) z, (rows.set k ((.slice (some ⟨g, 0, none⟩) i c : Value), l.take i))[q]? = some z → ∃ z', rows[q]? = some z' ∧ z'.1.ownBlock = z.1.ownBlock := fun q z hz => by
      by_cases e : k = q
      · subst e
        rw [List.getElem?_set_self (List.getElem?_eq_some_iff.1 hr).1] at hz
        obtain rfl := Option.some.inj hz
        exact ⟨_, hr, rfl⟩
      · rw [List.getElem?_set_ne e] at hz
        exact ⟨z, hz, rfl⟩
    obtain ⟨z, hz, ez⟩ := key a s ha
    obtain ⟨z', hz', ez'⟩ := key a' s' ha'
    exact h.ap a a' z z' b hz hz' (by rw [ez]; exact hb) (by rw [ez']; exact hb')
theorem Bz.same {u : World} {b k : Nat} {cs : Array Value} {t : TypeId} {v : Value} (h : Bz u b cs t) (hv : cs[k]? = some v) : Bz (u.setCell ⟨b, k, none⟩ v) b cs t := by
  have := h.set k v
  rwa [show cs.setIfInBounds k v = cs from by
    apply Array.ext_getElem?
    intro i
    rw [Array.getElem?_setIfInBounds]
    by_cases e : k = i
    · subst e
      obtain ⟨h1, h2⟩ := Array.getElem?_eq_some_iff.1 hv
      rw [if_pos rfl, if_pos h1, hv]
    · rw [if_neg e]] at this
/-- A row takes its own place. -/
theorem Wm.sameAt {u : World} {B : Nat} {M : Wb} {S N : Nat} {ca : Option Addr} {nc cc : Nat} {tv : Value} {eyl : List (Nat × Nat)} {rows : List (Value × List Nat)} {T : List Int} {ws : List Nat} (h : Wm u B M S N ca nc cc tv eyl rows T ws) {k : Nat} {r : Value × List Nat} (hr : rows[k]? = some r) : Wm (u.setCell ⟨M.wt, k, none⟩ r.1) B M S N ca nc cc tv eyl rows T ws := by
  have os : Ob M.wt u (u.setCell ⟨M.wt, k, none⟩ r.1) := Ob.set u _
  refine ⟨os.bz h.bx (bzNe h.bx h.wt (by decide)), os.bz h.ey (bzNe h.ey h.wt (by decide)), h.wt.same (by rw [List.getElem?_toArray, List.getElem?_map, hr]; rfl), os.bz h.st (bzNe h.st h.wt (by decide)), os.bz h.du (bzNe h.du h.wt (by decide)), ?_, ?_, h.ap, h.lo, h.ne, h.nr, h.wl, h.sz, fun x hx => ⟨os.bz (h.xx x hx).1 (bzNe (h.xx x hx).1 h.wt (h.xx x hx).2.2.2.1), (h.xx x hx).2⟩⟩
  · exact h.tr.move fun b hb => os.2.2.2.2 b (h.tr.lt hb).2 (h.tr.notBz h.wt (by decide) hb)
  · exact fun q s hq => (h.rw q s hq).move fun b hb => os.2.2.2.2 b ((h.rw q s hq).lt hb).2 ((h.rw q s hq).notBz h.wt (by decide) hb)
end Go.Proofs.YtmfamdonbgmjbaaDoor

/- newPlaceSet. -/
namespace Go.Proofs.YtmfamdonbgmjbaaDoor
set_option linter.unusedVariables false
set_option linter.unusedSimpArgs false
open Go.RowKit
theorem make_words (n : Nat) (hn : n ≤ 1048576) (kl kc : IntKind) (w : World) :
    (Instr.makeSlice 64 (.int kl (n : Int)) (.int kc (n : Int))).run Tryd.prog w = .ok (.slice (some ⟨w.heap.size, 0, none⟩) n n) (w.alloc (.cells (madeCells #[.int .u64 0] n) 108)) := by
  obtain ⟨i0, hi, hz0, hz1, hz2⟩ := info_parts (show (Tryd.prog.info? 108).map (fun i => (i.zero, i.size, i.bytes)) = some (some (.int .u64 0), 1, 8) by kernel_rfl)
  have := run_make (P := Tryd.prog) w 64 108 i0 _ Tryd.underlying64 hi hz0 kl kc n n (by omega) (Int.le_refl _) (by rw [hz2]; omega) (by omega)
  rw [hz1, Nat.mul_one] at this
  simp only [Int.toNat_natCast] at this
  exact this
theorem made_words (n : Nat) : madeCells #[.int .u64 0] n = wsV (List.replicate n 0) := by
  apply Array.toList_inj.1
  rw [toList_madeCells_one]
  simp [wsV]
theorem wordsFor0_any (n : Nat) (hn : n ≤ 4000) (w : World) :
    Calls Tryd.prog 74 #[.int .i64 (n : Int)] w fun e w' => e = .returned (.int .i64 (((n + 63) / 64 : Nat) : Int)) ∧ w' = w := by
  have e1 : IntKind.i64.wrap ((n : Int) + 64 - 1) = (n : Int) + 63 := by rw [IntKind.wrap_i64]; omega
  have e2 : ((n : Int) + 63).tdiv 64 = (((n + 63) / 64 : Nat) : Int) := by rw [Int.tdiv_eq_ediv_of_nonneg (by omega)]; omega
  have e3 : IntKind.i64.wrap (((n + 63) / 64 : Nat) : Int) = (((n + 63) / 64 : Nat) : Int) := by rw [IntKind.wrap_i64]; omega
  have e4 : (n : Int) + 64 - 1 = (n : Int) + 63 := by omega
  obtain ⟨k, hk⟩ : ∃ k, (n + 63) / 64 = k := ⟨_, rfl⟩
  rw [hk] at e2 e3 ⊢
  clear hk
  go_enter Tryd.func74, Tryd.ntmps74
  go_wp2_with fail
  go_ret
  exact ⟨by simp [e4, e2, e3], rfl⟩
set_option maxHeartbeats 1000000 in
theorem newPlaceSet_any (n : Nat) (hn : n ≤ 4000) (w : World) :
    Calls Tryd.prog 60 #[.int .i64 (n : Int)] w fun e w' => ∃ d, w.heap.size ≤ d ∧ e = .returned (.agg #[.slice (some ⟨d, 0, none⟩) ((n + 63) / 64) ((n + 63) / 64)]) ∧ Bz w' d (wsV (List.replicate ((n + 63) / 64) 0)) 108 ∧ Below w.heap.size w w' := by
  have HWF := kide (fun u => wordsFor0_any n hn u)
  obtain ⟨k, hk⟩ : ∃ k, (n + 63) / 64 = k := ⟨_, rfl⟩
  have hk9 : k ≤ 100 := by omega
  rw [hk] at HWF ⊢
  have hmk : ∀ (kl kc : IntKind) (u : World), (Instr.makeSlice 64 (.int kl (k : Int)) (.int kc (k : Int))).run Tryd.prog u = .ok (.slice (some ⟨u.heap.size, 0, none⟩) k k) (u.alloc (.cells (wsV (List.replicate k 0)) 108)) := fun kl kc u => by
    have h := make_words k (by omega) kl kc u
    rwa [made_words] at h
  clear hk
  go_enter Tryd.func60, Tryd.ntmps60
  go_wp2_with fail
  refine Calls.mono (HWF.out _) ?_
  rintro e u ⟨rfl, hw⟩
  obtain rfl := hw.symm
  clear hw
  go_wp2_with fail
  have b1 : Below w.heap.size w (w.alloc (Obj.cells #[Value.slice (some ⟨w.heap.size + 1, 0, none⟩) k k] 66)) := (Below.refl _ _).alloc (Nat.le_refl _) _
  have z := Bz.new (w.alloc (Obj.cells #[Value.slice (some ⟨w.heap.size + 1, 0, none⟩) k k] 66)) (wsV (List.replicate k 0)) 108
  rw [World.size_alloc] at z
  exact bodyPost_ret (v := .agg #[.slice (some ⟨w.heap.size + 1, 0, none⟩) k k]) (by simp [results, Tryd.results60, go_sem]) rfl ⟨w.heap.size + 1, by omega, rfl, z, b1.alloc (by simp) _⟩
end Go.Proofs.YtmfamdonbgmjbaaDoor

/- What newWatcher is asked to do. -/
namespace Go.Proofs.YtmfamdonbgmjbaaDoor
set_option linter.unusedVariables false
set_option linter.unusedSimpArgs false
open Go.RowKit
def NewWatcherAny : Prop := ∀ (w : World) (S : Nat) (ca : Option Addr) (nc cc : Nat) (xs : List Iw), RdII w ca xs → xs.length = nc → nc ≤ 4000 → S ≤ 400 → (∀ x ∈ xs, x.ks.length ≤ x.c) →
    (∀ cl ∈ xs.map Iw.ks, Cd cl ∧ cl.length ≤ 400 ∧ ∀ x ∈ cl, x ≠ 0 ∧ -(S : Int) ≤ x ∧ x ≤ (S : Int)) →
    Calls Tryd.prog 36 #[.agg #[.int .i64 (S : Int), .slice ca nc cc]] w fun e w' => ∃ M tv eyl rows ws, M.ex = [] ∧ e = .returned (.pointer (some ⟨M.bx, 0, none⟩)) ∧ Wm w' w.heap.size M S (2 * S + 1) ca nc cc tv eyl rows [] ws ∧ Wi (xs.map Iw.ks) [] (eyF eyl) (wtF S rows) (plB ws) ∧ ws.length = (nc + 63) / 64 ∧ Below w.heap.size w w'
end Go.Proofs.YtmfamdonbgmjbaaDoor

/- put, walked. -/
namespace Go.Proofs.YtmfamdonbgmjbaaDoor
set_option linter.unusedVariables false
set_option linter.unusedSimpArgs false
open Go.RowKit

/-- One more within the capacity. -/
theorem wpList_fitJ {w : World} {ops : Array Oper} {rest : List Oper} {o : Oper} {a : Act} {Q : Exit → Act → World → Prop} (hgd : o.guard = none) (s x : Operand)
    (ho : o.op = .call { callee := .builtin .append, args := #[s, x], argTypes := #[97, 97] })
    (g i cap : Nat) (hs : a.eval s = .slice (some ⟨g, 0, none⟩) i cap) (gx c : Nat) (hx : a.eval x = .slice (some ⟨gx, 0, none⟩) 1 c) (y : Int)
    (h0 : w.cell? ⟨gx, 0, none⟩ = some (.int .i64 y)) (hi : i + 1 ≤ cap) (hc : (w.cell? ⟨g, i, none⟩).isSome = true) (hf : w.frozen? ⟨g, i, none⟩ = false)
    (h : wpList Tryd.prog ops Q rest (a.put o.dst (.slice (some ⟨g, 0, none⟩) (i + 1) cap)) (w.setCell ⟨g, i, none⟩ (.int .i64 y))) : wpList Tryd.prog ops Q (o :: rest) a w := by
  obtain ⟨i0, hi0, hz0, hz1, hz2⟩ := info_parts Tryd.infoJ
  refine wpList_plain hgd fun K hK' => ?_
  have hrun := run_append_room_cells (P := Tryd.prog) w 97 o.type 3 i0 Tryd.underlying97 hi0 g 0 i cap ⟨gx, 0, none⟩ 1 c [.int .i64 y] (by rw [hz1]; rfl) (fun j u hj => by
    rw [Addr.add_lit]
    match j, hj with
    | 0, hj => simp at hj; subst hj; exact h0
    | j + 1, hj => simp at hj) (fun u hu => by simp at hu; subst hu; rfl) hi (fun j hj => by
    obtain rfl : j = 0 := by simp at hj; omega
    rw [hz1]; simpa using hc) (fun j hj => by
    obtain rfl : j = 0 := by simp at hj; omega
    rw [hz1]; simpa using hf)
  rw [hz1] at hrun
  unfold Oper.wp
  simp [execOp, ho, resolve, invoke, builtin, hs, hx, hrun, Result.andThen]
  exact hK' _ _ h

set_option maxHeartbeats 8000000 in
set_option maxRecDepth 100000 in
theorem put_any {ex : Nat → Bool} {w u : World} {M : Wb} {S N : Nat} {ca : Option Addr} {nc cc : Nat} {tv : Value} {eyl : List (Nat × Nat)} {rows : List (Value × List Nat)} {T : List Int} {ws : List Nat} (xs : List Iw) (h : Wm u w.heap.size M S N ca nc cc tv eyl rows T ws) (hwi : Wi (xs.map Iw.ks) T (eyF eyl) (wtF S rows) (plX ex ws)) (hc : RdII w ca xs) (hnc : xs.length = nc) (hn4 : nc ≤ 4000) (hbl : Below w.heap.size w u) (hS : S ≤ 400)
    (hcs : ∀ cl ∈ xs.map Iw.ks, Cd cl ∧ cl.length ≤ 400 ∧ ∀ x ∈ cl, -(S : Int) ≤ x ∧ x ≤ (S : Int)) (hws : ∀ p, p < nc → p / 64 < ws.length) (hTl : T.length ≤ 4000) (n : Int) (hn : -(S : Int) ≤ n ∧ n ≤ (S : Int)) :
    Calls Tryd.prog 37 #[.pointer (some ⟨M.bx, 0, none⟩), .int .i64 n] u fun e w' => e = .returned (.tuple #[]) ∧ ∃ tv' eyl' rows' ws', Wm w' w.heap.size M S N ca nc cc tv' eyl' rows' (T ++ [n]) ws' ∧ Wi (xs.map Iw.ks) (T ++ [n]) (eyF eyl') (wtF S rows') (plX ex ws') ∧ ws'.length = ws.length ∧ Below w.heap.size u w' := by
  obtain ⟨j, hj⟩ : ∃ j : Nat, (S : Int) + n = (j : Int) := ⟨((S : Int) + n).toNat, by omega⟩
  have hjN : j < N := by have := h.sz; omega
  have k1 : (j : Int) < (N : Int) := by omega
  have HSEAT : Hid (∀ v, Wm v w.heap.size M S N ca nc cc tv eyl rows T ws → Calls Tryd.prog 62 #[.pointer (some ⟨M.bx, 0, none⟩), .int .i64 n] v fun e w' => e = .returned (.int .i64 (j : Int)) ∧ w' = v) := fun v hv => by
    have := seat_any n v hv.bx rfl hS (by omega)
    rwa [hj] at this
  have HW := kide h
  have HWI := kide hwi
  have HC := kide hc
  have HBL := kide hbl
  have HCS := kide hcs
  have HWS := kide hws
  have HTL := kide hTl
  have HJ := kide hj
  have HJN := kide hjN
  clear h hwi hc hbl hcs hws hTl hj
  go_enter Tryd.func37, Tryd.ntmps37
  go_wp2_with fail
  refine wp_region_x (SA := fun uu => uu.cell? ⟨M.bx, 4, none⟩ = some (Value.slice (some ⟨M.st, 0, none⟩) N N) ∧ uu.cell? ⟨M.bx, 0, none⟩ = some (Value.int .i64 (S : Int))) (SB := fun _ => True) (k := 8) (by kernel_rfl) ?_
  have hbd : Below u.heap.size u u.drew := (Below.refl _ _).drew
  have WW0 := kide (HW.out.later hbd)
  have BB0 := kide hbd
  clear hbd
  generalize u.drew = q0 at *
  have c0_0 : q0.cell? ⟨M.bx, 4, none⟩ = some (Value.slice (some ⟨M.st, 0, none⟩) N N) := WW0.out.bx.cell 4
  have c1_0 : q0.cell? ⟨M.bx, 0, none⟩ = some (Value.int .i64 (S : Int)) := WW0.out.bx.cell 0
  have hs0 : Hid ((fun uu => uu.cell? ⟨M.bx, 4, none⟩ = some (Value.slice (some ⟨M.st, 0, none⟩) N N) ∧ uu.cell? ⟨M.bx, 0, none⟩ = some (Value.int .i64 (S : Int))) q0) := ⟨c0_0, c1_0⟩
  try go_simp
  refine wpAnyX_both (T := fun _ => True) (i := 0) (v := Value.pointer (some ⟨M.bx, 0, none⟩)) rfl (by kernel_rfl) (by kernel_rfl) (by kernel_rfl) (fun _ _ _ h => by first | exact h | exact h.elim) (by decide) (fun _ _ => trivial) (fun _ _ => trivial) (Sx.before (by kernel_rfl) hs0.out) (Or.inl ⟨by rfl, fun uu hu => by go_simp⟩) ?_
  try go_simp
  refine wpAnyX_both (T := fun _ => True) (i := 1) (v := Value.pointer (some ⟨M.bx, 0, none⟩)) rfl (by kernel_rfl) (by kernel_rfl) (by kernel_rfl) (fun _ _ _ h => by first | exact h | exact h.elim) (by decide) (fun _ _ => trivial) (fun _ _ => trivial) (Sx.before (by kernel_rfl) hs0.out) (Or.inl ⟨by rfl, fun uu hu => by go_simp⟩) ?_
  try go_simp
  refine wpAnyX_both (T := fun _ => True) (i := 2) (v := Value.pointer (some ⟨M.bx, 4, none⟩)) rfl (by kernel_rfl) (by kernel_rfl) (by kernel_rfl) (fun _ _ _ h => by first | exact h | exact h.elim) (by decide) (fun _ _ => trivial) (fun _ _ => trivial) (Sx.before (by kernel_rfl) hs0.out) (Or.inl ⟨by rfl, fun uu hu => by go_simp⟩) ?_
  try go_simp
  refine wpAnyX_take (i := 3) (v := Value.slice (some ⟨M.st, 0, none⟩) N N) rfl (by kernel_rfl) (by kernel_rfl) (by kernel_rfl) (fun _ _ _ h => by first | exact h | exact h.elim) (by decide) (by kernel_rfl) (by kernel_rfl) hs0.out (Or.inl ⟨by rfl, fun uu hu => by obtain ⟨e0, e1⟩ := hu; go_simp⟩) ?_
  try go_simp
  refine wpAnyX_both (T := fun _ => True) (i := 4) (v := Value.pointer (some ⟨M.bx, 0, none⟩)) rfl (by kernel_rfl) (by kernel_rfl) (by kernel_rfl) (fun _ _ _ h => by first | exact h | exact h.elim) (by decide) (fun _ _ => trivial) (fun _ _ => trivial) (Sx.before (by kernel_rfl) hs0.out) (Or.inl ⟨by rfl, fun uu hu => by go_simp⟩) ?_
  try go_simp
  refine wpAnyX_both (T := fun _ => True) (i := 5) (v := Value.int .i64 n) rfl (by kernel_rfl) (by kernel_rfl) (by kernel_rfl) (fun _ _ _ h => by first | exact h | exact h.elim) (by decide) (fun _ _ => trivial) (fun _ _ => trivial) (Sx.before (by kernel_rfl) hs0.out) (Or.inl ⟨by rfl, fun uu hu => by go_simp⟩) ?_
  try go_simp
  refine wpAnyX_ready (rs := [6]) (by kernel_rfl) (by simp) (AllX.cons rfl (fun K hK => ?_) AllX.nil)
  go_simp
  refine Calls.mono (HSEAT.out q0 WW0.out) ?_
  rintro e q1 ⟨rfl, hw9⟩
  obtain rfl := hw9
  have WW1 := WW0
  have BB1 := BB0
  have c0_1 : q1.cell? ⟨M.bx, 4, none⟩ = some (Value.slice (some ⟨M.st, 0, none⟩) N N) := WW1.out.bx.cell 4
  have c1_1 : q1.cell? ⟨M.bx, 0, none⟩ = some (Value.int .i64 (S : Int)) := WW1.out.bx.cell 0
  have hs1 : Hid ((fun uu => uu.cell? ⟨M.bx, 4, none⟩ = some (Value.slice (some ⟨M.st, 0, none⟩) N N) ∧ uu.cell? ⟨M.bx, 0, none⟩ = some (Value.int .i64 (S : Int))) q1) := ⟨c0_1, c1_1⟩
  refine hK _ _ (Sx.before (by kernel_rfl) hs1.out) ?_
  clear hK K
  try go_simp
  refine wpAnyX_both (T := fun _ => True) (i := 7) (v := Value.pointer (some ⟨M.st, j, none⟩)) rfl (by kernel_rfl) (by kernel_rfl) (by kernel_rfl) (fun _ _ _ h => by first | exact h | exact h.elim) (by decide) (fun _ _ => trivial) (fun _ _ => trivial) (Sx.before (by kernel_rfl) hs1.out) (Or.inl ⟨by rfl, fun uu hu => by go_simp⟩) ?_
  try go_simp
  refine wpAnyX_ready (rs := [8]) (by kernel_rfl) (by simp) (AllX.cons rfl (fun K hK => ?_) AllX.nil)
  have ce0 := WW1.out.st.cell j
  rw [List.getElem?_toArray, seL_at HJN.out] at ce0
  have cf0 := WW1.out.st.froz j
  go_simp
  have OB2 := kide (Ob.set (b := M.st) (o := j) q1 (.bool true))
  have ST2 : Hid (Bz (q1.setCell ⟨M.st, j, none⟩ (.bool true)) M.st (seL S N (T ++ [n])).toArray 4) := by have := WW1.out.st.set j (.bool true); rw [List.setIfInBounds_toArray, seL_snoc HJ.out] at this; exact this
  clear ce0 cf0
  generalize q1.setCell ⟨M.st, j, none⟩ (.bool true) = q2 at *
  refine hK _ _ (Sx.behind (by kernel_rfl) trivial) ?_
  clear hK K
  try go_simp
  refine wpAnyX_done (by kernel_rfl) ?_ _
  have OB := kide ((Ob.below BB1.out).trans OB2.out)
  have X2 := kide (OB.out.bz HW.out.bx (bzNe HW.out.bx HW.out.st (by decide)))
  have d5 : q2.cell? ⟨M.bx, 5, none⟩ = some tv := X2.out.cell 5
  have hq2 : w.heap.size ≤ q2.heap.size := Nat.le_trans HBL.out.size OB.out.2.2.2.1
  have HA : Hid (Below q2.heap.size q2 (q2.alloc (Obj.cells #[Value.int .i64 n] 2))) := (Below.refl _ _).alloc (Nat.le_refl _) _
  clear hs0 hs1 WW0 WW1 BB0 BB1 OB2
  go_wp2_with (refine wpList_appI rfl _ _ rfl w.heap.size tv T n rfl (HW.out.trLater OB.out HA.out) q2.heap.size 1 rfl (by simp) (by have := HTL.out; omega) (by simp; omega) ?_)
  intro g7 c7 u2 ho hg hat
  have W3 := kide (HW.out.putAt (n := n) OB.out ST2.out HA.out ho hg)
  have TR := kide (HW.out.trLater OB.out HA.out)
  have X3 : Hid (Bz u2 M.bx _ _) := gBz (X2.out.later HA.out) hg fun g e => TR.out.notBz (X2.out.later HA.out) (by decide) e
  have d6 : u2.cell? ⟨M.bx, 5, none⟩ = some tv := X3.out.cell 5
  have f6 := X3.out.froz 5
  have B3 : Hid (Below w.heap.size u (u2.setCell ⟨M.bx, 5, none⟩ (.slice (some ⟨g7, 0, none⟩) (T.length + 1) c7))) := by
    have b1 : Below w.heap.size u q2 := OB.out.bel HW.out.lo.2.2.2.1 HBL.out.size
    have b2 : Below w.heap.size q2 (q2.alloc (Obj.cells #[Value.int .i64 n] 2)) := HA.out.mono hq2
    have b3 : Below w.heap.size (q2.alloc (Obj.cells #[Value.int .i64 n] 2)) u2 := ⟨hg.os, hg.tape, hg.output, hg.size, fun k hk => hg.block k (by simp; omega) (fun e => by have := (TR.out.lt e.symm).1; omega)⟩
    exact ((b1.trans b2).trans b3).setCell (p := ⟨M.bx, 5, none⟩) HW.out.lo.1 _
  clear ho hg hat TR
  obtain ⟨u3, hu3⟩ : ∃ u3, u2.setCell ⟨M.bx, 5, none⟩ (.slice (some ⟨g7, 0, none⟩) (T.length + 1) c7) = u3 := ⟨_, rfl⟩
  rw [hu3] at W3 B3
  obtain ⟨k0, hk0⟩ : ∃ k0 : Nat, (S : Int) + -n = (k0 : Int) := ⟨((S : Int) + -n).toNat, by omega⟩
  have hkN : k0 < N := by have := HW.out.sz; omega
  have k2 : (k0 : Int) < (N : Int) := by omega
  have HSEAT2 := kide (seat_any (-n) u3 W3.out.bx rfl hS (by omega))
  rw [hk0] at HSEAT2
  have HK0 := kide hk0
  obtain ⟨⟨rv, rl⟩, hrw⟩ : ∃ r, rows[k0]? = some r := ⟨_, List.getElem?_eq_getElem (by rw [HW.out.nr]; exact hkN)⟩
  have HRW := kide hrw
  have d7 : u3.cell? ⟨M.bx, 3, none⟩ = some (.slice (some ⟨M.wt, 0, none⟩) N N) := W3.out.bx.cell 3
  have d8 : u3.cell? ⟨M.wt, k0, none⟩ = some rv := (W3.out.wt.cell k0).trans (by rw [List.getElem?_toArray, List.getElem?_map, hrw]; rfl)
  have f8 := W3.out.wt.froz k0
  have HROW := kide (wtF_at hrw hk0 (by omega))
  simp only [] at HROW
  have OJ3 := kide (W3.out.rw k0 _ hrw)
  simp only [] at OJ3
  have hoj := OJ3.out.2
  clear hk0 hrw
  rcases hoj with ⟨rfl, hl0⟩ | ⟨g, cap, cur, rfl, hgB, hh, hcp, -, -, -⟩
  · have hrl : rl = [] := by rw [List.length_map] at hl0; exact List.eq_nil_of_length_eq_zero hl0
    subst hrl
    have WE := kide (W3.out.sameAt HRW.out)
    have BE := kide (B3.out.setCell (p := ⟨M.wt, k0, none⟩) HW.out.lo.2.2.1 (Value.slice none 0 0))
    have WIE : Hid (Wi (xs.map Iw.ks) (T ++ [n]) (eyF eyl) (wtF S rows) (plX ex ws)) := by
      have h1 := HWI.out.begin n
      rw [HROW.out] at h1
      exact h1.end (Nat.le_refl _) HROW.out (fun _ _ => rfl)
    clear hl0
    go_wp2_with fail
    refine Calls.mono HSEAT2.out ?_
    rintro e u4 ⟨rfl, hw4⟩
    obtain rfl := hw4.symm
    clear hw4
    go_wp2_with fail
    go_loopw [46, 5] (fun q kv wr => q = .int .i64 0 ∧ kv = .slice none 0 0 ∧ wr = u3) (fun _ _ _ => 0)
    case atStart => exact ⟨rfl, rfl, rfl⟩
    case round =>
      obtain ⟨rfl, rfl, rfl⟩ := hrel
      go_wp2_with fail
      exact bodyPost_end (v := .tuple #[]) (by simp [results, Tryd.results37, go_sem]) rfl ⟨rfl, _, _, _, _, WE.out, WIE.out, rfl, BE.out⟩
  · rw [List.length_map] at hcp
    simp only [List.length_map] at OJ3 HRW d8 HROW ⊢
    clear hh
    go_wp2_with fail
    refine Calls.mono HSEAT2.out ?_
    rintro e u4 ⟨rfl, hw4⟩
    obtain rfl := hw4.symm
    clear hw4
    go_wp2_with fail
    clear d5 d6 f6 d7 d8 f8
    have HCP := kide hcp
    clear hcp
    have hrl4 : rl.length ≤ 4000 := by
      rw [← HROW.out]
      refine Nat.le_trans (nodup_le nc _ (HWI.out.nd (-n)) fun x hx => ?_) hn4
      obtain ⟨c, hc, -⟩ := (HWI.out.b (-n) x).1 hx
      have := (List.getElem?_eq_some_iff.1 hc).1
      rw [List.length_map] at this
      omega
    go_loopw [46, 5] (fun q kv wr => ∃ (t : Nat) (kept L : List Nat) (eyl' : List (Nat × Nat)) (rows' : List (Value × List Nat)) (ws' : List Nat), t ≤ rl.length ∧ q = .int .i64 (t : Int) ∧ kv = .slice (some ⟨g, 0, none⟩) kept.length cap ∧ kept.length ≤ t ∧ L.length = rl.length ∧ L.take kept.length = kept ∧ L.drop t = rl.drop t ∧ rows'[k0]? = some (.slice (some ⟨g, 0, none⟩) L.length cap, L) ∧ Wm wr w.heap.size M S N ca nc cc (.slice (some ⟨g7, 0, none⟩) (T.length + 1) c7) eyl' rows' (T ++ [n]) ws' ∧ Wj (xs.map Iw.ks) T n rl t kept (eyF eyl') (wtF S rows') (plX ex ws') ∧ ws'.length = ws.length ∧ Below w.heap.size u wr) (fun q _ _ => rl.length - (intOf q).toNat)
    case atStart => exact ⟨0, [], rl, eyl, rows, ws, Nat.zero_le _, rfl, rfl, Nat.le_refl _, rfl, rfl, rfl, HRW.out, W3.out, by have h1 := HWI.out.begin n; rw [HROW.out] at h1; exact h1, rfl, B3.out⟩
    case round =>
      obtain ⟨t, kept, L, eyl', rows', ws', ht, rfl, rfl, hkt, hLl, hLk, hLd, hrr, hwm, hwj, hwl, hbr⟩ := hrel
      have WR := kide hwm
      have WJ := kide hwj
      have BR := kide hbr
      have HRR := kide hrr
      have HWL := kide hwl
      have HLL := kide hLl
      have HLK := kide hLk
      have HLD := kide hLd
      clear hwm hwj hbr hrr hwl hLk hLd
      by_cases hlt : t < rl.length
      · obtain ⟨p, hp⟩ : ∃ p, rl[t]? = some p := ⟨_, List.getElem?_eq_getElem hlt⟩
        have hLt : L[t]? = some p := by
          have h1 : (L.drop t)[0]? = (rl.drop t)[0]? := by rw [HLD.out]
          simpa [List.getElem?_drop, hp] using h1
        have e0 : wr.cell? ⟨g, t, none⟩ = some (.int .i64 (p : Int)) := by
          have h1 := OJ.cellO (WR.out.rw k0 _ HRR.out) (i := t) (by simp; omega)
          rw [h1]
          simp [List.getD, hLt]
        obtain ⟨cl, hcl, hl2, heye⟩ := (WJ.out.b0 p).1 (List.mem_append_right _ (by rw [drop_at hp]; exact List.mem_cons_self))
        obtain ⟨hcd, hl4, hcn⟩ := HCS.out cl (List.mem_of_getElem? hcl)
        have hpn : p < nc := by have := (List.getElem?_eq_some_iff.1 hcl).1; rw [List.length_map] at this; omega
        obtain ⟨⟨y0, y1⟩, hee⟩ : ∃ e, eyl'[p]? = some e := ⟨_, List.getElem?_eq_getElem (by rw [WR.out.ne]; exact hpn)⟩
        have hE : eyF eyl' p = (y0, y1) := by unfold eyF; rw [List.getD_eq_getElem?_getD, hee]; rfl
        obtain ⟨hy0, hy1, hyn⟩ := WJ.out.a p cl hcl hl2
        rw [hE] at hy0 hy1 hyn heye
        simp only [] at hy0 hy1 hyn
        have hrl : ∀ (q : Nat) r, rows'[q]? = some r → r.2.length ≤ 4000 := fun q r hq => by
          by_cases e : q = k0
          · subst e
            rw [HRR.out] at hq
            obtain rfl := Option.some.inj hq
            show L.length ≤ 4000
            rw [HLL.out, ← HROW.out]
            refine Nat.le_trans (nodup_le nc _ (HWI.out.nd (-n)) fun x hx => ?_) hn4
            obtain ⟨c, hc, -⟩ := (HWI.out.b (-n) x).1 hx
            have := (List.getElem?_eq_some_iff.1 hc).1; rw [List.length_map] at this; omega
          · have hqN : q < N := by have := (List.getElem?_eq_some_iff.1 hq).1; rw [WR.out.nr] at this; exact this
            have hsz := WR.out.sz
            have h1 := wtF_at (S := S) hq (k := (q : Int) - (S : Int)) (by omega) (by omega)
            have hk : (q : Int) - (S : Int) ≠ -n := fun e2 => e (by have := HK0.out; omega)
            rw [← h1]
            refine Nat.le_trans (nodup_le nc _ (WJ.out.nd _ hk) fun x hx => ?_) hn4
            obtain ⟨c, hc, -⟩ := (WJ.out.b _ hk x).1 hx
            have := (List.getElem?_eq_some_iff.1 hc).1; rw [List.length_map] at this; omega
        have HH := kide (handsOver_any xs WR.out HC.out hnc hn4 (HBL.out.trans BR.out) hS p cl hcl hcn hcd hl2 hl4 y0 y1 hee hy0 hy1 hyn (-n) heye (by rw [Int.neg_neg]; simp) (by rw [HWL.out]; exact HWS.out p hpn) hrl)
        have HAND : Hid (∀ e v, RetHn w wr M S N ca nc cc (.slice (some ⟨g7, 0, none⟩) (T.length + 1) c7) eyl' rows' (T ++ [n]) ws' cl p (-n) y0 y1 e v → _) := fun e v hr => WJ.out.hands hcd hcn hp hcl hee ⟨hy0, hy1⟩ heye hr
        have HD1 : Hid (L.drop (t + 1) = rl.drop (t + 1)) := by
          show _ = _
          have h1 := congrArg (List.drop 1) HLD.out
          simpa [List.drop_drop, Nat.add_comm] using h1
        have i0 : (t : Int) < (rl.length : Int) := by omega
        have HP := kide hp
        clear hrl hee hE hy0 hy1 hyn heye hcl hcd hl4 hcn hp hLt
        go_wp2_with fail
        refine Calls.mono HH.out ?_
        intro e u5 hret
        obtain ⟨f, eyl2, rows2, ws2, rfl, hm5, hb5, hl5, hk5, hj5⟩ := HAND.out e u5 hret
        have W5 := kide hm5
        have B5 := kide (BR.out.trans hb5)
        have L5 := kide (hl5.trans HWL.out)
        have R5 := kide (hk5 k0 _ HK0.out HRR.out)
        have J5 := kide hj5
        clear hm5 hb5 hl5 hk5 hj5 hret HAND HH e0
        cases f with
        | true =>
          rw [if_pos rfl] at J5
          go_wp2_with fail
          go_roundw
          case rel => exact ⟨t + 1, kept, L, eyl2, rows2, ws2, by omega, by go_num, rfl, by omega, HLL.out, HLK.out, HD1.out, R5.out, W5.out, J5.out, L5.out, B5.out⟩
          case measure => simp only [intOf]; omega
        | false =>
          rw [if_neg (by decide)] at J5
          have hkl : kept.length < L.length := by have := HLL.out; omega
          have HA5 : Hid (Below u5.heap.size u5 (u5.alloc (Obj.cells #[Value.int .i64 (p : Int)] 3))) := (Below.refl _ _).alloc (Nat.le_refl _) _
          have W6 := kide (W5.out.later HA5.out)
          have c6 : ((u5.alloc (Obj.cells #[Value.int .i64 (p : Int)] 3)).cell? ⟨g, kept.length, none⟩).isSome = true := by
            rw [OJ.cellO (W6.out.rw k0 _ R5.out) (i := kept.length) (by simpa using hkl)]
            rfl
          have z6 : (u5.alloc (Obj.cells #[Value.int .i64 (p : Int)] 3)).frozen? ⟨g, kept.length, none⟩ = false := OJ.frozO (W6.out.rw k0 _ R5.out) _
          have W7 := kide (W6.out.cellAt R5.out (i := kept.length) (p := p) hkl)
          have B7 := kide ((B5.out.trans (HA5.out.mono (Nat.le_trans HBL.out.size B5.out.size))).setCell (p := ⟨g, kept.length, none⟩) hgB (Value.int .i64 (p : Int)))
          have J7 := kide (J5.out.wtO (wt' := wtF S (rows2.set k0 (.slice (some ⟨g, 0, none⟩) L.length cap, L.set kept.length p))) fun k hk => by rw [wtF_set R5.out HK0.out (by omega), if_neg hk])
          go_wp2_with (refine wpList_fitJ rfl _ _ rfl g kept.length cap rfl u5.heap.size 1 rfl (p : Int) (by simp) (by have := HCP.out; have := HLL.out; omega) c6 z6 ?_)
          go_roundw
          case rel => exact ⟨t + 1, kept ++ [p], L.set kept.length p, eyl2, _, ws2, by omega, by go_num, by rw [List.length_append]; rfl, by rw [List.length_append, List.length_singleton]; omega, by rw [List.length_set]; exact HLL.out, by
            rw [List.length_append, List.length_singleton, List.take_add_one, List.take_set_of_le (Nat.le_refl _), HLK.out, List.getElem?_set_self hkl]
            rfl, by rw [List.drop_set_of_lt (by omega)]; exact HD1.out, by rw [List.getElem?_set_self (List.getElem?_eq_some_iff.1 R5.out).1, List.length_set], W7.out, J7.out, L5.out, B7.out⟩
          case measure => simp only [intOf]; omega
      · obtain rfl : t = rl.length := by omega
        have d7 : wr.cell? ⟨M.bx, 3, none⟩ = some (.slice (some ⟨M.wt, 0, none⟩) N N) := WR.out.bx.cell 3
        have d8 : wr.cell? ⟨M.wt, k0, none⟩ = some (.slice (some ⟨g, 0, none⟩) L.length cap) := (WR.out.wt.cell k0).trans (by rw [List.getElem?_toArray, List.getElem?_map, HRR.out]; rfl)
        have f8 := WR.out.wt.froz k0
        have WE := kide (WR.out.keptAt HRR.out (i := kept.length) (by rw [HLL.out]; exact hkt) (Nat.le_trans HBL.out.size BR.out.size))
        have BE := kide (BR.out.setCell (p := ⟨M.wt, k0, none⟩) HW.out.lo.2.2.1 (Value.slice (some ⟨g, 0, none⟩) kept.length cap))
        have WIE := kide (WJ.out.end (wt' := wtF S (rows'.set k0 (Value.slice (some ⟨g, 0, none⟩) kept.length cap, L.take kept.length))) (Nat.le_refl _) (by rw [wtF_set HRR.out HK0.out (by omega), if_pos rfl]; exact HLK.out) (fun k hk => by rw [wtF_set HRR.out HK0.out (by omega), if_neg hk]))
        go_wp2_with fail
        exact bodyPost_end (v := .tuple #[]) (by simp [results, Tryd.results37, go_sem]) rfl ⟨rfl, _, _, _, _, WE.out, WIE.out, HWL.out, BE.out⟩
end Go.Proofs.YtmfamdonbgmjbaaDoor
