/- Several texts in one. -/
import Derived.Test.YtheglnkndjheaaaGreatDoorZPC
import Derived.Test.YtheglnkndjheaaaGreatDoorZIA
import Derived.Test.YtheglnkndjheaaaGreatDoorTQC
import Derived.Test.YtheglnkndjheaaaGreatDoorZTH
import Derived.Test.YtheglnkndjheaaaGreatDoorZIE

/- The program's Parts: the sets' literals, a grove between joins, rows of rows of literals. -/
namespace Go.Proofs.YtheglnkndjheaaaGreatDoor
set_option linter.unusedVariables false
set_option linter.unusedSimpArgs false
open Go.RowKit

/-- The literals of a set. -/
def pkS (xs : List Lg) (s : List Int) : List Lg := s.filterMap fun z => xs[z.toNat]?
def lprt (xs : List Lg) (L : Nat → Nat) (n : Nat) : Nat → List (List Lg)
  | 0 => []
  | k + 1 => lprt xs L n k ++ (if Fo.setR L k n = [] then [] else [pkS xs (Fo.setR L k n)])

theorem pkS_cons {xs : List Lg} {z : Int} {s : List Int} {x : Lg} (h : xs[z.toNat]? = some x) : pkS xs (z :: s) = x :: pkS xs s := by simp [pkS, h]

theorem pkS_next {xs : List Lg} {s : List Int} {j : Nat} {z : Int} {x : Lg} (hz : s[j]? = some z) (h : xs[z.toNat]? = some x) : pkS xs (s.take (j + 1)) = pkS xs (s.take j) ++ [x] := by
  unfold pkS
  rw [List.take_add_one, hz, List.filterMap_append]
  simp [h]

theorem pkS_ids (xs : List Lg) : ∀ s : List Int, (∀ z ∈ s, 0 ≤ z ∧ z < (xs.length : Int)) → (pkS xs s).map Lg.id = idsP (xs.map Lg.id) s ∧ (pkS xs s).length = s.length ∧ ∀ x ∈ pkS xs s, x ∈ xs
  | [], _ => by simp [pkS, idsP]
  | z :: t, h => by
    obtain ⟨i1, i2, i3⟩ := pkS_ids xs t fun y hy => h y (List.mem_cons_of_mem _ hy)
    obtain ⟨h1, h2⟩ := h z (List.mem_cons_self ..)
    have hl : z.toNat < xs.length := by omega
    obtain ⟨x, hx⟩ : ∃ x, xs[z.toNat]? = some x := ⟨_, List.getElem?_eq_getElem hl⟩
    rw [pkS_cons hx]
    refine ⟨?_, by simp [i2], fun y hy => ?_⟩
    · rw [List.map_cons, i1]
      simp [idsP, List.getD, hx]
    · rcases List.mem_cons.1 hy with e | hy
      · rw [e]; exact List.mem_of_getElem? hx
      · exact i3 y hy

theorem lprt_ids (xs : List Lg) (L : Nat → Nat) : ∀ k, (lprt xs L xs.length k).map (fun ys => ys.map Lg.id) = prtR (xs.map Lg.id) L xs.length k
  | 0 => rfl
  | k + 1 => by
    unfold lprt prtR
    rw [List.map_append, lprt_ids xs L k]
    congr 1
    split
    · rfl
    · simp only [List.map_cons, List.map_nil]
      rw [(pkS_ids xs _ (Fo.setR_in L k xs.length)).1]

theorem lprt_len (xs : List Lg) (L : Nat → Nat) (n : Nat) : ∀ k, (lprt xs L n k).length ≤ k
  | 0 => by simp [lprt]
  | k + 1 => by
    have := lprt_len xs L n k
    unfold lprt
    split <;> simp <;> omega

theorem lprt_in (xs : List Lg) (L : Nat → Nat) : ∀ k, ∀ ys ∈ lprt xs L xs.length k, ys.length ≤ xs.length ∧ ∀ x ∈ ys, x ∈ xs
  | 0, ys, h => by simp [lprt] at h
  | k + 1, ys, h => by
    unfold lprt at h
    rcases List.mem_append.1 h with h | h
    · exact lprt_in xs L k ys h
    · split at h
      · simp at h
      · simp at h
        subst h
        obtain ⟨-, h2, h3⟩ := pkS_ids xs _ (Fo.setR_in L k xs.length)
        exact ⟨by rw [h2]; exact Fo.setR_len L k _, h3⟩

/-- A grove behind joins. -/
def Gj (w : World) (B N : Nat) (P : List (Nat × Nat)) (K : Nat) (u : World) : Prop :=
  ∃ s rt dp M, Fo.Gv u B B M s ∧ Fo.Nl s ∧ Uf s.ps.length (mrgs id P) s.up s.le rt dp ∧ s.ps.length = N ∧ s.ts.length ≤ M ∧ M ≤ K ∧ Below B w u ∧ B ≤ u.heap.size

theorem Gj.later {w u u' : World} {B N K : Nat} {P : List (Nat × Nat)} (h : Gj w B N P K u) (hb : Below u.heap.size u u') : Gj w B N P K u' := by
  obtain ⟨s, rt, dp, M, h1, h2, h3, h4, h5, h6, h7, h8⟩ := h
  exact ⟨s, rt, dp, M, h1.later hb, h2, h3, h4, h5, h6, h7.trans (hb.mono h8), Nat.le_trans h8 hb.size⟩

theorem Gj.more {w u : World} {B N K K' : Nat} {P : List (Nat × Nat)} (h : Gj w B N P K u) (hK : K ≤ K') : Gj w B N P K' u := by
  obtain ⟨s, rt, dp, M, h1, h2, h3, h4, h5, h6, h7, h8⟩ := h
  exact ⟨s, rt, dp, M, h1, h2, h3, h4, h5, Nat.le_trans h6 hK, h7, h8⟩

theorem OI.kt {u u' : World} {B : Nat} {v : Value} {xs : List Int} (h : OI u B v xs) (hk : Fo.Kt u u') : OI u' B v xs := h.move fun b hb => by
  obtain ⟨cur, hc⟩ := rowty h hb
  rw [hc]
  exact hk b cur _ hc (by decide) (by decide) (by decide)

/-- One join more. -/
theorem Gj.join {w u : World} {B N K a b : Nat} {P : List (Nat × Nat)} (h : Gj w B N P K u) (ha : a < N) (hb : b < N) (hK : K ≤ 1000000) (y : Int) (lb : Nat) (lc : Array Value) (hX : Fo.Bx u lb lc 2) :
    ∃ kb cap pa pb, u.cell? ⟨B, 0, none⟩ = some (.slice (some ⟨kb, 0, none⟩) N cap) ∧ u.cell? ⟨kb, a, none⟩ = some (.pointer (some ⟨pa, 0, none⟩)) ∧ u.cell? ⟨kb, b, none⟩ = some (.pointer (some ⟨pb, 0, none⟩)) ∧
    Calls Tryz.prog 57 #[.pointer (some ⟨B, 0, none⟩), .pointer (some ⟨pa, 0, none⟩), .pointer (some ⟨pb, 0, none⟩), .int .i64 y] u fun e u' => (∃ r, e = .returned (.bool r)) ∧ Gj w B N (P ++ [(a, b)]) (K + 1) u' ∧ Fo.Kt u u' ∧ u'.cell? ⟨B, 0, none⟩ = some (.slice (some ⟨kb, 0, none⟩) N cap) ∧ u'.cell? ⟨kb, a, none⟩ = some (.pointer (some ⟨pa, 0, none⟩)) ∧ u'.cell? ⟨kb, b, none⟩ = some (.pointer (some ⟨pb, 0, none⟩)) := by
  obtain ⟨s, rt, dp, M, h1, h2, h3, h4, h5, h6, h7, h8⟩ := h
  obtain ⟨pa, hpa⟩ : ∃ p, s.ps[a]? = some p := ⟨_, List.getElem?_eq_getElem (by omega)⟩
  obtain ⟨pb, hpb⟩ : ∃ p, s.ps[b]? = some p := ⟨_, List.getElem?_eq_getElem (by omega)⟩
  obtain ⟨ak, ck, ek, hck⟩ := h1.kform
  obtain ⟨kb, rfl, qa⟩ := hck a pa hpa
  obtain ⟨kb2, e2, qb⟩ := hck b pb hpb
  cases e2
  have hkc : s.kc = .slice (some ⟨kb, 0, none⟩) N ck := by rw [h2.k, ek, h4]
  obtain ⟨curk, hcurk⟩ : ∃ cur, u.heap[kb]? = some (.cells cur 94 (0, 0)) := rowty h1.kr (b := kb) (by rw [ek]; rfl)
  refine ⟨kb, ck, pa, pb, ?_, qa, qb, ?_⟩
  · rw [Fo.cell_of h1.gb]
    show some s.kc = _
    rw [hkc]
  · have hr1 := (h3.rlt a (by omega))
    have hr2 := (h3.rlt b (by omega))
    refine Calls.mono (Fo.join_any h1 h2 h8 h3 a b pa pb hpa hpb y (by omega) (by omega) lb lc 2 hX (by decide) (by decide) (by decide)) ?_
    rintro e u' (⟨hj, rfl, g1, g2, -, g3⟩ | ⟨-, rfl, s', rt', dp', g1, g2, g3, g4, -, g5, -, gk, g6⟩)
    · have hcu := g3 kb curk _ hcurk (by decide) (by decide) (by decide)
      refine ⟨⟨_, rfl⟩, ⟨s, rt, dp, M, g1, h2, ?_, h4, h5, by omega, h7.trans g2, Nat.le_trans h8 g2.size⟩, g3, by rw [Fo.cell_of g1.gb]; exact congrArg some hkc, (World.cell?_of_block (a := ⟨kb, a, none⟩) (hcu.trans hcurk.symm)).trans qa, (World.cell?_of_block (a := ⟨kb, b, none⟩) (hcu.trans hcurk.symm)).trans qb⟩
      have hsame : mrgs id P a = mrgs id P b := by
        have e1 := h3.lst a (by omega)
        have e2 := h3.lst b (by omega)
        rw [hj, e2] at e1
        omega
      have e : mrgs id (P ++ [(a, b)]) = mrgs id P := by
        rw [mrgs_app]
        exact mrg_same hsame
      rw [e]
      exact h3
    · obtain ⟨k1, -, t, k2, -⟩ := g6
      have hcu := k1 kb curk _ hcurk (by decide) (by decide) (by decide)
      refine ⟨⟨_, rfl⟩, ⟨s', rt', dp', M + 1, g1, g2, ?_, by rw [g4]; exact h4, by rw [k2]; simp; omega, by omega, h7.trans g5, Nat.le_trans h8 g5.size⟩, k1, by rw [Fo.cell_of g1.gb]; exact congrArg some (gk.trans hkc), (World.cell?_of_block (a := ⟨kb, a, none⟩) (hcu.trans hcurk.symm)).trans qa, (World.cell?_of_block (a := ⟨kb, b, none⟩) (hcu.trans hcurk.symm)).trans qb⟩
      rw [mrgs_app, g4]
      exact g3

theorem Tryz.infoRowL : (Tryz.prog.info? 31).map (fun i => (i.zero, i.size, i.bytes)) = some (some (.slice none 0 0), 1, 24) := by kernel_rfl

/-- 'append(rows, row)' of rows of literals. -/
theorem wpList_appRL {w : World} {ops : Array Oper} {rest : List Oper} {o : Oper} {a : Act} {Q : Exit → Act → World → Prop} (hgd : o.guard = none) (s x : Operand)
    (ho : o.op = .call { callee := .builtin .append, args := #[s, x], argTypes := #[67, 67] })
    (B : Nat) (v : Value) (vs : List Value) (y : Value) (hy : y.oneCell' = true) (hs : a.eval s = v) (hown : w.ownsRow B 31 1 v vs.length vs) (gx : Nat) (hx : a.eval x = .slice (some ⟨gx, 0, none⟩) 1 1)
    (h0 : w.cell? ⟨gx, 0, none⟩ = some y) (hl : vs.length ≤ 1073741824) (hB : B ≤ w.heap.size)
    (h : ∀ v' w', w'.ownsRow B 31 1 v' (vs ++ [y]).length (vs ++ [y]) → w.grownBy w' v.ownBlock → (v'.ownBlock = v.ownBlock ∨ v'.ownBlock = some w.heap.size) → wpList Tryz.prog ops Q rest (a.put o.dst v') w') : wpList Tryz.prog ops Q (o :: rest) a w := by
  obtain ⟨i0, hi, hz0, hz1, hz2⟩ := info_parts Tryz.infoRowL
  refine wpList_append_own_at w hgd s x 67 ho B 31 i0 _ 1 24 Tryz.underlying67 hi hz0 hz1 hz2 rfl (by decide) v vs.length vs hs hown ⟨gx, 0, none⟩ 1 1 [y] hx rfl ?_ ?_ (by unfold maxLen; omega) (by omega) hB ?_
  · intro j u hj
    rw [Addr.add_lit]
    match j, hj with
    | 0, hj => simp at hj; subst hj; exact h0
    | j + 1, hj => simp at hj
  · intro u hu
    simp at hu
    subst hu
    exact hy
  · intro v' w' ho' hg _ hat
    refine h v' w' ?_ hg hat
    rw [List.length_append]
    exact ho'

/-- Rows of literals in a row of their own. -/
structure Rl (w : World) (B : Nat) (v : Value) (vs : List Value) (yss : List (List Lg)) : Prop where
  row : w.ownsRow B 31 1 v vs.length vs
  len : vs.length = yss.length
  own : ∀ (i : Nat) (u : Value) (ys : List Lg), vs[i]? = some u → yss[i]? = some ys → OL4 w B u ys

theorem Rl.nil (w : World) (B : Nat) : Rl w B (.slice none 0 0) [] [] := ⟨⟨rfl, .inl ⟨rfl, rfl⟩⟩, rfl, fun i u xs h => by simp at h⟩
theorem Rl.later {w w' : World} {B : Nat} {v : Value} {vs : List Value} {yss : List (List Lg)} (h : Rl w B v vs yss) (hb : Below w.heap.size w w') : Rl w' B v vs yss :=
  ⟨rowmove h.row fun b hb' => hb.block b (rowlt h.row hb').2, h.len, fun i u ys h1 h2 => (h.own i u ys h1 h2).later hb⟩

theorem OL4.low {w : World} {B B' : Nat} {v : Value} {xs : List Lg} (h : OL4 w B v xs) (hB : B' ≤ B) : OL4 w B' v xs := by
  refine ⟨h.1, ?_⟩
  rcases h.2 with h0 | ⟨g, cap, cur, rfl, hg, r⟩
  · exact .inl h0
  · exact .inr ⟨g, cap, cur, rfl, Nat.le_trans hB hg, r⟩

theorem Rl.low {w : World} {B B' : Nat} {v : Value} {vs : List Value} {yss : List (List Lg)} (h : Rl w B v vs yss) (hB : B' ≤ B) : Rl w B' v vs yss := by
  refine ⟨⟨h.row.1, ?_⟩, h.len, fun i u ys h1 h2 => (h.own i u ys h1 h2).low hB⟩
  rcases h.row.2 with h0 | ⟨g, cap, cur, e, hg, r⟩
  · exact .inl h0
  · exact .inr ⟨g, cap, cur, e, Nat.le_trans hB hg, r⟩

theorem ol4_slice {w : World} {B : Nat} {v : Value} {l : List Lg} (h : OL4 w B v l) : ∃ a c, v = .slice a l.length c := by
  rcases h.2 with ⟨e', h0⟩ | ⟨g, cap, cur, e', -⟩
  · exact ⟨_, _, by rw [e', h0]⟩
  · exact ⟨_, _, e'⟩

theorem Rl.push {w w1 w2 : World} {B : Nat} {v v' u : Value} {vs : List Value} {yss : List (List Lg)} {ys : List Lg} (h : Rl w B v vs yss) (hb : Below w.heap.size w w1) (hu : OL4 w1 B u ys) (hrow : w2.ownsRow B 31 1 v' (vs ++ [u]).length (vs ++ [u])) (hg : w1.grownBy w2 v.ownBlock) : Rl w2 B v' (vs ++ [u]) (yss ++ [ys]) where
  row := hrow
  len := by simp [h.len]
  own := fun i y zs h1 h2 => by
    have hl := h.len
    have h' := h.later hb
    have key : ∀ (y : Value) (zs : List Lg), OL4 w1 B y zs → OL4 w2 B y zs := fun y zs ho => by
      refine ⟨ho.1, ?_⟩
      rcases ho.2 with h0 | ⟨g, cap, cur, rfl, r1, r2, r3⟩
      · exact .inl h0
      · have hne : some g ≠ v.ownBlock := fun e => by
          obtain ⟨c1, e1⟩ := rowty h'.row e.symm
          rw [r2] at e1
          cases e1
        exact .inr ⟨g, cap, cur, rfl, r1, (hg.block g (lt_of_block r2) hne).trans r2, r3⟩
    rcases last_or h1 with ⟨a1, a2⟩ | ⟨a1, rfl⟩
    · rcases last_or h2 with ⟨c1, c2⟩ | ⟨c1, rfl⟩
      · exact key _ _ (h'.own i y zs a2 c2)
      · omega
    · rcases last_or h2 with ⟨c1, c2⟩ | ⟨c1, rfl⟩
      · omega
      · exact key _ _ hu

end Go.Proofs.YtheglnkndjheaaaGreatDoor

/- The program's partsOfList. -/
namespace Go.Proofs.YtheglnkndjheaaaGreatDoor
set_option linter.unusedVariables false
set_option linter.unusedSimpArgs false
open Go.RowKit

/-- A grove without knots. -/
theorem Gv_none (w : World) (B : Nat) (hB : w.heap.size = B) : Fo.Gv (w.alloc (Obj.cells #[.slice none 0 0, .slice none 0 0] 93)) B B 0 (Fo.Gs.fresh [] (.slice none 0 0)) := by
  refine ⟨Nat.le_refl _, ?_, ⟨rfl, .inl ⟨rfl, rfl⟩⟩, fun i p hi => ?_, fun i hi => ?_, ⟨rfl, .inl ⟨rfl, rfl⟩⟩, fun k t l ht => ?_, fun i j hi => ?_, fun i hi => ?_⟩
  · have := heap_alloc_new w (Obj.cells #[.slice none 0 0, .slice none 0 0] 93)
    rw [← hB]
    exact this
  · have : ([] : List Nat)[i]? = some p := hi
    simp at this
  · have : i < ([] : List Nat).length := hi
    simp at this
  · have : ([] : List Nat)[k]? = some t := ht
    simp at this
  · have : i < ([] : List Nat).length := hi
    simp at this
  · have : i < ([] : List Nat).length := hi
    simp at this

/-- One literal of a list. -/
theorem RdL.one {w : World} {b o k : Nat} {xs : List Lg} {x : Lg} (h : RdL w (some ⟨b, o, none⟩) xs) (hx : xs[k]? = some x) : RdL w (some ⟨b, o + k * 4, none⟩) [x] := by
  obtain ⟨b', o', e, h1⟩ := h.at hx
  cases e
  refine ⟨by simp, .inr ⟨b, o + k * 4, rfl, fun i n hi => ?_⟩⟩
  match i, hi with
  | 0, hi => simp at hi; subst hi; simpa using h1
  | i + 1, hi => simp at hi

theorem have_next {ds : List Dc} {ls : List Lc} {n k : Nat} {l : Lc} (h : ls[k]? = some l) : haveL (vN ds ls) n (k + 1) = haveL (vN ds ls) n k ++ (lvR ds l).map fun z => (k, n + z.toNat) := by
  show haveL (vN ds ls) n k ++ (vN ds ls k).map _ = _
  rw [vN_at h, List.map_map]
  rfl

theorem vj_next {zs : List Int} {k n j : Nat} {z : Int} (h : zs[j]? = some z) (P : List (Nat × Nat)) : P ++ (zs.take (j + 1)).map (fun z => (k, n + z.toNat)) = (P ++ (zs.take j).map fun z => (k, n + z.toNat)) ++ [(k, n + z.toNat)] := by
  rw [List.take_add_one, h]
  simp

set_option maxHeartbeats 2000000 in
set_option maxRecDepth 100000 in
theorem partsOfList_any (a b : Option Addr) (c c2 n dn : Nat) (ds : List Dc) (xs : List Lg) (w : World) (hs : RdL w b xs) (hn : xs.length = n) (hL : litR ds (xs.map Lg.ct) = true) (hdn : ds.length = dn) (hd6 : dn ≤ 60) (hc2 : n ≤ c2) :
    Calls Tryz.prog 33 #[.slice a dn c, .slice b n c2] w fun e w' => ∃ v vs, e = .returned v ∧ Rl w' w.heap.size v vs (lprt xs (mrgs id (haveL (vN ds (xs.map Lg.ct)) n n)) n n) ∧ Below w.heap.size w w' := by
  have HS := kide hs
  have HN := kide hn
  have HLL := kide (lit_len hL)
  have hn6 : n ≤ 60 := by have := HLL.out.1; rw [List.length_map, hn] at this; exact this
  have HSD : Hid (∀ l ∈ xs.map Lg.ct, sideR ds l = true) := by
    rw [litR_eq] at hL
    simp only [Bool.and_eq_true, List.all_eq_true] at hL
    exact hL.2
  have HRG : Hid (∀ (l : Lc) (z : Int), z ∈ lvR ds l → 0 ≤ z ∧ z < (dn : Int)) := fun l z hz => by rw [← hdn]; exact lv_range hz
  obtain ⟨B, hB⟩ : ∃ B, w.heap.size = B := ⟨_, rfl⟩
  have G0 := kide (Gv_none w B hB)
  have B0 : Hid (Below B w (w.alloc (Obj.cells #[.slice none 0 0, .slice none 0 0] 93))) := (Below.refl _ _).alloc (by rw [← hB]; exact Nat.le_refl _) _
  have HB := kide hB
  have w0 : wrap64 ((n : Int) + (dn : Int)) = ((n + dn : Nat) : Int) := by unfold wrap64; omega
  obtain ⟨N, hN⟩ : ∃ N, n + dn = N := ⟨_, rfl⟩
  rw [hN] at w0
  have HNN := kide hN
  rw [hB]
  clear hs hn hL hdn hN
  go_enter Tryz.func33, Tryz.ntmps33
  go_wp2_with fail

  have e0 : (n : Int) + (dn : Int) = (N : Int) := by have := HNN.out; omega
  rw [e0]
  have hN12 : N ≤ 120 := by have := HNN.out; omega
  clear hB e0 w0
  go_loopw [23] (fun q wr => ∃ (k : Nat) (ps : List Nat) (kv : Value), k ≤ N ∧ q = .int .i64 (k : Int) ∧ ps.length = k ∧ Fo.Gv wr B B 0 (Fo.Gs.fresh ps kv) ∧ Below B w wr) (fun q _ => N - (intOf q).toNat)
  case atStart => exact ⟨0, [], _, Nat.zero_le _, rfl, rfl, G0.out, B0.out⟩
  case round =>
    obtain ⟨k, ps, kv, hk, rfl, hpl, hgv, hbl⟩ := hrel
    have HGV := kide hgv
    have HBL := kide hbl
    clear hgv hbl G0 B0
    have hN9 := HNN.out
    by_cases hlt : k < N
    · have i0 : (k : Int) < (N : Int) := by omega
      have HAD := kide (Fo.add_any HGV.out (by omega))
      unfold Fo.pt at HAD
      clear hN9
      go_wp2_with fail
      refine Calls.mono HAD.out ?_
      rintro e w1 ⟨p, v, rfl, hg1, hb1⟩
      have HG1 := kide hg1
      have HB1 := kide (HBL.out.trans hb1)
      clear hg1 hb1
      go_wp2_with fail
      go_roundw
      case rel => exact ⟨k + 1, ps ++ [p], v, by omega, by go_num, by simp [hpl], HG1.out, HB1.out⟩
      case measure => simp [intOf]; omega
    · have e : k = N := by omega
      have hwz := HBL.out.size
      have J0 : Hid (Gj w B N (haveL (vN ds (xs.map Lg.ct)) n 0) (0 * 120) wr) := ⟨Fo.Gs.fresh ps kv, id, fun _ => 0, 0, HGV.out, ⟨rfl, rfl, fun _ => rfl, rfl⟩, by
          show Uf ps.length id (fun _ => none) (fun i => (i : Int)) id (fun _ => 0)
          exact Uf.start _, by rw [← e]; exact hpl, Nat.le_refl _, Nat.le_refl _, HBL.out, by rw [← HB.out]; exact hwz⟩
      clear hpl HGV HBL e hwz hN9
      go_wp2_with fail

      go_loopw [30] (fun q wr => ∃ k : Nat, k ≤ n ∧ q = .int .i64 (k : Int) ∧ Gj w B N (haveL (vN ds (xs.map Lg.ct)) n k) (k * 120) wr) (fun q _ => n - (intOf q).toNat)
      case atStart => exact ⟨0, Nat.zero_le _, rfl, J0.out⟩
      case round =>
        obtain ⟨k, hk, rfl, hgj⟩ := hrel
        have HJ := kide hgj
        clear hgj J0
        by_cases hlt : k < n
        · have i0 : (k : Int) < (n : Int) := by omega
          have hk2 : k + 1 ≤ c2 := by omega
          have hk3 : (k : Int) + 1 ≤ (c2 : Int) := by omega
          obtain ⟨x, gx⟩ : ∃ x, xs[k]? = some x := ⟨xs[k]'(by rw [HN.out]; exact hlt), List.getElem?_eq_getElem _⟩
          have hbw : Below B w wr := by obtain ⟨-, -, -, -, -, -, -, -, -, -, h, -⟩ := HJ.out; exact h
          have hbz : B ≤ wr.heap.size := by obtain ⟨-, -, -, -, -, -, -, -, -, -, -, h⟩ := HJ.out; exact h
          have hbw' : Below w.heap.size w wr := by rw [HB.out]; exact hbw
          obtain ⟨b3, o3, rfl, ⟨p0, p1, p2, p3⟩, -⟩ := (HS.out.later hbw').at gx
          have gct : (xs.map Lg.ct)[k]? = some x.ct := by rw [List.getElem?_map, gx]; rfl
          have HLV := kide (lvR_len ds x.ct)
          have HZR := kide (fun z hz => HRG.out x.ct z hz)
          have HX9 := kide (have_next (ds := ds) (n := n) gct)
          have hside := HSD.out x.ct (List.mem_of_getElem? gct)
          have hbx : Below wr.heap.size wr (wr.alloc (Obj.cells #[Value.int .i64 x.id, Value.bool x.eq, Value.slice x.sa x.ss.length x.sc, Value.slice x.ta x.ts.length x.tc] 62)) := (Below.refl _ _).alloc (Nat.le_refl _) _
          have XL : Hid (Fo.Bx (wr.alloc (Obj.cells #[Value.int .i64 x.id, Value.bool x.eq, Value.slice x.sa x.ss.length x.sc, Value.slice x.ta x.ts.length x.tc] 62)) wr.heap.size #[Value.int .i64 x.id, Value.bool x.eq, Value.slice x.sa x.ss.length x.sc, Value.slice x.ta x.ts.length x.tc] 62) := Fo.Bx.new _ _ _
          have JL := kide (HJ.out.later hbx)
          have HVI : Hid (∀ (d : Nat), Calls Tryz.prog 45 #[.slice (some ⟨b3, o3 + k * 4, none⟩) 1 d] (wr.alloc (Obj.cells #[Value.int .i64 x.id, Value.bool x.eq, Value.slice x.sa x.ss.length x.sc, Value.slice x.ta x.ts.length x.tc] 62)) fun e w' => ∃ v, e = .returned v ∧ OW w' (wr.alloc (Obj.cells #[Value.int .i64 x.id, Value.bool x.eq, Value.slice x.sa x.ss.length x.sc, Value.slice x.ta x.ts.length x.tc] 62)).heap.size v (lvR ds x.ct) ∧ Below (wr.alloc (Obj.cells #[Value.int .i64 x.id, Value.bool x.eq, Value.slice x.sa x.ss.length x.sc, Value.slice x.ta x.ts.length x.tc] 62)).heap.size (wr.alloc (Obj.cells #[Value.int .i64 x.id, Value.bool x.eq, Value.slice x.sa x.ss.length x.sc, Value.slice x.ta x.ts.length x.tc] 62)) w') := fun d => by
            have h := varsIn_any (some ⟨b3, o3 + k * 4, none⟩) d 1 [x] _ (RdL.one ((HS.out.later hbw').later hbx) gx) rfl (by omega) (fun y hy => by
              simp only [List.mem_singleton] at hy
              rw [hy]
              have h9 := HLL.out.2 x.ct (List.mem_of_getElem? gct)
              simpa [Lg.ct] using h9)
            have e9 : Go.Lib.compact ((varL (nodL [x])).mergeSort fun x y => decide (x ≤ y)) = lvR ds x.ct := by
              rw [lv_one hside]
              unfold risL
              simp [nodL, Lg.ct]
            rw [e9] at h
            exact h
          obtain ⟨id, q, ss, sa, sc, ts, ta, tc⟩ := x
          simp only [] at p0 p1 p2 p3 XL JL HVI hbx
          generalize lvR ds (Lg.ct ⟨id, q, ss, sa, sc, ts, ta, tc⟩) = Vx at *
          generalize ss.length = sn at *
          generalize ts.length = tn at *
          have BX := kide hbx
          clear gx gct hside hbw hbw' hbz hbx HJ
          go_wp2_with fail

          refine Calls.mono (HVI.out _) ?_
          rintro e w4 ⟨v4, rfl, ho4, hb4⟩
          have J4 := kide (JL.out.later hb4)
          have X4 := kide (XL.out.later hb4)
          obtain ⟨a4, c4, hv4⟩ := row_slice ho4
          subst hv4
          obtain ⟨D, hD⟩ : ∃ D, (wr.alloc (Obj.cells #[Value.int .i64 id, Value.bool q, Value.slice sa sn sc, Value.slice ta tn tc] 62)).heap.size = D := ⟨_, rfl⟩
          have O4 : Hid (OI w4 D (.slice a4 Vx.length c4) Vx) := by rw [← hD]; exact ho4
          obtain ⟨bx, hbx⟩ : ∃ bx, wr.heap.size = bx := ⟨_, rfl⟩
          rw [hbx] at X4 ⊢
          obtain ⟨m, hm⟩ : ∃ m, Vx.length = m := ⟨_, rfl⟩
          rw [hm] at O4 ⊢
          have HM := kide hm
          have hm6 : m ≤ 120 := by rw [← hm]; exact HLV.out.1
          clear hD hbx hm ho4 hb4 JL XL HVI BX p0 p1 p2 p3
          have J5 : Hid (Gj w B N (haveL (vN ds (xs.map Lg.ct)) n k ++ (Vx.take 0).map fun z => (k, n + z.toNat)) (k * 120 + 0) w4) := by
            show Gj _ _ _ _ _ _
            rw [List.take_zero, List.map_nil, List.append_nil]
            exact J4.out
          generalize haveL (vN ds (xs.map Lg.ct)) n k = P0 at *
          clear J4
          go_wp2_with fail
          go_loopw [42] (fun q' wr => ∃ j : Nat, j ≤ m ∧ q' = .int .i64 (j : Int) ∧ Gj w B N (P0 ++ (Vx.take j).map fun z => (k, n + z.toNat)) (k * 120 + j) wr ∧ OI wr D (.slice a4 m c4) Vx ∧ Fo.Bx wr bx #[Value.int .i64 id, Value.bool q, Value.slice sa sn sc, Value.slice ta tn tc] 62) (fun q' _ => m - (intOf q').toNat)
          case atStart => exact ⟨0, Nat.zero_le _, rfl, J5.out, O4.out, X4.out⟩
          case round =>
            obtain ⟨j, hj, rfl, hgj, hoi, hbx⟩ := hrel
            have HJ := kide hgj
            have HO := kide hoi
            have HX := kide hbx
            clear hgj hbx J5 O4 X4
            by_cases hjm : j < m
            · have j0 : (j : Int) < (m : Int) := by omega
              obtain ⟨z, gz⟩ : ∃ z, Vx[j]? = some z := ⟨Vx[j]'(by rw [HM.out]; exact hjm), List.getElem?_eq_getElem _⟩
              obtain ⟨hz0, hz1⟩ := HZR.out z (List.mem_of_getElem? gz)
              obtain ⟨zn, rfl⟩ : ∃ zn : Nat, z = (zn : Int) := ⟨z.toNat, by omega⟩
              obtain ⟨a9, c9, e9, -, -, r9⟩ := HO.out.rd (by rw [HM.out]; omega) HLV.out.2
              have r9' := r9
              rcases r9' with h | ⟨g4, o4, h, hc9⟩
              · rw [h] at gz; simp at gz
              subst h
              have q9 := hc9 j (by rw [HM.out]; exact hjm)
              have e9' : Vx.getD j 0 = (zn : Int) := by simp [List.getD, gz]
              rw [e9'] at q9
              have e8 : a4 = some ⟨g4, o4, none⟩ := by cases e9; rfl
              subst e8
              have o40 : o4 = 0 := by
                rcases HO.out.2 with ⟨h0, -⟩ | ⟨g, cap, cur, h0, -⟩
                · cases h0
                · cases h0; rfl
              subst o40
              rw [Nat.zero_add] at q9
              obtain ⟨cur4, hcur4⟩ := rowty HO.out (b := g4) rfl
              have hN9 := HNN.out
              have hkN : k < N := by omega
              have hzN : n + zn < N := by omega
              have hKK : k * 120 + j ≤ 1000000 := by omega
              have i1 : (k : Int) < (N : Int) := by omega
              have i2 : (n : Int) + (zn : Int) < (N : Int) := by omega
              have hzn6 : zn ≤ 60 := by omega
              have i3 : (0 : Int) ≤ (n : Int) + (zn : Int) := by omega
              have hwr : IntKind.i64.wrap ((n : Int) + (zn : Int)) = (n : Int) + (zn : Int) := by rw [IntKind.wrap_i64]; first | omega | (unfold wrap64; omega)
              obtain ⟨kb, cap, pa, pb, q1, q2, q3, hcj⟩ := (HJ.out.later (Below.refl _ _).drew).join hkN hzN hKK id g4 cur4 hcur4
              replace q1 : wr.cell? ⟨B, 0, none⟩ = some (.slice (some ⟨kb, 0, none⟩) N cap) := q1
              replace q2 : wr.cell? ⟨kb, k, none⟩ = some (.pointer (some ⟨pa, 0, none⟩)) := q2
              have ETN : Hid (((n : Int) + (zn : Int)).toNat = n + zn) := by show _ = _; omega
              replace q3 : wr.cell? ⟨kb, ((n : Int) + (zn : Int)).toNat, none⟩ = some (.pointer (some ⟨pb, 0, none⟩)) := by rw [ETN.out]; exact q3
              have q4 := HX.out.cell 0
              simp at q4
              have HCJ := kide hcj
              have HNX := kide (vj_next (k := k) (n := n) gz P0)
              rw [show ((zn : Int)).toNat = zn from Int.toNat_natCast zn] at HNX
              clear hcj hc9 r9 e9 e9' hz0 hz1 gz hN9 hcur4 hoi hkN hzN hKK
              go_wp2_with fail
              go_region_held3 (fun u => u.cell? ⟨B, 0, none⟩ = some (.slice (some ⟨kb, 0, none⟩) N cap) ∧ u.cell? ⟨kb, k, none⟩ = some (.pointer (some ⟨pa, 0, none⟩)) ∧ u.cell? ⟨kb, ((n : Int) + (zn : Int)).toNat, none⟩ = some (.pointer (some ⟨pb, 0, none⟩)) ∧ u.cell? ⟨bx, 0, none⟩ = some (.int .i64 id)) (simp [*])
                ((go_at_call 57; refine Calls.mono HCJ.out ?_; rintro e w6 ⟨⟨r, rfl⟩, hg6, hk6, k1, k2, k3⟩; rw [← ETN.out] at k3; have k4 : w6.cell? ⟨bx, 0, none⟩ = some (.int .i64 id) := (Fo.Bx.cell (u := w6) (hk6 bx _ _ HX.out (by decide) (by decide) (by decide)) 0)))

              have J6 : Hid (Gj w B N (P0 ++ (Vx.take (j + 1)).map fun z => (k, n + z.toNat)) (k * 120 + (j + 1)) w6) := by
                show Gj _ _ _ _ _ _
                rw [HNX.out]
                exact hg6
              have O6 := kide (HO.out.kt hk6)
              have X6 : Hid (Fo.Bx w6 bx #[Value.int .i64 id, Value.bool q, Value.slice sa sn sc, Value.slice ta tn tc] 62) := hk6 bx _ _ HX.out (by decide) (by decide) (by decide)
              clear hg6 hk6 q1 q2 q3 q4 q9 k1 k2 k3 k4
              go_wp2_with fail
              go_roundw
              case rel => exact ⟨j + 1, by omega, by first | rfl | go_num, J6.out, O6.out, X6.out⟩
              case measure => simp only [intOf, Int.toNat_natCast]; omega
            · have e : j = m := by omega
              have J6 : Hid (Gj w B N (haveL (vN ds (xs.map Lg.ct)) n (k + 1)) ((k + 1) * 120) wr) := by
                show Gj _ _ _ _ _ _
                rw [HX9.out]
                have h := HJ.out
                rw [List.take_of_length_le (by rw [HM.out]; omega)] at h
                exact h.more (by omega)
              clear hoi e
              go_wp2_with fail
              go_roundw
              case rel => exact ⟨k + 1, by omega, by first | rfl | go_num, J6.out⟩
              case measure => simp only [intOf, Int.toNat_natCast]; omega
        · have e : k = n := by omega
          subst e
          skip
          obtain ⟨s, rt, dp, M, h1, h2, h3, h4, h5, h6, h7, h8⟩ := HJ.out
          have hle : Hid (∀ i, mrgs id (haveL (vN ds (xs.map Lg.ct)) k k) i ≤ i) := mrgs_le _ (fun _ => Nat.le_refl _)
          have HST := kide (Fo.setsG_any h1 h2 h3 k (by have := HNN.out; omega) (fun i hi => by have := hle.out i; omega) (by omega))
          unfold Fo.pt at HST
          have BW := kide h7
          have HLK := kide h8
          obtain ⟨L, hLe⟩ : ∃ L, mrgs id (haveL (vN ds (xs.map Lg.ct)) k k) = L := ⟨_, rfl⟩
          rw [hLe] at HST
          have HLE := kide hLe
          clear hLe
          clear h1 h2 h3 h4 h5 h6 h7 h8 HJ HSD HRG HLL hle
          go_wp2_with fail
          refine Calls.mono HST.out ?_
          rintro e w5 ⟨g, f, rfl, hst, hb5⟩
          have S5 := kide hst
          have B5 := kide (BW.out.trans (hb5.mono HLK.out))
          clear hst hb5 HST BW HLK
          go_wp2_with fail

          go_loopw [10, 74] (fun v q wr => ∃ (i : Nat) (vs : List Value), i ≤ k ∧ q = .int .i64 (i : Int) ∧ Rl wr w5.heap.size v vs (lprt xs L k i) ∧ Below w5.heap.size w5 wr) (fun _ q _ => k - (intOf q).toNat)
          case atStart => exact ⟨0, [], Nat.zero_le _, rfl, Rl.nil _ _, Below.refl _ _⟩
          case round =>
            obtain ⟨i, vs, hi, rfl, hrl, hbel⟩ := hrel
            obtain ⟨av, cv, rfl⟩ := row_slice hrl.row
            have HRL := kide hrl
            have HBL := kide hbel
            clear hrl hbel
            by_cases hlt : i < k
            · have i0 : (i : Int) < (k : Int) := by omega
              have hst := S5.out.later HBL.out
              have q0 := hst.row.cell hlt
              obtain ⟨ai, ci, hfi⟩ := row_slice (hst.own i hlt)
              rw [hfi] at q0
              obtain ⟨D5, OS⟩ : ∃ D5, Hid (OI wr D5 (.slice ai (Fo.setR L i k).length ci) (Fo.setR L i k)) := ⟨_, by rw [← hfi]; exact hst.own i hlt⟩
              have HSI := kide (Fo.setR_in L i k)
              have HSL := kide (Fo.setR_len L i k)
              have HPK := kide (pkS_ids xs (Fo.setR L i k) (by rw [HN.out]; exact Fo.setR_in L i k))
              have HPR : Hid (lprt xs L k (i + 1) = lprt xs L k i ++ (if Fo.setR L i k = [] then [] else [pkS xs (Fo.setR L i k)])) := rfl
              obtain ⟨S, hS⟩ : ∃ S, Fo.setR L i k = S := ⟨_, rfl⟩
              rw [hS] at q0 OS HSI HSL HPK HPR
              obtain ⟨m, hm⟩ : ∃ m, S.length = m := ⟨_, rfl⟩
              rw [hm] at q0 OS HSL
              have HM := kide hm
              have hmk : m ≤ 60 := by have := HSL.out; omega
              clear hst hfi hS hm
              go_wp2_with fail
              obtain ⟨wo, hwo⟩ : ∃ wo, wo = wr := ⟨_, rfl⟩
              subst hwo
              go_loopw [13, 80] (fun v q wr => ∃ j : Nat, j ≤ m ∧ q = .int .i64 (j : Int) ∧ OL4 wr wo.heap.size v (pkS xs (S.take j)) ∧ Below wo.heap.size wo wr) (fun _ q _ => m - (intOf q).toNat)
              case atStart => exact ⟨0, Nat.zero_le _, rfl, OL4.nil _ _, Below.refl _ _⟩
              case round =>
                obtain ⟨j, hj, rfl, hol, hbi⟩ := hrel
                have HO := kide hol
                have HBI := kide hbi
                have HBW : Hid (Below w.heap.size w wr) := by
                  show Below _ _ _
                  rw [HB.out]
                  exact B5.out.trans ((HBL.out.trans (hbi.mono HBL.out.size)).mono (Nat.le_trans (by rw [← HB.out]; exact Nat.le_refl _) B5.out.size))
                clear hol
                by_cases hjm : j < m
                · have j0 : (j : Int) < (m : Int) := by omega
                  obtain ⟨z, gz⟩ : ∃ z, S[j]? = some z := ⟨S[j]'(by rw [HM.out]; exact hjm), List.getElem?_eq_getElem _⟩
                  obtain ⟨hz0, hz1⟩ := HSI.out z (List.mem_of_getElem? gz)
                  obtain ⟨zn, rfl⟩ : ∃ zn : Nat, z = (zn : Int) := ⟨z.toNat, by omega⟩
                  have hzk : zn < k := by omega
                  have i2 : (zn : Int) < (k : Int) := by omega
                  obtain ⟨g4, hg4, q4⟩ : ∃ g4, ai = some ⟨g4, 0, none⟩ ∧ wr.cell? ⟨g4, j, none⟩ = some (.int .i64 (zn : Int)) := by
                    have hoi := OS.out.later hbi
                    rcases hoi.2 with ⟨h0, h9⟩ | ⟨g, cap, cur, h0, -⟩
                    · rw [HM.out] at h9; omega
                    · obtain ⟨hh, -⟩ := Fo.OW.cell (g := g) (cap := cap) (n := S.length) (by rw [← h0]; exact ow_of hoi) gz
                      cases h0
                      exact ⟨g, rfl, hh⟩
                  subst hg4
                  obtain ⟨x, gx⟩ : ∃ x, xs[zn]? = some x := ⟨xs[zn]'(by rw [HN.out]; exact hzk), List.getElem?_eq_getElem _⟩
                  obtain ⟨b3, o3, rfl, ⟨p2, p3, p4, p5⟩, -⟩ := (HS.out.later HBW.out).at gx
                  have HNX := kide (pkS_next gz (by rw [Int.toNat_natCast]; exact gx))
                  have HUL : Hid ((pkS xs (S.take j)).length ≤ 1073741824) := by
                    show _ ≤ _
                    have h1 := List.length_filterMap_le (fun z : Int => xs[z.toNat]?) (S.take j)
                    have h2 := List.length_take_le j S
                    unfold pkS
                    omega
                  generalize pkS xs (S.take j) = rs at *
                  obtain ⟨id, q, ss, sa, sc, ts, ta, tc⟩ := x
                  simp only [] at p2 p3 p4 p5
                  obtain ⟨sn, hsn⟩ : ∃ sn, ss.length = sn := ⟨_, rfl⟩
                  obtain ⟨tn, htn⟩ : ∃ tn, ts.length = tn := ⟨_, rfl⟩
                  rw [hsn] at p4
                  rw [htn] at p5
                  have SN := kide hsn
                  have TN := kide htn
                  clear hsn htn gx gz hz0 hz1 hbi
                  have hsz := HBI.out.size
                  go_wp2_with (at_builtin; refine wpList_appL4 rfl _ _ rfl wo.heap.size _ rs ⟨id, q, ss, sa, sc, ts, ta, tc⟩ rfl (World.ownsRow.alloc HO.out _) _ rfl (by simp) (by simp) (by rw [SN.out]; simp) (by rw [TN.out]; simp) HUL.out (by simp; omega) ?_)
                  intro v7 w7 hos hg
                  have B7 := kide (Below.grown (HBI.out.alloc hsz (Obj.cells #[Value.int .i64 id, Value.bool q, Value.slice sa sn sc, Value.slice ta tn tc] 62)) hg (by simp; omega) (fun j hj => (HO.out.lt hj).1))
                  have O7 := kide hos
                  clear hos hg p2 p3 p4 p5 q4
                  go_wp2_with fail
                  go_roundw
                  case rel => exact ⟨j + 1, by omega, by first | rfl | go_num, by rw [HNX.out]; exact O7.out, B7.out⟩
                  case measure => simp only [intOf, Int.toNat_natCast]; omega
                · have e : j = m := by omega
                  have htk : S.take j = S := List.take_of_length_le (by rw [HM.out]; omega)
                  rw [htk] at HO
                  obtain ⟨aS, cS, hvS⟩ := ol4_slice HO.out
                  subst hvS
                  have hpl : (pkS xs S).length = m := by rw [HPK.out.2.1, HM.out]
                  rw [hpl] at HO
                  have hvl : vs.length ≤ 1073741824 := by have := HRL.out.len; have := lprt_len xs L k i; omega
                  have hwz := HBI.out.size
                  have hwo := HBL.out.size
                  rw [hpl]
                  clear htk hpl e hbi
                  by_cases hm0 : 0 < m
                  · have i3 : (0 : Int) < (m : Int) := by omega
                    rw [if_neg (fun e => by rw [e] at HM; have := HM.out; simp at this; omega)] at HPR
                    have hba : Below wr.heap.size wr (wr.alloc (Obj.cells #[Value.slice aS m cS] 31)) := (Below.refl _ _).alloc (Nat.le_refl _) _
                    have Hba : Hid (Below wo.heap.size wo (wr.alloc (Obj.cells #[Value.slice aS m cS] 31))) := HBI.out.trans (hba.mono HBI.out.size)
                    have HSa := kide (HO.out.later hba)
                    have HRa := kide (HRL.out.later Hba.out).row
                    have HBa := kide (HBL.out.trans (Hba.out.mono HBL.out.size))
                    clear hba
                    go_wp2_with (at_builtin; refine wpList_appRL rfl _ _ rfl w5.heap.size _ vs (Value.slice aS m cS) rfl rfl HRa.out _ rfl (by simp) hvl (by simp; omega) ?_)
                    intro v7 w7 ho7 hg7 _
                    have R7 := kide (HRL.out.push Hba.out (HSa.out.low hwo) (by simpa using ho7) hg7)
                    have B7 := kide (Below.grown HBa.out hg7 (by simp; omega) (fun j hj => (rowlt HRa.out hj).1))
                    rw [← HPR.out] at R7
                    clear ho7 hg7
                    go_wp2_with fail
                    go_roundw
                    case rel => exact ⟨i + 1, _, by omega, by first | rfl | go_num, R7.out, B7.out⟩
                    case measure => simp only [intOf, Int.toNat_natCast]; omega
                  · have i3 : ¬ (0 : Int) < (m : Int) := by omega
                    rw [if_pos (List.eq_nil_of_length_eq_zero (by rw [HM.out]; omega)), List.append_nil] at HPR
                    have R7 := kide (HRL.out.later HBI.out)
                    have B7 := kide (HBL.out.trans (HBI.out.mono HBL.out.size))
                    rw [← HPR.out] at R7
                    go_wp2_with fail
                    go_roundw
                    case rel => exact ⟨i + 1, _, by omega, by first | rfl | go_num, R7.out, B7.out⟩
                    case measure => simp only [intOf, Int.toNat_natCast]; omega
            · have e : i = k := by omega
              subst e
              have hz := B5.out.size
              have BE : Hid (Below B w wr) := B5.out.trans (HBL.out.mono (Nat.le_trans (by rw [← HB.out]; exact Nat.le_refl _) B5.out.size))
              clear hlt
              go_wp2_with fail
              go_ret
              refine ⟨_, vs, rfl, ?_, BE.out⟩
              rw [HLE.out]
              exact HRL.out.low (by have := HB.out; omega)

end Go.Proofs.YtheglnkndjheaaaGreatDoor

/- The program's Parts. -/
namespace Go.Proofs.YtheglnkndjheaaaGreatDoor
set_option linter.unusedVariables false
set_option linter.unusedSimpArgs false
open Go.RowKit

theorem lit_dl {ds : List Dc} {ls : List Lc} (h : litR ds ls = true) : ds.length ≤ 60 := by
  rw [litR_eq] at h
  simp only [Bool.and_eq_true] at h
  have h1 := h.1.1
  unfold dclR at h1
  simp only [Bool.and_eq_true, decide_eq_true_eq] at h1
  omega

theorem pt_impl {ds : List Dc} {xs : List Lg} (h : litR ds (xs.map Lg.ct) = true) : ptR ds (xs.map Lg.ct) = ((lprt xs (mrgs id (haveL (vN ds (xs.map Lg.ct)) xs.length xs.length)) xs.length xs.length).map (fun ys => ys.map Lg.id), true) := by
  rw [lprt_ids]
  unfold ptR
  rw [if_pos h]
  have e : (xs.map Lg.ct).map Lc.id = xs.map Lg.id := by rw [List.map_map]; rfl
  rw [e, ← parts_impl, List.length_map]

set_option maxHeartbeats 2000000 in
set_option maxRecDepth 100000 in
theorem implParts_any (a b : Option Addr) (c c2 n : Nat) (ds : List Dc) (xs : List Lg) (w : World) (hr : RdD w a ds) (hs : RdL w b xs) (hn : xs.length = n) (hG : GF w) (hc2 : n ≤ c2) :
    Calls Tryz.prog 10 #[.slice a ds.length c, .slice b n c2] w fun e w' => ∃ v vs, e = .returned (.tuple #[v, .bool (ptR ds (xs.map Lg.ct)).2]) ∧ Cq w' w.heap.size v vs (ptR ds (xs.map Lg.ct)).1 ∧ Below w.heap.size w w' := by
  have HLO := kide (fun u (hu : Below w.heap.size w u) => implLits_any a b c c2 n ds xs u (hr.later hu) (hs.later hu) hn (hG.later hu))
  have HS := kide hs
  have HN := kide hn
  cases hL : litR ds (xs.map Lg.ct) with
  | false =>
    have hR : ptR ds (xs.map Lg.ct) = ([], false) := by simp [ptR, hL]
    rw [hR]
    rw [hL] at HLO
    clear hr hs hn hR hL hG
    go_enter Tryz.func10, Tryz.ntmps10
    go_wp2_with fail
    refine Calls.mono (HLO.out _ (Below.refl _ _)) ?_
    rintro e w1 ⟨rfl, hb1⟩
    have B1 := kide hb1
    clear hb1
    go_wp2_with fail
    go_returns
    exact ⟨_, [], rfl, Cq.nil _ _, B1.out⟩
  | true =>
    rw [hL] at HLO
    have hn6 : n ≤ 60 := by have := (lit_len hL).1; rw [List.length_map, hn] at this; exact this
    have hd6 := lit_dl hL
    have HPO := kide (fun u (hu : Below w.heap.size w u) => partsOfList_any a b c c2 n ds.length ds xs u (hs.later hu) hn hL rfl hd6 hc2)
    have hR := pt_impl hL
    rw [hn] at hR
    have hYL := lprt_len xs (mrgs id (haveL (vN ds (xs.map Lg.ct)) n n)) n n
    have HYI := lprt_in xs (mrgs id (haveL (vN ds (xs.map Lg.ct)) n n)) n
    rw [hn] at HYI
    generalize lprt xs (mrgs id (haveL (vN ds (xs.map Lg.ct)) n n)) n n = yss at *
    rw [hR]
    have HYI2 := kide HYI
    obtain ⟨m, hm⟩ : ∃ m, yss.length = m := ⟨_, rfl⟩
    have HM := kide hm
    have hm6 : m ≤ 60 := by omega
    generalize ds.length = dn at *
    clear hr hs hn hR hL hG hYL HYI hm
    go_enter Tryz.func10, Tryz.ntmps10
    go_wp2_with fail
    refine Calls.mono (HLO.out _ (Below.refl _ _)) ?_
    rintro e w1 ⟨rfl, hb1⟩
    have B1 := kide hb1
    clear hb1 HLO
    go_wp2_with fail
    refine Calls.mono (HPO.out _ B1.out) ?_
    rintro e w2 ⟨v2, vs2, rfl, hrl, hb2⟩
    have B2 := kide (B1.out.trans (hb2.mono B1.out.size))
    obtain ⟨a2, c2', rfl⟩ := row_slice hrl.row
    have hl2 : vs2.length = m := by rw [hrl.len, HM.out]
    have R2 := kide hrl
    rw [hl2] at R2 ⊢
    clear hrl hb2 HPO B1 hl2
    go_wp2_with fail
    go_loopw [6, 17] (fun v q wr => ∃ (k : Nat) (vs : List Value), k ≤ m ∧ q = .int .i64 (k : Int) ∧ Cq wr w2.heap.size v vs ((yss.take k).map fun ys => ys.map Lg.id) ∧ Below w2.heap.size w2 wr) (fun _ q _ => m - (intOf q).toNat)
    case atStart => exact ⟨0, [], Nat.zero_le _, rfl, Cq.nil _ _, Below.refl _ _⟩
    case round =>
      obtain ⟨k, vs, hk, rfl, hcq, hbel⟩ := hrel
      obtain ⟨av, cv, rfl⟩ := row_slice hcq.row
      have HC := kide hcq
      have HB := kide hbel
      clear hcq
      by_cases hlt : k < m
      · have i0 : (k : Int) < (m : Int) := by omega
        obtain ⟨ys, gy⟩ : ∃ ys, yss[k]? = some ys := ⟨yss[k]'(by rw [HM.out]; exact hlt), List.getElem?_eq_getElem _⟩
        have hrl := R2.out.later hbel
        obtain ⟨u, gu⟩ : ∃ u, vs2[k]? = some u := ⟨vs2[k]'(by rw [hrl.len, HM.out]; exact hlt), List.getElem?_eq_getElem _⟩
        have hym := HYI2.out ys (List.mem_of_getElem? gy)
        obtain ⟨a4, c4, rfl, hr4⟩ := (hrl.own k u ys gu gy).rd (by omega) (fun x hx => by
          obtain ⟨i, hi⟩ := List.getElem?_of_mem (hym.2 x hx)
          obtain ⟨b3, o3, -, -, r⟩ := (HS.out.later (B2.out.trans (hbel.mono B2.out.size))).at hi
          exact r)
        obtain ⟨g2, hg2, q0⟩ : ∃ g2, a2 = some ⟨g2, 0, none⟩ ∧ wr.cell? ⟨g2, k, none⟩ = some (.slice a4 ys.length c4) := by
          have hcells := fun g hg => World.ownsRow.cells hrl.row (g := g) hg
          rcases hrl.row.2 with ⟨h0, h9⟩ | ⟨g, cap, cur, h0, -⟩
          · rw [hrl.len, HM.out] at h9; omega
          · cases h0
            have c0 := hcells g rfl k _ gu
            rw [Addr.add_lit] at c0
            exact ⟨g, rfl, by simpa using c0⟩
        subst hg2
        have HID := kide (idsOf_any a4 c4 ys.length ys wr hr4 rfl)
        have HTK : Hid ((yss.take (k + 1)).map (fun ys => ys.map Lg.id) = (yss.take k).map (fun ys => ys.map Lg.id) ++ [ys.map Lg.id]) := by
          show _ = _
          rw [List.take_add_one, gy]
          simp
        have hvl : vs.length ≤ 1073741824 := by have h1 := HC.out.len; rw [List.length_map, List.length_take] at h1; omega
        generalize (yss.take k).map (fun ys => ys.map Lg.id) = zs at *
        have hsz := HB.out.size
        clear hrl hr4 gy gu hym hbel
        go_wp2_with fail
        refine Calls.mono HID.out ?_
        rintro e w4 ⟨v4, rfl, ho4, hb4⟩
        obtain ⟨a5, c5, rfl⟩ := row_slice ho4
        have O4 : Hid (OI w4 wr.heap.size (.slice a5 (ys.map Lg.id).length c5) (ys.map Lg.id)) := ho4
        have Ba : Hid (Below wr.heap.size wr (w4.alloc (Obj.cells #[Value.slice a5 (ys.map Lg.id).length c5] 40))) := hb4.trans (((Below.refl _ _).alloc (Nat.le_refl _) _).mono hb4.size)
        have Oa : Hid (OI (w4.alloc (Obj.cells #[Value.slice a5 (ys.map Lg.id).length c5] 40)) wr.heap.size (.slice a5 (ys.map Lg.id).length c5) (ys.map Lg.id)) := O4.out.later ((Below.refl _ _).alloc (Nat.le_refl _) _)
        have R4 := kide (HC.out.later Ba.out).row
        have BB := kide (HB.out.trans (Ba.out.mono HB.out.size))
        have hwz4 := hb4.size
        generalize ys.map Lg.id = zy at *
        generalize zy.length = zl at *
        clear ho4 hb4 O4
        go_wp2_with (at_builtin; refine wpList_appR rfl _ _ rfl w2.heap.size _ vs (Value.slice a5 zl c5) rfl rfl R4.out _ rfl (by simp) hvl (by simp; omega) ?_)
        intro v5 w5 ho5 hg5 _
        have C5 := kide (HC.out.push Ba.out (OI.low Oa.out hsz) (fun b hb => (Oa.out.lt hb).1) (by simpa using ho5) hg5)
        have B5 := kide (Below.grown BB.out hg5 (by simp; omega) (fun j hj => (rowlt R4.out hj).1))
        clear ho5 hg5 R4 Ba Oa
        go_wp2_with fail
        go_roundw
        case rel => exact ⟨k + 1, _, by omega, by first | rfl | go_num, by rw [HTK.out]; exact C5.out, B5.out⟩
        case measure => simp only [intOf, Int.toNat_natCast]; omega
      · have hfin : yss.take k = yss := List.take_of_length_le (by rw [HM.out]; omega)
        rw [hfin] at HC
        have BE := kide (B2.out.trans (HB.out.mono B2.out.size))
        clear hfin hbel
        go_wp2_with fail
        go_returns
        exact ⟨_, _, rfl, HC.out.sub B2.out.size, BE.out⟩

end Go.Proofs.YtheglnkndjheaaaGreatDoor
