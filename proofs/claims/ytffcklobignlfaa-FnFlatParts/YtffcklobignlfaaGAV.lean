/- Several texts in one. -/
import Derived.Test.YtffcklobignlfaaGAP
import Derived.Test.YtffcklobignlfaaGAM
import Derived.Test.YtffcklobignlfaaGAK
import Derived.Handy
import Derived.Test.YtffcklobignlfaaGAF
import Derived.Test.YtffcklobignlfaaGAO
import Derived.Test.YtffcklobignlfaaOPC
import Derived.Test.YtffcklobignlfaaGAU
namespace Go.Proofs.Ytffcklobignlfaa
open Go.RowKit
set_option linter.unusedVariables false
set_option linter.unusedSimpArgs false
theorem Try.infoK1 : (Try.prog.info? 44).map (fun i => (i.zero, i.size, i.bytes)) = some (some (.slice none 0 0), 1, 24) := by kernel_rfl
def OK1 (w : World) (B : Nat) (v : Value) (l : List Value) : Prop := w.ownsRow B 44 1 v l.length l
theorem OK1.lt {w : World} {B : Nat} {v : Value} {l : List Value} (h : OK1 w B v l) {b : Nat} (hb : v.ownBlock = some b) : B ≤ b ∧ b < w.heap.size := World.ownsRow.lt h b hb
theorem OK1.later {w w' : World} {B : Nat} {v : Value} {l : List Value} (h : OK1 w B v l) (hb : Below w.heap.size w w') : OK1 w' B v l := World.ownsRow.kept (row := none) h ⟨hb.os, hb.tape, hb.output, hb.size, fun k hk _ => hb.block k hk⟩ (by
 cases h' : v.ownBlock with
 | none => exact .inl rfl
 | some k => exact .inr (by simp))
theorem OK1.typed {w : World} {B : Nat} {v : Value} {l : List Value} (h : OK1 w B v l) {b : Nat} (hb : v.ownBlock = some b) : ∃ cur, w.heap[b]? = some (.cells cur 44 (0, 0)) := by
 rcases h.2 with ⟨rfl, -⟩ | ⟨g, cap, cur, rfl, -, hh, -⟩
 ·cases hb
 ·cases hb; exact ⟨cur, hh⟩
theorem OK1.empty (w : World) (B : Nat) (h : B ≤ w.heap.size) : OK1 (w.alloc (.cells #[] 44)) B (.slice (some ⟨w.heap.size, 0, Option.none⟩) 0 0) [] := World.ownsRow_made w #[] 0 h (Nat.zero_le _) (by simp)
theorem OK1.cell {w : World} {B g n c : Nat} {l : List Value} (h : OK1 w B (.slice (some ⟨g, 0, none⟩) n c) l) {i : Nat} {u : Value} (hi : l[i]? = some u) : w.cell? ⟨g, i, none⟩ = some u := by
 have hc := World.ownsRow.cells h (g := g) rfl i u hi
 rw [Addr.add_lit, Nat.zero_add] at hc
 exact hc
theorem step_appK1 (w : World) {ops : Array Oper} {o : Oper} {a : Act} {K : Act → World → Prop} {Q : Exit → Act → World → Prop} {E : Prop} (hgd : o.guard = none) (s x : Operand)
  (ho : o.op = .call { callee := .builtin .append, args := #[s, x], argTypes := #[86, 86] })
  (B : Nat) (v : Value) (l : List Value) (y : Value) (hs : a.eval s = v) (hown : OK1 w B v l) (gx c : Nat) (hx : a.eval x = .slice (some ⟨gx, 0, none⟩) 1 c)
  (h0 : w.cell? ⟨gx, 0, none⟩ = some y) (hy : y.oneCell' = true) (hl : l.length ≤ 1073741824) (hB : B ≤ w.heap.size)
  (h : ∀ g cap w', OK1 w' B (.slice (some ⟨g, 0, none⟩) (l.length + 1) cap) (l ++ [y]) → w.grownBy w' v.ownBlock → K (a.put o.dst (.slice (some ⟨g, 0, none⟩) (l.length + 1) cap)) w') :
  if Region.wanted o (yielded ops a.tmps) = true then Oper.wp Try.prog o a w K Q else E := by
 obtain ⟨i0, hi, hz0, hz1, hz2⟩ := info_parts Try.infoK1
 refine step_append_lies w hgd s x 86 ho B 44 i0 _ 1 24 Try.underlying86 hi hz0 hz1 hz2 rfl (by decide) v l.length l hs hown ⟨gx, 0, none⟩ 1 c [y] hx rfl ?_ ?_ (by decide) ?_ ?_ hB _ rfl ?_
 ·intro j u hj
  rw [Addr.add_lit]
  match j, hj with
  | 0, hj => simp at hj; subst hj; exact h0
  | j + 1, hj => simp at hj
 ·intro u hu
  simp at hu
  subst hu
  exact hy
 ·unfold maxLen; omega
 ·omega
 ·intro g cap w' h1 h2 _ _
  refine h g cap w' ?_ h2
  unfold OK1
  rw [List.length_append]
  exact h1
theorem wpList_appK1 {w : World} {ops : Array Oper} {rest : List Oper} {o : Oper} {a : Act} {Q : Exit → Act → World → Prop} (hgd : o.guard = none) (s x : Operand)
  (ho : o.op = .call { callee := .builtin .append, args := #[s, x], argTypes := #[86, 86] })
  (B : Nat) (v : Value) (l : List Value) (y : Value) (hs : a.eval s = v) (hown : OK1 w B v l) (gx c : Nat) (hx : a.eval x = .slice (some ⟨gx, 0, none⟩) 1 c)
  (h0 : w.cell? ⟨gx, 0, none⟩ = some y) (hy : y.oneCell' = true) (hl : l.length ≤ 1073741824) (hB : B ≤ w.heap.size)
  (h : ∀ g cap w', OK1 w' B (.slice (some ⟨g, 0, none⟩) (l.length + 1) cap) (l ++ [y]) → w.grownBy w' v.ownBlock → wpList Try.prog ops Q rest (a.put o.dst (.slice (some ⟨g, 0, none⟩) (l.length + 1) cap)) w') : wpList Try.prog ops Q (o :: rest) a w := by
 obtain ⟨i0, hi, hz0, hz1, hz2⟩ := info_parts Try.infoK1
 refine wpList_append_lies w hgd s x 86 ho B 44 i0 _ 1 24 Try.underlying86 hi hz0 hz1 hz2 rfl (by decide) v l.length l hs hown ⟨gx, 0, none⟩ 1 c [y] hx rfl ?_ ?_ (by decide) ?_ ?_ hB _ rfl ?_
 ·intro j u hj
  rw [Addr.add_lit]
  match j, hj with
  | 0, hj => simp at hj; subst hj; exact h0
  | j + 1, hj => simp at hj
 ·intro u hu
  simp at hu
  subst hu
  exact hy
 ·unfold maxLen; omega
 ·omega
 ·intro g cap w' h1 h2 _ _
  refine h g cap w' ?_ h2
  unfold OK1
  rw [List.length_append]
  exact h1
theorem ok1_keeps {w w' : World} {B b : Nat} {v : Value} {L : List Value} {cur : Array Value} {t : TypeId} (h : OK1 w B v L) (hg : w.grownBy w' v.ownBlock) (hb : w.heap[b]? = some (.cells cur t (0, 0))) (ht : t ≠ 44) : w'.heap[b]? = w.heap[b]? :=
 hg.block b (lt_of_block hb) (fun e => by
  obtain ⟨cur, hc⟩ := h.typed e.symm
  rw [hb] at hc
  cases hc
  exact ht rfl)
theorem OL5.pastK {w w' : World} {B B' : Nat} {v v' : Value} {l : List Ib} {L : List Value} (h : OL5 w B v l) (h' : OK1 w B' v' L) (hg : w.grownBy w' v'.ownBlock) : OL5 w' B v l := h.move fun b hb => by
 obtain ⟨cur, hc⟩ := h.typed hb
 exact ok1_keeps h' hg hc (by decide)
theorem Ss.pastK {w w' : World} {B B' : Nat} {v v' : Value} {l : List Sg} {L : List Value} (h : Ss w B v l) (h' : OK1 w B' v' L) (hg : w.grownBy w' v'.ownBlock) : Ss w' B v l :=
 ⟨h.1.move fun b hb => by
  obtain ⟨cur, hc⟩ := h.1.typed hb
  exact ok1_keeps h' hg hc (by decide), fun x hx => (h.2 x hx).kept fun k cur hc => ok1_keeps h' hg hc (by decide)⟩
theorem Bz.pastK {w w' : World} {b B' : Nat} {v' : Value} {cs : Array Value} {t : TypeId} {L : List Value} (h : Bz w b cs t) (ht : t ≠ 44) (h' : OK1 w B' v' L) (hg : w.grownBy w' v'.ownBlock) : Bz w' b cs t := by
 unfold Bz at h ⊢
 rw [ok1_keeps h' hg h ht]
 exact h
def Lr (w : World) (B : Nat) (L : List Value) (Ks : List (List Ib)) : Prop := L.length = Ks.length ∧ ∀ (i : Nat) (K : List Ib), Ks[i]? = some K → ∃ u, L[i]? = some u ∧ OL5 w B u K
theorem Lr.later {w w' : World} {B : Nat} {L : List Value} {Ks : List (List Ib)} (h : Lr w B L Ks) (hb : Below w.heap.size w w') : Lr w' B L Ks := ⟨h.1, fun i K hK => by
 obtain ⟨u, h1, h2⟩ := h.2 i K hK
 exact ⟨u, h1, h2.later hb⟩⟩
theorem Lr.pastK {w w' : World} {B B' : Nat} {v' : Value} {L M : List Value} {Ks : List (List Ib)} (h : Lr w B L Ks) (h' : OK1 w B' v' M) (hg : w.grownBy w' v'.ownBlock) : Lr w' B L Ks := ⟨h.1, fun i K hK => by
 obtain ⟨u, h1, h2⟩ := h.2 i K hK
 exact ⟨u, h1, h2.pastK h' hg⟩⟩
theorem Lr.nil (w : World) (B : Nat) : Lr w B [] [] := ⟨rfl, fun i K h => by simp at h⟩
theorem Lr.snoc {w : World} {B : Nat} {L : List Value} {Ks : List (List Ib)} {u : Value} {K : List Ib} (h : Lr w B L Ks) (hu : OL5 w B u K) : Lr w B (L ++ [u]) (Ks ++ [K]) := by
 refine ⟨by simp [h.1], fun i K' hK => ?_⟩
 by_cases hi : i < Ks.length
 ·rw [List.getElem?_append_left hi] at hK
  obtain ⟨u', h1, h2⟩ := h.2 i K' hK
  exact ⟨u', by rw [List.getElem?_append_left (by rw [h.1]; exact hi)]; exact h1, h2⟩
 ·rw [List.getElem?_append_right (by omega)] at hK
  have hi0 : i = Ks.length := by
   have := (List.getElem?_eq_some_iff.1 hK).1
   simp at this
   omega
  subst hi0
  simp at hK
  subst hK
  exact ⟨u, by rw [← h.1]; simp, hu⟩
theorem OL5.told {w : World} {B : Nat} {u : Value} {K : List Ib} (h : OL5 w B u K) (h1 : 1 ≤ K.length) (h2 : K.length ≤ 4096) : ∃ g c, u = .slice (some ⟨g, 0, none⟩) K.length c ∧ K.length ≤ c ∧ RdP w (some ⟨g, 0, none⟩) K := by
 obtain ⟨a, c, rfl, hr⟩ := h.rdp (by omega)
 rcases h.2 with ⟨e9, h9⟩ | ⟨g, cap, cur, e9, -, -, hc1, -⟩
 ·omega
 ·cases e9
  exact ⟨g, c, rfl, hc1, hr⟩
theorem kb_of {w : World} {B B' ab nk kc : Nat} {L : List Value} {Ks : List (List Ib)} (h : OK1 w B' (.slice (some ⟨ab, 0, none⟩) nk kc) L) (hl : Lr w B L Ks) (hK : ∀ K ∈ Ks, 1 ≤ K.length ∧ K.length ≤ 4096) : Kb w (some ⟨ab, 0, none⟩) Ks := by
 refine ⟨ab, 0, rfl, fun i K hi => ?_⟩
 obtain ⟨u, h1, h2⟩ := hl.2 i K hi
 obtain ⟨k1, k2⟩ := hK K (List.mem_of_getElem? hi)
 obtain ⟨g, c, rfl, h3, h4⟩ := h2.told k1 k2
 exact ⟨g, 0, c, by rw [Nat.zero_add]; exact h.cell h1, h3, h4⟩

structure Fz (w : World) (cs : Array Value) (va vl : Value) (all : List (List Ib)) (L : List Value) (l : List Sg) (wr : World) : Prop where
 bx : Bz wr w.heap.size cs 66
 row : OK1 wr (w.heap.size + 1) va L
 lk : Lr wr w.heap.size L all
 ss : Ss wr w.heap.size vl l
 no : No5 l
 bel : Below w.heap.size w wr
theorem Fz.later {w wr u : World} {cs : Array Value} {va vl : Value} {all : List (List Ib)} {L : List Value} {l : List Sg} (h : Fz w cs va vl all L l wr) (hb : Below wr.heap.size wr u) : Fz w cs va vl all L l u := ⟨h.bx.later hb, h.row.later hb, h.lk.later hb, h.ss.later hb, h.no, h.bel.trans (hb.mono h.bel.size)⟩
theorem Fz.put {w wr w' : World} {cs : Array Value} {va va' vl vl' u : Value} {all : List (List Ib)} {L : List Value} {l l' : List Sg} {K : List Ib} (h : Fz w cs va vl all L l wr) (hu : OL5 wr w.heap.size u K) (hs : Ss wr w.heap.size vl' l') (hno : No5 l') (ho : OK1 w' (w.heap.size + 1) va' (L ++ [u])) (hg : wr.grownBy w' va.ownBlock) : Fz w cs va' vl' (all ++ [K]) (L ++ [u]) l' w' := by
 refine ⟨h.bx.pastK (by decide) h.row hg, ho, (h.lk.pastK h.row hg).snoc (hu.pastK h.row hg), hs.pastK h.row hg, hno, h.bel.trans ⟨hg.os, hg.tape, hg.output, hg.size, fun k hk => hg.block k (Nat.lt_of_lt_of_le hk h.bel.size) (fun e => ?_)⟩⟩
 have := (h.row.lt e.symm).1
 omega
def Kz (w wo : World) (all : List (List Ib)) (ks : List Int) (j : Nat) (vk : Value) (wi : World) : Prop := ∃ g c L, vk = .slice (some ⟨g, 0, none⟩) j c ∧ OK1 wi wo.heap.size vk L ∧ L.length = j ∧ Lr wi w.heap.size L (kidsB all (ks.take j)) ∧ Below wo.heap.size wo wi
theorem kidsB_next (all : List (List Ib)) {ks : List Int} {j : Nat} {c : Int} (h : ks[j]? = some c) : kidsB all (ks.take (j + 1)) = kidsB all (ks.take j) ++ [all.getD c.toNat []] := by
 unfold kidsB
 rw [List.take_add_one, h, Option.toList_some, List.map_append]
 rfl
theorem Kz.put {w wo wi w' : World} {all : List (List Ib)} {ks : List Int} {j g c g' c' : Nat} {L : List Value} {q : Int} {u : Value} (h1 : OK1 wi wo.heap.size (.slice (some ⟨g, 0, none⟩) j c) L) (hL : L.length = j) (h2 : Lr wi w.heap.size L (kidsB all (ks.take j))) (h3 : Below wo.heap.size wo wi) (hq : ks[j]? = some q) (hu : OL5 wi w.heap.size u (all.getD q.toNat [])) (ho : OK1 w' wo.heap.size (.slice (some ⟨g', 0, none⟩) (L.length + 1) c') (L ++ [u])) (hg : wi.grownBy w' (some g)) : Kz w wo all ks (j + 1) (.slice (some ⟨g', 0, none⟩) (j + 1) c') w' := by
 rw [hL] at ho
 refine ⟨g', c', L ++ [u], rfl, ho, by simp [hL], ?_, h3.trans ⟨hg.os, hg.tape, hg.output, hg.size, fun k hk => hg.block k (Nat.lt_of_lt_of_le hk h3.size) (fun e => ?_)⟩⟩
 ·rw [kidsB_next all hq]
  exact (h2.pastK h1 hg).snoc (hu.pastK h1 hg)
 ·have := (h1.lt (b := k) e.symm).1
  omega
def RetFN (R : List Sc × Bool) (w : World) (e : Ending) (w' : World) : Prop := ∃ v l, e = .returned (.tuple #[v, .bool R.2]) ∧ l.map Sg.ct = R.1 ∧ Ss w' w.heap.size v l ∧ Below w.heap.size w w' ∧ No5 l
set_option maxHeartbeats 4000000 in
set_option maxRecDepth 100000 in
theorem specFlattenN_any (da ta : Option Addr) (dc tc n : Nat) (ds : List Dc) (xs : List Tg) (w : World) (hd : RdD w da ds) (ht : RdT w ta xs) (hn : xs.length = n) :
  Calls Try.prog 30 #[.slice da ds.length dc, .agg #[.slice ta n tc]] w (RetFN (fltR ds (xs.map Tg.ct)) w) := by
 have HSW := kide (fun u (hu : Below w.heap.size w u) => specWidth_any da ta dc tc n ds xs u (hd.later hu) (ht.later hu) hn)
 have BA : Hid (Below w.heap.size w (w.alloc (Obj.cells #[.slice ta n tc] 66))) := (Below.refl _ _).alloc (Nat.le_refl _) _
 have XA := kide (Bz.new w #[.slice ta n tc] 66)
 obtain ⟨R, hR⟩ : ∃ R, fltR ds (xs.map Tg.ct) = R := ⟨_, rfl⟩
 rw [hR]
 unfold fltR at hR
 rw [List.length_map, hn] at hR
 have NIL : Hid (∀ u, Below w.heap.size w u → RetFN ([], false) w (.returned (.tuple #[.slice (some ⟨u.heap.size, 0, none⟩) 0 0, .bool false])) (u.alloc (Obj.cells #[] 34))) := fun u hu => ⟨_, [], rfl, rfl, ⟨OS5.empty u _ hu.size, by simp⟩, hu.trans (((Below.refl _ _).alloc (Nat.le_refl _) _).mono hu.size), fun x hx => by cases hx⟩
 by_cases h0 : (widthsR ds (xs.map Tg.ct)).length = 0
 ·rw [if_pos h0] at hR
  subst hR
  have hw : widR ds (xs.map Tg.ct) = -1 := by unfold widR; rw [if_pos h0]
  rw [hw] at HSW
  generalize ds.length = nd at *
  clear hd ht hn h0 hw XA
  go_enter Try.func30, Try.ntmps30
  go_wp2_with fail
  refine Calls.mono (HSW.out _ BA.out) ?_
  rintro e w2 ⟨rfl, hb2⟩
  have B2 := kide (BA.out.trans (hb2.mono BA.out.size))
  clear hb2
  go_wp2_with fail
  exact bodyPost_ret (v := .tuple #[.slice (some ⟨w2.heap.size, 0, none⟩) 0 0, .bool false]) (by simp [results, Try.results30, go_sem]) rfl (NIL.out _ B2.out)
 ·rw [if_neg h0] at hR
  obtain ⟨W, hW, hW1⟩ : ∃ W, widR ds (xs.map Tg.ct) = W ∧ ¬ W < 0 := by
   refine ⟨_, rfl, ?_⟩
   unfold widR
   rw [if_neg h0]
   have hl : (widthsR ds (xs.map Tg.ct)).length - 1 < (widthsR ds (xs.map Tg.ct)).length := by omega
   have h9 := (widthsR_bounds ds (xs.map Tg.ct)).2 _ (List.getElem_mem hl)
   simp only [List.getD, List.getElem?_eq_getElem hl, Option.getD_some]
   omega
  rw [hW] at HSW
  have hv64 : ∀ m ∈ xs.map Tg.ct, in64 m.vr := fun m hm => by
   obtain ⟨x, hx, rfl⟩ := List.mem_map.1 hm
   obtain ⟨i, hi⟩ := List.getElem?_of_mem hx
   rcases ht.2 with h0 | ⟨b, o, -, hc⟩
   ·rw [h0] at hi; simp at hi
   ·exact (hc i x hi).2.2.2.2.1
  obtain ⟨hdc, hn1, hn4, -, hFN⟩ := right_at h0 hv64
  rw [List.length_map, hn] at hn1 hn4
  obtain ⟨tb, tq, rfl, hcs⟩ : ∃ tb tq, ta = some ⟨tb, tq, none⟩ ∧ ∀ i x, xs[i]? = some x → TgAt w tb (tq + i * 7) x := by
   rcases ht.2 with h0 | ⟨b, o, e, hc⟩
   ·rw [h0] at hn; simp at hn; omega
   ·exact ⟨b, o, e, hc⟩
  obtain ⟨nd, hnd⟩ : ∃ n, ds.length = n := ⟨_, rfl⟩
  rw [hnd] at HSW ⊢
  have HD := kide hd
  have HND := kide hnd
  have HCS := kide hcs
  have HN := kide hn
  have HFN := kide hFN
  have HR := kide hR
  have HN4 := kide hn4
  have HN1 := kide hn1
  clear hd ht hn h0 hW hv64 hdc hn1 hn4 hFN hcs hnd hR
  go_enter Try.func30, Try.ntmps30
  go_wp2_with fail
  refine Calls.mono (HSW.out _ BA.out) ?_
  rintro e w2 ⟨rfl, hb2⟩
  have B2 := kide (BA.out.trans (hb2.mono BA.out.size))
  have X2 := kide (XA.out.later hb2)
  have S0 : Hid (Fz w #[.slice (some ⟨tb, tq, none⟩) n tc] (.slice (some ⟨w2.heap.size, 0, none⟩) 0 0) (.slice (some ⟨w2.heap.size + 1, 0, none⟩) 0 0) [] [] [] ((w2.alloc (Obj.cells #[] 44)).alloc (Obj.cells #[] 34))) := by
   have hlt := X2.out.lt
   have ha : Below w2.heap.size w2 (w2.alloc (Obj.cells #[] 44)) := (Below.refl _ _).alloc (Nat.le_refl _) _
   have hb : Below (w2.alloc (Obj.cells #[] 44)).heap.size (w2.alloc (Obj.cells #[] 44)) ((w2.alloc (Obj.cells #[] 44)).alloc (Obj.cells #[] 34)) := (Below.refl _ _).alloc (Nat.le_refl _) _
   refine ⟨(X2.out.later ha).later hb, (OK1.empty w2 _ hlt).later hb, Lr.nil _ _, ⟨?_, by simp⟩, (fun x hx => by cases hx), B2.out.trans ((ha.trans (hb.mono (by simp))).mono B2.out.size)⟩
   have h9 := OS5.empty (w2.alloc (Obj.cells #[] 44)) w.heap.size (by simp; omega)
   rw [World.size_alloc] at h9
   exact h9
  clear hb2 XA
  go_wp2_with fail
  go_loopw [6, 7, 8] (fun va vl i wr => ∃ (k : Nat) (L : List Value) (l : List Sg), k ≤ n ∧ i = .int .i64 (k : Int) ∧ L.length = k ∧ (∃ (ga ca : Nat), va = .slice (some ⟨ga, 0, none⟩) k ca) ∧ Fz w #[.slice (some ⟨tb, tq, none⟩) n tc] va vl (bitsN ds [] ((xs.map Tg.ct).take k)) L l wr ∧ (∀ y ∈ bitsN ds [] ((xs.map Tg.ct).take k), (formB y).length ≤ 2000) ∧ (1 ≤ k → l.map Sg.ct = formB ((bitsN ds [] ((xs.map Tg.ct).take k)).getD (k - 1) []))) (fun _ _ i _ => n - (intOf i).toNat)
  case atStart => exact ⟨0, [], [], Nat.zero_le _, rfl, rfl, ⟨_, _, rfl⟩, S0.out, fun y hy => by simp [bitsN] at hy, fun h => by omega⟩
  case round =>
   obtain ⟨k, L, l, hk, rfl, hLk, ⟨ga, ca, rfl⟩, hfz, hle, hlast⟩ := hrel
   have c0 := hfz.bx.cell 0
   simp at c0
   have lbx := hfz.bx.lt
   have HFZ := kide hfz
   have HLE := kide hle
   have HLA := kide hlast
   have HLK := kide hLk
   clear hfz hle hlast hLk
   by_cases hlt : k < n
   ·obtain ⟨x, hx⟩ : ∃ x, xs[k]? = some x := ⟨xs[k]'(by rw [HN.out]; exact hlt), List.getElem?_eq_getElem _⟩
    have hxm : (xs.map Tg.ct)[k]? = some x.ct := by rw [List.getElem?_map, hx]; rfl
    obtain ⟨⟨p0, p1, p2, p3, p4, p5, p6⟩, r1, r2, -, r4, -⟩ := HCS.out k x hx
    simp only [Tg.hd] at p0 p1 p2 p3 p4 p5 p6
    have hbel := HFZ.out.bel
    have ltb : tb < w.heap.size := block_lt_of_cell p0
    have hltb : tb < wr.heap.size := by have := hbel.size; omega
    replace p0 := (hbel.cell (p := ⟨tb, tq + k * 7, none⟩) ltb).trans p0
    replace p1 := (hbel.cell (p := ⟨tb, tq + k * 7 + 1, none⟩) ltb).trans p1
    replace p2 := (hbel.cell (p := ⟨tb, tq + k * 7 + 2, none⟩) ltb).trans p2
    replace p3 := (hbel.cell (p := ⟨tb, tq + k * 7 + 3, none⟩) ltb).trans p3
    replace p4 := (hbel.cell (p := ⟨tb, tq + k * 7 + 4, none⟩) ltb).trans p4
    replace p5 := (hbel.cell (p := ⟨tb, tq + k * 7 + 5, none⟩) ltb).trans p5
    replace p6 := (hbel.cell (p := ⟨tb, tq + k * 7 + 6, none⟩) ltb).trans p6
    have hnx := bitsN_next ds hxm []
    have hfn := HFN.out k x.ct hxm
    have hlk : (bitsN ds [] ((xs.map Tg.ct).take k)).length = k := by rw [bitsN_len, List.length_take, List.length_map, HN.out]; simp; omega
    obtain ⟨all, hall⟩ : ∃ all, bitsN ds [] ((xs.map Tg.ct).take k) = all := ⟨_, rfl⟩
    rw [hall] at HFZ HLE hnx hfn hlk HLA
    have RW := kide (r1.later hbel)
    have RK := kide (r2.later hbel)
    have RDW := kide (HD.out.later hbel)
    obtain ⟨⟨op, vr, A, Bb, bw, ws, ks⟩, wa, wc, ka, kc⟩ := x
    simp only [] at p0 p1 p2 p3 p4 p5 p6 RW RK hfn hnx
    have HNX := kide hnx
    have HFN1 := kide hfn
    have HALL := kide hall
    have HXM := kide hxm
    have HLN := kide hlk
    have hk1 : (k : Int) < (n : Int) := by omega
    have hk0 : (k : Int) ≥ 0 := by omega
    have hkw : IntKind.i64.wrap ((k : Int) + 1) = (k : Int) + 1 := by rw [IntKind.wrap_i64]; have := HN4.out; omega
    obtain ⟨nk, hnk⟩ : ∃ m, ks.length = m := ⟨_, rfl⟩
    rw [hnk] at p6
    have hnk4 : nk ≤ 1048576 := by rw [← hnk]; exact r2.1
    have HNK := kide hnk
    have K0 : Hid (Kz w wr all ks 0 (.slice (some ⟨wr.heap.size, 0, none⟩) 0 0) (wr.alloc (Obj.cells #[] 44))) := ⟨_, _, [], rfl, OK1.empty wr _ (Nat.le_refl _), rfl, Lr.nil _ _, (Below.refl _ _).alloc (Nat.le_refl _) _⟩
    clear hx hxm r1 r2 r4 hbel hnx hfn hall hnk
    go_wp2_with fail
    obtain ⟨wo, hwo⟩ : ∃ wo, wo = wr := ⟨_, rfl⟩
    subst hwo
    go_loopw [9, 10] (fun vk j wi => ∃ (q : Nat), q ≤ nk ∧ j = .int .i64 (q : Int) ∧ Kz w wo all ks q vk wi) (fun _ j _ => nk - (intOf j).toNat)
    case atStart => exact ⟨0, Nat.zero_le _, rfl, K0.out⟩
    case round =>
     obtain ⟨q, hq, rfl, hkz⟩ := hrel
     obtain ⟨g, c, Lk, rfl, ho, hLk, hlr, hbw⟩ := hkz
     have y0 := (hbw.cell (p := ⟨w.heap.size, 0, none⟩) lbx).trans c0
     have y6 := (hbw.cell (p := ⟨tb, tq + k * 7 + 6, none⟩) hltb).trans p6
     have HO := kide ho
     have HLKK := kide hLk
     have HLR := kide hlr
     have HBW := kide hbw
     have hgl : g < wr.heap.size := (ho.lt (b := g) rfl).2
     have hsz0 : wo.heap.size ≤ wr.heap.size := hbw.size
     clear ho hLk hlr hbw
     by_cases hqt : q < nk
     ·obtain ⟨c9, hc9⟩ : ∃ c9, ks[q]? = some c9 := ⟨ks[q]'(by rw [HNK.out]; exact hqt), List.getElem?_eq_getElem _⟩
      obtain ⟨⟨h1, h2⟩, h3, h4, -⟩ := HFN1.out.kid c9 (List.mem_of_getElem? hc9)
      obtain ⟨kb, ko, rfl, hkc⟩ : ∃ kb ko, ka = some ⟨kb, ko, none⟩ ∧ wo.cell? ⟨kb, ko + q, none⟩ = some (.int .i64 c9) := by
       rcases RK.out.2.2 with h0 | ⟨b, o, e, hc⟩
       ·rw [h0] at hc9; simp at hc9
       ·refine ⟨b, o, e, ?_⟩
        have h9 := hc q (by rw [HNK.out]; exact hqt)
        simpa [List.getD, hc9] using h9
      obtain ⟨C, rfl⟩ : ∃ C : Nat, c9 = (C : Int) := ⟨c9.toNat, by omega⟩
      rw [Int.toNat_natCast] at h3 h4
      rw [HLN.out] at h2
      obtain ⟨uu, hu1, hu2⟩ := HFZ.out.lk.2 C (all.getD C []) (by simp [List.getD, show C < all.length by rw [HLN.out]; omega])
      have hca := HFZ.out.row.cell hu1
      obtain ⟨gu, cu, rfl, hu3, -⟩ := hu2.told h3 h4
      have y1 := (HBW.out.cell (p := ⟨kb, ko + q, none⟩) (block_lt_of_cell hkc)).trans hkc
      have y2 := (HBW.out.cell (p := ⟨ga, C, none⟩) (block_lt_of_cell hca)).trans hca
      have HU := kide (hu2.later HBW.out)
      have HC9 := kide hc9
      obtain ⟨KL, hKL⟩ : ∃ m, (all.getD C []).length = m := ⟨_, rfl⟩
      rw [hKL] at y2 HU
      have q1 : (q : Int) < (nk : Int) := by omega
      have q2 : IntKind.i64.wrap ((q : Int) + 1) = (q : Int) + 1 := by rw [IntKind.wrap_i64]; omega
      have q3 : (C : Int) < (k : Int) := h2
      clear hc9 h1 h2 h3 h4 hkc hu1 hu2 hca hu3 hKL
      have BA2 : Hid (Below wr.heap.size wr (wr.alloc (Obj.cells #[.slice (some ⟨gu, 0, none⟩) KL cu] 44))) := (Below.refl _ _).alloc (Nat.le_refl _) _
      have XA2 := kide (Bz.new wr #[.slice (some ⟨gu, 0, none⟩) KL cu] 44)
      have OA2 := kide (HO.out.later BA2.out)
      have LA2 := kide (HLR.out.later BA2.out)
      have UA2 := kide (HU.out.later BA2.out)
      have WA2 := kide (HBW.out.trans (BA2.out.mono HBW.out.size))
      have hll : Lk.length ≤ 1073741824 := by rw [HLKK.out]; omega
      have hsz : wo.heap.size ≤ (wr.alloc (Obj.cells #[.slice (some ⟨gu, 0, none⟩) KL cu] 44)).heap.size := by simp; omega
      go_wp2_with (refine wpList_appK1 rfl _ _ rfl wo.heap.size _ Lk (Value.slice (some ⟨gu, 0, none⟩) KL cu) rfl OA2.out wr.heap.size _ rfl (XA2.out.cell 0) rfl hll hsz ?_)
      intro g6 c6 w6 ho6 hg6
      have K6 := kide (Kz.put OA2.out HLKK.out LA2.out WA2.out HC9.out UA2.out ho6 hg6)
      rw [HLKK.out]
      clear ho6 hg6
      go_wp2_with fail
      go_roundw
      case rel => exact ⟨q + 1, by omega, rfl, K6.out⟩
      case measure => simp only [intOf]; omega
     ·obtain rfl : q = nk := by omega
      have htk : ks.take q = ks := List.take_of_length_le (by rw [HNK.out]; exact Nat.le_refl _)
      rw [htk] at HLR
      have HKB := kide (kb_of HO.out HLR.out (fun K hK => by
       obtain ⟨j, hj, rfl⟩ := List.mem_map.1 hK
       exact (HFN1.out.kid j hj).2.imp_right And.left))
      have HND2 := kide (l5Node_any (n := ⟨op, vr, A, Bb, bw, ws, ks⟩) da wa ka (some ⟨g, 0, none⟩) dc nd wc kc q c (RDW.out.later HBW.out) HND.out (RW.out.later HBW.out) HKB.out HNK.out HFN1.out)
      simp only [HNK.out] at HND2
      have z0 := (HBW.out.cell (p := ⟨tb, tq + k * 7, none⟩) hltb).trans p0
      have z1 := (HBW.out.cell (p := ⟨tb, tq + k * 7 + 1, none⟩) hltb).trans p1
      have z2 := (HBW.out.cell (p := ⟨tb, tq + k * 7 + 2, none⟩) hltb).trans p2
      have z3 := (HBW.out.cell (p := ⟨tb, tq + k * 7 + 3, none⟩) hltb).trans p3
      have z4 := (HBW.out.cell (p := ⟨tb, tq + k * 7 + 4, none⟩) hltb).trans p4
      have z5 := (HBW.out.cell (p := ⟨tb, tq + k * 7 + 5, none⟩) hltb).trans p5
      have FZ1 := kide (HFZ.out.later HBW.out)
      clear HO HLKK HLR HKB htk
      go_wp2_with fail
      refine Calls.mono HND2.out ?_
      rintro e w4 ⟨v4, rfl, ho4, hb4⟩
      have hlen := HFN1.out.len
      have hokI := HFN1.out.ok
      have HBAD : Hid (nodB ds all ⟨op, vr, A, Bb, bw, ws, ks⟩ ∈ bitsN ds [] (xs.map Tg.ct)) := by
       have h7 : nodB ds all ⟨op, vr, A, Bb, bw, ws, ks⟩ ∈ bitsN ds [] ((xs.map Tg.ct).take (k + 1)) := by rw [HNX.out]; simp
       have h6 := bitsN_app ds ((xs.map Tg.ct).take (k + 1)) ((xs.map Tg.ct).drop (k + 1)) []
       rw [List.take_append_drop] at h6
       show _ ∈ _
       rw [h6]
       exact bitsN_mem ds _ _ _ h7
      obtain ⟨KN, hKN⟩ : ∃ KN, nodB ds all ⟨op, vr, A, Bb, bw, ws, ks⟩ = KN := ⟨_, rfl⟩
      rw [hKN] at hlen hokI ho4 HBAD HNX
      obtain ⟨g4, c4, rfl, hc4, hr4⟩ := ho4.told hlen.1 hlen.2
      have F4 := kide (FZ1.out.later hb4)
      have O4 := kide (ho4.lowB FZ1.out.bel.size)
      obtain ⟨N4, hN4⟩ : ∃ m, KN.length = m := ⟨_, rfl⟩
      have HLF := kide (l5FormN_any (some ⟨g4, 0, none⟩) c4 N4 KN w4 hr4 hN4 (by omega) (fun p hp => by
       have h9 := okI_lt (hokI p hp)
       exact ⟨fun e => by have := h9.1 e; omega, fun e => by have := h9.2 e; omega⟩))
      rw [hN4] at O4 ⊢
      clear hlen hokI ho4 hb4 hKN hc4 hr4 hN4 HND2 z0 z1 z2 z3 z4 z5 y0 y6 p0 p1 p2 p3 p4 p5 p6 FZ1
      go_wp2_with fail
      refine Calls.mono HLF.out ?_
      rintro e w5 ⟨v5, l5, rfl, hm5, hs5, hb5, hno5⟩
      have NO5 := kide hno5
      have F5 := kide (F4.out.later hb5)
      have O5 := kide (O4.out.later hb5)
      have S5 : Hid (Ss w5 w.heap.size v5 l5) := ⟨hs5.1.low F4.out.bel.size, fun x hx => (hs5.2 x hx).mono F4.out.bel.size⟩
      have M5 := kide hm5
      clear hm5 hs5 hb5 hno5
      by_cases h20 : l5.length ≤ 2000
      ·rw [decide_eq_true h20]
       have H20 : Hid ((formB KN).length ≤ 2000) := by show _ ≤ _; rw [← M5.out, List.length_map]; exact h20
       have BA6 : Hid (Below w5.heap.size w5 (w5.alloc (Obj.cells #[.slice (some ⟨g4, 0, none⟩) N4 c4] 44))) := (Below.refl _ _).alloc (Nat.le_refl _) _
       have XA6 := kide (Bz.new w5 #[.slice (some ⟨g4, 0, none⟩) N4 c4] 44)
       have F6 := kide (F5.out.later BA6.out)
       have O6 := kide (O5.out.later BA6.out)
       have S6 := kide (S5.out.later BA6.out)
       have hll : L.length ≤ 1073741824 := by rw [HLK.out]; have := HN4.out; omega
       have hsz : w.heap.size + 1 ≤ (w5.alloc (Obj.cells #[.slice (some ⟨g4, 0, none⟩) N4 c4] 44)).heap.size := F6.out.bx.lt
       clear h20
       go_wp2_with (refine wpList_appK1 rfl _ _ rfl (w.heap.size + 1) _ L (Value.slice (some ⟨g4, 0, none⟩) N4 c4) rfl F6.out.row w5.heap.size _ rfl (XA6.out.cell 0) rfl hll hsz ?_)
       intro g7 c7 w7 ho7 hg7
       have F7 := kide (F6.out.put O6.out S6.out NO5.out ho7 hg7)
       rw [HLK.out] at F7 ⊢
       clear ho7 hg7
       go_wp2_with fail
       go_roundw
       case rel =>
        refine ⟨k + 1, L ++ [Value.slice (some ⟨g4, 0, none⟩) N4 c4], l5, by omega, rfl, by simp [HLK.out], ⟨_, _, rfl⟩, by rw [HNX.out]; exact F7.out, fun y hy => ?_, fun _ => ?_⟩
        ·rw [HNX.out] at hy
         rcases List.mem_append.1 hy with hy | hy
         ·exact HLE.out y hy
         ·rw [List.mem_singleton.1 hy]; exact H20.out
        ·rw [HNX.out, M5.out, Nat.add_sub_cancel]
         congr 1
         simp [List.getD, ← HLN.out]
       case measure => simp only [intOf]; omega
      ·rw [decide_eq_false h20]
       have hRR := HR.out
       rw [if_neg (fun h9 => by
        have h8 := List.all_eq_true.1 h9 KN HBAD.out
        simp only [decide_eq_true_eq] at h8
        rw [← M5.out, List.length_map] at h8
        exact h20 h8)] at hRR
       subst hRR
       have B5 := kide F5.out.bel
       clear h20
       go_wp2_with fail
       exact bodyPost_ret (v := .tuple #[.slice (some ⟨w5.heap.size, 0, none⟩) 0 0, .bool false]) (by simp [results, Try.results30, go_sem]) rfl (NIL.out _ B5.out)
   ·obtain rfl : k = n := by omega
    have htk : (xs.map Tg.ct).take k = xs.map Tg.ct := List.take_of_length_le (by rw [List.length_map, HN.out]; exact Nat.le_refl _)
    rw [htk] at HFZ HLE HLA
    have hRR := HR.out
    rw [if_pos (List.all_eq_true.2 fun y hy => decide_eq_true (HLE.out y hy))] at hRR
    subst hRR
    have hla := HLA.out HN1.out
    have HLA2 := kide hla
    obtain ⟨al, cl, rfl⟩ := HFZ.out.ss.1.form
    clear hla htk
    go_wp2_with fail
    exact bodyPost_ret (v := .tuple #[.slice al l.length cl, .bool true]) (by simp [results, Try.results30, go_sem]) rfl ⟨_, l, rfl, HLA2.out, HFZ.out.ss, HFZ.out.bel, HFZ.out.no⟩
theorem flt_pos {ds : List Dc} {ns : List Tc} (hv : ∀ n ∈ ns, in64 n.vr) (h : (fltR ds ns).2 = true) : 1 ≤ (fltR ds ns).1.length := by
 unfold fltR at h ⊢
 split at h
 ·cases h
 ·rename_i h0
  rw [if_neg h0]
  split at h
  ·rename_i hall
   rw [if_pos hall]
   obtain ⟨-, hn1, -, hA, -⟩ := right_at h0 hv
   have hb := hA ns.length (Nat.le_refl _)
   rw [List.take_length] at hb
   have hlen : (bitsN ds [] ns).length = ns.length := by rw [bitsN_len]; simp
   obtain ⟨h1, h2, h3, h4⟩ := hb.ok (ns.length - 1) (by omega)
   cases hk : (bitsN ds [] ns).getD (ns.length - 1) [] with
   | nil => rw [hk, List.length_nil] at h1; omega
   | cons p t => exact formB_pos
  ·cases h
def RetFl (β : Nat) (a : Option Addr) (c : Nat) (bs : List Nat) (w : World) (e : Ending) (w' : World) : Prop := ∃ v l, e = .returned v ∧ Ss w' w.heap.size v l ∧ No5 l ∧ (∀ x ∈ l, okF x.ct) ∧ l.length ≤ 2001 ∧ Rr w' β a c bs ∧ Dw β w w'
theorem okF_set {l : List Sg} {i : Nat} {x' : Sg} (h : ∀ x ∈ l, okF x.ct) (hx : okF x'.ct) : ∀ x ∈ l.set i x', okF x.ct := fun y hy => by
 rcases List.mem_or_eq_of_mem_set hy with h9 | h9
 ·exact h y h9
 ·rw [h9]; exact hx
theorem Ss.far {w w' : World} {B β : Nat} {v : Value} {l : List Sg} (h : Ss w B v l) (hd : Dw β w w') (hβ : β < B) : Ss w' B v l :=
 ⟨h.1.move fun b hb => hd.block b (h.1.lt hb).2 (fun e => by cases e; have := (h.1.lt hb).1; omega), fun x hx => nw_far (h.2 x hx) hd hβ⟩
theorem Ss.low {w : World} {B B' : Nat} {v : Value} {l : List Sg} (h : Ss w B v l) (hB : B' ≤ B) : Ss w B' v l := ⟨h.1.low hB, fun x hx => (h.2 x hx).mono hB⟩
theorem RdD.farD {w w' : World} {β : Nat} {a : Option Addr} {ds : List Dc} (h : RdD w a ds) (hd : Dw β w w') (hn : ∀ p, a = some p → p.block ≠ β ∧ p.block < w.heap.size) : RdD w' a ds := h.farB hd (fun p hp => (hn p hp).1)
theorem one_new (w : World) (B : Nat) (hB : B ≤ w.heap.size) : Ss (w.alloc (.cells #[.int .i64 0, .int .i64 0, .int .i64 1, .int .i64 0, .slice none 0 0] 34)) B (.slice (some ⟨w.heap.size, 0, Option.none⟩) 1 1) [⟨⟨0, 0, 1, 0, []⟩, Option.none, 0⟩] :=
 ⟨⟨rfl, .inr ⟨w.heap.size, 1, _, rfl, hB, heap_alloc_new w _, Nat.le_refl _, by unfold maxLen; omega, rfl, rfl⟩⟩, fun x hx => by rw [List.mem_singleton.1 hx]; exact .inl ⟨rfl, fun y e => by cases e⟩⟩
theorem gset (w : World) (g o : Nat) (v : Value) : w.grownBy (w.setCell ⟨g, o, none⟩ v) (some g) := ⟨rfl, rfl, rfl, by simp, fun k _ hne => heap_setCell_other w ⟨g, o, none⟩ k v (fun e => hne (by simp [e]))⟩
theorem Ss.ge {w : World} {B g n c : Nat} {l : List Sg} (h : Ss w B (.slice (some ⟨g, 0, Option.none⟩) n c) l) : B ≤ g := (h.1.lt (b := g) rfl).1
set_option maxHeartbeats 4000000 in
set_option maxRecDepth 100000 in
theorem flat_any (β : Nat) (a : Option Addr) (c : Nat) (bs : List Nat) (da : Option Addr) (dc n : Nat) (ds : List Dc) (w : World) (hr : Rr w β a c bs) (hd : RdD w da ds) (hβ : ∀ p, da = some p → p.block ≠ β ∧ p.block < w.heap.size) (hn : ds.length = n) (h1 : 1 ≤ n) (h6 : n ≤ 6) (hw : ∀ x ∈ ds, 1 ≤ x.2 ∧ x.2 ≤ 200) :
  Calls Try.prog 12 #[.pointer (some ⟨β, 0, none⟩), .slice da n dc] w (RetFl β a c bs w) := by
 have HG := kide (l3Grow_any β a c bs da dc n ds 0 w hr hd hβ hn h1 h6 hw (by omega) (by omega))
 have HD := kide hd
 have HN := kide hn
 have HBE := kide hβ
 have hβw := hr.lt
 have HR0 := kide hr
 clear hr hd hβ hn hw
 go_enter Try.func12, Try.ntmps12
 go_wp2_with fail
 refine Calls.mono HG.out ?_
 rintro e w1 ⟨v1, l1, rfl, ht1, hl1, hl2, hk1, hr1, hd1, -⟩
 obtain ⟨ta, tc, rfl, hrt⟩ := ht1.rd (by omega) (fun x hx => (hk1 x hx).1)
 have HFL := kide (specFlattenN_any da ta dc tc l1.length ds l1 w1 (HD.out.farD hd1 HBE.out) hrt rfl)
 have hv64 := hrt.v64
 obtain ⟨hF1, hF2⟩ := flt_ok ds (l1.map Tg.ct) hv64
 have HPO := kide (flt_pos (ds := ds) hv64)
 obtain ⟨⟨F, ok⟩, hF⟩ : ∃ R, fltR ds (l1.map Tg.ct) = R := ⟨_, rfl⟩
 rw [hF] at HFL hF1 hF2 HPO
 rw [HN.out] at HFL
 simp only [] at hF1 hF2 HPO
 have HF1 := kide hF1
 have HF2 := kide hF2
 have R1 := kide hr1
 have D1 := kide hd1
 generalize l1.length = tn at *
 clear ht1 hl1 hl2 hk1 hr1 hrt hv64 hF hF1 hF2 hd1
 go_wp2_with fail
 refine Calls.mono HFL.out ?_
 rintro e w2 ⟨v2, l2, rfl, hm2, hs2, hb2, hno2⟩
 simp only [] at hm2
 have S2 := kide (hs2.low D1.out.size)
 have R2 := kide (R1.out.later hb2)
 have D2 := kide (D1.out.trans (Dw.of hb2))
 have N2 := kide hno2
 have hlF : l2.length = F.length := by rw [← hm2, List.length_map]
 have O2 : Hid (∀ x ∈ l2, okF x.ct) := fun x hx => HF1.out _ (by rw [← hm2]; exact List.mem_map_of_mem hx)
 have L2 : Hid (l2.length ≤ 2000) := by show _ ≤ _; rw [hlF]; exact HF2.out
 have P2 : Hid (ok = true → 1 ≤ l2.length) := fun e => by rw [hlF]; exact HPO.out e
 clear hm2 hs2 hb2 hno2 hlF HG HFL HF1 HF2 HPO R1 D1
 cases ok with
 | false =>
  have S3 := kide (one_new w2 w.heap.size D2.out.size)
  have hbx : Below w2.heap.size w2 (w2.alloc (.cells #[.int .i64 0, .int .i64 0, .int .i64 1, .int .i64 0, .slice none 0 0] 34)) := (Below.refl _ _).alloc (Nat.le_refl _) _
  have R3 := kide (R2.out.later hbx)
  have D3 := kide (D2.out.trans (Dw.of hbx))
  clear hbx
  go_wp2_with fail
  go_ret
  exact ⟨_, _, rfl, S3.out, fun x hx _ => by rw [List.mem_singleton.1 hx], fun x hx => by rw [List.mem_singleton.1 hx]; exact ⟨by unfold in64; simp, by unfold in64; simp, by unfold in64; simp, by unfold in64; simp, by simp, by simp⟩, by simp, R3.out, D3.out⟩
 | true =>
  have hp2 := P2.out rfl
  obtain ⟨va, vc, rfl⟩ := S2.out.1.form
  obtain ⟨g, rfl⟩ : ∃ g, va = some ⟨g, 0, none⟩ := by
   rcases S2.out.1.2 with ⟨e9, h9⟩ | ⟨g, cap, cur, e9, -⟩
   ·omega
   ·cases e9; exact ⟨g, rfl⟩
  obtain ⟨nl, hnl⟩ : ∃ m, l2.length = m := ⟨_, rfl⟩
  rw [hnl] at S2 L2 hp2 ⊢
  have HNL := kide hnl
  have hnl2 : nl ≤ 2000 := L2.out
  have HBL := kide (below_any nl (by omega) β a c bs w2 R2.out)
  clear hnl P2
  go_wp2_with fail
  refine Calls.mono HBL.out ?_
  rintro e w3 ⟨i, rfl, hi, hr3, hd3⟩
  have hil : i < nl := by omega
  have S3 := kide (S2.out.far hd3 hβw)
  have R3 := kide hr3
  have D3 := kide (D2.out.trans hd3)
  clear hr3 hd3 S2 R2 D2 hi HBL
  have HBL := kide (below_any 40 (by omega) β a c bs w3 R3.out)
  go_wp2_with fail
  refine Calls.mono HBL.out ?_
  rintro e w4 ⟨y, rfl, hy, hr4, hd4⟩
  have S4 := kide (S3.out.far hd4 hβw)
  have R4 := kide hr4
  have D4 := kide (D3.out.trans hd4)
  clear hr4 hd4 S3 R3 D3 hy HBL
  obtain ⟨x, hx⟩ : ∃ x, l2[i]? = some x := ⟨l2[i]'(by rw [HNL.out]; exact hil), List.getElem?_eq_getElem _⟩
  have HX := kide hx
  have OX := kide (O2.out x (List.mem_of_getElem? hx))
  have hii : (i : Int) < (nl : Int) := by omega
  clear hx
  generalize (y : Int) = Y at *
  by_cases y0 : Y = 0
  ·subst y0
   have HO := kide (off0_any 9 (by unfold in64; omega) β a c bs w4 R4.out)
   go_wp2_with fail
   refine Calls.mono HO.out ?_
   rintro e w5 ⟨z, rfl, hz, hr5, hd5⟩
   have HZ : Hid (in64 z) := hz
   have S5 := kide (S4.out.far hd5 hβw)
   have D5 := kide (D4.out.trans hd5)
   have R5 := kide hr5
   have c5 := S5.out.1.val (j := 1) HX.out rfl
   have z5 := S5.out.1.froz (i * 5 + 1)
   have S6 := kide (S5.out.put (x' := ⟨⟨x.ct.v, z, x.ct.wd, x.ct.bw, x.ct.ws⟩, x.a, x.c⟩) (u := .int .i64 z) (j := 1) HX.out (by omega) rfl rfl rfl)
   have hgg := gset w5 g (i * 5 + 1) (.int .i64 z)
   have hge := S5.out.ge
   have R6 := kide (Rr.far HR0.out R5.out hgg (fun k e => by cases e; exact hge))
   have D6 := kide (D5.out.own hgg (fun k e => by cases e; exact hge))
   skip
   clear hz hr5 hd5 hgg HO
   go_wp2_with fail
   go_ret
   exact ⟨_, l2.set i ⟨⟨x.ct.v, z, x.ct.wd, x.ct.bw, x.ct.ws⟩, x.a, x.c⟩, rfl, S6.out, N2.out.put HX.out rfl rfl, okF_set O2.out ⟨OX.out.1, HZ.out, OX.out.2.2⟩, by rw [List.length_set]; have := L2.out; have := HNL.out; omega, R6.out, D6.out⟩
  by_cases y1 : Y = 1
  ·subst y1
   have HO := kide (off_any 1 9 (by omega) (by omega) β a c bs w4 R4.out)
   go_wp2_with fail
   refine Calls.mono HO.out ?_
   rintro e w5 ⟨z, rfl, hz, hz2, hr5, hd5⟩
   have HZ : Hid (in64 z) := ⟨hz, hz2⟩
   have S5 := kide (S4.out.far hd5 hβw)
   have D5 := kide (D4.out.trans hd5)
   have R5 := kide hr5
   have c5 := S5.out.1.val (j := 2) HX.out rfl
   have z5 := S5.out.1.froz (i * 5 + 2)
   have S6 := kide (S5.out.put (x' := ⟨⟨x.ct.v, x.ct.lo, z, x.ct.bw, x.ct.ws⟩, x.a, x.c⟩) (u := .int .i64 z) (j := 2) HX.out (by omega) rfl rfl rfl)
   have hgg := gset w5 g (i * 5 + 2) (.int .i64 z)
   have hge := S5.out.ge
   have R6 := kide (Rr.far HR0.out R5.out hgg (fun k e => by cases e; exact hge))
   have D6 := kide (D5.out.own hgg (fun k e => by cases e; exact hge))
   skip
   clear hz hz2 hr5 hd5 hgg HO
   go_wp2_with fail
   go_ret
   exact ⟨_, l2.set i ⟨⟨x.ct.v, x.ct.lo, z, x.ct.bw, x.ct.ws⟩, x.a, x.c⟩, rfl, S6.out, N2.out.put HX.out rfl rfl, okF_set O2.out ⟨OX.out.1, OX.out.2.1, HZ.out, OX.out.2.2.2⟩, by rw [List.length_set]; have := L2.out; have := HNL.out; omega, R6.out, D6.out⟩
  by_cases y2 : Y = 2
  ·subst y2
   have HO := kide (offm_any n (by omega) β a c bs w4 R4.out)
   go_wp2_with fail
   refine Calls.mono HO.out ?_
   rintro e w5 ⟨z, rfl, hz, hr5, hd5⟩
   have HZ : Hid (in64 z) := hz
   have S5 := kide (S4.out.far hd5 hβw)
   have D5 := kide (D4.out.trans hd5)
   have R5 := kide hr5
   have c5 := S5.out.1.val (j := 0) HX.out rfl
   have z5 := S5.out.1.froz (i * 5 + 0)
   have S6 := kide (S5.out.put (x' := ⟨⟨z, x.ct.lo, x.ct.wd, x.ct.bw, x.ct.ws⟩, x.a, x.c⟩) (u := .int .i64 z) (j := 0) HX.out (by omega) rfl rfl rfl)
   have hgg := gset w5 g (i * 5 + 0) (.int .i64 z)
   have hge := S5.out.ge
   have R6 := kide (Rr.far HR0.out R5.out hgg (fun k e => by cases e; exact hge))
   have D6 := kide (D5.out.own hgg (fun k e => by cases e; exact hge))
   simp only [Nat.add_zero] at c5 z5 S6 R6 D6
   clear hz hr5 hd5 hgg HO
   go_wp2_with fail
   go_ret
   exact ⟨_, l2.set i ⟨⟨z, x.ct.lo, x.ct.wd, x.ct.bw, x.ct.ws⟩, x.a, x.c⟩, rfl, S6.out, N2.out.put HX.out rfl rfl, okF_set O2.out ⟨HZ.out, OX.out.2⟩, by rw [List.length_set]; have := L2.out; have := HNL.out; omega, R6.out, D6.out⟩
  by_cases y3 : Y = 3
  ·subst y3
   have k0 := S4.out.1.val (j := 0) HX.out rfl
   have k1 := S4.out.1.val (j := 1) HX.out rfl
   have k2 := S4.out.1.val (j := 2) HX.out rfl
   have k3 := S4.out.1.val (j := 3) HX.out rfl
   have k4 := S4.out.1.val (j := 4) HX.out rfl
   rw [Nat.add_zero] at k0
   have hxm := List.mem_of_getElem? HX.out
   have hbx : Below w4.heap.size w4 (w4.alloc (Obj.cells #[.int .i64 x.ct.v, .int .i64 x.ct.lo, .int .i64 x.ct.wd, .int .i64 x.ct.bw, .slice x.a x.ct.ws.length x.c] 34)) := (Below.refl _ _).alloc (Nat.le_refl _) _
   have S5 := kide (S4.out.later hbx)
   have R5 := kide (R4.out.later hbx)
   have D5 := kide (D4.out.trans (Dw.of hbx))
   have XN := kide (Bz.new w4 #[.int .i64 x.ct.v, .int .i64 x.ct.lo, .int .i64 x.ct.wd, .int .i64 x.ct.bw, .slice x.a x.ct.ws.length x.c] 34)
   have NX : Hid (x.a = none → x.c = 0) := N2.out x hxm
   have hll : l2.length ≤ 1073741824 := by have := L2.out; have := HNL.out; omega
   have hge := S4.out.ge
   have hsz := D5.out.size
   clear hbx
   go_wp2_with (refine wpList_appS5 rfl _ _ rfl w.heap.size _ l2 x rfl S5.out.1 w4.heap.size _ rfl (XN.out.cell 0) (XN.out.cell 1) (XN.out.cell 2) (XN.out.cell 3) (XN.out.cell 4) hll hsz ?_)
   intro g9 c9 w9 ho9 hg9
   have S9 := kide (S5.out.snoc ho9 hg9 (S5.out.2 x hxm))
   have R9 := kide (Rr.far HR0.out R5.out hg9 (fun k e => by cases e; exact hge))
   have D9 := kide (D5.out.own hg9 (fun k e => by cases e; exact hge))
   clear ho9 hg9
   rw [HNL.out] at S9 ⊢
   go_wp2_with fail
   go_ret
   exact ⟨_, l2 ++ [x], rfl, S9.out, N2.out.snoc NX.out, fun y hy => by
    rcases List.mem_append.1 hy with hy | hy
    ·exact O2.out y hy
    ·rw [List.mem_singleton.1 hy]; exact OX.out, by rw [List.length_append, List.length_singleton]; have := L2.out; have := HNL.out; omega, R9.out, D9.out⟩
  by_cases y4 : Y = 4
  ·subst y4
   have S5 := kide S4.out.none
   go_wp2_with fail
   go_ret
   exact ⟨_, [], rfl, S5.out, (fun x hx => by cases hx), (fun x hx => by cases hx), Nat.zero_le _, R4.out, D4.out⟩
  ·go_wp2_with fail
   go_ret
   exact ⟨_, l2, rfl, S4.out, N2.out, O2.out, by have := L2.out; have := HNL.out; omega, R4.out, D4.out⟩
def RetDp (w : World) (e : Ending) (w' : World) : Prop := ∃ vd ds v l hi lo, e = .returned (.tuple #[vd, v, .int .i64 hi, .int .i64 lo]) ∧ OD w' w.heap.size vd ds ∧ 1 ≤ ds.length ∧ ds.length ≤ 6 ∧ (∀ x ∈ ds, 1 ≤ x.2 ∧ x.2 ≤ 200 ∧ x.1.size ≤ 1) ∧ Ss w' w.heap.size v l ∧ No5 l ∧ (∀ x ∈ l, okF x.ct) ∧ l.length ≤ 2001 ∧ in64 hi ∧ in64 lo ∧ Below w.heap.size w w'
theorem OD.lowD {w : World} {B B' : Nat} {v : Value} {l : List Dc} (h : OD w B v l) (hB : B' ≤ B) : OD w B' v l := by
 obtain ⟨h1, h2⟩ := h
 refine ⟨h1, ?_⟩
 rcases h2 with h2 | ⟨g, cap, cur, rfl, hg, hh, r⟩
 ·exact .inl h2
 ·exact .inr ⟨g, cap, cur, rfl, by omega, hh, r⟩
set_option maxHeartbeats 2000000 in
set_option maxRecDepth 100000 in
theorem drawFP_any (a : Option Addr) (c n : Nat) (bs : List Nat) (w : World) (h : RdB w a bs) (hn : bs.length = n) :
  Calls Try.prog 5 #[.slice a n c] w (RetDp w) := by
 have HOP := kide (open_any a c bs w h)
 rw [hn] at HOP
 clear h
 go_enter Try.func5, Try.ntmps5
 go_wp2_with fail
 refine Calls.mono HOP.out ?_
 rintro e w1 ⟨β, rfl, hβ, hr1, hb1⟩
 have B1 := kide hb1
 have R1 := kide hr1
 have HB := kide hβ
 have hlt := hr1.lt
 have HDS := kide (decls_any β a c bs w1 hr1)
 clear hb1 hr1 hβ
 go_wp2_with fail
 refine Calls.mono HDS.out ?_
 rintro e w2 ⟨vd, ds, rfl, hod, hd1, hd6, hdw, hr2, hdw2⟩
 obtain ⟨da, dc, rfl, rd⟩ := hod.rd (by omega) (fun x hx => by have := hdw x hx; exact ⟨by unfold in64; omega, by omega⟩)
 have hpd : ∀ p, da = some p → p.block ≠ β ∧ p.block < w2.heap.size := fun p hp => by
  have h9 := hod.lt (b := p.block) (by rw [hp]; rfl)
  exact ⟨by omega, h9.2⟩
 have HFL := kide (flat_any β a c bs da dc ds.length ds w2 hr2 rd hpd rfl hd1 hd6 (fun x hx => ⟨(hdw x hx).1, (hdw x hx).2.1⟩))
 have OD2 := kide hod
 have D2 := kide hdw2
 have DF := kide (And.intro hd1 (And.intro hd6 hdw))
 obtain ⟨nd, hnd⟩ : ∃ m, ds.length = m := ⟨_, rfl⟩
 rw [hnd] at HFL ⊢
 have HND := kide hnd
 clear hnd
 clear hod hr2 hdw2 hd1 hd6 hdw rd hpd HDS HOP
 go_wp2_with fail
 refine Calls.mono HFL.out ?_
 rintro e w3 ⟨v3, l3, rfl, hs3, hno3, hok3, hl3, hr3, hd3⟩
 obtain ⟨fa, fc, rfl, rs3⟩ := hs3.rdN (by omega) hok3
 have OD3 := kide (OD2.out.far hd3 hlt)
 have D3 := kide (D2.out.trans hd3)
 have HW := kide (l5Wide_any fa fc l3.length l3 w3 rs3 rfl hl3)
 have S3 := kide hs3
 have N3 := kide hno3
 have O3 := kide hok3
 have L3 := kide hl3
 have R3 := kide hr3
 have Z2 : Hid (w1.heap.size ≤ w2.heap.size) := D2.out.size
 obtain ⟨nl, hnl⟩ : ∃ m, l3.length = m := ⟨_, rfl⟩
 rw [hnl] at HW ⊢
 have HNL := kide hnl
 clear hs3 hno3 hok3 hl3 hr3 hd3 rs3 HFL OD2 D2 hnl
 go_wp2_with fail
 refine Calls.mono HW.out ?_
 rintro e w4 ⟨b4, n4, rfl, hn4, hb4⟩
 have S4 := kide (S3.out.later hb4)
 have OD4 := kide (OD3.out.later hb4)
 have R4 := kide (R3.out.later hb4)
 have D4 := kide (D3.out.trans (Dw.of hb4))
 clear hb4 S3 OD3 R3 D3 HW
 have B0 : Hid (w.heap.size ≤ w1.heap.size) := B1.out.size
 have FIN : Hid (∀ (u : World) (hi lo : Int), in64 hi → in64 lo → Dw β w4 u → RetDp w (.returned (.tuple #[.slice da nd dc, .slice fa nl fc, .int .i64 hi, .int .i64 lo])) u) := fun u hi lo h1 h2 h3 => by
  have hdu : Dw β w1 u := D4.out.trans h3
  rw [← HND.out, ← HNL.out]
  refine ⟨_, ds, _, l3, hi, lo, rfl, (OD4.out.far h3 hlt).lowD B0.out, DF.out.1, DF.out.2.1, DF.out.2.2, (S4.out.far h3 (Nat.lt_of_lt_of_le hlt Z2.out)).low (Nat.le_trans B0.out Z2.out), N3.out, O3.out, L3.out, h1, h2, B1.out.trans ⟨hdu.os, hdu.tape, hdu.output, hdu.size, fun k hk => hdu.block k (Nat.lt_of_lt_of_le hk B0.out) (fun e => by cases e; have := HB.out; omega)⟩⟩
 clear S4 OD4 D4 N3 O3 L3 DF Z2 B0 HB
 by_cases h0 : n4 = 0
 ·subst h0
  have HO : Hid (Calls Try.prog 13 #[.pointer (some ⟨β, 0, none⟩), .int .i64 0, .int .i64 (max 0 (-1))] w4 fun e w' => ∃ x : Int, e = .returned (.int .i64 x) ∧ in64 x ∧ Rr w' β a c bs ∧ Dw β w4 w') := off0_any (max 0 (-1)) (by unfold in64; omega) β a c bs w4 R4.out
  go_wp2_with fail
  refine Calls.mono HO.out ?_
  rintro e w5 ⟨z, rfl, hz, hr5, hd5⟩
  have hmx : in64 (max 0 z) := by unfold in64 at hz ⊢; omega
  have HO2 := kide (off0_any (max 0 z) hmx β a c bs w5 hr5)
  have HZ := kide hz
  have D5 := kide hd5
  clear hz hr5 hd5 hmx
  go_wp2_with fail
  refine Calls.mono HO2.out ?_
  rintro e w6 ⟨z2, rfl, hz2, -, hd6⟩
  have F6 := kide (FIN.out w6 z z2 HZ.out hz2 (D5.out.trans hd6))
  clear hz2 hd6
  go_wp2_with fail
  exact bodyPost_ret (v := .tuple #[.slice da nd dc, .slice fa nl fc, .int .i64 z, .int .i64 z2]) (by simp [results, Try.results5, go_sem]) rfl F6.out
 ·obtain ⟨q, hq⟩ : ∃ q : Nat, (n4 : Int) - 1 = (q : Int) := ⟨n4 - 1, by omega⟩
  have hqw : IntKind.i64.wrap ((n4 : Int) - 1) = (q : Int) := by rw [IntKind.wrap_i64]; omega
  have hqx : max 0 (q : Int) = (q : Int) := by omega
  have hq2 : q ≤ 20000 := by omega
  have HO := kide (off0_any (q : Int) (by unfold in64; omega) β a c bs w4 R4.out)
  go_wp2_with fail
  refine Calls.mono HO.out ?_
  rintro e w5 ⟨z, rfl, hz, hr5, hd5⟩
  have hmx : in64 (max 0 z) := by unfold in64 at hz ⊢; omega
  have HO2 := kide (off0_any (max 0 z) hmx β a c bs w5 hr5)
  have HZ := kide hz
  have D5 := kide hd5
  clear hz hr5 hd5 hmx
  go_wp2_with fail
  refine Calls.mono HO2.out ?_
  rintro e w6 ⟨z2, rfl, hz2, -, hd6⟩
  have F6 := kide (FIN.out w6 z z2 HZ.out hz2 (D5.out.trans hd6))
  clear hz2 hd6
  go_wp2_with fail
  exact bodyPost_ret (v := .tuple #[.slice da nd dc, .slice fa nl fc, .int .i64 z, .int .i64 z2]) (by simp [results, Try.results5, go_sem]) rfl F6.out
def inD (ds : List Dc) (p : Ib) : Prop := (p.1 = -1 ∧ (p.2 = 0 ∨ p.2 = 1)) ∨ (0 ≤ p.1 ∧ p.1 < (ds.length : Int) ∧ 0 ≤ p.2 ∧ p.2 < (ds.getD p.1.toNat (.empty, 0)).2)
theorem formP_inD {ds : List Dc} {fs : List Sc} (h : ∀ s ∈ fs, sgOk ds s = true) : ∀ p ∈ formP fs, inD ds p := fun p hp => by
 obtain ⟨s, hs, hp⟩ := List.mem_flatMap.1 hp
 obtain ⟨k, hk, rfl⟩ := List.mem_map.1 hp
 have hk' := List.mem_range.1 hk
 have h9 := h s hs
 unfold segP
 by_cases e : s.v = -1
 ·rw [if_pos (by omega)]
  refine .inl ⟨rfl, ?_⟩
  simp only []
  cases tb s.ws k <;> simp
 ·obtain ⟨a, b, c, d, f⟩ := sgOk_vr h9 e
  rw [if_neg (by omega)]
  exact .inr ⟨a, b, by simp only []; omega, by simp only []; omega⟩
theorem inD_okI {ds : List Dc} {p : Ib} (hd : dclR ds = true) (h : inD ds p) : okI p := by
 have hdl := (dclR_iff.1 hd).1
 rcases h with ⟨h1, h2⟩ | ⟨h1, h2, h3, h4⟩
 ·exact ⟨by unfold in64; omega, .inl ⟨h1, h2⟩⟩
 ·obtain ⟨V, hV⟩ : ∃ V : Nat, p.1 = (V : Int) := ⟨p.1.toNat, by omega⟩
  have hl : V < ds.length := by omega
  have hw := dclR_wd hd (List.getElem?_eq_getElem hl)
  have e : (ds.getD p.1.toNat (.empty, 0)).2 = (ds[V]).2 := by rw [hV, Int.toNat_natCast]; simp [List.getD, hl]
  rw [e] at h4
  exact ⟨by unfold in64; omega, .inr ⟨h1, h3, by omega⟩⟩
theorem runC_next : ∀ (t : List Ib) (q : Ib) (r : List Ib), t.drop (runC t) = q :: r → ¬ q.1 < 0
 | [], q, r, h => by simp at h
 | p :: t, q, r, h => by
  unfold runC at h
  split at h
  ·exact runC_next t q r (by simpa using h)
  ·rename_i hp
   simp at h
   rw [← h.1]
   exact hp
theorem runV_next : ∀ (t : List Ib) (p q : Ib) (r : List Ib), t.drop (runV p t) = q :: r → ¬ (q.1 = p.1 ∧ q.2 = p.2 + ((runV p t : Nat) : Int) + 1)
 | [], p, q, r, h => by simp at h
 | x :: t, p, q, r, h => by
  unfold runV at h ⊢
  split at h
  ·rename_i hx
   rw [if_pos hx]
   have h9 := runV_next t x q r (by simpa using h)
   rintro ⟨e1, e2⟩
   exact h9 ⟨by rw [hx.1]; exact e1, by rw [hx.2]; push_cast at e2; omega⟩
  ·rename_i hx
   rw [if_neg hx]
   simp at h
   rintro ⟨e1, e2⟩
   rw [h.1] at hx
   exact hx ⟨e1, by simpa using e2⟩
theorem formB_head {q : Ib} {r : List Ib} : ∃ s t, formB (q :: r) = s :: t ∧ (q.1 < 0 → s.v = -1) ∧ (¬ q.1 < 0 → s.v = q.1 ∧ s.lo = q.2) := by
 rw [formB_cons]
 split
 ·rename_i h
  exact ⟨_, _, rfl, fun _ => rfl, fun h9 => absurd h h9⟩
 ·rename_i h
  exact ⟨_, _, rfl, fun h9 => absurd h9 h, fun _ => ⟨rfl, rfl⟩⟩
theorem sgOk_segV {ds : List Dc} {p : Ib} {n : Nat} (h1 : 0 ≤ p.1) (h2 : p.1 < (ds.length : Int)) (h3 : 0 ≤ p.2) (h4 : p.2 + (n : Int) ≤ (ds.getD p.1.toNat (.empty, 0)).2) (hn : 1 ≤ n) : sgOk ds (segV p n) = true := by
 obtain ⟨V, hV⟩ : ∃ V : Nat, p.1 = (V : Int) := ⟨p.1.toNat, by omega⟩
 have hl : V < ds.length := by omega
 rw [sgOk_in (s := segV p n) (k := V) (d := ds[V]) hV (List.getElem?_eq_getElem hl) rfl rfl]
 have e : (ds.getD p.1.toNat (.empty, 0)).2 = (ds[V]).2 := by rw [hV, Int.toNat_natCast]; simp [List.getD, hl]
 rw [e] at h4
 unfold segV
 simp only [Bool.and_eq_true, decide_eq_true_eq]
 omega
theorem formB_flL {ds : List Dc} : ∀ (n : Nat) (l : List Ib) (q : Option Sc), l.length ≤ n → l.length ≤ 4096 → (∀ p ∈ l, inD ds p) → (∀ r s t, q = some r → formB l = s :: t → oneB r s = false) → flL ds q (formB l) = true
 | 0, l, q, h, _, _, _ => by
  have : l = [] := List.eq_nil_of_length_eq_zero (by omega)
  subst this
  rw [formB_nil]
  cases q <;> rfl
 | n + 1, [], q, _, _, _, _ => by rw [formB_nil]; cases q <;> rfl
 | n + 1, p :: t, q, h, h2, hp, hq => by
  have hlen : (p :: t).length = t.length + 1 := rfl
  have hin := hp p (by simp)
  have key : ∀ (S : Sc) (m : Nat), formB (p :: t) = S :: formB (t.drop m) → sgOk ds S = true → (∀ s r, formB (t.drop m) = s :: r → oneB S s = false) → flL ds q (formB (p :: t)) = true := fun S m e h3 h4 => by
   have ih := formB_flL n (t.drop m) (some S) (by rw [List.length_drop]; omega) (by rw [List.length_drop]; omega) (fun x hx => hp x (List.mem_cons_of_mem _ (List.mem_of_mem_drop hx))) (fun r s t' e1 e2 => by cases e1; exact h4 s t' e2)
   cases q with
   | none => rw [e, flL, h3, ih]; rfl
   | some r => rw [e, flL, h3, ih, hq r S _ rfl e]; rfl
  by_cases hv : p.1 < 0
  ·have e : formB (p :: t) = segC ((p :: t).take (runC t + 1)) :: formB (t.drop (runC t)) := by rw [formB_cons, if_pos hv]
   have hl := runC_le t
   have hc : ∀ x ∈ (p :: t).take (runC t + 1), x.1 = -1 ∧ (x.2 = 0 ∨ x.2 = 1) := fun x hx => by
    have hx9 := hp x (List.mem_of_mem_take hx)
    rw [List.take_succ_cons] at hx
    have hx0 : x.1 < 0 := by
     rcases List.mem_cons.1 hx with rfl | hx
     ·exact hv
     ·exact runC_all t x hx
    rcases hx9 with h9 | h9
    ·exact h9
    ·omega
   have hcl : ((p :: t).take (runC t + 1)).length = runC t + 1 := by rw [List.length_take]; omega
   have hok := segC_ok hc (by omega) (by omega)
   refine key _ _ e ?_ (fun s r es => ?_)
   ·rcases hok.2.2.2 with ⟨o1, o2, o3, o4⟩ | ⟨o1, -⟩
    ·rw [sgOk_const o1, o4, decide_eq_true o2, decide_eq_true o3.symm]; rfl
    ·exact absurd o1 (by unfold segC; simp)
   ·cases hr : t.drop (runC t) with
    | nil => rw [hr, formB_nil] at es; cases es
    | cons x u =>
     have hx := runC_next t x u hr
     obtain ⟨s', t', e', -, g2⟩ := formB_head (q := x) (r := u)
     rw [hr, e'] at es
     cases es
     unfold oneB
     rw [(g2 hx).1, show (segC ((p :: t).take (runC t + 1))).v = -1 from rfl, decide_eq_false (show ¬ (-1 : Int) = x.1 by omega)]
     rfl
  ·have e : formB (p :: t) = segV p (runV p t + 1) :: formB (t.drop (runV p t)) := by rw [formB_cons, if_neg hv]
   have hl := runV_le t p
   obtain ⟨i1, i2, i3, i4⟩ : 0 ≤ p.1 ∧ p.1 < (ds.length : Int) ∧ 0 ≤ p.2 ∧ p.2 < (ds.getD p.1.toNat (.empty, 0)).2 := by
    rcases hin with h9 | h9
    ·omega
    ·exact h9
   have hlast : (p.1, p.2 + (runV p t : Int)) ∈ p :: t := by
    have h9 : (p.1, p.2 + (runV p t : Int)) ∈ runL p.1 p.2 (runV p t + 1) := List.mem_map.2 ⟨runV p t, List.mem_range.2 (by omega), rfl⟩
    rw [← runV_run t p] at h9
    exact List.mem_of_mem_take h9
   have hli := hp _ hlast
   refine key _ _ e (sgOk_segV i1 i2 i3 ?_ (by omega)) (fun s r es => ?_)
   ·rcases hli with h9 | h9
    ·simp only [] at h9; omega
    ·simp only [] at h9
     have := h9.2.2.2
     omega
   ·cases hr : t.drop (runV p t) with
    | nil => rw [hr, formB_nil] at es; cases es
    | cons x u =>
     have hx := runV_next t p x u hr
     obtain ⟨s', t', e', g1, g2⟩ := formB_head (q := x) (r := u)
     rw [hr, e'] at es
     cases es
     unfold oneB
     rw [show (segV p (runV p t + 1)).v = p.1 from rfl, show (segV p (runV p t + 1)).lo = p.2 from rfl, show (segV p (runV p t + 1)).wd = ((runV p t + 1 : Nat) : Int) from rfl]
     by_cases hx0 : x.1 < 0
     ·rw [g1 hx0, decide_eq_false (show ¬ p.1 = -1 by omega)]; rfl
     ·rw [(g2 hx0).1, (g2 hx0).2, decide_eq_false (show ¬ p.1 = -1 by omega)]
      by_cases e1 : p.1 = x.1
      ·rw [decide_eq_false (show ¬ p.2 + ((runV p t + 1 : Nat) : Int) = x.2 from fun e2 => hx ⟨e1.symm, by omega⟩)]
       simp
      ·rw [decide_eq_false e1]; rfl
theorem formB_flat {ds : List Dc} {l : List Ib} (hd : dclR ds = true) (h1 : 1 ≤ l.length) (h4 : l.length ≤ 4096) (hi : ∀ p ∈ l, inD ds p) (hl : (formB l).length ≤ 2000) : flatR ds (formB l) = true ∧ formP (formB l) = l := by
 obtain ⟨hP, hO⟩ := formB_P _ l (Nat.le_refl _) h4 (fun p hp => inD_okI hd (hi p hp))
 have hsum := formP_len (formB l) (fun s hs => by have := (hO s hs).1.1; omega)
 rw [hP] at hsum
 have hne : 1 ≤ (formB l).length := by
  cases l with
  | nil => simp at h1
  | cons p t => exact formB_pos
 refine ⟨?_, hP⟩
 unfold flatR
 rw [hd, decide_eq_true hne, decide_eq_true hl, formB_flL _ l none (Nat.le_refl _) h4 hi (fun r s t e _ => by cases e), decide_eq_true (show sumS (formB l) ≤ 4096 by omega)]
 rfl
theorem parts_back {ds : List Dc} {fs : List Sc} {hi : Nat} (hf : flatR ds fs = true) (hw : ∀ s ∈ fs, ∀ y ∈ s.ws, y < 18446744073709551616) (hh : (hi : Int) < sumS fs) :
  fptR ds fs (hi : Int) 0 = (formB ((formP fs).take (hi + 1)), true) ∧
  ((hi : Int) = sumS fs - 1 → formB ((formP fs).take (hi + 1)) = fs) ∧
  ((hi : Int) ≠ sumS fs - 1 → fptR ds fs (sumS fs - 1) ((hi : Int) + 1) = (formB ((formP fs).drop (hi + 1)), true) ∧ fjnR ds (formB ((formP fs).drop (hi + 1))) (formB ((formP fs).take (hi + 1))) = (fs, true)) := by
 have hnf := formB_nf (Nf.of hf hw)
 have hF2 := hf
 rw [flatR_form] at hF2
 simp only [Bool.and_eq_true] at hF2
 obtain ⟨hd, hfr⟩ := hF2
 obtain ⟨hall, hs1, hs2, hl2⟩ := formR_sum hd hfr
 have hfl := formP_len fs (fun s hs => by have := (hall s hs).2.1; omega)
 have hin := formP_inD (fun s hs => (hall s hs).1)
 have hT : (formB ((formP fs).take (hi + 1))).length ≤ 2000 := by
  have h9 := formB_part (formP fs) 0 (hi + 1)
  rw [List.drop_zero, hnf] at h9
  omega
 have hD : (formB ((formP fs).drop (hi + 1))).length ≤ 2000 := by
  have h9 := formB_drop (hi + 1) (formP fs)
  rw [hnf] at h9
  omega
 refine ⟨?_, fun e => ?_, fun e => ?_⟩
 ·unfold fptR
  rw [if_pos ⟨hf, by omega, by omega, hh⟩]
  simp
 ·rw [List.take_of_length_le (by omega), hnf]
 ·have a1 := formB_flat hd (l := (formP fs).take (hi + 1)) (by rw [List.length_take]; omega) (by rw [List.length_take]; omega) (fun p hp => hin p (List.mem_of_mem_take hp)) hT
  have a2 := formB_flat hd (l := (formP fs).drop (hi + 1)) (by rw [List.length_drop]; omega) (by rw [List.length_drop]; omega) (fun p hp => hin p (List.mem_of_mem_drop hp)) hD
  constructor
  ·unfold fptR
   rw [if_pos ⟨hf, by omega, by omega, by omega⟩]
   have e1 : ((hi : Int) + 1).toNat = hi + 1 := by omega
   have e2 : (sumS fs - 1).toNat + 1 - (hi + 1) = (formP fs).length - (hi + 1) := by omega
   rw [e1, e2, ← List.length_drop, List.take_length]
  ·unfold fjnR
   have s1 := formP_len (formB ((formP fs).take (hi + 1))) (fun s hs => by have := ((formB_P _ _ (Nat.le_refl _) (by rw [List.length_take]; omega) (fun p hp => inD_okI hd (hin p (List.mem_of_mem_take hp)))).2 s hs).1.1; omega)
   have s2 := formP_len (formB ((formP fs).drop (hi + 1))) (fun s hs => by have := ((formB_P _ _ (Nat.le_refl _) (by rw [List.length_drop]; omega) (fun p hp => inD_okI hd (hin p (List.mem_of_mem_drop hp)))).2 s hs).1.1; omega)
   rw [a1.2, List.length_take] at s1
   rw [a2.2, List.length_drop] at s2
   rw [a1.2, a2.2, List.take_append_drop, hnf, if_pos ⟨a2.1, a1.1, by omega, by omega⟩]
end Go.Proofs.Ytffcklobignlfaa
