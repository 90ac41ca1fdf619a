/- Several texts in one. -/
import Derived.Test.YtffcklobignlfaaGAK
import Derived.Test.YtffcklobignlfaaFNW
import Derived.Test.YtffcklobignlfaaGAH
import Derived.Test.YtffcklobignlfaaGAF
import Derived.Handy
import Derived.Test.YtffcklobignlfaaRX
import Derived.Test.YtffcklobignlfaaGAJ
import Derived.Test.YtffcklobignlfaaGAI
namespace Go.Proofs.Ytffcklobignlfaa
open Go.RowKit
set_option linter.unusedVariables false
set_option linter.unusedSimpArgs false
theorem OS5.low {w : World} {B B' : Nat} {v : Value} {l : List Sg} (h : OS5 w B v l) (hB : B' ≤ B) : OS5 w B' v l := by
 obtain ⟨h1, h2⟩ := h
 refine ⟨h1, ?_⟩
 rcases h2 with h2 | ⟨g, cap, cur, rfl, hg, hh, r⟩
 ·exact .inl h2
 ·exact .inr ⟨g, cap, cur, rfl, by omega, hh, r⟩
def RetF (R : List Sc × Bool) (w : World) (e : Ending) (w' : World) : Prop := ∃ v l, e = .returned (.tuple #[v, .bool R.2]) ∧ l.map Sg.ct = R.1 ∧ Ss w' w.heap.size v l ∧ Below w.heap.size w w'
theorem rdp_slice {w : World} {g lo n m : Nat} {ps : List Ib} (h : RdP w (some ⟨g, 0, none⟩) ps) (hn : lo + n ≤ ps.length) : RdP w (some ⟨g, lo * 2, none⟩) ((ps.drop lo).take n) := by
 obtain ⟨h1, h2⟩ := h
 refine ⟨by simp; omega, ?_⟩
 rcases h2 with h2 | ⟨b, o, e, hc⟩
 ·left; rw [h2]; simp
 ·cases e
  right
  refine ⟨g, lo * 2, rfl, fun i p hp => ?_⟩
  have hi : i < n := by
   have := (List.getElem?_eq_some_iff.1 hp).1
   simp at this
   omega
  rw [List.getElem?_take, if_pos hi, List.getElem?_drop] at hp
  have := hc (lo + i) p hp
  rw [show 0 + (lo + i) * 2 = lo * 2 + i * 2 by omega] at this
  exact this
theorem rds_words {w : World} {a : Option Addr} {xs : List Sg} (h : RdS w a xs) : ∀ s ∈ xs.map Sg.ct, ∀ y ∈ s.ws, y < 18446744073709551616 := fun s hs => by
 obtain ⟨x, hx, rfl⟩ := List.mem_map.1 hs
 obtain ⟨i, hi⟩ := List.getElem?_of_mem hx
 rcases h.2 with h2 | ⟨b, o, -, hc⟩
 ·rw [h2] at hi; simp at hi
 ·exact (hc i x hi).2.1.2.1

def okF (s : Sc) : Prop := in64 s.v ∧ in64 s.lo ∧ in64 s.wd ∧ in64 s.bw ∧ s.ws.length ≤ 1048576 ∧ ∀ y ∈ s.ws, y < 18446744073709551616
theorem RdS.okF {w : World} {a : Option Addr} {xs : List Sg} (h : RdS w a xs) : ∀ s ∈ xs.map Sg.ct, okF s := fun s hs => by
 obtain ⟨x, hx, rfl⟩ := List.mem_map.1 hs
 obtain ⟨i, hi⟩ := List.getElem?_of_mem hx
 rcases h.2 with h2 | ⟨b, o, -, hc⟩
 ·rw [h2] at hi; simp at hi
 ·obtain ⟨-, h1, h3, h4, h5, h6⟩ := hc i x hi
  exact ⟨h3, h4, h5, h6, h1.1, h1.2.1⟩
theorem pk_le {l : List Nat} (h : l.length ≤ 4096) : (pack l).length ≤ 1048576 := by rw [pack_len]; omega
theorem formB_ok : ∀ (n : Nat) (l : List Ib), l.length ≤ n → l.length ≤ 4096 → (∀ p ∈ l, in64 p.1 ∧ in64 p.2) → ∀ s ∈ formB l, okF s
 | 0, l, h, _, _, s, hs => by
  have : l = [] := List.eq_nil_of_length_eq_zero (by omega)
  subst this
  rw [formB_nil] at hs
  cases hs
 | n + 1, [], _, _, _, s, hs => by rw [formB_nil] at hs; cases hs
 | n + 1, p :: t, h, h2, hp, s, hs => by
  have hlen : (p :: t).length = t.length + 1 := rfl
  rw [formB_cons] at hs
  split at hs
  ·rcases List.mem_cons.1 hs with rfl | hs
   ·have hk : ((p :: t).take (runC t + 1)).length ≤ 4096 := by rw [List.length_take]; omega
    unfold segC
    refine ⟨by unfold in64; simp, by unfold in64; simp, by unfold in64; simp only []; omega, by unfold in64; simp only []; omega, pk_le (by rw [List.length_map]; exact hk), pack_lt _⟩
   ·exact formB_ok n _ (by rw [List.length_drop]; omega) (by rw [List.length_drop]; omega) (fun q hq => hp q (List.mem_cons_of_mem _ (List.mem_of_mem_drop hq))) s hs
  ·rcases List.mem_cons.1 hs with rfl | hs
   ·have hk := runV_le t p
    unfold segV
    exact ⟨(hp p (by simp)).1, (hp p (by simp)).2, by unfold in64; simp only []; omega, by unfold in64; simp, by simp, by simp⟩
   ·exact formB_ok n _ (by rw [List.length_drop]; omega) (by rw [List.length_drop]; omega) (fun q hq => hp q (List.mem_cons_of_mem _ (List.mem_of_mem_drop hq))) s hs
def sgv (x : Sg) : List Value := [.int .i64 x.ct.v, .int .i64 x.ct.lo, .int .i64 x.ct.wd, .int .i64 x.ct.bw, .slice x.a x.ct.ws.length x.c]
theorem sgv_len (x : Sg) : (sgv x).length = 5 := rfl
theorem sgc_set {j : Nat} {x x' : Sg} {u : Value} (hj : j < 5) (e : sgv x' = (sgv x).set j u) : ∀ (l : List Sg) (i : Nat), l[i]? = some x → sgc (l.set i x') = (sgc l).set (i * 5 + j) u
 | [], i, h => by simp at h
 | y :: t, 0, h => by
  have hy : y = x := by simpa using h
  rw [hy, List.set_cons_zero]
  show sgv x' ++ sgc t = (sgv x ++ sgc t).set (0 * 5 + j) u
  rw [e, Nat.zero_mul, Nat.zero_add, List.set_append_left _ _ (by rw [sgv_len]; exact hj)]
 | y :: t, i + 1, h => by
  have ih := sgc_set hj e t i (by simpa using h)
  rw [List.set_cons_succ]
  show sgv y ++ sgc (t.set i x') = (sgv y ++ sgc t).set ((i + 1) * 5 + j) u
  rw [ih, List.set_append_right _ _ (by rw [sgv_len]; omega), sgv_len, show (i + 1) * 5 + j - 5 = i * 5 + j by omega]
theorem OS5.put {w : World} {B g n c i j : Nat} {l : List Sg} {x x' : Sg} {u : Value} (h : OS5 w B (.slice (some ⟨g, 0, none⟩) n c) l) (hi : l[i]? = some x) (hj : j < 5) (e : sgv x' = (sgv x).set j u) : OS5 (w.setCell ⟨g, i * 5 + j, none⟩ u) B (.slice (some ⟨g, 0, none⟩) n c) (l.set i x') := by
 rcases h.2 with ⟨e', -⟩ | ⟨g', cap, cur, e', hg, hh, hc1, hc2, hsz, hcur⟩
 ·cases e'
 ·cases e'
  refine ⟨by rw [sgc_len], .inr ⟨g, c, cur.setIfInBounds (i * 5 + j) u, by rw [List.length_set], hg, heap_setCell_same w g (i * 5 + j) _ _ _ hh, by rw [List.length_set]; exact hc1, hc2, by simpa using hsz, ?_⟩⟩
  rw [List.length_set, Array.toList_setIfInBounds, List.take_set, hcur, sgc_set hj e l i hi]
theorem OS5.froz {w : World} {B g n c : Nat} {l : List Sg} (h : OS5 w B (.slice (some ⟨g, 0, none⟩) n c) l) (o : Nat) : w.frozen? ⟨g, o, none⟩ = false := by
 rcases h.2 with ⟨e', -⟩ | ⟨g', cap, cur, e', hg, hh, -⟩
 ·cases e'
 ·cases e'; exact frozen_of_row w g o _ _ hh
theorem OS5.val {w : World} {B g n c i j : Nat} {l : List Sg} {x : Sg} {u : Value} (h : OS5 w B (.slice (some ⟨g, 0, none⟩) n c) l) (hi : l[i]? = some x) (hj : (sgv x)[j]? = some u) : w.cell? ⟨g, i * 5 + j, none⟩ = some u := by
 have hc := World.ownsRow.cells h (g := g) rfl (i * 5 + j) u ?_
 ·rw [Addr.add_lit, Nat.zero_add] at hc
  exact hc
 ·have : ∀ (l : List Sg) (i : Nat), l[i]? = some x → (sgc l)[i * 5 + j]? = some u := fun l => by
   induction l with
   | nil => intro i h; simp at h
   | cons y t ih =>
    intro i h
    have hj5 : j < 5 := by have := (List.getElem?_eq_some_iff.1 hj).1; rw [sgv_len] at this; exact this
    show (sgv y ++ sgc t)[i * 5 + j]? = some u
    cases i with
    | zero =>
     have hy : y = x := by simpa using h
     rw [hy, Nat.zero_mul, Nat.zero_add, List.getElem?_append_left (by rw [sgv_len]; exact hj5)]
     exact hj
    | succ i =>
     rw [List.getElem?_append_right (by rw [sgv_len]; omega), sgv_len, show (i + 1) * 5 + j - 5 = i * 5 + j by omega]
     exact ih i (by simpa using h)
  exact this l i hi
theorem Ss.put {w : World} {B g n c i j : Nat} {l : List Sg} {x x' : Sg} {u : Value} (h : Ss w B (.slice (some ⟨g, 0, none⟩) n c) l) (hi : l[i]? = some x) (hj : j < 5) (e : sgv x' = (sgv x).set j u) (ea : x'.a = x.a) (ew : x'.ct.ws = x.ct.ws) : Ss (w.setCell ⟨g, i * 5 + j, none⟩ u) B (.slice (some ⟨g, 0, none⟩) n c) (l.set i x') := by
 obtain ⟨cur, hc⟩ := h.1.typed (b := g) rfl
 have kw : ∀ y : Sg, Nw w B y.a y.ct.ws → Nw (w.setCell ⟨g, i * 5 + j, none⟩ u) B y.a y.ct.ws := fun y hy => hy.kept fun k c2 hk => heap_setCell_other _ _ _ _ (fun e9 => by
  simp only [] at e9
  rw [e9, hc] at hk
  cases hk)
 refine ⟨h.1.put hi hj e, fun y hy => ?_⟩
 rcases List.mem_or_eq_of_mem_set hy with h9 | h9
 ·exact kw y (h.2 y h9)
 ·rw [h9]
  exact kw x' (by rw [ea, ew]; exact h.2 x (List.mem_of_getElem? hi))
theorem No5.put {l : List Sg} {i : Nat} {x x' : Sg} (h : No5 l) (hi : l[i]? = some x) (ea : x'.a = x.a) (ec : x'.c = x.c) : No5 (l.set i x') := fun y hy => by
 rcases List.mem_or_eq_of_mem_set hy with h9 | h9
 ·exact h y h9
 ·rw [h9, ea, ec]; exact h x (List.mem_of_getElem? hi)
theorem Ss.none {w : World} {B g n c : Nat} {l : List Sg} (h : Ss w B (.slice (some ⟨g, 0, Option.none⟩) n c) l) : Ss w B (.slice (some ⟨g, 0, Option.none⟩) 0 c) [] := by
 refine ⟨?_, fun y hy => by cases hy⟩
 rcases h.1.2 with ⟨e', -⟩ | ⟨g', cap, cur, e', hg, hh, hc1, hc2, hsz, hcur⟩
 ·cases e'
 ·cases e'
  exact ⟨rfl, .inr ⟨g, c, cur, rfl, hg, hh, Nat.zero_le _, hc2, hsz, by simp [sgc]⟩⟩
theorem Ss.rdN {w : World} {B : Nat} {v : Value} {l : List Sg} (h : Ss w B v l) (hl : l.length ≤ 1048576) (ho : ∀ x ∈ l, okF x.ct) : ∃ a c, v = .slice a l.length c ∧ RdS w a l := by
 rcases h.1.2 with ⟨e, h0⟩ | ⟨g, cap, cur, e, -⟩
 ·exact ⟨Option.none, 0, by rw [e, h0], hl, .inl (List.eq_nil_of_length_eq_zero h0)⟩
 ·subst e
  refine ⟨some ⟨g, 0, Option.none⟩, cap, rfl, hl, .inr ⟨g, 0, rfl, fun i x hx => ?_⟩⟩
  have hm := List.mem_of_getElem? hx
  obtain ⟨o1, o2, o3, o4, o5, o6⟩ := ho x hm
  rw [Nat.zero_add]
  exact ⟨⟨h.1.val (j := 0) hx rfl, h.1.val (j := 1) hx rfl, h.1.val (j := 2) hx rfl, h.1.val (j := 3) hx rfl, h.1.val (j := 4) hx rfl⟩, (h.2 x hm).rd o5 o6, o1, o2, o3, o4⟩
theorem wpList_appW1 {w : World} {ops : Array Oper} {rest : List Oper} {o : Oper} {a : Act} {Q : Exit → Act → World → Prop} (hgd : o.guard = none) (s x : Operand)
  (ho : o.op = .call { callee := .builtin .append, args := #[s, x], argTypes := #[30, 30] })
  (B : Nat) (v : Value) (l : List Nat) (y : Nat) (hs : a.eval s = v) (hown : OwW w B v l) (gx c : Nat) (hx : a.eval x = .slice (some ⟨gx, 0, none⟩) 1 c)
  (h0 : w.cell? ⟨gx, 0, none⟩ = some (.int .u64 (y : Int))) (hl : l.length ≤ 1073741824) (hB : B ≤ w.heap.size)
  (h : ∀ g cap w', OwW w' B (.slice (some ⟨g, 0, none⟩) (l.length + 1) cap) (l ++ [y]) → w.grownBy w' v.ownBlock → (v.ownBlock = some g ∨ g = w.heap.size) → wpList Try.prog ops Q rest (a.put o.dst (.slice (some ⟨g, 0, none⟩) (l.length + 1) cap)) w') : wpList Try.prog ops Q (o :: rest) a w := by
 obtain ⟨i0, hi, hz0, hz1, hz2⟩ := info_parts Try.infoU64
 refine wpList_append_lies w hgd s x 30 ho B 82 i0 _ 1 8 Try.underlying30 hi hz0 hz1 hz2 rfl (by decide) v l.length (u64s l).toList hs hown ⟨gx, 0, none⟩ 1 c [.int .u64 (y : Int)] hx rfl ?_ ?_ (by decide) ?_ ?_ hB _ rfl ?_
 ·intro j u hj
  rw [Addr.add_lit]
  match j, hj with
  | 0, hj => simp at hj; subst hj; exact h0
  | j + 1, hj => simp at hj
 ·intro u hu
  simp at hu
  subst hu
  rfl
 ·unfold maxLen; omega
 ·omega
 ·intro g cap w' h1 h2 h3 _
  refine h g cap w' ?_ h2 h3
  unfold OwW
  rw [List.length_append]
  simpa [u64s] using h1
theorem tb_more (xs : List Nat) (m j : Nat) : tb (xs ++ List.replicate m 0) j = tb xs j := by
 unfold tb
 congr 1
 simp only [List.getD]
 by_cases h : j / 64 < xs.length
 ·rw [List.getElem?_append_left h]
 ·rw [List.getElem?_append_right (by omega), List.getElem?_eq_none (show xs.length ≤ j / 64 by omega), List.getElem?_replicate]
  split <;> rfl
theorem put_joined {P q m : Nat} {xs ys : List Nat} (hx : rightB P xs = true) (hy : rightB q ys = true) (hxl : ∀ x ∈ xs, x < 18446744073709551616) (hyl : ∀ x ∈ ys, x < 18446744073709551616) (hl : (xs ++ List.replicate m 0).length = (P + q + 63) / 64) :
  putTo (xs ++ List.replicate m 0) ys (P / 64) (P % 64) ys.length = pack (bitsTo xs P ++ bitsTo ys q) := by
 have hz : ∀ x ∈ xs ++ List.replicate m 0, x < 18446744073709551616 := fun x h => by
  rcases List.mem_append.1 h with h | h
  ·exact hxl x h
  ·have := List.eq_of_mem_replicate h; omega
 refine eq_pack (fun x hxm => ?_) (by rw [putTo_len, hl]; simp [bitsTo_len]) (putTo_lt _ _ _ _ _ hz hyl) fun i hi => ?_
 ·rcases List.mem_append.1 hxm with h | h
  ·exact bitsTo_le _ _ x h
  ·exact bitsTo_le _ _ x h
 ·rw [tb_put_right hy hyl _ P (by rw [hl]; omega), tb_more]
  by_cases h1 : i < P
  ·have e : (bitsTo xs P ++ bitsTo ys q).getD i 0 = (tb xs i).toNat := by
    simp only [List.getD]
    rw [List.getElem?_append_left (by rw [bitsTo_len]; exact h1)]
    simp [bitsTo, h1]
   rw [e]
   simp [show ¬ P ≤ i by omega]
  ·rw [tb_out hx i (by omega)]
   by_cases h2 : i - P < q
   ·have e : (bitsTo xs P ++ bitsTo ys q).getD i 0 = (tb ys (i - P)).toNat := by
     simp only [List.getD]
     rw [List.getElem?_append_right (by rw [bitsTo_len]; omega), bitsTo_len]
     simp [bitsTo, h2]
    rw [e]
    simp [show P ≤ i by omega]
   ·have e : (bitsTo xs P ++ bitsTo ys q).getD i 0 = 0 := by
     simp only [List.getD]
     rw [List.getElem?_eq_none (by simp [bitsTo_len]; omega)]
     rfl
    rw [e, tb_out hy (i - P) (by omega)]
    simp
theorem oww_later {w w' : World} {B : Nat} {v : Value} {l : List Nat} (h : OwW w B v l) (hb : Below w.heap.size w w') : OwW w' B v l := World.ownsRow.kept (row := none) h ⟨hb.os, hb.tape, hb.output, hb.size, fun k hk _ => hb.block k hk⟩ (by
 cases h' : v.ownBlock with
 | none => exact .inl rfl
 | some k => exact .inr (by simp))
theorem oww_typed {w : World} {B : Nat} {v : Value} {l : List Nat} (h : OwW w B v l) {b : Nat} (hb : v.ownBlock = some b) : (∃ cur, w.heap[b]? = some (.cells cur 82 (0, 0))) ∧ B ≤ b := by
 rcases h.2 with ⟨rfl, -⟩ | ⟨g, cap, cur, rfl, hg, hh, -⟩
 ·cases hb
 ·cases hb; exact ⟨⟨cur, hh⟩, hg⟩
theorem bz_oww {w w' : World} {b B : Nat} {v : Value} {xs : List Nat} {cs : Array Value} {t : TypeId} (hb : Bz w b cs t) (h : OwW w B v xs) (ht : t ≠ 82) (hg : w.grownBy w' v.ownBlock) : Bz w' b cs t := by
 unfold Bz at hb ⊢
 rw [hg.block b (lt_of_block hb) (fun e => by
  obtain ⟨⟨cur, hc⟩, -⟩ := oww_typed h e.symm
  rw [hb] at hc
  cases hc
  exact ht rfl)]
 exact hb
theorem oww_set {w : World} {B b i : Nat} {v : Value} {xs : List Nat} {cs : Array Value} {t : TypeId} (h : OwW w B v xs) (hb : Bz w b cs t) (ht : t ≠ 82) (u : Value) : OwW (w.setCell ⟨b, i, none⟩ u) B v xs := by
 obtain ⟨h1, h2⟩ := h
 refine ⟨h1, ?_⟩
 rcases h2 with h2 | ⟨g, cap, cur, rfl, hg, hh, r⟩
 ·exact .inl h2
 ·refine .inr ⟨g, cap, cur, rfl, hg, ?_, r⟩
  rw [heap_setCell_other _ _ _ _ (fun e => by
   simp only [] at e
   unfold Bz at hb
   rw [e, hb] at hh
   cases hh
   exact ht rfl)]
  exact hh
theorem gsc3 (w : World) (a : Addr) (u : Value) : w.grownBy (w.setCell a u) (some a.block) :=
 ⟨rfl, rfl, rfl, by simp, fun k _ hk => heap_setCell_other _ _ _ _ (fun e => hk (by rw [e]))⟩
theorem rd_gr {w w' : World} {a : Option Addr} {xs : List Nat} {r : Option Nat} (h : Rd w a xs) (hg : w.grownBy w' r) (hne : ∀ p, a = some p → r ≠ some p.block) : Rd w' a xs := by
 obtain ⟨h1, h2, h3⟩ := h
 refine ⟨h1, h2, ?_⟩
 rcases h3 with h3 | ⟨b, o, rfl, hc⟩
 ·exact .inl h3
 ·refine .inr ⟨b, o, rfl, fun i hi => ?_⟩
  have hl := block_lt_of_cell (hc i hi)
  rw [World.cell?_of_block (a := ⟨b, o + i, none⟩) (hg.block b hl (fun e => hne _ rfl e.symm))]
  exact hc i hi
def lenC (w : World) (b i : Nat) : Nat := match w.cell? ⟨b, i, none⟩ with | some (.slice _ n _) => n | _ => 0
theorem grown_own {w w1 w2 : World} {own : Option Nat} {r : Option Nat} (h : w.grownBy w1 own) (h2 : w1.grownBy w2 r) (hr : ∀ k, r = some k → own = some k ∨ w.heap.size ≤ k) : w.grownBy w2 own :=
 ⟨h2.os.trans h.os, h2.tape.trans h.tape, h2.output.trans h.output, Nat.le_trans h.size h2.size, fun k hk hne => by
  rw [h2.block k (Nat.lt_of_lt_of_le hk h.size) (fun e => by
   rcases hr k e.symm with h9 | h9
   ·exact hne h9.symm
   ·omega)]
  exact h.block k hk hne⟩
def RetO (s t : Sc) (B : Nat) (own : Option Nat) (w : World) (e : Ending) (w' : World) : Prop := ∃ v, e = .returned (.agg #[.int .i64 (oneS s t).v, .int .i64 (oneS s t).lo, .int .i64 (oneS s t).wd, .int .i64 (oneS s t).bw, v]) ∧ OwW w' B v (oneS s t).ws ∧ (∀ k, v.ownBlock = some k → own = some k ∨ w.heap.size ≤ k) ∧ w.grownBy w' own
set_option maxHeartbeats 1000000 in
set_option maxRecDepth 100000 in
theorem oneSeg_any (s t : Sc) (B : Nat) (av bv : Option Addr) (ca cb : Nat) (w : World) (hs : okS s) (ht : okS t) (ho : oneB s t = true) (hsum : s.wd + t.wd ≤ 4096) (hB : B ≤ w.heap.size) (hA : OwW w B (.slice av s.ws.length ca) s.ws) (hT : Rd w bv t.ws) (hne : ∀ p q, av = some p → bv = some q → p.block ≠ q.block) :
  Calls Try.prog 41 #[.agg #[.int .i64 s.v, .int .i64 s.lo, .int .i64 s.wd, .int .i64 s.bw, .slice av s.ws.length ca], .agg #[.int .i64 t.v, .int .i64 t.lo, .int .i64 t.wd, .int .i64 t.bw, .slice bv t.ws.length cb]] w (RetO s t B (Value.slice av s.ws.length ca).ownBlock w) := by
 obtain ⟨v, lo, wd, bw, ws⟩ := s
 obtain ⟨v2, lo2, wd2, bw2, ws2⟩ := t
 have HS := kide hs
 have HT := kide ht
 have HO := kide ho
 have h1 := hs.1
 have h2 := ht.1
 simp only [] at hsum hA hT h1 h2 ⊢
 obtain ⟨n, hn⟩ : ∃ n, ws.length = n := ⟨_, rfl⟩
 obtain ⟨n2, hn2⟩ : ∃ n, ws2.length = n := ⟨_, rfl⟩
 rw [hn] at hA ⊢
 rw [hn2]
 have HN := kide hn
 have HN2 := kide hn2
 have HNE := kide hne
 have HA0 := kide hA
 have HT0 := kide hT
 clear hs ht ho hn hn2 hne hA hT
 go_enter Try.func41, Try.ntmps41
 have hww : IntKind.i64.wrap (wd + wd2) = wd + wd2 := by rw [IntKind.wrap_i64]; first | omega | (unfold wrap64; omega)
 by_cases hv : v = -1
 ·subst hv
  have hv : (-1 : Int) = -1 := rfl
  have hcs : Hid (wd = bw ∧ rightB bw ws = true ∧ lo = 0 ∧ wd2 = bw2 ∧ rightB bw2 ws2 = true) := by
   have h9 := HO.out
   simp only [oneB, Bool.and_eq_true, decide_eq_true_eq] at h9
   have hv2 : v2 = -1 := h9.1.symm
   rcases HS.out.2.2.2 with h3 | h3
   ·rcases HT.out.2.2.2 with h4 | h4
    ·exact ⟨h3.2.2.1.symm, h3.2.2.2, h3.2.1, h4.2.2.1.symm, h4.2.2.2⟩
    ·have := h4.1; simp only [] at this; omega
   ·have := h3.1; simp only [] at this; omega
  have B4 : Hid (Below w.heap.size w (((w.alloc (Obj.cells #[.int .i64 (-1), .int .i64 lo, .int .i64 (wd + wd2), .int .i64 (wd + wd2), .slice av n ca] 34)).alloc (Obj.cells #[.int .i64 v2, .int .i64 lo2, .int .i64 wd2, .int .i64 bw2, .slice bv n2 cb] 34)).alloc (Obj.cells #[.int .i64 0, .int .i64 0, .int .i64 0, .int .i64 0, .slice none 0 0] 34))) := (((Below.refl _ _).alloc (Nat.le_refl _) _).alloc (by simp) _).alloc (by simp; omega) _
  have X4 : Hid (Bz (((w.alloc (Obj.cells #[.int .i64 (-1), .int .i64 lo, .int .i64 (wd + wd2), .int .i64 (wd + wd2), .slice av n ca] 34)).alloc (Obj.cells #[.int .i64 v2, .int .i64 lo2, .int .i64 wd2, .int .i64 bw2, .slice bv n2 cb] 34)).alloc (Obj.cells #[.int .i64 0, .int .i64 0, .int .i64 0, .int .i64 0, .slice none 0 0] 34)) w.heap.size #[.int .i64 (-1), .int .i64 lo, .int .i64 (wd + wd2), .int .i64 (wd + wd2), .slice av n ca] 34) := ((Bz.new w #[.int .i64 (-1), .int .i64 lo, .int .i64 (wd + wd2), .int .i64 (wd + wd2), .slice av n ca] 34).later (((Below.refl _ _).alloc (Nat.le_refl _) _))).later ((Below.refl _ _).alloc (Nat.le_refl _) _)
  have Y4 : Hid (Bz (((w.alloc (Obj.cells #[.int .i64 (-1), .int .i64 lo, .int .i64 (wd + wd2), .int .i64 (wd + wd2), .slice av n ca] 34)).alloc (Obj.cells #[.int .i64 v2, .int .i64 lo2, .int .i64 wd2, .int .i64 bw2, .slice bv n2 cb] 34)).alloc (Obj.cells #[.int .i64 0, .int .i64 0, .int .i64 0, .int .i64 0, .slice none 0 0] 34)) (w.heap.size + 1) #[.int .i64 v2, .int .i64 lo2, .int .i64 wd2, .int .i64 bw2, .slice bv n2 cb] 34) := by
   have h9 := (Bz.new (w.alloc (Obj.cells #[.int .i64 (-1), .int .i64 lo, .int .i64 (wd + wd2), .int .i64 (wd + wd2), .slice av n ca] 34)) #[.int .i64 v2, .int .i64 lo2, .int .i64 wd2, .int .i64 bw2, .slice bv n2 cb] 34).later ((Below.refl _ _).alloc (Nat.le_refl _) (Obj.cells #[.int .i64 0, .int .i64 0, .int .i64 0, .int .i64 0, .slice none 0 0] 34))
   rw [World.size_alloc] at h9
   exact h9
  have Z4 : Hid (Bz (((w.alloc (Obj.cells #[.int .i64 (-1), .int .i64 lo, .int .i64 (wd + wd2), .int .i64 (wd + wd2), .slice av n ca] 34)).alloc (Obj.cells #[.int .i64 v2, .int .i64 lo2, .int .i64 wd2, .int .i64 bw2, .slice bv n2 cb] 34)).alloc (Obj.cells #[.int .i64 0, .int .i64 0, .int .i64 0, .int .i64 0, .slice none 0 0] 34)) (w.heap.size + 1 + 1) #[.int .i64 0, .int .i64 0, .int .i64 0, .int .i64 0, .slice none 0 0] 34) := by
   have h9 := Bz.new ((w.alloc (Obj.cells #[.int .i64 (-1), .int .i64 lo, .int .i64 (wd + wd2), .int .i64 (wd + wd2), .slice av n ca] 34)).alloc (Obj.cells #[.int .i64 v2, .int .i64 lo2, .int .i64 wd2, .int .i64 bw2, .slice bv n2 cb] 34)) #[.int .i64 0, .int .i64 0, .int .i64 0, .int .i64 0, .slice none 0 0] 34
   rw [World.size_alloc, World.size_alloc] at h9
   exact h9
  have O4 := kide (oww_later HA0.out B4.out)
  have R4 := kide (HT0.out.later B4.out)
  go_wp2_with fail
  obtain ⟨b0, hb0⟩ : ∃ b0, w.heap.size = b0 := ⟨_, rfl⟩
  rw [hb0] at X4 Y4 Z4
  have HB0 := kide hb0
  simp only [hb0]
  clear hb0
  generalize (((w.alloc (Obj.cells #[.int .i64 (-1), .int .i64 lo, .int .i64 (wd + wd2), .int .i64 (wd + wd2), .slice av n ca] 34)).alloc (Obj.cells #[.int .i64 v2, .int .i64 lo2, .int .i64 wd2, .int .i64 bw2, .slice bv n2 cb] 34)).alloc (Obj.cells #[.int .i64 0, .int .i64 0, .int .i64 0, .int .i64 0, .slice none 0 0] 34)) = w4 at *
  obtain ⟨h31, h32, h33, h34, h35⟩ := hcs.out
  have HR1 := kide h32
  have HR2 := kide h35
  subst h31 h34
  have HLO := kide h33
  clear h33 hcs hv
  have hrw := right_W HR1.out
  have hrw2 := right_W HR2.out
  clear h32 h35
  have hn1 : 1 ≤ n := by have := HN.out; omega
  obtain ⟨gA, rfl⟩ : ∃ g, av = some ⟨g, 0, none⟩ := by
   rcases HA0.out.2 with ⟨e, h9⟩ | ⟨g, cap, cur, e, -⟩
   ·have := HN.out; omega
   ·cases e; exact ⟨g, rfl⟩
  obtain ⟨N, hN⟩ : ∃ N : Nat, (wd + wd2 + 63) / 64 = (N : Int) := ⟨((wd + wd2 + 63) / 64).toNat, by omega⟩
  have hnN : n ≤ N := by have := HN.out; omega
  have hN64 : N ≤ 64 := by omega
  have HWF := kide (fun u => wordsFor_any (wd + wd2) (by omega) hsum u)
  rw [hN] at HWF
  have HG0 : Hid (w.grownBy w4 (some gA)) := ⟨B4.out.os, B4.out.tape, B4.out.output, B4.out.size, fun k hk _ => B4.out.block k hk⟩
  go_loopw [] (fun wr => ∃ (k c g : Nat), n ≤ k ∧ k ≤ N ∧ Bz wr b0 #[.int .i64 (-1), .int .i64 lo, .int .i64 (wd + wd2), .int .i64 (wd + wd2), .slice (some ⟨g, 0, none⟩) k c] 34 ∧ OwW wr B (.slice (some ⟨g, 0, none⟩) k c) (ws ++ List.replicate (k - n) 0) ∧ (g = gA ∨ w.heap.size ≤ g) ∧ Bz wr (b0 + 1) #[.int .i64 v2, .int .i64 lo2, .int .i64 wd2, .int .i64 wd2, .slice bv n2 cb] 34 ∧ Bz wr (b0 + 1 + 1) #[.int .i64 0, .int .i64 0, .int .i64 0, .int .i64 0, .slice none 0 0] 34 ∧ w.grownBy wr (some gA)) (fun wr => 64 - lenC wr b0 4)
  case atStart => exact ⟨n, ca, gA, Nat.le_refl _, hnN, X4.out, by rw [Nat.sub_self]; simpa using O4.out, .inl rfl, Y4.out, Z4.out, HG0.out⟩
  case round =>
   clear X4 Y4 Z4 O4 R4 B4 HG0
   obtain ⟨k, c, g, hnk, hkN, hx, ho, hgl, hy, hz, hgr⟩ := hrel
   have XR := kide hx
   have OR := kide ho
   have YR := kide hy
   have ZR := kide hz
   have GR := kide hgr
   have HGL := kide hgl
   have c2 := hx.cell 2
   have c4 := hx.cell 4
   simp at c2 c4
   clear hx ho hy hz hgr hgl
   go_wp2_with fail
   go_quiet ((go_at_call 61; exact Calls.quiet_of_same (HWF.out _)))
   have hbd := below_drewN (Below.refl wr.heap.size wr) nq
   have X5 := kide (XR.out.later hbd)
   have O5 := kide (oww_later OR.out hbd)
   have Y5 := kide (YR.out.later hbd)
   have Z5 := kide (ZR.out.later hbd)
   have G5 : Hid (w.grownBy (wr.drewN nq) (some gA)) := grown_own GR.out (r := none) ⟨hbd.os, hbd.tape, hbd.output, hbd.size, fun k hk _ => hbd.block k hk⟩ (fun k e => by cases e)
   have hlC : lenC wr b0 4 = k := by
    have := XR.out.cell 4
    unfold lenC
    rw [this]
    rfl
   have HLC := kide hlC
   clear hbd OR YR ZR GR hlC c2 c4
   generalize wr.drewN nq = w5 at *
   have d4 := X5.out.cell 4
   have f4 := X5.out.froz 4
   simp at d4
   have hz5 : b0 < w5.heap.size := X5.out.lt
   by_cases hlt : k < N
   ·have i0 : (k : Int) < (N : Int) := by omega
    have BA : Hid (Below w5.heap.size w5 (w5.alloc (Obj.cells #[.int .u64 0] 82))) := (Below.refl _ _).alloc (Nat.le_refl _) _
    have OA := kide (oww_later O5.out BA.out)
    have XA := kide (X5.out.later BA.out)
    have YA := kide (Y5.out.later BA.out)
    have ZA := kide (Z5.out.later BA.out)
    have GA : Hid (w.grownBy (w5.alloc (Obj.cells #[.int .u64 0] 82)) (some gA)) := grown_own G5.out (World.grownBy_alloc _ _ none) (fun k e => by cases e)
    obtain ⟨zs, hzs⟩ : ∃ zs, ws ++ List.replicate (k - n) 0 = zs := ⟨_, rfl⟩
    have hzl : zs.length = k := by rw [← hzs, List.length_append, HN.out]; simp; omega
    have hll : zs.length ≤ 1073741824 := by omega
    rw [hzs] at OA
    have HZS := kide hzs
    have HZL := kide hzl
    clear hzs hzl
    have hsz : B ≤ w5.heap.size + 1 := by have := G5.out.size; omega
    have q0 : (w5.alloc (Obj.cells #[.int .u64 0] 82)).cell? ⟨w5.heap.size, 0, none⟩ = some (.int .u64 ((0 : Nat) : Int)) := by simp
    go_wp2_with (at_builtin; refine wpList_appW1 rfl _ _ rfl B _ zs 0 rfl OA.out _ _ rfl q0 hll (by simpa using hsz) ?_)
    intro g6 c6 w6 ho6 hg6 hl6
    rw [HZL.out] at ho6 ⊢
    have X6 := kide (bz_oww XA.out OA.out (by decide) hg6)
    have Y6 := kide (bz_oww YA.out OA.out (by decide) hg6)
    have Z6 := kide (bz_oww ZA.out OA.out (by decide) hg6)
    have G6 : Hid (w.grownBy w6 (some gA)) := grown_own GA.out hg6 (fun q e => by
     cases e
     rcases HGL.out with h9 | h9
     ·exact .inl (by rw [h9])
     ·exact .inr h9)
    have O6 : Hid (OwW w6 B (.slice (some ⟨g6, 0, none⟩) (k + 1) c6) (ws ++ List.replicate (k + 1 - n) 0)) := by
     show OwW _ _ _ _
     rw [show k + 1 - n = k - n + 1 by omega, List.replicate_succ', ← List.append_assoc, HZS.out]
     exact ho6
    have L6 : Hid (g6 = gA ∨ w.heap.size ≤ g6) := by
     rcases hl6 with h9 | h9
     ·cases h9; exact HGL.out
     ·right; rw [h9]; have := G5.out.size; simp; omega
    have e4 := X6.out.cell 4
    have e5 := X6.out.froz 4
    simp at e4
    clear ho6 hg6 hl6 OA XA YA ZA GA BA q0 hll
    go_wp2_with fail
    have X7 := kide (X6.out.set 4 (.slice (some ⟨g6, 0, none⟩) (k + 1) c6))
    go_roundw
    case rel => exact ⟨k + 1, c6, g6, by omega, by omega, X7.out, oww_set O6.out X6.out (by decide) _, L6.out, Y6.out.other (by omega) 4 _, Z6.out.other (by omega) 4 _, grown_own G6.out (gsc3 w6 ⟨b0, 4, none⟩ _) (fun q e => by cases e; right; rw [HB0.out]; exact Nat.le_refl _)⟩
    case measure =>
     have h9 : lenC (w6.setCell ⟨b0, 4, none⟩ (.slice (some ⟨g6, 0, none⟩) (k + 1) c6)) b0 4 = k + 1 := by
      have := X7.out.cell 4
      unfold lenC
      rw [this]
      rfl
     have h8 := HLC.out
     rw [h9, h8]
     omega
   ·obtain rfl : k = N := by omega
    have d0 := X5.out.cell 0
    have d1 := X5.out.cell 1
    have d2 := X5.out.cell 2
    have d3 := X5.out.cell 3
    have y3 := Y5.out.cell 3
    have y4 := Y5.out.cell 4
    simp at d0 d1 d2 d3 y3 y4
    have i0 : ¬ (k : Int) < (k : Int) := by omega
    obtain ⟨zs, hzs⟩ : ∃ zs, ws ++ List.replicate (k - n) 0 = zs := ⟨_, rfl⟩
    have hzl : zs.length = k := by rw [← hzs, List.length_append, HN.out]; simp; omega
    have hws : ∀ x ∈ ws, x < 18446744073709551616 := HS.out.2.2.1
    have hws2 : ∀ x ∈ ws2, x < 18446744073709551616 := HT.out.2.2.1
    obtain ⟨D, hD⟩ : ∃ D : Nat, wd = (D : Int) := ⟨wd.toNat, by omega⟩
    obtain ⟨E, hE⟩ : ∃ E : Nat, wd2 = (E : Int) := ⟨wd2.toNat, by omega⟩
    have hr1 : rightB (D : Int) ws = true := by rw [← hD]; exact HR1.out
    have hr2 : rightB (E : Int) ws2 = true := by rw [← hE]; exact HR2.out
    have hlen : (ws ++ List.replicate (k - n) 0).length = (D + E + 63) / 64 := by rw [hzs, hzl]; omega
    have hpj := put_joined (m := k - n) hr1 hr2 hws hws2 hlen
    rw [hzs] at hpj hlen O5
    have hq : ∀ p, bv = some p → p.block ≠ gA ∧ p.block < w.heap.size := fun p hp => by
     refine ⟨fun e => HNE.out _ p rfl hp e.symm, ?_⟩
     subst hp
     rcases HT0.out.2.2 with h9 | ⟨b, o, e, hc⟩
     ·have h8 := (right_W HR2.out).2.2; rw [h9] at h8; simp at h8; omega
     ·cases e; exact block_lt_of_cell (hc 0 (by have h8 := (right_W HR2.out).2.2; omega))
    have hrd : Rd w5 bv ws2 := rd_gr HT0.out G5.out (fun p hp e => (hq p hp).1 (by cases e; rfl))
    have hpb := putBitsP_any c (wd + wd2) wd2 g c cb D bv zs ws2 w5 (Owp.ofW O5.out).1 hrd (fun x hx => by
     rw [← hzs] at hx
     rcases List.mem_append.1 hx with h9 | h9
     ·exact hws x h9
     ·have := List.eq_of_mem_replicate h9; omega) (by omega) (by omega) (by have := HN2.out; omega) (put_fit hr2 hws2 D zs.length (by omega)) (fun x hx e => by
     have h8 := hq x hx
     rcases HGL.out with h9 | h9
     ·exact h8.1 (by rw [e, h9])
     ·omega)
    rw [hzl, HN2.out, ← hD] at hpb
    rw [HN2.out] at hpj
    have HPB := kide hpb
    have HPJ := kide hpj
    have HZL := kide hzl
    have hDE := kide (And.intro hD hE)
    clear hzs hzl hws hws2 hD hE hr1 hr2 hlen hpj hq hrd hpb
    go_wp2_with fail
    refine Calls.mono HPB.out ?_
    rintro e w6 ⟨rfl, ho6, hg6⟩
    have X6 := kide (bz_oww X5.out O5.out (by decide) hg6)
    have Z6 := kide (bz_oww Z5.out O5.out (by decide) hg6)
    have O6 : Hid (OwW w6 B (.slice (some ⟨g, 0, none⟩) k c) (pack (bitsTo ws D ++ bitsTo ws2 E))) := by
     show OwW _ _ _ _
     rw [← HPJ.out]
     exact OwW.put O5.out ho6 (putTo_len _ _ _ _ _)
    have G6 : Hid (w.grownBy w6 (some gA)) := grown_own G5.out hg6 (fun q e => by
     cases e
     rcases HGL.out with h9 | h9
     ·exact .inl (by rw [h9])
     ·exact .inr h9)
    have r0 := X6.out.cell 0
    have r1 := X6.out.cell 1
    have r2 := X6.out.cell 2
    have r3 := X6.out.cell 3
    have r4 := X6.out.cell 4
    have z0 := Z6.out.cell 0
    have z1 := Z6.out.cell 1
    have z2 := Z6.out.cell 2
    have z3 := Z6.out.cell 3
    have z4 := Z6.out.cell 4
    have s0 := Z6.out.froz 0
    have s1 := Z6.out.froz 1
    have s2 := Z6.out.froz 2
    have s3 := Z6.out.froz 3
    have s4 := Z6.out.froz 4
    simp at r0 r1 r2 r3 r4 z0 z1 z2 z3 z4
    clear ho6 hg6 d0 d1 d2 d3 d4 y3 y4 f4
    go_wp2_with fail
    have XZ := kide ((((((Z6.out.set 0 (.int .i64 (-1))).set 1 (.int .i64 lo)).set 2 (.int .i64 (wd + wd2))).set 3 (.int .i64 (wd + wd2))).set 4 (.slice (some ⟨g, 0, none⟩) k c)))
    have OZ := kide ((oww_set (i := 4) (oww_set (i := 3) (oww_set (i := 2) (oww_set (i := 1) (oww_set (i := 0) O6.out Z6.out (by decide) (.int .i64 (-1))) (Z6.out.set 0 (.int .i64 (-1))) (by decide) (.int .i64 lo)) ((Z6.out.set 0 (.int .i64 (-1))).set 1 (.int .i64 lo)) (by decide) (.int .i64 (wd + wd2))) (((Z6.out.set 0 (.int .i64 (-1))).set 1 (.int .i64 lo)).set 2 (.int .i64 (wd + wd2))) (by decide) (.int .i64 (wd + wd2))) ((((Z6.out.set 0 (.int .i64 (-1))).set 1 (.int .i64 lo)).set 2 (.int .i64 (wd + wd2))).set 3 (.int .i64 (wd + wd2))) (by decide) (.slice (some ⟨g, 0, none⟩) k c)))
    have GZ := kide ((grown_own (grown_own (grown_own (grown_own (grown_own G6.out (gsc3 w6 ⟨b0 + 1 + 1, 0, none⟩ (.int .i64 (-1))) (fun q e => by cases e; right; have := HB0.out; simp only []; omega)) (gsc3 (w6.setCell ⟨b0 + 1 + 1, 0, none⟩ (.int .i64 (-1))) ⟨b0 + 1 + 1, 1, none⟩ (.int .i64 lo)) (fun q e => by cases e; right; have := HB0.out; simp only []; omega)) (gsc3 ((w6.setCell ⟨b0 + 1 + 1, 0, none⟩ (.int .i64 (-1))).setCell ⟨b0 + 1 + 1, 1, none⟩ (.int .i64 lo)) ⟨b0 + 1 + 1, 2, none⟩ (.int .i64 (wd + wd2))) (fun q e => by cases e; right; have := HB0.out; simp only []; omega)) (gsc3 (((w6.setCell ⟨b0 + 1 + 1, 0, none⟩ (.int .i64 (-1))).setCell ⟨b0 + 1 + 1, 1, none⟩ (.int .i64 lo)).setCell ⟨b0 + 1 + 1, 2, none⟩ (.int .i64 (wd + wd2))) ⟨b0 + 1 + 1, 3, none⟩ (.int .i64 (wd + wd2))) (fun q e => by cases e; right; have := HB0.out; simp only []; omega)) (gsc3 ((((w6.setCell ⟨b0 + 1 + 1, 0, none⟩ (.int .i64 (-1))).setCell ⟨b0 + 1 + 1, 1, none⟩ (.int .i64 lo)).setCell ⟨b0 + 1 + 1, 2, none⟩ (.int .i64 (wd + wd2))).setCell ⟨b0 + 1 + 1, 3, none⟩ (.int .i64 (wd + wd2))) ⟨b0 + 1 + 1, 4, none⟩ (.slice (some ⟨g, 0, none⟩) k c)) (fun q e => by cases e; right; have := HB0.out; simp only []; omega)))
    have k0 := XZ.out.cell 0
    have k1 := XZ.out.cell 1
    have k2 := XZ.out.cell 2
    have k3 := XZ.out.cell 3
    have k4 := XZ.out.cell 4
    simp at k0 k1 k2 k3 k4
    have e2 : oneS ⟨-1, lo, wd, wd, ws⟩ ⟨v2, lo2, wd2, wd2, ws2⟩ = ⟨-1, 0, wd + wd2, wd + wd2, pack (bitsTo ws D ++ bitsTo ws2 E)⟩ := by
     obtain ⟨h8, h9⟩ := hDE.out
     unfold oneS
     rw [if_pos rfl, h8, h9]
     simp
    exact bodyPost_ret (v := .agg #[.int .i64 (-1), .int .i64 lo, .int .i64 (wd + wd2), .int .i64 (wd + wd2), .slice (some ⟨g, 0, none⟩) k c]) (by simp [results, Try.results41, go_sem, k0, k1, k2, k3, k4]) rfl ⟨.slice (some ⟨g, 0, none⟩) k c, by rw [e2, HLO.out], by rw [e2]; exact OZ.out, fun q e => by
     cases e
     rcases HGL.out with h9 | h9
     ·exact .inl (by rw [h9]; rfl)
     ·exact .inr h9, GZ.out⟩
 ·have e1 : (v == -1) = false := by simp [hv]
  have e2 : oneS ⟨v, lo, wd, bw, ws⟩ ⟨v2, lo2, wd2, bw2, ws2⟩ = ⟨v, lo, wd + wd2, 0, []⟩ := if_neg hv
  have e3 : bw = 0 ∧ ws = [] := by
   rcases HS.out.2.2.2 with h3 | h3
   ·exact absurd h3.1 hv
   ·exact h3.2
  obtain ⟨rfl, rfl⟩ := e3
  have HE2 := kide e2
  clear e2
  go_wp2_with fail
  refine bodyPost_ret (v := .agg #[.int .i64 v, .int .i64 lo, .int .i64 (wd + wd2), .int .i64 0, .slice av n ca]) (by simp [results, Try.results41, go_sem]) rfl ⟨.slice av n ca, by rw [HE2.out], ?_, fun k hk => .inl hk, ?_⟩
  ·rw [HE2.out]
   exact oww_later HA0.out ((((Below.refl _ _).alloc (Nat.le_refl _) _).alloc (by simp) _).alloc (by simp; omega) _)
  ·exact World.grownBy.trans (World.grownBy.trans (World.grownBy_alloc _ _ _) (World.grownBy_alloc _ _ _)) (World.grownBy_alloc _ _ _)

theorem oww_low {w : World} {B B' : Nat} {v : Value} {l : List Nat} (h : OwW w B v l) (hB : B' ≤ B) : OwW w B' v l := by
 obtain ⟨h1, h2⟩ := h
 refine ⟨h1, ?_⟩
 rcases h2 with h2 | ⟨g, cap, cur, rfl, hg, hh, r⟩
 ·exact .inl h2
 ·exact .inr ⟨g, cap, cur, rfl, by omega, hh, r⟩
set_option maxHeartbeats 4000000 in
set_option maxRecDepth 100000 in
theorem copyO (bw : Int) (wa : Option Addr) (c n : Nat) (ws : List Nat) (w : World) (hr : Rd w wa ws) (hn : ws.length = n) (hw0 : wa = none → c = 0) :
  Calls Try.prog 39 #[.agg #[.int .i64 bw, .slice wa n c]] w fun e w' => ∃ a2 c2, e = .returned (.agg #[.int .i64 bw, .slice a2 n c2]) ∧ OwW w' w.heap.size (.slice a2 n c2) ws ∧ Below w.heap.size w w' := by
 have hb2 : Below w.heap.size w ((w.alloc (Obj.cells #[.int .i64 bw, .slice wa n c] 32)).alloc (Obj.cells #[.int .i64 0, .slice none 0 0] 32)) := ((Below.refl _ _).alloc (Nat.le_refl _) _).alloc (by simp) _
 have hr2 := hr.later hb2
 have XP := kide (Bz.later (Bz.new w #[.int .i64 bw, .slice wa n c] 32) ((Below.refl _ _).alloc (Nat.le_refl _) (Obj.cells #[.int .i64 0, .slice none 0 0] 32)))
 have XR : Hid (Bz ((w.alloc (Obj.cells #[.int .i64 bw, .slice wa n c] 32)).alloc (Obj.cells #[.int .i64 0, .slice none 0 0] 32)) (w.heap.size + 1) #[.int .i64 0, .slice none 0 0] 32) := by
  have h9 := Bz.new (w.alloc (Obj.cells #[.int .i64 bw, .slice wa n c] 32)) #[.int .i64 0, .slice none 0 0] 32
  rw [show (w.alloc (Obj.cells #[.int .i64 bw, .slice wa n c] 32)).heap.size = w.heap.size + 1 by simp] at h9
  exact h9
 have hlW : Hid (w.heap.size + 2 ≤ ((w.alloc (Obj.cells #[.int .i64 bw, .slice wa n c] 32)).alloc (Obj.cells #[.int .i64 0, .slice none 0 0] 32)).heap.size) := by show _ ≤ _; simp
 have hl := hr2.1
 have HC := kide (fun u (hu : Below w.heap.size w u) => hr.later hu)
 have HN := kide hn
 have BW := kide hb2
 clear hr hr2 hb2
 go_enter Try.func39, Try.ntmps39
 go_wp2_with fail
 generalize ((w.alloc (Obj.cells #[.int .i64 bw, .slice wa n c] 32)).alloc (Obj.cells #[.int .i64 0, .slice none 0 0] 32)) = W at *
 obtain ⟨b0, hb0⟩ : ∃ b0, w.heap.size = b0 := ⟨_, rfl⟩
 rw [hb0] at XP XR hlW
 simp only [hb0]
 have HB0 := kide hb0
 clear hb0
 refine wp_region_x (SA := fun _ => False) (SB := fun uu => uu.cell? ⟨b0, 0, none⟩ = some (Value.int .i64 bw) ∧ uu.cell? ⟨b0, 1, none⟩ = some (Value.slice wa n c)) (k := 999) (by kernel_rfl) ?_
 have hbd : Below W.heap.size W W.drew := (Below.refl _ _).drew
 have XP0 := kide (XP.out.later hbd)
 have XR0 := kide (XR.out.later hbd)
 have hu0 := kide hbd
 clear hbd
 generalize W.drew = u0 at *
 have c0_0 : u0.cell? ⟨b0, 0, none⟩ = some (Value.int .i64 bw) := XP0.out.cell 0
 have c1_0 : u0.cell? ⟨b0, 1, none⟩ = some (Value.slice wa n c) := XP0.out.cell 1
 have hs0 : Hid ((fun uu => uu.cell? ⟨b0, 0, none⟩ = some (Value.int .i64 bw) ∧ uu.cell? ⟨b0, 1, none⟩ = some (Value.slice wa n c)) u0) := ⟨c0_0, c1_0⟩
 try go_simp
 refine tkB (T := (fun _ => True)) (i := 0) (v := Value.pointer (some ⟨b0, 0, none⟩)) rfl (by kernel_rfl) (fun _ _ _ h => by first | exact h | exact h.elim) (fun _ _ => trivial) (fun _ _ => trivial) (Sx.behind (by kernel_rfl) hs0.out) (Or.inl ⟨by rfl, fun uu hu => by go_simp⟩) ?_
 try go_simp
 refine tkB (T := (fun uu => uu.cell? ⟨b0, 0, none⟩ = some (Value.int .i64 bw) ∧ uu.cell? ⟨b0, 1, none⟩ = some (Value.slice wa n c))) (i := 1) (v := Value.int .i64 bw) rfl (by kernel_rfl) (fun _ _ _ h => by first | exact h | exact h.elim) (fun _ h => h.elim) (fun _ h => h) (Sx.behind (by kernel_rfl) hs0.out) (Or.inl ⟨by rfl, fun uu hu => by obtain ⟨e0, e1⟩ := hu; go_simp⟩) ?_
 try go_simp
 refine tkB (T := (fun _ => True)) (i := 2) (v := Value.pointer (some ⟨b0, 1, none⟩)) rfl (by kernel_rfl) (fun _ _ _ h => by first | exact h | exact h.elim) (fun _ _ => trivial) (fun _ _ => trivial) (Sx.behind (by kernel_rfl) hs0.out) (Or.inl ⟨by rfl, fun uu hu => by go_simp⟩) ?_
 try go_simp
 refine tkB (T := (fun uu => uu.cell? ⟨b0, 0, none⟩ = some (Value.int .i64 bw) ∧ uu.cell? ⟨b0, 1, none⟩ = some (Value.slice wa n c))) (i := 3) (v := Value.slice wa n c) rfl (by kernel_rfl) (fun _ _ _ h => by first | exact h | exact h.elim) (fun _ h => h.elim) (fun _ h => h) (Sx.behind (by kernel_rfl) hs0.out) (Or.inl ⟨by rfl, fun uu hu => by obtain ⟨e0, e1⟩ := hu; go_simp⟩) ?_
 try go_simp
 refine wpAnyX_ready (rs := [4]) (by kernel_rfl) (by simp) (AllX.cons rfl (fun K hK => ?_) AllX.nil)
 refine step_appWr _ rfl _ _ rfl W.heap.size (.slice none 0 0) [] ws (by first | rfl | simp [Act.eval]) (OwW.nils _ _) wa c (by rw [HN.out]; first | rfl | simp [Act.eval]) hw0 (HC.out _ (BW.out.trans (hu0.out.mono BW.out.size))) (by simp; omega) hu0.out.size ?_
 intro v5 u1 how hgr
 obtain ⟨a5, c5, rfl, hn5⟩ := how.shape
 have hbg : Below W.heap.size u0 u1 := Below.grown (Below.refl _ _) hgr hu0.out.size (fun j hj => by cases hj)
 have NN1 := kide how
 have XP1 : Hid (Bz u1 b0 #[.int .i64 bw, .slice wa n c] 32) := (hbg.block b0 (by have := hlW.out; omega)).trans XP0.out
 have XR1 : Hid (Bz u1 (b0 + 1) #[.int .i64 0, .slice none 0 0] 32) := (hbg.block (b0 + 1) (by have := hlW.out; omega)).trans XR0.out
 have hu1 := kide (hu0.out.trans hbg)
 rw [List.nil_append, HN.out]
 rw [List.nil_append, HN.out] at NN1
 clear how hgr hbg hn5
 have c0_1 : u1.cell? ⟨b0, 0, none⟩ = some (Value.int .i64 bw) := XP1.out.cell 0
 have c1_1 : u1.cell? ⟨b0, 1, none⟩ = some (Value.slice wa n c) := XP1.out.cell 1
 have hs1 : Hid ((fun uu => uu.cell? ⟨b0, 0, none⟩ = some (Value.int .i64 bw) ∧ uu.cell? ⟨b0, 1, none⟩ = some (Value.slice wa n c)) u1) := ⟨c0_1, c1_1⟩
 refine hK _ _ (Sx.behind (by kernel_rfl) hs1.out) ?_
 clear hK K
 try go_simp
 refine tkB (T := (fun _ => True)) (i := 5) (v := Value.agg #[.int .i64 bw, .slice a5 n c5]) rfl (by kernel_rfl) (fun _ _ _ h => by first | exact h | exact h.elim) (fun _ _ => trivial) (fun _ _ => trivial) (Sx.behind (by kernel_rfl) hs1.out) (Or.inl ⟨by rfl, fun uu hu => by go_simp⟩) ?_
 try go_simp
 refine wpAnyX_ready (rs := [6]) (by kernel_rfl) (by simp) (AllX.cons rfl (fun K hK => ?_) AllX.nil)
 have e0 : u1.cell? ⟨b0 + 1, 0, none⟩ = some (Value.int .i64 0) := XR1.out.cell 0
 have e1 : u1.cell? ⟨b0 + 1, 1, none⟩ = some (Value.slice none 0 0) := XR1.out.cell 1
 have f0 := XR1.out.froz 0
 have f1 := XR1.out.froz 1
 go_simp
 have XR2 : Hid (Bz ((u1.setCell ⟨b0 + 1, 0, none⟩ (Value.int .i64 bw)).setCell ⟨b0 + 1, 1, none⟩ (Value.slice a5 n c5)) (b0 + 1) #[.int .i64 bw, .slice a5 n c5] 32) := (XR1.out.set 0 _).set 1 _
 have XP2 : Hid (Bz ((u1.setCell ⟨b0 + 1, 0, none⟩ (Value.int .i64 bw)).setCell ⟨b0 + 1, 1, none⟩ (Value.slice a5 n c5)) b0 #[.int .i64 bw, .slice wa n c] 32) := (XP1.out.other (by omega) 0 _).other (by omega) 1 _
 have NN2 : Hid (OwW ((u1.setCell ⟨b0 + 1, 0, none⟩ (Value.int .i64 bw)).setCell ⟨b0 + 1, 1, none⟩ (Value.slice a5 n c5)) W.heap.size (.slice a5 n c5) ws) := oww_set (i := 1) (oww_set (i := 0) NN1.out XR1.out (by decide) _) (XR1.out.set 0 (Value.int .i64 bw)) (by decide) _
 have BB2 : Hid (Below w.heap.size w ((u1.setCell ⟨b0 + 1, 0, none⟩ (Value.int .i64 bw)).setCell ⟨b0 + 1, 1, none⟩ (Value.slice a5 n c5))) := ((BW.out.trans (hu1.out.mono BW.out.size)).setCell (by rw [HB0.out]; exact Nat.le_succ _) _).setCell (by rw [HB0.out]; exact Nat.le_succ _) _
 clear e0 e1 f0 f1
 generalize (u1.setCell ⟨b0 + 1, 0, none⟩ (Value.int .i64 bw)).setCell ⟨b0 + 1, 1, none⟩ (Value.slice a5 n c5) = u2 at *
 have c0_2 : u2.cell? ⟨b0, 0, none⟩ = some (Value.int .i64 bw) := XP2.out.cell 0
 have c1_2 : u2.cell? ⟨b0, 1, none⟩ = some (Value.slice wa n c) := XP2.out.cell 1
 have hs2 : Hid ((fun uu => uu.cell? ⟨b0, 0, none⟩ = some (Value.int .i64 bw) ∧ uu.cell? ⟨b0, 1, none⟩ = some (Value.slice wa n c)) u2) := ⟨c0_2, c1_2⟩
 refine hK _ _ (Sx.behind (by kernel_rfl) hs2.out) ?_
 clear hK K
 try go_simp
 refine wpAnyX_done (by kernel_rfl) ?_ _
 go_wp2_with fail
 have y0 : u2.cell? ⟨b0 + 1, 0, none⟩ = some (Value.int .i64 bw) := XR2.out.cell 0
 have y1 : u2.cell? ⟨b0 + 1, 1, none⟩ = some (Value.slice a5 n c5) := XR2.out.cell 1
 exact bodyPost_ret (v := Value.agg #[.int .i64 bw, .slice a5 n c5]) (by simp [results, Try.results39, go_sem, y0, y1]) rfl ⟨a5, c5, rfl, oww_low NN2.out (by have := hlW.out; have := HB0.out; omega), BB2.out⟩

def setK (us : List Bool) (ks : List Int) : List Bool := ks.foldl (fun u k => u.set k.toNat true) us
theorem setK_get (ks : List Int) : ∀ (us : List Bool) (j : Nat), j < us.length → ((setK us ks).getD j false = true ↔ us.getD j false = true ∨ ∃ k ∈ ks, k.toNat = j) := by
 induction ks with
 | nil => intro us j hj; simp [setK]
 | cons k t ih =>
  intro us j hj
  have e : setK us (k :: t) = setK (us.set k.toNat true) t := rfl
  rw [e, ih _ j (by rw [List.length_set]; exact hj)]
  have h2 : (us.set k.toNat true).getD j false = true ↔ us.getD j false = true ∨ k.toNat = j := by
   by_cases hk : k.toNat = j
   ·subst hk
    simp [List.getD, hj]
   ·simp [List.getD, List.getElem?_set_ne hk, hk]
  rw [h2]
  simp only [List.mem_cons, exists_eq_or_imp]
  exact or_assoc
def puStep (ns : List Tc) (us : List Bool) (i : Nat) : List Bool :=
 match ns[i]? with
 | some n => if us.getD i false = true then setK us n.ks else us
 | none => us
def puDn (ns : List Tc) : Nat → List Bool → List Bool
 | 0, us => us
 | i + 1, us => puDn ns i (puStep ns us i)
def usedL (ns : List Tc) (root : Nat) : List Bool := puDn ns ns.length ((List.replicate ns.length false).set root true)
def pkStep (used : List Bool) (i : Nat) (st : List Tc × List Int) (n : Tc) : List Tc × List Int :=
 if used.getD i false = true then (st.1 ++ [mvT st.2 n], st.2.set i (st.1.length : Int)) else st
def pkTo (ns : List Tc) (used : List Bool) : Nat → List Tc × List Int
 | 0 => ([], List.replicate ns.length 0)
 | k + 1 => match ns[k]? with
  | some n => pkStep used k (pkTo ns used k) n
  | none => pkTo ns used k
theorem pkTo_succ {ns : List Tc} {used : List Bool} {k : Nat} {n : Tc} (h : ns[k]? = some n) : pkTo ns used (k + 1) = pkStep used k (pkTo ns used k) n := by
 rw [pkTo, h]
def prR (ns : List Tc) (root : Nat) : List Tc := (pkTo ns (usedL ns root) ns.length).1
def htN (hs : List Nat) (ks : List Int) : Nat := 1 + (ks.map fun k => hs.getD k.toNat 0).foldr max 0
def htL (ns : List Tc) : Nat → List Nat
 | 0 => []
 | k + 1 => match ns[k]? with
  | some n => htL ns k ++ [htN (htL ns k) n.ks]
  | none => htL ns k
def hs (ns : List Tc) : List Nat := htL ns ns.length
def bls (us : List Bool) : Array Value := (us.map Value.bool).toArray
theorem bls_get (us : List Bool) (i : Nat) (h : i < us.length) : (bls us)[i]? = some (.bool (us.getD i false)) := by simp [bls, List.getD, h]
theorem bls_set (us : List Bool) (i : Nat) (x : Bool) : (bls us).setIfInBounds i (.bool x) = bls (us.set i x) := by
 simp [bls, List.setIfInBounds_toArray, List.map_set]
theorem bls_made (n : Nat) : madeCells #[.bool false] n = bls (List.replicate n false) := by
 apply Array.toList_inj.1
 rw [toList_madeCells_one]
 simp [bls]
theorem ot_low {w : World} {B B' : Nat} {v : Value} {l : List Tg} (h : OT w B v l) (hB : B' ≤ B) : OT w B' v l := by
 refine ⟨h.1, ?_⟩
 rcases h.2 with h0 | ⟨g, cap, cur, rfl, hg, r⟩
 ·exact .inl h0
 ·exact .inr ⟨g, cap, cur, rfl, Nat.le_trans hB hg, r⟩
theorem nw_low {w : World} {B B' : Nat} {a : Option Addr} {xs : List Nat} (h : Nw w B a xs) (hB : B' ≤ B) : Nw w B' a xs := h.mono hB
theorem ni_low {w : World} {B B' : Nat} {a : Option Addr} {xs : List Int} (h : Ni w B a xs) (hB : B' ≤ B) : Ni w B' a xs := h.mono hB

structure PuM (w wr : World) (U P n : Nat) (us : List Bool) (to : List Int) : Prop where
 fl : Bz wr U (bls us) 4
 ul : us.length = n
 nt : Bz wr P (i64s to) 2
 tl : to.length = n
 bl : Below w.heap.size w wr
 UP : w.heap.size ≤ U ∧ w.heap.size ≤ P
theorem PuM.later {w wr wr' : World} {U P n : Nat} {us : List Bool} {to : List Int} (h : PuM w wr U P n us to) (hb : Below wr.heap.size wr wr') : PuM w wr' U P n us to :=
 ⟨h.fl.later hb, h.ul, h.nt.later hb, h.tl, h.bl.trans (hb.mono h.bl.size), h.UP⟩
theorem PuM.mark {w wr : World} {U P n : Nat} {us : List Bool} {to : List Int} (h : PuM w wr U P n us to) (j : Nat) : PuM w (wr.setCell ⟨U, j, none⟩ (.bool true)) U P n (us.set j true) to := by
 refine ⟨by rw [← bls_set]; exact h.fl.set j _, by rw [List.length_set]; exact h.ul, h.nt.other (fun e => ?_) j _, h.tl, h.bl.setCell h.UP.1 _, h.UP⟩
 have h1 := h.fl
 have h2 := h.nt
 unfold Bz at h1 h2
 rw [e, h1] at h2
 simp at h2
theorem PuM.cell {w wr : World} {U P n : Nat} {us : List Bool} {to : List Int} (h : PuM w wr U P n us to) {j : Nat} (hj : j < n) : wr.cell? ⟨U, j, none⟩ = some (.bool (us.getD j false)) ∧ wr.frozen? ⟨U, j, none⟩ = false := ⟨by rw [h.fl.cell, bls_get _ _ (by rw [h.ul]; exact hj)], h.fl.froz j⟩
theorem setK_take {us : List Bool} {ks : List Int} {t : Nat} {k : Int} (h : ks[t]? = some k) : setK us (ks.take (t + 1)) = (setK us (ks.take t)).set k.toNat true := by
 unfold setK
 rw [List.take_add_one, h, List.foldl_append]
 rfl
theorem OI.cell9 {w : World} {B g n c : Nat} {l : List Int} (h : OI w B (.slice (some ⟨g, 0, none⟩) n c) l) {i : Nat} (hi : i < l.length) : w.cell? ⟨g, i, none⟩ = some (.int .i64 (l.getD i 0)) := by
 rcases h.2 with ⟨e, -⟩ | ⟨g', cap, cur, e, hg, hh, hc1, hc2, hsz, hcur⟩
 ·cases e
 ·cases e
  have h3 : (cur.toList.take (l.length * 1))[i]? = (i64s l).toList[i]? := by rw [hcur]
  rw [List.getElem?_take, if_pos (by omega)] at h3
  simp only [Array.getElem?_toList] at h3
  rw [cell_of_row w _ i cur _ _ hh, h3, i64s_get _ _ hi]
theorem OI.froz9 {w : World} {B g n c : Nat} {l : List Int} (h : OI w B (.slice (some ⟨g, 0, none⟩) n c) l) (i : Nat) : w.frozen? ⟨g, i, none⟩ = false := by
 rcases h.2 with ⟨e, -⟩ | ⟨g', cap, cur, e, hg, hh, hc1, hc2, hsz, hcur⟩
 ·cases e
 ·cases e
  exact frozen_of_row w _ i _ _ hh
theorem OI.set9 {w : World} {B g n c : Nat} {l : List Int} (h : OI w B (.slice (some ⟨g, 0, none⟩) n c) l) {i : Nat} (hi : i < l.length) (x : Int) : OI (w.setCell ⟨g, i, none⟩ (.int .i64 x)) B (.slice (some ⟨g, 0, none⟩) n c) (l.set i x) := by
 rcases h.2 with ⟨e, -⟩ | ⟨g', cap, cur, e, hg, hh, hc1, hc2, hsz, hcur⟩
 ·cases e
 ·cases e
  refine ⟨by simp [i64s], .inr ⟨g, c, cur.setIfInBounds i (.int .i64 x), by simp, hg, heap_setCell_same w g i _ _ _ hh, by simpa using hc1, hc2, by simpa using hsz, ?_⟩⟩
  have e2 : (i64s (l.set i x)).toList = (i64s l).toList.set i (.int .i64 x) := by simp [i64s, List.map_set]
  rw [Array.toList_setIfInBounds, e2, ← hcur, List.take_set]
  simp
theorem OI.of_bz {w : World} {B P n : Nat} {to : List Int} (h : Bz w P (i64s to) 2) (hn : to.length = n) (hP : B ≤ P) (hn2 : n ≤ 1000000) : OI w B (.slice (some ⟨P, 0, none⟩) n n) to := by
 refine ⟨by simp [i64s], .inr ⟨P, n, i64s to, by rw [hn], hP, h, by omega, by unfold maxLen; omega, by simp [i64s, hn], ?_⟩⟩
 rw [List.take_of_length_le (by simp [i64s])]
theorem pkTo_len (ns : List Tc) (us : List Bool) : ∀ k, (pkTo ns us k).1.length ≤ k ∧ (pkTo ns us k).2.length = ns.length
 | 0 => by simp [pkTo]
 | k + 1 => by
  obtain ⟨h1, h2⟩ := pkTo_len ns us k
  rw [pkTo]
  split
  ·unfold pkStep
   split
   ·exact ⟨by simp; omega, by simpa using h2⟩
   ·exact ⟨by omega, h2⟩
  ·exact ⟨by omega, h2⟩
theorem pk_ok {ns : List Tc} {us : List Bool} (hok : ∀ n ∈ ns, okT n) (hl : ns.length ≤ 1000) (hA : Ahd ns) : ∀ k, k ≤ ns.length → ∀ n ∈ (pkTo ns us k).1, okT n := by
 have key : ∀ k, k ≤ ns.length → (∀ n ∈ (pkTo ns us k).1, okT n) ∧ ∀ y ∈ (pkTo ns us k).2, 0 ≤ y ∧ y ≤ 1000 := by
  intro k
  induction k with
  | zero => intro _; exact ⟨by simp [pkTo], fun y hy => by simp [pkTo] at hy; omega⟩
  | succ k ih =>
   intro h
   have hk2 : ns[k]? = some (ns[k]'(by omega)) := List.getElem?_eq_getElem (by omega)
   obtain ⟨i1, i2⟩ := ih (by omega)
   have hpl := pkTo_len ns us k
   rw [pkTo_succ hk2]
   have hm : ns[k]'(by omega) ∈ ns := List.getElem_mem _
   have hkid := hA k _ hk2
   generalize ns[k]'(by omega) = n at hm hkid
   generalize pkTo ns us k = st at i1 i2 hpl
   unfold pkStep
   split
   ·refine ⟨fun m hm' => ?_, fun y hy => ?_⟩
    ·rcases List.mem_append.1 hm' with h9 | h9
     ·exact i1 m h9
     ·simp at h9
      subst h9
      obtain ⟨k1, k2, k3, k4, k5, k6, k7, k8, k9⟩ := hok n hm
      refine ⟨k1, k2, k3, k4, k5, k6, k7, by simpa [mvT] using k8, fun y hy => ?_⟩
      obtain ⟨q, hq, rfl⟩ := List.mem_map.1 hy
      have h8 := hkid q hq
      have := i2 _ (gD_lt (l := st.2) (i := q.toNat) (by omega))
      exact ⟨by omega, by omega⟩
    ·rcases List.mem_or_eq_of_mem_set hy with h9 | h9
     ·exact i2 y h9
     ·subst h9
      omega
   ·exact ⟨i1, i2⟩
 exact fun k h => (key k h).1

theorem make_bytes (n : Nat) (hn : n ≤ 1048576) (kl kc : IntKind) (w : World) :
  (Instr.makeSlice 22 (.int kl (n : Int)) (.int kc (n : Int))).run Try.prog w = .ok (.slice (some ⟨w.heap.size, 0, none⟩) n n) (w.alloc (.cells (madeCells #[.int .u8 0] n) 5)) := by
 obtain ⟨i0, hi, hz0, hz1, hz2⟩ := info_parts (show (Try.prog.info? 5).map (fun i => (i.zero, i.size, i.bytes)) = some (some (.int .u8 0), 1, 1) by kernel_rfl)
 have := run_make (P := Try.prog) w 22 5 i0 _ Try.underlying22 hi hz0 kl kc n n (by omega) (Int.le_refl _) (by rw [hz2]; omega) (by omega)
 rw [hz1, Nat.mul_one] at this
 simp only [Int.toNat_natCast] at this
 exact this
set_option maxHeartbeats 1000000 in
set_option maxRecDepth 100000 in
theorem l5Wide_any (fa : Option Addr) (fc nf : Nat) (xs : List Sg) (w : World) (hr : RdS w fa xs) (hn : xs.length = nf) (h2 : nf ≤ 2001) :
  Calls Try.prog 14 #[.slice fa nf fc] w fun e w' => ∃ b n : Nat, e = .returned (.slice (some ⟨b, 0, none⟩) n n) ∧ n ≤ 20000 ∧ Below w.heap.size w w' := by
 have HR := kide hr
 have HN := kide hn
 clear hr hn
 go_enter Try.func14, Try.ntmps14
 go_wp2_with fail
 go_loopw [3, 4] (fun s i wr => ∃ k S : Nat, k ≤ nf ∧ S ≤ k * 5000 ∧ i = .int .i64 (k : Int) ∧ s = .int .i64 (S : Int) ∧ Below w.heap.size w wr) (fun _ i _ => nf - (intOf i).toNat)
 case atStart => exact ⟨0, 0, Nat.zero_le _, Nat.le_refl _, rfl, rfl, Below.refl _ _⟩
 case round =>
  obtain ⟨k, T, hk, hS, rfl, rfl, hbel⟩ := hrel
  have HB := kide hbel
  have HS := kide hS
  by_cases hlt : k < nf
  ·obtain ⟨-, h | ⟨b1, o1, rfl, hc1⟩⟩ := HR.out.later hbel
   ·have := HN.out; rw [h] at this; simp at this; omega
   obtain ⟨x, gx⟩ : ∃ y, xs[k]? = some y := ⟨xs[k]'(by rw [HN.out]; exact hlt), List.getElem?_eq_getElem _⟩
   obtain ⟨⟨p0, p1, p2, p3, p4⟩, pr, -⟩ := hc1 k x gx
   simp only [Sg.hd] at p2
   generalize x.ct.wd = W at *
   have HIN := kide (fun u => l1In_any W 0 5000 u)
   have i0 : (k : Int) < (nf : Int) := by omega
   have HKL := kide hlt
   have t9 : IntKind.i64.wrap ((k : Int) + 1) = (k : Int) + 1 := by rw [IntKind.wrap_i64]; omega
   clear hc1 gx hbel hS hk hlt pr p0 p1 p3 p4
   by_cases hW : 0 ≤ W ∧ W ≤ 5000
   ·obtain ⟨V, rfl⟩ : ∃ V : Nat, W = (V : Int) := ⟨W.toNat, by omega⟩
    have hs9 : IntKind.i64.wrap ((T : Int) + (V : Int)) = (T : Int) + (V : Int) := by rw [IntKind.wrap_i64]; have := HS.out; have := HKL.out; omega
    have HW := kide hW
    rw [decide_eq_true hW] at HIN
    clear hW
    go_wp2_with fail
    refine Calls.mono (HIN.out wr) ?_
    rintro e w2 ⟨rfl, hw2⟩
    obtain rfl := hw2.symm
    clear hw2
    go_wp2_with fail
    go_roundw
    case rel => exact ⟨k + 1, T + V, HKL.out, by have := HS.out; have := HW.out; omega, by go_num, by go_num, HB.out⟩
    case measure => have := HKL.out; simp only [intOf]; omega
   ·rw [decide_eq_false hW] at HIN
    clear hW
    go_wp2_with fail
    refine Calls.mono (HIN.out wr) ?_
    rintro e w2 ⟨rfl, hw2⟩
    obtain rfl := hw2.symm
    clear hw2
    go_wp2_with fail
    go_roundw
    case rel => exact ⟨k + 1, T, HKL.out, by have := HS.out; omega, by go_num, rfl, HB.out⟩
    case measure => have := HKL.out; simp only [intOf]; omega
  ·have i0 : ¬ (k : Int) < (nf : Int) := by omega
   clear hbel hS hk hlt
   by_cases hT : T ≤ 20000
   ·have hm : min (T : Int) 20000 = (T : Int) := by omega
    have hmk := make_bytes T (by omega)
    have hbx : Below wr.heap.size wr (wr.alloc (.cells (madeCells #[.int .u8 0] T) 5)) := (Below.refl _ _).alloc (Nat.le_refl _) _
    have B9 := kide (HB.out.trans (hbx.mono HB.out.size))
    have HT := kide hT
    have hT2 : (T : Int) ≤ 20000 := by omega
    clear hbx hT HS
    go_wp2_with fail
    go_ret
    exact ⟨_, T, rfl, HT.out, B9.out⟩
   ·have hm : min (T : Int) 20000 = 20000 := by omega
    have hmk : ∀ (kl kc : IntKind) (w : World), (Instr.makeSlice 22 (.int kl 20000) (.int kc 20000)).run Try.prog w = .ok (.slice (some ⟨w.heap.size, 0, none⟩) 20000 20000) (w.alloc (.cells (madeCells #[.int .u8 0] 20000) 5)) := make_bytes 20000 (by omega)
    have hbx : Below wr.heap.size wr (wr.alloc (.cells (madeCells #[.int .u8 0] 20000) 5)) := (Below.refl _ _).alloc (Nat.le_refl _) _
    have B9 := kide (HB.out.trans (hbx.mono HB.out.size))
    have hT2 : ¬ (T : Int) ≤ 20000 := by omega
    clear hbx hT HS
    go_wp2_with fail
    go_ret
    exact ⟨_, 20000, rfl, Nat.le_refl _, B9.out⟩
theorem implFlat_any (a da : Option Addr) (c dc n : Nat) (ds : List Dc) (xs : List Sg) (w : World) (hd : RdD w da ds) (hr : RdS w a xs) (hn : xs.length = n) :
  Calls Try.prog 18 #[.slice da ds.length dc, .slice a n c] w fun e w' => e = .returned (.bool (flatR ds (xs.map Sg.ct))) ∧ Below w.heap.size w w' := by
 have HDC := kide (implDecls_any da dc ds w hd)
 rw [flatR_form]
 cases hD : dclR ds with
 | false =>
  rw [hD] at HDC
  clear hD
  go_enter Try.func18, Try.ntmps18
  go_wp2_with fail
  refine Calls.mono HDC.out ?_
  rintro e w1 ⟨rfl, hb1⟩
  go_wp2_with fail
  go_ret
  exact ⟨rfl, hb1⟩
 | true =>
  rw [hD] at HDC
  have HF := kide (fun u (hu : Below w.heap.size w u) => formOk_any a da c dc n ds xs u (hd.later hu) (hr.later hu) hn hD)
  generalize formR ds (xs.map Sg.ct) = R at *
  clear hD hd hr hn
  go_enter Try.func18, Try.ntmps18
  go_wp2_with fail
  refine Calls.mono HDC.out ?_
  rintro e w1 ⟨rfl, hb1⟩
  have B1 := kide hb1
  clear hb1
  go_wp2_with fail
  refine Calls.mono (HF.out w1 B1.out) ?_
  rintro e w2 ⟨rfl, hb2⟩
  go_wp2_with fail
  go_ret
  exact ⟨ret_bool (by simp), B1.out.trans (hb2.mono B1.out.size)⟩

end Go.Proofs.Ytffcklobignlfaa
